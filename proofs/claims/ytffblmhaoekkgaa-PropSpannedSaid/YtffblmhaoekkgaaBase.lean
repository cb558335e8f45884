/- Common words and small lemmas of the seat's walks: lists of structs in memory, worlds below a number of blocks, sums that fit into an int. -/
import Derived.WalkKit
import Derived.WalkSpells
import Derived.WalkLawsBesides
import Derived.Lib.Hide
namespace Go.Proofs.Ytffblmhaoekkgaa
open Go.RowKit

/-- from -b to b -/
def small (b x : Int) : Prop := -b ≤ x ∧ x ≤ b

theorem mul_small {a b x y : Int} (ha : small a x) (hb : small b y) : small (a * b) (x * y) := by
  obtain ⟨a1, a2⟩ := ha
  obtain ⟨b1, b2⟩ := hb
  have h1 : (x * y).natAbs ≤ (a * b).natAbs := by
    rw [Int.natAbs_mul, Int.natAbs_mul]
    exact Nat.mul_le_mul (by omega) (by omega)
  have h0 : 0 ≤ a := by omega
  have h2 : 0 ≤ b := by omega
  have h3 : 0 ≤ a * b := Int.mul_nonneg h0 h2
  constructor <;> omega

theorem small_mono {a b x : Int} (h : small a x) (hab : a ≤ b) : small b x := ⟨by have := h.1; omega, by have := h.2; omega⟩

/-- what a x + b y comes to: no wrap -/
theorem wrap_val {x y a b : Int} (hx : small 1000 x) (hy : small 1000 y) (ha : small 1000 a) (hb : small 1000 b) : wrap64 (wrap64 (a * x) + wrap64 (b * y)) = a * x + b * y := by
  have h1 := mul_small ha hx
  have h2 := mul_small hb hy
  obtain ⟨h1a, h1b⟩ := h1
  obtain ⟨h2a, h2b⟩ := h2
  rw [IntWalk.wrap64_in (a * x) ⟨by omega, by omega⟩, IntWalk.wrap64_in (b * y) ⟨by omega, by omega⟩, IntWalk.wrap64_in _ ⟨by omega, by omega⟩]

theorem bcell {W w1 : World} (hb : Below W.heap.size W w1) : (∀ b o, b < W.heap.size → w1.cell? ⟨b, o, none⟩ = W.cell? ⟨b, o, none⟩) ∧ (∀ b o, b < W.heap.size → w1.frozen? ⟨b, o, none⟩ = W.frozen? ⟨b, o, none⟩) :=
  ⟨fun b o h => hb.cell (p := ⟨b, o, none⟩) h, fun b o h => hb.frozen (p := ⟨b, o, none⟩) h⟩

theorem al0 {B N : Nat} {a w w1 : World} (h : Below B a w) (k : Below N w w1) (hN : B ≤ N) : Below B a w1 := h.trans (k.mono hN)
theorem al1 {B N : Nat} {a w w1 : World} {o : Obj} (h : Below B a w) (hB : B ≤ w.heap.size) (k : Below N (w.alloc o) w1) (hN : B ≤ N) : Below B a w1 := (h.alloc hB o).trans (k.mono hN)
theorem al2 {B N : Nat} {a w w1 : World} {o o' : Obj} (h : Below B a w) (hB : B ≤ w.heap.size) (k : Below N ((w.alloc o).alloc o') w1) (hN : B ≤ N) : Below B a w1 :=
  ((h.alloc hB o).alloc (by simp; omega) o').trans (k.mono hN)
theorem al3 {B N : Nat} {a w w1 : World} {o o' o'' : Obj} (h : Below B a w) (hB : B ≤ w.heap.size) (k : Below N (((w.alloc o).alloc o').alloc o'') w1) (hN : B ≤ N) : Below B a w1 :=
  (((h.alloc hB o).alloc (by simp; omega) o').alloc (by simp; omega) o'').trans (k.mono hN)
theorem al4 {B N : Nat} {a w w1 : World} {o o' o'' o3 : Obj} (h : Below B a w) (hB : B ≤ w.heap.size) (k : Below N ((((w.alloc o).alloc o').alloc o'').alloc o3) w1) (hN : B ≤ N) : Below B a w1 :=
  ((((h.alloc hB o).alloc (by simp; omega) o').alloc (by simp; omega) o'').alloc (by simp; omega) o3).trans (k.mono hN)

/-- galleries in memory: the slice of this address and length reads as the list -/
def RowG (w : World) (p : Option Addr) (gs : List (Int × Int × Int)) : Prop :=
  gs = [] ∨ ∃ b off, p = some ⟨b, off, none⟩ ∧ b < w.heap.size ∧ ∀ i, i < gs.length →
    w.cell? ⟨b, off + i * 3, none⟩ = some (.int .i64 (gs.getD i (0, 0, 0)).1) ∧ w.cell? ⟨b, off + i * 3 + 1, none⟩ = some (.int .i64 (gs.getD i (0, 0, 0)).2.1) ∧
    w.cell? ⟨b, off + i * 3 + 2, none⟩ = some (.int .i64 (gs.getD i (0, 0, 0)).2.2)

/-- places in memory -/
def RowP (w : World) (p : Option Addr) (ps : List (Int × Int)) : Prop :=
  ps = [] ∨ ∃ b off, p = some ⟨b, off, none⟩ ∧ b < w.heap.size ∧ ∀ i, i < ps.length →
    w.cell? ⟨b, off + i * 2, none⟩ = some (.int .i64 (ps.getD i (0, 0)).1) ∧ w.cell? ⟨b, off + i * 2 + 1, none⟩ = some (.int .i64 (ps.getD i (0, 0)).2)

/-- ints in memory -/
def RowI (w : World) (p : Option Addr) (xs : List Int) : Prop :=
  xs = [] ∨ ∃ b off, p = some ⟨b, off, none⟩ ∧ b < w.heap.size ∧ ∀ i, i < xs.length → w.cell? ⟨b, off + i, none⟩ = some (.int .i64 (xs.getD i 0))

theorem RowG.below {w w' : World} {p : Option Addr} {gs : List (Int × Int × Int)} (h : RowG w p gs) {B : Nat} (hB : w.heap.size ≤ B) (hb : Below B w w') : RowG w' p gs := by
  rcases h with h | ⟨b, off, rfl, hlt, hc⟩
  · exact .inl h
  · refine .inr ⟨b, off, rfl, Nat.lt_of_lt_of_le hlt hb.size, fun i hi => ?_⟩
    have e : ∀ o, w'.cell? ⟨b, o, none⟩ = w.cell? ⟨b, o, none⟩ := fun o => hb.cell (p := ⟨b, o, none⟩) (Nat.lt_of_lt_of_le hlt hB)
    rw [e, e, e]
    exact hc i hi
theorem RowP.below {w w' : World} {p : Option Addr} {gs : List (Int × Int)} (h : RowP w p gs) {B : Nat} (hB : w.heap.size ≤ B) (hb : Below B w w') : RowP w' p gs := by
  rcases h with h | ⟨b, off, rfl, hlt, hc⟩
  · exact .inl h
  · refine .inr ⟨b, off, rfl, Nat.lt_of_lt_of_le hlt hb.size, fun i hi => ?_⟩
    have e : ∀ o, w'.cell? ⟨b, o, none⟩ = w.cell? ⟨b, o, none⟩ := fun o => hb.cell (p := ⟨b, o, none⟩) (Nat.lt_of_lt_of_le hlt hB)
    rw [e, e]
    exact hc i hi
theorem RowI.below {w w' : World} {p : Option Addr} {gs : List Int} (h : RowI w p gs) {B : Nat} (hB : w.heap.size ≤ B) (hb : Below B w w') : RowI w' p gs := by
  rcases h with h | ⟨b, off, rfl, hlt, hc⟩
  · exact .inl h
  · refine .inr ⟨b, off, rfl, Nat.lt_of_lt_of_le hlt hb.size, fun i hi => ?_⟩
    rw [hb.cell (p := ⟨b, off + i, none⟩) (Nat.lt_of_lt_of_le hlt hB)]
    exact hc i hi

/-- the first index of a list at which a test says yes, or -1 -/
def firstIdx {α : Type} (f : α → Bool) : List α → Int
  | [] => -1
  | a :: l => if f a then 0 else if firstIdx f l < 0 then -1 else firstIdx f l + 1

theorem firstIdx_ge {α : Type} (f : α → Bool) : ∀ l : List α, -1 ≤ firstIdx f l
  | [] => by simp [firstIdx]
  | a :: l => by
    have := firstIdx_ge f l
    unfold firstIdx
    split
    · omega
    · split <;> omega

theorem firstIdx_any {α : Type} (f : α → Bool) : ∀ l : List α, decide (0 ≤ firstIdx f l) = l.any f
  | [] => by simp [firstIdx]
  | a :: l => by
    have ih := firstIdx_any f l
    rw [List.any_cons, ← ih, firstIdx]
    by_cases h : f a = true
    · simp [h]
    · by_cases h2 : firstIdx f l < 0
      · rw [if_neg h, if_pos h2, Bool.not_eq_true _ |>.mp h, Bool.false_or]
        simp; omega
      · rw [if_neg h, if_neg h2, Bool.not_eq_true _ |>.mp h, Bool.false_or]
        simp; omega

theorem firstIdx_hit {α : Type} (f : α → Bool) : ∀ (l : List α) (k : Nat) (hk : k < l.length), (l.take k).all (fun a => !f a) = true → f l[k] = true → firstIdx f l = k
  | [], k, hk, _, _ => by simp at hk
  | a :: l, 0, _, _, h => by simp at h; simp [firstIdx, h]
  | a :: l, k + 1, hk, h1, h2 => by
    simp only [List.take_succ_cons, List.all_cons, Bool.and_eq_true, Bool.not_eq_true'] at h1
    have ih := firstIdx_hit f l k (by simpa using hk) h1.2 (by simpa using h2)
    unfold firstIdx
    rw [ih]
    simp [h1.1]
    omega

theorem firstIdx_miss {α : Type} (f : α → Bool) : ∀ (l : List α), l.all (fun a => !f a) = true → firstIdx f l = -1
  | [], _ => rfl
  | a :: l, h => by
    simp only [List.all_cons, Bool.and_eq_true, Bool.not_eq_true'] at h
    unfold firstIdx
    rw [firstIdx_miss f l h.2]
    simp [h.1]

theorem ret_int {k : IntKind} {a b : Int} (h : a = b) : Ending.returned (.int k a) = .returned (.int k b) := by rw [h]
theorem ret_bool {a b : Bool} (h : a = b) : Ending.returned (.bool a) = .returned (.bool b) := by rw [h]

theorem getD_eq {α : Type} (l : List α) (k : Nat) (d : α) (h : k < l.length) : l.getD k d = l[k] := by
  simp [List.getD_eq_getElem?_getD, List.getElem?_eq_getElem h]

theorem all_take_succ {α : Type} (f : α → Bool) (l : List α) (k : Nat) (h : k < l.length) : (l.take (k + 1)).all f = ((l.take k).all f && f l[k]) := by
  rw [List.take_succ_eq_append_getElem h, List.all_append]
  simp
end Go.Proofs.Ytffblmhaoekkgaa
