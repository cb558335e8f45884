/- Common words and small lemmas of the seat's walks: lists of structs in memory, worlds below a number of blocks, sums that fit into an int. -/
import Derived.WalkKit
import Derived.WalkSpells
import Derived.WalkLawsBesides
import Derived.Lib.Hide

namespace Go.Proofs.Ytadamjleglckpaa
open Go.RowKit

/-- from -b to b -/
def small (b x : Int) : Prop := -b ≤ x ∧ x ≤ b

theorem mul_small {a b x y : Int} (ha : small a x) (hb : small b y) : small (a * b) (x * y) := by
  obtain ⟨a1, a2⟩ := ha
  obtain ⟨b1, b2⟩ := hb
  have h1 : (x * y).natAbs ≤ (a * b).natAbs := by
    rw [Int.natAbs_mul, Int.natAbs_mul]
    exact Nat.mul_le_mul (by omega) (by omega)
  have h0 : 0 ≤ a := by omega
  have h2 : 0 ≤ b := by omega
  have h3 : 0 ≤ a * b := Int.mul_nonneg h0 h2
  constructor <;> omega

theorem small_mono {a b x : Int} (h : small a x) (hab : a ≤ b) : small b x := ⟨by have := h.1; omega, by have := h.2; omega⟩

/-- what a x + b y comes to: no wrap -/
theorem wrap_val {x y a b : Int} (hx : small 1000 x) (hy : small 1000 y) (ha : small 1000 a) (hb : small 1000 b) : wrap64 (wrap64 (a * x) + wrap64 (b * y)) = a * x + b * y := by
  have h1 := mul_small ha hx
  have h2 := mul_small hb hy
  obtain ⟨h1a, h1b⟩ := h1
  obtain ⟨h2a, h2b⟩ := h2
  rw [IntWalk.wrap64_in (a * x) ⟨by omega, by omega⟩, IntWalk.wrap64_in (b * y) ⟨by omega, by omega⟩, IntWalk.wrap64_in _ ⟨by omega, by omega⟩]

theorem bcell {W w1 : World} (hb : Below W.heap.size W w1) : (∀ b o, b < W.heap.size → w1.cell? ⟨b, o, none⟩ = W.cell? ⟨b, o, none⟩) ∧ (∀ b o, b < W.heap.size → w1.frozen? ⟨b, o, none⟩ = W.frozen? ⟨b, o, none⟩) :=
  ⟨fun b o h => hb.cell (p := ⟨b, o, none⟩) h, fun b o h => hb.frozen (p := ⟨b, o, none⟩) h⟩

theorem al0 {B N : Nat} {a w w1 : World} (h : Below B a w) (k : Below N w w1) (hN : B ≤ N) : Below B a w1 := h.trans (k.mono hN)
theorem al1 {B N : Nat} {a w w1 : World} {o : Obj} (h : Below B a w) (hB : B ≤ w.heap.size) (k : Below N (w.alloc o) w1) (hN : B ≤ N) : Below B a w1 := (h.alloc hB o).trans (k.mono hN)
theorem al2 {B N : Nat} {a w w1 : World} {o o' : Obj} (h : Below B a w) (hB : B ≤ w.heap.size) (k : Below N ((w.alloc o).alloc o') w1) (hN : B ≤ N) : Below B a w1 :=
  ((h.alloc hB o).alloc (by simp; omega) o').trans (k.mono hN)
theorem al3 {B N : Nat} {a w w1 : World} {o o' o'' : Obj} (h : Below B a w) (hB : B ≤ w.heap.size) (k : Below N (((w.alloc o).alloc o').alloc o'') w1) (hN : B ≤ N) : Below B a w1 :=
  (((h.alloc hB o).alloc (by simp; omega) o').alloc (by simp; omega) o'').trans (k.mono hN)
theorem al4 {B N : Nat} {a w w1 : World} {o o' o'' o3 : Obj} (h : Below B a w) (hB : B ≤ w.heap.size) (k : Below N ((((w.alloc o).alloc o').alloc o'').alloc o3) w1) (hN : B ≤ N) : Below B a w1 :=
  ((((h.alloc hB o).alloc (by simp; omega) o').alloc (by simp; omega) o'').alloc (by simp; omega) o3).trans (k.mono hN)

/-- galleries in memory: the slice of this address and length reads as the list -/
def RowG (w : World) (p : Option Addr) (gs : List (Int × Int × Int)) : Prop :=
  gs = [] ∨ ∃ b off, p = some ⟨b, off, none⟩ ∧ b < w.heap.size ∧ ∀ i, i < gs.length →
    w.cell? ⟨b, off + i * 3, none⟩ = some (.int .i64 (gs.getD i (0, 0, 0)).1) ∧ w.cell? ⟨b, off + i * 3 + 1, none⟩ = some (.int .i64 (gs.getD i (0, 0, 0)).2.1) ∧
    w.cell? ⟨b, off + i * 3 + 2, none⟩ = some (.int .i64 (gs.getD i (0, 0, 0)).2.2)

/-- places in memory -/
def RowP (w : World) (p : Option Addr) (ps : List (Int × Int)) : Prop :=
  ps = [] ∨ ∃ b off, p = some ⟨b, off, none⟩ ∧ b < w.heap.size ∧ ∀ i, i < ps.length →
    w.cell? ⟨b, off + i * 2, none⟩ = some (.int .i64 (ps.getD i (0, 0)).1) ∧ w.cell? ⟨b, off + i * 2 + 1, none⟩ = some (.int .i64 (ps.getD i (0, 0)).2)

/-- ints in memory -/
def RowI (w : World) (p : Option Addr) (xs : List Int) : Prop :=
  xs = [] ∨ ∃ b off, p = some ⟨b, off, none⟩ ∧ b < w.heap.size ∧ ∀ i, i < xs.length → w.cell? ⟨b, off + i, none⟩ = some (.int .i64 (xs.getD i 0))

theorem RowG.below {w w' : World} {p : Option Addr} {gs : List (Int × Int × Int)} (h : RowG w p gs) {B : Nat} (hB : w.heap.size ≤ B) (hb : Below B w w') : RowG w' p gs := by
  rcases h with h | ⟨b, off, rfl, hlt, hc⟩
  · exact .inl h
  · refine .inr ⟨b, off, rfl, Nat.lt_of_lt_of_le hlt hb.size, fun i hi => ?_⟩
    have e : ∀ o, w'.cell? ⟨b, o, none⟩ = w.cell? ⟨b, o, none⟩ := fun o => hb.cell (p := ⟨b, o, none⟩) (Nat.lt_of_lt_of_le hlt hB)
    rw [e, e, e]
    exact hc i hi
theorem RowP.below {w w' : World} {p : Option Addr} {gs : List (Int × Int)} (h : RowP w p gs) {B : Nat} (hB : w.heap.size ≤ B) (hb : Below B w w') : RowP w' p gs := by
  rcases h with h | ⟨b, off, rfl, hlt, hc⟩
  · exact .inl h
  · refine .inr ⟨b, off, rfl, Nat.lt_of_lt_of_le hlt hb.size, fun i hi => ?_⟩
    have e : ∀ o, w'.cell? ⟨b, o, none⟩ = w.cell? ⟨b, o, none⟩ := fun o => hb.cell (p := ⟨b, o, none⟩) (Nat.lt_of_lt_of_le hlt hB)
    rw [e, e]
    exact hc i hi
theorem RowI.below {w w' : World} {p : Option Addr} {gs : List Int} (h : RowI w p gs) {B : Nat} (hB : w.heap.size ≤ B) (hb : Below B w w') : RowI w' p gs := by
  rcases h with h | ⟨b, off, rfl, hlt, hc⟩
  · exact .inl h
  · refine .inr ⟨b, off, rfl, Nat.lt_of_lt_of_le hlt hb.size, fun i hi => ?_⟩
    rw [hb.cell (p := ⟨b, off + i, none⟩) (Nat.lt_of_lt_of_le hlt hB)]
    exact hc i hi

/-- the first index of a list at which a test says yes, or -1 -/
def firstIdx {α : Type} (f : α → Bool) : List α → Int
  | [] => -1
  | a :: l => if f a then 0 else if firstIdx f l < 0 then -1 else firstIdx f l + 1

theorem firstIdx_ge {α : Type} (f : α → Bool) : ∀ l : List α, -1 ≤ firstIdx f l
  | [] => by simp [firstIdx]
  | a :: l => by
    have := firstIdx_ge f l
    unfold firstIdx
    split
    · omega
    · split <;> omega

theorem firstIdx_any {α : Type} (f : α → Bool) : ∀ l : List α, decide (0 ≤ firstIdx f l) = l.any f
  | [] => by simp [firstIdx]
  | a :: l => by
    have ih := firstIdx_any f l
    rw [List.any_cons, ← ih, firstIdx]
    by_cases h : f a = true
    · simp [h]
    · by_cases h2 : firstIdx f l < 0
      · rw [if_neg h, if_pos h2, Bool.not_eq_true _ |>.mp h, Bool.false_or]
        simp; omega
      · rw [if_neg h, if_neg h2, Bool.not_eq_true _ |>.mp h, Bool.false_or]
        simp; omega

theorem firstIdx_hit {α : Type} (f : α → Bool) : ∀ (l : List α) (k : Nat) (hk : k < l.length), (l.take k).all (fun a => !f a) = true → f l[k] = true → firstIdx f l = k
  | [], k, hk, _, _ => by simp at hk
  | a :: l, 0, _, _, h => by simp at h; simp [firstIdx, h]
  | a :: l, k + 1, hk, h1, h2 => by
    simp only [List.take_succ_cons, List.all_cons, Bool.and_eq_true, Bool.not_eq_true'] at h1
    have ih := firstIdx_hit f l k (by simpa using hk) h1.2 (by simpa using h2)
    unfold firstIdx
    rw [ih]
    simp [h1.1]
    omega

theorem firstIdx_miss {α : Type} (f : α → Bool) : ∀ (l : List α), l.all (fun a => !f a) = true → firstIdx f l = -1
  | [], _ => rfl
  | a :: l, h => by
    simp only [List.all_cons, Bool.and_eq_true, Bool.not_eq_true'] at h
    unfold firstIdx
    rw [firstIdx_miss f l h.2]
    simp [h.1]

theorem ret_int {k : IntKind} {a b : Int} (h : a = b) : Ending.returned (.int k a) = .returned (.int k b) := by rw [h]
theorem ret_bool {a b : Bool} (h : a = b) : Ending.returned (.bool a) = .returned (.bool b) := by rw [h]

theorem getD_eq {α : Type} (l : List α) (k : Nat) (d : α) (h : k < l.length) : l.getD k d = l[k] := by
  simp [List.getD_eq_getElem?_getD, List.getElem?_eq_getElem h]

theorem all_take_succ {α : Type} (f : α → Bool) (l : List α) (k : Nat) (h : k < l.length) : (l.take (k + 1)).all f = ((l.take k).all f && f l[k]) := by
  rw [List.take_succ_eq_append_getElem h, List.all_append]
  simp
end Go.Proofs.Ytadamjleglckpaa

/- Package drain: what its functions answer, as plain functions over numbers and lists (no walk, no seat's numbers); the chapter's examples. -/
namespace Go.Proofs.Ytadamjleglckpaa.drn
/-- a channel: from, to, cost -/
abbrev Ch := Int × Int × Int
def isGal (n g : Int) : Bool := decide (0 ≤ g) && decide (g < n)
/-- the error of a channel -/
def chErr (n : Int) (c : Ch) : Int :=
  if !isGal n c.1 || (!isGal n c.2.1 && c.2.1 != n) then 2 else if c.1 == c.2.1 then 13 else if decide (c.2.2 < 0) || decide (20 < c.2.2) then 1 else 0
/-- the first error of channels, behind some that have none -/
def csErr (n : Int) : List Ch → List Ch → Int
  | _, [] => 0
  | s, c :: r => if chErr n c ≠ 0 then chErr n c else if s.any (fun d => d.1 == c.1 && d.2.1 == c.2.1) then 6 else csErr n (s ++ [c]) r
def errD (n : Int) (cs : List Ch) : Int := if n < 1 ∨ 6 < n then 1 else if 14 < cs.length then 3 else csErr n [] cs

/-! groups are numbers: bit g for gallery g -/
def inS (s : Nat) (g : Int) : Bool := decide (0 ≤ g) && s.testBit g.toNat
def leavesS (s : Nat) (c : Ch) : Bool := inS s c.1 && !inS s c.2.1
def leavingS (cs : List Ch) (s : Nat) : List Int := ((List.range cs.length).filter fun i => leavesS s (cs.getD i (0, 0, 0))).map fun i : Nat => (i : Int)
def listS (s : Nat) : List Int := ((List.range 6).filter fun i => s.testBit i).map fun i : Nat => (i : Int)
def sizeS (s : Nat) : Nat := ((List.range 6).filter fun i => s.testBit i).length
def allS (n : Nat) : Nat := 2 ^ n - 1
def setS (l : List Int) : Nat := l.foldl (fun s g => s ||| 1 <<< g.toNat) 0
/-- one round of drained: channels in their order -/
def wetStep (n : Nat) (cs : List Ch) (done : Nat) : Nat := cs.foldl (fun d c => if c.2.1 == (n : Int) || inS d c.2.1 then d ||| 1 <<< c.1.toNat else d) done
def wetTo (n : Nat) (cs : List Ch) : Nat → Nat → Nat
  | 0, d => d
  | k + 1, d => wetTo n cs k (wetStep n cs d)
/-- the galleries from which a way leads to the mouth -/
def wetS (n : Nat) (cs : List Ch) : Nat := wetTo n cs 7 0
/-- all groups of k galleries from one number on, in ascending order of their lists -/
def groupsS : Nat → Nat → List Nat
  | 0, _ => []
  | k + 1, i => (1 <<< i) :: (groupsS k (i + 1)).map (1 <<< i ||| ·) ++ groupsS k (i + 1)
/-- the first of those with the least number -/
def firstMin {α : Type} (f : α → Nat) : List α → Option α
  | [] => none
  | x :: r => match firstMin f r with
    | none => some x
    | some y => if f y < f x then some y else some x

def stuckOf (n : Nat) (cs : List Ch) : List Int × Int := if errD n cs ≠ 0 then ([], errD n cs) else (listS (allS n - (allS n &&& wetS n cs)), 0)
def trapOf (n : Nat) (cs : List Ch) : List Int × Int :=
  if errD n cs ≠ 0 then ([], errD n cs) else match firstMin sizeS ((groupsS n 0).filter fun s => (leavingS cs s).length == 0) with
    | none => ([], 13)
    | some s => (listS s, 0)
/-- is a number not greater than the one before it? -/
def notUp : Option Int → Int → Bool
  | some x, i => decide (i ≤ x)
  | none, _ => false
def groupErr (n : Int) : Option Int → List Int → Int
  | _, [] => 0
  | b, g :: r => if !isGal n g then 2 else if notUp b g then 7 else groupErr n (some g) r
def grErr (n : Int) (l : List Int) : Int := if l.length = 0 then 4 else groupErr n none l
def leavesOf (n : Nat) (cs : List Ch) (l : List Int) : List Int × Int := if errD n cs ≠ 0 then ([], errD n cs) else if grErr n l ≠ 0 then ([], grErr n l) else (leavingS cs (setS l), 0)
def narrowOf (n : Nat) (cs : List Ch) : List Int × Int × Int :=
  if errD n cs ≠ 0 then ([], 0, errD n cs) else match firstMin (fun s => (leavingS cs s).length) (groupsS n 0) with
    | none => ([], 0, 0)
    | some s => (listS s, (leavingS cs s).length, 0)

/-! plans -/
def chosenS (cs : List Ch) (l : List Int) : List Ch := l.map fun i => cs.getD i.toNat (0, 0, 0)
def planErr (cs : List Ch) : Option Int → Nat → List Int → Int × Nat
  | _, s, [] => (0, s)
  | b, s, i :: r => if !isGal cs.length i then (2, s) else if notUp b i then (7, s)
    else if inS s (cs.getD i.toNat (0, 0, 0)).1 then (6, s) else planErr cs (some i) (s ||| 1 <<< (cs.getD i.toNat (0, 0, 0)).1.toNat) r
def validOf (n : Nat) (cs : List Ch) (l : List Int) : Int :=
  if errD n cs ≠ 0 then errD n cs else if (planErr cs none 0 l).1 ≠ 0 then (planErr cs none 0 l).1
    else if (planErr cs none 0 l).2 ≠ allS n then 21 else if wetS n (chosenS cs l) ≠ allS n then 13 else 0
def costS (cs : List Ch) (l : List Int) : Int := l.foldl (fun k i => k + (cs.getD i.toNat (0, 0, 0)).2.2) 0
/-- plans that begin with some channels, the next one being one of the last k -/
def plansFrom (n : Nat) (cs : List Ch) : Nat → Nat → List Int → Nat → List (List Int)
  | 0, _, _, _ => []
  | k + 1, i, b, s =>
    (if inS s (cs.getD i (0, 0, 0)).1 then [] else
      if (s ||| 1 <<< (cs.getD i (0, 0, 0)).1.toNat) = allS n then (if wetS n (chosenS cs (b ++ [(i : Int)])) = allS n then [b ++ [(i : Int)]] else [])
      else plansFrom n cs k (i + 1) (b ++ [(i : Int)]) (s ||| 1 <<< (cs.getD i (0, 0, 0)).1.toNat)) ++ plansFrom n cs k (i + 1) b s
def plansS (n : Nat) (cs : List Ch) : List (List Int) := plansFrom n cs cs.length 0 [] 0
def cheapS (cs : List Ch) (ps : List (List Int)) : Option (List Int) := firstMin (fun p => (costS cs p).toNat) ps
def leastS (cs : List Ch) (ps : List (List Int)) : Int := match cheapS cs ps with | some p => costS cs p | none => 0
def countOf (n : Nat) (cs : List Ch) : Int × Int := if errD n cs ≠ 0 then (0, errD n cs) else ((plansS n cs).length, 0)
def cheapestOf (n : Nat) (cs : List Ch) : List Int × Int := if errD n cs ≠ 0 then ([], errD n cs) else match cheapS cs (plansS n cs) with | none => ([], 12) | some p => (p, 0)
def leastOf (n : Nat) (cs : List Ch) : Int × Int := if errD n cs ≠ 0 then (0, errD n cs) else if (plansS n cs).length = 0 then (0, 12) else (leastS cs (plansS n cs), 0)
def equalOf (n : Nat) (cs : List Ch) : Int × Int := if errD n cs ≠ 0 then (0, errD n cs) else if (plansS n cs).length = 0 then (0, 12) else (((plansS n cs).filter fun p => costS cs p == leastS cs (plansS n cs)).length, 0)
def hav (i : Int) (ps : List (List Int)) : List (List Int) := ps.filter fun p => p.any (· == i)
def oth (i : Int) (ps : List (List Int)) : List (List Int) := ps.filter fun p => !p.any (· == i)
def neededOf (n : Nat) (cs : List Ch) : List Int × Int :=
  if errD n cs ≠ 0 then ([], errD n cs) else if (plansS n cs).length = 0 then ([], 12) else (((List.range cs.length).filter fun i : Nat => (oth i (plansS n cs)).length == 0).map fun i : Nat => (i : Int), 0)
def withoutOf (n : Nat) (cs : List Ch) (i : Int) : Int × Int :=
  if errD n cs ≠ 0 then (0, errD n cs) else if !isGal cs.length i then (0, 2) else if (oth i (plansS n cs)).length = 0 then (0, 12) else (leastS cs (oth i (plansS n cs)) - leastS cs (plansS n cs), 0)
def priceOf (n : Nat) (cs : List Ch) (i : Int) : Int × Int :=
  if errD n cs ≠ 0 then (0, errD n cs) else if !isGal cs.length i then (0, 2) else if (hav i (plansS n cs)).length = 0 then (0, 12) else if (oth i (plansS n cs)).length = 0 then (0, 13)
    else (leastS cs (oth i (plansS n cs)) - (leastS cs (hav i (plansS n cs)) - (cs.getD i.toNat (0, 0, 0)).2.2), 0)
def apartFrom (p : List Int) (ps : List (List Int)) : List (List Int) := ps.filter fun q => !q.any fun c => p.any (· == c)
/-- the first k + 1 of plans that are apart; the first number bounds the steps -/
def apartF : Nat → Nat → List (List Int) → Option (List (List Int))
  | 0, _, _ => none
  | _ + 1, _, [] => none
  | _ + 1, 0, p :: _ => some [p]
  | f + 1, k + 1, p :: r => match apartF f k (apartFrom p r) with
    | some l => some (p :: l)
    | none => apartF f (k + 1) r
def apartS (k : Nat) (ps : List (List Int)) : Option (List (List Int)) := apartF (ps.length + 1) k ps
def apartOf (n : Nat) (cs : List Ch) (k : Int) : List (List Int) × Int :=
  if errD n cs ≠ 0 then ([], errD n cs) else if k < 1 ∨ 4 < k then ([], 1) else match apartS (k.toNat - 1) (plansS n cs) with | none => ([], 12) | some l => (l, 0)
def mostS (ps : List (List Int)) : Nat := ((List.range (ps.length + 1)).find? fun k => (apartS k ps).isNone).getD 0
def mostOf (n : Nat) (cs : List Ch) : Int × Int := if errD n cs ≠ 0 then (0, errD n cs) else (mostS (plansS n cs), 0)

/-! dues; the third number of a channel is what is left of it -/
def payersS (n : Nat) (cs : List Ch) : List Nat := (groupsS n 0).filter fun s => !cs.any fun c => c.2.2 == 0 && leavesS s c
def payerS (n : Nat) (cs : List Ch) : Option Nat := (payersS n cs).find? fun s => !(payersS n cs).any fun t => t != s && t &&& s == t
def leastLeft (cs : List Ch) (s : Nat) : Int := (cs.filter (leavesS s)).foldl (fun m c => min m c.2.2) 9223372036854775807
def takeLeft (cs : List Ch) (s : Nat) (k : Int) : List Ch := cs.map fun c => if leavesS s c then (c.1, c.2.1, c.2.2 - k) else c
/-- the dues of a hill; the first number bounds the steps (each makes nothing of what is left of some channel) -/
def duesF (n : Nat) : Nat → List Ch → List (List Int × Int)
  | 0, _ => []
  | f + 1, cs => match payerS n cs with
    | none => []
    | some s => (listS s, leastLeft cs s) :: duesF n f (takeLeft cs s (leastLeft cs s))
def duesOf (n : Nat) (cs : List Ch) : List (List Int × Int) × Int := if errD n cs ≠ 0 then ([], errD n cs) else if wetS n cs ≠ allS n then ([], 12) else (duesF n (cs.length + 1) cs, 0)
def dsErr (n : Int) : List (List Int × Int) → Int
  | [] => 0
  | d :: r => if grErr n d.1 ≠ 0 then grErr n d.1 else if d.2 < 1 ∨ 280 < d.2 then 1 else dsErr n r
def duErr (n : Int) (ds : List (List Int × Int)) : Int := if 20 < ds.length then 3 else dsErr n ds
def chargeS (cs : List Ch) (ds : List (List Int × Int)) : List Int := cs.map fun c => ds.foldl (fun k d => if leavesS (setS d.1) c then k + d.2 else k) 0
def chargedOf (n : Nat) (cs : List Ch) (ds : List (List Int × Int)) : List Int × Int := if errD n cs ≠ 0 then ([], errD n cs) else if duErr n ds ≠ 0 then ([], duErr n ds) else (chargeS cs ds, 0)
def provesOf (n : Nat) (cs : List Ch) (l : List Int) (ds : List (List Int × Int)) : Int :=
  if validOf n cs l ≠ 0 then validOf n cs l else if duErr n ds ≠ 0 then duErr n ds
    else if (List.zip (chargeS cs ds) cs).any (fun x => decide (x.2.2.2 < x.1)) then 15 else if ds.foldl (fun k d => k + d.2) 0 ≠ costS cs l then 14 else 0
/-- the way from a place by a plan; the first number bounds the steps -/
def wayF (n : Nat) (cs : List Ch) : Nat → Int → List Int
  | 0, g => [g]
  | f + 1, g => if g = n then [g] else g :: wayF n cs f ((cs.find? fun c => c.1 == g).elim n fun c => c.2.1)
def wayOf (n : Nat) (cs : List Ch) (l : List Int) (g : Int) : List Int × Int := if validOf n cs l ≠ 0 then ([], validOf n cs l) else if !isGal n g then ([], 2) else (wayF n (chosenS cs l) n g, 0)

/-! the examples -/
def exH : List Ch := [(0, 1, 1), (1, 0, 1), (0, 3, 5), (1, 3, 4), (2, 1, 2), (2, 3, 3)]
def exK : List Ch := [(0, 1, 2), (1, 0, 3)]
def exL : List Ch := [(0, 1, 0)]
theorem ex_errD : errD 0 [] = 1 ∧ errD 1 [(0, 0, 1)] = 13 ∧ errD 1 [(0, 2, 1)] = 2 ∧ errD 1 [(0, 1, 21)] = 1 ∧ errD 1 [(0, 1, 1), (0, 1, 2)] = 6 := by decide +kernel
theorem ex_stuck : stuckOf 3 exH = ([], 0) ∧ stuckOf 2 exK = ([0, 1], 0) := by decide +kernel
theorem ex_trap : trapOf 3 exH = ([], 13) ∧ trapOf 2 exK = ([0, 1], 0) := by decide +kernel
theorem ex_leaves : leavesOf 3 exH [0, 1] = ([2, 3], 0) ∧ leavesOf 3 exH [1, 2] = ([1, 3, 5], 0) ∧ leavesOf 3 exH [] = ([], 4) ∧ leavesOf 3 exH [2, 1] = ([], 7) := by decide +kernel
theorem ex_narrow : narrowOf 3 exH = ([0], 2, 0) ∧ narrowOf 2 exK = ([0, 1], 0, 0) := by decide +kernel
theorem ex_valid : validOf 3 exH [0, 3, 4] = 0 ∧ validOf 3 exH [0, 1, 4] = 13 ∧ validOf 3 exH [0, 2, 3] = 6 ∧ validOf 3 exH [0, 3] = 21 ∧ validOf 3 exH [3, 0, 4] = 7 ∧ validOf 3 exH [0, 3, 9] = 2 := by decide +kernel
theorem ex_plans : cheapestOf 3 exH = ([0, 3, 4], 0) ∧ leastOf 3 exH = (7, 0) ∧ leastOf 2 exK = (0, 12) ∧ countOf 3 exH = (6, 0) ∧ countOf 2 exK = (0, 0) ∧ countOf 1 exL = (1, 0) ∧ equalOf 3 exH = (1, 0) := by decide +kernel
theorem ex_worth : neededOf 3 exH = ([], 0) ∧ neededOf 1 exL = ([0], 0) ∧ withoutOf 3 exH 3 = (1, 0) ∧ withoutOf 3 exH 2 = (0, 0) ∧ withoutOf 1 exL 0 = (0, 12) ∧ priceOf 3 exH 2 = (4, 0) ∧ priceOf 3 exH 3 = (5, 0) ∧ priceOf 3 exH 1 = (0, 0) ∧ priceOf 1 exL 0 = (0, 13) := by decide +kernel
theorem ex_apart : apartOf 3 exH 2 = ([[0, 3, 4], [1, 2, 5]], 0) ∧ apartOf 3 exH 3 = ([], 12) ∧ apartOf 3 exH 5 = ([], 1) ∧ mostOf 3 exH = (2, 0) ∧ mostOf 2 exK = (0, 0) := by decide +kernel
theorem ex_dues : duesOf 3 exH = ([([0], 1), ([1], 1), ([0, 1], 3), ([2], 2)], 0) ∧ duesOf 2 exK = ([], 12) ∧ duesOf 1 exL = ([], 0) := by decide +kernel
theorem ex_proves : chargedOf 3 exH [([0, 1], 3), ([2], 2)] = ([0, 0, 3, 3, 2, 2], 0) ∧ provesOf 3 exH [0, 3, 4] [([0], 1), ([1], 1), ([0, 1], 3), ([2], 2)] = 0 ∧ provesOf 3 exH [0, 3, 5] [([0], 1), ([1], 1), ([0, 1], 3), ([2], 2)] = 14 ∧ provesOf 3 exH [0, 3, 4] [([0], 2)] = 15 := by decide +kernel
theorem ex_way : wayOf 3 exH [0, 3, 4] 2 = ([2, 1, 3], 0) ∧ wayOf 3 exH [0, 3, 4] 3 = ([], 2) := by decide +kernel
end Go.Proofs.Ytadamjleglckpaa.drn

/- Package drain: facts of the plain functions: what a hill without an error is; drained comes to rest. -/
namespace Go.Proofs.Ytadamjleglckpaa.drn
theorem isGal_iff (n g : Int) : isGal n g = true ↔ 0 ≤ g ∧ g < n := by simp [isGal]
/-- a channel without an error -/
def ChOk (n : Int) (c : Ch) : Prop := (0 ≤ c.1 ∧ c.1 < n) ∧ (0 ≤ c.2.1 ∧ c.2.1 ≤ n) ∧ c.1 ≠ c.2.1 ∧ 0 ≤ c.2.2 ∧ c.2.2 ≤ 20
theorem chErr_ok {n : Int} {c : Ch} (hn : 1 ≤ n) (h : chErr n c = 0) : ChOk n c := by
  unfold chErr at h
  split at h
  · omega
  · rename_i h1
    split at h
    · omega
    · rename_i h2
      split at h
      · omega
      · rename_i h3
        simp only [isGal, Bool.or_eq_true, Bool.not_eq_true', Bool.and_eq_true, Bool.and_eq_false_iff, decide_eq_false_iff_not, bne_iff_ne, ne_eq] at h1
        simp only [beq_iff_eq] at h2
        simp only [Bool.or_eq_true, decide_eq_true_eq] at h3
        refine ⟨?_, ?_, h2, by omega, by omega⟩ <;> omega
theorem csErr_ok {n : Int} (hn : 1 ≤ n) : ∀ (r s : List Ch), csErr n s r = 0 → (∀ c ∈ r, ChOk n c) ∧ (∀ c ∈ r, ∀ d ∈ s, ¬(d.1 = c.1 ∧ d.2.1 = c.2.1)) ∧ r.Pairwise fun d c => ¬(d.1 = c.1 ∧ d.2.1 = c.2.1)
  | [], s, _ => by simp
  | c :: r, s, h => by
    unfold csErr at h
    split at h
    · omega
    · rename_i h1
      split at h
      · omega
      · rename_i h2
        obtain ⟨k1, k2, k3⟩ := csErr_ok hn r (s ++ [c]) h
        have hc : chErr n c = 0 := Decidable.not_not.1 h1
        have hs : ∀ d ∈ s, ¬(d.1 = c.1 ∧ d.2.1 = c.2.1) := by
          intro d hd he
          apply h2
          rw [List.any_eq_true]
          exact ⟨d, hd, by simp [he.1, he.2]⟩
        refine ⟨?_, ?_, List.pairwise_cons.2 ⟨fun x hx => k2 x hx c (by simp), k3⟩⟩
        · intro x hx
          rcases List.mem_cons.1 hx with rfl | hx
          · exact chErr_ok hn hc
          · exact k1 x hx
        · intro x hx d hd
          rcases List.mem_cons.1 hx with rfl | hx
          · exact hs d hd
          · exact k2 x hx d (by simp [hd])
theorem errD_ok {n : Int} {cs : List Ch} (h : errD n cs = 0) : 1 ≤ n ∧ n ≤ 6 ∧ cs.length ≤ 14 ∧ (∀ c ∈ cs, ChOk n c) ∧ cs.Pairwise fun d c => ¬(d.1 = c.1 ∧ d.2.1 = c.2.1) := by
  unfold errD at h
  split at h
  · omega
  · rename_i h1
    split at h
    · omega
    · have hn : 1 ≤ n := by omega
      obtain ⟨k1, _, k3⟩ := csErr_ok hn cs [] h
      exact ⟨hn, by omega, by omega, k1, k3⟩

/-! drained comes to rest -/
theorem wetStep_sup (n : Nat) : ∀ (cs : List Ch) (d i : Nat), d.testBit i = true → (wetStep n cs d).testBit i = true
  | [], d, i, h => h
  | c :: cs, d, i, h => by
    unfold wetStep
    rw [List.foldl_cons]
    refine wetStep_sup n cs _ i ?_
    split
    · rw [Nat.testBit_or, h]; rfl
    · exact h
theorem wetStep_bd (n : Nat) : ∀ (cs : List Ch) (d : Nat), (∀ c ∈ cs, ChOk n c) → d < 2 ^ n → wetStep n cs d < 2 ^ n
  | [], d, _, h => h
  | c :: cs, d, hc, h => by
    unfold wetStep
    rw [List.foldl_cons]
    refine wetStep_bd n cs _ (fun x hx => hc x (by simp [hx])) ?_
    split
    · refine Nat.or_lt_two_pow h ?_
      obtain ⟨⟨a, b⟩, _⟩ := hc c (by simp)
      rw [Nat.shiftLeft_eq, Nat.one_mul]
      exact Nat.pow_lt_pow_right (by decide) (by omega)
    · exact h
theorem sizeS_lt {d e : Nat} (he : e < 64) (hs : ∀ i, d.testBit i = true → e.testBit i = true) (hne : e ≠ d) : sizeS d < sizeS e := by
  obtain ⟨i, hi⟩ : ∃ i, e.testBit i ≠ d.testBit i := by
    apply Classical.byContradiction
    intro h
    exact hne (Nat.eq_of_testBit_eq fun i => Classical.byContradiction fun k => h ⟨i, k⟩)
  have h1 : e.testBit i = true := by
    cases hh : e.testBit i with
    | true => rfl
    | false =>
      cases hd : d.testBit i with
      | true => rw [hs i hd] at hh; cases hh
      | false => rw [hh, hd] at hi; exact absurd rfl hi
  have h2 : d.testBit i = false := by
    cases hd : d.testBit i with
    | false => rfl
    | true => rw [h1, hd] at hi; exact absurd rfl hi
  have h6 : i < 6 := by
    apply Classical.byContradiction
    intro hn
    have := Nat.testBit_lt_two_pow (x := e) (i := i) (Nat.lt_of_lt_of_le he (Nat.pow_le_pow_right (n := 2) (by decide) (show 6 ≤ i by omega)))
    rw [h1] at this
    cases this
  unfold sizeS
  rw [← List.countP_eq_length_filter, ← List.countP_eq_length_filter]
  have hsplit : List.range 6 = List.range i ++ i :: (List.range (5 - i)).map (i + 1 + ·) := by
    match i, h6 with
    | 0, _ => decide
    | 1, _ => decide
    | 2, _ => decide
    | 3, _ => decide
    | 4, _ => decide
    | 5, _ => decide
  rw [hsplit, List.countP_append, List.countP_append, List.countP_cons, List.countP_cons]
  have m1 := List.countP_mono_left (p := fun i => d.testBit i) (q := fun i => e.testBit i) (l := List.range i) (fun x _ hx => hs x hx)
  have m2 := List.countP_mono_left (p := fun i => d.testBit i) (q := fun i => e.testBit i) (l := (List.range (5 - i)).map (i + 1 + ·)) (fun x _ hx => hs x hx)
  simp only [h1, h2, if_true]
  simp only [Bool.false_eq_true, if_false]
  omega
theorem sizeS_le (d : Nat) : sizeS d ≤ 6 := by
  unfold sizeS
  exact Nat.le_trans (List.length_filter_le _ _) (by simp)
theorem wetTo_fix {n : Nat} {cs : List Ch} {d : Nat} (h : wetStep n cs d = d) : ∀ k, wetTo n cs k d = d
  | 0 => rfl
  | k + 1 => by rw [wetTo, h]; exact wetTo_fix h k
theorem wetTo_step (n : Nat) (cs : List Ch) : ∀ (k d : Nat), wetTo n cs (k + 1) d = wetStep n cs (wetTo n cs k d)
  | 0, _ => rfl
  | k + 1, d => by rw [wetTo, wetTo_step n cs k]; rfl
theorem wetTo_add (n : Nat) (cs : List Ch) : ∀ (j k d : Nat), wetTo n cs (j + k) d = wetTo n cs k (wetTo n cs j d)
  | 0, k, d => by rw [Nat.zero_add]; rfl
  | j + 1, k, d => by rw [Nat.add_right_comm, wetTo, wetTo_add n cs j k, ← wetTo]
/-- a round that changes nothing is the last one, and it comes within 7 rounds -/
theorem wetS_rest {n : Nat} {cs : List Ch} {k : Nat} (hk : k ≤ 7) (h : wetStep n cs (wetTo n cs k 0) = wetTo n cs k 0) : wetS n cs = wetTo n cs k 0 := by
  have e : 7 = k + (7 - k) := by omega
  rw [wetS, e, wetTo_add, wetTo_fix h]
theorem wetTo_bd {n : Nat} {cs : List Ch} (hc : ∀ c ∈ cs, ChOk n c) : ∀ k, wetTo n cs k 0 < 2 ^ n
  | 0 => Nat.two_pow_pos n
  | k + 1 => by rw [wetTo_step]; exact wetStep_bd n cs _ hc (wetTo_bd hc k)
theorem wetTo_size {n : Nat} {cs : List Ch} (hn : n ≤ 6) (hc : ∀ c ∈ cs, ChOk n c) : ∀ k, (∀ j, j < k → wetStep n cs (wetTo n cs j 0) ≠ wetTo n cs j 0) → k ≤ sizeS (wetTo n cs k 0)
  | 0, _ => Nat.zero_le _
  | k + 1, h => by
    have h1 := wetTo_size hn hc k fun j hj => h j (by omega)
    have h2 := h k (by omega)
    rw [wetTo_step]
    have hb := wetStep_bd n cs _ hc (wetTo_bd hc k)
    have h64 : 2 ^ n ≤ 64 := Nat.pow_le_pow_right (n := 2) (by decide) hn
    have := sizeS_lt (d := wetTo n cs k 0) (e := wetStep n cs (wetTo n cs k 0)) (by omega) (fun i hi => wetStep_sup n cs _ i hi) h2
    omega
theorem wet_rounds {n : Nat} {cs : List Ch} (hn : n ≤ 6) (hc : ∀ c ∈ cs, ChOk n c) {k : Nat} (h : ∀ j, j < k → wetStep n cs (wetTo n cs j 0) ≠ wetTo n cs j 0) : k ≤ 6 :=
  Nat.le_trans (wetTo_size hn hc k h) (sizeS_le _)

/-! what drained finds: the galleries from which a way leads to the mouth -/
inductive Wet (n : Nat) (cs : List Ch) : Int → Prop
  | mouth : Wet n cs n
  | step (c : Ch) : c ∈ cs → Wet n cs c.2.1 → Wet n cs c.1
theorem wetS_fix {n : Nat} {cs : List Ch} (hn : n ≤ 6) (hc : ∀ c ∈ cs, ChOk n c) : wetStep n cs (wetS n cs) = wetS n cs := by
  obtain ⟨k, hk, hf⟩ : ∃ k, k ≤ 6 ∧ wetStep n cs (wetTo n cs k 0) = wetTo n cs k 0 := by
    apply Classical.byContradiction
    intro hno
    have := wet_rounds hn hc (k := 7) fun j hj he => hno ⟨j, by omega, he⟩
    omega
  rw [wetS_rest (by omega) hf, hf]
theorem inS_or (s t : Nat) (g : Int) : inS (s ||| t) g = (inS s g || inS t g) := by
  unfold inS
  rw [Nat.testBit_or]
  cases decide (0 ≤ g) <;> simp
theorem inS_one (h g : Nat) : inS (1 <<< h) (g : Int) = decide (g = h) := by
  unfold inS
  rw [Nat.one_shiftLeft, Int.toNat_natCast, Nat.testBit_two_pow]
  simp [eq_comm]
theorem wetStep_sound (n : Nat) (all : List Ch) (hall : ∀ c ∈ all, ChOk n c) : ∀ (cs : List Ch) (d : Nat), (∀ c ∈ cs, c ∈ all) → (∀ g : Nat, inS d g = true → Wet n all g) → ∀ g : Nat, inS (wetStep n cs d) g = true → Wet n all g
  | [], d, _, h => h
  | c :: cs, d, hc, h => by
    unfold wetStep
    rw [List.foldl_cons]
    refine wetStep_sound n all hall cs _ (fun x hx => hc x (by simp [hx])) ?_
    have hco := hall c (hc c (by simp))
    obtain ⟨⟨a0, a1⟩, ⟨b0, b1⟩, _⟩ := hco
    split
    · rename_i h1
      intro g hg
      rw [inS_or, Bool.or_eq_true, inS_one] at hg
      rcases hg with hg | hg
      · exact h g hg
      · have e : g = c.1.toNat := by simpa using hg
        have e2 : (g : Int) = c.1 := by omega
        rw [e2]
        refine Wet.step c (hc c (by simp)) ?_
        simp only [Bool.or_eq_true, beq_iff_eq] at h1
        rcases h1 with h1 | h1
        · rw [h1]; exact Wet.mouth
        · have e3 : ((c.2.1.toNat : Nat) : Int) = c.2.1 := by omega
          rw [← e3] at h1 ⊢
          exact h _ h1
    · exact h
theorem wetTo_sound {n : Nat} {cs : List Ch} (hc : ∀ c ∈ cs, ChOk n c) : ∀ (k g : Nat), inS (wetTo n cs k 0) g = true → Wet n cs g
  | 0, g, h => by simp [wetTo, inS] at h
  | k + 1, g, h => by
    rw [wetTo_step] at h
    exact wetStep_sound n cs hc cs _ (fun c h => h) (fun g hg => wetTo_sound hc k g hg) g h
theorem wetStep_hit (n : Nat) : ∀ (cs : List Ch) (d : Nat) (c : Ch), c ∈ cs → (c.2.1 = n ∨ inS d c.2.1 = true) → (wetStep n cs d).testBit c.1.toNat = true
  | [], _, _, h, _ => by simp at h
  | e :: cs, d, c, hm, h => by
    unfold wetStep
    rw [List.foldl_cons]
    rcases List.mem_cons.1 hm with rfl | hm
    · refine wetStep_sup n cs _ _ ?_
      rw [if_pos (by simpa using h), Nat.testBit_or, Nat.one_shiftLeft, Nat.testBit_two_pow]
      simp
    · refine wetStep_hit n cs _ c hm ?_
      rcases h with h | h
      · exact .inl h
      · refine .inr ?_
        split
        · rw [inS_or, h]; rfl
        · exact h
theorem wet_complete {n : Nat} {cs : List Ch} (hc : ∀ c ∈ cs, ChOk n c) {d : Nat} (hf : wetStep n cs d = d) {g : Int} (h : Wet n cs g) : g = n ∨ inS d g = true := by
  induction h with
  | mouth => exact .inl rfl
  | step c hm _ ih =>
    refine .inr ?_
    have := wetStep_hit n cs d c hm ih
    rw [hf] at this
    obtain ⟨⟨a0, _⟩, _⟩ := hc c hm
    simp [inS, a0, this]
/-- drained returns the galleries that are not stuck -/
theorem wetS_iff {n : Nat} {cs : List Ch} (hn : n ≤ 6) (hc : ∀ c ∈ cs, ChOk n c) {g : Nat} (hg : g < n) : inS (wetS n cs) g = true ↔ Wet n cs g := by
  constructor
  · exact wetTo_sound hc 7 g
  · intro h
    rcases wet_complete hc (wetS_fix hn hc) h with h | h
    · omega
    · exact h
theorem wetS_bd {n : Nat} {cs : List Ch} (hc : ∀ c ∈ cs, ChOk n c) : wetS n cs < 2 ^ n := wetTo_bd hc 7
theorem allS_iff {n s : Nat} (hs : s < 2 ^ n) : s = allS n ↔ ∀ g : Nat, g < n → inS s g = true := by
  constructor
  · rintro rfl g hg
    simp [inS, allS, hg]
  · intro h
    apply Nat.eq_of_testBit_eq
    intro i
    rw [allS, Nat.testBit_two_pow_sub_one]
    by_cases hi : i < n
    · have := h i hi
      simp only [inS, Int.toNat_natCast, Bool.and_eq_true] at this
      rw [this.2]; simp [hi]
    · rw [Nat.testBit_lt_two_pow (Nat.lt_of_lt_of_le hs (Nat.pow_le_pow_right (by decide) (by omega)))]
      simp [hi]
/-- all galleries drain, just if a way leads from each of them -/
theorem wetS_all {n : Nat} {cs : List Ch} (hn : n ≤ 6) (hc : ∀ c ∈ cs, ChOk n c) : wetS n cs = allS n ↔ ∀ g : Nat, g < n → Wet n cs g := by
  rw [allS_iff (wetS_bd hc)]
  exact ⟨fun h g hg => (wetS_iff hn hc hg).1 (h g hg), fun h g hg => (wetS_iff hn hc hg).2 (h g hg)⟩
end Go.Proofs.Ytadamjleglckpaa.drn

/- Package drain: the list of all plans: what is in it, and its order. -/
namespace Go.Proofs.Ytadamjleglckpaa.drn
/-- the gallery from which a channel leads -/
def frm (cs : List Ch) (i : Int) : Int := (cs.getD i.toNat (0, 0, 0)).1
/-- the galleries of some, and those from which some channels lead -/
def addS (cs : List Ch) (s : Nat) (l : List Int) : Nat := l.foldl (fun s i => s ||| 1 <<< (frm cs i).toNat) s
/-- channels in ascending order, from one number on, each from a gallery that is not yet among some -/
def Ext (cs : List Ch) : Nat → Nat → List Int → Prop
  | _, _, [] => True
  | lo, s, x :: r => ((lo : Int) ≤ x ∧ x < cs.length) ∧ inS s (frm cs x) = false ∧ Ext cs (x.toNat + 1) (s ||| 1 <<< (frm cs x).toNat) r
theorem Ext.up {cs : List Ch} {lo s : Nat} : ∀ {r : List Int}, Ext cs (lo + 1) s r → Ext cs lo s r
  | [], _ => trivial
  | _ :: _, ⟨⟨h1, h2⟩, h3⟩ => ⟨⟨by omega, h2⟩, h3⟩
theorem getD_ok {n : Nat} {cs : List Ch} (hc : ∀ c ∈ cs, ChOk n c) {i : Nat} (hi : i < cs.length) : ChOk n (cs.getD i (0, 0, 0)) := by
  rw [List.getD_eq_getElem?_getD, List.getElem?_eq_getElem hi]
  exact hc _ (List.getElem_mem hi)
theorem frm_in {n : Nat} {cs : List Ch} (hc : ∀ c ∈ cs, ChOk n c) {x : Int} (h0 : 0 ≤ x) (h1 : x < cs.length) : inS (allS n) (frm cs x) = true := by
  obtain ⟨⟨a, b⟩, _⟩ := getD_ok hc (i := x.toNat) (by omega)
  have e : frm cs x = (((frm cs x).toNat : Nat) : Int) := by
    have : 0 ≤ frm cs x := a
    omega
  rw [e]
  exact (allS_iff (n := n) (s := allS n) (by have := Nat.two_pow_pos n; unfold allS; omega)).1 rfl _ (by have : frm cs x < n := b; omega)

theorem mem_plansFrom {n : Nat} {cs : List Ch} (hc : ∀ c ∈ cs, ChOk n c) : ∀ (k i : Nat) (b : List Int) (s : Nat), k + i = cs.length → s ≠ allS n → ∀ l : List Int,
    l ∈ plansFrom n cs k i b s ↔ ∃ r, r ≠ [] ∧ l = b ++ r ∧ Ext cs i s r ∧ addS cs s r = allS n ∧ wetS n (chosenS cs l) = allS n
  | 0, i, b, s, hk, _, l => by
    simp only [plansFrom, List.not_mem_nil, false_iff]
    rintro ⟨r, h0, _, hx, _⟩
    match r, h0, hx with
    | x :: r, _, ⟨⟨h1, h2⟩, _⟩ => omega
  | k + 1, i, b, s, hk, hs, l => by
    have hfi : frm cs (i : Int) = (cs.getD i (0, 0, 0)).1 := by simp [frm]
    unfold plansFrom
    rw [List.mem_append, mem_plansFrom hc k (i + 1) b s (by omega) hs l, ← hfi]
    constructor
    · rintro (h | ⟨r, h0, h1, h2, h3⟩)
      · split at h
        · simp at h
        · rename_i hf
          have hf' : inS s (frm cs (i : Int)) = false := by simpa using hf
          split at h
          · rename_i ha
            split at h
            · rename_i hw
              obtain rfl := List.mem_singleton.1 h
              exact ⟨[(i : Int)], by simp, rfl, ⟨⟨Int.le_refl _, by omega⟩, hf', trivial⟩, ha, hw⟩
            · simp at h
          · rename_i ha
            obtain ⟨r, h0, h1, h2, h3, h4⟩ := (mem_plansFrom hc k (i + 1) (b ++ [(i : Int)]) _ (by omega) ha l).1 h
            exact ⟨(i : Int) :: r, by simp, by rw [h1]; simp, ⟨⟨Int.le_refl _, by omega⟩, hf', by simpa using h2⟩, h3, h4⟩
      · exact ⟨r, h0, h1, h2.up, h3⟩
    · rintro ⟨r, h0, h1, h2, h3, h4⟩
      match r, h0, h2 with
      | x :: r, _, ⟨⟨a1, a2⟩, hf, hx⟩ =>
        by_cases hxi : x = (i : Int)
        · subst hxi
          refine .inl ?_
          rw [if_neg (by simp [hf])]
          have e : addS cs s ((i : Int) :: r) = addS cs (s ||| 1 <<< (frm cs (i : Int)).toNat) r := rfl
          rw [e] at h3
          by_cases hr : r = []
          · subst hr
            have h3' : s ||| 1 <<< (frm cs (i : Int)).toNat = allS n := h3
            have h1' : l = b ++ [(i : Int)] := h1
            rw [if_pos h3', if_pos (by rw [← h1']; exact h4), h1']
            simp
          · have hne : s ||| 1 <<< (frm cs (i : Int)).toNat ≠ allS n := by
              intro he
              match r, hr, hx with
              | y :: r, _, ⟨⟨c1, c2⟩, hy, _⟩ =>
                rw [he, frm_in hc (by omega) c2] at hy
                cases hy
            rw [if_neg hne]
            exact (mem_plansFrom hc k (i + 1) (b ++ [(i : Int)]) _ (by omega) hne l).2 ⟨r, hr, by rw [h1]; simp, by simpa using hx, h3, h4⟩
        · exact .inr ⟨x :: r, by simp, h1, ⟨⟨by omega, a2⟩, hf, hx⟩, h3, h4⟩

/-- a plan: channels in ascending order, one from each gallery, by which all galleries drain -/
def Plan (n : Nat) (cs : List Ch) (l : List Int) : Prop := Ext cs 0 0 l ∧ addS cs 0 l = allS n ∧ wetS n (chosenS cs l) = allS n
theorem mem_plansS {n : Nat} {cs : List Ch} (hn : 1 ≤ n) (hc : ∀ c ∈ cs, ChOk n c) (l : List Int) : l ∈ plansS n cs ↔ Plan n cs l := by
  have h0 : (0 : Nat) ≠ allS n := by
    unfold allS
    have : 2 ^ 1 ≤ 2 ^ n := Nat.pow_le_pow_right (by decide) hn
    omega
  rw [plansS, mem_plansFrom hc cs.length 0 [] 0 (by omega) h0 l]
  constructor
  · rintro ⟨r, _, rfl, h⟩
    exact h
  · intro h
    refine ⟨l, ?_, rfl, h⟩
    rintro rfl
    exact h0 h.2.1

/-! its order -/
theorem lex_pre (b : List Int) {r1 r2 : List Int} (h : List.Lex (· < ·) r1 r2) : List.Lex (· < ·) (b ++ r1) (b ++ r2) := by
  induction b with
  | nil => exact h
  | cons x b ih => exact List.Lex.cons ih
theorem plansFrom_head (n : Nat) (cs : List Ch) : ∀ (k i : Nat) (b : List Int) (s : Nat), ∀ l ∈ plansFrom n cs k i b s, ∃ x r, l = b ++ x :: r ∧ (i : Int) ≤ x
  | 0, _, _, _, l, h => by simp [plansFrom] at h
  | k + 1, i, b, s, l, h => by
    unfold plansFrom at h
    rcases List.mem_append.1 h with h | h
    · split at h
      · simp at h
      · split at h
        · split at h
          · obtain rfl := List.mem_singleton.1 h
            exact ⟨(i : Int), [], rfl, Int.le_refl _⟩
          · simp at h
        · obtain ⟨x, r, e, _⟩ := plansFrom_head n cs k (i + 1) _ _ l h
          exact ⟨(i : Int), x :: r, by rw [e]; simp, Int.le_refl _⟩
    · obtain ⟨x, r, e, hx⟩ := plansFrom_head n cs k (i + 1) b s l h
      exact ⟨x, r, e, by omega⟩
theorem plansFrom_sorted (n : Nat) (cs : List Ch) : ∀ (k i : Nat) (b : List Int) (s : Nat), (plansFrom n cs k i b s).Pairwise (List.Lex (· < ·))
  | 0, _, _, _ => by simp [plansFrom]
  | k + 1, i, b, s => by
    unfold plansFrom
    refine List.pairwise_append.2 ⟨?_, plansFrom_sorted n cs k (i + 1) b s, ?_⟩
    · split
      · exact List.Pairwise.nil
      · split
        · split
          · exact List.pairwise_singleton _ _
          · exact List.Pairwise.nil
        · exact plansFrom_sorted n cs k (i + 1) _ _
    · intro l1 h1 l2 h2
      obtain ⟨y, r2, rfl, hy⟩ := plansFrom_head n cs k (i + 1) b s l2 h2
      have hl1 : ∃ r, l1 = b ++ (i : Int) :: r := by
        split at h1
        · simp at h1
        · split at h1
          · split at h1
            · obtain rfl := List.mem_singleton.1 h1
              exact ⟨[], rfl⟩
            · simp at h1
          · obtain ⟨x, r, e, _⟩ := plansFrom_head n cs k (i + 1) _ _ l1 h1
            exact ⟨x :: r, by rw [e]; simp⟩
      obtain ⟨r, rfl⟩ := hl1
      exact lex_pre b (List.Lex.rel (by omega))
theorem plansS_sorted (n : Nat) (cs : List Ch) : (plansS n cs).Pairwise (List.Lex (· < ·)) := plansFrom_sorted n cs _ _ _ _
end Go.Proofs.Ytadamjleglckpaa.drn

/- Package drain: which lists Valid accepts; two sorted lists with the same members; how long a plan is. -/
namespace Go.Proofs.Ytadamjleglckpaa.drn
/-- two sorted lists with the same members are the same -/
theorem sorted_ext {α : Type} {R : α → α → Prop} (hirr : ∀ a, ¬ R a a) (htr : ∀ a b c, R a b → R b c → R a c) : ∀ (l1 l2 : List α), l1.Pairwise R → l2.Pairwise R → (∀ x, x ∈ l1 ↔ x ∈ l2) → l1 = l2
  | [], [], _, _, _ => rfl
  | [], b :: l2, _, _, h => by have := (h b).2 (by simp); simp at this
  | a :: l1, [], _, _, h => by have := (h a).1 (by simp); simp at this
  | a :: l1, b :: l2, h1, h2, h => by
    rw [List.pairwise_cons] at h1 h2
    have hab : a = b := by
      rcases List.mem_cons.1 ((h a).1 (by simp)) with e | ha
      · exact e
      · rcases List.mem_cons.1 ((h b).2 (by simp)) with e | hb
        · exact e.symm
        · exact absurd (htr _ _ _ (h1.1 b hb) (h2.1 a ha)) (hirr a)
    subst hab
    congr 1
    refine sorted_ext hirr htr l1 l2 h1.2 h2.2 fun x => ?_
    constructor
    · intro hx
      rcases List.mem_cons.1 ((h x).1 (by simp [hx])) with e | hy
      · subst e; exact absurd (h1.1 x hx) (hirr x)
      · exact hy
    · intro hx
      rcases List.mem_cons.1 ((h x).2 (by simp [hx])) with e | hy
      · subst e; exact absurd (h2.1 x hx) (hirr x)
      · exact hy
theorem lexI_irr : ∀ a : List Int, ¬ List.Lex (· < ·) a a
  | [], h => by cases h
  | x :: a, h => by
    cases h with
    | cons h => exact lexI_irr a h
    | rel h => exact Int.lt_irrefl _ h
theorem lexI_tr : ∀ a b c : List Int, List.Lex (· < ·) a b → List.Lex (· < ·) b c → List.Lex (· < ·) a c
  | _, _, [], _, h => by cases h
  | _, [], _ :: _, h, _ => by cases h
  | [], _ :: _, _ :: _, _, _ => List.Lex.nil
  | x :: a, y :: b, z :: c, h1, h2 => by
    cases h1 with
    | cons h1 =>
      cases h2 with
      | cons h2 => exact List.Lex.cons (lexI_tr a b c h1 h2)
      | rel h2 => exact List.Lex.rel h2
    | rel h1 =>
      cases h2 with
      | cons h2 => exact List.Lex.rel h1
      | rel h2 => exact List.Lex.rel (Int.lt_trans h1 h2)
/-- what is sorted and has all plans is the list of all plans -/
theorem plans_only {n : Nat} {cs : List Ch} (hn : 1 ≤ n) (hc : ∀ c ∈ cs, ChOk n c) {L : List (List Int)} (hs : L.Pairwise (List.Lex (· < ·))) (hm : ∀ l, l ∈ L ↔ Plan n cs l) : L = plansS n cs :=
  sorted_ext lexI_irr lexI_tr L _ hs (plansS_sorted n cs) fun l => by rw [hm, mem_plansS hn hc]

/-! Valid -/
/-- the least number that may come next -/
def nextLo : Option Int → Nat
  | none => 0
  | some x => x.toNat + 1
theorem planErr_iff (cs : List Ch) : ∀ (l : List Int) (b : Option Int) (s : Nat), (∀ x, b = some x → 0 ≤ x) →
    ((planErr cs b s l).1 = 0 ↔ Ext cs (nextLo b) s l) ∧ ((planErr cs b s l).1 = 0 → (planErr cs b s l).2 = addS cs s l)
  | [], b, s, _ => by simp [planErr, Ext, addS]
  | i :: r, b, s, hb => by
    unfold planErr
    by_cases h1 : isGal cs.length i = true
    · obtain ⟨i0, i1⟩ := (isGal_iff _ _).1 h1
      rw [if_neg (by simp [h1])]
      have hord : notUp b i = true ↔ ¬ ((nextLo b : Nat) : Int) ≤ i := by
        cases b with
        | none => simp [nextLo, notUp, i0]
        | some x =>
          have := hb x rfl
          simp only [nextLo, notUp, decide_eq_true_eq]
          omega
      by_cases h2 : notUp b i = true
      · rw [if_pos h2]
        refine ⟨⟨fun h => by simp at h, fun h => absurd h.1.1 (hord.1 h2)⟩, fun h => by simp at h⟩
      · rw [if_neg h2]
        have hlo : ((nextLo b : Nat) : Int) ≤ i := Classical.byContradiction fun h => h2 (hord.2 h)
        by_cases h3 : inS s (cs.getD i.toNat (0, 0, 0)).1 = true
        · rw [if_pos h3]
          refine ⟨⟨fun h => by simp at h, fun h => ?_⟩, fun h => by simp at h⟩
          have h4 : inS s (cs.getD i.toNat (0, 0, 0)).1 = false := h.2.1
          rw [h3] at h4
          cases h4
        · rw [if_neg h3]
          obtain ⟨k1, k2⟩ := planErr_iff cs r (some i) (s ||| 1 <<< (cs.getD i.toNat (0, 0, 0)).1.toNat) (fun x e => by injection e with e; omega)
          refine ⟨?_, fun h => k2 h⟩
          rw [k1]
          have hf : inS s (frm cs i) = false := by simpa [frm] using h3
          exact ⟨fun h => ⟨⟨hlo, i1⟩, hf, h⟩, fun h => h.2.2⟩
    · rw [if_pos (by simpa using h1)]
      refine ⟨⟨fun h => by simp at h, fun h => ?_⟩, fun h => by simp at h⟩
      exact absurd ((isGal_iff _ _).2 ⟨by have := h.1.1; omega, h.1.2⟩) h1
/-- Valid accepts just the plans -/
theorem validOf_iff {n : Nat} {cs : List Ch} (h0 : errD n cs = 0) (l : List Int) : validOf n cs l = 0 ↔ Plan n cs l := by
  obtain ⟨k1, k2⟩ := planErr_iff cs l none 0 (by simp)
  have k1' : (planErr cs none 0 l).1 = 0 ↔ Ext cs 0 0 l := k1
  unfold validOf
  rw [if_neg (by simp [h0])]
  by_cases h1 : (planErr cs none 0 l).1 = 0
  · have hx := k1'.1 h1
    rw [if_neg (by simp [h1]), k2 h1]
    by_cases h2 : addS cs 0 l = allS n
    · rw [if_neg (by simp [h2])]
      by_cases h3 : wetS n (chosenS cs l) = allS n
      · rw [if_neg (by simp [h3])]
        simp only [true_iff]
        exact ⟨hx, h2, h3⟩
      · rw [if_pos h3]
        exact ⟨fun h => by simp at h, fun h => absurd h.2.2 h3⟩
    · rw [if_pos h2]
      exact ⟨fun h => by simp at h, fun h => absurd h.2.1 h2⟩
  · rw [if_pos h1]
    exact ⟨fun h => absurd h h1, fun h => absurd (k1'.2 h.1) h1⟩

/-! how long a plan is -/
theorem sizeS_add {s g : Nat} (hg : g < 6) (hs : inS s g = false) : sizeS (s ||| 1 <<< g) = sizeS s + 1 := by
  have hb : s.testBit g = false := by simpa [inS] using hs
  have hsplit : List.range 6 = List.range g ++ g :: (List.range (5 - g)).map (g + 1 + ·) := by
    match g, hg with
    | 0, _ => decide
    | 1, _ => decide
    | 2, _ => decide
    | 3, _ => decide
    | 4, _ => decide
    | 5, _ => decide
  have ht : ∀ i, (s ||| 1 <<< g).testBit i = (s.testBit i || decide (g = i)) := by
    intro i
    rw [Nat.testBit_or, Nat.one_shiftLeft, Nat.testBit_two_pow]
  unfold sizeS
  rw [← List.countP_eq_length_filter, ← List.countP_eq_length_filter, hsplit, List.countP_append, List.countP_append, List.countP_cons, List.countP_cons]
  have m1 : (List.range g).countP (fun i => (s ||| 1 <<< g).testBit i) = (List.range g).countP (fun i => s.testBit i) :=
    List.countP_congr fun x hx => by rw [ht]; have := List.mem_range.1 hx; simp [show g ≠ x by omega]
  have m2 : ((List.range (5 - g)).map (g + 1 + ·)).countP (fun i => (s ||| 1 <<< g).testBit i) = ((List.range (5 - g)).map (g + 1 + ·)).countP (fun i => s.testBit i) :=
    List.countP_congr fun x hx => by rw [ht]; obtain ⟨y, _, rfl⟩ := List.mem_map.1 hx; simp [show g ≠ g + 1 + y by omega]
  rw [m1, m2, ht, hb]
  simp
  omega
theorem sizeS_all {n : Nat} (hn : n ≤ 6) : sizeS (allS n) = n := by
  match n, hn with
  | 0, _ => decide
  | 1, _ => decide
  | 2, _ => decide
  | 3, _ => decide
  | 4, _ => decide
  | 5, _ => decide
  | 6, _ => decide
theorem Ext.size {n : Nat} {cs : List Ch} (hn : n ≤ 6) (hc : ∀ c ∈ cs, ChOk n c) : ∀ (l : List Int) (lo s : Nat), Ext cs lo s l → sizeS (addS cs s l) = sizeS s + l.length ∧ (s < 2 ^ n → addS cs s l < 2 ^ n)
  | [], _, s, _ => ⟨rfl, fun h => h⟩
  | x :: r, lo, s, ⟨⟨h1, h2⟩, hf, hx⟩ => by
    obtain ⟨k1, k2⟩ := Ext.size hn hc r _ _ hx
    obtain ⟨⟨a, b⟩, _⟩ := getD_ok hc (i := x.toNat) (by omega)
    have a' : 0 ≤ frm cs x := a
    have b' : frm cs x < n := b
    have e : frm cs x = (((frm cs x).toNat : Nat) : Int) := by omega
    have hadd := sizeS_add (s := s) (g := (frm cs x).toNat) (by omega) (by rw [← e]; exact hf)
    refine ⟨?_, fun hs => k2 ?_⟩
    · have e2 : addS cs s (x :: r) = addS cs (s ||| 1 <<< (frm cs x).toNat) r := rfl
      rw [e2, k1, hadd, List.length_cons]
      omega
    · refine Nat.or_lt_two_pow hs ?_
      rw [Nat.one_shiftLeft]
      exact Nat.pow_lt_pow_right (by decide) (by omega)
/-- as many channels as galleries, just if one leads from each -/
theorem Ext.full {n : Nat} {cs : List Ch} (hn : n ≤ 6) (hc : ∀ c ∈ cs, ChOk n c) {l : List Int} (h : Ext cs 0 0 l) : l.length ≤ n ∧ (addS cs 0 l = allS n ↔ l.length = n) := by
  obtain ⟨k1, k2⟩ := Ext.size hn hc l 0 0 h
  have hb := k2 (Nat.two_pow_pos n)
  have z : sizeS 0 = 0 := by decide
  rw [z, Nat.zero_add] at k1
  have hall := sizeS_all hn
  have hle : addS cs 0 l ≠ allS n → sizeS (addS cs 0 l) < n := by
    intro hne
    have h64 : 2 ^ n ≤ 64 := Nat.pow_le_pow_right (n := 2) (by decide) hn
    have hp := Nat.two_pow_pos n
    have := sizeS_lt (d := addS cs 0 l) (e := allS n) (by unfold allS; omega) (fun i hi => by
      rw [allS, Nat.testBit_two_pow_sub_one]
      apply decide_eq_true
      apply Classical.byContradiction
      intro hni
      rw [Nat.testBit_lt_two_pow (Nat.lt_of_lt_of_le hb (Nat.pow_le_pow_right (by decide) (by omega)))] at hi
      cases hi) hne.symm
    omega
  by_cases he : addS cs 0 l = allS n
  · rw [he, hall] at k1
    exact ⟨by omega, ⟨fun _ => k1.symm, fun _ => he⟩⟩
  · have := hle he
    exact ⟨by omega, ⟨fun h => absurd h he, fun h => by omega⟩⟩
end Go.Proofs.Ytadamjleglckpaa.drn

/- Package drain: the list of all groups: what is in it, and its order. -/
namespace Go.Proofs.Ytadamjleglckpaa.drn
theorem range6 {g : Nat} (hg : g < 6) : List.range 6 = List.range g ++ g :: (List.range (5 - g)).map (g + 1 + ·) := by
  match g, hg with
  | 0, _ => decide
  | 1, _ => decide
  | 2, _ => decide
  | 3, _ => decide
  | 4, _ => decide
  | 5, _ => decide
theorem bit_one (i j : Nat) : (1 <<< i).testBit j = decide (i = j) := by rw [Nat.one_shiftLeft, Nat.testBit_two_pow]
theorem listS_cons {i r : Nat} (hi : i < 6) (hr : ∀ j, r.testBit j = true → i < j) : listS (1 <<< i ||| r) = (i : Int) :: listS r := by
  have hb : ∀ j, j ≤ i → r.testBit j = false := by
    intro j hj
    cases h : r.testBit j with
    | false => rfl
    | true => have := hr j h; omega
  unfold listS
  rw [range6 hi, List.filter_append, List.filter_append, List.filter_cons, List.filter_cons]
  have e1 : (List.range i).filter (fun j => (1 <<< i ||| r).testBit j) = [] := List.filter_eq_nil_iff.2 fun j hj => by
    have := List.mem_range.1 hj
    rw [Nat.testBit_or, bit_one, hb j (by omega)]
    simp; omega
  have e2 : (List.range i).filter (fun j => r.testBit j) = [] := List.filter_eq_nil_iff.2 fun j hj => by
    have := List.mem_range.1 hj
    rw [hb j (by omega)]; simp
  have e3 : ((List.range (5 - i)).map (i + 1 + ·)).filter (fun j => (1 <<< i ||| r).testBit j) = ((List.range (5 - i)).map (i + 1 + ·)).filter (fun j => r.testBit j) :=
    List.filter_congr fun j hj => by
      obtain ⟨y, _, rfl⟩ := List.mem_map.1 hj
      rw [Nat.testBit_or, bit_one]
      simp; omega
  rw [e1, e2, e3, Nat.testBit_or, bit_one, hb i (Nat.le_refl _)]
  simp
theorem listS_zero : listS 0 = [] := by decide
theorem listS_one {i : Nat} (hi : i < 6) : listS (1 <<< i) = [(i : Int)] := by
  have := listS_cons hi (r := 0) (fun j h => by simp at h)
  rwa [Nat.or_zero, listS_zero] at this
theorem bit_of_ne {s : Nat} (h : s ≠ 0) : ∃ j, s.testBit j = true := by
  apply Classical.byContradiction
  intro hn
  refine h (Nat.eq_of_testBit_eq fun i => ?_)
  rw [Nat.zero_testBit]
  cases hh : s.testBit i with
  | false => rfl
  | true => exact absurd ⟨i, hh⟩ hn
theorem mem_groupsS : ∀ (k i s : Nat), s ∈ groupsS k i ↔ s ≠ 0 ∧ ∀ j, s.testBit j = true → i ≤ j ∧ j < i + k
  | 0, i, s => by
    simp only [groupsS, List.not_mem_nil, false_iff]
    rintro ⟨h0, h⟩
    obtain ⟨j, hj⟩ := bit_of_ne h0
    have := h j hj
    omega
  | k + 1, i, s => by
    rw [groupsS, List.cons_append, List.mem_cons, List.mem_append, List.mem_map, mem_groupsS k (i + 1) s]
    constructor
    · rintro (rfl | ⟨r, hr, rfl⟩ | ⟨h0, h⟩)
      · refine ⟨by rw [Nat.one_shiftLeft]; exact Nat.ne_of_gt (Nat.two_pow_pos i), fun j hj => ?_⟩
        rw [bit_one] at hj
        have := of_decide_eq_true hj
        omega
      · obtain ⟨_, h⟩ := (mem_groupsS k (i + 1) r).1 hr
        refine ⟨fun e => ?_, fun j hj => ?_⟩
        · have := congrArg (fun x => x.testBit i) e
          simp only [Nat.testBit_or, bit_one, Nat.zero_testBit] at this
          simp at this
        · rw [Nat.testBit_or, bit_one, Bool.or_eq_true] at hj
          rcases hj with hj | hj
          · have := of_decide_eq_true hj; omega
          · have := h j hj; omega
      · exact ⟨h0, fun j hj => by have := h j hj; omega⟩
    · rintro ⟨h0, h⟩
      by_cases hi : s.testBit i = true
      · have hx : ∀ j, (s ^^^ 1 <<< i).testBit j = (s.testBit j && !decide (i = j)) := by
          intro j
          rw [Nat.testBit_xor, bit_one]
          by_cases e : i = j
          · subst e; rw [hi]; simp
          · simp [e]
        have hs : s = 1 <<< i ||| (s ^^^ 1 <<< i) := by
          apply Nat.eq_of_testBit_eq
          intro j
          rw [Nat.testBit_or, bit_one, hx]
          by_cases e : i = j
          · subst e; rw [hi]; simp
          · simp [e]
        by_cases h1 : s ^^^ 1 <<< i = 0
        · refine .inl ?_
          rw [h1, Nat.or_zero] at hs
          exact hs
        · refine .inr (.inl ⟨s ^^^ 1 <<< i, (mem_groupsS k (i + 1) _).2 ⟨h1, fun j hj => ?_⟩, hs.symm⟩)
          rw [hx, Bool.and_eq_true] at hj
          have a := h j hj.1
          have b : ¬ i = j := by simpa using hj.2
          omega
      · refine .inr (.inr ⟨h0, fun j hj => ?_⟩)
        have a := h j hj
        have b : i ≠ j := by rintro rfl; exact hi hj
        omega
theorem groupsS_list {k i s : Nat} (hk : i + k ≤ 6) (hs : s ∈ groupsS k i) : ∃ x r, listS s = x :: r ∧ (i : Int) ≤ x := by
  obtain ⟨h0, h⟩ := (mem_groupsS k i s).1 hs
  obtain ⟨j, hj⟩ := bit_of_ne h0
  have hm : (j : Int) ∈ listS s := by
    unfold listS
    refine List.mem_map.2 ⟨j, List.mem_filter.2 ⟨List.mem_range.2 (by have := h j hj; omega), hj⟩, rfl⟩
  cases hl : listS s with
  | nil => rw [hl] at hm; simp at hm
  | cons x r =>
    refine ⟨x, r, rfl, ?_⟩
    have hx : x ∈ listS s := by rw [hl]; simp
    unfold listS at hx
    obtain ⟨y, hy, rfl⟩ := List.mem_map.1 hx
    have := h y (List.mem_filter.1 hy).2
    omega
/-- groups come in ascending order of their lists (R6) -/
theorem groupsS_sorted : ∀ (k i : Nat), i + k ≤ 6 → (groupsS k i).Pairwise fun s t => List.Lex (· < ·) (listS s) (listS t)
  | 0, _, _ => by simp [groupsS]
  | k + 1, i, hk => by
    have ih := groupsS_sorted k (i + 1) (by omega)
    have hc : ∀ r ∈ groupsS k (i + 1), listS (1 <<< i ||| r) = (i : Int) :: listS r := fun r hr =>
      listS_cons (by omega) fun j hj => by have := ((mem_groupsS k (i + 1) r).1 hr).2 j hj; omega
    have ht : ∀ t ∈ groupsS k (i + 1), ∀ l, List.Lex (· < ·) ((i : Int) :: l) (listS t) := by
      intro t ht l
      obtain ⟨x, r, e, hx⟩ := groupsS_list (by omega) ht
      rw [e]
      exact List.Lex.rel (by omega)
    rw [groupsS, List.cons_append, List.pairwise_cons]
    refine ⟨?_, List.pairwise_append.2 ⟨?_, ih, ?_⟩⟩
    · intro t hm
      rw [listS_one (by omega)]
      rcases List.mem_append.1 hm with hm | hm
      · obtain ⟨r, hr, rfl⟩ := List.mem_map.1 hm
        rw [hc r hr]
        obtain ⟨x, r', e, _⟩ := groupsS_list (by omega) hr
        rw [e]
        exact List.Lex.cons List.Lex.nil
      · exact ht t hm []
    · rw [List.pairwise_map]
      refine ih.imp_of_mem fun {a b} ha hb hab => ?_
      rw [hc a ha, hc b hb]
      exact List.Lex.cons hab
    · intro a ha b hb
      obtain ⟨r, hr, rfl⟩ := List.mem_map.1 ha
      rw [hc r hr]
      exact ht b hb _
/-- a group, as a number -/
theorem mem_groups {n s : Nat} : s ∈ groupsS n 0 ↔ s ≠ 0 ∧ s < 2 ^ n := by
  rw [mem_groupsS]
  constructor
  · rintro ⟨h0, h⟩
    refine ⟨h0, Nat.lt_pow_two_of_testBit s fun i hi => ?_⟩
    cases hh : s.testBit i with
    | false => rfl
    | true => have := h i hh; omega
  · rintro ⟨h0, h⟩
    refine ⟨h0, fun j hj => ⟨Nat.zero_le _, ?_⟩⟩
    apply Classical.byContradiction
    intro hn
    rw [Nat.testBit_lt_two_pow (Nat.lt_of_lt_of_le h (Nat.pow_le_pow_right (by decide) (by omega)))] at hj
    cases hj
end Go.Proofs.Ytadamjleglckpaa.drn

/- Package drain: traps and stuck galleries (P2.10). -/
namespace Go.Proofs.Ytadamjleglckpaa.drn
/-- no channel leaves a group -/
def NoWay (cs : List Ch) (s : Nat) : Prop := ∀ c ∈ cs, leavesS s c = false
theorem leavingS_nil (cs : List Ch) (s : Nat) : (leavingS cs s).length = 0 ↔ NoWay cs s := by
  unfold leavingS
  rw [List.length_map, List.length_eq_zero_iff, List.filter_eq_nil_iff]
  constructor
  · intro h c hc
    obtain ⟨i, hi, rfl⟩ := List.getElem_of_mem hc
    have := h i (List.mem_range.2 hi)
    rw [List.getD_eq_getElem?_getD, List.getElem?_eq_getElem hi] at this
    simpa using this
  · intro h i hi
    have hi' := List.mem_range.1 hi
    rw [List.getD_eq_getElem?_getD, List.getElem?_eq_getElem hi']
    simpa using h _ (List.getElem_mem hi')
/-- no way leads out of a trap -/
theorem trap_stuck {n s : Nat} {cs : List Ch} (hs : s < 2 ^ n) (h : NoWay cs s) {g : Int} (hw : Wet n cs g) : inS s g = false := by
  induction hw with
  | mouth =>
    unfold inS
    rw [Int.toNat_natCast, Nat.testBit_lt_two_pow hs, Bool.and_false]
  | step c hc _ ih =>
    have hl := h c hc
    unfold leavesS at hl
    rw [ih] at hl
    simpa using hl
/-- the galleries that are stuck -/
def dryS (n : Nat) (cs : List Ch) : Nat := allS n - (allS n &&& wetS n cs)
theorem dryS_bit {n : Nat} {cs : List Ch} (hc : ∀ c ∈ cs, ChOk n c) (j : Nat) : (dryS n cs).testBit j = (decide (j < n) && !(wetS n cs).testBit j) := by
  have hb := wetS_bd hc
  have e1 : allS n &&& wetS n cs = wetS n cs := by
    apply Nat.eq_of_testBit_eq
    intro i
    rw [Nat.testBit_and, allS, Nat.testBit_two_pow_sub_one]
    by_cases hi : i < n
    · simp [hi]
    · rw [Nat.testBit_lt_two_pow (Nat.lt_of_lt_of_le hb (Nat.pow_le_pow_right (by decide) (by omega))), Bool.and_false]
  unfold dryS
  rw [e1, show allS n - wetS n cs = 2 ^ n - (wetS n cs + 1) by unfold allS; omega, Nat.testBit_two_pow_sub_succ hb]
/-- together they are a trap, if there are some -/
theorem dry_trap {n : Nat} {cs : List Ch} (hn : n ≤ 6) (hc : ∀ c ∈ cs, ChOk n c) : NoWay cs (dryS n cs) := by
  intro c hm
  obtain ⟨⟨a0, a1⟩, ⟨b0, b1⟩, _⟩ := hc c hm
  cases hl : leavesS (dryS n cs) c with
  | false => rfl
  | true =>
    unfold leavesS at hl
    rw [Bool.and_eq_true] at hl
    obtain ⟨h1, h2⟩ := hl
    have e1 : ((c.1.toNat : Nat) : Int) = c.1 := by omega
    have e2 : ((c.2.1.toNat : Nat) : Int) = c.2.1 := by omega
    have k1 : (wetS n cs).testBit c.1.toNat = false := by
      unfold inS at h1
      rw [dryS_bit hc] at h1
      simp at h1
      exact h1.2.2
    have k2 : Wet n cs c.2.1 := by
      by_cases hm : c.2.1 = n
      · rw [hm]; exact Wet.mouth
      · have hlt : c.2.1.toNat < n := by omega
        rw [← e2]
        refine (wetS_iff hn hc hlt).1 ?_
        unfold inS at h2 ⊢
        rw [dryS_bit hc] at h2
        rw [Int.toNat_natCast]
        simp [b0, hlt] at h2
        simp [h2]
        omega
    have k3 := (wetS_iff hn hc (g := c.1.toNat) (by omega)).2 (by rw [e1]; exact Wet.step c hm k2)
    unfold inS at k3
    rw [Int.toNat_natCast, k1] at k3
    simp at k3
/-- there is a trap just if some gallery is stuck -/
theorem trap_iff {n : Nat} {cs : List Ch} (hn : n ≤ 6) (hc : ∀ c ∈ cs, ChOk n c) : (∃ s ∈ groupsS n 0, NoWay cs s) ↔ wetS n cs ≠ allS n := by
  constructor
  · rintro ⟨s, hs, hw⟩ he
    obtain ⟨h0, hb⟩ := mem_groups.1 hs
    obtain ⟨j, hj⟩ := bit_of_ne h0
    have hjn : j < n := by
      apply Classical.byContradiction
      intro hno
      rw [Nat.testBit_lt_two_pow (Nat.lt_of_lt_of_le hb (Nat.pow_le_pow_right (by decide) (by omega)))] at hj
      cases hj
    have h1 := trap_stuck hb hw ((wetS_all hn hc).1 he j hjn)
    unfold inS at h1
    rw [Int.toNat_natCast, hj] at h1
    simp at h1
  · intro he
    refine ⟨dryS n cs, mem_groups.2 ⟨fun h0 => he ?_, ?_⟩, dry_trap hn hc⟩
    · refine (allS_iff (wetS_bd hc)).2 fun g hg => ?_
      have h1 := dryS_bit hc g
      rw [h0, Nat.zero_testBit] at h1
      unfold inS
      rw [Int.toNat_natCast]
      simp [hg] at h1
      simp [h1]
    · have := Nat.two_pow_pos n
      unfold dryS allS
      omega
end Go.Proofs.Ytadamjleglckpaa.drn

/- Package drain: there is a plan just if no gallery is stuck (P2.10). -/
namespace Go.Proofs.Ytadamjleglckpaa.drn
theorem Wet.mono {n : Nat} {A B : List Ch} (h : ∀ c ∈ A, c ∈ B) {g : Int} (hw : Wet n A g) : Wet n B g := by
  induction hw with
  | mouth => exact Wet.mouth
  | step c hc _ ih => exact Wet.step c (h c hc) ih
/-- the channel with a number -/
def chAt (cs : List Ch) (i : Nat) : Ch := cs.getD i (0, 0, 0)
/-- the numbers with a property, as a list -/
def selP (cs : List Ch) (P : Nat → Bool) : List Int := ((List.range cs.length).filter P).map fun i : Nat => (i : Int)
theorem mem_selP {cs : List Ch} {P : Nat → Bool} {c : Ch} : c ∈ chosenS cs (selP cs P) ↔ ∃ i, i < cs.length ∧ P i = true ∧ c = chAt cs i := by
  unfold chosenS selP
  rw [List.map_map, List.mem_map]
  constructor
  · rintro ⟨i, hi, rfl⟩
    obtain ⟨h1, h2⟩ := List.mem_filter.1 hi
    exact ⟨i, List.mem_range.1 h1, h2, by simp [chAt]⟩
  · rintro ⟨i, h1, h2, rfl⟩
    exact ⟨i, List.mem_filter.2 ⟨List.mem_range.2 h1, h2⟩, by simp [chAt]⟩
/-- some channels, one from each gallery of a set, by which all of them drain -/
def Drained (n : Nat) (cs : List Ch) (d : Nat) : Prop :=
  ∃ P : Nat → Bool, (∀ i, i < cs.length → P i = true → inS d (chAt cs i).1 = true) ∧
    (∀ i j, i < cs.length → j < cs.length → P i = true → P j = true → (chAt cs i).1 = (chAt cs j).1 → i = j) ∧
    ∀ g : Nat, inS d g = true → (∃ i, i < cs.length ∧ P i = true ∧ (chAt cs i).1 = g) ∧ Wet n (chosenS cs (selP cs P)) g
theorem drained_step {n : Nat} {cs : List Ch} (hc : ∀ c ∈ cs, ChOk n c) : ∀ (r : List Ch) (d : Nat), (∀ c ∈ r, c ∈ cs) → Drained n cs d → Drained n cs (wetStep n r d)
  | [], d, _, h => h
  | c :: r, d, hr, h => by
    unfold wetStep
    rw [List.foldl_cons]
    refine drained_step hc r _ (fun x hx => hr x (by simp [hx])) ?_
    split
    · rename_i hw
      have hm := hr c (by simp)
      obtain ⟨⟨a0, a1⟩, ⟨b0, b1⟩, _⟩ := hc c hm
      have e1 : ((c.1.toNat : Nat) : Int) = c.1 := by omega
      have e2 : ((c.2.1.toNat : Nat) : Int) = c.2.1 := by omega
      cases hin : inS d c.1 with
      | true =>
        have hd : d ||| 1 <<< c.1.toNat = d := by
          apply Nat.eq_of_testBit_eq
          intro j
          rw [Nat.testBit_or, bit_one]
          by_cases e : c.1.toNat = j
          · subst e
            unfold inS at hin
            rw [Bool.and_eq_true] at hin
            rw [hin.2]; rfl
          · simp [e]
        rw [hd]; exact h
      | false =>
        obtain ⟨P, p1, p2, p3⟩ := h
        obtain ⟨i, hi, rfl⟩ := List.getElem_of_mem hm
        have hci : chAt cs i = cs[i] := by rw [chAt, List.getD_eq_getElem?_getD, List.getElem?_eq_getElem hi]; rfl
        refine ⟨fun j => P j || decide (j = i), ?_, ?_, ?_⟩
        · intro j hj hp
          rw [inS_or, Bool.or_eq_true]
          rcases Bool.or_eq_true _ _ ▸ hp with hp | hp
          · exact .inl (p1 j hj hp)
          · have e := of_decide_eq_true hp
            subst e
            rw [hci, ← e1, inS_one]
            exact .inr (by simp; omega)
        · intro j k hj hk hpj hpk he
          rcases Bool.or_eq_true _ _ ▸ hpj with h1 | h1 <;> rcases Bool.or_eq_true _ _ ▸ hpk with h2 | h2
          · exact p2 j k hj hk h1 h2 he
          · have e := of_decide_eq_true h2
            subst e
            have := p1 j hj h1
            rw [he, hci, hin] at this
            cases this
          · have e := of_decide_eq_true h1
            subst e
            have := p1 k hk h2
            rw [← he, hci, hin] at this
            cases this
          · rw [of_decide_eq_true h1, of_decide_eq_true h2]
        · have hsub : ∀ x ∈ chosenS cs (selP cs P), x ∈ chosenS cs (selP cs fun j => P j || decide (j = i)) := by
            intro x hx
            obtain ⟨j, h1, h2, h3⟩ := mem_selP.1 hx
            exact mem_selP.2 ⟨j, h1, by simp [h2], h3⟩
          intro g hg
          rw [inS_or, Bool.or_eq_true] at hg
          rcases hg with hg | hg
          · obtain ⟨⟨j, h1, h2, h3⟩, h4⟩ := p3 g hg
            exact ⟨⟨j, h1, by simp [h2], h3⟩, h4.mono hsub⟩
          · rw [inS_one] at hg
            have eg := of_decide_eq_true hg
            have egi : (g : Int) = cs[i].1 := by omega
            refine ⟨⟨i, hi, by simp, by rw [hci, egi]⟩, ?_⟩
            rw [egi, ← hci]
            refine Wet.step (chAt cs i) (mem_selP.2 ⟨i, hi, by simp, rfl⟩) ?_
            rw [hci]
            simp only [Bool.or_eq_true, beq_iff_eq] at hw
            rcases hw with hw | hw
            · rw [hw]; exact Wet.mouth
            · rw [← e2] at hw ⊢
              exact (p3 _ hw).2.mono hsub
    · exact h
theorem drained_to {n : Nat} {cs : List Ch} (hc : ∀ c ∈ cs, ChOk n c) : ∀ k, Drained n cs (wetTo n cs k 0)
  | 0 => ⟨fun _ => false, by simp, by simp, fun g hg => by simp [wetTo, inS] at hg⟩
  | k + 1 => by rw [wetTo_step]; exact drained_step hc cs _ (fun _ h => h) (drained_to hc k)
theorem ext_of (cs : List Ch) : ∀ (L : List Nat) (lo s : Nat), L.Pairwise (· < ·) → (∀ i ∈ L, lo ≤ i ∧ i < cs.length ∧ 0 ≤ (chAt cs i).1 ∧ inS s (chAt cs i).1 = false) →
    (L.Pairwise fun i j => (chAt cs i).1 ≠ (chAt cs j).1) → Ext cs lo s (L.map fun i : Nat => (i : Int)) ∧ ∀ g : Nat, inS (addS cs s (L.map fun i : Nat => (i : Int))) g = true ↔ inS s g = true ∨ ∃ i ∈ L, (chAt cs i).1 = g
  | [], lo, s, _, _, _ => ⟨trivial, fun g => by simp [addS]⟩
  | i :: L, lo, s, h1, h2, h3 => by
    rw [List.pairwise_cons] at h1 h3
    obtain ⟨k1, k2, k3, k4⟩ := h2 i (by simp)
    have hf : frm cs (i : Int) = (chAt cs i).1 := by simp [frm, chAt]
    have ef : (((chAt cs i).1.toNat : Nat) : Int) = (chAt cs i).1 := by omega
    obtain ⟨m1, m2⟩ := ext_of cs L (i + 1) (s ||| 1 <<< (chAt cs i).1.toNat) h1.2 (fun j hj => by
      obtain ⟨q1, q2, q3, q4⟩ := h2 j (by simp [hj])
      refine ⟨h1.1 j hj, q2, q3, ?_⟩
      have ej : (((chAt cs j).1.toNat : Nat) : Int) = (chAt cs j).1 := by omega
      have hne := h3.1 j hj
      rw [inS_or, q4, ← ej, inS_one, Bool.false_or]
      exact decide_eq_false (by omega)) h3.2
    refine ⟨⟨⟨by show (lo : Int) ≤ (i : Int); omega, by show (i : Int) < _; omega⟩, by rw [hf]; exact k4, ?_⟩, fun g => ?_⟩
    · rw [hf, Int.toNat_natCast]; exact m1
    · have e : addS cs s ((i :: L).map fun i : Nat => (i : Int)) = addS cs (s ||| 1 <<< (chAt cs i).1.toNat) (L.map fun i : Nat => (i : Int)) := by
        rw [List.map_cons]
        show addS cs (s ||| 1 <<< (frm cs (i : Int)).toNat) _ = _
        rw [hf]
      rw [e, m2, inS_or, Bool.or_eq_true, inS_one, decide_eq_true_eq]
      constructor
      · rintro ((h | h) | ⟨j, hj, h⟩)
        · exact .inl h
        · exact .inr ⟨i, by simp, by omega⟩
        · exact .inr ⟨j, by simp [hj], h⟩
      · rintro (h | ⟨j, hj, h⟩)
        · exact .inl (.inl h)
        · rcases List.mem_cons.1 hj with rfl | hj
          · exact .inl (.inr (by omega))
          · exact .inr ⟨j, hj, h⟩
/-- there is a plan just if no gallery is stuck -/
theorem plan_iff {n : Nat} {cs : List Ch} (hn : n ≤ 6) (hc : ∀ c ∈ cs, ChOk n c) : (∃ l, Plan n cs l) ↔ wetS n cs = allS n := by
  have hsub : ∀ l : List Int, (∀ i ∈ l, 0 ≤ i ∧ i < cs.length) → ∀ c ∈ chosenS cs l, c ∈ cs := by
    intro l hl c hcm
    obtain ⟨i, hi, rfl⟩ := List.mem_map.1 hcm
    obtain ⟨i0, i1⟩ := hl i hi
    rw [List.getD_eq_getElem?_getD, List.getElem?_eq_getElem (show i.toNat < cs.length by omega)]
    exact List.getElem_mem _
  have hex : ∀ (l : List Int) (lo s : Nat), Ext cs lo s l → ∀ i ∈ l, 0 ≤ i ∧ i < cs.length := by
    intro l
    induction l with
    | nil => simp
    | cons x r ih =>
      rintro lo s ⟨⟨h1, h2⟩, _, hx⟩ i hi
      rcases List.mem_cons.1 hi with rfl | hi
      · exact ⟨by omega, h2⟩
      · exact ih _ _ hx i hi
  constructor
  · rintro ⟨l, h1, h2, h3⟩
    have hs := hsub l (hex l 0 0 h1)
    have hc2 : ∀ c ∈ chosenS cs l, ChOk n c := fun c hm => hc c (hs c hm)
    exact (wetS_all hn hc).2 fun g hg => ((wetS_all hn hc2).1 h3 g hg).mono hs
  · intro hw
    obtain ⟨P, p1, p2, p3⟩ := drained_to hc 7
    have hw' : wetTo n cs 7 0 = allS n := hw
    rw [hw'] at p1 p3
    have hall : ∀ g : Nat, g < n → inS (allS n) g = true := (allS_iff (s := allS n) (by have := Nat.two_pow_pos n; unfold allS; omega)).1 rfl
    have hok : ∀ i, i < cs.length → ChOk n (chAt cs i) := fun i hi => getD_ok hc hi
    obtain ⟨m1, m2⟩ := ext_of cs ((List.range cs.length).filter P) 0 0 (List.Pairwise.sublist List.filter_sublist List.pairwise_lt_range) (fun i hi => by
      have hi' := List.mem_range.1 (List.mem_filter.1 hi).1
      exact ⟨Nat.zero_le _, hi', (hok i hi').1.1, by simp [inS]⟩) (by
      refine List.Pairwise.imp_of_mem ?_ (List.Pairwise.sublist List.filter_sublist (List.pairwise_lt_range (n := cs.length)))
      intro a b ha hb hlt he
      obtain ⟨ha1, ha2⟩ := List.mem_filter.1 ha
      obtain ⟨hb1, hb2⟩ := List.mem_filter.1 hb
      have := p2 a b (List.mem_range.1 ha1) (List.mem_range.1 hb1) ha2 hb2 he
      omega)
    have hs := hsub _ (hex _ 0 0 m1)
    have hc2 : ∀ c ∈ chosenS cs (selP cs P), ChOk n c := fun c hm => hc c (hs c hm)
    refine ⟨selP cs P, m1, ?_, (wetS_all hn hc2).2 fun g hg => (p3 g (hall g hg)).2⟩
    refine (allS_iff ((Ext.size hn hc _ 0 0 m1).2 (Nat.two_pow_pos n))).2 fun g hg => (m2 g).2 (.inr ?_)
    obtain ⟨i, h1, h2, h3⟩ := (p3 g (hall g hg)).1
    exact ⟨i, List.mem_filter.2 ⟨List.mem_range.2 h1, h2⟩, h3⟩
end Go.Proofs.Ytadamjleglckpaa.drn

/- Package drain: ways by one channel from each gallery: none is longer than there are galleries. -/
namespace Go.Proofs.Ytadamjleglckpaa.drn
theorem countP_le_iff (n : Nat) (p q : Nat → Bool) (h : ∀ g, g < n → p g = true → q g = true) : (List.range n).countP p ≤ (List.range n).countP q ∧ ((List.range n).countP p = (List.range n).countP q → ∀ g, g < n → q g = true → p g = true) := by
  induction n with
  | zero => simp
  | succ n ih =>
    obtain ⟨i1, i2⟩ := ih fun g hg => h g (by omega)
    rw [List.range_succ, List.countP_append, List.countP_append, List.countP_singleton, List.countP_singleton]
    have hn := h n (by omega)
    cases hp : p n with
    | true =>
      rw [hn hp]
      refine ⟨by omega, fun he g hg hq => ?_⟩
      by_cases e : g = n
      · rw [e]; exact hp
      · exact i2 (by omega) g (by omega) hq
    | false =>
      cases hq : q n with
      | true =>
        simp only [if_true, Bool.false_eq_true, if_false]
        exact ⟨by omega, fun he => by omega⟩
      | false =>
        simp only [Bool.false_eq_true, if_false]
        refine ⟨by omega, fun he g hg hqg => ?_⟩
        by_cases e : g = n
        · rw [e, hq] at hqg; cases hqg
        · exact i2 (by omega) g (by omega) hqg
/-- what grows round by round, and stays once it has stayed, has come to rest after n rounds -/
theorem rests {n : Nat} (p : Nat → Nat → Bool) (mono : ∀ k g, g < n → p k g = true → p (k + 1) g = true)
    (stay : ∀ k, (∀ g, g < n → p (k + 1) g = true → p k g = true) → ∀ g, g < n → p (k + 2) g = true → p (k + 1) g = true) : ∀ k g, g < n → p k g = true → p n g = true := by
  have up : ∀ d k g, g < n → p k g = true → p (k + d) g = true := by
    intro d
    induction d with
    | zero => intro k g _ h; exact h
    | succ d ih => intro k g hg h; exact mono _ g hg (ih k g hg h)
  have still : ∀ i, (∀ g, g < n → p (i + 1) g = true → p i g = true) → ∀ d g, g < n → p (i + d) g = true → p i g = true := by
    intro i hi d
    have hall : ∀ d, ∀ g, g < n → p (i + d + 1) g = true → p (i + d) g = true := by
      intro d
      induction d with
      | zero => exact hi
      | succ d ih => intro g hg h; exact stay (i + d) ih g hg h
    induction d with
    | zero => intro g _ h; exact h
    | succ d ih => intro g hg h; exact ih g hg (hall d g hg h)
  have key : ∀ j, (∃ i, i ≤ j ∧ ∀ g, g < n → p (i + 1) g = true → p i g = true) ∨ j ≤ (List.range n).countP (p j) := by
    intro j
    induction j with
    | zero => exact .inr (Nat.zero_le _)
    | succ j ih =>
      rcases ih with ⟨i, hi, hs⟩ | hj
      · exact .inl ⟨i, by omega, hs⟩
      · obtain ⟨c1, c2⟩ := countP_le_iff n (p j) (p (j + 1)) (fun g hg h => mono j g hg h)
        by_cases he : (List.range n).countP (p j) = (List.range n).countP (p (j + 1))
        · exact .inl ⟨j, by omega, c2 he⟩
        · exact .inr (by omega)
  intro k g hg h
  rcases key n with ⟨i, hi, hs⟩ | hn
  · have h1 : p i g = true := by
      by_cases hk : i ≤ k
      · refine still i hs (k - i) g hg ?_
        rw [show i + (k - i) = k by omega]; exact h
      · have := up (i - k) k g hg h
        rwa [show k + (i - k) = i by omega] at this
    have := up (n - i) i g hg h1
    rwa [show i + (n - i) = n by omega] at this
  · have hall : (List.range n).countP (p n) = (List.range n).countP fun _ => true := by
      have h1 : (List.range n).countP (fun _ => true) = n := by simp
      have h2 : (List.range n).countP (p n) ≤ n := Nat.le_trans List.countP_le_length (by simp)
      omega
    exact (countP_le_iff n (p n) (fun _ => true) (fun _ _ _ => rfl)).2 hall g hg rfl

/-! ways by one channel from each gallery -/
/-- exactly one channel from each gallery -/
def OneEach (n : Nat) (ch : List Ch) : Prop := (∀ c ∈ ch, ChOk n c) ∧ (∀ g : Nat, g < n → ∃ c ∈ ch, c.1 = g) ∧ ch.Pairwise fun a b => a.1 ≠ b.1
def nextG (n : Nat) (ch : List Ch) (g : Int) : Int := (ch.find? fun c => c.1 == g).elim n fun c => c.2.1
/-- is the mouth reached from a gallery in at most so many steps? -/
def reach (n : Nat) (ch : List Ch) : Nat → Int → Bool
  | 0, g => g == n
  | k + 1, g => g == n || reach n ch k (nextG n ch g)
theorem next_mem {n : Nat} {ch : List Ch} (h : OneEach n ch) {g : Nat} (hg : g < n) : ∃ c ∈ ch, c.1 = g ∧ nextG n ch g = c.2.1 := by
  obtain ⟨c0, h1, h2⟩ := h.2.1 g hg
  cases hf : ch.find? fun c => c.1 == (g : Int) with
  | none =>
    have := List.find?_eq_none.1 hf c0 h1
    simp [h2] at this
  | some c =>
    have e := List.find?_some hf
    exact ⟨c, List.mem_of_find?_eq_some hf, by simpa using e, by rw [nextG, hf]; rfl⟩
theorem next_only {n : Nat} {ch : List Ch} (h : OneEach n ch) {c : Ch} (hc : c ∈ ch) : nextG n ch c.1 = c.2.1 := by
  obtain ⟨⟨a0, a1⟩, _⟩ := h.1 c hc
  obtain ⟨d, hd, h1, h2⟩ := next_mem h (g := c.1.toNat) (by omega)
  have e : ((c.1.toNat : Nat) : Int) = c.1 := by omega
  rw [e] at h1 h2
  have hdc : d = c := by
    obtain ⟨i, hi, rfl⟩ := List.getElem_of_mem hd
    obtain ⟨j, hj, rfl⟩ := List.getElem_of_mem hc
    have hp := List.pairwise_iff_getElem.1 h.2.2
    rcases Nat.lt_trichotomy i j with hij | hij | hij
    · exact absurd h1 (hp i j hi hj hij)
    · subst hij; rfl
    · exact absurd h1.symm (hp j i hj hi hij)
  rw [h2, hdc]
theorem reach_up (n : Nat) (ch : List Ch) : ∀ (k : Nat) (g : Int), reach n ch k g = true → reach n ch (k + 1) g = true
  | 0, g, h => by
    have h' : (g == (n : Int)) = true := h
    rw [reach, h']; rfl
  | k + 1, g, h => by
    rw [reach, Bool.or_eq_true] at h ⊢
    rcases h with h | h
    · exact .inl h
    · exact .inr (reach_up n ch k _ h)
theorem next_in {n : Nat} {ch : List Ch} (h : OneEach n ch) {g : Nat} (hg : g < n) : ∃ t : Nat, t ≤ n ∧ nextG n ch g = t := by
  obtain ⟨c, hc, _, e⟩ := next_mem h hg
  obtain ⟨_, ⟨b0, b1⟩, _⟩ := h.1 c hc
  exact ⟨c.2.1.toNat, by omega, by rw [e]; omega⟩
theorem reach_n (n : Nat) (ch : List Ch) (k : Nat) : reach n ch k n = true := by
  cases k <;> simp [reach]
/-- a way to the mouth takes no more steps than there are galleries -/
theorem reach_all {n : Nat} {ch : List Ch} (h : OneEach n ch) (k g : Nat) (hg : g < n) (hr : reach n ch k g = true) : reach n ch n g = true := by
  refine rests (n := n) (fun k g => reach n ch k g) (fun k g _ h => reach_up n ch k g h) ?_ k g hg hr
  intro k hs g hg hr
  have hr' : (((g : Int) == n) || reach n ch (k + 1) (nextG n ch g)) = true := hr
  show (((g : Int) == n) || reach n ch k (nextG n ch g)) = true
  rw [Bool.or_eq_true] at hr' ⊢
  rcases hr' with hr' | hr'
  · exact .inl hr'
  · refine .inr ?_
    obtain ⟨t, ht, e⟩ := next_in h hg
    rw [e] at hr' ⊢
    by_cases htn : t = n
    · rw [htn]; exact reach_n n ch k
    · exact hs t (by omega) hr'
theorem reach_wet {n : Nat} {ch : List Ch} (h : OneEach n ch) : ∀ (k t : Nat), t ≤ n → reach n ch k t = true → Wet n ch t
  | 0, t, _, hr => by
    have e : (t : Int) = n := by simpa [reach] using hr
    rw [e]; exact Wet.mouth
  | k + 1, t, ht, hr => by
    by_cases e : t = n
    · rw [e]; exact Wet.mouth
    · have hg : t < n := by omega
      rw [reach, Bool.or_eq_true] at hr
      rcases hr with hr | hr
      · simp at hr; omega
      · obtain ⟨c, hc, h1, h2⟩ := next_mem h hg
        obtain ⟨u, hu, e2⟩ := next_in h hg
        rw [e2] at hr
        have hw := reach_wet h k u hu hr
        rw [← h1]
        refine Wet.step c hc ?_
        rw [← h2, e2]
        exact hw
theorem wet_reach {n : Nat} {ch : List Ch} (h : OneEach n ch) {g : Int} (hw : Wet n ch g) : ∃ k, reach n ch k g = true := by
  induction hw with
  | mouth => exact ⟨0, reach_n n ch 0⟩
  | step c hc _ ih =>
    obtain ⟨k, hk⟩ := ih
    refine ⟨k + 1, ?_⟩
    rw [reach, next_only h hc, hk, Bool.or_true]
/-- all galleries drain by one channel from each, just if each way comes to the mouth within n steps -/
theorem wet_ways {n : Nat} {ch : List Ch} (hn : n ≤ 6) (h : OneEach n ch) : wetS n ch = allS n ↔ ∀ g : Nat, g < n → reach n ch n g = true := by
  rw [wetS_all hn h.1]
  constructor
  · intro hw g hg
    obtain ⟨k, hk⟩ := wet_reach h (hw g hg)
    exact reach_all h k g hg hk
  · intro hr g hg
    exact reach_wet h n g (by omega) (hr g hg)
end Go.Proofs.Ytadamjleglckpaa.drn

/- Package drain: the channels of a plan: one from each gallery. -/
namespace Go.Proofs.Ytadamjleglckpaa.drn
theorem ext_each {n : Nat} {cs : List Ch} (hc : ∀ c ∈ cs, ChOk n c) : ∀ (l : List Int) (lo s : Nat), Ext cs lo s l →
    (∀ x ∈ l, inS s (frm cs x) = false) ∧ (l.Pairwise fun x y => frm cs x ≠ frm cs y) ∧ ∀ g : Nat, inS (addS cs s l) g = true ↔ inS s g = true ∨ ∃ x ∈ l, frm cs x = g
  | [], _, _, _ => ⟨by simp, by simp, fun g => by simp [addS]⟩
  | x :: r, lo, s, ⟨⟨h1, h2⟩, h3, h4⟩ => by
    obtain ⟨k1, k2, k3⟩ := ext_each hc r _ _ h4
    have hok := getD_ok hc (i := x.toNat) (by omega)
    have hf0 : 0 ≤ frm cs x := hok.1.1
    have ef : (((frm cs x).toNat : Nat) : Int) = frm cs x := by omega
    have hsplit : ∀ y ∈ r, inS s (frm cs y) = false ∧ frm cs y ≠ frm cs x := by
      intro y hy
      have h := k1 y hy
      rw [inS_or, Bool.or_eq_false_iff] at h
      refine ⟨h.1, fun e => ?_⟩
      have h5 := h.2
      have h6 := inS_one (frm cs x).toNat (frm cs x).toNat
      rw [ef] at h6
      rw [e, h6] at h5
      simp at h5
    refine ⟨fun y hy => ?_, List.pairwise_cons.2 ⟨fun y hy e => (hsplit y hy).2 e.symm, k2⟩, fun g => ?_⟩
    · rcases List.mem_cons.1 hy with rfl | hy
      · exact h3
      · exact (hsplit y hy).1
    · have e : addS cs s (x :: r) = addS cs (s ||| 1 <<< (frm cs x).toNat) r := rfl
      rw [e, k3, inS_or, Bool.or_eq_true, inS_one, decide_eq_true_eq]
      constructor
      · rintro ((h | h) | ⟨y, hy, h⟩)
        · exact .inl h
        · exact .inr ⟨x, by simp, by omega⟩
        · exact .inr ⟨y, by simp [hy], h⟩
      · rintro (h | ⟨y, hy, h⟩)
        · exact .inl (.inl h)
        · rcases List.mem_cons.1 hy with rfl | hy
          · exact .inl (.inr (by omega))
          · exact .inr ⟨y, hy, h⟩
theorem each_of {n : Nat} {cs : List Ch} (hc : ∀ c ∈ cs, ChOk n c) {l : List Int} (h1 : Ext cs 0 0 l) (h2 : addS cs 0 l = allS n) : OneEach n (chosenS cs l) := by
  have hin : ∀ x ∈ l, 0 ≤ x ∧ x < cs.length := by
    have : ∀ (l : List Int) (lo s : Nat), Ext cs lo s l → ∀ x ∈ l, 0 ≤ x ∧ x < cs.length := by
      intro l
      induction l with
      | nil => simp
      | cons y r ih =>
        rintro lo s ⟨⟨a, b⟩, _, c⟩ x hx
        rcases List.mem_cons.1 hx with rfl | hx
        · exact ⟨by omega, b⟩
        · exact ih _ _ c x hx
    exact this l 0 0 h1
  obtain ⟨_, k2, k3⟩ := ext_each hc l 0 0 h1
  refine ⟨fun c hm => ?_, fun g hg => ?_, ?_⟩
  · obtain ⟨i, hi, rfl⟩ := List.mem_map.1 hm
    exact getD_ok hc (by have := hin i hi; omega)
  · have hall := (allS_iff (n := n) (s := allS n) (by have := Nat.two_pow_pos n; unfold allS; omega)).1 rfl g hg
    rw [← h2] at hall
    rcases (k3 g).1 hall with h | ⟨x, hx, h⟩
    · simp [inS] at h
    · exact ⟨_, List.mem_map.2 ⟨x, hx, rfl⟩, h⟩
  · unfold chosenS
    rw [List.pairwise_map]
    exact k2
theorem plan_each {n : Nat} {cs : List Ch} (hc : ∀ c ∈ cs, ChOk n c) {l : List Int} (h : Plan n cs l) : OneEach n (chosenS cs l) := each_of hc h.1 h.2.1
end Go.Proofs.Ytadamjleglckpaa.drn

