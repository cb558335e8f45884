/- Common words and small lemmas of the seat's walks: lists of structs in memory, worlds below a number of blocks, sums that fit into an int. -/
import Derived.WalkKit
import Derived.WalkSpells
import Derived.WalkLawsBesides
import Derived.Lib.Hide
import Derived.OwnWalk
import Derived.Deep.AppendLies
import Derived.Test.YtadamjleglckpaaGreatProg
import Derived.WalkSmall
import Derived.BigQuiet
import Derived.Deep.QuietTactic
import Derived.Laws.BitsAllLaws

namespace Go.Proofs.YtadamjleglckpaaGreat
open Go.RowKit

/-- from -b to b -/
def small (b x : Int) : Prop := -b ≤ x ∧ x ≤ b

theorem mul_small {a b x y : Int} (ha : small a x) (hb : small b y) : small (a * b) (x * y) := by
  obtain ⟨a1, a2⟩ := ha
  obtain ⟨b1, b2⟩ := hb
  have h1 : (x * y).natAbs ≤ (a * b).natAbs := by
    rw [Int.natAbs_mul, Int.natAbs_mul]
    exact Nat.mul_le_mul (by omega) (by omega)
  have h0 : 0 ≤ a := by omega
  have h2 : 0 ≤ b := by omega
  have h3 : 0 ≤ a * b := Int.mul_nonneg h0 h2
  constructor <;> omega

theorem small_mono {a b x : Int} (h : small a x) (hab : a ≤ b) : small b x := ⟨by have := h.1; omega, by have := h.2; omega⟩

/-- what a x + b y comes to: no wrap -/
theorem wrap_val {x y a b : Int} (hx : small 1000 x) (hy : small 1000 y) (ha : small 1000 a) (hb : small 1000 b) : wrap64 (wrap64 (a * x) + wrap64 (b * y)) = a * x + b * y := by
  have h1 := mul_small ha hx
  have h2 := mul_small hb hy
  obtain ⟨h1a, h1b⟩ := h1
  obtain ⟨h2a, h2b⟩ := h2
  rw [IntWalk.wrap64_in (a * x) ⟨by omega, by omega⟩, IntWalk.wrap64_in (b * y) ⟨by omega, by omega⟩, IntWalk.wrap64_in _ ⟨by omega, by omega⟩]

theorem bcell {W w1 : World} (hb : Below W.heap.size W w1) : (∀ b o, b < W.heap.size → w1.cell? ⟨b, o, none⟩ = W.cell? ⟨b, o, none⟩) ∧ (∀ b o, b < W.heap.size → w1.frozen? ⟨b, o, none⟩ = W.frozen? ⟨b, o, none⟩) :=
  ⟨fun b o h => hb.cell (p := ⟨b, o, none⟩) h, fun b o h => hb.frozen (p := ⟨b, o, none⟩) h⟩

theorem al0 {B N : Nat} {a w w1 : World} (h : Below B a w) (k : Below N w w1) (hN : B ≤ N) : Below B a w1 := h.trans (k.mono hN)
theorem al1 {B N : Nat} {a w w1 : World} {o : Obj} (h : Below B a w) (hB : B ≤ w.heap.size) (k : Below N (w.alloc o) w1) (hN : B ≤ N) : Below B a w1 := (h.alloc hB o).trans (k.mono hN)
theorem al2 {B N : Nat} {a w w1 : World} {o o' : Obj} (h : Below B a w) (hB : B ≤ w.heap.size) (k : Below N ((w.alloc o).alloc o') w1) (hN : B ≤ N) : Below B a w1 :=
  ((h.alloc hB o).alloc (by simp; omega) o').trans (k.mono hN)
theorem al3 {B N : Nat} {a w w1 : World} {o o' o'' : Obj} (h : Below B a w) (hB : B ≤ w.heap.size) (k : Below N (((w.alloc o).alloc o').alloc o'') w1) (hN : B ≤ N) : Below B a w1 :=
  (((h.alloc hB o).alloc (by simp; omega) o').alloc (by simp; omega) o'').trans (k.mono hN)
theorem al4 {B N : Nat} {a w w1 : World} {o o' o'' o3 : Obj} (h : Below B a w) (hB : B ≤ w.heap.size) (k : Below N ((((w.alloc o).alloc o').alloc o'').alloc o3) w1) (hN : B ≤ N) : Below B a w1 :=
  ((((h.alloc hB o).alloc (by simp; omega) o').alloc (by simp; omega) o'').alloc (by simp; omega) o3).trans (k.mono hN)

/-- galleries in memory: the slice of this address and length reads as the list -/
def RowG (w : World) (p : Option Addr) (gs : List (Int × Int × Int)) : Prop :=
  gs = [] ∨ ∃ b off, p = some ⟨b, off, none⟩ ∧ b < w.heap.size ∧ ∀ i, i < gs.length →
    w.cell? ⟨b, off + i * 3, none⟩ = some (.int .i64 (gs.getD i (0, 0, 0)).1) ∧ w.cell? ⟨b, off + i * 3 + 1, none⟩ = some (.int .i64 (gs.getD i (0, 0, 0)).2.1) ∧
    w.cell? ⟨b, off + i * 3 + 2, none⟩ = some (.int .i64 (gs.getD i (0, 0, 0)).2.2)

/-- places in memory -/
def RowP (w : World) (p : Option Addr) (ps : List (Int × Int)) : Prop :=
  ps = [] ∨ ∃ b off, p = some ⟨b, off, none⟩ ∧ b < w.heap.size ∧ ∀ i, i < ps.length →
    w.cell? ⟨b, off + i * 2, none⟩ = some (.int .i64 (ps.getD i (0, 0)).1) ∧ w.cell? ⟨b, off + i * 2 + 1, none⟩ = some (.int .i64 (ps.getD i (0, 0)).2)

/-- ints in memory -/
def RowI (w : World) (p : Option Addr) (xs : List Int) : Prop :=
  xs = [] ∨ ∃ b off, p = some ⟨b, off, none⟩ ∧ b < w.heap.size ∧ ∀ i, i < xs.length → w.cell? ⟨b, off + i, none⟩ = some (.int .i64 (xs.getD i 0))

theorem RowG.below {w w' : World} {p : Option Addr} {gs : List (Int × Int × Int)} (h : RowG w p gs) {B : Nat} (hB : w.heap.size ≤ B) (hb : Below B w w') : RowG w' p gs := by
  rcases h with h | ⟨b, off, rfl, hlt, hc⟩
  · exact .inl h
  · refine .inr ⟨b, off, rfl, Nat.lt_of_lt_of_le hlt hb.size, fun i hi => ?_⟩
    have e : ∀ o, w'.cell? ⟨b, o, none⟩ = w.cell? ⟨b, o, none⟩ := fun o => hb.cell (p := ⟨b, o, none⟩) (Nat.lt_of_lt_of_le hlt hB)
    rw [e, e, e]
    exact hc i hi
theorem RowP.below {w w' : World} {p : Option Addr} {gs : List (Int × Int)} (h : RowP w p gs) {B : Nat} (hB : w.heap.size ≤ B) (hb : Below B w w') : RowP w' p gs := by
  rcases h with h | ⟨b, off, rfl, hlt, hc⟩
  · exact .inl h
  · refine .inr ⟨b, off, rfl, Nat.lt_of_lt_of_le hlt hb.size, fun i hi => ?_⟩
    have e : ∀ o, w'.cell? ⟨b, o, none⟩ = w.cell? ⟨b, o, none⟩ := fun o => hb.cell (p := ⟨b, o, none⟩) (Nat.lt_of_lt_of_le hlt hB)
    rw [e, e]
    exact hc i hi
theorem RowI.below {w w' : World} {p : Option Addr} {gs : List Int} (h : RowI w p gs) {B : Nat} (hB : w.heap.size ≤ B) (hb : Below B w w') : RowI w' p gs := by
  rcases h with h | ⟨b, off, rfl, hlt, hc⟩
  · exact .inl h
  · refine .inr ⟨b, off, rfl, Nat.lt_of_lt_of_le hlt hb.size, fun i hi => ?_⟩
    rw [hb.cell (p := ⟨b, off + i, none⟩) (Nat.lt_of_lt_of_le hlt hB)]
    exact hc i hi

/-- the first index of a list at which a test says yes, or -1 -/
def firstIdx {α : Type} (f : α → Bool) : List α → Int
  | [] => -1
  | a :: l => if f a then 0 else if firstIdx f l < 0 then -1 else firstIdx f l + 1

theorem firstIdx_ge {α : Type} (f : α → Bool) : ∀ l : List α, -1 ≤ firstIdx f l
  | [] => by simp [firstIdx]
  | a :: l => by
    have := firstIdx_ge f l
    unfold firstIdx
    split
    · omega
    · split <;> omega

theorem firstIdx_any {α : Type} (f : α → Bool) : ∀ l : List α, decide (0 ≤ firstIdx f l) = l.any f
  | [] => by simp [firstIdx]
  | a :: l => by
    have ih := firstIdx_any f l
    rw [List.any_cons, ← ih, firstIdx]
    by_cases h : f a = true
    · simp [h]
    · by_cases h2 : firstIdx f l < 0
      · rw [if_neg h, if_pos h2, Bool.not_eq_true _ |>.mp h, Bool.false_or]
        simp; omega
      · rw [if_neg h, if_neg h2, Bool.not_eq_true _ |>.mp h, Bool.false_or]
        simp; omega

theorem firstIdx_hit {α : Type} (f : α → Bool) : ∀ (l : List α) (k : Nat) (hk : k < l.length), (l.take k).all (fun a => !f a) = true → f l[k] = true → firstIdx f l = k
  | [], k, hk, _, _ => by simp at hk
  | a :: l, 0, _, _, h => by simp at h; simp [firstIdx, h]
  | a :: l, k + 1, hk, h1, h2 => by
    simp only [List.take_succ_cons, List.all_cons, Bool.and_eq_true, Bool.not_eq_true'] at h1
    have ih := firstIdx_hit f l k (by simpa using hk) h1.2 (by simpa using h2)
    unfold firstIdx
    rw [ih]
    simp [h1.1]
    omega

theorem firstIdx_miss {α : Type} (f : α → Bool) : ∀ (l : List α), l.all (fun a => !f a) = true → firstIdx f l = -1
  | [], _ => rfl
  | a :: l, h => by
    simp only [List.all_cons, Bool.and_eq_true, Bool.not_eq_true'] at h
    unfold firstIdx
    rw [firstIdx_miss f l h.2]
    simp [h.1]

theorem ret_int {k : IntKind} {a b : Int} (h : a = b) : Ending.returned (.int k a) = .returned (.int k b) := by rw [h]
theorem ret_bool {a b : Bool} (h : a = b) : Ending.returned (.bool a) = .returned (.bool b) := by rw [h]

theorem getD_eq {α : Type} (l : List α) (k : Nat) (d : α) (h : k < l.length) : l.getD k d = l[k] := by
  simp [List.getD_eq_getElem?_getD, List.getElem?_eq_getElem h]

theorem all_take_succ {α : Type} (f : α → Bool) (l : List α) (k : Nat) (h : k < l.length) : (l.take (k + 1)).all f = ((l.take k).all f && f l[k]) := by
  rw [List.take_succ_eq_append_getElem h, List.all_append]
  simp
end Go.Proofs.YtadamjleglckpaaGreat

/- Package drain: what its functions answer, as plain functions over numbers and lists (no walk, no seat's numbers); the chapter's examples. -/
namespace Go.Proofs.YtadamjleglckpaaGreat.drn
/-- a channel: from, to, cost -/
abbrev Ch := Int × Int × Int
def isGal (n g : Int) : Bool := decide (0 ≤ g) && decide (g < n)
/-- the error of a channel -/
def chErr (n : Int) (c : Ch) : Int :=
  if !isGal n c.1 || (!isGal n c.2.1 && c.2.1 != n) then 2 else if c.1 == c.2.1 then 13 else if decide (c.2.2 < 0) || decide (20 < c.2.2) then 1 else 0
/-- the first error of channels, behind some that have none -/
def csErr (n : Int) : List Ch → List Ch → Int
  | _, [] => 0
  | s, c :: r => if chErr n c ≠ 0 then chErr n c else if s.any (fun d => d.1 == c.1 && d.2.1 == c.2.1) then 6 else csErr n (s ++ [c]) r
def errD (n : Int) (cs : List Ch) : Int := if n < 1 ∨ 6 < n then 1 else if 14 < cs.length then 3 else csErr n [] cs

/-! groups are numbers: bit g for gallery g -/
def inS (s : Nat) (g : Int) : Bool := decide (0 ≤ g) && s.testBit g.toNat
def leavesS (s : Nat) (c : Ch) : Bool := inS s c.1 && !inS s c.2.1
def leavingS (cs : List Ch) (s : Nat) : List Int := ((List.range cs.length).filter fun i => leavesS s (cs.getD i (0, 0, 0))).map fun i : Nat => (i : Int)
def listS (s : Nat) : List Int := ((List.range 6).filter fun i => s.testBit i).map fun i : Nat => (i : Int)
def sizeS (s : Nat) : Nat := ((List.range 6).filter fun i => s.testBit i).length
def allS (n : Nat) : Nat := 2 ^ n - 1
def setS (l : List Int) : Nat := l.foldl (fun s g => s ||| 1 <<< g.toNat) 0
/-- one round of drained: channels in their order -/
def wetStep (n : Nat) (cs : List Ch) (done : Nat) : Nat := cs.foldl (fun d c => if c.2.1 == (n : Int) || inS d c.2.1 then d ||| 1 <<< c.1.toNat else d) done
def wetTo (n : Nat) (cs : List Ch) : Nat → Nat → Nat
  | 0, d => d
  | k + 1, d => wetTo n cs k (wetStep n cs d)
/-- the galleries from which a way leads to the mouth -/
def wetS (n : Nat) (cs : List Ch) : Nat := wetTo n cs 7 0
/-- all groups of k galleries from one number on, in ascending order of their lists -/
def groupsS : Nat → Nat → List Nat
  | 0, _ => []
  | k + 1, i => (1 <<< i) :: (groupsS k (i + 1)).map (1 <<< i ||| ·) ++ groupsS k (i + 1)
/-- the first of those with the least number -/
def firstMin {α : Type} (f : α → Nat) : List α → Option α
  | [] => none
  | x :: r => match firstMin f r with
    | none => some x
    | some y => if f y < f x then some y else some x

def stuckOf (n : Nat) (cs : List Ch) : List Int × Int := if errD n cs ≠ 0 then ([], errD n cs) else (listS (allS n - (allS n &&& wetS n cs)), 0)
def trapOf (n : Nat) (cs : List Ch) : List Int × Int :=
  if errD n cs ≠ 0 then ([], errD n cs) else match firstMin sizeS ((groupsS n 0).filter fun s => (leavingS cs s).length == 0) with
    | none => ([], 13)
    | some s => (listS s, 0)
/-- is a number not greater than the one before it? -/
def notUp : Option Int → Int → Bool
  | some x, i => decide (i ≤ x)
  | none, _ => false
def groupErr (n : Int) : Option Int → List Int → Int
  | _, [] => 0
  | b, g :: r => if !isGal n g then 2 else if notUp b g then 7 else groupErr n (some g) r
def grErr (n : Int) (l : List Int) : Int := if l.length = 0 then 4 else groupErr n none l
def leavesOf (n : Nat) (cs : List Ch) (l : List Int) : List Int × Int := if errD n cs ≠ 0 then ([], errD n cs) else if grErr n l ≠ 0 then ([], grErr n l) else (leavingS cs (setS l), 0)
def narrowOf (n : Nat) (cs : List Ch) : List Int × Int × Int :=
  if errD n cs ≠ 0 then ([], 0, errD n cs) else match firstMin (fun s => (leavingS cs s).length) (groupsS n 0) with
    | none => ([], 0, 0)
    | some s => (listS s, (leavingS cs s).length, 0)

/-! plans -/
def chosenS (cs : List Ch) (l : List Int) : List Ch := l.map fun i => cs.getD i.toNat (0, 0, 0)
def planErr (cs : List Ch) : Option Int → Nat → List Int → Int × Nat
  | _, s, [] => (0, s)
  | b, s, i :: r => if !isGal cs.length i then (2, s) else if notUp b i then (7, s)
    else if inS s (cs.getD i.toNat (0, 0, 0)).1 then (6, s) else planErr cs (some i) (s ||| 1 <<< (cs.getD i.toNat (0, 0, 0)).1.toNat) r
def validOf (n : Nat) (cs : List Ch) (l : List Int) : Int :=
  if errD n cs ≠ 0 then errD n cs else if (planErr cs none 0 l).1 ≠ 0 then (planErr cs none 0 l).1
    else if (planErr cs none 0 l).2 ≠ allS n then 21 else if wetS n (chosenS cs l) ≠ allS n then 13 else 0
def costS (cs : List Ch) (l : List Int) : Int := l.foldl (fun k i => k + (cs.getD i.toNat (0, 0, 0)).2.2) 0
/-- plans that begin with some channels, the next one being one of the last k -/
def plansFrom (n : Nat) (cs : List Ch) : Nat → Nat → List Int → Nat → List (List Int)
  | 0, _, _, _ => []
  | k + 1, i, b, s =>
    (if inS s (cs.getD i (0, 0, 0)).1 then [] else
      if (s ||| 1 <<< (cs.getD i (0, 0, 0)).1.toNat) = allS n then (if wetS n (chosenS cs (b ++ [(i : Int)])) = allS n then [b ++ [(i : Int)]] else [])
      else plansFrom n cs k (i + 1) (b ++ [(i : Int)]) (s ||| 1 <<< (cs.getD i (0, 0, 0)).1.toNat)) ++ plansFrom n cs k (i + 1) b s
def plansS (n : Nat) (cs : List Ch) : List (List Int) := plansFrom n cs cs.length 0 [] 0
def cheapS (cs : List Ch) (ps : List (List Int)) : Option (List Int) := firstMin (fun p => (costS cs p).toNat) ps
def leastS (cs : List Ch) (ps : List (List Int)) : Int := match cheapS cs ps with | some p => costS cs p | none => 0
def countOf (n : Nat) (cs : List Ch) : Int × Int := if errD n cs ≠ 0 then (0, errD n cs) else ((plansS n cs).length, 0)
def cheapestOf (n : Nat) (cs : List Ch) : List Int × Int := if errD n cs ≠ 0 then ([], errD n cs) else match cheapS cs (plansS n cs) with | none => ([], 12) | some p => (p, 0)
def leastOf (n : Nat) (cs : List Ch) : Int × Int := if errD n cs ≠ 0 then (0, errD n cs) else if (plansS n cs).length = 0 then (0, 12) else (leastS cs (plansS n cs), 0)
def equalOf (n : Nat) (cs : List Ch) : Int × Int := if errD n cs ≠ 0 then (0, errD n cs) else if (plansS n cs).length = 0 then (0, 12) else (((plansS n cs).filter fun p => costS cs p == leastS cs (plansS n cs)).length, 0)
def hav (i : Int) (ps : List (List Int)) : List (List Int) := ps.filter fun p => p.any (· == i)
def oth (i : Int) (ps : List (List Int)) : List (List Int) := ps.filter fun p => !p.any (· == i)
def neededOf (n : Nat) (cs : List Ch) : List Int × Int :=
  if errD n cs ≠ 0 then ([], errD n cs) else if (plansS n cs).length = 0 then ([], 12) else (((List.range cs.length).filter fun i : Nat => (oth i (plansS n cs)).length == 0).map fun i : Nat => (i : Int), 0)
def withoutOf (n : Nat) (cs : List Ch) (i : Int) : Int × Int :=
  if errD n cs ≠ 0 then (0, errD n cs) else if !isGal cs.length i then (0, 2) else if (oth i (plansS n cs)).length = 0 then (0, 12) else (leastS cs (oth i (plansS n cs)) - leastS cs (plansS n cs), 0)
def priceOf (n : Nat) (cs : List Ch) (i : Int) : Int × Int :=
  if errD n cs ≠ 0 then (0, errD n cs) else if !isGal cs.length i then (0, 2) else if (hav i (plansS n cs)).length = 0 then (0, 12) else if (oth i (plansS n cs)).length = 0 then (0, 13)
    else (leastS cs (oth i (plansS n cs)) - (leastS cs (hav i (plansS n cs)) - (cs.getD i.toNat (0, 0, 0)).2.2), 0)
def apartFrom (p : List Int) (ps : List (List Int)) : List (List Int) := ps.filter fun q => !q.any fun c => p.any (· == c)
/-- the first k + 1 of plans that are apart; the first number bounds the steps -/
def apartF : Nat → Nat → List (List Int) → Option (List (List Int))
  | 0, _, _ => none
  | _ + 1, _, [] => none
  | _ + 1, 0, p :: _ => some [p]
  | f + 1, k + 1, p :: r => match apartF f k (apartFrom p r) with
    | some l => some (p :: l)
    | none => apartF f (k + 1) r
def apartS (k : Nat) (ps : List (List Int)) : Option (List (List Int)) := apartF (ps.length + 1) k ps
def apartOf (n : Nat) (cs : List Ch) (k : Int) : List (List Int) × Int :=
  if errD n cs ≠ 0 then ([], errD n cs) else if k < 1 ∨ 4 < k then ([], 1) else match apartS (k.toNat - 1) (plansS n cs) with | none => ([], 12) | some l => (l, 0)
def mostS (ps : List (List Int)) : Nat := ((List.range (ps.length + 1)).find? fun k => (apartS k ps).isNone).getD 0
def mostOf (n : Nat) (cs : List Ch) : Int × Int := if errD n cs ≠ 0 then (0, errD n cs) else (mostS (plansS n cs), 0)

/-! dues; the third number of a channel is what is left of it -/
def payersS (n : Nat) (cs : List Ch) : List Nat := (groupsS n 0).filter fun s => !cs.any fun c => c.2.2 == 0 && leavesS s c
def payerS (n : Nat) (cs : List Ch) : Option Nat := (payersS n cs).find? fun s => !(payersS n cs).any fun t => t != s && t &&& s == t
def leastLeft (cs : List Ch) (s : Nat) : Int := (cs.filter (leavesS s)).foldl (fun m c => min m c.2.2) 9223372036854775807
def takeLeft (cs : List Ch) (s : Nat) (k : Int) : List Ch := cs.map fun c => if leavesS s c then (c.1, c.2.1, c.2.2 - k) else c
/-- the dues of a hill; the first number bounds the steps (each makes nothing of what is left of some channel) -/
def duesF (n : Nat) : Nat → List Ch → List (List Int × Int)
  | 0, _ => []
  | f + 1, cs => match payerS n cs with
    | none => []
    | some s => (listS s, leastLeft cs s) :: duesF n f (takeLeft cs s (leastLeft cs s))
def duesOf (n : Nat) (cs : List Ch) : List (List Int × Int) × Int := if errD n cs ≠ 0 then ([], errD n cs) else if wetS n cs ≠ allS n then ([], 12) else (duesF n (cs.length + 1) cs, 0)
def dsErr (n : Int) : List (List Int × Int) → Int
  | [] => 0
  | d :: r => if grErr n d.1 ≠ 0 then grErr n d.1 else if d.2 < 1 ∨ 280 < d.2 then 1 else dsErr n r
def duErr (n : Int) (ds : List (List Int × Int)) : Int := if 20 < ds.length then 3 else dsErr n ds
def chargeS (cs : List Ch) (ds : List (List Int × Int)) : List Int := cs.map fun c => ds.foldl (fun k d => if leavesS (setS d.1) c then k + d.2 else k) 0
def chargedOf (n : Nat) (cs : List Ch) (ds : List (List Int × Int)) : List Int × Int := if errD n cs ≠ 0 then ([], errD n cs) else if duErr n ds ≠ 0 then ([], duErr n ds) else (chargeS cs ds, 0)
def provesOf (n : Nat) (cs : List Ch) (l : List Int) (ds : List (List Int × Int)) : Int :=
  if validOf n cs l ≠ 0 then validOf n cs l else if duErr n ds ≠ 0 then duErr n ds
    else if (List.zip (chargeS cs ds) cs).any (fun x => decide (x.2.2.2 < x.1)) then 15 else if ds.foldl (fun k d => k + d.2) 0 ≠ costS cs l then 14 else 0
/-- the way from a place by a plan; the first number bounds the steps -/
def wayF (n : Nat) (cs : List Ch) : Nat → Int → List Int
  | 0, g => [g]
  | f + 1, g => if g = n then [g] else g :: wayF n cs f ((cs.find? fun c => c.1 == g).elim n fun c => c.2.1)
def wayOf (n : Nat) (cs : List Ch) (l : List Int) (g : Int) : List Int × Int := if validOf n cs l ≠ 0 then ([], validOf n cs l) else if !isGal n g then ([], 2) else (wayF n (chosenS cs l) n g, 0)

/-! the examples -/
def exH : List Ch := [(0, 1, 1), (1, 0, 1), (0, 3, 5), (1, 3, 4), (2, 1, 2), (2, 3, 3)]
def exK : List Ch := [(0, 1, 2), (1, 0, 3)]
def exL : List Ch := [(0, 1, 0)]
theorem ex_errD : errD 0 [] = 1 ∧ errD 1 [(0, 0, 1)] = 13 ∧ errD 1 [(0, 2, 1)] = 2 ∧ errD 1 [(0, 1, 21)] = 1 ∧ errD 1 [(0, 1, 1), (0, 1, 2)] = 6 := by decide +kernel
theorem ex_stuck : stuckOf 3 exH = ([], 0) ∧ stuckOf 2 exK = ([0, 1], 0) := by decide +kernel
theorem ex_trap : trapOf 3 exH = ([], 13) ∧ trapOf 2 exK = ([0, 1], 0) := by decide +kernel
theorem ex_leaves : leavesOf 3 exH [0, 1] = ([2, 3], 0) ∧ leavesOf 3 exH [1, 2] = ([1, 3, 5], 0) ∧ leavesOf 3 exH [] = ([], 4) ∧ leavesOf 3 exH [2, 1] = ([], 7) := by decide +kernel
theorem ex_narrow : narrowOf 3 exH = ([0], 2, 0) ∧ narrowOf 2 exK = ([0, 1], 0, 0) := by decide +kernel
theorem ex_valid : validOf 3 exH [0, 3, 4] = 0 ∧ validOf 3 exH [0, 1, 4] = 13 ∧ validOf 3 exH [0, 2, 3] = 6 ∧ validOf 3 exH [0, 3] = 21 ∧ validOf 3 exH [3, 0, 4] = 7 ∧ validOf 3 exH [0, 3, 9] = 2 := by decide +kernel
theorem ex_plans : cheapestOf 3 exH = ([0, 3, 4], 0) ∧ leastOf 3 exH = (7, 0) ∧ leastOf 2 exK = (0, 12) ∧ countOf 3 exH = (6, 0) ∧ countOf 2 exK = (0, 0) ∧ countOf 1 exL = (1, 0) ∧ equalOf 3 exH = (1, 0) := by decide +kernel
theorem ex_worth : neededOf 3 exH = ([], 0) ∧ neededOf 1 exL = ([0], 0) ∧ withoutOf 3 exH 3 = (1, 0) ∧ withoutOf 3 exH 2 = (0, 0) ∧ withoutOf 1 exL 0 = (0, 12) ∧ priceOf 3 exH 2 = (4, 0) ∧ priceOf 3 exH 3 = (5, 0) ∧ priceOf 3 exH 1 = (0, 0) ∧ priceOf 1 exL 0 = (0, 13) := by decide +kernel
theorem ex_apart : apartOf 3 exH 2 = ([[0, 3, 4], [1, 2, 5]], 0) ∧ apartOf 3 exH 3 = ([], 12) ∧ apartOf 3 exH 5 = ([], 1) ∧ mostOf 3 exH = (2, 0) ∧ mostOf 2 exK = (0, 0) := by decide +kernel
theorem ex_dues : duesOf 3 exH = ([([0], 1), ([1], 1), ([0, 1], 3), ([2], 2)], 0) ∧ duesOf 2 exK = ([], 12) ∧ duesOf 1 exL = ([], 0) := by decide +kernel
theorem ex_proves : chargedOf 3 exH [([0, 1], 3), ([2], 2)] = ([0, 0, 3, 3, 2, 2], 0) ∧ provesOf 3 exH [0, 3, 4] [([0], 1), ([1], 1), ([0, 1], 3), ([2], 2)] = 0 ∧ provesOf 3 exH [0, 3, 5] [([0], 1), ([1], 1), ([0, 1], 3), ([2], 2)] = 14 ∧ provesOf 3 exH [0, 3, 4] [([0], 2)] = 15 := by decide +kernel
theorem ex_way : wayOf 3 exH [0, 3, 4] 2 = ([2, 1, 3], 0) ∧ wayOf 3 exH [0, 3, 4] 3 = ([], 2) := by decide +kernel
end Go.Proofs.YtadamjleglckpaaGreat.drn

/- The stage-2 seat's kit, for any program: rows of values in memory, rows that a call has made itself, appends to them, worlds that differ above a bound only. -/
namespace Go.Proofs.YtadamjleglckpaaGreat.drn
open Go.RowKit

theorem _root_.Go.RowKit.Below.on {w W w1 : World} (h0 : Below w.heap.size w W) (h1 : Below W.heap.size W w1) : Below w.heap.size w w1 := h0.trans (h1.mono h0.size)
/-- values in memory -/
def RowV (w : World) (q : Option Addr) (vs : List Value) : Prop :=
  vs = [] ∨ ∃ b off, q = some ⟨b, off, none⟩ ∧ b < w.heap.size ∧ ∀ (i : Nat) (v : Value), vs[i]? = some v → w.cell? ⟨b, off + i, none⟩ = some v
theorem RowV.nil (w : World) (q : Option Addr) : RowV w q [] := .inl rfl
theorem RowV.below {w w' : World} {q : Option Addr} {vs : List Value} (h : RowV w q vs) {N : Nat} (hN : w.heap.size ≤ N) (hb : Below N w w') : RowV w' q vs := by
  rcases h with h | ⟨b, off, e, hz, hc⟩
  · exact .inl h
  · exact .inr ⟨b, off, e, Nat.lt_of_lt_of_le hz hb.size, fun i v hi => (hb.cell (p := ⟨b, off + i, none⟩) (Nat.lt_of_lt_of_le hz hN)).trans (hc i v hi)⟩
/-- a row that lies below a bound stays where only what is above the bound may change -/
theorem RowV.keep {w w' : World} {q : Option Addr} {vs : List Value} (h : RowV w q vs) {N : Nat} (hN : ∀ a, q = some a → a.block < N) (hb : Below N w w') : RowV w' q vs := by
  rcases h with h | ⟨b, off, e, hz, hc⟩
  · exact .inl h
  · have := hN _ e
    exact .inr ⟨b, off, e, Nat.lt_of_lt_of_le hz hb.size, fun i v hi => (hb.cell (p := ⟨b, off + i, none⟩) this).trans (hc i v hi)⟩
theorem RowV.here {w : World} {q : Option Addr} {vs : List Value} (h : RowV w q vs) {k : Nat} (hk : k < vs.length) :
    ∃ b off, q = some ⟨b, off, none⟩ ∧ b < w.heap.size ∧ ∀ (i : Nat) (v : Value), vs[i]? = some v → w.cell? ⟨b, off + i, none⟩ = some v := by
  rcases h with rfl | h
  · simp at hk
  · exact h
theorem RowV.at {w wr : World} {q : Option Addr} {vs : List Value} (h : RowV w q vs) {k : Nat} (hk : k < vs.length) {N : Nat} (hN : w.heap.size ≤ N) (hb : Below N w wr) :
    ∃ b off, q = some ⟨b, off, none⟩ ∧ b < w.heap.size ∧ ∀ (i : Nat) (v : Value), vs[i]? = some v → wr.cell? ⟨b, off + i, none⟩ = some v := by
  obtain ⟨b, off, e, hz, hc⟩ := h.here hk
  exact ⟨b, off, e, hz, fun i v hi => (hb.cell (p := ⟨b, off + i, none⟩) (Nat.lt_of_lt_of_le hz hN)).trans (hc i v hi)⟩

def flatI (xs : List Int) : List Value := xs.map (Value.int .i64)
def flatU (ss : List Nat) : List Value := ss.map fun s : Nat => Value.int .u64 s
def flatT (cs : List Ch) : List Value := cs.flatMap fun c => [.int .i64 c.1, .int .i64 c.2.1, .int .i64 c.2.2]
/-- a place, as the value of an interface -/
def plV (n : Nat) (g : Int) : Value := .iface (if g = n then 151 else 124) (.int .i64 g)
def flatC (n : Nat) (cs : List Ch) : List Value := cs.flatMap fun c => [.int .i64 c.1, plV n c.2.1, .int .i64 c.2.2]
theorem flatI_snoc (xs : List Int) (x : Int) : flatI (xs ++ [x]) = flatI xs ++ [.int .i64 x] := by simp [flatI]
theorem flatU_snoc (xs : List Nat) (x : Nat) : flatU (xs ++ [x]) = flatU xs ++ [.int .u64 x] := by simp [flatU]
theorem flatC_snoc (n : Nat) (xs : List Ch) (c : Ch) : flatC n (xs ++ [c]) = flatC n xs ++ [.int .i64 c.1, plV n c.2.1, .int .i64 c.2.2] := by simp [flatC]
theorem flatI_length (xs : List Int) : (flatI xs).length = xs.length := by simp [flatI]
theorem flatU_length (xs : List Nat) : (flatU xs).length = xs.length := by simp [flatU]
theorem flatC_length (n : Nat) : ∀ xs : List Ch, (flatC n xs).length = xs.length * 3
  | [] => rfl
  | c :: r => by have := flatC_length n r; simp only [flatC, List.flatMap_cons, List.length_append, List.length_cons, List.length_nil] at *; omega
theorem flatT_length : ∀ xs : List Ch, (flatT xs).length = xs.length * 3
  | [] => rfl
  | c :: r => by have := flatT_length r; simp only [flatT, List.flatMap_cons, List.length_append, List.length_cons, List.length_nil] at *; omega
theorem flatI_get (xs : List Int) (i : Nat) (h : i < xs.length) : (flatI xs)[i]? = some (.int .i64 (xs.getD i 0)) := by
  rw [getD_eq xs i 0 h]; simp [flatI, List.getElem?_eq_getElem h]
theorem flatU_get (xs : List Nat) (i : Nat) (h : i < xs.length) : (flatU xs)[i]? = some (.int .u64 (xs.getD i 0 : Nat)) := by
  rw [getD_eq xs i 0 h]; simp [flatU, List.getElem?_eq_getElem h]
theorem flatT_get : ∀ (gs : List Ch) (i : Nat), i < gs.length → (flatT gs)[i * 3]? = some (.int .i64 (gs.getD i (0, 0, 0)).1) ∧ (flatT gs)[i * 3 + 1]? = some (.int .i64 (gs.getD i (0, 0, 0)).2.1) ∧ (flatT gs)[i * 3 + 2]? = some (.int .i64 (gs.getD i (0, 0, 0)).2.2)
  | [], i, h => by simp at h
  | g :: gs, 0, _ => by simp [flatT]
  | g :: gs, i + 1, h => by
    have ih := flatT_get gs i (by simpa using h)
    have e : flatT (g :: gs) = .int .i64 g.1 :: .int .i64 g.2.1 :: .int .i64 g.2.2 :: flatT gs := by simp [flatT]
    rw [e, show (i + 1) * 3 = i * 3 + 1 + 1 + 1 from by omega]
    simpa using ih
theorem flatC_get (n : Nat) : ∀ (gs : List Ch) (i : Nat), i < gs.length → (flatC n gs)[i * 3]? = some (.int .i64 (gs.getD i (0, 0, 0)).1) ∧ (flatC n gs)[i * 3 + 1]? = some (plV n (gs.getD i (0, 0, 0)).2.1) ∧ (flatC n gs)[i * 3 + 2]? = some (.int .i64 (gs.getD i (0, 0, 0)).2.2)
  | [], i, h => by simp at h
  | g :: gs, 0, _ => by simp [flatC]
  | g :: gs, i + 1, h => by
    have ih := flatC_get n gs i (by simpa using h)
    have e : flatC n (g :: gs) = .int .i64 g.1 :: plV n g.2.1 :: .int .i64 g.2.2 :: flatC n gs := by simp [flatC]
    rw [e, show (i + 1) * 3 = i * 3 + 1 + 1 + 1 from by omega]
    simpa using ih

/-- triples in memory, read at one of them -/
theorem rowT_at {w wr : World} {q : Option Addr} {cs : List Ch} (h : RowV w q (flatT cs)) {k : Nat} (hk : k < cs.length) {N : Nat} (hN : w.heap.size ≤ N) (hb : Below N w wr) :
    ∃ b off, q = some ⟨b, off, none⟩ ∧ b < w.heap.size ∧ wr.cell? ⟨b, off + k * 3, none⟩ = some (.int .i64 (cs.getD k (0, 0, 0)).1) ∧
      wr.cell? ⟨b, off + k * 3 + 1, none⟩ = some (.int .i64 (cs.getD k (0, 0, 0)).2.1) ∧ wr.cell? ⟨b, off + k * 3 + 2, none⟩ = some (.int .i64 (cs.getD k (0, 0, 0)).2.2) := by
  obtain ⟨b, off, e, hz, hc⟩ := h.at (k := 0) (by rw [flatT_length]; omega) hN hb
  obtain ⟨g0, g1, g2⟩ := flatT_get cs k hk
  exact ⟨b, off, e, hz, hc _ _ g0, by rw [Nat.add_assoc]; exact hc _ _ g1, by rw [Nat.add_assoc]; exact hc _ _ g2⟩
theorem rowC_at {w wr : World} {n : Nat} {q : Option Addr} {cs : List Ch} (h : RowV w q (flatC n cs)) {k : Nat} (hk : k < cs.length) {N : Nat} (hN : w.heap.size ≤ N) (hb : Below N w wr) :
    ∃ b off, q = some ⟨b, off, none⟩ ∧ b < w.heap.size ∧ wr.cell? ⟨b, off + k * 3, none⟩ = some (.int .i64 (cs.getD k (0, 0, 0)).1) ∧
      wr.cell? ⟨b, off + k * 3 + 1, none⟩ = some (plV n (cs.getD k (0, 0, 0)).2.1) ∧ wr.cell? ⟨b, off + k * 3 + 2, none⟩ = some (.int .i64 (cs.getD k (0, 0, 0)).2.2) := by
  obtain ⟨b, off, e, hz, hc⟩ := h.at (k := 0) (by rw [flatC_length]; omega) hN hb
  obtain ⟨g0, g1, g2⟩ := flatC_get n cs k hk
  exact ⟨b, off, e, hz, hc _ _ g0, by rw [Nat.add_assoc]; exact hc _ _ g1, by rw [Nat.add_assoc]; exact hc _ _ g2⟩
theorem rowI_at {w wr : World} {q : Option Addr} {xs : List Int} (h : RowV w q (flatI xs)) {k : Nat} (hk : k < xs.length) {N : Nat} (hN : w.heap.size ≤ N) (hb : Below N w wr) :
    ∃ b off, q = some ⟨b, off, none⟩ ∧ b < w.heap.size ∧ wr.cell? ⟨b, off + k, none⟩ = some (.int .i64 (xs.getD k 0)) := by
  obtain ⟨b, off, e, hz, hc⟩ := h.at (k := k) (by rw [flatI_length]; exact hk) hN hb
  exact ⟨b, off, e, hz, hc _ _ (flatI_get xs k hk)⟩
theorem rowU_at {w wr : World} {q : Option Addr} {xs : List Nat} (h : RowV w q (flatU xs)) {k : Nat} (hk : k < xs.length) {N : Nat} (hN : w.heap.size ≤ N) (hb : Below N w wr) :
    ∃ b off, q = some ⟨b, off, none⟩ ∧ b < w.heap.size ∧ wr.cell? ⟨b, off + k, none⟩ = some (.int .u64 (xs.getD k 0 : Nat)) := by
  obtain ⟨b, off, e, hz, hc⟩ := h.at (k := k) (by rw [flatU_length]; exact hk) hN hb
  exact ⟨b, off, e, hz, hc _ _ (flatU_get xs k hk)⟩

theorem addr_add (g j : Nat) : (⟨g, 0, none⟩ : Addr).add j = ⟨g, j, none⟩ := by unfold Addr.add; split <;> simp_all
theorem addr_add_off (b off j : Nat) : (⟨b, off, none⟩ : Addr).add j = ⟨b, off + j, none⟩ := by unfold Addr.add; split <;> simp_all
/-- what owns a row reads as the values -/
theorem rowV_of_owns {w : World} {base : Nat} {e : TypeId} {size : Nat} {v : Value} {n : Nat} {vs : List Value} (h : w.ownsRow base e size v n vs) (h0 : n = 0 → vs = []) :
    ∃ q cap, v = .slice q n cap ∧ RowV w q vs ∧ (q = none → cap = 0) ∧ ∀ a, q = some a → base ≤ a.block ∧ a.block < w.heap.size := by
  have hlt := h.lt
  have hc := fun g hg => h.cells (g := g) hg
  obtain ⟨_, ⟨rfl, hn⟩ | ⟨g, cap, cur, rfl, hb, _⟩⟩ := h
  · exact ⟨none, 0, by rw [hn], .inl (h0 hn), fun _ => rfl, by simp⟩
  · refine ⟨_, cap, rfl, .inr ⟨g, 0, rfl, (hlt g rfl).2, fun i u hi => ?_⟩, by simp, fun a ha => ?_⟩
    · rw [Nat.zero_add, ← addr_add g i]
      exact hc g rfl _ _ hi
    · injection ha with ha; subst ha; exact ⟨hb, (hlt g rfl).2⟩
theorem owns_below {w w' : World} {base : Nat} {e : TypeId} {size : Nat} {v : Value} {n : Nat} {xs : List Value} (h : w.ownsRow base e size v n xs) {N : Nat} (hN : w.heap.size ≤ N) (hb : Below N w w') : w'.ownsRow base e size v n xs := by
  have hlt := h.lt
  obtain ⟨h1, h2 | ⟨g, cap, cur, rfl, hg, hh, r⟩⟩ := h
  · exact ⟨h1, .inl h2⟩
  · have := (hlt g rfl).2
    exact ⟨h1, .inr ⟨g, cap, cur, rfl, hg, (hb.block g (by omega)).trans hh, r⟩⟩
theorem grown_below {w w' : World} {base : Nat} {e : TypeId} {size : Nat} {v : Value} {n : Nat} {xs : List Value} (hown : w.ownsRow base e size v n xs) (hb : base ≤ w.heap.size) (hg : w.grownBy w' v.ownBlock) : Below base w w' :=
  (Below.refl base w).grown hg hb fun k hk => (hown.lt k hk).1

/-! one step of a loop over a list -/
theorem getD_take {α : Type} (l : List α) (k : Nat) (d : α) (h : k < l.length) : l.take (k + 1) = l.take k ++ [l.getD k d] := by
  rw [List.take_succ_eq_append_getElem h, getD_eq l k d h]
theorem foldl_take {α β : Type} (f : β → α → β) (a : β) (l : List α) (k : Nat) (d : α) (h : k < l.length) : (l.take (k + 1)).foldl f a = f ((l.take k).foldl f a) (l.getD k d) := by
  rw [getD_take l k d h, List.foldl_append]; rfl
theorem map_take_succ {α β : Type} (f : α → β) (l : List α) (k : Nat) (d : α) (h : k < l.length) : (l.take (k + 1)).map f = (l.take k).map f ++ [f (l.getD k d)] := by
  rw [getD_take l k d h, List.map_append]; rfl
theorem filter_take_succ {α : Type} (p : α → Bool) (l : List α) (k : Nat) (d : α) (h : k < l.length) : (l.take (k + 1)).filter p = (l.take k).filter p ++ if p (l.getD k d) then [l.getD k d] else [] := by
  rw [getD_take l k d h, List.filter_append]
  congr 1
  generalize l.getD k d = x
  by_cases hp : p x = true
  · rw [if_pos hp]; simp [hp]
  · rw [if_neg hp]; simp [hp]
def rangeF (p : Nat → Bool) (k : Nat) : List Int := ((List.range k).filter p).map fun i : Nat => (i : Int)
theorem rangeF_succ (p : Nat → Bool) (k : Nat) : rangeF p (k + 1) = rangeF p k ++ if p k then [(k : Int)] else [] := by
  unfold rangeF
  rw [List.range_succ, List.filter_append, List.map_append]
  congr 1
  by_cases hp : p k = true <;> simp [hp]
theorem rangeF_len (p : Nat → Bool) (k : Nat) : (rangeF p k).length ≤ k := by
  unfold rangeF
  rw [List.length_map]
  exact Nat.le_trans (List.length_filter_le _ _) (by simp)
theorem leavingS_eq (cs : List Ch) (s : Nat) : leavingS cs s = rangeF (fun i => leavesS s (cs.getD i (0, 0, 0))) cs.length := rfl
theorem listS_eq (s : Nat) : listS s = rangeF (fun i => s.testBit i) 6 := rfl
theorem getD_mem {α : Type} (l : List α) (k : Nat) (d : α) (h : k < l.length) : l.getD k d ∈ l := by rw [getD_eq l k d h]; exact List.getElem_mem h

/-- the first k of a list are none that is looked for -/
def AllNo {α : Type} (f : α → Bool) (l : List α) (k : Nat) : Prop := (l.take k).all (fun a => !f a) = true
theorem AllNo.step {α : Type} {f : α → Bool} {l : List α} {k : Nat} (h : AllNo f l k) (hk : k < l.length) (d : α) :
    (f (l.getD k d) = false → AllNo f l (k + 1)) ∧ (f (l.getD k d) = true → firstIdx f l = k) := by
  rw [getD_eq l k d hk]
  constructor
  · intro e; unfold AllNo at *; rw [all_take_succ _ l k hk, h, e]; rfl
  · intro e; exact firstIdx_hit _ l k hk h e
theorem AllNo.all {α : Type} {f : α → Bool} {l : List α} (h : AllNo f l l.length) : firstIdx f l = -1 :=
  firstIdx_miss _ l (by simpa [AllNo] using h)
theorem AllNo.zero {α : Type} (f : α → Bool) (l : List α) : AllNo f l 0 := by simp [AllNo]

/-- a new list of ints, and an error -/
def RetI (w : World) (l : List Int) (err : Int) (e : Ending) (w' : World) : Prop :=
  ∃ q c, e = .returned (.tuple #[.slice q l.length c, .int .i64 err]) ∧ RowV w' q (flatI l) ∧ (q = none → c = 0) ∧ (∀ a, q = some a → w.heap.size ≤ a.block ∧ a.block < w'.heap.size) ∧ Below w.heap.size w w'
/-- a new row -/
def RetV (w : World) (t size n : Nat) (vs : List Value) (e : Ending) (w' : World) : Prop := ∃ v, e = .returned v ∧ w'.ownsRow w.heap.size t size v n vs ∧ Below w.heap.size w w'

section
variable {P : Program} (w : World)
/-- behind append the list lies where it lay, or in a new block -/
theorem append_row (base : Nat) (t ty e : TypeId) (i : TypeInfo) (z : Value) (size bytes : Nat) (ht : P.underlying t = some (.slice e)) (hi : P.info? e = some i) (hz : i.zero = some z)
    (hsize : i.size = size) (hby : i.bytes = bytes) (v : Value) (n : Nat) (xs : List Value) (hown : w.ownsRow base e size v n xs)
    (a : Addr) (m c : Nat) (news : List Value) (hl : news.length = m * size) (hnews : ∀ j u, news[j]? = some u → w.cell? (a.add j) = some u) (h1 : ∀ u ∈ news, u.oneCell' = true)
    (h63 : n + m ≤ maxLen) (hbytes : (n + m) * bytes ≤ 140737488355328) (hm : 0 < m) (v' : Value) (w' : World)
    (hr : (Builtin.append_ #[t, t] ty #[v, .slice (some a) m c]).run P w = .ok v' w') : v'.ownBlock = v.ownBlock ∨ v'.ownBlock = some w.heap.size := by
  subst hsize
  subst hby
  have hcells := fun g hg => hown.cells (g := g) hg
  have hsmall : n + m ≤ 9223372036854775807 := by simp only [maxLen] at h63; omega
  obtain ⟨hxl, ⟨rfl, rfl⟩ | ⟨g, cap, cur, rfl, hbg, hg, hnc, hcm, hcs, htake⟩⟩ := hown
  · have h := run_append_nil (P := P) w t ty e i z ht hi hz a m c news hl hnews hm (by omega) (by rw [Nat.zero_add] at hbytes; omega)
    rw [h] at hr
    injection hr with e1 _
    exact .inr (by rw [← e1]; rfl)
  · by_cases hroom : n + m ≤ cap
    · have h := run_append_room (P := P) w t ty e i ht hi g n cap cur hg a m c news hl hnews h1 hroom (by rw [hl, hcs, ← Nat.add_mul]; exact Nat.mul_le_mul_right _ hroom)
      rw [h] at hr
      injection hr with e1 _
      exact .inl (by rw [← e1]; rfl)
    · have h := run_append_grow (P := P) w t ty e i z ht hi hz ⟨g, 0, none⟩ n cap xs hxl (hcells g rfl) a m c news hl hnews (by omega) (by omega) (growslice_fits (by omega) hbytes)
      rw [h] at hr
      injection hr with e1 _
      exact .inr (by rw [← e1]; rfl)
theorem wpList_append_blk {ops : Array Oper} {rest : List Oper} {o : Oper} {a : Act} {Q : Exit → Act → World → Prop} (hgd : o.guard = none) (s x : Operand) (t : TypeId)
    (ho : o.op = .call { callee := .builtin .append, args := #[s, x], argTypes := #[t, t] })
    (base : Nat) (e : TypeId) (i : TypeInfo) (z : Value) (size bytes : Nat) (ht : P.underlying t = some (.slice e)) (hi : P.info? e = some i) (hz : i.zero = some z)
    (hsize : i.size = size) (hby : i.bytes = bytes) (hzs : z.cells.size = size) (hsz : 0 < size)
    (v : Value) (n : Nat) (xs : List Value) (hs : a.eval s = v) (hown : w.ownsRow base e size v n xs)
    (ad : Addr) (m c : Nat) (news : List Value) (hx : a.eval x = .slice (some ad) m c) (hl : news.length = m * size) (hnews : ∀ j u, news[j]? = some u → w.cell? (ad.add j) = some u) (h1 : ∀ u ∈ news, u.oneCell' = true)
    (h63 : n + m ≤ maxLen) (hbytes : (n + m) * bytes ≤ 140737488355328) (hbase : base ≤ w.heap.size) (hm : 0 < m)
    (h : ∀ v' w', w'.ownsRow base e size v' (n + m) (xs ++ news) → w.grownBy w' v.ownBlock → (v'.ownBlock = v.ownBlock ∨ v'.ownBlock = some w.heap.size) → wpList P ops Q rest (a.put o.dst v') w') : wpList P ops Q (o :: rest) a w :=
  wpList_plain hgd fun _ hK => by
    obtain ⟨v', w', hr, h2, h3, _⟩ := run_append_own (P := P) w base t o.type e i z size bytes ht hi hz hsize hby hzs hsz v n xs hown ad m c news hl hnews h1 h63 hbytes hbase
    have h5 := append_row (P := P) w base t o.type e i z size bytes ht hi hz hsize hby v n xs hown ad m c news hl hnews h1 h63 hbytes hm v' w' hr
    unfold Oper.wp execOp
    simp only [ho, resolve, invoke, builtin, Sem.run_bind, Sem.run_pure, Result.andThen_ok, List.map_toArray, List.map_cons, List.map_nil, hs, hx, hr]
    exact hK _ _ (h v' w' h2 h3 h5)
/-- append(list, x): one element, which lies in a block of its own -/
theorem app_one {ops : Array Oper} {rest : List Oper} {o : Oper} {a : Act} {Q : Exit → Act → World → Prop} (hgd : o.guard = none) (s x : Operand) (t : TypeId)
    (ho : o.op = .call { callee := .builtin .append, args := #[s, x], argTypes := #[t, t] }) (base : Nat) (e : TypeId) (z : Value) (size bytes : Nat) (ht : P.underlying t = some (.slice e))
    (hinfo : (P.info? e).map (fun i => (i.zero, i.size, i.bytes)) = some (some z, size, bytes)) (hzs : z.cells.size = size) (hsz : 0 < size) (hby : bytes ≤ 64) (v : Value) (n : Nat) (xs : List Value) (hs : a.eval s = v)
    (hown : w.ownsRow base e size v n xs) (B c : Nat) (hx : a.eval x = .slice (some ⟨B, 0, none⟩) 1 c) (news : List Value) (hl : news.length = size)
    (hc : ∀ j u, news[j]? = some u → w.cell? ⟨B, j, none⟩ = some u) (h1 : ∀ u ∈ news, u.oneCell' = true) (hn : n ≤ 1000000) (hbase : base ≤ w.heap.size)
    (h : ∀ v' w', w'.ownsRow base e size v' (n + 1) (xs ++ news) → w.grownBy w' v.ownBlock → (v'.ownBlock = v.ownBlock ∨ v'.ownBlock = some w.heap.size) → wpList P ops Q rest (a.put o.dst v') w') : wpList P ops Q (o :: rest) a w := by
  obtain ⟨i0, hi, hz0, hz1, hz2⟩ := info_parts hinfo
  have hb : (n + 1) * bytes ≤ (n + 1) * 64 := Nat.mul_le_mul_left _ hby
  exact wpList_append_blk w hgd s x t ho base e i0 z size bytes ht hi hz0 hz1 hz2 hzs hsz v n xs hs hown ⟨B, 0, none⟩ 1 c news hx (by omega) (fun j u hj => by rw [addr_add]; exact hc j u hj) h1 (by unfold maxLen; omega) (by omega) hbase (by decide) h
/-- at a step of a region that draws: append(list, x): one element, which lies in a block of its own -/
theorem step_one {ops : Array Oper} {o : Oper} {a : Act} {K : Act → World → Prop} {Q : Exit → Act → World → Prop} {E : Prop} (hgd : o.guard = none) (s x : Operand) (t : TypeId)
    (ho : o.op = .call { callee := .builtin .append, args := #[s, x], argTypes := #[t, t] }) (base : Nat) (e : TypeId) (z : Value) (size bytes : Nat) (ht : P.underlying t = some (.slice e))
    (hinfo : (P.info? e).map (fun i => (i.zero, i.size, i.bytes)) = some (some z, size, bytes)) (hzs : z.cells.size = size) (hsz : 0 < size) (hby : bytes ≤ 64) (v : Value) (n : Nat) (xs : List Value) (hs : a.eval s = v)
    (hown : w.ownsRow base e size v n xs) (B c : Nat) (hx : a.eval x = .slice (some ⟨B, 0, none⟩) 1 c) (news : List Value) (hl : news.length = size)
    (hc : ∀ j u, news[j]? = some u → w.cell? ⟨B, j, none⟩ = some u) (h1 : ∀ u ∈ news, u.oneCell' = true) (hn : n ≤ 1000000) (hbase : base ≤ w.heap.size)
    (h : ∀ g cap w', w'.ownsRow base e size (.slice (some ⟨g, 0, none⟩) (n + 1) cap) (n + 1) (xs ++ news) → w.grownBy w' v.ownBlock → (v.ownBlock = some g ∨ g = w.heap.size) → g < w'.heap.size → K (a.put o.dst (.slice (some ⟨g, 0, none⟩) (n + 1) cap)) w') :
    if Region.wanted o (yielded ops a.tmps) = true then Oper.wp P o a w K Q else E := by
  obtain ⟨i0, hi, hz0, hz1, hz2⟩ := info_parts hinfo
  have hb : (n + 1) * bytes ≤ (n + 1) * 64 := Nat.mul_le_mul_left _ hby
  exact step_append_lies w hgd s x t ho base e i0 z size bytes ht hi hz0 hz1 hz2 hzs hsz v n xs hs hown ⟨B, 0, none⟩ 1 c news hx (by omega) (fun j u hj => by rw [addr_add]; exact hc j u hj) h1 (by decide) (by unfold maxLen; omega) (by omega) hbase _ rfl h
end
end Go.Proofs.YtadamjleglckpaaGreat.drn

/- Package drain: facts of the plain functions: what a hill without an error is; drained comes to rest. -/
namespace Go.Proofs.YtadamjleglckpaaGreat.drn
theorem isGal_iff (n g : Int) : isGal n g = true ↔ 0 ≤ g ∧ g < n := by simp [isGal]
/-- a channel without an error -/
def ChOk (n : Int) (c : Ch) : Prop := (0 ≤ c.1 ∧ c.1 < n) ∧ (0 ≤ c.2.1 ∧ c.2.1 ≤ n) ∧ c.1 ≠ c.2.1 ∧ 0 ≤ c.2.2 ∧ c.2.2 ≤ 20
theorem chErr_ok {n : Int} {c : Ch} (hn : 1 ≤ n) (h : chErr n c = 0) : ChOk n c := by
  unfold chErr at h
  split at h
  · omega
  · rename_i h1
    split at h
    · omega
    · rename_i h2
      split at h
      · omega
      · rename_i h3
        simp only [isGal, Bool.or_eq_true, Bool.not_eq_true', Bool.and_eq_true, Bool.and_eq_false_iff, decide_eq_false_iff_not, bne_iff_ne, ne_eq] at h1
        simp only [beq_iff_eq] at h2
        simp only [Bool.or_eq_true, decide_eq_true_eq] at h3
        refine ⟨?_, ?_, h2, by omega, by omega⟩ <;> omega
theorem csErr_ok {n : Int} (hn : 1 ≤ n) : ∀ (r s : List Ch), csErr n s r = 0 → (∀ c ∈ r, ChOk n c) ∧ (∀ c ∈ r, ∀ d ∈ s, ¬(d.1 = c.1 ∧ d.2.1 = c.2.1)) ∧ r.Pairwise fun d c => ¬(d.1 = c.1 ∧ d.2.1 = c.2.1)
  | [], s, _ => by simp
  | c :: r, s, h => by
    unfold csErr at h
    split at h
    · omega
    · rename_i h1
      split at h
      · omega
      · rename_i h2
        obtain ⟨k1, k2, k3⟩ := csErr_ok hn r (s ++ [c]) h
        have hc : chErr n c = 0 := Decidable.not_not.1 h1
        have hs : ∀ d ∈ s, ¬(d.1 = c.1 ∧ d.2.1 = c.2.1) := by
          intro d hd he
          apply h2
          rw [List.any_eq_true]
          exact ⟨d, hd, by simp [he.1, he.2]⟩
        refine ⟨?_, ?_, List.pairwise_cons.2 ⟨fun x hx => k2 x hx c (by simp), k3⟩⟩
        · intro x hx
          rcases List.mem_cons.1 hx with rfl | hx
          · exact chErr_ok hn hc
          · exact k1 x hx
        · intro x hx d hd
          rcases List.mem_cons.1 hx with rfl | hx
          · exact hs d hd
          · exact k2 x hx d (by simp [hd])
theorem errD_ok {n : Int} {cs : List Ch} (h : errD n cs = 0) : 1 ≤ n ∧ n ≤ 6 ∧ cs.length ≤ 14 ∧ (∀ c ∈ cs, ChOk n c) ∧ cs.Pairwise fun d c => ¬(d.1 = c.1 ∧ d.2.1 = c.2.1) := by
  unfold errD at h
  split at h
  · omega
  · rename_i h1
    split at h
    · omega
    · have hn : 1 ≤ n := by omega
      obtain ⟨k1, _, k3⟩ := csErr_ok hn cs [] h
      exact ⟨hn, by omega, by omega, k1, k3⟩

/-! drained comes to rest -/
theorem wetStep_sup (n : Nat) : ∀ (cs : List Ch) (d i : Nat), d.testBit i = true → (wetStep n cs d).testBit i = true
  | [], d, i, h => h
  | c :: cs, d, i, h => by
    unfold wetStep
    rw [List.foldl_cons]
    refine wetStep_sup n cs _ i ?_
    split
    · rw [Nat.testBit_or, h]; rfl
    · exact h
theorem wetStep_bd (n : Nat) : ∀ (cs : List Ch) (d : Nat), (∀ c ∈ cs, ChOk n c) → d < 2 ^ n → wetStep n cs d < 2 ^ n
  | [], d, _, h => h
  | c :: cs, d, hc, h => by
    unfold wetStep
    rw [List.foldl_cons]
    refine wetStep_bd n cs _ (fun x hx => hc x (by simp [hx])) ?_
    split
    · refine Nat.or_lt_two_pow h ?_
      obtain ⟨⟨a, b⟩, _⟩ := hc c (by simp)
      rw [Nat.shiftLeft_eq, Nat.one_mul]
      exact Nat.pow_lt_pow_right (by decide) (by omega)
    · exact h
theorem sizeS_lt {d e : Nat} (he : e < 64) (hs : ∀ i, d.testBit i = true → e.testBit i = true) (hne : e ≠ d) : sizeS d < sizeS e := by
  obtain ⟨i, hi⟩ : ∃ i, e.testBit i ≠ d.testBit i := by
    apply Classical.byContradiction
    intro h
    exact hne (Nat.eq_of_testBit_eq fun i => Classical.byContradiction fun k => h ⟨i, k⟩)
  have h1 : e.testBit i = true := by
    cases hh : e.testBit i with
    | true => rfl
    | false =>
      cases hd : d.testBit i with
      | true => rw [hs i hd] at hh; cases hh
      | false => rw [hh, hd] at hi; exact absurd rfl hi
  have h2 : d.testBit i = false := by
    cases hd : d.testBit i with
    | false => rfl
    | true => rw [h1, hd] at hi; exact absurd rfl hi
  have h6 : i < 6 := by
    apply Classical.byContradiction
    intro hn
    have := Nat.testBit_lt_two_pow (x := e) (i := i) (Nat.lt_of_lt_of_le he (Nat.pow_le_pow_right (n := 2) (by decide) (show 6 ≤ i by omega)))
    rw [h1] at this
    cases this
  unfold sizeS
  rw [← List.countP_eq_length_filter, ← List.countP_eq_length_filter]
  have hsplit : List.range 6 = List.range i ++ i :: (List.range (5 - i)).map (i + 1 + ·) := by
    match i, h6 with
    | 0, _ => decide
    | 1, _ => decide
    | 2, _ => decide
    | 3, _ => decide
    | 4, _ => decide
    | 5, _ => decide
  rw [hsplit, List.countP_append, List.countP_append, List.countP_cons, List.countP_cons]
  have m1 := List.countP_mono_left (p := fun i => d.testBit i) (q := fun i => e.testBit i) (l := List.range i) (fun x _ hx => hs x hx)
  have m2 := List.countP_mono_left (p := fun i => d.testBit i) (q := fun i => e.testBit i) (l := (List.range (5 - i)).map (i + 1 + ·)) (fun x _ hx => hs x hx)
  simp only [h1, h2, if_true]
  simp only [Bool.false_eq_true, if_false]
  omega
theorem sizeS_le (d : Nat) : sizeS d ≤ 6 := by
  unfold sizeS
  exact Nat.le_trans (List.length_filter_le _ _) (by simp)
theorem wetTo_fix {n : Nat} {cs : List Ch} {d : Nat} (h : wetStep n cs d = d) : ∀ k, wetTo n cs k d = d
  | 0 => rfl
  | k + 1 => by rw [wetTo, h]; exact wetTo_fix h k
theorem wetTo_step (n : Nat) (cs : List Ch) : ∀ (k d : Nat), wetTo n cs (k + 1) d = wetStep n cs (wetTo n cs k d)
  | 0, _ => rfl
  | k + 1, d => by rw [wetTo, wetTo_step n cs k]; rfl
theorem wetTo_add (n : Nat) (cs : List Ch) : ∀ (j k d : Nat), wetTo n cs (j + k) d = wetTo n cs k (wetTo n cs j d)
  | 0, k, d => by rw [Nat.zero_add]; rfl
  | j + 1, k, d => by rw [Nat.add_right_comm, wetTo, wetTo_add n cs j k, ← wetTo]
/-- a round that changes nothing is the last one, and it comes within 7 rounds -/
theorem wetS_rest {n : Nat} {cs : List Ch} {k : Nat} (hk : k ≤ 7) (h : wetStep n cs (wetTo n cs k 0) = wetTo n cs k 0) : wetS n cs = wetTo n cs k 0 := by
  have e : 7 = k + (7 - k) := by omega
  rw [wetS, e, wetTo_add, wetTo_fix h]
theorem wetTo_bd {n : Nat} {cs : List Ch} (hc : ∀ c ∈ cs, ChOk n c) : ∀ k, wetTo n cs k 0 < 2 ^ n
  | 0 => Nat.two_pow_pos n
  | k + 1 => by rw [wetTo_step]; exact wetStep_bd n cs _ hc (wetTo_bd hc k)
theorem wetTo_size {n : Nat} {cs : List Ch} (hn : n ≤ 6) (hc : ∀ c ∈ cs, ChOk n c) : ∀ k, (∀ j, j < k → wetStep n cs (wetTo n cs j 0) ≠ wetTo n cs j 0) → k ≤ sizeS (wetTo n cs k 0)
  | 0, _ => Nat.zero_le _
  | k + 1, h => by
    have h1 := wetTo_size hn hc k fun j hj => h j (by omega)
    have h2 := h k (by omega)
    rw [wetTo_step]
    have hb := wetStep_bd n cs _ hc (wetTo_bd hc k)
    have h64 : 2 ^ n ≤ 64 := Nat.pow_le_pow_right (n := 2) (by decide) hn
    have := sizeS_lt (d := wetTo n cs k 0) (e := wetStep n cs (wetTo n cs k 0)) (by omega) (fun i hi => wetStep_sup n cs _ i hi) h2
    omega
theorem wet_rounds {n : Nat} {cs : List Ch} (hn : n ≤ 6) (hc : ∀ c ∈ cs, ChOk n c) {k : Nat} (h : ∀ j, j < k → wetStep n cs (wetTo n cs j 0) ≠ wetTo n cs j 0) : k ≤ 6 :=
  Nat.le_trans (wetTo_size hn hc k h) (sizeS_le _)

/-! what drained finds: the galleries from which a way leads to the mouth -/
inductive Wet (n : Nat) (cs : List Ch) : Int → Prop
  | mouth : Wet n cs n
  | step (c : Ch) : c ∈ cs → Wet n cs c.2.1 → Wet n cs c.1
theorem wetS_fix {n : Nat} {cs : List Ch} (hn : n ≤ 6) (hc : ∀ c ∈ cs, ChOk n c) : wetStep n cs (wetS n cs) = wetS n cs := by
  obtain ⟨k, hk, hf⟩ : ∃ k, k ≤ 6 ∧ wetStep n cs (wetTo n cs k 0) = wetTo n cs k 0 := by
    apply Classical.byContradiction
    intro hno
    have := wet_rounds hn hc (k := 7) fun j hj he => hno ⟨j, by omega, he⟩
    omega
  rw [wetS_rest (by omega) hf, hf]
theorem inS_or (s t : Nat) (g : Int) : inS (s ||| t) g = (inS s g || inS t g) := by
  unfold inS
  rw [Nat.testBit_or]
  cases decide (0 ≤ g) <;> simp
theorem inS_one (h g : Nat) : inS (1 <<< h) (g : Int) = decide (g = h) := by
  unfold inS
  rw [Nat.one_shiftLeft, Int.toNat_natCast, Nat.testBit_two_pow]
  simp [eq_comm]
theorem wetStep_sound (n : Nat) (all : List Ch) (hall : ∀ c ∈ all, ChOk n c) : ∀ (cs : List Ch) (d : Nat), (∀ c ∈ cs, c ∈ all) → (∀ g : Nat, inS d g = true → Wet n all g) → ∀ g : Nat, inS (wetStep n cs d) g = true → Wet n all g
  | [], d, _, h => h
  | c :: cs, d, hc, h => by
    unfold wetStep
    rw [List.foldl_cons]
    refine wetStep_sound n all hall cs _ (fun x hx => hc x (by simp [hx])) ?_
    have hco := hall c (hc c (by simp))
    obtain ⟨⟨a0, a1⟩, ⟨b0, b1⟩, _⟩ := hco
    split
    · rename_i h1
      intro g hg
      rw [inS_or, Bool.or_eq_true, inS_one] at hg
      rcases hg with hg | hg
      · exact h g hg
      · have e : g = c.1.toNat := by simpa using hg
        have e2 : (g : Int) = c.1 := by omega
        rw [e2]
        refine Wet.step c (hc c (by simp)) ?_
        simp only [Bool.or_eq_true, beq_iff_eq] at h1
        rcases h1 with h1 | h1
        · rw [h1]; exact Wet.mouth
        · have e3 : ((c.2.1.toNat : Nat) : Int) = c.2.1 := by omega
          rw [← e3] at h1 ⊢
          exact h _ h1
    · exact h
theorem wetTo_sound {n : Nat} {cs : List Ch} (hc : ∀ c ∈ cs, ChOk n c) : ∀ (k g : Nat), inS (wetTo n cs k 0) g = true → Wet n cs g
  | 0, g, h => by simp [wetTo, inS] at h
  | k + 1, g, h => by
    rw [wetTo_step] at h
    exact wetStep_sound n cs hc cs _ (fun c h => h) (fun g hg => wetTo_sound hc k g hg) g h
theorem wetStep_hit (n : Nat) : ∀ (cs : List Ch) (d : Nat) (c : Ch), c ∈ cs → (c.2.1 = n ∨ inS d c.2.1 = true) → (wetStep n cs d).testBit c.1.toNat = true
  | [], _, _, h, _ => by simp at h
  | e :: cs, d, c, hm, h => by
    unfold wetStep
    rw [List.foldl_cons]
    rcases List.mem_cons.1 hm with rfl | hm
    · refine wetStep_sup n cs _ _ ?_
      rw [if_pos (by simpa using h), Nat.testBit_or, Nat.one_shiftLeft, Nat.testBit_two_pow]
      simp
    · refine wetStep_hit n cs _ c hm ?_
      rcases h with h | h
      · exact .inl h
      · refine .inr ?_
        split
        · rw [inS_or, h]; rfl
        · exact h
theorem wet_complete {n : Nat} {cs : List Ch} (hc : ∀ c ∈ cs, ChOk n c) {d : Nat} (hf : wetStep n cs d = d) {g : Int} (h : Wet n cs g) : g = n ∨ inS d g = true := by
  induction h with
  | mouth => exact .inl rfl
  | step c hm _ ih =>
    refine .inr ?_
    have := wetStep_hit n cs d c hm ih
    rw [hf] at this
    obtain ⟨⟨a0, _⟩, _⟩ := hc c hm
    simp [inS, a0, this]
/-- drained returns the galleries that are not stuck -/
theorem wetS_iff {n : Nat} {cs : List Ch} (hn : n ≤ 6) (hc : ∀ c ∈ cs, ChOk n c) {g : Nat} (hg : g < n) : inS (wetS n cs) g = true ↔ Wet n cs g := by
  constructor
  · exact wetTo_sound hc 7 g
  · intro h
    rcases wet_complete hc (wetS_fix hn hc) h with h | h
    · omega
    · exact h
theorem wetS_bd {n : Nat} {cs : List Ch} (hc : ∀ c ∈ cs, ChOk n c) : wetS n cs < 2 ^ n := wetTo_bd hc 7
theorem allS_iff {n s : Nat} (hs : s < 2 ^ n) : s = allS n ↔ ∀ g : Nat, g < n → inS s g = true := by
  constructor
  · rintro rfl g hg
    simp [inS, allS, hg]
  · intro h
    apply Nat.eq_of_testBit_eq
    intro i
    rw [allS, Nat.testBit_two_pow_sub_one]
    by_cases hi : i < n
    · have := h i hi
      simp only [inS, Int.toNat_natCast, Bool.and_eq_true] at this
      rw [this.2]; simp [hi]
    · rw [Nat.testBit_lt_two_pow (Nat.lt_of_lt_of_le hs (Nat.pow_le_pow_right (by decide) (by omega)))]
      simp [hi]
/-- all galleries drain, just if a way leads from each of them -/
theorem wetS_all {n : Nat} {cs : List Ch} (hn : n ≤ 6) (hc : ∀ c ∈ cs, ChOk n c) : wetS n cs = allS n ↔ ∀ g : Nat, g < n → Wet n cs g := by
  rw [allS_iff (wetS_bd hc)]
  exact ⟨fun h g hg => (wetS_iff hn hc hg).1 (h g hg), fun h g hg => (wetS_iff hn hc hg).2 (h g hg)⟩
end Go.Proofs.YtadamjleglckpaaGreat.drn

/- Package drain, the walks (a seat of stage 2: numbers by name: fill2.py): a gallery in a set; drains, by the type switch. -/
namespace Go.Proofs.YtadamjleglckpaaGreat
open Go.RowKit
theorem as_mm (v : Value) (w : World) : (Instr.typeAssert (.iface 151 v) 126 151 true).run Tryz.prog w = .ok (.tuple #[v, .bool true]) w := by kernel_rfl
theorem as_gm (v : Value) (w : World) : (Instr.typeAssert (.iface 124 v) 126 151 true).run Tryz.prog w = .ok (.tuple #[.int .i64 0, .bool false]) w := by kernel_rfl
theorem as_gg (v : Value) (w : World) : (Instr.typeAssert (.iface 124 v) 126 124 true).run Tryz.prog w = .ok (.tuple #[v, .bool true]) w := by kernel_rfl
attribute [local go_sem ↓] as_mm as_gm as_gg
theorem bit_u (s k : Nat) (hs : s < 4096) : (bits BinOp.and IntKind.u64 ((s : Int) / 2 ^ k) 1 == 1) = s.testBit k := by
  have h := Nat.div_le_self s (2 ^ k)
  have e : ((s : Int) / 2 ^ k) = ((s / 2 ^ k : Nat) : Int) := by simp
  rw [e, Nat.testBit_eq_decide_div_mod_eq]
  generalize s / 2 ^ k = m at *
  rw [and_one_u64 _ (by omega) (by omega)]
  by_cases h1 : m % 2 = 1
  · have e1 : (m : Int) % 2 = 1 := by omega
    rw [e1, h1]; rfl
  · have h0 : m % 2 = 0 := by omega
    have e1 : (m : Int) % 2 = 0 := by omega
    rw [e1, h0]; rfl
/-- is a gallery in a set? -/
theorem in_any (g s : Nat) (w : World) (hg : g < 6) (hs : s < 64) : Calls Tryz.prog 89 #[.int .i64 g, .int .u64 s] w fun e w' => e = .returned (.bool (s.testBit g)) ∧ w = w' := by
  go_enter Tryz.func89, Tryz.ntmps89
  go_wp2
  go_ret
  exact ⟨by rw [← bit_u s g (by omega)]; rfl, rfl⟩
set_option maxRecDepth 100000 in
theorem drainsM_any (g s : Nat) (w : World) : Calls Tryz.prog 103 #[.iface 151 (.int .i64 g), .int .u64 s] w fun e w' => e = .returned (.bool true) ∧ w = w' := by
  go_enter Tryz.func103, Tryz.ntmps103
  go_wp2
  go_ret
  exact ⟨rfl, rfl⟩
set_option maxRecDepth 100000 in
theorem drainsG_any (g s : Nat) (w : World) (hg : g < 6) (hs : s < 64) : Calls Tryz.prog 103 #[.iface 124 (.int .i64 g), .int .u64 s] w fun e w' => e = .returned (.bool (s.testBit g)) ∧ w = w' := by
  go_enter Tryz.func103, Tryz.ntmps103
  go_wp2_with (go_at_call 89; refine (in_any g s _ hg hs).mono ?_; rintro e w1 ⟨rfl, rfl⟩)
  go_ret
  exact ⟨rfl, rfl⟩

/-- is a number a gallery's? -/
theorem hasGallery_any (n g : Int) (q : Option Addr) (m c : Nat) (w : World) :
    Calls Tryz.prog 92 #[.agg #[.int .i64 n, .slice q m c], .int .i64 g] w fun e w' => e = .returned (.bool (decide (0 ≤ g) && decide (g < n))) ∧ Below w.heap.size w w' := by
  have hb0 : Below w.heap.size w (w.alloc (.cells #[.int .i64 n, .slice q m c] 24)) := (Below.refl _ _).alloc (Nat.le_refl _) _
  by_cases h : 0 ≤ g
  · go_enter Tryz.func92, Tryz.ntmps92
    go_wp2
    go_ret
    exact ⟨by simp [h], hb0⟩
  · go_enter Tryz.func92, Tryz.ntmps92
    go_wp2
    go_ret
    exact ⟨by simp; omega, hb0⟩
/-- the place with a number -/
theorem placeOf_any (n g : Int) (q : Option Addr) (m c : Nat) (w : World) :
    Calls Tryz.prog 94 #[.agg #[.int .i64 n, .slice q m c], .int .i64 g] w fun e w' => e = .returned (.iface (if g = n then 151 else 124) (.int .i64 g)) ∧ Below w.heap.size w w' := by
  have hb0 : Below w.heap.size w (w.alloc (.cells #[.int .i64 n, .slice q m c] 24)) := (Below.refl _ _).alloc (Nat.le_refl _) _
  by_cases h : g = n
  · subst h
    go_enter Tryz.func94, Tryz.ntmps94
    go_wp2
    go_ret
    exact ⟨rfl, hb0⟩
  · have hb : (g == n) = false := beq_eq_false_iff_ne.2 h
    go_enter Tryz.func94, Tryz.ntmps94
    go_wp2
    go_ret
    first | exact ⟨rfl, hb0⟩ | exact ⟨by simp [h], hb0⟩
end Go.Proofs.YtadamjleglckpaaGreat

/- Package drain, the walks: Check, with checkChannel, and slices.ContainsFunc at channels of a hill. -/
namespace Go.Proofs.YtadamjleglckpaaGreat.drn
open Go.RowKit
set_option linter.unusedSimpArgs false
set_option linter.unusedVariables false

/-- a hill's value -/
def hillV (n : Int) (q : Option Addr) (m c : Nat) : Value := .agg #[.int .i64 n, .slice q m c]
def chV (c : Ch) : Value := .agg #[.int .i64 c.1, .int .i64 c.2.1, .int .i64 c.2.2]
theorem isGal_eq (n g : Int) : (decide (0 ≤ g) && decide (g < n)) = isGal n g := rfl

set_option maxHeartbeats 2000000 in
theorem checkChannel_any (n : Int) (q : Option Addr) (m cap : Nat) (c : Ch) (w : World) :
    Calls Tryz.prog 72 #[hillV n q m cap, chV c] w fun e w' => e = .returned (.int .i64 (chErr n c)) ∧ Below w.heap.size w w' := by
  obtain ⟨x, y, z⟩ := c
  unfold hillV chV
  have hb0 : Below w.heap.size w ((w.alloc (.cells #[.int .i64 n, .slice q m cap] 24)).alloc (.cells #[.int .i64 x, .int .i64 y, .int .i64 z] 51)) := ((Below.refl _ _).alloc (Nat.le_refl _) _).alloc (by simp) _
  go_enter Tryz.func72, Tryz.ntmps72
  go_wp2
  go_quiet (fail)
  go_wp2_with (go_at_call 92; refine (hasGallery_any _ _ _ _ _ _).mono ?_; rintro e w1 ⟨rfl, hb1⟩; obtain ⟨hc1, hf1⟩ := bcell hb1; have hz1 : w.heap.size + 1 < w1.heap.size := (by have := hb1.size; first | omega | (simp at this; omega)); have hz0 : w.heap.size < w1.heap.size := Nat.lt_of_succ_lt hz1; have hac : Below w.heap.size w w1 := (by first | exact (below_drewN hb0 _).on hb1 | exact hb0.drew.on hb1 | exact Below.on (by assumption) hb1))
  all_goals go_ret
  all_goals refine ⟨ret_int ?_, by assumption⟩
  all_goals clear hb0
  all_goals unfold chErr isGal
  all_goals first | grind | (simp_all; done)

/-- a channel that a closure has captured -/
def ChanAt (w : World) (B : Nat) (c : Ch) : Prop := B < w.heap.size ∧ w.cell? ⟨B, 0, none⟩ = some (.int .i64 c.1) ∧ w.cell? ⟨B, 1, none⟩ = some (.int .i64 c.2.1) ∧ w.cell? ⟨B, 2, none⟩ = some (.int .i64 c.2.2)
theorem ChanAt.below {w w' : World} {B : Nat} {c : Ch} (h : ChanAt w B c) {N : Nat} (hN : w.heap.size ≤ N) (hb : Below N w w') : ChanAt w' B c :=
  ⟨Nat.lt_of_lt_of_le h.1 hb.size, (hb.cell (p := ⟨B, 0, none⟩) (Nat.lt_of_lt_of_le h.1 hN)).trans h.2.1, (hb.cell (p := ⟨B, 1, none⟩) (Nat.lt_of_lt_of_le h.1 hN)).trans h.2.2.1, (hb.cell (p := ⟨B, 2, none⟩) (Nat.lt_of_lt_of_le h.1 hN)).trans h.2.2.2⟩
def sameEnds (c d : Ch) : Bool := d.1 == c.1 && d.2.1 == c.2.1
theorem Check1_any (B : Nat) (c d : Ch) (w : World) (hB : ChanAt w B c) :
    Calls Tryz.prog 74 #[chV d, .pointer (some ⟨B, 0, none⟩)] w fun e w' => e = .returned (.bool (sameEnds c d)) ∧ Below w.heap.size w w' := by
  obtain ⟨h1, h2, h3, h4⟩ := hB
  obtain ⟨x, y, z⟩ := d
  unfold chV
  have hb0 : Below w.heap.size w (w.alloc (.cells #[.int .i64 x, .int .i64 y, .int .i64 z] 51)) := (Below.refl _ _).alloc (Nat.le_refl _) _
  by_cases he : x = c.1
  · have hx : (x == c.1) = true := by simpa using he
    go_enter Tryz.func74, Tryz.ntmps74
    go_wp2
    go_ret
    exact ⟨ret_bool (by simp [sameEnds, hx]), by first | exact hb0 | (rw [← he]; exact hb0)⟩
  · have hx : (x == c.1) = false := by simpa using he
    go_enter Tryz.func74, Tryz.ntmps74
    go_wp2
    go_ret
    exact ⟨ret_bool (by simp [sameEnds, hx]), hb0⟩

theorem indexT_any (B : Nat) (c : Ch) (q : Option Addr) (cap : Nat) (cs : List Ch) (w : World) (hB : ChanAt w B c) (hr : RowV w q (flatT cs)) (hl : cs.length ≤ 1000000) :
    Calls Tryz.prog 110 #[.slice q cs.length cap, .func (.func 74) #[] #[.pointer (some ⟨B, 0, none⟩)]] w fun e w' => e = .returned (.int .i64 (firstIdx (sameEnds c) cs)) ∧ Below w.heap.size w w' := by
  go_enter Tryz.func110, Tryz.ntmps110
  go_wp2
  go_loopw [8] (fun i wr => ∃ k : Nat, k ≤ cs.length ∧ i = .int .i64 k ∧ AllNo (sameEnds c) cs k ∧ Below w.heap.size w wr) (fun i _ => cs.length - (intOf i).toNat)
  case atStart => exact ⟨0, Nat.zero_le _, rfl, AllNo.zero _ _, Below.refl _ _⟩
  case round =>
    obtain ⟨k, hk, rfl, hall, hbel⟩ := hrel
    by_cases hlt : k < cs.length
    · obtain ⟨b, off, rfl, hb, h1, h2, h3⟩ := rowT_at hr hlt (Nat.le_refl _) hbel
      have hst := hall.step hlt (0, 0, 0)
      have hBk := hB.below (Nat.le_refl _) hbel
      generalize cs.getD k (0, 0, 0) = g at h1 h2 h3 hst
      have HST := Lib.hid hst
      clear hst
      go_wp2_with (go_at_call 74; refine (Check1_any B c g _ hBk).mono ?_; rintro e w' ⟨rfl, hb'⟩)
      · have hf : sameEnds c g = true := by assumption
        go_ret
        exact ⟨ret_int (HST.out.2 hf).symm, hbel.on hb'⟩
      · have hf : sameEnds c g = false := by assumption
        go_roundw
        case rel => exact ⟨k + 1, hlt, by go_num, HST.out.1 hf, hbel.on hb'⟩
        case measure => simp [intOf]; omega
    · obtain rfl : k = cs.length := by omega
      go_wp2
      go_ret
      exact ⟨ret_int hall.all.symm, hbel⟩
theorem containsT_any (B : Nat) (c : Ch) (q : Option Addr) (cap : Nat) (cs : List Ch) (w : World) (hB : ChanAt w B c) (hr : RowV w q (flatT cs)) (hl : cs.length ≤ 1000000) :
    Calls Tryz.prog 73 #[.slice q cs.length cap, .func (.func 74) #[] #[.pointer (some ⟨B, 0, none⟩)]] w fun e w' => e = .returned (.bool (cs.any (sameEnds c))) ∧ Below w.heap.size w w' := by
  go_enter Tryz.func73, Tryz.ntmps73
  go_wp2_with (go_at_call 110; refine (indexT_any B c q cap cs _ hB hr hl).mono ?_; rintro e w' ⟨rfl, hb⟩)
  go_ret
  exact ⟨ret_bool (firstIdx_any _ _), hb⟩

theorem csErr_at (n : Int) (cs : List Ch) (k : Nat) (hk : k < cs.length) : csErr n (cs.take k) (cs.drop k) =
    if chErr n (cs.getD k (0, 0, 0)) ≠ 0 then chErr n (cs.getD k (0, 0, 0)) else if (cs.take k).any (sameEnds (cs.getD k (0, 0, 0))) then 6 else csErr n (cs.take (k + 1)) (cs.drop (k + 1)) := by
  rw [getD_take cs k (0, 0, 0) hk, List.drop_eq_getElem_cons hk, ← getD_eq cs k (0, 0, 0) hk]
  rfl
theorem flatT_take : ∀ (cs : List Ch) (k : Nat), flatT (cs.take k) = (flatT cs).take (k * 3)
  | [], k => by simp [flatT]
  | c :: r, 0 => by simp [flatT]
  | c :: r, k + 1 => by
    have ih := flatT_take r k
    have e : flatT (c :: r) = .int .i64 c.1 :: .int .i64 c.2.1 :: .int .i64 c.2.2 :: flatT r := by simp [flatT]
    have e2 : flatT (c :: r.take k) = .int .i64 c.1 :: .int .i64 c.2.1 :: .int .i64 c.2.2 :: flatT (r.take k) := by simp [flatT]
    rw [List.take_succ_cons, e, e2, ih, show (k + 1) * 3 = k * 3 + 1 + 1 + 1 by omega, List.take_succ_cons, List.take_succ_cons, List.take_succ_cons]
theorem RowV.take {w : World} {q : Option Addr} {vs : List Value} (h : RowV w q vs) (m : Nat) : RowV w q (vs.take m) := by
  rcases h with rfl | ⟨b, off, e, hz, hc⟩
  · exact .inl (by simp)
  · refine .inr ⟨b, off, e, hz, fun i v hi => hc i v ?_⟩
    rw [List.getElem?_take] at hi
    split at hi
    · exact hi
    · cases hi

set_option maxHeartbeats 2000000 in
theorem Check_any (n : Int) (q : Option Addr) (cap : Nat) (cs : List Ch) (w : World) (hr : RowV w q (flatT cs)) (hcap : cs.length ≤ cap) :
    Calls Tryz.prog 18 #[hillV n q cs.length cap] w fun e w' => e = .returned (.int .i64 (errD n cs)) ∧ Below w.heap.size w w' := by
  unfold hillV
  have hb0 : Below w.heap.size w (w.alloc (.cells #[.int .i64 n, .slice q cs.length cap] 24)) := (Below.refl _ _).alloc (Nat.le_refl _) _
  by_cases hn : n < 1 ∨ 6 < n
  · rcases hn with hn | hn
    · go_enter Tryz.func18, Tryz.ntmps18
      go_wp2
      go_ret
      exact ⟨ret_int (by rw [errD, if_pos (.inl hn)]), hb0⟩
    · have hn0 : ¬ n < 1 := by omega
      go_enter Tryz.func18, Tryz.ntmps18
      go_wp2
      go_ret
      exact ⟨ret_int (by rw [errD, if_pos (.inr hn)]), hb0⟩
  · have hn1 : ¬ n < 1 := by omega
    have hn2 : ¬ 6 < n := by omega
    by_cases h14 : 14 < cs.length
    · have h14' : (14 : Int) < (cs.length : Int) := by omega
      go_enter Tryz.func18, Tryz.ntmps18
      go_wp2
      go_ret
      exact ⟨ret_int (by rw [errD, if_neg hn, if_pos h14]), hb0⟩
    · have h14' : ¬ (14 : Int) < (cs.length : Int) := by omega
      have hd : errD n cs = csErr n [] cs := by rw [errD, if_neg hn, if_neg h14]
      have hr0 := hr.below (Nat.le_refl _) hb0
      have HD := Lib.hid hd
      have HN := Lib.hid hn
      have HB0 := Lib.hid hb0
      clear hn hd
      go_enter Tryz.func18, Tryz.ntmps18
      go_wp2
      clear h14' hn1 hn2
      obtain ⟨W0, hW0⟩ : ∃ W0, w.alloc (.cells #[.int .i64 n, .slice q cs.length cap] 24) = W0 := ⟨_, rfl⟩
      have hz0 : w.heap.size < W0.heap.size := by rw [← hW0]; simp
      have hc0 : W0.cell? ⟨w.heap.size, 0, none⟩ = some (.int .i64 n) ∧ W0.cell? ⟨w.heap.size, 1, none⟩ = some (.slice q cs.length cap) := by rw [← hW0]; simp
      obtain ⟨c0, c1⟩ := hc0
      rw [hW0] at hr0 hb0 ⊢
      clear hW0 HB0
      go_loopw [21] (fun i wr => ∃ k : Nat, k ≤ cs.length ∧ i = .int .i64 k ∧ csErr n (cs.take k) (cs.drop k) = csErr n [] cs ∧ Below W0.heap.size W0 wr) (fun i _ => cs.length - (intOf i).toNat)
      case atStart => exact ⟨0, Nat.zero_le _, rfl, rfl, Below.refl _ _⟩
      case round =>
        obtain ⟨k, hk, rfl, hrest, hbel⟩ := hrel
        by_cases hlt : k < cs.length
        · obtain ⟨b, off, rfl, hb, h1, h2, h3⟩ := rowT_at hr0 hlt (Nat.le_refl _) hbel
          have d0 : wr.cell? ⟨w.heap.size, 0, none⟩ = some (.int .i64 n) := (hbel.cell (p := ⟨w.heap.size, 0, none⟩) hz0).trans c0
          have d1 : wr.cell? ⟨w.heap.size, 1, none⟩ = some (.slice (some ⟨b, off, none⟩) cs.length cap) := (hbel.cell (p := ⟨w.heap.size, 1, none⟩) hz0).trans c1
          have hz1 : w.heap.size < wr.heap.size := Nat.lt_of_lt_of_le hz0 hbel.size
          have hst := csErr_at n cs k hlt
          rw [hrest, ← HD.out] at hst
          have hrk := (hr0.below (Nat.le_refl _) hbel).take (k * 3)
          rw [← flatT_take] at hrk
          have hkl : (cs.take k).length = k := by simp; omega
          generalize cs.getD k (0, 0, 0) = g at h1 h2 h3 hst
          generalize cs.take k = pre at hrest hst hrk hkl
          have HST := Lib.hid hst
          have HR := Lib.hid hrest
          have HRK := Lib.hid hrk
          have HKL := Lib.hid hkl
          clear hst hrest hrk hkl c0 c1
          go_wp2_with (first
            | (go_at_call 72; refine (checkChannel_any n _ _ _ g _).mono ?_; rintro e w1 ⟨rfl, hb1⟩; obtain ⟨hc1, hf1⟩ := bcell hb1; have hac : Below wr.heap.size wr w1 := ((Below.refl _ _).alloc (Nat.le_refl _) _).on hb1; have hz2 : w.heap.size < w1.heap.size := Nat.lt_of_lt_of_le hz1 hac.size; have hz3 : wr.heap.size < w1.heap.size := (by have := hb1.size; simp at this; omega))
            | (go_at_call 73; have hcc := containsT_any wr.heap.size g (some ⟨b, off, none⟩) cap pre w1 ⟨hz3, (by rw [hc1 _ _ (by simp)]; simp), (by rw [hc1 _ _ (by simp)]; simp), (by rw [hc1 _ _ (by simp)]; simp)⟩ (HRK.out.below (Nat.le_refl _) hac) (by rw [HKL.out]; omega); rw [HKL.out] at hcc; refine hcc.mono ?_; rintro e w2 ⟨rfl, hb2⟩))
          · have hne : chErr n g ≠ 0 := by simpa using (by assumption : (chErr n g != 0) = true)
            go_ret
            exact ⟨ret_int (by rw [HST.out, if_pos hne]), hb0.on (hbel.on hac)⟩
          · have hne : chErr n g = 0 := by simpa using (by assumption : (chErr n g != 0) = false)
            have hany : pre.any (sameEnds g) = true := by assumption
            go_ret
            exact ⟨ret_int (by rw [HST.out, if_neg (by rw [hne]; decide), if_pos hany]), hb0.on (hbel.on (hac.on hb2))⟩
          · have hne : chErr n g = 0 := by simpa using (by assumption : (chErr n g != 0) = false)
            have hany : pre.any (sameEnds g) = false := by assumption
            go_roundw
            case rel => exact ⟨k + 1, hlt, by go_num, by rw [← HD.out, HST.out, if_neg (by rw [hne]; decide), if_neg (by rw [hany]; decide)], hbel.on (hac.on hb2)⟩
            case measure => simp [intOf]; omega
        · obtain rfl : k = cs.length := by omega
          go_wp2
          go_ret
          exact ⟨ret_int (by rw [HD.out, ← hrest, List.take_length, List.drop_length]; rfl), hb0.on hbel⟩
end Go.Proofs.YtadamjleglckpaaGreat.drn

/- Package drain, the walks: sets of galleries (alone, allOf, setOf, list, size, within), channels that leave one. -/
namespace Go.Proofs.YtadamjleglckpaaGreat.drn
open Go.RowKit
set_option linter.unusedSimpArgs false
set_option linter.unusedVariables false

theorem or_u (a b : Nat) (ha : a < 4096) (hb : b < 4096) : bits BinOp.or IntKind.u64 (a : Int) (b : Int) = ((a ||| b : Nat) : Int) := bits_or_u64_nat a b (by omega) (by omega)
theorem andNot_u (s t : Nat) (hs : s < 64) (ht : t < 64) : (bits .andNot .u64 (s : Int) (t : Int) == 0) = (s &&& t == s) := by
  have h := u64_andNot_nat s t (by omega) (by omega)
  rw [h]
  have key : (s &&& (18446744073709551615 - t) = 0) ↔ (s &&& t = s) := by
    have e : ∀ i, (18446744073709551615 - t).testBit i = (decide (i < 64) && !t.testBit i) := fun i => by
      have := Nat.testBit_two_pow_sub_succ (n := 64) (x := t) (by omega) i
      have e2 : 18446744073709551615 - t = 2 ^ 64 - (t + 1) := by omega
      rw [e2, this]
    constructor
    · intro h0
      apply Nat.eq_of_testBit_eq
      intro i
      have h1 := congrArg (fun x => x.testBit i) h0
      simp only [Nat.testBit_and, e, Nat.zero_testBit] at h1
      rw [Nat.testBit_and]
      by_cases hi : i < 64
      · cases h2 : s.testBit i <;> cases h3 : t.testBit i <;> simp_all
      · have : s.testBit i = false := Nat.testBit_lt_two_pow (Nat.lt_of_lt_of_le hs (Nat.le_trans (by decide : 64 ≤ 2 ^ 64) (Nat.pow_le_pow_right (by decide) (by omega))))
        simp [this]
    · intro h0
      apply Nat.eq_of_testBit_eq
      intro i
      have h1 := congrArg (fun x => x.testBit i) h0
      simp only [Nat.testBit_and] at h1
      rw [Nat.testBit_and, e, Nat.zero_testBit]
      cases h2 : s.testBit i <;> cases h3 : t.testBit i <;> simp_all
  by_cases h0 : s &&& t = s
  · have := key.2 h0
    simp [h0, this]
  · have h1 : ¬ (s &&& (18446744073709551615 - t) = 0) := fun x => h0 (key.1 x)
    have e1 : (s &&& t == s) = false := beq_eq_false_iff_ne.2 h0
    rw [e1]
    exact beq_eq_false_iff_ne.2 (by omega)
theorem shl_u : ∀ g : Nat, g < 6 → IntKind.u64.wrap ((2 : Int) ^ g) = ((1 <<< g : Nat) : Int) := by decide
theorem all_u : ∀ n : Nat, n < 7 → IntKind.u64.wrap (IntKind.u64.wrap ((2 : Int) ^ n) - 1) = (allS n : Nat) := by decide
theorem meth_m (v : Value) (w : World) : (method 303 151 v "novaculite/drain.in").run Tryz.prog w = .ok (172, v) w := by kernel_rfl
theorem meth_g (v : Value) (w : World) : (method 303 124 v "novaculite/drain.in").run Tryz.prog w = .ok (89, v) w := by kernel_rfl
attribute [local go_sem ↓] meth_m meth_g
/-- the set of one gallery -/
def oneS (g : Nat) : Nat := 1 <<< g
theorem oneS_lt {g : Nat} (h : g < 6) : oneS g < 64 := by unfold oneS; rw [Nat.one_shiftLeft]; exact Nat.lt_of_lt_of_le (Nat.pow_lt_pow_right (by decide) h) (by decide)
theorem or_lt {s t : Nat} (hs : s < 64) (ht : t < 64) : s ||| t < 64 := Nat.or_lt_two_pow (n := 6) hs ht
theorem alone_any (g : Nat) (w : World) (hg : g < 6) : Calls Tryz.prog 90 #[.int .i64 g] w fun e w' => e = .returned (.int .u64 (oneS g : Nat)) ∧ w = w' := by
  go_enter Tryz.func90, Tryz.ntmps90
  go_wp2
  go_ret
  refine ⟨?_, rfl⟩
  show Ending.returned (.int .u64 (IntKind.u64.wrap ((2 : Int) ^ g))) = _
  rw [shl_u g hg]
  rfl
theorem allOf_any (n : Nat) (q : Option Addr) (m c : Nat) (w : World) (hn : n ≤ 6) : Calls Tryz.prog 51 #[hillV n q m c] w fun e w' => e = .returned (.int .u64 (allS n : Nat)) ∧ Below w.heap.size w w' := by
  unfold hillV
  have hb0 : Below w.heap.size w (w.alloc (.cells #[.int .i64 n, .slice q m c] 24)) := (Below.refl _ _).alloc (Nat.le_refl _) _
  go_enter Tryz.func51, Tryz.ntmps51
  go_wp2
  go_ret
  refine ⟨?_, hb0⟩
  show Ending.returned (.int .u64 (IntKind.u64.wrap (IntKind.u64.wrap ((2 : Int) ^ n) - 1))) = _
  rw [all_u n (by omega)]
theorem within_any (s t : Nat) (w : World) (hs : s < 64) (ht : t < 64) : Calls Tryz.prog 116 #[.int .u64 s, .int .u64 t] w fun e w' => e = .returned (.bool (s &&& t == s)) ∧ w = w' := by
  go_enter Tryz.func116, Tryz.ntmps116
  go_wp2
  go_ret
  exact ⟨by rw [← andNot_u s t hs ht]; rfl, rfl⟩
theorem size_any (s : Nat) (w : World) (hs : s < 64) : Calls Tryz.prog 63 #[.int .u64 s] w fun e w' => e = .returned (.int .i64 (sizeS s : Nat)) ∧ w = w' := by
  go_enter Tryz.func63, Tryz.ntmps63
  go_wp2
  go_ret
  refine ⟨?_, rfl⟩
  refine congrArg (fun z : Int => Ending.returned (Value.int .i64 z)) ?_
  revert s
  decide +kernel
theorem inM_any (g s : Nat) (w : World) : Calls Tryz.prog 172 #[.int .i64 g, .int .u64 s] w fun e w' => e = .returned (.bool false) ∧ w = w' := by
  go_enter Tryz.func172, Tryz.ntmps172
  go_wp2
  go_ret
  exact ⟨rfl, rfl⟩
set_option maxRecDepth 100000 in
theorem leaves_any (n s : Nat) (c : Ch) (w : World) (hn : n ≤ 6) (hc : ChOk n c) (hs : s < 2 ^ n) :
    Calls Tryz.prog 106 #[.agg #[.int .i64 c.1, plV n c.2.1, .int .i64 c.2.2], .int .u64 s] w fun e w' => e = .returned (.bool (leavesS s c)) ∧ Below w.heap.size w w' := by
  obtain ⟨x, y, z⟩ := c
  obtain ⟨⟨x0, x1⟩, ⟨y0, y1⟩, _, _, _⟩ := hc
  dsimp only at *
  obtain ⟨x, rfl⟩ : ∃ k : Nat, x = k := ⟨x.toNat, by omega⟩
  obtain ⟨y, rfl⟩ : ∃ k : Nat, y = k := ⟨y.toNat, by omega⟩
  have hs64 : s < 64 := Nat.lt_of_lt_of_le hs (Nat.pow_le_pow_right (by decide) hn)
  have hx : x < 6 := by omega
  have hb0 : Below w.heap.size w (w.alloc (.cells #[.int .i64 x, plV n y, .int .i64 z] 128)) := (Below.refl _ _).alloc (Nat.le_refl _) _
  have HB := Lib.hid hb0
  clear hb0
  by_cases hy : y = n
  · subst hy
    have e : plV y y = .iface 151 (.int .i64 y) := by simp [plV]
    rw [e]
    go_enter Tryz.func106, Tryz.ntmps106
    go_wp2_with (first
      | (go_at_call 89; refine (in_any x s _ hx hs64).mono ?_; rintro e w1 ⟨rfl, rfl⟩)
      | (go_at_call 172; refine (inM_any y s _).mono ?_; rintro e w1 ⟨rfl, rfl⟩))
    all_goals go_ret
    all_goals refine ⟨ret_bool ?_, by have hb := HB.out; rw [e] at hb; exact hb⟩
    all_goals have hyf : s.testBit y = false := Nat.testBit_lt_two_pow hs
    all_goals simp_all [leavesS, inS]
  · have e : plV n y = .iface 124 (.int .i64 y) := by simp only [plV]; rw [if_neg (by omega)]
    rw [e]
    have hy6 : y < 6 := by omega
    go_enter Tryz.func106, Tryz.ntmps106
    go_wp2_with (go_at_call 89; refine (in_any _ _ _ ?_ ?_).mono ?_; (focus assumption); (focus assumption); rintro e w1 ⟨rfl, rfl⟩)
    all_goals go_ret
    all_goals refine ⟨ret_bool ?_, by have hb := HB.out; rw [e] at hb; exact hb⟩
    all_goals simp_all [leavesS, inS]
end Go.Proofs.YtadamjleglckpaaGreat.drn

/- Package drain, the walks: setOf, list, leaving. -/
namespace Go.Proofs.YtadamjleglckpaaGreat.drn
open Go.RowKit
set_option linter.unusedSimpArgs false
set_option linter.unusedVariables false

theorem infoI : (Tryz.prog.info? 3).map (fun i => (i.zero, i.size, i.bytes)) = some (some (.int .i64 0), 1, 8) := by kernel_rfl
/-- append(list, n): ints -/
theorem app_int (w : World) {ops : Array Oper} {rest : List Oper} {o : Oper} {a : Act} {Q : Exit → Act → World → Prop} (hgd : o.guard = none) (s x : Operand)
    (ho : o.op = .call { callee := .builtin .append, args := #[s, x], argTypes := #[25, 25] }) (base : Nat) (v : Value) (xs : List Int) (n : Int) (hs : a.eval s = v)
    (hown : w.ownsRow base 3 1 v xs.length (flatI xs)) (B c : Nat) (hx : a.eval x = .slice (some ⟨B, 0, none⟩) 1 c)
    (hc1 : w.cell? ⟨B, 0, none⟩ = some (.int .i64 n)) (hl : xs.length ≤ 1000000) (hbase : base ≤ w.heap.size)
    (h : ∀ v' w', w'.ownsRow base 3 1 v' (xs ++ [n]).length (flatI (xs ++ [n])) → w.grownBy w' v.ownBlock → (v'.ownBlock = v.ownBlock ∨ v'.ownBlock = some w.heap.size) → wpList Tryz.prog ops Q rest (a.put o.dst v') w') :
    wpList Tryz.prog ops Q (o :: rest) a w := by
  refine app_one w hgd s x 25 ho base 3 _ 1 8 Tryz.underlying25 infoI rfl (by decide) (by decide) v xs.length (flatI xs) hs hown B c hx [.int .i64 n] rfl ?_ ?_ hl hbase ?_
  · intro j u hj
    match j, hj with
    | 0, hj => simp at hj; subst hj; exact hc1
  · intro u hu; simp at hu; subst hu; rfl
  · intro v' w' h1 h2 h3
    refine h v' w' ?_ h2 h3
    rw [flatI_snoc, List.length_append]
    exact h1

theorem setOf_any (q : Option Addr) (cap : Nat) (l : List Int) (w : World) (hr : RowV w q (flatI l)) (hl : l.length ≤ 6) (hg : ∀ x ∈ l, 0 ≤ x ∧ x < 6) :
    Calls Tryz.prog 66 #[.slice q l.length cap] w fun e w' => e = .returned (.int .u64 (setS l : Nat)) ∧ w = w' := by
  have hbd : ∀ k, (l.take k).foldl (fun s g => s ||| 1 <<< g.toNat) 0 < 64 := by
    intro k
    have : ∀ (l : List Int) (s : Nat), (∀ x ∈ l, 0 ≤ x ∧ x < 6) → s < 64 → l.foldl (fun s g => s ||| 1 <<< g.toNat) s < 64 := by
      intro l
      induction l with
      | nil => intro s _ h; exact h
      | cons x r ih =>
        intro s hx h
        rw [List.foldl_cons]
        refine ih _ (fun y hy => hx y (by simp [hy])) ?_
        have h1 := hx x (by simp)
        have h2 : 1 <<< x.toNat < 64 := by rw [Nat.one_shiftLeft]; exact Nat.lt_of_lt_of_le (Nat.pow_lt_pow_right (by decide) (show x.toNat < 6 by omega)) (by decide)
        exact Nat.or_lt_two_pow (n := 6) h h2
    exact this _ 0 (fun x hx => hg x (List.mem_of_mem_take hx)) (by decide)
  have HBD := Lib.hid hbd
  have HG := Lib.hid hg
  clear hbd hg
  go_enter Tryz.func66, Tryz.ntmps66
  go_wp2
  go_loop [3, 8] (fun s i => ∃ k : Nat, k ≤ l.length ∧ i = .int .i64 k ∧ s = .int .u64 (((l.take k).foldl (fun s g => s ||| 1 <<< g.toNat) 0 : Nat) : Int)) (fun _ i => l.length - (intOf i).toNat)
  case atStart => exact ⟨0, Nat.zero_le _, rfl, rfl⟩
  case round =>
    obtain ⟨k, hk, rfl, rfl⟩ := hrel
    by_cases hlt : k < l.length
    · obtain ⟨b, off, rfl, hb, h1⟩ := rowI_at hr hlt (Nat.le_refl _) (Below.refl _ _)
      have hst := foldl_take (fun (s : Nat) (g : Int) => s ||| 1 <<< g.toNat) 0 l k 0 hlt
      have hx := HG.out _ (getD_mem l k 0 hlt)
      have hs := HBD.out k
      generalize l.getD k 0 = x at h1 hst hx
      obtain ⟨x, rfl⟩ : ∃ m : Nat, x = m := ⟨x.toNat, by omega⟩
      have HST := Lib.hid hst
      clear hst
      generalize (l.take k).foldl (fun (s : Nat) (g : Int) => s ||| 1 <<< g.toNat) 0 = s at HST hs ⊢
      have h2 := oneS_lt (show x < 6 by omega)
      have hor := or_u s (oneS x) (by omega) (by omega)
      have HOR := Lib.hid hor
      clear hor
      go_wp2_with (go_at_call 90; refine (alone_any x _ (by omega)).mono ?_; rintro e w' ⟨rfl, rfl⟩)
      go_round
      case rel => exact ⟨k + 1, hlt, by go_num, by rw [HST.out]; exact congrArg (Value.int .u64) HOR.out⟩
      case measure => simp [intOf]; omega
    · obtain rfl : k = l.length := by omega
      go_wp2
      go_ret
      exact ⟨rfl, rfl⟩

theorem list_any (s : Nat) (w : World) (hs : s < 64) : Calls Tryz.prog 54 #[.int .u64 s] w (RetV w 3 1 (listS s).length (flatI (listS s))) := by
  have HS := Lib.hid (listS_eq s)
  go_enter Tryz.func54, Tryz.ntmps54
  go_wp2
  go_loopw [3, 5] (fun v i wr => ∃ k : Nat, k ≤ 6 ∧ i = .int .i64 k ∧ wr.ownsRow w.heap.size 3 1 v (rangeF (fun i => s.testBit i) k).length (flatI (rangeF (fun i => s.testBit i) k)) ∧ Below w.heap.size w wr) (fun _ i _ => 6 - (intOf i).toNat)
  case atStart => exact ⟨0, Nat.zero_le _, rfl, World.ownsRow_nil _ _ _ _, Below.refl _ _⟩
  case round =>
    obtain ⟨k, hk, rfl, hown, hbel⟩ := hrel
    by_cases hlt : k < 6
    · have hst := rangeF_succ (fun i => s.testBit i) k
      have hle := rangeF_len (fun i => s.testBit i) k
      have HST := Lib.hid hst
      clear hst
      generalize rangeF (fun i => s.testBit i) k = xs at hown HST hle
      have HO := Lib.hid hown
      have hk6 : (k : Int) < 6 := by omega
      clear hown
      go_wp2_with (first
        | (go_at_call 89; refine (in_any k s _ hlt hs).mono ?_; rintro e w1 ⟨rfl, rfl⟩)
        | (at_builtin; refine app_int _ rfl (.tmp 11) (.tmp 13) rfl w.heap.size _ xs (k : Int) rfl (HO.out.alloc _) wr.heap.size 1 rfl (by simp) (by omega) (by have := hbel.size; simp; omega) ?_; intro v2 w2 hown2 hgr2 hbk2; have hb2 : Below w.heap.size w w2 := hbel.trans (((Below.refl _ _).alloc hbel.size _).trans (grown_below (HO.out.alloc _) (by have := hbel.size; simp; omega) hgr2))))
      · have hbit : s.testBit k = true := by assumption
        go_roundw
        case rel => exact ⟨k + 1, hlt, by go_num, by rw [HST.out, if_pos hbit]; exact hown2, hb2⟩
        case measure => simp [intOf]; omega
      · have hbit : s.testBit k = false := by assumption
        go_roundw
        case rel => exact ⟨k + 1, hlt, by go_num, by rw [HST.out, if_neg (by rw [hbit]; decide), List.append_nil]; exact HO.out, hbel⟩
        case measure => simp [intOf]; omega
    · obtain rfl : k = 6 := by omega
      go_wp2
      go_ret
      exact ⟨_, rfl, by rw [HS.out]; exact hown, hbel⟩
end Go.Proofs.YtadamjleglckpaaGreat.drn

/- Package drain: the list of all plans: what is in it, and its order. -/
namespace Go.Proofs.YtadamjleglckpaaGreat.drn
/-- the gallery from which a channel leads -/
def frm (cs : List Ch) (i : Int) : Int := (cs.getD i.toNat (0, 0, 0)).1
/-- the galleries of some, and those from which some channels lead -/
def addS (cs : List Ch) (s : Nat) (l : List Int) : Nat := l.foldl (fun s i => s ||| 1 <<< (frm cs i).toNat) s
/-- channels in ascending order, from one number on, each from a gallery that is not yet among some -/
def Ext (cs : List Ch) : Nat → Nat → List Int → Prop
  | _, _, [] => True
  | lo, s, x :: r => ((lo : Int) ≤ x ∧ x < cs.length) ∧ inS s (frm cs x) = false ∧ Ext cs (x.toNat + 1) (s ||| 1 <<< (frm cs x).toNat) r
theorem Ext.up {cs : List Ch} {lo s : Nat} : ∀ {r : List Int}, Ext cs (lo + 1) s r → Ext cs lo s r
  | [], _ => trivial
  | _ :: _, ⟨⟨h1, h2⟩, h3⟩ => ⟨⟨by omega, h2⟩, h3⟩
theorem getD_ok {n : Nat} {cs : List Ch} (hc : ∀ c ∈ cs, ChOk n c) {i : Nat} (hi : i < cs.length) : ChOk n (cs.getD i (0, 0, 0)) := by
  rw [List.getD_eq_getElem?_getD, List.getElem?_eq_getElem hi]
  exact hc _ (List.getElem_mem hi)
theorem frm_in {n : Nat} {cs : List Ch} (hc : ∀ c ∈ cs, ChOk n c) {x : Int} (h0 : 0 ≤ x) (h1 : x < cs.length) : inS (allS n) (frm cs x) = true := by
  obtain ⟨⟨a, b⟩, _⟩ := getD_ok hc (i := x.toNat) (by omega)
  have e : frm cs x = (((frm cs x).toNat : Nat) : Int) := by
    have : 0 ≤ frm cs x := a
    omega
  rw [e]
  exact (allS_iff (n := n) (s := allS n) (by have := Nat.two_pow_pos n; unfold allS; omega)).1 rfl _ (by have : frm cs x < n := b; omega)

theorem mem_plansFrom {n : Nat} {cs : List Ch} (hc : ∀ c ∈ cs, ChOk n c) : ∀ (k i : Nat) (b : List Int) (s : Nat), k + i = cs.length → s ≠ allS n → ∀ l : List Int,
    l ∈ plansFrom n cs k i b s ↔ ∃ r, r ≠ [] ∧ l = b ++ r ∧ Ext cs i s r ∧ addS cs s r = allS n ∧ wetS n (chosenS cs l) = allS n
  | 0, i, b, s, hk, _, l => by
    simp only [plansFrom, List.not_mem_nil, false_iff]
    rintro ⟨r, h0, _, hx, _⟩
    match r, h0, hx with
    | x :: r, _, ⟨⟨h1, h2⟩, _⟩ => omega
  | k + 1, i, b, s, hk, hs, l => by
    have hfi : frm cs (i : Int) = (cs.getD i (0, 0, 0)).1 := by simp [frm]
    unfold plansFrom
    rw [List.mem_append, mem_plansFrom hc k (i + 1) b s (by omega) hs l, ← hfi]
    constructor
    · rintro (h | ⟨r, h0, h1, h2, h3⟩)
      · split at h
        · simp at h
        · rename_i hf
          have hf' : inS s (frm cs (i : Int)) = false := by simpa using hf
          split at h
          · rename_i ha
            split at h
            · rename_i hw
              obtain rfl := List.mem_singleton.1 h
              exact ⟨[(i : Int)], by simp, rfl, ⟨⟨Int.le_refl _, by omega⟩, hf', trivial⟩, ha, hw⟩
            · simp at h
          · rename_i ha
            obtain ⟨r, h0, h1, h2, h3, h4⟩ := (mem_plansFrom hc k (i + 1) (b ++ [(i : Int)]) _ (by omega) ha l).1 h
            exact ⟨(i : Int) :: r, by simp, by rw [h1]; simp, ⟨⟨Int.le_refl _, by omega⟩, hf', by simpa using h2⟩, h3, h4⟩
      · exact ⟨r, h0, h1, h2.up, h3⟩
    · rintro ⟨r, h0, h1, h2, h3, h4⟩
      match r, h0, h2 with
      | x :: r, _, ⟨⟨a1, a2⟩, hf, hx⟩ =>
        by_cases hxi : x = (i : Int)
        · subst hxi
          refine .inl ?_
          rw [if_neg (by simp [hf])]
          have e : addS cs s ((i : Int) :: r) = addS cs (s ||| 1 <<< (frm cs (i : Int)).toNat) r := rfl
          rw [e] at h3
          by_cases hr : r = []
          · subst hr
            have h3' : s ||| 1 <<< (frm cs (i : Int)).toNat = allS n := h3
            have h1' : l = b ++ [(i : Int)] := h1
            rw [if_pos h3', if_pos (by rw [← h1']; exact h4), h1']
            simp
          · have hne : s ||| 1 <<< (frm cs (i : Int)).toNat ≠ allS n := by
              intro he
              match r, hr, hx with
              | y :: r, _, ⟨⟨c1, c2⟩, hy, _⟩ =>
                rw [he, frm_in hc (by omega) c2] at hy
                cases hy
            rw [if_neg hne]
            exact (mem_plansFrom hc k (i + 1) (b ++ [(i : Int)]) _ (by omega) hne l).2 ⟨r, hr, by rw [h1]; simp, by simpa using hx, h3, h4⟩
        · exact .inr ⟨x :: r, by simp, h1, ⟨⟨by omega, a2⟩, hf, hx⟩, h3, h4⟩

/-- a plan: channels in ascending order, one from each gallery, by which all galleries drain -/
def Plan (n : Nat) (cs : List Ch) (l : List Int) : Prop := Ext cs 0 0 l ∧ addS cs 0 l = allS n ∧ wetS n (chosenS cs l) = allS n
theorem mem_plansS {n : Nat} {cs : List Ch} (hn : 1 ≤ n) (hc : ∀ c ∈ cs, ChOk n c) (l : List Int) : l ∈ plansS n cs ↔ Plan n cs l := by
  have h0 : (0 : Nat) ≠ allS n := by
    unfold allS
    have : 2 ^ 1 ≤ 2 ^ n := Nat.pow_le_pow_right (by decide) hn
    omega
  rw [plansS, mem_plansFrom hc cs.length 0 [] 0 (by omega) h0 l]
  constructor
  · rintro ⟨r, _, rfl, h⟩
    exact h
  · intro h
    refine ⟨l, ?_, rfl, h⟩
    rintro rfl
    exact h0 h.2.1

/-! its order -/
theorem lex_pre (b : List Int) {r1 r2 : List Int} (h : List.Lex (· < ·) r1 r2) : List.Lex (· < ·) (b ++ r1) (b ++ r2) := by
  induction b with
  | nil => exact h
  | cons x b ih => exact List.Lex.cons ih
theorem plansFrom_head (n : Nat) (cs : List Ch) : ∀ (k i : Nat) (b : List Int) (s : Nat), ∀ l ∈ plansFrom n cs k i b s, ∃ x r, l = b ++ x :: r ∧ (i : Int) ≤ x
  | 0, _, _, _, l, h => by simp [plansFrom] at h
  | k + 1, i, b, s, l, h => by
    unfold plansFrom at h
    rcases List.mem_append.1 h with h | h
    · split at h
      · simp at h
      · split at h
        · split at h
          · obtain rfl := List.mem_singleton.1 h
            exact ⟨(i : Int), [], rfl, Int.le_refl _⟩
          · simp at h
        · obtain ⟨x, r, e, _⟩ := plansFrom_head n cs k (i + 1) _ _ l h
          exact ⟨(i : Int), x :: r, by rw [e]; simp, Int.le_refl _⟩
    · obtain ⟨x, r, e, hx⟩ := plansFrom_head n cs k (i + 1) b s l h
      exact ⟨x, r, e, by omega⟩
theorem plansFrom_sorted (n : Nat) (cs : List Ch) : ∀ (k i : Nat) (b : List Int) (s : Nat), (plansFrom n cs k i b s).Pairwise (List.Lex (· < ·))
  | 0, _, _, _ => by simp [plansFrom]
  | k + 1, i, b, s => by
    unfold plansFrom
    refine List.pairwise_append.2 ⟨?_, plansFrom_sorted n cs k (i + 1) b s, ?_⟩
    · split
      · exact List.Pairwise.nil
      · split
        · split
          · exact List.pairwise_singleton _ _
          · exact List.Pairwise.nil
        · exact plansFrom_sorted n cs k (i + 1) _ _
    · intro l1 h1 l2 h2
      obtain ⟨y, r2, rfl, hy⟩ := plansFrom_head n cs k (i + 1) b s l2 h2
      have hl1 : ∃ r, l1 = b ++ (i : Int) :: r := by
        split at h1
        · simp at h1
        · split at h1
          · split at h1
            · obtain rfl := List.mem_singleton.1 h1
              exact ⟨[], rfl⟩
            · simp at h1
          · obtain ⟨x, r, e, _⟩ := plansFrom_head n cs k (i + 1) _ _ l1 h1
            exact ⟨x :: r, by rw [e]; simp⟩
      obtain ⟨r, rfl⟩ := hl1
      exact lex_pre b (List.Lex.rel (by omega))
theorem plansS_sorted (n : Nat) (cs : List Ch) : (plansS n cs).Pairwise (List.Lex (· < ·)) := plansFrom_sorted n cs _ _ _ _
end Go.Proofs.YtadamjleglckpaaGreat.drn

