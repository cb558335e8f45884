/- Lines that tell two lists of places apart: the tests of the program and of the law agree; four places have a division (plain mathematics). -/
import Derived.Test.YtcalipoknbbaaaaDiv
import Derived.Test.YtcalipoknbbaaaaGeo
import Derived.Test.YtcalipoknbbaaaaLine
import Derived.Test.YtcalipoknbbaaaaSeamp
namespace Go.Proofs.Ytcalipoknbbaaaa
open Go.RowKit

/-- the greatest, and the least, of a list in a direction -/
def mxF (d : Int × Int) (l : List Pl) : Int := l.foldl (fun m r => max m (d.1 * r.1 + d.2 * r.2)) (-1099511627776)
def mnF (d : Int × Int) (l : List Pl) : Int := l.foldl (fun m r => min m (d.1 * r.1 + d.2 * r.2)) 1099511627776
def signsL : List (Int × Int) := [(1, 1), (1, -1), (-1, 1), (-1, -1)]
def dirOf (dx dy : Int) (s : Int × Int) : Int × Int := (-300 * dy * s.1 + dx * s.2, 300 * dx * s.1 + dy * s.2)
def toldD (a b : List Pl) (d : Int × Int) : Bool := decide (mxF d a < mnF d b)
def toldS (a b : List Pl) (p q : Pl) : Bool := signsL.any fun s => toldD a b (dirOf (q.1 - p.1) (q.2 - p.2) s)
def toldQ (a b : List Pl) (p q : Pl) : Bool := !(p == q) && toldS a b p q
def toldP (a b : List Pl) (p : Pl) : Bool := (a ++ b).any (toldQ a b p)
def toldB (a b : List Pl) : Bool := (a ++ b).any (toldP a b)

theorem fold_mx (d : Int × Int) (c : Int) : ∀ (l : List Pl) (m : Int), l.foldl (fun m r => max m (d.1 * r.1 + d.2 * r.2)) m < c ↔ m < c ∧ ∀ r ∈ l, NV.dt d r < c
  | [], m => by simp
  | r :: l, m => by
    rw [List.foldl_cons, fold_mx d c l]
    have e : max m (d.1 * r.1 + d.2 * r.2) < c ↔ m < c ∧ d.1 * r.1 + d.2 * r.2 < c := by omega
    rw [e]
    simp only [List.mem_cons, forall_eq_or_imp, NV.dt, and_assoc]
theorem fold_mn (d : Int × Int) (c : Int) : ∀ (l : List Pl) (m : Int), c < l.foldl (fun m r => min m (d.1 * r.1 + d.2 * r.2)) m ↔ c < m ∧ ∀ r ∈ l, c < NV.dt d r
  | [], m => by simp
  | r :: l, m => by
    rw [List.foldl_cons, fold_mn d c l]
    have e : c < min m (d.1 * r.1 + d.2 * r.2) ↔ c < m ∧ c < d.1 * r.1 + d.2 * r.2 := by omega
    rw [e]
    simp only [List.mem_cons, forall_eq_or_imp, NV.dt, and_assoc]
theorem sup_lt (s : Int × Int) (A : List Pl) (c : Int) : supC s A < c ↔ -9223372036854775808 < c ∧ ∀ r ∈ A, NV.dt s r < c := fold_mx s c A _
theorem tells_iff (a b : List Pl) (s : Int × Int) : tells a b s = true ↔ ∀ q ∈ b, supC s a < NV.dt s q := by
  simp only [tells, anyAgr, Bool.not_eq_true', List.any_eq_false, agr, decide_eq_true_eq, Int.not_le]
  exact Iff.rfl

theorem toldD_iff {a b : List Pl} {d : Int × Int} (ha : ∀ p ∈ a, -1099511627776 < NV.dt d p ∧ NV.dt d p < 1099511627776) (hb : ∀ p ∈ b, -1099511627776 < NV.dt d p ∧ NV.dt d p < 1099511627776) :
    toldD a b d = true ↔ NV.SepD d a b := by
  rw [toldD, decide_eq_true_eq, mxF, fold_mx]
  constructor
  · rintro ⟨_, h⟩ p hp q hq
    exact ((fold_mn d _ b _).1 (h p hp)).2 q hq
  · intro h
    exact ⟨(fold_mn d _ b _).2 ⟨by omega, fun r hr => (hb r hr).1⟩, fun r hr => (fold_mn d _ b _).2 ⟨(ha r hr).2, fun q hq => h r hr q hq⟩⟩

theorem big_dt {u v : Int} {p : Pl} (hp : NV.inG p) (hu : -10000 ≤ u ∧ u ≤ 10000) (hv : -10000 ≤ v ∧ v ≤ 10000) : -1099511627776 < NV.dt (u, v) p ∧ NV.dt (u, v) p < 1099511627776 := by
  obtain ⟨⟨h1, h2⟩, h3, h4⟩ := hp
  have m1 := mul_small (a := 10000) (b := 6) (x := u) (y := p.1) ⟨by omega, by omega⟩ ⟨by omega, by omega⟩
  have m2 := mul_small (a := 10000) (b := 6) (x := v) (y := p.2) ⟨by omega, by omega⟩ ⟨by omega, by omega⟩
  obtain ⟨a1, a2⟩ := m1
  obtain ⟨b1, b2⟩ := m2
  simp only [NV.dt]
  omega

theorem dirOf_small {dx dy : Int} {s : Int × Int} (hx : -6 ≤ dx ∧ dx ≤ 6) (hy : -6 ≤ dy ∧ dy ≤ 6) (hs : s ∈ signsL) : (-10000 ≤ (dirOf dx dy s).1 ∧ (dirOf dx dy s).1 ≤ 10000) ∧ -10000 ≤ (dirOf dx dy s).2 ∧ (dirOf dx dy s).2 ≤ 10000 := by
  simp only [signsL, List.mem_cons, List.not_mem_nil, or_false] at hs
  rcases hs with rfl | rfl | rfl | rfl <;> simp only [dirOf] <;> omega

theorem pl_beq (p q : Pl) : (!(p == q)) = true ↔ p ≠ q := by simp

theorem sepB_iff {a b : List Pl} (ha0 : a ≠ []) (ha : ∀ p ∈ a, NV.inG p) : sepB a b = true ↔ ∃ s ∈ slopesL 9, NV.SepD s a b := by
  rw [sepB, separateOf, Option.isSome_map, List.find?_isSome]
  constructor
  · rintro ⟨s, hs, h⟩
    refine ⟨s, hs, ?_⟩
    intro p hp q hq
    exact ((sup_lt _ _ _).1 ((tells_iff a b s).1 h q hq)).2 p hp
  · rintro ⟨s, hs, h⟩
    refine ⟨s, hs, ?_⟩
    refine (tells_iff a b s).2 fun q hq => (sup_lt _ _ _).2 ⟨?_, fun p hp => h p hp q hq⟩
    obtain ⟨p, a', rfl⟩ := List.exists_cons_of_ne_nil ha0
    have h1 := h p (by simp) q hq
    have hsm := slopesL_small s hs
    have := big_dt (u := s.1) (v := s.2) (ha p (by simp)) ⟨by have := hsm.1.1; omega, by have := hsm.1.2; omega⟩ ⟨by have := hsm.2.1; omega, by have := hsm.2.2; omega⟩
    have e2 : NV.dt (s.1, s.2) p = NV.dt s p := rfl
    omega

theorem mem_slopes9 {m : Int × Int} (h : (-6 ≤ m.1 ∧ m.1 ≤ 6) ∧ -6 ≤ m.2 ∧ m.2 ≤ 6) (h0 : m ≠ (0, 0)) : m ∈ slopesL 9 := by
  have key : ((List.range 13).all fun i : Nat => (List.range 13).all fun j : Nat => ((-6 + (i : Int) == 0) && (-6 + (j : Int) == 0)) || (slopesL 9).contains (-6 + (i : Int), -6 + (j : Int))) = true := by decide +kernel
  obtain ⟨u, v⟩ := m
  obtain ⟨⟨h1, h2⟩, h3, h4⟩ := h
  simp only at h1 h2 h3 h4
  have e1 : -6 + ((u + 6).toNat : Int) = u := by omega
  have e2 : -6 + ((v + 6).toNat : Int) = v := by omega
  have := List.all_eq_true.1 (List.all_eq_true.1 key (u + 6).toNat (List.mem_range.2 (by omega))) (v + 6).toNat (List.mem_range.2 (by omega))
  rw [e1, e2, Bool.or_eq_true, Bool.and_eq_true, beq_iff_eq, beq_iff_eq, List.contains_iff_mem] at this
  rcases this with ⟨rfl, rfl⟩ | h
  · exact absurd rfl h0
  · exact h

/-- what the program's separate says: whether some line tells the lists apart -/
theorem sepB_any {a b : List Pl} (ha0 : a ≠ []) (hb0 : b ≠ []) (ha : ∀ p ∈ a, NV.inG p) (hb : ∀ p ∈ b, NV.inG p) : sepB a b = true ↔ ∃ n, NV.SepD n a b := by
  rw [sepB_iff ha0 ha]
  constructor
  · rintro ⟨s, _, h⟩; exact ⟨s, h⟩
  · rintro ⟨n, h⟩
    obtain ⟨m, h1, h2, h3⟩ := NV.sep_small ha0 hb0 h ha hb
    exact ⟨m, mem_slopes9 h1 h2, h3⟩

theorem sepD_ne {n : Int × Int} {a b : List Pl} (h : NV.SepD n a b) {p q : Pl} (hp : p ∈ a) (hq : q ∈ b) : p ≠ q := by
  rintro rfl
  have := h p hp p hq
  omega

theorem toldB_any {a b : List Pl} (ha0 : a ≠ []) (hb0 : b ≠ []) (ha : ∀ p ∈ a, NV.inG p) (hb : ∀ p ∈ b, NV.inG p) : toldB a b = true ↔ ∃ n, NV.SepD n a b := by
  have hab : ∀ p ∈ a ++ b, NV.inG p := fun p h => by rcases List.mem_append.1 h with h | h; exact ha p h; exact hb p h
  have big : ∀ p ∈ a ++ b, ∀ q ∈ a ++ b, ∀ s ∈ signsL, (∀ r ∈ a, -1099511627776 < NV.dt (dirOf (q.1 - p.1) (q.2 - p.2) s) r ∧ NV.dt (dirOf (q.1 - p.1) (q.2 - p.2) s) r < 1099511627776) ∧
      (∀ r ∈ b, -1099511627776 < NV.dt (dirOf (q.1 - p.1) (q.2 - p.2) s) r ∧ NV.dt (dirOf (q.1 - p.1) (q.2 - p.2) s) r < 1099511627776) := by
    intro p hp q hq s hs
    obtain ⟨⟨p1, p2⟩, p3, p4⟩ := hab p hp
    obtain ⟨⟨q1, q2⟩, q3, q4⟩ := hab q hq
    obtain ⟨d1, d2⟩ := dirOf_small (dx := q.1 - p.1) (dy := q.2 - p.2) (by omega) (by omega) hs
    exact ⟨fun r hr => big_dt (ha r hr) d1 d2, fun r hr => big_dt (hb r hr) d1 d2⟩
  constructor
  · intro h
    obtain ⟨p, hp, h⟩ := List.any_eq_true.1 h
    obtain ⟨q, hq, h⟩ := List.any_eq_true.1 h
    obtain ⟨_, h⟩ := Bool.and_eq_true_iff.1 h
    obtain ⟨s, hs, h⟩ := List.any_eq_true.1 h
    obtain ⟨b1, b2⟩ := big p hp q hq s hs
    exact ⟨_, (toldD_iff b1 b2).1 h⟩
  · rintro ⟨n, h⟩
    obtain ⟨p, hp, q, hq, h2⟩ := NV.sep_tilt ha0 hb0 h ha hb
    have hp' : p ∈ a ++ b := List.mem_append_left _ hp
    have hq' : q ∈ a ++ b := List.mem_append_right _ hq
    refine List.any_eq_true.2 ⟨q, hq', List.any_eq_true.2 ⟨p, hp', Bool.and_eq_true_iff.2 ⟨(pl_beq _ _).2 (sepD_ne h hp hq).symm, List.any_eq_true.2 ⟨(-1, -1), by simp [signsL], ?_⟩⟩⟩⟩
    obtain ⟨b1, b2⟩ := big q hq' p hp' (-1, -1) (by simp [signsL])
    refine (toldD_iff b1 b2).2 ?_
    have e : dirOf (p.1 - q.1) (p.2 - q.2) (-1, -1) = NV.tiltD (NV.sub p q) := by
      simp only [dirOf, NV.tiltD, NV.sub, Prod.mk.injEq]
      omega
    rw [e]
    exact h2

theorem told_sep {a b : List Pl} (ha0 : a ≠ []) (hb0 : b ≠ []) (ha : ∀ p ∈ a, NV.inG p) (hb : ∀ p ∈ b, NV.inG p) : toldB a b = sepB a b := by
  rw [Bool.eq_iff_iff, toldB_any ha0 hb0 ha hb, sepB_any ha0 hb0 ha hb]
end Go.Proofs.Ytcalipoknbbaaaa
namespace Go.Proofs.Ytcalipoknbbaaaa
open Go.RowKit
set_option linter.unusedSimpArgs false
set_option linter.unusedVariables false

theorem hasI_membL (s i : Nat) (hi : i < 12) : hasI (membL s) i = s.testBit i := by
  rw [Bool.eq_iff_iff]
  simp only [hasI, membL, membTo, List.any_eq_true, List.mem_map, List.mem_filter, List.mem_range, beq_iff_eq]
  constructor
  · rintro ⟨y, ⟨j, ⟨h1, h2⟩, rfl⟩, h3⟩
    have e : i = j := by omega
    rw [e]
    exact h2
  · intro h
    exact ⟨(i : Int), ⟨i, ⟨hi, h⟩, rfl⟩, rfl⟩

/-- the law's choice among the seven divisions -/
def radStep (f : List Int → Bool) (w : Option (List Int)) (s : Nat) : Option (List Int) :=
  if f (membL s) && (match w with | none => true | some x => decide (cmpI (membL s) x < 0)) then some (membL s) else w
def radTo (f : List Int → Bool) : Nat → Option (List Int)
  | 0 => none
  | j + 1 => radStep f (radTo f j) (2 * j + 1)

theorem mem_1 : membL 1 = [0] := by decide
theorem mem_3 : membL 3 = [0, 1] := by decide
theorem mem_5 : membL 5 = [0, 2] := by decide
theorem mem_7 : membL 7 = [0, 1, 2] := by decide
theorem mem_9 : membL 9 = [0, 3] := by decide
theorem mem_11 : membL 11 = [0, 1, 3] := by decide
theorem mem_13 : membL 13 = [0, 2, 3] := by decide

def rad7 (b0 b01 b02 b012 b03 b013 b023 : Bool) : List Int → Bool := fun d =>
  if d = [0] then b0 else if d = [0, 1] then b01 else if d = [0, 2] then b02 else if d = [0, 1, 2] then b012 else if d = [0, 3] then b03 else if d = [0, 1, 3] then b013 else b023
theorem radTo_rad7 : ∀ b0 b01 b02 b012 b03 b013 b023 : Bool, radTo (rad7 b0 b01 b02 b012 b03 b013 b023) 7 = divs.find? (rad7 b0 b01 b02 b012 b03 b013 b023) := by decide +kernel
theorem radTo_congr {f g : List Int → Bool} (h : ∀ d ∈ divs, f d = g d) : radTo f 7 = radTo g 7 := by
  simp only [divs, List.mem_cons, List.not_mem_nil, or_false, forall_eq_or_imp, forall_eq] at h
  obtain ⟨h0, h1, h2, h3, h4, h5, h6⟩ := h
  simp only [radTo, radStep, Nat.mul_zero, Nat.zero_add, Nat.reduceMul, Nat.reduceAdd, mem_1, mem_3, mem_5, mem_7, mem_9, mem_11, mem_13, h0, h1, h2, h3, h4, h5, h6]
theorem radTo_find (f : List Int → Bool) : radTo f 7 = divs.find? f := by
  have h : ∀ d ∈ divs, f d = rad7 (f [0]) (f [0, 1]) (f [0, 2]) (f [0, 1, 2]) (f [0, 3]) (f [0, 1, 3]) (f [0, 2, 3]) d := by
    intro d hd
    simp only [divs, List.mem_cons, List.not_mem_nil, or_false] at hd
    rcases hd with rfl | rfl | rfl | rfl | rfl | rfl | rfl <;> rfl
  rw [radTo_congr h, radTo_rad7]
  have : ∀ l : List (List Int), (∀ d ∈ l, d ∈ divs) → l.find? f = l.find? (rad7 (f [0]) (f [0, 1]) (f [0, 2]) (f [0, 1, 2]) (f [0, 3]) (f [0, 1, 3]) (f [0, 2, 3])) := by
    intro l
    induction l with
    | nil => intro _; rfl
    | cons d l ih =>
      intro hl
      rw [List.find?_cons, List.find?_cons, h d (hl d (by simp)), ih fun x hx => hl x (by simp [hx])]
  exact (this divs fun d hd => hd).symm

/-- a list that some slope tells apart from another one -/
theorem sepD_bound {n : Int × Int} {A B : List Pl} (hA : A ≠ []) (h : NV.SepD n A B) : ∃ m : Int, (∀ p ∈ A, NV.dt n p ≤ m) ∧ ∀ q ∈ B, m < NV.dt n q := by
  obtain ⟨a, ha, hm⟩ := NV.ex_max (NV.dt n) A hA
  exact ⟨NV.dt n a, hm, fun q hq => h a ha q hq⟩

theorem sepB_none {a b : List Pl} (ha0 : a ≠ []) (ha : ∀ p ∈ a, NV.inG p) (h : ∀ (n : Int × Int) (m : Int), ¬((∀ p ∈ a, NV.dt n p ≤ m) ∧ ∀ q ∈ b, m < NV.dt n q)) : sepB a b = false := by
  cases hs : sepB a b with
  | false => rfl
  | true =>
    obtain ⟨s, _, hd⟩ := (sepB_iff ha0 ha).1 hs
    obtain ⟨m, h1, h2⟩ := sepD_bound ha0 hd
    exact absurd ⟨h1, h2⟩ (h s m)

/-- four places in ascending order have a division -/
theorem rad_some {p0 p1 p2 p3 : Pl} (h1 : NV.ltP p0 p1) (h2 : NV.ltP p1 p2) (hi : ∀ p ∈ [p0, p1, p2, p3], NV.inG p) : ∃ d ∈ divs, divides [p0, p1, p2, p3] d = true := by
  obtain ⟨b1, b2, b3, hb, h⟩ := NV.radon (p3 := p3) h1 h2
  simp only [List.mem_cons, List.not_mem_nil, or_false, forall_eq_or_imp, forall_eq] at hi
  obtain ⟨i0, i1, i2, i3⟩ := hi
  have fin : ∀ d ∈ divs, (sel true d [p0, p1, p2, p3] ≠ []) → (∀ p ∈ sel true d [p0, p1, p2, p3], NV.inG p) →
      (∀ (n : Int × Int) (m : Int), ¬((∀ p ∈ sel true d [p0, p1, p2, p3], NV.dt n p ≤ m) ∧ ∀ q ∈ sel false d [p0, p1, p2, p3], m < NV.dt n q)) → ∃ d ∈ divs, divides [p0, p1, p2, p3] d = true := by
    intro d hd a1 a2 a3
    exact ⟨d, hd, by rw [divides, sepB_none a1 a2 a3]; rfl⟩
  cases b1 <;> cases b2 <;> cases b3 <;> simp only [Bool.and_self, Bool.and_true, Bool.and_false, Bool.true_and, Bool.false_and, Bool.true_eq_false, Bool.false_eq_true, ↓reduceIte] at hb h
  · refine fin [0] (by simp [divs]) ?_ ?_ ?_
    · simp [sel, hasI]
    · simp [sel, hasI, *]
    · intro n m; have := h n m; simp [sel, hasI]; omega
  · refine fin [0, 3] (by simp [divs]) ?_ ?_ ?_
    · simp [sel, hasI]
    · simp [sel, hasI, *]
    · intro n m; have := h n m; simp [sel, hasI]; omega
  · refine fin [0, 2] (by simp [divs]) ?_ ?_ ?_
    · simp [sel, hasI]
    · simp [sel, hasI, *]
    · intro n m; have := h n m; simp [sel, hasI]; omega
  · refine fin [0, 2, 3] (by simp [divs]) ?_ ?_ ?_
    · simp [sel, hasI]
    · simp [sel, hasI, *]
    · intro n m; have := h n m; simp [sel, hasI]; omega
  · refine fin [0, 1] (by simp [divs]) ?_ ?_ ?_
    · simp [sel, hasI]
    · simp [sel, hasI, *]
    · intro n m; have := h n m; simp [sel, hasI]; omega
  · refine fin [0, 1, 3] (by simp [divs]) ?_ ?_ ?_
    · simp [sel, hasI]
    · simp [sel, hasI, *]
    · intro n m; have := h n m; simp [sel, hasI]; omega
  · refine fin [0, 1, 2] (by simp [divs]) ?_ ?_ ?_
    · simp [sel, hasI]
    · simp [sel, hasI, *]
    · intro n m; have := h n m; simp [sel, hasI]; omega

/-- the row that made makes: places of the grid in ascending order -/
def RowUp (l : List Pl) : Prop := l ≠ [] ∧ l.length ≤ 12 ∧ (∀ p ∈ l, NV.inG p) ∧ l.Pairwise NV.ltP
theorem inG_onG {p : Pl} (h : NV.inG p) : onG 7 p = true := by
  obtain ⟨⟨a, b⟩, c, d⟩ := h
  simp only [onG, decide_eq_true_eq]
  omega
theorem before_lt (p q : Pl) : beforeP p q = true ↔ NV.ltP p q := by
  simp only [beforeP, NV.ltP, Bool.or_eq_true, Bool.and_eq_true, decide_eq_true_eq, beq_iff_eq]
theorem errPs_up : ∀ (l : List Pl) (o : Option Pl), (∀ p ∈ l, NV.inG p) → l.Pairwise NV.ltP → (∀ b, o = some b → ∀ p ∈ l, NV.ltP b p) → errPs o l = 0
  | [], o, _, _, _ => errPs_nil o
  | p :: r, o, hi, hp, ho => by
    rw [errPs_cons, if_neg (by rw [inG_onG (hi p (by simp))]; simp)]
    rw [if_neg (by
      cases o with
      | none => simp
      | some b => simp only [(before_lt b p).2 (ho b rfl p (by simp))]; simp)]
    rw [List.pairwise_cons] at hp
    exact errPs_up r (some p) (fun q hq => hi q (by simp [hq])) hp.2 (fun b hb q hq => by injection hb with hb; subst hb; exact hp.1 q hq)
theorem RowUp.err {l : List Pl} (h : RowUp l) : errP l = 0 := by
  obtain ⟨h0, h1, h2, h3⟩ := h
  have : l.length ≠ 0 := fun h => h0 (List.length_eq_zero_iff.1 h)
  rw [errP, if_neg this, if_neg (by omega)]
  exact errPs_up l none h2 h3 (by simp)

theorem divideOf_short {l : List Pl} (h : RowUp l) (h4 : l.length ≠ 4) : divideOf l = ([], 5) := by
  rw [divideOf, if_neg (by simp [h.err]), if_pos h4]
/-- the division that Divide returns is the law's -/
theorem divideOf_four {l : List Pl} (h : RowUp l) (h4 : l.length = 4) : ∃ d, radTo (divides l) 7 = some d ∧ divideOf l = (d, 0) ∧ d.length ≤ 4 := by
  have he := h.err
  obtain ⟨h0, h1, h2, h3⟩ := h
  match l, h4 with
  | [p0, p1, p2, p3], h4 =>
    have a1 : NV.ltP p0 p1 := by simp at h3; exact h3.1.1
    have a2 : NV.ltP p1 p2 := by simp at h3; exact h3.2.1.1
    obtain ⟨d, hd, hx⟩ := rad_some a1 a2 h2
    have hs : (divs.find? (divides [p0, p1, p2, p3])).isSome = true := List.find?_isSome.2 ⟨d, hd, hx⟩
    obtain ⟨y, hy⟩ := Option.isSome_iff_exists.1 hs
    refine ⟨y, by rw [radTo_find, hy], by rw [divideOf, if_neg (by simp [he]), if_neg (by simp), hy]; rfl, ?_⟩
    have := List.mem_of_find?_eq_some hy
    revert this
    have hh : ∀ z ∈ divs, z.length ≤ 4 := by decide
    exact hh y

theorem sel_memb_ne {l : List Pl} (h4 : l.length = 4) (j : Nat) (hj : j < 7) : sel true (membL (2 * j + 1)) l ≠ [] ∧ sel false (membL (2 * j + 1)) l ≠ [] := by
  match l, h4 with
  | [p0, p1, p2, p3], h4 =>
    have : j = 0 ∨ j = 1 ∨ j = 2 ∨ j = 3 ∨ j = 4 ∨ j = 5 ∨ j = 6 := by omega
    rcases this with rfl | rfl | rfl | rfl | rfl | rfl | rfl <;> simp [mem_1, mem_3, mem_5, mem_7, mem_9, mem_11, mem_13, sel, hasI]
theorem sel_inG {b : Bool} {d : List Int} {l : List Pl} (h : ∀ p ∈ l, NV.inG p) : ∀ p ∈ sel b d l, NV.inG p := by
  intro p hp
  simp only [sel, List.mem_map, List.mem_filter] at hp
  obtain ⟨x, ⟨h1, _⟩, rfl⟩ := hp
  exact h _ (List.fst_mem_of_mem_zipIdx h1)
theorem radTo_succ {l : List Pl} (h : RowUp l) (h4 : l.length = 4) (j : Nat) (hj : j < 7) :
    (!toldB (sel true (membL (2 * j + 1)) l) (sel false (membL (2 * j + 1)) l)) = divides l (membL (2 * j + 1)) := by
  obtain ⟨a, b⟩ := sel_memb_ne h4 j hj
  rw [told_sep a b (sel_inG h.2.2.1) (sel_inG h.2.2.1)]
  rfl
end Go.Proofs.Ytcalipoknbbaaaa
