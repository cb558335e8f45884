/- Plain facts of galleries, regions and lists of indices (Doignon's theorem among them): what the statements by numbers need (no walk). -/
import Derived.Test.YtcalipoknbbaaaaClash
import Derived.Test.YtcalipoknbbaaaaKnown
import Derived.Test.YtcalipoknbbaaaaProv
import Derived.Test.YtcalipoknbbaaaaLine
namespace NV
abbrev Pl := Int × Int
abbrev Gl := Int × Int × Int

def val (g : Gl) (p : Pl) : Int := g.1 * p.1 + g.2.1 * p.2
def agr (g : Gl) (p : Pl) : Bool := decide (val g p ≤ g.2.2)
/-- a place of the grid of a size -/
def inGrid (n : Nat) (p : Pl) : Prop := 0 ≤ p.1 ∧ p.1 < n ∧ 0 ≤ p.2 ∧ p.2 < n

/-- the argument with the least value of f among those of a list -/
theorem exists_min {α : Type} (f : α → Int) : ∀ (l : List α), l ≠ [] → ∃ a ∈ l, ∀ b ∈ l, f a ≤ f b
  | [], h => absurd rfl h
  | [a], _ => ⟨a, by simp, by simp⟩
  | a :: b :: l, _ => by
    obtain ⟨m, hm, hmin⟩ := exists_min f (b :: l) (by simp)
    by_cases h : f a ≤ f m
    · exact ⟨a, by simp, fun c hc => by
        rcases List.mem_cons.1 hc with rfl | hc
        · exact Int.le_refl _
        · exact Int.le_trans h (hmin c hc)⟩
    · exact ⟨m, List.mem_cons_of_mem _ hm, fun c hc => by
        rcases List.mem_cons.1 hc with rfl | hc
        · omega
        · exact hmin c hc⟩

def gridL (n : Nat) : List Pl := (List.range n).flatMap fun x : Nat => (List.range n).map fun y : Nat => ((x : Int), (y : Int))

theorem mem_gridL {n : Nat} {p : Pl} : p ∈ gridL n ↔ inGrid n p := by
  obtain ⟨x, y⟩ := p
  simp only [gridL, List.mem_flatMap, List.mem_range, List.mem_map, Prod.mk.injEq, inGrid]
  constructor
  · rintro ⟨a, ha, b, hb, rfl, rfl⟩; omega
  · rintro ⟨h1, h2, h3, h4⟩
    exact ⟨x.toNat, by omega, y.toNat, by omega, by omega, by omega⟩

/-- some indices contradict each other -/
def Contra (n : Nat) (G : Nat → Gl) (is : List Nat) : Prop := ∀ p, inGrid n p → ∃ i ∈ is, agr (G i) p = false

theorem nodup_inj {l : List Nat} (h : l.Nodup) {i j : Nat} (hi : i < l.length) (hj : j < l.length) (e : l[i] = l[j]) : i = j := by
  have hp := List.pairwise_iff_getElem.1 h
  rcases Nat.lt_trichotomy i j with hlt | heq | hgt
  · exact absurd e (hp i j hi hj hlt)
  · exact heq
  · exact absurd e.symm (hp j i hj hi hgt)

theorem relax (n : Nat) (G : Nat → Gl) (is : List Nat) (hnd : is.Nodup) (hcon : Contra n G is)
    (hcrit : ∀ i ∈ is, ∃ p, inGrid n p ∧ ∀ j ∈ is, j ≠ i → agr (G j) p = true) :
    ∀ m, m ≤ is.length → ∃ (c : Nat → Int) (P : Nat → Pl),
      (∀ i, (G i).2.2 ≤ c i) ∧ (∀ i, i ∉ is.take m → c i = (G i).2.2) ∧
      (∀ p, inGrid n p → ∃ i ∈ is, c i < val (G i) p) ∧
      (∀ i ∈ is.take m, inGrid n (P i) ∧ val (G i) (P i) = c i + 1 ∧ ∀ j ∈ is, j ≠ i → val (G j) (P i) ≤ c j) := by
  intro m
  induction m with
  | zero =>
    intro _
    refine ⟨fun i => (G i).2.2, fun _ => (0, 0), fun i => Int.le_refl _, fun _ _ => rfl, fun p hp => ?_, by simp⟩
    obtain ⟨i, hi, h⟩ := hcon p hp
    exact ⟨i, hi, by simpa [agr] using h⟩
  | succ m ih =>
    intro hm
    obtain ⟨c, P, h1, h2, h3, h4⟩ := ih (by omega)
    have hmem : is[m] ∈ is := List.getElem_mem _
    have hnot : is[m] ∉ is.take m := by
      intro h
      obtain ⟨k, hk, e⟩ := List.mem_take_iff_getElem.1 h
      have := nodup_inj hnd (by omega) (by omega) e
      omega
    -- the places that agree with all others
    let L := (gridL n).filter fun p => is.all fun j => decide (j ≠ is[m] → val (G j) p ≤ c j)
    have hL : L ≠ [] := by
      obtain ⟨p, hp, hj⟩ := hcrit _ hmem
      have : p ∈ L := by
        simp only [L, List.mem_filter, mem_gridL, List.all_eq_true, decide_eq_true_eq]
        exact ⟨hp, fun j hj' hne => by have := hj j hj' hne; simp only [agr, decide_eq_true_eq] at this; exact Int.le_trans this (h1 j)⟩
      exact List.ne_nil_of_mem this
    obtain ⟨q, hq, hmin⟩ := exists_min (val (G is[m])) L hL
    simp only [L, List.mem_filter, mem_gridL, List.all_eq_true, decide_eq_true_eq] at hq hmin
    have hgt : c is[m] < val (G is[m]) q := by
      obtain ⟨i, hi, h⟩ := h3 q hq.1
      by_cases e : i = is[m]
      · rw [← e]; exact h
      · have := hq.2 i hi e; omega
    refine ⟨fun i => if i = is[m] then val (G is[m]) q - 1 else c i, fun i => if i = is[m] then q else P i, ?_, ?_, ?_, ?_⟩
    · intro i
      by_cases e : i = is[m]
      · subst e; have := h1 is[m]; simp; omega
      · simp [e]; exact h1 i
    · intro i hi
      rw [List.take_succ_eq_append_getElem (by omega)] at hi
      simp only [List.mem_append, List.mem_singleton, not_or] at hi
      simp only [hi.2, if_false]
      exact h2 i hi.1
    · intro p hp
      by_cases hall : ∀ j ∈ is, j ≠ is[m] → val (G j) p ≤ c j
      · refine ⟨is[m], hmem, ?_⟩
        have := hmin p ⟨hp, hall⟩
        simp; omega
      · obtain ⟨j, hj⟩ := Classical.not_forall.1 hall
        obtain ⟨hj1, hj2⟩ := Classical.not_imp.1 hj
        obtain ⟨hj3, hj4⟩ := Classical.not_imp.1 hj2
        exact ⟨j, hj1, by simp only [hj3, if_false]; omega⟩
    · intro i hi
      rw [List.take_succ_eq_append_getElem (by omega)] at hi
      simp only [List.mem_append, List.mem_singleton] at hi
      by_cases e : i = is[m]
      · subst e
        simp only [if_true]
        refine ⟨hq.1, by omega, fun j hj hne => ?_⟩
        simp only [hne, if_false]
        exact hq.2 j hj hne
      · have hi' : i ∈ is.take m := by rcases hi with h | h; exact h; exact absurd h e
        obtain ⟨g1, g2, g3⟩ := h4 i hi'
        simp only [e, if_false]
        refine ⟨g1, g2, fun j hj hne => ?_⟩
        by_cases e' : j = is[m]
        · subst e'
          have := g3 _ hj hne
          simp; omega
        · simp only [e', if_false]; exact g3 j hj hne

theorem five_parity (f : Nat → Pl) : ∃ i j, i < j ∧ j < 5 ∧ ((f i).1 + (f j).1) % 2 = 0 ∧ ((f i).2 + (f j).2) % 2 = 0 := by
  have key : ∀ a0 a1 a2 a3 a4 b0 b1 b2 b3 b4 : Bool,
      (a0 == a1 && b0 == b1) || (a0 == a2 && b0 == b2) || (a0 == a3 && b0 == b3) || (a0 == a4 && b0 == b4) || (a1 == a2 && b1 == b2) ||
      (a1 == a3 && b1 == b3) || (a1 == a4 && b1 == b4) || (a2 == a3 && b2 == b3) || (a2 == a4 && b2 == b4) || (a3 == a4 && b3 == b4) := by decide
  have k := key ((f 0).1 % 2 == 0) ((f 1).1 % 2 == 0) ((f 2).1 % 2 == 0) ((f 3).1 % 2 == 0) ((f 4).1 % 2 == 0)
    ((f 0).2 % 2 == 0) ((f 1).2 % 2 == 0) ((f 2).2 % 2 == 0) ((f 3).2 % 2 == 0) ((f 4).2 % 2 == 0)
  have two : ∀ i j, (((f i).1 % 2 == 0) == ((f j).1 % 2 == 0) && ((f i).2 % 2 == 0) == ((f j).2 % 2 == 0)) = true → ((f i).1 + (f j).1) % 2 = 0 ∧ ((f i).2 + (f j).2) % 2 = 0 := by
    intro i j h
    simp only [Bool.and_eq_true, beq_iff_eq] at h
    obtain ⟨h1, h2⟩ := h
    have e1 : ((f i).1 % 2 = 0) ↔ ((f j).1 % 2 = 0) := by rw [← beq_iff_eq, ← beq_iff_eq (a := (f j).1 % 2), h1]
    have e2 : ((f i).2 % 2 = 0) ↔ ((f j).2 % 2 = 0) := by rw [← beq_iff_eq, ← beq_iff_eq (a := (f j).2 % 2), h2]
    omega
  simp only [Bool.or_eq_true] at k
  rcases k with (((((((((h | h) | h) | h) | h) | h) | h) | h) | h) | h)
  · exact ⟨0, 1, by omega, by omega, two 0 1 h⟩
  · exact ⟨0, 2, by omega, by omega, two 0 2 h⟩
  · exact ⟨0, 3, by omega, by omega, two 0 3 h⟩
  · exact ⟨0, 4, by omega, by omega, two 0 4 h⟩
  · exact ⟨1, 2, by omega, by omega, two 1 2 h⟩
  · exact ⟨1, 3, by omega, by omega, two 1 3 h⟩
  · exact ⟨1, 4, by omega, by omega, two 1 4 h⟩
  · exact ⟨2, 3, by omega, by omega, two 2 3 h⟩
  · exact ⟨2, 4, by omega, by omega, two 2 4 h⟩
  · exact ⟨3, 4, by omega, by omega, two 3 4 h⟩

theorem doignon (n : Nat) (G : Nat → Gl) (is : List Nat) (hnd : is.Nodup) (hcon : Contra n G is)
    (hcrit : ∀ i ∈ is, ∃ p, inGrid n p ∧ ∀ j ∈ is, j ≠ i → agr (G j) p = true) : is.length ≤ 4 := by
  apply Classical.byContradiction
  intro hk
  obtain ⟨c, P, h1, h2, h3, h4⟩ := relax n G is hnd hcon hcrit is.length (Nat.le_refl _)
  rw [List.take_length] at h4
  obtain ⟨i, j, hij, hj, e1, e2⟩ := five_parity fun k => P (is.getD k 0)
  have gi : is.getD i 0 = is[i] := by simp [List.getD_eq_getElem?_getD, List.getElem?_eq_getElem (show i < is.length by omega)]
  have gj : is.getD j 0 = is[j] := by simp [List.getD_eq_getElem?_getD, List.getElem?_eq_getElem (show j < is.length by omega)]
  rw [gi, gj] at e1 e2
  have hne : is[i] ≠ is[j] := by
    intro e
    have := nodup_inj hnd (by omega) (by omega) e
    omega
  obtain ⟨p1, p2, p3⟩ := h4 is[i] (List.getElem_mem _)
  obtain ⟨q1, q2, q3⟩ := h4 is[j] (List.getElem_mem _)
  generalize P is[i] = p at *
  generalize P is[j] = q at *
  have hmid : inGrid n ((p.1 + q.1) / 2, (p.2 + q.2) / 2) := by unfold inGrid at *; simp only; omega
  obtain ⟨k, hk', hlt⟩ := h3 _ hmid
  have hdbl : 2 * val (G k) ((p.1 + q.1) / 2, (p.2 + q.2) / 2) = val (G k) p + val (G k) q := by
    have a1 : 2 * ((p.1 + q.1) / 2) = p.1 + q.1 := by omega
    have a2 : 2 * ((p.2 + q.2) / 2) = p.2 + q.2 := by omega
    simp only [val]
    generalize (p.1 + q.1) / 2 = u at *
    generalize (p.2 + q.2) / 2 = v at *
    grind
  by_cases e : k = is[i]
  · rw [e] at hlt hdbl
    have := q3 _ (List.getElem_mem _) hne
    omega
  · by_cases e' : k = is[j]
    · rw [e'] at hlt hdbl
      have := p3 _ (List.getElem_mem _) (Ne.symm hne)
      omega
    · have := p3 k hk' e
      have := q3 k hk' e'
      omega

theorem contra_four (n : Nat) (G : Nat → Gl) : ∀ (m : Nat) (is : List Nat), is.length ≤ m → is.Nodup → Contra n G is →
    ∃ js, js.Sublist is ∧ js.length ≤ 4 ∧ Contra n G js := by
  intro m
  induction m with
  | zero => intro is hl _ hc; exact ⟨is, List.Sublist.refl _, by omega, hc⟩
  | succ m ih =>
    intro is hl hnd hc
    by_cases h4 : is.length ≤ 4
    · exact ⟨is, List.Sublist.refl _, h4, hc⟩
    · by_cases hcrit : ∀ i ∈ is, ∃ p, inGrid n p ∧ ∀ j ∈ is, j ≠ i → agr (G j) p = true
      · exact absurd (doignon n G is hnd hc hcrit) h4
      · obtain ⟨i, hi⟩ := Classical.not_forall.1 hcrit
        obtain ⟨hi1, hi2⟩ := Classical.not_imp.1 hi
        have hc' : Contra n G (is.erase i) := by
          intro p hp
          apply Classical.byContradiction
          intro hno
          apply hi2
          refine ⟨p, hp, fun j hj hne => ?_⟩
          cases hb : agr (G j) p with
          | true => rfl
          | false => exact absurd ⟨j, (List.mem_erase_of_ne hne).2 hj, hb⟩ hno
        have hlen := List.length_erase_of_mem hi1
        obtain ⟨js, hs, hl', hc''⟩ := ih (is.erase i) (by omega) (hnd.erase i) hc'
        exact ⟨js, hs.trans List.erase_sublist, hl', hc''⟩
end NV
namespace Go.Proofs.Ytcalipoknbbaaaa
open Go.RowKit
set_option linter.unusedSimpArgs false
set_option linter.unusedVariables false

/-- the galleries by numbers -/
def madeG (n : Nat) (xs : List By) : List Gl := xs.map (lineOf n)
theorem madeG_length (n : Nat) (xs : List By) : (madeG n xs).length = xs.length := by simp [madeG]

theorem lineA_small (x : By) : small 4 (lineA x) := by
  unfold lineA small
  split <;> omega
theorem lineB_small (x : By) : small 4 (lineB x) := by
  unfold lineB small
  omega
theorem line_ne (x : By) : ¬ (lineA x = 0 ∧ lineB x = 0) := by
  unfold lineA lineB
  split <;> omega
theorem line_small (n : Nat) (x : By) (h1 : 1 ≤ n) (h7 : n ≤ 7) : small 50 (lineOf n x).2.2 := by
  have hs : x.2.2.1 % (n * n) < n * n := Nat.mod_lt _ (Nat.mul_pos h1 h1)
  have hq : x.2.2.1 % (n * n) / n < n := Nat.div_lt_of_lt_mul hs
  have hr : x.2.2.1 % (n * n) % n < n := Nat.mod_lt _ h1
  simp only [lineOf]
  generalize x.2.2.1 % (n * n) / n = q at *
  generalize x.2.2.1 % (n * n) % n = r at *
  have a1 := mul_small (lineA_small x) (show small 6 (q : Int) from ⟨by omega, by omega⟩)
  have b1 := mul_small (lineB_small x) (show small 6 (r : Int) from ⟨by omega, by omega⟩)
  obtain ⟨a1, a2⟩ := a1
  obtain ⟨b1, b2⟩ := b1
  constructor <;> omega
theorem line_err (n : Nat) (x : By) (h1 : 1 ≤ n) (h7 : n ≤ 7) : errG (lineOf n x) = 0 := by
  obtain ⟨a1, a2⟩ := lineA_small x
  obtain ⟨b1, b2⟩ := lineB_small x
  obtain ⟨c1, c2⟩ := line_small n x h1 h7
  have hne := line_ne x
  unfold errG
  rw [if_neg (show ¬ ((lineOf n x).1 < -9 ∨ 9 < (lineOf n x).1) by simp only [lineOf]; omega), if_neg (show ¬ ((lineOf n x).2.1 < -9 ∨ 9 < (lineOf n x).2.1) by simp only [lineOf]; omega), if_neg (by omega), if_neg (show ¬ ((lineOf n x).1 = 0 ∧ (lineOf n x).2.1 = 0) from hne)]
theorem opp_line_err (n : Nat) (x : By) (h1 : 1 ≤ n) (h7 : n ≤ 7) : errG (oppG (lineOf n x)) = 0 := by
  obtain ⟨a1, a2⟩ := lineA_small x
  obtain ⟨b1, b2⟩ := lineB_small x
  obtain ⟨c1, c2⟩ := line_small n x h1 h7
  have hne := line_ne x
  have e1 : (oppG (lineOf n x)).1 = -lineA x := rfl
  have e2 : (oppG (lineOf n x)).2.1 = -lineB x := rfl
  have e3 : (oppG (lineOf n x)).2.2 = -(lineOf n x).2.2 - 1 := rfl
  unfold errG
  rw [e1, e2, e3, if_neg (by omega), if_neg (by omega), if_neg (by omega), if_neg (by omega)]
theorem madeG_err (n : Nat) (xs : List By) (h1 : 1 ≤ n) (h7 : n ≤ 7) : ∀ g ∈ madeG n xs, errG g = 0 := by
  intro g hg
  obtain ⟨x, _, rfl⟩ := List.mem_map.1 hg
  exact line_err n x h1 h7
theorem errH_of (n : Nat) (gs : List Gl) (h1 : 1 ≤ n) (h7 : n ≤ 7) (hl : gs.length ≤ 10) (h : ∀ g ∈ gs, errG g = 0) : errH n gs = 0 := by
  rw [errH, if_neg (by omega), errGs, if_neg (by omega)]
  exact (errL_zero gs).2 h
theorem madeG_errH (n : Nat) (xs : List By) (h1 : 1 ≤ n) (h7 : n ≤ 7) (hl : xs.length ≤ 10) : errH n (madeG n xs) = 0 :=
  errH_of n _ h1 h7 (by rw [madeG_length]; exact hl) (madeG_err n xs h1 h7)
theorem cnt_reg (n : Nat) (gs : List Gl) : cnt n gs = (regL n gs).length := by rw [cnt, regL, List.countP_eq_length_filter]

/-! the members of a set -/
theorem ordErr_app (m : Nat) (r : List Int) : ∀ (l : List Int) (b : Int), ordErr m b l = 0 → ordErr m b (l ++ r) = ordErr m (l.getLastD b) r
  | [], b, _ => rfl
  | x :: l, b, h => by
    rw [ordErr] at h
    split at h
    · omega
    · rename_i h1
      split at h
      · omega
      · rename_i h2
        rw [List.cons_append, ordErr, if_neg h1, if_neg h2, ordErr_app m r l x h]
        cases l <;> rfl
theorem membTo_bd (s k : Nat) : ∀ x ∈ membTo s k, 0 ≤ x ∧ x < k ∧ s.testBit x.toNat = true := by
  intro x hx
  obtain ⟨i, hi, rfl⟩ := List.mem_map.1 hx
  have := List.mem_filter.1 hi
  have h1 := List.mem_range.1 this.1
  exact ⟨by omega, by omega, by simpa using this.2⟩
theorem getLastD_or : ∀ {b : Int} (l : List Int), l.getLastD b = b ∨ l.getLastD b ∈ l
  | _, [] => .inl rfl
  | _, x :: l => by
    rw [List.getLastD_cons]
    rcases getLastD_or (b := x) l with h | h
    · rw [h]; exact .inr List.mem_cons_self
    · exact .inr (List.mem_cons_of_mem _ h)
theorem getLastD_snoc (x : Int) : ∀ (b : Int) (l : List Int), (l ++ [x]).getLastD b = x
  | _, [] => rfl
  | _, y :: l => by rw [List.cons_append, List.getLastD_cons, getLastD_snoc x y l]
theorem membTo_ord (m s : Nat) (hs : s < 2 ^ m) : ∀ k, ordErr m (-1) (membTo s k) = 0
  | 0 => rfl
  | k + 1 => by
    rw [membTo_succ]
    have ih := membTo_ord m s hs k
    by_cases hb : s.testBit k = true
    · rw [if_pos hb, ordErr_app m _ _ _ ih]
      have hkm : k < m := by
        apply Classical.byContradiction
        intro hn
        have := Nat.testBit_lt_two_pow (Nat.lt_of_lt_of_le hs (Nat.pow_le_pow_right (by omega) (show m ≤ k by omega)))
        simp [this] at hb
      have hl : (membTo s k).getLastD (-1) < k := by
        rcases getLastD_or (b := -1) (membTo s k) with h | h
        · omega
        · have := membTo_bd s k _ h; omega
      simp only [ordErr]
      rw [if_neg (by omega), if_neg (by omega)]
    · rw [if_neg hb, List.append_nil]; exact ih
theorem membTo_le_last (s k : Nat) : ∀ x ∈ membTo s k, x ≤ (membTo s k).getLastD (-1) := by
  induction k with
  | zero => simp [membTo]
  | succ k ih =>
    intro x hx
    rw [membTo_succ] at hx ⊢
    by_cases hb : s.testBit k = true
    · rw [if_pos hb] at hx ⊢
      rw [getLastD_snoc]
      rcases List.mem_append.1 hx with h | h
      · have := membTo_bd s k x h; omega
      · simp at h; omega
    · rw [if_neg hb, List.append_nil] at hx ⊢
      exact ih x hx
theorem memb_ord (m s : Nat) (hs : s < 2 ^ m) : ordErr m (-1) (membL s) = 0 := membTo_ord m s hs 12
theorem memb_out (m s : Nat) (hs : s < 2 ^ m) (x : Int) (hx : x < 0 ∨ (m : Int) ≤ x) : ordErr m (-1) (membL s ++ [x]) = 2 := by
  rw [ordErr_app m _ _ _ (memb_ord m s hs), ordErr, if_pos hx]
theorem memb_twice (m s : Nat) (hs : s < 2 ^ m) (x : Int) (hx : x ∈ membL s) : ordErr m (-1) (membL s ++ [x]) = 7 := by
  rw [ordErr_app m _ _ _ (memb_ord m s hs), ordErr]
  have h1 := membTo_bd s 12 x hx
  have h2 := membTo_le_last s 12 x hx
  have h3 : x.toNat < m := by
    apply Classical.byContradiction
    intro hn
    have := Nat.testBit_lt_two_pow (Nat.lt_of_lt_of_le hs (Nat.pow_le_pow_right (by omega) (show m ≤ x.toNat by omega)))
    simp [this] at h1
  rw [if_neg (by omega), membL, if_pos h2]

/-- what Proves answers, by the places that are left -/
theorem proves_memb (n : Nat) (gs : List Gl) (s : Nat) (h0 : errH n gs = 0) (hs : s < 2 ^ gs.length) : provesOf n gs (membL s) = if (regL n (sel true (membL s) gs)).length = 0 then 0 else 14 := by
  rw [provesOf, if_neg (by simp [h0]), memb_ord _ _ hs, if_neg (by simp), Int.toNat_natCast, cnt_reg]
  split <;> split <;> omega
theorem proves_out (n : Nat) (gs : List Gl) (s : Nat) (x : Int) (h0 : errH n gs = 0) (hs : s < 2 ^ gs.length) (hx : x < 0 ∨ (gs.length : Int) ≤ x) : provesOf n gs (membL s ++ [x]) = 2 := by
  rw [provesOf, if_neg (by simp [h0]), memb_out _ _ hs x hx, if_pos (by simp)]
theorem proves_twice (n : Nat) (gs : List Gl) (s : Nat) (x : Int) (h0 : errH n gs = 0) (hs : s < 2 ^ gs.length) (hx : x ∈ membL s) : provesOf n gs (membL s ++ [x]) = 7 := by
  rw [provesOf, if_neg (by simp [h0]), memb_twice _ _ hs x hx, if_pos (by simp)]
/-! one gallery more, and the gallery that is asked for -/
theorem agr_opp (g : Gl) (p : Pl) : agr (oppG g) p = !agr g p := by
  have : val (oppG g) p = -val g p := by
    show -g.1 * p.1 + -g.2.1 * p.2 = -(g.1 * p.1 + g.2.1 * p.2)
    rw [Int.neg_mul, Int.neg_mul]; omega
  unfold agr
  rw [this]
  show decide (-val g p ≤ -g.2.2 - 1) = !decide (val g p ≤ g.2.2)
  by_cases h : val g p ≤ g.2.2
  · rw [decide_eq_true h, decide_eq_false (by omega)]; rfl
  · rw [decide_eq_false h, decide_eq_true (by omega)]; rfl
theorem agrAll_snoc (gs : List Gl) (g : Gl) (p : Pl) : agrAll (gs ++ [g]) p = (agrAll gs p && agr g p) := by simp [agrAll]
theorem regL_snoc (n : Nat) (gs : List Gl) (g : Gl) : regL n (gs ++ [g]) = (regL n gs).filter (agr g) := by
  unfold regL
  rw [List.filter_filter]
  congr 1
  funext p
  rw [agrAll_snoc, Bool.and_comm]
theorem opp_opp (g : Gl) : oppG (oppG g) = g := by
  obtain ⟨a, b, c⟩ := g
  simp only [oppG, Prod.mk.injEq]
  omega
theorem filter_not_length {α : Type} (f : α → Bool) : ∀ l : List α, (l.filter f).length + (l.filter fun x => !f x).length = l.length
  | [] => rfl
  | x :: l => by
    have ih := filter_not_length f l
    simp only [List.filter_cons]
    cases f x <;> simp <;> omega
theorem regL_opp (n : Nat) (gs : List Gl) (g : Gl) : regL n (gs ++ [oppG g]) = (regL n gs).filter fun p => !agr g p := by
  rw [regL_snoc]; congr 1; funext p; exact agr_opp g p
theorem more_sum (n : Nat) (gs : List Gl) (g : Gl) : (regL n (gs ++ [g])).length + (regL n (gs ++ [oppG g])).length = (regL n gs).length := by
  rw [regL_snoc, regL_opp]; exact filter_not_length _ _
theorem loss_reg (n : Nat) (gs : List Gl) (g : Gl) : lossOf n gs g = (regL n (gs ++ [oppG g])).length := by rw [lossOf, cnt_reg]
theorem loss_opp (n : Nat) (gs : List Gl) (g : Gl) : lossOf n gs (oppG g) = (regL n (gs ++ [g])).length := by rw [loss_reg, opp_opp]
/-- how many places of a region agree with a gallery -/
def yesOf (n : Nat) (gs : List Gl) (g : Gl) : Nat := ((regL n gs).filter (agr g)).length
theorem yes_loss (n : Nat) (gs : List Gl) (g : Gl) : (yesOf n gs g : Int) = (regL n gs).length - (lossOf n gs g : Int) := by
  have := more_sum n gs g
  rw [yesOf, ← regL_snoc, loss_reg]
  omega
/-- the law's own search -/
def lawAsk (n : Nat) (gs os : List Gl) : Nat → Int × Int
  | 0 => (0, 100)
  | k + 1 => if max (yesOf n gs (os.getD k (0, 0, 0)) : Int) ((regL n gs).length - (yesOf n gs (os.getD k (0, 0, 0)) : Int)) < (lawAsk n gs os k).2
      then ((k : Int), max (yesOf n gs (os.getD k (0, 0, 0)) : Int) ((regL n gs).length - (yesOf n gs (os.getD k (0, 0, 0)) : Int))) else lawAsk n gs os k
theorem worse_law (n : Nat) (gs : List Gl) (g : Gl) : worse n gs g = max (yesOf n gs g : Int) ((regL n gs).length - (yesOf n gs g : Int)) := by
  rw [worse, yes_loss, cnt_reg, Int.max_comm]; congr 1; omega
theorem rowL_len (x j : Nat) : (rowL x j).length = j := by simp [rowL]
theorem cols_len (n : Nat) : ∀ i, (cols n i).length = i * n
  | 0 => by simp [cols]
  | i + 1 => by
    have : cols n (i + 1) = cols n i ++ rowL i n := by simp [cols, List.range_succ]
    rw [this, List.length_append, cols_len n i, rowL_len, Nat.add_mul, Nat.one_mul]
theorem regL_len (n : Nat) (gs : List Gl) (h : n ≤ 7) : (regL n gs).length ≤ 49 := by
  refine Nat.le_trans (List.length_filter_le _ _) ?_
  rw [gridL, cols_len]
  exact Nat.mul_le_mul h h
theorem yes_le (n : Nat) (gs : List Gl) (g : Gl) : yesOf n gs g ≤ (regL n gs).length := List.length_filter_le _ _
theorem worse_bd (n : Nat) (gs : List Gl) (g : Gl) (h : n ≤ 7) : worse n gs g ≤ 49 := by
  have := regL_len n gs h
  have := yes_le n gs g
  rw [worse_law]; omega
theorem ask_law (n : Nat) (gs os : List Gl) (h : n ≤ 7) : ∀ k, (lawAsk n gs os (k + 1)) = askTo n gs os (k + 1)
  | 0 => by
    rw [lawAsk, askTo, ← worse_law]
    have := worse_bd n gs (os.getD 0 (0, 0, 0)) h
    rw [if_pos (by simp only [lawAsk]; omega), if_pos (by simp only [askTo]; omega)]
  | k + 1 => by rw [lawAsk, askTo, ← worse_law, ask_law n gs os h k]
theorem ask_eq (n : Nat) (gs os : List Gl) (h : n ≤ 7) (h0 : errH n gs = 0) (ho : ∀ g ∈ os, errG g = 0) (hl : os.length ≤ 10) (hne : os.length ≠ 0) :
    askOf n gs os = ((lawAsk n gs os os.length).1, 0) := by
  have e2 : errGs os = 0 := by rw [errGs, if_neg (by omega)]; exact (errL_zero os).2 ho
  rw [askOf, if_neg (by simp [h0]), if_neg hne, if_neg (by simp [e2]), Int.toNat_natCast]
  obtain ⟨k, hk⟩ : ∃ k, os.length = k + 1 := ⟨os.length - 1, by omega⟩
  rw [hk, ask_law n gs os h k]
/-- what Known answers -/
theorem known_eq (n : Nat) (gs : List Gl) (g : Gl) (h0 : errH n gs = 0) (hg : errG g = 0) :
    knownR n gs g = if (regL n gs).length = 0 then (0, 12) else if (regL n (gs ++ [oppG g])).length = 0 then (1, 0) else if (regL n (gs ++ [g])).length = 0 then (-1, 0) else (0, 0) := by
  have e1 : lossR n gs g = (((lossOf n gs g : Nat) : Int), 0) := by rw [lossR, if_neg (by simp [h0]), if_neg (by simp [hg]), Int.toNat_natCast]
  have hs := more_sum n gs g
  rw [knownR, e1, if_neg (by simp), Int.toNat_natCast, cnt_reg, loss_reg]
  by_cases a : (regL n gs).length = 0
  · rw [if_pos a, if_pos a]
  · rw [if_neg a, if_neg a]
    by_cases b : (regL n (gs ++ [oppG g])).length = 0
    · rw [if_pos b, if_pos b]
    · rw [if_neg b, if_neg b]
      by_cases c : (regL n (gs ++ [g])).length = 0
      · rw [if_pos c, if_pos (by omega)]
      · rw [if_neg c, if_neg (by omega)]
theorem loss_eq (n : Nat) (gs : List Gl) (g : Gl) (h0 : errH n gs = 0) (hg : errG g = 0) : lossR n gs g = (((regL n (gs ++ [oppG g])).length : Int), 0) := by
  rw [lossR, if_neg (by simp [h0]), if_neg (by simp [hg]), Int.toNat_natCast, loss_reg]
theorem region_eq (n : Nat) (gs : List Gl) (h0 : errH n gs = 0) : regionOf n gs = (regL n gs, 0) := by
  rw [regionOf, if_neg (by simp [h0]), Int.toNat_natCast]
/-- is a place in a list? -/
def hasP (ps : List Pl) (p : Pl) : Bool := ps.any fun y => p == y
theorem hasP_mem (ps : List Pl) (p : Pl) : hasP ps p = true ↔ p ∈ ps := by
  simp [hasP, List.any_eq_true]
theorem has_yes (n : Nat) (gs : List Gl) (g : Gl) (p : Pl) (hp : p ∈ regL n gs) : hasP (regL n (gs ++ [g])) p = agr g p := by
  rw [Bool.eq_iff_iff, hasP_mem, regL_snoc, List.mem_filter]
  simp [hp]
theorem has_no (n : Nat) (gs : List Gl) (g : Gl) (p : Pl) (hp : p ∈ regL n gs) : hasP (regL n (gs ++ [oppG g])) p = !agr g p := by
  rw [Bool.eq_iff_iff, hasP_mem, regL_opp, List.mem_filter]
  simp [hp]
/-! X counted from the other end -/
def mirG (n : Nat) (g : Gl) : Gl := (-g.1, g.2.1, g.2.2 - g.1 * ((n : Int) - 1))
def mirP (n : Nat) (p : Pl) : Pl := ((n : Int) - 1 - p.1, p.2)
theorem agr_mir (n : Nat) (g : Gl) (p : Pl) : agr (mirG n g) p = agr g (mirP n p) := by
  have e : val g (mirP n p) = g.1 * ((n : Int) - 1) + val (mirG n g) p := by
    show g.1 * ((n : Int) - 1 - p.1) + g.2.1 * p.2 = g.1 * ((n : Int) - 1) + (-g.1 * p.1 + g.2.1 * p.2)
    rw [Int.mul_sub, Int.neg_mul]; omega
  unfold agr
  rw [e]
  show decide (val (mirG n g) p ≤ g.2.2 - g.1 * ((n : Int) - 1)) = _
  by_cases h : val (mirG n g) p ≤ g.2.2 - g.1 * ((n : Int) - 1)
  · rw [decide_eq_true h, decide_eq_true (by omega)]
  · rw [decide_eq_false h, decide_eq_false (by omega)]
theorem agrAll_mir (n : Nat) (gs : List Gl) (p : Pl) : agrAll (gs.map (mirG n)) p = agrAll gs (mirP n p) := by
  simp only [agrAll, List.all_map]
  congr 1
  funext g
  exact agr_mir n g p
theorem mir_mir (n : Nat) (p : Pl) : mirP n (mirP n p) = p := by
  obtain ⟨x, y⟩ := p
  show (((n : Int) - 1 - ((n : Int) - 1 - x)), y) = (x, y)
  rw [show (n : Int) - 1 - ((n : Int) - 1 - x) = x by omega]
theorem mem_grid {n : Nat} {p : Pl} : p ∈ gridL n ↔ (0 ≤ p.1 ∧ p.1 < n ∧ 0 ≤ p.2 ∧ p.2 < n) := by
  obtain ⟨x, y⟩ := p
  simp only [gridL, cols, rowL, List.mem_flatMap, List.mem_range, List.mem_map, Prod.mk.injEq]
  constructor
  · rintro ⟨a, ha, b, hb, rfl, rfl⟩; omega
  · rintro ⟨h1, h2, h3, h4⟩
    exact ⟨x.toNat, by omega, y.toNat, by omega, by omega, by omega⟩
theorem grid_nodup (n : Nat) : (gridL n).Nodup := by
  unfold gridL cols
  rw [List.Nodup, List.pairwise_flatMap]
  refine ⟨fun x _ => ?_, ?_⟩
  · unfold rowL
    rw [List.pairwise_map]
    exact List.Pairwise.imp (fun h e => h (by simp only [Prod.mk.injEq] at e; omega)) (List.nodup_range (n := n))
  · refine List.Pairwise.imp ?_ (List.nodup_range (n := n))
    intro a b hab p hp q hq e
    subst e
    obtain ⟨y, _, rfl⟩ := List.mem_map.1 hp
    obtain ⟨z, _, e⟩ := List.mem_map.1 hq
    simp only [Prod.mk.injEq] at e
    omega
theorem mir_mem (n : Nat) (gs : List Gl) (p : Pl) : p ∈ regL n (gs.map (mirG n)) ↔ mirP n p ∈ regL n gs := by
  rw [regL, regL, List.mem_filter, List.mem_filter, agrAll_mir, mem_grid, mem_grid]
  have e : (0 ≤ p.1 ∧ p.1 < (n : Int) ∧ 0 ≤ p.2 ∧ p.2 < (n : Int)) ↔ (0 ≤ (mirP n p).1 ∧ (mirP n p).1 < (n : Int) ∧ 0 ≤ (mirP n p).2 ∧ (mirP n p).2 < (n : Int)) := by
    show _ ↔ (0 ≤ (n : Int) - 1 - p.1 ∧ (n : Int) - 1 - p.1 < (n : Int) ∧ 0 ≤ p.2 ∧ p.2 < (n : Int))
    omega
  rw [e]
theorem reg_nodup (n : Nat) (gs : List Gl) : (regL n gs).Nodup := (grid_nodup n).filter _
theorem nodup_le {l m : List Pl} (h : l.Nodup) (hs : ∀ x ∈ l, x ∈ m) : l.length ≤ m.length := by
  induction l generalizing m with
  | nil => simp
  | cons x l ih =>
    have h' := List.nodup_cons.1 h
    have hx := hs x List.mem_cons_self
    have := ih (m := m.erase x) h'.2 (fun y hy => by
      have hne : y ≠ x := fun e => h'.1 (e ▸ hy)
      exact (List.mem_erase_of_ne hne).2 (hs y (List.mem_cons_of_mem _ hy)))
    have hl := List.length_erase_of_mem hx
    have : 0 < m.length := List.length_pos_of_mem hx
    simp only [List.length_cons]
    omega
theorem mir_inj (n : Nat) {p q : Pl} (h : mirP n p = mirP n q) : p = q := by rw [← mir_mir n p, h, mir_mir]
theorem mir_nodup (n : Nat) {l : List Pl} (h : l.Nodup) : (l.map (mirP n)).Nodup := by
  rw [List.Nodup, List.pairwise_map]
  exact List.Pairwise.imp (fun h e => h (mir_inj n e)) h
theorem mir_cnt (n : Nat) (gs : List Gl) : (regL n (gs.map (mirG n))).length = (regL n gs).length := by
  apply Nat.le_antisymm
  · have := nodup_le (mir_nodup n (reg_nodup n (gs.map (mirG n)))) (m := regL n gs) (fun x hx => by
      obtain ⟨p, hp, rfl⟩ := List.mem_map.1 hx
      exact (mir_mem n gs p).1 hp)
    simpa using this
  · have := nodup_le (mir_nodup n (reg_nodup n gs)) (m := regL n (gs.map (mirG n))) (fun x hx => by
      obtain ⟨p, hp, rfl⟩ := List.mem_map.1 hx
      rw [mir_mem, mir_mir]; exact hp)
    simpa using this
theorem sel_map {α β : Type} (f : α → β) (b : Bool) (is : List Int) (l : List α) : sel b is (l.map f) = (sel b is l).map f := by
  simp only [sel, List.zipIdx_map, List.filter_map, List.map_map]
  congr 1
theorem mir_cntG (n : Nat) (gs : List Gl) : cnt n (gs.map (mirG n)) = cnt n gs := by rw [cnt_reg, cnt_reg, mir_cnt]
theorem mir_contra (n : Nat) (gs : List Gl) (h0 : errH n gs = 0) (h1 : errH n (gs.map (mirG n)) = 0) : contradictOf n (gs.map (mirG n)) = contradictOf n gs := by
  rw [contradictOf, contradictOf, if_neg (show ¬ errH n (gs.map (mirG n)) ≠ 0 by simp [h1]), if_neg (show ¬ errH n gs ≠ 0 by simp [h0]), Int.toNat_natCast, mir_cntG, List.length_map]
  simp only [sel_map, mir_cntG]
theorem mir_wrong (n : Nat) (gs : List Gl) (h0 : errH n gs = 0) (h1 : errH n (gs.map (mirG n)) = 0) : wrongOf n (gs.map (mirG n)) = wrongOf n gs := by
  rw [wrongOf, wrongOf, if_neg (by simp [h1]), if_neg (by simp [h0]), Int.toNat_natCast, List.length_map]
  simp only [sel_map, mir_cntG]
theorem mir_fewest (n : Nat) (gs : List Gl) (h0 : errH n gs = 0) (h1 : errH n (gs.map (mirG n)) = 0) : fewestOf n (gs.map (mirG n)) = fewestOf n gs := by
  rw [fewestOf, fewestOf, if_neg (by simp [h1]), if_neg (by simp [h0]), Int.toNat_natCast, mir_cntG, List.length_map]
  simp only [sel_map, mir_cntG]
theorem mir_line_err (n : Nat) (x : By) (h1 : 1 ≤ n) (h7 : n ≤ 7) : errG (mirG n (lineOf n x)) = 0 := by
  have a0 := lineA_small x
  obtain ⟨b1, b2⟩ := lineB_small x
  obtain ⟨c1, c2⟩ := line_small n x h1 h7
  have hne := line_ne x
  have m := mul_small a0 (show small 6 ((n : Int) - 1) from ⟨by omega, by omega⟩)
  obtain ⟨a1, a2⟩ := a0
  obtain ⟨m1, m2⟩ := m
  have e1 : (mirG n (lineOf n x)).1 = -lineA x := rfl
  have e2 : (mirG n (lineOf n x)).2.1 = lineB x := rfl
  have e3 : (mirG n (lineOf n x)).2.2 = (lineOf n x).2.2 - lineA x * ((n : Int) - 1) := rfl
  unfold errG
  rw [e1, e2, e3, if_neg (by omega), if_neg (by omega), if_neg (by omega), if_neg (by omega)]
theorem mir_errH (n : Nat) (xs : List By) (h1 : 1 ≤ n) (h7 : n ≤ 7) (hl : xs.length ≤ 10) : errH n ((madeG n xs).map (mirG n)) = 0 :=
  errH_of n _ h1 h7 (by rw [List.length_map, madeG_length]; exact hl) (fun g hg => by
    obtain ⟨y, hy, rfl⟩ := List.mem_map.1 hg
    obtain ⟨x, _, rfl⟩ := List.mem_map.1 hy
    exact mir_line_err n x h1 h7)
/-! the first of the shortest lists -/
/-- slices.Compare -/
def cmpI : List Int → List Int → Int
  | [], [] => 0
  | [], _ :: _ => -1
  | _ :: _, [] => 1
  | x :: a, y :: b => if x < y then -1 else if y < x then 1 else cmpI a b
theorem cmpI_anti : ∀ a b, cmpI a b < 0 → ¬ cmpI b a < 0
  | [], [] => by simp [cmpI]
  | [], _ :: _ => by simp [cmpI]
  | _ :: _, [] => by simp [cmpI]
  | x :: a, y :: b => by
    have ih := cmpI_anti a b
    simp only [cmpI]
    split <;> split <;> (try split) <;> omega
theorem cmpI_trans : ∀ a b c, cmpI a b < 0 → cmpI b c < 0 → cmpI a c < 0
  | [], [], c => by simp [cmpI]
  | _ :: _, [], c => by simp [cmpI]
  | a, _ :: _, [] => by simp [cmpI]
  | [], y :: b, z :: c => by simp [cmpI]
  | x :: a, y :: b, z :: c => by
    have ih := cmpI_trans a b c
    simp only [cmpI]
    intro h1 h2
    split at h1
    · split at h2
      · rw [if_pos (by omega)]; omega
      · split at h2
        · omega
        · rw [if_pos (by omega)]; omega
    · split at h1
      · omega
      · split at h2
        · rw [if_pos (by omega)]; omega
        · split at h2
          · omega
          · rw [if_neg (by omega), if_neg (by omega)]; exact ih h1 h2
/-- shorter, or as long and first -/
def lessI (a b : List Int) : Prop := a.length < b.length ∨ (a.length = b.length ∧ cmpI a b < 0)
theorem lessI_anti {a b : List Int} (h : lessI a b) : ¬ lessI b a := by
  intro k
  rcases h with h | ⟨h, h'⟩
  · rcases k with k | ⟨k, _⟩ <;> omega
  · rcases k with k | ⟨k, k'⟩
    · omega
    · exact cmpI_anti _ _ h' k'
theorem lessI_trans {a b c : List Int} (h : lessI a b) (k : lessI b c) : lessI a c := by
  rcases h with h | ⟨h, h'⟩
  · rcases k with k | ⟨k, _⟩
    · exact .inl (by omega)
    · exact .inl (by omega)
  · rcases k with k | ⟨k, k'⟩
    · exact .inl (by omega)
    · exact .inr ⟨by omega, cmpI_trans _ _ _ h' k'⟩
theorem combos_sorted : ∀ (m : Nat) (lo : Int) (k : Nat), (combos m lo k).Pairwise fun a b => cmpI a b < 0
  | m, lo, 0 => by simp [combos]
  | 0, lo, k + 1 => by simp [combos]
  | m + 1, lo, k + 1 => by
    rw [combos, List.pairwise_append]
    refine ⟨?_, combos_sorted m (lo + 1) (k + 1), ?_⟩
    · rw [List.pairwise_map]
      refine (combos_sorted m (lo + 1) k).imp fun {a b} h => ?_
      simp only [cmpI]
      rw [if_neg (by omega), if_neg (by omega)]
      exact h
    · intro a ha b hb
      obtain ⟨t, _, rfl⟩ := List.mem_map.1 ha
      have hl := combos_length m (lo + 1) (k + 1) b hb
      cases b with
      | nil => simp at hl
      | cons y b =>
        have := combos_bounds m (lo + 1) (k + 1) _ hb y List.mem_cons_self
        simp only [cmpI]
        rw [if_pos (by omega)]; omega
theorem combos_asc : ∀ (m : Nat) (lo : Int) (k : Nat), ∀ c ∈ combos m lo k, c.Pairwise (· < ·)
  | m, lo, 0 => by simp [combos]
  | 0, lo, k + 1 => by simp [combos]
  | m + 1, lo, k + 1 => by
    intro c hc
    rw [combos, List.mem_append, List.mem_map] at hc
    rcases hc with ⟨t, ht, rfl⟩ | hc
    · rw [List.pairwise_cons]
      exact ⟨fun x hx => by have := combos_bounds m (lo + 1) k t ht x hx; omega, combos_asc m (lo + 1) k t ht⟩
    · exact combos_asc m (lo + 1) (k + 1) c hc
theorem mem_combos : ∀ (m : Nat) (lo : Int) (l : List Int), l.Pairwise (· < ·) → (∀ x ∈ l, lo ≤ x ∧ x < lo + m) → l ∈ combos m lo l.length
  | m, lo, [] => by intro _ _; simp [combos]
  | 0, lo, x :: l => by
    intro _ h
    have := h x List.mem_cons_self
    omega
  | m + 1, lo, x :: l => by
    intro hp h
    have hp' := List.pairwise_cons.1 hp
    rw [List.length_cons, combos, List.mem_append, List.mem_map]
    have hx := h x List.mem_cons_self
    by_cases e : x = lo
    · subst e
      refine .inl ⟨l, mem_combos m (x + 1) l hp'.2 (fun y hy => ?_), rfl⟩
      have := hp'.1 y hy
      have := h y (List.mem_cons_of_mem _ hy)
      omega
    · refine .inr ?_
      have := mem_combos m (lo + 1) (x :: l) hp (fun y hy => by
        have := h y hy
        rcases List.mem_cons.1 hy with rfl | hy'
        · omega
        · have := hp'.1 y hy'; omega)
      simpa using this
theorem asc_eq : ∀ (l m : List Int), l.Pairwise (· < ·) → m.Pairwise (· < ·) → (∀ x, x ∈ l ↔ x ∈ m) → l = m
  | [], [], _, _, _ => rfl
  | [], y :: m, _, _, h => absurd ((h y).2 List.mem_cons_self) (by simp)
  | x :: l, [], _, _, h => absurd ((h x).1 List.mem_cons_self) (by simp)
  | x :: l, y :: m, hl, hm, h => by
    have hl' := List.pairwise_cons.1 hl
    have hm' := List.pairwise_cons.1 hm
    have e : x = y := by
      have h1 := (h x).1 List.mem_cons_self
      have h2 := (h y).2 List.mem_cons_self
      rcases List.mem_cons.1 h1 with e | h1
      · exact e
      · rcases List.mem_cons.1 h2 with e | h2
        · exact e.symm
        · have := hm'.1 x h1
          have := hl'.1 y h2
          omega
    subst e
    congr 1
    refine asc_eq l m hl'.2 hm'.2 fun z => ?_
    have hz := h z
    rw [List.mem_cons, List.mem_cons] at hz
    constructor
    · intro hzl
      rcases hz.1 (.inr hzl) with e | k
      · have := hl'.1 z hzl; omega
      · exact k
    · intro hzm
      rcases hz.2 (.inr hzm) with e | k
      · have := hm'.1 z hzm; omega
      · exact k
theorem membTo_asc (s : Nat) : ∀ k, (membTo s k).Pairwise (· < ·)
  | 0 => by simp [membTo]
  | k + 1 => by
    rw [membTo_succ]
    split
    · rw [List.pairwise_append]
      refine ⟨membTo_asc s k, by simp, fun a ha b hb => ?_⟩
      have := membTo_bd s k a ha
      simp at hb
      omega
    · rw [List.append_nil]; exact membTo_asc s k
theorem mem_membTo (s k : Nat) (x : Int) : x ∈ membTo s k ↔ 0 ≤ x ∧ x < k ∧ s.testBit x.toNat = true := by
  constructor
  · exact membTo_bd s k x
  · rintro ⟨h1, h2, h3⟩
    refine List.mem_map.2 ⟨x.toNat, List.mem_filter.2 ⟨List.mem_range.2 (by omega), h3⟩, by omega⟩
theorem bits_set (f : Nat → Bool) : ∀ n, ∃ s, s < 2 ^ n ∧ ∀ i, i < n → s.testBit i = f i
  | 0 => ⟨0, by simp, by simp⟩
  | n + 1 => by
    obtain ⟨s, h1, h2⟩ := bits_set f n
    have hp : 2 ^ (n + 1) = 2 ^ n + 2 ^ n := by rw [Nat.pow_succ]; omega
    cases hf : f n with
    | false =>
      refine ⟨s, by omega, fun i hi => ?_⟩
      by_cases e : i = n
      · subst e; rw [hf, Nat.testBit_lt_two_pow h1]
      · exact h2 i (by omega)
    | true =>
      refine ⟨2 ^ n + s, by omega, fun i hi => ?_⟩
      by_cases e : i = n
      · subst e; rw [hf, Nat.testBit_two_pow_add_eq, Nat.testBit_lt_two_pow h1]; rfl
      · rw [Nat.testBit_two_pow_add_gt (by omega)]; exact h2 i (by omega)
theorem memb_lt (n s : Nat) (hs : s < 2 ^ n) : ∀ x ∈ membL s, 0 ≤ x ∧ x < n := by
  intro x hx
  obtain ⟨h1, h2, h3⟩ := (mem_membTo s 12 x).1 hx
  refine ⟨h1, ?_⟩
  apply Classical.byContradiction
  intro hn
  have := Nat.testBit_lt_two_pow (Nat.lt_of_lt_of_le hs (Nat.pow_le_pow_right (by omega) (show n ≤ x.toNat by omega)))
  simp [this] at h3
theorem memb_combos (n s : Nat) (hs : s < 2 ^ n) : membL s ∈ combos n 0 (membL s).length :=
  mem_combos n 0 _ (membTo_asc s 12) (fun x hx => by have := memb_lt n s hs x hx; omega)
theorem combos_memb (n k : Nat) (hn : n ≤ 12) (c : List Int) (hc : c ∈ combos n 0 k) : ∃ s, s < 2 ^ n ∧ membL s = c := by
  obtain ⟨s, h1, h2⟩ := bits_set (fun i => decide ((i : Int) ∈ c)) n
  refine ⟨s, h1, asc_eq _ _ (membTo_asc s 12) (combos_asc n 0 k c hc) fun x => ?_⟩
  constructor
  · intro hx
    have hl := memb_lt n s h1 x hx
    have h3 := (membTo_bd s 12 x hx).2.2
    rw [h2 x.toNat (by omega)] at h3
    have := of_decide_eq_true h3
    rwa [show ((x.toNat : Nat) : Int) = x by omega] at this
  · intro hx
    have hb := combos_bounds n 0 k c hc x hx
    refine (mem_membTo s 12 x).2 ⟨by omega, by omega, ?_⟩
    rw [h2 x.toNat (by omega)]
    apply decide_eq_true
    rwa [show ((x.toNat : Nat) : Int) = x by omega]
/-- all lists of indices, the shorter ones first -/
def allL (n : Nat) : List (List Int) := (List.range (n + 1)).flatMap fun k => combos n 0 k
theorem allL_sorted (n : Nat) : (allL n).Pairwise lessI := by
  unfold allL
  rw [List.pairwise_flatMap]
  refine ⟨fun k _ => ?_, ?_⟩
  · refine List.Pairwise.imp_of_mem (fun {a b} ha hb h => ?_) (combos_sorted n 0 k)
    exact .inr ⟨by rw [combos_length n 0 k a ha, combos_length n 0 k b hb], h⟩
  · refine List.Pairwise.imp (fun {a b} hab x hx y hy => ?_) (List.pairwise_lt_range (n := n + 1))
    exact .inl (by rw [combos_length n 0 a x hx, combos_length n 0 b y hy]; exact hab)
theorem memb_all (n s : Nat) (hs : s < 2 ^ n) : membL s ∈ allL n := by
  have h := memb_combos n s hs
  refine List.mem_flatMap.2 ⟨(membL s).length, List.mem_range.2 ?_, h⟩
  apply Classical.byContradiction
  intro hn
  rw [combos_none n 0 _ (by omega)] at h
  simp at h
theorem all_memb (n : Nat) (hn : n ≤ 12) (c : List Int) (hc : c ∈ allL n) : ∃ s, s < 2 ^ n ∧ membL s = c := by
  obtain ⟨k, _, h⟩ := List.mem_flatMap.1 hc
  exact combos_memb n k hn c h
/-- the law's search: what has been found among the first sets -/
def lawFirst (good : List Int → Bool) : Nat → Option (List Int)
  | 0 => none
  | s + 1 =>
    match lawFirst good s with
    | none => if good (membL s) then some (membL s) else none
    | some b => if (decide ((membL s).length < b.length) || (membL s).length == b.length && decide (cmpI (membL s) b < 0)) && good (membL s) then some (membL s) else some b
theorem law_inv (good : List Int → Bool) : ∀ S, match lawFirst good S with
    | none => ∀ s, s < S → good (membL s) = false
    | some b => good b = true ∧ (∃ s, s < S ∧ membL s = b) ∧ ∀ s, s < S → good (membL s) = true → ¬ lessI (membL s) b
  | 0 => by simp [lawFirst]
  | S + 1 => by
    have ih := law_inv good S
    rw [lawFirst]
    cases hf : lawFirst good S with
    | none =>
      rw [hf] at ih
      simp only at ih ⊢
      by_cases hg : good (membL S) = true
      · rw [if_pos hg]
        refine ⟨hg, ⟨S, by omega, rfl⟩, fun s hs h => ?_⟩
        by_cases e : s = S
        · subst e; intro k; exact lessI_anti k k
        · rw [ih s (by omega)] at h; simp at h
      · rw [if_neg hg]
        intro s hs
        by_cases e : s = S
        · subst e; simpa using hg
        · exact ih s (by omega)
    | some b =>
      rw [hf] at ih
      simp only at ih ⊢
      obtain ⟨h1, ⟨s0, h2, h3⟩, h4⟩ := ih
      by_cases hc : ((decide ((membL S).length < b.length) || (membL S).length == b.length && decide (cmpI (membL S) b < 0)) && good (membL S)) = true
      · rw [if_pos hc]
        simp only [Bool.and_eq_true, Bool.or_eq_true, decide_eq_true_eq, beq_iff_eq] at hc
        have hl : lessI (membL S) b := by
          rcases hc.1 with h | h
          · exact .inl h
          · exact .inr h
        refine ⟨hc.2, ⟨S, by omega, rfl⟩, fun s hs h k => ?_⟩
        by_cases e : s = S
        · subst e; exact lessI_anti k k
        · exact h4 s (by omega) h (lessI_trans k hl)
      · rw [if_neg hc]
        refine ⟨h1, ⟨s0, by omega, h3⟩, fun s hs h k => ?_⟩
        by_cases e : s = S
        · subst e
          apply hc
          simp only [Bool.and_eq_true, Bool.or_eq_true, decide_eq_true_eq, beq_iff_eq]
          exact ⟨k, h⟩
        · exact h4 s (by omega) h k
theorem law_first (n : Nat) (hn : n ≤ 12) (good : List Int → Bool) : lawFirst good (2 ^ n) = shortestOf n good := by
  have inv := law_inv good (2 ^ n)
  show _ = (allL n).find? good
  cases hf : lawFirst good (2 ^ n) with
  | none =>
    rw [hf] at inv
    simp only at inv
    refine (List.find?_eq_none.2 fun c hc => ?_).symm
    obtain ⟨s, h1, h2⟩ := all_memb n hn c hc
    rw [← h2, inv s h1]
    simp
  | some b =>
    rw [hf] at inv
    simp only at inv
    obtain ⟨h1, ⟨s0, h2, h3⟩, h4⟩ := inv
    have hb : b ∈ allL n := h3 ▸ memb_all n s0 h2
    cases hg : (allL n).find? good with
    | none => exact absurd h1 (by simpa using (List.find?_eq_none.1 hg b hb))
    | some c =>
      congr 1
      obtain ⟨hc, pre, post, e, hpre⟩ := List.find?_eq_some_iff_append.1 hg
      have hs := allL_sorted n
      rw [e] at hs hb
      rcases List.mem_append.1 hb with k | k
      · have := hpre b k; simp [h1] at this
      · rcases List.mem_cons.1 k with k | k
        · exact k
        · have hcb := (List.pairwise_cons.1 (List.pairwise_append.1 hs).2.1).1 b k
          obtain ⟨s, g1, g2⟩ := all_memb n hn c (by rw [e]; simp)
          exact absurd (g2 ▸ hcb) (h4 s g1 (by rw [g2]; exact hc))
/-! Doignon's theorem over the lists of the program -/
theorem hasI_mem (xs : List Int) (x : Int) : hasI xs x = true ↔ x ∈ xs := by simp [hasI, List.any_eq_true]
theorem agrAll_sel (b : Bool) (is : List Int) (gs : List Gl) (p : Pl) : agrAll (sel b is gs) p = true ↔ ∀ i : Nat, (h : i < gs.length) → hasI is i = b → agr gs[i] p = true := by
  simp only [agrAll, sel, List.all_eq_true, List.mem_map, List.mem_filter]
  constructor
  · intro h i hi hb
    refine h _ ⟨(gs[i], i), ⟨?_, by simp [hb]⟩, rfl⟩
    rw [List.mk_mem_zipIdx_iff_getElem?]
    exact List.getElem?_eq_getElem hi
  · rintro h g ⟨⟨g', i⟩, ⟨h1, h2⟩, rfl⟩
    rw [List.mk_mem_zipIdx_iff_getElem?] at h1
    obtain ⟨hi, e⟩ := List.getElem?_eq_some_iff.1 h1
    have := h i hi (by simpa using h2)
    rw [e] at this
    exact this
theorem regL_nil {n : Nat} {gs : List Gl} : (regL n gs).length = 0 ↔ ∀ p : Pl, (0 ≤ p.1 ∧ p.1 < n ∧ 0 ≤ p.2 ∧ p.2 < n) → agrAll gs p = false := by
  rw [List.length_eq_zero_iff, regL, List.filter_eq_nil_iff]
  constructor
  · intro h p hp
    have := h p (mem_grid.2 hp)
    simpa using this
  · intro h p hp
    have := h p (mem_grid.1 hp)
    simp [this]
/-- a list of indices contradicts itself -/
def clashB (n : Nat) (gs : List Gl) (is : List Int) : Bool := (cnt n (sel true is gs) : Int) == 0
theorem clashB_iff (n : Nat) (gs : List Gl) (is : List Int) : clashB n gs is = true ↔ ∀ p : Pl, (0 ≤ p.1 ∧ p.1 < n ∧ 0 ≤ p.2 ∧ p.2 < n) → ∃ i : Nat, ∃ h : i < gs.length, (i : Int) ∈ is ∧ agr gs[i] p = false := by
  rw [clashB, beq_iff_eq, cnt_reg]
  rw [show (((regL n (sel true is gs)).length : Int) = 0 ↔ (regL n (sel true is gs)).length = 0) by omega, regL_nil]
  constructor
  · intro h p hp
    have := h p hp
    apply Classical.byContradiction
    intro hno
    have : agrAll (sel true is gs) p = true := (agrAll_sel _ _ _ _).2 fun i hi hb => by
      cases ha : agr gs[i] p with
      | true => rfl
      | false => exact absurd ⟨i, hi, (hasI_mem _ _).1 hb, ha⟩ hno
    simp_all
  · intro h p hp
    obtain ⟨i, hi, hm, ha⟩ := h p hp
    cases hc : agrAll (sel true is gs) p with
    | false => rfl
    | true =>
      have := (agrAll_sel _ _ _ _).1 hc i hi ((hasI_mem _ _).2 hm)
      rw [ha] at this; simp at this
theorem memb_asc (s : Nat) : (membL s).Pairwise (· < ·) := membTo_asc s 12
theorem ord_asc (m : Nat) : ∀ (l : List Int) (b : Int), l.Pairwise (· < ·) → (∀ x ∈ l, 0 ≤ x ∧ x < m ∧ b < x) → ordErr m b l = 0
  | [], _, _, _ => rfl
  | x :: l, b, hp, h => by
    have hp' := List.pairwise_cons.1 hp
    have hx := h x List.mem_cons_self
    rw [ordErr, if_neg (by omega), if_neg (by omega)]
    exact ord_asc m l x hp'.2 fun y hy => by
      have := h y (List.mem_cons_of_mem _ hy)
      have := hp'.1 y hy
      omega
theorem all_of_asc (n : Nat) (l : List Int) (hp : l.Pairwise (· < ·)) (h : ∀ x ∈ l, 0 ≤ x ∧ x < n) : l ∈ allL n := by
  have hc := mem_combos n 0 l hp (fun x hx => by have := h x hx; omega)
  refine List.mem_flatMap.2 ⟨l.length, List.mem_range.2 ?_, hc⟩
  apply Classical.byContradiction
  intro hn
  rw [combos_none n 0 _ (by omega)] at hc
  simp at hc
theorem shortest_least {n : Nat} {good : List Int → Bool} {c x : List Int} (hc : shortestOf n good = some c) (hx : x ∈ allL n) (hg : good x = true) : ¬ lessI x c := by
  obtain ⟨_, pre, post, e, hpre⟩ := List.find?_eq_some_iff_append.1 (show (allL n).find? good = some c from hc)
  have hs := allL_sorted n
  rw [e] at hs hx
  intro k
  rcases List.mem_append.1 hx with h | h
  · have := hpre x h; simp [hg] at this
  · rcases List.mem_cons.1 h with h | h
    · subst h; exact lessI_anti k k
    · exact lessI_anti k ((List.pairwise_cons.1 (List.pairwise_append.1 hs).2.1).1 x h)
theorem shortest_mem {n : Nat} {good : List Int → Bool} {c : List Int} (hc : shortestOf n good = some c) : c ∈ allL n ∧ good c = true :=
  ⟨List.mem_of_find?_eq_some (show (allL n).find? good = some c from hc), List.find?_some (show (allL n).find? good = some c from hc)⟩
theorem all_asc {n : Nat} {c : List Int} (hc : c ∈ allL n) : c.Pairwise (· < ·) ∧ ∀ x ∈ c, 0 ≤ x ∧ x < n := by
  obtain ⟨k, _, h⟩ := List.mem_flatMap.1 hc
  exact ⟨combos_asc n 0 k c h, fun x hx => by have := combos_bounds n 0 k c h x hx; omega⟩
theorem shortest_some {n : Nat} {good : List Int → Bool} {x : List Int} (hx : x ∈ allL n) (hg : good x = true) : ∃ c, shortestOf n good = some c := by
  cases h : shortestOf n good with
  | some c => exact ⟨c, rfl⟩
  | none => exact absurd hg (by simpa using List.find?_eq_none.1 (show (allL n).find? good = none from h) x hx)
/-- galleries that no place agrees with: the shortest list has at most four -/
theorem four (n : Nat) (gs : List Gl) (hreg : (regL n gs).length = 0) : ∃ c, shortestOf gs.length (clashB n gs) = some c ∧ c.length ≤ 4 ∧ clashB n gs c = true ∧ ordErr gs.length (-1) c = 0 ∧
    ∀ i, i < c.length → ordErr gs.length (-1) (c.eraseIdx i) = 0 ∧ clashB n gs (c.eraseIdx i) = false := by
  have hcon : NV.Contra n (fun i => gs.getD i (0, 0, 0)) (List.range gs.length) := by
    intro p hp
    have h1 := regL_nil.1 hreg p hp
    simp only [agrAll, List.all_eq_false] at h1
    obtain ⟨g, hg, h2⟩ := h1
    obtain ⟨i, hi, rfl⟩ := List.getElem_of_mem hg
    refine ⟨i, List.mem_range.2 hi, ?_⟩
    have e : gs.getD i (0, 0, 0) = gs[i] := by simp [List.getD_eq_getElem?_getD, List.getElem?_eq_getElem hi]
    simp only [e]
    exact (Bool.not_eq_true _).mp h2
  obtain ⟨js, hs, hl, hc⟩ := NV.contra_four n (fun i => gs.getD i (0, 0, 0)) gs.length (List.range gs.length) (by simp) List.nodup_range hcon
  have hasc : (js.map fun i : Nat => (i : Int)).Pairwise (· < ·) := by
    rw [List.pairwise_map]
    exact (List.Pairwise.sublist hs List.pairwise_lt_range).imp fun h => by omega
  have hbd : ∀ x ∈ js.map (fun i : Nat => (i : Int)), 0 ≤ x ∧ x < gs.length := by
    intro x hx
    obtain ⟨i, hi, rfl⟩ := List.mem_map.1 hx
    have := List.mem_range.1 (hs.subset hi)
    omega
  have hmem := all_of_asc gs.length _ hasc hbd
  have hgood : clashB n gs (js.map fun i : Nat => (i : Int)) = true := by
    rw [clashB_iff]
    intro p hp
    obtain ⟨i, hi, ha⟩ := hc p hp
    have hlt := List.mem_range.1 (hs.subset hi)
    refine ⟨i, hlt, List.mem_map.2 ⟨i, hi, rfl⟩, ?_⟩
    have e : gs.getD i (0, 0, 0) = gs[i] := by simp [List.getD_eq_getElem?_getD, List.getElem?_eq_getElem hlt]
    simp only [e] at ha
    exact ha
  obtain ⟨c, hc1⟩ := shortest_some hmem hgood
  obtain ⟨m1, m2⟩ := shortest_mem hc1
  obtain ⟨a1, a2⟩ := all_asc m1
  have hle : c.length ≤ 4 := by
    apply Classical.byContradiction
    intro hn
    exact shortest_least hc1 hmem hgood (.inl (by rw [List.length_map]; omega))
  refine ⟨c, hc1, hle, m2, ord_asc _ c _ a1 (fun x hx => by have := a2 x hx; omega), fun i hi => ?_⟩
  have s1 := List.eraseIdx_sublist c i
  have b1 := List.Pairwise.sublist s1 a1
  have b2 : ∀ x ∈ c.eraseIdx i, 0 ≤ x ∧ x < gs.length := fun x hx => a2 x (s1.subset hx)
  refine ⟨ord_asc _ _ _ b1 (fun x hx => by have := b2 x hx; omega), ?_⟩
  cases hg : clashB n gs (c.eraseIdx i) with
  | false => rfl
  | true =>
    refine absurd (Or.inl ?_) (shortest_least hc1 (all_of_asc _ _ b1 b2) hg)
    rw [List.length_eraseIdx_of_lt hi]; omega
theorem proves_ord (n : Nat) (gs : List Gl) (is : List Int) (h0 : errH n gs = 0) (ho : ordErr gs.length (-1) is = 0) : provesOf n gs is = if clashB n gs is then 0 else 14 := by
  rw [provesOf, if_neg (by simp [h0]), ho, if_neg (by simp), Int.toNat_natCast]
  unfold clashB
  by_cases h : cnt n (sel true is gs) = 0
  · rw [if_neg (by omega), if_pos (by simp [h])]
  · rw [if_pos (by omega), if_neg (by simp [h])]
theorem contra_yes (n : Nat) (gs : List Gl) (h0 : errH n gs = 0) (hr : (regL n gs).length ≠ 0) : contradictOf n gs = ([], 13) := by
  rw [contradictOf, if_neg (show ¬ errH n gs ≠ 0 by simp [h0]), Int.toNat_natCast, if_pos (by rw [cnt_reg]; omega)]
theorem contra_no (n : Nat) (gs : List Gl) (h0 : errH n gs = 0) (hr : (regL n gs).length = 0) : contradictOf n gs = ((shortestOf gs.length (clashB n gs)).getD [], 0) := by
  rw [contradictOf, if_neg (show ¬ errH n gs ≠ 0 by simp [h0]), Int.toNat_natCast, if_neg (by rw [cnt_reg]; omega)]
  rfl
/-! the fewest that must be wrong, the fewest with the same region, the needless ones -/
def wrongB (n : Nat) (gs : List Gl) (is : List Int) : Bool := decide (0 < cnt n (sel false is gs))
def fewB (n : Nat) (gs : List Gl) (is : List Int) : Bool := (cnt n (sel true is gs) : Int) == (cnt n gs : Int)
theorem reg_sub (n : Nat) (b : Bool) (is : List Int) (gs : List Gl) : regL n gs = (regL n (sel b is gs)).filter (agrAll gs) := by
  unfold regL
  rw [List.filter_filter]
  apply List.filter_congr
  intro p _
  by_cases h : agrAll gs p = true
  · have : agrAll (sel b is gs) p = true := (agrAll_sel _ _ _ _).2 fun i hi _ => by
      simp only [agrAll, List.all_eq_true] at h
      exact h _ (List.getElem_mem hi)
    rw [h, this]; rfl
  · rw [Bool.not_eq_true _ |>.mp h]; rfl
theorem reg_cnt (n : Nat) (b : Bool) (is : List Int) (gs : List Gl) : (regL n (sel b is gs) == regL n gs) = ((cnt n (sel b is gs) : Int) == (cnt n gs : Int)) := by
  rw [Bool.eq_iff_iff, beq_iff_eq, beq_iff_eq, cnt_reg, cnt_reg]
  constructor
  · intro h; rw [h]
  · intro h
    have e := reg_sub n b is gs
    have hl : ((regL n (sel b is gs)).filter (agrAll gs)).length = (regL n (sel b is gs)).length := by rw [← e]; omega
    rw [e]
    exact (List.filter_eq_self.2 (List.length_filter_eq_length_iff.1 hl)).symm
theorem full_false (gs : List Gl) : sel false ((List.range gs.length).map fun i : Nat => (i : Int)) gs = [] := by
  simp only [sel, List.map_eq_nil_iff, List.filter_eq_nil_iff]
  rintro ⟨g, i⟩ h
  rw [List.mk_mem_zipIdx_iff_getElem?] at h
  obtain ⟨hi, _⟩ := List.getElem?_eq_some_iff.1 h
  have : hasI ((List.range gs.length).map fun i : Nat => (i : Int)) i = true := (hasI_mem _ _).2 (List.mem_map.2 ⟨i, List.mem_range.2 hi, rfl⟩)
  simp [this]
theorem full_true (gs : List Gl) : sel true ((List.range gs.length).map fun i : Nat => (i : Int)) gs = gs := by
  simp only [sel]
  rw [List.filter_eq_self.2, List.zipIdx_map_fst]
  rintro ⟨g, i⟩ h
  rw [List.mk_mem_zipIdx_iff_getElem?] at h
  obtain ⟨hi, _⟩ := List.getElem?_eq_some_iff.1 h
  have : hasI ((List.range gs.length).map fun i : Nat => (i : Int)) i = true := (hasI_mem _ _).2 (List.mem_map.2 ⟨i, List.mem_range.2 hi, rfl⟩)
  simp [this]
theorem nil_false (gs : List Gl) : sel false [] gs = gs := by
  simp only [sel]
  rw [List.filter_eq_self.2, List.zipIdx_map_fst]
  intro p _; rfl
theorem full_all (n : Nat) : ((List.range n).map fun i : Nat => (i : Int)) ∈ allL n := by
  refine all_of_asc n _ ?_ (fun x hx => ?_)
  · rw [List.pairwise_map]
    exact List.pairwise_lt_range.imp fun h => by omega
  · obtain ⟨i, hi, rfl⟩ := List.mem_map.1 hx
    have := List.mem_range.1 hi
    omega
theorem nil_all (n : Nat) : [] ∈ allL n := all_of_asc n [] (by simp) (by simp)
theorem reg_nil_pos (n : Nat) (h1 : 1 ≤ n) : 0 < cnt n [] := by
  rw [cnt_reg]
  apply List.length_pos_of_mem (a := ((0 : Int), (0 : Int)))
  rw [regL, List.mem_filter, mem_grid]
  exact ⟨⟨by simp, by simp; omega, by simp, by simp; omega⟩, rfl⟩
theorem wrong_some (n : Nat) (gs : List Gl) (h1 : 1 ≤ n) : ∃ c, shortestOf gs.length (wrongB n gs) = some c :=
  shortest_some (full_all gs.length) (by rw [wrongB, full_false]; exact decide_eq_true (reg_nil_pos n h1))
theorem few_some (n : Nat) (gs : List Gl) : ∃ c, shortestOf gs.length (fewB n gs) = some c :=
  shortest_some (full_all gs.length) (by rw [fewB, full_true]; simp)
theorem wrong_nil (n : Nat) (gs : List Gl) (c : List Int) (hc : shortestOf gs.length (wrongB n gs) = some c) : (c.length = 0) ↔ 0 < (regL n gs).length := by
  constructor
  · intro h
    obtain rfl := List.length_eq_zero_iff.1 h
    have := (shortest_mem hc).2
    rw [wrongB, nil_false, cnt_reg] at this
    exact of_decide_eq_true this
  · intro h
    have hg : wrongB n gs [] = true := by rw [wrongB, nil_false, cnt_reg]; exact decide_eq_true h
    have := shortest_least hc (nil_all _) hg
    apply Classical.byContradiction
    intro hne
    exact this (.inl (by simp; omega))
theorem wrong_eq (n : Nat) (gs : List Gl) (h0 : errH n gs = 0) : wrongOf n gs = ((shortestOf gs.length (wrongB n gs)).getD [], 0) := by
  rw [wrongOf, if_neg (show ¬ errH n gs ≠ 0 by simp [h0]), Int.toNat_natCast]; rfl
theorem few_eq (n : Nat) (gs : List Gl) (h0 : errH n gs = 0) : fewestOf n gs = ((shortestOf gs.length (fewB n gs)).getD [], 0) := by
  rw [fewestOf, if_neg (show ¬ errH n gs ≠ 0 by simp [h0]), Int.toNat_natCast]; rfl
end Go.Proofs.Ytcalipoknbbaaaa
