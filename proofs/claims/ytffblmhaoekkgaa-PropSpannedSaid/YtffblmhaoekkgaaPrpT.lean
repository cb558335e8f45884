/- Chapter 7, plainly: no truth passes the worst one; the worst one is a corner. -/
import Derived.Test.YtffblmhaoekkgaaPrpR
namespace Go.Proofs.Ytffblmhaoekkgaa.prp
set_option linter.unusedSimpArgs false
set_option linter.unusedVariables false

/-- weights within the bounds of a pile -/
def Bnd (l : List Sn) (ws : List Int) : Prop := ws.length = l.length ∧ ∀ i, i < l.length → (l.getD i zs).least ≤ ws.getD i 0 ∧ ws.getD i 0 ≤ (l.getD i zs).most
theorem Bnd.small {l : List Sn} {ws : List Int} (h : Bnd l ws) (hok : ∀ s ∈ l, okS s) : ∀ x ∈ ws, 0 ≤ x ∧ x ≤ 100 := by
  intro x hx
  obtain ⟨i, hi, e⟩ := List.getElem_of_mem hx
  have hb := h.2 i (by have := h.1; omega)
  have hs := hok _ (getD_mem l i zs (by have := h.1; omega))
  rw [getD_eq ws i 0 hi, e] at hb
  unfold okS at hs
  omega
theorem cornS_get (l : List Sn) (s i : Nat) (hi : i < l.length) : (cornS l s).getD i 0 = corn1 (l.getD i zs) (s.testBit i) := by
  unfold cornS cornTo; simp [hi]
theorem cornS_bnd {l : List Sn} (hok : ∀ s ∈ l, okS s) (s : Nat) : Bnd l (cornS l s) := by
  refine ⟨cornTo_length l s _, fun i hi => ?_⟩
  have hs := hok _ (getD_mem l i zs hi)
  rw [cornS_get l s i hi]
  unfold okS at hs
  unfold corn1
  split <;> omega
theorem truth_bnd {l : List Sn} (hok : ∀ s ∈ l, okS s) (xs : List Int) (hx : ∀ x ∈ xs, 0 ≤ x ∧ x ≤ 255) (hl : l.length ≤ xs.length) : Bnd l (truthTo l xs l.length) := by
  refine ⟨truthTo_length l xs _, fun i hi => ?_⟩
  have e : (truthTo l xs l.length).getD i 0 = truth1 (l.getD i zs) (xs.getD i 0) := by unfold truthTo; simp [hi]
  rw [e]
  exact truth1_bd (hok _ (getD_mem l i zs hi)) (hx _ (getD_mem xs i 0 (by omega)))
theorem leanS_get (l : List Sn) (lv : Nat) (d p : Int) (i : Nat) (hi : i < l.length) : (leanS l lv d p).getD i 0 = if lv ≤ i ∧ 0 < ((l.getD i zs).at_ - p) * d then (l.getD i zs).most else (l.getD i zs).least := by
  unfold leanS; simp [hi]
theorem leanS_bnd {l : List Sn} (hok : ∀ s ∈ l, okS s) (lv : Nat) (d p : Int) : Bnd l (leanS l lv d p) := by
  refine ⟨by simp [leanS], fun i hi => ?_⟩
  have hs := hok _ (getD_mem l i zs hi)
  rw [leanS_get l lv d p i hi]
  unfold okS at hs
  split <;> omega
theorem psum_le (F G : Nat → Int) (lv n : Nat) (h : ∀ i, lv ≤ i → i < n → F i ≤ G i) : ∀ k, lv ≤ k → k ≤ n → psum F lv k ≤ psum G lv k
  | 0, hk, _ => by rw [show lv = 0 by omega]; simp [psum_self]
  | k + 1, hk, hn => by
    by_cases e : lv = k + 1
    · subst e; simp [psum_self]
    · have ih := psum_le F G lv n h k (by omega) (by omega)
      have hh := h k (by omega) (by omega)
      rw [psum_succ F lv k (by omega), psum_succ G lv k (by omega)]
      omega
theorem psum_eqF (F G : Nat → Int) (lv n : Nat) (h : ∀ i, lv ≤ i → i < n → F i = G i) : psum F lv n = psum G lv n := by
  by_cases hn : lv ≤ n
  · exact Int.le_antisymm (psum_le F G lv n (fun i a b => Int.le_of_eq (h i a b)) n hn (Nat.le_refl _)) (psum_le G F lv n (fun i a b => Int.le_of_eq (h i a b).symm) n hn (Nat.le_refl _))
  · unfold psum; rw [List.drop_of_length_le (by simp; omega)]; rfl
theorem momS_sum (l : List Sn) (ws : List Int) (lv : Nat) (d : Int) : momS l ws lv d = psum (fun i => ws.getD i 0 * (((l.getD i zs).at_ - edgeS l lv d) * d)) lv l.length := by
  unfold momS psum
  congr 1
  refine List.map_congr_left fun i _ => ?_
  rw [Int.mul_assoc]
/-- no truth passes the worst one -/
theorem worst_max {l : List Sn} (hok : ∀ s ∈ l, okS s) {ws : List Int} (hb : Bnd l ws) {lv : Nat} (hlv : lv < l.length) (d : Int) : momS l ws lv d ≤ momS l (worstS l lv d) lv d := by
  rw [momS_sum, momS_sum]
  refine psum_le _ _ lv l.length (fun i h1 h2 => ?_) l.length (by omega) (Nat.le_refl _)
  have hi := hb.2 i h2
  unfold worstS
  rw [leanS_get l lv d _ i h2]
  generalize ((l.getD i zs).at_ - edgeS l lv d) * d = c
  by_cases hc : 0 < c
  · rw [if_pos ⟨h1, hc⟩]
    exact Int.mul_le_mul_of_nonneg_right hi.2 (by omega)
  · rw [if_neg (by omega)]
    exact Int.mul_le_mul_of_nonpos_right hi.1 (by omega)
/-- each choice of stones is told by a number -/
theorem set_of : ∀ (n : Nat) (f : Nat → Bool), ∃ s, s < 2 ^ n ∧ ∀ i, i < n → s.testBit i = f i
  | 0, f => ⟨0, by simp, fun i hi => by omega⟩
  | n + 1, f => by
    obtain ⟨s, h1, h2⟩ := set_of n fun i => f (i + 1)
    refine ⟨2 * s + (if f 0 then 1 else 0), by rw [Nat.pow_succ]; split <;> omega, fun i hi => ?_⟩
    cases i with
    | zero =>
      rw [Nat.testBit_zero]
      cases f 0 <;> simp <;> omega
    | succ i =>
      rw [Nat.testBit_succ]
      have : (2 * s + (if f 0 then 1 else 0)) / 2 = s := by split <;> omega
      rw [this]
      exact h2 i (by omega)
theorem list_getD {a b : List Int} (hl : a.length = b.length) (h : ∀ i, i < a.length → a.getD i 0 = b.getD i 0) : a = b := by
  apply List.ext_getElem hl
  intro i h1 h2
  have := h i h1
  rwa [getD_eq a i 0 h1, getD_eq b i 0 h2] at this
theorem lean_corner (l : List Sn) (lv : Nat) (d p : Int) : ∃ s, s < 2 ^ l.length ∧ cornS l s = leanS l lv d p := by
  obtain ⟨s, h1, h2⟩ := set_of l.length fun i => decide (lv ≤ i ∧ 0 < ((l.getD i zs).at_ - p) * d)
  refine ⟨s, h1, list_getD (by unfold cornS; rw [cornTo_length]; simp [leanS]) fun i hi => ?_⟩
  have hi : i < l.length := by unfold cornS at hi; rwa [cornTo_length] at hi
  rw [cornS_get l s i hi, leanS_get l lv d p i hi, h2 i hi]
  unfold corn1
  by_cases h : lv ≤ i ∧ 0 < ((l.getD i zs).at_ - p) * d <;> simp [h]
/-- whether a truth tips a level -/
def tipC (l : List Sn) (lv : Nat) (ws : List Int) : Bool := decide (0 < (momsOf l ws lv).1) || decide (0 < (momsOf l ws lv).2)
def tipTo (l : List Sn) (lv : Nat) : Nat → Bool
  | 0 => false
  | k + 1 => tipTo l lv k || tipC l lv (cornS l k)
theorem tipTo_iff (l : List Sn) (lv : Nat) : ∀ k, tipTo l lv k = true ↔ ∃ s, s < k ∧ tipC l lv (cornS l s) = true
  | 0 => by simp [tipTo]
  | k + 1 => by
    have ih := tipTo_iff l lv k
    simp only [tipTo, Bool.or_eq_true, ih]
    constructor
    · rintro (⟨s, h1, h2⟩ | h)
      · exact ⟨s, by omega, h2⟩
      · exact ⟨k, by omega, h⟩
    · rintro ⟨s, h1, h2⟩
      by_cases e : s = k
      · subst e; exact .inr h2
      · exact .inl ⟨s, by omega, h2⟩
theorem tipC_iff (l : List Sn) (lv : Nat) (ws : List Int) : tipC l lv ws = true ↔ ∃ d ∈ sidesS (lv : Int), 0 < momS l ws lv d := by
  unfold tipC momsOf sidesS
  by_cases h : lv = 0
  · subst h; simp
  · rw [if_neg h, if_neg (by omega)]; simp
theorem tip_all {l : List Sn} (hok : ∀ s ∈ l, okS s) {lv : Nat} (hlv : lv < l.length) : tipTo l lv (2 ^ l.length) = mayTipS l lv := by
  rw [Bool.eq_iff_iff, tipTo_iff]
  unfold mayTipS
  rw [List.any_eq_true]
  constructor
  · rintro ⟨s, h1, h2⟩
    obtain ⟨d, hd, hp⟩ := (tipC_iff l lv _).1 h2
    have := worst_max hok (cornS_bnd hok s) hlv d
    exact ⟨d, hd, by simp; omega⟩
  · rintro ⟨d, hd, hp⟩
    obtain ⟨s, h1, h2⟩ := lean_corner l lv d (edgeS l lv d)
    refine ⟨s, h1, (tipC_iff l lv _).2 ⟨d, hd, ?_⟩⟩
    rw [h2]
    exact of_decide_eq_true hp
end Go.Proofs.Ytffblmhaoekkgaa.prp
