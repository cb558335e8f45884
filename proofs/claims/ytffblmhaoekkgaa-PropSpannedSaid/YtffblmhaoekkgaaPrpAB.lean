/- Chapter 7, plainly: more is known of a weight. -/
import Derived.Test.YtffblmhaoekkgaaPrpAA
namespace Go.Proofs.Ytffblmhaoekkgaa.prp
open Go.RowKit
set_option linter.unusedSimpArgs false
set_option linter.unusedVariables false

theorem snErr_iff : ∀ l : List Sn, snErr l = 0 ↔ ∀ s ∈ l, stErr s = 0
  | [] => by simp [snErr]
  | s :: l => by
    have ih := snErr_iff l
    unfold snErr
    by_cases h : stErr s = 0
    · simp [h, ih]
    · simp [h]
theorem errP_iff (l : List Sn) : errP l = 0 ↔ (1 ≤ l.length ∧ l.length ≤ 5) ∧ ∀ s ∈ l, stErr s = 0 := by
  unfold errP
  by_cases h0 : l.length = 0
  · simp [h0]
  · by_cases h5 : 5 < l.length
    · rw [if_neg h0, if_pos h5]; constructor
      · intro h; cases h
      · intro h; omega
    · rw [if_neg h0, if_neg h5, snErr_iff]
      exact ⟨fun h => ⟨by omega, h⟩, fun h => h.2⟩
theorem stErr_iff (s : Sn) : stErr s = 0 ↔ (1 ≤ s.half ∧ s.half ≤ 4194304) ∧ (-33554432 ≤ s.at_ ∧ s.at_ ≤ 33554432) ∧ (1 ≤ s.least ∧ s.least ≤ 9) ∧ (1 ≤ s.most ∧ s.most ≤ 9) ∧ s.least ≤ s.most := by
  unfold stErr isF
  constructor
  · intro h
    split at h
    · cases h
    · rename_i h1
      split at h
      · cases h
      · rename_i h2
        simp at h1 h2
        omega
  · intro h
    rw [if_neg (by simp; omega), if_neg (by simp; omega)]
theorem narS_get (l : List Sn) (k : Nat) (a b : Int) (i : Nat) (hk : k < l.length) (hi : i < l.length) : (narS l k a b).getD i zs = if i = k then ⟨(l.getD k zs).half, (l.getD k zs).at_, a, b⟩ else l.getD i zs := by
  unfold narS
  rw [List.getD_eq_getElem?_getD, List.getElem?_set]
  by_cases h : k = i
  · subst h; simp [hk]
  · rw [if_neg h, if_neg (fun e => h e.symm), List.getD_eq_getElem?_getD]
/-- the same stones, other bounds -/
structure Nar (l m : List Sn) : Prop where
  len : m.length = l.length
  half : ∀ i, i < l.length → (m.getD i zs).half = (l.getD i zs).half
  at_ : ∀ i, i < l.length → (m.getD i zs).at_ = (l.getD i zs).at_
  lo : ∀ i, i < l.length → (l.getD i zs).least ≤ (m.getD i zs).least
  hi : ∀ i, i < l.length → (m.getD i zs).most ≤ (l.getD i zs).most
theorem nar_of {l : List Sn} {k : Nat} {a b : Int} (hk : k < l.length) (h2 : (l.getD k zs).least ≤ a) (h3 : b ≤ (l.getD k zs).most) : Nar l (narS l k a b) := by
  refine ⟨narS_length _ _ _ _, fun i hi => ?_, fun i hi => ?_, fun i hi => ?_, fun i hi => ?_⟩
  all_goals rw [narS_get l k a b i hk hi]
  all_goals by_cases e : i = k
  all_goals first | (subst e; simp; done) | (subst e; rw [if_pos rfl]; exact h2) | (subst e; rw [if_pos rfl]; exact h3) | simp [e]
theorem nar_err {l : List Sn} (hE : errP l = 0) {k : Nat} {a b : Int} (hk : k < l.length) (h1 : a ≤ b) (h2 : (l.getD k zs).least ≤ a) (h3 : b ≤ (l.getD k zs).most) : errP (narS l k a b) = 0 := by
  rw [errP_iff] at *
  refine ⟨by rw [narS_length]; exact hE.1, fun s hs => ?_⟩
  have h0 := hE.2 _ (getD_mem l k zs hk)
  unfold narS at hs
  rcases List.mem_or_eq_of_mem_set hs with hs | rfl
  · exact hE.2 _ hs
  · rw [stErr_iff] at *
    simp only
    omega
theorem Nar.bnd {l m : List Sn} (h : Nar l m) {ws : List Int} (hb : Bnd m ws) : Bnd l ws := by
  refine ⟨hb.1.trans h.len, fun i hi => ?_⟩
  have := hb.2 i (by rw [h.len]; exact hi)
  have := h.lo i hi
  have := h.hi i hi
  omega
theorem Nar.edge {l m : List Sn} (h : Nar l m) {lv : Nat} (hlv : lv < l.length) (d : Int) : edgeS m lv d = edgeS l lv d := by
  unfold edgeS
  by_cases h0 : lv = 0
  · rw [if_pos h0, if_pos h0]
  · rw [if_neg h0, if_neg h0, h.at_ _ (by omega), h.half _ (by omega)]
theorem Nar.mom {l m : List Sn} (h : Nar l m) (ws : List Int) {lv : Nat} (hlv : lv < l.length) (d : Int) : momS m ws lv d = momS l ws lv d := by
  rw [momS_sum, momS_sum, h.len, h.edge hlv]
  exact psum_eqF _ _ _ _ fun i _ hi => by rw [h.at_ i hi]
theorem Nar.mS {l m : List Sn} (h : Nar l m) (ws : List Int) (lv : Nat) : prp.mS m ws lv = prp.mS l ws lv := by
  unfold prp.mS
  rw [h.len]
  exact psum_eqF _ _ _ _ fun i _ hi => by rw [h.at_ i hi]
theorem Nar.cen {l m : List Sn} (h : Nar l m) (ws : List Int) (lv : Nat) : cenF m ws lv = cenF l ws lv := by
  rw [cenF_eq, cenF_eq, h.mS]; unfold tS; rw [h.len]
theorem Nar.stands {l m : List Sn} (h : Nar l m) (hok : ∀ s ∈ l, okS s) (hok2 : ∀ s ∈ m, okS s) (hs : standsS l = true) : standsS m = true := by
  unfold standsS at *
  rw [List.all_eq_true] at *
  intro lv hlv
  rw [List.mem_range, h.len] at hlv
  have h1 := hs lv (List.mem_range.2 hlv)
  unfold mayTipS at *
  simp only [Bool.not_eq_true', List.any_eq_false, decide_eq_true_eq] at *
  intro d hd
  have h2 := h1 d hd
  rw [h.mom _ hlv]
  have h3 := worst_max hok (h.bnd (leanS_bnd hok2 lv d (edgeS m lv d))) hlv d
  have e : worstS m lv d = leanS m lv d (edgeS m lv d) := rfl
  rw [e]
  omega
theorem Nar.low {l m : List Sn} (h : Nar l m) (hok : ∀ s ∈ l, okS s) (hok2 : ∀ s ∈ m, okS s) (h5 : l.length ≤ 5) {lv : Nat} (hlv : lv < l.length) : leF (lowS l lv) (lowS m lv) := by
  obtain ⟨ws, hb, e⟩ := low_is hok2 (lv := lv) (by rw [h.len]; exact hlv)
  rw [e, h.cen]
  exact low_le hok h5 hlv (h.bnd hb)
theorem Nar.high {l m : List Sn} (h : Nar l m) (hok : ∀ s ∈ l, okS s) (hok2 : ∀ s ∈ m, okS s) (h5 : l.length ≤ 5) {lv : Nat} (hlv : lv < l.length) : leF (highS m lv) (highS l lv) := by
  obtain ⟨ws, hb, e⟩ := high_is hok2 (lv := lv) (by rw [h.len]; exact hlv)
  rw [e, h.cen]
  exact high_ge hok h5 hlv (h.bnd hb)
theorem leF_not {x y : Fr} (h : leF x y) : belF y x = false := by
  unfold leF at h
  unfold belF
  simp only [decide_eq_false_iff_not]
  omega
/-- what is known of an end of a span -/
structure FrOk (x : Fr) : Prop where
  n1 : -50000000000 ≤ x.1
  n2 : x.1 ≤ 50000000000
  d1 : 0 < x.2
  d2 : x.2 ≤ 500
  gcd : Int.gcd x.1 x.2 = 1
theorem cenF_ok {l : List Sn} (hok : ∀ s ∈ l, okS s) (h5 : l.length ≤ 5) {ws : List Int} (hb : Bnd l ws) {lv : Nat} (hlv : lv < l.length) : FrOk (cenF l ws lv) := by
  have h := cenF_bd hok h5 hb hlv
  exact ⟨h.1.1, h.1.2, h.2.1, h.2.2, (cenF_pos hok hb hlv).2⟩
theorem low_ok {l : List Sn} (hok : ∀ s ∈ l, okS s) (h5 : l.length ≤ 5) {lv : Nat} (hlv : lv < l.length) : FrOk (lowS l lv) := by
  obtain ⟨ws, hb, e⟩ := low_is hok hlv
  rw [e]; exact cenF_ok hok h5 hb hlv
theorem high_ok {l : List Sn} (hok : ∀ s ∈ l, okS s) (h5 : l.length ≤ 5) {lv : Nat} (hlv : lv < l.length) : FrOk (highS l lv) := by
  obtain ⟨ws, hb, e⟩ := high_is hok hlv
  rw [e]; exact cenF_ok hok h5 hb hlv
/-- fair at an end of a span -/
theorem fairOk {x : Fr} (h : FrOk x) (w : World) : Calls Try.prog 27 #[frP x] w fun e w' => e = .returned (.bool true) ∧ Below w.heap.size w w' := by
  have := fair_any x.1 x.2 w h.d1 (by have := h.d2; omega) (by have := h.n1; omega) (by have := h.n2; omega)
  rw [h.gcd] at this
  exact this
theorem frOk_bd {x y : Fr} (h : FrOk x) (h' : FrOk y) : -4611686018427387904 < x.1 * y.2 ∧ x.1 * y.2 < 4611686018427387904 := by
  have a1 := h.n1
  have a2 := h.n2
  have b1 := h'.d1
  have b2 := h'.d2
  have c1 : x.1 * y.2 ≤ 50000000000 * y.2 := Int.mul_le_mul_of_nonneg_right a2 (by omega)
  have c2 : -50000000000 * y.2 ≤ x.1 * y.2 := Int.mul_le_mul_of_nonneg_right a1 (by omega)
  omega
theorem belowOk {x y : Fr} (h : FrOk x) (h' : FrOk y) (w : World) : Calls Try.prog 31 #[frP x, frP y] w fun e w' => e = .returned (.bool (belF x y)) ∧ Below w.heap.size w w' :=
  below_any x.1 x.2 y.1 y.2 w (frOk_bd h h') (frOk_bd h' h)
end Go.Proofs.Ytffblmhaoekkgaa.prp
