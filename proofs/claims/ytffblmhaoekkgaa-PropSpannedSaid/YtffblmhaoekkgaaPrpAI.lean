/- Chapter 7, plainly: PropSpanned: corners show the ends of a span; a pile stands just if spans lie between edges. -/
import Derived.Test.YtffblmhaoekkgaaPropNarrowedB
namespace Go.Proofs.Ytffblmhaoekkgaa.prp
set_option linter.unusedSimpArgs false
set_option linter.unusedVariables false

theorem low_corner {l : List Sn} (hok : ∀ s ∈ l, okS s) {lv : Nat} (hlv : lv < l.length) : ∃ s, s < 2 ^ l.length ∧ lowS l lv = cenF l (cornS l s) lv := by
  have hm := foundTo_mem belF (exTo l lv (-1) (l.length - lv)) (l.length - lv - 1) (by rw [exTo_length]; omega)
  unfold exTo at hm
  obtain ⟨j, hj, e⟩ := List.mem_map.1 hm
  obtain ⟨s, h1, h2⟩ := lean_corner l lv (-1) ((l.getD (lv + j) zs).at_)
  exact ⟨s, h1, by rw [h2]; exact e.symm⟩
theorem high_corner {l : List Sn} (hok : ∀ s ∈ l, okS s) {lv : Nat} (hlv : lv < l.length) : ∃ s, s < 2 ^ l.length ∧ highS l lv = cenF l (cornS l s) lv := by
  have hm := foundTo_mem abvF (exTo l lv 1 (l.length - lv)) (l.length - lv - 1) (by rw [exTo_length]; omega)
  unfold exTo at hm
  obtain ⟨j, hj, e⟩ := List.mem_map.1 hm
  obtain ⟨s, h1, h2⟩ := lean_corner l lv 1 ((l.getD (lv + j) zs).at_)
  exact ⟨s, h1, by rw [h2]; exact e.symm⟩
/-- what the first k corners show -/
structure Ext (l : List Sn) (lv k : Nat) (x y : Fr) : Prop where
  x1 : ∃ ws, Bnd l ws ∧ x = cenF l ws lv
  y1 : ∃ ws, Bnd l ws ∧ y = cenF l ws lv
  x2 : ∀ s, s < k → leF x (cenF l (cornS l s) lv)
  y2 : ∀ s, s < k → leF (cenF l (cornS l s) lv) y
theorem Ext.start {l : List Sn} {lv : Nat} {ws : List Int} (h : Bnd l ws) : Ext l lv 0 (cenF l ws lv) (cenF l ws lv) :=
  ⟨⟨ws, h, rfl⟩, ⟨ws, h, rfl⟩, fun s h => by omega, fun s h => by omega⟩
theorem belF_le {x y : Fr} (h : belF x y = true) : leF x y := Int.le_of_lt (of_decide_eq_true h)
theorem belF_no {x y : Fr} (h : belF x y = false) : leF y x := by
  have h := of_decide_eq_false h
  unfold leF; omega
theorem Ext.step {l : List Sn} (hok : ∀ s ∈ l, okS s) {lv k : Nat} (hlv : lv < l.length) {x y : Fr} (h : Ext l lv k x y) :
    Ext l lv (k + 1) (if belF (cenF l (cornS l k) lv) x then cenF l (cornS l k) lv else x) (if belF y (cenF l (cornS l k) lv) then cenF l (cornS l k) lv else y) := by
  have hc := cornS_bnd hok k
  have pos : ∀ ws, Bnd l ws → 0 < (cenF l ws lv).2 := fun ws hw => (cenF_pos hok hw hlv).1
  obtain ⟨w1, hw1, e1⟩ := h.x1
  obtain ⟨w2, hw2, e2⟩ := h.y1
  have px : 0 < x.2 := by rw [e1]; exact pos _ hw1
  have py : 0 < y.2 := by rw [e2]; exact pos _ hw2
  refine ⟨?_, ?_, fun s hs => ?_, fun s hs => ?_⟩
  · by_cases hb : belF (cenF l (cornS l k) lv) x = true
    · rw [if_pos hb]; exact ⟨_, hc, rfl⟩
    · rw [if_neg hb]; exact h.x1
  · by_cases hb : belF y (cenF l (cornS l k) lv) = true
    · rw [if_pos hb]; exact ⟨_, hc, rfl⟩
    · rw [if_neg hb]; exact h.y1
  · by_cases hb : belF (cenF l (cornS l k) lv) x = true
    · rw [if_pos hb]
      by_cases e : s = k
      · subst e; exact leF_refl _
      · exact leF_trans (pos _ hc) px (pos _ (cornS_bnd hok s)) (belF_le hb) (h.x2 s (by omega))
    · rw [if_neg hb]
      by_cases e : s = k
      · subst e; exact belF_no (by simpa using hb)
      · exact h.x2 s (by omega)
  · by_cases hb : belF y (cenF l (cornS l k) lv) = true
    · rw [if_pos hb]
      by_cases e : s = k
      · subst e; exact leF_refl _
      · exact leF_trans (pos _ (cornS_bnd hok s)) py (pos _ hc) (h.y2 s (by omega)) (belF_le hb)
    · rw [if_neg hb]
      by_cases e : s = k
      · subst e; exact belF_no (by simpa using hb)
      · exact h.y2 s (by omega)
theorem Ext.low {l : List Sn} (hok : ∀ s ∈ l, okS s) (h5 : l.length ≤ 5) {lv : Nat} (hlv : lv < l.length) {x y : Fr} (h : Ext l lv (2 ^ l.length) x y) : x = lowS l lv := by
  obtain ⟨ws, hw, e⟩ := h.x1
  obtain ⟨s, hs, e2⟩ := low_corner hok hlv
  have p := cenF_pos hok hw hlv
  have p2 := cenF_pos hok (cornS_bnd hok s) hlv
  have h1 := h.x2 s hs
  rw [← e2] at h1 p2
  have h2 := low_le hok h5 hlv hw
  rw [← e] at h2 p
  exact low_eq p.1 p2.1 p.2 p2.2 h1 h2
theorem Ext.high {l : List Sn} (hok : ∀ s ∈ l, okS s) (h5 : l.length ≤ 5) {lv : Nat} (hlv : lv < l.length) {x y : Fr} (h : Ext l lv (2 ^ l.length) x y) : y = highS l lv := by
  obtain ⟨ws, hw, e⟩ := h.y1
  obtain ⟨s, hs, e2⟩ := high_corner hok hlv
  have p := cenF_pos hok hw hlv
  have p2 := cenF_pos hok (cornS_bnd hok s) hlv
  have h1 := h.y2 s hs
  rw [← e2] at h1 p2
  have h2 := high_ge hok h5 hlv hw
  rw [← e] at h2 p
  exact low_eq p.1 p2.1 p.2 p2.2 h2 h1
/-! spans and edges -/
theorem cen_le {l : List Sn} (hok : ∀ s ∈ l, okS s) {ws : List Int} (hb : Bnd l ws) {lv : Nat} (hlv : lv < l.length) (e : Int) : leF (cenF l ws lv) (e, 1) ↔ mS l ws lv ≤ e * tS l ws lv := by
  have hT := tS_pos hok hb hlv
  have hv := low_val (a := mS l ws lv) hT
  have hp := (low_bd (a := mS l ws lv) hT).2.1
  rw [cenF_eq]
  unfold leF
  simp only
  generalize lowN (mS l ws lv) (tS l ws lv) = n at *
  generalize lowD (mS l ws lv) (tS l ws lv) = d at *
  generalize mS l ws lv = M at *
  generalize tS l ws lv = T at *
  constructor
  · intro h
    have h1 := Int.mul_le_mul_of_nonneg_right (show n ≤ e * d by omega) (Int.le_of_lt hT)
    rw [hv, Int.mul_assoc, Int.mul_comm d T, ← Int.mul_assoc] at h1
    exact Int.le_of_mul_le_mul_right h1 hp
  · intro h
    have h1 := Int.mul_le_mul_of_nonneg_right h (Int.le_of_lt hp)
    rw [← hv, Int.mul_assoc, Int.mul_comm T d, ← Int.mul_assoc] at h1
    have := Int.le_of_mul_le_mul_right h1 hT
    omega
theorem le_cen {l : List Sn} (hok : ∀ s ∈ l, okS s) {ws : List Int} (hb : Bnd l ws) {lv : Nat} (hlv : lv < l.length) (e : Int) : leF (e, 1) (cenF l ws lv) ↔ e * tS l ws lv ≤ mS l ws lv := by
  have hT := tS_pos hok hb hlv
  have hv := low_val (a := mS l ws lv) hT
  have hp := (low_bd (a := mS l ws lv) hT).2.1
  rw [cenF_eq]
  unfold leF
  simp only
  generalize lowN (mS l ws lv) (tS l ws lv) = n at *
  generalize lowD (mS l ws lv) (tS l ws lv) = d at *
  generalize mS l ws lv = M at *
  generalize tS l ws lv = T at *
  constructor
  · intro h
    have h1 := Int.mul_le_mul_of_nonneg_right (show e * d ≤ n by omega) (Int.le_of_lt hT)
    rw [hv, Int.mul_assoc, Int.mul_comm d T, ← Int.mul_assoc] at h1
    exact Int.le_of_mul_le_mul_right h1 hp
  · intro h
    have h1 := Int.mul_le_mul_of_nonneg_right h (Int.le_of_lt hp)
    rw [← hv, Int.mul_assoc, Int.mul_comm T d, ← Int.mul_assoc] at h1
    have := Int.le_of_mul_le_mul_right h1 hT
    omega
theorem mom_cen (l : List Sn) (ws : List Int) (lv : Nat) (d : Int) (hlv : lv ≤ l.length) (hd : d = 1 ∨ d = -1) : momS l ws lv d = (mS l ws lv - edgeS l lv d * tS l ws lv) * d := by
  rw [momS_sum]
  generalize edgeS l lv d = e
  have hl := psum_lin (fun i => ws.getD i 0) (fun i => (l.getD i zs).at_) 1 e lv l.length hlv
  have e1 : psum (fun i => ws.getD i 0 * (l.getD i zs).at_) lv l.length = mS l ws lv := rfl
  have e2 : psum (fun i => ws.getD i 0) lv l.length = tS l ws lv := rfl
  rw [e1, e2] at hl
  rcases hd with rfl | rfl
  · have : (fun i => ws.getD i 0 * (((l.getD i zs).at_ - e) * 1)) = fun i => ws.getD i 0 * ((l.getD i zs).at_ * 1 - e) := by funext i; rw [Int.mul_one, Int.mul_one]
    rw [this, hl]; omega
  · have h2 := psum_mul (fun i => ws.getD i 0 * ((l.getD i zs).at_ * 1 - e)) (-1) lv l.length hlv
    have : (fun i => ws.getD i 0 * (((l.getD i zs).at_ - e) * -1)) = fun i => -1 * (ws.getD i 0 * ((l.getD i zs).at_ * 1 - e)) := by
      funext i
      rw [Int.mul_one, ← Int.mul_assoc, Int.mul_comm _ (-1)]
    rw [this, h2, hl]; omega
theorem tip_right {l : List Sn} (hok : ∀ s ∈ l, okS s) (h5 : l.length ≤ 5) {lv : Nat} (hlv : lv < l.length) : belF (edgeS l lv 1, 1) (highS l lv) = false ↔ momS l (worstS l lv 1) lv 1 ≤ 0 := by
  have hw : Bnd l (worstS l lv 1) := leanS_bnd hok lv 1 _
  constructor
  · intro h
    have h1 := leF_trans (cenF_pos hok hw hlv).1 (high_ok hok h5 hlv).d1 (by show (0 : Int) < 1; omega) (high_ge hok h5 hlv hw) (belF_no h)
    have h2 := (cen_le hok hw hlv _).1 h1
    rw [mom_cen l _ lv 1 (by omega) (.inl rfl)]; omega
  · intro h
    obtain ⟨ws, hb, e⟩ := high_is hok hlv
    have h1 := worst_max hok hb hlv 1
    have h2 : momS l ws lv 1 ≤ 0 := by omega
    rw [mom_cen l _ lv 1 (by omega) (.inl rfl)] at h2
    refine leF_not ?_
    rw [e]
    exact (cen_le hok hb hlv _).2 (by omega)
theorem tip_left {l : List Sn} (hok : ∀ s ∈ l, okS s) (h5 : l.length ≤ 5) {lv : Nat} (hlv : lv < l.length) : belF (lowS l lv) (edgeS l lv (-1), 1) = false ↔ momS l (worstS l lv (-1)) lv (-1) ≤ 0 := by
  have hw : Bnd l (worstS l lv (-1)) := leanS_bnd hok lv (-1) _
  constructor
  · intro h
    have h1 := leF_trans (by show (0 : Int) < 1; omega) (low_ok hok h5 hlv).d1 (cenF_pos hok hw hlv).1 (belF_no h) (low_le hok h5 hlv hw)
    have h2 := (le_cen hok hw hlv _).1 h1
    rw [mom_cen l _ lv (-1) (by omega) (.inr rfl)]; omega
  · intro h
    obtain ⟨ws, hb, e⟩ := low_is hok hlv
    have h1 := worst_max hok hb hlv (-1)
    have h2 : momS l ws lv (-1) ≤ 0 := by omega
    rw [mom_cen l _ lv (-1) (by omega) (.inr rfl)] at h2
    refine leF_not ?_
    rw [e]
    exact (le_cen hok hb hlv _).2 (by omega)
/-- a level may tip just if its span leaves its edges -/
theorem tip_span {l : List Sn} (hok : ∀ s ∈ l, okS s) (h5 : l.length ≤ 5) {lv : Nat} (hlv : lv < l.length) :
    mayTipS l lv = (belF (edgeS l lv 1, 1) (highS l lv) || (decide (lv ≠ 0) && belF (lowS l lv) (edgeS l lv (-1), 1))) := by
  have h1 := tip_right hok h5 hlv
  have h2 := tip_left hok h5 hlv
  unfold mayTipS sidesS
  by_cases h0 : lv = 0
  · rw [if_pos (by omega)]
    simp only [List.any_cons, List.any_nil, Bool.or_false]
    have hd : decide (lv ≠ 0) = false := by simp [h0]
    rw [hd]
    simp only [Bool.false_and, Bool.or_false]
    cases hb : belF (edgeS l lv 1, 1) (highS l lv)
    · have := h1.1 hb; simp; omega
    · simp only [decide_eq_true_eq]
      rcases Int.lt_or_le 0 (momS l (worstS l lv 1) lv 1) with h | h
      · exact h
      · rw [h1.2 h] at hb; cases hb
  · rw [if_neg (by omega)]
    simp only [List.any_cons, List.any_nil, Bool.or_false]
    have hd : decide (lv ≠ 0) = true := by simp [h0]
    rw [hd]
    simp only [Bool.true_and]
    congr 1
    · cases hb : belF (edgeS l lv 1, 1) (highS l lv)
      · have := h1.1 hb; simp; omega
      · simp only [decide_eq_true_eq]
        rcases Int.lt_or_le 0 (momS l (worstS l lv 1) lv 1) with h | h
        · exact h
        · rw [h1.2 h] at hb; cases hb
    · cases hb : belF (lowS l lv) (edgeS l lv (-1), 1)
      · have := h2.1 hb; simp; omega
      · simp only [decide_eq_true_eq]
        rcases Int.lt_or_le 0 (momS l (worstS l lv (-1)) lv (-1)) with h | h
        · exact h
        · rw [h2.2 h] at hb; cases hb
/-- the first k levels stand -/
def upS (l : List Sn) (k : Nat) : Bool := (List.range k).all fun i => !mayTipS l i
theorem upS_succ (l : List Sn) (k : Nat) : upS l (k + 1) = (upS l k && !mayTipS l k) := by
  unfold upS; rw [List.range_succ, List.all_append]; simp
theorem upS_all (l : List Sn) : upS l l.length = standsS l := rfl
theorem upS_0 {l : List Sn} (hok : ∀ s ∈ l, okS s) (h5 : l.length ≤ 5) (hlv : 0 < l.length) : upS l 1 = (upS l 0 && !belF (0, 1) (highS l 0)) := by
  rw [upS_succ, tip_span hok h5 hlv]; simp [edgeS]
theorem upS_1 {l : List Sn} (hok : ∀ s ∈ l, okS s) (h5 : l.length ≤ 5) {k : Nat} (hk : k ≠ 0) (hlv : k < l.length) :
    upS l (k + 1) = ((upS l k && !belF (lowS l k) ((l.getD (k - 1) zs).at_ - (l.getD (k - 1) zs).half, 1)) && !belF ((l.getD (k - 1) zs).at_ + (l.getD (k - 1) zs).half, 1) (highS l k)) := by
  rw [upS_succ, tip_span hok h5 hlv]
  have e1 : edgeS l k 1 = (l.getD (k - 1) zs).at_ + (l.getD (k - 1) zs).half := by unfold edgeS; rw [if_neg hk]; omega
  have e2 : edgeS l k (-1) = (l.getD (k - 1) zs).at_ - (l.getD (k - 1) zs).half := by unfold edgeS; rw [if_neg hk]; omega
  rw [e1, e2]
  have hd : decide (k ≠ 0) = true := by simp [hk]
  rw [hd]
  cases upS l k <;> cases belF ((l.getD (k - 1) zs).at_ + (l.getD (k - 1) zs).half, 1) (highS l k) <;> cases belF (lowS l k) ((l.getD (k - 1) zs).at_ - (l.getD (k - 1) zs).half, 1) <;> rfl
end Go.Proofs.Ytffblmhaoekkgaa.prp
