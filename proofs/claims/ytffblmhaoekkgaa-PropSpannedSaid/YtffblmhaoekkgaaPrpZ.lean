/- Chapter 7, plainly: the ends of a span are the smallest and the greatest centre of all truths. -/
import Derived.Test.YtffblmhaoekkgaaPrpY
namespace Go.Proofs.Ytffblmhaoekkgaa.prp
set_option linter.unusedSimpArgs false
set_option linter.unusedVariables false

/-! sums over the stones of a level -/
theorem drop_weigh (l : List Sn) (ws : List Int) (lv : Nat) : (weighS l ws).drop lv = ((List.range l.length).drop lv).map fun i => (l.getD i zs, ws.getD i 0) := by
  unfold weighS; rw [List.map_drop]
def mS (l : List Sn) (ws : List Int) (lv : Nat) : Int := psum (fun i => ws.getD i 0 * (l.getD i zs).at_) lv l.length
def tS (l : List Sn) (ws : List Int) (lv : Nat) : Int := psum (fun i => ws.getD i 0) lv l.length
theorem msum_eq (l : List Sn) (ws : List Int) (lv : Nat) : msum ((weighS l ws).drop lv) = mS l ws lv := by
  unfold msum mS psum; rw [drop_weigh, List.map_map]; rfl
theorem wsum_eq (l : List Sn) (ws : List Int) (lv : Nat) : wsum ((weighS l ws).drop lv) = tS l ws lv := by
  unfold wsum tS psum; rw [drop_weigh, List.map_map]; rfl
theorem cenF_eq (l : List Sn) (ws : List Int) (lv : Nat) : cenF l ws lv = (lowN (mS l ws lv) (tS l ws lv), lowD (mS l ws lv) (tS l ws lv)) := by
  unfold cenF; rw [msum_eq, wsum_eq]
theorem tS_pos {l : List Sn} (hok : ∀ s ∈ l, okS s) {ws : List Int} (hb : Bnd l ws) {lv : Nat} (hlv : lv < l.length) : 0 < tS l ws lv := by
  rw [← wsum_eq]; exact weigh_wsum hok hb hlv
theorem psum_lin (a c : Nat → Int) (T M : Int) (lv : Nat) : ∀ k, lv ≤ k → psum (fun i => a i * (c i * T - M)) lv k = T * psum (fun i => a i * c i) lv k - M * psum a lv k
  | 0, hk => by rw [show lv = 0 by omega]; simp [psum_self]
  | k + 1, hk => by
    by_cases e : lv = k + 1
    · subst e; simp [psum_self]
    · rw [psum_succ _ lv k (by omega), psum_succ _ lv k (by omega), psum_succ a lv k (by omega), psum_lin a c T M lv k (by omega)]
      rw [Int.mul_add, Int.mul_add, Int.mul_sub, ← Int.mul_assoc, Int.mul_comm (a k * c k) T, Int.mul_comm (a k) M]
      omega
theorem argmin (p : Nat → Prop) (f : Nat → Int) (lv : Nat) : ∀ n, (∃ i, lv ≤ i ∧ i < n ∧ p i) → ∃ k, lv ≤ k ∧ k < n ∧ p k ∧ ∀ i, lv ≤ i → i < n → p i → f k ≤ f i
  | 0, ⟨i, _, h, _⟩ => by omega
  | n + 1, ⟨i, h1, h2, h3⟩ => by
    by_cases hp : ∃ i, lv ≤ i ∧ i < n ∧ p i
    · obtain ⟨k, k1, k2, k3, k4⟩ := argmin p f lv n hp
      by_cases hn : lv ≤ n ∧ p n ∧ f n < f k
      · refine ⟨n, hn.1, by omega, hn.2.1, fun j j1 j2 j3 => ?_⟩
        by_cases e : j = n
        · subst e; exact Int.le_refl _
        · have := k4 j j1 (by omega) j3; omega
      · refine ⟨k, k1, by omega, k3, fun j j1 j2 j3 => ?_⟩
        by_cases e : j = n
        · subst e
          rcases Int.lt_or_le (f j) (f k) with h | h
          · exact absurd ⟨j1, j3, h⟩ hn
          · exact h
        · exact k4 j j1 (by omega) j3
    · have : i = n := by
        rcases Nat.lt_or_ge i n with h | h
        · exact absurd ⟨i, h1, h, h3⟩ hp
        · omega
      subst this
      refine ⟨i, h1, by omega, h3, fun j j1 j2 j3 => ?_⟩
      have : j = i := by
        rcases Nat.lt_or_ge j i with h | h
        · exact absurd ⟨j, j1, h, j3⟩ hp
        · omega
      subst this; exact Int.le_refl _
theorem psum_nonneg (F : Nat → Int) (lv n : Nat) (hn : lv ≤ n) (h : ∀ i, lv ≤ i → i < n → 0 ≤ F i) : 0 ≤ psum F lv n := by
  have := psum_le (fun _ => 0) F lv n h n hn (Nat.le_refl _)
  have h0 : ∀ k, psum (fun _ => (0 : Int)) lv k = 0 := fun k => by
    have := psum_mul (fun _ => 0) 0 lv
    unfold psum
    have : ∀ xs : List Nat, (xs.map fun _ => (0 : Int)).sum = 0 := fun xs => by
      induction xs with
      | nil => rfl
      | cons a xs ih => simp only [List.map_cons, List.sum_cons, ih]; rfl
    exact this _
  rw [h0] at this
  exact this
theorem psum_pos (F : Nat → Int) (lv n : Nat) (hn : lv < n) (h : ∀ i, lv ≤ i → i < n → 0 < F i) : 0 < psum F lv n := by
  have h1 := psum_nonneg F lv (n - 1) (by omega) fun i a b => Int.le_of_lt (h i a (by omega))
  have h2 := psum_succ F lv (n - 1) (by omega)
  have h3 := h (n - 1) (by omega) (by omega)
  rw [show n - 1 + 1 = n by omega] at h2
  omega
/-- some truth that leans beyond a stone lies at least as far to the left as a truth -/
theorem lean_low {l : List Sn} (hok : ∀ s ∈ l, okS s) {ws : List Int} (hb : Bnd l ws) {lv : Nat} (hlv : lv < l.length) :
    ∃ k, lv ≤ k ∧ k < l.length ∧ mS l (leanS l lv (-1) (l.getD k zs).at_) lv * tS l ws lv ≤ mS l ws lv * tS l (leanS l lv (-1) (l.getD k zs).at_) lv := by
  have hT := tS_pos hok hb hlv
  have hz : psum (fun i => ws.getD i 0 * ((l.getD i zs).at_ * tS l ws lv - mS l ws lv)) lv l.length = 0 := by
    rw [psum_lin _ _ _ _ _ _ (by omega)]
    show tS l ws lv * mS l ws lv - mS l ws lv * tS l ws lv = 0
    rw [Int.mul_comm]; omega
  generalize hTT : tS l ws lv = T at *
  generalize hMM : mS l ws lv = M at *
  have hw : ∀ i, lv ≤ i → i < l.length → 1 ≤ ws.getD i 0 := fun i _ hi => by
    have h1 := (hb.2 i hi).1
    have h2 := hok _ (getD_mem l i zs hi)
    unfold okS at h2; omega
  have hex : ∃ i, lv ≤ i ∧ i < l.length ∧ M ≤ (l.getD i zs).at_ * T := by
    apply Classical.byContradiction
    intro hno
    have hneg : ∀ i, lv ≤ i → i < l.length → 0 < -(ws.getD i 0 * ((l.getD i zs).at_ * T - M)) := fun i a b => by
      have h1 : ¬ M ≤ (l.getD i zs).at_ * T := fun h => hno ⟨i, a, b, h⟩
      have h2 := hw i a b
      have := Int.mul_pos (show (0 : Int) < ws.getD i 0 by omega) (show 0 < M - (l.getD i zs).at_ * T by omega)
      rw [← Int.mul_neg, show -((l.getD i zs).at_ * T - M) = M - (l.getD i zs).at_ * T by omega]
      exact this
    have h1 := psum_pos _ lv l.length hlv hneg
    have h2 := psum_mul (fun i => ws.getD i 0 * ((l.getD i zs).at_ * T - M)) (-1) lv l.length (by omega)
    rw [hz] at h2
    have h3 : (fun i => -(ws.getD i 0 * ((l.getD i zs).at_ * T - M))) = fun i => -1 * (ws.getD i 0 * ((l.getD i zs).at_ * T - M)) := by funext i; omega
    rw [h3, h2] at h1
    omega
  obtain ⟨k, k1, k2, k3, k4⟩ := argmin (fun i => M ≤ (l.getD i zs).at_ * T) (fun i => (l.getD i zs).at_) lv l.length hex
  refine ⟨k, k1, k2, ?_⟩
  have hle := psum_le (fun i => (leanS l lv (-1) (l.getD k zs).at_).getD i 0 * ((l.getD i zs).at_ * T - M)) (fun i => ws.getD i 0 * ((l.getD i zs).at_ * T - M)) lv l.length (fun i a b => by
    have hi := hb.2 i b
    show (leanS l lv (-1) (l.getD k zs).at_).getD i 0 * ((l.getD i zs).at_ * T - M) ≤ ws.getD i 0 * ((l.getD i zs).at_ * T - M)
    rw [leanS_get l lv (-1) _ i b]
    by_cases hc : (l.getD i zs).at_ < (l.getD k zs).at_
    · rw [if_pos ⟨a, by omega⟩]
      have hneg : (l.getD i zs).at_ * T - M ≤ 0 := by
        rcases Int.lt_or_le ((l.getD i zs).at_ * T) M with h | h
        · omega
        · have := k4 i a b h; omega
      exact Int.mul_le_mul_of_nonpos_right hi.2 hneg
    · rw [if_neg (by omega)]
      have hnn : 0 ≤ (l.getD i zs).at_ * T - M := by
        have := Int.mul_le_mul_of_nonneg_right (show (l.getD k zs).at_ ≤ (l.getD i zs).at_ by omega) (show (0 : Int) ≤ T by omega)
        omega
      exact Int.mul_le_mul_of_nonneg_right hi.1 hnn) l.length (by omega) (Nat.le_refl _)
  rw [hz, psum_lin _ _ _ _ _ _ (by omega)] at hle
  have e1 : psum (fun i => (leanS l lv (-1) (l.getD k zs).at_).getD i 0 * (l.getD i zs).at_) lv l.length = mS l (leanS l lv (-1) (l.getD k zs).at_) lv := rfl
  have e2 : psum (fun i => (leanS l lv (-1) (l.getD k zs).at_).getD i 0) lv l.length = tS l (leanS l lv (-1) (l.getD k zs).at_) lv := rfl
  rw [e1, e2] at hle
  rw [Int.mul_comm _ T]
  omega
theorem lean_high {l : List Sn} (hok : ∀ s ∈ l, okS s) {ws : List Int} (hb : Bnd l ws) {lv : Nat} (hlv : lv < l.length) :
    ∃ k, lv ≤ k ∧ k < l.length ∧ mS l ws lv * tS l (leanS l lv 1 (l.getD k zs).at_) lv ≤ mS l (leanS l lv 1 (l.getD k zs).at_) lv * tS l ws lv := by
  have hT := tS_pos hok hb hlv
  have hz : psum (fun i => ws.getD i 0 * ((l.getD i zs).at_ * tS l ws lv - mS l ws lv)) lv l.length = 0 := by
    rw [psum_lin _ _ _ _ _ _ (by omega)]
    show tS l ws lv * mS l ws lv - mS l ws lv * tS l ws lv = 0
    rw [Int.mul_comm]; omega
  generalize hTT : tS l ws lv = T at *
  generalize hMM : mS l ws lv = M at *
  have hw : ∀ i, lv ≤ i → i < l.length → 1 ≤ ws.getD i 0 := fun i _ hi => by
    have h1 := (hb.2 i hi).1
    have h2 := hok _ (getD_mem l i zs hi)
    unfold okS at h2; omega
  have hex : ∃ i, lv ≤ i ∧ i < l.length ∧ (l.getD i zs).at_ * T ≤ M := by
    apply Classical.byContradiction
    intro hno
    have hneg : ∀ i, lv ≤ i → i < l.length → 0 < ws.getD i 0 * ((l.getD i zs).at_ * T - M) := fun i a b => by
      have h1 : ¬ (l.getD i zs).at_ * T ≤ M := fun h => hno ⟨i, a, b, h⟩
      have h2 := hw i a b
      exact Int.mul_pos (show (0 : Int) < ws.getD i 0 by omega) (show 0 < (l.getD i zs).at_ * T - M by omega)
    have h1 := psum_pos _ lv l.length hlv hneg
    rw [hz] at h1
    omega
  obtain ⟨k, k1, k2, k3, k4⟩ := argmin (fun i => (l.getD i zs).at_ * T ≤ M) (fun i => -(l.getD i zs).at_) lv l.length hex
  refine ⟨k, k1, k2, ?_⟩
  have hle := psum_le (fun i => ws.getD i 0 * ((l.getD i zs).at_ * T - M)) (fun i => (leanS l lv 1 (l.getD k zs).at_).getD i 0 * ((l.getD i zs).at_ * T - M)) lv l.length (fun i a b => by
    have hi := hb.2 i b
    show ws.getD i 0 * ((l.getD i zs).at_ * T - M) ≤ (leanS l lv 1 (l.getD k zs).at_).getD i 0 * ((l.getD i zs).at_ * T - M)
    rw [leanS_get l lv 1 _ i b]
    by_cases hc : (l.getD k zs).at_ < (l.getD i zs).at_
    · rw [if_pos ⟨a, by omega⟩]
      have hnn : 0 ≤ (l.getD i zs).at_ * T - M := by
        rcases Int.lt_or_le M ((l.getD i zs).at_ * T) with h | h
        · omega
        · have := k4 i a b h; omega
      exact Int.mul_le_mul_of_nonneg_right hi.2 hnn
    · rw [if_neg (by omega)]
      have hneg : (l.getD i zs).at_ * T - M ≤ 0 := by
        have := Int.mul_le_mul_of_nonneg_right (show (l.getD i zs).at_ ≤ (l.getD k zs).at_ by omega) (show (0 : Int) ≤ T by omega)
        omega
      exact Int.mul_le_mul_of_nonpos_right hi.1 hneg) l.length (by omega) (Nat.le_refl _)
  rw [hz, psum_lin _ _ _ _ _ _ (by omega)] at hle
  have e1 : psum (fun i => (leanS l lv 1 (l.getD k zs).at_).getD i 0 * (l.getD i zs).at_) lv l.length = mS l (leanS l lv 1 (l.getD k zs).at_) lv := rfl
  have e2 : psum (fun i => (leanS l lv 1 (l.getD k zs).at_).getD i 0) lv l.length = tS l (leanS l lv 1 (l.getD k zs).at_) lv := rfl
  rw [e1, e2] at hle
  rw [Int.mul_comm _ T]
  omega
/-! fractions -/
def leF (x y : Fr) : Prop := x.1 * y.2 ≤ y.1 * x.2
theorem leF_refl (x : Fr) : leF x x := Int.le_refl _
theorem leF_trans {x y z : Fr} (hx : 0 < x.2) (hy : 0 < y.2) (hz : 0 < z.2) (h1 : leF x y) (h2 : leF y z) : leF x z := by
  unfold leF at *
  have a := Int.mul_le_mul_of_nonneg_right h1 (Int.le_of_lt hz)
  have b := Int.mul_le_mul_of_nonneg_right h2 (Int.le_of_lt hx)
  have c : (x.1 * z.2) * y.2 ≤ (z.1 * x.2) * y.2 := by
    have e1 : x.1 * y.2 * z.2 = x.1 * z.2 * y.2 := by rw [Int.mul_assoc, Int.mul_comm y.2, ← Int.mul_assoc]
    have e2 : y.1 * x.2 * z.2 = y.1 * z.2 * x.2 := by rw [Int.mul_assoc, Int.mul_comm x.2, ← Int.mul_assoc]
    have e3 : z.1 * y.2 * x.2 = z.1 * x.2 * y.2 := by rw [Int.mul_assoc, Int.mul_comm y.2, ← Int.mul_assoc]
    rw [e1, e2] at a
    rw [e3] at b
    omega
  exact Int.le_of_mul_le_mul_right c hy
theorem low_val {a b : Int} (hb : 0 < b) : lowN a b * b = a * lowD a b := by
  unfold lowN lowD
  obtain ⟨x, hx⟩ : ∃ x, a = (Int.gcd a b : Int) * x := Int.gcd_dvd_left ..
  obtain ⟨y, hy⟩ : ∃ y, b = (Int.gcd a b : Int) * y := Int.gcd_dvd_right ..
  have hg : (0 : Int) < Int.gcd a b := by have := Int.gcd_pos_of_ne_zero_right a (show b ≠ 0 by omega); omega
  generalize (Int.gcd a b : Int) = g at *
  subst hx
  subst hy
  rw [Int.mul_tdiv_cancel_left _ (by omega), Int.mul_tdiv_cancel_left _ (by omega)]
  rw [← Int.mul_assoc, Int.mul_comm x g]
theorem low_gcd {a b : Int} (hb : 0 < b) : Int.gcd (lowN a b) (lowD a b) = 1 := by
  unfold lowN lowD
  have hg : 0 < Int.gcd a b := Int.gcd_pos_of_ne_zero_right a (by omega)
  rw [Int.tdiv_eq_ediv_of_dvd (Int.gcd_dvd_left ..), Int.tdiv_eq_ediv_of_dvd (Int.gcd_dvd_right ..)]
  exact Int.gcd_ediv_gcd_ediv_gcd hg
theorem dvd_of_gcd {b a d : Int} (h : b ∣ a * d) (hg : Int.gcd a b = 1) : b ∣ d := by
  have h1 : b.natAbs ∣ a.natAbs * d.natAbs := by rw [← Int.natAbs_mul]; exact Int.natAbs_dvd_natAbs.2 h
  have h2 : Nat.Coprime b.natAbs a.natAbs := by
    have : Nat.gcd a.natAbs b.natAbs = 1 := hg
    rw [Nat.gcd_comm] at this
    exact this
  exact Int.natAbs_dvd_natAbs.1 (h2.dvd_of_dvd_mul_left h1)
/-- a fraction in lowest terms is told by its value -/
theorem low_eq {x y : Fr} (hx : 0 < x.2) (hy : 0 < y.2) (gx : Int.gcd x.1 x.2 = 1) (gy : Int.gcd y.1 y.2 = 1) (h1 : leF x y) (h2 : leF y x) : x = y := by
  obtain ⟨a, b⟩ := x
  obtain ⟨c, d⟩ := y
  unfold leF at h1 h2
  simp only at *
  have he : a * d = c * b := by omega
  have d1 : b ∣ d := by
    have : b ∣ a * d := ⟨c, by rw [he, Int.mul_comm]⟩
    exact dvd_of_gcd this gx
  have d2 : d ∣ b := by
    have : d ∣ c * b := ⟨a, by rw [← he, Int.mul_comm]⟩
    exact dvd_of_gcd this gy
  have hbd : b = d := Int.dvd_antisymm (by omega) (by omega) d1 d2
  subst hbd
  have : a = c := Int.eq_of_mul_eq_mul_right (by omega) he
  rw [this]
theorem cenF_pos {l : List Sn} (hok : ∀ s ∈ l, okS s) {ws : List Int} (hb : Bnd l ws) {lv : Nat} (hlv : lv < l.length) : 0 < (cenF l ws lv).2 ∧ Int.gcd (cenF l ws lv).1 (cenF l ws lv).2 = 1 := by
  have hT := tS_pos hok hb hlv
  rw [cenF_eq]
  exact ⟨(low_bd hT).2.1, low_gcd hT⟩
theorem cenF_le {l l2 : List Sn} {ws ws2 : List Int} {lv lv2 : Nat} (h1 : 0 < tS l ws lv) (h2 : 0 < tS l2 ws2 lv2) (h : mS l ws lv * tS l2 ws2 lv2 ≤ mS l2 ws2 lv2 * tS l ws lv) : leF (cenF l ws lv) (cenF l2 ws2 lv2) := by
  have e1 := low_val (a := mS l ws lv) h1
  have e2 := low_val (a := mS l2 ws2 lv2) h2
  have p1 := (low_bd (a := mS l ws lv) h1).2.1
  have p2 := (low_bd (a := mS l2 ws2 lv2) h2).2.1
  rw [cenF_eq, cenF_eq]
  refine leF_trans (y := (mS l ws lv, tS l ws lv)) p1 h1 p2 ?_ (leF_trans (y := (mS l2 ws2 lv2, tS l2 ws2 lv2)) h1 h2 p2 h ?_)
  · show lowN _ _ * tS l ws lv ≤ mS l ws lv * lowD _ _
    omega
  · show mS l2 ws2 lv2 * lowD _ _ ≤ lowN _ _ * tS l2 ws2 lv2
    omega
/-! the first of the smallest, and of the greatest -/
theorem found_min (xs : List Fr) (hp : ∀ x ∈ xs, 0 < x.2) : ∀ k, k < xs.length → ∀ i, i ≤ k → leF (foundTo belF xs k) (xs.getD i (0, 0))
  | 0, hk, i, hi => by obtain rfl : i = 0 := by omega
                       exact leF_refl _
  | k + 1, hk, i, hi => by
    have ih := found_min xs hp k (by omega)
    have hx := hp _ (getD_mem xs (k + 1) (0, 0) hk)
    have hf := hp _ (foundTo_mem belF xs k (by omega))
    have e : foundTo belF xs (k + 1) = if belF (xs.getD (k + 1) (0, 0)) (foundTo belF xs k) then xs.getD (k + 1) (0, 0) else foundTo belF xs k := rfl
    rw [e]
    by_cases hb : belF (xs.getD (k + 1) (0, 0)) (foundTo belF xs k) = true
    · rw [if_pos hb]
      have hb := of_decide_eq_true hb
      by_cases e : i = k + 1
      · subst e; exact leF_refl _
      · refine leF_trans hx hf (hp _ (getD_mem xs i (0, 0) (by omega))) (Int.le_of_lt hb) (ih i (by omega))
    · rw [if_neg hb]
      by_cases e : i = k + 1
      · subst e
        have hb : ¬ (xs.getD (k + 1) (0, 0)).1 * (foundTo belF xs k).2 < (foundTo belF xs k).1 * (xs.getD (k + 1) (0, 0)).2 := fun h => hb (decide_eq_true h)
        unfold leF; omega
      · exact ih i (by omega)
theorem found_max (xs : List Fr) (hp : ∀ x ∈ xs, 0 < x.2) : ∀ k, k < xs.length → ∀ i, i ≤ k → leF (xs.getD i (0, 0)) (foundTo abvF xs k)
  | 0, hk, i, hi => by obtain rfl : i = 0 := by omega
                       exact leF_refl _
  | k + 1, hk, i, hi => by
    have ih := found_max xs hp k (by omega)
    have hx := hp _ (getD_mem xs (k + 1) (0, 0) hk)
    have hf := hp _ (foundTo_mem abvF xs k (by omega))
    have e : foundTo abvF xs (k + 1) = if abvF (xs.getD (k + 1) (0, 0)) (foundTo abvF xs k) then xs.getD (k + 1) (0, 0) else foundTo abvF xs k := rfl
    rw [e]
    by_cases hb : abvF (xs.getD (k + 1) (0, 0)) (foundTo abvF xs k) = true
    · rw [if_pos hb]
      have hb := of_decide_eq_true hb
      by_cases e : i = k + 1
      · subst e; exact leF_refl _
      · refine leF_trans (hp _ (getD_mem xs i (0, 0) (by omega))) hf hx (ih i (by omega)) (Int.le_of_lt hb)
    · rw [if_neg hb]
      by_cases e : i = k + 1
      · subst e
        have hb : ¬ (foundTo abvF xs k).1 * (xs.getD (k + 1) (0, 0)).2 < (xs.getD (k + 1) (0, 0)).1 * (foundTo abvF xs k).2 := fun h => hb (decide_eq_true h)
        unfold leF; omega
      · exact ih i (by omega)
theorem exTo_get (l : List Sn) (lv : Nat) (d : Int) (k j : Nat) (hj : j < k) : (exTo l lv d k).getD j (0, 0) = exF l lv d j := by unfold exTo; simp [hj]
/-- the ends of a span are centres of truths -/
theorem low_is {l : List Sn} (hok : ∀ s ∈ l, okS s) {lv : Nat} (hlv : lv < l.length) : ∃ ws, Bnd l ws ∧ lowS l lv = cenF l ws lv := by
  have hm := foundTo_mem belF (exTo l lv (-1) (l.length - lv)) (l.length - lv - 1) (by rw [exTo_length]; omega)
  unfold exTo at hm
  obtain ⟨j, hj, e⟩ := List.mem_map.1 hm
  exact ⟨_, leanS_bnd hok lv (-1) _, e.symm⟩
theorem high_is {l : List Sn} (hok : ∀ s ∈ l, okS s) {lv : Nat} (hlv : lv < l.length) : ∃ ws, Bnd l ws ∧ highS l lv = cenF l ws lv := by
  have hm := foundTo_mem abvF (exTo l lv 1 (l.length - lv)) (l.length - lv - 1) (by rw [exTo_length]; omega)
  unfold exTo at hm
  obtain ⟨j, hj, e⟩ := List.mem_map.1 hm
  exact ⟨_, leanS_bnd hok lv 1 _, e.symm⟩
/-- no truth lies beyond the ends of the span -/
theorem low_le {l : List Sn} (hok : ∀ s ∈ l, okS s) (h5 : l.length ≤ 5) {lv : Nat} (hlv : lv < l.length) {ws : List Int} (hb : Bnd l ws) : leF (lowS l lv) (cenF l ws lv) := by
  obtain ⟨k, k1, k2, k3⟩ := lean_low hok hb hlv
  have hbl := leanS_bnd hok lv (-1) (l.getD k zs).at_
  have h1 := found_min (exTo l lv (-1) (l.length - lv)) (fun x hx => (exTo_bd hok h5 hlv (-1) _ x hx).2.1) (l.length - lv - 1) (by rw [exTo_length]; omega) (k - lv) (by omega)
  rw [exTo_get _ _ _ _ _ (by omega)] at h1
  have e : exF l lv (-1) (k - lv) = cenF l (leanS l lv (-1) (l.getD k zs).at_) lv := by unfold exF; rw [show lv + (k - lv) = k by omega]
  rw [e] at h1
  obtain ⟨w1, hw1, e1⟩ := low_is hok hlv
  have p0 : 0 < (lowS l lv).2 := by rw [e1]; exact (cenF_pos hok hw1 hlv).1
  exact leF_trans p0 (cenF_pos hok hbl hlv).1 (cenF_pos hok hb hlv).1 h1 (cenF_le (tS_pos hok hbl hlv) (tS_pos hok hb hlv) k3)
theorem high_ge {l : List Sn} (hok : ∀ s ∈ l, okS s) (h5 : l.length ≤ 5) {lv : Nat} (hlv : lv < l.length) {ws : List Int} (hb : Bnd l ws) : leF (cenF l ws lv) (highS l lv) := by
  obtain ⟨k, k1, k2, k3⟩ := lean_high hok hb hlv
  have hbl := leanS_bnd hok lv 1 (l.getD k zs).at_
  have h1 := found_max (exTo l lv 1 (l.length - lv)) (fun x hx => (exTo_bd hok h5 hlv 1 _ x hx).2.1) (l.length - lv - 1) (by rw [exTo_length]; omega) (k - lv) (by omega)
  rw [exTo_get _ _ _ _ _ (by omega)] at h1
  have e : exF l lv 1 (k - lv) = cenF l (leanS l lv 1 (l.getD k zs).at_) lv := by unfold exF; rw [show lv + (k - lv) = k by omega]
  rw [e] at h1
  obtain ⟨w1, hw1, e1⟩ := high_is hok hlv
  have p0 : 0 < (highS l lv).2 := by rw [e1]; exact (cenF_pos hok hw1 hlv).1
  exact leF_trans (cenF_pos hok hb hlv).1 (cenF_pos hok hbl hlv).1 p0 (cenF_le (tS_pos hok hb hlv) (tS_pos hok hbl hlv) k3) h1
end Go.Proofs.Ytffblmhaoekkgaa.prp
