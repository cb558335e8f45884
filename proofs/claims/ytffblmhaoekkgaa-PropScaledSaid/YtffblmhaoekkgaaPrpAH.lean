/- PropScaled, plainly: the same levels may tip, and ends of spans are scaled. -/
import Derived.Test.YtffblmhaoekkgaaPrpAG
namespace Go.Proofs.Ytffblmhaoekkgaa.prp
set_option linter.unusedSimpArgs false
set_option linter.unusedVariables false
set_option linter.unusedSectionVars false

theorem getD_map (f : Sn → Sn) (l : List Sn) (i : Nat) (hi : i < l.length) : (l.map f).getD i zs = f (l.getD i zs) := by
  rw [getD_eq l i zs hi, getD_eq (l.map f) i zs (by rw [List.length_map]; exact hi), List.getElem_map]
theorem errP_map {l : List Sn} {f : Sn → Sn} (hE : errP l = 0) (h : ∀ s ∈ l, stErr (f s) = 0) : errP (l.map f) = 0 := by
  rw [errP_iff] at *
  refine ⟨by rw [List.length_map]; exact hE.1, fun s hs => ?_⟩
  obtain ⟨t, ht, rfl⟩ := List.mem_map.1 hs
  exact h t ht
theorem hv_err {l : List Sn} (hE : errP l = 0) : errP (l.map hv) = 0 := errP_map hE fun s hs => by
  have h0 := (stErr_iff _).1 (((errP_iff l).1 hE).2 s hs)
  rw [stErr_iff]
  unfold hv
  simp only
  omega
theorem hv_small {l : List Sn} (hsm : ∀ s ∈ l, (-1000 ≤ s.at_ ∧ s.at_ ≤ 1000) ∧ s.half ≤ 12) : ∀ s ∈ l.map hv, (-1000 ≤ s.at_ ∧ s.at_ ≤ 1000) ∧ s.half ≤ 12 ∧ s.most ≤ 4 := by
  intro s hs
  obtain ⟨t, ht, rfl⟩ := List.mem_map.1 hs
  have := hsm t ht
  unfold hv
  simp only
  omega
theorem lg_err {m : List Sn} (hE : errP m = 0) (hsm : ∀ s ∈ m, (-1000 ≤ s.at_ ∧ s.at_ ≤ 1000) ∧ s.half ≤ 12 ∧ s.most ≤ 4) {F : Int} (hF : 1 ≤ F ∧ F ≤ 50) : errP (m.map (lg F)) = 0 := errP_map hE fun s hs => by
  have h0 := (stErr_iff _).1 (((errP_iff m).1 hE).2 s hs)
  have h1 := hsm s hs
  rw [stErr_iff]
  unfold lg
  simp only
  have a1 : F * s.half ≤ 50 * s.half := Int.mul_le_mul_of_nonneg_right hF.2 (by omega)
  have a2 : 1 * s.half ≤ F * s.half := Int.mul_le_mul_of_nonneg_right hF.1 (by omega)
  have a3 : F * s.at_ ≤ F * 1000 := Int.mul_le_mul_of_nonneg_left h1.1.2 (by omega)
  have a4 : F * (-1000) ≤ F * s.at_ := Int.mul_le_mul_of_nonneg_left h1.1.1 (by omega)
  omega
theorem hy_err {m : List Sn} (hE : errP m = 0) (hsm : ∀ s ∈ m, (-1000 ≤ s.at_ ∧ s.at_ ≤ 1000) ∧ s.half ≤ 12 ∧ s.most ≤ 4) : errP (m.map hy) = 0 := errP_map hE fun s hs => by
  have h0 := (stErr_iff _).1 (((errP_iff m).1 hE).2 s hs)
  have h1 := hsm s hs
  rw [stErr_iff]
  unfold hy
  simp only
  omega

/-! all lengths a factor greater -/
section
variable {m : List Sn} {F : Int} (hF : 1 ≤ F)
include hF
theorem lg_edge {lv : Nat} (hlv : lv < m.length) (d : Int) : edgeS (m.map (lg F)) lv d = F * edgeS m lv d := by
  unfold edgeS
  by_cases h0 : lv = 0
  · rw [if_pos h0, if_pos h0, Int.mul_zero]
  · rw [if_neg h0, if_neg h0, getD_map _ _ _ (by omega)]
    unfold lg
    simp only
    rw [Int.mul_add, ← Int.mul_assoc d, Int.mul_comm d F, Int.mul_assoc]
theorem lg_mom (ws : List Int) {lv : Nat} (hlv : lv < m.length) (d : Int) : momS (m.map (lg F)) ws lv d = F * momS m ws lv d := by
  rw [momS_sum, momS_sum, lg_edge hF hlv, List.length_map, ← psum_mul _ F lv m.length (by omega)]
  refine psum_eqF _ _ _ _ fun i _ hi => ?_
  rw [getD_map _ _ _ hi]
  show ws.getD i 0 * ((F * (m.getD i zs).at_ - F * edgeS m lv d) * d) = F * (ws.getD i 0 * (((m.getD i zs).at_ - edgeS m lv d) * d))
  rw [← Int.mul_sub, Int.mul_assoc F, ← Int.mul_assoc (ws.getD i 0), Int.mul_comm (ws.getD i 0) F, Int.mul_assoc]
theorem pos_scale (x : Int) : 0 < F * x ↔ 0 < x := by
  constructor
  · intro h
    rcases Int.lt_or_le 0 x with h1 | h1
    · exact h1
    · have := Int.mul_nonpos_of_nonneg_of_nonpos (show 0 ≤ F by omega) h1; omega
  · intro h; exact Int.mul_pos (by omega) h
theorem lg_lean (lv : Nat) (d p : Int) : leanS (m.map (lg F)) lv d (F * p) = leanS m lv d p := by
  unfold leanS
  rw [List.length_map]
  refine List.map_congr_left fun i hi => ?_
  rw [getD_map _ _ _ (List.mem_range.1 hi)]
  have e : (((lg F (m.getD i zs)).at_ - F * p) * d) = F * (((m.getD i zs).at_ - p) * d) := by
    show (F * (m.getD i zs).at_ - F * p) * d = _
    rw [← Int.mul_sub, Int.mul_assoc]
  rw [e]
  have e2 : decide (0 < F * (((m.getD i zs).at_ - p) * d)) = decide (0 < ((m.getD i zs).at_ - p) * d) := by
    rw [decide_eq_decide]; exact pos_scale hF _
  rw [e2]
  rfl
theorem lg_worst {lv : Nat} (hlv : lv < m.length) (d : Int) : worstS (m.map (lg F)) lv d = worstS m lv d := by
  unfold worstS; rw [lg_edge hF hlv, lg_lean hF]
theorem lg_tip {lv : Nat} (hlv : lv < m.length) : mayTipS (m.map (lg F)) lv = mayTipS m lv := by
  unfold mayTipS
  congr 1
  funext sd
  rw [lg_worst hF hlv, lg_mom hF _ hlv, decide_eq_decide]
  exact pos_scale hF _
theorem lg_stands : standsS (m.map (lg F)) = standsS m := by
  unfold standsS
  rw [List.length_map]
  have : ∀ xs : List Nat, (∀ i ∈ xs, i < m.length) → xs.all (fun i => !mayTipS (m.map (lg F)) i) = xs.all (fun i => !mayTipS m i) := by
    intro xs
    induction xs with
    | nil => intro _; rfl
    | cons a r ih =>
      intro h
      rw [List.all_cons, List.all_cons, ih fun i hi => h i (by simp [hi]), lg_tip hF (h a (by simp))]
  exact this _ fun i hi => List.mem_range.1 hi
theorem lg_mS (ws : List Int) {lv : Nat} (hlv : lv < m.length) : mS (m.map (lg F)) ws lv = F * mS m ws lv := by
  unfold mS
  rw [List.length_map, ← psum_mul _ F lv m.length (by omega)]
  refine psum_eqF _ _ _ _ fun i _ hi => ?_
  rw [getD_map _ _ _ hi]
  show ws.getD i 0 * (F * (m.getD i zs).at_) = F * (ws.getD i 0 * (m.getD i zs).at_)
  rw [← Int.mul_assoc, Int.mul_comm (ws.getD i 0) F, Int.mul_assoc]
end
theorem first_congr {p q : Nat → Bool} : ∀ xs : List Nat, (∀ i ∈ xs, p i = q i) → firstIdx p xs = firstIdx q xs
  | [], _ => rfl
  | a :: r, h => by
    unfold firstIdx
    rw [h a (by simp), first_congr r fun i hi => h i (by simp [hi])]
/-- the same stones may tip -/
structure Same (m n : List Sn) : Prop where
  len : n.length = m.length
  e0 : errP m = 0
  e1 : errP n = 0
  tip : ∀ lv, lv < m.length → mayTipS n lv = mayTipS m lv
  st : ∀ k, standsS (n.take k) = standsS (m.take k)
theorem Same.tips {m n : List Sn} (h : Same m n) : tipsOf n = tipsOf m := by
  unfold tipsOf
  rw [h.e0, h.e1, h.len, first_congr (p := mayTipS n) (q := mayTipS m) _ fun i hi => h.tip i (List.mem_range.1 hi)]
theorem Same.lay {m n : List Sn} (h : Same m n) : layTo n n.length = layTo m m.length := by
  rw [h.len]
  have : ∀ k, layTo n k = layTo m k := fun k => by
    induction k with
    | zero => rfl
    | succ k ih =>
      show (layTo n k).or (if standsS (n.take (k + 1)) then none else some (k + 1)) = (layTo m k).or (if standsS (m.take (k + 1)) then none else some (k + 1))
      rw [ih, h.st]
  exact this _
theorem tips_case {m : List Sn} (hE : errP m = 0) : (tipsOf m).2 = 0 ∨ (tipsOf m).2 = 13 := by
  unfold tipsOf
  rw [if_neg (by simpa using hE)]
  split
  · exact .inr rfl
  · exact .inl rfl
theorem lay_case (o : Option Nat) : (layV o).2 = 0 ∨ (layV o).2 = 13 := by
  cases o with
  | none => exact .inr rfl
  | some n => exact .inl rfl
theorem lg_same {m : List Sn} (hE : errP m = 0) (hsm : ∀ s ∈ m, (-1000 ≤ s.at_ ∧ s.at_ ≤ 1000) ∧ s.half ≤ 12 ∧ s.most ≤ 4) {F : Int} (hF : 1 ≤ F ∧ F ≤ 50) : Same m (m.map (lg F)) :=
  ⟨by rw [List.length_map], hE, lg_err hE hsm hF, fun lv h => lg_tip hF.1 h, fun k => by rw [← List.map_take, lg_stands hF.1]⟩

/-! all weights twice as great -/
def dbl (ws : List Int) : List Int := ws.map fun x => 2 * x
theorem dbl_get (ws : List Int) (i : Nat) : (dbl ws).getD i 0 = 2 * ws.getD i 0 := by
  unfold dbl
  rw [List.getD_eq_getElem?_getD, List.getD_eq_getElem?_getD, List.getElem?_map]
  cases ws[i]? <;> simp
section
variable {m : List Sn}
theorem hy_edge {lv : Nat} (hlv : lv < m.length) (d : Int) : edgeS (m.map hy) lv d = edgeS m lv d := by
  unfold edgeS
  by_cases h0 : lv = 0
  · rw [if_pos h0, if_pos h0]
  · rw [if_neg h0, if_neg h0, getD_map _ _ _ (by omega)]; rfl
theorem hy_lean (lv : Nat) (d p : Int) : leanS (m.map hy) lv d p = dbl (leanS m lv d p) := by
  unfold leanS dbl
  rw [List.length_map, List.map_map]
  refine List.map_congr_left fun i hi => ?_
  rw [getD_map _ _ _ (List.mem_range.1 hi)]
  show (if decide (lv ≤ i) && decide (0 < ((m.getD i zs).at_ - p) * d) then 2 * (m.getD i zs).most else 2 * (m.getD i zs).least) = 2 * (if decide (lv ≤ i) && decide (0 < ((m.getD i zs).at_ - p) * d) then (m.getD i zs).most else (m.getD i zs).least)
  split <;> rfl
theorem hy_mom (ws : List Int) {lv : Nat} (hlv : lv < m.length) (d : Int) : momS (m.map hy) (dbl ws) lv d = 2 * momS m ws lv d := by
  rw [momS_sum, momS_sum, hy_edge hlv, List.length_map, ← psum_mul _ 2 lv m.length (by omega)]
  refine psum_eqF _ _ _ _ fun i _ hi => ?_
  rw [getD_map _ _ _ hi, dbl_get]
  show 2 * ws.getD i 0 * (((m.getD i zs).at_ - edgeS m lv d) * d) = 2 * (ws.getD i 0 * (((m.getD i zs).at_ - edgeS m lv d) * d))
  rw [Int.mul_assoc]
theorem hy_tip {lv : Nat} (hlv : lv < m.length) : mayTipS (m.map hy) lv = mayTipS m lv := by
  unfold mayTipS
  congr 1
  funext sd
  have e : worstS (m.map hy) lv sd = dbl (worstS m lv sd) := by unfold worstS; rw [hy_edge hlv, hy_lean]
  rw [e, hy_mom _ hlv, decide_eq_decide]
  omega
theorem hy_stands (m : List Sn) : standsS (m.map hy) = standsS m := by
  unfold standsS
  rw [List.length_map]
  have : ∀ xs : List Nat, (∀ i ∈ xs, i < m.length) → xs.all (fun i => !mayTipS (m.map hy) i) = xs.all (fun i => !mayTipS m i) := by
    intro xs
    induction xs with
    | nil => intro _; rfl
    | cons a r ih =>
      intro h
      rw [List.all_cons, List.all_cons, ih fun i hi => h i (by simp [hi]), hy_tip (h a (by simp))]
  exact this _ fun i hi => List.mem_range.1 hi
theorem hy_same {m : List Sn} (hE : errP m = 0) (hsm : ∀ s ∈ m, (-1000 ≤ s.at_ ∧ s.at_ ≤ 1000) ∧ s.half ≤ 12 ∧ s.most ≤ 4) : Same m (m.map hy) :=
  ⟨by rw [List.length_map], hE, hy_err hE hsm, fun lv h => hy_tip h, fun k => by rw [← List.map_take, hy_stands]⟩
theorem hy_mS (ws : List Int) {lv : Nat} (hlv : lv < m.length) : mS (m.map hy) (dbl ws) lv = 2 * mS m ws lv := by
  unfold mS
  rw [List.length_map, ← psum_mul _ 2 lv m.length (by omega)]
  refine psum_eqF _ _ _ _ fun i _ hi => ?_
  rw [getD_map _ _ _ hi, dbl_get]
  show 2 * ws.getD i 0 * (m.getD i zs).at_ = 2 * (ws.getD i 0 * (m.getD i zs).at_)
  rw [Int.mul_assoc]
theorem hy_tS (ws : List Int) {lv : Nat} (hlv : lv < m.length) : tS (m.map hy) (dbl ws) lv = 2 * tS m ws lv := by
  unfold tS
  rw [List.length_map, ← psum_mul _ 2 lv m.length (by omega)]
  exact psum_eqF _ _ _ _ fun i _ hi => dbl_get ws i
end
theorem low_scale {a b c e : Int} (hb : 0 < b) (he : 0 < e) (h : a * e = c * b) : (lowN a b, lowD a b) = (lowN c e, lowD c e) := by
  have e1 := low_val (a := a) hb
  have e2 := low_val (a := c) he
  have p1 := (low_bd (a := a) hb).2.1
  have p2 := (low_bd (a := c) he).2.1
  have l1 : ∀ {a b : Int} (hb : 0 < b), leF (lowN a b, lowD a b) (a, b) ∧ leF (a, b) (lowN a b, lowD a b) := fun {a b} hb => by
    have := low_val (a := a) hb
    unfold leF; simp only; omega
  have l2 : leF (a, b) (c, e) ∧ leF (c, e) (a, b) := by unfold leF; simp only; omega
  refine low_eq (x := (lowN a b, lowD a b)) (y := (lowN c e, lowD c e)) p1 p2 (low_gcd hb) (low_gcd he) ?_ ?_
  · exact leF_trans (y := (a, b)) p1 hb p2 (l1 hb).1 (leF_trans (y := (c, e)) hb he p2 l2.1 (l1 he).2)
  · exact leF_trans (y := (c, e)) p2 he p1 (l1 he).1 (leF_trans (y := (a, b)) he hb p1 l2.2 (l1 hb).2)
/-- a fraction a factor greater, in lowest terms -/
def frS (F : Int) (x : Fr) : Fr := (lowN (F * x.1) x.2, lowD (F * x.1) x.2)
theorem frS_low (F : Int) {a b : Int} (hb : 0 < b) : (lowN (F * a) b, lowD (F * a) b) = frS F (lowN a b, lowD a b) := by
  unfold frS
  have h := low_val (a := a) hb
  have p := (low_bd (a := a) hb).2.1
  refine low_scale hb p ?_
  simp only
  rw [Int.mul_assoc, Int.mul_assoc, h]
theorem lg_cen {m : List Sn} (hok : ∀ s ∈ m, okS s) {F : Int} (hF : 1 ≤ F) {ws : List Int} (hb : Bnd m ws) {lv : Nat} (hlv : lv < m.length) : cenF (m.map (lg F)) ws lv = frS F (cenF m ws lv) := by
  rw [cenF_eq, cenF_eq, lg_mS hF _ hlv]
  have e : tS (m.map (lg F)) ws lv = tS m ws lv := by unfold tS; rw [List.length_map]
  rw [e]
  exact frS_low F (tS_pos hok hb hlv)
theorem hy_cen {m : List Sn} (hok : ∀ s ∈ m, okS s) {ws : List Int} (hb : Bnd m ws) {lv : Nat} (hlv : lv < m.length) : cenF (m.map hy) (dbl ws) lv = cenF m ws lv := by
  rw [cenF_eq, cenF_eq, hy_mS _ hlv, hy_tS _ hlv]
  have h := tS_pos hok hb hlv
  refine low_scale (by omega) h ?_
  rw [Int.mul_assoc, Int.mul_comm 2, Int.mul_comm 2, Int.mul_assoc]
theorem frS_le {F : Int} (hF : 1 ≤ F) {x y : Fr} (hx : 0 < x.2) (hy : 0 < y.2) : leF (frS F x) (frS F y) ↔ leF x y := by
  have l1 : ∀ {a b : Int} (hb : 0 < b), leF (lowN a b, lowD a b) (a, b) ∧ leF (a, b) (lowN a b, lowD a b) := fun {a b} hb => by
    have := low_val (a := a) hb
    unfold leF; simp only; omega
  have px := (low_bd (a := F * x.1) hx).2.1
  have py := (low_bd (a := F * y.1) hy).2.1
  have key : leF (F * x.1, x.2) (F * y.1, y.2) ↔ leF x y := by
    unfold leF
    simp only
    rw [Int.mul_assoc, Int.mul_assoc]
    constructor
    · intro h; exact Int.le_of_mul_le_mul_left h (by omega)
    · intro h; exact Int.mul_le_mul_of_nonneg_left h (by omega)
  constructor
  · intro h
    exact key.1 (leF_trans (y := frS F x) hx px hy (l1 hx).2 (leF_trans (y := frS F y) px py hy h (l1 hy).1))
  · intro h
    exact leF_trans (y := (F * x.1, x.2)) px hx py (l1 hx).1 (leF_trans (y := (F * y.1, y.2)) hx hy py (key.2 h) (l1 hy).2)
instance (x y : Fr) : Decidable (leF x y) := inferInstanceAs (Decidable (x.1 * y.2 ≤ y.1 * x.2))
theorem bel_le (x y : Fr) : belF x y = !decide (leF y x) := by
  show decide (x.1 * y.2 < y.1 * x.2) = !decide (y.1 * x.2 ≤ x.1 * y.2)
  rw [← decide_not, decide_eq_decide]; omega
theorem abv_le (x y : Fr) : abvF x y = !decide (leF x y) := by
  show decide (y.1 * x.2 < x.1 * y.2) = !decide (x.1 * y.2 ≤ y.1 * x.2)
  rw [← decide_not, decide_eq_decide]; omega
theorem found_map (R : Fr → Fr → Bool) (f : Fr → Fr) (xs : List Fr) (hp : ∀ x ∈ xs, ∀ y ∈ xs, R (f x) (f y) = R x y) : ∀ k, k < xs.length → foundTo R (xs.map f) k = f (foundTo R xs k)
  | 0, hk => by
    show (xs.map f).getD 0 (0, 0) = f (xs.getD 0 (0, 0))
    rw [getD_eq xs 0 _ hk, getD_eq (xs.map f) 0 _ (by simpa using hk), List.getElem_map]
  | k + 1, hk => by
    have ih := found_map R f xs hp k (by omega)
    have e : (xs.map f).getD (k + 1) (0, 0) = f (xs.getD (k + 1) (0, 0)) := by
      rw [getD_eq xs (k + 1) _ hk, getD_eq (xs.map f) (k + 1) _ (by simpa using hk), List.getElem_map]
    show (if R ((xs.map f).getD (k + 1) (0, 0)) (foundTo R (xs.map f) k) then (xs.map f).getD (k + 1) (0, 0) else foundTo R (xs.map f) k) = f (if R (xs.getD (k + 1) (0, 0)) (foundTo R xs k) then xs.getD (k + 1) (0, 0) else foundTo R xs k)
    rw [ih, e, hp _ (getD_mem xs (k + 1) _ hk) _ (foundTo_mem R xs k (by omega))]
    split <;> rfl
theorem lg_exTo {m : List Sn} (hok : ∀ s ∈ m, okS s) {F : Int} (hF : 1 ≤ F) {lv : Nat} (hlv : lv < m.length) (d : Int) : exTo (m.map (lg F)) lv d (m.length - lv) = (exTo m lv d (m.length - lv)).map (frS F) := by
  unfold exTo
  rw [List.map_map]
  refine List.map_congr_left fun j hj => ?_
  have hj := List.mem_range.1 hj
  show exF (m.map (lg F)) lv d j = frS F (exF m lv d j)
  unfold exF
  rw [getD_map _ _ _ (by omega)]
  have e : leanS (m.map (lg F)) lv d (lg F (m.getD (lv + j) zs)).at_ = leanS m lv d (m.getD (lv + j) zs).at_ := lg_lean hF lv d _
  rw [e]
  exact lg_cen hok hF (leanS_bnd hok lv d _) hlv
theorem hy_exTo {m : List Sn} (hok : ∀ s ∈ m, okS s) {lv : Nat} (hlv : lv < m.length) (d : Int) : exTo (m.map hy) lv d (m.length - lv) = exTo m lv d (m.length - lv) := by
  unfold exTo
  refine List.map_congr_left fun j hj => ?_
  have hj := List.mem_range.1 hj
  unfold exF
  rw [getD_map _ _ _ (by omega)]
  have e : leanS (m.map hy) lv d (hy (m.getD (lv + j) zs)).at_ = dbl (leanS m lv d (m.getD (lv + j) zs).at_) := hy_lean lv d _
  rw [e]
  exact hy_cen hok (leanS_bnd hok lv d _) hlv
theorem lg_low {m : List Sn} (hok : ∀ s ∈ m, okS s) (h5 : m.length ≤ 5) {F : Int} (hF : 1 ≤ F) {lv : Nat} (hlv : lv < m.length) : lowS (m.map (lg F)) lv = frS F (lowS m lv) := by
  unfold lowS
  rw [List.length_map, lg_exTo hok hF hlv]
  have hb := exTo_bd hok h5 hlv (-1) (m.length - lv)
  refine found_map belF _ _ (fun x hx y hy => ?_) _ (by rw [exTo_length]; omega)
  rw [bel_le, bel_le, decide_eq_decide.2 (frS_le hF (hb y hy).2.1 (hb x hx).2.1)]
theorem lg_high {m : List Sn} (hok : ∀ s ∈ m, okS s) (h5 : m.length ≤ 5) {F : Int} (hF : 1 ≤ F) {lv : Nat} (hlv : lv < m.length) : highS (m.map (lg F)) lv = frS F (highS m lv) := by
  unfold highS
  rw [List.length_map, lg_exTo hok hF hlv]
  have hb := exTo_bd hok h5 hlv 1 (m.length - lv)
  refine found_map abvF _ _ (fun x hx y hy => ?_) _ (by rw [exTo_length]; omega)
  rw [abv_le, abv_le, decide_eq_decide.2 (frS_le hF (hb x hx).2.1 (hb y hy).2.1)]
theorem hy_low {m : List Sn} (hok : ∀ s ∈ m, okS s) {lv : Nat} (hlv : lv < m.length) : lowS (m.map hy) lv = lowS m lv := by
  unfold lowS; rw [List.length_map, hy_exTo hok hlv]
theorem hy_high {m : List Sn} (hok : ∀ s ∈ m, okS s) {lv : Nat} (hlv : lv < m.length) : highS (m.map hy) lv = highS m lv := by
  unfold highS; rw [List.length_map, hy_exTo hok hlv]
end Go.Proofs.Ytffblmhaoekkgaa.prp
