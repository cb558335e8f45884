/- Plain geometry of whole numbers: directions, lines that tell two lists of places apart, four places, hulls. -/

namespace NV
/-- cross product, and dot product -/
def cr (u v : Int × Int) : Int := u.1 * v.2 - u.2 * v.1
def dt (u v : Int × Int) : Int := u.1 * v.1 + u.2 * v.2

theorem cr_self (u : Int × Int) : cr u u = 0 := by simp only [cr]; grind
theorem cr_swap (u v : Int × Int) : cr v u = - cr u v := by simp only [cr]; grind

theorem cr_id (n u v w : Int × Int) : dt n v * cr u w = dt n u * cr v w + dt n w * cr u v := by
  simp only [cr, dt]; grind

theorem cr_trans {n u v w : Int × Int} (hu : dt n u < 0) (hv : dt n v < 0) (hw : dt n w < 0) (h1 : 0 ≤ cr u v) (h2 : 0 ≤ cr v w) : 0 ≤ cr u w := by
  have e := cr_id n u v w
  apply Classical.byContradiction
  intro h
  have h3 : 0 < dt n v * cr u w := Int.mul_pos_of_neg_of_neg hv (by omega)
  have h4 : dt n u * cr v w ≤ 0 := Int.mul_nonpos_of_nonpos_of_nonneg (by omega) h2
  have h5 : dt n w * cr u v ≤ 0 := Int.mul_nonpos_of_nonpos_of_nonneg (by omega) h1
  omega

/-- of vectors in an open half plane one is the first in the order of directions -/
theorem exists_first {n : Int × Int} : ∀ (D : List (Int × Int)), D ≠ [] → (∀ v ∈ D, dt n v < 0) → ∃ u ∈ D, ∀ v ∈ D, 0 ≤ cr u v
  | [], h, _ => absurd rfl h
  | [a], _, _ => ⟨a, by simp, by simp [cr_self]⟩
  | a :: b :: l, _, hn => by
    obtain ⟨m, hm, hmin⟩ := exists_first (b :: l) (by simp) (fun v hv => hn v (List.mem_cons_of_mem _ hv))
    have ha := hn a (by simp)
    have hm' := hn m (List.mem_cons_of_mem _ hm)
    by_cases h : 0 ≤ cr a m
    · refine ⟨a, by simp, fun c hc => ?_⟩
      rcases List.mem_cons.1 hc with rfl | hc'
      · rw [cr_self]; exact Int.le_refl _
      · exact cr_trans ha hm' (hn c hc) h (hmin c hc')
    · refine ⟨m, List.mem_cons_of_mem _ hm, fun c hc => ?_⟩
      rcases List.mem_cons.1 hc with rfl | hc'
      · rw [cr_swap]; omega
      · exact hmin c hc'

theorem exists_last {n : Int × Int} (D : List (Int × Int)) (hD : D ≠ []) (hn : ∀ v ∈ D, dt n v < 0) : ∃ u ∈ D, ∀ v ∈ D, 0 ≤ cr v u := by
  obtain ⟨u, hu, h⟩ := exists_first (n := (n.2, n.1)) (D.map fun v => (v.2, v.1)) (by simpa using hD) (by
    intro v hv
    obtain ⟨x, hx, rfl⟩ := List.mem_map.1 hv
    have := hn x hx
    simp only [dt] at *; omega)
  obtain ⟨x, hx, rfl⟩ := List.mem_map.1 hu
  refine ⟨x, hx, fun v hv => ?_⟩
  have := h (v.2, v.1) (List.mem_map.2 ⟨v, hv, rfl⟩)
  simp only [cr] at *
  have e1 : v.fst * x.snd = x.snd * v.fst := Int.mul_comm _ _
  have e2 : v.snd * x.fst = x.fst * v.snd := Int.mul_comm _ _
  omega

/-- the direction across the difference of the first and the last one -/
def acr (u w : Int × Int) : Int × Int := if cr u w = 0 then (-u.1, -u.2) else (u.2 - w.2, w.1 - u.1)

theorem same_side {n u v : Int × Int} (hu : dt n u < 0) (hv : dt n v < 0) (h : cr u v = 0) : 0 < dt u v := by
  have e : dt u u * dt n v = dt u v * dt n u := by
    simp only [dt, cr] at *; grind
  have hne : 0 < dt u u := by
    have h0 : ¬(u.1 = 0 ∧ u.2 = 0) := by
      rintro ⟨a, b⟩; simp only [dt, a, b] at hu; simp at hu
    simp only [dt]
    have a1 : 0 ≤ u.1 * u.1 := by rcases Int.le_total 0 u.1 with h | h; exact Int.mul_nonneg h h; exact Int.mul_nonneg_of_nonpos_of_nonpos h h
    have a2 : 0 ≤ u.2 * u.2 := by rcases Int.le_total 0 u.2 with h | h; exact Int.mul_nonneg h h; exact Int.mul_nonneg_of_nonpos_of_nonpos h h
    have a3 : ¬(u.1 * u.1 = 0 ∧ u.2 * u.2 = 0) := by
      rintro ⟨a, b⟩
      exact h0 ⟨(Int.mul_eq_zero.1 a).elim id id, (Int.mul_eq_zero.1 b).elim id id⟩
    omega
  have h3 : dt u u * dt n v < 0 := Int.mul_neg_of_pos_of_neg hne hv
  apply Classical.byContradiction
  intro hh
  have : 0 ≤ dt u v * dt n u := Int.mul_nonneg_of_nonpos_of_nonpos (by omega) (by omega)
  omega

theorem acr_neg {n u w v : Int × Int} (hu : dt n u < 0) (hw : dt n w < 0) (hv : dt n v < 0) (huw : 0 ≤ cr u w) (h1 : 0 ≤ cr u v) (h2 : 0 ≤ cr v w) : dt (acr u w) v < 0 := by
  unfold acr
  have e := cr_id n u v w
  split
  · rename_i h0
    rw [h0] at e
    have h4 : dt n u * cr v w ≤ 0 := Int.mul_nonpos_of_nonpos_of_nonneg (by omega) h2
    have h5 : dt n w * cr u v ≤ 0 := Int.mul_nonpos_of_nonpos_of_nonneg (by omega) h1
    have h6 : dt n w * cr u v = 0 := by omega
    have h7 : cr u v = 0 := by
      rcases Int.mul_eq_zero.1 h6 with h | h
      · omega
      · exact h
    have := same_side hu hv h7
    have e3 : dt (-u.1, -u.2) v = - dt u v := by simp only [dt]; grind
    omega
  · have e1 : dt (u.2 - w.2, w.1 - u.1) u = - cr u w := by simp only [cr, dt]; grind
    have e2 : dt (u.2 - w.2, w.1 - u.1) w = - cr u w := by simp only [cr, dt]; grind
    have e3 : cr u w * dt (u.2 - w.2, w.1 - u.1) v = dt (u.2 - w.2, w.1 - u.1) u * cr v w + dt (u.2 - w.2, w.1 - u.1) w * cr u v := by simp only [cr, dt]; grind
    rw [e1, e2] at e3
    have h3 : 0 < cr u w := by omega
    apply Classical.byContradiction
    intro hh
    have p0 : 0 ≤ cr u w * dt (u.2 - w.2, w.1 - u.1) v := Int.mul_nonneg huw (by omega)
    have p1 : 0 ≤ cr u w * cr v w := Int.mul_nonneg huw h2
    have p2 : 0 ≤ cr u w * cr u v := Int.mul_nonneg huw h1
    rw [Int.neg_mul, Int.neg_mul] at e3
    have z1 : cr u w * cr v w = 0 := by omega
    have z2 : cr u w * cr u v = 0 := by omega
    have y1 : cr v w = 0 := by rcases Int.mul_eq_zero.1 z1 with h | h; omega; exact h
    have y2 : cr u v = 0 := by rcases Int.mul_eq_zero.1 z2 with h | h; omega; exact h
    rw [y1, y2] at e
    have : dt n v * cr u w < 0 := Int.mul_neg_of_neg_of_pos hv h3
    omega

/-- the direction that is tilted a little from the one along the line through the first -/
theorem tilt_neg {n u v : Int × Int} (hu : dt n u < 0) (hv : dt n v < 0) (h1 : 0 ≤ cr u v) (hb : -100 ≤ dt u v) : dt (300 * u.2 - u.1, -(300 * u.1) - u.2) v < 0 := by
  have e : dt (300 * u.2 - u.1, -(300 * u.1) - u.2) v = -(300 * cr u v) - dt u v := by simp only [cr, dt]; grind
  rw [e]
  by_cases h0 : cr u v = 0
  · have := same_side hu hv h0; omega
  · omega
end NV
namespace NV
/-- the places of one list come before those of another one in a direction -/
def SepD (n : Int × Int) (A B : List (Int × Int)) : Prop := ∀ p ∈ A, ∀ q ∈ B, dt n p < dt n q
def sub (p q : Int × Int) : Int × Int := (p.1 - q.1, p.2 - q.2)
def inG (p : Int × Int) : Prop := (0 ≤ p.1 ∧ p.1 ≤ 6) ∧ 0 ≤ p.2 ∧ p.2 ≤ 6
def tiltD (w : Int × Int) : Int × Int := (300 * w.2 - w.1, -(300 * w.1) - w.2)

theorem dt_sub (n p q : Int × Int) : dt n (sub p q) = dt n p - dt n q := by simp only [dt, sub]; grind

theorem prod6 {x y : Int} (h1 : -6 ≤ x) (h2 : x ≤ 6) (h3 : -6 ≤ y) (h4 : y ≤ 6) : -36 ≤ x * y ∧ x * y ≤ 36 := by
  have e1 : 0 ≤ (6 - x) * (6 - y) := Int.mul_nonneg (by omega) (by omega)
  have e2 : 0 ≤ (6 + x) * (6 + y) := Int.mul_nonneg (by omega) (by omega)
  have e3 : 0 ≤ (6 - x) * (6 + y) := Int.mul_nonneg (by omega) (by omega)
  have e4 : 0 ≤ (6 + x) * (6 - y) := Int.mul_nonneg (by omega) (by omega)
  have r1 : (6 - x) * (6 - y) = 36 - 6 * x - 6 * y + x * y := by grind
  have r2 : (6 + x) * (6 + y) = 36 + 6 * x + 6 * y + x * y := by grind
  have r3 : (6 - x) * (6 + y) = 36 - 6 * x + 6 * y - x * y := by grind
  have r4 : (6 + x) * (6 - y) = 36 + 6 * x - 6 * y - x * y := by grind
  omega

theorem sub_in {p q : Int × Int} (hp : inG p) (hq : inG q) : (-6 ≤ (sub p q).1 ∧ (sub p q).1 ≤ 6) ∧ -6 ≤ (sub p q).2 ∧ (sub p q).2 ≤ 6 := by
  obtain ⟨⟨a, b⟩, c, d⟩ := hp
  obtain ⟨⟨e, f⟩, g, h⟩ := hq
  simp only [sub]
  omega

theorem dt_big {u v : Int × Int} (hu : (-6 ≤ u.1 ∧ u.1 ≤ 6) ∧ -6 ≤ u.2 ∧ u.2 ≤ 6) (hv : (-6 ≤ v.1 ∧ v.1 ≤ 6) ∧ -6 ≤ v.2 ∧ v.2 ≤ 6) : -100 ≤ dt u v := by
  have h1 := prod6 hu.1.1 hu.1.2 hv.1.1 hv.1.2
  have h2 := prod6 hu.2.1 hu.2.2 hv.2.1 hv.2.2
  simp only [dt]
  omega

/-- lists that can be told apart are told apart by a slope tilted from a line through one place of each -/
theorem sep_tilt {n : Int × Int} {A B : List (Int × Int)} (hA : A ≠ []) (hB : B ≠ []) (hs : SepD n A B) (ha : ∀ p ∈ A, inG p) (hb : ∀ q ∈ B, inG q) :
    ∃ p ∈ A, ∃ q ∈ B, SepD (tiltD (sub p q)) A B := by
  have hmem : ∀ v, v ∈ (A.flatMap fun p => B.map fun q => sub p q) ↔ ∃ p ∈ A, ∃ q ∈ B, sub p q = v := by
    intro v
    simp only [List.mem_flatMap, List.mem_map]
  have hneg : ∀ v ∈ (A.flatMap fun p => B.map fun q => sub p q), dt n v < 0 := by
    intro v hv
    obtain ⟨p, hp, q, hq, rfl⟩ := (hmem v).1 hv
    rw [dt_sub]
    have := hs p hp q hq
    omega
  have hne : (A.flatMap fun p => B.map fun q => sub p q) ≠ [] := by
    obtain ⟨p, A', rfl⟩ := List.exists_cons_of_ne_nil hA
    obtain ⟨q, B', rfl⟩ := List.exists_cons_of_ne_nil hB
    exact List.ne_nil_of_mem ((hmem _).2 ⟨p, by simp, q, by simp, rfl⟩)
  obtain ⟨u, hu, hmin⟩ := exists_first _ hne hneg
  obtain ⟨p, hp, q, hq, rfl⟩ := (hmem u).1 hu
  refine ⟨p, hp, q, hq, fun p' hp' q' hq' => ?_⟩
  have hv := (hmem (sub p' q')).2 ⟨p', hp', q', hq', rfl⟩
  have h := tilt_neg (hneg _ hu) (hneg _ hv) (hmin _ hv) (dt_big (sub_in (ha p hp) (hb q hq)) (sub_in (ha p' hp') (hb q' hq')))
  have e := dt_sub (tiltD (sub p q)) p' q'
  have h' : dt (tiltD (sub p q)) (sub p' q') < 0 := h
  omega

theorem ex_max {α : Type} (f : α → Int) : ∀ (l : List α), l ≠ [] → ∃ a ∈ l, ∀ b ∈ l, f b ≤ f a
  | [], h => absurd rfl h
  | [a], _ => ⟨a, by simp, by simp⟩
  | a :: b :: l, _ => by
    obtain ⟨m, hm, hmin⟩ := ex_max f (b :: l) (by simp)
    by_cases h : f m ≤ f a
    · exact ⟨a, by simp, fun c hc => by
        rcases List.mem_cons.1 hc with rfl | hc
        · exact Int.le_refl _
        · exact Int.le_trans (hmin c hc) h⟩
    · exact ⟨m, List.mem_cons_of_mem _ hm, fun c hc => by
        rcases List.mem_cons.1 hc with rfl | hc
        · omega
        · exact hmin c hc⟩

theorem dt_pos_ne {n w : Int × Int} (h : 0 < dt n w) : w ≠ (0, 0) := by
  rintro rfl
  simp [dt] at h

theorem dt_self_nonneg (w : Int × Int) : 0 ≤ dt w w := by
  simp only [dt]
  have a1 : 0 ≤ w.1 * w.1 := by rcases Int.le_total 0 w.1 with h | h; exact Int.mul_nonneg h h; exact Int.mul_nonneg_of_nonpos_of_nonpos h h
  have a2 : 0 ≤ w.2 * w.2 := by rcases Int.le_total 0 w.2 with h | h; exact Int.mul_nonneg h h; exact Int.mul_nonneg_of_nonpos_of_nonpos h h
  omega

theorem dt_self_pos {n w : Int × Int} (h : dt n w ≠ 0) : 0 < dt w w := by
  have h0 := dt_self_nonneg w
  have a1 : 0 ≤ w.1 * w.1 := by rcases Int.le_total 0 w.1 with h | h; exact Int.mul_nonneg h h; exact Int.mul_nonneg_of_nonpos_of_nonpos h h
  have a2 : 0 ≤ w.2 * w.2 := by rcases Int.le_total 0 w.2 with h | h; exact Int.mul_nonneg h h; exact Int.mul_nonneg_of_nonpos_of_nonpos h h
  apply Classical.byContradiction
  intro hn
  have e : dt w w = 0 := by omega
  simp only [dt] at e
  have z1 : w.1 * w.1 = 0 := by omega
  have z2 : w.2 * w.2 = 0 := by omega
  have y1 : w.1 = 0 := (Int.mul_eq_zero.1 z1).elim id id
  have y2 : w.2 = 0 := (Int.mul_eq_zero.1 z2).elim id id
  apply h
  simp [dt, y1, y2]

/-- lists that can be told apart are told apart by slopes of at most 6 -/
theorem sep_small {n : Int × Int} {A B : List (Int × Int)} (hA : A ≠ []) (hB : B ≠ []) (hs : SepD n A B) (ha : ∀ p ∈ A, inG p) (hb : ∀ q ∈ B, inG q) :
    ∃ m : Int × Int, ((-6 ≤ m.1 ∧ m.1 ≤ 6) ∧ -6 ≤ m.2 ∧ m.2 ≤ 6) ∧ m ≠ (0, 0) ∧ SepD m A B := by
  obtain ⟨p, hp, hpm⟩ := ex_max (fun x => dt n x) A hA
  obtain ⟨q, hq, hqm⟩ := ex_max (fun x => - dt n x) B hB
  have hw0 : 0 < dt n (sub q p) := by
    rw [dt_sub]
    have := hs p hp q hq
    omega
  have hwb := sub_in (hb q hq) (ha p hp)
  generalize hw : sub q p = w at hw0 hwb
  -- what keeps p the last of A, and q the first of B
  have key : ∀ m : Int × Int, 0 < dt m w → (∀ a ∈ A, 0 ≤ dt m (sub p a)) → (∀ b ∈ B, 0 ≤ dt m (sub b q)) → SepD m A B := by
    intro m h1 h2 h3 a haa b hbb
    have e1 := h2 a haa
    have e2 := h3 b hbb
    rw [dt_sub] at e1 e2
    rw [← hw, dt_sub] at h1
    omega
  have hE : ∀ e, e ∈ (A.map fun a => sub p a) ++ (B.map fun b => sub b q) → 0 ≤ dt n e ∧ ((-6 ≤ e.1 ∧ e.1 ≤ 6) ∧ -6 ≤ e.2 ∧ e.2 ≤ 6) := by
    intro e he
    rcases List.mem_append.1 he with h | h
    · obtain ⟨a, h1, rfl⟩ := List.mem_map.1 h
      refine ⟨?_, sub_in (ha p hp) (ha a h1)⟩
      rw [dt_sub]
      have := hpm a h1
      omega
    · obtain ⟨b, h1, rfl⟩ := List.mem_map.1 h
      refine ⟨?_, sub_in (hb b h1) (hb q hq)⟩
      rw [dt_sub]
      have := hqm b h1
      omega
  have key2 : ∀ m : Int × Int, 0 < dt m w → (∀ e ∈ (A.map fun a => sub p a) ++ (B.map fun b => sub b q), 0 ≤ dt m e) → SepD m A B := fun m h1 h2 =>
    key m h1 (fun a h => h2 _ (List.mem_append_left _ (List.mem_map.2 ⟨a, h, rfl⟩))) (fun b h => h2 _ (List.mem_append_right _ (List.mem_map.2 ⟨b, h, rfl⟩)))
  generalize (A.map fun a => sub p a) ++ (B.map fun b => sub b q) = E at hE key2
  by_cases hF : (E.filter fun e => decide (dt w e < 0)) = []
  · refine ⟨w, hwb, dt_pos_ne hw0, key2 w (dt_self_pos (n := n) (by omega)) fun e he => ?_⟩
    have := List.filter_eq_nil_iff.1 hF e he
    simp only [decide_eq_true_eq] at this
    omega
  · obtain ⟨v0, hv0, hmin⟩ := exists_first (n := (-1, 0)) ((E.filter fun e => decide (dt w e < 0)).map fun e => (- dt w e, dt n e)) (by simpa using hF) (by
      intro v hv
      obtain ⟨e, he, rfl⟩ := List.mem_map.1 hv
      obtain ⟨_, h2⟩ := List.mem_filter.1 he
      simp only [decide_eq_true_eq] at h2
      simp only [dt] at h2 ⊢
      omega)
    obtain ⟨e0, he0, rfl⟩ := List.mem_map.1 hv0
    obtain ⟨he0, hneg⟩ := List.mem_filter.1 he0
    simp only [decide_eq_true_eq] at hneg
    obtain ⟨hn0, hb0⟩ := hE e0 he0
    -- the direction between n and w across e0
    have hd : ∀ x, dt ((- dt w e0) * n.1 + dt n e0 * w.1, (- dt w e0) * n.2 + dt n e0 * w.2) x = (- dt w e0) * dt n x + dt n e0 * dt w x := by
      intro x
      generalize - dt w e0 = s
      generalize dt n e0 = t
      simp only [dt]; grind
    generalize ((- dt w e0) * n.1 + dt n e0 * w.1, (- dt w e0) * n.2 + dt n e0 * w.2) = d at hd
    have hde : ∀ e ∈ E, 0 ≤ dt d e := by
      intro e he
      rw [hd]
      by_cases hlt : dt w e < 0
      · have := hmin (- dt w e, dt n e) (List.mem_map.2 ⟨e, List.mem_filter.2 ⟨he, by simpa using hlt⟩, rfl⟩)
        simp only [cr] at this
        have e1 : dt n e0 * -dt w e = -(dt n e0 * dt w e) := Int.mul_neg _ _
        omega
      · have h1 : 0 ≤ (- dt w e0) * dt n e := Int.mul_nonneg (by omega) (hE e he).1
        have h2 : 0 ≤ dt n e0 * dt w e := Int.mul_nonneg hn0 (by omega)
        omega
    have hdw : 0 < dt d w := by
      rw [hd]
      have h1 : 0 < (- dt w e0) * dt n w := Int.mul_pos (by omega) hw0
      have h2 : 0 ≤ dt n e0 * dt w w := Int.mul_nonneg hn0 (dt_self_nonneg w)
      omega
    have hd0 : dt d e0 = 0 := by
      rw [hd]
      have e1 : -dt w e0 * dt n e0 = -(dt w e0 * dt n e0) := Int.neg_mul _ _
      have e2 : dt n e0 * dt w e0 = dt w e0 * dt n e0 := Int.mul_comm _ _
      omega
    have hq0 : 0 < dt e0 e0 := dt_self_pos (n := w) (by omega)
    have hlag : ∀ x, cr e0 d * cr e0 x = dt e0 e0 * dt d x := by
      intro x
      have : cr e0 d * cr e0 x = dt e0 e0 * dt d x - dt d e0 * dt e0 x := by simp only [cr, dt]; grind
      rw [this, hd0]
      simp
    have hcw : 0 < cr e0 d * cr e0 w := by rw [hlag]; exact Int.mul_pos hq0 hdw
    have hce : ∀ e ∈ E, 0 ≤ cr e0 d * cr e0 e := fun e he => by rw [hlag]; exact Int.mul_nonneg (by omega) (hde e he)
    have hc0 : cr e0 d ≠ 0 := by
      intro h
      rw [h] at hcw
      simp at hcw
    have hr1 : ∀ x, dt (-e0.2, e0.1) x = cr e0 x := by intro x; simp only [cr, dt]; grind
    have hr2 : ∀ x, dt (e0.2, -e0.1) x = - cr e0 x := by intro x; simp only [cr, dt]; grind
    have hne : ¬(e0.1 = 0 ∧ e0.2 = 0) := by
      rintro ⟨h1, h2⟩
      simp [dt, h1, h2] at hq0
    have hpn : ∀ {c x : Int}, 0 < c → 0 ≤ c * x → 0 ≤ x := fun hc hx => by
      apply Classical.byContradiction
      intro h
      have := Int.mul_neg_of_pos_of_neg hc (Int.not_le.1 h)
      omega
    have hpp : ∀ {c x : Int}, 0 < c → 0 < c * x → 0 < x := fun hc hx => by
      apply Classical.byContradiction
      intro h
      have := Int.mul_nonpos_of_nonneg_of_nonpos (Int.le_of_lt hc) (Int.not_lt.1 h)
      omega
    rcases Int.lt_or_gt_of_ne hc0 with hc | hc
    · refine ⟨(e0.2, -e0.1), ⟨⟨hb0.2.1, hb0.2.2⟩, by have := hb0.1.2; simp only; omega, by have := hb0.1.1; simp only; omega⟩, fun h => hne ?_, key2 _ ?_ fun e he => ?_⟩
      · injection h with h1 h2
        omega
      · rw [hr2]
        refine hpp (c := - cr e0 d) (by omega) ?_
        rw [Int.neg_mul_neg]; exact hcw
      · rw [hr2]
        refine hpn (c := - cr e0 d) (by omega) ?_
        rw [Int.neg_mul_neg]; exact hce e he
    · refine ⟨(-e0.2, e0.1), ⟨⟨by have := hb0.2.2; simp only; omega, by have := hb0.2.1; simp only; omega⟩, hb0.1.1, hb0.1.2⟩, fun h => hne ?_, key2 _ ?_ fun e he => ?_⟩
      · injection h with h1 h2
        omega
      · rw [hr1]
        exact hpp hc hcw
      · rw [hr1]
        exact hpn hc (hce e he)

/-! four places -/
theorem sep_swap {n : Int × Int} {A B : List (Int × Int)} (h : SepD n A B) : SepD (-n.1, -n.2) B A := by
  intro p hp q hq
  have := h q hq p hp
  simp only [dt] at *
  have e1 : -n.1 * p.1 = -(n.1 * p.1) := Int.neg_mul _ _
  have e2 : -n.2 * p.2 = -(n.2 * p.2) := Int.neg_mul _ _
  have e3 : -n.1 * q.1 = -(n.1 * q.1) := Int.neg_mul _ _
  have e4 : -n.2 * q.2 = -(n.2 * q.2) := Int.neg_mul _ _
  omega

/-- twice the area of a triangle -/
def ar (a b c : Int × Int) : Int := cr (sub b a) (sub c a)
theorem four_sum (p0 p1 p2 p3 : Int × Int) : ar p1 p2 p3 + - ar p0 p2 p3 + ar p0 p1 p3 + - ar p0 p1 p2 = 0 := by simp only [ar, cr, sub]; grind
theorem four_dt (n p0 p1 p2 p3 : Int × Int) : ar p1 p2 p3 * dt n p0 + - ar p0 p2 p3 * dt n p1 + ar p0 p1 p3 * dt n p2 + - ar p0 p1 p2 * dt n p3 = 0 := by
  obtain ⟨x0, y0⟩ := p0
  obtain ⟨x1, y1⟩ := p1
  obtain ⟨x2, y2⟩ := p2
  obtain ⟨x3, y3⟩ := p3
  obtain ⟨u, v⟩ := n
  simp only [ar, cr, sub, dt]; grind

/-- one sum of four products with numbers of two signs -/
theorem four_sign (l0 l1 l2 l3 : Int) (h0 : 0 ≤ l0) (hs : l0 + l1 + l2 + l3 = 0) (hne : ¬(l0 = 0 ∧ l1 = 0 ∧ l2 = 0 ∧ l3 = 0)) :
    ∃ b1 b2 b3 : Bool, (b1 && b2 && b3) = false ∧ ∀ d0 d1 d2 d3 m : Int, l0 * d0 + l1 * d1 + l2 * d2 + l3 * d3 = 0 →
      ¬(d0 ≤ m ∧ (if b1 then d1 ≤ m else m < d1) ∧ (if b2 then d2 ≤ m else m < d2) ∧ (if b3 then d3 ≤ m else m < d3)) := by
  refine ⟨decide (0 ≤ l1), decide (0 ≤ l2), decide (0 ≤ l3), ?_, ?_⟩
  · cases h1 : decide (0 ≤ l1) <;> cases h2 : decide (0 ≤ l2) <;> cases h3 : decide (0 ≤ l3) <;> simp_all <;> omega
  · intro d0 d1 d2 d3 m he ⟨g0, g1, g2, g3⟩
    have hz : l0 * (d0 - m) + l1 * (d1 - m) + l2 * (d2 - m) + l3 * (d3 - m) = 0 := by
      have : l0 * (d0 - m) + l1 * (d1 - m) + l2 * (d2 - m) + l3 * (d3 - m) = (l0 * d0 + l1 * d1 + l2 * d2 + l3 * d3) - (l0 + l1 + l2 + l3) * m := by grind
      rw [this, he, hs]
      simp
    have t0 : l0 * (d0 - m) ≤ 0 := Int.mul_nonpos_of_nonneg_of_nonpos h0 (by omega)
    have tt : ∀ l d : Int, (if decide (0 ≤ l) then d ≤ m else m < d) → l * (d - m) ≤ 0 ∧ (l < 0 → l * (d - m) < 0) := by
      intro l d h
      by_cases hl : 0 ≤ l
      · simp only [hl, decide_true, if_true] at h
        exact ⟨Int.mul_nonpos_of_nonneg_of_nonpos hl (by omega), fun h => by omega⟩
      · simp only [hl, decide_false, Bool.false_eq_true, if_false] at h
        have := Int.mul_neg_of_neg_of_pos (show l < 0 by omega) (show 0 < d - m by omega)
        exact ⟨by omega, fun _ => this⟩
    have t1 := tt l1 d1 g1
    have t2 := tt l2 d2 g2
    have t3 := tt l3 d3 g3
    by_cases k1 : l1 < 0
    · have := t1.2 k1; omega
    · by_cases k2 : l2 < 0
      · have := t2.2 k2; omega
      · by_cases k3 : l3 < 0
        · have := t3.2 k3; omega
        · exact hne (by omega)

def ltP (p q : Int × Int) : Prop := p.1 < q.1 ∨ p.1 = q.1 ∧ p.2 < q.2

/-- three places of a line -/
theorem three_line {p0 p1 p2 : Int × Int} (h1 : ltP p0 p1) (h2 : ltP p1 p2) (ha : ar p0 p1 p2 = 0) (n : Int × Int) (m : Int) : ¬(dt n p0 ≤ m ∧ m < dt n p1 ∧ dt n p2 ≤ m) := by
  rintro ⟨g0, g1, g2⟩
  obtain ⟨x0, y0⟩ := p0
  obtain ⟨x1, y1⟩ := p1
  obtain ⟨x2, y2⟩ := p2
  obtain ⟨u, v⟩ := n
  simp only [ltP, ar, cr, sub, dt] at *
  by_cases hx : x0 < x2
  · have e : (x2 - x0) * (u * x1 + v * y1 - m) = (x2 - x1) * (u * x0 + v * y0 - m) + (x1 - x0) * (u * x2 + v * y2 - m) := by grind
    have a1 : 0 < (x2 - x0) * (u * x1 + v * y1 - m) := Int.mul_pos (by omega) (by omega)
    have a2 : (x2 - x1) * (u * x0 + v * y0 - m) ≤ 0 := Int.mul_nonpos_of_nonneg_of_nonpos (by omega) (by omega)
    have a3 : (x1 - x0) * (u * x2 + v * y2 - m) ≤ 0 := Int.mul_nonpos_of_nonneg_of_nonpos (by omega) (by omega)
    omega
  · obtain rfl : x1 = x0 := by omega
    obtain rfl : x2 = x1 := by omega
    have e : (y2 - y0) * (u * x2 + v * y1 - m) = (y2 - y1) * (u * x2 + v * y0 - m) + (y1 - y0) * (u * x2 + v * y2 - m) := by grind
    have a1 : 0 < (y2 - y0) * (u * x2 + v * y1 - m) := Int.mul_pos (by omega) (by omega)
    have a2 : (y2 - y1) * (u * x2 + v * y0 - m) ≤ 0 := Int.mul_nonpos_of_nonneg_of_nonpos (by omega) (by omega)
    have a3 : (y1 - y0) * (u * x2 + v * y2 - m) ≤ 0 := Int.mul_nonpos_of_nonneg_of_nonpos (by omega) (by omega)
    omega

/-- four places have a division that no line tells apart -/
theorem radon {p0 p1 p2 p3 : Int × Int} (h1 : ltP p0 p1) (h2 : ltP p1 p2) :
    ∃ b1 b2 b3 : Bool, (b1 && b2 && b3) = false ∧ ∀ (n : Int × Int) (m : Int),
      ¬(dt n p0 ≤ m ∧ (if b1 then dt n p1 ≤ m else m < dt n p1) ∧ (if b2 then dt n p2 ≤ m else m < dt n p2) ∧ (if b3 then dt n p3 ≤ m else m < dt n p3)) := by
  have e1 := four_sum p0 p1 p2 p3
  have e2 := fun n => four_dt n p0 p1 p2 p3
  have hcol : ar p0 p1 p2 = 0 → ∃ b1 b2 b3 : Bool, (b1 && b2 && b3) = false ∧ ∀ (n : Int × Int) (m : Int),
      ¬(dt n p0 ≤ m ∧ (if b1 then dt n p1 ≤ m else m < dt n p1) ∧ (if b2 then dt n p2 ≤ m else m < dt n p2) ∧ (if b3 then dt n p3 ≤ m else m < dt n p3)) := fun hz =>
    ⟨false, true, false, rfl, fun n m ⟨g0, g1, g2, _⟩ => three_line h1 h2 hz n m ⟨g0, by simpa using g1, by simpa using g2⟩⟩
  generalize ar p1 p2 p3 = l0 at *
  generalize ar p0 p2 p3 = l1 at *
  generalize ar p0 p1 p3 = l2 at *
  generalize ar p0 p1 p2 = l3 at *
  by_cases hz : l3 = 0
  · exact hcol hz
  · by_cases h0 : 0 ≤ l0
    · obtain ⟨b1, b2, b3, hb, h⟩ := four_sign l0 (-l1) l2 (-l3) h0 e1 (by omega)
      exact ⟨b1, b2, b3, hb, fun n m => h _ _ _ _ m (e2 n)⟩
    · obtain ⟨b1, b2, b3, hb, h⟩ := four_sign (-l0) l1 (-l2) l3 (by omega) (by omega) (by omega)
      refine ⟨b1, b2, b3, hb, fun n m => h _ _ _ _ m ?_⟩
      have := e2 n
      have r1 : -l0 * dt n p0 = -(l0 * dt n p0) := Int.neg_mul _ _
      have r2 : -l1 * dt n p1 = -(l1 * dt n p1) := Int.neg_mul _ _
      have r3 : -l2 * dt n p2 = -(l2 * dt n p2) := Int.neg_mul _ _
      have r4 : -l3 * dt n p3 = -(l3 * dt n p3) := Int.neg_mul _ _
      omega
end NV
namespace NV
/-- no direction in which all of the vectors point down -/
def Held (V : Nat → Int × Int) (is : List Nat) : Prop := ∀ n, ∃ i ∈ is, 0 ≤ dt n (V i)

theorem pz {a b c x y z : Int} (h : a * x + b * y + c * z = 0) (ha : 0 ≤ a) (hb : 0 ≤ b) (hc : 0 ≤ c) (hx : x < 0) (hy : y < 0) (hz : z < 0) : a = 0 ∧ b = 0 ∧ c = 0 := by
  have e1 := Int.mul_nonpos_of_nonneg_of_nonpos ha (Int.le_of_lt hx)
  have e2 := Int.mul_nonpos_of_nonneg_of_nonpos hb (Int.le_of_lt hy)
  have e3 := Int.mul_nonpos_of_nonneg_of_nonpos hc (Int.le_of_lt hz)
  have f1 : a * x = 0 := by omega
  have f2 : b * y = 0 := by omega
  have f3 : c * z = 0 := by omega
  rcases Int.mul_eq_zero.1 f1 with g1 | g1 <;> rcases Int.mul_eq_zero.1 f2 with g2 | g2 <;> rcases Int.mul_eq_zero.1 f3 with g3 | g3 <;> omega
theorem pm {a b c x y z : Int} (h : a * x + b * y + c * z = 0) (ha : 0 ≤ a) (hb : 0 ≤ b) (hc : c ≤ 0) (hx : x < 0) (hy : y < 0) (hz : 0 ≤ z) : a = 0 ∧ b = 0 := by
  have e1 := Int.mul_nonpos_of_nonneg_of_nonpos ha (Int.le_of_lt hx)
  have e2 := Int.mul_nonpos_of_nonneg_of_nonpos hb (Int.le_of_lt hy)
  have e3 := Int.mul_nonpos_of_nonpos_of_nonneg hc hz
  have f1 : a * x = 0 := by omega
  have f2 : b * y = 0 := by omega
  rcases Int.mul_eq_zero.1 f1 with g1 | g1 <;> rcases Int.mul_eq_zero.1 f2 with g2 | g2 <;> omega
theorem three_half {a b c xa ya za xb yb zb xc yc zc xd yd zd : Int}
    (ra : a * xa + b * ya + c * za = 0) (rb : a * xb + b * yb + c * zb = 0) (rc : a * xc + b * yc + c * zc = 0) (rd : a * xd + b * yd + c * zd = 0)
    (hxa : 0 ≤ xa) (hya : ya < 0) (hza : za < 0) (hxb : xb < 0) (hyb : 0 ≤ yb) (hzb : zb < 0) (hxc : xc < 0) (hyc : yc < 0) (hzc : 0 ≤ zc) (hxd : xd < 0) (hyd : yd < 0) (hzd : zd < 0)
    (hs : (0 ≤ a ∧ 0 ≤ b) ∨ (0 ≤ b ∧ 0 ≤ c) ∨ (0 ≤ a ∧ 0 ≤ c)) : a = 0 ∧ b = 0 ∧ c = 0 := by
  have fin : (0 ≤ a ∧ 0 ≤ b ∧ 0 ≤ c) → a = 0 ∧ b = 0 ∧ c = 0 := fun ⟨h1, h2, h3⟩ => pz rd h1 h2 h3 hxd hyd hzd
  rcases hs with ⟨h1, h2⟩ | ⟨h1, h2⟩ | ⟨h1, h2⟩
  · by_cases h3 : 0 ≤ c
    · exact fin ⟨h1, h2, h3⟩
    · obtain ⟨rfl, rfl⟩ := pm rc h1 h2 (by omega) hxc hyc hzc
      have : c * zd = 0 := by omega
      rcases Int.mul_eq_zero.1 this with g | g <;> omega
  · by_cases h3 : 0 ≤ a
    · exact fin ⟨h3, h1, h2⟩
    · obtain ⟨rfl, rfl⟩ := pm (a := b) (b := c) (c := a) (x := ya) (y := za) (z := xa) (by omega) h1 h2 (by omega) hya hza hxa
      have : a * xd = 0 := by omega
      rcases Int.mul_eq_zero.1 this with g | g <;> omega
  · by_cases h3 : 0 ≤ b
    · exact fin ⟨h1, h3, h2⟩
    · obtain ⟨rfl, rfl⟩ := pm (a := a) (b := c) (c := b) (x := xb) (y := zb) (z := yb) (by omega) h1 h2 (by omega) hxb hzb hyb
      have : b * yd = 0 := by omega
      rcases Int.mul_eq_zero.1 this with g | g <;> omega
theorem neg_rel {a b c x y z : Int} (h : a * x + b * y + c * z = 0) : -a * x + -b * y + -c * z = 0 := by
  rw [Int.neg_mul, Int.neg_mul, Int.neg_mul]; omega
theorem three_zero {a b c xa ya za xb yb zb xc yc zc xd yd zd : Int}
    (ra : a * xa + b * ya + c * za = 0) (rb : a * xb + b * yb + c * zb = 0) (rc : a * xc + b * yc + c * zc = 0) (rd : a * xd + b * yd + c * zd = 0)
    (hxa : 0 ≤ xa) (hya : ya < 0) (hza : za < 0) (hxb : xb < 0) (hyb : 0 ≤ yb) (hzb : zb < 0) (hxc : xc < 0) (hyc : yc < 0) (hzc : 0 ≤ zc) (hxd : xd < 0) (hyd : yd < 0) (hzd : zd < 0) : a = 0 ∧ b = 0 ∧ c = 0 := by
  by_cases hs : (0 ≤ a ∧ 0 ≤ b) ∨ (0 ≤ b ∧ 0 ≤ c) ∨ (0 ≤ a ∧ 0 ≤ c)
  · exact three_half ra rb rc rd hxa hya hza hxb hyb hzb hxc hyc hzc hxd hyd hzd hs
  · have := three_half (neg_rel ra) (neg_rel rb) (neg_rel rc) (neg_rel rd) hxa hya hza hxb hyb hzb hxc hyc hzc hxd hyd hzd (by omega)
    omega

theorem cr_three (u v w x : Int × Int) : cr v w * dt u x + cr w u * dt v x + cr u v * dt w x = 0 := by simp only [cr, dt]; grind
theorem dt_comm (u v : Int × Int) : dt u v = dt v u := by simp only [dt]; grind
theorem par_id (u v x : Int × Int) : dt u v * dt v x = dt v v * dt u x + (v.1 * x.2 - v.2 * x.1) * cr u v := by simp only [cr, dt]; grind

theorem list_inj {l : List Nat} (h : l.Nodup) {i j : Nat} (hi : i < l.length) (hj : j < l.length) (e : l[i] = l[j]) : i = j := by
  rcases Nat.lt_trichotomy i j with k | k | k
  · exact absurd e ((List.pairwise_iff_getElem.1 h) i j hi hj k)
  · exact k
  · exact absurd e.symm ((List.pairwise_iff_getElem.1 h) j i hj hi k)

theorem cara (V : Nat → Int × Int) (is : List Nat) (hnd : is.Nodup) (hh : Held V is) (hcrit : ∀ i ∈ is, ∃ n, ∀ j ∈ is, j ≠ i → dt n (V j) < 0) : is.length ≤ 3 := by
  apply Classical.byContradiction
  intro hk
  have h0 : 0 < is.length := by omega
  have h1 : 1 < is.length := by omega
  have h2 : 2 < is.length := by omega
  have h3 : 3 < is.length := by omega
  have hne : ∀ {i j : Nat} (hi : i < is.length) (hj : j < is.length), i ≠ j → is[i] ≠ is[j] := fun hi hj h e => h (list_inj hnd hi hj e)
  have key : ∀ {i : Nat} (hi : i < is.length), ∃ n, (∀ j ∈ is, j ≠ is[i] → dt n (V j) < 0) ∧ 0 ≤ dt n (V is[i]) := by
    intro i hi
    obtain ⟨n, hn⟩ := hcrit is[i] (List.getElem_mem _)
    refine ⟨n, hn, ?_⟩
    obtain ⟨k, hk1, hk2⟩ := hh n
    by_cases e : k = is[i]
    · rw [← e]; exact hk2
    · have := hn k hk1 e; omega
  obtain ⟨na, ha, ha'⟩ := key h0
  obtain ⟨nb, hb, hb'⟩ := key h1
  obtain ⟨nc, hc, hc'⟩ := key h2
  have m := fun {i : Nat} (hi : i < is.length) => List.getElem_mem hi
  obtain ⟨z1, z2, z3⟩ := three_zero (cr_three na nb nc (V is[0])) (cr_three na nb nc (V is[1])) (cr_three na nb nc (V is[2])) (cr_three na nb nc (V is[3]))
    ha' (hb _ (m h0) (hne h0 h1 (by decide))) (hc _ (m h0) (hne h0 h2 (by decide)))
    (ha _ (m h1) (hne h1 h0 (by decide))) hb' (hc _ (m h1) (hne h1 h2 (by decide)))
    (ha _ (m h2) (hne h2 h0 (by decide))) (hb _ (m h2) (hne h2 h1 (by decide))) hc'
    (ha _ (m h3) (hne h3 h0 (by decide))) (hb _ (m h3) (hne h3 h1 (by decide))) (hc _ (m h3) (hne h3 h2 (by decide)))
  have s := same_side (n := V is[3]) (u := na) (v := nb) (by rw [dt_comm]; exact ha _ (m h3) (hne h3 h0 (by decide))) (by rw [dt_comm]; exact hb _ (m h3) (hne h3 h1 (by decide))) z3
  have e := par_id na nb (V is[0])
  rw [z3, Int.mul_zero, Int.add_zero] at e
  have f1 := Int.mul_neg_of_pos_of_neg s (hb _ (m h0) (hne h0 h1 (by decide)))
  have f2 := Int.mul_nonneg (dt_self_nonneg nb) ha'
  omega

theorem held_three (V : Nat → Int × Int) : ∀ (m : Nat) (is : List Nat), is.length ≤ m → is.Nodup → Held V is → ∃ js, js.Sublist is ∧ js.length ≤ 3 ∧ Held V js := by
  intro m
  induction m with
  | zero => intro is hl _ hc; exact ⟨is, List.Sublist.refl _, by omega, hc⟩
  | succ m ih =>
    intro is hl hnd hc
    by_cases h4 : is.length ≤ 3
    · exact ⟨is, List.Sublist.refl _, h4, hc⟩
    · by_cases hcrit : ∀ i ∈ is, ∃ n, ∀ j ∈ is, j ≠ i → dt n (V j) < 0
      · exact absurd (cara V is hnd hc hcrit) h4
      · obtain ⟨i, hi⟩ := Classical.not_forall.1 hcrit
        obtain ⟨hi1, hi2⟩ := Classical.not_imp.1 hi
        have hc' : Held V (is.erase i) := by
          intro n
          apply Classical.byContradiction
          intro hno
          apply hi2
          refine ⟨n, fun j hj hne => ?_⟩
          rcases Int.lt_or_le (dt n (V j)) 0 with h | h
          · exact h
          · exact absurd ⟨j, (List.mem_erase_of_ne hne).2 hj, h⟩ hno
        have hlen := List.length_erase_of_mem hi1
        obtain ⟨js, hs, hl', hc''⟩ := ih (is.erase i) (by omega) (hnd.erase i) hc'
        exact ⟨js, hs.trans List.erase_sublist, hl', hc''⟩
end NV
