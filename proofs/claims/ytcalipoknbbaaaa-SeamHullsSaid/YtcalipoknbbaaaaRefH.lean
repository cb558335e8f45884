/- Hulls of few points; between and covers of the reference, at one and two places. -/
import Derived.Test.YtcalipoknbbaaaaRefD
import Derived.Test.YtcalipoknbbaaaaRadm
namespace Go.Proofs.Ytcalipoknbbaaaa
open Go.RowKit
set_option linter.unusedSimpArgs false
set_option linter.unusedVariables false

def betwP (a b r : Pl) : Bool := inB r.1 (min a.1 b.1) (max a.1 b.1) && inB r.2 (min a.2 b.2) (max a.2 b.2)
def cov2 (a b p : Pl) : Bool := (turnP a b p == 0) && betwP a b p
def cov3 (a b c p : Pl) : Bool :=
  if turnP a b c = 0 then cov2 a b p || (cov2 b c p || cov2 a c p)
  else (decide (0 ≤ turnP a b p) && (decide (0 ≤ turnP b c p) && decide (0 ≤ turnP c a p))) || (decide (turnP a b p ≤ 0) && (decide (turnP b c p ≤ 0) && decide (turnP c a p ≤ 0)))
def covL : List Pl → Pl → Bool
  | [a], p => a == p
  | [a, b], p => cov2 a b p
  | [a, b, c], p => cov3 a b c p
  | _, _ => false

theorem nrm (a b x : Pl) : NV.dt (-(b.2 - a.2), b.1 - a.1) x = NV.dt (-(b.2 - a.2), b.1 - a.1) a + turnP a b x := by simp only [NV.dt, turnP]; grind
theorem nrm2 (a b x : Pl) : NV.dt (b.2 - a.2, -(b.1 - a.1)) x = NV.dt (b.2 - a.2, -(b.1 - a.1)) a - turnP a b x := by simp only [NV.dt, turnP]; grind
theorem turn_end (a b : Pl) : turnP a b b = 0 := by simp only [turnP]; grind
theorem lex_up {p q : Pl} (hp : NV.inG p) (hq : NV.inG q) (h : NV.ltP p q) : NV.dt (100, 1) p < NV.dt (100, 1) q := by
  obtain ⟨⟨_, _⟩, _, _⟩ := hp
  obtain ⟨⟨_, _⟩, _, _⟩ := hq
  unfold NV.ltP at h
  simp only [NV.dt]
  omega
theorem lex_dn {p q : Pl} (hp : NV.inG p) (hq : NV.inG q) (h : NV.ltP p q) : NV.dt (-100, -1) q < NV.dt (-100, -1) p := by
  obtain ⟨⟨_, _⟩, _, _⟩ := hp
  obtain ⟨⟨_, _⟩, _, _⟩ := hq
  unfold NV.ltP at h
  simp only [NV.dt]
  omega
theorem lex_tri (p q : Pl) : p = q ∨ NV.ltP p q ∨ NV.ltP q p := by
  unfold NV.ltP
  by_cases h1 : p.1 = q.1
  · by_cases h2 : p.2 = q.2
    · exact .inl (Prod.ext h1 h2)
    · omega
  · omega
theorem lex_trans {p q r : Pl} (h : NV.ltP p q) (k : NV.ltP q r) : NV.ltP p r := by unfold NV.ltP at *; omega
theorem lex_irr {p : Pl} (h : NV.ltP p p) : False := by unfold NV.ltP at h; omega
theorem lex_anti {p q : Pl} (h : NV.ltP p q) (k : NV.ltP q p) : False := by unfold NV.ltP at *; omega

theorem sep2 {n : Int × Int} {a b p : Pl} : NV.SepD n [a, b] [p] ↔ NV.dt n a < NV.dt n p ∧ NV.dt n b < NV.dt n p := by simp [NV.SepD]
theorem sep1 {n : Int × Int} {a p : Pl} : NV.SepD n [a] [p] ↔ NV.dt n a < NV.dt n p := by simp [NV.SepD]
theorem sep3 {n : Int × Int} {a b c p : Pl} : NV.SepD n [a, b, c] [p] ↔ NV.dt n a < NV.dt n p ∧ NV.dt n b < NV.dt n p ∧ NV.dt n c < NV.dt n p := by simp [NV.SepD]
theorem sep22 {n : Int × Int} {a b c d : Pl} : NV.SepD n [a, b] [c, d] ↔ (NV.dt n a < NV.dt n c ∧ NV.dt n a < NV.dt n d) ∧ NV.dt n b < NV.dt n c ∧ NV.dt n b < NV.dt n d := by simp [NV.SepD]

theorem betw_lex {a b p : Pl} (hab : NV.ltP a b) (ht : turnP a b p = 0) : betwP a b p = true ↔ (p = a ∨ NV.ltP a p) ∧ (p = b ∨ NV.ltP p b) := by
  unfold betwP inB
  simp only [Bool.and_eq_true, decide_eq_true_eq]
  unfold turnP at ht
  unfold NV.ltP at *
  have hle : a.1 ≤ b.1 := by omega
  rw [Int.min_eq_left hle, Int.max_eq_right hle]
  constructor
  · rintro ⟨⟨h1, h2⟩, h3, h4⟩
    by_cases e1 : p.1 = a.1
    · have h0 : (b.1 - a.1) * (p.2 - a.2) = 0 := by
        have : (b.2 - a.2) * (p.1 - a.1) = 0 := by rw [show p.1 - a.1 = 0 by omega, Int.mul_zero]
        omega
      rcases Int.mul_eq_zero.1 h0 with g | g
      · have hab2 : a.2 ≤ b.2 := by omega
        rw [Int.min_eq_left hab2] at h3
        rw [Int.max_eq_right hab2] at h4
        refine ⟨?_, ?_⟩
        · by_cases e : p.2 = a.2
          · exact .inl (Prod.ext e1 e)
          · exact .inr (by omega)
        · by_cases e : p.2 = b.2
          · exact .inl (Prod.ext (by omega) e)
          · exact .inr (by omega)
      · have e : p = a := Prod.ext e1 (by omega)
        subst e
        exact ⟨.inl rfl, .inr hab⟩
    · refine ⟨.inr (by omega), ?_⟩
      by_cases e2 : p.1 = b.1
      · have h0 : (b.1 - a.1) * (p.2 - b.2) = 0 := by
          have e3 : (b.1 - a.1) * (p.2 - b.2) = (b.1 - a.1) * (p.2 - a.2) - (b.2 - a.2) * (b.1 - a.1) := by grind
          rw [e2] at ht
          omega
        rcases Int.mul_eq_zero.1 h0 with g | g
        · omega
        · exact .inl (Prod.ext e2 (by omega))
      · exact .inr (by omega)
  · rintro ⟨h1, h2⟩
    have g1 : a.1 ≤ p.1 := by rcases h1 with rfl | h1 <;> omega
    have g2 : p.1 ≤ b.1 := by rcases h2 with rfl | h2 <;> omega
    refine ⟨⟨g1, g2⟩, ?_⟩
    by_cases hd : b.1 = a.1
    · have : a.2 ≤ p.2 := by rcases h1 with rfl | h1 <;> omega
      have : p.2 ≤ b.2 := by rcases h2 with rfl | h2 <;> omega
      omega
    · have hd1 : 0 < b.1 - a.1 := by omega
      by_cases hs : a.2 ≤ b.2
      · rw [Int.min_eq_left hs, Int.max_eq_right hs]
        have k1 : 0 ≤ (b.2 - a.2) * (p.1 - a.1) := Int.mul_nonneg (by omega) (by omega)
        have k2 : 0 ≤ (b.2 - a.2) * (b.1 - p.1) := Int.mul_nonneg (by omega) (by omega)
        have k3 : (b.1 - a.1) * (b.2 - p.2) = (b.2 - a.2) * (b.1 - p.1) - ((b.1 - a.1) * (p.2 - a.2) - (b.2 - a.2) * (p.1 - a.1)) := by grind
        constructor
        · by_cases hc : a.2 ≤ p.2
          · exact hc
          · have : (b.1 - a.1) * (p.2 - a.2) < 0 := Int.mul_neg_of_pos_of_neg hd1 (by omega)
            omega
        · by_cases hc : p.2 ≤ b.2
          · exact hc
          · have : (b.1 - a.1) * (b.2 - p.2) < 0 := Int.mul_neg_of_pos_of_neg hd1 (by omega)
            omega
      · rw [Int.min_eq_right (by omega), Int.max_eq_left (by omega)]
        have k1 : (b.2 - a.2) * (p.1 - a.1) ≤ 0 := Int.mul_nonpos_of_nonpos_of_nonneg (by omega) (by omega)
        have k2 : (b.2 - a.2) * (b.1 - p.1) ≤ 0 := Int.mul_nonpos_of_nonpos_of_nonneg (by omega) (by omega)
        have k3 : (b.1 - a.1) * (p.2 - b.2) = ((b.1 - a.1) * (p.2 - a.2) - (b.2 - a.2) * (p.1 - a.1)) - (b.2 - a.2) * (b.1 - p.1) := by grind
        constructor
        · by_cases hc : b.2 ≤ p.2
          · exact hc
          · have : (b.1 - a.1) * (p.2 - b.2) < 0 := Int.mul_neg_of_pos_of_neg hd1 (by omega)
            omega
        · by_cases hc : p.2 ≤ a.2
          · exact hc
          · have : 0 < (b.1 - a.1) * (p.2 - a.2) := Int.mul_pos hd1 (by omega)
            omega

theorem mid_none {a p b : Pl} (h1 : NV.ltP a p) (h2 : NV.ltP p b) (ht : turnP a b p = 0) (n : Int × Int) : ¬(NV.dt n a < NV.dt n p ∧ NV.dt n b < NV.dt n p) := by
  have ha : NV.ar a p b = 0 := by
    have e : NV.ar a p b = - turnP a b p := by simp only [NV.ar, NV.cr, NV.sub, turnP]; grind
    rw [e, ht]; rfl
  rintro ⟨g1, g2⟩
  exact NV.three_line h1 h2 ha n (NV.dt n p - 1) ⟨by omega, by omega, by omega⟩

theorem cov1_iff {a p : Pl} (ha : NV.inG a) (hp : NV.inG p) : (a == p) = true ↔ ∀ n, ¬ NV.SepD n [a] [p] := by
  constructor
  · intro h n hs
    obtain rfl := eq_of_beq h
    have := sep1.1 hs
    omega
  · intro h
    rcases lex_tri a p with e | e | e
    · subst e; simp
    · exact absurd (sep1.2 (lex_up ha hp e)) (h _)
    · exact absurd (sep1.2 (lex_dn hp ha e)) (h _)

theorem cov2_iff {a b p : Pl} (hab : NV.ltP a b) (ha : NV.inG a) (hb : NV.inG b) (hp : NV.inG p) : cov2 a b p = true ↔ ∀ n, ¬ NV.SepD n [a, b] [p] := by
  unfold cov2
  rw [Bool.and_eq_true, beq_iff_eq]
  constructor
  · rintro ⟨ht, hb'⟩ n hs
    obtain ⟨s1, s2⟩ := sep2.1 hs
    obtain ⟨h1, h2⟩ := (betw_lex hab ht).1 hb'
    rcases h1 with rfl | h1
    · omega
    · rcases h2 with rfl | h2
      · omega
      · exact mid_none h1 h2 ht n ⟨s1, s2⟩
  · intro h
    have ht : turnP a b p = 0 := by
      rcases Int.lt_trichotomy (turnP a b p) 0 with g | g | g
      · exact absurd (sep2.2 ⟨by rw [nrm2 a b p]; omega, by rw [nrm2 a b p, nrm2 a b b, turn_end]; omega⟩) (h (b.2 - a.2, -(b.1 - a.1)))
      · exact g
      · exact absurd (sep2.2 ⟨by rw [nrm a b p]; omega, by rw [nrm a b p, nrm a b b, turn_end]; omega⟩) (h (-(b.2 - a.2), b.1 - a.1))
    refine ⟨ht, (betw_lex hab ht).2 ⟨?_, ?_⟩⟩
    · rcases lex_tri p a with e | e | e
      · exact .inl e
      · exact absurd (sep2.2 ⟨lex_dn hp ha e, lex_dn hp hb (lex_trans e hab)⟩) (h _)
      · exact .inr e
    · rcases lex_tri p b with e | e | e
      · exact .inl e
      · exact .inr e
      · exact absurd (sep2.2 ⟨lex_up ha hp (lex_trans hab e), lex_up hb hp e⟩) (h _)

theorem three_bary (a b c p : Pl) (n : Int × Int) : turnP b c p * (NV.dt n a - NV.dt n p) + turnP c a p * (NV.dt n b - NV.dt n p) + turnP a b p * (NV.dt n c - NV.dt n p) = 0 := by
  simp only [turnP, NV.dt]; grind
theorem three_sum (a b c p : Pl) : turnP b c p + turnP c a p + turnP a b p = turnP a b c := by simp only [turnP]; grind
theorem turn_rot (a b c : Pl) : turnP b c a = turnP a b c := by simp only [turnP]; grind
theorem turn_rot2 (a b c : Pl) : turnP c a b = turnP a b c := by simp only [turnP]; grind

theorem cov3_iff {a b c p : Pl} (hab : NV.ltP a b) (hbc : NV.ltP b c) (ha : NV.inG a) (hb : NV.inG b) (hc : NV.inG c) (hp : NV.inG p) : cov3 a b c p = true ↔ ∀ n, ¬ NV.SepD n [a, b, c] [p] := by
  have hac := lex_trans hab hbc
  unfold cov3
  by_cases hT : turnP a b c = 0
  · rw [if_pos hT, Bool.or_eq_true, Bool.or_eq_true, cov2_iff hab ha hb hp, cov2_iff hbc hb hc hp, cov2_iff hac ha hc hp]
    constructor
    · intro h n hs
      obtain ⟨s1, s2, s3⟩ := sep3.1 hs
      rcases h with h | h | h
      · exact h n (sep2.2 ⟨s1, s2⟩)
      · exact h n (sep2.2 ⟨s2, s3⟩)
      · exact h n (sep2.2 ⟨s1, s3⟩)
    · intro h
      refine .inr (.inr fun n hs => ?_)
      obtain ⟨s1, s3⟩ := sep2.1 hs
      by_cases s2 : NV.dt n b < NV.dt n p
      · exact h n (sep3.2 ⟨s1, s2, s3⟩)
      · have ht : turnP a c b = 0 := by
          have e : turnP a c b = - turnP a b c := by simp only [turnP]; grind
          rw [e, hT]; rfl
        exact mid_none hab hbc ht n ⟨by omega, by omega⟩
  · rw [if_neg hT]
    simp only [Bool.or_eq_true, Bool.and_eq_true, decide_eq_true_eq]
    have hsum := three_sum a b c p
    constructor
    · intro h n hs
      obtain ⟨s1, s2, s3⟩ := sep3.1 hs
      have hb1 := three_bary a b c p n
      rcases h with ⟨h1, h2, h3⟩ | ⟨h1, h2, h3⟩
      · obtain ⟨z1, z2, z3⟩ := NV.pz hb1 h2 h3 h1 (by omega) (by omega) (by omega)
        omega
      · obtain ⟨z1, z2, z3⟩ := NV.pz (NV.neg_rel hb1) (by omega) (by omega) (by omega) (by omega) (by omega) (by omega)
        omega
    · intro h
      -- an edge with the place on one side, the third point on the other
      have edge : ∀ x y z : Pl, turnP x y z = turnP a b c → (∀ n, NV.dt n x < NV.dt n p ∧ NV.dt n y < NV.dt n p ∧ NV.dt n z < NV.dt n p → False) → (0 < turnP a b c → 0 ≤ turnP x y p) ∧ (turnP a b c < 0 → turnP x y p ≤ 0) := by
        intro x y z hz hno
        constructor
        · intro hpos
          by_cases g : 0 ≤ turnP x y p
          · exact g
          · exact (hno (y.2 - x.2, -(y.1 - x.1)) ⟨by rw [nrm2 x y p]; omega, by rw [nrm2 x y p, nrm2 x y y, turn_end]; omega, by rw [nrm2 x y p, nrm2 x y z]; omega⟩).elim
        · intro hneg
          by_cases g : turnP x y p ≤ 0
          · exact g
          · exact (hno (-(y.2 - x.2), y.1 - x.1) ⟨by rw [nrm x y p]; omega, by rw [nrm x y p, nrm x y y, turn_end]; omega, by rw [nrm x y p, nrm x y z]; omega⟩).elim
      have h1 := edge a b c rfl fun n ⟨s1, s2, s3⟩ => h n (sep3.2 ⟨s1, s2, s3⟩)
      have h2 := edge b c a (turn_rot a b c) fun n ⟨s1, s2, s3⟩ => h n (sep3.2 ⟨s3, s1, s2⟩)
      have h3 := edge c a b (turn_rot2 a b c) fun n ⟨s1, s2, s3⟩ => h n (sep3.2 ⟨s2, s3, s1⟩)
      rcases Int.lt_or_gt_of_ne hT with g | g
      · exact .inr ⟨h1.2 g, h2.2 g, h3.2 g⟩
      · exact .inl ⟨h1.1 g, h2.1 g, h3.1 g⟩

theorem covL_sep {l : List Pl} {p : Pl} (hu : l.Pairwise NV.ltP) (hl : ∀ r ∈ l, NV.inG r) (hp : NV.inG p) (h0 : l ≠ []) (h3 : l.length ≤ 3) : covL l p = !sepB l [p] := by
  have hs := sepB_any (b := [p]) h0 (by simp) hl (by intro q hq; obtain rfl := List.mem_singleton.1 hq; exact hp)
  have key : covL l p = true ↔ ∀ n, ¬ NV.SepD n l [p] := by
    match l, h0, h3 with
    | [a], _, _ => exact cov1_iff (hl a (by simp)) hp
    | [a, b], _, _ =>
      have hab : NV.ltP a b := by simpa using hu
      exact cov2_iff hab (hl a (by simp)) (hl b (by simp)) hp
    | [a, b, c], _, _ =>
      simp only [List.pairwise_cons, List.mem_cons, List.not_mem_nil, or_false, forall_eq_or_imp, forall_eq] at hu
      exact cov3_iff hu.1.1 hu.2.1 (hl a (by simp)) (hl b (by simp)) (hl c (by simp)) hp
    | a :: b :: c :: d :: r, _, h => simp at h
  rw [Bool.eq_iff_iff, key, Bool.not_eq_true', ← Bool.not_eq_true, hs]
  exact ⟨fun h ⟨n, k⟩ => h n k, fun h n k => h ⟨n, k⟩⟩

/-- two segments -/
def crossP (a b c d : Pl) : Bool :=
  if turnP a b c = 0 ∧ turnP a b d = 0 then betwP a b c || (betwP a b d || (betwP c d a || betwP c d b))
  else ((decide (turnP a b c ≤ 0) && decide (0 ≤ turnP a b d)) || (decide (0 ≤ turnP a b c) && decide (turnP a b d ≤ 0))) && ((decide (turnP c d a ≤ 0) && decide (0 ≤ turnP c d b)) || (decide (0 ≤ turnP c d a) && decide (turnP c d b ≤ 0)))
theorem four_turn (a b c d : Pl) (n : Int × Int) : turnP c d b * NV.dt n a - turnP c d a * NV.dt n b + turnP a b d * NV.dt n c - turnP a b c * NV.dt n d = 0 := by simp only [turnP, NV.dt]; grind
theorem four_turn0 (a b c d : Pl) : turnP c d b - turnP c d a + turnP a b d - turnP a b c = 0 := by simp only [turnP]; grind

theorem weigh {p q r s x y z t : Int} (h : p * x + q * y = r * z + s * t) (hp : 0 ≤ p) (hq : 0 ≤ q) (hr : 0 ≤ r) (hs : 0 ≤ s) (he : p + q = r + s) (h1 : x < z) (h2 : x < t) (h3 : y < z) (h4 : y < t) : p + q = 0 := by
  by_cases hpq : p + q = 0
  · exact hpq
  · exfalso
    -- a bound between
    obtain ⟨m, hm1, hm2, hm3, hm4⟩ : ∃ m, x ≤ m ∧ y ≤ m ∧ m < z ∧ m < t := ⟨max x y, Int.le_max_left _ _, Int.le_max_right _ _, Int.max_lt.2 ⟨h1, h3⟩, Int.max_lt.2 ⟨h2, h4⟩⟩
    have a1 : p * x ≤ p * m := Int.mul_le_mul_of_nonneg_left hm1 hp
    have a2 : q * y ≤ q * m := Int.mul_le_mul_of_nonneg_left hm2 hq
    have a3 : r * (m + 1) ≤ r * z := Int.mul_le_mul_of_nonneg_left (by omega) hr
    have a4 : s * (m + 1) ≤ s * t := Int.mul_le_mul_of_nonneg_left (by omega) hs
    have e1 : r * (m + 1) + s * (m + 1) = (r + s) * m + (r + s) := by grind
    have e2 : p * m + q * m = (p + q) * m := by grind
    rw [he] at e2
    omega

theorem cross_iff {a b c d : Pl} (hab : NV.ltP a b) (hcd : NV.ltP c d) (ha : NV.inG a) (hb : NV.inG b) (hc : NV.inG c) (hd : NV.inG d) (hac : a ≠ c) (had : a ≠ d) (hbc : b ≠ c) (hbd : b ≠ d) : crossP a b c d = true ↔ ∀ n, ¬ NV.SepD n [a, b] [c, d] := by
  unfold crossP
  by_cases hz : turnP a b c = 0 ∧ turnP a b d = 0
  · rw [if_pos hz]
    obtain ⟨hz1, hz2⟩ := hz
    -- all on one line
    have hx0 : turnP c d a = 0 ∧ turnP c d b = 0 := by
      have e1 : (b.1 - a.1) * turnP c d a = (c.1 - a.1) * turnP a b d - (d.1 - a.1) * turnP a b c := by clear hz1 hz2 hab hcd ha hb hc hd hac had hbc hbd; simp only [turnP]; grind
      have e2 : (b.2 - a.2) * turnP c d a = (c.2 - a.2) * turnP a b d - (d.2 - a.2) * turnP a b c := by clear hz1 hz2 hab hcd ha hb hc hd hac had hbc hbd; simp only [turnP]; grind
      rw [hz1, hz2] at e1 e2
      simp only [Int.mul_zero, Int.sub_self, Int.sub_zero, Int.add_zero] at e1 e2
      have hx : turnP c d a = 0 := by
        rcases Int.mul_eq_zero.1 e1 with g1 | g1
        · rcases Int.mul_eq_zero.1 e2 with g2 | g2
          · unfold NV.ltP at hab; omega
          · exact g2
        · exact g1
      have := four_turn0 a b c d
      omega
    obtain ⟨hx1, hx2⟩ := hx0
    rw [Bool.or_eq_true, Bool.or_eq_true, Bool.or_eq_true, betw_lex hab hz1, betw_lex hab hz2, betw_lex hcd hx1, betw_lex hcd hx2]
    constructor
    · intro h n hs
      obtain ⟨⟨s1, s2⟩, s3, s4⟩ := sep22.1 hs
      have neg : ∀ x y : Pl, NV.dt n x < NV.dt n y → NV.dt (-n.1, -n.2) y < NV.dt (-n.1, -n.2) x := by
        intro x y h
        have e : ∀ z : Pl, NV.dt (-n.1, -n.2) z = - NV.dt n z := by intro z; simp only [NV.dt]; grind
        rw [e, e]; omega
      rcases h with ⟨h1, h2⟩ | ⟨h1, h2⟩ | ⟨h1, h2⟩ | ⟨h1, h2⟩
      · exact mid_none (h1.resolve_left (Ne.symm hac)) (h2.resolve_left (Ne.symm hbc)) hz1 n ⟨s1, s3⟩
      · exact mid_none (h1.resolve_left (Ne.symm had)) (h2.resolve_left (Ne.symm hbd)) hz2 n ⟨s2, s4⟩
      · exact mid_none (h1.resolve_left hac) (h2.resolve_left had) hx1 _ ⟨neg _ _ s1, neg _ _ s2⟩
      · exact mid_none (h1.resolve_left hbc) (h2.resolve_left hbd) hx2 _ ⟨neg _ _ s3, neg _ _ s4⟩
    · intro h
      rcases lex_tri a c with e | e | e
      · exact absurd e hac
      · -- a < c
        rcases lex_tri c b with k | k | k
        · exact absurd k.symm hbc
        · exact .inl ⟨.inr e, .inr k⟩
        · exact absurd (sep22.2 ⟨⟨lex_up ha hc e, lex_up ha hd (lex_trans e hcd)⟩, lex_up hb hc k, lex_up hb hd (lex_trans k hcd)⟩) (h _)
      · -- c < a
        rcases lex_tri a d with k | k | k
        · exact absurd k had
        · exact .inr (.inr (.inl ⟨.inr e, .inr k⟩))
        · exact absurd (sep22.2 ⟨⟨lex_dn hc ha e, lex_dn hd ha k⟩, lex_dn hc hb (lex_trans e hab), lex_dn hd hb (lex_trans k hab)⟩) (h _)
  · rw [if_neg hz]
    simp only [Bool.or_eq_true, Bool.and_eq_true, decide_eq_true_eq]
    have h0 := four_turn0 a b c d
    constructor
    · rintro ⟨h1, h2⟩ n hs
      obtain ⟨⟨s1, s2⟩, s3, s4⟩ := sep22.1 hs
      have h4 := four_turn a b c d n
      generalize turnP a b c = u at *
      generalize turnP a b d = v at *
      generalize turnP c d a = x at *
      generalize turnP c d b = y at *
      by_cases hw : u ≤ 0 ∧ 0 ≤ v
      · -- v - u is at least 0: y is at most 0, x at least 0
        have g : y ≤ 0 ∧ 0 ≤ x := by omega
        have h5 : (-y) * NV.dt n a + x * NV.dt n b = v * NV.dt n c + (-u) * NV.dt n d := by rw [Int.neg_mul, Int.neg_mul]; omega
        have h6 := weigh h5 (by omega) (by omega) (by omega) (by omega) (by omega) s1 s2 s3 s4
        omega
      · have g : 0 ≤ y ∧ x ≤ 0 := by omega
        have h5 : y * NV.dt n a + (-x) * NV.dt n b = (-v) * NV.dt n c + u * NV.dt n d := by rw [Int.neg_mul, Int.neg_mul]; omega
        have h6 := weigh h5 (by omega) (by omega) (by omega) (by omega) (by omega) s1 s2 s3 s4
        omega
    · intro h
      constructor
      · by_cases g1 : 0 < turnP a b c ∧ 0 < turnP a b d
        · exact absurd (sep22.2 ⟨⟨by rw [nrm a b c]; omega, by rw [nrm a b d]; omega⟩, by rw [nrm a b c, nrm a b b, turn_end]; omega, by rw [nrm a b d, nrm a b b, turn_end]; omega⟩) (h (-(b.2 - a.2), b.1 - a.1))
        · by_cases g2 : turnP a b c < 0 ∧ turnP a b d < 0
          · exact absurd (sep22.2 ⟨⟨by rw [nrm2 a b c]; omega, by rw [nrm2 a b d]; omega⟩, by rw [nrm2 a b c, nrm2 a b b, turn_end]; omega, by rw [nrm2 a b d, nrm2 a b b, turn_end]; omega⟩) (h (b.2 - a.2, -(b.1 - a.1)))
          · omega
      · by_cases g1 : 0 < turnP c d a ∧ 0 < turnP c d b
        · exact absurd (sep22.2 ⟨⟨by rw [nrm2 c d a]; omega, by rw [nrm2 c d a, nrm2 c d d, turn_end]; omega⟩, by rw [nrm2 c d b]; omega, by rw [nrm2 c d b, nrm2 c d d, turn_end]; omega⟩) (h (d.2 - c.2, -(d.1 - c.1)))
        · by_cases g2 : turnP c d a < 0 ∧ turnP c d b < 0
          · exact absurd (sep22.2 ⟨⟨by rw [nrm c d a]; omega, by rw [nrm c d a, nrm c d d, turn_end]; omega⟩, by rw [nrm c d b]; omega, by rw [nrm c d b, nrm c d d, turn_end]; omega⟩) (h (-(d.2 - c.2), d.1 - c.1))
          · omega
end Go.Proofs.Ytcalipoknbbaaaa
namespace Go.Proofs.Ytcalipoknbbaaaa
open Go.RowKit
set_option linter.unusedSimpArgs false
set_option linter.unusedVariables false
attribute [local go_sem ↓] equalR nequalR

set_option maxHeartbeats 1000000 in
theorem rbetween_any (o p q : Pl) (w : World) :
    Calls Try.prog 168 #[.agg #[.int .i64 o.1, .int .i64 o.2], .agg #[.int .i64 p.1, .int .i64 p.2], .agg #[.int .i64 q.1, .int .i64 q.2]] w fun e w' => e = .returned (.bool (betwP o p q)) ∧ Below w.heap.size w w' := by
  have hb0 := (below_two w (.cells #[.int .i64 o.1, .int .i64 o.2] 38) (.cells #[.int .i64 p.1, .int .i64 p.2] 38)).alloc (by simp; omega) (.cells #[.int .i64 q.1, .int .i64 q.2] 38)
  have hI : Inv w (((w.alloc (.cells #[.int .i64 o.1, .int .i64 o.2] 38)).alloc (.cells #[.int .i64 p.1, .int .i64 p.2] 38)).alloc (.cells #[.int .i64 q.1, .int .i64 q.2] 38)) [] [] [] [] := ⟨by simp, by simp, by simp, by simp, hb0⟩
  obtain ⟨A, hA⟩ : ∃ A, inB q.1 (min o.1 p.1) (max o.1 p.1) = A := ⟨_, rfl⟩
  obtain ⟨B, hB⟩ : ∃ B, inB q.2 (min o.2 p.2) (max o.2 p.2) = B := ⟨_, rfl⟩
  have hg2 : betwP o p q = (A && B) := by rw [betwP, hA, hB]
  rw [hg2]
  have HA := Lib.hid hA
  have HB := Lib.hid hB
  clear hg2 hA hB
  cases A with
  | true =>
    go_enter Try.func168, Try.ntmps168
    go_wp2_with (first
      | (go_at_call 97; have hcc := in_any q.1 (min o.1 p.1) (max o.1 p.1) (((w.alloc (.cells #[.int .i64 o.1, .int .i64 o.2] 38)).alloc (.cells #[.int .i64 p.1, .int .i64 p.2] 38)).alloc (.cells #[.int .i64 q.1, .int .i64 q.2] 38)); rw [HA.out] at hcc; (with_reducible refine hcc.mono ?_); clear hcc; rintro e W ⟨rfl, rfl⟩)
      | (go_at_call 97; have hcc := in_any q.2 (min o.2 p.2) (max o.2 p.2) (((w.alloc (.cells #[.int .i64 o.1, .int .i64 o.2] 38)).alloc (.cells #[.int .i64 p.1, .int .i64 p.2] 38)).alloc (.cells #[.int .i64 q.1, .int .i64 q.2] 38)); rw [HB.out] at hcc; (with_reducible refine hcc.mono ?_); clear hcc; rintro e W ⟨rfl, rfl⟩))
    go_ret
    exact ⟨ret_bool (by simp), hb0⟩
  | false =>
    go_enter Try.func168, Try.ntmps168
    go_wp2_with (first
      | (go_at_call 97; have hcc := in_any q.1 (min o.1 p.1) (max o.1 p.1) (((w.alloc (.cells #[.int .i64 o.1, .int .i64 o.2] 38)).alloc (.cells #[.int .i64 p.1, .int .i64 p.2] 38)).alloc (.cells #[.int .i64 q.1, .int .i64 q.2] 38)); rw [HA.out] at hcc; (with_reducible refine hcc.mono ?_); clear hcc; rintro e W ⟨rfl, rfl⟩))
    go_ret
    exact ⟨ret_bool (by simp), hb0⟩

theorem RowP.c1 {W : World} {q : Option Addr} {a : Pl} (h : RowP W q [a]) : ∃ bb off, q = some ⟨bb, off, none⟩ ∧ bb < W.heap.size ∧ W.cell? ⟨bb, off, none⟩ = some (.int .i64 a.1) ∧ W.cell? ⟨bb, off + 1, none⟩ = some (.int .i64 a.2) := by
  rcases h with h0 | ⟨b, off, e, hz, hc⟩
  · simp at h0
  · exact ⟨b, off, e, hz, by simpa using hc 0 (by simp)⟩
theorem RowP.c2 {W : World} {q : Option Addr} {a b : Pl} (h : RowP W q [a, b]) : ∃ bb off, q = some ⟨bb, off, none⟩ ∧ bb < W.heap.size ∧ (W.cell? ⟨bb, off, none⟩ = some (.int .i64 a.1) ∧ W.cell? ⟨bb, off + 1, none⟩ = some (.int .i64 a.2)) ∧
    W.cell? ⟨bb, off + 2, none⟩ = some (.int .i64 b.1) ∧ W.cell? ⟨bb, off + 3, none⟩ = some (.int .i64 b.2) := by
  rcases h with h0 | ⟨b', off, e, hz, hc⟩
  · simp at h0
  · exact ⟨b', off, e, hz, by simpa using hc 0 (by simp), by simpa using hc 1 (by simp)⟩
theorem RowP.c3 {W : World} {q : Option Addr} {a b c : Pl} (h : RowP W q [a, b, c]) : ∃ bb off, q = some ⟨bb, off, none⟩ ∧ bb < W.heap.size ∧ (W.cell? ⟨bb, off, none⟩ = some (.int .i64 a.1) ∧ W.cell? ⟨bb, off + 1, none⟩ = some (.int .i64 a.2)) ∧
    (W.cell? ⟨bb, off + 2, none⟩ = some (.int .i64 b.1) ∧ W.cell? ⟨bb, off + 3, none⟩ = some (.int .i64 b.2)) ∧ W.cell? ⟨bb, off + 4, none⟩ = some (.int .i64 c.1) ∧ W.cell? ⟨bb, off + 5, none⟩ = some (.int .i64 c.2) := by
  rcases h with h0 | ⟨b', off, e, hz, hc⟩
  · simp at h0
  · exact ⟨b', off, e, hz, by simpa using hc 0 (by simp), by simpa using hc 1 (by simp), by simpa using hc 2 (by simp)⟩

set_option maxRecDepth 100000 in
set_option maxHeartbeats 1000000 in
theorem rcov1_any (q : Option Addr) (c : Nat) (a p : Pl) (w : World) (hr : RowP w q [a]) :
    Calls Try.prog 149 #[.slice q 1 c, .agg #[.int .i64 p.1, .int .i64 p.2]] w fun e w' => e = .returned (.bool (plEq a p)) ∧ Below w.heap.size w w' := by
  have HI := Lib.hid (Inv.onePP w q [a] p hr)
  have k0 := HI.out.c (b := w.heap.size) (o := 0) (v := .int .i64 p.1) (by simp)
  have k1 := HI.out.c (b := w.heap.size) (o := 1) (v := .int .i64 p.2) (by simp)
  obtain ⟨bb, off, rfl, hbz, g1, g2⟩ := (HI.out.2.1 (q, [a]) (by simp)).c1
  clear hr
  go_enter Try.func149, Try.ntmps149
  go_upto_region 2 with fail
  go_quiet (fail)
  go_wp2
  go_ret
  exact ⟨rfl, below_drewN HI.out.2.2.2.2 _⟩

set_option maxRecDepth 100000 in
set_option maxHeartbeats 2000000 in
theorem rcov2_any (q : Option Addr) (c : Nat) (a b p : Pl) (w : World) (hr : RowP w q [a, b]) (ha : okP a) (hb : okP b) (hp : okP p) :
    Calls Try.prog 149 #[.slice q 2 c, .agg #[.int .i64 p.1, .int .i64 p.2]] w fun e w' => e = .returned (.bool (cov2 a b p)) ∧ Below w.heap.size w w' := by
  have HI := Lib.hid (Inv.onePP w q [a, b] p hr)
  have k0 := HI.out.c (b := w.heap.size) (o := 0) (v := .int .i64 p.1) (by simp)
  have k1 := HI.out.c (b := w.heap.size) (o := 1) (v := .int .i64 p.2) (by simp)
  obtain ⟨bb, off, rfl, hbz, ⟨g1, g2⟩, g3, g4⟩ := (HI.out.2.1 (q, [a, b]) (by simp)).c2
  obtain ⟨T, hT⟩ : ∃ T, turnP a b p = T := ⟨_, rfl⟩
  obtain ⟨Y, hY⟩ : ∃ Y, betwP a b p = Y := ⟨_, rfl⟩
  have hres : cov2 a b p = ((T == 0) && Y) := by rw [cov2, hT, hY]
  rw [hres]
  have hS := fun V => rside_any a b p V ha hb hp
  have hB := fun V => rbetween_any a b p V
  rw [hT] at hS
  rw [hY] at hB
  have HS := Lib.hid hS
  have HB := Lib.hid hB
  generalize hW0 : (w.alloc (.cells #[.int .i64 p.1, .int .i64 p.2] 38)) = W0 at *
  have HW0 := Lib.hid hW0
  have HID := Lib.hid (HI.out.go (Below.refl _ _).drew)
  have n0 : W0.drew.cell? ⟨w.heap.size, 0, none⟩ = some (.int .i64 p.1) := k0
  have n1 : W0.drew.cell? ⟨w.heap.size, 1, none⟩ = some (.int .i64 p.2) := k1
  have n2 : W0.drew.cell? ⟨bb, off, none⟩ = some (.int .i64 a.1) := g1
  have n3 : W0.drew.cell? ⟨bb, off + 1, none⟩ = some (.int .i64 a.2) := g2
  have n4 : W0.drew.cell? ⟨bb, off + 2, none⟩ = some (.int .i64 b.1) := g3
  have n5 : W0.drew.cell? ⟨bb, off + 3, none⟩ = some (.int .i64 b.2) := g4
  clear hr hT hY hres hS hB hW0 ha hb hp
  cases hT0 : (T == 0) with
  | true =>
    go_enter Try.func149, Try.ntmps149
    go_upto_region 4 with fail
    rw [HW0.out]
    go_region_held3 (fun W => W.cell? ⟨w.heap.size, 0, none⟩ = some (.int .i64 p.1) ∧ W.cell? ⟨w.heap.size, 1, none⟩ = some (.int .i64 p.2) ∧ W.cell? ⟨bb, off, none⟩ = some (.int .i64 a.1) ∧ W.cell? ⟨bb, off + 1, none⟩ = some (.int .i64 a.2) ∧ W.cell? ⟨bb, off + 2, none⟩ = some (.int .i64 b.1) ∧ W.cell? ⟨bb, off + 3, none⟩ = some (.int .i64 b.2)) (first | exact ⟨k0, k1, g1, g2, g3, g4⟩ | exact ⟨n0, n1, n2, n3, n4, n5⟩ | exact ⟨d0, d1, d2, d3, d4, d5⟩ | exact ⟨e0, e1, e2, e3, e4, e5⟩ | go_keep)
      (first
      | (go_at_call 119; have hcc := HS.out W0.drew; (with_reducible refine hcc.mono ?_); clear hcc; rintro e V ⟨rfl, hb⟩; have J := Lib.hid (HID.out.go hb); have d0 := J.out.c (b := w.heap.size) (o := 0) (v := .int .i64 p.1) (by simp); have d1 := J.out.c (b := w.heap.size) (o := 1) (v := .int .i64 p.2) (by simp); have d2 := (hb.cell (p := ⟨bb, off, none⟩) hbz).trans n2; have d3 := (hb.cell (p := ⟨bb, off + 1, none⟩) hbz).trans n3; have d4 := (hb.cell (p := ⟨bb, off + 2, none⟩) hbz).trans n4; have d5 := (hb.cell (p := ⟨bb, off + 3, none⟩) hbz).trans n5; have hbv : bb < V.heap.size := Nat.lt_of_lt_of_le hbz hb.size; clear hb)
      | (go_at_call 168; have hcc := HB.out V; (with_reducible refine hcc.mono ?_); clear hcc; rintro e V2 ⟨rfl, hb⟩; have J2 := Lib.hid (J.out.go hb); have e0 := J2.out.c (b := w.heap.size) (o := 0) (v := .int .i64 p.1) (by simp); have e1 := J2.out.c (b := w.heap.size) (o := 1) (v := .int .i64 p.2) (by simp); have e2 := (hb.cell (p := ⟨bb, off, none⟩) hbv).trans d2; have e3 := (hb.cell (p := ⟨bb, off + 1, none⟩) hbv).trans d3; have e4 := (hb.cell (p := ⟨bb, off + 2, none⟩) hbv).trans d4; have e5 := (hb.cell (p := ⟨bb, off + 3, none⟩) hbv).trans d5; clear hb)
      | fail)
    all_goals
      go_wp2
      go_ret
      exact ⟨ret_bool (by simp), J2.out.2.2.2.2⟩
  | false =>
    go_enter Try.func149, Try.ntmps149
    go_upto_region 4 with fail
    rw [HW0.out]
    refine wp_region_held_drew (S := fun W => W.cell? ⟨w.heap.size, 0, none⟩ = some (.int .i64 p.1) ∧ W.cell? ⟨w.heap.size, 1, none⟩ = some (.int .i64 p.2) ∧ W.cell? ⟨bb, off, none⟩ = some (.int .i64 a.1) ∧ W.cell? ⟨bb, off + 1, none⟩ = some (.int .i64 a.2) ∧ W.cell? ⟨bb, off + 2, none⟩ = some (.int .i64 b.1) ∧ W.cell? ⟨bb, off + 3, none⟩ = some (.int .i64 b.2)) (by kernel_rfl) ⟨n0, n1, n2, n3, n4, n5⟩ (fun hHeld => ?_)
    refine wpAnyH_take (i := 0) (v := ?_) rfl (by kernel_rfl) (by kernel_rfl) (by kernel_rfl) (fun _ _ _ h => h) (Or.inl ⟨by rfl, ?_⟩) (by assumption) ?_
    rotate_left
    intro w hSw; (try dsimp only at hSw); go_simp; (try with_reducible rfl)
    try simp only [Act.put, List.getElem_toArray, List.getElem_cons_succ, List.getElem_cons_zero, List.setIfInBounds_toArray, List.set_cons_zero, List.set_cons_succ]
    refine wpAnyH_take (i := 1) (v := ?_) rfl (by kernel_rfl) (by kernel_rfl) (by kernel_rfl) (fun _ _ _ h => h) (Or.inl ⟨by rfl, ?_⟩) (by assumption) ?_
    rotate_left
    intro w hSw; (try dsimp only at hSw); go_simp; (try with_reducible rfl)
    try simp only [Act.put, List.getElem_toArray, List.getElem_cons_succ, List.getElem_cons_zero, List.setIfInBounds_toArray, List.set_cons_zero, List.set_cons_succ]
    refine wpAnyH_take (i := 2) (v := ?_) rfl (by kernel_rfl) (by kernel_rfl) (by kernel_rfl) (fun _ _ _ h => h) (Or.inl ⟨by rfl, ?_⟩) (by assumption) ?_
    rotate_left
    intro w hSw; (try dsimp only at hSw); go_simp; (try with_reducible rfl)
    try simp only [Act.put, List.getElem_toArray, List.getElem_cons_succ, List.getElem_cons_zero, List.setIfInBounds_toArray, List.set_cons_zero, List.set_cons_succ]
    refine wpAnyH_take (i := 3) (v := ?_) rfl (by kernel_rfl) (by kernel_rfl) (by kernel_rfl) (fun _ _ _ h => h) (Or.inl ⟨by rfl, ?_⟩) (by assumption) ?_
    rotate_left
    intro w hSw; (try dsimp only at hSw); go_simp; (try with_reducible rfl)
    try simp only [Act.put, List.getElem_toArray, List.getElem_cons_succ, List.getElem_cons_zero, List.setIfInBounds_toArray, List.set_cons_zero, List.set_cons_succ]
    refine wpAnyH_take (i := 4) (v := ?_) rfl (by kernel_rfl) (by kernel_rfl) (by kernel_rfl) (fun _ _ _ h => h) (Or.inl ⟨by rfl, ?_⟩) (by assumption) ?_
    rotate_left
    intro w hSw; (try dsimp only at hSw); go_simp; (try with_reducible rfl)
    try simp only [Act.put, List.getElem_toArray, List.getElem_cons_succ, List.getElem_cons_zero, List.setIfInBounds_toArray, List.set_cons_zero, List.set_cons_succ]
    refine wpAnyH_take (i := 5) (v := ?_) rfl (by kernel_rfl) (by kernel_rfl) (by kernel_rfl) (fun _ _ _ h => h) (Or.inl ⟨by rfl, ?_⟩) (by assumption) ?_
    rotate_left
    intro w hSw; (try dsimp only at hSw); go_simp; (try with_reducible rfl)
    try simp only [Act.put, List.getElem_toArray, List.getElem_cons_succ, List.getElem_cons_zero, List.setIfInBounds_toArray, List.set_cons_zero, List.set_cons_succ]
    refine wpAnyH_take (i := 6) (v := ?_) rfl (by kernel_rfl) (by kernel_rfl) (by kernel_rfl) (fun _ _ _ h => h) (Or.inl ⟨by rfl, ?_⟩) (by assumption) ?_
    rotate_left
    intro w hSw; (try dsimp only at hSw); go_simp; (try with_reducible rfl)
    try simp only [Act.put, List.getElem_toArray, List.getElem_cons_succ, List.getElem_cons_zero, List.setIfInBounds_toArray, List.set_cons_zero, List.set_cons_succ]
    refine wpAnyH_ready (rs := [7]) (by kernel_rfl) (by simp) ?_
    refine AllReadyH.cons rfl (fun K hK => ?_) AllReadyH.nil
    go_simp
    go_at_call 119; have hcc := HS.out W0.drew; (with_reducible refine hcc.mono ?_); clear hcc; rintro e V ⟨rfl, hb⟩; have J := Lib.hid (HID.out.go hb); have d0 := J.out.c (b := w.heap.size) (o := 0) (v := .int .i64 p.1) (by simp); have d1 := J.out.c (b := w.heap.size) (o := 1) (v := .int .i64 p.2) (by simp); have d2 := (hb.cell (p := ⟨bb, off, none⟩) hbz).trans n2; have d3 := (hb.cell (p := ⟨bb, off + 1, none⟩) hbz).trans n3; have d4 := (hb.cell (p := ⟨bb, off + 2, none⟩) hbz).trans n4; have d5 := (hb.cell (p := ⟨bb, off + 3, none⟩) hbz).trans n5; clear hb
    refine hK.out _ _ ⟨d0, d1, d2, d3, d4, d5⟩ (fun hHeld => ?_)
    clear hK K
    try simp only [Act.put, List.getElem_toArray, List.getElem_cons_succ, List.getElem_cons_zero, List.setIfInBounds_toArray, List.set_cons_zero, List.set_cons_succ]
    refine wpAnyH_take (i := 8) (v := ?_) rfl (by kernel_rfl) (by kernel_rfl) (by kernel_rfl) (fun _ _ _ h => h) (Or.inl ⟨by rfl, ?_⟩) (by assumption) ?_
    rotate_left
    intro w hSw; (try dsimp only at hSw); go_simp; (try with_reducible rfl)
    try simp only [Act.put, List.getElem_toArray, List.getElem_cons_succ, List.getElem_cons_zero, List.setIfInBounds_toArray, List.set_cons_zero, List.set_cons_succ]
    refine wpAnyH_take (i := 9) (v := ?_) rfl (by kernel_rfl) (by kernel_rfl) (by kernel_rfl) (fun _ _ _ h => h) (Or.inl ⟨by rfl, ?_⟩) (by assumption) ?_
    rotate_left
    intro w hSw; (try dsimp only at hSw); go_simp; (try with_reducible rfl)
    try simp only [Act.put, List.getElem_toArray, List.getElem_cons_succ, List.getElem_cons_zero, List.setIfInBounds_toArray, List.set_cons_zero, List.set_cons_succ]
    refine wpAnyH_take (i := 10) (v := undef) rfl (by kernel_rfl) (by kernel_rfl) (by kernel_rfl) (fun _ _ _ h => h) (Or.inr ⟨by rfl, rfl⟩) (by assumption) ?_
    try simp only [Act.put, List.getElem_toArray, List.getElem_cons_succ, List.getElem_cons_zero, List.setIfInBounds_toArray, List.set_cons_zero, List.set_cons_succ]
    refine wpAnyH_take (i := 11) (v := undef) rfl (by kernel_rfl) (by kernel_rfl) (by kernel_rfl) (fun _ _ _ h => h) (Or.inr ⟨by rfl, rfl⟩) (by assumption) ?_
    try simp only [Act.put, List.getElem_toArray, List.getElem_cons_succ, List.getElem_cons_zero, List.setIfInBounds_toArray, List.set_cons_zero, List.set_cons_succ]
    refine wpAnyH_take (i := 12) (v := undef) rfl (by kernel_rfl) (by kernel_rfl) (by kernel_rfl) (fun _ _ _ h => h) (Or.inr ⟨by rfl, rfl⟩) (by assumption) ?_
    try simp only [Act.put, List.getElem_toArray, List.getElem_cons_succ, List.getElem_cons_zero, List.setIfInBounds_toArray, List.set_cons_zero, List.set_cons_succ]
    refine wpAnyH_take (i := 13) (v := undef) rfl (by kernel_rfl) (by kernel_rfl) (by kernel_rfl) (fun _ _ _ h => h) (Or.inr ⟨by rfl, rfl⟩) (by assumption) ?_
    try simp only [Act.put, List.getElem_toArray, List.getElem_cons_succ, List.getElem_cons_zero, List.setIfInBounds_toArray, List.set_cons_zero, List.set_cons_succ]
    refine wpAnyH_take (i := 14) (v := undef) rfl (by kernel_rfl) (by kernel_rfl) (by kernel_rfl) (fun _ _ _ h => h) (Or.inr ⟨by rfl, rfl⟩) (by assumption) ?_
    try simp only [Act.put, List.getElem_toArray, List.getElem_cons_succ, List.getElem_cons_zero, List.setIfInBounds_toArray, List.set_cons_zero, List.set_cons_succ]
    refine wpAnyH_take (i := 15) (v := undef) rfl (by kernel_rfl) (by kernel_rfl) (by kernel_rfl) (fun _ _ _ h => h) (Or.inr ⟨by rfl, rfl⟩) (by assumption) ?_
    try simp only [Act.put, List.getElem_toArray, List.getElem_cons_succ, List.getElem_cons_zero, List.setIfInBounds_toArray, List.set_cons_zero, List.set_cons_succ]
    refine wpAnyH_take (i := 16) (v := undef) rfl (by kernel_rfl) (by kernel_rfl) (by kernel_rfl) (fun _ _ _ h => h) (Or.inr ⟨by rfl, rfl⟩) (by assumption) ?_
    try simp only [Act.put, List.getElem_toArray, List.getElem_cons_succ, List.getElem_cons_zero, List.setIfInBounds_toArray, List.set_cons_zero, List.set_cons_succ]
    refine wpAnyH_take (i := 17) (v := undef) rfl (by kernel_rfl) (by kernel_rfl) (by kernel_rfl) (fun _ _ _ h => h) (Or.inr ⟨by rfl, rfl⟩) (by assumption) ?_
    try simp only [Act.put, List.getElem_toArray, List.getElem_cons_succ, List.getElem_cons_zero, List.setIfInBounds_toArray, List.set_cons_zero, List.set_cons_succ]
    refine wpAnyH_take (i := 18) (v := ?_) rfl (by kernel_rfl) (by kernel_rfl) (by kernel_rfl) (fun _ _ _ h => h) (Or.inl ⟨by rfl, ?_⟩) (by assumption) ?_
    rotate_left
    intro w hSw; (try dsimp only at hSw); go_simp; (try with_reducible rfl)
    try simp only [Act.put, List.getElem_toArray, List.getElem_cons_succ, List.getElem_cons_zero, List.setIfInBounds_toArray, List.set_cons_zero, List.set_cons_succ]
    refine wpAnyH_take (i := 19) (v := ?_) rfl (by kernel_rfl) (by kernel_rfl) (by kernel_rfl) (fun _ _ _ h => h) (Or.inl ⟨by rfl, ?_⟩) (by assumption) ?_
    rotate_left
    intro w hSw; (try dsimp only at hSw); go_simp; (try with_reducible rfl)
    try simp only [Act.put, List.getElem_toArray, List.getElem_cons_succ, List.getElem_cons_zero, List.setIfInBounds_toArray, List.set_cons_zero, List.set_cons_succ]
    refine wpAnyH_done (by kernel_rfl) ?_ _
    all_goals
      go_wp2
      go_ret
      exact ⟨ret_bool (by simp), J.out.2.2.2.2⟩
end Go.Proofs.Ytcalipoknbbaaaa
