/- SeamCorners: the walk, and the row's step. -/
import Derived.Test.YtcalipoknbbaaaaMadeS
import Derived.Test.YtcalipoknbbaaaaTold
import Derived.Test.YtcalipoknbbaaaaLaw8
import Derived.BigQuiet
import Derived.Test.YtcalipoknbbaaaaRows
import Derived.WalkKit
import Derived.ProofKit
import Derived.OpenShut
import Derived.Test.YtcalipoknbbaaaaDigC
namespace NV
def crs (u v : Int × Int) : Int := u.1 * v.2 - u.2 * v.1
def trn (p q r : Int × Int) : Int := (q.1 - p.1) * (r.2 - p.2) - (q.2 - p.2) * (r.1 - p.1)
theorem trn_cyc (a b d : Int × Int) : trn a b d = trn d a b := by simp only [trn]; grind
theorem trn_left (a b : Int × Int) : trn a b a = 0 := by simp only [trn]; grind
theorem trn_right (a b : Int × Int) : trn a b b = 0 := by simp only [trn]; grind
theorem trn_parts (f a b d : Int × Int) : trn a b d = crs (sub a f) (sub b f) + crs (sub b f) (sub d f) - crs (sub a f) (sub d f) := by simp only [trn, crs, sub]; grind
theorem trn_self (f a b : Int × Int) : trn f a b = crs (sub a f) (sub b f) := by simp only [trn, crs, sub]
theorem crs_dt (n u v w : Int × Int) : crs u w * dt n v = crs v w * dt n u + crs u v * dt n w := by simp only [crs, dt]; grind
/-- a corner does not lie inside of three others -/
theorem tri {n f a b d : Int × Int} (hf : dt n f < dt n b) (ha : dt n a < dt n b) (hd : dt n d < dt n b) (h1 : 0 ≤ crs (sub a f) (sub b f)) (h2 : 0 ≤ crs (sub b f) (sub d f)) : 0 ≤ trn a b d := by
  rw [trn_parts f a b d]
  have e := crs_dt n (sub a f) (sub b f) (sub d f)
  rw [dt_sub, dt_sub, dt_sub] at e
  generalize crs (sub a f) (sub b f) = B at *
  generalize crs (sub b f) (sub d f) = A at *
  generalize crs (sub a f) (sub d f) = D at *
  apply Classical.byContradiction
  intro hno
  have hV : 0 < dt n b - dt n f := by omega
  have hU : 0 ≤ (dt n b - dt n f) - (dt n a - dt n f) := by omega
  have hW : 0 ≤ (dt n b - dt n f) - (dt n d - dt n f) := by omega
  generalize dt n b - dt n f = V at *
  generalize dt n a - dt n f = U at *
  generalize dt n d - dt n f = W at *
  have p1 : 0 < (D - A - B) * V := Int.mul_pos (by omega) hV
  have p2 := Int.mul_nonneg h2 hU
  have p3 := Int.mul_nonneg h1 hW
  have r1 : (D - A - B) * V = D * V - A * V - B * V := by grind
  have r2 : A * (V - U) = A * V - A * U := by grind
  have r3 : B * (V - W) = B * V - B * W := by grind
  omega
/-- the law's turn is a direction -/
theorem trn_dt (a b q : Int × Int) : trn a b q = dt (-(b.2 - a.2), b.1 - a.1) q - dt (-(b.2 - a.2), b.1 - a.1) a := by simp only [trn, dt]; grind
end NV
namespace Go.Proofs.Ytcalipoknbbaaaa
open Go.RowKit
set_option linter.unusedSimpArgs false
set_option linter.unusedVariables false

/-- a place that some direction tells apart from all others -/
def Tip (l : List Pl) (p : Pl) : Prop := ∃ n : Int × Int, ∀ r ∈ l, r ≠ p → NV.dt n r < NV.dt n p
/-- a direction that is tilted a little, so that no two places of the grid are alike -/
theorem tip_max {l : List Pl} (h0 : l ≠ []) (hl : ∀ r ∈ l, NV.inG r) (n : Int × Int) : ∃ v ∈ l, Tip l v ∧ ∀ r ∈ l, NV.dt n r ≤ NV.dt n v := by
  obtain ⟨v, hv, hm⟩ := NV.ex_max (NV.dt (1000 * n.1 + 100, 1000 * n.2 + 1)) l h0
  have e : ∀ r : Pl, NV.dt (1000 * n.1 + 100, 1000 * n.2 + 1) r = 1000 * NV.dt n r + (100 * r.1 + r.2) := by intro r; simp only [NV.dt]; grind
  obtain ⟨⟨a1, a2⟩, a3, a4⟩ := hl v hv
  have hlt : ∀ r ∈ l, r ≠ v → NV.dt (1000 * n.1 + 100, 1000 * n.2 + 1) r < NV.dt (1000 * n.1 + 100, 1000 * n.2 + 1) v := by
    intro r hr hne
    have h1 := hm r hr
    rw [e, e] at h1 ⊢
    obtain ⟨⟨b1, b2⟩, b3, b4⟩ := hl r hr
    apply Classical.byContradiction
    intro hno
    have heq : 1000 * NV.dt n r + (100 * r.1 + r.2) = 1000 * NV.dt n v + (100 * v.1 + v.2) := by omega
    exact hne (Prod.ext (by omega) (by omega))
  refine ⟨v, hv, ⟨_, hlt⟩, fun r hr => ?_⟩
  have h1 := hm r hr
  rw [e, e] at h1
  obtain ⟨⟨b1, b2⟩, b3, b4⟩ := hl r hr
  omega

theorem RowUp.nodup {l : List Pl} (h : RowUp l) : l.Nodup := by
  refine List.Pairwise.imp ?_ h.2.2.2
  rintro a b hab rfl
  simp only [NV.ltP] at hab
  omega
theorem nodup_ix {l : List Pl} (h : l.Nodup) {i j : Nat} (hi : i < l.length) (hj : j < l.length) (e : l[i] = l[j]) : i = j := by
  rcases Nat.lt_trichotomy i j with k | k | k
  · exact absurd e ((List.pairwise_iff_getElem.1 h) i j hi hj k)
  · exact k
  · exact absurd e.symm ((List.pairwise_iff_getElem.1 h) j i hj hi k)
/-- all but one -/
def butI (l : List Pl) (i : Nat) : List Pl := l.take i ++ l.drop (i + 1)
theorem mem_but {l : List Pl} (hn : l.Nodup) {i : Nat} (hi : i < l.length) (r : Pl) : r ∈ butI l i ↔ r ∈ l ∧ r ≠ l[i] := by
  have e : l = l.take i ++ l[i] :: l.drop (i + 1) := by
    rw [List.getElem_cons_drop, List.take_append_drop]
  have hn' := hn
  rw [e] at hn'
  rw [List.nodup_append] at hn'
  obtain ⟨h1, h2, h3⟩ := hn'
  rw [List.nodup_cons] at h2
  constructor
  · intro h
    rcases List.mem_append.1 h with h | h
    · exact ⟨List.mem_of_mem_take h, fun x => h3 r h l[i] List.mem_cons_self x⟩
    · exact ⟨List.mem_of_mem_drop h, fun x => h2.1 (by rw [← x]; exact h)⟩
  · rintro ⟨h, hne⟩
    rw [e] at h
    rcases List.mem_append.1 h with h | h
    · exact List.mem_append_left _ h
    · rcases List.mem_cons.1 h with h | h
      · exact absurd h hne
      · exact List.mem_append_right _ h
theorem mem_selC (b : Bool) (is : List Int) (l : List Pl) (p : Pl) : p ∈ sel b is l ↔ ∃ i : Nat, ∃ h : i < l.length, hasI is i = b ∧ l[i] = p := by
  simp only [sel, List.mem_map, List.mem_filter, beq_iff_eq]
  constructor
  · rintro ⟨⟨y, i⟩, ⟨h1, h2⟩, rfl⟩
    obtain ⟨h, e⟩ := List.mem_zipIdx' h1
    exact ⟨i, h, h2, e.symm⟩
  · rintro ⟨i, h, h2, rfl⟩
    exact ⟨(l[i], i), ⟨List.mem_zipIdx_iff_getElem?.2 (by simp [h]), h2⟩, rfl⟩
theorem mem_sel1 {l : List Pl} (hn : l.Nodup) {i : Nat} (hi : i < l.length) (r : Pl) : r ∈ sel false [(i : Int)] l ↔ r ∈ l ∧ r ≠ l[i] := by
  rw [mem_selC]
  constructor
  · rintro ⟨j, hj, hb, rfl⟩
    refine ⟨List.getElem_mem _, fun e => ?_⟩
    have := nodup_ix hn hj hi e
    subst this
    simp [hasI] at hb
  · rintro ⟨hr, hne⟩
    obtain ⟨j, hj, rfl⟩ := List.getElem_of_mem hr
    refine ⟨j, hj, ?_, rfl⟩
    simp only [hasI, List.any_cons, List.any_nil, Bool.or_false]
    apply Classical.byContradiction
    intro hno
    have : (j : Int) = i := by simpa using hno
    have hji : j = i := by omega
    subst hji
    exact hne rfl
theorem one_inC {p : Pl} (h : NV.inG p) : ∀ q ∈ [p], NV.inG q := by intro q hq; obtain rfl := List.mem_singleton.1 hq; exact h
theorem sepB_nilC (p : Pl) (hp : NV.inG p) : sepB [] [p] = true := by
  rw [sepB, separateOf, Option.isSome_map, List.find?_isSome]
  refine ⟨(-9, -9), by decide +kernel, ?_⟩
  refine (tells_iff _ _ _).2 fun q hq => ?_
  obtain rfl := List.mem_singleton.1 hq
  obtain ⟨⟨a, b⟩, c, d⟩ := hp
  simp only [supC, List.foldl_nil, NV.dt]
  omega
theorem tip_sep {l A : List Pl} {p : Pl} (h : ∀ r, r ∈ A ↔ r ∈ l ∧ r ≠ p) : Tip l p ↔ ∃ n, NV.SepD n A [p] := by
  constructor
  · rintro ⟨n, hn⟩
    refine ⟨n, fun r hr q hq => ?_⟩
    obtain rfl := List.mem_singleton.1 hq
    exact hn r ((h r).1 hr).1 ((h r).1 hr).2
  · rintro ⟨n, hn⟩
    exact ⟨n, fun r hr hne => hn r ((h r).2 ⟨hr, hne⟩) p (by simp)⟩
theorem corn_tip {l : List Pl} (h : RowUp l) {i : Nat} (hi : i < l.length) : cornB l i = true ↔ Tip l l[i] := by
  have hm := fun r => mem_sel1 h.nodup hi r
  have hin := h.2.2.1
  have hp := hin l[i] (List.getElem_mem _)
  rw [cornB, getD_eq l i (0, 0) hi, tip_sep hm]
  by_cases h0 : sel false [(i : Int)] l = []
  · rw [h0, sepB_nilC _ hp]
    simp only [true_iff]
    exact ⟨(0, 0), fun r hr => by simp at hr⟩
  · exact sepB_any h0 (by simp) (fun r hr => hin r ((hm r).1 hr).1) (one_inC hp)
/-- the law's test of a corner -/
theorem corner_law {l : List Pl} (h : RowUp l) {i : Nat} (hi : i < l.length) : (decide ((butI l i).length = 0) || toldB (butI l i) [l[i]]) = cornB l i := by
  have hm := fun r => mem_but h.nodup hi r
  have hin := h.2.2.1
  have hp := hin l[i] (List.getElem_mem _)
  rw [Bool.eq_iff_iff, corn_tip h hi, tip_sep hm]
  by_cases h0 : butI l i = []
  · rw [h0]
    simp only [List.length_nil, decide_true, Bool.true_or, true_iff]
    exact ⟨(0, 0), fun r hr => by simp at hr⟩
  · have hz : decide ((butI l i).length = 0) = false := decide_eq_false fun e => h0 (List.length_eq_zero_iff.1 e)
    rw [hz, Bool.false_or]
    exact toldB_any h0 (by simp) (fun r hr => hin r ((hm r).1 hr).1) (one_inC hp)
theorem mem_corn {l : List Pl} (h : RowUp l) (p : Pl) : p ∈ cornTo l l.length ↔ p ∈ l ∧ Tip l p := by
  simp only [cornTo, List.mem_map, List.mem_filter, List.mem_range]
  constructor
  · rintro ⟨i, ⟨hi, hc⟩, rfl⟩
    rw [getD_eq l i (0, 0) hi]
    exact ⟨List.getElem_mem _, (corn_tip h hi).1 hc⟩
  · rintro ⟨hp, ht⟩
    obtain ⟨i, hi, rfl⟩ := List.getElem_of_mem hp
    exact ⟨i, ⟨hi, (corn_tip h hi).2 ht⟩, getD_eq l i (0, 0) hi⟩
theorem corn_nodup {l : List Pl} (h : RowUp l) : (cornTo l l.length).Nodup := by
  unfold cornTo
  rw [List.nodup_iff_pairwise_ne, List.pairwise_map]
  refine List.Pairwise.imp_of_mem ?_ (List.Pairwise.sublist List.filter_sublist (List.nodup_range (n := l.length)))
  intro a b ha hb hne e
  have ha' := List.mem_range.1 (List.mem_filter.1 ha).1
  have hb' := List.mem_range.1 (List.mem_filter.1 hb).1
  rw [getD_eq l a (0, 0) ha', getD_eq l b (0, 0) hb'] at e
  exact hne (nodup_ix h.nodup ha' hb' e)

/-- what the law asks of the corners -/
structure Corners (l c : List Pl) : Prop where
  mem : ∀ p, p ∈ c ↔ p ∈ l ∧ Tip l p
  nodup : c.Nodup
  pos : 0 < c.length
  le : c.length ≤ l.length
  head : c.getD 0 (0, 0) = l.getD 0 (0, 0)
  turn : ∀ i, i < c.length → ∀ q ∈ l, 0 ≤ NV.trn (c.getD i (0, 0)) (c.getD ((i + 1) % c.length) (0, 0)) q

theorem hull_corners {l c : List Pl} (h : RowUp l) (hc : IsHull l c) : Corners l c := by
  obtain ⟨f, r, t, hfr, hperm, hsort, rfl⟩ := hc
  have hp : (f :: t).Perm (cornTo l l.length) := by rw [hfr]; exact List.Perm.cons f hperm
  have hmem : ∀ p, p ∈ f :: t ↔ p ∈ l ∧ Tip l p := fun p => by rw [hp.mem_iff, mem_corn h]
  have hnd : (f :: t).Nodup := hp.nodup_iff.2 (corn_nodup h)
  refine ⟨hmem, hnd, by simp, ?_, ?_, ?_⟩
  · rw [hp.length_eq]; exact cornTo_le l l.length
  · rw [List.getD_cons_zero]
    match l, h with
    | p :: l', h =>
      have h1 := first_corner h.err
      unfold cornTo at hfr
      rw [List.length_cons, List.range_eq_range', List.range'_succ, List.filter_cons, if_pos h1, List.map_cons] at hfr
      injection hfr with e1 _
      exact e1.symm
  · have P1 : ∀ a b, a < b → b < (f :: t).length → 0 ≤ NV.crs (NV.sub ((f :: t).getD a (0, 0)) f) (NV.sub ((f :: t).getD b (0, 0)) f) := by
      intro a b hab hb
      cases a with
      | zero => simp [NV.crs, NV.sub]
      | succ a =>
        cases b with
        | zero => omega
        | succ b =>
          rw [List.getD_cons_succ, List.getD_cons_succ]
          have ha' : a < t.length := by simp at hb; omega
          have hb' : b < t.length := by simpa using hb
          rw [getD_eq t a (0, 0) ha', getD_eq t b (0, 0) hb']
          exact List.pairwise_iff_getElem.1 hsort a b ha' hb' (by omega)
    have P2 : ∀ j, j < (f :: t).length → (f :: t).getD j (0, 0) ∈ l ∧ Tip l ((f :: t).getD j (0, 0)) := fun j hj => (hmem _).1 (getD_mem _ j (0, 0) hj)
    have P3 : ∀ a b, a < (f :: t).length → b < (f :: t).length → a ≠ b → (f :: t).getD a (0, 0) ≠ (f :: t).getD b (0, 0) := by
      intro a b ha hb hne e
      rw [getD_eq _ a (0, 0) ha, getD_eq _ b (0, 0) hb] at e
      exact hne (nodup_ix hnd ha hb e)
    have hf0 : (f :: t).getD 0 (0, 0) = f := rfl
    have key : ∀ i, i < (f :: t).length → ∀ j, j < (f :: t).length → 0 ≤ NV.trn ((f :: t).getD i (0, 0)) ((f :: t).getD ((i + 1) % (f :: t).length) (0, 0)) ((f :: t).getD j (0, 0)) := by
      intro i hi j hj
      by_cases hl : i + 1 < (f :: t).length
      · rw [Nat.mod_eq_of_lt hl]
        rcases Nat.lt_trichotomy j i with hji | rfl | hji
        · rw [NV.trn_cyc]
          obtain ⟨_, n, hn⟩ := P2 i hi
          have m0 := hn f (hf0 ▸ (P2 0 (by omega)).1) (hf0 ▸ P3 0 i (by omega) hi (by omega))
          have m1 := hn _ (P2 j hj).1 (P3 j i hj hi (by omega))
          have m2 := hn _ (P2 (i + 1) hl).1 (P3 (i + 1) i hl hi (by omega))
          exact NV.tri m0 m1 m2 (P1 j i hji hi) (P1 i (i + 1) (by omega) hl)
        · rw [NV.trn_left]; exact Int.le_refl _
        · by_cases he : j = i + 1
          · rw [he, NV.trn_right]; exact Int.le_refl _
          · obtain ⟨_, n, hn⟩ := P2 (i + 1) hl
            have m0 := hn f (hf0 ▸ (P2 0 (by omega)).1) (hf0 ▸ P3 0 (i + 1) (by omega) hl (by omega))
            have m1 := hn _ (P2 i hi).1 (P3 i (i + 1) hi hl (by omega))
            have m2 := hn _ (P2 j hj).1 (P3 j (i + 1) hj hl he)
            exact NV.tri m0 m1 m2 (P1 i (i + 1) (by omega) hl) (P1 (i + 1) j (by omega) hj)
      · have hk : i + 1 = (f :: t).length := by omega
        rw [hk, Nat.mod_self, hf0, NV.trn_cyc, NV.trn_cyc, NV.trn_self]
        by_cases he : j = i
        · subst he
          simp only [NV.crs]
          have := Int.mul_comm (NV.sub ((f :: t).getD j (0, 0)) f).1 (NV.sub ((f :: t).getD j (0, 0)) f).2
          omega
        · exact P1 j i (by omega) hi
    intro i hi q hq
    have hk := key i hi
    generalize (f :: t).getD i (0, 0) = a at *
    generalize (f :: t).getD ((i + 1) % (f :: t).length) (0, 0) = b at *
    obtain ⟨v, hv, hvt, hmax⟩ := tip_max h.1 h.2.2.1 (-(-(b.2 - a.2)), -(b.1 - a.1))
    obtain ⟨j, hj, hje⟩ := List.getElem_of_mem ((hmem v).2 ⟨hv, hvt⟩)
    have h1 := hk j hj
    rw [getD_eq _ j (0, 0) hj, hje, NV.trn_dt] at h1
    have h2 := hmax q hq
    have e : ∀ r : Pl, NV.dt (-(-(b.2 - a.2)), -(b.1 - a.1)) r = -(NV.dt (-(b.2 - a.2), b.1 - a.1) r) := by intro r; simp only [NV.dt]; grind
    rw [e, e] at h2
    rw [NV.trn_dt]
    omega
theorem Corners.has {l c : List Pl} (h : RowUp l) (hc : Corners l c) {i : Nat} (hi : i < l.length) : hasP c l[i] = cornB l i := by
  rw [Bool.eq_iff_iff, hasP_mem, hc.mem, corn_tip h hi]
  exact ⟨fun x => x.2, fun x => ⟨List.getElem_mem _, x⟩⟩
theorem Corners.not_before {l c : List Pl} (hc : Corners l c) {i : Nat} (hi : i < c.length) : hasP (c.take i) c[i] = false := by
  cases hh : hasP (c.take i) c[i] with
  | false => rfl
  | true =>
    have := (hasP_mem _ _).1 hh
    obtain ⟨j, hj, e⟩ := List.getElem_of_mem this
    rw [List.getElem_take] at e
    rw [List.length_take] at hj
    have := nodup_ix hc.nodup (by omega) hi e
    omega
theorem Corners.in_row {l c : List Pl} (hc : Corners l c) {i : Nat} (hi : i < c.length) : hasP l c[i] = true :=
  (hasP_mem _ _).2 ((hc.mem _).1 (List.getElem_mem _)).1
/-- a line that tells a place apart from the corners tells it apart from all -/
theorem Corners.within {l c s : List Pl} (h : RowUp l) (hc : Corners l c) (hs : RowUp s) (hm : ∀ p, p ∈ s ↔ p ∈ c) {p : Pl} (hp : NV.inG p) : (withinOf l p).2 = (withinOf s p).2 := by
  have e1 : errPP l p = 0 := by rw [errPP, h.err, if_neg (by simp), if_neg (by rw [inG_onG hp]; simp)]
  have e2 : errPP s p = 0 := by rw [errPP, hs.err, if_neg (by simp), if_neg (by rw [inG_onG hp]; simp)]
  have hb : sepB l [p] = sepB s [p] := by
    rw [Bool.eq_iff_iff, sepB_any h.1 (by simp) h.2.2.1 (one_inC hp), sepB_any hs.1 (by simp) hs.2.2.1 (one_inC hp)]
    constructor
    · rintro ⟨n, hn⟩
      exact ⟨n, fun r hr => hn r ((hc.mem r).1 ((hm r).1 hr)).1⟩
    · rintro ⟨n, hn⟩
      refine ⟨n, fun r hr q hq => ?_⟩
      obtain ⟨v, hv, ht, hmax⟩ := tip_max h.1 h.2.2.1 n
      have := hn v ((hm v).2 ((hc.mem v).2 ⟨hv, ht⟩)) q hq
      have := hmax r hr
      omega
  rw [withinOf, withinOf, if_neg (show ¬ errPP l p ≠ 0 by simp [e1]), if_neg (show ¬ errPP s p ≠ 0 by simp [e2]), hb]
  cases sepB s [p] <;> rfl
theorem within_err {l : List Pl} {p : Pl} (h : RowUp l) (hp : NV.inG p) : (withinOf l p).2 = 0 ∨ (withinOf l p).2 = 12 := by
  have e1 : errPP l p = 0 := by rw [errPP, h.err, if_neg (by simp), if_neg (by rw [inG_onG hp]; simp)]
  rw [withinOf, if_neg (by simp [e1])]
  split
  · exact .inr rfl
  · exact .inl rfl
end Go.Proofs.Ytcalipoknbbaaaa
namespace Go.Proofs.Ytcalipoknbbaaaa
open Go.RowKit
set_option linter.unusedSimpArgs false
set_option linter.unusedVariables false

def HullC (w : World) (ps : List Pl) (e : Ending) (w' : World) : Prop :=
  ∃ h g cap, e = .returned (.tuple #[.slice (some ⟨g, 0, none⟩) h.length cap, .int .i64 0]) ∧ IsHull ps h ∧ RowP w' (some ⟨g, 0, none⟩) h ∧ h.length ≤ cap ∧ cap ≤ maxLen ∧ Below w.heap.size w w'

set_option maxRecDepth 100000 in
set_option maxHeartbeats 1000000 in
theorem HullC_any (q : Option Addr) (cap : Nat) (ps : List Pl) (w : World) (hr : RowP w q ps) (h0 : errP ps = 0) :
    Calls Try.prog 49 #[.slice q ps.length cap] w (HullC w ps) := by
  have c1 := Points_any q cap ps w hr
  have C1 := Lib.hid c1
  have HR := Lib.hid hr
  clear c1 hr
  · have hb : (errP ps != 0) = false := by simp [h0]
    obtain ⟨o1, o2, o3, o4⟩ := errP_ok h0
    obtain ⟨f, r, hfr, hf, hrr, hrl⟩ := corners_cons h0
    have H0 := Lib.hid h0
    have HFR := Lib.hid hfr
    clear h0 hfr
    go_enter Try.func49, Try.ntmps49
    go_wp2_with (go_at_call 55; refine C1.out.mono ?_; rintro e w1 ⟨rfl, hb1⟩)
    have HR1 := Lib.hid (HR.out.below (Nat.le_refl _) hb1)
    have HB1 := Lib.hid hb1
    clear C1 HR
    go_loopw [5, 20] (fun v i wr => ∃ k : Nat, k ≤ ps.length ∧ i = .int .i64 k ∧ wr.ownsRow w1.heap.size 26 2 v (cornTo ps k).length (flatP (cornTo ps k)) ∧ Below w1.heap.size w1 wr) (fun _ i _ => ps.length - (intOf i).toNat)
    case atStart => exact ⟨0, Nat.zero_le _, rfl, by rw [cornTo_zero]; exact World.ownsRow_nil _ _ _ _, Below.refl _ _⟩
    case round =>
      obtain ⟨k, hk, rfl, hown, hbel⟩ := hrel
      have HO := Lib.hid hown
      clear hown
      by_cases hlt : k < ps.length
      · obtain ⟨b, off, rfl, hbz, g1, g2⟩ := HR1.out.at hlt (Nat.le_refl _) hbel
        have hst := cornTo_succ ps k
        have hle := cornTo_le ps k
        have hok : okP (ps.getD k (0, 0)) := o4 _ (getD_mem ps k (0, 0) hlt)
        have hcb : cornB ps k = sepB (sel false [(k : Int)] ps) [ps.getD k (0, 0)] := rfl
        rw [hcb] at hst
        generalize ps.getD k (0, 0) = p at g1 g2 hst hok hcb
        have hw1 := hbel.size
        have hba := below_two wr (.cells #[.int .i64 p.1, .int .i64 p.2] 26) (.cells #[.int .i64 k] 3)
        have c2 := splitP_any (some ⟨b, off, none⟩) (some ⟨wr.heap.size + 1, 0, none⟩) cap 1 ps [(k : Int)] ((wr.alloc (.cells #[.int .i64 p.1, .int .i64 p.2] 26)).alloc (.cells #[.int .i64 k] 3)) ((HR1.out.below (Nat.le_refl _) hbel).below (Nat.le_refl _) hba) (.inr ⟨wr.heap.size + 1, 0, rfl, by simp, by intro i hi; have h0 : i = 0 := (by simpa using hi); subst h0; simp⟩) (by omega) (by simp)
        have c3 := fun (W : World) q2 d2 (h : RowP W q2 (sel false [(k : Int)] ps)) => separate_any q2 (some ⟨W.heap.size, 0, none⟩) d2 1 (sel false [(k : Int)] ps) [p] (W.alloc (.cells #[.int .i64 p.1, .int .i64 p.2] 26)) (fun x hx => o4 x (sel_mem _ _ _ x hx)) (by simpa using hok) (h.below (Nat.le_refl _) ((Below.refl _ _).alloc (Nat.le_refl _) _)) (.inr ⟨W.heap.size, 0, rfl, by simp, by intro i hi; have h0 : i = 0 := (by simpa using hi); subst h0; simp⟩) (by have := sel_length false [(k : Int)] ps; omega) (by simp)
        have C2 := Lib.hid c2
        have C3 := Lib.hid c3
        have HS := Lib.hid hst
        have HBA := Lib.hid hba
        clear c2 c3 hst hcb hba
        go_wp2_with (first
          | (go_at_call 114; refine C2.out.mono ?_; rintro e w2 ⟨q1, d1, q2, d2, rfl, _, r2, hb2⟩; have hz2 : wr.heap.size + 1 < w2.heap.size := (by have := hb2.size; simp at this; omega); have p1 : w2.cell? ⟨wr.heap.size, 0, none⟩ = some (.int .i64 p.1) := ((bcell hb2).1 _ _ (by simp <;> omega)).trans (by simp <;> omega); have p2 : w2.cell? ⟨wr.heap.size, 1, none⟩ = some (.int .i64 p.2) := ((bcell hb2).1 _ _ (by simp <;> omega)).trans (by simp <;> omega))
          | (go_at_call 115; refine (C3.out w2 q2 d2 r2).mono ?_; rintro e w3 ⟨rfl, hb3⟩; have ha3 : Below w2.heap.size w2 w3 := al0 ((Below.refl _ _).alloc (Nat.le_refl _) _) hb3 (by simp <;> omega); have hz3 : w2.heap.size < w3.heap.size := (by have := hb3.size; simp at this; omega); have hz4 : wr.heap.size < w3.heap.size := (by omega); have p3 := ((bcell ha3).1 wr.heap.size 0 (by omega)).trans p1; have p4 := ((bcell ha3).1 wr.heap.size 1 (by omega)).trans p2; have hb5 : Below wr.heap.size wr w3 := (al0 HBA.out hb2 (by simp <;> omega)).trans (ha3.mono (by omega)); have HO3 := Lib.hid (owns_below HO.out (Nat.le_refl _) hb5))
          | (at_builtin; refine app_place _ rfl (.tmp 40) (.tmp 42) rfl w1.heap.size _ _ p rfl ((HO3.out.alloc _).alloc _) (w3.heap.size + 1) 1 rfl (by simp) (by simp) (by omega) (by simp; omega) ?_; intro v' w4 hown4 hgrow hblk))
        · have hy : sepB (sel false [(k : Int)] ps) [p] = true := by assumption
          have e1 := HS.out
          rw [if_pos hy] at e1
          have hb6 := grown_below ((HO3.out.alloc (.cells #[.int .i64 (sepG (sel false [(k : Int)] ps) [p]).1, .int .i64 (sepG (sel false [(k : Int)] ps) [p]).2.1, .int .i64 (sepG (sel false [(k : Int)] ps) [p]).2.2] 28)).alloc (.cells #[.int .i64 p.1, .int .i64 p.2] 26)) (by simp; omega) hgrow
          have hbn := (((hbel.trans (hb5.mono hw1)).alloc (by omega) (.cells #[.int .i64 (sepG (sel false [(k : Int)] ps) [p]).1, .int .i64 (sepG (sel false [(k : Int)] ps) [p]).2.1, .int .i64 (sepG (sel false [(k : Int)] ps) [p]).2.2] 28)).alloc (by simp; omega) (.cells #[.int .i64 p.1, .int .i64 p.2] 26)).trans hb6
          go_roundw
          case rel => exact ⟨k + 1, hlt, by go_num, by rw [e1]; exact hown4, hbn⟩
          case measure => simp [intOf]; omega
        · have hy : sepB (sel false [(k : Int)] ps) [p] = false := by assumption
          have e1 := HS.out
          rw [if_neg (by simp [hy]), List.append_nil] at e1
          go_roundw
          case rel => exact ⟨k + 1, hlt, by go_num, by rw [e1]; exact HO3.out.alloc _, (hbel.trans (hb5.mono hw1)).alloc (by omega) _⟩
          case measure => simp [intOf]; omega
      · obtain rfl : k = ps.length := by omega
        have ho := HO.out
        rw [HFR.out] at ho
        obtain ⟨g, cp, rfl, hg1, hg2, hput, hcp1, hcp2⟩ := putP_of_owns ho (by simp)
        clear HO ho
        obtain ⟨a1, a2, a3, a4⟩ := hput 0 (by simp)
        simp only [List.getD_cons_zero, Nat.zero_mul, Nat.add_zero] at a1 a2
        have hput2 : PutP wr g 2 r := by
          intro i hi
          have h := hput (i + 1) (by simpa using hi)
          rw [List.getD_cons_succ, show 0 + (i + 1) * 2 = 2 + i * 2 by omega] at h
          exact h
        have HPU := Lib.hid hput2
        rw [List.length_cons] at hcp1 ⊢
        clear hput hput2 a3 a4
        have HRR := Lib.hid hrr
        have HL := Lib.hid hrl
        obtain ⟨n, hn⟩ : ∃ n, r.length = n := ⟨_, rfl⟩
        rw [hn] at hcp1 hrl ⊢
        have HN := Lib.hid hn
        clear hrr hn
        obtain ⟨N, hN⟩ : ∃ N, N = n + 1 := ⟨_, rfl⟩
        rw [← hN] at hcp1 ⊢
        have HNN := Lib.hid hN
        have hr0 : (0 : Int) < (N : Int) := by omega
        have hr1 : (1 : Int) ≤ (N : Int) := by omega
        have hr2 : (N : Int) ≤ (cp : Int) := by omega
        have HCP := Lib.hid hcp2
        have hgw : g ≠ wr.heap.size := by omega
        have c85 : ∀ cap, Calls Try.prog 85 #[.slice (if cp = 1 then some ⟨g, 0, none⟩ else some ⟨g, 2, none⟩) r.length cap, .func (.func 116) #[] #[.pointer (some ⟨wr.heap.size, 0, none⟩)]] (wr.alloc (.cells #[.int .i64 f.1, .int .i64 f.2] 26)) fun e w' =>
            e = .returned (.tuple #[]) ∧ ∃ l, l.Perm r ∧ TurnSorted f l ∧ PutP w' g 2 l ∧ (∀ o, o < 2 → w'.cell? ⟨g, o, none⟩ = (wr.alloc (.cells #[.int .i64 f.1, .int .i64 f.2] 26)).cell? ⟨g, o, none⟩) ∧ Below g (wr.alloc (.cells #[.int .i64 f.1, .int .i64 f.2] 26)) w' := by
          intro cap
          by_cases hc1 : cp = 1
          · have hr0 : r = [] := List.eq_nil_of_length_eq_zero (by have := HN.out; omega)
            rw [if_pos hc1]
            refine (sortF_any f hf wr.heap.size g 0 cap r HRR.out (wr.alloc (.cells #[.int .i64 f.1, .int .i64 f.2] 26)) (by simp) (by simp) (by simp) hgw.symm (by simp; omega) HL.out (by rw [hr0]; intro i hi; simp at hi)).mono ?_
            rintro e w4 ⟨rfl, l, h1, h2, h3, h4, h5⟩
            have hl0 : l = [] := by rw [hr0] at h1; exact List.Perm.eq_nil h1
            exact ⟨rfl, l, h1, h2, by rw [hl0]; intro i hi; simp at hi, fun o _ => h4 o (.inr (by rw [hr0]; simp)), h5⟩
          · rw [if_neg hc1]
            refine (sortF_any f hf wr.heap.size g 2 cap r HRR.out (wr.alloc (.cells #[.int .i64 f.1, .int .i64 f.2] 26)) (by simp) (by simp) (by simp) hgw.symm (by simp; omega) HL.out (by
              intro i hi
              obtain ⟨x1, x2, x3, x4⟩ := HPU.out i hi
              exact ⟨(World.cell?_alloc_old _ _ _ hgw).trans x1, (World.cell?_alloc_old _ _ _ hgw).trans x2, (World.frozen?_alloc_old _ _ _ hgw).trans x3, (World.frozen?_alloc_old _ _ _ hgw).trans x4⟩)).mono ?_
            rintro e w4 ⟨rfl, l, h1, h2, h3, h4, h5⟩
            exact ⟨rfl, l, h1, h2, h3, fun o ho => h4 o (.inl ho), h5⟩
        rw [HN.out] at c85
        have hNn : (N : Int) - 1 = (n : Int) := by omega
        have hNn2 : N - 1 = n := by omega
        have C85 := Lib.hid c85
        clear hN hcp2 hcp1 hrl c85
        go_wp2_with (go_at_call 85; refine (C85.out _).mono ?_; rintro e w4 ⟨rfl, l, hperm, hsort, hpl, hkeep, hb4⟩)
        all_goals
          have hbn := (HB1.out.trans ((hbel.alloc hbel.size (.cells #[.int .i64 f.1, .int .i64 f.2] 26)).mono hb1.size)).trans (hb4.mono (by have := hb1.size; omega))
          have hlen : N = (f :: l).length := by rw [HNN.out, List.length_cons, hperm.length_eq, HN.out]
          have hrow : RowP w4 (some ⟨g, 0, none⟩) (f :: l) := by
            refine .inr ⟨g, 0, rfl, ?_, ?_⟩
            · have := hb4.size; simp at this; omega
            · intro i hi
              cases i with
              | zero =>
                rw [List.getD_cons_zero]
                exact ⟨(hkeep 0 (by omega)).trans ((World.cell?_alloc_old _ _ _ hgw).trans a1), (hkeep 1 (by omega)).trans ((World.cell?_alloc_old _ _ _ hgw).trans a2)⟩
              | succ j =>
                obtain ⟨x1, x2, _, _⟩ := hpl j (by simpa using hi)
                rw [List.getD_cons_succ, show 0 + (j + 1) * 2 = 2 + j * 2 by omega]
                exact ⟨x1, x2⟩
          go_ret2
          have hcpm := HCP.out
          have hfin : ∀ c : Nat, N ≤ c → c ≤ maxLen → HullC w ps (.returned (.tuple #[.slice (some ⟨g, 0, none⟩) N c, .int .i64 0])) w4 :=
            fun c h1 h2 => ⟨f :: l, g, c, by rw [hlen], ⟨f, r, l, HFR.out, hperm, hsort, rfl⟩, hrow, by rw [← hlen]; exact h1, h2, hbn⟩
          exact hfin _ (by omega) (by first | exact hcpm | (unfold maxLen at *; omega))

set_option maxHeartbeats 400000 in
theorem turn83_any (o p q : Pl) (w : World) (ho : NV.inG o) (hp : NV.inG p) (hq : NV.inG q) :
    Calls Try.prog 83 #[.agg #[.int .i64 o.1, .int .i64 o.2], .agg #[.int .i64 p.1, .int .i64 p.2], .agg #[.int .i64 q.1, .int .i64 q.2]] w fun e w' => e = .returned (.int .i64 (NV.trn o p q)) ∧ Below w.heap.size w w' := by
  obtain ⟨⟨o1, o2⟩, o3, o4⟩ := ho
  obtain ⟨⟨p1, p2⟩, p3, p4⟩ := hp
  obtain ⟨⟨q1, q2⟩, q3, q4⟩ := hq
  have m1 := mul_small (x := p.1 - o.1) (y := q.2 - o.2) (a := 6) (b := 6) ⟨by omega, by omega⟩ ⟨by omega, by omega⟩
  have m2 := mul_small (x := p.2 - o.2) (y := q.1 - o.1) (a := 6) (b := 6) ⟨by omega, by omega⟩ ⟨by omega, by omega⟩
  obtain ⟨m11, m12⟩ := m1
  obtain ⟨m21, m22⟩ := m2
  go_enter Try.func83, Try.ntmps83
  go_wp2
  go_ret
  exact ⟨ret_int rfl, ((Below.refl w.heap.size w).alloc (Nat.le_refl _) _ |>.alloc (by simp) _ |>.alloc (by simp; omega) _)⟩

def OwnP (w : World) (ps : List Pl) (e : Ending) (w' : World) : Prop := ∃ v, e = .returned v ∧ w'.ownsRow w.heap.size 26 2 v ps.length (flatP ps) ∧ Below w.heap.size w w'
theorem eqNil39 (w : World) (a : Option Addr) (n c : Nat) : (binOp .eql 39 (.slice a n c) (.slice none 0 0)).run Try.prog w = .ok (.bool a.isNone) w := Lib.run_eql_slice_nil w 39 26 a n c 0 0 Try.underlying39
attribute [local go_sem] eqNil39
set_option maxRecDepth 100000 in
set_option maxHeartbeats 400000 in
theorem cloneP_any (ad : Addr) (c : Nat) (ps : List Pl) (w : World) (hr : RowP w (some ad) ps) (hl : ps.length ≤ 1000) :
    Calls Try.prog 84 #[.slice (some ad) ps.length c] w (OwnP w ps) := by
  have hb0 : Below w.heap.size w (w.alloc (.cells #[] 26)) := (Below.refl _ _).alloc (Nat.le_refl _) _
  have hr' := hr.below (Nat.le_refl _) hb0
  have hown : (w.alloc (.cells #[] 26)).ownsRow w.heap.size 26 2 (.slice (some ⟨w.heap.size, 0, none⟩) 0 0) ([] : List Pl).length (flatP []) :=
    World.ownsRow_made (base := w.heap.size) (e := 26) (size := 2) w #[] 0 (Nat.le_refl _) (by decide) rfl
  have HR := Lib.hid hr'
  have HO := Lib.hid hown
  have HB := Lib.hid hb0
  clear hr hr' hown hb0
  go_enter Try.func84, Try.ntmps84
  go_wp2_with (at_builtin; refine app_pls _ rfl (.tmp 5) (.tmp 6) rfl w.heap.size _ [] ps rfl HO.out (some ad) c rfl (by intro h; cases h) HR.out (by simp; omega) (by simp) ?_; intro v' w' hown' hgrow)
  have hb := grown_below HO.out (by simp) hgrow
  go_ret
  exact ⟨v', rfl, hown', HB.out.trans hb⟩

/-! parts of a row -/
theorem slice_to (w : World) (g n c k : Nat) (hk : k ≤ c) : (Instr.sliceAt 39 (.slice (some ⟨g, 0, none⟩) n c) none (some (.int .i64 (k : Int))) none).run Try.prog w = .ok (.slice (some ⟨g, 0, none⟩) k c) w := by
  have hu : Try.prog.underlying 39 = some (.slice (Try.prog.elem 39)) := by kernel_rfl
  have hs : (sizeOf (Try.prog.elem 39)).run Try.prog w = .ok 2 w := by kernel_rfl
  have ha : (⟨g, 0, none⟩ : Addr).add 0 = ⟨g, 0, none⟩ := addr_add_off g 0 0
  rw [run_sliceAt_slice w 39 _ _ _ _ hu, run_slice_h w 39 _ n c hu .i64 (k : Int) (by omega) (by omega), hs]
  simp [Result.andThen, sliced, ha]
def qlo (g c k : Nat) : Option Addr := if c = k + 1 then some ⟨g, 0, none⟩ else some ⟨g, (k + 1) * 2, none⟩
theorem slice_from (w : World) (g n c k : Nat) (h : k + 1 ≤ n) (hc : n ≤ c) : (Instr.sliceAt 39 (.slice (some ⟨g, 0, none⟩) n c) (some (.int .i64 ((k : Int) + 1))) none none).run Try.prog w = .ok (.slice (qlo g c k) (n - (k + 1)) (c - (k + 1))) w := by
  have hu : Try.prog.underlying 39 = some (.slice (Try.prog.elem 39)) := by kernel_rfl
  have hs : (sizeOf (Try.prog.elem 39)).run Try.prog w = .ok 2 w := by kernel_rfl
  have ha : (⟨g, 0, none⟩ : Addr).add ((k + 1) * 2) = ⟨g, (k + 1) * 2, none⟩ := by rw [addr_add_off]; simp
  have hn : ((k : Int) + 1).toNat = k + 1 := by omega
  rw [run_sliceAt_slice w 39 _ _ _ _ hu, run_slice_any w 39 _ n c hu]
  have hb : (Instr.sliceBounds true n c (some (.int .i64 ((k : Int) + 1))) none none).run Try.prog w = .ok (k + 1, n, c) w := by
    simp [Instr.sliceBounds, run_sliceBound, go_sem, show (0 : Int) ≤ (k : Int) + 1 by omega, show (k : Int) + 1 ≤ (n : Int) by omega, hn]
  rw [hb]
  simp only [Result.andThen]
  rw [hs]
  simp only [Result.andThen, sliced, qlo]
  by_cases he : c = k + 1
  · rw [if_pos he, if_pos he]
  · rw [if_neg he, if_neg he, Option.map_some, ha]
theorem row_to {W : World} {g : Nat} {l : List Pl} (h : RowP W (some ⟨g, 0, none⟩) l) (k : Nat) (hk : k ≤ l.length) : RowP W (some ⟨g, 0, none⟩) (l.take k) := by
  rcases h with rfl | ⟨b, off, e, hb, hc⟩
  · exact .inl (by simp)
  · refine .inr ⟨b, off, e, hb, fun i hi => ?_⟩
    rw [List.length_take] at hi
    have := hc i (by omega)
    rwa [getD_eq l i (0, 0) (by omega), ← List.getElem_take (h := by rw [List.length_take]; omega), ← getD_eq (l.take k) i (0, 0) (by rw [List.length_take]; omega)] at this
theorem row_from {W : World} {g c : Nat} {l : List Pl} (h : RowP W (some ⟨g, 0, none⟩) l) (k : Nat) (hk : k + 1 ≤ l.length) (hc : l.length ≤ c) : RowP W (qlo g c k) (l.drop (k + 1)) := by
  by_cases h0 : l.length = k + 1
  · exact .inl (List.drop_eq_nil_of_le (by omega))
  · rcases h with rfl | ⟨b, off, e, hb, hcc⟩
    · simp at hk
    · simp only [Option.some.injEq, Addr.mk.injEq, and_true] at e
      obtain ⟨rfl, rfl⟩ := e
      refine .inr ⟨g, (k + 1) * 2, by rw [qlo, if_neg (by omega)], hb, fun i hi => ?_⟩
      rw [List.length_drop] at hi
      have := hcc (k + 1 + i) (by omega)
      rw [getD_eq l (k + 1 + i) (0, 0) (by omega)] at this
      rw [getD_eq (l.drop (k + 1)) i (0, 0) (by rw [List.length_drop]; omega), List.getElem_drop]
      rw [show 0 + (k + 1 + i) * 2 = (k + 1) * 2 + i * 2 by omega] at this
      exact this
theorem qlo_none (g c k : Nat) : qlo g c k ≠ none := by unfold qlo; split <;> simp
end Go.Proofs.Ytcalipoknbbaaaa
namespace Go.Proofs.Ytcalipoknbbaaaa
open Go.RowKit
set_option linter.unusedSimpArgs false
set_option linter.unusedVariables false
attribute [local go_sem] equal26 guard26
attribute [local go_sem ↓] slice_to slice_from

set_option maxHeartbeats 400000 in
theorem corn1_any (p q : Pl) (w : World) (hp : NV.inG p) (hq : NV.inG q) :
    Calls Try.prog 86 #[.agg #[.int .i64 p.1, .int .i64 p.2], .agg #[.int .i64 q.1, .int .i64 q.2]] w fun e w' => e = .returned (.int .i64 (cfM p q)) ∧ ∃ n os', w' = Sort.grow (w.drewN n) os' := by
  obtain ⟨⟨p1, p2⟩, p3, p4⟩ := hp
  obtain ⟨⟨q1, q2⟩, q3, q4⟩ := hq
  go_enter Try.func86, Try.ntmps86
  go_wp2
  go_ret
  exact ⟨ret_int rfl, 0, _, by rw [Sort.alloc_eq_grow, Sort.alloc_eq_grow, Sort.grow_grow]; rfl⟩
theorem cmp86 : CmpM 86 := ⟨enters_of Try.func86 (by kernel_rfl) rfl, corn1_any⟩
theorem rowP_oneC (w : World) (p : Pl) : RowP (w.alloc (.cells #[.int .i64 p.1, .int .i64 p.2] 26)) (some ⟨w.heap.size, 0, none⟩) [p] := by
  refine .inr ⟨w.heap.size, 0, rfl, by simp, fun i hi => ?_⟩
  obtain rfl : i = 0 := by simpa using hi
  simp
theorem Inv.sub {w W : World} {G : List (Option Addr × Nat × List Gl)} {P P' : List (Option Addr × List Pl)} {I I' : List (Option Addr × List Int)} {C C' : List (Nat × Nat × Value)} (h : Inv w W G P I C)
    (hP : ∀ x ∈ P', x ∈ P) (hI : ∀ x ∈ I', x ∈ I) (hC : ∀ x ∈ C', x ∈ C) : Inv w W G P' I' C' :=
  ⟨h.1, fun x hx => h.2.1 x (hP x hx), fun x hx => h.2.2.1 x (hI x hx), fun x hx => h.2.2.2.1 x (hC x hx), h.2.2.2.2⟩

set_option maxRecDepth 100000 in
set_option maxHeartbeats 8000000 in
theorem SeamCorners_any (m : Nat) (ls : List B2) (hm : m < 256) (hls : ls.length = 12) (hok : ∀ x ∈ ls, ok2 x) (x : B2) (hx : ok2 x) (w : World) :
    Calls Try.prog 14 #[.agg (spotCells m ls), .agg #[.int .u8 x.1, .int .u8 x.2]] w fun e w' => e = .returned (.bool true) ∧ Below w.heap.size w w' := by
  obtain ⟨x0, x1⟩ := x
  obtain ⟨hx0, hx1⟩ := hx
  have c0 := fun W => madesC_any m ls hm hls hok W
  have C0 := Lib.hid c0
  have HLS := Lib.hid hls
  have HSP := Lib.hid ((SpotAt.new w m ls).below (N := w.heap.size + 1) (by omega) ((Below.refl _ _).alloc (by simp) (.cells #[.int .u8 x0, .int .u8 x1] 110)))
  have HB0 := Lib.hid (below_two w (.cells (spotCells m ls) 113) (.cells #[.int .u8 x0, .int .u8 x1] 110))
  have y0 := Nat.mod_lt x0 (show 0 < 7 by decide)
  have y1 := Nat.mod_lt x1 (show 0 < 7 by decide)
  clear c0 hls hok hm
  go_enter Try.func14, Try.ntmps14
  go_upto_region 2 with (first
    | (refine wpList_load113 _ _ m ls HLS.out HSP.out (.tmp 2) rfl rfl rfl ?_)
    | (go_at_call 79; refine (C0.out _).mono ?_; rintro e w1 ⟨l, g, c, rfl, hup, hr1, hcl, hcm, hb1⟩))
  have z1 := hb1.size
  have hz1 : w.heap.size + 2 ≤ w1.heap.size := by simpa using z1
  have b0 : w1.cell? ⟨w.heap.size + 1, 0, none⟩ = some (.int .u8 x0) := (hb1.cell (p := ⟨w.heap.size + 1, 0, none⟩) (by simp)).trans (by simp)
  have b1 : w1.cell? ⟨w.heap.size + 1, 1, none⟩ = some (.int .u8 x1) := (hb1.cell (p := ⟨w.heap.size + 1, 1, none⟩) (by simp)).trans (by simp)
  have hI : Inv w w1 [] [(some ⟨g, 0, none⟩, l)] [] [(w.heap.size + 1, 1, .int .u8 x1), (w.heap.size + 1, 0, .int .u8 x0)] :=
    ((((Inv.start w).go (HB0.out.trans (hb1.mono (by simp; omega)))).addP hr1).addC b0 (by omega)).addC b1 (by omega)
  have HI := Lib.hid hI
  have HUP := Lib.hid hup
  have hl12 := hup.2.1
  have HIG := Lib.hid hup.2.2.1
  have hl0 : 0 < l.length := List.length_pos_iff.2 hup.1
  have HE := Lib.hid hup.err
  have HCM := Lib.hid hcm
  clear hI hb1 hr1 z1 b0 b1 C0 HLS HSP HB0 hup hcm
  go_upto_region 3 with (go_at_call 49; refine (HullC_any (some ⟨g, 0, none⟩) c l _ (HI.out.2.1 (some ⟨g, 0, none⟩, l) (by simp)) HE.out).mono ?_; rintro e W ⟨cs, g2, c2, rfl, hul, hr2, hc2, hc2m, hb2⟩)
  have HI2 := Lib.hid ((HI.out.go hb2).addP hr2)
  have hco := hull_corners HUP.out hul
  have HCO := Lib.hid hco
  have hc0 : 0 < cs.length := hco.pos
  have hcle : cs.length ≤ l.length := hco.le
  have hhd := hco.head
  have HCM2 := Lib.hid hc2m
  clear HI hb2 hr2 hul hco hc2m
  obtain ⟨bb, oo, e1, hzb, a0, a1⟩ := (HI2.out.2.1 (some ⟨g, 0, none⟩, l) (by simp)).at hl0 (Nat.le_refl _) (Below.refl _ _)
  obtain ⟨bb2, oo2, e2, hzb2, a2, a3⟩ := (HI2.out.2.1 (some ⟨g2, 0, none⟩, cs) (by simp)).at hc0 (Nat.le_refl _) (Below.refl _ _)
  obtain ⟨rfl, rfl⟩ : g = bb ∧ 0 = oo := by simpa using e1
  obtain ⟨rfl, rfl⟩ : g2 = bb2 ∧ 0 = oo2 := by simpa using e2
  rw [hhd] at a2 a3
  generalize l.getD 0 (0, 0) = f at a0 a1 a2 a3
  obtain ⟨f1, f2⟩ := f
  dsimp only at a0 a1 a2 a3
  simp only [Nat.zero_mul, Nat.zero_add, Nat.add_zero] at a0 a1 a2 a3
  have hq0 : ((cs.length : Int) == 0) = false := beq_eq_false_iff_ne.2 (by omega)
  have hq1 : decide ((l.length : Int) < (cs.length : Int)) = false := decide_eq_false (by omega)
  have hq2 : (0 : Int) < (cs.length : Int) := by omega
  have hq3 : (0 : Int) < (l.length : Int) := by omega
  clear e1 e2 hhd
  go_quiet (fail)
  clear a0 a1 a2 a3 hq0 hq1 hq2 hq3
  go_upto_region 6 with fail
  have hdf : decide (l.length < cs.length) = false := decide_eq_false (by omega)
  rw [hdf]
  clear hdf
  have HCLE := Lib.hid hcle
  clear hcle
  go_loopw [52] (fun i wr => ∃ k : Nat, k ≤ l.length ∧ i = .int .i64 k ∧ Inv w wr [] [(some ⟨g2, 0, none⟩, cs), (some ⟨g, 0, none⟩, l)] [] [(w.heap.size + 1, 1, .int .u8 x1), (w.heap.size + 1, 0, .int .u8 x0)]) (fun i _ => l.length - (intOf i).toNat)
  case atStart => exact ⟨0, Nat.zero_le _, rfl, HI2.out.go (below_drewN (Below.refl _ _) _)⟩
  case round =>
    clear HI2
    obtain ⟨k, hk, rfl, hI⟩ := hrel
    have HI := Lib.hid hI
    clear hI
    by_cases hlt : k < l.length
    · obtain ⟨bb, oo, e1, hzb, a0, a1⟩ := (HI.out.2.1 (some ⟨g, 0, none⟩, l) (by simp)).at hlt (Nat.le_refl _) (Below.refl _ _)
      obtain ⟨rfl, rfl⟩ : g = bb ∧ 0 = oo := by simpa using e1
      rw [getD_eq l k (0, 0) hlt] at a0 a1
      have hpi := HIG.out _ (List.getElem_mem hlt)
      have hlaw := corner_law HUP.out hlt
      have hhas := Corners.has HUP.out HCO.out hlt
      generalize l[k] = p at *
      obtain ⟨p1, p2⟩ := p
      dsimp only at a0 a1
      clear e1
      simp only [Nat.zero_add] at a0 a1
      go_upto_region 8 with fail
      have hI : Inv w (wr.alloc (.cells #[.int .i64 p1, .int .i64 p2] 26)) [] [(some ⟨g2, 0, none⟩, cs), (some ⟨g, 0, none⟩, l)] [] [(wr.heap.size, 1, .int .i64 p2), (wr.heap.size, 0, .int .i64 p1), (w.heap.size + 1, 1, .int .u8 x1), (w.heap.size + 1, 0, .int .u8 x0)] :=
        ((HI.out.alloc (.cells #[.int .i64 p1, .int .i64 p2] 26)).addC (b := wr.heap.size) (o := 0) (v := .int .i64 p1) (by simp) (by simp)).addC (b := wr.heap.size) (o := 1) (v := .int .i64 p2) (by simp) (by simp)
      replace HI := Lib.hid hI
      generalize (wr.alloc (.cells #[.int .i64 p1, .int .i64 p2] 26)) = W0 at *
      generalize wr.heap.size = B9 at *
      have hrl := HI.out.2.1 (some ⟨g, 0, none⟩, l) (by simp)
      have hk1 : k + 1 ≤ l.length := hlt
      have hT := twoP2_new W0 (some ⟨g, 0, none⟩) (qlo g c k) c (c - (k + 1)) (l.take k) (l.drop (k + 1)) (row_to hrl k hk) (row_from hrl k hk1 hcl) (by simp) (fun h => absurd h (qlo_none g c k))
      have ht1 : (l.take k).length = k := by rw [List.length_take]; omega
      have ht2 : (l.drop (k + 1)).length = l.length - (k + 1) := List.length_drop
      have hT2 := hT.below (Nat.le_refl _) (Below.refl _ _).drew
      have hC82 := concatP_any _ 2 _ _ _ _ _ _ _ hT2 (by omega)
      rw [ht1, ht2] at hC82
      have C82 := Lib.hid hC82
      have HID := Lib.hid ((HI.out.alloc (.cells #[.slice (some ⟨g, 0, none⟩) k c, .slice (qlo g c k) (l.length - (k + 1)) (c - (k + 1))] 39)).go (Below.refl _ _).drew)
      clear hI a0 a1 hrl hT hT2 hC82 ht1 ht2
      have hk0 : (0 : Int) ≤ (k : Int) := by omega
      have hkc : k ≤ c := by omega
      have hkw : IntKind.i64.wrap ((k : Int) + 1) = (k : Int) + 1 := IntWalk.i64_in _ ⟨by omega, by omega⟩
      have f0 := HI.out.c (b := B9) (o := 0) (v := .int .i64 p1) (by simp)
      have f1 := HI.out.c (b := B9) (o := 1) (v := .int .i64 p2) (by simp)
      have i0 := HID.out.c (b := B9) (o := 0) (v := .int .i64 p1) (by simp)
      have i1 := HID.out.c (b := B9) (o := 1) (v := .int .i64 p2) (by simp)
      go_region_held3 (fun W => W.cell? ⟨B9, 0, none⟩ = some (.int .i64 p1) ∧ W.cell? ⟨B9, 1, none⟩ = some (.int .i64 p2)) (first | exact ⟨f0, f1⟩ | exact ⟨i0, i1⟩ | exact ⟨d0, d1⟩ | go_keep)
        (first
        | (go_at_call 82; refine C82.out.mono ?_; rintro e V ⟨q3, c3, rfl, hr3, hq3, hb3⟩; have HJ := Lib.hid (HID.out.go hb3); have d0 := HJ.out.c (b := B9) (o := 0) (v := .int .i64 p1) (by simp); have d1 := HJ.out.c (b := B9) (o := 1) (v := .int .i64 p2) (by simp))
        | fail)
      have hlen : k + (l.length - (k + 1)) = (butI l k).length := by
        rw [butI, List.length_append, List.length_take, List.length_drop]; omega
      have hRi : ∀ r ∈ butI l k, NV.inG r := fun r hr => HIG.out r ((mem_but HUP.out.nodup hlt r).1 hr).1
      have hRl : (butI l k).length ≤ 12 := by rw [← hlen]; omega
      have hr3' : RowP V q3 (butI l k) := hr3
      rw [hlen]
      clear hlen f0 f1 i0 i1 hkw hk0 hkc HID C82 hr3
      generalize butI l k = R at *
      generalize cornB l k = yes at *
      have HJR := Lib.hid (HJ.out.addP hr3')
      have HRI := Lib.hid hRi
      have HQ3 := Lib.hid hq3
      have HHAS := Lib.hid hhas
      clear hr3' hRi hq3 hhas HJ hb3
      by_cases h0 : R.length = 0
      · have hyes : yes = true := by rw [← hlaw, decide_eq_true h0]; rfl
        have hz : ((R.length : Int) == 0) = true := by simp [h0]
        subst hyes
        clear hlaw h0
        go_wp2_with (go_at_call 77; refine (HJR.out.scalar (V' := .bool true) (containsPl_any (p1, p2) (some ⟨g2, 0, none⟩) c2 cs _ (HJR.out.2.1 (some ⟨g2, 0, none⟩, cs) (by simp)) (by have := HCLE.out; omega)) (by rw [HHAS.out])).mono ?_; rintro e V2 ⟨rfl, hI⟩; have HF := Lib.hid hI; clear hI)
        go_roundw
        case rel => exact ⟨k + 1, hlt, by go_num, HF.out.sub (by simp) (by simp) (by simp)⟩
        case measure => simp [intOf]; omega
      · have hz : ((R.length : Int) == 0) = false := beq_eq_false_iff_ne.2 (by omega)
        have hty : toldB R [(p1, p2)] = yes := by rw [← hlaw, decide_eq_false h0]; rfl
        have HTY := Lib.hid hty
        have hpo : RowP (V.alloc (.cells #[.int .i64 p1, .int .i64 p2] 26)) (some ⟨V.heap.size, 0, none⟩) [(p1, p2)] := rowP_oneC V (p1, p2)
        have HPO := Lib.hid hpo
        have HPI := Lib.hid (one_inC hpi)
        have hnx : (yes != yes) = false := by cases yes <;> rfl
        clear hlaw h0 hty hpo
        go_wp2_with (first
          | (go_at_call 81; refine ((HJR.out.alloc (.cells #[.int .i64 p1, .int .i64 p2] 26)).scalar (V' := .bool yes) (told_any q3 (some ⟨V.heap.size, 0, none⟩) c3 1 R [(p1, p2)] _ HRI.out HPI.out ((HJR.out.2.1 (q3, R) (by simp)).below (Nat.le_refl _) ((Below.refl _ _).alloc (Nat.le_refl _) _)) HPO.out HQ3.out (by simp) (by omega) (by simp)) (by rw [HTY.out])).mono ?_; rintro e V2 ⟨rfl, hI⟩; have HK := Lib.hid hI; clear hI d0 d1; have d0 := HK.out.c (b := B9) (o := 0) (v := .int .i64 p1) (by simp); have d1 := HK.out.c (b := B9) (o := 1) (v := .int .i64 p2) (by simp))
          | (go_at_call 77; refine (HK.out.scalar (V' := .bool yes) (containsPl_any (p1, p2) (some ⟨g2, 0, none⟩) c2 cs _ (HK.out.2.1 (some ⟨g2, 0, none⟩, cs) (by simp)) (by have := HCLE.out; omega)) (by rw [HHAS.out])).mono ?_; rintro e V3 ⟨rfl, hI⟩; have HF := Lib.hid hI; clear hI))
        go_roundw
        case rel => exact ⟨k + 1, hlt, by go_num, HF.out.sub (by simp) (by simp) (by simp)⟩
        case measure => simp [intOf]; omega
    · obtain rfl : k = l.length := by omega
      go_upto_region 14 with fail
      go_loopw [83] (fun i wr => ∃ k : Nat, k ≤ cs.length ∧ i = .int .i64 k ∧ Inv w wr [] [(some ⟨g2, 0, none⟩, cs), (some ⟨g, 0, none⟩, l)] [] [(w.heap.size + 1, 1, .int .u8 x1), (w.heap.size + 1, 0, .int .u8 x0)]) (fun i _ => cs.length - (intOf i).toNat)
      case atStart => exact ⟨0, Nat.zero_le _, rfl, HI.out⟩
      case round =>
        clear HI
        obtain ⟨k, hk, rfl, hI⟩ := hrel
        have HI := Lib.hid hI
        clear hI
        by_cases hlt : k < cs.length
        · obtain ⟨bb, oo, e1, hzb, a0, a1⟩ := (HI.out.2.1 (some ⟨g2, 0, none⟩, cs) (by simp)).at hlt (Nat.le_refl _) (Below.refl _ _)
          obtain ⟨rfl, rfl⟩ : g2 = bb ∧ 0 = oo := by simpa using e1
          have hin := HCO.out.in_row hlt
          have hnb := HCO.out.not_before hlt
          have htn := HCO.out.turn k hlt
          have hpm := (HCO.out.mem _).1 (List.getElem_mem hlt)
          rw [getD_eq cs k (0, 0) hlt] at a0 a1 htn
          have hpi := HIG.out _ hpm.1
          generalize cs[k] = p at *
          obtain ⟨p1, p2⟩ := p
          dsimp only at a0 a1
          clear e1 hpm
          simp only [Nat.zero_add] at a0 a1
          go_upto_region 16 with fail
          have hI : Inv w (wr.alloc (.cells #[.int .i64 p1, .int .i64 p2] 26)) [] [(some ⟨g2, 0, none⟩, cs), (some ⟨g, 0, none⟩, l)] [] [(wr.heap.size, 1, .int .i64 p2), (wr.heap.size, 0, .int .i64 p1), (w.heap.size + 1, 1, .int .u8 x1), (w.heap.size + 1, 0, .int .u8 x0)] :=
            ((HI.out.alloc (.cells #[.int .i64 p1, .int .i64 p2] 26)).addC (b := wr.heap.size) (o := 0) (v := .int .i64 p1) (by simp) (by simp)).addC (b := wr.heap.size) (o := 1) (v := .int .i64 p2) (by simp) (by simp)
          replace HI := Lib.hid hI
          generalize (wr.alloc (.cells #[.int .i64 p1, .int .i64 p2] 26)) = W0 at *
          generalize wr.heap.size = B13 at *
          have HID := Lib.hid (HI.out.go (Below.refl _ _).drew)
          have hkc : k ≤ c2 := by omega
          have ht1 : (cs.take k).length = k := by rw [List.length_take]; omega
          have HT1 := Lib.hid ht1
          have HIN := Lib.hid hin
          have HNB := Lib.hid hnb
          have HTN := Lib.hid htn
          clear hI a0 a1 hin hnb htn ht1
          have f0 := HI.out.c (b := B13) (o := 0) (v := .int .i64 p1) (by simp)
          have f1 := HI.out.c (b := B13) (o := 1) (v := .int .i64 p2) (by simp)
          have i0 := HID.out.c (b := B13) (o := 0) (v := .int .i64 p1) (by simp)
          have i1 := HID.out.c (b := B13) (o := 1) (v := .int .i64 p2) (by simp)
          go_region_held3 (fun W => W.cell? ⟨B13, 0, none⟩ = some (.int .i64 p1) ∧ W.cell? ⟨B13, 1, none⟩ = some (.int .i64 p2)) (first | exact ⟨f0, f1⟩ | exact ⟨i0, i1⟩ | exact ⟨d0, d1⟩ | exact ⟨j0, j1⟩ | go_keep)
            (first
            | (go_at_call 77; refine (HID.out.scalar (V' := .bool true) (containsPl_any (p1, p2) (some ⟨g, 0, none⟩) c l _ (HID.out.2.1 (some ⟨g, 0, none⟩, l) (by simp)) (by omega)) (by rw [HIN.out])).mono ?_; rintro e V ⟨rfl, hI⟩; have HJ := Lib.hid hI; clear hI; have d0 := HJ.out.c (b := B13) (o := 0) (v := .int .i64 p1) (by simp); have d1 := HJ.out.c (b := B13) (o := 1) (v := .int .i64 p2) (by simp))
            | (go_at_call 77; have hc9 := containsPl_any (p1, p2) (some ⟨g2, 0, none⟩) c2 (cs.take k) _ (row_to (HJ.out.2.1 (some ⟨g2, 0, none⟩, cs) (by simp)) k (by omega)) (by have := HT1.out; omega); rw [HT1.out] at hc9; refine (HJ.out.scalar (V' := .bool false) hc9 (by rw [HNB.out])).mono ?_; rintro e V2 ⟨rfl, hI⟩; have HK := Lib.hid hI; clear hI; have j0 := HK.out.c (b := B13) (o := 0) (v := .int .i64 p1) (by simp); have j1 := HK.out.c (b := B13) (o := 1) (v := .int .i64 p2) (by simp))
            | fail)
          clear f0 f1 i0 i1 d0 d1 j0 j1 HI HID HJ hkc
          have hn0 : 0 < cs.length := by omega
          obtain ⟨n, hn⟩ : ∃ n, (k + 1) % cs.length = n := ⟨_, rfl⟩
          have hnl : n < cs.length := by rw [← hn]; exact Nat.mod_lt _ hn0
          have HNN := Lib.hid hn
          have htn := HTN.out
          rw [hn] at htn
          replace HTN := Lib.hid htn
          clear hn htn
          go_upto_region 19 with fail
          go_loopw [101] (fun i wr => ∃ t : Nat, t ≤ l.length ∧ i = .int .i64 t ∧ Inv w wr [] [(some ⟨g2, 0, none⟩, cs), (some ⟨g, 0, none⟩, l)] [] [(B13, 1, .int .i64 p2), (B13, 0, .int .i64 p1), (w.heap.size + 1, 1, .int .u8 x1), (w.heap.size + 1, 0, .int .u8 x0)]) (fun i _ => l.length - (intOf i).toNat)
          case atStart => exact ⟨0, Nat.zero_le _, rfl, HK.out⟩
          case round =>
            clear HK
            obtain ⟨t, ht, rfl, hI⟩ := hrel
            have HI := Lib.hid hI
            clear hI
            by_cases htl : t < l.length
            · obtain ⟨bb, oo, e1, hzb, a0, a1⟩ := (HI.out.2.1 (some ⟨g, 0, none⟩, l) (by simp)).at htl (Nat.le_refl _) (Below.refl _ _)
              obtain ⟨rfl, rfl⟩ : g = bb ∧ 0 = oo := by simpa using e1
              have htq := HTN.out _ (List.getElem_mem htl)
              rw [getD_eq l t (0, 0) htl] at a0 a1
              have hqi := HIG.out _ (List.getElem_mem htl)
              generalize l[t] = z at *
              obtain ⟨z1, z2⟩ := z
              dsimp only at a0 a1
              simp only [Nat.zero_add] at a0 a1
              clear e1
              go_upto_region 21 with fail
              have hI : Inv w (wr.alloc (.cells #[.int .i64 z1, .int .i64 z2] 26)) [] [(some ⟨g2, 0, none⟩, cs), (some ⟨g, 0, none⟩, l)] [] [(wr.heap.size, 1, .int .i64 z2), (wr.heap.size, 0, .int .i64 z1), (B13, 1, .int .i64 p2), (B13, 0, .int .i64 p1), (w.heap.size + 1, 1, .int .u8 x1), (w.heap.size + 1, 0, .int .u8 x0)] :=
                ((HI.out.alloc (.cells #[.int .i64 z1, .int .i64 z2] 26)).addC (b := wr.heap.size) (o := 0) (v := .int .i64 z1) (by simp) (by simp)).addC (b := wr.heap.size) (o := 1) (v := .int .i64 z2) (by simp) (by simp)
              replace HI := Lib.hid hI
              generalize (wr.alloc (.cells #[.int .i64 z1, .int .i64 z2] 26)) = W0 at *
              generalize wr.heap.size = B15 at *
              have HID := Lib.hid (HI.out.go (Below.refl _ _).drew)
              obtain ⟨bb2, oo2, e2, hzb2, n0, n1⟩ := (HI.out.2.1 (some ⟨g2, 0, none⟩, cs) (by simp)).at hnl (Nat.le_refl _) (Below.refl _ _)
              obtain ⟨rfl, rfl⟩ : g2 = bb2 ∧ 0 = oo2 := by simpa using e2
              obtain ⟨bb3, oo3, e3, hzb3, q0, q1⟩ := (HID.out.2.1 (some ⟨g2, 0, none⟩, cs) (by simp)).at hnl (Nat.le_refl _) (Below.refl _ _)
              obtain ⟨rfl, rfl⟩ : g2 = bb3 ∧ 0 = oo3 := by simpa using e3
              have hni := HIG.out _ ((HCO.out.mem _).1 (getD_mem cs n (0, 0) hnl)).1
              generalize cs.getD n (0, 0) = y at *
              obtain ⟨y1', y2'⟩ := y
              dsimp only at n0 n1 q0 q1
              simp only [Nat.zero_add] at n0 n1 q0 q1
              have hT := turn83_any (p1, p2) (y1', y2') (z1, z2) W0.drew hpi hni hqi
              have HT := Lib.hid hT
              clear hI a0 a1 e2 e3 hT
              have f0 := HI.out.c (b := B13) (o := 0) (v := .int .i64 p1) (by simp)
              have f1 := HI.out.c (b := B13) (o := 1) (v := .int .i64 p2) (by simp)
              have f2' := HI.out.c (b := B15) (o := 0) (v := .int .i64 z1) (by simp)
              have f3 := HI.out.c (b := B15) (o := 1) (v := .int .i64 z2) (by simp)
              have i0 := HID.out.c (b := B13) (o := 0) (v := .int .i64 p1) (by simp)
              have i1 := HID.out.c (b := B13) (o := 1) (v := .int .i64 p2) (by simp)
              have i2 := HID.out.c (b := B15) (o := 0) (v := .int .i64 z1) (by simp)
              have i3 := HID.out.c (b := B15) (o := 1) (v := .int .i64 z2) (by simp)
              have hn := HNN.out
              have hkw : IntKind.i64.wrap ((k : Int) + 1) = (k : Int) + 1 := IntWalk.i64_in _ ⟨by omega, by omega⟩
              have hm1 : ((k : Int) + 1).tmod (cs.length : Int) = (n : Int) := by
                rw [Int.tmod_eq_emod_of_nonneg (by omega), ← hn]; simp
              have hm2 : ((k : Int) + 1) % (cs.length : Int) = (n : Int) := by rw [← hn]; simp
              have hmz : ((cs.length : Int) == 0) = false := beq_eq_false_iff_ne.2 (by omega)
              have hmz2 : ¬ (cs.length : Int) = 0 := by omega
              have hmz3 : ¬ cs.length = 0 := by omega
              have hmz4 : ¬ cs = [] := by intro e; rw [e] at hn0; simp at hn0
              have hnI : (n : Int) < (cs.length : Int) := by omega
              have hn0I : (0 : Int) ≤ (n : Int) := by omega
              clear hn
              go_region_held3 (fun W => W.cell? ⟨B13, 0, none⟩ = some (.int .i64 p1) ∧ W.cell? ⟨B13, 1, none⟩ = some (.int .i64 p2) ∧ W.cell? ⟨B15, 0, none⟩ = some (.int .i64 z1) ∧ W.cell? ⟨B15, 1, none⟩ = some (.int .i64 z2) ∧ W.cell? ⟨g2, n * 2, none⟩ = some (.int .i64 y1') ∧ W.cell? ⟨g2, n * 2 + 1, none⟩ = some (.int .i64 y2')) (first | exact ⟨f0, f1, f2', f3, n0, n1⟩ | exact ⟨i0, i1, i2, i3, q0, q1⟩ | exact ⟨d0, d1, d2, d3, d4, d5⟩ | go_keep)
                (first
                | (go_at_call 83; refine HT.out.mono ?_; rintro e V ⟨rfl, hbv⟩; have HJ := Lib.hid (HID.out.go hbv); have d0 := HJ.out.c (b := B13) (o := 0) (v := .int .i64 p1) (by simp); have d1 := HJ.out.c (b := B13) (o := 1) (v := .int .i64 p2) (by simp); have d2 := HJ.out.c (b := B15) (o := 0) (v := .int .i64 z1) (by simp); have d3 := HJ.out.c (b := B15) (o := 1) (v := .int .i64 z2) (by simp); have d4 := (hbv.cell (p := ⟨g2, n * 2, none⟩) hzb3).trans q0; have d5 := (hbv.cell (p := ⟨g2, n * 2 + 1, none⟩) hzb3).trans q1)
                | fail)
              clear f0 f1 f2' f3 i0 i1 i2 i3 n0 n1 q0 q1 d0 d1 d2 d3 d4 d5 hkw hm1 hm2 hmz hmz2 hmz3 hmz4 hnI hn0I HI HID HT
              generalize NV.trn (p1, p2) (y1', y2') (z1, z2) = tv at *
              have htf : decide (tv < 0) = false := decide_eq_false (by omega)
              go_wp2
              go_roundw
              case rel => exact ⟨t + 1, htl, by go_num, HJ.out.sub (by simp) (by simp) (by simp)⟩
              case measure => simp [intOf]; omega
            · obtain rfl : t = l.length := by omega
              go_wp2
              go_roundw
              case rel => exact ⟨k + 1, hlt, by go_num, HI.out.sub (by simp) (by simp) (by simp)⟩
              case measure => simp [intOf]; omega
        · obtain rfl : k = cs.length := by omega
          have hcr := HI.out.2.1 (some ⟨g2, 0, none⟩, cs) (by simp)
          have HCR := Lib.hid hcr
          have hc12 : cs.length ≤ 12 := by have := HCLE.out; omega
          clear hcr
          go_upto_region 26 with (go_at_call 84; refine (cloneP_any ⟨g2, 0, none⟩ c2 cs _ HCR.out (by omega)).mono ?_; rintro e V ⟨vs, rfl, hos, hbs⟩)
          have hcne : cs ≠ [] := by intro e; rw [e] at hc0; simp at hc0
          obtain ⟨g3, c3, rfl, hg1, hg2, hput, hcp1, hcp2⟩ := putP_of_owns hos hcne
          have hci : ∀ p ∈ cs, NV.inG p := fun p hp => HIG.out p ((HCO.out.mem p).1 hp).1
          have HI2 := Lib.hid hcne
          have c85 := fun cap => sortM_gen cmp86 g3 0 cap cs hci V hg2 (by omega) hput
          have C85 := Lib.hid c85
          clear hput hos c85 HCR HI2
          go_upto_region 27 with (go_at_call 85; refine (C85.out _).mono ?_; rintro e V2 ⟨rfl, s, hperm, hsort, hpl, hb4⟩)
          have hsl := hperm.length_eq
          have hsi : ∀ p ∈ s, NV.inG p := fun p hp => hci p (hperm.mem_iff.1 hp)
          have hsu : RowUp s := ⟨fun e => hcne (by rw [e] at hperm; exact hperm.symm.eq_nil), by omega, hsi, up_of hsi (hperm.nodup_iff.2 HCO.out.nodup) hsort⟩
          have hrs : RowP V2 (some ⟨g3, 0, none⟩) s := .inr ⟨g3, 0, rfl, Nat.lt_of_lt_of_le hg2 hb4.size, fun i hi => ⟨(hpl i hi).1, (hpl i hi).2.1⟩⟩
          have hms : ∀ p, p ∈ s ↔ p ∈ cs := fun p => hperm.mem_iff
          have HJ := Lib.hid ((HI.out.go (hbs.trans (hb4.mono hg1))).addP hrs)
          rw [← hsl]
          have HMS := Lib.hid hms
          have HSU := Lib.hid hsu
          clear hperm hsort hpl hb4 hbs hrs hms hsu hsl hsi hci HI
          have k4 := HJ.out.c (b := w.heap.size + 1) (o := 0) (v := .int .u8 x0) (by simp)
          have k5 := HJ.out.c (b := w.heap.size + 1) (o := 1) (v := .int .u8 x1) (by simp)
          go_upto_region 28 with fail
          obtain ⟨q1, e1⟩ : ∃ q1 : Int, (x0 : Int) % 7 = q1 := ⟨_, rfl⟩
          obtain ⟨q2, e2⟩ : ∃ q2 : Int, (x1 : Int) % 7 = q2 := ⟨_, rfl⟩
          rw [e1, e2]
          have hp : NV.inG (q1, q2) := ⟨by simp only; omega, by simp only; omega⟩
          clear e1 e2 k4 k5 y0 y1
          have hI : Inv w (V2.alloc (.cells #[.int .i64 q1, .int .i64 q2] 26)) [] [(some ⟨g3, 0, none⟩, s), (some ⟨g2, 0, none⟩, cs), (some ⟨g, 0, none⟩, l)] [] [(V2.heap.size, 1, .int .i64 q2), (V2.heap.size, 0, .int .i64 q1), (w.heap.size + 1, 1, .int .u8 x1), (w.heap.size + 1, 0, .int .u8 x0)] :=
            ((HJ.out.alloc (.cells #[.int .i64 q1, .int .i64 q2] 26)).addC (b := V2.heap.size) (o := 0) (v := .int .i64 q1) (by simp) (by simp)).addC (b := V2.heap.size) (o := 1) (v := .int .i64 q2) (by simp) (by simp)
          replace HJ := Lib.hid hI
          generalize (V2.alloc (.cells #[.int .i64 q1, .int .i64 q2] 26)) = V3 at *
          generalize V2.heap.size = B17 at *
          clear hI
          have j1 := HJ.out.c (b := B17) (o := 0) (v := .int .i64 q1) (by simp)
          have j2 := HJ.out.c (b := B17) (o := 1) (v := .int .i64 q2) (by simp)
          have hwe := Corners.within HUP.out HCO.out HSU.out HMS.out hp
          obtain ⟨wl, we, hw1⟩ : ∃ wl we, withinOf l (q1, q2) = (wl, we) := ⟨_, _, rfl⟩
          obtain ⟨ws, wf, hw2⟩ : ∃ ws wf, withinOf s (q1, q2) = (ws, wf) := ⟨_, _, rfl⟩
          rw [hw1, hw2] at hwe
          have hwe' : we = wf := hwe
          subst hwe'
          have HW1 := Lib.hid hw1
          have HW2 := Lib.hid hw2
          clear hw1 hw2 hwe hp
          go_upto_region 29 with (go_at_call 51; refine (HJ.out.listErr (Within_any (some ⟨g, 0, none⟩) c l (q1, q2) _ (HJ.out.2.1 (some ⟨g, 0, none⟩, l) (by simp))) HW1.out).mono ?_; rintro e W ⟨qw, cw, rfl, hI⟩; replace HJ := Lib.hid hI; clear hI j1 j2; have j1 := HJ.out.c (b := B17) (o := 0) (v := .int .i64 q1) (by simp); have j2 := HJ.out.c (b := B17) (o := 1) (v := .int .i64 q2) (by simp))
          go_wp2_with (first
            | (go_at_call 51; refine (HJ.out.listErr (Within_any (some ⟨g3, 0, none⟩) c3 s (q1, q2) _ (HJ.out.2.1 (some ⟨g3, 0, none⟩, s) (by simp))) HW2.out).mono ?_; rintro e W ⟨qv, cv, rfl, hI⟩; replace HJ := Lib.hid hI; clear hI j1 j2; have j1 := HJ.out.c (b := B17) (o := 0) (v := .int .i64 q1) (by simp); have j2 := HJ.out.c (b := B17) (o := 1) (v := .int .i64 q2) (by simp))
            | (go_at_call 19; refine (HJ.out.scalar (works_any _) rfl).mono ?_; rintro e W ⟨rfl, hI⟩; replace HJ := Lib.hid hI; clear hI))
          go_ret
          exact ⟨rfl, HJ.out.2.2.2.2⟩
end Go.Proofs.Ytcalipoknbbaaaa
namespace Go.Proofs.Ytcalipoknbbaaaa.seamCorners
open Go Go.ChangeShapes Go.WideShapes Go.ChangeAt Go.RowKit

theorem own : ownKnob Try.prog.godebug = none := by kernel_rfl

set_option maxRecDepth 100000 in
theorem lifted (os : Os) (started : os.Started) (H : Type) (enc : TypeId × Value → H) :
    ReturnsInHanded {} Try.checked os 14 .any (Rows.seamCornersSpec.pre6 enc Try.prog Try.f14 Rows.seamCornersRow.domain false) (Rows.seamCornersSpec.post enc Try.prog Try.f14 false true false false) := by
  refine returnsInHanded_of_change (C := Try.checked) own started (by kernel_rfl) Try.func14
    (ChangeSpec.witness6 (enc := enc) (C := Try.checked) false { blocks := #[], args := #[.agg (spotCells 0 (List.replicate 12 (0, 0))), .agg #[.int .u8 0, .int .u8 0]], vars := [] } 8 (by kernel_rfl) (by kernel_rfl) (by kernel_rfl) (by kernel_rfl)) ?_
  intro W base args ds gs before hval0 hW hcnd _
  have hval : ∀ (j : Nat) t v, Try.f14.params[j]? = some t → args[j]? = some v → Value.okWide Try.prog W .any base t v := hval0
  have hW' := hW
  obtain ⟨p, q, hA0, hV, rfl, hfz, hnd⟩ := hW
  have hA : DataW.TrodAll enc Try.prog W 0 (fun _ => true) true Try.f14.params.toList args.toList ds p := hA0
  rw [Try.params14] at hA hval
  obtain ⟨v0, v1, d0, d1, p0, p1, rfl, rfl, rfl, h0, h1⟩ := trodAll_two hA
  obtain ⟨rfl, rfl⟩ := trodVars_none hV
  obtain ⟨rfl, g0⟩ := trod_same 5 plain113 h0
  obtain ⟨rfl, g1⟩ := trod_same 5 plain110 h1
  obtain ⟨m0, ls0, rfl, k0a, k0b, k0c⟩ := spot_of (hval 0 113 v0 rfl rfl)
  obtain ⟨x1, rfl, k1⟩ := b2_of (hval 1 110 v1 rfl rfl)
  clear hA0 hval0
  simp only [List.append_nil] at hW'
  refine (SeamCorners_any m0 ls0 k0a k0b k0c x1 k1 W).mono fun e W' ⟨he, hg⟩ => ?_
  subst he
  refine ⟨_, rfl, _, _, _, [] ++ [], [] ++ [], [], hW', ?_, ?_, ?_, hg.frame _, fun h => by cases h⟩
  · exact trodAll_cons_mk (shut_bool Try.underlying4 _) trodAll_mk0
  · exact trodAll_cons_mk (g0 _ _ _ _) (trodAll_cons_mk (g1 _ _ _ _) trodAll_mk0)
  · rfl

end Go.Proofs.Ytcalipoknbbaaaa.seamCorners
