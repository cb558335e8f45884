/- SeamEither: the walk, and the row's step. -/
import Derived.Test.YtcalipoknbbaaaaRadm
import Derived.Test.YtcalipoknbbaaaaGeo
import Derived.Test.YtcalipoknbbaaaaMadeS
import Derived.Test.YtcalipoknbbaaaaTold
import Derived.Test.YtcalipoknbbaaaaLaw8
import Derived.Test.YtcalipoknbbaaaaFirst
import Derived.Test.YtcalipoknbbaaaaRows
import Derived.WalkKit
import Derived.ProofKit
import Derived.OpenShut
import Derived.Test.YtcalipoknbbaaaaDigC
namespace Go.Proofs.Ytcalipoknbbaaaa
open Go.RowKit
set_option linter.unusedSimpArgs false
set_option linter.unusedVariables false

/-- the places with some numbers -/
def pickL (l : List Pl) (x : List Int) : List Pl := x.map fun i => l.getD i.toNat (0, 0)
theorem mem_sel (b : Bool) (is : List Int) (l : List Pl) (p : Pl) : p ∈ sel b is l ↔ ∃ i : Nat, ∃ h : i < l.length, hasI is i = b ∧ l[i] = p := by
  simp only [sel, List.mem_map, List.mem_filter, beq_iff_eq]
  constructor
  · rintro ⟨⟨y, i⟩, ⟨h1, h2⟩, rfl⟩
    obtain ⟨h, e⟩ := List.mem_zipIdx' h1
    exact ⟨i, h, h2, e.symm⟩
  · rintro ⟨i, h, h2, rfl⟩
    exact ⟨(l[i], i), ⟨List.mem_zipIdx_iff_getElem?.2 (by simp [h]), h2⟩, rfl⟩
theorem mem_pick {l : List Pl} {x : List Int} (hx : ∀ i ∈ x, 0 ≤ i ∧ i < l.length) (p : Pl) : p ∈ pickL l x ↔ p ∈ sel true x l := by
  rw [mem_sel]
  simp only [pickL, List.mem_map]
  constructor
  · rintro ⟨i, hi, rfl⟩
    have hb := hx i hi
    have e : ((i.toNat : Nat) : Int) = i := by omega
    refine ⟨i.toNat, by omega, (hasI_mem _ _).2 (by rw [e]; exact hi), ?_⟩
    rw [getD_eq l i.toNat (0, 0) (by omega)]
  · rintro ⟨i, h, h2, rfl⟩
    exact ⟨(i : Int), (hasI_mem _ _).1 h2, by rw [Int.toNat_natCast, getD_eq l i (0, 0) h]⟩

theorem inG_bigS {p : Pl} (hp : NV.inG p) (s : Int × Int) (hs : small 9 s.1 ∧ small 9 s.2) : -1000 < NV.dt s p ∧ NV.dt s p < 1000 := by
  obtain ⟨⟨a, b⟩, c, d⟩ := hp
  obtain ⟨e1, e2⟩ := hs
  have m1 := mul_small (x := s.1) (y := p.1) (a := 9) (b := 6) e1 ⟨by omega, by omega⟩
  have m2 := mul_small (x := s.2) (y := p.2) (a := 9) (b := 6) e2 ⟨by omega, by omega⟩
  simp only [small] at m1 m2
  simp only [NV.dt]
  omega
theorem inG_big {p : Pl} (hp : NV.inG p) (s : Int × Int) (hs : s ∈ slopesL 9) : -1000 < NV.dt s p ∧ NV.dt s p < 1000 := inG_bigS hp s (slopesL_small s hs)
theorem sepB_nil (p : Pl) (hp : NV.inG p) : sepB [] [p] = true := by
  rw [sepB, separateOf, Option.isSome_map, List.find?_isSome]
  refine ⟨(-9, -9), by decide +kernel, ?_⟩
  refine (tells_iff _ _ _).2 fun q hq => ?_
  obtain rfl := List.mem_singleton.1 hq
  have := (inG_big hp (-9, -9) (by decide +kernel)).1
  simp only [supC, List.foldl_nil]
  omega
def withB (l : List Pl) (p : Pl) (is : List Int) : Bool := !sepB (sel true is l) [p]
theorem withB_iff {l : List Pl} {p : Pl} (hl : ∀ q ∈ l, NV.inG q) (hp : NV.inG p) (is : List Int) :
    withB l p is = true ↔ ∀ n : Int × Int, ∃ i : Nat, ∃ h : i < l.length, (i : Int) ∈ is ∧ NV.dt n p ≤ NV.dt n l[i] := by
  by_cases h0 : sel true is l = []
  · rw [withB, h0, sepB_nil p hp]
    constructor
    · intro h; simp at h
    · intro h
      obtain ⟨i, hi, hm, _⟩ := h (0, 0)
      have := (mem_sel true is l l[i]).2 ⟨i, hi, (hasI_mem _ _).2 hm, rfl⟩
      rw [h0] at this
      simp at this
  · have hk := sepB_any h0 (by simp) (sel_inG (b := true) (d := is) hl) (b := [p]) (by intro q hq; obtain rfl := List.mem_singleton.1 hq; exact hp)
    constructor
    · intro h n
      apply Classical.byContradiction
      intro hno
      have : sepB (sel true is l) [p] = true := hk.2 ⟨n, fun q hq r hr => by
        obtain rfl := List.mem_singleton.1 hr
        obtain ⟨i, hi, hm, rfl⟩ := (mem_sel _ _ _ _).1 hq
        apply Classical.byContradiction
        intro hlt
        exact hno ⟨i, hi, (hasI_mem _ _).1 hm, by omega⟩⟩
      rw [withB, this] at h
      simp at h
    · intro h
      cases hs : sepB (sel true is l) [p] with
      | false => rw [withB, hs]; rfl
      | true =>
        obtain ⟨n, hn⟩ := hk.1 hs
        obtain ⟨i, hi, hm, hle⟩ := h n
        have := hn l[i] ((mem_sel _ _ _ _).2 ⟨i, hi, (hasI_mem _ _).2 hm, rfl⟩) p (by simp)
        omega

/-- the test of the law -/
def eithB (l : List Pl) (p : Pl) (x : List Int) : Bool :=
  !(decide (x.length = 0) || decide (3 < x.length)) && (hasP (pickL l x) p || (decide (1 < (pickL l x).length) && !toldB (pickL l x) [p]))
theorem eith_eq {l : List Pl} {p : Pl} (hl : ∀ q ∈ l, NV.inG q) (hp : NV.inG p) (x : List Int) (hx : ∀ i ∈ x, 0 ≤ i ∧ i < l.length) : eithB l p x = (decide (x.length ≤ 3) && withB l p x) := by
  have hmem := fun q => mem_pick hx q
  have hgi : ∀ q ∈ pickL l x, NV.inG q := fun q hq => sel_inG hl q ((hmem q).1 hq)
  have hp1 : ∀ q ∈ [p], NV.inG q := by intro q hq; obtain rfl := List.mem_singleton.1 hq; exact hp
  have hlen : (pickL l x).length = x.length := by simp [pickL]
  unfold eithB
  by_cases h0 : x.length = 0
  · obtain rfl := List.length_eq_zero_iff.1 h0
    have : withB l p [] = false := by
      cases hw : withB l p [] with
      | false => rfl
      | true => obtain ⟨i, _, hm, _⟩ := (withB_iff hl hp []).1 hw (0, 0); simp at hm
    simp [this]
  · by_cases h3 : 3 < x.length
    · simp [h3, show ¬ x.length ≤ 3 by omega]
    · have hne : pickL l x ≠ [] := by intro e; rw [← List.length_eq_zero_iff, hlen] at e; exact h0 e
      have e1 : decide (x.length ≤ 3) = true := decide_eq_true (by omega)
      have e2 : decide (x.length = 0) = false := decide_eq_false h0
      have e3 : decide (3 < x.length) = false := decide_eq_false h3
      rw [e1, e2, e3, hlen]
      simp only [Bool.or_self, Bool.not_false, Bool.true_and]
      rw [Bool.eq_iff_iff, withB_iff hl hp x]
      have key : (∃ n, NV.SepD n (pickL l x) [p]) ↔ ¬ ∀ n : Int × Int, ∃ i : Nat, ∃ h : i < l.length, (i : Int) ∈ x ∧ NV.dt n p ≤ NV.dt n l[i] := by
        constructor
        · rintro ⟨n, hn⟩ h
          obtain ⟨i, hi, hm, hle⟩ := h n
          have := hn l[i] ((hmem _).2 ((mem_sel _ _ _ _).2 ⟨i, hi, (hasI_mem _ _).2 hm, rfl⟩)) p (by simp)
          omega
        · intro h
          obtain ⟨n, hn⟩ := Classical.not_forall.1 h
          refine ⟨n, fun q hq r hr => ?_⟩
          obtain rfl := List.mem_singleton.1 hr
          obtain ⟨i, hi, hm, rfl⟩ := (mem_sel _ _ _ _).1 ((hmem q).1 hq)
          apply Classical.byContradiction
          intro hlt
          exact hn ⟨i, hi, (hasI_mem _ _).1 hm, by omega⟩
      by_cases hin : p ∈ pickL l x
      · have : hasP (pickL l x) p = true := (hasP_mem _ _).2 hin
        simp only [this, Bool.true_or, true_iff]
        apply Classical.byContradiction
        intro hno
        obtain ⟨n, hn⟩ := key.2 hno
        have := hn p hin p (by simp)
        omega
      · have hf : hasP (pickL l x) p = false := by
          cases hh : hasP (pickL l x) p with
          | false => rfl
          | true => exact absurd ((hasP_mem _ _).1 hh) hin
        simp only [hf, Bool.false_or, Bool.and_eq_true, decide_eq_true_eq, Bool.not_eq_true']
        have ht := toldB_any hne (b := [p]) (by simp) hgi hp1
        constructor
        · rintro ⟨_, hx2⟩
          apply Classical.byContradiction
          intro hno
          have := ht.2 (key.2 hno)
          rw [hx2] at this
          simp at this
        · intro h
          refine ⟨?_, ?_⟩
          · apply Classical.byContradiction
            intro h1
            have hx1 : (pickL l x).length = 1 := by omega
            obtain ⟨q, hq⟩ := List.length_eq_one_iff.1 hx1
            have hqp : q ≠ p := by rintro rfl; rw [hq] at hin; simp at hin
            refine key.1 ⟨(p.1 - q.1, p.2 - q.2), fun r hr t ht => ?_⟩ h
            rw [hq] at hr
            obtain rfl := List.mem_singleton.1 hr
            obtain rfl := List.mem_singleton.1 ht
            have hd : NV.dt (t.1 - r.1, t.2 - r.2) t - NV.dt (t.1 - r.1, t.2 - r.2) r = (t.1 - r.1) * (t.1 - r.1) + (t.2 - r.2) * (t.2 - r.2) := by simp only [NV.dt]; grind
            have n1 : 0 ≤ (t.1 - r.1) * (t.1 - r.1) := by rcases Int.le_total 0 (t.1 - r.1) with h | h; exact Int.mul_nonneg h h; exact Int.mul_nonneg_of_nonpos_of_nonpos h h
            have n2 : 0 ≤ (t.2 - r.2) * (t.2 - r.2) := by rcases Int.le_total 0 (t.2 - r.2) with h | h; exact Int.mul_nonneg h h; exact Int.mul_nonneg_of_nonpos_of_nonpos h h
            have n3 : ¬ ((t.1 - r.1) * (t.1 - r.1) = 0 ∧ (t.2 - r.2) * (t.2 - r.2) = 0) := by
              rintro ⟨z1, z2⟩
              have y1 : t.1 - r.1 = 0 := by rcases Int.mul_eq_zero.1 z1 with h | h <;> exact h
              have y2 : t.2 - r.2 = 0 := by rcases Int.mul_eq_zero.1 z2 with h | h <;> exact h
              exact hqp (Prod.ext (by omega) (by omega))
            omega
          · cases hh : toldB (pickL l x) [p] with
            | false => rfl
            | true => exact absurd h (key.1 (ht.1 hh))

/-- Within is the law's first list; it has at most three -/
theorem within_law {l : List Pl} {p : Pl} (h : RowUp l) (hp : NV.inG p) (hs : sepB l [p] = false) :
    ∃ c, lawFirst (eithB l p) (2 ^ l.length) = some c ∧ withinOf l p = (c, 0) ∧ c.length ≠ 0 ∧ c.length ≤ 3 := by
  have hl := h.2.2.1
  have hp1 : ∀ q ∈ [p], NV.inG q := by intro q hq; obtain rfl := List.mem_singleton.1 hq; exact hp
  have hheld : NV.Held (fun i => NV.sub (l.getD i (0, 0)) p) (List.range l.length) := by
    intro n
    apply Classical.byContradiction
    intro hno
    have : sepB l [p] = true := (sepB_any h.1 (by simp) hl hp1).2 ⟨n, fun q hq r hr => by
      obtain rfl := List.mem_singleton.1 hr
      obtain ⟨i, hi, rfl⟩ := List.getElem_of_mem hq
      apply Classical.byContradiction
      intro hlt
      refine hno ⟨i, List.mem_range.2 hi, ?_⟩
      simp only
      rw [NV.dt_sub, getD_eq l i (0, 0) hi]
      omega⟩
    rw [hs] at this
    simp at this
  obtain ⟨js, hsub, hlen, hj⟩ := NV.held_three _ l.length (List.range l.length) (by simp) List.nodup_range hheld
  have hasc : (js.map fun i : Nat => (i : Int)).Pairwise (· < ·) := by
    rw [List.pairwise_map]
    exact (List.Pairwise.sublist hsub List.pairwise_lt_range).imp fun h => by omega
  have hbd : ∀ x ∈ js.map (fun i : Nat => (i : Int)), 0 ≤ x ∧ x < l.length := by
    intro x hx
    obtain ⟨i, hi, rfl⟩ := List.mem_map.1 hx
    have := List.mem_range.1 (hsub.subset hi)
    omega
  have hmem := all_of_asc l.length _ hasc hbd
  have hgood : withB l p (js.map fun i : Nat => (i : Int)) = true := by
    rw [withB_iff hl hp]
    intro n
    obtain ⟨i, hi, hd⟩ := hj n
    have hlt := List.mem_range.1 (hsub.subset hi)
    simp only at hd
    rw [NV.dt_sub, getD_eq l i (0, 0) hlt] at hd
    exact ⟨i, hlt, List.mem_map.2 ⟨i, hi, rfl⟩, by omega⟩
  obtain ⟨c, hc1⟩ := shortest_some hmem hgood
  obtain ⟨m1, m2⟩ := shortest_mem hc1
  obtain ⟨a1, a2⟩ := all_asc m1
  have hle : c.length ≤ 3 := by
    apply Classical.byContradiction
    intro hn
    exact shortest_least hc1 hmem hgood (.inl (by rw [List.length_map]; omega))
  have hc0 : c.length ≠ 0 := by
    intro e
    obtain rfl := List.length_eq_zero_iff.1 e
    obtain ⟨i, _, hm, _⟩ := (withB_iff hl hp []).1 m2 (0, 0)
    simp at hm
  have hfirst : shortestOf l.length (eithB l p) = some c := by
    obtain ⟨_, pre, post, e, hpre⟩ := List.find?_eq_some_iff_append.1 (show (allL l.length).find? (withB l p) = some c from hc1)
    refine List.find?_eq_some_iff_append.2 ⟨?_, pre, post, e, fun a ha => ?_⟩
    · rw [eith_eq hl hp c a2, m2, decide_eq_true hle]; rfl
    · have ham : a ∈ allL l.length := by rw [e]; exact List.mem_append_left _ ha
      have := hpre a ha
      rw [eith_eq hl hp a (all_asc ham).2, show withB l p a = false by simpa using this, Bool.and_false]
      rfl
  refine ⟨c, by rw [law_first l.length h.2.1, hfirst], ?_, hc0, hle⟩
  have he : errPP l p = 0 := by rw [errPP, h.err, if_neg (by simp), if_neg (by rw [inG_onG hp]; simp)]
  rw [withinOf, if_neg (by simp [he]), if_neg (by simp [hs])]
  have hc2 : shortestOf l.length (fun is => !sepB (sel true is l) [p]) = some c := hc1
  rw [hc2]
  rfl
/-- Apart, where a line tells the place apart -/
theorem apart_yes {l : List Pl} {p : Pl} (h : RowUp l) (hp : NV.inG p) {s : Int × Int} (hs : (slopesL 9).find? (tells l [p]) = some s) :
    apartOf l p = (galOf s l, 0) ∧ withinOf l p = ([], 12) := by
  have he : errPP l p = 0 := by rw [errPP, h.err, if_neg (by simp), if_neg (by rw [inG_onG hp]; simp)]
  have hb : sepB l [p] = true := by rw [sepB, separateOf, hs]; rfl
  constructor
  · rw [apartOf, if_neg (by simp [he]), if_neg (by simp [hb]), sepG, separateOf, hs]; rfl
  · rw [withinOf, if_neg (by simp [he]), if_pos hb]
theorem apart_no {l : List Pl} {p : Pl} (h : RowUp l) (hp : NV.inG p) (hs : sepB l [p] = false) : apartOf l p = ((0, 0, 0), 13) := by
  have he : errPP l p = 0 := by rw [errPP, h.err, if_neg (by simp), if_neg (by rw [inG_onG hp]; simp)]
  rw [apartOf, if_neg (by simp [he]), if_pos hs]
/-- the most of a slope, as the law counts it -/
def mxE (s : Int × Int) (l : List Pl) : Int := l.foldl (fun c q => max c (s.1 * q.1 + s.2 * q.2)) (-1000)
theorem mxE_sup {l : List Pl} (h0 : l ≠ []) (hl : ∀ q ∈ l, NV.inG q) {s : Int × Int} (hs : small 9 s.1 ∧ small 9 s.2) : mxE s l = supC s l := by
  match l, h0 with
  | q :: r, _ =>
    have hb := (inG_bigS (hl q (by simp)) s hs).1
    simp only [NV.dt] at hb
    rw [mxE, supC, List.foldl_cons, List.foldl_cons, Int.max_eq_right (by omega), Int.max_eq_right (by omega)]
theorem tells_one {l : List Pl} {p : Pl} (h : RowUp l) {s : Int × Int} (hs : small 9 s.1 ∧ small 9 s.2) : tells l [p] s = decide (mxE s l < s.1 * p.1 + s.2 * p.2) := by
  rw [mxE_sup h.1 h.2.2.1 hs, Bool.eq_iff_iff, tells_iff, decide_eq_true_eq]
  constructor
  · intro h; exact h p (by simp)
  · intro h q hq; obtain rfl := List.mem_singleton.1 hq; exact h
theorem mxE_succ (s : Int × Int) (l : List Pl) (k : Nat) (h : k < l.length) : mxE s (l.take (k + 1)) = max (mxE s (l.take k)) (s.1 * (l.getD k (0, 0)).1 + s.2 * (l.getD k (0, 0)).2) := by
  rw [mxE, mxE, List.take_succ_eq_append_getElem h, List.foldl_append, getD_eq l k (0, 0) h]; rfl
theorem foldE_bd (s : Int × Int) (hs : small 9 s.1 ∧ small 9 s.2) : ∀ (l : List Pl) (c : Int), (∀ q ∈ l, NV.inG q) → -1000 ≤ c ∧ c ≤ 1000 → -1000 ≤ l.foldl (fun c q => max c (s.1 * q.1 + s.2 * q.2)) c ∧ l.foldl (fun c q => max c (s.1 * q.1 + s.2 * q.2)) c ≤ 1000
  | [], c, _, h => h
  | q :: l, c, hl, h => by
    have hb := inG_bigS (hl q (by simp)) s hs
    simp only [NV.dt] at hb
    rw [List.foldl_cons]
    exact foldE_bd s hs l _ (fun r hr => hl r (by simp [hr])) (by omega)
theorem mxE_bd {s : Int × Int} (hs : small 9 s.1 ∧ small 9 s.2) {l : List Pl} (hl : ∀ q ∈ l, NV.inG q) : -1000 ≤ mxE s l ∧ mxE s l ≤ 1000 := foldE_bd s hs l _ hl (by omega)
/-- none of the first slopes tells -/
def NoneTo (l : List Pl) (p : Pl) (i j : Nat) : Prop := ∀ s ∈ slopesTo 9 i j, tells l [p] s = false
theorem tells_zero {l : List Pl} {p : Pl} (h0 : l ≠ []) : tells l [p] (0, 0) = false := by
  cases h : tells l [p] (0, 0) with
  | false => rfl
  | true =>
    match l, h0 with
    | q :: r, _ =>
      have := (sup_lt (0, 0) (q :: r) _).1 ((tells_iff _ _ _).1 h p (by simp))
      have := this.2 q (by simp)
      simp [NV.dt] at this
theorem NoneTo.step {l : List Pl} {p : Pl} {i j : Nat} (h : NoneTo l p i j) (ht : tells l [p] (-9 + i, -9 + j) = false) : NoneTo l p i (j + 1) := by
  by_cases hz : -(9 : Int) + i = 0 ∧ -(9 : Int) + j = 0
  · unfold NoneTo; rw [slopesTo_no (m := 9) hz]; exact h
  · unfold NoneTo
    rw [slopesTo_yes (m := 9) hz]
    intro s hs
    rcases List.mem_append.1 hs with hs | hs
    · exact h s hs
    · obtain rfl := List.mem_singleton.1 hs; exact ht
theorem NoneTo.hit {l : List Pl} {p : Pl} {i j : Nat} (h0 : l ≠ []) (h : NoneTo l p i j) (hi : i < 19) (hj : j < 19) (ht : tells l [p] (-9 + i, -9 + j) = true) :
    (slopesL 9).find? (tells l [p]) = some (-9 + (i : Int), -9 + (j : Int)) := by
  have hz : ¬(-(9 : Int) + i = 0 ∧ -(9 : Int) + j = 0) := by
    rintro ⟨z1, z2⟩
    have e1 : (-9 + (i : Int)) = 0 := z1
    have e2 : (-9 + (j : Int)) = 0 := z2
    rw [e1, e2, tells_zero h0] at ht
    simp at ht
  obtain ⟨t, ht2⟩ := slopesTo_prefix (m := 9) (i := i) (j := j + 1) hi hj
  rw [slopesTo_yes (m := 9) hz] at ht2
  rw [← ht2]
  refine List.find?_eq_some_iff_append.2 ⟨ht, slopesTo 9 i j, t, ?_, fun a ha => ?_⟩
  · rw [List.append_assoc]; rfl
  · rw [h a ha]; rfl
theorem NoneTo.done {l : List Pl} {p : Pl} (h : NoneTo l p 19 0) : sepB l [p] = false := by
  rw [sepB, separateOf, Option.isSome_map]
  have : (slopesL 9).find? (tells l [p]) = none := List.find?_eq_none.2 fun s hs => by
    rw [h s (by rw [show (19 : Nat) = 2 * 9 + 1 from rfl, slopesTo_end]; exact hs)]; simp
  rw [this]; rfl
theorem NoneTo.zero (l : List Pl) (p : Pl) : NoneTo l p 0 0 := by unfold NoneTo; rw [slopesTo_zero]; simp
theorem NoneTo.col {l : List Pl} {p : Pl} {i : Nat} (h : NoneTo l p i 19) : NoneTo l p (i + 1) 0 := by
  unfold NoneTo at *; rw [← slopesTo_col (m := 9)]; exact h
end Go.Proofs.Ytcalipoknbbaaaa
namespace Go.Proofs.Ytcalipoknbbaaaa
open Go.RowKit
set_option linter.unusedSimpArgs false
set_option linter.unusedVariables false

theorem pickL_succ (l : List Pl) (x : List Int) (k : Nat) (h : k < x.length) : pickL l (x.take (k + 1)) = pickL l (x.take k) ++ [l.getD (x.getD k 0).toNat (0, 0)] := by
  rw [pickL, pickL, List.take_succ_eq_append_getElem h, List.map_append, getD_eq x k 0 h]; rfl
theorem pickL_len (l : List Pl) (x : List Int) : (pickL l x).length = x.length := by simp [pickL]

theorem rowP_one (w : World) (p : Pl) : RowP (w.alloc (.cells #[.int .i64 p.1, .int .i64 p.2] 26)) (some ⟨w.heap.size, 0, none⟩) [p] := by
  refine .inr ⟨w.heap.size, 0, rfl, by simp, fun i hi => ?_⟩
  obtain rfl : i = 0 := by simpa using hi
  simp

set_option maxRecDepth 100000 in
set_option maxHeartbeats 4000000 in
theorem eith1_any (B1 B2 : Nat) (q q2 : Option Addr) (c c2 : Nat) (l : List Pl) (p : Pl) (x : List Int) (w : World) (hB1 : w.cell? ⟨B1, 0, none⟩ = some (.slice q l.length c)) (hz1 : B1 < w.heap.size)
    (hp1 : w.cell? ⟨B2, 0, none⟩ = some (.int .i64 p.1)) (hp2 : w.cell? ⟨B2, 1, none⟩ = some (.int .i64 p.2)) (hz2 : B2 < w.heap.size)
    (hr : RowP w q l) (hx : RowI w q2 x) (hlx : x.length ≤ 12) (hin : ∀ i ∈ x, 0 ≤ i ∧ i < l.length) (hl : ∀ r ∈ l, NV.inG r) (hp : NV.inG p) (hll : l.length ≤ 12) :
    Calls Try.prog 80 #[.slice q2 x.length c2, .pointer (some ⟨B1, 0, none⟩), .pointer (some ⟨B2, 0, none⟩)] w fun e w' => e = .returned (.bool (eithB l p x)) ∧ Below w.heap.size w w' := by
  have HR := Lib.hid hr
  have HX := Lib.hid hx
  have HIN := Lib.hid hin
  have HL := Lib.hid hl
  have HP := Lib.hid hp
  clear hr hx hin hl hp
  by_cases h0 : x.length = 0
  · have e1 : eithB l p x = false := by unfold eithB; simp [h0]
    rw [e1]
    have hz : ((x.length : Int) == 0) = true := by simp [h0]
    clear e1 h0
    go_enter Try.func80, Try.ntmps80
    go_wp2
    go_ret
    exact ⟨rfl, by first | exact Below.refl _ _ | exact below_drewN (Below.refl _ _) _⟩
  · have hz : ((x.length : Int) == 0) = false := by simp; simpa using h0
    by_cases h3 : 3 < x.length
    · have e1 : eithB l p x = false := by unfold eithB; simp [h3]
      rw [e1]
      have hz3 : decide ((3 : Int) < (x.length : Int)) = true := decide_eq_true (by omega)
      clear e1
      go_enter Try.func80, Try.ntmps80
      go_wp2
      go_ret
      exact ⟨rfl, by first | exact Below.refl _ _ | exact below_drewN (Below.refl _ _) _⟩
    · have hz3 : decide ((3 : Int) < (x.length : Int)) = false := decide_eq_false (by omega)
      have e1 : eithB l p x = (hasP (pickL l x) p || (decide (1 < (pickL l x).length) && !toldB (pickL l x) [p])) := by
        unfold eithB
        rw [decide_eq_false h0, decide_eq_false h3]
        simp
      have HE := Lib.hid e1
      clear e1 h0
      go_enter Try.func80, Try.ntmps80
      go_wp2
      clear hz hz3
      go_loopw [5, 18] (fun v i wr => ∃ k : Nat, k ≤ x.length ∧ i = .int .i64 k ∧ wr.ownsRow w.heap.size 26 2 v (pickL l (x.take k)).length (flatP (pickL l (x.take k))) ∧ Below w.heap.size w wr) (fun _ i _ => x.length - (intOf i).toNat)
      case atStart => exact ⟨0, Nat.zero_le _, rfl, World.ownsRow_nil _ _ _ _, Below.refl _ _⟩
      case round =>
        obtain ⟨k, hk, rfl, hown, hbel⟩ := hrel
        have hlp := pickL_len l (x.take k)
        rw [List.length_take, Nat.min_eq_left hk] at hlp
        by_cases hlt : k < x.length
        · obtain ⟨bx, ox, rfl, hbx, g1⟩ := HX.out.at hlt (Nat.le_refl _) hbel
          have hst := pickL_succ l x k hlt
          obtain ⟨i0, i1⟩ := HIN.out _ (getD_mem x k 0 hlt)
          obtain ⟨n, hn⟩ : ∃ n : Nat, x.getD k 0 = n := ⟨(x.getD k 0).toNat, by omega⟩
          rw [hn] at g1 hst i0 i1
          rw [Int.toNat_natCast] at hst
          have hnl : n < l.length := by omega
          obtain ⟨bl, ol, rfl, hbl, h1, h2⟩ := HR.out.at hnl (Nat.le_refl _) hbel
          have hB1' := (hbel.cell (p := ⟨B1, 0, none⟩) hz1).trans hB1
          generalize l.getD n (0, 0) = g at h1 h2 hst
          generalize pickL l (x.take k) = out at *
          have HST := Lib.hid hst
          have HO := Lib.hid hown
          have hsz := hbel.size
          clear hst hown hn
          go_wp2_with (at_builtin; refine app_place _ rfl (.tmp 22) (.tmp 27) rfl w.heap.size _ _ g rfl ((HO.out.alloc _)) (wr.heap.size) 1 rfl (by simp) (by simp) (by omega) (by simp; omega) ?_; intro v' w1 hown' hgrow hblk)
          have hb3 := grown_below ((HO.out.alloc (.cells #[.int .i64 g.1, .int .i64 g.2] 26))) (by simp; omega) hgrow
          have hbn := (hbel.alloc (by omega) (.cells #[.int .i64 g.1, .int .i64 g.2] 26)).trans hb3
          go_roundw
          case rel => exact ⟨k + 1, hlt, by go_num, by rw [HST.out]; exact hown', hbn⟩
          case measure => simp [intOf]; omega
        · obtain rfl : k = x.length := by omega
          rw [List.take_length] at hown hlp
          have hlo : (pickL l x).length ≤ 12 := by omega
          clear hlp
          have he := HE.out
          have hgi : ∀ r ∈ pickL l x, NV.inG r := fun r hr => sel_inG HL.out r ((mem_pick HIN.out r).1 hr)
          generalize pickL l x = out at *
          obtain ⟨q1, c1, rfl, r1⟩ := rowP_of_owns hown
          have n1 := owns_nil_capP hown
          have hp1' := (hbel.cell (p := ⟨B2, 0, none⟩) hz2).trans hp1
          have hp2' := (hbel.cell (p := ⟨B2, 1, none⟩) hz2).trans hp2
          have hz2' := Nat.lt_of_lt_of_le hz2 hbel.size
          have hc := containsPl_any p q1 c1 out wr r1 (by omega)
          have HC := Lib.hid hc
          have HGI := Lib.hid hgi
          have R1 := Lib.hid r1
          have N1 := Lib.hid n1
          have HBE := Lib.hid hbel
          clear hown r1 n1 hc hgi hbel
          cases hy : hasP out p with
          | true =>
            have he2 : eithB l p x = true := by rw [he, hy]; rfl
            have HY := Lib.hid hy
            have HE2 := Lib.hid he2
            clear he he2 hy HE
            go_wp2_with (go_at_call 77; refine HC.out.mono ?_; rintro e w2 ⟨rfl, hb2⟩; rw [HY.out])
            go_ret
            exact ⟨ret_bool HE2.out.symm, by first | exact HBE.out.trans (hb2.mono HBE.out.size) | exact below_drewN (HBE.out.trans (hb2.mono HBE.out.size)) _⟩
          | false =>
            have HY := Lib.hid hy
            by_cases h1 : 1 < out.length
            · have he2 : eithB l p x = !toldB out [p] := by rw [he, hy, decide_eq_true h1]; rfl
              have HE2 := Lib.hid he2
              have hd1 : decide ((1 : Int) < (out.length : Int)) = true := decide_eq_true (by omega)
              clear he he2 hy HE
              go_wp2_with (first
                | (go_at_call 77; refine HC.out.mono ?_; rintro e w2 ⟨rfl, hb2⟩; rw [HY.out]; have hp1'' := (hb2.cell (p := ⟨B2, 0, none⟩) hz2').trans hp1'; have hp2'' := (hb2.cell (p := ⟨B2, 1, none⟩) hz2').trans hp2')
                | (go_at_call 81; refine (told_any q1 (some ⟨w2.heap.size, 0, none⟩) c1 1 out [p] (w2.alloc (.cells #[.int .i64 p.1, .int .i64 p.2] 26)) HGI.out (by intro r hr; obtain rfl := List.mem_singleton.1 hr; exact HP.out) ((R1.out.below (Nat.le_refl _) hb2).below (Nat.le_refl _) ((Below.refl _ _).alloc (Nat.le_refl _) _)) (rowP_one w2 p) N1.out (by simp) (by omega) (by simp)).mono ?_; rintro e w3 ⟨rfl, hb3⟩))
              have hb3' : Below w2.heap.size w2 w3 := ((Below.refl w2.heap.size w2).alloc (Nat.le_refl _) (.cells #[.int .i64 p.1, .int .i64 p.2] 26)).trans (hb3.mono (by simp))
              have hbe := HBE.out.trans (hb2.mono HBE.out.size)
              go_ret
              exact ⟨ret_bool HE2.out.symm, hbe.trans (hb3'.mono hbe.size)⟩
            · have he2 : eithB l p x = false := by rw [he, hy, decide_eq_false h1]; rfl
              have HE2 := Lib.hid he2
              have hd1 : decide ((1 : Int) < (out.length : Int)) = false := decide_eq_false (by omega)
              clear he he2 hy HE
              go_wp2_with (go_at_call 77; refine HC.out.mono ?_; rintro e w2 ⟨rfl, hb2⟩; rw [HY.out])
              go_ret
              exact ⟨ret_bool HE2.out.symm, by first | exact HBE.out.trans (hb2.mono HBE.out.size) | exact below_drewN (HBE.out.trans (hb2.mono HBE.out.size)) _⟩
theorem tests_eith {w : World} {B1 B2 : Nat} {q : Option Addr} {c : Nat} {l : List Pl} {p : Pl} (hB1 : w.cell? ⟨B1, 0, none⟩ = some (.slice q l.length c)) (hz1 : B1 < w.heap.size)
    (hp1 : w.cell? ⟨B2, 0, none⟩ = some (.int .i64 p.1)) (hp2 : w.cell? ⟨B2, 1, none⟩ = some (.int .i64 p.2)) (hz2 : B2 < w.heap.size)
    (hr : RowP w q l) (hl : ∀ r ∈ l, NV.inG r) (hp : NV.inG p) (hll : l.length ≤ 12) :
    TestsK w 80 #[.pointer (some ⟨B1, 0, none⟩), .pointer (some ⟨B2, 0, none⟩)] (eithB l p) (2 ^ l.length) :=
  fun W k q2 c2 hk hb hx => eith1_any B1 B2 q q2 c c2 l p (membL k) W ((hb.cell (p := ⟨B1, 0, none⟩) hz1).trans hB1) (Nat.lt_of_lt_of_le hz1 hb.size)
    ((hb.cell (p := ⟨B2, 0, none⟩) hz2).trans hp1) ((hb.cell (p := ⟨B2, 1, none⟩) hz2).trans hp2) (Nat.lt_of_lt_of_le hz2 hb.size) (hr.below (Nat.le_refl _) hb) hx (memb_len k) (memb_lt _ _ hk) hl hp hll
variable {w W : World} {G : List (Option Addr × Nat × List Gl)} {P : List (Option Addr × List Pl)} {I : List (Option Addr × List Int)} {C : List (Nat × Nat × Value)}
theorem Inv.foundK {f : Nat} {args : Array Value} {o : Option (List Int)} {xs : List Int} (h : Inv w W G P I C) (hc : Calls Try.prog f args W (FoundF W o)) (ho : o = some xs) :
    Calls Try.prog f args W fun e W' => ∃ q c, e = .returned (.tuple #[.slice q xs.length c, .bool true]) ∧ Inv w W' G P ((q, xs) :: I) C := by
  subst ho
  exact hc.mono fun _ _ ⟨q, c, ys, fd, he, hr, hor, hb⟩ => by
    rcases hor with ⟨_, h1, _⟩ | ⟨rfl, h1⟩
    · cases h1
    · obtain rfl := Option.some.inj h1
      exact ⟨q, c, he, (h.go hb).addI hr⟩
theorem Inv.ltK (h : Inv w W G P I C) {b o : Nat} {v : Value} (hm : (b, o, v) ∈ C) : b < W.heap.size := (h.2.2.2.1 _ hm).2
end Go.Proofs.Ytcalipoknbbaaaa
namespace Go.Proofs.Ytcalipoknbbaaaa
open Go.RowKit
set_option linter.unusedSimpArgs false
set_option linter.unusedVariables false
attribute [local go_sem] equal28 guard28

set_option maxRecDepth 100000 in
set_option maxHeartbeats 8000000 in
theorem SeamEither_any (m : Nat) (ls : List B2) (hm : m < 256) (hls : ls.length = 12) (hok : ∀ x ∈ ls, ok2 x) (x : B2) (hx : ok2 x) (w : World) :
    Calls Try.prog 13 #[.agg (spotCells m ls), .agg #[.int .u8 x.1, .int .u8 x.2]] w fun e w' => e = .returned (.bool true) ∧ Below w.heap.size w w' := by
  obtain ⟨x0, x1⟩ := x
  obtain ⟨hx0, hx1⟩ := hx
  have c0 := fun W => mades_any m ls hm hls hok W
  have C0 := Lib.hid c0
  have HLS := Lib.hid hls
  have HSP := Lib.hid ((SpotAt.new w m ls).below (N := w.heap.size + 1) (by omega) ((Below.refl _ _).alloc (by simp) (.cells #[.int .u8 x0, .int .u8 x1] 110)))
  have HB0 := Lib.hid (below_two w (.cells (spotCells m ls) 113) (.cells #[.int .u8 x0, .int .u8 x1] 110))
  have y0 := Nat.mod_lt x0 (show 0 < 7 by decide)
  have y1 := Nat.mod_lt x1 (show 0 < 7 by decide)
  have hpi := spotP_in (x0, x1)
  clear c0 hls hok hm
  go_enter Try.func13, Try.ntmps13
  go_upto_region 2 with (first
    | (refine wpList_load113 _ _ m ls HLS.out HSP.out (.tmp 2) rfl rfl rfl ?_)
    | (go_at_call 79; refine (C0.out _).mono ?_; rintro e w1 ⟨l, q, c, rfl, hup, hr1, hq1, hb1⟩))
  have z1 := hb1.size
  have hz1 : w.heap.size + 2 ≤ w1.heap.size := by simpa using z1
  have b0 : w1.cell? ⟨w.heap.size + 1, 0, none⟩ = some (.int .u8 x0) := (hb1.cell (p := ⟨w.heap.size + 1, 0, none⟩) (by simp)).trans (by simp)
  have b1 : w1.cell? ⟨w.heap.size + 1, 1, none⟩ = some (.int .u8 x1) := (hb1.cell (p := ⟨w.heap.size + 1, 1, none⟩) (by simp)).trans (by simp)
  have hne : w.heap.size + 1 ≠ w1.heap.size := by omega
  have b2 := (World.cell?_alloc_old w1 (.cells #[.slice q l.length c] 39) ⟨w.heap.size + 1, 0, none⟩ hne).trans b0
  have b3 := (World.cell?_alloc_old w1 (.cells #[.slice q l.length c] 39) ⟨w.heap.size + 1, 1, none⟩ hne).trans b1
  have b4 : (w1.alloc (.cells #[.slice q l.length c] 39)).cell? ⟨w1.heap.size, 0, none⟩ = some (.slice q l.length c) := by simp
  have hI : Inv w (w1.alloc (.cells #[.slice q l.length c] 39)) [] [(q, l)] [] [(w1.heap.size, 0, .slice q l.length c)] :=
    (((Inv.start w).go ((HB0.out.trans (hb1.mono (by simp; omega))).alloc (by omega) _)).addP (hr1.below (Nat.le_refl _) ((Below.refl _ _).alloc (Nat.le_refl _) _))).addC b4 (by simp)
  have HI := Lib.hid hI
  generalize (w1.alloc (.cells #[.slice q l.length c] 39)) = W1 at *
  generalize w1.heap.size = B5 at *
  clear b0 b1 b4 hI hb1 hr1 hq1 z1 hz1 hne C0 HLS HSP HB0
  go_upto_region 3 with fail
  obtain ⟨p1, e1⟩ : ∃ p1 : Int, (x0 : Int) % 7 = p1 := ⟨_, rfl⟩
  obtain ⟨p2, e2⟩ : ∃ p2 : Int, (x1 : Int) % 7 = p2 := ⟨_, rfl⟩
  rw [e1, e2]
  have hp : NV.inG (p1, p2) := ⟨by simp only; omega, by simp only; omega⟩
  clear e1 e2 hpi y0 y1 b2 b3
  have hI : Inv w (W1.alloc (.cells #[.int .i64 p1, .int .i64 p2] 26)) [] [(q, l)] [] [(W1.heap.size, 1, .int .i64 p2), (W1.heap.size, 0, .int .i64 p1), (B5, 0, .slice q l.length c)] :=
    ((HI.out.alloc (.cells #[.int .i64 p1, .int .i64 p2] 26)).addC (b := W1.heap.size) (o := 0) (v := .int .i64 p1) (by simp) (by simp)).addC (b := W1.heap.size) (o := 1) (v := .int .i64 p2) (by simp) (by simp)
  replace HI := Lib.hid hI
  generalize (W1.alloc (.cells #[.int .i64 p1, .int .i64 p2] 26)) = W2 at *
  generalize W1.heap.size = B6 at *
  clear hI
  have k0 := HI.out.c (b := B5) (o := 0) (v := .slice q l.length c) (by simp)
  have k1 := HI.out.c (b := B6) (o := 0) (v := .int .i64 p1) (by simp)
  have k2 := HI.out.c (b := B6) (o := 1) (v := .int .i64 p2) (by simp)
  have HUP := Lib.hid hup
  have HP := Lib.hid hp
  have hl12 := hup.2.1
  have he := hup.err
  have HE := Lib.hid he
  clear hup hp he
  obtain ⟨wl, we, hw⟩ : ∃ wl we, withinOf l (p1, p2) = (wl, we) := ⟨_, _, rfl⟩
  obtain ⟨ga, gb, gc, ge, ha⟩ : ∃ ga gb gc ge, apartOf l (p1, p2) = ((ga, gb, gc), ge) := ⟨_, _, _, _, rfl⟩
  have HW := Lib.hid hw
  have HA := Lib.hid ha
  clear hw ha
  go_upto_region 5 with (first
    | (go_at_call 51; refine (HI.out.listErr (Within_any q c l (p1, p2) _ (HI.out.2.1 (q, l) (by simp))) HW.out).mono ?_; rintro e W ⟨qw, cw, rfl, hI⟩; replace HI := Lib.hid hI; clear hI k0 k1 k2; have k0 := HI.out.c (b := B5) (o := 0) (v := .slice q l.length c) (by simp); have k1 := HI.out.c (b := B6) (o := 0) (v := .int .i64 p1) (by simp); have k2 := HI.out.c (b := B6) (o := 1) (v := .int .i64 p2) (by simp))
    | (go_at_call 53; refine (HI.out.scalar (V' := .tuple #[.agg #[.int .i64 ga, .int .i64 gb, .int .i64 gc], .int .i64 ge]) (Apart_any q c l (p1, p2) _ (HI.out.2.1 (q, l) (by simp))) (by rw [HA.out])).mono ?_; rintro e W ⟨rfl, hI⟩; replace HI := Lib.hid hI; clear hI k0 k1 k2; have k0 := HI.out.c (b := B5) (o := 0) (v := .slice q l.length c) (by simp); have k1 := HI.out.c (b := B6) (o := 0) (v := .int .i64 p1) (by simp); have k2 := HI.out.c (b := B6) (o := 1) (v := .int .i64 p2) (by simp)))
  have hI : Inv w (W.alloc (.cells #[.int .i64 ga, .int .i64 gb, .int .i64 gc] 28)) [] [(q, l)] [(qw, wl)] [(W.heap.size, 2, .int .i64 gc), (W.heap.size, 1, .int .i64 gb), (W.heap.size, 0, .int .i64 ga), (B6, 1, .int .i64 p2), (B6, 0, .int .i64 p1), (B5, 0, .slice q l.length c)] :=
    (((HI.out.alloc (.cells #[.int .i64 ga, .int .i64 gb, .int .i64 gc] 28)).addC (b := W.heap.size) (o := 0) (v := .int .i64 ga) (by simp) (by simp)).addC (b := W.heap.size) (o := 1) (v := .int .i64 gb) (by simp) (by simp)).addC (b := W.heap.size) (o := 2) (v := .int .i64 gc) (by simp) (by simp)
  replace HI := Lib.hid hI
  generalize (W.alloc (.cells #[.int .i64 ga, .int .i64 gb, .int .i64 gc] 28)) = W3 at *
  generalize W.heap.size = B9 at *
  clear hI k0 k1 k2
  have k0 := HI.out.c (b := B5) (o := 0) (v := .slice q l.length c) (by simp)
  go_upto_region 8 with (go_at_call 55; refine (HI.out.scalar (V' := .int .i64 0) (Points_any q c l _ (HI.out.2.1 (q, l) (by simp))) (by rw [HE.out])).mono ?_; rintro e W4 ⟨rfl, hI⟩; replace HI := Lib.hid hI; clear hI k0)
  go_loopw [11] (fun a wr => ∃ i : Nat, i ≤ 19 ∧ a = .int .i64 (-9 + i) ∧ NoneTo l (p1, p2) i 0 ∧ Inv w wr [] [(q, l)] [(qw, wl)] [(B9, 2, .int .i64 gc), (B9, 1, .int .i64 gb), (B9, 0, .int .i64 ga), (B6, 1, .int .i64 p2), (B6, 0, .int .i64 p1), (B5, 0, .slice q l.length c)]) (fun a _ => (20 - intOf a).toNat)
  case atStart => exact ⟨0, by omega, rfl, NoneTo.zero _ _, HI.out⟩
  case round =>
    obtain ⟨i, hi, rfl, hno, hI⟩ := hrel
    replace HI := Lib.hid hI
    have HNO := Lib.hid hno
    clear hI hno
    by_cases hi19 : i < 19
    · have ha9 : (-9 : Int) + i ≤ 9 := by omega
      go_upto_region 11 with fail
      go_loopw [12] (fun b wr => ∃ j : Nat, j ≤ 19 ∧ b = .int .i64 (-9 + j) ∧ NoneTo l (p1, p2) i j ∧ Inv w wr [] [(q, l)] [(qw, wl)] [(B9, 2, .int .i64 gc), (B9, 1, .int .i64 gb), (B9, 0, .int .i64 ga), (B6, 1, .int .i64 p2), (B6, 0, .int .i64 p1), (B5, 0, .slice q l.length c)]) (fun b _ => (20 - intOf b).toNat)
      case atStart => exact ⟨0, by omega, rfl, HNO.out, HI.out⟩
      case round =>
        clear HI HNO
        obtain ⟨j, hj, rfl, hno, hI⟩ := hrel
        have HI := Lib.hid hI
        have HNO := Lib.hid hno
        clear hI hno
        by_cases hj19 : j < 19
        · have hb9 : (-9 : Int) + j ≤ 9 := by omega
          have k0 := HI.out.c (b := B5) (o := 0) (v := .slice q l.length c) (by simp)
          go_upto_region 15 with fail
          clear k0
          have hsm : small 9 (-9 + (i : Int)) ∧ small 9 (-9 + (j : Int)) := ⟨⟨by omega, by omega⟩, ⟨by omega, by omega⟩⟩
          have HSM := Lib.hid hsm
          have hig := HUP.out.2.2.1
          have HIG := Lib.hid hig
          clear hsm hig
          go_loopw [13, 54] (fun v t wr => ∃ k : Nat, k ≤ l.length ∧ t = .int .i64 k ∧ v = .int .i64 (mxE (-9 + (i : Int), -9 + (j : Int)) (l.take k)) ∧ Inv w wr [] [(q, l)] [(qw, wl)] [(B9, 2, .int .i64 gc), (B9, 1, .int .i64 gb), (B9, 0, .int .i64 ga), (B6, 1, .int .i64 p2), (B6, 0, .int .i64 p1), (B5, 0, .slice q l.length c)]) (fun _ t _ => l.length - (intOf t).toNat)
          case atStart => exact ⟨0, Nat.zero_le _, rfl, rfl, HI.out⟩
          case round =>
            clear HI
            obtain ⟨k, hk, rfl, rfl, hI⟩ := hrel
            have HI := Lib.hid hI
            clear hI
            by_cases hlk : k < l.length
            · obtain ⟨bl, ol, rfl, hbl, r1, r2⟩ := (HI.out.2.1 (q, l) (by simp)).at hlk (Nat.le_refl _) (Below.refl _ _)
              have hmx := mxE_succ (-9 + (i : Int), -9 + (j : Int)) l k hlk
              have hin := HIG.out _ (getD_mem l k (0, 0) hlk)
              generalize l.getD k (0, 0) = z at *
              obtain ⟨z1, z2⟩ := z
              obtain ⟨⟨g3, g4⟩, g5, g6⟩ := hin
              dsimp only at hmx g3 g4 g5 g6 r1 r2
              obtain ⟨sm1, sm2⟩ := HSM.out
              have n1 := mul_small (a := 9) (b := 6) (x := -9 + (i : Int)) (y := z1) sm1 ⟨by omega, by omega⟩
              have n2 := mul_small (a := 9) (b := 6) (x := -9 + (j : Int)) (y := z2) sm2 ⟨by omega, by omega⟩
              obtain ⟨n11, n12⟩ := n1
              obtain ⟨n21, n22⟩ := n2
              clear sm1 sm2
              obtain ⟨t1, ht1⟩ : ∃ t1, (-9 + (i : Int)) * z1 = t1 := ⟨_, rfl⟩
              obtain ⟨t2, ht2⟩ : ∃ t2, (-9 + (j : Int)) * z2 = t2 := ⟨_, rfl⟩
              obtain ⟨t3, ht3⟩ : ∃ t3, t1 + t2 = t3 := ⟨_, rfl⟩
              rw [ht1] at n11 n12 hmx
              rw [ht2] at n21 n22 hmx
              rw [ht3] at hmx
              have f1 : IntKind.i64.wrap ((-9 + (i : Int)) * z1) = t1 := by rw [ht1, IntWalk.i64_in _ ⟨by omega, by omega⟩]
              have f2 : IntKind.i64.wrap ((-9 + (j : Int)) * z2) = t2 := by rw [ht2, IntWalk.i64_in _ ⟨by omega, by omega⟩]
              have f3 : IntKind.i64.wrap (t1 + t2) = t3 := by rw [ht3, IntWalk.i64_in _ ⟨by omega, by omega⟩]
              have HMX := Lib.hid hmx
              have HI2 := Lib.hid (HI.out.alloc (.cells #[.int .i64 z1, .int .i64 z2] 26))
              clear hmx ht1 ht2 ht3 n11 n12 n21 n22 HI
              go_wp2
              go_roundw
              case rel => exact ⟨k + 1, hlk, by go_num, by rw [HMX.out], HI2.out⟩
              case measure => simp [intOf]; omega
            · obtain rfl : k = l.length := by omega
              rw [List.take_length]
              obtain ⟨q1, q2⟩ := mxE_bd (s := (-9 + (i : Int), -9 + (j : Int))) HSM.out HIG.out
              have htl := tells_one (p := (p1, p2)) (s := (-9 + (i : Int), -9 + (j : Int))) HUP.out HSM.out
              have hms := mxE_sup (s := (-9 + (i : Int), -9 + (j : Int))) HUP.out.1 HIG.out HSM.out
              generalize mxE (-9 + (i : Int), -9 + (j : Int)) l = M at *
              have k1 := HI.out.c (b := B6) (o := 0) (v := .int .i64 p1) (by simp)
              have k2 := HI.out.c (b := B6) (o := 1) (v := .int .i64 p2) (by simp)
              obtain ⟨⟨g3, g4⟩, g5, g6⟩ := HP.out
              obtain ⟨sm1, sm2⟩ := HSM.out
              dsimp only at g3 g4 g5 g6 htl
              have n1 := mul_small (a := 9) (b := 6) (x := -9 + (i : Int)) (y := p1) sm1 ⟨by omega, by omega⟩
              have n2 := mul_small (a := 9) (b := 6) (x := -9 + (j : Int)) (y := p2) sm2 ⟨by omega, by omega⟩
              obtain ⟨n11, n12⟩ := n1
              obtain ⟨n21, n22⟩ := n2
              clear sm1 sm2
              obtain ⟨t1, ht1⟩ : ∃ t1, (-9 + (i : Int)) * p1 = t1 := ⟨_, rfl⟩
              obtain ⟨t2, ht2⟩ : ∃ t2, (-9 + (j : Int)) * p2 = t2 := ⟨_, rfl⟩
              obtain ⟨t3, ht3⟩ : ∃ t3, t1 + t2 = t3 := ⟨_, rfl⟩
              rw [ht1] at n11 n12 htl
              rw [ht2] at n21 n22 htl
              rw [ht3] at htl
              have f1 : IntKind.i64.wrap ((-9 + (i : Int)) * p1) = t1 := by rw [ht1, IntWalk.i64_in _ ⟨by omega, by omega⟩]
              have f2 : IntKind.i64.wrap ((-9 + (j : Int)) * p2) = t2 := by rw [ht2, IntWalk.i64_in _ ⟨by omega, by omega⟩]
              have f3 : IntKind.i64.wrap (t1 + t2) = t3 := by rw [ht3, IntWalk.i64_in _ ⟨by omega, by omega⟩]
              clear ht1 ht2 ht3 n11 n12 n21 n22 g3 g4 g5 g6 q1 q2
              by_cases hlt : M < t3
              · have hfind := HNO.out.hit HUP.out.1 hi19 hj19 (by rw [htl]; exact decide_eq_true hlt)
                obtain ⟨ha, hw⟩ := apart_yes HUP.out HP.out hfind
                rw [HA.out, galOf, ← hms] at ha
                rw [HW.out] at hw
                simp only [Prod.mk.injEq] at ha hw
                obtain ⟨⟨rfl, rfl, rfl⟩, rfl⟩ := ha
                obtain ⟨rfl, rfl⟩ := hw
                clear hfind htl hms HNO
                go_upto_region 20 with fail
                clear f1 f2 f3 k1 k2
                have HID := Lib.hid (HI.out.go (Below.refl _ _).drew)
                have f0 := HID.out.c (b := B9) (o := 0) (v := .int .i64 (-9 + (i : Int))) (by simp)
                have f1 := HID.out.c (b := B9) (o := 1) (v := .int .i64 (-9 + (j : Int))) (by simp)
                have f2 := HID.out.c (b := B9) (o := 2) (v := .int .i64 gc) (by simp)
                have h0 := HI.out.c (b := B9) (o := 0) (v := .int .i64 (-9 + (i : Int))) (by simp)
                have h1 := HI.out.c (b := B9) (o := 1) (v := .int .i64 (-9 + (j : Int))) (by simp)
                have h2 := HI.out.c (b := B9) (o := 2) (v := .int .i64 gc) (by simp)
                go_region_held3 (fun W => W.cell? ⟨B9, 0, none⟩ = some (.int .i64 (-9 + (i : Int))) ∧ W.cell? ⟨B9, 1, none⟩ = some (.int .i64 (-9 + (j : Int))) ∧ W.cell? ⟨B9, 2, none⟩ = some (.int .i64 gc)) (first | exact ⟨f0, f1, f2⟩ | exact ⟨d0, d1, d2⟩ | exact ⟨j0, j1, j2⟩ | go_keep)
                  (first
                  | (go_at_call 75; refine (HID.out.gal (-9 + (i : Int)) (-9 + (j : Int)) gc).mono ?_; rintro e V ⟨rfl, hI⟩; have HJ := Lib.hid hI; clear hI; have d0 := HJ.out.c (b := B9) (o := 0) (v := .int .i64 (-9 + (i : Int))) (by simp); have d1 := HJ.out.c (b := B9) (o := 1) (v := .int .i64 (-9 + (j : Int))) (by simp); have d2 := HJ.out.c (b := B9) (o := 2) (v := .int .i64 gc) (by simp))
                  | (go_at_call 19; refine (HJ.out.scalar (works_any _) rfl).mono ?_; rintro e V2 ⟨rfl, hI⟩; have HK := Lib.hid hI; clear hI; have j0 := HK.out.c (b := B9) (o := 0) (v := .int .i64 (-9 + (i : Int))) (by simp); have j1 := HK.out.c (b := B9) (o := 1) (v := .int .i64 (-9 + (j : Int))) (by simp); have j2 := HK.out.c (b := B9) (o := 2) (v := .int .i64 gc) (by simp))
                  | fail)
                go_wp2
                go_ret
                exact ⟨rfl, HK.out.2.2.2.2⟩
              · have hns := HNO.out.step (by rw [htl]; exact decide_eq_false hlt)
                have HNS := Lib.hid hns
                clear hns htl hms HNO
                go_wp2
                go_roundw
                case rel => exact ⟨j + 1, by omega, by go_num, HNS.out, HI.out⟩
                case measure => simp [intOf]; omega
        · obtain rfl : j = 19 := by omega
          have HNC := Lib.hid HNO.out.col
          clear HNO
          have hb9 : ¬ ((-9 : Int) + (19 : Nat) ≤ 9) := by omega
          go_wp2
          go_roundw
          case rel => exact ⟨i + 1, by omega, by go_num, HNC.out, HI.out⟩
          case measure => simp [intOf]; omega
    · obtain rfl : i = 19 := by omega
      have hsep := HNO.out.done
      obtain ⟨cc, w1', w2', w3', w4'⟩ := within_law HUP.out HP.out hsep
      have ha := apart_no HUP.out HP.out hsep
      rw [HA.out] at ha
      rw [HW.out] at w2'
      simp only [Prod.mk.injEq] at ha w2'
      obtain ⟨⟨rfl, rfl, rfl⟩, rfl⟩ := ha
      obtain ⟨rfl, rfl⟩ := w2'
      have HLF := Lib.hid w1'
      have hz : ((wl.length : Int) == 0) = false := by simp; simpa using w3'
      have hz3 : decide ((3 : Int) < (wl.length : Int)) = false := decide_eq_false (by omega)
      have hw12 : wl.length ≤ 12 := by omega
      clear w1' w3' w4' hsep HNO
      have k0 := HI.out.c (b := B5) (o := 0) (v := .slice q l.length c) (by simp)
      have ha9 : ¬ ((-9 : Int) + (19 : Nat) ≤ 9) := by omega
      have k1 := HI.out.c (b := B6) (o := 0) (v := .int .i64 p1) (by simp)
      have k2 := HI.out.c (b := B6) (o := 1) (v := .int .i64 p2) (by simp)
      have hT := tests_eith (B1 := B5) (B2 := B6) (q := q) (c := c) (l := l) (p := (p1, p2)) k0 (HI.out.ltK (b := B5) (o := 0) (v := .slice q l.length c) (by simp)) k1 k2 (HI.out.ltK (b := B6) (o := 0) (v := .int .i64 p1) (by simp)) (HI.out.2.1 (q, l) (by simp)) HUP.out.2.2.1 HP.out hl12
      have HT := Lib.hid hT
      have EG := Lib.hid (enters_of (P := Try.prog) Try.func80 (by kernel_rfl) rfl)
      have hwb : (wl == wl) = true := beq_self_eq_true _
      have HWB := Lib.hid hwb
      clear hT hwb
      go_wp2_with (first
        | (go_at_call 66; refine (HI.out.foundK (first_gen l.length 80 _ (eithB l (p1, p2)) _ (by omega) EG.out HT.out) HLF.out).mono ?_; rintro e V ⟨q6, c6, rfl, hI⟩; replace HI := Lib.hid hI; clear hI)
        | (go_at_call 38; refine (HI.out.same qw q6 cw c6 wl wl true (by simp) (by simp) (by omega) (by omega) HWB.out).mono ?_; rintro e V ⟨rfl, hI⟩; replace HI := Lib.hid hI; clear hI)
        | (go_at_call 19; refine (HI.out.scalar (works_any _) rfl).mono ?_; rintro e V ⟨rfl, hI⟩; replace HI := Lib.hid hI; clear hI))
      go_ret
      exact ⟨rfl, HI.out.2.2.2.2⟩
end Go.Proofs.Ytcalipoknbbaaaa
namespace Go.Proofs.Ytcalipoknbbaaaa.seamEither
open Go Go.ChangeShapes Go.WideShapes Go.ChangeAt Go.RowKit

theorem own : ownKnob Try.prog.godebug = none := by kernel_rfl

set_option maxRecDepth 100000 in
theorem lifted (os : Os) (started : os.Started) (H : Type) (enc : TypeId × Value → H) :
    ReturnsInHanded {} Try.checked os 13 .any (Rows.seamEitherSpec.pre6 enc Try.prog Try.f13 Rows.seamEitherRow.domain false) (Rows.seamEitherSpec.post enc Try.prog Try.f13 false true false false) := by
  refine returnsInHanded_of_change (C := Try.checked) own started (by kernel_rfl) Try.func13
    (ChangeSpec.witness6 (enc := enc) (C := Try.checked) false { blocks := #[], args := #[.agg (spotCells 0 (List.replicate 12 (0, 0))), .agg #[.int .u8 0, .int .u8 0]], vars := [] } 8 (by kernel_rfl) (by kernel_rfl) (by kernel_rfl) (by kernel_rfl)) ?_
  intro W base args ds gs before hval0 hW hcnd _
  have hval : ∀ (j : Nat) t v, Try.f13.params[j]? = some t → args[j]? = some v → Value.okWide Try.prog W .any base t v := hval0
  have hW' := hW
  obtain ⟨p, q, hA0, hV, rfl, hfz, hnd⟩ := hW
  have hA : DataW.TrodAll enc Try.prog W 0 (fun _ => true) true Try.f13.params.toList args.toList ds p := hA0
  rw [Try.params13] at hA hval
  obtain ⟨v0, v1, d0, d1, p0, p1, rfl, rfl, rfl, h0, h1⟩ := trodAll_two hA
  obtain ⟨rfl, rfl⟩ := trodVars_none hV
  obtain ⟨rfl, g0⟩ := trod_same 5 plain113 h0
  obtain ⟨rfl, g1⟩ := trod_same 5 plain110 h1
  obtain ⟨m0, ls0, rfl, k0a, k0b, k0c⟩ := spot_of (hval 0 113 v0 rfl rfl)
  obtain ⟨x1, rfl, k1⟩ := b2_of (hval 1 110 v1 rfl rfl)
  clear hA0 hval0
  simp only [List.append_nil] at hW'
  refine (SeamEither_any m0 ls0 k0a k0b k0c x1 k1 W).mono fun e W' ⟨he, hg⟩ => ?_
  subst he
  refine ⟨_, rfl, _, _, _, [] ++ [], [] ++ [], [], hW', ?_, ?_, ?_, hg.frame _, fun h => by cases h⟩
  · exact trodAll_cons_mk (shut_bool Try.underlying4 _) trodAll_mk0
  · exact trodAll_cons_mk (g0 _ _ _ _) (trodAll_cons_mk (g1 _ _ _ _) trodAll_mk0)
  · rfl

end Go.Proofs.Ytcalipoknbbaaaa.seamEither
