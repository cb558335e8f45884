/- SeamHulls: plain facts; points, within, Within, Hull and Apart of the reference; the walk; the statement. -/
import Derived.Test.YtcalipoknbbaaaaRadm
import Derived.Test.YtcalipoknbbaaaaGeo
import Derived.Test.YtcalipoknbbaaaaTold
import Derived.Test.YtcalipoknbbaaaaLaw8
import Derived.Test.YtcalipoknbbaaaaRefD
import Derived.Test.YtcalipoknbbaaaaRefK
import Derived.Test.YtcalipoknbbaaaaRefX
import Derived.Deep.RegionHeld3
import Derived.Test.YtcalipoknbbaaaaRows
import Derived.WalkKit
import Derived.ProofKit
import Derived.OpenShut
import Derived.Test.YtcalipoknbbaaaaInK
import Derived.Test.YtcalipoknbbaaaaSeamHullsM
namespace Go.Proofs.Ytcalipoknbbaaaa
open Go.RowKit
set_option linter.unusedSimpArgs false
set_option linter.unusedVariables false
/-- the places with some numbers -/
def pickL (l : List Pl) (x : List Int) : List Pl := x.map fun i => l.getD i.toNat (0, 0)
theorem mem_sel (b : Bool) (is : List Int) (l : List Pl) (p : Pl) : p ∈ sel b is l ↔ ∃ i : Nat, ∃ h : i < l.length, hasI is i = b ∧ l[i] = p := by
  simp only [sel, List.mem_map, List.mem_filter, beq_iff_eq]
  constructor
  · rintro ⟨⟨y, i⟩, ⟨h1, h2⟩, rfl⟩
    obtain ⟨h, e⟩ := List.mem_zipIdx' h1
    exact ⟨i, h, h2, e.symm⟩
  · rintro ⟨i, h, h2, rfl⟩
    exact ⟨(l[i], i), ⟨List.mem_zipIdx_iff_getElem?.2 (by simp [h]), h2⟩, rfl⟩
theorem mem_pick {l : List Pl} {x : List Int} (hx : ∀ i ∈ x, 0 ≤ i ∧ i < l.length) (p : Pl) : p ∈ pickL l x ↔ p ∈ sel true x l := by
  rw [mem_sel]
  simp only [pickL, List.mem_map]
  constructor
  · rintro ⟨i, hi, rfl⟩
    have hb := hx i hi
    have e : ((i.toNat : Nat) : Int) = i := by omega
    refine ⟨i.toNat, by omega, (hasI_mem _ _).2 (by rw [e]; exact hi), ?_⟩
    rw [getD_eq l i.toNat (0, 0) (by omega)]
  · rintro ⟨i, h, h2, rfl⟩
    exact ⟨(i : Int), (hasI_mem _ _).1 h2, by rw [Int.toNat_natCast, getD_eq l i (0, 0) h]⟩

theorem inG_bigS {p : Pl} (hp : NV.inG p) (s : Int × Int) (hs : small 9 s.1 ∧ small 9 s.2) : -1000 < NV.dt s p ∧ NV.dt s p < 1000 := by
  obtain ⟨⟨a, b⟩, c, d⟩ := hp
  obtain ⟨e1, e2⟩ := hs
  have m1 := mul_small (x := s.1) (y := p.1) (a := 9) (b := 6) e1 ⟨by omega, by omega⟩
  have m2 := mul_small (x := s.2) (y := p.2) (a := 9) (b := 6) e2 ⟨by omega, by omega⟩
  simp only [small] at m1 m2
  simp only [NV.dt]
  omega
theorem inG_big {p : Pl} (hp : NV.inG p) (s : Int × Int) (hs : s ∈ slopesL 9) : -1000 < NV.dt s p ∧ NV.dt s p < 1000 := inG_bigS hp s (slopesL_small s hs)
theorem sepB_nil (p : Pl) (hp : NV.inG p) : sepB [] [p] = true := by
  rw [sepB, separateOf, Option.isSome_map, List.find?_isSome]
  refine ⟨(-9, -9), by decide +kernel, ?_⟩
  refine (tells_iff _ _ _).2 fun q hq => ?_
  obtain rfl := List.mem_singleton.1 hq
  have := (inG_big hp (-9, -9) (by decide +kernel)).1
  simp only [supC, List.foldl_nil]
  omega
def withB (l : List Pl) (p : Pl) (is : List Int) : Bool := !sepB (sel true is l) [p]
theorem withB_iff {l : List Pl} {p : Pl} (hl : ∀ q ∈ l, NV.inG q) (hp : NV.inG p) (is : List Int) :
    withB l p is = true ↔ ∀ n : Int × Int, ∃ i : Nat, ∃ h : i < l.length, (i : Int) ∈ is ∧ NV.dt n p ≤ NV.dt n l[i] := by
  by_cases h0 : sel true is l = []
  · rw [withB, h0, sepB_nil p hp]
    constructor
    · intro h; simp at h
    · intro h
      obtain ⟨i, hi, hm, _⟩ := h (0, 0)
      have := (mem_sel true is l l[i]).2 ⟨i, hi, (hasI_mem _ _).2 hm, rfl⟩
      rw [h0] at this
      simp at this
  · have hk := sepB_any h0 (by simp) (sel_inG (b := true) (d := is) hl) (b := [p]) (by intro q hq; obtain rfl := List.mem_singleton.1 hq; exact hp)
    constructor
    · intro h n
      apply Classical.byContradiction
      intro hno
      have : sepB (sel true is l) [p] = true := hk.2 ⟨n, fun q hq r hr => by
        obtain rfl := List.mem_singleton.1 hr
        obtain ⟨i, hi, hm, rfl⟩ := (mem_sel _ _ _ _).1 hq
        apply Classical.byContradiction
        intro hlt
        exact hno ⟨i, hi, (hasI_mem _ _).1 hm, by omega⟩⟩
      rw [withB, this] at h
      simp at h
    · intro h
      cases hs : sepB (sel true is l) [p] with
      | false => rw [withB, hs]; rfl
      | true =>
        obtain ⟨n, hn⟩ := hk.1 hs
        obtain ⟨i, hi, hm, hle⟩ := h n
        have := hn l[i] ((mem_sel _ _ _ _).2 ⟨i, hi, (hasI_mem _ _).2 hm, rfl⟩) p (by simp)
        omega

/-- the test of the law -/
def eithB (l : List Pl) (p : Pl) (x : List Int) : Bool :=
  !(decide (x.length = 0) || decide (3 < x.length)) && (hasP (pickL l x) p || (decide (1 < (pickL l x).length) && !toldB (pickL l x) [p]))
theorem eith_eq {l : List Pl} {p : Pl} (hl : ∀ q ∈ l, NV.inG q) (hp : NV.inG p) (x : List Int) (hx : ∀ i ∈ x, 0 ≤ i ∧ i < l.length) : eithB l p x = (decide (x.length ≤ 3) && withB l p x) := by
  have hmem := fun q => mem_pick hx q
  have hgi : ∀ q ∈ pickL l x, NV.inG q := fun q hq => sel_inG hl q ((hmem q).1 hq)
  have hp1 : ∀ q ∈ [p], NV.inG q := by intro q hq; obtain rfl := List.mem_singleton.1 hq; exact hp
  have hlen : (pickL l x).length = x.length := by simp [pickL]
  unfold eithB
  by_cases h0 : x.length = 0
  · obtain rfl := List.length_eq_zero_iff.1 h0
    have : withB l p [] = false := by
      cases hw : withB l p [] with
      | false => rfl
      | true => obtain ⟨i, _, hm, _⟩ := (withB_iff hl hp []).1 hw (0, 0); simp at hm
    simp [this]
  · by_cases h3 : 3 < x.length
    · simp [h3, show ¬ x.length ≤ 3 by omega]
    · have hne : pickL l x ≠ [] := by intro e; rw [← List.length_eq_zero_iff, hlen] at e; exact h0 e
      have e1 : decide (x.length ≤ 3) = true := decide_eq_true (by omega)
      have e2 : decide (x.length = 0) = false := decide_eq_false h0
      have e3 : decide (3 < x.length) = false := decide_eq_false h3
      rw [e1, e2, e3, hlen]
      simp only [Bool.or_self, Bool.not_false, Bool.true_and]
      rw [Bool.eq_iff_iff, withB_iff hl hp x]
      have key : (∃ n, NV.SepD n (pickL l x) [p]) ↔ ¬ ∀ n : Int × Int, ∃ i : Nat, ∃ h : i < l.length, (i : Int) ∈ x ∧ NV.dt n p ≤ NV.dt n l[i] := by
        constructor
        · rintro ⟨n, hn⟩ h
          obtain ⟨i, hi, hm, hle⟩ := h n
          have := hn l[i] ((hmem _).2 ((mem_sel _ _ _ _).2 ⟨i, hi, (hasI_mem _ _).2 hm, rfl⟩)) p (by simp)
          omega
        · intro h
          obtain ⟨n, hn⟩ := Classical.not_forall.1 h
          refine ⟨n, fun q hq r hr => ?_⟩
          obtain rfl := List.mem_singleton.1 hr
          obtain ⟨i, hi, hm, rfl⟩ := (mem_sel _ _ _ _).1 ((hmem q).1 hq)
          apply Classical.byContradiction
          intro hlt
          exact hn ⟨i, hi, (hasI_mem _ _).1 hm, by omega⟩
      by_cases hin : p ∈ pickL l x
      · have : hasP (pickL l x) p = true := (hasP_mem _ _).2 hin
        simp only [this, Bool.true_or, true_iff]
        apply Classical.byContradiction
        intro hno
        obtain ⟨n, hn⟩ := key.2 hno
        have := hn p hin p (by simp)
        omega
      · have hf : hasP (pickL l x) p = false := by
          cases hh : hasP (pickL l x) p with
          | false => rfl
          | true => exact absurd ((hasP_mem _ _).1 hh) hin
        simp only [hf, Bool.false_or, Bool.and_eq_true, decide_eq_true_eq, Bool.not_eq_true']
        have ht := toldB_any hne (b := [p]) (by simp) hgi hp1
        constructor
        · rintro ⟨_, hx2⟩
          apply Classical.byContradiction
          intro hno
          have := ht.2 (key.2 hno)
          rw [hx2] at this
          simp at this
        · intro h
          refine ⟨?_, ?_⟩
          · apply Classical.byContradiction
            intro h1
            have hx1 : (pickL l x).length = 1 := by omega
            obtain ⟨q, hq⟩ := List.length_eq_one_iff.1 hx1
            have hqp : q ≠ p := by rintro rfl; rw [hq] at hin; simp at hin
            refine key.1 ⟨(p.1 - q.1, p.2 - q.2), fun r hr t ht => ?_⟩ h
            rw [hq] at hr
            obtain rfl := List.mem_singleton.1 hr
            obtain rfl := List.mem_singleton.1 ht
            have hd : NV.dt (t.1 - r.1, t.2 - r.2) t - NV.dt (t.1 - r.1, t.2 - r.2) r = (t.1 - r.1) * (t.1 - r.1) + (t.2 - r.2) * (t.2 - r.2) := by simp only [NV.dt]; grind
            have n1 : 0 ≤ (t.1 - r.1) * (t.1 - r.1) := by rcases Int.le_total 0 (t.1 - r.1) with h | h; exact Int.mul_nonneg h h; exact Int.mul_nonneg_of_nonpos_of_nonpos h h
            have n2 : 0 ≤ (t.2 - r.2) * (t.2 - r.2) := by rcases Int.le_total 0 (t.2 - r.2) with h | h; exact Int.mul_nonneg h h; exact Int.mul_nonneg_of_nonpos_of_nonpos h h
            have n3 : ¬ ((t.1 - r.1) * (t.1 - r.1) = 0 ∧ (t.2 - r.2) * (t.2 - r.2) = 0) := by
              rintro ⟨z1, z2⟩
              have y1 : t.1 - r.1 = 0 := by rcases Int.mul_eq_zero.1 z1 with h | h <;> exact h
              have y2 : t.2 - r.2 = 0 := by rcases Int.mul_eq_zero.1 z2 with h | h <;> exact h
              exact hqp (Prod.ext (by omega) (by omega))
            omega
          · cases hh : toldB (pickL l x) [p] with
            | false => rfl
            | true => exact absurd h (key.1 (ht.1 hh))

/-- Within is the law's first list; it has at most three -/
theorem within_law {l : List Pl} {p : Pl} (h : RowUp l) (hp : NV.inG p) (hs : sepB l [p] = false) :
    ∃ c, lawFirst (eithB l p) (2 ^ l.length) = some c ∧ withinOf l p = (c, 0) ∧ c.length ≠ 0 ∧ c.length ≤ 3 := by
  have hl := h.2.2.1
  have hp1 : ∀ q ∈ [p], NV.inG q := by intro q hq; obtain rfl := List.mem_singleton.1 hq; exact hp
  have hheld : NV.Held (fun i => NV.sub (l.getD i (0, 0)) p) (List.range l.length) := by
    intro n
    apply Classical.byContradiction
    intro hno
    have : sepB l [p] = true := (sepB_any h.1 (by simp) hl hp1).2 ⟨n, fun q hq r hr => by
      obtain rfl := List.mem_singleton.1 hr
      obtain ⟨i, hi, rfl⟩ := List.getElem_of_mem hq
      apply Classical.byContradiction
      intro hlt
      refine hno ⟨i, List.mem_range.2 hi, ?_⟩
      simp only
      rw [NV.dt_sub, getD_eq l i (0, 0) hi]
      omega⟩
    rw [hs] at this
    simp at this
  obtain ⟨js, hsub, hlen, hj⟩ := NV.held_three _ l.length (List.range l.length) (by simp) List.nodup_range hheld
  have hasc : (js.map fun i : Nat => (i : Int)).Pairwise (· < ·) := by
    rw [List.pairwise_map]
    exact (List.Pairwise.sublist hsub List.pairwise_lt_range).imp fun h => by omega
  have hbd : ∀ x ∈ js.map (fun i : Nat => (i : Int)), 0 ≤ x ∧ x < l.length := by
    intro x hx
    obtain ⟨i, hi, rfl⟩ := List.mem_map.1 hx
    have := List.mem_range.1 (hsub.subset hi)
    omega
  have hmem := all_of_asc l.length _ hasc hbd
  have hgood : withB l p (js.map fun i : Nat => (i : Int)) = true := by
    rw [withB_iff hl hp]
    intro n
    obtain ⟨i, hi, hd⟩ := hj n
    have hlt := List.mem_range.1 (hsub.subset hi)
    simp only at hd
    rw [NV.dt_sub, getD_eq l i (0, 0) hlt] at hd
    exact ⟨i, hlt, List.mem_map.2 ⟨i, hi, rfl⟩, by omega⟩
  obtain ⟨c, hc1⟩ := shortest_some hmem hgood
  obtain ⟨m1, m2⟩ := shortest_mem hc1
  obtain ⟨a1, a2⟩ := all_asc m1
  have hle : c.length ≤ 3 := by
    apply Classical.byContradiction
    intro hn
    exact shortest_least hc1 hmem hgood (.inl (by rw [List.length_map]; omega))
  have hc0 : c.length ≠ 0 := by
    intro e
    obtain rfl := List.length_eq_zero_iff.1 e
    obtain ⟨i, _, hm, _⟩ := (withB_iff hl hp []).1 m2 (0, 0)
    simp at hm
  have hfirst : shortestOf l.length (eithB l p) = some c := by
    obtain ⟨_, pre, post, e, hpre⟩ := List.find?_eq_some_iff_append.1 (show (allL l.length).find? (withB l p) = some c from hc1)
    refine List.find?_eq_some_iff_append.2 ⟨?_, pre, post, e, fun a ha => ?_⟩
    · rw [eith_eq hl hp c a2, m2, decide_eq_true hle]; rfl
    · have ham : a ∈ allL l.length := by rw [e]; exact List.mem_append_left _ ha
      have := hpre a ha
      rw [eith_eq hl hp a (all_asc ham).2, show withB l p a = false by simpa using this, Bool.and_false]
      rfl
  refine ⟨c, by rw [law_first l.length h.2.1, hfirst], ?_, hc0, hle⟩
  have he : errPP l p = 0 := by rw [errPP, h.err, if_neg (by simp), if_neg (by rw [inG_onG hp]; simp)]
  rw [withinOf, if_neg (by simp [he]), if_neg (by simp [hs])]
  have hc2 : shortestOf l.length (fun is => !sepB (sel true is l) [p]) = some c := hc1
  rw [hc2]
  rfl
/-- Apart, where a line tells the place apart -/
theorem apart_yes {l : List Pl} {p : Pl} (h : RowUp l) (hp : NV.inG p) {s : Int × Int} (hs : (slopesL 9).find? (tells l [p]) = some s) :
    apartOf l p = (galOf s l, 0) ∧ withinOf l p = ([], 12) := by
  have he : errPP l p = 0 := by rw [errPP, h.err, if_neg (by simp), if_neg (by rw [inG_onG hp]; simp)]
  have hb : sepB l [p] = true := by rw [sepB, separateOf, hs]; rfl
  constructor
  · rw [apartOf, if_neg (by simp [he]), if_neg (by simp [hb]), sepG, separateOf, hs]; rfl
  · rw [withinOf, if_neg (by simp [he]), if_pos hb]
theorem apart_no {l : List Pl} {p : Pl} (h : RowUp l) (hp : NV.inG p) (hs : sepB l [p] = false) : apartOf l p = ((0, 0, 0), 13) := by
  have he : errPP l p = 0 := by rw [errPP, h.err, if_neg (by simp), if_neg (by rw [inG_onG hp]; simp)]
  rw [apartOf, if_neg (by simp [he]), if_pos hs]
/-- the most of a slope, as the law counts it -/
def mxE (s : Int × Int) (l : List Pl) : Int := l.foldl (fun c q => max c (s.1 * q.1 + s.2 * q.2)) (-1000)
theorem mxE_sup {l : List Pl} (h0 : l ≠ []) (hl : ∀ q ∈ l, NV.inG q) {s : Int × Int} (hs : small 9 s.1 ∧ small 9 s.2) : mxE s l = supC s l := by
  match l, h0 with
  | q :: r, _ =>
    have hb := (inG_bigS (hl q (by simp)) s hs).1
    simp only [NV.dt] at hb
    rw [mxE, supC, List.foldl_cons, List.foldl_cons, Int.max_eq_right (by omega), Int.max_eq_right (by omega)]
theorem tells_one {l : List Pl} {p : Pl} (h : RowUp l) {s : Int × Int} (hs : small 9 s.1 ∧ small 9 s.2) : tells l [p] s = decide (mxE s l < s.1 * p.1 + s.2 * p.2) := by
  rw [mxE_sup h.1 h.2.2.1 hs, Bool.eq_iff_iff, tells_iff, decide_eq_true_eq]
  constructor
  · intro h; exact h p (by simp)
  · intro h q hq; obtain rfl := List.mem_singleton.1 hq; exact h
theorem mxE_succ (s : Int × Int) (l : List Pl) (k : Nat) (h : k < l.length) : mxE s (l.take (k + 1)) = max (mxE s (l.take k)) (s.1 * (l.getD k (0, 0)).1 + s.2 * (l.getD k (0, 0)).2) := by
  rw [mxE, mxE, List.take_succ_eq_append_getElem h, List.foldl_append, getD_eq l k (0, 0) h]; rfl
theorem foldE_bd (s : Int × Int) (hs : small 9 s.1 ∧ small 9 s.2) : ∀ (l : List Pl) (c : Int), (∀ q ∈ l, NV.inG q) → -1000 ≤ c ∧ c ≤ 1000 → -1000 ≤ l.foldl (fun c q => max c (s.1 * q.1 + s.2 * q.2)) c ∧ l.foldl (fun c q => max c (s.1 * q.1 + s.2 * q.2)) c ≤ 1000
  | [], c, _, h => h
  | q :: l, c, hl, h => by
    have hb := inG_bigS (hl q (by simp)) s hs
    simp only [NV.dt] at hb
    rw [List.foldl_cons]
    exact foldE_bd s hs l _ (fun r hr => hl r (by simp [hr])) (by omega)
theorem mxE_bd {s : Int × Int} (hs : small 9 s.1 ∧ small 9 s.2) {l : List Pl} (hl : ∀ q ∈ l, NV.inG q) : -1000 ≤ mxE s l ∧ mxE s l ≤ 1000 := foldE_bd s hs l _ hl (by omega)
/-- none of the first slopes tells -/
def NoneS (l : List Pl) (p : Pl) (i j : Nat) : Prop := ∀ s ∈ slopesTo 9 i j, tells l [p] s = false
theorem tells_zero {l : List Pl} {p : Pl} (h0 : l ≠ []) : tells l [p] (0, 0) = false := by
  cases h : tells l [p] (0, 0) with
  | false => rfl
  | true =>
    match l, h0 with
    | q :: r, _ =>
      have := (sup_lt (0, 0) (q :: r) _).1 ((tells_iff _ _ _).1 h p (by simp))
      have := this.2 q (by simp)
      simp [NV.dt] at this
theorem NoneS.step {l : List Pl} {p : Pl} {i j : Nat} (h : NoneS l p i j) (ht : tells l [p] (-9 + i, -9 + j) = false) : NoneS l p i (j + 1) := by
  by_cases hz : -(9 : Int) + i = 0 ∧ -(9 : Int) + j = 0
  · unfold NoneS; rw [slopesTo_no (m := 9) hz]; exact h
  · unfold NoneS
    rw [slopesTo_yes (m := 9) hz]
    intro s hs
    rcases List.mem_append.1 hs with hs | hs
    · exact h s hs
    · obtain rfl := List.mem_singleton.1 hs; exact ht
theorem NoneS.hit {l : List Pl} {p : Pl} {i j : Nat} (h0 : l ≠ []) (h : NoneS l p i j) (hi : i < 19) (hj : j < 19) (ht : tells l [p] (-9 + i, -9 + j) = true) :
    (slopesL 9).find? (tells l [p]) = some (-9 + (i : Int), -9 + (j : Int)) := by
  have hz : ¬(-(9 : Int) + i = 0 ∧ -(9 : Int) + j = 0) := by
    rintro ⟨z1, z2⟩
    have e1 : (-9 + (i : Int)) = 0 := z1
    have e2 : (-9 + (j : Int)) = 0 := z2
    rw [e1, e2, tells_zero h0] at ht
    simp at ht
  obtain ⟨t, ht2⟩ := slopesTo_prefix (m := 9) (i := i) (j := j + 1) hi hj
  rw [slopesTo_yes (m := 9) hz] at ht2
  rw [← ht2]
  refine List.find?_eq_some_iff_append.2 ⟨ht, slopesTo 9 i j, t, ?_, fun a ha => ?_⟩
  · rw [List.append_assoc]; rfl
  · rw [h a ha]; rfl
theorem NoneS.done {l : List Pl} {p : Pl} (h : NoneS l p 19 0) : sepB l [p] = false := by
  rw [sepB, separateOf, Option.isSome_map]
  have : (slopesL 9).find? (tells l [p]) = none := List.find?_eq_none.2 fun s hs => by
    rw [h s (by rw [show (19 : Nat) = 2 * 9 + 1 from rfl, slopesTo_end]; exact hs)]; simp
  rw [this]; rfl
theorem NoneS.zero (l : List Pl) (p : Pl) : NoneS l p 0 0 := by unfold NoneS; rw [slopesTo_zero]; simp
theorem NoneS.col {l : List Pl} {p : Pl} {i : Nat} (h : NoneS l p i 19) : NoneS l p (i + 1) 0 := by
  unfold NoneS at *; rw [← slopesTo_col (m := 9)]; exact h
end Go.Proofs.Ytcalipoknbbaaaa
namespace NV
def crs (u v : Int × Int) : Int := u.1 * v.2 - u.2 * v.1
def trn (p q r : Int × Int) : Int := (q.1 - p.1) * (r.2 - p.2) - (q.2 - p.2) * (r.1 - p.1)
theorem trn_cyc (a b d : Int × Int) : trn a b d = trn d a b := by simp only [trn]; grind
theorem trn_left (a b : Int × Int) : trn a b a = 0 := by simp only [trn]; grind
theorem trn_right (a b : Int × Int) : trn a b b = 0 := by simp only [trn]; grind
theorem trn_parts (f a b d : Int × Int) : trn a b d = crs (sub a f) (sub b f) + crs (sub b f) (sub d f) - crs (sub a f) (sub d f) := by simp only [trn, crs, sub]; grind
theorem trn_self (f a b : Int × Int) : trn f a b = crs (sub a f) (sub b f) := by simp only [trn, crs, sub]
theorem crs_dt (n u v w : Int × Int) : crs u w * dt n v = crs v w * dt n u + crs u v * dt n w := by simp only [crs, dt]; grind
/-- a corner does not lie inside of three others -/
theorem tri {n f a b d : Int × Int} (hf : dt n f < dt n b) (ha : dt n a < dt n b) (hd : dt n d < dt n b) (h1 : 0 ≤ crs (sub a f) (sub b f)) (h2 : 0 ≤ crs (sub b f) (sub d f)) : 0 ≤ trn a b d := by
  rw [trn_parts f a b d]
  have e := crs_dt n (sub a f) (sub b f) (sub d f)
  rw [dt_sub, dt_sub, dt_sub] at e
  generalize crs (sub a f) (sub b f) = B at *
  generalize crs (sub b f) (sub d f) = A at *
  generalize crs (sub a f) (sub d f) = D at *
  apply Classical.byContradiction
  intro hno
  have hV : 0 < dt n b - dt n f := by omega
  have hU : 0 ≤ (dt n b - dt n f) - (dt n a - dt n f) := by omega
  have hW : 0 ≤ (dt n b - dt n f) - (dt n d - dt n f) := by omega
  generalize dt n b - dt n f = V at *
  generalize dt n a - dt n f = U at *
  generalize dt n d - dt n f = W at *
  have p1 : 0 < (D - A - B) * V := Int.mul_pos (by omega) hV
  have p2 := Int.mul_nonneg h2 hU
  have p3 := Int.mul_nonneg h1 hW
  have r1 : (D - A - B) * V = D * V - A * V - B * V := by grind
  have r2 : A * (V - U) = A * V - A * U := by grind
  have r3 : B * (V - W) = B * V - B * W := by grind
  omega
/-- the law's turn is a direction -/
theorem trn_dt (a b q : Int × Int) : trn a b q = dt (-(b.2 - a.2), b.1 - a.1) q - dt (-(b.2 - a.2), b.1 - a.1) a := by simp only [trn, dt]; grind
end NV
namespace Go.Proofs.Ytcalipoknbbaaaa
open Go.RowKit
set_option linter.unusedSimpArgs false
set_option linter.unusedVariables false

/-- a place that some direction tells apart from all others -/
def Tip (l : List Pl) (p : Pl) : Prop := ∃ n : Int × Int, ∀ r ∈ l, r ≠ p → NV.dt n r < NV.dt n p
/-- a direction that is tilted a little, so that no two places of the grid are alike -/
theorem tip_max {l : List Pl} (h0 : l ≠ []) (hl : ∀ r ∈ l, NV.inG r) (n : Int × Int) : ∃ v ∈ l, Tip l v ∧ ∀ r ∈ l, NV.dt n r ≤ NV.dt n v := by
  obtain ⟨v, hv, hm⟩ := NV.ex_max (NV.dt (1000 * n.1 + 100, 1000 * n.2 + 1)) l h0
  have e : ∀ r : Pl, NV.dt (1000 * n.1 + 100, 1000 * n.2 + 1) r = 1000 * NV.dt n r + (100 * r.1 + r.2) := by intro r; simp only [NV.dt]; grind
  obtain ⟨⟨a1, a2⟩, a3, a4⟩ := hl v hv
  have hlt : ∀ r ∈ l, r ≠ v → NV.dt (1000 * n.1 + 100, 1000 * n.2 + 1) r < NV.dt (1000 * n.1 + 100, 1000 * n.2 + 1) v := by
    intro r hr hne
    have h1 := hm r hr
    rw [e, e] at h1 ⊢
    obtain ⟨⟨b1, b2⟩, b3, b4⟩ := hl r hr
    apply Classical.byContradiction
    intro hno
    have heq : 1000 * NV.dt n r + (100 * r.1 + r.2) = 1000 * NV.dt n v + (100 * v.1 + v.2) := by omega
    exact hne (Prod.ext (by omega) (by omega))
  refine ⟨v, hv, ⟨_, hlt⟩, fun r hr => ?_⟩
  have h1 := hm r hr
  rw [e, e] at h1
  obtain ⟨⟨b1, b2⟩, b3, b4⟩ := hl r hr
  omega

theorem RowUp.nodup {l : List Pl} (h : RowUp l) : l.Nodup := by
  refine List.Pairwise.imp ?_ h.2.2.2
  rintro a b hab rfl
  simp only [NV.ltP] at hab
  omega
theorem nodup_ix {l : List Pl} (h : l.Nodup) {i j : Nat} (hi : i < l.length) (hj : j < l.length) (e : l[i] = l[j]) : i = j := by
  rcases Nat.lt_trichotomy i j with k | k | k
  · exact absurd e ((List.pairwise_iff_getElem.1 h) i j hi hj k)
  · exact k
  · exact absurd e.symm ((List.pairwise_iff_getElem.1 h) j i hj hi k)
/-- all but one -/
def butI (l : List Pl) (i : Nat) : List Pl := l.take i ++ l.drop (i + 1)
theorem mem_but {l : List Pl} (hn : l.Nodup) {i : Nat} (hi : i < l.length) (r : Pl) : r ∈ butI l i ↔ r ∈ l ∧ r ≠ l[i] := by
  have e : l = l.take i ++ l[i] :: l.drop (i + 1) := by
    rw [List.getElem_cons_drop, List.take_append_drop]
  have hn' := hn
  rw [e] at hn'
  rw [List.nodup_append] at hn'
  obtain ⟨h1, h2, h3⟩ := hn'
  rw [List.nodup_cons] at h2
  constructor
  · intro h
    rcases List.mem_append.1 h with h | h
    · exact ⟨List.mem_of_mem_take h, fun x => h3 r h l[i] List.mem_cons_self x⟩
    · exact ⟨List.mem_of_mem_drop h, fun x => h2.1 (by rw [← x]; exact h)⟩
  · rintro ⟨h, hne⟩
    rw [e] at h
    rcases List.mem_append.1 h with h | h
    · exact List.mem_append_left _ h
    · rcases List.mem_cons.1 h with h | h
      · exact absurd h hne
      · exact List.mem_append_right _ h
theorem mem_selC (b : Bool) (is : List Int) (l : List Pl) (p : Pl) : p ∈ sel b is l ↔ ∃ i : Nat, ∃ h : i < l.length, hasI is i = b ∧ l[i] = p := by
  simp only [sel, List.mem_map, List.mem_filter, beq_iff_eq]
  constructor
  · rintro ⟨⟨y, i⟩, ⟨h1, h2⟩, rfl⟩
    obtain ⟨h, e⟩ := List.mem_zipIdx' h1
    exact ⟨i, h, h2, e.symm⟩
  · rintro ⟨i, h, h2, rfl⟩
    exact ⟨(l[i], i), ⟨List.mem_zipIdx_iff_getElem?.2 (by simp [h]), h2⟩, rfl⟩
theorem mem_sel1 {l : List Pl} (hn : l.Nodup) {i : Nat} (hi : i < l.length) (r : Pl) : r ∈ sel false [(i : Int)] l ↔ r ∈ l ∧ r ≠ l[i] := by
  rw [mem_selC]
  constructor
  · rintro ⟨j, hj, hb, rfl⟩
    refine ⟨List.getElem_mem _, fun e => ?_⟩
    have := nodup_ix hn hj hi e
    subst this
    simp [hasI] at hb
  · rintro ⟨hr, hne⟩
    obtain ⟨j, hj, rfl⟩ := List.getElem_of_mem hr
    refine ⟨j, hj, ?_, rfl⟩
    simp only [hasI, List.any_cons, List.any_nil, Bool.or_false]
    apply Classical.byContradiction
    intro hno
    have : (j : Int) = i := by simpa using hno
    have hji : j = i := by omega
    subst hji
    exact hne rfl
theorem one_inC {p : Pl} (h : NV.inG p) : ∀ q ∈ [p], NV.inG q := by intro q hq; obtain rfl := List.mem_singleton.1 hq; exact h
theorem sepB_nilC (p : Pl) (hp : NV.inG p) : sepB [] [p] = true := by
  rw [sepB, separateOf, Option.isSome_map, List.find?_isSome]
  refine ⟨(-9, -9), by decide +kernel, ?_⟩
  refine (tells_iff _ _ _).2 fun q hq => ?_
  obtain rfl := List.mem_singleton.1 hq
  obtain ⟨⟨a, b⟩, c, d⟩ := hp
  simp only [supC, List.foldl_nil, NV.dt]
  omega
theorem tip_sep {l A : List Pl} {p : Pl} (h : ∀ r, r ∈ A ↔ r ∈ l ∧ r ≠ p) : Tip l p ↔ ∃ n, NV.SepD n A [p] := by
  constructor
  · rintro ⟨n, hn⟩
    refine ⟨n, fun r hr q hq => ?_⟩
    obtain rfl := List.mem_singleton.1 hq
    exact hn r ((h r).1 hr).1 ((h r).1 hr).2
  · rintro ⟨n, hn⟩
    exact ⟨n, fun r hr hne => hn r ((h r).2 ⟨hr, hne⟩) p (by simp)⟩
theorem corn_tip {l : List Pl} (h : RowUp l) {i : Nat} (hi : i < l.length) : cornB l i = true ↔ Tip l l[i] := by
  have hm := fun r => mem_sel1 h.nodup hi r
  have hin := h.2.2.1
  have hp := hin l[i] (List.getElem_mem _)
  rw [cornB, getD_eq l i (0, 0) hi, tip_sep hm]
  by_cases h0 : sel false [(i : Int)] l = []
  · rw [h0, sepB_nilC _ hp]
    simp only [true_iff]
    exact ⟨(0, 0), fun r hr => by simp at hr⟩
  · exact sepB_any h0 (by simp) (fun r hr => hin r ((hm r).1 hr).1) (one_inC hp)
/-- the law's test of a corner -/
theorem corner_law {l : List Pl} (h : RowUp l) {i : Nat} (hi : i < l.length) : (decide ((butI l i).length = 0) || toldB (butI l i) [l[i]]) = cornB l i := by
  have hm := fun r => mem_but h.nodup hi r
  have hin := h.2.2.1
  have hp := hin l[i] (List.getElem_mem _)
  rw [Bool.eq_iff_iff, corn_tip h hi, tip_sep hm]
  by_cases h0 : butI l i = []
  · rw [h0]
    simp only [List.length_nil, decide_true, Bool.true_or, true_iff]
    exact ⟨(0, 0), fun r hr => by simp at hr⟩
  · have hz : decide ((butI l i).length = 0) = false := decide_eq_false fun e => h0 (List.length_eq_zero_iff.1 e)
    rw [hz, Bool.false_or]
    exact toldB_any h0 (by simp) (fun r hr => hin r ((hm r).1 hr).1) (one_inC hp)
theorem mem_corn {l : List Pl} (h : RowUp l) (p : Pl) : p ∈ cornTo l l.length ↔ p ∈ l ∧ Tip l p := by
  simp only [cornTo, List.mem_map, List.mem_filter, List.mem_range]
  constructor
  · rintro ⟨i, ⟨hi, hc⟩, rfl⟩
    rw [getD_eq l i (0, 0) hi]
    exact ⟨List.getElem_mem _, (corn_tip h hi).1 hc⟩
  · rintro ⟨hp, ht⟩
    obtain ⟨i, hi, rfl⟩ := List.getElem_of_mem hp
    exact ⟨i, ⟨hi, (corn_tip h hi).2 ht⟩, getD_eq l i (0, 0) hi⟩
theorem corn_nodup {l : List Pl} (h : RowUp l) : (cornTo l l.length).Nodup := by
  unfold cornTo
  rw [List.nodup_iff_pairwise_ne, List.pairwise_map]
  refine List.Pairwise.imp_of_mem ?_ (List.Pairwise.sublist List.filter_sublist (List.nodup_range (n := l.length)))
  intro a b ha hb hne e
  have ha' := List.mem_range.1 (List.mem_filter.1 ha).1
  have hb' := List.mem_range.1 (List.mem_filter.1 hb).1
  rw [getD_eq l a (0, 0) ha', getD_eq l b (0, 0) hb'] at e
  exact hne (nodup_ix h.nodup ha' hb' e)

/-- what the law asks of the corners -/
structure Corners (l c : List Pl) : Prop where
  mem : ∀ p, p ∈ c ↔ p ∈ l ∧ Tip l p
  nodup : c.Nodup
  pos : 0 < c.length
  le : c.length ≤ l.length
  head : c.getD 0 (0, 0) = l.getD 0 (0, 0)
  turn : ∀ i, i < c.length → ∀ q ∈ l, 0 ≤ NV.trn (c.getD i (0, 0)) (c.getD ((i + 1) % c.length) (0, 0)) q

theorem hull_corners {l c : List Pl} (h : RowUp l) (hc : IsHull l c) : Corners l c := by
  obtain ⟨f, r, t, hfr, hperm, hsort, rfl⟩ := hc
  have hp : (f :: t).Perm (cornTo l l.length) := by rw [hfr]; exact List.Perm.cons f hperm
  have hmem : ∀ p, p ∈ f :: t ↔ p ∈ l ∧ Tip l p := fun p => by rw [hp.mem_iff, mem_corn h]
  have hnd : (f :: t).Nodup := hp.nodup_iff.2 (corn_nodup h)
  refine ⟨hmem, hnd, by simp, ?_, ?_, ?_⟩
  · rw [hp.length_eq]; exact cornTo_le l l.length
  · rw [List.getD_cons_zero]
    match l, h with
    | p :: l', h =>
      have h1 := first_corner h.err
      unfold cornTo at hfr
      rw [List.length_cons, List.range_eq_range', List.range'_succ, List.filter_cons, if_pos h1, List.map_cons] at hfr
      injection hfr with e1 _
      exact e1.symm
  · have P1 : ∀ a b, a < b → b < (f :: t).length → 0 ≤ NV.crs (NV.sub ((f :: t).getD a (0, 0)) f) (NV.sub ((f :: t).getD b (0, 0)) f) := by
      intro a b hab hb
      cases a with
      | zero => simp [NV.crs, NV.sub]
      | succ a =>
        cases b with
        | zero => omega
        | succ b =>
          rw [List.getD_cons_succ, List.getD_cons_succ]
          have ha' : a < t.length := by simp at hb; omega
          have hb' : b < t.length := by simpa using hb
          rw [getD_eq t a (0, 0) ha', getD_eq t b (0, 0) hb']
          exact List.pairwise_iff_getElem.1 hsort a b ha' hb' (by omega)
    have P2 : ∀ j, j < (f :: t).length → (f :: t).getD j (0, 0) ∈ l ∧ Tip l ((f :: t).getD j (0, 0)) := fun j hj => (hmem _).1 (getD_mem _ j (0, 0) hj)
    have P3 : ∀ a b, a < (f :: t).length → b < (f :: t).length → a ≠ b → (f :: t).getD a (0, 0) ≠ (f :: t).getD b (0, 0) := by
      intro a b ha hb hne e
      rw [getD_eq _ a (0, 0) ha, getD_eq _ b (0, 0) hb] at e
      exact hne (nodup_ix hnd ha hb e)
    have hf0 : (f :: t).getD 0 (0, 0) = f := rfl
    have key : ∀ i, i < (f :: t).length → ∀ j, j < (f :: t).length → 0 ≤ NV.trn ((f :: t).getD i (0, 0)) ((f :: t).getD ((i + 1) % (f :: t).length) (0, 0)) ((f :: t).getD j (0, 0)) := by
      intro i hi j hj
      by_cases hl : i + 1 < (f :: t).length
      · rw [Nat.mod_eq_of_lt hl]
        rcases Nat.lt_trichotomy j i with hji | rfl | hji
        · rw [NV.trn_cyc]
          obtain ⟨_, n, hn⟩ := P2 i hi
          have m0 := hn f (hf0 ▸ (P2 0 (by omega)).1) (hf0 ▸ P3 0 i (by omega) hi (by omega))
          have m1 := hn _ (P2 j hj).1 (P3 j i hj hi (by omega))
          have m2 := hn _ (P2 (i + 1) hl).1 (P3 (i + 1) i hl hi (by omega))
          exact NV.tri m0 m1 m2 (P1 j i hji hi) (P1 i (i + 1) (by omega) hl)
        · rw [NV.trn_left]; exact Int.le_refl _
        · by_cases he : j = i + 1
          · rw [he, NV.trn_right]; exact Int.le_refl _
          · obtain ⟨_, n, hn⟩ := P2 (i + 1) hl
            have m0 := hn f (hf0 ▸ (P2 0 (by omega)).1) (hf0 ▸ P3 0 (i + 1) (by omega) hl (by omega))
            have m1 := hn _ (P2 i hi).1 (P3 i (i + 1) hi hl (by omega))
            have m2 := hn _ (P2 j hj).1 (P3 j (i + 1) hj hl he)
            exact NV.tri m0 m1 m2 (P1 i (i + 1) (by omega) hl) (P1 (i + 1) j (by omega) hj)
      · have hk : i + 1 = (f :: t).length := by omega
        rw [hk, Nat.mod_self, hf0, NV.trn_cyc, NV.trn_cyc, NV.trn_self]
        by_cases he : j = i
        · subst he
          simp only [NV.crs]
          have := Int.mul_comm (NV.sub ((f :: t).getD j (0, 0)) f).1 (NV.sub ((f :: t).getD j (0, 0)) f).2
          omega
        · exact P1 j i (by omega) hi
    intro i hi q hq
    have hk := key i hi
    generalize (f :: t).getD i (0, 0) = a at *
    generalize (f :: t).getD ((i + 1) % (f :: t).length) (0, 0) = b at *
    obtain ⟨v, hv, hvt, hmax⟩ := tip_max h.1 h.2.2.1 (-(-(b.2 - a.2)), -(b.1 - a.1))
    obtain ⟨j, hj, hje⟩ := List.getElem_of_mem ((hmem v).2 ⟨hv, hvt⟩)
    have h1 := hk j hj
    rw [getD_eq _ j (0, 0) hj, hje, NV.trn_dt] at h1
    have h2 := hmax q hq
    have e : ∀ r : Pl, NV.dt (-(-(b.2 - a.2)), -(b.1 - a.1)) r = -(NV.dt (-(b.2 - a.2), b.1 - a.1) r) := by intro r; simp only [NV.dt]; grind
    rw [e, e] at h2
    rw [NV.trn_dt]
    omega
theorem Corners.has {l c : List Pl} (h : RowUp l) (hc : Corners l c) {i : Nat} (hi : i < l.length) : hasP c l[i] = cornB l i := by
  rw [Bool.eq_iff_iff, hasP_mem, hc.mem, corn_tip h hi]
  exact ⟨fun x => x.2, fun x => ⟨List.getElem_mem _, x⟩⟩
theorem Corners.not_before {l c : List Pl} (hc : Corners l c) {i : Nat} (hi : i < c.length) : hasP (c.take i) c[i] = false := by
  cases hh : hasP (c.take i) c[i] with
  | false => rfl
  | true =>
    have := (hasP_mem _ _).1 hh
    obtain ⟨j, hj, e⟩ := List.getElem_of_mem this
    rw [List.getElem_take] at e
    rw [List.length_take] at hj
    have := nodup_ix hc.nodup (by omega) hi e
    omega
theorem Corners.in_row {l c : List Pl} (hc : Corners l c) {i : Nat} (hi : i < c.length) : hasP l c[i] = true :=
  (hasP_mem _ _).2 ((hc.mem _).1 (List.getElem_mem _)).1
/-- a line that tells a place apart from the corners tells it apart from all -/
theorem Corners.within {l c s : List Pl} (h : RowUp l) (hc : Corners l c) (hs : RowUp s) (hm : ∀ p, p ∈ s ↔ p ∈ c) {p : Pl} (hp : NV.inG p) : (withinOf l p).2 = (withinOf s p).2 := by
  have e1 : errPP l p = 0 := by rw [errPP, h.err, if_neg (by simp), if_neg (by rw [inG_onG hp]; simp)]
  have e2 : errPP s p = 0 := by rw [errPP, hs.err, if_neg (by simp), if_neg (by rw [inG_onG hp]; simp)]
  have hb : sepB l [p] = sepB s [p] := by
    rw [Bool.eq_iff_iff, sepB_any h.1 (by simp) h.2.2.1 (one_inC hp), sepB_any hs.1 (by simp) hs.2.2.1 (one_inC hp)]
    constructor
    · rintro ⟨n, hn⟩
      exact ⟨n, fun r hr => hn r ((hc.mem r).1 ((hm r).1 hr)).1⟩
    · rintro ⟨n, hn⟩
      refine ⟨n, fun r hr q hq => ?_⟩
      obtain ⟨v, hv, ht, hmax⟩ := tip_max h.1 h.2.2.1 n
      have := hn v ((hm v).2 ((hc.mem v).2 ⟨hv, ht⟩)) q hq
      have := hmax r hr
      omega
  rw [withinOf, withinOf, if_neg (show ¬ errPP l p ≠ 0 by simp [e1]), if_neg (show ¬ errPP s p ≠ 0 by simp [e2]), hb]
  cases sepB s [p] <;> rfl
theorem within_err {l : List Pl} {p : Pl} (h : RowUp l) (hp : NV.inG p) : (withinOf l p).2 = 0 ∨ (withinOf l p).2 = 12 := by
  have e1 : errPP l p = 0 := by rw [errPP, h.err, if_neg (by simp), if_neg (by rw [inG_onG hp]; simp)]
  rw [withinOf, if_neg (by simp [e1])]
  split
  · exact .inr rfl
  · exact .inl rfl
end Go.Proofs.Ytcalipoknbbaaaa
namespace Go.Proofs.Ytcalipoknbbaaaa
open Go.RowKit
set_option linter.unusedSimpArgs false
set_option linter.unusedVariables false

theorem owns_capP {w : World} {base : Nat} {e : TypeId} {v : Value} {ps : List Pl} (h : w.ownsRow base e 2 v ps.length (flatP ps)) : ∃ q cap, v = .slice q ps.length cap ∧ RowP w q ps ∧ (q = none → cap = 0) := by
  obtain ⟨q, c, rfl, hr⟩ := rowP_of_owns h
  exact ⟨q, c, rfl, hr, owns_nil_capP h⟩

set_option maxRecDepth 100000 in
set_option maxHeartbeats 1000000 in
theorem points_any (q : Option Addr) (c : Nat) (ps : List Pl) (w : World) (hr : RowP w q ps) (hl : ps.length ≤ 1000) :
    Calls Try.prog 48 #[.slice q ps.length c] w fun e w' => ∃ q c, e = .returned (.slice q ps.length c) ∧ RowP w' q ps ∧ (q = none → c = 0) ∧ Below w.heap.size w w' := by
  have HR := Lib.hid hr
  clear hr
  go_enter Try.func48, Try.ntmps48
  go_wp2
  go_loopw [3, 4] (fun v i wr => ∃ k : Nat, k ≤ ps.length ∧ i = .int .i64 k ∧ wr.ownsRow w.heap.size 38 2 v (ps.take k).length (flatP (ps.take k)) ∧ Below w.heap.size w wr) (fun _ i _ => ps.length - (intOf i).toNat)
  case atStart => exact ⟨0, Nat.zero_le _, rfl, World.ownsRow_nil _ _ _ _, Below.refl _ _⟩
  case round =>
    obtain ⟨k, hk, rfl, hown, hbel⟩ := hrel
    have HO := Lib.hid hown
    clear hown
    by_cases hlt : k < ps.length
    · obtain ⟨b, off, rfl, hb, h1, h2⟩ := HR.out.at hlt (Nat.le_refl _) hbel
      have hst : ps.take (k + 1) = ps.take k ++ [ps.getD k (0, 0)] := by rw [List.take_succ_eq_append_getElem hlt, getD_eq ps k (0, 0) hlt]
      have hbd : (ps.take k).length ≤ k := List.length_take_le _ _
      generalize ps.getD k (0, 0) = g at *
      generalize ps.take k = out at *
      have HST := Lib.hid hst
      have hsz := hbel.size
      clear hst
      go_wp2_with (at_builtin; refine app_placeR _ rfl (.tmp 11) (.tmp 16) rfl w.heap.size _ _ g rfl (HO.out.alloc _) wr.heap.size 1 rfl (by simp) (by simp) (by omega) (by simp; omega) ?_; intro v' w3 hown3 hgrow hblk)
      have hb3 := grown_below (HO.out.alloc (.cells #[.int .i64 g.1, .int .i64 g.2] 38)) (by simp; omega) hgrow
      go_roundw
      case rel => exact ⟨k + 1, hlt, by go_num, by rw [HST.out]; exact hown3, (hbel.alloc (by omega) _).trans hb3⟩
      case measure => simp [intOf]; omega
    · obtain rfl : k = ps.length := by omega
      have ho := HO.out
      rw [List.take_length] at ho
      obtain ⟨q1, c1, rfl, r1, n1⟩ := owns_capP ho
      have R1 := Lib.hid r1
      have N1 := Lib.hid n1
      clear ho HO r1 n1
      go_wp2
      go_ret
      exact ⟨q1, c1, rfl, R1.out, N1.out, hbel⟩

set_option maxRecDepth 100000 in
set_option maxHeartbeats 1000000 in
theorem rasked_any (q : Option Addr) (c : Nat) (ps : List Pl) (p : Pl) (w : World) (hr : RowP w q ps) :
    Calls Try.prog 124 #[.slice q ps.length c, .agg #[.int .i64 p.1, .int .i64 p.2]] w fun e w' => e = .returned (.int .i64 (errPP ps p)) ∧ Below w.heap.size w w' := by
  have HI := Lib.hid (Inv.onePP w q ps p hr)
  have k0 := HI.out.c (b := w.heap.size) (o := 0) (v := .int .i64 p.1) (by simp)
  have k1 := HI.out.c (b := w.heap.size) (o := 1) (v := .int .i64 p.2) (by simp)
  clear hr
  obtain ⟨F, hF⟩ : ∃ F, errPP ps p = F := ⟨_, rfl⟩
  obtain ⟨E, hE⟩ : ∃ E, errP ps = E := ⟨_, rfl⟩
  rw [hF]
  have HE := Lib.hid hE
  have cP := fun V => rplaced_any p V
  obtain ⟨X, hX⟩ : ∃ X, onG 7 p = X := ⟨_, rfl⟩
  rw [hX] at cP
  have CP := Lib.hid cP
  by_cases h0 : E = 0
  · subst h0
    have hf : F = if X = false then 2 else 0 := by rw [← hF, errPP, hE, if_neg (by simp), hX]
    clear hF hE hX cP
    cases X with
    | true =>
      rw [if_neg (by simp)] at hf
      subst hf
      go_enter Try.func124, Try.ntmps124
      go_wp2_with (first
        | (go_at_call 56; refine (HI.out.scalar (V' := .int .i64 0) (rPoints_any q c ps _ (HI.out.2.1 (q, ps) (by simp))) (by rw [HE.out])).mono ?_; rintro e W ⟨rfl, hI⟩; replace HI := Lib.hid hI; clear hI k0 k1; have k0 := HI.out.c (b := w.heap.size) (o := 0) (v := .int .i64 p.1) (by simp); have k1 := HI.out.c (b := w.heap.size) (o := 1) (v := .int .i64 p.2) (by simp))
        | (go_at_call 126; have hcc := CP.out W; (with_reducible refine hcc.mono ?_); clear hcc; rintro e V ⟨rfl, hb⟩; replace HI := Lib.hid (HI.out.go hb); clear hb k0 k1))
      go_ret
      exact ⟨rfl, HI.out.2.2.2.2⟩
    | false =>
      rw [if_pos rfl] at hf
      subst hf
      go_enter Try.func124, Try.ntmps124
      go_wp2_with (first
        | (go_at_call 56; refine (HI.out.scalar (V' := .int .i64 0) (rPoints_any q c ps _ (HI.out.2.1 (q, ps) (by simp))) (by rw [HE.out])).mono ?_; rintro e W ⟨rfl, hI⟩; replace HI := Lib.hid hI; clear hI k0 k1; have k0 := HI.out.c (b := w.heap.size) (o := 0) (v := .int .i64 p.1) (by simp); have k1 := HI.out.c (b := w.heap.size) (o := 1) (v := .int .i64 p.2) (by simp))
        | (go_at_call 126; have hcc := CP.out W; (with_reducible refine hcc.mono ?_); clear hcc; rintro e V ⟨rfl, hb⟩; replace HI := Lib.hid (HI.out.go hb); clear hb k0 k1))
      go_ret
      exact ⟨rfl, HI.out.2.2.2.2⟩
  · have hf : F = E := by rw [← hF, errPP, hE, if_pos h0]
    subst hf
    have hb : (F == 0) = false := beq_eq_false_iff_ne.2 h0
    clear hF hE hX cP
    go_enter Try.func124, Try.ntmps124
    go_wp2_with (first
      | (go_at_call 56; refine (HI.out.scalar (V' := .int .i64 F) (rPoints_any q c ps _ (HI.out.2.1 (q, ps) (by simp))) (by rw [HE.out])).mono ?_; rintro e W ⟨rfl, hI⟩; replace HI := Lib.hid hI; clear hI k0 k1))
    go_ret
    exact ⟨rfl, HI.out.2.2.2.2⟩

theorem onG_inG {p : Pl} (h : onG 7 p = true) : NV.inG p := by
  have h2 := onG_in 7 p
  rw [h] at h2
  have h3 := Bool.and_eq_true_iff.1 h2.symm
  unfold inB at h3
  simp only [Bool.and_eq_true, decide_eq_true_eq] at h3
  exact ⟨⟨h3.1.1, by omega⟩, h3.2.1, by omega⟩

set_option maxRecDepth 100000 in
set_option maxHeartbeats 1000000 in
theorem rDepth_any (q : Option Addr) (c : Nat) (ps : List Pl) (p : Pl) (w : World) (hr : RowP w q ps) :
    Calls Try.prog 60 #[.slice q ps.length c, .agg #[.int .i64 p.1, .int .i64 p.2]] w fun e w' => e = .returned (.tuple #[.int .i64 (depthR ps p).1, .int .i64 (depthR ps p).2]) ∧ Below w.heap.size w w' := by
  have HI := Lib.hid (Inv.onePP w q ps p hr)
  have k0 := HI.out.c (b := w.heap.size) (o := 0) (v := .int .i64 p.1) (by simp)
  have k1 := HI.out.c (b := w.heap.size) (o := 1) (v := .int .i64 p.2) (by simp)
  clear hr
  obtain ⟨F, hF⟩ : ∃ F, errPP ps p = F := ⟨_, rfl⟩
  have HF := Lib.hid hF
  by_cases h0 : F = 0
  · subst h0
    obtain ⟨e1, e2⟩ := errPP_ok hF
    obtain ⟨o1, o2, o3, o4⟩ := errP_ok e1
    have hres : depthR ps p = ((depthOf ps p : Int), 0) := by rw [depthR, if_neg (by simp [hF])]
    rw [hres]
    have hin : ∀ r ∈ ps, NV.inG r := fun r hr => onG_inG (o3 r hr)
    have cD := fun (V : World) (h : RowP V q ps) => rdepth_any q c ps p V h hin (onG_inG e2) o2
    have CD := Lib.hid cD
    clear hF e1 e2 o3 o4 hres hin cD
    generalize depthOf ps p = D at *
    go_enter Try.func60, Try.ntmps60
    go_wp2_with (first
      | (go_at_call 124; refine (HI.out.scalar (V' := .int .i64 0) (rasked_any q c ps p _ (HI.out.2.1 (q, ps) (by simp))) (by rw [HF.out])).mono ?_; rintro e W ⟨rfl, hI⟩; replace HI := Lib.hid hI; clear hI k0 k1; have k0 := HI.out.c (b := w.heap.size) (o := 0) (v := .int .i64 p.1) (by simp); have k1 := HI.out.c (b := w.heap.size) (o := 1) (v := .int .i64 p.2) (by simp))
      | (go_at_call 132; have hcc := CD.out W (HI.out.2.1 (q, ps) (by simp)); (with_reducible refine hcc.mono ?_); clear hcc; rintro e V ⟨rfl, hb⟩; replace HI := Lib.hid (HI.out.go hb); clear hb k0 k1))
    go_ret2
    exact ⟨rfl, HI.out.2.2.2.2⟩
  · have hres : depthR ps p = (0, F) := by rw [depthR, hF, if_pos h0]
    rw [hres]
    have hb : (F != 0) = true := by simp [h0]
    clear hF hres
    go_enter Try.func60, Try.ntmps60
    go_wp2_with (first
      | (go_at_call 124; refine (HI.out.scalar (V' := .int .i64 F) (rasked_any q c ps p _ (HI.out.2.1 (q, ps) (by simp))) (by rw [HF.out])).mono ?_; rintro e W ⟨rfl, hI⟩; replace HI := Lib.hid hI; clear hI k0 k1))
    go_ret2
    exact ⟨rfl, HI.out.2.2.2.2⟩
end Go.Proofs.Ytcalipoknbbaaaa
namespace Go.Proofs.Ytcalipoknbbaaaa
open Go.RowKit
set_option linter.unusedSimpArgs false
set_option linter.unusedVariables false

set_option maxRecDepth 100000 in
set_option maxHeartbeats 2000000 in
theorem rCentre_any (q : Option Addr) (cap : Nat) (ps : List Pl) (w : World) (hr : RowP w q ps) :
    Calls Try.prog 62 #[.slice q ps.length cap] w fun e w' => e = .returned (.tuple #[.agg #[.int .i64 (centreOf ps).1.1, .int .i64 (centreOf ps).1.2], .int .i64 (centreOf ps).2.1, .int .i64 (centreOf ps).2.2]) ∧ Below w.heap.size w w' := by
  have hb0 : Below w.heap.size w (w.alloc (.cells #[.int .i64 0, .int .i64 0] 38)) := (Below.refl _ _).alloc (Nat.le_refl _) _
  have hr' := hr.below (Nat.le_refl _) hb0
  have hz : Cell2 (w.alloc (.cells #[.int .i64 0, .int .i64 0] 38)) w.heap.size (.int .i64 0) (.int .i64 0) := ⟨by simp, by simp, by simp, by simp, by simp⟩
  have c1 := rPoints_any q cap ps _ hr'
  have C1 := Lib.hid c1
  have HR := Lib.hid hr'
  have HB0 := Lib.hid hb0
  have HZ := Lib.hid hz
  clear c1 hr hr' hb0 hz
  by_cases h0 : errP ps = 0
  · have hb : (errP ps != 0) = false := by simp [h0]
    obtain ⟨o1, o2, o3, o4⟩ := errP_ok h0
    have hin : ∀ r ∈ ps, NV.inG r := fun r hr => onG_inG (o3 r hr)
    have HIN := Lib.hid hin
    have hres : centreOf ps = ((centTo ps 7 0).1, (centTo ps 7 0).2, 0) := by rw [centreOf, if_neg (by simp [h0])]
    have HRES := Lib.hid hres
    clear hres h0 hin o3 o4
    go_enter Try.func62, Try.ntmps62
    go_wp2_with (go_at_call 56; refine C1.out.mono ?_; rintro e w1 ⟨rfl, hb1⟩; have hz1 : w.heap.size < w1.heap.size := (by have := hb1.size; simp at this; omega))
    have HX1 := Lib.hid (HZ.out.below (by simp) hb1)
    have HR1 := Lib.hid (HR.out.below (Nat.le_refl _) hb1)
    have HB1 := Lib.hid (al0 HB0.out hb1 (by simp <;> omega))
    clear C1 HR HB0 HZ
    go_loopw [7, 8] (fun d i wr => ∃ k : Nat, k ≤ 7 ∧ i = .int .i64 k ∧ d = .int .i64 (centTo ps k 0).2 ∧ Cell2 wr w1.heap.size (.int .i64 (centTo ps k 0).1.1) (.int .i64 (centTo ps k 0).1.2) ∧ Below w1.heap.size w1 wr) (fun _ i _ => 7 - (intOf i).toNat)
    case atStart => exact ⟨0, Nat.zero_le _, rfl, by rw [centTo_zero], by rw [centTo_zero]; exact ⟨by simp, by simp, by simp, by simp, by simp⟩, (Below.refl _ _).alloc (Nat.le_refl _) _⟩
    case round =>
      obtain ⟨k, hk, rfl, rfl, hcell, hbel⟩ := hrel
      by_cases hlt : k < 7
      · have hltI : (k : Int) < 7 := by omega
        obtain ⟨wo, rfl⟩ : ∃ wo : World, wo = wr := ⟨_, rfl⟩
        go_wp2
        go_loopw [7, 9] (fun d j wr => ∃ l : Nat, l ≤ 7 ∧ j = .int .i64 l ∧ d = .int .i64 (centTo ps k l).2 ∧ Cell2 wr w1.heap.size (.int .i64 (centTo ps k l).1.1) (.int .i64 (centTo ps k l).1.2) ∧ Below w1.heap.size w1 wr) (fun _ j _ => 7 - (intOf j).toNat)
        case atStart => exact ⟨0, Nat.zero_le _, rfl, rfl, hcell, hbel⟩
        case round =>
          obtain ⟨l, hl', rfl, rfl, hcell', hbel'⟩ := hrel
          clear hcell
          by_cases hlt' : l < 7
          · have hltI' : (l : Int) < 7 := by omega
            have hst := centTo_step ps k l
            have c2 := rdepth_any q cap ps ((k : Int), (l : Int)) wr (HR1.out.below (Nat.le_refl _) hbel') HIN.out ⟨⟨by omega, by omega⟩, by omega, by omega⟩ o2
            unfold cStep at hst
            generalize depthOf ps ((k : Int), (l : Int)) = dd at c2 hst
            have HS := Lib.hid hst
            have C2 := Lib.hid c2
            have HC := Lib.hid hcell'
            have hw1 := hbel'.size
            have hcs := hcell'.1
            clear c2 hst hcell'
            generalize hct : centTo ps k l = ct at HS HC ⊢
            go_wp2_with (go_at_call 132; have hcc := C2.out; (with_reducible refine hcc.mono ?_); clear hcc; rintro e w2 ⟨rfl, ha2⟩; have HC2 := Lib.hid (HC.out.below hcs ha2); obtain ⟨y0, y1, y2, y3, y4⟩ := HC2.out)
            · have hy : ct.2 < (dd : Int) := by assumption
              have e1 := HS.out.trans (if_pos hy)
              have hbn := ((hbel'.trans (ha2.mono hw1)).setCell (p := ⟨w1.heap.size, 0, none⟩) (Nat.le_refl _) (.int .i64 k)).setCell (p := ⟨w1.heap.size, 1, none⟩) (Nat.le_refl _) (.int .i64 l)
              go_roundw
              case rel => exact ⟨l + 1, by omega, by go_num, by rw [e1], by rw [e1]; exact HC2.out.set _ _, hbn⟩
              case measure => simp [intOf]; omega
            · have hy : (dd : Int) ≤ ct.2 := by first | assumption | omega
              have e1 := HS.out.trans (if_neg (by omega))
              go_roundw
              case rel => exact ⟨l + 1, by omega, by go_num, by rw [e1], by rw [e1]; exact HC2.out, hbel'.trans (ha2.mono hw1)⟩
              case measure => simp [intOf]; omega
          · obtain rfl : l = 7 := by omega
            go_wp2
            go_roundw
            case rel => exact ⟨k + 1, by omega, by go_num, by rw [← centTo_col], by rw [← centTo_col]; exact hcell', hbel'⟩
            case measure => simp [intOf]; omega
      · obtain rfl : k = 7 := by omega
        have hz1' : w.heap.size < wr.heap.size := Nat.lt_of_lt_of_le hz1 hbel.size
        have HC := Lib.hid hcell
        obtain ⟨x0, x1, x2, x3, x4⟩ := HX1.out.below hz1 hbel
        obtain ⟨y0, y1, y2, y3, y4⟩ := hcell
        go_wp2
        obtain ⟨k0, k1, k2, _, _⟩ := (show Cell2 wr w.heap.size (.int .i64 0) (.int .i64 0) from ⟨x0, x1, x2, x3, x4⟩).set (.int .i64 (centTo ps 7 0).1.1) (.int .i64 (centTo ps 7 0).1.2)
        have hbn := ((HB1.out.trans (hbel.mono (by omega))).setCell (p := ⟨w.heap.size, 0, none⟩) (Nat.le_refl _) (.int .i64 (centTo ps 7 0).1.1)).setCell (p := ⟨w.heap.size, 1, none⟩) (Nat.le_refl _) (.int .i64 (centTo ps 7 0).1.2)
        generalize hW : ((wr.setCell ⟨w.heap.size, 0, none⟩ (.int .i64 (centTo ps 7 0).1.1)).setCell ⟨w.heap.size, 1, none⟩ (.int .i64 (centTo ps 7 0).1.2)) = W at *
        refine bodyPost_ret (by simp [results, Try.results62, go_sem, k1, k2]; try rfl) rfl ?_
        exact ⟨by rw [HRES.out] <;> try rfl, hbn⟩
  · have hb : (errP ps != 0) = true := by simp [h0]
    have hres : centreOf ps = ((0, 0), 0, errP ps) := by rw [centreOf, if_pos h0]
    have HRES := Lib.hid hres
    clear hres h0
    go_enter Try.func62, Try.ntmps62
    go_wp2_with (go_at_call 56; refine C1.out.mono ?_; rintro e w1 ⟨rfl, hb1⟩; obtain ⟨y0, y1, y2, y3, y4⟩ := HZ.out.below (by simp) hb1)
    obtain ⟨k0, k1, k2, _, _⟩ := (show Cell2 w1 w.heap.size (.int .i64 0) (.int .i64 0) from ⟨y0, y1, y2, y3, y4⟩).set (.int .i64 0) (.int .i64 0)
    have hbn := ((al0 HB0.out hb1 (by simp <;> omega)).setCell (p := ⟨w.heap.size, 0, none⟩) (Nat.le_refl _) (.int .i64 0)).setCell (p := ⟨w.heap.size, 1, none⟩) (Nat.le_refl _) (.int .i64 0)
    generalize hW : ((w1.setCell ⟨w.heap.size, 0, none⟩ (.int .i64 0)).setCell ⟨w.heap.size, 1, none⟩ (.int .i64 0)) = W at *
    refine bodyPost_ret (by simp [results, Try.results62, go_sem, k1, k2]; try rfl) rfl ?_
    exact ⟨by rw [HRES.out] <;> try rfl, hbn⟩
end Go.Proofs.Ytcalipoknbbaaaa
namespace Go.Proofs.Ytcalipoknbbaaaa
open Go.RowKit
set_option linter.unusedSimpArgs false
set_option linter.unusedVariables false

/-- the places of a list of indices -/
def pickR (l : List Pl) (x : List Int) : List Pl := x.map fun i => l.getD i.toNat (0, 0)
theorem pickR_succ (l : List Pl) (x : List Int) (k : Nat) (h : k < x.length) : pickR l (x.take (k + 1)) = pickR l (x.take k) ++ [l.getD (x.getD k 0).toNat (0, 0)] := by
  rw [pickR, pickR, List.take_succ_eq_append_getElem h, List.map_append, getD_eq x k 0 h]; rfl
theorem pickR_len (l : List Pl) (x : List Int) : (pickR l x).length = x.length := by simp [pickR]

/-- places that a call has chosen -/
def OneC (w : World) (xs : List Pl) (e : Ending) (w' : World) : Prop := ∃ q c, e = .returned (.slice q xs.length c) ∧ RowP w' q xs ∧ xs.length ≤ c ∧ Below w.heap.size w w'
theorem owns_capC {w : World} {base : Nat} {e : TypeId} {v : Value} {ps : List Pl} (h : w.ownsRow base e 2 v ps.length (flatP ps)) : ∃ q cap, v = .slice q ps.length cap ∧ RowP w q ps ∧ ps.length ≤ cap := by
  obtain ⟨q, c, rfl, hr⟩ := rowP_of_owns h
  refine ⟨q, c, rfl, hr, ?_⟩
  obtain ⟨_, ⟨e1, e2⟩ | ⟨g, cap, cur, e1, _, _, h3, _⟩⟩ := h
  · omega
  · injection e1 with _ _ e2
    omega

set_option maxRecDepth 100000 in
set_option maxHeartbeats 2000000 in
theorem rchosen_any (q q2 : Option Addr) (c c2 : Nat) (l : List Pl) (x : List Int) (w : World) (hr : RowP w q l) (hx : RowI w q2 x) (hlx : x.length ≤ 12) (hin : ∀ i ∈ x, 0 ≤ i ∧ i < l.length) (hll : l.length ≤ 12) :
    Calls Try.prog 130 #[.slice q l.length c, .slice q2 x.length c2] w (OneC w (pickR l x)) := by
  have HR := Lib.hid hr
  have HX := Lib.hid hx
  have HIN := Lib.hid hin
  clear hr hx hin
  go_enter Try.func130, Try.ntmps130
  go_wp2
  go_loopw [5, 6] (fun v i wr => ∃ k : Nat, k ≤ x.length ∧ i = .int .i64 k ∧ wr.ownsRow w.heap.size 38 2 v (pickR l (x.take k)).length (flatP (pickR l (x.take k))) ∧ Below w.heap.size w wr) (fun _ i _ => x.length - (intOf i).toNat)
  case atStart => exact ⟨0, Nat.zero_le _, rfl, World.ownsRow_nil _ _ _ _, Below.refl _ _⟩
  case round =>
    obtain ⟨k, hk, rfl, hown, hbel⟩ := hrel
    have hlp := pickR_len l (x.take k)
    rw [List.length_take, Nat.min_eq_left hk] at hlp
    by_cases hlt : k < x.length
    · obtain ⟨bx, ox, rfl, hbx, g1⟩ := HX.out.at hlt (Nat.le_refl _) hbel
      have hst := pickR_succ l x k hlt
      obtain ⟨i0, i1⟩ := HIN.out _ (getD_mem x k 0 hlt)
      obtain ⟨n, hn⟩ : ∃ n : Nat, x.getD k 0 = n := ⟨(x.getD k 0).toNat, by omega⟩
      rw [hn] at g1 hst i0 i1
      rw [Int.toNat_natCast] at hst
      have hnl : n < l.length := by omega
      obtain ⟨bl, ol, rfl, hbl, h1, h2⟩ := HR.out.at hnl (Nat.le_refl _) hbel
      generalize l.getD n (0, 0) = g at h1 h2 hst
      generalize pickR l (x.take k) = out at *
      have HST := Lib.hid hst
      have HO := Lib.hid hown
      have hsz := hbel.size
      clear hst hown hn
      go_wp2_with (at_builtin; refine app_placeR _ rfl (.tmp 13) (.tmp 21) rfl w.heap.size _ _ g rfl ((HO.out.alloc _)) (wr.heap.size) 1 rfl (by simp) (by simp) (by omega) (by simp; omega) ?_; intro v' w1 hown' hgrow hblk)
      have hb3 := grown_below ((HO.out.alloc (.cells #[.int .i64 g.1, .int .i64 g.2] 38))) (by simp; omega) hgrow
      have hbn := (hbel.alloc (by omega) (.cells #[.int .i64 g.1, .int .i64 g.2] 38)).trans hb3
      go_roundw
      case rel => exact ⟨k + 1, hlt, by go_num, by rw [HST.out]; exact hown', hbn⟩
      case measure => simp [intOf]; omega
    · obtain rfl : k = x.length := by omega
      rw [List.take_length] at hown
      obtain ⟨q1, c1, rfl, r1, n1⟩ := owns_capC hown
      have R1 := Lib.hid r1
      have N1 := Lib.hid n1
      clear hown r1 n1 hlp
      go_wp2
      go_ret
      exact ⟨q1, c1, rfl, R1.out, N1.out, hbel⟩

/-- do two parts of four points have a common point of their hulls? -/
def meetB (a b : List Pl) : Bool :=
  if a.length = 1 then covL b (a.getD 0 (0, 0)) else if b.length = 1 then covL a (b.getD 0 (0, 0)) else crossP (a.getD 0 (0, 0)) (a.getD 1 (0, 0)) (b.getD 0 (0, 0)) (b.getD 1 (0, 0))

theorem inG_ok {p : Pl} (h : NV.inG p) : okP p := ⟨⟨by have := h.1; omega, by have := h.1; omega⟩, ⟨by have := h.2; omega, by have := h.2; omega⟩⟩

/-- covers, for one to three points -/
theorem rcovers_any (q : Option Addr) (c : Nat) (l : List Pl) (p : Pl) (w : World) (hr : RowP w q l) (hc : l.length ≤ c) (hl : ∀ r ∈ l, NV.inG r) (hp : NV.inG p) (h0 : l ≠ []) (h3 : l.length ≤ 3) :
    Calls Try.prog 149 #[.slice q l.length c, .agg #[.int .i64 p.1, .int .i64 p.2]] w fun e w' => e = .returned (.bool (covL l p)) ∧ Below w.heap.size w w' := by
  match l, h0, h3 with
  | [a], _, _ => exact rcov1_any q c a p w hr
  | [a, b], _, _ => exact rcov2_any q c a b p w hr (inG_ok (hl a (by simp))) (inG_ok (hl b (by simp))) (inG_ok hp)
  | [a, b, d], _, _ => exact rcov3_any q c a b d p w hr hc (inG_ok (hl a (by simp))) (inG_ok (hl b (by simp))) (inG_ok (hl d (by simp))) (inG_ok hp)
  | a :: b :: d :: e :: r, _, h => simp at h

set_option maxRecDepth 100000 in
set_option maxHeartbeats 2000000 in
theorem rmeet_any (q1 q2 : Option Addr) (c1 c2 : Nat) (a b : List Pl) (w : World) (hr1 : RowP w q1 a) (hr2 : RowP w q2 b) (hc1 : a.length ≤ c1) (hc2 : b.length ≤ c2) (ha : ∀ r ∈ a, NV.inG r) (hb : ∀ r ∈ b, NV.inG r)
    (hs : (a.length = 1 ∧ b.length = 3) ∨ (a.length = 2 ∧ b.length = 2) ∨ (a.length = 3 ∧ b.length = 1)) :
    Calls Try.prog 129 #[.slice q1 a.length c1, .slice q2 b.length c2] w fun e w' => e = .returned (.bool (meetB a b)) ∧ Below w.heap.size w w' := by
  have H1 := Lib.hid hr1
  have H2 := Lib.hid hr2
  clear hr1 hr2
  rcases hs with ⟨h1, h2⟩ | ⟨h1, h2⟩ | ⟨h1, h2⟩
  · obtain ⟨bb, off, rfl, hbz, g1, g2⟩ := H1.out.at (k := 0) (by omega) (Nat.le_refl _) (Below.refl _ w)
    have hp := ha _ (getD_mem a 0 (0, 0) (by omega))
    have hres : meetB a b = covL b (a.getD 0 (0, 0)) := by rw [meetB, if_pos h1]
    rw [hres]
    generalize a.getD 0 (0, 0) = p at *
    have g1' : w.cell? ⟨bb, off, none⟩ = some (.int .i64 p.1) := by simpa using g1
    have g2' : w.cell? ⟨bb, off + 1, none⟩ = some (.int .i64 p.2) := by simpa using g2
    have cc := fun V (h : RowP V q2 b) => rcovers_any q2 c2 b p V h hc2 hb hp (by intro h; rw [h] at h2; simp at h2) (by omega)
    rw [h2] at cc
    have CC := Lib.hid cc
    rw [h1, h2]
    clear hres g1 g2 cc
    go_enter Try.func129, Try.ntmps129
    go_wp2_with (go_at_call 149; have hcc := CC.out w H2.out; (with_reducible refine hcc.mono ?_); clear hcc; rintro e V ⟨rfl, hb⟩)
    go_ret
    exact ⟨rfl, hb⟩
  · obtain ⟨p0, p1, rfl⟩ : ∃ p0 p1, a = [p0, p1] := by
      match a, h1 with
      | [p0, p1], _ => exact ⟨p0, p1, rfl⟩
    obtain ⟨p2, p3, rfl⟩ : ∃ p0 p1, b = [p0, p1] := by
      match b, h2 with
      | [p0, p1], _ => exact ⟨p0, p1, rfl⟩
    have hres : meetB [p0, p1] [p2, p3] = crossP p0 p1 p2 p3 := by simp [meetB]
    rw [hres]
    obtain ⟨b1, o1, rfl, hz1, ⟨g1, g2⟩, g3, g4⟩ := H1.out.c2
    obtain ⟨b2, o2, rfl, hz2, ⟨g5, g6⟩, g7, g8⟩ := H2.out.c2
    have cc := fun V => rcross_any p0 p1 p2 p3 V (inG_ok (ha p0 (by simp))) (inG_ok (ha p1 (by simp))) (inG_ok (hb p2 (by simp))) (inG_ok (hb p3 (by simp)))
    have CC := Lib.hid cc
    clear hres cc h1 h2
    have n1 : w.drew.cell? ⟨b1, o1, none⟩ = some (.int .i64 p0.1) := g1
    have n2 : w.drew.cell? ⟨b1, o1 + 1, none⟩ = some (.int .i64 p0.2) := g2
    have n3 : w.drew.cell? ⟨b1, o1 + 2, none⟩ = some (.int .i64 p1.1) := g3
    have n4 : w.drew.cell? ⟨b1, o1 + 3, none⟩ = some (.int .i64 p1.2) := g4
    have n5 : w.drew.cell? ⟨b2, o2, none⟩ = some (.int .i64 p2.1) := g5
    have n6 : w.drew.cell? ⟨b2, o2 + 1, none⟩ = some (.int .i64 p2.2) := g6
    have n7 : w.drew.cell? ⟨b2, o2 + 2, none⟩ = some (.int .i64 p3.1) := g7
    have n8 : w.drew.cell? ⟨b2, o2 + 3, none⟩ = some (.int .i64 p3.2) := g8
    go_enter Try.func129, Try.ntmps129
    go_upto_region 5 with fail
    go_region_held3 (fun W => W.cell? ⟨b1, o1, none⟩ = some (.int .i64 p0.1) ∧ W.cell? ⟨b1, o1 + 1, none⟩ = some (.int .i64 p0.2) ∧ W.cell? ⟨b1, o1 + 2, none⟩ = some (.int .i64 p1.1) ∧ W.cell? ⟨b1, o1 + 3, none⟩ = some (.int .i64 p1.2) ∧ W.cell? ⟨b2, o2, none⟩ = some (.int .i64 p2.1) ∧ W.cell? ⟨b2, o2 + 1, none⟩ = some (.int .i64 p2.2) ∧ W.cell? ⟨b2, o2 + 2, none⟩ = some (.int .i64 p3.1) ∧ W.cell? ⟨b2, o2 + 3, none⟩ = some (.int .i64 p3.2)) (first | exact ⟨g1, g2, g3, g4, g5, g6, g7, g8⟩ | exact ⟨n1, n2, n3, n4, n5, n6, n7, n8⟩ | exact ⟨e1, e2, e3, e4, e5, e6, e7, e8⟩ | go_keep)
      (first
      | (go_at_call 150; have hcc := CC.out w.drew; (with_reducible refine hcc.mono ?_); clear hcc; rintro e V ⟨rfl, hb⟩; have e1 := (hb.cell (p := ⟨b1, o1, none⟩) hz1).trans n1; have e2 := (hb.cell (p := ⟨b1, o1 + 1, none⟩) hz1).trans n2; have e3 := (hb.cell (p := ⟨b1, o1 + 2, none⟩) hz1).trans n3; have e4 := (hb.cell (p := ⟨b1, o1 + 3, none⟩) hz1).trans n4; have e5 := (hb.cell (p := ⟨b2, o2, none⟩) hz2).trans n5; have e6 := (hb.cell (p := ⟨b2, o2 + 1, none⟩) hz2).trans n6; have e7 := (hb.cell (p := ⟨b2, o2 + 2, none⟩) hz2).trans n7; have e8 := (hb.cell (p := ⟨b2, o2 + 3, none⟩) hz2).trans n8)
      | fail)
    all_goals
      go_wp2
      go_ret
      exact ⟨rfl, (Below.refl _ w).drew.trans hb⟩
  · obtain ⟨bb, off, rfl, hbz, g1, g2⟩ := H2.out.at (k := 0) (by omega) (Nat.le_refl _) (Below.refl _ w)
    have hp := hb _ (getD_mem b 0 (0, 0) (by omega))
    have hres : meetB a b = covL a (b.getD 0 (0, 0)) := by rw [meetB, if_neg (by omega), if_pos h2]
    rw [hres]
    generalize b.getD 0 (0, 0) = p at *
    have g1' : w.cell? ⟨bb, off, none⟩ = some (.int .i64 p.1) := by simpa using g1
    have g2' : w.cell? ⟨bb, off + 1, none⟩ = some (.int .i64 p.2) := by simpa using g2
    have cc := fun V (h : RowP V q1 a) => rcovers_any q1 c1 a p V h hc1 ha hp (by intro h; rw [h] at h1; simp at h1) (by omega)
    rw [h1] at cc
    have CC := Lib.hid cc
    rw [h1, h2]
    clear hres g1 g2 cc
    go_enter Try.func129, Try.ntmps129
    go_wp2_with (go_at_call 149; have hcc := CC.out w H1.out; (with_reducible refine hcc.mono ?_); clear hcc; rintro e V ⟨rfl, hb⟩)
    go_ret
    exact ⟨rfl, hb⟩
end Go.Proofs.Ytcalipoknbbaaaa
namespace Go.Proofs.Ytcalipoknbbaaaa
open Go.RowKit
set_option linter.unusedSimpArgs false
set_option linter.unusedVariables false

def restTo (d : List Int) (k : Nat) : List Int := ((List.range k).filter fun k : Nat => !hasI d k).map fun k : Nat => (k : Int)
theorem restTo_succ (d : List Int) (k : Nat) : restTo d (k + 1) = restTo d k ++ (if hasI d k = true then [] else [(k : Int)]) := by
  unfold restTo
  rw [List.range_succ, List.filter_append, List.map_append]
  congr 1
  simp only [List.filter_cons, List.filter_nil]
  cases hasI d (k : Int) <;> simp
theorem restTo_le (d : List Int) (k : Nat) : (restTo d k).length ≤ k := by
  unfold restTo
  rw [List.length_map]
  exact Nat.le_trans (List.length_filter_le _ _) (by simp)

theorem sepB_sym {a b : List Pl} (ha0 : a ≠ []) (hb0 : b ≠ []) (ha : ∀ p ∈ a, NV.inG p) (hb : ∀ p ∈ b, NV.inG p) : sepB a b = sepB b a := by
  rw [Bool.eq_iff_iff, sepB_any ha0 hb0 ha hb, sepB_any hb0 ha0 hb ha]
  exact ⟨fun ⟨n, h⟩ => ⟨_, NV.sep_swap h⟩, fun ⟨n, h⟩ => ⟨_, NV.sep_swap h⟩⟩
theorem cross_sep {a b c d : Pl} (hab : NV.ltP a b) (hcd : NV.ltP c d) (ha : NV.inG a) (hb : NV.inG b) (hc : NV.inG c) (hd : NV.inG d) (hac : a ≠ c) (had : a ≠ d) (hbc : b ≠ c) (hbd : b ≠ d) : crossP a b c d = !sepB [a, b] [c, d] := by
  have hs := sepB_any (a := [a, b]) (b := [c, d]) (by simp) (by simp) (by simp [ha, hb]) (by simp [hc, hd])
  rw [Bool.eq_iff_iff, cross_iff hab hcd ha hb hc hd hac had hbc hbd, Bool.not_eq_true', ← Bool.not_eq_true, hs]
  exact ⟨fun h ⟨n, k⟩ => h n k, fun h n k => h ⟨n, k⟩⟩
theorem lex_ne {p q : Pl} (h : NV.ltP p q) : p ≠ q := fun e => by subst e; exact lex_irr h

theorem meet_div {p0 p1 p2 p3 : Pl} (h01 : NV.ltP p0 p1) (h12 : NV.ltP p1 p2) (h23 : NV.ltP p2 p3) (i0 : NV.inG p0) (i1 : NV.inG p1) (i2 : NV.inG p2) (i3 : NV.inG p3) :
    ∀ d ∈ divs, meetB (pickR [p0, p1, p2, p3] d) (pickR [p0, p1, p2, p3] (restTo d 4)) = divides [p0, p1, p2, p3] d := by
  have h02 := lex_trans h01 h12
  have h13 := lex_trans h12 h23
  have h03 := lex_trans h02 h23
  intro d hd
  simp only [divs, List.mem_cons, List.not_mem_nil, or_false] at hd
  rcases hd with rfl | rfl | rfl | rfl | rfl | rfl | rfl
  · show covL [p1, p2, p3] p0 = !sepB [p0] [p1, p2, p3]
    rw [covL_sep (by simp [h12, h13, h23]) (by simp [i1, i2, i3]) i0 (by simp) (by simp), sepB_sym (by simp) (by simp) (by simp [i1, i2, i3]) (by simp [i0])]
  · show crossP p0 p1 p2 p3 = !sepB [p0, p1] [p2, p3]
    exact cross_sep h01 h23 i0 i1 i2 i3 (lex_ne h02) (lex_ne h03) (lex_ne h12) (lex_ne h13)
  · show covL [p0, p1, p2] p3 = !sepB [p0, p1, p2] [p3]
    exact covL_sep (by simp [h01, h02, h12]) (by simp [i0, i1, i2]) i3 (by simp) (by simp)
  · show covL [p0, p1, p3] p2 = !sepB [p0, p1, p3] [p2]
    exact covL_sep (by simp [h01, h03, h13]) (by simp [i0, i1, i3]) i2 (by simp) (by simp)
  · show crossP p0 p2 p1 p3 = !sepB [p0, p2] [p1, p3]
    exact cross_sep h02 h13 i0 i2 i1 i3 (lex_ne h01) (lex_ne h03) (lex_ne h12).symm (lex_ne h23)
  · show covL [p0, p2, p3] p1 = !sepB [p0, p2, p3] [p1]
    exact covL_sep (by simp [h02, h03, h23]) (by simp [i0, i2, i3]) i1 (by simp) (by simp)
  · show crossP p0 p3 p1 p2 = !sepB [p0, p3] [p1, p2]
    exact cross_sep h03 h12 i0 i3 i1 i2 (lex_ne h01) (lex_ne h02) (lex_ne h13).symm (lex_ne h23).symm

theorem errPs_lt : ∀ (ps : List Pl) (o : Option Pl), errPs o ps = 0 → ps.Pairwise NV.ltP ∧ ∀ b, o = some b → ∀ p ∈ ps, NV.ltP b p
  | [], o, _ => by simp
  | p :: r, o, h => by
    rw [errPs_cons] at h
    by_cases h1 : onG 7 p = false
    · rw [if_pos h1] at h; omega
    · rw [if_neg h1] at h
      cases o with
      | none =>
        rw [if_neg (by simp)] at h
        obtain ⟨k1, k2⟩ := errPs_lt r (some p) h
        exact ⟨List.pairwise_cons.2 ⟨fun x hx => k2 p rfl x hx, k1⟩, fun b hb => by cases hb⟩
      | some b =>
        by_cases h2 : beforeP b p = true
        · rw [if_neg (by simp [h2])] at h
          obtain ⟨k1, k2⟩ := errPs_lt r (some p) h
          have hbp := (before_lt b p).1 h2
          refine ⟨List.pairwise_cons.2 ⟨fun x hx => k2 p rfl x hx, k1⟩, fun b' hb x hx => ?_⟩
          injection hb with hb
          subst hb
          rcases List.mem_cons.1 hx with rfl | hx
          · exact hbp
          · exact lex_trans hbp (k2 p rfl x hx)
        · rw [if_pos (by simp [h2])] at h; omega
theorem errP_lt {ps : List Pl} (h : errP ps = 0) : ps.Pairwise NV.ltP := by
  unfold errP at h
  split at h
  · omega
  · split at h
    · omega
    · exact (errPs_lt ps none h).1

theorem divs_ok : ∀ d ∈ divs, (∀ i ∈ d, 0 ≤ i ∧ i < 4) ∧ (∀ i ∈ restTo d 4, 0 ≤ i ∧ i < 4) ∧ d.length ≤ 4 ∧ ((d.length = 1 ∧ (restTo d 4).length = 3) ∨ (d.length = 2 ∧ (restTo d 4).length = 2) ∨ (d.length = 3 ∧ (restTo d 4).length = 1)) := by decide

theorem pickR_in {l : List Pl} {x : List Int} (hl : ∀ r ∈ l, NV.inG r) (hx : ∀ i ∈ x, 0 ≤ i ∧ i < l.length) : ∀ r ∈ pickR l x, NV.inG r := by
  intro r hr
  obtain ⟨i, hi, rfl⟩ := List.mem_map.1 hr
  have := hx i hi
  exact hl _ (getD_mem l i.toNat (0, 0) (by omega))

set_option maxRecDepth 100000 in
set_option maxHeartbeats 4000000 in
theorem rDivide_any (q : Option Addr) (cap : Nat) (ps : List Pl) (w : World) (hr : RowP w q ps) :
    Calls Try.prog 58 #[.slice q ps.length cap] w (ListErr w (divideOf ps)) := by
  have c1 := rPoints_any q cap ps w hr
  have C1 := Lib.hid c1
  have HR := Lib.hid hr
  clear c1 hr
  obtain ⟨E, hE⟩ : ∃ E, errP ps = E := ⟨_, rfl⟩
  have HE := Lib.hid hE
  by_cases h0 : E = 0
  · subst h0
    by_cases h4 : ps.length = 4
    · have hres : divideOf ps = ((divs.find? (divides ps)).getD [], 0) := by rw [divideOf, if_neg (by simp [hE]), if_neg (by simp [h4])]
      rw [hres]
      obtain ⟨_, _, o3, _⟩ := errP_ok hE
      have hin : ∀ r ∈ ps, NV.inG r := fun r hr => onG_inG (o3 r hr)
      have hup := errP_lt hE
      obtain ⟨good, hgood⟩ : ∃ good : List Int → Bool, divides ps = good := ⟨_, rfl⟩
      have hgd : ∀ d ∈ divs, meetB (pickR ps d) (pickR ps (restTo d 4)) = good d := by
        match ps, h4 with
        | [p0, p1, p2, p3], _ =>
          simp only [List.pairwise_cons, List.mem_cons, List.not_mem_nil, or_false, forall_eq_or_imp, forall_eq] at hup
          intro d hd
          rw [← hgood]
          exact meet_div hup.1.1 hup.2.1.1 hup.2.2.1 (hin p0 (by simp)) (hin p1 (by simp)) (hin p2 (by simp)) (hin p3 (by simp)) d hd
      rw [hgood]
      have HGD := Lib.hid hgd
      have HIN := Lib.hid hin
      have hb4 : ((ps.length : Int) != 4) = false := by simp [h4]
      have H4 := Lib.hid h4
      clear hres hE h4 o3 hin hup hgood hgd
      go_enter Try.func58, Try.ntmps58
      go_wp2_with (go_at_call 56; have hcc := C1.out; rw [HE.out] at hcc; (with_reducible refine hcc.mono ?_); clear hcc; rintro e w1 ⟨rfl, hb1⟩)
      have HD := Lib.hid (divW_at w1)
      have HDB := Lib.hid (divW_below w1)
      have HB1 := Lib.hid hb1
      have HR1 := Lib.hid (HR.out.below (Nat.le_refl _) hb1)
      clear hb1 hb4
      go_loopw [6] (fun i wr => ∃ k : Nat, k ≤ 7 ∧ i = .int .i64 k ∧ divs.find? good = (divs.drop k).find? good ∧ Below (divW w1).heap.size (divW w1) wr) (fun i _ => 7 - (intOf i).toNat)
      case atStart => exact ⟨0, Nat.zero_le _, rfl, rfl, Below.refl _ _⟩
      case round =>
        obtain ⟨k, hk, rfl, hfind, hbel⟩ := hrel
        by_cases hlt : k < 7
        · obtain ⟨t1, t2⟩ := (HD.out.below (Nat.le_refl _) hbel).2 k hlt
          have hdl : k < divs.length := by simpa [divs] using hlt
          rw [List.drop_eq_getElem_cons hdl, ← getD_eq divs k [] hdl, List.find?_cons] at hfind
          obtain ⟨v1, v2, v3, v4⟩ := divs_ok _ (getD_mem divs k [] hdl)
          have hg := HGD.out _ (getD_mem divs k [] hdl)
          obtain ⟨d, hde⟩ : ∃ d, divs.getD k [] = d := ⟨_, rfl⟩
          rw [hde] at t1 t2 hfind v1 v2 v3 v4 hg
          have t1' : wr.cell? ⟨w1.heap.size + 1 + 1 + 1 + 1 + 1 + 1 + 1, k, none⟩ = some (.slice (some ⟨w1.heap.size + k, 0, none⟩) d.length d.length) := t1
          have T1 := Lib.hid t1'
          have T2 := Lib.hid t2
          have HF := Lib.hid hfind
          have HG := Lib.hid hg
          have V1 := Lib.hid v1
          have V2 := Lib.hid v2
          have V4 := Lib.hid v4
          have hlt7 : w1.heap.size + 7 < wr.heap.size := (HD.out.below (Nat.le_refl _) hbel).1
          have HBEL := Lib.hid hbel
          have HLT := Lib.hid hlt
          have hb8 := HDB.out.trans (hbel.mono (by rw [divW_size]; omega))
          have HB8 := Lib.hid hb8
          clear hdl hde t1 t2 t1' hfind hg v1 v2 v4 hb8 hbel
          have hkI : (k : Int) < 7 := by omega
          have hk0 : (0 : Int) ≤ (k : Int) := by omega
          obtain ⟨wo, rfl⟩ : ∃ wo : World, wo = wr := ⟨_, rfl⟩
          go_wp2
          go_loopw [7, 8] (fun v i wr => ∃ j : Nat, j ≤ 4 ∧ i = .int .i64 j ∧ wr.ownsRow wo.heap.size 3 1 v (restTo d j).length (flatI (restTo d j)) ∧ Below wo.heap.size wo wr) (fun _ i _ => 4 - (intOf i).toNat)
          case atStart => exact ⟨0, Nat.zero_le _, rfl, World.ownsRow_nil _ _ _ _, Below.refl _ _⟩
          case round =>
            obtain ⟨j, hj, rfl, hown, hbj⟩ := hrel
            have HO := Lib.hid hown
            have HBJ := Lib.hid hbj
            have t1 := (hbj.cell (p := ⟨w1.heap.size + 1 + 1 + 1 + 1 + 1 + 1 + 1, k, none⟩) (by show _ < _; omega)).trans T1.out
            clear hown
            by_cases hj4 : j < 4
            · have hst := restTo_succ d j
              have hle := restTo_le d j
              have hh := has_any (j : Int) (some ⟨w1.heap.size + k, 0, none⟩) d.length d wr (T2.out.below (Nat.le_refl _) hbj) (by omega)
              obtain ⟨Y, hY⟩ : ∃ Y, hasI d (j : Int) = Y := ⟨_, rfl⟩
              rw [hY] at hst hh
              generalize restTo d j = out at *
              have HST := Lib.hid hst
              have HH := Lib.hid hh
              have hsz := hbj.size
              clear hst hh hY hbj
              go_wp2_with (first
                | (go_at_call 128; have hcc := HH.out; (with_reducible refine hcc.mono ?_); clear hcc; rintro e W ⟨rfl, rfl⟩)
                | (at_builtin; refine app_int _ rfl (.tmp 46) (.tmp 48) rfl wo.heap.size _ out (j : Int) rfl (HO.out.alloc _) wr.heap.size 1 rfl (by simp) (by omega) (by simp; omega) ?_; intro v' w4 hown4 hgrow hblk))
              · have hy : Y = false := by first | assumption | (simpa using ‹(!Y) = true›)
                have hb4 := grown_below (HO.out.alloc _) (by simp; omega) hgrow
                have hbn := (HBJ.out.alloc (by omega) (.cells #[.int .i64 j] 3)).trans hb4
                go_roundw
                case rel => exact ⟨j + 1, hj4, by go_num, by rw [HST.out, if_neg (by simp [hy])]; exact hown4, hbn⟩
                case measure => simp [intOf]; omega
              · have hy : Y = true := by first | assumption | (simpa using ‹(!Y) = false›)
                go_roundw
                case rel => exact ⟨j + 1, hj4, by go_num, by rw [HST.out, if_pos hy, List.append_nil]; exact HO.out, HBJ.out⟩
                case measure => simp [intOf]; omega
            · obtain rfl : j = 4 := by omega
              obtain ⟨q3, c3, rfl, r3⟩ := rowI_of_owns HO.out
              have R3 := Lib.hid r3
              have C4 := Lib.hid (fun (W : World) (h : Below w1.heap.size w1 W) (h2 : Below wo.heap.size wo W) => rchosen_any q (some ⟨w1.heap.size + k, 0, none⟩) cap d.length ps d W (HR1.out.below (Nat.le_refl _) h) (T2.out.below (Nat.le_refl _) h2) (by omega) (by rw [H4.out]; exact V1.out) (by rw [H4.out]; omega))
              have C5 := Lib.hid (fun (W : World) (h : Below w1.heap.size w1 W) (h2 : RowI W q3 (restTo d 4)) => rchosen_any q q3 cap c3 ps (restTo d 4) W (HR1.out.below (Nat.le_refl _) h) h2 (by have := restTo_le d 4; omega) (by rw [H4.out]; exact V2.out) (by rw [H4.out]; omega))
              have hb9 := HB8.out.trans (hbj.mono HB8.out.size)
              have HB9 := Lib.hid hb9
              obtain ⟨G, hG⟩ : ∃ G, good d = G := ⟨_, rfl⟩
              have HGG := Lib.hid hG
              unfold OneC at C4 C5
              have C6 := Lib.hid (fun (q5 q6 : Option Addr) (c5 c6 : Nat) (W : World) (h1 : RowP W q5 (pickR ps d)) (h2 : RowP W q6 (pickR ps (restTo d 4))) (h3 : (pickR ps d).length ≤ c5) (h4 : (pickR ps (restTo d 4)).length ≤ c6) =>
                rmeet_any q5 q6 c5 c6 (pickR ps d) (pickR ps (restTo d 4)) W h1 h2 h3 h4 (pickR_in HIN.out (by rw [H4.out]; exact V1.out)) (pickR_in HIN.out (by rw [H4.out]; exact V2.out)) (by rw [pickR_len, pickR_len]; exact V4.out))
              rw [HG.out, hG] at C6
              have hsz := hbj.size
              have hq : w1.heap.size + 1 + 1 + 1 + 1 + 1 + 1 + 1 < wr.heap.size := by omega
              have T1R := Lib.hid t1
              have HQ := Lib.hid hq
              clear r3 hb9 hG hbj hq
              go_wp2_with (first
                | (go_at_call 130; have hcc := C4.out _ HB9.out HBJ.out; (with_reducible refine hcc.mono ?_); clear hcc; rintro e w5 ⟨q5, c5, rfl, r5, n5, b5⟩; have R5 := Lib.hid r5; have N5 := Lib.hid n5; have B5 := Lib.hid b5; clear r5 n5 b5)
                | (go_at_call 130; have hcc := C5.out w5 (HB9.out.trans (B5.out.mono HB9.out.size)) (R3.out.below (Nat.le_refl _) B5.out); (with_reducible refine hcc.mono ?_); clear hcc; rintro e w6 ⟨q6, c6, rfl, r6, n6, b6⟩; have R6 := Lib.hid r6; have N6 := Lib.hid n6; have B6 := Lib.hid b6; clear r6 n6 b6)
                | (go_at_call 129; have hcc := C6.out q5 q6 c5 c6 w6 (R5.out.below (Nat.le_refl _) B6.out) R6.out N5.out N6.out; (with_reducible refine hcc.mono ?_); clear hcc; rintro e w7 ⟨rfl, b7⟩; have B57 := Lib.hid ((B5.out.trans (B6.out.mono B5.out.size)).trans (b7.mono (Nat.le_trans B5.out.size B6.out.size))); have t7 := (B57.out.cell (p := ⟨w1.heap.size + 1 + 1 + 1 + 1 + 1 + 1 + 1, k, none⟩) HQ.out).trans T1R.out; clear b7))
              · have hg1 : G = true := by assumption
                go_ret2
                have hf2 : divs.find? good = some d := by rw [HF.out, HGG.out, hg1]
                have hall := ((HB1.out.trans (HB9.out.mono HB1.out.size)).trans (B57.out.mono (Nat.le_trans HB1.out.size HB9.out.size)))
                refine ⟨some ⟨w1.heap.size + k, 0, none⟩, d.length, by rw [hf2]; rfl, ?_, hall⟩
                rw [hf2]
                exact (T2.out.below (Nat.le_refl _) HBJ.out).below (Nat.le_refl _) B57.out
              · have hg1 : G = false := by assumption
                have hf2 : divs.find? good = (divs.drop (k + 1)).find? good := by rw [HF.out, HGG.out, hg1]
                go_roundw
                case rel => exact ⟨k + 1, HLT.out, by go_num, hf2, (HBEL.out.trans (HBJ.out.mono HBEL.out.size)).trans (B57.out.mono (Nat.le_trans HBEL.out.size HBJ.out.size))⟩
                case measure => simp [intOf]; omega
        · obtain rfl : k = 7 := by omega
          have hfn : divs.find? good = none := by rw [hfind]; rfl
          have HF := Lib.hid hfn
          clear hfind hfn
          go_wp2
          go_ret2
          exact ⟨none, 0, by rw [HF.out]; rfl, by rw [HF.out]; exact .inl rfl, (HB1.out.trans (HDB.out.mono HB1.out.size)).trans (hbel.mono (by rw [divW_size]; have := HB1.out.size; omega))⟩
    · have hb4 : ((ps.length : Int) != 4) = true := by simp; omega
      have hres : divideOf ps = ([], 5) := by rw [divideOf, if_neg (by simp [hE]), if_pos h4]
      rw [hres]
      obtain ⟨o1, o2, _, _⟩ := errP_ok hE
      clear hres hE h4
      go_enter Try.func58, Try.ntmps58
      go_wp2_with (go_at_call 56; have hcc := C1.out; rw [HE.out] at hcc; (with_reducible refine hcc.mono ?_); clear hcc; rintro e w1 ⟨rfl, hb1⟩)
      go_ret2
      exact ⟨none, 0, rfl, .inl rfl, hb1⟩
  · have hb : (E != 0) = true := by simp [h0]
    have hb' : (E == 0) = false := by simp [h0]
    have hres : divideOf ps = ([], E) := by rw [divideOf, if_pos (by rw [hE]; exact h0), hE]
    rw [hres]
    clear hres h0 hE
    go_enter Try.func58, Try.ntmps58
    go_wp2_with (go_at_call 56; have hcc := C1.out; rw [HE.out] at hcc; (with_reducible refine hcc.mono ?_); clear hcc; rintro e w1 ⟨rfl, hb1⟩)
    go_ret2
    exact ⟨none, 0, rfl, .inl rfl, hb1⟩
end Go.Proofs.Ytcalipoknbbaaaa
namespace Go.Proofs.Ytcalipoknbbaaaa
open Go.RowKit
set_option linter.unusedSimpArgs false
set_option linter.unusedVariables false

/-- what within of the reference returns -/
def rwi (l : List Pl) (p : Pl) : List Int := if sepB l [p] = true then [] else (shortestOf l.length (withB l p)).getD []
theorem one_inL {p : Pl} (h : NV.inG p) : ∀ q ∈ [p], NV.inG q := by intro q hq; obtain rfl := List.mem_singleton.1 hq; exact h
theorem withB_not {l : List Pl} {p : Pl} {x : List Int} (hl : ∀ r ∈ l, NV.inG r) (hp : NV.inG p) (h : withB l p x = true) : sepB l [p] = false := by
  cases hs : sepB l [p] with
  | false => rfl
  | true =>
    have hw : sepB (sel true x l) [p] = true := by
      by_cases h0 : sel true x l = []
      · rw [h0]; exact sepB_nil p hp
      · have hl0 : l ≠ [] := by
          intro e
          obtain ⟨r, hr⟩ := List.exists_mem_of_ne_nil _ h0
          have := sel_mem _ _ _ r hr
          rw [e] at this
          simp at this
        obtain ⟨n, hn⟩ := (sepB_any hl0 (by simp) hl (one_inL hp)).1 hs
        exact (sepB_any h0 (by simp) (fun r hr => hl r (sel_mem _ _ _ r hr)) (one_inL hp)).2 ⟨n, fun r hr => hn r (sel_mem _ _ _ r hr)⟩
    rw [withB, hw] at h
    cases h
theorem rwi_some {l : List Pl} {p : Pl} {x : List Int} (hl : ∀ r ∈ l, NV.inG r) (hp : NV.inG p) (h : shortestOf l.length (withB l p) = some x) : rwi l p = x := by
  obtain ⟨_, h2⟩ := shortest_mem h
  rw [rwi, if_neg (by rw [withB_not hl hp h2]; simp), h]
  rfl
theorem errPP_up {l : List Pl} {p : Pl} (h : RowUp l) (hp : NV.inG p) : errPP l p = 0 := by rw [errPP, h.err, if_neg (by simp), if_neg (by rw [inG_onG hp]; simp)]
theorem rwi_none {l : List Pl} {p : Pl} (hl : ∀ r ∈ l, NV.inG r) (hu : l.Pairwise NV.ltP) (hll : l.length ≤ 12) (hp : NV.inG p) (h : NoneBelow l.length 4 (withB l p)) : rwi l p = [] := by
  unfold rwi
  cases hs : sepB l [p] with
  | true => rfl
  | false =>
    by_cases h0 : l = []
    · subst h0
      rw [sepB_nil p hp] at hs
      cases hs
    · have hup : RowUp l := ⟨h0, hll, hl, hu⟩
      obtain ⟨c, _, hw, hc0, hc3⟩ := within_law hup hp hs
      cases hsh : shortestOf l.length (withB l p) with
      | none => rfl
      | some x =>
        exfalso
        obtain ⟨m1, m2⟩ := shortest_mem hsh
        rw [withinOf, if_neg (by simp [errPP_up hup hp]), if_neg (by simp [hs])] at hw
        have hsh' : shortestOf l.length (fun is => !sepB (sel true is l) [p]) = some x := hsh
        rw [hsh'] at hw
        injection hw with hx _
        have hxc : x = c := hx
        obtain ⟨k, hk, hm⟩ := List.mem_flatMap.1 m1
        have hlen := combos_length _ _ _ x hm
        have := h k (by rw [hxc] at hlen; omega) x hm
        rw [m2] at this
        cases this
theorem rwi_within {l : List Pl} {p : Pl} (hup : RowUp l) (hp : NV.inG p) : withinOf l p = (rwi l p, if rwi l p = [] then 12 else 0) := by
  cases hs : sepB l [p] with
  | true =>
    have e : rwi l p = [] := by rw [rwi, if_pos hs]
    rw [e, withinOf, if_neg (by simp [errPP_up hup hp]), if_pos hs, if_pos rfl]
  | false =>
    obtain ⟨c, _, hw, hc0, hc3⟩ := within_law hup hp hs
    have e : rwi l p = c := by
      have hw' := hw
      rw [withinOf, if_neg (by simp [errPP_up hup hp]), if_neg (by simp [hs])] at hw'
      injection hw' with hx _
      rw [rwi, if_neg (by simp [hs])]
      exact hx
    rw [e, hw, if_neg (fun h => hc0 (by rw [h]; rfl))]

theorem covL_with {l : List Pl} {p : Pl} {x : List Int} (hl : ∀ r ∈ l, NV.inG r) (hu : l.Pairwise NV.ltP) (hp : NV.inG p) (hx : x.Pairwise (· < ·)) (hb : ∀ i ∈ x, 0 ≤ i ∧ i < l.length) (h0 : x ≠ []) (h3 : x.length ≤ 3) :
    covL (pickR l x) p = withB l p x := by
  have hin := pickR_in hl hb
  have hup : (pickR l x).Pairwise NV.ltP := by
    unfold pickR
    rw [List.pairwise_map]
    refine hx.imp_of_mem ?_
    intro a b ha hb' hab
    obtain ⟨a0, a1⟩ := hb a ha
    obtain ⟨b0, b1⟩ := hb b hb'
    rw [getD_eq l a.toNat (0, 0) (by omega), getD_eq l b.toNat (0, 0) (by omega)]
    exact List.pairwise_iff_getElem.1 hu a.toNat b.toNat (by omega) (by omega) (by omega)
  have hne : pickR l x ≠ [] := by intro e; apply h0; have := pickR_len l x; rw [e] at this; exact List.length_eq_zero_iff.1 this.symm
  have hmem : ∀ r, r ∈ pickR l x ↔ r ∈ sel true x l := mem_pick hb
  have hse : sel true x l ≠ [] := by
    intro e
    obtain ⟨r, hr⟩ := List.exists_mem_of_ne_nil _ hne
    have := (hmem r).1 hr
    rw [e] at this
    simp at this
  rw [covL_sep hup hin hp hne (by rw [pickR_len]; exact h3), withB]
  congr 1
  rw [Bool.eq_iff_iff, sepB_any hne (by simp) hin (one_inL hp), sepB_any hse (by simp) (fun r hr => hl r (sel_mem _ _ _ r hr)) (one_inL hp)]
  exact ⟨fun ⟨n, h⟩ => ⟨n, fun r hr => h r ((hmem r).2 hr)⟩, fun ⟨n, h⟩ => ⟨n, fun r hr => h r ((hmem r).1 hr)⟩⟩

/-- the list of indices that within returns -/
def WiP (w : World) (xs : List Int) (e : Ending) (w' : World) : Prop := ∃ q c, e = .returned (.slice q xs.length c) ∧ RowI w' q xs ∧ (xs = [] → q = none) ∧ Below w.heap.size w w'

set_option maxRecDepth 100000 in
set_option maxHeartbeats 4000000 in
theorem rwithin_any (q : Option Addr) (c : Nat) (l : List Pl) (p : Pl) (w : World) (hr : RowP w q l) (hl : ∀ r ∈ l, NV.inG r) (hu : l.Pairwise NV.ltP) (hp : NV.inG p) (hll : l.length ≤ 12) :
    Calls Try.prog 118 #[.slice q l.length c, .agg #[.int .i64 p.1, .int .i64 p.2]] w (WiP w (rwi l p)) := by
  have HI := Lib.hid (Inv.onePP w q l p hr)
  have cL : ∀ (k : Nat) (hk : k ≤ 1000) (W : World), Calls Try.prog 109 #[.int .i64 (l.length : Nat), .int .i64 (k : Nat), .slice none 0 0] W (ManyL W none (LL l.length ((0 : Nat) : Int) k [])) := fun (k : Nat) (hk : k ≤ 1000) W => lists_any l.length k (by omega) hk k [] none 0 0 l.length W (by simp) (by simp) (.inl ⟨rfl, rfl⟩) (.inl rfl) (fun _ => rfl)
  have cS := fun (W : World) (q5 : Option Addr) (c5 : Nat) (x : List Int) (hh : RowP W q l) (hi : RowI W q5 x) (hlx : x.length ≤ 12) (hb : ∀ i ∈ x, 0 ≤ i ∧ i < l.length) => rchosen_any q q5 c c5 l x W hh hi hlx hb hll
  have cV := fun (W : World) (q6 : Option Addr) (c6 : Nat) (x : List Int) (hh : RowP W q6 (pickR l x)) (hc : (pickR l x).length ≤ c6) (hb : ∀ i ∈ x, 0 ≤ i ∧ i < l.length) (h0 : x ≠ []) (h3 : x.length ≤ 3) =>
    rcovers_any q6 c6 (pickR l x) p W hh hc (pickR_in hl hb) hp (by intro e; apply h0; have := pickR_len l x; rw [e] at this; exact List.length_eq_zero_iff.1 this.symm) (by rw [pickR_len]; exact h3)
  have cW := fun (x : List Int) (h1 : x.Pairwise (· < ·)) (h2 : ∀ i ∈ x, 0 ≤ i ∧ i < l.length) (h3 : x ≠ []) (h4 : x.length ≤ 3) => covL_with hl hu hp h1 h2 h3 h4
  have rN := rwi_none hl hu hll hp
  have rS := fun x h => rwi_some (x := x) hl hp h
  have hnb : NoneBelow l.length 1 (withB l p) := by
    intro j hj x hx
    obtain rfl : j = 0 := by omega
    obtain rfl : x = [] := by simpa [combos] using hx
    have e : sel true [] l = [] := by
      apply List.eq_nil_iff_forall_not_mem.2
      intro r hr
      obtain ⟨i, hi, hm, _⟩ := (mem_sel _ _ _ _).1 hr
      simp [hasI] at hm
    rw [withB, e, sepB_nil p hp]
    rfl
  unfold OneC at cS
  have HNB := Lib.hid hnb
  have CL := Lib.hid cL
  have CS := Lib.hid cS
  have CV := Lib.hid cV
  have CW := Lib.hid cW
  have RN := Lib.hid rN
  have RS := Lib.hid rS
  obtain ⟨good, hgood⟩ : ∃ good : List Int → Bool, withB l p = good := ⟨_, rfl⟩
  rw [hgood] at RN RS HNB CW
  clear hr hl hu hp cL cS cV cW rN rS hnb hgood
  have k0 := HI.out.c (b := w.heap.size) (o := 0) (v := .int .i64 p.1) (by simp)
  have k1 := HI.out.c (b := w.heap.size) (o := 1) (v := .int .i64 p.2) (by simp)
  go_enter Try.func118, Try.ntmps118
  go_wp2
  go_loopw [5] (fun i wr => ∃ k : Nat, k ≤ 4 ∧ 1 ≤ k ∧ i = .int .i64 k ∧ NoneBelow l.length k good ∧ Inv w wr [] [(q, l)] [] [(w.heap.size, 1, .int .i64 p.2), (w.heap.size, 0, .int .i64 p.1)]) (fun i _ => 4 - (intOf i).toNat)
  case atStart => exact ⟨1, by omega, by omega, rfl, HNB.out, HI.out⟩
  case round =>
    clear HI HNB k0 k1
    obtain ⟨k, hk, hk1, rfl, hnb, hI⟩ := hrel
    have HI := Lib.hid hI
    have HNB := Lib.hid hnb
    clear hI hnb
    have k0 := HI.out.c (b := w.heap.size) (o := 0) (v := .int .i64 p.1) (by simp)
    have k1 := HI.out.c (b := w.heap.size) (o := 1) (v := .int .i64 p.2) (by simp)
    by_cases hlt : k ≤ 3
    · have hll2 := LL_nil l.length ((0 : Nat) : Int) k
      have HLL := Lib.hid hll2
      have hcl := combos_length l.length ((0 : Nat) : Int) k
      have HCL := Lib.hid hcl
      clear hll2 hcl
      go_wp2_with fail
      go_at_call 109
      have hc9 := CL.out k (by omega) wr
      with_reducible refine hc9.mono ?_
      clear hc9; rintro e W3 ⟨q3, c3, vs3, rfl, hnil, hrow, hinl, hb3⟩
      go_wp2
      rw [HLL.out] at hinl
      have hL : LstsIn W3 q3 vs3 (combos l.length ((0 : Nat) : Int) k) := ⟨hrow, InL.mono (fun v l ⟨q, c, e, hr, _⟩ => ⟨q, c, e, hr⟩) hinl⟩
      have hlen := hinl.len
      have HLE := Lib.hid hlen
      have hv9 : vs3.length ≤ 4096 := by
        have h1 := combos_bd l.length ((0 : Nat) : Int) k
        have h2 : 2 ^ l.length ≤ 4096 := Nat.pow_le_pow_right (by omega) (show l.length ≤ 12 by omega)
        omega
      clear hrow hinl hnil k0 k1 hlen
      have HI3 := Lib.hid (HI.out.go hb3)
      have HL3 := Lib.hid hL
      clear hL hb3
      go_loopw [7] (fun i wr => ∃ j : Nat, j ≤ vs3.length ∧ i = .int .i64 j ∧ NoneTo (combos l.length ((0 : Nat) : Int) k) good j ∧ LstsIn wr q3 vs3 (combos l.length ((0 : Nat) : Int) k) ∧ Inv w wr [] [(q, l)] [] [(w.heap.size, 1, .int .i64 p.2), (w.heap.size, 0, .int .i64 p.1)]) (fun i _ => vs3.length - (intOf i).toNat)
      case atStart => exact ⟨0, Nat.zero_le _, rfl, NoneTo.zero _ _, HL3.out, HI3.out⟩
      case round =>
        clear HI HL3 HI3
        obtain ⟨j, hj, rfl, hnt, hL, hI⟩ := hrel
        have HI := Lib.hid hI
        have HL := Lib.hid hL
        have HNT := Lib.hid hnt
        clear hI hL hnt
        by_cases hlt2 : j < vs3.length
        · have hjl : j < (combos l.length ((0 : Nat) : Int) k).length := by rw [← HLE.out]; exact hlt2
          obtain ⟨bb, off, q5, c5, hqe, hbz, hce, hri⟩ := HL.out.at hjl
          subst hqe
          have hmem := getD_mem (combos l.length ((0 : Nat) : Int) k) j [] hjl
          have hl5 := HCL.out _ hmem
          have hkn : k ≤ l.length := by
            apply Classical.byContradiction
            intro hn
            rw [combos_none _ _ _ (by omega)] at hjl
            simp at hjl
          have hst := HNT.out.step hjl
          have hit := HNT.out.hit HNB.out hkn hjl
          have has := combos_asc _ _ _ _ hmem
          have hbd : ∀ i ∈ (combos l.length ((0 : Nat) : Int) k).getD j [], 0 ≤ i ∧ i < l.length := by
            intro i hi
            have := combos_bounds _ _ _ _ hmem i hi
            omega
          obtain ⟨l5, hl5e⟩ : ∃ l5, (combos l.length ((0 : Nat) : Int) k).getD j [] = l5 := ⟨_, rfl⟩
          rw [hl5e] at hce hri hl5 hst hit has hbd
          have hne : l5 ≠ [] := by rintro rfl; simp at hl5; omega
          have hgl := CW.out l5 has hbd hne (by omega)
          obtain ⟨Y, hY⟩ : ∃ Y, covL (pickR l l5) p = Y := ⟨_, rfl⟩
          have hcv := fun W q6 c6 h h' => CV.out W q6 c6 l5 h h' hbd hne (by omega)
          have hcs := fun W h h' => CS.out W q5 c5 l5 h h' (by omega) hbd
          rw [hY] at hcv hgl
          have HCV := Lib.hid hcv
          have HCS := Lib.hid hcs
          have HST := Lib.hid hst
          have HIT := Lib.hid hit
          have HGL := Lib.hid hgl
          have HNE := Lib.hid hne
          clear hmem hl5e hst hit hgl hl5 hkn has hbd hcv hcs hY hne
          have HLT2 := Lib.hid hlt2
          have HID := Lib.hid (HI.out.go (Below.refl _ _).drew)
          have HLD := Lib.hid (HL.out.below (Below.refl _ _).drew)
          have RD := Lib.hid (hri.below (Nat.le_refl _) (Below.refl _ wr).drew)
          have a0 := HI.out.c (b := w.heap.size) (o := 0) (v := .int .i64 p.1) (by simp)
          have a1 := HI.out.c (b := w.heap.size) (o := 1) (v := .int .i64 p.2) (by simp)
          have b0 := HID.out.c (b := w.heap.size) (o := 0) (v := .int .i64 p.1) (by simp)
          have b1 := HID.out.c (b := w.heap.size) (o := 1) (v := .int .i64 p.2) (by simp)
          have b2 : wr.drew.cell? ⟨bb, off + j, none⟩ = some (.slice q5 l5.length c5) := hce
          go_upto_region 8 with fail
          go_region_held3 (fun W => W.cell? ⟨w.heap.size, 0, none⟩ = some (.int .i64 p.1) ∧ W.cell? ⟨w.heap.size, 1, none⟩ = some (.int .i64 p.2) ∧ W.cell? ⟨bb, off + j, none⟩ = some (.slice q5 l5.length c5)) (first | exact ⟨a0, a1, hce⟩ | exact ⟨b0, b1, b2⟩ | exact ⟨d0, d1, d2⟩ | exact ⟨e0, e1, e2⟩ | go_keep)
            (first
            | (go_at_call 130; have hcc := HCS.out wr.drew (HID.out.2.1 (q, l) (by simp)) RD.out; (with_reducible refine hcc.mono ?_); clear hcc; intro e W6 hx; obtain ⟨q6, c6, he, hr6, hn6, hb6⟩ := hx; subst he; have J6 := Lib.hid (HID.out.go hb6); have L6 := Lib.hid (HLD.out.below hb6); have R6 := Lib.hid hr6; have N6 := Lib.hid hn6; have d0 := J6.out.c (b := w.heap.size) (o := 0) (v := .int .i64 p.1) (by simp); have d1 := J6.out.c (b := w.heap.size) (o := 1) (v := .int .i64 p.2) (by simp); have d2 := (hb6.cell (p := ⟨bb, off + j, none⟩) hbz).trans b2; have Z6 := RD.out.below (Nat.le_refl _) hb6; have RI6 := Lib.hid Z6; have hs6 := hb6.size; clear hr6 hb6 Z6 hn6)
            | (go_at_call 149; have hcc := HCV.out W6 q6 c6 R6.out N6.out; (with_reducible refine hcc.mono ?_); clear hcc; intro e W7 hx; obtain ⟨he, hb7⟩ := hx; subst he; have J7 := Lib.hid (J6.out.go hb7); have L7 := Lib.hid (L6.out.below hb7); have e0 := J7.out.c (b := w.heap.size) (o := 0) (v := .int .i64 p.1) (by simp); have e1 := J7.out.c (b := w.heap.size) (o := 1) (v := .int .i64 p.2) (by simp); have e2 := (hb7.cell (p := ⟨bb, off + j, none⟩) (Nat.lt_of_lt_of_le hbz (by simpa using hs6))).trans d2; have RI7 := Lib.hid (RI6.out.below (Nat.le_refl _) hb7); clear hb7)
            | fail)
          all_goals
            clear a0 a1 hce b0 b1 b2 d0 d1 d2
            go_wp2
          · have hgt : good l5 = true := by
              rw [← HGL.out]
              first | assumption | (simp; omega) | (simp; assumption)
            have hit2 := RS.out _ (HIT.out hgt)
            have HIT2 := Lib.hid hit2
            clear hit2 hgt
            go_ret
            exact ⟨q5, c5, by rw [HIT2.out]; rfl, by rw [HIT2.out]; exact RI7.out, fun e => absurd (HIT2.out.symm.trans e) HNE.out, J7.out.2.2.2.2⟩
          · have hgt : good l5 = false := by
              rw [← HGL.out]
              first | assumption | (simp; omega) | (simp; assumption)
            go_roundw
            case rel => exact ⟨j + 1, by have := HLT2.out; omega, by go_num, HST.out hgt, L7.out, J7.out⟩
            case measure => have := HLT2.out; simp [intOf]; omega
        · obtain rfl : j = vs3.length := by omega
          have hd := HNT.out
          rw [HLE.out] at hd
          have hdn := hd.done HNB.out
          have HDN := Lib.hid hdn
          clear hd hdn
          go_wp2
          go_roundw
          case rel => exact ⟨k + 1, by omega, by omega, by go_num, HDN.out, HI.out⟩
          case measure => simp [intOf]; omega
    · obtain rfl : k = 4 := by omega
      have hz := RN.out HNB.out
      have HZ := Lib.hid hz
      clear hz
      go_wp2
      go_ret
      exact ⟨none, 0, by rw [HZ.out]; rfl, by rw [HZ.out]; exact .inl rfl, fun _ => rfl, HI.out.2.2.2.2⟩

set_option maxRecDepth 100000 in
set_option maxHeartbeats 1000000 in
theorem rWithin_any (q : Option Addr) (c : Nat) (ps : List Pl) (p : Pl) (w : World) (hr : RowP w q ps) :
    Calls Try.prog 52 #[.slice q ps.length c, .agg #[.int .i64 p.1, .int .i64 p.2]] w (ListErr w (withinOf ps p)) := by
  have HI := Lib.hid (Inv.onePP w q ps p hr)
  have k0 := HI.out.c (b := w.heap.size) (o := 0) (v := .int .i64 p.1) (by simp)
  have k1 := HI.out.c (b := w.heap.size) (o := 1) (v := .int .i64 p.2) (by simp)
  clear hr
  obtain ⟨F, hF⟩ : ∃ F, errPP ps p = F := ⟨_, rfl⟩
  have HF := Lib.hid hF
  by_cases h0 : F = 0
  · subst h0
    obtain ⟨e1, e2⟩ := errPP_ok hF
    obtain ⟨o1, o2, o3, o4⟩ := errP_ok e1
    have hin : ∀ r ∈ ps, NV.inG r := fun r hr => onG_inG (o3 r hr)
    have hres := rwi_within ⟨by intro e; rw [e] at o1; simp at o1, o2, hin, errP_lt e1⟩ (onG_inG e2)
    rw [hres]
    have cD := fun (V : World) (h : RowP V q ps) => rwithin_any q c ps p V h hin (errP_lt e1) (onG_inG e2) o2
    unfold WiP at cD
    have CD := Lib.hid cD
    clear hF e1 e2 o3 o4 hres hin cD
    obtain ⟨xs, hxs⟩ : ∃ xs, rwi ps p = xs := ⟨_, rfl⟩
    rw [hxs] at CD ⊢
    clear hxs
    by_cases hx : xs = []
    · subst hx
      rw [if_pos rfl]
      go_enter Try.func52, Try.ntmps52
      go_wp2_with (first
        | (go_at_call 124; refine (HI.out.scalar (V' := .int .i64 0) (rasked_any q c ps p _ (HI.out.2.1 (q, ps) (by simp))) (by rw [HF.out])).mono ?_; rintro e W ⟨rfl, hI⟩; replace HI := Lib.hid hI; clear hI k0 k1; have k0 := HI.out.c (b := w.heap.size) (o := 0) (v := .int .i64 p.1) (by simp); have k1 := HI.out.c (b := w.heap.size) (o := 1) (v := .int .i64 p.2) (by simp))
        | (go_at_call 118; have hcc := CD.out W (HI.out.2.1 (q, ps) (by simp)); (with_reducible refine hcc.mono ?_); clear hcc; rintro e V ⟨q2, c2, rfl, hri, _, hb⟩; have RI := Lib.hid hri; replace HI := Lib.hid (HI.out.go hb); clear hb k0 k1 hri))
      go_ret2
      exact ⟨none, 0, rfl, .inl rfl, HI.out.2.2.2.2⟩
    · have hx0 : xs.length ≠ 0 := fun e => hx (List.length_eq_zero_iff.1 e)
      have hx1 : ((xs.length : Int) == 0) = false := by simp; exact hx
      rw [if_neg hx]
      clear hx hx0
      go_enter Try.func52, Try.ntmps52
      go_wp2_with (first
        | (go_at_call 124; refine (HI.out.scalar (V' := .int .i64 0) (rasked_any q c ps p _ (HI.out.2.1 (q, ps) (by simp))) (by rw [HF.out])).mono ?_; rintro e W ⟨rfl, hI⟩; replace HI := Lib.hid hI; clear hI k0 k1; have k0 := HI.out.c (b := w.heap.size) (o := 0) (v := .int .i64 p.1) (by simp); have k1 := HI.out.c (b := w.heap.size) (o := 1) (v := .int .i64 p.2) (by simp))
        | (go_at_call 118; have hcc := CD.out W (HI.out.2.1 (q, ps) (by simp)); (with_reducible refine hcc.mono ?_); clear hcc; rintro e V ⟨q2, c2, rfl, hri, _, hb⟩; have RI := Lib.hid hri; replace HI := Lib.hid (HI.out.go hb); clear hb k0 k1 hri))
      go_ret2
      exact ⟨q2, c2, rfl, RI.out, HI.out.2.2.2.2⟩
  · have hres : withinOf ps p = ([], F) := by rw [withinOf, hF, if_pos h0]
    rw [hres]
    have hb : (F != 0) = true := by simp [h0]
    clear hF hres
    go_enter Try.func52, Try.ntmps52
    go_wp2_with (first
      | (go_at_call 124; refine (HI.out.scalar (V' := .int .i64 F) (rasked_any q c ps p _ (HI.out.2.1 (q, ps) (by simp))) (by rw [HF.out])).mono ?_; rintro e W ⟨rfl, hI⟩; replace HI := Lib.hid hI; clear hI k0 k1))
    go_ret2
    exact ⟨none, 0, rfl, .inl rfl, HI.out.2.2.2.2⟩
end Go.Proofs.Ytcalipoknbbaaaa
namespace NV
theorem sqn (x : Int) : 0 ≤ x * x := by
  rcases Int.le_total 0 x with h | h
  · exact Int.mul_nonneg h h
  · exact Int.mul_nonneg_of_nonpos_of_nonpos h h
theorem par_pos {n u w : Int × Int} (hc : u.1 * w.2 - u.2 * w.1 = 0) (hu : n.1 * u.1 + n.2 * u.2 < 0) (hw : n.1 * w.1 + n.2 * w.2 < 0) : 0 < u.1 * w.1 + u.2 * w.2 := by
  apply Classical.byContradiction
  intro hn
  have key : (u.1 * u.1 + u.2 * u.2) * (n.1 * w.1 + n.2 * w.2) - (u.1 * w.1 + u.2 * w.2) * (n.1 * u.1 + n.2 * u.2) = (u.1 * w.2 - u.2 * w.1) * (u.1 * n.2 - u.2 * n.1) := by grind
  rw [hc, Int.zero_mul] at key
  have s1 := sqn u.1
  have s2 := sqn u.2
  have hpos : 0 < u.1 * u.1 + u.2 * u.2 := by
    apply Classical.byContradiction
    intro h0
    have z1 : u.1 * u.1 = 0 := by omega
    have z2 : u.2 * u.2 = 0 := by omega
    have y1 : u.1 = 0 := by rcases Int.mul_eq_zero.1 z1 with h | h <;> exact h
    have y2 : u.2 = 0 := by rcases Int.mul_eq_zero.1 z2 with h | h <;> exact h
    rw [y1, y2] at hu
    simp at hu
  have g1 := Int.mul_neg_of_pos_of_neg hpos hw
  have g2 := Int.mul_nonneg_of_nonpos_of_nonpos (show u.1 * w.1 + u.2 * w.2 ≤ 0 by omega) (show n.1 * u.1 + n.2 * u.2 ≤ 0 by omega)
  omega
end NV
namespace Go.Proofs.Ytcalipoknbbaaaa
open Go.RowKit
set_option linter.unusedSimpArgs false
set_option linter.unusedVariables false

theorem tip3 {l : List Pl} {a b d : Pl} (ha : Tip l a) (hb : Tip l b) (hd : Tip l d) (ma : a ∈ l) (mb : b ∈ l) (md : d ∈ l) (h1 : a ≠ b) (h2 : a ≠ d) (h3 : b ≠ d) : NV.trn a b d ≠ 0 := by
  intro h0
  obtain ⟨na, hna⟩ := ha
  obtain ⟨nb, hnb⟩ := hb
  obtain ⟨nd, hnd⟩ := hd
  have a1 := hna b mb h1.symm
  have a2 := hna d md h2.symm
  have b1 := hnb a ma h1
  have b2 := hnb d md h3.symm
  have d1 := hnd a ma h2
  have d2 := hnd b mb h3
  simp only [NV.trn, NV.dt] at *
  have D1 := NV.par_pos (n := na) (u := (b.1 - a.1, b.2 - a.2)) (w := (d.1 - a.1, d.2 - a.2)) (by simpa using h0) (by simp only [Int.mul_sub]; omega) (by simp only [Int.mul_sub]; omega)
  have D2 := NV.par_pos (n := nb) (u := (a.1 - b.1, a.2 - b.2)) (w := (d.1 - b.1, d.2 - b.2)) (by simp only; grind) (by simp only [Int.mul_sub]; omega) (by simp only [Int.mul_sub]; omega)
  have D3 := NV.par_pos (n := nd) (u := (a.1 - d.1, a.2 - d.2)) (w := (b.1 - d.1, b.2 - d.2)) (by simp only; grind) (by simp only [Int.mul_sub]; omega) (by simp only [Int.mul_sub]; omega)
  simp only at D1 D2 D3
  obtain ⟨u1, hu1⟩ : ∃ u1, u1 = b.1 - a.1 := ⟨_, rfl⟩
  obtain ⟨u2, hu2⟩ : ∃ u2, u2 = b.2 - a.2 := ⟨_, rfl⟩
  obtain ⟨w1, hw1⟩ : ∃ w1, w1 = d.1 - a.1 := ⟨_, rfl⟩
  obtain ⟨w2, hw2⟩ : ∃ w2, w2 = d.2 - a.2 := ⟨_, rfl⟩
  have hr : 0 < u1 * w1 + u2 * w2 := by rw [hu1, hu2, hw1, hw2]; exact D1
  have hp : 0 < (u1 * u1 + u2 * u2) - (u1 * w1 + u2 * w2) := by
    have e : (u1 * u1 + u2 * u2) - (u1 * w1 + u2 * w2) = (a.1 - b.1) * (d.1 - b.1) + (a.2 - b.2) * (d.2 - b.2) := by rw [hu1, hu2, hw1, hw2]; grind
    rw [e]; exact D2
  have hq : 0 < (w1 * w1 + w2 * w2) - (u1 * w1 + u2 * w2) := by
    have e : (w1 * w1 + w2 * w2) - (u1 * w1 + u2 * w2) = (a.1 - d.1) * (b.1 - d.1) + (a.2 - d.2) * (b.2 - d.2) := by rw [hu1, hu2, hw1, hw2]; grind
    rw [e]; exact D3
  have hc : u1 * w2 - u2 * w1 = 0 := by rw [hu1, hu2, hw1, hw2]; exact h0
  have hl : (u1 * u1 + u2 * u2) * (w1 * w1 + w2 * w2) - (u1 * w1 + u2 * w2) * (u1 * w1 + u2 * w2) = (u1 * w2 - u2 * w1) * (u1 * w2 - u2 * w1) := by grind
  rw [hc, Int.zero_mul] at hl
  generalize u1 * w1 + u2 * w2 = r at *
  generalize u1 * u1 + u2 * u2 = p at *
  generalize w1 * w1 + w2 * w2 = q at *
  have e : p * q = r * r + r * (q - r) + (p - r) * r + (p - r) * (q - r) := by grind
  have m1 := Int.mul_pos hr hq
  have m2 := Int.mul_pos hp hr
  have m3 := Int.mul_pos hp hq
  omega

/-- is a corner the next one? -/
def nxt (C : List Pl) (a x : Pl) : Bool := !plEq x a && C.all fun q => decide (0 ≤ turnP a x q)
def nxtK (C : List Pl) (a x : Pl) (k : Nat) : Bool := !plEq x a && (C.take k).all fun q => decide (0 ≤ turnP a x q)
theorem nxtK_zero (C : List Pl) (a x : Pl) : nxtK C a x 0 = !plEq x a := by simp [nxtK]
theorem nxtK_all (C : List Pl) (a x : Pl) : nxtK C a x C.length = nxt C a x := by rw [nxtK, List.take_length]; rfl
theorem nxtK_succ (C : List Pl) (a x : Pl) (k : Nat) (h : k < C.length) : nxtK C a x (k + 1) = (nxtK C a x k && decide (0 ≤ turnP a x (C.getD k (0, 0)))) := by
  rw [nxtK, nxtK, List.take_succ_eq_append_getElem h, List.all_append, getD_eq C k (0, 0) h, List.all_cons, List.all_nil, Bool.and_true, Bool.and_assoc]
theorem nxt_iff {l h C : List Pl} (hC : Corners l h) (hm : ∀ p, p ∈ C ↔ p ∈ h) {m : Nat} (hm1 : m + 1 < h.length) {x : Pl} (hx : x ∈ C) :
    nxt C (h.getD m (0, 0)) x = true ↔ x = h.getD (m + 1) (0, 0) := by
  have ha := (hC.mem _).1 (getD_mem h m (0, 0) (by omega))
  have hb := (hC.mem _).1 (getD_mem h (m + 1) (0, 0) hm1)
  have hbC : h.getD (m + 1) (0, 0) ∈ C := (hm _).2 (getD_mem h (m + 1) (0, 0) hm1)
  have hxl := (hC.mem _).1 ((hm x).1 hx)
  have hne : h.getD m (0, 0) ≠ h.getD (m + 1) (0, 0) := by
    intro e
    rw [getD_eq _ m (0, 0) (by omega), getD_eq _ (m + 1) (0, 0) hm1] at e
    have := nodup_ix hC.nodup (by omega) hm1 e
    omega
  have ht := hC.turn m (by omega)
  rw [Nat.mod_eq_of_lt hm1] at ht
  generalize h.getD m (0, 0) = a at *
  generalize h.getD (m + 1) (0, 0) = b at *
  simp only [nxt, Bool.and_eq_true, Bool.not_eq_true', List.all_eq_true, decide_eq_true_eq]
  constructor
  · rintro ⟨h1, h2⟩
    apply Classical.byContradiction
    intro hxb
    have hxa : a ≠ x := by
      rintro rfl
      have : plEq a a = true := beq_self_eq_true _
      rw [this] at h1
      cases h1
    have h3 := tip3 ha.2 hxl.2 hb.2 ha.1 hxl.1 hb.1 hxa hne hxb
    have s1 : 0 ≤ NV.trn a x b := h2 b hbC
    have s2 := ht x hxl.1
    have e : NV.trn a b x = -NV.trn a x b := by simp only [NV.trn]; grind
    omega
  · rintro rfl
    refine ⟨?_, fun q hq => ht q ((hC.mem _).1 ((hm q).1 hq)).1⟩
    cases hh : plEq x a with
    | false => rfl
    | true => exact absurd (by simpa [plEq] using hh : x = a) hne.symm

/-- the others, and a corner -/
theorem but_up {l : List Pl} (h : RowUp l) (i : Nat) : (∀ r ∈ butI l i, NV.inG r) ∧ (butI l i).Pairwise NV.ltP ∧ (butI l i).length ≤ 12 := by
  have hs : (butI l i).Sublist l := by
    have e : l = l.take i ++ l.drop i := (List.take_append_drop i l).symm
    conv => rhs; rw [e]
    exact (List.Sublist.refl _).append (List.drop_sublist_drop_left l (by omega))
  exact ⟨fun r hr => h.2.2.1 r (hs.subset hr), h.2.2.2.sublist hs, Nat.le_trans hs.length_le h.2.1⟩
theorem rwi_corn {l : List Pl} (h : RowUp l) {i : Nat} (hi : i < l.length) : rwi (butI l i) l[i] = [] ↔ cornB l i = true := by
  have hp := h.2.2.1 l[i] (List.getElem_mem _)
  obtain ⟨b1, b2, b3⟩ := but_up h i
  have hs : sepB (butI l i) [l[i]] = true ↔ cornB l i = true := by
    rw [corn_tip h hi, tip_sep (fun r => mem_but h.nodup hi r)]
    by_cases h0 : butI l i = []
    · rw [h0, sepB_nil _ hp]
      simp only [true_iff]
      exact ⟨(0, 0), fun r hr => by simp at hr⟩
    · exact sepB_any h0 (by simp) b1 (one_inL hp)
  rw [← hs]
  constructor
  · intro e
    cases hh : sepB (butI l i) [l[i]] with
    | true => rfl
    | false =>
      have h0 : butI l i ≠ [] := by intro e0; rw [e0, sepB_nil _ hp] at hh; cases hh
      obtain ⟨c, _, hw, hc0, _⟩ := within_law ⟨h0, b3, b1, b2⟩ hp hh
      have hw2 := rwi_within ⟨h0, b3, b1, b2⟩ hp
      rw [hw, e] at hw2
      injection hw2 with e1 _
      exact absurd (by rw [e1]; rfl) hc0
  · intro e
    rw [rwi, if_pos e]
end Go.Proofs.Ytcalipoknbbaaaa
namespace Go.Proofs.Ytcalipoknbbaaaa
open Go.RowKit
set_option linter.unusedSimpArgs false
set_option linter.unusedVariables false
attribute [local go_sem ↓] equalR nequalR

theorem under42 : Try.prog.underlying 42 = some (.slice 38) := by kernel_rfl
theorem sliceR_to (w : World) (g o n c k : Nat) (hk : k ≤ c) : (Instr.sliceAt 42 (.slice (some ⟨g, o, none⟩) n c) none (some (.int .i64 (k : Int))) none).run Try.prog w = .ok (.slice (some ⟨g, o, none⟩) k c) w := by
  have hu : Try.prog.underlying 42 = some (.slice (Try.prog.elem 42)) := by kernel_rfl
  have hs : (sizeOf (Try.prog.elem 42)).run Try.prog w = .ok 2 w := by kernel_rfl
  have ha : (⟨g, o, none⟩ : Addr).add 0 = ⟨g, o, none⟩ := by rw [addr_add_off]; simp
  rw [run_sliceAt_slice w 42 _ _ _ _ hu, run_slice_h w 42 _ n c hu .i64 (k : Int) (by omega) (by omega), hs]
  simp [Result.andThen, sliced, ha]
def qloR (g o c k : Nat) : Addr := if c = k + 1 then ⟨g, o, none⟩ else ⟨g, o + (k + 1) * 2, none⟩
theorem sliceR_from (w : World) (g o n c k : Nat) (h : k + 1 ≤ n) (hc : n ≤ c) : (Instr.sliceAt 42 (.slice (some ⟨g, o, none⟩) n c) (some (.int .i64 ((k : Int) + 1))) none none).run Try.prog w = .ok (.slice (some (qloR g o c k)) (n - (k + 1)) (c - (k + 1))) w := by
  have hu : Try.prog.underlying 42 = some (.slice (Try.prog.elem 42)) := by kernel_rfl
  have hs : (sizeOf (Try.prog.elem 42)).run Try.prog w = .ok 2 w := by kernel_rfl
  have ha : (⟨g, o, none⟩ : Addr).add ((k + 1) * 2) = ⟨g, o + (k + 1) * 2, none⟩ := by rw [addr_add_off]
  have hn : ((k : Int) + 1).toNat = k + 1 := by omega
  rw [run_sliceAt_slice w 42 _ _ _ _ hu, run_slice_any w 42 _ n c hu]
  have hb : (Instr.sliceBounds true n c (some (.int .i64 ((k : Int) + 1))) none none).run Try.prog w = .ok (k + 1, n, c) w := by
    simp [Instr.sliceBounds, run_sliceBound, go_sem, show (0 : Int) ≤ (k : Int) + 1 by omega, show (k : Int) + 1 ≤ (n : Int) by omega, hn]
  rw [hb]
  simp only [Result.andThen]
  rw [hs]
  simp only [Result.andThen, sliced, qloR]
  by_cases he : c = k + 1
  · rw [if_pos he, if_pos he]
  · rw [if_neg he, if_neg he, Option.map_some, ha]
theorem rowR_to {W : World} {g o : Nat} {l : List Pl} (h : RowP W (some ⟨g, o, none⟩) l) (k : Nat) (hk : k ≤ l.length) : RowP W (some ⟨g, o, none⟩) (l.take k) := by
  rcases h with rfl | ⟨b, off, e, hb, hc⟩
  · exact .inl (by simp)
  · refine .inr ⟨b, off, e, hb, fun i hi => ?_⟩
    rw [List.length_take] at hi
    have := hc i (by omega)
    rwa [getD_eq l i (0, 0) (by omega), ← List.getElem_take (h := by rw [List.length_take]; omega), ← getD_eq (l.take k) i (0, 0) (by rw [List.length_take]; omega)] at this
theorem rowR_from {W : World} {g o c : Nat} {l : List Pl} (h : RowP W (some ⟨g, o, none⟩) l) (k : Nat) (hk : k + 1 ≤ l.length) (hc : l.length ≤ c) : RowP W (some (qloR g o c k)) (l.drop (k + 1)) := by
  by_cases h0 : l.length = k + 1
  · exact .inl (List.drop_eq_nil_of_le (by omega))
  · rcases h with rfl | ⟨b, off, e, hb, hcc⟩
    · simp at hk
    · simp only [Option.some.injEq, Addr.mk.injEq, and_true] at e
      obtain ⟨rfl, rfl⟩ := e
      refine .inr ⟨g, o + (k + 1) * 2, by rw [qloR, if_neg (by omega)], hb, fun i hi => ?_⟩
      rw [List.length_drop] at hi
      have := hcc (k + 1 + i) (by omega)
      rw [getD_eq l (k + 1 + i) (0, 0) (by omega)] at this
      rw [getD_eq (l.drop (k + 1)) i (0, 0) (by rw [List.length_drop]; omega), List.getElem_drop]
      rw [show o + (k + 1 + i) * 2 = o + (k + 1) * 2 + i * 2 by omega] at this
      exact this

/-- at a step of a region that draws: append(list, list...): points -/
theorem step_plsR (w : World) {ops : Array Oper} {o : Oper} {a : Act} {K : Act → World → Prop} {Q : Exit → Act → World → Prop} {E : Prop} (hgd : o.guard = none) (s x : Operand)
    (ho : o.op = .call { callee := .builtin .append, args := #[s, x], argTypes := #[42, 42] }) (base : Nat) (v : Value) (gs xs : List Pl) (hs : a.eval s = v)
    (hown : w.ownsRow base 38 2 v gs.length (flatP gs)) (ad : Addr) (m c : Nat) (hm : xs.length = m) (hx : a.eval x = .slice (some ad) m c) (hr : RowP w (some ad) xs)
    (hl : gs.length + xs.length ≤ 1000000) (hbase : base ≤ w.heap.size)
    (h : ∀ v' w', w'.ownsRow base 38 2 v' (gs ++ xs).length (flatP (gs ++ xs)) → w.grownBy w' v.ownBlock → K (a.put o.dst v') w') :
    if Region.wanted o (yielded ops a.tmps) = true then Oper.wp Try.prog o a w K Q else E := by
  subst hm
  obtain ⟨i0, hi, hz0, hz1, hz2⟩ := info_parts info38
  have hfl := flatP_length xs
  have happ : flatP (gs ++ xs) = flatP gs ++ flatP xs := by simp [flatP]
  have hw : Region.wanted o (yielded ops a.tmps) = true := by simp [Region.wanted, hgd]
  rw [if_pos hw]
  refine wp_append_own w s x 42 ho base 38 i0 _ 2 16 Try.underlying42 hi hz0 hz1 hz2 rfl (by decide) v gs.length (flatP gs) hs hown ad xs.length c (flatP xs) hx hfl ?_ ?_ (by unfold maxLen; omega) (by omega) hbase ?_
  · intro j u hj
    rcases hr with h0 | ⟨b, off, e, _, hc⟩
    · subst h0
      rw [flatP_nil_get] at hj
      exact absurd hj.symm (Option.some_ne_none u)
    · simp only [Option.some.injEq] at e
      subst e
      have hjl : j < xs.length * 2 := by rw [← hfl]; exact (List.getElem?_eq_some_iff.1 hj).1
      rw [addr_add_off]
      obtain ⟨i, hi'⟩ : ∃ i, j = i * 2 ∨ j = i * 2 + 1 := ⟨j / 2, by omega⟩
      obtain ⟨c1, c2⟩ := hc i (by omega)
      obtain ⟨f1, f2⟩ := flatP_get xs i (by omega)
      rcases hi' with rfl | rfl
      · rw [f1] at hj; rw [← hj]; exact c1
      · rw [f2] at hj; rw [← hj]; exact c2
  · intro u hu
    unfold flatP at hu
    obtain ⟨g, _, hg⟩ := List.mem_flatMap.1 hu
    simp at hg
    rcases hg with rfl | rfl <;> rfl
  · intro v' w' h1 h2 _
    refine h v' w' ?_ h2
    rw [happ, List.length_append]
    exact h1
theorem owns_freshR (w : World) : (w.alloc (.cells #[] 38)).ownsRow w.heap.size 38 2 (.slice (some ⟨w.heap.size, 0, none⟩) 0 0) ([] : List Pl).length (flatP []) :=
  World.ownsRow_made (base := w.heap.size) (e := 38) (size := 2) w #[] 0 (Nat.le_refl _) (by decide) rfl
theorem owns_oneR (w : World) (p : Pl) : (w.alloc (.cells #[.int .i64 p.1, .int .i64 p.2] 38)).ownsRow w.heap.size 38 2 (.slice (some ⟨w.heap.size, 0, none⟩) 1 1) [p].length (flatP [p]) :=
  World.ownsRow_lit (base := w.heap.size) (e := 38) (size := 2) w #[.int .i64 p.1, .int .i64 p.2] 1 (Nat.le_refl _) (by decide) rfl
theorem eqNil57 (w : World) (a : Option Addr) (n c : Nat) : (binOp .eql 57 (.slice a n c) (.slice none 0 0)).run Try.prog w = .ok (.bool a.isNone) w := Lib.run_eql_slice_nil w 57 3 a n c 0 0 Try.underlying57

set_option maxRecDepth 100000 in
set_option maxHeartbeats 1000000 in
theorem pointsC_any (q : Option Addr) (c : Nat) (ps : List Pl) (w : World) (hr : RowP w q ps) (hl : ps.length ≤ 1000) :
    Calls Try.prog 48 #[.slice q ps.length c] w fun e w' => ∃ q c, e = .returned (.slice q ps.length c) ∧ RowP w' q ps ∧ ps.length ≤ c ∧ (∀ a, q = some a → w.heap.size ≤ a.block) ∧ Below w.heap.size w w' := by
  have HR := Lib.hid hr
  clear hr
  go_enter Try.func48, Try.ntmps48
  go_wp2
  go_loopw [3, 4] (fun v i wr => ∃ k : Nat, k ≤ ps.length ∧ i = .int .i64 k ∧ wr.ownsRow w.heap.size 38 2 v (ps.take k).length (flatP (ps.take k)) ∧ Below w.heap.size w wr) (fun _ i _ => ps.length - (intOf i).toNat)
  case atStart => exact ⟨0, Nat.zero_le _, rfl, World.ownsRow_nil _ _ _ _, Below.refl _ _⟩
  case round =>
    obtain ⟨k, hk, rfl, hown, hbel⟩ := hrel
    have HO := Lib.hid hown
    clear hown
    by_cases hlt : k < ps.length
    · obtain ⟨b, off, rfl, hb, h1, h2⟩ := HR.out.at hlt (Nat.le_refl _) hbel
      have hst : ps.take (k + 1) = ps.take k ++ [ps.getD k (0, 0)] := by rw [List.take_succ_eq_append_getElem hlt, getD_eq ps k (0, 0) hlt]
      have hbd : (ps.take k).length ≤ k := List.length_take_le _ _
      generalize ps.getD k (0, 0) = g at *
      generalize ps.take k = out at *
      have HST := Lib.hid hst
      have hsz := hbel.size
      clear hst
      go_wp2_with (at_builtin; refine app_placeR _ rfl (.tmp 11) (.tmp 16) rfl w.heap.size _ _ g rfl (HO.out.alloc _) wr.heap.size 1 rfl (by simp) (by simp) (by omega) (by simp; omega) ?_; intro v' w3 hown3 hgrow hblk)
      have hb3 := grown_below (HO.out.alloc (.cells #[.int .i64 g.1, .int .i64 g.2] 38)) (by simp; omega) hgrow
      go_roundw
      case rel => exact ⟨k + 1, hlt, by go_num, by rw [HST.out]; exact hown3, (hbel.alloc (by omega) _).trans hb3⟩
      case measure => simp [intOf]; omega
    · obtain rfl : k = ps.length := by omega
      have ho := HO.out
      rw [List.take_length] at ho
      have hlo := ho.lt
      obtain ⟨q1, c1, rfl, r1, n1⟩ := owns_capC ho
      have hbk : ∀ a, q1 = some a → w.heap.size ≤ a.block := fun a e => by subst e; exact (hlo a.block rfl).1
      have HBK := Lib.hid hbk
      have R1 := Lib.hid r1
      have N1 := Lib.hid n1
      clear ho HO r1 n1 hlo hbk
      go_wp2
      go_ret
      exact ⟨q1, c1, rfl, R1.out, N1.out, HBK.out, hbel⟩
end Go.Proofs.Ytcalipoknbbaaaa
namespace Go.Proofs.Ytcalipoknbbaaaa
open Go.RowKit
set_option linter.unusedSimpArgs false
set_option linter.unusedVariables false
attribute [local go_sem ↓] equalR nequalR
attribute [local go_sem ↓] sliceR_to sliceR_from eqNil57

theorem corn_get {l : List Pl} (h : RowUp l) {i : Nat} (hi : i < l.length) : rwi (butI l i) (l.getD i (0, 0)) = [] ↔ cornB l i = true := by
  rw [getD_eq l i (0, 0) hi]
  exact rwi_corn h hi
def lenV : Value → Nat
  | .slice _ n _ => n
  | _ => 0

set_option maxRecDepth 100000 in
set_option maxHeartbeats 8000000 in
theorem rHull_any (q : Option Addr) (c : Nat) (l : List Pl) (w : World) (hr : RowP w q l) (hlc : l.length ≤ c) (h : List Pl) (err : Int)
    (hh : (errP l ≠ 0 ∧ h = [] ∧ err = errP l) ∨ (errP l = 0 ∧ err = 0 ∧ IsHull l h)) :
    Calls Try.prog 50 #[.slice q l.length c] w (PlacesErr w (h, err)) := by
  have c1 := rPoints_any q c l w hr
  have C1 := Lib.hid c1
  have HR := Lib.hid hr
  clear c1 hr
  rcases hh with ⟨h0, rfl, rfl⟩ | ⟨h0, rfl, hul⟩
  · have hb : (errP l != 0) = true := by simp [h0]
    clear h0
    go_enter Try.func50, Try.ntmps50
    go_wp2_with (go_at_call 56; have hcc := C1.out; (with_reducible refine hcc.mono ?_); clear hcc; rintro e w1 ⟨rfl, hb1⟩)
    go_ret2
    exact ⟨none, 0, rfl, .inl rfl, hb1⟩
  · have HE := Lib.hid h0
    obtain ⟨o1, o2, o3, o4⟩ := errP_ok h0
    have hin : ∀ r ∈ l, NV.inG r := fun r hr => onG_inG (o3 r hr)
    have hup : RowUp l := ⟨by intro e; rw [e] at o1; simp at o1, o2, hin, errP_lt h0⟩
    obtain ⟨bb, off, hq⟩ : ∃ bb off, q = some ⟨bb, off, none⟩ := by
      rcases HR.out with e | ⟨b, o, e, _⟩
      · rw [e] at o1; simp at o1
      · exact ⟨b, o, e⟩
    subst hq
    have HUP := Lib.hid hup
    have HIG := Lib.hid hin
    have HUL := Lib.hid hul
    clear h0 o3 o4 hin hup hul
    go_enter Try.func50, Try.ntmps50
    go_wp2_with (go_at_call 56; have hcc := C1.out; rw [HE.out] at hcc; (with_reducible refine hcc.mono ?_); clear hcc; rintro e w1 ⟨rfl, hb1⟩)
    have HR1 := Lib.hid (HR.out.below (Nat.le_refl _) hb1)
    have HB1 := Lib.hid hb1
    clear C1 HR hb1
    go_loopw [5, 6] (fun v i wr => ∃ k : Nat, k ≤ l.length ∧ i = .int .i64 k ∧ wr.ownsRow w1.heap.size 38 2 v (cornTo l k).length (flatP (cornTo l k)) ∧ Below w1.heap.size w1 wr) (fun _ i _ => l.length - (intOf i).toNat)
    case atStart => exact ⟨0, Nat.zero_le _, rfl, by rw [cornTo_zero]; exact World.ownsRow_nil _ _ _ _, Below.refl _ _⟩
    case round =>
      obtain ⟨k, hk, rfl, hown, hbel⟩ := hrel
      have HO := Lib.hid hown
      have HBE := Lib.hid hbel
      clear hown hbel
      by_cases hlt : k < l.length
      · have hst := cornTo_succ l k
        have hle := cornTo_le l k
        have hcg := corn_get HUP.out hlt
        obtain ⟨b1, b2, b3⟩ := but_up HUP.out k
        have hpi := HIG.out _ (getD_mem l k (0, 0) hlt)
        obtain ⟨bb2, off2, eq, hbz1, m1, m2⟩ := HR1.out.at hlt (Nat.le_refl _) HBE.out
        have hbz : bb2 < wr.heap.size := Nat.lt_of_lt_of_le hbz1 HBE.out.size
        obtain ⟨rfl, rfl⟩ : bb = bb2 ∧ off = off2 := by simpa using eq
        clear eq
        have hRl : (butI l k).length = k + (l.length - (k + 1)) := by rw [butI, List.length_append, List.length_take, List.length_drop]; omega
        have htk : (l.take k).length = k := by rw [List.length_take]; omega
        have hdr : (l.drop (k + 1)).length = l.length - (k + 1) := List.length_drop
        have hbut : l.take k ++ l.drop (k + 1) = butI l k := rfl
        have rt := fun W (h : RowP W (some ⟨bb, off, none⟩) l) => rowR_to h k hk
        have rf := fun W (h : RowP W (some ⟨bb, off, none⟩) l) => rowR_from (c := c) h k hlt hlc
        have cD := fun (V : World) (q3 : Option Addr) (c3 : Nat) (h : RowP V q3 (butI l k)) => rwithin_any q3 c3 (butI l k) (l.getD k (0, 0)) V h b1 b2 hpi b3
        unfold WiP at cD
        have CD := Lib.hid cD
        generalize l.getD k (0, 0) = p at *
        obtain ⟨xs, hxs⟩ : ∃ xs, rwi (butI l k) p = xs := ⟨_, rfl⟩
        rw [hxs] at CD hcg
        generalize hout : cornTo l k = out at *
        generalize hB : butI l k = B at *
        generalize hT : l.take k = T at *
        generalize hD : l.drop (k + 1) = D at *
        have HST := Lib.hid hst
        have HCG := Lib.hid hcg
        have HBUT := Lib.hid hbut
        have HHB := Lib.hid hRl
        have HTK := Lib.hid htk
        have HDR := Lib.hid hdr
        have RT := Lib.hid rt
        have RF := Lib.hid rf
        have hsz := HBE.out.size
        have hkw : IntKind.i64.wrap ((k : Int) + 1) = (k : Int) + 1 := IntWalk.i64_in _ ⟨by omega, by omega⟩
        have hkc : k ≤ c := by omega
        have hk1 : k + 1 ≤ l.length := hlt
        clear hst hcg b1 b2 b3 hpi hbut hRl htk hdr cD hxs hout hB hT hD rt rf
        go_upto_region 8 with fail
        go_region_held3 (fun _ => True) (exact trivial)
          (first
          | (refine step_plsR _ rfl (.tmp 24) (.tmp 27) rfl wr.heap.size (.slice (some ⟨wr.heap.size, 0, none⟩) 0 0) [] T rfl ?ho ⟨bb, off, none⟩ k c HTK.out rfl ?hr ?hl ?hb ?hk
             case ho => exact (owns_freshR wr).drew
             case hr => exact RT.out _ ((HR1.out.below (Nat.le_refl _) HBE.out).below (Nat.le_refl _) ((Below.refl _ wr).alloc (Nat.le_refl _) (.cells #[] 38)).drew)
             case hl => have := HTK.out; simp; omega
             case hb => simp
             intro v1 w2 hown1 hgr1
             rw [List.nil_append] at hown1
             have hba := ((Below.refl wr.heap.size wr).alloc (Nat.le_refl _) (.cells #[] 38)).drew.trans (grown_below (owns_freshR wr).drew (by simp) hgr1))
          | (refine step_plsR _ rfl (.tmp 28) (.tmp 32) rfl wr.heap.size v1 T D rfl ?ho2 (qloR bb off c k) (l.length - (k + 1)) (c - (k + 1)) HDR.out rfl ?hr2 ?hl2 ?hb2 ?hk2
             case ho2 => exact hown1
             case hr2 => exact RF.out _ ((HR1.out.below (Nat.le_refl _) HBE.out).below (Nat.le_refl _) hba)
             case hl2 => have := HTK.out; have := HDR.out; omega
             case hb2 => exact hba.size
             intro v2 w3 hown2 hgr2
             rw [HBUT.out] at hown2
             have hbb := hba.trans (grown_below hown1 hba.size hgr2)
             obtain ⟨q3, c3, rfl, r3⟩ := rowP_of_owns hown2)
          | fail)
        have R3 := Lib.hid r3
        have HO3 := Lib.hid (owns_below HO.out (Nat.le_refl _) hbb)
        have HBB := Lib.hid hbb
        have k1 := (hbb.cell (p := ⟨bb, off + k * 2, none⟩) hbz).trans m1
        have k2 := (hbb.cell (p := ⟨bb, off + k * 2 + 1, none⟩) hbz).trans m2
        have hz3 : bb < w3.heap.size := Nat.lt_of_lt_of_le hbz hbb.size
        clear r3 hown1 hgr1 hba hown2 hgr2 m1 m2 hkw
        by_cases hy : cornB l k = true
        · have hx0 : xs = [] := HCG.out.2 hy
          have e1 := HST.out
          rw [if_pos hy] at e1
          have E1 := Lib.hid e1
          subst hx0
          clear hy e1
          go_wp2_with (first
            | (go_at_call 118; have hcc := CD.out w3 q3 c3 R3.out; (with_reducible refine hcc.mono ?_); clear hcc; rintro e w4 ⟨q4, c4, rfl, _, hn4, hb4⟩; obtain rfl := hn4 rfl; have n1 := (hb4.cell (p := ⟨bb, off + k * 2, none⟩) hz3).trans k1; have n2 := (hb4.cell (p := ⟨bb, off + k * 2 + 1, none⟩) hz3).trans k2; have HO4 := Lib.hid (owns_below HO3.out (Nat.le_refl _) hb4); have HB4 := Lib.hid (HBB.out.trans (hb4.mono HBB.out.size)); have hs4 := HB4.out.size; clear hb4 hn4)
            | (at_builtin; refine app_placeR _ rfl (.tmp 41) (.tmp 46) rfl w1.heap.size _ out p rfl (HO4.out.alloc _) w4.heap.size 1 rfl (by simp) (by simp) (by omega) (by simp; omega) ?_; intro v5 w5 hown5 hgr5 hblk5))
          have hb5 := grown_below (HO4.out.alloc (.cells #[.int .i64 p.1, .int .i64 p.2] 38)) (by simp; omega) hgr5
          have hbn := ((HBE.out.trans (HB4.out.mono HBE.out.size)).alloc (by omega) (.cells #[.int .i64 p.1, .int .i64 p.2] 38)).trans hb5
          go_roundw
          case rel => exact ⟨k + 1, hlt, by go_num, by rw [E1.out]; exact hown5, hbn⟩
          case measure => simp [intOf]; omega
        · have hx0 : xs ≠ [] := fun e => hy (HCG.out.1 e)
          have e1 := HST.out
          rw [if_neg hy, List.append_nil] at e1
          have E1 := Lib.hid e1
          have HX0 := Lib.hid hx0
          clear hy e1 hx0
          go_wp2_with (first
            | (go_at_call 118; have hcc := CD.out w3 q3 c3 R3.out; (with_reducible refine hcc.mono ?_); clear hcc; rintro e w4 ⟨q4, c4, rfl, hi4, _, hb4⟩; obtain ⟨a4, rfl⟩ : ∃ a4, q4 = some a4 := (by rcases hi4 with h | ⟨b, o, h, _⟩; exact absurd h HX0.out; exact ⟨_, h⟩); have HO4 := Lib.hid (owns_below HO3.out (Nat.le_refl _) hb4); have HB4 := Lib.hid (HBB.out.trans (hb4.mono HBB.out.size)); clear hb4 hi4))
          go_roundw
          case rel => exact ⟨k + 1, hlt, by go_num, by rw [E1.out]; exact HO4.out, HBE.out.trans (HB4.out.mono HBE.out.size)⟩
          case measure => simp [intOf]; omega
      · obtain rfl : k = l.length := by omega
        have hco := hull_corners HUP.out HUL.out
        have hmm : ∀ p, p ∈ cornTo l l.length ↔ p ∈ h := fun p => by rw [mem_corn HUP.out, hco.mem]
        have hlen : (cornTo l l.length).length = h.length := by
          obtain ⟨f, r, t, hfr, hperm, _, rfl⟩ := HUL.out
          rw [hfr, List.length_cons, List.length_cons, hperm.length_eq]
        have hhd : (cornTo l l.length).getD 0 (0, 0) = h.getD 0 (0, 0) := by
          obtain ⟨f, r, t, hfr, hperm, _, rfl⟩ := HUL.out
          rw [hfr]; rfl
        have hci : ∀ x ∈ cornTo l l.length, NV.inG x := fun x hx => HIG.out x ((mem_corn HUP.out x).1 hx).1
        have hhi : ∀ x ∈ h, NV.inG x := fun x hx => hci x ((hmm x).2 hx)
        have hpos := hco.pos
        have hle := hco.le
        obtain ⟨qC, cC, rfl, rC⟩ := rowP_of_owns HO.out
        have nx := fun m hm x hx => nxt_iff (m := m) (x := x) hco hmm hm hx
        have hin2 : ∀ m, m < h.length → h.getD m (0, 0) ∈ cornTo l l.length := fun m hm => (hmm _).2 (getD_mem h m (0, 0) hm)
        generalize cornTo l l.length = C at *
        rw [← hlen] at hle
        have hpC : 0 < C.length := by omega
        obtain ⟨bc, oc, rfl, hbc, n1, n2⟩ := rC.at (k := 0) (by omega) (Nat.le_refl _) (Below.refl _ wr)
        rw [hhd] at n1 n2
        have t1 : h.take 1 = [h.getD 0 (0, 0)] := by
          match h, hpos with
          | f :: t, _ => rfl
        clear hpos
        have HLEN := Lib.hid hlen
        have n1' : wr.cell? ⟨bc, oc, none⟩ = some (.int .i64 (h.getD 0 (0, 0)).1) := by simpa using n1
        have n2' : wr.cell? ⟨bc, oc + 1, none⟩ = some (.int .i64 (h.getD 0 (0, 0)).2) := by simpa using n2
        generalize h.getD 0 (0, 0) = f at *
        have RC := Lib.hid rC
        have NX := Lib.hid nx
        have IN2 := Lib.hid hin2
        have HCI := Lib.hid hci
        have HHI := Lib.hid hhi
        have T1 := Lib.hid t1
        have hcI : (0 : Int) < (C.length : Int) := by omega
        have HBW := Lib.hid (HB1.out.trans (HBE.out.mono HB1.out.size))
        clear hco hmm hhd hci hhi rC nx hin2 n1 n2 t1 HO HBE hlen
        go_wp2
        clear n1' n2'
        obtain ⟨w2, rfl⟩ : ∃ w2 : World, w2 = wr := ⟨_, rfl⟩
        go_loopw [8] (fun v wv => ∃ m : Nat, 1 ≤ m ∧ m ≤ C.length ∧ wv.ownsRow w2.heap.size 38 2 v (h.take m).length (flatP (h.take m)) ∧ Below w2.heap.size w2 wv) (fun v _ => C.length - lenV v)
        case atStart => exact ⟨1, Nat.le_refl _, hpC, by rw [T1.out]; exact owns_oneR w2 f, (Below.refl _ _).alloc (Nat.le_refl _) _⟩
        case round =>
          obtain ⟨wv, rfl⟩ : ∃ wv : World, wv = wr := ⟨_, rfl⟩
          obtain ⟨m, hm1, hm2, hown, hbel⟩ := hrel
          have htm : (h.take m).length = m := by have := HLEN.out; rw [List.length_take]; omega
          obtain ⟨q8, c8, rfl, r8⟩ := rowP_of_owns hown
          have HO8 := Lib.hid hown
          have HB8 := Lib.hid hbel
          clear hown hbel
          by_cases hlt : m < C.length
          · obtain ⟨mi, hmi⟩ : ∃ mi : Nat, mi + 1 = m := ⟨m - 1, by omega⟩
            have hlh : m < h.length := by have := HLEN.out; omega
            obtain ⟨b8, o8, rfl, hb8, e1, e2⟩ := r8.at (k := mi) (by omega) (Nat.le_refl _) (Below.refl _ _)
            have hga : (h.take m).getD mi (0, 0) = h.getD mi (0, 0) := by
              rw [getD_eq _ mi (0, 0) (by omega), getD_eq _ mi (0, 0) (by omega), List.getElem_take]
            rw [hga] at e1 e2
            have nx := NX.out mi (by omega)
            have hnin := IN2.out (mi + 1) (by omega)
            have hai := HHI.out _ (getD_mem h mi (0, 0) (by omega))
            have hts : h.take (m + 1) = h.take m ++ [h.getD (mi + 1) (0, 0)] := by rw [List.take_succ_eq_append_getElem hlh, getD_eq h (mi + 1) (0, 0) (by omega)]; congr 3; simp only [hmi]
            generalize h.getD mi (0, 0) = a at *
            generalize h.getD (mi + 1) (0, 0) = y at *
            generalize h.take m = out at *
            have hmw : IntKind.i64.wrap ((m : Int) - 1) = (mi : Int) := by rw [IntWalk.i64_in _ ⟨by omega, by omega⟩]; omega
            have hmI : (mi : Int) < (m : Int) := by omega
            have hmc : (m : Int) < (C.length : Int) := by omega
            have NXM := Lib.hid nx
            have HNI := Lib.hid hnin
            have HTS := Lib.hid hts
            have HTM := Lib.hid htm
            have HAI := Lib.hid hai
            clear nx hnin hts hai hga r8 hlh
            rw [htm]
            clear htm
            go_wp2
            have hb3 : Below w2.heap.size w2 (wv.alloc (.cells #[.int .i64 a.1, .int .i64 a.2] 38)) := HB8.out.alloc HB8.out.size _
            have ho3 : (wv.alloc (.cells #[.int .i64 a.1, .int .i64 a.2] 38)).ownsRow w2.heap.size 38 2 (.slice (some ⟨b8, o8, none⟩) m c8) out.length (flatP out) := by have h := HO8.out.alloc (.cells #[.int .i64 a.1, .int .i64 a.2] 38); have e := HTM.out; rw [e] at h ⊢; exact h
            have g0 : (wv.alloc (.cells #[.int .i64 a.1, .int .i64 a.2] 38)).cell? ⟨wv.heap.size, 0, none⟩ = some (.int .i64 a.1) := by simp
            have g1 : (wv.alloc (.cells #[.int .i64 a.1, .int .i64 a.2] 38)).cell? ⟨wv.heap.size, 1, none⟩ = some (.int .i64 a.2) := by simp
            have hzw : wv.heap.size < (wv.alloc (.cells #[.int .i64 a.1, .int .i64 a.2] 38)).heap.size := by simp
            clear e1 e2
            generalize (wv.alloc (.cells #[.int .i64 a.1, .int .i64 a.2] 38)) = W3 at *
            generalize wv.heap.size = bx at *
            have HB3 := Lib.hid hb3
            have HO3 := Lib.hid ho3
            have HG0 := Lib.hid g0
            have HG1 := Lib.hid g1
            clear hb3 ho3 g0 g1 HO8 HB8
            go_loopw [8, 10] (fun v i wy => ∃ j : Nat, j ≤ C.length ∧ i = .int .i64 j ∧ v = .slice (some ⟨b8, o8, none⟩) m c8 ∧ (∀ x ∈ C.take j, nxt C a x = false) ∧ Below W3.heap.size W3 wy) (fun _ i _ => C.length - (intOf i).toNat)
            case atStart => exact ⟨0, Nat.zero_le _, rfl, rfl, by simp, Below.refl _ _⟩
            case round =>
              obtain ⟨wy, rfl⟩ : ∃ wy : World, wy = wr := ⟨_, rfl⟩
              obtain ⟨j, hj, rfl, rfl, hno, hbel⟩ := hrel
              have HNO := Lib.hid hno
              have HBY := Lib.hid hbel
              clear hno hbel
              by_cases hlj : j < C.length
              · have hxm := getD_mem C j (0, 0) hlj
                have hxn := NXM.out _ hxm
                have hxi := HCI.out _ hxm
                have hts2 : C.take (j + 1) = C.take j ++ [C.getD j (0, 0)] := by rw [List.take_succ_eq_append_getElem hlj, getD_eq C j (0, 0) hlj]
                obtain ⟨b9, o9, e9, hb9, x1, x2⟩ := RC.out.at hlj (Nat.le_refl _) (HB3.out.trans (HBY.out.mono HB3.out.size))
                obtain ⟨rfl, rfl⟩ : bc = b9 ∧ oc = o9 := by simpa using e9
                have y0 := (HBY.out.cell (p := ⟨bx, 0, none⟩) hzw).trans HG0.out
                have y1 := (HBY.out.cell (p := ⟨bx, 1, none⟩) hzw).trans HG1.out
                obtain ⟨x, hxe⟩ : ∃ x, C.getD j (0, 0) = x := ⟨_, rfl⟩
                rw [hxe] at hxm hxn hxi hts2 x1 x2
                have HXE := Lib.hid hxe
                have hjI : (j : Int) < (C.length : Int) := by omega
                have HXN := Lib.hid hxn
                have HXI := Lib.hid hxi
                have HT2 := Lib.hid hts2
                clear hxm hxn hxi hts2 e9 hxe
                go_upto_region 17 with fail
                go_quiet (fail)
                go_wp2
                clear x1 x2 y0 y1
                go_loopw [11, 12] (fun b i wz => ∃ k2 : Nat, k2 ≤ C.length ∧ i = .int .i64 k2 ∧ b = .bool (nxtK C a x k2) ∧ Below W3.heap.size W3 wz) (fun _ i _ => C.length - (intOf i).toNat)
                case atStart => exact ⟨0, Nat.zero_le _, rfl, by rw [nxtK_zero], below_drewN HBY.out _⟩
                case round =>
                  clear HBY
                  obtain ⟨wz, rfl⟩ : ∃ wz : World, wz = wr := ⟨_, rfl⟩
                  obtain ⟨k2, hk2, rfl, rfl, hbel⟩ := hrel
                  have HBZ := Lib.hid hbel
                  clear hbel
                  by_cases hlk : k2 < C.length
                  · have hst := nxtK_succ C a x k2 hlk
                    have hzi := HCI.out _ (getD_mem C k2 (0, 0) hlk)
                    obtain ⟨b9, o9, e9, hb9, m4, m5⟩ := RC.out.at hlk (Nat.le_refl _) (HB3.out.trans (HBZ.out.mono HB3.out.size))
                    obtain ⟨rfl, rfl⟩ : bc = b9 ∧ oc = o9 := by simpa using e9
                    obtain ⟨b9, o9, e9, _, m2, m3⟩ := RC.out.at hlj (Nat.le_refl _) (HB3.out.trans (HBZ.out.mono HB3.out.size))
                    obtain ⟨rfl, rfl⟩ : bc = b9 ∧ oc = o9 := by simpa using e9
                    rw [HXE.out] at m2 m3
                    have m0 := (HBZ.out.cell (p := ⟨bx, 0, none⟩) hzw).trans HG0.out
                    have m1 := (HBZ.out.cell (p := ⟨bx, 1, none⟩) hzw).trans HG1.out
                    have hzx : bx < wz.heap.size := Nat.lt_of_lt_of_le hzw HBZ.out.size
                    have hzc : bc < wz.heap.size := Nat.lt_of_lt_of_le hb9 (Nat.le_trans HB3.out.size HBZ.out.size)
                    generalize C.getD k2 (0, 0) = z at *
                    obtain ⟨S, hS⟩ : ∃ S, turnP a x z = S := ⟨_, rfl⟩
                    have cS := fun W => rside_any a x z W (inG_ok HAI.out) (inG_ok HXI.out) (inG_ok hzi)
                    rw [hS] at cS hst
                    have CS := Lib.hid cS
                    have hkI : (k2 : Int) < (C.length : Int) := by omega
                    clear e9 hzi hS cS
                    cases hN : nxtK C a x k2 with
                    | false =>
                      rw [hN, Bool.false_and] at hst
                      have HST := Lib.hid hst
                      clear hst hN
                      go_upto_region 21 with fail
                      go_quiet (fail)
                      go_wp2
                      go_roundw
                      case rel => exact ⟨k2 + 1, hlk, by go_num, by rw [HST.out], below_drewN HBZ.out _⟩
                      case measure => simp [intOf]; omega
                    | true =>
                      rw [hN, Bool.true_and] at hst
                      have HST := Lib.hid hst
                      clear hst hN
                      have n0 : wz.drew.cell? ⟨bx, 0, none⟩ = some (.int .i64 a.1) := m0
                      have n1 : wz.drew.cell? ⟨bx, 1, none⟩ = some (.int .i64 a.2) := m1
                      have n2 : wz.drew.cell? ⟨bc, oc + j * 2, none⟩ = some (.int .i64 x.1) := m2
                      have n3 : wz.drew.cell? ⟨bc, oc + j * 2 + 1, none⟩ = some (.int .i64 x.2) := m3
                      have n4 : wz.drew.cell? ⟨bc, oc + k2 * 2, none⟩ = some (.int .i64 z.1) := m4
                      have n5 : wz.drew.cell? ⟨bc, oc + k2 * 2 + 1, none⟩ = some (.int .i64 z.2) := m5
                      go_upto_region 21 with fail
                      go_region_held3 (fun W => W.cell? ⟨bx, 0, none⟩ = some (.int .i64 a.1) ∧ W.cell? ⟨bx, 1, none⟩ = some (.int .i64 a.2) ∧ W.cell? ⟨bc, oc + j * 2, none⟩ = some (.int .i64 x.1) ∧ W.cell? ⟨bc, oc + j * 2 + 1, none⟩ = some (.int .i64 x.2) ∧ W.cell? ⟨bc, oc + k2 * 2, none⟩ = some (.int .i64 z.1) ∧ W.cell? ⟨bc, oc + k2 * 2 + 1, none⟩ = some (.int .i64 z.2)) (first | exact ⟨m0, m1, m2, m3, m4, m5⟩ | exact ⟨n0, n1, n2, n3, n4, n5⟩ | exact ⟨d0, d1, d2, d3, d4, d5⟩ | go_keep)
                        (first | (go_at_call 119; have hcc := CS.out wz.drew; (with_reducible refine hcc.mono ?_); clear hcc; rintro e V ⟨rfl, hbs⟩; have d0 := (hbs.cell (p := ⟨bx, 0, none⟩) hzx).trans n0; have d1 := (hbs.cell (p := ⟨bx, 1, none⟩) hzx).trans n1; have d2 := (hbs.cell (p := ⟨bc, oc + j * 2, none⟩) hzc).trans n2; have d3 := (hbs.cell (p := ⟨bc, oc + j * 2 + 1, none⟩) hzc).trans n3; have d4 := (hbs.cell (p := ⟨bc, oc + k2 * 2, none⟩) hzc).trans n4; have d5 := (hbs.cell (p := ⟨bc, oc + k2 * 2 + 1, none⟩) hzc).trans n5) | fail)
                      all_goals
                        clear m0 m1 m2 m3 m4 m5 n0 n1 n2 n3 n4 n5 d0 d1 d2 d3 d4 d5
                        go_wp2
                        go_roundw
                      case rel => exact ⟨k2 + 1, hlk, by go_num, by rw [HST.out], (below_drewN HBZ.out 1).trans (hbs.mono HBZ.out.size)⟩
                      case measure => simp [intOf]; omega
                  · obtain rfl : k2 = C.length := by omega
                    rw [nxtK_all]
                    obtain ⟨b9, o9, e9, hb9, m2, m3⟩ := RC.out.at hlj (Nat.le_refl _) (HB3.out.trans (HBZ.out.mono HB3.out.size))
                    obtain ⟨rfl, rfl⟩ : bc = b9 ∧ oc = o9 := by simpa using e9
                    rw [HXE.out] at m2 m3
                    have HO9 := Lib.hid (owns_below HO3.out (Nat.le_refl _) HBZ.out)
                    have hs9 : w2.heap.size ≤ wz.heap.size := Nat.le_trans HB3.out.size HBZ.out.size
                    have hml : out.length ≤ 1000000 := by have := HTM.out; omega
                    clear e9
                    cases hn : nxt C a x with
                    | true =>
                      have hxy : x = y := HXN.out.1 hn
                      subst hxy
                      clear hn
                      go_wp2_with (at_builtin; refine app_placeR _ rfl (.tmp 96) (.tmp 101) rfl w2.heap.size _ out x rfl (HO9.out.alloc _) wz.heap.size 1 rfl (by simp) (by simp) (by omega) (by simp; omega) ?_; intro v5 w5 hown5 hgr5 hblk5)
                      have hb5 := grown_below (HO9.out.alloc (.cells #[.int .i64 x.1, .int .i64 x.2] 38)) (by simp; omega) hgr5
                      have hbn := ((HB3.out.trans (HBZ.out.mono HB3.out.size)).alloc hs9 (.cells #[.int .i64 x.1, .int .i64 x.2] 38)).trans hb5
                      obtain ⟨q5, c5, rfl, _⟩ := rowP_of_owns hown5
                      go_roundw
                      case rel => exact ⟨m + 1, by omega, by omega, by rw [HTS.out]; exact hown5, hbn⟩
                      case measure => have := HTM.out; simp [lenV]; omega
                    | false =>
                      have hno : ∀ x' ∈ C.take (j + 1), nxt C a x' = false := by
                        intro x' hx'
                        rw [HT2.out] at hx'
                        rcases List.mem_append.1 hx' with h | h
                        · exact HNO.out _ h
                        · obtain rfl := List.mem_singleton.1 h
                          exact hn
                      have HNO2 := Lib.hid hno
                      clear hn hno m2 m3
                      go_wp2
                      go_roundw
                      case rel => exact ⟨j + 1, hlj, by go_num, rfl, HNO2.out, HBZ.out⟩
                      case measure => simp [intOf]; omega
              · exfalso
                obtain rfl : j = C.length := by omega
                have e1 := (NXM.out y HNI.out).2 rfl
                have e2 := HNO.out y (by rw [List.take_length]; exact HNI.out)
                rw [e1] at e2
                cases e2
          · have hmC : m = C.length := by omega
            have htk : h.take m = h := List.take_of_length_le (by have := HLEN.out; omega)
            rw [htm, hmC]
            rw [htk] at r8
            have R8 := Lib.hid r8
            clear htm r8 HO8 htk
            go_wp2
            go_ret2
            exact ⟨q8, c8, by rw [← HLEN.out]; rfl, R8.out, HBW.out.trans (HB8.out.mono HBW.out.size)⟩
end Go.Proofs.Ytcalipoknbbaaaa
namespace Go.Proofs.Ytcalipoknbbaaaa
open Go.RowKit
set_option linter.unusedSimpArgs false
set_option linter.unusedVariables false

set_option maxRecDepth 100000 in
set_option maxHeartbeats 4000000 in
theorem rApart_any (q : Option Addr) (cap : Nat) (l : List Pl) (p : Pl) (w : World) (hr : RowP w q l) :
    Calls Try.prog 54 #[.slice q l.length cap, .agg #[.int .i64 p.1, .int .i64 p.2]] w fun e w' => e = .returned (.tuple #[.agg #[.int .i64 (apartOf l p).1.1, .int .i64 (apartOf l p).1.2.1, .int .i64 (apartOf l p).1.2.2], .int .i64 (apartOf l p).2]) ∧ Below w.heap.size w w' := by
  obtain ⟨p1, p2⟩ := p
  have hb0 := below_two w (.cells #[.int .i64 p1, .int .i64 p2] 38) (.cells #[.int .i64 0, .int .i64 0, .int .i64 0] 47)
  have hr' := hr.below (Nat.le_refl _) hb0
  have c1 := rasked_any q cap l (p1, p2) _ hr'
  have C1 := Lib.hid c1
  have HR := Lib.hid hr'
  have hz3 : Cell3 ((w.alloc (.cells #[.int .i64 p1, .int .i64 p2] 38)).alloc (.cells #[.int .i64 0, .int .i64 0, .int .i64 0] 47)) (w.heap.size + 1) (.int .i64 0) (.int .i64 0) (.int .i64 0) := ⟨by simp, by simp, by simp, by simp, by simp, by simp, by simp⟩
  have HZ := Lib.hid hz3
  have HB0 := Lib.hid hb0
  clear c1 hr' hb0 hz3 hr
  obtain ⟨F, hF⟩ : ∃ F, errPP l (p1, p2) = F := ⟨_, rfl⟩
  have HF := Lib.hid hF
  by_cases h0 : F = 0
  · subst h0
    obtain ⟨e1, e2⟩ := errPP_ok hF
    obtain ⟨o1, o2, o3, o4⟩ := errP_ok e1
    have hin : ∀ r ∈ l, NV.inG r := fun r hr => onG_inG (o3 r hr)
    have hup : RowUp l := ⟨by intro e; rw [e] at o1; simp at o1, o2, hin, errP_lt e1⟩
    have HUP := Lib.hid hup
    have HIG := Lib.hid hin
    have HP := Lib.hid (onG_inG e2)
    obtain ⟨ga, gb, gc, ge, hA⟩ : ∃ ga gb gc ge, apartOf l (p1, p2) = ((ga, gb, gc), ge) := ⟨_, _, _, _, rfl⟩
    have HA := Lib.hid hA
    rw [hA]
    clear hF e1 e2 o3 o4 hin hup hA
    go_enter Try.func54, Try.ntmps54
    go_wp2_with (go_at_call 124; have hcc := C1.out; rw [HF.out] at hcc; (with_reducible refine hcc.mono ?_); clear hcc; rintro e w1 ⟨rfl, hb1⟩; have hz0 : w.heap.size + 1 < w1.heap.size := (by have := hb1.size; simp at this; omega))
    have HZ1 := Lib.hid (HZ.out.below hb1)
    have HR1 := Lib.hid (HR.out.below (Nat.le_refl _) hb1)
    have HB1 := Lib.hid (al0 HB0.out hb1 (by simp <;> omega))
    have b0 : w1.cell? ⟨w.heap.size, 0, none⟩ = some (.int .i64 p1) := ((bcell hb1).1 _ _ (by simp <;> omega)).trans (by simp)
    have b1 : w1.cell? ⟨w.heap.size, 1, none⟩ = some (.int .i64 p2) := ((bcell hb1).1 _ _ (by simp <;> omega)).trans (by simp)
    have K0 := Lib.hid b0
    have K1 := Lib.hid b1
    clear C1 HR HB0 HZ hb1 b0 b1
    go_loopw [7] (fun a wr => ∃ i : Nat, i ≤ 19 ∧ a = .int .i64 (-9 + i) ∧ NoneS l (p1, p2) i 0 ∧ Below w1.heap.size w1 wr) (fun a _ => (20 - intOf a).toNat)
    case atStart => exact ⟨0, by omega, rfl, NoneS.zero _ _, Below.refl _ _⟩
    case round =>
      obtain ⟨i, hi, rfl, hno, hbel⟩ := hrel
      have HB := Lib.hid hbel
      have HNO := Lib.hid hno
      clear hbel hno
      by_cases hi19 : i < 19
      · have ha9 : (-9 : Int) + i ≤ 9 := by omega
        go_wp2
        go_loopw [8] (fun b wr => ∃ j : Nat, j ≤ 19 ∧ b = .int .i64 (-9 + j) ∧ NoneS l (p1, p2) i j ∧ Below w1.heap.size w1 wr) (fun b _ => (20 - intOf b).toNat)
        case atStart => exact ⟨0, by omega, rfl, HNO.out, HB.out⟩
        case round =>
          clear HB HNO
          obtain ⟨j, hj, rfl, hno, hbel⟩ := hrel
          have HB := Lib.hid hbel
          have HNO := Lib.hid hno
          clear hbel hno
          by_cases hj19 : j < 19
          · have hb9 : (-9 : Int) + j ≤ 9 := by omega
            have hsm : small 9 (-9 + (i : Int)) ∧ small 9 (-9 + (j : Int)) := ⟨⟨by omega, by omega⟩, ⟨by omega, by omega⟩⟩
            have HSM := Lib.hid hsm
            clear hsm
            obtain ⟨bl, ol, rfl, hbl, r1, r2⟩ := HR1.out.at (k := 0) o1 (Nat.le_refl _) HB.out
            have hmx := mxE_succ (-9 + (i : Int), -9 + (j : Int)) l 0 o1
            have hin := HIG.out _ (getD_mem l 0 (0, 0) o1)
            generalize l.getD 0 (0, 0) = z at *
            obtain ⟨z1, z2⟩ := z
            obtain ⟨⟨g3, g4⟩, g5, g6⟩ := hin
            dsimp only at hmx g3 g4 g5 g6 r1 r2
            have r1' : wr.cell? ⟨bl, ol, none⟩ = some (.int .i64 z1) := by simpa using r1
            have r2' : wr.cell? ⟨bl, ol + 1, none⟩ = some (.int .i64 z2) := by simpa using r2
            obtain ⟨sm1, sm2⟩ := HSM.out
            have n1 := mul_small (a := 9) (b := 6) (x := -9 + (i : Int)) (y := z1) sm1 ⟨by omega, by omega⟩
            have n2 := mul_small (a := 9) (b := 6) (x := -9 + (j : Int)) (y := z2) sm2 ⟨by omega, by omega⟩
            obtain ⟨n11, n12⟩ := n1
            obtain ⟨n21, n22⟩ := n2
            clear sm1 sm2 r1 r2
            obtain ⟨t1, ht1⟩ : ∃ t1, (-9 + (i : Int)) * z1 = t1 := ⟨_, rfl⟩
            obtain ⟨t2, ht2⟩ : ∃ t2, (-9 + (j : Int)) * z2 = t2 := ⟨_, rfl⟩
            obtain ⟨t3, ht3⟩ : ∃ t3, t1 + t2 = t3 := ⟨_, rfl⟩
            rw [ht1] at n11 n12 hmx
            rw [ht2] at n21 n22 hmx
            rw [ht3] at hmx
            have hc1 : mxE (-9 + (i : Int), -9 + (j : Int)) (l.take 1) = t3 := by
              rw [hmx, List.take_zero]
              show max (-1000) t3 = t3
              omega
            have f1 : IntKind.i64.wrap ((-9 + (i : Int)) * z1) = t1 := by rw [ht1, IntWalk.i64_in _ ⟨by omega, by omega⟩]
            have f2 : IntKind.i64.wrap ((-9 + (j : Int)) * z2) = t2 := by rw [ht2, IntWalk.i64_in _ ⟨by omega, by omega⟩]
            have f3 : IntKind.i64.wrap (t1 + t2) = t3 := by rw [ht3, IntWalk.i64_in _ ⟨by omega, by omega⟩]
            have HC1 := Lib.hid hc1
            have o1I : (0 : Int) < (l.length : Int) := by omega
            clear hmx ht1 ht2 ht3 n11 n12 n21 n22 g3 g4 g5 g6 hc1
            go_upto_region 10 with fail
            go_quiet (fail)
            go_wp2
            clear r1' r2' f1 f2 f3
            go_loopw [9, 10] (fun v t wr => ∃ k : Nat, k ≤ l.length ∧ 1 ≤ k ∧ t = .int .i64 k ∧ v = .int .i64 (mxE (-9 + (i : Int), -9 + (j : Int)) (l.take k)) ∧ Below w1.heap.size w1 wr) (fun _ t _ => l.length - (intOf t).toNat)
            case atStart => exact ⟨1, o1, Nat.le_refl _, rfl, by rw [HC1.out], below_drewN HB.out _⟩
            case round =>
              clear HB HC1
              obtain ⟨k, hk, hk1, rfl, rfl, hbel⟩ := hrel
              have HB := Lib.hid hbel
              clear hbel
              by_cases hlk : k < l.length
              · obtain ⟨m1, m2⟩ := (HR1.out.below (Nat.le_refl _) HB.out).cell (k := k) hlk
                have hmx := mxE_succ (-9 + (i : Int), -9 + (j : Int)) l k hlk
                have hin := HIG.out _ (getD_mem l k (0, 0) hlk)
                generalize l.getD k (0, 0) = z at *
                obtain ⟨z1, z2⟩ := z
                obtain ⟨⟨g3, g4⟩, g5, g6⟩ := hin
                dsimp only at hmx g3 g4 g5 g6 m1 m2
                obtain ⟨sm1, sm2⟩ := HSM.out
                have n1 := mul_small (a := 9) (b := 6) (x := -9 + (i : Int)) (y := z1) sm1 ⟨by omega, by omega⟩
                have n2 := mul_small (a := 9) (b := 6) (x := -9 + (j : Int)) (y := z2) sm2 ⟨by omega, by omega⟩
                obtain ⟨n11, n12⟩ := n1
                obtain ⟨n21, n22⟩ := n2
                clear sm1 sm2
                obtain ⟨t1, ht1⟩ : ∃ t1, (-9 + (i : Int)) * z1 = t1 := ⟨_, rfl⟩
                obtain ⟨t2, ht2⟩ : ∃ t2, (-9 + (j : Int)) * z2 = t2 := ⟨_, rfl⟩
                obtain ⟨t3, ht3⟩ : ∃ t3, t1 + t2 = t3 := ⟨_, rfl⟩
                rw [ht1] at n11 n12 hmx
                rw [ht2] at n21 n22 hmx
                rw [ht3] at hmx
                have f1 : IntKind.i64.wrap ((-9 + (i : Int)) * z1) = t1 := by rw [ht1, IntWalk.i64_in _ ⟨by omega, by omega⟩]
                have f2 : IntKind.i64.wrap ((-9 + (j : Int)) * z2) = t2 := by rw [ht2, IntWalk.i64_in _ ⟨by omega, by omega⟩]
                have f3 : IntKind.i64.wrap (t1 + t2) = t3 := by rw [ht3, IntWalk.i64_in _ ⟨by omega, by omega⟩]
                obtain ⟨q1, q2⟩ := mxE_bd (s := (-9 + (i : Int), -9 + (j : Int))) HSM.out (l := l.take k) (fun r hr => HIG.out r (List.mem_of_mem_take hr))
                generalize mxE (-9 + (i : Int), -9 + (j : Int)) (l.take k) = M at *
                have HMX := Lib.hid hmx
                have hkI : (k : Int) < (l.length : Int) := by omega
                clear hmx ht1 ht2 ht3 g3 g4 g5 g6
                go_upto_region 14 with fail
                go_quiet (fail)
                go_wp2
                go_roundw
                case rel => exact ⟨k + 1, hlk, by omega, by go_num, by rw [HMX.out]; first | rfl | (congr 1; omega) | trace_state, below_drewN HB.out _⟩
                case measure => simp [intOf]; omega
              · obtain rfl : k = l.length := by omega
                rw [List.take_length]
                obtain ⟨q1, q2⟩ := mxE_bd (s := (-9 + (i : Int), -9 + (j : Int))) HSM.out HIG.out
                have htl := tells_one (p := (p1, p2)) (s := (-9 + (i : Int), -9 + (j : Int))) HUP.out HSM.out
                have hms := mxE_sup (s := (-9 + (i : Int), -9 + (j : Int))) HUP.out.1 HIG.out HSM.out
                generalize mxE (-9 + (i : Int), -9 + (j : Int)) l = M at *
                have m1 := (HB.out.cell (p := ⟨w.heap.size, 0, none⟩) (show w.heap.size < w1.heap.size by omega)).trans K0.out
                have m2 := (HB.out.cell (p := ⟨w.heap.size, 1, none⟩) (show w.heap.size < w1.heap.size by omega)).trans K1.out
                obtain ⟨y0, y1, y2, y3, y4, y5, y6⟩ := HZ1.out.below HB.out
                obtain ⟨⟨g3, g4⟩, g5, g6⟩ := HP.out
                obtain ⟨sm1, sm2⟩ := HSM.out
                dsimp only at g3 g4 g5 g6 htl
                have n1 := mul_small (a := 9) (b := 6) (x := -9 + (i : Int)) (y := p1) sm1 ⟨by omega, by omega⟩
                have n2 := mul_small (a := 9) (b := 6) (x := -9 + (j : Int)) (y := p2) sm2 ⟨by omega, by omega⟩
                obtain ⟨n11, n12⟩ := n1
                obtain ⟨n21, n22⟩ := n2
                clear sm1 sm2
                obtain ⟨t1, ht1⟩ : ∃ t1, (-9 + (i : Int)) * p1 = t1 := ⟨_, rfl⟩
                obtain ⟨t2, ht2⟩ : ∃ t2, (-9 + (j : Int)) * p2 = t2 := ⟨_, rfl⟩
                obtain ⟨t3, ht3⟩ : ∃ t3, t1 + t2 = t3 := ⟨_, rfl⟩
                rw [ht1] at n11 n12 htl
                rw [ht2] at n21 n22 htl
                rw [ht3] at htl
                have f1 : IntKind.i64.wrap ((-9 + (i : Int)) * p1) = t1 := by rw [ht1, IntWalk.i64_in _ ⟨by omega, by omega⟩]
                have f2 : IntKind.i64.wrap ((-9 + (j : Int)) * p2) = t2 := by rw [ht2, IntWalk.i64_in _ ⟨by omega, by omega⟩]
                have f3 : IntKind.i64.wrap (t1 + t2) = t3 := by rw [ht3, IntWalk.i64_in _ ⟨by omega, by omega⟩]
                clear ht1 ht2 ht3 n11 n12 n21 n22 g3 g4 g5 g6 q1 q2
                by_cases hlt : M < t3
                · have hfind := HNO.out.hit HUP.out.1 hi19 hj19 (by rw [htl]; exact decide_eq_true hlt)
                  obtain ⟨ha, _⟩ := apart_yes HUP.out HP.out hfind
                  rw [HA.out, galOf, ← hms] at ha
                  simp only [Prod.mk.injEq] at ha
                  obtain ⟨⟨rfl, rfl, rfl⟩, rfl⟩ := ha
                  clear hfind htl hms
                  go_wp2
                  obtain ⟨k0, k1, k2⟩ := cells3 (w := wr) (B := w.heap.size + 1) (.int .i64 (-9 + (i : Int))) (.int .i64 (-9 + (j : Int))) (.int .i64 gc) y1 y2 y3
                  have hbn : Below w.heap.size w (((wr.setCell ⟨w.heap.size + 1, 0, none⟩ (.int .i64 (-9 + (i : Int)))).setCell ⟨w.heap.size + 1, 1, none⟩ (.int .i64 (-9 + (j : Int)))).setCell ⟨w.heap.size + 1, 2, none⟩ (.int .i64 gc)) :=
                    ((((HB1.out.trans (HB.out.mono HB1.out.size)).setCell (Nat.le_succ _) _).setCell (Nat.le_succ _) _).setCell (Nat.le_succ _) _)
                  generalize hW : (((wr.setCell ⟨w.heap.size + 1, 0, none⟩ (.int .i64 (-9 + (i : Int)))).setCell ⟨w.heap.size + 1, 1, none⟩ (.int .i64 (-9 + (j : Int)))).setCell ⟨w.heap.size + 1, 2, none⟩ (.int .i64 gc)) = W at *
                  refine bodyPost_ret (by simp [results, Try.results54, go_sem, k0, k1, k2]; try rfl) rfl ?_
                  exact ⟨rfl, hbn⟩
                · have hno := HNO.out.step (by rw [htl]; exact decide_eq_false hlt)
                  have HNO2 := Lib.hid hno
                  clear hno htl hms
                  go_wp2
                  go_roundw
                  case rel => exact ⟨j + 1, by omega, by go_num, HNO2.out, HB.out⟩
                  case measure => simp [intOf]; omega
          · obtain rfl : j = 19 := by omega
            have hno := HNO.out.col
            have HNO2 := Lib.hid hno
            clear hno
            go_wp2
            go_roundw
            case rel => exact ⟨i + 1, by omega, by go_num, HNO2.out, HB.out⟩
            case measure => simp [intOf]; omega
      · obtain rfl : i = 19 := by omega
        have ha := apart_no HUP.out HP.out HNO.out.done
        rw [HA.out] at ha
        simp only [Prod.mk.injEq] at ha
        obtain ⟨⟨rfl, rfl, rfl⟩, rfl⟩ := ha
        obtain ⟨y0, y1, y2, y3, y4, y5, y6⟩ := HZ1.out.below HB.out
        go_wp2
        obtain ⟨k0, k1, k2⟩ := cells3 (w := wr) (B := w.heap.size + 1) (.int .i64 0) (.int .i64 0) (.int .i64 0) y1 y2 y3
        have hbn : Below w.heap.size w (((wr.setCell ⟨w.heap.size + 1, 0, none⟩ (.int .i64 0)).setCell ⟨w.heap.size + 1, 1, none⟩ (.int .i64 0)).setCell ⟨w.heap.size + 1, 2, none⟩ (.int .i64 0)) :=
          ((((HB1.out.trans (HB.out.mono HB1.out.size)).setCell (Nat.le_succ _) _).setCell (Nat.le_succ _) _).setCell (Nat.le_succ _) _)
        generalize hW : (((wr.setCell ⟨w.heap.size + 1, 0, none⟩ (.int .i64 0)).setCell ⟨w.heap.size + 1, 1, none⟩ (.int .i64 0)).setCell ⟨w.heap.size + 1, 2, none⟩ (.int .i64 0)) = W at *
        refine bodyPost_ret (by simp [results, Try.results54, go_sem, k0, k1, k2]; try rfl) rfl ?_
        exact ⟨rfl, hbn⟩
  · have hres : apartOf l (p1, p2) = ((0, 0, 0), F) := by rw [apartOf, hF, if_pos h0]
    rw [hres]
    have hb : (F != 0) = true := by simp [h0]
    clear hF hres
    go_enter Try.func54, Try.ntmps54
    go_wp2_with (go_at_call 124; have hcc := C1.out; rw [HF.out] at hcc; (with_reducible refine hcc.mono ?_); clear hcc; rintro e w1 ⟨rfl, hb1⟩; obtain ⟨hcc, hf⟩ := bcell hb1; have hz0 : w.heap.size + 1 < w1.heap.size := (by have := hb1.size; simp at this; omega))
    obtain ⟨k0, k1, k2⟩ := cells3 (w := w1) (B := w.heap.size + 1) (.int .i64 0) (.int .i64 0) (.int .i64 0) (((hcc _ _ (by simp)).trans (by simp; rfl))) (((hcc _ _ (by simp)).trans (by simp; rfl))) (((hcc _ _ (by simp)).trans (by simp; rfl)))
    generalize hW : (((w1.setCell ⟨w.heap.size + 1, 0, none⟩ (.int .i64 0)).setCell ⟨w.heap.size + 1, 1, none⟩ (.int .i64 0)).setCell ⟨w.heap.size + 1, 2, none⟩ (.int .i64 0)) = W at *
    refine bodyPost_ret (by simp [results, Try.results54, go_sem, k0, k1, k2]; try rfl) rfl ?_
    exact ⟨rfl, by rw [← hW]; exact ((((al0 HB0.out hb1 (by simp <;> omega)).setCell (Nat.le_succ _) _).setCell (Nat.le_succ _) _).setCell (Nat.le_succ _) _)⟩
end Go.Proofs.Ytcalipoknbbaaaa
namespace Go.Proofs.Ytcalipoknbbaaaa
open Go.RowKit
set_option linter.unusedSimpArgs false
set_option linter.unusedVariables false
attribute [local go_sem] equal47 guard47

theorem hull_len {l h : List Pl} {err : Int} (hh : (errP l ≠ 0 ∧ h = [] ∧ err = errP l) ∨ (errP l = 0 ∧ err = 0 ∧ IsHull l h)) : h.length ≤ l.length := by
  rcases hh with ⟨_, rfl, _⟩ | ⟨_, _, f, r, t, hfr, hperm, _, rfl⟩
  · simp
  · have h1 := cornTo_le l l.length
    rw [hfr] at h1
    rw [List.length_cons] at h1 ⊢
    rw [hperm.length_eq]
    exact h1

theorem RowP.far {W : World} {q : Option Addr} {l : List Pl} {B o : Nat} {x : Value} (h : RowP W q l) (hq : ∀ a, q = some a → B < a.block) : RowP (W.setCell ⟨B, o, none⟩ x) q l := by
  rcases h with e | ⟨b, off, e, hb, hc⟩
  · exact .inl e
  · have hlt := hq _ e
    have hne : B ≠ b := Nat.ne_of_lt hlt
    exact .inr ⟨b, off, e, by simpa using hb, fun i hi => ⟨(World.cell?_setCell_far _ _ _ _ hne).trans (hc i hi).1, (World.cell?_setCell_far _ _ _ _ hne).trans (hc i hi).2⟩⟩

section
variable {w W : World} {G : List (Option Addr × Nat × List Gl)} {P : List (Option Addr × List Pl)} {I : List (Option Addr × List Int)} {C : List (Nat × Nat × Value)}
theorem Inv.boxHa (w : World) (q : Option Addr) (l : List Pl) (a b : Int) (hr : RowP w q l) :
    Inv w (w.alloc (.cells #[.int .i64 a, .int .i64 b] 26)) [] [(q, l)] [] [(w.heap.size, 1, .int .i64 b), (w.heap.size, 0, .int .i64 a)] :=
  ((((Inv.start w).addP hr).alloc _).addC (b := w.heap.size) (o := 0) (v := .int .i64 a) (by simp) (by simp)).addC (b := w.heap.size) (o := 1) (v := .int .i64 b) (by simp) (by simp)
theorem Inv.boxH2 (h : Inv w W G P I C) (a b : Int) (t : TypeId) : Inv w (W.alloc (.cells #[.int .i64 a, .int .i64 b] t)) G P I ((W.heap.size, 1, .int .i64 b) :: (W.heap.size, 0, .int .i64 a) :: C) :=
  ((h.alloc (.cells #[.int .i64 a, .int .i64 b] t)).addC (b := W.heap.size) (o := 0) (v := .int .i64 a) (by simp) (by simp)).addC (b := W.heap.size) (o := 1) (v := .int .i64 b) (by simp) (by simp)
theorem Inv.boxH3 (h : Inv w W G P I C) (a b c : Int) (t : TypeId) : Inv w (W.alloc (.cells #[.int .i64 a, .int .i64 b, .int .i64 c] t)) G P I ((W.heap.size, 2, .int .i64 c) :: (W.heap.size, 1, .int .i64 b) :: (W.heap.size, 0, .int .i64 a) :: C) :=
  (((h.alloc (.cells #[.int .i64 a, .int .i64 b, .int .i64 c] t)).addC (b := W.heap.size) (o := 0) (v := .int .i64 a) (by simp) (by simp)).addC (b := W.heap.size) (o := 1) (v := .int .i64 b) (by simp) (by simp)).addC (b := W.heap.size) (o := 2) (v := .int .i64 c) (by simp) (by simp)
end

set_option maxRecDepth 100000 in
set_option maxHeartbeats 8000000 in
theorem SeamHulls_any (q : Option Addr) (c : Nat) (l : List Pl) (p : Pl) (w : World) (hr : RowP w q l) (hq : q = none → c = 0) :
    Calls Try.prog 6 #[.slice q l.length c, .agg #[.int .i64 p.1, .int .i64 p.2]] w fun e w' => e = .returned (.bool true) ∧ Below w.heap.size w w' := by
  obtain ⟨p1, p2⟩ := p
  have HI := Lib.hid (Inv.boxHa w q l p1 p2 hr)
  clear hr hq
  have k0 := HI.out.c (b := w.heap.size) (o := 0) (v := .int .i64 p1) (by simp)
  have k1 := HI.out.c (b := w.heap.size) (o := 1) (v := .int .i64 p2) (by simp)
  by_cases h40 : 40 < l.length
  · go_enter Try.func6, Try.ntmps6
    go_wp2_with (go_at_call 19; refine (HI.out.scalar (works_any _) rfl).mono ?_; rintro e W ⟨rfl, hI⟩; replace HI := Lib.hid hI; clear hI)
    go_ret
    exact ⟨rfl, HI.out.2.2.2.2⟩
  obtain ⟨A, A2, hA⟩ : ∃ A A2, withinOf l (p1, p2) = (A, A2) := ⟨_, _, rfl⟩
  obtain ⟨ga, gb, gc, ge, hG⟩ : ∃ ga gb gc ge, apartOf l (p1, p2) = ((ga, gb, gc), ge) := ⟨_, _, _, _, rfl⟩
  obtain ⟨E, hE⟩ : ∃ E, errP l = E := ⟨_, rfl⟩
  have hlA : A.length ≤ 1000000 := by
    have h1 : (withinOf l (p1, p2)).1.length ≤ l.length := by
      unfold withinOf
      split
      · simp
      · split
        · simp
        · cases hs : shortestOf l.length fun is => !sepB (sel true is l) [(p1, p2)] with
          | none => simp
          | some x =>
            obtain ⟨k, hk, hm⟩ := List.mem_flatMap.1 (shortest_mem hs).1
            have := combos_length _ _ _ x hm
            have := List.mem_range.1 hk
            simp; omega
    rw [hA] at h1
    dsimp only at h1
    omega
  have HA := Lib.hid hA
  have HG := Lib.hid hG
  have HE := Lib.hid hE
  have HAA := Lib.hid (show (A == A) = true from beq_self_eq_true _)
  have h1000 : l.length ≤ 1000 := by omega
  have hA2 : (A2 == A2) = true := beq_self_eq_true _
  have hge : (ge == ge) = true := beq_self_eq_true _
  have hEE : (E == E) = true := beq_self_eq_true _
  clear hA hG hE
  go_enter Try.func6, Try.ntmps6
  go_upto_region 3 with fail
  have HID := Lib.hid (HI.out.go (Below.refl _ _).drew)
  have b0 := HID.out.c (b := w.heap.size) (o := 0) (v := .int .i64 p1) (by simp)
  have b1 := HID.out.c (b := w.heap.size) (o := 1) (v := .int .i64 p2) (by simp)
  have HIZ := Lib.hid ((HI.out.boxH2 0 0 38).go (Below.refl _ _).drew)
  have hz2 : Cell2 (((w.alloc (.cells #[.int .i64 p1, .int .i64 p2] 26)).alloc (.cells #[.int .i64 0, .int .i64 0] 38)).drew) (w.heap.size + 1) (.int .i64 0) (.int .i64 0) := ⟨by simp, by simp, by simp, by simp, by simp⟩
  have HZ2 := Lib.hid hz2
  clear hz2
  have z0 := HIZ.out.c (b := w.heap.size) (o := 0) (v := .int .i64 p1) (by simp)
  have z1 := HIZ.out.c (b := w.heap.size) (o := 1) (v := .int .i64 p2) (by simp)
  go_region_held3 (fun W => W.cell? ⟨w.heap.size, 0, none⟩ = some (.int .i64 p1) ∧ W.cell? ⟨w.heap.size, 1, none⟩ = some (.int .i64 p2)) (first | exact ⟨k0, k1⟩ | exact ⟨b0, b1⟩ | exact ⟨z0, z1⟩ | exact ⟨d0, d1⟩ | exact ⟨e0, e1⟩ | go_keep)
    (first
    | (go_at_call 48; have hcc := pointsC_any q c l _ (HID.out.2.1 (q, l) (by simp)) h1000; (with_reducible refine hcc.mono ?_); clear hcc; rintro e V ⟨q', c', rfl, hr', hlc, _, hb⟩; have HJ := Lib.hid ((HID.out.go hb).addP hr'); have d0 := HJ.out.c (b := w.heap.size) (o := 0) (v := .int .i64 p1) (by simp); have d1 := HJ.out.c (b := w.heap.size) (o := 1) (v := .int .i64 p2) (by simp); clear hr' hb)
    | (go_at_call 48; have hcc := pointsC_any q c l _ (HIZ.out.2.1 (q, l) (by simp)) h1000; (with_reducible refine hcc.mono ?_); clear hcc; rintro e V ⟨q', c', rfl, hr', hlc, hbk, hb⟩; have HZ3 := Lib.hid (HZ2.out.below (by simp) hb); obtain ⟨y0, y1, y2, y3, y4⟩ := HZ3.out; have HJ := Lib.hid ((HIZ.out.go hb).addP hr'); have e0 := HJ.out.c (b := w.heap.size) (o := 0) (v := .int .i64 p1) (by simp); have e1 := HJ.out.c (b := w.heap.size) (o := 1) (v := .int .i64 p2) (by simp))
    | fail)
  · have hI := HJ.out.boxH2 p1 p2 38
    replace HI := Lib.hid hI
    generalize (V.alloc (.cells #[.int .i64 p1, .int .i64 p2] 38)) = W1 at *
    generalize V.heap.size = B6 at *
    clear hI HJ HID HIZ HZ2 b0 b1 z0 z1 d0 d1 k0 k1
    have k0 := HI.out.c (b := w.heap.size) (o := 0) (v := .int .i64 p1) (by simp)
    have k1 := HI.out.c (b := w.heap.size) (o := 1) (v := .int .i64 p2) (by simp)
    have k2 := HI.out.c (b := B6) (o := 0) (v := .int .i64 p1) (by simp)
    have k3 := HI.out.c (b := B6) (o := 1) (v := .int .i64 p2) (by simp)
    go_upto_region 8 with (first
      | (go_at_call 49; have hcc := Hull_any q c l _ (HI.out.2.1 (q, l) (by simp)); (with_reducible refine hcc.mono ?_); clear hcc; rintro e W ⟨h, err, hh, q7, c7, rfl, hr7, hb7⟩; dsimp only at hr7; have HH := Lib.hid hh; have hI := (HI.out.go hb7).addP hr7; clear hh hr7 hb7; replace HI := Lib.hid hI; clear hI k0 k1 k2 k3; have k0 := HI.out.c (b := w.heap.size) (o := 0) (v := .int .i64 p1) (by simp); have k1 := HI.out.c (b := w.heap.size) (o := 1) (v := .int .i64 p2) (by simp); have k2 := HI.out.c (b := B6) (o := 0) (v := .int .i64 p1) (by simp); have k3 := HI.out.c (b := B6) (o := 1) (v := .int .i64 p2) (by simp))
      | (go_at_call 50; have hcc := rHull_any q' c' l _ (HI.out.2.1 (q', l) (by simp)) hlc h err HH.out; (with_reducible refine hcc.mono ?_); clear hcc; rintro e W ⟨q9, c9, rfl, hr9, hb9⟩; dsimp only at hr9; have hI := (HI.out.go hb9).addP hr9; clear hr9 hb9; replace HI := Lib.hid hI; clear hI k0 k1 k2 k3; have k0 := HI.out.c (b := w.heap.size) (o := 0) (v := .int .i64 p1) (by simp); have k1 := HI.out.c (b := w.heap.size) (o := 1) (v := .int .i64 p2) (by simp); have k2 := HI.out.c (b := B6) (o := 0) (v := .int .i64 p1) (by simp); have k3 := HI.out.c (b := B6) (o := 1) (v := .int .i64 p2) (by simp))
      | (go_at_call 51; refine (HI.out.listErr (Within_any q c l (p1, p2) _ (HI.out.2.1 (q, l) (by simp))) HA.out).mono ?_; rintro e W ⟨q1, c1, rfl, hI⟩; replace HI := Lib.hid hI; clear hI k0 k1 k2 k3; have k0 := HI.out.c (b := w.heap.size) (o := 0) (v := .int .i64 p1) (by simp); have k1 := HI.out.c (b := w.heap.size) (o := 1) (v := .int .i64 p2) (by simp); have k2 := HI.out.c (b := B6) (o := 0) (v := .int .i64 p1) (by simp); have k3 := HI.out.c (b := B6) (o := 1) (v := .int .i64 p2) (by simp))
      | (go_at_call 52; refine (HI.out.listErr (rWithin_any q' c' l (p1, p2) _ (HI.out.2.1 (q', l) (by simp))) HA.out).mono ?_; rintro e W ⟨q2, c2, rfl, hI⟩; replace HI := Lib.hid hI; clear hI k0 k1 k2 k3; have k0 := HI.out.c (b := w.heap.size) (o := 0) (v := .int .i64 p1) (by simp); have k1 := HI.out.c (b := w.heap.size) (o := 1) (v := .int .i64 p2) (by simp); have k2 := HI.out.c (b := B6) (o := 0) (v := .int .i64 p1) (by simp); have k3 := HI.out.c (b := B6) (o := 1) (v := .int .i64 p2) (by simp)))
    go_upto_region 9 with (go_at_call 53; refine (HI.out.scalar (V' := .tuple #[.agg #[.int .i64 ga, .int .i64 gb, .int .i64 gc], .int .i64 ge]) (Apart_any q c l (p1, p2) _ (HI.out.2.1 (q, l) (by simp))) (by rw [HG.out])).mono ?_; rintro e W ⟨rfl, hI⟩; replace HI := Lib.hid hI; clear hI k0 k1 k2 k3; have k0 := HI.out.c (b := w.heap.size) (o := 0) (v := .int .i64 p1) (by simp); have k1 := HI.out.c (b := w.heap.size) (o := 1) (v := .int .i64 p2) (by simp); have k2 := HI.out.c (b := B6) (o := 0) (v := .int .i64 p1) (by simp); have k3 := HI.out.c (b := B6) (o := 1) (v := .int .i64 p2) (by simp))
    clear k0 k1 k2 k3
    have hI := HI.out.boxH3 ga gb gc 28
    replace HI := Lib.hid hI
    generalize (W.alloc (.cells #[.int .i64 ga, .int .i64 gb, .int .i64 gc] 28)) = W2 at *
    generalize W.heap.size = B15 at *
    clear hI
    have k0 := HI.out.c (b := w.heap.size) (o := 0) (v := .int .i64 p1) (by simp)
    have k1 := HI.out.c (b := w.heap.size) (o := 1) (v := .int .i64 p2) (by simp)
    have k2 := HI.out.c (b := B6) (o := 0) (v := .int .i64 p1) (by simp)
    have k3 := HI.out.c (b := B6) (o := 1) (v := .int .i64 p2) (by simp)
    have k4 := HI.out.c (b := B15) (o := 0) (v := .int .i64 ga) (by simp)
    have k5 := HI.out.c (b := B15) (o := 1) (v := .int .i64 gb) (by simp)
    have k6 := HI.out.c (b := B15) (o := 2) (v := .int .i64 gc) (by simp)
    go_upto_region 10 with (go_at_call 54; refine (HI.out.scalar (V' := .tuple #[.agg #[.int .i64 ga, .int .i64 gb, .int .i64 gc], .int .i64 ge]) (rApart_any q' c' l (p1, p2) _ (HI.out.2.1 (q', l) (by simp))) (by rw [HG.out])).mono ?_; rintro e W ⟨rfl, hI⟩; replace HI := Lib.hid hI; clear hI k0 k1 k2 k3 k4 k5 k6; have k0 := HI.out.c (b := w.heap.size) (o := 0) (v := .int .i64 p1) (by simp); have k1 := HI.out.c (b := w.heap.size) (o := 1) (v := .int .i64 p2) (by simp); have k2 := HI.out.c (b := B6) (o := 0) (v := .int .i64 p1) (by simp); have k3 := HI.out.c (b := B6) (o := 1) (v := .int .i64 p2) (by simp); have k4 := HI.out.c (b := B15) (o := 0) (v := .int .i64 ga) (by simp); have k5 := HI.out.c (b := B15) (o := 1) (v := .int .i64 gb) (by simp); have k6 := HI.out.c (b := B15) (o := 2) (v := .int .i64 gc) (by simp))
    clear k0 k1 k2 k3 k4 k5 k6
    have hI := HI.out.boxH3 ga gb gc 47
    replace HI := Lib.hid hI
    generalize (W.alloc (.cells #[.int .i64 ga, .int .i64 gb, .int .i64 gc] 47)) = W3 at *
    generalize W.heap.size = B17 at *
    clear hI
    have m0 := HI.out.c (b := B15) (o := 0) (v := .int .i64 ga) (by simp)
    have m1 := HI.out.c (b := B15) (o := 1) (v := .int .i64 gb) (by simp)
    have m2 := HI.out.c (b := B15) (o := 2) (v := .int .i64 gc) (by simp)
    have m3 := HI.out.c (b := B17) (o := 0) (v := .int .i64 ga) (by simp)
    have m4 := HI.out.c (b := B17) (o := 1) (v := .int .i64 gb) (by simp)
    have m5 := HI.out.c (b := B17) (o := 2) (v := .int .i64 gc) (by simp)
    have hlh := hull_len HH.out
    have hlh2 : h.length ≤ 1000000 := by omega
    have HPP := Lib.hid (show (h == h) = true from beq_self_eq_true _)
    have herr : (err == err) = true := beq_self_eq_true _
    clear hlh
    go_wp2_with (first
      | (go_at_call 27; refine (HI.out.scalar (V' := .bool true) (equal_any q7 q9 c7 c9 h h _ (HI.out.2.1 (q7, h) (by simp)) (HI.out.2.1 (q9, h) (by simp)) hlh2 hlh2) (by rw [HPP.out])).mono ?_; rintro e W ⟨rfl, hI⟩; replace HI := Lib.hid hI; clear hI m0 m1 m2 m3 m4 m5; have m0 := HI.out.c (b := B15) (o := 0) (v := .int .i64 ga) (by simp); have m1 := HI.out.c (b := B15) (o := 1) (v := .int .i64 gb) (by simp); have m2 := HI.out.c (b := B15) (o := 2) (v := .int .i64 gc) (by simp); have m3 := HI.out.c (b := B17) (o := 0) (v := .int .i64 ga) (by simp); have m4 := HI.out.c (b := B17) (o := 1) (v := .int .i64 gb) (by simp); have m5 := HI.out.c (b := B17) (o := 2) (v := .int .i64 gc) (by simp))
      | (go_at_call 38; have hcc := HI.out.same q1 q2 c1 c2 A A true (by simp) (by simp) hlA hlA HAA.out; (with_reducible refine hcc.mono ?_); clear hcc; rintro e W ⟨rfl, hI⟩; replace HI := Lib.hid hI; clear hI m0 m1 m2 m3 m4 m5; have m0 := HI.out.c (b := B15) (o := 0) (v := .int .i64 ga) (by simp); have m1 := HI.out.c (b := B15) (o := 1) (v := .int .i64 gb) (by simp); have m2 := HI.out.c (b := B15) (o := 2) (v := .int .i64 gc) (by simp); have m3 := HI.out.c (b := B17) (o := 0) (v := .int .i64 ga) (by simp); have m4 := HI.out.c (b := B17) (o := 1) (v := .int .i64 gb) (by simp); have m5 := HI.out.c (b := B17) (o := 2) (v := .int .i64 gc) (by simp))
      | (go_at_call 55; refine (HI.out.scalar (V' := .int .i64 E) (Points_any q c l _ (HI.out.2.1 (q, l) (by simp))) (by rw [HE.out])).mono ?_; rintro e W ⟨rfl, hI⟩; replace HI := Lib.hid hI; clear hI m0 m1 m2 m3 m4 m5; have m0 := HI.out.c (b := B15) (o := 0) (v := .int .i64 ga) (by simp); have m1 := HI.out.c (b := B15) (o := 1) (v := .int .i64 gb) (by simp); have m2 := HI.out.c (b := B15) (o := 2) (v := .int .i64 gc) (by simp); have m3 := HI.out.c (b := B17) (o := 0) (v := .int .i64 ga) (by simp); have m4 := HI.out.c (b := B17) (o := 1) (v := .int .i64 gb) (by simp); have m5 := HI.out.c (b := B17) (o := 2) (v := .int .i64 gc) (by simp))
      | (go_at_call 56; refine (HI.out.scalar (V' := .int .i64 E) (rPoints_any q' c' l _ (HI.out.2.1 (q', l) (by simp))) (by rw [HE.out])).mono ?_; rintro e W ⟨rfl, hI⟩; replace HI := Lib.hid hI; clear hI m0 m1 m2 m3 m4 m5; have m0 := HI.out.c (b := B15) (o := 0) (v := .int .i64 ga) (by simp); have m1 := HI.out.c (b := B15) (o := 1) (v := .int .i64 gb) (by simp); have m2 := HI.out.c (b := B15) (o := 2) (v := .int .i64 gc) (by simp); have m3 := HI.out.c (b := B17) (o := 0) (v := .int .i64 ga) (by simp); have m4 := HI.out.c (b := B17) (o := 1) (v := .int .i64 gb) (by simp); have m5 := HI.out.c (b := B17) (o := 2) (v := .int .i64 gc) (by simp))
      | (go_at_call 19; refine (HI.out.scalar (works_any _) rfl).mono ?_; rintro e W ⟨rfl, hI⟩; replace HI := Lib.hid hI; clear hI m0 m1 m2 m3 m4 m5; have m0 := HI.out.c (b := B15) (o := 0) (v := .int .i64 ga) (by simp); have m1 := HI.out.c (b := B15) (o := 1) (v := .int .i64 gb) (by simp); have m2 := HI.out.c (b := B15) (o := 2) (v := .int .i64 gc) (by simp); have m3 := HI.out.c (b := B17) (o := 0) (v := .int .i64 ga) (by simp); have m4 := HI.out.c (b := B17) (o := 1) (v := .int .i64 gb) (by simp); have m5 := HI.out.c (b := B17) (o := 2) (v := .int .i64 gc) (by simp)))
    go_ret
    exact ⟨rfl, HI.out.2.2.2.2⟩
  · have h1 : Below (w.alloc (.cells #[.int .i64 p1, .int .i64 p2] 26)).heap.size (w.alloc (.cells #[.int .i64 p1, .int .i64 p2] 26)) ((V.setCell ⟨w.heap.size + 1, 0, none⟩ (.int .i64 p1)).setCell ⟨w.heap.size + 1, 1, none⟩ (.int .i64 p2)) :=
      ((((Below.refl _ _).alloc (Nat.le_refl _) (.cells #[.int .i64 0, .int .i64 0] 38)).drew.trans (hb.mono (by simp))).setCell (p := ⟨w.heap.size + 1, 0, none⟩) (by simp) _).setCell (p := ⟨w.heap.size + 1, 1, none⟩) (by simp) _
    have hbk2 : ∀ a, q' = some a → w.heap.size + 1 < a.block := fun a e => by have := hbk a e; simp at this; omega
    have hrow : RowP ((V.setCell ⟨w.heap.size + 1, 0, none⟩ (.int .i64 p1)).setCell ⟨w.heap.size + 1, 1, none⟩ (.int .i64 p2)) q' l := (hr'.far hbk2).far hbk2
    obtain ⟨x0, x1, x2, _, _⟩ := HZ3.out.set (.int .i64 p1) (.int .i64 p2)
    have hI := (((HI.out.go h1).addP hrow).addC x1 x0).addC x2 x0
    replace HI := Lib.hid hI
    generalize ((V.setCell ⟨w.heap.size + 1, 0, none⟩ (.int .i64 p1)).setCell ⟨w.heap.size + 1, 1, none⟩ (.int .i64 p2)) = W1 at *
    generalize w.heap.size + 1 = B6 at *
    clear hI HJ HID HIZ HZ2 b0 b1 z0 z1 e0 e1 k0 k1 h1 hbk hbk2 hrow x0 x1 x2 HZ3 y0 y1 y2 y3 y4 hr' hb
    have k0 := HI.out.c (b := w.heap.size) (o := 0) (v := .int .i64 p1) (by simp)
    have k1 := HI.out.c (b := w.heap.size) (o := 1) (v := .int .i64 p2) (by simp)
    have k2 := HI.out.c (b := B6) (o := 0) (v := .int .i64 p1) (by simp)
    have k3 := HI.out.c (b := B6) (o := 1) (v := .int .i64 p2) (by simp)
    go_upto_region 8 with (first
      | (go_at_call 49; have hcc := Hull_any q c l _ (HI.out.2.1 (q, l) (by simp)); (with_reducible refine hcc.mono ?_); clear hcc; rintro e W ⟨h, err, hh, q7, c7, rfl, hr7, hb7⟩; dsimp only at hr7; have HH := Lib.hid hh; have hI := (HI.out.go hb7).addP hr7; clear hh hr7 hb7; replace HI := Lib.hid hI; clear hI k0 k1 k2 k3; have k0 := HI.out.c (b := w.heap.size) (o := 0) (v := .int .i64 p1) (by simp); have k1 := HI.out.c (b := w.heap.size) (o := 1) (v := .int .i64 p2) (by simp); have k2 := HI.out.c (b := B6) (o := 0) (v := .int .i64 p1) (by simp); have k3 := HI.out.c (b := B6) (o := 1) (v := .int .i64 p2) (by simp))
      | (go_at_call 50; have hcc := rHull_any q' c' l _ (HI.out.2.1 (q', l) (by simp)) hlc h err HH.out; (with_reducible refine hcc.mono ?_); clear hcc; rintro e W ⟨q9, c9, rfl, hr9, hb9⟩; dsimp only at hr9; have hI := (HI.out.go hb9).addP hr9; clear hr9 hb9; replace HI := Lib.hid hI; clear hI k0 k1 k2 k3; have k0 := HI.out.c (b := w.heap.size) (o := 0) (v := .int .i64 p1) (by simp); have k1 := HI.out.c (b := w.heap.size) (o := 1) (v := .int .i64 p2) (by simp); have k2 := HI.out.c (b := B6) (o := 0) (v := .int .i64 p1) (by simp); have k3 := HI.out.c (b := B6) (o := 1) (v := .int .i64 p2) (by simp))
      | (go_at_call 51; refine (HI.out.listErr (Within_any q c l (p1, p2) _ (HI.out.2.1 (q, l) (by simp))) HA.out).mono ?_; rintro e W ⟨q1, c1, rfl, hI⟩; replace HI := Lib.hid hI; clear hI k0 k1 k2 k3; have k0 := HI.out.c (b := w.heap.size) (o := 0) (v := .int .i64 p1) (by simp); have k1 := HI.out.c (b := w.heap.size) (o := 1) (v := .int .i64 p2) (by simp); have k2 := HI.out.c (b := B6) (o := 0) (v := .int .i64 p1) (by simp); have k3 := HI.out.c (b := B6) (o := 1) (v := .int .i64 p2) (by simp))
      | (go_at_call 52; refine (HI.out.listErr (rWithin_any q' c' l (p1, p2) _ (HI.out.2.1 (q', l) (by simp))) HA.out).mono ?_; rintro e W ⟨q2, c2, rfl, hI⟩; replace HI := Lib.hid hI; clear hI k0 k1 k2 k3; have k0 := HI.out.c (b := w.heap.size) (o := 0) (v := .int .i64 p1) (by simp); have k1 := HI.out.c (b := w.heap.size) (o := 1) (v := .int .i64 p2) (by simp); have k2 := HI.out.c (b := B6) (o := 0) (v := .int .i64 p1) (by simp); have k3 := HI.out.c (b := B6) (o := 1) (v := .int .i64 p2) (by simp)))
    go_upto_region 9 with (go_at_call 53; refine (HI.out.scalar (V' := .tuple #[.agg #[.int .i64 ga, .int .i64 gb, .int .i64 gc], .int .i64 ge]) (Apart_any q c l (p1, p2) _ (HI.out.2.1 (q, l) (by simp))) (by rw [HG.out])).mono ?_; rintro e W ⟨rfl, hI⟩; replace HI := Lib.hid hI; clear hI k0 k1 k2 k3; have k0 := HI.out.c (b := w.heap.size) (o := 0) (v := .int .i64 p1) (by simp); have k1 := HI.out.c (b := w.heap.size) (o := 1) (v := .int .i64 p2) (by simp); have k2 := HI.out.c (b := B6) (o := 0) (v := .int .i64 p1) (by simp); have k3 := HI.out.c (b := B6) (o := 1) (v := .int .i64 p2) (by simp))
    clear k0 k1 k2 k3
    have hI := HI.out.boxH3 ga gb gc 28
    replace HI := Lib.hid hI
    generalize (W.alloc (.cells #[.int .i64 ga, .int .i64 gb, .int .i64 gc] 28)) = W2 at *
    generalize W.heap.size = B15 at *
    clear hI
    have k0 := HI.out.c (b := w.heap.size) (o := 0) (v := .int .i64 p1) (by simp)
    have k1 := HI.out.c (b := w.heap.size) (o := 1) (v := .int .i64 p2) (by simp)
    have k2 := HI.out.c (b := B6) (o := 0) (v := .int .i64 p1) (by simp)
    have k3 := HI.out.c (b := B6) (o := 1) (v := .int .i64 p2) (by simp)
    have k4 := HI.out.c (b := B15) (o := 0) (v := .int .i64 ga) (by simp)
    have k5 := HI.out.c (b := B15) (o := 1) (v := .int .i64 gb) (by simp)
    have k6 := HI.out.c (b := B15) (o := 2) (v := .int .i64 gc) (by simp)
    go_upto_region 10 with (go_at_call 54; refine (HI.out.scalar (V' := .tuple #[.agg #[.int .i64 ga, .int .i64 gb, .int .i64 gc], .int .i64 ge]) (rApart_any q' c' l (p1, p2) _ (HI.out.2.1 (q', l) (by simp))) (by rw [HG.out])).mono ?_; rintro e W ⟨rfl, hI⟩; replace HI := Lib.hid hI; clear hI k0 k1 k2 k3 k4 k5 k6; have k0 := HI.out.c (b := w.heap.size) (o := 0) (v := .int .i64 p1) (by simp); have k1 := HI.out.c (b := w.heap.size) (o := 1) (v := .int .i64 p2) (by simp); have k2 := HI.out.c (b := B6) (o := 0) (v := .int .i64 p1) (by simp); have k3 := HI.out.c (b := B6) (o := 1) (v := .int .i64 p2) (by simp); have k4 := HI.out.c (b := B15) (o := 0) (v := .int .i64 ga) (by simp); have k5 := HI.out.c (b := B15) (o := 1) (v := .int .i64 gb) (by simp); have k6 := HI.out.c (b := B15) (o := 2) (v := .int .i64 gc) (by simp))
    clear k0 k1 k2 k3 k4 k5 k6
    have hI := HI.out.boxH3 ga gb gc 47
    replace HI := Lib.hid hI
    generalize (W.alloc (.cells #[.int .i64 ga, .int .i64 gb, .int .i64 gc] 47)) = W3 at *
    generalize W.heap.size = B17 at *
    clear hI
    have m0 := HI.out.c (b := B15) (o := 0) (v := .int .i64 ga) (by simp)
    have m1 := HI.out.c (b := B15) (o := 1) (v := .int .i64 gb) (by simp)
    have m2 := HI.out.c (b := B15) (o := 2) (v := .int .i64 gc) (by simp)
    have m3 := HI.out.c (b := B17) (o := 0) (v := .int .i64 ga) (by simp)
    have m4 := HI.out.c (b := B17) (o := 1) (v := .int .i64 gb) (by simp)
    have m5 := HI.out.c (b := B17) (o := 2) (v := .int .i64 gc) (by simp)
    have hlh := hull_len HH.out
    have hlh2 : h.length ≤ 1000000 := by omega
    have HPP := Lib.hid (show (h == h) = true from beq_self_eq_true _)
    have herr : (err == err) = true := beq_self_eq_true _
    clear hlh
    go_wp2_with (first
      | (go_at_call 27; refine (HI.out.scalar (V' := .bool true) (equal_any q7 q9 c7 c9 h h _ (HI.out.2.1 (q7, h) (by simp)) (HI.out.2.1 (q9, h) (by simp)) hlh2 hlh2) (by rw [HPP.out])).mono ?_; rintro e W ⟨rfl, hI⟩; replace HI := Lib.hid hI; clear hI m0 m1 m2 m3 m4 m5; have m0 := HI.out.c (b := B15) (o := 0) (v := .int .i64 ga) (by simp); have m1 := HI.out.c (b := B15) (o := 1) (v := .int .i64 gb) (by simp); have m2 := HI.out.c (b := B15) (o := 2) (v := .int .i64 gc) (by simp); have m3 := HI.out.c (b := B17) (o := 0) (v := .int .i64 ga) (by simp); have m4 := HI.out.c (b := B17) (o := 1) (v := .int .i64 gb) (by simp); have m5 := HI.out.c (b := B17) (o := 2) (v := .int .i64 gc) (by simp))
      | (go_at_call 38; have hcc := HI.out.same q1 q2 c1 c2 A A true (by simp) (by simp) hlA hlA HAA.out; (with_reducible refine hcc.mono ?_); clear hcc; rintro e W ⟨rfl, hI⟩; replace HI := Lib.hid hI; clear hI m0 m1 m2 m3 m4 m5; have m0 := HI.out.c (b := B15) (o := 0) (v := .int .i64 ga) (by simp); have m1 := HI.out.c (b := B15) (o := 1) (v := .int .i64 gb) (by simp); have m2 := HI.out.c (b := B15) (o := 2) (v := .int .i64 gc) (by simp); have m3 := HI.out.c (b := B17) (o := 0) (v := .int .i64 ga) (by simp); have m4 := HI.out.c (b := B17) (o := 1) (v := .int .i64 gb) (by simp); have m5 := HI.out.c (b := B17) (o := 2) (v := .int .i64 gc) (by simp))
      | (go_at_call 55; refine (HI.out.scalar (V' := .int .i64 E) (Points_any q c l _ (HI.out.2.1 (q, l) (by simp))) (by rw [HE.out])).mono ?_; rintro e W ⟨rfl, hI⟩; replace HI := Lib.hid hI; clear hI m0 m1 m2 m3 m4 m5; have m0 := HI.out.c (b := B15) (o := 0) (v := .int .i64 ga) (by simp); have m1 := HI.out.c (b := B15) (o := 1) (v := .int .i64 gb) (by simp); have m2 := HI.out.c (b := B15) (o := 2) (v := .int .i64 gc) (by simp); have m3 := HI.out.c (b := B17) (o := 0) (v := .int .i64 ga) (by simp); have m4 := HI.out.c (b := B17) (o := 1) (v := .int .i64 gb) (by simp); have m5 := HI.out.c (b := B17) (o := 2) (v := .int .i64 gc) (by simp))
      | (go_at_call 56; refine (HI.out.scalar (V' := .int .i64 E) (rPoints_any q' c' l _ (HI.out.2.1 (q', l) (by simp))) (by rw [HE.out])).mono ?_; rintro e W ⟨rfl, hI⟩; replace HI := Lib.hid hI; clear hI m0 m1 m2 m3 m4 m5; have m0 := HI.out.c (b := B15) (o := 0) (v := .int .i64 ga) (by simp); have m1 := HI.out.c (b := B15) (o := 1) (v := .int .i64 gb) (by simp); have m2 := HI.out.c (b := B15) (o := 2) (v := .int .i64 gc) (by simp); have m3 := HI.out.c (b := B17) (o := 0) (v := .int .i64 ga) (by simp); have m4 := HI.out.c (b := B17) (o := 1) (v := .int .i64 gb) (by simp); have m5 := HI.out.c (b := B17) (o := 2) (v := .int .i64 gc) (by simp))
      | (go_at_call 19; refine (HI.out.scalar (works_any _) rfl).mono ?_; rintro e W ⟨rfl, hI⟩; replace HI := Lib.hid hI; clear hI m0 m1 m2 m3 m4 m5; have m0 := HI.out.c (b := B15) (o := 0) (v := .int .i64 ga) (by simp); have m1 := HI.out.c (b := B15) (o := 1) (v := .int .i64 gb) (by simp); have m2 := HI.out.c (b := B15) (o := 2) (v := .int .i64 gc) (by simp); have m3 := HI.out.c (b := B17) (o := 0) (v := .int .i64 ga) (by simp); have m4 := HI.out.c (b := B17) (o := 1) (v := .int .i64 gb) (by simp); have m5 := HI.out.c (b := B17) (o := 2) (v := .int .i64 gc) (by simp)))
    go_ret
    exact ⟨rfl, HI.out.2.2.2.2⟩
end Go.Proofs.Ytcalipoknbbaaaa
namespace Go.Proofs.Ytcalipoknbbaaaa.seamHulls
open Go Go.ChangeShapes Go.WideShapes Go.ChangeAt Go.RowKit

theorem own : ownKnob Try.prog.godebug = none := by kernel_rfl
theorem laidOut : laidOutB Try.prog = true := by kernel_rfl

set_option maxRecDepth 100000 in
theorem lifted (os : Os) (started : os.Started) (H : Type) (enc : TypeId × Value → H) :
    ReturnsInHanded {} Try.checked os 6 .any (Rows.seamHullsSpec.pre6 enc Try.prog Try.f6 Rows.seamHullsRow.domain false) (Rows.seamHullsSpec.post enc Try.prog Try.f6 false true false false) := by
  refine returnsInHanded_of_change (C := Try.checked) own started (by kernel_rfl) Try.func6
    (ChangeSpec.witness6 (enc := enc) (C := Try.checked) false { blocks := #[], args := #[.slice none 0 0, .agg #[.int .i64 0, .int .i64 0]], vars := [] } 8 (by kernel_rfl) (by kernel_rfl) (by kernel_rfl) (by kernel_rfl)) ?_
  intro W base args ds gs before hval0 hW hcnd _
  have hval : ∀ (j : Nat) t v, Try.f6.params[j]? = some t → args[j]? = some v → Value.okWide Try.prog W .any base t v := hval0
  have hW' := hW
  obtain ⟨p, q, hA0, hV, rfl, hfz, hnd⟩ := hW
  have hA : DataW.TrodAll enc Try.prog W 0 (fun _ => true) true Try.f6.params.toList args.toList ds p := hA0
  rw [Try.params6] at hA hval
  obtain ⟨v0, v1, d0, d1, p0, p1, rfl, rfl, rfl, h0, h1⟩ := trodAll_two hA
  obtain ⟨rfl, rfl⟩ := trodVars_none hV
  obtain ⟨q0, c0, ps0, rfl, r0, e0⟩ := places_of (hval 0 39 v0 rfl rfl) h0
  obtain ⟨p1', rfl⟩ := place_of (hval 1 26 v1 rfl rfl) h1
  clear hA0 hval0
  simp only [List.append_nil] at hW'
  have hlt := fun x hx => hW'.lt x hx
  refine (SeamHulls_any q0 c0 ps0 p1' W r0 e0 ).mono fun e W' ⟨he, hg⟩ => ?_
  subst he
  refine ⟨_, rfl, _, _, _, [] ++ [], p0 ++ (p1 ++ []), [], hW', ?_, ?_, ?_, hg.frame _, fun h => by cases h⟩
  · exact trodAll_cons_mk (shut_bool Try.underlying4 _) trodAll_mk0
  · exact trodAll_cons_mk (Below.trod laidOut (by kernel_rfl) (of_decide_eq_true (by kernel_rfl)) h0 hg fun x hx => hlt x (by simp [hx])) (trodAll_cons_mk (Below.trod laidOut (by kernel_rfl) (of_decide_eq_true (by kernel_rfl)) h1 hg fun x hx => hlt x (by simp [hx])) trodAll_mk0)
  · rfl

end Go.Proofs.Ytcalipoknbbaaaa.seamHulls
namespace Go.Proofs.Ytcalipoknbbaaaa.seamHulls
open Go Go.ChangeShapes Go.WideShapes Go.ChangeAt Go.RowKit

theorem over : Rows.seamHullsRow.holds Try.pinned (OpenSpec.ofChange Rows.seamHullsSpec) :=
  OpenClaim.holds_of_wide 6 Try.f6 rfl rfl rfl rfl rfl rfl rfl ⟨rfl, rfl, rfl, rfl, rfl⟩ rfl rfl rfl rfl rfl named Try.func6 closed inst wrapper
    (fun os started H enc _ => lifted os started H enc)

/-- ████ THE STATEMENT ████ -/
theorem proved : Rows.SeamHullsSaid :=
  over
#print axioms proved
end Go.Proofs.Ytcalipoknbbaaaa.seamHulls
