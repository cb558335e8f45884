/- SeamMiddle: the walk, and the row's step. -/
import Derived.Test.YtcalipoknbbaaaaRadm
import Derived.Test.YtcalipoknbbaaaaCent
import Derived.Test.YtcalipoknbbaaaaSeamp
import Derived.Test.YtcalipoknbbaaaaTold
import Derived.Test.YtcalipoknbbaaaaMadeS
import Derived.Test.YtcalipoknbbaaaaLaw8
import Derived.Test.YtcalipoknbbaaaaRows
import Derived.WalkKit
import Derived.ProofKit
import Derived.OpenShut
import Derived.Test.YtcalipoknbbaaaaDigC
namespace Go.Proofs.Ytcalipoknbbaaaa
open Go.RowKit
set_option linter.unusedSimpArgs false
set_option linter.unusedVariables false

/-- how many of some places lie behind another one, or beside it, in a direction -/
def DD (l : List Pl) (p : Pl) (n : Int × Int) : Nat := l.countP fun r => decide (NV.dt n r ≤ NV.dt n p)
theorem cntAgr_DD (l : List Pl) (p : Pl) (s : Int × Int) : cntAgr (galAt s p) l = DD l p s := rfl
/-- the law's count -/
def deepS (l : List Pl) (p : Pl) (d : Int × Int) : Nat := l.countP fun r => decide (d.1 * (r.1 - p.1) + d.2 * (r.2 - p.2) ≤ 0)
theorem deepS_DD (l : List Pl) (p : Pl) (d : Int × Int) : deepS l p d = DD l p d := by
  unfold deepS DD
  congr 1
  funext r
  have e : d.1 * (r.1 - p.1) + d.2 * (r.2 - p.2) = NV.dt d r - NV.dt d p := by simp only [NV.dt]; grind
  rw [e, decide_eq_decide]
  omega
theorem DD_le (l : List Pl) (p : Pl) (n : Int × Int) : DD l p n ≤ l.length := List.countP_le_length
/-- a direction that tells the same places apart does no worse -/
theorem DD_mono {l : List Pl} {p : Pl} {n m : Int × Int} (h : NV.SepD m [p] (l.filter fun r => decide (NV.dt n p < NV.dt n r))) : DD l p m ≤ DD l p n := by
  refine List.countP_mono_left fun r hr hd => ?_
  simp only [decide_eq_true_eq] at hd ⊢
  apply Classical.byContradiction
  intro hno
  have := h p (by simp) r (List.mem_filter.2 ⟨hr, by simp only [decide_eq_true_eq]; omega⟩)
  omega
theorem DD_all {l : List Pl} {p : Pl} {n : Int × Int} (h : (l.filter fun r => decide (NV.dt n p < NV.dt n r)) = []) : DD l p n = l.length := by
  refine List.countP_eq_length.2 fun r hr => ?_
  simp only [decide_eq_true_eq]
  apply Classical.byContradiction
  intro hno
  have : r ∈ l.filter fun r => decide (NV.dt n p < NV.dt n r) := List.mem_filter.2 ⟨hr, by simp only [decide_eq_true_eq]; omega⟩
  rw [h] at this
  simp at this
theorem DD_sep (l : List Pl) (p : Pl) (n : Int × Int) : NV.SepD n [p] (l.filter fun r => decide (NV.dt n p < NV.dt n r)) := by
  intro q hq r hr
  obtain rfl := List.mem_singleton.1 hq
  simpa using (List.mem_filter.1 hr).2
theorem mem_slopes12 {m : Int × Int} (h : (-6 ≤ m.1 ∧ m.1 ≤ 6) ∧ -6 ≤ m.2 ∧ m.2 ≤ 6) (h0 : m ≠ (0, 0)) : m ∈ slopesL 12 := by
  have key : ((List.range 13).all fun i : Nat => (List.range 13).all fun j : Nat => ((-6 + (i : Int) == 0) && (-6 + (j : Int) == 0)) || (slopesL 12).contains (-6 + (i : Int), -6 + (j : Int))) = true := by decide +kernel
  obtain ⟨u, v⟩ := m
  obtain ⟨⟨h1, h2⟩, h3, h4⟩ := h
  simp only at h1 h2 h3 h4
  have e1 : -6 + ((u + 6).toNat : Int) = u := by omega
  have e2 : -6 + ((v + 6).toNat : Int) = v := by omega
  have := List.all_eq_true.1 (List.all_eq_true.1 key (u + 6).toNat (List.mem_range.2 (by omega))) (v + 6).toNat (List.mem_range.2 (by omega))
  rw [e1, e2, Bool.or_eq_true, Bool.and_eq_true, beq_iff_eq, beq_iff_eq, List.contains_iff_mem] at this
  rcases this with ⟨rfl, rfl⟩ | h
  · exact absurd rfl h0
  · exact h

theorem filt_in {l : List Pl} {f : Pl → Bool} (h : ∀ r ∈ l, NV.inG r) : ∀ r ∈ l.filter f, NV.inG r := fun r hr => h r (List.mem_filter.1 hr).1
theorem one_in {p : Pl} (h : NV.inG p) : ∀ q ∈ [p], NV.inG q := by intro q hq; obtain rfl := List.mem_singleton.1 hq; exact h
/-- some slope does no worse than any direction -/
theorem DD_slope {l : List Pl} {p : Pl} (hl : ∀ r ∈ l, NV.inG r) (hp : NV.inG p) (n : Int × Int) : DD l p n = l.length ∨ ∃ s ∈ slopesL 12, DD l p s ≤ DD l p n := by
  by_cases h : (l.filter fun r => decide (NV.dt n p < NV.dt n r)) = []
  · exact .inl (DD_all h)
  · obtain ⟨m, h1, h2, h3⟩ := NV.sep_small (by simp) h (DD_sep l p n) (one_in hp) (filt_in hl)
    exact .inr ⟨m, mem_slopes12 h1 h2, DD_mono h3⟩
/-- some direction of the law does no worse than any -/
theorem DD_tilt {l : List Pl} {p : Pl} (hl : ∀ r ∈ l, NV.inG r) (hp : NV.inG p) (n : Int × Int) : DD l p n = l.length ∨ ∃ q ∈ l, q ≠ p ∧ DD l p (dirOf (q.1 - p.1) (q.2 - p.2) (1, 1)) ≤ DD l p n := by
  by_cases h : (l.filter fun r => decide (NV.dt n p < NV.dt n r)) = []
  · exact .inl (DD_all h)
  · obtain ⟨p', hp', q, hq, h3⟩ := NV.sep_tilt (by simp) h (DD_sep l p n) (one_in hp) (filt_in hl)
    obtain rfl := List.mem_singleton.1 hp'
    refine .inr ⟨q, (List.mem_filter.1 hq).1, ?_, ?_⟩
    · rintro rfl
      have := (List.mem_filter.1 hq).2
      simp at this
    · have e : dirOf (q.1 - p'.1) (q.2 - p'.2) (1, 1) = NV.tiltD (NV.sub p' q) := by
        simp only [dirOf, NV.tiltD, NV.sub, Prod.mk.injEq]
        omega
      rw [e]
      exact DD_mono h3

/-- the depth as the law counts it -/
def deepI (l : List Pl) (p q : Pl) (k : Nat) (m : Nat) : Nat := (signsL.take k).foldl (fun m s => min m (deepS l p (dirOf (q.1 - p.1) (q.2 - p.2) s))) m
def deepQ (l : List Pl) (p q : Pl) (m : Nat) : Nat := if q = p then m else deepI l p q 4 m
def deepTo (l : List Pl) (p : Pl) (k : Nat) : Nat := (l.take k).foldl (fun m q => deepQ l p q m) l.length
def deepL (l : List Pl) (p : Pl) : Nat := deepTo l p l.length
theorem deepTo_succ (l : List Pl) (p : Pl) (k : Nat) (h : k < l.length) : deepTo l p (k + 1) = deepQ l p (l.getD k (0, 0)) (deepTo l p k) := by
  rw [deepTo, deepTo, List.take_succ_eq_append_getElem h, List.foldl_append, getD_eq l k (0, 0) h]; rfl
theorem deepI_succ (l : List Pl) (p q : Pl) (k m : Nat) (h : k < 4) : deepI l p q (k + 1) m = min (deepI l p q k m) (deepS l p (dirOf (q.1 - p.1) (q.2 - p.2) (signsL.getD k (0, 0)))) := by
  have h' : k < signsL.length := h
  rw [deepI, deepI, List.take_succ_eq_append_getElem h', List.foldl_append, getD_eq signsL k (0, 0) h']; rfl
theorem le_foldI (c : Nat) (f : Int × Int → Nat) : ∀ (L : List (Int × Int)) (m : Nat), c ≤ L.foldl (fun m s => min m (f s)) m ↔ c ≤ m ∧ ∀ s ∈ L, c ≤ f s
  | [], m => by simp
  | s :: L, m => by
    rw [List.foldl_cons, le_foldI c f L]
    simp only [List.mem_cons, forall_eq_or_imp, Nat.le_min]
    exact ⟨fun ⟨⟨a, b⟩, d⟩ => ⟨a, b, d⟩, fun ⟨a, b, d⟩ => ⟨⟨a, b⟩, d⟩⟩
theorem le_deepQ (c : Nat) (l : List Pl) (p q : Pl) (m : Nat) : c ≤ deepQ l p q m ↔ c ≤ m ∧ (q ≠ p → ∀ s ∈ signsL, c ≤ DD l p (dirOf (q.1 - p.1) (q.2 - p.2) s)) := by
  unfold deepQ
  split
  · rename_i h; simp [h]
  · rename_i h
    have e : (signsL.take 4) = signsL := rfl
    rw [deepI, e, le_foldI c (fun s => deepS l p (dirOf (q.1 - p.1) (q.2 - p.2) s))]
    simp only [deepS_DD]
    exact ⟨fun ⟨a, b⟩ => ⟨a, fun _ => b⟩, fun ⟨a, b⟩ => ⟨a, b h⟩⟩
theorem le_foldQ (c : Nat) (l : List Pl) (p : Pl) : ∀ (L : List Pl) (m : Nat), c ≤ L.foldl (fun m q => deepQ l p q m) m ↔ c ≤ m ∧ ∀ q ∈ L, q ≠ p → ∀ s ∈ signsL, c ≤ DD l p (dirOf (q.1 - p.1) (q.2 - p.2) s)
  | [], m => by simp
  | q :: L, m => by
    rw [List.foldl_cons, le_foldQ c l p L, le_deepQ]
    simp only [List.mem_cons, forall_eq_or_imp]
    exact ⟨fun ⟨⟨a, b⟩, d⟩ => ⟨a, b, d⟩, fun ⟨a, b, d⟩ => ⟨⟨a, b⟩, d⟩⟩
theorem le_deepL (c : Nat) (l : List Pl) (p : Pl) : c ≤ deepL l p ↔ c ≤ l.length ∧ ∀ q ∈ l, q ≠ p → ∀ s ∈ signsL, c ≤ DD l p (dirOf (q.1 - p.1) (q.2 - p.2) s) := by
  rw [deepL, deepTo, List.take_length]
  exact le_foldQ c l p l l.length
theorem le_depth (c : Nat) (l : List Pl) (p : Pl) : c ≤ depthOf l p ↔ c ≤ l.length ∧ ∀ s ∈ slopesL 12, c ≤ DD l p s :=
  le_foldI c (fun s => cntAgr (galAt s p) l) (slopesL 12) l.length
/-- the law and the program count the same depth -/
theorem deep_depth {l : List Pl} {p : Pl} (hl : ∀ r ∈ l, NV.inG r) (hp : NV.inG p) : deepL l p = depthOf l p := by
  apply Nat.le_antisymm
  · obtain ⟨h1, h2⟩ := (le_deepL (deepL l p) l p).1 (Nat.le_refl _)
    refine (le_depth _ l p).2 ⟨h1, fun s _ => ?_⟩
    rcases DD_tilt hl hp s with h | ⟨q, hq, hne, h⟩
    · rw [h]; exact h1
    · exact Nat.le_trans (h2 q hq hne (1, 1) (by simp [signsL])) h
  · obtain ⟨h1, h2⟩ := (le_depth (depthOf l p) l p).1 (Nat.le_refl _)
    refine (le_deepL _ l p).2 ⟨h1, fun q _ _ s _ => ?_⟩
    rcases DD_slope hl hp (dirOf (q.1 - p.1) (q.2 - p.2) s) with h | ⟨m, hm, h⟩
    · rw [h]; exact h1
    · exact Nat.le_trans (h2 m hm) h

/-- a value that a quarter of the places, and no fewer, do not exceed -/
theorem quarter {l : List Pl} (h0 : l ≠ []) (f : Pl → Int) : ∃ c, l.length ≤ 4 * l.countP (fun r => decide (f r ≤ c)) ∧ 4 * l.countP (fun r => decide (f r < c)) < l.length := by
  have hpos : 0 < l.length := List.length_pos_iff.2 h0
  obtain ⟨a, ha, hmax⟩ := NV.ex_max f l h0
  have hne : (l.filter fun r => decide (l.length ≤ 4 * l.countP (fun t => decide (f t ≤ f r)))) ≠ [] := by
    refine List.ne_nil_of_mem (List.mem_filter.2 ⟨ha, ?_⟩)
    have : l.countP (fun t => decide (f t ≤ f a)) = l.length := List.countP_eq_length.2 fun r hr => by simpa using hmax r hr
    simp only [this, decide_eq_true_eq]
    omega
  obtain ⟨b, hb, hmin⟩ := NV.exists_min f _ hne
  obtain ⟨hb1, hb2⟩ := List.mem_filter.1 hb
  simp only [decide_eq_true_eq] at hb2
  refine ⟨f b, hb2, ?_⟩
  apply Classical.byContradiction
  intro hno
  have hne2 : (l.filter fun r => decide (f r < f b)) ≠ [] := by
    intro e
    have : l.countP (fun r => decide (f r < f b)) = 0 := by rw [List.countP_eq_length_filter, e]; rfl
    omega
  obtain ⟨d, hd, hdm⟩ := NV.ex_max f _ hne2
  obtain ⟨hd1, hd2⟩ := List.mem_filter.1 hd
  simp only [decide_eq_true_eq] at hd2
  have hle : l.countP (fun r => decide (f r < f b)) ≤ l.countP (fun r => decide (f r ≤ f d)) := by
    refine List.countP_mono_left fun r hr h => ?_
    simpa using hdm r (List.mem_filter.2 ⟨hr, h⟩)
  have := hmin d (List.mem_filter.2 ⟨hd1, by simp only [decide_eq_true_eq]; omega⟩)
  omega

theorem countP_or {α : Type} (f g : α → Bool) : ∀ l : List α, l.countP (fun r => f r || g r) ≤ l.countP f + l.countP g
  | [] => by simp
  | a :: l => by
    have := countP_or f g l
    simp only [List.countP_cons]
    cases f a <;> cases g a <;> simp <;> omega
theorem cover {α : Type} (l : List α) (f : Nat → α → Bool) : ∀ js : List Nat, (∀ i ∈ js, 4 * l.countP (f i) < l.length) → 4 * l.countP (fun r => js.any fun i => f i r) ≤ js.length * (l.length - 1)
  | [], _ => by simp
  | i :: js, h => by
    have h1 := cover l f js fun k hk => h k (by simp [hk])
    have h2 := h i (by simp)
    have h3 := countP_or (f i) (fun r => js.any fun i => f i r) l
    have e : l.countP (fun r => (i :: js).any fun i => f i r) = l.countP (fun r => f i r || js.any fun i => f i r) := rfl
    rw [e, List.length_cons, Nat.add_mul, Nat.one_mul]
    omega

/-- a place of the grid that has a quarter of the places on each side -/
theorem middle {l : List Pl} (hl : ∀ r ∈ l, NV.inG r) (h0 : l ≠ []) : ∃ p, NV.inG p ∧ ∀ s ∈ slopesL 12, l.length ≤ 4 * DD l p s := by
  have hpos : 0 < l.length := List.length_pos_iff.2 h0
  have hq := fun s : Int × Int => quarter h0 (NV.dt s)
  obtain ⟨c, hc⟩ := Classical.axiomOfChoice hq
  obtain ⟨S, hS⟩ : ∃ S, slopesL 12 = S := ⟨_, rfl⟩
  rw [hS]
  apply Classical.byContradiction
  intro hno
  have hcon : NV.Contra 7 (fun i => (-(S.getD i (0, 0)).1, -(S.getD i (0, 0)).2, -c (S.getD i (0, 0)))) (List.range S.length) := by
    intro p hp
    apply Classical.byContradiction
    intro hn
    refine hno ⟨p, ?_, fun s hs => ?_⟩
    · simp only [NV.inGrid] at hp
      simp only [NV.inG]
      omega
    · obtain ⟨i, hi, rfl⟩ := List.getElem_of_mem hs
      have ha : NV.agr (-(S.getD i (0, 0)).1, -(S.getD i (0, 0)).2, -c (S.getD i (0, 0))) p = true := by
        cases hb : NV.agr (-(S.getD i (0, 0)).1, -(S.getD i (0, 0)).2, -c (S.getD i (0, 0))) p with
        | true => rfl
        | false => exact absurd ⟨i, List.mem_range.2 hi, hb⟩ hn
      have eg : S.getD i (0, 0) = S[i] := by simp [List.getD_eq_getElem?_getD, List.getElem?_eq_getElem hi]
      rw [eg] at ha
      have hcp : c S[i] ≤ NV.dt S[i] p := by
        simp only [NV.agr, NV.val, decide_eq_true_eq, Int.neg_mul] at ha
        simp only [NV.dt]
        omega
      refine Nat.le_trans (hc S[i]).1 (Nat.mul_le_mul_left 4 ?_)
      refine List.countP_mono_left fun r hr h => ?_
      simp only [decide_eq_true_eq] at h ⊢
      omega
  obtain ⟨js, hsub, hlen, hj⟩ := NV.contra_four 7 _ S.length (List.range S.length) (by simp) List.nodup_range hcon
  have hcov := cover l (fun i r => decide (NV.dt (S.getD i (0, 0)) r < c (S.getD i (0, 0)))) js (fun i _ => (hc (S.getD i (0, 0))).2)
  have hall : l.countP (fun r => js.any fun i => decide (NV.dt (S.getD i (0, 0)) r < c (S.getD i (0, 0)))) = l.length := by
    refine List.countP_eq_length.2 fun r hr => ?_
    have hin := hl r hr
    obtain ⟨i, hi, ha⟩ := hj r (by simp only [NV.inG] at hin; simp only [NV.inGrid]; omega)
    refine List.any_eq_true.2 ⟨i, hi, ?_⟩
    simp only [NV.agr, NV.val, decide_eq_false_iff_not, Int.neg_mul] at ha
    rw [decide_eq_true_eq]
    have e : NV.dt (S.getD i (0, 0)) r = (S.getD i (0, 0)).1 * r.1 + (S.getD i (0, 0)).2 * r.2 := rfl
    generalize NV.dt (S.getD i (0, 0)) r = D at *
    omega
  rw [hall] at hcov
  have := Nat.mul_le_mul_right (l.length - 1) hlen
  omega

/-- the deepest place is as deep as each place of the grid -/
theorem foldC_ge (ps : List Pl) : ∀ (L : List Pl) (s : Pl × Int), s.2 ≤ (L.foldl (cStep ps) s).2 ∧ ∀ p ∈ L, (depthOf ps p : Int) ≤ (L.foldl (cStep ps) s).2
  | [], s => by simp
  | q :: L, s => by
    obtain ⟨h1, h2⟩ := foldC_ge ps L (cStep ps s q)
    rw [List.foldl_cons]
    have h3 : s.2 ≤ (cStep ps s q).2 ∧ (depthOf ps q : Int) ≤ (cStep ps s q).2 := by
      unfold cStep
      split
      · simp only; omega
      · omega
    refine ⟨by omega, fun p hp => ?_⟩
    rcases List.mem_cons.1 hp with rfl | hp
    · omega
    · exact h2 p hp
theorem cent_ge {ps : List Pl} {p : Pl} (hp : NV.inG p) : (depthOf ps p : Int) ≤ (centTo ps 7 0).2 := by
  refine (foldC_ge ps (cols 7 7 ++ rowL 7 0) ((0, 0), -1)).2 p ?_
  obtain ⟨⟨a, b⟩, c, d⟩ := hp
  have key : ((List.range 7).all fun i : Nat => (List.range 7).all fun j : Nat => (cols 7 7 ++ rowL 7 0).contains ((i : Int), (j : Int))) = true := by decide +kernel
  have := List.all_eq_true.1 (List.all_eq_true.1 key p.1.toNat (List.mem_range.2 (by omega))) p.2.toNat (List.mem_range.2 (by omega))
  rw [List.contains_iff_mem] at this
  have e : (((p.1.toNat : Nat) : Int), ((p.2.toNat : Nat) : Int)) = p := Prod.ext (by simp only; omega) (by simp only; omega)
  rwa [e] at this
theorem cent_quarter {l : List Pl} (h : RowUp l) : (l.length : Int) ≤ 4 * (centTo l 7 0).2 := by
  obtain ⟨p, hp, hs⟩ := middle h.2.2.1 h.1
  have h1 := cent_ge (ps := l) hp
  have h2 : (l.length + 3) / 4 ≤ depthOf l p := (le_depth _ l p).2 ⟨by omega, fun s hs' => by have := hs s hs'; omega⟩
  omega
/-- a place of a depth of 0 is one that a line tells apart -/
theorem depth_zero {l : List Pl} {p : Pl} (h : RowUp l) (hp : NV.inG p) : (depthOf l p = 0) ↔ sepB l [p] = true := by
  have hpos : 0 < l.length := List.length_pos_iff.2 h.1
  rw [sepB_any h.1 (by simp) h.2.2.1 (one_in hp)]
  constructor
  · intro h0
    have h1 : ¬ 1 ≤ depthOf l p := by omega
    rw [le_depth] at h1
    have h2 : ∃ s ∈ slopesL 12, ¬ 1 ≤ DD l p s := by
      apply Classical.byContradiction
      intro hno
      exact h1 ⟨by omega, fun s hs => by
        apply Classical.byContradiction
        intro hx
        exact hno ⟨s, hs, hx⟩⟩
    obtain ⟨s, _, hs⟩ := h2
    have hz : DD l p s = 0 := by omega
    have hz' := List.countP_eq_zero.1 hz
    refine ⟨(-s.1, -s.2), NV.sep_swap (fun q hq r hr => ?_)⟩
    obtain rfl := List.mem_singleton.1 hq
    have := hz' r hr
    simp only [decide_eq_true_eq] at this
    omega
  · rintro ⟨n, hn⟩
    have hs := NV.sep_swap hn
    have hd : DD l p (-n.1, -n.2) = 0 := List.countP_eq_zero.2 fun r hr => by
      have := hs p (by simp) r hr
      simp only [decide_eq_true_eq]
      omega
    apply Classical.byContradiction
    intro hne
    have h1 : 1 ≤ depthOf l p := by omega
    obtain ⟨_, h2⟩ := (le_depth 1 l p).1 h1
    rcases DD_slope h.2.2.1 hp (-n.1, -n.2) with h3 | ⟨s, hs', h3⟩
    · omega
    · have := h2 s hs'; omega
end Go.Proofs.Ytcalipoknbbaaaa
namespace Go.Proofs.Ytcalipoknbbaaaa
open Go.RowKit
set_option linter.unusedSimpArgs false
set_option linter.unusedVariables false
attribute [local go_sem ↓] equalP

theorem deepS_succ (l : List Pl) (p : Pl) (d : Int × Int) (t : Nat) (h : t < l.length) :
    deepS (l.take (t + 1)) p d = deepS (l.take t) p d + (if d.1 * ((l.getD t (0, 0)).1 - p.1) + d.2 * ((l.getD t (0, 0)).2 - p.2) ≤ 0 then 1 else 0) := by
  rw [List.take_succ_eq_append_getElem h, getD_eq l t (0, 0) h]
  simp only [deepS, List.countP_append, List.countP_singleton, decide_eq_true_eq]

set_option maxRecDepth 100000 in
set_option maxHeartbeats 8000000 in
theorem deep_any (q : Option Addr) (c : Nat) (l : List Pl) (p : Pl) (w : World) (hr : RowP w q l) (hl : ∀ r ∈ l, NV.inG r) (hp : NV.inG p) (hll : l.length ≤ 12) :
    Calls Try.prog 89 #[.slice q l.length c, .agg #[.int .i64 p.1, .int .i64 p.2]] w fun e w' => e = .returned (.int .i64 (deepL l p : Nat)) ∧ Below w.heap.size w w' := by
  have HR := Lib.hid hr
  have HL := Lib.hid hl
  have hb0 : Below w.heap.size w (w.alloc (.cells #[.int .i64 p.1, .int .i64 p.2] 26)) := (Below.refl _ _).alloc (Nat.le_refl _) _
  have HB0 := Lib.hid hb0
  have hP0 : PlaceAt (w.alloc (.cells #[.int .i64 p.1, .int .i64 p.2] 26)) w.heap.size p := ⟨by simp, by simp, by simp⟩
  have HP0 := Lib.hid hP0
  have HPIN := Lib.hid hp
  clear hr hl hb0 hP0
  go_enter Try.func89, Try.ntmps89
  go_wp2
  go_loopw [5, 21] (fun v i wr => ∃ k : Nat, k ≤ l.length ∧ i = .int .i64 k ∧ v = .int .i64 (deepTo l p k : Nat) ∧ Below w.heap.size w wr ∧ PlaceAt wr w.heap.size p) (fun _ i _ => l.length - (intOf i).toNat)
  case atStart => exact ⟨0, Nat.zero_le _, rfl, rfl, HB0.out, HP0.out⟩
  case round =>
    obtain ⟨k, hk, rfl, rfl, hbel, hpa⟩ := hrel
    have HBEL := Lib.hid hbel
    have HPA := Lib.hid hpa
    clear hbel hpa
    by_cases hlt : k < l.length
    · obtain ⟨bb, off, rfl, hbz, g1, g2⟩ := HR.out.at hlt (Nat.le_refl _) HBEL.out
      have hqin := HL.out _ (getD_mem l k (0, 0) hlt)
      have hst := deepTo_succ l p k hlt
      generalize l.getD k (0, 0) = y at *
      have HST := Lib.hid hst
      have HQIN := Lib.hid hqin
      obtain ⟨m1, m2, m3⟩ := HPA.out
      have HP3 := Lib.hid (HPA.out.below (Nat.le_refl _) ((Below.refl _ wr).alloc (Nat.le_refl _) (.cells #[.int .i64 y.1, .int .i64 y.2] 26)))
      have HB3 := Lib.hid (HBEL.out.alloc HBEL.out.size (.cells #[.int .i64 y.1, .int .i64 y.2] 26))
      clear hst hqin
      cases hpy : plEq y p with
      | true =>
        have hyp : y = p := by simpa [plEq] using hpy
        have hno : deepTo l p (k + 1) = deepTo l p k := by rw [HST.out, deepQ, if_pos hyp]
        have HNX := Lib.hid hno
        clear hno hyp
        go_wp2
        go_roundw
        case rel => exact ⟨k + 1, hlt, by go_num, by rw [HNX.out], HB3.out, HP3.out⟩
        case measure => simp [intOf]; omega
      | false =>
        have hyp : y ≠ p := by intro e; rw [e] at hpy; simp [plEq] at hpy
        have ht : deepTo l p (k + 1) = deepI l p y 4 (deepTo l p k) := by rw [HST.out, deepQ, if_neg hyp]
        have HT := Lib.hid ht
        clear hyp ht HST
        obtain ⟨⟨i1, i2⟩, i3, i4⟩ := HPIN.out
        obtain ⟨⟨j1, j2⟩, j3, j4⟩ := HQIN.out
        obtain ⟨dx, hdx⟩ : ∃ dx, y.1 - p.1 = dx := ⟨_, rfl⟩
        obtain ⟨dy, hdy⟩ : ∃ dy, y.2 - p.2 = dy := ⟨_, rfl⟩
        have HDX := Lib.hid hdx
        have HDY := Lib.hid hdy
        have hdx6 : -6 ≤ dx ∧ dx ≤ 6 := by omega
        have hdy6 : -6 ≤ dy ∧ dy ≤ 6 := by omega
        have w1' : IntKind.i64.wrap (y.1 - p.1) = dx := by rw [IntWalk.i64_in _ ⟨by omega, by omega⟩, hdx]
        have w2' : IntKind.i64.wrap (y.2 - p.2) = dy := by rw [IntWalk.i64_in _ ⟨by omega, by omega⟩, hdy]
        have HW1 := Lib.hid w1'
        have HW2 := Lib.hid w2'
        clear hdx hdy w1' w2' i1 i2 i3 i4 j1 j2 j3 j4
        go_wp2
        have w1' := HW1.out
        have w2' := HW2.out
        go_quiet (fail)
        clear w1' w2'
        go_wp2
        generalize hM : deepTo l p k = M0 at *
        have HM := Lib.hid hM
        clear hM
        go_loopw [5, 43] (fun v i wr => ∃ j : Nat, j ≤ 4 ∧ i = .int .i64 j ∧ v = .int .i64 (deepI l p y j M0 : Nat) ∧ Below w.heap.size w wr ∧ PlaceAt wr w.heap.size p) (fun _ i _ => 4 - (intOf i).toNat)
        case atStart => exact ⟨0, Nat.zero_le _, rfl, rfl, below_drewN HB3.out _, HP3.out.below (Nat.le_refl _) (below_drewN (Below.refl _ _) _)⟩
        case round =>
          obtain ⟨j, hj, rfl, rfl, hbel, hpa⟩ := hrel
          have HBEL3 := Lib.hid hbel
          have HPA3 := Lib.hid hpa
          clear hbel hpa
          by_cases hj4 : j < 4
          · have hix := idx171 j hj4
            obtain ⟨hs0, hs1⟩ := signs_one j hj4
            have hst3 := deepI_succ l p y j M0 hj4
            generalize signsL.getD j (0, 0) = s at *
            obtain ⟨s0, s1⟩ := s
            dsimp only at hix hs0 hs1 hst3
            have HIX := Lib.hid hix
            rw [HDX.out, HDY.out] at hst3
            obtain ⟨m1, hm1⟩ : ∃ m1, -300 * dy = m1 := ⟨_, rfl⟩
            obtain ⟨m2, hm2⟩ : ∃ m2, m1 * s0 = m2 := ⟨_, rfl⟩
            obtain ⟨m3, hm3⟩ : ∃ m3, dx * s1 = m3 := ⟨_, rfl⟩
            obtain ⟨m4, hm4⟩ : ∃ m4, 300 * dx = m4 := ⟨_, rfl⟩
            obtain ⟨m5, hm5⟩ : ∃ m5, m4 * s0 = m5 := ⟨_, rfl⟩
            obtain ⟨m6, hm6⟩ : ∃ m6, dy * s1 = m6 := ⟨_, rfl⟩
            obtain ⟨u, hu⟩ : ∃ u, m2 + m3 = u := ⟨_, rfl⟩
            obtain ⟨v, hv⟩ : ∃ v, m5 + m6 = v := ⟨_, rfl⟩
            have hb2 := one_mul_bd (x := m1) (b := 1800) hs0 (by omega)
            have hb3 := one_mul_bd (x := dx) (b := 6) hs1 (by omega)
            have hb5 := one_mul_bd (x := m4) (b := 1800) hs0 (by omega)
            have hb6 := one_mul_bd (x := dy) (b := 6) hs1 (by omega)
            rw [hm2] at hb2
            rw [hm3] at hb3
            rw [hm5] at hb5
            rw [hm6] at hb6
            have hdir : dirOf dx dy (s0, s1) = (u, v) := by
              simp only [dirOf]
              rw [hm1, hm2, hm3, hm4, hm5, hm6, hu, hv]
            rw [hdir] at hst3
            have HST3 := Lib.hid hst3
            have hub : -1806 ≤ u ∧ u ≤ 1806 := by omega
            have hvb : -1806 ≤ v ∧ v ≤ 1806 := by omega
            have E1 := Lib.hid (show IntKind.i64.wrap (-300 * dy) = m1 by rw [IntWalk.i64_in _ ⟨by omega, by omega⟩, hm1])
            have E2 := Lib.hid (show IntKind.i64.wrap (m1 * s0) = m2 by rw [hm2, IntWalk.i64_in _ ⟨by omega, by omega⟩])
            have E3 := Lib.hid (show IntKind.i64.wrap (dx * s1) = m3 by rw [hm3, IntWalk.i64_in _ ⟨by omega, by omega⟩])
            have E4 := Lib.hid (show IntKind.i64.wrap (300 * dx) = m4 by rw [IntWalk.i64_in _ ⟨by omega, by omega⟩, hm4])
            have E5 := Lib.hid (show IntKind.i64.wrap (m4 * s0) = m5 by rw [hm5, IntWalk.i64_in _ ⟨by omega, by omega⟩])
            have E6 := Lib.hid (show IntKind.i64.wrap (dy * s1) = m6 by rw [hm6, IntWalk.i64_in _ ⟨by omega, by omega⟩])
            have E7 := Lib.hid (show IntKind.i64.wrap (m2 + m3) = u by rw [IntWalk.i64_in _ ⟨by omega, by omega⟩, hu])
            have E8 := Lib.hid (show IntKind.i64.wrap (m5 + m6) = v by rw [IntWalk.i64_in _ ⟨by omega, by omega⟩, hv])
            clear hix hst3 hm1 hm2 hm3 hm4 hm5 hm6 hu hv hb2 hb3 hb5 hb6 hdir hs0 hs1
            have hix := HIX.out
            go_upto_region 10 with fail
            clear hix
            have e1 := E1.out
            have e2 := E2.out
            have e3 := E3.out
            have e4 := E4.out
            have e5 := E5.out
            have e6 := E6.out
            have e7 := E7.out
            have e8 := E8.out
            go_quiet (fail)
            clear e1 e2 e3 e4 e5 e6 e7 e8
            have X1 := Lib.hid (HBEL3.out.alloc HBEL3.out.size (.cells #[.int .i64 s0, .int .i64 s1] 170))
            have X3 := Lib.hid (HPA3.out.below (Nat.le_refl _) ((Below.refl _ wr).alloc (Nat.le_refl _) (.cells #[.int .i64 s0, .int .i64 s1] 170)))
            go_wp2
            go_loopw [14, 68] (fun n i wr => ∃ t : Nat, t ≤ l.length ∧ i = .int .i64 t ∧ n = .int .i64 (deepS (l.take t) p (u, v) : Nat) ∧ Below w.heap.size w wr ∧ PlaceAt wr w.heap.size p) (fun _ i _ => l.length - (intOf i).toNat)
            case atStart => exact ⟨0, Nat.zero_le _, rfl, rfl, below_drewN X1.out _, X3.out.below (Nat.le_refl _) (below_drewN (Below.refl _ _) _)⟩
            case round =>
              obtain ⟨t, htl, rfl, rfl, hbel, hpa⟩ := hrel
              have Y1 := Lib.hid hbel
              have Y3 := Lib.hid hpa
              clear hbel hpa
              have hcl : deepS (l.take t) p (u, v) ≤ t := Nat.le_trans List.countP_le_length (List.length_take_le _ _)
              by_cases hca : t < l.length
              · obtain ⟨bb3, off3, e3, hbz3, r1, r2⟩ := HR.out.at hca (Nat.le_refl _) Y1.out
                obtain ⟨rfl, rfl⟩ : bb3 = bb ∧ off3 = off := by simpa using e3.symm
                have hin := HL.out _ (getD_mem l t (0, 0) hca)
                have hmx := deepS_succ l p (u, v) t hca
                generalize l.getD t (0, 0) = z at *
                obtain ⟨z1, z2⟩ := z
                obtain ⟨⟨g3, g4⟩, g5, g6⟩ := hin
                dsimp only at hmx g3 g4 g5 g6 r1 r2
                obtain ⟨⟨i1, i2⟩, i3, i4⟩ := HPIN.out
                obtain ⟨n1, n2, n3⟩ := Y3.out
                obtain ⟨ex, hex⟩ : ∃ ex, z1 - p.1 = ex := ⟨_, rfl⟩
                obtain ⟨ey, hey⟩ : ∃ ey, z2 - p.2 = ey := ⟨_, rfl⟩
                rw [hex, hey] at hmx
                have hexb : -6 ≤ ex ∧ ex ≤ 6 := by omega
                have heyb : -6 ≤ ey ∧ ey ≤ 6 := by omega
                have k1 := mul_small (a := 1806) (b := 6) (x := u) (y := ex) ⟨by omega, by omega⟩ ⟨by omega, by omega⟩
                have k2 := mul_small (a := 1806) (b := 6) (x := v) (y := ey) ⟨by omega, by omega⟩ ⟨by omega, by omega⟩
                obtain ⟨k11, k12⟩ := k1
                obtain ⟨k21, k22⟩ := k2
                obtain ⟨t1, ht1⟩ : ∃ t1, u * ex = t1 := ⟨_, rfl⟩
                obtain ⟨t2, ht2⟩ : ∃ t2, v * ey = t2 := ⟨_, rfl⟩
                obtain ⟨t3, ht3⟩ : ∃ t3, t1 + t2 = t3 := ⟨_, rfl⟩
                rw [ht1] at k11 k12 hmx
                rw [ht2] at k21 k22 hmx
                rw [ht3] at hmx
                have f0 : IntKind.i64.wrap (z1 - p.1) = ex := by rw [IntWalk.i64_in _ ⟨by omega, by omega⟩, hex]
                have f00 : IntKind.i64.wrap (z2 - p.2) = ey := by rw [IntWalk.i64_in _ ⟨by omega, by omega⟩, hey]
                have f1 : IntKind.i64.wrap (u * ex) = t1 := by rw [ht1, IntWalk.i64_in _ ⟨by omega, by omega⟩]
                have f2 : IntKind.i64.wrap (v * ey) = t2 := by rw [ht2, IntWalk.i64_in _ ⟨by omega, by omega⟩]
                have f3 : IntKind.i64.wrap (t1 + t2) = t3 := by rw [ht3, IntWalk.i64_in _ ⟨by omega, by omega⟩]
                have Z1 := Lib.hid (Y1.out.alloc Y1.out.size (.cells #[.int .i64 z1, .int .i64 z2] 26))
                have Z3 := Lib.hid (Y3.out.below (Nat.le_refl _) ((Below.refl _ wr).alloc (Nat.le_refl _) (.cells #[.int .i64 z1, .int .i64 z2] 26)))
                have hnb : w.heap.size ≠ wr.heap.size := by omega
                clear hex hey ht1 ht2 ht3 k11 k12 k21 k22 i1 i2 i3 i4 e3
                by_cases ht3 : t3 ≤ 0
                · rw [if_pos ht3] at hmx
                  have HMX := Lib.hid hmx
                  clear hmx
                  go_wp2
                  go_roundw
                  case rel => exact ⟨t + 1, hca, by go_num, by rw [HMX.out]; go_num, Z1.out, Z3.out⟩
                  case measure => simp [intOf]; omega
                · rw [if_neg ht3] at hmx
                  have HMX := Lib.hid hmx
                  clear hmx
                  go_wp2
                  go_roundw
                  case rel => exact ⟨t + 1, hca, by go_num, by rw [HMX.out]; rfl, Z1.out, Z3.out⟩
                  case measure => simp [intOf]; omega
              · obtain rfl : t = l.length := by omega
                rw [List.take_length]
                have h3 := HST3.out
                go_wp2
                go_roundw
                case rel => exact ⟨j + 1, hj4, by go_num, by rw [h3]; congr 1; omega, Y1.out, Y3.out⟩
                case measure => simp [intOf]; omega
          · obtain rfl : j = 4 := by omega
            have ht := HT.out
            have HTT := Lib.hid ht
            clear ht
            go_wp2
            go_roundw
            case rel => exact ⟨k + 1, hlt, by go_num, by rw [HTT.out], HBEL3.out, HPA3.out⟩
            case measure => simp [intOf]; omega
    · obtain rfl : k = l.length := by omega
      go_wp2
      go_ret
      exact ⟨rfl, HBEL.out⟩
end Go.Proofs.Ytcalipoknbbaaaa
namespace Go.Proofs.Ytcalipoknbbaaaa
open Go.RowKit
set_option linter.unusedSimpArgs false
set_option linter.unusedVariables false
attribute [local go_sem] equal26 guard26

theorem cent_le (ps : List Pl) : ∀ (L : List Pl) (s : Pl × Int), s.2 ≤ ps.length → (L.foldl (cStep ps) s).2 ≤ ps.length
  | [], s, h => h
  | q :: L, s, h => by
    rw [List.foldl_cons]
    refine cent_le ps L _ ?_
    have := depthTo_le ps q (slopesL 12)
    unfold cStep
    split
    · simp only [depthOf]; omega
    · exact h
theorem depthR_ok {l : List Pl} {p : Pl} (h : RowUp l) (hp : NV.inG p) : depthR l p = ((depthOf l p : Int), 0) := by
  have he : errPP l p = 0 := by rw [errPP, h.err, if_neg (by simp), if_neg (by rw [inG_onG hp]; simp)]
  rw [depthR, if_neg (by simp [he])]
theorem centreOf_ok {l : List Pl} (h : RowUp l) : centreOf l = ((centTo l 7 0).1, (centTo l 7 0).2, 0) := by rw [centreOf, if_neg (by simp [h.err])]
/-- whether Within has an error, and whether the depth is 0 -/
theorem within_depth {l : List Pl} {p : Pl} (h : RowUp l) (hp : NV.inG p) : ∃ wl we, withinOf l p = (wl, we) ∧ ((we = 0 ∧ 0 < depthOf l p) ∨ (we = 12 ∧ depthOf l p = 0)) := by
  have he : errPP l p = 0 := by rw [errPP, h.err, if_neg (by simp), if_neg (by rw [inG_onG hp]; simp)]
  have hz := depth_zero h hp
  cases hs : sepB l [p] with
  | true => exact ⟨[], 12, by rw [withinOf, if_neg (by simp [he]), if_pos hs], .inr ⟨rfl, hz.2 hs⟩⟩
  | false =>
    refine ⟨_, 0, by rw [withinOf, if_neg (by simp [he]), if_neg (by simp [hs])], .inl ⟨rfl, ?_⟩⟩
    apply Classical.byContradiction
    intro hno
    have := hz.1 (by omega)
    rw [hs] at this
    simp at this

set_option maxRecDepth 100000 in
set_option maxHeartbeats 8000000 in
theorem SeamMiddle_any (m : Nat) (ls : List B2) (hm : m < 256) (hls : ls.length = 12) (hok : ∀ x ∈ ls, ok2 x) (x : B2) (hx : ok2 x) (w : World) :
    Calls Try.prog 16 #[.agg (spotCells m ls), .agg #[.int .u8 x.1, .int .u8 x.2]] w fun e w' => e = .returned (.bool true) ∧ Below w.heap.size w w' := by
  obtain ⟨x0, x1⟩ := x
  obtain ⟨hx0, hx1⟩ := hx
  have c0 := fun W => mades_any m ls hm hls hok W
  have C0 := Lib.hid c0
  have HLS := Lib.hid hls
  have HSP := Lib.hid ((SpotAt.new w m ls).below (N := w.heap.size + 1) (by omega) ((Below.refl _ _).alloc (by simp) (.cells #[.int .u8 x0, .int .u8 x1] 110)))
  have HB0 := Lib.hid (below_two w (.cells (spotCells m ls) 113) (.cells #[.int .u8 x0, .int .u8 x1] 110))
  have y0 := Nat.mod_lt x0 (show 0 < 7 by decide)
  have y1 := Nat.mod_lt x1 (show 0 < 7 by decide)
  clear c0 hls hok hm
  go_enter Try.func16, Try.ntmps16
  go_upto_region 2 with (first
    | (refine wpList_load113 _ _ m ls HLS.out HSP.out (.tmp 2) rfl rfl rfl ?_)
    | (go_at_call 79; refine (C0.out _).mono ?_; rintro e w1 ⟨l, q, c, rfl, hup, hr1, hq1, hb1⟩))
  have z1 := hb1.size
  have hz1 : w.heap.size + 2 ≤ w1.heap.size := by simpa using z1
  have b0 : w1.cell? ⟨w.heap.size + 1, 0, none⟩ = some (.int .u8 x0) := (hb1.cell (p := ⟨w.heap.size + 1, 0, none⟩) (by simp)).trans (by simp)
  have b1 : w1.cell? ⟨w.heap.size + 1, 1, none⟩ = some (.int .u8 x1) := (hb1.cell (p := ⟨w.heap.size + 1, 1, none⟩) (by simp)).trans (by simp)
  have hI : Inv w w1 [] [(q, l)] [] [(w.heap.size + 1, 1, .int .u8 x1), (w.heap.size + 1, 0, .int .u8 x0)] :=
    ((((Inv.start w).go (HB0.out.trans (hb1.mono (by simp; omega)))).addP hr1).addC b0 (by omega)).addC b1 (by omega)
  have HI1 := Lib.hid hI
  have HUP := Lib.hid hup
  have hl12 := hup.2.1
  have HR1 := Lib.hid hr1
  have HIG := Lib.hid hup.2.2.1
  clear hI hb1 hr1 hq1 z1 b0 b1 C0 HLS HSP HB0 hup
  go_upto_region 5 with fail
  go_loopw [7, 21] (fun d i wr => ∃ k : Nat, k ≤ 7 ∧ i = .int .i64 k ∧ d = .int .i64 (centTo l k 0).2 ∧ Cell2 wr w1.heap.size (.int .i64 (centTo l k 0).1.1) (.int .i64 (centTo l k 0).1.2) ∧ Below w1.heap.size w1 wr) (fun _ i _ => 7 - (intOf i).toNat)
  case atStart => exact ⟨0, Nat.zero_le _, rfl, by rw [centTo_zero], by rw [centTo_zero]; exact ⟨by simp, by simp, by simp, by simp, by simp⟩, (Below.refl _ _).alloc (Nat.le_refl _) _⟩
  case round =>
    obtain ⟨k, hk, rfl, rfl, hcell, hbel⟩ := hrel
    have HCE := Lib.hid hcell
    have HBE := Lib.hid hbel
    clear hcell hbel
    by_cases hlt : k < 7
    · have hltI : (k : Int) < 7 := by omega
      obtain ⟨wo, hwo⟩ : ∃ wo : World, wo = wr := ⟨_, rfl⟩
      go_wp2
      go_loopw [7, 24] (fun d j wr => ∃ n : Nat, n ≤ 7 ∧ j = .int .i64 n ∧ d = .int .i64 (centTo l k n).2 ∧ Cell2 wr w1.heap.size (.int .i64 (centTo l k n).1.1) (.int .i64 (centTo l k n).1.2) ∧ Below w1.heap.size w1 wr) (fun _ j _ => 7 - (intOf j).toNat)
      case atStart => exact ⟨0, Nat.zero_le _, rfl, rfl, HCE.out, HBE.out⟩
      case round =>
        clear HCE HBE
        obtain ⟨n, hn', rfl, rfl, hcell', hbel'⟩ := hrel
        by_cases hlt' : n < 7
        · have hltI' : (n : Int) < 7 := by omega
          have hst := centTo_step l k n
          have hpi : NV.inG ((k : Int), (n : Int)) := ⟨⟨by simp only; omega, by simp only; omega⟩, by simp only; omega, by simp only; omega⟩
          have c2 := deep_any q c l ((k : Int), (n : Int)) (wr.alloc (.cells #[.int .i64 k, .int .i64 n] 26)) ((HR1.out.below (Nat.le_refl _) hbel').below (Nat.le_refl _) ((Below.refl _ _).alloc (Nat.le_refl _) _)) HIG.out hpi hl12
          rw [deep_depth HIG.out hpi] at c2
          unfold cStep at hst
          generalize depthOf l ((k : Int), (n : Int)) = dd at c2 hst
          have HS := Lib.hid hst
          have C2 := Lib.hid c2
          have HC := Lib.hid hcell'
          have hw1 := hbel'.size
          have hcs := hcell'.1
          have hnb : w1.heap.size ≠ wr.heap.size := by omega
          clear c2 hst hcell' hpi
          generalize hct : centTo l k n = ct at HS HC ⊢
          go_wp2_with (go_at_call 89; refine C2.out.mono ?_; rintro e w2 ⟨rfl, hb2⟩; have ha2 : Below wr.heap.size wr w2 := al0 ((Below.refl _ _).alloc (Nat.le_refl _) _) hb2 (by simp <;> omega); have hz2 : wr.heap.size < w2.heap.size := (by have := hb2.size; simp at this; omega); have HC2 := Lib.hid (HC.out.below hcs ha2); obtain ⟨y0, y1, y2, y3, y4⟩ := HC2.out; have p1 : w2.cell? ⟨wr.heap.size, 0, none⟩ = some (.int .i64 k) := (hb2.cell (p := ⟨wr.heap.size, 0, none⟩) (by simp)).trans (by simp); have p2 : w2.cell? ⟨wr.heap.size, 1, none⟩ = some (.int .i64 n) := (hb2.cell (p := ⟨wr.heap.size, 1, none⟩) (by simp)).trans (by simp))
          · have hy : ct.2 < (dd : Int) := by assumption
            have e1 := HS.out.trans (if_pos hy)
            have hbn := ((hbel'.trans (ha2.mono hw1)).setCell (p := ⟨w1.heap.size, 0, none⟩) (Nat.le_refl _) (.int .i64 k)).setCell (p := ⟨w1.heap.size, 1, none⟩) (Nat.le_refl _) (.int .i64 n)
            go_roundw
            case rel => exact ⟨n + 1, by omega, by go_num, by rw [e1], by rw [e1]; exact HC2.out.set _ _, hbn⟩
            case measure => simp [intOf]; omega
          · have hy : (dd : Int) ≤ ct.2 := by assumption
            have e1 := HS.out.trans (if_neg (by omega))
            go_roundw
            case rel => exact ⟨n + 1, by omega, by go_num, by rw [e1], by rw [e1]; exact HC2.out, hbel'.trans (ha2.mono hw1)⟩
            case measure => simp [intOf]; omega
        · obtain rfl : n = 7 := by omega
          go_wp2
          go_roundw
          case rel => exact ⟨k + 1, by omega, by go_num, by rw [← centTo_col], by rw [← centTo_col]; exact hcell', hbel'⟩
          case measure => simp [intOf]; omega
    · obtain rfl : k = 7 := by omega
      have hcq := cent_quarter HUP.out
      have hcl := cent_le l (cols 7 7 ++ rowL 7 0) ((0, 0), -1) (by simp only; omega)
      have hcl' : (centTo l 7 0).2 ≤ l.length := hcl
      have hge := fun p (hp : NV.inG p) => cent_ge (ps := l) hp
      have hco := centreOf_ok HUP.out
      obtain ⟨y0, y1, y2, _, _⟩ := HCE.out
      generalize centTo l 7 0 = ct at *
      obtain ⟨⟨ca, cb⟩, cd⟩ := ct
      dsimp only at hcq hcl' hge hco y1 y2
      have HGE := Lib.hid hge
      have HCO := Lib.hid hco
      have hI : Inv w wr [] [(q, l)] [] [(w1.heap.size, 1, .int .i64 cb), (w1.heap.size, 0, .int .i64 ca), (w.heap.size + 1, 1, .int .u8 x1), (w.heap.size + 1, 0, .int .u8 x0)] :=
        ((HI1.out.go HBE.out).addC y1 y0).addC y2 y0
      have HI := Lib.hid hI
      generalize w1.heap.size = B6 at *
      clear hI hcl hge hco y0 y1 y2 HCE HBE HI1 HR1
      go_upto_region 17 with (go_at_call 61; refine (HI.out.scalar (V' := .tuple #[.agg #[.int .i64 ca, .int .i64 cb], .int .i64 cd, .int .i64 0]) (Centre_any q c l _ (HI.out.2.1 (q, l) (by simp))) (by rw [HCO.out])).mono ?_; rintro e W ⟨rfl, hI⟩; replace HI := Lib.hid hI; clear hI)
      have hI : Inv w (W.alloc (.cells #[.int .i64 ca, .int .i64 cb] 26)) [] [(q, l)] [] [(W.heap.size, 1, .int .i64 cb), (W.heap.size, 0, .int .i64 ca), (B6, 1, .int .i64 cb), (B6, 0, .int .i64 ca), (w.heap.size + 1, 1, .int .u8 x1), (w.heap.size + 1, 0, .int .u8 x0)] :=
        ((HI.out.alloc (.cells #[.int .i64 ca, .int .i64 cb] 26)).addC (b := W.heap.size) (o := 0) (v := .int .i64 ca) (by simp) (by simp)).addC (b := W.heap.size) (o := 1) (v := .int .i64 cb) (by simp) (by simp)
      replace HI := Lib.hid hI
      generalize (W.alloc (.cells #[.int .i64 ca, .int .i64 cb] 26)) = W2 at *
      generalize W.heap.size = B12 at *
      clear hI
      have k0 := HI.out.c (b := B12) (o := 0) (v := .int .i64 ca) (by simp)
      have k1 := HI.out.c (b := B12) (o := 1) (v := .int .i64 cb) (by simp)
      have k2 := HI.out.c (b := B6) (o := 0) (v := .int .i64 ca) (by simp)
      have k3 := HI.out.c (b := B6) (o := 1) (v := .int .i64 cb) (by simp)
      have k4 := HI.out.c (b := w.heap.size + 1) (o := 0) (v := .int .u8 x0) (by simp)
      have k5 := HI.out.c (b := w.heap.size + 1) (o := 1) (v := .int .u8 x1) (by simp)
      have hm4 : IntKind.i64.wrap (4 * cd) = 4 * cd := IntWalk.i64_in _ ⟨by omega, by omega⟩
      have hlt4 : decide (4 * cd < (l.length : Int)) = false := decide_eq_false (by omega)
      go_upto_region 20 with fail
      obtain ⟨p1, e1⟩ : ∃ p1 : Int, (x0 : Int) % 7 = p1 := ⟨_, rfl⟩
      obtain ⟨p2, e2⟩ : ∃ p2 : Int, (x1 : Int) % 7 = p2 := ⟨_, rfl⟩
      rw [e1, e2]
      have hp : NV.inG (p1, p2) := ⟨by simp only; omega, by simp only; omega⟩
      clear e1 e2 k0 k1 k2 k3 k4 k5 hm4 hlt4 y0 y1
      have hI : Inv w (W2.alloc (.cells #[.int .i64 p1, .int .i64 p2] 26)) [] [(q, l)] [] [(W2.heap.size, 1, .int .i64 p2), (W2.heap.size, 0, .int .i64 p1), (B12, 1, .int .i64 cb), (B12, 0, .int .i64 ca), (B6, 1, .int .i64 cb), (B6, 0, .int .i64 ca), (w.heap.size + 1, 1, .int .u8 x1), (w.heap.size + 1, 0, .int .u8 x0)] :=
        ((HI.out.alloc (.cells #[.int .i64 p1, .int .i64 p2] 26)).addC (b := W2.heap.size) (o := 0) (v := .int .i64 p1) (by simp) (by simp)).addC (b := W2.heap.size) (o := 1) (v := .int .i64 p2) (by simp) (by simp)
      replace HI := Lib.hid hI
      generalize (W2.alloc (.cells #[.int .i64 p1, .int .i64 p2] 26)) = W3 at *
      generalize W2.heap.size = B15 at *
      clear hI
      have j1 := HI.out.c (b := B15) (o := 0) (v := .int .i64 p1) (by simp)
      have j2 := HI.out.c (b := B15) (o := 1) (v := .int .i64 p2) (by simp)
      have hdr := depthR_ok HUP.out hp
      have hdd := deep_depth HIG.out hp
      have hgp := HGE.out (p1, p2) hp
      obtain ⟨wl, we, hw, hor⟩ := within_depth HUP.out hp
      have HP := Lib.hid hp
      generalize depthOf l (p1, p2) = dd at *
      have HDR := Lib.hid hdr
      have HDD := Lib.hid hdd
      have HW := Lib.hid hw
      have hle : decide ((dd : Int) ≤ cd) = true := decide_eq_true hgp
      clear hdr hdd hw hp
      rcases hor with ⟨rfl, h⟩ | ⟨rfl, h⟩
      · have hd0 : decide ((0 : Int) < (dd : Int)) = true := decide_eq_true (by omega)
        go_wp2_with (first
          | (go_at_call 59; refine (HI.out.scalar (V' := .tuple #[.int .i64 dd, .int .i64 0]) (Depth_any q c l (p1, p2) _ (HI.out.2.1 (q, l) (by simp))) (by rw [HDR.out])).mono ?_; rintro e W ⟨rfl, hI⟩; replace HI := Lib.hid hI; clear hI j1 j2; have j1 := HI.out.c (b := B15) (o := 0) (v := .int .i64 p1) (by simp); have j2 := HI.out.c (b := B15) (o := 1) (v := .int .i64 p2) (by simp))
          | (go_at_call 51; refine (HI.out.listErr (Within_any q c l (p1, p2) _ (HI.out.2.1 (q, l) (by simp))) HW.out).mono ?_; rintro e W ⟨qw, cw, rfl, hI⟩; replace HI := Lib.hid hI; clear hI j1 j2; have j1 := HI.out.c (b := B15) (o := 0) (v := .int .i64 p1) (by simp); have j2 := HI.out.c (b := B15) (o := 1) (v := .int .i64 p2) (by simp))
          | (go_at_call 89; refine (HI.out.scalar (V' := .int .i64 dd) (deep_any q c l (p1, p2) _ (HI.out.2.1 (q, l) (by simp)) HIG.out HP.out hl12) (by rw [HDD.out])).mono ?_; rintro e W ⟨rfl, hI⟩; replace HI := Lib.hid hI; clear hI j1 j2; have j1 := HI.out.c (b := B15) (o := 0) (v := .int .i64 p1) (by simp); have j2 := HI.out.c (b := B15) (o := 1) (v := .int .i64 p2) (by simp))
          | (go_at_call 19; refine (HI.out.scalar (works_any _) rfl).mono ?_; rintro e W ⟨rfl, hI⟩; replace HI := Lib.hid hI; clear hI j1 j2; have j1 := HI.out.c (b := B15) (o := 0) (v := .int .i64 p1) (by simp); have j2 := HI.out.c (b := B15) (o := 1) (v := .int .i64 p2) (by simp)))
        go_ret
        exact ⟨rfl, HI.out.2.2.2.2⟩
      · have hd0 : ¬ 0 < dd := by omega
        have hd1 : decide ((0 : Int) < (dd : Int)) = false := decide_eq_false (by omega)
        clear h
        go_wp2_with (first
          | (go_at_call 59; refine (HI.out.scalar (V' := .tuple #[.int .i64 dd, .int .i64 0]) (Depth_any q c l (p1, p2) _ (HI.out.2.1 (q, l) (by simp))) (by rw [HDR.out])).mono ?_; rintro e W ⟨rfl, hI⟩; replace HI := Lib.hid hI; clear hI j1 j2; have j1 := HI.out.c (b := B15) (o := 0) (v := .int .i64 p1) (by simp); have j2 := HI.out.c (b := B15) (o := 1) (v := .int .i64 p2) (by simp))
          | (go_at_call 51; refine (HI.out.listErr (Within_any q c l (p1, p2) _ (HI.out.2.1 (q, l) (by simp))) HW.out).mono ?_; rintro e W ⟨qw, cw, rfl, hI⟩; replace HI := Lib.hid hI; clear hI j1 j2; have j1 := HI.out.c (b := B15) (o := 0) (v := .int .i64 p1) (by simp); have j2 := HI.out.c (b := B15) (o := 1) (v := .int .i64 p2) (by simp))
          | (go_at_call 89; refine (HI.out.scalar (V' := .int .i64 dd) (deep_any q c l (p1, p2) _ (HI.out.2.1 (q, l) (by simp)) HIG.out HP.out hl12) (by rw [HDD.out])).mono ?_; rintro e W ⟨rfl, hI⟩; replace HI := Lib.hid hI; clear hI j1 j2; have j1 := HI.out.c (b := B15) (o := 0) (v := .int .i64 p1) (by simp); have j2 := HI.out.c (b := B15) (o := 1) (v := .int .i64 p2) (by simp))
          | (go_at_call 19; refine (HI.out.scalar (works_any _) rfl).mono ?_; rintro e W ⟨rfl, hI⟩; replace HI := Lib.hid hI; clear hI j1 j2; have j1 := HI.out.c (b := B15) (o := 0) (v := .int .i64 p1) (by simp); have j2 := HI.out.c (b := B15) (o := 1) (v := .int .i64 p2) (by simp)))
        go_ret
        exact ⟨rfl, HI.out.2.2.2.2⟩
end Go.Proofs.Ytcalipoknbbaaaa
namespace Go.Proofs.Ytcalipoknbbaaaa.seamMiddle
open Go Go.ChangeShapes Go.WideShapes Go.ChangeAt Go.RowKit

theorem own : ownKnob Try.prog.godebug = none := by kernel_rfl

set_option maxRecDepth 100000 in
theorem lifted (os : Os) (started : os.Started) (H : Type) (enc : TypeId × Value → H) :
    ReturnsInHanded {} Try.checked os 16 .any (Rows.seamMiddleSpec.pre6 enc Try.prog Try.f16 Rows.seamMiddleRow.domain false) (Rows.seamMiddleSpec.post enc Try.prog Try.f16 false true false false) := by
  refine returnsInHanded_of_change (C := Try.checked) own started (by kernel_rfl) Try.func16
    (ChangeSpec.witness6 (enc := enc) (C := Try.checked) false { blocks := #[], args := #[.agg (spotCells 0 (List.replicate 12 (0, 0))), .agg #[.int .u8 0, .int .u8 0]], vars := [] } 8 (by kernel_rfl) (by kernel_rfl) (by kernel_rfl) (by kernel_rfl)) ?_
  intro W base args ds gs before hval0 hW hcnd _
  have hval : ∀ (j : Nat) t v, Try.f16.params[j]? = some t → args[j]? = some v → Value.okWide Try.prog W .any base t v := hval0
  have hW' := hW
  obtain ⟨p, q, hA0, hV, rfl, hfz, hnd⟩ := hW
  have hA : DataW.TrodAll enc Try.prog W 0 (fun _ => true) true Try.f16.params.toList args.toList ds p := hA0
  rw [Try.params16] at hA hval
  obtain ⟨v0, v1, d0, d1, p0, p1, rfl, rfl, rfl, h0, h1⟩ := trodAll_two hA
  obtain ⟨rfl, rfl⟩ := trodVars_none hV
  obtain ⟨rfl, g0⟩ := trod_same 5 plain113 h0
  obtain ⟨rfl, g1⟩ := trod_same 5 plain110 h1
  obtain ⟨m0, ls0, rfl, k0a, k0b, k0c⟩ := spot_of (hval 0 113 v0 rfl rfl)
  obtain ⟨x1, rfl, k1⟩ := b2_of (hval 1 110 v1 rfl rfl)
  clear hA0 hval0
  simp only [List.append_nil] at hW'
  refine (SeamMiddle_any m0 ls0 k0a k0b k0c x1 k1 W).mono fun e W' ⟨he, hg⟩ => ?_
  subst he
  refine ⟨_, rfl, _, _, _, [] ++ [], [] ++ [], [], hW', ?_, ?_, ?_, hg.frame _, fun h => by cases h⟩
  · exact trodAll_cons_mk (shut_bool Try.underlying4 _) trodAll_mk0
  · exact trodAll_cons_mk (g0 _ _ _ _) (trodAll_cons_mk (g1 _ _ _ _) trodAll_mk0)
  · rfl

end Go.Proofs.Ytcalipoknbbaaaa.seamMiddle
