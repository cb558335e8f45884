/- depth, by directions: plain facts. -/
import Derived.Test.YtcalipoknbbaaaaRadm
import Derived.Test.YtcalipoknbbaaaaCent
import Derived.Test.YtcalipoknbbaaaaSeamp
import Derived.Test.YtcalipoknbbaaaaTold
import Derived.Test.YtcalipoknbbaaaaLaw8
namespace Go.Proofs.Ytcalipoknbbaaaa
open Go.RowKit
set_option linter.unusedSimpArgs false
set_option linter.unusedVariables false

/-- how many of some places lie behind another one, or beside it, in a direction -/
def DD (l : List Pl) (p : Pl) (n : Int × Int) : Nat := l.countP fun r => decide (NV.dt n r ≤ NV.dt n p)
theorem cntAgr_DD (l : List Pl) (p : Pl) (s : Int × Int) : cntAgr (galAt s p) l = DD l p s := rfl
/-- the law's count -/
def deepS (l : List Pl) (p : Pl) (d : Int × Int) : Nat := l.countP fun r => decide (d.1 * (r.1 - p.1) + d.2 * (r.2 - p.2) ≤ 0)
theorem deepS_DD (l : List Pl) (p : Pl) (d : Int × Int) : deepS l p d = DD l p d := by
  unfold deepS DD
  congr 1
  funext r
  have e : d.1 * (r.1 - p.1) + d.2 * (r.2 - p.2) = NV.dt d r - NV.dt d p := by simp only [NV.dt]; grind
  rw [e, decide_eq_decide]
  omega
theorem DD_le (l : List Pl) (p : Pl) (n : Int × Int) : DD l p n ≤ l.length := List.countP_le_length
/-- a direction that tells the same places apart does no worse -/
theorem DD_mono {l : List Pl} {p : Pl} {n m : Int × Int} (h : NV.SepD m [p] (l.filter fun r => decide (NV.dt n p < NV.dt n r))) : DD l p m ≤ DD l p n := by
  refine List.countP_mono_left fun r hr hd => ?_
  simp only [decide_eq_true_eq] at hd ⊢
  apply Classical.byContradiction
  intro hno
  have := h p (by simp) r (List.mem_filter.2 ⟨hr, by simp only [decide_eq_true_eq]; omega⟩)
  omega
theorem DD_all {l : List Pl} {p : Pl} {n : Int × Int} (h : (l.filter fun r => decide (NV.dt n p < NV.dt n r)) = []) : DD l p n = l.length := by
  refine List.countP_eq_length.2 fun r hr => ?_
  simp only [decide_eq_true_eq]
  apply Classical.byContradiction
  intro hno
  have : r ∈ l.filter fun r => decide (NV.dt n p < NV.dt n r) := List.mem_filter.2 ⟨hr, by simp only [decide_eq_true_eq]; omega⟩
  rw [h] at this
  simp at this
theorem DD_sep (l : List Pl) (p : Pl) (n : Int × Int) : NV.SepD n [p] (l.filter fun r => decide (NV.dt n p < NV.dt n r)) := by
  intro q hq r hr
  obtain rfl := List.mem_singleton.1 hq
  simpa using (List.mem_filter.1 hr).2
theorem mem_slopes12 {m : Int × Int} (h : (-6 ≤ m.1 ∧ m.1 ≤ 6) ∧ -6 ≤ m.2 ∧ m.2 ≤ 6) (h0 : m ≠ (0, 0)) : m ∈ slopesL 12 := by
  have key : ((List.range 13).all fun i : Nat => (List.range 13).all fun j : Nat => ((-6 + (i : Int) == 0) && (-6 + (j : Int) == 0)) || (slopesL 12).contains (-6 + (i : Int), -6 + (j : Int))) = true := by decide +kernel
  obtain ⟨u, v⟩ := m
  obtain ⟨⟨h1, h2⟩, h3, h4⟩ := h
  simp only at h1 h2 h3 h4
  have e1 : -6 + ((u + 6).toNat : Int) = u := by omega
  have e2 : -6 + ((v + 6).toNat : Int) = v := by omega
  have := List.all_eq_true.1 (List.all_eq_true.1 key (u + 6).toNat (List.mem_range.2 (by omega))) (v + 6).toNat (List.mem_range.2 (by omega))
  rw [e1, e2, Bool.or_eq_true, Bool.and_eq_true, beq_iff_eq, beq_iff_eq, List.contains_iff_mem] at this
  rcases this with ⟨rfl, rfl⟩ | h
  · exact absurd rfl h0
  · exact h

theorem filt_in {l : List Pl} {f : Pl → Bool} (h : ∀ r ∈ l, NV.inG r) : ∀ r ∈ l.filter f, NV.inG r := fun r hr => h r (List.mem_filter.1 hr).1
theorem one_in {p : Pl} (h : NV.inG p) : ∀ q ∈ [p], NV.inG q := by intro q hq; obtain rfl := List.mem_singleton.1 hq; exact h
/-- some slope does no worse than any direction -/
theorem DD_slope {l : List Pl} {p : Pl} (hl : ∀ r ∈ l, NV.inG r) (hp : NV.inG p) (n : Int × Int) : DD l p n = l.length ∨ ∃ s ∈ slopesL 12, DD l p s ≤ DD l p n := by
  by_cases h : (l.filter fun r => decide (NV.dt n p < NV.dt n r)) = []
  · exact .inl (DD_all h)
  · obtain ⟨m, h1, h2, h3⟩ := NV.sep_small (by simp) h (DD_sep l p n) (one_in hp) (filt_in hl)
    exact .inr ⟨m, mem_slopes12 h1 h2, DD_mono h3⟩
/-- some direction of the law does no worse than any -/
theorem DD_tilt {l : List Pl} {p : Pl} (hl : ∀ r ∈ l, NV.inG r) (hp : NV.inG p) (n : Int × Int) : DD l p n = l.length ∨ ∃ q ∈ l, q ≠ p ∧ DD l p (dirOf (q.1 - p.1) (q.2 - p.2) (1, 1)) ≤ DD l p n := by
  by_cases h : (l.filter fun r => decide (NV.dt n p < NV.dt n r)) = []
  · exact .inl (DD_all h)
  · obtain ⟨p', hp', q, hq, h3⟩ := NV.sep_tilt (by simp) h (DD_sep l p n) (one_in hp) (filt_in hl)
    obtain rfl := List.mem_singleton.1 hp'
    refine .inr ⟨q, (List.mem_filter.1 hq).1, ?_, ?_⟩
    · rintro rfl
      have := (List.mem_filter.1 hq).2
      simp at this
    · have e : dirOf (q.1 - p'.1) (q.2 - p'.2) (1, 1) = NV.tiltD (NV.sub p' q) := by
        simp only [dirOf, NV.tiltD, NV.sub, Prod.mk.injEq]
        omega
      rw [e]
      exact DD_mono h3

/-- the depth as the law counts it -/
def deepI (l : List Pl) (p q : Pl) (k : Nat) (m : Nat) : Nat := (signsL.take k).foldl (fun m s => min m (deepS l p (dirOf (q.1 - p.1) (q.2 - p.2) s))) m
def deepQ (l : List Pl) (p q : Pl) (m : Nat) : Nat := if q = p then m else deepI l p q 4 m
def deepTo (l : List Pl) (p : Pl) (k : Nat) : Nat := (l.take k).foldl (fun m q => deepQ l p q m) l.length
def deepL (l : List Pl) (p : Pl) : Nat := deepTo l p l.length
theorem deepTo_succ (l : List Pl) (p : Pl) (k : Nat) (h : k < l.length) : deepTo l p (k + 1) = deepQ l p (l.getD k (0, 0)) (deepTo l p k) := by
  rw [deepTo, deepTo, List.take_succ_eq_append_getElem h, List.foldl_append, getD_eq l k (0, 0) h]; rfl
theorem deepI_succ (l : List Pl) (p q : Pl) (k m : Nat) (h : k < 4) : deepI l p q (k + 1) m = min (deepI l p q k m) (deepS l p (dirOf (q.1 - p.1) (q.2 - p.2) (signsL.getD k (0, 0)))) := by
  have h' : k < signsL.length := h
  rw [deepI, deepI, List.take_succ_eq_append_getElem h', List.foldl_append, getD_eq signsL k (0, 0) h']; rfl
theorem le_foldI (c : Nat) (f : Int × Int → Nat) : ∀ (L : List (Int × Int)) (m : Nat), c ≤ L.foldl (fun m s => min m (f s)) m ↔ c ≤ m ∧ ∀ s ∈ L, c ≤ f s
  | [], m => by simp
  | s :: L, m => by
    rw [List.foldl_cons, le_foldI c f L]
    simp only [List.mem_cons, forall_eq_or_imp, Nat.le_min]
    exact ⟨fun ⟨⟨a, b⟩, d⟩ => ⟨a, b, d⟩, fun ⟨a, b, d⟩ => ⟨⟨a, b⟩, d⟩⟩
theorem le_deepQ (c : Nat) (l : List Pl) (p q : Pl) (m : Nat) : c ≤ deepQ l p q m ↔ c ≤ m ∧ (q ≠ p → ∀ s ∈ signsL, c ≤ DD l p (dirOf (q.1 - p.1) (q.2 - p.2) s)) := by
  unfold deepQ
  split
  · rename_i h; simp [h]
  · rename_i h
    have e : (signsL.take 4) = signsL := rfl
    rw [deepI, e, le_foldI c (fun s => deepS l p (dirOf (q.1 - p.1) (q.2 - p.2) s))]
    simp only [deepS_DD]
    exact ⟨fun ⟨a, b⟩ => ⟨a, fun _ => b⟩, fun ⟨a, b⟩ => ⟨a, b h⟩⟩
theorem le_foldQ (c : Nat) (l : List Pl) (p : Pl) : ∀ (L : List Pl) (m : Nat), c ≤ L.foldl (fun m q => deepQ l p q m) m ↔ c ≤ m ∧ ∀ q ∈ L, q ≠ p → ∀ s ∈ signsL, c ≤ DD l p (dirOf (q.1 - p.1) (q.2 - p.2) s)
  | [], m => by simp
  | q :: L, m => by
    rw [List.foldl_cons, le_foldQ c l p L, le_deepQ]
    simp only [List.mem_cons, forall_eq_or_imp]
    exact ⟨fun ⟨⟨a, b⟩, d⟩ => ⟨a, b, d⟩, fun ⟨a, b, d⟩ => ⟨⟨a, b⟩, d⟩⟩
theorem le_deepL (c : Nat) (l : List Pl) (p : Pl) : c ≤ deepL l p ↔ c ≤ l.length ∧ ∀ q ∈ l, q ≠ p → ∀ s ∈ signsL, c ≤ DD l p (dirOf (q.1 - p.1) (q.2 - p.2) s) := by
  rw [deepL, deepTo, List.take_length]
  exact le_foldQ c l p l l.length
theorem le_depth (c : Nat) (l : List Pl) (p : Pl) : c ≤ depthOf l p ↔ c ≤ l.length ∧ ∀ s ∈ slopesL 12, c ≤ DD l p s :=
  le_foldI c (fun s => cntAgr (galAt s p) l) (slopesL 12) l.length
/-- the law and the program count the same depth -/
theorem deep_depth {l : List Pl} {p : Pl} (hl : ∀ r ∈ l, NV.inG r) (hp : NV.inG p) : deepL l p = depthOf l p := by
  apply Nat.le_antisymm
  · obtain ⟨h1, h2⟩ := (le_deepL (deepL l p) l p).1 (Nat.le_refl _)
    refine (le_depth _ l p).2 ⟨h1, fun s _ => ?_⟩
    rcases DD_tilt hl hp s with h | ⟨q, hq, hne, h⟩
    · rw [h]; exact h1
    · exact Nat.le_trans (h2 q hq hne (1, 1) (by simp [signsL])) h
  · obtain ⟨h1, h2⟩ := (le_depth (depthOf l p) l p).1 (Nat.le_refl _)
    refine (le_deepL _ l p).2 ⟨h1, fun q _ _ s _ => ?_⟩
    rcases DD_slope hl hp (dirOf (q.1 - p.1) (q.2 - p.2) s) with h | ⟨m, hm, h⟩
    · rw [h]; exact h1
    · exact Nat.le_trans (h2 m hm) h
end Go.Proofs.Ytcalipoknbbaaaa
