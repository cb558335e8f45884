/- DrainSteps plainly: where the steps stand; what is left while one is paid. -/
import Derived.Test.YtadamjleglckpaaGreatDrnS1
namespace Go.Proofs.YtadamjleglckpaaGreat.drn
open Go.RowKit
set_option linter.unusedSimpArgs false
set_option linter.unusedVariables false
theorem andnot_sets (u t : Nat) (hu : u < 64) (ht : t < 64) : (bits BinOp.andNot IntKind.i64 (u : Int) (t : Int) != 0) = (u &&& t != u) := by
  have hd : ∀ u : Nat, u < 64 → ∀ t : Nat, t < 64 → (bits BinOp.andNot IntKind.i64 (u : Int) (t : Int) != 0) = (u &&& t != u) := by decide +kernel
  exact hd u hu t ht
/-- what is left while a set pays, up to a channel -/
def partX (ds : List Ch) (s : Nat) (k : Int) (t : Nat) : List Int := (List.range ds.length).map fun i => if decide (i < t) && leavesS s (ds.getD i (0, 0, 0)) then (ds.getD i (0, 0, 0)).2.2 - k else (ds.getD i (0, 0, 0)).2.2
theorem partX_len (ds : List Ch) (s : Nat) (k : Int) (t : Nat) : (partX ds s k t).length = ds.length := by simp [partX]
theorem partX_zero (ds : List Ch) (s : Nat) (k : Int) : partX ds s k 0 = thirds ds := by
  apply List.ext_getElem
  · rw [partX_len, thirds_len]
  · intro i h1 h2
    rw [partX_len] at h1
    simp [partX, thirds, h1]
theorem partX_all (ds : List Ch) (s : Nat) (k : Int) : partX ds s k ds.length = thirds (takeLeft ds s k) := by
  apply List.ext_getElem
  · rw [partX_len, thirds_len]; simp [takeLeft]
  · intro i h1 h2
    rw [partX_len] at h1
    simp only [partX, thirds, takeLeft, List.getElem_map, List.getElem_range, h1, decide_true, Bool.true_and]
    rw [getD_eq ds i _ h1]
    split <;> rfl
theorem partX_at (ds : List Ch) (s : Nat) (k : Int) {t : Nat} (h : t < ds.length) : (partX ds s k t).getD t 0 = (ds.getD t (0, 0, 0)).2.2 := by
  rw [getD_eq _ t 0 (by rw [partX_len]; exact h)]
  simp [partX]
theorem partX_step (ds : List Ch) (s : Nat) (k : Int) {t : Nat} (h : t < ds.length) : partX ds s k (t + 1) = if leavesS s (ds.getD t (0, 0, 0)) then (partX ds s k t).set t ((ds.getD t (0, 0, 0)).2.2 - k) else partX ds s k t := by
  apply List.ext_getElem
  · split <;> simp [partX]
  · intro i h1 h2
    rw [partX_len] at h1
    by_cases hl : leavesS s (ds.getD t (0, 0, 0)) = true
    · simp only [hl, if_true, List.getElem_set]
      by_cases e : t = i
      · subst e
        rw [if_pos rfl]
        simp only [partX, List.getElem_map, List.getElem_range]
        rw [hl, show decide (t < t + 1) = true from decide_eq_true (by omega)]
        rfl
      · rw [if_neg e]
        simp only [partX, List.getElem_map, List.getElem_range]
        rw [show decide (i < t + 1) = decide (i < t) from decide_eq_decide.2 ⟨fun _ => by omega, fun _ => by omega⟩]
    · have hl2 : leavesS s (ds.getD t (0, 0, 0)) = false := by simpa using hl
      simp only [hl2, Bool.false_eq_true, if_false]
      by_cases e : t = i
      · subst e
        simp only [partX, List.getElem_map, List.getElem_range]
        rw [hl2, Bool.and_false, Bool.and_false]
      · simp only [partX, List.getElem_map, List.getElem_range]
        rw [show decide (i < t + 1) = decide (i < t) from decide_eq_decide.2 ⟨fun _ => by omega, fun _ => by omega⟩]
/-- where the steps stand -/
structure StepAt (n : Nat) (cs : List Ch) (du : List Du) (j : Nat) (ds : List Ch) : Prop where
  paid : Paid n cs ds
  wet : wetS n ds = allS n
  rest : duesF n (cs.length + 1 - j) ds = du.drop j
  le : j ≤ du.length
  many : du.length ≤ cs.length
theorem StepAt.start {n : Nat} {cs : List Ch} {du : List Du} (hc : Chs n cs) (hw : wetS n cs = allS n) (hd : duesF n (cs.length + 1) cs = du) : StepAt n cs du 0 cs :=
  ⟨⟨hc, rfl, fun _ => rfl⟩, hw, hd, Nat.zero_le _, by have := (dues_each (cs.length + 1) hc hw).2; rw [hd] at this; omega⟩
theorem StepAt.done {n : Nat} {cs ds : List Ch} {du : List Du} {j : Nat} (h : StepAt n cs du j ds) (hp : payerS n ds = none) : j = du.length := by
  have h1 := h.rest
  have h2 := h.le
  have h3 := h.many
  rw [show cs.length + 1 - j = (cs.length - j) + 1 by omega, duesF_done hp] at h1
  have := List.drop_eq_nil_iff.1 h1.symm
  omega
theorem takeLeft_at (ds : List Ch) (s : Nat) (k : Int) (i : Nat) : ends ((takeLeft ds s k).getD i (0, 0, 0)) = ends (ds.getD i (0, 0, 0)) := by
  unfold takeLeft
  rw [List.getD_eq_getElem?_getD, List.getD_eq_getElem?_getD, List.getElem?_map]
  cases ds[i]? with
  | none => rfl
  | some c => simp only [Option.map_some, Option.getD_some]; split <;> rfl
theorem StepAt.next {n : Nat} {cs ds : List Ch} {du : List Du} {j s : Nat} (h : StepAt n cs du j ds) (hp : payerS n ds = some s) :
    j < du.length ∧ du.getD j ([], 0) = (listS s, leastLeft ds s) ∧ leastH ds s = leastLeft ds s ∧ (0 ≤ leastLeft ds s ∧ leastLeft ds s ≤ 100) ∧ StepAt n cs du (j + 1) (takeLeft ds s (leastLeft ds s)) := by
  have h1 := h.rest
  have h2 := h.le
  have h3 := h.many
  rw [show cs.length + 1 - j = (cs.length - j) + 1 by omega, duesF_step hp] at h1
  have hj : j < du.length := by
    apply Classical.byContradiction
    intro hn
    rw [List.drop_eq_nil_of_le (by omega)] at h1
    cases h1
  rw [List.drop_eq_getElem_cons hj] at h1
  injection h1 with h4 h5
  obtain ⟨hs, hsp⟩ := payer_in hp
  have hex := leaves_some h.paid.chs h.wet hs
  have hlh := leastH_left h.paid.chs hex
  have hbd := leastH_bd h.paid.chs s
  rw [hlh] at hbd
  refine ⟨hj, by rw [getD_eq du j _ hj]; exact h4.symm, hlh, hbd, ⟨⟨take_ok h.paid.chs hex, ?_, fun i => (takeLeft_at _ _ _ i).trans (h.paid.ends i)⟩, by rw [wet_take]; exact h.wet, ?_, by omega, h3⟩⟩
  · rw [← h.paid.len]; simp [takeLeft]
  · rw [show cs.length + 1 - (j + 1) = cs.length - j by omega]; exact h5
theorem smallH_one (ds : List Ch) (t : Nat) : smallH ds t 1 = true := by simp [smallH]
theorem smallH_succ (ds : List Ch) (t u : Nat) (hu : 1 ≤ u) : smallH ds t (u + 1) = (smallH ds t u && (u &&& t != u || leastH ds u == 0)) := by
  rw [smallH]
  have : (u == 0) = false := beq_eq_false_iff_ne.2 (by omega)
  rw [this, Bool.false_or]
end Go.Proofs.YtadamjleglckpaaGreat.drn
