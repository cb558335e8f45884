/- The closed facts of the row for DrainSteps. -/
import Derived.Test.YtadamjleglckpaaGreatQa14
namespace Go.Proofs.YtadamjleglckpaaGreat.drainSteps
open Go Go.RowKit
theorem inPlace : (Rows.drainStepsRow.inPlace == Tryz.prog.inPlace 4) = true := by kernel_rfl
theorem unfollowed : (Rows.drainStepsRow.unfollowed == Tryz.prog.unfollowed 4) = true := by kernel_rfl
theorem recurses : (Rows.drainStepsRow.recurses == Tryz.prog.recurses 4) = true := by kernel_rfl
theorem varsNamed : (Rows.drainStepsRow.named == Tryz.prog.varsNamed 4) = true := by kernel_rfl
theorem plainKeys : (Rows.drainStepsRow.plainKeys == Tryz.prog.plainKeys) = true := by kernel_rfl
theorem closed : joinedFacts Tryz.prog 4 Tryz.f4 Rows.drainStepsSpec Rows.drainStepsRow = true := by
  unfold joinedFacts
  simp only [Bool.and_eq_true]
  repeat' (first | with_reducible exact fact_enter | with_reducible exact fact_make | with_reducible exact fact_lifts | with_reducible exact fact_laid | with_reducible exact fact_maps | with_reducible exact fact_heard | with_reducible exact inPlace | with_reducible exact unfollowed | with_reducible exact recurses | with_reducible exact varsNamed | with_reducible exact plainKeys | with_reducible apply And.intro)
  all_goals kernel_rfl
theorem named : Tryz.prog.funcNamed Rows.drainStepsRow.func = some 4 := by kernel_rfl
theorem inst : Tryz.f4.isInstance Tryz.prog Rows.drainStepsRow.origin Rows.drainStepsRow.targs := of_decide_eq_true (by kernel_rfl)
theorem wrapper : Tryz.f4.isWrapper Tryz.prog Rows.drainStepsRow.wrapper Rows.drainStepsRow.mainSum := by unfold Func.isWrapper; first | (rw [if_pos (by decide +kernel)]; kernel_rfl) | (rw [if_neg (by decide +kernel)]; exact ⟨rfl, rfl⟩)
end Go.Proofs.YtadamjleglckpaaGreat.drainSteps
