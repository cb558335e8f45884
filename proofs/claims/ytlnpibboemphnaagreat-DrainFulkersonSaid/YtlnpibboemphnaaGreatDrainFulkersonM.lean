/- The closed facts of the row for DrainFulkerson. -/
import Derived.Test.YtlnpibboemphnaaGreatQa14
namespace Go.Proofs.YtlnpibboemphnaaGreat.drainFulkerson
open Go Go.RowKit
theorem inPlace : (Rows.drainFulkersonRow.inPlace == Tryz.prog.inPlace 3) = true := by kernel_rfl
theorem unfollowed : (Rows.drainFulkersonRow.unfollowed == Tryz.prog.unfollowed 3) = true := by kernel_rfl
theorem recurses : (Rows.drainFulkersonRow.recurses == Tryz.prog.recurses 3) = true := by kernel_rfl
theorem varsNamed : (Rows.drainFulkersonRow.named == Tryz.prog.varsNamed 3) = true := by kernel_rfl
theorem plainKeys : (Rows.drainFulkersonRow.plainKeys == Tryz.prog.plainKeys) = true := by kernel_rfl
theorem closed : joinedFacts Tryz.prog 3 Tryz.f3 Rows.drainFulkersonSpec Rows.drainFulkersonRow = true := by
  unfold joinedFacts
  simp only [Bool.and_eq_true]
  repeat' (first | with_reducible exact fact_enter | with_reducible exact fact_make | with_reducible exact fact_lifts | with_reducible exact fact_laid | with_reducible exact fact_maps | with_reducible exact fact_heard | with_reducible exact inPlace | with_reducible exact unfollowed | with_reducible exact recurses | with_reducible exact varsNamed | with_reducible exact plainKeys | with_reducible apply And.intro)
  all_goals kernel_rfl
theorem named : Tryz.prog.funcNamed Rows.drainFulkersonRow.func = some 3 := by kernel_rfl
theorem inst : Tryz.f3.isInstance Tryz.prog Rows.drainFulkersonRow.origin Rows.drainFulkersonRow.targs := of_decide_eq_true (by kernel_rfl)
theorem wrapper : Tryz.f3.isWrapper Tryz.prog Rows.drainFulkersonRow.wrapper Rows.drainFulkersonRow.mainSum := by unfold Func.isWrapper; first | (rw [if_pos (by decide +kernel)]; kernel_rfl) | (rw [if_neg (by decide +kernel)]; exact ⟨rfl, rfl⟩)
end Go.Proofs.YtlnpibboemphnaaGreat.drainFulkerson
