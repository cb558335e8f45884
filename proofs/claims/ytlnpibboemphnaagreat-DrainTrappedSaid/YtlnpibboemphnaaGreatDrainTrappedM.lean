/- The closed facts of the row for DrainTrapped. -/
import Derived.Test.YtlnpibboemphnaaGreatQa14
namespace Go.Proofs.YtlnpibboemphnaaGreat.drainTrapped
open Go Go.RowKit
theorem inPlace : (Rows.drainTrappedRow.inPlace == Tryz.prog.inPlace 7) = true := by kernel_rfl
theorem unfollowed : (Rows.drainTrappedRow.unfollowed == Tryz.prog.unfollowed 7) = true := by kernel_rfl
theorem recurses : (Rows.drainTrappedRow.recurses == Tryz.prog.recurses 7) = true := by kernel_rfl
theorem varsNamed : (Rows.drainTrappedRow.named == Tryz.prog.varsNamed 7) = true := by kernel_rfl
theorem plainKeys : (Rows.drainTrappedRow.plainKeys == Tryz.prog.plainKeys) = true := by kernel_rfl
theorem closed : joinedFacts Tryz.prog 7 Tryz.f7 Rows.drainTrappedSpec Rows.drainTrappedRow = true := by
  unfold joinedFacts
  simp only [Bool.and_eq_true]
  repeat' (first | with_reducible exact fact_enter | with_reducible exact fact_make | with_reducible exact fact_lifts | with_reducible exact fact_laid | with_reducible exact fact_maps | with_reducible exact fact_heard | with_reducible exact inPlace | with_reducible exact unfollowed | with_reducible exact recurses | with_reducible exact varsNamed | with_reducible exact plainKeys | with_reducible apply And.intro)
  all_goals kernel_rfl
theorem named : Tryz.prog.funcNamed Rows.drainTrappedRow.func = some 7 := by kernel_rfl
theorem inst : Tryz.f7.isInstance Tryz.prog Rows.drainTrappedRow.origin Rows.drainTrappedRow.targs := of_decide_eq_true (by kernel_rfl)
theorem wrapper : Tryz.f7.isWrapper Tryz.prog Rows.drainTrappedRow.wrapper Rows.drainTrappedRow.mainSum := by unfold Func.isWrapper; first | (rw [if_pos (by decide +kernel)]; kernel_rfl) | (rw [if_neg (by decide +kernel)]; exact ⟨rfl, rfl⟩)
end Go.Proofs.YtlnpibboemphnaaGreat.drainTrapped
