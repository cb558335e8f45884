/- The closed facts of the row for SeamMirrored. -/
import Derived.Test.YtcalipoknbbaaaaFact1
import Derived.Test.YtcalipoknbbaaaaFact2
import Derived.Test.YtcalipoknbbaaaaFact3
import Derived.Test.YtcalipoknbbaaaaFact4
namespace Go.Proofs.Ytcalipoknbbaaaa.seamMirrored
open Go Go.RowKit
theorem inPlace : (Rows.seamMirroredRow.inPlace == Try.prog.inPlace 12) = true := by kernel_rfl
theorem unfollowed : (Rows.seamMirroredRow.unfollowed == Try.prog.unfollowed 12) = true := by kernel_rfl
theorem recurses : (Rows.seamMirroredRow.recurses == Try.prog.recurses 12) = true := by kernel_rfl
theorem varsNamed : (Rows.seamMirroredRow.named == Try.prog.varsNamed 12) = true := by kernel_rfl
theorem plainKeys : (Rows.seamMirroredRow.plainKeys == Try.prog.plainKeys) = true := by kernel_rfl
theorem closed : joinedFacts Try.prog 12 Try.f12 Rows.seamMirroredSpec Rows.seamMirroredRow = true := by
  unfold joinedFacts
  simp only [Bool.and_eq_true]
  repeat' (first | with_reducible exact fact_enter | with_reducible exact fact_make | with_reducible exact fact_lifts | with_reducible exact fact_laid | with_reducible exact fact_maps | with_reducible exact fact_heard | with_reducible exact inPlace | with_reducible exact unfollowed | with_reducible exact recurses | with_reducible exact varsNamed | with_reducible exact plainKeys | with_reducible apply And.intro)
  all_goals kernel_rfl
theorem named : Try.prog.funcNamed Rows.seamMirroredRow.func = some 12 := by kernel_rfl
theorem inst : Try.f12.isInstance Try.prog Rows.seamMirroredRow.origin Rows.seamMirroredRow.targs := of_decide_eq_true (by kernel_rfl)
theorem wrapper : Try.f12.isWrapper Try.prog Rows.seamMirroredRow.wrapper Rows.seamMirroredRow.mainSum := by unfold Func.isWrapper; first | (rw [if_pos (by decide +kernel)]; kernel_rfl) | (rw [if_neg (by decide +kernel)]; exact ⟨rfl, rfl⟩)
end Go.Proofs.Ytcalipoknbbaaaa.seamMirrored
