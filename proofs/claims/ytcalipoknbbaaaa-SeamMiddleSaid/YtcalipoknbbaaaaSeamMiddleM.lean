/- The closed facts of the row for SeamMiddle. -/
import Derived.Test.YtcalipoknbbaaaaFact1
import Derived.Test.YtcalipoknbbaaaaFact2
import Derived.Test.YtcalipoknbbaaaaFact3
import Derived.Test.YtcalipoknbbaaaaFact4
namespace Go.Proofs.Ytcalipoknbbaaaa.seamMiddle
open Go Go.RowKit
theorem inPlace : (Rows.seamMiddleRow.inPlace == Try.prog.inPlace 16) = true := by kernel_rfl
theorem unfollowed : (Rows.seamMiddleRow.unfollowed == Try.prog.unfollowed 16) = true := by kernel_rfl
theorem recurses : (Rows.seamMiddleRow.recurses == Try.prog.recurses 16) = true := by kernel_rfl
theorem varsNamed : (Rows.seamMiddleRow.named == Try.prog.varsNamed 16) = true := by kernel_rfl
theorem plainKeys : (Rows.seamMiddleRow.plainKeys == Try.prog.plainKeys) = true := by kernel_rfl
theorem closed : joinedFacts Try.prog 16 Try.f16 Rows.seamMiddleSpec Rows.seamMiddleRow = true := by
  unfold joinedFacts
  simp only [Bool.and_eq_true]
  repeat' (first | with_reducible exact fact_enter | with_reducible exact fact_make | with_reducible exact fact_lifts | with_reducible exact fact_laid | with_reducible exact fact_maps | with_reducible exact fact_heard | with_reducible exact inPlace | with_reducible exact unfollowed | with_reducible exact recurses | with_reducible exact varsNamed | with_reducible exact plainKeys | with_reducible apply And.intro)
  all_goals kernel_rfl
theorem named : Try.prog.funcNamed Rows.seamMiddleRow.func = some 16 := by kernel_rfl
theorem inst : Try.f16.isInstance Try.prog Rows.seamMiddleRow.origin Rows.seamMiddleRow.targs := of_decide_eq_true (by kernel_rfl)
theorem wrapper : Try.f16.isWrapper Try.prog Rows.seamMiddleRow.wrapper Rows.seamMiddleRow.mainSum := by unfold Func.isWrapper; first | (rw [if_pos (by decide +kernel)]; kernel_rfl) | (rw [if_neg (by decide +kernel)]; exact ⟨rfl, rfl⟩)
end Go.Proofs.Ytcalipoknbbaaaa.seamMiddle
