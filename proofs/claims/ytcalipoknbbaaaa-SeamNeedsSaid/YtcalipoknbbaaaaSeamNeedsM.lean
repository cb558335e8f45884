/- The closed facts of the row for SeamNeeds. -/
import Derived.Test.YtcalipoknbbaaaaFact1
import Derived.Test.YtcalipoknbbaaaaFact2
import Derived.Test.YtcalipoknbbaaaaFact3
import Derived.Test.YtcalipoknbbaaaaFact4
namespace Go.Proofs.Ytcalipoknbbaaaa.seamNeeds
open Go Go.RowKit
theorem inPlace : (Rows.seamNeedsRow.inPlace == Try.prog.inPlace 5) = true := by kernel_rfl
theorem unfollowed : (Rows.seamNeedsRow.unfollowed == Try.prog.unfollowed 5) = true := by kernel_rfl
theorem recurses : (Rows.seamNeedsRow.recurses == Try.prog.recurses 5) = true := by kernel_rfl
theorem varsNamed : (Rows.seamNeedsRow.named == Try.prog.varsNamed 5) = true := by kernel_rfl
theorem plainKeys : (Rows.seamNeedsRow.plainKeys == Try.prog.plainKeys) = true := by kernel_rfl
theorem closed : joinedFacts Try.prog 5 Try.f5 Rows.seamNeedsSpec Rows.seamNeedsRow = true := by
  unfold joinedFacts
  simp only [Bool.and_eq_true]
  repeat' (first | with_reducible exact fact_enter | with_reducible exact fact_make | with_reducible exact fact_lifts | with_reducible exact fact_laid | with_reducible exact fact_maps | with_reducible exact fact_heard | with_reducible exact inPlace | with_reducible exact unfollowed | with_reducible exact recurses | with_reducible exact varsNamed | with_reducible exact plainKeys | with_reducible apply And.intro)
  all_goals kernel_rfl
theorem named : Try.prog.funcNamed Rows.seamNeedsRow.func = some 5 := by kernel_rfl
theorem inst : Try.f5.isInstance Try.prog Rows.seamNeedsRow.origin Rows.seamNeedsRow.targs := of_decide_eq_true (by kernel_rfl)
theorem wrapper : Try.f5.isWrapper Try.prog Rows.seamNeedsRow.wrapper Rows.seamNeedsRow.mainSum := by unfold Func.isWrapper; first | (rw [if_pos (by decide +kernel)]; kernel_rfl) | (rw [if_neg (by decide +kernel)]; exact ⟨rfl, rfl⟩)
end Go.Proofs.Ytcalipoknbbaaaa.seamNeeds
