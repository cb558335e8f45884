/- The closed facts of the row for SeamShown. -/
import Derived.Test.YtcalipoknbbaaaaFact1
import Derived.Test.YtcalipoknbbaaaaFact2
import Derived.Test.YtcalipoknbbaaaaFact3
import Derived.Test.YtcalipoknbbaaaaFact4
namespace Go.Proofs.Ytcalipoknbbaaaa.seamShown
open Go Go.RowKit
theorem inPlace : (Rows.seamShownRow.inPlace == Try.prog.inPlace 17) = true := by kernel_rfl
theorem unfollowed : (Rows.seamShownRow.unfollowed == Try.prog.unfollowed 17) = true := by kernel_rfl
theorem recurses : (Rows.seamShownRow.recurses == Try.prog.recurses 17) = true := by kernel_rfl
theorem varsNamed : (Rows.seamShownRow.named == Try.prog.varsNamed 17) = true := by kernel_rfl
theorem plainKeys : (Rows.seamShownRow.plainKeys == Try.prog.plainKeys) = true := by kernel_rfl
theorem closed : joinedFacts Try.prog 17 Try.f17 Rows.seamShownSpec Rows.seamShownRow = true := by
  unfold joinedFacts
  simp only [Bool.and_eq_true]
  repeat' (first | with_reducible exact fact_enter | with_reducible exact fact_make | with_reducible exact fact_lifts | with_reducible exact fact_laid | with_reducible exact fact_maps | with_reducible exact fact_heard | with_reducible exact inPlace | with_reducible exact unfollowed | with_reducible exact recurses | with_reducible exact varsNamed | with_reducible exact plainKeys | with_reducible apply And.intro)
  all_goals kernel_rfl
theorem named : Try.prog.funcNamed Rows.seamShownRow.func = some 17 := by kernel_rfl
theorem inst : Try.f17.isInstance Try.prog Rows.seamShownRow.origin Rows.seamShownRow.targs := of_decide_eq_true (by kernel_rfl)
theorem wrapper : Try.f17.isWrapper Try.prog Rows.seamShownRow.wrapper Rows.seamShownRow.mainSum := by unfold Func.isWrapper; first | (rw [if_pos (by decide +kernel)]; kernel_rfl) | (rw [if_neg (by decide +kernel)]; exact ⟨rfl, rfl⟩)
end Go.Proofs.Ytcalipoknbbaaaa.seamShown
