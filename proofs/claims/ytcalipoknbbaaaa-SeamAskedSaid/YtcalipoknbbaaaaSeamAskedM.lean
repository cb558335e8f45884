/- The closed facts of the row for SeamAsked. -/
import Derived.Test.YtcalipoknbbaaaaFact1
import Derived.Test.YtcalipoknbbaaaaFact2
import Derived.Test.YtcalipoknbbaaaaFact3
import Derived.Test.YtcalipoknbbaaaaFact4
namespace Go.Proofs.Ytcalipoknbbaaaa.seamAsked
open Go Go.RowKit
theorem inPlace : (Rows.seamAskedRow.inPlace == Try.prog.inPlace 11) = true := by kernel_rfl
theorem unfollowed : (Rows.seamAskedRow.unfollowed == Try.prog.unfollowed 11) = true := by kernel_rfl
theorem recurses : (Rows.seamAskedRow.recurses == Try.prog.recurses 11) = true := by kernel_rfl
theorem varsNamed : (Rows.seamAskedRow.named == Try.prog.varsNamed 11) = true := by kernel_rfl
theorem plainKeys : (Rows.seamAskedRow.plainKeys == Try.prog.plainKeys) = true := by kernel_rfl
theorem closed : joinedFacts Try.prog 11 Try.f11 Rows.seamAskedSpec Rows.seamAskedRow = true := by
  unfold joinedFacts
  simp only [Bool.and_eq_true]
  repeat' (first | with_reducible exact fact_enter | with_reducible exact fact_make | with_reducible exact fact_lifts | with_reducible exact fact_laid | with_reducible exact fact_maps | with_reducible exact fact_heard | with_reducible exact inPlace | with_reducible exact unfollowed | with_reducible exact recurses | with_reducible exact varsNamed | with_reducible exact plainKeys | with_reducible apply And.intro)
  all_goals kernel_rfl
theorem named : Try.prog.funcNamed Rows.seamAskedRow.func = some 11 := by kernel_rfl
theorem inst : Try.f11.isInstance Try.prog Rows.seamAskedRow.origin Rows.seamAskedRow.targs := of_decide_eq_true (by kernel_rfl)
theorem wrapper : Try.f11.isWrapper Try.prog Rows.seamAskedRow.wrapper Rows.seamAskedRow.mainSum := by unfold Func.isWrapper; first | (rw [if_pos (by decide +kernel)]; kernel_rfl) | (rw [if_neg (by decide +kernel)]; exact ⟨rfl, rfl⟩)
end Go.Proofs.Ytcalipoknbbaaaa.seamAsked
