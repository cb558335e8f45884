/- The closed facts of the row for SeamDoignon. -/
import Derived.Test.YtcalipoknbbaaaaFact1
import Derived.Test.YtcalipoknbbaaaaFact2
import Derived.Test.YtcalipoknbbaaaaFact3
import Derived.Test.YtcalipoknbbaaaaFact4
namespace Go.Proofs.Ytcalipoknbbaaaa.seamDoignon
open Go Go.RowKit
theorem inPlace : (Rows.seamDoignonRow.inPlace == Try.prog.inPlace 8) = true := by kernel_rfl
theorem unfollowed : (Rows.seamDoignonRow.unfollowed == Try.prog.unfollowed 8) = true := by kernel_rfl
theorem recurses : (Rows.seamDoignonRow.recurses == Try.prog.recurses 8) = true := by kernel_rfl
theorem varsNamed : (Rows.seamDoignonRow.named == Try.prog.varsNamed 8) = true := by kernel_rfl
theorem plainKeys : (Rows.seamDoignonRow.plainKeys == Try.prog.plainKeys) = true := by kernel_rfl
theorem closed : joinedFacts Try.prog 8 Try.f8 Rows.seamDoignonSpec Rows.seamDoignonRow = true := by
  unfold joinedFacts
  simp only [Bool.and_eq_true]
  repeat' (first | with_reducible exact fact_enter | with_reducible exact fact_make | with_reducible exact fact_lifts | with_reducible exact fact_laid | with_reducible exact fact_maps | with_reducible exact fact_heard | with_reducible exact inPlace | with_reducible exact unfollowed | with_reducible exact recurses | with_reducible exact varsNamed | with_reducible exact plainKeys | with_reducible apply And.intro)
  all_goals kernel_rfl
theorem named : Try.prog.funcNamed Rows.seamDoignonRow.func = some 8 := by kernel_rfl
theorem inst : Try.f8.isInstance Try.prog Rows.seamDoignonRow.origin Rows.seamDoignonRow.targs := of_decide_eq_true (by kernel_rfl)
theorem wrapper : Try.f8.isWrapper Try.prog Rows.seamDoignonRow.wrapper Rows.seamDoignonRow.mainSum := by unfold Func.isWrapper; first | (rw [if_pos (by decide +kernel)]; kernel_rfl) | (rw [if_neg (by decide +kernel)]; exact ⟨rfl, rfl⟩)
end Go.Proofs.Ytcalipoknbbaaaa.seamDoignon
