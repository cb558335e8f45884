/- The closed facts of the row for SeamEither. -/
import Derived.Test.YtcalipoknbbaaaaFact1
import Derived.Test.YtcalipoknbbaaaaFact2
import Derived.Test.YtcalipoknbbaaaaFact3
import Derived.Test.YtcalipoknbbaaaaFact4
namespace Go.Proofs.Ytcalipoknbbaaaa.seamEither
open Go Go.RowKit
theorem inPlace : (Rows.seamEitherRow.inPlace == Try.prog.inPlace 13) = true := by kernel_rfl
theorem unfollowed : (Rows.seamEitherRow.unfollowed == Try.prog.unfollowed 13) = true := by kernel_rfl
theorem recurses : (Rows.seamEitherRow.recurses == Try.prog.recurses 13) = true := by kernel_rfl
theorem varsNamed : (Rows.seamEitherRow.named == Try.prog.varsNamed 13) = true := by kernel_rfl
theorem plainKeys : (Rows.seamEitherRow.plainKeys == Try.prog.plainKeys) = true := by kernel_rfl
theorem closed : joinedFacts Try.prog 13 Try.f13 Rows.seamEitherSpec Rows.seamEitherRow = true := by
  unfold joinedFacts
  simp only [Bool.and_eq_true]
  repeat' (first | with_reducible exact fact_enter | with_reducible exact fact_make | with_reducible exact fact_lifts | with_reducible exact fact_laid | with_reducible exact fact_maps | with_reducible exact fact_heard | with_reducible exact inPlace | with_reducible exact unfollowed | with_reducible exact recurses | with_reducible exact varsNamed | with_reducible exact plainKeys | with_reducible apply And.intro)
  all_goals kernel_rfl
theorem named : Try.prog.funcNamed Rows.seamEitherRow.func = some 13 := by kernel_rfl
theorem inst : Try.f13.isInstance Try.prog Rows.seamEitherRow.origin Rows.seamEitherRow.targs := of_decide_eq_true (by kernel_rfl)
theorem wrapper : Try.f13.isWrapper Try.prog Rows.seamEitherRow.wrapper Rows.seamEitherRow.mainSum := by unfold Func.isWrapper; first | (rw [if_pos (by decide +kernel)]; kernel_rfl) | (rw [if_neg (by decide +kernel)]; exact ⟨rfl, rfl⟩)
end Go.Proofs.Ytcalipoknbbaaaa.seamEither
