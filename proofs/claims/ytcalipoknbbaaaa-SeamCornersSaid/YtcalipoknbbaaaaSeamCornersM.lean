/- The closed facts of the row for SeamCorners. -/
import Derived.Test.YtcalipoknbbaaaaFact1
import Derived.Test.YtcalipoknbbaaaaFact2
import Derived.Test.YtcalipoknbbaaaaFact3
import Derived.Test.YtcalipoknbbaaaaFact4
namespace Go.Proofs.Ytcalipoknbbaaaa.seamCorners
open Go Go.RowKit
theorem inPlace : (Rows.seamCornersRow.inPlace == Try.prog.inPlace 14) = true := by kernel_rfl
theorem unfollowed : (Rows.seamCornersRow.unfollowed == Try.prog.unfollowed 14) = true := by kernel_rfl
theorem recurses : (Rows.seamCornersRow.recurses == Try.prog.recurses 14) = true := by kernel_rfl
theorem varsNamed : (Rows.seamCornersRow.named == Try.prog.varsNamed 14) = true := by kernel_rfl
theorem plainKeys : (Rows.seamCornersRow.plainKeys == Try.prog.plainKeys) = true := by kernel_rfl
theorem closed : joinedFacts Try.prog 14 Try.f14 Rows.seamCornersSpec Rows.seamCornersRow = true := by
  unfold joinedFacts
  simp only [Bool.and_eq_true]
  repeat' (first | with_reducible exact fact_enter | with_reducible exact fact_make | with_reducible exact fact_lifts | with_reducible exact fact_laid | with_reducible exact fact_maps | with_reducible exact fact_heard | with_reducible exact inPlace | with_reducible exact unfollowed | with_reducible exact recurses | with_reducible exact varsNamed | with_reducible exact plainKeys | with_reducible apply And.intro)
  all_goals kernel_rfl
theorem named : Try.prog.funcNamed Rows.seamCornersRow.func = some 14 := by kernel_rfl
theorem inst : Try.f14.isInstance Try.prog Rows.seamCornersRow.origin Rows.seamCornersRow.targs := of_decide_eq_true (by kernel_rfl)
theorem wrapper : Try.f14.isWrapper Try.prog Rows.seamCornersRow.wrapper Rows.seamCornersRow.mainSum := by unfold Func.isWrapper; first | (rw [if_pos (by decide +kernel)]; kernel_rfl) | (rw [if_neg (by decide +kernel)]; exact ⟨rfl, rfl⟩)
end Go.Proofs.Ytcalipoknbbaaaa.seamCorners
