/- The closed facts of the row for SeamRadon. -/
import Derived.Test.YtcalipoknbbaaaaFact1
import Derived.Test.YtcalipoknbbaaaaFact2
import Derived.Test.YtcalipoknbbaaaaFact3
import Derived.Test.YtcalipoknbbaaaaFact4
namespace Go.Proofs.Ytcalipoknbbaaaa.seamRadon
open Go Go.RowKit
theorem inPlace : (Rows.seamRadonRow.inPlace == Try.prog.inPlace 15) = true := by kernel_rfl
theorem unfollowed : (Rows.seamRadonRow.unfollowed == Try.prog.unfollowed 15) = true := by kernel_rfl
theorem recurses : (Rows.seamRadonRow.recurses == Try.prog.recurses 15) = true := by kernel_rfl
theorem varsNamed : (Rows.seamRadonRow.named == Try.prog.varsNamed 15) = true := by kernel_rfl
theorem plainKeys : (Rows.seamRadonRow.plainKeys == Try.prog.plainKeys) = true := by kernel_rfl
theorem closed : joinedFacts Try.prog 15 Try.f15 Rows.seamRadonSpec Rows.seamRadonRow = true := by
  unfold joinedFacts
  simp only [Bool.and_eq_true]
  repeat' (first | with_reducible exact fact_enter | with_reducible exact fact_make | with_reducible exact fact_lifts | with_reducible exact fact_laid | with_reducible exact fact_maps | with_reducible exact fact_heard | with_reducible exact inPlace | with_reducible exact unfollowed | with_reducible exact recurses | with_reducible exact varsNamed | with_reducible exact plainKeys | with_reducible apply And.intro)
  all_goals kernel_rfl
theorem named : Try.prog.funcNamed Rows.seamRadonRow.func = some 15 := by kernel_rfl
theorem inst : Try.f15.isInstance Try.prog Rows.seamRadonRow.origin Rows.seamRadonRow.targs := of_decide_eq_true (by kernel_rfl)
theorem wrapper : Try.f15.isWrapper Try.prog Rows.seamRadonRow.wrapper Rows.seamRadonRow.mainSum := by unfold Func.isWrapper; first | (rw [if_pos (by decide +kernel)]; kernel_rfl) | (rw [if_neg (by decide +kernel)]; exact ⟨rfl, rfl⟩)
end Go.Proofs.Ytcalipoknbbaaaa.seamRadon
