/- The closed facts of the row for SeamKnown. -/
import Derived.Test.YtcalipoknbbaaaaFact1
import Derived.Test.YtcalipoknbbaaaaFact2
import Derived.Test.YtcalipoknbbaaaaFact3
namespace Go.Proofs.Ytcalipoknbbaaaa.seamKnown
open Go Go.RowKit
theorem closed : joinedFacts Try.prog 18 Try.f18 Rows.seamKnownSpec Rows.seamKnownRow = true := by
  unfold joinedFacts
  simp only [Bool.and_eq_true]
  repeat' (first | with_reducible exact fact_enter | with_reducible exact fact_make | with_reducible exact fact_lifts | with_reducible apply And.intro)
  all_goals kernel_rfl
theorem named : Try.prog.funcNamed Rows.seamKnownRow.func = some 18 := by kernel_rfl
theorem inst : Try.f18.isInstance Try.prog Rows.seamKnownRow.origin Rows.seamKnownRow.targs := of_decide_eq_true (by kernel_rfl)
theorem wrapper : Try.f18.isWrapper Try.prog Rows.seamKnownRow.wrapper Rows.seamKnownRow.mainSum := by unfold Func.isWrapper; first | (rw [if_pos (by decide +kernel)]; kernel_rfl) | (rw [if_neg (by decide +kernel)]; exact ⟨rfl, rfl⟩)
end Go.Proofs.Ytcalipoknbbaaaa.seamKnown
