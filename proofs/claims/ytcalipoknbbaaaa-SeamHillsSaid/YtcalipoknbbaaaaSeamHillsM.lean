/- The closed facts of the row for SeamHills. -/
import Derived.Test.YtcalipoknbbaaaaFact1
import Derived.Test.YtcalipoknbbaaaaFact2
import Derived.Test.YtcalipoknbbaaaaFact3
import Derived.Test.YtcalipoknbbaaaaFact4
namespace Go.Proofs.Ytcalipoknbbaaaa.seamHills
open Go Go.RowKit
theorem inPlace : (Rows.seamHillsRow.inPlace == Try.prog.inPlace 3) = true := by kernel_rfl
theorem unfollowed : (Rows.seamHillsRow.unfollowed == Try.prog.unfollowed 3) = true := by kernel_rfl
theorem recurses : (Rows.seamHillsRow.recurses == Try.prog.recurses 3) = true := by kernel_rfl
theorem varsNamed : (Rows.seamHillsRow.named == Try.prog.varsNamed 3) = true := by kernel_rfl
theorem plainKeys : (Rows.seamHillsRow.plainKeys == Try.prog.plainKeys) = true := by kernel_rfl
theorem closed : joinedFacts Try.prog 3 Try.f3 Rows.seamHillsSpec Rows.seamHillsRow = true := by
  unfold joinedFacts
  simp only [Bool.and_eq_true]
  repeat' (first | with_reducible exact fact_enter | with_reducible exact fact_make | with_reducible exact fact_lifts | with_reducible exact fact_laid | with_reducible exact fact_maps | with_reducible exact fact_heard | with_reducible exact inPlace | with_reducible exact unfollowed | with_reducible exact recurses | with_reducible exact varsNamed | with_reducible exact plainKeys | with_reducible apply And.intro)
  all_goals kernel_rfl
theorem named : Try.prog.funcNamed Rows.seamHillsRow.func = some 3 := by kernel_rfl
theorem inst : Try.f3.isInstance Try.prog Rows.seamHillsRow.origin Rows.seamHillsRow.targs := of_decide_eq_true (by kernel_rfl)
theorem wrapper : Try.f3.isWrapper Try.prog Rows.seamHillsRow.wrapper Rows.seamHillsRow.mainSum := by unfold Func.isWrapper; first | (rw [if_pos (by decide +kernel)]; kernel_rfl) | (rw [if_neg (by decide +kernel)]; exact ⟨rfl, rfl⟩)
end Go.Proofs.Ytcalipoknbbaaaa.seamHills
