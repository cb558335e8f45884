/- The closed facts of the row for PropScaled. -/
import Derived.Test.YtffblmhaoekkgaaPFact1
import Derived.Test.YtffblmhaoekkgaaPFact2
import Derived.Test.YtffblmhaoekkgaaPFact3
import Derived.Test.YtffblmhaoekkgaaPFact4
namespace Go.Proofs.Ytffblmhaoekkgaa.propScaled
open Go Go.RowKit
theorem inPlace : (Rows.propScaledRow.inPlace == Try.prog.inPlace 10) = true := by kernel_rfl
theorem unfollowed : (Rows.propScaledRow.unfollowed == Try.prog.unfollowed 10) = true := by kernel_rfl
theorem recurses : (Rows.propScaledRow.recurses == Try.prog.recurses 10) = true := by kernel_rfl
theorem varsNamed : (Rows.propScaledRow.named == Try.prog.varsNamed 10) = true := by kernel_rfl
theorem plainKeys : (Rows.propScaledRow.plainKeys == Try.prog.plainKeys) = true := by kernel_rfl
theorem closed : joinedFacts Try.prog 10 Try.f10 Rows.propScaledSpec Rows.propScaledRow = true := by
  unfold joinedFacts
  simp only [Bool.and_eq_true]
  repeat' (first | with_reducible exact fact_enter | with_reducible exact fact_make | with_reducible exact fact_lifts | with_reducible exact fact_laid | with_reducible exact fact_maps | with_reducible exact fact_heard | with_reducible exact inPlace | with_reducible exact unfollowed | with_reducible exact recurses | with_reducible exact varsNamed | with_reducible exact plainKeys | with_reducible apply And.intro)
  all_goals kernel_rfl
theorem named : Try.prog.funcNamed Rows.propScaledRow.func = some 10 := by kernel_rfl
theorem inst : Try.f10.isInstance Try.prog Rows.propScaledRow.origin Rows.propScaledRow.targs := of_decide_eq_true (by kernel_rfl)
theorem wrapper : Try.f10.isWrapper Try.prog Rows.propScaledRow.wrapper Rows.propScaledRow.mainSum := by unfold Func.isWrapper; first | (rw [if_pos (by decide +kernel)]; kernel_rfl) | (rw [if_neg (by decide +kernel)]; exact ⟨rfl, rfl⟩)
end Go.Proofs.Ytffblmhaoekkgaa.propScaled
