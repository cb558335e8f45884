/- The closed facts of the row for PropMoved. -/
import Derived.Test.YtffblmhaoekkgaaPFact1
import Derived.Test.YtffblmhaoekkgaaPFact2
import Derived.Test.YtffblmhaoekkgaaPFact3
import Derived.Test.YtffblmhaoekkgaaPFact4
namespace Go.Proofs.Ytffblmhaoekkgaa.propMoved
open Go Go.RowKit
theorem inPlace : (Rows.propMovedRow.inPlace == Try.prog.inPlace 5) = true := by kernel_rfl
theorem unfollowed : (Rows.propMovedRow.unfollowed == Try.prog.unfollowed 5) = true := by kernel_rfl
theorem recurses : (Rows.propMovedRow.recurses == Try.prog.recurses 5) = true := by kernel_rfl
theorem varsNamed : (Rows.propMovedRow.named == Try.prog.varsNamed 5) = true := by kernel_rfl
theorem plainKeys : (Rows.propMovedRow.plainKeys == Try.prog.plainKeys) = true := by kernel_rfl
theorem closed : joinedFacts Try.prog 5 Try.f5 Rows.propMovedSpec Rows.propMovedRow = true := by
  unfold joinedFacts
  simp only [Bool.and_eq_true]
  repeat' (first | with_reducible exact fact_enter | with_reducible exact fact_make | with_reducible exact fact_lifts | with_reducible exact fact_laid | with_reducible exact fact_maps | with_reducible exact fact_heard | with_reducible exact inPlace | with_reducible exact unfollowed | with_reducible exact recurses | with_reducible exact varsNamed | with_reducible exact plainKeys | with_reducible apply And.intro)
  all_goals kernel_rfl
theorem named : Try.prog.funcNamed Rows.propMovedRow.func = some 5 := by kernel_rfl
theorem inst : Try.f5.isInstance Try.prog Rows.propMovedRow.origin Rows.propMovedRow.targs := of_decide_eq_true (by kernel_rfl)
theorem wrapper : Try.f5.isWrapper Try.prog Rows.propMovedRow.wrapper Rows.propMovedRow.mainSum := by unfold Func.isWrapper; first | (rw [if_pos (by decide +kernel)]; kernel_rfl) | (rw [if_neg (by decide +kernel)]; exact ⟨rfl, rfl⟩)
end Go.Proofs.Ytffblmhaoekkgaa.propMoved
