/- The closed facts of the row for PropShown. -/
import Derived.Test.YtffblmhaoekkgaaPFact1
import Derived.Test.YtffblmhaoekkgaaPFact2
import Derived.Test.YtffblmhaoekkgaaPFact3
import Derived.Test.YtffblmhaoekkgaaPFact4
namespace Go.Proofs.Ytffblmhaoekkgaa.propShown
open Go Go.RowKit
theorem inPlace : (Rows.propShownRow.inPlace == Try.prog.inPlace 11) = true := by kernel_rfl
theorem unfollowed : (Rows.propShownRow.unfollowed == Try.prog.unfollowed 11) = true := by kernel_rfl
theorem recurses : (Rows.propShownRow.recurses == Try.prog.recurses 11) = true := by kernel_rfl
theorem varsNamed : (Rows.propShownRow.named == Try.prog.varsNamed 11) = true := by kernel_rfl
theorem plainKeys : (Rows.propShownRow.plainKeys == Try.prog.plainKeys) = true := by kernel_rfl
theorem closed : joinedFacts Try.prog 11 Try.f11 Rows.propShownSpec Rows.propShownRow = true := by
  unfold joinedFacts
  simp only [Bool.and_eq_true]
  repeat' (first | with_reducible exact fact_enter | with_reducible exact fact_make | with_reducible exact fact_lifts | with_reducible exact fact_laid | with_reducible exact fact_maps | with_reducible exact fact_heard | with_reducible exact inPlace | with_reducible exact unfollowed | with_reducible exact recurses | with_reducible exact varsNamed | with_reducible exact plainKeys | with_reducible apply And.intro)
  all_goals kernel_rfl
theorem named : Try.prog.funcNamed Rows.propShownRow.func = some 11 := by kernel_rfl
theorem inst : Try.f11.isInstance Try.prog Rows.propShownRow.origin Rows.propShownRow.targs := of_decide_eq_true (by kernel_rfl)
theorem wrapper : Try.f11.isWrapper Try.prog Rows.propShownRow.wrapper Rows.propShownRow.mainSum := by unfold Func.isWrapper; first | (rw [if_pos (by decide +kernel)]; kernel_rfl) | (rw [if_neg (by decide +kernel)]; exact ⟨rfl, rfl⟩)
end Go.Proofs.Ytffblmhaoekkgaa.propShown
