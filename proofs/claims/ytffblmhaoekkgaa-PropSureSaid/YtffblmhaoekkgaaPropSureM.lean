/- The closed facts of the row for PropSure. -/
import Derived.Test.YtffblmhaoekkgaaPFact1
import Derived.Test.YtffblmhaoekkgaaPFact2
import Derived.Test.YtffblmhaoekkgaaPFact3
import Derived.Test.YtffblmhaoekkgaaPFact4
namespace Go.Proofs.Ytffblmhaoekkgaa.propSure
open Go Go.RowKit
theorem inPlace : (Rows.propSureRow.inPlace == Try.prog.inPlace 3) = true := by kernel_rfl
theorem unfollowed : (Rows.propSureRow.unfollowed == Try.prog.unfollowed 3) = true := by kernel_rfl
theorem recurses : (Rows.propSureRow.recurses == Try.prog.recurses 3) = true := by kernel_rfl
theorem varsNamed : (Rows.propSureRow.named == Try.prog.varsNamed 3) = true := by kernel_rfl
theorem plainKeys : (Rows.propSureRow.plainKeys == Try.prog.plainKeys) = true := by kernel_rfl
theorem closed : joinedFacts Try.prog 3 Try.f3 Rows.propSureSpec Rows.propSureRow = true := by
  unfold joinedFacts
  simp only [Bool.and_eq_true]
  repeat' (first | with_reducible exact fact_enter | with_reducible exact fact_make | with_reducible exact fact_lifts | with_reducible exact fact_laid | with_reducible exact fact_maps | with_reducible exact fact_heard | with_reducible exact inPlace | with_reducible exact unfollowed | with_reducible exact recurses | with_reducible exact varsNamed | with_reducible exact plainKeys | with_reducible apply And.intro)
  all_goals kernel_rfl
theorem named : Try.prog.funcNamed Rows.propSureRow.func = some 3 := by kernel_rfl
theorem inst : Try.f3.isInstance Try.prog Rows.propSureRow.origin Rows.propSureRow.targs := of_decide_eq_true (by kernel_rfl)
theorem wrapper : Try.f3.isWrapper Try.prog Rows.propSureRow.wrapper Rows.propSureRow.mainSum := by unfold Func.isWrapper; first | (rw [if_pos (by decide +kernel)]; kernel_rfl) | (rw [if_neg (by decide +kernel)]; exact ⟨rfl, rfl⟩)
end Go.Proofs.Ytffblmhaoekkgaa.propSure
