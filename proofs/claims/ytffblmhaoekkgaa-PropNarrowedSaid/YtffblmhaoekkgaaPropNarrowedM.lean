/- The closed facts of the row for PropNarrowed. -/
import Derived.Test.YtffblmhaoekkgaaPFact1
import Derived.Test.YtffblmhaoekkgaaPFact2
import Derived.Test.YtffblmhaoekkgaaPFact3
import Derived.Test.YtffblmhaoekkgaaPFact4
namespace Go.Proofs.Ytffblmhaoekkgaa.propNarrowed
open Go Go.RowKit
theorem inPlace : (Rows.propNarrowedRow.inPlace == Try.prog.inPlace 6) = true := by kernel_rfl
theorem unfollowed : (Rows.propNarrowedRow.unfollowed == Try.prog.unfollowed 6) = true := by kernel_rfl
theorem recurses : (Rows.propNarrowedRow.recurses == Try.prog.recurses 6) = true := by kernel_rfl
theorem varsNamed : (Rows.propNarrowedRow.named == Try.prog.varsNamed 6) = true := by kernel_rfl
theorem plainKeys : (Rows.propNarrowedRow.plainKeys == Try.prog.plainKeys) = true := by kernel_rfl
theorem closed : joinedFacts Try.prog 6 Try.f6 Rows.propNarrowedSpec Rows.propNarrowedRow = true := by
  unfold joinedFacts
  simp only [Bool.and_eq_true]
  repeat' (first | with_reducible exact fact_enter | with_reducible exact fact_make | with_reducible exact fact_lifts | with_reducible exact fact_laid | with_reducible exact fact_maps | with_reducible exact fact_heard | with_reducible exact inPlace | with_reducible exact unfollowed | with_reducible exact recurses | with_reducible exact varsNamed | with_reducible exact plainKeys | with_reducible apply And.intro)
  all_goals kernel_rfl
theorem named : Try.prog.funcNamed Rows.propNarrowedRow.func = some 6 := by kernel_rfl
theorem inst : Try.f6.isInstance Try.prog Rows.propNarrowedRow.origin Rows.propNarrowedRow.targs := of_decide_eq_true (by kernel_rfl)
theorem wrapper : Try.f6.isWrapper Try.prog Rows.propNarrowedRow.wrapper Rows.propNarrowedRow.mainSum := by unfold Func.isWrapper; first | (rw [if_pos (by decide +kernel)]; kernel_rfl) | (rw [if_neg (by decide +kernel)]; exact ⟨rfl, rfl⟩)
end Go.Proofs.Ytffblmhaoekkgaa.propNarrowed
