/- The closed facts of the row for PropSeries. -/
import Derived.Test.YtffblmhaoekkgaaPFact1
import Derived.Test.YtffblmhaoekkgaaPFact2
import Derived.Test.YtffblmhaoekkgaaPFact3
import Derived.Test.YtffblmhaoekkgaaPFact4
namespace Go.Proofs.Ytffblmhaoekkgaa.propSeries
open Go Go.RowKit
theorem inPlace : (Rows.propSeriesRow.inPlace == Try.prog.inPlace 9) = true := by kernel_rfl
theorem unfollowed : (Rows.propSeriesRow.unfollowed == Try.prog.unfollowed 9) = true := by kernel_rfl
theorem recurses : (Rows.propSeriesRow.recurses == Try.prog.recurses 9) = true := by kernel_rfl
theorem varsNamed : (Rows.propSeriesRow.named == Try.prog.varsNamed 9) = true := by kernel_rfl
theorem plainKeys : (Rows.propSeriesRow.plainKeys == Try.prog.plainKeys) = true := by kernel_rfl
theorem closed : joinedFacts Try.prog 9 Try.f9 Rows.propSeriesSpec Rows.propSeriesRow = true := by
  unfold joinedFacts
  simp only [Bool.and_eq_true]
  repeat' (first | with_reducible exact fact_enter | with_reducible exact fact_make | with_reducible exact fact_lifts | with_reducible exact fact_laid | with_reducible exact fact_maps | with_reducible exact fact_heard | with_reducible exact inPlace | with_reducible exact unfollowed | with_reducible exact recurses | with_reducible exact varsNamed | with_reducible exact plainKeys | with_reducible apply And.intro)
  all_goals kernel_rfl
theorem named : Try.prog.funcNamed Rows.propSeriesRow.func = some 9 := by kernel_rfl
theorem inst : Try.f9.isInstance Try.prog Rows.propSeriesRow.origin Rows.propSeriesRow.targs := of_decide_eq_true (by kernel_rfl)
theorem wrapper : Try.f9.isWrapper Try.prog Rows.propSeriesRow.wrapper Rows.propSeriesRow.mainSum := by unfold Func.isWrapper; first | (rw [if_pos (by decide +kernel)]; kernel_rfl) | (rw [if_neg (by decide +kernel)]; exact ⟨rfl, rfl⟩)
end Go.Proofs.Ytffblmhaoekkgaa.propSeries
