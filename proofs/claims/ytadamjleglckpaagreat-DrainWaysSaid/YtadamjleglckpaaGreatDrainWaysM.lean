/- The closed facts of the row for DrainWays. -/
import Derived.Test.YtadamjleglckpaaGreatQa14
namespace Go.Proofs.YtadamjleglckpaaGreat.drainWays
open Go Go.RowKit
theorem inPlace : (Rows.drainWaysRow.inPlace == Tryz.prog.inPlace 6) = true := by kernel_rfl
theorem unfollowed : (Rows.drainWaysRow.unfollowed == Tryz.prog.unfollowed 6) = true := by kernel_rfl
theorem recurses : (Rows.drainWaysRow.recurses == Tryz.prog.recurses 6) = true := by kernel_rfl
theorem varsNamed : (Rows.drainWaysRow.named == Tryz.prog.varsNamed 6) = true := by kernel_rfl
theorem plainKeys : (Rows.drainWaysRow.plainKeys == Tryz.prog.plainKeys) = true := by kernel_rfl
theorem closed : joinedFacts Tryz.prog 6 Tryz.f6 Rows.drainWaysSpec Rows.drainWaysRow = true := by
  unfold joinedFacts
  simp only [Bool.and_eq_true]
  repeat' (first | with_reducible exact fact_enter | with_reducible exact fact_make | with_reducible exact fact_lifts | with_reducible exact fact_laid | with_reducible exact fact_maps | with_reducible exact fact_heard | with_reducible exact inPlace | with_reducible exact unfollowed | with_reducible exact recurses | with_reducible exact varsNamed | with_reducible exact plainKeys | with_reducible apply And.intro)
  all_goals kernel_rfl
theorem named : Tryz.prog.funcNamed Rows.drainWaysRow.func = some 6 := by kernel_rfl
theorem inst : Tryz.f6.isInstance Tryz.prog Rows.drainWaysRow.origin Rows.drainWaysRow.targs := of_decide_eq_true (by kernel_rfl)
theorem wrapper : Tryz.f6.isWrapper Tryz.prog Rows.drainWaysRow.wrapper Rows.drainWaysRow.mainSum := by unfold Func.isWrapper; first | (rw [if_pos (by decide +kernel)]; kernel_rfl) | (rw [if_neg (by decide +kernel)]; exact ⟨rfl, rfl⟩)
end Go.Proofs.YtadamjleglckpaaGreat.drainWays
