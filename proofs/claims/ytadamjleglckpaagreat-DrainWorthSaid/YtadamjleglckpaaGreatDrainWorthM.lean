/- The closed facts of the row for DrainWorth. -/
import Derived.Test.YtadamjleglckpaaGreatQa14

namespace Go.Proofs.YtadamjleglckpaaGreat.drainWorth
open Go Go.RowKit
theorem inPlace : (Rows.drainWorthRow.inPlace == Tryz.prog.inPlace 5) = true := by kernel_rfl
theorem unfollowed : (Rows.drainWorthRow.unfollowed == Tryz.prog.unfollowed 5) = true := by kernel_rfl
theorem recurses : (Rows.drainWorthRow.recurses == Tryz.prog.recurses 5) = true := by kernel_rfl
theorem varsNamed : (Rows.drainWorthRow.named == Tryz.prog.varsNamed 5) = true := by kernel_rfl
theorem plainKeys : (Rows.drainWorthRow.plainKeys == Tryz.prog.plainKeys) = true := by kernel_rfl
theorem closed : joinedFacts Tryz.prog 5 Tryz.f5 Rows.drainWorthSpec Rows.drainWorthRow = true := by
  unfold joinedFacts
  simp only [Bool.and_eq_true]
  repeat' (first | with_reducible exact fact_enter | with_reducible exact fact_make | with_reducible exact fact_lifts | with_reducible exact fact_laid | with_reducible exact fact_maps | with_reducible exact fact_heard | with_reducible exact inPlace | with_reducible exact unfollowed | with_reducible exact recurses | with_reducible exact varsNamed | with_reducible exact plainKeys | with_reducible apply And.intro)
  all_goals kernel_rfl
theorem named : Tryz.prog.funcNamed Rows.drainWorthRow.func = some 5 := by kernel_rfl
theorem inst : Tryz.f5.isInstance Tryz.prog Rows.drainWorthRow.origin Rows.drainWorthRow.targs := of_decide_eq_true (by kernel_rfl)
theorem wrapper : Tryz.f5.isWrapper Tryz.prog Rows.drainWorthRow.wrapper Rows.drainWorthRow.mainSum := by unfold Func.isWrapper; first | (rw [if_pos (by decide +kernel)]; kernel_rfl) | (rw [if_neg (by decide +kernel)]; exact ⟨rfl, rfl⟩)
end Go.Proofs.YtadamjleglckpaaGreat.drainWorth

