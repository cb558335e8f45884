/- The closed facts of the row for DrainPlans. -/
import Derived.Test.YtadamjleglckpaaQa11

namespace Go.Proofs.Ytadamjleglckpaa.drainPlans
open Go Go.RowKit
theorem inPlace : (Rows.drainPlansRow.inPlace == Try.prog.inPlace 3) = true := by kernel_rfl
theorem unfollowed : (Rows.drainPlansRow.unfollowed == Try.prog.unfollowed 3) = true := by kernel_rfl
theorem recurses : (Rows.drainPlansRow.recurses == Try.prog.recurses 3) = true := by kernel_rfl
theorem varsNamed : (Rows.drainPlansRow.named == Try.prog.varsNamed 3) = true := by kernel_rfl
theorem plainKeys : (Rows.drainPlansRow.plainKeys == Try.prog.plainKeys) = true := by kernel_rfl
theorem closed : joinedFacts Try.prog 3 Try.f3 Rows.drainPlansSpec Rows.drainPlansRow = true := by
  unfold joinedFacts
  simp only [Bool.and_eq_true]
  repeat' (first | with_reducible exact fact_enter | with_reducible exact fact_make | with_reducible exact fact_lifts | with_reducible exact fact_laid | with_reducible exact fact_maps | with_reducible exact fact_heard | with_reducible exact inPlace | with_reducible exact unfollowed | with_reducible exact recurses | with_reducible exact varsNamed | with_reducible exact plainKeys | with_reducible apply And.intro)
  all_goals kernel_rfl
theorem named : Try.prog.funcNamed Rows.drainPlansRow.func = some 3 := by kernel_rfl
theorem inst : Try.f3.isInstance Try.prog Rows.drainPlansRow.origin Rows.drainPlansRow.targs := of_decide_eq_true (by kernel_rfl)
theorem wrapper : Try.f3.isWrapper Try.prog Rows.drainPlansRow.wrapper Rows.drainPlansRow.mainSum := by unfold Func.isWrapper; first | (rw [if_pos (by decide +kernel)]; kernel_rfl) | (rw [if_neg (by decide +kernel)]; exact ⟨rfl, rfl⟩)
end Go.Proofs.Ytadamjleglckpaa.drainPlans

