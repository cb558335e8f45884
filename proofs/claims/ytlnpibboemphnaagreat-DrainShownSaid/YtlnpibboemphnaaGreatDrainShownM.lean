/- The closed facts of the row for DrainShown. -/
import Derived.Test.YtlnpibboemphnaaGreatQa14

namespace Go.Proofs.YtlnpibboemphnaaGreat.drainShown
open Go Go.RowKit
theorem inPlace : (Rows.drainShownRow.inPlace == Tryz.prog.inPlace 10) = true := by kernel_rfl
theorem unfollowed : (Rows.drainShownRow.unfollowed == Tryz.prog.unfollowed 10) = true := by kernel_rfl
theorem recurses : (Rows.drainShownRow.recurses == Tryz.prog.recurses 10) = true := by kernel_rfl
theorem varsNamed : (Rows.drainShownRow.named == Tryz.prog.varsNamed 10) = true := by kernel_rfl
theorem plainKeys : (Rows.drainShownRow.plainKeys == Tryz.prog.plainKeys) = true := by kernel_rfl
theorem closed : joinedFacts Tryz.prog 10 Tryz.f10 Rows.drainShownSpec Rows.drainShownRow = true := by
  unfold joinedFacts
  simp only [Bool.and_eq_true]
  repeat' (first | with_reducible exact fact_enter | with_reducible exact fact_make | with_reducible exact fact_lifts | with_reducible exact fact_laid | with_reducible exact fact_maps | with_reducible exact fact_heard | with_reducible exact inPlace | with_reducible exact unfollowed | with_reducible exact recurses | with_reducible exact varsNamed | with_reducible exact plainKeys | with_reducible apply And.intro)
  all_goals kernel_rfl
theorem named : Tryz.prog.funcNamed Rows.drainShownRow.func = some 10 := by kernel_rfl
theorem inst : Tryz.f10.isInstance Tryz.prog Rows.drainShownRow.origin Rows.drainShownRow.targs := of_decide_eq_true (by kernel_rfl)
theorem wrapper : Tryz.f10.isWrapper Tryz.prog Rows.drainShownRow.wrapper Rows.drainShownRow.mainSum := by unfold Func.isWrapper; first | (rw [if_pos (by decide +kernel)]; kernel_rfl) | (rw [if_neg (by decide +kernel)]; exact ⟨rfl, rfl⟩)
end Go.Proofs.YtlnpibboemphnaaGreat.drainShown

