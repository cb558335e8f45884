/- The closed facts of the row for ShareKnown. -/
import Derived.Test.YtcllgicphjmamaaGreatRows
import Derived.ProofKit
namespace Go.Proofs.YtcllgicphjmamaaGreat.shareKnown
open Go Go.RowKit
theorem fact_enter : Tryz.prog.mayEnter = true := by kernel_rfl
theorem fact_make : (Tryz.prog.make == some Rows.shareKnownRow.make) = true := by kernel_rfl
theorem fact_lifts : (Rows.shareKnownRow.lifted == Tryz.prog.liftsFinal) = true := by kernel_rfl
theorem fact_laid : laidOutB Tryz.prog = true := by kernel_rfl
theorem fact_maps : mapsRowed Tryz.prog = true := by kernel_rfl
theorem fact_heard : Tryz.prog.stopsHeard = true := by kernel_rfl
theorem inPlace : (Rows.shareKnownRow.inPlace == Tryz.prog.inPlace 3) = true := by kernel_rfl
theorem unfollowed : (Rows.shareKnownRow.unfollowed == Tryz.prog.unfollowed 3) = true := by kernel_rfl
theorem recurses : (Rows.shareKnownRow.recurses == Tryz.prog.recurses 3) = true := by kernel_rfl
theorem varsNamed : (Rows.shareKnownRow.named == Tryz.prog.varsNamed 3) = true := by kernel_rfl
theorem plainKeys : (Rows.shareKnownRow.plainKeys == Tryz.prog.plainKeys) = true := by kernel_rfl
theorem closed : joinedFacts Tryz.prog 3 Tryz.f3 Rows.shareKnownSpec Rows.shareKnownRow = true := by
  unfold joinedFacts
  simp only [Bool.and_eq_true]
  repeat' (first | with_reducible exact fact_enter | with_reducible exact fact_make | with_reducible exact fact_lifts | with_reducible exact fact_laid | with_reducible exact fact_maps | with_reducible exact fact_heard | with_reducible exact inPlace | with_reducible exact unfollowed | with_reducible exact recurses | with_reducible exact varsNamed | with_reducible exact plainKeys | with_reducible apply And.intro)
  all_goals kernel_rfl
theorem named : Tryz.prog.funcNamed Rows.shareKnownRow.func = some 3 := by kernel_rfl
theorem inst : Tryz.f3.isInstance Tryz.prog Rows.shareKnownRow.origin Rows.shareKnownRow.targs := of_decide_eq_true (by kernel_rfl)
theorem wrapper : Tryz.f3.isWrapper Tryz.prog Rows.shareKnownRow.wrapper Rows.shareKnownRow.mainSum := by unfold Func.isWrapper; first | (rw [if_pos (by decide +kernel)]; kernel_rfl) | (rw [if_neg (by decide +kernel)]; exact ⟨rfl, rfl⟩)
end Go.Proofs.YtcllgicphjmamaaGreat.shareKnown
