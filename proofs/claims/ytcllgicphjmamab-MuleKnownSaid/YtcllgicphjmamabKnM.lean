/- The closed facts of the row for MuleKnown. -/
import Derived.Test.YtcllgicphjmamabRows
import Derived.ProofKit
namespace Go.Proofs.Ytcllgicphjmamab.muleKnown
open Go Go.RowKit
theorem fact_enter : Try.prog.mayEnter = true := by kernel_rfl
theorem fact_make : (Try.prog.make == some Rows.muleKnownRow.make) = true := by kernel_rfl
theorem fact_lifts : (Rows.muleKnownRow.lifted == Try.prog.liftsFinal) = true := by kernel_rfl
theorem fact_laid : laidOutB Try.prog = true := by kernel_rfl
theorem fact_maps : mapsRowed Try.prog = true := by kernel_rfl
theorem fact_heard : Try.prog.stopsHeard = true := by kernel_rfl
theorem inPlace : (Rows.muleKnownRow.inPlace == Try.prog.inPlace 3) = true := by kernel_rfl
theorem unfollowed : (Rows.muleKnownRow.unfollowed == Try.prog.unfollowed 3) = true := by kernel_rfl
theorem recurses : (Rows.muleKnownRow.recurses == Try.prog.recurses 3) = true := by kernel_rfl
theorem varsNamed : (Rows.muleKnownRow.named == Try.prog.varsNamed 3) = true := by kernel_rfl
theorem plainKeys : (Rows.muleKnownRow.plainKeys == Try.prog.plainKeys) = true := by kernel_rfl
theorem closed : joinedFacts Try.prog 3 Try.f3 Rows.muleKnownSpec Rows.muleKnownRow = true := by
  unfold joinedFacts
  simp only [Bool.and_eq_true]
  repeat' (first | with_reducible exact fact_enter | with_reducible exact fact_make | with_reducible exact fact_lifts | with_reducible exact fact_laid | with_reducible exact fact_maps | with_reducible exact fact_heard | with_reducible exact inPlace | with_reducible exact unfollowed | with_reducible exact recurses | with_reducible exact varsNamed | with_reducible exact plainKeys | with_reducible apply And.intro)
  all_goals kernel_rfl
theorem named : Try.prog.funcNamed Rows.muleKnownRow.func = some 3 := by kernel_rfl
theorem inst : Try.f3.isInstance Try.prog Rows.muleKnownRow.origin Rows.muleKnownRow.targs := of_decide_eq_true (by kernel_rfl)
theorem wrapper : Try.f3.isWrapper Try.prog Rows.muleKnownRow.wrapper Rows.muleKnownRow.mainSum := by unfold Func.isWrapper; first | (rw [if_pos (by decide +kernel)]; kernel_rfl) | (rw [if_neg (by decide +kernel)]; exact ⟨rfl, rfl⟩)
end Go.Proofs.Ytcllgicphjmamab.muleKnown
