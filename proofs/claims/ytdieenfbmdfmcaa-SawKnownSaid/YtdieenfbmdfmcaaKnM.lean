/- The closed facts of the row for SawKnown. -/
import Derived.Test.YtdieenfbmdfmcaaRows
import Derived.ProofKit
namespace Go.Proofs.Ytdieenfbmdfmcaa.sawKnown
open Go Go.RowKit
theorem fact_enter : Try.prog.mayEnter = true := by kernel_rfl
theorem fact_make : (Try.prog.make == some Rows.sawKnownRow.make) = true := by kernel_rfl
theorem fact_lifts : (Rows.sawKnownRow.lifted == Try.prog.liftsFinal) = true := by kernel_rfl
theorem fact_laid : laidOutB Try.prog = true := by kernel_rfl
theorem fact_maps : mapsRowed Try.prog = true := by kernel_rfl
theorem fact_heard : Try.prog.stopsHeard = true := by kernel_rfl
theorem inPlace : (Rows.sawKnownRow.inPlace == Try.prog.inPlace 3) = true := by kernel_rfl
theorem unfollowed : (Rows.sawKnownRow.unfollowed == Try.prog.unfollowed 3) = true := by kernel_rfl
theorem recurses : (Rows.sawKnownRow.recurses == Try.prog.recurses 3) = true := by kernel_rfl
theorem varsNamed : (Rows.sawKnownRow.named == Try.prog.varsNamed 3) = true := by kernel_rfl
theorem plainKeys : (Rows.sawKnownRow.plainKeys == Try.prog.plainKeys) = true := by kernel_rfl
theorem closed : joinedFacts Try.prog 3 Try.f3 Rows.sawKnownSpec Rows.sawKnownRow = true := by
  unfold joinedFacts
  simp only [Bool.and_eq_true]
  repeat' (first | with_reducible exact fact_enter | with_reducible exact fact_make | with_reducible exact fact_lifts | with_reducible exact fact_laid | with_reducible exact fact_maps | with_reducible exact fact_heard | with_reducible exact inPlace | with_reducible exact unfollowed | with_reducible exact recurses | with_reducible exact varsNamed | with_reducible exact plainKeys | with_reducible apply And.intro)
  all_goals kernel_rfl
theorem named : Try.prog.funcNamed Rows.sawKnownRow.func = some 3 := by kernel_rfl
theorem inst : Try.f3.isInstance Try.prog Rows.sawKnownRow.origin Rows.sawKnownRow.targs := of_decide_eq_true (by kernel_rfl)
theorem wrapper : Try.f3.isWrapper Try.prog Rows.sawKnownRow.wrapper Rows.sawKnownRow.mainSum := by unfold Func.isWrapper; first | (rw [if_pos (by decide +kernel)]; kernel_rfl) | (rw [if_neg (by decide +kernel)]; exact ⟨rfl, rfl⟩)
end Go.Proofs.Ytdieenfbmdfmcaa.sawKnown
