/- The closed facts of the row for DrainMore. -/
import Derived.Test.YtlkdkamhebggbaaQa11

namespace Go.Proofs.Ytlkdkamhebggbaa.drainMore
open Go Go.RowKit
theorem inPlace : (Rows.drainMoreRow.inPlace == Try.prog.inPlace 4) = true := by kernel_rfl
theorem unfollowed : (Rows.drainMoreRow.unfollowed == Try.prog.unfollowed 4) = true := by kernel_rfl
theorem recurses : (Rows.drainMoreRow.recurses == Try.prog.recurses 4) = true := by kernel_rfl
theorem varsNamed : (Rows.drainMoreRow.named == Try.prog.varsNamed 4) = true := by kernel_rfl
theorem plainKeys : (Rows.drainMoreRow.plainKeys == Try.prog.plainKeys) = true := by kernel_rfl
theorem closed : joinedFacts Try.prog 4 Try.f4 Rows.drainMoreSpec Rows.drainMoreRow = true := by
  unfold joinedFacts
  simp only [Bool.and_eq_true]
  repeat' (first | with_reducible exact fact_enter | with_reducible exact fact_make | with_reducible exact fact_lifts | with_reducible exact fact_laid | with_reducible exact fact_maps | with_reducible exact fact_heard | with_reducible exact inPlace | with_reducible exact unfollowed | with_reducible exact recurses | with_reducible exact varsNamed | with_reducible exact plainKeys | with_reducible apply And.intro)
  all_goals kernel_rfl
theorem named : Try.prog.funcNamed Rows.drainMoreRow.func = some 4 := by kernel_rfl
theorem inst : Try.f4.isInstance Try.prog Rows.drainMoreRow.origin Rows.drainMoreRow.targs := of_decide_eq_true (by kernel_rfl)
theorem wrapper : Try.f4.isWrapper Try.prog Rows.drainMoreRow.wrapper Rows.drainMoreRow.mainSum := by unfold Func.isWrapper; first | (rw [if_pos (by decide +kernel)]; kernel_rfl) | (rw [if_neg (by decide +kernel)]; exact ⟨rfl, rfl⟩)
end Go.Proofs.Ytlkdkamhebggbaa.drainMore

