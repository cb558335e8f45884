/- The closed facts of the row for SeamDepths. -/
import Derived.Test.YtcalipoknbbaaaaFactA
namespace Go.Proofs.Ytcalipoknbbaaaa.seamDepths
open Go Go.RowKit
theorem inPlace : (Rows.seamDepthsRow.inPlace == Try.prog.inPlace 7) = true := by kernel_rfl
theorem unfollowed : (Rows.seamDepthsRow.unfollowed == Try.prog.unfollowed 7) = true := by kernel_rfl
theorem recurses : (Rows.seamDepthsRow.recurses == Try.prog.recurses 7) = true := by kernel_rfl
theorem varsNamed : (Rows.seamDepthsRow.named == Try.prog.varsNamed 7) = true := by kernel_rfl
theorem plainKeys : (Rows.seamDepthsRow.plainKeys == Try.prog.plainKeys) = true := by kernel_rfl
theorem closed : joinedFacts Try.prog 7 Try.f7 Rows.seamDepthsSpec Rows.seamDepthsRow = true := by
  unfold joinedFacts
  simp only [Bool.and_eq_true]
  repeat' (first | with_reducible exact fact_enter | with_reducible exact fact_make | with_reducible exact fact_lifts | with_reducible exact fact_laid | with_reducible exact fact_maps | with_reducible exact fact_heard | with_reducible exact inPlace | with_reducible exact unfollowed | with_reducible exact recurses | with_reducible exact varsNamed | with_reducible exact plainKeys | with_reducible apply And.intro)
  all_goals kernel_rfl
theorem named : Try.prog.funcNamed Rows.seamDepthsRow.func = some 7 := by kernel_rfl
theorem inst : Try.f7.isInstance Try.prog Rows.seamDepthsRow.origin Rows.seamDepthsRow.targs := of_decide_eq_true (by kernel_rfl)
theorem wrapper : Try.f7.isWrapper Try.prog Rows.seamDepthsRow.wrapper Rows.seamDepthsRow.mainSum := by unfold Func.isWrapper; first | (rw [if_pos (by decide +kernel)]; kernel_rfl) | (rw [if_neg (by decide +kernel)]; exact ⟨rfl, rfl⟩)
end Go.Proofs.Ytcalipoknbbaaaa.seamDepths
