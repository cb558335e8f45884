/- The row's step for DrainSteps. -/
import Derived.Test.YtadamjleglckpaaGreatRows
import Derived.WalkKit
import Derived.ProofKit
import Derived.OpenShut
import Derived.Test.YtadamjleglckpaaGreatQa3
import Derived.Test.YtadamjleglckpaaGreatDrainStepsB
namespace Go.Proofs.YtadamjleglckpaaGreat.drainSteps
open Go Go.ChangeShapes Go.WideShapes Go.ChangeAt Go.RowKit
open Go.Proofs.YtadamjleglckpaaGreat.drn

theorem own : ownKnob Tryz.prog.godebug = none := by kernel_rfl

set_option maxRecDepth 100000 in
theorem lifted (os : Os) (started : os.Started) (H : Type) (enc : TypeId × Value → H) :
    ReturnsInHanded {} Tryz.checked os 4 .any (Rows.drainStepsSpec.pre6 enc Tryz.prog Tryz.f4 Rows.drainStepsRow.domain false) (Rows.drainStepsSpec.post enc Tryz.prog Tryz.f4 false true false false) := by
  refine returnsInHanded_of_change (C := Tryz.checked) own started (by kernel_rfl) Tryz.func4
    (ChangeSpec.witness6 (enc := enc) (C := Tryz.checked) false { blocks := #[], args := #[.agg (flat8 (List.replicate 22 0)).toArray], vars := [] } 8 (by kernel_rfl) (by kernel_rfl) (by kernel_rfl) (by kernel_rfl)) ?_
  intro W base args ds gs before hval0 hW hcnd _
  have hval : ∀ (j : Nat) t v, Tryz.f4.params[j]? = some t → args[j]? = some v → Value.okWide Tryz.prog W .any base t v := hval0
  have hW' := hW
  obtain ⟨p, q, hA0, hV, rfl, hfz, hnd⟩ := hW
  have hA : DataW.TrodAll enc Tryz.prog W 0 (fun _ => true) true Tryz.f4.params.toList args.toList ds p := hA0
  rw [Tryz.params4] at hA hval
  obtain ⟨v0, vs0, d0, ds0, p0, q0, hargs, rfl, rfl, h0, r0⟩ := trodAll_cons hA
  obtain ⟨rfl, rfl, rfl⟩ := trodAll_nil r0
  obtain rfl := arr_eq hargs
  obtain ⟨rfl, rfl⟩ := trodVars_none hV
  obtain ⟨rfl, g0⟩ := trod_same 5 plainAdit h0
  obtain ⟨x0, rfl, k0, b0⟩ := adit_of (hval 0 44 v0 rfl rfl)
  clear hA0 hval0
  simp only [List.append_nil] at hW'
  refine (DrainSteps_any x0 k0 b0 W).mono fun e W' ⟨he, hg⟩ => ?_
  subst he
  refine ⟨_, rfl, _, _, _, [] ++ [], [] ++ [], [], hW', ?_, ?_, ?_, hg.frame _, fun h => by cases h⟩
  · exact trodAll_cons_mk (shut_bool Tryz.underlying4 _) trodAll_mk0
  · exact trodAll_cons_mk (g0 _ _ _ _) trodAll_mk0
  · rfl

end Go.Proofs.YtadamjleglckpaaGreat.drainSteps
