/- The row's step for DrainWays. -/
import Derived.Test.YtadamjleglckpaaGreatRows
import Derived.WalkKit
import Derived.ProofKit
import Derived.OpenShut
import Derived.Test.YtadamjleglckpaaGreatDrnQ6
import Derived.Test.YtadamjleglckpaaGreatDrainWaysB
namespace Go.Proofs.YtadamjleglckpaaGreat.drainWays
open Go Go.ChangeShapes Go.WideShapes Go.ChangeAt Go.RowKit
open Go.Proofs.YtadamjleglckpaaGreat.drn

theorem own : ownKnob Tryz.prog.godebug = none := by kernel_rfl

set_option maxRecDepth 100000 in
theorem lifted (os : Os) (started : os.Started) (H : Type) (enc : TypeId × Value → H) :
    ReturnsInHanded {} Tryz.checked os 6 .any (Rows.drainWaysSpec.pre6 enc Tryz.prog Tryz.f6 Rows.drainWaysRow.domain false) (Rows.drainWaysSpec.post enc Tryz.prog Tryz.f6 false true false false) := by
  refine returnsInHanded_of_change (C := Tryz.checked) own started (by kernel_rfl) Tryz.func6
    (ChangeSpec.witness6 (enc := enc) (C := Tryz.checked) false { blocks := #[], args := #[.agg (flat8 (List.replicate 22 0)).toArray, .int .u8 0, .agg (flat8 (List.replicate 6 0)).toArray], vars := [] } 8 (by kernel_rfl) (by kernel_rfl) (by kernel_rfl) (by kernel_rfl)) ?_
  intro W base args ds gs before hval0 hW hcnd _
  have hval : ∀ (j : Nat) t v, Tryz.f6.params[j]? = some t → args[j]? = some v → Value.okWide Tryz.prog W .any base t v := hval0
  have hW' := hW
  obtain ⟨p, q, hA0, hV, rfl, hfz, hnd⟩ := hW
  have hA : DataW.TrodAll enc Tryz.prog W 0 (fun _ => true) true Tryz.f6.params.toList args.toList ds p := hA0
  rw [Tryz.params6] at hA hval
  obtain ⟨v0, vs0, d0, ds0, p0, q0, hargs, rfl, rfl, h0, r0⟩ := trodAll_cons hA
  obtain ⟨v1, vs1, d1, ds1, p1, q1, rfl, rfl, rfl, h1, r1⟩ := trodAll_cons r0
  obtain ⟨v2, vs2, d2, ds2, p2, q2, rfl, rfl, rfl, h2, r2⟩ := trodAll_cons r1
  obtain ⟨rfl, rfl, rfl⟩ := trodAll_nil r2
  obtain rfl := arr_eq hargs
  obtain ⟨rfl, rfl⟩ := trodVars_none hV
  obtain ⟨rfl, g0⟩ := trod_same 5 plainAdit h0
  obtain ⟨rfl, g1⟩ := trod_same 5 plainU8 h1
  obtain ⟨rfl, g2⟩ := trod_same 5 plain6 h2
  obtain ⟨x0, rfl, k0, b0⟩ := adit_of (hval 0 44 v0 rfl rfl)
  obtain ⟨x1, rfl, b1⟩ := u8_of (hval 1 5 v1 rfl rfl)
  obtain ⟨x2, rfl, k2, b2⟩ := six_of (hval 2 41 v2 rfl rfl)
  clear hA0 hval0
  simp only [List.append_nil] at hW'
  refine (DrainWays_any x0 x1 x2 k0 b0 b1 k2 b2 W).mono fun e W' ⟨he, hg⟩ => ?_
  subst he
  refine ⟨_, rfl, _, _, _, [] ++ [], [] ++ [], [], hW', ?_, ?_, ?_, hg.frame _, fun h => by cases h⟩
  · exact trodAll_cons_mk (shut_bool Tryz.underlying4 _) trodAll_mk0
  · exact trodAll_cons_mk (g0 _ _ _ _) (trodAll_cons_mk (g1 _ _ _ _) (trodAll_cons_mk (g2 _ _ _ _) trodAll_mk0))
  · rfl

end Go.Proofs.YtadamjleglckpaaGreat.drainWays
