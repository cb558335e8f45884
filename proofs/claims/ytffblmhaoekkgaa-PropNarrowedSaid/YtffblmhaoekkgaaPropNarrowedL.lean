/- The row's step for PropNarrowed. -/
import Derived.Test.YtffblmhaoekkgaaRows
import Derived.WalkKit
import Derived.ProofKit
import Derived.OpenShut
import Derived.Test.YtffblmhaoekkgaaPrpQ
import Derived.Test.YtffblmhaoekkgaaPropNarrowedB
namespace Go.Proofs.Ytffblmhaoekkgaa.propNarrowed
open Go Go.ChangeShapes Go.WideShapes Go.ChangeAt Go.RowKit
open Go.Proofs.Ytffblmhaoekkgaa.prp

theorem own : ownKnob Try.prog.godebug = none := by kernel_rfl

set_option maxRecDepth 100000 in
theorem lifted (os : Os) (started : os.Started) (H : Type) (enc : TypeId × Value → H) :
    ReturnsInHanded {} Try.checked os 6 .any (Rows.propNarrowedSpec.pre6 enc Try.prog Try.f6 Rows.propNarrowedRow.domain false) (Rows.propNarrowedSpec.post enc Try.prog Try.f6 false true false false) := by
  refine returnsInHanded_of_change (C := Try.checked) own started (by kernel_rfl) Try.func6
    (ChangeSpec.witness6 (enc := enc) (C := Try.checked) false { blocks := #[], args := #[.agg (flatU (List.replicate 21 0)).toArray, .int .u8 0, .int .u8 0, .int .u8 0], vars := [] } 8 (by kernel_rfl) (by kernel_rfl) (by kernel_rfl) (by kernel_rfl)) ?_
  intro W base args ds gs before hval0 hW hcnd _
  have hval : ∀ (j : Nat) t v, Try.f6.params[j]? = some t → args[j]? = some v → Value.okWide Try.prog W .any base t v := hval0
  have hW' := hW
  obtain ⟨p, q, hA0, hV, rfl, hfz, hnd⟩ := hW
  have hA : DataW.TrodAll enc Try.prog W 0 (fun _ => true) true Try.f6.params.toList args.toList ds p := hA0
  rw [Try.params6] at hA hval
  obtain ⟨v0, vs0, d0, ds0, p0, q0, hargs, rfl, rfl, h0, r0⟩ := trodAll_cons hA
  obtain ⟨v1, vs1, d1, ds1, p1, q1, rfl, rfl, rfl, h1, r1⟩ := trodAll_cons r0
  obtain ⟨v2, vs2, d2, ds2, p2, q2, rfl, rfl, rfl, h2, r2⟩ := trodAll_cons r1
  obtain ⟨v3, vs3, d3, ds3, p3, q3, rfl, rfl, rfl, h3, r3⟩ := trodAll_cons r2
  obtain ⟨rfl, rfl, rfl⟩ := trodAll_nil r3
  obtain rfl := arr_eq hargs
  obtain ⟨rfl, rfl⟩ := trodVars_none hV
  obtain ⟨rfl, g0⟩ := trod_same 5 plainHeap h0
  obtain ⟨rfl, g1⟩ := trod_same 5 plainU8 h1
  obtain ⟨rfl, g2⟩ := trod_same 5 plainU8 h2
  obtain ⟨rfl, g3⟩ := trod_same 5 plainU8 h3
  obtain ⟨x0, rfl, k0, b0⟩ := heap_of (hval 0 25 v0 rfl rfl)
  obtain ⟨x1, rfl, b1⟩ := u8_of (hval 1 5 v1 rfl rfl)
  obtain ⟨x2, rfl, b2⟩ := u8_of (hval 2 5 v2 rfl rfl)
  obtain ⟨x3, rfl, b3⟩ := u8_of (hval 3 5 v3 rfl rfl)
  clear hA0 hval0
  simp only [List.append_nil] at hW'
  refine (PropNarrowed_any x0 x1 x2 x3 k0 b0 b1 b2 b3 W).mono fun e W' ⟨he, hg⟩ => ?_
  subst he
  refine ⟨_, rfl, _, _, _, [] ++ [], [] ++ [], [], hW', ?_, ?_, ?_, hg.frame _, fun h => by cases h⟩
  · exact trodAll_cons_mk (shut_bool Try.underlying4 _) trodAll_mk0
  · exact trodAll_cons_mk (g0 _ _ _ _) (trodAll_cons_mk (g1 _ _ _ _) (trodAll_cons_mk (g2 _ _ _ _) (trodAll_cons_mk (g3 _ _ _ _) trodAll_mk0)))
  · rfl

end Go.Proofs.Ytffblmhaoekkgaa.propNarrowed
