/- Function 25, step by step: what its call answers. -/
import Derived.Test.YtcllgicphjmamabKd0
import Derived.Test.YtcllgicphjmamabKdl
import Derived.WalkKit
namespace Go.Proofs.Ytcllgicphjmamab.ev
open Go.RowKit
set_option maxRecDepth 1000000
theorem run25x0 {Q : Exit → Act → World → Prop} {w0 : World} (next : ∀ a w, At f25x0.ts1 f25x0.s1 w0 a w → (tlN 1 (bodyOf Try.prog 25)).wp Try.prog Q a w) (a : Act) (w : World) (h : At f25x0.ts0 f25x0.s0 w0 a w) : (tlN 0 (bodyOf Try.prog 25)).wp Try.prog Q a w := by
  refine at_nth (i := 0) f25x0.q0 f25x0.h0 h fun a1 w1 h1 => ?_
  exact next _ _ h1

theorem works_any (w : World) : Calls Try.prog 25 #[] w fun e w' => e = .returned (.bool true) ∧ Below w.heap.size w w' := by
  refine calls_says (nt := 265) (by kernel_rfl) (by kernel_rfl) w fun a h => ?_
  have e1 : frameT 265 [] = f25x0.ts0 := by kernel_rfl
  have e2 : st0 = f25x0.s0 := by kernel_rfl
  rw [e1, e2] at h
  show (tlN 0 (bodyOf Try.prog 25)).wp Try.prog _ a w
  revert a
  have go : ∀ a w1, At f25x0.ts0 f25x0.s0 w a w1 → (tlN 0 (bodyOf Try.prog 25)).wp Try.prog (Says Try.prog 25 w) a w1 := by
    refine run25x0 fun a w1 h => ?_
    have f1 : f25x0.ts1 = f25l.tsl := by kernel_rfl
    have f2 : f25x0.s1 = f25l.sl := by kernel_rfl
    rw [f1, f2] at h
    exact at_last f25l.hl h
  exact fun a h => go a w h
end Go.Proofs.Ytcllgicphjmamab.ev
