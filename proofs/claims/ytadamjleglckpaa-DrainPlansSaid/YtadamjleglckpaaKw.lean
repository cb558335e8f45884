/- Function 6, step by step: what its call answers. -/
import Derived.Test.YtadamjleglckpaaKd0
import Derived.Test.YtadamjleglckpaaKd1
import Derived.Test.YtadamjleglckpaaKdl
import Derived.WalkKit
namespace Go.Proofs.Ytadamjleglckpaa.ev
open Go.RowKit
set_option maxRecDepth 1000000
theorem run6x0 {Q : Exit → Act → World → Prop} {w0 : World} (next : ∀ a w, At f6x0.ts12 f6x0.s12 w0 a w → (tlN 12 (bodyOf Try.prog 6)).wp Try.prog Q a w) (a : Act) (w : World) (h : At f6x0.ts0 f6x0.s0 w0 a w) : (tlN 0 (bodyOf Try.prog 6)).wp Try.prog Q a w := by
  refine at_nth (i := 0) f6x0.q0 f6x0.h0 h fun a1 w1 h1 => ?_
  refine at_nth (i := 1) f6x0.q1 f6x0.h1 h1 fun a2 w2 h2 => ?_
  refine at_nth (i := 2) f6x0.q2 f6x0.h2 h2 fun a3 w3 h3 => ?_
  refine at_nth (i := 3) f6x0.q3 f6x0.h3 h3 fun a4 w4 h4 => ?_
  refine at_nth (i := 4) f6x0.q4 f6x0.h4 h4 fun a5 w5 h5 => ?_
  refine at_nth (i := 5) f6x0.q5 f6x0.h5 h5 fun a6 w6 h6 => ?_
  refine at_nth (i := 6) f6x0.q6 f6x0.h6 h6 fun a7 w7 h7 => ?_
  refine at_nth (i := 7) f6x0.q7 f6x0.h7 h7 fun a8 w8 h8 => ?_
  refine at_nth (i := 8) f6x0.q8 f6x0.h8 h8 fun a9 w9 h9 => ?_
  refine at_nth (i := 9) f6x0.q9 f6x0.h9 h9 fun a10 w10 h10 => ?_
  refine at_nth (i := 10) f6x0.q10 f6x0.h10 h10 fun a11 w11 h11 => ?_
  refine at_nth (i := 11) f6x0.q11 f6x0.h11 h11 fun a12 w12 h12 => ?_
  exact next _ _ h12

theorem run6x12 {Q : Exit → Act → World → Prop} {w0 : World} (next : ∀ a w, At f6x12.ts17 f6x12.s17 w0 a w → (tlN 17 (bodyOf Try.prog 6)).wp Try.prog Q a w) (a : Act) (w : World) (h : At f6x12.ts12 f6x12.s12 w0 a w) : (tlN 12 (bodyOf Try.prog 6)).wp Try.prog Q a w := by
  refine at_nth (i := 12) f6x12.q12 f6x12.h12 h fun a13 w13 h13 => ?_
  refine at_nth (i := 13) f6x12.q13 f6x12.h13 h13 fun a14 w14 h14 => ?_
  refine at_nth (i := 14) f6x12.q14 f6x12.h14 h14 fun a15 w15 h15 => ?_
  refine at_nth (i := 15) f6x12.q15 f6x12.h15 h15 fun a16 w16 h16 => ?_
  refine at_nth (i := 16) f6x12.q16 f6x12.h16 h16 fun a17 w17 h17 => ?_
  exact next _ _ h17

theorem works_any (w : World) : Calls Try.prog 6 #[] w fun e w' => e = .returned (.bool true) ∧ Below w.heap.size w w' := by
  refine calls_says (nt := 242) (by kernel_rfl) (by kernel_rfl) w fun a h => ?_
  have e1 : frameT 242 [] = f6x0.ts0 := by kernel_rfl
  have e2 : st0 = f6x0.s0 := by kernel_rfl
  rw [e1, e2] at h
  show (tlN 0 (bodyOf Try.prog 6)).wp Try.prog _ a w
  revert a
  have go : ∀ a w1, At f6x0.ts0 f6x0.s0 w a w1 → (tlN 0 (bodyOf Try.prog 6)).wp Try.prog (Says Try.prog 6 w) a w1 := by
    refine run6x0 fun a w1 h => ?_
    have f1 : f6x0.ts12 = f6x12.ts12 := by kernel_rfl
    have f2 : f6x0.s12 = f6x12.s12 := by kernel_rfl
    rw [f1, f2] at h
    revert a w1
    refine run6x12 fun a w1 h => ?_
    have f1 : f6x12.ts17 = f6l.tsl := by kernel_rfl
    have f2 : f6x12.s17 = f6l.sl := by kernel_rfl
    rw [f1, f2] at h
    exact at_last f6l.hl h
  exact fun a h => go a w h
end Go.Proofs.Ytadamjleglckpaa.ev
