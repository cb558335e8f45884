/- Function 8, step by step: what its call answers. -/
import Derived.Test.YtadamjleglckpaaGreatKd0
import Derived.Test.YtadamjleglckpaaGreatKd1
import Derived.Test.YtadamjleglckpaaGreatKdl
import Derived.WalkKit
namespace Go.Proofs.YtadamjleglckpaaGreat.ev
open Go.RowKit
set_option maxRecDepth 1000000
theorem run8x0 {Q : Exit → Act → World → Prop} {w0 : World} (next : ∀ a w, At f8x0.ts11 f8x0.s11 w0 a w → (tlN 11 (bodyOf Tryz.prog 8)).wp Tryz.prog Q a w) (a : Act) (w : World) (h : At f8x0.ts0 f8x0.s0 w0 a w) : (tlN 0 (bodyOf Tryz.prog 8)).wp Tryz.prog Q a w := by
  refine at_nth (i := 0) f8x0.q0 f8x0.h0 h fun a1 w1 h1 => ?_
  refine at_nth (i := 1) f8x0.q1 f8x0.h1 h1 fun a2 w2 h2 => ?_
  refine at_nth (i := 2) f8x0.q2 f8x0.h2 h2 fun a3 w3 h3 => ?_
  refine at_nth (i := 3) f8x0.q3 f8x0.h3 h3 fun a4 w4 h4 => ?_
  refine at_nth (i := 4) f8x0.q4 f8x0.h4 h4 fun a5 w5 h5 => ?_
  refine at_nth (i := 5) f8x0.q5 f8x0.h5 h5 fun a6 w6 h6 => ?_
  refine at_nth (i := 6) f8x0.q6 f8x0.h6 h6 fun a7 w7 h7 => ?_
  refine at_nth (i := 7) f8x0.q7 f8x0.h7 h7 fun a8 w8 h8 => ?_
  refine at_nth (i := 8) f8x0.q8 f8x0.h8 h8 fun a9 w9 h9 => ?_
  refine at_nth (i := 9) f8x0.q9 f8x0.h9 h9 fun a10 w10 h10 => ?_
  refine at_nth (i := 10) f8x0.q10 f8x0.h10 h10 fun a11 w11 h11 => ?_
  exact next _ _ h11

theorem run8x11 {Q : Exit → Act → World → Prop} {w0 : World} (next : ∀ a w, At f8x11.ts17 f8x11.s17 w0 a w → (tlN 17 (bodyOf Tryz.prog 8)).wp Tryz.prog Q a w) (a : Act) (w : World) (h : At f8x11.ts11 f8x11.s11 w0 a w) : (tlN 11 (bodyOf Tryz.prog 8)).wp Tryz.prog Q a w := by
  refine at_nth (i := 11) f8x11.q11 f8x11.h11 h fun a12 w12 h12 => ?_
  refine at_nth (i := 12) f8x11.q12 f8x11.h12 h12 fun a13 w13 h13 => ?_
  refine at_nth (i := 13) f8x11.q13 f8x11.h13 h13 fun a14 w14 h14 => ?_
  refine at_nth (i := 14) f8x11.q14 f8x11.h14 h14 fun a15 w15 h15 => ?_
  refine at_nth (i := 15) f8x11.q15 f8x11.h15 h15 fun a16 w16 h16 => ?_
  refine at_nth (i := 16) f8x11.q16 f8x11.h16 h16 fun a17 w17 h17 => ?_
  exact next _ _ h17

theorem works_any (w : World) : Calls Tryz.prog 8 #[] w fun e w' => e = .returned (.bool true) ∧ Below w.heap.size w w' := by
  refine calls_says (nt := 242) (by kernel_rfl) (by kernel_rfl) w fun a h => ?_
  have e1 : frameT 242 [] = f8x0.ts0 := by kernel_rfl
  have e2 : st0 = f8x0.s0 := by kernel_rfl
  rw [e1, e2] at h
  show (tlN 0 (bodyOf Tryz.prog 8)).wp Tryz.prog _ a w
  revert a
  have go : ∀ a w1, At f8x0.ts0 f8x0.s0 w a w1 → (tlN 0 (bodyOf Tryz.prog 8)).wp Tryz.prog (Says Tryz.prog 8 w) a w1 := by
    refine run8x0 fun a w1 h => ?_
    have f1 : f8x0.ts11 = f8x11.ts11 := by kernel_rfl
    have f2 : f8x0.s11 = f8x11.s11 := by kernel_rfl
    rw [f1, f2] at h
    revert a w1
    refine run8x11 fun a w1 h => ?_
    have f1 : f8x11.ts17 = f8l.tsl := by kernel_rfl
    have f2 : f8x11.s17 = f8l.sl := by kernel_rfl
    rw [f1, f2] at h
    exact at_last f8l.hl h
  exact fun a h => go a w h
end Go.Proofs.YtadamjleglckpaaGreat.ev
