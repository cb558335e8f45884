/- Function 18, step by step: what its call answers. -/
import Derived.Test.YtlnpibboemphnaaGreatKd0
import Derived.Test.YtlnpibboemphnaaGreatKd1
import Derived.Test.YtlnpibboemphnaaGreatKd2
import Derived.Test.YtlnpibboemphnaaGreatKdl
import Derived.WalkKit
namespace Go.Proofs.YtlnpibboemphnaaGreat.ev
open Go.RowKit
set_option maxRecDepth 1000000
theorem run18x0 {Q : Exit → Act → World → Prop} {w0 : World} (next : ∀ a w, At f18x0.ts6 f18x0.s6 w0 a w → (tlN 6 (bodyOf Tryz.prog 18)).wp Tryz.prog Q a w) (a : Act) (w : World) (h : At f18x0.ts0 f18x0.s0 w0 a w) : (tlN 0 (bodyOf Tryz.prog 18)).wp Tryz.prog Q a w := by
  refine at_nth (i := 0) f18x0.q0 f18x0.h0 h fun a1 w1 h1 => ?_
  refine at_nth (i := 1) f18x0.q1 f18x0.h1 h1 fun a2 w2 h2 => ?_
  refine at_nth (i := 2) f18x0.q2 f18x0.h2 h2 fun a3 w3 h3 => ?_
  refine at_nth (i := 3) f18x0.q3 f18x0.h3 h3 fun a4 w4 h4 => ?_
  refine at_nth (i := 4) f18x0.q4 f18x0.h4 h4 fun a5 w5 h5 => ?_
  refine at_nth (i := 5) f18x0.q5 f18x0.h5 h5 fun a6 w6 h6 => ?_
  exact next _ _ h6

theorem run18x6 {Q : Exit → Act → World → Prop} {w0 : World} (next : ∀ a w, At f18x6.ts14 f18x6.s14 w0 a w → (tlN 14 (bodyOf Tryz.prog 18)).wp Tryz.prog Q a w) (a : Act) (w : World) (h : At f18x6.ts6 f18x6.s6 w0 a w) : (tlN 6 (bodyOf Tryz.prog 18)).wp Tryz.prog Q a w := by
  refine at_nth (i := 6) f18x6.q6 f18x6.h6 h fun a7 w7 h7 => ?_
  refine at_nth (i := 7) f18x6.q7 f18x6.h7 h7 fun a8 w8 h8 => ?_
  refine at_nth (i := 8) f18x6.q8 f18x6.h8 h8 fun a9 w9 h9 => ?_
  refine at_nth (i := 9) f18x6.q9 f18x6.h9 h9 fun a10 w10 h10 => ?_
  refine at_nth (i := 10) f18x6.q10 f18x6.h10 h10 fun a11 w11 h11 => ?_
  refine at_nth (i := 11) f18x6.q11 f18x6.h11 h11 fun a12 w12 h12 => ?_
  refine at_nth (i := 12) f18x6.q12 f18x6.h12 h12 fun a13 w13 h13 => ?_
  refine at_nth (i := 13) f18x6.q13 f18x6.h13 h13 fun a14 w14 h14 => ?_
  exact next _ _ h14

theorem run18x14 {Q : Exit → Act → World → Prop} {w0 : World} (next : ∀ a w, At f18x14.ts17 f18x14.s17 w0 a w → (tlN 17 (bodyOf Tryz.prog 18)).wp Tryz.prog Q a w) (a : Act) (w : World) (h : At f18x14.ts14 f18x14.s14 w0 a w) : (tlN 14 (bodyOf Tryz.prog 18)).wp Tryz.prog Q a w := by
  refine at_nth (i := 14) f18x14.q14 f18x14.h14 h fun a15 w15 h15 => ?_
  refine at_nth (i := 15) f18x14.q15 f18x14.h15 h15 fun a16 w16 h16 => ?_
  refine at_nth (i := 16) f18x14.q16 f18x14.h16 h16 fun a17 w17 h17 => ?_
  exact next _ _ h17

theorem works_any (w : World) : Calls Tryz.prog 18 #[] w fun e w' => e = .returned (.bool true) ∧ Below w.heap.size w w' := by
  refine calls_says (nt := 242) (by kernel_rfl) (by kernel_rfl) w fun a h => ?_
  have e1 : frameT 242 [] = f18x0.ts0 := by kernel_rfl
  have e2 : st0 = f18x0.s0 := by kernel_rfl
  rw [e1, e2] at h
  show (tlN 0 (bodyOf Tryz.prog 18)).wp Tryz.prog _ a w
  revert a
  have go : ∀ a w1, At f18x0.ts0 f18x0.s0 w a w1 → (tlN 0 (bodyOf Tryz.prog 18)).wp Tryz.prog (Says Tryz.prog 18 w) a w1 := by
    refine run18x0 fun a w1 h => ?_
    have f1 : f18x0.ts6 = f18x6.ts6 := by kernel_rfl
    have f2 : f18x0.s6 = f18x6.s6 := by kernel_rfl
    rw [f1, f2] at h
    revert a w1
    refine run18x6 fun a w1 h => ?_
    have f1 : f18x6.ts14 = f18x14.ts14 := by kernel_rfl
    have f2 : f18x6.s14 = f18x14.s14 := by kernel_rfl
    rw [f1, f2] at h
    revert a w1
    refine run18x14 fun a w1 h => ?_
    have f1 : f18x14.ts17 = f18l.tsl := by kernel_rfl
    have f2 : f18x14.s17 = f18l.sl := by kernel_rfl
    rw [f1, f2] at h
    exact at_last f18l.hl h
  exact fun a h => go a w h
end Go.Proofs.YtlnpibboemphnaaGreat.ev
