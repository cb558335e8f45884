/- Function 23, step by step: what its call answers. -/
import Derived.Test.YtcllgicphjmamaaGreatKd0
import Derived.Test.YtcllgicphjmamaaGreatKd1
import Derived.Test.YtcllgicphjmamaaGreatKd2
import Derived.Test.YtcllgicphjmamaaGreatKd3
import Derived.Test.YtcllgicphjmamaaGreatKd4
import Derived.Test.YtcllgicphjmamaaGreatKd5
import Derived.Test.YtcllgicphjmamaaGreatKdl
import Derived.WalkKit
namespace Go.Proofs.YtcllgicphjmamaaGreat.ev
open Go.RowKit
set_option maxRecDepth 1000000
theorem run23x0 {Q : Exit → Act → World → Prop} {w0 : World} (next : ∀ a w, At f23x0.ts6 f23x0.s6 w0 a w → (tlN 6 (bodyOf Tryz.prog 23)).wp Tryz.prog Q a w) (a : Act) (w : World) (h : At f23x0.ts0 f23x0.s0 w0 a w) : (tlN 0 (bodyOf Tryz.prog 23)).wp Tryz.prog Q a w := by
  refine at_nth (i := 0) f23x0.q0 f23x0.h0 h fun a1 w1 h1 => ?_
  refine at_nth (i := 1) f23x0.q1 f23x0.h1 h1 fun a2 w2 h2 => ?_
  refine at_nth (i := 2) f23x0.q2 f23x0.h2 h2 fun a3 w3 h3 => ?_
  refine at_nth (i := 3) f23x0.q3 f23x0.h3 h3 fun a4 w4 h4 => ?_
  refine at_nth (i := 4) f23x0.q4 f23x0.h4 h4 fun a5 w5 h5 => ?_
  refine at_nth (i := 5) f23x0.q5 f23x0.h5 h5 fun a6 w6 h6 => ?_
  exact next _ _ h6

theorem run23x6 {Q : Exit → Act → World → Prop} {w0 : World} (next : ∀ a w, At f23x6.ts11 f23x6.s11 w0 a w → (tlN 11 (bodyOf Tryz.prog 23)).wp Tryz.prog Q a w) (a : Act) (w : World) (h : At f23x6.ts6 f23x6.s6 w0 a w) : (tlN 6 (bodyOf Tryz.prog 23)).wp Tryz.prog Q a w := by
  refine at_nth (i := 6) f23x6.q6 f23x6.h6 h fun a7 w7 h7 => ?_
  refine at_nth (i := 7) f23x6.q7 f23x6.h7 h7 fun a8 w8 h8 => ?_
  refine at_nth (i := 8) f23x6.q8 f23x6.h8 h8 fun a9 w9 h9 => ?_
  refine at_nth (i := 9) f23x6.q9 f23x6.h9 h9 fun a10 w10 h10 => ?_
  refine at_nth (i := 10) f23x6.q10 f23x6.h10 h10 fun a11 w11 h11 => ?_
  exact next _ _ h11

theorem run23x11 {Q : Exit → Act → World → Prop} {w0 : World} (next : ∀ a w, At f23x11.ts13 f23x11.s13 w0 a w → (tlN 13 (bodyOf Tryz.prog 23)).wp Tryz.prog Q a w) (a : Act) (w : World) (h : At f23x11.ts11 f23x11.s11 w0 a w) : (tlN 11 (bodyOf Tryz.prog 23)).wp Tryz.prog Q a w := by
  refine at_nth (i := 11) f23x11.q11 f23x11.h11 h fun a12 w12 h12 => ?_
  refine at_nth (i := 12) f23x11.q12 f23x11.h12 h12 fun a13 w13 h13 => ?_
  exact next _ _ h13

theorem run23x13 {Q : Exit → Act → World → Prop} {w0 : World} (next : ∀ a w, At f23x13.ts14 f23x13.s14 w0 a w → (tlN 14 (bodyOf Tryz.prog 23)).wp Tryz.prog Q a w) (a : Act) (w : World) (h : At f23x13.ts13 f23x13.s13 w0 a w) : (tlN 13 (bodyOf Tryz.prog 23)).wp Tryz.prog Q a w := by
  refine at_nth (i := 13) f23x13.q13 f23x13.h13 h fun a14 w14 h14 => ?_
  exact next _ _ h14

theorem run23x14 {Q : Exit → Act → World → Prop} {w0 : World} (next : ∀ a w, At f23x14.ts16 f23x14.s16 w0 a w → (tlN 16 (bodyOf Tryz.prog 23)).wp Tryz.prog Q a w) (a : Act) (w : World) (h : At f23x14.ts14 f23x14.s14 w0 a w) : (tlN 14 (bodyOf Tryz.prog 23)).wp Tryz.prog Q a w := by
  refine at_nth (i := 14) f23x14.q14 f23x14.h14 h fun a15 w15 h15 => ?_
  refine at_nth (i := 15) f23x14.q15 f23x14.h15 h15 fun a16 w16 h16 => ?_
  exact next _ _ h16

theorem run23x16 {Q : Exit → Act → World → Prop} {w0 : World} (next : ∀ a w, At f23x16.ts17 f23x16.s17 w0 a w → (tlN 17 (bodyOf Tryz.prog 23)).wp Tryz.prog Q a w) (a : Act) (w : World) (h : At f23x16.ts16 f23x16.s16 w0 a w) : (tlN 16 (bodyOf Tryz.prog 23)).wp Tryz.prog Q a w := by
  refine at_nth (i := 16) f23x16.q16 f23x16.h16 h fun a17 w17 h17 => ?_
  exact next _ _ h17

theorem works_any (w : World) : Calls Tryz.prog 23 #[] w fun e w' => e = .returned (.bool true) ∧ Below w.heap.size w w' := by
  refine calls_says (nt := 260) (by kernel_rfl) (by kernel_rfl) w fun a h => ?_
  have e1 : frameT 260 [] = f23x0.ts0 := by kernel_rfl
  have e2 : st0 = f23x0.s0 := by kernel_rfl
  rw [e1, e2] at h
  show (tlN 0 (bodyOf Tryz.prog 23)).wp Tryz.prog _ a w
  revert a
  have go : ∀ a w1, At f23x0.ts0 f23x0.s0 w a w1 → (tlN 0 (bodyOf Tryz.prog 23)).wp Tryz.prog (Says Tryz.prog 23 w) a w1 := by
    refine run23x0 fun a w1 h => ?_
    have f1 : f23x0.ts6 = f23x6.ts6 := by kernel_rfl
    have f2 : f23x0.s6 = f23x6.s6 := by kernel_rfl
    rw [f1, f2] at h
    revert a w1
    refine run23x6 fun a w1 h => ?_
    have f1 : f23x6.ts11 = f23x11.ts11 := by kernel_rfl
    have f2 : f23x6.s11 = f23x11.s11 := by kernel_rfl
    rw [f1, f2] at h
    revert a w1
    refine run23x11 fun a w1 h => ?_
    have f1 : f23x11.ts13 = f23x13.ts13 := by kernel_rfl
    have f2 : f23x11.s13 = f23x13.s13 := by kernel_rfl
    rw [f1, f2] at h
    revert a w1
    refine run23x13 fun a w1 h => ?_
    have f1 : f23x13.ts14 = f23x14.ts14 := by kernel_rfl
    have f2 : f23x13.s14 = f23x14.s14 := by kernel_rfl
    rw [f1, f2] at h
    revert a w1
    refine run23x14 fun a w1 h => ?_
    have f1 : f23x14.ts16 = f23x16.ts16 := by kernel_rfl
    have f2 : f23x14.s16 = f23x16.s16 := by kernel_rfl
    rw [f1, f2] at h
    revert a w1
    refine run23x16 fun a w1 h => ?_
    have f1 : f23x16.ts17 = f23l.tsl := by kernel_rfl
    have f2 : f23x16.s17 = f23l.sl := by kernel_rfl
    rw [f1, f2] at h
    exact at_last f23l.hl h
  exact fun a h => go a w h
end Go.Proofs.YtcllgicphjmamaaGreat.ev
