/- Function 26, step by step: what its call answers. -/
import Derived.Test.YtdieenfbmdfmcaaKd0
import Derived.Test.YtdieenfbmdfmcaaKd1
import Derived.Test.YtdieenfbmdfmcaaKd2
import Derived.Test.YtdieenfbmdfmcaaKd3
import Derived.Test.YtdieenfbmdfmcaaKdl
import Derived.WalkKit
namespace Go.Proofs.Ytdieenfbmdfmcaa.ev
open Go.RowKit
set_option maxRecDepth 1000000
theorem run26x0 {Q : Exit → Act → World → Prop} {w0 : World} (next : ∀ a w, At f26x0.ts11 f26x0.s11 w0 a w → (tlN 11 (bodyOf Try.prog 26)).wp Try.prog Q a w) (a : Act) (w : World) (h : At f26x0.ts0 f26x0.s0 w0 a w) : (tlN 0 (bodyOf Try.prog 26)).wp Try.prog Q a w := by
  refine at_nth (i := 0) f26x0.q0 f26x0.h0 h fun a1 w1 h1 => ?_
  refine at_nth (i := 1) f26x0.q1 f26x0.h1 h1 fun a2 w2 h2 => ?_
  refine at_nth (i := 2) f26x0.q2 f26x0.h2 h2 fun a3 w3 h3 => ?_
  refine at_nth (i := 3) f26x0.q3 f26x0.h3 h3 fun a4 w4 h4 => ?_
  refine at_nth (i := 4) f26x0.q4 f26x0.h4 h4 fun a5 w5 h5 => ?_
  refine at_nth (i := 5) f26x0.q5 f26x0.h5 h5 fun a6 w6 h6 => ?_
  refine at_nth (i := 6) f26x0.q6 f26x0.h6 h6 fun a7 w7 h7 => ?_
  refine at_nth (i := 7) f26x0.q7 f26x0.h7 h7 fun a8 w8 h8 => ?_
  refine at_nth (i := 8) f26x0.q8 f26x0.h8 h8 fun a9 w9 h9 => ?_
  refine at_nth (i := 9) f26x0.q9 f26x0.h9 h9 fun a10 w10 h10 => ?_
  refine at_nth (i := 10) f26x0.q10 f26x0.h10 h10 fun a11 w11 h11 => ?_
  exact next _ _ h11

theorem run26x11 {Q : Exit → Act → World → Prop} {w0 : World} (next : ∀ a w, At f26x11.ts13 f26x11.s13 w0 a w → (tlN 13 (bodyOf Try.prog 26)).wp Try.prog Q a w) (a : Act) (w : World) (h : At f26x11.ts11 f26x11.s11 w0 a w) : (tlN 11 (bodyOf Try.prog 26)).wp Try.prog Q a w := by
  refine at_nth (i := 11) f26x11.q11 f26x11.h11 h fun a12 w12 h12 => ?_
  refine at_nth (i := 12) f26x11.q12 f26x11.h12 h12 fun a13 w13 h13 => ?_
  exact next _ _ h13

theorem run26x13 {Q : Exit → Act → World → Prop} {w0 : World} (next : ∀ a w, At f26x13.ts18 f26x13.s18 w0 a w → (tlN 18 (bodyOf Try.prog 26)).wp Try.prog Q a w) (a : Act) (w : World) (h : At f26x13.ts13 f26x13.s13 w0 a w) : (tlN 13 (bodyOf Try.prog 26)).wp Try.prog Q a w := by
  refine at_nth (i := 13) f26x13.q13 f26x13.h13 h fun a14 w14 h14 => ?_
  refine at_nth (i := 14) f26x13.q14 f26x13.h14 h14 fun a15 w15 h15 => ?_
  refine at_nth (i := 15) f26x13.q15 f26x13.h15 h15 fun a16 w16 h16 => ?_
  refine at_nth (i := 16) f26x13.q16 f26x13.h16 h16 fun a17 w17 h17 => ?_
  refine at_nth (i := 17) f26x13.q17 f26x13.h17 h17 fun a18 w18 h18 => ?_
  exact next _ _ h18

theorem run26x18 {Q : Exit → Act → World → Prop} {w0 : World} (next : ∀ a w, At f26x18.ts20 f26x18.s20 w0 a w → (tlN 20 (bodyOf Try.prog 26)).wp Try.prog Q a w) (a : Act) (w : World) (h : At f26x18.ts18 f26x18.s18 w0 a w) : (tlN 18 (bodyOf Try.prog 26)).wp Try.prog Q a w := by
  refine at_nth (i := 18) f26x18.q18 f26x18.h18 h fun a19 w19 h19 => ?_
  refine at_nth (i := 19) f26x18.q19 f26x18.h19 h19 fun a20 w20 h20 => ?_
  exact next _ _ h20

theorem works_any (w : World) : Calls Try.prog 26 #[] w fun e w' => e = .returned (.bool true) ∧ Below w.heap.size w w' := by
  refine calls_says (nt := 269) (by kernel_rfl) (by kernel_rfl) w fun a h => ?_
  have e1 : frameT 269 [] = f26x0.ts0 := by kernel_rfl
  have e2 : st0 = f26x0.s0 := by kernel_rfl
  rw [e1, e2] at h
  show (tlN 0 (bodyOf Try.prog 26)).wp Try.prog _ a w
  revert a
  have go : ∀ a w1, At f26x0.ts0 f26x0.s0 w a w1 → (tlN 0 (bodyOf Try.prog 26)).wp Try.prog (Says Try.prog 26 w) a w1 := by
    refine run26x0 fun a w1 h => ?_
    have f1 : f26x0.ts11 = f26x11.ts11 := by kernel_rfl
    have f2 : f26x0.s11 = f26x11.s11 := by kernel_rfl
    rw [f1, f2] at h
    revert a w1
    refine run26x11 fun a w1 h => ?_
    have f1 : f26x11.ts13 = f26x13.ts13 := by kernel_rfl
    have f2 : f26x11.s13 = f26x13.s13 := by kernel_rfl
    rw [f1, f2] at h
    revert a w1
    refine run26x13 fun a w1 h => ?_
    have f1 : f26x13.ts18 = f26x18.ts18 := by kernel_rfl
    have f2 : f26x13.s18 = f26x18.s18 := by kernel_rfl
    rw [f1, f2] at h
    revert a w1
    refine run26x18 fun a w1 h => ?_
    have f1 : f26x18.ts20 = f26l.tsl := by kernel_rfl
    have f2 : f26x18.s20 = f26l.sl := by kernel_rfl
    rw [f1, f2] at h
    exact at_last f26l.hl h
  exact fun a h => go a w h
end Go.Proofs.Ytdieenfbmdfmcaa.ev
