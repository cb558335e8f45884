/- Function 3, step by step: what its call answers. -/
import Derived.Test.YtdieenfbmdfmcaaKe0
import Derived.Test.YtdieenfbmdfmcaaKe1
import Derived.Test.YtdieenfbmdfmcaaKel
import Derived.WalkKit
namespace Go.Proofs.Ytdieenfbmdfmcaa.ev
open Go.RowKit
set_option maxRecDepth 1000000
theorem run3x0 {Q : Exit → Act → World → Prop} {w0 : World} (next : ∀ a w, At f3x0.ts15 f3x0.s15 w0 a w → (tlN 15 (bodyOf Try.prog 3)).wp Try.prog Q a w) (a : Act) (w : World) (h : At f3x0.ts0 f3x0.s0 w0 a w) : (tlN 0 (bodyOf Try.prog 3)).wp Try.prog Q a w := by
  refine at_nth (i := 0) f3x0.q0 f3x0.h0 h fun a1 w1 h1 => ?_
  refine at_nth (i := 1) f3x0.q1 f3x0.h1 h1 fun a2 w2 h2 => ?_
  refine at_nth (i := 2) f3x0.q2 f3x0.h2 h2 fun a3 w3 h3 => ?_
  refine at_nth (i := 3) f3x0.q3 f3x0.h3 h3 fun a4 w4 h4 => ?_
  refine at_nth (i := 4) f3x0.q4 f3x0.h4 h4 fun a5 w5 h5 => ?_
  refine at_nth (i := 5) f3x0.q5 f3x0.h5 h5 fun a6 w6 h6 => ?_
  refine at_nth (i := 6) f3x0.q6 f3x0.h6 h6 fun a7 w7 h7 => ?_
  refine at_nth (i := 7) f3x0.q7 f3x0.h7 h7 fun a8 w8 h8 => ?_
  refine at_nth (i := 8) f3x0.q8 f3x0.h8 h8 fun a9 w9 h9 => ?_
  refine at_nth (i := 9) f3x0.q9 f3x0.h9 h9 fun a10 w10 h10 => ?_
  refine at_nth (i := 10) f3x0.q10 f3x0.h10 h10 fun a11 w11 h11 => ?_
  refine at_nth (i := 11) f3x0.q11 f3x0.h11 h11 fun a12 w12 h12 => ?_
  refine at_nth (i := 12) f3x0.q12 f3x0.h12 h12 fun a13 w13 h13 => ?_
  refine at_nth (i := 13) f3x0.q13 f3x0.h13 h13 fun a14 w14 h14 => ?_
  refine at_nth (i := 14) f3x0.q14 f3x0.h14 h14 fun a15 w15 h15 => ?_
  exact next _ _ h15

theorem run3x15 {Q : Exit → Act → World → Prop} {w0 : World} (next : ∀ a w, At f3x15.ts25 f3x15.s25 w0 a w → (tlN 25 (bodyOf Try.prog 3)).wp Try.prog Q a w) (a : Act) (w : World) (h : At f3x15.ts15 f3x15.s15 w0 a w) : (tlN 15 (bodyOf Try.prog 3)).wp Try.prog Q a w := by
  refine at_nth (i := 15) f3x15.q15 f3x15.h15 h fun a16 w16 h16 => ?_
  refine at_nth (i := 16) f3x15.q16 f3x15.h16 h16 fun a17 w17 h17 => ?_
  refine at_nth (i := 17) f3x15.q17 f3x15.h17 h17 fun a18 w18 h18 => ?_
  refine at_nth (i := 18) f3x15.q18 f3x15.h18 h18 fun a19 w19 h19 => ?_
  refine at_nth (i := 19) f3x15.q19 f3x15.h19 h19 fun a20 w20 h20 => ?_
  refine at_nth (i := 20) f3x15.q20 f3x15.h20 h20 fun a21 w21 h21 => ?_
  refine at_nth (i := 21) f3x15.q21 f3x15.h21 h21 fun a22 w22 h22 => ?_
  refine at_nth (i := 22) f3x15.q22 f3x15.h22 h22 fun a23 w23 h23 => ?_
  refine at_nth (i := 23) f3x15.q23 f3x15.h23 h23 fun a24 w24 h24 => ?_
  refine at_nth (i := 24) f3x15.q24 f3x15.h24 h24 fun a25 w25 h25 => ?_
  exact next _ _ h25

theorem SawKnown_any (w : World) : Calls Try.prog 3 #[] w fun e w' => e = .returned (.bool true) ∧ Below w.heap.size w w' := by
  refine calls_says (nt := 367) (by kernel_rfl) (by kernel_rfl) w fun a h => ?_
  have e1 : frameT 367 [] = f3x0.ts0 := by kernel_rfl
  have e2 : st0 = f3x0.s0 := by kernel_rfl
  rw [e1, e2] at h
  show (tlN 0 (bodyOf Try.prog 3)).wp Try.prog _ a w
  revert a
  have go : ∀ a w1, At f3x0.ts0 f3x0.s0 w a w1 → (tlN 0 (bodyOf Try.prog 3)).wp Try.prog (Says Try.prog 3 w) a w1 := by
    refine run3x0 fun a w1 h => ?_
    have f1 : f3x0.ts15 = f3x15.ts15 := by kernel_rfl
    have f2 : f3x0.s15 = f3x15.s15 := by kernel_rfl
    rw [f1, f2] at h
    revert a w1
    refine run3x15 fun a w1 h => ?_
    have f1 : f3x15.ts25 = f3l.tsl := by kernel_rfl
    have f2 : f3x15.s25 = f3l.sl := by kernel_rfl
    rw [f1, f2] at h
    exact at_last f3l.hl h
  exact fun a h => go a w h
end Go.Proofs.Ytdieenfbmdfmcaa.ev
