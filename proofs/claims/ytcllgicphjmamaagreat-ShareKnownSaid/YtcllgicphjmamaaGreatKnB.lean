/- Function 3, step by step: what its call answers. -/
import Derived.Test.YtcllgicphjmamaaGreatKe0
import Derived.Test.YtcllgicphjmamaaGreatKe1
import Derived.Test.YtcllgicphjmamaaGreatKe2
import Derived.Test.YtcllgicphjmamaaGreatKe3
import Derived.Test.YtcllgicphjmamaaGreatKe4
import Derived.Test.YtcllgicphjmamaaGreatKe5
import Derived.Test.YtcllgicphjmamaaGreatKe6
import Derived.Test.YtcllgicphjmamaaGreatKe7
import Derived.Test.YtcllgicphjmamaaGreatKe8
import Derived.Test.YtcllgicphjmamaaGreatKe9
import Derived.Test.YtcllgicphjmamaaGreatKel
import Derived.WalkKit
namespace Go.Proofs.YtcllgicphjmamaaGreat.ev
open Go.RowKit
set_option maxRecDepth 1000000
theorem run3x0 {Q : Exit → Act → World → Prop} {w0 : World} (next : ∀ a w, At f3x0.ts7 f3x0.s7 w0 a w → (tlN 7 (bodyOf Tryz.prog 3)).wp Tryz.prog Q a w) (a : Act) (w : World) (h : At f3x0.ts0 f3x0.s0 w0 a w) : (tlN 0 (bodyOf Tryz.prog 3)).wp Tryz.prog Q a w := by
  refine at_nth (i := 0) f3x0.q0 f3x0.h0 h fun a1 w1 h1 => ?_
  refine at_nth (i := 1) f3x0.q1 f3x0.h1 h1 fun a2 w2 h2 => ?_
  refine at_nth (i := 2) f3x0.q2 f3x0.h2 h2 fun a3 w3 h3 => ?_
  refine at_nth (i := 3) f3x0.q3 f3x0.h3 h3 fun a4 w4 h4 => ?_
  refine at_nth (i := 4) f3x0.q4 f3x0.h4 h4 fun a5 w5 h5 => ?_
  refine at_nth (i := 5) f3x0.q5 f3x0.h5 h5 fun a6 w6 h6 => ?_
  refine at_nth (i := 6) f3x0.q6 f3x0.h6 h6 fun a7 w7 h7 => ?_
  exact next _ _ h7

theorem run3x7 {Q : Exit → Act → World → Prop} {w0 : World} (next : ∀ a w, At f3x7.ts8 f3x7.s8 w0 a w → (tlN 8 (bodyOf Tryz.prog 3)).wp Tryz.prog Q a w) (a : Act) (w : World) (h : At f3x7.ts7 f3x7.s7 w0 a w) : (tlN 7 (bodyOf Tryz.prog 3)).wp Tryz.prog Q a w := by
  refine at_nth (i := 7) f3x7.q7 f3x7.h7 h fun a8 w8 h8 => ?_
  exact next _ _ h8

theorem run3x8 {Q : Exit → Act → World → Prop} {w0 : World} (next : ∀ a w, At f3x8.ts11 f3x8.s11 w0 a w → (tlN 11 (bodyOf Tryz.prog 3)).wp Tryz.prog Q a w) (a : Act) (w : World) (h : At f3x8.ts8 f3x8.s8 w0 a w) : (tlN 8 (bodyOf Tryz.prog 3)).wp Tryz.prog Q a w := by
  refine at_nth (i := 8) f3x8.q8 f3x8.h8 h fun a9 w9 h9 => ?_
  refine at_nth (i := 9) f3x8.q9 f3x8.h9 h9 fun a10 w10 h10 => ?_
  refine at_nth (i := 10) f3x8.q10 f3x8.h10 h10 fun a11 w11 h11 => ?_
  exact next _ _ h11

theorem run3x11 {Q : Exit → Act → World → Prop} {w0 : World} (next : ∀ a w, At f3x11.ts15 f3x11.s15 w0 a w → (tlN 15 (bodyOf Tryz.prog 3)).wp Tryz.prog Q a w) (a : Act) (w : World) (h : At f3x11.ts11 f3x11.s11 w0 a w) : (tlN 11 (bodyOf Tryz.prog 3)).wp Tryz.prog Q a w := by
  refine at_nth (i := 11) f3x11.q11 f3x11.h11 h fun a12 w12 h12 => ?_
  refine at_nth (i := 12) f3x11.q12 f3x11.h12 h12 fun a13 w13 h13 => ?_
  refine at_nth (i := 13) f3x11.q13 f3x11.h13 h13 fun a14 w14 h14 => ?_
  refine at_nth (i := 14) f3x11.q14 f3x11.h14 h14 fun a15 w15 h15 => ?_
  exact next _ _ h15

theorem run3x15 {Q : Exit → Act → World → Prop} {w0 : World} (next : ∀ a w, At f3x15.ts17 f3x15.s17 w0 a w → (tlN 17 (bodyOf Tryz.prog 3)).wp Tryz.prog Q a w) (a : Act) (w : World) (h : At f3x15.ts15 f3x15.s15 w0 a w) : (tlN 15 (bodyOf Tryz.prog 3)).wp Tryz.prog Q a w := by
  refine at_nth (i := 15) f3x15.q15 f3x15.h15 h fun a16 w16 h16 => ?_
  refine at_nth (i := 16) f3x15.q16 f3x15.h16 h16 fun a17 w17 h17 => ?_
  exact next _ _ h17

theorem run3x17 {Q : Exit → Act → World → Prop} {w0 : World} (next : ∀ a w, At f3x17.ts21 f3x17.s21 w0 a w → (tlN 21 (bodyOf Tryz.prog 3)).wp Tryz.prog Q a w) (a : Act) (w : World) (h : At f3x17.ts17 f3x17.s17 w0 a w) : (tlN 17 (bodyOf Tryz.prog 3)).wp Tryz.prog Q a w := by
  refine at_nth (i := 17) f3x17.q17 f3x17.h17 h fun a18 w18 h18 => ?_
  refine at_nth (i := 18) f3x17.q18 f3x17.h18 h18 fun a19 w19 h19 => ?_
  refine at_nth (i := 19) f3x17.q19 f3x17.h19 h19 fun a20 w20 h20 => ?_
  refine at_nth (i := 20) f3x17.q20 f3x17.h20 h20 fun a21 w21 h21 => ?_
  exact next _ _ h21

theorem run3x21 {Q : Exit → Act → World → Prop} {w0 : World} (next : ∀ a w, At f3x21.ts24 f3x21.s24 w0 a w → (tlN 24 (bodyOf Tryz.prog 3)).wp Tryz.prog Q a w) (a : Act) (w : World) (h : At f3x21.ts21 f3x21.s21 w0 a w) : (tlN 21 (bodyOf Tryz.prog 3)).wp Tryz.prog Q a w := by
  refine at_nth (i := 21) f3x21.q21 f3x21.h21 h fun a22 w22 h22 => ?_
  refine at_nth (i := 22) f3x21.q22 f3x21.h22 h22 fun a23 w23 h23 => ?_
  refine at_nth (i := 23) f3x21.q23 f3x21.h23 h23 fun a24 w24 h24 => ?_
  exact next _ _ h24

theorem run3x24 {Q : Exit → Act → World → Prop} {w0 : World} (next : ∀ a w, At f3x24.ts27 f3x24.s27 w0 a w → (tlN 27 (bodyOf Tryz.prog 3)).wp Tryz.prog Q a w) (a : Act) (w : World) (h : At f3x24.ts24 f3x24.s24 w0 a w) : (tlN 24 (bodyOf Tryz.prog 3)).wp Tryz.prog Q a w := by
  refine at_nth (i := 24) f3x24.q24 f3x24.h24 h fun a25 w25 h25 => ?_
  refine at_nth (i := 25) f3x24.q25 f3x24.h25 h25 fun a26 w26 h26 => ?_
  refine at_nth (i := 26) f3x24.q26 f3x24.h26 h26 fun a27 w27 h27 => ?_
  exact next _ _ h27

theorem run3x27 {Q : Exit → Act → World → Prop} {w0 : World} (next : ∀ a w, At f3x27.ts28 f3x27.s28 w0 a w → (tlN 28 (bodyOf Tryz.prog 3)).wp Tryz.prog Q a w) (a : Act) (w : World) (h : At f3x27.ts27 f3x27.s27 w0 a w) : (tlN 27 (bodyOf Tryz.prog 3)).wp Tryz.prog Q a w := by
  refine at_nth (i := 27) f3x27.q27 f3x27.h27 h fun a28 w28 h28 => ?_
  exact next _ _ h28

theorem run3x28 {Q : Exit → Act → World → Prop} {w0 : World} (next : ∀ a w, At f3x28.ts29 f3x28.s29 w0 a w → (tlN 29 (bodyOf Tryz.prog 3)).wp Tryz.prog Q a w) (a : Act) (w : World) (h : At f3x28.ts28 f3x28.s28 w0 a w) : (tlN 28 (bodyOf Tryz.prog 3)).wp Tryz.prog Q a w := by
  refine at_nth (i := 28) f3x28.q28 f3x28.h28 h fun a29 w29 h29 => ?_
  exact next _ _ h29

theorem ShareKnown_any (w : World) : Calls Tryz.prog 3 #[] w fun e w' => e = .returned (.bool true) ∧ Below w.heap.size w w' := by
  refine calls_says (nt := 383) (by kernel_rfl) (by kernel_rfl) w fun a h => ?_
  have e1 : frameT 383 [] = f3x0.ts0 := by kernel_rfl
  have e2 : st0 = f3x0.s0 := by kernel_rfl
  rw [e1, e2] at h
  show (tlN 0 (bodyOf Tryz.prog 3)).wp Tryz.prog _ a w
  revert a
  have go : ∀ a w1, At f3x0.ts0 f3x0.s0 w a w1 → (tlN 0 (bodyOf Tryz.prog 3)).wp Tryz.prog (Says Tryz.prog 3 w) a w1 := by
    refine run3x0 fun a w1 h => ?_
    have f1 : f3x0.ts7 = f3x7.ts7 := by kernel_rfl
    have f2 : f3x0.s7 = f3x7.s7 := by kernel_rfl
    rw [f1, f2] at h
    revert a w1
    refine run3x7 fun a w1 h => ?_
    have f1 : f3x7.ts8 = f3x8.ts8 := by kernel_rfl
    have f2 : f3x7.s8 = f3x8.s8 := by kernel_rfl
    rw [f1, f2] at h
    revert a w1
    refine run3x8 fun a w1 h => ?_
    have f1 : f3x8.ts11 = f3x11.ts11 := by kernel_rfl
    have f2 : f3x8.s11 = f3x11.s11 := by kernel_rfl
    rw [f1, f2] at h
    revert a w1
    refine run3x11 fun a w1 h => ?_
    have f1 : f3x11.ts15 = f3x15.ts15 := by kernel_rfl
    have f2 : f3x11.s15 = f3x15.s15 := by kernel_rfl
    rw [f1, f2] at h
    revert a w1
    refine run3x15 fun a w1 h => ?_
    have f1 : f3x15.ts17 = f3x17.ts17 := by kernel_rfl
    have f2 : f3x15.s17 = f3x17.s17 := by kernel_rfl
    rw [f1, f2] at h
    revert a w1
    refine run3x17 fun a w1 h => ?_
    have f1 : f3x17.ts21 = f3x21.ts21 := by kernel_rfl
    have f2 : f3x17.s21 = f3x21.s21 := by kernel_rfl
    rw [f1, f2] at h
    revert a w1
    refine run3x21 fun a w1 h => ?_
    have f1 : f3x21.ts24 = f3x24.ts24 := by kernel_rfl
    have f2 : f3x21.s24 = f3x24.s24 := by kernel_rfl
    rw [f1, f2] at h
    revert a w1
    refine run3x24 fun a w1 h => ?_
    have f1 : f3x24.ts27 = f3x27.ts27 := by kernel_rfl
    have f2 : f3x24.s27 = f3x27.s27 := by kernel_rfl
    rw [f1, f2] at h
    revert a w1
    refine run3x27 fun a w1 h => ?_
    have f1 : f3x27.ts28 = f3x28.ts28 := by kernel_rfl
    have f2 : f3x27.s28 = f3x28.s28 := by kernel_rfl
    rw [f1, f2] at h
    revert a w1
    refine run3x28 fun a w1 h => ?_
    have f1 : f3x28.ts29 = f3l.tsl := by kernel_rfl
    have f2 : f3x28.s29 = f3l.sl := by kernel_rfl
    rw [f1, f2] at h
    exact at_last f3l.hl h
  exact fun a h => go a w h
end Go.Proofs.YtcllgicphjmamaaGreat.ev
