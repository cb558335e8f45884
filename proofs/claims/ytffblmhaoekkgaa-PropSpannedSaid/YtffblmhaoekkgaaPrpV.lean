/- Package prop, the walks: above, sums by a function, the centre of a level. -/
import Derived.Test.YtffblmhaoekkgaaPrpU
namespace Go.Proofs.Ytffblmhaoekkgaa.prp
open Go.RowKit
set_option linter.unusedSimpArgs false
set_option linter.unusedVariables false

set_option maxRecDepth 100000 in
set_option maxHeartbeats 2000000 in
theorem fabove_any (a b c d : Int) (w : World) (ha : -4611686018427387904 < a ∧ a < 4611686018427387904) (hc : -4611686018427387904 < c ∧ c < 4611686018427387904) (hb : 0 < b ∧ b < 2147483648) (hd : 0 < d ∧ d < 2147483648) :
    Calls Try.prog 69 #[.agg #[.int .i64 a, .int .i64 b], .agg #[.int .i64 c, .int .i64 d]] w fun e w' => e = .returned (.bool (decide (c * b < a * d))) ∧ Below w.heap.size w w' := by
  have HC := Lib.hid (fun W => fbelow_any c d a b W hc ha hd hb)
  have hb0 : Below w.heap.size w ((w.alloc (.cells #[.int .i64 a, .int .i64 b] 51)).alloc (.cells #[.int .i64 c, .int .i64 d] 51)) := ((Below.refl _ _).alloc (Nat.le_refl _) _).alloc (by simp) _
  have HB0 := Lib.hid hb0
  clear hb0 ha hb hc hd
  go_enter Try.func69, Try.ntmps69
  go_wp2_with (go_at_call 68; refine (HC.out _).mono ?_; rintro e w1 ⟨rfl, hb1⟩)
  go_ret
  exact ⟨rfl, HB0.out.on hb1⟩
set_option maxRecDepth 100000 in
set_option maxHeartbeats 2000000 in
theorem centre1_any (x : Wn) (w : World) (hx : -100000000 ≤ x.1.at_ ∧ x.1.at_ ≤ 100000000) (hw : 0 ≤ x.2 ∧ x.2 ≤ 100) :
    Calls Try.prog 100 #[wnV x] w fun e w' => e = .returned (.int .i64 (x.2 * x.1.at_)) ∧ Below w.heap.size w w' := by
  obtain ⟨⟨h, a, l, m⟩, y⟩ := x
  simp only at hx hw
  have hp := prod_bd (a := y) (b := a) (A := 100) (B := 100000000) ⟨by omega, by omega⟩ ⟨by omega, by omega⟩
  have v1 : IntKind.i64.wrap (y * a) = y * a := IntWalk.i64_in _ ⟨by omega, by omega⟩
  have hb0 : Below w.heap.size w (w.alloc (.cells #[.int .i64 h, .int .i64 a, .int .i64 l, .int .i64 m, .int .i64 y] 133)) := (Below.refl _ _).alloc (Nat.le_refl _) _
  have HB0 := Lib.hid hb0
  clear hp hb0
  unfold wnV
  go_enter Try.func100, Try.ntmps100
  go_wp2
  go_ret
  exact ⟨rfl, HB0.out⟩
set_option maxRecDepth 100000 in
set_option maxHeartbeats 2000000 in
theorem weightOf1_any (x : Wn) (w : World) :
    Calls Try.prog 102 #[wnV x] w fun e w' => e = .returned (.int .i64 x.2) ∧ Below w.heap.size w w' := by
  obtain ⟨⟨h, a, l, m⟩, y⟩ := x
  have hb0 : Below w.heap.size w (w.alloc (.cells #[.int .i64 h, .int .i64 a, .int .i64 l, .int .i64 m, .int .i64 y] 133)) := (Below.refl _ _).alloc (Nat.le_refl _) _
  have HB0 := Lib.hid hb0
  clear hb0
  unfold wnV
  go_enter Try.func102, Try.ntmps102
  go_wp2
  go_ret
  exact ⟨rfl, HB0.out⟩
set_option maxRecDepth 100000 in
set_option maxHeartbeats 4000000 in
theorem sumG_any (pf : Nat) (eg : ∀ args w, (callFunc pf args).run Try.prog w = .ok (.enter pf args) w) (F : Wn → Int) (q : Option Addr) (cap : Nat) (xs : List Wn) (w : World) (hr : RowV w q (flatW xs)) (hl : xs.length ≤ 5)
    (hbd : ∀ x ∈ xs, -200000000000 ≤ F x ∧ F x ≤ 200000000000) (hc : ∀ x ∈ xs, ∀ W, Calls Try.prog pf #[wnV x] W fun e w' => e = .returned (.int .i64 (F x)) ∧ Below W.heap.size W w') :
    Calls Try.prog 90 #[.slice q xs.length cap, .func (.func pf) #[] #[]] w fun e' w' => e' = .returned (.int .i64 ((xs.map F).sum)) ∧ Below w.heap.size w w' := by
  have EG := Lib.hid eg
  have hsb := sumTo_bd F xs 200000000000 (by omega) hbd
  have hfin : sumTo F xs xs.length = (xs.map F).sum := by unfold sumTo; rw [List.take_length]
  rw [← hfin]
  have HSB := Lib.hid hsb
  have HBD := Lib.hid hbd
  have HC := Lib.hid hc
  clear hsb hbd hc hfin eg
  go_enter Try.func90, Try.ntmps90
  go_wp2
  go_loopw [5, 10] (fun s i wr => ∃ k : Nat, k ≤ xs.length ∧ i = .int .i64 k ∧ s = .int .i64 (sumTo F xs k) ∧ Below w.heap.size w wr) (fun _ i _ => xs.length - (intOf i).toNat)
  case atStart => exact ⟨0, Nat.zero_le _, rfl, rfl, Below.refl _ _⟩
  case round =>
    obtain ⟨k, hk, rfl, rfl, hbel⟩ := hrel
    by_cases hlt : k < xs.length
    · obtain ⟨b, off, rfl, hb, g1, g2, g3, g4, g5⟩ := rowW_at hr hlt (Nat.le_refl _) hbel
      have hm := getD_mem xs k zw hlt
      have hcx := HC.out _ hm
      have hfb := HBD.out _ hm
      have hsu := sumTo_succ F xs k hlt
      have hs0 := HSB.out k (by omega)
      have hs1 := HSB.out (k + 1) (by omega)
      rw [hsu] at hs1
      generalize xs.getD k zw = x at g1 g2 g3 g4 g5 hsu hs1 hcx hfb
      have hw : wrap64 (sumTo F xs k + F x) = sumTo F xs k + F x := IntWalk.wrap64_in _ ⟨by omega, by omega⟩
      have HSU := Lib.hid hsu
      have HW := Lib.hid hw
      have hbA : Below wr.heap.size wr (wr.alloc (.cells #[.int .i64 x.1.half, .int .i64 x.1.at_, .int .i64 x.1.least, .int .i64 x.1.most, .int .i64 x.2] 133)) := (Below.refl _ _).alloc (Nat.le_refl _) _
      have HCX := Lib.hid hcx
      clear hsu hw hs0 hs1 hm hcx hfb
      go_wp2
      rw [EG.out, Oper.upon_enter]
      refine (HCX.out _).mono ?_
      rintro e w1 ⟨rfl, hb1⟩
      dsimp only
      go_wp2
      go_roundw
      case rel => exact ⟨k + 1, hlt, by go_num, by rw [HSU.out]; first | rfl | exact congrArg _ HW.out, (hbel.on hbA).on hb1⟩
      case measure => simp [intOf]; omega
    · obtain rfl : k = xs.length := by omega
      go_wp2
      go_ret
      exact ⟨rfl, hbel⟩
end Go.Proofs.Ytffblmhaoekkgaa.prp
