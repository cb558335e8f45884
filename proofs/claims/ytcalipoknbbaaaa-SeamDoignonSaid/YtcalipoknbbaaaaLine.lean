/- line and members (helpers of the law): a gallery by numbers; a set by a number, as a list. -/
import Derived.Test.YtcalipoknbbaaaaLaw2
import Derived.Deep.RegionHeld3
import Derived.BigQuiet
import Derived.Deep.CutRange
import Derived.Test.YtcalipoknbbaaaaApart
import Derived.Test.YtcalipoknbbaaaaApp
import Derived.Lib.RabinKarpLaws
namespace Go.Proofs.Ytcalipoknbbaaaa
open Go.RowKit
set_option linter.unusedSimpArgs false
set_option linter.unusedVariables false

abbrev By := Nat × Nat × Nat × Nat
/-- a gallery by numbers -/
def lineA (x : By) : Int := if x.1 % 9 = 4 ∧ x.2.1 % 9 = 4 then 1 else ((x.1 % 9 : Nat) : Int) - 4
def lineB (x : By) : Int := ((x.2.1 % 9 : Nat) : Int) - 4
def lineOf (n : Nat) (x : By) : Gl :=
  (lineA x, lineB x, lineA x * ((x.2.2.1 % (n * n) / n : Nat) : Int) + lineB x * ((x.2.2.1 % (n * n) % n : Nat) : Int) - ((x.2.2.2 % 3 : Nat) : Int))

theorem line_val (a b p d n : Int) (ha : small 4 a) (hb : small 4 b) (hp : 0 ≤ p ∧ p < 49) (hn : 1 ≤ n ∧ n ≤ 7) (hq : p / n ≤ 6) (hr : p % n ≤ 6) (hd : 0 ≤ d ∧ d < 256) :
    IntKind.i64.wrap (IntKind.i64.wrap (IntKind.i64.wrap (a * IntKind.i64.wrap (p.tdiv n)) + IntKind.i64.wrap (b * p.tmod n)) - (IntKind.i64.wrap d).tmod 3) = a * (p / n) + b * (p % n) - d % 3 := by
  rw [Int.tdiv_eq_ediv_of_nonneg hp.1, Int.tmod_eq_emod_of_nonneg hp.1]
  have q0 : 0 ≤ p / n := Int.ediv_nonneg hp.1 (by omega)
  have r0 : 0 ≤ p % n := Int.emod_nonneg _ (by omega)
  have h1 := mul_small ha (show small 6 (p / n) from ⟨by omega, hq⟩)
  have h2 := mul_small hb (show small 6 (p % n) from ⟨by omega, hr⟩)
  obtain ⟨h1a, h1b⟩ := h1
  obtain ⟨h2a, h2b⟩ := h2
  rw [IntWalk.i64_in (p / n) ⟨by omega, by omega⟩, IntWalk.i64_in (a * (p / n)) ⟨by omega, by omega⟩, IntWalk.i64_in (b * (p % n)) ⟨by omega, by omega⟩, IntWalk.i64_in d ⟨by omega, by omega⟩, Int.tmod_eq_emod_of_nonneg hd.1,
    IntWalk.i64_in (a * (p / n) + b * (p % n)) ⟨by omega, by omega⟩, IntWalk.i64_in _ ⟨by omega, by omega⟩]
theorem ret_agg3 {a b c x y z : Int} (h1 : a = x) (h2 : b = y) (h3 : c = z) : Ending.returned (.agg #[.int .i64 a, .int .i64 b, .int .i64 c]) = .returned (.agg #[.int .i64 x, .int .i64 y, .int .i64 z]) := by rw [h1, h2, h3]

theorem third_eq (n : Nat) (x0 x1 x2 x3 : Nat) (a : Int) (ha : lineA (x0, x1, x2, x3) = a) (s : Int) (hs : s = (n : Int) * n) :
    (lineOf n (x0, x1, x2, x3)).2.2 = a * (((x2 : Int) % s) / (n : Int)) + ((x1 : Int) % 9 - 4) * (((x2 : Int) % s) % (n : Int)) - (x3 : Int) % 3 := by
  subst hs
  simp only [lineOf, ha, lineB]
  simp only [Int.natCast_ediv, Int.natCast_emod, Int.natCast_mul]
  rfl
theorem sq_bd (n : Nat) (h1 : 1 ≤ n) (h7 : n ≤ 7) : 1 ≤ (n : Int) * n ∧ (n : Int) * n ≤ 49 := by
  have : n = 1 ∨ n = 2 ∨ n = 3 ∨ n = 4 ∨ n = 5 ∨ n = 6 ∨ n = 7 := by omega
  rcases this with rfl | rfl | rfl | rfl | rfl | rfl | rfl <;> decide
theorem third_any (n : Nat) (x0 x1 x2 x3 : Nat) (a : Int) (hn : 1 ≤ n) (hn7 : n ≤ 7) (h3 : x3 < 256) (ha : lineA (x0, x1, x2, x3) = a) (hsm : small 4 a) (s : Int) (hs : s = (n : Int) * n) (hs49 : s ≤ 49) (h0s : 0 < s) :
    IntKind.i64.wrap (IntKind.i64.wrap (IntKind.i64.wrap (a * IntKind.i64.wrap (((x2 : Int) % s).tdiv (n : Int))) + IntKind.i64.wrap (((x1 : Int) % 9 - 4) * ((x2 : Int) % s).tmod (n : Int))) - (IntKind.i64.wrap (x3 : Int)).tmod 3) = (lineOf n (x0, x1, x2, x3)).2.2 := by
  rw [third_eq n x0 x1 x2 x3 a ha s hs]
  have p0 : 0 ≤ (x2 : Int) % s := Int.emod_nonneg _ (by omega)
  have p1 : (x2 : Int) % s < s := Int.emod_lt_of_pos _ h0s
  refine line_val a ((x1 : Int) % 9 - 4) ((x2 : Int) % s) (x3 : Int) (n : Int) hsm ⟨by omega, by omega⟩ ⟨p0, by omega⟩ ⟨by omega, by omega⟩ ?_ ?_ ⟨by omega, by omega⟩
  · have : (x2 : Int) % s / (n : Int) < n := Int.ediv_lt_of_lt_mul (by omega) (by rw [← hs]; exact p1)
    omega
  · have := Int.emod_lt_of_pos ((x2 : Int) % s) (show (0 : Int) < n by omega)
    omega

set_option maxRecDepth 100000 in
set_option maxHeartbeats 1000000 in
theorem line_any (n : Nat) (x0 x1 x2 x3 : Nat) (w : World) (hn : 1 ≤ n) (hn7 : n ≤ 7) (h0 : x0 < 256) (h1 : x1 < 256) (h2 : x2 < 256) (h3 : x3 < 256) :
    Calls Try.prog 74 #[.int .i64 n, .agg #[.int .u8 x0, .int .u8 x1, .int .u8 x2, .int .u8 x3]] w fun e w' =>
      e = .returned (.agg #[.int .i64 (lineOf n (x0, x1, x2, x3)).1, .int .i64 (lineOf n (x0, x1, x2, x3)).2.1, .int .i64 (lineOf n (x0, x1, x2, x3)).2.2]) ∧ Below w.heap.size w w' := by
  have f3 : ∀ nq, (((w.alloc (.cells #[.int .u8 x0, .int .u8 x1, .int .u8 x2, .int .u8 x3] 87)).alloc (.cells #[.int .i64 0, .int .i64 0, .int .i64 0] 28)).drewN nq).cell? ⟨w.heap.size, 3, none⟩ = some (.int .u8 x3) := fun nq => by simp
  have fz : ∀ nq, Cell3 (((w.alloc (.cells #[.int .u8 x0, .int .u8 x1, .int .u8 x2, .int .u8 x3] 87)).alloc (.cells #[.int .i64 0, .int .i64 0, .int .i64 0] 28)).drewN nq) (w.heap.size + 1) (.int .i64 0) (.int .i64 0) (.int .i64 0) := fun nq => ⟨by simp <;> omega, by simp, by simp, by simp, by simp, by simp, by simp⟩
  have fb : ∀ nq, Below w.heap.size w (((w.alloc (.cells #[.int .u8 x0, .int .u8 x1, .int .u8 x2, .int .u8 x3] 87)).alloc (.cells #[.int .i64 0, .int .i64 0, .int .i64 0] 28)).drewN nq) := fun nq => below_drewN (below_two w _ _) nq
  have F3 := Lib.hid f3
  have FZ := Lib.hid fz
  have FB := Lib.hid fb
  clear f3 fz fb
  have SQ := Lib.hid (sq_bd n hn hn7)
  have hn0 : ((n : Int) == 0) = false := by simp; omega
  have hn0' : ¬ n = 0 := by omega
  by_cases hA : x0 % 9 = 4
  case neg =>
    have e0 : ((x0 : Int) % 9 - 4 == 0) = false := by simp; omega
    have HL := Lib.hid (show lineA (x0, x1, x2, x3) = (x0 : Int) % 9 - 4 by simp only [lineA]; rw [if_neg (by omega)]; omega)
    clear hA
    go_enter Try.func74, Try.ntmps74
    go_wp2
    go_quiet (fail)
    go_wp2
    · exfalso
      have hw : wrap64 ((n : Int) * n) = 0 := by assumption
      rw [IntWalk.wrap64_in _ ⟨by have := SQ.out.1; omega, by have := SQ.out.2; omega⟩] at hw
      have := SQ.out.1
      omega
    · have c3 := F3.out nq
      have hz := FZ.out nq
      have hb := FB.out nq
      generalize (((w.alloc (.cells #[.int .u8 x0, .int .u8 x1, .int .u8 x2, .int .u8 x3] 87)).alloc (.cells #[.int .i64 0, .int .i64 0, .int .i64 0] 28)).drewN nq) = W0 at c3 hz hb ⊢
      have HZ := Lib.hid hz
      have HB := Lib.hid hb
      have hz0 := hz.1
      clear hz hb
      have hsq : wrap64 ((n : Int) * n) = (n : Int) * n := IntWalk.wrap64_in _ ⟨by have := SQ.out.1; omega, by have := SQ.out.2; omega⟩
      generalize wrap64 ((n : Int) * n) = s at *
      have HS := Lib.hid hsq
      clear hsq
      go_region_held3 (fun W => W.cell? ⟨w.heap.size, 3, none⟩ = some (.int .u8 x3)) (first | exact k3 | go_keep)
        (first
        | (go_at_call 75; refine (gallery_any _ _ _ _).mono ?_; rintro e w2 ⟨rfl, hb2⟩; have hbw : Below W0.heap.size W0 w2 := ⟨hb2.os, hb2.tape, hb2.output, hb2.size, hb2.block⟩; have HZ2 := Lib.hid (HZ.out.below hbw); have S2 := HZ2.out; obtain ⟨s0, s1, s2, s3, s4, s5, s6⟩ := S2; have k3 := (hbw.cell (p := ⟨w.heap.size, 3, none⟩) (Nat.lt_of_succ_lt hz0)).trans c3))
      all_goals
       go_wp2
       have kk := fun v0 v1 v2 => cells3 (w := w2) (B := w.heap.size + 1) v0 v1 v2 s1 s2 s3
       have hbn := fun v0 v1 v2 => (((HB.out.trans (hbw.mono (Nat.le_of_lt (Nat.lt_of_succ_lt hz0)))).setCell (p := ⟨w.heap.size + 1, 0, none⟩) (Nat.le_succ _) v0).setCell (p := ⟨w.heap.size + 1, 1, none⟩) (Nat.le_succ _) v1).setCell (p := ⟨w.heap.size + 1, 2, none⟩) (Nat.le_succ _) v2
       refine bodyPost_ret (by simp [results, Try.results74, go_sem, fun v0 v1 v2 => (kk v0 v1 v2).1, fun v0 v1 v2 => (kk v0 v1 v2).2.1, fun v0 v1 v2 => (kk v0 v1 v2).2.2]; exact ⟨rfl, rfl, rfl⟩) rfl ⟨ret_agg3 ?_ ?_ ?_, hbn _ _ _⟩
       · exact HL.out.symm
       · simp only [lineOf, lineB]; omega
       · have hv := third_any n x0 x1 x2 x3 ((x0 : Int) % 9 - 4) hn hn7 h3 HL.out ⟨by omega, by omega⟩ s HS.out (by have := HS.out; have := SQ.out.2; omega) (by have := HS.out; have := SQ.out.1; omega)
         have hd : (IntKind.i64.wrap (x3 : Int)).tmod 3 = (x3 : Int) % 3 := by rw [IntWalk.i64_in _ ⟨by omega, by omega⟩, Int.tmod_eq_emod_of_nonneg (by omega)]
         rw [hd] at hv
         try rw [hd]
         simp only [IntWalk.i64_left, Int.one_mul, Int.zero_mul] at hv ⊢
         exact hv
  case pos =>
   by_cases hB : x1 % 9 = 4
   case pos =>
    have e0 : ((x0 : Int) % 9 - 4 == 0) = true := by simp; omega
    have e1 : ((x1 : Int) % 9 - 4 == 0) = true := by simp; omega
    have HL := Lib.hid (show lineA (x0, x1, x2, x3) = 1 by simp only [lineA]; rw [if_pos ⟨hA, hB⟩])
    clear hA hB
    go_enter Try.func74, Try.ntmps74
    go_wp2
    go_quiet (fail)
    go_wp2
    · exfalso
      have hw : wrap64 ((n : Int) * n) = 0 := by assumption
      rw [IntWalk.wrap64_in _ ⟨by have := SQ.out.1; omega, by have := SQ.out.2; omega⟩] at hw
      have := SQ.out.1
      omega
    · have c3 := F3.out nq
      have hz := FZ.out nq
      have hb := FB.out nq
      generalize (((w.alloc (.cells #[.int .u8 x0, .int .u8 x1, .int .u8 x2, .int .u8 x3] 87)).alloc (.cells #[.int .i64 0, .int .i64 0, .int .i64 0] 28)).drewN nq) = W0 at c3 hz hb ⊢
      have HZ := Lib.hid hz
      have HB := Lib.hid hb
      have hz0 := hz.1
      clear hz hb
      have hsq : wrap64 ((n : Int) * n) = (n : Int) * n := IntWalk.wrap64_in _ ⟨by have := SQ.out.1; omega, by have := SQ.out.2; omega⟩
      generalize wrap64 ((n : Int) * n) = s at *
      have HS := Lib.hid hsq
      clear hsq
      go_region_held3 (fun W => W.cell? ⟨w.heap.size, 3, none⟩ = some (.int .u8 x3)) (first | exact k3 | go_keep)
        (first
        | (go_at_call 75; refine (gallery_any _ _ _ _).mono ?_; rintro e w2 ⟨rfl, hb2⟩; have hbw : Below W0.heap.size W0 w2 := ⟨hb2.os, hb2.tape, hb2.output, hb2.size, hb2.block⟩; have HZ2 := Lib.hid (HZ.out.below hbw); have S2 := HZ2.out; obtain ⟨s0, s1, s2, s3, s4, s5, s6⟩ := S2; have k3 := (hbw.cell (p := ⟨w.heap.size, 3, none⟩) (Nat.lt_of_succ_lt hz0)).trans c3))
      all_goals
       go_wp2
       have kk := fun v0 v1 v2 => cells3 (w := w2) (B := w.heap.size + 1) v0 v1 v2 s1 s2 s3
       have hbn := fun v0 v1 v2 => (((HB.out.trans (hbw.mono (Nat.le_of_lt (Nat.lt_of_succ_lt hz0)))).setCell (p := ⟨w.heap.size + 1, 0, none⟩) (Nat.le_succ _) v0).setCell (p := ⟨w.heap.size + 1, 1, none⟩) (Nat.le_succ _) v1).setCell (p := ⟨w.heap.size + 1, 2, none⟩) (Nat.le_succ _) v2
       refine bodyPost_ret (by simp [results, Try.results74, go_sem, fun v0 v1 v2 => (kk v0 v1 v2).1, fun v0 v1 v2 => (kk v0 v1 v2).2.1, fun v0 v1 v2 => (kk v0 v1 v2).2.2]; exact ⟨rfl, rfl, rfl⟩) rfl ⟨ret_agg3 ?_ ?_ ?_, hbn _ _ _⟩
       · exact HL.out.symm
       · simp only [lineOf, lineB]; omega
       · have hv := third_any n x0 x1 x2 x3 (1) hn hn7 h3 HL.out ⟨by omega, by omega⟩ s HS.out (by have := HS.out; have := SQ.out.2; omega) (by have := HS.out; have := SQ.out.1; omega)
         have hd : (IntKind.i64.wrap (x3 : Int)).tmod 3 = (x3 : Int) % 3 := by rw [IntWalk.i64_in _ ⟨by omega, by omega⟩, Int.tmod_eq_emod_of_nonneg (by omega)]
         rw [hd] at hv
         try rw [hd]
         simp only [IntWalk.i64_left, Int.one_mul, Int.zero_mul] at hv ⊢
         exact hv
   case neg =>
    have e0 : ((x0 : Int) % 9 - 4 == 0) = true := by simp; omega
    have e1 : ((x1 : Int) % 9 - 4 == 0) = false := by simp; omega
    have HL := Lib.hid (show lineA (x0, x1, x2, x3) = (x0 : Int) % 9 - 4 by simp only [lineA]; rw [if_neg (by omega)]; omega)
    clear hA hB
    go_enter Try.func74, Try.ntmps74
    go_wp2
    go_quiet (fail)
    go_wp2
    · exfalso
      have hw : wrap64 ((n : Int) * n) = 0 := by assumption
      rw [IntWalk.wrap64_in _ ⟨by have := SQ.out.1; omega, by have := SQ.out.2; omega⟩] at hw
      have := SQ.out.1
      omega
    · have c3 := F3.out nq
      have hz := FZ.out nq
      have hb := FB.out nq
      generalize (((w.alloc (.cells #[.int .u8 x0, .int .u8 x1, .int .u8 x2, .int .u8 x3] 87)).alloc (.cells #[.int .i64 0, .int .i64 0, .int .i64 0] 28)).drewN nq) = W0 at c3 hz hb ⊢
      have HZ := Lib.hid hz
      have HB := Lib.hid hb
      have hz0 := hz.1
      clear hz hb
      have hsq : wrap64 ((n : Int) * n) = (n : Int) * n := IntWalk.wrap64_in _ ⟨by have := SQ.out.1; omega, by have := SQ.out.2; omega⟩
      generalize wrap64 ((n : Int) * n) = s at *
      have HS := Lib.hid hsq
      clear hsq
      go_region_held3 (fun W => W.cell? ⟨w.heap.size, 3, none⟩ = some (.int .u8 x3)) (first | exact k3 | go_keep)
        (first
        | (go_at_call 75; refine (gallery_any _ _ _ _).mono ?_; rintro e w2 ⟨rfl, hb2⟩; have hbw : Below W0.heap.size W0 w2 := ⟨hb2.os, hb2.tape, hb2.output, hb2.size, hb2.block⟩; have HZ2 := Lib.hid (HZ.out.below hbw); have S2 := HZ2.out; obtain ⟨s0, s1, s2, s3, s4, s5, s6⟩ := S2; have k3 := (hbw.cell (p := ⟨w.heap.size, 3, none⟩) (Nat.lt_of_succ_lt hz0)).trans c3))
      all_goals
       go_wp2
       have kk := fun v0 v1 v2 => cells3 (w := w2) (B := w.heap.size + 1) v0 v1 v2 s1 s2 s3
       have hbn := fun v0 v1 v2 => (((HB.out.trans (hbw.mono (Nat.le_of_lt (Nat.lt_of_succ_lt hz0)))).setCell (p := ⟨w.heap.size + 1, 0, none⟩) (Nat.le_succ _) v0).setCell (p := ⟨w.heap.size + 1, 1, none⟩) (Nat.le_succ _) v1).setCell (p := ⟨w.heap.size + 1, 2, none⟩) (Nat.le_succ _) v2
       refine bodyPost_ret (by simp [results, Try.results74, go_sem, fun v0 v1 v2 => (kk v0 v1 v2).1, fun v0 v1 v2 => (kk v0 v1 v2).2.1, fun v0 v1 v2 => (kk v0 v1 v2).2.2]; exact ⟨rfl, rfl, rfl⟩) rfl ⟨ret_agg3 ?_ ?_ ?_, hbn _ _ _⟩
       · exact HL.out.symm
       · simp only [lineOf, lineB]; omega
       · have hv := third_any n x0 x1 x2 x3 ((x0 : Int) % 9 - 4) hn hn7 h3 HL.out ⟨by omega, by omega⟩ s HS.out (by have := HS.out; have := SQ.out.2; omega) (by have := HS.out; have := SQ.out.1; omega)
         have hd : (IntKind.i64.wrap (x3 : Int)).tmod 3 = (x3 : Int) % 3 := by rw [IntWalk.i64_in _ ⟨by omega, by omega⟩, Int.tmod_eq_emod_of_nonneg (by omega)]
         rw [hd] at hv
         try rw [hd]
         simp only [IntWalk.i64_left, Int.one_mul, Int.zero_mul] at hv ⊢
         exact hv
end Go.Proofs.Ytcalipoknbbaaaa
namespace Go.Proofs.Ytcalipoknbbaaaa
open Go.RowKit

/-- the members below k of a set -/
def membTo (s k : Nat) : List Int := ((List.range k).filter fun i => s.testBit i).map fun i : Nat => (i : Int)
def membL (s : Nat) : List Int := membTo s 12
theorem membTo_succ (s k : Nat) : membTo s (k + 1) = membTo s k ++ (if s.testBit k then [(k : Int)] else []) := by
  unfold membTo
  rw [List.range_succ, List.filter_append, List.map_append]
  congr 1
  simp only [List.filter_cons, List.filter_nil]
  split <;> rfl
theorem membTo_le (s k : Nat) : (membTo s k).length ≤ k := by
  unfold membTo
  rw [List.length_map]
  refine Nat.le_trans (List.length_filter_le _ _) ?_
  simp

theorem bit_eq (s k : Nat) (hs : s < 4096) : (bits BinOp.and IntKind.i64 ((s : Int) / 2 ^ k) 1 == 1) = s.testBit k := by
  have e : ((s : Int) / 2 ^ k) = ((s / 2 ^ k : Nat) : Int) := by simp
  have h : s / 2 ^ k ≤ s := Nat.div_le_self _ _
  rw [e, Go.Proofs.and_one _ (by omega), Nat.testBit_eq_decide_div_mod_eq]
  by_cases h1 : s / 2 ^ k % 2 = 1
  · rw [h1]; rfl
  · have h0 : s / 2 ^ k % 2 = 0 := by omega
    rw [h0]; rfl

/-- ints in new memory -/
def OneI (w : World) (xs : List Int) (e : Ending) (w' : World) : Prop := ∃ q c, e = .returned (.slice q xs.length c) ∧ RowI w' q xs ∧ Below w.heap.size w w'

set_option maxRecDepth 100000 in
set_option maxHeartbeats 1000000 in
theorem members_any (s : Nat) (w : World) (hs : s < 4096) : Calls Try.prog 87 #[.int .i64 s] w (OneI w (membL s)) := by
  go_enter Try.func87, Try.ntmps87
  go_wp2
  go_loopw [3, 5] (fun v i wr => ∃ k : Nat, k ≤ 12 ∧ i = .int .i64 k ∧ wr.ownsRow w.heap.size 3 1 v (membTo s k).length (flatI (membTo s k)) ∧ Below w.heap.size w wr) (fun _ i _ => 12 - (intOf i).toNat)
  case atStart => exact ⟨0, Nat.zero_le _, rfl, World.ownsRow_nil _ _ _ _, Below.refl _ _⟩
  case round =>
    obtain ⟨k, hk, rfl, hown, hbel⟩ := hrel
    have HO := Lib.hid hown
    clear hown
    by_cases hlt : k < 12
    · have hltI : (k : Int) < 12 := by omega
      have hk0 : (0 : Int) ≤ k := by omega
      have hl := membTo_le s k
      have hsz := hbel.size
      go_wp2_with (at_builtin; refine app_int _ rfl (.tmp 13) (.tmp 15) rfl w.heap.size _ _ (k : Int) rfl (HO.out.alloc _) wr.heap.size 1 rfl (by simp) (by omega) (by simp; omega) ?_; intro v' w3 hown3 hgrow hblk)
      · have hy : s.testBit k = true := by rw [← bit_eq s k hs]; assumption
        have hb3 := grown_below (HO.out.alloc (.cells #[.int .i64 k] 3)) (by simp; omega) hgrow
        have hbn := (hbel.alloc (by omega) (.cells #[.int .i64 k] 3)).trans hb3
        go_roundw
        case rel => exact ⟨k + 1, hlt, by go_num, by rw [membTo_succ, if_pos hy]; exact hown3, hbn⟩
        case measure => simp [intOf]; omega
      · have hy : s.testBit k = false := by rw [← bit_eq s k hs]; assumption
        go_roundw
        case rel => exact ⟨k + 1, hlt, by go_num, by rw [membTo_succ, if_neg (by simp [hy]), List.append_nil]; exact HO.out, hbel⟩
        case measure => simp [intOf]; omega
    · obtain rfl : k = 12 := by omega
      obtain ⟨q1, cc, rfl, r1⟩ := rowI_of_owns HO.out
      have hltI : ¬ ((12 : Nat) : Int) < 12 := by omega
      go_wp2
      go_ret
      exact ⟨q1, cc, rfl, r1, hbel⟩
end Go.Proofs.Ytcalipoknbbaaaa
