/- PropSeries: the law's body. -/
import Derived.Test.YtffblmhaoekkgaaPrpX4
import Derived.Test.YtffblmhaoekkgaaKW
import Derived.Deep.CutRange
import Derived.Deep.CutBlock
namespace Go.Proofs.Ytffblmhaoekkgaa.prp
open Go.RowKit
set_option linter.unusedSimpArgs false
set_option linter.unusedVariables false
open Go.Proofs.Ytffblmhaoekkgaa.ev (works_any)

theorem listN (W : World) (L : Int) : Calls Try.prog 50 #[.slice (some ⟨W.heap.size, 0, none⟩) 1 1] (W.alloc (.cells #[.int .i64 L] 3)) fun e w' => e = .returned (.slice (some ⟨W.heap.size, 0, none⟩) 1 1) ∧ RowV w' (some ⟨W.heap.size, 0, none⟩) (flatI [L]) ∧ Below W.heap.size W w' := by
  have hr : RowV (W.alloc (.cells #[.int .i64 L] 3)) (some ⟨W.heap.size, 0, none⟩) (flatI [L]) := rowV_new W (flatI [L]) 3 (0, 0)
  have hb : Below W.heap.size W (W.alloc (.cells #[.int .i64 L] 3)) := (Below.refl _ _).alloc (Nat.le_refl _) _
  generalize (W.alloc (.cells #[.int .i64 L] 3)) = W1 at *
  generalize hB : W.heap.size = B at *
  have HR := Lib.hid hr
  have HB := Lib.hid hb
  clear hr hb
  go_enter Try.func50, Try.ntmps50
  go_wp2
  go_ret
  exact ⟨rfl, HR.out, HB.out⟩
theorem ratioG (a b e f : Int) (h : Hid ((-4611686018427387904 < a ∧ a < 4611686018427387904) ∧ 0 < b ∧ b < 4611686018427387904)) (h2 : Hid (lowF a b = (e, f))) (w : World) : Calls Try.prog 29 #[.int .i64 a, .int .i64 b] w fun e' w' => e' = .returned (.agg #[.int .i64 e, .int .i64 f]) ∧ Below w.heap.size w w' := by
  have := ratio_any a b w h.out.1 h.out.2
  have h3 : (lowN a b, lowD a b) = (e, f) := h2.out
  injection h3 with h4 h5
  unfold lowN at h4
  unfold lowD at h5
  rw [h4, h5] at this
  exact this

set_option maxRecDepth 100000 in
set_option maxHeartbeats 8000000 in
theorem PropSeries_any (x0 x1 x2 : Int) (hx0 : 0 ≤ x0 ∧ x0 ≤ 255) (hx1 : 0 ≤ x1 ∧ x1 ≤ 255) (hx2 : 0 ≤ x2 ∧ x2 ≤ 255) (w : World) :
    Calls Try.prog 9 #[.int .u8 x0, .int .u8 x1, .int .u8 x2] w fun e w' => e = .returned (.bool true) ∧ Below w.heap.size w w' := by
  obtain ⟨n, hn⟩ : ∃ n : Nat, 1 + x0 % 14 = (n : Int) := ⟨(1 + x0 % 14).toNat, by omega⟩
  have n1 : 1 ≤ n := by omega
  have n14 : n ≤ 14 := by omega
  obtain ⟨M, hM⟩ : ∃ M : Nat, min (n : Int) 12 = (M : Int) := ⟨min n 12, by omega⟩
  have hM12 : M ≤ 12 := by omega
  have hMn : n ≤ 12 → M = n := by omega
  obtain ⟨C, hC⟩ : ∃ C : Int, 1 + x2 % 9 = C := ⟨_, rfl⟩
  have hC1 : 1 ≤ C ∧ C ≤ 9 := by omega
  obtain ⟨L, hL⟩ : ∃ L : Int, 1 + x1 = L := ⟨_, rfl⟩
  have hL1 : 1 ≤ L ∧ L ≤ 256 := by omega
  have HMN := Lib.hid hMn
  clear hMn
  go_enter Try.func9, Try.ntmps9
  go_wp2
  go_loopw [8, 9, 10] (fun a b i wr => ∃ j : Nat, j ≤ M ∧ i = .int .i64 ((j : Int) + 1) ∧ a = .int .i64 (facS j).1 ∧ b = .int .i64 (facS j).2 ∧ wr = w) (fun _ _ i _ => M + 1 - (intOf i).toNat)
  case atStart => exact ⟨0, Nat.zero_le _, rfl, rfl, rfl, rfl⟩
  case round =>
    obtain ⟨j, hj, rfl, rfl, rfl, rfl⟩ := hrel
    by_cases hlt : j < M
    · have hle : (j : Int) + 1 ≤ (M : Int) := by omega
      have hb := fac_bd j (by omega)
      have hb1 := fac_bd (j + 1) (by omega)
      have hp := (har_val j).2
      have hp1 := (har_val (j + 1)).2
      have e1 : (facS (j + 1)).1 = (facS j).1 * ((j : Int) + 1) + (facS j).2 := rfl
      have e2 : (facS (j + 1)).2 = (facS j).2 * ((j : Int) + 1) := rfl
      rw [e1, e2] at hb1
      rw [e2] at hp1
      generalize hA : (facS (j + 1)).1 = a1 at *
      generalize hD : (facS (j + 1)).2 = d1 at *
      have HA := Lib.hid hA
      have HD := Lib.hid hD
      clear hA hD
      generalize (facS j).1 = a at *
      generalize (facS j).2 = d at *
      have q1 : 0 ≤ a * ((j : Int) + 1) := Int.mul_nonneg hb.1.1 (by omega)
      have v1 : wrap64 (a * ((j : Int) + 1)) = a * ((j : Int) + 1) := IntWalk.wrap64_in _ ⟨by omega, by omega⟩
      have v2 : wrap64 (a * ((j : Int) + 1) + d) = a1 := by rw [e1]; exact IntWalk.wrap64_in _ ⟨by omega, by omega⟩
      have v3 : wrap64 (d * ((j : Int) + 1)) = d1 := by rw [e2]; exact IntWalk.wrap64_in _ ⟨by omega, by omega⟩
      have v4 : IntKind.i64.wrap (a * ((j : Int) + 1)) = a * ((j : Int) + 1) := IntWalk.i64_in _ ⟨by omega, by omega⟩
      have v5 : IntKind.i64.wrap (a * ((j : Int) + 1) + d) = a1 := by rw [e1]; exact IntWalk.i64_in _ ⟨by omega, by omega⟩
      have v6 : IntKind.i64.wrap (d * ((j : Int) + 1)) = d1 := by rw [e2]; exact IntWalk.i64_in _ ⟨by omega, by omega⟩
      have j1 : -100 ≤ (j : Int) + 1 + 1 ∧ (j : Int) + 1 + 1 ≤ 100 := by omega
      clear e1 e2 hb hb1 hp hp1 q1
      go_wp2
      go_roundw
      case rel => exact ⟨j + 1, hlt, by rw [show ((j + 1 : Nat) : Int) = (j : Int) + 1 by omega], by rw [HA.out], by rw [HD.out], trivial⟩
      case measure => simp [intOf]; omega
    · obtain rfl : j = M := by omega
      have hle : ¬ (j : Int) + 1 ≤ (j : Int) := by omega
      have hfb := fac_bd j hM12
      have hfp := (har_val j).2
      by_cases hbig : 12 < n
      · have ha := fun W => Harmonic_no n W hbig (by omega)
        unfold frV at ha
        have HA := Lib.hid ha
        have g1 : (12 : Int) < (n : Int) := by omega
        clear ha
        generalize (facS j).1 = A at *
        generalize (facS j).2 = D at *
        go_upto_region 8 with (go_at_call 48; refine (HA.out _).mono ?_; rintro e W1 ⟨rfl, hb1⟩)
        have HJ := Lib.hid (show Jn wr W1 [] [] from ⟨hb1, ⟨List.nodup_nil, fun B hB => by simp at hB⟩, fun B hB => by simp at hB⟩)
        replace HJ := Lib.hid (HJ.out.new (x := 0) (y := 0))
        generalize hB : W1.heap.size = B at *
        generalize (W1.alloc (.cells #[.int .i64 0, .int .i64 0] 51)) = W2 at *
        clear hB
        have SF : Hid (∀ W rows bs, Jn wr W rows ((B, (0, 0)) :: bs) → W.cell? ⟨B, 0, none⟩ = some (.int .i64 0) ∧ W.cell? ⟨B, 1, none⟩ = some (.int .i64 0)) := Lib.hid fun W rows bs h => ⟨h.one.2.1, h.one.2.2.1⟩
        clear hb1
        go_upto_region 9 with fail
        go_region_held3 (fun W => W.cell? ⟨B, 0, none⟩ = some (.int .i64 0) ∧ W.cell? ⟨B, 1, none⟩ = some (.int .i64 0)) (first | with_reducible exact SF.out _ _ _ HJ.out | with_reducible exact SF.out _ _ _ HJ.out.drew | go_keep)
          (first
          | (go_at_call 32; refine (frac2 _ _ _).mono ?_; rintro e W ⟨rfl, hb⟩; replace HJ := Lib.hid (HJ.out.go (by first | exact hb | exact ((Below.refl _ _).drew).on hb)); clear hb)
          | (go_at_call 25; refine (works_any _).mono ?_; rintro e W ⟨rfl, hb⟩; replace HJ := Lib.hid (HJ.out.go (by first | exact hb | exact ((Below.refl _ _).drew).on hb)); clear hb))
        all_goals
          go_wp2
          go_ret
          exact ⟨rfl, HJ.out.bel⟩
      · have hjn := HMN.out (by omega)
        have g1 : ¬ (12 : Int) < (n : Int) := by omega
        have hhar : harS n = lowF (facS j).1 (facS j).2 := by
          rw [hjn]
          exact (har_val n).1.eq (FrV.low (har_val n).2) (har_val n).2 (har_val n).2 rfl
        have ha := fun W => Harmonic_ok n W n1 (by omega)
        rw [hhar] at ha
        have hfa : n ≤ 5 → ∀ (q1 q2 : Nat) W, RowV W (some ⟨q1, 0, none⟩) (flatI (List.replicate n L)) → RowV W (some ⟨q2, 0, none⟩) (flatI (List.replicate n C)) → Calls Try.prog 43 #[.slice (some ⟨q1, 0, none⟩) n n, .slice (some ⟨q2, 0, none⟩) n n, .int .i64 ((n - 1 : Nat) : Int)] W fun e w' => e = .returned (.tuple #[frP (lowF ((facS j).1 * L) (facS j).2), .int .i64 0]) ∧ Below W.heap.size W w' := fun h5 q1 q2 W h1 h2 => by
          have := Farthest_ok (some ⟨q1, 0, none⟩) n (List.replicate n L) (some ⟨q2, 0, none⟩) n (List.replicate n C) (n - 1) W h1 h2 (by simp) (by simp; omega) (by simp; omega) (err_rep n n1 h5 L C hL1 hC1) (by simp; omega)
          rw [ldX_rep, reach_rep n n1 h5 L C (by omega), List.length_replicate, ← hjn] at this
          rw [hjn] at this ⊢
          exact this
        have hq1 : 0 ≤ (facS j).1 * L := Int.mul_nonneg hfb.1.1 (by omega)
        have hq2 := prod_bd (a := (facS j).1) (b := L) (A := 2000000000) (B := 256) ⟨by omega, by omega⟩ ⟨by omega, by omega⟩
        generalize (facS j).1 = A at *
        generalize (facS j).2 = D at *
        generalize hY : lowF A D = y at *
        generalize hZ : lowF (A * L) D = z at *
        obtain ⟨y1, y2⟩ := y
        obtain ⟨z1, z2⟩ := z
        unfold frP frV at ha hfa
        dsimp only at ha hfa
        have HY := Lib.hid hY
        have HZ := Lib.hid hZ
        have HA := Lib.hid ha
        have HFA := Lib.hid hfa
        have HBD : Hid ((-4611686018427387904 < A ∧ A < 4611686018427387904) ∧ 0 < D ∧ D < 4611686018427387904) := Lib.hid (by omega)
        have HBD2 : Hid ((-4611686018427387904 < A * L ∧ A * L < 4611686018427387904) ∧ 0 < D ∧ D < 4611686018427387904) := Lib.hid (by omega)
        have wl : wrap64 (A * L) = A * L := IntWalk.wrap64_in _ ⟨by omega, by omega⟩
        have wl2 : IntKind.i64.wrap (A * L) = A * L := IntWalk.i64_in _ ⟨by omega, by omega⟩
        clear ha hfa hY hZ hhar hq1 hq2 hfb hfp
        go_upto_region 8 with (go_at_call 48; refine (HA.out _).mono ?_; rintro e W1 ⟨rfl, hb1⟩)
        have HJ := Lib.hid (show Jn wr W1 [] [] from ⟨hb1, ⟨List.nodup_nil, fun B hB => by simp at hB⟩, fun B hB => by simp at hB⟩)
        replace HJ := Lib.hid (HJ.out.new (x := y1) (y := y2))
        generalize hB : W1.heap.size = B at *
        generalize (W1.alloc (.cells #[.int .i64 y1, .int .i64 y2] 51)) = W2 at *
        clear hB
        have SF : Hid (∀ W rows bs, Jn wr W rows ((B, (y1, y2)) :: bs) → W.cell? ⟨B, 0, none⟩ = some (.int .i64 y1) ∧ W.cell? ⟨B, 1, none⟩ = some (.int .i64 y2)) := Lib.hid fun W rows bs h => ⟨h.one.2.1, h.one.2.2.1⟩
        clear hb1 HA
        go_upto_region 10 with fail
        go_region_held3 (fun W => W.cell? ⟨B, 0, none⟩ = some (.int .i64 y1) ∧ W.cell? ⟨B, 1, none⟩ = some (.int .i64 y2)) (first | with_reducible exact SF.out _ _ _ HJ.out | with_reducible exact SF.out _ _ _ HJ.out.drew | go_keep)
          (first
          | (go_at_call 29; refine (ratioG _ _ _ _ HBD HY _).mono ?_; rintro e W ⟨rfl, hb⟩; replace HJ := Lib.hid (HJ.out.go (by first | exact hb | exact ((Below.refl _ _).drew).on hb)); clear hb)
          | fail)
        clear SF
        by_cases h5 : 5 < n
        · have g2 : (5 : Int) < (n : Int) := by omega
          go_wp2_with (go_at_call 25; refine (works_any _).mono ?_; rintro e W ⟨rfl, hb⟩; replace HJ := Lib.hid (HJ.out.go (by first | exact hb | exact ((Below.refl _ _).drew).on hb)); clear hb)
          go_ret
          exact ⟨rfl, HJ.out.bel⟩
        · have g2 : ¬ (5 : Int) < (n : Int) := by omega
          have h5' : n ≤ 5 := by omega
          have wn : IntKind.i64.wrap ((n : Int) - 1) = ((n - 1 : Nat) : Int) := by rw [IntWalk.i64_in _ ⟨by omega, by omega⟩]; omega
          have FA := Lib.hid (HFA.out h5')
          clear HFA
          go_upto_region 16 with (first
            | (go_at_call 50; refine (listN _ _).mono ?_; rintro e W ⟨rfl, hr, hb⟩; replace HJ := Lib.hid ((HJ.out.go hb).add hr); clear hr hb)
            | (go_at_call 49; refine (Repeat1_any _ _ _ n _ n1 h5' (HJ.out.row _ (List.mem_cons_self ..))).mono ?_; rintro e W ⟨g, rfl, hr, hb⟩; replace HJ := Lib.hid ((HJ.out.go hb).add hr); clear hr hb)
            | (go_at_call 43; refine (FA.out _ _ _ (HJ.out.row (some ⟨_, 0, none⟩, flatI (List.replicate n L)) (by simp)) (HJ.out.row (some ⟨_, 0, none⟩, flatI (List.replicate n C)) (by simp))).mono ?_; rintro e WF ⟨rfl, hb⟩; replace HJ := Lib.hid (HJ.out.go hb); clear hb))
          replace HJ := Lib.hid (HJ.out.new (x := z1) (y := z2))
          have SF : Hid (∀ W' rows bs, Jn wr W' rows ((WF.heap.size, (z1, z2)) :: bs) → W'.cell? ⟨WF.heap.size, 0, none⟩ = some (.int .i64 z1) ∧ W'.cell? ⟨WF.heap.size, 1, none⟩ = some (.int .i64 z2)) := Lib.hid fun W' rows bs h => ⟨h.one.2.1, h.one.2.2.1⟩
          generalize hB2 : WF.heap.size = B2 at *
          generalize (WF.alloc (.cells #[.int .i64 z1, .int .i64 z2] 51)) = W5 at *
          clear hB2 FA
          go_region_held3 (fun W => W.cell? ⟨B2, 0, none⟩ = some (.int .i64 z1) ∧ W.cell? ⟨B2, 1, none⟩ = some (.int .i64 z2)) (first | with_reducible exact SF.out _ _ _ HJ.out | with_reducible exact SF.out _ _ _ HJ.out.drew | go_keep)
            (first
            | (go_at_call 29; refine (ratioG _ _ _ _ HBD2 HZ _).mono ?_; rintro e W ⟨rfl, hb⟩; replace HJ := Lib.hid (HJ.out.go (by first | exact hb | exact ((Below.refl _ _).drew).on hb)); clear hb)
            | (go_at_call 25; refine (works_any _).mono ?_; rintro e W ⟨rfl, hb⟩; replace HJ := Lib.hid (HJ.out.go (by first | exact hb | exact ((Below.refl _ _).drew).on hb)); clear hb))
          all_goals
            go_wp2
            go_ret
            exact ⟨rfl, HJ.out.bel⟩
end Go.Proofs.Ytffblmhaoekkgaa.prp
