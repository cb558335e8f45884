/- Chapter 7's law: PropSpanned's closures: the centre of a truth; what one corner changes; all corners. -/
import Derived.Test.YtffblmhaoekkgaaPrpAI
import Derived.Deep.RegionHeld3
import Derived.BigRegion
namespace Go.Proofs.Ytffblmhaoekkgaa.prp
open Go.RowKit
set_option linter.unusedSimpArgs false
set_option linter.unusedVariables false

set_option maxRecDepth 100000 in
set_option maxHeartbeats 4000000 in
/-- the centre of a truth -/
theorem span1_any (q : Option Addr) (cap : Nat) (l : List Sn) (q2 : Option Addr) (c2 : Nat) (ws : List Int) (lv : Nat) (B1 B2 : Nat) (w : World) (hr : RowV w q (flatS l)) (hr2 : RowV w q2 (flatI ws)) (hl : l.length ≤ 5) (hok : ∀ s ∈ l, okS s) (hb : Bnd l ws) (hlv : lv < l.length)
    (h1 : SliceAt w B1 (.int .i64 lv)) (h2 : SliceAt w B2 (.slice q l.length cap)) :
    Calls Try.prog 28 #[.slice q2 l.length c2, .pointer (some ⟨B1, 0, none⟩), .pointer (some ⟨B2, 0, none⟩)] w fun e w' => e = .returned (frP (cenF l ws lv)) ∧ Below w.heap.size w w' := by
  obtain ⟨h11, h12⟩ := h1
  obtain ⟨h21, h22⟩ := h2
  have hwl := hb.1
  have hwo := hb.small hok
  have hT := tS_pos hok hb hlv
  have hF : ∀ i, i < l.length → (-10000000000 ≤ ws.getD i 0 * (l.getD i zs).at_ ∧ ws.getD i 0 * (l.getD i zs).at_ ≤ 10000000000) ∧ -10000000000 ≤ ws.getD i 0 ∧ ws.getD i 0 ≤ 10000000000 := fun i hi => by
    obtain ⟨_, _, h3, h4, _⟩ := hok _ (getD_mem l i zs hi)
    have hw := hwo _ (getD_mem ws i 0 (by omega))
    have hp := prod_bd (a := ws.getD i 0) (b := (l.getD i zs).at_) (A := 100) (B := 100000000) ⟨by omega, by omega⟩ ⟨by omega, by omega⟩
    omega
  have hbdM := fun k (h1 : lv ≤ k) (hk : k ≤ l.length) => psum_bd (fun i => ws.getD i 0 * (l.getD i zs).at_) 10000000000 (by omega) lv k h1 fun i hi => (hF i (by omega)).1
  have hbdT := fun k (h1 : lv ≤ k) (hk : k ≤ l.length) => psum_bd (fun i => ws.getD i 0) 10000000000 (by omega) lv k h1 fun i hi => (hF i (by omega)).2
  have hcf := cenF_eq l ws lv
  have hM2 := hbdM l.length (by omega) (Nat.le_refl _)
  have hT2 := hbdT l.length (by omega) (Nat.le_refl _)
  have em : psum (fun i => ws.getD i 0 * (l.getD i zs).at_) lv l.length = mS l ws lv := rfl
  have et : psum (fun i => ws.getD i 0) lv l.length = tS l ws lv := rfl
  rw [em] at hM2
  rw [et] at hT2
  have hra := fun W => ratio_any (mS l ws lv) (tS l ws lv) W (by omega) (by omega)
  have HRA := Lib.hid hra
  have HCF := Lib.hid hcf
  have HF := Lib.hid hF
  have HBM := Lib.hid hbdM
  have HBT := Lib.hid hbdT
  have HEM := Lib.hid em
  have HET := Lib.hid et
  have hc0 : Cell2 (w.alloc (.cells #[.int .i64 0, .int .i64 0] 51)) w.heap.size (.int .i64 0) (.int .i64 0) := Cell2.new w w.heap.size rfl _ _ 51
  have hb0 : Below w.heap.size w (w.alloc (.cells #[.int .i64 0, .int .i64 0] 51)) := (Below.refl _ _).alloc (Nat.le_refl _) _
  have g11 := (hb0.cell (p := ⟨B1, 0, none⟩) h11).trans h12
  have g21 := (hb0.cell (p := ⟨B2, 0, none⟩) h21).trans h22
  have hz : (w.alloc (.cells #[.int .i64 0, .int .i64 0] 51)).heap.size = w.heap.size + 1 := by simp
  have HR := Lib.hid (hr.below (Nat.le_refl _) hb0)
  have HR2 := Lib.hid (hr2.below (Nat.le_refl _) hb0)
  clear hok hb hwo hT hF hbdM hbdT hcf hM2 hT2 em et hra h12 h22 hr hr2
  go_enter Try.func28, Try.ntmps28
  go_upto_region 1 with fail
  generalize (w.alloc (.cells #[.int .i64 0, .int .i64 0] 51)) = W0 at *
  have HC0 := Lib.hid hc0
  have HB0 := Lib.hid hb0
  clear hc0 hb0
  go_wp2
  go_loopw [5, 6, 7] (fun s s2 i wr => ∃ k : Nat, lv ≤ k ∧ k ≤ l.length ∧ i = .int .i64 k ∧ s = .int .i64 (psum (fun i => ws.getD i 0 * (l.getD i zs).at_) lv k) ∧ s2 = .int .i64 (psum (fun i => ws.getD i 0) lv k) ∧ Below W0.heap.size W0 wr) (fun _ _ i _ => l.length - (intOf i).toNat)
  case atStart => exact ⟨lv, Nat.le_refl _, by omega, rfl, by rw [psum_self], by rw [psum_self], Below.refl _ _⟩
  case round =>
    obtain ⟨k, hlk, hk, rfl, rfl, rfl, hbel⟩ := hrel
    have g21 := (hbel.cell (p := ⟨B2, 0, none⟩) (by show B2 < _; omega)).trans g21
    by_cases hlt : k < l.length
    · obtain ⟨b, off, rfl, hb, h1, h2, h3, h4⟩ := rowS_at HR.out hlt (Nat.le_refl _) hbel
      obtain ⟨b2, off2, rfl, hb2, h5⟩ := rowI_at HR2.out (k := k) (by omega) (Nat.le_refl _) hbel
      have hs := psum_succ (fun i => ws.getD i 0 * (l.getD i zs).at_) lv k hlk
      have hs2 := psum_succ (fun i => ws.getD i 0) lv k hlk
      have hb0 := HBM.out k hlk (by omega)
      have hb1 := HBM.out (k + 1) (by omega) (by omega)
      have hc0 := HBT.out k hlk (by omega)
      have hc1 := HBT.out (k + 1) (by omega) (by omega)
      have hf := HF.out k hlt
      rw [hs] at hb1
      rw [hs2] at hc1
      generalize (l.getD k zs) = g at h1 h2 h3 h4 hs hb1 hf
      generalize ws.getD k 0 = x at h5 hs hs2 hb1 hc1 hf
      generalize psum (fun i => ws.getD i 0 * (l.getD i zs).at_) lv k = P at *
      generalize psum (fun i => ws.getD i 0) lv k = Q at *
      have w1 : wrap64 (x * g.at_) = x * g.at_ := IntWalk.wrap64_in _ ⟨by omega, by omega⟩
      have w2 : wrap64 (P + x * g.at_) = P + x * g.at_ := IntWalk.wrap64_in _ ⟨by omega, by omega⟩
      have w3 : wrap64 (Q + x) = Q + x := IntWalk.wrap64_in _ ⟨by omega, by omega⟩
      have HS := Lib.hid hs
      have HS2 := Lib.hid hs2
      clear hs hs2 hb0 hb1 hc0 hc1 hf
      have hkw : (k : Int) < (ws.length : Int) := by omega
      go_upto_region 5 with fail
      go_region
      all_goals go_wp2
      all_goals exact ⟨⟨k + 1, by omega, hlt, by go_num, by rw [HS.out, w2], by rw [HS2.out, w3], hbel.drew⟩, by simp [intOf]; omega⟩
    · obtain rfl : k = l.length := by omega
      rw [HEM.out, HET.out]
      have HCC := Lib.hid (HC0.out.below (N := W0.heap.size) (by omega) hbel)
      have HBB := Lib.hid (HB0.out.on hbel)
      have hcf := HCF.out
      unfold lowN lowD at hcf
      have HCF2 := Lib.hid hcf
      clear hbel hcf
      generalize mS l ws lv = M at *
      generalize tS l ws lv = T at *
      unfold frV at HRA
      go_wp2_with (go_at_call 29; refine (HRA.out _).mono ?_; rintro e w2 ⟨rfl, hb2⟩; have HC2 := Lib.hid (HCC.out.below (N := wr.heap.size) HCC.out.1 hb2); have HB2 := Lib.hid (HBB.out.on hb2); clear hb2; obtain ⟨y0, y1, y2, y3, y4⟩ := HC2.out)
      obtain ⟨k0, k1, k2, _, _⟩ := HC2.out.set (.int .i64 (M.tdiv (Int.gcd M T))) (.int .i64 (T.tdiv (Int.gcd M T)))
      have hbn : Below w.heap.size w ((w2.setCell ⟨w.heap.size, 0, none⟩ (.int .i64 (M.tdiv (Int.gcd M T)))).setCell ⟨w.heap.size, 1, none⟩ (.int .i64 (T.tdiv (Int.gcd M T)))) :=
        (HB2.out.setCell (p := ⟨w.heap.size, 0, none⟩) (Nat.le_refl _) _).setCell (p := ⟨w.heap.size, 1, none⟩) (Nat.le_refl _) _
      generalize ((w2.setCell ⟨w.heap.size, 0, none⟩ (.int .i64 (M.tdiv (Int.gcd M T)))).setCell ⟨w.heap.size, 1, none⟩ (.int .i64 (T.tdiv (Int.gcd M T)))) = W at *
      refine bodyPost_ret (by simp [results, Try.results28, go_sem, k1, k2]; try rfl) rfl ?_
      exact ⟨by rw [HCF2.out]; rfl, hbn⟩
end Go.Proofs.Ytffblmhaoekkgaa.prp
