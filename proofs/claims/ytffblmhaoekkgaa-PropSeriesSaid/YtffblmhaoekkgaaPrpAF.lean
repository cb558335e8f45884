/- PropScaled: the pile, owned; two lists of numbers compared; the three piles. -/
import Derived.Test.YtffblmhaoekkgaaPrpAE
import Derived.Deep.CutRange
namespace Go.Proofs.Ytffblmhaoekkgaa.prp
open Go.RowKit
set_option linter.unusedSimpArgs false
set_option linter.unusedVariables false

set_option maxRecDepth 100000 in
set_option maxHeartbeats 4000000 in
theorem made_own (xs : List Int) (n : Nat) (w : World) (hxl : xs.length = 21) (hxo : ∀ x ∈ xs, 0 ≤ x ∧ x ≤ 255) (hn : (n : Int) = 1 + xs.getD 0 0 % 5) :
    Calls Try.prog 12 #[.agg (flatU xs).toArray, .int .i64 5] w fun e w' => ∃ g cap, e = .returned (.slice (some ⟨g, 0, none⟩) n cap) ∧ OwnS w' w.heap.size g cap (madeTo xs n) ∧ Below w.heap.size w w' := by
  have HXO := Lib.hid hxo
  have HBX := Lib.hid (fun k hk => boxH w xs k hk)
  have hb0 : Below w.heap.size w (w.alloc (.cells (flatU xs).toArray 25)) := (Below.refl _ _).alloc (Nat.le_refl _) _
  have hs0 : (w.alloc (.cells (flatU xs).toArray 25)).heap.size = w.heap.size + 1 := by simp
  have hx0 := hxo _ (getD_mem xs 0 0 (by omega))
  have c0 := boxH w xs 0 (by omega)
  generalize xs.getD 0 0 = x0 at hx0 c0 hn
  have e1 : 1 + x0 % 5 = (n : Int) := hn.symm
  have n5 : n ≤ 5 := by omega
  have n1 : 1 ≤ n := by omega
  have n5i : (n : Int) ≤ 5 := by omega
  have n0i : (0 : Int) ≤ (n : Int) := by omega
  clear hn
  clear hxo
  go_enter Try.func12, Try.ntmps12
  go_wp2
  generalize (w.alloc (.cells (flatU xs).toArray 25)) = W0 at *
  clear c0 e1 hx0
  go_loopw [5, 6, 19] (fun v ed i wr => ∃ k : Nat, k ≤ n ∧ i = .int .i64 k ∧ ed = .int .i64 (edgeTo xs k) ∧ wr.ownsRow (w.heap.size + 1) 44 4 v k (flatS (madeTo xs k)) ∧ Below (w.heap.size + 1) W0 wr) (fun _ _ i _ => n - (intOf i).toNat)
  case atStart => exact ⟨0, Nat.zero_le _, rfl, rfl, World.ownsRow_nil _ _ _ _, Below.refl _ _⟩
  case round =>
    obtain ⟨k, hk, rfl, rfl, hown, hbel⟩ := hrel
    have hbw : Below w.heap.size w wr := hb0.trans (hbel.mono (by omega))
    by_cases hlt : k < n
    · have hcell : ∀ j, j < 21 → wr.cell? ⟨w.heap.size, j, none⟩ = some (.int .u8 (xs.getD j 0)) := fun j hj => (hbel.cell (p := ⟨w.heap.size, j, none⟩) (by simp)).trans (HBX.out j (by omega))
      have y0 := HXO.out _ (getD_mem xs (1 + k * 4) 0 (by omega))
      have y1 := HXO.out _ (getD_mem xs (1 + k * 4 + 1) 0 (by omega))
      have y2 := HXO.out _ (getD_mem xs (1 + k * 4 + 2) 0 (by omega))
      have y3 := HXO.out _ (getD_mem xs (1 + k * 4 + 3) 0 (by omega))
      have k0 := hcell (1 + k * 4) (by omega)
      have k1 := hcell (1 + k * 4 + 1) (by omega)
      have k2 := hcell (1 + k * 4 + 2) (by omega)
      have k3 := hcell (1 + k * 4 + 3) (by omega)
      have he := edgeTo_bd xs HXO.out hxl k (by omega)
      have hst := madeTo_succ xs k
      have hed : edgeTo xs (k + 1) = edgeTo xs k + 1 - xs.getD (1 + k * 4 + 1) 0 % 15 + (1 + xs.getD (1 + k * 4) 0 % 12) := rfl
      have hsn : stoneAt xs k = made1 (edgeTo xs k) (xs.getD (1 + k * 4) 0) (xs.getD (1 + k * 4 + 1) 0) (xs.getD (1 + k * 4 + 2) 0) (xs.getD (1 + k * 4 + 3) 0) := rfl
      rw [hsn] at hst
      clear hcell hsn
      generalize xs.getD (1 + k * 4) 0 = x0 at y0 k0 hst hed
      generalize xs.getD (1 + k * 4 + 1) 0 = x1 at y1 k1 hst hed
      generalize xs.getD (1 + k * 4 + 2) 0 = x2 at y2 k2 hst hed
      generalize xs.getD (1 + k * 4 + 3) 0 = x3 at y3 k3 hst hed
      generalize hE : edgeTo xs k = ed at he hst hed
      have hsz := hbel.size
      have hwz : w.heap.size < wr.heap.size := by omega
      have HS := Lib.hid hst
      have HED := Lib.hid hed
      have HO := Lib.hid hown
      have HBW := Lib.hid hbw
      have HBE := Lib.hid hbel
      clear hst hown hed hE
      have m0 : 0 ≤ x2 % 9 ∧ x2 % 9 ≤ 8 := by omega
      have hvd : (0 : Int) < 10 - (1 + x2 % 9) := by omega
      have htm : 0 ≤ x3 % (10 - (1 + x2 % 9)) ∧ x3 % (10 - (1 + x2 % 9)) < 10 - (1 + x2 % 9) := ⟨Int.emod_nonneg _ (by omega), Int.emod_lt_of_pos _ hvd⟩
      have hvn : 10 - (1 + x2 % 9) ≠ 0 := by omega
      have v1 : IntKind.i64.wrap (10 - (1 + x2 % 9)) = 10 - (1 + x2 % 9) := IntWalk.i64_in _ ⟨by omega, by omega⟩
      have v3 : wrap64 (1 + x2 % 9 + x3 % (10 - (1 + x2 % 9))) = 1 + x2 % 9 + x3 % (10 - (1 + x2 % 9)) := IntWalk.wrap64_in _ ⟨by omega, by omega⟩
      have V3 := Lib.hid v3
      clear v3
      go_upto_region 7 with fail
      go_region
      have A0 : Below wr.heap.size wr ((wr.alloc (.cells #[.int .u8 x0, .int .u8 x1, .int .u8 x2, .int .u8 x3] 22)).alloc (.cells #[.int .i64 (1 + x0 % 12), .int .i64 (ed + 1 - x1 % 15), .int .i64 (1 + x2 % 9), .int .i64 (1 + x2 % 9 + x3 % (10 - (1 + x2 % 9)))] 44)).drew := (((Below.refl _ _).alloc (Nat.le_refl _) _).alloc (by simp) _).drew
      have hdr : ∀ p, ((wr.alloc (.cells #[.int .u8 x0, .int .u8 x1, .int .u8 x2, .int .u8 x3] 22)).alloc (.cells #[.int .i64 (1 + x0 % 12), .int .i64 (ed + 1 - x1 % 15), .int .i64 (1 + x2 % 9), .int .i64 (1 + x2 % 9 + x3 % (10 - (1 + x2 % 9)))] 44)).drew.cell? p = ((wr.alloc (.cells #[.int .u8 x0, .int .u8 x1, .int .u8 x2, .int .u8 x3] 22)).alloc (.cells #[.int .i64 (1 + x0 % 12), .int .i64 (ed + 1 - x1 % 15), .int .i64 (1 + x2 % 9), .int .i64 (1 + x2 % 9 + x3 % (10 - (1 + x2 % 9)))] 44)).cell? p := fun p => rfl
      have f0 : ((wr.alloc (.cells #[.int .u8 x0, .int .u8 x1, .int .u8 x2, .int .u8 x3] 22)).alloc (.cells #[.int .i64 (1 + x0 % 12), .int .i64 (ed + 1 - x1 % 15), .int .i64 (1 + x2 % 9), .int .i64 (1 + x2 % 9 + x3 % (10 - (1 + x2 % 9)))] 44)).drew.cell? ⟨wr.heap.size + 1, 0, none⟩ = some (.int .i64 (1 + x0 % 12)) := by rw [hdr]; simp
      have f1 : ((wr.alloc (.cells #[.int .u8 x0, .int .u8 x1, .int .u8 x2, .int .u8 x3] 22)).alloc (.cells #[.int .i64 (1 + x0 % 12), .int .i64 (ed + 1 - x1 % 15), .int .i64 (1 + x2 % 9), .int .i64 (1 + x2 % 9 + x3 % (10 - (1 + x2 % 9)))] 44)).drew.cell? ⟨wr.heap.size + 1, 1, none⟩ = some (.int .i64 (ed + 1 - x1 % 15)) := by rw [hdr]; simp
      have f2 : ((wr.alloc (.cells #[.int .u8 x0, .int .u8 x1, .int .u8 x2, .int .u8 x3] 22)).alloc (.cells #[.int .i64 (1 + x0 % 12), .int .i64 (ed + 1 - x1 % 15), .int .i64 (1 + x2 % 9), .int .i64 (1 + x2 % 9 + x3 % (10 - (1 + x2 % 9)))] 44)).drew.cell? ⟨wr.heap.size + 1, 2, none⟩ = some (.int .i64 (1 + x2 % 9)) := by rw [hdr]; simp
      have f3 : ((wr.alloc (.cells #[.int .u8 x0, .int .u8 x1, .int .u8 x2, .int .u8 x3] 22)).alloc (.cells #[.int .i64 (1 + x0 % 12), .int .i64 (ed + 1 - x1 % 15), .int .i64 (1 + x2 % 9), .int .i64 (1 + x2 % 9 + x3 % (10 - (1 + x2 % 9)))] 44)).drew.cell? ⟨wr.heap.size + 1, 3, none⟩ = some (.int .i64 (1 + x2 % 9 + x3 % (10 - (1 + x2 % 9)))) := by rw [hdr]; simp
      have hz1 : ((wr.alloc (.cells #[.int .u8 x0, .int .u8 x1, .int .u8 x2, .int .u8 x3] 22)).alloc (.cells #[.int .i64 (1 + x0 % 12), .int .i64 (ed + 1 - x1 % 15), .int .i64 (1 + x2 % 9), .int .i64 (1 + x2 % 9 + x3 % (10 - (1 + x2 % 9)))] 44)).drew.heap.size = wr.heap.size + 2 := by simp
      clear hdr k0 k1 k2 k3
      generalize ((wr.alloc (.cells #[.int .u8 x0, .int .u8 x1, .int .u8 x2, .int .u8 x3] 22)).alloc (.cells #[.int .i64 (1 + x0 % 12), .int .i64 (ed + 1 - x1 % 15), .int .i64 (1 + x2 % 9), .int .i64 (1 + x2 % 9 + x3 % (10 - (1 + x2 % 9)))] 44)).drew = W1 at *
      have HO1 := Lib.hid (owns_below HO.out (Nat.le_refl _) A0)
      have HA0 := Lib.hid A0
      have hzw : wr.heap.size + 1 < W1.heap.size := by omega
      have hzb : w.heap.size + 1 ≤ W1.heap.size := by omega
      have HZ1 := Lib.hid hz1
      clear A0 hz1
      generalize hM : 1 + x2 % 9 + x3 % (10 - (1 + x2 % 9)) = mo at *
      generalize hL : 1 + x2 % 9 = lo at *
      have hvb : some (wr.heap.size + 1) ≠ u5.ownBlock := fun e => by have := (HO.out.lt _ e.symm).2; omega
      go_wp2_with (at_builtin; refine app_one _ rfl (.tmp 52) (.tmp 54) 27 rfl (w.heap.size + 1) 44 _ 4 32 Try.underlying27 infoS rfl (by decide) (by decide) u5 k (flatS (madeTo xs k)) rfl (HO1.out.alloc _) W1.heap.size 1 rfl [.int .i64 (1 + x0 % 12), .int .i64 (ed + 1 - x1 % 15), .int .i64 lo, .int .i64 mo] rfl ?_ ?_ (by omega) (by simp; omega) ?_; (focus (intro j u hj; match j, hj with | 0, hj => (simp at hj; subst hj; simp) | 1, hj => (simp at hj; subst hj; simp) | 2, hj => (simp at hj; subst hj; simp) | 3, hj => (simp at hj; subst hj; simp))); (focus (intro u hu; simp at hu; rcases hu with rfl | rfl | rfl | rfl <;> rfl)); intro v' w3 hown3 hgrow hblk; have B0 : Below W1.heap.size W1 (W1.alloc (.cells #[.int .i64 (1 + x0 % 12), .int .i64 (ed + 1 - x1 % 15), .int .i64 lo, .int .i64 mo] 44)) := (Below.refl _ _).alloc (Nat.le_refl _) _; have l0 := (hgrow.cell_far ⟨wr.heap.size + 1, 0, none⟩ (Nat.lt_of_lt_of_le hzw B0.size) hvb).trans ((B0.cell (p := ⟨wr.heap.size + 1, 0, none⟩) hzw).trans f0); have l1 := (hgrow.cell_far ⟨wr.heap.size + 1, 1, none⟩ (Nat.lt_of_lt_of_le hzw B0.size) hvb).trans ((B0.cell (p := ⟨wr.heap.size + 1, 1, none⟩) hzw).trans f1))
      have hrow : w3.ownsRow (w.heap.size + 1) 44 4 v' (k + 1) (flatS (madeTo xs (k + 1))) := by
        have e : made1 ed x0 x1 x2 x3 = ⟨1 + x0 % 12, ed + 1 - x1 % 15, lo, mo⟩ := by simp only [made1, hL, hM]
        rw [HS.out, e, flatS_snoc]
        exact hown3
      have hgb : Below (w.heap.size + 1) W1 w3 := grown_al HO1.out hzb hgrow
      have hbn : Below (w.heap.size + 1) W0 w3 := (HBE.out.trans (HA0.out.mono (by omega))).trans hgb
      exact ⟨⟨k + 1, hlt, by go_num, by rw [HED.out], hrow, hbn⟩, by simp [intOf]; omega⟩
    · obtain rfl : k = n := by omega
      have hlen := madeTo_length xs k
      obtain ⟨g, cap, rfl⟩ : ∃ g cap, u5 = .slice (some ⟨g, 0, none⟩) k cap := by
        obtain ⟨_, ⟨_, e⟩ | ⟨g, cap, cur, e, _⟩⟩ := hown
        · omega
        · exact ⟨g, cap, e⟩
      have hO : OwnS wr w.heap.size g cap (madeTo xs k) := by
        obtain ⟨h1, ⟨e, _⟩ | ⟨g', cap', cur, e, hg, r⟩⟩ := hown
        · cases e
        · unfold OwnS
          rw [hlen]
          exact ⟨h1, .inr ⟨g', cap', cur, e, by omega, r⟩⟩
      have HO9 := Lib.hid hO
      have HBW := Lib.hid hbw
      clear hown hlen hO hbw
      go_wp2
      go_ret
      exact ⟨g, cap, rfl, HO9.out, HBW.out⟩
set_option maxRecDepth 100000 in
set_option maxHeartbeats 4000000 in
/-- two lists of the same numbers -/
theorem same_any (q q2 : Option Addr) (c c2 : Nat) (xs : List Int) (w : World) (hr : RowV w q (flatI xs)) (hr2 : RowV w q2 (flatI xs)) (hl : xs.length ≤ 1000) :
    Calls Try.prog 47 #[.slice q xs.length c, .slice q2 xs.length c2] w fun e w' => e = .returned (.bool true) ∧ Below w.heap.size w w' := by
  go_enter Try.func47, Try.ntmps47
  go_wp2
  go_loopw [5] (fun i wr => ∃ k : Nat, k ≤ xs.length ∧ i = .int .i64 k ∧ Below w.heap.size w wr) (fun i _ => xs.length - (intOf i).toNat)
  case atStart => exact ⟨0, Nat.zero_le _, rfl, Below.refl _ _⟩
  case round =>
    obtain ⟨k, hk, rfl, hbel⟩ := hrel
    by_cases hlt : k < xs.length
    · obtain ⟨b, off, rfl, hb, h1⟩ := rowI_at hr hlt (Nat.le_refl _) hbel
      obtain ⟨b', off', rfl, hb', g1⟩ := rowI_at hr2 hlt (Nat.le_refl _) hbel
      have hki : (k : Int) < (xs.length : Int) := by omega
      have hbd : Below w.heap.size w wr.drew := hbel.drew
      generalize xs.getD k 0 = s at *
      have d1 : wr.drew.cell? ⟨b, off + k, none⟩ = some (.int .i64 s) := h1
      have e1 : wr.drew.cell? ⟨b', off' + k, none⟩ = some (.int .i64 s) := g1
      go_upto_region 6 with fail
      go_region
      go_wp2
      go_roundw
      case rel => exact ⟨k + 1, hlt, by go_num, hbd⟩
      case measure => simp [intOf]; omega
    · obtain rfl : k = xs.length := by omega
      go_wp2
      go_ret
      exact ⟨rfl, hbel⟩
end Go.Proofs.Ytffblmhaoekkgaa.prp
