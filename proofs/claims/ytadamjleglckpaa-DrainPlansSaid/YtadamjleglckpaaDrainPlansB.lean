/- DrainPlans: the law's body. -/
import Derived.Test.YtadamjleglckpaaQa5
import Derived.Test.YtadamjleglckpaaQa6
import Derived.Test.YtadamjleglckpaaKw

namespace Go.Proofs.Ytadamjleglckpaa.drn
open Go.RowKit
set_option linter.unusedSimpArgs false
set_option linter.unusedVariables false
open Go.Proofs.Ytadamjleglckpaa.ev (works_any)
theorem way_short (n : Nat) (cs : List Ch) (l : List Int) (g : Int) : (wayOf n cs l g).1.length ≤ 1000000 := by
  unfold wayOf
  by_cases h0 : validOf n cs l = 0
  · rw [if_neg (fun h => h h0)]
    obtain ⟨m, hm, hchs, _⟩ := valid_plan (n := (n : Int)) (by rw [Int.toNat_natCast]; exact h0)
    have h6 := hchs.n6
    have := wayF_len' n (chosenS cs l) n g
    split
    · simp
    · show (wayF n (chosenS cs l) n g).length ≤ 1000000
      omega
  · rw [if_pos h0]; simp
set_option maxRecDepth 100000 in
set_option maxHeartbeats 4000000 in
theorem DrainPlans_any (n : Int) (q : Option Addr) (cap : Nat) (cs : List Ch) (q2 : Option Addr) (c2 : Nat) (l : List Int) (g : Int) (w : World) (hr : RowV w q (flatT cs)) (hcap : cs.length ≤ cap) (hr2 : RowV w q2 (flatI l)) (hc2 : l.length ≤ c2) :
    Calls Try.prog 3 #[.agg #[.int .i64 n, .slice q cs.length cap], .slice q2 l.length c2, .int .i64 g] w fun e w' => e = .returned (.bool true) ∧ Below w.heap.size w w' := by
  have hb0 : Below w.heap.size w (w.alloc (.cells #[.int .i64 n, .slice q cs.length cap] 24)) := (Below.refl _ _).alloc (Nat.le_refl _) _
  obtain ⟨lg, hlg⟩ : ∃ lg, (decide (40 < cs.length) || decide (40 < l.length)) = lg := ⟨_, rfl⟩
  have hla := fun W => large_any n q q2 cs.length cap l.length c2 W
  unfold hillV at hla
  rw [hlg] at hla
  have HLA := Lib.hid hla
  cases lg with
  | true =>
    have HBB := Lib.hid hb0
    clear hla hlg hr hr2 hcap hc2 hb0
    go_enter Try.func3, Try.ntmps3
    go_wp2_with (first
      | (go_at_call 5; refine (HLA.out _).mono ?_; rintro e w1 ⟨rfl, hb1⟩)
      | (go_at_call 6; refine (works_any _).mono ?_; rintro e w2 ⟨rfl, hb2⟩))
    go_ret
    exact ⟨rfl, (HBB.out.on hb1).on hb2⟩
  | false =>
    have hl40 : l.length ≤ 40 := by simp at hlg; omega
    have hcc := fun W (hb : Below w.heap.size w W) => Cost_any n q cap cs q2 c2 l W (hr.below (Nat.le_refl _) hb) hcap (hr2.below (Nat.le_refl _) hb) (by omega)
    have hrc := fun W (hb : Below w.heap.size w W) => rCost_any n q cap cs q2 c2 l W (hr.below (Nat.le_refl _) hb) (hr2.below (Nat.le_refl _) hb) (by omega) hc2
    have hcw := fun W (hb : Below w.heap.size w W) => Way_any n q cap cs q2 c2 l g W (hr.below (Nat.le_refl _) hb) hcap (hr2.below (Nat.le_refl _) hb) (by omega)
    have hrw := fun W (hb : Below w.heap.size w W) => rWay_any n q cap cs q2 c2 l g W (hr.below (Nat.le_refl _) hb) (hr2.below (Nat.le_refl _) hb) (by omega) hc2
    have hcv := fun W (hb : Below w.heap.size w W) => Valid_any n q cap cs q2 c2 l W (hr.below (Nat.le_refl _) hb) hcap (hr2.below (Nat.le_refl _) hb) (by omega)
    have hrv := fun W (hb : Below w.heap.size w W) => rValid_any n q cap cs q2 c2 l W (hr.below (Nat.le_refl _) hb) (hr2.below (Nat.le_refl _) hb) (by omega) hc2
    have hsh := way_short n.toNat cs l g
    obtain ⟨⟨ck, ce⟩, hck⟩ : ∃ r, costR n.toNat cs l = r := ⟨_, rfl⟩
    obtain ⟨⟨wl, we⟩, hwl⟩ : ∃ r, wayOf n.toNat cs l g = r := ⟨_, rfl⟩
    obtain ⟨vv, hvv⟩ : ∃ r, validOf n.toNat cs l = r := ⟨_, rfl⟩
    unfold hillV at hcc hrc hcw hrw hcv hrv
    simp only [hck] at hcc hrc
    simp only [hwl] at hcw hrw hsh
    simp only [hvv] at hcv hrv
    have hsm := fun qa ca qb cb W (h1 : RowV W qa (flatI wl)) (h2 : RowV W qb (flatI wl)) => same_any qa qb ca cb wl wl W h1 h2 hsh hsh
    have hbe : (wl == wl) = true := by simp
    simp only [hbe] at hsm
    have HCC := Lib.hid hcc
    have HRC := Lib.hid hrc
    have HCW := Lib.hid hcw
    have HRW := Lib.hid hrw
    have HCV := Lib.hid hcv
    have HRV := Lib.hid hrv
    have HSM := Lib.hid hsm
    have HBB := Lib.hid hb0
    clear hla hlg hr hr2 hcap hc2 hcc hrc hcw hrw hcv hrv hsm hbe hck hwl hvv hsh
    go_enter Try.func3, Try.ntmps3
    go_upto_region 1 with fail
    obtain ⟨B, hB⟩ : ∃ B, w.heap.size = B := ⟨_, rfl⟩
    have hc0 : (w.alloc (.cells #[.int .i64 n, .slice q cs.length cap] 24)).cell? ⟨B, 0, none⟩ = some (.int .i64 n) ∧ (w.alloc (.cells #[.int .i64 n, .slice q cs.length cap] 24)).cell? ⟨B, 1, none⟩ = some (.slice q cs.length cap) := by rw [← hB]; simp
    obtain ⟨c0, c1⟩ := hc0
    rw [hB]
    generalize (w.alloc (.cells #[.int .i64 n, .slice q cs.length cap] 24)) = W0 at *
    clear hB hb0
    go_upto_region 3 with (go_at_call 5; refine (HLA.out _).mono ?_; rintro e w1 ⟨rfl, hb1⟩)
    have d0 := (hb1.cell (p := ⟨B, 0, none⟩) (cell_lt' c0)).trans c0
    have d1 := (hb1.cell (p := ⟨B, 1, none⟩) (cell_lt' c1)).trans c1
    have HB1 := Lib.hid (HBB.out.on hb1)
    clear hb1 c0 c1
    go_upto_region 4 with fail
    obtain ⟨B1, hB1⟩ : ∃ B1, w1.heap.size = B1 := ⟨_, rfl⟩
    have hb2 : Below w1.heap.size w1 (w1.alloc (.cells #[.int .i64 n, .slice q cs.length cap] 28)) := (Below.refl _ _).alloc (Nat.le_refl _) _
    have hc2' : (w1.alloc (.cells #[.int .i64 n, .slice q cs.length cap] 28)).cell? ⟨B1, 0, none⟩ = some (.int .i64 n) ∧ (w1.alloc (.cells #[.int .i64 n, .slice q cs.length cap] 28)).cell? ⟨B1, 1, none⟩ = some (.slice q cs.length cap) := by rw [← hB1]; simp
    obtain ⟨x0, x1⟩ := hc2'
    have y0 := (hb2.cell (p := ⟨B, 0, none⟩) (cell_lt' d0)).trans d0
    have y1 := (hb2.cell (p := ⟨B, 1, none⟩) (cell_lt' d1)).trans d1
    have HB2 := Lib.hid (HB1.out.on hb2)
    rw [hB1]
    generalize (w1.alloc (.cells #[.int .i64 n, .slice q cs.length cap] 28)) = W2 at *
    clear hB1 hb2 d0 d1 HB1 HBB
    go_upto_region 5 with (go_at_call 7; refine (HCC.out _ HB2.out).mono ?_; rintro e w3 ⟨rfl, hb3⟩)
    have a0 := (hb3.cell (p := ⟨B, 0, none⟩) (cell_lt' y0)).trans y0
    have a1 := (hb3.cell (p := ⟨B, 1, none⟩) (cell_lt' y1)).trans y1
    have a2 := (hb3.cell (p := ⟨B1, 0, none⟩) (cell_lt' x0)).trans x0
    have a3 := (hb3.cell (p := ⟨B1, 1, none⟩) (cell_lt' x1)).trans x1
    have HB3 := Lib.hid (HB2.out.on hb3)
    clear hb3 x0 x1 y0 y1 HB2
    go_upto_region 6 with (go_at_call 8; refine (HRC.out _ HB3.out).mono ?_; rintro e w4 ⟨rfl, hb4⟩)
    have b0 := (hb4.cell (p := ⟨B, 0, none⟩) (cell_lt' a0)).trans a0
    have b1 := (hb4.cell (p := ⟨B, 1, none⟩) (cell_lt' a1)).trans a1
    have b2 := (hb4.cell (p := ⟨B1, 0, none⟩) (cell_lt' a2)).trans a2
    have b3 := (hb4.cell (p := ⟨B1, 1, none⟩) (cell_lt' a3)).trans a3
    have HB4 := Lib.hid (HB3.out.on hb4)
    clear hb4 a0 a1 a2 a3 HB3
    go_upto_region 7 with (go_at_call 9; refine (HCW.out _ HB4.out).mono ?_; rintro e w5 ⟨qa, ca, rfl, ra, _, _, hb5⟩)
    have a0 := (hb5.cell (p := ⟨B, 0, none⟩) (cell_lt' b0)).trans b0
    have a1 := (hb5.cell (p := ⟨B, 1, none⟩) (cell_lt' b1)).trans b1
    have a2 := (hb5.cell (p := ⟨B1, 0, none⟩) (cell_lt' b2)).trans b2
    have a3 := (hb5.cell (p := ⟨B1, 1, none⟩) (cell_lt' b3)).trans b3
    have HB5 := Lib.hid (HB4.out.on hb5)
    have RA := Lib.hid ra
    clear hb5 b0 b1 b2 b3 HB4 ra
    go_upto_region 8 with (go_at_call 10; refine (HRW.out _ HB5.out).mono ?_; rintro e w6 ⟨qb, cb, rfl, rb, _, _, hb6⟩)
    have k0 := (hb6.cell (p := ⟨B, 0, none⟩) (cell_lt' a0)).trans a0
    have k1 := (hb6.cell (p := ⟨B, 1, none⟩) (cell_lt' a1)).trans a1
    have k2 := (hb6.cell (p := ⟨B1, 0, none⟩) (cell_lt' a2)).trans a2
    have k3 := (hb6.cell (p := ⟨B1, 1, none⟩) (cell_lt' a3)).trans a3
    have HB6 := Lib.hid (HB5.out.on hb6)
    have RA6 := Lib.hid (RA.out.below (Nat.le_refl _) hb6)
    have RB6 := Lib.hid rb
    clear hb6 a0 a1 a2 a3 HB5 RA rb
    have HSM6 := Lib.hid (fun W (hb : Below w6.heap.size w6 W) => HSM.out qa ca qb cb W (RA6.out.below (Nat.le_refl _) hb) (RB6.out.below (Nat.le_refl _) hb))
    have HCV6 := Lib.hid (fun W (hb : Below w6.heap.size w6 W) => HCV.out W (HB6.out.on hb))
    have HRV6 := Lib.hid (fun W (hb : Below w6.heap.size w6 W) => HRV.out W (HB6.out.on hb))
    have z0 : B < w6.heap.size := cell_lt' k0
    have z1 : B1 < w6.heap.size := cell_lt' k2
    clear HCC HRC HCW HRW HCV HRV HSM RA6 RB6
    go_region_held3 (fun W => W.cell? ⟨B, 0, none⟩ = some (.int .i64 n) ∧ W.cell? ⟨B, 1, none⟩ = some (.slice q cs.length cap) ∧ W.cell? ⟨B1, 0, none⟩ = some (.int .i64 n) ∧ W.cell? ⟨B1, 1, none⟩ = some (.slice q cs.length cap))
      (first | exact ⟨k0, k1, k2, k3⟩ | exact ⟨s0, s1, s2, s3⟩ | exact ⟨v0, v1, v2, v3⟩ | exact ⟨r0, r1, r2, r3⟩ | exact ⟨u0, u1, u2, u3⟩ | go_keep)
      (first
        | (go_at_call 11; refine (HSM6.out _ (Below.refl _ _).drew).mono ?_; rintro e wS ⟨rfl, hbS'⟩; have hbS : Below w6.heap.size w6 wS := ((Below.refl _ _).drew).on hbS'; have s0 := (hbS.cell (p := ⟨B, 0, none⟩) z0).trans k0; have s1 := (hbS.cell (p := ⟨B, 1, none⟩) z0).trans k1; have s2 := (hbS.cell (p := ⟨B1, 0, none⟩) z1).trans k2; have s3 := (hbS.cell (p := ⟨B1, 1, none⟩) z1).trans k3)
        | (go_at_call 12; refine (HCV6.out _ (by first | exact hbS | exact hbR)).mono ?_; rintro e wV ⟨rfl, hbV'⟩; have hbV : Below w6.heap.size w6 wV := (by first | exact hbS.on hbV' | exact hbR.on hbV'); have v0 := (hbV.cell (p := ⟨B, 0, none⟩) z0).trans k0; have v1 := (hbV.cell (p := ⟨B, 1, none⟩) z0).trans k1; have v2 := (hbV.cell (p := ⟨B1, 0, none⟩) z1).trans k2; have v3 := (hbV.cell (p := ⟨B1, 1, none⟩) z1).trans k3)
        | (go_at_call 13; refine (HRV6.out _ (by first | exact hbS | exact hbV)).mono ?_; rintro e wR ⟨rfl, hbR'⟩; have hbR : Below w6.heap.size w6 wR := (by first | exact hbS.on hbR' | exact hbV.on hbR'); have r0 := (hbR.cell (p := ⟨B, 0, none⟩) z0).trans k0; have r1 := (hbR.cell (p := ⟨B, 1, none⟩) z0).trans k1; have r2 := (hbR.cell (p := ⟨B1, 0, none⟩) z1).trans k2; have r3 := (hbR.cell (p := ⟨B1, 1, none⟩) z1).trans k3)
        | (go_at_call 6; refine (works_any _).mono ?_; rintro e wU ⟨rfl, hbU'⟩; have hbU : Below w6.heap.size w6 wU := (by first | exact hbV.on hbU' | exact hbR.on hbU'); have u0 := (hbU.cell (p := ⟨B, 0, none⟩) z0).trans k0; have u1 := (hbU.cell (p := ⟨B, 1, none⟩) z0).trans k1; have u2 := (hbU.cell (p := ⟨B1, 0, none⟩) z1).trans k2; have u3 := (hbU.cell (p := ⟨B1, 1, none⟩) z1).trans k3)
        | fail)
    all_goals (
      go_wp2
      go_ret
      exact ⟨rfl, HB6.out.on hbU⟩)
end Go.Proofs.Ytadamjleglckpaa.drn

