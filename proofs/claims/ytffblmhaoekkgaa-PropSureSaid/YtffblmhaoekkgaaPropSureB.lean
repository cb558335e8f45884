/- PropSure: the law's body. -/
import Derived.Test.YtffblmhaoekkgaaPrpU
import Derived.Test.YtffblmhaoekkgaaKW
import Derived.Deep.CutRange
import Derived.Deep.CutBlock
namespace Go.Proofs.Ytffblmhaoekkgaa.prp
open Go.RowKit
set_option linter.unusedSimpArgs false
set_option linter.unusedVariables false
open Go.Proofs.Ytffblmhaoekkgaa.ev (works_any)

set_option maxRecDepth 100000 in
set_option maxHeartbeats 8000000 in
theorem PropSure_any (xs ys : List Int) (hxl : xs.length = 21) (hxo : ∀ x ∈ xs, 0 ≤ x ∧ x ≤ 255) (hyl : ys.length = 5) (hyo : ∀ x ∈ ys, 0 ≤ x ∧ x ≤ 255) (w : World) :
    Calls Try.prog 3 #[.agg (flatU xs).toArray, .agg (flatU ys).toArray] w fun e w' => e = .returned (.bool true) ∧ Below w.heap.size w w' := by
  have hx0 := hxo _ (getD_mem xs 0 0 (by omega))
  obtain ⟨n, hn⟩ : ∃ n : Nat, (n : Int) = 1 + xs.getD 0 0 % 5 := ⟨(1 + xs.getD 0 0 % 5).toNat, by omega⟩
  have n1 : 1 ≤ n := by omega
  have n5 : n ≤ 5 := by omega
  have hE := made_err xs hxo hxl n n1 n5
  have CM := Lib.hid (fun W => made_any xs n W hxl hxo hn)
  have hlen := madeTo_length xs n
  generalize hl : madeTo xs n = l at *
  have hok := (errP_ok hE).2.2
  have HE := Lib.hid hE
  have HOK := Lib.hid hok
  have HYO := Lib.hid hyo
  subst hlen
  have hH := Hc.of (Here.start2 w xs ys 25 26)
  have HXL := Lib.hid hxl
  have HYL := Lib.hid hyl
  clear hl hE hok hyo hx0 hn hxo hxl hyl
  go_enter Try.func3, Try.ntmps3
  go_upto_region 1 with fail
  generalize ((w.alloc (.cells (flatU xs).toArray 25)).alloc (.cells (flatU ys).toArray 26)) = W0 at *
  have HH := Lib.hid hH
  clear hH
  go_upto_region 2 with (first
    | (refine wpList_loadH xs HXL.out _ (HH.out.b (B := w.heap.size) (by simp)) (.tmp 2) rfl rfl rfl ?_)
    | (go_at_call 12; refine (CM.out _).mono ?_; rintro e W1 ⟨q, c, rfl, hr, hq, hc, hb⟩))
  have HH1 := Lib.hid ((HH.out.go hb).add hr)
  have hqs : ∀ a, q = some a → a.block < W1.heap.size := fun a ha => (hq a ha).2
  have A0 : Below W1.heap.size W1 (W1.alloc (.cells #[.slice q l.length c] 27)) := (Below.refl _ _).alloc (Nat.le_refl _) _
  have HH2 := Lib.hid ((HH1.out.go A0).addC (SliceAt.new W1 (.slice q l.length c) 27))
  have hz2 : (W1.alloc (.cells #[.slice q l.length c] 27)).heap.size = W1.heap.size + 1 := by simp
  have HQS := Lib.hid hqs
  clear hr hb hq A0 HH CM
  generalize (W1.alloc (.cells #[.slice q l.length c] 27)) = W2 at *
  generalize hBP : W1.heap.size = BP at *
  have hlc := (HH2.out.c (B := BP) (v := .slice q l.length c) (by simp)).2
  have HW := Lib.hid (weak_any q c l W2 (HH2.out.r (by simp)) (fun a ha => by have := HQS.out a ha; omega) n5 HOK.out)
  go_upto_region 3 with (go_at_call 13; refine HW.out.mono ?_; rintro e W3 ⟨rfl, hb3⟩)
  have HH3 := Lib.hid (HH2.out.go hb3)
  have hsz3 := hb3.size
  clear hb3 hlc HW
  have hlc := (HH3.out.c (B := BP) (v := .slice q l.length c) (by simp)).2
  have hso := Stands_any q c l W3 (HH3.out.r (by simp)) (by omega)
  have hs1 : standsOf l = (decide (weakS l < 0), 0) := by unfold standsOf; rw [if_neg (by simpa using HE.out), stands_weak]
  rw [hs1] at hso
  obtain ⟨IS, hIS⟩ : ∃ b : Bool, decide (weakS l < 0) = b := ⟨_, rfl⟩
  rw [hIS] at hso
  have HIS := Lib.hid hIS
  clear hIS
  have HSO := Lib.hid hso
  clear hso hs1
  go_upto_region 4 with (go_at_call 14; refine HSO.out.mono ?_; rintro e W4 ⟨rfl, hb4⟩)
  have HH4 := Lib.hid (HH3.out.go hb4)
  clear hb4 hlc HSO
  have hlc := (HH4.out.c (B := BP) (v := .slice q l.length c) (by simp)).2
  have hto := Tips_any q c l W4 (HH4.out.r (by simp)) (by omega)
  obtain ⟨T1, hT1⟩ : ∃ x : Int, (tipsOf l).1 = x := ⟨_, rfl⟩
  obtain ⟨T2, hT2⟩ : ∃ x : Int, (tipsOf l).2 = x := ⟨_, rfl⟩
  rw [hT1, hT2] at hto
  rw [weak_tips HE.out] at hT1 hT2
  have HT1 := Lib.hid hT1
  have HT2 := Lib.hid hT2
  clear hT1 hT2
  have HTO := Lib.hid hto
  clear hto
  go_upto_region 5 with (go_at_call 15; refine HTO.out.mono ?_; rintro e W5 ⟨rfl, hb5⟩)
  have HH5 := Lib.hid (HH4.out.go hb5)
  clear hb5 hlc HTO
  have hlc := (HH5.out.c (B := BP) (v := .slice q l.length c) (by simp)).2
  have hck := Check_any q c l W5 (HH5.out.r (by simp)) (by omega)
  rw [HE.out] at hck
  have HCK := Lib.hid hck
  clear hck
  generalize hWK : weakS l = K at *
  have HWK := Lib.hid hWK
  clear hWK
  go_cut [7, 81] from 30 to 80 (fun _ v wx => v = .bool false ∧ Below W5.heap.size W5 wx)
  case first =>
    by_cases hK : K < 0
    · have hK2 : ¬ 0 ≤ K := by omega
      obtain rfl : IS = true := by rw [← HIS.out]; simp [hK]
      have f2 : (T2 != 13) = false := by rw [← HT2.out, if_pos hK]; simp
      have f3 : (T1 != 0) = false := by rw [← HT1.out, if_pos hK]; simp
      go_wp2_with (go_at_call 16; refine HCK.out.mono ?_; rintro e W6 ⟨rfl, hb6⟩)
      go_meet
      case rel => exact ⟨rfl, hb6⟩
    · have hK2 : 0 ≤ K := by omega
      obtain rfl : IS = false := by rw [← HIS.out]; simp [hK]
      have f2 : (T2 != 0) = false := by rw [← HT2.out, if_neg hK]; simp
      have f3 : (T1 != K) = false := by rw [← HT1.out, if_neg hK]; simp
      go_wp2_with (go_at_call 16; refine HCK.out.mono ?_; rintro e W6 ⟨rfl, hb6⟩)
      go_meet
      case rel => exact ⟨rfl, hb6⟩
  case rest =>
  obtain ⟨rfl, hb6⟩ := hcut
  have HH6 := Lib.hid (HH5.out.go hb6)
  have hsz6 := HH6.out.c (B := BP) (v := .slice q l.length c) (by simp)
  have hlc := hsz6.2
  have hBw := hsz6.1
  clear hb6 HCK hsz6 HH2 HH3 HH4 HH5 hsz3
  have HTR := Lib.hid (truth_any q c l ys wc (HH6.out.r (by simp)) n5 HOK.out HYL.out HYO.out)
  go_upto_region 8 with (first
    | (refine wpList_load5 ys HYL.out _ (HH6.out.b (B := w.heap.size + 1) (by simp)) (.tmp 3) rfl rfl rfl ?_)
    | (go_at_call 17; refine HTR.out.mono ?_; rintro e W7 ⟨qw, cw, rfl, hrw, hqw, hcw, hb7⟩))
  have hbnd := truth_bnd HOK.out ys HYO.out (by have := HYL.out; omega)
  have hlw := hbnd.1
  generalize truthTo l ys l.length = ws at *
  have HH7 := Lib.hid ((HH6.out.go hb7).add hrw)
  have HBND := Lib.hid hbnd
  have HWO := Lib.hid (hbnd.small HOK.out)
  have hs7 := hb7.size
  have HLW := Lib.hid hlw
  clear hb7 hrw hqw hcw hbnd HTR HH6 hlc
  have hlc := (HH7.out.c (B := BP) (v := .slice q l.length c) (by simp)).2
  rw [hlw]
  clear hlw
  go_wp2
  go_loopw [87] (fun i wr => ∃ k : Nat, k ≤ l.length ∧ i = .int .i64 k ∧ Hid (Hc w wr [(qw, flatI ws), (q, flatS l)] [(w.heap.size, xs), (w.heap.size + 1, ys)] [(BP, .slice q l.length c)])) (fun i _ => l.length - (intOf i).toNat)
  case atStart => exact ⟨0, Nat.zero_le _, rfl, HH7⟩
  case round =>
    obtain ⟨k, hk, rfl, HH8⟩ := hrel
    obtain ⟨W8, rfl⟩ : ∃ W8 : World, W8 = wr := ⟨_, rfl⟩
    by_cases hlt : k < l.length
    · obtain ⟨hp0, hs1, hs2⟩ := side_ok HE.out hlt
      have htr := bnd_truth HBND.out
      have hwo := worst_of hs1
      have hmo := mom_of hs1 htr
      have hRM := worst_max HOK.out HBND.out hlt 1
      have hbA := mom_bd HOK.out (leanS_bnd HOK.out k 1 (edgeS l k 1)).1 ((leanS_bnd HOK.out k 1 (edgeS l k 1)).small HOK.out) n5 hlt
      have hneg1 : K < 0 → momS l (worstS l k 1) k 1 ≤ 0 := fun h => weak_none (by rw [HWK.out]; exact h) k hlt 1 (by unfold sidesS; split <;> simp)
      have hneg2 : K < 0 → (momsOf l ws k).2 ≤ 0 := fun h => by
        unfold momsOf
        by_cases h0 : k = 0
        · simp [h0]
        · simp only [if_neg h0]
          have a := worst_max HOK.out HBND.out hlt (-1)
          have b := weak_none (l := l) (by rw [HWK.out]; exact h) k hlt (-1) (by unfold sidesS; rw [if_neg (by omega)]; simp)
          omega
      have hwl1 : (worstS l k 1).length = l.length := worst_len l k 1
      have HP0 := Lib.hid hp0
      have HS1 := Lib.hid hs1
      have HS2 := Lib.hid hs2
      have HTR := Lib.hid htr
      have HN2 := Lib.hid hneg2
      have hR1 : K < 0 → momS l ws k 1 ≤ 0 := fun h => Int.le_trans hRM (hneg1 h)
      have HR1 := Lib.hid hR1
      have HRM := Lib.hid hRM
      have HBA := Lib.hid hbA
      clear hp0 hs1 hs2 htr hneg1 hneg2 hRM hbA hlc hR1
      have hlc := (HH8.out.c (B := BP) (v := .slice q l.length c) (by simp)).2
      have hBw2 := (HH8.out.c (B := BP) (v := .slice q l.length c) (by simp)).1
      go_upto_region 11 with fail
      have A0 : Below W8.heap.size W8 (W8.alloc (.cells #[.int .i64 k] 3)) := (Below.refl _ _).alloc (Nat.le_refl _) _
      have HH9 := Lib.hid ((HH8.out.go A0).addC (SliceAt.new W8 (.int .i64 k) 3))
      have hz9 : (W8.alloc (.cells #[.int .i64 k] 3)).heap.size = W8.heap.size + 1 := by simp
      have HA0 := Lib.hid A0
      clear A0 hlc
      generalize (W8.alloc (.cells #[.int .i64 k] 3)) = W9 at *
      generalize hBL : W8.heap.size = BL at *
      have hlc := (HH9.out.c (B := BP) (v := .slice q l.length c) (by simp)).2
      have hkc := (HH9.out.c (B := BL) (v := .int .i64 k) (by simp)).2
      have hcm := moments_any q c l qw cw ws k W9 (HH9.out.r (by simp)) (HH9.out.r (by simp)) n5 HOK.out HLW.out HWO.out hlt
      rw [HLW.out] at hcm
      have HCM := Lib.hid hcm
      clear hcm
      go_upto_region 12 with (go_at_call 18; refine HCM.out.mono ?_; rintro e W10 ⟨rfl, hb10⟩)
      have HH10 := Lib.hid (HH9.out.go hb10)
      clear hb10 hlc hkc HCM
      have hlc := (HH10.out.c (B := BP) (v := .slice q l.length c) (by simp)).2
      have hkc := (HH10.out.c (B := BL) (v := .int .i64 k) (by simp)).2
      have hcw := Worst_any q c l k 1 W10 (HH10.out.r (by simp)) (by omega)
      rw [hwo] at hcw
      have HCW := Lib.hid hcw
      clear hcw hwo
      go_upto_region 13 with (go_at_call 19; refine HCW.out.mono ?_; rintro e W11 ⟨qa, ca, rfl, hra, hqa, hb11⟩)
      have HH11 := Lib.hid ((HH10.out.go hb11).add hra)
      have hA : ∀ i, i < l.length → (worstS l k 1).getD i 0 = (l.getD i zs).least ∨ (worstS l k 1).getD i 0 = (l.getD i zs).most := fun i hi => by
        unfold worstS; rw [leanS_get l k 1 _ i hi]; split
        · exact .inr rfl
        · exact .inl rfl
      have hbw := leanS_bnd HOK.out k 1 (edgeS l k 1)
      generalize hWA : worstS l k 1 = A at *
      have HA := Lib.hid hA
      have HWL1 := Lib.hid hwl1
      have HBW := Lib.hid (show Bnd l A by rw [← hWA]; exact hbw)
      have HWA := Lib.hid hWA
      clear hb11 hra hqa hlc hkc HCW hA hwl1 hWA hbw
      have hlc := (HH11.out.c (B := BP) (v := .slice q l.length c) (by simp)).2
      have hkc := (HH11.out.c (B := BL) (v := .int .i64 k) (by simp)).2
      have hcmo := Moment_any q c l qw cw ws k 1 W11 (HH11.out.r (by simp)) (HH11.out.r (by simp)) (by omega) (by have := HLW.out; omega)
      rw [hmo, HLW.out] at hcmo
      have HCMO := Lib.hid hcmo
      clear hcmo hmo
      go_upto_region 14 with (go_at_call 20; refine HCMO.out.mono ?_; rintro e W12 ⟨rfl, hb12⟩)
      have HH12 := Lib.hid (HH11.out.go hb12)
      clear hb12 hlc hkc HCMO
      have hlc := (HH12.out.c (B := BP) (v := .slice q l.length c) (by simp)).2
      have hkc := (HH12.out.c (B := BL) (v := .int .i64 k) (by simp)).2
      have hms1 : (momsOf l ws k).1 = momS l ws k 1 := rfl
      rw [hms1]
      generalize hR : momS l ws k 1 = R at *
      generalize hL : (momsOf l ws k).2 = L at *
      have HR := Lib.hid hR
      have HL := Lib.hid hL
      clear hR hL hms1
      go_cut [143] from 110 to 142 (fun v wx => v = .bool false ∧ wx = W12)
      case first =>
        by_cases hK : K < 0
        · have h1 := HR1.out hK
          have h2 := HN2.out hK
          have h3 : ¬ 0 < R := by omega
          have h4 : ¬ 0 < L := by omega
          go_wp2
          go_meet
          case rel => exact ⟨by simp [h3, h4], rfl⟩
        · go_wp2
          go_meet
          case rel => exact ⟨rfl, rfl⟩
      case rest =>
      obtain ⟨rfl, rfl⟩ := hcut
      go_wp2
      go_loopw [146] (fun i wx => ∃ j : Nat, j ≤ l.length ∧ i = .int .i64 j ∧ wx = wc) (fun i _ => l.length - (intOf i).toNat)
      case atStart => exact ⟨0, Nat.zero_le _, rfl, rfl⟩
      case round =>
        obtain ⟨j, hj, rfl, rfl⟩ := hrel
        by_cases hlj : j < l.length
        · obtain ⟨ba, offa, rfl, hba, hca⟩ := rowI_at (HH12.out.r (q := qa) (vs := flatI A) (by simp)) (k := j) (by have := HWL1.out; omega) (Nat.le_refl _) (Below.refl _ _)
          obtain ⟨b, off, rfl, hb, h1, h2, h3, h4⟩ := rowS_at (HH12.out.r (q := q) (vs := flatS l) (by simp)) hlj (Nat.le_refl _) (Below.refl _ _)
          have hor := HA.out j hlj
          generalize (l.getD j zs) = g at h1 h2 h3 h4 hor
          generalize A.getD j 0 = x at hca hor
          by_cases hx : x = g.least
          · have f1 : (x != g.least) = false := by simp [hx]
            clear hx hor
            go_wp2
            go_roundw
            case rel => exact ⟨j + 1, hlj, by go_num, trivial⟩
            case measure => simp [intOf]; omega
          · have f1 : (x != g.least) = true := by simp [hx]
            have f2 : (x != g.most) = false := by simp only [bne_eq_false_iff_eq]; rcases hor with h | h; · exact absurd h hx
                                                  · exact h
            clear hx hor
            go_wp2
            go_roundw
            case rel => exact ⟨j + 1, hlj, by go_num, trivial⟩
            case measure => simp [intOf]; omega
        · obtain rfl : j = l.length := by omega
          have hcm := moments_any q c l qa ca A k wr (HH12.out.r (by simp)) (HH12.out.r (by simp)) n5 HOK.out HWL1.out (HBW.out.small HOK.out) hlt
          rw [HWL1.out] at hcm
          have HCM := Lib.hid hcm
          clear hcm
          go_upto_region 23 with (go_at_call 18; refine HCM.out.mono ?_; rintro e W13 ⟨rfl, hb13⟩)
          have hm1 : (momsOf l A k).1 = momS l A k 1 := rfl
          rw [hm1]
          obtain ⟨M1, hM1⟩ : ∃ M1, momS l A k 1 = M1 := ⟨_, rfl⟩
          rw [hM1]
          have hRm : R ≤ M1 := by rw [← hM1]; exact HRM.out
          have hMb : M1 ≤ 1000000000000 := by rw [← hM1, ← HWA.out]; exact HBA.out.1.2
          have hcrn : ∀ s, (momsOf l (cornS l s) k).1 ≤ M1 := fun s => by
            rw [← hM1, ← HWA.out]; exact worst_max HOK.out (cornS_bnd HOK.out s) hlt 1
          have HH13 := Lib.hid (HH12.out.go hb13)
          have A0 : Below W13.heap.size W13 (W13.alloc (.cells #[.int .i64 M1] 3)) := (Below.refl _ _).alloc (Nat.le_refl _) _
          have HH14 := Lib.hid ((HH13.out.go A0).addC (SliceAt.new W13 (.int .i64 M1) 3))
          have HQ14 := Lib.hid (show ∀ a, q = some a → a.block < (W13.alloc (.cells #[.int .i64 M1] 3)).heap.size from fun a ha => by
            have h1 := HQS.out a ha
            have h2 := (HH13.out.c (B := BP) (v := .slice q l.length c) (by simp)).1
            have h3 : (W13.alloc (.cells #[.int .i64 M1] 3)).heap.size = W13.heap.size + 1 := by simp
            omega)
          have HCR := Lib.hid hcrn
          clear hb13 hm1 hM1 hcrn A0 hlc hkc HCM
          generalize (W13.alloc (.cells #[.int .i64 M1] 3)) = W14 at *
          generalize hBM : W13.heap.size = BM at *
          have hlc := (HH14.out.c (B := BP) (v := .slice q l.length c) (by simp)).2
          have HC1 := Lib.hid (corners1_any q c l k M1 BP BL BM W14 (HH14.out.r (by simp)) n5 HOK.out hlt (HH14.out.c (by simp)) (HH14.out.c (by simp)) (HH14.out.c (by simp)) HCR.out HQ14.out)
          go_upto_region 24 with (go_at_call 21; refine HC1.out.mono ?_; rintro e W15 ⟨rfl, hb15⟩)
          have HH15 := Lib.hid (HH14.out.go hb15)
          clear hb15 hlc HC1
          have hmc := (HH15.out.c (B := BM) (v := .int .i64 M1) (by simp)).2
          have hkc := (HH15.out.c (B := BL) (v := .int .i64 k) (by simp)).2
          have g1 : ¬ 1099511627776 ≤ M1 := by omega
          have g2 : ¬ M1 < R := by omega
          go_upto_if 186 with fail
          have HPV : Hid (provesOf l ws k = if 0 < R ∨ 0 < L then 0 else 14) := Lib.hid (by
            rw [prove_of l ws k HP0.out HTR.out, HR.out, ← HL.out]
            unfold momsOf
            by_cases h : k = 0
            · simp [h]
            · simp [h])
          clear hmc hkc g1 g2
          go_cut [23, 24, 25, 26, 27, 28] from 186 to 234 (fun _ _ _ _ _ _ wx => Below W15.heap.size W15 wx)
          case first =>
            by_cases h0 : k = 0
            · have h1 : ¬ 0 < k := by omega
              have h2 : ¬ (0 : Int) < (k : Int) := by omega
              clear h0
              go_wp2
              go_meet
              case rel => exact Below.refl _ _
            · have h1 : 0 < k := by omega
              have h2 : (0 : Int) < (k : Int) := by omega
              have hs2 := HS2.out h0
              have hwo2 := worst_of hs2
              have hmo2 := mom_of hs2 HTR.out
              have hLv : momS l ws k (-1) = L := by rw [← HL.out]; unfold momsOf; rw [if_neg h0]
              rw [hLv] at hmo2
              have hwl2 : (worstS l k (-1)).length = l.length := worst_len l k (-1)
              have hbw2 := leanS_bnd HOK.out k (-1) (edgeS l k (-1))
              have hbA2 := (mom_bd HOK.out hbw2.1 (hbw2.small HOK.out) n5 hlt).2.2
              have hLM := worst_max HOK.out HBND.out hlt (-1)
              rw [hLv] at hLM
              have hcr2 : ∀ s, (momsOf l (cornS l s) k).2 ≤ momS l (worstS l k (-1)) k (-1) := fun s => by
                have e : (momsOf l (cornS l s) k).2 = momS l (cornS l s) k (-1) := by unfold momsOf; rw [if_neg h0]
                rw [e]; exact worst_max HOK.out (cornS_bnd HOK.out s) hlt (-1)
              have hmm2 : (momsOf l (worstS l k (-1)) k).2 = momS l (worstS l k (-1)) k (-1) := by unfold momsOf; rw [if_neg h0]
              obtain ⟨A2, hA2⟩ : ∃ A2, worstS l k (-1) = A2 := ⟨_, rfl⟩
              have hbw3 : Bnd l A2 := by rw [← hA2]; exact hbw2
              have hbA3 : momS l A2 k (-1) ≤ 1000000000000 := by rw [← hA2]; exact hbA2
              rw [hA2] at hwo2 hwl2 hLM hcr2 hmm2
              obtain ⟨M2, hM2⟩ : ∃ M2, momS l A2 k (-1) = M2 := ⟨_, rfl⟩
              rw [hM2] at hLM hcr2 hmm2 hbA3
              have HB3 := Lib.hid hbw3
              have HC2 := Lib.hid hcr2
              have HM2 := Lib.hid hmm2
              have HWL2 := Lib.hid hwl2
              clear h0 hs2 hLv hbw2 hbA2 hcr2 hmm2 hA2 hbw3 hM2 hwl2
              have hlc := (HH15.out.c (B := BP) (v := .slice q l.length c) (by simp)).2
              have hkc := (HH15.out.c (B := BL) (v := .int .i64 k) (by simp)).2
              have hcw := Worst_any q c l k (-1) W15 (HH15.out.r (by simp)) (by omega)
              rw [hwo2] at hcw
              have HCW := Lib.hid hcw
              clear hcw hwo2
              go_upto_region 28 with (go_at_call 19; refine HCW.out.mono ?_; rintro e W16 ⟨qb, cb, rfl, hrb, hqb, hb16⟩)
              have HH16 := Lib.hid ((HH15.out.go hb16).add hrb)
              have HB16 := Lib.hid hb16
              rw [HWL2.out]
              clear hb16 hrb hqb hlc hkc HCW
              have hlc := (HH16.out.c (B := BP) (v := .slice q l.length c) (by simp)).2
              have hkc := (HH16.out.c (B := BL) (v := .int .i64 k) (by simp)).2
              have hcmo := Moment_any q c l qw cw ws k (-1) W16 (HH16.out.r (by simp)) (HH16.out.r (by simp)) (by omega) (by have := HLW.out; omega)
              rw [hmo2, HLW.out] at hcmo
              have HCMO := Lib.hid hcmo
              clear hcmo hmo2
              go_upto_region 29 with (go_at_call 20; refine HCMO.out.mono ?_; rintro e W17 ⟨rfl, hb17⟩)
              have HH17 := Lib.hid (HH16.out.go hb17)
              have HB17 := Lib.hid (HB16.out.on hb17)
              clear hb17 hlc hkc HCMO
              have hlc := (HH17.out.c (B := BP) (v := .slice q l.length c) (by simp)).2
              have hkc := (HH17.out.c (B := BL) (v := .int .i64 k) (by simp)).2
              have hcm := moments_any q c l qb cb A2 k W17 (HH17.out.r (by simp)) (HH17.out.r (by simp)) n5 HOK.out HWL2.out (HB3.out.small HOK.out) hlt
              rw [HWL2.out] at hcm
              have HCM := Lib.hid hcm
              clear hcm
              go_upto_region 32 with (go_at_call 18; refine HCM.out.mono ?_; rintro e W18 ⟨rfl, hb18⟩)
              rw [HM2.out]
              have HH18 := Lib.hid (HH17.out.go hb18)
              have A0 : Below W18.heap.size W18 (W18.alloc (.cells #[.int .i64 M2] 3)) := (Below.refl _ _).alloc (Nat.le_refl _) _
              have HH19 := Lib.hid ((HH18.out.go A0).addC (SliceAt.new W18 (.int .i64 M2) 3))
              have HB19 := Lib.hid ((HB17.out.on hb18).on A0)
              have HQ19 := Lib.hid (show ∀ a, q = some a → a.block < (W18.alloc (.cells #[.int .i64 M2] 3)).heap.size from fun a ha => by
                have h1 := HQS.out a ha
                have h2 := (HH18.out.c (B := BP) (v := .slice q l.length c) (by simp)).1
                have h3 : (W18.alloc (.cells #[.int .i64 M2] 3)).heap.size = W18.heap.size + 1 := by simp
                omega)
              clear hb18 A0 hlc hkc HCM
              generalize (W18.alloc (.cells #[.int .i64 M2] 3)) = W19 at *
              generalize hBN : W18.heap.size = BN at *
              have hlc := (HH19.out.c (B := BP) (v := .slice q l.length c) (by simp)).2
              have HC3 := Lib.hid (corners2_any q c l k M2 BP BL BN W19 (HH19.out.r (by simp)) n5 HOK.out hlt (HH19.out.c (by simp)) (HH19.out.c (by simp)) (HH19.out.c (by simp)) HC2.out HQ19.out)
              go_upto_region 33 with (go_at_call 21; refine HC3.out.mono ?_; rintro e W20 ⟨rfl, hb20⟩)
              have HH20 := Lib.hid (HH19.out.go hb20)
              have HB20 := Lib.hid (HB19.out.on hb20)
              clear hb20 hlc HC3
              have hmc := (HH20.out.c (B := BN) (v := .int .i64 M2) (by simp)).2
              have g1 : ¬ 1099511627776 ≤ M2 := by omega
              have g2 : ¬ M2 < L := by omega
              go_wp2
              go_meet
              case rel => exact HB20.out
          case rest =>
            have HH21 := Lib.hid (HH15.out.go hcut)
            clear hcut
            obtain ⟨bq, hbq⟩ : ∃ b : Bool, decide (0 < R ∨ 0 < L) = b := ⟨_, rfl⟩
            obtain ⟨Pv, hPv⟩ : ∃ x, provesOf l ws k = x := ⟨_, rfl⟩
            have hpv3 : Pv = if bq = true then 0 else 14 := by
              rw [← hPv, HPV.out, ← hbq]; simp
            have HPV3 := Lib.hid hpv3
            have HBQ := Lib.hid hbq
            have HPVE := Lib.hid hPv
            clear hpv3 hbq hPv HPV
            go_upto_region 36 with fail
            go_cut [240] from 235 to 239 (fun v wx => v = .bool bq ∧ wx = wc)
            case first =>
              by_cases a : 0 < R
              · have HX := Lib.hid (show bq = true by rw [← HBQ.out]; simp [a])
                go_wp2
                go_meet
                case rel => exact ⟨by rw [HX.out], rfl⟩
              · by_cases b : 0 < L
                · have HX := Lib.hid (show bq = true by rw [← HBQ.out]; simp [b])
                  go_wp2
                  go_meet
                  case rel => exact ⟨by rw [HX.out], rfl⟩
                · have HX := Lib.hid (show bq = false by rw [← HBQ.out]; simp [a, b])
                  go_wp2
                  go_meet
                  case rel => exact ⟨by rw [HX.out], rfl⟩
            case rest =>
            obtain ⟨rfl, rfl⟩ := hcut
            go_upto_if 240 with fail
            go_cut [29] from 240 to 240 (fun v wx => v = .int .i64 Pv ∧ wx = wc)
            case first =>
              have hx := HPV3.out
              cases bq
              · rw [if_neg (by simp)] at hx
                have HX := Lib.hid hx
                clear hx
                go_wp2
                go_meet
                case rel => exact ⟨by rw [HX.out], rfl⟩
              · rw [if_pos rfl] at hx
                have HX := Lib.hid hx
                clear hx
                go_wp2
                go_meet
                case rel => exact ⟨by rw [HX.out], rfl⟩
            case rest =>
            obtain ⟨rfl, rfl⟩ := hcut
            have hlc := (HH21.out.c (B := BP) (v := .slice q l.length c) (by simp)).2
            have hkc := (HH21.out.c (B := BL) (v := .int .i64 k) (by simp)).2
            have hcp := Proves_any q c l qw cw ws k _ (HH21.out.r (q := q) (vs := flatS l) (by simp)) (HH21.out.r (q := qw) (vs := flatI ws) (by simp)) (by omega) (by have := HLW.out; omega)
            rw [HPVE.out, HLW.out] at hcp
            have HCP := Lib.hid hcp
            clear hcp HPV3 HBQ
            go_wp2_with (go_at_call 24; refine HCP.out.mono ?_; rintro e W22 ⟨rfl, hb22⟩)
            have HH22 := Lib.hid ((HH21.out.go hb22).sub (rows' := [(qw, flatI ws), (q, flatS l)]) (boxes' := [(w.heap.size, xs), (w.heap.size + 1, ys)]) (cells' := [(BP, .slice q l.length c)]) (by simp) (by simp) (by simp))
            clear hb22
            go_roundw
            case rel => exact ⟨k + 1, hlt, by go_num, HH22⟩
            case measure => simp [intOf]; omega
    · obtain rfl : k = l.length := by omega
      go_wp2_with (go_at_call 25; refine (works_any _).mono ?_; rintro e W9 ⟨rfl, hb9⟩)
      go_ret
      exact ⟨rfl, HH8.out.bel.on hb9⟩
end Go.Proofs.Ytffblmhaoekkgaa.prp
