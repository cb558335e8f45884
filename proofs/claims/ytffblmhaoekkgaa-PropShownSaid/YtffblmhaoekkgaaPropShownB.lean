/- PropShown: the law's body. -/
import Derived.Test.YtffblmhaoekkgaaPrpO
import Derived.Test.YtffblmhaoekkgaaKW
import Derived.Deep.CutRange
import Derived.Deep.CutBlock
namespace Go.Proofs.Ytffblmhaoekkgaa.prp
open Go.RowKit
set_option linter.unusedSimpArgs false
set_option linter.unusedVariables false
open Go.Proofs.Ytffblmhaoekkgaa.ev (works_any)

set_option maxRecDepth 100000 in
set_option maxHeartbeats 8000000 in
theorem PropShown_any (xs ys : List Int) (level side long : Int) (hxl : xs.length = 21) (hxo : ∀ x ∈ xs, 0 ≤ x ∧ x ≤ 255) (hyl : ys.length = 5) (hyo : ∀ x ∈ ys, 0 ≤ x ∧ x ≤ 255)
    (hlv : 0 ≤ level ∧ level ≤ 255) (hsd : 0 ≤ side ∧ side ≤ 255) (hlg : 0 ≤ long ∧ long ≤ 255) (w : World) :
    Calls Try.prog 11 #[.agg (flatU xs).toArray, .agg (flatU ys).toArray, .int .u8 level, .int .u8 side, .int .u8 long] w fun e w' => e = .returned (.bool true) ∧ Below w.heap.size w w' := by
  have hx0 := hxo _ (getD_mem xs 0 0 (by omega))
  obtain ⟨n, hn⟩ : ∃ n : Nat, (n : Int) = 1 + xs.getD 0 0 % 5 := ⟨(1 + xs.getD 0 0 % 5).toNat, by omega⟩
  have n1 : 1 ≤ n := by omega
  have n5 : n ≤ 5 := by omega
  have hE := made_err xs hxo hxl n n1 n5
  have CM := Lib.hid (fun W => made_any xs n W hxl hxo hn)
  have hlen := madeTo_length xs n
  generalize hl : madeTo xs n = l at *
  have hok := (errP_ok hE).2.2
  have HE := Lib.hid hE
  have HOK := Lib.hid hok
  have HYO := Lib.hid hyo
  have HXO := Lib.hid hxo
  subst hlen
  have HN := Lib.hid hn
  have hH := Here.start2 w xs ys 25 26
  have HXL := Lib.hid hxl
  have HYL := Lib.hid hyl
  clear hl hE hok hyo hx0 hn hxo hxl hyl
  go_enter Try.func11, Try.ntmps11
  go_upto_region 1 with fail
  generalize ((w.alloc (.cells (flatU xs).toArray 25)).alloc (.cells (flatU ys).toArray 26)) = W0 at *
  have HH := Lib.hid hH
  clear hH
  go_upto_region 4 with (first
    | (refine wpList_loadH xs HXL.out _ HH.out.box0 (.tmp 5) rfl rfl rfl ?_)
    | (go_at_call 12; refine (CM.out _).mono ?_; rintro e W1 ⟨q, c, rfl, hr, hq, hc, hb⟩))
  have hH := (HH.out.go hb).add hr
  have HH := Lib.hid hH
  clear hH hr hb hq
  go_wp2
  have hHb := (HH.out.bel).size
  go_loopw [12, 13, 35] (fun v wt i wr => ∃ k : Nat, k ≤ l.length ∧ i = .int .i64 k ∧ wt = .int .i64 (wantTo l ys k) ∧ wr.ownsRow W1.heap.size 3 1 v k (flatI (shwTo l ys k)) ∧ Below W1.heap.size W1 wr) (fun _ _ i _ => l.length - (intOf i).toNat)
  case atStart => exact ⟨0, Nat.zero_le _, rfl, rfl, World.ownsRow_nil _ _ _ _, Below.refl _ _⟩
  case round =>
    obtain ⟨k, hk, rfl, rfl, hown, hbel⟩ := hrel
    by_cases hlt : k < l.length
    · obtain ⟨b, off, rfl, hb, h1, h2, h3, h4⟩ := rowS_at HH.out.at0 hlt (Nat.le_refl _) hbel
      have hx := HYO.out _ (getD_mem ys k 0 (by have := HYL.out; omega))
      have hbx := HH.out.box1.below (Nat.le_refl _) hbel
      have hxc := hbx.cell k (by have := HYL.out; omega)
      have hBx := hbx.1
      have hst := shwTo_succ l ys k
      have hws := wantTo_succ l ys k
      have hw01 := wantTo_01 l ys k
      have hg := HOK.out _ (getD_mem l k zs hlt)
      generalize (l.getD k zs) = g at h1 h2 h3 h4 hst hg hws
      generalize ys.getD k 0 = x at hx hxc hst hws
      generalize wantTo l ys k = V at hws hw01
      have hbd := shwX_bd hg hx
      obtain ⟨_, _, _, _, g5, g6, g7, g8, g9⟩ := hg
      have hsz := hbel.size
      have HS := Lib.hid hst
      have HW := Lib.hid hws
      have HO := Lib.hid hown
      have HBE := Lib.hid hbel
      clear hst hown hws hbx
      have hvd : (0 : Int) < g.most - g.least + 1 := by omega
      have htm : 0 ≤ x.tmod (g.most - g.least + 1) ∧ x.tmod (g.most - g.least + 1) < g.most - g.least + 1 := ⟨Int.tmod_nonneg _ hx.1, Int.tmod_lt_of_pos _ hvd⟩
      have v1 : IntKind.i64.wrap (g.most - g.least) = g.most - g.least := IntWalk.i64_in _ ⟨by omega, by omega⟩
      have v2 : IntKind.i64.wrap (g.most - g.least + 1) = g.most - g.least + 1 := IntWalk.i64_in _ ⟨by omega, by omega⟩
      have hmm : x.tmod (g.most - g.least + 1) = x % (g.most - g.least + 1) := Int.tmod_eq_emod_of_nonneg hx.1
      rw [hmm] at htm
      have v3 : IntKind.i64.wrap (g.least + x % (g.most - g.least + 1)) = g.least + x % (g.most - g.least + 1) := IntWalk.i64_in _ ⟨by omega, by omega⟩
      have v5 : IntKind.i64.wrap x = x := IntWalk.i64_in _ ⟨by omega, by omega⟩
      have hk0 : (0 : Int) ≤ (k : Int) := by omega
      have hk5 : (k : Int) < 5 := by omega
      have hvn : g.most - g.least + 1 ≠ 0 := by omega
      go_upto_region 7 with fail
      have A0 : Below wr.heap.size wr (wr.alloc (.cells #[.int .i64 g.half, .int .i64 g.at_, .int .i64 g.least, .int .i64 g.most] 44)) := (Below.refl _ _).alloc (Nat.le_refl _) _
      have e0 := (A0.cell (p := ⟨w.heap.size + 1, k, none⟩) hBx).trans hxc
      have e2 : (wr.alloc (.cells #[.int .i64 g.half, .int .i64 g.at_, .int .i64 g.least, .int .i64 g.most] 44)).cell? ⟨wr.heap.size, 2, none⟩ = some (.int .i64 g.least) := by simp
      have e3 : (wr.alloc (.cells #[.int .i64 g.half, .int .i64 g.at_, .int .i64 g.least, .int .i64 g.most] 44)).cell? ⟨wr.heap.size, 3, none⟩ = some (.int .i64 g.most) := by simp
      have HO1 := Lib.hid (owns_below HO.out (Nat.le_refl _) A0)
      have HB1 := Lib.hid (HBE.out.trans (A0.mono hsz))
      have hsz1 : W1.heap.size ≤ (wr.alloc (.cells #[.int .i64 g.half, .int .i64 g.at_, .int .i64 g.least, .int .i64 g.most] 44)).heap.size := HB1.out.size
      have hzw : (wr.alloc (.cells #[.int .i64 g.half, .int .i64 g.at_, .int .i64 g.least, .int .i64 g.most] 44)).heap.size = wr.heap.size + 1 := by simp
      clear A0
      generalize (wr.alloc (.cells #[.int .i64 g.half, .int .i64 g.at_, .int .i64 g.least, .int .i64 g.most] 44)) = W2 at *
      have d0 : W2.drew.cell? ⟨w.heap.size + 1, k, none⟩ = some (.int .u8 x) := e0
      have d2 : W2.drew.cell? ⟨wr.heap.size, 2, none⟩ = some (.int .i64 g.least) := e2
      have d3 : W2.drew.cell? ⟨wr.heap.size, 3, none⟩ = some (.int .i64 g.most) := e3
      have f0 : W2.drew.drew.cell? ⟨w.heap.size + 1, k, none⟩ = some (.int .u8 x) := e0
      have f2 : W2.drew.drew.cell? ⟨wr.heap.size, 2, none⟩ = some (.int .i64 g.least) := e2
      have f3 : W2.drew.drew.cell? ⟨wr.heap.size, 3, none⟩ = some (.int .i64 g.most) := e3
      have k8 : 0 ≤ (4 * x) % 8 ∧ (4 * x) % 8 < 8 := by omega
      have u1 : IntKind.i64.wrap (x - 250) = x - 250 := IntWalk.i64_in _ ⟨by omega, by omega⟩
      have u2 : IntKind.i64.wrap (4 * x) = 4 * x := IntWalk.i64_in _ ⟨by omega, by omega⟩
      have u3 : (4 * x).tmod 8 = (4 * x) % 8 := Int.tmod_eq_emod_of_nonneg (by omega)
      have u5 : IntKind.i64.wrap (x - 250 + (4 * x) % 8) = x - 250 + (4 * x) % 8 := IntWalk.i64_in _ ⟨by omega, by omega⟩
      have hz0 : w.heap.size + 1 < W2.heap.size := by omega
      have hz2 : wr.heap.size < W2.heap.size := by omega
      clear hzw
      go_region
      go_upto_if 57 with fail
      go_cut [16] from 54 to 70 (fun v wx => v = .int .i64 (shwX g x) ∧ Below W2.heap.size W2 wx)
      case first =>
        by_cases hgt : 250 < x
        · have hX : shwX g x = x - 250 + (4 * x) % 8 := by unfold shwX; rw [if_pos hgt]
          have HX := Lib.hid hX
          clear hX
          go_upto_region 9 with fail
          go_region
          go_wp2
          go_meet
          case rel => exact ⟨by rw [HX.out], (Below.refl _ _).drew.drew⟩
        · have hX : shwX g x = g.least + x % (g.most - g.least + 1) := by unfold shwX truth1; rw [if_neg hgt, hmm]
          have HX := Lib.hid hX
          clear hX
          go_wp2
          go_meet
          case rel => exact ⟨by rw [HX.out], (Below.refl _ _).drew⟩
      case rest =>
        obtain ⟨rfl, hbc⟩ := hcut
        have c2 := (hbc.cell (p := ⟨wr.heap.size, 2, none⟩) hz2).trans e2
        have c3 := (hbc.cell (p := ⟨wr.heap.size, 3, none⟩) hz2).trans e3
        have HOC := Lib.hid (owns_below HO1.out (Nat.le_refl _) hbc)
        have HBC := Lib.hid (HB1.out.trans (hbc.mono hsz1))
        have hszc := hbc.size
        clear hbc d0 d2 d3 f0 f2 f3 e0 e2 e3
        generalize shwX g x = X at *
        have hcase : (V = 1 ∧ wantTo l ys (k + 1) = 1) ∨ (V = 0 ∧ X < g.least ∧ wantTo l ys (k + 1) = 1) ∨ (V = 0 ∧ ¬ X < g.least ∧ g.most < X ∧ wantTo l ys (k + 1) = 1) ∨ (V = 0 ∧ ¬ X < g.least ∧ ¬ g.most < X ∧ wantTo l ys (k + 1) = 0) := by
          have hw := HW.out
          unfold outF isF at hw
          rcases hw01 with h | h
          · by_cases a : X < g.least
            · exact .inr (.inl ⟨h, a, by rw [hw, if_pos ⟨h, by simp; omega⟩]⟩)
            · by_cases c : g.most < X
              · exact .inr (.inr (.inl ⟨h, a, c, by rw [hw, if_pos ⟨h, by simp; omega⟩]⟩))
              · exact .inr (.inr (.inr ⟨h, a, c, by rw [hw, if_neg (by simp; omega), h]⟩))
          · exact .inl ⟨h, by rw [hw, if_neg (by omega), h]⟩
        clear hw01 u1 u2 u3 u5 v1 v2 v3 v5 hmm htm k8
        rcases hcase with ⟨rfl, hwn⟩ | ⟨rfl, ha, hwn⟩ | ⟨rfl, ha, hcc, hwn⟩ | ⟨rfl, ha, hcc, hwn⟩
        all_goals
          have HWN := Lib.hid hwn
          clear hwn
          go_wp2_with (at_builtin; refine app_one _ rfl (.tmp 84) (.tmp 86) 36 rfl W1.heap.size 3 _ 1 8 Try.underlying36 infoI rfl (by decide) (by decide) u12 k (flatI (shwTo l ys k)) rfl (HOC.out.alloc _) wc.heap.size 1 rfl [.int .i64 X] rfl ?_ ?_ (by omega) (by simp; omega) ?_; (focus (intro j u hj; match j, hj with | 0, hj => (simp at hj; subst hj; simp))); (focus (intro u hu; simp at hu; subst hu; rfl)); intro v' w3 hown3 hgrow hblk)
          have hrow : w3.ownsRow W1.heap.size 3 1 v' (k + 1) (flatI (shwTo l ys (k + 1))) := by
            rw [HS.out, flatI_snoc]; exact hown3
          have hgb : Below W1.heap.size wc w3 := grown_al HOC.out (by omega) hgrow
          have hbn : Below W1.heap.size W1 w3 := HBC.out.trans hgb
          exact ⟨⟨k + 1, hlt, by go_num, by rw [HWN.out], hrow, hbn⟩, by simp [intOf]; omega⟩
    · obtain rfl : k = l.length := by omega
      have hT := want_truth l ys
      have hWl := shwTo_length l ys l.length
      generalize shwTo l ys l.length = ws at *
      generalize wantTo l ys l.length = V at *
      have HBL := Lib.hid hbel
      have hsz := hbel.size
      have HO := Lib.hid hown
      have HT := Lib.hid hT
      have HWL := Lib.hid hWl
      clear hown hT hWl hbel
      go_upto_if 90 with fail
      go_cut [12, 13] from 90 to 93 (fun v wt wx => ∃ q2 c2 ws' V', v = .slice q2 ws'.length c2 ∧ wt = .int .i64 V' ∧ RowV wx q2 (flatI ws') ∧ truthErr l ws' = V' ∧ ws'.length ≤ 6 ∧ ws'.length ≤ c2 ∧ Below W1.heap.size W1 wx)
      case first =>
        by_cases hg : 245 < long
        · go_wp2_with (at_builtin; refine app_one _ rfl (.tmp 91) (.tmp 92) 36 rfl W1.heap.size 3 _ 1 8 Try.underlying36 infoI rfl (by decide) (by decide) u12 l.length (flatI ws) rfl (HO.out.alloc _) wr.heap.size 1 rfl [.int .i64 1] rfl ?_ ?_ (by omega) (by simp; omega) ?_; (focus (intro j u hj; match j, hj with | 0, hj => (simp at hj; subst hj; simp))); (focus (intro u hu; simp at hu; subst hu; rfl)); intro v' w3 hown3 hgrow hblk)
          have hgb : Below W1.heap.size wr w3 := grown_al HO.out (by omega) hgrow
          have hlen9 : (ws ++ [(1 : Int)]).length = l.length + 1 := by simp [HWL.out]
          obtain ⟨q9, c9, rfl, hr9, hc9, hq9⟩ := rowV_of_owns (show w3.ownsRow W1.heap.size 3 1 v' (l.length + 1) (flatI (ws ++ [1])) by rw [flatI_snoc]; exact hown3) (by intro h0; omega)
          go_meet
          case rel => exact ⟨q9, c9, ws ++ [1], 5, by rw [hlen9], rfl, hr9, want_long l ws 1 HWL.out, by omega, by rw [hlen9]; exact own_cap hown3, HBL.out.trans hgb⟩
        · obtain ⟨q9, c9, rfl, hr9, hc9, hq9⟩ := rowV_of_owns HO.out (by intro h0; omega)
          have HR := Lib.hid hr9
          have hcp := own_cap HO.out
          clear hr9 hq9 hc9
          go_wp2
          go_meet
          case rel => exact ⟨q9, c9, ws, V, by rw [HWL.out], rfl, HR.out, HT.out, by have := HWL.out; omega, by have := HWL.out; omega, HBL.out⟩
      case rest =>
        obtain ⟨q2, c2, ws', V', rfl, rfl, hr2, ht2, hl2, hcap2, hb2⟩ := hcut
        have HHr := Lib.hid ((HH.out.go hb2).add hr2)
        have HTr := Lib.hid ht2
        clear HO HT HWL HBL hsz hr2 ht2 hb2 HH CM
        obtain ⟨I, hI⟩ : ∃ I : Int, level % 8 - 1 = I := ⟨_, rfl⟩
        obtain ⟨D, hD⟩ : ∃ D : Int, side % 4 - 1 = D := ⟨_, rfl⟩
        have hIb : -1 ≤ I ∧ I ≤ 6 := by omega
        have hDb : -1 ≤ D ∧ D ≤ 2 := by omega
        have i1 : IntKind.i64.wrap level = level := IntWalk.i64_in _ ⟨by omega, by omega⟩
        have i2 : IntKind.i64.wrap side = side := IntWalk.i64_in _ ⟨by omega, by omega⟩
        have i3 : IntKind.i64.wrap (level % 8 - 1) = I := by rw [hI]; exact IntWalk.i64_in _ ⟨by omega, by omega⟩
        have i4 : IntKind.i64.wrap (side % 4 - 1) = D := by rw [hD]; exact IntWalk.i64_in _ ⟨by omega, by omega⟩
        clear hI hD
        have HPE := Lib.hid (place_of HE.out I)
        go_upto_region 19 with fail
        go_cut [109] from 102 to 110 (fun v wx => v = .bool (decide (I < 0 ∨ (l.length : Int) ≤ I)) ∧ wx = wc)
        case first =>
          by_cases a : I < 0
          · go_wp2
            go_meet
            case rel => exact ⟨by simp [a], rfl⟩
          · by_cases b : (l.length : Int) ≤ I
            · go_wp2
              go_meet
              case rel => exact ⟨by simp [a, b], rfl⟩
            · go_wp2
              go_meet
              case rel => exact ⟨by simp [a, b], rfl⟩
        case rest =>
        obtain ⟨rfl, rfl⟩ := hcut
        obtain ⟨NP, hNP⟩ : ∃ NP, placeErr l I = NP := ⟨_, rfl⟩
        have hPE := HPE.out
        rw [hNP] at hPE
        have HNP := Lib.hid hNP
        have HPF := Lib.hid hPE
        clear hNP hPE HPE
        go_upto_if 109 with fail
        go_cut [19] from 110 to 110 (fun v wx => v = .int .i64 NP ∧ wx = wc)
        case first =>
          by_cases a : I < 0 ∨ (l.length : Int) ≤ I
          · have hx := HPF.out
            rw [if_pos a] at hx
            have hd := decide_eq_true a
            subst hx
            go_wp2
            go_meet
            case rel => exact ⟨rfl, rfl⟩
          · have hx := HPF.out
            rw [if_neg a] at hx
            have hd := decide_eq_false a
            subst hx
            go_wp2
            go_meet
            case rel => exact ⟨rfl, rfl⟩
        case rest =>
        obtain ⟨rfl, rfl⟩ := hcut
        clear HPF
        have CMo := Lib.hid (Moment_any q c l q2 c2 ws' I D wc HHr.out.at1 HHr.out.at0 (by omega) (by omega))
        go_upto_region 22 with (go_at_call 20; refine CMo.out.mono ?_; rintro e W3 ⟨rfl, hb3⟩)
        have HH3 := Lib.hid (HHr.out.go hb3)
        clear hb3 CMo
        have CPr := Lib.hid (Proves_any q c l q2 c2 ws' I W3 HH3.out.at1 HH3.out.at0 (by omega) (by omega))
        go_upto_region 23 with (go_at_call 24; refine CPr.out.mono ?_; rintro e W4 ⟨rfl, hb4⟩)
        have HH4 := Lib.hid (HH3.out.go hb4)
        clear hb4 CPr
        have CWo := Lib.hid (Worst_any q c l I D W4 HH4.out.at1 (by omega))
        go_upto_region 24 with (go_at_call 19; refine CWo.out.mono ?_; rintro e W5 ⟨q5, c5, rfl, hr5, hq5, hb5⟩)
        have HH5 := Lib.hid (HH4.out.go hb5)
        clear hb5 CWo hr5 hq5
        obtain ⟨S, hS⟩ : ∃ S, sideErr l I D = S := ⟨_, rfl⟩
        have hSF : S = if NP ≠ 0 then NP else if D ≠ 1 ∧ D ≠ -1 then 1 else if I = 0 ∧ D = -1 then 21 else 0 := by rw [← hS, ← HNP.out]; rfl
        have hw5 : (worstOf l I D).2 = S := by rw [← hS]; unfold worstOf; split <;> simp_all
        obtain ⟨B, hBq⟩ : ∃ B, (if S = 0 then V' else S) = B := ⟨_, rfl⟩
        have hm2 : (momOf l ws' I D).2 = B := by
          rw [← hBq, ← hS, ← HTr.out]; unfold momOf
          by_cases a : sideErr l I D = 0
          · rw [if_neg (by simpa using a), if_pos a]
            by_cases b : truthErr l ws' = 0
            · rw [if_neg (by simpa using b)]; exact b.symm
            · rw [if_pos b]
          · rw [if_pos a, if_neg a]
        have hm1 : B ≠ 0 → (momOf l ws' I D).1 = 0 := by
          rw [← hBq, ← hS, ← HTr.out]; unfold momOf
          intro hb
          by_cases a : sideErr l I D = 0
          · rw [if_neg (by simpa using a)]
            rw [if_pos a] at hb
            rw [if_pos hb]
          · rw [if_pos a]
        have hm0 : S = 0 → V' = 0 → (momOf l ws' I D).1 = momS l ws' I.toNat D := by
          rw [← hS, ← HTr.out]; unfold momOf
          intro a b
          rw [if_neg (by simpa using a), if_neg (by simpa using b)]
        have hp1 : NP ≠ 0 → provesOf l ws' I = NP := by
          rw [← HNP.out]; unfold provesOf; intro a; rw [if_pos a]
        have hp2 : NP = 0 → V' ≠ 0 → provesOf l ws' I = V' := by
          rw [← HNP.out, ← HTr.out]; unfold provesOf; intro a b; rw [if_neg (by simpa using a), if_pos b]
        generalize hMq : (momOf l ws' I D).1 = M at hm1 hm0
        generalize hPq : provesOf l ws' I = Pv at hp1 hp2
        rw [hm2, hw5]
        have HPq := Lib.hid hPq
        have HM1 := Lib.hid hm1
        have HM0 := Lib.hid hm0
        have HP1 := Lib.hid hp1
        have HP2 := Lib.hid hp2
        have HSF := Lib.hid hSF
        have HBq := Lib.hid hBq
        have HSq := Lib.hid hS
        generalize (worstOf l I D).1.length = n5w
        clear hm1 hm0 hp1 hp2 hSF hBq hS hm2 hw5 hMq hPq
        go_upto_block 2 with fail
        go_cut [25] from 130 to 146 (fun v wx => v = .int .i64 S ∧ wx = W5)
        case first =>
          have hcase : (NP ≠ 0 ∧ S = NP) ∨ (NP = 0 ∧ D = 1 ∧ S = 0) ∨ (NP = 0 ∧ D = -1 ∧ I = 0 ∧ S = 21) ∨ (NP = 0 ∧ D = -1 ∧ I ≠ 0 ∧ S = 0) ∨ (NP = 0 ∧ D ≠ 1 ∧ D ≠ -1 ∧ S = 1) := by
            have hx := HSF.out
            by_cases a : NP = 0
            · rw [if_neg (by simpa using a)] at hx
              by_cases b : D = 1
              · subst b; rw [if_neg (by omega), if_neg (by omega)] at hx; exact .inr (.inl ⟨a, rfl, hx⟩)
              · by_cases c : D = -1
                · subst c
                  rw [if_neg (by omega)] at hx
                  by_cases d : I = 0
                  · rw [if_pos ⟨d, rfl⟩] at hx; exact .inr (.inr (.inl ⟨a, rfl, d, hx⟩))
                  · rw [if_neg (by omega)] at hx; exact .inr (.inr (.inr (.inl ⟨a, rfl, d, hx⟩)))
                · rw [if_pos ⟨b, c⟩] at hx; exact .inr (.inr (.inr (.inr ⟨a, b, c, hx⟩)))
            · rw [if_pos a] at hx; exact .inl ⟨a, hx⟩
          clear HSF HBq HSq HM0 HM1 HP1 HP2 HPq HNP i1 i2 i3 i4
          rcases hcase with ⟨a, hs⟩ | ⟨rfl, rfl, rfl⟩ | ⟨rfl, rfl, a, rfl⟩ | ⟨rfl, rfl, a, rfl⟩ | ⟨rfl, a, b, rfl⟩
          · have a2 : (NP != 0) = true := by simpa using a
            have HSN := Lib.hid hs
            clear hs a
            go_wp2
            go_meet
            case rel => exact ⟨by rw [HSN.out], rfl⟩
          · by_cases a : I = 0
            · have a2 : (I == 0) = true := by simpa using a
              clear a
              go_wp2
              go_meet
              case rel => exact ⟨rfl, rfl⟩
            · have a2 : (I == 0) = false := by simpa using a
              clear a
              go_wp2
              go_meet
              case rel => exact ⟨rfl, rfl⟩
          · have a2 : (I == 0) = true := by simpa using a
            clear a
            go_wp2
            go_meet
            case rel => exact ⟨rfl, rfl⟩
          · have a2 : (I == 0) = false := by simpa using a
            go_wp2
            go_meet
            case rel => exact ⟨rfl, rfl⟩
          · have a2 : (D != 1) = true := by simpa using a
            have b2 : (D != -1) = true := by simpa using b
            go_wp2
            go_meet
            case rel => exact ⟨rfl, rfl⟩
        case rest =>
        obtain ⟨rfl, rfl⟩ := hcut
        go_upto_if 151 with fail
        go_cut [25] from 151 to 152 (fun v wx => v = .int .i64 B ∧ wx = wc)
        case first =>
          by_cases a : S = 0
          · have hx := HBq.out
            rw [if_pos a] at hx
            have HX := Lib.hid hx
            clear hx
            go_wp2
            go_meet
            case rel => exact ⟨by rw [HX.out], rfl⟩
          · have hx := HBq.out
            rw [if_neg a] at hx
            have HX := Lib.hid hx
            have a2 : (S == 0) = false := by simpa using a
            clear hx a
            go_wp2
            go_meet
            case rel => exact ⟨by rw [HX.out], rfl⟩
        case rest =>
        obtain ⟨rfl, rfl⟩ := hcut
        go_upto_region 34 with fail
        go_cut [163] from 153 to 163 (fun v wx => v = .bool false ∧ wx = wc)
        case first =>
          by_cases a : B = 0
          · have a2 : (B != 0) = false := by simpa using a
            clear a
            go_wp2
            go_meet
            case rel => exact ⟨rfl, rfl⟩
          · have hx := HM1.out a
            have a2 : (B != 0) = true := by simpa using a
            subst hx
            clear a
            go_wp2
            go_meet
            case rel => exact ⟨rfl, rfl⟩
        case rest =>
        obtain ⟨rfl, rfl⟩ := hcut
        obtain ⟨bb, hbb⟩ : ∃ b : Bool, decide (NP ≠ 0 ∨ V' ≠ 0) = b := ⟨_, rfl⟩
        have HBB := Lib.hid hbb
        clear hbb
        go_upto_region 36 with fail
        go_cut [169] from 164 to 169 (fun v wx => v = .bool bb ∧ wx = wc)
        case first =>
          by_cases a : NP = 0
          · have a2 : (NP != 0) = false := by simpa using a
            by_cases b : V' = 0
            · have b2 : (V' != 0) = false := by simpa using b
              have HX := Lib.hid (show bb = false by rw [← HBB.out]; simp [a, b])
              clear a b
              go_wp2
              go_meet
              case rel => exact ⟨by rw [HX.out], rfl⟩
            · have b2 : (V' != 0) = true := by simpa using b
              have HX := Lib.hid (show bb = true by rw [← HBB.out]; simp [a, b])
              clear a b
              go_wp2
              go_meet
              case rel => exact ⟨by rw [HX.out], rfl⟩
          · have a2 : (NP != 0) = true := by simpa using a
            have HX := Lib.hid (show bb = true by rw [← HBB.out]; simp [a])
            clear a
            go_wp2
            go_meet
            case rel => exact ⟨by rw [HX.out], rfl⟩
        case rest =>
        obtain ⟨rfl, rfl⟩ := hcut
        clear HSF HBq HM1 HSq
        by_cases hbad : NP ≠ 0 ∨ V' ≠ 0
        · obtain rfl : bb = true := by rw [← HBB.out]; exact decide_eq_true hbad
          by_cases a : NP = 0
          · have b : V' ≠ 0 := by omega
            have hx := HP2.out a b
            have HX := Lib.hid hx
            have a2 : (NP == 0) = true := by simpa using a
            clear hx hbad a b
            go_upto_region 39 with fail
            have e2 : (Pv == V') = true := by rw [HX.out]; simp
            go_wp2_with (go_at_call 25; refine (works_any _).mono ?_; rintro e W9 ⟨rfl, hb9⟩)
            go_ret
            exact ⟨rfl, HH5.out.bel.on hb9⟩
          · have hx := HP1.out a
            have HX := Lib.hid hx
            have a2 : (NP == 0) = false := by simpa using a
            clear hx hbad a
            have e2 : (Pv == NP) = true := by rw [HX.out]; simp
            go_wp2_with (go_at_call 25; refine (works_any _).mono ?_; rintro e W9 ⟨rfl, hb9⟩)
            go_ret
            exact ⟨rfl, HH5.out.bel.on hb9⟩
        · obtain rfl : bb = false := by rw [← HBB.out]; exact decide_eq_false hbad
          have hN0 : NP = 0 := by omega
          have hV0 : V' = 0 := by omega
          clear hbad
          have hpl : placeErr l I = 0 := by rw [HNP.out]; exact hN0
          have htr : truthErr l ws' = 0 := by rw [HTr.out]; exact hV0
          obtain ⟨_, hI0, hIl⟩ := placeErr_ok hpl
          obtain ⟨hwl, hwo⟩ := truthErr_ok HOK.out htr
          obtain ⟨lv, rfl⟩ : ∃ lv : Nat, I = lv := ⟨I.toNat, by omega⟩
          have hlv : lv < l.length := by omega
          have hpv := prove_of l ws' lv hpl htr
          rw [HPq.out] at hpv
          have HPV := Lib.hid hpv
          have hmA := fun d (hd : sideErr l lv d = 0) => show momOf l ws' lv d = (momS l ws' lv d, 0) by unfold momOf; rw [if_neg (by simpa using hd), if_neg (by simpa using htr)]; rfl
          have HMA := Lib.hid hmA
          have HWO := Lib.hid hwo
          have HWLL := Lib.hid hwl
          have HPL := Lib.hid hpl
          have HTR := Lib.hid htr
          subst hN0 hV0
          clear hpv hmA hwo hwl hpl htr HM0 HP1 HP2 HPq HBB HNP HTr i1 i2 i3 i4
          have CMs := Lib.hid (moments_any q c l q2 c2 ws' lv wc HH5.out.at1 HH5.out.at0 n5 HOK.out HWLL.out HWO.out hlv)
          go_upto_region 41 with (go_at_call 18; refine CMs.out.mono ?_; rintro e W6 ⟨rfl, hb6⟩)
          have HH6 := Lib.hid (HH5.out.go hb6)
          clear hb6 CMs
          have hsum : lv ≠ 0 → momS l ws' lv 1 + momS l ws' lv (-1) = -2 * (l.getD (lv - 1) zs).half * (ws'.drop lv).sum := fun h0 => both_mom l ws' lv h0 HWLL.out hlv
          have hms1 : (momsOf l ws' lv).1 = momS l ws' lv 1 := by unfold momsOf; split <;> simp_all
          have hms2 : (momsOf l ws' lv).2 = if lv = 0 then 0 else momS l ws' lv (-1) := by unfold momsOf; split <;> simp_all
          rw [hms1, hms2]
          have hm1 := HMA.out 1
          have hm2 := HMA.out (-1)
          have hpv := HPV.out
          generalize momS l ws' lv 1 = R at *
          generalize momS l ws' lv (-1) = L0 at *
          have hpv2 : Pv = if 0 < R ∨ 0 < (if lv = 0 then 0 else L0) then 0 else 14 := by
            rw [hpv]
            by_cases h : lv = 0
            · simp [h]
            · simp [h]
          obtain ⟨bq, hbq⟩ : ∃ b : Bool, decide (0 < R ∨ 0 < (if lv = 0 then 0 else L0)) = b := ⟨_, rfl⟩
          have hpv3 : Pv = if bq = true then 0 else 14 := by
            rw [hpv2, ← hbq]; simp
          have HPV3 := Lib.hid hpv3
          have HBQ := Lib.hid hbq
          have HM1 := Lib.hid hm1
          have HM2 := Lib.hid hm2
          have HSUM := Lib.hid hsum
          generalize hL : (if lv = 0 then (0 : Int) else L0) = Lf at *
          have HL := Lib.hid hL
          clear hpv hpv2 hpv3 hbq hm1 hm2 hsum HPV HMA hL hms1 hms2
          go_upto_region 42 with fail
          go_cut [191] from 186 to 191 (fun v wx => v = .bool bq ∧ wx = W6)
          case first =>
            by_cases a : 0 < R
            · have HX := Lib.hid (show bq = true by rw [← HBQ.out]; simp [a])
              go_wp2
              go_meet
              case rel => exact ⟨by rw [HX.out], rfl⟩
            · by_cases b : 0 < Lf
              · have HX := Lib.hid (show bq = true by rw [← HBQ.out]; simp [b])
                go_wp2
                go_meet
                case rel => exact ⟨by rw [HX.out], rfl⟩
              · have HX := Lib.hid (show bq = false by rw [← HBQ.out]; simp [a, b])
                go_wp2
                go_meet
                case rel => exact ⟨by rw [HX.out], rfl⟩
          case rest =>
          obtain ⟨rfl, rfl⟩ := hcut
          go_upto_if 191 with fail
          go_cut [28] from 191 to 192 (fun v wx => v = .int .i64 Pv ∧ wx = wc)
          case first =>
            have hx := HPV3.out
            cases bq
            · rw [if_neg (by simp)] at hx
              have HX := Lib.hid hx
              clear hx
              go_wp2
              go_meet
              case rel => exact ⟨by rw [HX.out], rfl⟩
            · rw [if_pos rfl] at hx
              have HX := Lib.hid hx
              clear hx
              go_wp2
              go_meet
              case rel => exact ⟨by rw [HX.out], rfl⟩
          case rest =>
          obtain ⟨rfl, rfl⟩ := hcut
          clear HPV3 HBQ
          by_cases h0 : lv = 0
          · have a2 : ((lv : Int) == 0) = true := by simpa using h0
            clear h0
            go_wp2_with (go_at_call 25; refine (works_any _).mono ?_; rintro e W9 ⟨rfl, hb9⟩)
            go_ret
            exact ⟨rfl, HH6.out.bel.on hb9⟩
          · have a2 : ((lv : Int) == 0) = false := by simpa using h0
            have hLf : L0 = Lf := by have := HL.out; rw [if_neg h0] at this; exact this
            have s1 : sideErr l lv 1 = 0 := by unfold sideErr; rw [if_neg (by simpa using HPL.out), if_neg (by omega), if_neg (by omega)]
            have s2 : sideErr l lv (-1) = 0 := by unfold sideErr; rw [if_neg (by simpa using HPL.out), if_neg (by omega), if_neg (by omega)]
            have q1 := HM1.out s1
            have q3 := HM2.out s2
            have hsm := HSUM.out h0
            subst hLf
            have c7 := fun W hr hr2 => Moment_any q c l q2 c2 ws' lv 1 W hr hr2 (by omega) (by omega)
            have c8 := fun W hr hr2 => Moment_any q c l q2 c2 ws' lv (-1) W hr hr2 (by omega) (by omega)
            rw [q1] at c7
            rw [q3] at c8
            have C7 := Lib.hid (c7 wc HH6.out.at1 HH6.out.at0)
            have C8 := Lib.hid c8
            have HSM := Lib.hid hsm
            clear HM1 HM2 HSUM HL c7 c8 q1 q3 s1 s2 hsm
            go_upto_region 49 with (go_at_call 20; refine C7.out.mono ?_; rintro e W7 ⟨rfl, hb7⟩)
            have HH7 := Lib.hid (HH6.out.go hb7)
            clear hb7 C7
            have C9 := Lib.hid (C8.out W7 HH7.out.at1 HH7.out.at0)
            go_upto_region 50 with (go_at_call 20; refine C9.out.mono ?_; rintro e W8 ⟨rfl, hb8⟩)
            have HH8 := Lib.hid (HH7.out.go hb8)
            clear hb8 C9 C8
            have hlw : lv < ws'.length := by have := HWLL.out; omega
            obtain ⟨b, off, rfl, hb, h1, h2, h3, h4⟩ := rowS_at HH8.out.at1 (show lv - 1 < l.length by omega) (Nat.le_refl _) (Below.refl _ _)
            obtain ⟨b2, off2, rfl, hb2, h5⟩ := rowI_at HH8.out.at0 (k := lv) (by omega) (Nat.le_refl _) (Below.refl _ _)
            have hgs := HOK.out _ (getD_mem l (lv - 1) zs (by omega))
            have hr4 := (HH8.out.at0).drop lv
            have e4 : (flatI ws').drop lv = flatI (ws'.drop lv) := by unfold flatI; rw [List.map_drop]
            rw [e4] at hr4
            have hdl : (ws'.drop lv).length = ws'.length - lv := by simp
            have hsb := sum_take_bd (ws'.drop lv) 100 (by omega) (fun x hx => by have := HWO.out x (List.mem_of_mem_drop hx); omega) (ws'.drop lv).length (Nat.le_refl _)
            rw [List.take_length, hdl] at hsb
            have hct := fun W hr => total_any (some ⟨b2, off2 + lv, none⟩) (c2 - lv) (ws'.drop lv) W hr (by omega) (fun x hx => by have := HWO.out x (List.mem_of_mem_drop hx); omega)
            rw [hdl] at hct
            have HR4 := Lib.hid (hr4.below (Nat.le_refl _) ((Below.refl _ W8).drew))
            have HCT := Lib.hid hct
            have hsm := HSM.out
            generalize (l.getD (lv - 1) zs) = g at h1 hgs hsm
            generalize (ws'.drop lv).sum = T at *
            obtain ⟨g1, g2, _, _, _⟩ := hgs
            have hprod := prod_bd (a := -2 * g.half) (b := T) (A := 8388608) (B := 500) ⟨by omega, by omega⟩ ⟨by omega, by omega⟩
            have w1 : IntKind.i64.wrap (-2 * g.half) = -2 * g.half := IntWalk.i64_in _ ⟨by omega, by omega⟩
            have w2 : IntKind.i64.wrap (-2 * g.half * T) = -2 * g.half * T := IntWalk.i64_in _ ⟨by omega, by omega⟩
            have w3 : IntKind.i64.wrap (R + L0) = -2 * g.half * T := by rw [hsm]; exact w2
            have w4 : IntKind.i64.wrap ((lv : Int) - 1) = ((lv - 1 : Nat) : Int) := by rw [IntWalk.i64_in _ ⟨by omega, by omega⟩]; omega
            have hlc : lv < c2 := by have := HWLL.out; omega
            have hle1 : lv ≤ ws'.length := by omega
            have hle2 : (lv : Int) ≤ (ws'.length : Int) := by omega
            have hle3 : (ws'.length : Int) ≤ (c2 : Int) := by omega
            have hle4 : (lv : Int) ≤ (c2 : Int) := by omega
            have hle6 : ¬ c2 = lv := by omega
            have hlci : (lv : Int) < (c2 : Int) := by omega
            have hlwi : (lv : Int) < (ws'.length : Int) := by omega
            have k0 : (0 : Int) ≤ ((lv - 1 : Nat) : Int) := by omega
            have k1 : ((lv - 1 : Nat) : Int) < (l.length : Int) := by omega
            have kd : W8.drew.cell? ⟨b, off + (lv - 1) * 4, none⟩ = some (.int .i64 g.half) := h1
            have HBB := Lib.hid hb
            clear hr4 hct hsm hsb hprod h1 h2 h3 h4 h5 e4 hdl HSM
            go_region_held3 (fun W => W.cell? ⟨b, off + (lv - 1) * 4, none⟩ = some (.int .i64 g.half)) (first | exact kd | exact ka | exact kb | go_keep)
              (first
              | (go_at_call 51; refine (HCT.out _ HR4.out).mono ?_; rintro e v1 ⟨rfl, ha1⟩; have ka := (ha1.cell (p := ⟨b, off + (lv - 1) * 4, none⟩) (by simpa using HBB.out)).trans kd)
              | (go_at_call 25; refine (works_any _).mono ?_; rintro e v2 ⟨rfl, ha2⟩; have kb := (ha2.cell (p := ⟨b, off + (lv - 1) * 4, none⟩) (by have := ha1.size; simp at this; exact Nat.lt_of_lt_of_le HBB.out this)).trans ka))
            all_goals
              go_wp2
              go_ret
              exact ⟨rfl, ((HH8.out.bel.on ((Below.refl _ _).drew)).on ha1).on ha2⟩
end Go.Proofs.Ytffblmhaoekkgaa.prp
