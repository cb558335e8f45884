/- DrainTrapped: the law's body. -/
import Derived.Test.YtlnpibboemphnaaGreatDrnMd
import Derived.Test.YtlnpibboemphnaaGreatDrnLd
import Derived.Test.YtlnpibboemphnaaGreatQa6
import Derived.Test.YtlnpibboemphnaaGreatDrnX1b
import Derived.Test.YtlnpibboemphnaaGreatQa5
import Derived.Test.YtlnpibboemphnaaGreatQa8
import Derived.Deep.CutRange
import Derived.Deep.DeepCutAuto
import Derived.BigRegion
import Derived.BigQuiet
import Derived.Test.YtlnpibboemphnaaGreatKw
namespace Go.Proofs.YtlnpibboemphnaaGreat.drn
open Go.RowKit
open Go.Proofs.YtlnpibboemphnaaGreat.ev (works_any)
set_option linter.unusedSimpArgs false
set_option linter.unusedVariables false
theorem row_snoc {w : World} {base g cap : Nat} {xs : List Int} {n : Int} (h : w.ownsRow base 3 1 (.slice (some ⟨g, 0, none⟩) (xs.length + 1) cap) (xs.length + 1) (flatI xs ++ [.int .i64 n])) : RowV w (some ⟨g, 0, none⟩) (flatI (xs ++ [n])) := by
  obtain ⟨q, c, e, hr⟩ := own_form h (fun h => by omega)
  injection e with e1 _ _
  subst e1
  have e2 : flatI (xs ++ [n]) = flatI xs ++ [.int .i64 n] := by simp [flatI]
  rw [e2]
  exact hr
set_option maxRecDepth 100000 in
set_option maxHeartbeats 8000000 in
theorem DrainTrapped_any (xs : List Int) (st : Int) (hxl : xs.length = 22) (hxo : ∀ x ∈ xs, 0 ≤ x ∧ x ≤ 255) (hst : 0 ≤ st ∧ st ≤ 255) (w : World) :
    Calls Tryz.prog 7 #[.agg (flat8 xs).toArray, .int .u8 st] w fun e w' => e = .returned (.bool true) ∧ Below w.heap.size w w' := by
  have hworks : ∀ W : World, Calls Tryz.prog 18 #[] W fun e w' => e = .returned (.bool true) ∧ Below W.heap.size W w' := fun W => works_any W
  have hx0 := hxo _ (getD_mem xs 0 0 (by omega))
  obtain ⟨n, hn⟩ : ∃ n : Nat, (n : Int) = 1 + xs.getD 0 0 % ((6 : Nat) : Int) := ⟨(1 + xs.getD 0 0 % 6).toNat, by omega⟩
  have n1 : 1 ≤ n := by omega
  have n6 : n ≤ 6 := by omega
  have hE := made_err (m := 10) hxo n1 n6 (by omega)
  have CM := Lib.hid (fun W => made_any xs 6 10 n W hxl hxo (by omega) (by omega) (by omega) hn)
  have hlm : (madeS xs n 10).length ≤ 10 := made_len hxo n 10
  generalize madeS xs n 10 = cs at *
  obtain ⟨n', hnn, hchs⟩ := chs_of hE
  obtain rfl : n = n' := by omega
  have HE := Lib.hid hE
  have HCH := Lib.hid hchs
  have HWK := Lib.hid hworks
  have HXL := Lib.hid hxl
  clear hE hxo hxl hx0 hn hchs hworks hnn
  have b1 := BoxAt.new w xs 25
  have a1 : Below w.heap.size w (w.alloc (.cells (flat8 xs).toArray 25)) := (Below.refl _ _).alloc (Nat.le_refl _) _
  have HB0 := Lib.hid a1
  have HX0 := Lib.hid b1
  clear b1 a1
  go_enter Tryz.func7, Tryz.ntmps7
  go_upto_region 1 with fail
  generalize (w.alloc (.cells (flat8 xs).toArray 25)) = W0 at *
  go_upto_region 2 with (first
    | (refine wpList_loadA xs HXL.out _ HX0.out (.tmp 2) rfl rfl rfl ?_)
    | (go_at_call 11; refine (CM.out _).mono ?_; rintro e W1 ⟨q, c, rfl, hr, hq, hc, hb⟩; unfold hillV))
  have HBW := Lib.hid (HB0.out.on hb)
  obtain ⟨D, hD⟩ : ∃ D, W1.heap.size = D := ⟨_, rfl⟩
  have hv := Cell2.new W1 D hD (.int .i64 n) (.slice q cs.length c) 28
  have A0 : Below W1.heap.size W1 (W1.alloc (.cells #[.int .i64 n, .slice q cs.length c] 28)) := (Below.refl _ _).alloc (Nat.le_refl _) _
  have HD2 : Hid (Bd w (W1.alloc (.cells #[.int .i64 n, .slice q cs.length c] 28)) fun W => Cell2 W D (.int .i64 n) (.slice q cs.length c) ∧ RowV W q (flatT cs)) :=
    Lib.hid ⟨HBW.out.on A0, fun V hV => ⟨hv.below hv.1 hV, (hr.below (Nat.le_refl _) A0).below (Nat.le_refl _) hV⟩⟩
  have HCAP := Lib.hid hc
  have HQ := Lib.hid (fun a (ha : q = some a) => Nat.lt_of_lt_of_le (hq a ha).2 A0.size)
  clear hr hq hc hb A0 hv HB0 HX0 HBW CM
  rw [hD]
  generalize (W1.alloc (.cells #[.int .i64 n, .slice q cs.length c] 28)) = W2 at *
  clear hD

  obtain ⟨⟨v0, v1, v2, v3, v4⟩, _⟩ := HD2.out.at
  obtain ⟨P, HPP, hPe, hP0, hP64, hPn⟩ := two6 n n6
  go_wp2
  go_loopw [7, 8, 9] (fun b u s wl => ∃ (k bst : Nat), 1 ≤ k ∧ k ≤ P ∧ s = .int .i64 k ∧ b = .int .i64 bst ∧ u = .int .i64 (uniS (trapC cs) k : Nat) ∧ bst < 64 ∧ Hid (IsBest (trapC cs) sizeS k bst) ∧ Below W2.heap.size W2 wl) (fun _ _ s _ => P - (intOf s).toNat)
  case atStart => exact ⟨1, 0, Nat.le_refl _, hP0, rfl, rfl, by rw [uniS, if_neg (fun h => by omega)]; rfl, by omega, Lib.hid (IsBest.zero _ _), Below.refl _ _⟩
  case round =>
    obtain ⟨k, bst, hk1, hkP, rfl, rfl, rfl, hb64, HBT, hbl⟩ := hrel
    by_cases hlt : k < P
    · obtain ⟨⟨c0, c1, c2, c3, c4⟩, hrT⟩ := (HD2.out.go hbl).at
      have hk64 : k < 64 := by omega
      have hk2n : k < 2 ^ n := by rw [HPP.out]; exact hlt
      have hout := out_any n k q c cs wr HCH.out hk2n hrT
      unfold hillV at hout
      have hun64 : uniS (trapC cs) k < 64 := pow_64 n6 (uni_lt k (by rw [HPP.out]; exact hkP))
      have HUN := Lib.hid (uniS_step (trapC cs) hk1)
      have hor := or_sets (uniS (trapC cs) k) k hun64 hk64
      have hwk := u64_set k hk64
      have hwb := u64_set bst hb64
      have hki : (k : Int) < (P : Int) := by omega
      have hk0 : ¬ k = 0 := by omega
      by_cases hC : trapC cs k = true
      · have hl0 : (leavingS cs k).length = 0 := by unfold trapC at hC; simpa using hC
        rw [hl0] at hout
        have HOUT := Lib.hid hout
        rw [if_pos hC] at HUN
        generalize uniS (trapC cs) k = un at hun64 HUN hor ⊢
        have HCT := Lib.hid hC
        clear hout hl0 hrT hC
        by_cases hb0 : bst = 0
        · subst hb0
          have HN := Lib.hid (HBT.out.new hk1 HCT.out (.inl rfl))
          go_wp2_with (go_at_call 26; refine HOUT.out.mono ?_; rintro e w1 ⟨rfl, hb1⟩)
          go_roundw
          case rel => exact ⟨k + 1, k, by omega, hlt, by go_num, rfl, by rw [HUN.out], hk64, HN, hbl.on hb1⟩
          case measure => simp [intOf]; omega
        · have hb0i : ¬ (bst : Int) = 0 := by omega
          have hb0b : ((bst : Int) == 0) = false := beq_eq_false_iff_ne.2 hb0i
          have hlk := listS_len k
          have hlb := listS_len bst
          have hone : ∀ s : Nat, s < 64 → ∀ W : World, Calls Tryz.prog 32 #[.int .u64 (s : Int)] W fun e w' => e = .returned (.int .i64 (sizeS s : Nat)) ∧ W = w' := fun s hs W => ones_any s W hs
          have hnew := fun h => HBT.out.new hk1 HCT.out (.inr h)
          have hold := fun h => HBT.out.old hk64 hb0 h
          unfold Bet at hnew hold
          generalize (sizeS : Nat → Nat) = sz at hone hnew hold HBT
          have HONE := Lib.hid hone
          have HNEW := Lib.hid hnew
          have HOLD := Lib.hid hold
          clear hone hnew hold
          by_cases hs1 : sz k < sz bst
          · have HN := Lib.hid (HNEW.out (.inl hs1))
            have hs1i : (sz k : Int) < (sz bst : Int) := by omega
            have hs1b : decide ((sz k : Int) < (sz bst : Int)) = true := decide_eq_true hs1i
            clear hs1
            go_wp2_with (first
              | (go_at_call 26; refine HOUT.out.mono ?_; rintro e w1 ⟨rfl, hb1⟩)
              | (go_at_call 32; refine (HONE.out _ (by first | exact hk64 | exact hb64) _).mono ?_; rintro e wo ⟨rfl, hwo⟩; subst hwo))
            go_roundw
            case rel => exact ⟨k + 1, k, by omega, hlt, by go_num, rfl, by rw [HUN.out], hk64, HN, hbl.on hb1⟩
            case measure => simp [intOf]; omega
          · have hs1i : ¬ (sz k : Int) < (sz bst : Int) := by omega
            have hs1b : decide ((sz k : Int) < (sz bst : Int)) = false := decide_eq_false hs1i
            have HS1 := Lib.hid hs1
            by_cases hs2 : sz k = sz bst
            · have HS2 := Lib.hid hs2
              have hs2b : ((sz k : Int) == (sz bst : Int)) = true := by simp [hs2]
              clear hs1 hs2
              by_cases hc : cmpI (listS k) (listS bst) < 0
              · have HN := Lib.hid (HNEW.out (.inr ⟨HS2.out, (cmpI_lex _ _).1 hc⟩))
                have hcb : decide (cmpI (listS k) (listS bst) < 0) = true := decide_eq_true hc
                go_wp2_with (first
              | (go_at_call 26; refine HOUT.out.mono ?_; rintro e w1 ⟨rfl, hb1⟩)
              | (go_at_call 32; refine (HONE.out _ (by first | exact hk64 | exact hb64) _).mono ?_; rintro e wo ⟨rfl, hwo⟩; subst hwo)
              | (go_at_call 24; have hx := hr2; refine (members_any _ _ hb64).mono ?_; rintro e w3 ⟨z3, rfl, hown3, hb3⟩; obtain ⟨r3, d3, rfl, hr3⟩ := own_form hown3 (by intro h; rw [List.length_eq_zero_iff] at h; rw [h]; rfl))
              | (go_at_call 24; refine (members_any _ _ hk64).mono ?_; rintro e w2 ⟨z2, rfl, hown2, hb2⟩; obtain ⟨r2, d2, rfl, hr2⟩ := own_form hown2 (by intro h; rw [List.length_eq_zero_iff] at h; rw [h]; rfl))
              | (go_at_call 23; refine (compare_any r2 r3 d2 d3 (listS k) (listS bst) _ (hr2.below (Nat.le_refl _) hb3) hr3 (by omega) (by omega)).mono ?_; rintro e w4 ⟨rfl, hw4⟩; subst hw4))
                go_roundw
                case rel => exact ⟨k + 1, k, by omega, hlt, by go_num, rfl, by rw [HUN.out], hk64, HN, ((hbl.on hb1).on hb2).on hb3⟩
                case measure => simp [intOf]; omega
              · have HN := Lib.hid (HOLD.out (fun h => by rcases h with h | ⟨_, h⟩; exact absurd h HS1.out; exact hc ((cmpI_lex _ _).2 h)))
                have hcb : decide (cmpI (listS k) (listS bst) < 0) = false := decide_eq_false hc
                go_wp2_with (first
              | (go_at_call 26; refine HOUT.out.mono ?_; rintro e w1 ⟨rfl, hb1⟩)
              | (go_at_call 32; refine (HONE.out _ (by first | exact hk64 | exact hb64) _).mono ?_; rintro e wo ⟨rfl, hwo⟩; subst hwo)
              | (go_at_call 24; have hx := hr2; refine (members_any _ _ hb64).mono ?_; rintro e w3 ⟨z3, rfl, hown3, hb3⟩; obtain ⟨r3, d3, rfl, hr3⟩ := own_form hown3 (by intro h; rw [List.length_eq_zero_iff] at h; rw [h]; rfl))
              | (go_at_call 24; refine (members_any _ _ hk64).mono ?_; rintro e w2 ⟨z2, rfl, hown2, hb2⟩; obtain ⟨r2, d2, rfl, hr2⟩ := own_form hown2 (by intro h; rw [List.length_eq_zero_iff] at h; rw [h]; rfl))
              | (go_at_call 23; refine (compare_any r2 r3 d2 d3 (listS k) (listS bst) _ (hr2.below (Nat.le_refl _) hb3) hr3 (by omega) (by omega)).mono ?_; rintro e w4 ⟨rfl, hw4⟩; subst hw4))
                go_roundw
                case rel => exact ⟨k + 1, bst, by omega, hlt, by go_num, rfl, by rw [HUN.out], hb64, HN, ((hbl.on hb1).on hb2).on hb3⟩
                case measure => simp [intOf]; omega
            · have hs2b : ((sz k : Int) == (sz bst : Int)) = false := beq_eq_false_iff_ne.2 (by omega)
              have HN := Lib.hid (HOLD.out (fun h => by rcases h with h | ⟨h, _⟩; exact absurd h HS1.out; exact hs2 h))
              have hs2i : ¬ (sz k : Int) = (sz bst : Int) := by omega
              clear hs1 hs2
              go_wp2_with (first
              | (go_at_call 26; refine HOUT.out.mono ?_; rintro e w1 ⟨rfl, hb1⟩)
              | (go_at_call 32; refine (HONE.out _ (by first | exact hk64 | exact hb64) _).mono ?_; rintro e wo ⟨rfl, hwo⟩; subst hwo))
              go_roundw
              case rel => exact ⟨k + 1, bst, by omega, hlt, by go_num, rfl, by rw [HUN.out], hb64, HN, hbl.on hb1⟩
              case measure => simp [intOf]; omega
      · have hl0 : 0 < (leavingS cs k).length := by unfold trapC at hC; have h9 : ¬ (leavingS cs k).length = 0 := (by simpa using hC); omega
        have HOUT := Lib.hid hout
        rw [if_neg hC] at HUN
        have HN := Lib.hid (HBT.out.no (by simpa using hC))
        generalize (leavingS cs k).length = lv at HOUT hl0
        have hl0i : (0 : Int) < (lv : Int) := by omega
        clear hout hrT hC
        go_wp2_with (go_at_call 26; refine HOUT.out.mono ?_; rintro e w1 ⟨rfl, hb1⟩)
        go_roundw
        case rel => exact ⟨k + 1, bst, by omega, hlt, by go_num, rfl, by rw [HUN.out], hb64, HN, hbl.on hb1⟩
        case measure => simp [intOf]; omega
    · obtain rfl : k = P := by omega
      have HBL := Lib.hid hbl
      have hbest : IsBest (trapC cs) sizeS (2 ^ n) bst := by rw [HPP.out]; exact HBT.out
      have htr := trap_is HE.out n6 hbest
      have hst2 := stuck_is HE.out n6 HCH.out.ok
      rw [HPP.out] at hst2
      have htp := trap_plans HCH.out hbest
      have hu64 : uniS (trapC cs) k < 64 := pow_64 n6 (uni_lt k (by rw [HPP.out]; exact Nat.le_refl _))
      generalize uniS (trapC cs) k = un at hst2 hu64 ⊢
      have htr2 : trapOf n cs = (listS bst, if bst = 0 then 13 else 0) := by
        rw [htr]
        by_cases h : bst = 0
        · rw [if_pos h, if_pos h, h, listS_zero]
        · rw [if_neg h, if_neg h]
      obtain ⟨eT, heT⟩ : ∃ e : Int, (if bst = 0 then (13 : Int) else 0) = e := ⟨_, rfl⟩
      rw [heT] at htr2
      have hrow := fun W (hb : Below W2.heap.size W2 W) => (HD2.out.go hb).at.2
      have htA := fun W (hb : Below W2.heap.size W2 W) => Trap_any n q c cs W (hrow W hb) HCAP.out
      have hsA := fun W (hb : Below W2.heap.size W2 W) => Stuck_any n q c cs W (hrow W hb) HCAP.out
      have hpA := fun W (hb : Below W2.heap.size W2 W) => plans_any n c q cs W HCH.out (hrow W hb) (fun a ha => Nat.lt_of_lt_of_le (HQ.out a ha) hb.size)
      simp only [Int.toNat_natCast, htr2] at htA
      simp only [Int.toNat_natCast, hst2] at hsA
      unfold hillV at htA hsA hpA
      have hpl := plansS_len HCH.out
      generalize plansS n cs = ps at htp hpA hpl
      have HTA := Lib.hid htA
      have HSA := Lib.hid hsA
      have HPA := Lib.hid hpA
      have HTP := Lib.hid htp
      have HET := Lib.hid heT
      obtain ⟨⟨y0, y1, y2, y3, y4⟩, _⟩ := (HD2.out.go HBL.out).at
      clear hbl hbest htr hst2 htp htr2 heT hrow htA hsA hpA HBT v0 v1 v2 v3 v4 hlt
      go_upto_region 12 with (go_at_call 36; refine (HTA.out _ HBL.out).mono ?_; rintro e W3 ⟨q3, c3, rfl, hr3, _, _, hb3⟩)
      have HB3 := Lib.hid (HBL.out.on hb3)
      have HR3 := Lib.hid hr3
      obtain ⟨⟨u0, u1, u2, u3, u4⟩, _⟩ := (HD2.out.go HB3.out).at
      clear hb3 hr3 y0 y1 y2 y3 y4
      go_upto_region 13 with (go_at_call 37; refine (HSA.out _ HB3.out).mono ?_; rintro e W4 ⟨q4, c4, rfl, hr4, _, _, hb4⟩)
      have HB4 := Lib.hid (HB3.out.on hb4)
      have HR3b := Lib.hid (HR3.out.below (Nat.le_refl _) hb4)
      have HR4 := Lib.hid hr4
      obtain ⟨⟨t0, t1, t2, t3, t4⟩, _⟩ := (HD2.out.go HB4.out).at
      clear hb4 hr4 u0 u1 u2 u3 u4 HR3
      go_upto_region 14 with (go_at_call 12; refine (HPA.out _ HB4.out).mono ?_; rintro e W5 ⟨q5, c5, vs5, q6, c6, rfl, _, _, _, _, hb5⟩)
      have HB5 := Lib.hid (HB4.out.on hb5)
      have HR3 := Lib.hid (HR3b.out.below (Nat.le_refl _) hb5)
      have HR4b := Lib.hid (HR4.out.below (Nat.le_refl _) hb5)
      clear hb5 t0 t1 t2 t3 t4 HR3b HR4
      go_cut [121] (fun v W => v = .bool false ∧ Below W5.heap.size W5 W)
      case first =>
        have hlu := listS_len un
        have hlb := listS_len bst
        by_cases hb0 : bst = 0
        · have hne : ps ≠ [] := fun h => HTP.out.1 h hb0
          have hle : 0 < ps.length := List.length_pos_iff.2 hne
          have hl0 : ((ps.length : Int) == 0) = false := beq_eq_false_iff_ne.2 (by omega)
          have he : eT = 13 := by rw [← HET.out, if_pos hb0]
          have hb1 : ((bst : Int) == 0) = true := beq_iff_eq.2 (by omega)
          have hb2 : ((bst : Int) != 0) = false := by simp [hb0]
          subst he
          clear hb0 hne
          go_wp2_with (first
            | (go_at_call 24; have hx := hrU; refine (members_any _ _ hb64).mono ?_; rintro e w2 ⟨z2, rfl, hown2, hbM2⟩; obtain ⟨r2, d2, rfl, hrB⟩ := own_form hown2 (by intro h; rw [List.length_eq_zero_iff] at h; rw [h]; rfl); have hR3b := ((HR3.out.below (Nat.le_refl _) hbM1).below (Nat.le_refl _) hbS1).below (Nat.le_refl _) hbM2)
            | (go_at_call 24; refine (members_any _ _ hu64).mono ?_; rintro e w1 ⟨z1, rfl, hown1, hbM1⟩; obtain ⟨r1, d1, rfl, hrU⟩ := own_form hown1 (by intro h; rw [List.length_eq_zero_iff] at h; rw [h]; rfl); have hR4 := HR4b.out.below (Nat.le_refl _) hbM1)
            | (go_at_call 20; have hx := hrB; refine (same_any q3 r2 c3 d2 (listS bst) (listS bst) _ hR3b hrB (by omega) (by omega)).mono ?_; rintro e w4 ⟨rfl, hbS2⟩)
            | (go_at_call 20; refine (same_any q4 r1 c4 d1 (listS un) (listS un) _ hR4 hrU (by omega) (by omega)).mono ?_; rintro e w3 ⟨rfl, hbS1⟩))
          go_meet
          exact ⟨rfl, ((hbM1.on hbS1).on hbM2).on hbS2⟩
        · have hnil : ps = [] := HTP.out.2 hb0
          have hl0 : ((ps.length : Int) == 0) = true := by rw [hnil]; rfl
          have he : eT = 0 := by rw [← HET.out, if_neg hb0]
          have hb1 : ((bst : Int) == 0) = false := beq_eq_false_iff_ne.2 (by omega)
          have hb2 : ((bst : Int) != 0) = true := by simpa using hb0
          subst he
          clear hb0 hnil
          go_wp2_with (first
            | (go_at_call 24; have hx := hrU; refine (members_any _ _ hb64).mono ?_; rintro e w2 ⟨z2, rfl, hown2, hbM2⟩; obtain ⟨r2, d2, rfl, hrB⟩ := own_form hown2 (by intro h; rw [List.length_eq_zero_iff] at h; rw [h]; rfl); have hR3b := ((HR3.out.below (Nat.le_refl _) hbM1).below (Nat.le_refl _) hbS1).below (Nat.le_refl _) hbM2)
            | (go_at_call 24; refine (members_any _ _ hu64).mono ?_; rintro e w1 ⟨z1, rfl, hown1, hbM1⟩; obtain ⟨r1, d1, rfl, hrU⟩ := own_form hown1 (by intro h; rw [List.length_eq_zero_iff] at h; rw [h]; rfl); have hR4 := HR4b.out.below (Nat.le_refl _) hbM1)
            | (go_at_call 20; have hx := hrB; refine (same_any q3 r2 c3 d2 (listS bst) (listS bst) _ hR3b hrB (by omega) (by omega)).mono ?_; rintro e w4 ⟨rfl, hbS2⟩)
            | (go_at_call 20; refine (same_any q4 r1 c4 d1 (listS un) (listS un) _ hR4 hrU (by omega) (by omega)).mono ?_; rintro e w3 ⟨rfl, hbS1⟩))
          go_meet
          exact ⟨rfl, ((hbM1.on hbS1).on hbM2).on hbS2⟩
      case rest =>
      obtain ⟨rfl, hbc⟩ := hcut
      have HBC := Lib.hid (HB5.out.on hbc)
      obtain ⟨⟨x0, x1, x2, x3, x4⟩, hrT⟩ := (HD2.out.go HBC.out).at
      have HRT := Lib.hid hrT
      clear hbc hrT HR3 HR4b HB5 HB4 HB3 HTA HSA HPA HTP HET
      go_upto_region 17 with fail
      obtain ⟨S, hS⟩ : ∃ S : Nat, st % (k : Int) = S := ⟨(st % (k : Int)).toNat, by have := Int.emod_nonneg st hPn; omega⟩
      have hSP : S < k := by have := Int.emod_lt_of_pos st (show (0 : Int) < k by omega); omega
      rw [hS]
      have hS64 : S < 64 := by omega
      have hS2n : S < 2 ^ n := by rw [HPP.out]; exact hSP
      have hlS := listS_len S
      have hlv : ∀ W, Below W2.heap.size W2 W → ∀ q7 c7 l, l.length ≤ 1000000 → RowV W q7 (flatI l) → Calls Tryz.prog 38 #[.agg #[.int .i64 n, .slice q cs.length c], .slice q7 l.length c7] W (RetI W (leavesOf n cs l).1 (leavesOf n cs l).2) := by
        intro W hb q7 c7 l hl hr7
        have h := Leaves_any n q c cs q7 c7 l W (HD2.out.go hb).at.2 HCAP.out hr7 hl
        rw [Int.toNat_natCast] at h
        unfold hillV at h
        exact h
      have h1l := leaves_listS HE.out n6 hS2n
      have h2l := leaves_end HE.out hS2n
      have HLV := Lib.hid hlv
      have H1L := Lib.hid h1l
      have H2L := Lib.hid h2l
      clear hS hlv h1l h2l hPe hP0 hPn
      by_cases hS0 : S = 0
      · rw [if_pos hS0] at H1L
        have hlv2 : ∀ W, Below W2.heap.size W2 W → ∀ q7 c7, RowV W q7 (flatI (listS S)) → Calls Tryz.prog 38 #[.agg #[.int .i64 n, .slice q cs.length c], .slice q7 (listS S).length c7] W (RetI W [] 4) := by
          intro W hb q7 c7 hr7
          have h := HLV.out W hb q7 c7 (listS S) (by omega) hr7
          rw [H1L.out] at h
          exact h
        have HLV2 := Lib.hid hlv2
        clear hlv2
        have HS0 := Lib.hid hS0
        clear hS0
        go_region_held3 (fun W => W.cell? ⟨D, 0, none⟩ = some (.int .i64 n) ∧ W.cell? ⟨D, 1, none⟩ = some (.slice q cs.length c)) (first | exact ⟨x1, x2⟩ | exact ⟨e1, e2⟩ | exact ⟨f1, f2⟩ | go_keep)
          (first
            | (go_at_call 24; refine (members_any _ _ hS64).mono ?_; rintro e w7 ⟨z7, rfl, hown7, hb7'⟩; have hb7 := ((Below.refl _ _).drew).on hb7'; obtain ⟨r7, d7, rfl, hr7⟩ := own_form hown7 (by intro h; rw [List.length_eq_zero_iff] at h; rw [h]; rfl); have e1 := (hb7.cell (p := ⟨D, 0, none⟩) x0).trans x1; have e2 := (hb7.cell (p := ⟨D, 1, none⟩) x0).trans x2; have hz7 : D < w7.heap.size := Nat.lt_of_lt_of_le x0 hb7.size)
            | (go_at_call 38; refine (HLV2.out _ (HBC.out.on hb7) r7 d7 hr7).mono ?_; rintro e w8 ⟨q8, c8, rfl, hr8, _, _, hb8⟩; have f1 := (hb8.cell (p := ⟨D, 0, none⟩) hz7).trans e1; have f2 := (hb8.cell (p := ⟨D, 1, none⟩) hz7).trans e2)
            | fail)
        have hS0b : ((S : Int) == 0) = true := beq_iff_eq.2 (by have := HS0.out; omega)
        go_wp2_with (go_at_call 18; refine (HWK.out _).mono ?_; rintro e wz ⟨rfl, hbz⟩)
        go_ret
        exact ⟨rfl, HD2.out.bel.on ((HBC.out.on (hb7.on hb8)).on hbz)⟩
      · rw [if_neg hS0] at H1L
        have hlv2 : ∀ W, Below W2.heap.size W2 W → ∀ q7 c7, RowV W q7 (flatI (listS S)) → Calls Tryz.prog 38 #[.agg #[.int .i64 n, .slice q cs.length c], .slice q7 (listS S).length c7] W (RetI W (leavingS cs S) 0) := by
          intro W hb q7 c7 hr7
          have h := HLV.out W hb q7 c7 (listS S) (by omega) hr7
          rw [H1L.out] at h
          exact h
        have HLV2 := Lib.hid hlv2
        clear hlv2
        go_region_held3 (fun W => W.cell? ⟨D, 0, none⟩ = some (.int .i64 n) ∧ W.cell? ⟨D, 1, none⟩ = some (.slice q cs.length c)) (first | exact ⟨x1, x2⟩ | exact ⟨e1, e2⟩ | exact ⟨f1, f2⟩ | go_keep)
          (first
            | (go_at_call 24; refine (members_any _ _ hS64).mono ?_; rintro e w7 ⟨z7, rfl, hown7, hb7'⟩; have hb7 := ((Below.refl _ _).drew).on hb7'; obtain ⟨r7, d7, rfl, hr7⟩ := own_form hown7 (by intro h; rw [List.length_eq_zero_iff] at h; rw [h]; rfl); have e1 := (hb7.cell (p := ⟨D, 0, none⟩) x0).trans x1; have e2 := (hb7.cell (p := ⟨D, 1, none⟩) x0).trans x2; have hz7 : D < w7.heap.size := Nat.lt_of_lt_of_le x0 hb7.size)
            | (go_at_call 38; refine (HLV2.out _ (HBC.out.on hb7) r7 d7 hr7).mono ?_; rintro e w8 ⟨q8, c8, rfl, hr8, _, _, hb8⟩; have f1 := (hb8.cell (p := ⟨D, 0, none⟩) hz7).trans e1; have f2 := (hb8.cell (p := ⟨D, 1, none⟩) hz7).trans e2)
            | fail)
        have hS0b : ((S : Int) == 0) = false := beq_eq_false_iff_ne.2 (by omega)
        have HB8 := Lib.hid (HBC.out.on (hb7.on hb8))
        have HRT8 := Lib.hid (HRT.out.below (Nat.le_refl _) (hb7.on hb8))
        have HR8 := Lib.hid hr8
        have HS0 := Lib.hid hS0
        clear hS0 hr8 hr7 hown7 hb7' hb7 hb8 e1 e2 x1 x2 x3 x4
        go_wp2
        go_loopw [18, 144] (fun v i wl => ∃ t : Nat, t ≤ cs.length ∧ i = .int .i64 t ∧ Hid (wl.ownsRow w8.heap.size 3 1 v (rangeF (fun i => leavesS S (cs.getD i (0, 0, 0))) t).length (flatI (rangeF (fun i => leavesS S (cs.getD i (0, 0, 0))) t))) ∧ Below w8.heap.size w8 wl) (fun _ i _ => cs.length - (intOf i).toNat)
        case atStart => exact ⟨0, Nat.zero_le _, rfl, Lib.hid (World.ownsRow_nil _ _ _ _), Below.refl _ _⟩
        case round =>
          obtain ⟨t, ht, rfl, HO, hbl⟩ := hrel
          by_cases htl : t < cs.length
          · obtain ⟨b3, off3, rfl, hb3, g1, g2, g3⟩ := rowT_at HRT8.out htl (Nat.le_refl _) hbl
            have hst := rangeF_succ (fun i => leavesS S (cs.getD i (0, 0, 0))) t
            have hle := rangeF_len (fun i => leavesS S (cs.getD i (0, 0, 0))) t
            have hok := getD_ok HCH.out.ok htl
            generalize rangeF (fun i => leavesS S (cs.getD i (0, 0, 0))) t = ys at HO hst hle
            generalize cs.getD t (0, 0, 0) = ch at g1 g2 g3 hst hok
            obtain ⟨h1, h2, h3⟩ := ch
            obtain ⟨k1, k2, k3⟩ := hok
            obtain ⟨a, rfl⟩ : ∃ a : Nat, h1 = a := ⟨h1.toNat, by simp at k1; omega⟩
            obtain ⟨d, rfl⟩ : ∃ d : Nat, h2 = d := ⟨h2.toNat, by simp at k2; omega⟩
            have ha : a < 6 := by simp at k1; omega
            have hd : d < 7 := by simp at k2; omega
            have u1 := bit_i S a hS64
            have u2 := bit_i0 S d hS64
            have hlv : leavesS S ((a : Int), (d : Int), h3) = (S.testBit a && !S.testBit d) := by
              unfold leavesS inS
              simp
            rw [hlv] at hst
            have HST := Lib.hid hst
            have hti : (t : Int) < (cs.length : Int) := by omega
            have hz8 := hbl.size
            dsimp only at g1 g2 g3
            clear hst hlv k1 k2 k3
            go_upto_region 24 with fail
            obtain ⟨WA, hWA⟩ : ∃ WA, wr.alloc (.cells #[.int .i64 (a : Int), .int .i64 (d : Int), .int .i64 h3] 49) = WA := ⟨_, rfl⟩
            have hbA : Below wr.heap.size wr WA := by rw [← hWA]; exact (Below.refl _ _).alloc (Nat.le_refl _) _
            have hblA : Below w8.heap.size w8 WA := hbl.on hbA
            have s0 : WA.cell? ⟨wr.heap.size, 0, none⟩ = some (.int .i64 (a : Int)) := by rw [← hWA]; simp
            have s1 : WA.cell? ⟨wr.heap.size, 1, none⟩ = some (.int .i64 (d : Int)) := by rw [← hWA]; simp
            have HOA := Lib.hid (owns_below HO.out (Nat.le_refl _) hbA)
            have hzA := hblA.size
            rw [hWA]
            clear hWA hbA g1 g2 g3 hbl
            cases hp : S.testBit a with
            | false =>
              rw [hp] at u1 HST
              go_wp2
              go_roundw
              case rel => exact ⟨t + 1, htl, by go_num, Lib.hid (by rw [HST.out]; simpa using HOA.out), hblA⟩
              case measure => simp [intOf]; omega
            | true =>
              rw [hp] at u1 HST
              cases hq : S.testBit d with
              | true =>
                rw [hq] at u2 HST
                go_wp2
                go_roundw
                case rel => exact ⟨t + 1, htl, by go_num, Lib.hid (by rw [HST.out]; simpa using HOA.out), hblA⟩
                case measure => simp [intOf]; omega
              | false =>
                rw [hq] at u2 HST
                go_wp2_with (at_builtin; refine app_int _ rfl (.tmp 163) (.tmp 165) rfl w8.heap.size _ ys (t : Int) rfl (HOA.out.alloc _) WA.heap.size 1 rfl (by simp) (by omega) (by simp; omega) ?_; intro v2 w2 hown2 hgr2 hbk2; have hb2 : Below w8.heap.size w8 w2 := hblA.trans (((Below.refl _ _).alloc hzA _).trans (grown_below (HOA.out.alloc _) (by simp; omega) hgr2)))
                go_roundw
                case rel => exact ⟨t + 1, htl, by go_num, Lib.hid (by rw [HST.out]; simpa using hown2), hb2⟩
                case measure => simp [intOf]; omega
          · obtain rfl : t = cs.length := by omega
            obtain ⟨⟨p0, p1, p2, p3, p4⟩, _⟩ := ((HD2.out.go HB8.out).go hbl).at
            have hO := HO.out
            rw [← leavingS_eq cs S] at hO
            obtain ⟨qw, cw, rfl, hrw⟩ := own_form hO (by intro h; rw [List.length_eq_zero_iff.1 h]; rfl)
            have HRW := Lib.hid hrw
            have HRL := Lib.hid (HR8.out.below (Nat.le_refl _) hbl)
            have HBW := Lib.hid (HB8.out.on hbl)
            have hlv3 : ∀ W, Below W2.heap.size W2 W → ∀ q7 c7, RowV W q7 (flatI (listS S ++ [(n : Int)])) → Calls Tryz.prog 38 #[.agg #[.int .i64 n, .slice q cs.length c], .slice q7 ((listS S).length + 1) c7] W (RetI W [] 2) := by
              intro W hb q7 c7 hr7
              have h := HLV.out W hb q7 c7 (listS S ++ [(n : Int)]) (by simp; omega) hr7
              rw [H2L.out, List.length_append] at h
              exact h
            have HLV3 := Lib.hid hlv3
            have hll : (leavingS cs S).length ≤ 1000000 := by rw [leavingS_eq]; exact Nat.le_trans (rangeF_len _ _) (by omega)
            clear hO hrw hlv3 HO hbl
            go_upto_region 27 with fail
            go_region_held3 (fun W => W.cell? ⟨D, 0, none⟩ = some (.int .i64 n) ∧ W.cell? ⟨D, 1, none⟩ = some (.slice q cs.length c)) (first | exact ⟨p1, p2⟩ | exact ⟨e1, e2⟩ | exact ⟨f1, f2⟩ | exact ⟨o1, o2⟩ | go_keep)
              (first
                | (go_at_call 24; refine (members_any _ _ hS64).mono ?_; rintro e w9 ⟨z9, rfl, hown9, hb9'⟩; have hb9 : Below wr.heap.size wr w9 := ((Below.refl _ _).drew).on hb9'; obtain ⟨r9, d9, rfl, hr9⟩ := own_form hown9 (by intro h; rw [List.length_eq_zero_iff] at h; rw [h]; rfl); have e1 := (hb9.cell (p := ⟨D, 0, none⟩) p0).trans p1; have e2 := (hb9.cell (p := ⟨D, 1, none⟩) p0).trans p2; have hz9 : D < w9.heap.size := Nat.lt_of_lt_of_le p0 hb9.size)
                | (go_at_call 24; refine (members_any _ _ hS64).mono ?_; rintro e w9 ⟨z9, rfl, hown9, hb9'⟩; have hb9 : Below wr.heap.size wr w9 := ((((Below.refl wr.heap.size wr).drew).alloc (Nat.le_refl _) _)).on hb9'; have hcB : w9.cell? ⟨wr.heap.size, 0, none⟩ = some (.int .i64 (n : Int)) := (hb9'.cell (p := ⟨wr.heap.size, 0, none⟩) (by simp)).trans (by simp); obtain ⟨r9, d9, rfl, hr9⟩ := own_form hown9 (by intro h; rw [List.length_eq_zero_iff] at h; rw [h]; rfl); have e1 := (hb9.cell (p := ⟨D, 0, none⟩) p0).trans p1; have e2 := (hb9.cell (p := ⟨D, 1, none⟩) p0).trans p2; have hz9 : D < w9.heap.size := Nat.lt_of_lt_of_le p0 hb9.size)
                | (go_at_call 38; refine (HLV3.out _ (HBW.out.on hbX) (some ⟨gx, 0, none⟩) cx hrX).mono ?_; rintro e wY ⟨qY, cY, rfl, _, _, _, hbY⟩; have o1 := (hbY.cell (p := ⟨D, 0, none⟩) hzX).trans f1; have o2 := (hbY.cell (p := ⟨D, 1, none⟩) hzX).trans f2)
                | (have hx := hcB; refine step_one _ (by rfl) (.tmp 171) (.tmp 173) 31 (by rfl) _ 3 _ 1 8 Tryz.underlying31 infoI rfl (by decide) (by decide) (.slice r9 (listS S).length d9) (listS S).length (flatI (listS S)) rfl hown9 wr.heap.size 1 rfl [.int .i64 (n : Int)] rfl ?_ ?_ (by omega) hb9'.size ?_; (focus (intro j u hj; match j, hj with | 0, hj => (simp at hj; subst hj; exact hcB))); (focus (intro u hu; simp at hu; subst hu; rfl)); intro gx cx wX hownX hgrX hbkX hgzX; have hND : (Value.slice r9 (listS S).length d9).ownBlock ≠ some D := (fun e => by have h9 := (hown9.lt _ e).1; simp at h9; omega); have f1 := hgrX.cell e1 (by first | exact fun e => hND e | exact fun e => hND e.symm); have f2 := hgrX.cell e2 (by first | exact fun e => hND e | exact fun e => hND e.symm); have hbX : Below wr.heap.size wr wX := hb9.trans ((grown_below hown9 hb9'.size hgrX).mono (by simp)); have hzX : D < wX.heap.size := Nat.lt_of_lt_of_le p0 hbX.size; have hrX : RowV wX (some ⟨gx, 0, none⟩) (flatI (listS S ++ [(n : Int)])) := (row_snoc hownX))
                | (refine step_one _ (by rfl) (.tmp 171) (.tmp 173) 31 (by rfl) _ 3 _ 1 8 Tryz.underlying31 infoI rfl (by decide) (by decide) (.slice r9 (listS S).length d9) (listS S).length (flatI (listS S)) rfl (hown9.alloc _) w9.heap.size 1 rfl [.int .i64 (n : Int)] rfl ?_ ?_ (by omega) (by have := hb9.size; simp; omega) ?_; (focus (intro j u hj; match j, hj with | 0, hj => (simp at hj; subst hj; simp))); (focus (intro u hu; simp at hu; subst hu; rfl)); intro gx cx wX hownX hgrX hbkX hgzX; have hbE : Below w9.heap.size w9 (w9.alloc (.cells #[.int .i64 (n : Int)] 3)) := (Below.refl _ _).alloc (Nat.le_refl _) _; have hND : (Value.slice r9 (listS S).length d9).ownBlock ≠ some D := (fun e => by have h9 := (hown9.lt _ e).1; simp at h9; omega); have f1 := hgrX.cell ((hbE.cell (p := ⟨D, 0, none⟩) hz9).trans e1) (by first | exact fun e => hND e | exact fun e => hND e.symm); have f2 := hgrX.cell ((hbE.cell (p := ⟨D, 1, none⟩) hz9).trans e2) (by first | exact fun e => hND e | exact fun e => hND e.symm); have hbX : Below wr.heap.size wr wX := (hb9.on hbE).trans (grown_below (hown9.alloc _) (by have := hb9.size; simp; omega) hgrX); have hzX : D < wX.heap.size := Nat.lt_of_lt_of_le p0 hbX.size; have hrX : RowV wX (some ⟨gx, 0, none⟩) (flatI (listS S ++ [(n : Int)])) := (row_snoc hownX))
                | fail)
            all_goals
              have hbE2 : Below wr.heap.size wr wY := hbX.on hbY
              have hr1 := HRL.out.below (Nat.le_refl _) hbE2
              have hr2 := HRW.out.below (Nat.le_refl _) hbE2
              have hsm := same_any q8 qw c8 cw (leavingS cs S) (leavingS cs S) wY hr1 hr2 hll hll
              rw [beq_self_eq_true] at hsm
              have HSM := Lib.hid hsm
              clear hsm hr1 hr2
              go_wp2_with (first
                | (go_at_call 20; refine HSM.out.mono ?_; rintro e wS ⟨rfl, hbS⟩)
                | (go_at_call 18; refine (HWK.out _).mono ?_; rintro e wz ⟨rfl, hbz⟩))
              go_ret
              exact ⟨rfl, HD2.out.bel.on (((HBW.out.on hbE2).on hbS).on hbz)⟩
end Go.Proofs.YtlnpibboemphnaaGreat.drn
