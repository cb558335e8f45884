/- DrainWorth: the law's body (begun). -/
import Derived.Test.YtadamjleglckpaaGreatDrnMd
import Derived.Test.YtadamjleglckpaaGreatQa7
import Derived.Test.YtadamjleglckpaaGreatQa8
import Derived.Test.YtadamjleglckpaaGreatQa6
import Derived.Test.YtadamjleglckpaaGreatQa9
import Derived.Deep.CutRange
import Derived.Deep.DeepCutAuto
import Derived.BigRegion
import Derived.BigQuiet
import Derived.Test.YtadamjleglckpaaGreatKw

namespace Go.Proofs.YtadamjleglckpaaGreat.drn
open Go.RowKit
open Go.Proofs.YtadamjleglckpaaGreat.ev (works_any)
set_option linter.unusedSimpArgs false
set_option linter.unusedVariables false
theorem hav_snoc (i : Int) (ps : List (List Int)) (l : List Int) : hav i (ps ++ [l]) = if l.any (· == i) = true then hav i ps ++ [l] else hav i ps := by
  unfold hav
  rw [List.filter_append]
  simp only [List.filter_cons, List.filter_nil]
  split <;> simp
theorem oth_snoc (i : Int) (ps : List (List Int)) (l : List Int) : oth i (ps ++ [l]) = if l.any (· == i) = true then oth i ps else oth i ps ++ [l] := by
  unfold oth
  rw [List.filter_append]
  simp only [List.filter_cons, List.filter_nil]
  cases h : l.any (· == i) <;> simp
theorem cell_lt' {w : World} {b o : Nat} {v : Value} (h : w.cell? ⟨b, o, none⟩ = some v) : b < w.heap.size := by
  unfold World.cell? at h
  split at h
  · rename_i c e f hh
    exact (Array.getElem?_eq_some_iff.1 hh).1
  · cases h
theorem cell_keep {w w' : World} {b o : Nat} {v : Value} (h : w.cell? ⟨b, o, none⟩ = some v) (hb : Below w.heap.size w w') : w'.cell? ⟨b, o, none⟩ = some v := (hb.cell (p := ⟨b, o, none⟩) (cell_lt' h)).trans h
/-- what the law finds at the other cost -/
theorem priced_facts {n p : Nat} {cs : List Ch} {Y mo : Int} (hne : plansS n cs ≠ []) (h : errD n (priced cs p Y) = 0 ∧ plansS n (priced cs p Y) = plansS n cs ∧ leastS (priced cs p Y) (plansS n cs) = mo) :
    leastOf n (priced cs p Y) = (mo, 0) ∧ ∃ M : Nat, equalOf n (priced cs p Y) = ((M : Int), 0) ∧ Chs n (priced cs p Y) ∧ ∀ w e w', CheapPost w n (priced cs p Y) e w' → ∃ q c p', e = .returned (.tuple #[.slice q (List.length (α := Int) p') c, .int .i64 mo, .int .i64 M]) ∧ Below w.heap.size w w' := by
  obtain ⟨h1, h2, h3⟩ := h
  have hl : ¬ (plansS n cs).length = 0 := fun e => hne (List.length_eq_zero_iff.1 e)
  obtain ⟨n', hnn, hchs⟩ := chs_of h1
  obtain rfl : n = n' := by omega
  refine ⟨?_, ((plansS n cs).filter fun p' => costS (priced cs p Y) p' == mo).length, ?_, hchs, fun w e w' hp => ?_⟩
  · unfold leastOf
    rw [if_neg (fun x => x h1), h2, if_neg hl, h3]
  · unfold equalOf
    rw [if_neg (fun x => x h1), h2, if_neg hl, h3]
  · obtain ⟨q, c, p', _, _, _, _, he⟩ := hp.2.1 (by rw [h2]; exact hne)
    rw [h2, h3] at he
    exact ⟨q, c, p', he, hp.2.2⟩
set_option maxRecDepth 100000 in
set_option maxHeartbeats 8000000 in
theorem DrainWorth_any (xs : List Int) (hxl : xs.length = 22) (hxo : ∀ x ∈ xs, 0 ≤ x ∧ x ≤ 255) (w : World) :
    Calls Tryz.prog 5 #[.agg (flat8 xs).toArray] w fun e w' => e = .returned (.bool true) ∧ Below w.heap.size w w' := by
  have hworks : ∀ W : World, Calls Tryz.prog 8 #[] W fun e w' => e = .returned (.bool true) ∧ Below W.heap.size W w' := fun W => works_any W
  have hx0 := hxo _ (getD_mem xs 0 0 (by omega))
  obtain ⟨n, hn⟩ : ∃ n : Nat, (n : Int) = 1 + xs.getD 0 0 % ((5 : Nat) : Int) := ⟨(1 + xs.getD 0 0 % 5).toNat, by omega⟩
  have n1 : 1 ≤ n := by omega
  have n6 : n ≤ 6 := by omega
  have hE := made_err (m := 12) hxo n1 n6 (by omega)
  have CM := Lib.hid (fun W => made_any xs 5 12 n W hxl hxo (by omega) (by omega) (by omega) hn)
  have hlm : (madeS xs n 12).length ≤ 12 := made_len hxo n 12
  generalize madeS xs n 12 = cs at *
  obtain ⟨n', hnn, hchs⟩ := chs_of hE
  obtain rfl : n = n' := by omega
  have HE := Lib.hid hE
  have HCH := Lib.hid hchs
  have HWK := Lib.hid hworks
  have HXL := Lib.hid hxl
  clear hE hxo hxl hx0 hn hchs hworks hnn
  have b1 := BoxAt.new w xs 44
  have a1 : Below w.heap.size w (w.alloc (.cells (flat8 xs).toArray 44)) := (Below.refl _ _).alloc (Nat.le_refl _) _
  have HB0 := Lib.hid a1
  have HX0 := Lib.hid b1
  clear b1 a1
  go_enter Tryz.func5, Tryz.ntmps5
  go_upto_region 1 with fail
  generalize (w.alloc (.cells (flat8 xs).toArray 44)) = W0 at *
  go_upto_region 2 with (first
    | (refine wpList_loadA xs HXL.out _ HX0.out (.tmp 1) rfl rfl rfl ?_)
    | (go_at_call 20; refine (CM.out _).mono ?_; rintro e W1 ⟨q, c, rfl, hr, hq, hc, hb⟩; unfold hillV))
  have HBW := Lib.hid (HB0.out.on hb)
  obtain ⟨D, hD⟩ : ∃ D, W1.heap.size = D := ⟨_, rfl⟩
  have hv := Cell2.new W1 D hD (.int .i64 n) (.slice q cs.length c) 24
  have A0 : Below W1.heap.size W1 (W1.alloc (.cells #[.int .i64 n, .slice q cs.length c] 24)) := (Below.refl _ _).alloc (Nat.le_refl _) _
  have HD2 : Hid (Bd w (W1.alloc (.cells #[.int .i64 n, .slice q cs.length c] 24)) fun W => Cell2 W D (.int .i64 n) (.slice q cs.length c) ∧ RowV W q (flatT cs)) :=
    Lib.hid ⟨HBW.out.on A0, fun V hV => ⟨hv.below hv.1 hV, (hr.below (Nat.le_refl _) A0).below (Nat.le_refl _) hV⟩⟩
  have HCAP := Lib.hid hc
  have HQ := Lib.hid (fun a (ha : q = some a) => Nat.lt_of_lt_of_le (hq a ha).2 A0.size)
  clear hr hq hc hb A0 hv HB0 HX0 HBW CM
  rw [hD]
  generalize (W1.alloc (.cells #[.int .i64 n, .slice q cs.length c] 24)) = W2 at *
  clear hD

  obtain ⟨⟨v0, v1, v2, v3, v4⟩, _⟩ := HD2.out.at
  have hrow := fun W (hb : Below W2.heap.size W2 W) => (HD2.out.go hb).at.2
  have hpn := fun W (hb : Below W2.heap.size W2 W) => plans_any n c q cs W HCH.out (hrow W hb) (fun a ha => Nat.lt_of_lt_of_le (HQ.out a ha) hb.size)
  have hnd := fun W (hb : Below W2.heap.size W2 W) => Needed_any n q c cs W (hrow W hb) HCAP.out
  have hwo := fun i W (hb : Below W2.heap.size W2 W) => Without_any n q c cs i W (hrow W hb) HCAP.out
  have hpc := fun i W (hb : Below W2.heap.size W2 W) => Price_any n q c cs i W (hrow W hb) HCAP.out
  simp only [Int.toNat_natCast] at hnd hwo hpc
  unfold hillV at hpn hnd hwo hpc
  have HWO := Lib.hid hwo
  have HPC := Lib.hid hpc
  clear hrow hwo hpc
  by_cases hpl : plansS n cs = []
  · have hno : neededOf n cs = ([], 12) := by
      unfold neededOf
      rw [if_neg (fun h => h HE.out), if_pos (by rw [hpl]; rfl)]
    rw [hno] at hnd
    rw [hpl] at hpn
    have HPN := Lib.hid hpn
    have HND := Lib.hid hnd
    clear hpn hnd hno hpl
    go_upto_region 3 with (go_at_call 26; refine (HPN.out _ (Below.refl _ _)).mono ?_; rintro e W3 ⟨q1, c1, vs1, q2, c2, rfl, _, _, _, _, hb3⟩)
    obtain ⟨⟨u0, u1, u2, u3, u4⟩, _⟩ := (HD2.out.go hb3).at
    have HB3 := Lib.hid hb3
    clear hb3
    go_wp2_with (first
      | (go_at_call 27; refine (HND.out _ HB3.out).mono ?_; rintro e W4 ⟨q4, c4, rfl, _, _, _, hb4⟩)
      | (go_at_call 8; refine (HWK.out _).mono ?_; rintro e W9 ⟨rfl, hb9⟩))
    go_ret
    exact ⟨rfl, HD2.out.bel.on (HB3.out.on (hb4.on hb9))⟩
  · obtain ⟨ndl, hnd2⟩ : ∃ l, neededOf n cs = (l, 0) ∧ l = (((List.range cs.length).filter fun i : Nat => (oth i (plansS n cs)).length == 0).map fun i : Nat => (i : Int)) := by
      refine ⟨_, ?_, rfl⟩
      unfold neededOf
      rw [if_neg (fun h => h HE.out), if_neg (fun h => hpl (List.length_eq_zero_iff.1 h))]
    have hwf := fun p (hp : p < cs.length) => worth_facts HE.out hpl hp
    have hps14 := plansS_len HCH.out
    have hpin := plansS_in HCH.out
    rw [hnd2.1] at hnd
    have hne : 0 < (plansS n cs).length := List.length_pos_iff.2 hpl
    have hlf : (((plansS n cs).length : Int) == 0) = false := beq_eq_false_iff_ne.2 (by omega)
    have HPN := Lib.hid hpn
    have HND := Lib.hid hnd
    have HWF := Lib.hid hwf
    have HPIN := Lib.hid hpin
    have HNL := Lib.hid hnd2.2
    clear hpn hnd hwf hpin hnd2 hpl
    go_upto_region 3 with (go_at_call 26; refine (HPN.out _ (Below.refl _ _)).mono ?_; rintro e W3 ⟨q1, c1, vs1, q2, c2, rfl, hvl, hr1, hin, hr2, hb3⟩)
    obtain ⟨⟨u0, u1, u2, u3, u4⟩, _⟩ := (HD2.out.go hb3).at
    have HB3 := Lib.hid hb3
    have HVL := Lib.hid hvl
    have HR1 := Lib.hid hr1
    have HIN := Lib.hid hin
    have HR2 := Lib.hid hr2
    clear hb3 hvl hr1 hin hr2
    go_upto_region 4 with (go_at_call 27; refine (HND.out _ HB3.out).mono ?_; rintro e W4 ⟨q4, c4, rfl, hr4, _, _, hb4⟩)
    have HB4 := Lib.hid (HB3.out.on hb4)
    have HN4 := Lib.hid hb4
    have HR4 := Lib.hid hr4
    obtain ⟨⟨t0, t1, t2, t3, t4⟩, hrT⟩ := (HD2.out.go HB4.out).at
    have HRT := Lib.hid hrT
    clear hb4 hr4 hrT u0 u1 u2 u3 u4
    obtain ⟨ps, hps⟩ : ∃ ps, plansS n cs = ps := ⟨_, rfl⟩
    have HPS := Lib.hid hps
    rw [hps] at HVL HIN HR2 HPIN HWF HNL hps14 hlf hne ⊢
    clear hps
    have hkl : (ps.map (costS cs)).length = ps.length := List.length_map _
    go_wp2
    go_loopw [8, 48] (fun v i wl => ∃ p : Nat, p ≤ cs.length ∧ i = .int .i64 p ∧ Hid (wl.ownsRow W4.heap.size 3 1 v (rangeF (fun i => (oth i ps).length == 0) p).length (flatI (rangeF (fun i => (oth i ps).length == 0) p))) ∧ Below W4.heap.size W4 wl) (fun _ i _ => cs.length - (intOf i).toNat)
    case atStart => exact ⟨0, Nat.zero_le _, rfl, Lib.hid (World.ownsRow_nil _ _ _ _), Below.refl _ _⟩
    case round =>
      obtain ⟨p, hp, rfl, HO, hbl⟩ := hrel
      by_cases hpl2 : p < cs.length
      · obtain ⟨b3, off3, rfl, hb3, g1, g2, g3⟩ := rowT_at HRT.out hpl2 (Nat.le_refl _) hbl
        have HF := Lib.hid (HWF.out p hpl2)
        have hok := getD_ok HCH.out.ok hpl2
        generalize hch : cs.getD p (0, 0, 0) = ch at g1 g2 g3 HF hok
        have HCHP := Lib.hid hch
        obtain ⟨h1, h2, h3⟩ := ch
        dsimp only at g1 g2 g3
        have hpi : (p : Int) < (cs.length : Int) := by omega
        have hbA : Below wr.heap.size wr (wr.alloc (.cells #[.int .i64 h1, .int .i64 h2, .int .i64 h3] 51)) := (Below.refl _ _).alloc (Nat.le_refl _) _
        have HBL := Lib.hid hbl
        obtain ⟨C, hC⟩ : ∃ C, wr.heap.size = C := ⟨_, rfl⟩
        have hcC : (wr.alloc (.cells #[.int .i64 h1, .int .i64 h2, .int .i64 h3] 51)).cell? ⟨C, 2, none⟩ = some (.int .i64 h3) := by rw [← hC]; simp
        have HCC := Lib.hid hC
        clear hch hbl hC
        go_wp2
        go_loopw [11, 12, 55] (fun a b i wl => ∃ k : Nat, k ≤ ps.length ∧ i = .int .i64 k ∧ a = .int .i64 (minW cs (hav p (ps.take k))) ∧ b = .int .i64 (minW cs (oth p (ps.take k))) ∧ Below wr.heap.size wr wl ∧ wl.cell? ⟨C, 2, none⟩ = some (.int .i64 h3)) (fun _ _ i _ => ps.length - (intOf i).toNat)
        case atStart => exact ⟨0, Nat.zero_le _, rfl, rfl, rfl, hbA, hcC⟩
        case round =>
          obtain ⟨k, hk, rfl, rfl, rfl, hbk, hc3⟩ := hrel
          by_cases hkl2 : k < ps.length
          · obtain ⟨u, hu, ql, cl, rfl, hrl⟩ := InL.get k HIN.out hkl2
            obtain ⟨b5, off5, rfl, hb5, hcell⟩ := HR1.out.at (k := k) (by rw [HVL.out]; exact hkl2) (Nat.le_refl _) ((HN4.out.on HBL.out).on hbk)
            obtain ⟨b6, off6, rfl, hb6, hcost⟩ := rowI_at HR2.out (k := k) (by rw [hkl]; exact hkl2) (Nat.le_refl _) ((HN4.out.on HBL.out).on hbk)
            obtain ⟨l, hl⟩ : ∃ l, ps.getD k [] = l := ⟨_, rfl⟩
            have hl14 := (HPIN.out _ (getD_mem ps k [] hkl2)).2
            have hcv : (ps.map (costS cs)).getD k 0 = costS cs l := by rw [getD_eq _ k 0 (by rw [hkl]; exact hkl2), List.getElem_map, ← hl, getD_eq ps k [] hkl2]
            rw [hcv] at hcost
            have hcl2 := hcell k _ hu
            have htk : ps.take (k + 1) = ps.take k ++ [l] := by rw [getD_take ps k [] hkl2, hl]
            rw [hl] at hcl2 hrl hl14
            have hcn := containsI_any p ql cl l wr (hrl.below (Nat.le_refl _) ((HN4.out.on HBL.out).on hbk)) (by omega)
            have hst1 : minW cs (hav p (ps.take (k + 1))) = if l.any (· == (p : Int)) = true then min (minW cs (hav p (ps.take k))) (costS cs l) else minW cs (hav p (ps.take k)) := by
              rw [htk, hav_snoc]
              by_cases h : l.any (· == (p : Int)) = true
              · rw [if_pos h, if_pos h, minW_snoc]
              · rw [if_neg h, if_neg h]
            have hst2 : minW cs (oth p (ps.take (k + 1))) = if l.any (· == (p : Int)) = true then minW cs (oth p (ps.take k)) else min (minW cs (oth p (ps.take k))) (costS cs l) := by
              rw [htk, oth_snoc]
              by_cases h : l.any (· == (p : Int)) = true
              · rw [if_pos h, if_pos h]
              · rw [if_neg h, if_neg h, minW_snoc]
            have HS1 := Lib.hid hst1
            have HS2 := Lib.hid hst2
            have hki : (k : Int) < (ps.length : Int) := by omega
            generalize minW cs (hav p (ps.take k)) = mh at HS1 ⊢
            generalize minW cs (oth p (ps.take k)) = mo at HS2 ⊢
            generalize costS cs l = kc at hcost HS1 HS2
            clear hst1 hst2 htk hcv hcell hu hl
            by_cases hany : l.any (· == (p : Int)) = true
            · rw [hany] at hcn
              have HCN := Lib.hid hcn
              rw [if_pos hany] at HS1 HS2
              clear hcn hany
              generalize hmn : min mh kc = m1 at HS1
              go_wp2_with (go_at_call 28; refine HCN.out.mono ?_; rintro e w1 ⟨rfl, hw1⟩; subst hw1)
              go_roundw
              case rel => exact ⟨k + 1, hkl2, by go_num, by rw [HS1.out], by rw [HS2.out], hbk, hc3⟩
              case measure => simp [intOf]; omega
            · have hany2 : l.any (· == (p : Int)) = false := Bool.not_eq_true _ ▸ hany
              rw [hany2] at hcn
              have HCN := Lib.hid hcn
              rw [if_neg hany] at HS1 HS2
              clear hcn hany hany2
              generalize hmn : min mo kc = m1 at HS2
              go_wp2_with (go_at_call 28; refine HCN.out.mono ?_; rintro e w1 ⟨rfl, hw1⟩; subst hw1)
              go_roundw
              case rel => exact ⟨k + 1, hkl2, by go_num, by rw [HS1.out], by rw [HS2.out], hbk, hc3⟩
              case measure => simp [intOf]; omega
          · obtain rfl : k = ps.length := by omega
            rw [List.take_length]
            obtain ⟨F1, F2, F3, F4, B1, B2, B3, B4⟩ := HF.out
            have hbw := HB4.out.on (HBL.out.on hbk)
            have hw1 := HWO.out (p : Int)
            have hp1 := HPC.out (p : Int)
            have hstp := rangeF_succ (fun i => (oth i ps).length == 0) p
            have hlen := rangeF_len (fun i => (oth i ps).length == 0) p
            obtain ⟨⟨y0, y1, y2, y3, y4⟩, _⟩ := (HD2.out.go hbw).at
            have HBW := Lib.hid hbw
            have HBK := Lib.hid hbk
            generalize minW cs (oth p ps) = mo at F1 F2 F3 F4 B1 B2 ⊢
            generalize minW cs (hav p ps) = mh at F1 F2 F3 F4 B3 B4 ⊢
            have HSTP := Lib.hid hstp
            clear hbw hbk hstp
            by_cases hmo : mo = 1000
            · obtain ⟨k0, k1, k2⟩ := F1 hmo
              simp only [k1] at hw1
              simp only [k2] at hp1
              have HW1 := Lib.hid hw1
              have HP1 := Lib.hid hp1
              have HK0 := Lib.hid k0
              have hmob : (mo == 1000) = true := beq_iff_eq.2 hmo
              clear F1 F2 F3 F4 k0 k1 k2 hw1 hp1 hmo
              go_upto_region 19 with (go_at_call 29; refine (HW1.out _ HBW.out).mono ?_; rintro e W5 ⟨rfl, hb5⟩)
              have HB5 := Lib.hid (HBW.out.on hb5)
              have HK5 := Lib.hid (HBK.out.on hb5)
              obtain ⟨⟨z0, z1, z2, z3, z4⟩, _⟩ := (HD2.out.go HB5.out).at
              clear hb5
              go_upto_region 20 with (go_at_call 30; refine (HP1.out _ HB5.out).mono ?_; rintro e W6 ⟨rfl, hb6⟩)
              have HK6 := Lib.hid (HK5.out.on hb6)
              have HO6 := Lib.hid (owns_below HO.out (Nat.le_refl _) HK6.out)
              have hz6 := (HBL.out.on HK6.out).size
              clear hb6
              generalize rangeF (fun i => (oth i ps).length == 0) p = ys at HO6 HSTP hlen
              go_wp2_with (at_builtin; refine app_int _ rfl (.tmp 91) (.tmp 93) rfl W4.heap.size _ ys (p : Int) rfl (HO6.out.alloc _) W6.heap.size 1 rfl (by simp) (by omega) (by simp; omega) ?_; intro v2 w2 hown2 hgr2 hbk2; have hb2 : Below W4.heap.size W4 w2 := (HBL.out.on HK6.out).trans (((Below.refl _ _).alloc hz6 _).trans (grown_below (HO6.out.alloc _) (by simp; omega) hgr2)))
              go_roundw
              case rel => exact ⟨p + 1, hpl2, by go_num, Lib.hid (by rw [HSTP.out, if_pos (by rw [HK0.out]; rfl)]; exact hown2), hb2⟩
              case measure => simp [intOf]; omega
            · have k0 := F2 hmo
              have hmob : (mo == 1000) = false := beq_eq_false_iff_ne.2 hmo
              have HK0 := Lib.hid k0
              by_cases hmh : mh = 1000
              · obtain ⟨k1, k2⟩ := F3 hmo hmh
                simp only [k1] at hw1
                simp only [k2] at hp1
                have HW1 := Lib.hid hw1
                have HP1 := Lib.hid hp1
                have hmhb : (mh == 1000) = true := beq_iff_eq.2 hmh
                clear F1 F2 F3 F4 k0 k1 k2 hw1 hp1 hmo hmh
                go_upto_region 19 with (go_at_call 29; refine (HW1.out _ HBW.out).mono ?_; rintro e W5 ⟨rfl, hb5⟩)
                have HB5 := Lib.hid (HBW.out.on hb5)
                have HK5 := Lib.hid (HBK.out.on hb5)
                obtain ⟨⟨z0, z1, z2, z3, z4⟩, _⟩ := (HD2.out.go HB5.out).at
                clear hb5
                go_upto_region 20 with (go_at_call 30; refine (HP1.out _ HB5.out).mono ?_; rintro e W6 ⟨rfl, hb6⟩)
                have HK6 := Lib.hid (HK5.out.on hb6)
                have HO6 := Lib.hid (owns_below HO.out (Nat.le_refl _) HK6.out)
                clear hb6
                go_wp2
                go_roundw
                case rel => exact ⟨p + 1, hpl2, by go_num, Lib.hid (by rw [HSTP.out, if_neg (by simpa using HK0.out), List.append_nil]; exact HO6.out), HBL.out.on HK6.out⟩
                case measure => simp [intOf]; omega
              · obtain ⟨k1, k2, k3⟩ := F4 hmo hmh
                have hmhb : (mh == 1000) = false := beq_eq_false_iff_ne.2 hmh
                simp only [k1] at hw1
                simp only [k2] at hp1
                try dsimp only at hp1 k3
                have hh3 : 0 ≤ h3 ∧ h3 ≤ 20 := ⟨hok.2.2.2.1, hok.2.2.2.2⟩
                obtain ⟨X, hX⟩ : ∃ x, mo - min mh mo = x := ⟨_, rfl⟩
                obtain ⟨Z, hZ⟩ : ∃ z, mo - mh = z := ⟨_, rfl⟩
                obtain ⟨Y, hY⟩ : ∃ y, Z + h3 = y := ⟨_, rfl⟩
                rw [hX] at hw1
                rw [hZ, hY] at hp1
                rw [hZ, hY] at k3
                have e1 : IntKind.i64.wrap (mo - min mh mo) = X := by rw [← hX]; exact IntWalk.i64_in _ ⟨by omega, by omega⟩
                have e2 : IntKind.i64.wrap (mo - mh) = Z := by rw [← hZ]; exact IntWalk.i64_in _ ⟨by omega, by omega⟩
                have e3 : IntKind.i64.wrap (Z + h3) = Y := by rw [← hY]; exact IntWalk.i64_in _ ⟨by omega, by omega⟩
                have hcm : (!decide (h3 ≤ Y) == decide (mh ≤ mo)) = false := by
                  rw [show decide (h3 ≤ Y) = decide (mh ≤ mo) from decide_eq_decide.2 ⟨fun _ => by omega, fun _ => by omega⟩]
                  cases decide (mh ≤ mo) <;> rfl
                have HW1 := Lib.hid hw1
                have HP1 := Lib.hid hp1
                have HK3 := Lib.hid k3
                have HE := Lib.hid (And.intro e1 (And.intro e2 (And.intro e3 hcm)))
                have HC3 := Lib.hid hc3
                rw [HCC.out]
                clear F1 F2 F3 F4 k0 k1 k2 k3 hw1 hp1 hmo hmh e1 e2 e3 hcm hX hZ hY hok
                go_upto_region 19 with (go_at_call 29; refine (HW1.out _ HBW.out).mono ?_; rintro e W5 ⟨rfl, hb5⟩)
                have HB5 := Lib.hid (HBW.out.on hb5)
                have HK5 := Lib.hid (HBK.out.on hb5)
                have HC5 := Lib.hid (cell_keep HC3.out hb5)
                obtain ⟨⟨z0, z1, z2, z3, z4⟩, _⟩ := (HD2.out.go HB5.out).at
                clear hb5 HC3
                go_upto_region 20 with (go_at_call 30; refine (HP1.out _ HB5.out).mono ?_; rintro e W6 ⟨rfl, hb6⟩)
                have HK6 := Lib.hid (HK5.out.on hb6)
                have HB6 := Lib.hid (HB5.out.on hb6)
                have HO6 := Lib.hid (owns_below HO.out (Nat.le_refl _) HK6.out)
                have hc6 := cell_keep HC5.out hb6
                clear hb6 HC5 z0 z1 z2 z3 z4
                obtain ⟨e1, e2, e3, hcm⟩ := HE.out
                go_upto_region 29 with fail
                clear e1 e2 e3 hcm hc6 hmob hmhb
                by_cases hy0 : Y < 0
                · have hy0b : decide (Y < 0) = true := decide_eq_true hy0
                  go_wp2
                  go_roundw
                  case rel => exact ⟨p + 1, hpl2, by go_num, Lib.hid (by rw [HSTP.out, if_neg (by simpa using HK0.out), List.append_nil]; exact HO6.out), HBL.out.on HK6.out⟩
                  case measure => simp [intOf]; omega
                by_cases hy20 : 20 < Y
                · have hy20b : decide (20 < Y) = true := decide_eq_true hy20
                  go_wp2
                  go_roundw
                  case rel => exact ⟨p + 1, hpl2, by go_num, Lib.hid (by rw [HSTP.out, if_neg (by simpa using HK0.out), List.append_nil]; exact HO6.out), HBL.out.on HK6.out⟩
                  case measure => simp [intOf]; omega
                have hk3 := HK3.out Y rfl (by omega) (by omega)
                rw [← HPS.out] at hk3
                obtain ⟨hlo, M, heq, hchP, hcheap⟩ := priced_facts (by rw [HPS.out]; intro e; rw [e] at hne; simp at hne) hk3
                obtain ⟨PR, hPR⟩ : ∃ PR, priced cs p Y = PR := ⟨_, rfl⟩
                have hplen : PR.length = cs.length := by rw [← hPR]; exact priced_length cs p Y
                rw [hPR] at hlo heq hchP hcheap
                have HLO := Lib.hid hlo
                have HEQ := Lib.hid heq
                have HCP := Lib.hid hchP
                have HCE := Lib.hid hcheap
                have HPR := Lib.hid hPR
                have HPL := Lib.hid hplen
                have hy0' : ¬ Y < 0 := hy0
                clear hk3 hlo heq hchP hcheap hPR hplen
                go_upto_region 30 with fail
                clear hy0 hy20 hy0'
                obtain ⟨⟨x0, x1, x2, x3, x4⟩, _⟩ := (HD2.out.go HB6.out).at
                have hcl : ∀ W', Below W6.heap.size W6 W' → Calls Tryz.prog 31 #[.slice (some ⟨b3, off3, none⟩) cs.length c] W' (CopyT W6 W' cs cs.length) := fun W' hb =>
                  (cloneT_any ⟨b3, off3, none⟩ c cs W' (((HD2.out.go HB6.out).at.2).below (Nat.le_refl _) hb) (by omega)).mono fun e w' h => copyT_of (by omega) hb h
                have HCL := Lib.hid hcl
                clear hcl
                go_region_held3 (fun W => W.cell? ⟨D, 0, none⟩ = some (.int .i64 n) ∧ W.cell? ⟨D, 1, none⟩ = some (.slice (some ⟨b3, off3, none⟩) cs.length c)) (first | exact ⟨x1, x2⟩ | exact ⟨d1, d2⟩ | exact ⟨far2 d1 x0, far2 d2 x0⟩ | go_keep)
                  (first
                    | (go_at_call 31; (with_reducible refine (HCL.out _ ((Below.refl _ _).drew)).mono ?_); rintro e W10 ⟨g10, c10, rfl, hrow, hg10, hc10, hfz, hb10, hbx⟩; have d1 := (hb10.cell (p := ⟨D, 0, none⟩) x0).trans x1; have d2 := (hb10.cell (p := ⟨D, 1, none⟩) x0).trans x2; have HROW := Lib.hid hrow; have HFZ := Lib.hid hfz; have HBN := Lib.hid hb10; have hg11 : W6.heap.size ≤ g10 := hg10; clear hrow hfz hb10 hbx)
                    | (go_at_call 31; (with_reducible refine (HCL.out _ (((Below.refl _ _).alloc (Nat.le_refl _) _).drew)).mono ?_); rintro e W10 ⟨g10, c10, rfl, hrow, hg10, hc10, hfz, hb10, hbx⟩; have d1 := (hb10.cell (p := ⟨D, 0, none⟩) x0).trans x1; have d2 := (hb10.cell (p := ⟨D, 1, none⟩) x0).trans x2; have HROW := Lib.hid hrow; have HFZ := Lib.hid hfz; have HBN := Lib.hid hb10; obtain ⟨n0, n1, n2, n3, n4⟩ := ((Cell2.new W6 W6.heap.size rfl (.int .i64 0) (.slice none 0 0) 24).below (N := W6.heap.size + 1) (by omega) ((Below.refl _ _).drew)).below (by simp) hbx; have hg11 : W6.heap.size + 1 ≤ g10 := (by simpa using hg10); have HN := Lib.hid (show Cell2 W10 W6.heap.size (.int .i64 0) (.slice none 0 0) from ⟨n0, n1, n2, n3, n4⟩); clear hrow hfz hb10 hbx)
                    | fail)
                have hs10 := HBN.out.size
                have hgl := rowV_lt HROW.out (by rw [flatT_length]; omega)
                have A1 : Below W10.heap.size W10 (W10.alloc (.cells #[.int .i64 n, .slice (some ⟨g10, 0, none⟩) cs.length c10] 24)) := (Below.refl _ _).alloc (Nat.le_refl _) _
                obtain ⟨B21, hB21⟩ : ∃ B21, W10.heap.size = B21 := ⟨_, rfl⟩
                have HS : Hid (Dear W6 (W10.alloc (.cells #[.int .i64 n, .slice (some ⟨g10, 0, none⟩) cs.length c10] 24)) n cs.length g10 c10 B21 cs) :=
                  Lib.hid ⟨Cell2.new _ _ hB21 _ _ _, HROW.out.below (Nat.le_refl _) A1, fun i => (A1.frozen (p := ⟨g10, i, none⟩) hgl).trans (HFZ.out i), by omega, by omega, HBN.out.on A1⟩
                have HC10 := Lib.hid hc10
                rw [hB21]
                clear HCL HBN HROW HFZ hg10 hg11 d1 d2 x0 x1 x2 x3 x4 hc10 hs10 hgl A1
                generalize (W10.alloc (.cells #[.int .i64 n, .slice (some ⟨g10, 0, none⟩) cs.length c10] 24)) = WD at *
                clear hB21
                rotate_left
                obtain ⟨B21, hB21⟩ : ∃ B21, W6.heap.size = B21 := ⟨_, rfl⟩
                have HS : Hid (Dear W6 ((W10.setCell ⟨W6.heap.size, 0, none⟩ (.int .i64 n)).setCell ⟨W6.heap.size, 1, none⟩ (.slice (some ⟨g10, 0, none⟩) cs.length c10)) n cs.length g10 c10 B21 cs) := by
                  rw [← hB21]
                  exact Lib.hid ⟨HN.out.set _ _, rowV_far (rowV_far HROW.out (by omega) _) (by omega) _, fun i => by simpa using HFZ.out i, by omega, by omega, (HBN.out.setCell (p := ⟨W6.heap.size, 0, none⟩) (Nat.le_refl _) _).setCell (p := ⟨W6.heap.size, 1, none⟩) (Nat.le_refl _) _⟩
                have HC10 := Lib.hid hc10
                clear HCL HBN HN HROW HFZ hg10 hg11 d1 d2 n0 n1 n2 n3 n4 x0 x1 x2 x3 x4 hc10
                generalize ((W10.setCell ⟨W6.heap.size, 0, none⟩ (.int .i64 n)).setCell ⟨W6.heap.size, 1, none⟩ (.slice (some ⟨g10, 0, none⟩) cs.length c10)) = WD at *
                rw [hB21]
                clear hB21
                rotate_left
                all_goals
                  obtain ⟨y0, y1, y2, y3, y4⟩ := HS.out.var
                  obtain ⟨bb, oo, hq3, hz3, _, _, g4⟩ := rowT_at HS.out.row (k := p) hpl2 (Nat.le_refl _) (Below.refl _ _)
                  simp only [Option.some.injEq, Addr.mk.injEq] at hq3
                  obtain ⟨rfl, rfl, _⟩ := hq3
                  rw [Nat.zero_add] at g4
                  have hfz := HS.out.fz (p * 3 + 2)
                  go_upto_region 32 with fail
                  have hr22 := rowV_set HS.out.row (i := p * 3 + 2) (by rw [flatT_length]; omega) (.int .i64 Y)
                  rw [flatT_set cs p Y hpl2, Nat.zero_add] at hr22
                  have HDF : Hid (Bd W6 (WD.setCell ⟨g10, p * 3 + 2, none⟩ (.int .i64 Y)) fun W => Cell2 W B21 (.int .i64 n) (.slice (some ⟨g10, 0, none⟩) cs.length c10) ∧ RowV W (some ⟨g10, 0, none⟩) (flatT PR)) := by
                    have hv := HS.out.var.far HS.out.ne (i := p * 3 + 2) (.int .i64 Y)
                    refine Lib.hid ⟨HS.out.bel.setCell (p := ⟨g10, p * 3 + 2, none⟩) HS.out.lo _, fun V hV => ⟨hv.below hv.1 hV, ?_⟩⟩
                    have h5 : RowV (WD.setCell ⟨g10, p * 3 + 2, none⟩ (.int .i64 Y)) (some ⟨g10, 0, none⟩) (flatT PR) := by
                      rw [← HPR.out]
                      exact hr22
                    exact h5.below (Nat.le_refl _) hV
                  clear y0 y1 y2 y3 y4 g4 hfz hr22
                  generalize (WD.setCell ⟨g10, p * 3 + 2, none⟩ (.int .i64 Y)) = W22 at *
                  have hwl : ∀ W, Below W22.heap.size W22 W → RowV W (some ⟨g10, 0, none⟩) (flatT PR) := fun W hb => (HDF.out.go hb).at.2
                  have hlt : ∀ W, Below W22.heap.size W22 W → ∀ a : Addr, some (⟨g10, 0, none⟩ : Addr) = some a → a.block < W.heap.size := fun W hb a ha => by
                    injection ha with ha
                    subst ha
                    exact rowV_lt (hwl W hb) (by rw [flatT_length, HPL.out]; omega)
                  have CL := fun W (hb : Below W22.heap.size W22 W) => Least_any n (some ⟨g10, 0, none⟩) c10 PR W (hwl W hb) (by rw [HPL.out]; exact HC10.out)
                  have CE := fun W (hb : Below W22.heap.size W22 W) => Equal_any n (some ⟨g10, 0, none⟩) c10 PR W (hwl W hb) (by rw [HPL.out]; exact HC10.out)
                  have CC := fun W (hb : Below W22.heap.size W22 W) => (cheapest_any n c10 (some ⟨g10, 0, none⟩) PR W HCP.out (hwl W hb) (hlt W hb)).mono fun e w' h => HCE.out W e w' h
                  simp only [Int.toNat_natCast, HPL.out, HLO.out] at CL
                  simp only [Int.toNat_natCast, HPL.out, HEQ.out] at CE
                  simp only [HPL.out] at CC
                  unfold hillV at CL CE CC
                  have HCL := Lib.hid CL
                  have HCEQ := Lib.hid CE
                  have HCC2 := Lib.hid CC
                  clear CL CE CC hwl hlt
                  obtain ⟨⟨y0, y1, y2, y3, y4⟩, _⟩ := HDF.out.at
                  go_upto_region 33 with (go_at_call 32; refine (HCL.out _ (Below.refl _ _)).mono ?_; rintro e W23 ⟨rfl, hb23⟩)
                  have HB23 := Lib.hid hb23
                  clear y0 y1 y2 y3 y4 hb23
                  obtain ⟨⟨y0, y1, y2, y3, y4⟩, _⟩ := (HDF.out.go HB23.out).at
                  go_upto_region 34 with (go_at_call 33; refine (HCEQ.out _ HB23.out).mono ?_; rintro e W24 ⟨rfl, hb24⟩)
                  have HB24 := Lib.hid (HB23.out.on hb24)
                  clear y0 y1 y2 y3 y4 hb24
                  obtain ⟨⟨y0, y1, y2, y3, y4⟩, _⟩ := (HDF.out.go HB24.out).at
                  go_upto_region 35 with (go_at_call 22; refine (HCC2.out _ HB24.out).mono ?_; rintro e W25 ⟨q25, c25, p25, rfl, hb25⟩)
                  have HBF := Lib.hid (HDF.out.bel.on (HB24.out.on hb25))
                  have HOF := Lib.hid (owns_below HO6.out (Nat.le_refl _) HBF.out)
                  clear y0 y1 y2 y3 y4 hb25
                  go_wp2
                  go_roundw
                  case rel => exact ⟨p + 1, hpl2, by go_num, Lib.hid (by rw [HSTP.out, if_neg (by simpa using HK0.out), List.append_nil]; exact HOF.out), (HBL.out.on HK6.out).on HBF.out⟩
                  case measure => simp [intOf]; omega
      · obtain rfl : p = cs.length := by omega
        have hnl : ndl = rangeF (fun i => (oth i ps).length == 0) cs.length := HNL.out
        have hO := HO.out
        rw [← hnl] at hO
        obtain ⟨qw, cw, rfl, hrw⟩ := own_form hO (by intro h; rw [List.length_eq_zero_iff.1 h]; rfl)
        have hr4 := HR4.out.below (Nat.le_refl _) hbl
        have hll : ndl.length ≤ 1000000 := by rw [hnl]; exact Nat.le_trans (rangeF_len _ _) (by omega)
        have hsm := same_any q4 qw c4 cw ndl ndl wr hr4 hrw hll hll
        rw [beq_self_eq_true] at hsm
        have HSM := Lib.hid hsm
        have HBL := Lib.hid hbl
        clear hsm hr4 hrw hO hnl hbl HO
        go_wp2_with (first
          | (go_at_call 17; refine HSM.out.mono ?_; rintro e wS ⟨rfl, hbS⟩)
          | (go_at_call 8; refine (HWK.out _).mono ?_; rintro e wz ⟨rfl, hbz⟩))
        go_ret
        exact ⟨rfl, HD2.out.bel.on (((HB4.out.on HBL.out).on hbS).on hbz)⟩
end Go.Proofs.YtadamjleglckpaaGreat.drn

