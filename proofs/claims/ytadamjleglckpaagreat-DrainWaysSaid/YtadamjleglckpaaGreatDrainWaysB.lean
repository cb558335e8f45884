/- DrainWays: the law's body. -/
import Derived.Test.YtadamjleglckpaaGreatDrnMd
import Derived.Test.YtadamjleglckpaaGreatQa7
import Derived.Test.YtadamjleglckpaaGreatDrnWz
import Derived.Test.YtadamjleglckpaaGreatQa5
import Derived.Test.YtadamjleglckpaaGreatQa3
import Derived.Deep.CutRange
import Derived.Deep.DeepCutAuto
import Derived.Deep.LoopGhost
import Derived.BigRegion
import Derived.BigQuiet
import Derived.Test.YtadamjleglckpaaGreatKw
namespace Go.Proofs.YtadamjleglckpaaGreat.drn
open Go.RowKit
open Go.Proofs.YtadamjleglckpaaGreat.ev (works_any)
set_option linter.unusedSimpArgs false
set_option linter.unusedVariables false
theorem own_single (w : World) (g : Int) : (w.alloc (.cells #[.int .i64 g] 3)).ownsRow w.heap.size 3 1 (.slice (some ⟨w.heap.size, 0, none⟩) 1 1) 1 (flatI [g]) := by
  have h := World.ownsRow_made (base := w.heap.size) (e := 3) (size := 1) w #[.int .i64 g] 1 (Nat.le_refl _) (by decide) rfl
  obtain ⟨_, ⟨h1, _⟩ | ⟨b, cap, cur, e, h2, h3, h4, h5, h6, h7⟩⟩ := h
  · cases h1
  · injection e with e1 e2 e3
    injection e1 with e1
    injection e1 with e1 _ _
    subst e3
    subst e1
    have hc : (w.alloc (.cells #[.int .i64 g] 3)).heap[w.heap.size]? = some (.cells #[.int .i64 g] 3 (0, 0)) := by
      show (w.heap.push _)[w.heap.size]? = some _
      simp
    exact ⟨by simp [flatI], .inr ⟨w.heap.size, 1, #[.int .i64 g], rfl, Nat.le_refl _, hc, Nat.le_refl _, by decide, rfl, by simp [flatI]⟩⟩
theorem llist_any (v : Value) (w : World) : Calls Tryz.prog 36 #[v] w fun e w' => e = .returned v ∧ w' = w := by
  go_enter Tryz.func36, Tryz.ntmps36
  go_wp2
  go_ret
  exact ⟨rfl, rfl⟩
theorem pairs_step (cs : List Ch) (l : List Int) {t : Nat} (ht : t < l.length) : pairsS cs (l.take (t + 1)) = pairsS cs (l.take t) ++ [((cs.getD (l.getD t 0).toNat (0, 0, 0)).1, (cs.getD (l.getD t 0).toNat (0, 0, 0)).2.1)] := by
  unfold pairsS
  rw [getD_take l t 0 ht, List.map_append]
  rfl
set_option maxRecDepth 100000 in
set_option maxHeartbeats 8000000 in
theorem DrainWays_any (xs : List Int) (one : Int) (os : List Int) (hxl : xs.length = 22) (hxo : ∀ x ∈ xs, 0 ≤ x ∧ x ≤ 255) (h1 : 0 ≤ one ∧ one ≤ 255) (hol : os.length = 6) (hoo : ∀ x ∈ os, 0 ≤ x ∧ x ≤ 255) (w : World) :
    Calls Tryz.prog 6 #[.agg (flat8 xs).toArray, .int .u8 one, .agg (flat8 os).toArray] w fun e w' => e = .returned (.bool true) ∧ Below w.heap.size w w' := by
  have hworks : ∀ W : World, Calls Tryz.prog 8 #[] W fun e w' => e = .returned (.bool true) ∧ Below W.heap.size W w' := fun W => works_any W
  have hx0 := hxo _ (getD_mem xs 0 0 (by omega))
  obtain ⟨n, hn⟩ : ∃ n : Nat, (n : Int) = 1 + xs.getD 0 0 % ((6 : Nat) : Int) := ⟨(1 + xs.getD 0 0 % 6).toNat, by omega⟩
  have n1 : 1 ≤ n := by omega
  have n6 : n ≤ 6 := by omega
  have hE := made_err (m := 14) hxo n1 n6 (by omega)
  have CM := Lib.hid (fun W => made_any xs 6 14 n W hxl hxo (by omega) (by omega) (by omega) hn)
  have hlm : (madeS xs n 14).length ≤ 14 := made_len hxo n 14
  generalize madeS xs n 14 = cs at *
  obtain ⟨n', hnn, hchs⟩ := chs_of hE
  obtain rfl : n = n' := by omega
  have HE := Lib.hid hE
  have HCH := Lib.hid hchs
  have HWK := Lib.hid hworks
  have HXL := Lib.hid hxl
  have HOL := Lib.hid hol
  have HOO := Lib.hid hoo
  clear hE hxo hxl hx0 hn hchs hworks hnn hol hoo
  have b1 := BoxAt.new w xs 44
  have b2 := BoxAt.new (w.alloc (.cells (flat8 xs).toArray 44)) os 41
  have a1 : Below w.heap.size w (w.alloc (.cells (flat8 xs).toArray 44)) := (Below.refl _ _).alloc (Nat.le_refl _) _
  have a2 : Below (w.alloc (.cells (flat8 xs).toArray 44)).heap.size (w.alloc (.cells (flat8 xs).toArray 44)) ((w.alloc (.cells (flat8 xs).toArray 44)).alloc (.cells (flat8 os).toArray 41)) := (Below.refl _ _).alloc (Nat.le_refl _) _
  have b1' := b1.keep b1.1 a2
  have hz1 : (w.alloc (.cells (flat8 xs).toArray 44)).heap.size = w.heap.size + 1 := by simp
  rw [hz1] at b2
  have HB0 := Lib.hid (a1.on a2)
  have HX0 := Lib.hid b1'
  have HM0 := Lib.hid b2
  clear b1 b2 a1 a2 b1' hz1
  have hmm := @run_makeMap Tryz.prog
  go_enter Tryz.func6, Tryz.ntmps6
  go_upto_region 1 with fail
  generalize ((w.alloc (.cells (flat8 xs).toArray 44)).alloc (.cells (flat8 os).toArray 41)) = W0 at *
  obtain ⟨M, hM⟩ : ∃ M, w.heap.size + 1 = M := ⟨_, rfl⟩
  rw [hM] at HM0 ⊢
  clear hM
  go_upto_region 2 with (first
    | (refine wpList_loadA xs HXL.out _ HX0.out (.tmp 3) rfl rfl rfl ?_)
    | (go_at_call 20; refine (CM.out _).mono ?_; rintro e W1 ⟨q, c, rfl, hr, hq, hc, hb⟩; unfold hillV))
  have HBW := Lib.hid (HB0.out.on hb)
  obtain ⟨D, hD⟩ : ∃ D, W1.heap.size = D := ⟨_, rfl⟩
  have hv := Cell2.new W1 D hD (.int .i64 n) (.slice q cs.length c) 24
  have A0 : Below W1.heap.size W1 (W1.alloc (.cells #[.int .i64 n, .slice q cs.length c] 24)) := (Below.refl _ _).alloc (Nat.le_refl _) _
  have hm1 := (HM0.out.keep HM0.out.1 hb)
  have hm2 := hm1.keep hm1.1 A0
  have HD2 : Hid (Bd w (W1.alloc (.cells #[.int .i64 n, .slice q cs.length c] 24)) fun W => Cell2 W D (.int .i64 n) (.slice q cs.length c) ∧ RowV W q (flatT cs) ∧ BoxAt W M os) :=
    Lib.hid ⟨HBW.out.on A0, fun V hV => ⟨hv.below hv.1 hV, (hr.below (Nat.le_refl _) A0).below (Nat.le_refl _) hV, hm2.keep hm2.1 hV⟩⟩
  have HCAP := Lib.hid hc
  have HQ := Lib.hid (fun a (ha : q = some a) => Nat.lt_of_lt_of_le (hq a ha).2 A0.size)
  clear hr hq hc hb A0 hv hm1 hm2 HB0 HX0 HM0 HBW CM
  rw [hD]
  generalize (W1.alloc (.cells #[.int .i64 n, .slice q cs.length c] 24)) = W2 at *
  clear hD
  obtain ⟨⟨v0, v1, v2, v3, v4⟩, hrow, _⟩ := HD2.out.at
  have hpn := plans_any n c q cs W2 HCH.out hrow HQ.out
  unfold hillV at hpn
  have HPN := Lib.hid hpn
  clear hpn hrow
  go_upto_region 4 with (go_at_call 26; refine HPN.out.mono ?_; rintro e W3 ⟨q1, c1, vs1, q2, c2, rfl, hvl, hr1, hin, hr2, hb3⟩)
  have HB3 := Lib.hid hb3
  have HVL := Lib.hid hvl
  have HR1 := Lib.hid hr1
  have HIN := Lib.hid hin
  have HR2 := Lib.hid hr2
  have hpw := fun l (hl : l ∈ plansS n cs) => plan_ways HE.out HCH.out hl
  have hps14 := plansS_len HCH.out
  have HPW := Lib.hid hpw
  have HPV := Lib.hid (fun l hl => picked_valid HE.out HCH.out (l := l) hl)
  obtain ⟨ps, hps⟩ : ∃ ps, plansS n cs = ps := ⟨_, rfl⟩
  have HPS := Lib.hid hps
  rw [hps] at HVL HIN HR2 HPW hps14 HPV ⊢
  clear hb3 hvl hr1 hin hr2 hpw hps v0 v1 v2 v3 v4 HPN
  go_upto_if 43 with fail
  go_cut [43] (fun _ W => Below W3.heap.size W3 W)
  case first =>
    by_cases hne : ps = []
    · have hl0 : decide ((0 : Int) < (ps.length : Int)) = false := by rw [hne]; rfl
      have hl1 : ¬ (0 : Int) < (ps.length : Int) := by rw [hne]; decide
      clear hne
      go_wp2
      go_meet
      exact Below.refl _ _
    · have hpl : 0 < ps.length := List.length_pos_iff.2 hne
      have hl0 : decide ((0 : Int) < (ps.length : Int)) = true := decide_eq_true (by omega)
      have hl1 : (0 : Int) < (ps.length : Int) := by omega
      have hpn : ¬ (ps.length : Int) = 0 := by omega
      have o1 : IntKind.i64.wrap one = one := IntWalk.i64_in _ ⟨by omega, by omega⟩
      clear hne
      go_upto_region 6 with fail
      obtain ⟨k, hk⟩ : ∃ k : Nat, one % (ps.length : Int) = k := ⟨(one % (ps.length : Int)).toNat, by have := Int.emod_nonneg one hpn; omega⟩
      have hkl : k < ps.length := by have := Int.emod_lt_of_pos one hl1; omega
      rw [hk]
      clear hk o1
      go_upto_region 7 with fail
      obtain ⟨MB, hMB⟩ : ∃ MB, W3.heap.size = MB := ⟨_, rfl⟩
      have HMT := Lib.hid (MapTo.made W3 MB hMB)
      have hA4 : Below W3.heap.size W3 (W3.alloc (.map #[] 0)) := (Below.refl _ _).alloc (Nat.le_refl _) _
      rw [hMB]
      have HMB := Lib.hid hMB
      generalize (W3.alloc (.map #[] 0)) = W4 at *
      clear hMB
      obtain ⟨u, hu, ql, cl, rfl, hrl⟩ := InL.get k HIN.out hkl
      obtain ⟨b5, off5, rfl, hb5, hcell⟩ := HR1.out.at (k := k) (by rw [HVL.out]; exact hkl) (Nat.le_refl _) hA4
      obtain ⟨b6, off6, rfl, hb6, hcost⟩ := rowI_at HR2.out (k := k) (by rw [List.length_map]; exact hkl) (Nat.le_refl _) (Below.refl _ W3)
      have hcl := hcell k _ hu
      have hcl3 : W3.cell? ⟨b5, off5 + k, none⟩ = some (.slice ql (ps.getD k []).length cl) := by rw [← hcl]; exact (hA4.cell (p := ⟨b5, off5 + k, none⟩) hb5).symm
      obtain ⟨k1, k2, k3, k4, k5, k6, k7, k8⟩ := HPW.out _ (getD_mem ps k [] hkl)
      have hcv : (ps.map (costS cs)).getD k 0 = costS cs (ps.getD k []) := by rw [getD_eq _ k 0 (by rw [List.length_map]; exact hkl), List.getElem_map, getD_eq ps k [] hkl]
      rw [hcv] at hcost
      generalize ps.getD k [] = l at hcl hcl3 hrl k1 k2 k3 k4 k5 k6 k7 k8 hcost
      have HRL := Lib.hid hrl
      have HCL := Lib.hid hcl3
      have HCO := Lib.hid hcost
      have HK1 := Lib.hid k1
      have HK2 := Lib.hid k2
      have HK3 := Lib.hid k3
      have HK4 := Lib.hid k4
      have HK5 := Lib.hid k5
      have HK6 := Lib.hid k6
      have HK7 := Lib.hid k7
      have HA4 := Lib.hid hA4
      have hki : (k : Int) < (ps.length : Int) := by omega
      clear hu hrl hcell hcost hcv hcl3 k1 k2 k3 k4 k5 k6 k7 hA4
      go_wp2
      go_loopw [55] (fun i wl => ∃ t : Nat, t ≤ l.length ∧ i = .int .i64 t ∧ Hid (MapTo wl MB t (pairsS cs (l.take t))) ∧ Below W3.heap.size W3 wl) (fun i _ => l.length - (intOf i).toNat)
      case atStart => exact ⟨0, Nat.zero_le _, rfl, HMT, HA4.out⟩
      case round =>
        obtain ⟨t, ht, rfl, HMP, hbl⟩ := hrel
        by_cases htl : t < l.length
        · obtain ⟨b7, off7, rfl, hb7, hx⟩ := rowI_at HRL.out htl (Nat.le_refl _) hbl
          have hxr := HK7.out _ (getD_mem l t 0 htl)
          have hnew := pairs_new HK5.out htl
          have hstp := pairs_step cs l htl
          obtain ⟨X, hX⟩ : ∃ X : Nat, l.getD t 0 = X := ⟨(l.getD t 0).toNat, by omega⟩
          rw [hX] at hx hxr hnew hstp
          rw [Int.toNat_natCast] at hnew hstp
          have hXc : X < cs.length := by omega
          obtain ⟨⟨x0, x1, x2, x3, x4⟩, hrT, _⟩ := (HD2.out.go (HB3.out.on hbl)).at
          obtain ⟨b8, off8, rfl, hb8, g1, g2, g3⟩ := rowT_at hrT hXc (Nat.le_refl _) (Below.refl _ _)
          have hb8' : b8 < MB := by rw [← HMB.out]; exact Nat.lt_of_lt_of_le (HQ.out _ rfl) HB3.out.size
          have hDM : D < MB := by rw [← HMB.out]; exact Nat.lt_of_lt_of_le (HD2.out.at.1.1) HB3.out.size
          have hok := getD_ok HCH.out.ok hXc
          generalize cs.getD X (0, 0, 0) = ch at g1 g2 g3 hnew hstp hok
          obtain ⟨h1c, h2c, h3c⟩ := ch
          dsimp only at g1 g2 g3 hnew hstp
          have wf1 : (Lit.int .i64 h1c).wf = true := WalkArith.wf_i64 ⟨by have := hok.1.1; simp at this; omega, by have := hok.1.2; simp at this; omega⟩
          have wf2 : (Lit.int .i64 h2c).wf = true := WalkArith.wf_i64 ⟨by have := hok.2.1.1; simp at this; omega, by have := hok.2.1.2; simp at this; omega⟩
          have hti : (t : Int) < (l.length : Int) := by omega
          have hXi : (X : Int) < (cs.length : Int) := by omega
          have HNEW := Lib.hid hnew
          have HSTP := Lib.hid hstp
          have HBL := Lib.hid hbl
          have HWF := Lib.hid (And.intro wf1 wf2)
          have hMd : Hid (MapTo wr.drew MB t (pairsS cs (l.take t))) := Lib.hid (HMP.out.below (Below.refl _ _).drew)
          clear hX hxr hnew hstp hok hbl wf1 wf2 hrT g3
          go_upto_region 10 with fail
          refine Until.start (z := 13) (S := fun W => W.cell? ⟨D, 0, none⟩ = some (.int .i64 n) ∧ W.cell? ⟨D, 1, none⟩ = some (.slice (some ⟨b8, off8, none⟩) cs.length c) ∧ W.cell? ⟨b8, off8 + X * 3, none⟩ = some (.int .i64 h1c) ∧ W.cell? ⟨b8, off8 + X * 3 + 1, none⟩ = some (.int .i64 h2c)) (by kernel_rfl) ?_
          have hS : (fun W : World => W.cell? ⟨D, 0, none⟩ = some (.int .i64 n) ∧ W.cell? ⟨D, 1, none⟩ = some (.slice (some ⟨b8, off8, none⟩) cs.length c) ∧ W.cell? ⟨b8, off8 + X * 3, none⟩ = some (.int .i64 h1c) ∧ W.cell? ⟨b8, off8 + X * 3 + 1, none⟩ = some (.int .i64 h2c)) wr.drew := ⟨x1, x2, g1, g2⟩
          refine Until.taken (i := 0) (v := ?v0) (some 59) rfl rfl rfl (by kernel_rfl) (by kernel_rfl) (by kernel_rfl) (by kernel_rfl) (fun _ _ _ h => h) (Or.inl ⟨by rfl, ?y0⟩) hS ?r0
          case y0 => (intro W hSw; obtain ⟨s0, s1, s2, s3⟩ := hSw; go_simp; try with_reducible rfl)
          simp only [Act.put, List.setIfInBounds_toArray, List.set_cons_zero, List.set_cons_succ]
          refine Until.taken (i := 1) (v := ?v1) (some 60) rfl rfl rfl (by kernel_rfl) (by kernel_rfl) (by kernel_rfl) (by kernel_rfl) (fun _ _ _ h => h) (Or.inl ⟨by rfl, ?y1⟩) hS ?r1
          case y1 => (intro W hSw; obtain ⟨s0, s1, s2, s3⟩ := hSw; go_simp; try with_reducible rfl)
          simp only [Act.put, List.setIfInBounds_toArray, List.set_cons_zero, List.set_cons_succ]
          refine Until.taken (i := 2) (v := ?v2) (some 61) rfl rfl rfl (by kernel_rfl) (by kernel_rfl) (by kernel_rfl) (by kernel_rfl) (fun _ _ _ h => h) (Or.inl ⟨by rfl, ?y2⟩) hS ?r2
          case y2 => (intro W hSw; obtain ⟨s0, s1, s2, s3⟩ := hSw; go_simp; try with_reducible rfl)
          simp only [Act.put, List.setIfInBounds_toArray, List.set_cons_zero, List.set_cons_succ]
          refine Until.taken (i := 3) (v := ?v3) (some 62) rfl rfl rfl (by kernel_rfl) (by kernel_rfl) (by kernel_rfl) (by kernel_rfl) (fun _ _ _ h => h) (Or.inl ⟨by rfl, ?y3⟩) hS ?r3
          case y3 => (intro W hSw; obtain ⟨s0, s1, s2, s3⟩ := hSw; go_simp; try with_reducible rfl)
          simp only [Act.put, List.setIfInBounds_toArray, List.set_cons_zero, List.set_cons_succ]
          refine Until.taken (i := 4) (v := ?v4) (some 63) rfl rfl rfl (by kernel_rfl) (by kernel_rfl) (by kernel_rfl) (by kernel_rfl) (fun _ _ _ h => h) (Or.inl ⟨by rfl, ?y4⟩) hS ?r4
          case y4 => (intro W hSw; obtain ⟨s0, s1, s2, s3⟩ := hSw; go_simp; try with_reducible rfl)
          simp only [Act.put, List.setIfInBounds_toArray, List.set_cons_zero, List.set_cons_succ]
          refine Until.taken (i := 5) (v := ?v5) (some 64) rfl rfl rfl (by kernel_rfl) (by kernel_rfl) (by kernel_rfl) (by kernel_rfl) (fun _ _ _ h => h) (Or.inl ⟨by rfl, ?y5⟩) hS ?r5
          case y5 => (intro W hSw; obtain ⟨s0, s1, s2, s3⟩ := hSw; go_simp; try with_reducible rfl)
          simp only [Act.put, List.setIfInBounds_toArray, List.set_cons_zero, List.set_cons_succ]
          refine Until.taken (i := 6) (v := ?v6) (some 65) rfl rfl rfl (by kernel_rfl) (by kernel_rfl) (by kernel_rfl) (by kernel_rfl) (fun _ _ _ h => h) (Or.inl ⟨by rfl, ?y6⟩) hS ?r6
          case y6 => (intro W hSw; obtain ⟨s0, s1, s2, s3⟩ := hSw; go_simp; try with_reducible rfl)
          simp only [Act.put, List.setIfInBounds_toArray, List.set_cons_zero, List.set_cons_succ]
          refine Until.taken (i := 7) (v := ?v7) (some 66) rfl rfl rfl (by kernel_rfl) (by kernel_rfl) (by kernel_rfl) (by kernel_rfl) (fun _ _ _ h => h) (Or.inl ⟨by rfl, ?y7⟩) hS ?r7
          case y7 => (intro W hSw; obtain ⟨s0, s1, s2, s3⟩ := hSw; go_simp; try with_reducible rfl)
          simp only [Act.put, List.setIfInBounds_toArray, List.set_cons_zero, List.set_cons_succ]
          refine Until.taken (i := 8) (v := ?v8) (some 67) rfl rfl rfl (by kernel_rfl) (by kernel_rfl) (by kernel_rfl) (by kernel_rfl) (fun _ _ _ h => h) (Or.inl ⟨by rfl, ?y8⟩) hS ?r8
          case y8 => (intro W hSw; obtain ⟨s0, s1, s2, s3⟩ := hSw; go_simp; try with_reducible rfl)
          simp only [Act.put, List.setIfInBounds_toArray, List.set_cons_zero, List.set_cons_succ]
          refine Until.taken (i := 9) (v := ?v9) (some 68) rfl rfl rfl (by kernel_rfl) (by kernel_rfl) (by kernel_rfl) (by kernel_rfl) (fun _ _ _ h => h) (Or.inl ⟨by rfl, ?y9⟩) hS ?r9
          case y9 => (intro W hSw; obtain ⟨s0, s1, s2, s3⟩ := hSw; go_simp; try with_reducible rfl)
          simp only [Act.put, List.setIfInBounds_toArray, List.set_cons_zero, List.set_cons_succ]
          refine Until.taken (i := 10) (v := ?v10) (some 69) rfl rfl rfl (by kernel_rfl) (by kernel_rfl) (by kernel_rfl) (by kernel_rfl) (fun _ _ _ h => h) (Or.inl ⟨by rfl, ?y10⟩) hS ?r10
          case y10 => (intro W hSw; obtain ⟨s0, s1, s2, s3⟩ := hSw; go_simp; try with_reducible rfl)
          simp only [Act.put, List.setIfInBounds_toArray, List.set_cons_zero, List.set_cons_succ]
          refine Until.taken (i := 11) (v := ?v11) (some 70) rfl rfl rfl (by kernel_rfl) (by kernel_rfl) (by kernel_rfl) (by kernel_rfl) (fun _ _ _ h => h) (Or.inl ⟨by rfl, ?y11⟩) hS ?r11
          case y11 => (intro W hSw; obtain ⟨s0, s1, s2, s3⟩ := hSw; go_simp; try with_reducible rfl)
          simp only [Act.put, List.setIfInBounds_toArray, List.set_cons_zero, List.set_cons_succ]
          refine Until.taken (i := 12) (v := ?v12) (some 71) rfl rfl rfl (by kernel_rfl) (by kernel_rfl) (by kernel_rfl) (by kernel_rfl) (fun _ _ _ h => h) (Or.inl ⟨by rfl, ?y12⟩) hS ?r12
          case y12 => (intro W hSw; obtain ⟨s0, s1, s2, s3⟩ := hSw; go_simp; try with_reducible rfl)
          simp only [Act.put, List.setIfInBounds_toArray, List.set_cons_zero, List.set_cons_succ]
          refine Until.one (i := 13) rfl (by kernel_rfl) (fun K hK => ?_)
          refine step_mapTo (by rfl) (.tmp 59) (.tmp 65) (.tmp 71) (by rfl) MB t (pairsS cs (l.take t)) rfl hMd.out (by omega) h1c h2c rfl rfl HWF.out.1 HWF.out.2 HNEW.out ?_
          intro w1 hm1 hg1
          refine hK _ _ (fun h => absurd rfl h) ?_
          clear hK K
          try simp only [Act.put, List.getElem_toArray, List.getElem_cons_zero, List.getElem_cons_succ, List.setIfInBounds_toArray, List.set_cons_zero, List.set_cons_succ]
          refine Until.done (by kernel_rfl) ?_
          have HM1 := Lib.hid hm1
          have HB1 := Lib.hid ((HBL.out.drew).grown hg1 (by have := HBL.out.size; simpa using this) (fun j hj => by injection hj with hj; rw [← hj, HMB.out]; exact Nat.le_refl _))
          clear hm1 hg1 hS x0 x1 x2 x3 x4 g1 g2
          go_wp2
          go_roundw
          case rel => exact ⟨t + 1, htl, by go_num, by rw [HSTP.out]; exact HM1, HB1.out⟩
          case measure => simp [intOf]; omega
        · obtain rfl : t = l.length := by omega
          rw [List.take_length] at HMP
          have HBL := Lib.hid hbl
          clear hbl
          have hcst := fun W (hb : Below wr.heap.size wr W) => Cost_any n q c cs ql cl l W ((HD2.out.go (HB3.out.on (HBL.out.on hb))).at.2.1) HCAP.out (HRL.out.below (Nat.le_refl _) (HBL.out.on hb)) (by omega)
          have hval := fun W (hb : Below wr.heap.size wr W) => Valid_any n q c cs ql cl l W ((HD2.out.go (HB3.out.on (HBL.out.on hb))).at.2.1) HCAP.out (HRL.out.below (Nat.le_refl _) (HBL.out.on hb)) (by omega)
          have hway := fun (g : Int) W (hb : Below wr.heap.size wr W) => Way_any n q c cs ql cl l g W ((HD2.out.go (HB3.out.on (HBL.out.on hb))).at.2.1) HCAP.out (HRL.out.below (Nat.le_refl _) (HBL.out.on hb)) (by omega)
          simp only [Int.toNat_natCast, HK1.out] at hcst
          simp only [Int.toNat_natCast, HK2.out] at hval
          simp only [Int.toNat_natCast] at hway
          unfold hillV at hcst hval hway
          obtain ⟨⟨x0, x1, x2, x3, x4⟩, _, _⟩ := (HD2.out.go (HB3.out.on HBL.out)).at
          have y1 := (HBL.out.cell (p := ⟨b5, off5 + k, none⟩) hb5).trans HCL.out
          have z1 := (HBL.out.cell (p := ⟨b6, off6 + k, none⟩) hb6).trans HCO.out
          have hz5 : b5 < wr.heap.size := Nat.lt_of_lt_of_le hb5 HBL.out.size
          have hz6 : b6 < wr.heap.size := Nat.lt_of_lt_of_le hb6 HBL.out.size
          generalize costS cs l = kc at hcst z1
          have HCST := Lib.hid hcst
          have HVAL := Lib.hid hval
          have HWAY := Lib.hid hway
          clear hcst hval hway
          go_upto_region 12 with fail
          go_region_held3 (fun W => W.cell? ⟨D, 0, none⟩ = some (.int .i64 n) ∧ W.cell? ⟨D, 1, none⟩ = some (.slice q cs.length c) ∧ W.cell? ⟨b5, off5 + k, none⟩ = some (.slice ql l.length cl)) (first | exact ⟨x1, x2, y1⟩ | exact ⟨f1, f2, f3⟩ | go_keep)
            (first
              | (go_at_call 34; refine (HCST.out _ ((Below.refl _ _).drew)).mono ?_; rintro e w5 ⟨rfl, hb5'⟩; have hw5 : Below wr.heap.size wr w5 := ((Below.refl _ _).drew).on hb5'; have f1 := (hw5.cell (p := ⟨D, 0, none⟩) x0).trans x1; have f2 := (hw5.cell (p := ⟨D, 1, none⟩) x0).trans x2; have f3 := (hw5.cell (p := ⟨b5, off5 + k, none⟩) hz5).trans y1)
              | fail)
          have j1 := (hw5.cell (p := ⟨b6, off6 + k, none⟩) hz6).trans z1
          have hq0 : D < w5.heap.size := Nat.lt_of_lt_of_le x0 hw5.size
          have hq5 : b5 < w5.heap.size := Nat.lt_of_lt_of_le hz5 hw5.size
          have hq6 : b6 < w5.heap.size := Nat.lt_of_lt_of_le hz6 hw5.size
          have HW5 := Lib.hid hw5
          clear hb5' hw5 x0 x1 x2 x3 x4 y1 z1 hz5 hz6
          go_upto_region 13 with fail
          go_region_held3 (fun W => W.cell? ⟨D, 0, none⟩ = some (.int .i64 n) ∧ W.cell? ⟨D, 1, none⟩ = some (.slice q cs.length c) ∧ W.cell? ⟨b5, off5 + k, none⟩ = some (.slice ql l.length cl) ∧ W.cell? ⟨b6, off6 + k, none⟩ = some (.int .i64 kc)) (first | exact ⟨f1, f2, f3, j1⟩ | exact ⟨p1, p2, p3, p4⟩ | go_keep)
            (first
              | (go_at_call 35; refine (HVAL.out _ (HW5.out.on ((Below.refl _ _).drew))).mono ?_; rintro e w6 ⟨rfl, hb6'⟩; have hw6 : Below w5.heap.size w5 w6 := ((Below.refl _ _).drew).on hb6'; have p1 := (hw6.cell (p := ⟨D, 0, none⟩) hq0).trans f1; have p2 := (hw6.cell (p := ⟨D, 1, none⟩) hq0).trans f2; have p3 := (hw6.cell (p := ⟨b5, off5 + k, none⟩) hq5).trans f3; have p4 := (hw6.cell (p := ⟨b6, off6 + k, none⟩) hq6).trans j1)
              | fail)
          have HW6 := Lib.hid (HW5.out.on hw6)
          have HB6 := Lib.hid (HBL.out.on HW6.out)
          have HM6 := Lib.hid (HMP.out.below HW6.out)
          clear hb6' hw6 f1 f2 f3 j1 p1 p2 p3 p4 hq0 hq5 hq6
          obtain ⟨ch, hch⟩ : ∃ ch, chosenS cs l = ch := ⟨_, rfl⟩
          have HCHS := Lib.hid hch
          rw [hch] at HK3 HK5 HK6
          clear hch
          go_wp2
          go_loopw [102] (fun i wl => ∃ g : Nat, g ≤ n ∧ i = .int .i64 g ∧ Below w6.heap.size w6 wl) (fun i _ => n - (intOf i).toNat)
          case atStart => exact ⟨0, Nat.zero_le _, rfl, Below.refl _ _⟩
          case round =>
            obtain ⟨g, hgn, rfl, hbg⟩ := hrel
            by_cases hgl : g < n
            · have hgi : (g : Int) < (n : Int) := by omega
              go_upto_region 19 with (go_at_call 36; refine (llist_any _ _).mono ?_; rintro e w7 ⟨rfl, hw7⟩; subst hw7)
              have hos := own_single wr (g : Int)
              have hA7 : Below wr.heap.size wr (wr.alloc (.cells #[.int .i64 (g : Int)] 3)) := (Below.refl _ _).alloc (Nat.le_refl _) _
              obtain ⟨B7, hB7⟩ : ∃ B7, wr.heap.size = B7 := ⟨_, rfl⟩
              rw [hB7] at hos ⊢
              have HB7 := Lib.hid hB7
              have HOS := Lib.hid hos
              have HA7 := Lib.hid (hbg.on hA7)
              have hz67 : w6.heap.size ≤ B7 := by rw [← hB7]; exact hbg.size
              have HZ67 := Lib.hid hz67
              have HZ7 := Lib.hid (show B7 ≤ (wr.alloc (.cells #[.int .i64 (g : Int)] 3)).heap.size from by rw [← hB7]; exact hA7.size)
              generalize (wr.alloc (.cells #[.int .i64 (g : Int)] 3)) = W7 at *
              have hr0 := HK6.out g hgl
              have HR0 := Lib.hid hr0
              clear hr0 hos hA7 hB7 hbg hz67
              go_wp2
              go_loopg [18, 19] n (fun f v a w2 => ∃ (h : Nat) (acc : List Int), h ≤ n ∧ a = .int .i64 h ∧ Hid (reach n ch f h = true) ∧ Hid (acc ++ wayF n ch f h = wayF n ch n g) ∧ f + acc.length ≤ n ∧ Hid (w2.ownsRow B7 3 1 v (acc ++ [(h : Int)]).length (flatI (acc ++ [(h : Int)]))) ∧ B7 ≤ w2.heap.size ∧ Below w6.heap.size w6 w2)
              case atStart => exact ⟨g, [], hgn, rfl, HR0, Lib.hid rfl, by simp, HOS, HZ7.out, HA7.out⟩
              case round =>
                obtain ⟨h, acc, hhn, rfl, HRC, HACC, hfa, HOI, hz7, hb2⟩ := hrel
                by_cases hh : h = n
                · obtain rfl : n = h := hh.symm
                  have hacc := HACC.out
                  rw [wayF_end] at hacc
                  rw [hacc] at HOI
                  have hlw := wayF_len n ch n (g : Int)
                  have hwy := HK3.out g hgl
                  generalize wayF n ch n (g : Int) = wy at HOI hlw hwy
                  obtain ⟨q7, c7, rfl, hr7⟩ := own_form HOI.out (by intro h; rw [List.length_eq_zero_iff] at h; rw [h]; rfl)
                  have HR7 := Lib.hid hr7
                  have HB2 := Lib.hid hb2
                  have hw8 := fun W (hb : Below wr.heap.size wr W) => HWAY.out (g : Int) W (HW6.out.on (HB2.out.on hb))
                  simp only [hwy] at hw8
                  have HW8 := Lib.hid hw8
                  obtain ⟨⟨x0, x1, x2, x3, x4⟩, _, _⟩ := (HD2.out.go (HB3.out.on (HB6.out.on HB2.out))).at
                  have y1 := ((HB6.out.on HB2.out).cell (p := ⟨b5, off5 + k, none⟩) hb5).trans HCL.out
                  have hz5 : b5 < wr.heap.size := Nat.lt_of_lt_of_le hb5 (HB6.out.on HB2.out).size
                  have hlwi : ¬ ((n : Int) + 1 < (wy.length : Int)) := by omega
                  have hlwb : decide ((n : Int) + 1 < (wy.length : Int)) = false := decide_eq_false hlwi
                  have hwn : IntKind.i64.wrap ((n : Int) + 1) = (n : Int) + 1 := IntWalk.i64_in _ ⟨by omega, by omega⟩
                  have hwm : wy.length ≤ 1000000 := by omega
                  clear hacc hwy hw8 hr7 hb2 hlw hh HRC HACC
                  go_upto_region 23 with fail
                  go_region_held3 (fun W => W.cell? ⟨D, 0, none⟩ = some (.int .i64 n) ∧ W.cell? ⟨D, 1, none⟩ = some (.slice q cs.length c) ∧ W.cell? ⟨b5, off5 + k, none⟩ = some (.slice ql l.length cl)) (first | exact ⟨x1, x2, y1⟩ | exact ⟨f1, f2, f3⟩ | go_keep)
                    (first
                      | (go_at_call 37; refine (HW8.out _ ((Below.refl _ _).drew)).mono ?_; rintro e w8 ⟨q8, c8, rfl, hr8, _, _, hb8'⟩; have hw8 : Below wr.heap.size wr w8 := ((Below.refl _ _).drew).on hb8'; have f1 := (hw8.cell (p := ⟨D, 0, none⟩) x0).trans x1; have f2 := (hw8.cell (p := ⟨D, 1, none⟩) x0).trans x2; have f3 := (hw8.cell (p := ⟨b5, off5 + k, none⟩) hz5).trans y1)
                      | fail)
                  have hsm := same_any q8 q7 c8 c7 wy wy w8 hr8 (HR7.out.below (Nat.le_refl _) hw8) hwm hwm
                  rw [beq_self_eq_true] at hsm
                  have HSM := Lib.hid hsm
                  have HB8 := Lib.hid (HB2.out.on hw8)
                  clear hsm hr8 hb8' hw8 f1 f2 f3 x0 x1 x2 x3 x4 y1 hz5
                  go_wp2_with (go_at_call 17; refine HSM.out.mono ?_; rintro e w9 ⟨rfl, hb9⟩)
                  go_roundw
                  case rel => exact ⟨g + 1, hgl, by go_num, HB8.out.on hb9⟩
                  case measure => simp [intOf]; omega
                · have hlt : h < n := by omega
                  have hne1 : ((h : Int) == (n : Int)) = false := beq_eq_false_iff_ne.2 (by omega)
                  have hne2 : ((h : Int) != (n : Int)) = true := by simp; omega
                  have hrch := HRC.out
                  obtain ⟨f, rfl⟩ : ∃ f, gk = f + 1 := by
                    cases gk with
                    | zero => simp only [reach] at hrch; rw [hne1] at hrch; cases hrch
                    | succ f => exact ⟨f, rfl⟩
                  obtain ⟨t, ht, htn⟩ := next_in HK5.out hlt
                  have hr2 : reach n ch f (t : Int) = true := by
                    simp only [reach] at hrch
                    rw [hne1, Bool.false_or, htn] at hrch
                    exact hrch
                  have hpair : ((h : Int), (t : Int)) ∈ pairsS cs l := by
                    have h5 := HK5.out
                    have h6 := htn
                    rw [← HCHS.out] at h5 h6
                    have := pairs_next h5 hlt
                    rw [h6] at this
                    exact this
                  have hacc := HACC.out
                  rw [wayF_go hlt htn] at hacc
                  have HAC2 := Lib.hid hacc
                  have HR2 := Lib.hid hr2
                  have HPR := Lib.hid hpair
                  have hz67 := HZ67.out
                  have hal : acc.length ≤ 1000 := by omega
                  have hMw := HM6.out.below hb2
                  have HMW := Lib.hid hMw
                  have wfh : (Lit.int .i64 (h : Int)).wf = true := WalkArith.wf_i64 ⟨by omega, by omega⟩
                  have HWF := Lib.hid wfh
                  clear hrch hr2 hpair hacc htn hMw wfh hne1 HACC HRC
                  go_wp2_with (first
                    | (at_lookup; refine look_mapTo rfl (.tmp 112) (.tmp 113) rfl MB l.length (pairsS cs l) rfl HMW.out (h : Int) (t : Int) rfl HWF.out HPR.out ?_)
                    | (at_builtin; refine app_int _ rfl (.tmp 115) (.tmp 117) rfl B7 _ (acc ++ [(h : Int)]) (t : Int) rfl (HOI.out.alloc _) wr.heap.size 1 rfl (by simp) (by simp; omega) (by simp; omega) ?_; intro v2 w2 hown2 hgr2 hbk2; have hgb := grown_below (HOI.out.alloc _) (by simp; omega) hgr2; have hzb : B7 ≤ w2.heap.size := (by have := hgb.size; simp at this; omega); have hbb : Below w6.heap.size w6 w2 := hb2.trans (((Below.refl _ _).alloc hb2.size _).trans (hgb.mono hz67))))
                  go_roundg f
                  case measure => omega
                  case rel => exact ⟨t, acc ++ [(h : Int)], ht, rfl, HR2, Lib.hid (by rw [← HAC2.out]; simp), by simp; omega, Lib.hid hown2, hzb, hbb⟩
            · obtain rfl : n = g := by omega
              have hw8 := fun W (hb : Below wr.heap.size wr W) => HWAY.out (n : Int) W (HW6.out.on (hbg.on hb))
              simp only [HK4.out] at hw8
              have HW8 := Lib.hid hw8
              obtain ⟨⟨x0, x1, x2, x3, x4⟩, _, _⟩ := (HD2.out.go (HB3.out.on (HB6.out.on hbg))).at
              have y1 := ((HB6.out.on hbg).cell (p := ⟨b5, off5 + k, none⟩) hb5).trans HCL.out
              have hz5 : b5 < wr.heap.size := Nat.lt_of_lt_of_le hb5 (HB6.out.on hbg).size
              have HBG := Lib.hid (HB6.out.on hbg)
              clear hw8 hbg
              go_upto_region 27 with fail
              go_region_held3 (fun W => W.cell? ⟨D, 0, none⟩ = some (.int .i64 n) ∧ W.cell? ⟨D, 1, none⟩ = some (.slice q cs.length c) ∧ W.cell? ⟨b5, off5 + k, none⟩ = some (.slice ql l.length cl)) (first | exact ⟨x1, x2, y1⟩ | exact ⟨f1, f2, f3⟩ | go_keep)
                (first
                  | (go_at_call 37; refine (HW8.out _ ((Below.refl _ _).drew)).mono ?_; rintro e w8 ⟨q8, c8, rfl, hr8, _, _, hb8'⟩; have hw8 : Below wr.heap.size wr w8 := ((Below.refl _ _).drew).on hb8'; have f1 := (hw8.cell (p := ⟨D, 0, none⟩) x0).trans x1; have f2 := (hw8.cell (p := ⟨D, 1, none⟩) x0).trans x2; have f3 := (hw8.cell (p := ⟨b5, off5 + k, none⟩) hz5).trans y1)
                  | fail)
              have HB8 := Lib.hid (HBG.out.on hw8)
              clear hr8 hb8' hw8 f1 f2 f3 x0 x1 x2 x3 x4 y1 hz5
              go_wp2
              go_meet
              exact HB8.out
  case rest =>
  have HBC := Lib.hid hcut
  clear hcut
  go_upto_region 31 with fail
  obtain ⟨L, hL⟩ : ∃ L, wc.heap.size = L := ⟨_, rfl⟩
  have HL := Lib.hid hL
  have A5 : Below wc.heap.size wc (wc.alloc (.cells #[.slice none 0 0] 25)) := (Below.refl _ _).alloc (Nat.le_refl _) _
  have l0 : (wc.alloc (.cells #[.slice none 0 0] 25)).cell? ⟨L, 0, none⟩ = some (.slice none 0 0) := by rw [← hL]; simp
  have lf : (wc.alloc (.cells #[.slice none 0 0] 25)).frozen? ⟨L, 0, none⟩ = false := by rw [← hL]; simp
  have lz : L + 1 ≤ (wc.alloc (.cells #[.slice none 0 0] 25)).heap.size := by rw [← hL]; simp
  have HB5 := Lib.hid A5
  rw [hL]
  clear A5
  generalize (wc.alloc (.cells #[.slice none 0 0] 25)) = W5 at *
  clear hL
  go_wp2
  go_loopw [158] (fun i wl => ∃ (g : Nat) (v : Value) (l : List Int), g ≤ n ∧ i = .int .i64 g ∧ Hid (Picked cs g l) ∧ wl.cell? ⟨L, 0, none⟩ = some v ∧ wl.frozen? ⟨L, 0, none⟩ = false ∧ Hid (wl.ownsRow (L + 1) 3 1 v l.length (flatI l)) ∧ L + 1 ≤ wl.heap.size ∧ Below wc.heap.size wc wl) (fun i _ => n - (intOf i).toNat)
  case atStart => exact ⟨0, _, [], Nat.zero_le _, rfl, Lib.hid (Picked.zero cs), l0, lf, Lib.hid (World.ownsRow_nil _ _ _ _), lz, HB5.out⟩
  case round =>
    obtain ⟨g, v, l, hgn, rfl, HPK, l0, lf, HO, lz, hbl⟩ := hrel
    by_cases hgl : g < n
    · have hgi : (g : Int) < (n : Int) := by omega
      obtain ⟨⟨x0, x1, x2, x3, x4⟩, hrT, hbx⟩ := (HD2.out.go (HB3.out.on (HBC.out.on hbl))).at
      have HRT := Lib.hid hrT
      have HBX := Lib.hid hbx
      have HBL := Lib.hid hbl
      clear hrT hbx hbl
      obtain ⟨W6, rfl⟩ : ∃ W : World, W = wr := ⟨_, rfl⟩
      go_wp2
      go_loopw [26, 164] (fun v2 i wl => ∃ t : Nat, t ≤ cs.length ∧ i = .int .i64 t ∧ Hid (wl.ownsRow W6.heap.size 3 1 v2 (ownS cs g t).length (flatI (ownS cs g t))) ∧ Below W6.heap.size W6 wl) (fun _ i _ => cs.length - (intOf i).toNat)
      case atStart => exact ⟨0, Nat.zero_le _, rfl, Lib.hid (World.ownsRow_nil _ _ _ _), Below.refl _ _⟩
      case round =>
        obtain ⟨t, ht, rfl, HW, hbt⟩ := hrel
        by_cases htl : t < cs.length
        · obtain ⟨b3, off3, rfl, hb3, g1, g2, g3⟩ := rowT_at HRT.out htl (Nat.le_refl _) hbt
          have hst : ownS cs g (t + 1) = ownS cs g t ++ if ((cs.getD t (0, 0, 0)).1 == (g : Int)) = true then [(t : Int)] else [] := rangeF_succ _ t
          have hle : (ownS cs g t).length ≤ t := rangeF_len _ t
          generalize ownS cs (g : Int) t = ys at HW hst hle
          generalize cs.getD t (0, 0, 0) = ch at g1 g2 g3 hst
          obtain ⟨a, b, y⟩ := ch
          dsimp only at g1 g2 g3 hst
          have hti : (t : Int) < (cs.length : Int) := by omega
          have HST := Lib.hid hst
          have hA : Below wr.heap.size wr (wr.alloc (.cells #[.int .i64 a, .int .i64 b, .int .i64 y] 51)) := (Below.refl _ _).alloc (Nat.le_refl _) _
          clear hst
          go_upto_region 38 with fail
          obtain ⟨WA, hWA⟩ : ∃ WA, wr.alloc (.cells #[.int .i64 a, .int .i64 b, .int .i64 y] 51) = WA := ⟨_, rfl⟩
          rw [hWA] at hA
          have s0 : WA.cell? ⟨wr.heap.size, 0, none⟩ = some (.int .i64 a) := by rw [← hWA]; simp
          have HWA := Lib.hid (owns_below HW.out (Nat.le_refl _) hA)
          have hbA := hbt.on hA
          have hzA := hbA.size
          rw [hWA]
          clear hWA g1 g2 g3 hA hbt
          by_cases hag : a = (g : Int)
          · have hab : (a == (g : Int)) = true := beq_iff_eq.2 hag
            rw [if_pos hab] at HST
            have HAG := Lib.hid hag
            clear hag
            go_wp2_with (at_builtin; refine app_int _ rfl (.tmp 173) (.tmp 175) rfl W6.heap.size _ ys (t : Int) rfl (HWA.out.alloc _) WA.heap.size 1 rfl (by simp) (by omega) (by simp; omega) ?_; intro v2 w2 hown2 hgr2 hbk2; have hb2 : Below W6.heap.size W6 w2 := hbA.trans (((Below.refl _ _).alloc hzA _).trans (grown_below (HWA.out.alloc _) (by simp; omega) hgr2)))
            go_roundw
            case rel => exact ⟨t + 1, htl, by go_num, Lib.hid (by rw [HST.out]; exact hown2), hb2⟩
            case measure => simp [intOf]; omega
          · have hab : (a == (g : Int)) = false := beq_eq_false_iff_ne.2 hag
            rw [if_neg (by rw [hab]; decide), List.append_nil] at HST
            go_wp2
            go_roundw
            case rel => exact ⟨t + 1, htl, by go_num, Lib.hid (by rw [HST.out]; exact HWA.out), hbA⟩
            case measure => simp [intOf]; omega
        · obtain rfl : t = cs.length := by omega
          have hmem := fun x hx => ownS_mem (cs := cs) (g := (g : Int)) (x := x) hx
          have hlo : (ownS cs (g : Int) cs.length).length ≤ cs.length := rangeF_len _ _
          generalize ownS cs (g : Int) cs.length = ow at HW hmem hlo
          obtain ⟨qo, co, rfl, hro, _, hqb⟩ := rowV_of_owns HW.out (by intro h; rw [List.length_eq_zero_iff] at h; rw [h]; rfl)
          have HMEM := Lib.hid hmem
          have HBT := Lib.hid (HBL.out.on hbt)
          have k0 := (hbt.cell (p := ⟨L, 0, none⟩) (by simp; omega)).trans l0
          have kf := (hbt.frozen (p := ⟨L, 0, none⟩) (by simp; omega)).trans lf
          have HOK := Lib.hid (owns_below HO.out (Nat.le_refl _) hbt)
          have hzk : L + 1 ≤ wr.heap.size := Nat.le_trans lz hbt.size
          have hMw : M < wr.heap.size := (HBX.out.keep HBX.out.1 hbt).1
          have hbx := (HBX.out.keep HBX.out.1 hbt).cell g (by rw [HOL.out]; omega)
          have hoy := HOO.out _ (getD_mem os g 0 (by rw [HOL.out]; omega))
          generalize os.getD g 0 = y at hbx hoy
          clear hmem l0 lf hbt
          by_cases how : ow = []
          · have hw0 : decide ((0 : Int) < (ow.length : Int)) = false := by rw [how]; rfl
            have hw1 : ¬ (0 : Int) < (ow.length : Int) := by rw [how]; decide
            clear how hro
            go_wp2
            go_roundw
            case rel => exact ⟨g + 1, v, l, hgl, by go_num, Lib.hid HPK.out.same, k0, kf, HOK, hzk, HBT.out⟩
            case measure => simp [intOf]; omega
          · have hop : 0 < ow.length := List.length_pos_iff.2 how
            have hw0 : decide ((0 : Int) < (ow.length : Int)) = true := decide_eq_true (by omega)
            have hw1 : (0 : Int) < (ow.length : Int) := by omega
            have hwn : ¬ (ow.length : Int) = 0 := by omega
            have o1 : IntKind.i64.wrap y = y := IntWalk.i64_in _ ⟨by omega, by omega⟩
            obtain ⟨j, hj⟩ : ∃ j : Nat, y % (ow.length : Int) = j := ⟨(y % (ow.length : Int)).toNat, by have := Int.emod_nonneg y hwn; omega⟩
            have hjl : j < ow.length := by have := Int.emod_lt_of_pos y hw1; omega
            have hji : (j : Int) < (ow.length : Int) := by omega
            have hj2 : y.tmod (ow.length : Int) = (j : Int) := by rw [Int.tmod_eq_emod_of_nonneg hoy.1]; exact hj
            obtain ⟨b4, off4, rfl, hb4, hx⟩ := rowI_at hro hjl (Nat.le_refl _) (Below.refl _ _)
            have hxm := HMEM.out _ (getD_mem ow j 0 hjl)
            generalize ow.getD j 0 = x at hx hxm
            have HPN := Lib.hid (HPK.out.add hxm.1 hxm.2)
            have hg6 : (g : Int) < 6 := by omega
            have hll := HPK.out.len
            clear hxm hro
            go_upto_region 42 with fail
            refine Until.start (z := 13) (S := fun W => W.cell? ⟨L, 0, none⟩ = some v ∧ W.cell? ⟨M, g, none⟩ = some (.int .u8 y) ∧ W.cell? ⟨b4, off4 + j, none⟩ = some (.int .i64 x)) (by kernel_rfl) ?_
            have hS : (fun W : World => W.cell? ⟨L, 0, none⟩ = some v ∧ W.cell? ⟨M, g, none⟩ = some (.int .u8 y) ∧ W.cell? ⟨b4, off4 + j, none⟩ = some (.int .i64 x)) wr.drew := ⟨k0, hbx, hx⟩
            refine Until.taken (i := 0) (v := ?vb0) (some 181) rfl rfl rfl (by kernel_rfl) (by kernel_rfl) (by kernel_rfl) (by kernel_rfl) (fun _ _ _ h => h) (Or.inl ⟨by rfl, ?yb0⟩) hS ?rb0
            case yb0 => (intro W hSw; obtain ⟨s0, s1, s2⟩ := hSw; go_simp; try with_reducible rfl)
            simp only [Act.put, List.setIfInBounds_toArray, List.set_cons_zero, List.set_cons_succ]
            refine Until.taken (i := 1) (v := ?vb1) (some 182) rfl rfl rfl (by kernel_rfl) (by kernel_rfl) (by kernel_rfl) (by kernel_rfl) (fun _ _ _ h => h) (Or.inl ⟨by rfl, ?yb1⟩) hS ?rb1
            case yb1 => (intro W hSw; obtain ⟨s0, s1, s2⟩ := hSw; go_simp; try with_reducible rfl)
            simp only [Act.put, List.setIfInBounds_toArray, List.set_cons_zero, List.set_cons_succ]
            refine Until.taken (i := 2) (v := ?vb2) (some 183) rfl rfl rfl (by kernel_rfl) (by kernel_rfl) (by kernel_rfl) (by kernel_rfl) (fun _ _ _ h => h) (Or.inl ⟨by rfl, ?yb2⟩) hS ?rb2
            case yb2 => (intro W hSw; obtain ⟨s0, s1, s2⟩ := hSw; go_simp; try with_reducible rfl)
            simp only [Act.put, List.setIfInBounds_toArray, List.set_cons_zero, List.set_cons_succ]
            refine Until.taken (i := 3) (v := ?vb3) (some 184) rfl rfl rfl (by kernel_rfl) (by kernel_rfl) (by kernel_rfl) (by kernel_rfl) (fun _ _ _ h => h) (Or.inl ⟨by rfl, ?yb3⟩) hS ?rb3
            case yb3 => (intro W hSw; obtain ⟨s0, s1, s2⟩ := hSw; go_simp; try with_reducible rfl)
            simp only [Act.put, List.setIfInBounds_toArray, List.set_cons_zero, List.set_cons_succ]
            refine Until.taken (i := 4) (v := ?vb4) (some 185) rfl rfl rfl (by kernel_rfl) (by kernel_rfl) (by kernel_rfl) (by kernel_rfl) (fun _ _ _ h => h) (Or.inl ⟨by rfl, ?yb4⟩) hS ?rb4
            case yb4 => (intro W hSw; obtain ⟨s0, s1, s2⟩ := hSw; go_simp; try with_reducible rfl)
            simp only [Act.put, List.setIfInBounds_toArray, List.set_cons_zero, List.set_cons_succ]
            refine Until.taken (i := 5) (v := ?vb5) (some 186) rfl rfl rfl (by kernel_rfl) (by kernel_rfl) (by kernel_rfl) (by kernel_rfl) (fun _ _ _ h => h) (Or.inl ⟨by rfl, ?yb5⟩) hS ?rb5
            case yb5 => (intro W hSw; obtain ⟨s0, s1, s2⟩ := hSw; go_simp; try with_reducible rfl)
            simp only [Act.put, List.setIfInBounds_toArray, List.set_cons_zero, List.set_cons_succ]
            refine Until.taken (i := 6) (v := ?vb6) (some 187) rfl rfl rfl (by kernel_rfl) (by kernel_rfl) (by kernel_rfl) (by kernel_rfl) (fun _ _ _ h => h) (Or.inl ⟨by rfl, ?yb6⟩) hS ?rb6
            case yb6 => (intro W hSw; obtain ⟨s0, s1, s2⟩ := hSw; go_simp; try with_reducible rfl)
            simp only [Act.put, List.setIfInBounds_toArray, List.set_cons_zero, List.set_cons_succ]
            refine Until.taken (i := 7) (v := ?vb7) (some 188) rfl rfl rfl (by kernel_rfl) (by kernel_rfl) (by kernel_rfl) (by kernel_rfl) (fun _ _ _ h => h) (Or.inl ⟨by rfl, ?yb7⟩) hS ?rb7
            case yb7 => (intro W hSw; obtain ⟨s0, s1, s2⟩ := hSw; go_simp; try with_reducible rfl)
            simp only [Act.put, List.setIfInBounds_toArray, List.set_cons_zero, List.set_cons_succ]
            refine Until.taken (i := 8) (v := ?vb8) (some 189) rfl rfl rfl (by kernel_rfl) (by kernel_rfl) (by kernel_rfl) (by kernel_rfl) (fun _ _ _ h => h) (Or.inl ⟨by rfl, ?yb8⟩) hS ?rb8
            case yb8 => (intro W hSw; obtain ⟨s0, s1, s2⟩ := hSw; go_simp; try with_reducible rfl)
            simp only [Act.put, List.setIfInBounds_toArray, List.set_cons_zero, List.set_cons_succ]
            refine Until.taken (i := 9) (v := ?vb9) (some 190) rfl rfl rfl (by kernel_rfl) (by kernel_rfl) (by kernel_rfl) (by kernel_rfl) (fun _ _ _ h => h) (Or.inl ⟨by rfl, ?yb9⟩) hS ?rb9
            case yb9 => (intro W hSw; obtain ⟨s0, s1, s2⟩ := hSw; go_simp; try with_reducible rfl)
            simp only [Act.put, List.setIfInBounds_toArray, List.set_cons_zero, List.set_cons_succ]
            refine Until.taken (i := 10) (v := ?vb10) (some 191) rfl rfl rfl (by kernel_rfl) (by kernel_rfl) (by kernel_rfl) (by kernel_rfl) (fun _ _ _ h => h) (Or.inl ⟨by rfl, ?yb10⟩) hS ?rb10
            case yb10 => (intro W hSw; obtain ⟨s0, s1, s2⟩ := hSw; go_simp; try with_reducible rfl)
            simp only [Act.put, List.setIfInBounds_toArray, List.set_cons_zero, List.set_cons_succ]
            have hLw : L < wr.heap.size := by omega
            have hML : M < L := by rw [← HL.out]; exact (HD2.out.go (HB3.out.on HBC.out)).at.2.2.1
            have hbd : Below wr.heap.size wr (wr.alloc (.cells #[.int .i64 x] 3)).drew := ((Below.refl _ _).alloc (Nat.le_refl _) _).drew
            have m0 := (hbd.cell (p := ⟨L, 0, none⟩) hLw).trans k0
            have m1 := (hbd.cell (p := ⟨M, g, none⟩) hMw).trans hbx
            have m2 := (hbd.cell (p := ⟨b4, off4 + j, none⟩) hb4).trans hx
            have mf := (hbd.frozen (p := ⟨L, 0, none⟩) hLw).trans kf
            have sD : (wr.alloc (.cells #[.int .i64 x] 3)).drew.cell? ⟨wr.heap.size, 0, none⟩ = some (.int .i64 x) := by
              have := one_new wr (.int .i64 x) 3 wr.heap.size rfl
              exact this.1
            have HOD := Lib.hid (owns_below HOK.out (Nat.le_refl _) hbd)
            have hsz := hbd.size
            have hnb : some b4 ≠ v.ownBlock := fun e => by have h1 := (HO.out.lt b4 e.symm).2; have h2 := (hqb _ rfl).1; simp at h2; omega
            refine Until.one (i := 11) rfl (by kernel_rfl) (fun K hK => ?_)
            have HK := Lib.hid hK
            clear hK
            go_simp
            refine HK.out _ _ (fun _ => ⟨m0, m1, m2⟩) ?_
            clear HK K
            try simp only [Act.put, List.getElem_toArray, List.getElem_cons_zero, List.getElem_cons_succ, List.setIfInBounds_toArray, List.set_cons_zero, List.set_cons_succ]
            refine Until.one (i := 12) rfl (by kernel_rfl) (fun K hK => ?_)
            have HK := Lib.hid hK
            clear hK
            refine step_one _ (by rfl) (.tmp 181) (.tmp 192) 25 (by rfl) (L + 1) 3 _ 1 8 Tryz.underlying25 infoI rfl (by decide) (by decide) v l.length (flatI l) rfl HOD.out wr.heap.size 1 rfl [.int .i64 x] rfl ?_ ?_ (by omega) (by omega) ?_
            · intro j u hj
              match j, hj with
              | 0, hj => simp at hj; subst hj; exact sD
            · intro u hu
              simp at hu
              subst hu
              rfl
            intro g8 c8 w8 hown8 hgr8 hbk8 hgz8
            have hb8 : Below (L + 1) (wr.alloc (.cells #[.int .i64 x] 3)).drew w8 := grown_below HOD.out (by omega) hgr8
            have n0 := (hb8.cell (p := ⟨L, 0, none⟩) (by simp)).trans m0
            have n1' := (hb8.cell (p := ⟨M, g, none⟩) (by simp; omega)).trans m1
            have n2 := hgr8.cell m2 hnb
            have nf := (hb8.frozen (p := ⟨L, 0, none⟩) (by simp)).trans mf
            refine HK.out _ _ (fun _ => ⟨n0, n1', n2⟩) ?_
            clear HK K
            try simp only [Act.put, List.getElem_toArray, List.getElem_cons_zero, List.getElem_cons_succ, List.setIfInBounds_toArray, List.set_cons_zero, List.set_cons_succ]
            refine Until.one (i := 13) rfl (by kernel_rfl) (fun K hK => ?_)
            have HK := Lib.hid hK
            clear hK
            go_simp
            refine HK.out _ _ (fun h => absurd rfl h) ?_
            clear HK K
            try simp only [Act.put, List.getElem_toArray, List.getElem_cons_zero, List.getElem_cons_succ, List.setIfInBounds_toArray, List.set_cons_zero, List.set_cons_succ]
            refine Until.done (by kernel_rfl) ?_
            have hzw : L + 1 ≤ w8.heap.size := by have := hb8.size; omega
            have HBW := Lib.hid (HBT.out.trans (((hbd.mono hzk).trans hb8).mono (by have := HL.out; omega)))
            have hoN := ownsRow_setCell hown8 ⟨L, 0, none⟩ (.slice (some ⟨g8, 0, none⟩) (l.length + 1) c8) (by simp)
            have HON := Lib.hid hoN
            clear m0 m1 m2 mf n1' n2 hS k0 kf hbx hx hoN hown8 hgr8 hbk8 hb8 hbd
            go_wp2
            go_roundw
            case rel =>
              refine ⟨g + 1, .slice (some ⟨g8, 0, none⟩) (l.length + 1) c8, l ++ [x], hgl, by go_num, HPN, ?_, ?_, Lib.hid ?_, ?_, ?_⟩
              · rw [World.cell?_setCell_same (h := n0)]
              · simpa using nf
              · have e : flatI (l ++ [x]) = flatI l ++ [.int .i64 x] := by simp [flatI]
                rw [e, List.length_append]
                exact HON.out
              · simp only [World.size_setCell]; exact hzw
              · exact HBW.out.setCell (p := ⟨L, 0, none⟩) (by have := HL.out; simp; omega) _
            case measure => simp [intOf]; omega
    · obtain rfl : n = g := by omega
      have HBL := Lib.hid hbl
      have hll := HPK.out.len
      have hsr := sortVar_any L v l wr (by omega) l0 HO.out lz
      have hpv := HPV.out l HPK.out
      have hSL : (sortI l).length ≤ 6 := by rw [sortI_length]; omega
      generalize sortI l = sl at hsr hpv hSL
      obtain ⟨V, hV⟩ : ∃ V, validOf n cs sl = V := ⟨_, rfl⟩
      rw [hV] at hpv
      have HSR := Lib.hid hsr
      have HV := Lib.hid hV
      have HPVV := Lib.hid hpv
      clear hsr hV hpv HO lf hbl
      go_upto_region 45 with (go_at_call 38; refine HSR.out.mono ?_; rintro e W7 ⟨rfl, ⟨q7, c7, rfl, hr7, hc7⟩, hz7, hb7⟩)
      have hb7' : Below wc.heap.size wc W7 := HBL.out.trans (hb7.mono (by have := HL.out; omega))
      have HB7 := Lib.hid (HBC.out.on hb7')
      have hLI : ListIn W7 L sl := ⟨q7, c7, hz7, hc7, hr7⟩
      have hcon := containsL_any L sl q1 c1 vs1 ps W7 hLI (by omega) (HR1.out.below (Nat.le_refl _) HB7.out) HVL.out (InL.mono (fun v l ⟨q, c, e, h⟩ => ⟨q, c, e, h.below (Nat.le_refl _) HB7.out⟩) HIN.out) (by omega) (fun p hp => by have := (HPW.out p hp).2.2.2.2.2.2.2; omega)
      have hcst := fun W (hb : Below W7.heap.size W7 W) => Cost_any n q c cs q7 c7 sl W ((HD2.out.go (HB3.out.on (HB7.out.on hb))).at.2.1) HCAP.out (hr7.below (Nat.le_refl _) hb) (by omega)
      have hval := fun W (hb : Below W7.heap.size W7 W) => Valid_any n q c cs q7 c7 sl W ((HD2.out.go (HB3.out.on (HB7.out.on hb))).at.2.1) HCAP.out (hr7.below (Nat.le_refl _) hb) (by omega)
      simp only [Int.toNat_natCast, costR_err, HV.out] at hcst
      simp only [Int.toNat_natCast, HV.out] at hval
      generalize (costR n cs sl).1 = X at hcst
      unfold hillV at hcst hval
      have hcell := fun W (hb : Below W7.heap.size W7 W) => (hb.cell (p := ⟨L, 0, none⟩) hz7).trans hc7
      have hhill := fun W (hb : Below W7.heap.size W7 W) => (HD2.out.go (HB3.out.on (HB7.out.on hb))).at.1
      have HCON := Lib.hid hcon
      have HCST := Lib.hid hcst
      have HVAL := Lib.hid hval
      have HCELL := Lib.hid hcell
      have HHILL := Lib.hid hhill
      obtain ⟨x0, x1, x2, x3, x4⟩ := hhill W7 (Below.refl _ _)
      clear hcon hcst hval hcell hhill hb7 hb7' hr7 hLI l0
      by_cases hsn : sl.length < n
      · have hv := HPVV.out
        rw [if_pos hsn] at hv
        subst hv
        have hsi : (sl.length : Int) < (n : Int) := by omega
        have hsb : decide ((sl.length : Int) < (n : Int)) = true := decide_eq_true hsi
        clear hsn
        go_upto_region 51 with (go_at_call 34; refine (HCST.out _ (Below.refl _ _)).mono ?_; rintro e W9 ⟨rfl, hb9⟩)
        have HB9 := Lib.hid hb9
        obtain ⟨y0, y1, y2, y3, y4⟩ := HHILL.out W9 hb9
        have y5 := HCELL.out W9 hb9
        clear hb9 x0 x1 x2 x3 x4 hc7
        go_wp2_with (first
          | (go_at_call 35; refine (HVAL.out _ HB9.out).mono ?_; rintro e W10 ⟨rfl, hb10⟩)
          | (go_at_call 8; refine (HWK.out _).mono ?_; rintro e wz ⟨rfl, hbz⟩))
        go_ret
        exact ⟨rfl, (HD2.out.bel.on (HB3.out.on HB7.out)).on ((HB9.out.on hb10).on hbz)⟩
      · have hsi : ¬ (sl.length : Int) < (n : Int) := by omega
        have hsb : decide ((sl.length : Int) < (n : Int)) = false := decide_eq_false hsi
        have hv := HPVV.out
        rw [if_neg hsn] at hv
        obtain ⟨bb, hbb⟩ : ∃ b, (ps.any fun p => p == sl) = b := ⟨_, rfl⟩
        rw [hbb] at HCON hv
        have HBB := Lib.hid hbb
        clear hbb hsn
        cases bb with
        | true =>
          rw [if_pos rfl] at hv
          subst hv
          go_upto_region 50 with (go_at_call 39; refine HCON.out.mono ?_; rintro e W8 ⟨rfl, hb8⟩)
          have HB8 := Lib.hid hb8
          obtain ⟨z0, z1, z2, z3, z4⟩ := HHILL.out W8 hb8
          have z5 := HCELL.out W8 hb8
          clear hb8 x0 x1 x2 x3 x4 hc7
          go_upto_region 51 with (go_at_call 34; refine (HCST.out _ HB8.out).mono ?_; rintro e W9 ⟨rfl, hb9⟩)
          have HB9 := Lib.hid (HB8.out.on hb9)
          obtain ⟨y0, y1, y2, y3, y4⟩ := HHILL.out W9 HB9.out
          have y5 := HCELL.out W9 HB9.out
          clear hb9 z0 z1 z2 z3 z4 z5
          go_wp2_with (first
            | (go_at_call 35; refine (HVAL.out _ HB9.out).mono ?_; rintro e W10 ⟨rfl, hb10⟩)
            | (go_at_call 8; refine (HWK.out _).mono ?_; rintro e wz ⟨rfl, hbz⟩))
          go_ret
          exact ⟨rfl, (HD2.out.bel.on (HB3.out.on HB7.out)).on ((HB9.out.on hb10).on hbz)⟩
        | false =>
          rw [if_neg (by decide)] at hv
          subst hv
          go_upto_region 50 with (go_at_call 39; refine HCON.out.mono ?_; rintro e W8 ⟨rfl, hb8⟩)
          have HB8 := Lib.hid hb8
          obtain ⟨z0, z1, z2, z3, z4⟩ := HHILL.out W8 hb8
          have z5 := HCELL.out W8 hb8
          clear hb8 x0 x1 x2 x3 x4 hc7
          go_upto_region 51 with (go_at_call 34; refine (HCST.out _ HB8.out).mono ?_; rintro e W9 ⟨rfl, hb9⟩)
          have HB9 := Lib.hid (HB8.out.on hb9)
          obtain ⟨y0, y1, y2, y3, y4⟩ := HHILL.out W9 HB9.out
          have y5 := HCELL.out W9 HB9.out
          clear hb9 z0 z1 z2 z3 z4 z5
          go_wp2_with (first
            | (go_at_call 35; refine (HVAL.out _ HB9.out).mono ?_; rintro e W10 ⟨rfl, hb10⟩)
            | (go_at_call 8; refine (HWK.out _).mono ?_; rintro e wz ⟨rfl, hbz⟩))
          go_ret
          exact ⟨rfl, (HD2.out.bel.on (HB3.out.on HB7.out)).on ((HB9.out.on hb10).on hbz)⟩
end Go.Proofs.YtadamjleglckpaaGreat.drn
