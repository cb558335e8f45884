/- DrainSteps: the law's body. -/
import Derived.Test.YtadamjleglckpaaGreatDrnMd
import Derived.Test.YtadamjleglckpaaGreatQa7
import Derived.Test.YtadamjleglckpaaGreatDrnS2
import Derived.Test.YtadamjleglckpaaGreatQa6
import Derived.Test.YtadamjleglckpaaGreatQa5
import Derived.Test.YtadamjleglckpaaGreatQa8
import Derived.Deep.CutRange
import Derived.Deep.DeepCutAuto
import Derived.BigRegion
import Derived.BigQuiet
import Derived.Test.YtadamjleglckpaaGreatKw
namespace Go.Proofs.YtadamjleglckpaaGreat.drn
open Go.RowKit
open Go.Proofs.YtadamjleglckpaaGreat.ev (works_any)
set_option linter.unusedSimpArgs false
set_option linter.unusedVariables false
theorem leftAt_of {W : World} {L k : Nat} {v : Value} {xs : List Int} (hv : W.cell? ⟨L, 0, none⟩ = some v) (h : W.ownsRow (L + 1) 3 1 v k (flatI xs)) (hk : k ≠ 0) : ∃ g c, v = .slice (some ⟨g, 0, none⟩) k c ∧ LeftAt W L g c k xs := by
  have hlt := h.lt
  obtain ⟨q, c, rfl, hrow, hqn, hqb⟩ := rowV_of_owns h (fun h => absurd h hk)
  obtain ⟨_, ⟨_, h0⟩ | ⟨g, cap, cur, e, hg, hh, _⟩⟩ := h
  · exact absurd h0 hk
  · injection e with e1 e2 e3
    subst e1
    subst e3
    exact ⟨g, _, rfl, hv, hrow, fun i => by simp [World.frozen?, hh], by omega, (hlt g rfl).2⟩
set_option maxRecDepth 100000 in
set_option maxHeartbeats 8000000 in
theorem DrainSteps_any (xs : List Int) (hxl : xs.length = 22) (hxo : ∀ x ∈ xs, 0 ≤ x ∧ x ≤ 255) (w : World) :
    Calls Tryz.prog 4 #[.agg (flat8 xs).toArray] w fun e w' => e = .returned (.bool true) ∧ Below w.heap.size w w' := by
  have hworks : ∀ W : World, Calls Tryz.prog 8 #[] W fun e w' => e = .returned (.bool true) ∧ Below W.heap.size W w' := fun W => works_any W
  have hx0 := hxo _ (getD_mem xs 0 0 (by omega))
  obtain ⟨n, hn⟩ : ∃ n : Nat, (n : Int) = 1 + xs.getD 0 0 % ((5 : Nat) : Int) := ⟨(1 + xs.getD 0 0 % 5).toNat, by omega⟩
  have n1 : 1 ≤ n := by omega
  have n6 : n ≤ 6 := by omega
  have hE := made_err (m := 14) hxo n1 n6 (by omega)
  have CM := Lib.hid (fun W => made_any xs 5 14 n W hxl hxo (by omega) (by omega) (by omega) hn)
  have hlm : (madeS xs n 14).length ≤ 14 := made_len hxo n 14
  generalize madeS xs n 14 = cs at *
  obtain ⟨n', hnn, hchs⟩ := chs_of hE
  obtain rfl : n = n' := by omega
  have HE := Lib.hid hE
  have HCH := Lib.hid hchs
  have HWK := Lib.hid hworks
  have HXL := Lib.hid hxl
  clear hE hxo hxl hx0 hn hchs hworks hnn
  have b1 := BoxAt.new w xs 44
  have a1 : Below w.heap.size w (w.alloc (.cells (flat8 xs).toArray 44)) := (Below.refl _ _).alloc (Nat.le_refl _) _
  have HB0 := Lib.hid a1
  have HX0 := Lib.hid b1
  clear b1 a1
  go_enter Tryz.func4, Tryz.ntmps4
  go_upto_region 1 with fail
  generalize (w.alloc (.cells (flat8 xs).toArray 44)) = W0 at *
  go_upto_region 2 with (first
    | (refine wpList_loadA xs HXL.out _ HX0.out (.tmp 1) rfl rfl rfl ?_)
    | (go_at_call 20; refine (CM.out _).mono ?_; rintro e W1 ⟨q, c, rfl, hr, hq, hc, hb⟩; unfold hillV))
  have HBW := Lib.hid (HB0.out.on hb)
  obtain ⟨D, hD⟩ : ∃ D, W1.heap.size = D := ⟨_, rfl⟩
  have hv := Cell2.new W1 D hD (.int .i64 n) (.slice q cs.length c) 24
  have A0 : Below W1.heap.size W1 (W1.alloc (.cells #[.int .i64 n, .slice q cs.length c] 24)) := (Below.refl _ _).alloc (Nat.le_refl _) _
  have HD2 : Hid (Bd w (W1.alloc (.cells #[.int .i64 n, .slice q cs.length c] 24)) fun W => Cell2 W D (.int .i64 n) (.slice q cs.length c) ∧ RowV W q (flatT cs)) :=
    Lib.hid ⟨HBW.out.on A0, fun V hV => ⟨hv.below hv.1 hV, (hr.below (Nat.le_refl _) A0).below (Nat.le_refl _) hV⟩⟩
  have HCAP := Lib.hid hc
  have HQ := Lib.hid (fun a (ha : q = some a) => Nat.lt_of_lt_of_le (hq a ha).2 A0.size)
  clear hr hq hc hb A0 hv HB0 HX0 HBW CM
  rw [hD]
  generalize (W1.alloc (.cells #[.int .i64 n, .slice q cs.length c] 24)) = W2 at *
  clear hD

  obtain ⟨⟨v0, v1, v2, v3, v4⟩, _⟩ := HD2.out.at
  have hch := fun W (hb : Below W2.heap.size W2 W) => cheapest_any n c q cs W HCH.out ((HD2.out.at.2).below (Nat.le_refl _) hb) (fun a ha => Nat.lt_of_lt_of_le (HQ.out a ha) hb.size)
  have hdu := fun W (hb : Below W2.heap.size W2 W) => Dues_any n q c cs W ((HD2.out.at.2).below (Nat.le_refl _) hb) HCAP.out
  rw [Int.toNat_natCast] at hdu
  unfold hillV at hch hdu
  by_cases hpl : plansS n cs = []
  · have hch2 : ∀ W, Below W2.heap.size W2 W → Calls Tryz.prog 22 #[.agg #[.int .i64 n, .slice q cs.length c]] W fun e w' => e = .returned (.tuple #[.slice none 0 0, .int .i64 0, .int .i64 0]) ∧ Below W.heap.size W w' := fun W hb => (hch W hb).mono fun e w' h => ⟨h.1 hpl, h.2.2⟩
    have hdo : duesOf n cs = ([], 12) := by
      unfold duesOf
      rw [if_neg (fun h => h HE.out), if_pos]
      intro hw
      obtain ⟨l, hl⟩ := (plan_iff HCH.out.n6 HCH.out.ok).2 hw
      have := (mem_plansS HCH.out.n1 HCH.out.ok l).2 hl
      rw [hpl] at this
      cases this
    rw [hdo] at hdu
    have HCHP := Lib.hid hch2
    have HDU := Lib.hid hdu
    clear hch hch2 hdu hdo hpl
    go_upto_region 3 with (go_at_call 21; refine (HDU.out _ (Below.refl _ _)).mono ?_; rintro e W3 ⟨q3, c3, vs3, rfl, hd3, hb3⟩)
    obtain ⟨⟨u0, u1, u2, u3, u4⟩, _⟩ := (HD2.out.go hb3).at
    have HB3 := Lib.hid hb3
    clear hb3 hd3
    go_upto_region 4 with (go_at_call 22; refine (HCHP.out _ HB3.out).mono ?_; rintro e W4 ⟨rfl, hb4⟩)
    have HBF := Lib.hid ((HD2.out.bel.on HB3.out).on hb4)
    clear hb4
    go_wp2_with (go_at_call 8; refine (HWK.out _).mono ?_; rintro e W5 ⟨rfl, hb5⟩)
    go_ret
    exact ⟨rfl, HBF.out.on hb5⟩
  · have hch2 : ∀ W, Below W2.heap.size W2 W → Calls Tryz.prog 22 #[.agg #[.int .i64 n, .slice q cs.length c]] W fun e w' => ∃ q c p, 
        e = .returned (.tuple #[.slice q (List.length (α := Int) p) c, .int .i64 (leastS cs (plansS n cs)), .int .i64 ((plansS n cs).filter fun p => costS cs p == leastS cs (plansS n cs)).length]) ∧ Below W.heap.size W w' := fun W hb => (hch W hb).mono fun e w' h => by
      obtain ⟨q, c, p, h1, h2, _, h3, h4⟩ := h.2.1 hpl
      exact ⟨q, c, p, h4, h.2.2⟩
    have hw : wetS n cs = allS n := by
      obtain ⟨l, hl⟩ := List.exists_mem_of_ne_nil _ hpl
      exact (plan_iff HCH.out.n6 HCH.out.ok).1 ⟨l, (mem_plansS HCH.out.n1 HCH.out.ok l).1 hl⟩
    have hcs0 : cs.length ≠ 0 := by
      obtain ⟨s, hs⟩ : ∃ s, s ∈ groupsS n 0 := ⟨1, mem_groups.2 ⟨by omega, Nat.one_lt_two_pow (by omega)⟩⟩
      obtain ⟨c0, hc0, _⟩ := leaves_some HCH.out hw hs
      intro e
      rw [List.length_eq_zero_iff.1 e] at hc0
      cases hc0
    have hdo : duesOf n cs = (duesF n (cs.length + 1) cs, 0) := by
      unfold duesOf
      rw [if_neg (fun h => h HE.out), if_neg (fun h => h hw)]
    rw [hdo] at hdu
    have hst := StepAt.start HCH.out hw rfl
    have hmany : 0 < ((plansS n cs).filter fun p => costS cs p == leastS cs (plansS n cs)).length := by
      obtain ⟨p, hp, h1, _⟩ := least_spec HCH.out.ok hpl
      rw [List.length_pos_iff_exists_mem]
      exact ⟨p, List.mem_filter.2 ⟨hp, by rw [h1]; simp⟩⟩
    generalize duesF n (cs.length + 1) cs = du at hdu hst
    obtain ⟨many, hmn⟩ : ∃ m, ((plansS n cs).filter fun p => costS cs p == leastS cs (plansS n cs)).length = m := ⟨_, rfl⟩
    simp only [hmn] at hch2 hmany
    obtain ⟨lst, hlst⟩ : ∃ x, leastS cs (plansS n cs) = x := ⟨_, rfl⟩
    simp only [hlst] at hch2
    have HCHP := Lib.hid hch2
    have HDU := Lib.hid hdu
    have HST0 := Lib.hid hst
    have hmf : ((many : Int) == 0) = false := beq_eq_false_iff_ne.2 (by omega)
    have hdl : du.length ≤ 14 := by have := hst.many; omega
    clear hch hch2 hdu hdo hmn hlst hst hpl hw
    go_upto_region 3 with (go_at_call 21; refine (HDU.out _ (Below.refl _ _)).mono ?_; rintro e W3 ⟨q3, c3, vs3, rfl, hd3, hb3⟩)
    obtain ⟨⟨u0, u1, u2, u3, u4⟩, _⟩ := (HD2.out.go hb3).at
    have HB3 := Lib.hid hb3
    have HD3 := Lib.hid hd3
    clear hb3 hd3
    go_upto_region 4 with (go_at_call 22; refine (HCHP.out _ HB3.out).mono ?_; rintro e W4 ⟨qp, cp, p, rfl, hb4⟩)
    have HB4 := Lib.hid (HB3.out.on hb4)
    have HD4 := Lib.hid (HD3.out.below (Nat.le_refl _) hb4)
    have HR4 := Lib.hid ((HD2.out.go HB4.out).at.2)
    clear hb4 u0 u1 u2 u3 u4 v0 v1 v2 v3 v4 HD3
    go_upto_region 7 with fail
    obtain ⟨L, hL⟩ : ∃ L, W4.heap.size = L := ⟨_, rfl⟩
    have HL := Lib.hid hL
    have A5 : Below W4.heap.size W4 (W4.alloc (.cells #[.slice none 0 0] 25)) := (Below.refl _ _).alloc (Nat.le_refl _) _
    have l0 : (W4.alloc (.cells #[.slice none 0 0] 25)).cell? ⟨L, 0, none⟩ = some (.slice none 0 0) := by rw [← hL]; simp
    have lf : (W4.alloc (.cells #[.slice none 0 0] 25)).frozen? ⟨L, 0, none⟩ = false := by rw [← hL]; simp
    have lz : L + 1 ≤ (W4.alloc (.cells #[.slice none 0 0] 25)).heap.size := by rw [← hL]; simp
    have HB5 := Lib.hid A5
    obtain ⟨⟨t0, t1, t2, t3, t4⟩, _⟩ := (HD2.out.go (HB4.out.on A5)).at
    rw [hL]
    clear A5
    generalize (W4.alloc (.cells #[.slice none 0 0] 25)) = W5 at *
    clear hL
    go_wp2
    go_loopw [44] (fun i wl => ∃ (t : Nat) (v : Value), t ≤ cs.length ∧ i = .int .i64 t ∧ wl.cell? ⟨L, 0, none⟩ = some v ∧ wl.frozen? ⟨L, 0, none⟩ = false ∧ Hid (wl.ownsRow (L + 1) 3 1 v t (flatI ((thirds cs).take t))) ∧ L + 1 ≤ wl.heap.size ∧ Below W4.heap.size W4 wl) (fun i _ => cs.length - (intOf i).toNat)
    case atStart => exact ⟨0, _, Nat.zero_le _, rfl, l0, lf, Lib.hid (World.ownsRow_nil _ _ _ _), lz, HB5.out⟩
    case round =>
      obtain ⟨t, v, ht, rfl, l0, lf, HO, lz, hbl⟩ := hrel
      by_cases htl : t < cs.length
      · obtain ⟨b3, off3, rfl, hb3, g1, g2, g3⟩ := rowT_at HR4.out htl (Nat.le_refl _) hbl
        have htk := getD_take (thirds cs) t 0 (by rw [thirds_len]; exact htl)
        rw [thirds_at cs htl] at htk
        have hln : ((thirds cs).take t).length = t := by rw [List.length_take, thirds_len]; omega
        generalize (thirds cs).take t = ys at HO htk hln
        subst hln
        generalize cs.getD ys.length (0, 0, 0) = ch at g1 g2 g3 htk
        obtain ⟨h1, h2, h3⟩ := ch
        dsimp only at g1 g2 g3 htk
        have HTK := Lib.hid htk
        have hti : (ys.length : Int) < (cs.length : Int) := by omega
        have hA : Below wr.heap.size wr (wr.alloc (.cells #[.int .i64 h1, .int .i64 h2, .int .i64 h3] 51)) := (Below.refl _ _).alloc (Nat.le_refl _) _
        clear htk
        go_upto_region 10 with fail
        obtain ⟨WA, hWA⟩ : ∃ WA, wr.alloc (.cells #[.int .i64 h1, .int .i64 h2, .int .i64 h3] 51) = WA := ⟨_, rfl⟩
        rw [hWA] at hA
        have s2 : WA.cell? ⟨wr.heap.size, 2, none⟩ = some (.int .i64 h3) := by rw [← hWA]; simp
        have k0 := (hA.cell (p := ⟨L, 0, none⟩) (by simp; omega)).trans l0
        have kf := (hA.frozen (p := ⟨L, 0, none⟩) (by simp; omega)).trans lf
        have HOA := Lib.hid (owns_below HO.out (Nat.le_refl _) hA)
        have hzA := hA.size
        have hblA := hbl.on hA
        rw [hWA]
        clear hWA g1 g2 g3 hA
        go_wp2_with (at_builtin; refine app_int _ rfl (.tmp 48) (.tmp 51) rfl (L + 1) _ ys h3 rfl (HOA.out.alloc _) WA.heap.size 1 rfl (by simp) (by omega) (by simp; omega) ?_; intro v2 w2 hown2 hgr2 hbk2; obtain ⟨qz, cz, rfl, hrz⟩ := own_form hown2 (by intro h; simp at h); have hb2 : Below (L + 1) WA w2 := ((Below.refl _ WA).alloc (by omega) _).trans (grown_below (HOA.out.alloc _) (by simp; omega) hgr2); have l2 := (hb2.cell (p := ⟨L, 0, none⟩) (by simp)).trans k0; have lf2 := (hb2.frozen (p := ⟨L, 0, none⟩) (by simp)).trans kf)
        go_roundw
        case rel =>
          refine ⟨ys.length + 1, .slice qz (ys.length + 1) cz, htl, by go_num, ?_, ?_, Lib.hid ?_, ?_, ?_⟩
          · rw [World.cell?_setCell_same (h := l2)]
          · simpa using lf2
          · rw [HTK.out]
            have := ownsRow_setCell hown2 ⟨L, 0, none⟩ (.slice qz (ys.length + 1) cz) (by simp)
            simpa using this
          · simp only [World.size_setCell]; have := hb2.size; omega
          · exact (hblA.trans (hb2.mono (by have := HL.out; omega))).setCell (p := ⟨L, 0, none⟩) (by have := HL.out; simp; omega) _
        case measure => simp [intOf]; omega
      · obtain rfl : t = cs.length := by omega
        have hO := HO.out
        rw [List.take_of_length_le (by rw [thirds_len]; exact Nat.le_refl _)] at hO
        obtain ⟨g, c2, rfl, hLA⟩ := leftAt_of l0 hO hcs0
        have HLA := Lib.hid hLA
        have HB6 := Lib.hid hbl
        obtain ⟨P, HPP, hPe, hP0, hP64, hPn⟩ := two6 n n6
        clear hLA hO HO l0 lf lz hbl
        go_wp2
        go_loopw [13] (fun i wl => ∃ (j : Nat) (ds : List Ch), j ≤ du.length ∧ i = .int .i64 j ∧ Hid (LeftAt wl L g c2 cs.length (thirds ds)) ∧ Hid (StepAt n cs du j ds) ∧ Below W4.heap.size W4 wl) (fun i _ => du.length - (intOf i).toNat)
        case atStart => exact ⟨0, cs, Nat.zero_le _, rfl, HLA, HST0, HB6.out⟩
        case round =>
          obtain ⟨j, ds, hjd, rfl, HLA, HST, hbo⟩ := hrel
          have hls : ∀ W, Below wr.heap.size wr W → ∀ S : Nat, S < 64 → Calls Tryz.prog 23 #[.int .i64 S, .pointer (some ⟨D, 0, none⟩), .pointer (some ⟨L, 0, none⟩)] W fun e w' => e = .returned (.int .i64 (leastH ds S)) ∧ Below W.heap.size W w' := fun W hb S hS =>
            least_any D L g n q c c2 S cs ds W ((HD2.out.go HB4.out).go (hbo.on hb)).at.1 ((HD2.out.go HB4.out).go (hbo.on hb)).at.2 (HLA.out.below hb) HST.out.paid hS
          have HLS := Lib.hid hls
          have HBO := Lib.hid hbo
          have HDO := Lib.hid ((HD2.out.go HB4.out).go hbo)
          clear hls hbo
          go_wp2
          go_loopw [14, 15] (fun b s wl => ∃ (k bst : Nat), 1 ≤ k ∧ k ≤ P ∧ s = .int .i64 k ∧ b = .int .i64 bst ∧ bst < 64 ∧ Hid (IsBest (payC n ds) (fun _ => 0) k bst) ∧ Below wr.heap.size wr wl) (fun _ s _ => P - (intOf s).toNat)
          case atStart => exact ⟨1, 0, Nat.le_refl _, hP0, rfl, rfl, by omega, Lib.hid (IsBest.zero _ _), Below.refl _ _⟩
          case round =>
            obtain ⟨k, bst, hk1, hkP, rfl, rfl, hb64, HBT, hbl⟩ := hrel
            obtain ⟨⟨c0, c1, c2', c3, c4⟩, _⟩ := (HDO.out.go hbl).at
            by_cases hlt : k < P
            · have hk64 : k < 64 := by omega
              have hk2n : k < 2 ^ n := by rw [HPP.out]; exact hlt
              have hpc := payC_is HST.out.paid.chs hk2n
              have hki : (k : Int) < (P : Int) := by omega
              have hk0 : ¬ k = 0 := by omega
              have hlk := fun W (hb : Below wr.heap.size wr W) => HLS.out W (hbl.on hb) k hk64
              have HBL := Lib.hid hbl
              have HPC := Lib.hid hpc
              clear hpc hbl
              by_cases hz : leastH ds k = 0
              · rw [hz] at hlk
                have HLK := Lib.hid hlk
                have HN := Lib.hid (HBT.out.no (by rw [HPC.out, hz]; rfl))
                clear hlk hz
                go_wp2_with (go_at_call 23; refine (HLK.out _ (Below.refl _ _)).mono ?_; rintro e w1 ⟨rfl, hb1⟩)
                go_roundw
                case rel => exact ⟨k + 1, bst, by omega, hlt, by go_num, rfl, hb64, HN, HBL.out.on hb1⟩
                case measure => simp [intOf]; omega
              · have hzb : (leastH ds k != 0) = true := by simpa using hz
                have hpc2 : payC n ds k = smallH ds k k := by rw [HPC.out, hzb]; rfl
                have HPC2 := Lib.hid hpc2
                obtain ⟨lk, hlke⟩ : ∃ x, leastH ds k = x := ⟨_, rfl⟩
                rw [hlke] at hlk hz
                have hz2 : (lk == 0) = false := beq_eq_false_iff_ne.2 hz
                have HLK := Lib.hid hlk
                clear hlk hz hzb hpc2 hlke
                go_upto_region 20 with (go_at_call 23; refine (HLK.out _ (Below.refl _ _)).mono ?_; rintro e w1 ⟨rfl, hb1⟩)
                have HB1 := Lib.hid (HBL.out.on hb1)
                clear hb1 hz2
                go_wp2
                go_loopw [16, 17] (fun a b wl => ∃ u : Nat, 1 ≤ u ∧ u ≤ k ∧ b = .int .i64 u ∧ a = .bool (smallH ds k u) ∧ Below w1.heap.size w1 wl) (fun _ b _ => k - (intOf b).toNat)
                case atStart => exact ⟨1, Nat.le_refl _, hk1, rfl, by rw [smallH_one], Below.refl _ _⟩
                case round =>
                  obtain ⟨u, hu1, huk, rfl, rfl, hbu⟩ := hrel
                  by_cases huk2 : u < k
                  · have hs := smallH_succ ds k u hu1
                    have hui : (u : Int) < (k : Int) := by omega
                    have hu64 : u < 64 := by omega
                    cases hsm : smallH ds k u with
                    | false =>
                      rw [hsm] at hs
                      have HS := Lib.hid hs
                      clear hs hsm
                      go_wp2
                      go_roundw
                      case rel => exact ⟨u + 1, by omega, huk2, by go_num, by rw [HS.out]; rfl, hbu⟩
                      case measure => simp [intOf]; omega
                    | true =>
                      rw [hsm] at hs
                      have han := andnot_sets u k hu64 hk64
                      cases hn : (u &&& k != u) with
                      | true =>
                        rw [hn] at hs han
                        have HS := Lib.hid hs
                        clear hs hsm hn
                        go_wp2
                        go_roundw
                        case rel => exact ⟨u + 1, by omega, huk2, by go_num, by rw [HS.out]; rfl, hbu⟩
                        case measure => simp [intOf]; omega
                      | false =>
                        rw [hn] at hs han
                        have hlu := HLS.out wr (HB1.out.on hbu) u hu64
                        obtain ⟨lu, hlue⟩ : ∃ x, leastH ds u = x := ⟨_, rfl⟩
                        rw [hlue] at hs hlu
                        have HS := Lib.hid hs
                        have HLU := Lib.hid hlu
                        clear hs hsm hn hlue hlu
                        cases hl0 : (lu == 0) with
                        | true =>
                          rw [hl0] at HS
                          go_wp2_with (go_at_call 23; refine HLU.out.mono ?_; rintro e w5 ⟨rfl, hb5⟩)
                          go_roundw
                          case rel => exact ⟨u + 1, by omega, huk2, by go_num, by rw [HS.out]; rfl, hbu.on hb5⟩
                          case measure => simp [intOf]; omega
                        | false =>
                          rw [hl0] at HS
                          go_wp2_with (go_at_call 23; refine HLU.out.mono ?_; rintro e w5 ⟨rfl, hb5⟩)
                          go_roundw
                          case rel => exact ⟨u + 1, by omega, huk2, by go_num, by rw [HS.out]; rfl, hbu.on hb5⟩
                          case measure => simp [intOf]; omega
                  · obtain rfl : u = k := by omega
                    have HBU := Lib.hid (HB1.out.on hbu)
                    clear hbu
                    cases hsm : smallH ds u u with
                    | false =>
                      have HN := Lib.hid (HBT.out.no (by rw [HPC2.out, hsm]))
                      clear hsm
                      go_wp2
                      go_roundw
                      case rel => exact ⟨u + 1, bst, by omega, hlt, by go_num, rfl, hb64, HN, HBU.out⟩
                      case measure => simp [intOf]; omega
                    | true =>
                      have hC : payC n ds u = true := by rw [HPC2.out, hsm]
                      have HC := Lib.hid hC
                      clear hsm hC
                      by_cases hb0 : bst = 0
                      · subst hb0
                        have HN := Lib.hid (HBT.out.new hk1 HC.out (.inl rfl))
                        go_wp2
                        go_roundw
                        case rel => exact ⟨u + 1, u, by omega, hlt, by go_num, rfl, hk64, HN, HBU.out⟩
                        case measure => simp [intOf]; omega
                      · have hb0i : ¬ (bst : Int) = 0 := by omega
                        have hb0b : ((bst : Int) == 0) = false := beq_eq_false_iff_ne.2 hb0i
                        have hlk := listS_len u
                        have hlb := listS_len bst
                        have hnew := fun h => HBT.out.new hk1 HC.out (.inr h)
                        have hold := fun h => HBT.out.old hk64 hb0 h
                        have HNEW := Lib.hid hnew
                        have HOLD := Lib.hid hold
                        clear hnew hold
                        by_cases hc : cmpI (listS u) (listS bst) < 0
                        · have HN := Lib.hid (HNEW.out (.inr ⟨rfl, (cmpI_lex _ _).1 hc⟩))
                          have hcb : decide (cmpI (listS u) (listS bst) < 0) = true := decide_eq_true hc
                          go_wp2_with (first
                            | (go_at_call 25; have hx := hr2; refine (members_any _ _ hb64).mono ?_; rintro e w3 ⟨z3, rfl, hown3, hb3⟩; obtain ⟨r3, d3, rfl, hr3⟩ := own_form hown3 (by intro h; rw [List.length_eq_zero_iff] at h; rw [h]; rfl))
                            | (go_at_call 25; refine (members_any _ _ hk64).mono ?_; rintro e w2 ⟨z2, rfl, hown2, hb2⟩; obtain ⟨r2, d2, rfl, hr2⟩ := own_form hown2 (by intro h; rw [List.length_eq_zero_iff] at h; rw [h]; rfl))
                            | (go_at_call 24; refine (compare_any r2 r3 d2 d3 (listS u) (listS bst) _ (hr2.below (Nat.le_refl _) hb3) hr3 (by omega) (by omega)).mono ?_; rintro e w4 ⟨rfl, hw4⟩; subst hw4))
                          go_roundw
                          case rel => exact ⟨u + 1, u, by omega, hlt, by go_num, rfl, hk64, HN, (HBU.out.on hb2).on hb3⟩
                          case measure => simp [intOf]; omega
                        · have HN := Lib.hid (HOLD.out (fun h => by rcases h with h | ⟨_, h⟩; exact absurd h (Nat.lt_irrefl _); exact hc ((cmpI_lex _ _).2 h)))
                          have hcb : decide (cmpI (listS u) (listS bst) < 0) = false := decide_eq_false hc
                          go_wp2_with (first
                            | (go_at_call 25; have hx := hr2; refine (members_any _ _ hb64).mono ?_; rintro e w3 ⟨z3, rfl, hown3, hb3⟩; obtain ⟨r3, d3, rfl, hr3⟩ := own_form hown3 (by intro h; rw [List.length_eq_zero_iff] at h; rw [h]; rfl))
                            | (go_at_call 25; refine (members_any _ _ hk64).mono ?_; rintro e w2 ⟨z2, rfl, hown2, hb2⟩; obtain ⟨r2, d2, rfl, hr2⟩ := own_form hown2 (by intro h; rw [List.length_eq_zero_iff] at h; rw [h]; rfl))
                            | (go_at_call 24; refine (compare_any r2 r3 d2 d3 (listS u) (listS bst) _ (hr2.below (Nat.le_refl _) hb3) hr3 (by omega) (by omega)).mono ?_; rintro e w4 ⟨rfl, hw4⟩; subst hw4))
                          go_roundw
                          case rel => exact ⟨u + 1, bst, by omega, hlt, by go_num, rfl, hb64, HN, (HBU.out.on hb2).on hb3⟩
                          case measure => simp [intOf]; omega
            · obtain rfl : k = P := by omega
              have hpay := payer_best n6 (cs := ds) (b := bst) (by rw [HPP.out]; exact HBT.out)
              have HBL := Lib.hid hbl
              clear hbl
              by_cases hb0 : bst = 0
              · rw [if_pos hb0] at hpay
                have hj := HST.out.done hpay
                subst hj
                subst hb0
                clear hpay
                go_wp2_with (go_at_call 8; refine (HWK.out _).mono ?_; rintro e wz ⟨rfl, hbz⟩)
                go_ret
                exact ⟨rfl, (HDO.out.go HBL.out).bel.on hbz⟩
              · rw [if_neg hb0] at hpay
                obtain ⟨hj, hdj, hlh, hbd, hst2⟩ := HST.out.next hpay
                have hb0b : ((bst : Int) == 0) = false := beq_eq_false_iff_ne.2 (by omega)
                have hln := HLS.out wr HBL.out bst hb64
                rw [hlh] at hln
                have HTA := Lib.hid (partX_all ds bst (leastLeft ds bst))
                have HTZ := Lib.hid (partX_zero ds bst (leastLeft ds bst))
                generalize takeLeft ds bst (leastLeft ds bst) = dn at hst2 HTA
                generalize leastLeft ds bst = NN at *
                have HLN := Lib.hid hln
                have HS2 := Lib.hid hst2
                clear hln hst2 hpay hlh
                go_upto_region 30 with (go_at_call 23; refine HLN.out.mono ?_; rintro e w6 ⟨rfl, hb6⟩)
                have HBW6 := Lib.hid (HBL.out.on hb6)
                have hbo6 := HBO.out.on HBW6.out
                obtain ⟨bD, oD, qg, cg, rfl, hbD, g1, g2, g3⟩ := (HD4.out.below (Nat.le_refl _) hbo6).at hj
                rw [hdj] at g1 g2 g3
                dsimp only at g1 g2 g3
                have hlb := listS_len bst
                have HB06 := Lib.hid hbo6
                have hji : ¬ (du.length : Int) ≤ (j : Int) := by omega
                have hjl : (j : Int) < (du.length : Int) := by omega
                clear hb6 hbo6 hdj
                go_region_held3 (fun W => W.cell? ⟨bD, oD + j * 2, none⟩ = some (.slice qg (listS bst).length cg) ∧ W.cell? ⟨bD, oD + j * 2 + 1, none⟩ = some (.int .i64 NN)) (first | exact ⟨g1, g2⟩ | exact ⟨e1, e2⟩ | exact ⟨f1, f2⟩ | go_keep)
                  (first
                    | (go_at_call 25; refine (members_any _ _ hb64).mono ?_; rintro e w7 ⟨z7, rfl, hown7, hb7'⟩; have hb7 : Below w6.heap.size w6 w7 := ((Below.refl _ _).drew).on hb7'; obtain ⟨r7, d7, rfl, hr7⟩ := own_form hown7 (by intro h; rw [List.length_eq_zero_iff] at h; rw [h]; rfl); have e1 := (hb7.cell (p := ⟨bD, oD + j * 2, none⟩) hbD).trans g1; have e2 := (hb7.cell (p := ⟨bD, oD + j * 2 + 1, none⟩) hbD).trans g2; have hz7 : bD < w7.heap.size := Nat.lt_of_lt_of_le hbD hb7.size)
                    | (go_at_call 17; refine (same_any qg r7 cg d7 (listS bst) (listS bst) w7 (g3.below (Nat.le_refl _) hb7) hr7 (by omega) (by omega)).mono ?_; rintro e w8 ⟨rfl, hb8⟩; have f1 := (hb8.cell (p := ⟨bD, oD + j * 2, none⟩) hz7).trans e1; have f2 := (hb8.cell (p := ⟨bD, oD + j * 2 + 1, none⟩) hz7).trans e2)
                    | fail)
                have hb68 := hb7.on hb8
                have HB8 := Lib.hid (HB06.out.on hb68)
                have HLA8 := Lib.hid (HLA.out.below (HBW6.out.on hb68))
                clear hb7 hb7' hb8 hb68 hown7 hr7 g1 g2 g3 e1 e2 f1 f2 hz7 hbD c0 c1 c2' c3 c4
                obtain ⟨⟨x0, x1, x2, x3, x4⟩, _⟩ := ((HD2.out.go HB4.out).go HB8.out).at
                go_wp2
                go_loopw [147] (fun i wl => ∃ t : Nat, t ≤ cs.length ∧ i = .int .i64 t ∧ Hid (LeftAt wl L g c2 cs.length (partX ds bst NN t)) ∧ Below W4.heap.size W4 wl) (fun i _ => cs.length - (intOf i).toNat)
                case atStart => exact ⟨0, Nat.zero_le _, rfl, Lib.hid (by rw [HTZ.out]; exact HLA8.out), HB8.out⟩
                case round =>
                  obtain ⟨t, ht, rfl, HLP, hbp⟩ := hrel
                  by_cases htl : t < cs.length
                  · obtain ⟨b3, off3, rfl, hb3, y1, y2, y3⟩ := rowT_at HR4.out htl (Nat.le_refl _) hbp
                    obtain ⟨a, b, x, y, hca, hda, ha, hb, hy0, hy20, hlv⟩ := HST.out.paid.at htl
                    have htd : t < ds.length := by rw [HST.out.paid.len]; exact htl
                    have hps := partX_step ds bst NN htd
                    have hpa := partX_at ds bst NN htd
                    have hpl := partX_len ds bst NN t
                    rw [hlv bst, hda] at hps
                    rw [hda] at hpa
                    rw [hca] at y1 y2 y3
                    dsimp only at hps hpa y1 y2 y3
                    have u1 := bit_i bst a hb64
                    have u2 := bit_i0 bst b hb64
                    have hti : (t : Int) < (cs.length : Int) := by omega
                    generalize partX ds bst NN t = xs3 at HLP hps hpa hpl
                    have HPS := Lib.hid hps
                    have hA : Below wr.heap.size wr (wr.alloc (.cells #[.int .i64 (a : Int), .int .i64 (b : Int), .int .i64 x] 51)) := (Below.refl _ _).alloc (Nat.le_refl _) _
                    clear hps hca hda hlv
                    go_upto_region 35 with fail
                    obtain ⟨WA, hWA⟩ : ∃ WA, wr.alloc (.cells #[.int .i64 (a : Int), .int .i64 (b : Int), .int .i64 x] 51) = WA := ⟨_, rfl⟩
                    rw [hWA] at hA
                    have s0 : WA.cell? ⟨wr.heap.size, 0, none⟩ = some (.int .i64 (a : Int)) := by rw [← hWA]; simp
                    have s1 : WA.cell? ⟨wr.heap.size, 1, none⟩ = some (.int .i64 (b : Int)) := by rw [← hWA]; simp
                    have HLPA := Lib.hid (HLP.out.below hA)
                    have hblA := hbp.on hA
                    rw [hWA]
                    clear hWA y1 y2 y3 hA hbp
                    cases hpb : bst.testBit a with
                    | false =>
                      rw [hpb] at u1 HPS
                      go_wp2
                      go_roundw
                      case rel => exact ⟨t + 1, htl, by go_num, Lib.hid (by rw [HPS.out]; exact HLPA.out), hblA⟩
                      case measure => simp [intOf]; omega
                    | true =>
                      rw [hpb] at u1 HPS
                      cases hqb : bst.testBit b with
                      | true =>
                        rw [hqb] at u2 HPS
                        go_wp2
                        go_roundw
                        case rel => exact ⟨t + 1, htl, by go_num, Lib.hid (by rw [HPS.out]; exact HLPA.out), hblA⟩
                        case measure => simp [intOf]; omega
                      | false =>
                        rw [hqb] at u2 HPS
                        have l0 := HLPA.out.var
                        have lf := HLPA.out.fz t
                        obtain ⟨b4, off4, e4, hb4, g4⟩ := rowI_at HLPA.out.row (k := t) (by omega) (Nat.le_refl _) (Below.refl _ _)
                        simp only [Option.some.injEq, Addr.mk.injEq] at e4
                        obtain ⟨rfl, rfl, _⟩ := e4
                        rw [hpa, Nat.zero_add] at g4
                        have hwr : IntKind.i64.wrap (y - NN) = y - NN := IntWalk.i64_in _ ⟨by omega, by omega⟩
                        have HN2 := Lib.hid (HLPA.out.set (i := t) (by omega) (y - NN))
                        have HBN := Lib.hid (hblA.setCell (p := ⟨g, t, none⟩) (by have := HLPA.out.low; have := HL.out; simp; omega) (.int .i64 (y - NN)))
                        go_wp2
                        go_roundw
                        case rel => exact ⟨t + 1, htl, by go_num, Lib.hid (by rw [HPS.out]; exact HN2.out), HBN.out⟩
                        case measure => simp [intOf]; omega
                  · obtain rfl : t = cs.length := by omega
                    have hta := HTA.out
                    rw [HST.out.paid.len] at hta
                    rw [hta] at HLP
                    have HBP := Lib.hid hbp
                    clear hta hbp
                    go_wp2
                    go_roundw
                    case rel => exact ⟨j + 1, dn, by omega, by go_num, HLP, HS2, HBP.out⟩
                    case measure => simp [intOf]; omega
end Go.Proofs.YtadamjleglckpaaGreat.drn
