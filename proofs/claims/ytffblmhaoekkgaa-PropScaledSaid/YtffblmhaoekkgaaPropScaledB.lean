/- PropScaled: the law's body. -/
import Derived.Test.YtffblmhaoekkgaaPrpAH
import Derived.Test.YtffblmhaoekkgaaPropNarrowedB
import Derived.Test.YtffblmhaoekkgaaKW
import Derived.Deep.CutRange
import Derived.Deep.CutBlock
import Derived.BigRegion
import Derived.Deep.RegionHeld3
namespace Go.Proofs.Ytffblmhaoekkgaa.prp
open Go.RowKit
set_option linter.unusedSimpArgs false
set_option linter.unusedVariables false
open Go.Proofs.Ytffblmhaoekkgaa.ev (works_any)

theorem keep4 {V : World} {gl gh : Nat} (hne : gl ≠ gh) (a b c d : Nat) (v1 v2 v3 v4 : Value) (p : Nat) : ((((V.setCell ⟨gh, a, none⟩ v1).setCell ⟨gh, b, none⟩ v2).setCell ⟨gh, c, none⟩ v3).setCell ⟨gh, d, none⟩ v4).drew.cell? ⟨gl, p, none⟩ = V.cell? ⟨gl, p, none⟩ := by
  have h : ∀ o, (⟨gh, o, none⟩ : Addr) ≠ ⟨gl, p, none⟩ := fun o e => by injection e with e; exact hne e.symm
  show ((((V.setCell ⟨gh, a, none⟩ v1).setCell ⟨gh, b, none⟩ v2).setCell ⟨gh, c, none⟩ v3).setCell ⟨gh, d, none⟩ v4).cell? ⟨gl, p, none⟩ = V.cell? ⟨gl, p, none⟩
  rw [World.cell?_setCell_other (h := h d), World.cell?_setCell_other (h := h c), World.cell?_setCell_other (h := h b), World.cell?_setCell_other (h := h a)]
set_option maxRecDepth 100000 in
set_option maxHeartbeats 8000000 in
theorem PropScaled_any (xs : List Int) (x1 : Int) (hxl : xs.length = 21) (hxo : ∀ x ∈ xs, 0 ≤ x ∧ x ≤ 255) (hx1 : 0 ≤ x1 ∧ x1 ≤ 255) (w : World) :
    Calls Try.prog 10 #[.agg (flatU xs).toArray, .int .u8 x1] w fun e w' => e = .returned (.bool true) ∧ Below w.heap.size w w' := by
  have hx0 := hxo _ (getD_mem xs 0 0 (by omega))
  obtain ⟨n, hn⟩ : ∃ n : Nat, (n : Int) = 1 + xs.getD 0 0 % 5 := ⟨(1 + xs.getD 0 0 % 5).toNat, by omega⟩
  have n1 : 1 ≤ n := by omega
  have n5 : n ≤ 5 := by omega
  have hE := made_err xs hxo hxl n n1 n5
  have hsm := made_small xs hxo hxl n n5
  have CM := Lib.hid (fun W => made_own xs n W hxl hxo hn)
  have hlen := madeTo_length xs n
  generalize hl : madeTo xs n = l at *
  have hok := (errP_ok hE).2.2
  have HE := Lib.hid hE
  have HOK := Lib.hid hok
  have HSM := Lib.hid hsm
  subst hlen
  have hH := Hc.of (Here.start1 w xs 25)
  have HXL := Lib.hid hxl
  obtain ⟨F0, hF0⟩ : ∃ F0 : Int, x1.tmod 50 = F0 := ⟨_, rfl⟩
  have hF1 : 0 ≤ F0 ∧ F0 ≤ 49 := by rw [Int.tmod_eq_emod_of_nonneg hx1.1] at hF0; omega
  clear hl hE hok hx0 hn hxo hxl hsm
  go_enter Try.func10, Try.ntmps10
  go_upto_region 1 with fail
  generalize (w.alloc (.cells (flatU xs).toArray 25)) = W0 at *
  have HH := Lib.hid hH
  clear hH
  go_upto_region 2 with (first
    | (refine wpList_loadH xs HXL.out _ (HH.out.b (B := w.heap.size) (by simp)) (.tmp 2) rfl rfl rfl ?_)
    | (go_at_call 12; refine (CM.out _).mono ?_; rintro e W1 ⟨gl, cl, rfl, hol, hb⟩))
  have HH1 := Lib.hid (HH.out.bel.on hb)
  have hz0 := HH.out.bel.size
  have hz1 := hb.size
  have hgl := hol.lt
  have hol1 := hol.low (base' := w.heap.size) hz0
  have HOL := Lib.hid hol1
  clear hb hol hol1 HH CM
  have HC1 := Lib.hid (fun W (h : OwnS W w.heap.size gl cl l) => cloneS_any (some ⟨gl, 0, none⟩) cl l W h.row n1 (by omega))
  have hF2 : 1 + F0 ≤ 50 := by omega
  go_upto_region 3 with fail
  generalize hF : 1 + F0 = F at *
  have hF3 : 1 ≤ F := by omega
  clear hF hF0 hF1
  go_upto_region 4 with (go_at_call 36; first
    | (have hx := HOg; clear hx; refine (HC1.out _ HOl.out).mono ?_; rintro e W3 ⟨gh, ch, rfl, hoh, hb3⟩)
    | (refine (HC1.out _ HOL.out).mono ?_; rintro e W2 ⟨gg, cg, rfl, hog, hb2⟩; have hgg := hog.lt; have HB2 := Lib.hid (HH1.out.on hb2); have HOl := Lib.hid (HOL.out.below (Nat.le_refl _) hb2); have hz2 := hb2.size; have HOg := Lib.hid (hog.low (base' := w.heap.size) (by omega)); clear hog hb2))
  have hgh := hoh.lt
  have HB3 := Lib.hid (HB2.out.on hb3)
  have hz3 := hb3.size
  have H1 := Lib.hid (HOl.out.below (Nat.le_refl _) hb3)
  have H2 := Lib.hid (HOg.out.below (Nat.le_refl _) hb3)
  have H3 := Lib.hid (hoh.low (base' := w.heap.size) (by omega))
  have hcl := H1.out.caple
  have hcg := H2.out.caple
  have hch := H3.out.caple
  have ne1 : gl ≠ gg := by omega
  have ne2 : gl ≠ gh := by omega
  have ne3 : gg ≠ gh := by omega
  have hwl : w.heap.size ≤ gl := by omega
  have hwg : w.heap.size ≤ gg := by omega
  have hwh : w.heap.size ≤ gh := by omega
  clear hoh hb3 HOl HOg HOL HH1 HB2 hgl hgg hgh hz0 hz1 hz2 hz3 HC1
  go_wp2
  rw [← mpTo_start hv l] at H1
  rw [← mpTo_start (fun s => lg F (hv s)) l] at H2
  rw [← mpTo_start (fun s => hy (hv s)) l] at H3
  go_loopw [40] (fun i wr => ∃ j : Nat, j ≤ l.length ∧ i = .int .i64 j ∧ Hid (OwnS wr w.heap.size gl cl (mpTo hv l j)) ∧ Hid (OwnS wr w.heap.size gg cg (mpTo (fun s => lg F (hv s)) l j)) ∧ Hid (OwnS wr w.heap.size gh ch (mpTo (fun s => hy (hv s)) l j)) ∧ Hid (Below w.heap.size w wr)) (fun i _ => l.length - (intOf i).toNat)
  case atStart =>
    exact ⟨0, Nat.zero_le _, rfl, H1, H2, H3, HB3⟩
  case round =>
    obtain ⟨j, hj, rfl, G1, G2, G3, GB⟩ := hrel
    by_cases hlt : j < l.length
    · have hlt1 : j < (mpTo hv l j).length := by rw [mpTo_length]; exact hlt
      obtain ⟨⟨c0, c1, c2, c3⟩, z0, z1, z2, z3⟩ := G1.out.cellsAt j hlt1
      rw [mpTo_get _ _ _ _ hlt, if_neg (Nat.lt_irrefl _)] at c0 c1 c2 c3
      have hso := HOK.out _ (getD_mem l j zs hlt)
      have hsm := HSM.out _ (getD_mem l j zs hlt)
      have hs1 := mpTo_set hv l j hlt
      have hs2 := mpTo_set (fun s => lg F (hv s)) l j hlt
      have hs3 := mpTo_set (fun s => hy (hv s)) l j hlt
      have hbb := G1.out.lt.2
      have hgj : (mpTo hv l j).getD j zs = l.getD j zs := by rw [mpTo_get _ _ _ _ hlt, if_neg (Nat.lt_irrefl _)]
      generalize hsj : l.getD j zs = s at *
      have HGJ := Lib.hid hgj
      have HSJ := Lib.hid hsj
      clear hgj hsj
      obtain ⟨o1, o2, o3, o4, o5, o6, o7, o8, o9⟩ := hso
      have hj5 : (j : Int) < 5 := by omega
      have hj0 : (0 : Int) ≤ (j : Int) := by omega
      have hjc : (j : Int) < (cl : Int) := by omega
      have HS1 := Lib.hid hs1
      have HS2 := Lib.hid hs2
      have HS3 := Lib.hid hs3
      clear hs1 hs2 hs3
      go_upto_region 7 with fail
      go_region
      have hB1 := G1.out.bounds j hlt1 ((s.least + 1) / 2) (min 4 ((s.most + 1) / 2))
      have hg2 := G2.out.other2 G1.out (Ne.symm ne1) (j * 4 + 2) (j * 4 + 3) (.int .i64 ((s.least + 1) / 2)) (.int .i64 (min 4 ((s.most + 1) / 2)))
      have hg3 := G3.out.other2 G1.out (Ne.symm ne2) (j * 4 + 2) (j * 4 + 3) (.int .i64 ((s.least + 1) / 2)) (.int .i64 (min 4 ((s.most + 1) / 2)))
      have hnl : (narS (mpTo hv l j) j ((s.least + 1) / 2) (min 4 ((s.most + 1) / 2))).length = l.length := by rw [narS_length, mpTo_length]
      have hng : (narS (mpTo hv l j) j ((s.least + 1) / 2) (min 4 ((s.most + 1) / 2))).getD j zs = ⟨s.half, s.at_, (s.least + 1) / 2, min 4 ((s.most + 1) / 2)⟩ := by
        rw [narS_get _ _ _ _ _ hlt1 hlt1, if_pos rfl, HGJ.out]
      have hns : (narS (mpTo hv l j) j ((s.least + 1) / 2) (min 4 ((s.most + 1) / 2))).set j ⟨s.half, s.at_, min ((s.least + 1) / 2) (min 4 ((s.most + 1) / 2)), min 4 ((s.most + 1) / 2)⟩ = mpTo hv l (j + 1) := by
        unfold narS; rw [List.set_set]; exact HS1.out
      have K1 : Hid (OwnS ((wr.setCell ⟨gl, j * 4 + 2, none⟩ (.int .i64 ((s.least + 1) / 2))).setCell ⟨gl, j * 4 + 3, none⟩ (.int .i64 (min 4 ((s.most + 1) / 2)))).drew w.heap.size gl cl (narS (mpTo hv l j) j ((s.least + 1) / 2) (min 4 ((s.most + 1) / 2)))) := Lib.hid hB1.1
      have K2 : Hid (OwnS ((wr.setCell ⟨gl, j * 4 + 2, none⟩ (.int .i64 ((s.least + 1) / 2))).setCell ⟨gl, j * 4 + 3, none⟩ (.int .i64 (min 4 ((s.most + 1) / 2)))).drew w.heap.size gg cg (mpTo (fun s => lg F (hv s)) l j)) := Lib.hid hg2
      have K3 : Hid (OwnS ((wr.setCell ⟨gl, j * 4 + 2, none⟩ (.int .i64 ((s.least + 1) / 2))).setCell ⟨gl, j * 4 + 3, none⟩ (.int .i64 (min 4 ((s.most + 1) / 2)))).drew w.heap.size gh ch (mpTo (fun s => hy (hv s)) l j)) := Lib.hid hg3
      have KB : Hid (Below w.heap.size w ((wr.setCell ⟨gl, j * 4 + 2, none⟩ (.int .i64 ((s.least + 1) / 2))).setCell ⟨gl, j * 4 + 3, none⟩ (.int .i64 (min 4 ((s.most + 1) / 2)))).drew) := Lib.hid (GB.out.trans hB1.2).drew
      generalize ((wr.setCell ⟨gl, j * 4 + 2, none⟩ (.int .i64 ((s.least + 1) / 2))).setCell ⟨gl, j * 4 + 3, none⟩ (.int .i64 (min 4 ((s.most + 1) / 2)))).drew = V1 at *
      obtain ⟨⟨y0, y1, y2, y3⟩, w0, w1, w2, w3⟩ := K1.out.cellsAt j (by rw [hnl]; exact hlt)
      rw [hng] at y0 y1 y2 y3
      have HNL := Lib.hid hnl
      have HNG := Lib.hid hng
      have HNS := Lib.hid hns
      have hbb1 := K1.out.lt.2
      have a1 : 1 ≤ (s.least + 1) / 2 ∧ (s.least + 1) / 2 ≤ 5 := by omega
      have b1 : 1 ≤ min 4 ((s.most + 1) / 2) ∧ min 4 ((s.most + 1) / 2) ≤ 4 := by omega
      clear hB1 hg2 hg3 hnl hng hns c0 c1 c2 c3 z0 z1 z2 z3 G1 G2 G3 GB hbb
      generalize hA : (s.least + 1) / 2 = A at *
      generalize hM : min 4 ((s.most + 1) / 2) = M at *
      have HA := Lib.hid hA
      have HM := Lib.hid hM
      clear hA hM
      as_aux_lemma =>
        go_upto_region 8 with fail
        go_region
        have hB1 := K1.out.least j (by rw [HNL.out]; exact hlt) _ HNG.out (min A M)
        simp only at hB1
        rw [HNS.out] at hB1
        have hg2 := K2.out.other K1.out (Ne.symm ne1) (j * 4 + 2) (.int .i64 (min A M))
        have hg3 := K3.out.other K1.out (Ne.symm ne2) (j * 4 + 2) (.int .i64 (min A M))
        have L1 : Hid (OwnS (V1.setCell ⟨gl, j * 4 + 2, none⟩ (.int .i64 (min A M))).drew w.heap.size gl cl (mpTo hv l (j + 1))) := Lib.hid hB1.1
        have L2 : Hid (OwnS (V1.setCell ⟨gl, j * 4 + 2, none⟩ (.int .i64 (min A M))).drew w.heap.size gg cg (mpTo (fun s => lg F (hv s)) l j)) := Lib.hid hg2
        have L3 : Hid (OwnS (V1.setCell ⟨gl, j * 4 + 2, none⟩ (.int .i64 (min A M))).drew w.heap.size gh ch (mpTo (fun s => hy (hv s)) l j)) := Lib.hid hg3
        have LB : Hid (Below w.heap.size w (V1.setCell ⟨gl, j * 4 + 2, none⟩ (.int .i64 (min A M))).drew) := Lib.hid (KB.out.trans hB1.2).drew
        generalize (V1.setCell ⟨gl, j * 4 + 2, none⟩ (.int .i64 (min A M))).drew = V2 at *
        clear hB1 hg2 hg3 K1 K2 K3 KB y0 y1 y2 y3 w0 w1 w2 w3
        obtain ⟨⟨y0, y1, y2, y3⟩, _⟩ := L1.out.cellsAt j (by rw [mpTo_length]; exact hlt)
        obtain ⟨⟨p0, p1, p2, p3⟩, w0, w1, w2, w3⟩ := L2.out.cellsAt j (by rw [mpTo_length]; exact hlt)
        rw [mpTo_get _ _ _ _ hlt, if_pos (Nat.lt_succ_self j), HSJ.out] at y0 y1 y2 y3
        unfold hv at y0 y1 y2 y3
        simp only at y0 y1 y2 y3
        rw [HA.out, HM.out] at y2
        rw [HM.out] at y3
        have hbb2 := L2.out.lt.2
        have hbb1 := L1.out.lt.2
        have hjg : (j : Int) < (cg : Int) := by omega
        have hq1 : 0 ≤ F * s.half ∧ F * s.half ≤ 209715200 := ⟨Int.mul_nonneg (by omega) (by omega), by
          have h1 : F * s.half ≤ 50 * s.half := Int.mul_le_mul_of_nonneg_right hF2 (by omega)
          omega⟩
        have hq2 : -50000 ≤ F * s.at_ ∧ F * s.at_ ≤ 50000 := by
          have h1 : F * s.at_ ≤ F * 1000 := Int.mul_le_mul_of_nonneg_left hsm.1.2 (by omega)
          have h2 : F * (-1000) ≤ F * s.at_ := Int.mul_le_mul_of_nonneg_left hsm.1.1 (by omega)
          omega
        have hw1 : wrap64 (F * s.half) = F * s.half := IntWalk.wrap64_in _ ⟨by omega, by omega⟩
        have hw2 : wrap64 (F * s.at_) = F * s.at_ := IntWalk.wrap64_in _ ⟨by omega, by omega⟩
        as_aux_lemma =>
          go_upto_region 9 with fail
          go_region
          clear hw1 hw2
          have hlg : lg F (hv s) = ⟨F * s.half, F * s.at_, min A M, M⟩ := by unfold lg hv; simp only; rw [HA.out, HM.out]
          have hhy : hy (hv s) = ⟨s.half, s.at_, 2 * min A M, 2 * M⟩ := by unfold hy hv; simp only; rw [HA.out, HM.out]
          have hB1 := L2.out.cells4 j (by rw [mpTo_length]; exact hlt) (lg F (hv s))
          rw [HS2.out, hlg] at hB1
          simp only at hB1
          have hg2 := L1.out.other4 L2.out ne1 (j * 4) (j * 4 + 1) (j * 4 + 2) (j * 4 + 3) (.int .i64 (F * s.half)) (.int .i64 (F * s.at_)) (.int .i64 (min A M)) (.int .i64 M)
          have hg3 := L3.out.other4 L2.out (Ne.symm ne3) (j * 4) (j * 4 + 1) (j * 4 + 2) (j * 4 + 3) (.int .i64 (F * s.half)) (.int .i64 (F * s.at_)) (.int .i64 (min A M)) (.int .i64 M)
          have M2 : Hid (OwnS ((((V2.setCell ⟨gg, j * 4, none⟩ (.int .i64 (F * s.half))).setCell ⟨gg, j * 4 + 1, none⟩ (.int .i64 (F * s.at_))).setCell ⟨gg, j * 4 + 2, none⟩ (.int .i64 (min A M))).setCell ⟨gg, j * 4 + 3, none⟩ (.int .i64 M)).drew w.heap.size gg cg (mpTo (fun s => lg F (hv s)) l (j + 1))) := Lib.hid hB1.1
          have M1 : Hid (OwnS ((((V2.setCell ⟨gg, j * 4, none⟩ (.int .i64 (F * s.half))).setCell ⟨gg, j * 4 + 1, none⟩ (.int .i64 (F * s.at_))).setCell ⟨gg, j * 4 + 2, none⟩ (.int .i64 (min A M))).setCell ⟨gg, j * 4 + 3, none⟩ (.int .i64 M)).drew w.heap.size gl cl (mpTo hv l (j + 1))) := Lib.hid hg2
          have M3 : Hid (OwnS ((((V2.setCell ⟨gg, j * 4, none⟩ (.int .i64 (F * s.half))).setCell ⟨gg, j * 4 + 1, none⟩ (.int .i64 (F * s.at_))).setCell ⟨gg, j * 4 + 2, none⟩ (.int .i64 (min A M))).setCell ⟨gg, j * 4 + 3, none⟩ (.int .i64 M)).drew w.heap.size gh ch (mpTo (fun s => hy (hv s)) l j)) := Lib.hid hg3
          have MB : Hid (Below w.heap.size w ((((V2.setCell ⟨gg, j * 4, none⟩ (.int .i64 (F * s.half))).setCell ⟨gg, j * 4 + 1, none⟩ (.int .i64 (F * s.at_))).setCell ⟨gg, j * 4 + 2, none⟩ (.int .i64 (min A M))).setCell ⟨gg, j * 4 + 3, none⟩ (.int .i64 M)).drew) := Lib.hid (LB.out.trans hB1.2).drew
          generalize ((((V2.setCell ⟨gg, j * 4, none⟩ (.int .i64 (F * s.half))).setCell ⟨gg, j * 4 + 1, none⟩ (.int .i64 (F * s.at_))).setCell ⟨gg, j * 4 + 2, none⟩ (.int .i64 (min A M))).setCell ⟨gg, j * 4 + 3, none⟩ (.int .i64 M)).drew = V3 at *
          clear hB1 hg2 hg3 L1 L2 L3 LB y0 y1 y2 y3 p0 p1 p2 p3 w0 w1 w2 w3 hbb1 hbb2
          obtain ⟨⟨y0, y1, y2, y3⟩, _⟩ := M1.out.cellsAt j (by rw [mpTo_length]; exact hlt)
          obtain ⟨⟨p0, p1, p2, p3⟩, w0, w1, w2, w3⟩ := M3.out.cellsAt j (by rw [mpTo_length]; exact hlt)
          rw [mpTo_get _ _ _ _ hlt, if_pos (Nat.lt_succ_self j), HSJ.out] at y0 y1 y2 y3
          unfold hv at y0 y1 y2 y3
          simp only at y0 y1 y2 y3
          rw [HA.out, HM.out] at y2
          rw [HM.out] at y3
          have hbb2 := M3.out.lt.2
          have hbb1 := M1.out.lt.2
          have hjh : (j : Int) < (ch : Int) := by omega
          have hmn : 1 ≤ min A M ∧ min A M ≤ 5 := by omega
          have HHY := Lib.hid hhy
          clear hlg hhy
          generalize hmm : min A M = mn at *
          obtain ⟨hm1, hm2⟩ := hmn
          obtain ⟨hM1, hM2⟩ := b1
          have hw3 : wrap64 (2 * mn) = 2 * mn := IntWalk.wrap64_in _ ⟨by omega, by omega⟩
          have hw4 : wrap64 (2 * M) = 2 * M := IntWalk.wrap64_in _ ⟨by omega, by omega⟩
          have hw5 : IntKind.i64.wrap (2 * mn) = 2 * mn := IntWalk.i64_in _ ⟨by omega, by omega⟩
          have hw6 : IntKind.i64.wrap (2 * M) = 2 * M := IntWalk.i64_in _ ⟨by omega, by omega⟩
          clear hmm
          have o10 : -1000 ≤ s.at_ := hsm.1.1
          have o11 : s.at_ ≤ 1000 := hsm.1.2
          clear hsm hcl hcg ne1 HS1 HS2 HNL HNG HNS HA HM HGJ HSJ a1 hjg hjc HE HOK HSM HXL hq1 hq2
          as_aux_lemma =>
            go_upto_region 10 with fail
            obtain ⟨q0, hq0⟩ : ∃ q0, V3.cell? ⟨gh, j * 4, none⟩ = some q0 := ⟨_, p0⟩
            obtain ⟨q1, hq1⟩ : ∃ q1, V3.cell? ⟨gh, j * 4 + 1, none⟩ = some q1 := ⟨_, p1⟩
            obtain ⟨q2, hq2⟩ : ∃ q2, V3.cell? ⟨gh, j * 4 + 2, none⟩ = some q2 := ⟨_, p2⟩
            obtain ⟨q3, hq3⟩ : ∃ q3, V3.cell? ⟨gh, j * 4 + 3, none⟩ = some q3 := ⟨_, p3⟩
            clear p0 p1 p2 p3
            go_region_held3 (fun W => W.cell? ⟨gl, j * 4, none⟩ = some (.int .i64 s.half) ∧ W.cell? ⟨gl, j * 4 + 1, none⟩ = some (.int .i64 s.at_) ∧ W.cell? ⟨gl, j * 4 + 2, none⟩ = some (.int .i64 mn) ∧ W.cell? ⟨gl, j * 4 + 3, none⟩ = some (.int .i64 M)) (first | with_reducible exact ⟨y0, y1, y2, y3⟩ | with_reducible exact ⟨(keep4 ne2 _ _ _ _ _ _ _ _ _).trans y0, (keep4 ne2 _ _ _ _ _ _ _ _ _).trans y1, (keep4 ne2 _ _ _ _ _ _ _ _ _).trans y2, (keep4 ne2 _ _ _ _ _ _ _ _ _).trans y3⟩ | go_keep) (first | fail)
            have hB1 := M3.out.cells4 j (by rw [mpTo_length]; exact hlt) (hy (hv s))
            rw [HS3.out, HHY.out] at hB1
            simp only at hB1
            have hg1 := M1.out.other4 M3.out ne2 (j * 4) (j * 4 + 1) (j * 4 + 2) (j * 4 + 3) (.int .i64 s.half) (.int .i64 s.at_) (.int .i64 (2 * mn)) (.int .i64 (2 * M))
            have hg2 := M2.out.other4 M3.out ne3 (j * 4) (j * 4 + 1) (j * 4 + 2) (j * 4 + 3) (.int .i64 s.half) (.int .i64 s.at_) (.int .i64 (2 * mn)) (.int .i64 (2 * M))
            have HB4 := Lib.hid hB1
            have HG1 := Lib.hid hg1
            have HG2 := Lib.hid hg2
            clear hB1 hg1 hg2 M1 M2 M3 y0 y1 y2 y3 w0 w1 w2 w3 hbb1 hbb2
            go_wp2
            go_roundw
            case rel => exact ⟨j + 1, hlt, by go_num, Lib.hid HG1.out, Lib.hid HG2.out, Lib.hid HB4.out.1, Lib.hid (MB.out.trans HB4.out.2).drew⟩
            case measure => simp [intOf]; omega
    · obtain rfl : j = l.length := by omega
      rw [mpTo_end] at G1 G2 G3
      have hEm := hv_err HE.out
      have hsmm := hv_small HSM.out
      rw [show l.map (fun s => lg F (hv s)) = (l.map hv).map (lg F) by rw [List.map_map]; rfl] at G2
      rw [show l.map (fun s => hy (hv s)) = (l.map hv).map hy by rw [List.map_map]; rfl] at G3
      have hlm : (l.map hv).length = l.length := List.length_map _
      generalize l.map hv = m at *
      have S2 := lg_same hEm hsmm ⟨hF3, hF2⟩
      have S3 := hy_same hEm hsmm
      have hokm := (errP_ok hEm).2.2
      have hwo2 := fun (i : Nat) (hi : i < l.length) => lg_worst (m := m) hF3 (lv := i) (by omega) 1
      have hlo2 := fun (i : Nat) (hi : i < l.length) => lg_low hokm (by omega) hF3 (lv := i) (by omega)
      have hhi2 := fun (i : Nat) (hi : i < l.length) => lg_high hokm (by omega) hF3 (lv := i) (by omega)
      have hlo3 := fun (i : Nat) (hi : i < l.length) => hy_low hokm (lv := i) (by omega)
      have hhi3 := fun (i : Nat) (hi : i < l.length) => hy_high hokm (lv := i) (by omega)
      generalize m.map (lg F) = m2 at *
      generalize m.map hy = m3 at *
      have hl2 := S2.len.trans hlm
      have hl3 := S3.len.trans hlm
      have ht2 := S2.tips
      have ht3 := S3.tips
      have hy2 := S2.lay
      have hy3 := S3.lay
      have hE2 := S2.e1
      have hE3 := S3.e1
      have htc := tips_case hEm
      have hH : Hc w wr [(some ⟨gl, 0, none⟩, flatS m), (some ⟨gg, 0, none⟩, flatS m2), (some ⟨gh, 0, none⟩, flatS m3)] [] [] := ⟨GB.out, fun p hp => by
        simp at hp
        rcases hp with rfl | rfl | rfl
        · exact G1.out.row
        · exact G2.out.row
        · exact G3.out.row, by simp, by simp⟩
      have TI : Hid (∀ (gx cx : Nat) W, Hc w W [(some ⟨gl, 0, none⟩, flatS m), (some ⟨gg, 0, none⟩, flatS m2), (some ⟨gh, 0, none⟩, flatS m3)] [] [] → ((gx = gl ∧ cx = cl) ∨ (gx = gg ∧ cx = cg) ∨ (gx = gh ∧ cx = ch)) → Calls Try.prog 15 #[.slice (some ⟨gx, 0, none⟩) l.length cx] W fun e w' => e = .returned (.tuple #[.int .i64 (tipsOf m).1, .int .i64 (tipsOf m).2]) ∧ Below W.heap.size W w') := Lib.hid fun gx cx W hh hcs => by
        rcases hcs with ⟨rfl, rfl⟩ | ⟨rfl, rfl⟩ | ⟨rfl, rfl⟩
        · have := Tips_any (some ⟨gx, 0, none⟩) cx m W (hh.r (by simp)) (by omega)
          rw [hlm] at this; exact this
        · have := Tips_any (some ⟨gx, 0, none⟩) cx m2 W (hh.r (by simp)) (by omega)
          rw [hl2, ht2] at this; exact this
        · have := Tips_any (some ⟨gx, 0, none⟩) cx m3 W (hh.r (by simp)) (by omega)
          rw [hl3, ht3] at this; exact this
      have LA : Hid (∀ (gx cx : Nat) W, Hc w W [(some ⟨gl, 0, none⟩, flatS m), (some ⟨gg, 0, none⟩, flatS m2), (some ⟨gh, 0, none⟩, flatS m3)] [] [] → ((gx = gl ∧ cx = cl) ∨ (gx = gg ∧ cx = cg) ∨ (gx = gh ∧ cx = ch)) → Calls Try.prog 33 #[.slice (some ⟨gx, 0, none⟩) l.length cx] W fun e w' => e = .returned (.tuple #[.int .i64 (layV (layTo m m.length)).1, .int .i64 (layV (layTo m m.length)).2]) ∧ Below W.heap.size W w') := Lib.hid fun gx cx W hh hcs => by
        rcases hcs with ⟨rfl, rfl⟩ | ⟨rfl, rfl⟩ | ⟨rfl, rfl⟩
        · have := Lay_any (some ⟨gx, 0, none⟩) cx m W (hh.r (by simp)) hEm (by omega)
          rw [hlm] at this; rw [hlm]; exact this
        · have := Lay_any (some ⟨gx, 0, none⟩) cx m2 W (hh.r (by simp)) hE2 (by omega)
          rw [hy2, hl2] at this; exact this
        · have := Lay_any (some ⟨gx, 0, none⟩) cx m3 W (hh.r (by simp)) hE3 (by omega)
          rw [hy3, hl3] at this; exact this
      have hlc := lay_case (layTo m m.length)
      generalize (layV (layTo m m.length)).1 = Y1 at *
      generalize (layV (layTo m m.length)).2 = Y2 at *
      generalize (tipsOf m).1 = T1 at *
      generalize (tipsOf m).2 = T2 at *
      have HW2 := Lib.hid hwo2
      have HLO2 := Lib.hid hlo2
      have HHI2 := Lib.hid hhi2
      have HLO3 := Lib.hid hlo3
      have HHI3 := Lib.hid hhi3
      have HEm := Lib.hid hEm
      have HE2 := Lib.hid hE2
      have HE3 := Lib.hid hE3
      have HLM := Lib.hid hlm
      have HL2 := Lib.hid hl2
      have HL3 := Lib.hid hl3
      have HKM := Lib.hid hokm
      have HTC := Lib.hid htc
      have HLC := Lib.hid hlc
      have HH := Lib.hid hH
      clear hwo2 hlo2 hhi2 hlo3 hhi3 hEm hsmm hlm S2 S3 hokm hl2 hl3 ht2 ht3 hy2 hy3 hE2 hE3 htc hlc hH G1 G2 G3 GB H1 H2 H3
      as_aux_lemma =>
        go_upto_region 15 with (go_at_call 15; refine (TI.out _ _ _ HH.out (by simp)).mono ?_; rintro e W4 ⟨rfl, hb⟩; replace HH := Lib.hid (HH.out.go hb); clear hb)
        go_cut [176] from 151 to 176 (fun v wx => v = .bool false ∧ Hid (Hc w wx [(some ⟨gl, 0, none⟩, flatS m), (some ⟨gg, 0, none⟩, flatS m2), (some ⟨gh, 0, none⟩, flatS m3)] [] []))
        case first =>
          rcases HTC.out with h | h
          · have f1 : (T2 != 0) = false := by simp [h]
            clear h
            go_wp2
            go_meet
            case rel => exact ⟨rfl, HH⟩
          · have f1 : (T2 != 0) = true := by simp [h]
            have f2 : (T2 != 13) = false := by simp [h]
            clear h
            go_wp2
            go_meet
            case rel => exact ⟨rfl, HH⟩
        case rest =>
        obtain ⟨rfl, HH5⟩ := hcut
        as_aux_lemma =>
          go_upto_region 20 with (go_at_call 33; refine (LA.out _ _ _ HH5.out (by simp)).mono ?_; rintro e W7 ⟨rfl, hb⟩; replace HH5 := Lib.hid (HH5.out.go hb); clear hb)
          go_cut [217] from 192 to 217 (fun v wx => v = .bool false ∧ Hid (Hc w wx [(some ⟨gl, 0, none⟩, flatS m), (some ⟨gg, 0, none⟩, flatS m2), (some ⟨gh, 0, none⟩, flatS m3)] [] []))
          case first =>
            rcases HLC.out with h | h
            · have f1 : (Y2 != 0) = false := by simp [h]
              clear h
              go_wp2
              go_meet
              case rel => exact ⟨rfl, HH5⟩
            · have f1 : (Y2 != 0) = true := by simp [h]
              have f2 : (Y2 != 13) = false := by simp [h]
              clear h
              go_wp2
              go_meet
              case rel => exact ⟨rfl, HH5⟩
          case rest =>
          obtain ⟨rfl, HH8⟩ := hcut
          go_wp2
          go_loopw [220] (fun i wr => ∃ k : Nat, k ≤ l.length ∧ i = .int .i64 k ∧ Hid (Hc w wr [(some ⟨gl, 0, none⟩, flatS m), (some ⟨gg, 0, none⟩, flatS m2), (some ⟨gh, 0, none⟩, flatS m3)] [] [])) (fun i _ => l.length - (intOf i).toNat)
          case atStart => exact ⟨0, Nat.zero_le _, rfl, HH8⟩
          case round =>
            obtain ⟨k, hk, rfl, HHr⟩ := hrel
            by_cases hlk : k < l.length
            · have hs1 := (side_ok HEm.out (k := k) (by have := HLM.out; omega)).2.1
              have hs2 := (side_ok HE2.out (k := k) (by have := HL2.out; omega)).2.1
              have hcw1 := Worst_any (some ⟨gl, 0, none⟩) cl m k 1 wr (HHr.out.r (by simp)) (by have := HLM.out; omega)
              have hcw2 := fun W (hh : Hc w W [(some ⟨gl, 0, none⟩, flatS m), (some ⟨gg, 0, none⟩, flatS m2), (some ⟨gh, 0, none⟩, flatS m3)] [] []) => Worst_any (some ⟨gg, 0, none⟩) cg m2 k 1 W (hh.r (by simp)) (by have := HL2.out; omega)
              rw [worst_of hs1] at hcw1
              rw [worst_of hs2, HW2.out k hlk] at hcw2
              rw [HLM.out] at hcw1
              rw [HL2.out] at hcw2
              have hwl := worst_len m k 1
              rw [HLM.out] at hwl
              generalize worstS m k 1 = X at *
              have HWL := Lib.hid hwl
              have HC1 := Lib.hid hcw1
              have HC2 := Lib.hid hcw2
              clear hs1 hs2 hcw1 hcw2 hwl
              as_aux_lemma =>
                go_upto_region 26 with (go_at_call 19; refine HC1.out.mono ?_; rintro e W9 ⟨qx, cx, rfl, hrx, hqx, hb9⟩)
                have HH9 := Lib.hid ((HHr.out.go hb9).add hrx)
                have HB9 := Lib.hid (HHr.out.go hb9)
                clear hrx hqx hb9
                go_upto_region 27 with (go_at_call 19; refine (HC2.out _ HB9.out).mono ?_; rintro e W10 ⟨qy, cy, rfl, hry, hqy, hb10⟩)
                have HHA := Lib.hid ((HH9.out.go hb10).add hry)
                have HBA := Lib.hid (HB9.out.go hb10)
                clear hry hqy hb10
                have hsm := same_any qx qy cx cy X W10 (HHA.out.r (by simp)) (HHA.out.r (by simp)) (by have := HWL.out; omega)
                rw [HWL.out] at hsm
                rw [HWL.out]
                have HSA := Lib.hid hsm
                clear hsm
                go_upto_region 29 with (go_at_call 47; refine HSA.out.mono ?_; rintro e W11 ⟨rfl, hb11⟩)
                have HBB := Lib.hid (HBA.out.go hb11)
                clear hb11
                have fo1 := low_ok HKM.out (by have := HLM.out; omega) (lv := k) (by have := HLM.out; omega)
                have fo2 := high_ok HKM.out (by have := HLM.out; omega) (lv := k) (by have := HLM.out; omega)
                have sp1 := Span_ok (some ⟨gl, 0, none⟩) cl m k W11 (HBB.out.r (by simp)) HEm.out (by have := HLM.out; omega) (by have := HLM.out; omega)
                have sp2 := fun W (hh : Hc w W [(some ⟨gl, 0, none⟩, flatS m), (some ⟨gg, 0, none⟩, flatS m2), (some ⟨gh, 0, none⟩, flatS m3)] [] []) => Span_ok (some ⟨gg, 0, none⟩) cg m2 k W (hh.r (by simp)) HE2.out (by have := HL2.out; omega) (by have := HL2.out; omega)
                have sp3 := fun W (hh : Hc w W [(some ⟨gl, 0, none⟩, flatS m), (some ⟨gg, 0, none⟩, flatS m2), (some ⟨gh, 0, none⟩, flatS m3)] [] []) => Span_ok (some ⟨gh, 0, none⟩) ch m3 k W (hh.r (by simp)) HE3.out (by have := HL3.out; omega) (by have := HL3.out; omega)
                rw [HLM.out] at sp1
                rw [HL2.out, HLO2.out k hlk, HHI2.out k hlk] at sp2
                rw [HL3.out, HLO3.out k hlk, HHI3.out k hlk] at sp3
                generalize lowS m k = lo at *
                generalize highS m k = hi at *
                have hra1 := fun W => ratio_any (F * lo.1) lo.2 W (by
                  have h1 := fo1.n1; have h2 := fo1.n2
                  have a1 : F * lo.1 ≤ F * 50000000000 := Int.mul_le_mul_of_nonneg_left h2 (by omega)
                  have a2 : F * -50000000000 ≤ F * lo.1 := Int.mul_le_mul_of_nonneg_left h1 (by omega)
                  omega) (by have h1 := fo1.d1; have h2 := fo1.d2; omega)
                have hra2 := fun W => ratio_any (F * hi.1) hi.2 W (by
                  have h1 := fo2.n1; have h2 := fo2.n2
                  have a1 : F * hi.1 ≤ F * 50000000000 := Int.mul_le_mul_of_nonneg_left h2 (by omega)
                  have a2 : F * -50000000000 ≤ F * hi.1 := Int.mul_le_mul_of_nonneg_left h1 (by omega)
                  omega) (by have h1 := fo2.d1; have h2 := fo2.d2; omega)
                have hmb : (-2500000000000 ≤ F * lo.1 ∧ F * lo.1 ≤ 2500000000000) ∧ -2500000000000 ≤ F * hi.1 ∧ F * hi.1 ≤ 2500000000000 := by
                  have h1 := fo1.n1; have h2 := fo1.n2; have h3 := fo2.n1; have h4 := fo2.n2
                  have a1 : F * lo.1 ≤ F * 50000000000 := Int.mul_le_mul_of_nonneg_left h2 (by omega)
                  have a2 : F * -50000000000 ≤ F * lo.1 := Int.mul_le_mul_of_nonneg_left h1 (by omega)
                  have a3 : F * hi.1 ≤ F * 50000000000 := Int.mul_le_mul_of_nonneg_left h4 (by omega)
                  have a4 : F * -50000000000 ≤ F * hi.1 := Int.mul_le_mul_of_nonneg_left h3 (by omega)
                  omega
                have e1 : frS F lo = ((F * lo.1).tdiv (Int.gcd (F * lo.1) lo.2), lo.2.tdiv (Int.gcd (F * lo.1) lo.2)) := rfl
                have e2 : frS F hi = ((F * hi.1).tdiv (Int.gcd (F * hi.1) hi.2), hi.2.tdiv (Int.gcd (F * hi.1) hi.2)) := rfl
                rw [e1, e2] at sp2
                unfold frP frV at sp1 sp2 sp3
                unfold frV at hra1 hra2
                generalize (F * lo.1).tdiv (Int.gcd (F * lo.1) lo.2) = u1 at *
                generalize lo.2.tdiv (Int.gcd (F * lo.1) lo.2) = u2 at *
                generalize (F * hi.1).tdiv (Int.gcd (F * hi.1) hi.2) = v1 at *
                generalize hi.2.tdiv (Int.gcd (F * hi.1) hi.2) = v2 at *
                obtain ⟨a1, a2⟩ := lo
                obtain ⟨b1, b2⟩ := hi
                simp only at sp1 sp2 sp3 hra1 hra2 hmb
                have P1 : wrap64 (F * a1) = F * a1 := IntWalk.wrap64_in _ ⟨by omega, by omega⟩
                have P2 : wrap64 (F * b1) = F * b1 := IntWalk.wrap64_in _ ⟨by omega, by omega⟩
                have P3 : IntKind.i64.wrap (F * a1) = F * a1 := IntWalk.i64_in _ ⟨by omega, by omega⟩
                have P4 : IntKind.i64.wrap (F * b1) = F * b1 := IntWalk.i64_in _ ⟨by omega, by omega⟩
                have O1 := Lib.hid fo1
                have O2 := Lib.hid fo2
                have RA1 := Lib.hid hra1
                have RA2 := Lib.hid hra2
                have SP1 := Lib.hid sp1
                have SP2 := Lib.hid sp2
                have SP3 := Lib.hid sp3
                clear e1 e2 fo1 fo2 hra1 hra2 sp1 sp2 sp3 hmb
                have HBo := HBB
                as_aux_lemma =>
                  go_upto_region 30 with (go_at_call 26; refine SP1.out.mono ?_; rintro e W12 ⟨rfl, hb⟩; have HBC := Lib.hid (HBB.out.go hb); clear hb)
                  have ht := (Frs.nil W12).two a1 a2 b1 b2 51
                  have HF1 := Lib.hid ht.1
                  have HBD := Lib.hid (HBC.out.go ht.2)
                  clear ht SP1
                  generalize hB0 : W12.heap.size = B0 at *
                  generalize ((W12.alloc (.cells #[.int .i64 a1, .int .i64 a2] 51)).alloc (.cells #[.int .i64 b1, .int .i64 b2] 51)) = W13 at *
                  go_upto_region 31 with (go_at_call 26; refine (SP2.out _ HBD.out).mono ?_; rintro e W14 ⟨rfl, hb⟩; have HF2 := Lib.hid (HF1.out.go hb); have HBE := Lib.hid (HBD.out.go hb); clear hb)
                  have ht := HF2.out.two u1 u2 v1 v2 51
                  have HF3 := Lib.hid ht.1
                  have HBF := Lib.hid (HBE.out.go ht.2)
                  clear ht SP2
                  generalize hB1 : W14.heap.size = B1 at *
                  generalize ((W14.alloc (.cells #[.int .i64 u1, .int .i64 u2] 51)).alloc (.cells #[.int .i64 v1, .int .i64 v2] 51)) = W15 at *
                  go_upto_region 32 with (go_at_call 26; refine (SP3.out _ HBF.out).mono ?_; rintro e W16 ⟨rfl, hb⟩; have HF4 := Lib.hid (HF3.out.go hb); have HBG := Lib.hid (HBF.out.go hb); clear hb)
                  have ht := HF4.out.two a1 a2 b1 b2 51
                  have HF := Lib.hid ht.1
                  have HB := Lib.hid (HBG.out.go ht.2)
                  clear ht SP3
                  generalize hB2 : W16.heap.size = B2 at *
                  generalize ((W16.alloc (.cells #[.int .i64 a1, .int .i64 a2] 51)).alloc (.cells #[.int .i64 b1, .int .i64 b2] 51)) = W17 at *
                  obtain ⟨z0, y0, y1⟩ := HF.out (B0, (a1, a2)) (by simp)
                  obtain ⟨z1, y2, y3⟩ := HF.out (B0 + 1, (b1, b2)) (by simp)
                  obtain ⟨z2, y4, y5⟩ := HF.out (B1, (u1, u2)) (by simp)
                  obtain ⟨z3, y6, y7⟩ := HF.out (B1 + 1, (v1, v2)) (by simp)
                  obtain ⟨z4, y8, y9⟩ := HF.out (B2, (a1, a2)) (by simp)
                  obtain ⟨z5, ya, yb⟩ := HF.out (B2 + 1, (b1, b2)) (by simp)
                  go_region_held3 (fun W => W.cell? ⟨B0, 0, none⟩ = some (.int .i64 a1) ∧ W.cell? ⟨B0, 1, none⟩ = some (.int .i64 a2) ∧ W.cell? ⟨B0 + 1, 0, none⟩ = some (.int .i64 b1) ∧ W.cell? ⟨B0 + 1, 1, none⟩ = some (.int .i64 b2) ∧ W.cell? ⟨B1, 0, none⟩ = some (.int .i64 u1) ∧ W.cell? ⟨B1, 1, none⟩ = some (.int .i64 u2) ∧ W.cell? ⟨B1 + 1, 0, none⟩ = some (.int .i64 v1) ∧ W.cell? ⟨B1 + 1, 1, none⟩ = some (.int .i64 v2) ∧ W.cell? ⟨B2, 0, none⟩ = some (.int .i64 a1) ∧ W.cell? ⟨B2, 1, none⟩ = some (.int .i64 a2) ∧ W.cell? ⟨B2 + 1, 0, none⟩ = some (.int .i64 b1) ∧ W.cell? ⟨B2 + 1, 1, none⟩ = some (.int .i64 b2)) (first | exact ⟨y0, y1, y2, y3, y4, y5, y6, y7, y8, y9, ya, yb⟩ | go_keep)
                    (first
                    | (go_at_call 27; refine (fair2 _ _ (by first | exact O1 | exact O2) _).mono ?_; rintro e W ⟨rfl, hb⟩; replace HF := Lib.hid (HF.out.go (by first | exact hb | exact ((Below.refl _ _).drew).on hb)); replace HB := Lib.hid (HB.out.go (by first | exact hb | exact ((Below.refl _ _).drew).on hb)); clear hb; obtain ⟨z0, y0, y1⟩ := HF.out (B0, (a1, a2)) (by simp); obtain ⟨z1, y2, y3⟩ := HF.out (B0 + 1, (b1, b2)) (by simp); obtain ⟨z2, y4, y5⟩ := HF.out (B1, (u1, u2)) (by simp); obtain ⟨z3, y6, y7⟩ := HF.out (B1 + 1, (v1, v2)) (by simp); obtain ⟨z4, y8, y9⟩ := HF.out (B2, (a1, a2)) (by simp); obtain ⟨z5, ya, yb⟩ := HF.out (B2 + 1, (b1, b2)) (by simp))
                    | (go_at_call 29; (first | (have hx := DONE1; clear hx; refine (RA2.out _).mono ?_) | (have DONE1 := True.intro; refine (RA1.out _).mono ?_)); rintro e W ⟨rfl, hb⟩; replace HF := Lib.hid (HF.out.go (by first | exact hb | exact ((Below.refl _ _).drew).on hb)); replace HB := Lib.hid (HB.out.go (by first | exact hb | exact ((Below.refl _ _).drew).on hb)); clear hb; obtain ⟨z0, y0, y1⟩ := HF.out (B0, (a1, a2)) (by simp); obtain ⟨z1, y2, y3⟩ := HF.out (B0 + 1, (b1, b2)) (by simp); obtain ⟨z2, y4, y5⟩ := HF.out (B1, (u1, u2)) (by simp); obtain ⟨z3, y6, y7⟩ := HF.out (B1 + 1, (v1, v2)) (by simp); obtain ⟨z4, y8, y9⟩ := HF.out (B2, (a1, a2)) (by simp); obtain ⟨z5, ya, yb⟩ := HF.out (B2 + 1, (b1, b2)) (by simp))
                    | fail)
                  all_goals go_wp2
                  all_goals go_roundw
                  all_goals first
                    | exact ⟨k + 1, hlk, by go_num, HB⟩
                    | exact ⟨k + 1, hlk, by go_num, Lib.hid (HB.out.go (Below.refl _ _).drew)⟩
                    | (simp [intOf]; omega)
            · obtain rfl : k = l.length := by omega
              go_wp2_with (go_at_call 25; refine (works_any _).mono ?_; rintro e W9 ⟨rfl, hb9⟩)
              go_ret
              exact ⟨rfl, HHr.out.bel.on hb9⟩
end Go.Proofs.Ytffblmhaoekkgaa.prp
