/- SeamAsked: the walk, and the row's step. -/
import Derived.Test.YtcalipoknbbaaaaMade
import Derived.Test.YtcalipoknbbaaaaDigC
import Derived.Test.YtcalipoknbbaaaaLeft
import Derived.Test.YtcalipoknbbaaaaRows
import Derived.WalkKit
import Derived.ProofKit
import Derived.OpenShut
namespace Go.Proofs.Ytcalipoknbbaaaa
open Go.RowKit
set_option linter.unusedSimpArgs false
set_option linter.unusedVariables false
attribute [local go_sem] slice107

set_option maxRecDepth 100000 in
set_option maxHeartbeats 4000000 in
theorem SeamAsked_any (s m : Nat) (ls : List By) (hs : s < 256) (hm : m < 256) (hls : ls.length = 10) (hok : ∀ x ∈ ls, okB x) (l : List By) (hl : l.length = 5) (hlk : ∀ x ∈ l, okB x) (u : Nat) (hu : u < 256) (w : World) :
    Calls Try.prog 11 #[.agg (digCells s m ls), .agg (flatB l).toArray, .int .u8 u] w fun e w' => e = .returned (.bool true) ∧ Below w.heap.size w w' := by
  obtain ⟨n, hn⟩ : ∃ n, n = 1 + s % 7 := ⟨_, rfl⟩
  have hn1 : 1 ≤ n := by omega
  have hn7 : n ≤ 7 := by have := Nat.mod_lt s (show 0 < 7 by decide); omega
  have c0 := fun W => made_at 7 5 s m ls n hn (by decide) (by decide) (by decide) hs hm hls hok W 7 5 rfl rfl
  have C0 := Lib.hid c0
  have HLS := Lib.hid hls
  have HL := Lib.hid hl
  have hD : DigAt ((w.alloc (.cells (digCells s m ls) 90)).alloc (.cells (flatB l).toArray 107)) w.heap.size s m ls := (DigAt.new w s m ls).below (N := w.heap.size + 1) (by omega) ((Below.refl _ _).alloc (by simp) _)
  have HDG := Lib.hid hD
  have hB : ByAt ((w.alloc (.cells (digCells s m ls) 90)).alloc (.cells (flatB l).toArray 107)) (w.heap.size + 1) 107 l := by
    have := ByAt.new (w.alloc (.cells (digCells s m ls) 90)) 107 l
    simpa using this
  have HBY := Lib.hid hB
  obtain ⟨k, hk⟩ : ∃ k, u % 6 = k := ⟨_, rfl⟩
  have hk5 : k ≤ 5 := by omega
  have e1 : (u : Int) % 6 = (k : Int) := by omega
  have HB2 := Lib.hid (below_two w (.cells (digCells s m ls) 90) (.cells (flatB l).toArray 107))
  clear c0 hn hs hm hok hls hD hB hl
  go_enter Try.func11, Try.ntmps11
  go_wp2_with (first
    | (refine wpList_load90 _ _ s m ls HLS.out HDG.out (.tmp 3) rfl rfl rfl ?_)
    | (go_at_call 63; refine (C0.out _).mono ?_; rintro e w1 ⟨q, c, rfl, hown, hb1⟩))
  obtain ⟨q', c', e', hr1, hq1⟩ := owns_cap hown
  injection e' with e2 _ e3
  subst e2; subst e3
  have hge := digG_err n 5 m ls hn1 hn7
  have hgl := digG_len n 5 m ls
  generalize digG n 5 m ls = gs at *
  have hz1 := hb1.size
  have B0 := (HB2.out.trans (hb1.mono (by simp <;> omega))).alloc (by simp at hz1; omega) (.cells #[.int .i64 n, .slice q gs.length c] 24)
  have HH : HillAt (w1.alloc (.cells #[.int .i64 n, .slice q gs.length c] 24)) w1.heap.size n (.slice q gs.length c) := ⟨by simp, by simp, by simp⟩
  have HR := hr1.below (Nat.le_refl _) ((Below.refl _ w1).alloc (Nat.le_refl _) (.cells #[.int .i64 n, .slice q gs.length c] 24))
  have HY := (HBY.out.below (N := w.heap.size + 2) (by omega) (hb1.mono (by simp))).below (N := w1.heap.size) (by simp at hz1; omega) ((Below.refl _ w1).alloc (Nat.le_refl _) (.cells #[.int .i64 n, .slice q gs.length c] 24))
  have hz2 : w.heap.size + 2 ≤ w1.heap.size := by simpa using hz1
  have HK := Lib.hid hk
  clear hown hr1 hb1 hz1 C0 HDG HLS HBY HB2 e1 hk
  generalize (w1.alloc (.cells #[.int .i64 n, .slice q gs.length c] 24)) = W1 at *
  generalize w1.heap.size = B1 at *
  have hBW := HH.1
  have HHX := Lib.hid HH
  have HRX := Lib.hid HR
  have HYX := Lib.hid HY
  have HQX := Lib.hid hq1
  have B0X := Lib.hid B0
  have HGE := Lib.hid hge
  clear HH HR HY hq1 B0 hge
  go_loopw [8, 29] (fun v i wr => ∃ j, j ≤ k ∧ i = .int .i64 (j : Nat) ∧ wr.ownsRow W1.heap.size 28 3 v (madeG n (l.take j)).length (flatG (madeG n (l.take j))) ∧ Below W1.heap.size W1 wr) (fun _ i _ => k - (intOf i).toNat)
  case atStart => exact ⟨0, Nat.zero_le _, rfl, World.ownsRow_nil _ _ _ _, Below.refl _ _⟩
  case round =>
    obtain ⟨j, hj, rfl, hown, hbel⟩ := hrel
    by_cases hlt : j < k
    · have hjl : j < l.length := by rw [HL.out]; omega
      have hx := hlk _ (getD_mem l j (0, 0, 0, 0) hjl)
      have hst := madeG_succ n l j (0, 0, 0, 0) hjl
      have hbd := madeG_bd n l j
      obtain ⟨c0, c1, c2, c3⟩ := (HYX.out.below (N := W1.heap.size) (by omega) hbel).at j (0, 0, 0, 0) hjl
      have HS := Lib.hid hst
      have HO := Lib.hid hown
      obtain ⟨z0, z1, z2⟩ := HHX.out.below (Nat.le_refl _) hbel
      clear hst hown hjl
      generalize l.getD j (0, 0, 0, 0) = x at c0 c1 c2 c3 hx HS
      obtain ⟨x0, x1, x2, x3⟩ := x
      obtain ⟨b0, b1, b2, b3⟩ := hx
      have hsz := hbel.size
      go_wp2_with (first
        | (go_at_call 74; refine (line_any n x0 x1 x2 x3 _ hn1 hn7 b0 b1 b2 b3).mono ?_; rintro e w2 ⟨rfl, hb2⟩; have hb2' := al0 ((Below.refl _ wr).alloc (Nat.le_refl _) _) hb2 (by simp); have HO2 := Lib.hid (owns_below HO.out (Nat.le_refl _) hb2'); have hz2 := hb2'.size)
        | (at_builtin; refine app_gal _ rfl (.tmp 33) (.tmp 38) rfl W1.heap.size _ _ (lineOf n (x0, x1, x2, x3)) rfl (HO2.out.alloc _) w2.heap.size 1 rfl (by simp) (by simp) (by simp) (by omega) (by simp; omega) ?_; intro v' w3 hown3 hgrow hblk))
      have hb3 := grown_al HO2.out (by omega) hgrow
      have hbn : Below W1.heap.size W1 w3 := (hbel.trans (hb2'.mono hsz)).trans hb3
      go_roundw
      case rel => exact ⟨j + 1, by omega, by go_num, by rw [HS.out]; exact hown3, hbn⟩
      case measure => simp [intOf]; omega
    · obtain rfl : j = k := by omega
      obtain ⟨q2, cc2, rfl, r2, hq2⟩ := owns_cap hown
      have hol : (madeG n (l.take j)).length = j := by rw [madeG_length, List.length_take, HL.out]; omega
      have hoe := madeG_err n (l.take j) hn1 hn7
      generalize madeG n (l.take j) = os at *
      have hg5 : gs.length ≤ 10 := by omega
      have h0 := errH_of n gs hn1 hn7 hg5 HGE.out
      have hrx := HRX.out.below (Nat.le_refl _) hbel
      have hhx := HHX.out.below (Nat.le_refl _) hbel
      have hsz := hbel.size
      have c1 := Ask_any n q q2 c cc2 gs os wr hrx HQX.out r2 (by omega)
      have HHR := Lib.hid hhx
      have HRR := Lib.hid hrx
      have HR2 := Lib.hid r2
      obtain ⟨z0, z1, z2⟩ := hhx
      clear hown hq2 hrx r2
      by_cases hk0 : os.length = 0
      · have e1 : askOf n gs os = (0, 4) := by rw [askOf, if_neg (by simp [h0]), if_pos hk0]
        rw [e1] at c1
        have C1 := Lib.hid c1
        have hkb : ((os.length : Int) == 0) = true := by simp [hk0]
        clear c1 e1 h0 hk0 hol
        go_wp2_with (first
          | (go_at_call 41; refine C1.out.mono ?_; rintro e w4 ⟨rfl, hb4⟩)
          | (go_at_call 19; refine (works_any _).mono ?_; rintro e w5 ⟨rfl, hb5⟩))
        go_ret
        exact ⟨rfl, ((B0X.out.trans (hbel.mono (by have := B0X.out.size; omega))).trans (hb4.mono (by have := B0X.out.size; omega))).trans (hb5.mono (by have := B0X.out.size; have := hb4.size; omega))⟩
      · have e1 := ask_eq n gs os hn7 h0 hoe (by omega) hk0
        rw [e1] at c1
        have hkb : ((os.length : Int) == 0) = false := beq_eq_false_iff_ne.2 (by omega)
        have C1 := Lib.hid c1
        have HOE := Lib.hid hoe
        have hok := okGs_of HGE.out
        have HOK := Lib.hid hok
        have hob : os.length ≤ 5 := by omega
        have HOL := Lib.hid hol
        clear c1 e1 h0 hk0 hoe hok hol
        go_wp2_with (first
          | (go_at_call 41; refine C1.out.mono ?_; rintro e w4 ⟨rfl, hb4⟩; have S4 := HHR.out.below (Nat.le_refl _) hb4; obtain ⟨y0, y1, y2⟩ := S4; have HR4 := Lib.hid (HRR.out.below (Nat.le_refl _) hb4); have HO4 := Lib.hid (HR2.out.below (Nat.le_refl _) hb4))
          | (go_at_call 64; refine (left_any n q c gs _ hn7 HOK.out HR4.out (by omega)).mono ?_; rintro e w5 ⟨q5, c5, rfl, r5, hb5⟩; have HO5 := Lib.hid (HO4.out.below (Nat.le_refl _) hb5); have HP5 := Lib.hid r5))
        have hpl := regL_len n gs hn7
        have hpo := regL_ok n gs hn7
        have hya := fun g => yesTo_all n gs g
        have HYA := Lib.hid hya
        have HPO := Lib.hid hpo
        have HL0 := Lib.hid (lawAsk.eq_2 n gs os)
        generalize hps : regL n gs = ps at *
        have HPS := Lib.hid hps
        have hb5z := hb5.size
        have hb4z := hb4.size
        have BB := Lib.hid (((B0X.out.trans (hbel.mono (by have := B0X.out.size; omega))).trans (hb4.mono (by have := B0X.out.size; omega))).trans (hb5.mono (by have := B0X.out.size; have := hb4.size; omega)))
        clear hps hya hpo r5 y0 y1 y2 z0 z1 z2 HR4 HO4 C1 hb4 hb5
        go_loopw [13, 14, 66] (fun a b i wx => ∃ t : Nat, t ≤ os.length ∧ i = .int .i64 t ∧ a = .int .i64 (lawAsk n gs os t).1 ∧ b = .int .i64 (lawAsk n gs os t).2 ∧ Below w5.heap.size w5 wx) (fun _ _ i _ => os.length - (intOf i).toNat)
        case atStart => exact ⟨0, Nat.zero_le _, rfl, rfl, rfl, Below.refl _ _⟩
        case round =>
          obtain ⟨wx, rfl⟩ : ∃ wx : World, wx = wr := ⟨_, rfl⟩
          obtain ⟨t, ht, rfl, rfl, rfl, hbx⟩ := hrel
          by_cases hlt2 : t < os.length
          · have hsx := hbx.size
            obtain ⟨bo, oo, rfl, hzo, g1, g2, g3⟩ := HO5.out.at hlt2 (Nat.le_refl _) hbx
            have hge := HOE.out _ (getD_mem os t (0, 0, 0) hlt2)
            have hst := HL0.out t
            generalize os.getD t (0, 0, 0) = g at g1 g2 g3 hge hst
            have hog := (errG_ok hge).1
            have hyb : yesOf n gs g ≤ ps.length := by have := yes_le n gs g; rw [HPS.out] at this; exact this
            have hyt := HYA.out g
            generalize yesOf n gs g = ya at hst hyb hyt
            have HST := Lib.hid hst
            have HYT := Lib.hid hyt
            have hba : Below wx.heap.size wx (wx.alloc (.cells #[.int .i64 g.1, .int .i64 g.2.1, .int .i64 g.2.2] 28)) := (Below.refl _ _).alloc (Nat.le_refl _) _
            have HBA := Lib.hid hba
            have f0 : (wx.alloc (.cells #[.int .i64 g.1, .int .i64 g.2.1, .int .i64 g.2.2] 28)).cell? ⟨wx.heap.size, 0, none⟩ = some (.int .i64 g.1) := by simp
            have f1 : (wx.alloc (.cells #[.int .i64 g.1, .int .i64 g.2.1, .int .i64 g.2.2] 28)).cell? ⟨wx.heap.size, 1, none⟩ = some (.int .i64 g.2.1) := by simp
            have f2 : (wx.alloc (.cells #[.int .i64 g.1, .int .i64 g.2.1, .int .i64 g.2.2] 28)).cell? ⟨wx.heap.size, 2, none⟩ = some (.int .i64 g.2.2) := by simp
            have F0 := Lib.hid f0
            have F1 := Lib.hid f1
            have F2 := Lib.hid f2
            have hs1 : wx.heap.size < (wx.alloc (.cells #[.int .i64 g.1, .int .i64 g.2.1, .int .i64 g.2.2] 28)).heap.size := by simp
            have hsy : w5.heap.size < (wx.alloc (.cells #[.int .i64 g.1, .int .i64 g.2.1, .int .i64 g.2.2] 28)).heap.size := by omega
            clear hst hyt hge f0 f1 f2 hba
            go_wp2
            generalize (wx.alloc (.cells #[.int .i64 g.1, .int .i64 g.2.1, .int .i64 g.2.2] 28)) = wy at *
            clear g1 g2 g3
            go_loopw [18, 73] (fun y i wz => ∃ v : Nat, v ≤ ps.length ∧ i = .int .i64 v ∧ y = .int .i64 (yesTo ps g v : Nat) ∧ Below wy.heap.size wy wz) (fun _ i _ => ps.length - (intOf i).toNat)
            case atStart => exact ⟨0, Nat.zero_le _, rfl, rfl, Below.refl _ _⟩
            case round =>
              obtain ⟨wz, rfl⟩ : ∃ wz : World, wz = wr := ⟨_, rfl⟩
              obtain ⟨v, hv, rfl, rfl, hbz⟩ := hrel
              have hsz' := hbz.size
              by_cases hlt3 : v < ps.length
              · obtain ⟨bp, op, rfl, hzp, p1, p2⟩ := HP5.out.at hlt3 (Nat.le_refl _) ((hbx.trans (HBA.out.mono hsx)).trans (hbz.mono (by omega)))
                have hpm := HPO.out _ (getD_mem ps v (0, 0) hlt3)
                have hys := yesTo_succ ps g v (0, 0) hlt3
                have hyl := yesTo_le ps g v
                generalize ps.getD v (0, 0) = p at p1 p2 hpm hys
                have k0 := (hbz.cell (p := ⟨wx.heap.size, 0, none⟩) hs1).trans F0.out
                have k1 := (hbz.cell (p := ⟨wx.heap.size, 1, none⟩) hs1).trans F1.out
                have k2 := (hbz.cell (p := ⟨wx.heap.size, 2, none⟩) hs1).trans F2.out
                have hne : wx.heap.size < wz.heap.size := by omega
                obtain ⟨yt, hyt⟩ : ∃ yt, yesTo ps g v = yt := ⟨_, rfl⟩
                rw [hyt] at hys hyl ⊢
                cases hag : agr g p with
                | true =>
                  rw [hag, if_pos rfl] at hys
                  have HY := Lib.hid hys
                  clear hys hyt
                  go_wp2_with (go_at_call 78; refine (fits_any g p _ hpm hog).mono ?_; rintro e wq ⟨rfl, hbq⟩)
                  go_roundw
                  case rel => exact ⟨v + 1, by omega, by go_num, by rw [HY.out]; go_num, (hbz.alloc (by omega) _).trans (hbq.mono (by simp; omega))⟩
                  case measure => simp [intOf]; omega
                | false =>
                  rw [hag, if_neg (by simp)] at hys
                  have HY := Lib.hid hys
                  clear hys hyt
                  go_wp2_with (go_at_call 78; refine (fits_any g p _ hpm hog).mono ?_; rintro e wq ⟨rfl, hbq⟩)
                  go_roundw
                  case rel => exact ⟨v + 1, by omega, by go_num, by rw [HY.out]; rfl, (hbz.alloc (by omega) _).trans (hbq.mono (by simp; omega))⟩
                  case measure => simp [intOf]; omega
              · obtain rfl : v = ps.length := by omega
                have hbw : Below w5.heap.size w5 wz := (hbx.trans (HBA.out.mono hsx)).trans (hbz.mono (by omega))
                rw [HYT.out]
                go_wp2
                · have hy : max (ya : Int) ((ps.length : Int) - ya) < (lawAsk n gs os t).2 := by assumption
                  have e3 := HST.out.trans (if_pos hy)
                  go_roundw
                  case rel => exact ⟨t + 1, by omega, by go_num, by rw [e3], by rw [e3], hbw⟩
                  case measure => simp [intOf]; omega
                · have hy : (lawAsk n gs os t).2 ≤ max (ya : Int) ((ps.length : Int) - ya) := by assumption
                  have e3 := HST.out.trans (if_neg (by omega))
                  go_roundw
                  case rel => exact ⟨t + 1, by omega, by go_num, by rw [e3], by rw [e3], hbw⟩
                  case measure => simp [intOf]; omega
          · obtain rfl : t = os.length := by omega
            have hsx := hbx.size
            go_wp2_with (go_at_call 19; refine (works_any _).mono ?_; rintro e w6 ⟨rfl, hb6⟩)
            go_ret
            exact ⟨rfl, (BB.out.trans (hbx.mono (by have := BB.out.size; omega))).trans (hb6.mono (by have := BB.out.size; omega))⟩
end Go.Proofs.Ytcalipoknbbaaaa
namespace Go.Proofs.Ytcalipoknbbaaaa.seamAsked
open Go Go.ChangeShapes Go.WideShapes Go.ChangeAt Go.RowKit

theorem own : ownKnob Try.prog.godebug = none := by kernel_rfl

set_option maxRecDepth 100000 in
theorem lifted (os : Os) (started : os.Started) (H : Type) (enc : TypeId × Value → H) :
    ReturnsInHanded {} Try.checked os 11 .any (Rows.seamAskedSpec.pre6 enc Try.prog Try.f11 Rows.seamAskedRow.domain false) (Rows.seamAskedSpec.post enc Try.prog Try.f11 false true false false) := by
  refine returnsInHanded_of_change (C := Try.checked) own started (by kernel_rfl) Try.func11
    (ChangeSpec.witness6 (enc := enc) (C := Try.checked) false { blocks := #[], args := #[.agg (digCells 0 0 (List.replicate 10 (0, 0, 0, 0))), .agg (flatB (List.replicate 5 (0, 0, 0, 0))).toArray, .int .u8 0], vars := [] } 8 (by kernel_rfl) (by kernel_rfl) (by kernel_rfl) (by kernel_rfl)) ?_
  intro W base args ds gs before hval0 hW hcnd _
  have hval : ∀ (j : Nat) t v, Try.f11.params[j]? = some t → args[j]? = some v → Value.okWide Try.prog W .any base t v := hval0
  have hW' := hW
  obtain ⟨p, q, hA0, hV, rfl, hfz, hnd⟩ := hW
  have hA : DataW.TrodAll enc Try.prog W 0 (fun _ => true) true Try.f11.params.toList args.toList ds p := hA0
  rw [Try.params11] at hA hval
  obtain ⟨v0, v1, v2, d0, d1, d2, p0, p1, p2, rfl, rfl, rfl, h0, h1, h2⟩ := trodAll_three hA
  obtain ⟨rfl, rfl⟩ := trodVars_none hV
  obtain ⟨rfl, g0⟩ := trod_same 5 plain90 h0
  obtain ⟨rfl, g1⟩ := trod_same 5 plainB5 h1
  obtain ⟨rfl, g2⟩ := trod_same 5 plain5 h2
  obtain ⟨s0, m0, ls0, rfl, k0a, k0b, k0c, k0d⟩ := dig_of (hval 0 90 v0 rfl rfl)
  obtain ⟨l1, rfl, k1, q1⟩ := by5_of (hval 1 107 v1 rfl rfl)
  obtain ⟨x2, rfl, k2⟩ := u8_of (hval 2 5 v2 rfl rfl)
  clear hA0 hval0
  simp only [List.append_nil] at hW'
  refine (SeamAsked_any s0 m0 ls0 k0a k0b k0c k0d l1 k1 q1 x2 k2 W).mono fun e W' ⟨he, hg⟩ => ?_
  subst he
  refine ⟨_, rfl, _, _, _, [] ++ [], [] ++ [], [], hW', ?_, ?_, ?_, hg.frame _, fun h => by cases h⟩
  · exact trodAll_cons_mk (shut_bool Try.underlying4 _) trodAll_mk0
  · exact trodAll_cons_mk (g0 _ _ _ _) (trodAll_cons_mk (g1 _ _ _ _) (trodAll_cons_mk (g2 _ _ _ _) trodAll_mk0))
  · rfl

end Go.Proofs.Ytcalipoknbbaaaa.seamAsked
