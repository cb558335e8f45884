/- SeamDepths: points, asked, Depth, Centre, chosen, meet and Divide of the reference; the walk; the statement. -/
import Derived.Test.YtcalipoknbbaaaaRefD
import Derived.Test.YtcalipoknbbaaaaRefK
import Derived.Test.YtcalipoknbbaaaaRefX
import Derived.Test.YtcalipoknbbaaaaLaw8
import Derived.Test.YtcalipoknbbaaaaRows
import Derived.WalkKit
import Derived.ProofKit
import Derived.OpenShut
import Derived.Test.YtcalipoknbbaaaaInK
import Derived.Test.YtcalipoknbbaaaaSeamDepthsM
namespace Go.Proofs.Ytcalipoknbbaaaa
open Go.RowKit
set_option linter.unusedSimpArgs false
set_option linter.unusedVariables false

theorem owns_capP {w : World} {base : Nat} {e : TypeId} {v : Value} {ps : List Pl} (h : w.ownsRow base e 2 v ps.length (flatP ps)) : ∃ q cap, v = .slice q ps.length cap ∧ RowP w q ps ∧ (q = none → cap = 0) := by
  obtain ⟨q, c, rfl, hr⟩ := rowP_of_owns h
  exact ⟨q, c, rfl, hr, owns_nil_capP h⟩

set_option maxRecDepth 100000 in
set_option maxHeartbeats 1000000 in
theorem points_any (q : Option Addr) (c : Nat) (ps : List Pl) (w : World) (hr : RowP w q ps) (hl : ps.length ≤ 1000) :
    Calls Try.prog 48 #[.slice q ps.length c] w fun e w' => ∃ q c, e = .returned (.slice q ps.length c) ∧ RowP w' q ps ∧ (q = none → c = 0) ∧ Below w.heap.size w w' := by
  have HR := Lib.hid hr
  clear hr
  go_enter Try.func48, Try.ntmps48
  go_wp2
  go_loopw [3, 4] (fun v i wr => ∃ k : Nat, k ≤ ps.length ∧ i = .int .i64 k ∧ wr.ownsRow w.heap.size 38 2 v (ps.take k).length (flatP (ps.take k)) ∧ Below w.heap.size w wr) (fun _ i _ => ps.length - (intOf i).toNat)
  case atStart => exact ⟨0, Nat.zero_le _, rfl, World.ownsRow_nil _ _ _ _, Below.refl _ _⟩
  case round =>
    obtain ⟨k, hk, rfl, hown, hbel⟩ := hrel
    have HO := Lib.hid hown
    clear hown
    by_cases hlt : k < ps.length
    · obtain ⟨b, off, rfl, hb, h1, h2⟩ := HR.out.at hlt (Nat.le_refl _) hbel
      have hst : ps.take (k + 1) = ps.take k ++ [ps.getD k (0, 0)] := by rw [List.take_succ_eq_append_getElem hlt, getD_eq ps k (0, 0) hlt]
      have hbd : (ps.take k).length ≤ k := List.length_take_le _ _
      generalize ps.getD k (0, 0) = g at *
      generalize ps.take k = out at *
      have HST := Lib.hid hst
      have hsz := hbel.size
      clear hst
      go_wp2_with (at_builtin; refine app_placeR _ rfl (.tmp 11) (.tmp 16) rfl w.heap.size _ _ g rfl (HO.out.alloc _) wr.heap.size 1 rfl (by simp) (by simp) (by omega) (by simp; omega) ?_; intro v' w3 hown3 hgrow hblk)
      have hb3 := grown_below (HO.out.alloc (.cells #[.int .i64 g.1, .int .i64 g.2] 38)) (by simp; omega) hgrow
      go_roundw
      case rel => exact ⟨k + 1, hlt, by go_num, by rw [HST.out]; exact hown3, (hbel.alloc (by omega) _).trans hb3⟩
      case measure => simp [intOf]; omega
    · obtain rfl : k = ps.length := by omega
      have ho := HO.out
      rw [List.take_length] at ho
      obtain ⟨q1, c1, rfl, r1, n1⟩ := owns_capP ho
      have R1 := Lib.hid r1
      have N1 := Lib.hid n1
      clear ho HO r1 n1
      go_wp2
      go_ret
      exact ⟨q1, c1, rfl, R1.out, N1.out, hbel⟩

set_option maxRecDepth 100000 in
set_option maxHeartbeats 1000000 in
theorem rasked_any (q : Option Addr) (c : Nat) (ps : List Pl) (p : Pl) (w : World) (hr : RowP w q ps) :
    Calls Try.prog 124 #[.slice q ps.length c, .agg #[.int .i64 p.1, .int .i64 p.2]] w fun e w' => e = .returned (.int .i64 (errPP ps p)) ∧ Below w.heap.size w w' := by
  have HI := Lib.hid (Inv.onePP w q ps p hr)
  have k0 := HI.out.c (b := w.heap.size) (o := 0) (v := .int .i64 p.1) (by simp)
  have k1 := HI.out.c (b := w.heap.size) (o := 1) (v := .int .i64 p.2) (by simp)
  clear hr
  obtain ⟨F, hF⟩ : ∃ F, errPP ps p = F := ⟨_, rfl⟩
  obtain ⟨E, hE⟩ : ∃ E, errP ps = E := ⟨_, rfl⟩
  rw [hF]
  have HE := Lib.hid hE
  have cP := fun V => rplaced_any p V
  obtain ⟨X, hX⟩ : ∃ X, onG 7 p = X := ⟨_, rfl⟩
  rw [hX] at cP
  have CP := Lib.hid cP
  by_cases h0 : E = 0
  · subst h0
    have hf : F = if X = false then 2 else 0 := by rw [← hF, errPP, hE, if_neg (by simp), hX]
    clear hF hE hX cP
    cases X with
    | true =>
      rw [if_neg (by simp)] at hf
      subst hf
      go_enter Try.func124, Try.ntmps124
      go_wp2_with (first
        | (go_at_call 56; refine (HI.out.scalar (V' := .int .i64 0) (rPoints_any q c ps _ (HI.out.2.1 (q, ps) (by simp))) (by rw [HE.out])).mono ?_; rintro e W ⟨rfl, hI⟩; replace HI := Lib.hid hI; clear hI k0 k1; have k0 := HI.out.c (b := w.heap.size) (o := 0) (v := .int .i64 p.1) (by simp); have k1 := HI.out.c (b := w.heap.size) (o := 1) (v := .int .i64 p.2) (by simp))
        | (go_at_call 126; have hcc := CP.out W; (with_reducible refine hcc.mono ?_); clear hcc; rintro e V ⟨rfl, hb⟩; replace HI := Lib.hid (HI.out.go hb); clear hb k0 k1))
      go_ret
      exact ⟨rfl, HI.out.2.2.2.2⟩
    | false =>
      rw [if_pos rfl] at hf
      subst hf
      go_enter Try.func124, Try.ntmps124
      go_wp2_with (first
        | (go_at_call 56; refine (HI.out.scalar (V' := .int .i64 0) (rPoints_any q c ps _ (HI.out.2.1 (q, ps) (by simp))) (by rw [HE.out])).mono ?_; rintro e W ⟨rfl, hI⟩; replace HI := Lib.hid hI; clear hI k0 k1; have k0 := HI.out.c (b := w.heap.size) (o := 0) (v := .int .i64 p.1) (by simp); have k1 := HI.out.c (b := w.heap.size) (o := 1) (v := .int .i64 p.2) (by simp))
        | (go_at_call 126; have hcc := CP.out W; (with_reducible refine hcc.mono ?_); clear hcc; rintro e V ⟨rfl, hb⟩; replace HI := Lib.hid (HI.out.go hb); clear hb k0 k1))
      go_ret
      exact ⟨rfl, HI.out.2.2.2.2⟩
  · have hf : F = E := by rw [← hF, errPP, hE, if_pos h0]
    subst hf
    have hb : (F == 0) = false := beq_eq_false_iff_ne.2 h0
    clear hF hE hX cP
    go_enter Try.func124, Try.ntmps124
    go_wp2_with (first
      | (go_at_call 56; refine (HI.out.scalar (V' := .int .i64 F) (rPoints_any q c ps _ (HI.out.2.1 (q, ps) (by simp))) (by rw [HE.out])).mono ?_; rintro e W ⟨rfl, hI⟩; replace HI := Lib.hid hI; clear hI k0 k1))
    go_ret
    exact ⟨rfl, HI.out.2.2.2.2⟩

theorem onG_inG {p : Pl} (h : onG 7 p = true) : NV.inG p := by
  have h2 := onG_in 7 p
  rw [h] at h2
  have h3 := Bool.and_eq_true_iff.1 h2.symm
  unfold inB at h3
  simp only [Bool.and_eq_true, decide_eq_true_eq] at h3
  exact ⟨⟨h3.1.1, by omega⟩, h3.2.1, by omega⟩

set_option maxRecDepth 100000 in
set_option maxHeartbeats 1000000 in
theorem rDepth_any (q : Option Addr) (c : Nat) (ps : List Pl) (p : Pl) (w : World) (hr : RowP w q ps) :
    Calls Try.prog 60 #[.slice q ps.length c, .agg #[.int .i64 p.1, .int .i64 p.2]] w fun e w' => e = .returned (.tuple #[.int .i64 (depthR ps p).1, .int .i64 (depthR ps p).2]) ∧ Below w.heap.size w w' := by
  have HI := Lib.hid (Inv.onePP w q ps p hr)
  have k0 := HI.out.c (b := w.heap.size) (o := 0) (v := .int .i64 p.1) (by simp)
  have k1 := HI.out.c (b := w.heap.size) (o := 1) (v := .int .i64 p.2) (by simp)
  clear hr
  obtain ⟨F, hF⟩ : ∃ F, errPP ps p = F := ⟨_, rfl⟩
  have HF := Lib.hid hF
  by_cases h0 : F = 0
  · subst h0
    obtain ⟨e1, e2⟩ := errPP_ok hF
    obtain ⟨o1, o2, o3, o4⟩ := errP_ok e1
    have hres : depthR ps p = ((depthOf ps p : Int), 0) := by rw [depthR, if_neg (by simp [hF])]
    rw [hres]
    have hin : ∀ r ∈ ps, NV.inG r := fun r hr => onG_inG (o3 r hr)
    have cD := fun (V : World) (h : RowP V q ps) => rdepth_any q c ps p V h hin (onG_inG e2) o2
    have CD := Lib.hid cD
    clear hF e1 e2 o3 o4 hres hin cD
    generalize depthOf ps p = D at *
    go_enter Try.func60, Try.ntmps60
    go_wp2_with (first
      | (go_at_call 124; refine (HI.out.scalar (V' := .int .i64 0) (rasked_any q c ps p _ (HI.out.2.1 (q, ps) (by simp))) (by rw [HF.out])).mono ?_; rintro e W ⟨rfl, hI⟩; replace HI := Lib.hid hI; clear hI k0 k1; have k0 := HI.out.c (b := w.heap.size) (o := 0) (v := .int .i64 p.1) (by simp); have k1 := HI.out.c (b := w.heap.size) (o := 1) (v := .int .i64 p.2) (by simp))
      | (go_at_call 132; have hcc := CD.out W (HI.out.2.1 (q, ps) (by simp)); (with_reducible refine hcc.mono ?_); clear hcc; rintro e V ⟨rfl, hb⟩; replace HI := Lib.hid (HI.out.go hb); clear hb k0 k1))
    go_ret2
    exact ⟨rfl, HI.out.2.2.2.2⟩
  · have hres : depthR ps p = (0, F) := by rw [depthR, hF, if_pos h0]
    rw [hres]
    have hb : (F != 0) = true := by simp [h0]
    clear hF hres
    go_enter Try.func60, Try.ntmps60
    go_wp2_with (first
      | (go_at_call 124; refine (HI.out.scalar (V' := .int .i64 F) (rasked_any q c ps p _ (HI.out.2.1 (q, ps) (by simp))) (by rw [HF.out])).mono ?_; rintro e W ⟨rfl, hI⟩; replace HI := Lib.hid hI; clear hI k0 k1))
    go_ret2
    exact ⟨rfl, HI.out.2.2.2.2⟩
end Go.Proofs.Ytcalipoknbbaaaa
namespace Go.Proofs.Ytcalipoknbbaaaa
open Go.RowKit
set_option linter.unusedSimpArgs false
set_option linter.unusedVariables false

set_option maxRecDepth 100000 in
set_option maxHeartbeats 2000000 in
theorem rCentre_any (q : Option Addr) (cap : Nat) (ps : List Pl) (w : World) (hr : RowP w q ps) :
    Calls Try.prog 62 #[.slice q ps.length cap] w fun e w' => e = .returned (.tuple #[.agg #[.int .i64 (centreOf ps).1.1, .int .i64 (centreOf ps).1.2], .int .i64 (centreOf ps).2.1, .int .i64 (centreOf ps).2.2]) ∧ Below w.heap.size w w' := by
  have hb0 : Below w.heap.size w (w.alloc (.cells #[.int .i64 0, .int .i64 0] 38)) := (Below.refl _ _).alloc (Nat.le_refl _) _
  have hr' := hr.below (Nat.le_refl _) hb0
  have hz : Cell2 (w.alloc (.cells #[.int .i64 0, .int .i64 0] 38)) w.heap.size (.int .i64 0) (.int .i64 0) := ⟨by simp, by simp, by simp, by simp, by simp⟩
  have c1 := rPoints_any q cap ps _ hr'
  have C1 := Lib.hid c1
  have HR := Lib.hid hr'
  have HB0 := Lib.hid hb0
  have HZ := Lib.hid hz
  clear c1 hr hr' hb0 hz
  by_cases h0 : errP ps = 0
  · have hb : (errP ps != 0) = false := by simp [h0]
    obtain ⟨o1, o2, o3, o4⟩ := errP_ok h0
    have hin : ∀ r ∈ ps, NV.inG r := fun r hr => onG_inG (o3 r hr)
    have HIN := Lib.hid hin
    have hres : centreOf ps = ((centTo ps 7 0).1, (centTo ps 7 0).2, 0) := by rw [centreOf, if_neg (by simp [h0])]
    have HRES := Lib.hid hres
    clear hres h0 hin o3 o4
    go_enter Try.func62, Try.ntmps62
    go_wp2_with (go_at_call 56; refine C1.out.mono ?_; rintro e w1 ⟨rfl, hb1⟩; have hz1 : w.heap.size < w1.heap.size := (by have := hb1.size; simp at this; omega))
    have HX1 := Lib.hid (HZ.out.below (by simp) hb1)
    have HR1 := Lib.hid (HR.out.below (Nat.le_refl _) hb1)
    have HB1 := Lib.hid (al0 HB0.out hb1 (by simp <;> omega))
    clear C1 HR HB0 HZ
    go_loopw [7, 8] (fun d i wr => ∃ k : Nat, k ≤ 7 ∧ i = .int .i64 k ∧ d = .int .i64 (centTo ps k 0).2 ∧ Cell2 wr w1.heap.size (.int .i64 (centTo ps k 0).1.1) (.int .i64 (centTo ps k 0).1.2) ∧ Below w1.heap.size w1 wr) (fun _ i _ => 7 - (intOf i).toNat)
    case atStart => exact ⟨0, Nat.zero_le _, rfl, by rw [centTo_zero], by rw [centTo_zero]; exact ⟨by simp, by simp, by simp, by simp, by simp⟩, (Below.refl _ _).alloc (Nat.le_refl _) _⟩
    case round =>
      obtain ⟨k, hk, rfl, rfl, hcell, hbel⟩ := hrel
      by_cases hlt : k < 7
      · have hltI : (k : Int) < 7 := by omega
        obtain ⟨wo, rfl⟩ : ∃ wo : World, wo = wr := ⟨_, rfl⟩
        go_wp2
        go_loopw [7, 9] (fun d j wr => ∃ l : Nat, l ≤ 7 ∧ j = .int .i64 l ∧ d = .int .i64 (centTo ps k l).2 ∧ Cell2 wr w1.heap.size (.int .i64 (centTo ps k l).1.1) (.int .i64 (centTo ps k l).1.2) ∧ Below w1.heap.size w1 wr) (fun _ j _ => 7 - (intOf j).toNat)
        case atStart => exact ⟨0, Nat.zero_le _, rfl, rfl, hcell, hbel⟩
        case round =>
          obtain ⟨l, hl', rfl, rfl, hcell', hbel'⟩ := hrel
          clear hcell
          by_cases hlt' : l < 7
          · have hltI' : (l : Int) < 7 := by omega
            have hst := centTo_step ps k l
            have c2 := rdepth_any q cap ps ((k : Int), (l : Int)) wr (HR1.out.below (Nat.le_refl _) hbel') HIN.out ⟨⟨by omega, by omega⟩, by omega, by omega⟩ o2
            unfold cStep at hst
            generalize depthOf ps ((k : Int), (l : Int)) = dd at c2 hst
            have HS := Lib.hid hst
            have C2 := Lib.hid c2
            have HC := Lib.hid hcell'
            have hw1 := hbel'.size
            have hcs := hcell'.1
            clear c2 hst hcell'
            generalize hct : centTo ps k l = ct at HS HC ⊢
            go_wp2_with (go_at_call 132; have hcc := C2.out; (with_reducible refine hcc.mono ?_); clear hcc; rintro e w2 ⟨rfl, ha2⟩; have HC2 := Lib.hid (HC.out.below hcs ha2); obtain ⟨y0, y1, y2, y3, y4⟩ := HC2.out)
            · have hy : ct.2 < (dd : Int) := by assumption
              have e1 := HS.out.trans (if_pos hy)
              have hbn := ((hbel'.trans (ha2.mono hw1)).setCell (p := ⟨w1.heap.size, 0, none⟩) (Nat.le_refl _) (.int .i64 k)).setCell (p := ⟨w1.heap.size, 1, none⟩) (Nat.le_refl _) (.int .i64 l)
              go_roundw
              case rel => exact ⟨l + 1, by omega, by go_num, by rw [e1], by rw [e1]; exact HC2.out.set _ _, hbn⟩
              case measure => simp [intOf]; omega
            · have hy : (dd : Int) ≤ ct.2 := by first | assumption | omega
              have e1 := HS.out.trans (if_neg (by omega))
              go_roundw
              case rel => exact ⟨l + 1, by omega, by go_num, by rw [e1], by rw [e1]; exact HC2.out, hbel'.trans (ha2.mono hw1)⟩
              case measure => simp [intOf]; omega
          · obtain rfl : l = 7 := by omega
            go_wp2
            go_roundw
            case rel => exact ⟨k + 1, by omega, by go_num, by rw [← centTo_col], by rw [← centTo_col]; exact hcell', hbel'⟩
            case measure => simp [intOf]; omega
      · obtain rfl : k = 7 := by omega
        have hz1' : w.heap.size < wr.heap.size := Nat.lt_of_lt_of_le hz1 hbel.size
        have HC := Lib.hid hcell
        obtain ⟨x0, x1, x2, x3, x4⟩ := HX1.out.below hz1 hbel
        obtain ⟨y0, y1, y2, y3, y4⟩ := hcell
        go_wp2
        obtain ⟨k0, k1, k2, _, _⟩ := (show Cell2 wr w.heap.size (.int .i64 0) (.int .i64 0) from ⟨x0, x1, x2, x3, x4⟩).set (.int .i64 (centTo ps 7 0).1.1) (.int .i64 (centTo ps 7 0).1.2)
        have hbn := ((HB1.out.trans (hbel.mono (by omega))).setCell (p := ⟨w.heap.size, 0, none⟩) (Nat.le_refl _) (.int .i64 (centTo ps 7 0).1.1)).setCell (p := ⟨w.heap.size, 1, none⟩) (Nat.le_refl _) (.int .i64 (centTo ps 7 0).1.2)
        generalize hW : ((wr.setCell ⟨w.heap.size, 0, none⟩ (.int .i64 (centTo ps 7 0).1.1)).setCell ⟨w.heap.size, 1, none⟩ (.int .i64 (centTo ps 7 0).1.2)) = W at *
        refine bodyPost_ret (by simp [results, Try.results62, go_sem, k1, k2]; try rfl) rfl ?_
        exact ⟨by rw [HRES.out] <;> try rfl, hbn⟩
  · have hb : (errP ps != 0) = true := by simp [h0]
    have hres : centreOf ps = ((0, 0), 0, errP ps) := by rw [centreOf, if_pos h0]
    have HRES := Lib.hid hres
    clear hres h0
    go_enter Try.func62, Try.ntmps62
    go_wp2_with (go_at_call 56; refine C1.out.mono ?_; rintro e w1 ⟨rfl, hb1⟩; obtain ⟨y0, y1, y2, y3, y4⟩ := HZ.out.below (by simp) hb1)
    obtain ⟨k0, k1, k2, _, _⟩ := (show Cell2 w1 w.heap.size (.int .i64 0) (.int .i64 0) from ⟨y0, y1, y2, y3, y4⟩).set (.int .i64 0) (.int .i64 0)
    have hbn := ((al0 HB0.out hb1 (by simp <;> omega)).setCell (p := ⟨w.heap.size, 0, none⟩) (Nat.le_refl _) (.int .i64 0)).setCell (p := ⟨w.heap.size, 1, none⟩) (Nat.le_refl _) (.int .i64 0)
    generalize hW : ((w1.setCell ⟨w.heap.size, 0, none⟩ (.int .i64 0)).setCell ⟨w.heap.size, 1, none⟩ (.int .i64 0)) = W at *
    refine bodyPost_ret (by simp [results, Try.results62, go_sem, k1, k2]; try rfl) rfl ?_
    exact ⟨by rw [HRES.out] <;> try rfl, hbn⟩
end Go.Proofs.Ytcalipoknbbaaaa
namespace Go.Proofs.Ytcalipoknbbaaaa
open Go.RowKit
set_option linter.unusedSimpArgs false
set_option linter.unusedVariables false

/-- the places of a list of indices -/
def pickR (l : List Pl) (x : List Int) : List Pl := x.map fun i => l.getD i.toNat (0, 0)
theorem pickR_succ (l : List Pl) (x : List Int) (k : Nat) (h : k < x.length) : pickR l (x.take (k + 1)) = pickR l (x.take k) ++ [l.getD (x.getD k 0).toNat (0, 0)] := by
  rw [pickR, pickR, List.take_succ_eq_append_getElem h, List.map_append, getD_eq x k 0 h]; rfl
theorem pickR_len (l : List Pl) (x : List Int) : (pickR l x).length = x.length := by simp [pickR]

/-- places that a call has chosen -/
def OneC (w : World) (xs : List Pl) (e : Ending) (w' : World) : Prop := ∃ q c, e = .returned (.slice q xs.length c) ∧ RowP w' q xs ∧ xs.length ≤ c ∧ Below w.heap.size w w'
theorem owns_capC {w : World} {base : Nat} {e : TypeId} {v : Value} {ps : List Pl} (h : w.ownsRow base e 2 v ps.length (flatP ps)) : ∃ q cap, v = .slice q ps.length cap ∧ RowP w q ps ∧ ps.length ≤ cap := by
  obtain ⟨q, c, rfl, hr⟩ := rowP_of_owns h
  refine ⟨q, c, rfl, hr, ?_⟩
  obtain ⟨_, ⟨e1, e2⟩ | ⟨g, cap, cur, e1, _, _, h3, _⟩⟩ := h
  · omega
  · injection e1 with _ _ e2
    omega

set_option maxRecDepth 100000 in
set_option maxHeartbeats 2000000 in
theorem rchosen_any (q q2 : Option Addr) (c c2 : Nat) (l : List Pl) (x : List Int) (w : World) (hr : RowP w q l) (hx : RowI w q2 x) (hlx : x.length ≤ 12) (hin : ∀ i ∈ x, 0 ≤ i ∧ i < l.length) (hll : l.length ≤ 12) :
    Calls Try.prog 130 #[.slice q l.length c, .slice q2 x.length c2] w (OneC w (pickR l x)) := by
  have HR := Lib.hid hr
  have HX := Lib.hid hx
  have HIN := Lib.hid hin
  clear hr hx hin
  go_enter Try.func130, Try.ntmps130
  go_wp2
  go_loopw [5, 6] (fun v i wr => ∃ k : Nat, k ≤ x.length ∧ i = .int .i64 k ∧ wr.ownsRow w.heap.size 38 2 v (pickR l (x.take k)).length (flatP (pickR l (x.take k))) ∧ Below w.heap.size w wr) (fun _ i _ => x.length - (intOf i).toNat)
  case atStart => exact ⟨0, Nat.zero_le _, rfl, World.ownsRow_nil _ _ _ _, Below.refl _ _⟩
  case round =>
    obtain ⟨k, hk, rfl, hown, hbel⟩ := hrel
    have hlp := pickR_len l (x.take k)
    rw [List.length_take, Nat.min_eq_left hk] at hlp
    by_cases hlt : k < x.length
    · obtain ⟨bx, ox, rfl, hbx, g1⟩ := HX.out.at hlt (Nat.le_refl _) hbel
      have hst := pickR_succ l x k hlt
      obtain ⟨i0, i1⟩ := HIN.out _ (getD_mem x k 0 hlt)
      obtain ⟨n, hn⟩ : ∃ n : Nat, x.getD k 0 = n := ⟨(x.getD k 0).toNat, by omega⟩
      rw [hn] at g1 hst i0 i1
      rw [Int.toNat_natCast] at hst
      have hnl : n < l.length := by omega
      obtain ⟨bl, ol, rfl, hbl, h1, h2⟩ := HR.out.at hnl (Nat.le_refl _) hbel
      generalize l.getD n (0, 0) = g at h1 h2 hst
      generalize pickR l (x.take k) = out at *
      have HST := Lib.hid hst
      have HO := Lib.hid hown
      have hsz := hbel.size
      clear hst hown hn
      go_wp2_with (at_builtin; refine app_placeR _ rfl (.tmp 13) (.tmp 21) rfl w.heap.size _ _ g rfl ((HO.out.alloc _)) (wr.heap.size) 1 rfl (by simp) (by simp) (by omega) (by simp; omega) ?_; intro v' w1 hown' hgrow hblk)
      have hb3 := grown_below ((HO.out.alloc (.cells #[.int .i64 g.1, .int .i64 g.2] 38))) (by simp; omega) hgrow
      have hbn := (hbel.alloc (by omega) (.cells #[.int .i64 g.1, .int .i64 g.2] 38)).trans hb3
      go_roundw
      case rel => exact ⟨k + 1, hlt, by go_num, by rw [HST.out]; exact hown', hbn⟩
      case measure => simp [intOf]; omega
    · obtain rfl : k = x.length := by omega
      rw [List.take_length] at hown
      obtain ⟨q1, c1, rfl, r1, n1⟩ := owns_capC hown
      have R1 := Lib.hid r1
      have N1 := Lib.hid n1
      clear hown r1 n1 hlp
      go_wp2
      go_ret
      exact ⟨q1, c1, rfl, R1.out, N1.out, hbel⟩

/-- do two parts of four points have a common point of their hulls? -/
def meetB (a b : List Pl) : Bool :=
  if a.length = 1 then covL b (a.getD 0 (0, 0)) else if b.length = 1 then covL a (b.getD 0 (0, 0)) else crossP (a.getD 0 (0, 0)) (a.getD 1 (0, 0)) (b.getD 0 (0, 0)) (b.getD 1 (0, 0))

theorem inG_ok {p : Pl} (h : NV.inG p) : okP p := ⟨⟨by have := h.1; omega, by have := h.1; omega⟩, ⟨by have := h.2; omega, by have := h.2; omega⟩⟩

/-- covers, for one to three points -/
theorem rcovers_any (q : Option Addr) (c : Nat) (l : List Pl) (p : Pl) (w : World) (hr : RowP w q l) (hc : l.length ≤ c) (hl : ∀ r ∈ l, NV.inG r) (hp : NV.inG p) (h0 : l ≠ []) (h3 : l.length ≤ 3) :
    Calls Try.prog 149 #[.slice q l.length c, .agg #[.int .i64 p.1, .int .i64 p.2]] w fun e w' => e = .returned (.bool (covL l p)) ∧ Below w.heap.size w w' := by
  match l, h0, h3 with
  | [a], _, _ => exact rcov1_any q c a p w hr
  | [a, b], _, _ => exact rcov2_any q c a b p w hr (inG_ok (hl a (by simp))) (inG_ok (hl b (by simp))) (inG_ok hp)
  | [a, b, d], _, _ => exact rcov3_any q c a b d p w hr hc (inG_ok (hl a (by simp))) (inG_ok (hl b (by simp))) (inG_ok (hl d (by simp))) (inG_ok hp)
  | a :: b :: d :: e :: r, _, h => simp at h

set_option maxRecDepth 100000 in
set_option maxHeartbeats 2000000 in
theorem rmeet_any (q1 q2 : Option Addr) (c1 c2 : Nat) (a b : List Pl) (w : World) (hr1 : RowP w q1 a) (hr2 : RowP w q2 b) (hc1 : a.length ≤ c1) (hc2 : b.length ≤ c2) (ha : ∀ r ∈ a, NV.inG r) (hb : ∀ r ∈ b, NV.inG r)
    (hs : (a.length = 1 ∧ b.length = 3) ∨ (a.length = 2 ∧ b.length = 2) ∨ (a.length = 3 ∧ b.length = 1)) :
    Calls Try.prog 129 #[.slice q1 a.length c1, .slice q2 b.length c2] w fun e w' => e = .returned (.bool (meetB a b)) ∧ Below w.heap.size w w' := by
  have H1 := Lib.hid hr1
  have H2 := Lib.hid hr2
  clear hr1 hr2
  rcases hs with ⟨h1, h2⟩ | ⟨h1, h2⟩ | ⟨h1, h2⟩
  · obtain ⟨bb, off, rfl, hbz, g1, g2⟩ := H1.out.at (k := 0) (by omega) (Nat.le_refl _) (Below.refl _ w)
    have hp := ha _ (getD_mem a 0 (0, 0) (by omega))
    have hres : meetB a b = covL b (a.getD 0 (0, 0)) := by rw [meetB, if_pos h1]
    rw [hres]
    generalize a.getD 0 (0, 0) = p at *
    have g1' : w.cell? ⟨bb, off, none⟩ = some (.int .i64 p.1) := by simpa using g1
    have g2' : w.cell? ⟨bb, off + 1, none⟩ = some (.int .i64 p.2) := by simpa using g2
    have cc := fun V (h : RowP V q2 b) => rcovers_any q2 c2 b p V h hc2 hb hp (by intro h; rw [h] at h2; simp at h2) (by omega)
    rw [h2] at cc
    have CC := Lib.hid cc
    rw [h1, h2]
    clear hres g1 g2 cc
    go_enter Try.func129, Try.ntmps129
    go_wp2_with (go_at_call 149; have hcc := CC.out w H2.out; (with_reducible refine hcc.mono ?_); clear hcc; rintro e V ⟨rfl, hb⟩)
    go_ret
    exact ⟨rfl, hb⟩
  · obtain ⟨p0, p1, rfl⟩ : ∃ p0 p1, a = [p0, p1] := by
      match a, h1 with
      | [p0, p1], _ => exact ⟨p0, p1, rfl⟩
    obtain ⟨p2, p3, rfl⟩ : ∃ p0 p1, b = [p0, p1] := by
      match b, h2 with
      | [p0, p1], _ => exact ⟨p0, p1, rfl⟩
    have hres : meetB [p0, p1] [p2, p3] = crossP p0 p1 p2 p3 := by simp [meetB]
    rw [hres]
    obtain ⟨b1, o1, rfl, hz1, ⟨g1, g2⟩, g3, g4⟩ := H1.out.c2
    obtain ⟨b2, o2, rfl, hz2, ⟨g5, g6⟩, g7, g8⟩ := H2.out.c2
    have cc := fun V => rcross_any p0 p1 p2 p3 V (inG_ok (ha p0 (by simp))) (inG_ok (ha p1 (by simp))) (inG_ok (hb p2 (by simp))) (inG_ok (hb p3 (by simp)))
    have CC := Lib.hid cc
    clear hres cc h1 h2
    have n1 : w.drew.cell? ⟨b1, o1, none⟩ = some (.int .i64 p0.1) := g1
    have n2 : w.drew.cell? ⟨b1, o1 + 1, none⟩ = some (.int .i64 p0.2) := g2
    have n3 : w.drew.cell? ⟨b1, o1 + 2, none⟩ = some (.int .i64 p1.1) := g3
    have n4 : w.drew.cell? ⟨b1, o1 + 3, none⟩ = some (.int .i64 p1.2) := g4
    have n5 : w.drew.cell? ⟨b2, o2, none⟩ = some (.int .i64 p2.1) := g5
    have n6 : w.drew.cell? ⟨b2, o2 + 1, none⟩ = some (.int .i64 p2.2) := g6
    have n7 : w.drew.cell? ⟨b2, o2 + 2, none⟩ = some (.int .i64 p3.1) := g7
    have n8 : w.drew.cell? ⟨b2, o2 + 3, none⟩ = some (.int .i64 p3.2) := g8
    go_enter Try.func129, Try.ntmps129
    go_upto_region 5 with fail
    go_region_held3 (fun W => W.cell? ⟨b1, o1, none⟩ = some (.int .i64 p0.1) ∧ W.cell? ⟨b1, o1 + 1, none⟩ = some (.int .i64 p0.2) ∧ W.cell? ⟨b1, o1 + 2, none⟩ = some (.int .i64 p1.1) ∧ W.cell? ⟨b1, o1 + 3, none⟩ = some (.int .i64 p1.2) ∧ W.cell? ⟨b2, o2, none⟩ = some (.int .i64 p2.1) ∧ W.cell? ⟨b2, o2 + 1, none⟩ = some (.int .i64 p2.2) ∧ W.cell? ⟨b2, o2 + 2, none⟩ = some (.int .i64 p3.1) ∧ W.cell? ⟨b2, o2 + 3, none⟩ = some (.int .i64 p3.2)) (first | exact ⟨g1, g2, g3, g4, g5, g6, g7, g8⟩ | exact ⟨n1, n2, n3, n4, n5, n6, n7, n8⟩ | exact ⟨e1, e2, e3, e4, e5, e6, e7, e8⟩ | go_keep)
      (first
      | (go_at_call 150; have hcc := CC.out w.drew; (with_reducible refine hcc.mono ?_); clear hcc; rintro e V ⟨rfl, hb⟩; have e1 := (hb.cell (p := ⟨b1, o1, none⟩) hz1).trans n1; have e2 := (hb.cell (p := ⟨b1, o1 + 1, none⟩) hz1).trans n2; have e3 := (hb.cell (p := ⟨b1, o1 + 2, none⟩) hz1).trans n3; have e4 := (hb.cell (p := ⟨b1, o1 + 3, none⟩) hz1).trans n4; have e5 := (hb.cell (p := ⟨b2, o2, none⟩) hz2).trans n5; have e6 := (hb.cell (p := ⟨b2, o2 + 1, none⟩) hz2).trans n6; have e7 := (hb.cell (p := ⟨b2, o2 + 2, none⟩) hz2).trans n7; have e8 := (hb.cell (p := ⟨b2, o2 + 3, none⟩) hz2).trans n8)
      | fail)
    all_goals
      go_wp2
      go_ret
      exact ⟨rfl, (Below.refl _ w).drew.trans hb⟩
  · obtain ⟨bb, off, rfl, hbz, g1, g2⟩ := H2.out.at (k := 0) (by omega) (Nat.le_refl _) (Below.refl _ w)
    have hp := hb _ (getD_mem b 0 (0, 0) (by omega))
    have hres : meetB a b = covL a (b.getD 0 (0, 0)) := by rw [meetB, if_neg (by omega), if_pos h2]
    rw [hres]
    generalize b.getD 0 (0, 0) = p at *
    have g1' : w.cell? ⟨bb, off, none⟩ = some (.int .i64 p.1) := by simpa using g1
    have g2' : w.cell? ⟨bb, off + 1, none⟩ = some (.int .i64 p.2) := by simpa using g2
    have cc := fun V (h : RowP V q1 a) => rcovers_any q1 c1 a p V h hc1 ha hp (by intro h; rw [h] at h1; simp at h1) (by omega)
    rw [h1] at cc
    have CC := Lib.hid cc
    rw [h1, h2]
    clear hres g1 g2 cc
    go_enter Try.func129, Try.ntmps129
    go_wp2_with (go_at_call 149; have hcc := CC.out w H1.out; (with_reducible refine hcc.mono ?_); clear hcc; rintro e V ⟨rfl, hb⟩)
    go_ret
    exact ⟨rfl, hb⟩
end Go.Proofs.Ytcalipoknbbaaaa
namespace Go.Proofs.Ytcalipoknbbaaaa
open Go.RowKit
set_option linter.unusedSimpArgs false
set_option linter.unusedVariables false

def restTo (d : List Int) (k : Nat) : List Int := ((List.range k).filter fun k : Nat => !hasI d k).map fun k : Nat => (k : Int)
theorem restTo_succ (d : List Int) (k : Nat) : restTo d (k + 1) = restTo d k ++ (if hasI d k = true then [] else [(k : Int)]) := by
  unfold restTo
  rw [List.range_succ, List.filter_append, List.map_append]
  congr 1
  simp only [List.filter_cons, List.filter_nil]
  cases hasI d (k : Int) <;> simp
theorem restTo_le (d : List Int) (k : Nat) : (restTo d k).length ≤ k := by
  unfold restTo
  rw [List.length_map]
  exact Nat.le_trans (List.length_filter_le _ _) (by simp)

theorem sepB_sym {a b : List Pl} (ha0 : a ≠ []) (hb0 : b ≠ []) (ha : ∀ p ∈ a, NV.inG p) (hb : ∀ p ∈ b, NV.inG p) : sepB a b = sepB b a := by
  rw [Bool.eq_iff_iff, sepB_any ha0 hb0 ha hb, sepB_any hb0 ha0 hb ha]
  exact ⟨fun ⟨n, h⟩ => ⟨_, NV.sep_swap h⟩, fun ⟨n, h⟩ => ⟨_, NV.sep_swap h⟩⟩
theorem cross_sep {a b c d : Pl} (hab : NV.ltP a b) (hcd : NV.ltP c d) (ha : NV.inG a) (hb : NV.inG b) (hc : NV.inG c) (hd : NV.inG d) (hac : a ≠ c) (had : a ≠ d) (hbc : b ≠ c) (hbd : b ≠ d) : crossP a b c d = !sepB [a, b] [c, d] := by
  have hs := sepB_any (a := [a, b]) (b := [c, d]) (by simp) (by simp) (by simp [ha, hb]) (by simp [hc, hd])
  rw [Bool.eq_iff_iff, cross_iff hab hcd ha hb hc hd hac had hbc hbd, Bool.not_eq_true', ← Bool.not_eq_true, hs]
  exact ⟨fun h ⟨n, k⟩ => h n k, fun h n k => h ⟨n, k⟩⟩
theorem lex_ne {p q : Pl} (h : NV.ltP p q) : p ≠ q := fun e => by subst e; exact lex_irr h

theorem meet_div {p0 p1 p2 p3 : Pl} (h01 : NV.ltP p0 p1) (h12 : NV.ltP p1 p2) (h23 : NV.ltP p2 p3) (i0 : NV.inG p0) (i1 : NV.inG p1) (i2 : NV.inG p2) (i3 : NV.inG p3) :
    ∀ d ∈ divs, meetB (pickR [p0, p1, p2, p3] d) (pickR [p0, p1, p2, p3] (restTo d 4)) = divides [p0, p1, p2, p3] d := by
  have h02 := lex_trans h01 h12
  have h13 := lex_trans h12 h23
  have h03 := lex_trans h02 h23
  intro d hd
  simp only [divs, List.mem_cons, List.not_mem_nil, or_false] at hd
  rcases hd with rfl | rfl | rfl | rfl | rfl | rfl | rfl
  · show covL [p1, p2, p3] p0 = !sepB [p0] [p1, p2, p3]
    rw [covL_sep (by simp [h12, h13, h23]) (by simp [i1, i2, i3]) i0 (by simp) (by simp), sepB_sym (by simp) (by simp) (by simp [i1, i2, i3]) (by simp [i0])]
  · show crossP p0 p1 p2 p3 = !sepB [p0, p1] [p2, p3]
    exact cross_sep h01 h23 i0 i1 i2 i3 (lex_ne h02) (lex_ne h03) (lex_ne h12) (lex_ne h13)
  · show covL [p0, p1, p2] p3 = !sepB [p0, p1, p2] [p3]
    exact covL_sep (by simp [h01, h02, h12]) (by simp [i0, i1, i2]) i3 (by simp) (by simp)
  · show covL [p0, p1, p3] p2 = !sepB [p0, p1, p3] [p2]
    exact covL_sep (by simp [h01, h03, h13]) (by simp [i0, i1, i3]) i2 (by simp) (by simp)
  · show crossP p0 p2 p1 p3 = !sepB [p0, p2] [p1, p3]
    exact cross_sep h02 h13 i0 i2 i1 i3 (lex_ne h01) (lex_ne h03) (lex_ne h12).symm (lex_ne h23)
  · show covL [p0, p2, p3] p1 = !sepB [p0, p2, p3] [p1]
    exact covL_sep (by simp [h02, h03, h23]) (by simp [i0, i2, i3]) i1 (by simp) (by simp)
  · show crossP p0 p3 p1 p2 = !sepB [p0, p3] [p1, p2]
    exact cross_sep h03 h12 i0 i3 i1 i2 (lex_ne h01) (lex_ne h02) (lex_ne h13).symm (lex_ne h23).symm

theorem errPs_lt : ∀ (ps : List Pl) (o : Option Pl), errPs o ps = 0 → ps.Pairwise NV.ltP ∧ ∀ b, o = some b → ∀ p ∈ ps, NV.ltP b p
  | [], o, _ => by simp
  | p :: r, o, h => by
    rw [errPs_cons] at h
    by_cases h1 : onG 7 p = false
    · rw [if_pos h1] at h; omega
    · rw [if_neg h1] at h
      cases o with
      | none =>
        rw [if_neg (by simp)] at h
        obtain ⟨k1, k2⟩ := errPs_lt r (some p) h
        exact ⟨List.pairwise_cons.2 ⟨fun x hx => k2 p rfl x hx, k1⟩, fun b hb => by cases hb⟩
      | some b =>
        by_cases h2 : beforeP b p = true
        · rw [if_neg (by simp [h2])] at h
          obtain ⟨k1, k2⟩ := errPs_lt r (some p) h
          have hbp := (before_lt b p).1 h2
          refine ⟨List.pairwise_cons.2 ⟨fun x hx => k2 p rfl x hx, k1⟩, fun b' hb x hx => ?_⟩
          injection hb with hb
          subst hb
          rcases List.mem_cons.1 hx with rfl | hx
          · exact hbp
          · exact lex_trans hbp (k2 p rfl x hx)
        · rw [if_pos (by simp [h2])] at h; omega
theorem errP_lt {ps : List Pl} (h : errP ps = 0) : ps.Pairwise NV.ltP := by
  unfold errP at h
  split at h
  · omega
  · split at h
    · omega
    · exact (errPs_lt ps none h).1

theorem divs_ok : ∀ d ∈ divs, (∀ i ∈ d, 0 ≤ i ∧ i < 4) ∧ (∀ i ∈ restTo d 4, 0 ≤ i ∧ i < 4) ∧ d.length ≤ 4 ∧ ((d.length = 1 ∧ (restTo d 4).length = 3) ∨ (d.length = 2 ∧ (restTo d 4).length = 2) ∨ (d.length = 3 ∧ (restTo d 4).length = 1)) := by decide

theorem pickR_in {l : List Pl} {x : List Int} (hl : ∀ r ∈ l, NV.inG r) (hx : ∀ i ∈ x, 0 ≤ i ∧ i < l.length) : ∀ r ∈ pickR l x, NV.inG r := by
  intro r hr
  obtain ⟨i, hi, rfl⟩ := List.mem_map.1 hr
  have := hx i hi
  exact hl _ (getD_mem l i.toNat (0, 0) (by omega))

set_option maxRecDepth 100000 in
set_option maxHeartbeats 4000000 in
theorem rDivide_any (q : Option Addr) (cap : Nat) (ps : List Pl) (w : World) (hr : RowP w q ps) :
    Calls Try.prog 58 #[.slice q ps.length cap] w (ListErr w (divideOf ps)) := by
  have c1 := rPoints_any q cap ps w hr
  have C1 := Lib.hid c1
  have HR := Lib.hid hr
  clear c1 hr
  obtain ⟨E, hE⟩ : ∃ E, errP ps = E := ⟨_, rfl⟩
  have HE := Lib.hid hE
  by_cases h0 : E = 0
  · subst h0
    by_cases h4 : ps.length = 4
    · have hres : divideOf ps = ((divs.find? (divides ps)).getD [], 0) := by rw [divideOf, if_neg (by simp [hE]), if_neg (by simp [h4])]
      rw [hres]
      obtain ⟨_, _, o3, _⟩ := errP_ok hE
      have hin : ∀ r ∈ ps, NV.inG r := fun r hr => onG_inG (o3 r hr)
      have hup := errP_lt hE
      obtain ⟨good, hgood⟩ : ∃ good : List Int → Bool, divides ps = good := ⟨_, rfl⟩
      have hgd : ∀ d ∈ divs, meetB (pickR ps d) (pickR ps (restTo d 4)) = good d := by
        match ps, h4 with
        | [p0, p1, p2, p3], _ =>
          simp only [List.pairwise_cons, List.mem_cons, List.not_mem_nil, or_false, forall_eq_or_imp, forall_eq] at hup
          intro d hd
          rw [← hgood]
          exact meet_div hup.1.1 hup.2.1.1 hup.2.2.1 (hin p0 (by simp)) (hin p1 (by simp)) (hin p2 (by simp)) (hin p3 (by simp)) d hd
      rw [hgood]
      have HGD := Lib.hid hgd
      have HIN := Lib.hid hin
      have hb4 : ((ps.length : Int) != 4) = false := by simp [h4]
      have H4 := Lib.hid h4
      clear hres hE h4 o3 hin hup hgood hgd
      go_enter Try.func58, Try.ntmps58
      go_wp2_with (go_at_call 56; have hcc := C1.out; rw [HE.out] at hcc; (with_reducible refine hcc.mono ?_); clear hcc; rintro e w1 ⟨rfl, hb1⟩)
      have HD := Lib.hid (divW_at w1)
      have HDB := Lib.hid (divW_below w1)
      have HB1 := Lib.hid hb1
      have HR1 := Lib.hid (HR.out.below (Nat.le_refl _) hb1)
      clear hb1 hb4
      go_loopw [6] (fun i wr => ∃ k : Nat, k ≤ 7 ∧ i = .int .i64 k ∧ divs.find? good = (divs.drop k).find? good ∧ Below (divW w1).heap.size (divW w1) wr) (fun i _ => 7 - (intOf i).toNat)
      case atStart => exact ⟨0, Nat.zero_le _, rfl, rfl, Below.refl _ _⟩
      case round =>
        obtain ⟨k, hk, rfl, hfind, hbel⟩ := hrel
        by_cases hlt : k < 7
        · obtain ⟨t1, t2⟩ := (HD.out.below (Nat.le_refl _) hbel).2 k hlt
          have hdl : k < divs.length := by simpa [divs] using hlt
          rw [List.drop_eq_getElem_cons hdl, ← getD_eq divs k [] hdl, List.find?_cons] at hfind
          obtain ⟨v1, v2, v3, v4⟩ := divs_ok _ (getD_mem divs k [] hdl)
          have hg := HGD.out _ (getD_mem divs k [] hdl)
          obtain ⟨d, hde⟩ : ∃ d, divs.getD k [] = d := ⟨_, rfl⟩
          rw [hde] at t1 t2 hfind v1 v2 v3 v4 hg
          have t1' : wr.cell? ⟨w1.heap.size + 1 + 1 + 1 + 1 + 1 + 1 + 1, k, none⟩ = some (.slice (some ⟨w1.heap.size + k, 0, none⟩) d.length d.length) := t1
          have T1 := Lib.hid t1'
          have T2 := Lib.hid t2
          have HF := Lib.hid hfind
          have HG := Lib.hid hg
          have V1 := Lib.hid v1
          have V2 := Lib.hid v2
          have V4 := Lib.hid v4
          have hlt7 : w1.heap.size + 7 < wr.heap.size := (HD.out.below (Nat.le_refl _) hbel).1
          have HBEL := Lib.hid hbel
          have HLT := Lib.hid hlt
          have hb8 := HDB.out.trans (hbel.mono (by rw [divW_size]; omega))
          have HB8 := Lib.hid hb8
          clear hdl hde t1 t2 t1' hfind hg v1 v2 v4 hb8 hbel
          have hkI : (k : Int) < 7 := by omega
          have hk0 : (0 : Int) ≤ (k : Int) := by omega
          obtain ⟨wo, rfl⟩ : ∃ wo : World, wo = wr := ⟨_, rfl⟩
          go_wp2
          go_loopw [7, 8] (fun v i wr => ∃ j : Nat, j ≤ 4 ∧ i = .int .i64 j ∧ wr.ownsRow wo.heap.size 3 1 v (restTo d j).length (flatI (restTo d j)) ∧ Below wo.heap.size wo wr) (fun _ i _ => 4 - (intOf i).toNat)
          case atStart => exact ⟨0, Nat.zero_le _, rfl, World.ownsRow_nil _ _ _ _, Below.refl _ _⟩
          case round =>
            obtain ⟨j, hj, rfl, hown, hbj⟩ := hrel
            have HO := Lib.hid hown
            have HBJ := Lib.hid hbj
            have t1 := (hbj.cell (p := ⟨w1.heap.size + 1 + 1 + 1 + 1 + 1 + 1 + 1, k, none⟩) (by show _ < _; omega)).trans T1.out
            clear hown
            by_cases hj4 : j < 4
            · have hst := restTo_succ d j
              have hle := restTo_le d j
              have hh := has_any (j : Int) (some ⟨w1.heap.size + k, 0, none⟩) d.length d wr (T2.out.below (Nat.le_refl _) hbj) (by omega)
              obtain ⟨Y, hY⟩ : ∃ Y, hasI d (j : Int) = Y := ⟨_, rfl⟩
              rw [hY] at hst hh
              generalize restTo d j = out at *
              have HST := Lib.hid hst
              have HH := Lib.hid hh
              have hsz := hbj.size
              clear hst hh hY hbj
              go_wp2_with (first
                | (go_at_call 128; have hcc := HH.out; (with_reducible refine hcc.mono ?_); clear hcc; rintro e W ⟨rfl, rfl⟩)
                | (at_builtin; refine app_int _ rfl (.tmp 46) (.tmp 48) rfl wo.heap.size _ out (j : Int) rfl (HO.out.alloc _) wr.heap.size 1 rfl (by simp) (by omega) (by simp; omega) ?_; intro v' w4 hown4 hgrow hblk))
              · have hy : Y = false := by first | assumption | (simpa using ‹(!Y) = true›)
                have hb4 := grown_below (HO.out.alloc _) (by simp; omega) hgrow
                have hbn := (HBJ.out.alloc (by omega) (.cells #[.int .i64 j] 3)).trans hb4
                go_roundw
                case rel => exact ⟨j + 1, hj4, by go_num, by rw [HST.out, if_neg (by simp [hy])]; exact hown4, hbn⟩
                case measure => simp [intOf]; omega
              · have hy : Y = true := by first | assumption | (simpa using ‹(!Y) = false›)
                go_roundw
                case rel => exact ⟨j + 1, hj4, by go_num, by rw [HST.out, if_pos hy, List.append_nil]; exact HO.out, HBJ.out⟩
                case measure => simp [intOf]; omega
            · obtain rfl : j = 4 := by omega
              obtain ⟨q3, c3, rfl, r3⟩ := rowI_of_owns HO.out
              have R3 := Lib.hid r3
              have C4 := Lib.hid (fun (W : World) (h : Below w1.heap.size w1 W) (h2 : Below wo.heap.size wo W) => rchosen_any q (some ⟨w1.heap.size + k, 0, none⟩) cap d.length ps d W (HR1.out.below (Nat.le_refl _) h) (T2.out.below (Nat.le_refl _) h2) (by omega) (by rw [H4.out]; exact V1.out) (by rw [H4.out]; omega))
              have C5 := Lib.hid (fun (W : World) (h : Below w1.heap.size w1 W) (h2 : RowI W q3 (restTo d 4)) => rchosen_any q q3 cap c3 ps (restTo d 4) W (HR1.out.below (Nat.le_refl _) h) h2 (by have := restTo_le d 4; omega) (by rw [H4.out]; exact V2.out) (by rw [H4.out]; omega))
              have hb9 := HB8.out.trans (hbj.mono HB8.out.size)
              have HB9 := Lib.hid hb9
              obtain ⟨G, hG⟩ : ∃ G, good d = G := ⟨_, rfl⟩
              have HGG := Lib.hid hG
              unfold OneC at C4 C5
              have C6 := Lib.hid (fun (q5 q6 : Option Addr) (c5 c6 : Nat) (W : World) (h1 : RowP W q5 (pickR ps d)) (h2 : RowP W q6 (pickR ps (restTo d 4))) (h3 : (pickR ps d).length ≤ c5) (h4 : (pickR ps (restTo d 4)).length ≤ c6) =>
                rmeet_any q5 q6 c5 c6 (pickR ps d) (pickR ps (restTo d 4)) W h1 h2 h3 h4 (pickR_in HIN.out (by rw [H4.out]; exact V1.out)) (pickR_in HIN.out (by rw [H4.out]; exact V2.out)) (by rw [pickR_len, pickR_len]; exact V4.out))
              rw [HG.out, hG] at C6
              have hsz := hbj.size
              have hq : w1.heap.size + 1 + 1 + 1 + 1 + 1 + 1 + 1 < wr.heap.size := by omega
              have T1R := Lib.hid t1
              have HQ := Lib.hid hq
              clear r3 hb9 hG hbj hq
              go_wp2_with (first
                | (go_at_call 130; have hcc := C4.out _ HB9.out HBJ.out; (with_reducible refine hcc.mono ?_); clear hcc; rintro e w5 ⟨q5, c5, rfl, r5, n5, b5⟩; have R5 := Lib.hid r5; have N5 := Lib.hid n5; have B5 := Lib.hid b5; clear r5 n5 b5)
                | (go_at_call 130; have hcc := C5.out w5 (HB9.out.trans (B5.out.mono HB9.out.size)) (R3.out.below (Nat.le_refl _) B5.out); (with_reducible refine hcc.mono ?_); clear hcc; rintro e w6 ⟨q6, c6, rfl, r6, n6, b6⟩; have R6 := Lib.hid r6; have N6 := Lib.hid n6; have B6 := Lib.hid b6; clear r6 n6 b6)
                | (go_at_call 129; have hcc := C6.out q5 q6 c5 c6 w6 (R5.out.below (Nat.le_refl _) B6.out) R6.out N5.out N6.out; (with_reducible refine hcc.mono ?_); clear hcc; rintro e w7 ⟨rfl, b7⟩; have B57 := Lib.hid ((B5.out.trans (B6.out.mono B5.out.size)).trans (b7.mono (Nat.le_trans B5.out.size B6.out.size))); have t7 := (B57.out.cell (p := ⟨w1.heap.size + 1 + 1 + 1 + 1 + 1 + 1 + 1, k, none⟩) HQ.out).trans T1R.out; clear b7))
              · have hg1 : G = true := by assumption
                go_ret2
                have hf2 : divs.find? good = some d := by rw [HF.out, HGG.out, hg1]
                have hall := ((HB1.out.trans (HB9.out.mono HB1.out.size)).trans (B57.out.mono (Nat.le_trans HB1.out.size HB9.out.size)))
                refine ⟨some ⟨w1.heap.size + k, 0, none⟩, d.length, by rw [hf2]; rfl, ?_, hall⟩
                rw [hf2]
                exact (T2.out.below (Nat.le_refl _) HBJ.out).below (Nat.le_refl _) B57.out
              · have hg1 : G = false := by assumption
                have hf2 : divs.find? good = (divs.drop (k + 1)).find? good := by rw [HF.out, HGG.out, hg1]
                go_roundw
                case rel => exact ⟨k + 1, HLT.out, by go_num, hf2, (HBEL.out.trans (HBJ.out.mono HBEL.out.size)).trans (B57.out.mono (Nat.le_trans HBEL.out.size HBJ.out.size))⟩
                case measure => simp [intOf]; omega
        · obtain rfl : k = 7 := by omega
          have hfn : divs.find? good = none := by rw [hfind]; rfl
          have HF := Lib.hid hfn
          clear hfind hfn
          go_wp2
          go_ret2
          exact ⟨none, 0, by rw [HF.out]; rfl, by rw [HF.out]; exact .inl rfl, (HB1.out.trans (HDB.out.mono HB1.out.size)).trans (hbel.mono (by rw [divW_size]; have := HB1.out.size; omega))⟩
    · have hb4 : ((ps.length : Int) != 4) = true := by simp; omega
      have hres : divideOf ps = ([], 5) := by rw [divideOf, if_neg (by simp [hE]), if_pos h4]
      rw [hres]
      obtain ⟨o1, o2, _, _⟩ := errP_ok hE
      clear hres hE h4
      go_enter Try.func58, Try.ntmps58
      go_wp2_with (go_at_call 56; have hcc := C1.out; rw [HE.out] at hcc; (with_reducible refine hcc.mono ?_); clear hcc; rintro e w1 ⟨rfl, hb1⟩)
      go_ret2
      exact ⟨none, 0, rfl, .inl rfl, hb1⟩
  · have hb : (E != 0) = true := by simp [h0]
    have hb' : (E == 0) = false := by simp [h0]
    have hres : divideOf ps = ([], E) := by rw [divideOf, if_pos (by rw [hE]; exact h0), hE]
    rw [hres]
    clear hres h0 hE
    go_enter Try.func58, Try.ntmps58
    go_wp2_with (go_at_call 56; have hcc := C1.out; rw [HE.out] at hcc; (with_reducible refine hcc.mono ?_); clear hcc; rintro e w1 ⟨rfl, hb1⟩)
    go_ret2
    exact ⟨none, 0, rfl, .inl rfl, hb1⟩
end Go.Proofs.Ytcalipoknbbaaaa
namespace Go.Proofs.Ytcalipoknbbaaaa
open Go.RowKit
set_option linter.unusedSimpArgs false
set_option linter.unusedVariables false

theorem equalRS (a b : Int) (w : World) : (binOp .eql 38 (.agg #[.int .i64 a, .int .i64 b]) (.agg #[.int .i64 a, .int .i64 b])).run Try.prog w = .ok (.bool true) w := by
  have h := equalR (a, b) (a, b) w
  rw [h, show plEq (a, b) (a, b) = true from beq_self_eq_true _]
attribute [local go_sem ↓] equalRS

theorem divideOf_len (ps : List Pl) : (divideOf ps).1.length ≤ 4 := by
  unfold divideOf
  split
  · simp
  · split
    · simp
    · cases h : divs.find? (divides ps) with
      | none => simp
      | some c => exact (divs_ok c (List.mem_of_find?_eq_some h)).2.2.1

theorem Inv.box26 (w : World) (q : Option Addr) (l : List Pl) (a b : Int) (hr : RowP w q l) :
    Inv w (w.alloc (.cells #[.int .i64 a, .int .i64 b] 26)) [] [(q, l)] [] [(w.heap.size, 1, .int .i64 b), (w.heap.size, 0, .int .i64 a)] :=
  ((((Inv.start w).addP hr).alloc _).addC (b := w.heap.size) (o := 0) (v := .int .i64 a) (by simp) (by simp)).addC (b := w.heap.size) (o := 1) (v := .int .i64 b) (by simp) (by simp)
theorem Inv.boxD {w W : World} {G : List (Option Addr × Nat × List Gl)} {P : List (Option Addr × List Pl)} {I : List (Option Addr × List Int)} {C : List (Nat × Nat × Value)} (h : Inv w W G P I C) (a b : Int) (t : TypeId) : Inv w (W.alloc (.cells #[.int .i64 a, .int .i64 b] t)) G P I ((W.heap.size, 1, .int .i64 b) :: (W.heap.size, 0, .int .i64 a) :: C) :=
  ((h.alloc (.cells #[.int .i64 a, .int .i64 b] t)).addC (b := W.heap.size) (o := 0) (v := .int .i64 a) (by simp) (by simp)).addC (b := W.heap.size) (o := 1) (v := .int .i64 b) (by simp) (by simp)

set_option maxRecDepth 100000 in
set_option maxHeartbeats 4000000 in
theorem SeamDepths_any (q : Option Addr) (c : Nat) (l : List Pl) (p : Pl) (w : World) (hr : RowP w q l) (hq : q = none → c = 0) :
    Calls Try.prog 7 #[.slice q l.length c, .agg #[.int .i64 p.1, .int .i64 p.2]] w fun e w' => e = .returned (.bool true) ∧ Below w.heap.size w w' := by
  obtain ⟨p1, p2⟩ := p
  have HI := Lib.hid (Inv.box26 w q l p1 p2 hr)
  clear hr hq
  have k0 := HI.out.c (b := w.heap.size) (o := 0) (v := .int .i64 p1) (by simp)
  have k1 := HI.out.c (b := w.heap.size) (o := 1) (v := .int .i64 p2) (by simp)
  by_cases h40 : 40 < l.length
  · go_enter Try.func7, Try.ntmps7
    go_wp2_with (go_at_call 19; refine (HI.out.scalar (works_any _) rfl).mono ?_; rintro e W ⟨rfl, hI⟩; replace HI := Lib.hid hI; clear hI)
    go_ret
    exact ⟨rfl, HI.out.2.2.2.2⟩
  have hlA := divideOf_len l
  obtain ⟨A, A2, hA⟩ : ∃ A A2, divideOf l = (A, A2) := ⟨_, _, rfl⟩
  obtain ⟨D1, D2, hD⟩ : ∃ D1 D2, depthR l (p1, p2) = (D1, D2) := ⟨_, _, rfl⟩
  obtain ⟨x1, x2, x3, x4, hX⟩ : ∃ x1 x2 x3 x4, centreOf l = ((x1, x2), x3, x4) := ⟨_, _, _, _, rfl⟩
  rw [hA] at hlA
  dsimp only at hlA
  have HA := Lib.hid hA
  have HD := Lib.hid hD
  have HX := Lib.hid hX
  have HAA := Lib.hid (show (A == A) = true from beq_self_eq_true _)
  have hlA2 : A.length ≤ 1000000 := by omega
  have h1000 : l.length ≤ 1000 := by omega
  have hA2 : (A2 == A2) = true := beq_self_eq_true _
  have hD1 : (D1 == D1) = true := beq_self_eq_true _
  have hD2 : (D2 == D2) = true := beq_self_eq_true _
  have hx3 : (x3 == x3) = true := beq_self_eq_true _
  have hx4 : (x4 == x4) = true := beq_self_eq_true _
  clear hA hD hX hlA
  go_enter Try.func7, Try.ntmps7
  go_upto_region 4 with (go_at_call 48; refine (points_any q c l _ (HI.out.2.1 (q, l) (by simp)) h1000).mono ?_; rintro e W ⟨q', c', rfl, hr', hq', hb⟩; have hI := (HI.out.go hb).addP hr'; replace HI := Lib.hid hI; clear hI k0 k1; have k0 := HI.out.c (b := w.heap.size) (o := 0) (v := .int .i64 p1) (by simp); have k1 := HI.out.c (b := w.heap.size) (o := 1) (v := .int .i64 p2) (by simp); clear hr' hq' hb)
  go_upto_region 9 with (first
    | (go_at_call 57; refine (HI.out.listErr (Divide_any q c l _ (HI.out.2.1 (q, l) (by simp))) HA.out).mono ?_; rintro e W ⟨q1, c1, rfl, hI⟩; replace HI := Lib.hid hI; clear hI k0 k1; have k0 := HI.out.c (b := w.heap.size) (o := 0) (v := .int .i64 p1) (by simp); have k1 := HI.out.c (b := w.heap.size) (o := 1) (v := .int .i64 p2) (by simp))
    | (go_at_call 58; refine (HI.out.listErr (rDivide_any q' c' l _ (HI.out.2.1 (q', l) (by simp))) HA.out).mono ?_; rintro e W ⟨q2, c2, rfl, hI⟩; replace HI := Lib.hid hI; clear hI k0 k1; have k0 := HI.out.c (b := w.heap.size) (o := 0) (v := .int .i64 p1) (by simp); have k1 := HI.out.c (b := w.heap.size) (o := 1) (v := .int .i64 p2) (by simp))
    | (go_at_call 59; refine (HI.out.scalar (V' := .tuple #[.int .i64 D1, .int .i64 D2]) (Depth_any q c l (p1, p2) _ (HI.out.2.1 (q, l) (by simp))) (by rw [HD.out])).mono ?_; rintro e W ⟨rfl, hI⟩; replace HI := Lib.hid hI; clear hI k0 k1; have k0 := HI.out.c (b := w.heap.size) (o := 0) (v := .int .i64 p1) (by simp); have k1 := HI.out.c (b := w.heap.size) (o := 1) (v := .int .i64 p2) (by simp))
    | (go_at_call 60; refine (HI.out.scalar (V' := .tuple #[.int .i64 D1, .int .i64 D2]) (rDepth_any q' c' l (p1, p2) _ (HI.out.2.1 (q', l) (by simp))) (by rw [HD.out])).mono ?_; rintro e W ⟨rfl, hI⟩; replace HI := Lib.hid hI; clear hI k0 k1; have k0 := HI.out.c (b := w.heap.size) (o := 0) (v := .int .i64 p1) (by simp); have k1 := HI.out.c (b := w.heap.size) (o := 1) (v := .int .i64 p2) (by simp))
    | (go_at_call 61; refine (HI.out.scalar (V' := .tuple #[.agg #[.int .i64 x1, .int .i64 x2], .int .i64 x3, .int .i64 x4]) (Centre_any q c l _ (HI.out.2.1 (q, l) (by simp))) (by rw [HX.out])).mono ?_; rintro e W ⟨rfl, hI⟩; replace HI := Lib.hid hI; clear hI k0 k1; have k0 := HI.out.c (b := w.heap.size) (o := 0) (v := .int .i64 p1) (by simp); have k1 := HI.out.c (b := w.heap.size) (o := 1) (v := .int .i64 p2) (by simp)))
  clear k0 k1
  have hI := HI.out.boxD x1 x2 26
  replace HI := Lib.hid hI
  generalize (W.alloc (.cells #[.int .i64 x1, .int .i64 x2] 26)) = W2 at *
  generalize W.heap.size = B14 at *
  clear hI
  have k0 := HI.out.c (b := w.heap.size) (o := 0) (v := .int .i64 p1) (by simp)
  have k1 := HI.out.c (b := w.heap.size) (o := 1) (v := .int .i64 p2) (by simp)
  have k2 := HI.out.c (b := B14) (o := 0) (v := .int .i64 x1) (by simp)
  have k3 := HI.out.c (b := B14) (o := 1) (v := .int .i64 x2) (by simp)
  go_upto_region 10 with (go_at_call 62; refine (HI.out.scalar (V' := .tuple #[.agg #[.int .i64 x1, .int .i64 x2], .int .i64 x3, .int .i64 x4]) (rCentre_any q' c' l _ (HI.out.2.1 (q', l) (by simp))) (by rw [HX.out])).mono ?_; rintro e W ⟨rfl, hI⟩; replace HI := Lib.hid hI; clear hI k0 k1 k2 k3; have k0 := HI.out.c (b := w.heap.size) (o := 0) (v := .int .i64 p1) (by simp); have k1 := HI.out.c (b := w.heap.size) (o := 1) (v := .int .i64 p2) (by simp); have k2 := HI.out.c (b := B14) (o := 0) (v := .int .i64 x1) (by simp); have k3 := HI.out.c (b := B14) (o := 1) (v := .int .i64 x2) (by simp))
  clear k0 k1 k2 k3
  have hI := HI.out.boxD x1 x2 38
  replace HI := Lib.hid hI
  generalize (W.alloc (.cells #[.int .i64 x1, .int .i64 x2] 38)) = W3 at *
  generalize W.heap.size = B17 at *
  clear hI
  have k0 := HI.out.c (b := B14) (o := 0) (v := .int .i64 x1) (by simp)
  have k1 := HI.out.c (b := B14) (o := 1) (v := .int .i64 x2) (by simp)
  have k2 := HI.out.c (b := B17) (o := 0) (v := .int .i64 x1) (by simp)
  have k3 := HI.out.c (b := B17) (o := 1) (v := .int .i64 x2) (by simp)
  go_wp2_with (first
    | (go_at_call 38; have hcc := HI.out.same q1 q2 c1 c2 A A true (by simp) (by simp) hlA2 hlA2 HAA.out; (with_reducible refine hcc.mono ?_); clear hcc; rintro e V1 ⟨rfl, hI⟩; have J1 := Lib.hid hI; clear hI; have d0 := J1.out.c (b := B14) (o := 0) (v := .int .i64 x1) (by simp); have d1 := J1.out.c (b := B14) (o := 1) (v := .int .i64 x2) (by simp); have d2 := J1.out.c (b := B17) (o := 0) (v := .int .i64 x1) (by simp); have d3 := J1.out.c (b := B17) (o := 1) (v := .int .i64 x2) (by simp))
    | (go_at_call 19; have hcc := J1.out.scalar (works_any _) rfl; (with_reducible refine hcc.mono ?_); clear hcc; rintro e V5 ⟨rfl, hI⟩; have J5 := Lib.hid hI; clear hI; have e0 := J5.out.c (b := B14) (o := 0) (v := .int .i64 x1) (by simp); have e1 := J5.out.c (b := B14) (o := 1) (v := .int .i64 x2) (by simp); have e2 := J5.out.c (b := B17) (o := 0) (v := .int .i64 x1) (by simp); have e3 := J5.out.c (b := B17) (o := 1) (v := .int .i64 x2) (by simp)))
  all_goals
    go_ret
    exact ⟨rfl, J5.out.2.2.2.2⟩
end Go.Proofs.Ytcalipoknbbaaaa
namespace Go.Proofs.Ytcalipoknbbaaaa.seamDepths
open Go Go.ChangeShapes Go.WideShapes Go.ChangeAt Go.RowKit

theorem own : ownKnob Try.prog.godebug = none := by kernel_rfl
theorem laidOut : laidOutB Try.prog = true := by kernel_rfl

set_option maxRecDepth 100000 in
theorem lifted (os : Os) (started : os.Started) (H : Type) (enc : TypeId × Value → H) :
    ReturnsInHanded {} Try.checked os 7 .any (Rows.seamDepthsSpec.pre6 enc Try.prog Try.f7 Rows.seamDepthsRow.domain false) (Rows.seamDepthsSpec.post enc Try.prog Try.f7 false true false false) := by
  refine returnsInHanded_of_change (C := Try.checked) own started (by kernel_rfl) Try.func7
    (ChangeSpec.witness6 (enc := enc) (C := Try.checked) false { blocks := #[], args := #[.slice none 0 0, .agg #[.int .i64 0, .int .i64 0]], vars := [] } 8 (by kernel_rfl) (by kernel_rfl) (by kernel_rfl) (by kernel_rfl)) ?_
  intro W base args ds gs before hval0 hW hcnd _
  have hval : ∀ (j : Nat) t v, Try.f7.params[j]? = some t → args[j]? = some v → Value.okWide Try.prog W .any base t v := hval0
  have hW' := hW
  obtain ⟨p, q, hA0, hV, rfl, hfz, hnd⟩ := hW
  have hA : DataW.TrodAll enc Try.prog W 0 (fun _ => true) true Try.f7.params.toList args.toList ds p := hA0
  rw [Try.params7] at hA hval
  obtain ⟨v0, v1, d0, d1, p0, p1, rfl, rfl, rfl, h0, h1⟩ := trodAll_two hA
  obtain ⟨rfl, rfl⟩ := trodVars_none hV
  obtain ⟨q0, c0, ps0, rfl, r0, e0⟩ := places_of (hval 0 39 v0 rfl rfl) h0
  obtain ⟨p1', rfl⟩ := place_of (hval 1 26 v1 rfl rfl) h1
  clear hA0 hval0
  simp only [List.append_nil] at hW'
  have hlt := fun x hx => hW'.lt x hx
  refine (SeamDepths_any q0 c0 ps0 p1' W r0 e0 ).mono fun e W' ⟨he, hg⟩ => ?_
  subst he
  refine ⟨_, rfl, _, _, _, [] ++ [], p0 ++ (p1 ++ []), [], hW', ?_, ?_, ?_, hg.frame _, fun h => by cases h⟩
  · exact trodAll_cons_mk (shut_bool Try.underlying4 _) trodAll_mk0
  · exact trodAll_cons_mk (Below.trod laidOut (by kernel_rfl) (of_decide_eq_true (by kernel_rfl)) h0 hg fun x hx => hlt x (by simp [hx])) (trodAll_cons_mk (Below.trod laidOut (by kernel_rfl) (of_decide_eq_true (by kernel_rfl)) h1 hg fun x hx => hlt x (by simp [hx])) trodAll_mk0)
  · rfl

end Go.Proofs.Ytcalipoknbbaaaa.seamDepths
namespace Go.Proofs.Ytcalipoknbbaaaa.seamDepths
open Go Go.ChangeShapes Go.WideShapes Go.ChangeAt Go.RowKit

theorem over : Rows.seamDepthsRow.holds Try.pinned (OpenSpec.ofChange Rows.seamDepthsSpec) :=
  OpenClaim.holds_of_wide 7 Try.f7 rfl rfl rfl rfl rfl rfl rfl ⟨rfl, rfl, rfl, rfl, rfl⟩ rfl rfl rfl rfl rfl named Try.func7 closed inst wrapper
    (fun os started H enc _ => lifted os started H enc)

/-- ████ THE STATEMENT ████ -/
theorem proved : Rows.SeamDepthsSaid :=
  over
#print axioms proved
end Go.Proofs.Ytcalipoknbbaaaa.seamDepths
