/- Centre (package seam). -/
import Derived.Test.YtcalipoknbbaaaaDiv
namespace Go.Proofs.Ytcalipoknbbaaaa
open Go.RowKit

/-- a box of two cells -/
def Cell2 (W : World) (B : Nat) (a b : Value) : Prop :=
  B < W.heap.size ∧ W.cell? ⟨B, 0, none⟩ = some a ∧ W.cell? ⟨B, 1, none⟩ = some b ∧ W.frozen? ⟨B, 0, none⟩ = false ∧ W.frozen? ⟨B, 1, none⟩ = false
theorem Cell2.below {W W' : World} {B : Nat} {a b : Value} (h : Cell2 W B a b) {N : Nat} (hN : B < N) (hb : Below N W W') : Cell2 W' B a b := by
  obtain ⟨h0, h1, h2, h4, h5⟩ := h
  exact ⟨Nat.lt_of_lt_of_le h0 hb.size, (hb.cell (p := ⟨B, 0, none⟩) hN).trans h1, (hb.cell (p := ⟨B, 1, none⟩) hN).trans h2, (hb.frozen (p := ⟨B, 0, none⟩) hN).trans h4, (hb.frozen (p := ⟨B, 1, none⟩) hN).trans h5⟩
theorem Cell2.set {W : World} {B : Nat} {a b : Value} (h : Cell2 W B a b) (x y : Value) : Cell2 ((W.setCell ⟨B, 0, none⟩ x).setCell ⟨B, 1, none⟩ y) B x y := by
  obtain ⟨h0, h1, h2, h4, h5⟩ := h
  have n01 : (⟨B, 0, none⟩ : Addr) ≠ ⟨B, 1, none⟩ := by simp
  refine ⟨by simp only [World.size_setCell]; exact h0, ?_, ?_, ?_, ?_⟩
  · rw [World.cell?_setCell_other (h := n01.symm), World.cell?_setCell_same (h := h1)]
  · rw [World.cell?_setCell_same (u := b)]
    rw [World.cell?_setCell_other (h := n01), h2]
  · simpa using h4
  · simpa using h5

/-- one step of the search for the deepest place -/
def cStep (ps : List Pl) (s : Pl × Int) (p : Pl) : Pl × Int := if s.2 < (depthOf ps p : Int) then (p, (depthOf ps p : Int)) else s
def centTo (ps : List Pl) (i j : Nat) : Pl × Int := (cols 7 i ++ rowL i j).foldl (cStep ps) ((0, 0), -1)
theorem centTo_zero (ps : List Pl) : centTo ps 0 0 = ((0, 0), -1) := by simp [centTo, cols, rowL]
theorem centTo_step (ps : List Pl) (i j : Nat) : centTo ps i (j + 1) = cStep ps (centTo ps i j) ((i : Int), (j : Int)) := by
  rw [centTo, centTo, rowL_succ, ← List.append_assoc, List.foldl_append]; rfl
theorem centTo_col (ps : List Pl) (i : Nat) : centTo ps i 7 = centTo ps (i + 1) 0 := by
  rw [centTo, centTo, cols_succ]; simp [rowL]
/-- what Centre returns -/
def centreOf (ps : List Pl) : Pl × Int × Int := if errP ps ≠ 0 then ((0, 0), 0, errP ps) else ((centTo ps 7 0).1, (centTo ps 7 0).2, 0)

set_option maxRecDepth 100000 in
set_option maxHeartbeats 1000000 in
theorem Centre_any (q : Option Addr) (cap : Nat) (ps : List Pl) (w : World) (hr : RowP w q ps) :
    Calls Try.prog 61 #[.slice q ps.length cap] w fun e w' => e = .returned (.tuple #[.agg #[.int .i64 (centreOf ps).1.1, .int .i64 (centreOf ps).1.2], .int .i64 (centreOf ps).2.1, .int .i64 (centreOf ps).2.2]) ∧ Below w.heap.size w w' := by
  have hb0 : Below w.heap.size w (w.alloc (.cells #[.int .i64 0, .int .i64 0] 26)) := (Below.refl _ _).alloc (Nat.le_refl _) _
  have hr' := hr.below (Nat.le_refl _) hb0
  have hz : Cell2 (w.alloc (.cells #[.int .i64 0, .int .i64 0] 26)) w.heap.size (.int .i64 0) (.int .i64 0) := ⟨by simp, by simp, by simp, by simp, by simp⟩
  have c1 := Points_any q cap ps _ hr'
  have C1 := Lib.hid c1
  have HR := Lib.hid hr'
  have HB0 := Lib.hid hb0
  have HZ := Lib.hid hz
  clear c1 hr hr' hb0 hz
  by_cases h0 : errP ps = 0
  · have hb : (errP ps != 0) = false := by simp [h0]
    obtain ⟨o1, o2, o3, o4⟩ := errP_ok h0
    have hres : centreOf ps = ((centTo ps 7 0).1, (centTo ps 7 0).2, 0) := by rw [centreOf, if_neg (by simp [h0])]
    have HRES := Lib.hid hres
    clear hres h0
    go_enter Try.func61, Try.ntmps61
    go_wp2_with (go_at_call 55; refine C1.out.mono ?_; rintro e w1 ⟨rfl, hb1⟩; have hz1 : w.heap.size < w1.heap.size := (by have := hb1.size; simp at this; omega))
    have HX1 := Lib.hid (HZ.out.below (by simp) hb1)
    have HR1 := Lib.hid (HR.out.below (Nat.le_refl _) hb1)
    have HB1 := Lib.hid (al0 HB0.out hb1 (by simp <;> omega))
    clear C1 HR HB0 HZ
    go_loopw [7, 19] (fun d i wr => ∃ k : Nat, k ≤ 7 ∧ i = .int .i64 k ∧ d = .int .i64 (centTo ps k 0).2 ∧ Cell2 wr w1.heap.size (.int .i64 (centTo ps k 0).1.1) (.int .i64 (centTo ps k 0).1.2) ∧ Below w1.heap.size w1 wr) (fun _ i _ => 7 - (intOf i).toNat)
    case atStart => exact ⟨0, Nat.zero_le _, rfl, by rw [centTo_zero], by rw [centTo_zero]; exact ⟨by simp, by simp, by simp, by simp, by simp⟩, (Below.refl _ _).alloc (Nat.le_refl _) _⟩
    case round =>
      obtain ⟨k, hk, rfl, rfl, hcell, hbel⟩ := hrel
      by_cases hlt : k < 7
      · have hltI : (k : Int) < 7 := by omega
        obtain ⟨wo, rfl⟩ : ∃ wo : World, wo = wr := ⟨_, rfl⟩
        go_wp2
        go_loopw [7, 22] (fun d j wr => ∃ l : Nat, l ≤ 7 ∧ j = .int .i64 l ∧ d = .int .i64 (centTo ps k l).2 ∧ Cell2 wr w1.heap.size (.int .i64 (centTo ps k l).1.1) (.int .i64 (centTo ps k l).1.2) ∧ Below w1.heap.size w1 wr) (fun _ j _ => 7 - (intOf j).toNat)
        case atStart => exact ⟨0, Nat.zero_le _, rfl, rfl, hcell, hbel⟩
        case round =>
          obtain ⟨l, hl', rfl, rfl, hcell', hbel'⟩ := hrel
          clear hcell
          by_cases hlt' : l < 7
          · have hltI' : (l : Int) < 7 := by omega
            have hst := centTo_step ps k l
            have HP : okP ((k : Int), (l : Int)) := ⟨⟨by omega, by simp; omega⟩, ⟨by omega, by simp; omega⟩⟩
            have c2 := depth_any q cap ps ((k : Int), (l : Int)) (wr.alloc (.cells #[.int .i64 k, .int .i64 l] 26)) o4 HP ((HR1.out.below (Nat.le_refl _) hbel').below (Nat.le_refl _) ((Below.refl _ _).alloc (Nat.le_refl _) _)) (by omega)
            unfold cStep at hst
            generalize depthOf ps ((k : Int), (l : Int)) = dd at c2 hst
            have HS := Lib.hid hst
            have C2 := Lib.hid c2
            have HC := Lib.hid hcell'
            have hw1 := hbel'.size
            have hcs := hcell'.1
            clear c2 hst hcell'
            generalize hct : centTo ps k l = ct at HS HC ⊢
            go_wp2_with (go_at_call 131; refine C2.out.mono ?_; rintro e w2 ⟨rfl, hb2⟩; have ha2 : Below wr.heap.size wr w2 := al0 ((Below.refl _ _).alloc (Nat.le_refl _) _) hb2 (by simp <;> omega); have hz2 : wr.heap.size < w2.heap.size := (by have := hb2.size; simp at this; omega); have HC2 := Lib.hid (HC.out.below hcs ha2); obtain ⟨y0, y1, y2, y3, y4⟩ := HC2.out; have p1 : w2.cell? ⟨wr.heap.size, 0, none⟩ = some (.int .i64 k) := ((bcell hb2).1 _ _ (by simp)).trans (by simp); have p2 : w2.cell? ⟨wr.heap.size, 1, none⟩ = some (.int .i64 l) := ((bcell hb2).1 _ _ (by simp)).trans (by simp))
            · have hy : ct.2 < (dd : Int) := by assumption
              have e1 := HS.out.trans (if_pos hy)
              have hbn := ((hbel'.trans (ha2.mono hw1)).setCell (p := ⟨w1.heap.size, 0, none⟩) (Nat.le_refl _) (.int .i64 k)).setCell (p := ⟨w1.heap.size, 1, none⟩) (Nat.le_refl _) (.int .i64 l)
              go_roundw
              case rel => exact ⟨l + 1, by omega, by go_num, by rw [e1], by rw [e1]; exact HC2.out.set _ _, hbn⟩
              case measure => simp [intOf]; omega
            · have hy : (dd : Int) ≤ ct.2 := by assumption
              have e1 := HS.out.trans (if_neg (by omega))
              go_roundw
              case rel => exact ⟨l + 1, by omega, by go_num, by rw [e1], by rw [e1]; exact HC2.out, hbel'.trans (ha2.mono hw1)⟩
              case measure => simp [intOf]; omega
          · obtain rfl : l = 7 := by omega
            go_wp2
            go_roundw
            case rel => exact ⟨k + 1, by omega, by go_num, by rw [← centTo_col], by rw [← centTo_col]; exact hcell', hbel'⟩
            case measure => simp [intOf]; omega
      · obtain rfl : k = 7 := by omega
        have hz1' : w.heap.size < wr.heap.size := Nat.lt_of_lt_of_le hz1 hbel.size
        have HC := Lib.hid hcell
        obtain ⟨x0, x1, x2, x3, x4⟩ := HX1.out.below hz1 hbel
        obtain ⟨y0, y1, y2, y3, y4⟩ := hcell
        go_wp2
        obtain ⟨k0, k1, k2, _, _⟩ := (show Cell2 wr w.heap.size (.int .i64 0) (.int .i64 0) from ⟨x0, x1, x2, x3, x4⟩).set (.int .i64 (centTo ps 7 0).1.1) (.int .i64 (centTo ps 7 0).1.2)
        have hbn := ((HB1.out.trans (hbel.mono (by omega))).setCell (p := ⟨w.heap.size, 0, none⟩) (Nat.le_refl _) (.int .i64 (centTo ps 7 0).1.1)).setCell (p := ⟨w.heap.size, 1, none⟩) (Nat.le_refl _) (.int .i64 (centTo ps 7 0).1.2)
        generalize hW : ((wr.setCell ⟨w.heap.size, 0, none⟩ (.int .i64 (centTo ps 7 0).1.1)).setCell ⟨w.heap.size, 1, none⟩ (.int .i64 (centTo ps 7 0).1.2)) = W at *
        refine bodyPost_ret (by simp [results, Try.results61, go_sem, k1, k2]; try rfl) rfl ?_
        exact ⟨by rw [HRES.out] <;> try rfl, hbn⟩
  · have hb : (errP ps != 0) = true := by simp [h0]
    have hres : centreOf ps = ((0, 0), 0, errP ps) := by rw [centreOf, if_pos h0]
    have HRES := Lib.hid hres
    clear hres h0
    go_enter Try.func61, Try.ntmps61
    go_wp2_with (go_at_call 55; refine C1.out.mono ?_; rintro e w1 ⟨rfl, hb1⟩; obtain ⟨y0, y1, y2, y3, y4⟩ := HZ.out.below (by simp) hb1)
    obtain ⟨k0, k1, k2, _, _⟩ := (show Cell2 w1 w.heap.size (.int .i64 0) (.int .i64 0) from ⟨y0, y1, y2, y3, y4⟩).set (.int .i64 0) (.int .i64 0)
    have hbn := ((al0 HB0.out hb1 (by simp <;> omega)).setCell (p := ⟨w.heap.size, 0, none⟩) (Nat.le_refl _) (.int .i64 0)).setCell (p := ⟨w.heap.size, 1, none⟩) (Nat.le_refl _) (.int .i64 0)
    generalize hW : ((w1.setCell ⟨w.heap.size, 0, none⟩ (.int .i64 0)).setCell ⟨w.heap.size, 1, none⟩ (.int .i64 0)) = W at *
    refine bodyPost_ret (by simp [results, Try.results61, go_sem, k1, k2]; try rfl) rfl ?_
    exact ⟨by rw [HRES.out] <;> try rfl, hbn⟩
end Go.Proofs.Ytcalipoknbbaaaa
