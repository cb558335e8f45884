/- Chapter 7's law: PropSpanned: what one corner changes; all corners. -/
import Derived.Test.YtffblmhaoekkgaaPrpAJ
namespace Go.Proofs.Ytffblmhaoekkgaa.prp
open Go.RowKit
set_option linter.unusedSimpArgs false
set_option linter.unusedVariables false

theorem Cell2.other {W : World} {B B' : Nat} {a b : Value} (h : Cell2 W B a b) (hne : B ≠ B') (x y : Value) : Cell2 ((W.setCell ⟨B', 0, none⟩ x).setCell ⟨B', 1, none⟩ y) B a b := by
  obtain ⟨h0, h1, h2, h4, h5⟩ := h
  have n0 : (⟨B', 0, none⟩ : Addr) ≠ ⟨B, 0, none⟩ := by simp [Ne.symm hne]
  have n1 : (⟨B', 1, none⟩ : Addr) ≠ ⟨B, 0, none⟩ := by simp
  have n2 : (⟨B', 0, none⟩ : Addr) ≠ ⟨B, 1, none⟩ := by simp
  have n3 : (⟨B', 1, none⟩ : Addr) ≠ ⟨B, 1, none⟩ := by simp [Ne.symm hne]
  refine ⟨by simp only [World.size_setCell]; exact h0, ?_, ?_, ?_, ?_⟩
  · rw [World.cell?_setCell_other (h := n1), World.cell?_setCell_other (h := n0), h1]
  · rw [World.cell?_setCell_other (h := n3), World.cell?_setCell_other (h := n2), h2]
  · simpa using h4
  · simpa using h5
theorem below_size2 {N : Nat} {w W : World} (h : Below N w W) (hN : N ≤ w.heap.size) : N ≤ W.heap.size := Nat.le_trans hN h.size
theorem belowV (a b c d : Int) (v : Bool) (h : Hid (FrOk (a, b))) (h' : Hid (FrOk (c, d))) (hn : Hid (belF (a, b) (c, d) = v)) (w : World) : Calls Try.prog 31 #[.agg #[.int .i64 a, .int .i64 b], .agg #[.int .i64 c, .int .i64 d]] w fun e w' => e = .returned (.bool v) ∧ Below w.heap.size w w' := by
  have := belowOk h.out h'.out w
  rw [hn.out] at this
  exact this

set_option maxRecDepth 100000 in
set_option maxHeartbeats 8000000 in
/-- what one corner changes -/
theorem span2_any (q : Option Addr) (cap : Nat) (l : List Sn) (q2 : Option Addr) (cc2 : Nat) (ws : List Int) (lv : Nat) (B1 B2 B3 BL BM N : Nat) (x y : Fr) (w : World) (hr : RowV w q (flatS l)) (hr2 : RowV w q2 (flatI ws)) (hl : l.length ≤ 5) (hok : ∀ s ∈ l, okS s) (hb : Bnd l ws) (hlv : lv < l.length)
    (h1 : SliceAt w B1 (.int .i64 lv)) (h2 : SliceAt w B2 (.slice q l.length cap)) (h3 : SliceAt w B3 (.func (.func 28) #[] #[.pointer (some ⟨B1, 0, none⟩), .pointer (some ⟨B2, 0, none⟩)]))
    (ox : FrOk x) (oy : FrOk y) (hL : Cell2 w BL (.int .i64 x.1) (.int .i64 x.2)) (hM : Cell2 w BM (.int .i64 y.1) (.int .i64 y.2)) (hne : BL ≠ BM) (nL : N ≤ BL) (nM : N ≤ BM) (hN : N ≤ w.heap.size) :
    Calls Try.prog 30 #[.slice q2 l.length cc2, .pointer (some ⟨B3, 0, none⟩), .pointer (some ⟨BL, 0, none⟩), .pointer (some ⟨BM, 0, none⟩)] w fun e w' => e = .returned (.tuple #[]) ∧
      Cell2 w' BL (.int .i64 (if belF (cenF l ws lv) x then cenF l ws lv else x).1) (.int .i64 (if belF (cenF l ws lv) x then cenF l ws lv else x).2) ∧
      Cell2 w' BM (.int .i64 (if belF y (cenF l ws lv) then cenF l ws lv else y).1) (.int .i64 (if belF y (cenF l ws lv) then cenF l ws lv else y).2) ∧ Below N w w' := by
  have hs1 := span1_any q cap l q2 cc2 ws lv B1 B2 w hr hr2 hl hok hb hlv h1 h2
  have oc := cenF_ok hok hl hb hlv
  generalize cenF l ws lv = c at *
  obtain ⟨c1, c2⟩ := c
  obtain ⟨x1, x2⟩ := x
  obtain ⟨y1, y2⟩ := y
  obtain ⟨h31, h32⟩ := h3
  have HS1 := Lib.hid hs1
  unfold frP frV at HS1
  simp only at HS1 hL hM
  have OC := Lib.hid oc
  have OX := Lib.hid ox
  have OY := Lib.hid oy
  have HL0 := Lib.hid hL
  have HM0 := Lib.hid hM
  have hcl0 : BL < w.heap.size := hL.1
  have hcm0 : BM < w.heap.size := hM.1
  clear hs1 oc ox oy hL hM hr hr2 hok hb h1 h2
  generalize hX : (if belF (c1, c2) (x1, x2) = true then (c1, c2) else (x1, x2)) = X at *
  generalize hY : (if belF (y1, y2) (c1, c2) = true then (c1, c2) else (y1, y2)) = Y at *
  have HX := Lib.hid hX
  have HY := Lib.hid hY
  clear hX hY
  go_enter Try.func30, Try.ntmps30
  go_upto_region 1 with (go_at_call 28; refine HS1.out.mono ?_; rintro e w1 ⟨rfl, hb1⟩)
  have hz1 := hb1.size
  have A0 : Below w1.heap.size w1 (w1.alloc (.cells #[.int .i64 c1, .int .i64 c2] 51)) := (Below.refl _ _).alloc (Nat.le_refl _) _
  have HC := Lib.hid (Cell2.new w1 w1.heap.size rfl (.int .i64 c1) (.int .i64 c2) 51)
  have hb2 := hb1.on A0
  have HL := Lib.hid (HL0.out.below hcl0 hb2)
  have HM := Lib.hid (HM0.out.below hcm0 hb2)
  have HB := Lib.hid (hb2.mono hN)
  have hcl : w1.heap.size ≠ BL := by omega
  clear A0 hb1 hb2 HL0 HM0 HS1
  generalize hC0 : w1.heap.size = C0 at *
  generalize (w1.alloc (.cells #[.int .i64 c1, .int .i64 c2] 51)) = W1 at *
  obtain ⟨y0, y1', y2', y3, y4⟩ := HC.out
  obtain ⟨y5, y6, y7, y8, y9⟩ := HL.out
  obtain ⟨ya, yb, yc, yd, ye⟩ := HM.out
  have hsz := below_size2 HB.out hN
  clear hC0
  cases hv1 : belF (c1, c2) (x1, x2) <;> cases hv2 : belF (y1, y2) (c1, c2)
  · have V1 := Lib.hid hv1
    have V2 := Lib.hid hv2
    clear hv1 hv2
    go_upto_region 3 with (go_at_call 31; refine (belowV _ _ _ _ _ (by first | exact OC | exact OX | exact OY) (by first | exact OC | exact OX | exact OY) (by first | exact V1 | exact V2) _).mono ?_; rintro e W ⟨rfl, hb⟩; replace HC := Lib.hid (HC.out.below HC.out.1 hb); replace HL := Lib.hid (HL.out.below HL.out.1 hb); replace HM := Lib.hid (HM.out.below HM.out.1 hb); replace HB := Lib.hid (HB.out.trans (hb.mono (below_size2 HB.out hN))); clear hb; obtain ⟨y0, y1, y2, y3, y4⟩ := HC.out; obtain ⟨y5, y6, y7, y8, y9⟩ := HL.out; obtain ⟨ya, yb, yc, yd, ye⟩ := HM.out)
    go_wp2_with (go_at_call 31; refine (belowV _ _ _ _ _ (by first | exact OC | exact OX | exact OY) (by first | exact OC | exact OX | exact OY) (by first | exact V1 | exact V2) _).mono ?_; rintro e W ⟨rfl, hb⟩; replace HC := Lib.hid (HC.out.below HC.out.1 hb); replace HL := Lib.hid (HL.out.below HL.out.1 hb); replace HM := Lib.hid (HM.out.below HM.out.1 hb); replace HB := Lib.hid (HB.out.trans (hb.mono (below_size2 HB.out hN))); clear hb; obtain ⟨y0, y1, y2, y3, y4⟩ := HC.out; obtain ⟨y5, y6, y7, y8, y9⟩ := HL.out; obtain ⟨ya, yb, yc, yd, ye⟩ := HM.out)
    refine bodyPost_end (results_none rfl _ _ _) rfl ?_
    exact ⟨rfl, by rw [← HX.out, V1.out]; simpa using HL.out, by rw [← HY.out, V2.out]; simpa using HM.out, HB.out⟩
  · have V1 := Lib.hid hv1
    have V2 := Lib.hid hv2
    clear hv1 hv2
    go_upto_region 3 with (go_at_call 31; refine (belowV _ _ _ _ _ (by first | exact OC | exact OX | exact OY) (by first | exact OC | exact OX | exact OY) (by first | exact V1 | exact V2) _).mono ?_; rintro e W ⟨rfl, hb⟩; replace HC := Lib.hid (HC.out.below HC.out.1 hb); replace HL := Lib.hid (HL.out.below HL.out.1 hb); replace HM := Lib.hid (HM.out.below HM.out.1 hb); replace HB := Lib.hid (HB.out.trans (hb.mono (below_size2 HB.out hN))); clear hb; obtain ⟨y0, y1, y2, y3, y4⟩ := HC.out; obtain ⟨y5, y6, y7, y8, y9⟩ := HL.out; obtain ⟨ya, yb, yc, yd, ye⟩ := HM.out)
    go_upto_region 4 with (go_at_call 31; refine (belowV _ _ _ _ _ (by first | exact OC | exact OX | exact OY) (by first | exact OC | exact OX | exact OY) (by first | exact V1 | exact V2) _).mono ?_; rintro e W ⟨rfl, hb⟩; replace HC := Lib.hid (HC.out.below HC.out.1 hb); replace HL := Lib.hid (HL.out.below HL.out.1 hb); replace HM := Lib.hid (HM.out.below HM.out.1 hb); replace HB := Lib.hid (HB.out.trans (hb.mono (below_size2 HB.out hN))); clear hb; obtain ⟨y0, y1, y2, y3, y4⟩ := HC.out; obtain ⟨y5, y6, y7, y8, y9⟩ := HL.out; obtain ⟨ya, yb, yc, yd, ye⟩ := HM.out)
    have z1 := HL.out.other hne (.int .i64 c1) (.int .i64 c2)
    have z2 := HM.out.set (.int .i64 c1) (.int .i64 c2)
    have z4 := (HB.out.setCell (p := ⟨BM, 0, none⟩) nM (.int .i64 c1)).setCell (p := ⟨BM, 1, none⟩) nM (.int .i64 c2)
    go_wp2
    refine bodyPost_end (results_none rfl _ _ _) rfl ?_
    exact ⟨rfl, by rw [← HX.out, V1.out]; simpa using z1, by rw [← HY.out, V2.out]; simpa using z2, z4⟩
  · have V1 := Lib.hid hv1
    have V2 := Lib.hid hv2
    clear hv1 hv2
    go_upto_region 2 with (go_at_call 31; refine (belowV _ _ _ _ _ (by first | exact OC | exact OX | exact OY) (by first | exact OC | exact OX | exact OY) (by first | exact V1 | exact V2) _).mono ?_; rintro e W ⟨rfl, hb⟩; replace HC := Lib.hid (HC.out.below HC.out.1 hb); replace HL := Lib.hid (HL.out.below HL.out.1 hb); replace HM := Lib.hid (HM.out.below HM.out.1 hb); replace HB := Lib.hid (HB.out.trans (hb.mono (below_size2 HB.out hN))); clear hb; obtain ⟨y0, y1, y2, y3, y4⟩ := HC.out; obtain ⟨y5, y6, y7, y8, y9⟩ := HL.out; obtain ⟨ya, yb, yc, yd, ye⟩ := HM.out)
    go_upto_region 3 with fail
    have z1 := HL.out.set (.int .i64 c1) (.int .i64 c2)
    have z2 := HM.out.other (Ne.symm hne) (.int .i64 c1) (.int .i64 c2)
    have z3 := HC.out.other hcl (.int .i64 c1) (.int .i64 c2)
    have z4 := (HB.out.setCell (p := ⟨BL, 0, none⟩) nL (.int .i64 c1)).setCell (p := ⟨BL, 1, none⟩) nL (.int .i64 c2)
    replace HL := Lib.hid z1
    replace HM := Lib.hid z2
    replace HC := Lib.hid z3
    replace HB := Lib.hid z4
    clear z1 z2 z3 z4 y0 y1 y2 y3 y4 y5 y6 y7 y8 y9 ya yb yc yd ye
    obtain ⟨y0, y1, y2, y3, y4⟩ := HC.out
    obtain ⟨y5, y6, y7, y8, y9⟩ := HL.out
    obtain ⟨ya, yb, yc, yd, ye⟩ := HM.out
    generalize ((W.setCell ⟨BL, 0, none⟩ (.int .i64 c1)).setCell ⟨BL, 1, none⟩ (.int .i64 c2)) = V at *
    go_wp2_with (go_at_call 31; refine (belowV _ _ _ _ _ (by first | exact OC | exact OX | exact OY) (by first | exact OC | exact OX | exact OY) (by first | exact V1 | exact V2) _).mono ?_; rintro e W ⟨rfl, hb⟩; replace HC := Lib.hid (HC.out.below HC.out.1 hb); replace HL := Lib.hid (HL.out.below HL.out.1 hb); replace HM := Lib.hid (HM.out.below HM.out.1 hb); replace HB := Lib.hid (HB.out.trans (hb.mono (below_size2 HB.out hN))); clear hb; obtain ⟨y0, y1, y2, y3, y4⟩ := HC.out; obtain ⟨y5, y6, y7, y8, y9⟩ := HL.out; obtain ⟨ya, yb, yc, yd, ye⟩ := HM.out)
    refine bodyPost_end (results_none rfl _ _ _) rfl ?_
    exact ⟨rfl, by rw [← HX.out, V1.out]; simpa using HL.out, by rw [← HY.out, V2.out]; simpa using HM.out, HB.out⟩
  · have V1 := Lib.hid hv1
    have V2 := Lib.hid hv2
    clear hv1 hv2
    go_upto_region 2 with (go_at_call 31; refine (belowV _ _ _ _ _ (by first | exact OC | exact OX | exact OY) (by first | exact OC | exact OX | exact OY) (by first | exact V1 | exact V2) _).mono ?_; rintro e W ⟨rfl, hb⟩; replace HC := Lib.hid (HC.out.below HC.out.1 hb); replace HL := Lib.hid (HL.out.below HL.out.1 hb); replace HM := Lib.hid (HM.out.below HM.out.1 hb); replace HB := Lib.hid (HB.out.trans (hb.mono (below_size2 HB.out hN))); clear hb; obtain ⟨y0, y1, y2, y3, y4⟩ := HC.out; obtain ⟨y5, y6, y7, y8, y9⟩ := HL.out; obtain ⟨ya, yb, yc, yd, ye⟩ := HM.out)
    go_upto_region 3 with fail
    have z1 := HL.out.set (.int .i64 c1) (.int .i64 c2)
    have z2 := HM.out.other (Ne.symm hne) (.int .i64 c1) (.int .i64 c2)
    have z3 := HC.out.other hcl (.int .i64 c1) (.int .i64 c2)
    have z4 := (HB.out.setCell (p := ⟨BL, 0, none⟩) nL (.int .i64 c1)).setCell (p := ⟨BL, 1, none⟩) nL (.int .i64 c2)
    replace HL := Lib.hid z1
    replace HM := Lib.hid z2
    replace HC := Lib.hid z3
    replace HB := Lib.hid z4
    clear z1 z2 z3 z4 y0 y1 y2 y3 y4 y5 y6 y7 y8 y9 ya yb yc yd ye
    obtain ⟨y0, y1, y2, y3, y4⟩ := HC.out
    obtain ⟨y5, y6, y7, y8, y9⟩ := HL.out
    obtain ⟨ya, yb, yc, yd, ye⟩ := HM.out
    generalize ((W.setCell ⟨BL, 0, none⟩ (.int .i64 c1)).setCell ⟨BL, 1, none⟩ (.int .i64 c2)) = V at *
    go_upto_region 4 with (go_at_call 31; refine (belowV _ _ _ _ _ (by first | exact OC | exact OX | exact OY) (by first | exact OC | exact OX | exact OY) (by first | exact V1 | exact V2) _).mono ?_; rintro e W ⟨rfl, hb⟩; replace HC := Lib.hid (HC.out.below HC.out.1 hb); replace HL := Lib.hid (HL.out.below HL.out.1 hb); replace HM := Lib.hid (HM.out.below HM.out.1 hb); replace HB := Lib.hid (HB.out.trans (hb.mono (below_size2 HB.out hN))); clear hb; obtain ⟨y0, y1, y2, y3, y4⟩ := HC.out; obtain ⟨y5, y6, y7, y8, y9⟩ := HL.out; obtain ⟨ya, yb, yc, yd, ye⟩ := HM.out)
    have z1 := HL.out.other hne (.int .i64 c1) (.int .i64 c2)
    have z2 := HM.out.set (.int .i64 c1) (.int .i64 c2)
    have z4 := (HB.out.setCell (p := ⟨BM, 0, none⟩) nM (.int .i64 c1)).setCell (p := ⟨BM, 1, none⟩) nM (.int .i64 c2)
    go_wp2
    refine bodyPost_end (results_none rfl _ _ _) rfl ?_
    exact ⟨rfl, by rw [← HX.out, V1.out]; simpa using z1, by rw [← HY.out, V2.out]; simpa using z2, z4⟩

set_option maxRecDepth 100000 in
/-- all corners: the ends of the span are found -/
theorem corners3_any (q : Option Addr) (cap : Nat) (l : List Sn) (lv : Nat) (B1 B2 B3 BL BM N : Nat) (x y : Fr) (w : World) (hr : RowV w q (flatS l)) (hl : l.length ≤ 5) (hok : ∀ s ∈ l, okS s) (hlv : lv < l.length)
    (h1 : SliceAt w B1 (.int .i64 lv)) (h2 : SliceAt w B2 (.slice q l.length cap)) (h3 : SliceAt w B3 (.func (.func 28) #[] #[.pointer (some ⟨B1, 0, none⟩), .pointer (some ⟨B2, 0, none⟩)]))
    (he : Ext l lv 0 x y) (hL : Cell2 w BL (.int .i64 x.1) (.int .i64 x.2)) (hM : Cell2 w BM (.int .i64 y.1) (.int .i64 y.2)) (hne : BL ≠ BM) (nL : N ≤ BL) (nM : N ≤ BM) (hN : N ≤ w.heap.size) (b1 : B1 < N) (b2 : B2 < N) (b3 : B3 < N) (hq : ∀ a, q = some a → a.block < N) :
    Calls Try.prog 21 #[.slice q l.length cap, .func (.func 30) #[] #[.pointer (some ⟨B3, 0, none⟩), .pointer (some ⟨BL, 0, none⟩), .pointer (some ⟨BM, 0, none⟩)]] w fun e w' => e = .returned (.tuple #[]) ∧
      Cell2 w' BL (.int .i64 (lowS l lv).1) (.int .i64 (lowS l lv).2) ∧ Cell2 w' BM (.int .i64 (highS l lv).1) (.int .i64 (highS l lv).2) ∧ Below N w w' := by
  refine (corners_gen 30 _ (fun args w => rfl) q cap l N w (fun k W => ∃ x y : Fr, Ext l lv k x y ∧ Cell2 W BL (.int .i64 x.1) (.int .i64 x.2) ∧ Cell2 W BM (.int .i64 y.1) (.int .i64 y.2)) hr hl hq hN ⟨x, y, he, hL, hM⟩ (fun _ W W' hJ hB => ?_) (fun k W q2 c2 hk hJ hB hr2 => ?_)).mono ?_
  · obtain ⟨x, y, a, b, c⟩ := hJ
    exact ⟨x, y, a, b.below b.1 hB, c.below c.1 hB⟩
  · obtain ⟨x, y, a, b, c⟩ := hJ
    obtain ⟨w1, hw1, e1⟩ := a.x1
    obtain ⟨w2, hw2, e2⟩ := a.y1
    refine (span2_any q cap l q2 c2 (cornS l k) lv B1 B2 B3 BL BM N x y W (hr.keep (N := N) hq hB) hr2 hl hok (cornS_bnd hok k) hlv (h1.below b1 hB) (h2.below b2 hB) (h3.below b3 hB) (by rw [e1]; exact cenF_ok hok hl hw1 hlv) (by rw [e2]; exact cenF_ok hok hl hw2 hlv) b c hne nL nM (Nat.le_trans hN hB.size)).mono fun e w' h => ⟨h.1, ⟨_, _, a.step hok hlv, h.2.1, h.2.2.1⟩, h.2.2.2⟩
  · rintro e w' ⟨h1, ⟨x, y, a, b, c⟩, hB⟩
    rw [a.low hok hl hlv] at b
    rw [a.high hok hl hlv] at c
    exact ⟨h1, b, c, hB⟩
end Go.Proofs.Ytffblmhaoekkgaa.prp
