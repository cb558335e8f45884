/- Apart (package seam). -/
import Derived.Test.YtcalipoknbbaaaaWith
import Derived.Handy
namespace Go.Proofs.Ytcalipoknbbaaaa
open Go.RowKit

/-- a box of three cells -/
def Cell3 (W : World) (B : Nat) (a b c : Value) : Prop :=
  B < W.heap.size ∧ W.cell? ⟨B, 0, none⟩ = some a ∧ W.cell? ⟨B, 1, none⟩ = some b ∧ W.cell? ⟨B, 2, none⟩ = some c ∧ W.frozen? ⟨B, 0, none⟩ = false ∧ W.frozen? ⟨B, 1, none⟩ = false ∧ W.frozen? ⟨B, 2, none⟩ = false
theorem Cell3.below {W W' : World} {B : Nat} {a b c : Value} (h : Cell3 W B a b c) (hb : Below W.heap.size W W') : Cell3 W' B a b c := by
  obtain ⟨h0, h1, h2, h3, h4, h5, h6⟩ := h
  obtain ⟨k1, k2⟩ := bcell hb
  exact ⟨Nat.lt_of_lt_of_le h0 hb.size, (k1 _ _ h0).trans h1, (k1 _ _ h0).trans h2, (k1 _ _ h0).trans h3, (k2 _ _ h0).trans h4, (k2 _ _ h0).trans h5, (k2 _ _ h0).trans h6⟩

/-- what Apart returns -/
def apartOf (ps : List Pl) (p : Pl) : Gl × Int := if errPP ps p ≠ 0 then ((0, 0, 0), errPP ps p) else if sepB ps [p] = false then ((0, 0, 0), 13) else (sepG ps [p], 0)

set_option maxRecDepth 100000 in
set_option maxHeartbeats 1000000 in
theorem Apart_any (q : Option Addr) (cap : Nat) (ps : List Pl) (p : Pl) (w : World) (hr : RowP w q ps) :
    Calls Try.prog 53 #[.slice q ps.length cap, .agg #[.int .i64 p.1, .int .i64 p.2]] w fun e w' => e = .returned (.tuple #[.agg #[.int .i64 (apartOf ps p).1.1, .int .i64 (apartOf ps p).1.2.1, .int .i64 (apartOf ps p).1.2.2], .int .i64 (apartOf ps p).2]) ∧ Below w.heap.size w w' := by
  have hb0 := below_two w (.cells #[.int .i64 p.1, .int .i64 p.2] 26) (.cells #[.int .i64 0, .int .i64 0, .int .i64 0] 28)
  have hr' := hr.below (Nat.le_refl _) hb0
  have c1 := checkWP_any q cap ps p _ hr'
  have C1 := Lib.hid c1
  have HR := Lib.hid hr'
  have hz3 : Cell3 ((w.alloc (.cells #[.int .i64 p.1, .int .i64 p.2] 26)).alloc (.cells #[.int .i64 0, .int .i64 0, .int .i64 0] 28)) (w.heap.size + 1) (.int .i64 0) (.int .i64 0) (.int .i64 0) := ⟨by simp, by simp, by simp, by simp, by simp, by simp, by simp⟩
  have HZ := Lib.hid hz3
  have HB0 := Lib.hid hb0
  clear c1 hr' hb0 hz3
  by_cases h0 : errPP ps p = 0
  · have hb : (errPP ps p != 0) = false := by simp [h0]
    obtain ⟨e1, e2⟩ := errPP_ok h0
    obtain ⟨o1, o2, o3, o4⟩ := errP_ok e1
    have hp := onG_ok (n := 7) (by decide) e2
    have c2 := fun (W : World) (h : RowP W q ps) => separate_any q (some ⟨W.heap.size, 0, none⟩) cap 1 ps [p] (W.alloc (.cells #[.int .i64 p.1, .int .i64 p.2] 26)) o4 (by simpa using hp) (h.below (Nat.le_refl _) ((Below.refl _ _).alloc (Nat.le_refl _) _)) (.inr ⟨W.heap.size, 0, rfl, by simp, by intro i hi; have h0 : i = 0 := (by simpa using hi); subst h0; simp⟩) (by omega) (by simp)
    have C2 := Lib.hid c2
    cases hs : sepB ps [p] with
    | false =>
      have hs' : (!sepB ps [p]) = true := by rw [hs]; rfl
      have hres : apartOf ps p = ((0, 0, 0), 13) := by rw [apartOf, if_neg (by simp [h0]), if_pos hs]
      have HRES := Lib.hid hres
      clear c2 hres h0 o4 e1 e2
      go_enter Try.func53, Try.ntmps53
      go_wp2_with (first
        | (go_at_call 120; refine C1.out.mono ?_; rintro e w1 ⟨rfl, hb1⟩; obtain ⟨hcc, hf⟩ := bcell hb1; have hz0 : w.heap.size + 1 < w1.heap.size := (by have := hb1.size; simp at this; omega))
        | (go_at_call 115; refine (C2.out w1 (HR.out.below (Nat.le_refl _) hb1)).mono ?_; rintro e w2 ⟨rfl, hb2⟩; have hz2 : w1.heap.size < w2.heap.size := (by have := hb2.size; simp at this; omega); have ha2 : Below w1.heap.size w1 w2 := al0 ((Below.refl _ _).alloc (Nat.le_refl _) _) hb2 (by simp <;> omega); obtain ⟨y0, y1, y2, y3, y4, y5, y6⟩ := (HZ.out.below hb1).below ha2))
      obtain ⟨k0, k1, k2⟩ := cells3 (w := w2) (B := w.heap.size + 1) (.int .i64 0) (.int .i64 0) (.int .i64 0) y1 y2 y3
      have hbn : Below w.heap.size w (((w2.setCell ⟨w.heap.size + 1, 0, none⟩ (.int .i64 0)).setCell ⟨w.heap.size + 1, 1, none⟩ (.int .i64 0)).setCell ⟨w.heap.size + 1, 2, none⟩ (.int .i64 0)) :=
        (((((al0 HB0.out hb1 (by simp <;> omega)).trans (ha2.mono (by omega))).setCell (Nat.le_succ _) _).setCell (Nat.le_succ _) _).setCell (Nat.le_succ _) _)
      have hzs : w.heap.size + 1 < (((w2.setCell ⟨w.heap.size + 1, 0, none⟩ (.int .i64 0)).setCell ⟨w.heap.size + 1, 1, none⟩ (.int .i64 0)).setCell ⟨w.heap.size + 1, 2, none⟩ (.int .i64 0)).heap.size := by simp only [World.size_setCell]; omega
      generalize hW : (((w2.setCell ⟨w.heap.size + 1, 0, none⟩ (.int .i64 0)).setCell ⟨w.heap.size + 1, 1, none⟩ (.int .i64 0)).setCell ⟨w.heap.size + 1, 2, none⟩ (.int .i64 0)) = W at *
      have hbn2 := hbn.alloc hbn.size (.cells #[.int .i64 (sepG ps [p]).1, .int .i64 (sepG ps [p]).2.1, .int .i64 (sepG ps [p]).2.2] 28)
      have k0' := (World.cell?_alloc_old W (.cells #[.int .i64 (sepG ps [p]).1, .int .i64 (sepG ps [p]).2.1, .int .i64 (sepG ps [p]).2.2] 28) ⟨w.heap.size + 1, 0, none⟩ (Nat.ne_of_lt hzs)).trans k0
      have k1' := (World.cell?_alloc_old W (.cells #[.int .i64 (sepG ps [p]).1, .int .i64 (sepG ps [p]).2.1, .int .i64 (sepG ps [p]).2.2] 28) ⟨w.heap.size + 1, 1, none⟩ (Nat.ne_of_lt hzs)).trans k1
      have k2' := (World.cell?_alloc_old W (.cells #[.int .i64 (sepG ps [p]).1, .int .i64 (sepG ps [p]).2.1, .int .i64 (sepG ps [p]).2.2] 28) ⟨w.heap.size + 1, 2, none⟩ (Nat.ne_of_lt hzs)).trans k2
      generalize hW2 : W.alloc (.cells #[.int .i64 (sepG ps [p]).1, .int .i64 (sepG ps [p]).2.1, .int .i64 (sepG ps [p]).2.2] 28) = W2 at *
      refine bodyPost_ret (by simp [results, Try.results53, go_sem, k0', k1', k2']; try rfl) rfl ?_
      exact ⟨by rw [HRES.out] <;> try rfl, hbn2⟩
    | true =>
      have hs' : (!sepB ps [p]) = false := by rw [hs]; rfl
      have hres : apartOf ps p = (sepG ps [p], 0) := by rw [apartOf, if_neg (by simp [h0]), if_neg (by rw [hs]; simp)]
      have HRES := Lib.hid hres
      clear c2 hres h0 o4 e1 e2
      go_enter Try.func53, Try.ntmps53
      go_wp2_with (first
        | (go_at_call 120; refine C1.out.mono ?_; rintro e w1 ⟨rfl, hb1⟩; obtain ⟨hcc, hf⟩ := bcell hb1; have hz0 : w.heap.size + 1 < w1.heap.size := (by have := hb1.size; simp at this; omega))
        | (go_at_call 115; refine (C2.out w1 (HR.out.below (Nat.le_refl _) hb1)).mono ?_; rintro e w2 ⟨rfl, hb2⟩; have hz2 : w1.heap.size < w2.heap.size := (by have := hb2.size; simp at this; omega); have ha2 : Below w1.heap.size w1 w2 := al0 ((Below.refl _ _).alloc (Nat.le_refl _) _) hb2 (by simp <;> omega); obtain ⟨y0, y1, y2, y3, y4, y5, y6⟩ := (HZ.out.below hb1).below ha2))
      obtain ⟨k0, k1, k2⟩ := cells3 (w := w2) (B := w.heap.size + 1) (.int .i64 (sepG ps [p]).1) (.int .i64 (sepG ps [p]).2.1) (.int .i64 (sepG ps [p]).2.2) y1 y2 y3
      have hbn : Below w.heap.size w (((w2.setCell ⟨w.heap.size + 1, 0, none⟩ (.int .i64 (sepG ps [p]).1)).setCell ⟨w.heap.size + 1, 1, none⟩ (.int .i64 (sepG ps [p]).2.1)).setCell ⟨w.heap.size + 1, 2, none⟩ (.int .i64 (sepG ps [p]).2.2)) :=
        (((((al0 HB0.out hb1 (by simp <;> omega)).trans (ha2.mono (by omega))).setCell (Nat.le_succ _) _).setCell (Nat.le_succ _) _).setCell (Nat.le_succ _) _)
      have hzs : w.heap.size + 1 < (((w2.setCell ⟨w.heap.size + 1, 0, none⟩ (.int .i64 (sepG ps [p]).1)).setCell ⟨w.heap.size + 1, 1, none⟩ (.int .i64 (sepG ps [p]).2.1)).setCell ⟨w.heap.size + 1, 2, none⟩ (.int .i64 (sepG ps [p]).2.2)).heap.size := by simp only [World.size_setCell]; omega
      generalize hW : (((w2.setCell ⟨w.heap.size + 1, 0, none⟩ (.int .i64 (sepG ps [p]).1)).setCell ⟨w.heap.size + 1, 1, none⟩ (.int .i64 (sepG ps [p]).2.1)).setCell ⟨w.heap.size + 1, 2, none⟩ (.int .i64 (sepG ps [p]).2.2)) = W at *
      have hbn2 := hbn.alloc hbn.size (.cells #[.int .i64 (sepG ps [p]).1, .int .i64 (sepG ps [p]).2.1, .int .i64 (sepG ps [p]).2.2] 28)
      have k0' := (World.cell?_alloc_old W (.cells #[.int .i64 (sepG ps [p]).1, .int .i64 (sepG ps [p]).2.1, .int .i64 (sepG ps [p]).2.2] 28) ⟨w.heap.size + 1, 0, none⟩ (Nat.ne_of_lt hzs)).trans k0
      have k1' := (World.cell?_alloc_old W (.cells #[.int .i64 (sepG ps [p]).1, .int .i64 (sepG ps [p]).2.1, .int .i64 (sepG ps [p]).2.2] 28) ⟨w.heap.size + 1, 1, none⟩ (Nat.ne_of_lt hzs)).trans k1
      have k2' := (World.cell?_alloc_old W (.cells #[.int .i64 (sepG ps [p]).1, .int .i64 (sepG ps [p]).2.1, .int .i64 (sepG ps [p]).2.2] 28) ⟨w.heap.size + 1, 2, none⟩ (Nat.ne_of_lt hzs)).trans k2
      generalize hW2 : W.alloc (.cells #[.int .i64 (sepG ps [p]).1, .int .i64 (sepG ps [p]).2.1, .int .i64 (sepG ps [p]).2.2] 28) = W2 at *
      refine bodyPost_ret (by simp [results, Try.results53, go_sem, k0', k1', k2']; try rfl) rfl ?_
      exact ⟨by rw [HRES.out] <;> try rfl, hbn2⟩
  · have hb : (errPP ps p != 0) = true := by simp [h0]
    have hres : apartOf ps p = ((0, 0, 0), errPP ps p) := by rw [apartOf, if_pos h0]
    have HRES := Lib.hid hres
    clear hres h0
    go_enter Try.func53, Try.ntmps53
    go_wp2_with (go_at_call 120; refine C1.out.mono ?_; rintro e w1 ⟨rfl, hb1⟩; obtain ⟨hcc, hf⟩ := bcell hb1; have hz0 : w.heap.size + 1 < w1.heap.size := (by have := hb1.size; simp at this; omega))
    obtain ⟨k0, k1, k2⟩ := cells3 (w := w1) (B := w.heap.size + 1) (.int .i64 0) (.int .i64 0) (.int .i64 0) (((hcc _ _ (by simp)).trans (by simp; rfl))) (((hcc _ _ (by simp)).trans (by simp; rfl))) (((hcc _ _ (by simp)).trans (by simp; rfl)))
    generalize hW : (((w1.setCell ⟨w.heap.size + 1, 0, none⟩ (.int .i64 0)).setCell ⟨w.heap.size + 1, 1, none⟩ (.int .i64 0)).setCell ⟨w.heap.size + 1, 2, none⟩ (.int .i64 0)) = W at *
    refine bodyPost_ret (by simp [results, Try.results53, go_sem, k0, k1, k2]; try rfl) rfl ?_
    exact ⟨by rw [HRES.out] <;> try rfl, by rw [← hW]; exact ((((al0 HB0.out hb1 (by simp <;> omega)).setCell (Nat.le_succ _) _).setCell (Nat.le_succ _) _).setCell (Nat.le_succ _) _)⟩
end Go.Proofs.Ytcalipoknbbaaaa
