/- Chapter 7's law, the walks: weak. -/
import Derived.Test.YtffblmhaoekkgaaPrpT
namespace Go.Proofs.Ytffblmhaoekkgaa.prp
open Go.RowKit
set_option linter.unusedSimpArgs false
set_option linter.unusedVariables false

/-- a variable that is written -/
def Cell1 (W : World) (B : Nat) (a : Value) : Prop := B < W.heap.size ∧ W.cell? ⟨B, 0, none⟩ = some a ∧ W.frozen? ⟨B, 0, none⟩ = false
theorem Cell1.below {W W' : World} {B : Nat} {a : Value} (h : Cell1 W B a) {N : Nat} (hN : B < N) (hb : Below N W W') : Cell1 W' B a :=
  ⟨Nat.lt_of_lt_of_le h.1 hb.size, (hb.cell (p := ⟨B, 0, none⟩) hN).trans h.2.1, (hb.frozen (p := ⟨B, 0, none⟩) hN).trans h.2.2⟩
theorem Cell1.set {W : World} {B : Nat} {a : Value} (h : Cell1 W B a) (x : Value) : Cell1 (W.setCell ⟨B, 0, none⟩ x) B x := by
  obtain ⟨h0, h1, h2⟩ := h
  refine ⟨by simp only [World.size_setCell]; exact h0, ?_, ?_⟩
  · rw [World.cell?_setCell_same (h := h1)]
  · simpa using h2
theorem Cell1.new (w : World) (B : Nat) (hB : w.heap.size = B) (a : Value) (t : TypeId) : Cell1 (w.alloc (.cells #[a] t)) B a := by
  subst hB
  exact ⟨by simp, by simp, by simp⟩
/-- a variable that holds a list of stones, and one that holds a number -/
def SliceAt (W : World) (B : Nat) (v : Value) : Prop := B < W.heap.size ∧ W.cell? ⟨B, 0, none⟩ = some v
theorem SliceAt.below {W W' : World} {B : Nat} {v : Value} (h : SliceAt W B v) {N : Nat} (hN : B < N) (hb : Below N W W') : SliceAt W' B v :=
  ⟨Nat.lt_of_lt_of_le h.1 hb.size, (hb.cell (p := ⟨B, 0, none⟩) hN).trans h.2⟩

set_option maxRecDepth 100000 in
set_option maxHeartbeats 4000000 in
theorem weak1_any (q : Option Addr) (cap : Nat) (l : List Sn) (q2 : Option Addr) (c2 : Nat) (ws : List Int) (lv : Nat) (mb : Bool) (B1 B2 B3 : Nat) (w : World) (hr : RowV w q (flatS l)) (hr2 : RowV w q2 (flatI ws)) (hl : l.length ≤ 5) (hok : ∀ s ∈ l, okS s) (hb : Bnd l ws) (hlv : lv < l.length)
    (h1 : SliceAt w B1 (.slice q l.length cap)) (h2 : SliceAt w B2 (.int .i64 lv)) (h3 : Cell1 w B3 (.bool mb)) :
    Calls Try.prog 52 #[.slice q2 l.length c2, .pointer (some ⟨B1, 0, none⟩), .pointer (some ⟨B2, 0, none⟩), .pointer (some ⟨B3, 0, none⟩)] w fun e w' => e = .returned (.tuple #[]) ∧ Cell1 w' B3 (.bool (mb || tipC l lv ws)) ∧ Below B3 w w' := by
  obtain ⟨h11, h12⟩ := h1
  obtain ⟨h21, h22⟩ := h2
  have hcm := moments_any q cap l q2 c2 ws lv w hr hr2 hl hok hb.1 (hb.small hok) hlv
  rw [hb.1] at hcm
  have hT : tipC l lv ws = (decide (0 < (momsOf l ws lv).1) || decide (0 < (momsOf l ws lv).2)) := rfl
  rw [hT]
  generalize (momsOf l ws lv).1 = R at *
  generalize (momsOf l ws lv).2 = L at *
  have HCM := Lib.hid hcm
  have H3 := Lib.hid h3
  have h31 := h3.1
  clear hcm h3 hT hok hb hr hr2
  obtain ⟨rb, hrb⟩ : ∃ rb : Bool, (mb || (decide (0 < R) || decide (0 < L))) = rb := ⟨_, rfl⟩
  rw [hrb]
  have HRB := Lib.hid hrb
  clear hrb
  go_enter Try.func52, Try.ntmps52
  go_upto_region 1 with (go_at_call 18; refine HCM.out.mono ?_; rintro e w1 ⟨rfl, hb1⟩)
  have H31 := Lib.hid (H3.out.below h31 hb1)
  have hB3 := Lib.hid (hb1.mono (Nat.le_of_lt h31))
  obtain ⟨k0, k1, k2⟩ := H31.out
  clear hb1
  have key : ∀ v : Bool, v = rb → Cell1 (w1.setCell ⟨B3, 0, none⟩ (.bool v)) B3 (.bool rb) ∧ Below B3 w (w1.setCell ⟨B3, 0, none⟩ (.bool v)) := fun v hv => by
    subst hv
    exact ⟨H31.out.set _, hB3.out.setCell (p := ⟨B3, 0, none⟩) (Nat.le_refl _) _⟩
  have HK := Lib.hid key
  clear key
  cases mb
  · by_cases hR : 0 < R
    · go_wp2
      refine bodyPost_end (results_none rfl _ _ _) rfl ?_
      exact ⟨rfl, HK.out true (by rw [← HRB.out]; simp [hR])⟩
    · by_cases hL : 0 < L
      · go_wp2
        refine bodyPost_end (results_none rfl _ _ _) rfl ?_
        exact ⟨rfl, HK.out true (by rw [← HRB.out]; simp [hL])⟩
      · go_wp2
        refine bodyPost_end (results_none rfl _ _ _) rfl ?_
        exact ⟨rfl, HK.out false (by rw [← HRB.out]; simp [hR, hL])⟩
  · go_wp2
    refine bodyPost_end (results_none rfl _ _ _) rfl ?_
    exact ⟨rfl, HK.out true (by rw [← HRB.out]; simp)⟩

/-- the lowest level that a corner tips -/
def weakS (l : List Sn) : Int := firstIdx (mayTipS l) (List.range l.length)
set_option maxRecDepth 100000 in
set_option maxHeartbeats 4000000 in
theorem weak_any (q : Option Addr) (cap : Nat) (l : List Sn) (w : World) (hr : RowV w q (flatS l)) (hqw : ∀ a, q = some a → a.block < w.heap.size) (hl : l.length ≤ 5) (hok : ∀ s ∈ l, okS s) :
    Calls Try.prog 13 #[.slice q l.length cap] w fun e w' => e = .returned (.int .i64 (weakS l)) ∧ Below w.heap.size w w' := by
  have HOK := Lib.hid hok
  have HQW := Lib.hid hqw
  clear hok hqw
  have hb0 : Below w.heap.size w (w.alloc (.cells #[.slice q l.length cap] 27)) := (Below.refl _ _).alloc (Nat.le_refl _) _
  have hs0 : SliceAt (w.alloc (.cells #[.slice q l.length cap] 27)) w.heap.size (.slice q l.length cap) := ⟨by simp, by simp⟩
  have hz0 : (w.alloc (.cells #[.slice q l.length cap] 27)).heap.size = w.heap.size + 1 := by simp
  go_enter Try.func13, Try.ntmps13
  go_upto_region 1 with fail
  generalize (w.alloc (.cells #[.slice q l.length cap] 27)) = W0 at *
  have hr0 := hr.below (Nat.le_refl _) hb0
  have HR0 := Lib.hid hr0
  have HB0 := Lib.hid hb0
  have HS0 := Lib.hid hs0
  have hc0 := hs0.2
  clear hr hr0 hb0 hs0
  go_wp2
  go_loopw [7] (fun i wr => ∃ k : Nat, k ≤ l.length ∧ i = .int .i64 k ∧ AllNo (mayTipS l) (List.range l.length) k ∧ Below W0.heap.size W0 wr) (fun i _ => l.length - (intOf i).toNat)
  case atStart => exact ⟨0, Nat.zero_le _, rfl, AllNo.zero _ _, Below.refl _ _⟩
  case round =>
    obtain ⟨k, hk, rfl, hall, hbel⟩ := hrel
    by_cases hlt : k < l.length
    · have hsz := hbel.size
      have hst := hall.step (by rw [List.length_range]; exact hlt) 0
      have hgd : (List.range l.length).getD k 0 = k := by simp [hlt]
      rw [hgd] at hst
      have HST := Lib.hid hst
      have HBL := Lib.hid hbel
      have hc1 := (hbel.cell (p := ⟨w.heap.size, 0, none⟩) (show w.heap.size < W0.heap.size by omega)).trans hc0
      clear hst hgd hall hbel
      go_upto_region 5 with fail
      have A0 : Below wr.heap.size wr (wr.alloc (.cells #[.int .i64 k] 3)) := (Below.refl _ _).alloc (Nat.le_refl _) _
      have s2 : SliceAt (wr.alloc (.cells #[.int .i64 k] 3)) wr.heap.size (.int .i64 k) := ⟨by simp, by simp⟩
      have z2 : (wr.alloc (.cells #[.int .i64 k] 3)).heap.size = wr.heap.size + 1 := by simp
      generalize (wr.alloc (.cells #[.int .i64 k] 3)) = W1 at *
      have A1 : Below W1.heap.size W1 (W1.alloc (.cells #[.bool false] 4)) := (Below.refl _ _).alloc (Nat.le_refl _) _
      have s3 := Cell1.new W1 (wr.heap.size + 1) z2 (.bool false) 4
      have z3 : (W1.alloc (.cells #[.bool false] 4)).heap.size = wr.heap.size + 2 := by simp; omega
      rw [z2] at A1
      generalize (W1.alloc (.cells #[.bool false] 4)) = W2 at *
      have hb2 : Below wr.heap.size wr W2 := A0.trans (A1.mono (by omega))
      have t1 : SliceAt W2 w.heap.size (.slice q l.length cap) := SliceAt.below (N := wr.heap.size) ⟨show w.heap.size < wr.heap.size by omega, hc1⟩ (by omega) hb2
      have t2 := s2.below (N := wr.heap.size + 1) (by omega) A1
      have rowK := (HR0.out.below (Nat.le_refl _) HBL.out).below (Nat.le_refl _) hb2
      have HC := Lib.hid (corners_gen 52 #[.pointer (some ⟨w.heap.size, 0, none⟩), .pointer (some ⟨wr.heap.size, 0, none⟩), .pointer (some ⟨wr.heap.size + 1, 0, none⟩)] (fun args w => rfl) q cap l (wr.heap.size + 1) W2
        (fun j W => Cell1 W (wr.heap.size + 1) (.bool (tipTo l k j))) rowK hl (fun a ha => by have := HQW.out a ha; omega) (by omega) s3
        (fun j W W' hJ hB => hJ.below hJ.1 hB)
        (fun j W q2 c2 hj hJ hB hr2 => weak1_any q cap l q2 c2 (cornS l j) k (tipTo l k j) w.heap.size wr.heap.size (wr.heap.size + 1) W (rowK.keep (N := wr.heap.size + 1) (fun a ha => by have := HQW.out a ha; omega) hB) hr2 hl HOK.out (cornS_bnd HOK.out j) hlt
          (t1.below (N := wr.heap.size + 1) (by omega) hB) (t2.below (N := wr.heap.size + 1) (by omega) hB) hJ))
      have HB2 := Lib.hid hb2
      have hcc := t1.2
      have hk2 := t2.2
      have hks := t2.1
      clear A0 A1 s2 s3 t1 t2 rowK hb2
      go_upto_region 6 with (go_at_call 21; refine HC.out.mono ?_; rintro e W3 ⟨rfl, hJ, hB3⟩)
      rw [tip_all HOK.out hlt] at hJ
      have hl2 := (hB3.cell (p := ⟨wr.heap.size, 0, none⟩) (show wr.heap.size < wr.heap.size + 1 by omega)).trans hk2
      have hbt := HBL.out.trans ((HB2.out.mono hsz).trans (hB3.mono (by omega)))
      obtain ⟨_, hjc, _⟩ := hJ
      obtain ⟨bt, hbv⟩ : ∃ b : Bool, mayTipS l k = b := ⟨_, rfl⟩
      rw [hbv] at hjc
      have HBV := Lib.hid hbv
      have HBT := Lib.hid hbt
      clear hbv hbt hB3
      cases bt
      · go_wp2
        go_roundw
        case rel => exact ⟨k + 1, hlt, by go_num, HST.out.1 HBV.out, HBT.out⟩
        case measure => simp [intOf]; omega
      · go_wp2
        go_ret
        exact ⟨ret_int (HST.out.2 HBV.out).symm, HB0.out.trans (HBT.out.mono (by omega))⟩
    · obtain rfl : k = l.length := by omega
      have he : firstIdx (mayTipS l) (List.range l.length) = -1 := AllNo.all (by rw [List.length_range]; exact hall)
      have HE := Lib.hid he
      clear he hall
      go_wp2
      go_ret
      exact ⟨ret_int HE.out.symm, HB0.out.trans (hbel.mono (by omega))⟩
end Go.Proofs.Ytffblmhaoekkgaa.prp
