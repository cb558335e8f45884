/- Proves (package seam). -/
import Derived.Test.YtcalipoknbbaaaaAsk
namespace Go.Proofs.Ytcalipoknbbaaaa
open Go.RowKit

/-- the error of a list of galleries' numbers -/
def ordErr (m : Nat) : Int → List Int → Int
  | _, [] => 0
  | b, i :: r => if i < 0 ∨ (m : Int) ≤ i then 2 else if i ≤ b then 7 else ordErr m i r

/-- what Proves returns -/
def provesOf (n : Int) (gs : List Gl) (is : List Int) : Int :=
  if errH n gs ≠ 0 then errH n gs else if ordErr gs.length (-1) is ≠ 0 then ordErr gs.length (-1) is else if 0 < cnt n.toNat (sel true is gs) then 14 else 0

set_option maxRecDepth 100000 in
set_option maxHeartbeats 1000000 in
theorem Proves_any (n : Int) (q qi : Option Addr) (cap capi : Nat) (gs : List Gl) (is : List Int) (w : World) (hr : RowG w q gs) (hi : RowI w qi is) (hl : is.length ≤ 1000000) :
    Calls Try.prog 39 #[.agg #[.int .i64 n, .slice q gs.length cap], .slice qi is.length capi] w fun e w' => e = .returned (.int .i64 (provesOf n gs is)) ∧ Below w.heap.size w w' := by
  have hb0 : Below w.heap.size w (w.alloc (.cells #[.int .i64 n, .slice q gs.length cap] 24)) := (Below.refl _ _).alloc (Nat.le_refl _) _
  have hr' := hr.below (Nat.le_refl _) hb0
  have hi' := hi.below (Nat.le_refl _) hb0
  have hB : HillAt (w.alloc (.cells #[.int .i64 n, .slice q gs.length cap] 24)) w.heap.size n (.slice q gs.length cap) := ⟨by simp, by simp, by simp⟩
  have c1 := check_any n q cap gs _ hr'
  have C1 := Lib.hid c1
  have HR := Lib.hid hr'
  have HI := Lib.hid hi'
  have HBX := Lib.hid hB
  have HB0 := Lib.hid hb0
  clear c1 hr' hi' hB hb0
  by_cases h0 : errH n gs = 0
  · obtain ⟨o1, o2, o3, o4⟩ := errH_ok h0
    have hb : (errH n gs != 0) = false := by simp [h0]
    obtain ⟨m, rfl⟩ := Int.eq_ofNat_of_zero_le (show 0 ≤ n by omega)
    have hgs := okGs_of o4
    have hm : m ≤ 7 := by omega
    have hres : provesOf m gs is = if ordErr gs.length (-1) is ≠ 0 then ordErr gs.length (-1) is else if 0 < cnt m (sel true is gs) then 14 else 0 := by rw [provesOf, if_neg (by simp [h0]), Int.toNat_natCast]
    have HRES := Lib.hid hres
    clear hres h0 o4 o1 o2
    go_enter Try.func39, Try.ntmps39
    go_wp2_with (go_at_call 32; refine C1.out.mono ?_; rintro e w1 ⟨rfl, hb1⟩; have S1 := HBX.out.below (Nat.le_refl _) hb1; obtain ⟨z1, a1, a2⟩ := S1; have HR1 := Lib.hid (HR.out.below (Nat.le_refl _) hb1); have HI1 := Lib.hid (HI.out.below (Nat.le_refl _) hb1))
    have HB1 := Lib.hid (al0 HB0.out hb1 (by simp <;> omega))
    go_loopw [6, 18] (fun b i wr => ∃ (k : Nat) (x : Int), k ≤ is.length ∧ i = .int .i64 k ∧ b = .int .i64 x ∧ ordErr gs.length (-1) is = ordErr gs.length x (is.drop k) ∧ wr = w1) (fun _ i _ => is.length - (intOf i).toNat)
    case atStart => exact ⟨0, -1, Nat.zero_le _, rfl, rfl, rfl, rfl⟩
    case round =>
      obtain ⟨k, b, hk, rfl, rfl, hord, rfl⟩ := hrel
      by_cases hlt : k < is.length
      · obtain ⟨bb, off, rfl, hbz, g1⟩ := HI1.out.at hlt (Nat.le_refl _) (Below.refl _ _)
        rw [List.drop_eq_getElem_cons hlt, ← getD_eq is k 0 hlt, ordErr] at hord
        generalize is.getD k 0 = x at g1 hord
        by_cases hx : x < 0
        · rw [if_pos (.inl hx)] at hord
          have HO := Lib.hid hord
          clear hord
          go_wp2
          go_ret
          exact ⟨ret_int (by rw [HRES.out, HO.out]; rfl), HB1.out⟩
        · by_cases hx2 : (gs.length : Int) ≤ x
          · rw [if_pos (.inr hx2)] at hord
            have HO := Lib.hid hord
            clear hord
            go_wp2
            go_ret
            exact ⟨ret_int (by rw [HRES.out, HO.out]; rfl), HB1.out⟩
          · rw [if_neg (by omega)] at hord
            by_cases hx3 : x ≤ b
            · rw [if_pos hx3] at hord
              have HO := Lib.hid hord
              clear hord
              go_wp2
              go_ret
              exact ⟨ret_int (by rw [HRES.out, HO.out]; rfl), HB1.out⟩
            · rw [if_neg hx3] at hord
              have HO := Lib.hid hord
              clear hord
              go_wp2
              go_roundw
              case rel => exact ⟨k + 1, x, hlt, by go_num, rfl, HO.out, trivial⟩
              case measure => simp [intOf]; omega
      · obtain rfl : k = is.length := by omega
        rw [List.drop_length, ordErr] at hord
        have hres2 : provesOf m gs is = if 0 < cnt m (sel true is gs) then 14 else 0 := by rw [HRES.out, hord, if_neg (by simp)]
        have c3 := fun W q' c' (h : RowG W q' (sel true is gs)) => count_any m q' c' (sel true is gs) W (by omega) (fun g hg => hgs g (sel_mem _ _ _ g hg)) h (by have := sel_length true is gs; omega)
        generalize hct : cnt m (sel true is gs) = ct at c3 hres2
        have C3 := Lib.hid c3
        have HRES2 := Lib.hid hres2
        clear c3 hct hord hres2
        by_cases hpos : 0 < ct
        · go_wp2_with (first
            | (go_at_call 112; refine (splitG_any q qi cap capi gs is _ HR1.out HI1.out (by omega) hl).mono ?_; rintro e w2 ⟨q1, d1, q2, d2, rfl, r1, _, hb2⟩; have S2 := (HBX.out.below (Nat.le_refl _) hb1).below (Nat.le_refl _) hb2; obtain ⟨z2, b1, b2⟩ := S2)
            | (go_at_call 103; refine (C3.out _ _ _ r1).mono ?_; rintro e w3 ⟨rfl, hb3⟩))
          go_ret
          exact ⟨ret_int (by rw [HRES2.out, if_pos hpos]), (HB1.out.trans (hb2.mono (by omega))).trans (hb3.mono (by have := hb2.size; omega))⟩
        · go_wp2_with (first
            | (go_at_call 112; refine (splitG_any q qi cap capi gs is _ HR1.out HI1.out (by omega) hl).mono ?_; rintro e w2 ⟨q1, d1, q2, d2, rfl, r1, _, hb2⟩; have S2 := (HBX.out.below (Nat.le_refl _) hb1).below (Nat.le_refl _) hb2; obtain ⟨z2, b1, b2⟩ := S2)
            | (go_at_call 103; refine (C3.out _ _ _ r1).mono ?_; rintro e w3 ⟨rfl, hb3⟩))
          go_ret
          exact ⟨ret_int (by rw [HRES2.out, if_neg hpos]), (HB1.out.trans (hb2.mono (by omega))).trans (hb3.mono (by have := hb2.size; omega))⟩
  · have hb : (errH n gs != 0) = true := by simp [h0]
    have hres : provesOf n gs is = errH n gs := by rw [provesOf, if_pos h0]
    have HRES := Lib.hid hres
    clear hres h0
    go_enter Try.func39, Try.ntmps39
    go_wp2_with (go_at_call 32; refine C1.out.mono ?_; rintro e w1 ⟨rfl, hb1⟩)
    go_ret
    exact ⟨ret_int (by rw [HRES.out]), al0 HB0.out hb1 (by simp <;> omega)⟩
end Go.Proofs.Ytcalipoknbbaaaa
