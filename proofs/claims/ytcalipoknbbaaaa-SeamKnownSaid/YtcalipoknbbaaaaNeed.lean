/- Needless (package seam). -/
import Derived.Test.YtcalipoknbbaaaaProv
namespace Go.Proofs.Ytcalipoknbbaaaa
open Go.RowKit

/-- the needless galleries among the first k -/
def needTo (n : Nat) (gs : List Gl) (k : Nat) : List Int := ((List.range k).filter fun i : Nat => (cnt n (sel false [(i : Int)] gs) : Int) == (cnt n gs : Int)).map fun i : Nat => (i : Int)
theorem needTo_zero (n : Nat) (gs : List Gl) : needTo n gs 0 = [] := rfl
theorem needTo_succ (n : Nat) (gs : List Gl) (k : Nat) : needTo n gs (k + 1) = needTo n gs k ++ (if (cnt n (sel false [(k : Int)] gs) : Int) == (cnt n gs : Int) then [(k : Int)] else []) := by
  unfold needTo
  rw [List.range_succ, List.filter_append, List.map_append]
  congr 1
  simp only [List.filter_cons, List.filter_nil]
  split <;> rfl
theorem needTo_le (n : Nat) (gs : List Gl) (k : Nat) : (needTo n gs k).length ≤ k := by
  unfold needTo
  rw [List.length_map]
  refine Nat.le_trans (List.length_filter_le _ _) ?_
  simp

/-- what Needless returns -/
def needlessOf (n : Int) (gs : List Gl) : List Int × Int := if errH n gs ≠ 0 then ([], errH n gs) else (needTo n.toNat gs gs.length, 0)

set_option maxRecDepth 100000 in
set_option maxHeartbeats 1000000 in
theorem Needless_any (n : Int) (q : Option Addr) (cap : Nat) (gs : List Gl) (w : World) (hr : RowG w q gs) :
    Calls Try.prog 44 #[.agg #[.int .i64 n, .slice q gs.length cap]] w (ListErr w (needlessOf n gs)) := by
  have hb0 : Below w.heap.size w (w.alloc (.cells #[.int .i64 n, .slice q gs.length cap] 24)) := (Below.refl _ _).alloc (Nat.le_refl _) _
  have hr' := hr.below (Nat.le_refl _) hb0
  have hB : HillAt (w.alloc (.cells #[.int .i64 n, .slice q gs.length cap] 24)) w.heap.size n (.slice q gs.length cap) := ⟨by simp, by simp, by simp⟩
  have c1 := check_any n q cap gs _ hr'
  have C1 := Lib.hid c1
  have HR := Lib.hid hr'
  have HBX := Lib.hid hB
  have HB0 := Lib.hid hb0
  clear c1 hr' hB hb0
  by_cases h0 : errH n gs = 0
  · obtain ⟨o1, o2, o3, o4⟩ := errH_ok h0
    have hb : (errH n gs != 0) = false := by simp [h0]
    obtain ⟨m, rfl⟩ := Int.eq_ofNat_of_zero_le (show 0 ≤ n by omega)
    have hgs := okGs_of o4
    have hm : m ≤ 7 := by omega
    have hres : needlessOf m gs = (needTo m gs gs.length, 0) := by rw [needlessOf, if_neg (by simp [h0]), Int.toNat_natCast]
    have HRES := Lib.hid hres
    have c2 := fun W (h : RowG W q gs) => count_any m q cap gs W (by omega) hgs h (by omega)
    have C2 := Lib.hid c2
    clear hres h0 o4 o1 o2 c2
    go_enter Try.func44, Try.ntmps44
    go_wp2_with (first
      | (go_at_call 32; refine C1.out.mono ?_; rintro e w0 ⟨rfl, hb1⟩; have S1 := HBX.out.below (Nat.le_refl _) hb1; obtain ⟨z1, a1, a2⟩ := S1; have HR0 := Lib.hid (HR.out.below (Nat.le_refl _) hb1))
      | (go_at_call 103; refine (C2.out _ HR0.out).mono ?_; rintro e w1 ⟨rfl, hb2⟩; have S2 := (HBX.out.below (Nat.le_refl _) hb1).below (Nat.le_refl _) hb2; obtain ⟨z2, b1, b2⟩ := S2))
    have HX1 := Lib.hid ((HBX.out.below (Nat.le_refl _) hb1).below (Nat.le_refl _) hb2)
    have HR1 := Lib.hid (HR0.out.below (Nat.le_refl _) hb2)
    have HB1 := Lib.hid ((al0 HB0.out hb1 (by simp <;> omega)).trans (hb2.mono (by omega)))
    clear HBX HR C1 HB0 a1 a2 HR0 b1 b2 C2
    go_loopw [6, 23] (fun v i wr => ∃ k : Nat, k ≤ gs.length ∧ i = .int .i64 k ∧ wr.ownsRow w1.heap.size 3 1 v (needTo m gs k).length (flatI (needTo m gs k)) ∧ Below w1.heap.size w1 wr) (fun _ i _ => gs.length - (intOf i).toNat)
    case atStart => exact ⟨0, Nat.zero_le _, rfl, by rw [needTo_zero]; exact World.ownsRow_nil _ _ _ _, Below.refl _ _⟩
    case round =>
      obtain ⟨k, hk, rfl, hown, hbel⟩ := hrel
      have HO := Lib.hid hown
      clear hown
      by_cases hlt : k < gs.length
      · have S3 := HX1.out.below (Nat.le_refl _) hbel
        obtain ⟨z3, a1, a2⟩ := S3
        have hst := needTo_succ m gs k
        have hle := needTo_le m gs k
        have c3 := fun W q' c' (h : RowG W q' (sel false [(k : Int)] gs)) => count_any m q' c' (sel false [(k : Int)] gs) W (by omega) (fun g hg => hgs g (sel_mem _ _ _ g hg)) h (by have := sel_length false [(k : Int)] gs; omega)
        have c2 := splitG_any q (some ⟨wr.heap.size, 0, none⟩) cap 1 gs [(k : Int)] (wr.alloc (.cells #[.int .i64 k] 3)) ((HR1.out.below (Nat.le_refl _) hbel).below (Nat.le_refl _) ((Below.refl _ _).alloc (Nat.le_refl _) _)) (.inr ⟨wr.heap.size, 0, rfl, by simp, by intro i hi; have h0 : i = 0 := (by simpa using hi); subst h0; simp⟩) (by omega) (by simp)
        generalize hct : cnt m (sel false [(k : Int)] gs) = ct at c3 hst
        generalize hal : cnt m gs = al at hst ⊢
        have C3 := Lib.hid c3
        have C2 := Lib.hid c2
        have HS := Lib.hid hst
        have hw1 := hbel.size
        clear c3 c2 hst hct hal
        go_wp2_with (first
          | (go_at_call 112; refine C2.out.mono ?_; rintro e w2 ⟨q1, d1, q2, d2, rfl, _, r2, hb3⟩; have S4 := (HX1.out.below (Nat.le_refl _) hbel).below (Nat.le_refl _) (al0 ((Below.refl _ _).alloc (Nat.le_refl _) _) hb3 (by simp <;> omega)); obtain ⟨z4, b1, b2⟩ := S4)
          | (go_at_call 103; refine (C3.out _ _ _ r2).mono ?_; rintro e w3 ⟨rfl, hb4⟩; have hb5 := (al0 ((Below.refl wr.heap.size wr).alloc (Nat.le_refl _) (.cells #[.int .i64 k] 3)) hb3 (by simp <;> omega)).trans (hb4.mono (by have := hb3.size; simp at this; omega)); have HO3 := Lib.hid (owns_below HO.out (Nat.le_refl _) hb5); have hz5 := hb5.size)
          | (at_builtin; refine app_int _ rfl (.tmp 40) (.tmp 42) rfl w1.heap.size _ (needTo m gs k) (k : Int) rfl (HO3.out.alloc _) w3.heap.size 1 rfl (by simp) (by omega) (by simp; omega) ?_; intro v' w4 hown4 hgrow hblk))
        · have hy : ((ct : Int) == (al : Int)) = true := by assumption
          have e1 := HS.out
          rw [if_pos hy] at e1
          have hb6 := grown_below (HO3.out.alloc (.cells #[.int .i64 k] 3)) (by simp; omega) hgrow
          have hbn := ((hbel.trans (hb5.mono hw1)).alloc (by omega) (.cells #[.int .i64 k] 3)).trans hb6
          go_roundw
          case rel => exact ⟨k + 1, hlt, by go_num, by rw [e1]; exact hown4, hbn⟩
          case measure => simp [intOf]; omega
        · have hy : ((ct : Int) == (al : Int)) = false := by assumption
          have e1 := HS.out
          rw [if_neg (by simp [hy]), List.append_nil] at e1
          go_roundw
          case rel => exact ⟨k + 1, hlt, by go_num, by rw [e1]; exact HO3.out, hbel.trans (hb5.mono hw1)⟩
          case measure => simp [intOf]; omega
      · obtain rfl : k = gs.length := by omega
        obtain ⟨q1, cc, rfl, r1⟩ := rowI_of_owns HO.out
        go_wp2
        go_ret2
        exact ⟨q1, cc, by rw [HRES.out]; rfl, by rw [HRES.out]; exact r1, HB1.out.trans (hbel.mono (by omega))⟩
  · have hb : (errH n gs != 0) = true := by simp [h0]
    have hres : needlessOf n gs = ([], errH n gs) := by rw [needlessOf, if_pos h0]
    have HRES := Lib.hid hres
    clear hres h0
    go_enter Try.func44, Try.ntmps44
    go_wp2_with (go_at_call 32; refine C1.out.mono ?_; rintro e w1 ⟨rfl, hb1⟩)
    go_ret2
    exact ⟨none, 0, by rw [HRES.out]; rfl, by rw [HRES.out]; exact .inl rfl, al0 HB0.out hb1 (by simp <;> omega)⟩
end Go.Proofs.Ytcalipoknbbaaaa
