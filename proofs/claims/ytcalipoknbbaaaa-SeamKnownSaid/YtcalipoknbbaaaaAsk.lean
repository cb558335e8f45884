/- Ask, Proves and Needless (package seam). -/
import Derived.Test.YtcalipoknbbaaaaReg
namespace Go.Proofs.Ytcalipoknbbaaaa
open Go.RowKit

theorem cnt_le {n : Nat} (gs : List Gl) (hn : n ≤ 7) : cnt n gs ≤ 49 := by
  have h1 := cntTo_le n gs n 0
  rw [cntTo_all] at h1
  have h2 := Nat.mul_le_mul hn hn
  omega
theorem lossOf_le {n : Nat} (gs : List Gl) (g : Gl) (hn : n ≤ 7) : lossOf n gs g ≤ 49 := cnt_le _ hn

/-- the greater of what is lost and what is left -/
def worse (n : Nat) (gs : List Gl) (g : Gl) : Int := max (lossOf n gs g : Int) ((cnt n gs : Int) - (lossOf n gs g : Int))
/-- the best of the first galleries, and its worse answer -/
def askTo (n : Nat) (gs os : List Gl) : Nat → Int × Int
  | 0 => (0, 9223372036854775807)
  | k + 1 => if worse n gs (os.getD k (0, 0, 0)) < (askTo n gs os k).2 then ((k : Int), worse n gs (os.getD k (0, 0, 0))) else askTo n gs os k
/-- what Ask returns -/
def askOf (n : Int) (gs os : List Gl) : Int × Int :=
  if errH n gs ≠ 0 then (0, errH n gs) else if os.length = 0 then (0, 4) else if errGs os ≠ 0 then (0, errGs os) else ((askTo n.toNat gs os os.length).1, 0)

set_option maxRecDepth 100000 in
set_option maxHeartbeats 1000000 in
theorem Ask_any (n : Int) (q q2 : Option Addr) (cap cap2 : Nat) (gs os : List Gl) (w : World) (hr : RowG w q gs) (hq : q = none → cap = 0) (hr2 : RowG w q2 os) (hl : os.length ≤ 1000000) :
    Calls Try.prog 41 #[.agg #[.int .i64 n, .slice q gs.length cap], .slice q2 os.length cap2] w fun e w' => e = .returned (.tuple #[.int .i64 (askOf n gs os).1, .int .i64 (askOf n gs os).2]) ∧ Below w.heap.size w w' := by
  have hb0 : Below w.heap.size w (w.alloc (.cells #[.int .i64 n, .slice q gs.length cap] 24)) := (Below.refl _ _).alloc (Nat.le_refl _) _
  have hr' := hr.below (Nat.le_refl _) hb0
  have hr2' := hr2.below (Nat.le_refl _) hb0
  have hB : HillAt (w.alloc (.cells #[.int .i64 n, .slice q gs.length cap] 24)) w.heap.size n (.slice q gs.length cap) := ⟨by simp, by simp, by simp⟩
  have c1 := check_any n q cap gs _ hr'
  have C1 := Lib.hid c1
  have HR := Lib.hid hr'
  have HR2 := Lib.hid hr2'
  have HBX := Lib.hid hB
  have HB0 := Lib.hid hb0
  clear c1 hr' hr2' hB hb0
  by_cases h0 : errH n gs = 0
  · obtain ⟨o1, o2, o3, o4⟩ := errH_ok h0
    have hb : (errH n gs != 0) = false := by simp [h0]
    obtain ⟨m, rfl⟩ := Int.eq_ofNat_of_zero_le (show 0 ≤ n by omega)
    have hgs := okGs_of o4
    have hm : m ≤ 7 := by omega
    by_cases h1 : os.length = 0
    · have hres : askOf m gs os = (0, 4) := by rw [askOf, if_neg (by simp [h0]), if_pos h1]
      have HRES := Lib.hid hres
      clear hres h0 o4 o1 o2
      have h1' : ((os.length : Int) == 0) = true := by simp [h1]
      go_enter Try.func41, Try.ntmps41
      go_wp2_with (go_at_call 32; refine C1.out.mono ?_; rintro e w1 ⟨rfl, hb1⟩)
      go_ret2
      exact ⟨by rw [HRES.out]; rfl, al0 HB0.out hb1 (by simp <;> omega)⟩
    · have h1' : ((os.length : Int) == 0) = false := by simpa using h1
      by_cases h2 : errGs os = 0
      · have hb2 : (errGs os != 0) = false := by simp [h2]
        have hres : askOf m gs os = ((askTo m gs os os.length).1, 0) := by rw [askOf, if_neg (by simp [h0]), if_neg h1, if_neg (by simp [h2]), Int.toNat_natCast]
        have HRES := Lib.hid hres
        have hos : ∀ g ∈ os, errG g = 0 := by
          unfold errGs at h2
          split at h2
          · simp at h2
          · exact (errL_zero os).1 h2
        have hct := cnt_le gs hm
        obtain ⟨ct, hcte⟩ : ∃ ct, cnt m gs = ct := ⟨_, rfl⟩
        have c3 := fun W (h : RowG W q gs) => count_any m q cap gs W (by omega) hgs h (by omega)
        rw [hcte] at c3 hct
        have C3 := Lib.hid c3
        have HCT := Lib.hid hcte
        clear hres h0 o4 o1 o2 h1 h2 c3 hcte
        go_enter Try.func41, Try.ntmps41
        go_wp2_with (first
          | (go_at_call 32; refine C1.out.mono ?_; rintro e w1 ⟨rfl, hb1⟩; have S1 := HBX.out.below (Nat.le_refl _) hb1; obtain ⟨z1, a1, a2⟩ := S1; have HR1 := Lib.hid (HR.out.below (Nat.le_refl _) hb1); have HR12 := Lib.hid (HR2.out.below (Nat.le_refl _) hb1))
          | (go_at_call 106; refine (checkGs_any q2 cap2 os _ HR12.out).mono ?_; rintro e w2 ⟨rfl, hb2'⟩; have S2 := (HBX.out.below (Nat.le_refl _) hb1).below (Nat.le_refl _) hb2'; obtain ⟨z2, b1, b2⟩ := S2; have HR21 := Lib.hid (HR1.out.below (Nat.le_refl _) hb2'); have HR22 := Lib.hid (HR12.out.below (Nat.le_refl _) hb2'))
          | (go_at_call 103; refine (C3.out _ HR21.out).mono ?_; rintro e w3 ⟨rfl, hb3⟩))
        have HX3 := Lib.hid (((HBX.out.below (Nat.le_refl _) hb1).below (Nat.le_refl _) hb2').below (Nat.le_refl _) hb3)
        have HR31 := Lib.hid (HR21.out.below (Nat.le_refl _) hb3)
        have HR32 := Lib.hid (HR22.out.below (Nat.le_refl _) hb3)
        have HB3 := Lib.hid (((al0 HB0.out hb1 (by simp <;> omega)).trans (hb2'.mono (by omega))).trans (hb3.mono (by omega)))
        clear a1 a2 b1 b2
        go_loopw [9, 10, 35] (fun b l i wr => ∃ k : Nat, k ≤ os.length ∧ i = .int .i64 k ∧ b = .int .i64 (askTo m gs os k).1 ∧ l = .int .i64 (askTo m gs os k).2 ∧ Below w3.heap.size w3 wr) (fun _ _ i _ => os.length - (intOf i).toNat)
        case atStart => exact ⟨0, Nat.zero_le _, rfl, rfl, rfl, Below.refl _ _⟩
        case round =>
          obtain ⟨k, hk, rfl, rfl, rfl, hbel⟩ := hrel
          by_cases hlt : k < os.length
          · obtain ⟨b, off, rfl, hbz, g1, g2, g3⟩ := HR32.out.at hlt (Nat.le_refl _) hbel
            have hst := askTo.eq_2 m gs os k
            have S4 := HX3.out.below (Nat.le_refl _) hbel
            obtain ⟨z4, a1, a2⟩ := S4
            have hge := hos _ (getD_mem os k (0, 0, 0) hlt)
            generalize os.getD k (0, 0, 0) = g at g1 g2 g3 hst hge
            obtain ⟨e1, e2⟩ := errG_ok hge
            have hls := lossOf_le gs g hm
            have hba : Below wr.heap.size wr (wr.alloc (.cells #[.int .i64 g.1, .int .i64 g.2.1, .int .i64 g.2.2] 28)) := (Below.refl _ _).alloc (Nat.le_refl _) _
            have c5 := loss_any m q cap gs g (wr.alloc (.cells #[.int .i64 g.1, .int .i64 g.2.1, .int .i64 g.2.2] 28)) (by omega) ((HR31.out.below (Nat.le_refl _) hbel).below (Nat.le_refl _) hba) hq hgs e1 e2 (by omega)
            unfold worse at hst
            rw [HCT.out] at hst
            generalize lossOf m gs g = ls at hls hst c5
            have hmx : max (ls : Int) ((ct : Int) - ls) = if (ls : Int) < (ct : Int) - ls then (ct : Int) - ls else ls := by rw [Int.max_def]; split <;> split <;> omega
            rw [hmx] at hst
            have C5 := Lib.hid c5
            have HS := Lib.hid hst
            have HBA := Lib.hid hba
            clear c5 hst hba hge hmx
            go_wp2_with (go_at_call 105; refine C5.out.mono ?_; rintro e w4 ⟨rfl, hb4⟩)
            · have hy : (if (ls : Int) < (ct : Int) - ls then (ct : Int) - ls else ls) < (askTo m gs os k).2 := by assumption
              have e3 := HS.out.trans (if_pos hy)
              go_roundw
              case rel => exact ⟨k + 1, hlt, by go_num, by rw [e3], by rw [e3], hbel.trans ((al0 HBA.out hb4 (by simp <;> omega)).mono hbel.size)⟩
              case measure => simp [intOf]; omega
            · have hy : (askTo m gs os k).2 ≤ (if (ls : Int) < (ct : Int) - ls then (ct : Int) - ls else ls) := by assumption
              have e3 := HS.out.trans (if_neg (by omega))
              go_roundw
              case rel => exact ⟨k + 1, hlt, by go_num, by rw [e3], by rw [e3], hbel.trans ((al0 HBA.out hb4 (by simp <;> omega)).mono hbel.size)⟩
              case measure => simp [intOf]; omega
          · obtain rfl : k = os.length := by omega
            go_wp2
            go_ret2
            exact ⟨by rw [HRES.out]; rfl, HB3.out.trans (hbel.mono (by have := hb1.size; have := hb2'.size; have := hb3.size; simp at *; omega))⟩
      · have hb2 : (errGs os != 0) = true := by simp [h2]
        have hres : askOf m gs os = (0, errGs os) := by rw [askOf, if_neg (by simp [h0]), if_neg h1, if_pos h2]
        have HRES := Lib.hid hres
        clear hres h0 o4 o1 o2 h2
        go_enter Try.func41, Try.ntmps41
        go_wp2_with (first
          | (go_at_call 32; refine C1.out.mono ?_; rintro e w1 ⟨rfl, hb1⟩; have HR12 := Lib.hid (HR2.out.below (Nat.le_refl _) hb1))
          | (go_at_call 106; refine (checkGs_any q2 cap2 os _ HR12.out).mono ?_; rintro e w2 ⟨rfl, hb2'⟩))
        go_ret2
        exact ⟨by rw [HRES.out]; rfl, (al0 HB0.out hb1 (by simp <;> omega)).trans (hb2'.mono (by have := hb1.size; simp at *; omega))⟩
  · have hb : (errH n gs != 0) = true := by simp [h0]
    have hres : askOf n gs os = (0, errH n gs) := by rw [askOf, if_pos h0]
    have HRES := Lib.hid hres
    clear hres h0
    go_enter Try.func41, Try.ntmps41
    go_wp2_with (go_at_call 32; refine C1.out.mono ?_; rintro e w1 ⟨rfl, hb1⟩)
    go_ret2
    exact ⟨by rw [HRES.out]; rfl, al0 HB0.out hb1 (by simp <;> omega)⟩
end Go.Proofs.Ytcalipoknbbaaaa
