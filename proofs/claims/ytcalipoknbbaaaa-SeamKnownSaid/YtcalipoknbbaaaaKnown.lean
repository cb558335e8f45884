/- Loss and Known (package seam). -/
import Derived.Test.YtcalipoknbbaaaaConcat
namespace Go.Proofs.Ytcalipoknbbaaaa
open Go.RowKit

/-- what Loss returns -/
def lossR (n : Int) (gs : List Gl) (g : Gl) : Int × Int := if errH n gs ≠ 0 then (0, errH n gs) else if errG g ≠ 0 then (0, errG g) else (((lossOf n.toNat gs g : Nat) : Int), 0)

set_option maxHeartbeats 1000000 in
theorem Loss_any (n : Int) (q : Option Addr) (cap : Nat) (gs : List Gl) (g : Gl) (w : World) (hr : RowG w q gs) (hq : q = none → cap = 0) :
    Calls Try.prog 30 #[.agg #[.int .i64 n, .slice q gs.length cap], .agg #[.int .i64 g.1, .int .i64 g.2.1, .int .i64 g.2.2]] w fun e w' => e = .returned (.tuple #[.int .i64 (lossR n gs g).1, .int .i64 (lossR n gs g).2]) ∧ Below w.heap.size w w' := by
  have hb0 := below_two w (.cells #[.int .i64 n, .slice q gs.length cap] 24) (.cells #[.int .i64 g.1, .int .i64 g.2.1, .int .i64 g.2.2] 28)
  have hs0 : Boxes2 w.heap.size (.int .i64 n) (.slice q gs.length cap) (.int .i64 g.1) (.int .i64 g.2.1) (.int .i64 g.2.2) ((w.alloc (.cells #[.int .i64 n, .slice q gs.length cap] 24)).alloc (.cells #[.int .i64 g.1, .int .i64 g.2.1, .int .i64 g.2.2] 28)) := ⟨by simp, by simp, by simp, by simp, by simp, by simp⟩
  have hr' := hr.below (Nat.le_refl _) hb0
  have c1 := check_any n q cap gs _ hr'
  have C1 := Lib.hid c1
  have HR := Lib.hid hr'
  have HS := Lib.hid hs0
  have HB0 := Lib.hid hb0
  clear c1 hr' hs0 hb0
  by_cases h0 : errH n gs = 0
  · obtain ⟨o1, o2, o3, o4⟩ := errH_ok h0
    have hb : (errH n gs != 0) = false := by simp [h0]
    by_cases h1 : errG g = 0
    · have hb' : (errG g != 0) = false := by simp [h1]
      obtain ⟨m, rfl⟩ := Int.eq_ofNat_of_zero_le (show 0 ≤ n by omega)
      have hgs := okGs_of o4
      have hres : lossR m gs g = (((lossOf m gs g : Nat) : Int), 0) := by rw [lossR, if_neg (by simp [h0]), if_neg (by simp [h1]), Int.toNat_natCast]
      have HRES := Lib.hid hres
      have c2 := fun W (h : RowG W q gs) => loss_any m q cap gs g W (by omega) h hq hgs (errG_ok h1).1 (errG_ok h1).2 (by omega)
      have C2 := Lib.hid c2
      clear c2 hres h0 o4 h1 hgs
      go_enter Try.func30, Try.ntmps30
      go_wp2_with (first
        | (go_at_call 32; refine C1.out.mono ?_; rintro e w1 ⟨rfl, hb1⟩; have S1 := HS.out.below (Nat.le_refl _) hb1; obtain ⟨z1, a1, a2, a3, a4, a5⟩ := S1)
        | (go_at_call 100; refine (checkG_any g _).mono ?_; rintro e w2 ⟨rfl, hb2⟩; have S2 := (HS.out.below (Nat.le_refl _) hb1).below (Nat.le_refl _) hb2; obtain ⟨z2, b1, b2, b3, b4, b5⟩ := S2)
        | (go_at_call 105; refine (C2.out w2 ((HR.out.below (Nat.le_refl _) hb1).below (Nat.le_refl _) hb2)).mono ?_; rintro e w3 ⟨rfl, hb3⟩))
      go_ret2
      exact ⟨by rw [HRES.out]; rfl, ((al0 HB0.out hb1 (by simp; omega)).trans (hb2.mono (by omega))).trans (hb3.mono (by omega))⟩
    · have hb' : (errG g != 0) = true := by simp [h1]
      have hres : lossR n gs g = (0, errG g) := by rw [lossR, if_neg (by simp [h0]), if_pos h1]
      have HRES := Lib.hid hres
      clear hres h0 o4 h1
      go_enter Try.func30, Try.ntmps30
      go_wp2_with (first
        | (go_at_call 32; refine C1.out.mono ?_; rintro e w1 ⟨rfl, hb1⟩; have S1 := HS.out.below (Nat.le_refl _) hb1; obtain ⟨z1, a1, a2, a3, a4, a5⟩ := S1)
        | (go_at_call 100; refine (checkG_any g _).mono ?_; rintro e w2 ⟨rfl, hb2⟩))
      go_ret2
      exact ⟨by rw [HRES.out]; rfl, (al0 HB0.out hb1 (by simp; omega)).trans (hb2.mono (by omega))⟩
  · have hb : (errH n gs != 0) = true := by simp [h0]
    have hres : lossR n gs g = (0, errH n gs) := by rw [lossR, if_pos h0]
    have HRES := Lib.hid hres
    clear hres h0
    go_enter Try.func30, Try.ntmps30
    go_wp2_with (go_at_call 32; refine C1.out.mono ?_; rintro e w1 ⟨rfl, hb1⟩)
    go_ret2
    exact ⟨by rw [HRES.out]; rfl, al0 HB0.out hb1 (by simp; omega)⟩

/-- what Known returns -/
def knownR (n : Int) (gs : List Gl) (g : Gl) : Int × Int :=
  if (lossR n gs g).2 ≠ 0 then (0, (lossR n gs g).2) else if cnt n.toNat gs = 0 then (0, 12) else if lossOf n.toNat gs g = 0 then (1, 0) else if lossOf n.toNat gs g = cnt n.toNat gs then (-1, 0) else (0, 0)

theorem kn0 {ct ls : Nat} {r : Int × Int} (hk : r = if ct = 0 then (0, 12) else if ls = 0 then (1, 0) else if ls = ct then (-1, 0) else (0, 0)) (h : ((ct : Int) == 0) = true) : r = (0, 12) := by
  have h' : ct = 0 := by simpa using h
  rw [hk, if_pos h']
theorem kn1 {ct ls : Nat} {r : Int × Int} (hk : r = if ct = 0 then (0, 12) else if ls = 0 then (1, 0) else if ls = ct then (-1, 0) else (0, 0)) (h : ((ct : Int) == 0) = false) (h1 : ((ls : Int) == 0) = true) : r = (1, 0) := by
  have h' : ct ≠ 0 := by simpa using h
  have h2 : ls = 0 := by simpa using h1
  rw [hk, if_neg h', if_pos h2]
theorem kn2 {ct ls : Nat} {r : Int × Int} (hk : r = if ct = 0 then (0, 12) else if ls = 0 then (1, 0) else if ls = ct then (-1, 0) else (0, 0)) (h : ((ct : Int) == 0) = false) (h1 : ((ls : Int) == 0) = false) (h2 : ((ls : Int) == ct) = true) : r = (-1, 0) := by
  have h' : ct ≠ 0 := by simpa using h
  have h3 : ls ≠ 0 := by simpa using h1
  have h4 : (ls : Int) = ct := by simpa using h2
  rw [hk, if_neg h', if_neg h3, if_pos (by omega)]
theorem kn3 {ct ls : Nat} {r : Int × Int} (hk : r = if ct = 0 then (0, 12) else if ls = 0 then (1, 0) else if ls = ct then (-1, 0) else (0, 0)) (h : ((ct : Int) == 0) = false) (h1 : ((ls : Int) == 0) = false) (h2 : ((ls : Int) == ct) = false) : r = (0, 0) := by
  have h' : ct ≠ 0 := by simpa using h
  have h3 : ls ≠ 0 := by simpa using h1
  have h4 : (ls : Int) ≠ ct := by simpa using h2
  rw [hk, if_neg h', if_neg h3, if_neg (by omega)]

set_option maxHeartbeats 1000000 in
theorem Known_any (n : Int) (q : Option Addr) (cap : Nat) (gs : List Gl) (g : Gl) (w : World) (hr : RowG w q gs) (hq : q = none → cap = 0) :
    Calls Try.prog 28 #[.agg #[.int .i64 n, .slice q gs.length cap], .agg #[.int .i64 g.1, .int .i64 g.2.1, .int .i64 g.2.2]] w fun e w' => e = .returned (.tuple #[.int .i64 (knownR n gs g).1, .int .i64 (knownR n gs g).2]) ∧ Below w.heap.size w w' := by
  have hb0 := below_two w (.cells #[.int .i64 n, .slice q gs.length cap] 24) (.cells #[.int .i64 g.1, .int .i64 g.2.1, .int .i64 g.2.2] 28)
  have hs0 : Boxes2 w.heap.size (.int .i64 n) (.slice q gs.length cap) (.int .i64 g.1) (.int .i64 g.2.1) (.int .i64 g.2.2) ((w.alloc (.cells #[.int .i64 n, .slice q gs.length cap] 24)).alloc (.cells #[.int .i64 g.1, .int .i64 g.2.1, .int .i64 g.2.2] 28)) := ⟨by simp, by simp, by simp, by simp, by simp, by simp⟩
  have hr' := hr.below (Nat.le_refl _) hb0
  have c1 := Loss_any n q cap gs g _ hr' hq
  have hk := knownR.eq_1 n gs g
  by_cases h0 : (lossR n gs g).2 = 0
  · have e0 : errH n gs = 0 := by
      unfold lossR at h0
      split at h0
      · exact h0
      · rename_i h; simpa using h
    have e1 : errG g = 0 := by
      unfold lossR at h0
      rw [if_neg (by simp [e0])] at h0
      split at h0
      · exact h0
      · rename_i h; simpa using h
    have e2 : lossR n gs g = (((lossOf n.toNat gs g : Nat) : Int), 0) := by rw [lossR, if_neg (by simp [e0]), if_neg (by simp [e1])]
    rw [if_neg (by simp [h0])] at hk
    rw [e2] at c1
    obtain ⟨o1, o2, o3, o4⟩ := errH_ok e0
    obtain ⟨m, rfl⟩ := Int.eq_ofNat_of_zero_le (show 0 ≤ n by omega)
    rw [Int.toNat_natCast] at hk c1
    have c2 := fun W (h : RowG W q gs) => count_any m q cap gs W (by omega) (okGs_of o4) h (by omega)
    obtain ⟨ls, hls⟩ : ∃ ls, lossOf m gs g = ls := ⟨_, rfl⟩
    obtain ⟨ct, hct⟩ : ∃ ct, cnt m gs = ct := ⟨_, rfl⟩
    rw [hls, hct] at hk
    rw [hls] at c1
    rw [hct] at c2
    have C1 := Lib.hid c1
    have C2 := Lib.hid c2
    have HR := Lib.hid hr'
    have HS := Lib.hid hs0
    have HB0 := Lib.hid hb0
    have HK := Lib.hid hk
    clear c1 c2 hr' hs0 hb0 hk h0 e0 e1 e2 o4 hls hct
    go_enter Try.func28, Try.ntmps28
    go_wp2_with (first
      | (go_at_call 30; refine C1.out.mono ?_; rintro e w1 ⟨rfl, hb1⟩; have S1 := HS.out.below (Nat.le_refl _) hb1; obtain ⟨z1, a1, a2, a3, a4, a5⟩ := S1)
      | (go_at_call 103; refine (C2.out w1 (HR.out.below (Nat.le_refl _) hb1)).mono ?_; rintro e w2 ⟨rfl, hb2⟩))
    all_goals
      (first
        | (have hv := kn0 HK.out (by assumption))
        | (have hv := kn1 HK.out (by assumption) (by assumption))
        | (have hv := kn2 HK.out (by assumption) (by assumption) (by assumption))
        | (have hv := kn3 HK.out (by assumption) (by assumption) (by assumption)))
      go_ret2
      exact ⟨by rw [hv]; rfl, (al0 HB0.out hb1 (by simp; omega)).trans (hb2.mono (by omega))⟩
  · have hb : ((lossR n gs g).2 != 0) = true := by simp [h0]
    rw [if_pos h0] at hk
    have HK := Lib.hid hk
    have C1 := Lib.hid c1
    have HB0 := Lib.hid hb0
    clear hk h0 c1 hr' hs0 hb0
    go_enter Try.func28, Try.ntmps28
    go_wp2_with (go_at_call 30; refine C1.out.mono ?_; rintro e w1 ⟨rfl, hb1⟩)
    go_ret2
    exact ⟨by rw [HK.out]; rfl, al0 HB0.out hb1 (by simp; omega)⟩
end Go.Proofs.Ytcalipoknbbaaaa
