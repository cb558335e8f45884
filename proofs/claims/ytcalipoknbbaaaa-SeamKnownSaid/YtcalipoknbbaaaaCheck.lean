/- The walks of the checks of hills and galleries, of onGrid, opposite, Agrees and Opposite (package seam). -/
import Derived.Test.YtcalipoknbbaaaaCount
namespace Go.Proofs.Ytcalipoknbbaaaa
open Go.RowKit

/-- the error of a gallery -/
def errG (g : Gl) : Int :=
  if g.1 < -9 ∨ 9 < g.1 then 1 else if g.2.1 < -9 ∨ 9 < g.2.1 then 1 else if g.2.2 < -201 ∨ 200 < g.2.2 then 1 else if g.1 = 0 ∧ g.2.1 = 0 then 5 else 0

set_option maxHeartbeats 1000000 in
theorem checkG_any (g : Gl) (w : World) :
    Calls Try.prog 100 #[.agg #[.int .i64 g.1, .int .i64 g.2.1, .int .i64 g.2.2]] w fun e w' => e = .returned (.int .i64 (errG g)) ∧ Below w.heap.size w w' := by
  obtain ⟨a, b, c⟩ := g
  go_enter Try.func100, Try.ntmps100
  go_wp2
  all_goals
    go_ret
    refine ⟨ret_int ?_, (Below.refl _ _).alloc (Nat.le_refl _) _⟩
    show (_ : Int) = errG _
    unfold errG
    grind
/-- is it a place of a grid? -/
def onG (n : Int) (p : Pl) : Bool := decide (0 ≤ p.1 ∧ p.1 < n ∧ 0 ≤ p.2 ∧ p.2 < n)

set_option maxHeartbeats 1000000 in
theorem onGrid_any (n : Int) (p : Pl) (w : World) :
    Calls Try.prog 95 #[.int .i64 n, .agg #[.int .i64 p.1, .int .i64 p.2]] w fun e w' => e = .returned (.bool (onG n p)) ∧ Below w.heap.size w w' := by
  obtain ⟨a, b⟩ := p
  go_enter Try.func95, Try.ntmps95
  go_wp2
  all_goals
    go_ret
    refine ⟨ret_bool ?_, (Below.refl _ _).alloc (Nat.le_refl _) _⟩
    show (_ : Bool) = onG _ _
    unfold onG
    grind

/-- the error of a list of galleries: the first error of one of them -/
def errL : List Gl → Int
  | [] => 0
  | g :: l => if errG g = 0 then errL l else errG g

theorem errL_zero : ∀ l : List Gl, errL l = 0 ↔ ∀ g ∈ l, errG g = 0
  | [] => by simp [errL]
  | g :: l => by
    rw [errL]
    by_cases h : errG g = 0
    · simp [h, errL_zero l]
    · simp [h]

theorem errL_hit : ∀ (l : List Gl) (k : Nat) (d : Gl), k < l.length → AllYes (fun g => errG g == 0) l k → errG (l.getD k d) ≠ 0 → errL l = errG (l.getD k d)
  | [], k, d, hk, _, _ => by simp at hk
  | g :: l, 0, d, _, _, h => by simp at h; simp [errL, h]
  | g :: l, k + 1, d, hk, h1, h2 => by
    simp only [AllYes, List.take_succ_cons, List.all_cons, Bool.and_eq_true, beq_iff_eq] at h1
    have ih := errL_hit l k d (by simpa using hk) h1.2 (by simpa using h2)
    rw [errL, if_pos h1.1, ih]
    simp

theorem errL_miss (l : List Gl) (h : AllYes (fun g => errG g == 0) l l.length) : errL l = 0 :=
  (errL_zero l).2 (by simpa [AllYes] using h)

def errGs (l : List Gl) : Int := if 10 < l.length then 3 else errL l

set_option maxHeartbeats 1000000 in
theorem checkGs_any (q : Option Addr) (cap : Nat) (gs : List Gl) (w : World) (hr : RowG w q gs) :
    Calls Try.prog 106 #[.slice q gs.length cap] w fun e w' => e = .returned (.int .i64 (errGs gs)) ∧ Below w.heap.size w w' := by
  by_cases h10 : 10 < gs.length
  · go_enter Try.func106, Try.ntmps106
    go_wp2
    go_ret
    exact ⟨ret_int (by rw [errGs, if_pos h10]), Below.refl _ _⟩
  · go_enter Try.func106, Try.ntmps106
    go_wp2
    go_loopw [11] (fun i wr => ∃ k : Nat, k ≤ gs.length ∧ i = .int .i64 k ∧ AllYes (fun g => errG g == 0) gs k ∧ Below w.heap.size w wr) (fun i _ => gs.length - (intOf i).toNat)
    case atStart => exact ⟨0, Nat.zero_le _, rfl, rfl, Below.refl _ _⟩
    case round =>
      obtain ⟨k, hk, rfl, hall, hbel⟩ := hrel
      by_cases hlt : k < gs.length
      · obtain ⟨b, off, rfl, hb, h1, h2, h3⟩ := hr.at hlt (Nat.le_refl _) hbel
        have hst := hall.step hlt (0, 0, 0)
        have hhit := errL_hit gs k (0, 0, 0) hlt hall
        have HS := Lib.hid hst
        have HH := Lib.hid hhit
        clear hst hhit
        generalize gs.getD k (0, 0, 0) = g at h1 h2 h3 HS HH
        go_wp2_with (go_at_call 100; refine (checkG_any g _).mono ?_; rintro e w' ⟨rfl, hb'⟩)
        · have hne : errG g ≠ 0 := by simpa using (by assumption : (errG g != 0) = true)
          go_ret
          exact ⟨ret_int (by rw [errGs, if_neg h10]; exact (HH.out hne).symm), al1 hbel hbel.size hb' (by have := hbel.size; simp; omega)⟩
        · have he : errG g = 0 := by simpa using (by assumption : (errG g != 0) = false)
          go_roundw
          case rel => exact ⟨k + 1, hlt, by go_num, HS.out.1 (by simp [he]), al1 hbel hbel.size hb' (by have := hbel.size; simp; omega)⟩
          case measure => simp [intOf]; omega
      · obtain rfl : k = gs.length := by omega
        go_wp2
        go_ret
        exact ⟨ret_int (by rw [errGs, if_neg h10, errL_miss _ hall]), hbel⟩

/-- the error of a hill -/
def errH (size : Int) (gs : List Gl) : Int := if size < 1 ∨ 7 < size then 1 else errGs gs

set_option maxHeartbeats 1000000 in
theorem check_any (n : Int) (q : Option Addr) (cap : Nat) (gs : List Gl) (w : World) (hr : RowG w q gs) :
    Calls Try.prog 32 #[.agg #[.int .i64 n, .slice q gs.length cap]] w fun e w' => e = .returned (.int .i64 (errH n gs)) ∧ Below w.heap.size w w' := by
  have hb0 : Below w.heap.size w (w.alloc (.cells #[.int .i64 n, .slice q gs.length cap] 24)) := (Below.refl _ _).alloc (Nat.le_refl _) _
  have hr' := hr.below (Nat.le_refl _) hb0
  go_enter Try.func32, Try.ntmps32
  go_wp2_with (go_at_call 106; refine (checkGs_any q cap gs _ hr').mono ?_; rintro e w' ⟨rfl, hb⟩)
  · go_ret
    exact ⟨ret_int (by rw [errH, if_pos ‹_›]), hb0⟩
  · go_ret
    exact ⟨ret_int (by rw [errH, if_neg (by omega)]), hb0.trans (hb.mono (by simp))⟩
  · go_ret
    exact ⟨ret_int (by rw [errH, if_pos (Or.inl ‹_›)]), hb0⟩

set_option maxHeartbeats 1000000 in
theorem opposite_any (g : Gl) (w : World) (h1 : small 1000 g.1) (h2 : small 1000 g.2.1) (h3 : small 1000 g.2.2) :
    Calls Try.prog 101 #[.agg #[.int .i64 g.1, .int .i64 g.2.1, .int .i64 g.2.2]] w fun e w' => e = .returned (.agg #[.int .i64 (-g.1), .int .i64 (-g.2.1), .int .i64 (-g.2.2 - 1)]) ∧ Below w.heap.size w w' := by
  obtain ⟨a, b, c⟩ := g
  obtain ⟨h1a, h1b⟩ := h1
  obtain ⟨h2a, h2b⟩ := h2
  obtain ⟨h3a, h3b⟩ := h3
  dsimp only at *
  go_enter Try.func101, Try.ntmps101
  go_wp2
  exact bodyPost_ret (v := .agg #[.int .i64 (-a), .int .i64 (-b), .int .i64 (-c - 1)]) (by simp [results, Try.results101, go_sem]) rfl ⟨rfl, ((Below.refl _ _).alloc (Nat.le_refl _) _).alloc (by simp) _⟩

theorem errG_ok {g : Gl} (h : errG g = 0) : okG g ∧ small 1000 g.2.2 := by
  unfold errG at h
  unfold okG small
  grind

theorem errH_ok {n : Int} {gs : List Gl} (h : errH n gs = 0) : 1 ≤ n ∧ n ≤ 7 ∧ gs.length ≤ 10 ∧ (∀ g ∈ gs, errG g = 0) := by
  unfold errH errGs at h
  split at h
  · omega
  · split at h
    · omega
    · exact ⟨by omega, by omega, by omega, (errL_zero gs).1 h⟩

theorem okGs_of {gs : List Gl} (h : ∀ g ∈ gs, errG g = 0) : ∀ g ∈ gs, okG g := fun g hg => (errG_ok (h g hg)).1

/-- what Agrees returns -/
def agreesOf (n : Int) (gs : List Gl) (p : Pl) : Bool × Int :=
  if errH n gs ≠ 0 then (false, errH n gs) else if onG n p then (agrAll gs p, 0) else (false, 2)

theorem onG_ok {n : Int} {p : Pl} (hn : n ≤ 1000) (h : onG n p = true) : okP p := by
  unfold onG at h
  simp only [decide_eq_true_eq] at h
  unfold okP small
  omega

set_option maxHeartbeats 1000000 in
theorem Agrees_any (n : Int) (q : Option Addr) (cap : Nat) (gs : List Gl) (p : Pl) (w : World) (hr : RowG w q gs) :
    Calls Try.prog 21 #[.agg #[.int .i64 n, .slice q gs.length cap], .agg #[.int .i64 p.1, .int .i64 p.2]] w fun e w' => e = .returned (.tuple #[.bool (agreesOf n gs p).1, .int .i64 (agreesOf n gs p).2]) ∧ Below w.heap.size w w' := by
  have hb0 : Below w.heap.size w ((w.alloc (.cells #[.int .i64 n, .slice q gs.length cap] 24)).alloc (.cells #[.int .i64 p.1, .int .i64 p.2] 26)) := ((Below.refl _ _).alloc (Nat.le_refl _) _).alloc (by simp) _
  have hr' := hr.below (Nat.le_refl _) hb0
  have c1 := check_any n q cap gs _ hr'
  have C1 := Lib.hid c1
  have HR := Lib.hid hr'
  clear c1 hr'
  by_cases h0 : errH n gs = 0
  · have ok := errH_ok h0
    have hb : (errH n gs != 0) = false := by simp [h0]
    have hag : agreesOf n gs p = if onG n p then (agrAll gs p, 0) else (false, 2) := by rw [agreesOf, if_neg (by simp [h0])]
    have HA := Lib.hid hag
    have HB := Lib.hid hb0
    have HO := Lib.hid ok
    clear ok hag hb0 h0
    go_enter Try.func21, Try.ntmps21
    go_wp2_with (go_at_call 32; refine C1.out.mono ?_; rintro e w1 ⟨rfl, hb1⟩; obtain ⟨hc, hf⟩ := bcell hb1; have hz0 : w.heap.size < w1.heap.size := (by have := hb1.size; simp at this; omega); have hz1 : w.heap.size + 1 < w1.heap.size := (by have := hb1.size; simp at this; omega))
    go_wp2_with (first | (go_at_call 95; refine (onGrid_any _ _ _).mono ?_; rintro e w2 ⟨rfl, hb2⟩; obtain ⟨hc2, hf2⟩ := bcell hb2) | (go_at_call 96; refine (agreesAll_any p q cap gs _ (onG_ok (n := n) (by have := HO.out.2.1; omega) (by simpa using (by assumption : (!onG n p) = false))) (okGs_of HO.out.2.2.2) ((HR.out.below (Nat.le_refl _) hb1).below (Nat.le_refl _) hb2) (by have := HO.out.2.2.1; omega)).mono ?_; rintro e w3 ⟨rfl, hb3⟩))
    · have hg : onG n p = false := by simpa using (by assumption : (!onG n p) = true)
      go_ret2
      exact ⟨by rw [HA.out, hg]; rfl, (al0 HB.out hb1 (by simp <;> omega)).trans (hb2.mono (Nat.le_of_lt hz0))⟩
    · have hg : onG n p = true := by simpa using (by assumption : (!onG n p) = false)
      go_ret2
      exact ⟨by rw [HA.out, hg]; rfl, ((al0 HB.out hb1 (by simp <;> omega)).trans (hb2.mono (Nat.le_of_lt hz0))).trans (hb3.mono (Nat.le_trans (Nat.le_of_lt hz0) hb2.size))⟩
  · have hb : (errH n gs != 0) = true := by simp [h0]
    have hag : agreesOf n gs p = (false, errH n gs) := by rw [agreesOf, if_pos h0]
    have HA := Lib.hid hag
    have HB := Lib.hid hb0
    clear hag hb0 h0
    go_enter Try.func21, Try.ntmps21
    go_wp2_with (go_at_call 32; refine C1.out.mono ?_; rintro e w1 ⟨rfl, hb1⟩)
    go_ret2
    exact ⟨by rw [HA.out] <;> try rfl, al0 HB.out hb1 (by simp <;> omega)⟩
end Go.Proofs.Ytcalipoknbbaaaa
