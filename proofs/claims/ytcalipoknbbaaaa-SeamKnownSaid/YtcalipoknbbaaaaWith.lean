/- checkWithPlace, inHull, Within, Apart, Depth (package seam). -/
import Derived.Test.YtcalipoknbbaaaaPts
namespace Go.Proofs.Ytcalipoknbbaaaa
open Go.RowKit

/-- the error of points and a place -/
def errPP (ps : List Pl) (p : Pl) : Int := if errP ps ≠ 0 then errP ps else if onG 7 p = false then 2 else 0

set_option maxHeartbeats 1000000 in
theorem checkWP_any (q : Option Addr) (cap : Nat) (ps : List Pl) (p : Pl) (w : World) (hr : RowP w q ps) :
    Calls Try.prog 120 #[.slice q ps.length cap, .agg #[.int .i64 p.1, .int .i64 p.2]] w fun e w' => e = .returned (.int .i64 (errPP ps p)) ∧ Below w.heap.size w w' := by
  have hb0 : Below w.heap.size w (w.alloc (.cells #[.int .i64 p.1, .int .i64 p.2] 26)) := (Below.refl _ _).alloc (Nat.le_refl _) _
  have c1 := Points_any q cap ps _ (hr.below (Nat.le_refl _) hb0)
  have C1 := Lib.hid c1
  have HB0 := Lib.hid hb0
  clear c1 hb0
  by_cases h0 : errP ps = 0
  · have hb : (errP ps != 0) = false := by simp [h0]
    cases hx : onG 7 p with
    | true =>
      have hx' : (!onG 7 p) = false := by rw [hx]; rfl
      have hres : errPP ps p = 0 := by rw [errPP, if_neg (by simp [h0]), if_neg (by rw [hx]; simp)]
      have HRES := Lib.hid hres
      clear hres h0
      go_enter Try.func120, Try.ntmps120
      go_wp2_with (first
        | (go_at_call 55; refine C1.out.mono ?_; rintro e w1 ⟨rfl, hb1⟩; obtain ⟨hcc, hf⟩ := bcell hb1; have hz0 : w.heap.size < w1.heap.size := (by have := hb1.size; simp at this; omega))
        | (go_at_call 95; refine (onGrid_any 7 p _).mono ?_; rintro e w2 ⟨rfl, hb2⟩))
      go_ret
      exact ⟨ret_int (by rw [HRES.out]), (al0 HB0.out hb1 (by simp <;> omega)).trans (hb2.mono (by omega))⟩
    | false =>
      have hx' : (!onG 7 p) = true := by rw [hx]; rfl
      have hres : errPP ps p = 2 := by rw [errPP, if_neg (by simp [h0]), if_pos hx]
      have HRES := Lib.hid hres
      clear hres h0
      go_enter Try.func120, Try.ntmps120
      go_wp2_with (first
        | (go_at_call 55; refine C1.out.mono ?_; rintro e w1 ⟨rfl, hb1⟩; obtain ⟨hcc, hf⟩ := bcell hb1; have hz0 : w.heap.size < w1.heap.size := (by have := hb1.size; simp at this; omega))
        | (go_at_call 95; refine (onGrid_any 7 p _).mono ?_; rintro e w2 ⟨rfl, hb2⟩))
      go_ret
      exact ⟨ret_int (by rw [HRES.out]), (al0 HB0.out hb1 (by simp <;> omega)).trans (hb2.mono (by omega))⟩
  · have hb : (errP ps != 0) = true := by simp [h0]
    have hres : errPP ps p = errP ps := by rw [errPP, if_pos h0]
    have HRES := Lib.hid hres
    clear hres h0
    go_enter Try.func120, Try.ntmps120
    go_wp2_with (go_at_call 55; refine C1.out.mono ?_; rintro e w1 ⟨rfl, hb1⟩)
    go_ret
    exact ⟨ret_int (by rw [HRES.out]), al0 HB0.out hb1 (by simp <;> omega)⟩

/-- points without an error are places of the grid -/
theorem errPs_ok : ∀ (o : Option Pl) (ps : List Pl), errPs o ps = 0 → ∀ p ∈ ps, onG 7 p = true
  | _, [], _ => by simp
  | o, p :: r, h => by
    rw [errPs_cons] at h
    cases hx : onG 7 p with
    | false => rw [if_pos hx] at h; simp at h
    | true =>
      rw [if_neg (by rw [hx]; simp)] at h
      have key : ∀ c : Bool, (if c = true then (7 : Int) else errPs (some p) r) = 0 → errPs (some p) r = 0 := by
        intro c hc
        cases c with
        | true => simp at hc
        | false => simpa using hc
      have h2 := key _ h
      intro x hxm
      rcases List.mem_cons.1 hxm with rfl | hxm
      · exact hx
      · exact errPs_ok _ r h2 x hxm
theorem errP_ok {ps : List Pl} (h : errP ps = 0) : 0 < ps.length ∧ ps.length ≤ 12 ∧ (∀ p ∈ ps, onG 7 p = true) ∧ ∀ p ∈ ps, okP p := by
  unfold errP at h
  split at h
  · simp at h
  split at h
  · simp at h
  have := errPs_ok none ps h
  exact ⟨by omega, by omega, this, fun p hp => onG_ok (n := 7) (by decide) (this p hp)⟩
theorem errPP_ok {ps : List Pl} {p : Pl} (h : errPP ps p = 0) : errP ps = 0 ∧ onG 7 p = true := by
  unfold errPP at h
  split at h
  · rename_i h1; exact absurd h h1
  rename_i h1
  refine ⟨by simpa using h1, ?_⟩
  cases hx : onG 7 p with
  | true => rfl
  | false => rw [if_pos hx] at h; simp at h

set_option maxHeartbeats 1000000 in
theorem inHull_any (q : Option Addr) (cap : Nat) (ps : List Pl) (p : Pl) (w : World) (hr : RowP w q ps) (hps : ∀ p ∈ ps, okP p) (hp : okP p) (hl : ps.length ≤ 1000000) :
    Calls Try.prog 121 #[.slice q ps.length cap, .agg #[.int .i64 p.1, .int .i64 p.2]] w fun e w' => e = .returned (.bool (!sepB ps [p])) ∧ Below w.heap.size w w' := by
  have hb0 := below_two w (.cells #[.int .i64 p.1, .int .i64 p.2] 26) (.cells #[.int .i64 p.1, .int .i64 p.2] 26)
  have hrow : RowP ((w.alloc (.cells #[.int .i64 p.1, .int .i64 p.2] 26)).alloc (.cells #[.int .i64 p.1, .int .i64 p.2] 26)) (some ⟨w.heap.size + 1, 0, none⟩) [p] := .inr ⟨w.heap.size + 1, 0, rfl, by simp, by intro i hi; have h0 : i = 0 := (by simpa using hi); subst h0; simp⟩
  have c1 := separate_any q (some ⟨w.heap.size + 1, 0, none⟩) cap 1 ps [p] _ hps (by simpa using hp) (hr.below (Nat.le_refl _) hb0) hrow hl (by simp)
  have C1 := Lib.hid c1
  have HB0 := Lib.hid hb0
  clear c1 hb0 hrow
  go_enter Try.func121, Try.ntmps121
  go_wp2_with (go_at_call 115; refine C1.out.mono ?_; rintro e w1 ⟨rfl, hb1⟩)
  go_ret
  exact ⟨rfl, (al0 HB0.out hb1 (by simp <;> omega)).alloc (by have := hb1.size; simp at this; omega) _⟩

set_option maxHeartbeats 1000000 in
theorem within1_any (B : Nat) (p : Pl) (q1 q2 : Option Addr) (c1 c2 : Nat) (xs : List Pl) (m : Nat) (w : World) (hB : PlaceAt w B p) (hg : ∀ g ∈ xs, okP g) (hp : okP p) (hr : RowP w q1 xs) (hl : xs.length ≤ 1000000) :
    Calls Try.prog 123 #[.slice q1 xs.length c1, .slice q2 m c2, .pointer (some ⟨B, 0, none⟩)] w fun e w' => e = .returned (.bool (!sepB xs [p])) ∧ Below w.heap.size w w' := by
  obtain ⟨h0, h1, h2⟩ := hB
  go_enter Try.func123, Try.ntmps123
  go_wp2_with (go_at_call 121; refine (inHull_any q1 c1 xs p _ hr hg hp hl).mono ?_; rintro e w' ⟨rfl, hb⟩)
  go_ret
  exact ⟨rfl, hb⟩
theorem tests_within {w : World} {B : Nat} {p : Pl} {ps : List Pl} (hB : PlaceAt w B p) (hp : okP p) (hg : ∀ g ∈ ps, okP g) (hl : ps.length ≤ 1000) : TestsP w 123 #[.pointer (some ⟨B, 0, none⟩)] ps (fun xs _ => !sepB xs [p]) :=
  fun W xs ys q1 q2 c1 c2 hb hr1 _ hx _ hlx _ => within1_any B p q1 q2 c1 c2 xs ys.length W (hB.below (Nat.le_refl _) hb) (fun g h => hg g (hx g h)) hp hr1 (by omega)

/-- what Within returns -/
def withinOf (ps : List Pl) (p : Pl) : List Int × Int :=
  if errPP ps p ≠ 0 then ([], errPP ps p) else if sepB ps [p] = true then ([], 12) else ((shortestOf ps.length fun is => !sepB (sel true is ps) [p]).getD [], 0)

set_option maxHeartbeats 1000000 in
theorem Within_any (q : Option Addr) (cap : Nat) (ps : List Pl) (p : Pl) (w : World) (hr : RowP w q ps) :
    Calls Try.prog 51 #[.slice q ps.length cap, .agg #[.int .i64 p.1, .int .i64 p.2]] w (ListErr w (withinOf ps p)) := by
  have hb0 : Below w.heap.size w (w.alloc (.cells #[.int .i64 p.1, .int .i64 p.2] 26)) := (Below.refl _ _).alloc (Nat.le_refl _) _
  have hr' := hr.below (Nat.le_refl _) hb0
  have hB : PlaceAt (w.alloc (.cells #[.int .i64 p.1, .int .i64 p.2] 26)) w.heap.size p := ⟨by simp, by simp, by simp⟩
  have c1 := checkWP_any q cap ps p _ hr'
  have C1 := Lib.hid c1
  have HR := Lib.hid hr'
  have HBX := Lib.hid hB
  have HB0 := Lib.hid hb0
  clear c1 hr' hB hb0
  by_cases h0 : errPP ps p = 0
  · have hb : (errPP ps p != 0) = false := by simp [h0]
    obtain ⟨e1, e2⟩ := errPP_ok h0
    obtain ⟨o1, o2, o3, o4⟩ := errP_ok e1
    have hp := onG_ok (n := 7) (by decide) e2
    have hlen : ps.length ≤ 1000 := by omega
    have c2 := fun W (h : RowP W q ps) => inHull_any q cap ps p W h o4 hp (by omega)
    have C2 := Lib.hid c2
    cases hs : sepB ps [p] with
    | true =>
      have hs' : (!(!sepB ps [p])) = true := by rw [hs]; rfl
      have hres : withinOf ps p = ([], 12) := by rw [withinOf, if_neg (by simp [h0]), if_pos hs]
      have HRES := Lib.hid hres
      clear c2 hres h0 o4 e1 e2
      go_enter Try.func51, Try.ntmps51
      go_wp2_with (first
        | (go_at_call 120; refine C1.out.mono ?_; rintro e w1 ⟨rfl, hb1⟩; obtain ⟨hcc, hf⟩ := bcell hb1; have hz0 : w.heap.size < w1.heap.size := (by have := hb1.size; simp at this; omega))
        | (go_at_call 121; refine (C2.out _ (HR.out.below (Nat.le_refl _) hb1)).mono ?_; rintro e w2 ⟨rfl, hb2⟩))
      go_ret2
      exact ⟨none, 0, by rw [HRES.out]; rfl, by rw [HRES.out]; exact .inl rfl, (al0 HB0.out hb1 (by simp <;> omega)).trans (hb2.mono (Nat.le_of_lt hz0))⟩
    | false =>
      have hs' : (!(!sepB ps [p])) = false := by rw [hs]; rfl
      have hres : withinOf ps p = ((shortestOf ps.length fun is => !sepB (sel true is ps) [p]).getD [], 0) := by rw [withinOf, if_neg (by simp [h0]), if_neg (by rw [hs]; simp)]
      have HRES := Lib.hid hres
      clear c2 hres h0 e1 e2
      go_enter Try.func51, Try.ntmps51
      go_wp2_with (first
        | (go_at_call 120; refine C1.out.mono ?_; rintro e w1 ⟨rfl, hb1⟩; obtain ⟨hcc, hf⟩ := bcell hb1; have hz0 : w.heap.size < w1.heap.size := (by have := hb1.size; simp at this; omega))
        | (go_at_call 121; refine (C2.out _ (HR.out.below (Nat.le_refl _) hb1)).mono ?_; rintro e w2 ⟨rfl, hb2⟩)
        | (go_at_call 122; refine (shortestP_any 123 #[.pointer (some ⟨w.heap.size, 0, none⟩)] q cap ps _ _ (enters_of Try.func123 (by kernel_rfl) rfl) (tests_within ((HBX.out.below (Nat.le_refl _) hb1).below (Nat.le_refl _) hb2) hp o4 hlen) ((HR.out.below (Nat.le_refl _) hb1).below (Nat.le_refl _) hb2) hlen).mono ?_; rintro e w3 ⟨q3, c3, rfl, r3, hb3⟩))
      go_ret2
      exact ⟨q3, c3, by rw [HRES.out]; rfl, by rw [HRES.out]; exact r3, ((al0 HB0.out hb1 (by simp <;> omega)).trans (hb2.mono (Nat.le_of_lt hz0))).trans (hb3.mono (Nat.le_trans (Nat.le_of_lt hz0) hb2.size))⟩
  · have hb : (errPP ps p != 0) = true := by simp [h0]
    have hres : withinOf ps p = ([], errPP ps p) := by rw [withinOf, if_pos h0]
    have HRES := Lib.hid hres
    clear hres h0
    go_enter Try.func51, Try.ntmps51
    go_wp2_with (go_at_call 120; refine C1.out.mono ?_; rintro e w1 ⟨rfl, hb1⟩)
    go_ret2
    exact ⟨none, 0, by rw [HRES.out]; rfl, by rw [HRES.out]; exact .inl rfl, al0 HB0.out hb1 (by simp <;> omega)⟩

/-- what Depth returns -/
def depthR (ps : List Pl) (p : Pl) : Int × Int := if errPP ps p ≠ 0 then (0, errPP ps p) else ((depthOf ps p : Int), 0)

set_option maxHeartbeats 1000000 in
theorem Depth_any (q : Option Addr) (cap : Nat) (ps : List Pl) (p : Pl) (w : World) (hr : RowP w q ps) :
    Calls Try.prog 59 #[.slice q ps.length cap, .agg #[.int .i64 p.1, .int .i64 p.2]] w fun e w' => e = .returned (.tuple #[.int .i64 (depthR ps p).1, .int .i64 (depthR ps p).2]) ∧ Below w.heap.size w w' := by
  have hb0 : Below w.heap.size w (w.alloc (.cells #[.int .i64 p.1, .int .i64 p.2] 26)) := (Below.refl _ _).alloc (Nat.le_refl _) _
  have hr' := hr.below (Nat.le_refl _) hb0
  have c1 := checkWP_any q cap ps p _ hr'
  have C1 := Lib.hid c1
  have HR := Lib.hid hr'
  have HB0 := Lib.hid hb0
  clear c1 hr' hb0
  by_cases h0 : errPP ps p = 0
  · have hb : (errPP ps p != 0) = false := by simp [h0]
    obtain ⟨e1, e2⟩ := errPP_ok h0
    obtain ⟨o1, o2, o3, o4⟩ := errP_ok e1
    have hp := onG_ok (n := 7) (by decide) e2
    have c2 := fun W (h : RowP W q ps) => depth_any q cap ps p W o4 hp h (by omega)
    have C2 := Lib.hid c2
    have hres : depthR ps p = ((depthOf ps p : Int), 0) := by rw [depthR, if_neg (by simp [h0])]
    have HRES := Lib.hid hres
    clear c2 hres h0 o4 e1 e2
    go_enter Try.func59, Try.ntmps59
    go_wp2_with (first
      | (go_at_call 120; refine C1.out.mono ?_; rintro e w1 ⟨rfl, hb1⟩; obtain ⟨hcc, hf⟩ := bcell hb1; have hz0 : w.heap.size < w1.heap.size := (by have := hb1.size; simp at this; omega))
      | (go_at_call 131; refine (C2.out _ (HR.out.below (Nat.le_refl _) hb1)).mono ?_; rintro e w2 ⟨rfl, hb2⟩))
    go_ret2
    exact ⟨by rw [HRES.out]; rfl, (al0 HB0.out hb1 (by simp <;> omega)).trans (hb2.mono (Nat.le_of_lt hz0))⟩
  · have hb : (errPP ps p != 0) = true := by simp [h0]
    have hres : depthR ps p = (0, errPP ps p) := by rw [depthR, if_pos h0]
    have HRES := Lib.hid hres
    clear hres h0
    go_enter Try.func59, Try.ntmps59
    go_wp2_with (go_at_call 120; refine C1.out.mono ?_; rintro e w1 ⟨rfl, hb1⟩)
    go_ret2
    exact ⟨by rw [HRES.out]; rfl, al0 HB0.out hb1 (by simp <;> omega)⟩
end Go.Proofs.Ytcalipoknbbaaaa
