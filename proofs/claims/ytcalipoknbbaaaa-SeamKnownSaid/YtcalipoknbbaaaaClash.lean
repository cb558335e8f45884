/- The walks of Contradict, Wrong and Fewest (package seam). -/
import Derived.Test.YtcalipoknbbaaaaShortp
import Derived.BigQuiet
import Derived.Deep.QuietTactic
import Derived.Deep.RegionWith
namespace Go.Proofs.Ytcalipoknbbaaaa
open Go.RowKit

/-- a size in a hill's box -/
def SizeAt (w : World) (B : Nat) (n : Int) : Prop := B < w.heap.size ∧ w.cell? ⟨B, 0, none⟩ = some (.int .i64 n)
theorem SizeAt.below {w w' : World} {B : Nat} {n : Int} (h : SizeAt w B n) {N : Nat} (hN : w.heap.size ≤ N) (hb : Below N w w') : SizeAt w' B n :=
  ⟨Nat.lt_of_lt_of_le h.1 hb.size, (hb.cell (p := ⟨B, 0, none⟩) (Nat.lt_of_lt_of_le h.1 hN)).trans h.2⟩

set_option maxHeartbeats 400000 in
theorem contradict1_any (n B : Nat) (q1 q2 : Option Addr) (c1 c2 : Nat) (xs : List Gl) (m : Nat) (w : World) (hn : n ≤ 1000) (hB : SizeAt w B n) (hg : ∀ g ∈ xs, okG g) (hr : RowG w q1 xs) (hl : xs.length ≤ 1000000) :
    Calls Try.prog 108 #[.slice q1 xs.length c1, .slice q2 m c2, .pointer (some ⟨B, 0, none⟩)] w fun e w' => e = .returned (.bool ((cnt n xs : Int) == 0)) ∧ Below w.heap.size w w' := by
  obtain ⟨h1, h2⟩ := hB
  go_enter Try.func108, Try.ntmps108
  go_wp2_with (go_at_call 103; refine (count_any n q1 c1 xs _ hn hg hr hl).mono ?_; rintro e w' ⟨rfl, hb⟩)
  go_ret
  exact ⟨rfl, hb⟩
set_option maxHeartbeats 400000 in
theorem wrong1_any (n B : Nat) (q1 q2 : Option Addr) (c1 c2 : Nat) (ys : List Gl) (m : Nat) (w : World) (hn : n ≤ 1000) (hB : SizeAt w B n) (hg : ∀ g ∈ ys, okG g) (hr : RowG w q2 ys) (hl : ys.length ≤ 1000000) :
    Calls Try.prog 111 #[.slice q1 m c1, .slice q2 ys.length c2, .pointer (some ⟨B, 0, none⟩)] w fun e w' => e = .returned (.bool (decide (0 < cnt n ys))) ∧ Below w.heap.size w w' := by
  obtain ⟨h1, h2⟩ := hB
  go_enter Try.func111, Try.ntmps111
  go_wp2_with (go_at_call 103; refine (count_any n q2 c2 ys _ hn hg hr hl).mono ?_; rintro e w' ⟨rfl, hb⟩)
  go_ret
  exact ⟨ret_bool (by simp), hb⟩
set_option maxHeartbeats 400000 in
theorem fewest1_any (n B B2 : Nat) (all : Nat) (q1 q2 : Option Addr) (c1 c2 : Nat) (xs : List Gl) (m : Nat) (w : World) (hn : n ≤ 1000) (hB : SizeAt w B n) (hB2 : SizeAt w B2 all) (hg : ∀ g ∈ xs, okG g) (hr : RowG w q1 xs) (hl : xs.length ≤ 1000000) :
    Calls Try.prog 113 #[.slice q1 xs.length c1, .slice q2 m c2, .pointer (some ⟨B, 0, none⟩), .pointer (some ⟨B2, 0, none⟩)] w fun e w' => e = .returned (.bool ((cnt n xs : Int) == (all : Int))) ∧ Below w.heap.size w w' := by
  obtain ⟨h1, h2⟩ := hB
  obtain ⟨h3, h4⟩ := hB2
  go_enter Try.func113, Try.ntmps113
  go_wp2
  go_region_with (go_at_call 103; refine (count_any n q1 c1 xs _ hn hg (hr.below (Nat.le_refl _) (by first | exact Below.refl _ _ | exact (Below.refl _ _).drew)) hl).mono ?_; rintro e w' ⟨rfl, hb⟩; have h4' : w'.cell? ⟨B2, 0, none⟩ = some (.int .i64 all) := (hb.cell (p := ⟨B2, 0, none⟩) h3).trans h4)
  all_goals
    go_wp2
    go_ret
    exact ⟨rfl, ((Below.refl _ w).drew).trans (hb.mono (Nat.le_refl _))⟩

theorem okGs_sub {gs xs : List Gl} (h : ∀ g ∈ gs, okG g) (hs : ∀ g ∈ xs, g ∈ gs) : ∀ g ∈ xs, okG g := fun g hg => h g (hs g hg)

theorem tests_contradict {w : World} {n B : Nat} {gs : List Gl} (hn : n ≤ 1000) (hB : SizeAt w B n) (hg : ∀ g ∈ gs, okG g) (hl : gs.length ≤ 1000) : TestsG w 108 #[.pointer (some ⟨B, 0, none⟩)] gs (fun xs _ => (cnt n xs : Int) == 0) :=
  fun W xs ys q1 q2 c1 c2 hb hr1 _ hx _ hlx _ => contradict1_any n B q1 q2 c1 c2 xs ys.length W hn (hB.below (Nat.le_refl _) hb) (okGs_sub hg hx) hr1 (by omega)
theorem tests_wrong {w : World} {n B : Nat} {gs : List Gl} (hn : n ≤ 1000) (hB : SizeAt w B n) (hg : ∀ g ∈ gs, okG g) (hl : gs.length ≤ 1000) : TestsG w 111 #[.pointer (some ⟨B, 0, none⟩)] gs (fun _ ys => decide (0 < cnt n ys)) :=
  fun W xs ys q1 q2 c1 c2 hb _ hr2 _ hy _ hly => wrong1_any n B q1 q2 c1 c2 ys xs.length W hn (hB.below (Nat.le_refl _) hb) (okGs_sub hg hy) hr2 (by omega)
theorem tests_fewest {w : World} {n B B2 all : Nat} {gs : List Gl} (hn : n ≤ 1000) (hB : SizeAt w B n) (hB2 : SizeAt w B2 all) (hg : ∀ g ∈ gs, okG g) (hl : gs.length ≤ 1000) :
    TestsG w 113 #[.pointer (some ⟨B, 0, none⟩), .pointer (some ⟨B2, 0, none⟩)] gs (fun xs _ => (cnt n xs : Int) == (all : Int)) :=
  fun W xs ys q1 q2 c1 c2 hb hr1 _ hx _ hlx _ => fewest1_any n B B2 all q1 q2 c1 c2 xs ys.length W hn (hB.below (Nat.le_refl _) hb) (hB2.below (Nat.le_refl _) hb) (okGs_sub hg hx) hr1 (by omega)

/-- a list of indices and an error, in new memory -/
def ListErr (w : World) (r : List Int × Int) (e : Ending) (w' : World) : Prop :=
  ∃ q cap, e = .returned (.tuple #[.slice q r.1.length cap, .int .i64 r.2]) ∧ RowI w' q r.1 ∧ Below w.heap.size w w'

/-- what Contradict returns -/
def contradictOf (n : Int) (gs : List Gl) : List Int × Int :=
  if errH n gs ≠ 0 then ([], errH n gs) else if 0 < cnt n.toNat gs then ([], 13) else ((shortestOf gs.length fun is => (cnt n.toNat (sel true is gs) : Int) == 0).getD [], 0)
/-- what Wrong returns -/
def wrongOf (n : Int) (gs : List Gl) : List Int × Int :=
  if errH n gs ≠ 0 then ([], errH n gs) else ((shortestOf gs.length fun is => decide (0 < cnt n.toNat (sel false is gs))).getD [], 0)
/-- what Fewest returns -/
def fewestOf (n : Int) (gs : List Gl) : List Int × Int :=
  if errH n gs ≠ 0 then ([], errH n gs) else ((shortestOf gs.length fun is => (cnt n.toNat (sel true is gs) : Int) == (cnt n.toNat gs : Int)).getD [], 0)

set_option maxHeartbeats 1000000 in
theorem Contradict_any (n : Int) (q : Option Addr) (cap : Nat) (gs : List Gl) (w : World) (hr : RowG w q gs) :
    Calls Try.prog 34 #[.agg #[.int .i64 n, .slice q gs.length cap]] w (ListErr w (contradictOf n gs)) := by
  have hb0 : Below w.heap.size w (w.alloc (.cells #[.int .i64 n, .slice q gs.length cap] 24)) := (Below.refl _ _).alloc (Nat.le_refl _) _
  have hr' := hr.below (Nat.le_refl _) hb0
  have hB : SizeAt (w.alloc (.cells #[.int .i64 n, .slice q gs.length cap] 24)) w.heap.size n := ⟨by simp, by simp⟩
  have c1 := check_any n q cap gs _ hr'
  have C1 := Lib.hid c1
  have HR := Lib.hid hr'
  have HBX := Lib.hid hB
  have HB0 := Lib.hid hb0
  clear c1 hr' hB hb0
  by_cases h0 : errH n gs = 0
  · obtain ⟨o1, o2, o3, o4⟩ := errH_ok h0
    have hb : (errH n gs != 0) = false := by simp [h0]
    obtain ⟨m, rfl⟩ := Int.eq_ofNat_of_zero_le (show 0 ≤ n by omega)
    have hgs := okGs_of o4
    have hlen : gs.length ≤ 1000 := by omega
    have hm : m ≤ 1000 := by omega
    have c2 := fun W (h : RowG W q gs) => count_any m q cap gs W hm hgs h (by omega)
    have C2 := Lib.hid c2
    by_cases hc : 0 < cnt m gs
    · have hres : contradictOf m gs = ([], 13) := by rw [contradictOf, if_neg (by simp [h0]), Int.toNat_natCast, if_pos hc]
      have HRES := Lib.hid hres
      clear c2 hres h0 o4 hgs
      go_enter Try.func34, Try.ntmps34
      go_wp2_with (first
        | (go_at_call 32; refine C1.out.mono ?_; rintro e w1 ⟨rfl, hb1⟩; obtain ⟨hcc, hf⟩ := bcell hb1; have hz0 : w.heap.size < w1.heap.size := (by have := hb1.size; simp at this; omega))
        | (go_at_call 103; refine (C2.out _ (HR.out.below (Nat.le_refl _) hb1)).mono ?_; rintro e w2 ⟨rfl, hb2⟩))
      go_ret2
      exact ⟨none, 0, by rw [HRES.out]; rfl, by rw [HRES.out]; exact .inl rfl, (al0 HB0.out hb1 (by simp <;> omega)).trans (hb2.mono (Nat.le_of_lt hz0))⟩
    · have hc0 : cnt m gs = 0 := by omega
      have hres : contradictOf m gs = ((shortestOf gs.length fun is => (cnt m (sel true is gs) : Int) == 0).getD [], 0) := by rw [contradictOf, if_neg (by simp [h0]), Int.toNat_natCast, if_neg hc]
      have HRES := Lib.hid hres
      have hg2 : ¬(0 : Int) < (cnt m gs : Int) := by omega
      clear c2 hres h0 o4 hc hc0
      go_enter Try.func34, Try.ntmps34
      go_wp2_with (first
        | (go_at_call 32; refine C1.out.mono ?_; rintro e w1 ⟨rfl, hb1⟩; obtain ⟨hcc, hf⟩ := bcell hb1; have hz0 : w.heap.size < w1.heap.size := (by have := hb1.size; simp at this; omega))
        | (go_at_call 103; refine (C2.out _ (HR.out.below (Nat.le_refl _) hb1)).mono ?_; rintro e w2 ⟨rfl, hb2⟩; have HB1 := HBX.out.below (Nat.le_refl _) hb1; have HB2 := HB1.below (Nat.le_refl _) hb2; obtain ⟨k1, k2⟩ := HB2; obtain ⟨hcc2, hf2⟩ := bcell hb2)
        | (go_at_call 107; refine (shortestG_any 108 #[.pointer (some ⟨w.heap.size, 0, none⟩)] q cap gs _ _ (enters_of Try.func108 (by kernel_rfl) rfl) (tests_contradict hm ((HBX.out.below (Nat.le_refl _) hb1).below (Nat.le_refl _) hb2) hgs hlen) ((HR.out.below (Nat.le_refl _) hb1).below (Nat.le_refl _) hb2) hlen).mono ?_; rintro e w3 ⟨q3, c3, rfl, r3, hb3⟩))
      go_ret2
      exact ⟨q3, c3, by rw [HRES.out]; rfl, by rw [HRES.out]; exact r3, ((al0 HB0.out hb1 (by simp <;> omega)).trans (hb2.mono (Nat.le_of_lt hz0))).trans (hb3.mono (Nat.le_trans (Nat.le_of_lt hz0) hb2.size))⟩
  · have hb : (errH n gs != 0) = true := by simp [h0]
    have hres : contradictOf n gs = ([], errH n gs) := by rw [contradictOf, if_pos h0]
    have HRES := Lib.hid hres
    clear hres h0
    go_enter Try.func34, Try.ntmps34
    go_wp2_with (go_at_call 32; refine C1.out.mono ?_; rintro e w1 ⟨rfl, hb1⟩)
    go_ret2
    exact ⟨none, 0, by rw [HRES.out]; rfl, by rw [HRES.out]; exact .inl rfl, al0 HB0.out hb1 (by simp <;> omega)⟩

set_option maxHeartbeats 1000000 in
theorem Wrong_any (n : Int) (q : Option Addr) (cap : Nat) (gs : List Gl) (w : World) (hr : RowG w q gs) :
    Calls Try.prog 36 #[.agg #[.int .i64 n, .slice q gs.length cap]] w (ListErr w (wrongOf n gs)) := by
  have hb0 : Below w.heap.size w (w.alloc (.cells #[.int .i64 n, .slice q gs.length cap] 24)) := (Below.refl _ _).alloc (Nat.le_refl _) _
  have hr' := hr.below (Nat.le_refl _) hb0
  have hB : SizeAt (w.alloc (.cells #[.int .i64 n, .slice q gs.length cap] 24)) w.heap.size n := ⟨by simp, by simp⟩
  have c1 := check_any n q cap gs _ hr'
  have C1 := Lib.hid c1
  have HR := Lib.hid hr'
  have HBX := Lib.hid hB
  have HB0 := Lib.hid hb0
  clear c1 hr' hB hb0
  by_cases h0 : errH n gs = 0
  · obtain ⟨o1, o2, o3, o4⟩ := errH_ok h0
    have hb : (errH n gs != 0) = false := by simp [h0]
    obtain ⟨m, rfl⟩ := Int.eq_ofNat_of_zero_le (show 0 ≤ n by omega)
    have hgs := okGs_of o4
    have hlen : gs.length ≤ 1000 := by omega
    have hm : m ≤ 1000 := by omega
    have hres : wrongOf m gs = ((shortestOf gs.length fun is => decide (0 < cnt m (sel false is gs))).getD [], 0) := by rw [wrongOf, if_neg (by simp [h0]), Int.toNat_natCast]
    have HRES := Lib.hid hres
    clear hres h0 o4
    go_enter Try.func36, Try.ntmps36
    go_wp2_with (first
      | (go_at_call 32; refine C1.out.mono ?_; rintro e w1 ⟨rfl, hb1⟩; obtain ⟨hcc, hf⟩ := bcell hb1; have hz0 : w.heap.size < w1.heap.size := (by have := hb1.size; simp at this; omega))
      | (go_at_call 107; refine (shortestG_any 111 #[.pointer (some ⟨w.heap.size, 0, none⟩)] q cap gs _ _ (enters_of Try.func111 (by kernel_rfl) rfl) (tests_wrong hm (HBX.out.below (Nat.le_refl _) hb1) hgs hlen) (HR.out.below (Nat.le_refl _) hb1) hlen).mono ?_; rintro e w3 ⟨q3, c3, rfl, r3, hb3⟩))
    go_ret2
    exact ⟨q3, c3, by rw [HRES.out]; rfl, by rw [HRES.out]; exact r3, (al0 HB0.out hb1 (by simp <;> omega)).trans (hb3.mono (Nat.le_of_lt hz0))⟩
  · have hb : (errH n gs != 0) = true := by simp [h0]
    have hres : wrongOf n gs = ([], errH n gs) := by rw [wrongOf, if_pos h0]
    have HRES := Lib.hid hres
    clear hres h0
    go_enter Try.func36, Try.ntmps36
    go_wp2_with (go_at_call 32; refine C1.out.mono ?_; rintro e w1 ⟨rfl, hb1⟩)
    go_ret2
    exact ⟨none, 0, by rw [HRES.out]; rfl, by rw [HRES.out]; exact .inl rfl, al0 HB0.out hb1 (by simp <;> omega)⟩

set_option maxHeartbeats 1000000 in
theorem Fewest_any (n : Int) (q : Option Addr) (cap : Nat) (gs : List Gl) (w : World) (hr : RowG w q gs) :
    Calls Try.prog 46 #[.agg #[.int .i64 n, .slice q gs.length cap]] w (ListErr w (fewestOf n gs)) := by
  have hb0 : Below w.heap.size w (w.alloc (.cells #[.int .i64 n, .slice q gs.length cap] 24)) := (Below.refl _ _).alloc (Nat.le_refl _) _
  have hr' := hr.below (Nat.le_refl _) hb0
  have hB : SizeAt (w.alloc (.cells #[.int .i64 n, .slice q gs.length cap] 24)) w.heap.size n := ⟨by simp, by simp⟩
  have c1 := check_any n q cap gs _ hr'
  have C1 := Lib.hid c1
  have HR := Lib.hid hr'
  have HBX := Lib.hid hB
  have HB0 := Lib.hid hb0
  clear c1 hr' hB hb0
  by_cases h0 : errH n gs = 0
  · obtain ⟨o1, o2, o3, o4⟩ := errH_ok h0
    have hb : (errH n gs != 0) = false := by simp [h0]
    obtain ⟨m, rfl⟩ := Int.eq_ofNat_of_zero_le (show 0 ≤ n by omega)
    have hgs := okGs_of o4
    have hlen : gs.length ≤ 1000 := by omega
    have hm : m ≤ 1000 := by omega
    have hres : fewestOf m gs = ((shortestOf gs.length fun is => (cnt m (sel true is gs) : Int) == (cnt m gs : Int)).getD [], 0) := by rw [fewestOf, if_neg (by simp [h0]), Int.toNat_natCast]
    have HRES := Lib.hid hres
    have c2 := fun W (h : RowG W q gs) => count_any m q cap gs W hm hgs h (by omega)
    have C2 := Lib.hid c2
    clear c2 hres h0 o4
    obtain ⟨all, hall⟩ : ∃ all, cnt m gs = all := ⟨_, rfl⟩
    rw [hall] at HRES C2
    clear hall
    go_enter Try.func46, Try.ntmps46
    go_wp2_with (first
      | (go_at_call 32; refine C1.out.mono ?_; rintro e w1 ⟨rfl, hb1⟩; obtain ⟨hcc, hf⟩ := bcell hb1; have hz0 : w.heap.size < w1.heap.size := (by have := hb1.size; simp at this; omega))
      | (go_at_call 103; refine (C2.out _ (HR.out.below (Nat.le_refl _) hb1)).mono ?_; rintro e w2 ⟨rfl, hb2⟩; have HB1 := HBX.out.below (Nat.le_refl _) hb1; have HB2 := Lib.hid (HB1.below (Nat.le_refl _) hb2); have HR2 := Lib.hid ((HR.out.below (Nat.le_refl _) hb1).below (Nat.le_refl _) hb2); obtain ⟨k1, k2⟩ := HB2.out; obtain ⟨hcc2, hf2⟩ := bcell hb2; have hz2 : w.heap.size < w2.heap.size := Nat.lt_of_lt_of_le hz0 hb2.size; have HA1 := Lib.hid ((Below.refl w2.heap.size w2).alloc (Nat.le_refl _) (.cells #[.int .i64 all] 3))))
    have hs3 : SizeAt (w2.alloc (.cells #[.int .i64 all] 3)) w2.heap.size all := ⟨by simp, by simp⟩
    have ht := tests_fewest hm (HB2.out.below (Nat.le_refl _) HA1.out) hs3 hgs hlen
    refine (shortestG_any 113 #[.pointer (some ⟨w.heap.size, 0, none⟩), .pointer (some ⟨w2.heap.size, 0, none⟩)] q cap gs _ _ (enters_of Try.func113 (by kernel_rfl) rfl) ht (HR2.out.below (Nat.le_refl _) HA1.out) hlen).mono ?_
    rintro e w3 ⟨q3, c3, rfl, r3, hb3⟩
    clear ht hs3
    go_wp2
    go_ret2
    exact ⟨q3, c3, by rw [HRES.out]; rfl, by rw [HRES.out]; exact r3, al1 ((al0 HB0.out hb1 (by simp <;> omega)).trans (hb2.mono (Nat.le_of_lt hz0))) (Nat.le_of_lt hz2) hb3 (by simp; omega)⟩
  · have hb : (errH n gs != 0) = true := by simp [h0]
    have hres : fewestOf n gs = ([], errH n gs) := by rw [fewestOf, if_pos h0]
    have HRES := Lib.hid hres
    clear hres h0
    go_enter Try.func46, Try.ntmps46
    go_wp2_with (go_at_call 32; refine C1.out.mono ?_; rintro e w1 ⟨rfl, hb1⟩)
    go_ret2
    exact ⟨none, 0, by rw [HRES.out]; rfl, by rw [HRES.out]; exact .inl rfl, al0 HB0.out hb1 (by simp <;> omega)⟩
end Go.Proofs.Ytcalipoknbbaaaa
