/- slices.Sort at ints: none at all, and a list in a captured variable. -/
import Derived.Test.YtadamjleglckpaaGreatDrnWy
import Derived.Test.YtadamjleglckpaaGreatQa5
namespace Go.Proofs.YtadamjleglckpaaGreat.drn
open Go.RowKit
open Go.Lib Go.Shelf
set_option linter.unusedSimpArgs false
set_option linter.unusedVariables false
set_option maxHeartbeats 2000000 in
theorem insI_none (w : World) :
    Calls Tryz.prog 118 #[.slice none 0 0, .int .i64 0, .int .i64 0] w fun e w' => e = .returned (.tuple #[]) ∧ w' = w := by
  go_enter Tryz.func118, Tryz.ntmps118
  go_wp2
  refine wp_loop_rounds 1 ?_
  rw [rounds_succ]
  go_wp2
  first | (refine bodyPost_end (results_none rfl _ _ _) rfl ?_; exact ⟨rfl, rfl⟩) | (refine bodyPost_ret (results_none rfl _ _ _) rfl ?_; exact ⟨rfl, rfl⟩)
set_option maxHeartbeats 2000000 in
theorem pdqI_none (lim : Int) (w : World) :
    Calls Tryz.prog 95 #[.slice none 0 0, .int .i64 0, .int .i64 0, .int .i64 lim] w fun e w' => e = .returned (.tuple #[]) ∧ w' = w := by
  go_enter Tryz.func95, Tryz.ntmps95
  go_wp2
  refine wp_loop_rounds 1 ?_
  rw [rounds_succ]
  go_wp2_with (go_at_call 118; refine (insI_none _).mono ?_; rintro e w' ⟨rfl, rfl⟩)
  (try simp only [Exit.inBlock, Exit.then])
  first | (refine bodyPost_ret (results_none rfl _ _ _) rfl ?_; exact ⟨rfl, rfl⟩) | (refine bodyPost_end (results_none rfl _ _ _) rfl ?_; exact ⟨rfl, rfl⟩)
set_option maxHeartbeats 2000000 in
theorem sortI_none (w : World) :
    Calls Tryz.prog 38 #[.slice none 0 0] w fun e w' => e = .returned (.tuple #[]) ∧ w' = w := by
  go_enter Tryz.func38, Tryz.ntmps38
  go_wp2_with (first | (go_at_call 96; refine (len_none _).mono ?_; rintro e w' ⟨rfl, rfl⟩) | (go_at_call 95; refine (pdqI_none _ _).mono ?_; rintro e w' ⟨rfl, rfl⟩))
  first | (refine bodyPost_ret (results_none rfl _ _ _) rfl ?_; exact ⟨rfl, rfl⟩) | (refine bodyPost_end (results_none rfl _ _ _) rfl ?_; exact ⟨rfl, rfl⟩)
/-- sorting the list in a captured variable -/
theorem sortVar_any (L : Nat) (v : Value) (l : List Int) (w : World) (hl : l.length ≤ 1000) (hv : w.cell? ⟨L, 0, none⟩ = some v) (hown : w.ownsRow (L + 1) 3 1 v l.length (flatI l)) (hz : L + 1 ≤ w.heap.size) :
    Calls Tryz.prog 38 #[v] w fun e w' => e = .returned (.tuple #[]) ∧ (∃ q c, v = .slice q (sortI l).length c ∧ RowV w' q (flatI (sortI l)) ∧ w'.cell? ⟨L, 0, none⟩ = some (.slice q (sortI l).length c)) ∧ L < w'.heap.size ∧ Below (L + 1) w w' := by
  have hown0 := hown
  obtain ⟨_, ⟨rfl, h0⟩ | ⟨g, cap, cur, rfl, hb, hh, _⟩⟩ := hown
  · have hl0 : l = [] := List.length_eq_zero_iff.1 h0
    subst hl0
    refine (sortI_none w).mono ?_
    rintro e w' ⟨rfl, rfl⟩
    have e : sortI ([] : List Int) = [] := by simp [sortI]
    rw [e]
    exact ⟨rfl, ⟨none, 0, rfl, .inl rfl, hv⟩, by omega, Below.refl _ _⟩
  · refine (sort_any (L + 1) g cap l w hown0 (by omega)).mono ?_
    rintro e w' ⟨rfl, hr, hbut⟩
    have hbl := hbut.below (B := L + 1) hz hb
    refine ⟨rfl, ⟨some ⟨g, 0, none⟩, cap, by rw [sortI_length], hr, ?_⟩, by have := hbl.size; omega, hbl⟩
    rw [hbl.cell (p := ⟨L, 0, none⟩) (by simp), hv, sortI_length]
theorem costR_err (n : Nat) (cs : List Ch) (l : List Int) : (costR n cs l).2 = validOf n cs l := by
  unfold costR
  split
  · rfl
  · rename_i h
    simp only [ne_eq, Decidable.not_not] at h
    exact h.symm
end Go.Proofs.YtadamjleglckpaaGreat.drn
