/- H, K, P (helpers of the law). -/
import Derived.Test.YtcalipoknbbaaaaLaw4
namespace Go.Proofs.Ytcalipoknbbaaaa
open Go.RowKit

/-- hill and places of numbers that are typed out -/
theorem hill_lit (n : Int) (xs : List Int) (w : World) (B : Nat) (hB : w.heap.size = B) (hl : xs.length ≤ 1000000) :
    Calls Try.prog 92 #[.int .i64 n, .slice (some ⟨B, 0, none⟩) xs.length xs.length] (w.alloc (.cells (xs.map (Value.int .i64)).toArray 3)) (HillPost (w.alloc (.cells (xs.map (Value.int .i64)).toArray 3)) n (galsOf xs)) := by
  subst hB; exact hill_any n _ _ xs _ (rowI_new w xs 3 (0, 0)) hl
theorem places_lit (xs : List Int) (w : World) (B : Nat) (hB : w.heap.size = B) (hl : xs.length ≤ 1000000) :
    Calls Try.prog 93 #[.slice (some ⟨B, 0, none⟩) xs.length xs.length] (w.alloc (.cells (xs.map (Value.int .i64)).toArray 3)) (OneP (w.alloc (.cells (xs.map (Value.int .i64)).toArray 3)) (placesOf xs)) := by
  subst hB; exact places_any _ _ xs _ (rowI_new w xs 3 (0, 0)) hl
theorem hill_nil (n : Int) (w : World) : Calls Try.prog 92 #[.int .i64 n, .slice none 0 0] w (HillPost w n []) := hill_any n none 0 [] w (.inl rfl) (by decide)

set_option maxRecDepth 100000 in
set_option maxHeartbeats 400000 in
theorem H_any (w : World) : Calls Try.prog 91 #[] w (HillPost w 4 galsH) := by
  have hz : Cell2 (w.alloc (.cells #[.int .i64 0, .slice none 0 0] 24)) w.heap.size (.int .i64 0) (.slice none 0 0) := ⟨by simp, by simp, by simp, by simp, by simp⟩
  have HZ := Lib.hid hz
  have HB0 := Lib.hid (below_two w (.cells #[.int .i64 0, .slice none 0 0] 24) (.cells (([1, 1, 3, -1, 0, -2, 0, -1, -1] : List Int).map (Value.int .i64)).toArray 3))
  have HBA := Lib.hid ((Below.refl (w.alloc (.cells #[.int .i64 0, .slice none 0 0] 24)).heap.size (w.alloc (.cells #[.int .i64 0, .slice none 0 0] 24))).alloc (Nat.le_refl _) (.cells (([1, 1, 3, -1, 0, -2, 0, -1, -1] : List Int).map (Value.int .i64)).toArray 3))
  have C1 := Lib.hid (hill_lit 4 [1, 1, 3, -1, 0, -2, 0, -1, -1] (w.alloc (.cells #[.int .i64 0, .slice none 0 0] 24)) (w.heap.size + 1) (by simp) (by decide))
  clear hz
  go_enter Try.func91, Try.ntmps91
  go_wp2_with (go_at_call 92; refine C1.out.mono ?_; rintro e w1 ⟨q, c, rfl, hown, hb1⟩; have HO := Lib.hid hown; have HZ1 := Lib.hid ((HZ.out.below (by simp) HBA.out).below (by simp <;> omega) hb1); have S1 := HZ1.out; obtain ⟨x0, x1, x2, x3, x4⟩ := S1)
  obtain ⟨k0, k1, k2, _, _⟩ := HZ1.out.set (.int .i64 4) (.slice q (galsOf [1, 1, 3, -1, 0, -2, 0, -1, -1]).length c)
  have hbn := ((HB0.out.trans (hb1.mono (by simp <;> omega))).setCell (p := ⟨w.heap.size, 0, none⟩) (Nat.le_refl _) (.int .i64 4)).setCell (p := ⟨w.heap.size, 1, none⟩) (Nat.le_refl _) (.slice q (galsOf [1, 1, 3, -1, 0, -2, 0, -1, -1]).length c)
  have r3 := ownsRow_setCell (ownsRow_setCell HO.out ⟨w.heap.size, 0, none⟩ (.int .i64 4) (by simp <;> omega)) ⟨w.heap.size, 1, none⟩ (.slice q (galsOf [1, 1, 3, -1, 0, -2, 0, -1, -1]).length c) (by simp <;> omega)
  generalize hW : ((w1.setCell ⟨w.heap.size, 0, none⟩ (.int .i64 4)).setCell ⟨w.heap.size, 1, none⟩ (.slice q (galsOf [1, 1, 3, -1, 0, -2, 0, -1, -1]).length c)) = W at *
  refine bodyPost_ret (by simp [results, Try.results91, go_sem, k1, k2]; try rfl) rfl ?_
  exact ⟨q, c, rfl, r3.mono (by simp <;> omega), hbn⟩

set_option maxRecDepth 100000 in
set_option maxHeartbeats 400000 in
theorem K_any (w : World) : Calls Try.prog 90 #[] w (HillPost w 3 galsK) := by
  have hz : Cell2 (w.alloc (.cells #[.int .i64 0, .slice none 0 0] 24)) w.heap.size (.int .i64 0) (.slice none 0 0) := ⟨by simp, by simp, by simp, by simp, by simp⟩
  have HZ := Lib.hid hz
  have HB0 := Lib.hid (below_two w (.cells #[.int .i64 0, .slice none 0 0] 24) (.cells (([1, 1, 1, -1, 0, -1, 0, -1, -1] : List Int).map (Value.int .i64)).toArray 3))
  have HBA := Lib.hid ((Below.refl (w.alloc (.cells #[.int .i64 0, .slice none 0 0] 24)).heap.size (w.alloc (.cells #[.int .i64 0, .slice none 0 0] 24))).alloc (Nat.le_refl _) (.cells (([1, 1, 1, -1, 0, -1, 0, -1, -1] : List Int).map (Value.int .i64)).toArray 3))
  have C1 := Lib.hid (hill_lit 3 [1, 1, 1, -1, 0, -1, 0, -1, -1] (w.alloc (.cells #[.int .i64 0, .slice none 0 0] 24)) (w.heap.size + 1) (by simp) (by decide))
  clear hz
  go_enter Try.func90, Try.ntmps90
  go_wp2_with (go_at_call 92; refine C1.out.mono ?_; rintro e w1 ⟨q, c, rfl, hown, hb1⟩; have HO := Lib.hid hown; have HZ1 := Lib.hid ((HZ.out.below (by simp) HBA.out).below (by simp <;> omega) hb1); have S1 := HZ1.out; obtain ⟨x0, x1, x2, x3, x4⟩ := S1)
  obtain ⟨k0, k1, k2, _, _⟩ := HZ1.out.set (.int .i64 3) (.slice q (galsOf [1, 1, 1, -1, 0, -1, 0, -1, -1]).length c)
  have hbn := ((HB0.out.trans (hb1.mono (by simp <;> omega))).setCell (p := ⟨w.heap.size, 0, none⟩) (Nat.le_refl _) (.int .i64 3)).setCell (p := ⟨w.heap.size, 1, none⟩) (Nat.le_refl _) (.slice q (galsOf [1, 1, 1, -1, 0, -1, 0, -1, -1]).length c)
  have r3 := ownsRow_setCell (ownsRow_setCell HO.out ⟨w.heap.size, 0, none⟩ (.int .i64 3) (by simp <;> omega)) ⟨w.heap.size, 1, none⟩ (.slice q (galsOf [1, 1, 1, -1, 0, -1, 0, -1, -1]).length c) (by simp <;> omega)
  generalize hW : ((w1.setCell ⟨w.heap.size, 0, none⟩ (.int .i64 3)).setCell ⟨w.heap.size, 1, none⟩ (.slice q (galsOf [1, 1, 1, -1, 0, -1, 0, -1, -1]).length c)) = W at *
  refine bodyPost_ret (by simp [results, Try.results90, go_sem, k1, k2]; try rfl) rfl ?_
  exact ⟨q, c, rfl, r3.mono (by simp <;> omega), hbn⟩

set_option maxHeartbeats 400000 in
theorem P_any (w : World) : Calls Try.prog 94 #[] w (OneP w ptsP) := by
  have C1 := Lib.hid (places_lit [0, 0, 0, 4, 1, 1, 4, 0, 4, 4] w w.heap.size rfl (by decide))
  have HB0 := Lib.hid ((Below.refl w.heap.size w).alloc (Nat.le_refl _) (.cells (([0, 0, 0, 4, 1, 1, 4, 0, 4, 4] : List Int).map (Value.int .i64)).toArray 3))
  go_enter Try.func94, Try.ntmps94
  go_wp2_with (go_at_call 93; refine C1.out.mono ?_; rintro e w1 ⟨q, c, rfl, hr, hb1⟩)
  go_ret
  exact ⟨q, c, rfl, hr, HB0.out.trans (hb1.mono (by simp))⟩
end Go.Proofs.Ytcalipoknbbaaaa
