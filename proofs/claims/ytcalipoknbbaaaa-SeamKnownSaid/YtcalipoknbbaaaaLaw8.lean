/- works: the chapter's examples hold. -/
import Derived.Test.YtcalipoknbbaaaaLaw7
import Derived.Deep.Cut
import Derived.Test.YtcalipoknbbaaaaChain
namespace Go.Proofs.Ytcalipoknbbaaaa
open Go.RowKit
set_option linter.unusedSimpArgs false
set_option linter.unusedVariables false

theorem rowG_new (w : World) (gs : List Gl) (t : TypeId) (fr : Nat × Nat) : RowG (w.alloc (.cells (flatG gs).toArray t fr)) (some ⟨w.heap.size, 0, none⟩) gs := by
  refine .inr ⟨w.heap.size, 0, rfl, by simp, fun i hi => ?_⟩
  obtain ⟨g1, g2, g3⟩ := flatG_get gs i hi
  refine ⟨?_, ?_, ?_⟩
  · rw [cell_of_row _ w.heap.size (0 + i * 3) _ t fr (heap_alloc_new w _), Nat.zero_add]; simpa using g1
  · rw [cell_of_row _ w.heap.size (0 + i * 3 + 1) _ t fr (heap_alloc_new w _), Nat.zero_add]; simpa using g2
  · rw [cell_of_row _ w.heap.size (0 + i * 3 + 2) _ t fr (heap_alloc_new w _), Nat.zero_add]; simpa using g3

theorem places_litD (xs : List Int) (w : World) (B : Nat) (hB : w.heap.size = B) (hl : xs.length ≤ 1000000) :
    Calls Try.prog 93 #[.slice (some ⟨B, 0, none⟩) xs.length xs.length] (w.alloc (.cells (xs.map (Value.int .i64)).toArray 3)).drew (OneP (w.alloc (.cells (xs.map (Value.int .i64)).toArray 3)).drew (placesOf xs)) := by
  subst hB; exact places_any _ _ xs _ (rowI_new w xs 3 (0, 0)) hl
theorem Inv.drew {w W : World} {G : List (Option Addr × Nat × List Gl)} {P : List (Option Addr × List Pl)} {I : List (Option Addr × List Int)} {C : List (Nat × Nat × Value)} (h : Inv w W G P I C) : Inv w W.drew G P I C := h.go (Below.refl _ _).drew
theorem cells5 {w W : World} {G : List (Option Addr × Nat × List Gl)} {P : List (Option Addr × List Pl)} {I : List (Option Addr × List Int)} {B1 B2 : Nat} {x0 x1 x2 x3 x4 : Value} (h : Inv w W G P I [(B2, 1, x4), (B2, 0, x3), (B1, 2, x2), (B1, 1, x1), (B1, 0, x0)]) :
    W.cell? ⟨B1, 0, none⟩ = some x0 ∧ W.cell? ⟨B1, 1, none⟩ = some x1 ∧ W.cell? ⟨B1, 2, none⟩ = some x2 ∧ W.cell? ⟨B2, 0, none⟩ = some x3 ∧ W.cell? ⟨B2, 1, none⟩ = some x4 :=
  ⟨h.c (by simp), h.c (by simp), h.c (by simp), h.c (by simp), h.c (by simp)⟩

attribute [local go_sem] equal26 guard26 equal28 guard28

set_option maxRecDepth 100000 in
set_option maxHeartbeats 4000000 in
theorem works_any (w : World) : Calls Try.prog 19 #[] w fun e w' => e = .returned (.bool true) ∧ Below w.heap.size w w' := by
  have HI := Lib.hid (Inv.start w)
  go_enter Try.func19, Try.ntmps19
  go_upto_region 8 with (first
    | (go_at_call 91; refine (HI.out.hill (H_any _)).mono ?_; rintro e W ⟨q, c, rfl, hI⟩; replace HI := Lib.hid hI; clear hI)
    | (go_at_call 90; refine (HI.out.hill (K_any _)).mono ?_; rintro e W ⟨q, c, rfl, hI⟩; replace HI := Lib.hid hI; clear hI)
    | (go_at_call 92; refine (HI.out.hill (hill_nil 4 _)).mono ?_; rintro e W ⟨q, c, rfl, hI⟩; replace HI := Lib.hid hI; clear hI)
    | (go_at_call 94; refine (HI.out.places (P_any _)).mono ?_; rintro e W ⟨q, c, rfl, hI⟩; replace HI := Lib.hid hI; clear hI)
    | (go_at_call 75; refine (HI.out.gal _ _ _).mono ?_; rintro e W ⟨rfl, hI⟩; replace HI := Lib.hid hI; clear hI)
    | (go_at_call 23; refine (HI.out.placesErr (Region_any 4 q c galsH _ (HI.out.1 _ List.mem_cons_self).1) ev_region).mono ?_; rintro e W ⟨qa, ca, rfl, hI⟩; replace HI := Lib.hid hI; clear hI)
    | (go_at_call 28; refine (HI.out.scalar (V' := .tuple #[.int .i64 (-1), .int .i64 0]) (Known_any 4 q c galsH (1, 0, 1) _ (HI.out.1 _ List.mem_cons_self).1 (HI.out.1 _ List.mem_cons_self).2) (by rw [ev_known])).mono ?_; rintro e W ⟨rfl, hI⟩; replace HI := Lib.hid hI; clear hI)
    | (go_at_call 30; refine (HI.out.scalar (V' := .tuple #[.int .i64 6, .int .i64 0]) (Loss_any 4 q c [] (1, 1, 3) _ (HI.out.1 _ List.mem_cons_self).1 (HI.out.1 _ List.mem_cons_self).2) (by rw [ev_loss])).mono ?_; rintro e W ⟨rfl, hI⟩; replace HI := Lib.hid hI; clear hI)
    | (go_at_call 34; refine (HI.out.listErr (Contradict_any 3 q c galsK _ (HI.out.1 _ List.mem_cons_self).1) ev_contra).mono ?_; rintro e W ⟨qd, cd, rfl, hI⟩; replace HI := Lib.hid hI; clear hI)
    | (go_at_call 36; refine (HI.out.listErr (Wrong_any 3 q c galsK _ (HI.out.1 _ List.mem_cons_self).1) ev_wrong).mono ?_; rintro e W ⟨qi, ci, rfl, hI⟩; replace HI := Lib.hid hI; clear hI)
    | (go_at_call 49; refine (HI.out.hullP (Hull_any q c ptsP _ (HI.out.2.1 _ List.mem_cons_self)) ev_errP (fun _ => ev_hull)).mono ?_; rintro e W ⟨qk, ck, rfl, hI⟩; replace HI := Lib.hid hI; clear hI)
    | (go_at_call 51; refine (HI.out.listErr (Within_any q c ptsP (2, 1) _ (HI.out.2.1 _ List.mem_cons_self)) ev_within).mono ?_; rintro e W ⟨qm, cm, rfl, hI⟩; replace HI := Lib.hid hI; clear hI))
  go_upto_region 11 with (first
    | (go_at_call 94; refine (HI.out.places (P_any _)).mono ?_; rintro e W ⟨q, c, rfl, hI⟩; replace HI := Lib.hid hI; clear hI)
    | (go_at_call 53; refine (HI.out.scalar (V' := .tuple #[.agg #[.int .i64 1, .int .i64 (-9), .int .i64 4], .int .i64 0]) (Apart_any q c ptsP (5, 0) _ (HI.out.2.1 _ List.mem_cons_self)) (by rw [ev_apart])).mono ?_; rintro e W10 ⟨rfl, hI⟩; replace HI := Lib.hid hI; clear hI))
  replace HI := Lib.hid ((((HI.out.alloc (.cells #[.int .i64 1, .int .i64 (-9), .int .i64 4] 28)).addC (b := W10.heap.size) (o := 0) (v := .int .i64 1) (by simp) (by simp)).addC (b := W10.heap.size) (o := 1) (v := .int .i64 (-9)) (by simp) (by simp)).addC (b := W10.heap.size) (o := 2) (v := .int .i64 4) (by simp) (by simp))
  generalize (W10.alloc (.cells #[.int .i64 1, .int .i64 (-9), .int .i64 4] 28)) = W11 at HI ⊢
  generalize W10.heap.size = B1 at HI ⊢
  go_upto_region 14 with (first
    | (go_at_call 94; refine (HI.out.places (P_any _)).mono ?_; rintro e W ⟨q, c, rfl, hI⟩; replace HI := Lib.hid hI; clear hI)
    | (go_at_call 93; refine ((HI.out.alloc _).places (places_lit [0, 0, 0, 4, 4, 0, 4, 4] _ _ rfl (by decide))).mono ?_; rintro e W ⟨q, c, rfl, hI⟩; replace HI := Lib.hid hI; clear hI)
    | (go_at_call 57; refine (HI.out.listErr (Divide_any q c [(0, 0), (0, 4), (4, 0), (4, 4)] _ (HI.out.2.1 _ List.mem_cons_self)) ev_divide).mono ?_; rintro e W ⟨qp, cp, rfl, hI⟩; replace HI := Lib.hid hI; clear hI)
    | (go_at_call 59; refine (HI.out.scalar (V' := .tuple #[.int .i64 2, .int .i64 0]) (Depth_any q c ptsP (2, 2) _ (HI.out.2.1 _ List.mem_cons_self)) (by rw [ev_depth])).mono ?_; rintro e W ⟨rfl, hI⟩; replace HI := Lib.hid hI; clear hI)
    | (go_at_call 61; refine (HI.out.scalar (V' := .tuple #[.agg #[.int .i64 1, .int .i64 1], .int .i64 2, .int .i64 0]) (Centre_any q c ptsP _ (HI.out.2.1 _ List.mem_cons_self)) (by rw [ev_centre])).mono ?_; rintro e W13 ⟨rfl, hI⟩; replace HI := Lib.hid hI; clear hI))
  replace HI := Lib.hid (((HI.out.alloc (.cells #[.int .i64 1, .int .i64 1] 26)).addC (b := W13.heap.size) (o := 0) (v := .int .i64 1) (by simp) (by simp)).addC (b := W13.heap.size) (o := 1) (v := .int .i64 1) (by simp) (by simp))
  generalize (W13.alloc (.cells #[.int .i64 1, .int .i64 1] 26)) = W14 at HI ⊢
  generalize W13.heap.size = B2 at HI ⊢
  go_upto_region 16 with (first
    | (go_at_call 91; refine (HI.out.hill (H_any _)).mono ?_; rintro e W ⟨q, c, rfl, hI⟩; replace HI := Lib.hid hI; clear hI)
    | (go_at_call 92; refine (HI.out.hill (hill_nil 4 _)).mono ?_; rintro e W ⟨q, c, rfl, hI⟩; replace HI := Lib.hid hI; clear hI)
    | (go_at_call 75; refine (HI.out.gal _ _ _).mono ?_; rintro e W ⟨rfl, hI⟩; replace HI := Lib.hid hI; clear hI)
    | (go_at_call 41; refine ((HI.out.alloc (.cells (flatG [(1, 0, 0), (1, 0, 1)]).toArray 28)).scalar (V' := .tuple #[.int .i64 1, .int .i64 0]) (Ask_any 4 q _ c 2 [] [(1, 0, 0), (1, 0, 1)] _ ((HI.out.alloc (.cells (flatG [(1, 0, 0), (1, 0, 1)]).toArray 28)).1 _ List.mem_cons_self).1 (HI.out.1 _ List.mem_cons_self).2 (rowG_new _ [(1, 0, 0), (1, 0, 1)] 28 (0, 0)) (by decide)) (by rw [ev_ask])).mono ?_; rintro e W ⟨rfl, hI⟩; replace HI := Lib.hid hI; clear hI)
    | (go_at_call 34; refine (HI.out.listErr (Contradict_any 4 q c galsH _ (HI.out.1 _ List.mem_cons_self).1) ev_contra2).mono ?_; rintro e W ⟨qe, ce, rfl, hI⟩; replace HI := Lib.hid hI; clear hI))
  go_upto_region 17 with (first
    | (go_at_call 94; refine (HI.out.places (P_any _)).mono ?_; rintro e W ⟨q, c, rfl, hI⟩; replace HI := Lib.hid hI; clear hI)
    | (go_at_call 51; refine (HI.out.listErr (Within_any q c ptsP (5, 0) _ (HI.out.2.1 _ List.mem_cons_self)) ev_within2).mono ?_; rintro e W16 ⟨qe, ce, rfl, hI⟩; replace HI := Lib.hid hI; clear hI))
  simp only [List.append_eq, List.cons_append, List.nil_append]
  refine region_F 31 76 (by kernel_rfl) (by kernel_rfl) (by kernel_rfl) (by kernel_rfl) ?_
  replace HI := Lib.hid HI.out.drew
  generalize W16.drew = W17 at HI ⊢
  intro K listed hu hK
  have HK := Lib.hid hK
  have HU := Lib.hid hu
  clear hK hu
  simp only [seg, List.drop_zero, List.drop_succ_cons, List.take_succ_cons, List.take_zero, List.map_cons, List.map_nil, slim, shade, List.map_toArray]
  go_wp2_with (first | (go_at_call 93; refine ((HI.out.alloc _).places (places_lit [2, 1] _ _ rfl (by decide))).mono ?_; rintro e W ⟨q, c, rfl, hI⟩; replace HI := Lib.hid hI; clear hI) | (go_at_call 65; refine (HI.out.alike qa _ ca _ [(2, 1)] [(2, 1)] true (by simp) List.mem_cons_self (by decide) (by decide) rfl).mono ?_; rintro e W ⟨rfl, hI⟩; replace HI := Lib.hid hI; clear hI))
  refine HK.out _ _ ?_
  clear HK
  refine seg_F 31 14 62 HU.out (by kernel_rfl) (of_decide_eq_true (by kernel_rfl)) (by kernel_rfl) ?_
  intro K listed hu hK
  have HK := Lib.hid hK
  have HU := Lib.hid hu
  clear hK hu
  simp only [seg, List.drop_zero, List.drop_succ_cons, List.take_succ_cons, List.take_zero, List.map_cons, List.map_nil, slim, shade, List.map_toArray]
  go_wp2_with (first | (go_at_call 73; refine ((HI.out.lit [0, 1, 2]).list _).mono ?_; rintro e W ⟨rfl, hI⟩; replace HI := Lib.hid hI; clear hI) | (go_at_call 38; refine (HI.out.same qd _ cd _ [0, 1, 2] [0, 1, 2] true (by simp) List.mem_cons_self (by decide) (by decide) rfl).mono ?_; rintro e W ⟨rfl, hI⟩; (try clear y1 y2 y3 z1 z2); have y1 := hI.c (b := B1) (o := 0) (v := .int .i64 1) (by simp); have y2 := hI.c (b := B1) (o := 1) (v := .int .i64 (-9)) (by simp); have y3 := hI.c (b := B1) (o := 2) (v := .int .i64 4) (by simp); have z1 := hI.c (b := B2) (o := 0) (v := .int .i64 1) (by simp); have z2 := hI.c (b := B2) (o := 1) (v := .int .i64 1) (by simp); replace HI := Lib.hid hI; clear hI))
  refine HK.out _ _ ?_
  clear HK
  refine seg_F 45 6 56 HU.out (by kernel_rfl) (of_decide_eq_true (by kernel_rfl)) (by kernel_rfl) ?_
  intro K listed hu hK
  have HK := Lib.hid hK
  have HU := Lib.hid hu
  clear hK hu
  simp only [seg, List.drop_zero, List.drop_succ_cons, List.take_succ_cons, List.take_zero, List.map_cons, List.map_nil, slim, shade, List.map_toArray]
  go_wp2_with (first | (go_at_call 73; refine ((HI.out.lit [0]).list _).mono ?_; rintro e W ⟨rfl, hI⟩; replace HI := Lib.hid hI; clear hI) | (go_at_call 38; refine (HI.out.same qi _ ci _ [0] [0] true (by simp) List.mem_cons_self (by decide) (by decide) rfl).mono ?_; rintro e W ⟨rfl, hI⟩; (try clear y1 y2 y3 z1 z2); have y1 := hI.c (b := B1) (o := 0) (v := .int .i64 1) (by simp); have y2 := hI.c (b := B1) (o := 1) (v := .int .i64 (-9)) (by simp); have y3 := hI.c (b := B1) (o := 2) (v := .int .i64 4) (by simp); have z1 := hI.c (b := B2) (o := 0) (v := .int .i64 1) (by simp); have z2 := hI.c (b := B2) (o := 1) (v := .int .i64 1) (by simp); replace HI := Lib.hid hI; clear hI))
  refine HK.out _ _ ?_
  clear HK
  refine seg_F 51 6 50 HU.out (by kernel_rfl) (of_decide_eq_true (by kernel_rfl)) (by kernel_rfl) ?_
  intro K listed hu hK
  have HK := Lib.hid hK
  have HU := Lib.hid hu
  clear hK hu
  simp only [seg, List.drop_zero, List.drop_succ_cons, List.take_succ_cons, List.take_zero, List.map_cons, List.map_nil, slim, shade, List.map_toArray]
  go_wp2_with (first | (go_at_call 93; refine ((HI.out.alloc _).places (places_lit [0, 0, 4, 0, 4, 4, 0, 4] _ _ rfl (by decide))).mono ?_; rintro e W ⟨q, c, rfl, hI⟩; replace HI := Lib.hid hI; clear hI) | (go_at_call 65; refine (HI.out.alike qk _ ck _ ptsHull ptsHull true (by simp) List.mem_cons_self (by decide) (by decide) rfl).mono ?_; rintro e W ⟨rfl, hI⟩; replace HI := Lib.hid hI; clear hI))
  refine HK.out _ _ ?_
  clear HK
  refine seg_F 57 8 42 HU.out (by kernel_rfl) (of_decide_eq_true (by kernel_rfl)) (by kernel_rfl) ?_
  intro K listed hu hK
  have HK := Lib.hid hK
  have HU := Lib.hid hu
  clear hK hu
  simp only [seg, List.drop_zero, List.drop_succ_cons, List.take_succ_cons, List.take_zero, List.map_cons, List.map_nil, slim, shade, List.map_toArray]
  go_wp2_with (first | (go_at_call 73; refine ((HI.out.lit [0, 1, 3]).list _).mono ?_; rintro e W ⟨rfl, hI⟩; replace HI := Lib.hid hI; clear hI) | (go_at_call 38; refine (HI.out.same qm _ cm _ [0, 1, 3] [0, 1, 3] true (by simp) List.mem_cons_self (by decide) (by decide) rfl).mono ?_; rintro e W ⟨rfl, hI⟩; (try clear y1 y2 y3 z1 z2); have y1 := hI.c (b := B1) (o := 0) (v := .int .i64 1) (by simp); have y2 := hI.c (b := B1) (o := 1) (v := .int .i64 (-9)) (by simp); have y3 := hI.c (b := B1) (o := 2) (v := .int .i64 4) (by simp); have z1 := hI.c (b := B2) (o := 0) (v := .int .i64 1) (by simp); have z2 := hI.c (b := B2) (o := 1) (v := .int .i64 1) (by simp); replace HI := Lib.hid hI; clear hI))
  refine HK.out _ _ ?_
  clear HK
  refine pair_F 65 40 _ _ HU.out (by rfl) (by rfl) (by kernel_rfl) ?_ ?_
  · intro K listed hu hK
    have HK := Lib.hid hK
    have HU := Lib.hid hu
    clear hK hu
    simp only [seg, List.drop_zero, List.drop_succ_cons, List.take_succ_cons, List.take_zero, List.map_cons, List.map_nil, slim, shade, List.map_toArray]
    go_wp2_with (first | (go_at_call 75; refine (HI.out.gal _ _ _).mono ?_; rintro e W ⟨rfl, hI⟩; (try clear y1 y2 y3 z1 z2); have y1 := hI.c (b := B1) (o := 0) (v := .int .i64 1) (by simp); have y2 := hI.c (b := B1) (o := 1) (v := .int .i64 (-9)) (by simp); have y3 := hI.c (b := B1) (o := 2) (v := .int .i64 4) (by simp); have z1 := hI.c (b := B2) (o := 0) (v := .int .i64 1) (by simp); have z2 := hI.c (b := B2) (o := 1) (v := .int .i64 1) (by simp); replace HI := Lib.hid hI; clear hI))
    refine HK.out _ _ ?_
    clear HK
    refine seg_F 67 13 27 HU.out (by kernel_rfl) (of_decide_eq_true (by kernel_rfl)) (by kernel_rfl) ?_
    intro K listed hu hK
    have HK := Lib.hid hK
    have HU := Lib.hid hu
    clear hK hu
    simp only [seg, List.drop_zero, List.drop_succ_cons, List.take_succ_cons, List.take_zero, List.map_cons, List.map_nil, slim, shade, List.map_toArray]
    go_wp2_with (first | (go_at_call 73; refine ((HI.out.lit [0, 3]).list _).mono ?_; rintro e W ⟨rfl, hI⟩; replace HI := Lib.hid hI; clear hI) | (go_at_call 38; refine (HI.out.same qp _ cp _ [0, 3] [0, 3] true (by simp) List.mem_cons_self (by decide) (by decide) rfl).mono ?_; rintro e W ⟨rfl, hI⟩; (try clear y1 y2 y3 z1 z2); have y1 := hI.c (b := B1) (o := 0) (v := .int .i64 1) (by simp); have y2 := hI.c (b := B1) (o := 1) (v := .int .i64 (-9)) (by simp); have y3 := hI.c (b := B1) (o := 2) (v := .int .i64 4) (by simp); have z1 := hI.c (b := B2) (o := 0) (v := .int .i64 1) (by simp); have z2 := hI.c (b := B2) (o := 1) (v := .int .i64 1) (by simp); replace HI := Lib.hid hI; clear hI))
    refine HK.out _ _ ?_
    clear HK
    refine pair_F 80 25 _ _ HU.out (by rfl) (by rfl) (by kernel_rfl) ?_ ?_
    · intro K listed hu hK
      have HK := Lib.hid hK
      have HU := Lib.hid hu
      clear hK hu
      simp only [seg, List.drop_zero, List.drop_succ_cons, List.take_succ_cons, List.take_zero, List.map_cons, List.map_nil, slim, shade, List.map_toArray]
      go_wp2
      refine HK.out _ _ ?_
      clear HK
      refine seg_F 82 11 14 HU.out (by kernel_rfl) (of_decide_eq_true (by kernel_rfl)) (by kernel_rfl) ?_
      intro K listed hu hK
      have HK := Lib.hid hK
      have HU := Lib.hid hu
      clear hK hu
      simp only [seg, List.drop_zero, List.drop_succ_cons, List.take_succ_cons, List.take_zero, List.map_cons, List.map_nil, slim, shade, List.map_toArray]
      go_wp2
      refine HK.out _ _ ?_
      clear HK
      refine pair_F 93 12 _ _ HU.out (by rfl) (by rfl) (by kernel_rfl) ?_ ?_
      · intro K listed hu hK
        have HK := Lib.hid hK
        have HU := Lib.hid hu
        clear hK hu
        simp only [seg, List.drop_zero, List.drop_succ_cons, List.take_succ_cons, List.take_zero, List.map_cons, List.map_nil, slim, shade, List.map_toArray]
        go_wp2_with (first | (go_at_call 90; refine (HI.out.hill (K_any _)).mono ?_; rintro e W ⟨q, c, rfl, hI⟩; replace HI := Lib.hid hI; clear hI))
        refine HK.out _ _ ?_
        clear HK
        replace HI := Lib.hid (HI.out.lit [0, 1, 2])
        refine seg_F 95 5 7 HU.out (by kernel_rfl) (of_decide_eq_true (by kernel_rfl)) (by kernel_rfl) ?_
        intro K listed hu hK
        have HK := Lib.hid hK
        have HU := Lib.hid hu
        clear hK hu
        simp only [seg, List.drop_zero, List.drop_succ_cons, List.take_succ_cons, List.take_zero, List.map_cons, List.map_nil, slim, shade, List.map_toArray]
        go_wp2_with (first | (go_at_call 73; refine (HI.out.list _).mono ?_; rintro e W ⟨rfl, hI⟩; replace HI := Lib.hid hI; clear hI) | (go_at_call 39; refine (HI.out.scalar (V' := .int .i64 0) (Proves_any 3 q _ c _ galsK [0, 1, 2] _ (HI.out.1 _ List.mem_cons_self).1 (HI.out.2.2.1 _ List.mem_cons_self) (by decide)) (by rw [ev_proves])).mono ?_; rintro e W ⟨rfl, hI⟩; replace HI := Lib.hid hI; clear hI))
        refine HK.out _ _ ?_
        clear HK
        refine pair_F 100 5 _ _ HU.out (by rfl) (by rfl) (by kernel_rfl) ?_ ?_
        · intro K listed hu hK
          have HK := Lib.hid hK
          have HU := Lib.hid hu
          clear hK hu
          simp only [seg, List.drop_zero, List.drop_succ_cons, List.take_succ_cons, List.take_zero, List.map_cons, List.map_nil, slim, shade, List.map_toArray]
          go_wp2_with (first | (go_at_call 90; refine (HI.out.hill (K_any _)).mono ?_; rintro e W ⟨q, c, rfl, hI⟩; replace HI := Lib.hid hI; clear hI))
          refine HK.out _ _ ?_
          clear HK
          replace HI := Lib.hid (HI.out.lit [0, 1])
          refine seg_F 102 5 0 HU.out (by kernel_rfl) (of_decide_eq_true (by kernel_rfl)) (by kernel_rfl) ?_
          intro K listed hu hK
          have HK := Lib.hid hK
          have HU := Lib.hid hu
          clear hK hu
          simp only [seg, List.drop_zero, List.drop_succ_cons, List.take_succ_cons, List.take_zero, List.map_cons, List.map_nil, slim, shade, List.map_toArray]
          go_wp2_with (first | (go_at_call 73; refine (HI.out.list _).mono ?_; rintro e W ⟨rfl, hI⟩; replace HI := Lib.hid hI; clear hI) | (go_at_call 39; refine (HI.out.scalar (V' := .int .i64 14) (Proves_any 3 q _ c _ galsK [0, 1] _ (HI.out.1 _ List.mem_cons_self).1 (HI.out.2.2.1 _ List.mem_cons_self) (by decide)) (by rw [ev_proves2])).mono ?_; rintro e W ⟨rfl, hI⟩; replace HI := Lib.hid hI; clear hI))
          refine HK.out _ _ ?_
          clear HK
          refine end_F 107 HU.out (by kernel_rfl) ?_
          go_wp2
          go_ret
          exact ⟨rfl, HI.out.2.2.2.2⟩
        · intro K listed hu hK
          have HK := Lib.hid hK
          have HU := Lib.hid hu
          clear hK hu
          simp only [seg, List.drop_zero, List.drop_succ_cons, List.take_succ_cons, List.take_zero, List.map_cons, List.map_nil, slim, shade, List.map_toArray]
          go_wp2_with (first | (go_at_call 90; refine ((HI.out.lit [0, 1]).hill (K_any _)).mono ?_; rintro e W ⟨q, c, rfl, hI⟩; replace HI := Lib.hid hI; clear hI))
          refine HK.out _ _ ?_
          clear HK
          refine seg_F 102 5 0 HU.out (by kernel_rfl) (of_decide_eq_true (by kernel_rfl)) (by kernel_rfl) ?_
          intro K listed hu hK
          have HK := Lib.hid hK
          have HU := Lib.hid hu
          clear hK hu
          simp only [seg, List.drop_zero, List.drop_succ_cons, List.take_succ_cons, List.take_zero, List.map_cons, List.map_nil, slim, shade, List.map_toArray]
          go_wp2_with (first | (go_at_call 73; refine (HI.out.list _).mono ?_; rintro e W ⟨rfl, hI⟩; replace HI := Lib.hid hI; clear hI) | (go_at_call 39; refine (HI.out.scalar (V' := .int .i64 14) (Proves_any 3 q _ c _ galsK [0, 1] _ (HI.out.1 _ List.mem_cons_self).1 (HI.out.2.2.1 _ List.mem_cons_self) (by decide)) (by rw [ev_proves2])).mono ?_; rintro e W ⟨rfl, hI⟩; replace HI := Lib.hid hI; clear hI))
          refine HK.out _ _ ?_
          clear HK
          refine end_F 107 HU.out (by kernel_rfl) ?_
          go_wp2
          go_ret
          exact ⟨rfl, HI.out.2.2.2.2⟩
      · intro K listed hu hK
        have HK := Lib.hid hK
        have HU := Lib.hid hu
        clear hK hu
        simp only [seg, List.drop_zero, List.drop_succ_cons, List.take_succ_cons, List.take_zero, List.map_cons, List.map_nil, slim, shade, List.map_toArray]
        go_wp2_with (first | (go_at_call 90; refine ((HI.out.lit [0, 1, 2]).hill (K_any _)).mono ?_; rintro e W ⟨q, c, rfl, hI⟩; replace HI := Lib.hid hI; clear hI))
        refine HK.out _ _ ?_
        clear HK
        refine seg_F 95 5 7 HU.out (by kernel_rfl) (of_decide_eq_true (by kernel_rfl)) (by kernel_rfl) ?_
        intro K listed hu hK
        have HK := Lib.hid hK
        have HU := Lib.hid hu
        clear hK hu
        simp only [seg, List.drop_zero, List.drop_succ_cons, List.take_succ_cons, List.take_zero, List.map_cons, List.map_nil, slim, shade, List.map_toArray]
        go_wp2_with (first | (go_at_call 73; refine (HI.out.list _).mono ?_; rintro e W ⟨rfl, hI⟩; replace HI := Lib.hid hI; clear hI) | (go_at_call 39; refine (HI.out.scalar (V' := .int .i64 0) (Proves_any 3 q _ c _ galsK [0, 1, 2] _ (HI.out.1 _ List.mem_cons_self).1 (HI.out.2.2.1 _ List.mem_cons_self) (by decide)) (by rw [ev_proves])).mono ?_; rintro e W ⟨rfl, hI⟩; replace HI := Lib.hid hI; clear hI))
        refine HK.out _ _ ?_
        clear HK
        refine pair_F 100 5 _ _ HU.out (by rfl) (by rfl) (by kernel_rfl) ?_ ?_
        · intro K listed hu hK
          have HK := Lib.hid hK
          have HU := Lib.hid hu
          clear hK hu
          simp only [seg, List.drop_zero, List.drop_succ_cons, List.take_succ_cons, List.take_zero, List.map_cons, List.map_nil, slim, shade, List.map_toArray]
          go_wp2_with (first | (go_at_call 90; refine (HI.out.hill (K_any _)).mono ?_; rintro e W ⟨q, c, rfl, hI⟩; replace HI := Lib.hid hI; clear hI))
          refine HK.out _ _ ?_
          clear HK
          replace HI := Lib.hid (HI.out.lit [0, 1])
          refine seg_F 102 5 0 HU.out (by kernel_rfl) (of_decide_eq_true (by kernel_rfl)) (by kernel_rfl) ?_
          intro K listed hu hK
          have HK := Lib.hid hK
          have HU := Lib.hid hu
          clear hK hu
          simp only [seg, List.drop_zero, List.drop_succ_cons, List.take_succ_cons, List.take_zero, List.map_cons, List.map_nil, slim, shade, List.map_toArray]
          go_wp2_with (first | (go_at_call 73; refine (HI.out.list _).mono ?_; rintro e W ⟨rfl, hI⟩; replace HI := Lib.hid hI; clear hI) | (go_at_call 39; refine (HI.out.scalar (V' := .int .i64 14) (Proves_any 3 q _ c _ galsK [0, 1] _ (HI.out.1 _ List.mem_cons_self).1 (HI.out.2.2.1 _ List.mem_cons_self) (by decide)) (by rw [ev_proves2])).mono ?_; rintro e W ⟨rfl, hI⟩; replace HI := Lib.hid hI; clear hI))
          refine HK.out _ _ ?_
          clear HK
          refine end_F 107 HU.out (by kernel_rfl) ?_
          go_wp2
          go_ret
          exact ⟨rfl, HI.out.2.2.2.2⟩
        · intro K listed hu hK
          have HK := Lib.hid hK
          have HU := Lib.hid hu
          clear hK hu
          simp only [seg, List.drop_zero, List.drop_succ_cons, List.take_succ_cons, List.take_zero, List.map_cons, List.map_nil, slim, shade, List.map_toArray]
          go_wp2_with (first | (go_at_call 90; refine ((HI.out.lit [0, 1]).hill (K_any _)).mono ?_; rintro e W ⟨q, c, rfl, hI⟩; replace HI := Lib.hid hI; clear hI))
          refine HK.out _ _ ?_
          clear HK
          refine seg_F 102 5 0 HU.out (by kernel_rfl) (of_decide_eq_true (by kernel_rfl)) (by kernel_rfl) ?_
          intro K listed hu hK
          have HK := Lib.hid hK
          have HU := Lib.hid hu
          clear hK hu
          simp only [seg, List.drop_zero, List.drop_succ_cons, List.take_succ_cons, List.take_zero, List.map_cons, List.map_nil, slim, shade, List.map_toArray]
          go_wp2_with (first | (go_at_call 73; refine (HI.out.list _).mono ?_; rintro e W ⟨rfl, hI⟩; replace HI := Lib.hid hI; clear hI) | (go_at_call 39; refine (HI.out.scalar (V' := .int .i64 14) (Proves_any 3 q _ c _ galsK [0, 1] _ (HI.out.1 _ List.mem_cons_self).1 (HI.out.2.2.1 _ List.mem_cons_self) (by decide)) (by rw [ev_proves2])).mono ?_; rintro e W ⟨rfl, hI⟩; replace HI := Lib.hid hI; clear hI))
          refine HK.out _ _ ?_
          clear HK
          refine end_F 107 HU.out (by kernel_rfl) ?_
          go_wp2
          go_ret
          exact ⟨rfl, HI.out.2.2.2.2⟩
    · intro K listed hu hK
      have HK := Lib.hid hK
      have HU := Lib.hid hu
      clear hK hu
      simp only [seg, List.drop_zero, List.drop_succ_cons, List.take_succ_cons, List.take_zero, List.map_cons, List.map_nil, slim, shade, List.map_toArray]
      go_wp2
      refine HK.out _ _ ?_
      clear HK
      refine seg_F 82 11 14 HU.out (by kernel_rfl) (of_decide_eq_true (by kernel_rfl)) (by kernel_rfl) ?_
      intro K listed hu hK
      have HK := Lib.hid hK
      have HU := Lib.hid hu
      clear hK hu
      simp only [seg, List.drop_zero, List.drop_succ_cons, List.take_succ_cons, List.take_zero, List.map_cons, List.map_nil, slim, shade, List.map_toArray]
      go_wp2
      refine HK.out _ _ ?_
      clear HK
      refine pair_F 93 12 _ _ HU.out (by rfl) (by rfl) (by kernel_rfl) ?_ ?_
      · intro K listed hu hK
        have HK := Lib.hid hK
        have HU := Lib.hid hu
        clear hK hu
        simp only [seg, List.drop_zero, List.drop_succ_cons, List.take_succ_cons, List.take_zero, List.map_cons, List.map_nil, slim, shade, List.map_toArray]
        go_wp2_with (first | (go_at_call 90; refine (HI.out.hill (K_any _)).mono ?_; rintro e W ⟨q, c, rfl, hI⟩; replace HI := Lib.hid hI; clear hI))
        refine HK.out _ _ ?_
        clear HK
        replace HI := Lib.hid (HI.out.lit [0, 1, 2])
        refine seg_F 95 5 7 HU.out (by kernel_rfl) (of_decide_eq_true (by kernel_rfl)) (by kernel_rfl) ?_
        intro K listed hu hK
        have HK := Lib.hid hK
        have HU := Lib.hid hu
        clear hK hu
        simp only [seg, List.drop_zero, List.drop_succ_cons, List.take_succ_cons, List.take_zero, List.map_cons, List.map_nil, slim, shade, List.map_toArray]
        go_wp2_with (first | (go_at_call 73; refine (HI.out.list _).mono ?_; rintro e W ⟨rfl, hI⟩; replace HI := Lib.hid hI; clear hI) | (go_at_call 39; refine (HI.out.scalar (V' := .int .i64 0) (Proves_any 3 q _ c _ galsK [0, 1, 2] _ (HI.out.1 _ List.mem_cons_self).1 (HI.out.2.2.1 _ List.mem_cons_self) (by decide)) (by rw [ev_proves])).mono ?_; rintro e W ⟨rfl, hI⟩; replace HI := Lib.hid hI; clear hI))
        refine HK.out _ _ ?_
        clear HK
        refine pair_F 100 5 _ _ HU.out (by rfl) (by rfl) (by kernel_rfl) ?_ ?_
        · intro K listed hu hK
          have HK := Lib.hid hK
          have HU := Lib.hid hu
          clear hK hu
          simp only [seg, List.drop_zero, List.drop_succ_cons, List.take_succ_cons, List.take_zero, List.map_cons, List.map_nil, slim, shade, List.map_toArray]
          go_wp2_with (first | (go_at_call 90; refine (HI.out.hill (K_any _)).mono ?_; rintro e W ⟨q, c, rfl, hI⟩; replace HI := Lib.hid hI; clear hI))
          refine HK.out _ _ ?_
          clear HK
          replace HI := Lib.hid (HI.out.lit [0, 1])
          refine seg_F 102 5 0 HU.out (by kernel_rfl) (of_decide_eq_true (by kernel_rfl)) (by kernel_rfl) ?_
          intro K listed hu hK
          have HK := Lib.hid hK
          have HU := Lib.hid hu
          clear hK hu
          simp only [seg, List.drop_zero, List.drop_succ_cons, List.take_succ_cons, List.take_zero, List.map_cons, List.map_nil, slim, shade, List.map_toArray]
          go_wp2_with (first | (go_at_call 73; refine (HI.out.list _).mono ?_; rintro e W ⟨rfl, hI⟩; replace HI := Lib.hid hI; clear hI) | (go_at_call 39; refine (HI.out.scalar (V' := .int .i64 14) (Proves_any 3 q _ c _ galsK [0, 1] _ (HI.out.1 _ List.mem_cons_self).1 (HI.out.2.2.1 _ List.mem_cons_self) (by decide)) (by rw [ev_proves2])).mono ?_; rintro e W ⟨rfl, hI⟩; replace HI := Lib.hid hI; clear hI))
          refine HK.out _ _ ?_
          clear HK
          refine end_F 107 HU.out (by kernel_rfl) ?_
          go_wp2
          go_ret
          exact ⟨rfl, HI.out.2.2.2.2⟩
        · intro K listed hu hK
          have HK := Lib.hid hK
          have HU := Lib.hid hu
          clear hK hu
          simp only [seg, List.drop_zero, List.drop_succ_cons, List.take_succ_cons, List.take_zero, List.map_cons, List.map_nil, slim, shade, List.map_toArray]
          go_wp2_with (first | (go_at_call 90; refine ((HI.out.lit [0, 1]).hill (K_any _)).mono ?_; rintro e W ⟨q, c, rfl, hI⟩; replace HI := Lib.hid hI; clear hI))
          refine HK.out _ _ ?_
          clear HK
          refine seg_F 102 5 0 HU.out (by kernel_rfl) (of_decide_eq_true (by kernel_rfl)) (by kernel_rfl) ?_
          intro K listed hu hK
          have HK := Lib.hid hK
          have HU := Lib.hid hu
          clear hK hu
          simp only [seg, List.drop_zero, List.drop_succ_cons, List.take_succ_cons, List.take_zero, List.map_cons, List.map_nil, slim, shade, List.map_toArray]
          go_wp2_with (first | (go_at_call 73; refine (HI.out.list _).mono ?_; rintro e W ⟨rfl, hI⟩; replace HI := Lib.hid hI; clear hI) | (go_at_call 39; refine (HI.out.scalar (V' := .int .i64 14) (Proves_any 3 q _ c _ galsK [0, 1] _ (HI.out.1 _ List.mem_cons_self).1 (HI.out.2.2.1 _ List.mem_cons_self) (by decide)) (by rw [ev_proves2])).mono ?_; rintro e W ⟨rfl, hI⟩; replace HI := Lib.hid hI; clear hI))
          refine HK.out _ _ ?_
          clear HK
          refine end_F 107 HU.out (by kernel_rfl) ?_
          go_wp2
          go_ret
          exact ⟨rfl, HI.out.2.2.2.2⟩
      · intro K listed hu hK
        have HK := Lib.hid hK
        have HU := Lib.hid hu
        clear hK hu
        simp only [seg, List.drop_zero, List.drop_succ_cons, List.take_succ_cons, List.take_zero, List.map_cons, List.map_nil, slim, shade, List.map_toArray]
        go_wp2_with (first | (go_at_call 90; refine ((HI.out.lit [0, 1, 2]).hill (K_any _)).mono ?_; rintro e W ⟨q, c, rfl, hI⟩; replace HI := Lib.hid hI; clear hI))
        refine HK.out _ _ ?_
        clear HK
        refine seg_F 95 5 7 HU.out (by kernel_rfl) (of_decide_eq_true (by kernel_rfl)) (by kernel_rfl) ?_
        intro K listed hu hK
        have HK := Lib.hid hK
        have HU := Lib.hid hu
        clear hK hu
        simp only [seg, List.drop_zero, List.drop_succ_cons, List.take_succ_cons, List.take_zero, List.map_cons, List.map_nil, slim, shade, List.map_toArray]
        go_wp2_with (first | (go_at_call 73; refine (HI.out.list _).mono ?_; rintro e W ⟨rfl, hI⟩; replace HI := Lib.hid hI; clear hI) | (go_at_call 39; refine (HI.out.scalar (V' := .int .i64 0) (Proves_any 3 q _ c _ galsK [0, 1, 2] _ (HI.out.1 _ List.mem_cons_self).1 (HI.out.2.2.1 _ List.mem_cons_self) (by decide)) (by rw [ev_proves])).mono ?_; rintro e W ⟨rfl, hI⟩; replace HI := Lib.hid hI; clear hI))
        refine HK.out _ _ ?_
        clear HK
        refine pair_F 100 5 _ _ HU.out (by rfl) (by rfl) (by kernel_rfl) ?_ ?_
        · intro K listed hu hK
          have HK := Lib.hid hK
          have HU := Lib.hid hu
          clear hK hu
          simp only [seg, List.drop_zero, List.drop_succ_cons, List.take_succ_cons, List.take_zero, List.map_cons, List.map_nil, slim, shade, List.map_toArray]
          go_wp2_with (first | (go_at_call 90; refine (HI.out.hill (K_any _)).mono ?_; rintro e W ⟨q, c, rfl, hI⟩; replace HI := Lib.hid hI; clear hI))
          refine HK.out _ _ ?_
          clear HK
          replace HI := Lib.hid (HI.out.lit [0, 1])
          refine seg_F 102 5 0 HU.out (by kernel_rfl) (of_decide_eq_true (by kernel_rfl)) (by kernel_rfl) ?_
          intro K listed hu hK
          have HK := Lib.hid hK
          have HU := Lib.hid hu
          clear hK hu
          simp only [seg, List.drop_zero, List.drop_succ_cons, List.take_succ_cons, List.take_zero, List.map_cons, List.map_nil, slim, shade, List.map_toArray]
          go_wp2_with (first | (go_at_call 73; refine (HI.out.list _).mono ?_; rintro e W ⟨rfl, hI⟩; replace HI := Lib.hid hI; clear hI) | (go_at_call 39; refine (HI.out.scalar (V' := .int .i64 14) (Proves_any 3 q _ c _ galsK [0, 1] _ (HI.out.1 _ List.mem_cons_self).1 (HI.out.2.2.1 _ List.mem_cons_self) (by decide)) (by rw [ev_proves2])).mono ?_; rintro e W ⟨rfl, hI⟩; replace HI := Lib.hid hI; clear hI))
          refine HK.out _ _ ?_
          clear HK
          refine end_F 107 HU.out (by kernel_rfl) ?_
          go_wp2
          go_ret
          exact ⟨rfl, HI.out.2.2.2.2⟩
        · intro K listed hu hK
          have HK := Lib.hid hK
          have HU := Lib.hid hu
          clear hK hu
          simp only [seg, List.drop_zero, List.drop_succ_cons, List.take_succ_cons, List.take_zero, List.map_cons, List.map_nil, slim, shade, List.map_toArray]
          go_wp2_with (first | (go_at_call 90; refine ((HI.out.lit [0, 1]).hill (K_any _)).mono ?_; rintro e W ⟨q, c, rfl, hI⟩; replace HI := Lib.hid hI; clear hI))
          refine HK.out _ _ ?_
          clear HK
          refine seg_F 102 5 0 HU.out (by kernel_rfl) (of_decide_eq_true (by kernel_rfl)) (by kernel_rfl) ?_
          intro K listed hu hK
          have HK := Lib.hid hK
          have HU := Lib.hid hu
          clear hK hu
          simp only [seg, List.drop_zero, List.drop_succ_cons, List.take_succ_cons, List.take_zero, List.map_cons, List.map_nil, slim, shade, List.map_toArray]
          go_wp2_with (first | (go_at_call 73; refine (HI.out.list _).mono ?_; rintro e W ⟨rfl, hI⟩; replace HI := Lib.hid hI; clear hI) | (go_at_call 39; refine (HI.out.scalar (V' := .int .i64 14) (Proves_any 3 q _ c _ galsK [0, 1] _ (HI.out.1 _ List.mem_cons_self).1 (HI.out.2.2.1 _ List.mem_cons_self) (by decide)) (by rw [ev_proves2])).mono ?_; rintro e W ⟨rfl, hI⟩; replace HI := Lib.hid hI; clear hI))
          refine HK.out _ _ ?_
          clear HK
          refine end_F 107 HU.out (by kernel_rfl) ?_
          go_wp2
          go_ret
          exact ⟨rfl, HI.out.2.2.2.2⟩
  · intro K listed hu hK
    have HK := Lib.hid hK
    have HU := Lib.hid hu
    clear hK hu
    simp only [seg, List.drop_zero, List.drop_succ_cons, List.take_succ_cons, List.take_zero, List.map_cons, List.map_nil, slim, shade, List.map_toArray]
    go_wp2_with (first | (go_at_call 75; refine (HI.out.gal _ _ _).mono ?_; rintro e W ⟨rfl, hI⟩; (try clear y1 y2 y3 z1 z2); have y1 := hI.c (b := B1) (o := 0) (v := .int .i64 1) (by simp); have y2 := hI.c (b := B1) (o := 1) (v := .int .i64 (-9)) (by simp); have y3 := hI.c (b := B1) (o := 2) (v := .int .i64 4) (by simp); have z1 := hI.c (b := B2) (o := 0) (v := .int .i64 1) (by simp); have z2 := hI.c (b := B2) (o := 1) (v := .int .i64 1) (by simp); replace HI := Lib.hid hI; clear hI))
    refine HK.out _ _ ?_
    clear HK
    refine seg_F 67 13 27 HU.out (by kernel_rfl) (of_decide_eq_true (by kernel_rfl)) (by kernel_rfl) ?_
    intro K listed hu hK
    have HK := Lib.hid hK
    have HU := Lib.hid hu
    clear hK hu
    simp only [seg, List.drop_zero, List.drop_succ_cons, List.take_succ_cons, List.take_zero, List.map_cons, List.map_nil, slim, shade, List.map_toArray]
    go_wp2_with (first | (go_at_call 73; refine ((HI.out.lit [0, 3]).list _).mono ?_; rintro e W ⟨rfl, hI⟩; replace HI := Lib.hid hI; clear hI) | (go_at_call 38; refine (HI.out.same qp _ cp _ [0, 3] [0, 3] true (by simp) List.mem_cons_self (by decide) (by decide) rfl).mono ?_; rintro e W ⟨rfl, hI⟩; (try clear y1 y2 y3 z1 z2); have y1 := hI.c (b := B1) (o := 0) (v := .int .i64 1) (by simp); have y2 := hI.c (b := B1) (o := 1) (v := .int .i64 (-9)) (by simp); have y3 := hI.c (b := B1) (o := 2) (v := .int .i64 4) (by simp); have z1 := hI.c (b := B2) (o := 0) (v := .int .i64 1) (by simp); have z2 := hI.c (b := B2) (o := 1) (v := .int .i64 1) (by simp); replace HI := Lib.hid hI; clear hI))
    refine HK.out _ _ ?_
    clear HK
    refine pair_F 80 25 _ _ HU.out (by rfl) (by rfl) (by kernel_rfl) ?_ ?_
    · intro K listed hu hK
      have HK := Lib.hid hK
      have HU := Lib.hid hu
      clear hK hu
      simp only [seg, List.drop_zero, List.drop_succ_cons, List.take_succ_cons, List.take_zero, List.map_cons, List.map_nil, slim, shade, List.map_toArray]
      go_wp2
      refine HK.out _ _ ?_
      clear HK
      refine seg_F 82 11 14 HU.out (by kernel_rfl) (of_decide_eq_true (by kernel_rfl)) (by kernel_rfl) ?_
      intro K listed hu hK
      have HK := Lib.hid hK
      have HU := Lib.hid hu
      clear hK hu
      simp only [seg, List.drop_zero, List.drop_succ_cons, List.take_succ_cons, List.take_zero, List.map_cons, List.map_nil, slim, shade, List.map_toArray]
      go_wp2
      refine HK.out _ _ ?_
      clear HK
      refine pair_F 93 12 _ _ HU.out (by rfl) (by rfl) (by kernel_rfl) ?_ ?_
      · intro K listed hu hK
        have HK := Lib.hid hK
        have HU := Lib.hid hu
        clear hK hu
        simp only [seg, List.drop_zero, List.drop_succ_cons, List.take_succ_cons, List.take_zero, List.map_cons, List.map_nil, slim, shade, List.map_toArray]
        go_wp2_with (first | (go_at_call 90; refine (HI.out.hill (K_any _)).mono ?_; rintro e W ⟨q, c, rfl, hI⟩; replace HI := Lib.hid hI; clear hI))
        refine HK.out _ _ ?_
        clear HK
        replace HI := Lib.hid (HI.out.lit [0, 1, 2])
        refine seg_F 95 5 7 HU.out (by kernel_rfl) (of_decide_eq_true (by kernel_rfl)) (by kernel_rfl) ?_
        intro K listed hu hK
        have HK := Lib.hid hK
        have HU := Lib.hid hu
        clear hK hu
        simp only [seg, List.drop_zero, List.drop_succ_cons, List.take_succ_cons, List.take_zero, List.map_cons, List.map_nil, slim, shade, List.map_toArray]
        go_wp2_with (first | (go_at_call 73; refine (HI.out.list _).mono ?_; rintro e W ⟨rfl, hI⟩; replace HI := Lib.hid hI; clear hI) | (go_at_call 39; refine (HI.out.scalar (V' := .int .i64 0) (Proves_any 3 q _ c _ galsK [0, 1, 2] _ (HI.out.1 _ List.mem_cons_self).1 (HI.out.2.2.1 _ List.mem_cons_self) (by decide)) (by rw [ev_proves])).mono ?_; rintro e W ⟨rfl, hI⟩; replace HI := Lib.hid hI; clear hI))
        refine HK.out _ _ ?_
        clear HK
        refine pair_F 100 5 _ _ HU.out (by rfl) (by rfl) (by kernel_rfl) ?_ ?_
        · intro K listed hu hK
          have HK := Lib.hid hK
          have HU := Lib.hid hu
          clear hK hu
          simp only [seg, List.drop_zero, List.drop_succ_cons, List.take_succ_cons, List.take_zero, List.map_cons, List.map_nil, slim, shade, List.map_toArray]
          go_wp2_with (first | (go_at_call 90; refine (HI.out.hill (K_any _)).mono ?_; rintro e W ⟨q, c, rfl, hI⟩; replace HI := Lib.hid hI; clear hI))
          refine HK.out _ _ ?_
          clear HK
          replace HI := Lib.hid (HI.out.lit [0, 1])
          refine seg_F 102 5 0 HU.out (by kernel_rfl) (of_decide_eq_true (by kernel_rfl)) (by kernel_rfl) ?_
          intro K listed hu hK
          have HK := Lib.hid hK
          have HU := Lib.hid hu
          clear hK hu
          simp only [seg, List.drop_zero, List.drop_succ_cons, List.take_succ_cons, List.take_zero, List.map_cons, List.map_nil, slim, shade, List.map_toArray]
          go_wp2_with (first | (go_at_call 73; refine (HI.out.list _).mono ?_; rintro e W ⟨rfl, hI⟩; replace HI := Lib.hid hI; clear hI) | (go_at_call 39; refine (HI.out.scalar (V' := .int .i64 14) (Proves_any 3 q _ c _ galsK [0, 1] _ (HI.out.1 _ List.mem_cons_self).1 (HI.out.2.2.1 _ List.mem_cons_self) (by decide)) (by rw [ev_proves2])).mono ?_; rintro e W ⟨rfl, hI⟩; replace HI := Lib.hid hI; clear hI))
          refine HK.out _ _ ?_
          clear HK
          refine end_F 107 HU.out (by kernel_rfl) ?_
          go_wp2
          go_ret
          exact ⟨rfl, HI.out.2.2.2.2⟩
        · intro K listed hu hK
          have HK := Lib.hid hK
          have HU := Lib.hid hu
          clear hK hu
          simp only [seg, List.drop_zero, List.drop_succ_cons, List.take_succ_cons, List.take_zero, List.map_cons, List.map_nil, slim, shade, List.map_toArray]
          go_wp2_with (first | (go_at_call 90; refine ((HI.out.lit [0, 1]).hill (K_any _)).mono ?_; rintro e W ⟨q, c, rfl, hI⟩; replace HI := Lib.hid hI; clear hI))
          refine HK.out _ _ ?_
          clear HK
          refine seg_F 102 5 0 HU.out (by kernel_rfl) (of_decide_eq_true (by kernel_rfl)) (by kernel_rfl) ?_
          intro K listed hu hK
          have HK := Lib.hid hK
          have HU := Lib.hid hu
          clear hK hu
          simp only [seg, List.drop_zero, List.drop_succ_cons, List.take_succ_cons, List.take_zero, List.map_cons, List.map_nil, slim, shade, List.map_toArray]
          go_wp2_with (first | (go_at_call 73; refine (HI.out.list _).mono ?_; rintro e W ⟨rfl, hI⟩; replace HI := Lib.hid hI; clear hI) | (go_at_call 39; refine (HI.out.scalar (V' := .int .i64 14) (Proves_any 3 q _ c _ galsK [0, 1] _ (HI.out.1 _ List.mem_cons_self).1 (HI.out.2.2.1 _ List.mem_cons_self) (by decide)) (by rw [ev_proves2])).mono ?_; rintro e W ⟨rfl, hI⟩; replace HI := Lib.hid hI; clear hI))
          refine HK.out _ _ ?_
          clear HK
          refine end_F 107 HU.out (by kernel_rfl) ?_
          go_wp2
          go_ret
          exact ⟨rfl, HI.out.2.2.2.2⟩
      · intro K listed hu hK
        have HK := Lib.hid hK
        have HU := Lib.hid hu
        clear hK hu
        simp only [seg, List.drop_zero, List.drop_succ_cons, List.take_succ_cons, List.take_zero, List.map_cons, List.map_nil, slim, shade, List.map_toArray]
        go_wp2_with (first | (go_at_call 90; refine ((HI.out.lit [0, 1, 2]).hill (K_any _)).mono ?_; rintro e W ⟨q, c, rfl, hI⟩; replace HI := Lib.hid hI; clear hI))
        refine HK.out _ _ ?_
        clear HK
        refine seg_F 95 5 7 HU.out (by kernel_rfl) (of_decide_eq_true (by kernel_rfl)) (by kernel_rfl) ?_
        intro K listed hu hK
        have HK := Lib.hid hK
        have HU := Lib.hid hu
        clear hK hu
        simp only [seg, List.drop_zero, List.drop_succ_cons, List.take_succ_cons, List.take_zero, List.map_cons, List.map_nil, slim, shade, List.map_toArray]
        go_wp2_with (first | (go_at_call 73; refine (HI.out.list _).mono ?_; rintro e W ⟨rfl, hI⟩; replace HI := Lib.hid hI; clear hI) | (go_at_call 39; refine (HI.out.scalar (V' := .int .i64 0) (Proves_any 3 q _ c _ galsK [0, 1, 2] _ (HI.out.1 _ List.mem_cons_self).1 (HI.out.2.2.1 _ List.mem_cons_self) (by decide)) (by rw [ev_proves])).mono ?_; rintro e W ⟨rfl, hI⟩; replace HI := Lib.hid hI; clear hI))
        refine HK.out _ _ ?_
        clear HK
        refine pair_F 100 5 _ _ HU.out (by rfl) (by rfl) (by kernel_rfl) ?_ ?_
        · intro K listed hu hK
          have HK := Lib.hid hK
          have HU := Lib.hid hu
          clear hK hu
          simp only [seg, List.drop_zero, List.drop_succ_cons, List.take_succ_cons, List.take_zero, List.map_cons, List.map_nil, slim, shade, List.map_toArray]
          go_wp2_with (first | (go_at_call 90; refine (HI.out.hill (K_any _)).mono ?_; rintro e W ⟨q, c, rfl, hI⟩; replace HI := Lib.hid hI; clear hI))
          refine HK.out _ _ ?_
          clear HK
          replace HI := Lib.hid (HI.out.lit [0, 1])
          refine seg_F 102 5 0 HU.out (by kernel_rfl) (of_decide_eq_true (by kernel_rfl)) (by kernel_rfl) ?_
          intro K listed hu hK
          have HK := Lib.hid hK
          have HU := Lib.hid hu
          clear hK hu
          simp only [seg, List.drop_zero, List.drop_succ_cons, List.take_succ_cons, List.take_zero, List.map_cons, List.map_nil, slim, shade, List.map_toArray]
          go_wp2_with (first | (go_at_call 73; refine (HI.out.list _).mono ?_; rintro e W ⟨rfl, hI⟩; replace HI := Lib.hid hI; clear hI) | (go_at_call 39; refine (HI.out.scalar (V' := .int .i64 14) (Proves_any 3 q _ c _ galsK [0, 1] _ (HI.out.1 _ List.mem_cons_self).1 (HI.out.2.2.1 _ List.mem_cons_self) (by decide)) (by rw [ev_proves2])).mono ?_; rintro e W ⟨rfl, hI⟩; replace HI := Lib.hid hI; clear hI))
          refine HK.out _ _ ?_
          clear HK
          refine end_F 107 HU.out (by kernel_rfl) ?_
          go_wp2
          go_ret
          exact ⟨rfl, HI.out.2.2.2.2⟩
        · intro K listed hu hK
          have HK := Lib.hid hK
          have HU := Lib.hid hu
          clear hK hu
          simp only [seg, List.drop_zero, List.drop_succ_cons, List.take_succ_cons, List.take_zero, List.map_cons, List.map_nil, slim, shade, List.map_toArray]
          go_wp2_with (first | (go_at_call 90; refine ((HI.out.lit [0, 1]).hill (K_any _)).mono ?_; rintro e W ⟨q, c, rfl, hI⟩; replace HI := Lib.hid hI; clear hI))
          refine HK.out _ _ ?_
          clear HK
          refine seg_F 102 5 0 HU.out (by kernel_rfl) (of_decide_eq_true (by kernel_rfl)) (by kernel_rfl) ?_
          intro K listed hu hK
          have HK := Lib.hid hK
          have HU := Lib.hid hu
          clear hK hu
          simp only [seg, List.drop_zero, List.drop_succ_cons, List.take_succ_cons, List.take_zero, List.map_cons, List.map_nil, slim, shade, List.map_toArray]
          go_wp2_with (first | (go_at_call 73; refine (HI.out.list _).mono ?_; rintro e W ⟨rfl, hI⟩; replace HI := Lib.hid hI; clear hI) | (go_at_call 39; refine (HI.out.scalar (V' := .int .i64 14) (Proves_any 3 q _ c _ galsK [0, 1] _ (HI.out.1 _ List.mem_cons_self).1 (HI.out.2.2.1 _ List.mem_cons_self) (by decide)) (by rw [ev_proves2])).mono ?_; rintro e W ⟨rfl, hI⟩; replace HI := Lib.hid hI; clear hI))
          refine HK.out _ _ ?_
          clear HK
          refine end_F 107 HU.out (by kernel_rfl) ?_
          go_wp2
          go_ret
          exact ⟨rfl, HI.out.2.2.2.2⟩
    · intro K listed hu hK
      have HK := Lib.hid hK
      have HU := Lib.hid hu
      clear hK hu
      simp only [seg, List.drop_zero, List.drop_succ_cons, List.take_succ_cons, List.take_zero, List.map_cons, List.map_nil, slim, shade, List.map_toArray]
      go_wp2
      refine HK.out _ _ ?_
      clear HK
      refine seg_F 82 11 14 HU.out (by kernel_rfl) (of_decide_eq_true (by kernel_rfl)) (by kernel_rfl) ?_
      intro K listed hu hK
      have HK := Lib.hid hK
      have HU := Lib.hid hu
      clear hK hu
      simp only [seg, List.drop_zero, List.drop_succ_cons, List.take_succ_cons, List.take_zero, List.map_cons, List.map_nil, slim, shade, List.map_toArray]
      go_wp2
      refine HK.out _ _ ?_
      clear HK
      refine pair_F 93 12 _ _ HU.out (by rfl) (by rfl) (by kernel_rfl) ?_ ?_
      · intro K listed hu hK
        have HK := Lib.hid hK
        have HU := Lib.hid hu
        clear hK hu
        simp only [seg, List.drop_zero, List.drop_succ_cons, List.take_succ_cons, List.take_zero, List.map_cons, List.map_nil, slim, shade, List.map_toArray]
        go_wp2_with (first | (go_at_call 90; refine (HI.out.hill (K_any _)).mono ?_; rintro e W ⟨q, c, rfl, hI⟩; replace HI := Lib.hid hI; clear hI))
        refine HK.out _ _ ?_
        clear HK
        replace HI := Lib.hid (HI.out.lit [0, 1, 2])
        refine seg_F 95 5 7 HU.out (by kernel_rfl) (of_decide_eq_true (by kernel_rfl)) (by kernel_rfl) ?_
        intro K listed hu hK
        have HK := Lib.hid hK
        have HU := Lib.hid hu
        clear hK hu
        simp only [seg, List.drop_zero, List.drop_succ_cons, List.take_succ_cons, List.take_zero, List.map_cons, List.map_nil, slim, shade, List.map_toArray]
        go_wp2_with (first | (go_at_call 73; refine (HI.out.list _).mono ?_; rintro e W ⟨rfl, hI⟩; replace HI := Lib.hid hI; clear hI) | (go_at_call 39; refine (HI.out.scalar (V' := .int .i64 0) (Proves_any 3 q _ c _ galsK [0, 1, 2] _ (HI.out.1 _ List.mem_cons_self).1 (HI.out.2.2.1 _ List.mem_cons_self) (by decide)) (by rw [ev_proves])).mono ?_; rintro e W ⟨rfl, hI⟩; replace HI := Lib.hid hI; clear hI))
        refine HK.out _ _ ?_
        clear HK
        refine pair_F 100 5 _ _ HU.out (by rfl) (by rfl) (by kernel_rfl) ?_ ?_
        · intro K listed hu hK
          have HK := Lib.hid hK
          have HU := Lib.hid hu
          clear hK hu
          simp only [seg, List.drop_zero, List.drop_succ_cons, List.take_succ_cons, List.take_zero, List.map_cons, List.map_nil, slim, shade, List.map_toArray]
          go_wp2_with (first | (go_at_call 90; refine (HI.out.hill (K_any _)).mono ?_; rintro e W ⟨q, c, rfl, hI⟩; replace HI := Lib.hid hI; clear hI))
          refine HK.out _ _ ?_
          clear HK
          replace HI := Lib.hid (HI.out.lit [0, 1])
          refine seg_F 102 5 0 HU.out (by kernel_rfl) (of_decide_eq_true (by kernel_rfl)) (by kernel_rfl) ?_
          intro K listed hu hK
          have HK := Lib.hid hK
          have HU := Lib.hid hu
          clear hK hu
          simp only [seg, List.drop_zero, List.drop_succ_cons, List.take_succ_cons, List.take_zero, List.map_cons, List.map_nil, slim, shade, List.map_toArray]
          go_wp2_with (first | (go_at_call 73; refine (HI.out.list _).mono ?_; rintro e W ⟨rfl, hI⟩; replace HI := Lib.hid hI; clear hI) | (go_at_call 39; refine (HI.out.scalar (V' := .int .i64 14) (Proves_any 3 q _ c _ galsK [0, 1] _ (HI.out.1 _ List.mem_cons_self).1 (HI.out.2.2.1 _ List.mem_cons_self) (by decide)) (by rw [ev_proves2])).mono ?_; rintro e W ⟨rfl, hI⟩; replace HI := Lib.hid hI; clear hI))
          refine HK.out _ _ ?_
          clear HK
          refine end_F 107 HU.out (by kernel_rfl) ?_
          go_wp2
          go_ret
          exact ⟨rfl, HI.out.2.2.2.2⟩
        · intro K listed hu hK
          have HK := Lib.hid hK
          have HU := Lib.hid hu
          clear hK hu
          simp only [seg, List.drop_zero, List.drop_succ_cons, List.take_succ_cons, List.take_zero, List.map_cons, List.map_nil, slim, shade, List.map_toArray]
          go_wp2_with (first | (go_at_call 90; refine ((HI.out.lit [0, 1]).hill (K_any _)).mono ?_; rintro e W ⟨q, c, rfl, hI⟩; replace HI := Lib.hid hI; clear hI))
          refine HK.out _ _ ?_
          clear HK
          refine seg_F 102 5 0 HU.out (by kernel_rfl) (of_decide_eq_true (by kernel_rfl)) (by kernel_rfl) ?_
          intro K listed hu hK
          have HK := Lib.hid hK
          have HU := Lib.hid hu
          clear hK hu
          simp only [seg, List.drop_zero, List.drop_succ_cons, List.take_succ_cons, List.take_zero, List.map_cons, List.map_nil, slim, shade, List.map_toArray]
          go_wp2_with (first | (go_at_call 73; refine (HI.out.list _).mono ?_; rintro e W ⟨rfl, hI⟩; replace HI := Lib.hid hI; clear hI) | (go_at_call 39; refine (HI.out.scalar (V' := .int .i64 14) (Proves_any 3 q _ c _ galsK [0, 1] _ (HI.out.1 _ List.mem_cons_self).1 (HI.out.2.2.1 _ List.mem_cons_self) (by decide)) (by rw [ev_proves2])).mono ?_; rintro e W ⟨rfl, hI⟩; replace HI := Lib.hid hI; clear hI))
          refine HK.out _ _ ?_
          clear HK
          refine end_F 107 HU.out (by kernel_rfl) ?_
          go_wp2
          go_ret
          exact ⟨rfl, HI.out.2.2.2.2⟩
      · intro K listed hu hK
        have HK := Lib.hid hK
        have HU := Lib.hid hu
        clear hK hu
        simp only [seg, List.drop_zero, List.drop_succ_cons, List.take_succ_cons, List.take_zero, List.map_cons, List.map_nil, slim, shade, List.map_toArray]
        go_wp2_with (first | (go_at_call 90; refine ((HI.out.lit [0, 1, 2]).hill (K_any _)).mono ?_; rintro e W ⟨q, c, rfl, hI⟩; replace HI := Lib.hid hI; clear hI))
        refine HK.out _ _ ?_
        clear HK
        refine seg_F 95 5 7 HU.out (by kernel_rfl) (of_decide_eq_true (by kernel_rfl)) (by kernel_rfl) ?_
        intro K listed hu hK
        have HK := Lib.hid hK
        have HU := Lib.hid hu
        clear hK hu
        simp only [seg, List.drop_zero, List.drop_succ_cons, List.take_succ_cons, List.take_zero, List.map_cons, List.map_nil, slim, shade, List.map_toArray]
        go_wp2_with (first | (go_at_call 73; refine (HI.out.list _).mono ?_; rintro e W ⟨rfl, hI⟩; replace HI := Lib.hid hI; clear hI) | (go_at_call 39; refine (HI.out.scalar (V' := .int .i64 0) (Proves_any 3 q _ c _ galsK [0, 1, 2] _ (HI.out.1 _ List.mem_cons_self).1 (HI.out.2.2.1 _ List.mem_cons_self) (by decide)) (by rw [ev_proves])).mono ?_; rintro e W ⟨rfl, hI⟩; replace HI := Lib.hid hI; clear hI))
        refine HK.out _ _ ?_
        clear HK
        refine pair_F 100 5 _ _ HU.out (by rfl) (by rfl) (by kernel_rfl) ?_ ?_
        · intro K listed hu hK
          have HK := Lib.hid hK
          have HU := Lib.hid hu
          clear hK hu
          simp only [seg, List.drop_zero, List.drop_succ_cons, List.take_succ_cons, List.take_zero, List.map_cons, List.map_nil, slim, shade, List.map_toArray]
          go_wp2_with (first | (go_at_call 90; refine (HI.out.hill (K_any _)).mono ?_; rintro e W ⟨q, c, rfl, hI⟩; replace HI := Lib.hid hI; clear hI))
          refine HK.out _ _ ?_
          clear HK
          replace HI := Lib.hid (HI.out.lit [0, 1])
          refine seg_F 102 5 0 HU.out (by kernel_rfl) (of_decide_eq_true (by kernel_rfl)) (by kernel_rfl) ?_
          intro K listed hu hK
          have HK := Lib.hid hK
          have HU := Lib.hid hu
          clear hK hu
          simp only [seg, List.drop_zero, List.drop_succ_cons, List.take_succ_cons, List.take_zero, List.map_cons, List.map_nil, slim, shade, List.map_toArray]
          go_wp2_with (first | (go_at_call 73; refine (HI.out.list _).mono ?_; rintro e W ⟨rfl, hI⟩; replace HI := Lib.hid hI; clear hI) | (go_at_call 39; refine (HI.out.scalar (V' := .int .i64 14) (Proves_any 3 q _ c _ galsK [0, 1] _ (HI.out.1 _ List.mem_cons_self).1 (HI.out.2.2.1 _ List.mem_cons_self) (by decide)) (by rw [ev_proves2])).mono ?_; rintro e W ⟨rfl, hI⟩; replace HI := Lib.hid hI; clear hI))
          refine HK.out _ _ ?_
          clear HK
          refine end_F 107 HU.out (by kernel_rfl) ?_
          go_wp2
          go_ret
          exact ⟨rfl, HI.out.2.2.2.2⟩
        · intro K listed hu hK
          have HK := Lib.hid hK
          have HU := Lib.hid hu
          clear hK hu
          simp only [seg, List.drop_zero, List.drop_succ_cons, List.take_succ_cons, List.take_zero, List.map_cons, List.map_nil, slim, shade, List.map_toArray]
          go_wp2_with (first | (go_at_call 90; refine ((HI.out.lit [0, 1]).hill (K_any _)).mono ?_; rintro e W ⟨q, c, rfl, hI⟩; replace HI := Lib.hid hI; clear hI))
          refine HK.out _ _ ?_
          clear HK
          refine seg_F 102 5 0 HU.out (by kernel_rfl) (of_decide_eq_true (by kernel_rfl)) (by kernel_rfl) ?_
          intro K listed hu hK
          have HK := Lib.hid hK
          have HU := Lib.hid hu
          clear hK hu
          simp only [seg, List.drop_zero, List.drop_succ_cons, List.take_succ_cons, List.take_zero, List.map_cons, List.map_nil, slim, shade, List.map_toArray]
          go_wp2_with (first | (go_at_call 73; refine (HI.out.list _).mono ?_; rintro e W ⟨rfl, hI⟩; replace HI := Lib.hid hI; clear hI) | (go_at_call 39; refine (HI.out.scalar (V' := .int .i64 14) (Proves_any 3 q _ c _ galsK [0, 1] _ (HI.out.1 _ List.mem_cons_self).1 (HI.out.2.2.1 _ List.mem_cons_self) (by decide)) (by rw [ev_proves2])).mono ?_; rintro e W ⟨rfl, hI⟩; replace HI := Lib.hid hI; clear hI))
          refine HK.out _ _ ?_
          clear HK
          refine end_F 107 HU.out (by kernel_rfl) ?_
          go_wp2
          go_ret
          exact ⟨rfl, HI.out.2.2.2.2⟩
end Go.Proofs.Ytcalipoknbbaaaa
