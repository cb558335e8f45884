/- SeamKnown: the chapter's other examples hold. -/
import Derived.Test.YtcalipoknbbaaaaLaw8
import Derived.Deep.CutRange
namespace Go.Proofs.Ytcalipoknbbaaaa
open Go.RowKit
set_option linter.unusedSimpArgs false
set_option linter.unusedVariables false

theorem kn_region : regionOf 3 galsK = ([], 0) := by decide +kernel
theorem kn_agrees : agreesOf 4 galsH (2, 1) = (true, 0) := by decide +kernel
theorem kn_agrees2 : agreesOf 4 galsH (3, 1) = (false, 0) := by decide +kernel
theorem kn_agrees3 : agreesOf 4 galsH (4, 0) = (false, 2) := by decide +kernel
theorem kn_opp : oppositeOf (1, 1, 3) = ((-1, -1, -4), 0) := by decide +kernel
theorem kn_opp2 : oppositeOf (0, 0, 1) = ((0, 0, 0), 5) := by decide +kernel
theorem kn_known : knownR 4 galsH (1, 0, 2) = (1, 0) := by decide +kernel
theorem kn_known2 : knownR 3 galsK (1, 0, 2) = (0, 12) := by decide +kernel
theorem kn_ask : askOf 4 [] [] = (0, 4) := by decide +kernel
theorem kn_ask2 : askOf 4 [] [(1, 0, 0), (1, 0, 1), (0, 1, 1)] = (1, 0) := by decide +kernel
theorem kn_wrong : wrongOf 4 galsH = ([], 0) := by decide +kernel
theorem kn_needless : needlessOf 4 galsH = ([], 0) := by decide +kernel
theorem kn_fewest : fewestOf 4 galsH = ([0, 1, 2], 0) := by decide +kernel
theorem kn_errP1 : errP [(0, 0), (1, 1), (2, 2)] = 0 := by decide +kernel
theorem kn_errP2 : errP [(3, 3)] = 0 := by decide +kernel
theorem kn_corn1 : cornTo [(0, 0), (1, 1), (2, 2)] 3 = [(0, 0), (2, 2)] := by decide +kernel
theorem kn_corn2 : cornTo [(3, 3)] 1 = [(3, 3)] := by decide +kernel
theorem kn_hull1 {h : List Pl} (hh : IsHull [(0, 0), (1, 1), (2, 2)] h) : h = [(0, 0), (2, 2)] := by
  obtain ⟨f, r, l, h1, h2, h3, rfl⟩ := hh
  rw [show ([(0, 0), (1, 1), (2, 2)] : List Pl).length = 3 from rfl, kn_corn1] at h1
  injection h1 with h1 h4
  subst h1
  subst h4
  rw [List.perm_singleton.1 h2]
theorem kn_hull2 {h : List Pl} (hh : IsHull [(3, 3)] h) : h = [(3, 3)] := by
  obtain ⟨f, r, l, h1, h2, h3, rfl⟩ := hh
  rw [show ([(3, 3)] : List Pl).length = 1 from rfl, kn_corn2] at h1
  injection h1 with h1 h4
  subst h1
  subst h4
  rw [List.perm_nil.1 h2]
theorem kn_within : withinOf ptsP (1, 1) = ([2], 0) := by decide +kernel
theorem kn_within2 : withinOf ptsP (2, 2) = ([0, 4], 0) := by decide +kernel
theorem kn_within3 : withinOf ptsP (3, 1) = ([1, 3], 0) := by decide +kernel
theorem kn_apart : apartOf ptsP (2, 2) = ((0, 0, 0), 13) := by decide +kernel
theorem kn_divide : divideOf ptsP = ([], 5) := by decide +kernel
theorem kn_depth : depthR ptsP (6, 6) = (0, 0) := by decide +kernel
theorem kn_proves : provesOf 3 galsK [1, 0] = 7 := by decide +kernel
theorem kn_proves2 : provesOf 3 galsK [3] = 2 := by decide +kernel
theorem kn_check : errH 8 [] = 1 := by decide +kernel
theorem kn_check2 : errH 3 (galsOf [0, 0, 1]) = 5 := by decide +kernel
theorem kn_check3 : errH 3 (galsOf [10, 0, 0]) = 1 := by decide +kernel
theorem kn_points : errP [] = 4 := by decide +kernel
theorem kn_points2 : errP (placesOf [0, 0, 0, 0]) = 7 := by decide +kernel
theorem kn_points3 : errP (placesOf [7, 0]) = 2 := by decide +kernel
theorem cells3I {w W : World} {G : List (Option Addr × Nat × List Gl)} {P : List (Option Addr × List Pl)} {I : List (Option Addr × List Int)} {B1 : Nat} {x0 x1 x2 : Value} (h : Inv w W G P I [(B1, 2, x2), (B1, 1, x1), (B1, 0, x0)]) :
    W.cell? ⟨B1, 0, none⟩ = some x0 ∧ W.cell? ⟨B1, 1, none⟩ = some x1 ∧ W.cell? ⟨B1, 2, none⟩ = some x2 := ⟨h.c (by simp), h.c (by simp), h.c (by simp)⟩

attribute [local go_sem] equal26 guard26 equal28 guard28

set_option maxRecDepth 100000 in
set_option maxHeartbeats 8000000 in
theorem SeamKnown_any (w : World) : Calls Try.prog 18 #[] w fun e w' => e = .returned (.bool true) ∧ Below w.heap.size w w' := by
  have HI := Lib.hid (Inv.start w)
  go_enter Try.func18, Try.ntmps18
  go_upto_region 2 with (first 
    | (go_at_call 90; refine (HI.out.hill (K_any _)).mono ?_; rintro e W ⟨q, c, rfl, hI⟩; replace HI := Lib.hid hI; clear hI) 
    | (go_at_call 23; refine (HI.out.placesErr (Region_any 3 q c galsK _ (HI.out.1 _ List.mem_cons_self).1) kn_region).mono ?_; rintro e W ⟨qr, cr, rfl, hI⟩; replace HI := Lib.hid hI; clear hI))
  go_upto_region 3 with (first 
    | (go_at_call 91; refine (HI.out.hill (H_any _)).mono ?_; rintro e W ⟨q, c, rfl, hI⟩; replace HI := Lib.hid hI; clear hI) 
    | (go_at_call 21; refine (HI.out.scalar (V' := .tuple #[.bool true, .int .i64 0]) (Agrees_any 4 q c galsH (2, 1) _ (HI.out.1 _ List.mem_cons_self).1) (by rw [kn_agrees])).mono ?_; rintro e W ⟨rfl, hI⟩; replace HI := Lib.hid hI; clear hI))
  go_upto_region 4 with (first 
    | (go_at_call 91; refine (HI.out.hill (H_any _)).mono ?_; rintro e W ⟨q, c, rfl, hI⟩; replace HI := Lib.hid hI; clear hI) 
    | (go_at_call 21; refine (HI.out.scalar (V' := .tuple #[.bool false, .int .i64 0]) (Agrees_any 4 q c galsH (3, 1) _ (HI.out.1 _ List.mem_cons_self).1) (by rw [kn_agrees2])).mono ?_; rintro e W ⟨rfl, hI⟩; replace HI := Lib.hid hI; clear hI))
  go_upto_region 5 with (first 
    | (go_at_call 91; refine (HI.out.hill (H_any _)).mono ?_; rintro e W ⟨q, c, rfl, hI⟩; replace HI := Lib.hid hI; clear hI) 
    | (go_at_call 21; refine (HI.out.scalar (V' := .tuple #[.bool false, .int .i64 2]) (Agrees_any 4 q c galsH (4, 0) _ (HI.out.1 _ List.mem_cons_self).1) (by rw [kn_agrees3])).mono ?_; rintro e W ⟨rfl, hI⟩; replace HI := Lib.hid hI; clear hI))
  go_upto_region 6 with (first 
    | (go_at_call 75; refine (HI.out.gal _ _ _).mono ?_; rintro e W ⟨rfl, hI⟩; replace HI := Lib.hid hI; clear hI) 
    | (go_at_call 25; refine (HI.out.scalar (V' := .tuple #[.agg #[.int .i64 (-1), .int .i64 (-1), .int .i64 (-4)], .int .i64 0]) (Opposite_any (1, 1, 3) _) (by rw [kn_opp])).mono ?_; rintro e W5 ⟨rfl, hI⟩; replace HI := Lib.hid hI; clear hI))
  replace HI := Lib.hid ((((HI.out.alloc (.cells #[.int .i64 (-1), .int .i64 (-1), .int .i64 (-4)] 28)).addC (b := W5.heap.size) (o := 0) (v := .int .i64 (-1)) (by simp) (by simp)).addC (b := W5.heap.size) (o := 1) (v := .int .i64 (-1)) (by simp) (by simp)).addC (b := W5.heap.size) (o := 2) (v := .int .i64 (-4)) (by simp) (by simp))
  generalize (W5.alloc (.cells #[.int .i64 (-1), .int .i64 (-1), .int .i64 (-4)] 28)) = W6 at HI ⊢
  generalize W5.heap.size = B1 at HI ⊢
  go_upto_region 7 with (first 
    | (go_at_call 75; refine (HI.out.gal _ _ _).mono ?_; rintro e W ⟨rfl, hI⟩; replace HI := Lib.hid hI; clear hI) 
    | (go_at_call 25; refine (HI.out.scalar (V' := .tuple #[.agg #[.int .i64 0, .int .i64 0, .int .i64 0], .int .i64 5]) (Opposite_any (0, 0, 1) _) (by rw [kn_opp2])).mono ?_; rintro e W7 ⟨rfl, hI⟩; replace HI := Lib.hid hI; clear hI))
  replace HI := Lib.hid (HI.out.alloc (.cells #[.int .i64 0, .int .i64 0, .int .i64 0] 28))
  generalize (W7.alloc (.cells #[.int .i64 0, .int .i64 0, .int .i64 0] 28)) = W8 at HI ⊢
  go_upto_region 8 with (first 
    | (go_at_call 91; refine (HI.out.hill (H_any _)).mono ?_; rintro e W ⟨q, c, rfl, hI⟩; replace HI := Lib.hid hI; clear hI) 
    | (go_at_call 75; refine (HI.out.gal _ _ _).mono ?_; rintro e W ⟨rfl, hI⟩; replace HI := Lib.hid hI; clear hI) 
    | (go_at_call 28; refine (HI.out.scalar (V' := .tuple #[.int .i64 1, .int .i64 0]) (Known_any 4 q c galsH (1, 0, 2) _ (HI.out.1 _ List.mem_cons_self).1 (HI.out.1 _ List.mem_cons_self).2) (by rw [kn_known])).mono ?_; rintro e W ⟨rfl, hI⟩; replace HI := Lib.hid hI; clear hI))
  go_upto_region 9 with (first 
    | (go_at_call 90; refine (HI.out.hill (K_any _)).mono ?_; rintro e W ⟨q, c, rfl, hI⟩; replace HI := Lib.hid hI; clear hI) 
    | (go_at_call 75; refine (HI.out.gal _ _ _).mono ?_; rintro e W ⟨rfl, hI⟩; replace HI := Lib.hid hI; clear hI) 
    | (go_at_call 28; refine (HI.out.scalar (V' := .tuple #[.int .i64 0, .int .i64 12]) (Known_any 3 q c galsK (1, 0, 2) _ (HI.out.1 _ List.mem_cons_self).1 (HI.out.1 _ List.mem_cons_self).2) (by rw [kn_known2])).mono ?_; rintro e W9 ⟨rfl, hI⟩; replace HI := Lib.hid hI; clear hI))
  go_upto_region 9 with (fail)
  go_cut [122] from 72 to 122 (fun v wx => v = .bool false ∧ Below w.heap.size w wx)
  case first =>
    refine region_F 43 8 (by kernel_rfl) (by kernel_rfl) (by kernel_rfl) (by kernel_rfl) ?_
    replace HI := Lib.hid HI.out.drew
    generalize W9.drew = W10 at HI ⊢
    intro K listed hu hK
    have HK := Lib.hid hK
    have HU := Lib.hid hu
    clear hK hu
    simp only [seg, List.drop_zero, List.drop_succ_cons, List.take_succ_cons, List.take_zero, List.map_cons, List.map_nil, slim, shade, List.map_toArray]
    go_wp2
    refine HK.out _ _ ?_
    clear HK
    obtain ⟨y1, y2, y3⟩ := cells3I HI.out
    refine pair_F 43 6 _ _ HU.out (by rfl) (by rfl) (by kernel_rfl) ?_ ?_
    · intro K listed hu hK
      have HK := Lib.hid hK
      have HU := Lib.hid hu
      clear hK hu
      simp only [seg, List.drop_zero, List.drop_succ_cons, List.take_succ_cons, List.take_zero, List.map_cons, List.map_nil, slim, shade, List.map_toArray]
      go_wp2_with (first | (go_at_call 75; refine (HI.out.gal _ _ _).mono ?_; rintro e W ⟨rfl, hI⟩; (try clear y1 y2 y3); obtain ⟨y1, y2, y3⟩ := cells3I hI; replace HI := Lib.hid hI; clear hI))
      refine HK.out _ _ ?_
      clear HK
      refine seg_F 45 6 0 HU.out (by kernel_rfl) (of_decide_eq_true (by kernel_rfl)) (by kernel_rfl) ?_
      intro K listed hu hK
      have HK := Lib.hid hK
      have HU := Lib.hid hu
      clear hK hu
      simp only [seg, List.drop_zero, List.drop_succ_cons, List.take_succ_cons, List.take_zero, List.map_cons, List.map_nil, slim, shade, List.map_toArray]
      go_wp2
      refine HK.out _ _ ?_
      clear HK
      refine end_F 51 HU.out (by kernel_rfl) ?_
      go_wp2
      go_meet
      case rel => exact ⟨rfl, HI.out.2.2.2.2⟩
    · intro K listed hu hK
      have HK := Lib.hid hK
      have HU := Lib.hid hu
      clear hK hu
      simp only [seg, List.drop_zero, List.drop_succ_cons, List.take_succ_cons, List.take_zero, List.map_cons, List.map_nil, slim, shade, List.map_toArray]
      go_wp2_with (first | (go_at_call 75; refine (HI.out.gal _ _ _).mono ?_; rintro e W ⟨rfl, hI⟩; (try clear y1 y2 y3); obtain ⟨y1, y2, y3⟩ := cells3I hI; replace HI := Lib.hid hI; clear hI))
      refine HK.out _ _ ?_
      clear HK
      refine seg_F 45 6 0 HU.out (by kernel_rfl) (of_decide_eq_true (by kernel_rfl)) (by kernel_rfl) ?_
      intro K listed hu hK
      have HK := Lib.hid hK
      have HU := Lib.hid hu
      clear hK hu
      simp only [seg, List.drop_zero, List.drop_succ_cons, List.take_succ_cons, List.take_zero, List.map_cons, List.map_nil, slim, shade, List.map_toArray]
      go_wp2
      refine HK.out _ _ ?_
      clear HK
      refine end_F 51 HU.out (by kernel_rfl) ?_
      go_wp2
      go_meet
      case rel => exact ⟨rfl, HI.out.2.2.2.2⟩
  case rest =>
    obtain ⟨rfl, hb9⟩ := hcut
    replace HI := Lib.hid (show Inv w wc [] [] [] [] from ⟨by simp, by simp, by simp, by simp, hb9⟩)
    clear hb9
    go_upto_region 12 with (first | (go_at_call 92; refine (HI.out.hill (hill_nil 4 _)).mono ?_; rintro e W ⟨q, c, rfl, hI⟩; replace HI := Lib.hid hI; clear hI) | (go_at_call 41; refine (HI.out.scalar (V' := .tuple #[.int .i64 0, .int .i64 4]) (Ask_any 4 q none c 0 [] [] _ (HI.out.1 _ List.mem_cons_self).1 (HI.out.1 _ List.mem_cons_self).2 (.inl rfl) (by decide)) (by rw [kn_ask])).mono ?_; rintro e W ⟨rfl, hI⟩; replace HI := Lib.hid hI; clear hI))
    go_upto_region 13 with (first | (go_at_call 92; refine (HI.out.hill (hill_nil 4 _)).mono ?_; rintro e W ⟨q, c, rfl, hI⟩; replace HI := Lib.hid hI; clear hI) | (go_at_call 75; refine (HI.out.gal _ _ _).mono ?_; rintro e W ⟨rfl, hI⟩; replace HI := Lib.hid hI; clear hI) | (go_at_call 41; refine ((HI.out.alloc (.cells (flatG [(1, 0, 0), (1, 0, 1), (0, 1, 1)]).toArray 28)).scalar (V' := .tuple #[.int .i64 1, .int .i64 0]) (Ask_any 4 q _ c 3 [] [(1, 0, 0), (1, 0, 1), (0, 1, 1)] _ ((HI.out.alloc (.cells (flatG [(1, 0, 0), (1, 0, 1), (0, 1, 1)]).toArray 28)).1 _ List.mem_cons_self).1 (HI.out.1 _ List.mem_cons_self).2 (rowG_new _ [(1, 0, 0), (1, 0, 1), (0, 1, 1)] 28 (0, 0)) (by decide)) (by rw [kn_ask2])).mono ?_; rintro e W ⟨rfl, hI⟩; replace HI := Lib.hid hI; clear hI))
    go_upto_region 14 with (first | (go_at_call 91; refine (HI.out.hill (H_any _)).mono ?_; rintro e W ⟨q, c, rfl, hI⟩; replace HI := Lib.hid hI; clear hI) | (go_at_call 36; refine (HI.out.listErr (Wrong_any 4 q c galsH _ (HI.out.1 _ List.mem_cons_self).1) kn_wrong).mono ?_; rintro e W ⟨qw, cw, rfl, hI⟩; replace HI := Lib.hid hI; clear hI))
    go_upto_region 15 with (first | (go_at_call 91; refine (HI.out.hill (H_any _)).mono ?_; rintro e W ⟨q, c, rfl, hI⟩; replace HI := Lib.hid hI; clear hI) | (go_at_call 44; refine (HI.out.listErr (Needless_any 4 q c galsH _ (HI.out.1 _ List.mem_cons_self).1) kn_needless).mono ?_; rintro e W ⟨qx, cx, rfl, hI⟩; replace HI := Lib.hid hI; clear hI))
    go_upto_region 16 with (first | (go_at_call 91; refine (HI.out.hill (H_any _)).mono ?_; rintro e W ⟨q, c, rfl, hI⟩; replace HI := Lib.hid hI; clear hI) | (go_at_call 46; refine (HI.out.listErr (Fewest_any 4 q c galsH _ (HI.out.1 _ List.mem_cons_self).1) kn_fewest).mono ?_; rintro e W ⟨qy, cy, rfl, hI⟩; replace HI := Lib.hid hI; clear hI))
    go_upto_region 17 with (first | (go_at_call 93; refine ((HI.out.alloc _).places (places_lit [0, 0, 1, 1, 2, 2] _ _ rfl (by decide))).mono ?_; rintro e W ⟨q, c, rfl, hI⟩; replace HI := Lib.hid hI; clear hI) | (go_at_call 49; refine (HI.out.hullP (Hull_any q c [(0, 0), (1, 1), (2, 2)] _ (HI.out.2.1 _ List.mem_cons_self)) kn_errP1 (fun _ => kn_hull1)).mono ?_; rintro e W ⟨qp, cp, rfl, hI⟩; replace HI := Lib.hid hI; clear hI))
    go_upto_region 18 with (first | (go_at_call 93; refine ((HI.out.alloc _).places (places_lit [3, 3] _ _ rfl (by decide))).mono ?_; rintro e W ⟨q, c, rfl, hI⟩; replace HI := Lib.hid hI; clear hI) | (go_at_call 49; refine (HI.out.hullP (Hull_any q c [(3, 3)] _ (HI.out.2.1 _ List.mem_cons_self)) kn_errP2 (fun _ => kn_hull2)).mono ?_; rintro e W18 ⟨qq, cq, rfl, hI⟩; replace HI := Lib.hid hI; clear hI))
    try simp only [List.append_eq, List.cons_append, List.nil_append]
    refine plain_F 43 ?_
    intro K hK
    have HK := Lib.hid hK
    clear hK
    simp only [seg, List.drop_zero, List.drop_succ_cons, List.take_succ_cons, List.take_zero, List.map_cons, List.map_nil, slim, shade, List.map_toArray]
    go_wp2_with (first | (go_at_call 73; refine ((HI.out.lit [0, 1, 2]).list _).mono ?_; rintro e W ⟨rfl, hI⟩; replace HI := Lib.hid hI; clear hI) | (go_at_call 38; refine (HI.out.same qy _ cy _ [0, 1, 2] [0, 1, 2] true (by simp) List.mem_cons_self (by decide) (by decide) rfl).mono ?_; rintro e W ⟨rfl, hI⟩; replace HI := Lib.hid hI; clear hI))
    refine HK.out _ _ ?_
    clear HK
    simp only [seg, List.drop_zero, List.drop_succ_cons, List.take_succ_cons, List.take_zero, List.map_cons, List.map_nil, slim, shade, List.map_toArray]
    refine list_F 7 ?_
    intro K hK
    have HK := Lib.hid hK
    clear hK
    simp only [seg, List.drop_zero, List.drop_succ_cons, List.take_succ_cons, List.take_zero, List.map_cons, List.map_nil, slim, shade, List.map_toArray]
    go_wp2_with (first | (go_at_call 93; refine ((HI.out.alloc _).places (places_lit [0, 0, 2, 2] _ _ rfl (by decide))).mono ?_; rintro e W ⟨q, c, rfl, hI⟩; replace HI := Lib.hid hI; clear hI) | (go_at_call 65; refine (HI.out.alike qp _ cp _ [(0, 0), (2, 2)] [(0, 0), (2, 2)] true (by simp) List.mem_cons_self (by decide) (by decide) rfl).mono ?_; rintro e W ⟨rfl, hI⟩; replace HI := Lib.hid hI; clear hI))
    refine HK.out _ _ ?_
    clear HK
    simp only [seg, List.drop_zero, List.drop_succ_cons, List.take_succ_cons, List.take_zero, List.map_cons, List.map_nil, slim, shade, List.map_toArray]
    go_upto_region 20 with (first | (go_at_call 93; refine ((HI.out.alloc _).places (places_lit [3, 3] _ _ rfl (by decide))).mono ?_; rintro e W ⟨q, c, rfl, hI⟩; replace HI := Lib.hid hI; clear hI) | (go_at_call 65; refine (HI.out.alike qq _ cq _ [(3, 3)] [(3, 3)] true (by simp) List.mem_cons_self (by decide) (by decide) rfl).mono ?_; rintro e W ⟨rfl, hI⟩; replace HI := Lib.hid hI; clear hI))
    go_upto_region 21 with (first | (go_at_call 94; refine (HI.out.places (P_any _)).mono ?_; rintro e W ⟨q, c, rfl, hI⟩; replace HI := Lib.hid hI; clear hI) | (go_at_call 51; refine (HI.out.listErr (Within_any q c ptsP (1, 1) _ (HI.out.2.1 _ List.mem_cons_self)) kn_within).mono ?_; rintro e W ⟨qs, cs, rfl, hI⟩; replace HI := Lib.hid hI; clear hI))
    go_upto_region 22 with (first | (go_at_call 94; refine (HI.out.places (P_any _)).mono ?_; rintro e W ⟨q, c, rfl, hI⟩; replace HI := Lib.hid hI; clear hI) | (go_at_call 51; refine (HI.out.listErr (Within_any q c ptsP (2, 2) _ (HI.out.2.1 _ List.mem_cons_self)) kn_within2).mono ?_; rintro e W ⟨qt, ct, rfl, hI⟩; replace HI := Lib.hid hI; clear hI))
    go_upto_region 23 with (first | (go_at_call 94; refine (HI.out.places (P_any _)).mono ?_; rintro e W ⟨q, c, rfl, hI⟩; replace HI := Lib.hid hI; clear hI) | (go_at_call 51; refine (HI.out.listErr (Within_any q c ptsP (3, 1) _ (HI.out.2.1 _ List.mem_cons_self)) kn_within3).mono ?_; rintro e W ⟨qu, cu, rfl, hI⟩; replace HI := Lib.hid hI; clear hI))
    go_upto_region 24 with (first | (go_at_call 94; refine (HI.out.places (P_any _)).mono ?_; rintro e W ⟨q, c, rfl, hI⟩; replace HI := Lib.hid hI; clear hI) | (go_at_call 53; refine (HI.out.scalar (V' := .tuple #[.agg #[.int .i64 0, .int .i64 0, .int .i64 0], .int .i64 13]) (Apart_any q c ptsP (2, 2) _ (HI.out.2.1 _ List.mem_cons_self)) (by rw [kn_apart])).mono ?_; rintro e W ⟨rfl, hI⟩; replace HI := Lib.hid hI; clear hI))
    go_upto_region 25 with (first | (go_at_call 94; refine (HI.out.places (P_any _)).mono ?_; rintro e W ⟨q, c, rfl, hI⟩; replace HI := Lib.hid hI; clear hI) | (go_at_call 57; refine (HI.out.listErr (Divide_any q c ptsP _ (HI.out.2.1 _ List.mem_cons_self)) kn_divide).mono ?_; rintro e W ⟨qd, cd, rfl, hI⟩; replace HI := Lib.hid hI; clear hI))
    go_upto_region 26 with (first | (go_at_call 94; refine (HI.out.places (P_any _)).mono ?_; rintro e W ⟨q, c, rfl, hI⟩; replace HI := Lib.hid hI; clear hI) | (go_at_call 59; refine (HI.out.scalar (V' := .tuple #[.int .i64 0, .int .i64 0]) (Depth_any q c ptsP (6, 6) _ (HI.out.2.1 _ List.mem_cons_self)) (by rw [kn_depth])).mono ?_; rintro e W25 ⟨rfl, hI⟩; replace HI := Lib.hid hI; clear hI))
    try simp only [List.append_eq, List.cons_append, List.nil_append]
    refine plain_F 27 ?_
    intro K hK
    have HK := Lib.hid hK
    clear hK
    simp only [seg, List.drop_zero, List.drop_succ_cons, List.take_succ_cons, List.take_zero, List.map_cons, List.map_nil, slim, shade, List.map_toArray]
    go_wp2_with (first | (go_at_call 73; refine ((HI.out.lit [2]).list _).mono ?_; rintro e W ⟨rfl, hI⟩; replace HI := Lib.hid hI; clear hI) | (go_at_call 38; refine (HI.out.same qs _ cs _ [2] [2] true (by simp) List.mem_cons_self (by decide) (by decide) rfl).mono ?_; rintro e W ⟨rfl, hI⟩; replace HI := Lib.hid hI; clear hI))
    refine HK.out _ _ ?_
    clear HK
    simp only [seg, List.drop_zero, List.drop_succ_cons, List.take_succ_cons, List.take_zero, List.map_cons, List.map_nil, slim, shade, List.map_toArray]
    refine list_F 6 ?_
    intro K hK
    have HK := Lib.hid hK
    clear hK
    simp only [seg, List.drop_zero, List.drop_succ_cons, List.take_succ_cons, List.take_zero, List.map_cons, List.map_nil, slim, shade, List.map_toArray]
    go_wp2_with (first | (go_at_call 73; refine ((HI.out.lit [0, 4]).list _).mono ?_; rintro e W ⟨rfl, hI⟩; replace HI := Lib.hid hI; clear hI) | (go_at_call 38; refine (HI.out.same qt _ ct _ [0, 4] [0, 4] true (by simp) List.mem_cons_self (by decide) (by decide) rfl).mono ?_; rintro e W ⟨rfl, hI⟩; replace HI := Lib.hid hI; clear hI))
    refine HK.out _ _ ?_
    clear HK
    simp only [seg, List.drop_zero, List.drop_succ_cons, List.take_succ_cons, List.take_zero, List.map_cons, List.map_nil, slim, shade, List.map_toArray]
    refine list_F 6 ?_
    intro K hK
    have HK := Lib.hid hK
    clear hK
    simp only [seg, List.drop_zero, List.drop_succ_cons, List.take_succ_cons, List.take_zero, List.map_cons, List.map_nil, slim, shade, List.map_toArray]
    go_wp2_with (first | (go_at_call 73; refine ((HI.out.lit [1, 3]).list _).mono ?_; rintro e W ⟨rfl, hI⟩; replace HI := Lib.hid hI; clear hI) | (go_at_call 38; refine (HI.out.same qu _ cu _ [1, 3] [1, 3] true (by simp) List.mem_cons_self (by decide) (by decide) rfl).mono ?_; rintro e W ⟨rfl, hI⟩; replace HI := Lib.hid hI; clear hI))
    refine HK.out _ _ ?_
    clear HK
    simp only [seg, List.drop_zero, List.drop_succ_cons, List.take_succ_cons, List.take_zero, List.map_cons, List.map_nil, slim, shade, List.map_toArray]
    refine list_F 13 ?_
    intro K hK
    have HK := Lib.hid hK
    clear hK
    simp only [seg, List.drop_zero, List.drop_succ_cons, List.take_succ_cons, List.take_zero, List.map_cons, List.map_nil, slim, shade, List.map_toArray]
    go_wp2_with (first | (go_at_call 90; refine (HI.out.hill (K_any _)).mono ?_; rintro e W ⟨q, c, rfl, hI⟩; replace HI := Lib.hid hI; clear hI) | (go_at_call 73; refine ((HI.out.lit [1, 0]).list _).mono ?_; rintro e W ⟨rfl, hI⟩; replace HI := Lib.hid hI; clear hI) | (go_at_call 39; refine (HI.out.scalar (V' := .int .i64 7) (Proves_any 3 q _ c _ galsK [1, 0] _ (HI.out.1 _ List.mem_cons_self).1 (HI.out.2.2.1 _ List.mem_cons_self) (by decide)) (by rw [kn_proves])).mono ?_; rintro e W ⟨rfl, hI⟩; replace HI := Lib.hid hI; clear hI))
    refine HK.out _ _ ?_
    clear HK
    simp only [seg, List.drop_zero, List.drop_succ_cons, List.take_succ_cons, List.take_zero, List.map_cons, List.map_nil, slim, shade, List.map_toArray]
    refine list_F 7 ?_
    intro K hK
    have HK := Lib.hid hK
    clear hK
    simp only [seg, List.drop_zero, List.drop_succ_cons, List.take_succ_cons, List.take_zero, List.map_cons, List.map_nil, slim, shade, List.map_toArray]
    go_wp2_with (first | (go_at_call 90; refine (HI.out.hill (K_any _)).mono ?_; rintro e W ⟨q, c, rfl, hI⟩; replace HI := Lib.hid hI; clear hI) | (go_at_call 73; refine ((HI.out.lit [3]).list _).mono ?_; rintro e W ⟨rfl, hI⟩; replace HI := Lib.hid hI; clear hI) | (go_at_call 39; refine (HI.out.scalar (V' := .int .i64 2) (Proves_any 3 q _ c _ galsK [3] _ (HI.out.1 _ List.mem_cons_self).1 (HI.out.2.2.1 _ List.mem_cons_self) (by decide)) (by rw [kn_proves2])).mono ?_; rintro e W ⟨rfl, hI⟩; replace HI := Lib.hid hI; clear hI))
    refine HK.out _ _ ?_
    clear HK
    simp only [seg, List.drop_zero, List.drop_succ_cons, List.take_succ_cons, List.take_zero, List.map_cons, List.map_nil, slim, shade, List.map_toArray]
    refine list_F 5 ?_
    intro K hK
    have HK := Lib.hid hK
    clear hK
    simp only [seg, List.drop_zero, List.drop_succ_cons, List.take_succ_cons, List.take_zero, List.map_cons, List.map_nil, slim, shade, List.map_toArray]
    go_wp2_with (first | (go_at_call 92; refine (HI.out.hill (hill_nil 8 _)).mono ?_; rintro e W ⟨q, c, rfl, hI⟩; replace HI := Lib.hid hI; clear hI) | (go_at_call 32; refine (HI.out.scalar (V' := .int .i64 1) (check_any 8 q c ([]) _ (HI.out.1 _ List.mem_cons_self).1) (by rw [kn_check])).mono ?_; rintro e W ⟨rfl, hI⟩; replace HI := Lib.hid hI; clear hI))
    refine HK.out _ _ ?_
    clear HK
    simp only [seg, List.drop_zero, List.drop_succ_cons, List.take_succ_cons, List.take_zero, List.map_cons, List.map_nil, slim, shade, List.map_toArray]
    refine list_F 6 ?_
    intro K hK
    have HK := Lib.hid hK
    clear hK
    simp only [seg, List.drop_zero, List.drop_succ_cons, List.take_succ_cons, List.take_zero, List.map_cons, List.map_nil, slim, shade, List.map_toArray]
    go_wp2_with (first | (go_at_call 92; refine ((HI.out.alloc _).hill (hill_lit 3 [0, 0, 1] _ _ rfl (by decide))).mono ?_; rintro e W ⟨q, c, rfl, hI⟩; replace HI := Lib.hid hI; clear hI) | (go_at_call 32; refine (HI.out.scalar (V' := .int .i64 5) (check_any 3 q c (galsOf [0, 0, 1]) _ (HI.out.1 _ List.mem_cons_self).1) (by rw [kn_check2])).mono ?_; rintro e W ⟨rfl, hI⟩; replace HI := Lib.hid hI; clear hI))
    refine HK.out _ _ ?_
    clear HK
    simp only [seg, List.drop_zero, List.drop_succ_cons, List.take_succ_cons, List.take_zero, List.map_cons, List.map_nil, slim, shade, List.map_toArray]
    refine list_F 6 ?_
    intro K hK
    have HK := Lib.hid hK
    clear hK
    simp only [seg, List.drop_zero, List.drop_succ_cons, List.take_succ_cons, List.take_zero, List.map_cons, List.map_nil, slim, shade, List.map_toArray]
    go_wp2_with (first | (go_at_call 92; refine ((HI.out.alloc _).hill (hill_lit 3 [10, 0, 0] _ _ rfl (by decide))).mono ?_; rintro e W ⟨q, c, rfl, hI⟩; replace HI := Lib.hid hI; clear hI) | (go_at_call 32; refine (HI.out.scalar (V' := .int .i64 1) (check_any 3 q c (galsOf [10, 0, 0]) _ (HI.out.1 _ List.mem_cons_self).1) (by rw [kn_check3])).mono ?_; rintro e W ⟨rfl, hI⟩; replace HI := Lib.hid hI; clear hI))
    refine HK.out _ _ ?_
    clear HK
    simp only [seg, List.drop_zero, List.drop_succ_cons, List.take_succ_cons, List.take_zero, List.map_cons, List.map_nil, slim, shade, List.map_toArray]
    refine list_F 4 ?_
    intro K hK
    have HK := Lib.hid hK
    clear hK
    simp only [seg, List.drop_zero, List.drop_succ_cons, List.take_succ_cons, List.take_zero, List.map_cons, List.map_nil, slim, shade, List.map_toArray]
    go_wp2_with (first | (go_at_call 55; refine (HI.out.scalar (V' := .int .i64 4) (Points_any none 0 [] _ (.inl rfl)) (by rw [kn_points])).mono ?_; rintro e W ⟨rfl, hI⟩; replace HI := Lib.hid hI; clear hI))
    refine HK.out _ _ ?_
    clear HK
    simp only [seg, List.drop_zero, List.drop_succ_cons, List.take_succ_cons, List.take_zero, List.map_cons, List.map_nil, slim, shade, List.map_toArray]
    refine list_F 6 ?_
    intro K hK
    have HK := Lib.hid hK
    clear hK
    simp only [seg, List.drop_zero, List.drop_succ_cons, List.take_succ_cons, List.take_zero, List.map_cons, List.map_nil, slim, shade, List.map_toArray]
    go_wp2_with (first | (go_at_call 93; refine ((HI.out.alloc _).places (places_lit [0, 0, 0, 0] _ _ rfl (by decide))).mono ?_; rintro e W ⟨q, c, rfl, hI⟩; replace HI := Lib.hid hI; clear hI) | (go_at_call 55; refine (HI.out.scalar (V' := .int .i64 7) (Points_any q c (placesOf [0, 0, 0, 0]) _ (HI.out.2.1 _ List.mem_cons_self)) (by rw [kn_points2])).mono ?_; rintro e W ⟨rfl, hI⟩; replace HI := Lib.hid hI; clear hI))
    refine HK.out _ _ ?_
    clear HK
    simp only [seg, List.drop_zero, List.drop_succ_cons, List.take_succ_cons, List.take_zero, List.map_cons, List.map_nil, slim, shade, List.map_toArray]
    refine list_F 6 ?_
    intro K hK
    have HK := Lib.hid hK
    clear hK
    simp only [seg, List.drop_zero, List.drop_succ_cons, List.take_succ_cons, List.take_zero, List.map_cons, List.map_nil, slim, shade, List.map_toArray]
    go_wp2_with (first | (go_at_call 93; refine ((HI.out.alloc _).places (places_lit [7, 0] _ _ rfl (by decide))).mono ?_; rintro e W ⟨q, c, rfl, hI⟩; replace HI := Lib.hid hI; clear hI) | (go_at_call 55; refine (HI.out.scalar (V' := .int .i64 2) (Points_any q c (placesOf [7, 0]) _ (HI.out.2.1 _ List.mem_cons_self)) (by rw [kn_points3])).mono ?_; rintro e W ⟨rfl, hI⟩; replace HI := Lib.hid hI; clear hI))
    refine HK.out _ _ ?_
    clear HK
    simp only [seg, List.drop_zero, List.drop_succ_cons, List.take_succ_cons, List.take_zero, List.map_cons, List.map_nil, slim, shade, List.map_toArray]
    go_wp2_with (go_at_call 19; refine (HI.out.scalar (works_any _) rfl).mono ?_; rintro e W ⟨rfl, hI⟩; replace HI := Lib.hid hI; clear hI)
    go_ret
    exact ⟨rfl, HI.out.2.2.2.2⟩
end Go.Proofs.Ytcalipoknbbaaaa
