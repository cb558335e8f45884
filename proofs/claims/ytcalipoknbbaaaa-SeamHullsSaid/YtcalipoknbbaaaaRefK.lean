/- covers of the reference at three points. -/
import Derived.Test.YtcalipoknbbaaaaRefH
namespace Go.Proofs.Ytcalipoknbbaaaa
open Go.RowKit
set_option linter.unusedSimpArgs false
set_option linter.unusedVariables false
attribute [local go_sem ↓] equalR nequalR

theorem row_two (V : World) (a c : Pl) : RowP (V.alloc (.cells #[.int .i64 a.1, .int .i64 a.2, .int .i64 c.1, .int .i64 c.2] 38)) (some ⟨V.heap.size, 0, none⟩) [a, c] := by
  refine .inr ⟨V.heap.size, 0, rfl, by simp, fun i hi => ?_⟩
  have : i = 0 ∨ i = 1 := by simp at hi; omega
  rcases this with rfl | rfl <;> simp
set_option maxRecDepth 100000 in
set_option maxHeartbeats 8000000 in
theorem rcov3_any (q : Option Addr) (cp : Nat) (a b c p : Pl) (w : World) (hr : RowP w q [a, b, c]) (hcp : 3 ≤ cp) (ha : okP a) (hb : okP b) (hc : okP c) (hp : okP p) :
    Calls Try.prog 149 #[.slice q 3 cp, .agg #[.int .i64 p.1, .int .i64 p.2]] w fun e w' => e = .returned (.bool (cov3 a b c p)) ∧ Below w.heap.size w w' := by
  have HI := Lib.hid (Inv.onePP w q [a, b, c] p hr)
  have k0 := HI.out.c (b := w.heap.size) (o := 0) (v := .int .i64 p.1) (by simp)
  have k1 := HI.out.c (b := w.heap.size) (o := 1) (v := .int .i64 p.2) (by simp)
  obtain ⟨bb, off, rfl, hbk, ⟨k2, k3⟩, ⟨k4, k5⟩, k6, k7⟩ := (HI.out.2.1 (q, [a, b, c]) (by simp)).c3
  obtain ⟨T, hT⟩ : ∃ T, turnP a b c = T := ⟨_, rfl⟩
  obtain ⟨T1, hT1⟩ : ∃ T1, turnP a b p = T1 := ⟨_, rfl⟩
  obtain ⟨T2, hT2⟩ : ∃ T2, turnP b c p = T2 := ⟨_, rfl⟩
  obtain ⟨T3, hT3⟩ : ∃ T3, turnP c a p = T3 := ⟨_, rfl⟩
  obtain ⟨X1, hX1⟩ : ∃ X, cov2 a b p = X := ⟨_, rfl⟩
  obtain ⟨X2, hX2⟩ : ∃ X, cov2 b c p = X := ⟨_, rfl⟩
  obtain ⟨X3, hX3⟩ : ∃ X, cov2 a c p = X := ⟨_, rfl⟩
  have hres : cov3 a b c p = if T = 0 then X1 || (X2 || X3) else (decide (0 ≤ T1) && (decide (0 ≤ T2) && decide (0 ≤ T3))) || (decide (T1 ≤ 0) && (decide (T2 ≤ 0) && decide (T3 ≤ 0))) := by rw [cov3, hT, hT1, hT2, hT3, hX1, hX2, hX3]
  have S1 := fun V => rside_any a b p V ha hb hp
  have S2 := fun V => rside_any b c p V hb hc hp
  have S3 := fun V => rside_any c a p V hc ha hp
  have S4 := fun V => rside_any a b c V ha hb hc
  rw [hT1] at S1
  rw [hT2] at S2
  rw [hT3] at S3
  rw [hT] at S4
  have C1 := fun (V : World) (q : Option Addr) (n : Nat) (h : RowP V q [a, b]) => rcov2_any q n a b p V h ha hb hp
  have C2 := fun (V : World) (q : Option Addr) (n : Nat) (h : RowP V q [b, c]) => rcov2_any q n b c p V h hb hc hp
  have C3 := fun (V : World) (q : Option Addr) (n : Nat) (h : RowP V q [a, c]) => rcov2_any q n a c p V h ha hc hp
  rw [hX1] at C1
  rw [hX2] at C2
  rw [hX3] at C3
  have HS1 := Lib.hid S1
  have HS2 := Lib.hid S2
  have HS3 := Lib.hid S3
  have HS4 := Lib.hid S4
  have HC1 := Lib.hid C1
  have HC2 := Lib.hid C2
  have HC3 := Lib.hid C3
  obtain ⟨Z, hZ⟩ : ∃ Z, cov3 a b c p = Z := ⟨_, rfl⟩
  rw [hZ] at hres
  rw [hZ]
  have HRES := Lib.hid hres
  generalize hW0 : (w.alloc (.cells #[.int .i64 p.1, .int .i64 p.2] 38)) = W0 at *
  have HW0 := Lib.hid hW0
  have HID := Lib.hid (HI.out.go (Below.refl _ _).drew)
  have hbn : bb < W0.drew.heap.size := hbk
  have n0 : W0.drew.cell? ⟨w.heap.size, 0, none⟩ = some (.int .i64 p.1) := k0
  have n1 : W0.drew.cell? ⟨w.heap.size, 1, none⟩ = some (.int .i64 p.2) := k1
  have n2 : W0.drew.cell? ⟨bb, off, none⟩ = some (.int .i64 a.1) := k2
  have n3 : W0.drew.cell? ⟨bb, off + 1, none⟩ = some (.int .i64 a.2) := k3
  have n4 : W0.drew.cell? ⟨bb, off + 2, none⟩ = some (.int .i64 b.1) := k4
  have n5 : W0.drew.cell? ⟨bb, off + 3, none⟩ = some (.int .i64 b.2) := k5
  have n6 : W0.drew.cell? ⟨bb, off + 4, none⟩ = some (.int .i64 c.1) := k6
  have n7 : W0.drew.cell? ⟨bb, off + 5, none⟩ = some (.int .i64 c.2) := k7
  clear hr hT hT1 hT2 hT3 hX1 hX2 hX3 hres hZ S1 S2 S3 S4 C1 C2 C3 hW0 ha hb hc hp
  go_enter Try.func149, Try.ntmps149
  go_upto_region 5 with fail
  rw [HW0.out]
  go_region_held3 (fun W => W.cell? ⟨w.heap.size, 0, none⟩ = some (.int .i64 p.1) ∧ W.cell? ⟨w.heap.size, 1, none⟩ = some (.int .i64 p.2) ∧ W.cell? ⟨bb, off, none⟩ = some (.int .i64 a.1) ∧ W.cell? ⟨bb, off + 1, none⟩ = some (.int .i64 a.2) ∧ W.cell? ⟨bb, off + 2, none⟩ = some (.int .i64 b.1) ∧ W.cell? ⟨bb, off + 3, none⟩ = some (.int .i64 b.2) ∧ W.cell? ⟨bb, off + 4, none⟩ = some (.int .i64 c.1) ∧ W.cell? ⟨bb, off + 5, none⟩ = some (.int .i64 c.2)) (first | exact ⟨k0, k1, k2, k3, k4, k5, k6, k7⟩ | exact ⟨n0, n1, n2, n3, n4, n5, n6, n7⟩ | exact ⟨d0, d1, d2, d3, d4, d5, d6, d7⟩ | exact ⟨e0, e1, e2, e3, e4, e5, e6, e7⟩ | exact ⟨f0, f1, f2, f3, f4, f5, f6, f7⟩ | go_keep)
    (first
    | (go_at_call 119; have hcc := HS1.out W0.drew; (with_reducible refine hcc.mono ?_); clear hcc; rintro e V1 ⟨rfl, hb⟩; have J1 := Lib.hid (HID.out.go hb); have d0 := J1.out.c (b := w.heap.size) (o := 0) (v := .int .i64 p.1) (by simp); have d1 := J1.out.c (b := w.heap.size) (o := 1) (v := .int .i64 p.2) (by simp); have d2 := (hb.cell (p := ⟨bb, off, none⟩) hbn).trans n2; have d3 := (hb.cell (p := ⟨bb, off + 1, none⟩) hbn).trans n3; have d4 := (hb.cell (p := ⟨bb, off + 2, none⟩) hbn).trans n4; have d5 := (hb.cell (p := ⟨bb, off + 3, none⟩) hbn).trans n5; have d6 := (hb.cell (p := ⟨bb, off + 4, none⟩) hbn).trans n6; have d7 := (hb.cell (p := ⟨bb, off + 5, none⟩) hbn).trans n7; have hbd : bb < V1.heap.size := Nat.lt_of_lt_of_le hbn hb.size; clear hb)
    | (go_at_call 119; have hcc := HS2.out V1; (with_reducible refine hcc.mono ?_); clear hcc; rintro e V2 ⟨rfl, hb⟩; have J2 := Lib.hid (J1.out.go hb); have e0 := J2.out.c (b := w.heap.size) (o := 0) (v := .int .i64 p.1) (by simp); have e1 := J2.out.c (b := w.heap.size) (o := 1) (v := .int .i64 p.2) (by simp); have e2 := (hb.cell (p := ⟨bb, off, none⟩) hbd).trans d2; have e3 := (hb.cell (p := ⟨bb, off + 1, none⟩) hbd).trans d3; have e4 := (hb.cell (p := ⟨bb, off + 2, none⟩) hbd).trans d4; have e5 := (hb.cell (p := ⟨bb, off + 3, none⟩) hbd).trans d5; have e6 := (hb.cell (p := ⟨bb, off + 4, none⟩) hbd).trans d6; have e7 := (hb.cell (p := ⟨bb, off + 5, none⟩) hbd).trans d7; have hbe : bb < V2.heap.size := Nat.lt_of_lt_of_le hbd hb.size; clear hb)
    | (go_at_call 119; have hcc := HS3.out V2; (with_reducible refine hcc.mono ?_); clear hcc; rintro e V3 ⟨rfl, hb⟩; have J3 := Lib.hid (J2.out.go hb); have f0 := J3.out.c (b := w.heap.size) (o := 0) (v := .int .i64 p.1) (by simp); have f1 := J3.out.c (b := w.heap.size) (o := 1) (v := .int .i64 p.2) (by simp); have f2 := (hb.cell (p := ⟨bb, off, none⟩) hbe).trans e2; have f3 := (hb.cell (p := ⟨bb, off + 1, none⟩) hbe).trans e3; have f4 := (hb.cell (p := ⟨bb, off + 2, none⟩) hbe).trans e4; have f5 := (hb.cell (p := ⟨bb, off + 3, none⟩) hbe).trans e5; have f6 := (hb.cell (p := ⟨bb, off + 4, none⟩) hbe).trans e6; have f7 := (hb.cell (p := ⟨bb, off + 5, none⟩) hbe).trans e7; have hbf : bb < V3.heap.size := Nat.lt_of_lt_of_le hbe hb.size; clear hb)
    | fail)
  all_goals
    clear k0 k1 k2 k3 k4 k5 k6 k7 n0 n1 n2 n3 n4 n5 n6 n7 d0 d1 d2 d3 d4 d5 d6 d7 e0 e1 e2 e3 e4 e5 e6 e7 hbk hbn hbd hbe HI HID J1 J2
    have HJ := Lib.hid (J3.out.go (Below.refl _ _).drew)
    have hbm : bb < V3.drew.heap.size := hbf
    have m0 : V3.drew.cell? ⟨w.heap.size, 0, none⟩ = some (.int .i64 p.1) := f0
    have m1 : V3.drew.cell? ⟨w.heap.size, 1, none⟩ = some (.int .i64 p.2) := f1
    have m2 : V3.drew.cell? ⟨bb, off, none⟩ = some (.int .i64 a.1) := f2
    have m3 : V3.drew.cell? ⟨bb, off + 1, none⟩ = some (.int .i64 a.2) := f3
    have m4 : V3.drew.cell? ⟨bb, off + 2, none⟩ = some (.int .i64 b.1) := f4
    have m5 : V3.drew.cell? ⟨bb, off + 3, none⟩ = some (.int .i64 b.2) := f5
    have m6 : V3.drew.cell? ⟨bb, off + 4, none⟩ = some (.int .i64 c.1) := f6
    have m7 : V3.drew.cell? ⟨bb, off + 5, none⟩ = some (.int .i64 c.2) := f7
    go_upto_region 6 with fail
  go_region_held3 (fun W => W.cell? ⟨w.heap.size, 0, none⟩ = some (.int .i64 p.1) ∧ W.cell? ⟨w.heap.size, 1, none⟩ = some (.int .i64 p.2) ∧ W.cell? ⟨bb, off, none⟩ = some (.int .i64 a.1) ∧ W.cell? ⟨bb, off + 1, none⟩ = some (.int .i64 a.2) ∧ W.cell? ⟨bb, off + 2, none⟩ = some (.int .i64 b.1) ∧ W.cell? ⟨bb, off + 3, none⟩ = some (.int .i64 b.2) ∧ W.cell? ⟨bb, off + 4, none⟩ = some (.int .i64 c.1) ∧ W.cell? ⟨bb, off + 5, none⟩ = some (.int .i64 c.2)) (first | exact ⟨f0, f1, f2, f3, f4, f5, f6, f7⟩ | exact ⟨m0, m1, m2, m3, m4, m5, m6, m7⟩ | exact ⟨d0, d1, d2, d3, d4, d5, d6, d7⟩ | go_keep)
    (first
    | (go_at_call 119; have hcc := HS4.out V3.drew; (with_reducible refine hcc.mono ?_); clear hcc; rintro e V4 ⟨rfl, hb⟩; have J4 := Lib.hid (HJ.out.go hb); have d0 := J4.out.c (b := w.heap.size) (o := 0) (v := .int .i64 p.1) (by simp); have d1 := J4.out.c (b := w.heap.size) (o := 1) (v := .int .i64 p.2) (by simp); have d2 := (hb.cell (p := ⟨bb, off, none⟩) hbm).trans m2; have d3 := (hb.cell (p := ⟨bb, off + 1, none⟩) hbm).trans m3; have d4 := (hb.cell (p := ⟨bb, off + 2, none⟩) hbm).trans m4; have d5 := (hb.cell (p := ⟨bb, off + 3, none⟩) hbm).trans m5; have d6 := (hb.cell (p := ⟨bb, off + 4, none⟩) hbm).trans m6; have d7 := (hb.cell (p := ⟨bb, off + 5, none⟩) hbm).trans m7; have hbd : bb < V4.heap.size := Nat.lt_of_lt_of_le hbm hb.size; clear hb)
    | fail)
  clear f0 f1 f2 f3 f4 f5 f6 f7 m0 m1 m2 m3 m4 m5 m6 m7 hbf hbm HJ J3
  by_cases hT0 : T = 0
  · have hTb : (T == 0) = true := by simp [hT0]
    have hz := HRES.out
    rw [if_pos hT0] at hz
    have HZ := Lib.hid hz
    have HK := Lib.hid (J4.out.go (Below.refl _ _).drew)
    have hbn : bb < V4.drew.heap.size := hbd
    clear hz hT0
    have n0 : V4.drew.cell? ⟨w.heap.size, 0, none⟩ = some (.int .i64 p.1) := d0
    have n1 : V4.drew.cell? ⟨w.heap.size, 1, none⟩ = some (.int .i64 p.2) := d1
    have n2 : V4.drew.cell? ⟨bb, off, none⟩ = some (.int .i64 a.1) := d2
    have n3 : V4.drew.cell? ⟨bb, off + 1, none⟩ = some (.int .i64 a.2) := d3
    have n4 : V4.drew.cell? ⟨bb, off + 2, none⟩ = some (.int .i64 b.1) := d4
    have n5 : V4.drew.cell? ⟨bb, off + 3, none⟩ = some (.int .i64 b.2) := d5
    have n6 : V4.drew.cell? ⟨bb, off + 4, none⟩ = some (.int .i64 c.1) := d6
    have n7 : V4.drew.cell? ⟨bb, off + 5, none⟩ = some (.int .i64 c.2) := d7
    have rab : ∀ V : World, bb < V.heap.size → V.cell? ⟨bb, off, none⟩ = some (.int .i64 a.1) → V.cell? ⟨bb, off + 1, none⟩ = some (.int .i64 a.2) → V.cell? ⟨bb, off + 2, none⟩ = some (.int .i64 b.1) → V.cell? ⟨bb, off + 3, none⟩ = some (.int .i64 b.2) → RowP V (some ⟨bb, off, none⟩) [a, b] := by
      intro V h0 h1 h2 h3 h4
      refine .inr ⟨bb, off, rfl, h0, fun i hi => ?_⟩
      have : i = 0 ∨ i = 1 := by simp at hi; omega
      rcases this with rfl | rfl
      · exact ⟨by simpa using h1, by simpa using h2⟩
      · exact ⟨by simpa using h3, by simpa using h4⟩
    have rbc : ∀ V : World, bb < V.heap.size → V.cell? ⟨bb, off + 2, none⟩ = some (.int .i64 b.1) → V.cell? ⟨bb, off + 3, none⟩ = some (.int .i64 b.2) → V.cell? ⟨bb, off + 4, none⟩ = some (.int .i64 c.1) → V.cell? ⟨bb, off + 5, none⟩ = some (.int .i64 c.2) → RowP V (some ⟨bb, off + 2, none⟩) [b, c] := by
      intro V h0 h1 h2 h3 h4
      refine .inr ⟨bb, off + 2, rfl, h0, fun i hi => ?_⟩
      have : i = 0 ∨ i = 1 := by simp at hi; omega
      rcases this with rfl | rfl
      · exact ⟨by simpa using h1, by simpa using h2⟩
      · exact ⟨by simpa using h3, by simpa using h4⟩
    have hq2 : (2 : Int) ≤ (cp : Int) := by omega
    have hq3 : (1 : Int) ≤ (cp : Int) := by omega
    have hq4 : (3 : Int) ≤ (cp : Int) := by omega
    have hq1 : ¬ cp = 1 := by omega
    have hq5 : ¬ (cp : Int) = 1 := by omega
    have R1 := Lib.hid (rab V4.drew hbn n2 n3 n4 n5)
    have RBC := Lib.hid rbc
    clear rab rbc
    cases X1 with
    | true =>
      go_upto_region 7 with fail
      refine wp_region_held_drew (S := fun W => W.cell? ⟨w.heap.size, 0, none⟩ = some (.int .i64 p.1) ∧ W.cell? ⟨w.heap.size, 1, none⟩ = some (.int .i64 p.2) ∧ W.cell? ⟨bb, off, none⟩ = some (.int .i64 a.1) ∧ W.cell? ⟨bb, off + 1, none⟩ = some (.int .i64 a.2) ∧ W.cell? ⟨bb, off + 2, none⟩ = some (.int .i64 b.1) ∧ W.cell? ⟨bb, off + 3, none⟩ = some (.int .i64 b.2) ∧ W.cell? ⟨bb, off + 4, none⟩ = some (.int .i64 c.1) ∧ W.cell? ⟨bb, off + 5, none⟩ = some (.int .i64 c.2)) (by kernel_rfl) ⟨n0, n1, n2, n3, n4, n5, n6, n7⟩ (fun hHeld => ?_)
      refine wpAnyH_take (i := 0) (v := ?_) rfl (by kernel_rfl) (by kernel_rfl) (by kernel_rfl) (fun _ _ _ h => h) (Or.inl ⟨by rfl, ?_⟩) (by assumption) ?_
      rotate_left
      intro w hSw; (try dsimp only at hSw); go_simp; (try with_reducible rfl)
      try simp only [Act.put, List.getElem_toArray, List.getElem_cons_succ, List.getElem_cons_zero, List.setIfInBounds_toArray, List.set_cons_zero, List.set_cons_succ]
      refine wpAnyH_take (i := 1) (v := ?_) rfl (by kernel_rfl) (by kernel_rfl) (by kernel_rfl) (fun _ _ _ h => h) (Or.inl ⟨by rfl, ?_⟩) (by assumption) ?_
      rotate_left
      intro w hSw; (try dsimp only at hSw); go_simp; (try with_reducible rfl)
      try simp only [Act.put, List.getElem_toArray, List.getElem_cons_succ, List.getElem_cons_zero, List.setIfInBounds_toArray, List.set_cons_zero, List.set_cons_succ]
      refine wpAnyH_take (i := 2) (v := ?_) rfl (by kernel_rfl) (by kernel_rfl) (by kernel_rfl) (fun _ _ _ h => h) (Or.inl ⟨by rfl, ?_⟩) (by assumption) ?_
      rotate_left
      intro w hSw; (try dsimp only at hSw); go_simp; (try with_reducible rfl)
      try simp only [Act.put, List.getElem_toArray, List.getElem_cons_succ, List.getElem_cons_zero, List.setIfInBounds_toArray, List.set_cons_zero, List.set_cons_succ]
      refine wpAnyH_ready (rs := [3]) (by kernel_rfl) (by simp) ?_
      refine AllReadyH.cons rfl (fun K hK => ?_) AllReadyH.nil
      go_simp
      go_at_call 149; have hcc := HC1.out V4.drew (some ⟨bb, off, none⟩) cp R1.out; (with_reducible refine hcc.mono ?_); clear hcc; rintro e V5 ⟨rfl, hb⟩; have J5 := Lib.hid (HK.out.go hb); have e0 := J5.out.c (b := w.heap.size) (o := 0) (v := .int .i64 p.1) (by simp); have e1 := J5.out.c (b := w.heap.size) (o := 1) (v := .int .i64 p.2) (by simp); have e2 := (hb.cell (p := ⟨bb, off, none⟩) hbn).trans n2; have e3 := (hb.cell (p := ⟨bb, off + 1, none⟩) hbn).trans n3; have e4 := (hb.cell (p := ⟨bb, off + 2, none⟩) hbn).trans n4; have e5 := (hb.cell (p := ⟨bb, off + 3, none⟩) hbn).trans n5; have e6 := (hb.cell (p := ⟨bb, off + 4, none⟩) hbn).trans n6; have e7 := (hb.cell (p := ⟨bb, off + 5, none⟩) hbn).trans n7; have hbe : bb < V5.heap.size := Nat.lt_of_lt_of_le hbn hb.size; clear hb
      refine hK.out _ _ ⟨e0, e1, e2, e3, e4, e5, e6, e7⟩ (fun hHeld => ?_)
      clear hK K
      try simp only [Act.put, List.getElem_toArray, List.getElem_cons_succ, List.getElem_cons_zero, List.setIfInBounds_toArray, List.set_cons_zero, List.set_cons_succ]
      refine wpAnyH_take (i := 4) (v := ?_) rfl (by kernel_rfl) (by kernel_rfl) (by kernel_rfl) (fun _ _ _ h => h) (Or.inl ⟨by rfl, ?_⟩) (by assumption) ?_
      rotate_left
      intro w hSw; (try dsimp only at hSw); go_simp; (try with_reducible rfl)
      try simp only [Act.put, List.getElem_toArray, List.getElem_cons_succ, List.getElem_cons_zero, List.setIfInBounds_toArray, List.set_cons_zero, List.set_cons_succ]
      refine wpAnyH_take (i := 5) (v := undef) rfl (by kernel_rfl) (by kernel_rfl) (by kernel_rfl) (fun _ _ _ h => h) (Or.inr ⟨by rfl, rfl⟩) (by assumption) ?_
      try simp only [Act.put, List.getElem_toArray, List.getElem_cons_succ, List.getElem_cons_zero, List.setIfInBounds_toArray, List.set_cons_zero, List.set_cons_succ]
      refine wpAnyH_take (i := 6) (v := undef) rfl (by kernel_rfl) (by kernel_rfl) (by kernel_rfl) (fun _ _ _ h => h) (Or.inr ⟨by rfl, rfl⟩) (by assumption) ?_
      try simp only [Act.put, List.getElem_toArray, List.getElem_cons_succ, List.getElem_cons_zero, List.setIfInBounds_toArray, List.set_cons_zero, List.set_cons_succ]
      refine wpAnyH_take (i := 7) (v := undef) rfl (by kernel_rfl) (by kernel_rfl) (by kernel_rfl) (fun _ _ _ h => h) (Or.inr ⟨by rfl, rfl⟩) (by assumption) ?_
      try simp only [Act.put, List.getElem_toArray, List.getElem_cons_succ, List.getElem_cons_zero, List.setIfInBounds_toArray, List.set_cons_zero, List.set_cons_succ]
      refine wpAnyH_take (i := 8) (v := undef) rfl (by kernel_rfl) (by kernel_rfl) (by kernel_rfl) (fun _ _ _ h => h) (Or.inr ⟨by rfl, rfl⟩) (by assumption) ?_
      try simp only [Act.put, List.getElem_toArray, List.getElem_cons_succ, List.getElem_cons_zero, List.setIfInBounds_toArray, List.set_cons_zero, List.set_cons_succ]
      refine wpAnyH_take (i := 9) (v := ?_) rfl (by kernel_rfl) (by kernel_rfl) (by kernel_rfl) (fun _ _ _ h => h) (Or.inl ⟨by rfl, ?_⟩) (by assumption) ?_
      rotate_left
      intro w hSw; (try dsimp only at hSw); go_simp; (try with_reducible rfl)
      try simp only [Act.put, List.getElem_toArray, List.getElem_cons_succ, List.getElem_cons_zero, List.setIfInBounds_toArray, List.set_cons_zero, List.set_cons_succ]
      refine wpAnyH_take (i := 10) (v := ?_) rfl (by kernel_rfl) (by kernel_rfl) (by kernel_rfl) (fun _ _ _ h => h) (Or.inl ⟨by rfl, ?_⟩) (by assumption) ?_
      rotate_left
      intro w hSw; (try dsimp only at hSw); go_simp; (try with_reducible rfl)
      try simp only [Act.put, List.getElem_toArray, List.getElem_cons_succ, List.getElem_cons_zero, List.setIfInBounds_toArray, List.set_cons_zero, List.set_cons_succ]
      refine wpAnyH_take (i := 11) (v := undef) rfl (by kernel_rfl) (by kernel_rfl) (by kernel_rfl) (fun _ _ _ h => h) (Or.inr ⟨by rfl, rfl⟩) (by assumption) ?_
      try simp only [Act.put, List.getElem_toArray, List.getElem_cons_succ, List.getElem_cons_zero, List.setIfInBounds_toArray, List.set_cons_zero, List.set_cons_succ]
      refine wpAnyH_take (i := 12) (v := undef) rfl (by kernel_rfl) (by kernel_rfl) (by kernel_rfl) (fun _ _ _ h => h) (Or.inr ⟨by rfl, rfl⟩) (by assumption) ?_
      try simp only [Act.put, List.getElem_toArray, List.getElem_cons_succ, List.getElem_cons_zero, List.setIfInBounds_toArray, List.set_cons_zero, List.set_cons_succ]
      refine wpAnyH_take (i := 13) (v := undef) rfl (by kernel_rfl) (by kernel_rfl) (by kernel_rfl) (fun _ _ _ h => h) (Or.inr ⟨by rfl, rfl⟩) (by assumption) ?_
      try simp only [Act.put, List.getElem_toArray, List.getElem_cons_succ, List.getElem_cons_zero, List.setIfInBounds_toArray, List.set_cons_zero, List.set_cons_succ]
      refine wpAnyH_take (i := 14) (v := undef) rfl (by kernel_rfl) (by kernel_rfl) (by kernel_rfl) (fun _ _ _ h => h) (Or.inr ⟨by rfl, rfl⟩) (by assumption) ?_
      try simp only [Act.put, List.getElem_toArray, List.getElem_cons_succ, List.getElem_cons_zero, List.setIfInBounds_toArray, List.set_cons_zero, List.set_cons_succ]
      refine wpAnyH_take (i := 15) (v := undef) rfl (by kernel_rfl) (by kernel_rfl) (by kernel_rfl) (fun _ _ _ h => h) (Or.inr ⟨by rfl, rfl⟩) (by assumption) ?_
      try simp only [Act.put, List.getElem_toArray, List.getElem_cons_succ, List.getElem_cons_zero, List.setIfInBounds_toArray, List.set_cons_zero, List.set_cons_succ]
      refine wpAnyH_take (i := 16) (v := undef) rfl (by kernel_rfl) (by kernel_rfl) (by kernel_rfl) (fun _ _ _ h => h) (Or.inr ⟨by rfl, rfl⟩) (by assumption) ?_
      try simp only [Act.put, List.getElem_toArray, List.getElem_cons_succ, List.getElem_cons_zero, List.setIfInBounds_toArray, List.set_cons_zero, List.set_cons_succ]
      refine wpAnyH_take (i := 17) (v := undef) rfl (by kernel_rfl) (by kernel_rfl) (by kernel_rfl) (fun _ _ _ h => h) (Or.inr ⟨by rfl, rfl⟩) (by assumption) ?_
      try simp only [Act.put, List.getElem_toArray, List.getElem_cons_succ, List.getElem_cons_zero, List.setIfInBounds_toArray, List.set_cons_zero, List.set_cons_succ]
      refine wpAnyH_take (i := 18) (v := undef) rfl (by kernel_rfl) (by kernel_rfl) (by kernel_rfl) (fun _ _ _ h => h) (Or.inr ⟨by rfl, rfl⟩) (by assumption) ?_
      try simp only [Act.put, List.getElem_toArray, List.getElem_cons_succ, List.getElem_cons_zero, List.setIfInBounds_toArray, List.set_cons_zero, List.set_cons_succ]
      refine wpAnyH_take (i := 19) (v := undef) rfl (by kernel_rfl) (by kernel_rfl) (by kernel_rfl) (fun _ _ _ h => h) (Or.inr ⟨by rfl, rfl⟩) (by assumption) ?_
      try simp only [Act.put, List.getElem_toArray, List.getElem_cons_succ, List.getElem_cons_zero, List.setIfInBounds_toArray, List.set_cons_zero, List.set_cons_succ]
      refine wpAnyH_take (i := 20) (v := ?_) rfl (by kernel_rfl) (by kernel_rfl) (by kernel_rfl) (fun _ _ _ h => h) (Or.inl ⟨by rfl, ?_⟩) (by assumption) ?_
      rotate_left
      intro w hSw; (try dsimp only at hSw); go_simp; (try with_reducible rfl)
      try simp only [Act.put, List.getElem_toArray, List.getElem_cons_succ, List.getElem_cons_zero, List.setIfInBounds_toArray, List.set_cons_zero, List.set_cons_succ]
      refine wpAnyH_take (i := 21) (v := ?_) rfl (by kernel_rfl) (by kernel_rfl) (by kernel_rfl) (fun _ _ _ h => h) (Or.inl ⟨by rfl, ?_⟩) (by assumption) ?_
      rotate_left
      intro w hSw; (try dsimp only at hSw); go_simp; (try with_reducible rfl)
      try simp only [Act.put, List.getElem_toArray, List.getElem_cons_succ, List.getElem_cons_zero, List.setIfInBounds_toArray, List.set_cons_zero, List.set_cons_succ]
      refine wpAnyH_done (by kernel_rfl) ?_ _
      go_wp2
      go_ret
      exact ⟨ret_bool (by rw [HZ.out]; rfl), J5.out.2.2.2.2⟩
    | false =>
      cases X2 with
      | true =>
        go_upto_region 7 with fail
        refine wp_region_held_drew (S := fun W => W.cell? ⟨w.heap.size, 0, none⟩ = some (.int .i64 p.1) ∧ W.cell? ⟨w.heap.size, 1, none⟩ = some (.int .i64 p.2) ∧ W.cell? ⟨bb, off, none⟩ = some (.int .i64 a.1) ∧ W.cell? ⟨bb, off + 1, none⟩ = some (.int .i64 a.2) ∧ W.cell? ⟨bb, off + 2, none⟩ = some (.int .i64 b.1) ∧ W.cell? ⟨bb, off + 3, none⟩ = some (.int .i64 b.2) ∧ W.cell? ⟨bb, off + 4, none⟩ = some (.int .i64 c.1) ∧ W.cell? ⟨bb, off + 5, none⟩ = some (.int .i64 c.2)) (by kernel_rfl) ⟨n0, n1, n2, n3, n4, n5, n6, n7⟩ (fun hHeld => ?_)
        refine wpAnyH_take (i := 0) (v := ?_) rfl (by kernel_rfl) (by kernel_rfl) (by kernel_rfl) (fun _ _ _ h => h) (Or.inl ⟨by rfl, ?_⟩) (by assumption) ?_
        rotate_left
        intro w hSw; (try dsimp only at hSw); go_simp; (try with_reducible rfl)
        try simp only [Act.put, List.getElem_toArray, List.getElem_cons_succ, List.getElem_cons_zero, List.setIfInBounds_toArray, List.set_cons_zero, List.set_cons_succ]
        refine wpAnyH_take (i := 1) (v := ?_) rfl (by kernel_rfl) (by kernel_rfl) (by kernel_rfl) (fun _ _ _ h => h) (Or.inl ⟨by rfl, ?_⟩) (by assumption) ?_
        rotate_left
        intro w hSw; (try dsimp only at hSw); go_simp; (try with_reducible rfl)
        try simp only [Act.put, List.getElem_toArray, List.getElem_cons_succ, List.getElem_cons_zero, List.setIfInBounds_toArray, List.set_cons_zero, List.set_cons_succ]
        refine wpAnyH_take (i := 2) (v := ?_) rfl (by kernel_rfl) (by kernel_rfl) (by kernel_rfl) (fun _ _ _ h => h) (Or.inl ⟨by rfl, ?_⟩) (by assumption) ?_
        rotate_left
        intro w hSw; (try dsimp only at hSw); go_simp; (try with_reducible rfl)
        try simp only [Act.put, List.getElem_toArray, List.getElem_cons_succ, List.getElem_cons_zero, List.setIfInBounds_toArray, List.set_cons_zero, List.set_cons_succ]
        refine wpAnyH_ready (rs := [3]) (by kernel_rfl) (by simp) ?_
        refine AllReadyH.cons rfl (fun K hK => ?_) AllReadyH.nil
        go_simp
        go_at_call 149; have hcc := HC1.out V4.drew (some ⟨bb, off, none⟩) cp R1.out; (with_reducible refine hcc.mono ?_); clear hcc; rintro e V5 ⟨rfl, hb⟩; have J5 := Lib.hid (HK.out.go hb); have e0 := J5.out.c (b := w.heap.size) (o := 0) (v := .int .i64 p.1) (by simp); have e1 := J5.out.c (b := w.heap.size) (o := 1) (v := .int .i64 p.2) (by simp); have e2 := (hb.cell (p := ⟨bb, off, none⟩) hbn).trans n2; have e3 := (hb.cell (p := ⟨bb, off + 1, none⟩) hbn).trans n3; have e4 := (hb.cell (p := ⟨bb, off + 2, none⟩) hbn).trans n4; have e5 := (hb.cell (p := ⟨bb, off + 3, none⟩) hbn).trans n5; have e6 := (hb.cell (p := ⟨bb, off + 4, none⟩) hbn).trans n6; have e7 := (hb.cell (p := ⟨bb, off + 5, none⟩) hbn).trans n7; have hbe : bb < V5.heap.size := Nat.lt_of_lt_of_le hbn hb.size; clear hb
        refine hK.out _ _ ⟨e0, e1, e2, e3, e4, e5, e6, e7⟩ (fun hHeld => ?_)
        clear hK K
        try simp only [Act.put, List.getElem_toArray, List.getElem_cons_succ, List.getElem_cons_zero, List.setIfInBounds_toArray, List.set_cons_zero, List.set_cons_succ]
        refine wpAnyH_take (i := 4) (v := ?_) rfl (by kernel_rfl) (by kernel_rfl) (by kernel_rfl) (fun _ _ _ h => h) (Or.inl ⟨by rfl, ?_⟩) (by assumption) ?_
        rotate_left
        intro w hSw; (try dsimp only at hSw); go_simp; (try with_reducible rfl)
        try simp only [Act.put, List.getElem_toArray, List.getElem_cons_succ, List.getElem_cons_zero, List.setIfInBounds_toArray, List.set_cons_zero, List.set_cons_succ]
        refine wpAnyH_take (i := 5) (v := ?_) rfl (by kernel_rfl) (by kernel_rfl) (by kernel_rfl) (fun _ _ _ h => h) (Or.inl ⟨by rfl, ?_⟩) (by assumption) ?_
        rotate_left
        intro w hSw; (try dsimp only at hSw); go_simp; (try with_reducible rfl)
        try simp only [Act.put, List.getElem_toArray, List.getElem_cons_succ, List.getElem_cons_zero, List.setIfInBounds_toArray, List.set_cons_zero, List.set_cons_succ]
        refine wpAnyH_take (i := 6) (v := ?_) rfl (by kernel_rfl) (by kernel_rfl) (by kernel_rfl) (fun _ _ _ h => h) (Or.inl ⟨by rfl, ?_⟩) (by assumption) ?_
        rotate_left
        intro w hSw; (try dsimp only at hSw); go_simp; (try with_reducible rfl)
        try simp only [Act.put, List.getElem_toArray, List.getElem_cons_succ, List.getElem_cons_zero, List.setIfInBounds_toArray, List.set_cons_zero, List.set_cons_succ]
        refine wpAnyH_take (i := 7) (v := ?_) rfl (by kernel_rfl) (by kernel_rfl) (by kernel_rfl) (fun _ _ _ h => h) (Or.inl ⟨by rfl, ?_⟩) (by assumption) ?_
        rotate_left
        intro w hSw; (try dsimp only at hSw); go_simp; (try with_reducible rfl)
        try simp only [Act.put, List.getElem_toArray, List.getElem_cons_succ, List.getElem_cons_zero, List.setIfInBounds_toArray, List.set_cons_zero, List.set_cons_succ]
        refine wpAnyH_ready (rs := [8]) (by kernel_rfl) (by simp) ?_
        refine AllReadyH.cons rfl (fun K hK => ?_) AllReadyH.nil
        go_simp
        go_at_call 149; have hcc := HC2.out V5 (some ⟨bb, off + 2, none⟩) (cp - 1) (RBC.out V5 hbe e4 e5 e6 e7); (with_reducible refine hcc.mono ?_); clear hcc; rintro e V6 ⟨rfl, hb⟩; have J6 := Lib.hid (J5.out.go hb); have f0 := J6.out.c (b := w.heap.size) (o := 0) (v := .int .i64 p.1) (by simp); have f1 := J6.out.c (b := w.heap.size) (o := 1) (v := .int .i64 p.2) (by simp); have f2 := (hb.cell (p := ⟨bb, off, none⟩) hbe).trans e2; have f3 := (hb.cell (p := ⟨bb, off + 1, none⟩) hbe).trans e3; have f4 := (hb.cell (p := ⟨bb, off + 2, none⟩) hbe).trans e4; have f5 := (hb.cell (p := ⟨bb, off + 3, none⟩) hbe).trans e5; have f6 := (hb.cell (p := ⟨bb, off + 4, none⟩) hbe).trans e6; have f7 := (hb.cell (p := ⟨bb, off + 5, none⟩) hbe).trans e7; have hbf : bb < V6.heap.size := Nat.lt_of_lt_of_le hbe hb.size; clear hb
        refine hK.out _ _ ⟨f0, f1, f2, f3, f4, f5, f6, f7⟩ (fun hHeld => ?_)
        clear hK K
        try simp only [Act.put, List.getElem_toArray, List.getElem_cons_succ, List.getElem_cons_zero, List.setIfInBounds_toArray, List.set_cons_zero, List.set_cons_succ]
        refine wpAnyH_take (i := 9) (v := ?_) rfl (by kernel_rfl) (by kernel_rfl) (by kernel_rfl) (fun _ _ _ h => h) (Or.inl ⟨by rfl, ?_⟩) (by assumption) ?_
        rotate_left
        intro w hSw; (try dsimp only at hSw); go_simp; (try with_reducible rfl)
        try simp only [Act.put, List.getElem_toArray, List.getElem_cons_succ, List.getElem_cons_zero, List.setIfInBounds_toArray, List.set_cons_zero, List.set_cons_succ]
        refine wpAnyH_take (i := 10) (v := ?_) rfl (by kernel_rfl) (by kernel_rfl) (by kernel_rfl) (fun _ _ _ h => h) (Or.inl ⟨by rfl, ?_⟩) (by assumption) ?_
        rotate_left
        intro w hSw; (try dsimp only at hSw); go_simp; (try with_reducible rfl)
        try simp only [Act.put, List.getElem_toArray, List.getElem_cons_succ, List.getElem_cons_zero, List.setIfInBounds_toArray, List.set_cons_zero, List.set_cons_succ]
        refine wpAnyH_take (i := 11) (v := undef) rfl (by kernel_rfl) (by kernel_rfl) (by kernel_rfl) (fun _ _ _ h => h) (Or.inr ⟨by rfl, rfl⟩) (by assumption) ?_
        try simp only [Act.put, List.getElem_toArray, List.getElem_cons_succ, List.getElem_cons_zero, List.setIfInBounds_toArray, List.set_cons_zero, List.set_cons_succ]
        refine wpAnyH_take (i := 12) (v := undef) rfl (by kernel_rfl) (by kernel_rfl) (by kernel_rfl) (fun _ _ _ h => h) (Or.inr ⟨by rfl, rfl⟩) (by assumption) ?_
        try simp only [Act.put, List.getElem_toArray, List.getElem_cons_succ, List.getElem_cons_zero, List.setIfInBounds_toArray, List.set_cons_zero, List.set_cons_succ]
        refine wpAnyH_take (i := 13) (v := undef) rfl (by kernel_rfl) (by kernel_rfl) (by kernel_rfl) (fun _ _ _ h => h) (Or.inr ⟨by rfl, rfl⟩) (by assumption) ?_
        try simp only [Act.put, List.getElem_toArray, List.getElem_cons_succ, List.getElem_cons_zero, List.setIfInBounds_toArray, List.set_cons_zero, List.set_cons_succ]
        refine wpAnyH_take (i := 14) (v := undef) rfl (by kernel_rfl) (by kernel_rfl) (by kernel_rfl) (fun _ _ _ h => h) (Or.inr ⟨by rfl, rfl⟩) (by assumption) ?_
        try simp only [Act.put, List.getElem_toArray, List.getElem_cons_succ, List.getElem_cons_zero, List.setIfInBounds_toArray, List.set_cons_zero, List.set_cons_succ]
        refine wpAnyH_take (i := 15) (v := undef) rfl (by kernel_rfl) (by kernel_rfl) (by kernel_rfl) (fun _ _ _ h => h) (Or.inr ⟨by rfl, rfl⟩) (by assumption) ?_
        try simp only [Act.put, List.getElem_toArray, List.getElem_cons_succ, List.getElem_cons_zero, List.setIfInBounds_toArray, List.set_cons_zero, List.set_cons_succ]
        refine wpAnyH_take (i := 16) (v := undef) rfl (by kernel_rfl) (by kernel_rfl) (by kernel_rfl) (fun _ _ _ h => h) (Or.inr ⟨by rfl, rfl⟩) (by assumption) ?_
        try simp only [Act.put, List.getElem_toArray, List.getElem_cons_succ, List.getElem_cons_zero, List.setIfInBounds_toArray, List.set_cons_zero, List.set_cons_succ]
        refine wpAnyH_take (i := 17) (v := undef) rfl (by kernel_rfl) (by kernel_rfl) (by kernel_rfl) (fun _ _ _ h => h) (Or.inr ⟨by rfl, rfl⟩) (by assumption) ?_
        try simp only [Act.put, List.getElem_toArray, List.getElem_cons_succ, List.getElem_cons_zero, List.setIfInBounds_toArray, List.set_cons_zero, List.set_cons_succ]
        refine wpAnyH_take (i := 18) (v := undef) rfl (by kernel_rfl) (by kernel_rfl) (by kernel_rfl) (fun _ _ _ h => h) (Or.inr ⟨by rfl, rfl⟩) (by assumption) ?_
        try simp only [Act.put, List.getElem_toArray, List.getElem_cons_succ, List.getElem_cons_zero, List.setIfInBounds_toArray, List.set_cons_zero, List.set_cons_succ]
        refine wpAnyH_take (i := 19) (v := undef) rfl (by kernel_rfl) (by kernel_rfl) (by kernel_rfl) (fun _ _ _ h => h) (Or.inr ⟨by rfl, rfl⟩) (by assumption) ?_
        try simp only [Act.put, List.getElem_toArray, List.getElem_cons_succ, List.getElem_cons_zero, List.setIfInBounds_toArray, List.set_cons_zero, List.set_cons_succ]
        refine wpAnyH_take (i := 20) (v := ?_) rfl (by kernel_rfl) (by kernel_rfl) (by kernel_rfl) (fun _ _ _ h => h) (Or.inl ⟨by rfl, ?_⟩) (by assumption) ?_
        rotate_left
        intro w hSw; (try dsimp only at hSw); go_simp; (try with_reducible rfl)
        try simp only [Act.put, List.getElem_toArray, List.getElem_cons_succ, List.getElem_cons_zero, List.setIfInBounds_toArray, List.set_cons_zero, List.set_cons_succ]
        refine wpAnyH_take (i := 21) (v := ?_) rfl (by kernel_rfl) (by kernel_rfl) (by kernel_rfl) (fun _ _ _ h => h) (Or.inl ⟨by rfl, ?_⟩) (by assumption) ?_
        rotate_left
        intro w hSw; (try dsimp only at hSw); go_simp; (try with_reducible rfl)
        try simp only [Act.put, List.getElem_toArray, List.getElem_cons_succ, List.getElem_cons_zero, List.setIfInBounds_toArray, List.set_cons_zero, List.set_cons_succ]
        refine wpAnyH_done (by kernel_rfl) ?_ _
        go_wp2
        go_ret
        exact ⟨ret_bool (by rw [HZ.out]; rfl), J6.out.2.2.2.2⟩
      | false =>
        go_upto_region 7 with fail
        go_region_held3 (fun W => W.cell? ⟨w.heap.size, 0, none⟩ = some (.int .i64 p.1) ∧ W.cell? ⟨w.heap.size, 1, none⟩ = some (.int .i64 p.2) ∧ W.cell? ⟨bb, off, none⟩ = some (.int .i64 a.1) ∧ W.cell? ⟨bb, off + 1, none⟩ = some (.int .i64 a.2) ∧ W.cell? ⟨bb, off + 2, none⟩ = some (.int .i64 b.1) ∧ W.cell? ⟨bb, off + 3, none⟩ = some (.int .i64 b.2) ∧ W.cell? ⟨bb, off + 4, none⟩ = some (.int .i64 c.1) ∧ W.cell? ⟨bb, off + 5, none⟩ = some (.int .i64 c.2)) (first | exact ⟨d0, d1, d2, d3, d4, d5, d6, d7⟩ | exact ⟨n0, n1, n2, n3, n4, n5, n6, n7⟩ | exact ⟨e0, e1, e2, e3, e4, e5, e6, e7⟩ | exact ⟨f0, f1, f2, f3, f4, f5, f6, f7⟩ | exact ⟨g0, g1, g2, g3, g4, g5, g6, g7⟩ | exact ⟨h0, h1, h2, h3, h4, h5, h6, h7⟩ | go_keep)
          (first
          | (go_at_call 149; have hcc := HC1.out V4.drew (some ⟨bb, off, none⟩) cp R1.out; (with_reducible refine hcc.mono ?_); clear hcc; rintro e V5 ⟨rfl, hb⟩; have J5 := Lib.hid (HK.out.go hb); have e0 := J5.out.c (b := w.heap.size) (o := 0) (v := .int .i64 p.1) (by simp); have e1 := J5.out.c (b := w.heap.size) (o := 1) (v := .int .i64 p.2) (by simp); have e2 := (hb.cell (p := ⟨bb, off, none⟩) hbn).trans n2; have e3 := (hb.cell (p := ⟨bb, off + 1, none⟩) hbn).trans n3; have e4 := (hb.cell (p := ⟨bb, off + 2, none⟩) hbn).trans n4; have e5 := (hb.cell (p := ⟨bb, off + 3, none⟩) hbn).trans n5; have e6 := (hb.cell (p := ⟨bb, off + 4, none⟩) hbn).trans n6; have e7 := (hb.cell (p := ⟨bb, off + 5, none⟩) hbn).trans n7; have hbe : bb < V5.heap.size := Nat.lt_of_lt_of_le hbn hb.size; clear hb)
          | (go_at_call 149; have hcc := HC2.out V5 (some ⟨bb, off + 2, none⟩) (cp - 1) (RBC.out V5 hbe e4 e5 e6 e7); (with_reducible refine hcc.mono ?_); clear hcc; rintro e V6 ⟨rfl, hb⟩; have J6 := Lib.hid (J5.out.go hb); have f0 := J6.out.c (b := w.heap.size) (o := 0) (v := .int .i64 p.1) (by simp); have f1 := J6.out.c (b := w.heap.size) (o := 1) (v := .int .i64 p.2) (by simp); have f2 := (hb.cell (p := ⟨bb, off, none⟩) hbe).trans e2; have f3 := (hb.cell (p := ⟨bb, off + 1, none⟩) hbe).trans e3; have f4 := (hb.cell (p := ⟨bb, off + 2, none⟩) hbe).trans e4; have f5 := (hb.cell (p := ⟨bb, off + 3, none⟩) hbe).trans e5; have f6 := (hb.cell (p := ⟨bb, off + 4, none⟩) hbe).trans e6; have f7 := (hb.cell (p := ⟨bb, off + 5, none⟩) hbe).trans e7; have hbf : bb < V6.heap.size := Nat.lt_of_lt_of_le hbe hb.size; clear hb)
          | (go_at_call 149; have hA : Below V6.heap.size V6 (V6.alloc (.cells #[.int .i64 a.1, .int .i64 a.2, .int .i64 c.1, .int .i64 c.2] 38)) := (Below.refl _ _).alloc (Nat.le_refl _) _; have hR : RowP (V6.alloc (.cells #[.int .i64 a.1, .int .i64 a.2, .int .i64 c.1, .int .i64 c.2] 38)) (some ⟨V6.heap.size, 0, none⟩) [a, c] := row_two V6 a c; have hcc := HC3.out (V6.alloc (.cells #[.int .i64 a.1, .int .i64 a.2, .int .i64 c.1, .int .i64 c.2] 38)) (some ⟨V6.heap.size, 0, none⟩) 2 hR; (with_reducible refine hcc.mono ?_); clear hcc; rintro e V7 ⟨rfl, hb0⟩; have hb := hA.trans (hb0.mono hA.size); clear hA hR hb0; have J7 := Lib.hid (J6.out.go hb); have g0 := J7.out.c (b := w.heap.size) (o := 0) (v := .int .i64 p.1) (by simp); have g1 := J7.out.c (b := w.heap.size) (o := 1) (v := .int .i64 p.2) (by simp); have g2 := (hb.cell (p := ⟨bb, off, none⟩) hbf).trans f2; have g3 := (hb.cell (p := ⟨bb, off + 1, none⟩) hbf).trans f3; have g4 := (hb.cell (p := ⟨bb, off + 2, none⟩) hbf).trans f4; have g5 := (hb.cell (p := ⟨bb, off + 3, none⟩) hbf).trans f5; have g6 := (hb.cell (p := ⟨bb, off + 4, none⟩) hbf).trans f6; have g7 := (hb.cell (p := ⟨bb, off + 5, none⟩) hbf).trans f7; have hbg : bb < V7.heap.size := Nat.lt_of_lt_of_le hbf hb.size; clear hb)
          | fail)
        all_goals
          go_wp2
          go_ret
          exact ⟨ret_bool (by rw [HZ.out]; rfl), J7.out.2.2.2.2⟩
  · have hTb : (T == 0) = false := beq_eq_false_iff_ne.2 hT0
    have hz := HRES.out
    rw [if_neg hT0] at hz
    have HZ := Lib.hid hz
    clear hz hT0 d0 d1 d2 d3 d4 d5 d6 d7
    rcases Int.lt_trichotomy T1 0 with h1 | h1 | h1 <;> rcases Int.lt_trichotomy T2 0 with h2 | h2 | h2 <;> rcases Int.lt_trichotomy T3 0 with h3 | h3 | h3
    all_goals
      first | subst h1 | skip
      first | subst h2 | skip
      first | subst h3 | skip
      go_wp2
      go_ret
      exact ⟨ret_bool (by rw [HZ.out]; first | rfl | (simp; done) | grind), J4.out.2.2.2.2⟩
end Go.Proofs.Ytcalipoknbbaaaa
