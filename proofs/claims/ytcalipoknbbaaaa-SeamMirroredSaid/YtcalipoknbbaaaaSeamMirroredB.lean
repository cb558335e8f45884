/- SeamMirrored: the walk, and the row's step. -/
import Derived.Test.YtcalipoknbbaaaaMade
import Derived.Test.YtcalipoknbbaaaaClone
import Derived.Test.YtcalipoknbbaaaaUntil
import Derived.Test.YtcalipoknbbaaaaRows
import Derived.WalkKit
import Derived.ProofKit
import Derived.OpenShut
import Derived.Test.YtcalipoknbbaaaaDigC
namespace Go.Proofs.Ytcalipoknbbaaaa
open Go.RowKit
set_option linter.unusedSimpArgs false
set_option linter.unusedVariables false

/-- the galleries of a list, changed as X is counted from the other end -/
def mirTo (n : Nat) (gs : List Gl) (j : Nat) : List Gl := (gs.take j).map (mirG n)
theorem mirTo_succ (n : Nat) (gs : List Gl) (j : Nat) (h : j < gs.length) (d : Gl) : mirTo n gs (j + 1) = mirTo n gs j ++ [mirG n (gs.getD j d)] := by
  rw [mirTo, mirTo, List.take_succ_eq_append_getElem h, List.map_append, getD_eq gs j d h]; rfl
theorem mirTo_len (n : Nat) (gs : List Gl) (j : Nat) : (mirTo n gs j).length ≤ j := by rw [mirTo, List.length_map]; exact List.length_take_le _ _
theorem mirTo_all (n : Nat) (gs : List Gl) : mirTo n gs gs.length = gs.map (mirG n) := by rw [mirTo, List.take_length]

theorem short_len (m : Nat) (good : List Int → Bool) : ((shortestOf m good).getD []).length ≤ m := by
  cases h : shortestOf m good with
  | none => simp
  | some c =>
    obtain ⟨k, hk, hc⟩ := List.mem_flatMap.1 (shortest_mem h).1
    have := combos_length _ _ _ _ hc
    have := List.mem_range.1 hk
    simp only [Option.getD_some]
    omega
theorem contra_len (n : Nat) (gs : List Gl) : (contradictOf n gs).1.length ≤ gs.length := by
  unfold contradictOf
  split
  · simp
  · split
    · simp
    · exact short_len _ _
theorem wrong_len (n : Nat) (gs : List Gl) : (wrongOf n gs).1.length ≤ gs.length := by
  unfold wrongOf
  split
  · simp
  · exact short_len _ _
theorem few_len (n : Nat) (gs : List Gl) : (fewestOf n gs).1.length ≤ gs.length := by
  unfold fewestOf
  split
  · simp
  · exact short_len _ _
theorem wrong_err (n : Nat) (gs : List Gl) (h : errH n gs = 0) : (wrongOf n gs).2 = 0 := by rw [wrong_eq n gs h]
theorem few_err (n : Nat) (gs : List Gl) (h : errH n gs = 0) : (fewestOf n gs).2 = 0 := by rw [few_eq n gs h]
theorem Inv.lt {w W : World} {G : List (Option Addr × Nat × List Gl)} {P : List (Option Addr × List Pl)} {I : List (Option Addr × List Int)} {C : List (Nat × Nat × Value)} (h : Inv w W G P I C) {b o : Nat} {v : Value} (hm : (b, o, v) ∈ C) : b < W.heap.size := (h.2.2.2.1 _ hm).2
/-- one round -/
theorem mir_step {B n : Nat} {w wr W0 w2 w3 : World} {h0 v u : Value} {gs : List Gl} (hB : w.heap.size = B) (hc : Cell2 wr (B + 1) (.int .i64 n) v) (hr : Cell2 wr B (.int .i64 n) h0) (hbel : Below B w wr) (hb0 : Below wr.heap.size wr W0) (h1 : Below W0.heap.size W0 w2) (h2 : Below (B + 2) w2 w3)
    (hown : w3.ownsRow (B + 2) 28 3 u gs.length (flatG gs)) (hw1 : B + 2 ≤ wr.heap.size) :
    (w3.setCell ⟨B + 1, 1, none⟩ u).ownsRow (B + 2) 28 3 u gs.length (flatG gs) ∧ Cell2 (w3.setCell ⟨B + 1, 1, none⟩ u) (B + 1) (.int .i64 n) u ∧
      Cell2 (w3.setCell ⟨B + 1, 1, none⟩ u) B (.int .i64 n) h0 ∧ Below B w (w3.setCell ⟨B + 1, 1, none⟩ u) := by
  have s0 := hb0.size
  exact ⟨ownsRow_setCell hown _ u (show B + 1 < B + 2 by omega), ((((hc.below (by omega) hb0).below (by omega) h1).below (by omega) h2).set1 u), ((((hr.below (by omega) hb0).below (by omega) h1).below (by omega) h2).far (by omega) u),
    (((hbel.trans (hb0.mono (by omega))).trans (h1.mono (by omega))).trans (h2.mono (by omega))).setCell (p := ⟨B + 1, 1, none⟩) (by simp) u⟩

set_option maxRecDepth 100000 in
set_option maxHeartbeats 4000000 in
theorem SeamMirrored_any (s m : Nat) (ls : List By) (hs : s < 256) (hm : m < 256) (hls : ls.length = 10) (hok : ∀ x ∈ ls, okB x) (w : World) :
    Calls Try.prog 12 #[.agg (digCells s m ls)] w fun e w' => e = .returned (.bool true) ∧ Below w.heap.size w w' := by
  obtain ⟨n, hn⟩ : ∃ n, n = 1 + s % 7 := ⟨_, rfl⟩
  have hn1 : 1 ≤ n := by omega
  have hn7 : n ≤ 7 := by have := Nat.mod_lt s (show 0 < 7 by decide); omega
  have c0 := fun W => made_at 7 9 s m ls n hn (by decide) (by decide) (by decide) hs hm hls hok W 7 9 rfl rfl
  have C0 := Lib.hid c0
  have HLS := Lib.hid hls
  have HDG := Lib.hid (DigAt.new w s m ls)
  clear c0 hn hs hm hok hls
  go_enter Try.func12, Try.ntmps12
  go_wp2_with (first
    | (refine wpList_load90 _ _ s m ls HLS.out HDG.out (.tmp 1) rfl rfl rfl ?_)
    | (go_at_call 63; refine (C0.out _).mono ?_; rintro e w1 ⟨q, c, rfl, hown, hb1⟩))
  have hg0 := owns_cap hown
  obtain ⟨q', c', e', hr1, hq1⟩ := hg0
  injection e' with e1 _ e2
  subst e1; subst e2
  have hge := digG_err n 9 m ls hn1 hn7
  have hgl := digG_len n 9 m ls
  have hmir : errH n ((digG n 9 m ls).map (mirG n)) = 0 := mir_errH n (ls.take (m % (9 + 1))) hn1 hn7 (by have := List.length_take_le (m % (9 + 1)) ls; have := Nat.mod_lt m (show 0 < 9 + 1 by decide); omega)
  have hh0 := digG_errH n 9 m ls hn1 hn7 (by decide)
  generalize digG n 9 m ls = gs at *
  have HMIR := Lib.hid hmir
  have HH0 := Lib.hid hh0
  clear hmir hh0
  have HQ := Lib.hid hq1
  have B0 := Lib.hid (show Below w.heap.size w w1 from ((Below.refl _ w).alloc (Nat.le_refl _) _).trans (hb1.mono (by simp)))
  have HB1 := Lib.hid (below_two w1 (.cells #[.int .i64 n, .slice q gs.length c] 24) (.cells #[.int .i64 n, .slice none 0 0] 24))
  have HM := Lib.hid (Cell2.new (w1.alloc (.cells #[.int .i64 n, .slice q gs.length c] 24)) (w1.heap.size + 1) (by simp) (.int .i64 n) (.slice none 0 0) 24)
  have HH := Lib.hid ((Cell2.new w1 w1.heap.size rfl (.int .i64 n) (.slice q gs.length c) 24).below (N := w1.heap.size + 1) (by omega) ((Below.refl _ _).alloc (by simp) (.cells #[.int .i64 n, .slice none 0 0] 24)))
  have HR1 := Lib.hid hr1
  have hw1 := B0.out.size
  have HGE := Lib.hid hge
  clear hown hr1 hq1 C0 HDG HLS hb1 hge
  go_loopw [23] (fun i wr => ∃ j v, j ≤ gs.length ∧ i = .int .i64 (j : Nat) ∧ wr.ownsRow (w1.heap.size + 2) 28 3 v (mirTo n gs j).length (flatG (mirTo n gs j)) ∧ Cell2 wr (w1.heap.size + 1) (.int .i64 n) v ∧ Cell2 wr w1.heap.size (.int .i64 n) (.slice q gs.length c) ∧ Below w1.heap.size w1 wr) (fun i _ => gs.length - (intOf i).toNat)
  case atStart => exact ⟨0, .slice none 0 0, Nat.zero_le _, rfl, World.ownsRow_nil _ _ _ _, HM.out, HH.out, HB1.out⟩
  case round =>
    obtain ⟨j, v, hj, rfl, hown, hcm, hch, hbel⟩ := hrel
    by_cases hlt : j < gs.length
    · obtain ⟨b, off, rfl, hz, g1, g2, g3⟩ := HR1.out.at hlt (Nat.le_refl _) hbel
      have hst := mirTo_succ n gs j hlt (0, 0, 0)
      have hbd := mirTo_len n gs j
      have hgj := HGE.out _ (getD_mem gs j (0, 0, 0) hlt)
      generalize gs.getD j (0, 0, 0) = g at g1 g2 g3 hst hgj
      obtain ⟨⟨⟨ga1, ga2⟩, ⟨gb1, gb2⟩⟩, gc1, gc2⟩ := errG_ok hgj
      obtain ⟨ga, gb, gc⟩ := g
      dsimp only at *
      have HS := Lib.hid hst
      have HO := Lib.hid hown
      have HCM := Lib.hid hcm
      have HCH := Lib.hid hch
      have hwr : w1.heap.size + 2 ≤ wr.heap.size := hcm.1
      obtain ⟨y0, y1, y2, y3, y4⟩ := hcm
      obtain ⟨x0, x1, x2, x3, x4⟩ := hch
      clear hst hown hgj
      obtain ⟨na, hna⟩ : ∃ na, -ga = na := ⟨_, rfl⟩
      obtain ⟨k1, hk1⟩ : ∃ k1, (n : Int) - 1 = k1 := ⟨_, rfl⟩
      obtain ⟨t, ht⟩ : ∃ t, ga * k1 = t := ⟨_, rfl⟩
      obtain ⟨u, hu⟩ : ∃ u, gc - t = u := ⟨_, rfl⟩
      have htb : small 6000 t := by rw [← ht]; exact mul_small (a := 1000) (b := 6) ⟨ga1, ga2⟩ ⟨by omega, by omega⟩
      obtain ⟨htb1, htb2⟩ := htb
      have HG := Lib.hid (show mirG n (ga, gb, gc) = (na, gb, u) by rw [← hna, ← hu, ← ht, ← hk1]; rfl)
      have i1 : IntKind.i64.wrap (-ga) = na := by rw [IntWalk.i64_in _ ⟨by omega, by omega⟩, hna]
      have i2 : IntKind.i64.wrap ((n : Int) - 1) = k1 := by rw [IntWalk.i64_in _ ⟨by omega, by omega⟩, hk1]
      have i3 : IntKind.i64.wrap (ga * k1) = t := by rw [ht, IntWalk.i64_in _ ⟨by omega, by omega⟩]
      have i4 : IntKind.i64.wrap (gc - t) = u := by rw [IntWalk.i64_in _ ⟨by omega, by omega⟩, hu]
      have I1 := Lib.hid i1
      have I2 := Lib.hid i2
      have I3 := Lib.hid i3
      have I4 := Lib.hid i4
      clear hna hk1 ht hu i1 i2 i3 i4 htb1 htb2 ga1 ga2 gb1 gb2 gc1 gc2
      have z1 : w1.heap.size + 1 < w1.heap.size + 2 := by omega
      go_wp2
      have hb0 : Below wr.heap.size wr (wr.alloc (.cells #[.int .i64 ga, .int .i64 gb, .int .i64 gc] 28)) := (Below.refl _ _).alloc (Nat.le_refl _) _
      have f0 : (wr.alloc (.cells #[.int .i64 ga, .int .i64 gb, .int .i64 gc] 28)).cell? ⟨wr.heap.size, 0, none⟩ = some (.int .i64 ga) := by simp
      have f1 : (wr.alloc (.cells #[.int .i64 ga, .int .i64 gb, .int .i64 gc] 28)).cell? ⟨wr.heap.size, 1, none⟩ = some (.int .i64 gb) := by simp
      have f2 : (wr.alloc (.cells #[.int .i64 ga, .int .i64 gb, .int .i64 gc] 28)).cell? ⟨wr.heap.size, 2, none⟩ = some (.int .i64 gc) := by simp
      have hs0 : (wr.alloc (.cells #[.int .i64 ga, .int .i64 gb, .int .i64 gc] 28)).heap.size = wr.heap.size + 1 := by simp
      have HO0 := Lib.hid (HO.out.alloc (.cells #[.int .i64 ga, .int .i64 gb, .int .i64 gc] 28))
      have hcm := HCM.out.below (by omega) hb0
      have hch := HCH.out.below (by omega) hb0
      generalize (wr.alloc (.cells #[.int .i64 ga, .int .i64 gb, .int .i64 gc] 28)) = W0 at *
      have HB0' := Lib.hid hb0
      have HCM0 := Lib.hid hcm
      have HCH0 := Lib.hid hch
      have hw0 : w1.heap.size + 2 ≤ W0.heap.size := by omega
      have hwz : wr.heap.size < W0.heap.size := by omega
      clear hb0 y0 y1 y2 y3 y4 x0 x1 x2 x3 x4 g1 g2 g3 hs0
      obtain ⟨y0', _, y2, _, y4⟩ := hcm
      obtain ⟨x0', x1, _, _, _⟩ := hch
      have i1 := I1.out
      have i2 := I2.out
      have i3 := I3.out
      have i4 := I4.out
      refine Until.start (z := 20) (S := fun W => W.cell? ⟨wr.heap.size, 0, none⟩ = some (.int .i64 ga) ∧ W.cell? ⟨wr.heap.size, 1, none⟩ = some (.int .i64 gb) ∧ W.cell? ⟨wr.heap.size, 2, none⟩ = some (.int .i64 gc) ∧ W.cell? ⟨w1.heap.size, 0, none⟩ = some (.int .i64 n) ∧ W.cell? ⟨w1.heap.size + 1, 1, none⟩ = some v) (by kernel_rfl) ?_
      have hS : (fun W : World => W.cell? ⟨wr.heap.size, 0, none⟩ = some (.int .i64 ga) ∧ W.cell? ⟨wr.heap.size, 1, none⟩ = some (.int .i64 gb) ∧ W.cell? ⟨wr.heap.size, 2, none⟩ = some (.int .i64 gc) ∧ W.cell? ⟨w1.heap.size, 0, none⟩ = some (.int .i64 n) ∧ W.cell? ⟨w1.heap.size + 1, 1, none⟩ = some v) W0.drew := ⟨by simpa using f0, by simpa using f1, by simpa using f2, by simpa using x1, by simpa using y2⟩
      refine Until.taken (i := 0) (v := ?v0) (some 27) rfl rfl rfl (by kernel_rfl) (by kernel_rfl) (by kernel_rfl) (by kernel_rfl) (fun _ _ _ h => h) (Or.inl ⟨by rfl, ?y0⟩) hS ?r0
      case y0 => (intro W hSw; obtain ⟨s0, s1, s2, s3, s4⟩ := hSw; go_simp; try with_reducible rfl)
      simp only [Act.put, List.setIfInBounds_toArray, List.set_cons_zero, List.set_cons_succ]
      refine Until.taken (i := 1) (v := ?v1) (some 28) rfl rfl rfl (by kernel_rfl) (by kernel_rfl) (by kernel_rfl) (by kernel_rfl) (fun _ _ _ h => h) (Or.inl ⟨by rfl, ?y1⟩) hS ?r1
      case y1 => (intro W hSw; obtain ⟨s0, s1, s2, s3, s4⟩ := hSw; go_simp; try with_reducible rfl)
      simp only [Act.put, List.setIfInBounds_toArray, List.set_cons_zero, List.set_cons_succ]
      refine Until.taken (i := 2) (v := ?v2) (some 29) rfl rfl rfl (by kernel_rfl) (by kernel_rfl) (by kernel_rfl) (by kernel_rfl) (fun _ _ _ h => h) (Or.inl ⟨by rfl, ?y2⟩) hS ?r2
      case y2 => (intro W hSw; obtain ⟨s0, s1, s2, s3, s4⟩ := hSw; go_simp; try with_reducible rfl)
      simp only [Act.put, List.setIfInBounds_toArray, List.set_cons_zero, List.set_cons_succ]
      refine Until.taken (i := 3) (v := ?v3) (some 30) rfl rfl rfl (by kernel_rfl) (by kernel_rfl) (by kernel_rfl) (by kernel_rfl) (fun _ _ _ h => h) (Or.inl ⟨by rfl, ?y3⟩) hS ?r3
      case y3 => (intro W hSw; obtain ⟨s0, s1, s2, s3, s4⟩ := hSw; go_simp; try with_reducible rfl)
      simp only [Act.put, List.setIfInBounds_toArray, List.set_cons_zero, List.set_cons_succ]
      refine Until.taken (i := 4) (v := ?v4) (some 31) rfl rfl rfl (by kernel_rfl) (by kernel_rfl) (by kernel_rfl) (by kernel_rfl) (fun _ _ _ h => h) (Or.inl ⟨by rfl, ?y4⟩) hS ?r4
      case y4 => (intro W hSw; obtain ⟨s0, s1, s2, s3, s4⟩ := hSw; go_simp; try with_reducible rfl)
      simp only [Act.put, List.setIfInBounds_toArray, List.set_cons_zero, List.set_cons_succ]
      refine Until.taken (i := 5) (v := ?v5) (some 32) rfl rfl rfl (by kernel_rfl) (by kernel_rfl) (by kernel_rfl) (by kernel_rfl) (fun _ _ _ h => h) (Or.inl ⟨by rfl, ?y5⟩) hS ?r5
      case y5 => (intro W hSw; obtain ⟨s0, s1, s2, s3, s4⟩ := hSw; go_simp; try with_reducible rfl)
      simp only [Act.put, List.setIfInBounds_toArray, List.set_cons_zero, List.set_cons_succ]
      refine Until.taken (i := 6) (v := ?v6) (some 33) rfl rfl rfl (by kernel_rfl) (by kernel_rfl) (by kernel_rfl) (by kernel_rfl) (fun _ _ _ h => h) (Or.inl ⟨by rfl, ?y6⟩) hS ?r6
      case y6 => (intro W hSw; obtain ⟨s0, s1, s2, s3, s4⟩ := hSw; go_simp; try with_reducible rfl)
      simp only [Act.put, List.setIfInBounds_toArray, List.set_cons_zero, List.set_cons_succ]
      refine Until.taken (i := 7) (v := ?v7) (some 34) rfl rfl rfl (by kernel_rfl) (by kernel_rfl) (by kernel_rfl) (by kernel_rfl) (fun _ _ _ h => h) (Or.inl ⟨by rfl, ?y7⟩) hS ?r7
      case y7 => (intro W hSw; obtain ⟨s0, s1, s2, s3, s4⟩ := hSw; go_simp; try with_reducible rfl)
      simp only [Act.put, List.setIfInBounds_toArray, List.set_cons_zero, List.set_cons_succ]
      refine Until.taken (i := 8) (v := ?v8) (some 35) rfl rfl rfl (by kernel_rfl) (by kernel_rfl) (by kernel_rfl) (by kernel_rfl) (fun _ _ _ h => h) (Or.inl ⟨by rfl, ?y8⟩) hS ?r8
      case y8 => (intro W hSw; obtain ⟨s0, s1, s2, s3, s4⟩ := hSw; go_simp; try with_reducible rfl)
      simp only [Act.put, List.setIfInBounds_toArray, List.set_cons_zero, List.set_cons_succ]
      refine Until.taken (i := 9) (v := ?v9) (some 36) rfl rfl rfl (by kernel_rfl) (by kernel_rfl) (by kernel_rfl) (by kernel_rfl) (fun _ _ _ h => h) (Or.inl ⟨by rfl, ?y9⟩) hS ?r9
      case y9 => (intro W hSw; obtain ⟨s0, s1, s2, s3, s4⟩ := hSw; go_simp; try with_reducible rfl)
      simp only [Act.put, List.setIfInBounds_toArray, List.set_cons_zero, List.set_cons_succ]
      refine Until.taken (i := 10) (v := ?v10) (some 37) rfl rfl rfl (by kernel_rfl) (by kernel_rfl) (by kernel_rfl) (by kernel_rfl) (fun _ _ _ h => h) (Or.inl ⟨by rfl, ?y10⟩) hS ?r10
      case y10 => (intro W hSw; obtain ⟨s0, s1, s2, s3, s4⟩ := hSw; go_simp; try with_reducible rfl)
      simp only [Act.put, List.setIfInBounds_toArray, List.set_cons_zero, List.set_cons_succ]
      refine Until.taken (i := 11) (v := ?v11) (some 38) rfl rfl rfl (by kernel_rfl) (by kernel_rfl) (by kernel_rfl) (by kernel_rfl) (fun _ _ _ h => h) (Or.inl ⟨by rfl, ?y11⟩) hS ?r11
      case y11 => (intro W hSw; obtain ⟨s0, s1, s2, s3, s4⟩ := hSw; go_simp; try with_reducible rfl)
      simp only [Act.put, List.setIfInBounds_toArray, List.set_cons_zero, List.set_cons_succ]
      refine Until.taken (i := 12) (v := ?v12) (some 39) rfl rfl rfl (by kernel_rfl) (by kernel_rfl) (by kernel_rfl) (by kernel_rfl) (fun _ _ _ h => h) (Or.inl ⟨by rfl, ?y12⟩) hS ?r12
      case y12 => (intro W hSw; obtain ⟨s0, s1, s2, s3, s4⟩ := hSw; go_simp; try with_reducible rfl)
      simp only [Act.put, List.setIfInBounds_toArray, List.set_cons_zero, List.set_cons_succ]
      refine Until.taken (i := 13) (v := ?v13) (some 40) rfl rfl rfl (by kernel_rfl) (by kernel_rfl) (by kernel_rfl) (by kernel_rfl) (fun _ _ _ h => h) (Or.inl ⟨by rfl, ?y13⟩) hS ?r13
      case y13 => (intro W hSw; obtain ⟨s0, s1, s2, s3, s4⟩ := hSw; go_simp; try with_reducible rfl)
      simp only [Act.put, List.setIfInBounds_toArray, List.set_cons_zero, List.set_cons_succ]
      refine Until.taken (i := 14) (v := ?v14) (some 41) rfl rfl rfl (by kernel_rfl) (by kernel_rfl) (by kernel_rfl) (by kernel_rfl) (fun _ _ _ h => h) (Or.inl ⟨by rfl, ?y14⟩) hS ?r14
      case y14 => (intro W hSw; obtain ⟨s0, s1, s2, s3, s4⟩ := hSw; go_simp; try with_reducible rfl)
      simp only [Act.put, List.setIfInBounds_toArray, List.set_cons_zero, List.set_cons_succ]
      refine Until.taken (i := 15) (v := ?v15) (some 42) rfl rfl rfl (by kernel_rfl) (by kernel_rfl) (by kernel_rfl) (by kernel_rfl) (fun _ _ _ h => h) (Or.inl ⟨by rfl, ?y15⟩) hS ?r15
      case y15 => (intro W hSw; obtain ⟨s0, s1, s2, s3, s4⟩ := hSw; go_simp; try with_reducible rfl)
      simp only [Act.put, List.setIfInBounds_toArray, List.set_cons_zero, List.set_cons_succ]
      have hd : Below W0.heap.size W0 W0.drew := (Below.refl _ _).drew
      refine Until.one (i := 16) rfl (by kernel_rfl) (fun K hK => ?_)
      have HK := Lib.hid hK
      clear hK
      refine step_gallery _ (by rfl) _ _ _ na gb u (by rfl) (by rfl) (by rfl) (by rfl) ?_
      intro w2 hb2
      have hbw : Below W0.heap.size W0 w2 := hd.trans (hb2.mono hd.size)
      have hz2b := Nat.le_trans hw0 hbw.size
      have hz1c := Nat.lt_of_lt_of_le y0' hbw.size
      have hwz2 := Nat.lt_of_lt_of_le hwz hbw.size
      have e0 := (hbw.cell (p := ⟨wr.heap.size, 0, none⟩) hwz).trans f0
      have e1 := (hbw.cell (p := ⟨wr.heap.size, 1, none⟩) hwz).trans f1
      have e2 := (hbw.cell (p := ⟨wr.heap.size, 2, none⟩) hwz).trans f2
      have e3 := (hbw.cell (p := ⟨w1.heap.size, 0, none⟩) x0').trans x1
      have k4 := (hbw.cell (p := ⟨w1.heap.size + 1, 1, none⟩) y0').trans y2
      have k5 := (hbw.frozen (p := ⟨w1.heap.size + 1, 1, none⟩) y0').trans y4
      have HO2 := Lib.hid (owns_below HO0.out (Nat.le_refl _) hbw)
      have hz0c : w1.heap.size < w2.heap.size := by omega
      refine HK.out _ _ (fun _ => ⟨e0, e1, e2, e3, k4⟩) ?_
      clear HK K
      simp only [Act.put, List.getElem_toArray, List.getElem_cons_zero, List.getElem_cons_succ, List.setIfInBounds_toArray, List.set_cons_zero, List.set_cons_succ]
      refine Until.one (i := 17) rfl (by kernel_rfl) (fun K hK => ?_)
      have HK := Lib.hid hK
      clear hK
      go_simp
      have hba : Below w2.heap.size w2 (w2.alloc (.cells #[.int .i64 na, .int .i64 gb, .int .i64 u] 28)) := (Below.refl _ _).alloc (Nat.le_refl _) _
      have l0 := (hba.cell (p := ⟨wr.heap.size, 0, none⟩) hwz2).trans e0
      have l1 := (hba.cell (p := ⟨wr.heap.size, 1, none⟩) hwz2).trans e1
      have l2 := (hba.cell (p := ⟨wr.heap.size, 2, none⟩) hwz2).trans e2
      have l3 := (hba.cell (p := ⟨w1.heap.size, 0, none⟩) hz0c).trans e3
      have l4 := (hba.cell (p := ⟨w1.heap.size + 1, 1, none⟩) hz1c).trans k4
      have l5 := (hba.frozen (p := ⟨w1.heap.size + 1, 1, none⟩) hz1c).trans k5
      refine HK.out _ _ ?_ ?_
      · intro _
        exact ⟨l0, l1, l2, l3, l4⟩
      clear HK K
      try simp only [Act.put, List.getElem_toArray, List.getElem_cons_zero, List.getElem_cons_succ, List.setIfInBounds_toArray, List.set_cons_zero, List.set_cons_succ]
      refine Until.one (i := 18) rfl (by kernel_rfl) (fun K hK => ?_)
      have HK := Lib.hid hK
      clear hK
      refine step_gal _ (by rfl) _ _ (by rfl) (w1.heap.size + 2) _ (mirTo n gs j) (na, gb, u) (by rfl) ((HO2.out.alloc _)) w2.heap.size 1 (by rfl) (by simp) (by simp) (by simp) (by omega) (by simp; omega) ?_
      intro v' w3 hown3 hgrow hblk
      obtain ⟨q', c', rfl, _, _⟩ := owns_cap hown3
      have hq := grown_al HO2.out hz2b hgrow
      have gk : ∀ o, w3.cell? ⟨wr.heap.size, o, none⟩ = (w2.alloc (.cells #[.int .i64 na, .int .i64 gb, .int .i64 u] 28)).cell? ⟨wr.heap.size, o, none⟩ := fun o =>
        World.cell?_of_block (hgrow.block wr.heap.size (by simp; omega) (fun e => by have := (HO.out.lt _ e.symm).2; omega))
      have k6 := (hq.cell (p := ⟨w1.heap.size + 1, 1, none⟩) z1).trans k4
      have k7 := (hq.frozen (p := ⟨w1.heap.size + 1, 1, none⟩) z1).trans k5
      have k8 := (hq.cell (p := ⟨w1.heap.size, 0, none⟩) (by show w1.heap.size < _; omega)).trans e3
      have m0 := (gk 0).trans l0
      have m1 := (gk 1).trans l1
      have m2 := (gk 2).trans l2
      refine HK.out _ _ ?_ ?_
      · intro _
        exact ⟨m0, m1, m2, k8, k6⟩
      clear HK K
      simp only [Act.put, List.getElem_toArray, List.getElem_cons_zero, List.getElem_cons_succ, List.setIfInBounds_toArray, List.set_cons_zero, List.set_cons_succ]
      refine Until.one (i := 19) rfl (by kernel_rfl) (fun K hK => ?_)
      have HK := Lib.hid hK
      clear hK
      go_simp
      refine HK.out _ _ ?_ ?_
      · intro _
        exact ⟨m0, m1, m2, k8, k6⟩
      clear HK K
      try simp only [Act.put, List.getElem_toArray, List.getElem_cons_zero, List.getElem_cons_succ, List.setIfInBounds_toArray, List.set_cons_zero, List.set_cons_succ]
      refine Until.one (i := 20) rfl (by kernel_rfl) (fun K hK => ?_)
      have HK := Lib.hid hK
      clear hK
      go_simp
      refine HK.out _ _ ?_ ?_
      · intro h
        exact absurd rfl h
      clear HK K
      try simp only [Act.put, List.getElem_toArray, List.getElem_cons_zero, List.getElem_cons_succ, List.setIfInBounds_toArray, List.set_cons_zero, List.set_cons_succ]
      refine Until.done (by kernel_rfl) ?_
      have hown4 : w3.ownsRow (w1.heap.size + 2) 28 3 (.slice q' ((mirTo n gs j).length + 1) c') (mirTo n gs (j + 1)).length (flatG (mirTo n gs (j + 1))) := by
        rw [HS.out, HG.out, show (mirTo n gs j).length + 1 = (mirTo n gs j ++ [(na, gb, u)]).length from by simp]; exact hown3
      have hn := mir_step rfl HCM.out HCH.out hbel HB0'.out hbw hq hown4 hwr
      clear hown3 hown4 m0 m1 m2 k8 k6 k7 l0 l1 l2 l3 l4 l5 e0 e1 e2 e3 k4 k5 f0 f1 f2 x1 y2 y4 hS i1 i2 i3 i4 gk
      go_wp2
      go_roundw
      case rel => exact ⟨j + 1, _, by omega, by go_num, hn⟩
      case measure => simp [intOf]; omega
    · obtain rfl : j = gs.length := by omega
      obtain ⟨q2, c2, rfl, r2, hq2⟩ := owns_cap hown
      rw [mirTo_all] at r2
      have hI : Inv w wr [(q2, c2, gs.map (mirG n)), (q, c, gs)] [] [] [(w1.heap.size + 1, 1, .slice q2 (mirTo n gs gs.length).length c2), (w1.heap.size + 1, 0, .int .i64 n), (w1.heap.size, 1, .slice q gs.length c), (w1.heap.size, 0, .int .i64 n)] :=
        ((((((((Inv.start w).go B0.out).addG HR1.out HQ.out).go (hbel.mono (Nat.le_refl _))).addG r2 hq2).addC (b := w1.heap.size) (o := 0) hch.2.1 (by have := hch.1; omega)).addC (b := w1.heap.size) (o := 1) hch.2.2.1 (by have := hch.1; omega)).addC (b := w1.heap.size + 1) (o := 0) hcm.2.1 (by have := hcm.1; omega)).addC (b := w1.heap.size + 1) (o := 1) hcm.2.2.1 (by have := hcm.1; omega)
      rw [mirTo_all] at hI
      have HI := Lib.hid hI
      have h0 := HH0.out
      have h1 := HMIR.out
      have hcc := mir_contra n gs h0 h1
      have hww := mir_wrong n gs h0 h1
      have hff := mir_fewest n gs h0 h1
      have hrm := fun p => mir_mem n gs p
      have hct := mir_cnt n gs
      have hreg := region_eq n gs h0
      have hregm := region_eq n _ h1
      have hrok := regL_ok n gs hn7
      have hrl := regL_len n gs hn7
      have hcl := contra_len n gs
      have hwl := wrong_len n gs
      have hfl := few_len n gs
      have hw0 := wrong_err n gs h0
      have hf0 := few_err n gs h0
      have hmsl : (gs.map (mirG n)).length = gs.length := List.length_map ..
      generalize gs.map (mirG n) = ms at *
      generalize hR : regL n gs = R at *
      generalize hM : regL n ms = M at *
      generalize hC0 : contradictOf n gs = C0 at *
      generalize hW0 : wrongOf n gs = V0 at *
      generalize hF0 : fewestOf n gs = F0 at *
      obtain ⟨cl, ce⟩ := C0
      obtain ⟨vl, ve⟩ := V0
      obtain ⟨fl, fe⟩ := F0
      dsimp only at hcl hwl hfl hw0 hf0
      subst hw0
      subst hf0
      have A1 := Lib.hid hreg
      have A2 := Lib.hid hregm
      have A3 := Lib.hid hC0
      have A4 := Lib.hid hcc
      have A5 := Lib.hid hW0
      have A6 := Lib.hid hww
      have A7 := Lib.hid hF0
      have A8 := Lib.hid hff
      have HRM := Lib.hid hrm
      have HROK := Lib.hid hrok
      have hlb : ((R.length : Int) != (M.length : Int)) = false := by simp [hct]
      have hlb2 : (R.length != M.length) = false := by simp [hct]
      have hceb : (ce != ce) = false := bne_self_eq_false ce
      have hceb2 : (ce == ce) = true := beq_self_eq_true ce
      have HCT := Lib.hid hct
      have hmz : M.length ≤ 49 := by omega
      clear hown hcm hch r2 hq2 hI h0 h1 hcc hww hff hrm hct hreg hregm hrok hR hM hC0 hW0 hF0 hmsl hbel
      have k0 := HI.out.c (b := w1.heap.size) (o := 0) (v := .int .i64 n) (by simp)
      have k1 := HI.out.c (b := w1.heap.size) (o := 1) (v := .slice q gs.length c) (by simp)
      have k2 := HI.out.c (b := w1.heap.size + 1) (o := 0) (v := .int .i64 n) (by simp)
      have k3 := HI.out.c (b := w1.heap.size + 1) (o := 1) (v := .slice q2 ms.length c2) (by simp)
      go_upto_region 9 with (go_at_call 23; refine (HI.out.placesErr (Region_any n q c gs _ (HI.out.1 (q, c, gs) (by simp)).1) A1.out).mono ?_; rintro e W ⟨q3, c3, rfl, hI⟩; replace HI := Lib.hid hI; clear hI; (try clear k0 k1 k2 k3); have k0 := HI.out.c (b := w1.heap.size) (o := 0) (v := .int .i64 n) (by simp); have k1 := HI.out.c (b := w1.heap.size) (o := 1) (v := .slice q gs.length c) (by simp); have k2 := HI.out.c (b := w1.heap.size + 1) (o := 0) (v := .int .i64 n) (by simp); have k3 := HI.out.c (b := w1.heap.size + 1) (o := 1) (v := .slice q2 ms.length c2) (by simp))
      go_upto_region 10 with (go_at_call 23; refine (HI.out.placesErr (Region_any n q2 c2 ms _ (HI.out.1 (q2, c2, ms) (by simp)).1) A2.out).mono ?_; rintro e W ⟨q4, c4, rfl, hI⟩; replace HI := Lib.hid hI; clear hI; (try clear k0 k1 k2 k3); have k0 := HI.out.c (b := w1.heap.size) (o := 0) (v := .int .i64 n) (by simp); have k1 := HI.out.c (b := w1.heap.size) (o := 1) (v := .slice q gs.length c) (by simp); have k2 := HI.out.c (b := w1.heap.size + 1) (o := 0) (v := .int .i64 n) (by simp); have k3 := HI.out.c (b := w1.heap.size + 1) (o := 1) (v := .slice q2 ms.length c2) (by simp))
      clear k0 k1 k2 k3
      go_wp2
      clear hlb hlb2
      go_loopw [73] (fun i wr => ∃ k : Nat, k ≤ R.length ∧ i = .int .i64 k ∧ Inv w wr [(q2, c2, ms), (q, c, gs)] [(q4, M), (q3, R)] [] [(w1.heap.size + 1, 1, .slice q2 ms.length c2), (w1.heap.size + 1, 0, .int .i64 n), (w1.heap.size, 1, .slice q gs.length c), (w1.heap.size, 0, .int .i64 n)]) (fun i _ => R.length - (intOf i).toNat)
      case atStart => exact ⟨0, Nat.zero_le _, rfl, HI.out⟩
      case round =>
        obtain ⟨wo, rfl⟩ : ∃ wo : World, wo = wr := ⟨_, rfl⟩
        obtain ⟨k, hk, rfl, hI⟩ := hrel
        replace HI := Lib.hid hI
        clear hI
        by_cases hlt : k < R.length
        · have k0 := HI.out.c (b := w1.heap.size) (o := 0) (v := .int .i64 n) (by simp)
          have k1 := HI.out.c (b := w1.heap.size) (o := 1) (v := .slice q gs.length c) (by simp)
          have k2 := HI.out.c (b := w1.heap.size + 1) (o := 0) (v := .int .i64 n) (by simp)
          have k3 := HI.out.c (b := w1.heap.size + 1) (o := 1) (v := .slice q2 ms.length c2) (by simp)
          have hbx := HI.out.lt (b := w1.heap.size) (o := 0) (v := .int .i64 n) (by simp)
          obtain ⟨b, off, rfl, hbz, g1, g2⟩ := (HI.out.2.1 (q3, R) (by simp)).at hlt (Nat.le_refl _) (Below.refl _ _)
          have hpm := getD_mem R k (0, 0) hlt
          have hpo := HROK.out _ hpm
          have hmm : mirP n (R.getD k (0, 0)) ∈ M := (HRM.out _).2 (by rw [mir_mir]; exact hpm)
          generalize R.getD k (0, 0) = p at g1 g2 hpo hmm
          obtain ⟨px, py⟩ := p
          obtain ⟨⟨p1, p2⟩, p3, p4⟩ := hpo
          dsimp only at p1 p2 p3 p4 g1 g2
          have HHM := Lib.hid ((hasP_mem M ((n : Int) - 1 - px, py)).2 hmm)
          have hba : Below wo.heap.size wo (wo.alloc (.cells #[.int .i64 px, .int .i64 py] 26)) := (Below.refl _ _).alloc (Nat.le_refl _) _
          have HBA := Lib.hid hba
          have HRP := Lib.hid ((HI.out.2.1 (q4, M) (by simp)).below (Nat.le_refl _) hba)
          clear hpm hmm hba
          go_wp2_with (go_at_call 77; refine (containsPl_any ((n : Int) - 1 - px, py) q4 c4 M _ HRP.out (by omega)).mono ?_; rintro e w4 ⟨rfl, hb4⟩; rw [HHM.out])
          have hI := (HI.out.go HBA.out).go hb4
          go_roundw
          case rel => exact ⟨k + 1, hlt, by go_num, hI⟩
          case measure => simp [intOf]; omega
        · obtain rfl : k = R.length := by omega
          have k0 := HI.out.c (b := w1.heap.size) (o := 0) (v := .int .i64 n) (by simp)
          have k1 := HI.out.c (b := w1.heap.size) (o := 1) (v := .slice q gs.length c) (by simp)
          have k2 := HI.out.c (b := w1.heap.size + 1) (o := 0) (v := .int .i64 n) (by simp)
          have k3 := HI.out.c (b := w1.heap.size + 1) (o := 1) (v := .slice q2 ms.length c2) (by simp)
          have hsl : (cl == cl) = true := beq_self_eq_true cl
          have hsv : (vl == vl) = true := beq_self_eq_true vl
          have hsf : (fl == fl) = true := beq_self_eq_true fl
          have S1 := Lib.hid hsl
          have S2 := Lib.hid hsv
          have S3 := Lib.hid hsf
          clear hsl hsv hsf
          go_upto_region 19 with (go_at_call 34; refine (HI.out.listErr (Contradict_any n q c gs _ (HI.out.1 (q, c, gs) (by simp)).1) A3.out).mono ?_; rintro e W ⟨q5, c5, rfl, hI⟩; replace HI := Lib.hid hI; clear hI; (try clear k0 k1 k2 k3); have k0 := HI.out.c (b := w1.heap.size) (o := 0) (v := .int .i64 n) (by simp); have k1 := HI.out.c (b := w1.heap.size) (o := 1) (v := .slice q gs.length c) (by simp); have k2 := HI.out.c (b := w1.heap.size + 1) (o := 0) (v := .int .i64 n) (by simp); have k3 := HI.out.c (b := w1.heap.size + 1) (o := 1) (v := .slice q2 ms.length c2) (by simp))
          go_upto_region 20 with (go_at_call 34; refine (HI.out.listErr (Contradict_any n q2 c2 ms _ (HI.out.1 (q2, c2, ms) (by simp)).1) (A4.out.trans rfl)).mono ?_; rintro e W ⟨q6, c6, rfl, hI⟩; replace HI := Lib.hid hI; clear hI; (try clear k0 k1 k2 k3); have k0 := HI.out.c (b := w1.heap.size) (o := 0) (v := .int .i64 n) (by simp); have k1 := HI.out.c (b := w1.heap.size) (o := 1) (v := .slice q gs.length c) (by simp); have k2 := HI.out.c (b := w1.heap.size + 1) (o := 0) (v := .int .i64 n) (by simp); have k3 := HI.out.c (b := w1.heap.size + 1) (o := 1) (v := .slice q2 ms.length c2) (by simp))
          go_upto_region 23 with (first
            | (go_at_call 38; refine (HI.out.same q5 q6 c5 c6 cl cl true (by simp) (by simp) (by omega) (by omega) S1.out).mono ?_; rintro e W ⟨rfl, hI⟩; replace HI := Lib.hid hI; clear hI; (try clear k0 k1 k2 k3); have k0 := HI.out.c (b := w1.heap.size) (o := 0) (v := .int .i64 n) (by simp); have k1 := HI.out.c (b := w1.heap.size) (o := 1) (v := .slice q gs.length c) (by simp); have k2 := HI.out.c (b := w1.heap.size + 1) (o := 0) (v := .int .i64 n) (by simp); have k3 := HI.out.c (b := w1.heap.size + 1) (o := 1) (v := .slice q2 ms.length c2) (by simp))
            | (go_at_call 36; refine (HI.out.listErr (Wrong_any n q c gs _ (HI.out.1 (q, c, gs) (by simp)).1) A5.out).mono ?_; rintro e W ⟨q7, c7, rfl, hI⟩; replace HI := Lib.hid hI; clear hI; (try clear k0 k1 k2 k3); have k0 := HI.out.c (b := w1.heap.size) (o := 0) (v := .int .i64 n) (by simp); have k1 := HI.out.c (b := w1.heap.size) (o := 1) (v := .slice q gs.length c) (by simp); have k2 := HI.out.c (b := w1.heap.size + 1) (o := 0) (v := .int .i64 n) (by simp); have k3 := HI.out.c (b := w1.heap.size + 1) (o := 1) (v := .slice q2 ms.length c2) (by simp)))
          go_upto_region 24 with (go_at_call 36; refine (HI.out.listErr (Wrong_any n q2 c2 ms _ (HI.out.1 (q2, c2, ms) (by simp)).1) (A6.out.trans rfl)).mono ?_; rintro e W ⟨q8, c8, rfl, hI⟩; replace HI := Lib.hid hI; clear hI; (try clear k0 k1 k2 k3); have k0 := HI.out.c (b := w1.heap.size) (o := 0) (v := .int .i64 n) (by simp); have k1 := HI.out.c (b := w1.heap.size) (o := 1) (v := .slice q gs.length c) (by simp); have k2 := HI.out.c (b := w1.heap.size + 1) (o := 0) (v := .int .i64 n) (by simp); have k3 := HI.out.c (b := w1.heap.size + 1) (o := 1) (v := .slice q2 ms.length c2) (by simp))
          go_upto_region 27 with (first
            | (go_at_call 38; refine (HI.out.same q7 q8 c7 c8 vl vl true (by simp) (by simp) (by omega) (by omega) S2.out).mono ?_; rintro e W ⟨rfl, hI⟩; replace HI := Lib.hid hI; clear hI; (try clear k0 k1 k2 k3); have k0 := HI.out.c (b := w1.heap.size) (o := 0) (v := .int .i64 n) (by simp); have k1 := HI.out.c (b := w1.heap.size) (o := 1) (v := .slice q gs.length c) (by simp); have k2 := HI.out.c (b := w1.heap.size + 1) (o := 0) (v := .int .i64 n) (by simp); have k3 := HI.out.c (b := w1.heap.size + 1) (o := 1) (v := .slice q2 ms.length c2) (by simp))
            | (go_at_call 46; refine (HI.out.listErr (Fewest_any n q c gs _ (HI.out.1 (q, c, gs) (by simp)).1) A7.out).mono ?_; rintro e W ⟨q9, c9, rfl, hI⟩; replace HI := Lib.hid hI; clear hI; (try clear k0 k1 k2 k3); have k0 := HI.out.c (b := w1.heap.size) (o := 0) (v := .int .i64 n) (by simp); have k1 := HI.out.c (b := w1.heap.size) (o := 1) (v := .slice q gs.length c) (by simp); have k2 := HI.out.c (b := w1.heap.size + 1) (o := 0) (v := .int .i64 n) (by simp); have k3 := HI.out.c (b := w1.heap.size + 1) (o := 1) (v := .slice q2 ms.length c2) (by simp)))
          go_upto_region 28 with (go_at_call 46; refine (HI.out.listErr (Fewest_any n q2 c2 ms _ (HI.out.1 (q2, c2, ms) (by simp)).1) (A8.out.trans rfl)).mono ?_; rintro e W ⟨q10, c10, rfl, hI⟩; replace HI := Lib.hid hI; clear hI; (try clear k0 k1 k2 k3); have k0 := HI.out.c (b := w1.heap.size) (o := 0) (v := .int .i64 n) (by simp); have k1 := HI.out.c (b := w1.heap.size) (o := 1) (v := .slice q gs.length c) (by simp); have k2 := HI.out.c (b := w1.heap.size + 1) (o := 0) (v := .int .i64 n) (by simp); have k3 := HI.out.c (b := w1.heap.size + 1) (o := 1) (v := .slice q2 ms.length c2) (by simp))
          go_wp2_with (first
            | (go_at_call 38; refine (HI.out.same q9 q10 c9 c10 fl fl true (by simp) (by simp) (by omega) (by omega) S3.out).mono ?_; rintro e W ⟨rfl, hI⟩; replace HI := Lib.hid hI; clear hI; (try clear k0 k1 k2 k3); have k0 := HI.out.c (b := w1.heap.size) (o := 0) (v := .int .i64 n) (by simp); have k1 := HI.out.c (b := w1.heap.size) (o := 1) (v := .slice q gs.length c) (by simp); have k2 := HI.out.c (b := w1.heap.size + 1) (o := 0) (v := .int .i64 n) (by simp); have k3 := HI.out.c (b := w1.heap.size + 1) (o := 1) (v := .slice q2 ms.length c2) (by simp))
            | (go_at_call 19; refine (HI.out.scalar (V' := .bool true) (works_any _) rfl).mono ?_; rintro e W ⟨rfl, hI⟩; replace HI := Lib.hid hI; clear hI; (try clear k0 k1 k2 k3); have k0 := HI.out.c (b := w1.heap.size) (o := 0) (v := .int .i64 n) (by simp); have k1 := HI.out.c (b := w1.heap.size) (o := 1) (v := .slice q gs.length c) (by simp); have k2 := HI.out.c (b := w1.heap.size + 1) (o := 0) (v := .int .i64 n) (by simp); have k3 := HI.out.c (b := w1.heap.size + 1) (o := 1) (v := .slice q2 ms.length c2) (by simp)))
          go_ret
          exact ⟨rfl, HI.out.2.2.2.2⟩
end Go.Proofs.Ytcalipoknbbaaaa
namespace Go.Proofs.Ytcalipoknbbaaaa.seamMirrored
open Go Go.ChangeShapes Go.WideShapes Go.ChangeAt Go.RowKit

theorem own : ownKnob Try.prog.godebug = none := by kernel_rfl

set_option maxRecDepth 100000 in
theorem lifted (os : Os) (started : os.Started) (H : Type) (enc : TypeId × Value → H) :
    ReturnsInHanded {} Try.checked os 12 .any (Rows.seamMirroredSpec.pre6 enc Try.prog Try.f12 Rows.seamMirroredRow.domain false) (Rows.seamMirroredSpec.post enc Try.prog Try.f12 false true false false) := by
  refine returnsInHanded_of_change (C := Try.checked) own started (by kernel_rfl) Try.func12
    (ChangeSpec.witness6 (enc := enc) (C := Try.checked) false { blocks := #[], args := #[.agg (digCells 0 0 (List.replicate 10 (0, 0, 0, 0)))], vars := [] } 8 (by kernel_rfl) (by kernel_rfl) (by kernel_rfl) (by kernel_rfl)) ?_
  intro W base args ds gs before hval0 hW hcnd _
  have hval : ∀ (j : Nat) t v, Try.f12.params[j]? = some t → args[j]? = some v → Value.okWide Try.prog W .any base t v := hval0
  have hW' := hW
  obtain ⟨p, q, hA0, hV, rfl, hfz, hnd⟩ := hW
  have hA : DataW.TrodAll enc Try.prog W 0 (fun _ => true) true Try.f12.params.toList args.toList ds p := hA0
  rw [Try.params12] at hA hval
  obtain ⟨v0, d0, rfl, rfl, h0⟩ := trodAll_one hA
  obtain ⟨rfl, rfl⟩ := trodVars_none hV
  obtain ⟨rfl, g0⟩ := trod_same 5 plain90 h0
  obtain ⟨s0, m0, ls0, rfl, k0a, k0b, k0c, k0d⟩ := dig_of (hval 0 90 v0 rfl rfl)
  clear hA0 hval0
  simp only [List.append_nil] at hW'
  refine (SeamMirrored_any s0 m0 ls0 k0a k0b k0c k0d W).mono fun e W' ⟨he, hg⟩ => ?_
  subst he
  refine ⟨_, rfl, _, _, _, [] ++ [], [] ++ [], [], hW', ?_, ?_, ?_, hg.frame _, fun h => by cases h⟩
  · exact trodAll_cons_mk (shut_bool Try.underlying4 _) trodAll_mk0
  · exact trodAll_cons_mk (g0 _ _ _ _) trodAll_mk0
  · rfl

end Go.Proofs.Ytcalipoknbbaaaa.seamMirrored
