/- DrainSteps: the closure 'least'; what is left in memory. -/
import Derived.Test.YtadamjleglckpaaGreatDrnSt
import Derived.Test.YtadamjleglckpaaGreatQa6
import Derived.Test.YtadamjleglckpaaGreatQa3
import Derived.Test.YtadamjleglckpaaGreatQa7
namespace Go.Proofs.YtadamjleglckpaaGreat.drn
open Go.RowKit
set_option linter.unusedSimpArgs false
set_option linter.unusedVariables false
/-- what is left of channels -/
def thirds (ds : List Ch) : List Int := ds.map fun c => c.2.2
theorem thirds_len (ds : List Ch) : (thirds ds).length = ds.length := by simp [thirds]
theorem thirds_at (ds : List Ch) {t : Nat} (h : t < ds.length) : (thirds ds).getD t 0 = (ds.getD t (0, 0, 0)).2.2 := by
  rw [getD_eq _ t 0 (by rw [thirds_len]; exact h), getD_eq _ t _ h]
  simp [thirds]
/-- channels of which something may have been paid -/
structure Paid (n : Nat) (cs ds : List Ch) : Prop where
  chs : Chs n ds
  len : ds.length = cs.length
  ends : ∀ i, ends (ds.getD i (0, 0, 0)) = ends (cs.getD i (0, 0, 0))
theorem Paid.at {n : Nat} {cs ds : List Ch} (h : Paid n cs ds) {t : Nat} (ht : t < cs.length) : ∃ (a b : Nat) (x y : Int), cs.getD t (0, 0, 0) = ((a : Int), (b : Int), x) ∧ ds.getD t (0, 0, 0) = ((a : Int), (b : Int), y) ∧ a < 6 ∧ b < 7 ∧ 0 ≤ y ∧ y ≤ 20 ∧ ∀ s, leavesS s (ds.getD t (0, 0, 0)) = (s.testBit a && !s.testBit b) := by
  have h6 := h.chs.n6
  obtain ⟨k1, k2, _, k4⟩ := getD_ok h.chs.ok (i := t) (by rw [h.len]; exact ht)
  have he := h.ends t
  unfold drn.ends at he
  generalize ds.getD t (0, 0, 0) = d at *
  generalize cs.getD t (0, 0, 0) = c at *
  obtain ⟨d1, d2, d3⟩ := d
  obtain ⟨c1, c2, c3⟩ := c
  simp only [Prod.mk.injEq] at he
  obtain ⟨rfl, rfl⟩ := he
  dsimp only at k1 k2 k4
  obtain ⟨a, rfl⟩ : ∃ a : Nat, d1 = a := ⟨d1.toNat, by omega⟩
  obtain ⟨b, rfl⟩ : ∃ b : Nat, d2 = b := ⟨d2.toNat, by omega⟩
  exact ⟨a, b, c3, d3, rfl, rfl, by omega, by omega, k4.1, k4.2, fun s => by unfold leavesS inS; simp⟩
/-- the variable 'left' and its numbers -/
structure LeftAt (W : World) (L g c k : Nat) (xs : List Int) : Prop where
  var : W.cell? ⟨L, 0, none⟩ = some (.slice (some ⟨g, 0, none⟩) k c)
  row : RowV W (some ⟨g, 0, none⟩) (flatI xs)
  fz : ∀ i, W.frozen? ⟨g, i, none⟩ = false
  low : L < g
  size : g < W.heap.size
theorem LeftAt.below {W W' : World} {L g c k : Nat} {xs : List Int} (h : LeftAt W L g c k xs) (hb : Below W.heap.size W W') : LeftAt W' L g c k xs :=
  ⟨(hb.cell (p := ⟨L, 0, none⟩) (Nat.lt_trans h.low h.size)).trans h.var, h.row.below (Nat.le_refl _) hb, fun i => (hb.frozen (p := ⟨g, i, none⟩) h.size).trans (h.fz i), h.low, Nat.lt_of_lt_of_le h.size hb.size⟩
theorem LeftAt.set {W : World} {L g c k : Nat} {xs : List Int} (h : LeftAt W L g c k xs) {i : Nat} (hi : i < xs.length) (y : Int) : LeftAt (W.setCell ⟨g, i, none⟩ (.int .i64 y)) L g c k (xs.set i y) := by
  have hl := h.low
  have hn : (⟨g, i, none⟩ : Addr) ≠ ⟨L, 0, none⟩ := by intro e; simp only [Addr.mk.injEq] at e; omega
  have hr := rowV_set h.row (i := i) (by rw [flatI_length]; exact hi) (.int .i64 y)
  rw [Nat.zero_add] at hr
  have e : (flatI xs).set i (.int .i64 y) = flatI (xs.set i y) := by simp [flatI, List.map_set]
  rw [e] at hr
  exact ⟨by rw [World.cell?_setCell_other (h := hn)]; exact h.var, hr, fun j => by simpa using h.fz j, hl, by simp only [World.size_setCell]; exact h.size⟩
theorem leastTo_bd {n : Nat} {ds : List Ch} (hc : Chs n ds) (s t : Nat) : 0 ≤ leastTo ds s t ∧ leastTo ds s t ≤ 100 := by
  unfold leastTo
  have hc2 : Chs n (ds.take t) := ⟨hc.n1, hc.n6, Nat.le_trans (by rw [List.length_take]; omega) hc.many, fun c hm => hc.ok c (List.mem_of_mem_take hm)⟩
  exact leastH_bd hc2 s
theorem leastTo_all (ds : List Ch) (s : Nat) : leastTo ds s ds.length = leastH ds s := by unfold leastTo; rw [List.take_length]
set_option maxRecDepth 100000 in
set_option maxHeartbeats 4000000 in
theorem least_any (D L g n : Nat) (q : Option Addr) (c c2 S : Nat) (cs ds : List Ch) (w : World) (hD : Cell2 w D (.int .i64 n) (.slice q cs.length c)) (hr : RowV w q (flatT cs))
    (hL : LeftAt w L g c2 cs.length (thirds ds)) (hp : Paid n cs ds) (hS : S < 64) :
    Calls Tryz.prog 23 #[.int .i64 S, .pointer (some ⟨D, 0, none⟩), .pointer (some ⟨L, 0, none⟩)] w fun e w' => e = .returned (.int .i64 (leastH ds S)) ∧ Below w.heap.size w w' := by
  obtain ⟨d0, d1, d2, d3, d4⟩ := hD
  have HR := Lib.hid hr
  have HL := Lib.hid hL
  have HP := Lib.hid hp
  have HBD := Lib.hid (fun t => leastTo_bd hp.chs S t)
  have h14 : cs.length ≤ 14 := by have := hp.chs.many; have := hp.len; omega
  have hend := leastTo_all ds S
  rw [hp.len] at hend
  have HEND := Lib.hid hend
  clear hr hL hp hend
  go_enter Tryz.func23, Tryz.ntmps23
  go_wp2
  go_loopw [5, 11] (fun v i wl => ∃ t : Nat, t ≤ cs.length ∧ i = .int .i64 t ∧ v = .int .i64 (leastTo ds S t) ∧ Below w.heap.size w wl) (fun _ i _ => cs.length - (intOf i).toNat)
  case atStart => exact ⟨0, Nat.zero_le _, rfl, rfl, Below.refl _ _⟩
  case round =>
    obtain ⟨t, ht, rfl, rfl, hbl⟩ := hrel
    by_cases htl : t < cs.length
    · obtain ⟨b3, off3, rfl, hb3, g1, g2, g3⟩ := rowT_at HR.out htl (Nat.le_refl _) hbl
      have hLr := HL.out.below hbl
      obtain ⟨a, b, x, y, hca, hda, ha, hb, hy0, hy20, hlv⟩ := HP.out.at htl
      have hst := leastTo_step (cs := ds) (k := t) (by rw [HP.out.len]; exact htl) S
      rw [hlv S, hda] at hst
      rw [hca] at g1 g2 g3
      have hbd := HBD.out t
      generalize leastTo ds S t = m at hst hbd ⊢
      have HST := Lib.hid hst
      have u1 := bit_i S a hS
      have u2 := bit_i0 S b hS
      have hti : (t : Int) < (cs.length : Int) := by omega
      dsimp only at g1 g2 g3
      have HXY := Lib.hid (And.intro hca hda)
      clear hst hca hda hlv hLr
      go_upto_region 5 with fail
      obtain ⟨WA, hWA⟩ : ∃ WA, wr.alloc (.cells #[.int .i64 (a : Int), .int .i64 (b : Int), .int .i64 x] 51) = WA := ⟨_, rfl⟩
      have hbA : Below wr.heap.size wr WA := by rw [← hWA]; exact (Below.refl _ _).alloc (Nat.le_refl _) _
      have hblA : Below w.heap.size w WA := hbl.on hbA
      have s0 : WA.cell? ⟨wr.heap.size, 0, none⟩ = some (.int .i64 (a : Int)) := by rw [← hWA]; simp
      have s1 : WA.cell? ⟨wr.heap.size, 1, none⟩ = some (.int .i64 (b : Int)) := by rw [← hWA]; simp
      have hLA := HL.out.below hblA
      have l0 := hLA.var
      obtain ⟨b4, off4, e4, hb4, g4⟩ := rowI_at hLA.row (k := t) (by rw [thirds_len, HP.out.len]; exact htl) (Nat.le_refl _) (Below.refl _ _)
      simp only [Option.some.injEq, Addr.mk.injEq] at e4
      obtain ⟨rfl, rfl, _⟩ := e4
      rw [thirds_at ds (by rw [HP.out.len]; exact htl), HXY.out.2] at g4
      dsimp only at g4
      rw [Nat.zero_add] at g4
      rw [hWA]
      clear hWA hbA g1 g2 g3 hbl hLA
      cases hpb : S.testBit a with
      | false =>
        rw [hpb] at u1 HST
        go_wp2
        go_roundw
        case rel => exact ⟨t + 1, htl, by go_num, by rw [HST.out]; rfl, hblA⟩
        case measure => simp [intOf]; omega
      | true =>
        rw [hpb] at u1 HST
        cases hqb : S.testBit b with
        | true =>
          rw [hqb] at u2 HST
          go_wp2
          go_roundw
          case rel => exact ⟨t + 1, htl, by go_num, by rw [HST.out]; rfl, hblA⟩
          case measure => simp [intOf]; omega
        | false =>
          rw [hqb] at u2 HST
          generalize hmn : min m y = m1 at HST
          go_wp2
          go_roundw
          case rel => exact ⟨t + 1, htl, by go_num, by rw [HST.out]; rfl, hblA⟩
          case measure => simp [intOf]; omega
    · obtain rfl : t = cs.length := by omega
      rw [HEND.out]
      go_wp2
      go_ret
      exact ⟨rfl, hbl⟩
end Go.Proofs.YtadamjleglckpaaGreat.drn
