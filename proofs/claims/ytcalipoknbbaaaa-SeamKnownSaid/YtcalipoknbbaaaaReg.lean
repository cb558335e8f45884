/- Region and Opposite (package seam). -/
import Derived.Test.YtcalipoknbbaaaaKnown
import Derived.Handy
namespace Go.Proofs.Ytcalipoknbbaaaa
open Go.RowKit

theorem cells3 {w : World} {B : Nat} {y0 y1 y2 : Value} (x0 x1 x2 : Value) (h0 : w.cell? ⟨B, 0, none⟩ = some y0) (h1 : w.cell? ⟨B, 1, none⟩ = some y1) (h2 : w.cell? ⟨B, 2, none⟩ = some y2) :
    (((w.setCell ⟨B, 0, none⟩ x0).setCell ⟨B, 1, none⟩ x1).setCell ⟨B, 2, none⟩ x2).cell? ⟨B, 0, none⟩ = some x0 ∧ (((w.setCell ⟨B, 0, none⟩ x0).setCell ⟨B, 1, none⟩ x1).setCell ⟨B, 2, none⟩ x2).cell? ⟨B, 1, none⟩ = some x1 ∧ (((w.setCell ⟨B, 0, none⟩ x0).setCell ⟨B, 1, none⟩ x1).setCell ⟨B, 2, none⟩ x2).cell? ⟨B, 2, none⟩ = some x2 := by
  have n01 : (⟨B, 0, none⟩ : Addr) ≠ ⟨B, 1, none⟩ := by simp
  have n02 : (⟨B, 0, none⟩ : Addr) ≠ ⟨B, 2, none⟩ := by simp
  have n12 : (⟨B, 1, none⟩ : Addr) ≠ ⟨B, 2, none⟩ := by simp
  refine ⟨?_, ?_, ?_⟩
  · rw [World.cell?_setCell_other (h := n02.symm), World.cell?_setCell_other (h := n01.symm), World.cell?_setCell_same (h := h0)]
  · rw [World.cell?_setCell_other (h := n12.symm), World.cell?_setCell_same (u := y1)]
    rw [World.cell?_setCell_other (h := n01), h1]
  · rw [World.cell?_setCell_same (u := y2)]
    rw [World.cell?_setCell_other (h := n12), World.cell?_setCell_other (h := n02), h2]

/-- what Opposite returns -/
def oppositeOf (g : Gl) : Gl × Int := if errG g ≠ 0 then ((0, 0, 0), errG g) else (oppG g, 0)

set_option maxHeartbeats 400000 in
theorem Opposite_any (g : Gl) (w : World) :
    Calls Try.prog 25 #[.agg #[.int .i64 g.1, .int .i64 g.2.1, .int .i64 g.2.2]] w fun e w' => e = .returned (.tuple #[.agg #[.int .i64 (oppositeOf g).1.1, .int .i64 (oppositeOf g).1.2.1, .int .i64 (oppositeOf g).1.2.2], .int .i64 (oppositeOf g).2]) ∧ Below w.heap.size w w' := by
  have hb0 := below_two w (.cells #[.int .i64 g.1, .int .i64 g.2.1, .int .i64 g.2.2] 28) (.cells #[.int .i64 0, .int .i64 0, .int .i64 0] 28)
  have HB0 := Lib.hid hb0
  clear hb0
  by_cases h0 : errG g = 0
  · have hb : (errG g != 0) = false := by simp [h0]
    obtain ⟨o1, o2⟩ := errG_ok h0
    have hres : oppositeOf g = (oppG g, 0) := by rw [oppositeOf, if_neg (by simp [h0])]
    have HRES := Lib.hid hres
    clear hres h0
    go_enter Try.func25, Try.ntmps25
    go_wp2_with (first
      | (go_at_call 100; refine (checkG_any g _).mono ?_; rintro e w1 ⟨rfl, hb1⟩; obtain ⟨hcc, hf⟩ := bcell hb1; have hz0 : w.heap.size + 1 < w1.heap.size := (by have := hb1.size; simp at this; omega))
      | (go_at_call 101; refine (opposite_any g _ o1.1 o1.2 o2).mono ?_; rintro e w2 ⟨rfl, hb2⟩; obtain ⟨hcc2, hf2⟩ := bcell hb2; have hz2 := hb2.size))
    obtain ⟨k0, k1, k2⟩ := cells3 (w := w2) (B := w.heap.size + 1) (.int .i64 (-g.1)) (.int .i64 (-g.2.1)) (.int .i64 (-g.2.2 - 1)) ((hcc2 _ _ hz0).trans ((hcc _ _ (by simp)).trans (by simp; rfl))) ((hcc2 _ _ hz0).trans ((hcc _ _ (by simp)).trans (by simp; rfl))) ((hcc2 _ _ hz0).trans ((hcc _ _ (by simp)).trans (by simp; rfl)))
    generalize hW : (((w2.setCell ⟨w.heap.size + 1, 0, none⟩ (.int .i64 (-g.1))).setCell ⟨w.heap.size + 1, 1, none⟩ (.int .i64 (-g.2.1))).setCell ⟨w.heap.size + 1, 2, none⟩ (.int .i64 (-g.2.2 - 1))) = W at *
    refine bodyPost_ret (by simp [results, Try.results25, go_sem, k0, k1, k2]; try rfl) rfl ?_
    exact ⟨by rw [HRES.out] <;> try rfl, by rw [← hW]; exact (((((al0 HB0.out hb1 (by simp <;> omega)).trans (hb2.mono (by omega))).setCell (Nat.le_succ _) _).setCell (Nat.le_succ _) _).setCell (Nat.le_succ _) _)⟩
  · have hb : (errG g != 0) = true := by simp [h0]
    have hres : oppositeOf g = ((0, 0, 0), errG g) := by rw [oppositeOf, if_pos h0]
    have HRES := Lib.hid hres
    clear hres h0
    go_enter Try.func25, Try.ntmps25
    go_wp2_with (go_at_call 100; refine (checkG_any g _).mono ?_; rintro e w1 ⟨rfl, hb1⟩; obtain ⟨hcc, hf⟩ := bcell hb1; have hz0 : w.heap.size + 1 < w1.heap.size := (by have := hb1.size; simp at this; omega))
    obtain ⟨k0, k1, k2⟩ := cells3 (w := w1) (B := w.heap.size + 1) (.int .i64 0) (.int .i64 0) (.int .i64 0) (((hcc _ _ (by simp)).trans (by simp; rfl))) (((hcc _ _ (by simp)).trans (by simp; rfl))) (((hcc _ _ (by simp)).trans (by simp; rfl)))
    generalize hW : (((w1.setCell ⟨w.heap.size + 1, 0, none⟩ (.int .i64 0)).setCell ⟨w.heap.size + 1, 1, none⟩ (.int .i64 0)).setCell ⟨w.heap.size + 1, 2, none⟩ (.int .i64 0)) = W at *
    refine bodyPost_ret (by simp [results, Try.results25, go_sem, k0, k1, k2]; try rfl) rfl ?_
    exact ⟨by rw [HRES.out] <;> try rfl, by rw [← hW]; exact ((((al0 HB0.out hb1 (by simp <;> omega)).setCell (Nat.le_succ _) _).setCell (Nat.le_succ _) _).setCell (Nat.le_succ _) _)⟩

/-- a hill in memory -/
def HillAt (w : World) (B : Nat) (n : Int) (v : Value) : Prop := B < w.heap.size ∧ w.cell? ⟨B, 0, none⟩ = some (.int .i64 n) ∧ w.cell? ⟨B, 1, none⟩ = some v
theorem HillAt.below {w w' : World} {B : Nat} {n : Int} {v : Value} (h : HillAt w B n v) {N : Nat} (hN : w.heap.size ≤ N) (hb : Below N w w') : HillAt w' B n v :=
  ⟨Nat.lt_of_lt_of_le h.1 hb.size, (hb.cell (p := ⟨B, 0, none⟩) (Nat.lt_of_lt_of_le h.1 hN)).trans h.2.1, (hb.cell (p := ⟨B, 1, none⟩) (Nat.lt_of_lt_of_le h.1 hN)).trans h.2.2⟩

/-- places and an error -/
def PlacesErr (w : World) (r : List Pl × Int) (e : Ending) (w' : World) : Prop :=
  ∃ q cap, e = .returned (.tuple #[.slice q r.1.length cap, .int .i64 r.2]) ∧ RowP w' q r.1 ∧ Below w.heap.size w w'

/-- the places up to a place that agree -/
def regTo (n : Nat) (gs : List Gl) (i j : Nat) : List Pl := (cols n i ++ rowL i j).filter (agrAll gs)
def regL (n : Nat) (gs : List Gl) : List Pl := (gridL n).filter (agrAll gs)
theorem regTo_zero (n : Nat) (gs : List Gl) : regTo n gs 0 0 = [] := by simp [regTo, cols, rowL]
theorem regTo_step (n : Nat) (gs : List Gl) (i j : Nat) : regTo n gs i (j + 1) = regTo n gs i j ++ (if agrAll gs ((i : Int), (j : Int)) then [((i : Int), (j : Int))] else []) := by
  rw [regTo, regTo, rowL_succ, ← List.append_assoc, List.filter_append]; congr 1; simp only [List.filter_cons, List.filter_nil]
theorem regTo_col (n : Nat) (gs : List Gl) (i : Nat) : regTo n gs i n = regTo n gs (i + 1) 0 := by
  rw [regTo, regTo, cols_succ]; simp [rowL]
theorem regTo_all (n : Nat) (gs : List Gl) : regTo n gs n 0 = regL n gs := by simp [regTo, regL, gridL, rowL]
theorem regTo_le (n : Nat) (gs : List Gl) (i j : Nat) : (regTo n gs i j).length ≤ i * n + j := by
  rw [regTo]; refine Nat.le_trans (List.length_filter_le _ _) ?_; rw [List.length_append, cols_length, rowL_length]; exact Nat.le_refl _
theorem regTo_bd {n : Nat} {gs : List Gl} {i j : Nat} (hn : n ≤ 7) (hi : i ≤ n) (hj : j ≤ n) : (regTo n gs i j).length ≤ 1000 := by
  have h1 := regTo_le n gs i j
  have h2 := Nat.mul_le_mul (show i ≤ 7 by omega) hn
  omega

/-- what Region returns -/
def regionOf (n : Int) (gs : List Gl) : List Pl × Int := if errH n gs ≠ 0 then ([], errH n gs) else (regL n.toNat gs, 0)

set_option maxRecDepth 100000 in
set_option maxHeartbeats 1000000 in
theorem Region_any (n : Int) (q : Option Addr) (cap : Nat) (gs : List Gl) (w : World) (hr : RowG w q gs) :
    Calls Try.prog 23 #[.agg #[.int .i64 n, .slice q gs.length cap]] w (PlacesErr w (regionOf n gs)) := by
  have hb0 : Below w.heap.size w (w.alloc (.cells #[.int .i64 n, .slice q gs.length cap] 24)) := (Below.refl _ _).alloc (Nat.le_refl _) _
  have hr' := hr.below (Nat.le_refl _) hb0
  have hB : HillAt (w.alloc (.cells #[.int .i64 n, .slice q gs.length cap] 24)) w.heap.size n (.slice q gs.length cap) := ⟨by simp, by simp, by simp⟩
  have c1 := check_any n q cap gs _ hr'
  have C1 := Lib.hid c1
  have HR := Lib.hid hr'
  have HBX := Lib.hid hB
  have HB0 := Lib.hid hb0
  clear c1 hr' hB hb0
  by_cases h0 : errH n gs = 0
  · obtain ⟨o1, o2, o3, o4⟩ := errH_ok h0
    have hb : (errH n gs != 0) = false := by simp [h0]
    obtain ⟨m, rfl⟩ := Int.eq_ofNat_of_zero_le (show 0 ≤ n by omega)
    have hgs := okGs_of o4
    have hm : m ≤ 7 := by omega
    have hres : regionOf m gs = (regL m gs, 0) := by rw [regionOf, if_neg (by simp [h0]), Int.toNat_natCast]
    have HRES := Lib.hid hres
    clear hres h0 o4 o1 o2
    go_enter Try.func23, Try.ntmps23
    go_wp2_with (go_at_call 32; refine C1.out.mono ?_; rintro e w1 ⟨rfl, hb1⟩; have S1 := HBX.out.below (Nat.le_refl _) hb1; obtain ⟨z1, a1, a2⟩ := S1)
    have HX1 := Lib.hid (HBX.out.below (Nat.le_refl _) hb1)
    have HR1 := Lib.hid (HR.out.below (Nat.le_refl _) hb1)
    have HB1 := Lib.hid (al0 HB0.out hb1 (by simp <;> omega))
    clear HBX HR C1 HB0 a1 a2
    go_loopw [5, 16] (fun v i wr => ∃ k : Nat, k ≤ m ∧ i = .int .i64 k ∧ wr.ownsRow w1.heap.size 26 2 v (regTo m gs k 0).length (flatP (regTo m gs k 0)) ∧ Below w1.heap.size w1 wr) (fun _ i _ => m - (intOf i).toNat)
    case atStart => exact ⟨0, Nat.zero_le _, rfl, by rw [regTo_zero]; exact World.ownsRow_nil _ _ _ _, Below.refl _ _⟩
    case round =>
      obtain ⟨k, hk, rfl, hown, hbel⟩ := hrel
      have S2 := HX1.out.below (Nat.le_refl _) hbel
      obtain ⟨z2, a1, a2⟩ := S2
      by_cases hlt : k < m
      · obtain ⟨wo, rfl⟩ : ∃ wo : World, wo = wr := ⟨_, rfl⟩
        go_wp2
        go_loopw [5, 21] (fun v j wr => ∃ l : Nat, l ≤ m ∧ j = .int .i64 l ∧ wr.ownsRow w1.heap.size 26 2 v (regTo m gs k l).length (flatP (regTo m gs k l)) ∧ Below w1.heap.size w1 wr) (fun _ j _ => m - (intOf j).toNat)
        case atStart => exact ⟨0, Nat.zero_le _, rfl, hown, hbel⟩
        case round =>
          obtain ⟨l, hl', rfl, hown', hbel'⟩ := hrel
          clear hown a1 a2
          have HO := Lib.hid hown'
          clear hown'
          by_cases hlt' : l < m
          · have S3 := HX1.out.below (Nat.le_refl _) hbel'
            obtain ⟨z3, a1, a2⟩ := S3
            have hst := regTo_step m gs k l
            have hbd := regTo_bd (n := m) (gs := gs) (i := k) (j := l) hm hk hl'
            have HP : okP ((k : Int), (l : Int)) := ⟨⟨by omega, by simp; omega⟩, ⟨by omega, by simp; omega⟩⟩
            have HS := Lib.hid hst
            clear hst
            have hba : Below wr.heap.size wr (wr.alloc (.cells #[.int .i64 k, .int .i64 l] 26)) := (Below.refl _ _).alloc (Nat.le_refl _) _
            have c1 := agreesAll_any ((k : Int), (l : Int)) q cap gs (wr.alloc (.cells #[.int .i64 k, .int .i64 l] 26)) HP hgs ((HR1.out.below (Nat.le_refl _) hbel').below (Nat.le_refl _) hba) (by omega)
            have HBA := Lib.hid hba
            have C1 := Lib.hid c1
            have hw1 := hbel'.size
            clear c1 hba
            go_wp2_with (first
              | (go_at_call 96; refine (C1.out).mono ?_; rintro e w2 ⟨rfl, hb2⟩; obtain ⟨hcc, hf⟩ := bcell hb2; have hz0 : wr.heap.size < w2.heap.size := (by have := hb2.size; simp at this; omega); have ho2 := owns_below HO.out (Nat.le_refl _) (al0 HBA.out hb2 (by simp <;> omega)); have HO2 := Lib.hid ho2; clear ho2)
              | (at_builtin; refine app_place _ rfl (.tmp 31) (.tmp 33) rfl w1.heap.size _ _ ((k : Int), (l : Int)) rfl (HO2.out.alloc _) w2.heap.size 1 rfl (by simp) (by simp) (by omega) (by simp <;> omega) ?_; intro v' w3 hown3 hgrow hblk))
            · have hy : agrAll gs ((k : Int), (l : Int)) = true := by assumption
              have e1 : regTo m gs k (l + 1) = regTo m gs k l ++ [((k : Int), (l : Int))] := by rw [HS.out, if_pos hy]
              have hb3 := grown_below (HO2.out.alloc (.cells #[.int .i64 k, .int .i64 l] 26)) (by simp; omega) hgrow
              have hbn := ((hbel'.trans ((al0 HBA.out hb2 (by simp <;> omega)).mono hw1)).alloc (by omega) (.cells #[.int .i64 k, .int .i64 l] 26)).trans hb3
              go_roundw
              case rel => exact ⟨l + 1, by omega, by go_num, by rw [e1]; exact hown3, hbn⟩
              case measure => simp [intOf]; omega
            · have hy : agrAll gs ((k : Int), (l : Int)) = false := by assumption
              have e1 : regTo m gs k (l + 1) = regTo m gs k l := by rw [HS.out, if_neg (by simp [hy]), List.append_nil]
              go_roundw
              case rel => exact ⟨l + 1, by omega, by go_num, by rw [e1]; exact HO2.out, hbel'.trans ((al0 HBA.out hb2 (by simp <;> omega)).mono hw1)⟩
              case measure => simp [intOf]; omega
          · obtain rfl : l = m := by omega
            go_wp2
            go_roundw
            case rel => exact ⟨k + 1, by omega, by go_num, by rw [← regTo_col]; exact HO.out, hbel'⟩
            case measure => simp [intOf]; omega
      · obtain rfl : k = m := by omega
        rw [regTo_all] at hown
        obtain ⟨q1, cc, rfl, r1⟩ := rowP_of_owns hown
        clear hown
        go_wp2
        go_ret2
        exact ⟨q1, cc, by rw [HRES.out]; rfl, by rw [HRES.out]; exact r1, HB1.out.trans (hbel.mono (by omega))⟩
  · have hb : (errH n gs != 0) = true := by simp [h0]
    have hres : regionOf n gs = ([], errH n gs) := by rw [regionOf, if_pos h0]
    have HRES := Lib.hid hres
    clear hres h0
    go_enter Try.func23, Try.ntmps23
    go_wp2_with (go_at_call 32; refine C1.out.mono ?_; rintro e w1 ⟨rfl, hb1⟩)
    go_ret2
    exact ⟨none, 0, by rw [HRES.out]; rfl, by rw [HRES.out]; exact .inl rfl, al0 HB0.out hb1 (by simp <;> omega)⟩
end Go.Proofs.Ytcalipoknbbaaaa
