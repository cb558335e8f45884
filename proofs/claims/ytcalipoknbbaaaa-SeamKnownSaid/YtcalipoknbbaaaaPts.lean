/- before, turn, Points, checkWithPlace, inHull (package seam). -/
import Derived.Test.YtcalipoknbbaaaaNeed
namespace Go.Proofs.Ytcalipoknbbaaaa
open Go.RowKit

/-- whether a place is smaller than another one -/
def beforeP (p q : Pl) : Bool := decide (p.1 < q.1) || (p.1 == q.1 && decide (p.2 < q.2))

set_option maxHeartbeats 400000 in
theorem before_any (p q : Pl) (w : World) :
    Calls Try.prog 125 #[.agg #[.int .i64 p.1, .int .i64 p.2], .agg #[.int .i64 q.1, .int .i64 q.2]] w fun e w' => e = .returned (.bool (beforeP p q)) ∧ Below w.heap.size w w' := by
  have hb0 := below_two w (.cells #[.int .i64 p.1, .int .i64 p.2] 26) (.cells #[.int .i64 q.1, .int .i64 q.2] 26)
  by_cases h1 : p.1 < q.1
  · go_enter Try.func125, Try.ntmps125
    go_wp2
    go_ret
    exact ⟨ret_bool (by simp [beforeP, h1]), hb0⟩
  · by_cases h2 : p.1 = q.1
    · have h2' : (p.1 == q.1) = true := by simp [h2]
      have H2 := Lib.hid h2
      clear h2
      by_cases h3 : p.2 < q.2
      · go_enter Try.func125, Try.ntmps125
        go_wp2
        go_ret
        exact ⟨ret_bool (by simp [beforeP, H2.out, h3]), hb0⟩
      · go_enter Try.func125, Try.ntmps125
        go_wp2
        go_ret
        exact ⟨ret_bool (by simp [beforeP, H2.out, h3]), hb0⟩
    · have h2' : (p.1 == q.1) = false := by simp [h2]
      go_enter Try.func125, Try.ntmps125
      go_wp2
      go_ret
      exact ⟨ret_bool (by simp [beforeP, h1, h2]), hb0⟩

/-- twice the area -/
def turnP (o p q : Pl) : Int := (p.1 - o.1) * (q.2 - o.2) - (p.2 - o.2) * (q.1 - o.1)

set_option maxHeartbeats 400000 in
theorem turn_any (o p q : Pl) (w : World) (ho : okP o) (hp : okP p) (hq : okP q) :
    Calls Try.prog 117 #[.agg #[.int .i64 o.1, .int .i64 o.2], .agg #[.int .i64 p.1, .int .i64 p.2], .agg #[.int .i64 q.1, .int .i64 q.2]] w fun e w' => e = .returned (.int .i64 (turnP o p q)) ∧ Below w.heap.size w w' := by
  obtain ⟨⟨o1, o2⟩, o3, o4⟩ := ho
  obtain ⟨⟨p1, p2⟩, p3, p4⟩ := hp
  obtain ⟨⟨q1, q2⟩, q3, q4⟩ := hq
  have hb0 := (below_two w (.cells #[.int .i64 o.1, .int .i64 o.2] 26) (.cells #[.int .i64 p.1, .int .i64 p.2] 26)).alloc (by simp; omega) (.cells #[.int .i64 q.1, .int .i64 q.2] 26)
  have m1 := mul_small (x := p.1 - o.1) (y := q.2 - o.2) (a := 2000) (b := 2000) ⟨by omega, by omega⟩ ⟨by omega, by omega⟩
  have m2 := mul_small (x := p.2 - o.2) (y := q.1 - o.1) (a := 2000) (b := 2000) ⟨by omega, by omega⟩ ⟨by omega, by omega⟩
  obtain ⟨m11, m12⟩ := m1
  obtain ⟨m21, m22⟩ := m2
  go_enter Try.func117, Try.ntmps117
  go_wp2
  go_ret
  refine ⟨ret_int ?_, hb0⟩
  rfl
/-- the error of points in a row, after a place -/
def errPs : Option Pl → List Pl → Int
  | _, [] => 0
  | o, p :: r => if onG 7 p = false then 2 else if (match o with | some b => !beforeP b p | none => false) = true then 7 else errPs (some p) r
theorem errPs_nil (o : Option Pl) : errPs o [] = 0 := by cases o <;> rfl
theorem errPs_cons (o : Option Pl) (p : Pl) (r : List Pl) : errPs o (p :: r) = if onG 7 p = false then 2 else if (match o with | some b => !beforeP b p | none => false) = true then 7 else errPs (some p) r := by cases o <;> rfl
/-- the error of points -/
def errP (ps : List Pl) : Int := if ps.length = 0 then 4 else if 12 < ps.length then 3 else errPs none ps
/-- the place ahead of one -/
def prevOf (ps : List Pl) : Nat → Option Pl
  | 0 => none
  | k + 1 => some (ps.getD k (0, 0))

set_option maxRecDepth 100000 in
set_option maxHeartbeats 1000000 in
theorem Points_any (q : Option Addr) (cap : Nat) (ps : List Pl) (w : World) (hr : RowP w q ps) :
    Calls Try.prog 55 #[.slice q ps.length cap] w fun e w' => e = .returned (.int .i64 (errP ps)) ∧ Below w.heap.size w w' := by
  have HR := Lib.hid hr
  clear hr
  by_cases h0 : ps.length = 0
  · have h0' : ((ps.length : Int) == 0) = true := by simp [h0]
    have hres : errP ps = 4 := by rw [errP, if_pos h0]
    have HRES := Lib.hid hres
    clear hres h0
    go_enter Try.func55, Try.ntmps55
    go_wp2
    go_ret
    exact ⟨ret_int (by rw [HRES.out]), Below.refl _ _⟩
  · have h0' : ((ps.length : Int) == 0) = false := by simpa using h0
    by_cases h1 : 12 < ps.length
    · have hres : errP ps = 3 := by rw [errP, if_neg h0, if_pos h1]
      have HRES := Lib.hid hres
      clear hres h0
      go_enter Try.func55, Try.ntmps55
      go_wp2
      go_ret
      exact ⟨ret_int (by rw [HRES.out]), Below.refl _ _⟩
    · have hres : errP ps = errPs none ps := by rw [errP, if_neg h0, if_neg h1]
      have HRES := Lib.hid hres
      clear hres h0
      go_enter Try.func55, Try.ntmps55
      go_wp2
      go_loopw [13] (fun i wr => ∃ k : Nat, k ≤ ps.length ∧ i = .int .i64 k ∧ errPs none ps = errPs (prevOf ps k) (ps.drop k) ∧ Below w.heap.size w wr) (fun i _ => ps.length - (intOf i).toNat)
      case atStart => exact ⟨0, Nat.zero_le _, rfl, rfl, Below.refl _ _⟩
      case round =>
        obtain ⟨k, hk, rfl, hord, hbel⟩ := hrel
        by_cases hlt : k < ps.length
        · obtain ⟨bb, off, rfl, hbz, g1, g2⟩ := HR.out.at hlt (Nat.le_refl _) hbel
          have hw1 := hbel.size
          rw [List.drop_eq_getElem_cons hlt, ← getD_eq ps k (0, 0) hlt, errPs_cons] at hord
          have hpr : prevOf ps (k + 1) = some (ps.getD k (0, 0)) := rfl
          cases hx : onG 7 (ps.getD k (0, 0)) with
          | true =>
            have hx' : (!onG 7 (ps.getD k (0, 0))) = false := by rw [hx]; rfl
            rw [if_neg (by rw [hx]; simp), ← hpr] at hord
            generalize hp : ps.getD k (0, 0) = p at g1 g2 hx hx' hord hpr
            by_cases hk0 : k = 0
            · have e1 : prevOf ps k = none := by rw [hk0]; rfl
              rw [e1, if_neg (by simp)] at hord
              have HO := Lib.hid hord
              have HP := Lib.hid hpr
              have hd : decide (0 < (k : Int)) = false := by simp [hk0]
              have hd2 : decide (0 < k) = false := by simp [hk0]
              clear hord hpr e1 hp hk0
              go_wp2_with (go_at_call 95; refine (onGrid_any 7 p _).mono ?_; rintro e w1 ⟨rfl, hb1⟩; obtain ⟨hcc, hf⟩ := bcell hb1; have hz0 : wr.heap.size < w1.heap.size := (by have := hb1.size; simp at this; omega))
              go_quiet (skip)
              have hbn := below_drewN (hbel.trans ((al0 ((Below.refl wr.heap.size wr).alloc (Nat.le_refl _) (.cells #[.int .i64 p.1, .int .i64 p.2] 26)) hb1 (by simp <;> omega)).mono hw1)) nq
              go_wp2
              go_roundw
              case rel => exact ⟨k + 1, hlt, by go_num, HO.out, hbn⟩
              case measure => simp [intOf]; omega
            · obtain ⟨j, hkj⟩ : ∃ j, k = j + 1 := ⟨k - 1, by omega⟩
              have e1 : prevOf ps k = some (ps.getD j (0, 0)) := by rw [hkj]; rfl
              rw [e1] at hord
              obtain ⟨bb2, off2, e2, hbz2, f1, f2⟩ := HR.out.at (show j < ps.length by omega) (Nat.le_refl _) hbel
              simp only [Option.some.injEq, Addr.mk.injEq] at e2
              obtain ⟨rfl, rfl, _⟩ := e2
              have hjk : (k : Int) - 1 = (j : Int) := by omega
              have HO := Lib.hid hord
              have HP := Lib.hid hpr
              have hd : decide (0 < (k : Int)) = true := by simp; omega
              have hd2 : decide (0 < k) = true := by simp; omega
              generalize hp2 : ps.getD j (0, 0) = p2 at f1 f2 HO
              have hjl : (j : Int) < (ps.length : Int) := by omega
              have hj0 : (0 : Int) ≤ (j : Int) := by omega
              have hwr : IntKind.i64.wrap (j : Int) = (j : Int) := IntWalk.i64_in _ ⟨by omega, by omega⟩
              clear hord hpr e1 hp hk0 hp2 hkj
              go_wp2_with (go_at_call 95; refine (onGrid_any 7 p _).mono ?_; rintro e w1 ⟨rfl, hb1⟩; obtain ⟨hcc, hf⟩ := bcell hb1; have hz0 : wr.heap.size < w1.heap.size := (by have := hb1.size; simp at this; omega))
              have hbb : bb < wr.heap.size := by omega
              have b1 : w1.cell? ⟨wr.heap.size, 0, none⟩ = some (.int .i64 p.1) := (hcc _ _ (by simp)).trans (by simp)
              have b2 : w1.cell? ⟨wr.heap.size, 1, none⟩ = some (.int .i64 p.2) := (hcc _ _ (by simp)).trans (by simp)
              have b3 : w1.cell? ⟨bb, off + j * 2, none⟩ = some (.int .i64 p2.1) := (hcc _ _ (by simp; omega)).trans ((World.cell?_alloc_old _ _ _ (Nat.ne_of_lt hbb)).trans f1)
              have b4 : w1.cell? ⟨bb, off + j * 2 + 1, none⟩ = some (.int .i64 p2.2) := (hcc _ _ (by simp; omega)).trans ((World.cell?_alloc_old _ _ _ (Nat.ne_of_lt hbb)).trans f2)
              have hz1 : bb < w1.heap.size := by omega
              clear f1 f2 g1 g2 hcc hf
              go_region_held3 (fun W => W.cell? ⟨wr.heap.size, 0, none⟩ = some (.int .i64 p.1) ∧ W.cell? ⟨wr.heap.size, 1, none⟩ = some (.int .i64 p.2) ∧ W.cell? ⟨bb, off + j * 2, none⟩ = some (.int .i64 p2.1) ∧ W.cell? ⟨bb, off + j * 2 + 1, none⟩ = some (.int .i64 p2.2)) (go_keep)
                (first | (go_at_call 125; refine (before_any p2 p _).mono ?_; rintro e w2 ⟨rfl, hb2⟩; have d1 := ((bcell hb2).1 wr.heap.size 0 hz0).trans b1; have d2 := ((bcell hb2).1 wr.heap.size 1 hz0).trans b2; have d3 := ((bcell hb2).1 bb (off + j * 2) hz1).trans b3; have d4 := ((bcell hb2).1 bb (off + j * 2 + 1) hz1).trans b4))
              have hbn := (hbel.trans ((al0 ((Below.refl wr.heap.size wr).alloc (Nat.le_refl _) (.cells #[.int .i64 p.1, .int .i64 p.2] 26)) hb1 (by simp <;> omega)).mono hw1)).trans ((below_drewN (Below.refl w1.heap.size w1) _).trans hb2 |>.mono (by omega))
              cases hbp : beforeP p2 p with
              | true =>
                have hor := HO.out
                simp only [hbp, Bool.not_true, Bool.false_eq_true, if_false] at hor
                have HO2 := Lib.hid hor
                clear hor
                go_wp2
                go_roundw
                case rel => exact ⟨k + 1, hlt, by go_num, HO2.out, hbn⟩
                case measure => simp [intOf]; omega
              | false =>
                have hor := HO.out
                simp only [hbp, Bool.not_false, if_true] at hor
                have HO2 := Lib.hid hor
                clear hor
                go_wp2
                go_ret
                exact ⟨ret_int (by rw [HRES.out, HO2.out]), hbn⟩
          | false =>
            have hx' : (!onG 7 (ps.getD k (0, 0))) = true := by rw [hx]; rfl
            rw [if_pos hx] at hord
            have HO := Lib.hid hord
            generalize ps.getD k (0, 0) = p at g1 g2 hx hx'
            clear hord hpr
            go_wp2_with (go_at_call 95; refine (onGrid_any 7 p _).mono ?_; rintro e w1 ⟨rfl, hb1⟩)
            go_ret
            exact ⟨ret_int (by rw [HRES.out, HO.out]), hbel.trans ((al0 ((Below.refl _ _).alloc (Nat.le_refl _) _) hb1 (by simp <;> omega)).mono hw1)⟩
        · obtain rfl : k = ps.length := by omega
          rw [List.drop_length, errPs_nil] at hord
          have HO := Lib.hid hord
          clear hord
          go_wp2
          go_ret
          exact ⟨ret_int (by rw [HRES.out, HO.out]), hbel⟩
end Go.Proofs.Ytcalipoknbbaaaa
