/- The reference: side, less, placed, Points, and depth. -/
import Derived.Test.YtcalipoknbbaaaaRefS
import Derived.Test.YtcalipoknbbaaaaDepM
namespace Go.Proofs.Ytcalipoknbbaaaa
open Go.RowKit
set_option linter.unusedSimpArgs false
set_option linter.unusedVariables false

set_option maxHeartbeats 400000 in
theorem rside_any (o p q : Pl) (w : World) (ho : okP o) (hp : okP p) (hq : okP q) :
    Calls Try.prog 119 #[.agg #[.int .i64 o.1, .int .i64 o.2], .agg #[.int .i64 p.1, .int .i64 p.2], .agg #[.int .i64 q.1, .int .i64 q.2]] w fun e w' => e = .returned (.int .i64 (turnP o p q)) ∧ Below w.heap.size w w' := by
  obtain ⟨⟨o1, o2⟩, o3, o4⟩ := ho
  obtain ⟨⟨p1, p2⟩, p3, p4⟩ := hp
  obtain ⟨⟨q1, q2⟩, q3, q4⟩ := hq
  have hb0 := (below_two w (.cells #[.int .i64 o.1, .int .i64 o.2] 38) (.cells #[.int .i64 p.1, .int .i64 p.2] 38)).alloc (by simp; omega) (.cells #[.int .i64 q.1, .int .i64 q.2] 38)
  have m1 := mul_small (x := p.1 - o.1) (y := q.2 - o.2) (a := 2000) (b := 2000) ⟨by omega, by omega⟩ ⟨by omega, by omega⟩
  have m2 := mul_small (x := p.2 - o.2) (y := q.1 - o.1) (a := 2000) (b := 2000) ⟨by omega, by omega⟩ ⟨by omega, by omega⟩
  obtain ⟨m11, m12⟩ := m1
  obtain ⟨m21, m22⟩ := m2
  go_enter Try.func119, Try.ntmps119
  go_wp2
  go_ret
  refine ⟨ret_int ?_, hb0⟩
  rfl

set_option maxHeartbeats 400000 in
theorem rless_any (p q : Pl) (w : World) :
    Calls Try.prog 127 #[.agg #[.int .i64 p.1, .int .i64 p.2], .agg #[.int .i64 q.1, .int .i64 q.2]] w fun e w' => e = .returned (.bool (beforeP p q)) ∧ Below w.heap.size w w' := by
  have hb0 := below_two w (.cells #[.int .i64 p.1, .int .i64 p.2] 38) (.cells #[.int .i64 q.1, .int .i64 q.2] 38)
  by_cases h1 : p.1 < q.1
  · go_enter Try.func127, Try.ntmps127
    go_wp2
    go_ret
    exact ⟨ret_bool (by simp [beforeP, h1]), hb0⟩
  · by_cases h2 : p.1 = q.1
    · have h2' : (p.1 == q.1) = true := by simp [h2]
      have H2 := Lib.hid h2
      clear h2
      by_cases h3 : p.2 < q.2
      · go_enter Try.func127, Try.ntmps127
        go_wp2
        go_ret
        exact ⟨ret_bool (by simp [beforeP, H2.out, h3]), hb0⟩
      · go_enter Try.func127, Try.ntmps127
        go_wp2
        go_ret
        exact ⟨ret_bool (by simp [beforeP, H2.out, h3]), hb0⟩
    · have h2' : (p.1 == q.1) = false := by simp [h2]
      go_enter Try.func127, Try.ntmps127
      go_wp2
      go_ret
      exact ⟨ret_bool (by simp [beforeP, h1, h2]), hb0⟩

set_option maxHeartbeats 400000 in
theorem rplaced_any (p : Pl) (w : World) :
    Calls Try.prog 126 #[.agg #[.int .i64 p.1, .int .i64 p.2]] w fun e w' => e = .returned (.bool (onG 7 p)) ∧ Below w.heap.size w w' := by
  have hb0 : Below w.heap.size w (w.alloc (.cells #[.int .i64 p.1, .int .i64 p.2] 38)) := (Below.refl _ _).alloc (Nat.le_refl _) _
  have hg := onG_in 7 p
  obtain ⟨A, hA⟩ : ∃ A, inB p.1 0 6 = A := ⟨_, rfl⟩
  obtain ⟨B, hB⟩ : ∃ B, inB p.2 0 6 = B := ⟨_, rfl⟩
  have hg2 : onG 7 p = (A && B) := by rw [hg, ← hA, ← hB]; rfl
  rw [hg2]
  have HA := Lib.hid hA
  have HB := Lib.hid hB
  clear hg hg2 hA hB
  cases A with
  | true =>
    go_enter Try.func126, Try.ntmps126
    go_wp2_with (first
      | (go_at_call 97; have hcc := in_any p.1 0 6 (w.alloc (.cells #[.int .i64 p.1, .int .i64 p.2] 38)); rw [HA.out] at hcc; (with_reducible refine hcc.mono ?_); clear hcc; rintro e W ⟨rfl, rfl⟩)
      | (go_at_call 97; have hcc := in_any p.2 0 6 (w.alloc (.cells #[.int .i64 p.1, .int .i64 p.2] 38)); rw [HB.out] at hcc; (with_reducible refine hcc.mono ?_); clear hcc; rintro e W ⟨rfl, rfl⟩))
    go_ret
    exact ⟨ret_bool (by simp), hb0⟩
  | false =>
    go_enter Try.func126, Try.ntmps126
    go_wp2_with (first
      | (go_at_call 97; have hcc := in_any p.1 0 6 (w.alloc (.cells #[.int .i64 p.1, .int .i64 p.2] 38)); rw [HA.out] at hcc; (with_reducible refine hcc.mono ?_); clear hcc; rintro e W ⟨rfl, rfl⟩))
    go_ret
    exact ⟨ret_bool (by simp), hb0⟩

theorem RowP.cell {W : World} {b off : Nat} {xs : List Pl} (h : RowP W (some ⟨b, off, none⟩) xs) {k : Nat} (hk : k < xs.length) : W.cell? ⟨b, off + k * 2, none⟩ = some (.int .i64 (xs.getD k (0, 0)).1) ∧ W.cell? ⟨b, off + k * 2 + 1, none⟩ = some (.int .i64 (xs.getD k (0, 0)).2) := by
  rcases h with h0 | ⟨b', off', e, hz, hc⟩
  · subst h0; simp at hk
  · simp only [Option.some.injEq, Addr.mk.injEq] at e
    obtain ⟨rfl, rfl, _⟩ := e
    exact hc k hk

set_option maxRecDepth 100000 in
set_option maxHeartbeats 2000000 in
theorem rPoints_any (q : Option Addr) (cap : Nat) (ps : List Pl) (w : World) (hr : RowP w q ps) :
    Calls Try.prog 56 #[.slice q ps.length cap] w fun e w' => e = .returned (.int .i64 (errP ps)) ∧ Below w.heap.size w w' := by
  obtain ⟨F, hF⟩ : ∃ F, errP ps = F := ⟨_, rfl⟩
  rw [hF]
  by_cases h0 : ps.length = 0
  · have h0' : ((ps.length : Int) == 0) = true := by simp [h0]
    have hres : F = 4 := by rw [← hF, errP, if_pos h0]
    subst hres
    clear hF h0
    go_enter Try.func56, Try.ntmps56
    go_wp2
    go_ret
    exact ⟨rfl, Below.refl _ _⟩
  · have h0' : ((ps.length : Int) == 0) = false := by simpa using h0
    by_cases h1 : 12 < ps.length
    · have hres : F = 3 := by rw [← hF, errP, if_neg h0, if_pos h1]
      subst hres
      clear hF h0
      go_enter Try.func56, Try.ntmps56
      go_wp2
      go_ret
      exact ⟨rfl, Below.refl _ _⟩
    · have hres : F = errPs none ps := by rw [← hF, errP, if_neg h0, if_neg h1]
      have HRES := Lib.hid hres
      have HI := Lib.hid ((Inv.start w).addP hr)
      clear hres h0 hF hr
      go_enter Try.func56, Try.ntmps56
      go_wp2
      go_loopw [3] (fun i wr => ∃ k : Nat, k ≤ ps.length ∧ i = .int .i64 k ∧ errPs none ps = errPs (prevOf ps k) (ps.drop k) ∧ Inv w wr [] [(q, ps)] [] []) (fun i _ => ps.length - (intOf i).toNat)
      case atStart => exact ⟨0, Nat.zero_le _, rfl, rfl, HI.out⟩
      case round =>
        clear HI
        obtain ⟨k, hk, rfl, hord, hI⟩ := hrel
        have HI := Lib.hid hI
        clear hI
        by_cases hlt : k < ps.length
        · obtain ⟨bb, off, hqe, hbz, g1, g2⟩ := (HI.out.2.1 (q, ps) (by simp)).at hlt (Nat.le_refl _) (Below.refl _ _)
          dsimp only at hqe g1 g2
          subst hqe
          rw [List.drop_eq_getElem_cons hlt, ← getD_eq ps k (0, 0) hlt, errPs_cons] at hord
          have hpr : prevOf ps (k + 1) = some (ps.getD k (0, 0)) := rfl
          obtain ⟨p, hp⟩ : ∃ p, ps.getD k (0, 0) = p := ⟨_, rfl⟩
          rw [hp] at g1 g2 hord hpr
          obtain ⟨X, hX⟩ : ∃ X, onG 7 p = X := ⟨_, rfl⟩
          have HX := Lib.hid hX
          rw [hX] at hord
          have HP := Lib.hid hp
          have HPR := Lib.hid hpr
          clear hX hp hpr
          have cP := rplaced_any p wr
          rw [HX.out] at cP
          have CP := Lib.hid cP
          clear cP
          cases X with
          | false =>
            have hf := HRES.out
            rw [hord, if_pos rfl] at hf
            have HF := Lib.hid hf
            clear hord hf
            go_wp2_with (go_at_call 126; have hcc := CP.out; (with_reducible refine hcc.mono ?_); clear hcc; rintro e V ⟨rfl, hb⟩; have J := Lib.hid (HI.out.go hb); clear hb)
            go_ret
            exact ⟨ret_int HF.out.symm, J.out.2.2.2.2⟩
          | true =>
            rw [if_neg (by simp)] at hord
            have HORD := Lib.hid hord
            have HLT := Lib.hid hlt
            clear hord
            by_cases hk0 : k = 0
            · have e1 : prevOf ps k = none := by rw [hk0]; rfl
              have hor := HORD.out
              rw [e1, if_neg (by simp)] at hor
              have HOR := Lib.hid hor
              have hd : decide (0 < (k : Int)) = false := by simp [hk0]
              have hd2 : decide (0 < k) = false := by simp [hk0]
              clear e1 hor hk0
              go_wp2_with (go_at_call 126; have hcc := CP.out; (with_reducible refine hcc.mono ?_); clear hcc; rintro e V ⟨rfl, hb⟩; have J := Lib.hid (HI.out.go hb); clear hb)
              go_quiet (fail)
              go_wp2
              go_roundw
              case rel => exact ⟨k + 1, by have := HLT.out; omega, by go_num, by rw [HOR.out, show prevOf ps (k + 1) = some p from HPR.out], J.out.go (below_drewN (Below.refl _ _) _)⟩
              case measure => have := HLT.out; simp [intOf]; omega
            · obtain ⟨j, hkj⟩ : ∃ j, k = j + 1 := ⟨k - 1, by omega⟩
              have hjl : j < ps.length := by have := HLT.out; omega
              have hps : prevOf ps k = some (ps.getD j (0, 0)) := by rw [hkj]; rfl
              have hor := HORD.out
              rw [hps] at hor
              obtain ⟨p2, hp2⟩ : ∃ p2, ps.getD j (0, 0) = p2 := ⟨_, rfl⟩
              rw [hp2] at hor
              have HP2 := Lib.hid hp2
              have HOR := Lib.hid hor
              have hbp := fun V => rless_any p2 p V
              obtain ⟨Y, hY⟩ : ∃ Y, beforeP p2 p = Y := ⟨_, rfl⟩
              rw [hY] at hbp
              have HY := Lib.hid hY
              have HBP := Lib.hid hbp
              have hjk : (k : Int) - 1 = (j : Int) := by omega
              have hd : decide (0 < (k : Int)) = true := by simp; omega
              have hd2 : decide (0 < k) = true := by simp; omega
              have hjl2 : (j : Int) < (ps.length : Int) := by omega
              have hj0 : (0 : Int) ≤ (j : Int) := by omega
              have hwj : IntKind.i64.wrap (j : Int) = (j : Int) := IntWalk.i64_in _ ⟨by omega, by omega⟩
              have hlt2 := HLT.out
              have HKJ := Lib.hid hkj
              clear hor hps hp2 hbp hY hk0 hkj
              go_wp2_with (go_at_call 126; have hcc := CP.out; (with_reducible refine hcc.mono ?_); clear hcc; rintro e V ⟨rfl, hb⟩; have J := Lib.hid (HI.out.go hb); clear hb)
              have HJD := Lib.hid (J.out.go (Below.refl _ _).drew)
              obtain ⟨a1, a2⟩ := (J.out.2.1 (some ⟨bb, off, none⟩, ps) (by simp)).cell (k := k) hlt2
              obtain ⟨a3, a4⟩ := (J.out.2.1 (some ⟨bb, off, none⟩, ps) (by simp)).cell (k := j) hjl
              rw [HP.out] at a1 a2
              rw [HP2.out] at a3 a4
              have hbzV : bb < V.heap.size := by
                rcases (J.out.2.1 (some ⟨bb, off, none⟩, ps) (by simp)) with h0 | ⟨b', off', e, hz, _⟩
                · rw [show ps = [] from h0] at hlt2; simp at hlt2
                · simp only [Option.some.injEq, Addr.mk.injEq] at e
                  rw [e.1]; exact hz
              clear g1 g2
              go_upto_region 10 with fail
              go_region_held3 (fun W => W.cell? ⟨bb, off + k * 2, none⟩ = some (.int .i64 p.1) ∧ W.cell? ⟨bb, off + k * 2 + 1, none⟩ = some (.int .i64 p.2) ∧ W.cell? ⟨bb, off + j * 2, none⟩ = some (.int .i64 p2.1) ∧ W.cell? ⟨bb, off + j * 2 + 1, none⟩ = some (.int .i64 p2.2)) (first | exact ⟨a1, a2, a3, a4⟩ | exact ⟨d1, d2, d3, d4⟩ | go_keep)
                (first | (go_at_call 127; have hcc := HBP.out V.drew; (with_reducible refine hcc.mono ?_); clear hcc; rintro e V2 ⟨rfl, hb⟩; have J2 := Lib.hid (HJD.out.go hb); have d1 := (hb.cell (p := ⟨bb, off + k * 2, none⟩) hbzV).trans a1; have d2 := (hb.cell (p := ⟨bb, off + k * 2 + 1, none⟩) hbzV).trans a2; have d3 := (hb.cell (p := ⟨bb, off + j * 2, none⟩) hbzV).trans a3; have d4 := (hb.cell (p := ⟨bb, off + j * 2 + 1, none⟩) hbzV).trans a4; clear hb))
              clear a1 a2 a3 a4 d1 d2 d3 d4
              cases Y with
              | true =>
                have hor := HOR.out
                simp only [HY.out, Bool.not_true, Bool.false_eq_true, if_false] at hor
                have HO2 := Lib.hid hor
                clear hor
                go_wp2
                go_roundw
                case rel => exact ⟨k + 1, by have := HLT.out; omega, by go_num, by rw [HO2.out, show prevOf ps (k + 1) = some p from HPR.out], J2.out⟩
                case measure => have := HLT.out; simp [intOf]; omega
              | false =>
                have hor := HOR.out
                simp only [HY.out, Bool.not_false, if_true] at hor
                have hf := HRES.out
                rw [hor] at hf
                have HO2 := Lib.hid hf
                clear hor hf
                go_wp2
                go_ret
                exact ⟨ret_int HO2.out.symm, J2.out.2.2.2.2⟩
        · obtain rfl : k = ps.length := by omega
          rw [List.drop_length, errPs_nil] at hord
          have hf := HRES.out
          rw [hord] at hf
          have HF := Lib.hid hf
          clear hf hord
          go_wp2
          go_ret
          exact ⟨ret_int HF.out.symm, HI.out.2.2.2.2⟩
end Go.Proofs.Ytcalipoknbbaaaa
namespace Go.Proofs.Ytcalipoknbbaaaa
open Go.RowKit
set_option linter.unusedSimpArgs false
set_option linter.unusedVariables false

def dotP (p q r : Pl) : Int := (q.1 - p.1) * (r.1 - p.1) + (q.2 - p.2) * (r.2 - p.2)
def fLf (p q r : Pl) : Bool := decide (0 < turnP p q r)
def fSm (p q r : Pl) : Bool := decide (turnP p q r = 0) && !(r == p) && decide (0 < dotP p q r)
def fOt (p q r : Pl) : Bool := decide (turnP p q r = 0) && !(r == p) && !decide (0 < dotP p q r)
def rStep (l : List Pl) (p : Pl) (m : Nat) (q : Pl) : Nat :=
  if q = p then m else max (max m (l.countP (fLf p q) + l.countP (fSm p q))) (l.countP (fLf p q) + l.countP (fOt p q))
def rMost (l : List Pl) (p : Pl) (k : Nat) : Nat := (l.take k).foldl (rStep l p) 0
theorem rMost_succ (l : List Pl) (p : Pl) (k : Nat) (h : k < l.length) : rMost l p (k + 1) = rStep l p (rMost l p k) (l.getD k (0, 0)) := by
  rw [rMost, rMost, List.take_succ_eq_append_getElem h, List.foldl_append, getD_eq l k (0, 0) h]
  rfl

theorem dot_bd {p q r : Pl} (hp : NV.inG p) (hq : NV.inG q) (hr : NV.inG r) : -72 ≤ dotP p q r ∧ dotP p q r ≤ 72 := by
  obtain ⟨⟨p1, p2⟩, p3, p4⟩ := hp
  obtain ⟨⟨q1, q2⟩, q3, q4⟩ := hq
  obtain ⟨⟨r1, r2⟩, r3, r4⟩ := hr
  have h1 := NV.prod6 (x := q.1 - p.1) (y := r.1 - p.1) (by omega) (by omega) (by omega) (by omega)
  have h2 := NV.prod6 (x := q.2 - p.2) (y := r.2 - p.2) (by omega) (by omega) (by omega) (by omega)
  unfold dotP
  omega
theorem dirOf_pos (p q r : Pl) : (dirOf (q.1 - p.1) (q.2 - p.2) (1, 1)).1 * (r.1 - p.1) + (dirOf (q.1 - p.1) (q.2 - p.2) (1, 1)).2 * (r.2 - p.2) = 300 * turnP p q r + dotP p q r := by
  simp only [dirOf, turnP, dotP]; grind
theorem dirOf_neg (p q r : Pl) : (dirOf (q.1 - p.1) (q.2 - p.2) (1, -1)).1 * (r.1 - p.1) + (dirOf (q.1 - p.1) (q.2 - p.2) (1, -1)).2 * (r.2 - p.2) = 300 * turnP p q r - dotP p q r := by
  simp only [dirOf, turnP, dotP]; grind
theorem turn_self (p q : Pl) : turnP p q p = 0 := by simp [turnP]
theorem dot_self (p q : Pl) : dotP p q p = 0 := by simp [dotP]
theorem flat_zero {p q r : Pl} (hq : q ≠ p) (ht : turnP p q r = 0) (hd : dotP p q r = 0) : r = p := by
  have e1 : ((q.1 - p.1) * (q.1 - p.1) + (q.2 - p.2) * (q.2 - p.2)) * (r.1 - p.1) = (q.1 - p.1) * dotP p q r - (q.2 - p.2) * turnP p q r := by simp only [turnP, dotP]; grind
  have e2 : ((q.1 - p.1) * (q.1 - p.1) + (q.2 - p.2) * (q.2 - p.2)) * (r.2 - p.2) = (q.2 - p.2) * dotP p q r + (q.1 - p.1) * turnP p q r := by simp only [turnP, dotP]; grind
  rw [ht, hd] at e1 e2
  simp only [Int.mul_zero, Int.sub_zero, Int.add_zero] at e1 e2
  have hn : (q.1 - p.1) * (q.1 - p.1) + (q.2 - p.2) * (q.2 - p.2) ≠ 0 := by
    intro h
    have h1 := NV.dt_self_nonneg (q.1 - p.1, 0)
    have h2 := NV.dt_self_nonneg (0, q.2 - p.2)
    simp only [NV.dt, Int.mul_zero, Int.add_zero, Int.zero_add] at h1 h2
    have a1 : (q.1 - p.1) * (q.1 - p.1) = 0 := by omega
    have a2 : (q.2 - p.2) * (q.2 - p.2) = 0 := by omega
    have b1 : q.1 - p.1 = 0 := by rcases Int.mul_eq_zero.1 a1 with h | h <;> exact h
    have b2 : q.2 - p.2 = 0 := by rcases Int.mul_eq_zero.1 a2 with h | h <;> exact h
    exact hq (Prod.ext (by omega) (by omega))
  have c1 : r.1 - p.1 = 0 := (Int.mul_eq_zero.1 e1).resolve_left hn
  have c2 : r.2 - p.2 = 0 := (Int.mul_eq_zero.1 e2).resolve_left hn
  exact Prod.ext (by omega) (by omega)

theorem sum_same {p q : Pl} (hp : NV.inG p) (hq : NV.inG q) : ∀ l : List Pl, (∀ r ∈ l, NV.inG r) →
    l.countP (fLf p q) + l.countP (fSm p q) + DD l p (dirOf (q.1 - p.1) (q.2 - p.2) (1, 1)) = l.length := by
  intro l hl
  rw [← deepS_DD]
  unfold deepS
  induction l with
  | nil => rfl
  | cons r l ih =>
    have ih := ih fun x hx => hl x (List.mem_cons_of_mem _ hx)
    have hr := hl r (by simp)
    have hd := dot_bd hp hq hr
    have e := dirOf_pos p q r
    simp only [List.countP_cons, List.length_cons]
    have key : (if fLf p q r = true then 1 else 0) + (if fSm p q r = true then 1 else 0) + (if decide ((dirOf (q.1 - p.1) (q.2 - p.2) (1, 1)).1 * (r.1 - p.1) + (dirOf (q.1 - p.1) (q.2 - p.2) (1, 1)).2 * (r.2 - p.2) ≤ 0) = true then 1 else 0) = 1 := by
      rw [e]
      unfold fLf fSm
      by_cases h1 : 0 < turnP p q r
      · (simp [h1, show turnP p q r ≠ 0 by omega] <;> omega)
      · by_cases h2 : turnP p q r = 0
        · by_cases h3 : r = p
          · subst h3; simp [turn_self, dot_self]
          · by_cases h4 : 0 < dotP p q r
            · simp [h2, h3, h4]
            · (simp [h2, h3, h4] <;> omega)
        · (simp [h1, h2] <;> omega)
    omega
theorem sum_other {p q : Pl} (hp : NV.inG p) (hq : NV.inG q) (hne : q ≠ p) : ∀ l : List Pl, (∀ r ∈ l, NV.inG r) →
    l.countP (fLf p q) + l.countP (fOt p q) + DD l p (dirOf (q.1 - p.1) (q.2 - p.2) (1, -1)) = l.length := by
  intro l hl
  rw [← deepS_DD]
  unfold deepS
  induction l with
  | nil => rfl
  | cons r l ih =>
    have ih := ih fun x hx => hl x (List.mem_cons_of_mem _ hx)
    have hr := hl r (by simp)
    have hd := dot_bd hp hq hr
    have e := dirOf_neg p q r
    simp only [List.countP_cons, List.length_cons]
    have key : (if fLf p q r = true then 1 else 0) + (if fOt p q r = true then 1 else 0) + (if decide ((dirOf (q.1 - p.1) (q.2 - p.2) (1, -1)).1 * (r.1 - p.1) + (dirOf (q.1 - p.1) (q.2 - p.2) (1, -1)).2 * (r.2 - p.2) ≤ 0) = true then 1 else 0) = 1 := by
      rw [e]
      unfold fLf fOt
      by_cases h1 : 0 < turnP p q r
      · (simp [h1, show turnP p q r ≠ 0 by omega] <;> omega)
      · by_cases h2 : turnP p q r = 0
        · by_cases h3 : r = p
          · subst h3; simp [turn_self, dot_self]
          · by_cases h4 : 0 < dotP p q r
            · (simp [h2, h3, h4] <;> omega)
            · have h5 : dotP p q r ≠ 0 := fun h => h3 (flat_zero hne h2 h)
              (simp [h2, h3, h4] <;> omega)
        · (simp [h1, h2] <;> omega)
    omega

theorem rStep_le (l : List Pl) (p : Pl) (M : Nat) : ∀ (L : List Pl) (m : Nat), L.foldl (rStep l p) m ≤ M ↔ m ≤ M ∧ ∀ q ∈ L, q ≠ p → l.countP (fLf p q) + l.countP (fSm p q) ≤ M ∧ l.countP (fLf p q) + l.countP (fOt p q) ≤ M
  | [], m => by simp
  | q :: L, m => by
    rw [List.foldl_cons, rStep_le l p M L]
    unfold rStep
    constructor
    · rintro ⟨h1, h2⟩
      by_cases hq : q = p
      · rw [if_pos hq] at h1
        refine ⟨h1, fun r hr hrp => ?_⟩
        rcases List.mem_cons.1 hr with rfl | hr
        · exact absurd hq hrp
        · exact h2 r hr hrp
      · rw [if_neg hq] at h1
        refine ⟨by omega, fun r hr hrp => ?_⟩
        rcases List.mem_cons.1 hr with rfl | hr
        · exact ⟨by omega, by omega⟩
        · exact h2 r hr hrp
    · rintro ⟨h1, h2⟩
      refine ⟨?_, fun r hr hrp => h2 r (List.mem_cons_of_mem _ hr) hrp⟩
      by_cases hq : q = p
      · rw [if_pos hq]; exact h1
      · rw [if_neg hq]
        have := h2 q (by simp) hq
        omega
theorem rMost_bd (l : List Pl) (p : Pl) (k : Nat) : rMost l p k ≤ 2 * l.length := by
  rw [rMost, rStep_le]
  refine ⟨Nat.zero_le _, fun q _ _ => ?_⟩
  have h1 := List.countP_le_length (p := fLf p q) (l := l)
  have h2 := List.countP_le_length (p := fSm p q) (l := l)
  have h3 := List.countP_le_length (p := fOt p q) (l := l)
  omega
theorem rMost_le {l : List Pl} {p : Pl} (hl : ∀ r ∈ l, NV.inG r) (hp : NV.inG p) : rMost l p l.length ≤ l.length := by
  rw [rMost, rStep_le, List.take_length]
  refine ⟨Nat.zero_le _, fun q hq hne => ?_⟩
  have h1 := sum_same hp (hl q hq) l hl
  have h2 := sum_other hp (hl q hq) hne l hl
  omega
theorem rDepth_eq {l : List Pl} {p : Pl} (hl : ∀ r ∈ l, NV.inG r) (hp : NV.inG p) : l.length - rMost l p l.length = depthOf l p := by
  have hm := rMost_le hl hp
  have h1 : ∀ c, c ≤ l.length - rMost l p l.length ↔ c ≤ l.length ∧ ∀ q ∈ l, q ≠ p → c ≤ DD l p (dirOf (q.1 - p.1) (q.2 - p.2) (1, 1)) ∧ c ≤ DD l p (dirOf (q.1 - p.1) (q.2 - p.2) (1, -1)) := by
    intro c
    have key := rStep_le l p (l.length - c) l 0
    have e : rMost l p l.length = l.foldl (rStep l p) 0 := by rw [rMost, List.take_length]
    rw [← e] at key
    constructor
    · intro h
      refine ⟨by omega, fun q hq hne => ?_⟩
      have h2 := (key.1 (by omega)).2 q hq hne
      have h3 := sum_same hp (hl q hq) l hl
      have h4 := sum_other hp (hl q hq) hne l hl
      omega
    · rintro ⟨h2, h3⟩
      have : rMost l p l.length ≤ l.length - c := key.2 ⟨Nat.zero_le _, fun q hq hne => by
        have h4 := h3 q hq hne
        have h5 := sum_same hp (hl q hq) l hl
        have h6 := sum_other hp (hl q hq) hne l hl
        omega⟩
      omega
  apply Nat.le_antisymm
  · rw [le_depth]
    have h2 := (h1 _).1 (Nat.le_refl _)
    refine ⟨h2.1, fun s _ => ?_⟩
    rcases DD_tilt hl hp s with h | ⟨q, hq, hne, h⟩
    · rw [h]; exact h2.1
    · exact Nat.le_trans (h2.2 q hq hne).1 h
  · rw [h1]
    have h2 := (le_deepL (depthOf l p) l p).1 (by rw [deep_depth hl hp]; exact Nat.le_refl _)
    exact ⟨h2.1, fun q hq hne => ⟨h2.2 q hq hne (1, 1) (by decide), h2.2 q hq hne (1, -1) (by decide)⟩⟩
end Go.Proofs.Ytcalipoknbbaaaa
namespace Go.Proofs.Ytcalipoknbbaaaa
open Go.RowKit
set_option linter.unusedSimpArgs false
set_option linter.unusedVariables false

theorem equalR (p y : Pl) (w : World) : (binOp .eql 38 (.agg #[.int .i64 p.1, .int .i64 p.2]) (.agg #[.int .i64 y.1, .int .i64 y.2])).run Try.prog w = .ok (.bool (plEq p y)) w := by
  have e : plEq p y = (p.1 == y.1 && p.2 == y.2) := rfl
  rw [e]
  cases h1 : (p.1 == y.1) <;> cases h2 : (p.2 == y.2) <;> simp [go_sem, guard38, equal38, h1, h2] <;> simp_all
theorem nequalR (p y : Pl) (w : World) : (binOp .neq 38 (.agg #[.int .i64 p.1, .int .i64 p.2]) (.agg #[.int .i64 y.1, .int .i64 y.2])).run Try.prog w = .ok (.bool (!plEq p y)) w := by
  have e : plEq p y = (p.1 == y.1 && p.2 == y.2) := rfl
  rw [e]
  cases h1 : (p.1 == y.1) <;> cases h2 : (p.2 == y.2) <;> simp [go_sem, guard38, equal38, h1, h2] <;> simp_all
attribute [local go_sem ↓] equalR nequalR

theorem max3 (M a b c : Nat) : (if (if (M : Int) < (a : Int) + (b : Int) then (a : Int) + (b : Int) else (M : Int)) < (a : Int) + (c : Int) then (a : Int) + (c : Int) else if (M : Int) < (a : Int) + (b : Int) then (a : Int) + (b : Int) else (M : Int)) = ((max (max M (a + b)) (a + c) : Nat) : Int) := by
  repeat' split
  all_goals omega

def cK (f : Pl → Bool) (l : List Pl) (k : Nat) : Nat := (l.take k).countP f
theorem cK_succ (f : Pl → Bool) (l : List Pl) (k : Nat) (h : k < l.length) : cK f l (k + 1) = cK f l k + (if f (l.getD k (0, 0)) = true then 1 else 0) := by
  rw [cK, cK, List.take_succ_eq_append_getElem h, List.countP_append, List.countP_singleton, getD_eq l k (0, 0) h]
theorem cK_le (f : Pl → Bool) (l : List Pl) (k : Nat) : cK f l k ≤ k := Nat.le_trans List.countP_le_length (List.length_take_le _ _)
theorem cK_all (f : Pl → Bool) (l : List Pl) : cK f l l.length = l.countP f := by rw [cK, List.take_length]

theorem Inv.onePP (w : World) (q : Option Addr) (l : List Pl) (p : Pl) (hr : RowP w q l) :
    Inv w (w.alloc (.cells #[.int .i64 p.1, .int .i64 p.2] 38)) [] [(q, l)] [] [(w.heap.size, 1, .int .i64 p.2), (w.heap.size, 0, .int .i64 p.1)] :=
  ((((Inv.start w).addP hr).alloc _).addC (b := w.heap.size) (o := 0) (v := .int .i64 p.1) (by simp) (by simp)).addC (b := w.heap.size) (o := 1) (v := .int .i64 p.2) (by simp) (by simp)

set_option maxRecDepth 100000 in
set_option maxHeartbeats 8000000 in
theorem rdepth_any (q : Option Addr) (c : Nat) (l : List Pl) (p : Pl) (w : World) (hr : RowP w q l) (hl : ∀ r ∈ l, NV.inG r) (hp : NV.inG p) (hll : l.length ≤ 12) :
    Calls Try.prog 132 #[.slice q l.length c, .agg #[.int .i64 p.1, .int .i64 p.2]] w fun e w' => e = .returned (.int .i64 (depthOf l p : Nat)) ∧ Below w.heap.size w w' := by
  have hde := rDepth_eq hl hp
  have hme := rMost_le hl hp
  have HDE := Lib.hid hde
  have HL := Lib.hid hl
  have HPI := Lib.hid hp
  have HI := Lib.hid (Inv.onePP w q l p hr)
  have hro : ∀ p ∈ l, okP p := fun r hr => by have := hl r hr; exact ⟨⟨by have := this.1; omega, by have := this.1; omega⟩, ⟨by have := this.2; omega, by have := this.2; omega⟩⟩
  have hpo : okP p := ⟨⟨by have := hp.1; omega, by have := hp.1; omega⟩, ⟨by have := hp.2; omega, by have := hp.2; omega⟩⟩
  have HRO := Lib.hid hro
  have HPO := Lib.hid hpo
  clear hde hl hp hr hro hpo
  go_enter Try.func132, Try.ntmps132
  go_wp2
  go_loopw [5, 6] (fun m i wr => ∃ k : Nat, k ≤ l.length ∧ i = .int .i64 k ∧ m = .int .i64 (rMost l p k : Nat) ∧ Inv w wr [] [(q, l)] [] [(w.heap.size, 1, .int .i64 p.2), (w.heap.size, 0, .int .i64 p.1)]) (fun _ i _ => l.length - (intOf i).toNat)
  case atStart => exact ⟨0, Nat.zero_le _, rfl, rfl, HI.out⟩
  case round =>
    clear HI
    obtain ⟨k, hk, rfl, rfl, hI⟩ := hrel
    have HI := Lib.hid hI
    clear hI
    have m0 := HI.out.c (b := w.heap.size) (o := 0) (v := .int .i64 p.1) (by simp)
    have m1 := HI.out.c (b := w.heap.size) (o := 1) (v := .int .i64 p.2) (by simp)
    by_cases hlt : k < l.length
    · obtain ⟨bb, off, hqe, hbz, g1, g2⟩ := (HI.out.2.1 (q, l) (by simp)).at hlt (Nat.le_refl _) (Below.refl _ _)
      dsimp only at hqe g1 g2
      subst hqe
      have hst := rMost_succ l p k hlt
      have hyo := HRO.out _ (getD_mem l k (0, 0) hlt)
      have hyi := HL.out _ (getD_mem l k (0, 0) hlt)
      obtain ⟨y, hy⟩ : ∃ y, l.getD k (0, 0) = y := ⟨_, rfl⟩
      rw [hy] at g1 g2 hst hyo hyi
      have HY := Lib.hid hy
      have HST := Lib.hid hst
      have HYO := Lib.hid hyo
      have HYI := Lib.hid hyi
      have HLT := Lib.hid hlt
      have hmb := rMost_bd l p k
      clear hy hst hyo hyi
      cases hpy : plEq y p with
      | true =>
        have hyp : y = p := by simpa [plEq] using hpy
        have hno : rMost l p (k + 1) = rMost l p k := by rw [HST.out, rStep, if_pos hyp]
        have HNX := Lib.hid hno
        clear hno hyp
        go_upto_region 5 with fail
        go_quiet (fail)
        go_wp2
        go_roundw
        case rel => exact ⟨k + 1, by have := HLT.out; omega, by go_num, by rw [HNX.out], HI.out.go (below_drewN (Below.refl _ _) _)⟩
        case measure => have := HLT.out; simp [intOf]; omega
      | false =>
        have hyp : y ≠ p := by intro e; rw [e] at hpy; simp [plEq] at hpy
        have ht := HST.out
        rw [rStep, if_neg hyp] at ht
        have HT := Lib.hid ht
        clear hyp ht HST
        go_upto_region 5 with fail
        go_quiet (fail)
        go_wp2
        have hI2 := HI.out.go (below_drewN (Below.refl wr.heap.size wr) nq)
        generalize wr.drewN nq = W2 at *
        have HI2 := Lib.hid hI2
        clear hI2 HI g1 g2 m0 m1
        go_loopw [7, 8, 9, 10] (fun v7 v8 v9 i wr => ∃ t : Nat, t ≤ l.length ∧ i = .int .i64 t ∧ v7 = .int .i64 (cK (fLf p y) l t : Nat) ∧ v8 = .int .i64 (cK (fSm p y) l t : Nat) ∧ v9 = .int .i64 (cK (fOt p y) l t : Nat) ∧ Inv w wr [] [(some ⟨bb, off, none⟩, l)] [] [(w.heap.size, 1, .int .i64 p.2), (w.heap.size, 0, .int .i64 p.1)]) (fun _ _ _ i _ => l.length - (intOf i).toNat)
        case atStart => exact ⟨0, Nat.zero_le _, rfl, rfl, rfl, rfl, HI2.out⟩
        case round =>
          clear HI2
          obtain ⟨t, htl, rfl, rfl, rfl, rfl, hI⟩ := hrel
          have HI := Lib.hid hI
          clear hI
          have hc1 := cK_le (fLf p y) l t
          have hc2 := cK_le (fSm p y) l t
          have hc3 := cK_le (fOt p y) l t
          by_cases hlt2 : t < l.length
          · have hs1 := cK_succ (fLf p y) l t hlt2
            have hs2 := cK_succ (fSm p y) l t hlt2
            have hs3 := cK_succ (fOt p y) l t hlt2
            have hzo := HRO.out _ (getD_mem l t (0, 0) hlt2)
            have hzi := HL.out _ (getD_mem l t (0, 0) hlt2)
            obtain ⟨z, hz⟩ : ∃ z, l.getD t (0, 0) = z := ⟨_, rfl⟩
            rw [hz] at hs1 hs2 hs3 hzo hzi
            have HZ := Lib.hid hz
            have HZO := Lib.hid hzo
            have HZI := Lib.hid hzi
            have HLT2 := Lib.hid hlt2
            have hklt := HLT.out
            obtain ⟨T, hT⟩ : ∃ T, turnP p y z = T := ⟨_, rfl⟩
            have hS := fun V => rside_any p y z V HPO.out HYO.out HZO.out
            rw [hT] at hS
            have HS := Lib.hid hS
            rw [fLf, hT] at hs1
            rw [fSm, hT] at hs2
            rw [fOt, hT] at hs3
            have HS1 := Lib.hid hs1
            have HS2 := Lib.hid hs2
            have HS3 := Lib.hid hs3
            have HTE := Lib.hid hT
            clear hz hzo hzi hT hS hs1 hs2 hs3
            have HID := Lib.hid (HI.out.go (Below.refl _ _).drew)
            have m0 := HI.out.c (b := w.heap.size) (o := 0) (v := .int .i64 p.1) (by simp)
            have m1 := HI.out.c (b := w.heap.size) (o := 1) (v := .int .i64 p.2) (by simp)
            obtain ⟨m2, m3⟩ := (HI.out.2.1 (some ⟨bb, off, none⟩, l) (by simp)).cell (k := k) hklt
            obtain ⟨m4, m5⟩ := (HI.out.2.1 (some ⟨bb, off, none⟩, l) (by simp)).cell (k := t) hlt2
            rw [HY.out] at m2 m3
            rw [HZ.out] at m4 m5
            have hbzV : bb < wr.heap.size := by
              rcases (HI.out.2.1 (some ⟨bb, off, none⟩, l) (by simp)) with h0 | ⟨b', off', e, hz, _⟩
              · rw [show l = [] from h0] at hlt2; simp at hlt2
              · simp only [Option.some.injEq, Addr.mk.injEq] at e
                rw [e.1]; exact hz
            have n0 : wr.drew.cell? ⟨w.heap.size, 0, none⟩ = some (.int .i64 p.1) := m0
            have n1 : wr.drew.cell? ⟨w.heap.size, 1, none⟩ = some (.int .i64 p.2) := m1
            have n2 : wr.drew.cell? ⟨bb, off + k * 2, none⟩ = some (.int .i64 y.1) := m2
            have n3 : wr.drew.cell? ⟨bb, off + k * 2 + 1, none⟩ = some (.int .i64 y.2) := m3
            have n4 : wr.drew.cell? ⟨bb, off + t * 2, none⟩ = some (.int .i64 z.1) := m4
            have n5 : wr.drew.cell? ⟨bb, off + t * 2 + 1, none⟩ = some (.int .i64 z.2) := m5
            go_upto_region 10 with fail
            go_region_held3 (fun W => W.cell? ⟨w.heap.size, 0, none⟩ = some (.int .i64 p.1) ∧ W.cell? ⟨w.heap.size, 1, none⟩ = some (.int .i64 p.2) ∧ W.cell? ⟨bb, off + k * 2, none⟩ = some (.int .i64 y.1) ∧ W.cell? ⟨bb, off + k * 2 + 1, none⟩ = some (.int .i64 y.2) ∧ W.cell? ⟨bb, off + t * 2, none⟩ = some (.int .i64 z.1) ∧ W.cell? ⟨bb, off + t * 2 + 1, none⟩ = some (.int .i64 z.2)) (first | exact ⟨m0, m1, m2, m3, m4, m5⟩ | exact ⟨n0, n1, n2, n3, n4, n5⟩ | exact ⟨d0, d1, d2, d3, d4, d5⟩ | go_keep)
              (first | (go_at_call 119; have hcc := HS.out wr.drew; (with_reducible refine hcc.mono ?_); clear hcc; rintro e V ⟨rfl, hb⟩; have J := Lib.hid (HID.out.go hb); have d0 := J.out.c (b := w.heap.size) (o := 0) (v := .int .i64 p.1) (by simp); have d1 := J.out.c (b := w.heap.size) (o := 1) (v := .int .i64 p.2) (by simp); have d2 := (hb.cell (p := ⟨bb, off + k * 2, none⟩) hbzV).trans n2; have d3 := (hb.cell (p := ⟨bb, off + k * 2 + 1, none⟩) hbzV).trans n3; have d4 := (hb.cell (p := ⟨bb, off + t * 2, none⟩) hbzV).trans n4; have d5 := (hb.cell (p := ⟨bb, off + t * 2 + 1, none⟩) hbzV).trans n5; clear hb) | fail)
            clear m0 m1 m2 m3 m4 m5 n0 n1 n2 n3 n4 n5 HI HID
            have m0 := J.out.c (b := w.heap.size) (o := 0) (v := .int .i64 p.1) (by simp)
            have m1 := J.out.c (b := w.heap.size) (o := 1) (v := .int .i64 p.2) (by simp)
            have m2 := d2
            have m3 := d3
            have m4 := d4
            have m5 := d5
            clear d0 d1 d2 d3 d4 d5
            by_cases hT1 : 0 < T
            · have hT0 : (T == 0) = false := beq_eq_false_iff_ne.2 (by omega)
              have e1 := HS1.out
              have e2 := HS2.out
              have e3 := HS3.out
              rw [if_pos (by simp; omega)] at e1
              rw [if_neg (by simp; omega)] at e2 e3
              have E1 := Lib.hid e1
              have E2 := Lib.hid e2
              have E3 := Lib.hid e3
              clear e1 e2 e3
              go_upto_region 13 with fail
              go_quiet (fail)
              go_wp2
              go_roundw
              case rel => exact ⟨t + 1, by have := HLT2.out; omega, by go_num, by rw [E1.out]; go_num, by rw [E2.out]; rfl, by rw [E3.out]; rfl, J.out.go (below_drewN (Below.refl _ _) _)⟩
              case measure => have := HLT2.out; simp [intOf]; omega
            · by_cases hT2 : T = 0
              · have hT0 : (T == 0) = true := by simp [hT2]
                cases hzp : plEq z p with
                | true =>
                  have hzpe : (z == p) = true := hzp
                  have e1 := HS1.out
                  have e2 := HS2.out
                  have e3 := HS3.out
                  rw [if_neg (by simp; omega)] at e1
                  rw [if_neg (by simp [hzpe])] at e2 e3
                  have E1 := Lib.hid e1
                  have E2 := Lib.hid e2
                  have E3 := Lib.hid e3
                  clear e1 e2 e3 hT2 hzpe
                  go_upto_region 13 with fail
                  go_quiet (fail)
                  go_wp2
                  go_roundw
                  case rel => exact ⟨t + 1, by have := HLT2.out; omega, by go_num, by rw [E1.out]; rfl, by rw [E2.out]; rfl, by rw [E3.out]; rfl, J.out.go (below_drewN (Below.refl _ _) _)⟩
                  case measure => have := HLT2.out; simp [intOf]; omega
                | false =>
                  have hzpe : (z == p) = false := hzp
                  obtain ⟨⟨i1, i2⟩, i3, i4⟩ := HPI.out
                  obtain ⟨⟨j1, j2⟩, j3, j4⟩ := HYI.out
                  obtain ⟨⟨l1, l2⟩, l3, l4⟩ := HZI.out
                  have hdb := dot_bd HPI.out HYI.out HZI.out
                  obtain ⟨dx, hdx⟩ : ∃ dx, y.1 - p.1 = dx := ⟨_, rfl⟩
                  obtain ⟨dy, hdy⟩ : ∃ dy, y.2 - p.2 = dy := ⟨_, rfl⟩
                  obtain ⟨rx, hrx⟩ : ∃ rx, z.1 - p.1 = rx := ⟨_, rfl⟩
                  obtain ⟨ry, hry⟩ : ∃ ry, z.2 - p.2 = ry := ⟨_, rfl⟩
                  obtain ⟨p1, hp1⟩ : ∃ p1, dx * rx = p1 := ⟨_, rfl⟩
                  obtain ⟨p2, hp2⟩ : ∃ p2, dy * ry = p2 := ⟨_, rfl⟩
                  obtain ⟨D, hD⟩ : ∃ D, p1 + p2 = D := ⟨_, rfl⟩
                  have hb1 := NV.prod6 (x := dx) (y := rx) (by omega) (by omega) (by omega) (by omega)
                  have hb2 := NV.prod6 (x := dy) (y := ry) (by omega) (by omega) (by omega) (by omega)
                  rw [hp1] at hb1
                  rw [hp2] at hb2
                  have hdot : dotP p y z = D := by rw [dotP, hdx, hdy, hrx, hry, hp1, hp2, hD]
                  have w1 : IntKind.i64.wrap (y.1 - p.1) = dx := by rw [IntWalk.i64_in _ ⟨by omega, by omega⟩, hdx]
                  have w2 : IntKind.i64.wrap (y.2 - p.2) = dy := by rw [IntWalk.i64_in _ ⟨by omega, by omega⟩, hdy]
                  have w3 : IntKind.i64.wrap (z.1 - p.1) = rx := by rw [IntWalk.i64_in _ ⟨by omega, by omega⟩, hrx]
                  have w4 : IntKind.i64.wrap (z.2 - p.2) = ry := by rw [IntWalk.i64_in _ ⟨by omega, by omega⟩, hry]
                  have w5 : IntKind.i64.wrap (dx * rx) = p1 := by rw [hp1, IntWalk.i64_in _ ⟨by omega, by omega⟩]
                  have w6 : IntKind.i64.wrap (dy * ry) = p2 := by rw [hp2, IntWalk.i64_in _ ⟨by omega, by omega⟩]
                  have w7 : IntKind.i64.wrap (p1 + p2) = D := by rw [IntWalk.i64_in _ ⟨by omega, by omega⟩, hD]
                  have e1 := HS1.out
                  have e2 := HS2.out
                  have e3 := HS3.out
                  rw [if_neg (by simp; omega)] at e1
                  rw [hdot] at e2 e3
                  have E1 := Lib.hid e1
                  have X1 := Lib.hid w1
                  have X2 := Lib.hid w2
                  have X3 := Lib.hid w3
                  have X4 := Lib.hid w4
                  have X5 := Lib.hid w5
                  have X6 := Lib.hid w6
                  have X7 := Lib.hid w7
                  by_cases hDp : 0 < D
                  · rw [if_pos (by simp [hT2, hzpe, hDp])] at e2
                    rw [if_neg (by simp [hT2, hzpe, hDp])] at e3
                    have E2 := Lib.hid e2
                    have E3 := Lib.hid e3
                    clear e1 e2 e3 hT2 hzpe hdx hdy hrx hry hp1 hp2 hD hb1 hb2 hdot hdb i1 i2 i3 i4 j1 j2 j3 j4 l1 l2 l3 l4 w1 w2 w3 w4 w5 w6 w7
                    go_upto_region 13 with fail
                    go_quiet (fail)
                    go_upto_region 14 with fail
                    have w1 := X1.out
                    have w2 := X2.out
                    have w3 := X3.out
                    have w4 := X4.out
                    have w5 := X5.out
                    have w6 := X6.out
                    have w7 := X7.out
                    go_quiet (fail)
                    clear w1 w2 w3 w4 w5 w6 w7
                    go_wp2
                    go_roundw
                    case rel => exact ⟨t + 1, by have := HLT2.out; omega, by go_num, by rw [E1.out]; rfl, by rw [E2.out]; go_num, by rw [E3.out]; rfl, J.out.go (below_drewN (Below.refl _ _) _)⟩
                    case measure => have := HLT2.out; simp [intOf]; omega
                  · rw [if_neg (by simp [hT2, hzpe, hDp])] at e2
                    rw [if_pos (by simp [hT2, hzpe]; omega)] at e3
                    have E2 := Lib.hid e2
                    have E3 := Lib.hid e3
                    clear e1 e2 e3 hT2 hzpe hdx hdy hrx hry hp1 hp2 hD hb1 hb2 hdot hdb i1 i2 i3 i4 j1 j2 j3 j4 l1 l2 l3 l4 w1 w2 w3 w4 w5 w6 w7
                    go_upto_region 13 with fail
                    go_quiet (fail)
                    go_upto_region 14 with fail
                    have w1 := X1.out
                    have w2 := X2.out
                    have w3 := X3.out
                    have w4 := X4.out
                    have w5 := X5.out
                    have w6 := X6.out
                    have w7 := X7.out
                    go_quiet (fail)
                    clear w1 w2 w3 w4 w5 w6 w7
                    go_wp2
                    go_roundw
                    case rel => exact ⟨t + 1, by have := HLT2.out; omega, by go_num, by rw [E1.out]; rfl, by rw [E2.out]; rfl, by rw [E3.out]; go_num, J.out.go (below_drewN (Below.refl _ _) _)⟩
                    case measure => have := HLT2.out; simp [intOf]; omega
              · have hT0 : (T == 0) = false := beq_eq_false_iff_ne.2 hT2
                have e1 := HS1.out
                have e2 := HS2.out
                have e3 := HS3.out
                rw [if_neg (by simp; omega)] at e1
                rw [if_neg (by simp [hT2])] at e2 e3
                have E1 := Lib.hid e1
                have E2 := Lib.hid e2
                have E3 := Lib.hid e3
                clear e1 e2 e3 hT2
                go_upto_region 13 with fail
                go_quiet (fail)
                go_wp2
                go_roundw
                case rel => exact ⟨t + 1, by have := HLT2.out; omega, by go_num, by rw [E1.out]; rfl, by rw [E2.out]; rfl, by rw [E3.out]; rfl, J.out.go (below_drewN (Below.refl _ _) _)⟩
                case measure => have := HLT2.out; simp [intOf]; omega
          · obtain rfl : t = l.length := by omega
            rw [cK_all] at hc1 hc2 hc3
            rw [cK_all, cK_all, cK_all]
            generalize l.countP (fLf p y) = C1 at *
            generalize l.countP (fSm p y) = C2 at *
            generalize l.countP (fOt p y) = C3 at *
            generalize rMost l p k = M at *
            go_wp2
            go_roundw
            case rel => exact ⟨k + 1, by have := HLT.out; omega, by go_num, by rw [HT.out, max3], HI.out⟩
            case measure => have := HLT.out; simp [intOf]; omega
    · obtain rfl : k = l.length := by omega
      have e := HDE.out
      have hw : IntKind.i64.wrap ((l.length : Int) - (rMost l p l.length : Nat)) = (depthOf l p : Nat) := by rw [IntWalk.i64_in _ ⟨by omega, by omega⟩]; omega
      generalize rMost l p l.length = M at *
      clear e HDE
      go_wp2
      go_ret
      refine ⟨ret_int ?_, HI.out.2.2.2.2⟩
      first | rfl | (rw [IntWalk.i64_in _ ⟨by omega, by omega⟩] at hw; exact hw)
end Go.Proofs.Ytcalipoknbbaaaa
