/- SeamClashes: the walk, and the row's step. -/
import Derived.Test.YtcalipoknbbaaaaRefS
import Derived.Test.YtcalipoknbbaaaaSeamHillsB
import Derived.Test.YtcalipoknbbaaaaInK
import Derived.Test.YtcalipoknbbaaaaRows
import Derived.WalkKit
import Derived.ProofKit
import Derived.OpenShut
namespace Go.Proofs.Ytcalipoknbbaaaa
open Go.RowKit
set_option linter.unusedSimpArgs false
set_option linter.unusedVariables false

theorem shortestOf_len (n : Nat) (good : List Int → Bool) : ((shortestOf n good).getD []).length ≤ n := by
  cases h : shortestOf n good with
  | none => simp
  | some c =>
    unfold shortestOf at h
    obtain ⟨k, hk, hc⟩ := List.mem_flatMap.1 (List.mem_of_find?_eq_some h)
    have := combos_length n 0 k c hc
    have := List.mem_range.1 hk
    simp; omega
theorem contradictOf_len (n : Int) (gs : List Gl) : (contradictOf n gs).1.length ≤ gs.length := by
  unfold contradictOf
  split
  · simp
  · split
    · simp
    · exact shortestOf_len _ _
theorem wrongOf_len (n : Int) (gs : List Gl) : (wrongOf n gs).1.length ≤ gs.length := by
  unfold wrongOf
  split
  · simp
  · exact shortestOf_len _ _
theorem fewestOf_len (n : Int) (gs : List Gl) : (fewestOf n gs).1.length ≤ gs.length := by
  unfold fewestOf
  split
  · simp
  · exact shortestOf_len _ _
theorem needlessOf_len (n : Int) (gs : List Gl) : (needlessOf n gs).1.length ≤ gs.length := by
  unfold needlessOf
  split
  · simp
  · exact needTo_le _ _ _

theorem Inv.oneHI (w : World) (n : Int) (q ql : Option Addr) (c : Nat) (gs : List Gl) (is : List Int) (hr : RowG w q gs) (hq : q = none → c = 0) (hi : RowI w ql is) :
    Inv w (w.alloc (.cells #[.int .i64 n, .slice q gs.length c] 24)) [(q, c, gs)] [] [(ql, is)] [(w.heap.size, 1, .slice q gs.length c), (w.heap.size, 0, .int .i64 n)] :=
  ((((Inv.start w).addG hr hq).addI hi).box2 (.int .i64 n) (.slice q gs.length c) 24 rfl rfl)

set_option maxRecDepth 100000 in
set_option maxHeartbeats 4000000 in
theorem SeamClashes_any (n : Int) (q : Option Addr) (c : Nat) (gs : List Gl) (ql : Option Addr) (cl : Nat) (is : List Int) (w : World) (hr : RowG w q gs) (hq : q = none → c = 0) (hi : RowI w ql is) (hql : ql = none → cl = 0) :
    Calls Try.prog 4 #[.agg #[.int .i64 n, .slice q gs.length c], .slice ql is.length cl] w fun e w' => e = .returned (.bool true) ∧ Below w.heap.size w w' := by
  have HI := Lib.hid (Inv.oneHI w n q ql c gs is hr hq hi)
  clear hr hq hi hql
  have k0 := HI.out.c (b := w.heap.size) (o := 0) (v := .int .i64 n) (by simp)
  have k1 := HI.out.c (b := w.heap.size) (o := 1) (v := .slice q gs.length c) (by simp)
  by_cases h40 : 40 < gs.length
  · go_enter Try.func4, Try.ntmps4
    go_wp2_with (go_at_call 19; refine (HI.out.scalar (works_any _) rfl).mono ?_; rintro e W ⟨rfl, hI⟩; replace HI := Lib.hid hI; clear hI)
    go_ret
    exact ⟨rfl, HI.out.2.2.2.2⟩
  by_cases h41 : 40 < is.length
  · go_enter Try.func4, Try.ntmps4
    go_wp2_with (go_at_call 19; refine (HI.out.scalar (works_any _) rfl).mono ?_; rintro e W ⟨rfl, hI⟩; replace HI := Lib.hid hI; clear hI)
    go_ret
    exact ⟨rfl, HI.out.2.2.2.2⟩
  have hlA := contradictOf_len n gs
  have hlB := wrongOf_len n gs
  obtain ⟨A, A2, hA⟩ : ∃ A A2, contradictOf n gs = (A, A2) := ⟨_, _, rfl⟩
  obtain ⟨B, B2, hB⟩ : ∃ B B2, wrongOf n gs = (B, B2) := ⟨_, _, rfl⟩
  obtain ⟨P, hP⟩ : ∃ P, provesOf n gs is = P := ⟨_, rfl⟩
  rw [hA] at hlA
  rw [hB] at hlB
  dsimp only at hlA hlB
  have HA := Lib.hid hA
  have HB := Lib.hid hB
  have HP := Lib.hid hP
  have hAA : (A == A) = true := beq_self_eq_true _
  have hBB : (B == B) = true := beq_self_eq_true _
  have HAA := Lib.hid hAA
  have HBB := Lib.hid hBB
  have hlA2 : A.length ≤ 1000000 := by omega
  have hlB2 : B.length ≤ 1000000 := by omega
  have hli : is.length ≤ 1000000 := by omega
  have h1000 : gs.length ≤ 1000 := by omega
  clear hA hB hP hAA hBB hlA hlB
  go_enter Try.func4, Try.ntmps4
  go_upto_region 4 with (go_at_call 20; refine (inner_any n q c gs _ (HI.out.1 (q, c, gs) (by simp)).1 h1000).mono ?_; rintro e W ⟨q', c', rfl, hr', hq', hb⟩)
  have hI : Inv w (W.alloc (.cells #[.int .i64 n, .slice q' gs.length c'] 32)) [(q', c', gs), (q, c, gs)] [] [(ql, is)]
    [(W.heap.size, 1, .slice q' gs.length c'), (W.heap.size, 0, .int .i64 n), (w.heap.size, 1, .slice q gs.length c), (w.heap.size, 0, .int .i64 n)] :=
    ((((HI.out.go hb).addG hr' hq').alloc (.cells #[.int .i64 n, .slice q' gs.length c'] 32)).addC (b := W.heap.size) (o := 0) (v := .int .i64 n) (by simp) (by simp)).addC (b := W.heap.size) (o := 1) (v := .slice q' gs.length c') (by simp) (by simp)
  replace HI := Lib.hid hI
  generalize (W.alloc (.cells #[.int .i64 n, .slice q' gs.length c'] 32)) = W1 at *
  generalize W.heap.size = B7 at *
  clear hI hr' hq' hb k0 k1
  have k0 := HI.out.c (b := w.heap.size) (o := 0) (v := .int .i64 n) (by simp)
  have k1 := HI.out.c (b := w.heap.size) (o := 1) (v := .slice q gs.length c) (by simp)
  have k2 := HI.out.c (b := B7) (o := 0) (v := .int .i64 n) (by simp)
  have k3 := HI.out.c (b := B7) (o := 1) (v := .slice q' gs.length c') (by simp)
  go_upto_region 8 with (first
    | (go_at_call 34; refine (HI.out.listErr (Contradict_any n q c gs _ (HI.out.1 (q, c, gs) (by simp)).1) HA.out).mono ?_; rintro e W ⟨q1, c1, rfl, hI⟩; replace HI := Lib.hid hI; clear hI k0 k1 k2 k3; have k0 := HI.out.c (b := w.heap.size) (o := 0) (v := .int .i64 n) (by simp); have k1 := HI.out.c (b := w.heap.size) (o := 1) (v := .slice q gs.length c) (by simp); have k2 := HI.out.c (b := B7) (o := 0) (v := .int .i64 n) (by simp); have k3 := HI.out.c (b := B7) (o := 1) (v := .slice q' gs.length c') (by simp))
    | (go_at_call 35; refine (HI.out.listErr (rContradict_any n q' c' gs _ (HI.out.1 (q', c', gs) (by simp)).1 (HI.out.1 (q', c', gs) (by simp)).2) HA.out).mono ?_; rintro e W ⟨q2, c2, rfl, hI⟩; replace HI := Lib.hid hI; clear hI k0 k1 k2 k3; have k0 := HI.out.c (b := w.heap.size) (o := 0) (v := .int .i64 n) (by simp); have k1 := HI.out.c (b := w.heap.size) (o := 1) (v := .slice q gs.length c) (by simp); have k2 := HI.out.c (b := B7) (o := 0) (v := .int .i64 n) (by simp); have k3 := HI.out.c (b := B7) (o := 1) (v := .slice q' gs.length c') (by simp))
    | (go_at_call 36; refine (HI.out.listErr (Wrong_any n q c gs _ (HI.out.1 (q, c, gs) (by simp)).1) HB.out).mono ?_; rintro e W ⟨q3, c3, rfl, hI⟩; replace HI := Lib.hid hI; clear hI k0 k1 k2 k3; have k0 := HI.out.c (b := w.heap.size) (o := 0) (v := .int .i64 n) (by simp); have k1 := HI.out.c (b := w.heap.size) (o := 1) (v := .slice q gs.length c) (by simp); have k2 := HI.out.c (b := B7) (o := 0) (v := .int .i64 n) (by simp); have k3 := HI.out.c (b := B7) (o := 1) (v := .slice q' gs.length c') (by simp))
    | (go_at_call 37; refine (HI.out.listErr (rWrong_any n q' c' gs _ (HI.out.1 (q', c', gs) (by simp)).1 (HI.out.1 (q', c', gs) (by simp)).2) HB.out).mono ?_; rintro e W ⟨q4, c4, rfl, hI⟩; replace HI := Lib.hid hI; clear hI k0 k1 k2 k3; have k0 := HI.out.c (b := w.heap.size) (o := 0) (v := .int .i64 n) (by simp); have k1 := HI.out.c (b := w.heap.size) (o := 1) (v := .slice q gs.length c) (by simp); have k2 := HI.out.c (b := B7) (o := 0) (v := .int .i64 n) (by simp); have k3 := HI.out.c (b := B7) (o := 1) (v := .slice q' gs.length c') (by simp)))
  have HID := Lib.hid (HI.out.go (Below.refl _ _).drew)
  have b0 := HID.out.c (b := w.heap.size) (o := 0) (v := .int .i64 n) (by simp)
  have b1 := HID.out.c (b := w.heap.size) (o := 1) (v := .slice q gs.length c) (by simp)
  have b2 := HID.out.c (b := B7) (o := 0) (v := .int .i64 n) (by simp)
  have b3 := HID.out.c (b := B7) (o := 1) (v := .slice q' gs.length c') (by simp)
  go_region_held3 (fun W => W.cell? ⟨w.heap.size, 0, none⟩ = some (.int .i64 n) ∧ W.cell? ⟨w.heap.size, 1, none⟩ = some (.slice q gs.length c) ∧ W.cell? ⟨B7, 0, none⟩ = some (.int .i64 n) ∧ W.cell? ⟨B7, 1, none⟩ = some (.slice q' gs.length c')) (first | exact ⟨k0, k1, k2, k3⟩ | exact ⟨b0, b1, b2, b3⟩ | exact ⟨d0, d1, d2, d3⟩ | exact ⟨e0, e1, e2, e3⟩ | exact ⟨f0, f1, f2, f3⟩ | exact ⟨g0, g1, g2, g3⟩ | exact ⟨j0, j1, j2, j3⟩ | go_keep)
    (first
    | (go_at_call 38; have hcc := HID.out.same q1 q2 c1 c2 A A true (by simp) (by simp) hlA2 hlA2 HAA.out; (with_reducible refine hcc.mono ?_); clear hcc; rintro e V1 ⟨rfl, hI⟩; have J1 := Lib.hid hI; clear hI; have d0 := J1.out.c (b := w.heap.size) (o := 0) (v := .int .i64 n) (by simp); have d1 := J1.out.c (b := w.heap.size) (o := 1) (v := .slice q gs.length c) (by simp); have d2 := J1.out.c (b := B7) (o := 0) (v := .int .i64 n) (by simp); have d3 := J1.out.c (b := B7) (o := 1) (v := .slice q' gs.length c') (by simp))
    | (go_at_call 38; have hcc := J1.out.same q3 q4 c3 c4 B B true (by simp) (by simp) hlB2 hlB2 HBB.out; (with_reducible refine hcc.mono ?_); clear hcc; rintro e V2 ⟨rfl, hI⟩; have J2 := Lib.hid hI; clear hI; have e0 := J2.out.c (b := w.heap.size) (o := 0) (v := .int .i64 n) (by simp); have e1 := J2.out.c (b := w.heap.size) (o := 1) (v := .slice q gs.length c) (by simp); have e2 := J2.out.c (b := B7) (o := 0) (v := .int .i64 n) (by simp); have e3 := J2.out.c (b := B7) (o := 1) (v := .slice q' gs.length c') (by simp))
    | (go_at_call 39; have hcc := J2.out.scalar (V' := .int .i64 P) (Proves_any n q ql c cl gs is _ (J2.out.1 (q, c, gs) (by simp)).1 (J2.out.2.2.1 (ql, is) (by simp)) hli) (by rw [HP.out]); (with_reducible refine hcc.mono ?_); clear hcc; rintro e V3 ⟨rfl, hI⟩; have J3 := Lib.hid hI; clear hI; have f0 := J3.out.c (b := w.heap.size) (o := 0) (v := .int .i64 n) (by simp); have f1 := J3.out.c (b := w.heap.size) (o := 1) (v := .slice q gs.length c) (by simp); have f2 := J3.out.c (b := B7) (o := 0) (v := .int .i64 n) (by simp); have f3 := J3.out.c (b := B7) (o := 1) (v := .slice q' gs.length c') (by simp))
    | (go_at_call 40; have hcc := J2.out.scalar (V' := .int .i64 P) (rProves_any n q' ql c' cl gs is _ (J2.out.1 (q', c', gs) (by simp)).1 (J2.out.1 (q', c', gs) (by simp)).2 (J2.out.2.2.1 (ql, is) (by simp)) hli) (by rw [HP.out]); (with_reducible refine hcc.mono ?_); clear hcc; rintro e V3 ⟨rfl, hI⟩; have J3 := Lib.hid hI; clear hI; have f0 := J3.out.c (b := w.heap.size) (o := 0) (v := .int .i64 n) (by simp); have f1 := J3.out.c (b := w.heap.size) (o := 1) (v := .slice q gs.length c) (by simp); have f2 := J3.out.c (b := B7) (o := 0) (v := .int .i64 n) (by simp); have f3 := J3.out.c (b := B7) (o := 1) (v := .slice q' gs.length c') (by simp))
    | (go_at_call 40; have hcc := J3.out.scalar (V' := .int .i64 P) (rProves_any n q' ql c' cl gs is _ (J3.out.1 (q', c', gs) (by simp)).1 (J3.out.1 (q', c', gs) (by simp)).2 (J3.out.2.2.1 (ql, is) (by simp)) hli) (by rw [HP.out]); (with_reducible refine hcc.mono ?_); clear hcc; rintro e V4 ⟨rfl, hI⟩; have J4 := Lib.hid hI; clear hI; have g0 := J4.out.c (b := w.heap.size) (o := 0) (v := .int .i64 n) (by simp); have g1 := J4.out.c (b := w.heap.size) (o := 1) (v := .slice q gs.length c) (by simp); have g2 := J4.out.c (b := B7) (o := 0) (v := .int .i64 n) (by simp); have g3 := J4.out.c (b := B7) (o := 1) (v := .slice q' gs.length c') (by simp))
    | (go_at_call 39; have hcc := J3.out.scalar (V' := .int .i64 P) (Proves_any n q ql c cl gs is _ (J3.out.1 (q, c, gs) (by simp)).1 (J3.out.2.2.1 (ql, is) (by simp)) hli) (by rw [HP.out]); (with_reducible refine hcc.mono ?_); clear hcc; rintro e V4 ⟨rfl, hI⟩; have J4 := Lib.hid hI; clear hI; have g0 := J4.out.c (b := w.heap.size) (o := 0) (v := .int .i64 n) (by simp); have g1 := J4.out.c (b := w.heap.size) (o := 1) (v := .slice q gs.length c) (by simp); have g2 := J4.out.c (b := B7) (o := 0) (v := .int .i64 n) (by simp); have g3 := J4.out.c (b := B7) (o := 1) (v := .slice q' gs.length c') (by simp))
    | (go_at_call 19; have hcc := J4.out.scalar (works_any _) rfl; (with_reducible refine hcc.mono ?_); clear hcc; rintro e V5 ⟨rfl, hI⟩; have J5 := Lib.hid hI; clear hI; have j0 := J5.out.c (b := w.heap.size) (o := 0) (v := .int .i64 n) (by simp); have j1 := J5.out.c (b := w.heap.size) (o := 1) (v := .slice q gs.length c) (by simp); have j2 := J5.out.c (b := B7) (o := 0) (v := .int .i64 n) (by simp); have j3 := J5.out.c (b := B7) (o := 1) (v := .slice q' gs.length c') (by simp))
    | fail)
  all_goals
    go_wp2
    go_ret
    exact ⟨rfl, J5.out.2.2.2.2⟩
end Go.Proofs.Ytcalipoknbbaaaa
namespace Go.Proofs.Ytcalipoknbbaaaa.seamClashes
open Go Go.ChangeShapes Go.WideShapes Go.ChangeAt Go.RowKit

theorem own : ownKnob Try.prog.godebug = none := by kernel_rfl
theorem laidOut : laidOutB Try.prog = true := by kernel_rfl

set_option maxRecDepth 100000 in
theorem lifted (os : Os) (started : os.Started) (H : Type) (enc : TypeId × Value → H) :
    ReturnsInHanded {} Try.checked os 4 .any (Rows.seamClashesSpec.pre6 enc Try.prog Try.f4 Rows.seamClashesRow.domain false) (Rows.seamClashesSpec.post enc Try.prog Try.f4 false true false false) := by
  refine returnsInHanded_of_change (C := Try.checked) own started (by kernel_rfl) Try.func4
    (ChangeSpec.witness6 (enc := enc) (C := Try.checked) false { blocks := #[], args := #[.agg #[.int .i64 0, .slice none 0 0], .slice none 0 0], vars := [] } 8 (by kernel_rfl) (by kernel_rfl) (by kernel_rfl) (by kernel_rfl)) ?_
  intro W base args ds gs before hval0 hW hcnd _
  have hval : ∀ (j : Nat) t v, Try.f4.params[j]? = some t → args[j]? = some v → Value.okWide Try.prog W .any base t v := hval0
  have hW' := hW
  obtain ⟨p, q, hA0, hV, rfl, hfz, hnd⟩ := hW
  have hA : DataW.TrodAll enc Try.prog W 0 (fun _ => true) true Try.f4.params.toList args.toList ds p := hA0
  rw [Try.params4] at hA hval
  obtain ⟨v0, v1, d0, d1, p0, p1, rfl, rfl, rfl, h0, h1⟩ := trodAll_two hA
  obtain ⟨rfl, rfl⟩ := trodVars_none hV
  obtain ⟨n0, q0, c0, gs0, rfl, r0, e0⟩ := hill_of (hval 0 24 v0 rfl rfl) h0
  obtain ⟨q1, c1, xs1, rfl, r1, e1⟩ := ints_of (hval 1 57 v1 rfl rfl) h1
  clear hA0 hval0
  simp only [List.append_nil] at hW'
  have hlt := fun x hx => hW'.lt x hx
  refine (SeamClashes_any n0 q0 c0 gs0 q1 c1 xs1 W r0 e0 r1 e1).mono fun e W' ⟨he, hg⟩ => ?_
  subst he
  refine ⟨_, rfl, _, _, _, [] ++ [], p0 ++ (p1 ++ []), [], hW', ?_, ?_, ?_, hg.frame _, fun h => by cases h⟩
  · exact trodAll_cons_mk (shut_bool Try.underlying4 _) trodAll_mk0
  · exact trodAll_cons_mk (Below.trod laidOut (by kernel_rfl) (of_decide_eq_true (by kernel_rfl)) h0 hg fun x hx => hlt x (by simp [hx])) (trodAll_cons_mk (Below.trod laidOut (by kernel_rfl) (of_decide_eq_true (by kernel_rfl)) h1 hg fun x hx => hlt x (by simp [hx])) trodAll_mk0)
  · rfl

end Go.Proofs.Ytcalipoknbbaaaa.seamClashes
