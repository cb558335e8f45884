/- SeamNeeds: the walk, and the row's step. -/
import Derived.Test.YtcalipoknbbaaaaRefS
import Derived.Test.YtcalipoknbbaaaaSeamClashesB
import Derived.Test.YtcalipoknbbaaaaRows
import Derived.WalkKit
import Derived.ProofKit
import Derived.OpenShut
import Derived.Test.YtcalipoknbbaaaaInK
namespace Go.Proofs.Ytcalipoknbbaaaa
open Go.RowKit
set_option linter.unusedSimpArgs false
set_option linter.unusedVariables false

theorem galleries_one (q : Option Addr) (c : Nat) (gs : List Gl) (w : World) (hr : RowG w q gs) (hl : gs.length ≤ 1000) :
    Calls Try.prog 43 #[.slice q gs.length c] w fun e w' => ∃ q c, e = .returned (.slice q gs.length c) ∧ RowG w' q gs ∧ (q = none → c = 0) ∧ Below w.heap.size w w' :=
  (galleries_any q c gs w hr hl).mono fun e w' ⟨q, c, he, ho, hb⟩ => by
    obtain ⟨q1, c1, e1, hr, hn⟩ := owns_cap ho
    injection e1 with e1 _ e2
    subst e1; subst e2
    exact ⟨q, c, he, hr, hn, hb⟩

theorem Inv.twoHG2 (w : World) (n : Int) (q q2 : Option Addr) (c c2 : Nat) (gs os : List Gl) (hr : RowG w q gs) (hq : q = none → c = 0) (hr2 : RowG w q2 os) (hq2 : q2 = none → c2 = 0) :
    Inv w (w.alloc (.cells #[.int .i64 n, .slice q gs.length c] 24)) [(q2, c2, os), (q, c, gs)] [] [] [(w.heap.size, 1, .slice q gs.length c), (w.heap.size, 0, .int .i64 n)] :=
  ((((Inv.start w).addG hr hq).addG hr2 hq2).box2 (.int .i64 n) (.slice q gs.length c) 24 rfl rfl)

set_option maxRecDepth 100000 in
set_option maxHeartbeats 4000000 in
theorem SeamNeeds_any (n : Int) (q : Option Addr) (c : Nat) (gs : List Gl) (q2 : Option Addr) (c2 : Nat) (os : List Gl) (w : World) (hr : RowG w q gs) (hq : q = none → c = 0) (hr2 : RowG w q2 os) (hq2 : q2 = none → c2 = 0) :
    Calls Try.prog 5 #[.agg #[.int .i64 n, .slice q gs.length c], .slice q2 os.length c2] w fun e w' => e = .returned (.bool true) ∧ Below w.heap.size w w' := by
  have HI := Lib.hid (Inv.twoHG2 w n q q2 c c2 gs os hr hq hr2 hq2)
  clear hr hq hr2 hq2
  have k0 := HI.out.c (b := w.heap.size) (o := 0) (v := .int .i64 n) (by simp)
  have k1 := HI.out.c (b := w.heap.size) (o := 1) (v := .slice q gs.length c) (by simp)
  by_cases h40 : 40 < gs.length
  · go_enter Try.func5, Try.ntmps5
    go_wp2_with (go_at_call 19; refine (HI.out.scalar (works_any _) rfl).mono ?_; rintro e W ⟨rfl, hI⟩; replace HI := Lib.hid hI; clear hI)
    go_ret
    exact ⟨rfl, HI.out.2.2.2.2⟩
  by_cases h41 : 40 < os.length
  · go_enter Try.func5, Try.ntmps5
    go_wp2_with (go_at_call 19; refine (HI.out.scalar (works_any _) rfl).mono ?_; rintro e W ⟨rfl, hI⟩; replace HI := Lib.hid hI; clear hI)
    go_ret
    exact ⟨rfl, HI.out.2.2.2.2⟩
  have hlA := needlessOf_len n gs
  have hlB := fewestOf_len n gs
  obtain ⟨A, A2, hA⟩ : ∃ A A2, needlessOf n gs = (A, A2) := ⟨_, _, rfl⟩
  obtain ⟨B, B2, hB⟩ : ∃ B B2, fewestOf n gs = (B, B2) := ⟨_, _, rfl⟩
  obtain ⟨P, P2, hP⟩ : ∃ P P2, askOf n gs os = (P, P2) := ⟨_, _, rfl⟩
  rw [hA] at hlA
  rw [hB] at hlB
  dsimp only at hlA hlB
  have HA := Lib.hid hA
  have HB := Lib.hid hB
  have HP := Lib.hid hP
  have hAA : (A == A) = true := beq_self_eq_true _
  have hBB : (B == B) = true := beq_self_eq_true _
  have HAA := Lib.hid hAA
  have HBB := Lib.hid hBB
  have hlA2 : A.length ≤ 1000000 := by omega
  have hlB2 : B.length ≤ 1000000 := by omega
  have hlo : os.length ≤ 1000000 := by omega
  have hlo2 : os.length ≤ 1000 := by omega
  have h1000 : gs.length ≤ 1000 := by omega
  clear hA hB hP hAA hBB hlA hlB
  go_enter Try.func5, Try.ntmps5
  go_upto_region 4 with (go_at_call 20; refine (inner_any n q c gs _ (HI.out.1 (q, c, gs) (by simp)).1 h1000).mono ?_; rintro e W ⟨q', c', rfl, hr', hq', hb⟩)
  have hI : Inv w (W.alloc (.cells #[.int .i64 n, .slice q' gs.length c'] 32)) [(q', c', gs), (q2, c2, os), (q, c, gs)] [] []
    [(W.heap.size, 1, .slice q' gs.length c'), (W.heap.size, 0, .int .i64 n), (w.heap.size, 1, .slice q gs.length c), (w.heap.size, 0, .int .i64 n)] :=
    ((((HI.out.go hb).addG hr' hq').alloc (.cells #[.int .i64 n, .slice q' gs.length c'] 32)).addC (b := W.heap.size) (o := 0) (v := .int .i64 n) (by simp) (by simp)).addC (b := W.heap.size) (o := 1) (v := .slice q' gs.length c') (by simp) (by simp)
  replace HI := Lib.hid hI
  generalize (W.alloc (.cells #[.int .i64 n, .slice q' gs.length c'] 32)) = W1 at *
  generalize W.heap.size = B7 at *
  clear hI hr' hq' hb k0 k1
  have k0 := HI.out.c (b := w.heap.size) (o := 0) (v := .int .i64 n) (by simp)
  have k1 := HI.out.c (b := w.heap.size) (o := 1) (v := .slice q gs.length c) (by simp)
  have k2 := HI.out.c (b := B7) (o := 0) (v := .int .i64 n) (by simp)
  have k3 := HI.out.c (b := B7) (o := 1) (v := .slice q' gs.length c') (by simp)
  go_upto_region 5 with (go_at_call 41; refine (HI.out.scalar (V' := .tuple #[.int .i64 P, .int .i64 P2]) (Ask_any n q q2 c c2 gs os _ (HI.out.1 (q, c, gs) (by simp)).1 (HI.out.1 (q, c, gs) (by simp)).2 (HI.out.1 (q2, c2, os) (by simp)).1 hlo) (by rw [HP.out])).mono ?_; rintro e W ⟨rfl, hI⟩; replace HI := Lib.hid hI; clear hI k0 k1 k2 k3; have k0 := HI.out.c (b := w.heap.size) (o := 0) (v := .int .i64 n) (by simp); have k1 := HI.out.c (b := w.heap.size) (o := 1) (v := .slice q gs.length c) (by simp); have k2 := HI.out.c (b := B7) (o := 0) (v := .int .i64 n) (by simp); have k3 := HI.out.c (b := B7) (o := 1) (v := .slice q' gs.length c') (by simp))
  have HID := Lib.hid (HI.out.go (Below.refl _ _).drew)
  have b2 := HID.out.c (b := B7) (o := 0) (v := .int .i64 n) (by simp)
  have b3 := HID.out.c (b := B7) (o := 1) (v := .slice q' gs.length c') (by simp)
  go_region_held3 (fun W => W.cell? ⟨B7, 0, none⟩ = some (.int .i64 n) ∧ W.cell? ⟨B7, 1, none⟩ = some (.slice q' gs.length c')) (first | exact ⟨k2, k3⟩ | exact ⟨b2, b3⟩ | exact ⟨d2, d3⟩ | exact ⟨e2, e3⟩ | go_keep)
    (first
    | (go_at_call 43; have hcc := galleries_one q2 c2 os _ (HID.out.1 (q2, c2, os) (by simp)).1 hlo2; (with_reducible refine hcc.mono ?_); clear hcc; rintro e V1 ⟨q3, c3, rfl, hr3, hq3, hb3⟩; have J1 := Lib.hid ((HID.out.go hb3).addG hr3 hq3); clear hr3 hq3 hb3; have d2 := J1.out.c (b := B7) (o := 0) (v := .int .i64 n) (by simp); have d3 := J1.out.c (b := B7) (o := 1) (v := .slice q' gs.length c') (by simp))
    | (go_at_call 42; have hcc := J1.out.scalar (V' := .tuple #[.int .i64 P, .int .i64 P2]) (rAsk_any n q' q3 c' c3 gs os _ (J1.out.1 (q', c', gs) (by simp)).1 (J1.out.1 (q', c', gs) (by simp)).2 (J1.out.1 (q3, c3, os) (by simp)).1 (J1.out.1 (q3, c3, os) (by simp)).2 hlo) (by rw [HP.out]); (with_reducible refine hcc.mono ?_); clear hcc; rintro e V2 ⟨rfl, hI⟩; have J2 := Lib.hid hI; clear hI; have e2 := J2.out.c (b := B7) (o := 0) (v := .int .i64 n) (by simp); have e3 := J2.out.c (b := B7) (o := 1) (v := .slice q' gs.length c') (by simp))
    | fail)
  all_goals
    clear k0 k1 k2 k3 b2 b3 d2 d3 e2 e3 HI HID J1
    have HI := Lib.hid J2.out
    clear J2
    have k0 := HI.out.c (b := w.heap.size) (o := 0) (v := .int .i64 n) (by simp)
    have k1 := HI.out.c (b := w.heap.size) (o := 1) (v := .slice q gs.length c) (by simp)
    have k2 := HI.out.c (b := B7) (o := 0) (v := .int .i64 n) (by simp)
    have k3 := HI.out.c (b := B7) (o := 1) (v := .slice q' gs.length c') (by simp)
    go_upto_region 10 with (first
      | (go_at_call 44; refine (HI.out.listErr (Needless_any n q c gs _ (HI.out.1 (q, c, gs) (by simp)).1) HA.out).mono ?_; rintro e W ⟨q5, c5, rfl, hI⟩; replace HI := Lib.hid hI; clear hI k0 k1 k2 k3; have k0 := HI.out.c (b := w.heap.size) (o := 0) (v := .int .i64 n) (by simp); have k1 := HI.out.c (b := w.heap.size) (o := 1) (v := .slice q gs.length c) (by simp); have k2 := HI.out.c (b := B7) (o := 0) (v := .int .i64 n) (by simp); have k3 := HI.out.c (b := B7) (o := 1) (v := .slice q' gs.length c') (by simp))
      | (go_at_call 45; refine (HI.out.listErr (rNeedless_any n q' c' gs _ (HI.out.1 (q', c', gs) (by simp)).1 (HI.out.1 (q', c', gs) (by simp)).2) HA.out).mono ?_; rintro e W ⟨q6, c6, rfl, hI⟩; replace HI := Lib.hid hI; clear hI k0 k1 k2 k3; have k0 := HI.out.c (b := w.heap.size) (o := 0) (v := .int .i64 n) (by simp); have k1 := HI.out.c (b := w.heap.size) (o := 1) (v := .slice q gs.length c) (by simp); have k2 := HI.out.c (b := B7) (o := 0) (v := .int .i64 n) (by simp); have k3 := HI.out.c (b := B7) (o := 1) (v := .slice q' gs.length c') (by simp))
      | (go_at_call 46; refine (HI.out.listErr (Fewest_any n q c gs _ (HI.out.1 (q, c, gs) (by simp)).1) HB.out).mono ?_; rintro e W ⟨q7, c7, rfl, hI⟩; replace HI := Lib.hid hI; clear hI k0 k1 k2 k3; have k0 := HI.out.c (b := w.heap.size) (o := 0) (v := .int .i64 n) (by simp); have k1 := HI.out.c (b := w.heap.size) (o := 1) (v := .slice q gs.length c) (by simp); have k2 := HI.out.c (b := B7) (o := 0) (v := .int .i64 n) (by simp); have k3 := HI.out.c (b := B7) (o := 1) (v := .slice q' gs.length c') (by simp))
      | (go_at_call 47; refine (HI.out.listErr (rFewest_any n q' c' gs _ (HI.out.1 (q', c', gs) (by simp)).1 (HI.out.1 (q', c', gs) (by simp)).2) HB.out).mono ?_; rintro e W ⟨q8, c8, rfl, hI⟩; replace HI := Lib.hid hI; clear hI k0 k1 k2 k3; have k0 := HI.out.c (b := w.heap.size) (o := 0) (v := .int .i64 n) (by simp); have k1 := HI.out.c (b := w.heap.size) (o := 1) (v := .slice q gs.length c) (by simp); have k2 := HI.out.c (b := B7) (o := 0) (v := .int .i64 n) (by simp); have k3 := HI.out.c (b := B7) (o := 1) (v := .slice q' gs.length c') (by simp)))
    clear k0 k1 k2 k3
    go_wp2_with (first
      | (go_at_call 38; have hcc := HI.out.same q5 q6 c5 c6 A A true (by simp) (by simp) hlA2 hlA2 HAA.out; (with_reducible refine hcc.mono ?_); clear hcc; rintro e W ⟨rfl, hI⟩; replace HI := Lib.hid hI; clear hI)
      | (go_at_call 38; have hcc := HI.out.same q7 q8 c7 c8 B B true (by simp) (by simp) hlB2 hlB2 HBB.out; (with_reducible refine hcc.mono ?_); clear hcc; rintro e W ⟨rfl, hI⟩; replace HI := Lib.hid hI; clear hI)
      | (go_at_call 19; have hcc := HI.out.scalar (works_any _) rfl; (with_reducible refine hcc.mono ?_); clear hcc; rintro e W ⟨rfl, hI⟩; replace HI := Lib.hid hI; clear hI))
    go_ret
    exact ⟨rfl, HI.out.2.2.2.2⟩
end Go.Proofs.Ytcalipoknbbaaaa
namespace Go.Proofs.Ytcalipoknbbaaaa.seamNeeds
open Go Go.ChangeShapes Go.WideShapes Go.ChangeAt Go.RowKit

theorem own : ownKnob Try.prog.godebug = none := by kernel_rfl
theorem laidOut : laidOutB Try.prog = true := by kernel_rfl

set_option maxRecDepth 100000 in
theorem lifted (os : Os) (started : os.Started) (H : Type) (enc : TypeId × Value → H) :
    ReturnsInHanded {} Try.checked os 5 .any (Rows.seamNeedsSpec.pre6 enc Try.prog Try.f5 Rows.seamNeedsRow.domain false) (Rows.seamNeedsSpec.post enc Try.prog Try.f5 false true false false) := by
  refine returnsInHanded_of_change (C := Try.checked) own started (by kernel_rfl) Try.func5
    (ChangeSpec.witness6 (enc := enc) (C := Try.checked) false { blocks := #[], args := #[.agg #[.int .i64 0, .slice none 0 0], .slice none 0 0], vars := [] } 8 (by kernel_rfl) (by kernel_rfl) (by kernel_rfl) (by kernel_rfl)) ?_
  intro W base args ds gs before hval0 hW hcnd _
  have hval : ∀ (j : Nat) t v, Try.f5.params[j]? = some t → args[j]? = some v → Value.okWide Try.prog W .any base t v := hval0
  have hW' := hW
  obtain ⟨p, q, hA0, hV, rfl, hfz, hnd⟩ := hW
  have hA : DataW.TrodAll enc Try.prog W 0 (fun _ => true) true Try.f5.params.toList args.toList ds p := hA0
  rw [Try.params5] at hA hval
  obtain ⟨v0, v1, d0, d1, p0, p1, rfl, rfl, rfl, h0, h1⟩ := trodAll_two hA
  obtain ⟨rfl, rfl⟩ := trodVars_none hV
  obtain ⟨n0, q0, c0, gs0, rfl, r0, e0⟩ := hill_of (hval 0 24 v0 rfl rfl) h0
  obtain ⟨q1, c1, gs1, rfl, r1, e1⟩ := galls_of (hval 1 22 v1 rfl rfl) h1
  clear hA0 hval0
  simp only [List.append_nil] at hW'
  have hlt := fun x hx => hW'.lt x hx
  refine (SeamNeeds_any n0 q0 c0 gs0 q1 c1 gs1 W r0 e0 r1 e1).mono fun e W' ⟨he, hg⟩ => ?_
  subst he
  refine ⟨_, rfl, _, _, _, [] ++ [], p0 ++ (p1 ++ []), [], hW', ?_, ?_, ?_, hg.frame _, fun h => by cases h⟩
  · exact trodAll_cons_mk (shut_bool Try.underlying4 _) trodAll_mk0
  · exact trodAll_cons_mk (Below.trod laidOut (by kernel_rfl) (of_decide_eq_true (by kernel_rfl)) h0 hg fun x hx => hlt x (by simp [hx])) (trodAll_cons_mk (Below.trod laidOut (by kernel_rfl) (of_decide_eq_true (by kernel_rfl)) h1 hg fun x hx => hlt x (by simp [hx])) trodAll_mk0)
  · rfl

end Go.Proofs.Ytcalipoknbbaaaa.seamNeeds
