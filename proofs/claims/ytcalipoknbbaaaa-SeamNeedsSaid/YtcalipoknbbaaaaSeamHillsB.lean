/- SeamHills: the walk, and the row's step. -/
import Derived.Test.YtcalipoknbbaaaaRef
import Derived.Test.YtcalipoknbbaaaaLaw8
import Derived.Test.YtcalipoknbbaaaaRows
import Derived.WalkKit
import Derived.ProofKit
import Derived.OpenShut
import Derived.Test.YtcalipoknbbaaaaInK
namespace Go.Proofs.Ytcalipoknbbaaaa
open Go.RowKit
set_option linter.unusedSimpArgs false
set_option linter.unusedVariables false
attribute [local go_sem] equal47 guard47

section
variable {w W : World} {G : List (Option Addr × Nat × List Gl)} {P : List (Option Addr × List Pl)} {I : List (Option Addr × List Int)} {C : List (Nat × Nat × Value)}
theorem Inv.box2 (h : Inv w W G P I C) (a b : Value) (t : TypeId) (ha : a.oneCell' = true) (hb : b.oneCell' = true) : Inv w (W.alloc (.cells #[a, b] t)) G P I ((W.heap.size, 1, b) :: (W.heap.size, 0, a) :: C) :=
  ((h.alloc (.cells #[a, b] t)).addC (b := W.heap.size) (o := 0) (v := a) (by simp) (by simp)).addC (b := W.heap.size) (o := 1) (v := b) (by simp) (by simp)
theorem Inv.box3 (h : Inv w W G P I C) (a b c : Value) (t : TypeId) : Inv w (W.alloc (.cells #[a, b, c] t)) G P I ((W.heap.size, 2, c) :: (W.heap.size, 1, b) :: (W.heap.size, 0, a) :: C) :=
  (((h.alloc (.cells #[a, b, c] t)).addC (b := W.heap.size) (o := 0) (v := a) (by simp) (by simp)).addC (b := W.heap.size) (o := 1) (v := b) (by simp) (by simp)).addC (b := W.heap.size) (o := 2) (v := c) (by simp) (by simp)
end
theorem Inv.three (w : World) (n : Int) (q : Option Addr) (c : Nat) (gs : List Gl) (p1 p2 ga gb gc : Int) (hr : RowG w q gs) (hq : q = none → c = 0) :
    Inv w (((w.alloc (.cells #[.int .i64 n, .slice q gs.length c] 24)).alloc (.cells #[.int .i64 p1, .int .i64 p2] 26)).alloc (.cells #[.int .i64 ga, .int .i64 gb, .int .i64 gc] 28)) [(q, c, gs)] [] []
      [(w.heap.size + 2, 2, .int .i64 gc), (w.heap.size + 2, 1, .int .i64 gb), (w.heap.size + 2, 0, .int .i64 ga), (w.heap.size + 1, 1, .int .i64 p2), (w.heap.size + 1, 0, .int .i64 p1), (w.heap.size, 1, .slice q gs.length c), (w.heap.size, 0, .int .i64 n)] := by
  have h := ((((Inv.start w).addG hr hq).box2 (.int .i64 n) (.slice q gs.length c) 24 rfl rfl).box2 (.int .i64 p1) (.int .i64 p2) 26 rfl rfl).box3 (.int .i64 ga) (.int .i64 gb) (.int .i64 gc) 28
  have e1 : (w.alloc (.cells #[.int .i64 n, .slice q gs.length c] 24)).heap.size = w.heap.size + 1 := by simp
  have e2 : ((w.alloc (.cells #[.int .i64 n, .slice q gs.length c] 24)).alloc (.cells #[.int .i64 p1, .int .i64 p2] 26)).heap.size = w.heap.size + 2 := by simp
  rw [e2, e1] at h
  exact h

set_option maxRecDepth 100000 in
set_option maxHeartbeats 4000000 in
theorem SeamHills_any (n : Int) (q : Option Addr) (c : Nat) (gs : List Gl) (p : Pl) (g : Gl) (w : World) (hr : RowG w q gs) (hq : q = none → c = 0) :
    Calls Try.prog 3 #[.agg #[.int .i64 n, .slice q gs.length c], .agg #[.int .i64 p.1, .int .i64 p.2], .agg #[.int .i64 g.1, .int .i64 g.2.1, .int .i64 g.2.2]] w fun e w' => e = .returned (.bool true) ∧ Below w.heap.size w w' := by
  obtain ⟨p1, p2⟩ := p
  obtain ⟨ga, gb, gc⟩ := g
  have HI := Lib.hid (Inv.three w n q c gs p1 p2 ga gb gc hr hq)
  clear hr hq
  by_cases h40 : 40 < gs.length
  · go_enter Try.func3, Try.ntmps3
    go_wp2_with (go_at_call 19; refine (HI.out.scalar (works_any _) rfl).mono ?_; rintro e W ⟨rfl, hI⟩; replace HI := Lib.hid hI; clear hI)
    go_ret
    exact ⟨rfl, HI.out.2.2.2.2⟩
  · obtain ⟨A1, A2, hA⟩ : ∃ A1 A2, agreesOf n gs (p1, p2) = (A1, A2) := ⟨_, _, rfl⟩
    obtain ⟨R, R2, hR⟩ : ∃ R R2, regionOf n gs = (R, R2) := ⟨_, _, rfl⟩
    obtain ⟨oa, ob, oc, o2, hO⟩ : ∃ oa ob oc o2, oppositeOf (ga, gb, gc) = ((oa, ob, oc), o2) := ⟨_, _, _, _, rfl⟩
    obtain ⟨K1, K2, hK⟩ : ∃ K1 K2, knownR n gs (ga, gb, gc) = (K1, K2) := ⟨_, _, rfl⟩
    obtain ⟨L1, L2, hL⟩ : ∃ L1 L2, lossR n gs (ga, gb, gc) = (L1, L2) := ⟨_, _, rfl⟩
    obtain ⟨E, hE⟩ : ∃ E, errH n gs = E := ⟨_, rfl⟩
    have hRl : R.length ≤ 1000000 := by
      have h := hR
      unfold regionOf at h
      by_cases h0 : errH n gs ≠ 0
      · rw [if_pos h0] at h
        injection h with h1 _
        rw [← h1]; simp
      · rw [if_neg h0] at h
        injection h with h1 _
        have hok := errH_ok (n := n) (gs := gs) (by simpa using h0)
        have := regL_len n.toNat gs (by omega)
        rw [← h1]; omega
    have HA := Lib.hid hA
    have HR := Lib.hid hR
    have HO := Lib.hid hO
    have HK := Lib.hid hK
    have HL := Lib.hid hL
    have HE := Lib.hid hE
    clear hA hR hO hK hL hE
    have h1000 : gs.length ≤ 1000 := by omega
    go_enter Try.func3, Try.ntmps3
    go_upto_region 4 with (go_at_call 20; refine (inner_any n q c gs _ (HI.out.1 (q, c, gs) (by simp)).1 h1000).mono ?_; rintro e W ⟨q', c', rfl, hr', hq', hb⟩)
    have hI : Inv w (W.alloc (.cells #[.int .i64 n, .slice q' gs.length c'] 32)) [(q', c', gs), (q, c, gs)] [] []
      [(W.heap.size, 1, .slice q' gs.length c'), (W.heap.size, 0, .int .i64 n), (w.heap.size + 2, 2, .int .i64 gc), (w.heap.size + 2, 1, .int .i64 gb), (w.heap.size + 2, 0, .int .i64 ga), (w.heap.size + 1, 1, .int .i64 p2), (w.heap.size + 1, 0, .int .i64 p1), (w.heap.size, 1, .slice q gs.length c), (w.heap.size, 0, .int .i64 n)] :=
      ((((HI.out.go hb).addG hr' hq').alloc (.cells #[.int .i64 n, .slice q' gs.length c'] 32)).addC (b := W.heap.size) (o := 0) (v := .int .i64 n) (by simp) (by simp)).addC (b := W.heap.size) (o := 1) (v := .slice q' gs.length c') (by simp) (by simp)
    replace HI := Lib.hid hI
    generalize (W.alloc (.cells #[.int .i64 n, .slice q' gs.length c'] 32)) = W1 at *
    generalize W.heap.size = B7 at *
    clear hI hr' hq' hb
    have k0 := HI.out.c (b := w.heap.size) (o := 0) (v := .int .i64 n) (by simp)
    have k1 := HI.out.c (b := w.heap.size) (o := 1) (v := .slice q gs.length c) (by simp)
    have k2 := HI.out.c (b := w.heap.size + 1) (o := 0) (v := .int .i64 p1) (by simp)
    have k3 := HI.out.c (b := w.heap.size + 1) (o := 1) (v := .int .i64 p2) (by simp)
    have k4 := HI.out.c (b := w.heap.size + 2) (o := 0) (v := .int .i64 ga) (by simp)
    have k5 := HI.out.c (b := w.heap.size + 2) (o := 1) (v := .int .i64 gb) (by simp)
    have k6 := HI.out.c (b := w.heap.size + 2) (o := 2) (v := .int .i64 gc) (by simp)
    have k7 := HI.out.c (b := B7) (o := 0) (v := .int .i64 n) (by simp)
    have k8 := HI.out.c (b := B7) (o := 1) (v := .slice q' gs.length c') (by simp)
    go_upto_region 9 with (first
      | (go_at_call 21; refine (HI.out.scalar (V' := .tuple #[.bool A1, .int .i64 A2]) (Agrees_any n q c gs (p1, p2) _ (HI.out.1 (q, c, gs) (by simp)).1) (by rw [HA.out])).mono ?_; rintro e W ⟨rfl, hI⟩; replace HI := Lib.hid hI; clear hI k0 k1 k2 k3 k4 k5 k6 k7 k8; have k0 := HI.out.c (b := w.heap.size) (o := 0) (v := .int .i64 n) (by simp); have k1 := HI.out.c (b := w.heap.size) (o := 1) (v := .slice q gs.length c) (by simp); have k2 := HI.out.c (b := w.heap.size + 1) (o := 0) (v := .int .i64 p1) (by simp); have k3 := HI.out.c (b := w.heap.size + 1) (o := 1) (v := .int .i64 p2) (by simp); have k4 := HI.out.c (b := w.heap.size + 2) (o := 0) (v := .int .i64 ga) (by simp); have k5 := HI.out.c (b := w.heap.size + 2) (o := 1) (v := .int .i64 gb) (by simp); have k6 := HI.out.c (b := w.heap.size + 2) (o := 2) (v := .int .i64 gc) (by simp); have k7 := HI.out.c (b := B7) (o := 0) (v := .int .i64 n) (by simp); have k8 := HI.out.c (b := B7) (o := 1) (v := .slice q' gs.length c') (by simp))
      | (go_at_call 22; refine (HI.out.scalar (V' := .tuple #[.bool A1, .int .i64 A2]) (rAgrees_any n q' c' gs (p1, p2) _ (HI.out.1 (q', c', gs) (by simp)).1 (HI.out.1 (q', c', gs) (by simp)).2) (by rw [HA.out])).mono ?_; rintro e W ⟨rfl, hI⟩; replace HI := Lib.hid hI; clear hI k0 k1 k2 k3 k4 k5 k6 k7 k8; have k0 := HI.out.c (b := w.heap.size) (o := 0) (v := .int .i64 n) (by simp); have k1 := HI.out.c (b := w.heap.size) (o := 1) (v := .slice q gs.length c) (by simp); have k2 := HI.out.c (b := w.heap.size + 1) (o := 0) (v := .int .i64 p1) (by simp); have k3 := HI.out.c (b := w.heap.size + 1) (o := 1) (v := .int .i64 p2) (by simp); have k4 := HI.out.c (b := w.heap.size + 2) (o := 0) (v := .int .i64 ga) (by simp); have k5 := HI.out.c (b := w.heap.size + 2) (o := 1) (v := .int .i64 gb) (by simp); have k6 := HI.out.c (b := w.heap.size + 2) (o := 2) (v := .int .i64 gc) (by simp); have k7 := HI.out.c (b := B7) (o := 0) (v := .int .i64 n) (by simp); have k8 := HI.out.c (b := B7) (o := 1) (v := .slice q' gs.length c') (by simp))
      | (go_at_call 23; refine (HI.out.placesErr (Region_any n q c gs _ (HI.out.1 (q, c, gs) (by simp)).1) HR.out).mono ?_; rintro e W ⟨q5, c5, rfl, hI⟩; replace HI := Lib.hid hI; clear hI k0 k1 k2 k3 k4 k5 k6 k7 k8; have k0 := HI.out.c (b := w.heap.size) (o := 0) (v := .int .i64 n) (by simp); have k1 := HI.out.c (b := w.heap.size) (o := 1) (v := .slice q gs.length c) (by simp); have k2 := HI.out.c (b := w.heap.size + 1) (o := 0) (v := .int .i64 p1) (by simp); have k3 := HI.out.c (b := w.heap.size + 1) (o := 1) (v := .int .i64 p2) (by simp); have k4 := HI.out.c (b := w.heap.size + 2) (o := 0) (v := .int .i64 ga) (by simp); have k5 := HI.out.c (b := w.heap.size + 2) (o := 1) (v := .int .i64 gb) (by simp); have k6 := HI.out.c (b := w.heap.size + 2) (o := 2) (v := .int .i64 gc) (by simp); have k7 := HI.out.c (b := B7) (o := 0) (v := .int .i64 n) (by simp); have k8 := HI.out.c (b := B7) (o := 1) (v := .slice q' gs.length c') (by simp))
      | (go_at_call 24; refine (HI.out.placesErr (rRegion_any n q' c' gs _ (HI.out.1 (q', c', gs) (by simp)).1 (HI.out.1 (q', c', gs) (by simp)).2) HR.out).mono ?_; rintro e W ⟨q6, c6, rfl, hI⟩; replace HI := Lib.hid hI; clear hI k0 k1 k2 k3 k4 k5 k6 k7 k8; have k0 := HI.out.c (b := w.heap.size) (o := 0) (v := .int .i64 n) (by simp); have k1 := HI.out.c (b := w.heap.size) (o := 1) (v := .slice q gs.length c) (by simp); have k2 := HI.out.c (b := w.heap.size + 1) (o := 0) (v := .int .i64 p1) (by simp); have k3 := HI.out.c (b := w.heap.size + 1) (o := 1) (v := .int .i64 p2) (by simp); have k4 := HI.out.c (b := w.heap.size + 2) (o := 0) (v := .int .i64 ga) (by simp); have k5 := HI.out.c (b := w.heap.size + 2) (o := 1) (v := .int .i64 gb) (by simp); have k6 := HI.out.c (b := w.heap.size + 2) (o := 2) (v := .int .i64 gc) (by simp); have k7 := HI.out.c (b := B7) (o := 0) (v := .int .i64 n) (by simp); have k8 := HI.out.c (b := B7) (o := 1) (v := .slice q' gs.length c') (by simp))
      | (go_at_call 25; refine (HI.out.scalar (V' := .tuple #[.agg #[.int .i64 oa, .int .i64 ob, .int .i64 oc], .int .i64 o2]) (Opposite_any (ga, gb, gc) _) (by rw [HO.out])).mono ?_; rintro e W ⟨rfl, hI⟩; replace HI := Lib.hid hI; clear hI k0 k1 k2 k3 k4 k5 k6 k7 k8; have k0 := HI.out.c (b := w.heap.size) (o := 0) (v := .int .i64 n) (by simp); have k1 := HI.out.c (b := w.heap.size) (o := 1) (v := .slice q gs.length c) (by simp); have k2 := HI.out.c (b := w.heap.size + 1) (o := 0) (v := .int .i64 p1) (by simp); have k3 := HI.out.c (b := w.heap.size + 1) (o := 1) (v := .int .i64 p2) (by simp); have k4 := HI.out.c (b := w.heap.size + 2) (o := 0) (v := .int .i64 ga) (by simp); have k5 := HI.out.c (b := w.heap.size + 2) (o := 1) (v := .int .i64 gb) (by simp); have k6 := HI.out.c (b := w.heap.size + 2) (o := 2) (v := .int .i64 gc) (by simp); have k7 := HI.out.c (b := B7) (o := 0) (v := .int .i64 n) (by simp); have k8 := HI.out.c (b := B7) (o := 1) (v := .slice q' gs.length c') (by simp)))
    clear k0 k1 k2 k3 k4 k5 k6 k7 k8
    have hI := HI.out.box3 (.int .i64 oa) (.int .i64 ob) (.int .i64 oc) 28
    replace HI := Lib.hid hI
    generalize (W.alloc (.cells #[.int .i64 oa, .int .i64 ob, .int .i64 oc] 28)) = W2 at *
    generalize W.heap.size = B16 at *
    clear hI
    have k0 := HI.out.c (b := w.heap.size) (o := 0) (v := .int .i64 n) (by simp)
    have k1 := HI.out.c (b := w.heap.size) (o := 1) (v := .slice q gs.length c) (by simp)
    have k2 := HI.out.c (b := w.heap.size + 1) (o := 0) (v := .int .i64 p1) (by simp)
    have k3 := HI.out.c (b := w.heap.size + 1) (o := 1) (v := .int .i64 p2) (by simp)
    have k4 := HI.out.c (b := w.heap.size + 2) (o := 0) (v := .int .i64 ga) (by simp)
    have k5 := HI.out.c (b := w.heap.size + 2) (o := 1) (v := .int .i64 gb) (by simp)
    have k6 := HI.out.c (b := w.heap.size + 2) (o := 2) (v := .int .i64 gc) (by simp)
    have k7 := HI.out.c (b := B7) (o := 0) (v := .int .i64 n) (by simp)
    have k8 := HI.out.c (b := B7) (o := 1) (v := .slice q' gs.length c') (by simp)
    have k9 := HI.out.c (b := B16) (o := 0) (v := .int .i64 oa) (by simp)
    have k10 := HI.out.c (b := B16) (o := 1) (v := .int .i64 ob) (by simp)
    have k11 := HI.out.c (b := B16) (o := 2) (v := .int .i64 oc) (by simp)
    go_upto_region 10 with (go_at_call 26; refine (HI.out.scalar (V' := .tuple #[.agg #[.int .i64 oa, .int .i64 ob, .int .i64 oc], .int .i64 o2]) (rOpposite_any (ga, gb, gc) _) (by rw [HO.out])).mono ?_; rintro e W ⟨rfl, hI⟩; replace HI := Lib.hid hI; clear hI k0 k1 k2 k3 k4 k5 k6 k7 k8 k9 k10 k11; have k0 := HI.out.c (b := w.heap.size) (o := 0) (v := .int .i64 n) (by simp); have k1 := HI.out.c (b := w.heap.size) (o := 1) (v := .slice q gs.length c) (by simp); have k2 := HI.out.c (b := w.heap.size + 1) (o := 0) (v := .int .i64 p1) (by simp); have k3 := HI.out.c (b := w.heap.size + 1) (o := 1) (v := .int .i64 p2) (by simp); have k4 := HI.out.c (b := w.heap.size + 2) (o := 0) (v := .int .i64 ga) (by simp); have k5 := HI.out.c (b := w.heap.size + 2) (o := 1) (v := .int .i64 gb) (by simp); have k6 := HI.out.c (b := w.heap.size + 2) (o := 2) (v := .int .i64 gc) (by simp); have k7 := HI.out.c (b := B7) (o := 0) (v := .int .i64 n) (by simp); have k8 := HI.out.c (b := B7) (o := 1) (v := .slice q' gs.length c') (by simp); have k9 := HI.out.c (b := B16) (o := 0) (v := .int .i64 oa) (by simp); have k10 := HI.out.c (b := B16) (o := 1) (v := .int .i64 ob) (by simp); have k11 := HI.out.c (b := B16) (o := 2) (v := .int .i64 oc) (by simp))
    clear k0 k1 k2 k3 k4 k5 k6 k7 k8 k9 k10 k11
    have hI := HI.out.box3 (.int .i64 oa) (.int .i64 ob) (.int .i64 oc) 47
    replace HI := Lib.hid hI
    generalize (W.alloc (.cells #[.int .i64 oa, .int .i64 ob, .int .i64 oc] 47)) = W3 at *
    generalize W.heap.size = B18 at *
    clear hI
    have k0 := HI.out.c (b := w.heap.size) (o := 0) (v := .int .i64 n) (by simp)
    have k1 := HI.out.c (b := w.heap.size) (o := 1) (v := .slice q gs.length c) (by simp)
    have k2 := HI.out.c (b := w.heap.size + 1) (o := 0) (v := .int .i64 p1) (by simp)
    have k3 := HI.out.c (b := w.heap.size + 1) (o := 1) (v := .int .i64 p2) (by simp)
    have k4 := HI.out.c (b := w.heap.size + 2) (o := 0) (v := .int .i64 ga) (by simp)
    have k5 := HI.out.c (b := w.heap.size + 2) (o := 1) (v := .int .i64 gb) (by simp)
    have k6 := HI.out.c (b := w.heap.size + 2) (o := 2) (v := .int .i64 gc) (by simp)
    have k7 := HI.out.c (b := B7) (o := 0) (v := .int .i64 n) (by simp)
    have k8 := HI.out.c (b := B7) (o := 1) (v := .slice q' gs.length c') (by simp)
    have k9 := HI.out.c (b := B16) (o := 0) (v := .int .i64 oa) (by simp)
    have k10 := HI.out.c (b := B16) (o := 1) (v := .int .i64 ob) (by simp)
    have k11 := HI.out.c (b := B16) (o := 2) (v := .int .i64 oc) (by simp)
    have k12 := HI.out.c (b := B18) (o := 0) (v := .int .i64 oa) (by simp)
    have k13 := HI.out.c (b := B18) (o := 1) (v := .int .i64 ob) (by simp)
    have k14 := HI.out.c (b := B18) (o := 2) (v := .int .i64 oc) (by simp)
    have hRR : (R == R) = true := beq_self_eq_true _
    have HRR := Lib.hid hRR
    have hAA : (A1 != A1) = false := by cases A1 <;> rfl
    clear hRR
    go_upto_region 16 with (first
      | (go_at_call 27; refine (HI.out.scalar (V' := .bool true) (equal_any q5 q6 c5 c6 R R _ (HI.out.2.1 (q5, R) (by simp)) (HI.out.2.1 (q6, R) (by simp)) hRl hRl) (by rw [HRR.out])).mono ?_; rintro e W ⟨rfl, hI⟩; replace HI := Lib.hid hI; clear hI k0 k1 k2 k3 k4 k5 k6 k7 k8 k9 k10 k11 k12 k13 k14; have k0 := HI.out.c (b := w.heap.size) (o := 0) (v := .int .i64 n) (by simp); have k1 := HI.out.c (b := w.heap.size) (o := 1) (v := .slice q gs.length c) (by simp); have k2 := HI.out.c (b := w.heap.size + 1) (o := 0) (v := .int .i64 p1) (by simp); have k3 := HI.out.c (b := w.heap.size + 1) (o := 1) (v := .int .i64 p2) (by simp); have k4 := HI.out.c (b := w.heap.size + 2) (o := 0) (v := .int .i64 ga) (by simp); have k5 := HI.out.c (b := w.heap.size + 2) (o := 1) (v := .int .i64 gb) (by simp); have k6 := HI.out.c (b := w.heap.size + 2) (o := 2) (v := .int .i64 gc) (by simp); have k7 := HI.out.c (b := B7) (o := 0) (v := .int .i64 n) (by simp); have k8 := HI.out.c (b := B7) (o := 1) (v := .slice q' gs.length c') (by simp); have k9 := HI.out.c (b := B16) (o := 0) (v := .int .i64 oa) (by simp); have k10 := HI.out.c (b := B16) (o := 1) (v := .int .i64 ob) (by simp); have k11 := HI.out.c (b := B16) (o := 2) (v := .int .i64 oc) (by simp); have k12 := HI.out.c (b := B18) (o := 0) (v := .int .i64 oa) (by simp); have k13 := HI.out.c (b := B18) (o := 1) (v := .int .i64 ob) (by simp); have k14 := HI.out.c (b := B18) (o := 2) (v := .int .i64 oc) (by simp))
      | (go_at_call 28; refine (HI.out.scalar (V' := .tuple #[.int .i64 K1, .int .i64 K2]) (Known_any n q c gs (ga, gb, gc) _ (HI.out.1 (q, c, gs) (by simp)).1 (HI.out.1 (q, c, gs) (by simp)).2) (by rw [HK.out])).mono ?_; rintro e W ⟨rfl, hI⟩; replace HI := Lib.hid hI; clear hI k0 k1 k2 k3 k4 k5 k6 k7 k8 k9 k10 k11 k12 k13 k14; have k0 := HI.out.c (b := w.heap.size) (o := 0) (v := .int .i64 n) (by simp); have k1 := HI.out.c (b := w.heap.size) (o := 1) (v := .slice q gs.length c) (by simp); have k2 := HI.out.c (b := w.heap.size + 1) (o := 0) (v := .int .i64 p1) (by simp); have k3 := HI.out.c (b := w.heap.size + 1) (o := 1) (v := .int .i64 p2) (by simp); have k4 := HI.out.c (b := w.heap.size + 2) (o := 0) (v := .int .i64 ga) (by simp); have k5 := HI.out.c (b := w.heap.size + 2) (o := 1) (v := .int .i64 gb) (by simp); have k6 := HI.out.c (b := w.heap.size + 2) (o := 2) (v := .int .i64 gc) (by simp); have k7 := HI.out.c (b := B7) (o := 0) (v := .int .i64 n) (by simp); have k8 := HI.out.c (b := B7) (o := 1) (v := .slice q' gs.length c') (by simp); have k9 := HI.out.c (b := B16) (o := 0) (v := .int .i64 oa) (by simp); have k10 := HI.out.c (b := B16) (o := 1) (v := .int .i64 ob) (by simp); have k11 := HI.out.c (b := B16) (o := 2) (v := .int .i64 oc) (by simp); have k12 := HI.out.c (b := B18) (o := 0) (v := .int .i64 oa) (by simp); have k13 := HI.out.c (b := B18) (o := 1) (v := .int .i64 ob) (by simp); have k14 := HI.out.c (b := B18) (o := 2) (v := .int .i64 oc) (by simp))
      | (go_at_call 29; refine (HI.out.scalar (V' := .tuple #[.int .i64 K1, .int .i64 K2]) (rKnown_any n q' c' gs (ga, gb, gc) _ (HI.out.1 (q', c', gs) (by simp)).1 (HI.out.1 (q', c', gs) (by simp)).2) (by rw [HK.out])).mono ?_; rintro e W ⟨rfl, hI⟩; replace HI := Lib.hid hI; clear hI k0 k1 k2 k3 k4 k5 k6 k7 k8 k9 k10 k11 k12 k13 k14; have k0 := HI.out.c (b := w.heap.size) (o := 0) (v := .int .i64 n) (by simp); have k1 := HI.out.c (b := w.heap.size) (o := 1) (v := .slice q gs.length c) (by simp); have k2 := HI.out.c (b := w.heap.size + 1) (o := 0) (v := .int .i64 p1) (by simp); have k3 := HI.out.c (b := w.heap.size + 1) (o := 1) (v := .int .i64 p2) (by simp); have k4 := HI.out.c (b := w.heap.size + 2) (o := 0) (v := .int .i64 ga) (by simp); have k5 := HI.out.c (b := w.heap.size + 2) (o := 1) (v := .int .i64 gb) (by simp); have k6 := HI.out.c (b := w.heap.size + 2) (o := 2) (v := .int .i64 gc) (by simp); have k7 := HI.out.c (b := B7) (o := 0) (v := .int .i64 n) (by simp); have k8 := HI.out.c (b := B7) (o := 1) (v := .slice q' gs.length c') (by simp); have k9 := HI.out.c (b := B16) (o := 0) (v := .int .i64 oa) (by simp); have k10 := HI.out.c (b := B16) (o := 1) (v := .int .i64 ob) (by simp); have k11 := HI.out.c (b := B16) (o := 2) (v := .int .i64 oc) (by simp); have k12 := HI.out.c (b := B18) (o := 0) (v := .int .i64 oa) (by simp); have k13 := HI.out.c (b := B18) (o := 1) (v := .int .i64 ob) (by simp); have k14 := HI.out.c (b := B18) (o := 2) (v := .int .i64 oc) (by simp))
      | (go_at_call 30; refine (HI.out.scalar (V' := .tuple #[.int .i64 L1, .int .i64 L2]) (Loss_any n q c gs (ga, gb, gc) _ (HI.out.1 (q, c, gs) (by simp)).1 (HI.out.1 (q, c, gs) (by simp)).2) (by rw [HL.out])).mono ?_; rintro e W ⟨rfl, hI⟩; replace HI := Lib.hid hI; clear hI k0 k1 k2 k3 k4 k5 k6 k7 k8 k9 k10 k11 k12 k13 k14; have k0 := HI.out.c (b := w.heap.size) (o := 0) (v := .int .i64 n) (by simp); have k1 := HI.out.c (b := w.heap.size) (o := 1) (v := .slice q gs.length c) (by simp); have k2 := HI.out.c (b := w.heap.size + 1) (o := 0) (v := .int .i64 p1) (by simp); have k3 := HI.out.c (b := w.heap.size + 1) (o := 1) (v := .int .i64 p2) (by simp); have k4 := HI.out.c (b := w.heap.size + 2) (o := 0) (v := .int .i64 ga) (by simp); have k5 := HI.out.c (b := w.heap.size + 2) (o := 1) (v := .int .i64 gb) (by simp); have k6 := HI.out.c (b := w.heap.size + 2) (o := 2) (v := .int .i64 gc) (by simp); have k7 := HI.out.c (b := B7) (o := 0) (v := .int .i64 n) (by simp); have k8 := HI.out.c (b := B7) (o := 1) (v := .slice q' gs.length c') (by simp); have k9 := HI.out.c (b := B16) (o := 0) (v := .int .i64 oa) (by simp); have k10 := HI.out.c (b := B16) (o := 1) (v := .int .i64 ob) (by simp); have k11 := HI.out.c (b := B16) (o := 2) (v := .int .i64 oc) (by simp); have k12 := HI.out.c (b := B18) (o := 0) (v := .int .i64 oa) (by simp); have k13 := HI.out.c (b := B18) (o := 1) (v := .int .i64 ob) (by simp); have k14 := HI.out.c (b := B18) (o := 2) (v := .int .i64 oc) (by simp))
      | (go_at_call 31; refine (HI.out.scalar (V' := .tuple #[.int .i64 L1, .int .i64 L2]) (rLoss_any n q' c' gs (ga, gb, gc) _ (HI.out.1 (q', c', gs) (by simp)).1 (HI.out.1 (q', c', gs) (by simp)).2) (by rw [HL.out])).mono ?_; rintro e W ⟨rfl, hI⟩; replace HI := Lib.hid hI; clear hI k0 k1 k2 k3 k4 k5 k6 k7 k8 k9 k10 k11 k12 k13 k14; have k0 := HI.out.c (b := w.heap.size) (o := 0) (v := .int .i64 n) (by simp); have k1 := HI.out.c (b := w.heap.size) (o := 1) (v := .slice q gs.length c) (by simp); have k2 := HI.out.c (b := w.heap.size + 1) (o := 0) (v := .int .i64 p1) (by simp); have k3 := HI.out.c (b := w.heap.size + 1) (o := 1) (v := .int .i64 p2) (by simp); have k4 := HI.out.c (b := w.heap.size + 2) (o := 0) (v := .int .i64 ga) (by simp); have k5 := HI.out.c (b := w.heap.size + 2) (o := 1) (v := .int .i64 gb) (by simp); have k6 := HI.out.c (b := w.heap.size + 2) (o := 2) (v := .int .i64 gc) (by simp); have k7 := HI.out.c (b := B7) (o := 0) (v := .int .i64 n) (by simp); have k8 := HI.out.c (b := B7) (o := 1) (v := .slice q' gs.length c') (by simp); have k9 := HI.out.c (b := B16) (o := 0) (v := .int .i64 oa) (by simp); have k10 := HI.out.c (b := B16) (o := 1) (v := .int .i64 ob) (by simp); have k11 := HI.out.c (b := B16) (o := 2) (v := .int .i64 oc) (by simp); have k12 := HI.out.c (b := B18) (o := 0) (v := .int .i64 oa) (by simp); have k13 := HI.out.c (b := B18) (o := 1) (v := .int .i64 ob) (by simp); have k14 := HI.out.c (b := B18) (o := 2) (v := .int .i64 oc) (by simp)))
    clear k0 k1 k2 k3 k4 k5 k6 k7 k8 k9 k10 k11 k12 k13 k14 hAA HRR
    have HID := Lib.hid (HI.out.go (Below.refl _ _).drew)
    have a0 := HI.out.c (b := w.heap.size) (o := 0) (v := .int .i64 n) (by simp)
    have a1 := HI.out.c (b := w.heap.size) (o := 1) (v := .slice q gs.length c) (by simp)
    have a2 := HI.out.c (b := B7) (o := 0) (v := .int .i64 n) (by simp)
    have a3 := HI.out.c (b := B7) (o := 1) (v := .slice q' gs.length c') (by simp)
    have b0 := HID.out.c (b := w.heap.size) (o := 0) (v := .int .i64 n) (by simp)
    have b1 := HID.out.c (b := w.heap.size) (o := 1) (v := .slice q gs.length c) (by simp)
    have b2 := HID.out.c (b := B7) (o := 0) (v := .int .i64 n) (by simp)
    have b3 := HID.out.c (b := B7) (o := 1) (v := .slice q' gs.length c') (by simp)
    have hEE : (E == E) = true := beq_self_eq_true _
    go_region_held3 (fun W => W.cell? ⟨w.heap.size, 0, none⟩ = some (.int .i64 n) ∧ W.cell? ⟨w.heap.size, 1, none⟩ = some (.slice q gs.length c) ∧ W.cell? ⟨B7, 0, none⟩ = some (.int .i64 n) ∧ W.cell? ⟨B7, 1, none⟩ = some (.slice q' gs.length c')) (first | exact ⟨a0, a1, a2, a3⟩ | exact ⟨b0, b1, b2, b3⟩ | exact ⟨d0, d1, d2, d3⟩ | exact ⟨e0, e1, e2, e3⟩ | exact ⟨f0, f1, f2, f3⟩ | go_keep)
      (first
      | (go_at_call 32; have hcc := HID.out.scalar (V' := .int .i64 E) (check_any n q c gs _ (HID.out.1 (q, c, gs) (by simp)).1) (by rw [HE.out]); with_reducible refine hcc.mono ?_; clear hcc; rintro e Vd ⟨rfl, hI⟩; have J1 := Lib.hid hI; clear hI; have d0 := J1.out.c (b := w.heap.size) (o := 0) (v := .int .i64 n) (by simp); have d1 := J1.out.c (b := w.heap.size) (o := 1) (v := .slice q gs.length c) (by simp); have d2 := J1.out.c (b := B7) (o := 0) (v := .int .i64 n) (by simp); have d3 := J1.out.c (b := B7) (o := 1) (v := .slice q' gs.length c') (by simp))
      | (go_at_call 33; have hcc := HID.out.scalar (V' := .int .i64 E) (rCheck_any n q' c' gs _ (HID.out.1 (q', c', gs) (by simp)).1) (by rw [HE.out]); with_reducible refine hcc.mono ?_; clear hcc; rintro e Vd ⟨rfl, hI⟩; have J1 := Lib.hid hI; clear hI; have d0 := J1.out.c (b := w.heap.size) (o := 0) (v := .int .i64 n) (by simp); have d1 := J1.out.c (b := w.heap.size) (o := 1) (v := .slice q gs.length c) (by simp); have d2 := J1.out.c (b := B7) (o := 0) (v := .int .i64 n) (by simp); have d3 := J1.out.c (b := B7) (o := 1) (v := .slice q' gs.length c') (by simp))
      | (go_at_call 33; have hcc := J1.out.scalar (V' := .int .i64 E) (rCheck_any n q' c' gs _ (J1.out.1 (q', c', gs) (by simp)).1) (by rw [HE.out]); with_reducible refine hcc.mono ?_; clear hcc; rintro e Ve ⟨rfl, hI⟩; have J2 := Lib.hid hI; clear hI; have e0 := J2.out.c (b := w.heap.size) (o := 0) (v := .int .i64 n) (by simp); have e1 := J2.out.c (b := w.heap.size) (o := 1) (v := .slice q gs.length c) (by simp); have e2 := J2.out.c (b := B7) (o := 0) (v := .int .i64 n) (by simp); have e3 := J2.out.c (b := B7) (o := 1) (v := .slice q' gs.length c') (by simp))
      | (go_at_call 32; have hcc := J1.out.scalar (V' := .int .i64 E) (check_any n q c gs _ (J1.out.1 (q, c, gs) (by simp)).1) (by rw [HE.out]); with_reducible refine hcc.mono ?_; clear hcc; rintro e Ve ⟨rfl, hI⟩; have J2 := Lib.hid hI; clear hI; have e0 := J2.out.c (b := w.heap.size) (o := 0) (v := .int .i64 n) (by simp); have e1 := J2.out.c (b := w.heap.size) (o := 1) (v := .slice q gs.length c) (by simp); have e2 := J2.out.c (b := B7) (o := 0) (v := .int .i64 n) (by simp); have e3 := J2.out.c (b := B7) (o := 1) (v := .slice q' gs.length c') (by simp))
      | (go_at_call 19; refine (J2.out.scalar (works_any _) rfl).mono ?_; rintro e V9 ⟨rfl, hI⟩; have J3 := Lib.hid hI; clear hI; have f0 := J3.out.c (b := w.heap.size) (o := 0) (v := .int .i64 n) (by simp); have f1 := J3.out.c (b := w.heap.size) (o := 1) (v := .slice q gs.length c) (by simp); have f2 := J3.out.c (b := B7) (o := 0) (v := .int .i64 n) (by simp); have f3 := J3.out.c (b := B7) (o := 1) (v := .slice q' gs.length c') (by simp))
      | fail)
    all_goals
      go_wp2
      go_ret
      exact ⟨rfl, J3.out.2.2.2.2⟩
end Go.Proofs.Ytcalipoknbbaaaa
namespace Go.Proofs.Ytcalipoknbbaaaa.seamHills
open Go Go.ChangeShapes Go.WideShapes Go.ChangeAt Go.RowKit

theorem own : ownKnob Try.prog.godebug = none := by kernel_rfl
theorem laidOut : laidOutB Try.prog = true := by kernel_rfl

set_option maxRecDepth 100000 in
theorem lifted (os : Os) (started : os.Started) (H : Type) (enc : TypeId × Value → H) :
    ReturnsInHanded {} Try.checked os 3 .any (Rows.seamHillsSpec.pre6 enc Try.prog Try.f3 Rows.seamHillsRow.domain false) (Rows.seamHillsSpec.post enc Try.prog Try.f3 false true false false) := by
  refine returnsInHanded_of_change (C := Try.checked) own started (by kernel_rfl) Try.func3
    (ChangeSpec.witness6 (enc := enc) (C := Try.checked) false { blocks := #[], args := #[.agg #[.int .i64 0, .slice none 0 0], .agg #[.int .i64 0, .int .i64 0], .agg #[.int .i64 0, .int .i64 0, .int .i64 0]], vars := [] } 8 (by kernel_rfl) (by kernel_rfl) (by kernel_rfl) (by kernel_rfl)) ?_
  intro W base args ds gs before hval0 hW hcnd _
  have hval : ∀ (j : Nat) t v, Try.f3.params[j]? = some t → args[j]? = some v → Value.okWide Try.prog W .any base t v := hval0
  have hW' := hW
  obtain ⟨p, q, hA0, hV, rfl, hfz, hnd⟩ := hW
  have hA : DataW.TrodAll enc Try.prog W 0 (fun _ => true) true Try.f3.params.toList args.toList ds p := hA0
  rw [Try.params3] at hA hval
  obtain ⟨v0, v1, v2, d0, d1, d2, p0, p1, p2, rfl, rfl, rfl, h0, h1, h2⟩ := trodAll_three hA
  obtain ⟨rfl, rfl⟩ := trodVars_none hV
  obtain ⟨n0, q0, c0, gs0, rfl, r0, e0⟩ := hill_of (hval 0 24 v0 rfl rfl) h0
  obtain ⟨p1', rfl⟩ := place_of (hval 1 26 v1 rfl rfl) h1
  obtain ⟨g2, rfl⟩ := gal_of (hval 2 28 v2 rfl rfl) h2
  clear hA0 hval0
  simp only [List.append_nil] at hW'
  have hlt := fun x hx => hW'.lt x hx
  refine (SeamHills_any n0 q0 c0 gs0 p1' g2 W r0 e0  ).mono fun e W' ⟨he, hg⟩ => ?_
  subst he
  refine ⟨_, rfl, _, _, _, [] ++ [], p0 ++ (p1 ++ (p2 ++ [])), [], hW', ?_, ?_, ?_, hg.frame _, fun h => by cases h⟩
  · exact trodAll_cons_mk (shut_bool Try.underlying4 _) trodAll_mk0
  · exact trodAll_cons_mk (Below.trod laidOut (by kernel_rfl) (of_decide_eq_true (by kernel_rfl)) h0 hg fun x hx => hlt x (by simp [hx])) (trodAll_cons_mk (Below.trod laidOut (by kernel_rfl) (of_decide_eq_true (by kernel_rfl)) h1 hg fun x hx => hlt x (by simp [hx])) (trodAll_cons_mk (Below.trod laidOut (by kernel_rfl) (of_decide_eq_true (by kernel_rfl)) h2 hg fun x hx => hlt x (by simp [hx])) trodAll_mk0))
  · rfl

end Go.Proofs.Ytcalipoknbbaaaa.seamHills
