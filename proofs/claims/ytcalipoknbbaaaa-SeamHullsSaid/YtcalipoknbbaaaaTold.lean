/- slices.Concat at places; told (a helper of the law). -/
import Derived.Test.YtcalipoknbbaaaaConcat
import Derived.Lib.AppendZeros
import Derived.Laws.AppendOwnNone
import Derived.Deep.RegionHeld3
import Derived.Test.YtcalipoknbbaaaaLaw2
import Derived.Test.YtcalipoknbbaaaaWith
import Derived.Test.YtcalipoknbbaaaaRadm
import Derived.Deep.CutRange
import Derived.BigQuiet
namespace Go.Proofs.Ytcalipoknbbaaaa
open Go.RowKit

/-- an empty list of the call's own -/
def GrownP (w : World) (e : Ending) (w' : World) : Prop := ∃ q cap, e = .returned (.slice q 0 cap) ∧ w'.ownsRow w.heap.size 26 2 (.slice q 0 cap) 0 [] ∧ Below w.heap.size w w'

set_option maxRecDepth 100000 in
set_option maxHeartbeats 400000 in
theorem growP_any (n : Nat) (w : World) (hn : n ≤ 1000000) : Calls Try.prog 138 #[.slice none 0 0, .int .i64 n] w (GrownP w) := by
  by_cases h0 : n = 0
  · subst h0
    go_enter Try.func138, Try.ntmps138
    go_wp2
    go_ret
    exact ⟨none, 0, rfl, World.ownsRow_nil _ _ _ _, Below.refl _ _⟩
  · obtain ⟨i0, hi, hz0, hz1, hz2⟩ := info_parts info26
    have hrun := Lib.run_append_nil_zeros (P := Try.prog) w 39 3 39 26 i0 _ .i64 .i64 Try.underlying39 (by kernel_rfl) hi hz0 n (by omega) (by rw [hz1]; omega) (by omega) (by rw [hz2]; omega)
    have hge := grownCap_ge w n 0 26
    have hle := grownCap_le_maxLen w n 0 26 (by unfold maxLen; omega)
    have HRUN := Lib.hid hrun
    have HI := Lib.hid hi
    have HZ0 := Lib.hid hz0
    have HZ1 := Lib.hid hz1
    have HZ2 := Lib.hid hz2
    clear hrun hi hz0 hz1 hz2
    have hpos : (0 : Int) < n := by omega
    go_enter Try.func138, Try.ntmps138
    go_wp2_with (at_builtin; refine Lib.wpList_append_run _ rfl _ _ _ _ rfl _ _ rfl rfl _ _ HRUN.out ?_)
    go_ret
    refine ⟨some ⟨w.heap.size, 0, none⟩, grownCap w n 0 26, rfl, ?_, (Below.refl _ w).drew.alloc (Nat.le_refl _) _⟩
    have := World.ownsRow_made (base := w.heap.size) (e := 26) (size := 2) w.drew (Builtin.zeroCells (Value.agg #[.int .i64 0, .int .i64 0]).cells n ++ Builtin.zeroCells (Value.agg #[.int .i64 0, .int .i64 0]).cells (grownCap w n 0 26 - n)) (grownCap w n 0 26) (Nat.le_refl _) hle (by
      rw [Array.size_append, size_zeroCells, size_zeroCells, ← Nat.add_mul, Nat.add_sub_cancel' hge]; rfl)
    exact this

theorem flatP_length : ∀ gs : List Pl, (flatP gs).length = gs.length * 2
  | [] => rfl
  | g :: gs => by
    have ih := flatP_length gs
    have e : flatP (g :: gs) = .int .i64 g.1 :: .int .i64 g.2 :: flatP gs := by simp [flatP]
    rw [e]
    simp [ih]
    omega

theorem flatP_nil_get (j : Nat) : (flatP [])[j]? = none := by simp [flatP]

theorem growP_int (m : Int) (w : World) (h0 : 0 ≤ m) (hm : m ≤ 1000000) : Calls Try.prog 138 #[.slice none 0 0, .int .i64 m] w (GrownP w) := by
  obtain ⟨n, rfl⟩ := Int.eq_ofNat_of_zero_le h0
  exact growP_any n w (by omega)

/-- appending a whole list of places to a list of the call's own -/
theorem app_pls (w : World) {ops : Array Oper} {rest : List Oper} {o : Oper} {a : Act} {Q : Exit → Act → World → Prop} (hgd : o.guard = none) (s x : Operand)
    (ho : o.op = .call { callee := .builtin .append, args := #[s, x], argTypes := #[39, 39] }) (base : Nat) (v : Value) (gs xs : List Pl) (hs : a.eval s = v)
    (hown : w.ownsRow base 26 2 v gs.length (flatP gs)) (q : Option Addr) (c : Nat) (hx : a.eval x = .slice q xs.length c) (hq : q = none → c = 0) (hr : RowP w q xs)
    (hl : gs.length + xs.length ≤ 1000000) (hbase : base ≤ w.heap.size)
    (h : ∀ v' w', w'.ownsRow base 26 2 v' (gs ++ xs).length (flatP (gs ++ xs)) → w.grownBy w' v.ownBlock → wpList Try.prog ops Q rest (a.put o.dst v') w') :
    wpList Try.prog ops Q (o :: rest) a w := by
  obtain ⟨i0, hi, hz0, hz1, hz2⟩ := info_parts info26
  have hfl := flatP_length xs
  have happ : flatP (gs ++ xs) = flatP gs ++ flatP xs := by simp [flatP]
  cases q with
  | none =>
    have hx0 : xs = [] := by
      rcases hr with h0 | ⟨b, off, e, _⟩
      · exact h0
      · cases e
    subst hx0
    rw [hq rfl] at hx
    refine wpList_append_own_none hgd s x 39 ho base 26 i0 2 Try.underlying39 hi v gs.length (flatP gs) hs hown hx ?_
    refine h v w ?_ ⟨rfl, rfl, rfl, Nat.le_refl _, fun _ _ _ => rfl⟩
    rw [List.append_nil]
    exact hown
  | some ad =>
    refine wpList_append_own w hgd s x 39 ho base 26 i0 _ 2 16 Try.underlying39 hi hz0 hz1 hz2 rfl (by decide) v gs.length (flatP gs) hs hown ad xs.length c (flatP xs) hx hfl ?_ ?_ (by unfold maxLen; omega) (by omega) hbase ?_
    · intro j u hj
      rcases hr with h0 | ⟨b, off, e, _, hc⟩
      · subst h0
        rw [flatP_nil_get] at hj
        exact absurd hj.symm (Option.some_ne_none u)
      · simp only [Option.some.injEq] at e
        subst e
        have hjl : j < xs.length * 2 := by rw [← hfl]; exact (List.getElem?_eq_some_iff.1 hj).1
        rw [addr_add_off]
        obtain ⟨i, hi'⟩ : ∃ i, j = i * 2 ∨ j = i * 2 + 1 := ⟨j / 2, by omega⟩
        obtain ⟨c1, c2⟩ := hc i (by omega)
        obtain ⟨f1, f2⟩ := flatP_get xs i (by omega)
        rcases hi' with rfl | rfl
        · rw [f1] at hj; rw [← hj]; exact c1
        · rw [f2] at hj; rw [← hj]; exact c2
    · intro u hu
      unfold flatP at hu
      obtain ⟨g, _, hg⟩ := List.mem_flatMap.1 hu
      simp at hg
      rcases hg with rfl | rfl <;> rfl
    · intro v' w' h1 h2 _
      refine h v' w' ?_ h2
      rw [happ, List.length_append]
      exact h1

/-- two lists of places, as slices.Concat is handed them -/
def TwoP2 (w : World) (b : Nat) (q1 q2 : Option Addr) (c1 c2 : Nat) (xs ys : List Pl) : Prop :=
  b < w.heap.size ∧ w.cell? ⟨b, 0, none⟩ = some (.slice q1 xs.length c1) ∧ w.cell? ⟨b, 1, none⟩ = some (.slice q2 ys.length c2) ∧ RowP w q1 xs ∧ RowP w q2 ys ∧ (q1 = none → c1 = 0) ∧ (q2 = none → c2 = 0)
theorem TwoP2.below {w w' : World} {b : Nat} {q1 q2 : Option Addr} {c1 c2 : Nat} {xs ys : List Pl} (h : TwoP2 w b q1 q2 c1 c2 xs ys) {N : Nat} (hN : w.heap.size ≤ N) (hb : Below N w w') : TwoP2 w' b q1 q2 c1 c2 xs ys :=
  ⟨Nat.lt_of_lt_of_le h.1 hb.size, (hb.cell (p := ⟨b, 0, none⟩) (Nat.lt_of_lt_of_le h.1 hN)).trans h.2.1, (hb.cell (p := ⟨b, 1, none⟩) (Nat.lt_of_lt_of_le h.1 hN)).trans h.2.2.1, h.2.2.2.1.below hN hb, h.2.2.2.2.1.below hN hb, h.2.2.2.2.2.1, h.2.2.2.2.2.2⟩

/-- a list of places in new memory -/
def OneQ (w : World) (xs : List Pl) (e : Ending) (w' : World) : Prop := ∃ q c, e = .returned (.slice q xs.length c) ∧ RowP w' q xs ∧ (q = none → c = 0) ∧ Below w.heap.size w w'

theorem owns_nil_capP {w : World} {base : Nat} {e : TypeId} {size n : Nat} {q : Option Addr} {m c : Nat} {xs : List Value} (h : w.ownsRow base e size (.slice q m c) n xs) : q = none → c = 0 := by
  intro hq
  obtain ⟨_, ⟨h', _⟩ | ⟨g, cap, cur, h', _⟩⟩ := h
  · simp only [Value.slice.injEq] at h'; exact h'.2.2
  · simp only [Value.slice.injEq] at h'; rw [hq] at h'; simp at h'

set_option maxRecDepth 100000 in
set_option maxHeartbeats 1000000 in
theorem concatP_any (b cb : Nat) (q1 q2 : Option Addr) (c1 c2 : Nat) (xs ys : List Pl) (w : World) (h2 : TwoP2 w b q1 q2 c1 c2 xs ys) (hl : xs.length + ys.length ≤ 1000) :
    Calls Try.prog 82 #[.slice (some ⟨b, 0, none⟩) 2 cb] w (OneQ w (xs ++ ys)) := by
  have H2 := Lib.hid h2
  obtain ⟨t1, t2, t3, _⟩ := h2
  go_enter Try.func82, Try.ntmps82
  go_wp2
  go_loop [3, 11] (fun s i => ∃ k : Nat, i = .int .i64 k ∧ ((k = 0 ∧ s = .int .i64 0) ∨ (k = 1 ∧ s = .int .i64 (xs.length : Nat)) ∨ (k = 2 ∧ s = .int .i64 (xs.length + ys.length : Nat)))) (fun _ i => 2 - (intOf i).toNat)
  case atStart => exact ⟨0, rfl, .inl ⟨rfl, rfl⟩⟩
  case round =>
    obtain ⟨k, rfl, ⟨rfl, rfl⟩ | ⟨rfl, rfl⟩ | ⟨rfl, rfl⟩⟩ := hrel
    · go_wp2
      go_round
      case rel => exact ⟨1, rfl, .inr (.inl ⟨rfl, rfl⟩)⟩
      case measure => simp [intOf]
    · go_wp2
      go_round
      case rel => exact ⟨2, rfl, .inr (.inr ⟨rfl, by go_num⟩)⟩
      case measure => simp [intOf]
    · go_wp2_with (go_at_call 138; refine (growP_int _ _ (by omega) (by omega)).mono ?_; rintro e w1 ⟨q, c, rfl, hown, hb⟩)
      have H2' := Lib.hid (H2.out.below (Nat.le_refl _) hb)
      go_loopw [6, 27] (fun v i wr => ∃ k : Nat, i = .int .i64 k ∧ Below w.heap.size w wr ∧ ((k = 0 ∧ wr.ownsRow w.heap.size 26 2 v ([] : List Pl).length (flatP [])) ∨ (k = 1 ∧ wr.ownsRow w.heap.size 26 2 v xs.length (flatP xs)) ∨ (k = 2 ∧ wr.ownsRow w.heap.size 26 2 v (xs ++ ys).length (flatP (xs ++ ys))))) (fun _ i _ => 2 - (intOf i).toNat)
      case atStart => exact ⟨0, rfl, hb, .inl ⟨rfl, hown⟩⟩
      case round =>
        obtain ⟨k, rfl, hbr, hk⟩ := hrel
        have H3 := Lib.hid (H2.out.below (Nat.le_refl _) hbr)
        obtain ⟨s1, s2, s3, _⟩ := H3.out
        rcases hk with ⟨rfl, hv⟩ | ⟨rfl, hv⟩ | ⟨rfl, hv⟩
        · have HV := Lib.hid hv
          clear hv hown
          go_wp2_with (at_builtin; refine app_pls _ rfl (.tmp 31) (.tmp 32) rfl w.heap.size _ [] xs rfl HV.out q1 c1 rfl H3.out.2.2.2.2.2.1 H3.out.2.2.2.1 (by simp; omega) hbr.size ?_; intro v' w' hown' hgrow)
          have hbn : Below w.heap.size w w' := hbr.trans (grown_below HV.out hbr.size hgrow)
          go_roundw
          case rel => exact ⟨1, rfl, hbn, .inr (.inl ⟨rfl, hown'⟩)⟩
          case measure => simp [intOf]
        · have HV := Lib.hid hv
          clear hv hown
          go_wp2_with (at_builtin; refine app_pls _ rfl (.tmp 31) (.tmp 32) rfl w.heap.size _ xs ys rfl HV.out q2 c2 rfl H3.out.2.2.2.2.2.2 H3.out.2.2.2.2.1 (by omega) hbr.size ?_; intro v' w' hown' hgrow)
          have hbn : Below w.heap.size w w' := hbr.trans (grown_below HV.out hbr.size hgrow)
          go_roundw
          case rel => exact ⟨2, rfl, hbn, .inr (.inr ⟨rfl, hown'⟩)⟩
          case measure => simp [intOf]
        · obtain ⟨q3, c3, rfl, hr3⟩ := rowP_of_owns hv
          have hnil := owns_nil_capP hv
          have HN := Lib.hid hnil
          have HR3 := Lib.hid hr3
          clear hv hown hnil hr3
          go_wp2
          go_ret
          exact ⟨q3, c3, rfl, HR3.out, HN.out, hbr⟩
end Go.Proofs.Ytcalipoknbbaaaa
namespace Go.Proofs.Ytcalipoknbbaaaa
open Go.RowKit
set_option linter.unusedSimpArgs false
set_option linter.unusedVariables false
/-- are two places the same? -/
def plEq (p y : Pl) : Bool := p == y
theorem equalP (p y : Pl) (w : World) : (binOp .eql 26 (.agg #[.int .i64 p.1, .int .i64 p.2]) (.agg #[.int .i64 y.1, .int .i64 y.2])).run Try.prog w = .ok (.bool (plEq p y)) w := by
  have e : plEq p y = (p.1 == y.1 && p.2 == y.2) := rfl
  rw [e]
  cases h1 : (p.1 == y.1) <;> cases h2 : (p.2 == y.2) <;> simp [go_sem, guard26, equal26, h1, h2] <;> simp_all
attribute [local go_sem ↓] equalP

theorem any_hit {α : Type} {f : α → Bool} {l : List α} {k : Nat} (hk : k < l.length) (d : α) (h : f (l.getD k d) = true) : l.any f = true := by
  rw [getD_eq l k d hk] at h
  exact List.any_eq_true.2 ⟨_, List.getElem_mem _, h⟩
theorem AllNo.none {α : Type} {f : α → Bool} {l : List α} (h : AllNo f l l.length) : l.any f = false := by
  rw [← firstIdx_any, h.all]; rfl
theorem mxF_succ (d : Int × Int) (A : List Pl) (k : Nat) (h : k < A.length) : mxF d (A.take (k + 1)) = max (mxF d (A.take k)) (d.1 * (A.getD k (0, 0)).1 + d.2 * (A.getD k (0, 0)).2) := by
  rw [getD_eq A k _ h, List.take_succ_eq_append_getElem h]
  simp only [mxF, List.foldl_append, List.foldl_cons, List.foldl_nil]
theorem mnF_succ (d : Int × Int) (A : List Pl) (k : Nat) (h : k < A.length) : mnF d (A.take (k + 1)) = min (mnF d (A.take k)) (d.1 * (A.getD k (0, 0)).1 + d.2 * (A.getD k (0, 0)).2) := by
  rw [getD_eq A k _ h, List.take_succ_eq_append_getElem h]
  simp only [mnF, List.foldl_append, List.foldl_cons, List.foldl_nil]

theorem idx171 (j : Nat) (hj : j < 4) (w : World) : (Instr.index 171 (.agg #[.int .i64 1, .int .i64 1, .int .i64 1, .int .i64 (-1), .int .i64 (-1), .int .i64 1, .int .i64 (-1), .int .i64 (-1)]) (.int .i64 j)).run Try.prog w =
    .ok (.agg #[.int .i64 (signsL.getD j (0, 0)).1, .int .i64 (signsL.getD j (0, 0)).2]) w := by
  obtain rfl | rfl | rfl | rfl : j = 0 ∨ j = 1 ∨ j = 2 ∨ j = 3 := by omega
  · kernel_rfl
  · kernel_rfl
  · kernel_rfl
  · kernel_rfl
theorem signs_one (j : Nat) (hj : j < 4) : ((signsL.getD j (0, 0)).1 = 1 ∨ (signsL.getD j (0, 0)).1 = -1) ∧ ((signsL.getD j (0, 0)).2 = 1 ∨ (signsL.getD j (0, 0)).2 = -1) := by
  obtain rfl | rfl | rfl | rfl : j = 0 ∨ j = 1 ∨ j = 2 ∨ j = 3 := by omega
  all_goals simp [signsL]
theorem one_mul_bd {x s b : Int} (hs : s = 1 ∨ s = -1) (h : -b ≤ x ∧ x ≤ b) : -b ≤ x * s ∧ x * s ≤ b := by
  rcases hs with rfl | rfl <;> omega
theorem twoP2_new (W : World) (q1 q2 : Option Addr) (c1 c2 : Nat) (a b : List Pl) (h1 : RowP W q1 a) (h2 : RowP W q2 b) (hq1 : q1 = none → c1 = 0) (hq2 : q2 = none → c2 = 0) :
    TwoP2 (W.alloc (.cells #[.slice q1 a.length c1, .slice q2 b.length c2] 39)) W.heap.size q1 q2 c1 c2 a b :=
  ⟨by simp, by simp, by simp, h1.below (Nat.le_refl _) ((Below.refl _ _).alloc (Nat.le_refl _) _), h2.below (Nat.le_refl _) ((Below.refl _ _).alloc (Nat.le_refl _) _), hq1, hq2⟩

set_option maxRecDepth 100000 in
set_option maxHeartbeats 4000000 in
theorem told_any (q1 q2 : Option Addr) (c1 c2 : Nat) (a b : List Pl) (w : World) (ha : ∀ p ∈ a, NV.inG p) (hb : ∀ p ∈ b, NV.inG p) (h1 : RowP w q1 a) (h2 : RowP w q2 b) (hq1 : q1 = none → c1 = 0) (hq2 : q2 = none → c2 = 0)
    (la : a.length ≤ 100) (lb : b.length ≤ 100) :
    Calls Try.prog 81 #[.slice q1 a.length c1, .slice q2 b.length c2] w fun e w' => e = .returned (.bool (toldB a b)) ∧ Below w.heap.size w w' := by
  have H2 := Lib.hid (twoP2_new w q1 q2 c1 c2 a b h1 h2 hq1 hq2)
  have HA := Lib.hid h1
  have HB := Lib.hid h2
  have hll : (a ++ b).length ≤ 200 := by simp; omega
  have hc82 := concatP_any w.heap.size 2 q1 q2 c1 c2 a b _ H2.out (by omega)
  have KR : ∀ p ∈ a ++ b, NV.inG p := fun p h => by rcases List.mem_append.1 h with h | h; exact ha p h; exact hb p h
  generalize hR : a ++ b = R at *
  have HRE := Lib.hid hR
  have C82 := Lib.hid hc82
  have KR := Lib.hid KR
  have KA := Lib.hid ha
  have KB := Lib.hid hb
  have hb0 : Below w.heap.size w (w.alloc (.cells #[.slice q1 a.length c1, .slice q2 b.length c2] 39)) := (Below.refl _ _).alloc (Nat.le_refl _) _
  have HB0 := Lib.hid hb0
  clear h1 h2 hq1 hq2 ha hb hb0 hR hc82
  go_enter Try.func81, Try.ntmps81
  go_wp2_with (go_at_call 82; refine C82.out.mono ?_; rintro e w1 ⟨q3, c3, rfl, hr3, _, hb1⟩)
  have HR3 := Lib.hid hr3
  have HB1 := Lib.hid (HB0.out.trans (hb1.mono (by simp)))
  clear H2 HB0 hr3 hb1 C82
  go_loopw [28] (fun i wr => ∃ k : Nat, k ≤ R.length ∧ i = .int .i64 k ∧ AllNo (toldP a b) R k ∧ Below w.heap.size w wr ∧ Below w1.heap.size w1 wr) (fun i _ => R.length - (intOf i).toNat)
  case atStart => exact ⟨0, Nat.zero_le _, rfl, rfl, HB1.out, Below.refl _ _⟩
  case round =>
    obtain ⟨k, hk, rfl, hall, hbel, hbe1⟩ := hrel
    have HALL := Lib.hid hall
    have HBEL := Lib.hid hbel
    have HBE1 := Lib.hid hbe1
    clear hall hbel hbe1
    by_cases hlt : k < R.length
    · obtain ⟨bb, off, rfl, hbz, g1, g2⟩ := HR3.out.at hlt (Nat.le_refl _) HBE1.out
      have hpin := KR.out _ (getD_mem R k (0, 0) hlt)
      have hst := HALL.out.step hlt (0, 0)
      have hhit := any_hit (f := toldP a b) hlt (0, 0)
      generalize R.getD k (0, 0) = p at *
      have HST := Lib.hid hst
      have HHIT := Lib.hid hhit
      have HPIN := Lib.hid hpin
      clear hst hhit hpin
      obtain ⟨wo, rfl⟩ : ∃ wo : World, wo = wr := ⟨_, rfl⟩
      go_wp2
      go_loopw [34] (fun i wr => ∃ l : Nat, l ≤ R.length ∧ i = .int .i64 l ∧ AllNo (toldQ a b p) R l ∧ Below w.heap.size w wr ∧ Below w1.heap.size w1 wr ∧ PlaceAt wr wo.heap.size p) (fun i _ => R.length - (intOf i).toNat)
      case atStart => exact ⟨0, Nat.zero_le _, rfl, rfl, HBEL.out.alloc HBEL.out.size _, HBE1.out.alloc HBE1.out.size _, by simp, by simp, by simp⟩
      case round =>
        obtain ⟨l, hl, rfl, hall, hbel, hbe1, hpa⟩ := hrel
        have HALL2 := Lib.hid hall
        have HBEL2 := Lib.hid hbel
        have HBE12 := Lib.hid hbe1
        have HPA := Lib.hid hpa
        clear hall hbel hbe1 hpa HBEL HBE1
        by_cases hlt2 : l < R.length
        · obtain ⟨bb2, off2, e2, hbz2, k1, k2⟩ := HR3.out.at hlt2 (Nat.le_refl _) HBE12.out
          have hqin := KR.out _ (getD_mem R l (0, 0) hlt2)
          have hst := HALL2.out.step hlt2 (0, 0)
          have hhit := any_hit (f := toldQ a b p) hlt2 (0, 0)
          generalize R.getD l (0, 0) = y at *
          have HST2 := Lib.hid hst
          have HHIT2 := Lib.hid hhit
          have HQIN := Lib.hid hqin
          obtain ⟨rfl, rfl⟩ : bb2 = bb ∧ off2 = off := by simpa using e2.symm
          clear hst hhit hqin e2
          obtain ⟨m1, m2, m3⟩ := HPA.out
          cases hpy : plEq p y with
          | true =>
            have hno : toldQ a b p y = false := by rw [toldQ, show (p == y) = plEq p y from rfl, hpy]; rfl
            have HNX := Lib.hid (HST2.out.1 hno)
            have HB3 := Lib.hid (HBEL2.out.alloc HBEL2.out.size (.cells #[.int .i64 y.1, .int .i64 y.2] 26))
            have HE3 := Lib.hid (HBE12.out.alloc HBE12.out.size (.cells #[.int .i64 y.1, .int .i64 y.2] 26))
            have HP3 := Lib.hid (HPA.out.below (Nat.le_refl _) ((Below.refl _ wr).alloc (Nat.le_refl _) (.cells #[.int .i64 y.1, .int .i64 y.2] 26)))
            clear hno
            go_wp2
            go_roundw
            case rel => exact ⟨l + 1, hlt2, by go_num, HNX.out, HB3.out, HE3.out, HP3.out⟩
            case measure => simp [intOf]; omega
          | false =>
            have ht : toldQ a b p y = toldS a b p y := by rw [toldQ, show (p == y) = plEq p y from rfl, hpy]; rfl
            have HP3 := Lib.hid (HPA.out.below (Nat.le_refl _) ((Below.refl _ wr).alloc (Nat.le_refl _) (.cells #[.int .i64 y.1, .int .i64 y.2] 26)))
            have HB3 := Lib.hid (HBEL2.out.alloc HBEL2.out.size (.cells #[.int .i64 y.1, .int .i64 y.2] 26))
            have HE3 := Lib.hid (HBE12.out.alloc HBE12.out.size (.cells #[.int .i64 y.1, .int .i64 y.2] 26))
            obtain ⟨⟨i1, i2⟩, i3, i4⟩ := HPIN.out
            obtain ⟨⟨j1, j2⟩, j3, j4⟩ := HQIN.out
            obtain ⟨dx, hdx⟩ : ∃ dx, y.1 - p.1 = dx := ⟨_, rfl⟩
            obtain ⟨dy, hdy⟩ : ∃ dy, y.2 - p.2 = dy := ⟨_, rfl⟩
            have HDX := Lib.hid hdx
            have HDY := Lib.hid hdy
            have hdx6 : -6 ≤ dx ∧ dx ≤ 6 := by omega
            have hdy6 : -6 ≤ dy ∧ dy ≤ 6 := by omega
            have w1' : IntKind.i64.wrap (y.1 - p.1) = dx := by rw [IntWalk.i64_in _ ⟨by omega, by omega⟩, hdx]
            have w2' : IntKind.i64.wrap (y.2 - p.2) = dy := by rw [IntWalk.i64_in _ ⟨by omega, by omega⟩, hdy]
            have HW1 := Lib.hid w1'
            have HW2 := Lib.hid w2'
            clear hdx hdy w1' w2' i1 i2 i3 i4 j1 j2 j3 j4
            go_wp2
            have w1' := HW1.out
            have w2' := HW2.out
            go_quiet (fail)
            clear w1' w2'
            go_wp2
            obtain ⟨wy, hwy⟩ : ∃ wy : World, wy = wr := ⟨_, rfl⟩
            go_loopw [56] (fun i wr => ∃ j : Nat, j ≤ 4 ∧ i = .int .i64 j ∧ AllNo (fun s => toldD a b (dirOf dx dy s)) signsL j ∧ Below w.heap.size w wr ∧ Below w1.heap.size w1 wr ∧ PlaceAt wr wo.heap.size p) (fun i _ => 4 - (intOf i).toNat)
            case atStart => exact ⟨0, Nat.zero_le _, rfl, rfl, below_drewN HB3.out _, below_drewN HE3.out _, HP3.out.below (Nat.le_refl _) (below_drewN (Below.refl _ _) _)⟩
            case round =>
              obtain ⟨j, hj, rfl, hall, hbel, hbe1, hpa⟩ := hrel
              have HALL3 := Lib.hid hall
              have HBEL3 := Lib.hid hbel
              have HBE13 := Lib.hid hbe1
              have HPA3 := Lib.hid hpa
              clear hall hbel hbe1 hpa
              by_cases hj4 : j < 4
              · have hix := idx171 j hj4
                obtain ⟨hs0, hs1⟩ := signs_one j hj4
                have hst3 := HALL3.out.step (show j < signsL.length from hj4) (0, 0)
                have hhit3 := any_hit (f := fun s => toldD a b (dirOf dx dy s)) (show j < signsL.length from hj4) (0, 0)
                generalize signsL.getD j (0, 0) = s at *
                obtain ⟨s0, s1⟩ := s
                dsimp only at hix hs0 hs1 hst3 hhit3
                have HIX := Lib.hid hix
                obtain ⟨m1, hm1⟩ : ∃ m1, -300 * dy = m1 := ⟨_, rfl⟩
                obtain ⟨m2, hm2⟩ : ∃ m2, m1 * s0 = m2 := ⟨_, rfl⟩
                obtain ⟨m3, hm3⟩ : ∃ m3, dx * s1 = m3 := ⟨_, rfl⟩
                obtain ⟨m4, hm4⟩ : ∃ m4, 300 * dx = m4 := ⟨_, rfl⟩
                obtain ⟨m5, hm5⟩ : ∃ m5, m4 * s0 = m5 := ⟨_, rfl⟩
                obtain ⟨m6, hm6⟩ : ∃ m6, dy * s1 = m6 := ⟨_, rfl⟩
                obtain ⟨u, hu⟩ : ∃ u, m2 + m3 = u := ⟨_, rfl⟩
                obtain ⟨v, hv⟩ : ∃ v, m5 + m6 = v := ⟨_, rfl⟩
                have hb2 := one_mul_bd (x := m1) (b := 1800) hs0 (by omega)
                have hb3 := one_mul_bd (x := dx) (b := 6) hs1 (by omega)
                have hb5 := one_mul_bd (x := m4) (b := 1800) hs0 (by omega)
                have hb6 := one_mul_bd (x := dy) (b := 6) hs1 (by omega)
                rw [hm2] at hb2
                rw [hm3] at hb3
                rw [hm5] at hb5
                rw [hm6] at hb6
                have hdir : dirOf dx dy (s0, s1) = (u, v) := by
                  simp only [dirOf]
                  rw [hm1, hm2, hm3, hm4, hm5, hm6, hu, hv]
                rw [hdir] at hst3 hhit3
                have HST3 := Lib.hid hst3
                have HHIT3 := Lib.hid hhit3
                have hub : -1806 ≤ u ∧ u ≤ 1806 := by omega
                have hvb : -1806 ≤ v ∧ v ≤ 1806 := by omega
                have E1 := Lib.hid (show IntKind.i64.wrap (-300 * dy) = m1 by rw [IntWalk.i64_in _ ⟨by omega, by omega⟩, hm1])
                have E2 := Lib.hid (show IntKind.i64.wrap (m1 * s0) = m2 by rw [hm2, IntWalk.i64_in _ ⟨by omega, by omega⟩])
                have E3 := Lib.hid (show IntKind.i64.wrap (dx * s1) = m3 by rw [hm3, IntWalk.i64_in _ ⟨by omega, by omega⟩])
                have E4 := Lib.hid (show IntKind.i64.wrap (300 * dx) = m4 by rw [IntWalk.i64_in _ ⟨by omega, by omega⟩, hm4])
                have E5 := Lib.hid (show IntKind.i64.wrap (m4 * s0) = m5 by rw [hm5, IntWalk.i64_in _ ⟨by omega, by omega⟩])
                have E6 := Lib.hid (show IntKind.i64.wrap (dy * s1) = m6 by rw [hm6, IntWalk.i64_in _ ⟨by omega, by omega⟩])
                have E7 := Lib.hid (show IntKind.i64.wrap (m2 + m3) = u by rw [IntWalk.i64_in _ ⟨by omega, by omega⟩, hu])
                have E8 := Lib.hid (show IntKind.i64.wrap (m5 + m6) = v by rw [IntWalk.i64_in _ ⟨by omega, by omega⟩, hv])
                clear hix hst3 hhit3 hm1 hm2 hm3 hm4 hm5 hm6 hu hv hb2 hb3 hb5 hb6 hdir hs0 hs1
                have hix := HIX.out
                go_upto_region 13 with fail
                clear hix
                have e1 := E1.out
                have e2 := E2.out
                have e3 := E3.out
                have e4 := E4.out
                have e5 := E5.out
                have e6 := E6.out
                have e7 := E7.out
                have e8 := E8.out
                go_quiet (fail)
                clear e1 e2 e3 e4 e5 e6 e7 e8
                have X1 := Lib.hid (HBEL3.out.alloc HBEL3.out.size (.cells #[.int .i64 s0, .int .i64 s1] 170))
                have X2 := Lib.hid (HBE13.out.alloc HBE13.out.size (.cells #[.int .i64 s0, .int .i64 s1] 170))
                have X3 := Lib.hid (HPA3.out.below (Nat.le_refl _) ((Below.refl _ wr).alloc (Nat.le_refl _) (.cells #[.int .i64 s0, .int .i64 s1] 170)))
                obtain ⟨wz, hwz⟩ : ∃ wz : World, wz = wr := ⟨_, rfl⟩
                go_wp2
                go_loopw [16, 81] (fun m i wr => ∃ c : Nat, c ≤ a.length ∧ i = .int .i64 c ∧ m = .int .i64 (mxF (u, v) (a.take c)) ∧ Below w.heap.size w wr ∧ Below w1.heap.size w1 wr ∧ PlaceAt wr wo.heap.size p) (fun _ i _ => a.length - (intOf i).toNat)
                case atStart => exact ⟨0, Nat.zero_le _, rfl, rfl, below_drewN X1.out _, below_drewN X2.out _, X3.out.below (Nat.le_refl _) (below_drewN (Below.refl _ _) _)⟩
                case round =>
                  obtain ⟨c, hc, rfl, rfl, hbel, hbe1, hpa⟩ := hrel
                  have Y1 := Lib.hid hbel
                  have Y2 := Lib.hid hbe1
                  have Y3 := Lib.hid hpa
                  clear hbel hbe1 hpa
                  by_cases hca : c < a.length
                  · obtain ⟨bb3, off3, rfl, hbz3, r1, r2⟩ := HA.out.at hca (Nat.le_refl _) Y1.out
                    have hin := KA.out _ (getD_mem a c (0, 0) hca)
                    have hmx := mxF_succ (u, v) a c hca
                    generalize a.getD c (0, 0) = z at *
                    obtain ⟨z1, z2⟩ := z
                    obtain ⟨⟨g3, g4⟩, g5, g6⟩ := hin
                    dsimp only at hmx g3 g4 g5 g6 r1 r2
                    have n1 := mul_small (a := 1806) (b := 6) (x := u) (y := z1) ⟨by omega, by omega⟩ ⟨by omega, by omega⟩
                    have n2 := mul_small (a := 1806) (b := 6) (x := v) (y := z2) ⟨by omega, by omega⟩ ⟨by omega, by omega⟩
                    obtain ⟨n11, n12⟩ := n1
                    obtain ⟨n21, n22⟩ := n2
                    obtain ⟨t1, ht1⟩ : ∃ t1, u * z1 = t1 := ⟨_, rfl⟩
                    obtain ⟨t2, ht2⟩ : ∃ t2, v * z2 = t2 := ⟨_, rfl⟩
                    obtain ⟨t3, ht3⟩ : ∃ t3, t1 + t2 = t3 := ⟨_, rfl⟩
                    rw [ht1] at n11 n12 hmx
                    rw [ht2] at n21 n22 hmx
                    rw [ht3] at hmx
                    have f1 : IntKind.i64.wrap (u * z1) = t1 := by rw [ht1, IntWalk.i64_in _ ⟨by omega, by omega⟩]
                    have f2 : IntKind.i64.wrap (v * z2) = t2 := by rw [ht2, IntWalk.i64_in _ ⟨by omega, by omega⟩]
                    have f3 : IntKind.i64.wrap (t1 + t2) = t3 := by rw [ht3, IntWalk.i64_in _ ⟨by omega, by omega⟩]
                    have HMX := Lib.hid hmx
                    have Z1 := Lib.hid (Y1.out.alloc Y1.out.size (.cells #[.int .i64 z1, .int .i64 z2] 26))
                    have Z2 := Lib.hid (Y2.out.alloc Y2.out.size (.cells #[.int .i64 z1, .int .i64 z2] 26))
                    have Z3 := Lib.hid (Y3.out.below (Nat.le_refl _) ((Below.refl _ wr).alloc (Nat.le_refl _) (.cells #[.int .i64 z1, .int .i64 z2] 26)))
                    clear hmx ht1 ht2 ht3 n11 n12 n21 n22
                    go_wp2
                    go_roundw
                    case rel => exact ⟨c + 1, hca, by go_num, by rw [HMX.out], Z1.out, Z2.out, Z3.out⟩
                    case measure => simp [intOf]; omega
                  · obtain rfl : c = a.length := by omega
                    rw [List.take_length]
                    obtain ⟨wq, hwq⟩ : ∃ wq : World, wq = wr := ⟨_, rfl⟩
                    go_wp2
                    go_loopw [17, 99] (fun m i wr => ∃ c : Nat, c ≤ b.length ∧ i = .int .i64 c ∧ m = .int .i64 (mnF (u, v) (b.take c)) ∧ Below w.heap.size w wr ∧ Below w1.heap.size w1 wr ∧ PlaceAt wr wo.heap.size p) (fun _ i _ => b.length - (intOf i).toNat)
                    case atStart => exact ⟨0, Nat.zero_le _, rfl, rfl, Y1.out, Y2.out, Y3.out⟩
                    case round =>
                      clear Y1 Y2 Y3
                      obtain ⟨c, hc, rfl, rfl, hbel, hbe1, hpa⟩ := hrel
                      have Y1 := Lib.hid hbel
                      have Y2 := Lib.hid hbe1
                      have Y3 := Lib.hid hpa
                      clear hbel hbe1 hpa
                      by_cases hcb : c < b.length
                      · obtain ⟨bb3, off3, rfl, hbz3, r1, r2⟩ := HB.out.at hcb (Nat.le_refl _) Y1.out
                        have hin := KB.out _ (getD_mem b c (0, 0) hcb)
                        have hmx := mnF_succ (u, v) b c hcb
                        generalize b.getD c (0, 0) = z at *
                        obtain ⟨z1, z2⟩ := z
                        obtain ⟨⟨g3, g4⟩, g5, g6⟩ := hin
                        dsimp only at hmx g3 g4 g5 g6 r1 r2
                        have n1 := mul_small (a := 1806) (b := 6) (x := u) (y := z1) ⟨by omega, by omega⟩ ⟨by omega, by omega⟩
                        have n2 := mul_small (a := 1806) (b := 6) (x := v) (y := z2) ⟨by omega, by omega⟩ ⟨by omega, by omega⟩
                        obtain ⟨n11, n12⟩ := n1
                        obtain ⟨n21, n22⟩ := n2
                        obtain ⟨t1, ht1⟩ : ∃ t1, u * z1 = t1 := ⟨_, rfl⟩
                        obtain ⟨t2, ht2⟩ : ∃ t2, v * z2 = t2 := ⟨_, rfl⟩
                        obtain ⟨t3, ht3⟩ : ∃ t3, t1 + t2 = t3 := ⟨_, rfl⟩
                        rw [ht1] at n11 n12 hmx
                        rw [ht2] at n21 n22 hmx
                        rw [ht3] at hmx
                        have f1 : IntKind.i64.wrap (u * z1) = t1 := by rw [ht1, IntWalk.i64_in _ ⟨by omega, by omega⟩]
                        have f2 : IntKind.i64.wrap (v * z2) = t2 := by rw [ht2, IntWalk.i64_in _ ⟨by omega, by omega⟩]
                        have f3 : IntKind.i64.wrap (t1 + t2) = t3 := by rw [ht3, IntWalk.i64_in _ ⟨by omega, by omega⟩]
                        have HMX := Lib.hid hmx
                        have Z1 := Lib.hid (Y1.out.alloc Y1.out.size (.cells #[.int .i64 z1, .int .i64 z2] 26))
                        have Z2 := Lib.hid (Y2.out.alloc Y2.out.size (.cells #[.int .i64 z1, .int .i64 z2] 26))
                        have Z3 := Lib.hid (Y3.out.below (Nat.le_refl _) ((Below.refl _ wr).alloc (Nat.le_refl _) (.cells #[.int .i64 z1, .int .i64 z2] 26)))
                        clear hmx ht1 ht2 ht3 n11 n12 n21 n22
                        go_wp2
                        go_roundw
                        case rel => exact ⟨c + 1, hcb, by go_num, by rw [HMX.out], Z1.out, Z2.out, Z3.out⟩
                        case measure => simp [intOf]; omega
                      · obtain rfl : c = b.length := by omega
                        rw [List.take_length]
                        have htd : toldD a b (u, v) = decide (mxF (u, v) a < mnF (u, v) b) := rfl
                        have HTD := Lib.hid htd
                        clear htd
                        by_cases hlt3 : mxF (u, v) a < mnF (u, v) b
                        · have hd : toldD a b (u, v) = true := by rw [HTD.out]; exact decide_eq_true hlt3
                          have hs : toldS a b p y = true := by rw [toldS, HDX.out, HDY.out]; exact HHIT3.out hd
                          have hq : toldQ a b p y = true := by rw [ht]; exact hs
                          have hpp : toldP a b p = true := by rw [toldP, HRE.out]; exact HHIT2.out hq
                          have hres : toldB a b = true := by rw [toldB, HRE.out]; exact HHIT.out hpp
                          have HRES := Lib.hid hres
                          clear hd hs hq hpp hres
                          go_wp2
                          go_ret
                          exact ⟨ret_bool HRES.out.symm, Y1.out⟩
                        · have hd : toldD a b (u, v) = false := by rw [HTD.out]; exact decide_eq_false hlt3
                          have HN := Lib.hid (HST3.out.1 hd)
                          clear hd
                          go_wp2
                          go_roundw
                          case rel => exact ⟨j + 1, hj4, by go_num, HN.out, Y1.out, Y2.out, Y3.out⟩
                          case measure => simp [intOf]; omega
              · obtain rfl : j = 4 := by omega
                have hno : toldQ a b p y = false := by
                  rw [ht, toldS, HDX.out, HDY.out]
                  exact HALL3.out.none
                have HNX := Lib.hid (HST2.out.1 hno)
                clear hno
                go_wp2
                go_roundw
                case rel => exact ⟨l + 1, hlt2, by go_num, HNX.out, HBEL3.out, HBE13.out, HPA3.out⟩
                case measure => simp [intOf]; omega
        · obtain rfl : l = R.length := by omega
          have hres : toldP a b p = false := by rw [toldP, HRE.out]; exact HALL2.out.none
          have HNX := Lib.hid (HST.out.1 hres)
          clear hres
          go_wp2
          go_roundw
          case rel => exact ⟨k + 1, hlt, by go_num, HNX.out, HBEL2.out, HBE12.out⟩
          case measure => simp [intOf]; omega
    · obtain rfl : k = R.length := by omega
      have hres : toldB a b = false := by rw [toldB, HRE.out]; exact HALL.out.none
      have HRES := Lib.hid hres
      clear hres
      go_wp2
      go_ret
      exact ⟨ret_bool HRES.out.symm, HBEL.out⟩
end Go.Proofs.Ytcalipoknbbaaaa
