/- slices.Clone at ints and galleries; slices.Index and slices.Contains at places. -/
import Derived.Test.YtcalipoknbbaaaaConcat
import Derived.Lib.SliceRun
import Derived.Test.YtcalipoknbbaaaaSeamp
import Derived.Test.YtcalipoknbbaaaaLaw2
import Derived.BigQuiet
namespace Go.Proofs.Ytcalipoknbbaaaa
open Go.RowKit
set_option linter.unusedSimpArgs false
set_option linter.unusedVariables false

/-- a list of the call's own -/
def OwnI (w : World) (xs : List Int) (e : Ending) (w' : World) : Prop := ∃ v, e = .returned v ∧ w'.ownsRow w.heap.size 3 1 v xs.length (flatI xs) ∧ Below w.heap.size w w'
def OwnG (w : World) (gs : List Gl) (e : Ending) (w' : World) : Prop := ∃ v, e = .returned v ∧ w'.ownsRow w.heap.size 28 3 v gs.length (flatG gs) ∧ Below w.heap.size w w'


/-- appending a whole list of ints to a list of the call's own -/
theorem app_ints (w : World) {ops : Array Oper} {rest : List Oper} {o : Oper} {a : Act} {Q : Exit → Act → World → Prop} (hgd : o.guard = none) (s x : Operand)
    (ho : o.op = .call { callee := .builtin .append, args := #[s, x], argTypes := #[57, 57] }) (base : Nat) (v : Value) (ys xs : List Int) (hs : a.eval s = v)
    (hown : w.ownsRow base 3 1 v ys.length (flatI ys)) (ad : Addr) (c : Nat) (hx : a.eval x = .slice (some ad) xs.length c) (hr : RowI w (some ad) xs)
    (hl : ys.length + xs.length ≤ 1000000) (hbase : base ≤ w.heap.size)
    (h : ∀ v' w', w'.ownsRow base 3 1 v' (ys ++ xs).length (flatI (ys ++ xs)) → w.grownBy w' v.ownBlock → wpList Try.prog ops Q rest (a.put o.dst v') w') :
    wpList Try.prog ops Q (o :: rest) a w := by
  obtain ⟨i0, hi, hz0, hz1, hz2⟩ := info_parts info3
  have happ : flatI (ys ++ xs) = flatI ys ++ flatI xs := by simp [flatI]
  refine wpList_append_own w hgd s x 57 ho base 3 i0 _ 1 8 Try.underlying57 hi hz0 hz1 hz2 rfl (by decide) v ys.length (flatI ys) hs hown ad xs.length c (flatI xs) hx (by rw [flatI_length]; omega) ?_ ?_ (by unfold maxLen; omega) (by omega) hbase ?_
  · intro j u hj
    have hjl : j < xs.length := by rw [← flatI_length xs]; exact (List.getElem?_eq_some_iff.1 hj).1
    rcases hr with h0 | ⟨b, off, e, _, hc⟩
    · subst h0; simp at hjl
    · simp only [Option.some.injEq] at e
      subst e
      rw [addr_add_off, hc j hjl, ← flatI_get xs j hjl]
      exact hj
  · intro u hu
    unfold flatI at hu
    obtain ⟨x, _, rfl⟩ := List.mem_map.1 hu
    rfl
  · intro v' w' h1 h2 _
    refine h v' w' ?_ h2
    rw [happ, List.length_append]
    exact h1

theorem eqNil57 (w : World) (a : Option Addr) (n c : Nat) : (binOp .eql 57 (.slice a n c) (.slice none 0 0)).run Try.prog w = .ok (.bool a.isNone) w := Lib.run_eql_slice_nil w 57 3 a n c 0 0 Try.underlying57
theorem eqNil22 (w : World) (a : Option Addr) (n c : Nat) : (binOp .eql 22 (.slice a n c) (.slice none 0 0)).run Try.prog w = .ok (.bool a.isNone) w := Lib.run_eql_slice_nil w 22 28 a n c 0 0 Try.underlying22
attribute [local go_sem] eqNil57 eqNil22

set_option maxRecDepth 100000 in
set_option maxHeartbeats 400000 in
theorem cloneI_any (q : Option Addr) (c : Nat) (xs : List Int) (w : World) (hr : RowI w q xs) (hq : q = none → c = 0) (hl : xs.length ≤ 1000) :
    Calls Try.prog 70 #[.slice q xs.length c] w (OwnI w xs) := by
  cases q with
  | none =>
    have hx0 : xs = [] := by
      rcases hr with h0 | ⟨b, off, e, _⟩
      · exact h0
      · cases e
    subst hx0
    have hc := hq rfl
    subst hc
    clear hq hr
    go_enter Try.func70, Try.ntmps70
    go_wp2
    go_ret
    exact ⟨_, rfl, World.ownsRow_nil _ _ _ _, Below.refl _ _⟩
  | some ad =>
    have hb0 : Below w.heap.size w (w.alloc (.cells #[] 3)) := (Below.refl _ _).alloc (Nat.le_refl _) _
    have hr' := hr.below (Nat.le_refl _) hb0
    have hown : (w.alloc (.cells #[] 3)).ownsRow w.heap.size 3 1 (.slice (some ⟨w.heap.size, 0, none⟩) 0 0) ([] : List Int).length (flatI []) :=
      World.ownsRow_made (base := w.heap.size) (e := 3) (size := 1) w #[] 0 (Nat.le_refl _) (by decide) rfl
    have HR := Lib.hid hr'
    have HO := Lib.hid hown
    have HB := Lib.hid hb0
    clear hr hr' hown hb0 hq
    go_enter Try.func70, Try.ntmps70
    go_wp2_with (at_builtin; refine app_ints _ rfl (.tmp 5) (.tmp 6) rfl w.heap.size _ [] xs rfl HO.out ad c rfl HR.out (by simp; omega) (by simp) ?_; intro v' w' hown' hgrow)
    have hb := grown_below HO.out (by simp) hgrow
    go_ret
    exact ⟨v', rfl, hown', HB.out.trans hb⟩

set_option maxRecDepth 100000 in
set_option maxHeartbeats 400000 in
theorem cloneG_any (q : Option Addr) (c : Nat) (gs : List Gl) (w : World) (hr : RowG w q gs) (hq : q = none → c = 0) (hl : gs.length ≤ 1000) :
    Calls Try.prog 76 #[.slice q gs.length c] w (OwnG w gs) := by
  cases q with
  | none =>
    have hx0 : gs = [] := by
      rcases hr with h0 | ⟨b, off, e, _⟩
      · exact h0
      · cases e
    subst hx0
    have hc := hq rfl
    subst hc
    clear hq hr
    go_enter Try.func76, Try.ntmps76
    go_wp2
    go_ret
    exact ⟨_, rfl, World.ownsRow_nil _ _ _ _, Below.refl _ _⟩
  | some ad =>
    have hb0 : Below w.heap.size w (w.alloc (.cells #[] 28)) := (Below.refl _ _).alloc (Nat.le_refl _) _
    have hr' := hr.below (Nat.le_refl _) hb0
    have hown : (w.alloc (.cells #[] 28)).ownsRow w.heap.size 28 3 (.slice (some ⟨w.heap.size, 0, none⟩) 0 0) ([] : List Gl).length (flatG []) :=
      World.ownsRow_made (base := w.heap.size) (e := 28) (size := 3) w #[] 0 (Nat.le_refl _) (by decide) rfl
    have HR := Lib.hid hr'
    have HO := Lib.hid hown
    have HB := Lib.hid hb0
    clear hr hr' hown hb0 hq
    go_enter Try.func76, Try.ntmps76
    go_wp2_with (at_builtin; refine app_gals _ rfl (.tmp 5) (.tmp 6) rfl w.heap.size _ [] gs rfl HO.out (some ad) c rfl (by intro h; cases h) HR.out (by simp; omega) (by simp) ?_; intro v' w' hown' hgrow)
    have hb := grown_below HO.out (by simp) hgrow
    go_ret
    exact ⟨v', rfl, hown', HB.out.trans hb⟩
end Go.Proofs.Ytcalipoknbbaaaa
namespace Go.Proofs.Ytcalipoknbbaaaa
open Go.RowKit
set_option linter.unusedSimpArgs false
set_option linter.unusedVariables false
attribute [local go_sem] equal26 guard26

set_option maxRecDepth 100000 in
set_option maxHeartbeats 400000 in
theorem indexPl_any (p : Pl) (q : Option Addr) (cap : Nat) (ps : List Pl) (w : World) (hr : RowP w q ps) (hl : ps.length ≤ 1000000) :
    Calls Try.prog 136 #[.slice q ps.length cap, .agg #[.int .i64 p.1, .int .i64 p.2]] w fun e w' => e = .returned (.int .i64 (firstIdx (fun y => p == y) ps)) ∧ Below w.heap.size w w' := by
  have H1 := Lib.hid hr
  clear hr
  have HB := Lib.hid (show Below w.heap.size w (w.alloc (.cells #[.int .i64 p.1, .int .i64 p.2] 26)) from (Below.refl _ _).alloc (Nat.le_refl _) _)
  obtain ⟨px, py⟩ := p
  go_enter Try.func136, Try.ntmps136
  go_wp2
  go_loopw [8] (fun i wr => ∃ k : Nat, k ≤ ps.length ∧ i = .int .i64 k ∧ AllNo (fun y => (px, py) == y) ps k ∧ wr.cell? ⟨w.heap.size, 0, none⟩ = some (.int .i64 px) ∧ wr.cell? ⟨w.heap.size, 1, none⟩ = some (.int .i64 py) ∧ Below w.heap.size w wr) (fun i _ => ps.length - (intOf i).toNat)
  case atStart => exact ⟨0, Nat.zero_le _, rfl, rfl, by simp, by simp, HB.out⟩
  case round =>
    obtain ⟨k, hk, rfl, hall, a1, a2, hbel⟩ := hrel
    by_cases hlt : k < ps.length
    · obtain ⟨b, off, rfl, hb, h1, h2⟩ := H1.out.at hlt (Nat.le_refl _) hbel
      have hst := hall.step hlt (0, 0)
      have HS := Lib.hid hst
      clear hst hall
      generalize ps.getD k (0, 0) = y at h1 h2 HS
      have A1 := Lib.hid a1
      have A2 := Lib.hid a2
      by_cases hx1 : px = y.1
      · by_cases hx2 : py = y.2
        · have HE := Lib.hid (show ((px, py) == y) = true from beq_iff_eq.2 (Prod.ext hx1 hx2))
          go_wp2
          go_quiet (fail)
          go_wp2
          go_ret
          exact ⟨ret_int (HS.out.2 HE.out).symm, below_drewN hbel _⟩
        · have HE := Lib.hid (show ((px, py) == y) = false from beq_eq_false_iff_ne.2 fun e => hx2 (by rw [← e]))
          go_wp2
          go_quiet (fail)
          go_wp2
          go_roundw
          case rel => exact ⟨k + 1, hlt, by go_num, HS.out.1 HE.out, by simpa using A1.out, by simpa using A2.out, below_drewN hbel _⟩
          case measure => simp [intOf]; omega
      · have HE := Lib.hid (show ((px, py) == y) = false from beq_eq_false_iff_ne.2 fun e => hx1 (by rw [← e]))
        go_wp2
        go_quiet (fail)
        go_wp2
        go_roundw
        case rel => exact ⟨k + 1, hlt, by go_num, HS.out.1 HE.out, by simpa using A1.out, by simpa using A2.out, below_drewN hbel _⟩
        case measure => simp [intOf]; omega
    · obtain rfl : k = ps.length := by omega
      go_wp2
      go_ret
      exact ⟨ret_int hall.all.symm, hbel⟩

set_option maxHeartbeats 400000 in
theorem containsPl_any (p : Pl) (q : Option Addr) (cap : Nat) (ps : List Pl) (w : World) (hr : RowP w q ps) (hl : ps.length ≤ 1000000) :
    Calls Try.prog 77 #[.slice q ps.length cap, .agg #[.int .i64 p.1, .int .i64 p.2]] w fun e w' => e = .returned (.bool (hasP ps p)) ∧ Below w.heap.size w w' := by
  have hb0 : Below w.heap.size w (w.alloc (.cells #[.int .i64 p.1, .int .i64 p.2] 26)) := (Below.refl _ _).alloc (Nat.le_refl _) _
  have hr' := hr.below (Nat.le_refl _) hb0
  have HR := Lib.hid hr'
  have HB := Lib.hid hb0
  clear hr hr' hb0
  go_enter Try.func77, Try.ntmps77
  go_wp2_with (go_at_call 136; refine (indexPl_any p q cap ps _ HR.out hl).mono ?_; rintro e w' ⟨rfl, hb⟩)
  go_ret
  exact ⟨ret_bool (firstIdx_any _ _), al0 HB.out hb (by simp)⟩
end Go.Proofs.Ytcalipoknbbaaaa
