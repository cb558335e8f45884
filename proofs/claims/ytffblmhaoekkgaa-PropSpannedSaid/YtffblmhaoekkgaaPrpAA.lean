/- Chapter 7, the walks: a copy of stones, stones compared, Know. -/
import Derived.Test.YtffblmhaoekkgaaPrpU
import Derived.Test.YtffblmhaoekkgaaPrpZ
import Derived.Lib.SliceRun
import Derived.Deep.CutRange
namespace Go.Proofs.Ytffblmhaoekkgaa.prp
open Go.RowKit
set_option linter.unusedSimpArgs false
set_option linter.unusedVariables false

/-- appending a whole list of stones to a list of the call's own -/
theorem app_stones (w : World) {ops : Array Oper} {rest : List Oper} {o : Oper} {a : Act} {Q : Exit → Act → World → Prop} (hgd : o.guard = none) (s x : Operand)
    (ho : o.op = .call { callee := .builtin .append, args := #[s, x], argTypes := #[27, 27] }) (base : Nat) (v : Value) (xs : List Sn) (hs : a.eval s = v)
    (hown : w.ownsRow base 44 4 v 0 []) (ad : Addr) (c : Nat) (hx : a.eval x = .slice (some ad) xs.length c) (hr : RowV w (some ad) (flatS xs))
    (hl : xs.length ≤ 1000) (hbase : base ≤ w.heap.size)
    (h : ∀ v' w', w'.ownsRow base 44 4 v' xs.length (flatS xs) → w.grownBy w' v.ownBlock → wpList Try.prog ops Q rest (a.put o.dst v') w') :
    wpList Try.prog ops Q (o :: rest) a w := by
  obtain ⟨i0, hi, hz0, hz1, hz2⟩ := info_parts infoS
  refine wpList_append_own w hgd s x 27 ho base 44 i0 _ 4 32 Try.underlying27 hi hz0 hz1 hz2 rfl (by decide) v 0 [] hs hown ad xs.length c (flatS xs) hx (by rw [flatS_length]) ?_ ?_ (by unfold maxLen; omega) (by omega) hbase ?_
  · intro j u hj
    rcases hr with h0 | ⟨b, off, e, _, hc⟩
    · rw [h0] at hj; simp at hj
    · simp only [Option.some.injEq] at e
      subst e
      rw [addr_add_off]
      exact hc j u hj
  · intro u hu
    unfold flatS at hu
    obtain ⟨x, _, hx⟩ := List.mem_flatMap.1 hu
    simp only [List.mem_cons, List.not_mem_nil, or_false] at hx
    rcases hx with rfl | rfl | rfl | rfl <;> rfl
  · intro v' w' h1 h2 _
    refine h v' w' ?_ h2
    rw [Nat.zero_add, List.nil_append] at h1
    exact h1
theorem eqNilS (w : World) (a : Option Addr) (n c : Nat) : (binOp .eql 27 (.slice a n c) (.slice none 0 0)).run Try.prog w = .ok (.bool a.isNone) w := Lib.run_eql_slice_nil w 27 44 a n c 0 0 Try.underlying27
attribute [local go_sem] eqNilS
/-- a new list of stones, which may be written -/
def OwnS (w : World) (base g cap : Nat) (l : List Sn) : Prop := w.ownsRow base 44 4 (.slice (some ⟨g, 0, none⟩) l.length cap) l.length (flatS l)
theorem OwnS.below {w w' : World} {base g cap : Nat} {l : List Sn} (h : OwnS w base g cap l) {N : Nat} (hN : w.heap.size ≤ N) (hb : Below N w w') : OwnS w' base g cap l := owns_below h hN hb
theorem OwnS.lt {w : World} {base g cap : Nat} {l : List Sn} (h : OwnS w base g cap l) : base ≤ g ∧ g < w.heap.size := World.ownsRow.lt h g rfl
theorem OwnS.row {w : World} {base g cap : Nat} {l : List Sn} (h : OwnS w base g cap l) : RowV w (some ⟨g, 0, none⟩) (flatS l) := by
  obtain ⟨q, c, e, hr, _, _⟩ := rowV_of_owns h (fun h0 => by rw [List.length_eq_zero_iff.1 h0]; rfl)
  injection e with e1 e2 e3
  subst e1
  exact hr
theorem OwnS.caple {w : World} {base g cap : Nat} {l : List Sn} (h : OwnS w base g cap l) : l.length ≤ cap := by
  obtain ⟨_, ⟨e, _⟩ | ⟨g', cap', cur, e, _, _, hc, _⟩⟩ := h
  · cases e
  · injection e with _ _ e
    omega
theorem flatS_set : ∀ (l : List Sn) (k : Nat) (s : Sn), k < l.length → (((((flatS l).set (k * 4) (.int .i64 s.half)).set (k * 4 + 1) (.int .i64 s.at_)).set (k * 4 + 2) (.int .i64 s.least)).set (k * 4 + 3) (.int .i64 s.most)) = flatS (l.set k s)
  | [], k, s, h => by simp at h
  | g :: l, 0, s, _ => by simp [flatS]
  | g :: l, k + 1, s, h => by
    have ih := flatS_set l k s (by simpa using h)
    have e : ∀ (g : Sn) l, flatS (g :: l) = .int .i64 g.half :: .int .i64 g.at_ :: .int .i64 g.least :: .int .i64 g.most :: flatS l := by simp [flatS]
    rw [List.set_cons_succ, e, e, ← ih, show (k + 1) * 4 = k * 4 + 1 + 1 + 1 + 1 from by omega]
    rfl
theorem flatS_bounds (l : List Sn) (k : Nat) (a b : Int) (hk : k < l.length) : ((flatS l).set (k * 4 + 2) (.int .i64 a)).set (k * 4 + 3) (.int .i64 b) = flatS (l.set k ⟨(l.getD k zs).half, (l.getD k zs).at_, a, b⟩) := by
  rw [← flatS_set l k _ hk]
  obtain ⟨g0, g1, _, _⟩ := flatS_get l k hk
  have e0 : (flatS l).set (k * 4) (.int .i64 (l.getD k zs).half) = flatS l := by
    have hlt : k * 4 < (flatS l).length := by rw [flatS_length]; omega
    have := List.getElem?_eq_getElem hlt
    rw [this] at g0
    injection g0 with g0
    rw [← g0, List.set_getElem_self]
  have e1 : (flatS l).set (k * 4 + 1) (.int .i64 (l.getD k zs).at_) = flatS l := by
    have hlt : k * 4 + 1 < (flatS l).length := by rw [flatS_length]; omega
    have := List.getElem?_eq_getElem hlt
    rw [this] at g1
    injection g1 with g1
    rw [← g1, List.set_getElem_self]
  simp only [e0, e1]
/-- other bounds for a stone -/
def narS (l : List Sn) (k : Nat) (a b : Int) : List Sn := l.set k ⟨(l.getD k zs).half, (l.getD k zs).at_, a, b⟩
theorem narS_length (l : List Sn) (k : Nat) (a b : Int) : (narS l k a b).length = l.length := by simp [narS]
/-- the two stores of bounds -/
theorem OwnS.bounds {w : World} {base g cap : Nat} {l : List Sn} (h : OwnS w base g cap l) (k : Nat) (hk : k < l.length) (a b : Int) :
    OwnS ((w.setCell ⟨g, k * 4 + 2, none⟩ (.int .i64 a)).setCell ⟨g, k * 4 + 3, none⟩ (.int .i64 b)) base g cap (narS l k a b) ∧ Below base w ((w.setCell ⟨g, k * 4 + 2, none⟩ (.int .i64 a)).setCell ⟨g, k * 4 + 3, none⟩ (.int .i64 b)) := by
  have h0 := h.lt
  have h1 := World.ownsRow.stored h (k * 4 + 2) (.int .i64 a)
  have h2 := World.ownsRow.stored h1.1 (k * 4 + 3) (.int .i64 b)
  refine ⟨?_, ((Below.refl _ _).setCell (p := ⟨g, k * 4 + 2, none⟩) h0.1 _).setCell (p := ⟨g, k * 4 + 3, none⟩) h0.1 _⟩
  unfold OwnS
  rw [narS_length, narS, ← flatS_bounds l k a b hk]
  exact h2.1
set_option maxRecDepth 100000 in
theorem cloneS_any (q : Option Addr) (c : Nat) (l : List Sn) (w : World) (hr : RowV w q (flatS l)) (h0 : 1 ≤ l.length) (hl : l.length ≤ 1000) :
    Calls Try.prog 36 #[.slice q l.length c] w fun e w' => ∃ g cap, e = .returned (.slice (some ⟨g, 0, none⟩) l.length cap) ∧ OwnS w' w.heap.size g cap l ∧ Below w.heap.size w w' := by
  obtain ⟨b, off, rfl, hb, hc⟩ := hr.here (k := 0) (by rw [flatS_length]; omega)
  have hb0 : Below w.heap.size w (w.alloc (.cells #[] 44)) := (Below.refl _ _).alloc (Nat.le_refl _) _
  have hr' := hr.below (Nat.le_refl _) hb0
  have hown : (w.alloc (.cells #[] 44)).ownsRow w.heap.size 44 4 (.slice (some ⟨w.heap.size, 0, none⟩) 0 0) 0 [] :=
    World.ownsRow_made (base := w.heap.size) (e := 44) (size := 4) w #[] 0 (Nat.le_refl _) (by decide) rfl
  have HR := Lib.hid hr'
  have HO := Lib.hid hown
  have HB := Lib.hid hb0
  clear hr hr' hown hb0 hc
  go_enter Try.func36, Try.ntmps36
  go_wp2_with (at_builtin; refine app_stones _ rfl (.tmp 5) (.tmp 6) rfl w.heap.size _ l rfl HO.out ⟨b, off, none⟩ c rfl HR.out hl (by simp) ?_; intro v' w' hown' hgrow)
  have hb := grown_below HO.out (by simp) hgrow
  obtain ⟨g, cap, rfl⟩ : ∃ g cap, v' = .slice (some ⟨g, 0, none⟩) l.length cap := by
    obtain ⟨_, ⟨_, e⟩ | ⟨g, cap, cur, e, _⟩⟩ := hown'
    · omega
    · exact ⟨g, cap, e⟩
  go_ret
  exact ⟨g, cap, rfl, hown', HB.out.trans hb⟩
set_option maxRecDepth 100000 in
set_option maxHeartbeats 4000000 in
/-- two lists of the same stones -/
theorem stones_any (q q2 : Option Addr) (c c2 : Nat) (l : List Sn) (w : World) (hr : RowV w q (flatS l)) (hr2 : RowV w q2 (flatS l)) (hl : l.length ≤ 1000) :
    Calls Try.prog 38 #[.slice q l.length c, .slice q2 l.length c2] w fun e w' => e = .returned (.bool true) ∧ Below w.heap.size w w' := by
  go_enter Try.func38, Try.ntmps38
  go_wp2
  go_loopw [5] (fun i wr => ∃ k : Nat, k ≤ l.length ∧ i = .int .i64 k ∧ Below w.heap.size w wr) (fun i _ => l.length - (intOf i).toNat)
  case atStart => exact ⟨0, Nat.zero_le _, rfl, Below.refl _ _⟩
  case round =>
    obtain ⟨k, hk, rfl, hbel⟩ := hrel
    by_cases hlt : k < l.length
    · obtain ⟨b, off, rfl, hb, h1, h2, h3, h4⟩ := rowS_at hr hlt (Nat.le_refl _) hbel
      obtain ⟨b', off', rfl, hb', g1, g2, g3, g4⟩ := rowS_at hr2 hlt (Nat.le_refl _) hbel
      have hki : (k : Int) < (l.length : Int) := by omega
      have hbd : Below w.heap.size w wr.drew := hbel.drew
      generalize l.getD k zs = s at *
      have d1 : wr.drew.cell? ⟨b, off + k * 4, none⟩ = some (.int .i64 s.half) := h1
      have d2 : wr.drew.cell? ⟨b, off + k * 4 + 1, none⟩ = some (.int .i64 s.at_) := h2
      have d3 : wr.drew.cell? ⟨b, off + k * 4 + 2, none⟩ = some (.int .i64 s.least) := h3
      have d4 : wr.drew.cell? ⟨b, off + k * 4 + 3, none⟩ = some (.int .i64 s.most) := h4
      have e1 : wr.drew.cell? ⟨b', off' + k * 4, none⟩ = some (.int .i64 s.half) := g1
      have e2 : wr.drew.cell? ⟨b', off' + k * 4 + 1, none⟩ = some (.int .i64 s.at_) := g2
      have e3 : wr.drew.cell? ⟨b', off' + k * 4 + 2, none⟩ = some (.int .i64 s.least) := g3
      have e4 : wr.drew.cell? ⟨b', off' + k * 4 + 3, none⟩ = some (.int .i64 s.most) := g4
      go_upto_region 6 with fail
      go_region
      go_wp2
      go_roundw
      case rel => exact ⟨k + 1, hlt, by go_num, hbd⟩
      case measure => simp [intOf]; omega
    · obtain rfl : k = l.length := by omega
      go_wp2
      go_ret
      exact ⟨rfl, hbel⟩
set_option maxRecDepth 100000 in
set_option maxHeartbeats 4000000 in
/-- Know: what is refused -/
theorem Know_no (q : Option Addr) (c : Nat) (l : List Sn) (k : Nat) (a b : Int) (w : World) (hr : RowV w q (flatS l)) (hE : errP l = 0) (hk : k < l.length) (hno : b < a ∨ (a ≤ b ∧ (a < (l.getD k zs).least ∨ (l.getD k zs).most < b))) :
    Calls Try.prog 37 #[.slice q l.length c, .int .i64 k, .int .i64 a, .int .i64 b] w fun e w' => e = .returned (.tuple #[.slice none 0 0, .int .i64 (if b < a then 7 else 1)]) ∧ Below w.heap.size w w' := by
  obtain ⟨_, h5, hok⟩ := errP_ok hE
  have hpl : placeErr l k = 0 := by rw [place_of hE, if_neg (by omega)]
  have hcp := checkPlace_any q c l k w hr (by omega)
  rw [hpl] at hcp
  have HCP := Lib.hid hcp
  have hat := fun W (hb : Below w.heap.size w W) => rowS_at hr hk (Nat.le_refl _) hb
  generalize l.getD k zs = s at hat hno
  have HAT := Lib.hid hat
  clear hcp hpl hE hr hok hat
  rcases hno with h | ⟨h, h'⟩
  · rw [if_pos h]
    have HH := Lib.hid h
    go_enter Try.func37, Try.ntmps37
    go_wp2_with (go_at_call 60; refine HCP.out.mono ?_; rintro e W1 ⟨rfl, hb1⟩)
    go_ret2
    exact ⟨rfl, hb1⟩
  · rw [if_neg (by omega)]
    have hn : ¬ b < a := by omega
    by_cases h1 : a < s.least
    · clear h'
      go_enter Try.func37, Try.ntmps37
      go_upto_region 2 with (go_at_call 60; refine HCP.out.mono ?_; rintro e W1 ⟨rfl, hb1⟩)
      obtain ⟨b', off', rfl, hb', g1, g2, g3, g4⟩ := HAT.out _ hb1
      go_wp2
      go_ret2
      exact ⟨rfl, hb1⟩
    · have h2 : s.most < b := by omega
      clear h'
      go_enter Try.func37, Try.ntmps37
      go_upto_region 2 with (go_at_call 60; refine HCP.out.mono ?_; rintro e W1 ⟨rfl, hb1⟩)
      obtain ⟨b', off', rfl, hb', g1, g2, g3, g4⟩ := HAT.out _ hb1
      go_wp2
      go_ret2
      exact ⟨rfl, hb1⟩
set_option maxRecDepth 100000 in
set_option maxHeartbeats 4000000 in
theorem Know_ok (q : Option Addr) (c : Nat) (l : List Sn) (k : Nat) (a b : Int) (w : World) (hr : RowV w q (flatS l)) (hE : errP l = 0) (hk : k < l.length) (h1 : a ≤ b) (h2 : (l.getD k zs).least ≤ a) (h3 : b ≤ (l.getD k zs).most) :
    Calls Try.prog 37 #[.slice q l.length c, .int .i64 k, .int .i64 a, .int .i64 b] w fun e w' => ∃ q' c', e = .returned (.tuple #[.slice q' l.length c', .int .i64 0]) ∧ RowV w' q' (flatS (narS l k a b)) ∧ Below w.heap.size w w' := by
  obtain ⟨_, h5, hok⟩ := errP_ok hE
  have hpl : placeErr l k = 0 := by rw [place_of hE, if_neg (by omega)]
  have hcp := checkPlace_any q c l k w hr (by omega)
  rw [hpl] at hcp
  have HCP := Lib.hid hcp
  have hat := fun W (hb : Below w.heap.size w W) => rowS_at hr hk (Nat.le_refl _) hb
  have HCL := Lib.hid (fun W (hb : Below w.heap.size w W) => cloneS_any q c l W (hr.below (Nat.le_refl _) hb) (by omega) (by omega))
  generalize hs : l.getD k zs = s at hat h2 h3
  have HAT := Lib.hid hat
  clear hcp hpl hE hr hok hat hs
  have n1 : ¬ b < a := by omega
  have n2 : ¬ a < s.least := by omega
  have n3 : ¬ s.most < b := by omega
  have hk5 : (k : Int) < 5 := by omega
  go_enter Try.func37, Try.ntmps37
  go_upto_region 2 with (go_at_call 60; refine HCP.out.mono ?_; rintro e W1 ⟨rfl, hb1⟩)
  obtain ⟨b', off', rfl, hb', g1, g2, g3, g4⟩ := HAT.out _ hb1
  go_upto_region 9 with (go_at_call 36; refine (HCL.out _ hb1).mono ?_; rintro e W2 ⟨g, cap, rfl, hown, hb2⟩)
  have hlt := hown.lt
  have hce2 := World.ownsRow.cellAt hown (k * 4 + 2) (by omega)
  have hce3 := World.ownsRow.cellAt hown (k * 4 + 3) (by omega)
  obtain ⟨_, _, f2, f3⟩ := flatS_get l k hk
  rw [f2] at hce2
  rw [f3] at hce3
  have hfz2 := World.ownsRow.frozenAt hown (k * 4 + 2)
  have hfz3 := World.ownsRow.frozenAt hown (k * 4 + 3)
  have hbo := hown.bounds k hk a b
  have HBO := Lib.hid hbo
  have hcl := hown.caple
  clear hbo hown f2 f3 g1 g2 g3 g4
  go_wp2
  go_ret2
  exact ⟨_, _, rfl, HBO.out.1.row, (hb1.on hb2).trans (HBO.out.2.mono hb1.size)⟩
end Go.Proofs.Ytffblmhaoekkgaa.prp
