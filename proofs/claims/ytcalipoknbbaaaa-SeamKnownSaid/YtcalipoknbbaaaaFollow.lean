/- The walks of slices.Backward (at ints) and of follow (package seam): the next list of indices. -/
import Derived.Test.YtcalipoknbbaaaaDepth
namespace Go.Proofs.Ytcalipoknbbaaaa
open Go.RowKit Go.Shelf

attribute [local go_sem] Oper.semAt_some

/-- the last k places of a list, from the end on, each with its number -/
def revTo (is : List Int) (k : Nat) : List (Int × Int) := (List.range k).map fun j : Nat => ((is.length : Int) - 1 - j, is.getD (is.length - 1 - j) 0)
def revL (is : List Int) : List (Int × Int) := revTo is is.length
theorem revTo_succ (is : List Int) (k : Nat) : revTo is (k + 1) = revTo is k ++ [((is.length : Int) - 1 - k, is.getD (is.length - 1 - k) 0)] := by simp [revTo, List.range_succ]
theorem revTo_length (is : List Int) (k : Nat) : (revTo is k).length = k := by simp [revTo]
theorem revTo_prefix (is : List Int) {k : Nat} (hk : k ≤ is.length) : revTo is k <+: revL is := by
  have h : ∀ d, revTo is k <+: revTo is (k + d) := by
    intro d
    induction d with
    | zero => exact List.prefix_refl _
    | succ d ih => exact ih.trans (by rw [← Nat.add_assoc, revTo_succ]; exact List.prefix_append _ _)
  have := h (is.length - k)
  rwa [show k + (is.length - k) = is.length from by omega] at this

/-- a place of a list, with its number -/
def IsAt (is : List Int) (x : Int × Int) : Prop := ∃ j : Nat, j < is.length ∧ x = ((j : Int), is.getD j 0)

set_option maxRecDepth 100000 in
set_option maxHeartbeats 4000000 in
theorem backward1_in (F : Fence) (n : Nat) (h6 : F.fn 174) (hro : F.round = none) (hn : 1 ≤ n) (is : List Int) (l Bs g cap : Nat) (hl : is.length ≤ 1000000) (J Jx : List (Int × Int) → World → Prop)
    (hY : ∀ (pre : List (Int × Int)) (x : Int × Int) (W : World), J pre W → pre.length < is.length → IsAt is x → YieldAt F (n - 1) Try.prog l #[.int .i64 x.1, .int .i64 x.2] W fun e W' =>
      (e = .returned (.bool true) ∧ J (pre ++ [x]) W' ∧ KeepB [Bs, g] W W') ∨ (e = .returned (.bool false) ∧ Jx (pre ++ [x]) W'))
    (W : World) (hBs : W.cell? ⟨Bs, 0, none⟩ = some (.slice (some ⟨g, 0, none⟩) is.length cap)) (hr : RowI W (some ⟨g, 0, none⟩) is) (h0 : J [] W) :
    CallsIn F n Try.prog 174 #[.func (.yield l) #[] #[], .pointer (some ⟨Bs, 0, none⟩)] W fun e W' => (∃ v, e = .returned v) ∧
      ((∃ ys, ys = revL is ∧ J ys W') ∨ (∃ pre, pre <+: revL is ∧ Jx pre W')) := by
  refine callsIn_of_wp Try.func174 rfl h6 ?_ hro
  simp only [Try.ntmps174, List.size_toArray, List.length_cons, List.length_nil, Nat.reduceAdd, Nat.reduceSub, Array.replicate_succ, Array.replicate_zero, List.push_toArray, List.append_toArray, List.nil_append, List.cons_append]
  gi_wp2
  gi_loopw [3] (fun p wr => ∃ k : Nat, k ≤ is.length ∧ p = .int .i64 ((is.length : Int) - 1 - k) ∧ J (revTo is k) wr ∧ KeepB [Bs, g] W wr) (fun p _ => (intOf p + 1).toNat)
  case atStart => exact ⟨0, Nat.zero_le _, by go_num, h0, fun _ _ => rfl⟩
  case round =>
    obtain ⟨k, hk, rfl, hJ, hkb⟩ := hrel
    have hb1 := (hkb.cell (o := 0) (B := Bs) (by simp)).trans hBs
    by_cases hlt : k < is.length
    · have hci : wr.cell? ⟨g, is.length - 1 - k, none⟩ = some (.int .i64 (is.getD (is.length - 1 - k) 0)) := by
        rcases hr with h | ⟨b, off, e, _, hc⟩
        · rw [h] at hlt; simp at hlt
        · simp only [Option.some.injEq, Addr.mk.injEq] at e
          obtain ⟨rfl, rfl, _⟩ := e
          have := hc (is.length - 1 - k) (by omega)
          rw [Nat.zero_add] at this
          exact (hkb.cell (B := g) (by simp)).trans this
      have hsu := revTo_succ is k
      have hpr := revTo_prefix is (k := k + 1) (by omega)
      have hat : IsAt is ((is.length : Int) - 1 - k, is.getD (is.length - 1 - k) 0) := ⟨is.length - 1 - k, by omega, by congr 1; omega⟩
      obtain ⟨i, hi⟩ : ∃ i : Nat, is.length - 1 - k = i := ⟨_, rfl⟩
      have hi2 : (is.length : Int) - 1 - k = i := by omega
      rw [hi2, hi] at hsu hat
      rw [hi] at hci
      rw [hi2]
      have hlt3 : i < is.length := by omega
      have hik : i + k + 1 = is.length := by omega
      generalize is.getD i 0 = x at hci hsu hat
      obtain ⟨fn, tmps, assign, body, hy, hR⟩ := hY _ ((i : Int), x) wr hJ (by rw [revTo_length]; exact hlt) hat
      dsimp only at hy
      have HSU := Lib.hid hsu
      have HPR := Lib.hid hpr
      have HIK := Lib.hid hik
      clear hsu hpr hi hi2 hik
      gi_wp2
      refine hR.mono ?_
      rintro e W3 (⟨rfl, hJ3, hk3⟩ | ⟨rfl, hJx3⟩)
      · gi_wp2
        go_roundw
        case rel =>
          have hik := HIK.out
          refine ⟨k + 1, ?_, ?_, by rw [HSU.out]; exact hJ3, keepB_t hkb hk3⟩
          · omega
          · rw [show ((is.length : Int) - 1 - ((k + 1 : Nat) : Int)) = (i : Int) - 1 from by omega]
        case measure => simp [intOf] <;> omega
      · gi_wp2
        refine bodyPost_ret (results_none rfl _ _ _) rfl ?_
        exact ⟨⟨_, rfl⟩, .inr ⟨_, by rw [← HSU.out]; exact HPR.out, hJx3⟩⟩
    · obtain rfl : k = is.length := by omega
      gi_wp2
      go_end0
      exact ⟨⟨_, rfl⟩, .inl ⟨_, rfl, hJ⟩⟩

theorem backward_in (F : Fence) (n : Nat) (h5 : F.fn 165) (hro : F.round = none) (a : Option Addr) (len cap : Nat) (w : World) :
    CallsIn F n Try.prog 165 #[.slice a len cap] w fun e w' => e = .returned (.func (.func 174) #[] #[.pointer (some ⟨w.heap.size, 0, none⟩)]) ∧ w' = w.alloc (.cells #[.slice a len cap] 57) := by
  refine callsIn_of_wp Try.func165 rfl h5 ?_ hro
  simp only [Try.ntmps165, List.size_toArray, List.length_cons, List.length_nil, Nat.reduceAdd, Nat.reduceSub, Array.replicate_succ, Array.replicate_zero, List.push_toArray, List.append_toArray, List.nil_append, List.cons_append]
  gi_wp2
  go_ret
  exact ⟨rfl, rfl⟩

theorem backward_stops (F : Fence) (n : Nat) (h6 : F.fn 174) (hro : F.round = none) (hn : 1 ≤ n) (is : List Int) (Bs g cap : Nat) (hl : is.length ≤ 1000000) (w : World) (hBs : Bs < w.heap.size)
    (hc : w.cell? ⟨Bs, 0, none⟩ = some (.slice (some ⟨g, 0, none⟩) is.length cap)) (hr : RowI w (some ⟨g, 0, none⟩) is) :
    SeqStopsK F n Try.prog 174 #[.pointer (some ⟨Bs, 0, none⟩)] (fun x : { x : Int × Int // IsAt is x } => #[Value.int .i64 x.1.1, Value.int .i64 x.1.2]) (KeepB [Bs, g]) (fun ys => ys.map (·.1) = revL is) (fun pre => pre.map (·.1) <+: revL is) is.length w :=
  fun l J Jx W hW _ _ hY h0 => by
    have hc' := (hW.cell (p := ⟨Bs, 0, none⟩) hBs).trans hc
    refine (backward1_in F n h6 hro hn is l Bs g cap hl (fun pre W => ∃ pre' : List { x : Int × Int // IsAt is x }, pre'.map (·.1) = pre ∧ J pre' W) (fun pre W => ∃ pre' : List { x : Int × Int // IsAt is x }, pre'.map (·.1) = pre ∧ Jx pre' W) ?_ W hc' (hr.below (Nat.le_refl _) hW) ⟨[], rfl, h0⟩).mono ?_
    · rintro pre x W1 ⟨pre', rfl, hJ⟩ hlen hx
      obtain ⟨fn, tmps, assign, body, hy, hR⟩ := hY pre' ⟨x, hx⟩ W1 hJ (by simpa using hlen)
      refine ⟨fn, tmps, assign, body, hy, hR.mono ?_⟩
      rintro e W' (⟨rfl, hJ', hk⟩ | ⟨rfl, hJx⟩)
      · exact .inl ⟨rfl, ⟨_, by simp, hJ'⟩, hk⟩
      · exact .inr ⟨rfl, _, by simp, hJx⟩
    · rintro e W' ⟨he, ⟨ys, rfl, ys', h1, h2⟩ | ⟨pre, hp, pre', rfl, h2⟩⟩
      · exact ⟨he, .inl ⟨ys', h1, h2⟩⟩
      · exact ⟨he, .inr ⟨pre', hp, h2⟩⟩
/-- the numbers from place i on: one more than that of place i, and on -/
def bumpTo (is : List Int) (i : Nat) : Nat → List Int
  | 0 => is
  | k + 1 => (bumpTo is i k).set (i + k) (is.getD i 0 + 1 + k)
def bump (is : List Int) (i : Nat) : List Int := bumpTo is i (is.length - i)
theorem bumpTo_length (is : List Int) (i : Nat) : ∀ k, (bumpTo is i k).length = is.length
  | 0 => rfl
  | k + 1 => by rw [bumpTo, List.length_set, bumpTo_length is i k]
/-- may this place be raised? -/
def mayRise (L : Int) (n : Nat) (x : Int × Int) : Bool := decide (x.2 < L - n + x.1)
/-- the next list of indices below a limit -/
def nextI (L : Int) (is : List Int) : Option (List Int) := ((revL is).find? (mayRise L is.length)).map fun x => bump is x.1.toNat

theorem flatI_set (xs : List Int) (j : Nat) (v : Int) : (flatI xs).set j (.int .i64 v) = flatI (xs.set j v) := by simp [flatI, List.map_set]
theorem flatI_length (xs : List Int) : (flatI xs).length = xs.length := by simp [flatI]

/-- no place of these may be raised -/
def NoneRises (L : Int) (is : List Int) (pre : List { x : Int × Int // IsAt is x }) : Prop := pre.all (fun s => !mayRise L is.length s.1) = true

theorem nextI_hit {L : Int} {is : List Int} {ini : List { x : Int × Int // IsAt is x }} {s : { x : Int × Int // IsAt is x }} (hp : (ini ++ [s]).map (·.1) <+: revL is) (h1 : NoneRises L is ini)
    (h2 : mayRise L is.length s.1 = true) : nextI L is = some (bump is s.1.1.toNat) := by
  obtain ⟨r, hr⟩ := hp
  unfold nextI
  rw [← hr, List.map_append, List.append_assoc, List.find?_append, List.find?_eq_none.2 (by
    intro x hx
    obtain ⟨y, hy, rfl⟩ := List.mem_map.1 hx
    have := List.all_eq_true.1 h1 y hy
    simpa using this)]
  simp [h2]
theorem nextI_miss {L : Int} {is : List Int} {ys : List { x : Int × Int // IsAt is x }} (hp : ys.map (·.1) = revL is) (h1 : NoneRises L is ys) : nextI L is = none := by
  unfold nextI
  rw [← hp, List.find?_eq_none.2 (by
    intro x hx
    obtain ⟨y, hy, rfl⟩ := List.mem_map.1 hx
    have := List.all_eq_true.1 h1 y hy
    simpa using this)]
  rfl

/-- what the walk of follow owns: the boxes of the list, of the limit, of the result -/
structure FolOwn (W : World) (B : Nat) (v1 : Value) (L : Int) (t : Bool) : Prop where
  b1 : W.heap[B]? = some (.cells #[v1] 57 (0, 0))
  b2 : W.heap[B + 1]? = some (.cells #[.int .i64 L] 3 (0, 0))
  t : W.heap[B + 1 + 1]? = some (.cells #[.bool t] 4 (0, 0))
  bx : W.heap[B + 1 + 1 + 1]? = some (.cells #[v1] 57 (0, 0))

theorem FolOwn.kept {W W' : World} {B : Nat} {v1 : Value} {L : Int} {t : Bool} {row : Option Nat} (h : FolOwn W B v1 L t) (hg : W.grownBy W' row) (hr : ∀ r, row = some r → ∃ o : Obj, W.heap[r]? = some o ∧ o.isCells = false) : FolOwn W' B v1 L t :=
  ⟨(grownBy_keeps_cells hg hr h.b1 rfl).trans h.b1, (grownBy_keeps_cells hg hr h.b2 rfl).trans h.b2, (grownBy_keeps_cells hg hr h.t rfl).trans h.t, (grownBy_keeps_cells hg hr h.bx rfl).trans h.bx⟩
theorem FolOwn.cells {W : World} {B : Nat} {v1 : Value} {L : Int} {t : Bool} (h : FolOwn W B v1 L t) :
    W.cell? ⟨B, 0, none⟩ = some v1 ∧ W.cell? ⟨B + 1, 0, none⟩ = some (.int .i64 L) ∧ W.cell? ⟨B + 1 + 1, 0, none⟩ = some (.bool t) ∧ W.frozen? ⟨B + 1 + 1, 0, none⟩ = false :=
  ⟨by rw [cell_of_row W B 0 _ _ _ h.b1]; rfl, by rw [cell_of_row W (B + 1) 0 _ _ _ h.b2]; rfl, by rw [cell_of_row W (B + 1 + 1) 0 _ _ _ h.t]; rfl, frozen_of_row W (B + 1 + 1) 0 _ _ h.t⟩
/-- another block turns -/
theorem FolOwn.other {W W' : World} {B : Nat} {v1 : Value} {L : Int} {t : Bool} (h : FolOwn W B v1 L t) {g : Nat} (hg : W.grownBy W' (some g)) (hgB : g < B) : FolOwn W' B v1 L t :=
  have o := fun {k : Nat} {o : Obj} (e : W.heap[k]? = some o) (hk : B ≤ k) => (hg.block k (Array.getElem?_eq_some_iff.1 e).1 (by intro e'; injection e' with e'; omega)).trans e
  ⟨o h.b1 (by omega), o h.b2 (by omega), o h.t (by omega), o h.bx (by omega)⟩
theorem FolOwn.set {W : World} {B : Nat} {v1 : Value} {L : Int} {t : Bool} (h : FolOwn W B v1 L t) (t' : Bool) : FolOwn (W.setCell ⟨B + 1 + 1, 0, none⟩ (.bool t')) B v1 L t' := by
  obtain ⟨h1, h2, h3, h4⟩ := h
  have o := fun (W : World) (k c : Nat) (u : Value) (j : Nat) (hj : j ≠ k) => heap_setCell_other W ⟨k, c, none⟩ j u hj
  refine ⟨?_, ?_, ?_, ?_⟩
  · rw [o _ _ _ _ _ (by omega)]; exact h1
  · rw [o _ _ _ _ _ (by omega)]; exact h2
  · exact heap_setCell_same _ _ 0 #[.bool t] _ _ h3
  · rw [o _ _ _ _ _ (by omega)]; exact h4

theorem grown_trans {w W W' : World} {g : Nat} (h : w.grownBy W (some g)) (k : W.grownBy W' (some g)) : w.grownBy W' (some g) :=
  ⟨k.os.trans h.os, k.tape.trans h.tape, k.output.trans h.output, Nat.le_trans h.size k.size, fun i hi hne => (k.block i (Nat.lt_of_lt_of_le hi h.size) hne).trans (h.block i hi hne)⟩
theorem grown_of_below {w W : World} (h : Below w.heap.size w W) (row : Option Nat) : w.grownBy W row := ⟨h.os, h.tape, h.output, h.size, fun i hi _ => h.block i hi⟩
theorem grown_far {w W W' : World} {g : Nat} {row : Option Nat} (h : w.grownBy W (some g)) (k : W.grownBy W' row) (hr : ∀ r, row = some r → w.heap.size ≤ r) : w.grownBy W' (some g) :=
  ⟨k.os.trans h.os, k.tape.trans h.tape, k.output.trans h.output, Nat.le_trans h.size k.size, fun i hi hne => (k.block i (Nat.lt_of_lt_of_le hi h.size) (by intro e; have := hr i e.symm; omega)).trans (h.block i hi hne)⟩
theorem owns_kept_cells {W W' : World} {base : Nat} {e : TypeId} {size : Nat} {v : Value} {n : Nat} {xs : List Value} {row : Option Nat} (h : W.ownsRow base e size v n xs) (hg : W.grownBy W' row)
    (hr : ∀ r, row = some r → ∃ o : Obj, W.heap[r]? = some o ∧ o.isCells = false) : W'.ownsRow base e size v n xs := by
  obtain ⟨h1, h2 | ⟨g, cap, cur, rfl, hb, hh, r⟩⟩ := h
  · exact ⟨h1, .inl h2⟩
  · exact ⟨h1, .inr ⟨g, cap, cur, rfl, hb, (grownBy_keeps_cells hg hr hh rfl).trans hh, r⟩⟩

/-- what follow leaves: whether there is a next list, and the list turned into it -/
def Followed (w : World) (base g cap : Nat) (L : Int) (is : List Int) (e : Ending) (w' : World) : Prop :=
  e = .returned (.bool (nextI L is).isSome) ∧ w.grownBy w' (some g) ∧ w'.ownsRow base 3 1 (.slice (some ⟨g, 0, none⟩) is.length cap) is.length (flatI ((nextI L is).getD is))

set_option maxRecDepth 100000 in
set_option maxHeartbeats 4000000 in
theorem follow_any (base g cap : Nat) (is : List Int) (L : Int) (w : World) (hown : w.ownsRow base 3 1 (.slice (some ⟨g, 0, none⟩) is.length cap) is.length (flatI is)) (hg : g < w.heap.size) (hL : small 1000000 L) (hx : ∀ x ∈ is, small 1000000 x) (hl : is.length ≤ 1000000) :
    Calls Try.prog 145 #[.slice (some ⟨g, 0, none⟩) is.length cap, .int .i64 L] w (Followed w base g cap L is) := by
  refine (callsIn_wide (n := 5)).1 ?_
  refine callsIn_of_wp_marks Try.func145 rfl trivial ?_ rfl
  simp only [Try.ntmps145, List.size_toArray, List.length_cons, List.length_nil, Nat.reduceAdd, Nat.reduceSub, Array.replicate_succ, Array.replicate_zero, List.push_toArray, List.append_toArray, List.nil_append, List.cons_append]
  gi_wp2_with (refine ⟨trivial, ?_⟩; gi_at_call 165; refine (backward_in Fence.wide 4 trivial rfl _ _ _ _).mono ?_; rintro e w' ⟨rfl, rfl⟩)
  obtain ⟨W0, hW0⟩ : ∃ W0, ((((w.alloc (Obj.cells #[Value.slice (some ⟨g, 0, none⟩) is.length cap] 57)).alloc (Obj.cells #[Value.int .i64 L] 3)).alloc
              (Obj.cells #[Value.bool false] 4)).alloc (Obj.cells #[Value.slice (some ⟨g, 0, none⟩) is.length cap] 57)) = W0 := ⟨_, rfl⟩
  have hsz : W0.heap.size = w.heap.size + 1 + 1 + 1 + 1 := by rw [← hW0]; simp
  have hbel : Below w.heap.size w W0 := by
    rw [← hW0]
    exact ((((Below.refl _ _).alloc (Nat.le_refl _) _).alloc (by simp) _).alloc (by simp; omega) _).alloc (by simp; omega) _
  have hfo : FolOwn W0 w.heap.size (.slice (some ⟨g, 0, none⟩) is.length cap) L false := by
    rw [← hW0]
    exact ⟨(by rw [heap_alloc_get, if_neg (by simp only [World.size_alloc]; omega)]; rw [heap_alloc_get, if_neg (by simp only [World.size_alloc]; omega)]; rw [heap_alloc_get, if_neg (by simp only [World.size_alloc]; omega)]; rw [heap_alloc_get, if_pos (by simp)]), (by rw [heap_alloc_get, if_neg (by simp only [World.size_alloc]; omega)]; rw [heap_alloc_get, if_neg (by simp only [World.size_alloc]; omega)]; rw [heap_alloc_get, if_pos (by simp)]), (by rw [heap_alloc_get, if_neg (by simp only [World.size_alloc]; omega)]; rw [heap_alloc_get, if_pos (by simp)]), (by rw [heap_alloc_get, if_pos (by simp)])⟩
  have hbox : W0.cell? ⟨w.heap.size + 1 + 1 + 1, 0, none⟩ = some (.slice (some ⟨g, 0, none⟩) is.length cap) := by rw [cell_of_row _ _ 0 _ _ _ hfo.bx]; rfl
  have hown0 := owns_below hown (Nat.le_refl _) hbel
  obtain ⟨q', cap', e', hri⟩ := rowI_of_owns hown0
  simp only [Value.slice.injEq, true_and] at e'
  obtain ⟨rfl, rfl⟩ := e'
  rw [hW0]
  have HSZ := Lib.hid hsz
  clear hW0 hsz
  refine wpIn_rangeFunc_ownG rfl (by decide) (gf := 174) (lb := #[.pointer (some ⟨w.heap.size + 1 + 1 + 1, 0, none⟩)]) rfl trivial (enters_of Try.func174 (by kernel_rfl) rfl)
    (backward_stops Fence.wide 4 trivial rfl (by decide) is (w.heap.size + 1 + 1 + 1) g cap hl W0 (by rw [HSZ.out]; omega) hbox hri) (fun h k => keepB_t h k) (keepB_b (by rw [HSZ.out]; simp; omega)) (Below.refl _ _) (fun _ => rfl)
    (fun (pre : List { x : Int × Int // IsAt is x }) W => ((FolOwn W w.heap.size (.slice (some ⟨g, 0, none⟩) is.length cap) L false ∧ W.ownsRow base 3 1 (.slice (some ⟨g, 0, none⟩) is.length cap) is.length (flatI is)) ∧ NoneRises L is pre) ∧ Below w.heap.size w W)
    (fun c (pre : List { x : Int × Int // IsAt is x }) W => (c = .ret ∧ ∃ (ini : List { x : Int × Int // IsAt is x }) (s : { x : Int × Int // IsAt is x }), pre = ini ++ [s] ∧ NoneRises L is ini ∧ mayRise L is.length s.1 = true ∧
      FolOwn W w.heap.size (.slice (some ⟨g, 0, none⟩) is.length cap) L true ∧ W.ownsRow base 3 1 (.slice (some ⟨g, 0, none⟩) is.length cap) is.length (flatI (bump is s.1.1.toNat))) ∧ w.grownBy W (some g))
    (OwnFrom.and (Own.from (fun s A B row hs hg hr => ⟨⟨hs.1.1.kept hg hr, owns_kept_cells hs.1.2 hg hr⟩, hs.2⟩) _) (ownFrom_below (Nat.le_refl _) (by rw [HSZ.out]; omega)))
    (fun c => OwnFrom.and (Own.from (fun s A B row hs hg hr => by obtain ⟨e0, ini, t, e1, e2, e3, e4, e5⟩ := hs; exact ⟨e0, ini, t, e1, e2, e3, e4.kept hg hr, owns_kept_cells e5 hg hr⟩) _)
      (fun s A B row hs hg hr => grown_far hs hg (fun r e => by have := (hr r e).1; rw [HSZ.out] at this; omega)))
    ⟨⟨⟨hfo, hown0⟩, rfl⟩, hbel⟩
    (fun x => { tmps := #[.slice (some ⟨g, 0, none⟩) is.length cap, .int .i64 L, .pointer (some ⟨w.heap.size, 0, none⟩), .pointer (some ⟨w.heap.size + 1, 0, none⟩), .pointer (some ⟨w.heap.size + 1 + 1, 0, none⟩), .int .i64 x.1.1, .int .i64 x.1.2, undef, .slice (some ⟨g, 0, none⟩) is.length cap, .func (.func 174) #[] #[.pointer (some ⟨w.heap.size + 1 + 1 + 1, 0, none⟩)], .int .i64 x.1.1, .int .i64 x.1.2, undef, undef, undef, undef, undef, undef, undef, undef, undef, undef, undef, undef, undef, undef, undef, undef, undef, undef, undef, undef, undef, undef, undef, undef], defers := [] }) ?assign ?body ?done ?stop
  case assign =>
    intro l x W K hK
    gi_wp2
    exact hK
  case body =>
    rintro l pre ⟨⟨i, v⟩, hat⟩ W ⟨⟨⟨hfo, hown⟩, hall⟩, hbel⟩ hlen
    have hat' := hat
    obtain ⟨j, hj, e⟩ := hat'
    simp only [Prod.mk.injEq] at e
    obtain ⟨rfl, hv⟩ := e
    obtain ⟨hc1, hc2, hc3, hf3⟩ := hfo.cells
    have hz3 : w.heap.size + 1 + 1 + 1 < W.heap.size := (Array.getElem?_eq_some_iff.1 hfo.bx).1
    have hvs := hx _ (getD_mem is j 0 hj)
    rw [← hv] at hvs
    obtain ⟨hv1, hv2⟩ := hvs
    obtain ⟨hL1, hL2⟩ := hL
    dsimp only at *
    have HO := Lib.hid hown
    have HF := Lib.hid hfo
    have HALL := Lib.hid hall
    have HV := Lib.hid hv
    clear hown hfo hall hlen hbox hown0 hri hv hx
    by_cases hm : v < L - (is.length : Int) + j
    · have hmr : mayRise L is.length ((j : Int), v) = true := by unfold mayRise; simpa using hm
      have HMR := Lib.hid hmr
      clear hmr
      gi_wp2
      gi_loopw [7] (fun p wr => ∃ k : Nat, j + k ≤ is.length ∧ p = .int .i64 ((j : Int) + k) ∧ wr.ownsRow base 3 1 (.slice (some ⟨g, 0, none⟩) is.length cap) is.length (flatI (bumpTo is j k)) ∧ W.grownBy wr (some g)) (fun p _ => is.length - (intOf p).toNat)
      case atStart => exact ⟨0, by omega, by go_num, HO.out, ⟨rfl, rfl, rfl, Nat.le_refl _, fun _ _ _ => rfl⟩⟩
      case round =>
        obtain ⟨k, hk, rfl, hrow, hgr⟩ := hrel
        have hf' := HF.out.other hgr hg
        obtain ⟨k1, k2, k3, k4⟩ := hf'.cells
        by_cases hlt : j + k < is.length
        · have hce := hrow.cellAt (j + k) (by omega)
          rw [flatI_get _ _ (by rw [bumpTo_length]; exact hlt)] at hce
          have hfz := hrow.frozenAt (j + k)
          have hst := hrow.stored (j + k) (.int .i64 (v + 1 + k))
          have HR := Lib.hid hst
          have HG := Lib.hid hgr
          clear hst hrow hgr hf'
          gi_wp2
          go_roundw
          case rel =>
            refine ⟨k + 1, by omega, by go_num, ?_, grown_trans HG.out ?_⟩
            · rw [show v + 1 + ((j : Int) + k) - j = v + 1 + k from by omega]
              have h1 := HR.out.1
              rw [flatI_set] at h1
              rw [bumpTo, ← HV.out]
              exact h1
            · rw [show v + 1 + ((j : Int) + k) - j = v + 1 + k from by omega]
              exact HR.out.2
          case measure => simp [intOf] <;> omega
        · obtain rfl : k = is.length - j := by omega
          have HR := Lib.hid hrow
          have HG := Lib.hid hgr
          have HF2 := Lib.hid hf'
          clear hrow hgr hf'
          gi_wp2
          have hcell : ∀ (j' : Nat) (o : Obj), some g = some j' → W.heap[j']? = some o → o.isCells = true := by
            intro j' o e ho
            injection e with e
            subst e
            obtain ⟨_, ⟨h', _⟩ | ⟨g', cap', cur, h', _, hh, _⟩⟩ := HO.out
            · simp at h'
            · simp only [Value.slice.injEq, Option.some.injEq, Addr.mk.injEq, and_true, true_and] at h'
              obtain ⟨rfl, rfl⟩ := h'
              rw [hh] at ho
              injection ho with ho
              rw [← ho]; rfl
          refine ⟨((KeepsOthers.of_grownBy HG.out hcell).trans (KeepsOthers.setCell _ _ _)).from _, ⟨rfl, pre, _, rfl, HALL.out, HMR.out, HF2.out.set true, ?_⟩, ?_⟩
          · rw [show (j : Int).toNat = j from by simp]
            exact HR.out.kept (row := some (w.heap.size + 1 + 1)) ⟨rfl, rfl, rfl, by simp, fun k _ hk => heap_setCell_other wr _ k _ (by intro e; exact hk (by rw [e]))⟩ (.inr (by simp [Value.ownBlock]; omega))
          · exact grown_far (grown_trans (grown_of_below hbel _) HG.out) (row := some (w.heap.size + 1 + 1)) ⟨rfl, rfl, rfl, by simp, fun k _ hk => heap_setCell_other wr _ k _ (by intro e; exact hk (by rw [e]))⟩ (by intro r e; injection e with e; omega)
    · have hmr : mayRise L is.length ((j : Int), v) = false := by unfold mayRise; simpa using hm
      have HMR := Lib.hid hmr
      clear hmr
      gi_wp2
      refine ⟨KeepsFrom.refl _ _, fun _ _ => rfl, ⟨⟨HF.out, HO.out⟩, ?_⟩, hbel⟩
      have h1 := HALL.out
      unfold NoneRises at h1 ⊢
      rw [List.all_append, h1]
      simp [HMR.out]
  case done =>
    rintro D ys W hD hys ⟨⟨⟨hfo, hown⟩, hall⟩, hbel⟩ hK
    have hm := nextI_miss hys hall
    obtain ⟨k1, k2, k3, k4⟩ := hfo.cells
    have HM := Lib.hid hm
    have HO := Lib.hid hown
    have HF := Lib.hid hfo
    clear hm hys hall hown hfo hri hown0
    gi_wp2
    have hf1 := HF.out.set false
    have hK1 := (KeepsOthers.setCell W ⟨w.heap.size + 1 + 1, 0, none⟩ (.bool false)).same D _ hK rfl
    refine ⟨by simp, .inl ⟨_, _, rfl, run_takeDeferred hK1, ?_⟩⟩
    have hf2 := hf1.kept (grownBy_putObj' _ D (.deferred none)) (fun r e => by cases e; exact ⟨_, hK1, rfl⟩)
    have ho1 : (W.setCell ⟨w.heap.size + 1 + 1, 0, none⟩ (.bool false)).ownsRow base 3 1 (.slice (some ⟨g, 0, none⟩) is.length cap) is.length (flatI is) :=
      HO.out.kept (row := some (w.heap.size + 1 + 1)) ⟨rfl, rfl, rfl, by simp, fun k _ hk => heap_setCell_other W _ k _ (by intro e; exact hk (by rw [e]))⟩ (.inr (by simp [Value.ownBlock]; omega))
    have ho2 := owns_kept_cells ho1 (grownBy_putObj' _ D (.deferred none)) (fun r e => by cases e; exact ⟨_, hK1, rfl⟩)
    obtain ⟨m1, m2, m3, m4⟩ := hf2.cells
    refine ⟨.bool false, ?_, ?_⟩
    · simp [results, Try.f145, go_sem, m3]
    · refine ⟨by rw [HM.out]; rfl, grown_of_below ((hbel.setCell (by simp only; omega) _).trans (belowK_b (w := w) (Nat.le_refl _) _ D _ _ (by rw [HSZ.out] at hD; omega) hK1 rfl rfl)) _, by rw [HM.out]; exact ho2⟩
  case stop =>
    rintro D c pre W hD hpre ⟨⟨rfl, ini, s, rfl, h1, h2, hfo, hown⟩, hgr⟩ hK
    have hm := nextI_hit hpre h1 h2
    have HM := Lib.hid hm
    have HO := Lib.hid hown
    have HF := Lib.hid hfo
    have HG := Lib.hid hgr
    clear hm hpre h1 h2 hown hfo hri hown0 hgr
    gi_wp2
    refine ⟨by simp, .inl ⟨_, _, rfl, run_takeDeferred hK, ?_⟩⟩
    have hf2 := HF.out.kept (grownBy_putObj' _ D (.deferred none)) (fun r e => by cases e; exact ⟨_, hK, rfl⟩)
    have ho2 := owns_kept_cells HO.out (grownBy_putObj' _ D (.deferred none)) (fun r e => by cases e; exact ⟨_, hK, rfl⟩)
    obtain ⟨m1, m2, m3, m4⟩ := hf2.cells
    refine ⟨.bool true, ?_, ?_⟩
    · simp [results, Try.f145, go_sem, m3]
    · refine ⟨by rw [HM.out]; rfl, grown_far HG.out (grownBy_putObj' _ D (.deferred none)) (fun r e => by cases e; rw [HSZ.out] at hD; omega), by rw [HM.out]; exact ho2⟩
end Go.Proofs.Ytcalipoknbbaaaa
