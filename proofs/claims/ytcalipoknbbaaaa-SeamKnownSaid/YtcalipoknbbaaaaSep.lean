/- The walk of separate (package seam): the first slope with which two lists of places are told apart. -/
import Derived.Test.YtcalipoknbbaaaaIter
namespace Go.Proofs.Ytcalipoknbbaaaa
open Go.RowKit Go.Shelf

attribute [local go_sem] Oper.semAt_some

/-- the gallery that a closure of separate has captured -/
def GalAt (w : World) (B : Nat) (g : Gl) : Prop := w.heap[B]? = some (.cells #[.int .i64 g.1, .int .i64 g.2.1, .int .i64 g.2.2] 28 (0, 0))
theorem GalAt.lt {w : World} {B : Nat} {g : Gl} (h : GalAt w B g) : B < w.heap.size := (Array.getElem?_eq_some_iff.1 h).1
theorem GalAt.below {w w' : World} {B : Nat} {g : Gl} (h : GalAt w B g) {N : Nat} (hN : w.heap.size ≤ N) (hb : Below N w w') : GalAt w' B g := (hb.block B (Nat.lt_of_lt_of_le h.lt hN)).trans h
theorem GalAt.cells {w : World} {B : Nat} {g : Gl} (h : GalAt w B g) : w.cell? ⟨B, 0, none⟩ = some (.int .i64 g.1) ∧ w.cell? ⟨B, 1, none⟩ = some (.int .i64 g.2.1) ∧ w.cell? ⟨B, 2, none⟩ = some (.int .i64 g.2.2) ∧ (∀ o, w.frozen? ⟨B, o, none⟩ = false) :=
  ⟨by rw [cell_of_row w B 0 _ _ _ h]; rfl, by rw [cell_of_row w B 1 _ _ _ h]; rfl, by rw [cell_of_row w B 2 _ _ _ h]; rfl, fun o => frozen_of_row w B o _ _ h⟩
theorem GalAt.new (w : World) (g : Gl) : GalAt (w.alloc (.cells #[.int .i64 g.1, .int .i64 g.2.1, .int .i64 g.2.2] 28)) w.heap.size g := World.alloc_heap_new w _
theorem GalAt.set {w : World} {B : Nat} {g : Gl} (h : GalAt w B g) (c : Int) : GalAt (w.setCell ⟨B, 2, none⟩ (.int .i64 c)) B (g.1, g.2.1, c) := by
  have := heap_setCell_same w B 2 _ _ (.int .i64 c) h
  exact this

set_option maxHeartbeats 400000 in
theorem sepAgrees_any (B : Nat) (p : Pl) (g : Gl) (w : World) (hp : okP p) (hg : okG g) (hB : GalAt w B g) :
    Calls Try.prog 148 #[.agg #[.int .i64 p.1, .int .i64 p.2], .pointer (some ⟨B, 0, none⟩)] w fun e w' => e = .returned (.bool (agr g p)) ∧ Below w.heap.size w w' := by
  obtain ⟨h1, h2, h3, _⟩ := hB.cells
  have hlt := hB.lt
  go_enter Try.func148, Try.ntmps148
  go_wp2_with (go_at_call 143; refine (agrees_any p g _ hp hg).mono ?_; rintro e w' ⟨rfl, hb⟩)
  go_ret
  exact ⟨rfl, ((Below.refl _ _).alloc (Nat.le_refl _) _).trans (hb.mono (by simp))⟩

set_option maxHeartbeats 400000 in
theorem indexP_any (B : Nat) (g : Gl) (q : Option Addr) (cap : Nat) (ps : List Pl) (w : World) (hg : okG g) (hp : ∀ p ∈ ps, okP p) (hB : GalAt w B g) (hr : RowP w q ps) (hl : ps.length ≤ 1000000) :
    Calls Try.prog 167 #[.slice q ps.length cap, .func (.func 148) #[] #[.pointer (some ⟨B, 0, none⟩)]] w fun e w' => e = .returned (.int .i64 (firstIdx (fun p => agr g p) ps)) ∧ Below w.heap.size w w' := by
  go_enter Try.func167, Try.ntmps167
  go_wp2
  go_loopw [8] (fun i wr => ∃ k : Nat, k ≤ ps.length ∧ i = .int .i64 k ∧ AllNo (fun p => agr g p) ps k ∧ Below w.heap.size w wr) (fun i _ => ps.length - (intOf i).toNat)
  case atStart => exact ⟨0, Nat.zero_le _, rfl, rfl, Below.refl _ _⟩
  case round =>
    obtain ⟨k, hk, rfl, hall, hbel⟩ := hrel
    by_cases hlt : k < ps.length
    · obtain ⟨b, off, rfl, hb, h1, h2⟩ := hr.at hlt (Nat.le_refl _) hbel
      have hpk := hp _ (getD_mem ps k (0, 0) hlt)
      have hst := hall.step hlt (0, 0)
      have hBk := hB.below (Nat.le_refl _) hbel
      have HS := Lib.hid hst
      clear hst
      generalize ps.getD k (0, 0) = p at h1 h2 hpk HS
      go_wp2_with (go_at_call 148; refine (sepAgrees_any B p g _ hpk hg hBk).mono ?_; rintro e w' ⟨rfl, hb'⟩)
      · have hf : agr g p = true := by assumption
        go_ret
        exact ⟨ret_int (HS.out.2 hf).symm, hbel.trans (hb'.mono hbel.size)⟩
      · have hf : agr g p = false := by assumption
        go_roundw
        case rel => exact ⟨k + 1, hlt, by go_num, HS.out.1 hf, hbel.trans (hb'.mono hbel.size)⟩
        case measure => simp [intOf]; omega
    · obtain rfl : k = ps.length := by omega
      go_wp2
      go_ret
      exact ⟨ret_int hall.all.symm, hbel⟩

/-- does some place of a list agree? -/
def anyAgr (g : Gl) (ps : List Pl) : Bool := ps.any fun p => agr g p

set_option maxHeartbeats 400000 in
theorem containsP_any (B : Nat) (g : Gl) (q : Option Addr) (cap : Nat) (ps : List Pl) (w : World) (hg : okG g) (hp : ∀ p ∈ ps, okP p) (hB : GalAt w B g) (hr : RowP w q ps) (hl : ps.length ≤ 1000000) :
    Calls Try.prog 147 #[.slice q ps.length cap, .func (.func 148) #[] #[.pointer (some ⟨B, 0, none⟩)]] w fun e w' => e = .returned (.bool (anyAgr g ps)) ∧ Below w.heap.size w w' := by
  go_enter Try.func147, Try.ntmps147
  go_wp2_with (go_at_call 167; refine (indexP_any B g q cap ps _ hg hp hB hr hl).mono ?_; rintro e w' ⟨rfl, hb⟩)
  go_ret
  exact ⟨ret_bool (firstIdx_any _ _), hb⟩

/-- the least C with which all places of a list agree -/
def supC (s : Int × Int) (A : List Pl) : Int := A.foldl (fun c p => max c (s.1 * p.1 + s.2 * p.2)) (-9223372036854775808)
def galOf (s : Int × Int) (A : List Pl) : Gl := (s.1, s.2, supC s A)
/-- do the places of one list agree, and none of the other? -/
def tells (A B : List Pl) (s : Int × Int) : Bool := !anyAgr (galOf s A) B
/-- the first slope that tells two lists apart, as a gallery -/
def separateOf (A B : List Pl) : Option Gl := ((slopesL 9).find? (tells A B)).map fun s => galOf s A

def sepG (A B : List Pl) : Gl := (separateOf A B).getD (0, 0, 0)
def sepB (A B : List Pl) : Bool := (separateOf A B).isSome

theorem supC_succ (s : Int × Int) (A : List Pl) (k : Nat) (h : k < A.length) (d : Pl) : supC s (A.take (k + 1)) = max (supC s (A.take k)) (s.1 * (A.getD k d).1 + s.2 * (A.getD k d).2) := by
  rw [getD_eq A k d h, List.take_succ_eq_append_getElem h]
  simp only [supC, List.foldl_append, List.foldl_cons, List.foldl_nil]
theorem slopesL_small : ∀ s ∈ slopesL 9, small 9 s.1 ∧ small 9 s.2 := by unfold small; decide +kernel
theorem slopesL_small12 : ∀ s ∈ slopesL 12, small 12 s.1 ∧ small 12 s.2 := by unfold small; decide +kernel

theorem heap_alloc_get (w : World) (o : Obj) (k : Nat) : (w.alloc o).heap[k]? = if k = w.heap.size then some o else w.heap[k]? := by
  by_cases h : k = w.heap.size
  · rw [if_pos h, h]; exact World.alloc_heap_new w o
  · rw [if_neg h]
    by_cases h2 : k < w.heap.size
    · exact Below.heap_alloc w o k h2
    · rw [Array.getElem?_eq_none (by simp; omega), Array.getElem?_eq_none (by omega)]

theorem keepsOthers_below {N : Nat} {W W' : World} (h : Below N W W') (hN : W.heap.size ≤ N) : KeepsOthers W W' :=
  ⟨h.size, fun k _ hk _ => (h.block k (Nat.lt_of_lt_of_le (Array.getElem?_eq_some_iff.1 hk).1 hN)).trans hk⟩

/-- what the walk of separate owns: the two lists' boxes, and the results' -/
structure SepOwn (W : World) (B : Nat) (v1 v2 : Value) (g : Gl) (t : Bool) : Prop where
  b1 : W.heap[B]? = some (.cells #[v1] 39 (0, 0))
  b2 : W.heap[B + 1]? = some (.cells #[v2] 39 (0, 0))
  g : GalAt W (B + 1 + 1) g
  t : W.heap[B + 1 + 1 + 1]? = some (.cells #[.bool t] 4 (0, 0))
  bx : W.heap[B + 1 + 1 + 1 + 1]? = some (.cells #[.int .i64 9] 3 (0, 0))

theorem SepOwn.kept {W W' : World} {B : Nat} {v1 v2 : Value} {g : Gl} {t : Bool} {row : Option Nat} (h : SepOwn W B v1 v2 g t) (hg : W.grownBy W' row) (hr : ∀ r, row = some r → ∃ o : Obj, W.heap[r]? = some o ∧ o.isCells = false) : SepOwn W' B v1 v2 g t :=
  ⟨(grownBy_keeps_cells hg hr h.b1 rfl).trans h.b1, (grownBy_keeps_cells hg hr h.b2 rfl).trans h.b2, (grownBy_keeps_cells hg hr h.g rfl).trans h.g, (grownBy_keeps_cells hg hr h.t rfl).trans h.t, (grownBy_keeps_cells hg hr h.bx rfl).trans h.bx⟩
theorem SepOwn.below {W W' : World} {B : Nat} {v1 v2 : Value} {g : Gl} {t : Bool} (h : SepOwn W B v1 v2 g t) {N : Nat} (hN : W.heap.size ≤ N) (hb : Below N W W') : SepOwn W' B v1 v2 g t :=
  have lt := fun {k : Nat} {o : Obj} (e : W.heap[k]? = some o) => Nat.lt_of_lt_of_le (Array.getElem?_eq_some_iff.1 e).1 hN
  ⟨(hb.block _ (lt h.b1)).trans h.b1, (hb.block _ (lt h.b2)).trans h.b2, (hb.block _ (lt h.g)).trans h.g, (hb.block _ (lt h.t)).trans h.t, (hb.block _ (lt h.bx)).trans h.bx⟩
theorem SepOwn.cells {W : World} {B : Nat} {v1 v2 : Value} {g : Gl} {t : Bool} (h : SepOwn W B v1 v2 g t) :
    W.cell? ⟨B, 0, none⟩ = some v1 ∧ W.cell? ⟨B + 1, 0, none⟩ = some v2 ∧ W.cell? ⟨B + 1 + 1 + 1, 0, none⟩ = some (.bool t) ∧ W.frozen? ⟨B + 1 + 1 + 1, 0, none⟩ = false :=
  ⟨by rw [cell_of_row W B 0 _ _ _ h.b1]; rfl, by rw [cell_of_row W (B + 1) 0 _ _ _ h.b2]; rfl, by rw [cell_of_row W (B + 1 + 1 + 1) 0 _ _ _ h.t]; rfl, frozen_of_row W (B + 1 + 1 + 1) 0 _ _ h.t⟩

theorem SepOwn.leave {W : World} {B : Nat} {v1 v2 : Value} {g : Gl} {t : Bool} (h : SepOwn W B v1 v2 g t) (g' : Gl) (t' : Bool) :
    SepOwn ((((W.setCell ⟨B + 1 + 1, 0, none⟩ (.int .i64 g'.1)).setCell ⟨B + 1 + 1, 1, none⟩ (.int .i64 g'.2.1)).setCell ⟨B + 1 + 1, 2, none⟩ (.int .i64 g'.2.2)).setCell ⟨B + 1 + 1 + 1, 0, none⟩ (.bool t')) B v1 v2 g' t' := by
  obtain ⟨h1, h2, h3, h4, h5⟩ := h
  have o := fun (W : World) (k c : Nat) (u : Value) (j : Nat) (hj : j ≠ k) => heap_setCell_other W ⟨k, c, none⟩ j u hj
  refine ⟨?_, ?_, ?_, ?_, ?_⟩
  · rw [o _ _ _ _ _ (by omega), o _ _ _ _ _ (by omega), o _ _ _ _ _ (by omega), o _ _ _ _ _ (by omega)]; exact h1
  · rw [o _ _ _ _ _ (by omega), o _ _ _ _ _ (by omega), o _ _ _ _ _ (by omega), o _ _ _ _ _ (by omega)]; exact h2
  · unfold GalAt
    rw [o _ _ _ _ _ (by omega)]
    exact heap_setCell_same _ _ 2 _ _ _ (heap_setCell_same _ _ 1 _ _ _ (heap_setCell_same _ _ 0 _ _ _ h3))
  · refine heap_setCell_same _ _ 0 #[.bool t] _ _ ?_
    rw [o _ _ _ _ _ (by omega), o _ _ _ _ _ (by omega), o _ _ _ _ _ (by omega)]; exact h4
  · rw [o _ _ _ _ _ (by omega), o _ _ _ _ _ (by omega), o _ _ _ _ _ (by omega), o _ _ _ _ _ (by omega)]; exact h5

theorem SepOwn.leave_below {w W : World} {B : Nat} (h : Below B w W) (a b c d : Value) :
    Below B w ((((W.setCell ⟨B + 1 + 1, 0, none⟩ a).setCell ⟨B + 1 + 1, 1, none⟩ b).setCell ⟨B + 1 + 1, 2, none⟩ c).setCell ⟨B + 1 + 1 + 1, 0, none⟩ d) :=
  (((h.setCell (by simp only; omega) _).setCell (by simp only; omega) _).setCell (by simp only; omega) _).setCell (by simp only; omega) _

theorem sepOf_hit {A B : List Pl} {ini : List Sl} {s : Sl} (hp : (ini ++ [s]).map (·.1) <+: slopesL 9) (h1 : ini.all (fun s => !tells A B s.1) = true) (h2 : tells A B s.1 = true) : separateOf A B = some (galOf s.1 A) := by
  obtain ⟨r, hr⟩ := hp
  unfold separateOf
  rw [← hr, List.map_append, List.append_assoc, List.find?_append, List.find?_eq_none.2 (by
    intro x hx
    obtain ⟨y, hy, rfl⟩ := List.mem_map.1 hx
    have := List.all_eq_true.1 h1 y hy
    simpa using this)]
  simp [h2]
theorem sepOf_miss {A B : List Pl} {ys : List Sl} (hp : ys.map (·.1) = slopesL 9) (h1 : ys.all (fun s => !tells A B s.1) = true) : separateOf A B = none := by
  unfold separateOf
  rw [← hp, List.find?_eq_none.2 (by
    intro x hx
    obtain ⟨y, hy, rfl⟩ := List.mem_map.1 hx
    have := List.all_eq_true.1 h1 y hy
    simpa using this)]
  rfl

set_option maxRecDepth 100000 in
set_option maxHeartbeats 4000000 in
theorem separate_any (q1 q2 : Option Addr) (c1 c2 : Nat) (A B : List Pl) (w : World) (hA : ∀ p ∈ A, okP p) (hB : ∀ p ∈ B, okP p) (hr1 : RowP w q1 A) (hr2 : RowP w q2 B) (hl1 : A.length ≤ 1000000) (hl2 : B.length ≤ 1000000) :
    Calls Try.prog 115 #[.slice q1 A.length c1, .slice q2 B.length c2] w fun e w' =>
      e = .returned (.tuple #[.agg #[.int .i64 (sepG A B).1, .int .i64 (sepG A B).2.1, .int .i64 (sepG A B).2.2], .bool (sepB A B)]) ∧ Below w.heap.size w w' := by
  refine (callsIn_wide (n := 5)).1 ?_
  refine callsIn_of_wp_marks Try.func115 rfl trivial ?_ rfl
  simp only [Try.ntmps115, List.size_toArray, List.length_cons, List.length_nil, Nat.reduceAdd, Nat.reduceSub, Array.replicate_succ, Array.replicate_zero, List.push_toArray, List.append_toArray, List.nil_append, List.cons_append]
  gi_wp2_with (refine ⟨trivial, ?_⟩; gi_at_call 146; refine (slopes_in Fence.wide 4 trivial rfl _ _).mono ?_; rintro e w' ⟨rfl, rfl⟩)
  obtain ⟨W0, hW0⟩ : ∃ W0, (((((w.alloc (Obj.cells #[Value.slice q1 A.length c1] 39)).alloc (Obj.cells #[Value.slice q2 B.length c2] 39)).alloc
              (Obj.cells #[Value.int IntKind.i64 0, Value.int IntKind.i64 0, Value.int IntKind.i64 0] 28)).alloc
          (Obj.cells #[Value.bool false] 4)).alloc
      (Obj.cells #[Value.int IntKind.i64 9] 3)) = W0 := ⟨_, rfl⟩
  have hsz : W0.heap.size = w.heap.size + 1 + 1 + 1 + 1 + 1 := by rw [← hW0]; simp
  have hbel : Below w.heap.size w W0 := by
    rw [← hW0]
    exact (((((Below.refl _ _).alloc (Nat.le_refl _) _).alloc (by simp) _).alloc (by simp; omega) _).alloc (by simp; omega) _).alloc (by simp; omega) _
  have hown : SepOwn W0 w.heap.size (.slice q1 A.length c1) (.slice q2 B.length c2) (0, 0, 0) false := by
    rw [← hW0]
    exact ⟨(by rw [heap_alloc_get, if_neg (by simp only [World.size_alloc]; omega)]; rw [heap_alloc_get, if_neg (by simp only [World.size_alloc]; omega)]; rw [heap_alloc_get, if_neg (by simp only [World.size_alloc]; omega)]; rw [heap_alloc_get, if_neg (by simp only [World.size_alloc]; omega)]; rw [heap_alloc_get, if_pos (by simp)]), (by rw [heap_alloc_get, if_neg (by simp only [World.size_alloc]; omega)]; rw [heap_alloc_get, if_neg (by simp only [World.size_alloc]; omega)]; rw [heap_alloc_get, if_neg (by simp only [World.size_alloc]; omega)]; rw [heap_alloc_get, if_pos (by simp)]), (by unfold GalAt; rw [heap_alloc_get, if_neg (by simp only [World.size_alloc]; omega)]; rw [heap_alloc_get, if_neg (by simp only [World.size_alloc]; omega)]; rw [heap_alloc_get, if_pos (by simp)]), (by rw [heap_alloc_get, if_neg (by simp only [World.size_alloc]; omega)]; rw [heap_alloc_get, if_pos (by simp)]), (by rw [heap_alloc_get, if_pos (by simp)])⟩
  have hbox : W0.cell? ⟨w.heap.size + 1 + 1 + 1 + 1, 0, none⟩ = some (.int .i64 (9 : Nat)) := by
    rw [← hW0]
    have h := World.alloc_heap_new ((((w.alloc (Obj.cells #[Value.slice q1 A.length c1] 39)).alloc (Obj.cells #[Value.slice q2 B.length c2] 39)).alloc
              (Obj.cells #[Value.int IntKind.i64 0, Value.int IntKind.i64 0, Value.int IntKind.i64 0] 28)).alloc
          (Obj.cells #[Value.bool false] 4)) (Obj.cells #[Value.int IntKind.i64 9] 3)
    simp only [World.size_alloc] at h
    rw [cell_of_row _ _ 0 _ _ _ h]
    rfl
  rw [hW0]
  have HSZ := Lib.hid hsz
  clear hW0 hsz
  refine wpIn_rangeFunc_ownG rfl (by decide) (gf := 166) (lb := #[.pointer (some ⟨w.heap.size + 1 + 1 + 1 + 1, 0, none⟩)]) rfl trivial (enters_of Try.func166 (by kernel_rfl) rfl)
    (slopes_stops Fence.wide 4 trivial rfl (by decide) 9 (w.heap.size + 1 + 1 + 1 + 1) (by decide) W0 (by rw [HSZ.out]; omega) hbox) (fun h k => keepB_t h k) (keepB_b (by rw [HSZ.out]; simp)) (Below.refl _ _) (fun _ => rfl)
    (fun (pre : List Sl) W => (SepOwn W w.heap.size (.slice q1 A.length c1) (.slice q2 B.length c2) (0, 0, 0) false ∧ pre.all (fun s => !tells A B s.1) = true) ∧ Below w.heap.size w W)
    (fun c (pre : List Sl) W => (c = .ret ∧ ∃ (ini : List Sl) (s : Sl), pre = ini ++ [s] ∧ ini.all (fun s => !tells A B s.1) = true ∧ tells A B s.1 = true ∧ SepOwn W w.heap.size (.slice q1 A.length c1) (.slice q2 B.length c2) (galOf s.1 A) true) ∧ Below w.heap.size w W)
    (OwnFrom.and (Own.from (fun s A B row hs hg hr => ⟨hs.1.kept hg hr, hs.2⟩) _) (ownFrom_below (Nat.le_refl _) (by rw [HSZ.out]; omega)))
    (fun c => OwnFrom.and (Own.from (fun s A B row hs hg hr => by obtain ⟨e0, ini, t, e1, e2, e3, e4⟩ := hs; exact ⟨e0, ini, t, e1, e2, e3, e4.kept hg hr⟩) _) (ownFrom_below (Nat.le_refl _) (by rw [HSZ.out]; omega)))
    ⟨⟨hown, rfl⟩, hbel⟩
    (fun x => { tmps := #[.slice q1 A.length c1, .slice q2 B.length c2, .pointer (some ⟨w.heap.size, 0, none⟩), .pointer (some ⟨w.heap.size + 1, 0, none⟩), .pointer (some ⟨w.heap.size + 1 + 1, 0, none⟩), .pointer (some ⟨w.heap.size + 1 + 1 + 1, 0, none⟩), .int .i64 x.1.1, .int .i64 x.1.2, undef, undef, undef, .func (.func 166) #[] #[.pointer (some ⟨w.heap.size + 1 + 1 + 1 + 1, 0, none⟩)], .int .i64 x.1.1, .int .i64 x.1.2, undef, undef, undef, undef, undef, undef, undef, undef, undef, undef, undef, undef, undef, undef, undef, undef, undef, undef, undef, undef, undef, undef, undef, undef, undef, undef, undef, undef, undef], defers := [] }) ?assign ?body ?done ?stop
  case assign =>
    intro l x W K hK
    gi_wp2
    exact hK
  case body =>
    rintro l pre ⟨⟨a, b⟩, hsa, hsb⟩ W ⟨⟨hown, hall⟩, hbel⟩ hlen
    obtain ⟨hc1, hc2, hc3, hf3⟩ := hown.cells
    obtain ⟨hsa1, hsa2⟩ := hsa
    obtain ⟨hsb1, hsb2⟩ := hsb
    dsimp only at *
    have hA' := hr1.below (Nat.le_refl _) hbel
    have hB' := hr2.below (Nat.le_refl _) hbel
    have hz4 : w.heap.size + 1 + 1 + 1 + 1 < W.heap.size := (Array.getElem?_eq_some_iff.1 hown.bx).1
    have hz3 : w.heap.size + 1 + 1 + 1 < W.heap.size := by omega
    have hz0 : w.heap.size < W.heap.size := by omega
    have hz1 : w.heap.size + 1 < W.heap.size := by omega
    have hz2 : w.heap.size + 1 + 1 < W.heap.size := by omega
    have HO := Lib.hid hown
    have HALL := Lib.hid hall
    clear hown hall hlen hbox
    gi_wp2
    gi_loopw [19] (fun i wr => ∃ k : Nat, k ≤ A.length ∧ i = .int .i64 k ∧ GalAt wr W.heap.size (a, b, supC (a, b) (A.take k)) ∧ Below W.heap.size W wr) (fun i _ => A.length - (intOf i).toNat)
    case atStart => exact ⟨0, Nat.zero_le _, rfl, GalAt.new W (a, b, -9223372036854775808), (Below.refl _ _).alloc (Nat.le_refl _) _⟩
    case round =>
      obtain ⟨k, hk, rfl, hgal, hbr⟩ := hrel
      obtain ⟨hg1, hg2, hg3, hgf⟩ := hgal.cells
      have hglt := hgal.lt
      by_cases hlt : k < A.length
      · obtain ⟨b', off, rfl, hb', h1, h2⟩ := hA'.at hlt (Nat.le_refl _) hbr
        have hpk := hA _ (getD_mem A k (0, 0) hlt)
        have hsup := supC_succ (a, b) A k hlt (0, 0)
        have HS := Lib.hid hsup
        clear hsup
        generalize A.getD k (0, 0) = p at h1 h2 hpk HS
        have hok : okG (a, b, supC (a, b) (A.take k)) := ⟨⟨by simp only; omega, by simp only; omega⟩, ⟨by simp only; omega, by simp only; omega⟩⟩
        gi_wp2
        go_roundw
        case rel =>
          have hw : wrap64 (wrap64 (a * p.1) + wrap64 (b * p.2)) = a * p.1 + b * p.2 := wrap_val hpk.1 hpk.2 hok.1 hok.2
          have hset := hgal.set (supC (a, b) (A.take (k + 1)))
          rw [HS.out] at hset
          have e : (if supC (a, b) (A.take k) < wrap64 (wrap64 (a * p.1) + wrap64 (b * p.2)) then wrap64 (wrap64 (a * p.1) + wrap64 (b * p.2)) else supC (a, b) (A.take k)) = max (supC (a, b) (A.take k)) (a * p.1 + b * p.2) := by
            rw [hw]; split <;> omega
          rw [e]
          refine ⟨k + 1, hlt, by go_num, ?_, ?_⟩
          · rw [HS.out]
            exact hset.below (Nat.le_refl _) ((Below.refl _ _).alloc (Nat.le_refl _) _)
          · exact (hbr.setCell (Nat.le_refl _) _).alloc (by have := hbr.size; simpa using this) _
        case measure => simp [intOf]; omega
      · obtain rfl : k = A.length := by omega
        rw [List.take_length] at hgal hg3
        have hok : okG (galOf (a, b) A) := ⟨⟨by simp only [galOf]; omega, by simp only [galOf]; omega⟩, ⟨by simp only [galOf]; omega, by simp only [galOf]; omega⟩⟩
        have hcont := containsP_any W.heap.size (galOf (a, b) A) q2 c2 B wr hok hB hgal (hB'.below (Nat.le_refl _) hbr) hl2
        have HC := Lib.hid hcont
        have HO' := HO.out.below (Nat.le_refl _) hbr
        obtain ⟨k1, k2, k3, k4⟩ := HO'.cells
        have kz : W.heap.size < wr.heap.size := hglt
        clear hcont
        gi_wp2_with (refine ⟨trivial, ?_⟩; gi_at_call 147; refine (CallsIn.inRound l (callsIn_wide.2 HC.out)).mono ?_; rintro e w' ⟨rfl, hb1⟩; have HO2 := HO'.below (Nat.le_refl _) hb1; obtain ⟨m1, m2, m3, m4⟩ := HO2.cells; obtain ⟨n1, n2, n3, n4⟩ := HO2.g.cells; obtain ⟨p1, p2, p3, p4⟩ := (hgal.below (Nat.le_refl _) hb1).cells)
        · have ht : tells A B (a, b) = true := by unfold tells; assumption
          have hko := (keepsOthers_below hbr (Nat.le_refl _)).trans (keepsOthers_below hb1 (Nat.le_refl _))
          refine ⟨(((((hko.trans (KeepsOthers.setCell _ _ _)).trans (KeepsOthers.setCell _ _ _)).trans (KeepsOthers.setCell _ _ _)).trans (KeepsOthers.setCell _ _ _))).from _, ⟨rfl, pre, _, rfl, HALL.out, ht, HO2.leave (galOf (a, b) A) true⟩, SepOwn.leave_below ((hbel.trans (hbr.mono hbel.size)).trans (hb1.mono (Nat.le_trans hbel.size hbr.size))) _ _ _ _⟩
        · have ht : tells A B (a, b) = false := by unfold tells; assumption
          have hb2 : Below W.heap.size W w' := hbr.trans (hb1.mono hbr.size)
          refine ⟨(keepsOthers_below hb2 (Nat.le_refl _)).from _, keepB_below hb2 (by simp; omega), ⟨HO2, ?_⟩, hbel.trans (hb2.mono hbel.size)⟩
          rw [List.all_append, HALL.out]
          simp [ht]
  case done =>
    rintro D ys W hD hys ⟨⟨hown, hall⟩, hbel⟩ hK
    have hm := sepOf_miss hys hall
    have HM := Lib.hid hm
    have HY := Lib.hid hys
    have HA := Lib.hid hall
    have HO := Lib.hid hown
    obtain ⟨k1, k2, k3, k4⟩ := hown.cells
    obtain ⟨r1, r2, r3, r4⟩ := hown.g.cells
    clear hm hys hall hown
    gi_wp2
    have hown1 := HO.out.leave (0, 0, 0) false
    have hK1 := ((((KeepsOthers.setCell W ⟨w.heap.size + 1 + 1, 0, none⟩ (.int .i64 0)).trans (KeepsOthers.setCell _ ⟨w.heap.size + 1 + 1, 1, none⟩ (.int .i64 0))).trans (KeepsOthers.setCell _ ⟨w.heap.size + 1 + 1, 2, none⟩ (.int .i64 0))).trans (KeepsOthers.setCell _ ⟨w.heap.size + 1 + 1 + 1, 0, none⟩ (.bool false))).same D _ hK rfl
    refine ⟨by simp, .inl ⟨_, _, rfl, run_takeDeferred hK1, ?_⟩⟩
    have hown2 := hown1.kept (grownBy_putObj' _ D (.deferred none)) (fun r e => by cases e; exact ⟨_, hK1, rfl⟩)
    obtain ⟨m1, m2, m3, m4⟩ := hown2.cells
    obtain ⟨n1, n2, n3, n4⟩ := hown2.g.cells
    refine ⟨.tuple #[.agg #[.int .i64 0, .int .i64 0, .int .i64 0], .bool false], ?_, ?_, (SepOwn.leave_below hbel _ _ _ _).trans (belowK_b (w := w) (Nat.le_refl _) _ D _ _ (by rw [HSZ.out] at hD; omega) hK1 rfl rfl)⟩
    · simp [results, Try.f115, go_sem, m3, n1, n2, n3]
    · simp only [sepG, sepB, HM.out]; rfl
  case stop =>
    rintro D c pre W hD hpre ⟨⟨rfl, ini, s, rfl, h1, h2, hown⟩, hbel⟩ hK
    have hm := sepOf_hit hpre h1 h2
    have HM := Lib.hid hm
    have HO := Lib.hid hown
    clear hm hown h1 h2 hpre
    gi_wp2
    refine ⟨by simp, .inl ⟨_, _, rfl, run_takeDeferred hK, ?_⟩⟩
    have hown2 := HO.out.kept (grownBy_putObj' _ D (.deferred none)) (fun r e => by cases e; exact ⟨_, hK, rfl⟩)
    obtain ⟨m1, m2, m3, m4⟩ := hown2.cells
    obtain ⟨n1, n2, n3, n4⟩ := hown2.g.cells
    refine ⟨.tuple #[.agg #[.int .i64 (galOf s.1 A).1, .int .i64 (galOf s.1 A).2.1, .int .i64 (galOf s.1 A).2.2], .bool true], ?_, ?_, hbel.trans (belowK_b (w := w) (Nat.le_refl _) _ D _ _ (by rw [HSZ.out] at hD; omega) hK rfl rfl)⟩
    · simp [results, Try.f115, go_sem, m3, n1, n2, n3]
    · simp only [sepG, sepB, HM.out]; rfl
end Go.Proofs.Ytcalipoknbbaaaa
