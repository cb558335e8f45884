/- Chapter 7's law: arguments in boxes, and rows that lie in memory during a statement. -/
import Derived.Test.YtffblmhaoekkgaaPrpN
import Derived.Test.YtffblmhaoekkgaaPrpX2
import Derived.Deep.MidRow
namespace Go.Proofs.Ytffblmhaoekkgaa.prp
open Go.RowKit
set_option linter.unusedSimpArgs false
set_option linter.unusedVariables false

theorem sizeHeap : (Try.prog.info? 25).map (·.size) = some 21 := by kernel_rfl
theorem size5 : (Try.prog.info? 26).map (·.size) = some 5 := by kernel_rfl
/-- numbers of eight bits in a block -/
def BoxAt (W : World) (B : Nat) (xs : List Int) : Prop := B < W.heap.size ∧ W.rangeAt B 0 (flatU xs)
theorem BoxAt.below {W W' : World} {B : Nat} {xs : List Int} (h : BoxAt W B xs) {N : Nat} (hN : W.heap.size ≤ N) (hb : Below N W W') : BoxAt W' B xs :=
  ⟨Nat.lt_of_lt_of_le h.1 hb.size, fun j v hv => (hb.cell (p := ⟨B, 0 + j, none⟩) (Nat.lt_of_lt_of_le h.1 hN)).trans (h.2 j v hv)⟩
theorem BoxAt.keep {W W' : World} {B : Nat} {xs : List Int} (h : BoxAt W B xs) {N : Nat} (hN : B < N) (hb : Below N W W') : BoxAt W' B xs :=
  ⟨Nat.lt_of_lt_of_le h.1 hb.size, fun j v hv => (hb.cell (p := ⟨B, 0 + j, none⟩) hN).trans (h.2 j v hv)⟩
theorem BoxAt.cell {W : World} {B : Nat} {xs : List Int} (h : BoxAt W B xs) (k : Nat) (hk : k < xs.length) : W.cell? ⟨B, k, none⟩ = some (.int .u8 (xs.getD k 0)) := by
  have := h.2 k _ (flatU_get xs k hk)
  simpa using this
theorem BoxAt.new (w : World) (xs : List Int) (t : TypeId) : BoxAt (w.alloc (.cells (flatU xs).toArray t)) w.heap.size xs := by
  refine ⟨by simp, fun j v hv => ?_⟩
  have h1 : (w.alloc (.cells (flatU xs).toArray t)).heap[w.heap.size]? = some (.cells (flatU xs).toArray t (0, 0)) := by
    show (w.heap.push _)[w.heap.size]? = some _
    simp
  unfold World.cell?
  rw [h1]
  simpa using hv
theorem wpList_loadH {ops : Array Oper} {rest : List Oper} {op : Oper} {a : Act} {w : World} {Q : Exit → Act → World → Prop} (xs : List Int) (hxl : xs.length = 21) (B : Nat) (hb : BoxAt w B xs) (x : Operand) (hgd : op.guard = none) (ho : op.op = .load 25 x)
    (hx : a.eval x = .pointer (some ⟨B, 0, none⟩)) (h : wpList Try.prog ops Q rest (a.put op.dst (.agg (flatU xs).toArray)) w) : wpList Try.prog ops Q (op :: rest) a w :=
  wpList_load_mid hgd 25 x ho B 0 hx (flatU xs) _ hb.2 Try.underlying25 rfl (by rw [flatU_length, hxl]; exact sizeHeap) h
theorem wpList_load5 {ops : Array Oper} {rest : List Oper} {op : Oper} {a : Act} {w : World} {Q : Exit → Act → World → Prop} (xs : List Int) (hxl : xs.length = 5) (B : Nat) (hb : BoxAt w B xs) (x : Operand) (hgd : op.guard = none) (ho : op.op = .load 26 x)
    (hx : a.eval x = .pointer (some ⟨B, 0, none⟩)) (h : wpList Try.prog ops Q rest (a.put op.dst (.agg (flatU xs).toArray)) w) : wpList Try.prog ops Q (op :: rest) a w :=
  wpList_load_mid hgd 26 x ho B 0 hx (flatU xs) _ hb.2 Try.underlying26 rfl (by rw [flatU_length, hxl]; exact size5) h
/-- where a statement stands: rows and boxes that lie in memory -/
structure Here (w W : World) (rows : List (Option Addr × List Value)) (boxes : List (Nat × List Int)) : Prop where
  bel : Below w.heap.size w W
  row : ∀ p ∈ rows, RowV W p.1 p.2
  box : ∀ p ∈ boxes, BoxAt W p.1 p.2
theorem Here.go {w W W' : World} {rows : List (Option Addr × List Value)} {boxes : List (Nat × List Int)} (h : Here w W rows boxes) (hb : Below W.heap.size W W') : Here w W' rows boxes :=
  ⟨h.bel.on hb, fun p hp => (h.row p hp).below (Nat.le_refl _) hb, fun p hp => (h.box p hp).below (Nat.le_refl _) hb⟩
theorem Here.add {w W : World} {rows : List (Option Addr × List Value)} {boxes : List (Nat × List Int)} (h : Here w W rows boxes) {q : Option Addr} {vs : List Value} (hr : RowV W q vs) : Here w W ((q, vs) :: rows) boxes :=
  ⟨h.bel, fun p hp => by
    rcases List.mem_cons.1 hp with rfl | hp
    · exact hr
    · exact h.row p hp, h.box⟩
theorem Here.at0 {w W : World} {rows : List (Option Addr × List Value)} {boxes : List (Nat × List Int)} {q : Option Addr} {vs : List Value} (h : Here w W ((q, vs) :: rows) boxes) : RowV W q vs := h.row (q, vs) (by simp)
theorem Here.at1 {w W : World} {rows : List (Option Addr × List Value)} {boxes : List (Nat × List Int)} {q q2 : Option Addr} {vs vs2 : List Value} (h : Here w W ((q, vs) :: (q2, vs2) :: rows) boxes) : RowV W q2 vs2 := h.row (q2, vs2) (by simp)
theorem Here.box0 {w W : World} {rows : List (Option Addr × List Value)} {boxes : List (Nat × List Int)} {B : Nat} {xs : List Int} (h : Here w W rows ((B, xs) :: boxes)) : BoxAt W B xs := h.box (B, xs) (by simp)
theorem Here.box1 {w W : World} {rows : List (Option Addr × List Value)} {boxes : List (Nat × List Int)} {B B2 : Nat} {xs xs2 : List Int} (h : Here w W rows ((B, xs) :: (B2, xs2) :: boxes)) : BoxAt W B2 xs2 := h.box (B2, xs2) (by simp)
theorem Here.start2 (w : World) (xs ys : List Int) (t t2 : TypeId) : Here w ((w.alloc (.cells (flatU xs).toArray t)).alloc (.cells (flatU ys).toArray t2)) [] [(w.heap.size, xs), (w.heap.size + 1, ys)] := by
  have h1 : Below w.heap.size w (w.alloc (.cells (flatU xs).toArray t)) := (Below.refl _ _).alloc (Nat.le_refl _) _
  have h2 : Below (w.alloc (.cells (flatU xs).toArray t)).heap.size (w.alloc (.cells (flatU xs).toArray t)) ((w.alloc (.cells (flatU xs).toArray t)).alloc (.cells (flatU ys).toArray t2)) := (Below.refl _ _).alloc (Nat.le_refl _) _
  refine ⟨h1.on h2, fun p hp => by simp at hp, fun p hp => ?_⟩
  simp only [List.mem_cons, List.not_mem_nil, or_false] at hp
  rcases hp with rfl | rfl
  · exact (BoxAt.new w xs t).below (Nat.le_refl _) h2
  · have := BoxAt.new (w.alloc (.cells (flatU xs).toArray t)) ys t2
    simpa using this
theorem Here.start1 (w : World) (xs : List Int) (t : TypeId) : Here w (w.alloc (.cells (flatU xs).toArray t)) [] [(w.heap.size, xs)] :=
  ⟨(Below.refl _ _).alloc (Nat.le_refl _) _, fun p hp => by simp at hp, fun p hp => by simp only [List.mem_cons, List.not_mem_nil, or_false] at hp; rcases hp with rfl; exact BoxAt.new w xs t⟩
end Go.Proofs.Ytffblmhaoekkgaa.prp
