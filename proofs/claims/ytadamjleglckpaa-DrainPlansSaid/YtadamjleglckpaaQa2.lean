/- The stage-2 seat's kit, for any program: rows of values in memory, rows that a call has made itself, appends to them, worlds that differ above a bound only. -/
import Derived.Test.YtadamjleglckpaaQa1
import Derived.OwnWalk
import Derived.Deep.AppendLies
import Derived.Test.YtadamjleglckpaaProg
import Derived.WalkSmall
import Derived.BigQuiet
import Derived.Deep.QuietTactic
import Derived.Laws.BitsAllLaws
import Derived.Deep.LoopGhost
import Derived.Deep.RegionHeld3
import Derived.Deep.Cut

namespace Go.Proofs.Ytadamjleglckpaa.drn
open Go.RowKit

theorem _root_.Go.RowKit.Below.on {w W w1 : World} (h0 : Below w.heap.size w W) (h1 : Below W.heap.size W w1) : Below w.heap.size w w1 := h0.trans (h1.mono h0.size)
/-- values in memory -/
def RowV (w : World) (q : Option Addr) (vs : List Value) : Prop :=
  vs = [] ∨ ∃ b off, q = some ⟨b, off, none⟩ ∧ b < w.heap.size ∧ ∀ (i : Nat) (v : Value), vs[i]? = some v → w.cell? ⟨b, off + i, none⟩ = some v
theorem RowV.nil (w : World) (q : Option Addr) : RowV w q [] := .inl rfl
theorem RowV.below {w w' : World} {q : Option Addr} {vs : List Value} (h : RowV w q vs) {N : Nat} (hN : w.heap.size ≤ N) (hb : Below N w w') : RowV w' q vs := by
  rcases h with h | ⟨b, off, e, hz, hc⟩
  · exact .inl h
  · exact .inr ⟨b, off, e, Nat.lt_of_lt_of_le hz hb.size, fun i v hi => (hb.cell (p := ⟨b, off + i, none⟩) (Nat.lt_of_lt_of_le hz hN)).trans (hc i v hi)⟩
/-- a row that lies below a bound stays where only what is above the bound may change -/
theorem RowV.keep {w w' : World} {q : Option Addr} {vs : List Value} (h : RowV w q vs) {N : Nat} (hN : ∀ a, q = some a → a.block < N) (hb : Below N w w') : RowV w' q vs := by
  rcases h with h | ⟨b, off, e, hz, hc⟩
  · exact .inl h
  · have := hN _ e
    exact .inr ⟨b, off, e, Nat.lt_of_lt_of_le hz hb.size, fun i v hi => (hb.cell (p := ⟨b, off + i, none⟩) this).trans (hc i v hi)⟩
theorem RowV.here {w : World} {q : Option Addr} {vs : List Value} (h : RowV w q vs) {k : Nat} (hk : k < vs.length) :
    ∃ b off, q = some ⟨b, off, none⟩ ∧ b < w.heap.size ∧ ∀ (i : Nat) (v : Value), vs[i]? = some v → w.cell? ⟨b, off + i, none⟩ = some v := by
  rcases h with rfl | h
  · simp at hk
  · exact h
theorem RowV.at {w wr : World} {q : Option Addr} {vs : List Value} (h : RowV w q vs) {k : Nat} (hk : k < vs.length) {N : Nat} (hN : w.heap.size ≤ N) (hb : Below N w wr) :
    ∃ b off, q = some ⟨b, off, none⟩ ∧ b < w.heap.size ∧ ∀ (i : Nat) (v : Value), vs[i]? = some v → wr.cell? ⟨b, off + i, none⟩ = some v := by
  obtain ⟨b, off, e, hz, hc⟩ := h.here hk
  exact ⟨b, off, e, hz, fun i v hi => (hb.cell (p := ⟨b, off + i, none⟩) (Nat.lt_of_lt_of_le hz hN)).trans (hc i v hi)⟩

def flatI (xs : List Int) : List Value := xs.map (Value.int .i64)
def flatU (ss : List Nat) : List Value := ss.map fun s : Nat => Value.int .u64 s
def flatT (cs : List Ch) : List Value := cs.flatMap fun c => [.int .i64 c.1, .int .i64 c.2.1, .int .i64 c.2.2]
/-- a place, as the value of an interface -/
def plV (n : Nat) (g : Int) : Value := .iface (if g = n then 119 else 83) (.int .i64 g)
def flatC (n : Nat) (cs : List Ch) : List Value := cs.flatMap fun c => [.int .i64 c.1, plV n c.2.1, .int .i64 c.2.2]
theorem flatI_snoc (xs : List Int) (x : Int) : flatI (xs ++ [x]) = flatI xs ++ [.int .i64 x] := by simp [flatI]
theorem flatU_snoc (xs : List Nat) (x : Nat) : flatU (xs ++ [x]) = flatU xs ++ [.int .u64 x] := by simp [flatU]
theorem flatC_snoc (n : Nat) (xs : List Ch) (c : Ch) : flatC n (xs ++ [c]) = flatC n xs ++ [.int .i64 c.1, plV n c.2.1, .int .i64 c.2.2] := by simp [flatC]
theorem flatI_length (xs : List Int) : (flatI xs).length = xs.length := by simp [flatI]
theorem flatU_length (xs : List Nat) : (flatU xs).length = xs.length := by simp [flatU]
theorem flatC_length (n : Nat) : ∀ xs : List Ch, (flatC n xs).length = xs.length * 3
  | [] => rfl
  | c :: r => by have := flatC_length n r; simp only [flatC, List.flatMap_cons, List.length_append, List.length_cons, List.length_nil] at *; omega
theorem flatT_length : ∀ xs : List Ch, (flatT xs).length = xs.length * 3
  | [] => rfl
  | c :: r => by have := flatT_length r; simp only [flatT, List.flatMap_cons, List.length_append, List.length_cons, List.length_nil] at *; omega
theorem flatI_get (xs : List Int) (i : Nat) (h : i < xs.length) : (flatI xs)[i]? = some (.int .i64 (xs.getD i 0)) := by
  rw [getD_eq xs i 0 h]; simp [flatI, List.getElem?_eq_getElem h]
theorem flatU_get (xs : List Nat) (i : Nat) (h : i < xs.length) : (flatU xs)[i]? = some (.int .u64 (xs.getD i 0 : Nat)) := by
  rw [getD_eq xs i 0 h]; simp [flatU, List.getElem?_eq_getElem h]
theorem flatT_get : ∀ (gs : List Ch) (i : Nat), i < gs.length → (flatT gs)[i * 3]? = some (.int .i64 (gs.getD i (0, 0, 0)).1) ∧ (flatT gs)[i * 3 + 1]? = some (.int .i64 (gs.getD i (0, 0, 0)).2.1) ∧ (flatT gs)[i * 3 + 2]? = some (.int .i64 (gs.getD i (0, 0, 0)).2.2)
  | [], i, h => by simp at h
  | g :: gs, 0, _ => by simp [flatT]
  | g :: gs, i + 1, h => by
    have ih := flatT_get gs i (by simpa using h)
    have e : flatT (g :: gs) = .int .i64 g.1 :: .int .i64 g.2.1 :: .int .i64 g.2.2 :: flatT gs := by simp [flatT]
    rw [e, show (i + 1) * 3 = i * 3 + 1 + 1 + 1 from by omega]
    simpa using ih
theorem flatC_get (n : Nat) : ∀ (gs : List Ch) (i : Nat), i < gs.length → (flatC n gs)[i * 3]? = some (.int .i64 (gs.getD i (0, 0, 0)).1) ∧ (flatC n gs)[i * 3 + 1]? = some (plV n (gs.getD i (0, 0, 0)).2.1) ∧ (flatC n gs)[i * 3 + 2]? = some (.int .i64 (gs.getD i (0, 0, 0)).2.2)
  | [], i, h => by simp at h
  | g :: gs, 0, _ => by simp [flatC]
  | g :: gs, i + 1, h => by
    have ih := flatC_get n gs i (by simpa using h)
    have e : flatC n (g :: gs) = .int .i64 g.1 :: plV n g.2.1 :: .int .i64 g.2.2 :: flatC n gs := by simp [flatC]
    rw [e, show (i + 1) * 3 = i * 3 + 1 + 1 + 1 from by omega]
    simpa using ih

/-- triples in memory, read at one of them -/
theorem rowT_at {w wr : World} {q : Option Addr} {cs : List Ch} (h : RowV w q (flatT cs)) {k : Nat} (hk : k < cs.length) {N : Nat} (hN : w.heap.size ≤ N) (hb : Below N w wr) :
    ∃ b off, q = some ⟨b, off, none⟩ ∧ b < w.heap.size ∧ wr.cell? ⟨b, off + k * 3, none⟩ = some (.int .i64 (cs.getD k (0, 0, 0)).1) ∧
      wr.cell? ⟨b, off + k * 3 + 1, none⟩ = some (.int .i64 (cs.getD k (0, 0, 0)).2.1) ∧ wr.cell? ⟨b, off + k * 3 + 2, none⟩ = some (.int .i64 (cs.getD k (0, 0, 0)).2.2) := by
  obtain ⟨b, off, e, hz, hc⟩ := h.at (k := 0) (by rw [flatT_length]; omega) hN hb
  obtain ⟨g0, g1, g2⟩ := flatT_get cs k hk
  exact ⟨b, off, e, hz, hc _ _ g0, by rw [Nat.add_assoc]; exact hc _ _ g1, by rw [Nat.add_assoc]; exact hc _ _ g2⟩
theorem rowC_at {w wr : World} {n : Nat} {q : Option Addr} {cs : List Ch} (h : RowV w q (flatC n cs)) {k : Nat} (hk : k < cs.length) {N : Nat} (hN : w.heap.size ≤ N) (hb : Below N w wr) :
    ∃ b off, q = some ⟨b, off, none⟩ ∧ b < w.heap.size ∧ wr.cell? ⟨b, off + k * 3, none⟩ = some (.int .i64 (cs.getD k (0, 0, 0)).1) ∧
      wr.cell? ⟨b, off + k * 3 + 1, none⟩ = some (plV n (cs.getD k (0, 0, 0)).2.1) ∧ wr.cell? ⟨b, off + k * 3 + 2, none⟩ = some (.int .i64 (cs.getD k (0, 0, 0)).2.2) := by
  obtain ⟨b, off, e, hz, hc⟩ := h.at (k := 0) (by rw [flatC_length]; omega) hN hb
  obtain ⟨g0, g1, g2⟩ := flatC_get n cs k hk
  exact ⟨b, off, e, hz, hc _ _ g0, by rw [Nat.add_assoc]; exact hc _ _ g1, by rw [Nat.add_assoc]; exact hc _ _ g2⟩
theorem rowI_at {w wr : World} {q : Option Addr} {xs : List Int} (h : RowV w q (flatI xs)) {k : Nat} (hk : k < xs.length) {N : Nat} (hN : w.heap.size ≤ N) (hb : Below N w wr) :
    ∃ b off, q = some ⟨b, off, none⟩ ∧ b < w.heap.size ∧ wr.cell? ⟨b, off + k, none⟩ = some (.int .i64 (xs.getD k 0)) := by
  obtain ⟨b, off, e, hz, hc⟩ := h.at (k := k) (by rw [flatI_length]; exact hk) hN hb
  exact ⟨b, off, e, hz, hc _ _ (flatI_get xs k hk)⟩
theorem rowU_at {w wr : World} {q : Option Addr} {xs : List Nat} (h : RowV w q (flatU xs)) {k : Nat} (hk : k < xs.length) {N : Nat} (hN : w.heap.size ≤ N) (hb : Below N w wr) :
    ∃ b off, q = some ⟨b, off, none⟩ ∧ b < w.heap.size ∧ wr.cell? ⟨b, off + k, none⟩ = some (.int .u64 (xs.getD k 0 : Nat)) := by
  obtain ⟨b, off, e, hz, hc⟩ := h.at (k := k) (by rw [flatU_length]; exact hk) hN hb
  exact ⟨b, off, e, hz, hc _ _ (flatU_get xs k hk)⟩

theorem addr_add (g j : Nat) : (⟨g, 0, none⟩ : Addr).add j = ⟨g, j, none⟩ := by unfold Addr.add; split <;> simp_all
theorem addr_add_off (b off j : Nat) : (⟨b, off, none⟩ : Addr).add j = ⟨b, off + j, none⟩ := by unfold Addr.add; split <;> simp_all
/-- what owns a row reads as the values -/
theorem rowV_of_owns {w : World} {base : Nat} {e : TypeId} {size : Nat} {v : Value} {n : Nat} {vs : List Value} (h : w.ownsRow base e size v n vs) (h0 : n = 0 → vs = []) :
    ∃ q cap, v = .slice q n cap ∧ RowV w q vs ∧ (q = none → cap = 0) ∧ ∀ a, q = some a → base ≤ a.block ∧ a.block < w.heap.size := by
  have hlt := h.lt
  have hc := fun g hg => h.cells (g := g) hg
  obtain ⟨_, ⟨rfl, hn⟩ | ⟨g, cap, cur, rfl, hb, _⟩⟩ := h
  · exact ⟨none, 0, by rw [hn], .inl (h0 hn), fun _ => rfl, by simp⟩
  · refine ⟨_, cap, rfl, .inr ⟨g, 0, rfl, (hlt g rfl).2, fun i u hi => ?_⟩, by simp, fun a ha => ?_⟩
    · rw [Nat.zero_add, ← addr_add g i]
      exact hc g rfl _ _ hi
    · injection ha with ha; subst ha; exact ⟨hb, (hlt g rfl).2⟩
theorem owns_below {w w' : World} {base : Nat} {e : TypeId} {size : Nat} {v : Value} {n : Nat} {xs : List Value} (h : w.ownsRow base e size v n xs) {N : Nat} (hN : w.heap.size ≤ N) (hb : Below N w w') : w'.ownsRow base e size v n xs := by
  have hlt := h.lt
  obtain ⟨h1, h2 | ⟨g, cap, cur, rfl, hg, hh, r⟩⟩ := h
  · exact ⟨h1, .inl h2⟩
  · have := (hlt g rfl).2
    exact ⟨h1, .inr ⟨g, cap, cur, rfl, hg, (hb.block g (by omega)).trans hh, r⟩⟩
theorem grown_below {w w' : World} {base : Nat} {e : TypeId} {size : Nat} {v : Value} {n : Nat} {xs : List Value} (hown : w.ownsRow base e size v n xs) (hb : base ≤ w.heap.size) (hg : w.grownBy w' v.ownBlock) : Below base w w' :=
  (Below.refl base w).grown hg hb fun k hk => (hown.lt k hk).1

/-! one step of a loop over a list -/
theorem getD_take {α : Type} (l : List α) (k : Nat) (d : α) (h : k < l.length) : l.take (k + 1) = l.take k ++ [l.getD k d] := by
  rw [List.take_succ_eq_append_getElem h, getD_eq l k d h]
theorem foldl_take {α β : Type} (f : β → α → β) (a : β) (l : List α) (k : Nat) (d : α) (h : k < l.length) : (l.take (k + 1)).foldl f a = f ((l.take k).foldl f a) (l.getD k d) := by
  rw [getD_take l k d h, List.foldl_append]; rfl
theorem map_take_succ {α β : Type} (f : α → β) (l : List α) (k : Nat) (d : α) (h : k < l.length) : (l.take (k + 1)).map f = (l.take k).map f ++ [f (l.getD k d)] := by
  rw [getD_take l k d h, List.map_append]; rfl
theorem filter_take_succ {α : Type} (p : α → Bool) (l : List α) (k : Nat) (d : α) (h : k < l.length) : (l.take (k + 1)).filter p = (l.take k).filter p ++ if p (l.getD k d) then [l.getD k d] else [] := by
  rw [getD_take l k d h, List.filter_append]
  congr 1
  generalize l.getD k d = x
  by_cases hp : p x = true
  · rw [if_pos hp]; simp [hp]
  · rw [if_neg hp]; simp [hp]
def rangeF (p : Nat → Bool) (k : Nat) : List Int := ((List.range k).filter p).map fun i : Nat => (i : Int)
theorem rangeF_succ (p : Nat → Bool) (k : Nat) : rangeF p (k + 1) = rangeF p k ++ if p k then [(k : Int)] else [] := by
  unfold rangeF
  rw [List.range_succ, List.filter_append, List.map_append]
  congr 1
  by_cases hp : p k = true <;> simp [hp]
theorem rangeF_len (p : Nat → Bool) (k : Nat) : (rangeF p k).length ≤ k := by
  unfold rangeF
  rw [List.length_map]
  exact Nat.le_trans (List.length_filter_le _ _) (by simp)
theorem leavingS_eq (cs : List Ch) (s : Nat) : leavingS cs s = rangeF (fun i => leavesS s (cs.getD i (0, 0, 0))) cs.length := rfl
theorem listS_eq (s : Nat) : listS s = rangeF (fun i => s.testBit i) 6 := rfl
theorem getD_mem {α : Type} (l : List α) (k : Nat) (d : α) (h : k < l.length) : l.getD k d ∈ l := by rw [getD_eq l k d h]; exact List.getElem_mem h

/-- the first k of a list are none that is looked for -/
def AllNo {α : Type} (f : α → Bool) (l : List α) (k : Nat) : Prop := (l.take k).all (fun a => !f a) = true
theorem AllNo.step {α : Type} {f : α → Bool} {l : List α} {k : Nat} (h : AllNo f l k) (hk : k < l.length) (d : α) :
    (f (l.getD k d) = false → AllNo f l (k + 1)) ∧ (f (l.getD k d) = true → firstIdx f l = k) := by
  rw [getD_eq l k d hk]
  constructor
  · intro e; unfold AllNo at *; rw [all_take_succ _ l k hk, h, e]; rfl
  · intro e; exact firstIdx_hit _ l k hk h e
theorem AllNo.all {α : Type} {f : α → Bool} {l : List α} (h : AllNo f l l.length) : firstIdx f l = -1 :=
  firstIdx_miss _ l (by simpa [AllNo] using h)
theorem AllNo.zero {α : Type} (f : α → Bool) (l : List α) : AllNo f l 0 := by simp [AllNo]

/-- a new list of ints, and an error -/
def RetI (w : World) (l : List Int) (err : Int) (e : Ending) (w' : World) : Prop :=
  ∃ q c, e = .returned (.tuple #[.slice q l.length c, .int .i64 err]) ∧ RowV w' q (flatI l) ∧ (q = none → c = 0) ∧ (∀ a, q = some a → w.heap.size ≤ a.block ∧ a.block < w'.heap.size) ∧ Below w.heap.size w w'
/-- a new row -/
def RetV (w : World) (t size n : Nat) (vs : List Value) (e : Ending) (w' : World) : Prop := ∃ v, e = .returned v ∧ w'.ownsRow w.heap.size t size v n vs ∧ Below w.heap.size w w'

section
variable {P : Program} (w : World)
/-- behind append the list lies where it lay, or in a new block -/
theorem append_row (base : Nat) (t ty e : TypeId) (i : TypeInfo) (z : Value) (size bytes : Nat) (ht : P.underlying t = some (.slice e)) (hi : P.info? e = some i) (hz : i.zero = some z)
    (hsize : i.size = size) (hby : i.bytes = bytes) (v : Value) (n : Nat) (xs : List Value) (hown : w.ownsRow base e size v n xs)
    (a : Addr) (m c : Nat) (news : List Value) (hl : news.length = m * size) (hnews : ∀ j u, news[j]? = some u → w.cell? (a.add j) = some u) (h1 : ∀ u ∈ news, u.oneCell' = true)
    (h63 : n + m ≤ maxLen) (hbytes : (n + m) * bytes ≤ 140737488355328) (hm : 0 < m) (v' : Value) (w' : World)
    (hr : (Builtin.append_ #[t, t] ty #[v, .slice (some a) m c]).run P w = .ok v' w') : v'.ownBlock = v.ownBlock ∨ v'.ownBlock = some w.heap.size := by
  subst hsize
  subst hby
  have hcells := fun g hg => hown.cells (g := g) hg
  have hsmall : n + m ≤ 9223372036854775807 := by simp only [maxLen] at h63; omega
  obtain ⟨hxl, ⟨rfl, rfl⟩ | ⟨g, cap, cur, rfl, hbg, hg, hnc, hcm, hcs, htake⟩⟩ := hown
  · have h := run_append_nil (P := P) w t ty e i z ht hi hz a m c news hl hnews hm (by omega) (by rw [Nat.zero_add] at hbytes; omega)
    rw [h] at hr
    injection hr with e1 _
    exact .inr (by rw [← e1]; rfl)
  · by_cases hroom : n + m ≤ cap
    · have h := run_append_room (P := P) w t ty e i ht hi g n cap cur hg a m c news hl hnews h1 hroom (by rw [hl, hcs, ← Nat.add_mul]; exact Nat.mul_le_mul_right _ hroom)
      rw [h] at hr
      injection hr with e1 _
      exact .inl (by rw [← e1]; rfl)
    · have h := run_append_grow (P := P) w t ty e i z ht hi hz ⟨g, 0, none⟩ n cap xs hxl (hcells g rfl) a m c news hl hnews (by omega) (by omega) (growslice_fits (by omega) hbytes)
      rw [h] at hr
      injection hr with e1 _
      exact .inr (by rw [← e1]; rfl)
theorem wpList_append_blk {ops : Array Oper} {rest : List Oper} {o : Oper} {a : Act} {Q : Exit → Act → World → Prop} (hgd : o.guard = none) (s x : Operand) (t : TypeId)
    (ho : o.op = .call { callee := .builtin .append, args := #[s, x], argTypes := #[t, t] })
    (base : Nat) (e : TypeId) (i : TypeInfo) (z : Value) (size bytes : Nat) (ht : P.underlying t = some (.slice e)) (hi : P.info? e = some i) (hz : i.zero = some z)
    (hsize : i.size = size) (hby : i.bytes = bytes) (hzs : z.cells.size = size) (hsz : 0 < size)
    (v : Value) (n : Nat) (xs : List Value) (hs : a.eval s = v) (hown : w.ownsRow base e size v n xs)
    (ad : Addr) (m c : Nat) (news : List Value) (hx : a.eval x = .slice (some ad) m c) (hl : news.length = m * size) (hnews : ∀ j u, news[j]? = some u → w.cell? (ad.add j) = some u) (h1 : ∀ u ∈ news, u.oneCell' = true)
    (h63 : n + m ≤ maxLen) (hbytes : (n + m) * bytes ≤ 140737488355328) (hbase : base ≤ w.heap.size) (hm : 0 < m)
    (h : ∀ v' w', w'.ownsRow base e size v' (n + m) (xs ++ news) → w.grownBy w' v.ownBlock → (v'.ownBlock = v.ownBlock ∨ v'.ownBlock = some w.heap.size) → wpList P ops Q rest (a.put o.dst v') w') : wpList P ops Q (o :: rest) a w :=
  wpList_plain hgd fun _ hK => by
    obtain ⟨v', w', hr, h2, h3, _⟩ := run_append_own (P := P) w base t o.type e i z size bytes ht hi hz hsize hby hzs hsz v n xs hown ad m c news hl hnews h1 h63 hbytes hbase
    have h5 := append_row (P := P) w base t o.type e i z size bytes ht hi hz hsize hby v n xs hown ad m c news hl hnews h1 h63 hbytes hm v' w' hr
    unfold Oper.wp execOp
    simp only [ho, resolve, invoke, builtin, Sem.run_bind, Sem.run_pure, Result.andThen_ok, List.map_toArray, List.map_cons, List.map_nil, hs, hx, hr]
    exact hK _ _ (h v' w' h2 h3 h5)
/-- append(list, x): one element, which lies in a block of its own -/
theorem app_one {ops : Array Oper} {rest : List Oper} {o : Oper} {a : Act} {Q : Exit → Act → World → Prop} (hgd : o.guard = none) (s x : Operand) (t : TypeId)
    (ho : o.op = .call { callee := .builtin .append, args := #[s, x], argTypes := #[t, t] }) (base : Nat) (e : TypeId) (z : Value) (size bytes : Nat) (ht : P.underlying t = some (.slice e))
    (hinfo : (P.info? e).map (fun i => (i.zero, i.size, i.bytes)) = some (some z, size, bytes)) (hzs : z.cells.size = size) (hsz : 0 < size) (hby : bytes ≤ 64) (v : Value) (n : Nat) (xs : List Value) (hs : a.eval s = v)
    (hown : w.ownsRow base e size v n xs) (B c : Nat) (hx : a.eval x = .slice (some ⟨B, 0, none⟩) 1 c) (news : List Value) (hl : news.length = size)
    (hc : ∀ j u, news[j]? = some u → w.cell? ⟨B, j, none⟩ = some u) (h1 : ∀ u ∈ news, u.oneCell' = true) (hn : n ≤ 1000000) (hbase : base ≤ w.heap.size)
    (h : ∀ v' w', w'.ownsRow base e size v' (n + 1) (xs ++ news) → w.grownBy w' v.ownBlock → (v'.ownBlock = v.ownBlock ∨ v'.ownBlock = some w.heap.size) → wpList P ops Q rest (a.put o.dst v') w') : wpList P ops Q (o :: rest) a w := by
  obtain ⟨i0, hi, hz0, hz1, hz2⟩ := info_parts hinfo
  have hb : (n + 1) * bytes ≤ (n + 1) * 64 := Nat.mul_le_mul_left _ hby
  exact wpList_append_blk w hgd s x t ho base e i0 z size bytes ht hi hz0 hz1 hz2 hzs hsz v n xs hs hown ⟨B, 0, none⟩ 1 c news hx (by omega) (fun j u hj => by rw [addr_add]; exact hc j u hj) h1 (by unfold maxLen; omega) (by omega) hbase (by decide) h
/-- at a step of a region that draws: append(list, x): one element, which lies in a block of its own -/
theorem step_one {ops : Array Oper} {o : Oper} {a : Act} {K : Act → World → Prop} {Q : Exit → Act → World → Prop} {E : Prop} (hgd : o.guard = none) (s x : Operand) (t : TypeId)
    (ho : o.op = .call { callee := .builtin .append, args := #[s, x], argTypes := #[t, t] }) (base : Nat) (e : TypeId) (z : Value) (size bytes : Nat) (ht : P.underlying t = some (.slice e))
    (hinfo : (P.info? e).map (fun i => (i.zero, i.size, i.bytes)) = some (some z, size, bytes)) (hzs : z.cells.size = size) (hsz : 0 < size) (hby : bytes ≤ 64) (v : Value) (n : Nat) (xs : List Value) (hs : a.eval s = v)
    (hown : w.ownsRow base e size v n xs) (B c : Nat) (hx : a.eval x = .slice (some ⟨B, 0, none⟩) 1 c) (news : List Value) (hl : news.length = size)
    (hc : ∀ j u, news[j]? = some u → w.cell? ⟨B, j, none⟩ = some u) (h1 : ∀ u ∈ news, u.oneCell' = true) (hn : n ≤ 1000000) (hbase : base ≤ w.heap.size)
    (h : ∀ g cap w', w'.ownsRow base e size (.slice (some ⟨g, 0, none⟩) (n + 1) cap) (n + 1) (xs ++ news) → w.grownBy w' v.ownBlock → (v.ownBlock = some g ∨ g = w.heap.size) → g < w'.heap.size → K (a.put o.dst (.slice (some ⟨g, 0, none⟩) (n + 1) cap)) w') :
    if Region.wanted o (yielded ops a.tmps) = true then Oper.wp P o a w K Q else E := by
  obtain ⟨i0, hi, hz0, hz1, hz2⟩ := info_parts hinfo
  have hb : (n + 1) * bytes ≤ (n + 1) * 64 := Nat.mul_le_mul_left _ hby
  exact step_append_lies w hgd s x t ho base e i0 z size bytes ht hi hz0 hz1 hz2 hzs hsz v n xs hs hown ⟨B, 0, none⟩ 1 c news hx (by omega) (fun j u hj => by rw [addr_add]; exact hc j u hj) h1 (by decide) (by unfold maxLen; omega) (by omega) hbase _ rfl h
end
end Go.Proofs.Ytadamjleglckpaa.drn

/- Package drain, the walks (a seat of stage 2: numbers by name: fill2.py): a gallery in a set; drains, by the type switch. -/
namespace Go.Proofs.Ytadamjleglckpaa
open Go.RowKit
theorem as_mm (v : Value) (w : World) : (Instr.typeAssert (.iface 119 v) 73 119 true).run Try.prog w = .ok (.tuple #[v, .bool true]) w := by kernel_rfl
theorem as_gm (v : Value) (w : World) : (Instr.typeAssert (.iface 83 v) 73 119 true).run Try.prog w = .ok (.tuple #[.int .i64 0, .bool false]) w := by kernel_rfl
theorem as_gg (v : Value) (w : World) : (Instr.typeAssert (.iface 83 v) 73 83 true).run Try.prog w = .ok (.tuple #[v, .bool true]) w := by kernel_rfl
attribute [local go_sem ↓] as_mm as_gm as_gg
theorem bit_u (s k : Nat) (hs : s < 4096) : (bits BinOp.and IntKind.u64 ((s : Int) / 2 ^ k) 1 == 1) = s.testBit k := by
  have h := Nat.div_le_self s (2 ^ k)
  have e : ((s : Int) / 2 ^ k) = ((s / 2 ^ k : Nat) : Int) := by simp
  rw [e, Nat.testBit_eq_decide_div_mod_eq]
  generalize s / 2 ^ k = m at *
  rw [and_one_u64 _ (by omega) (by omega)]
  by_cases h1 : m % 2 = 1
  · have e1 : (m : Int) % 2 = 1 := by omega
    rw [e1, h1]; rfl
  · have h0 : m % 2 = 0 := by omega
    have e1 : (m : Int) % 2 = 0 := by omega
    rw [e1, h0]; rfl
/-- is a gallery in a set? -/
theorem in_any (g s : Nat) (w : World) (hg : g < 6) (hs : s < 64) : Calls Try.prog 47 #[.int .i64 g, .int .u64 s] w fun e w' => e = .returned (.bool (s.testBit g)) ∧ w = w' := by
  go_enter Try.func47, Try.ntmps47
  go_wp2
  go_ret
  exact ⟨by rw [← bit_u s g (by omega)]; rfl, rfl⟩
set_option maxRecDepth 100000 in
theorem drainsM_any (g s : Nat) (w : World) : Calls Try.prog 81 #[.iface 119 (.int .i64 g), .int .u64 s] w fun e w' => e = .returned (.bool true) ∧ w = w' := by
  go_enter Try.func81, Try.ntmps81
  go_wp2
  go_ret
  exact ⟨rfl, rfl⟩
set_option maxRecDepth 100000 in
theorem drainsG_any (g s : Nat) (w : World) (hg : g < 6) (hs : s < 64) : Calls Try.prog 81 #[.iface 83 (.int .i64 g), .int .u64 s] w fun e w' => e = .returned (.bool (s.testBit g)) ∧ w = w' := by
  go_enter Try.func81, Try.ntmps81
  go_wp2_with (go_at_call 47; refine (in_any g s _ hg hs).mono ?_; rintro e w1 ⟨rfl, rfl⟩)
  go_ret
  exact ⟨rfl, rfl⟩

/-- is a number a gallery's? -/
theorem hasGallery_any (n g : Int) (q : Option Addr) (m c : Nat) (w : World) :
    Calls Try.prog 38 #[.agg #[.int .i64 n, .slice q m c], .int .i64 g] w fun e w' => e = .returned (.bool (decide (0 ≤ g) && decide (g < n))) ∧ Below w.heap.size w w' := by
  have hb0 : Below w.heap.size w (w.alloc (.cells #[.int .i64 n, .slice q m c] 24)) := (Below.refl _ _).alloc (Nat.le_refl _) _
  by_cases h : 0 ≤ g
  · go_enter Try.func38, Try.ntmps38
    go_wp2
    go_ret
    exact ⟨by simp [h], hb0⟩
  · go_enter Try.func38, Try.ntmps38
    go_wp2
    go_ret
    exact ⟨by simp; omega, hb0⟩
/-- the place with a number -/
theorem placeOf_any (n g : Int) (q : Option Addr) (m c : Nat) (w : World) :
    Calls Try.prog 40 #[.agg #[.int .i64 n, .slice q m c], .int .i64 g] w fun e w' => e = .returned (.iface (if g = n then 119 else 83) (.int .i64 g)) ∧ Below w.heap.size w w' := by
  have hb0 : Below w.heap.size w (w.alloc (.cells #[.int .i64 n, .slice q m c] 24)) := (Below.refl _ _).alloc (Nat.le_refl _) _
  by_cases h : g = n
  · subst h
    go_enter Try.func40, Try.ntmps40
    go_wp2
    go_ret
    exact ⟨rfl, hb0⟩
  · have hb : (g == n) = false := beq_eq_false_iff_ne.2 h
    go_enter Try.func40, Try.ntmps40
    go_wp2
    go_ret
    first | exact ⟨rfl, hb0⟩ | exact ⟨by simp [h], hb0⟩
end Go.Proofs.Ytadamjleglckpaa

/- Package drain, the walks: Check, with checkChannel, and slices.ContainsFunc at channels of a hill. -/
namespace Go.Proofs.Ytadamjleglckpaa.drn
open Go.RowKit
set_option linter.unusedSimpArgs false
set_option linter.unusedVariables false

/-- a hill's value -/
def hillV (n : Int) (q : Option Addr) (m c : Nat) : Value := .agg #[.int .i64 n, .slice q m c]
def chV (c : Ch) : Value := .agg #[.int .i64 c.1, .int .i64 c.2.1, .int .i64 c.2.2]
theorem isGal_eq (n g : Int) : (decide (0 ≤ g) && decide (g < n)) = isGal n g := rfl

set_option maxHeartbeats 2000000 in
theorem checkChannel_any (n : Int) (q : Option Addr) (m cap : Nat) (c : Ch) (w : World) :
    Calls Try.prog 78 #[hillV n q m cap, chV c] w fun e w' => e = .returned (.int .i64 (chErr n c)) ∧ Below w.heap.size w w' := by
  obtain ⟨x, y, z⟩ := c
  unfold hillV chV
  have hb0 : Below w.heap.size w ((w.alloc (.cells #[.int .i64 n, .slice q m cap] 24)).alloc (.cells #[.int .i64 x, .int .i64 y, .int .i64 z] 45)) := ((Below.refl _ _).alloc (Nat.le_refl _) _).alloc (by simp) _
  go_enter Try.func78, Try.ntmps78
  go_wp2
  go_quiet (fail)
  go_wp2_with (go_at_call 38; refine (hasGallery_any _ _ _ _ _ _).mono ?_; rintro e w1 ⟨rfl, hb1⟩; obtain ⟨hc1, hf1⟩ := bcell hb1; have hz1 : w.heap.size + 1 < w1.heap.size := (by have := hb1.size; first | omega | (simp at this; omega)); have hz0 : w.heap.size < w1.heap.size := Nat.lt_of_succ_lt hz1; have hac : Below w.heap.size w w1 := (by first | exact (below_drewN hb0 _).on hb1 | exact hb0.drew.on hb1 | exact Below.on (by assumption) hb1))
  all_goals go_ret
  all_goals refine ⟨ret_int ?_, by assumption⟩
  all_goals clear hb0
  all_goals unfold chErr isGal
  all_goals first | grind | (simp_all; done)

/-- a channel that a closure has captured -/
def ChanAt (w : World) (B : Nat) (c : Ch) : Prop := B < w.heap.size ∧ w.cell? ⟨B, 0, none⟩ = some (.int .i64 c.1) ∧ w.cell? ⟨B, 1, none⟩ = some (.int .i64 c.2.1) ∧ w.cell? ⟨B, 2, none⟩ = some (.int .i64 c.2.2)
theorem ChanAt.below {w w' : World} {B : Nat} {c : Ch} (h : ChanAt w B c) {N : Nat} (hN : w.heap.size ≤ N) (hb : Below N w w') : ChanAt w' B c :=
  ⟨Nat.lt_of_lt_of_le h.1 hb.size, (hb.cell (p := ⟨B, 0, none⟩) (Nat.lt_of_lt_of_le h.1 hN)).trans h.2.1, (hb.cell (p := ⟨B, 1, none⟩) (Nat.lt_of_lt_of_le h.1 hN)).trans h.2.2.1, (hb.cell (p := ⟨B, 2, none⟩) (Nat.lt_of_lt_of_le h.1 hN)).trans h.2.2.2⟩
def sameEnds (c d : Ch) : Bool := d.1 == c.1 && d.2.1 == c.2.1
theorem Check1_any (B : Nat) (c d : Ch) (w : World) (hB : ChanAt w B c) :
    Calls Try.prog 80 #[chV d, .pointer (some ⟨B, 0, none⟩)] w fun e w' => e = .returned (.bool (sameEnds c d)) ∧ Below w.heap.size w w' := by
  obtain ⟨h1, h2, h3, h4⟩ := hB
  obtain ⟨x, y, z⟩ := d
  unfold chV
  have hb0 : Below w.heap.size w (w.alloc (.cells #[.int .i64 x, .int .i64 y, .int .i64 z] 45)) := (Below.refl _ _).alloc (Nat.le_refl _) _
  by_cases he : x = c.1
  · have hx : (x == c.1) = true := by simpa using he
    go_enter Try.func80, Try.ntmps80
    go_wp2
    go_ret
    exact ⟨ret_bool (by simp [sameEnds, hx]), by first | exact hb0 | (rw [← he]; exact hb0)⟩
  · have hx : (x == c.1) = false := by simpa using he
    go_enter Try.func80, Try.ntmps80
    go_wp2
    go_ret
    exact ⟨ret_bool (by simp [sameEnds, hx]), hb0⟩

theorem indexT_any (B : Nat) (c : Ch) (q : Option Addr) (cap : Nat) (cs : List Ch) (w : World) (hB : ChanAt w B c) (hr : RowV w q (flatT cs)) (hl : cs.length ≤ 1000000) :
    Calls Try.prog 99 #[.slice q cs.length cap, .func (.func 80) #[] #[.pointer (some ⟨B, 0, none⟩)]] w fun e w' => e = .returned (.int .i64 (firstIdx (sameEnds c) cs)) ∧ Below w.heap.size w w' := by
  go_enter Try.func99, Try.ntmps99
  go_wp2
  go_loopw [8] (fun i wr => ∃ k : Nat, k ≤ cs.length ∧ i = .int .i64 k ∧ AllNo (sameEnds c) cs k ∧ Below w.heap.size w wr) (fun i _ => cs.length - (intOf i).toNat)
  case atStart => exact ⟨0, Nat.zero_le _, rfl, AllNo.zero _ _, Below.refl _ _⟩
  case round =>
    obtain ⟨k, hk, rfl, hall, hbel⟩ := hrel
    by_cases hlt : k < cs.length
    · obtain ⟨b, off, rfl, hb, h1, h2, h3⟩ := rowT_at hr hlt (Nat.le_refl _) hbel
      have hst := hall.step hlt (0, 0, 0)
      have hBk := hB.below (Nat.le_refl _) hbel
      generalize cs.getD k (0, 0, 0) = g at h1 h2 h3 hst
      have HST := Lib.hid hst
      clear hst
      go_wp2_with (go_at_call 80; refine (Check1_any B c g _ hBk).mono ?_; rintro e w' ⟨rfl, hb'⟩)
      · have hf : sameEnds c g = true := by assumption
        go_ret
        exact ⟨ret_int (HST.out.2 hf).symm, hbel.on hb'⟩
      · have hf : sameEnds c g = false := by assumption
        go_roundw
        case rel => exact ⟨k + 1, hlt, by go_num, HST.out.1 hf, hbel.on hb'⟩
        case measure => simp [intOf]; omega
    · obtain rfl : k = cs.length := by omega
      go_wp2
      go_ret
      exact ⟨ret_int hall.all.symm, hbel⟩
theorem containsT_any (B : Nat) (c : Ch) (q : Option Addr) (cap : Nat) (cs : List Ch) (w : World) (hB : ChanAt w B c) (hr : RowV w q (flatT cs)) (hl : cs.length ≤ 1000000) :
    Calls Try.prog 79 #[.slice q cs.length cap, .func (.func 80) #[] #[.pointer (some ⟨B, 0, none⟩)]] w fun e w' => e = .returned (.bool (cs.any (sameEnds c))) ∧ Below w.heap.size w w' := by
  go_enter Try.func79, Try.ntmps79
  go_wp2_with (go_at_call 99; refine (indexT_any B c q cap cs _ hB hr hl).mono ?_; rintro e w' ⟨rfl, hb⟩)
  go_ret
  exact ⟨ret_bool (firstIdx_any _ _), hb⟩

theorem csErr_at (n : Int) (cs : List Ch) (k : Nat) (hk : k < cs.length) : csErr n (cs.take k) (cs.drop k) =
    if chErr n (cs.getD k (0, 0, 0)) ≠ 0 then chErr n (cs.getD k (0, 0, 0)) else if (cs.take k).any (sameEnds (cs.getD k (0, 0, 0))) then 6 else csErr n (cs.take (k + 1)) (cs.drop (k + 1)) := by
  rw [getD_take cs k (0, 0, 0) hk, List.drop_eq_getElem_cons hk, ← getD_eq cs k (0, 0, 0) hk]
  rfl
theorem flatT_take : ∀ (cs : List Ch) (k : Nat), flatT (cs.take k) = (flatT cs).take (k * 3)
  | [], k => by simp [flatT]
  | c :: r, 0 => by simp [flatT]
  | c :: r, k + 1 => by
    have ih := flatT_take r k
    have e : flatT (c :: r) = .int .i64 c.1 :: .int .i64 c.2.1 :: .int .i64 c.2.2 :: flatT r := by simp [flatT]
    have e2 : flatT (c :: r.take k) = .int .i64 c.1 :: .int .i64 c.2.1 :: .int .i64 c.2.2 :: flatT (r.take k) := by simp [flatT]
    rw [List.take_succ_cons, e, e2, ih, show (k + 1) * 3 = k * 3 + 1 + 1 + 1 by omega, List.take_succ_cons, List.take_succ_cons, List.take_succ_cons]
theorem RowV.take {w : World} {q : Option Addr} {vs : List Value} (h : RowV w q vs) (m : Nat) : RowV w q (vs.take m) := by
  rcases h with rfl | ⟨b, off, e, hz, hc⟩
  · exact .inl (by simp)
  · refine .inr ⟨b, off, e, hz, fun i v hi => hc i v ?_⟩
    rw [List.getElem?_take] at hi
    split at hi
    · exact hi
    · cases hi

set_option maxHeartbeats 2000000 in
theorem Check_any (n : Int) (q : Option Addr) (cap : Nat) (cs : List Ch) (w : World) (hr : RowV w q (flatT cs)) (hcap : cs.length ≤ cap) :
    Calls Try.prog 45 #[hillV n q cs.length cap] w fun e w' => e = .returned (.int .i64 (errD n cs)) ∧ Below w.heap.size w w' := by
  unfold hillV
  have hb0 : Below w.heap.size w (w.alloc (.cells #[.int .i64 n, .slice q cs.length cap] 24)) := (Below.refl _ _).alloc (Nat.le_refl _) _
  by_cases hn : n < 1 ∨ 6 < n
  · rcases hn with hn | hn
    · go_enter Try.func45, Try.ntmps45
      go_wp2
      go_ret
      exact ⟨ret_int (by rw [errD, if_pos (.inl hn)]), hb0⟩
    · have hn0 : ¬ n < 1 := by omega
      go_enter Try.func45, Try.ntmps45
      go_wp2
      go_ret
      exact ⟨ret_int (by rw [errD, if_pos (.inr hn)]), hb0⟩
  · have hn1 : ¬ n < 1 := by omega
    have hn2 : ¬ 6 < n := by omega
    by_cases h14 : 14 < cs.length
    · have h14' : (14 : Int) < (cs.length : Int) := by omega
      go_enter Try.func45, Try.ntmps45
      go_wp2
      go_ret
      exact ⟨ret_int (by rw [errD, if_neg hn, if_pos h14]), hb0⟩
    · have h14' : ¬ (14 : Int) < (cs.length : Int) := by omega
      have hd : errD n cs = csErr n [] cs := by rw [errD, if_neg hn, if_neg h14]
      have hr0 := hr.below (Nat.le_refl _) hb0
      have HD := Lib.hid hd
      have HN := Lib.hid hn
      have HB0 := Lib.hid hb0
      clear hn hd
      go_enter Try.func45, Try.ntmps45
      go_wp2
      clear h14' hn1 hn2
      obtain ⟨W0, hW0⟩ : ∃ W0, w.alloc (.cells #[.int .i64 n, .slice q cs.length cap] 24) = W0 := ⟨_, rfl⟩
      have hz0 : w.heap.size < W0.heap.size := by rw [← hW0]; simp
      have hc0 : W0.cell? ⟨w.heap.size, 0, none⟩ = some (.int .i64 n) ∧ W0.cell? ⟨w.heap.size, 1, none⟩ = some (.slice q cs.length cap) := by rw [← hW0]; simp
      obtain ⟨c0, c1⟩ := hc0
      rw [hW0] at hr0 hb0 ⊢
      clear hW0 HB0
      go_loopw [21] (fun i wr => ∃ k : Nat, k ≤ cs.length ∧ i = .int .i64 k ∧ csErr n (cs.take k) (cs.drop k) = csErr n [] cs ∧ Below W0.heap.size W0 wr) (fun i _ => cs.length - (intOf i).toNat)
      case atStart => exact ⟨0, Nat.zero_le _, rfl, rfl, Below.refl _ _⟩
      case round =>
        obtain ⟨k, hk, rfl, hrest, hbel⟩ := hrel
        by_cases hlt : k < cs.length
        · obtain ⟨b, off, rfl, hb, h1, h2, h3⟩ := rowT_at hr0 hlt (Nat.le_refl _) hbel
          have d0 : wr.cell? ⟨w.heap.size, 0, none⟩ = some (.int .i64 n) := (hbel.cell (p := ⟨w.heap.size, 0, none⟩) hz0).trans c0
          have d1 : wr.cell? ⟨w.heap.size, 1, none⟩ = some (.slice (some ⟨b, off, none⟩) cs.length cap) := (hbel.cell (p := ⟨w.heap.size, 1, none⟩) hz0).trans c1
          have hz1 : w.heap.size < wr.heap.size := Nat.lt_of_lt_of_le hz0 hbel.size
          have hst := csErr_at n cs k hlt
          rw [hrest, ← HD.out] at hst
          have hrk := (hr0.below (Nat.le_refl _) hbel).take (k * 3)
          rw [← flatT_take] at hrk
          have hkl : (cs.take k).length = k := by simp; omega
          generalize cs.getD k (0, 0, 0) = g at h1 h2 h3 hst
          generalize cs.take k = pre at hrest hst hrk hkl
          have HST := Lib.hid hst
          have HR := Lib.hid hrest
          have HRK := Lib.hid hrk
          have HKL := Lib.hid hkl
          clear hst hrest hrk hkl c0 c1
          go_wp2_with (first
            | (go_at_call 78; refine (checkChannel_any n _ _ _ g _).mono ?_; rintro e w1 ⟨rfl, hb1⟩; obtain ⟨hc1, hf1⟩ := bcell hb1; have hac : Below wr.heap.size wr w1 := ((Below.refl _ _).alloc (Nat.le_refl _) _).on hb1; have hz2 : w.heap.size < w1.heap.size := Nat.lt_of_lt_of_le hz1 hac.size; have hz3 : wr.heap.size < w1.heap.size := (by have := hb1.size; simp at this; omega))
            | (go_at_call 79; have hcc := containsT_any wr.heap.size g (some ⟨b, off, none⟩) cap pre w1 ⟨hz3, (by rw [hc1 _ _ (by simp)]; simp), (by rw [hc1 _ _ (by simp)]; simp), (by rw [hc1 _ _ (by simp)]; simp)⟩ (HRK.out.below (Nat.le_refl _) hac) (by rw [HKL.out]; omega); rw [HKL.out] at hcc; refine hcc.mono ?_; rintro e w2 ⟨rfl, hb2⟩))
          · have hne : chErr n g ≠ 0 := by simpa using (by assumption : (chErr n g != 0) = true)
            go_ret
            exact ⟨ret_int (by rw [HST.out, if_pos hne]), hb0.on (hbel.on hac)⟩
          · have hne : chErr n g = 0 := by simpa using (by assumption : (chErr n g != 0) = false)
            have hany : pre.any (sameEnds g) = true := by assumption
            go_ret
            exact ⟨ret_int (by rw [HST.out, if_neg (by rw [hne]; decide), if_pos hany]), hb0.on (hbel.on (hac.on hb2))⟩
          · have hne : chErr n g = 0 := by simpa using (by assumption : (chErr n g != 0) = false)
            have hany : pre.any (sameEnds g) = false := by assumption
            go_roundw
            case rel => exact ⟨k + 1, hlt, by go_num, by rw [← HD.out, HST.out, if_neg (by rw [hne]; decide), if_neg (by rw [hany]; decide)], hbel.on (hac.on hb2)⟩
            case measure => simp [intOf]; omega
        · obtain rfl : k = cs.length := by omega
          go_wp2
          go_ret
          exact ⟨ret_int (by rw [HD.out, ← hrest, List.take_length, List.drop_length]; rfl), hb0.on hbel⟩
end Go.Proofs.Ytadamjleglckpaa.drn

/- Package drain, the walks: sets of galleries (alone, allOf, setOf, list, size, within), channels that leave one. -/
namespace Go.Proofs.Ytadamjleglckpaa.drn
open Go.RowKit
set_option linter.unusedSimpArgs false
set_option linter.unusedVariables false

theorem or_u (a b : Nat) (ha : a < 4096) (hb : b < 4096) : bits BinOp.or IntKind.u64 (a : Int) (b : Int) = ((a ||| b : Nat) : Int) := bits_or_u64_nat a b (by omega) (by omega)
theorem andNot_u (s t : Nat) (hs : s < 64) (ht : t < 64) : (bits .andNot .u64 (s : Int) (t : Int) == 0) = (s &&& t == s) := by
  have h := u64_andNot_nat s t (by omega) (by omega)
  rw [h]
  have key : (s &&& (18446744073709551615 - t) = 0) ↔ (s &&& t = s) := by
    have e : ∀ i, (18446744073709551615 - t).testBit i = (decide (i < 64) && !t.testBit i) := fun i => by
      have := Nat.testBit_two_pow_sub_succ (n := 64) (x := t) (by omega) i
      have e2 : 18446744073709551615 - t = 2 ^ 64 - (t + 1) := by omega
      rw [e2, this]
    constructor
    · intro h0
      apply Nat.eq_of_testBit_eq
      intro i
      have h1 := congrArg (fun x => x.testBit i) h0
      simp only [Nat.testBit_and, e, Nat.zero_testBit] at h1
      rw [Nat.testBit_and]
      by_cases hi : i < 64
      · cases h2 : s.testBit i <;> cases h3 : t.testBit i <;> simp_all
      · have : s.testBit i = false := Nat.testBit_lt_two_pow (Nat.lt_of_lt_of_le hs (Nat.le_trans (by decide : 64 ≤ 2 ^ 64) (Nat.pow_le_pow_right (by decide) (by omega))))
        simp [this]
    · intro h0
      apply Nat.eq_of_testBit_eq
      intro i
      have h1 := congrArg (fun x => x.testBit i) h0
      simp only [Nat.testBit_and] at h1
      rw [Nat.testBit_and, e, Nat.zero_testBit]
      cases h2 : s.testBit i <;> cases h3 : t.testBit i <;> simp_all
  by_cases h0 : s &&& t = s
  · have := key.2 h0
    simp [h0, this]
  · have h1 : ¬ (s &&& (18446744073709551615 - t) = 0) := fun x => h0 (key.1 x)
    have e1 : (s &&& t == s) = false := beq_eq_false_iff_ne.2 h0
    rw [e1]
    exact beq_eq_false_iff_ne.2 (by omega)
theorem shl_u : ∀ g : Nat, g < 6 → IntKind.u64.wrap ((2 : Int) ^ g) = ((1 <<< g : Nat) : Int) := by decide
theorem all_u : ∀ n : Nat, n < 7 → IntKind.u64.wrap (IntKind.u64.wrap ((2 : Int) ^ n) - 1) = (allS n : Nat) := by decide
theorem meth_m (v : Value) (w : World) : (method 261 119 v "novaculite/drain.in").run Try.prog w = .ok (123, v) w := by kernel_rfl
theorem meth_g (v : Value) (w : World) : (method 261 83 v "novaculite/drain.in").run Try.prog w = .ok (47, v) w := by kernel_rfl
attribute [local go_sem ↓] meth_m meth_g
/-- the set of one gallery -/
def oneS (g : Nat) : Nat := 1 <<< g
theorem oneS_lt {g : Nat} (h : g < 6) : oneS g < 64 := by unfold oneS; rw [Nat.one_shiftLeft]; exact Nat.lt_of_lt_of_le (Nat.pow_lt_pow_right (by decide) h) (by decide)
theorem or_lt {s t : Nat} (hs : s < 64) (ht : t < 64) : s ||| t < 64 := Nat.or_lt_two_pow (n := 6) hs ht
theorem alone_any (g : Nat) (w : World) (hg : g < 6) : Calls Try.prog 48 #[.int .i64 g] w fun e w' => e = .returned (.int .u64 (oneS g : Nat)) ∧ w = w' := by
  go_enter Try.func48, Try.ntmps48
  go_wp2
  go_ret
  refine ⟨?_, rfl⟩
  show Ending.returned (.int .u64 (IntKind.u64.wrap ((2 : Int) ^ g))) = _
  rw [shl_u g hg]
  rfl
theorem allOf_any (n : Nat) (q : Option Addr) (m c : Nat) (w : World) (hn : n ≤ 6) : Calls Try.prog 49 #[hillV n q m c] w fun e w' => e = .returned (.int .u64 (allS n : Nat)) ∧ Below w.heap.size w w' := by
  unfold hillV
  have hb0 : Below w.heap.size w (w.alloc (.cells #[.int .i64 n, .slice q m c] 24)) := (Below.refl _ _).alloc (Nat.le_refl _) _
  go_enter Try.func49, Try.ntmps49
  go_wp2
  go_ret
  refine ⟨?_, hb0⟩
  show Ending.returned (.int .u64 (IntKind.u64.wrap (IntKind.u64.wrap ((2 : Int) ^ n) - 1))) = _
  rw [all_u n (by omega)]
theorem within_any (s t : Nat) (w : World) (hs : s < 64) (ht : t < 64) : Calls Try.prog 94 #[.int .u64 s, .int .u64 t] w fun e w' => e = .returned (.bool (s &&& t == s)) ∧ w = w' := by
  go_enter Try.func94, Try.ntmps94
  go_wp2
  go_ret
  exact ⟨by rw [← andNot_u s t hs ht]; rfl, rfl⟩
theorem size_any (s : Nat) (w : World) (hs : s < 64) : Calls Try.prog 75 #[.int .u64 s] w fun e w' => e = .returned (.int .i64 (sizeS s : Nat)) ∧ w = w' := by
  go_enter Try.func75, Try.ntmps75
  go_wp2
  go_ret
  refine ⟨?_, rfl⟩
  refine congrArg (fun z : Int => Ending.returned (Value.int .i64 z)) ?_
  revert s
  decide +kernel
theorem inM_any (g s : Nat) (w : World) : Calls Try.prog 123 #[.int .i64 g, .int .u64 s] w fun e w' => e = .returned (.bool false) ∧ w = w' := by
  go_enter Try.func123, Try.ntmps123
  go_wp2
  go_ret
  exact ⟨rfl, rfl⟩
set_option maxRecDepth 100000 in
theorem leaves_any (n s : Nat) (c : Ch) (w : World) (hn : n ≤ 6) (hc : ChOk n c) (hs : s < 2 ^ n) :
    Calls Try.prog 84 #[.agg #[.int .i64 c.1, plV n c.2.1, .int .i64 c.2.2], .int .u64 s] w fun e w' => e = .returned (.bool (leavesS s c)) ∧ Below w.heap.size w w' := by
  obtain ⟨x, y, z⟩ := c
  obtain ⟨⟨x0, x1⟩, ⟨y0, y1⟩, _, _, _⟩ := hc
  dsimp only at *
  obtain ⟨x, rfl⟩ : ∃ k : Nat, x = k := ⟨x.toNat, by omega⟩
  obtain ⟨y, rfl⟩ : ∃ k : Nat, y = k := ⟨y.toNat, by omega⟩
  have hs64 : s < 64 := Nat.lt_of_lt_of_le hs (Nat.pow_le_pow_right (by decide) hn)
  have hx : x < 6 := by omega
  have hb0 : Below w.heap.size w (w.alloc (.cells #[.int .i64 x, plV n y, .int .i64 z] 85)) := (Below.refl _ _).alloc (Nat.le_refl _) _
  have HB := Lib.hid hb0
  clear hb0
  by_cases hy : y = n
  · subst hy
    have e : plV y y = .iface 119 (.int .i64 y) := by simp [plV]
    rw [e]
    go_enter Try.func84, Try.ntmps84
    go_wp2_with (first
      | (go_at_call 47; refine (in_any x s _ hx hs64).mono ?_; rintro e w1 ⟨rfl, rfl⟩)
      | (go_at_call 123; refine (inM_any y s _).mono ?_; rintro e w1 ⟨rfl, rfl⟩))
    all_goals go_ret
    all_goals refine ⟨ret_bool ?_, by have hb := HB.out; rw [e] at hb; exact hb⟩
    all_goals have hyf : s.testBit y = false := Nat.testBit_lt_two_pow hs
    all_goals simp_all [leavesS, inS]
  · have e : plV n y = .iface 83 (.int .i64 y) := by simp only [plV]; rw [if_neg (by omega)]
    rw [e]
    have hy6 : y < 6 := by omega
    go_enter Try.func84, Try.ntmps84
    go_wp2_with (go_at_call 47; refine (in_any _ _ _ ?_ ?_).mono ?_; (focus assumption); (focus assumption); rintro e w1 ⟨rfl, rfl⟩)
    all_goals go_ret
    all_goals refine ⟨ret_bool ?_, by have hb := HB.out; rw [e] at hb; exact hb⟩
    all_goals simp_all [leavesS, inS]
end Go.Proofs.Ytadamjleglckpaa.drn

/- Package drain, the walks: setOf, list, leaving. -/
namespace Go.Proofs.Ytadamjleglckpaa.drn
open Go.RowKit
set_option linter.unusedSimpArgs false
set_option linter.unusedVariables false

theorem infoI : (Try.prog.info? 3).map (fun i => (i.zero, i.size, i.bytes)) = some (some (.int .i64 0), 1, 8) := by kernel_rfl
/-- append(list, n): ints -/
theorem app_int (w : World) {ops : Array Oper} {rest : List Oper} {o : Oper} {a : Act} {Q : Exit → Act → World → Prop} (hgd : o.guard = none) (s x : Operand)
    (ho : o.op = .call { callee := .builtin .append, args := #[s, x], argTypes := #[25, 25] }) (base : Nat) (v : Value) (xs : List Int) (n : Int) (hs : a.eval s = v)
    (hown : w.ownsRow base 3 1 v xs.length (flatI xs)) (B c : Nat) (hx : a.eval x = .slice (some ⟨B, 0, none⟩) 1 c)
    (hc1 : w.cell? ⟨B, 0, none⟩ = some (.int .i64 n)) (hl : xs.length ≤ 1000000) (hbase : base ≤ w.heap.size)
    (h : ∀ v' w', w'.ownsRow base 3 1 v' (xs ++ [n]).length (flatI (xs ++ [n])) → w.grownBy w' v.ownBlock → (v'.ownBlock = v.ownBlock ∨ v'.ownBlock = some w.heap.size) → wpList Try.prog ops Q rest (a.put o.dst v') w') :
    wpList Try.prog ops Q (o :: rest) a w := by
  refine app_one w hgd s x 25 ho base 3 _ 1 8 Try.underlying25 infoI rfl (by decide) (by decide) v xs.length (flatI xs) hs hown B c hx [.int .i64 n] rfl ?_ ?_ hl hbase ?_
  · intro j u hj
    match j, hj with
    | 0, hj => simp at hj; subst hj; exact hc1
  · intro u hu; simp at hu; subst hu; rfl
  · intro v' w' h1 h2 h3
    refine h v' w' ?_ h2 h3
    rw [flatI_snoc, List.length_append]
    exact h1

theorem setOf_any (q : Option Addr) (cap : Nat) (l : List Int) (w : World) (hr : RowV w q (flatI l)) (hl : l.length ≤ 6) (hg : ∀ x ∈ l, 0 ≤ x ∧ x < 6) :
    Calls Try.prog 77 #[.slice q l.length cap] w fun e w' => e = .returned (.int .u64 (setS l : Nat)) ∧ w = w' := by
  have hbd : ∀ k, (l.take k).foldl (fun s g => s ||| 1 <<< g.toNat) 0 < 64 := by
    intro k
    have : ∀ (l : List Int) (s : Nat), (∀ x ∈ l, 0 ≤ x ∧ x < 6) → s < 64 → l.foldl (fun s g => s ||| 1 <<< g.toNat) s < 64 := by
      intro l
      induction l with
      | nil => intro s _ h; exact h
      | cons x r ih =>
        intro s hx h
        rw [List.foldl_cons]
        refine ih _ (fun y hy => hx y (by simp [hy])) ?_
        have h1 := hx x (by simp)
        have h2 : 1 <<< x.toNat < 64 := by rw [Nat.one_shiftLeft]; exact Nat.lt_of_lt_of_le (Nat.pow_lt_pow_right (by decide) (show x.toNat < 6 by omega)) (by decide)
        exact Nat.or_lt_two_pow (n := 6) h h2
    exact this _ 0 (fun x hx => hg x (List.mem_of_mem_take hx)) (by decide)
  have HBD := Lib.hid hbd
  have HG := Lib.hid hg
  clear hbd hg
  go_enter Try.func77, Try.ntmps77
  go_wp2
  go_loop [3, 8] (fun s i => ∃ k : Nat, k ≤ l.length ∧ i = .int .i64 k ∧ s = .int .u64 (((l.take k).foldl (fun s g => s ||| 1 <<< g.toNat) 0 : Nat) : Int)) (fun _ i => l.length - (intOf i).toNat)
  case atStart => exact ⟨0, Nat.zero_le _, rfl, rfl⟩
  case round =>
    obtain ⟨k, hk, rfl, rfl⟩ := hrel
    by_cases hlt : k < l.length
    · obtain ⟨b, off, rfl, hb, h1⟩ := rowI_at hr hlt (Nat.le_refl _) (Below.refl _ _)
      have hst := foldl_take (fun (s : Nat) (g : Int) => s ||| 1 <<< g.toNat) 0 l k 0 hlt
      have hx := HG.out _ (getD_mem l k 0 hlt)
      have hs := HBD.out k
      generalize l.getD k 0 = x at h1 hst hx
      obtain ⟨x, rfl⟩ : ∃ m : Nat, x = m := ⟨x.toNat, by omega⟩
      have HST := Lib.hid hst
      clear hst
      generalize (l.take k).foldl (fun (s : Nat) (g : Int) => s ||| 1 <<< g.toNat) 0 = s at HST hs ⊢
      have h2 := oneS_lt (show x < 6 by omega)
      have hor := or_u s (oneS x) (by omega) (by omega)
      have HOR := Lib.hid hor
      clear hor
      go_wp2_with (go_at_call 48; refine (alone_any x _ (by omega)).mono ?_; rintro e w' ⟨rfl, rfl⟩)
      go_round
      case rel => exact ⟨k + 1, hlt, by go_num, by rw [HST.out]; exact congrArg (Value.int .u64) HOR.out⟩
      case measure => simp [intOf]; omega
    · obtain rfl : k = l.length := by omega
      go_wp2
      go_ret
      exact ⟨rfl, rfl⟩

theorem list_any (s : Nat) (w : World) (hs : s < 64) : Calls Try.prog 65 #[.int .u64 s] w (RetV w 3 1 (listS s).length (flatI (listS s))) := by
  have HS := Lib.hid (listS_eq s)
  go_enter Try.func65, Try.ntmps65
  go_wp2
  go_loopw [3, 5] (fun v i wr => ∃ k : Nat, k ≤ 6 ∧ i = .int .i64 k ∧ wr.ownsRow w.heap.size 3 1 v (rangeF (fun i => s.testBit i) k).length (flatI (rangeF (fun i => s.testBit i) k)) ∧ Below w.heap.size w wr) (fun _ i _ => 6 - (intOf i).toNat)
  case atStart => exact ⟨0, Nat.zero_le _, rfl, World.ownsRow_nil _ _ _ _, Below.refl _ _⟩
  case round =>
    obtain ⟨k, hk, rfl, hown, hbel⟩ := hrel
    by_cases hlt : k < 6
    · have hst := rangeF_succ (fun i => s.testBit i) k
      have hle := rangeF_len (fun i => s.testBit i) k
      have HST := Lib.hid hst
      clear hst
      generalize rangeF (fun i => s.testBit i) k = xs at hown HST hle
      have HO := Lib.hid hown
      have hk6 : (k : Int) < 6 := by omega
      clear hown
      go_wp2_with (first
        | (go_at_call 47; refine (in_any k s _ hlt hs).mono ?_; rintro e w1 ⟨rfl, rfl⟩)
        | (at_builtin; refine app_int _ rfl (.tmp 11) (.tmp 13) rfl w.heap.size _ xs (k : Int) rfl (HO.out.alloc _) wr.heap.size 1 rfl (by simp) (by omega) (by have := hbel.size; simp; omega) ?_; intro v2 w2 hown2 hgr2 hbk2; have hb2 : Below w.heap.size w w2 := hbel.trans (((Below.refl _ _).alloc hbel.size _).trans (grown_below (HO.out.alloc _) (by have := hbel.size; simp; omega) hgr2))))
      · have hbit : s.testBit k = true := by assumption
        go_roundw
        case rel => exact ⟨k + 1, hlt, by go_num, by rw [HST.out, if_pos hbit]; exact hown2, hb2⟩
        case measure => simp [intOf]; omega
      · have hbit : s.testBit k = false := by assumption
        go_roundw
        case rel => exact ⟨k + 1, hlt, by go_num, by rw [HST.out, if_neg (by rw [hbit]; decide), List.append_nil]; exact HO.out, hbel⟩
        case measure => simp [intOf]; omega
    · obtain rfl : k = 6 := by omega
      go_wp2
      go_ret
      exact ⟨_, rfl, by rw [HS.out]; exact hown, hbel⟩
end Go.Proofs.Ytadamjleglckpaa.drn

/- Package drain, the walks: leaving, drained. -/
namespace Go.Proofs.Ytadamjleglckpaa.drn
open Go.RowKit
set_option linter.unusedSimpArgs false
set_option linter.unusedVariables false

/-- channels of a hill of n galleries -/
structure Chs (n : Nat) (cs : List Ch) : Prop where
  n1 : 1 ≤ n
  n6 : n ≤ 6
  many : cs.length ≤ 14
  ok : ∀ c ∈ cs, ChOk n c

theorem pow_64 {n s : Nat} (hn : n ≤ 6) (hs : s < 2 ^ n) : s < 64 := Nat.lt_of_lt_of_le hs (Nat.pow_le_pow_right (by decide) hn)

set_option maxRecDepth 100000 in
theorem leaving_any (n s : Nat) (q : Option Addr) (cap : Nat) (cs : List Ch) (w : World) (hc : Chs n cs) (hs : s < 2 ^ n) (hr : RowV w q (flatC n cs)) :
    Calls Try.prog 60 #[.slice q cs.length cap, .int .u64 s] w (RetV w 3 1 (leavingS cs s).length (flatI (leavingS cs s))) := by
  have HS := Lib.hid (leavingS_eq cs s)
  have hl := hc.many
  go_enter Try.func60, Try.ntmps60
  go_wp2
  go_loopw [5, 10] (fun v i wr => ∃ k : Nat, k ≤ cs.length ∧ i = .int .i64 k ∧ wr.ownsRow w.heap.size 3 1 v (rangeF (fun i => leavesS s (cs.getD i (0, 0, 0))) k).length (flatI (rangeF (fun i => leavesS s (cs.getD i (0, 0, 0))) k)) ∧ Below w.heap.size w wr) (fun _ i _ => cs.length - (intOf i).toNat)
  case atStart => exact ⟨0, Nat.zero_le _, rfl, World.ownsRow_nil _ _ _ _, Below.refl _ _⟩
  case round =>
    obtain ⟨k, hk, rfl, hown, hbel⟩ := hrel
    by_cases hlt : k < cs.length
    · obtain ⟨b, off, rfl, hb, h1, h2, h3⟩ := rowC_at hr hlt (Nat.le_refl _) hbel
      have hst := rangeF_succ (fun i => leavesS s (cs.getD i (0, 0, 0))) k
      have hle := rangeF_len (fun i => leavesS s (cs.getD i (0, 0, 0))) k
      have hok := getD_ok hc.ok hlt
      generalize rangeF (fun i => leavesS s (cs.getD i (0, 0, 0))) k = xs at hown hst hle
      generalize cs.getD k (0, 0, 0) = c at h1 h2 h3 hst hok
      have HST := Lib.hid hst
      have HO := Lib.hid hown
      have HOK := Lib.hid hok
      have hn6 := hc.n6
      have hlv := fun W => leaves_any n s c W hn6 hok hs
      obtain ⟨T, hT⟩ : ∃ T, plV n c.2.1 = .iface T (.int .i64 c.2.1) := ⟨_, rfl⟩
      rw [hT] at h2
      simp only [hT] at hlv
      have HLV := Lib.hid hlv
      clear hst hown hok hlv hT
      go_wp2_with (first
        | (go_at_call 84; refine (HLV.out _).mono ?_; rintro e w1 ⟨rfl, hb1⟩; have hac : Below wr.heap.size wr w1 := ((Below.refl _ _).alloc (Nat.le_refl _) _).on hb1; have HO1 := Lib.hid (owns_below HO.out (Nat.le_refl _) hac); have hz1 := hac.size)
        | (at_builtin; refine app_int _ rfl (.tmp 18) (.tmp 20) rfl w.heap.size _ xs (k : Int) rfl (HO1.out.alloc _) w1.heap.size 1 rfl (by simp) (by omega) (by have := hbel.size; simp; omega) ?_; intro v2 w2 hown2 hgr2 hbk2; have hb2 : Below w.heap.size w w2 := (hbel.on hac).trans (((Below.refl _ _).alloc (by have := hbel.size; omega) _).trans (grown_below (HO1.out.alloc _) (by have := hbel.size; simp; omega) hgr2))))
      · have hbit : leavesS s c = true := by assumption
        go_roundw
        case rel => exact ⟨k + 1, hlt, by go_num, by rw [HST.out, if_pos hbit]; exact hown2, hb2⟩
        case measure => simp [intOf]; omega
      · have hbit : leavesS s c = false := by assumption
        go_roundw
        case rel => exact ⟨k + 1, hlt, by go_num, by rw [HST.out, if_neg (by rw [hbit]; decide), List.append_nil]; exact HO1.out, hbel.on hac⟩
        case measure => simp [intOf]; omega
    · obtain rfl : k = cs.length := by omega
      go_wp2
      go_ret
      exact ⟨_, rfl, by rw [HS.out]; exact hown, hbel⟩

/-- water gets from a place to the mouth -/
theorem drains_any (n s : Nat) (g : Int) (w : World) (hn : n ≤ 6) (h0 : 0 ≤ g) (h1 : g ≤ n) (hs : s < 64) :
    Calls Try.prog 81 #[plV n g, .int .u64 s] w fun e w' => e = .returned (.bool (g == (n : Int) || inS s g)) ∧ w = w' := by
  obtain ⟨g, rfl⟩ : ∃ k : Nat, g = k := ⟨g.toNat, by omega⟩
  by_cases hg : g = n
  · subst hg
    have e : plV g g = .iface 119 (.int .i64 g) := by simp [plV]
    rw [e]
    refine (drainsM_any g s w).mono ?_
    rintro e w' ⟨rfl, rfl⟩
    exact ⟨by simp, rfl⟩
  · have e : plV n g = .iface 83 (.int .i64 g) := by simp only [plV]; rw [if_neg (by omega)]
    rw [e]
    refine (drainsG_any g s w (by omega) hs).mono ?_
    rintro e w' ⟨rfl, rfl⟩
    have : ((g : Int) == (n : Int)) = false := beq_eq_false_iff_ne.2 (by omega)
    exact ⟨by rw [this]; simp [inS], rfl⟩
def wetF (n : Nat) (d : Nat) (c : Ch) : Nat := if c.2.1 == (n : Int) || inS d c.2.1 then d ||| oneS c.1.toNat else d
theorem wetStep_eq (n : Nat) (cs : List Ch) (d : Nat) : wetStep n cs d = cs.foldl (wetF n) d := rfl

set_option maxRecDepth 100000 in
theorem drained_any (n : Nat) (q : Option Addr) (cap : Nat) (cs : List Ch) (w : World) (hc : Chs n cs) (hr : RowV w q (flatC n cs)) :
    Calls Try.prog 50 #[.slice q cs.length cap] w fun e w' => e = .returned (.int .u64 (wetS n cs : Nat)) ∧ Below w.heap.size w w' := by
  have hl := hc.many
  have hn6 := hc.n6
  have HC := Lib.hid hc
  clear hc
  go_enter Try.func50, Try.ntmps50
  go_wp2
  go_loopg [3] 7 (fun gg s wr => ∃ r : Nat, gg = 7 - r ∧ r ≤ 6 ∧ s = .int .u64 (wetTo n cs r 0 : Nat) ∧ (∀ j, j < r → wetStep n cs (wetTo n cs j 0) ≠ wetTo n cs j 0) ∧ Below w.heap.size w wr)
  case atStart => exact ⟨0, rfl, Nat.zero_le _, rfl, fun j hj => absurd hj (Nat.not_lt_zero j), Below.refl _ _⟩
  case round =>
    obtain ⟨r, hgg, hr6, rfl, hno, hbel⟩ := hrel
    have HNO := Lib.hid hno
    have hd : wetTo n cs r 0 < 2 ^ n := wetTo_bd HC.out.ok r
    obtain ⟨d, hde⟩ : ∃ d, wetTo n cs r 0 = d := ⟨_, rfl⟩
    have hstep := wetTo_step n cs r 0
    have HSTEP := Lib.hid hstep
    have hrest := fun h => wetS_rest (n := n) (cs := cs) (k := r) (by omega) h
    have HREST := Lib.hid hrest
    have hGG := Lib.hid hgg
    clear hno hstep hrest hgg
    rw [hde] at hd HSTEP HREST ⊢
    have HDE := Lib.hid hde
    clear hde
    go_wp2
    go_loopw [3, 10] (fun s i w2 => ∃ k : Nat, k ≤ cs.length ∧ i = .int .i64 k ∧ s = .int .u64 ((cs.take k).foldl (wetF n) d : Nat) ∧ Below w.heap.size w w2) (fun _ i _ => cs.length - (intOf i).toNat)
    case atStart => exact ⟨0, Nat.zero_le _, rfl, rfl, hbel⟩
    case round =>
      obtain ⟨k, hk, rfl, rfl, hbel2⟩ := hrel
      by_cases hlt : k < cs.length
      · obtain ⟨b, off, rfl, hb, h1, h2, h3⟩ := rowC_at hr hlt (Nat.le_refl _) hbel2
        have hst := foldl_take (wetF n) d cs k (0, 0, 0) hlt
        have hok := getD_ok HC.out.ok hlt
        have hdk : (cs.take k).foldl (wetF n) d < 2 ^ n := wetStep_bd n (cs.take k) d (fun c hm => HC.out.ok c (List.mem_of_mem_take hm)) hd
        generalize cs.getD k (0, 0, 0) = c at h1 h2 h3 hst hok
        obtain ⟨x, y, z⟩ := c
        obtain ⟨⟨x0, x1⟩, ⟨y0, y1⟩, _, _, _⟩ := hok
        dsimp only at *
        obtain ⟨x, rfl⟩ : ∃ m : Nat, x = m := ⟨x.toNat, by omega⟩
        have HST := Lib.hid hst
        clear hst
        generalize (cs.take k).foldl (wetF n) d = d2 at HST hdk ⊢
        have hd64 := pow_64 hn6 hdk
        have hdr := fun W => drains_any n d2 y W hn6 y0 y1 hd64
        obtain ⟨T, hT⟩ : ∃ T, plV n y = .iface T (.int .i64 y) := ⟨_, rfl⟩
        obtain ⟨wt, hwt⟩ : ∃ b, (y == (n : Int) || inS d2 y) = b := ⟨_, rfl⟩
        rw [hT] at h2
        simp only [hT, hwt] at hdr
        have HDR := Lib.hid hdr
        have HWT := Lib.hid hwt
        clear hdr hT hwt
        have hx6 : x < 6 := by omega
        have ho := oneS_lt hx6
        have hor := or_u d2 (oneS x) (by omega) (by omega)
        have HOR := Lib.hid hor
        clear hor
        go_wp2_with (first
          | (go_at_call 81; refine (HDR.out _).mono ?_; rintro e w1 ⟨rfl, rfl⟩)
          | (go_at_call 48; refine (alone_any x _ hx6).mono ?_; rintro e w1 ⟨rfl, rfl⟩))
        · have hin : wt = true := by assumption
          subst hin
          go_roundw
          case rel => exact ⟨k + 1, hlt, by go_num, by rw [HST.out, wetF, if_pos HWT.out]; exact congrArg (Value.int .u64) HOR.out, hbel2.alloc hbel2.size _⟩
          case measure => simp [intOf]; omega
        · have hin : wt = false := by assumption
          subst hin
          go_roundw
          case rel => exact ⟨k + 1, hlt, by go_num, by rw [HST.out, wetF, if_neg (by dsimp only; rw [HWT.out]; decide)], hbel2.alloc hbel2.size _⟩
          case measure => simp [intOf]; omega
      · obtain rfl : k = cs.length := by omega
        have hfin : (cs.take cs.length).foldl (wetF n) d = wetStep n cs d := by rw [List.take_length, wetStep_eq]
        rw [hfin]
        by_cases hfix : wetStep n cs d = d
        · have hw := HREST.out hfix
          rw [hfix]
          have HW := Lib.hid hw
          clear hw hfix
          go_wp2
          go_ret
          exact ⟨by rw [HW.out]; rfl, hbel2⟩
        · have hne : ((wetStep n cs d : Nat) : Int) ≠ (d : Int) := by omega
          have hneb : (((wetStep n cs d : Nat) : Int) == (d : Int)) = false := beq_eq_false_iff_ne.2 hne
          have hr7 : r + 1 ≤ 6 := wet_rounds HC.out.n6 HC.out.ok (k := r + 1) (by
            intro j hj
            rcases Nat.lt_succ_iff_lt_or_eq.1 hj with h | h
            · exact HNO.out j h
            · subst h; rw [HDE.out]; exact hfix)
          have HFIX := Lib.hid hfix
          clear hfix hne
          go_wp2
          go_roundg (7 - (r + 1))
          case measure => rw [hGG.out]; omega
          case rel =>
            refine ⟨r + 1, rfl, hr7, by rw [HSTEP.out], fun j hj => ?_, hbel2⟩
            rcases Nat.lt_succ_iff_lt_or_eq.1 hj with h | h
            · exact HNO.out j h
            · subst h; rw [HDE.out]; exact HFIX.out
end Go.Proofs.Ytadamjleglckpaa.drn

/- Package drain, the walks: channelsOf. -/
namespace Go.Proofs.Ytadamjleglckpaa.drn
open Go.RowKit
set_option linter.unusedSimpArgs false
set_option linter.unusedVariables false

theorem infoC : (Try.prog.info? 85).map (fun i => (i.zero, i.size, i.bytes)) = some (some (.agg #[.int .i64 0, .nilIface, .int .i64 0]), 3, 32) := by kernel_rfl
theorem flatC_take_succ (n : Nat) (cs : List Ch) (k : Nat) (h : k < cs.length) : flatC n (cs.take (k + 1)) = flatC n (cs.take k) ++ [.int .i64 (cs.getD k (0, 0, 0)).1, plV n (cs.getD k (0, 0, 0)).2.1, .int .i64 (cs.getD k (0, 0, 0)).2.2] := by
  rw [getD_take cs k (0, 0, 0) h, flatC_snoc]

set_option maxRecDepth 100000 in
set_option maxHeartbeats 1000000 in
theorem channelsOf_any (n : Nat) (q : Option Addr) (cap : Nat) (cs : List Ch) (w : World) (hc : Chs n cs) (hr : RowV w q (flatT cs)) :
    Calls Try.prog 42 #[hillV n q cs.length cap] w (RetV w 85 3 cs.length (flatC n cs)) := by
  unfold hillV
  have hb0 : Below w.heap.size w (w.alloc (.cells #[.int .i64 n, .slice q cs.length cap] 24)) := (Below.refl _ _).alloc (Nat.le_refl _) _
  have hr0 := hr.below (Nat.le_refl _) hb0
  have hl := hc.many
  have HB0 := Lib.hid hb0
  clear hb0
  go_enter Try.func42, Try.ntmps42
  go_wp2
  have hb0 := HB0.out
  obtain ⟨W0, hW0⟩ : ∃ W0, w.alloc (.cells #[.int .i64 n, .slice q cs.length cap] 24) = W0 := ⟨_, rfl⟩
  have hz0 : w.heap.size < W0.heap.size := by rw [← hW0]; simp
  have hc0 : W0.cell? ⟨w.heap.size, 0, none⟩ = some (.int .i64 n) ∧ W0.cell? ⟨w.heap.size, 1, none⟩ = some (.slice q cs.length cap) := by rw [← hW0]; simp
  obtain ⟨c0, c1⟩ := hc0
  rw [hW0] at hr0 hb0 ⊢
  clear hW0 HB0
  go_loopw [3, 9] (fun v i wr => ∃ k : Nat, k ≤ cs.length ∧ i = .int .i64 k ∧ wr.ownsRow W0.heap.size 85 3 v k (flatC n (cs.take k)) ∧ Below W0.heap.size W0 wr) (fun _ i _ => cs.length - (intOf i).toNat)
  case atStart => exact ⟨0, Nat.zero_le _, rfl, World.ownsRow_nil _ _ _ _, Below.refl _ _⟩
  case round =>
    obtain ⟨k, hk, rfl, hown, hbel⟩ := hrel
    by_cases hlt : k < cs.length
    · obtain ⟨b, off, rfl, hb, h1, h2, h3⟩ := rowT_at hr0 hlt (Nat.le_refl _) hbel
      have hst := flatC_take_succ n cs k hlt
      generalize cs.getD k (0, 0, 0) = c at h1 h2 h3 hst
      obtain ⟨x, y, z⟩ := c
      dsimp only at h1 h2 h3 hst
      obtain ⟨T, hT⟩ : ∃ T, plV n y = .iface T (.int .i64 y) := ⟨_, rfl⟩
      have hpl : ∀ W, Calls Try.prog 40 #[.agg #[.int .i64 n, .slice (some ⟨b, off, none⟩) cs.length cap], .int .i64 y] W fun e w' => e = .returned (.iface T (.int .i64 y)) ∧ Below W.heap.size W w' := fun W => by
        rw [← hT]; exact placeOf_any n y (some ⟨b, off, none⟩) cs.length cap W
      rw [hT] at hst
      have d0 : wr.cell? ⟨w.heap.size, 0, none⟩ = some (.int .i64 n) := (hbel.cell (p := ⟨w.heap.size, 0, none⟩) hz0).trans c0
      have d1 : wr.cell? ⟨w.heap.size, 1, none⟩ = some (.slice (some ⟨b, off, none⟩) cs.length cap) := (hbel.cell (p := ⟨w.heap.size, 1, none⟩) hz0).trans c1
      have hz1 : w.heap.size < wr.heap.size := Nat.lt_of_lt_of_le hz0 hbel.size
      have hsz := hbel.size
      have HST := Lib.hid hst
      have HPL := Lib.hid hpl
      have HO := Lib.hid hown
      have HT := Lib.hid hT
      clear hst hpl hown hT c0 c1
      go_upto_region 5 with fail
      have hne : w.heap.size ≠ wr.heap.size := by omega
      have A0 : Below wr.heap.size wr (wr.alloc (.cells #[.int .i64 x, .int .i64 y, .int .i64 z] 45)) := (Below.refl _ _).alloc (Nat.le_refl _) _
      have e0 := (A0.cell (p := ⟨w.heap.size, 0, none⟩) hz1).trans d0
      have e1 := (A0.cell (p := ⟨w.heap.size, 1, none⟩) hz1).trans d1
      have e2 : (wr.alloc (.cells #[.int .i64 x, .int .i64 y, .int .i64 z] 45)).cell? ⟨wr.heap.size, 0, none⟩ = some (.int .i64 x) := by simp
      have e3 : (wr.alloc (.cells #[.int .i64 x, .int .i64 y, .int .i64 z] 45)).cell? ⟨wr.heap.size, 1, none⟩ = some (.int .i64 y) := by simp
      have e4 : (wr.alloc (.cells #[.int .i64 x, .int .i64 y, .int .i64 z] 45)).cell? ⟨wr.heap.size, 2, none⟩ = some (.int .i64 z) := by simp
      have hva : some w.heap.size ≠ u3.ownBlock := fun e => by have := (HO.out.lt _ e.symm).1; omega
      have hvb : some wr.heap.size ≠ u3.ownBlock := fun e => by have := (HO.out.lt _ e.symm).2; omega
      have HO1 := Lib.hid (owns_below HO.out (Nat.le_refl _) A0)
      obtain ⟨W1, hW1⟩ : ∃ W1, wr.alloc (.cells #[.int .i64 x, .int .i64 y, .int .i64 z] 45) = W1 := ⟨_, rfl⟩
      have hz2 : w.heap.size < W1.heap.size := by rw [← hW1]; simp; omega
      have hz3 : wr.heap.size < W1.heap.size := by rw [← hW1]; simp
      rw [hW1] at A0 e0 e1 e2 e3 e4 HO1 ⊢
      have HA0 := Lib.hid A0
      clear hW1 d0 d1 h1 h2 h3 A0
      go_region_held3 (fun W => W.cell? ⟨w.heap.size, 0, none⟩ = some (.int .i64 n) ∧ W.cell? ⟨w.heap.size, 1, none⟩ = some (.slice (some ⟨b, off, none⟩) cs.length cap) ∧ W.cell? ⟨wr.heap.size, 0, none⟩ = some (.int .i64 x) ∧ W.cell? ⟨wr.heap.size, 1, none⟩ = some (.int .i64 y) ∧ W.cell? ⟨wr.heap.size, 2, none⟩ = some (.int .i64 z)) (first | exact ⟨e0, e1, e2, e3, e4⟩ | exact ⟨j0, j1, j2, j3, j4⟩ | exact ⟨l0, l1, l2, l3, l4⟩ | go_keep)
        (first
        | (go_at_call 40; refine (HPL.out _).mono ?_; rintro e w1 ⟨rfl, hb1'⟩; have hb1 : Below W1.heap.size W1 w1 := (((Below.refl _ _).drew).on hb1'); have j0 := (hb1.cell (p := ⟨w.heap.size, 0, none⟩) hz2).trans e0; have j1 := (hb1.cell (p := ⟨w.heap.size, 1, none⟩) hz2).trans e1; have j2 := (hb1.cell (p := ⟨wr.heap.size, 0, none⟩) hz3).trans e2; have j3 := (hb1.cell (p := ⟨wr.heap.size, 1, none⟩) hz3).trans e3; have j4 := (hb1.cell (p := ⟨wr.heap.size, 2, none⟩) hz3).trans e4; have hb2 : Below W1.heap.size W1 w1 := hb1; have HO2 := Lib.hid (owns_below HO1.out (Nat.le_refl _) hb2); have hz4 := hb2.size)
        | (refine step_one _ (by rfl) _ _ 75 (by rfl) W0.heap.size 85 _ 3 32 Try.underlying75 infoC rfl (by decide) (by decide) _ k (flatC n (cs.take k)) (by rfl) (by first | exact HO2.out.alloc _ | exact (HO2.out.alloc _).drew) w1.heap.size 1 (by rfl) [.int .i64 x, .iface T (.int .i64 y), .int .i64 z] rfl ?_ ?_ (by omega) (by simp; omega) ?_; (focus (intro j u hj; match j, hj with | 0, hj => (simp at hj; subst hj; simp) | 1, hj => (simp at hj; subst hj; simp) | 2, hj => (simp at hj; subst hj; simp))); (focus (intro u hu; simp at hu; rcases hu with rfl | rfl | rfl <;> rfl)); intro g2 cap2 w3 hown3 hgrow hblk hg3; have A1 : Below w1.heap.size w1 (w1.alloc (.cells #[.int .i64 x, .iface T (.int .i64 y), .int .i64 z] 85)) := (Below.refl _ _).alloc (Nat.le_refl _) _; have za : w.heap.size < w1.heap.size := Nat.lt_of_lt_of_le hz2 hz4; have zb : wr.heap.size < w1.heap.size := Nat.lt_of_lt_of_le hz3 hz4; have l0 := (hgrow.cell_far ⟨w.heap.size, 0, none⟩ (Nat.lt_of_lt_of_le za A1.size) hva).trans ((A1.cell (p := ⟨w.heap.size, 0, none⟩) za).trans j0); have l1 := (hgrow.cell_far ⟨w.heap.size, 1, none⟩ (Nat.lt_of_lt_of_le za A1.size) hva).trans ((A1.cell (p := ⟨w.heap.size, 1, none⟩) za).trans j1); have l2 := (hgrow.cell_far ⟨wr.heap.size, 0, none⟩ (Nat.lt_of_lt_of_le zb A1.size) hvb).trans ((A1.cell (p := ⟨wr.heap.size, 0, none⟩) zb).trans j2); have l3 := (hgrow.cell_far ⟨wr.heap.size, 1, none⟩ (Nat.lt_of_lt_of_le zb A1.size) hvb).trans ((A1.cell (p := ⟨wr.heap.size, 1, none⟩) zb).trans j3); have l4 := (hgrow.cell_far ⟨wr.heap.size, 2, none⟩ (Nat.lt_of_lt_of_le zb A1.size) hvb).trans ((A1.cell (p := ⟨wr.heap.size, 2, none⟩) zb).trans j4))
        | fail)
      have hbw1 : Below W0.heap.size W0 w1 := (hbel.on HA0.out).on hb2
      have hbw3 : Below W0.heap.size W0 w3 := by
        first
        | exact hbw1.trans (((Below.refl _ _).alloc hbw1.size _).trans (grown_below (HO2.out.alloc _) (by have := hbw1.size; simp; omega) hgrow))
        | exact hbw1.trans (((Below.refl _ _).alloc hbw1.size _).drew.trans (grown_below (HO2.out.alloc _).drew (by have := hbw1.size; simp; omega) hgrow))
      clear hgrow hblk hg3
      go_wp2
      go_roundw
      case rel => exact ⟨k + 1, hlt, by go_num, by rw [HST.out]; exact hown3, hbw3⟩
      case measure => simp [intOf]; omega
    · obtain rfl : k = cs.length := by omega
      go_wp2
      go_ret
      refine ⟨_, rfl, ?_, hb0.on hbel⟩
      rw [List.take_length] at hown
      obtain ⟨g1, g2 | ⟨g, cap, cur, e, hg, r⟩⟩ := hown
      · exact ⟨g1, .inl g2⟩
      · exact ⟨g1, .inr ⟨g, cap, cur, e, by omega, r⟩⟩
end Go.Proofs.Ytadamjleglckpaa.drn

/- Package drain, the walks: all groups (groupsFrom, groupsOf). -/
namespace Go.Proofs.Ytadamjleglckpaa.drn
open Go.RowKit
set_option linter.unusedSimpArgs false
set_option linter.unusedVariables false

theorem infoS : (Try.prog.info? 82).map (fun i => (i.zero, i.size, i.bytes)) = some (some (.int .u64 0), 1, 8) := by kernel_rfl
/-- append(list, s): sets -/
theorem app_set (w : World) {ops : Array Oper} {rest : List Oper} {o : Oper} {a : Act} {Q : Exit → Act → World → Prop} (hgd : o.guard = none) (s x : Operand)
    (ho : o.op = .call { callee := .builtin .append, args := #[s, x], argTypes := #[102, 102] }) (base : Nat) (v : Value) (xs : List Nat) (n : Nat) (hs : a.eval s = v)
    (hown : w.ownsRow base 82 1 v xs.length (flatU xs)) (B c : Nat) (hx : a.eval x = .slice (some ⟨B, 0, none⟩) 1 c)
    (hc1 : w.cell? ⟨B, 0, none⟩ = some (.int .u64 n)) (hl : xs.length ≤ 1000000) (hbase : base ≤ w.heap.size)
    (h : ∀ v' w', w'.ownsRow base 82 1 v' (xs ++ [n]).length (flatU (xs ++ [n])) → w.grownBy w' v.ownBlock → (v'.ownBlock = v.ownBlock ∨ v'.ownBlock = some w.heap.size) → wpList Try.prog ops Q rest (a.put o.dst v') w') :
    wpList Try.prog ops Q (o :: rest) a w := by
  refine app_one w hgd s x 102 ho base 82 _ 1 8 Try.underlying102 infoS rfl (by decide) (by decide) v xs.length (flatU xs) hs hown B c hx [.int .u64 n] rfl ?_ ?_ hl hbase ?_
  · intro j u hj
    match j, hj with
    | 0, hj => simp at hj; subst hj; exact hc1
  · intro u hu; simp at hu; subst hu; rfl
  · intro v' w' h1 h2 h3
    refine h v' w' ?_ h2 h3
    rw [flatU_snoc, List.length_append]
    exact h1
/-- a row stays where another row grows -/
theorem RowV.grown {w w' : World} {q : Option Addr} {vs : List Value} (h : RowV w q vs) {ob : Option Nat} (hne : ∀ a, q = some a → some a.block ≠ ob) (hg : w.grownBy w' ob) : RowV w' q vs := by
  rcases h with h | ⟨b, off, e, hz, hc⟩
  · exact .inl h
  · refine .inr ⟨b, off, e, Nat.lt_of_lt_of_le hz hg.size, fun i v hi => ?_⟩
    rw [hg.cell_far ⟨b, off + i, none⟩ hz (hne ⟨b, off, none⟩ e)]
    exact hc i v hi
/-- a row beside another one that has been appended to -/
theorem beside_app {w : World} {q : Option Addr} {v v' : Value} (hz : ∀ a, q = some a → a.block < w.heap.size) (hne : ∀ a, q = some a → some a.block ≠ v.ownBlock)
    (hbk : v'.ownBlock = v.ownBlock ∨ v'.ownBlock = some w.heap.size) : ∀ a, q = some a → some a.block ≠ v'.ownBlock := by
  intro a ha e
  rcases hbk with h | h
  · exact hne a ha (by rw [e, h])
  · rw [h] at e
    injection e with e
    have := hz a ha
    omega
theorem groupsS_len : ∀ (k i : Nat), (groupsS k i).length = 2 ^ k - 1
  | 0, _ => rfl
  | k + 1, i => by
    have ih := groupsS_len k (i + 1)
    have := Nat.two_pow_pos k
    simp only [groupsS, List.length_append, List.length_cons, List.length_map, ih, Nat.pow_succ]
    omega
theorem groupsS_lt : ∀ (k i : Nat), i + k ≤ 6 → ∀ s ∈ groupsS k i, s < 64
  | 0, _, _, s, h => by simp [groupsS] at h
  | k + 1, i, hk, s, h => by
    have ih := groupsS_lt k (i + 1) (by omega)
    have ho := oneS_lt (show i < 6 by omega)
    simp only [groupsS, List.mem_append, List.mem_cons, List.mem_map] at h
    rcases h with (rfl | ⟨t, ht, rfl⟩) | h
    · exact ho
    · exact or_lt ho (ih t ht)
    · exact ih s h
theorem groupsS_step (m j : Nat) : groupsS (m + 1) j = [oneS j] ++ (groupsS m (j + 1)).map (oneS j ||| ·) ++ groupsS m (j + 1) := rfl

set_option maxRecDepth 100000 in
set_option maxHeartbeats 1000000 in
theorem groupsFrom_any (n : Nat) (hn : n ≤ 6) : ∀ (k i : Nat) (w : World), i + k = n →
    Calls Try.prog 85 #[.int .i64 i, .int .i64 n] w (RetV w 82 1 (groupsS k i).length (flatU (groupsS k i))) := by
  intro k
  induction k using Nat.strongRecOn with
  | _ k ih =>
    intro i w hik
    have HIH := Lib.hid ih
    have hlen := groupsS_len k i
    have hpw : 2 ^ k ≤ 64 := Nat.pow_le_pow_right (by decide) (show k ≤ 6 by omega)
    have HLEN := Lib.hid hlen
    clear ih hlen
    go_enter Try.func85, Try.ntmps85
    go_wp2
    go_loopw [5, 6] (fun v x wr => ∃ (t : Nat) (acc : List Nat), t ≤ k ∧ x = .int .i64 ((i + t : Nat) : Int) ∧ acc ++ groupsS (k - t) (i + t) = groupsS k i ∧ wr.ownsRow w.heap.size 82 1 v acc.length (flatU acc) ∧ Below w.heap.size w wr) (fun _ x _ => n - (intOf x).toNat)
    case atStart => exact ⟨0, [], Nat.zero_le _, rfl, rfl, World.ownsRow_nil _ _ _ _, Below.refl _ _⟩
    case round =>
      obtain ⟨t, acc, ht, rfl, hacc, hown, hbel⟩ := hrel
      by_cases htk : t < k
      · obtain ⟨m, hm⟩ : ∃ m, k - t = m + 1 := ⟨k - t - 1, by omega⟩
        obtain ⟨j, hj⟩ : ∃ j, i + t = j := ⟨_, rfl⟩
        have hlt := groupsS_lt m (j + 1) (by omega)
        have hrl := groupsS_len m (j + 1)
        have hl0 := congrArg List.length hacc
        rw [hm, hj, groupsS_step, HLEN.out] at hl0
        simp only [List.length_append] at hl0
        have hal : acc.length ≤ 64 := by omega
        have hrl2 : (groupsS m (j + 1)).length ≤ 64 := by omega
        rw [hm, hj, groupsS_step] at hacc
        have hcall := fun W => HIH.out m (by omega) (j + 1) W (by omega)
        obtain ⟨R, hR⟩ : ∃ R, groupsS m (j + 1) = R := ⟨_, rfl⟩
        rw [hR] at hlt hrl2 hacc
        simp only [hR] at hcall
        have ej : ((j + 1 : Nat) : Int) = (j : Int) + 1 := by omega
        simp only [ej] at hcall
        rw [hj]
        have HR := Lib.hid hR
        have HACC := Lib.hid hacc
        have HCALL := Lib.hid hcall
        have HLT := Lib.hid hlt
        have HJ := Lib.hid hj
        have HM := Lib.hid hm
        have HO := Lib.hid hown
        have hj6 : j < 6 := by omega
        have hjn : (j : Int) < (n : Int) := by omega
        have hone := oneS_lt hj6
        clear hR hacc hcall hlt hj hm hown ej hl0 hrl hpw
        go_wp2_with (first
          | (go_at_call 48; refine (alone_any j _ hj6).mono ?_; rintro e w1 ⟨rfl, rfl⟩)
          | (at_builtin; refine app_set _ rfl (.tmp 18) (.tmp 20) rfl w.heap.size _ acc (oneS j) rfl (HO.out.alloc _) wr.heap.size 1 rfl (by simp) (by omega) (by have := hbel.size; simp; omega) ?_; intro v2 w2 hown2 hgr2 hbk2; have hb2 : Below w.heap.size w w2 := hbel.trans (((Below.refl _ _).alloc hbel.size _).trans (grown_below (HO.out.alloc _) (by have := hbel.size; simp; omega) hgr2)); have HO2 := Lib.hid hown2; clear hown2 hgr2 hbk2)
          | (go_at_call 85; refine (HCALL.out w2).mono ?_; rintro e w3 ⟨v3, rfl, hown3, hb3⟩; have hz3 := HO2.out.lt; obtain ⟨q, c3, rfl, hrow, hqc, hqb⟩ := rowV_of_owns hown3 (by intro h0; rw [List.length_eq_zero_iff] at h0; rw [h0]; rfl); clear hown3))
        have hown3 := owns_below HO2.out (Nat.le_refl _) hb3
        have hbw3 : Below w.heap.size w w3 := hb2.on hb3
        have hqne : ∀ a, q = some a → some a.block ≠ v2.ownBlock := by
          intro a ha e
          have h1 := (hqb a ha).1
          have h2 := (hz3 a.block e.symm).2
          omega
        have hqz : ∀ a, q = some a → a.block < w3.heap.size := fun a ha => (hqb a ha).2
        clear hqb hz3 hb3 hb2 HO2 HO
        go_loopw [5, 27] (fun v x wl => ∃ l : Nat, l ≤ R.length ∧ x = .int .i64 l ∧ wl.ownsRow w.heap.size 82 1 v (acc ++ [oneS j] ++ (R.take l).map (oneS j ||| ·)).length (flatU (acc ++ [oneS j] ++ (R.take l).map (oneS j ||| ·))) ∧ RowV wl q (flatU R) ∧ (∀ a, q = some a → some a.block ≠ v.ownBlock) ∧ Below w.heap.size w wl) (fun _ x _ => R.length - (intOf x).toNat)
        case atStart => exact ⟨0, Nat.zero_le _, rfl, by simpa using hown3, hrow, hqne, hbw3⟩
        case round =>
          obtain ⟨l, hl, rfl, hownl, hrowl, hqnel, hbl⟩ := hrel
          by_cases hlr : l < R.length
          · obtain ⟨b, off, rfl, hbz, h1⟩ := rowU_at hrowl hlr (Nat.le_refl _) (Below.refl _ _)
            have hst := map_take_succ (oneS j ||| ·) R l 0 hlr
            have hs := HLT.out _ (getD_mem R l 0 hlr)
            have hcl : (acc ++ [oneS j] ++ (R.take l).map (oneS j ||| ·)).length ≤ 1000 := by simp; omega
            generalize R.getD l 0 = s at h1 hst hs
            have hst2 : acc ++ [oneS j] ++ (R.take (l + 1)).map (oneS j ||| ·) = (acc ++ [oneS j] ++ (R.take l).map (oneS j ||| ·)) ++ [oneS j ||| s] := by rw [hst]; simp
            have HST := Lib.hid hst2
            have hor := or_u (oneS j) s (by omega) (by omega)
            clear hst hst2
            generalize acc ++ [oneS j] ++ (R.take l).map (oneS j ||| ·) = A at hownl hcl HST
            have HOL := Lib.hid hownl
            have HQN := Lib.hid hqnel
            have HRL := Lib.hid hrowl
            have hqz2 : b < wr.heap.size := hbz
            clear hownl hqnel hrowl
            go_wp2_with (at_builtin; refine app_set _ rfl (.tmp 31) (.tmp 35) rfl w.heap.size _ A (oneS j ||| s) rfl (HOL.out.alloc _) wr.heap.size 1 rfl (by simp) (by omega) (by have := hbl.size; simp; omega) ?_; intro v4 w4 hown4 hgr4 hbk4; have hb4 : Below w.heap.size w w4 := hbl.trans (((Below.refl _ _).alloc hbl.size _).trans (grown_below (HOL.out.alloc _) (by have := hbl.size; simp; omega) hgr4)))
            go_roundw
            case rel =>
              have hra : RowV (wr.alloc (.cells #[.int .u64 (oneS j ||| s : Nat)] 82)) (some ⟨b, off, none⟩) (flatU R) := HRL.out.below (Nat.le_refl _) ((Below.refl _ _).alloc (Nat.le_refl _) _)
              refine ⟨l + 1, hlr, by go_num, by rw [HST.out]; exact hown4, hra.grown HQN.out hgr4, ?_, hb4⟩
              refine beside_app (w := wr.alloc (.cells #[.int .u64 (oneS j ||| s : Nat)] 82)) ?_ HQN.out hbk4
              intro a ha
              injection ha with ha
              subst ha
              simp
              omega
            case measure => simp [intOf]; omega
          · obtain rfl : l = R.length := by omega
            rw [List.take_length] at hownl
            have HOL := Lib.hid hownl
            clear hownl
            have e1 : ((i + (t + 1) : Nat) : Int) = (j : Int) + 1 := by have := HJ.out; omega
            go_wp2
            go_roundw
            case rel =>
              refine ⟨t + 1, _, htk, by go_num, ?_, HOL.out, hbl⟩
              have h1 := HM.out
              have h2 := HJ.out
              have h3 := HACC.out
              rw [show k - (t + 1) = m by omega, show i + (t + 1) = j + 1 by omega, HR.out]
              rw [← h3]
              simp
            case measure => simp [intOf]; omega
      · obtain rfl : t = k := by omega
        have hfin : acc = groupsS t i := by rw [← hacc, Nat.sub_self]; simp [groupsS]
        subst hfin
        have hno : ¬ (((i + t : Nat) : Int) < (n : Int)) := by omega
        go_wp2
        go_ret
        exact ⟨_, rfl, hown, hbel⟩
end Go.Proofs.Ytadamjleglckpaa.drn

/- Package drain, the walks: checkGroup, Leaves, Stuck. -/
namespace Go.Proofs.Ytadamjleglckpaa.drn
open Go.RowKit
set_option linter.unusedSimpArgs false
set_option linter.unusedVariables false

theorem chs_of {n : Int} {cs : List Ch} (h : errD n cs = 0) : ∃ m : Nat, n = m ∧ Chs m cs := by
  obtain ⟨h1, h2, h3, h4, _⟩ := errD_ok h
  refine ⟨n.toNat, by omega, by omega, by omega, h3, ?_⟩
  rw [show ((n.toNat : Nat) : Int) = n by omega]
  exact h4
theorem errD_nat (n : Int) (cs : List Ch) : errD (n.toNat : Nat) cs = errD n cs := by
  by_cases h : 0 ≤ n
  · rw [show ((n.toNat : Nat) : Int) = n by omega]
  · unfold errD
    rw [if_pos (.inl (by omega)), if_pos (.inl (by omega))]

/-- what checkGroup's loop has still to answer -/
theorem groupErr_at (n : Int) (l : List Int) (k : Nat) (hk : k < l.length) (b : Option Int) : groupErr n b (l.drop k) =
    if !isGal n (l.getD k 0) then 2 else if notUp b (l.getD k 0) then 7 else groupErr n (some (l.getD k 0)) (l.drop (k + 1)) := by
  rw [List.drop_eq_getElem_cons hk, ← getD_eq l k 0 hk]
  rfl
def before (l : List Int) : Nat → Option Int
  | 0 => none
  | k + 1 => some (l.getD k 0)

set_option maxRecDepth 100000 in
theorem checkGroup_any (n : Int) (q : Option Addr) (m c : Nat) (q2 : Option Addr) (cap : Nat) (l : List Int) (w : World) (hr : RowV w q2 (flatI l)) (hl : l.length ≤ 1000000) :
    Calls Try.prog 98 #[hillV n q m c, .slice q2 l.length cap] w fun e w' => e = .returned (.int .i64 (grErr n l)) ∧ Below w.heap.size w w' := by
  unfold hillV
  have hb0 : Below w.heap.size w (w.alloc (.cells #[.int .i64 n, .slice q m c] 24)) := (Below.refl _ _).alloc (Nat.le_refl _) _
  by_cases h0 : l.length = 0
  · have h0b : ((l.length : Int) == 0) = true := by simp [h0]
    have HG := Lib.hid (show grErr n l = 4 by rw [grErr, if_pos h0])
    clear h0
    go_enter Try.func98, Try.ntmps98
    go_wp2
    go_ret
    exact ⟨ret_int (by rw [HG.out]), hb0⟩
  · have h0b : ((l.length : Int) == 0) = false := beq_eq_false_iff_ne.2 (by omega)
    have HG := Lib.hid (show grErr n l = groupErr n none l by rw [grErr, if_neg h0])
    have hr0 := hr.below (Nat.le_refl _) hb0
    clear h0
    go_enter Try.func98, Try.ntmps98
    go_wp2
    clear h0b
    obtain ⟨W0, hW0⟩ : ∃ W0, w.alloc (.cells #[.int .i64 n, .slice q m c] 24) = W0 := ⟨_, rfl⟩
    have hz0 : w.heap.size < W0.heap.size := by rw [← hW0]; simp
    have hc0 : W0.cell? ⟨w.heap.size, 0, none⟩ = some (.int .i64 n) ∧ W0.cell? ⟨w.heap.size, 1, none⟩ = some (.slice q m c) := by rw [← hW0]; simp
    obtain ⟨c0, c1⟩ := hc0
    rw [hW0] at hr0 hb0 ⊢
    clear hW0
    go_loopw [12] (fun i wr => ∃ k : Nat, k ≤ l.length ∧ i = .int .i64 k ∧ groupErr n (before l k) (l.drop k) = groupErr n none l ∧ Below W0.heap.size W0 wr) (fun i _ => l.length - (intOf i).toNat)
    case atStart => exact ⟨0, Nat.zero_le _, rfl, rfl, Below.refl _ _⟩
    case round =>
      obtain ⟨k, hk, rfl, hrest, hbel⟩ := hrel
      by_cases hlt : k < l.length
      · obtain ⟨b, off, rfl, hb, h1⟩ := rowI_at hr0 hlt (Nat.le_refl _) hbel
        have hst := groupErr_at n l k hlt (before l k)
        rw [hrest, ← HG.out] at hst
        have d0 : wr.cell? ⟨w.heap.size, 0, none⟩ = some (.int .i64 n) := (hbel.cell (p := ⟨w.heap.size, 0, none⟩) hz0).trans c0
        have d1 : wr.cell? ⟨w.heap.size, 1, none⟩ = some (.slice q m c) := (hbel.cell (p := ⟨w.heap.size, 1, none⟩) hz0).trans c1
        have hzr := hbel.size
        by_cases hk0 : k = 0
        · subst hk0
          generalize hx : l.getD 0 0 = x at h1 hst
          have HST := Lib.hid hst
          have HX := Lib.hid hx
          have h1' : wr.cell? ⟨b, off, none⟩ = some (.int .i64 x) := by simpa using h1
          clear hst hrest c0 c1 hx
          go_wp2_with (go_at_call 38; refine (hasGallery_any _ _ _ _ _ _).mono ?_; rintro e w1 ⟨hg, hb1⟩; rw [isGal_eq] at hg; obtain ⟨gg, hgg⟩ : ∃ gg, isGal n x = gg := ⟨_, rfl⟩; rw [hgg] at hg; have HGG := Lib.hid hgg; clear hgg; subst hg)
          · have hgf : gg = false := by simpa using (by assumption : (!gg) = true)
            subst hgf
            go_ret
            exact ⟨ret_int (by rw [HST.out, HGG.out]; rfl), hb0.on (hbel.on hb1)⟩
          · have hgf : gg = true := by simpa using (by assumption : (!gg) = false)
            subst hgf
            refine ⟨⟨1, hlt, rfl, ?_, hbel.on hb1⟩, ?_⟩
            · have h := HST.out
              rw [HGG.out] at h
              rw [← HG.out, h]
              show groupErr n (some (l.getD 0 0)) _ = _
              rw [HX.out]
              rfl
            · simp [intOf]; omega
        · obtain ⟨j, rfl⟩ : ∃ j, k = j + 1 := ⟨k - 1, by omega⟩
          obtain ⟨b', off', e', hb', h2⟩ := rowI_at hr0 (show j < l.length by omega) (Nat.le_refl _) hbel
          injection e' with e'
          injection e' with e1 e2
          subst e1 e2
          have hbf : before l (j + 1) = some (l.getD j 0) := rfl
          rw [hbf] at hst
          generalize hx : l.getD (j + 1) 0 = x at h1 hst
          generalize hp : l.getD j 0 = p at h2 hst
          have HST := Lib.hid hst
          have HX := Lib.hid hx
          have ej : IntKind.i64.wrap (((j + 1 : Nat) : Int) - 1) = (j : Int) := by rw [show ((j + 1 : Nat) : Int) - 1 = (j : Int) by omega]; exact IntWalk.i64_in _ ⟨by omega, by omega⟩
          have hjl : (j : Int) < (l.length : Int) := by omega
          have hj0 : (0 : Int) < ((j + 1 : Nat) : Int) := by omega
          clear hst hrest c0 c1 hx hp hbf hk0
          go_wp2_with (go_at_call 38; refine (hasGallery_any _ _ _ _ _ _).mono ?_; rintro e w1 ⟨hg, hb1⟩; rw [isGal_eq] at hg; obtain ⟨gg, hgg⟩ : ∃ gg, isGal n x = gg := ⟨_, rfl⟩; rw [hgg] at hg; have HGG := Lib.hid hgg; clear hgg; subst hg; obtain ⟨hc1, hf1⟩ := bcell hb1; have hbz : b < wr.heap.size := Nat.lt_of_lt_of_le hb hzr; have hbz1 : b < w1.heap.size := Nat.lt_of_lt_of_le hbz hb1.size)
          · have hgf : gg = false := by simpa using (by assumption : (!gg) = true)
            subst hgf
            go_ret
            exact ⟨ret_int (by rw [HST.out, HGG.out]; rfl), hb0.on (hbel.on hb1)⟩
          · have hgf : gg = true := by simpa using (by assumption : (!gg) = false)
            subst hgf
            have hle : x ≤ p := by assumption
            go_ret
            exact ⟨ret_int (by rw [HST.out, HGG.out]; simp [notUp, hle]), hb0.on (hbel.on hb1)⟩
          · have hgf : gg = true := by simpa using (by assumption : (!gg) = false)
            subst hgf
            have hle : ¬ x ≤ p := by first | assumption | omega
            refine ⟨⟨j + 2, hlt, by simp; omega, ?_, hbel.on hb1⟩, ?_⟩
            · have h := HST.out
              rw [HGG.out] at h
              rw [← HG.out, h]
              show groupErr n (some (l.getD (j + 1) 0)) _ = _
              rw [HX.out]
              simp [notUp, hle]
            · simp [intOf]; omega
      · obtain rfl : k = l.length := by omega
        go_wp2
        go_ret
        exact ⟨ret_int (by rw [HG.out, ← hrest, List.drop_length]; rfl), hb0.on hbel⟩

theorem andn : ∀ a : Nat, a < 64 → ∀ b : Nat, b < 64 → a &&& (18446744073709551615 - b) = a - (a &&& b) := by decide +kernel
/-- what follows from a hill that is in order -/
structure HillIn (w : World) (n : Nat) (q : Option Addr) (cap : Nat) (cs : List Ch) : Prop where
  chs : Chs n cs
  row : RowV w q (flatT cs)
  room : cs.length ≤ cap
theorem HillIn.below {w w' : World} {n : Nat} {q : Option Addr} {cap : Nat} {cs : List Ch} (h : HillIn w n q cap cs) (hb : Below w.heap.size w w') : HillIn w' n q cap cs := ⟨h.chs, h.row.below (Nat.le_refl _) hb, h.room⟩

theorem setS_bd {n : Nat} {l : List Int} (h : grErr n l = 0) : (∀ x ∈ l, 0 ≤ x ∧ x < n) ∧ l.Pairwise (· < ·) := by
  unfold grErr at h
  by_cases h0 : l.length = 0
  · rw [if_pos h0] at h; cases h
  · rw [if_neg h0] at h
    have key : ∀ (l : List Int) (b : Option Int), groupErr n b l = 0 → (∀ x ∈ l, 0 ≤ x ∧ x < n) ∧ l.Pairwise (· < ·) ∧ ∀ y, b = some y → ∀ x ∈ l, y < x := by
      intro l
      induction l with
      | nil => intro b _; exact ⟨by simp, by simp, by simp⟩
      | cons g r ih =>
        intro b h
        rw [groupErr] at h
        by_cases hg : isGal n g = true
        · rw [hg] at h
          simp only [Bool.not_true, Bool.false_eq_true, if_false] at h
          by_cases hu : notUp b g = true
          · rw [if_pos hu] at h; cases h
          · rw [if_neg hu] at h
            obtain ⟨i1, i2, i3⟩ := ih (some g) h
            have hgl := (isGal_iff n g).1 hg
            refine ⟨fun x hx => ?_, ?_, fun y hy x hx => ?_⟩
            · rcases List.mem_cons.1 hx with rfl | hx
              · exact hgl
              · exact i1 x hx
            · exact List.pairwise_cons.2 ⟨fun x hx => i3 g rfl x hx, i2⟩
            · subst hy
              have hlt : y < g := by simpa [notUp] using hu
              rcases List.mem_cons.1 hx with rfl | hx
              · exact hlt
              · have := i3 g rfl x hx; omega
        · have hg' : isGal n g = false := by simpa using hg
          rw [hg'] at h
          cases h
    obtain ⟨k1, k2, _⟩ := key l none h
    exact ⟨k1, k2⟩
theorem sorted_le {n : Nat} : ∀ {l : List Int}, (∀ x ∈ l, 0 ≤ x ∧ x < (n : Int)) → l.Pairwise (· < ·) → l.length ≤ n := by
  have key : ∀ (l : List Int) (lo : Nat), (∀ x ∈ l, (lo : Int) ≤ x ∧ x < (n : Int)) → l.Pairwise (· < ·) → l.length + lo ≤ n ∨ l = [] := by
    intro l
    induction l with
    | nil => intro lo _ _; exact .inr rfl
    | cons x r ih =>
      intro lo h1 h2
      rw [List.pairwise_cons] at h2
      have hx := h1 x (by simp)
      rcases ih (x.toNat + 1) (fun y hy => ⟨by have := h2.1 y hy; omega, (h1 y (by simp [hy])).2⟩) h2.2 with h | h
      · left; rw [List.length_cons]; omega
      · left; rw [h]; simp; omega
  intro l h1 h2
  rcases key l 0 (by simpa using h1) h2 with h | h
  · omega
  · rw [h]; simp
theorem setS_lt {n : Nat} (hn : n ≤ 6) {l : List Int} (h : ∀ x ∈ l, 0 ≤ x ∧ x < (n : Int)) : setS l < 2 ^ n := by
  have : ∀ (l : List Int) (s : Nat), (∀ x ∈ l, 0 ≤ x ∧ x < (n : Int)) → s < 2 ^ n → l.foldl (fun s g => s ||| 1 <<< g.toNat) s < 2 ^ n := by
    intro l
    induction l with
    | nil => intro s _ h; exact h
    | cons x r ih =>
      intro s hx h
      rw [List.foldl_cons]
      refine ih _ (fun y hy => hx y (by simp [hy])) ?_
      have h1 := hx x (by simp)
      refine Nat.or_lt_two_pow h ?_
      rw [Nat.one_shiftLeft]
      exact Nat.pow_lt_pow_right (by decide) (by omega)
  exact this l 0 h (Nat.two_pow_pos n)

set_option maxRecDepth 100000 in
set_option maxHeartbeats 2000000 in
theorem Stuck_any (n : Int) (q : Option Addr) (cap : Nat) (cs : List Ch) (w : World) (hr : RowV w q (flatT cs)) (hcap : cs.length ≤ cap) :
    Calls Try.prog 28 #[hillV n q cs.length cap] w (RetI w (stuckOf n.toNat cs).1 (stuckOf n.toNat cs).2) := by
  have hb0 : Below w.heap.size w (w.alloc (.cells #[.int .i64 n, .slice q cs.length cap] 24)) := (Below.refl _ _).alloc (Nat.le_refl _) _
  have c1 := Check_any n q cap cs _ (hr.below (Nat.le_refl _) hb0) hcap
  unfold hillV at c1 ⊢
  have C1 := Lib.hid c1
  have HB := Lib.hid hb0
  clear c1
  by_cases h0 : errD n cs = 0
  · obtain ⟨m, rfl, hchs⟩ := chs_of h0
    have hans : stuckOf ((m : Int).toNat) cs = (listS (allS m - (allS m &&& wetS m cs)), 0) := by
      unfold stuckOf
      rw [Int.toNat_natCast, if_neg (by rw [h0]; simp)]
    rw [hans]
    have HR := Lib.hid hr
    have HCH := Lib.hid hchs
    have hn6 := hchs.n6
    rw [h0] at C1
    clear hans h0 hr hb0 hchs
    go_enter Try.func28, Try.ntmps28
    go_upto_region 4 with (go_at_call 45; refine C1.out.mono ?_; rintro e w1 ⟨rfl, hb1⟩; obtain ⟨hc1, hf1⟩ := bcell hb1; have hac1 : Below w.heap.size w w1 := HB.out.on hb1; have hz0 : w.heap.size < w1.heap.size := (by have := hb1.size; simp at this; omega))
    obtain ⟨d0, d1⟩ : w1.cell? ⟨w.heap.size, 0, none⟩ = some (.int .i64 m) ∧ w1.cell? ⟨w.heap.size, 1, none⟩ = some (.slice q cs.length cap) := ⟨by rw [hc1 _ _ (by simp)]; simp, by rw [hc1 _ _ (by simp)]; simp⟩
    clear hc1 hf1 hb1
    go_region_held3 (fun W => W.cell? ⟨w.heap.size, 0, none⟩ = some (.int .i64 m) ∧ W.cell? ⟨w.heap.size, 1, none⟩ = some (.slice q cs.length cap)) (first | exact ⟨d0, d1⟩ | exact ⟨e0, e1⟩ | exact ⟨f0, f1⟩ | exact ⟨g0, g1⟩ | go_keep)
      (first
      | (go_at_call 49; refine (allOf_any m q cs.length cap _ hn6).mono ?_; rintro e wA ⟨rfl, hbA'⟩; have hbA : Below w1.heap.size w1 wA := (((Below.refl _ _).drew).on hbA'); have e0 := (hbA.cell (p := ⟨w.heap.size, 0, none⟩) hz0).trans d0; have e1 := (hbA.cell (p := ⟨w.heap.size, 1, none⟩) hz0).trans d1; have hacA : Below w.heap.size w wA := hac1.on hbA; have hzA : w.heap.size < wA.heap.size := Nat.lt_of_lt_of_le hz0 hbA.size)
      | (go_at_call 42; refine (channelsOf_any m q cap cs _ HCH.out (HR.out.below (Nat.le_refl _) hacA)).mono ?_; rintro e wB ⟨vB, rfl, hownB, hbB⟩; have f0 := (hbB.cell (p := ⟨w.heap.size, 0, none⟩) hzA).trans e0; have f1 := (hbB.cell (p := ⟨w.heap.size, 1, none⟩) hzA).trans e1; have hacB : Below w.heap.size w wB := hacA.on hbB; have hzB : w.heap.size < wB.heap.size := Nat.lt_of_lt_of_le hzA hbB.size; obtain ⟨qB, cB, rfl, hrowB, _, _⟩ := rowV_of_owns hownB (by intro h; rw [List.length_eq_zero_iff] at h; rw [h]; rfl))
      | (go_at_call 50; refine (drained_any m qB cB cs _ HCH.out hrowB).mono ?_; rintro e wC ⟨rfl, hbC⟩; have g0 := (hbC.cell (p := ⟨w.heap.size, 0, none⟩) hzB).trans f0; have g1 := (hbC.cell (p := ⟨w.heap.size, 1, none⟩) hzB).trans f1; have hacC : Below w.heap.size w wC := hacB.on hbC)
      | fail)
    have hwet := wetS_bd HCH.out.ok
    have hal : allS m < 2 ^ m := by unfold allS; have := Nat.two_pow_pos m; omega
    have h64 := pow_64 hn6 hwet
    have h64a := pow_64 hn6 hal
    have han : bits .andNot .u64 (allS m : Int) (wetS m cs : Int) = ((allS m - (allS m &&& wetS m cs) : Nat) : Int) := by
      rw [u64_andNot_nat _ _ (by omega) (by omega)]
      rw [andn _ h64a _ h64]
    have hls := list_any (allS m - (allS m &&& wetS m cs)) wC (by omega)
    have HLS := Lib.hid hls
    clear hls
    go_wp2_with (go_at_call 65; refine HLS.out.mono ?_; rintro e w5 ⟨v5, rfl, hown5, hb5⟩; obtain ⟨q5, c5, rfl, hrow5, hq5, hqb5⟩ := rowV_of_owns hown5 (by intro h; rw [List.length_eq_zero_iff] at h; rw [h]; rfl))
    go_ret2
    exact ⟨q5, c5, rfl, hrow5, hq5, fun a ha => ⟨Nat.le_trans hacC.size (hqb5 a ha).1, (hqb5 a ha).2⟩, hacC.on hb5⟩
  · have hans : stuckOf n.toNat cs = ([], errD n cs) := by
      unfold stuckOf
      rw [errD_nat, if_pos h0]
    rw [hans]
    have hb : (errD n cs != 0) = true := by simpa using h0
    clear hans h0 hr hb0
    go_enter Try.func28, Try.ntmps28
    go_wp2_with (go_at_call 45; refine C1.out.mono ?_; rintro e w1 ⟨rfl, hb1⟩)
    go_ret2
    exact ⟨none, 0, rfl, .inl rfl, fun _ => rfl, by simp, HB.out.on hb1⟩
end Go.Proofs.Ytadamjleglckpaa.drn

