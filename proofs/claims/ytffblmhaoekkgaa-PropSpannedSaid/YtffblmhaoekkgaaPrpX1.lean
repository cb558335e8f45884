/- Package prop: the program's functions, walked. -/
import Derived.Test.YtffblmhaoekkgaaBase
import Derived.OwnWalk
import Derived.Deep.AppendLies
import Derived.Test.YtffblmhaoekkgaaProg
import Derived.BigQuiet
import Derived.Deep.QuietTactic
import Derived.WalkSmall
import Derived.BigRegion
import Derived.RegionTactic
import Derived.Deep.RegionHeld3
import Derived.Deep.Cut
import Derived.Laws.EntriesVeiled
import Derived.Deep.RegionWith

/- Package prop: what its functions answer, as plain functions over numbers and lists (no walk, no seat's numbers). -/
namespace Go.Proofs.Ytffblmhaoekkgaa.prp
/-- a stone: half of its length, its middle, bounds of its weight -/
structure Sn where
  half : Int
  at_ : Int
  least : Int
  most : Int
def zs : Sn := ⟨0, 0, 0, 0⟩
def isF (x lo hi : Int) : Bool := decide (lo ≤ x) && decide (x ≤ hi)
/-- the error of a stone -/
def stErr (s : Sn) : Int := if !isF s.half 1 4194304 || !isF s.at_ (-33554432) 33554432 || !isF s.least 1 9 || !isF s.most 1 9 then 1 else if decide (s.most < s.least) then 7 else 0
/-- the first error of stones -/
def snErr : List Sn → Int
  | [] => 0
  | s :: r => if stErr s ≠ 0 then stErr s else snErr r
def errP (l : List Sn) : Int := if l.length = 0 then 4 else if 5 < l.length then 3 else snErr l
def placeErr (l : List Sn) (k : Int) : Int := if errP l ≠ 0 then errP l else if isF k 0 (l.length - 1) then 0 else 2
/-- the sides on which a level has an edge beneath it -/
def sidesS (level : Int) : List Int := if level = 0 then [1] else [1, -1]
def sideErr (l : List Sn) (level side : Int) : Int :=
  if placeErr l level ≠ 0 then placeErr l level else if side ≠ 1 ∧ side ≠ -1 then 1 else if level = 0 ∧ side = -1 then 21 else 0
/-- the first error of weights -/
def wsErr : List Sn → List Int → Int
  | s :: l, x :: ws => if isF x s.least s.most then wsErr l ws else 1
  | _, _ => 0
def truthErr (l : List Sn) (ws : List Int) : Int := if ws.length ≠ l.length then 5 else wsErr l ws
/-- the edge beneath a level -/
def edgeS (l : List Sn) (level : Nat) (side : Int) : Int := if level = 0 then 0 else (l.getD (level - 1) zs).at_ + side * (l.getD (level - 1) zs).half
/-- the moment of a level -/
def momS (l : List Sn) (ws : List Int) (level : Nat) (side : Int) : Int :=
  (((List.range l.length).drop level).map fun i => ws.getD i 0 * ((l.getD i zs).at_ - edgeS l level side) * side).sum
/-- the truth in which stones of a level beyond a place on a side are heavy -/
def leanS (l : List Sn) (level : Nat) (side place : Int) : List Int :=
  (List.range l.length).map fun i => if decide (level ≤ i) && decide (0 < ((l.getD i zs).at_ - place) * side) then (l.getD i zs).most else (l.getD i zs).least
def worstS (l : List Sn) (level : Nat) (side : Int) : List Int := leanS l level side (edgeS l level side)
def mayTipS (l : List Sn) (level : Nat) : Bool := (sidesS level).any fun sd => decide (0 < momS l (worstS l level sd) level sd)
def standsS (l : List Sn) : Bool := (List.range l.length).all fun i => !mayTipS l i
/-- a stone with small numbers (moved stones may be beyond the bounds) -/
def okS (s : Sn) : Prop := 1 ≤ s.half ∧ s.half ≤ 4194304 ∧ -100000000 ≤ s.at_ ∧ s.at_ ≤ 100000000 ∧ 1 ≤ s.least ∧ s.least ≤ 9 ∧ 1 ≤ s.most ∧ s.most ≤ 9 ∧ s.least ≤ s.most
theorem okS_of {s : Sn} (h : stErr s = 0) : okS s := by
  unfold stErr isF at h
  unfold okS
  split at h
  · simp at h
  · rename_i h1
    simp at h1
    split at h
    · simp at h
    · rename_i h2
      simp at h2
      omega
theorem ok_of : ∀ {l : List Sn}, snErr l = 0 → ∀ s ∈ l, okS s
  | [], _, s, hs => by simp at hs
  | s :: r, h, t, ht => by
    unfold snErr at h
    by_cases h1 : stErr s = 0
    · rw [if_neg (by simpa using h1)] at h
      rcases List.mem_cons.1 ht with rfl | ht
      · exact okS_of h1
      · exact ok_of h t ht
    · rw [if_pos h1] at h; exact absurd h h1
end Go.Proofs.Ytffblmhaoekkgaa.prp

/- The stage-7 seat's kit, for any program: rows of values in memory, rows that a call has made itself, appends to them, worlds that differ above a bound only. -/
namespace Go.Proofs.Ytffblmhaoekkgaa.prp
open Go.RowKit

theorem _root_.Go.RowKit.Below.on {w W w1 : World} (h0 : Below w.heap.size w W) (h1 : Below W.heap.size W w1) : Below w.heap.size w w1 := h0.trans (h1.mono h0.size)
/-- values in memory -/
def RowV (w : World) (q : Option Addr) (vs : List Value) : Prop :=
  vs = [] ∨ ∃ b off, q = some ⟨b, off, none⟩ ∧ b < w.heap.size ∧ ∀ (i : Nat) (v : Value), vs[i]? = some v → w.cell? ⟨b, off + i, none⟩ = some v
theorem RowV.nil (w : World) (q : Option Addr) : RowV w q [] := .inl rfl
theorem RowV.below {w w' : World} {q : Option Addr} {vs : List Value} (h : RowV w q vs) {N : Nat} (hN : w.heap.size ≤ N) (hb : Below N w w') : RowV w' q vs := by
  rcases h with h | ⟨b, off, e, hz, hc⟩
  · exact .inl h
  · exact .inr ⟨b, off, e, Nat.lt_of_lt_of_le hz hb.size, fun i v hi => (hb.cell (p := ⟨b, off + i, none⟩) (Nat.lt_of_lt_of_le hz hN)).trans (hc i v hi)⟩
/-- a row that lies below a bound stays where only what is above the bound may change -/
theorem RowV.keep {w w' : World} {q : Option Addr} {vs : List Value} (h : RowV w q vs) {N : Nat} (hN : ∀ a, q = some a → a.block < N) (hb : Below N w w') : RowV w' q vs := by
  rcases h with h | ⟨b, off, e, hz, hc⟩
  · exact .inl h
  · have := hN _ e
    exact .inr ⟨b, off, e, Nat.lt_of_lt_of_le hz hb.size, fun i v hi => (hb.cell (p := ⟨b, off + i, none⟩) this).trans (hc i v hi)⟩
theorem RowV.here {w : World} {q : Option Addr} {vs : List Value} (h : RowV w q vs) {k : Nat} (hk : k < vs.length) :
    ∃ b off, q = some ⟨b, off, none⟩ ∧ b < w.heap.size ∧ ∀ (i : Nat) (v : Value), vs[i]? = some v → w.cell? ⟨b, off + i, none⟩ = some v := by
  rcases h with rfl | h
  · simp at hk
  · exact h
theorem RowV.at {w wr : World} {q : Option Addr} {vs : List Value} (h : RowV w q vs) {k : Nat} (hk : k < vs.length) {N : Nat} (hN : w.heap.size ≤ N) (hb : Below N w wr) :
    ∃ b off, q = some ⟨b, off, none⟩ ∧ b < w.heap.size ∧ ∀ (i : Nat) (v : Value), vs[i]? = some v → wr.cell? ⟨b, off + i, none⟩ = some v := by
  obtain ⟨b, off, e, hz, hc⟩ := h.here hk
  exact ⟨b, off, e, hz, fun i v hi => (hb.cell (p := ⟨b, off + i, none⟩) (Nat.lt_of_lt_of_le hz hN)).trans (hc i v hi)⟩

def flatI (xs : List Int) : List Value := xs.map (Value.int .i64)
def flatS (ss : List Sn) : List Value := ss.flatMap fun s => [.int .i64 s.half, .int .i64 s.at_, .int .i64 s.least, .int .i64 s.most]
def snV (s : Sn) : Value := .agg #[.int .i64 s.half, .int .i64 s.at_, .int .i64 s.least, .int .i64 s.most]
theorem flatI_snoc (xs : List Int) (x : Int) : flatI (xs ++ [x]) = flatI xs ++ [.int .i64 x] := by simp [flatI]
theorem flatS_snoc (xs : List Sn) (s : Sn) : flatS (xs ++ [s]) = flatS xs ++ [.int .i64 s.half, .int .i64 s.at_, .int .i64 s.least, .int .i64 s.most] := by simp [flatS]
theorem flatS_length : ∀ xs : List Sn, (flatS xs).length = xs.length * 4
  | [] => rfl
  | s :: r => by have := flatS_length r; simp only [flatS, List.flatMap_cons, List.length_append, List.length_cons, List.length_nil] at *; omega
theorem flatS_get : ∀ (gs : List Sn) (i : Nat), i < gs.length → (flatS gs)[i * 4]? = some (.int .i64 (gs.getD i zs).half) ∧ (flatS gs)[i * 4 + 1]? = some (.int .i64 (gs.getD i zs).at_) ∧ (flatS gs)[i * 4 + 2]? = some (.int .i64 (gs.getD i zs).least) ∧ (flatS gs)[i * 4 + 3]? = some (.int .i64 (gs.getD i zs).most)
  | [], i, h => by simp at h
  | g :: gs, 0, _ => by simp [flatS]
  | g :: gs, i + 1, h => by
    have ih := flatS_get gs i (by simpa using h)
    have e : flatS (g :: gs) = .int .i64 g.half :: .int .i64 g.at_ :: .int .i64 g.least :: .int .i64 g.most :: flatS gs := by simp [flatS]
    rw [e, show (i + 1) * 4 = i * 4 + 1 + 1 + 1 + 1 from by omega]
    simpa using ih
theorem flatI_length (xs : List Int) : (flatI xs).length = xs.length := by simp [flatI]
theorem flatI_get (xs : List Int) (i : Nat) (h : i < xs.length) : (flatI xs)[i]? = some (.int .i64 (xs.getD i 0)) := by
  rw [getD_eq xs i 0 h]; simp [flatI, List.getElem?_eq_getElem h]
/-- stones in memory, read at one of them -/
theorem rowS_at {w wr : World} {q : Option Addr} {cs : List Sn} (h : RowV w q (flatS cs)) {k : Nat} (hk : k < cs.length) {N : Nat} (hN : w.heap.size ≤ N) (hb : Below N w wr) :
    ∃ b off, q = some ⟨b, off, none⟩ ∧ b < w.heap.size ∧ wr.cell? ⟨b, off + k * 4, none⟩ = some (.int .i64 (cs.getD k zs).half) ∧
      wr.cell? ⟨b, off + k * 4 + 1, none⟩ = some (.int .i64 (cs.getD k zs).at_) ∧ wr.cell? ⟨b, off + k * 4 + 2, none⟩ = some (.int .i64 (cs.getD k zs).least) ∧ wr.cell? ⟨b, off + k * 4 + 3, none⟩ = some (.int .i64 (cs.getD k zs).most) := by
  obtain ⟨b, off, e, hz, hc⟩ := h.at (k := 0) (by rw [flatS_length]; omega) hN hb
  obtain ⟨g0, g1, g2, g3⟩ := flatS_get cs k hk
  exact ⟨b, off, e, hz, hc _ _ g0, by rw [Nat.add_assoc]; exact hc _ _ g1, by rw [Nat.add_assoc]; exact hc _ _ g2, by rw [Nat.add_assoc]; exact hc _ _ g3⟩
theorem rowI_at {w wr : World} {q : Option Addr} {xs : List Int} (h : RowV w q (flatI xs)) {k : Nat} (hk : k < xs.length) {N : Nat} (hN : w.heap.size ≤ N) (hb : Below N w wr) :
    ∃ b off, q = some ⟨b, off, none⟩ ∧ b < w.heap.size ∧ wr.cell? ⟨b, off + k, none⟩ = some (.int .i64 (xs.getD k 0)) := by
  obtain ⟨b, off, e, hz, hc⟩ := h.at (k := k) (by rw [flatI_length]; exact hk) hN hb
  exact ⟨b, off, e, hz, hc _ _ (flatI_get xs k hk)⟩
theorem addr_add (g j : Nat) : (⟨g, 0, none⟩ : Addr).add j = ⟨g, j, none⟩ := by unfold Addr.add; split <;> simp_all
theorem addr_add_off (b off j : Nat) : (⟨b, off, none⟩ : Addr).add j = ⟨b, off + j, none⟩ := by unfold Addr.add; split <;> simp_all
/-- what owns a row reads as the values -/
theorem rowV_of_owns {w : World} {base : Nat} {e : TypeId} {size : Nat} {v : Value} {n : Nat} {vs : List Value} (h : w.ownsRow base e size v n vs) (h0 : n = 0 → vs = []) :
    ∃ q cap, v = .slice q n cap ∧ RowV w q vs ∧ (q = none → cap = 0) ∧ ∀ a, q = some a → base ≤ a.block ∧ a.block < w.heap.size := by
  have hlt := h.lt
  have hc := fun g hg => h.cells (g := g) hg
  obtain ⟨_, ⟨rfl, hn⟩ | ⟨g, cap, cur, rfl, hb, _⟩⟩ := h
  · exact ⟨none, 0, by rw [hn], .inl (h0 hn), fun _ => rfl, by simp⟩
  · refine ⟨_, cap, rfl, .inr ⟨g, 0, rfl, (hlt g rfl).2, fun i u hi => ?_⟩, by simp, fun a ha => ?_⟩
    · rw [Nat.zero_add, ← addr_add g i]
      exact hc g rfl _ _ hi
    · injection ha with ha; subst ha; exact ⟨hb, (hlt g rfl).2⟩
theorem owns_below {w w' : World} {base : Nat} {e : TypeId} {size : Nat} {v : Value} {n : Nat} {xs : List Value} (h : w.ownsRow base e size v n xs) {N : Nat} (hN : w.heap.size ≤ N) (hb : Below N w w') : w'.ownsRow base e size v n xs := by
  have hlt := h.lt
  obtain ⟨h1, h2 | ⟨g, cap, cur, rfl, hg, hh, r⟩⟩ := h
  · exact ⟨h1, .inl h2⟩
  · have := (hlt g rfl).2
    exact ⟨h1, .inr ⟨g, cap, cur, rfl, hg, (hb.block g (by omega)).trans hh, r⟩⟩
theorem grown_below {w w' : World} {base : Nat} {e : TypeId} {size : Nat} {v : Value} {n : Nat} {xs : List Value} (hown : w.ownsRow base e size v n xs) (hb : base ≤ w.heap.size) (hg : w.grownBy w' v.ownBlock) : Below base w w' :=
  (Below.refl base w).grown hg hb fun k hk => (hown.lt k hk).1

/-! one step of a loop over a list -/
theorem getD_take {α : Type} (l : List α) (k : Nat) (d : α) (h : k < l.length) : l.take (k + 1) = l.take k ++ [l.getD k d] := by
  rw [List.take_succ_eq_append_getElem h, getD_eq l k d h]
theorem foldl_take {α β : Type} (f : β → α → β) (a : β) (l : List α) (k : Nat) (d : α) (h : k < l.length) : (l.take (k + 1)).foldl f a = f ((l.take k).foldl f a) (l.getD k d) := by
  rw [getD_take l k d h, List.foldl_append]; rfl
theorem map_take_succ {α β : Type} (f : α → β) (l : List α) (k : Nat) (d : α) (h : k < l.length) : (l.take (k + 1)).map f = (l.take k).map f ++ [f (l.getD k d)] := by
  rw [getD_take l k d h, List.map_append]; rfl
theorem filter_take_succ {α : Type} (p : α → Bool) (l : List α) (k : Nat) (d : α) (h : k < l.length) : (l.take (k + 1)).filter p = (l.take k).filter p ++ if p (l.getD k d) then [l.getD k d] else [] := by
  rw [getD_take l k d h, List.filter_append]
  congr 1
  generalize l.getD k d = x
  by_cases hp : p x = true
  · rw [if_pos hp]; simp [hp]
  · rw [if_neg hp]; simp [hp]
def rangeF (p : Nat → Bool) (k : Nat) : List Int := ((List.range k).filter p).map fun i : Nat => (i : Int)
theorem rangeF_succ (p : Nat → Bool) (k : Nat) : rangeF p (k + 1) = rangeF p k ++ if p k then [(k : Int)] else [] := by
  unfold rangeF
  rw [List.range_succ, List.filter_append, List.map_append]
  congr 1
  by_cases hp : p k = true <;> simp [hp]
theorem rangeF_len (p : Nat → Bool) (k : Nat) : (rangeF p k).length ≤ k := by
  unfold rangeF
  rw [List.length_map]
  exact Nat.le_trans (List.length_filter_le _ _) (by simp)
theorem getD_mem {α : Type} (l : List α) (k : Nat) (d : α) (h : k < l.length) : l.getD k d ∈ l := by rw [getD_eq l k d h]; exact List.getElem_mem h

/-- the first k of a list are none that is looked for -/
def AllNo {α : Type} (f : α → Bool) (l : List α) (k : Nat) : Prop := (l.take k).all (fun a => !f a) = true
theorem AllNo.step {α : Type} {f : α → Bool} {l : List α} {k : Nat} (h : AllNo f l k) (hk : k < l.length) (d : α) :
    (f (l.getD k d) = false → AllNo f l (k + 1)) ∧ (f (l.getD k d) = true → firstIdx f l = k) := by
  rw [getD_eq l k d hk]
  constructor
  · intro e; unfold AllNo at *; rw [all_take_succ _ l k hk, h, e]; rfl
  · intro e; exact firstIdx_hit _ l k hk h e
theorem AllNo.all {α : Type} {f : α → Bool} {l : List α} (h : AllNo f l l.length) : firstIdx f l = -1 :=
  firstIdx_miss _ l (by simpa [AllNo] using h)
theorem AllNo.zero {α : Type} (f : α → Bool) (l : List α) : AllNo f l 0 := by simp [AllNo]

/-- a new list of ints, and an error -/
def RetI (w : World) (l : List Int) (err : Int) (e : Ending) (w' : World) : Prop :=
  ∃ q c, e = .returned (.tuple #[.slice q l.length c, .int .i64 err]) ∧ RowV w' q (flatI l) ∧ (q = none → c = 0) ∧ (∀ a, q = some a → w.heap.size ≤ a.block ∧ a.block < w'.heap.size) ∧ Below w.heap.size w w'
/-- a new row -/
def RetV (w : World) (t size n : Nat) (vs : List Value) (e : Ending) (w' : World) : Prop := ∃ v, e = .returned v ∧ w'.ownsRow w.heap.size t size v n vs ∧ Below w.heap.size w w'

section
variable {P : Program} (w : World)
/-- behind append the list lies where it lay, or in a new block -/
theorem append_row (base : Nat) (t ty e : TypeId) (i : TypeInfo) (z : Value) (size bytes : Nat) (ht : P.underlying t = some (.slice e)) (hi : P.info? e = some i) (hz : i.zero = some z)
    (hsize : i.size = size) (hby : i.bytes = bytes) (v : Value) (n : Nat) (xs : List Value) (hown : w.ownsRow base e size v n xs)
    (a : Addr) (m c : Nat) (news : List Value) (hl : news.length = m * size) (hnews : ∀ j u, news[j]? = some u → w.cell? (a.add j) = some u) (h1 : ∀ u ∈ news, u.oneCell' = true)
    (h63 : n + m ≤ maxLen) (hbytes : (n + m) * bytes ≤ 140737488355328) (hm : 0 < m) (v' : Value) (w' : World)
    (hr : (Builtin.append_ #[t, t] ty #[v, .slice (some a) m c]).run P w = .ok v' w') : v'.ownBlock = v.ownBlock ∨ v'.ownBlock = some w.heap.size := by
  subst hsize
  subst hby
  have hcells := fun g hg => hown.cells (g := g) hg
  have hsmall : n + m ≤ 9223372036854775807 := by simp only [maxLen] at h63; omega
  obtain ⟨hxl, ⟨rfl, rfl⟩ | ⟨g, cap, cur, rfl, hbg, hg, hnc, hcm, hcs, htake⟩⟩ := hown
  · have h := run_append_nil (P := P) w t ty e i z ht hi hz a m c news hl hnews hm (by omega) (by rw [Nat.zero_add] at hbytes; omega)
    rw [h] at hr
    injection hr with e1 _
    exact .inr (by rw [← e1]; rfl)
  · by_cases hroom : n + m ≤ cap
    · have h := run_append_room (P := P) w t ty e i ht hi g n cap cur hg a m c news hl hnews h1 hroom (by rw [hl, hcs, ← Nat.add_mul]; exact Nat.mul_le_mul_right _ hroom)
      rw [h] at hr
      injection hr with e1 _
      exact .inl (by rw [← e1]; rfl)
    · have h := run_append_grow (P := P) w t ty e i z ht hi hz ⟨g, 0, none⟩ n cap xs hxl (hcells g rfl) a m c news hl hnews (by omega) (by omega) (growslice_fits (by omega) hbytes)
      rw [h] at hr
      injection hr with e1 _
      exact .inr (by rw [← e1]; rfl)
theorem wpList_append_blk {ops : Array Oper} {rest : List Oper} {o : Oper} {a : Act} {Q : Exit → Act → World → Prop} (hgd : o.guard = none) (s x : Operand) (t : TypeId)
    (ho : o.op = .call { callee := .builtin .append, args := #[s, x], argTypes := #[t, t] })
    (base : Nat) (e : TypeId) (i : TypeInfo) (z : Value) (size bytes : Nat) (ht : P.underlying t = some (.slice e)) (hi : P.info? e = some i) (hz : i.zero = some z)
    (hsize : i.size = size) (hby : i.bytes = bytes) (hzs : z.cells.size = size) (hsz : 0 < size)
    (v : Value) (n : Nat) (xs : List Value) (hs : a.eval s = v) (hown : w.ownsRow base e size v n xs)
    (ad : Addr) (m c : Nat) (news : List Value) (hx : a.eval x = .slice (some ad) m c) (hl : news.length = m * size) (hnews : ∀ j u, news[j]? = some u → w.cell? (ad.add j) = some u) (h1 : ∀ u ∈ news, u.oneCell' = true)
    (h63 : n + m ≤ maxLen) (hbytes : (n + m) * bytes ≤ 140737488355328) (hbase : base ≤ w.heap.size) (hm : 0 < m)
    (h : ∀ v' w', w'.ownsRow base e size v' (n + m) (xs ++ news) → w.grownBy w' v.ownBlock → (v'.ownBlock = v.ownBlock ∨ v'.ownBlock = some w.heap.size) → wpList P ops Q rest (a.put o.dst v') w') : wpList P ops Q (o :: rest) a w :=
  wpList_plain hgd fun _ hK => by
    obtain ⟨v', w', hr, h2, h3, _⟩ := run_append_own (P := P) w base t o.type e i z size bytes ht hi hz hsize hby hzs hsz v n xs hown ad m c news hl hnews h1 h63 hbytes hbase
    have h5 := append_row (P := P) w base t o.type e i z size bytes ht hi hz hsize hby v n xs hown ad m c news hl hnews h1 h63 hbytes hm v' w' hr
    unfold Oper.wp execOp
    simp only [ho, resolve, invoke, builtin, Sem.run_bind, Sem.run_pure, Result.andThen_ok, List.map_toArray, List.map_cons, List.map_nil, hs, hx, hr]
    exact hK _ _ (h v' w' h2 h3 h5)
/-- append(list, x): one element, which lies in a block of its own -/
theorem app_one {ops : Array Oper} {rest : List Oper} {o : Oper} {a : Act} {Q : Exit → Act → World → Prop} (hgd : o.guard = none) (s x : Operand) (t : TypeId)
    (ho : o.op = .call { callee := .builtin .append, args := #[s, x], argTypes := #[t, t] }) (base : Nat) (e : TypeId) (z : Value) (size bytes : Nat) (ht : P.underlying t = some (.slice e))
    (hinfo : (P.info? e).map (fun i => (i.zero, i.size, i.bytes)) = some (some z, size, bytes)) (hzs : z.cells.size = size) (hsz : 0 < size) (hby : bytes ≤ 64) (v : Value) (n : Nat) (xs : List Value) (hs : a.eval s = v)
    (hown : w.ownsRow base e size v n xs) (B c : Nat) (hx : a.eval x = .slice (some ⟨B, 0, none⟩) 1 c) (news : List Value) (hl : news.length = size)
    (hc : ∀ j u, news[j]? = some u → w.cell? ⟨B, j, none⟩ = some u) (h1 : ∀ u ∈ news, u.oneCell' = true) (hn : n ≤ 1000000) (hbase : base ≤ w.heap.size)
    (h : ∀ v' w', w'.ownsRow base e size v' (n + 1) (xs ++ news) → w.grownBy w' v.ownBlock → (v'.ownBlock = v.ownBlock ∨ v'.ownBlock = some w.heap.size) → wpList P ops Q rest (a.put o.dst v') w') : wpList P ops Q (o :: rest) a w := by
  obtain ⟨i0, hi, hz0, hz1, hz2⟩ := info_parts hinfo
  have hb : (n + 1) * bytes ≤ (n + 1) * 64 := Nat.mul_le_mul_left _ hby
  exact wpList_append_blk w hgd s x t ho base e i0 z size bytes ht hi hz0 hz1 hz2 hzs hsz v n xs hs hown ⟨B, 0, none⟩ 1 c news hx (by omega) (fun j u hj => by rw [addr_add]; exact hc j u hj) h1 (by unfold maxLen; omega) (by omega) hbase (by decide) h
/-- at a step of a region that draws: append(list, x): one element, which lies in a block of its own -/
theorem step_one {ops : Array Oper} {o : Oper} {a : Act} {K : Act → World → Prop} {Q : Exit → Act → World → Prop} {E : Prop} (hgd : o.guard = none) (s x : Operand) (t : TypeId)
    (ho : o.op = .call { callee := .builtin .append, args := #[s, x], argTypes := #[t, t] }) (base : Nat) (e : TypeId) (z : Value) (size bytes : Nat) (ht : P.underlying t = some (.slice e))
    (hinfo : (P.info? e).map (fun i => (i.zero, i.size, i.bytes)) = some (some z, size, bytes)) (hzs : z.cells.size = size) (hsz : 0 < size) (hby : bytes ≤ 64) (v : Value) (n : Nat) (xs : List Value) (hs : a.eval s = v)
    (hown : w.ownsRow base e size v n xs) (B c : Nat) (hx : a.eval x = .slice (some ⟨B, 0, none⟩) 1 c) (news : List Value) (hl : news.length = size)
    (hc : ∀ j u, news[j]? = some u → w.cell? ⟨B, j, none⟩ = some u) (h1 : ∀ u ∈ news, u.oneCell' = true) (hn : n ≤ 1000000) (hbase : base ≤ w.heap.size)
    (h : ∀ g cap w', w'.ownsRow base e size (.slice (some ⟨g, 0, none⟩) (n + 1) cap) (n + 1) (xs ++ news) → w.grownBy w' v.ownBlock → (v.ownBlock = some g ∨ g = w.heap.size) → g < w'.heap.size → K (a.put o.dst (.slice (some ⟨g, 0, none⟩) (n + 1) cap)) w') :
    if Region.wanted o (yielded ops a.tmps) = true then Oper.wp P o a w K Q else E := by
  obtain ⟨i0, hi, hz0, hz1, hz2⟩ := info_parts hinfo
  have hb : (n + 1) * bytes ≤ (n + 1) * 64 := Nat.mul_le_mul_left _ hby
  exact step_append_lies w hgd s x t ho base e i0 z size bytes ht hi hz0 hz1 hz2 hzs hsz v n xs hs hown ⟨B, 0, none⟩ 1 c news hx (by omega) (fun j u hj => by rw [addr_add]; exact hc j u hj) h1 (by decide) (by unfold maxLen; omega) (by omega) hbase _ rfl h
end
end Go.Proofs.Ytffblmhaoekkgaa.prp

/- Package prop, the walks: single numbers, stones, Check and checkPlace. -/
namespace Go.Proofs.Ytffblmhaoekkgaa.prp
open Go.RowKit
set_option linter.unusedSimpArgs false
set_option linter.unusedVariables false

theorem isFrom_any (x lo hi : Int) (w : World) : Calls Try.prog 78 #[.int .i64 x, .int .i64 lo, .int .i64 hi] w fun e w' => e = .returned (.bool (isF x lo hi)) ∧ w = w' := by
  by_cases h : lo ≤ x
  · go_enter Try.func78, Try.ntmps78
    go_wp2
    go_ret
    exact ⟨ret_bool (by simp [isF, h]), rfl⟩
  · go_enter Try.func78, Try.ntmps78
    go_wp2
    go_ret
    exact ⟨ret_bool (by simp [isF]; omega), rfl⟩
theorem isWeight_any (x : Int) (w : World) : Calls Try.prog 86 #[.int .i64 x] w fun e w' => e = .returned (.bool (isF x 1 9)) ∧ w = w' := by
  go_enter Try.func86, Try.ntmps86
  go_wp2_with (go_at_call 78; refine (isFrom_any _ _ _ _).mono ?_; rintro e w1 ⟨rfl, rfl⟩)
  go_ret
  exact ⟨rfl, rfl⟩
set_option maxHeartbeats 2000000 in
theorem wrongWith_any (s : Sn) (w : World) : Calls Try.prog 55 #[snV s] w fun e w' => e = .returned (.int .i64 (stErr s)) ∧ Below w.heap.size w w' := by
  obtain ⟨a, b, c, d⟩ := s
  unfold snV
  have hb0 : Below w.heap.size w (w.alloc (.cells #[.int .i64 a, .int .i64 b, .int .i64 c, .int .i64 d] 44)) := (Below.refl _ _).alloc (Nat.le_refl _) _
  go_enter Try.func55, Try.ntmps55
  go_wp2_with (first
    | (go_at_call 78; refine (isFrom_any _ _ _ _).mono ?_; rintro e w1 ⟨rfl, rfl⟩)
    | (go_at_call 86; refine (isWeight_any _ _).mono ?_; rintro e w1 ⟨rfl, rfl⟩))
  all_goals go_ret
  all_goals refine ⟨ret_int ?_, hb0⟩
  all_goals clear hb0
  all_goals unfold stErr
  all_goals first | grind | (simp_all; done)

theorem snErr_at (l : List Sn) (k : Nat) (hk : k < l.length) : snErr (l.drop k) = if stErr (l.getD k zs) ≠ 0 then stErr (l.getD k zs) else snErr (l.drop (k + 1)) := by
  rw [List.drop_eq_getElem_cons hk, ← getD_eq l k zs hk]; rfl
set_option maxHeartbeats 2000000 in
theorem Check_any (q : Option Addr) (cap : Nat) (l : List Sn) (w : World) (hr : RowV w q (flatS l)) (hl : l.length ≤ 1000000) :
    Calls Try.prog 16 #[.slice q l.length cap] w fun e w' => e = .returned (.int .i64 (errP l)) ∧ Below w.heap.size w w' := by
  by_cases h0 : l.length = 0
  · have e0 : l = [] := List.length_eq_zero_iff.1 h0
    subst e0
    go_enter Try.func16, Try.ntmps16
    go_wp2
    go_ret
    exact ⟨ret_int (by simp [errP]), Below.refl _ _⟩
  by_cases h5 : 5 < l.length
  · go_enter Try.func16, Try.ntmps16
    go_wp2
    go_ret
    exact ⟨ret_int (by simp [errP, h0, h5]), Below.refl _ _⟩
  · have hE : errP l = snErr (l.drop 0) := by simp [errP, h0, h5]
    go_enter Try.func16, Try.ntmps16
    go_wp2
    have hz : ((l.length : Int) == 0) = false := by rw [beq_eq_false_iff_ne]; omega
    simp only [hz]
    clear hz
    go_loopw [14] (fun i wr => ∃ k : Nat, k ≤ l.length ∧ i = .int .i64 k ∧ errP l = snErr (l.drop k) ∧ Below w.heap.size w wr) (fun i _ => l.length - (intOf i).toNat)
    case atStart => exact ⟨0, Nat.zero_le _, rfl, hE, Below.refl _ _⟩
    case round =>
      obtain ⟨k, hk, rfl, hall, hbel⟩ := hrel
      by_cases hlt : k < l.length
      · obtain ⟨b, off, rfl, hb, h1, h2, h3, h4⟩ := rowS_at hr hlt (Nat.le_refl _) hbel
        have hst := snErr_at l k hlt
        rw [← hall] at hst
        clear hall hE
        generalize l.getD k zs = g at h1 h2 h3 h4 hst
        have HST := Lib.hid hst
        clear hst
        go_wp2_with (go_at_call 55; refine (wrongWith_any g _).mono ?_; rintro e w' ⟨rfl, hb'⟩)
        · have hne : stErr g ≠ 0 := by simpa using (by assumption : (stErr g != 0) = true)
          go_ret
          exact ⟨ret_int (by rw [HST.out, if_pos hne]), al1 hbel hbel.size hb' (by have := hbel.size; simp; omega)⟩
        · have he : stErr g = 0 := by simpa using (by assumption : (stErr g != 0) = false)
          go_roundw
          case rel => exact ⟨k + 1, hlt, by go_num, by rw [HST.out, if_neg (by simp [he])], al1 hbel hbel.size hb' (by have := hbel.size; simp; omega)⟩
          case measure => simp [intOf]; omega
      · obtain rfl : k = l.length := by omega
        go_wp2
        go_ret
        rw [List.drop_length] at hall
        exact ⟨ret_int hall.symm, hbel⟩
end Go.Proofs.Ytffblmhaoekkgaa.prp

/- Package prop, the walks: checkPlace, sidesOf, edge. -/
namespace Go.Proofs.Ytffblmhaoekkgaa.prp
open Go.RowKit
set_option linter.unusedSimpArgs false
set_option linter.unusedVariables false

theorem checkPlace_any (q : Option Addr) (cap : Nat) (l : List Sn) (k : Int) (w : World) (hr : RowV w q (flatS l)) (hl : l.length ≤ 1000000) :
    Calls Try.prog 60 #[.slice q l.length cap, .int .i64 k] w fun e w' => e = .returned (.int .i64 (placeErr l k)) ∧ Below w.heap.size w w' := by
  go_enter Try.func60, Try.ntmps60
  go_wp2_with (first
    | (go_at_call 16; refine (Check_any q cap l _ hr hl).mono ?_; rintro e w1 ⟨rfl, hb1⟩)
    | (go_at_call 78; refine (isFrom_any _ _ _ _).mono ?_; rintro e w1 ⟨rfl, rfl⟩))
  all_goals go_ret
  all_goals refine ⟨ret_int ?_, hb1⟩
  all_goals unfold placeErr
  all_goals simp_all

/-- a new list of ints -/
def RetL (w : World) (l : List Int) (e : Ending) (w' : World) : Prop :=
  ∃ q c, e = .returned (.slice q l.length c) ∧ RowV w' q (flatI l) ∧ (∀ a, q = some a → w.heap.size ≤ a.block ∧ a.block < w'.heap.size) ∧ l.length ≤ c ∧ Below w.heap.size w w'
theorem rowV_new (w : World) (xs : List Value) (t : TypeId) (fr : Nat × Nat) : RowV (w.alloc (.cells xs.toArray t fr)) (some ⟨w.heap.size, 0, none⟩) xs := by
  refine .inr ⟨w.heap.size, 0, rfl, by simp, fun i v hi => ?_⟩
  rw [Nat.zero_add]
  unfold World.cell?
  rw [show (w.alloc (.cells xs.toArray t fr)).heap[w.heap.size]? = some (.cells xs.toArray t fr) from heap_alloc_new w _]
  simpa using hi
theorem sidesOf_any (level : Int) (w : World) : Calls Try.prog 61 #[.int .i64 level] w fun e w' => RetL w (sidesS level) e w' := by
  by_cases h : level = 0
  · subst h
    go_enter Try.func61, Try.ntmps61
    go_wp2
    go_ret
    refine ⟨some ⟨w.heap.size, 0, none⟩, 1, rfl, rowV_new w (flatI [1]) _ _, fun a ha => ?_, Nat.le_refl _, (Below.refl _ _).alloc (Nat.le_refl _) _⟩
    · injection ha with ha; subst ha; exact ⟨Nat.le_refl _, by simp⟩
  · have hb : (level == 0) = false := beq_eq_false_iff_ne.2 h
    have hs : sidesS level = [1, -1] := by simp [sidesS, h]
    rw [hs]
    go_enter Try.func61, Try.ntmps61
    go_wp2
    go_ret
    refine ⟨some ⟨w.heap.size, 0, none⟩, 2, rfl, rowV_new w (flatI [1, -1]) _ _, fun a ha => ?_, Nat.le_refl _, (Below.refl _ _).alloc (Nat.le_refl _) _⟩
    · injection ha with ha; subst ha; exact ⟨Nat.le_refl _, by simp⟩

theorem mul_side {x d : Int} (hd : d = 1 ∨ d = -1) (hx : -1000000000000000000 ≤ x ∧ x ≤ 1000000000000000000) : wrap64 (x * d) = x * d ∧ wrap64 (d * x) = d * x := by
  rcases hd with rfl | rfl
  · exact ⟨IntWalk.wrap64_in _ ⟨by omega, by omega⟩, IntWalk.wrap64_in _ ⟨by omega, by omega⟩⟩
  · exact ⟨IntWalk.wrap64_in _ ⟨by omega, by omega⟩, IntWalk.wrap64_in _ ⟨by omega, by omega⟩⟩
theorem edge_any (q : Option Addr) (cap : Nat) (l : List Sn) (k : Nat) (d : Int) (w : World) (hr : RowV w q (flatS l)) (hl : l.length ≤ 1000000) (hok : ∀ s ∈ l, okS s) (hk : k < l.length) (hd : d = 1 ∨ d = -1) :
    Calls Try.prog 88 #[.slice q l.length cap, .int .i64 k, .int .i64 d] w fun e w' => e = .returned (.int .i64 (edgeS l k d)) ∧ Below w.heap.size w w' := by
  by_cases h0 : k = 0
  · subst h0
    go_enter Try.func88, Try.ntmps88
    go_wp2
    go_ret
    exact ⟨rfl, Below.refl _ _⟩
  · have hlt : k - 1 < l.length := by omega
    obtain ⟨b, off, rfl, hb, h1, h2, h3, h4⟩ := rowS_at hr hlt (Nat.le_refl _) (Below.refl w.heap.size w)
    have hg := hok _ (getD_mem l (k - 1) zs hlt)
    have hE : edgeS l k d = (l.getD (k - 1) zs).at_ + d * (l.getD (k - 1) zs).half := by simp [edgeS, h0]
    generalize l.getD (k - 1) zs = g at h1 h2 h3 h4 hg hE
    obtain ⟨g1, g2, g3, g4, _⟩ := hg
    have hm := (mul_side hd (x := g.half) ⟨by omega, by omega⟩).2
    have hw : wrap64 (g.at_ + d * g.half) = g.at_ + d * g.half := by
      rcases hd with rfl | rfl <;> exact IntWalk.wrap64_in _ ⟨by omega, by omega⟩
    have hkb : ((k : Int) == 0) = false := by rw [beq_eq_false_iff_ne]; omega
    have HE := Lib.hid hE
    clear hE
    go_enter Try.func88, Try.ntmps88
    go_wp2
    go_ret
    exact ⟨ret_int (by rw [HE.out]; first | exact hw | (rw [hm]; exact hw)), (Below.refl _ _).alloc (Nat.le_refl _) _⟩
end Go.Proofs.Ytffblmhaoekkgaa.prp

/- Package prop, the walks: leaning, worst. -/
namespace Go.Proofs.Ytffblmhaoekkgaa.prp
open Go.RowKit
set_option linter.unusedSimpArgs false
set_option linter.unusedVariables false

theorem infoI : (Try.prog.info? 3).map (fun i => (i.zero, i.size, i.bytes)) = some (some (.int .i64 0), 1, 8) := by kernel_rfl
theorem madeI (k : Nat) : (madeCells (Value.int .i64 0).cells (k * 1)).toList = flatI (List.replicate k 0) := by
  rw [show (Value.int .i64 0).cells = #[Value.int .i64 0] from rfl, toList_madeCells_one]
  simp [flatI]
theorem flatI_set (C : List Int) (i : Nat) (s : Int) : (flatI C).set i (.int .i64 s) = flatI (C.set i s) := by unfold flatI; rw [List.map_set]
/-- the first k of n numbers are there, the others are 0 -/
def partI (n : Nat) (f : Nat → Int) (k : Nat) : List Int := (List.range n).map fun i => if i < k then f i else 0
theorem partI_zero (n : Nat) (f : Nat → Int) : partI n f 0 = List.replicate n 0 := by
  unfold partI
  apply List.ext_getElem <;> simp
theorem partI_full (n : Nat) (f : Nat → Int) : partI n f n = (List.range n).map f := by
  unfold partI
  exact List.map_congr_left fun i hi => if_pos (List.mem_range.1 hi)
theorem partI_len (n : Nat) (f : Nat → Int) (k : Nat) : (partI n f k).length = n := by simp [partI]
theorem partI_set (n : Nat) (f : Nat → Int) (k : Nat) (hk : k < n) : (partI n f k).set k (f k) = partI n f (k + 1) := by
  unfold partI
  apply List.ext_getElem
  · simp
  · intro i h1 h2
    simp at h1 h2
    rw [List.getElem_set]
    by_cases e : k = i
    · subst e; simp
    · simp only [e, if_false, List.getElem_map, List.getElem_range]
      by_cases h : i < k
      · rw [if_pos h, if_pos (by omega)]
      · rw [if_neg h, if_neg (by omega)]
def leanF (l : List Sn) (lv : Nat) (d p : Int) (i : Nat) : Int := if decide (lv ≤ i) && decide (0 < ((l.getD i zs).at_ - p) * d) then (l.getD i zs).most else (l.getD i zs).least
theorem leanS_eq (l : List Sn) (lv : Nat) (d p : Int) : leanS l lv d p = partI l.length (leanF l lv d p) l.length := (partI_full _ _).symm

set_option maxRecDepth 100000 in
set_option maxHeartbeats 2000000 in
theorem leaning_any (q : Option Addr) (cap : Nat) (l : List Sn) (lv : Nat) (d p : Int) (w : World) (hr : RowV w q (flatS l)) (hl : l.length ≤ 1000) (hok : ∀ s ∈ l, okS s) (hd : d = 1 ∨ d = -1) (hp : -1000000000 ≤ p ∧ p ≤ 1000000000) (hlv : lv ≤ 1000) :
    Calls Try.prog 87 #[.slice q l.length cap, .int .i64 lv, .int .i64 d, .int .i64 p] w fun e w' => RetL w (leanS l lv d p) e w' := by
  obtain ⟨i0, hi, hz0', hz1', hz2'⟩ := info_parts infoI
  have HI := Lib.hid hi
  have HZ0 := Lib.hid hz0'
  have HZ1 := Lib.hid hz1'
  have HZ2 := Lib.hid hz2'
  have HOK := Lib.hid hok
  clear hi hz0' hz1' hz2' hok
  go_enter Try.func87, Try.ntmps87
  go_wp2_with (at_make; refine wpList_make_full _ rfl (.tmp 13) (.tmp 13) 36 rfl w.heap.size 3 i0 (.int .i64 0) 1 Try.underlying36 HI.out HZ0.out HZ1.out .i64 .i64 l.length l.length l.length rfl rfl rfl rfl (by rw [HZ2.out]; omega) (by unfold maxLen; omega) (Nat.le_refl _) ?_; intro w4 hown4 hgrow4; rw [madeI] at hown4; have hb4 : Below w.heap.size w w4 := (Below.refl _ _).grown hgrow4 (Nat.le_refl _) (by simp))
  have hg4 : w.heap.size < w4.heap.size := (hown4.lt w.heap.size rfl).2
  rw [← partI_zero l.length (leanF l lv d p)] at hown4
  clear hgrow4
  go_loopw [17] (fun i wr => ∃ k : Nat, k ≤ l.length ∧ i = .int .i64 k ∧ wr.ownsRow w.heap.size 3 1 (.slice (some ⟨w.heap.size, 0, none⟩) l.length l.length) l.length (flatI (partI l.length (leanF l lv d p) k)) ∧ Below w.heap.size w wr) (fun i _ => l.length - (intOf i).toNat)
  case atStart => exact ⟨0, Nat.zero_le _, rfl, hown4, hb4⟩
  case round =>
    obtain ⟨k, hk, rfl, ho, hbel⟩ := hrel
    by_cases hlt : k < l.length
    · obtain ⟨b, off, rfl, hb, h1, h2, h3, h4⟩ := rowS_at hr hlt (Nat.le_refl _) hbel
      have hg := HOK.out _ (getD_mem l k zs hlt)
      have hstep := partI_set l.length (leanF l lv d p) k hlt
      have hv : leanF l lv d p k = if decide (lv ≤ k) && decide (0 < ((l.getD k zs).at_ - p) * d) then (l.getD k zs).most else (l.getD k zs).least := rfl
      generalize l.getD k zs = g at h1 h2 h3 h4 hg hv
      obtain ⟨g1, g2, g3, g4, g5, g6, g7, g8, g9⟩ := hg
      have hm := (mul_side hd (x := g.at_ - p) ⟨by omega, by omega⟩).1
      have hs : wrap64 (g.at_ - p) = g.at_ - p := IntWalk.wrap64_in _ ⟨by omega, by omega⟩
      have hbA : Below wr.heap.size wr (wr.alloc (.cells #[.int .i64 g.half, .int .i64 g.at_, .int .i64 g.least, .int .i64 g.most] 44)) := (Below.refl _ _).alloc (Nat.le_refl _) _
      have hgz := (ho.lt w.heap.size rfl).2
      have hce := ho.cellAt k (by omega)
      rw [flatI_get _ k (by rw [partI_len]; exact hlt)] at hce
      have hfz := ho.frozenAt k
      have hst1 := ho.stored k (.int .i64 g.least)
      rw [flatI_set] at hst1
      have hst2 := hst1.1.stored k (.int .i64 g.most)
      rw [flatI_set] at hst2
      have hne : wr.heap.size ≠ w.heap.size := by omega
      have hki : (k : Int) < (l.length : Int) := by omega
      generalize (partI l.length (leanF l lv d p) k).getD k 0 = old at hce
      have hce1 := hst1.1.cellAt k (by omega)
      have hfz1 := hst1.1.frozenAt k
      rw [flatI_get _ k (by rw [List.length_set, partI_len]; exact hlt)] at hce1
      generalize ((partI l.length (leanF l lv d p) k).set k g.least).getD k 0 = old1 at hce1
      have HST1 := Lib.hid hst1
      have HST2 := Lib.hid hst2
      have HSTEP := Lib.hid hstep
      have HV := Lib.hid hv
      have HO := Lib.hid ho
      have HM := Lib.hid hm
      clear hst1 hst2 hstep hv ho hm
      go_wp2
      all_goals
        have hm := HM.out
        have hv := HV.out
        have hst1 := HST1.out
        have hst2 := HST2.out
        have hstep := HSTEP.out
        rw [List.set_set] at hst2
        generalize (g.at_ - p) * d = X at *
        have hb1 := hbel.grown hst1.2 hbel.size (fun k hk => by injection hk with hk; omega)
        have hb2 := hb1.grown hst2.2 hb1.size (fun k hk => by injection hk with hk; omega)
        refine ⟨⟨k + 1, hlt, by go_num, ?_, ?_⟩, by simp [intOf]; omega⟩
      any_goals
        first
        | exact hb2.alloc hb2.size _
        | exact hb1.alloc hb1.size _
      all_goals
        first
        | (have e : leanF l lv d p k = g.most := by rw [hv, if_pos (by simp; omega)]
           rw [e] at hstep
           rw [hstep] at hst2
           exact owns_below hst2.1 (Nat.le_refl _) ((Below.refl _ _).alloc (Nat.le_refl _) _))
        | (have e : leanF l lv d p k = g.least := by rw [hv, if_neg (by simp; omega)]
           rw [e] at hstep
           rw [hstep] at hst1
           exact owns_below hst1.1 (Nat.le_refl _) ((Below.refl _ _).alloc (Nat.le_refl _) _))
        | (clear hst1 hst2 hb1 hb2; trace_state; sorry)
    · obtain rfl : k = l.length := by omega
      rw [← leanS_eq] at ho
      have hlen : (leanS l lv d p).length = l.length := by simp [leanS]
      obtain ⟨q9, c9, e9, hr9, hc9, hq9⟩ := rowV_of_owns ho (by intro h0; rw [List.length_eq_zero_iff.1 (show (leanS l lv d p).length = 0 by omega)]; rfl)
      injection e9 with e1 _ e2
      subst e1 e2
      have HR9 := Lib.hid hr9
      have HLN := Lib.hid hlen
      clear ho hr9 hlen
      go_wp2
      go_ret
      exact ⟨some ⟨w.heap.size, 0, none⟩, l.length, by rw [HLN.out]; rfl, HR9.out, hq9, by rw [HLN.out]; exact Nat.le_refl _, hbel⟩

theorem edgeS_bd {l : List Sn} (hok : ∀ s ∈ l, okS s) {k : Nat} (hk : k < l.length) {d : Int} (hd : d = 1 ∨ d = -1) : -200000000 ≤ edgeS l k d ∧ edgeS l k d ≤ 200000000 := by
  unfold edgeS
  split
  · omega
  · have hlt : k - 1 < l.length := by omega
    have hg := hok _ (getD_mem l (k - 1) zs hlt)
    generalize l.getD (k - 1) zs = g at hg
    obtain ⟨g1, g2, g3, g4, _⟩ := hg
    rcases hd with rfl | rfl <;> omega
theorem worst_any (q : Option Addr) (cap : Nat) (l : List Sn) (k : Nat) (d : Int) (w : World) (hr : RowV w q (flatS l)) (hl : l.length ≤ 1000) (hok : ∀ s ∈ l, okS s) (hk : k < l.length) (hd : d = 1 ∨ d = -1) :
    Calls Try.prog 57 #[.slice q l.length cap, .int .i64 k, .int .i64 d] w fun e w' => RetL w (worstS l k d) e w' := by
  have hbd := edgeS_bd hok hk hd
  go_enter Try.func57, Try.ntmps57
  go_wp2_with (first
    | (go_at_call 88; refine (edge_any q cap l k d _ hr (by omega) hok hk hd).mono ?_; rintro e w1 ⟨rfl, hb1⟩)
    | (go_at_call 87; refine (leaning_any q cap l k d _ _ (hr.below (Nat.le_refl _) hb1) hl hok hd (by omega) (by omega)).mono ?_; rintro e w2 ⟨q2, c2, rfl, hr2, hq2, hc2, hb2⟩))
  go_ret
  exact ⟨q2, c2, rfl, hr2, fun a ha => ⟨Nat.le_trans hb1.size (hq2 a ha).1, (hq2 a ha).2⟩, hc2, hb1.on hb2⟩
end Go.Proofs.Ytffblmhaoekkgaa.prp

/- Package prop, the walks: weigh. -/
namespace Go.Proofs.Ytffblmhaoekkgaa.prp
open Go.RowKit
set_option linter.unusedSimpArgs false
set_option linter.unusedVariables false

/-- a stone with a weight -/
abbrev Wn := Sn × Int
def wnL (x : Wn) : List Value := [.int .i64 x.1.half, .int .i64 x.1.at_, .int .i64 x.1.least, .int .i64 x.1.most, .int .i64 x.2]
def flatW (l : List Wn) : List Value := l.flatMap wnL
def zw : Wn := (zs, 0)
theorem flatW_cons (x : Wn) (l : List Wn) : flatW (x :: l) = .int .i64 x.1.half :: .int .i64 x.1.at_ :: .int .i64 x.1.least :: .int .i64 x.1.most :: .int .i64 x.2 :: flatW l := by simp [flatW, wnL]
theorem flatW_length : ∀ xs : List Wn, (flatW xs).length = xs.length * 5
  | [] => rfl
  | s :: r => by have := flatW_length r; rw [flatW_cons]; simp only [List.length_cons]; omega
theorem flatW_set : ∀ (l : List Wn) (k : Nat) (x : Wn), k < l.length → (((((flatW l).set (k * 5) (.int .i64 x.1.half)).set (k * 5 + 1) (.int .i64 x.1.at_)).set (k * 5 + 2) (.int .i64 x.1.least)).set (k * 5 + 3) (.int .i64 x.1.most)).set (k * 5 + 4) (.int .i64 x.2) = flatW (l.set k x)
  | [], k, x, h => by simp at h
  | y :: l, 0, x, _ => by simp [flatW_cons]
  | y :: l, k + 1, x, h => by
    have ih := flatW_set l k x (by simpa using h)
    rw [List.set_cons_succ, flatW_cons, flatW_cons, ← ih, show (k + 1) * 5 = k * 5 + 1 + 1 + 1 + 1 + 1 by omega]
    simp only [List.set_cons_succ]
theorem flatW_get : ∀ (gs : List Wn) (i : Nat), i < gs.length → (flatW gs)[i * 5]? = some (.int .i64 (gs.getD i zw).1.half) ∧ (flatW gs)[i * 5 + 1]? = some (.int .i64 (gs.getD i zw).1.at_) ∧ (flatW gs)[i * 5 + 2]? = some (.int .i64 (gs.getD i zw).1.least) ∧ (flatW gs)[i * 5 + 3]? = some (.int .i64 (gs.getD i zw).1.most) ∧ (flatW gs)[i * 5 + 4]? = some (.int .i64 (gs.getD i zw).2)
  | [], i, h => by simp at h
  | g :: gs, 0, _ => by simp [flatW_cons]
  | g :: gs, i + 1, h => by
    have ih := flatW_get gs i (by simpa using h)
    rw [flatW_cons, show (i + 1) * 5 = i * 5 + 1 + 1 + 1 + 1 + 1 from by omega]
    simpa using ih
theorem infoW : (Try.prog.info? 133).map (fun i => (i.zero, i.size, i.bytes)) = some (some (.agg #[.int .i64 0, .int .i64 0, .int .i64 0, .int .i64 0, .int .i64 0]), 5, 40) := by kernel_rfl
theorem madeW (k : Nat) (hk : k ≤ 5) : (madeCells (Value.agg #[.int .i64 0, .int .i64 0, .int .i64 0, .int .i64 0, .int .i64 0]).cells (k * 5)).toList = flatW (List.replicate k zw) := by
  rcases (by omega : k = 0 ∨ k = 1 ∨ k = 2 ∨ k = 3 ∨ k = 4 ∨ k = 5) with rfl | rfl | rfl | rfl | rfl | rfl <;> kernel_rfl
def partW (n : Nat) (f : Nat → Wn) (k : Nat) : List Wn := (List.range n).map fun i => if i < k then f i else zw
theorem partW_zero (n : Nat) (f : Nat → Wn) : partW n f 0 = List.replicate n zw := by
  unfold partW
  apply List.ext_getElem <;> simp
theorem partW_full (n : Nat) (f : Nat → Wn) : partW n f n = (List.range n).map f := by
  unfold partW
  exact List.map_congr_left fun i hi => if_pos (List.mem_range.1 hi)
theorem partW_len (n : Nat) (f : Nat → Wn) (k : Nat) : (partW n f k).length = n := by simp [partW]
theorem partW_set (n : Nat) (f : Nat → Wn) (k : Nat) (hk : k < n) : (partW n f k).set k (f k) = partW n f (k + 1) := by
  unfold partW
  apply List.ext_getElem
  · simp
  · intro i h1 h2
    simp at h1 h2
    rw [List.getElem_set]
    by_cases e : k = i
    · subst e; simp
    · simp only [e, if_false, List.getElem_map, List.getElem_range]
      by_cases h : i < k
      · rw [if_pos h, if_pos (by omega)]
      · rw [if_neg h, if_neg (by omega)]
/-- stones with weights -/
def weighS (l : List Sn) (ws : List Int) : List Wn := (List.range l.length).map fun i => (l.getD i zs, ws.getD i 0)

set_option maxRecDepth 100000 in
set_option maxHeartbeats 2000000 in
theorem weigh_any (q : Option Addr) (cap : Nat) (l : List Sn) (q2 : Option Addr) (c2 : Nat) (ws : List Int) (w : World) (hr : RowV w q (flatS l)) (hr2 : RowV w q2 (flatI ws)) (hl : l.length ≤ 5) (hws : ws.length = l.length) :
    Calls Try.prog 89 #[.slice q l.length cap, .slice q2 ws.length c2] w fun e w' => e = .returned (.slice (some ⟨w.heap.size, 0, none⟩) l.length l.length) ∧ RowV w' (some ⟨w.heap.size, 0, none⟩) (flatW (weighS l ws)) ∧ w.heap.size < w'.heap.size ∧ Below w.heap.size w w' := by
  obtain ⟨i0, hi, hz0', hz1', hz2'⟩ := info_parts infoW
  have HI := Lib.hid hi
  have HZ0 := Lib.hid hz0'
  have HZ1 := Lib.hid hz1'
  have HZ2 := Lib.hid hz2'
  clear hi hz0' hz1' hz2'
  have hF : weighS l ws = partW l.length (fun i => (l.getD i zs, ws.getD i 0)) l.length := (partW_full _ _).symm
  rw [hF]
  go_enter Try.func89, Try.ntmps89
  go_wp2_with (at_make; refine wpList_make_full _ rfl (.tmp 9) (.tmp 9) 111 rfl w.heap.size 133 i0 _ 5 Try.underlying111 HI.out HZ0.out HZ1.out .i64 .i64 l.length l.length l.length rfl rfl rfl rfl (by rw [HZ2.out]; omega) (by unfold maxLen; omega) (Nat.le_refl _) ?_; intro w4 hown4 hgrow4; rw [madeW _ hl] at hown4; have hb4 : Below w.heap.size w w4 := (Below.refl _ _).grown hgrow4 (Nat.le_refl _) (by simp))
  have hg4 : w.heap.size < w4.heap.size := (hown4.lt w.heap.size rfl).2
  rw [← partW_zero l.length (fun i => (l.getD i zs, ws.getD i 0))] at hown4
  clear hgrow4
  go_loopw [13] (fun i wr => ∃ k : Nat, k ≤ l.length ∧ i = .int .i64 k ∧ wr.ownsRow w.heap.size 133 5 (.slice (some ⟨w.heap.size, 0, none⟩) l.length l.length) l.length (flatW (partW l.length (fun i => (l.getD i zs, ws.getD i 0)) k)) ∧ Below w.heap.size w wr) (fun i _ => l.length - (intOf i).toNat)
  case atStart => exact ⟨0, Nat.zero_le _, rfl, hown4, hb4⟩
  case round =>
    obtain ⟨k, hk, rfl, ho, hbel⟩ := hrel
    by_cases hlt : k < l.length
    · obtain ⟨b, off, rfl, hb, h1, h2, h3, h4⟩ := rowS_at hr hlt (Nat.le_refl _) hbel
      obtain ⟨b2, off2, rfl, hb2, h5⟩ := rowI_at hr2 (k := k) (by omega) (Nat.le_refl _) hbel
      have hstep := partW_set l.length (fun i => (l.getD i zs, ws.getD i 0)) k hlt
      have hset := flatW_set (partW l.length (fun i => (l.getD i zs, ws.getD i 0)) k) k (l.getD k zs, ws.getD k 0) (by rw [partW_len]; exact hlt)
      rw [hstep] at hset
      generalize l.getD k zs = g at h1 h2 h3 h4 hset
      generalize ws.getD k 0 = x at h5 hset
      have hgz := (ho.lt w.heap.size rfl).2
      obtain ⟨c1, c2', c3, c4, c5⟩ := flatW_get (partW l.length (fun i => (l.getD i zs, ws.getD i 0)) k) k (by rw [partW_len]; exact hlt)
      have hbA : Below wr.heap.size wr (wr.alloc (.cells #[.int .i64 g.half, .int .i64 g.at_, .int .i64 g.least, .int .i64 g.most] 44)).drew := (below_drewN ((Below.refl _ _).alloc (Nat.le_refl _) _) _)
      have hoA : ((wr.alloc (.cells #[.int .i64 g.half, .int .i64 g.at_, .int .i64 g.least, .int .i64 g.most] 44)).drew).ownsRow w.heap.size 133 5 (.slice (some ⟨w.heap.size, 0, none⟩) l.length l.length) l.length (flatW (partW l.length (fun i => (l.getD i zs, ws.getD i 0)) k)) := owns_below ho (Nat.le_refl _) hbA
      have h5A := (hbA.cell (p := ⟨b2, off2 + k, none⟩) (by show b2 < _; omega)).trans h5
      have e0 := (hoA.cellAt (k * 5) (by omega)).trans c1
      have f0 := hoA.frozenAt (k * 5)
      have e1 := (ho.cellAt (k * 5) (by omega)).trans c1
      have f1 := ho.frozenAt (k * 5)
      have s1 := ho.stored (k * 5) (.int .i64 g.half)
      have e2 := (s1.1.cellAt (k * 5 + 1) (by omega)).trans ((List.getElem?_set_ne (by omega)).trans c2')
      have f2 := s1.1.frozenAt (k * 5 + 1)
      have s2 := s1.1.stored (k * 5 + 1) (.int .i64 g.at_)
      have e3 := (s2.1.cellAt (k * 5 + 2) (by omega)).trans ((List.getElem?_set_ne (by omega)).trans ((List.getElem?_set_ne (by omega)).trans c3))
      have f3 := s2.1.frozenAt (k * 5 + 2)
      have s3 := s2.1.stored (k * 5 + 2) (.int .i64 g.least)
      have e4 := (s3.1.cellAt (k * 5 + 3) (by omega)).trans ((List.getElem?_set_ne (by omega)).trans ((List.getElem?_set_ne (by omega)).trans ((List.getElem?_set_ne (by omega)).trans c4)))
      have f4 := s3.1.frozenAt (k * 5 + 3)
      have s4 := s3.1.stored (k * 5 + 3) (.int .i64 g.most)
      have e5 := (s4.1.cellAt (k * 5 + 4) (by omega)).trans ((List.getElem?_set_ne (by omega)).trans ((List.getElem?_set_ne (by omega)).trans ((List.getElem?_set_ne (by omega)).trans ((List.getElem?_set_ne (by omega)).trans c5))))
      have f5 := s4.1.frozenAt (k * 5 + 4)
      have s5 := s4.1.stored (k * 5 + 4) (.int .i64 x)
      generalize (partW l.length (fun i => (l.getD i zs, ws.getD i 0)) k).getD k zw = old at e0 e1 e2 e3 e4 e5
      have hne : wr.heap.size ≠ w.heap.size := by omega
      have hki : (k : Int) < (l.length : Int) := by omega
      have hkw : (k : Int) < (ws.length : Int) := by omega
      have S1 := Lib.hid s1
      have S2 := Lib.hid s2
      have S3 := Lib.hid s3
      have S4 := Lib.hid s4
      have S5 := Lib.hid s5
      have HSET := Lib.hid hset
      have HO := Lib.hid ho
      have HBA := Lib.hid hbA
      clear s1 s2 s3 s4 s5 hset hstep ho hoA hbA c1 c2' c3 c4 c5
      go_upto_region 5 with fail
      go_region
      go_wp2
      go_roundw
      case rel =>
        have s5 := S5.out
        have hb1 := hbel.grown S1.out.2 hbel.size (fun k hk => by injection hk with hk; omega)
        have hb2' := hb1.grown S2.out.2 hb1.size (fun k hk => by injection hk with hk; omega)
        have hb3 := hb2'.grown S3.out.2 hb2'.size (fun k hk => by injection hk with hk; omega)
        have hb4' := hb3.grown S4.out.2 hb3.size (fun k hk => by injection hk with hk; omega)
        have hb5 := hb4'.grown S5.out.2 hb4'.size (fun k hk => by injection hk with hk; omega)
        rw [HSET.out] at s5
        refine ⟨k + 1, hlt, by go_num, ?_, ?_⟩
        · exact (owns_below s5.1 (Nat.le_refl _) ((Below.refl _ _).alloc (Nat.le_refl _) _)).drew
        · exact (hb5.alloc hb5.size _).drew
      case measure => simp [intOf]; omega
    · obtain rfl : k = l.length := by omega
      obtain ⟨q9, c9, e9, hr9, hc9, hq9⟩ := rowV_of_owns ho (by intro h0; rw [partW, h0]; rfl)
      injection e9 with e1 _ e2
      subst e1 e2
      have HR9 := Lib.hid hr9
      clear ho hr9
      go_wp2
      go_ret
      exact ⟨rfl, HR9.out, (hq9 _ rfl).2, hbel⟩
end Go.Proofs.Ytffblmhaoekkgaa.prp

/- Package prop, the walks: the sum of moments of stones, moment. -/
namespace Go.Proofs.Ytffblmhaoekkgaa.prp
open Go.RowKit
set_option linter.unusedSimpArgs false
set_option linter.unusedVariables false

def wnV (x : Wn) : Value := .agg #[.int .i64 x.1.half, .int .i64 x.1.at_, .int .i64 x.1.least, .int .i64 x.1.most, .int .i64 x.2]
/-- a number that a closure has captured -/
def NumAt (w : World) (B : Nat) (x : Int) : Prop := B < w.heap.size ∧ w.cell? ⟨B, 0, none⟩ = some (.int .i64 x)
theorem NumAt.below {w w' : World} {B : Nat} {x : Int} (h : NumAt w B x) {N : Nat} (hN : w.heap.size ≤ N) (hb : Below N w w') : NumAt w' B x :=
  ⟨Nat.lt_of_lt_of_le h.1 hb.size, (hb.cell (p := ⟨B, 0, none⟩) (Nat.lt_of_lt_of_le h.1 hN)).trans h.2⟩
/-- what a stone adds to a moment -/
def addS (e d : Int) (x : Wn) : Int := x.2 * (x.1.at_ - e) * d
theorem prod_bd {a b A B : Int} (ha : -A ≤ a ∧ a ≤ A) (hb : -B ≤ b ∧ b ≤ B) : -(A * B) ≤ a * b ∧ a * b ≤ A * B := mul_small ha hb
theorem moment1_any (x : Wn) (B1 B2 : Nat) (e d : Int) (w : World) (h1 : NumAt w B1 e) (h2 : NumAt w B2 d) (hx : -100000000 ≤ x.1.at_ ∧ x.1.at_ ≤ 100000000) (hw : 0 ≤ x.2 ∧ x.2 ≤ 100) (he : -1000000000 ≤ e ∧ e ≤ 1000000000) (hd : d = 1 ∨ d = -1) :
    Calls Try.prog 91 #[wnV x, .pointer (some ⟨B1, 0, none⟩), .pointer (some ⟨B2, 0, none⟩)] w fun e' w' => e' = .returned (.int .i64 (addS e d x)) ∧ Below w.heap.size w w' := by
  obtain ⟨b1, c1⟩ := h1
  obtain ⟨b2, c2⟩ := h2
  obtain ⟨⟨a1, a2, a3, a4⟩, a5⟩ := x
  dsimp only at hx hw
  have hp := prod_bd (a := a5) (b := a2 - e) (A := 100) (B := 2000000000) ⟨by omega, by omega⟩ ⟨by omega, by omega⟩
  have hw1 : wrap64 (a2 - e) = a2 - e := IntWalk.wrap64_in _ ⟨by omega, by omega⟩
  have hw2 : wrap64 (a5 * (a2 - e)) = a5 * (a2 - e) := IntWalk.wrap64_in _ ⟨by omega, by omega⟩
  have hw3 := (mul_side hd (x := a5 * (a2 - e)) ⟨by omega, by omega⟩).1
  have hb0 : Below w.heap.size w (w.alloc (.cells #[.int .i64 a1, .int .i64 a2, .int .i64 a3, .int .i64 a4, .int .i64 a5] 133)) := (Below.refl _ _).alloc (Nat.le_refl _) _
  have HW2 := Lib.hid hw2
  have HW3 := Lib.hid hw3
  clear hp hw2 hw3
  unfold wnV
  go_enter Try.func91, Try.ntmps91
  go_wp2
  go_ret
  exact ⟨ret_int (by first | (rw [HW2.out, HW3.out]; rfl) | (simp only [HW2.out, HW3.out, addS])), hb0⟩
theorem rowW_at {w wr : World} {q : Option Addr} {cs : List Wn} (h : RowV w q (flatW cs)) {k : Nat} (hk : k < cs.length) {N : Nat} (hN : w.heap.size ≤ N) (hb : Below N w wr) :
    ∃ b off, q = some ⟨b, off, none⟩ ∧ b < w.heap.size ∧ wr.cell? ⟨b, off + k * 5, none⟩ = some (.int .i64 (cs.getD k zw).1.half) ∧
      wr.cell? ⟨b, off + k * 5 + 1, none⟩ = some (.int .i64 (cs.getD k zw).1.at_) ∧ wr.cell? ⟨b, off + k * 5 + 2, none⟩ = some (.int .i64 (cs.getD k zw).1.least) ∧ wr.cell? ⟨b, off + k * 5 + 3, none⟩ = some (.int .i64 (cs.getD k zw).1.most) ∧ wr.cell? ⟨b, off + k * 5 + 4, none⟩ = some (.int .i64 (cs.getD k zw).2) := by
  obtain ⟨b, off, e, hz, hc⟩ := h.at (k := 0) (by rw [flatW_length]; omega) hN hb
  obtain ⟨g0, g1, g2, g3, g4⟩ := flatW_get cs k hk
  exact ⟨b, off, e, hz, hc _ _ g0, by rw [Nat.add_assoc]; exact hc _ _ g1, by rw [Nat.add_assoc]; exact hc _ _ g2, by rw [Nat.add_assoc]; exact hc _ _ g3, by rw [Nat.add_assoc]; exact hc _ _ g4⟩
def sumTo (F : Wn → Int) (xs : List Wn) (k : Nat) : Int := ((xs.take k).map F).sum
theorem sumTo_succ (F : Wn → Int) (xs : List Wn) (k : Nat) (hk : k < xs.length) : sumTo F xs (k + 1) = sumTo F xs k + F (xs.getD k zw) := by
  unfold sumTo
  rw [map_take_succ F xs k zw hk, List.sum_append]
  simp
theorem sumTo_bd (F : Wn → Int) (xs : List Wn) (b : Int) (hb : 0 ≤ b) (h : ∀ x ∈ xs, -b ≤ F x ∧ F x ≤ b) : ∀ k, k ≤ xs.length → -(b * k) ≤ sumTo F xs k ∧ sumTo F xs k ≤ b * k
  | 0, _ => by simp [sumTo]
  | k + 1, hk => by
    have ih := sumTo_bd F xs b hb h k (by omega)
    have hx := h _ (getD_mem xs k zw (by omega))
    rw [sumTo_succ F xs k (by omega)]
    have e : b * ((k + 1 : Nat) : Int) = b * k + b := by rw [Int.natCast_succ, Int.mul_add, Int.mul_one]
    rw [e]
    omega
set_option maxHeartbeats 2000000 in
theorem sumM_any (q : Option Addr) (cap : Nat) (xs : List Wn) (B1 B2 : Nat) (e d : Int) (w : World) (hr : RowV w q (flatW xs)) (hl : xs.length ≤ 5) (h1 : NumAt w B1 e) (h2 : NumAt w B2 d) (hx : ∀ x ∈ xs, (-100000000 ≤ x.1.at_ ∧ x.1.at_ ≤ 100000000) ∧ 0 ≤ x.2 ∧ x.2 ≤ 100) (he : -1000000000 ≤ e ∧ e ≤ 1000000000) (hd : d = 1 ∨ d = -1) :
    Calls Try.prog 90 #[.slice q xs.length cap, .func (.func 91) #[] #[.pointer (some ⟨B1, 0, none⟩), .pointer (some ⟨B2, 0, none⟩)]] w fun e' w' => e' = .returned (.int .i64 ((xs.map (addS e d)).sum)) ∧ Below w.heap.size w w' := by
  have hbd : ∀ x ∈ xs, -200000000000 ≤ addS e d x ∧ addS e d x ≤ 200000000000 := fun x hxm => by
    obtain ⟨ha, hw⟩ := hx x hxm
    have hp := prod_bd (a := x.2) (b := x.1.at_ - e) (A := 100) (B := 2000000000) ⟨by omega, by omega⟩ ⟨by omega, by omega⟩
    unfold addS
    generalize x.2 * (x.1.at_ - e) = p at hp
    rcases hd with rfl | rfl <;> omega
  have hsb := sumTo_bd (addS e d) xs 200000000000 (by omega) hbd
  have hfin : sumTo (addS e d) xs xs.length = (xs.map (addS e d)).sum := by unfold sumTo; rw [List.take_length]
  rw [← hfin]
  have HSB := Lib.hid hsb
  have HBD := Lib.hid hbd
  have HX := Lib.hid hx
  clear hsb hbd hx hfin
  go_enter Try.func90, Try.ntmps90
  go_wp2
  go_loopw [5, 10] (fun s i wr => ∃ k : Nat, k ≤ xs.length ∧ i = .int .i64 k ∧ s = .int .i64 (sumTo (addS e d) xs k) ∧ Below w.heap.size w wr) (fun _ i _ => xs.length - (intOf i).toNat)
  case atStart => exact ⟨0, Nat.zero_le _, rfl, rfl, Below.refl _ _⟩
  case round =>
    obtain ⟨k, hk, rfl, rfl, hbel⟩ := hrel
    by_cases hlt : k < xs.length
    · obtain ⟨b, off, rfl, hb, g1, g2, g3, g4, g5⟩ := rowW_at hr hlt (Nat.le_refl _) hbel
      have hm := getD_mem xs k zw hlt
      obtain ⟨hxa, hxw⟩ := HX.out _ hm
      have hsu := sumTo_succ (addS e d) xs k hlt
      have hs0 := HSB.out k (by omega)
      have hs1 := HSB.out (k + 1) (by omega)
      rw [hsu] at hs1
      generalize xs.getD k zw = x at g1 g2 g3 g4 g5 hxa hxw hsu hs1
      have hw : wrap64 (sumTo (addS e d) xs k + addS e d x) = sumTo (addS e d) xs k + addS e d x := IntWalk.wrap64_in _ ⟨by omega, by omega⟩
      have HSU := Lib.hid hsu
      have HW := Lib.hid hw
      have hm1 := h1.below (Nat.le_refl _) hbel
      have hm2 := h2.below (Nat.le_refl _) hbel
      have hbA : Below wr.heap.size wr (wr.alloc (.cells #[.int .i64 x.1.half, .int .i64 x.1.at_, .int .i64 x.1.least, .int .i64 x.1.most, .int .i64 x.2] 133)) := (Below.refl _ _).alloc (Nat.le_refl _) _
      clear hsu hw hs0 hs1 hm
      go_wp2_with (go_at_call 91; refine (moment1_any x B1 B2 e d _ (hm1.below (Nat.le_refl _) hbA) (hm2.below (Nat.le_refl _) hbA) hxa hxw he hd).mono ?_; rintro e' w1 ⟨rfl, hb1⟩)
      go_roundw
      case rel => exact ⟨k + 1, hlt, by go_num, by rw [HSU.out]; first | rfl | exact congrArg _ HW.out, (hbel.on hbA).on hb1⟩
      case measure => simp [intOf]; omega
    · obtain rfl : k = xs.length := by omega
      go_wp2
      go_ret
      exact ⟨rfl, hbel⟩
end Go.Proofs.Ytffblmhaoekkgaa.prp

/- Package prop, the walks: moment. -/
namespace Go.Proofs.Ytffblmhaoekkgaa.prp
open Go.RowKit
set_option linter.unusedSimpArgs false
set_option linter.unusedVariables false

theorem flatW_drop : ∀ (l : List Wn) (k : Nat), flatW (l.drop k) = (flatW l).drop (k * 5)
  | [], k => by simp [flatW]
  | x :: l, 0 => by simp
  | x :: l, k + 1 => by
    rw [List.drop_succ_cons, flatW_drop l k, flatW_cons, show (k + 1) * 5 = k * 5 + 1 + 1 + 1 + 1 + 1 by omega]
    simp only [List.drop_succ_cons]
theorem RowV.drop {w : World} {b off : Nat} {vs : List Value} (h : RowV w (some ⟨b, off, none⟩) vs) (m : Nat) : RowV w (some ⟨b, off + m, none⟩) (vs.drop m) := by
  rcases h with rfl | ⟨b', off', e, hz, hc⟩
  · exact .inl (by simp)
  · injection e with e
    injection e with e1 e2 e3
    subst e1 e2
    refine .inr ⟨b, off + m, rfl, hz, fun i v hi => ?_⟩
    rw [List.getElem?_drop] at hi
    have := hc _ _ hi
    rwa [← Nat.add_assoc] at this
theorem momS_eq (l : List Sn) (ws : List Int) (lv : Nat) (d : Int) : momS l ws lv d = (((weighS l ws).drop lv).map (addS (edgeS l lv d) d)).sum := by
  unfold momS weighS
  rw [← List.map_drop, List.map_map]
  rfl
theorem weigh_ok {l : List Sn} {ws : List Int} (hok : ∀ s ∈ l, okS s) (hw : ∀ x ∈ ws, 0 ≤ x ∧ x ≤ 100) (hl : ws.length = l.length) : ∀ x ∈ weighS l ws, (-100000000 ≤ x.1.at_ ∧ x.1.at_ ≤ 100000000) ∧ 0 ≤ x.2 ∧ x.2 ≤ 100 := by
  intro x hx
  obtain ⟨i, hi, rfl⟩ := List.mem_map.1 hx
  have hi := List.mem_range.1 hi
  obtain ⟨_, _, h3, h4, _⟩ := hok _ (getD_mem l i zs hi)
  exact ⟨⟨h3, h4⟩, hw _ (getD_mem ws i 0 (by omega))⟩
set_option maxRecDepth 100000 in
set_option maxHeartbeats 2000000 in
theorem moment_any (q : Option Addr) (cap : Nat) (l : List Sn) (q2 : Option Addr) (c2 : Nat) (ws : List Int) (lv : Nat) (d : Int) (w : World) (hr : RowV w q (flatS l)) (hr2 : RowV w q2 (flatI ws)) (hl : l.length ≤ 5) (hws : ws.length = l.length) (hok : ∀ s ∈ l, okS s) (hw : ∀ x ∈ ws, 0 ≤ x ∧ x ≤ 100) (hlv : lv < l.length) (hd : d = 1 ∨ d = -1) :
    Calls Try.prog 59 #[.slice q l.length cap, .slice q2 ws.length c2, .int .i64 lv, .int .i64 d] w fun e w' => e = .returned (.int .i64 (momS l ws lv d)) ∧ Below w.heap.size w w' := by
  have hbd := edgeS_bd hok hlv hd
  have hwk := weigh_ok hok hw hws
  have hlen : ((weighS l ws).drop lv).length = l.length - lv := by simp [weighS]
  rw [momS_eq]
  have hb0 : Below w.heap.size w (w.alloc (.cells #[.int .i64 d] 3)) := (Below.refl _ _).alloc (Nat.le_refl _) _
  have HB0 := Lib.hid hb0
  have HWK := Lib.hid hwk
  have HLEN := Lib.hid hlen
  have HOK := Lib.hid hok
  have HW := Lib.hid hw
  clear hb0 hwk hlen hok hw
  go_enter Try.func59, Try.ntmps59
  go_wp2_with (go_at_call 88; refine (edge_any q cap l lv d _ (hr.below (Nat.le_refl _) HB0.out) (by omega) HOK.out hlv hd).mono ?_; rintro e w1 ⟨rfl, hb1⟩)
  have hs1 : w.heap.size + 1 ≤ w1.heap.size := by have := hb1.size; simpa using this
  have hb2 : Below w1.heap.size w1 (w1.alloc (.cells #[.int .i64 (edgeS l lv d)] 3)) := (Below.refl _ _).alloc (Nat.le_refl _) _
  have hac : Below w.heap.size w (w1.alloc (.cells #[.int .i64 (edgeS l lv d)] 3)) := (HB0.out.on hb1).on hb2
  have hn2 : NumAt (w1.alloc (.cells #[.int .i64 (edgeS l lv d)] 3)) w1.heap.size (edgeS l lv d) := ⟨by simp, by simp⟩
  have hn0 : NumAt (w.alloc (.cells #[.int .i64 d] 3)) w.heap.size d := ⟨by simp, by simp⟩
  have hn1 := (hn0.below (Nat.le_refl _) hb1).below (Nat.le_refl _) hb2
  have hwc := weigh_any q cap l q2 c2 ws _ (hr.below (Nat.le_refl _) hac) (hr2.below (Nat.le_refl _) hac) hl hws
  rw [hws] at hwc
  have HWC := Lib.hid hwc
  clear hwc
  generalize hW : w1.alloc (.cells #[.int .i64 (edgeS l lv d)] 3) = W at *
  have hlv2 : (lv : Int) ≤ (l.length : Int) := by omega
  go_wp2_with (go_at_call 89; refine HWC.out.mono ?_; rintro e w3 ⟨rfl, hr3, hz3, hb3⟩)
  have hr4 := hr3.drop (lv * 5)
  rw [← flatW_drop, Nat.zero_add] at hr4
  have hsm := sumM_any (some ⟨W.heap.size, lv * 5, none⟩) (l.length - lv) ((weighS l ws).drop lv) w1.heap.size w.heap.size (edgeS l lv d) d w3 hr4 (by rw [HLEN.out]; omega) (hn2.below (Nat.le_refl _) hb3) (hn1.below (Nat.le_refl _) hb3) (fun x hx => HWK.out x (List.mem_of_mem_drop hx)) (by omega) hd
  rw [HLEN.out] at hsm
  have HSM := Lib.hid hsm
  clear hsm hr4
  go_wp2_with (go_at_call 90; refine HSM.out.mono ?_; rintro e w4 ⟨rfl, hb4⟩)
  go_ret
  exact ⟨ret_int (by simp [List.map_drop]), (hac.on hb3).on hb4⟩
end Go.Proofs.Ytffblmhaoekkgaa.prp

/- Package prop, the walks: mayTip, stands. -/
namespace Go.Proofs.Ytffblmhaoekkgaa.prp
open Go.RowKit
set_option linter.unusedSimpArgs false
set_option linter.unusedVariables false

theorem any_hit {α : Type} (f : α → Bool) (l : List α) (k : Nat) (d : α) (hk : k < l.length) (h : f (l.getD k d) = true) : l.any f = true := List.any_eq_true.2 ⟨_, getD_mem l k d hk, h⟩
theorem any_miss {α : Type} (f : α → Bool) (l : List α) (h : AllNo f l l.length) : l.any f = false := by
  unfold AllNo at h
  rw [List.take_length] at h
  rw [List.any_eq_false]
  intro x hx
  have := List.all_eq_true.1 h x hx
  simpa using this
theorem sides_mem {k d : Int} (h : d ∈ sidesS k) : d = 1 ∨ d = -1 := by
  unfold sidesS at h
  split at h <;> simp at h
  · exact .inl h
  · exact h
theorem worst_len (l : List Sn) (k : Nat) (d : Int) : (worstS l k d).length = l.length := by simp [worstS, leanS]
theorem worst_ok {l : List Sn} (hok : ∀ s ∈ l, okS s) (k : Nat) (d : Int) : ∀ x ∈ worstS l k d, 0 ≤ x ∧ x ≤ 100 := by
  intro x hx
  unfold worstS leanS at hx
  obtain ⟨i, hi, rfl⟩ := List.mem_map.1 hx
  obtain ⟨_, _, _, _, h5, h6, h7, h8, _⟩ := hok _ (getD_mem l i zs (List.mem_range.1 hi))
  split <;> omega
def tipF (l : List Sn) (k : Nat) (d : Int) : Bool := decide (0 < momS l (worstS l k d) k d)
theorem mayTipS_eq (l : List Sn) (k : Nat) : mayTipS l k = (sidesS k).any (tipF l k) := rfl
set_option maxHeartbeats 2000000 in
theorem mayTip_any (q : Option Addr) (cap : Nat) (l : List Sn) (lv : Nat) (w : World) (hr : RowV w q (flatS l)) (hl : l.length ≤ 5) (hok : ∀ s ∈ l, okS s) (hlv : lv < l.length) :
    Calls Try.prog 54 #[.slice q l.length cap, .int .i64 lv] w fun e w' => e = .returned (.bool (mayTipS l lv)) ∧ Below w.heap.size w w' := by
  rw [mayTipS_eq]
  have HOK := Lib.hid hok
  clear hok
  go_enter Try.func54, Try.ntmps54
  go_wp2_with (go_at_call 61; refine (sidesOf_any _ _).mono ?_; rintro e w1 ⟨q1, c1, rfl, hr1, hq1, hc1, hb1⟩)
  have hsl : (sidesS (lv : Int)).length ≤ 2 := by unfold sidesS; split <;> simp
  go_loopw [10] (fun i wr => ∃ k : Nat, k ≤ (sidesS lv).length ∧ i = .int .i64 k ∧ AllNo (tipF l lv) (sidesS lv) k ∧ Below w1.heap.size w1 wr) (fun i _ => (sidesS lv).length - (intOf i).toNat)
  case atStart => exact ⟨0, Nat.zero_le _, rfl, AllNo.zero _ _, Below.refl _ _⟩
  case round =>
    obtain ⟨k, hk, rfl, hall, hbel⟩ := hrel
    have hac := hb1.on hbel
    by_cases hlt : k < (sidesS lv).length
    · obtain ⟨b, off, rfl, hb, g1⟩ := rowI_at hr1 hlt (Nat.le_refl _) hbel
      have hd := sides_mem (getD_mem (sidesS (lv : Int)) k 0 hlt)
      have hst := hall.step hlt 0
      have hhit := any_hit (tipF l lv) (sidesS lv) k 0 hlt
      generalize (sidesS (lv : Int)).getD k 0 = d at g1 hd hst hhit
      have HST := Lib.hid hst
      have HH := Lib.hid hhit
      have hrw := hr.below (Nat.le_refl _) hac
      have hwl := worst_len l lv d
      have hwo := worst_ok HOK.out lv d
      have hT : tipF l lv d = decide (0 < momS l (worstS l lv d) lv d) := rfl
      have HW := Lib.hid (worst_any q cap l lv d wr hrw (by omega) HOK.out hlv hd)
      have HM := Lib.hid (fun (q2 : Option Addr) (c2 : Nat) (W : World) (h1 : RowV W q (flatS l)) (h2 : RowV W q2 (flatI (worstS l lv d))) => by
        have := moment_any q cap l q2 c2 (worstS l lv d) lv d W h1 h2 hl hwl HOK.out hwo hlv hd
        rw [hwl] at this
        exact this)
      have HRW := Lib.hid hrw
      have HT := Lib.hid hT
      have HWL := Lib.hid hwl
      clear hst hhit hrw hwl hwo hT hall hr
      go_wp2_with (first
        | (go_at_call 57; refine HW.out.mono ?_; rintro e w2 ⟨q2, c2, rfl, hr2, hq2, hc2, hb2⟩; rw [HWL.out])
        | (go_at_call 59; refine (HM.out q2 c2 w2 (HRW.out.below (Nat.le_refl _) hb2) hr2).mono ?_; rintro e w3 ⟨rfl, hb3⟩))
      · have hp : 0 < momS l (worstS l lv d) lv d := by assumption
        have ht : tipF l lv d = true := by rw [HT.out]; simpa using hp
        go_ret
        exact ⟨ret_bool (HH.out ht).symm, (hac.on hb2).on hb3⟩
      · have hp : ¬ 0 < momS l (worstS l lv d) lv d := by omega
        have ht : tipF l lv d = false := by rw [HT.out]; simpa using hp
        exact ⟨⟨k + 1, hlt, by go_num, HST.out.1 ht, (hbel.on hb2).on hb3⟩, by simp [intOf]; omega⟩
    · obtain rfl : k = (sidesS lv).length := by omega
      have hm := any_miss _ _ hall
      have HMI := Lib.hid hm
      clear hm hall
      go_wp2
      go_ret
      exact ⟨ret_bool HMI.out.symm, hac⟩

theorem all_hit {α : Type} (f : α → Bool) (l : List α) (k : Nat) (d : α) (hk : k < l.length) (h : f (l.getD k d) = false) : l.all f = false := by
  rw [List.all_eq_false]
  exact ⟨_, getD_mem l k d hk, by rw [h]; decide⟩
set_option maxHeartbeats 2000000 in
theorem stands_any (q : Option Addr) (cap : Nat) (l : List Sn) (w : World) (hr : RowV w q (flatS l)) (hl : l.length ≤ 5) (hok : ∀ s ∈ l, okS s) :
    Calls Try.prog 53 #[.slice q l.length cap] w fun e w' => e = .returned (.bool (standsS l)) ∧ Below w.heap.size w w' := by
  have HOK := Lib.hid hok
  clear hok
  go_enter Try.func53, Try.ntmps53
  go_wp2
  go_loopw [6] (fun i wr => ∃ k : Nat, k ≤ l.length ∧ i = .int .i64 k ∧ ((List.range l.length).take k).all (fun i => !mayTipS l i) = true ∧ Below w.heap.size w wr) (fun i _ => l.length - (intOf i).toNat)
  case atStart => exact ⟨0, Nat.zero_le _, rfl, by simp, Below.refl _ _⟩
  case round =>
    obtain ⟨k, hk, rfl, hall, hbel⟩ := hrel
    by_cases hlt : k < l.length
    · have hkr : k < (List.range l.length).length := by simpa using hlt
      have hg : (List.range l.length).getD k 0 = k := by rw [getD_eq _ k 0 hkr]; simp
      have hhit := all_hit (fun i => !mayTipS l i) (List.range l.length) k 0 hkr
      rw [hg] at hhit
      have hst : (!mayTipS l k) = true → ((List.range l.length).take (k + 1)).all (fun i => !mayTipS l i) = true := fun h => by
        rw [getD_take _ k 0 hkr, hg, List.all_append, hall]; simpa using h
      have HST := Lib.hid hst
      have HH := Lib.hid hhit
      have hrw := hr.below (Nat.le_refl _) hbel
      have HM := Lib.hid (mayTip_any q cap l k wr hrw hl HOK.out hlt)
      clear hst hhit hrw hall hr hg hkr
      go_wp2_with (go_at_call 54; refine HM.out.mono ?_; rintro e w2 ⟨rfl, hb2⟩)
      · have ht : mayTipS l k = true := by assumption
        go_ret
        exact ⟨ret_bool (by rw [standsS, HH.out (by simp [ht])]), hbel.on hb2⟩
      · have ht : mayTipS l k = false := by assumption
        go_roundw
        case rel => exact ⟨k + 1, hlt, by go_num, HST.out (by simp [ht]), hbel.on hb2⟩
        case measure => simp [intOf]; omega
    · obtain rfl : k = l.length := by omega
      rw [List.take_of_length_le (by simp)] at hall
      have HA := Lib.hid hall
      clear hall
      go_wp2
      go_ret
      exact ⟨ret_bool (by rw [standsS, HA.out]), hbel⟩
end Go.Proofs.Ytffblmhaoekkgaa.prp

/- Package prop, the walks: slices.Contains, checkTruth, checkSide. -/
namespace Go.Proofs.Ytffblmhaoekkgaa.prp
open Go.RowKit
set_option linter.unusedSimpArgs false
set_option linter.unusedVariables false

theorem indexI_any (x : Int) (q : Option Addr) (cap : Nat) (xs : List Int) (w : World) (hr : RowV w q (flatI xs)) (hl : xs.length ≤ 1000000) :
    Calls Try.prog 80 #[.slice q xs.length cap, .int .i64 x] w fun e w' => e = .returned (.int .i64 (firstIdx (fun y => x == y) xs)) ∧ w = w' := by
  go_enter Try.func80, Try.ntmps80
  go_wp2
  go_loop [8] (fun i => ∃ k : Nat, k ≤ xs.length ∧ i = .int .i64 k ∧ AllNo (fun y => x == y) xs k) (fun i => xs.length - (intOf i).toNat)
  case atStart => exact ⟨0, Nat.zero_le _, rfl, AllNo.zero _ _⟩
  case round =>
    obtain ⟨k, hk, rfl, hall⟩ := hrel
    by_cases hlt : k < xs.length
    · obtain ⟨b, off, rfl, hb, h1⟩ := rowI_at hr hlt (Nat.le_refl _) (Below.refl _ w)
      have hst := hall.step hlt 0
      have HS := Lib.hid hst
      clear hst
      generalize xs.getD k 0 = y at h1 HS
      go_wp2
      · have hy : (x == y) = true := by assumption
        go_ret
        exact ⟨ret_int (HS.out.2 hy).symm, rfl⟩
      · have hy : (x == y) = false := by assumption
        go_round
        case rel => exact ⟨k + 1, hlt, by go_num, HS.out.1 hy⟩
        case measure => simp [intOf]; omega
    · obtain rfl : k = xs.length := by omega
      go_wp2
      go_ret
      exact ⟨ret_int hall.all.symm, rfl⟩
theorem any_swap (xs : List Int) (x : Int) : (xs.any fun y => x == y) = xs.any (· == x) := by
  congr 1
  funext y
  by_cases h : x = y
  · subst h; simp
  · have h1 : (x == y) = false := beq_eq_false_iff_ne.2 h
    have h2 : (y == x) = false := beq_eq_false_iff_ne.2 fun e => h e.symm
    rw [h1, h2]
theorem containsI_any (x : Int) (q : Option Addr) (cap : Nat) (xs : List Int) (w : World) (hr : RowV w q (flatI xs)) (hl : xs.length ≤ 1000000) :
    Calls Try.prog 45 #[.slice q xs.length cap, .int .i64 x] w fun e w' => e = .returned (.bool (xs.any (· == x))) ∧ w = w' := by
  go_enter Try.func45, Try.ntmps45
  go_wp2_with (go_at_call 80; refine (indexI_any x q cap xs _ hr hl).mono ?_; rintro e w' ⟨rfl, rfl⟩)
  go_ret
  exact ⟨ret_bool (by rw [← any_swap]; exact firstIdx_any _ _), rfl⟩


theorem wsErr_at (l : List Sn) (ws : List Int) (k : Nat) (hk : k < l.length) (hw : ws.length = l.length) : wsErr (l.drop k) (ws.drop k) = if isF (ws.getD k 0) (l.getD k zs).least (l.getD k zs).most then wsErr (l.drop (k + 1)) (ws.drop (k + 1)) else 1 := by
  rw [List.drop_eq_getElem_cons hk, List.drop_eq_getElem_cons (show k < ws.length by omega), ← getD_eq l k zs hk, ← getD_eq ws k 0 (by omega)]
  rfl
set_option maxHeartbeats 2000000 in
theorem checkTruth_any (q : Option Addr) (cap : Nat) (l : List Sn) (q2 : Option Addr) (c2 : Nat) (ws : List Int) (w : World) (hr : RowV w q (flatS l)) (hr2 : RowV w q2 (flatI ws)) (hl : l.length ≤ 5) (hlw : ws.length ≤ 1000000) :
    Calls Try.prog 58 #[.slice q l.length cap, .slice q2 ws.length c2] w fun e w' => e = .returned (.int .i64 (truthErr l ws)) ∧ Below w.heap.size w w' := by
  by_cases hlen : ws.length = l.length
  · have hE : truthErr l ws = wsErr (l.drop 0) (ws.drop 0) := by simp [truthErr, hlen]
    have HL := Lib.hid hlen
    go_enter Try.func58, Try.ntmps58
    go_wp2
    simp only [hlen]
    go_loopw [14] (fun i wr => ∃ k : Nat, k ≤ l.length ∧ i = .int .i64 k ∧ truthErr l ws = wsErr (l.drop k) (ws.drop k) ∧ Below w.heap.size w wr) (fun i _ => l.length - (intOf i).toNat)
    case atStart => exact ⟨0, Nat.zero_le _, rfl, hE, Below.refl _ _⟩
    case round =>
      obtain ⟨k, hk, rfl, hall, hbel⟩ := hrel
      by_cases hlt : k < l.length
      · obtain ⟨b, off, rfl, hb, h1, h2, h3, h4⟩ := rowS_at hr hlt (Nat.le_refl _) hbel
        obtain ⟨b2, off2, rfl, hb2, h5⟩ := rowI_at hr2 (k := k) (by omega) (Nat.le_refl _) hbel
        have hst := wsErr_at l ws k hlt hlen
        rw [← hall] at hst
        generalize l.getD k zs = g at h1 h2 h3 h4 hst
        generalize ws.getD k 0 = x at h5 hst
        have HST := Lib.hid hst
        clear hst hall hE
        go_upto_region 6 with fail
        go_region_with (go_at_call 78; refine (isFrom_any _ _ _ _).mono ?_; rintro e w1 ⟨rfl, rfl⟩)
        all_goals go_wp2
        all_goals first
          | (have hf : isF x g.least g.most = false := by first | assumption | (simpa using (by assumption : (!isF x g.least g.most) = true))
             go_ret
             exact ⟨ret_int (by rw [HST.out, hf]; rfl), by first | exact hbel.drew | exact hbel⟩)
          | (have hf : isF x g.least g.most = true := by first | assumption | (simpa using (by assumption : (!isF x g.least g.most) = false))
             first
             | exact ⟨⟨k + 1, hlt, by go_num, by rw [HST.out, hf]; rfl, by first | exact hbel.drew | exact hbel⟩, by simp [intOf]; omega⟩
             | (go_roundw
                case rel => exact ⟨k + 1, hlt, by go_num, by rw [HST.out, hf]; rfl, by first | exact hbel.drew | exact hbel⟩
                case measure => simp [intOf]; omega))
      · obtain rfl : k = l.length := by omega
        have he : truthErr l ws = 0 := by rw [hall, List.drop_length]; rfl
        have HE := Lib.hid he
        clear he hall
        go_wp2
        go_ret
        exact ⟨ret_int HE.out.symm, hbel⟩
  · have hb : ((ws.length : Int) != (l.length : Int)) = true := by simp; omega
    go_enter Try.func58, Try.ntmps58
    go_wp2
    go_ret
    exact ⟨ret_int (by simp [truthErr, hlen]), Below.refl _ _⟩

theorem sides_has (k d : Int) : ((sidesS k).any (· == d)) = decide (d = 1 ∨ (k ≠ 0 ∧ d = -1)) := by
  rw [Bool.eq_iff_iff]
  unfold sidesS
  split
  · rename_i h
    simp only [List.any_eq_true, List.mem_singleton, beq_iff_eq, decide_eq_true_eq]
    constructor
    · rintro ⟨x, rfl, h2⟩; exact .inl h2.symm
    · rintro (h2 | ⟨h2, _⟩)
      · exact ⟨1, rfl, h2.symm⟩
      · exact absurd h h2
  · rename_i h
    simp only [List.any_eq_true, List.mem_cons, List.not_mem_nil, or_false, beq_iff_eq, decide_eq_true_eq]
    constructor
    · rintro ⟨x, rfl | rfl, h2⟩
      · exact .inl h2.symm
      · exact .inr ⟨h, h2.symm⟩
    · rintro (h2 | ⟨_, h2⟩)
      · exact ⟨1, .inl rfl, h2.symm⟩
      · exact ⟨-1, .inr rfl, h2.symm⟩
set_option maxRecDepth 100000 in
set_option maxHeartbeats 1000000 in
theorem checkSide_r (q : Option Addr) (cap : Nat) (l : List Sn) (k : Int) (w : World) (hr : RowV w q (flatS l)) (hl : l.length ≤ 1000000) :
    Calls Try.prog 56 #[.slice q l.length cap, .int .i64 k, .int .i64 1] w fun e w' => e = .returned (.int .i64 (sideErr l k 1)) ∧ Below w.heap.size w w' := by
  have hsl : (sidesS k).length ≤ 2 := by unfold sidesS; split <;> simp
  have HH := Lib.hid (sides_has k 1)
  go_enter Try.func56, Try.ntmps56
  go_wp2_with (first
    | (go_at_call 60; refine (checkPlace_any q cap l k _ hr hl).mono ?_; rintro e w1 ⟨rfl, hb1⟩)
    | (go_at_call 61; refine (sidesOf_any _ _).mono ?_; rintro e w2 ⟨q2, c2, rfl, hr2, hq2, hc2, hb2⟩)
    | (go_at_call 45; refine (containsI_any 1 q2 c2 (sidesS k) _ hr2 (by omega)).mono ?_; rintro e w3 ⟨rfl, rfl⟩; rw [HH.out]))
  all_goals go_ret
  all_goals first
    | refine ⟨ret_int ?_, hb1.on hb2⟩
    | refine ⟨ret_int ?_, hb1⟩
  all_goals unfold sideErr
  all_goals simp_all
set_option maxRecDepth 100000 in
set_option maxHeartbeats 1000000 in
theorem checkSide_l0 (q : Option Addr) (cap : Nat) (l : List Sn) (w : World) (hr : RowV w q (flatS l)) (hl : l.length ≤ 1000000) :
    Calls Try.prog 56 #[.slice q l.length cap, .int .i64 0, .int .i64 (-1)] w fun e w' => e = .returned (.int .i64 (sideErr l 0 (-1))) ∧ Below w.heap.size w w' := by
  have hsl : (sidesS 0).length ≤ 2 := by unfold sidesS; split <;> simp
  have hh : ((sidesS 0).any (· == (-1))) = false := by decide
  have HH := Lib.hid hh
  clear hh
  go_enter Try.func56, Try.ntmps56
  go_wp2_with (first
    | (go_at_call 60; refine (checkPlace_any q cap l 0 _ hr hl).mono ?_; rintro e w1 ⟨rfl, hb1⟩)
    | (go_at_call 61; refine (sidesOf_any _ _).mono ?_; rintro e w2 ⟨q2, c2, rfl, hr2, hq2, hc2, hb2⟩)
    | (go_at_call 45; refine (containsI_any (-1) q2 c2 (sidesS 0) _ hr2 (by omega)).mono ?_; rintro e w3 ⟨rfl, rfl⟩; rw [HH.out]))
  all_goals go_ret
  all_goals first
    | refine ⟨ret_int ?_, hb1.on hb2⟩
    | refine ⟨ret_int ?_, hb1⟩
  all_goals unfold sideErr
  all_goals simp_all
set_option maxRecDepth 100000 in
set_option maxHeartbeats 1000000 in
theorem checkSide_l (q : Option Addr) (cap : Nat) (l : List Sn) (k : Int) (w : World) (hr : RowV w q (flatS l)) (hl : l.length ≤ 1000000) (hk : k ≠ 0) :
    Calls Try.prog 56 #[.slice q l.length cap, .int .i64 k, .int .i64 (-1)] w fun e w' => e = .returned (.int .i64 (sideErr l k (-1))) ∧ Below w.heap.size w w' := by
  have hsl : (sidesS k).length ≤ 2 := by unfold sidesS; split <;> simp
  have hh : ((sidesS k).any (· == (-1))) = true := by rw [sides_has]; simp [hk]
  have HH := Lib.hid hh
  clear hh
  go_enter Try.func56, Try.ntmps56
  go_wp2_with (first
    | (go_at_call 60; refine (checkPlace_any q cap l k _ hr hl).mono ?_; rintro e w1 ⟨rfl, hb1⟩)
    | (go_at_call 61; refine (sidesOf_any _ _).mono ?_; rintro e w2 ⟨q2, c2, rfl, hr2, hq2, hc2, hb2⟩)
    | (go_at_call 45; refine (containsI_any (-1) q2 c2 (sidesS k) _ hr2 (by omega)).mono ?_; rintro e w3 ⟨rfl, rfl⟩; rw [HH.out]))
  all_goals go_ret
  all_goals first
    | refine ⟨ret_int ?_, hb1.on hb2⟩
    | refine ⟨ret_int ?_, hb1⟩
  all_goals unfold sideErr
  all_goals simp_all
set_option maxRecDepth 100000 in
set_option maxHeartbeats 1000000 in
theorem checkSide_x (q : Option Addr) (cap : Nat) (l : List Sn) (k : Int) (d : Int) (w : World) (hr : RowV w q (flatS l)) (hl : l.length ≤ 1000000) (h1 : d ≠ 1) (h2 : d ≠ -1) :
    Calls Try.prog 56 #[.slice q l.length cap, .int .i64 k, .int .i64 d] w fun e w' => e = .returned (.int .i64 (sideErr l k d)) ∧ Below w.heap.size w w' := by
  have hsl : (sidesS k).length ≤ 2 := by unfold sidesS; split <;> simp
  have g1 : (d != 1) = true := by simpa using h1
  have g2 : (d != -1) = true := by simpa using h2
  have HH := Lib.hid (sides_has k d)
  go_enter Try.func56, Try.ntmps56
  go_wp2_with (first
    | (go_at_call 60; refine (checkPlace_any q cap l k _ hr hl).mono ?_; rintro e w1 ⟨rfl, hb1⟩)
    | (go_at_call 61; refine (sidesOf_any _ _).mono ?_; rintro e w2 ⟨q2, c2, rfl, hr2, hq2, hc2, hb2⟩)
    | (go_at_call 45; refine (containsI_any d q2 c2 (sidesS k) _ hr2 (by omega)).mono ?_; rintro e w3 ⟨rfl, rfl⟩; rw [HH.out]))
  all_goals go_ret
  all_goals first
    | refine ⟨ret_int ?_, hb1.on hb2⟩
    | refine ⟨ret_int ?_, hb1⟩
  all_goals unfold sideErr
  all_goals simp_all
theorem checkSide_any (q : Option Addr) (cap : Nat) (l : List Sn) (k d : Int) (w : World) (hr : RowV w q (flatS l)) (hl : l.length ≤ 1000000) :
    Calls Try.prog 56 #[.slice q l.length cap, .int .i64 k, .int .i64 d] w fun e w' => e = .returned (.int .i64 (sideErr l k d)) ∧ Below w.heap.size w w' := by
  by_cases h1 : d = 1
  · subst h1; exact checkSide_r q cap l k w hr hl
  · by_cases h2 : d = -1
    · subst h2
      by_cases hk : k = 0
      · subst hk; exact checkSide_l0 q cap l w hr hl
      · exact checkSide_l q cap l k w hr hl hk
    · exact checkSide_x q cap l k d w hr hl h1 h2
end Go.Proofs.Ytffblmhaoekkgaa.prp

/- Package prop, the walks: Stands, Tips, Worst, Moment, Proves. -/
namespace Go.Proofs.Ytffblmhaoekkgaa.prp
open Go.RowKit
set_option linter.unusedSimpArgs false
set_option linter.unusedVariables false

theorem errP_ok {l : List Sn} (h : errP l = 0) : 1 ≤ l.length ∧ l.length ≤ 5 ∧ ∀ s ∈ l, okS s := by
  unfold errP at h
  split at h
  · cases h
  · split at h
    · cases h
    · exact ⟨by omega, by omega, ok_of h⟩
theorem placeErr_ok {l : List Sn} {k : Int} (h : placeErr l k = 0) : errP l = 0 ∧ 0 ≤ k ∧ k < l.length := by
  unfold placeErr at h
  split at h
  · rename_i h1; exact absurd h h1
  · rename_i h1
    split at h
    · rename_i h2
      simp [isF] at h2
      exact ⟨by simpa using h1, by omega, by omega⟩
    · cases h
theorem sideErr_ok {l : List Sn} {k d : Int} (h : sideErr l k d = 0) : placeErr l k = 0 ∧ (d = 1 ∨ d = -1) := by
  unfold sideErr at h
  split at h
  · rename_i h1; exact absurd h h1
  · rename_i h1
    split at h
    · cases h
    · rename_i h2
      exact ⟨by simpa using h1, by omega⟩
theorem ret_two {a a' b b' : Value} (h1 : a = a') (h2 : b = b') : Ending.returned (.tuple #[a, b]) = .returned (.tuple #[a', b']) := by rw [h1, h2]
/-- Stands: is it sure that a pile stands; its error -/
def standsOf (l : List Sn) : Bool × Int := if errP l ≠ 0 then (false, errP l) else (standsS l, 0)
set_option maxHeartbeats 1000000 in
theorem Stands_any (q : Option Addr) (cap : Nat) (l : List Sn) (w : World) (hr : RowV w q (flatS l)) (hl : l.length ≤ 1000000) :
    Calls Try.prog 14 #[.slice q l.length cap] w fun e w' => e = .returned (.tuple #[.bool (standsOf l).1, .int .i64 (standsOf l).2]) ∧ Below w.heap.size w w' := by
  by_cases h0 : errP l = 0
  · obtain ⟨_, h5, hok⟩ := errP_ok h0
    have hS : standsOf l = (standsS l, 0) := by unfold standsOf; rw [if_neg (by simpa using h0)]
    rw [hS]
    have HOK := Lib.hid hok
    have HC := Lib.hid (Check_any q cap l w hr hl)
    rw [h0] at HC
    clear hok h0 hS
    go_enter Try.func14, Try.ntmps14
    go_wp2_with (first
      | (go_at_call 16; refine HC.out.mono ?_; rintro e w1 ⟨rfl, hb1⟩)
      | (go_at_call 53; refine (stands_any q cap l _ (hr.below (Nat.le_refl _) hb1) h5 HOK.out).mono ?_; rintro e w2 ⟨rfl, hb2⟩))
    go_ret2
    exact ⟨rfl, hb1.on hb2⟩
  · have hS : standsOf l = (false, errP l) := by unfold standsOf; rw [if_pos h0]
    rw [hS]
    have HC := Lib.hid (Check_any q cap l w hr hl)
    have hne : (errP l != 0) = true := by simpa using h0
    clear hS
    go_enter Try.func14, Try.ntmps14
    go_wp2_with (go_at_call 16; refine HC.out.mono ?_; rintro e w1 ⟨rfl, hb1⟩)
    go_ret2
    exact ⟨rfl, hb1⟩

theorem wsErr_ok : ∀ {l : List Sn} {ws : List Int}, ws.length = l.length → wsErr l ws = 0 → ∀ i, i < l.length → (l.getD i zs).least ≤ ws.getD i 0 ∧ ws.getD i 0 ≤ (l.getD i zs).most
  | [], [], _, _, i, hi => by simp at hi
  | [], _ :: _, h, _, _, _ => by simp at h
  | _ :: _, [], h, _, _, _ => by simp at h
  | s :: l, x :: ws, h, he, i, hi => by
    unfold wsErr at he
    split at he
    · rename_i hf
      simp [isF] at hf
      cases i with
      | zero => simpa using hf
      | succ i =>
        have := wsErr_ok (l := l) (ws := ws) (by simpa using h) he i (by simpa using hi)
        simpa using this
    · cases he
theorem truthErr_ok {l : List Sn} {ws : List Int} (hok : ∀ s ∈ l, okS s) (h : truthErr l ws = 0) : ws.length = l.length ∧ ∀ x ∈ ws, 0 ≤ x ∧ x ≤ 100 := by
  unfold truthErr at h
  split at h
  · cases h
  · rename_i h1
    have hl : ws.length = l.length := by simpa using h1
    refine ⟨hl, fun x hx => ?_⟩
    obtain ⟨i, hi, rfl⟩ := List.getElem_of_mem hx
    have := wsErr_ok hl h i (by omega)
    rw [getD_eq ws i 0 hi] at this
    obtain ⟨_, _, _, _, h5, h6, h7, h8, _⟩ := hok _ (getD_mem l i zs (by omega))
    omega
/-- the lowest level that may tip; the error -/
def tipsOf (l : List Sn) : Int × Int := if errP l ≠ 0 then (0, errP l) else if firstIdx (mayTipS l) (List.range l.length) < 0 then (0, 13) else (firstIdx (mayTipS l) (List.range l.length), 0)
set_option maxHeartbeats 1000000 in
theorem Tips_any (q : Option Addr) (cap : Nat) (l : List Sn) (w : World) (hr : RowV w q (flatS l)) (hl : l.length ≤ 1000000) :
    Calls Try.prog 15 #[.slice q l.length cap] w fun e w' => e = .returned (.tuple #[.int .i64 (tipsOf l).1, .int .i64 (tipsOf l).2]) ∧ Below w.heap.size w w' := by
  by_cases h0 : errP l = 0
  · obtain ⟨h1, h5, hok⟩ := errP_ok h0
    have hS : tipsOf l = if firstIdx (mayTipS l) (List.range l.length) < 0 then (0, 13) else (firstIdx (mayTipS l) (List.range l.length), 0) := by unfold tipsOf; rw [if_neg (by simpa using h0)]
    have HS := Lib.hid hS
    have HOK := Lib.hid hok
    have HC := Lib.hid (Check_any q cap l w hr hl)
    rw [h0] at HC
    clear hok h0 hS
    go_enter Try.func15, Try.ntmps15
    go_wp2_with (go_at_call 16; refine HC.out.mono ?_; rintro e w1 ⟨rfl, hb1⟩)
    go_loopw [13] (fun i wr => ∃ k : Nat, k ≤ l.length ∧ i = .int .i64 k ∧ AllNo (mayTipS l) (List.range l.length) k ∧ Below w1.heap.size w1 wr) (fun i _ => l.length - (intOf i).toNat)
    case atStart => exact ⟨0, Nat.zero_le _, rfl, AllNo.zero _ _, Below.refl _ _⟩
    case round =>
      obtain ⟨k, hk, rfl, hall, hbel⟩ := hrel
      have hac := hb1.on hbel
      by_cases hlt : k < l.length
      · have hkr : k < (List.range l.length).length := by simpa using hlt
        have hg : (List.range l.length).getD k 0 = k := by rw [getD_eq _ k 0 hkr]; simp
        have hst := hall.step hkr 0
        rw [hg] at hst
        have HST := Lib.hid hst
        have HM := Lib.hid (mayTip_any q cap l k wr (hr.below (Nat.le_refl _) hac) h5 HOK.out hlt)
        clear hst hall hr hg hkr
        go_wp2_with (go_at_call 54; refine HM.out.mono ?_; rintro e w2 ⟨rfl, hb2⟩)
        · have ht : mayTipS l k = true := by assumption
          have he := HST.out.2 ht
          have HE := Lib.hid he
          clear he
          go_ret2
          exact ⟨ret_two (by rw [HS.out, HE.out, if_neg (by omega)]; rfl) (by rw [HS.out, HE.out, if_neg (by omega)]; rfl), hac.on hb2⟩
        · have ht : mayTipS l k = false := by assumption
          go_roundw
          case rel => exact ⟨k + 1, hlt, by go_num, HST.out.1 ht, hbel.on hb2⟩
          case measure => simp [intOf]; omega
      · obtain rfl : k = l.length := by omega
        have he : firstIdx (mayTipS l) (List.range l.length) = -1 := AllNo.all (by rw [List.length_range]; exact hall)
        have HE := Lib.hid he
        clear he hall
        go_wp2
        go_ret2
        exact ⟨ret_two (by rw [HS.out, HE.out]; rfl) (by rw [HS.out, HE.out]; rfl), hac⟩
  · have hS : tipsOf l = (0, errP l) := by unfold tipsOf; rw [if_pos h0]
    rw [hS]
    have HC := Lib.hid (Check_any q cap l w hr hl)
    have hne : (errP l != 0) = true := by simpa using h0
    clear hS
    go_enter Try.func15, Try.ntmps15
    go_wp2_with (go_at_call 16; refine HC.out.mono ?_; rintro e w1 ⟨rfl, hb1⟩)
    go_ret2
    exact ⟨rfl, hb1⟩
end Go.Proofs.Ytffblmhaoekkgaa.prp

/- Package prop, the walks: Worst, Moment, Proves. -/
namespace Go.Proofs.Ytffblmhaoekkgaa.prp
open Go.RowKit
set_option linter.unusedSimpArgs false
set_option linter.unusedVariables false

/-- a new list of ints, and an error -/
def RetLE (w : World) (l : List Int) (err : Int) (e : Ending) (w' : World) : Prop :=
  ∃ q c, e = .returned (.tuple #[.slice q l.length c, .int .i64 err]) ∧ RowV w' q (flatI l) ∧ (∀ a, q = some a → w.heap.size ≤ a.block ∧ a.block < w'.heap.size) ∧ Below w.heap.size w w'
/-- the worst truth of a level; the error -/
def worstOf (l : List Sn) (k d : Int) : List Int × Int := if sideErr l k d ≠ 0 then ([], sideErr l k d) else (worstS l k.toNat d, 0)
set_option maxHeartbeats 1000000 in
theorem Worst_any (q : Option Addr) (cap : Nat) (l : List Sn) (k d : Int) (w : World) (hr : RowV w q (flatS l)) (hl : l.length ≤ 1000000) :
    Calls Try.prog 19 #[.slice q l.length cap, .int .i64 k, .int .i64 d] w (RetLE w (worstOf l k d).1 (worstOf l k d).2) := by
  by_cases h0 : sideErr l k d = 0
  · obtain ⟨hp, hd⟩ := sideErr_ok h0
    obtain ⟨hE, hk0, hkl⟩ := placeErr_ok hp
    obtain ⟨_, h5, hok⟩ := errP_ok hE
    obtain ⟨lv, rfl⟩ : ∃ lv : Nat, k = lv := ⟨k.toNat, by omega⟩
    have hS : worstOf l lv d = (worstS l lv d, 0) := by unfold worstOf; rw [if_neg (by simpa using h0)]; rfl
    rw [hS]
    have hc := checkSide_any q cap l lv d w hr hl
    rw [h0] at hc
    have HC := Lib.hid hc
    have HW := Lib.hid (fun W hb => worst_any q cap l lv d W (hr.below (Nat.le_refl _) hb) (by omega) hok (by omega) hd)
    clear hok h0 hS hc hp hE hr
    go_enter Try.func19, Try.ntmps19
    go_wp2_with (first
      | (go_at_call 56; refine HC.out.mono ?_; rintro e w1 ⟨rfl, hb1⟩)
      | (go_at_call 57; refine (HW.out _ hb1).mono ?_; rintro e w2 ⟨q2, c2, rfl, hr2, hq2, hc2, hb2⟩))
    go_ret2
    exact ⟨q2, c2, rfl, hr2, fun a ha => ⟨Nat.le_trans hb1.size (hq2 a ha).1, (hq2 a ha).2⟩, hb1.on hb2⟩
  · have hS : worstOf l k d = ([], sideErr l k d) := by unfold worstOf; rw [if_pos h0]
    rw [hS]
    have HC := Lib.hid (checkSide_any q cap l k d w hr hl)
    have hne : (sideErr l k d != 0) = true := by simpa using h0
    clear hS
    go_enter Try.func19, Try.ntmps19
    go_wp2_with (go_at_call 56; refine HC.out.mono ?_; rintro e w1 ⟨rfl, hb1⟩)
    go_ret2
    exact ⟨none, 0, rfl, .inl rfl, by simp, hb1⟩
/-- the moment of a level; the error -/
def momOf (l : List Sn) (ws : List Int) (k d : Int) : Int × Int := if sideErr l k d ≠ 0 then (0, sideErr l k d) else if truthErr l ws ≠ 0 then (0, truthErr l ws) else (momS l ws k.toNat d, 0)
set_option maxHeartbeats 1000000 in
theorem Moment_any (q : Option Addr) (cap : Nat) (l : List Sn) (q2 : Option Addr) (c2 : Nat) (ws : List Int) (k d : Int) (w : World) (hr : RowV w q (flatS l)) (hr2 : RowV w q2 (flatI ws)) (hl : l.length ≤ 1000000) (hlw : ws.length ≤ 1000000) :
    Calls Try.prog 20 #[.slice q l.length cap, .slice q2 ws.length c2, .int .i64 k, .int .i64 d] w fun e w' => e = .returned (.tuple #[.int .i64 (momOf l ws k d).1, .int .i64 (momOf l ws k d).2]) ∧ Below w.heap.size w w' := by
  by_cases h0 : sideErr l k d = 0
  · obtain ⟨hp, hd⟩ := sideErr_ok h0
    obtain ⟨hE, hk0, hkl⟩ := placeErr_ok hp
    obtain ⟨_, h5, hok⟩ := errP_ok hE
    obtain ⟨lv, rfl⟩ : ∃ lv : Nat, k = lv := ⟨k.toNat, by omega⟩
    have hc := checkSide_any q cap l lv d w hr hl
    rw [h0] at hc
    have HC := Lib.hid hc
    have htc := fun W hb => checkTruth_any q cap l q2 c2 ws W (hr.below (Nat.le_refl _) hb) (hr2.below (Nat.le_refl _) hb) h5 hlw
    by_cases h1 : truthErr l ws = 0
    · obtain ⟨hwl, hwo⟩ := truthErr_ok hok h1
      have hS : momOf l ws lv d = (momS l ws lv d, 0) := by unfold momOf; rw [if_neg (by simpa using h0), if_neg (by simpa using h1)]; rfl
      rw [hS]
      simp only [h1] at htc
      have HT := Lib.hid htc
      have HM := Lib.hid (fun W hb => moment_any q cap l q2 c2 ws lv d W (hr.below (Nat.le_refl _) hb) (hr2.below (Nat.le_refl _) hb) h5 hwl hok hwo (by omega) hd)
      clear hok h0 hS hc hp hE hr htc h1 hwl hwo hr2
      go_enter Try.func20, Try.ntmps20
      go_wp2_with (first
        | (go_at_call 56; refine HC.out.mono ?_; rintro e w1 ⟨rfl, hb1⟩)
        | (go_at_call 58; refine (HT.out _ hb1).mono ?_; rintro e w2 ⟨rfl, hb2⟩)
        | (go_at_call 59; refine (HM.out _ (hb1.on hb2)).mono ?_; rintro e w3 ⟨rfl, hb3⟩))
      go_ret2
      exact ⟨rfl, (hb1.on hb2).on hb3⟩
    · have hS : momOf l ws lv d = (0, truthErr l ws) := by unfold momOf; rw [if_neg (by simpa using h0), if_pos h1]
      rw [hS]
      have HT := Lib.hid htc
      have hne : (truthErr l ws != 0) = true := by simpa using h1
      clear hok h0 hS hc hp hE hr htc hr2
      go_enter Try.func20, Try.ntmps20
      go_wp2_with (first
        | (go_at_call 56; refine HC.out.mono ?_; rintro e w1 ⟨rfl, hb1⟩)
        | (go_at_call 58; refine (HT.out _ hb1).mono ?_; rintro e w2 ⟨rfl, hb2⟩))
      go_ret2
      exact ⟨rfl, hb1.on hb2⟩
  · have hS : momOf l ws k d = (0, sideErr l k d) := by unfold momOf; rw [if_pos h0]
    rw [hS]
    have HC := Lib.hid (checkSide_any q cap l k d w hr hl)
    have hne : (sideErr l k d != 0) = true := by simpa using h0
    clear hS
    go_enter Try.func20, Try.ntmps20
    go_wp2_with (go_at_call 56; refine HC.out.mono ?_; rintro e w1 ⟨rfl, hb1⟩)
    go_ret2
    exact ⟨rfl, hb1⟩

/-- what Proves answers -/
def provesOf (l : List Sn) (ws : List Int) (k : Int) : Int := if placeErr l k ≠ 0 then placeErr l k else if truthErr l ws ≠ 0 then truthErr l ws else if (sidesS k).any (fun d => decide (0 < momS l ws k.toNat d)) then 0 else 14
set_option maxHeartbeats 2000000 in
theorem Proves_any (q : Option Addr) (cap : Nat) (l : List Sn) (q2 : Option Addr) (c2 : Nat) (ws : List Int) (k : Int) (w : World) (hr : RowV w q (flatS l)) (hr2 : RowV w q2 (flatI ws)) (hl : l.length ≤ 1000000) (hlw : ws.length ≤ 1000000) :
    Calls Try.prog 24 #[.slice q l.length cap, .slice q2 ws.length c2, .int .i64 k] w fun e w' => e = .returned (.int .i64 (provesOf l ws k)) ∧ Below w.heap.size w w' := by
  by_cases h0 : placeErr l k = 0
  · obtain ⟨hE, hk0, hkl⟩ := placeErr_ok h0
    obtain ⟨_, h5, hok⟩ := errP_ok hE
    obtain ⟨lv, rfl⟩ : ∃ lv : Nat, k = lv := ⟨k.toNat, by omega⟩
    have hc := checkPlace_any q cap l lv w hr hl
    rw [h0] at hc
    have HC := Lib.hid hc
    have htc := fun W hb => checkTruth_any q cap l q2 c2 ws W (hr.below (Nat.le_refl _) hb) (hr2.below (Nat.le_refl _) hb) h5 hlw
    by_cases h1 : truthErr l ws = 0
    · obtain ⟨hwl, hwo⟩ := truthErr_ok hok h1
      have hS : provesOf l ws lv = if (sidesS lv).any (fun d => decide (0 < momS l ws lv d)) then 0 else 14 := by unfold provesOf; rw [if_neg (by simpa using h0), if_neg (by simpa using h1)]; rfl
      have HS := Lib.hid hS
      simp only [h1] at htc
      have HT := Lib.hid htc
      have HM := Lib.hid (fun d hd W hb => moment_any q cap l q2 c2 ws lv d W (hr.below (Nat.le_refl _) hb) (hr2.below (Nat.le_refl _) hb) h5 hwl hok hwo (by omega) hd)
      have hsl : (sidesS (lv : Int)).length ≤ 2 := by unfold sidesS; split <;> simp
      clear hok h0 hS hc hE hr htc h1 hwl hwo hr2
      go_enter Try.func24, Try.ntmps24
      go_wp2_with (first
        | (go_at_call 60; refine HC.out.mono ?_; rintro e w1 ⟨rfl, hb1⟩)
        | (go_at_call 58; refine (HT.out _ hb1).mono ?_; rintro e w2 ⟨rfl, hb2⟩)
        | (go_at_call 61; refine (sidesOf_any _ _).mono ?_; rintro e w3 ⟨q3, c3, rfl, hr3, hq3, hc3, hb3⟩))
      have hac := (hb1.on hb2).on hb3
      go_loopw [26] (fun i wr => ∃ k : Nat, k ≤ (sidesS lv).length ∧ i = .int .i64 k ∧ AllNo (fun d => decide (0 < momS l ws lv d)) (sidesS lv) k ∧ Below w3.heap.size w3 wr) (fun i _ => (sidesS lv).length - (intOf i).toNat)
      case atStart => exact ⟨0, Nat.zero_le _, rfl, AllNo.zero _ _, Below.refl _ _⟩
      case round =>
        obtain ⟨k, hk, rfl, hall, hbel⟩ := hrel
        by_cases hlt : k < (sidesS lv).length
        · obtain ⟨b, off, rfl, hb, g1⟩ := rowI_at hr3 hlt (Nat.le_refl _) hbel
          have hd := sides_mem (getD_mem (sidesS (lv : Int)) k 0 hlt)
          have hst := hall.step hlt 0
          have hhit := any_hit (fun d => decide (0 < momS l ws lv d)) (sidesS lv) k 0 hlt
          generalize (sidesS (lv : Int)).getD k 0 = d at g1 hd hst hhit
          have HST := Lib.hid hst
          have HH := Lib.hid hhit
          clear hst hhit hall
          go_wp2_with (go_at_call 59; refine (HM.out d hd wr (hac.on hbel)).mono ?_; rintro e w4 ⟨rfl, hb4⟩)
          · have hp : 0 < momS l ws lv d := by assumption
            go_ret
            exact ⟨ret_int (by rw [HS.out, if_pos (HH.out (by simpa using hp))]), (hac.on hbel).on hb4⟩
          · have hp : ¬ 0 < momS l ws lv d := by omega
            first
            | exact ⟨⟨k + 1, hlt, by go_num, HST.out.1 (by simpa using hp), hbel.on hb4⟩, by simp [intOf]; omega⟩
            | (go_roundw
               case rel => exact ⟨k + 1, hlt, by go_num, HST.out.1 (by simpa using hp), hbel.on hb4⟩
               case measure => simp [intOf]; omega)
        · obtain rfl : k = (sidesS lv).length := by omega
          have hm := any_miss _ _ hall
          have HMI := Lib.hid hm
          clear hm hall
          go_wp2
          go_ret
          exact ⟨ret_int (by rw [HS.out, HMI.out]; rfl), hac.on hbel⟩
    · have hS : provesOf l ws lv = truthErr l ws := by unfold provesOf; rw [if_neg (by simpa using h0), if_pos h1]
      rw [hS]
      have HT := Lib.hid htc
      have hne : (truthErr l ws != 0) = true := by simpa using h1
      clear hok h0 hS hc hE hr htc hr2
      go_enter Try.func24, Try.ntmps24
      go_wp2_with (first
        | (go_at_call 60; refine HC.out.mono ?_; rintro e w1 ⟨rfl, hb1⟩)
        | (go_at_call 58; refine (HT.out _ hb1).mono ?_; rintro e w2 ⟨rfl, hb2⟩))
      go_ret
      exact ⟨rfl, hb1.on hb2⟩
  · have hS : provesOf l ws k = placeErr l k := by unfold provesOf; rw [if_pos h0]
    rw [hS]
    have HC := Lib.hid (checkPlace_any q cap l k w hr hl)
    have hne : (placeErr l k != 0) = true := by simpa using h0
    clear hS
    go_enter Try.func24, Try.ntmps24
    go_wp2_with (go_at_call 60; refine HC.out.mono ?_; rintro e w1 ⟨rfl, hb1⟩)
    go_ret
    exact ⟨rfl, hb1⟩
end Go.Proofs.Ytffblmhaoekkgaa.prp

