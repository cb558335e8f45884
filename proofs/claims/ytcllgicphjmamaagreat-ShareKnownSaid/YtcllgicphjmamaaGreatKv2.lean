/- The reckoner's memory, and when a world bears it. -/
import Derived.Test.YtcllgicphjmamaaGreatKv1
namespace Go.Proofs.YtcllgicphjmamaaGreat.ev
open Go.RowKit
set_option linter.unusedSimpArgs false
set_option linter.unusedVariables false
set_option linter.unusedSectionVars false

structure Blk where
  cells : List Value
  tip : Bool
  esz : Nat
  anc : List Nat
  alive : Bool
structure St where
  heap : Tr Blk
  size : Nat
  wr : Nat
noncomputable def St.getB (σ : St) (k : Nat) : Option Blk :=
  match Nat.ble k 65535 with
  | true => match Tr.get σ.heap k with
    | some B => match B.alive with
      | true => some B
      | false => none
    | none => none
  | false => none
theorem St.getB_eq (σ : St) (k : Nat) : σ.getB k = if k < 65536 then match Tr.get σ.heap k with
    | some B => if B.alive then some B else none
    | none => none
  else none := by
  unfold St.getB
  by_cases h : k < 65536
  · rw [if_pos h, show Nat.ble k 65535 = true from by simp; omega]
    cases Tr.get σ.heap k with
    | none => rfl
    | some B => cases hb : B.alive <;> simp [hb]
  · rw [if_neg h, show Nat.ble k 65535 = false from by rw [Bool.eq_false_iff]; simp; omega]
noncomputable def St.setB : St → Nat → Blk → St
  | ⟨heap, size, wr⟩, k, B => ⟨Tr.set B 16 heap k, size, wr⟩
theorem St.getB_lt {σ : St} {k : Nat} {B : Blk} (h : σ.getB k = some B) : k < 65536 := by
  rw [St.getB_eq] at h; split at h
  · assumption
  · cases h
theorem St.getB_alive {σ : St} {k : Nat} {B : Blk} (h : σ.getB k = some B) : B.alive = true := by
  rw [St.getB_eq] at h
  split at h
  · split at h
    · split at h
      · cases h; assumption
      · cases h
    · cases h
  · cases h
theorem St.getB_setB (σ : St) (k m : Nat) (B : Blk) (hk : k < 65536) : (σ.setB k B).getB m = if m = k then (if B.alive then some B else none) else σ.getB m := by
  rw [St.getB_eq, St.getB_eq]
  unfold St.setB
  by_cases hm : m < 65536
  · rw [if_pos hm, Tr.get_set 16 _ k m B (by simpa using hk) (by simpa using hm)]
    by_cases e : m = k
    · subst e; simp
    · have : k ≠ m := fun h => e h.symm
      simp [e, this, hm]
  · have : m ≠ k := fun e => hm (e ▸ hk)
    simp [hm, this]
noncomputable def killB (σ : St) (k : Nat) : St :=
  match σ.getB k with
  | some B => σ.setB k { B with alive := false }
  | none => σ
noncomputable def killL (σ : St) : List Nat → St
  | [] => σ
  | k :: l => killL (killB σ k) l
theorem getB_killB (σ : St) (k m : Nat) : (killB σ k).getB m = if m = k then none else σ.getB m := by
  unfold killB
  cases h : σ.getB k with
  | none =>
    by_cases e : m = k
    · subst e; simp [h]
    · simp [e]
  | some B => simp [St.getB_setB σ k m _ (St.getB_lt h)]
theorem getB_killL : ∀ (l : List Nat) (σ : St) (m : Nat), (killL σ l).getB m = if m ∈ l then none else σ.getB m
  | [], σ, m => by simp [killL]
  | k :: l, σ, m => by
    rw [killL, getB_killL l, getB_killB]
    by_cases a : m ∈ l
    · simp [a]
    · by_cases b : m = k <;> simp [a, b]
theorem killB_size (σ : St) (k : Nat) : (killB σ k).size = σ.size ∧ (killB σ k).wr = σ.wr := by
  unfold killB; split <;> exact ⟨rfl, rfl⟩
theorem killL_size : ∀ (l : List Nat) (σ : St), (killL σ l).size = σ.size ∧ (killL σ l).wr = σ.wr
  | [], σ => ⟨rfl, rfl⟩
  | k :: l, σ => by
    rw [killL]
    exact ⟨(killL_size l _).1.trans (killB_size σ k).1, (killL_size l _).2.trans (killB_size σ k).2⟩
/-- a block that is written: what shares its memory is read no more -/
noncomputable def St.write (σ : St) (k : Nat) (B : Blk) (cells : List Value) : St :=
  { (killL σ B.anc).setB k ⟨cells, true, B.esz, [], true⟩ with wr := (k :: B.anc).foldl min σ.wr }
theorem foldl_min_le : ∀ (l : List Nat) (a : Nat), l.foldl min a ≤ a ∧ ∀ x ∈ l, l.foldl min a ≤ x
  | [], a => ⟨Nat.le_refl _, by simp⟩
  | y :: l, a => by
    obtain ⟨h1, h2⟩ := foldl_min_le l (min a y)
    refine ⟨by simp only [List.foldl_cons]; omega, fun x hx => ?_⟩
    simp only [List.foldl_cons]
    rcases List.mem_cons.1 hx with rfl | hx
    · omega
    · exact h2 x hx
noncomputable def St.newS : St → Blk → St
  | ⟨heap, size, wr⟩, B => ⟨Tr.set B 16 heap size, Nat.succ size, wr⟩
theorem St.getB_newS (σ : St) (B : Blk) (m : Nat) (hs : σ.size < 65536) : (σ.newS B).getB m = if m = σ.size then (if B.alive then some B else none) else σ.getB m := by
  have := St.getB_setB σ σ.size m B hs
  simpa [St.getB_eq, St.setB, St.newS] using this
theorem St.getB_write (σ : St) (k m : Nat) (B : Blk) (cells : List Value) (hk : k < 65536) (hal : B.alive = true) :
    (σ.write k B cells).getB m = if m = k then some ⟨cells, true, B.esz, [], true⟩ else if m ∈ B.anc then none else σ.getB m := by
  have h1 : (σ.write k B cells).getB m = ((killL σ B.anc).setB k ⟨cells, true, B.esz, [], true⟩).getB m := rfl
  rw [h1, St.getB_setB _ k m _ hk, getB_killL]
  by_cases e : m = k <;> simp [e, hal]

/-- how a block of the reckoner lies in a world -/
def BRel (μ : Mu) (w : World) (B : Blk) (L : Loc) : Prop :=
  ∃ (c : Array Value) (e : TypeId), w.heap[L.blk]? = some (.cells c e (0, 0)) ∧ c.size = L.size ∧ L.esz = B.esz ∧ L.sh + B.cells.length ≤ c.size ∧ LRel μ B.cells ((c.toList.drop L.sh).take B.cells.length)
structure Rel (μ : Mu) (σ : St) (w : World) : Prop where
  wf : ∀ k B, σ.getB k = some B → k < σ.size
  blk : ∀ k B L, σ.getB k = some B → μ k = some L → BRel μ w B L
  apart : ∀ k k' B B' L L', σ.getB k = some B → σ.getB k' = some B' → k ≠ k' → μ k = some L → μ k' = some L' → L.blk = L'.blk →
    (k ∈ B'.anc ∧ B.tip = false ∧ L.sh + B.cells.length ≤ L'.sh + B'.cells.length) ∨ (k' ∈ B.anc ∧ B'.tip = false ∧ L'.sh + B'.cells.length ≤ L.sh + B.cells.length)
theorem BRel.lt {μ : Mu} {w : World} {B : Blk} {L : Loc} (h : BRel μ w B L) : L.blk < w.heap.size := by
  obtain ⟨c, e, h1, _⟩ := h
  rcases Nat.lt_or_ge L.blk w.heap.size with h | h
  · exact h
  · simp [Array.getElem?_eq_none h] at h1
theorem BRel.mono {μ μ' : Mu} {w w' : World} {B : Blk} {L : Loc} (h : BRel μ w B L) (hm : μ.le μ') (hw : w'.heap[L.blk]? = w.heap[L.blk]?) : BRel μ' w' B L := by
  obtain ⟨c, e, h1, h2, h3, h4, h5⟩ := h
  exact ⟨c, e, hw.trans h1, h2, h3, h4, h5.mono hm⟩
theorem BRel.range {μ : Mu} {w : World} {B : Blk} {L : Loc} (h : BRel μ w B L) (o n : Nat) (ho : o + n ≤ B.cells.length) :
    ∃ m : List Value, m.length = n ∧ LRel μ ((B.cells.drop o).take n) m ∧ w.rangeAt L.blk (o + L.sh) m := by
  obtain ⟨c, e, h1, h2, h3, h4, h5⟩ := h
  refine ⟨(c.toList.drop (o + L.sh)).take n, by simp; omega, ?_, fun j v hv => ?_⟩
  · have := (h5.drop o).take n
    rw [List.drop_take, List.drop_drop, List.take_take] at this
    rwa [show min n (B.cells.length - o) = n by omega, show L.sh + o = o + L.sh by omega] at this
  · rw [List.getElem?_take] at hv
    split at hv
    · rw [List.getElem?_drop] at hv
      simp [World.cell?, h1]
      simpa using hv
    · cases hv

/-- what a stretch of a run has done -/
structure Step (μ μ' : Mu) (σ σ' : St) (w w' : World) : Prop where
  ext : μ.le μ'
  dom : ∀ k L, μ' k = some L → μ k = some L ∨ (σ.size ≤ k ∧ k < σ'.size ∧ (w.heap.size ≤ L.blk ∨ ∃ k0 L0, μ k0 = some L0 ∧ L0.blk = L.blk ∧ σ'.wr ≤ k0 ∧ k0 < σ'.size))
  size : σ.size ≤ σ'.size
  wr : σ'.wr ≤ σ.wr
  hs : w.heap.size ≤ w'.heap.size
  os : w'.os = w.os
  tape : w'.tape = w.tape
  output : w'.output = w.output
  frame : ∀ b, b < w.heap.size → (∀ k L, μ k = some L → L.blk = b → k < σ'.wr ∨ σ'.size ≤ k) → w'.heap[b]? = w.heap[b]?
  canon : ∀ k, k < σ.size → k < σ'.wr → σ'.getB k = σ.getB k
theorem Mu.le.refl (μ : Mu) : μ.le μ := fun _ _ h => h
theorem Mu.le.trans {a b c : Mu} (h : a.le b) (k : b.le c) : a.le c := fun i L e => k i L (h i L e)
theorem Step.refl (μ : Mu) (σ : St) (w : World) : Step μ μ σ σ w w :=
  ⟨Mu.le.refl μ, fun k L h => .inl h, Nat.le_refl _, Nat.le_refl _, Nat.le_refl _, rfl, rfl, rfl, fun _ _ _ => rfl, fun _ _ _ => rfl⟩
theorem Step.trans {μ μ1 μ2 : Mu} {σ σ1 σ2 : St} {w w1 w2 : World} (h : Step μ μ1 σ σ1 w w1) (k : Step μ1 μ2 σ1 σ2 w1 w2) : Step μ μ2 σ σ2 w w2 := by
  refine ⟨h.ext.trans k.ext, fun i L hi => ?_, Nat.le_trans h.size k.size, Nat.le_trans k.wr h.wr, Nat.le_trans h.hs k.hs, k.os.trans h.os, k.tape.trans h.tape, k.output.trans h.output, fun b hb hf => ?_, fun i h1 h2 => ?_⟩
  · rcases k.dom i L hi with h1 | ⟨a, b, c⟩
    · rcases h.dom i L h1 with h2 | ⟨a, b, c⟩
      · exact .inl h2
      · refine .inr ⟨a, Nat.lt_of_lt_of_le b k.size, ?_⟩
        rcases c with c | ⟨k0, L0, x, y, z, z'⟩
        · exact .inl c
        · exact .inr ⟨k0, L0, x, y, Nat.le_trans k.wr z, Nat.lt_of_lt_of_le z' k.size⟩
    · refine .inr ⟨Nat.le_trans h.size a, b, ?_⟩
      rcases c with c | ⟨k0, L0, x, y, z, z'⟩
      · exact .inl (Nat.le_trans h.hs c)
      · rcases h.dom k0 L0 x with h2 | ⟨a', b', c'⟩
        · exact .inr ⟨k0, L0, h2, y, z, z'⟩
        · rcases c' with c' | ⟨k1, L1, x', y', z', z''⟩
          · exact .inl (y ▸ c')
          · exact .inr ⟨k1, L1, x', y'.trans y, Nat.le_trans k.wr z', Nat.lt_of_lt_of_le z'' k.size⟩
  · rw [k.frame b (Nat.lt_of_lt_of_le hb h.hs) (fun i L hi hL => ?_)]
    · refine h.frame b hb (fun i L hi hL => ?_)
      have := k.wr
      have := k.size
      rcases hf i L hi hL with a | a
      · exact .inl (by omega)
      · exact .inr (by omega)
    · rcases h.dom i L hi with h2 | ⟨a, b', c⟩
      · exact hf i L h2 hL
      · rcases c with c | ⟨k0, L0, x, y, z, z'⟩
        · omega
        · have := hf k0 L0 x (y.trans hL)
          have := k.wr
          have := k.size
          omega
  · have := k.wr
    have := h.size
    rw [k.canon i (by omega) h2, h.canon i h1 (by omega)]

/-- a new block -/
def Mu.add (μ : Mu) (n : Nat) (L : Loc) : Mu := fun k => if k = n then some L else μ k
theorem Mu.le_add (μ : Mu) (n : Nat) (L : Loc) (h : μ n = none) : μ.le (μ.add n L) := fun k M hk => by
  unfold Mu.add
  by_cases e : k = n
  · subst e; rw [h] at hk; cases hk
  · rw [if_neg e]; exact hk
theorem Mu.add_self (μ : Mu) (n : Nat) (L : Loc) : μ.add n L n = some L := by simp [Mu.add]
theorem Mu.add_cases {μ : Mu} {n k : Nat} {L M : Loc} (h : μ.add n L k = some M) : (k = n ∧ M = L) ∨ (k ≠ n ∧ μ k = some M) := by
  unfold Mu.add at h
  by_cases e : k = n
  · rw [if_pos e] at h; cases h; exact .inl ⟨e, rfl⟩
  · rw [if_neg e] at h; exact .inr ⟨e, h⟩
theorem Rel.alloc {μ : Mu} {σ : St} {w w1 : World} (h : Rel μ σ w) (cells : List Value) (c : Array Value) (e : TypeId) (esz : Nat) (hf : μ σ.size = none) (hlt : σ.size < 65536)
    (hl : cells.length ≤ c.size) (hc : LRel μ cells (c.toList.take cells.length)) (hw : w1.heap = w.heap.push (.cells c e (0, 0))) (ho : w1.os = w.os) (ht : w1.tape = w.tape) (hp : w1.output = w.output) :
    Rel (μ.add σ.size ⟨w.heap.size, 0, c.size, esz⟩) (σ.newS ⟨cells, true, esz, [], true⟩) w1 ∧ Step μ (μ.add σ.size ⟨w.heap.size, 0, c.size, esz⟩) σ (σ.newS ⟨cells, true, esz, [], true⟩) w w1 := by
  have hle := μ.le_add σ.size ⟨w.heap.size, 0, c.size, esz⟩ hf
  have hold : ∀ b, b < w.heap.size → w1.heap[b]? = w.heap[b]? := fun b hb => by rw [hw, Array.getElem?_push, if_neg (by omega)]
  refine ⟨⟨fun k B hk => ?_, fun k B L hk hL => ?_, fun k k' B B' L L' hk hk' hne hL hL' hb => ?_⟩, ?_⟩
  · rw [St.getB_newS σ _ k hlt] at hk
    by_cases e : k = σ.size
    · subst e; simp [St.newS]
    · rw [if_neg e] at hk
      have := h.wf k B hk
      simp [St.newS]; omega
  · rw [St.getB_newS σ _ k hlt] at hk
    rcases Mu.add_cases hL with ⟨rfl, rfl⟩ | ⟨hn, hL⟩
    · simp at hk
      subst hk
      refine ⟨c, e, by rw [hw]; simp, rfl, rfl, by simpa using hl, by simpa using hc.mono hle⟩
    · rw [if_neg hn] at hk
      have hB := h.blk k B L hk hL
      exact hB.mono hle (hold _ hB.lt)
  · rw [St.getB_newS σ _ _ hlt] at hk hk'
    rcases Mu.add_cases hL with ⟨rfl, rfl⟩ | ⟨hn, hL⟩
    · rcases Mu.add_cases hL' with ⟨rfl, rfl⟩ | ⟨hn', hL'⟩
      · exact absurd rfl hne
      · rw [if_neg hn'] at hk'
        have := (h.blk _ _ _ hk' hL').lt
        simp at hb; omega
    · rw [if_neg hn] at hk
      rcases Mu.add_cases hL' with ⟨rfl, rfl⟩ | ⟨hn', hL'⟩
      · have := (h.blk _ _ _ hk hL).lt
        simp at hb; omega
      · rw [if_neg hn'] at hk'
        exact h.apart k k' B B' L L' hk hk' hne hL hL' hb
  · refine ⟨hle, fun k L hL => ?_, by simp [St.newS], by simp [St.newS], by rw [hw]; simp, ho, ht, hp, fun b hb _ => hold b hb, fun k hk _ => by rw [St.getB_newS σ _ k hlt, if_neg (by omega)]⟩
    rcases Mu.add_cases hL with ⟨rfl, rfl⟩ | ⟨hn, hL⟩
    · exact .inr ⟨Nat.le_refl _, by simp [St.newS], .inl (Nat.le_refl _)⟩
    · exact .inl hL
/-- a block is written -/
theorem Rel.write {μ : Mu} {σ : St} {w : World} (h : Rel μ σ w) {k : Nat} {B : Blk} {L : Loc} (hB : σ.getB k = some B) (hL : μ k = some L) (ht : B.tip = true) (cells : List Value) (hlen : cells.length = B.cells.length)
    {c c' : Array Value} {e : TypeId} (hc : w.heap[L.blk]? = some (.cells c e (0, 0))) (hs : c'.size = c.size) (hr : LRel μ cells ((c'.toList.drop L.sh).take cells.length)) :
    Rel μ (σ.write k B cells) (w.setRow L.blk c') ∧ Step μ μ σ (σ.write k B cells) w (w.setRow L.blk c') := by
  have hklt := St.getB_lt hB
  have hal := St.getB_alive hB
  have hBr := h.blk k B L hB hL
  have hnew := setRow_heap w L.blk c c' e (0, 0) hc
  have hother : ∀ b, b ≠ L.blk → (w.setRow L.blk c').heap[b]? = w.heap[b]? := fun b hb => setRow_other w L.blk b c' hb
  have far : ∀ k' B' L', σ.getB k' = some B' → μ k' = some L' → k' ≠ k → k' ∉ B.anc → L'.blk ≠ L.blk := fun k' B' L' h1 h2 h3 h4 h5 => by
    rcases h.apart k' k B' B L' L h1 hB h3 h2 hL h5 with ⟨a, b, _⟩ | ⟨a, b, _⟩
    · exact h4 a
    · rw [ht] at b; cases b
  have hsize : (σ.write k B cells).size = σ.size := by simp [St.write, St.setB, (killL_size B.anc σ).1]
  have hwr := foldl_min_le (k :: B.anc) σ.wr
  refine ⟨⟨fun k' B' hk' => ?_, fun k' B' L' hk' hL' => ?_, fun k1 k2 B1 B2 L1 L2 hk1 hk2 hne hL1 hL2 hb => ?_⟩, ?_⟩
  · rw [St.getB_write σ k k' B cells hklt hal] at hk'
    rw [hsize]
    by_cases e1 : k' = k
    · subst e1; exact h.wf k' B hB
    · rw [if_neg e1] at hk'
      by_cases e2 : k' ∈ B.anc
      · rw [if_pos e2] at hk'; cases hk'
      · rw [if_neg e2] at hk'; exact h.wf k' B' hk'
  · rw [St.getB_write σ k k' B cells hklt hal] at hk'
    by_cases e1 : k' = k
    · subst e1
      rw [if_pos rfl] at hk'
      cases hk'
      rw [hL] at hL'
      cases hL'
      obtain ⟨c0, e0, g1, g2, g3, g4, g5⟩ := hBr
      rw [hc] at g1
      cases g1
      exact ⟨c', e, hnew, by rw [hs]; exact g2, g3, by rw [hs]; simpa [hlen] using g4, hr⟩
    · rw [if_neg e1] at hk'
      by_cases e2 : k' ∈ B.anc
      · rw [if_pos e2] at hk'; cases hk'
      · rw [if_neg e2] at hk'
        exact (h.blk k' B' L' hk' hL').mono (Mu.le.refl μ) (hother _ (far k' B' L' hk' hL' e1 e2))
  · rw [St.getB_write σ k _ B cells hklt hal] at hk1 hk2
    by_cases a1 : k1 = k
    · subst a1
      rw [hL] at hL1; cases hL1
      rw [if_neg (fun e => hne e.symm)] at hk2
      by_cases e2 : k2 ∈ B.anc
      · rw [if_pos e2] at hk2; cases hk2
      · rw [if_neg e2] at hk2
        exact absurd hb.symm (far k2 B2 L2 hk2 hL2 (fun e => hne e.symm) e2)
    · rw [if_neg a1] at hk1
      by_cases e1 : k1 ∈ B.anc
      · rw [if_pos e1] at hk1; cases hk1
      · rw [if_neg e1] at hk1
        by_cases a2 : k2 = k
        · subst a2
          rw [hL] at hL2; cases hL2
          exact absurd hb (far k1 B1 L1 hk1 hL1 a1 e1)
        · rw [if_neg a2] at hk2
          by_cases e2 : k2 ∈ B.anc
          · rw [if_pos e2] at hk2; cases hk2
          · rw [if_neg e2] at hk2
            exact h.apart k1 k2 B1 B2 L1 L2 hk1 hk2 hne hL1 hL2 hb
  · refine ⟨Mu.le.refl μ, fun _ _ h => .inl h, ?_, hwr.1, by simp, by simp, by simp, by simp, fun b hb hf => ?_, fun m hm hw => ?_⟩
    · rw [hsize]; exact Nat.le_refl _
    · refine hother b fun e => ?_
      subst e
      have h1 := hf k L hL rfl
      have h2 := hwr.2 k (by simp)
      have h3 := h.wf k B hB
      rw [hsize] at h1
      have h4 : (σ.write k B cells).wr = (k :: B.anc).foldl min σ.wr := rfl
      omega
    · rw [St.getB_write σ k m B cells hklt hal]
      have h4 : (σ.write k B cells).wr = (k :: B.anc).foldl min σ.wr := rfl
      have e1 : m ≠ k := fun e => by have := hwr.2 k (by simp); omega
      have e2 : m ∉ B.anc := fun e => by have := hwr.2 m (by simp [e]); omega
      simp [e1, e2]
/-- a row is continued: in its own memory or in new memory; who reads the row as it was may go on doing so -/
noncomputable def St.cont (σ : St) (k : Nat) (B : Blk) (cells : List Value) : St :=
  { (σ.setB k { B with tip := false }).newS ⟨cells, true, B.esz, k :: B.anc, true⟩ with wr := min σ.wr k }
theorem St.getB_cont (σ : St) (k m : Nat) (B : Blk) (cells : List Value) (hB : σ.getB k = some B) (hs : σ.size < 65536) :
    (σ.cont k B cells).getB m = if m = σ.size then some ⟨cells, true, B.esz, k :: B.anc, true⟩ else if m = k then some { B with tip := false } else σ.getB m := by
  have h1 : (σ.cont k B cells).getB m = ((σ.setB k { B with tip := false }).newS ⟨cells, true, B.esz, k :: B.anc, true⟩).getB m := rfl
  have hsz : (σ.setB k { B with tip := false }).size = σ.size := rfl
  rw [h1, St.getB_newS _ _ m (by rw [hsz]; exact hs), hsz, St.getB_setB σ k m _ (St.getB_lt hB)]
  simp [St.getB_alive hB]
theorem cont_apart {μ : Mu} {σ : St} {w : World} (h : Rel μ σ w) {k : Nat} {B : Blk} (hB : σ.getB k = some B) (ht : B.tip = true) {k1 k2 : Nat} {B1 B2 : Blk} {L1 L2 : Loc}
    (hk1 : (if k1 = k then some { B with tip := false } else σ.getB k1) = some B1) (hk2 : (if k2 = k then some { B with tip := false } else σ.getB k2) = some B2) (hne : k1 ≠ k2) (hL1 : μ k1 = some L1) (hL2 : μ k2 = some L2) (hb : L1.blk = L2.blk) :
    (k1 ∈ B2.anc ∧ B1.tip = false ∧ L1.sh + B1.cells.length ≤ L2.sh + B2.cells.length) ∨ (k2 ∈ B1.anc ∧ B2.tip = false ∧ L2.sh + B2.cells.length ≤ L1.sh + B1.cells.length) := by
  by_cases a1 : k1 = k
  · subst a1
    rw [if_pos rfl] at hk1; cases hk1
    rw [if_neg (fun e => hne e.symm)] at hk2
    rcases h.apart k1 k2 B B2 L1 L2 hB hk2 hne hL1 hL2 hb with ⟨_, b, _⟩ | ⟨a, b, c⟩
    · rw [ht] at b; cases b
    · exact .inr ⟨a, b, c⟩
  · rw [if_neg a1] at hk1
    by_cases a2 : k2 = k
    · subst a2
      rw [if_pos rfl] at hk2; cases hk2
      rcases h.apart k1 k2 B1 B L1 L2 hk1 hB hne hL1 hL2 hb with ⟨a, b, c⟩ | ⟨_, b, _⟩
      · exact .inl ⟨a, b, c⟩
      · rw [ht] at b; cases b
    · rw [if_neg a2] at hk2
      exact h.apart k1 k2 B1 B2 L1 L2 hk1 hk2 hne hL1 hL2 hb
theorem Rel.cont_in {μ : Mu} {σ : St} {w : World} (h : Rel μ σ w) {k : Nat} {B : Blk} {L : Loc} (hB : σ.getB k = some B) (hL : μ k = some L) (ht : B.tip = true) (hf : μ σ.size = none) (hlt : σ.size < 65536) (o : Nat) (ho : o ≤ B.cells.length)
    (cells : List Value) (hlen : B.cells.length ≤ o + cells.length) {c c' : Array Value} {e : TypeId} (hc : w.heap[L.blk]? = some (.cells c e (0, 0))) (hs : c'.size = c.size) (hin : L.sh + o + cells.length ≤ c.size)
    (hsame : ∀ i, i < L.sh + B.cells.length → c'[i]? = c[i]?) (hr : LRel μ cells ((c'.toList.drop (L.sh + o)).take cells.length)) :
    Rel (μ.add σ.size ⟨L.blk, L.sh + o, L.size, L.esz⟩) (σ.cont k B cells) (w.setRow L.blk c') ∧ Step μ (μ.add σ.size ⟨L.blk, L.sh + o, L.size, L.esz⟩) σ (σ.cont k B cells) w (w.setRow L.blk c') := by
  have hle := μ.le_add σ.size ⟨L.blk, L.sh + o, L.size, L.esz⟩ hf
  have hBr := h.blk k B L hB hL
  have hkn : k ≠ σ.size := fun e => by rw [e, hf] at hL; cases hL
  have hnew := setRow_heap w L.blk c c' e (0, 0) hc
  have hother : ∀ b, b ≠ L.blk → (w.setRow L.blk c').heap[b]? = w.heap[b]? := fun b hb => setRow_other w L.blk b c' hb
  have keep : ∀ (B' : Blk) (L' : Loc), BRel μ w B' L' → L'.blk = L.blk → L'.sh + B'.cells.length ≤ L.sh + B.cells.length → BRel (μ.add σ.size ⟨L.blk, L.sh + o, L.size, L.esz⟩) (w.setRow L.blk c') B' L' := by
    intro B' L' hB' hb hsh
    obtain ⟨c0, e0, g1, g2, g3, g4, g5⟩ := hB'
    rw [hb, hc] at g1
    cases g1
    refine ⟨c', e, by rw [hb]; exact hnew, by rw [hs]; exact g2, g3, by rw [hs]; exact g4, ?_⟩
    have : (c'.toList.drop L'.sh).take B'.cells.length = (c.toList.drop L'.sh).take B'.cells.length := by
      apply List.ext_getElem?
      intro i
      rw [List.getElem?_take, List.getElem?_take]
      split
      · rw [List.getElem?_drop, List.getElem?_drop, Array.getElem?_toList, Array.getElem?_toList]
        exact hsame _ (by omega)
      · rfl
    rw [this]
    exact g5.mono hle
  have g4 : L.sh + B.cells.length ≤ c.size ∧ c.size = L.size ∧ L.esz = B.esz := by
    obtain ⟨c0, e0, g1, g2, g3, g4, g5⟩ := hBr
    rw [hc] at g1
    cases g1
    exact ⟨g4, g2, g3⟩
  have hsize : (σ.cont k B cells).size = σ.size + 1 := by simp [St.cont, St.newS, St.setB]
  have hklt := h.wf k B hB
  have hcan : ∀ m, m < σ.size → m < (σ.cont k B cells).wr → (σ.cont k B cells).getB m = σ.getB m := fun m h1 h2 => by
    have : (σ.cont k B cells).wr = min σ.wr k := rfl
    rw [St.getB_cont σ k m B cells hB hlt, if_neg (by omega), if_neg (by omega)]
  refine ⟨⟨fun k' B' hk' => ?_, fun k' B' L' hk' hL' => ?_, fun k1 k2 B1 B2 L1 L2 hk1 hk2 hne hL1 hL2 hb => ?_⟩, ?_⟩
  · rw [St.getB_cont σ k k' B cells hB hlt] at hk'
    rw [hsize]
    by_cases e0 : k' = σ.size
    · omega
    · rw [if_neg e0] at hk'
      by_cases e1 : k' = k
      · omega
      · rw [if_neg e1] at hk'; have := h.wf k' B' hk'; omega
  · rw [St.getB_cont σ k k' B cells hB hlt] at hk'
    rcases Mu.add_cases hL' with ⟨rfl, rfl⟩ | ⟨hn, hL'⟩
    · rw [if_pos rfl] at hk'
      cases hk'
      exact ⟨c', e, hnew, by rw [hs]; exact g4.2.1, g4.2.2, by rw [hs]; exact hin, hr.mono hle⟩
    · rw [if_neg hn] at hk'
      by_cases e1 : k' = k
      · subst e1
        rw [if_pos rfl] at hk'
        cases hk'
        rw [hL] at hL'
        cases hL'
        exact keep { B with tip := false } L (by obtain ⟨c0, e0, g⟩ := hBr; exact ⟨c0, e0, g⟩) rfl (Nat.le_refl _)
      · rw [if_neg e1] at hk'
        by_cases e2 : L'.blk = L.blk
        · rcases h.apart k' k B' B L' L hk' hB e1 hL' hL e2 with ⟨_, _, a⟩ | ⟨_, b, _⟩
          · exact keep B' L' (h.blk k' B' L' hk' hL') e2 a
          · rw [ht] at b; cases b
        · exact (h.blk k' B' L' hk' hL').mono hle (hother _ e2)
  · rw [St.getB_cont σ k _ B cells hB hlt] at hk1 hk2
    have main : ∀ k2 B2 L2, (if k2 = k then some { B with tip := false } else σ.getB k2) = some B2 → μ k2 = some L2 → L2.blk = L.blk → k2 ∈ k :: B.anc ∧ B2.tip = false ∧ L2.sh + B2.cells.length ≤ L.sh + o + cells.length := by
      intro k2 B2 L2 h1 h3 h4
      by_cases e1 : k2 = k
      · subst e1
        rw [if_pos rfl] at h1; cases h1
        rw [hL] at h3; cases h3
        exact ⟨by simp, rfl, by simp; omega⟩
      · rw [if_neg e1] at h1
        rcases h.apart k2 k B2 B L2 L h1 hB e1 h3 hL h4 with ⟨a, b, c⟩ | ⟨_, b, _⟩
        · exact ⟨by simp [a], b, by omega⟩
        · rw [ht] at b; cases b
    rcases Mu.add_cases hL1 with ⟨rfl, rfl⟩ | ⟨n1, hL1⟩
    · rw [if_pos rfl] at hk1; cases hk1
      rcases Mu.add_cases hL2 with ⟨rfl, rfl⟩ | ⟨n2, hL2⟩
      · exact absurd rfl hne
      · rw [if_neg n2] at hk2
        exact .inr (main k2 B2 L2 hk2 hL2 hb.symm)
    · rw [if_neg n1] at hk1
      rcases Mu.add_cases hL2 with ⟨rfl, rfl⟩ | ⟨n2, hL2⟩
      · rw [if_pos rfl] at hk2; cases hk2
        exact .inl (main k1 B1 L1 hk1 hL1 hb)
      · rw [if_neg n2] at hk2
        exact cont_apart h hB ht hk1 hk2 hne hL1 hL2 hb
  · refine ⟨hle, fun k' L' hL' => ?_, ?_, ?_, by simp, by simp, by simp, by simp, fun b hb hf' => ?_, hcan⟩
    · rcases Mu.add_cases hL' with ⟨rfl, rfl⟩ | ⟨hn, hL'⟩
      · exact .inr ⟨Nat.le_refl _, by simp [St.cont, St.newS, St.setB], .inr ⟨k, L, hL, rfl, by simp only [St.cont]; omega, by rw [hsize]; omega⟩⟩
      · exact .inl hL'
    · simp [St.cont, St.newS, St.setB]
    · simp only [St.cont]; omega
    · refine hother b fun e => ?_
      subst e
      have h1 := hf' k L hL rfl
      rw [hsize] at h1
      have : (σ.cont k B cells).wr = min σ.wr k := rfl
      omega
theorem Rel.cont_new {μ : Mu} {σ : St} {w w1 : World} (h : Rel μ σ w) {k : Nat} {B : Blk} {L : Loc} (hB : σ.getB k = some B) (hL : μ k = some L) (ht : B.tip = true) (hf : μ σ.size = none) (hlt : σ.size < 65536)
    (cells : List Value) (c : Array Value) (e : TypeId) (hl : cells.length ≤ c.size) (hc : LRel μ cells (c.toList.take cells.length)) (hw : w1.heap = w.heap.push (.cells c e (0, 0))) (hos : w1.os = w.os) (htp : w1.tape = w.tape) (hp : w1.output = w.output) :
    Rel (μ.add σ.size ⟨w.heap.size, 0, c.size, B.esz⟩) (σ.cont k B cells) w1 ∧ Step μ (μ.add σ.size ⟨w.heap.size, 0, c.size, B.esz⟩) σ (σ.cont k B cells) w w1 := by
  have hle := μ.le_add σ.size ⟨w.heap.size, 0, c.size, B.esz⟩ hf
  have hBr := h.blk k B L hB hL
  have hold : ∀ b, b < w.heap.size → w1.heap[b]? = w.heap[b]? := fun b hb => by rw [hw, Array.getElem?_push, if_neg (by omega)]
  have old : ∀ k2 B2 L2, (if k2 = k then some { B with tip := false } else σ.getB k2) = some B2 → μ k2 = some L2 → BRel μ w B2 L2 := by
    intro k2 B2 L2 h1 h2
    by_cases e1 : k2 = k
    · subst e1
      rw [if_pos rfl] at h1; cases h1
      rw [hL] at h2; cases h2
      obtain ⟨c0, e0, g⟩ := hBr; exact ⟨c0, e0, g⟩
    · rw [if_neg e1] at h1
      exact h.blk k2 B2 L2 h1 h2
  have hsize : (σ.cont k B cells).size = σ.size + 1 := by simp [St.cont, St.newS, St.setB]
  have hklt := h.wf k B hB
  have hcan : ∀ m, m < σ.size → m < (σ.cont k B cells).wr → (σ.cont k B cells).getB m = σ.getB m := fun m h1 h2 => by
    have : (σ.cont k B cells).wr = min σ.wr k := rfl
    rw [St.getB_cont σ k m B cells hB hlt, if_neg (by omega), if_neg (by omega)]
  refine ⟨⟨fun k' B' hk' => ?_, fun k' B' L' hk' hL' => ?_, fun k1 k2 B1 B2 L1 L2 hk1 hk2 hne hL1 hL2 hb => ?_⟩, ?_⟩
  · rw [St.getB_cont σ k k' B cells hB hlt] at hk'
    rw [hsize]
    by_cases e0 : k' = σ.size
    · omega
    · rw [if_neg e0] at hk'
      by_cases e1 : k' = k
      · omega
      · rw [if_neg e1] at hk'; have := h.wf k' B' hk'; omega
  · rw [St.getB_cont σ k k' B cells hB hlt] at hk'
    rcases Mu.add_cases hL' with ⟨rfl, rfl⟩ | ⟨hn, hL'⟩
    · rw [if_pos rfl] at hk'
      cases hk'
      exact ⟨c, e, by rw [hw]; simp, rfl, rfl, by simpa using hl, by simpa using hc.mono hle⟩
    · rw [if_neg hn] at hk'
      have := old k' B' L' hk' hL'
      exact this.mono hle (hold _ this.lt)
  · rw [St.getB_cont σ k _ B cells hB hlt] at hk1 hk2
    rcases Mu.add_cases hL1 with ⟨rfl, rfl⟩ | ⟨n1, hL1⟩
    · rcases Mu.add_cases hL2 with ⟨rfl, rfl⟩ | ⟨n2, hL2⟩
      · exact absurd rfl hne
      · rw [if_neg n2] at hk2
        have := (old _ _ _ hk2 hL2).lt
        simp at hb; omega
    · rw [if_neg n1] at hk1
      rcases Mu.add_cases hL2 with ⟨rfl, rfl⟩ | ⟨n2, hL2⟩
      · have := (old _ _ _ hk1 hL1).lt
        simp at hb; omega
      · rw [if_neg n2] at hk2
        exact cont_apart h hB ht hk1 hk2 hne hL1 hL2 hb
  · refine ⟨hle, fun k' L' hL' => ?_, ?_, ?_, by rw [hw]; simp, hos, htp, hp, fun b hb hf' => hold b hb, hcan⟩
    · rcases Mu.add_cases hL' with ⟨rfl, rfl⟩ | ⟨hn, hL'⟩
      · exact .inr ⟨Nat.le_refl _, by simp [St.cont, St.newS, St.setB], .inl (Nat.le_refl _)⟩
      · exact .inl hL'
    · simp [St.cont, St.newS, St.setB]
    · simp only [St.cont]; omega
end Go.Proofs.YtcllgicphjmamaaGreat.ev
