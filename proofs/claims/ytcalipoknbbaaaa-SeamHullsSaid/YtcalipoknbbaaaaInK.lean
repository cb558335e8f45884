/- Arguments that lead into memory: hills, places, galleries, lists of them, lists of ints. -/
import Derived.Test.YtcalipoknbbaaaaBase
import Derived.Test.YtcalipoknbbaaaaLaw2
import Derived.OpenShut
import Derived.ProofKit
import Derived.Deep.Slices
import Derived.ChangeSlices
namespace Go.Proofs.Ytcalipoknbbaaaa
open Go.RowKit Go.ChangeShapes Go.WideShapes Go.Deep
set_option linter.unusedSimpArgs false
set_option linter.unusedVariables false

section
variable {H : Type} {enc : TypeId × Value → H} {P : Program} {w : World} {base : Nat} {sp : Nat → Bool} {hd : Bool}

/-- three ints -/
theorem three_gen {e : TypeId} {f0 f1 f2 : Field} (hu : P.underlying e = some (.struct #[f0, f1, f2])) (hu3 : P.underlying 3 = some (.int .i64)) (ce : P.cellsOf e = 3) (c3 : P.cellsOf 3 = 1)
    (t0 : f0.type = 3) (t1 : f1.type = 3) (t2 : f2.type = 3) (o0 : f0.offset = 0) (o1 : f1.offset = 1) (o2 : f2.offset = 2)
    {fuel : Nat} {cs : List Value} {x : DataW H × List MemPlace} (h : DataW.trod enc P w base sp hd fuel e cs = some x) : ∃ g : Gl, cs = [.int .i64 g.1, .int .i64 g.2.1, .int .i64 g.2.2] := by
  obtain ⟨xs, n, hk, hxy, hl, hxl, hf⟩ := DataW.trod_struct hu h
  rw [ce] at hl
  have g0 := hf 0 f0 rfl
  have g1 := hf 1 f1 rfl
  have g2 := hf 2 f2 rfl
  rw [t0, o0, c3] at g0
  rw [t1, o1, c3] at g1
  rw [t2, o2, c3] at g2
  match cs, hl, xs, hxl with
  | [a, b, c], _, [y0, y1, y2], _ =>
    obtain ⟨z0, e0, _, _⟩ := DataW.trod_int hu3 (show DataW.trod enc P w base sp hd n 3 [a] = some y0 from g0)
    obtain ⟨z1, e1, _, _⟩ := DataW.trod_int hu3 (show DataW.trod enc P w base sp hd n 3 [b] = some y1 from g1)
    obtain ⟨z2, e2, _, _⟩ := DataW.trod_int hu3 (show DataW.trod enc P w base sp hd n 3 [c] = some y2 from g2)
    injection e0 with e0 _
    injection e1 with e1 _
    injection e2 with e2 _
    subst e0; subst e1; subst e2
    exact ⟨(z0, z1, z2), rfl⟩
/-- two ints -/
theorem two_gen {e : TypeId} {f0 f1 : Field} (hu : P.underlying e = some (.struct #[f0, f1])) (hu3 : P.underlying 3 = some (.int .i64)) (ce : P.cellsOf e = 2) (c3 : P.cellsOf 3 = 1)
    (t0 : f0.type = 3) (t1 : f1.type = 3) (o0 : f0.offset = 0) (o1 : f1.offset = 1)
    {fuel : Nat} {cs : List Value} {x : DataW H × List MemPlace} (h : DataW.trod enc P w base sp hd fuel e cs = some x) : ∃ p : Pl, cs = [.int .i64 p.1, .int .i64 p.2] := by
  obtain ⟨xs, n, hk, hxy, hl, hxl, hf⟩ := DataW.trod_struct hu h
  rw [ce] at hl
  have g0 := hf 0 f0 rfl
  have g1 := hf 1 f1 rfl
  rw [t0, o0, c3] at g0
  rw [t1, o1, c3] at g1
  match cs, hl, xs, hxl with
  | [a, b], _, [y0, y1], _ =>
    obtain ⟨z0, e0, _, _⟩ := DataW.trod_int hu3 (show DataW.trod enc P w base sp hd n 3 [a] = some y0 from g0)
    obtain ⟨z1, e1, _, _⟩ := DataW.trod_int hu3 (show DataW.trod enc P w base sp hd n 3 [b] = some y1 from g1)
    injection e0 with e0 _
    injection e1 with e1 _
    subst e0; subst e1
    exact ⟨(z0, z1), rfl⟩

/-- an address one of whose cells is there -/
theorem addr_spot {a : Addr} {v : Value} (h : w.cell? a = some v) : a = ⟨a.block, a.off, none⟩ ∧ a.block < w.heap.size := by
  obtain ⟨b, o, s⟩ := a
  unfold World.cell? at h
  split at h
  · rename_i c e f hh
    cases s with
    | none => exact ⟨rfl, (Array.getElem?_eq_some_iff.1 hh).1⟩
    | some k => simp at h
  · cases h
theorem add_none (b o i : Nat) : (⟨b, o, none⟩ : Addr).add i = ⟨b, o + i, none⟩ := by
  unfold Addr.add
  split
  · rename_i h; subst h; rfl
  · rfl

/-- galleries that lie in memory -/
theorem gals_gen {t e : TypeId} (ht : P.underlying t = some (.slice e)) (ce : P.cellsOf e = 3)
    (hg : ∀ {fuel : Nat} {cs : List Value} {x : DataW H × List MemPlace}, DataW.trod enc P w 0 (fun _ => true) hd fuel e cs = some x → ∃ g : Gl, cs = [.int .i64 g.1, .int .i64 g.2.1, .int .i64 g.2.2])
    {fuel : Nat} {cs : List Value} {x : DataW H × List MemPlace} (h : DataW.trod enc P w 0 (fun _ => true) hd fuel t cs = some x) :
    ∃ q cap, ∃ gs : List Gl, cs = [.slice q gs.length cap] ∧ RowG w q gs ∧ (q = none → cap = 0) := by
  rcases open_slice ht h with ⟨rfl, _⟩ | ⟨a, len, cap, m, n, D, Pl, rfl, hb, hl, hm, hmm, _, hx⟩
  · exact ⟨none, 0, [], rfl, .inl rfl, fun _ => rfl⟩
  · rw [ce] at hx
    have hm' : m = cap := by rw [hmm]; rfl
    obtain ⟨f, hf⟩ := choose_lt (α := Gl) (n := len) (p := fun i g => w.cell? (a.add (i * 3)) = some (.int .i64 g.1) ∧ w.cell? ((a.add (i * 3)).add 1) = some (.int .i64 g.2.1) ∧ w.cell? ((a.add (i * 3)).add 2) = some (.int .i64 g.2.2)) (fun i hi => by
      obtain ⟨cs', h1, h2⟩ := hx i (by omega)
      obtain ⟨g, rfl⟩ := hg h2
      obtain ⟨_, _, hc⟩ := World.cells?_some h1
      have e0 := hc 0 (by omega)
      have e1 := hc 1 (by omega)
      have e2 := hc 2 (by omega)
      refine ⟨g, ?_, ?_, ?_⟩
      · simpa [Addr.add] using e0
      · simpa using e1
      · simpa using e2)
    refine ⟨some a, cap, (List.range len).map f, by simp, ?_, by simp⟩
    by_cases h0 : len = 0
    · subst h0; exact .inl rfl
    · obtain ⟨k0, _, _⟩ := hf 0 (by omega)
      have ha0 : a.add (0 * 3) = a := by simp [Addr.add]
      rw [ha0] at k0
      obtain ⟨hs, hz⟩ := addr_spot k0
      generalize a.block = b at *
      generalize a.off = o at *
      subst hs
      refine .inr ⟨b, o, rfl, hz, fun i hi => ?_⟩
      have hi' : i < len := by simpa using hi
      obtain ⟨k1, k2, k3⟩ := hf i hi'
      have eg : ((List.range len).map f).getD i (0, 0, 0) = f i := by simp [List.getD, hi']
      rw [eg]
      rw [add_none] at k1 k2 k3
      rw [add_none] at k2 k3
      exact ⟨k1, k2, k3⟩

theorem hill_gen {t : TypeId} {f0 f1 : Field} (hu : P.underlying t = some (.struct #[f0, f1])) (hu3 : P.underlying 3 = some (.int .i64)) (ct : P.cellsOf t = 2) (c3 : P.cellsOf 3 = 1) (c22 : P.cellsOf 22 = 1)
    (t0 : f0.type = 3) (t1 : f1.type = 22) (o0 : f0.offset = 0) (o1 : f1.offset = 1)
    (hg : ∀ {fuel : Nat} {cs : List Value} {x : DataW H × List MemPlace}, DataW.trod enc P w 0 (fun _ => true) hd fuel 22 cs = some x → ∃ q cap, ∃ gs : List Gl, cs = [.slice q gs.length cap] ∧ RowG w q gs ∧ (q = none → cap = 0))
    {r : Reach} {b0 : Nat} {v : Value} {d : DataW H} {ps : List MemPlace} (hv : Value.okWide P w r b0 t v) (h : DataW.Trod enc P w 0 (fun _ => true) hd t v d ps) :
    ∃ (n : Int) (q : Option Addr) (cap : Nat) (gs : List Gl), v = .agg #[.int .i64 n, .slice q gs.length cap] ∧ RowG w q gs ∧ (q = none → cap = 0) := by
  unfold Value.okWide at hv
  rw [hu] at hv
  obtain ⟨⟨cs⟩, rfl, hsz, _⟩ := hv
  obtain ⟨fuel, hf0⟩ := h
  obtain ⟨xs, n, hk, hxy, hl, hxl, hf⟩ := DataW.trod_struct hu hf0
  rw [ct] at hsz
  have g0 := hf 0 f0 rfl
  have g1 := hf 1 f1 rfl
  rw [t0, o0, c3] at g0
  rw [t1, o1, c22] at g1
  match cs, hsz, xs, hxl with
  | [a, b], _, [y0, y1], _ =>
    obtain ⟨z0, e0, _, _⟩ := DataW.trod_int hu3 (show DataW.trod enc P w 0 (fun _ => true) hd n 3 [a] = some y0 from g0)
    obtain ⟨q, cap, gs, e1, hr, hq⟩ := hg (show DataW.trod enc P w 0 (fun _ => true) hd n 22 [b] = some y1 from g1)
    injection e0 with e0 _
    injection e1 with e1 _
    subst e0; subst e1
    exact ⟨z0, q, cap, gs, rfl, hr, hq⟩
theorem agg2_gen {t : TypeId} {fs : Array Field} (hu : P.underlying t = some (.struct fs)) {r : Reach} {b0 : Nat} {v : Value} {d : DataW H} {ps : List MemPlace}
    (hg : ∀ {fuel : Nat} {cs : List Value} {x : DataW H × List MemPlace}, DataW.trod enc P w base sp hd fuel t cs = some x → ∃ p : Pl, cs = [.int .i64 p.1, .int .i64 p.2])
    (hv : Value.okWide P w r b0 t v) (h : DataW.Trod enc P w base sp hd t v d ps) : ∃ p : Pl, v = .agg #[.int .i64 p.1, .int .i64 p.2] := by
  unfold Value.okWide at hv
  rw [hu] at hv
  obtain ⟨⟨cs⟩, rfl, hsz, _⟩ := hv
  obtain ⟨fuel, hf0⟩ := h
  obtain ⟨p, e⟩ := hg hf0
  exact ⟨p, by have e' : cs = _ := e; rw [e']⟩
theorem agg3_gen {t : TypeId} {fs : Array Field} (hu : P.underlying t = some (.struct fs)) {r : Reach} {b0 : Nat} {v : Value} {d : DataW H} {ps : List MemPlace}
    (hg : ∀ {fuel : Nat} {cs : List Value} {x : DataW H × List MemPlace}, DataW.trod enc P w base sp hd fuel t cs = some x → ∃ g : Gl, cs = [.int .i64 g.1, .int .i64 g.2.1, .int .i64 g.2.2])
    (hv : Value.okWide P w r b0 t v) (h : DataW.Trod enc P w base sp hd t v d ps) : ∃ g : Gl, v = .agg #[.int .i64 g.1, .int .i64 g.2.1, .int .i64 g.2.2] := by
  unfold Value.okWide at hv
  rw [hu] at hv
  obtain ⟨⟨cs⟩, rfl, hsz, _⟩ := hv
  obtain ⟨fuel, hf0⟩ := h
  obtain ⟨p, e⟩ := hg hf0
  exact ⟨p, by have e' : cs = _ := e; rw [e']⟩
end
section
variable {H : Type} {enc : TypeId × Value → H} {w : World} {base : Nat} {sp : Nat → Bool} {hd : Bool}
theorem cells28 : Try.prog.cellsOf 28 = 3 := by kernel_rfl
theorem cells26 : Try.prog.cellsOf 26 = 2 := by kernel_rfl
theorem cells24 : Try.prog.cellsOf 24 = 2 := by kernel_rfl
theorem cells22 : Try.prog.cellsOf 22 = 1 := by kernel_rfl
theorem cells3i : Try.prog.cellsOf 3 = 1 := by kernel_rfl
set_option maxRecDepth 100000 in
theorem gal_cells {fuel : Nat} {cs : List Value} {x : DataW H × List MemPlace} (h : DataW.trod enc Try.prog w base sp hd fuel 28 cs = some x) : ∃ g : Gl, cs = [.int .i64 g.1, .int .i64 g.2.1, .int .i64 g.2.2] :=
  three_gen (P := Try.prog) Try.underlying28 under3 cells28 cells3i rfl rfl rfl rfl rfl rfl h
set_option maxRecDepth 100000 in
theorem place_cells {fuel : Nat} {cs : List Value} {x : DataW H × List MemPlace} (h : DataW.trod enc Try.prog w base sp hd fuel 26 cs = some x) : ∃ p : Pl, cs = [.int .i64 p.1, .int .i64 p.2] :=
  two_gen (P := Try.prog) Try.underlying26 under3 cells26 cells3i rfl rfl rfl rfl h
set_option maxRecDepth 100000 in
theorem gals_of {fuel : Nat} {cs : List Value} {x : DataW H × List MemPlace} (h : DataW.trod enc Try.prog w 0 (fun _ => true) hd fuel 22 cs = some x) :
    ∃ q cap, ∃ gs : List Gl, cs = [.slice q gs.length cap] ∧ RowG w q gs ∧ (q = none → cap = 0) := gals_gen (P := Try.prog) Try.underlying22 cells28 gal_cells h
set_option maxRecDepth 100000 in
theorem hill_of {r : Reach} {b0 : Nat} {v : Value} {d : DataW H} {ps : List MemPlace} (hv : Value.okWide Try.prog w r b0 24 v) (h : DataW.Trod enc Try.prog w 0 (fun _ => true) hd 24 v d ps) :
    ∃ (n : Int) (q : Option Addr) (cap : Nat) (gs : List Gl), v = .agg #[.int .i64 n, .slice q gs.length cap] ∧ RowG w q gs ∧ (q = none → cap = 0) :=
  hill_gen (P := Try.prog) Try.underlying24 under3 cells24 cells3i cells22 rfl rfl rfl rfl gals_of hv h
set_option maxRecDepth 100000 in
theorem place_of {r : Reach} {b0 : Nat} {v : Value} {d : DataW H} {ps : List MemPlace} (hv : Value.okWide Try.prog w r b0 26 v) (h : DataW.Trod enc Try.prog w base sp hd 26 v d ps) :
    ∃ p : Pl, v = .agg #[.int .i64 p.1, .int .i64 p.2] := agg2_gen (P := Try.prog) Try.underlying26 place_cells hv h
set_option maxRecDepth 100000 in
theorem gal_of {r : Reach} {b0 : Nat} {v : Value} {d : DataW H} {ps : List MemPlace} (hv : Value.okWide Try.prog w r b0 28 v) (h : DataW.Trod enc Try.prog w base sp hd 28 v d ps) :
    ∃ g : Gl, v = .agg #[.int .i64 g.1, .int .i64 g.2.1, .int .i64 g.2.2] := agg3_gen (P := Try.prog) Try.underlying28 gal_cells hv h
end
end Go.Proofs.Ytcalipoknbbaaaa
namespace Go.Proofs.Ytcalipoknbbaaaa
open Go.RowKit Go.ChangeShapes Go.WideShapes Go.Deep
set_option linter.unusedSimpArgs false
set_option linter.unusedVariables false

section
variable {H : Type} {enc : TypeId × Value → H} {P : Program} {w : World} {base : Nat} {sp : Nat → Bool} {hd : Bool}

theorem cells_slice {t e : TypeId} (hu : P.underlying t = some (.slice e)) {r : Reach} {b0 : Nat} {v : Value} (hv : Value.okWide P w r b0 t v) : v.cells.toList = [v] := by
  unfold Value.okWide at hv
  rw [hu] at hv
  unfold Cell.okWide at hv
  rw [hu] at hv
  cases v <;> first | rfl | (exfalso; simp [Cell.ok, hu] at hv)
theorem ints_gen {t : TypeId} (ht : P.underlying t = some (.slice 3)) (h3 : P.underlying 3 = some (.int .i64)) (c3 : P.cellsOf 3 = 1)
    {fuel : Nat} {cs : List Value} {x : DataW H × List MemPlace} (h : DataW.trod enc P w 0 (fun _ => true) hd fuel t cs = some x) :
    ∃ q cap, ∃ xs : List Int, cs = [.slice q xs.length cap] ∧ RowI w q xs ∧ (q = none → cap = 0) := by
  rcases open_ints ht h3 c3 h with ⟨rfl, _⟩ | ⟨a, len, cap, zs, rfl, hb, hl, hm, hzl, _, hc, _⟩
  · exact ⟨none, 0, [], rfl, .inl rfl, fun _ => rfl⟩
  · have hzl' : zs.length = cap := hzl
    have hlen : (zs.take len).length = len := by rw [List.length_take]; omega
    refine ⟨some a, cap, zs.take len, by rw [hlen], ?_, by simp⟩
    by_cases h0 : len = 0
    · subst h0; exact .inl (by simp)
    · have k0 := hc 0 (by omega)
      have ha0 : a.add 0 = a := by simp [Addr.add]
      rw [ha0] at k0
      obtain ⟨hs, hz⟩ := addr_spot k0
      generalize a.block = b at *
      generalize a.off = o at *
      subst hs
      refine .inr ⟨b, o, rfl, hz, fun i hi => ?_⟩
      rw [hlen] at hi
      have k1 := hc i (by omega)
      rw [add_none] at k1
      rw [k1]
      congr 2
      rw [getD_eq _ _ 0 (by omega), getD_eq _ _ 0 (by omega)]
      simp
theorem pls_gen {t e : TypeId} (ht : P.underlying t = some (.slice e)) (ce : P.cellsOf e = 2)
    (hg : ∀ {fuel : Nat} {cs : List Value} {x : DataW H × List MemPlace}, DataW.trod enc P w 0 (fun _ => true) hd fuel e cs = some x → ∃ p : Pl, cs = [.int .i64 p.1, .int .i64 p.2])
    {fuel : Nat} {cs : List Value} {x : DataW H × List MemPlace} (h : DataW.trod enc P w 0 (fun _ => true) hd fuel t cs = some x) :
    ∃ q cap, ∃ ps : List Pl, cs = [.slice q ps.length cap] ∧ RowP w q ps ∧ (q = none → cap = 0) := by
  rcases open_slice ht h with ⟨rfl, _⟩ | ⟨a, len, cap, m, n, D, Pl', rfl, hb, hl, hm, hmm, _, hx⟩
  · exact ⟨none, 0, [], rfl, .inl rfl, fun _ => rfl⟩
  · rw [ce] at hx
    have hm' : m = cap := by rw [hmm]; rfl
    obtain ⟨f, hf⟩ := choose_lt (α := Pl) (n := len) (p := fun i g => w.cell? (a.add (i * 2)) = some (.int .i64 g.1) ∧ w.cell? ((a.add (i * 2)).add 1) = some (.int .i64 g.2)) (fun i hi => by
      obtain ⟨cs', h1, h2⟩ := hx i (by omega)
      obtain ⟨g, rfl⟩ := hg h2
      obtain ⟨_, _, hc⟩ := World.cells?_some h1
      have e0 := hc 0 (by omega)
      have e1 := hc 1 (by omega)
      refine ⟨g, ?_, ?_⟩
      · simpa [Addr.add] using e0
      · simpa using e1)
    refine ⟨some a, cap, (List.range len).map f, by simp, ?_, by simp⟩
    by_cases h0 : len = 0
    · subst h0; exact .inl rfl
    · obtain ⟨k0, _⟩ := hf 0 (by omega)
      have ha0 : a.add (0 * 2) = a := by simp [Addr.add]
      rw [ha0] at k0
      obtain ⟨hs, hz⟩ := addr_spot k0
      generalize a.block = b at *
      generalize a.off = o at *
      subst hs
      refine .inr ⟨b, o, rfl, hz, fun i hi => ?_⟩
      have hi' : i < len := by simpa using hi
      obtain ⟨k1, k2⟩ := hf i hi'
      have eg : ((List.range len).map f).getD i (0, 0) = f i := by simp [List.getD, hi']
      rw [eg]
      rw [add_none] at k1 k2
      rw [add_none] at k2
      exact ⟨k1, k2⟩
end

section
variable {H : Type} {enc : TypeId × Value → H} {w : World} {hd : Bool}
set_option maxRecDepth 100000 in
theorem ints_of {r : Reach} {b0 : Nat} {v : Value} {d : DataW H} {ps : List MemPlace} (hv : Value.okWide Try.prog w r b0 57 v) (h : DataW.Trod enc Try.prog w 0 (fun _ => true) hd 57 v d ps) :
    ∃ q cap, ∃ xs : List Int, v = .slice q xs.length cap ∧ RowI w q xs ∧ (q = none → cap = 0) := by
  obtain ⟨fuel, hf⟩ := h
  obtain ⟨q, cap, xs, e, h2⟩ := ints_gen Try.underlying57 Try.underlying3 cells3i hf
  rw [cells_slice Try.underlying57 hv] at e
  injection e with e _
  exact ⟨q, cap, xs, e, h2⟩
set_option maxRecDepth 100000 in
theorem galls_of {r : Reach} {b0 : Nat} {v : Value} {d : DataW H} {ps : List MemPlace} (hv : Value.okWide Try.prog w r b0 22 v) (h : DataW.Trod enc Try.prog w 0 (fun _ => true) hd 22 v d ps) :
    ∃ q cap, ∃ gs : List Gl, v = .slice q gs.length cap ∧ RowG w q gs ∧ (q = none → cap = 0) := by
  obtain ⟨fuel, hf⟩ := h
  obtain ⟨q, cap, gs, e, h2⟩ := gals_of hf
  rw [cells_slice Try.underlying22 hv] at e
  injection e with e _
  exact ⟨q, cap, gs, e, h2⟩
set_option maxRecDepth 100000 in
theorem places_of {r : Reach} {b0 : Nat} {v : Value} {d : DataW H} {ps : List MemPlace} (hv : Value.okWide Try.prog w r b0 39 v) (h : DataW.Trod enc Try.prog w 0 (fun _ => true) hd 39 v d ps) :
    ∃ q cap, ∃ l : List Pl, v = .slice q l.length cap ∧ RowP w q l ∧ (q = none → cap = 0) := by
  obtain ⟨fuel, hf⟩ := h
  obtain ⟨q, cap, l, e, h2⟩ := pls_gen Try.underlying39 cells26 place_cells hf
  rw [cells_slice Try.underlying39 hv] at e
  injection e with e _
  exact ⟨q, cap, l, e, h2⟩
end
end Go.Proofs.Ytcalipoknbbaaaa
