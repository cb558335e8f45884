/- The reckoner's operations: structs, new rows, append, copy. -/
import Derived.Test.YtadamjleglckpaaQa6
import Derived.IntWalk
import Derived.Lib.AppendZeros

namespace Go.Proofs.Ytadamjleglckpaa.ev
noncomputable section
open Go.RowKit
set_option linter.unusedSimpArgs false
set_option linter.unusedVariables false
set_option linter.unusedSectionVars false

/-! filling -/
theorem lrel_fold {μ : Mu} (off : Nat) : ∀ {l l' : List Value}, LRel μ l l' → ∀ (j : Nat) {cs cs' : Array Value}, LRel μ cs.toList cs'.toList →
    LRel μ ((l.zipIdx j).foldl (fun (cs : Array Value) (p : Value × Nat) => cs.setIfInBounds (off + p.2) p.1) cs).toList ((l'.zipIdx j).foldl (fun (cs : Array Value) (p : Value × Nat) => cs.setIfInBounds (off + p.2) p.1) cs').toList
  | _, _, .nil, j, cs, cs', h => by simpa using h
  | _, _, .cons v v' l l' hv hl, j, cs, cs', h => by
    simp only [List.zipIdx_cons, List.foldl_cons]
    refine lrel_fold off hl (j + 1) ?_
    simpa [Array.toList_setIfInBounds] using h.set hv (off + j)
theorem fill_rel {μ : Mu} (place : Nat → Option (Nat × Nat)) (f f' : Operand → Value) : ∀ (ps : List (Nat × Operand)) (cs cs' r : Array Value), (∀ p ∈ ps, VRel μ (f p.2) (f' p.2)) → LRel μ cs.toList cs'.toList →
    Instr.fill place cs (ps.map fun p => (p.1, f p.2)) = some r → ∃ r', Instr.fill place cs' (ps.map fun p => (p.1, f' p.2)) = some r' ∧ LRel μ r.toList r'.toList
  | [], cs, cs', r, _, hc, h => by
    simp [Instr.fill] at h
    subst h
    exact ⟨cs', by simp [Instr.fill], hc⟩
  | (i, x) :: ps, cs, cs', r, hp, hc, h => by
    simp only [List.map_cons, Instr.fill] at h ⊢
    split at h
    · cases h
    · rename_i off size hpl
      split at h
      · cases h
      · rename_i hb
        have hx := cells_rel (hp (i, x) (by simp))
        have hxl := hx.length
        have hcl := hc.length
        simp only [Array.length_toList] at hxl hcl
        rw [if_neg (by rw [← hxl, ← hcl]; exact hb)]
        refine fill_rel place f f' ps _ _ r (fun p hpp => hp p (by simp [hpp])) ?_ h
        have := lrel_fold off hx 0 hc
        rw [← Array.foldl_toList, ← Array.foldl_toList, Array.toList_zipIdx, Array.toList_zipIdx]
        exact this
def oksP (ts : Ts) (ps : List (Nat × Operand)) : Bool := ps.all fun p => (evo ts p.2).isSome
def vof (ts : Ts) (x : Operand) : Value := (evo ts x).getD undef
theorem vof_rel {μ : Mu} {ts : Ts} {a : Act} (h : TRel μ ts a) {x : Operand} (hs : (evo ts x).isSome = true) : VRel μ (vof ts x) (a.eval x) := by
  obtain ⟨v, hv⟩ := Option.isSome_iff_exists.1 hs
  rw [vof, hv]
  exact evo_rel h hv
def buildV (P : Program) (ts : Ts) (t : TypeId) (ps : List (Nat × Operand)) : Option Value :=
  if oksP ts ps then
    match P.info? t with
    | some it => match it.zero with
      | some z => if flatL z.cells.toList then (P.built t (ps.map fun p => (p.1, vof ts p.2))).map .agg else none
      | none => none
    | none => none
  else none
theorem buildV_does {P : Program} {μ : Mu} {σ : St} {w : World} {ts : Ts} {a : Act} {o : Oper} {t : TypeId} {ps : Array (Nat × Operand)} {r : Value} (hT : TRel μ ts a) (hR : Rel μ σ w) (ho : o.op = .build t ps) (he : buildV P ts t ps.toList = some r) : Does P μ σ w a.eval o r σ := by
  unfold buildV at he
  split at he
  · rename_i hok
    split at he
    · rename_i it hit
      split at he
      · rename_i z hz
        split at he
        · rename_i hfl
          simp only [Option.map_eq_some_iff] at he
          obtain ⟨cells, hb, rfl⟩ := he
          have hp : ∀ p ∈ ps.toList, VRel μ (vof ts p.2) (a.eval p.2) := fun p hp => vof_rel hT (by simpa using List.all_eq_true.1 hok p hp)
          have key : ∃ c', P.built t (ps.toList.map fun p => (p.1, a.eval p.2)) = some c' ∧ LRel μ cells.toList c'.toList := by
            unfold Program.built at hb ⊢
            rw [hit] at hb ⊢
            cases hu : P.underlying t with
            | none => simp [hu] at hb
            | some d =>
              cases d <;> simp only [hu, hz] at hb ⊢ <;> try (cases hb; done)
              · rename_i n e
                cases hie : P.info? e with
                | none => simp [hie] at hb
                | some ie =>
                  simp only [hie] at hb ⊢
                  exact fill_rel _ _ _ _ _ _ _ hp (flatL_rel μ hfl) hb
              · rename_i fields
                cases hpl : fields.toList.mapM (fun f => (P.info? f.type).map fun i => (f.offset, i.size)) with
                | none => simp [hpl] at hb
                | some places =>
                  simp only [hpl] at hb ⊢
                  exact fill_rel _ _ _ _ _ _ _ hp (flatL_rel μ hfl) hb
          obtain ⟨c', h1, h2⟩ := key
          refine does_val (r' := .agg c') hR (by simpa using VRel.agg _ _ h2) ?_
          have := run_build (P := P) w t (ps.map fun p => (p.1, a.eval p.2)) c' (by simpa using h1)
          simp only [execOp, ho, Sem.run_bind]
          rw [show (ps.map fun (x : Nat × Operand) => match x with | (i, x) => (i, a.eval x)) = ps.map fun p => (p.1, a.eval p.2) from rfl, this]
          rfl
        · cases he
      · cases he
    · cases he
  · cases he
def zrow (z : Value) (n : Nat) : Array Value := (Array.range n).map ((if n = 0 then (#[] : Array Value) else z.cells)[· % (if n = 0 then (#[] : Array Value) else z.cells).size]!)
theorem run_buildSlice {P : Program} {w : World} {t e : TypeId} {i : TypeInfo} {z : Value} {n : Nat} {parts : Array (Nat × Value)} {c : Array Value} (hu : P.underlying t = some (.slice e)) (hi : P.info? e = some i) (hz : i.zero = some z) (hle : n * i.size ≤ 16777216)
    (hf : Instr.fill (fun j => some (j * i.size, i.size)) (zrow z (n * i.size)) parts.toList = some c) : (Instr.buildSlice t n parts).run P w = .ok (.slice (some ⟨w.heap.size, 0, none⟩) n n) (w.alloc (.cells c e)) := by
  have hle' : ¬ 2 ^ 24 < n * i.size := by omega
  by_cases h0 : n * i.size = 0
  · simp only [zrow, h0, if_true] at hf
    simp only [Instr.buildSlice, Sem.run_bind, run_underlying hu, Result.andThen_ok, sizeOf, typeInfo, run_program, hi, Sem.run_pure, Sem.run_ite, h0, if_true, gt_iff_lt, hf, newRow, run_newObj]
    simp [hf]
  · simp only [zrow, h0, if_false] at hf
    simp only [Instr.buildSlice, Sem.run_bind, run_underlying hu, Result.andThen_ok, sizeOf, typeInfo, run_program, hi, Sem.run_pure, Sem.run_ite, h0, if_false, zeroValue, hz, gt_iff_lt, hle', hf, newRow, run_newObj]
    rfl
def buildSliceV (P : Program) (σ : St) (ts : Ts) (t : TypeId) (n : Nat) (ps : List (Nat × Operand)) : Option (Value × St) :=
  if oksP ts ps then
    match P.underlying t with
    | some (.slice e) => match P.info? e with
      | some i => match i.zero with
        | some z =>
          if n * i.size ≤ 16777216 ∧ n < opn ∧ flatL (zrow z (n * i.size)).toList = true then
            match Instr.fill (fun j => some (j * i.size, i.size)) (zrow z (n * i.size)) (ps.map fun p => (p.1, vof ts p.2)) with
            | some cells => (newP σ cells.toList i.size).map fun p => (.slice (some ⟨p.1, 0, none⟩) n n, p.2)
            | none => none
          else none
        | none => none
      | none => none
    | _ => none
  else none
theorem buildSliceV_does {P : Program} {μ : Mu} {σ σ' : St} {w : World} {ts : Ts} {a : Act} {o : Oper} {t : TypeId} {n : Nat} {ps : Array (Nat × Operand)} {r : Value} (hT : TRel μ ts a) (hR : Rel μ σ w) (ho : o.op = .buildSlice t n ps) (he : buildSliceV P σ ts t n ps.toList = some (r, σ')) (hf : ∀ j, σ.size ≤ j → j < σ'.size → μ j = none) : Does P μ σ w a.eval o r σ' := by
  unfold buildSliceV at he
  split at he
  · rename_i hok
    split at he
    · rename_i e hu
      split at he
      · rename_i i hi
        split at he
        · rename_i z hz
          split at he
          · rename_i hc
            obtain ⟨hc1, hc2, hc3⟩ := hc
            split at he
            · rename_i cells hfill
              simp only [Option.map_eq_some_iff, Prod.exists, Prod.mk.injEq] at he
              obtain ⟨k, s, hn, rfl, rfl⟩ := he
              have hp : ∀ p ∈ ps.toList, VRel μ (vof ts p.2) (a.eval p.2) := fun p hp => vof_rel hT (by simpa using List.all_eq_true.1 hok p hp)
              obtain ⟨c', h1, h2⟩ := fill_rel (fun j => some (j * i.size, i.size)) (vof ts) a.eval ps.toList _ _ _ hp (flatL_rel μ hc3) hfill
              have hl := h2.length
              obtain ⟨rfl, g1, g2⟩ := newP_does (P := P) (w1 := w.alloc (.cells c' e)) hR hn hf e (c := c') (by rw [hl]; simp) (by rw [hl, List.take_length]; exact h2) rfl rfl rfl rfl
              refine ⟨_, .slice (some ⟨w.heap.size, 0, none⟩) n n, w.alloc (.cells c' e), _, ?_, .inl rfl, ?_, g1, g2⟩
              · have := run_buildSlice (P := P) (w := w) (parts := ps.map fun p => (p.1, a.eval p.2)) hu hi hz hc1 (by simpa using h1)
                simp only [execOp, ho, Sem.run_bind]
                rw [show (ps.map fun (x : Nat × Operand) => match x with | (i, x) => (i, a.eval x)) = ps.map fun p => (p.1, a.eval p.2) from rfl, this]
                rfl
              · have := VRel.slc (μ := μ.add σ.size ⟨w.heap.size, 0, c'.size, i.size⟩) σ.size 0 n n ⟨w.heap.size, 0, c'.size, i.size⟩ (Mu.add_self _ _ _) hc2
                simpa using this
            · cases he
          · cases he
        · cases he
      · cases he
    · cases he
  · cases he
/-! make -/
def makeSliceV (P : Program) (σ : St) (t : TypeId) (l c : Value) : Option (Value × St) :=
  match l, c with
  | .int _ l, .int _ c =>
    match P.underlying t with
    | some (.slice e) => match P.info? e with
      | some i => match i.zero with
        | some z =>
          if 0 ≤ l ∧ l ≤ c ∧ c ≤ 1000000 ∧ i.bytes ≤ 1000000 ∧ flatL (zrow z (c.toNat * i.size)).toList = true then
            (newP σ (zrow z (c.toNat * i.size)).toList i.size).map fun p => (.slice (some ⟨p.1, 0, none⟩) l.toNat c.toNat, p.2)
          else none
        | none => none
      | none => none
    | _ => none
  | _, _ => none
theorem i64_small {c : Int} (h0 : 0 ≤ c) (h1 : c ≤ 1000000) : IntKind.i64.wrap c = c := IntWalk.i64_in _ (by omega)
theorem run_makeSlice {P : Program} {w : World} {t e : TypeId} {i : TypeInfo} {z : Value} {k k' : IntKind} {l c : Int} (hu : P.underlying t = some (.slice e)) (hi : P.info? e = some i) (hz : i.zero = some z) (h0 : 0 ≤ l) (h1 : l ≤ c) (h2 : c ≤ 1000000) (h3 : i.bytes ≤ 1000000) :
    (Instr.makeSlice t (.int k l) (.int k' c)).run P w = .ok (.slice (some ⟨w.heap.size, 0, none⟩) l.toNat c.toNat) (w.alloc (.cells (zrow z (c.toNat * i.size)) e)) := by
  have w1 := i64_small h0 (by omega : l ≤ 1000000)
  have w2 := i64_small (by omega : 0 ≤ c) h2
  have hm : (i.bytes : Int) * c ≤ 1000000 * 1000000 := by
    refine Int.le_trans (Int.mul_le_mul_of_nonneg_right (by omega : (i.bytes : Int) ≤ 1000000) (by omega)) (Int.mul_le_mul_of_nonneg_left h2 (by omega))
  have b1 : ¬ c < 0 := by omega
  have b2 : ¬ (2 ^ 48 < (i.bytes : Int) * c) := by omega
  have b3 : ¬ l < 0 := by omega
  have b4 : ¬ c < l := by omega
  by_cases hn : c.toNat * i.size = 0
  · simp [Instr.makeSlice, run_underlying hu, asInt, asIntOf, typeInfo, hi, w1, w2, b1, b2, b3, b4, sizeOf, hn, newRow, zrow]
    intro hx; omega
  · simp [Instr.makeSlice, run_underlying hu, asInt, asIntOf, typeInfo, hi, w1, w2, b1, b2, b3, b4, sizeOf, hn, newRow, zrow, zeroValue, hz]
    intro hx; omega
theorem makeSliceV_does {P : Program} {μ : Mu} {σ σ' : St} {w : World} {ρ : Operand → Value} {o : Oper} {t : TypeId} {x y : Operand} {u v r : Value} (hR : Rel μ σ w) (ho : o.op = .makeSlice t x y) (hu : VRel μ u (ρ x)) (hv : VRel μ v (ρ y)) (he : makeSliceV P σ t u v = some (r, σ')) (hf : ∀ j, σ.size ≤ j → j < σ'.size → μ j = none) : Does P μ σ w ρ o r σ' := by
  unfold makeSliceV at he
  split at he
  · rename_i k l k' c
    split at he
    · rename_i e hut
      split at he
      · rename_i i hi
        split at he
        · rename_i z hz
          split at he
          · rename_i hc
            obtain ⟨c1, c2, c3, c4, c5⟩ := hc
            simp only [Option.map_eq_some_iff, Prod.exists, Prod.mk.injEq] at he
            obtain ⟨kk, s, hn, rfl, rfl⟩ := he
            obtain ⟨rfl, g1, g2⟩ := newP_does (P := P) (w1 := w.alloc (.cells (zrow z (c.toNat * i.size)) e)) hR hn hf e (c := zrow z (c.toNat * i.size)) (by simp) (by rw [show (zrow z (c.toNat * i.size)).toList.length = (zrow z (c.toNat * i.size)).size by simp, List.take_of_length_le (by simp)]; exact flatL_rel μ c5) rfl rfl rfl rfl
            refine ⟨_, .slice (some ⟨w.heap.size, 0, none⟩) l.toNat c.toNat, w.alloc (.cells (zrow z (c.toNat * i.size)) e), _, ?_, .inl rfl, ?_, g1, g2⟩
            · rw [show execOp ρ o = (do pure (.value (← Instr.makeSlice t (ρ x) (ρ y)))) by simp [execOp, ho], int_inv hu, int_inv hv]
              simp only [Sem.run_bind, run_makeSlice (P := P) (w := w) hut hi hz c1 c2 c3 c4]
              rfl
            · have := VRel.slc (μ := μ.add σ.size ⟨w.heap.size, 0, (zrow z (c.toNat * i.size)).size, i.size⟩) σ.size 0 l.toNat c.toNat ⟨w.heap.size, 0, (zrow z (c.toNat * i.size)).size, i.size⟩ (Mu.add_self _ _ _) (by unfold opn; omega)
              simpa using this
          · cases he
        · cases he
      · cases he
    · cases he
  · cases he

/-! parts of values -/
def partV (P : Program) (t : TypeId) (cs : Array Value) (off : Nat) : Option Value :=
  match P.underlying t, P.info? t with
  | some d, some i => if d.isRow then some (.agg (cs.extract off (off + i.size))) else cs[off]?
  | _, _ => none
theorem partV_does {P : Program} {μ : Mu} {w : World} {t : TypeId} {cs cs' : Array Value} {off : Nat} {r : Value} (h : LRel μ cs.toList cs'.toList) (he : partV P t cs off = some r) : ∃ r', (part t cs' off).run P w = .ok r' w ∧ VRel μ r r' := by
  unfold partV at he
  split at he
  · rename_i d i hd hi
    have hagg : (isAgg t).run P w = .ok d.isRow w := by
      unfold isAgg
      rw [Sem.run_bind, run_underlying hd w]
      cases d <;> simp [TypeDesc.isRow]
    split at he
    · rename_i hrow
      simp only [Option.some.injEq] at he
      subst he
      refine ⟨.agg (cs'.extract off (off + i.size)), by simp [part, hagg, hrow, sizeOf, typeInfo, hi], ?_⟩
      have e : ∀ c : Array Value, c.extract off (off + i.size) = ((c.toList.take (off + i.size)).drop off).toArray := fun c => by
        apply Array.ext'
        apply List.ext_getElem?
        intro j
        simp only [Array.getElem?_toList, Array.getElem?_extract, List.toList_toArray, List.getElem?_drop, List.getElem?_take]
        by_cases hj : j < min (off + i.size) c.size - off
        · rw [if_pos hj, if_pos (by omega)]
        · rw [if_neg hj]
          by_cases hk : off + j < off + i.size
          · rw [if_pos hk, Array.getElem?_eq_none (by omega)]
          · rw [if_neg hk]
      rw [e, e]
      exact .agg _ _ ((h.take _).drop _)
    · rename_i hrow
      obtain ⟨r', h1, h2⟩ := h.get off r (by simpa using he)
      refine ⟨r', ?_, h2⟩
      have h1' : cs'[off]? = some r' := by simpa using h1
      simp [part, hagg, hrow, h1']
  · cases he
theorem agg_inv {μ : Mu} {cs : Array Value} {v' : Value} (h : VRel μ (.agg cs) v') : ∃ cs', v' = .agg cs' ∧ LRel μ cs.toList cs'.toList := by
  cases h with
  | sc v h => simp [scalar] at h
  | agg l l' h => exact ⟨_, rfl, by simpa using h⟩
theorem tuple_inv {μ : Mu} {cs : Array Value} {v' : Value} (h : VRel μ (.tuple cs) v') : ∃ cs', v' = .tuple cs' ∧ LRel μ cs.toList cs'.toList := by
  cases h with
  | sc v h => simp [scalar] at h
  | tuple l l' h => exact ⟨_, rfl, by simpa using h⟩
theorem iface_inv {μ : Mu} {t : TypeId} {v v' : Value} (h : VRel μ (.iface t v) v') : ∃ u, v' = .iface t u ∧ VRel μ v u := by
  cases h with
  | sc v h => simp [scalar] at h
  | iface t v v' h => exact ⟨_, rfl, h⟩
theorem func_inv {μ : Mu} {g : FuncId} {a c : Array Value} {v' : Value} (h : VRel μ (.func (.func g) a c) v') : ∃ a' c', v' = .func (.func g) a' c' ∧ LRel μ a.toList a'.toList ∧ LRel μ c.toList c'.toList := by
  cases h with
  | sc v h => simp [scalar] at h
  | fn g l l' c c' h hc => exact ⟨_, _, rfl, by simpa using h, by simpa using hc⟩
def fieldV (P : Program) (t : TypeId) (v : Value) (f : Nat) : Option Value :=
  match P.underlying t, v with
  | some (.struct fs), .agg cs => match fs[f]? with
    | some fd => partV P fd.type cs fd.offset
    | none => none
  | _, _ => none
theorem fieldV_does {P : Program} {μ : Mu} {σ : St} {w : World} {ρ : Operand → Value} {o : Oper} {t : TypeId} {x : Operand} {f : Nat} {v r : Value} (hR : Rel μ σ w) (ho : o.op = .field t x f) (hv : VRel μ v (ρ x)) (he : fieldV P t v f = some r) : Does P μ σ w ρ o r σ := by
  unfold fieldV at he
  split at he
  · rename_i fs cs hu
    split at he
    · rename_i fd hfd
      obtain ⟨cs', hx, hl⟩ := agg_inv hv
      obtain ⟨r', h1, h2⟩ := partV_does (w := w) hl he
      refine does_val hR h2 ?_
      simp [execOp, ho, Instr.field, run_underlying hu, hfd, hx, asAgg, h1]
    · cases he
  · cases he
def indexV (P : Program) (t : TypeId) (v ix : Value) : Option Value :=
  match P.underlying t, v, ix with
  | some (.array n e), .agg cs, .int _ i => match P.info? e with
    | some inf => if 0 ≤ i ∧ i < n then partV P e cs (i.toNat * inf.size) else none
    | none => none
  | _, _, _ => none
theorem indexV_does {P : Program} {μ : Mu} {σ : St} {w : World} {ρ : Operand → Value} {o : Oper} {t : TypeId} {x y : Operand} {v u r : Value} (hR : Rel μ σ w) (ho : o.op = .index t x y) (hv : VRel μ v (ρ x)) (hu : VRel μ u (ρ y)) (he : indexV P t v u = some r) : Does P μ σ w ρ o r σ := by
  unfold indexV at he
  split at he
  · rename_i n e cs k i hut
    split at he
    · rename_i inf hi
      split at he
      · rename_i hb
        obtain ⟨cs', hx, hl⟩ := agg_inv hv
        obtain ⟨r', h1, h2⟩ := partV_does (w := w) hl he
        refine does_val hR h2 ?_
        simp [execOp, ho, Instr.index, run_underlying hut, hx, int_inv hu, asIntOf, hb, sizeOf, typeInfo, hi, h1]
      · cases he
    · cases he
  · cases he
def extractV (v : Value) (ix : Nat) : Option Value :=
  match v with
  | .tuple vs => vs[ix]?
  | _ => none
theorem extractV_does {P : Program} {μ : Mu} {σ : St} {w : World} {ρ : Operand → Value} {o : Oper} {x : Operand} {ix : Nat} {v r : Value} (hR : Rel μ σ w) (ho : o.op = .extract x ix) (hv : VRel μ v (ρ x)) (he : extractV v ix = some r) : Does P μ σ w ρ o r σ := by
  unfold extractV at he
  split at he
  · rename_i vs
    obtain ⟨cs', hx, hl⟩ := tuple_inv hv
    obtain ⟨r', h1, h2⟩ := hl.get ix r (by simpa using he)
    refine does_val hR h2 ?_
    have h1' : cs'[ix]? = some r' := by simpa using h1
    simp [execOp, ho, Instr.extract, hx, h1']
  · cases he
def makeIfaceV (P : Program) (t : TypeId) (v : Value) : Option Value :=
  match P.underlying t with
  | some (.interface _) => none
  | some _ => some (.iface t v)
  | none => none
theorem makeIfaceV_does {P : Program} {μ : Mu} {σ : St} {w : World} {ρ : Operand → Value} {o : Oper} {t : TypeId} {x : Operand} {v r : Value} (hR : Rel μ σ w) (ho : o.op = .makeInterface t x) (hv : VRel μ v (ρ x)) (he : makeIfaceV P t v = some r) : Does P μ σ w ρ o r σ := by
  unfold makeIfaceV at he
  split at he
  · cases he
  · rename_i d hnd hd
    simp only [Option.some.injEq] at he
    subst he
    refine does_val hR (.iface t v (ρ x) hv) ?_
    simp only [execOp, ho, Instr.makeInterface, Sem.run_bind, run_underlying hd, Result.andThen_ok]
    cases d <;> first | rfl | exact absurd rfl (hnd _)
  · cases he
def oksL (ts : Ts) (l : List Operand) : Bool := l.all fun x => (evo ts x).isSome
theorem oksL_rel {μ : Mu} {ts : Ts} {a : Act} (h : TRel μ ts a) (l : List Operand) (hs : oksL ts l = true) : LRel μ (l.map (vof ts)) (l.map a.eval) :=
  LRel.map l fun x hx => vof_rel h (by simpa using List.all_eq_true.1 hs x hx)
def makeFuncV (ts : Ts) (f : Fn) (first captured : List Operand) : Option Value :=
  match f with
  | .func g => if oksL ts first && oksL ts captured then some (.func (.func g) (first.map (vof ts)).toArray (captured.map (vof ts)).toArray) else none
  | _ => none
theorem makeFuncV_does {P : Program} {μ : Mu} {σ : St} {w : World} {ts : Ts} {a : Act} {o : Oper} {f : Fn} {first captured : Array Operand} {r : Value} (hT : TRel μ ts a) (hR : Rel μ σ w) (ho : o.op = .makeFunc f first captured) (he : makeFuncV ts f first.toList captured.toList = some r) : Does P μ σ w a.eval o r σ := by
  unfold makeFuncV at he
  split at he
  · rename_i g
    split at he
    · rename_i hok
      simp only [Bool.and_eq_true] at hok
      simp only [Option.some.injEq] at he
      subst he
      refine does_val hR (.fn g _ _ _ _ (oksL_rel hT _ hok.1) (oksL_rel hT _ hok.2)) ?_
      simp [execOp, ho, Instr.makeFunc]
      constructor <;> (apply Array.ext'; simp)
    · cases he
  · cases he
def nilCheckV (v : Value) : Option Value :=
  match v with
  | .pointer (some ⟨k, o, none⟩) => some (.pointer (some ⟨k, o, none⟩))
  | .func (.func g) a c => some (.func (.func g) a c)
  | _ => none
theorem nilCheckV_does {P : Program} {μ : Mu} {σ : St} {w : World} {ρ : Operand → Value} {o : Oper} {x : Operand} {v r : Value} (hR : Rel μ σ w) (ho : o.op = .nilCheck x) (hv : VRel μ v (ρ x)) (he : nilCheckV v = some r) : Does P μ σ w ρ o r σ := by
  unfold nilCheckV at he
  split at he
  · rename_i k off
    simp only [Option.some.injEq] at he
    subst he
    obtain ⟨L, hL, hx⟩ := ptr_inv hv
    refine does_val hR hv ?_
    simp [execOp, ho, hx]
  · rename_i g ar c
    simp only [Option.some.injEq] at he
    subst he
    obtain ⟨a', c', hx, _, _⟩ := func_inv hv
    refine does_val hR hv ?_
    simp [execOp, ho, hx]
  · cases he
/-- compared with nil -/
def nilEqV (P : Program) (op : BinOp) (t : TypeId) (x y : Value) : Option Value :=
  match P.underlying t, x, y, op with
  | some (.slice _), .slice q _ _, .slice none 0 0, .eql => some (.bool q.isNone)
  | some (.slice _), .slice q _ _, .slice none 0 0, .neq => some (.bool (!q.isNone))
  | _, _, _, _ => none
theorem slice_nil {μ : Mu} {q : Option Addr} {n c : Nat} {v' : Value} (h : VRel μ (.slice q n c) v') : ∃ q' n' c', v' = .slice q' n' c' ∧ q'.isNone = q.isNone := by
  cases h <;> exact ⟨_, _, _, rfl, rfl⟩
theorem run_eq_nil {P : Program} {w : World} {t e : TypeId} (hu : P.underlying t = some (.slice e)) (q : Option Addr) (n c : Nat) : (Op.equal t (.slice q n c) (.slice none 0 0)).run P w = .ok q.isNone w := by
  unfold Op.equal Op.maxDepth
  rw [show (10000 : Nat) = 9999 + 1 from rfl, Op.equalIn]
  simp only [Sem.run_bind, run_underlying hu, Result.andThen_ok]
  cases q <;> rfl
theorem nilEqV_does {P : Program} {μ : Mu} {σ : St} {w : World} {ρ : Operand → Value} {o : Oper} {op : BinOp} {t t' : TypeId} {x y : Operand} {v u r : Value} (hR : Rel μ σ w) (ho : o.op = .binOp op t x y t') (hv : VRel μ v (ρ x)) (hu : VRel μ u (ρ y)) (he : nilEqV P op t v u = some r) : Does P μ σ w ρ o r σ := by
  unfold nilEqV at he
  split at he
  · rename_i e q n c hut
    simp only [Option.some.injEq] at he
    subst he
    obtain ⟨q', n', c', hx, hq⟩ := slice_nil hv
    have hy : ρ y = .slice none 0 0 := scalar_eq (by rfl) hu
    refine does_val hR (.sc _ rfl) ?_
    simp only [execOp, ho, hx, hy, Sem.run_bind, eqGuard_at_slice, binOp, run_eq_nil hut, Sem.run_pure, Result.andThen_ok, hq]
  · rename_i e q n c hut
    simp only [Option.some.injEq] at he
    subst he
    obtain ⟨q', n', c', hx, hq⟩ := slice_nil hv
    have hy : ρ y = .slice none 0 0 := scalar_eq (by rfl) hu
    refine does_val hR (.sc _ rfl) ?_
    simp only [execOp, ho, hx, hy, Sem.run_bind, eqGuard_at_slice, binOp, run_eq_nil hut, Sem.run_pure, Result.andThen_ok, hq]
  · cases he
end
end Go.Proofs.Ytadamjleglckpaa.ev

/- The reckoner's append, copy, len. -/
namespace Go.Proofs.Ytadamjleglckpaa.ev
noncomputable section
open Go.RowKit
set_option linter.unusedSimpArgs false
set_option linter.unusedVariables false
set_option linter.unusedSectionVars false

theorem exec_builtin {ρ : Operand → Value} {o : Oper} {c : Call} {b : Builtin} (ho : o.op = .call c) (hc : c.callee = .builtin b) : ∃ cs, execOp ρ o = builtin b c.argTypes o.type cs (c.args.map ρ) := by
  have h : execOp ρ o = (do let d ← resolve ρ c o.type; invoke d.target d.args) := by simp only [execOp, ho]
  rw [h]
  unfold resolve
  rw [hc]
  exact ⟨_, rfl⟩
/-- the first n elements of a slice -/
def rowOf (σ : St) (x : Value) (size n : Nat) : Option (List Value) :=
  if n = 0 then some [] else
  match x with
  | .slice (some ⟨k, o, none⟩) m _ => if n ≤ m then match σ.getB k with
      | some B => if o + n * size ≤ B.cells.length then some ((B.cells.drop o).take (n * size)) else none
      | none => none
    else none
  | _ => none
theorem rowOf_rel {μ : Mu} {σ : St} {w : World} {x x' : Value} {size n : Nat} {xs : List Value} (hR : Rel μ σ w) (hx : VRel μ x x') (h : rowOf σ x size n = some xs) :
    ∃ xs', xs'.length = n * size ∧ LRel μ xs xs' ∧ xs.length = n * size ∧ (0 < n → ∃ b o m c, x' = .slice (some ⟨b, o, none⟩) m c ∧ w.rangeAt b o xs') := by
  unfold rowOf at h
  split at h
  · rename_i h0
    simp only [Option.some.injEq] at h
    subst h
    exact ⟨[], by simp [h0], .nil, by simp [h0], fun hp => by omega⟩
  · rename_i h0
    split at h
    · rename_i k o m c
      split at h
      · rename_i hnm
        split at h
        · rename_i B hB
          split at h
          · rename_i hlen
            simp only [Option.some.injEq] at h
            subst h
            obtain ⟨L, hL, hxx⟩ := slc_inv hx
            obtain ⟨xs', h1, h2, h3⟩ := (hR.blk k B L hB hL).range o (n * size) hlen
            refine ⟨xs', h1, h2, by simp; omega, fun hp => ?_⟩
            rcases hxx with ⟨_, hxx⟩ | ⟨_, c', _, _, hxx⟩ | ⟨_, hm, _⟩
            · exact ⟨_, _, _, _, hxx, h3⟩
            · exact ⟨_, _, _, _, hxx, h3⟩
            · omega
          · cases h
        · cases h
      · cases h
    · cases h
theorem run_append_zero {P : Program} {w : World} {t ty e : TypeId} {i : TypeInfo} (ht : P.underlying t = some (.slice e)) (hi : P.info? e = some i) (q xq : Option Addr) (l c xc : Nat) (hl : l ≤ c) :
    (Builtin.append_ #[t, t] ty #[.slice q l c, .slice xq 0 xc]).run P w = .ok (.slice q l c) w := by
  have hf : ∀ size, (Builtin.firstCells size 0 (.slice xq 0 xc)).run P w = .ok #[] w := fun size => by
    cases xq with
    | none => simp [Builtin.firstCells]
    | some a => simp [Builtin.firstCells, loadCells, loadCellsFrom]
  cases q with
  | none => simp [Builtin.append_, run_underlying ht, sizeOf, typeInfo, hi, Builtin.lenOf, hl, hf]
  | some a => simp [Builtin.append_, run_underlying ht, sizeOf, typeInfo, hi, Builtin.lenOf, hl, hf, storeCells]
theorem run_append_in {P : Program} {w w' : World} {t ty e : TypeId} {i : TypeInfo} (ht : P.underlying t = some (.slice e)) (hi : P.info? e = some i) (b o l c : Nat) (a : Addr) (n xc : Nat) (news : List Value) (hl : news.length = n * i.size) (hnews : ∀ j u, news[j]? = some u → w.cell? (a.add j) = some u)
    (hroom : l + n ≤ c) (hst : (storeCells ⟨b, o + l * i.size, none⟩ news).run P w = .ok () w') :
    (Builtin.append_ #[t, t] ty #[.slice (some ⟨b, o, none⟩) l c, .slice (some a) n xc]).run P w = .ok (.slice (some ⟨b, o, none⟩) (l + n) c) w' := by
  have hf := run_firstCells_some (P := P) w i.size n a n xc news hl hnews
  simp [Builtin.append_, run_underlying ht, sizeOf, typeInfo, hi, Builtin.lenOf, hroom, hf, Addr.add_lit, hst]
def appendV (P : Program) (σ : St) (t : TypeId) (s x : Value) : Option (Value × St) :=
  match P.underlying t with
  | some (.slice e) => match P.info? e with
    | some i => match i.zero with
      | some z => match s, x with
        | .slice q l c, .slice xq n xc =>
          if z.cells.size = i.size ∧ 0 < i.size ∧ i.bytes ≤ 1000000 ∧ l + n ≤ 1000000 then
            if n = 0 then (if c = opn ∨ l ≤ c then some (.slice q l c, σ) else none)
            else match rowOf σ (.slice xq n xc) i.size n with
              | none => none
              | some xs => match q with
                | none => if l = 0 ∧ c = 0 then (newP σ xs i.size).map fun p => (.slice (some ⟨p.1, 0, none⟩) n opn, p.2) else none
                | some ⟨k, o, none⟩ =>
                  if c < opn then
                    if l + n ≤ c then match σ.getB k with
                      | some B => if B.tip = true ∧ o + l * i.size + xs.length ≤ B.cells.length ∧ xs.all (·.oneCell') = true then
                          forceL (B.cells.take (o + l * i.size) ++ xs ++ B.cells.drop (o + l * i.size + xs.length)) fun cs => some (.slice (some ⟨k, o, none⟩) (l + n) c, σ.write k B cs) else none
                      | none => none
                    else match rowOf σ (.slice (some ⟨k, o, none⟩) l c) i.size l with
                      | some olds => (newP σ (olds ++ xs) i.size).map fun p => (.slice (some ⟨p.1, 0, none⟩) (l + n) opn, p.2)
                      | none => none
                  else if c = opn then match σ.getB k with
                    | some B => if B.tip = true ∧ B.esz = i.size ∧ xs.all (·.oneCell') = true then
                        if o + l * i.size = B.cells.length then
                          (if σ.size < 65536 then forceL (B.cells.drop o ++ xs) fun cs => some (.slice (some ⟨σ.size, 0, none⟩) (l + n) opn, σ.cont k B cs) else none)
                        else if o + l * i.size + xs.length ≤ B.cells.length then
                          forceL (B.cells.take (o + l * i.size) ++ xs ++ B.cells.drop (o + l * i.size + xs.length)) fun cs => some (.slice (some ⟨k, o, none⟩) (l + n) opn, σ.write k B cs)
                        else none
                      else none
                    | none => none
                  else none
                | _ => none
          else none
        | _, _ => none
      | none => none
    | none => none
  | _ => none
/-- what append does, as a run -/
def DoesV (P : Program) (μ : Mu) (σ : St) (w : World) (s : Sem Value) (r : Value) (σ' : St) : Prop :=
  ∃ μ' r' w', s.run P w = .ok r' w' ∧ VRel μ' r r' ∧ Rel μ' σ' w' ∧ Step μ μ' σ σ' w w'
theorem rel_row {μ : Mu} {xs xs' zs : List Value} (h : LRel μ xs xs') : LRel μ xs ((xs'.toArray ++ zs.toArray).toList.take xs.length) := by
  have := h.length
  simp [this]
  exact h
theorem growV {P : Program} {μ : Mu} {σ σ' : St} {w : World} {k n esz cap : Nat} {all all' : List Value} {zs : Array Value} {e : TypeId} (hR : Rel μ σ w) (hn : newP σ all esz = some (k, σ')) (hf : ∀ j, σ.size ≤ j → j < σ'.size → μ j = none) (hall : LRel μ all all') (hcap : n ≤ cap) (hsz : all'.length + zs.size = cap * esz) :
    ∃ μ', VRel μ' (.slice (some ⟨k, 0, none⟩) n opn) (.slice (some ⟨w.heap.size, 0, none⟩) n cap) ∧ Rel μ' σ' (w.drew.alloc (.cells (all'.toArray ++ zs) e)) ∧ Step μ μ' σ σ' w (w.drew.alloc (.cells (all'.toArray ++ zs) e)) := by
  have hl := hall.length
  obtain ⟨rfl, g1, g2⟩ := newP_does (P := P) (w1 := w.drew.alloc (.cells (all'.toArray ++ zs) e)) hR hn hf e (c := all'.toArray ++ zs) (by simp [hl]) (by simpa using rel_row (zs := zs.toList) hall) rfl rfl rfl rfl
  refine ⟨_, ?_, g1, g2⟩
  have := VRel.slo (μ := μ.add σ.size ⟨w.heap.size, 0, (all'.toArray ++ zs).size, esz⟩) σ.size 0 n cap ⟨w.heap.size, 0, (all'.toArray ++ zs).size, esz⟩ (Mu.add_self _ _ _) hcap (by simp; omega)
  simpa using this
theorem appendV_does {P : Program} {μ : Mu} {σ σ' : St} {w : World} {t ty : TypeId} {s s' x x' r : Value} (hR : Rel μ σ w) (hs : VRel μ s s') (hx : VRel μ x x') (he : appendV P σ t s x = some (r, σ')) (hf : ∀ j, σ.size ≤ j → j < σ'.size → μ j = none) :
    DoesV P μ σ w (Builtin.append_ #[t, t] ty #[s', x']) r σ' := by
  unfold appendV at he
  simp only [forceL_eq] at he
  split at he
  case h_2 => cases he
  rename_i e ht
  split at he
  case h_2 => cases he
  rename_i i hi
  split at he
  case h_2 => cases he
  rename_i z hz
  split at he
  case h_2 => cases he
  rename_i q l c xq n xc
  split at he
  case isFalse => cases he
  rename_i hc
  obtain ⟨hzs, hpos, hby, hlen⟩ := hc
  split at he
  · -- nothing is appended
    rename_i hn
    subst hn
    split at he
    · rename_i hcl
      simp only [Option.some.injEq, Prod.mk.injEq] at he
      obtain ⟨rfl, rfl⟩ := he
      have hx' : ∃ xq' xc', x' = .slice xq' 0 xc' := by cases hx <;> exact ⟨_, _, rfl⟩
      obtain ⟨xq', xc', rfl⟩ := hx'
      have hs' : ∃ q' c', s' = .slice q' l c' ∧ l ≤ c' := by
        cases hs with
        | sc v h =>
          refine ⟨q, c, rfl, ?_⟩
          rcases hcl with rfl | hcl
          · cases q <;> simp [scalar] at h
            unfold opn at *
            omega
          · exact hcl
        | slc k o n c L h hc => exact ⟨_, _, rfl, by unfold opn at *; omega⟩
        | slo k o n c L h hn hs => exact ⟨_, _, rfl, hn⟩
        | sle k o o' L h hs => exact ⟨_, _, rfl, Nat.le_refl _⟩
      obtain ⟨q', c', rfl, hlc⟩ := hs'
      exact ⟨μ, _, w, run_append_zero ht hi q' xq' l c' xc' hlc, hs, hR, Step.refl _ _ _⟩
    · cases he
  · rename_i hn
    have hn0 : 0 < n := by omega
    split at he
    case h_1 => cases he
    rename_i xs hxs
    obtain ⟨xs', x1, x2, x3, x4⟩ := rowOf_rel hR hx hxs
    obtain ⟨xb, xo, xm, xc', rfl, x5⟩ := x4 hn0
    have hxm : xm = n := by cases hx <;> rfl
    subst hxm
    have hnews : ∀ j u, xs'[j]? = some u → w.cell? ((⟨xb, xo, none⟩ : Addr).add j) = some u := fun j u hj => by rw [Addr.add_mid]; exact x5 j u hj
    have hone := ones_rel x2
    have h63 : ((l + xm : Nat) : Int) ≤ 9223372036854775807 := by omega
    have hbytes : (l + xm) * i.bytes ≤ 140737488355328 := Nat.le_trans (Nat.mul_le_mul hlen hby) (by decide)
    split at he
    · -- nil
      split at he
      · rename_i hlc
        obtain ⟨rfl, rfl⟩ := hlc
        simp only [Option.map_eq_some_iff, Prod.exists, Prod.mk.injEq] at he
        obtain ⟨k, s1, hnp, rfl, rfl⟩ := he
        have hs' : s' = .slice none 0 0 := scalar_eq (by rfl) hs
        subst hs'
        have hge := grownCap_ge w xm 0 e
        obtain ⟨μ', g0, g1, g2⟩ := growV (P := P) (e := e) (n := xm) (cap := grownCap w xm 0 e) (zs := Builtin.zeroCells z.cells (grownCap w xm 0 e - xm)) hR hnp hf x2 hge (by rw [size_zeroCells, hzs, x1, ← Nat.add_mul, Nat.add_sub_cancel' hge])
        exact ⟨μ', _, _, run_append_nil (P := P) w t ty e i z ht hi hz ⟨xb, xo, none⟩ xm xc' xs' x1 hnews hn0 (by omega) (by
          have : xm * i.bytes ≤ (0 + xm) * i.bytes := by simp
          omega), g0, g1, g2⟩
      · cases he
    · rename_i k o
      obtain ⟨L, hL, hss⟩ := slc_inv hs
      split at he
      · rename_i hcop
        have hs' : s' = .slice (some ⟨L.blk, o + L.sh, none⟩) l c := by
          rcases hss with ⟨_, h⟩ | ⟨h, _⟩ | ⟨h, _⟩
          · exact h
          · omega
          · omega
        subst hs'
        split at he
        · -- in its place
          rename_i hroom
          split at he
          case h_2 => cases he
          rename_i B hB
          split at he
          case isFalse => cases he
          rename_i hcc
          obtain ⟨htip, hfit, hall⟩ := hcc
          simp only [Option.some.injEq, Prod.mk.injEq] at he
          obtain ⟨rfl, rfl⟩ := he
          obtain ⟨w', g1, g2, g3⟩ := write_does (P := P) (off := o + l * i.size) hR hB hL htip xs xs' x2 hfit hall
          rw [show o + l * i.size + L.sh = o + L.sh + l * i.size by omega] at g1
          exact ⟨μ, _, w', run_append_in ht hi L.blk (o + L.sh) l c ⟨xb, xo, none⟩ xm xc' xs' x1 hnews hroom g1, .slc k o (l + xm) c L hL hcop, g2, g3⟩
        · rename_i hroom
          split at he
          case h_2 => cases he
          rename_i olds holds
          simp only [Option.map_eq_some_iff, Prod.exists, Prod.mk.injEq] at he
          obtain ⟨k1, s1, hnp, rfl, rfl⟩ := he
          obtain ⟨os', y1, y2, y3, y4⟩ := rowOf_rel hR hs holds
          have hcell : ∀ j v, os'[j]? = some v → w.cell? ((⟨L.blk, o + L.sh, none⟩ : Addr).add j) = some v := by
            intro j v hj
            by_cases hl0 : l = 0
            · have : os' = [] := List.length_eq_zero_iff.1 (by rw [y1, hl0]; simp)
              rw [this] at hj; simp at hj
            · obtain ⟨b2, o2, m2, c2, e2, e3⟩ := y4 (by omega)
              cases e2
              rw [Addr.add_mid]; exact e3 j v hj
          have hge := grownCap_ge w (l + xm) c e
          have hrun := run_append_grow (P := P) w t ty e i z ht hi hz ⟨L.blk, o + L.sh, none⟩ l c os' y1 hcell ⟨xb, xo, none⟩ xm xc' xs' x1 hnews (by omega) h63 (growslice_fits (by omega) hbytes)
          rw [show os'.toArray ++ xs'.toArray = (os' ++ xs').toArray by simp] at hrun
          obtain ⟨μ', g0, g1, g2⟩ := growV (P := P) (e := e) (n := l + xm) (cap := grownCap w (l + xm) c e) (zs := Builtin.zeroCells z.cells (grownCap w (l + xm) c e - (l + xm))) hR hnp hf (y2.append x2) hge (by rw [size_zeroCells, hzs, List.length_append, x1, y1, ← Nat.add_mul, ← Nat.add_mul, Nat.add_sub_cancel' hge])
          exact ⟨μ', _, _, hrun, g0, g1, g2⟩
      · split at he
        case isFalse => cases he
        rename_i hcop
        subst hcop
        split at he
        case h_2 => cases he
        rename_i B hB
        split at he
        case isFalse => cases he
        rename_i hcc
        obtain ⟨htip, hesz, hall⟩ := hcc
        have hbr := hR.blk k B L hB hL
        obtain ⟨cc, ee, g1, g2, g3, g4, g5⟩ := hbr
        rw [hesz] at g3
        split at he
        · -- at the row's end
          rename_i hend
          split at he
          case isFalse => cases he
          rename_i hlt
          simp only [Option.some.injEq, Prod.mk.injEq] at he
          obtain ⟨rfl, rfl⟩ := he
          have hfr : μ σ.size = none := hf _ (Nat.le_refl _) (by simp [St.cont, St.newS, St.setB])
          have hdrop : LRel μ (B.cells.drop o) (((cc.toList.drop L.sh).take B.cells.length).drop o) := g5.drop o
          have hlo : (B.cells.drop o).length = l * i.size := by simp; omega
          -- new memory
          have grow : ∀ (b : Addr) (sc : Nat) (os' : List Value), s' = .slice (some b) l sc → os'.length = l * i.size → LRel μ (B.cells.drop o) os' → (∀ j v, os'[j]? = some v → w.cell? (b.add j) = some v) → sc < l + xm →
              DoesV P μ σ w (Builtin.append_ #[t, t] ty #[s', .slice (some ⟨xb, xo, none⟩) xm xc']) (.slice (some ⟨σ.size, 0, none⟩) (l + xm) opn) (σ.cont k B (B.cells.drop o ++ xs)) := by
            intro b sc os' hsl hol hor hoc hsc
            subst hsl
            have hge := grownCap_ge w (l + xm) sc e
            have hrun := run_append_grow (P := P) w t ty e i z ht hi hz b l sc os' hol hoc ⟨xb, xo, none⟩ xm xc' xs' x1 hnews hsc h63 (growslice_fits hsc hbytes)
            rw [show os'.toArray ++ xs'.toArray = (os' ++ xs').toArray by simp] at hrun
            have hrel := hor.append x2
            have hll := hrel.length
            have hsz : ((os' ++ xs').toArray ++ Builtin.zeroCells z.cells (grownCap w (l + xm) sc e - (l + xm))).size = grownCap w (l + xm) sc e * i.size := by
              rw [Array.size_append, size_zeroCells, hzs, List.size_toArray, List.length_append, hol, x1, ← Nat.add_mul, ← Nat.add_mul, Nat.add_sub_cancel' hge]
            obtain ⟨q1, q2⟩ := hR.cont_new (w1 := w.drew.alloc (.cells ((os' ++ xs').toArray ++ Builtin.zeroCells z.cells (grownCap w (l + xm) sc e - (l + xm))) e)) hB hL htip hfr hlt (B.cells.drop o ++ xs) _ e (by rw [hsz, hll, List.length_append, hol, x1, ← Nat.add_mul]; exact Nat.mul_le_mul_right _ hge)
              (by simpa using rel_row (zs := (Builtin.zeroCells z.cells (grownCap w (l + xm) sc e - (l + xm))).toList) hrel) rfl rfl rfl rfl
            refine ⟨_, _, _, hrun, ?_, q1, q2⟩
            have := VRel.slo (μ := μ.add σ.size ⟨w.heap.size, 0, ((os' ++ xs').toArray ++ Builtin.zeroCells z.cells (grownCap w (l + xm) sc e - (l + xm))).size, B.esz⟩) σ.size 0 (l + xm) (grownCap w (l + xm) sc e) ⟨w.heap.size, 0, ((os' ++ xs').toArray ++ Builtin.zeroCells z.cells (grownCap w (l + xm) sc e - (l + xm))).size, B.esz⟩ (Mu.add_self _ _ _) hge (by rw [hsz, hesz]; simp)
            simpa using this
          have hcellB : ∀ j v, (((cc.toList.drop L.sh).take B.cells.length).drop o)[j]? = some v → w.cell? ((⟨L.blk, o + L.sh, none⟩ : Addr).add j) = some v := by
            intro j v hj
            rw [Addr.add_mid]
            simp only [List.getElem?_drop, List.getElem?_take] at hj
            split at hj
            · simp [World.cell?, g1]
              rw [show o + L.sh + j = L.sh + (o + j) by omega]
              simpa using hj
            · cases hj
          have hlenB : (((cc.toList.drop L.sh).take B.cells.length).drop o).length = l * i.size := by rw [← hdrop.length]; exact hlo
          rcases hss with ⟨h, _⟩ | ⟨_, c', hn', hs', rfl⟩ | ⟨_, hl0, hs', o', rfl⟩
          · omega
          · by_cases hroom : l + xm ≤ c'
            · -- in its place
              have hle : (l + xm) * i.size ≤ c' * i.size := Nat.mul_le_mul_right _ hroom
              rw [g3] at hs'
              rw [Nat.add_mul] at hle
              have hst := run_storeCells_at P L.blk (o + L.sh + l * i.size) ee xs' 0 cc w g1 (by omega) (by
                rw [hall] at hone
                simpa using hone)
              simp only [Nat.add_zero] at hst
              have hrun := run_append_in (ty := ty) ht hi L.blk (o + L.sh) l c' ⟨xb, xo, none⟩ xm xc' xs' x1 hnews hroom hst
              have hx3 := x3
              obtain ⟨q1, q2⟩ := hR.cont_in hB hL htip hfr hlt o (by omega) (B.cells.drop o ++ xs) (by simp; omega) g1 (c' := (cc.toList.take (o + L.sh + l * i.size) ++ xs' ++ cc.toList.drop (o + L.sh + l * i.size + xs'.length)).toArray) (by simp; omega) (by simp; omega)
                (by
                  intro j hj
                  have : j < min (o + L.sh + l * i.size) cc.size := by omega
                  have h2 : j < min (o + L.sh + l * i.size) cc.size + xs'.length := by omega
                  have h3 : j < o + L.sh + l * i.size := by omega
                  simp [List.getElem?_append, List.getElem?_take, this, h2, h3])
                (by
                  have e2 : ((cc.toList.take (o + L.sh + l * i.size) ++ xs' ++ cc.toList.drop (o + L.sh + l * i.size + xs'.length)).toArray.toList.drop (L.sh + o)).take (B.cells.drop o ++ xs).length = ((cc.toList.drop L.sh).take B.cells.length).drop o ++ xs' := by
                    apply List.ext_getElem?
                    intro j
                    simp only [List.toList_toArray, List.getElem?_take, List.getElem?_drop, List.getElem?_append, List.length_take, List.length_append, List.length_drop, Array.length_toList]
                    have hmin : min (o + L.sh + l * i.size) cc.size = L.sh + B.cells.length := by omega
                    have hmin2 : min B.cells.length (cc.size - L.sh) = B.cells.length := by omega
                    rw [hmin, hmin2]
                    by_cases a1 : j < B.cells.length - o
                    · have h1 : L.sh + o + j < L.sh + B.cells.length := by omega
                      have h2 : L.sh + o + j < L.sh + B.cells.length + xs'.length := by omega
                      have h3 : j < B.cells.length - o + xs.length := by omega
                      have h4 : L.sh + o + j < o + L.sh + l * i.size := by omega
                      have h5 : o + j < B.cells.length := by omega
                      simp [a1, h1, h2, h3, h4, h5]
                      congr 1; omega
                    · by_cases a2 : j < B.cells.length - o + xs.length
                      · have h1 : ¬ L.sh + o + j < L.sh + B.cells.length := by omega
                        have h2 : L.sh + o + j < L.sh + B.cells.length + xs'.length := by omega
                        have h3 : L.sh + o + j - (L.sh + B.cells.length) = j - (B.cells.length - o) := by omega
                        simp [a1, a2, h1, h2, h3]
                      · rw [if_neg a2, if_neg a1]
                        rw [List.getElem?_eq_none (by omega)]
                  rw [e2]
                  exact hdrop.append x2)
              refine ⟨_, _, _, hrun, ?_, q1, q2⟩
              have := VRel.slo (μ := μ.add σ.size ⟨L.blk, L.sh + o, L.size, L.esz⟩) σ.size 0 (l + xm) c' ⟨L.blk, L.sh + o, L.size, L.esz⟩ (Mu.add_self _ _ _) hroom (by simp only [g3]; omega)
              simpa [Nat.add_comm] using this
            · exact grow ⟨L.blk, o + L.sh, none⟩ c' _ rfl hlenB hdrop hcellB (by omega)
          · subst hl0
            refine grow ⟨L.blk, o', none⟩ 0 _ rfl hlenB hdrop (fun j v hj => ?_) (by omega)
            have : ((cc.toList.drop L.sh).take B.cells.length).drop o = [] := List.length_eq_zero_iff.1 (by rw [hlenB]; simp)
            rw [this] at hj
            simp at hj
        · split at he
          case isFalse => cases he
          rename_i hend hfit
          simp only [Option.some.injEq, Prod.mk.injEq] at he
          obtain ⟨rfl, rfl⟩ := he
          obtain ⟨w', f1, f2, f3⟩ := write_does (P := P) (off := o + l * i.size) hR hB hL htip xs xs' x2 hfit hall
          rw [show o + l * i.size + L.sh = o + L.sh + l * i.size by omega] at f1
          rcases hss with ⟨h, _⟩ | ⟨_, c', hn', hs', rfl⟩ | ⟨_, hl0, hs', o', rfl⟩
          · omega
          · have hroom : l + xm ≤ c' := by
              rw [g3] at hs'
              have : (l + xm) * i.size ≤ c' * i.size := by rw [Nat.add_mul]; omega
              exact Nat.le_of_mul_le_mul_right this hpos
            exact ⟨μ, _, w', run_append_in ht hi L.blk (o + L.sh) l c' ⟨xb, xo, none⟩ xm xc' xs' x1 hnews hroom f1, .slo k o (l + xm) c' L hL hroom hs', f2, f3⟩
          · exfalso
            subst hl0
            have : 0 < xm * i.size := Nat.mul_pos hn0 hpos
            omega
    · cases he
end
/-- append of zeros that make laid, to a list that is nil -/
noncomputable def zerosV (P : Program) (σ : St) (t t2 : TypeId) (s x : Value) : Option (Value × St) :=
  match P.underlying t, P.underlying t2 with
  | some (.slice e), some (.int _) => match P.info? e with
    | some i => match i.zero with
      | some z => match s, x with
        | .slice none 0 0, .int _ n =>
          if z.cells.size = i.size ∧ 0 < i.size ∧ i.bytes ≤ 1000000 ∧ 0 < n ∧ n ≤ 1000000 ∧ flatL (Builtin.zeroCells z.cells n.toNat).toList = true then
            (newP σ (Builtin.zeroCells z.cells n.toNat).toList i.size).map fun p => (.slice (some ⟨p.1, 0, none⟩) n.toNat opn, p.2)
          else none
        | _, _ => none
      | none => none
    | none => none
  | _, _ => none
theorem zerosV_does {P : Program} {μ : Mu} {σ σ' : St} {w : World} {t t2 ty : TypeId} {s s' x x' r : Value} (hR : Rel μ σ w) (hs : VRel μ s s') (hx : VRel μ x x') (he : zerosV P σ t t2 s x = some (r, σ')) (hf : ∀ j, σ.size ≤ j → j < σ'.size → μ j = none) :
    DoesV P μ σ w (Builtin.append_ #[t, t2] ty #[s', x']) r σ' := by
  unfold zerosV at he
  split at he
  case h_2 => cases he
  rename_i e kn ht htn
  split at he
  case h_2 => cases he
  rename_i i hi
  split at he
  case h_2 => cases he
  rename_i z hz
  split at he
  case h_2 => cases he
  rename_i k n
  split at he
  case isFalse => cases he
  rename_i hc
  obtain ⟨hzs, hpos, hby, hn0, hn1, hfl⟩ := hc
  simp only [Option.map_eq_some_iff, Prod.exists, Prod.mk.injEq] at he
  obtain ⟨k1, s1, hnp, rfl, rfl⟩ := he
  obtain rfl := scalar_eq (by rfl) hs
  obtain rfl := scalar_eq (by rfl) hx
  obtain ⟨m, rfl⟩ : ∃ m : Nat, n = m := ⟨n.toNat, by omega⟩
  rw [Int.toNat_natCast] at *
  have hbytes : m * i.bytes ≤ 281474976710656 := by
    have := Nat.mul_le_mul (show m ≤ 1000000 by omega) hby
    omega
  have hrun := Lib.run_append_nil_zeros (P := P) w t t2 ty e i z k kn ht htn hi hz m (by omega) hpos (by omega) hbytes
  have hge := grownCap_ge w m 0 e
  have e1 : Builtin.zeroCells z.cells m = (Builtin.zeroCells z.cells m).toList.toArray := by simp
  have hlen : (Builtin.zeroCells z.cells m).toList.length = m * i.size := by rw [Array.length_toList, size_zeroCells, hzs]
  obtain ⟨μ', g0, g1, g2⟩ := growV (P := P) (e := e) (n := m) (cap := grownCap w m 0 e) (zs := Builtin.zeroCells z.cells (grownCap w m 0 e - m)) hR hnp hf (flatL_rel μ hfl) hge (by rw [hlen, size_zeroCells, hzs, ← Nat.add_mul, Nat.add_sub_cancel' hge])
  rw [← e1] at g1 g2
  exact ⟨μ', _, _, hrun, g0, g1, g2⟩
end Go.Proofs.Ytadamjleglckpaa.ev

/- The reckoner: operations told apart, code, calls. -/
namespace Go.Proofs.Ytadamjleglckpaa.ev
noncomputable section
open Go.RowKit
set_option linter.unusedSimpArgs false
set_option linter.unusedVariables false
set_option linter.unusedSectionVars false

/-! the other builtins -/
def lenV (P : Program) (t : TypeId) (v : Value) : Option Value :=
  match P.underlying t, v with
  | some (.slice _), .slice _ n _ => some (.int .i64 n)
  | _, _ => none
theorem lenV_does {P : Program} {μ : Mu} {σ : St} {w : World} {t ty : TypeId} {v v' r : Value} (hR : Rel μ σ w) (hv : VRel μ v v') (he : lenV P t v = some r) : DoesV P μ σ w (Builtin.len_ #[t] ty #[v']) r σ := by
  unfold lenV at he
  split at he
  · rename_i e q n c hu
    simp only [Option.some.injEq] at he
    subst he
    have : ∃ q' c', v' = .slice q' n c' := by cases hv <;> exact ⟨_, _, rfl⟩
    obtain ⟨q', c', rfl⟩ := this
    exact ⟨μ, _, w, by simp [Builtin.len_, run_underlying hu]; rfl, .sc _ rfl, hR, Step.refl _ _ _⟩
  · cases he
def capV (P : Program) (t : TypeId) (v : Value) : Option Value :=
  match P.underlying t, v with
  | some (.slice _), .slice _ n c => if c < opn then some (.int .i64 c) else none
  | _, _ => none
theorem capV_does {P : Program} {μ : Mu} {σ : St} {w : World} {t ty : TypeId} {v v' r : Value} (hR : Rel μ σ w) (hv : VRel μ v v') (he : capV P t v = some r) : DoesV P μ σ w (Builtin.cap_ #[t] ty #[v']) r σ := by
  unfold capV at he
  split at he
  · rename_i e q n c hu
    split at he
    · rename_i hc
      simp only [Option.some.injEq] at he
      subst he
      have : ∃ q' n', v' = .slice q' n' c := by
        cases hv with
        | sc v h => exact ⟨_, _, rfl⟩
        | slc k o n c L h hc => exact ⟨_, _, rfl⟩
        | slo k o n c L h hn hs => omega
        | sle k o o' L h hs => omega
      obtain ⟨q', n', rfl⟩ := this
      exact ⟨μ, _, w, by simp [Builtin.cap_, run_underlying hu]; rfl, .sc _ rfl, hR, Step.refl _ _ _⟩
    · cases he
  · cases he
def copyV (P : Program) (σ : St) (t : TypeId) (d s : Value) : Option (Value × St) :=
  match P.underlying t with
  | some (.slice e) => match P.info? e with
    | some i => match d, s with
      | .slice (some ⟨k, o, none⟩) l c, .slice sq m sc =>
        if Nat.min m l = 0 then some (.int .i64 0, σ) else
        match rowOf σ (.slice sq m sc) i.size (Nat.min m l), σ.getB k with
        | some xs, some B => if B.tip = true ∧ o + xs.length ≤ B.cells.length ∧ xs.all (·.oneCell') = true then
            some (.int .i64 (Nat.min m l : Nat), σ.write k B (B.cells.take o ++ xs ++ B.cells.drop (o + xs.length))) else none
        | _, _ => none
      | _, _ => none
    | none => none
  | _ => none
theorem copyV_does {P : Program} {μ : Mu} {σ σ' : St} {w : World} {t t2 ty : TypeId} {d d' s s' r : Value} (hR : Rel μ σ w) (hd : VRel μ d d') (hs : VRel μ s s') (he : copyV P σ t d s = some (r, σ')) : DoesV P μ σ w (Builtin.copy_ #[t, t2] ty #[d', s']) r σ' := by
  unfold copyV at he
  split at he
  case h_2 => cases he
  rename_i e ht
  split at he
  case h_2 => cases he
  rename_i i hi
  split at he
  case h_2 => cases he
  rename_i k o l c sq m sc
  obtain ⟨L, hL, hdd⟩ := slc_inv hd
  have hs' : ∃ q' c', s' = .slice q' m c' := by cases hs <;> exact ⟨_, _, rfl⟩
  obtain ⟨q', c', rfl⟩ := hs'
  have hd' : ∃ q2 c2, d' = .slice (some q2) l c2 := by
    rcases hdd with ⟨_, h⟩ | ⟨_, c', _, _, h⟩ | ⟨_, h0, _, o', h⟩
    · exact ⟨_, _, h⟩
    · exact ⟨_, _, h⟩
    · subst h0; exact ⟨_, _, h⟩
  obtain ⟨q2, c2, rfl⟩ := hd'
  split at he
  · rename_i h0
    simp only [Option.some.injEq, Prod.mk.injEq] at he
    obtain ⟨rfl, rfl⟩ := he
    have hf : (Builtin.firstCells i.size 0 (.slice q' m c')).run P w = .ok #[] w := by
      cases q' with
      | none => simp [Builtin.firstCells]
      | some a => simp [Builtin.firstCells, loadCells, loadCellsFrom]
    refine ⟨μ, _, w, ?_, .sc _ rfl, hR, Step.refl _ _ _⟩
    have h0' : m.min l = 0 := h0
    simp [Builtin.copy_, run_underlying ht, Builtin.lenOf, h0', sizeOf, typeInfo, hi, hf, storeCells]
    rfl
  · rename_i h0
    split at he
    case h_2 => cases he
    rename_i xs B hxs hB
    split at he
    case isFalse => cases he
    rename_i hcc
    obtain ⟨htip, hfit, hall⟩ := hcc
    simp only [Option.some.injEq, Prod.mk.injEq] at he
    obtain ⟨rfl, rfl⟩ := he
    obtain ⟨xs', x1, x2, x3, x4⟩ := rowOf_rel hR hs hxs
    have hpos : 0 < m.min l := Nat.pos_of_ne_zero h0
    have hl0 : l ≠ 0 := fun e => h0 (by rw [e]; exact Nat.min_zero m)
    obtain ⟨b, so, sm, sc', e1, e2⟩ := x4 hpos
    cases e1
    obtain ⟨w', g1, g2, g3⟩ := write_does (P := P) (off := o) hR hB hL htip xs xs' x2 hfit hall
    have hq2 : q2 = ⟨L.blk, o + L.sh, none⟩ := by
      rcases hdd with ⟨_, h⟩ | ⟨_, c', _, _, h⟩ | ⟨_, h0, _⟩
      · cases h; rfl
      · cases h; rfl
      · exact absurd h0 hl0
    subst hq2
    have hf := run_firstCells_some (P := P) w i.size (m.min l) ⟨b, so, none⟩ m c' xs' x1 (fun j v hv => by rw [Addr.add_mid]; exact e2 j v hv)
    refine ⟨μ, _, w', ?_, .sc _ rfl, g2, g3⟩
    simp [Builtin.copy_, run_underlying ht, Builtin.lenOf, sizeOf, typeInfo, hi, hf, g1]
    rfl
def clearV (P : Program) (σ : St) (t : TypeId) (v : Value) : Option (Value × St) :=
  match v with
  | .slice _ 0 _ => match P.underlying t with
    | some (.slice _) => some (.tuple #[], σ)
    | _ => none
  | .slice (some ⟨k, o, none⟩) n _ => match P.underlying t with
    | some (.slice e) => match P.info? e with
      | some i => match i.zero with
        | some z => match σ.getB k with
          | some B => if B.tip = true ∧ o + (Builtin.zeroCells z.cells n).toList.length ≤ B.cells.length ∧ flatL (Builtin.zeroCells z.cells n).toList = true then
              some (.tuple #[], σ.write k B (B.cells.take o ++ (Builtin.zeroCells z.cells n).toList ++ B.cells.drop (o + (Builtin.zeroCells z.cells n).toList.length))) else none
          | none => none
        | none => none
      | none => none
    | _ => none
  | _ => none
theorem flatL_one : ∀ {l : List Value}, flatL l = true → l.all (·.oneCell') = true
  | [], _ => rfl
  | v :: l, h => by
    simp [flatL] at h
    have h1 : v.oneCell' = true := by cases v <;> simp [scalar] at h ⊢ <;> rfl
    simp [h1]
    simpa using flatL_one h.2
theorem clearV_does {P : Program} {μ : Mu} {σ σ' : St} {w : World} {t ty : TypeId} {v v' r : Value} (hR : Rel μ σ w) (hv : VRel μ v v') (he : clearV P σ t v = some (r, σ')) : DoesV P μ σ w (Builtin.clear_ #[t] ty #[v']) r σ' := by
  unfold clearV at he
  split at he
  · rename_i q c
    split at he
    · rename_i e hu
      simp only [Option.some.injEq, Prod.mk.injEq] at he
      obtain ⟨rfl, rfl⟩ := he
      have : ∃ q' c', v' = .slice q' 0 c' := by cases hv <;> exact ⟨_, _, rfl⟩
      obtain ⟨q', c', rfl⟩ := this
      refine ⟨μ, _, w, ?_, flat_rel μ (by rfl), hR, Step.refl _ _ _⟩
      cases q' <;> simp [Builtin.clear_, run_underlying hu]
    · cases he
  · rename_i k o n c hn
    split at he
    case h_2 => cases he
    rename_i e hu
    split at he
    case h_2 => cases he
    rename_i i hi
    split at he
    case h_2 => cases he
    rename_i z hz
    split at he
    case h_2 => cases he
    rename_i B hB
    split at he
    case isFalse => cases he
    rename_i hcc
    obtain ⟨htip, hfit, hfl⟩ := hcc
    simp only [Option.some.injEq, Prod.mk.injEq] at he
    obtain ⟨rfl, rfl⟩ := he
    obtain ⟨L, hL, hvv⟩ := slc_inv hv
    have hn0 : n ≠ 0 := fun e => by subst e; simp at hn
    have hv' : ∃ c', v' = .slice (some ⟨L.blk, o + L.sh, none⟩) n c' := by
      rcases hvv with ⟨_, h⟩ | ⟨_, c', _, _, h⟩ | ⟨_, h0, _⟩
      · exact ⟨_, h⟩
      · exact ⟨_, h⟩
      · exact absurd h0 hn0
    obtain ⟨c', rfl⟩ := hv'
    obtain ⟨w', g1, g2, g3⟩ := write_does (P := P) (off := o) hR hB hL htip _ _ (flatL_rel μ hfl) hfit (flatL_one hfl)
    refine ⟨μ, _, w', ?_, flat_rel μ (by rfl), g2, g3⟩
    cases n with
    | zero => exact absurd rfl hn0
    | succ n => simp [Builtin.clear_, run_underlying hu, zeroValue, typeInfo, hi, hz, g1]
  · cases he
def builtinV (P : Program) (σ : St) (ts : Ts) (b : Builtin) (tys : List TypeId) (args : List Operand) : Option (Value × St) :=
  match b, tys, args with
  | .len, [t], [x] => match evo ts x with
    | some v => (lenV P t v).map fun r => (r, σ)
    | none => none
  | .cap, [t], [x] => match evo ts x with
    | some v => (capV P t v).map fun r => (r, σ)
    | none => none
  | .clear, [t], [x] => match evo ts x with
    | some v => clearV P σ t v
    | none => none
  | .append, [t, t2], [x, y] => if t = t2 then match evo ts x, evo ts y with
      | some v, some u => appendV P σ t v u
      | _, _ => none
    else match evo ts x, evo ts y with
      | some v, some u => zerosV P σ t t2 v u
      | _, _ => none
  | .copy, [t, _], [x, y] => match evo ts x, evo ts y with
    | some v, some u => copyV P σ t v u
    | _, _ => none
  | _, _, _ => none
theorem doesV_does {P : Program} {μ : Mu} {σ σ' : St} {w : World} {ρ : Operand → Value} {o : Oper} {s : Sem Value} {r : Value} (h : DoesV P μ σ w s r σ') (he : execOp ρ o = (do pure (.value (← s)))) : Does P μ σ w ρ o r σ' := by
  obtain ⟨μ', r', w', h1, h2, h3, h4⟩ := h
  exact ⟨μ', r', w', _, by rw [he, Sem.run_bind, h1]; rfl, .inl rfl, h2, h3, h4⟩
theorem builtinV_does {P : Program} {μ : Mu} {σ σ' : St} {w : World} {ts : Ts} {a : Act} {o : Oper} {c : Call} {b : Builtin} {r : Value} (hT : TRel μ ts a) (hR : Rel μ σ w) (ho : o.op = .call c) (hc : c.callee = .builtin b) (he : builtinV P σ ts b c.argTypes.toList c.args.toList = some (r, σ')) (hf : ∀ j, σ.size ≤ j → j < σ'.size → μ j = none) :
    Does P μ σ w a.eval o r σ' := by
  obtain ⟨cs, hex⟩ := exec_builtin (ρ := a.eval) ho hc
  obtain ⟨callee, args, argTypes⟩ := c
  obtain ⟨args⟩ := args
  obtain ⟨argTypes⟩ := argTypes
  simp only at he hex
  unfold builtinV at he
  split at he
  · rename_i t x
    split at he
    case h_2 => cases he
    rename_i v hv
    simp only [Option.map_eq_some_iff, Prod.mk.injEq] at he
    obtain ⟨r0, h1, rfl, rfl⟩ := he
    exact doesV_does (lenV_does (ty := o.type) hR (evo_rel hT hv) h1) (by rw [hex]; simp [builtin])
  · rename_i t x
    split at he
    case h_2 => cases he
    rename_i v hv
    simp only [Option.map_eq_some_iff, Prod.mk.injEq] at he
    obtain ⟨r0, h1, rfl, rfl⟩ := he
    exact doesV_does (capV_does (ty := o.type) hR (evo_rel hT hv) h1) (by rw [hex]; simp [builtin])
  · rename_i t x
    split at he
    case h_2 => cases he
    rename_i v hv
    exact doesV_does (clearV_does (ty := o.type) hR (evo_rel hT hv) he) (by rw [hex]; simp [builtin])
  · rename_i t t2 x y
    split at he
    case isFalse =>
      split at he
      case h_2 => cases he
      rename_i v u hv hu
      exact doesV_does (zerosV_does (ty := o.type) hR (evo_rel hT hv) (evo_rel hT hu) he hf) (by rw [hex]; simp [builtin])
    rename_i e
    subst e
    split at he
    case h_2 => cases he
    rename_i v u hv hu
    exact doesV_does (appendV_does (ty := o.type) hR (evo_rel hT hv) (evo_rel hT hu) he hf) (by rw [hex]; simp [builtin])
  · rename_i t t2 x y
    split at he
    case h_2 => cases he
    rename_i v u hv hu
    exact doesV_does (copyV_does (t2 := t2) (ty := o.type) hR (evo_rel hT hv) (evo_rel hT hu) he) (by rw [hex]; simp [builtin])
  · cases he
def evos (ts : Ts) : Option Operand → Option (Option Value)
  | none => some none
  | some x => match evo ts x with
    | some v => some (some v)
    | none => none
theorem evos_rel {μ : Mu} {ts : Ts} {a : Act} (h : TRel μ ts a) {x : Option Operand} {v : Option Value} (hv : evos ts x = some v) : (v = none ∧ x.map a.eval = none) ∨ ∃ u u', v = some u ∧ x.map a.eval = some u' ∧ VRel μ u u' := by
  cases x with
  | none => simp [evos] at hv; exact .inl ⟨hv.symm, rfl⟩
  | some x =>
    simp only [evos] at hv
    split at hv
    · rename_i u hu
      simp only [Option.some.injEq] at hv
      exact .inr ⟨u, a.eval x, hv.symm, rfl, evo_rel h hu⟩
    · cases hv
def pureV (P : Program) (σ : St) (ts : Ts) (o : Oper) : Option (Value × St) := (pureOp P ts o).map fun r => (r, σ)
/-! sums and comparisons -/
def wrF : IntKind → Int → Int
  | .i64, .ofNat m => match m with
    | 0 => .ofNat 0
    | Nat.succ p => match Nat.ble (Nat.succ p) 9223372036854775807 with
      | true => .ofNat (Nat.succ p)
      | false => IntKind.i64.wrap (.ofNat (Nat.succ p))
  | k, n => k.wrap n
theorem wrF_eq (k : IntKind) (n : Int) : wrF k n = k.wrap n := by
  unfold wrF
  split
  · rename_i m
    cases m with
    | zero => rfl
    | succ p =>
      simp only
      split
      · rename_i h
        have := Nat.le_of_ble_eq_true h
        exact (IntWalk.i64_in _ (by simp; omega)).symm
      · rfl
  · rfl
def ltI : Int → Int → Bool
  | .ofNat a, .ofNat b => Nat.blt a b
  | a, b => decide (a < b)
theorem ltI_eq (a b : Int) : ltI a b = decide (a < b) := by
  unfold ltI
  split
  · rename_i a b
    rw [Bool.eq_iff_iff]; simp [Nat.blt]; omega
  · rfl
def eqI : Int → Int → Bool
  | .ofNat a, .ofNat b => Nat.beq a b
  | a, b => a == b
theorem eqI_eq (a b : Int) : eqI a b = (a == b) := by
  unfold eqI
  split
  · rename_i a b
    rw [Bool.eq_iff_iff]; simp [Nat.beq_eq]; omega
  · rfl
def sameK : IntKind → IntKind → Bool
  | .i64, .i64 | .u64, .u64 | .u8, .u8 | .u16, .u16 | .u32, .u32 | .i8, .i8 | .i16, .i16 | .i32, .i32 => true
  | _, _ => false
def intV (op : BinOp) (k : IntKind) (a b : Int) : Option Value :=
  match op with
  | .add => some (.int k (wrF k (a + b)))
  | .sub => some (.int k (wrF k (a - b)))
  | .mul => some (.int k (wrF k (a * b)))
  | .eql => some (.bool (eqI a b))
  | .neq => some (.bool (!eqI a b))
  | .lss => some (.bool (ltI a b))
  | .leq => some (.bool (!ltI b a))
  | .gtr => some (.bool (ltI b a))
  | .geq => some (.bool (!ltI a b))
  | _ => none
theorem intV_does {P : Program} {μ : Mu} {σ : St} {w : World} {ρ : Operand → Value} {o : Oper} {op : BinOp} {t t' : TypeId} {x y : Operand} {k k' : IntKind} {a b : Int} {r : Value} (hR : Rel μ σ w) (ho : o.op = .binOp op t x y t') (hx : ρ x = .int k a) (hy : ρ y = .int k' b) (hk : sameK k k' = true) (he : intV op k a b = some r) : Does P μ σ w ρ o r σ := by
  have hkk : k = k' := by cases k <;> cases k' <;> first | rfl | (simp [sameK] at hk)
  subst hkk
  have hex : execOp ρ o = (do pure (.value (← binOp op t (.int k a) (.int k b)))) := by
    simp [execOp, ho, hx, hy, eqGuard_at_int]
  have fin : ∀ v : Value, scalar v = true → binOp op t (.int k a) (.int k b) = pure v → r = v → Does P μ σ w ρ o r σ := by
    intro v hs hb hr
    subst hr
    exact does_val hR (.sc _ hs) (by rw [hex, hb]; rfl)
  unfold intV at he
  split at he <;> first | (cases he; done) | skip
  all_goals (try (simp only [Option.some.injEq] at he))
  · exact fin (.int k (k.wrap (a + b))) rfl (by simp [binOp, Op.intArith]) (by rw [← he, wrF_eq])
  · exact fin (.int k (k.wrap (a - b))) rfl (by simp [binOp, Op.intArith]) (by rw [← he, wrF_eq])
  · exact fin (.int k (k.wrap (a * b))) rfl (by simp [binOp, Op.intArith]) (by rw [← he, wrF_eq])
  · exact fin (.bool (a == b)) rfl (by simp [binOp, Op.intCmp]) (by rw [← he, eqI_eq])
  · exact fin (.bool (a != b)) rfl (by simp [binOp, Op.intCmp]) (by rw [← he, eqI_eq]; rfl)
  · exact fin (.bool (decide (a < b))) rfl (by simp [binOp, Op.intCmp]) (by rw [← he, ltI_eq])
  · exact fin (.bool (decide (a ≤ b))) rfl (by simp [binOp, Op.intCmp]) (by rw [← he, ltI_eq]; congr 1; rw [Bool.eq_iff_iff]; simp)
  · exact fin (.bool (decide (a > b))) rfl (by simp [binOp, Op.intCmp]) (by rw [← he, ltI_eq])
  · exact fin (.bool (decide (a ≥ b))) rfl (by simp [binOp, Op.intCmp]) (by rw [← he, ltI_eq]; congr 1; rw [Bool.eq_iff_iff]; simp)
def one (σ : St) : Option Value → Option (Value × St)
  | some v => some (v, σ)
  | none => none
def xPick (σ : St) (ts : Ts) (x y : Operand) : Option Value → Option (Value × St)
  | some (.bool t) => one σ (evo ts (match t with | true => x | false => y))
  | _ => none
def xBox (σ : St) : Option Value → Option (Value × St)
  | some v => boxV σ v
  | none => none
def xLoad (P : Program) (σ : St) (t : TypeId) : Option Value → Option (Value × St)
  | some (.pointer (some ⟨k, off, none⟩)) => one σ (loadB P σ t k off)
  | _ => none
def xUnit : Option St → Option (Value × St)
  | some σ => some (undef, σ)
  | none => none
def xStore (P : Program) (σ : St) (t : TypeId) : Option Value → Option Value → Option (Value × St)
  | some (.pointer (some ⟨k, off, none⟩)), some v => xUnit (storeB P σ t k off v)
  | _, _ => none
/-- the first that answers -/
def orElse (x : Option (Value × St)) (y : Unit → Option (Value × St)) : Option (Value × St) :=
  match x with
  | some r => some r
  | none => y ()
def xNil (P : Program) (σ : St) (ts : Ts) (o : Oper) : Option Value → Option (Value × St)
  | some v => orElse (one σ (nilCheckV v)) fun _ => pureV P σ ts o
  | none => none
def xInt (P : Program) (σ : St) (ts : Ts) (o : Oper) (op : BinOp) (k : IntKind) (a : Int) (k' : IntKind) (b : Int) : Option (Value × St) :=
  match sameK k k' with
  | true => orElse (one σ (intV op k a b)) fun _ => pureV P σ ts o
  | false => pureV P σ ts o
def xBin (P : Program) (σ : St) (ts : Ts) (o : Oper) (op : BinOp) (t : TypeId) : Option Value → Option Value → Option (Value × St)
  | some (.int k a), some (.int k' b) => xInt P σ ts o op k a k' b
  | some v, some u => orElse (one σ (nilEqV P op t v u)) fun _ => pureV P σ ts o
  | _, _ => none
def xIface (P : Program) (σ : St) (t : TypeId) : Option Value → Option (Value × St)
  | some v => one σ (makeIfaceV P t v)
  | none => none
def xMake (P : Program) (σ : St) (t : TypeId) : Option Value → Option Value → Option (Value × St)
  | some u, some v => makeSliceV P σ t u v
  | _, _ => none
def xSlice (P : Program) (σ : St) (ts : Ts) (o : Oper) (t : TypeId) : Option Value → Option (Option Value) → Option (Option Value) → Option (Option Value) → Option (Value × St)
  | some v, some l, some h, some m => orElse (one σ (sliceV P σ t v l h m)) fun _ => pureV P σ ts o
  | _, _, _, _ => none
def xFieldAddr (P : Program) (σ : St) (s : TypeId) (f : Nat) : Option Value → Option (Value × St)
  | some v => one σ (fieldAddrV P s v f)
  | none => none
def xField (P : Program) (σ : St) (t : TypeId) (f : Nat) : Option Value → Option (Value × St)
  | some v => one σ (fieldV P t v f)
  | none => none
def xIndexAddr (P : Program) (σ : St) (t : TypeId) : Option Value → Option Value → Option (Value × St)
  | some v, some u => one σ (indexAddrV P t v u)
  | _, _ => none
def xIndex (P : Program) (σ : St) (ts : Ts) (o : Oper) (t : TypeId) : Option Value → Option Value → Option (Value × St)
  | some v, some u => orElse (one σ (indexV P t v u)) fun _ => pureV P σ ts o
  | _, _ => none
def xExtract (σ : St) (ix : Nat) : Option Value → Option (Value × St)
  | some v => one σ (extractV v ix)
  | none => none
def xCall (P : Program) (σ : St) (ts : Ts) (o : Oper) (c : Call) : Option (Value × St) :=
  match c.callee with
  | .builtin b => orElse (builtinV P σ ts b c.argTypes.toList c.args.toList) fun _ => pureV P σ ts o
  | _ => none
def xNot (P : Program) (σ : St) (ts : Ts) (o : Oper) (op : UnOp) : Option Value → Option (Value × St)
  | some (.bool b) => match op with
    | .not => some (.bool (!b), σ)
    | _ => none
  | _ => pureV P σ ts o
def exec (P : Program) (σ : St) (ts : Ts) (o : Oper) : Option (Value × St) :=
  match o.op with
  | .move x => one σ (evo ts x)
  | .assign x => one σ (evo ts x)
  | .pick c x y => xPick σ ts x y (evo ts c)
  | .alloc e => allocV P σ e
  | .box _ x => xBox σ (evo ts x)
  | .build t ps => one σ (buildV P ts t ps.toList)
  | .buildSlice t n ps => buildSliceV P σ ts t n ps.toList
  | .load t x => xLoad P σ t (evo ts x)
  | .store t x y => xStore P σ t (evo ts x) (evo ts y)
  | .nilCheck x => xNil P σ ts o (evo ts x)
  | .binOp op t x y _ => xBin P σ ts o op t (evo ts x) (evo ts y)
  | .unOp op _ x => xNot P σ ts o op (evo ts x)
  | .makeInterface t x => xIface P σ t (evo ts x)
  | .makeFunc f first captured => one σ (makeFuncV ts f first.toList captured.toList)
  | .makeSlice t x y => xMake P σ t (evo ts x) (evo ts y)
  | .slice t x lo hi mx => xSlice P σ ts o t (evo ts x) (evos ts lo) (evos ts hi) (evos ts mx)
  | .fieldAddr s x f => xFieldAddr P σ s f (evo ts x)
  | .field t x f => xField P σ t f (evo ts x)
  | .indexAddr t x y => xIndexAddr P σ t (evo ts x) (evo ts y)
  | .index t x y => xIndex P σ ts o t (evo ts x) (evo ts y)
  | .extract x ix => xExtract σ ix (evo ts x)
  | .call c => xCall P σ ts o c
  | _ => pureV P σ ts o
theorem one_some {σ σ' : St} {x : Option Value} {r : Value} (h : one σ x = some (r, σ')) : x = some r ∧ σ' = σ := by
  unfold one at h
  split at h
  · cases h; exact ⟨rfl, rfl⟩
  · cases h
theorem orElse_some {x : Option (Value × St)} {y : Unit → Option (Value × St)} {r : Value × St} (h : orElse x y = some r) : x = some r ∨ y () = some r := by
  unfold orElse at h
  split at h
  · exact .inl h
  · exact .inr h
theorem pureV_does {P : Program} {μ : Mu} {σ σ' : St} {w : World} {ts : Ts} {a : Act} {o : Oper} {r : Value} (hT : TRel μ ts a) (hR : Rel μ σ w) (he : pureV P σ ts o = some (r, σ')) : Does P μ σ w a.eval o r σ' := by
  unfold pureV at he
  simp only [Option.map_eq_some_iff, Prod.mk.injEq] at he
  obtain ⟨r0, h1, rfl, rfl⟩ := he
  exact pureOp_does hT hR h1
theorem exec_does {P : Program} {μ : Mu} {σ σ' : St} {w : World} {ts : Ts} {a : Act} {o : Oper} {r : Value} (hT : TRel μ ts a) (hR : Rel μ σ w) (he : exec P σ ts o = some (r, σ')) (hf : ∀ j, σ.size ≤ j → j < σ'.size → μ j = none) : Does P μ σ w a.eval o r σ' := by
  have pv : ∀ {s : St} {v : Value}, pureV P σ ts o = some (v, s) → Does P μ σ w a.eval o v s := fun h => pureV_does hT hR h
  unfold exec at he
  split at he
  case h_1 x ho =>
    obtain ⟨h1, rfl⟩ := one_some he
    exact does_val hR (evo_rel hT h1) (by simp [execOp, ho])
  case h_2 x ho =>
    obtain ⟨h1, rfl⟩ := one_some he
    exact does_val hR (evo_rel hT h1) (by simp [execOp, ho])
  case h_3 c x y ho =>
    unfold xPick at he
    split at he
    case h_2 => cases he
    rename_i t hc
    obtain ⟨h1, rfl⟩ := one_some he
    have hcc : a.eval c = .bool t := scalar_eq (by rfl) (evo_rel hT hc)
    refine does_val hR (evo_rel hT h1) ?_
    simp [execOp, ho, hcc, asBool]
    cases t <;> simp
  case h_4 e ho => exact allocV_does hR he hf ho
  case h_5 e x ho =>
    unfold xBox at he
    split at he
    case h_2 => cases he
    rename_i v hv
    exact boxV_does hR he hf ho (evo_rel hT hv)
  case h_6 t ps ho =>
    obtain ⟨h1, rfl⟩ := one_some he
    exact buildV_does hT hR ho h1
  case h_7 t n ps ho => exact buildSliceV_does hT hR ho he hf
  case h_8 t x ho =>
    unfold xLoad at he
    split at he
    case h_2 => cases he
    rename_i k off hx
    obtain ⟨h1, rfl⟩ := one_some he
    obtain ⟨L, hL, hxx⟩ := ptr_inv (evo_rel hT hx)
    obtain ⟨r', g1, g2⟩ := loadB_does (w := w) hR hL h1
    refine does_val hR g2 ?_
    simp [execOp, ho, hxx, Instr.loadAt, Instr.sureAddr, g1]
  case h_9 t x y ho =>
    unfold xStore at he
    split at he
    case h_2 => cases he
    rename_i k off v hx hy
    unfold xUnit at he
    split at he
    case h_2 => cases he
    rename_i s h1
    cases he
    obtain ⟨L, hL, hxx⟩ := ptr_inv (evo_rel hT hx)
    obtain ⟨w', g1, g2, g3⟩ := storeB_does (P := P) hR hL (evo_rel hT hy) h1
    refine ⟨μ, undef, w', .skip, ?_, .inr ⟨rfl, rfl⟩, vrel_undef μ, g2, g3⟩
    simp [execOp, ho, hxx, Instr.storeAt, Instr.sureAddr, g1]
  case h_10 x ho =>
    unfold xNil at he
    split at he
    case h_2 => cases he
    rename_i v hv
    rcases orElse_some he with he | he
    · obtain ⟨h1, rfl⟩ := one_some he
      exact nilCheckV_does hR ho (evo_rel hT hv) h1
    · exact pv he
  case h_11 op t x y t' ho =>
    unfold xBin at he
    split at he
    · rename_i k i k' j hx hy
      unfold xInt at he
      split at he
      · rename_i hk
        rcases orElse_some he with he | he
        · obtain ⟨h1, rfl⟩ := one_some he
          exact intV_does hR ho (int_inv (evo_rel hT hx)) (int_inv (evo_rel hT hy)) hk h1
        · exact pv he
      · exact pv he
    · rename_i v u _ hv hu
      rcases orElse_some he with he | he
      · obtain ⟨h1, rfl⟩ := one_some he
        exact nilEqV_does hR ho (evo_rel hT hv) (evo_rel hT hu) h1
      · exact pv he
    · cases he
  case h_12 op t x ho =>
    unfold xNot at he
    split at he
    · rename_i b hx
      split at he
      · cases he
        have hxx : a.eval x = .bool b := scalar_eq (by rfl) (evo_rel hT hx)
        exact does_val hR (.sc _ rfl) (by simp [execOp, ho, hxx, Op.unary])
      · cases he
    · exact pv he
  case h_13 t x ho =>
    unfold xIface at he
    split at he
    case h_2 => cases he
    rename_i v hv
    obtain ⟨h1, rfl⟩ := one_some he
    exact makeIfaceV_does hR ho (evo_rel hT hv) h1
  case h_14 f first captured ho =>
    obtain ⟨h1, rfl⟩ := one_some he
    exact makeFuncV_does hT hR ho h1
  case h_15 t x y ho =>
    unfold xMake at he
    split at he
    case h_2 => cases he
    rename_i u v hu hv
    exact makeSliceV_does hR ho (evo_rel hT hu) (evo_rel hT hv) he hf
  case h_16 t x lo hi mx ho =>
    unfold xSlice at he
    split at he
    case h_2 => cases he
    rename_i v l h m hv hl hh hm
    rcases orElse_some he with he | he
    · obtain ⟨h1, rfl⟩ := one_some he
      exact sliceV_does hR ho (evo_rel hT hv) (evos_rel hT hl) (evos_rel hT hh) (evos_rel hT hm) h1
    · exact pv he
  case h_17 s x f ho =>
    unfold xFieldAddr at he
    split at he
    case h_2 => cases he
    rename_i v hv
    obtain ⟨h1, rfl⟩ := one_some he
    exact fieldAddrV_does hR ho (evo_rel hT hv) h1
  case h_18 t x f ho =>
    unfold xField at he
    split at he
    case h_2 => cases he
    rename_i v hv
    obtain ⟨h1, rfl⟩ := one_some he
    exact fieldV_does hR ho (evo_rel hT hv) h1
  case h_19 t x y ho =>
    unfold xIndexAddr at he
    split at he
    case h_2 => cases he
    rename_i v u hv hu
    obtain ⟨h1, rfl⟩ := one_some he
    exact indexAddrV_does hR ho (evo_rel hT hv) (evo_rel hT hu) h1
  case h_20 t x y ho =>
    unfold xIndex at he
    split at he
    case h_2 => cases he
    rename_i v u hv hu
    rcases orElse_some he with he | he
    · obtain ⟨h1, rfl⟩ := one_some he
      exact indexV_does hR ho (evo_rel hT hv) (evo_rel hT hu) h1
    · exact pv he
  case h_21 x ix ho =>
    unfold xExtract at he
    split at he
    case h_2 => cases he
    rename_i v hv
    obtain ⟨h1, rfl⟩ := one_some he
    exact extractV_does hR ho (evo_rel hT hv) h1
  case h_22 c ho =>
    unfold xCall at he
    split at he
    case h_2 => cases he
    rename_i b hc
    rcases orElse_some he with he | he
    · exact builtinV_does hT hR ho hc he hf
    · exact pv he
  case h_23 => exact pv he
end
end Go.Proofs.Ytadamjleglckpaa.ev

/- The reckoner: calls and code. -/
namespace Go.Proofs.Ytadamjleglckpaa.ev
noncomputable section
open Go.RowKit
set_option linter.unusedSimpArgs false
set_option linter.unusedVariables false
set_option linter.unusedSectionVars false

/-- what is known of calls: what they answer, nothing else done -/
class Kn where
  val : FuncId → List Value → Option Value
variable [Kn]
structure Fd where
  body : Code
  ntmps : Nat
  results : List ResultVar
def fdOf (P : Program) (g : FuncId) : Option Fd :=
  match P.funcs[g]? with
  | some fn => match fn.body with
    | some c => if fn.name == "runtime.NumGoroutine" then none else some ⟨c, fn.ntmps, fn.results.toList⟩
    | none => none
  | none => none
inductive Ex where
  | norm
  | exit (id : Nat)
  | ret
def Ex.of : Ex → Exit
  | .norm => .normal
  | .exit id => .exit id
  | .ret => .ret
abbrev Ih := Code → Ts → St → Option (Ex × Ts × St)
def callOf (P : Program) (ts : Ts) (o : Oper) : Option (FuncId × List Value) :=
  match o.op with
  | .call c => match c.callee with
    | .value f => match evo ts f with
      | some (.func (.func g) first captured) => if oksL ts c.args.toList then some (g, first.toList ++ c.args.toList.map (vof ts) ++ captured.toList) else none
      | _ => none
    | .invoke recv name => match evo ts recv with
      | some (.iface t v) => if flat v && oksL ts c.args.toList then match pureRun P (method (P.types.size + Made.depth) t v name) with
          | some (g, u) => if flat u then some (g, u :: c.args.toList.map (vof ts)) else none
          | none => none
        else none
      | _ => none
    | .builtin _ => none
  | _ => none
def resultsV (P : Program) (σ : St) (ts : Ts) : List ResultVar → Option (List Value)
  | [] => some []
  | .tmp t :: l => match resultsV P σ ts l with
    | some r => some (getT ts t :: r)
    | none => none
  | .cell p ty :: l => match getT ts p with
    | .pointer (some ⟨k, o, none⟩) => match loadB P σ ty k o, resultsV P σ ts l with
      | some v, some r => some (v :: r)
      | _, _ => none
    | _ => none
def oneOf : List Value → Value
  | [v] => v
  | l => .tuple l.toArray
def fillT : Nat → List Value → Ts → Ts
  | _, [], ts => ts
  | k, v :: l, ts => fillT (k + 1) l (setT ts k v)
def frameT (n : Nat) (args : List Value) : Ts := fillT 0 args (slots0 n)
def okF (a n : Nat) : Bool := Bool.rec false (Nat.ble n 512) (Nat.ble a n)
theorem okF_le {a n : Nat} (h : okF a n = true) : a ≤ n ∧ n ≤ 512 := by
  unfold okF at h
  cases h2 : Nat.ble a n with
  | false => rw [h2] at h; cases h
  | true => rw [h2] at h; exact ⟨Nat.le_of_ble_eq_true h2, Nat.le_of_ble_eq_true h⟩
def callK (P : Program) (ih : Ih) (fd : Fd) (args : List Value) (σ : St) : Option (Value × St) :=
  match okF args.length fd.ntmps with
   | false => none
   | true => match ih fd.body (frameT fd.ntmps args) σ with
    | some (.norm, ts, σ') => match resultsV P σ' ts fd.results with
      | some l => some (oneOf l, σ')
      | none => none
    | some (.ret, ts, σ') => match resultsV P σ' ts fd.results with
      | some l => some (oneOf l, σ')
      | none => none
    | _ => none
def callF (P : Program) (ih : Ih) (g : FuncId) (args : List Value) (σ : St) : Option (Value × St) :=
  match fdOf P g with
  | some fd => match Kn.val g args with
    | some r => some (r, σ)
    | none => callK P ih fd args σ
  | none => none
def opV (P : Program) (ih : Ih) (ts : Ts) (σ : St) (o : Oper) : Option (Value × St) :=
  match callOf P ts o with
  | some (g, args) => callF P ih g args σ
  | none => exec P σ ts o
def boolOf : Value → Option Bool
  | .bool b => some b
  | _ => none
def wantedV (all : Array Oper) (ts : Ts) (o : Oper) : Bool :=
  match o.guard with
  | none => true
  | some (j, want) => (match (all[j]?).bind (·.dst) with
    | some d => boolOf (getT ts d)
    | none => none) == some want
def opsV (P : Program) (ih : Ih) (all : Array Oper) : List Oper → Ts → St → Option (Ts × St)
  | [], ts, σ => some (ts, σ)
  | o :: rest, ts, σ => if wantedV all ts o then match opV P ih ts σ o with
      | some (v, σ') => if σ.size ≤ σ'.size then opsV P ih all rest (putV ts o.dst v) σ' else none
      | none => none
    else opsV P ih all rest (putV ts o.dst undef) σ
def stepV (P : Program) (draw : Ih → Array Oper → Ts → St → Option (Ts × St)) (ih : Ih) : Ih
  | .skip, ts, σ => some (.norm, ts, σ)
  | .label _, ts, σ => some (.norm, ts, σ)
  | .region _ ops d, ts, σ => match (if d then draw ih ops ts σ else opsV P ih ops ops.toList ts σ) with
    | some (ts', σ') => some (.norm, ts', σ')
    | none => none
  | .seq x y, ts, σ => match ih x ts σ with
    | some (.norm, ts', σ') => ih y ts' σ'
    | r => r
  | .cond c x y, ts, σ => match evo ts c with
    | some (.bool t) => ih (if t then x else y) ts σ
    | _ => none
  | .block id b, ts, σ => match ih b ts σ with
    | some (.exit id', ts', σ') => some (if id' = id then .norm else .exit id', ts', σ')
    | r => r
  | .loop b, ts, σ => match ih b ts σ with
    | some (.norm, ts', σ') => ih (.loop b) ts' σ'
    | r => r
  | .scope b, ts, σ => ih b ts σ
  | .exit id, ts, σ => some (.exit id, ts, σ)
  | .ret, ts, σ => some (.ret, ts, σ)
  | _, _, _ => none
end
end Go.Proofs.Ytadamjleglckpaa.ev

