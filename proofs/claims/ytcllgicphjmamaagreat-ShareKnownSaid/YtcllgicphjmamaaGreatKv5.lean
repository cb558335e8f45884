/- The reckoner's operations: structs, new rows, append, copy. -/
import Derived.Test.YtcllgicphjmamaaGreatKv4
import Derived.IntWalk
namespace Go.Proofs.YtcllgicphjmamaaGreat.ev
noncomputable section
open Go.RowKit
set_option linter.unusedSimpArgs false
set_option linter.unusedVariables false
set_option linter.unusedSectionVars false

/-! filling -/
theorem lrel_fold {μ : Mu} (off : Nat) : ∀ {l l' : List Value}, LRel μ l l' → ∀ (j : Nat) {cs cs' : Array Value}, LRel μ cs.toList cs'.toList →
    LRel μ ((l.zipIdx j).foldl (fun (cs : Array Value) (p : Value × Nat) => cs.setIfInBounds (off + p.2) p.1) cs).toList ((l'.zipIdx j).foldl (fun (cs : Array Value) (p : Value × Nat) => cs.setIfInBounds (off + p.2) p.1) cs').toList
  | _, _, .nil, j, cs, cs', h => by simpa using h
  | _, _, .cons v v' l l' hv hl, j, cs, cs', h => by
    simp only [List.zipIdx_cons, List.foldl_cons]
    refine lrel_fold off hl (j + 1) ?_
    simpa [Array.toList_setIfInBounds] using h.set hv (off + j)
theorem fill_rel {μ : Mu} (place : Nat → Option (Nat × Nat)) (f f' : Operand → Value) : ∀ (ps : List (Nat × Operand)) (cs cs' r : Array Value), (∀ p ∈ ps, VRel μ (f p.2) (f' p.2)) → LRel μ cs.toList cs'.toList →
    Instr.fill place cs (ps.map fun p => (p.1, f p.2)) = some r → ∃ r', Instr.fill place cs' (ps.map fun p => (p.1, f' p.2)) = some r' ∧ LRel μ r.toList r'.toList
  | [], cs, cs', r, _, hc, h => by
    simp [Instr.fill] at h
    subst h
    exact ⟨cs', by simp [Instr.fill], hc⟩
  | (i, x) :: ps, cs, cs', r, hp, hc, h => by
    simp only [List.map_cons, Instr.fill] at h ⊢
    split at h
    · cases h
    · rename_i off size hpl
      split at h
      · cases h
      · rename_i hb
        have hx := cells_rel (hp (i, x) (by simp))
        have hxl := hx.length
        have hcl := hc.length
        simp only [Array.length_toList] at hxl hcl
        rw [if_neg (by rw [← hxl, ← hcl]; exact hb)]
        refine fill_rel place f f' ps _ _ r (fun p hpp => hp p (by simp [hpp])) ?_ h
        have := lrel_fold off hx 0 hc
        rw [← Array.foldl_toList, ← Array.foldl_toList, Array.toList_zipIdx, Array.toList_zipIdx]
        exact this
def oksP (ts : Ts) (ps : List (Nat × Operand)) : Bool := ps.all fun p => (evo ts p.2).isSome
def vof (ts : Ts) (x : Operand) : Value := (evo ts x).getD undef
theorem vof_rel {μ : Mu} {ts : Ts} {a : Act} (h : TRel μ ts a) {x : Operand} (hs : (evo ts x).isSome = true) : VRel μ (vof ts x) (a.eval x) := by
  obtain ⟨v, hv⟩ := Option.isSome_iff_exists.1 hs
  rw [vof, hv]
  exact evo_rel h hv
def buildV (P : Program) (ts : Ts) (t : TypeId) (ps : List (Nat × Operand)) : Option Value :=
  if oksP ts ps then
    match P.info? t with
    | some it => match it.zero with
      | some z => if flatL z.cells.toList then (P.built t (ps.map fun p => (p.1, vof ts p.2))).map .agg else none
      | none => none
    | none => none
  else none
theorem buildV_does {P : Program} {μ : Mu} {σ : St} {w : World} {ts : Ts} {a : Act} {o : Oper} {t : TypeId} {ps : Array (Nat × Operand)} {r : Value} (hT : TRel μ ts a) (hR : Rel μ σ w) (ho : o.op = .build t ps) (he : buildV P ts t ps.toList = some r) : Does P μ σ w a.eval o r σ := by
  unfold buildV at he
  split at he
  · rename_i hok
    split at he
    · rename_i it hit
      split at he
      · rename_i z hz
        split at he
        · rename_i hfl
          simp only [Option.map_eq_some_iff] at he
          obtain ⟨cells, hb, rfl⟩ := he
          have hp : ∀ p ∈ ps.toList, VRel μ (vof ts p.2) (a.eval p.2) := fun p hp => vof_rel hT (by simpa using List.all_eq_true.1 hok p hp)
          have key : ∃ c', P.built t (ps.toList.map fun p => (p.1, a.eval p.2)) = some c' ∧ LRel μ cells.toList c'.toList := by
            unfold Program.built at hb ⊢
            rw [hit] at hb ⊢
            cases hu : P.underlying t with
            | none => simp [hu] at hb
            | some d =>
              cases d <;> simp only [hu, hz] at hb ⊢ <;> try (cases hb; done)
              · rename_i n e
                cases hie : P.info? e with
                | none => simp [hie] at hb
                | some ie =>
                  simp only [hie] at hb ⊢
                  exact fill_rel _ _ _ _ _ _ _ hp (flatL_rel μ hfl) hb
              · rename_i fields
                cases hpl : fields.toList.mapM (fun f => (P.info? f.type).map fun i => (f.offset, i.size)) with
                | none => simp [hpl] at hb
                | some places =>
                  simp only [hpl] at hb ⊢
                  exact fill_rel _ _ _ _ _ _ _ hp (flatL_rel μ hfl) hb
          obtain ⟨c', h1, h2⟩ := key
          refine does_val (r' := .agg c') hR (by simpa using VRel.agg _ _ h2) ?_
          have := run_build (P := P) w t (ps.map fun p => (p.1, a.eval p.2)) c' (by simpa using h1)
          simp only [execOp, ho, Sem.run_bind]
          rw [show (ps.map fun (x : Nat × Operand) => match x with | (i, x) => (i, a.eval x)) = ps.map fun p => (p.1, a.eval p.2) from rfl, this]
          rfl
        · cases he
      · cases he
    · cases he
  · cases he
def zrow (z : Value) (n : Nat) : Array Value := (Array.range n).map ((if n = 0 then (#[] : Array Value) else z.cells)[· % (if n = 0 then (#[] : Array Value) else z.cells).size]!)
theorem run_buildSlice {P : Program} {w : World} {t e : TypeId} {i : TypeInfo} {z : Value} {n : Nat} {parts : Array (Nat × Value)} {c : Array Value} (hu : P.underlying t = some (.slice e)) (hi : P.info? e = some i) (hz : i.zero = some z) (hle : n * i.size ≤ 16777216)
    (hf : Instr.fill (fun j => some (j * i.size, i.size)) (zrow z (n * i.size)) parts.toList = some c) : (Instr.buildSlice t n parts).run P w = .ok (.slice (some ⟨w.heap.size, 0, none⟩) n n) (w.alloc (.cells c e)) := by
  have hle' : ¬ 2 ^ 24 < n * i.size := by omega
  by_cases h0 : n * i.size = 0
  · simp only [zrow, h0, if_true] at hf
    simp only [Instr.buildSlice, Sem.run_bind, run_underlying hu, Result.andThen_ok, sizeOf, typeInfo, run_program, hi, Sem.run_pure, Sem.run_ite, h0, if_true, gt_iff_lt, hf, newRow, run_newObj]
    simp [hf]
  · simp only [zrow, h0, if_false] at hf
    simp only [Instr.buildSlice, Sem.run_bind, run_underlying hu, Result.andThen_ok, sizeOf, typeInfo, run_program, hi, Sem.run_pure, Sem.run_ite, h0, if_false, zeroValue, hz, gt_iff_lt, hle', hf, newRow, run_newObj]
    rfl
def buildSliceV (P : Program) (σ : St) (ts : Ts) (t : TypeId) (n : Nat) (ps : List (Nat × Operand)) : Option (Value × St) :=
  if oksP ts ps then
    match P.underlying t with
    | some (.slice e) => match P.info? e with
      | some i => match i.zero with
        | some z =>
          if n * i.size ≤ 16777216 ∧ n < opn ∧ flatL (zrow z (n * i.size)).toList = true then
            match Instr.fill (fun j => some (j * i.size, i.size)) (zrow z (n * i.size)) (ps.map fun p => (p.1, vof ts p.2)) with
            | some cells => (newP σ cells.toList i.size).map fun p => (.slice (some ⟨p.1, 0, none⟩) n n, p.2)
            | none => none
          else none
        | none => none
      | none => none
    | _ => none
  else none
theorem buildSliceV_does {P : Program} {μ : Mu} {σ σ' : St} {w : World} {ts : Ts} {a : Act} {o : Oper} {t : TypeId} {n : Nat} {ps : Array (Nat × Operand)} {r : Value} (hT : TRel μ ts a) (hR : Rel μ σ w) (ho : o.op = .buildSlice t n ps) (he : buildSliceV P σ ts t n ps.toList = some (r, σ')) (hf : ∀ j, σ.size ≤ j → j < σ'.size → μ j = none) : Does P μ σ w a.eval o r σ' := by
  unfold buildSliceV at he
  split at he
  · rename_i hok
    split at he
    · rename_i e hu
      split at he
      · rename_i i hi
        split at he
        · rename_i z hz
          split at he
          · rename_i hc
            obtain ⟨hc1, hc2, hc3⟩ := hc
            split at he
            · rename_i cells hfill
              simp only [Option.map_eq_some_iff, Prod.exists, Prod.mk.injEq] at he
              obtain ⟨k, s, hn, rfl, rfl⟩ := he
              have hp : ∀ p ∈ ps.toList, VRel μ (vof ts p.2) (a.eval p.2) := fun p hp => vof_rel hT (by simpa using List.all_eq_true.1 hok p hp)
              obtain ⟨c', h1, h2⟩ := fill_rel (fun j => some (j * i.size, i.size)) (vof ts) a.eval ps.toList _ _ _ hp (flatL_rel μ hc3) hfill
              have hl := h2.length
              obtain ⟨rfl, g1, g2⟩ := newP_does (P := P) (w1 := w.alloc (.cells c' e)) hR hn hf e (c := c') (by rw [hl]; simp) (by rw [hl, List.take_length]; exact h2) rfl rfl rfl rfl
              refine ⟨_, .slice (some ⟨w.heap.size, 0, none⟩) n n, w.alloc (.cells c' e), _, ?_, .inl rfl, ?_, g1, g2⟩
              · have := run_buildSlice (P := P) (w := w) (parts := ps.map fun p => (p.1, a.eval p.2)) hu hi hz hc1 (by simpa using h1)
                simp only [execOp, ho, Sem.run_bind]
                rw [show (ps.map fun (x : Nat × Operand) => match x with | (i, x) => (i, a.eval x)) = ps.map fun p => (p.1, a.eval p.2) from rfl, this]
                rfl
              · have := VRel.slc (μ := μ.add σ.size ⟨w.heap.size, 0, c'.size, i.size⟩) σ.size 0 n n ⟨w.heap.size, 0, c'.size, i.size⟩ (Mu.add_self _ _ _) hc2
                simpa using this
            · cases he
          · cases he
        · cases he
      · cases he
    · cases he
  · cases he
/-! make -/
def makeSliceV (P : Program) (σ : St) (t : TypeId) (l c : Value) : Option (Value × St) :=
  match l, c with
  | .int _ l, .int _ c =>
    match P.underlying t with
    | some (.slice e) => match P.info? e with
      | some i => match i.zero with
        | some z =>
          if 0 ≤ l ∧ l ≤ c ∧ c ≤ 1000000 ∧ i.bytes ≤ 1000000 ∧ flatL (zrow z (c.toNat * i.size)).toList = true then
            (newP σ (zrow z (c.toNat * i.size)).toList i.size).map fun p => (.slice (some ⟨p.1, 0, none⟩) l.toNat c.toNat, p.2)
          else none
        | none => none
      | none => none
    | _ => none
  | _, _ => none
theorem i64_small {c : Int} (h0 : 0 ≤ c) (h1 : c ≤ 1000000) : IntKind.i64.wrap c = c := IntWalk.i64_in _ (by omega)
theorem run_makeSlice {P : Program} {w : World} {t e : TypeId} {i : TypeInfo} {z : Value} {k k' : IntKind} {l c : Int} (hu : P.underlying t = some (.slice e)) (hi : P.info? e = some i) (hz : i.zero = some z) (h0 : 0 ≤ l) (h1 : l ≤ c) (h2 : c ≤ 1000000) (h3 : i.bytes ≤ 1000000) :
    (Instr.makeSlice t (.int k l) (.int k' c)).run P w = .ok (.slice (some ⟨w.heap.size, 0, none⟩) l.toNat c.toNat) (w.alloc (.cells (zrow z (c.toNat * i.size)) e)) := by
  have w1 := i64_small h0 (by omega : l ≤ 1000000)
  have w2 := i64_small (by omega : 0 ≤ c) h2
  have hm : (i.bytes : Int) * c ≤ 1000000 * 1000000 := by
    refine Int.le_trans (Int.mul_le_mul_of_nonneg_right (by omega : (i.bytes : Int) ≤ 1000000) (by omega)) (Int.mul_le_mul_of_nonneg_left h2 (by omega))
  have b1 : ¬ c < 0 := by omega
  have b2 : ¬ (2 ^ 48 < (i.bytes : Int) * c) := by omega
  have b3 : ¬ l < 0 := by omega
  have b4 : ¬ c < l := by omega
  by_cases hn : c.toNat * i.size = 0
  · simp [Instr.makeSlice, run_underlying hu, asInt, asIntOf, typeInfo, hi, w1, w2, b1, b2, b3, b4, sizeOf, hn, newRow, zrow]
    intro hx; omega
  · simp [Instr.makeSlice, run_underlying hu, asInt, asIntOf, typeInfo, hi, w1, w2, b1, b2, b3, b4, sizeOf, hn, newRow, zrow, zeroValue, hz]
    intro hx; omega
theorem makeSliceV_does {P : Program} {μ : Mu} {σ σ' : St} {w : World} {ρ : Operand → Value} {o : Oper} {t : TypeId} {x y : Operand} {u v r : Value} (hR : Rel μ σ w) (ho : o.op = .makeSlice t x y) (hu : VRel μ u (ρ x)) (hv : VRel μ v (ρ y)) (he : makeSliceV P σ t u v = some (r, σ')) (hf : ∀ j, σ.size ≤ j → j < σ'.size → μ j = none) : Does P μ σ w ρ o r σ' := by
  unfold makeSliceV at he
  split at he
  · rename_i k l k' c
    split at he
    · rename_i e hut
      split at he
      · rename_i i hi
        split at he
        · rename_i z hz
          split at he
          · rename_i hc
            obtain ⟨c1, c2, c3, c4, c5⟩ := hc
            simp only [Option.map_eq_some_iff, Prod.exists, Prod.mk.injEq] at he
            obtain ⟨kk, s, hn, rfl, rfl⟩ := he
            obtain ⟨rfl, g1, g2⟩ := newP_does (P := P) (w1 := w.alloc (.cells (zrow z (c.toNat * i.size)) e)) hR hn hf e (c := zrow z (c.toNat * i.size)) (by simp) (by rw [show (zrow z (c.toNat * i.size)).toList.length = (zrow z (c.toNat * i.size)).size by simp, List.take_of_length_le (by simp)]; exact flatL_rel μ c5) rfl rfl rfl rfl
            refine ⟨_, .slice (some ⟨w.heap.size, 0, none⟩) l.toNat c.toNat, w.alloc (.cells (zrow z (c.toNat * i.size)) e), _, ?_, .inl rfl, ?_, g1, g2⟩
            · rw [show execOp ρ o = (do pure (.value (← Instr.makeSlice t (ρ x) (ρ y)))) by simp [execOp, ho], int_inv hu, int_inv hv]
              simp only [Sem.run_bind, run_makeSlice (P := P) (w := w) hut hi hz c1 c2 c3 c4]
              rfl
            · have := VRel.slc (μ := μ.add σ.size ⟨w.heap.size, 0, (zrow z (c.toNat * i.size)).size, i.size⟩) σ.size 0 l.toNat c.toNat ⟨w.heap.size, 0, (zrow z (c.toNat * i.size)).size, i.size⟩ (Mu.add_self _ _ _) (by unfold opn; omega)
              simpa using this
          · cases he
        · cases he
      · cases he
    · cases he
  · cases he

/-! parts of values -/
def partV (P : Program) (t : TypeId) (cs : Array Value) (off : Nat) : Option Value :=
  match P.underlying t, P.info? t with
  | some d, some i => if d.isRow then some (.agg (cs.extract off (off + i.size))) else cs[off]?
  | _, _ => none
theorem partV_does {P : Program} {μ : Mu} {w : World} {t : TypeId} {cs cs' : Array Value} {off : Nat} {r : Value} (h : LRel μ cs.toList cs'.toList) (he : partV P t cs off = some r) : ∃ r', (part t cs' off).run P w = .ok r' w ∧ VRel μ r r' := by
  unfold partV at he
  split at he
  · rename_i d i hd hi
    have hagg : (isAgg t).run P w = .ok d.isRow w := by
      unfold isAgg
      rw [Sem.run_bind, run_underlying hd w]
      cases d <;> simp [TypeDesc.isRow]
    split at he
    · rename_i hrow
      simp only [Option.some.injEq] at he
      subst he
      refine ⟨.agg (cs'.extract off (off + i.size)), by simp [part, hagg, hrow, sizeOf, typeInfo, hi], ?_⟩
      have e : ∀ c : Array Value, c.extract off (off + i.size) = ((c.toList.take (off + i.size)).drop off).toArray := fun c => by
        apply Array.ext'
        apply List.ext_getElem?
        intro j
        simp only [Array.getElem?_toList, Array.getElem?_extract, List.toList_toArray, List.getElem?_drop, List.getElem?_take]
        by_cases hj : j < min (off + i.size) c.size - off
        · rw [if_pos hj, if_pos (by omega)]
        · rw [if_neg hj]
          by_cases hk : off + j < off + i.size
          · rw [if_pos hk, Array.getElem?_eq_none (by omega)]
          · rw [if_neg hk]
      rw [e, e]
      exact .agg _ _ ((h.take _).drop _)
    · rename_i hrow
      obtain ⟨r', h1, h2⟩ := h.get off r (by simpa using he)
      refine ⟨r', ?_, h2⟩
      have h1' : cs'[off]? = some r' := by simpa using h1
      simp [part, hagg, hrow, h1']
  · cases he
theorem agg_inv {μ : Mu} {cs : Array Value} {v' : Value} (h : VRel μ (.agg cs) v') : ∃ cs', v' = .agg cs' ∧ LRel μ cs.toList cs'.toList := by
  cases h with
  | sc v h => simp [scalar] at h
  | agg l l' h => exact ⟨_, rfl, by simpa using h⟩
theorem tuple_inv {μ : Mu} {cs : Array Value} {v' : Value} (h : VRel μ (.tuple cs) v') : ∃ cs', v' = .tuple cs' ∧ LRel μ cs.toList cs'.toList := by
  cases h with
  | sc v h => simp [scalar] at h
  | tuple l l' h => exact ⟨_, rfl, by simpa using h⟩
theorem iface_inv {μ : Mu} {t : TypeId} {v v' : Value} (h : VRel μ (.iface t v) v') : ∃ u, v' = .iface t u ∧ VRel μ v u := by
  cases h with
  | sc v h => simp [scalar] at h
  | iface t v v' h => exact ⟨_, rfl, h⟩
theorem func_inv {μ : Mu} {g : FuncId} {a c : Array Value} {v' : Value} (h : VRel μ (.func (.func g) a c) v') : ∃ a' c', v' = .func (.func g) a' c' ∧ LRel μ a.toList a'.toList ∧ LRel μ c.toList c'.toList := by
  cases h with
  | sc v h => simp [scalar] at h
  | fn g l l' c c' h hc => exact ⟨_, _, rfl, by simpa using h, by simpa using hc⟩
def fieldV (P : Program) (t : TypeId) (v : Value) (f : Nat) : Option Value :=
  match P.underlying t, v with
  | some (.struct fs), .agg cs => match fs[f]? with
    | some fd => partV P fd.type cs fd.offset
    | none => none
  | _, _ => none
theorem fieldV_does {P : Program} {μ : Mu} {σ : St} {w : World} {ρ : Operand → Value} {o : Oper} {t : TypeId} {x : Operand} {f : Nat} {v r : Value} (hR : Rel μ σ w) (ho : o.op = .field t x f) (hv : VRel μ v (ρ x)) (he : fieldV P t v f = some r) : Does P μ σ w ρ o r σ := by
  unfold fieldV at he
  split at he
  · rename_i fs cs hu
    split at he
    · rename_i fd hfd
      obtain ⟨cs', hx, hl⟩ := agg_inv hv
      obtain ⟨r', h1, h2⟩ := partV_does (w := w) hl he
      refine does_val hR h2 ?_
      simp [execOp, ho, Instr.field, run_underlying hu, hfd, hx, asAgg, h1]
    · cases he
  · cases he
def indexV (P : Program) (t : TypeId) (v ix : Value) : Option Value :=
  match P.underlying t, v, ix with
  | some (.array n e), .agg cs, .int _ i => match P.info? e with
    | some inf => if 0 ≤ i ∧ i < n then partV P e cs (i.toNat * inf.size) else none
    | none => none
  | _, _, _ => none
theorem indexV_does {P : Program} {μ : Mu} {σ : St} {w : World} {ρ : Operand → Value} {o : Oper} {t : TypeId} {x y : Operand} {v u r : Value} (hR : Rel μ σ w) (ho : o.op = .index t x y) (hv : VRel μ v (ρ x)) (hu : VRel μ u (ρ y)) (he : indexV P t v u = some r) : Does P μ σ w ρ o r σ := by
  unfold indexV at he
  split at he
  · rename_i n e cs k i hut
    split at he
    · rename_i inf hi
      split at he
      · rename_i hb
        obtain ⟨cs', hx, hl⟩ := agg_inv hv
        obtain ⟨r', h1, h2⟩ := partV_does (w := w) hl he
        refine does_val hR h2 ?_
        simp [execOp, ho, Instr.index, run_underlying hut, hx, int_inv hu, asIntOf, hb, sizeOf, typeInfo, hi, h1]
      · cases he
    · cases he
  · cases he
def extractV (v : Value) (ix : Nat) : Option Value :=
  match v with
  | .tuple vs => vs[ix]?
  | _ => none
theorem extractV_does {P : Program} {μ : Mu} {σ : St} {w : World} {ρ : Operand → Value} {o : Oper} {x : Operand} {ix : Nat} {v r : Value} (hR : Rel μ σ w) (ho : o.op = .extract x ix) (hv : VRel μ v (ρ x)) (he : extractV v ix = some r) : Does P μ σ w ρ o r σ := by
  unfold extractV at he
  split at he
  · rename_i vs
    obtain ⟨cs', hx, hl⟩ := tuple_inv hv
    obtain ⟨r', h1, h2⟩ := hl.get ix r (by simpa using he)
    refine does_val hR h2 ?_
    have h1' : cs'[ix]? = some r' := by simpa using h1
    simp [execOp, ho, Instr.extract, hx, h1']
  · cases he
def makeIfaceV (P : Program) (t : TypeId) (v : Value) : Option Value :=
  match P.underlying t with
  | some (.interface _) => none
  | some _ => some (.iface t v)
  | none => none
theorem makeIfaceV_does {P : Program} {μ : Mu} {σ : St} {w : World} {ρ : Operand → Value} {o : Oper} {t : TypeId} {x : Operand} {v r : Value} (hR : Rel μ σ w) (ho : o.op = .makeInterface t x) (hv : VRel μ v (ρ x)) (he : makeIfaceV P t v = some r) : Does P μ σ w ρ o r σ := by
  unfold makeIfaceV at he
  split at he
  · cases he
  · rename_i d hnd hd
    simp only [Option.some.injEq] at he
    subst he
    refine does_val hR (.iface t v (ρ x) hv) ?_
    simp only [execOp, ho, Instr.makeInterface, Sem.run_bind, run_underlying hd, Result.andThen_ok]
    cases d <;> first | rfl | exact absurd rfl (hnd _)
  · cases he
def oksL (ts : Ts) (l : List Operand) : Bool := l.all fun x => (evo ts x).isSome
theorem oksL_rel {μ : Mu} {ts : Ts} {a : Act} (h : TRel μ ts a) (l : List Operand) (hs : oksL ts l = true) : LRel μ (l.map (vof ts)) (l.map a.eval) :=
  LRel.map l fun x hx => vof_rel h (by simpa using List.all_eq_true.1 hs x hx)
def makeFuncV (ts : Ts) (f : Fn) (first captured : List Operand) : Option Value :=
  match f with
  | .func g => if oksL ts first && oksL ts captured then some (.func (.func g) (first.map (vof ts)).toArray (captured.map (vof ts)).toArray) else none
  | _ => none
theorem makeFuncV_does {P : Program} {μ : Mu} {σ : St} {w : World} {ts : Ts} {a : Act} {o : Oper} {f : Fn} {first captured : Array Operand} {r : Value} (hT : TRel μ ts a) (hR : Rel μ σ w) (ho : o.op = .makeFunc f first captured) (he : makeFuncV ts f first.toList captured.toList = some r) : Does P μ σ w a.eval o r σ := by
  unfold makeFuncV at he
  split at he
  · rename_i g
    split at he
    · rename_i hok
      simp only [Bool.and_eq_true] at hok
      simp only [Option.some.injEq] at he
      subst he
      refine does_val hR (.fn g _ _ _ _ (oksL_rel hT _ hok.1) (oksL_rel hT _ hok.2)) ?_
      simp [execOp, ho, Instr.makeFunc]
      constructor <;> (apply Array.ext'; simp)
    · cases he
  · cases he
def nilCheckV (v : Value) : Option Value :=
  match v with
  | .pointer (some ⟨k, o, none⟩) => some (.pointer (some ⟨k, o, none⟩))
  | .func (.func g) a c => some (.func (.func g) a c)
  | _ => none
theorem nilCheckV_does {P : Program} {μ : Mu} {σ : St} {w : World} {ρ : Operand → Value} {o : Oper} {x : Operand} {v r : Value} (hR : Rel μ σ w) (ho : o.op = .nilCheck x) (hv : VRel μ v (ρ x)) (he : nilCheckV v = some r) : Does P μ σ w ρ o r σ := by
  unfold nilCheckV at he
  split at he
  · rename_i k off
    simp only [Option.some.injEq] at he
    subst he
    obtain ⟨L, hL, hx⟩ := ptr_inv hv
    refine does_val hR hv ?_
    simp [execOp, ho, hx]
  · rename_i g ar c
    simp only [Option.some.injEq] at he
    subst he
    obtain ⟨a', c', hx, _, _⟩ := func_inv hv
    refine does_val hR hv ?_
    simp [execOp, ho, hx]
  · cases he
/-- compared with nil -/
def nilEqV (P : Program) (op : BinOp) (t : TypeId) (x y : Value) : Option Value :=
  match P.underlying t, x, y, op with
  | some (.slice _), .slice q _ _, .slice none 0 0, .eql => some (.bool q.isNone)
  | some (.slice _), .slice q _ _, .slice none 0 0, .neq => some (.bool (!q.isNone))
  | _, _, _, _ => none
theorem slice_nil {μ : Mu} {q : Option Addr} {n c : Nat} {v' : Value} (h : VRel μ (.slice q n c) v') : ∃ q' n' c', v' = .slice q' n' c' ∧ q'.isNone = q.isNone := by
  cases h <;> exact ⟨_, _, _, rfl, rfl⟩
theorem run_eq_nil {P : Program} {w : World} {t e : TypeId} (hu : P.underlying t = some (.slice e)) (q : Option Addr) (n c : Nat) : (Op.equal t (.slice q n c) (.slice none 0 0)).run P w = .ok q.isNone w := by
  unfold Op.equal Op.maxDepth
  rw [show (10000 : Nat) = 9999 + 1 from rfl, Op.equalIn]
  simp only [Sem.run_bind, run_underlying hu, Result.andThen_ok]
  cases q <;> rfl
theorem nilEqV_does {P : Program} {μ : Mu} {σ : St} {w : World} {ρ : Operand → Value} {o : Oper} {op : BinOp} {t t' : TypeId} {x y : Operand} {v u r : Value} (hR : Rel μ σ w) (ho : o.op = .binOp op t x y t') (hv : VRel μ v (ρ x)) (hu : VRel μ u (ρ y)) (he : nilEqV P op t v u = some r) : Does P μ σ w ρ o r σ := by
  unfold nilEqV at he
  split at he
  · rename_i e q n c hut
    simp only [Option.some.injEq] at he
    subst he
    obtain ⟨q', n', c', hx, hq⟩ := slice_nil hv
    have hy : ρ y = .slice none 0 0 := scalar_eq (by rfl) hu
    refine does_val hR (.sc _ rfl) ?_
    simp only [execOp, ho, hx, hy, Sem.run_bind, eqGuard_at_slice, binOp, run_eq_nil hut, Sem.run_pure, Result.andThen_ok, hq]
  · rename_i e q n c hut
    simp only [Option.some.injEq] at he
    subst he
    obtain ⟨q', n', c', hx, hq⟩ := slice_nil hv
    have hy : ρ y = .slice none 0 0 := scalar_eq (by rfl) hu
    refine does_val hR (.sc _ rfl) ?_
    simp only [execOp, ho, hx, hy, Sem.run_bind, eqGuard_at_slice, binOp, run_eq_nil hut, Sem.run_pure, Result.andThen_ok, hq]
  · cases he
end
end Go.Proofs.YtcllgicphjmamaaGreat.ev
