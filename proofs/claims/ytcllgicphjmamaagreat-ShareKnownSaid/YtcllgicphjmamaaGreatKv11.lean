/- The reckoner: a region that draws its order. -/
import Derived.Test.YtcllgicphjmamaaGreatKv10
namespace Go.Proofs.YtcllgicphjmamaaGreat.ev
noncomputable section
open Go.RowKit
set_option linter.unusedSimpArgs false
set_option linter.unusedVariables false
set_option linter.unusedSectionVars false
variable [Kn]

/-! an operation, by what it looks at -/
def OpRuns (P : Program) (μ : Mu) (σ : St) (w : World) (s : Sem Next) (v : Value) (σ' : St) : Prop :=
  (∃ μ' r' w' n, s.run P w = .ok n w' ∧ (n = .value r' ∨ (n = .skip ∧ r' = undef)) ∧ VRel μ' v r' ∧ Rel μ' σ' w' ∧ Step μ μ' σ σ' w w') ∨
  (∃ g args', s.run P w = .ok (.enter g args') w ∧ Calls P g args' w (Gives μ σ w v σ'))
theorem opV_runs {P : Program} {ih : Ih} (hS : Sound P ih) {ts : Ts} {σ σ' : St} {o : Oper} {v : Value} (h : opV P ih ts σ o = some (v, σ')) {μ : Mu} {a : Act} {w : World} (hT : TRel μ ts a) (hR : Rel μ σ w) (hf : Fresh μ σ σ') : OpRuns P μ σ w (execOp a.eval o) v σ' := by
  unfold opV at h
  split at h
  · rename_i g args hc
    obtain ⟨args', h1, h2⟩ := callOf_run hT hc h w
    exact .inr ⟨g, args', h1, callF_calls hS h h2 hR hf⟩
  · exact .inl (exec_does hT hR h hf)
theorem OpRuns.wp {P : Program} {μ : Mu} {σ σ' : St} {w : World} {v : Value} {o : Oper} {a : Act} (h : OpRuns P μ σ w (execOp a.eval o) v σ') {K : Act → World → Prop} {Q : Exit → Act → World → Prop}
    (hK : ∀ μ' v' w', VRel μ' v v' → Rel μ' σ' w' → Step μ μ' σ σ' w w' → K (a.put o.dst v') w') : o.wp P a w K Q := by
  rcases h with ⟨μ', r', w', n, h1, h2, h3, h4, h5⟩ | ⟨g, args', h1, h2⟩
  · unfold Oper.wp
    rw [h1]
    rcases h2 with rfl | ⟨rfl, rfl⟩
    · exact hK μ' r' w' h3 h4 h5
    · exact hK μ' undef w' h3 h4 h5
  · unfold Oper.wp
    rw [h1, Oper.upon_enter]
    refine h2.mono ?_
    rintro e w' ⟨μ', v', rfl, g1, g2, g3⟩
    exact hK μ' v' w' g1 g2 g3
theorem fillT_eq : ∀ (l : List Value) (k : Nat) (ts : Ts), ts.n ≤ 2 ^ ts.d → k + l.length ≤ ts.n →
    (fillT k l ts).n = ts.n ∧ (fillT k l ts).d = ts.d ∧ ∀ t, (t < k ∨ k + l.length ≤ t → getT (fillT k l ts) t = getT ts t) ∧ (k ≤ t → t < k + l.length → getT (fillT k l ts) t = l.getD (t - k) undef)
  | [], k, ts, hd, hn => ⟨rfl, rfl, fun t => ⟨fun _ => rfl, fun a b => by simp at b; omega⟩⟩
  | v :: l, k, ts, hd, hn => by
    simp only [List.length_cons] at hn
    obtain ⟨s1, s2⟩ := setT_n ts k v
    obtain ⟨i1, i2, i3⟩ := fillT_eq l (k + 1) (setT ts k v) (by rw [s1, s2]; exact hd) (by rw [s1]; omega)
    refine ⟨i1.trans s1, i2.trans s2, fun t => ⟨fun ht => ?_, fun h1 h2 => ?_⟩⟩
    · simp only [List.length_cons] at ht
      show getT (fillT (k + 1) l (setT ts k v)) t = _
      rw [(i3 t).1 (by omega), getT_setT ts hd k t v (by omega), if_neg (by omega)]
    · simp only [List.length_cons] at h2
      show getT (fillT (k + 1) l (setT ts k v)) t = _
      by_cases e : t = k
      · subst e
        rw [(i3 t).1 (by omega), getT_setT ts hd t t v (by omega), if_pos rfl]
        simp
      · rw [(i3 t).2 (by omega) (by omega), show t - k = (t - (k + 1)) + 1 by omega]
        simp
/-- what an operation looks at decides it -/
theorem evo_eq {ts ts' : Ts} {x : Operand} (h : ∀ t, x = .tmp t → getT ts' t = getT ts t) : evo ts' x = evo ts x := by
  cases x with
  | tmp t => simp only [evo, h t rfl]
  | _ => rfl
theorem opV_congr {P : Program} {ih : Ih} {ts ts' : Ts} {σ : St} {o : Oper} (h : ∀ t, (.tmp t) ∈ o.op.operands → getT ts' t = getT ts t) : opV P ih ts' σ o = opV P ih ts σ o := by
  have he : ∀ x ∈ o.op.operands, evo ts' x = evo ts x := fun x hx => evo_eq fun t e => h t (e ▸ hx)
  have hflat : ∀ l : List Operand, (∀ x ∈ l, x ∈ o.op.operands) → allFlat ts' l = allFlat ts l := by
    intro l
    induction l with
    | nil => intro _; rfl
    | cons x l ih => intro hl; simp only [allFlat, he x (hl x (by simp)), ih (fun y hy => hl y (by simp [hy]))]
  have hoks : ∀ l : List Operand, (∀ x ∈ l, x ∈ o.op.operands) → oksL ts' l = oksL ts l ∧ l.map (vof ts') = l.map (vof ts) := by
    intro l
    induction l with
    | nil => intro _; exact ⟨rfl, rfl⟩
    | cons x l ih =>
      intro hl
      obtain ⟨i1, i2⟩ := ih (fun y hy => hl y (by simp [hy]))
      have hx := he x (hl x (by simp))
      refine ⟨?_, ?_⟩
      · unfold oksL at *; simp only [List.all_cons, hx, i1]
      · simp only [List.map_cons, i2, vof, hx]
  have hparts : ∀ l : List (Nat × Operand), (∀ p ∈ l, p.2 ∈ o.op.operands) → oksP ts' l = oksP ts l ∧ (l.map fun p => (p.1, vof ts' p.2)) = l.map fun p => (p.1, vof ts p.2) := by
    intro l
    induction l with
    | nil => intro _; exact ⟨rfl, rfl⟩
    | cons x l ih =>
      intro hl
      obtain ⟨i1, i2⟩ := ih (fun y hy => hl y (by simp [hy]))
      have hx := he x.2 (hl x (by simp))
      have hvx : vof ts' x.2 = vof ts x.2 := by unfold vof; rw [hx]
      refine ⟨?_, ?_⟩
      · unfold oksP at *; simp only [List.all_cons, hx, i1]
      · rw [List.map_cons, List.map_cons, i2, hvx]
  have hpure : pureV P σ ts' o = pureV P σ ts o := by
    unfold pureV pureOp
    rw [hflat _ (fun x hx => by simpa using hx)]
    by_cases hsel : isSelect o.op = true
    · simp [hsel]
    · have : execOp (fun x => (evo ts' x).getD undef) o = execOp (fun x => (evo ts x).getD undef) o :=
        execOp_congr o (fun cs b e => hsel (by rw [e]; rfl)) fun x hx => by rw [he x hx]
      rw [this]
  have hex : exec P σ ts' o = exec P σ ts o := by
    unfold exec
    split
    case h_1 x ho => rw [he x (by simp [ho, Op.operands])]
    case h_2 x ho => rw [he x (by simp [ho, Op.operands])]
    case h_3 c x y ho =>
      have e1 := he x (by simp [ho, Op.operands])
      have e2 := he y (by simp [ho, Op.operands])
      rw [he c (by simp [ho, Op.operands])]
      unfold xPick
      split
      · rename_i t _
        cases t <;> simp only [e1, e2]
      · rfl
    case h_4 => rfl
    case h_5 e x ho => rw [he x (by simp [ho, Op.operands])]
    case h_6 t ps ho =>
      obtain ⟨p1, p2⟩ := hparts ps.toList (fun p hp => by simp only [ho, Op.operands, List.mem_toArray, List.mem_map]; exact ⟨p, hp, rfl⟩)
      unfold buildV
      rw [p1, p2]
    case h_7 t n ps ho =>
      obtain ⟨p1, p2⟩ := hparts ps.toList (fun p hp => by simp only [ho, Op.operands, List.mem_toArray, List.mem_map]; exact ⟨p, hp, rfl⟩)
      unfold buildSliceV
      rw [p1, p2]
    case h_8 t x ho => rw [he x (by simp [ho, Op.operands])]
    case h_9 t x y ho => rw [he x (by simp [ho, Op.operands]), he y (by simp [ho, Op.operands])]
    case h_10 x ho => rw [he x (by simp [ho, Op.operands])]; unfold xNil; rw [hpure]
    case h_11 op t x y t' ho => rw [he x (by simp [ho, Op.operands]), he y (by simp [ho, Op.operands])]; unfold xBin xInt; rw [hpure]
    case h_12 op t x ho => rw [he x (by simp [ho, Op.operands])]; unfold xNot; rw [hpure]
    case h_13 t x ho => rw [he x (by simp [ho, Op.operands])]
    case h_14 f first captured ho =>
      obtain ⟨p1, p2⟩ := hoks first.toList (fun x hx => by simp [ho, Op.operands]; left; simpa using hx)
      obtain ⟨q1, q2⟩ := hoks captured.toList (fun x hx => by simp [ho, Op.operands]; right; simpa using hx)
      unfold makeFuncV
      rw [p1, p2, q1, q2]
    case h_15 t x y ho => rw [he x (by simp [ho, Op.operands]), he y (by simp [ho, Op.operands])]
    case h_16 t x lo hi mx ho =>
      have hv : ∀ y : Option Operand, (∀ z, y = some z → z ∈ o.op.operands) → evos ts' y = evos ts y := by
        intro y hy
        cases y with
        | none => rfl
        | some z => simp only [evos, he z (hy z rfl)]
      rw [he x (by simp [ho, Op.operands]), hv lo (fun z e => by subst e; simp [ho, Op.operands]), hv hi (fun z e => by subst e; simp [ho, Op.operands]), hv mx (fun z e => by subst e; simp [ho, Op.operands])]
      unfold xSlice; rw [hpure]
    case h_17 s x f ho => rw [he x (by simp [ho, Op.operands])]
    case h_18 t x f ho => rw [he x (by simp [ho, Op.operands])]
    case h_19 t x y ho => rw [he x (by simp [ho, Op.operands]), he y (by simp [ho, Op.operands])]
    case h_20 t x y ho => rw [he x (by simp [ho, Op.operands]), he y (by simp [ho, Op.operands])]; unfold xIndex; rw [hpure]
    case h_21 x ix ho => rw [he x (by simp [ho, Op.operands])]
    case h_22 c ho =>
      unfold xCall
      split
      · rename_i b hc
        have hargs : ∀ x ∈ c.args.toList, x ∈ o.op.operands := fun x hx => by simp only [ho, Op.operands, Call.operands]; simp; right; simpa using hx
        have : builtinV P σ ts' b c.argTypes.toList c.args.toList = builtinV P σ ts b c.argTypes.toList c.args.toList := by
          generalize c.args.toList = l at hargs
          generalize c.argTypes.toList = tys
          unfold builtinV
          split
          · rename_i t x; rw [he x (hargs x (by simp))]
          · rename_i t x; rw [he x (hargs x (by simp))]
          · rename_i t x; rw [he x (hargs x (by simp))]
          · rename_i t t2 x y; rw [he x (hargs x (by simp)), he y (hargs y (by simp))]
          · rename_i t t2 x y; rw [he x (hargs x (by simp)), he y (hargs y (by simp))]
          · rfl
        rw [this, hpure]
      · rfl
    case h_23 => exact hpure
  have hcall : callOf P ts' o = callOf P ts o := by
    unfold callOf
    split
    · rename_i c ho
      have hargs : ∀ x ∈ c.args.toList, x ∈ o.op.operands := fun x hx => by simp only [ho, Op.operands, Call.operands]; simp; right; simpa using hx
      obtain ⟨p1, p2⟩ := hoks c.args.toList hargs
      split
      · rename_i f hc
        rw [he f (by simp [ho, Op.operands, Call.operands, hc]), p1, p2]
      · rename_i recv name hc
        rw [he recv (by simp [ho, Op.operands, Call.operands, hc]), p1, p2]
      · rfl
    · rfl
  unfold opV
  rw [hcall, hex]
theorem opV_part {P : Program} {ih : Ih} (hS : Sound P ih) {ts : Ts} {σ σ' : St} {o : Oper} {v : Value} (hsel : ∀ cs b, o.op ≠ .select cs b) (h : opV P ih ts σ o = some (v, σ')) {μ : Mu} {a : Act} {w : World} (hT : ∀ t, (.tmp t) ∈ o.op.operands → VRel μ (getT ts t) (a.tmps.getD t undef)) (hR : Rel μ σ w) (hf : Fresh μ σ σ') (hna : a.tmps.size ≤ 512) (hnt : ts.n ≤ 512) : OpRuns P μ σ w (execOp a.eval o) v σ' := by
  -- a frame that holds what is looked at, and nothing else
  let n := a.tmps.size
  let keep : Nat → Bool := fun t => o.op.operands.toList.any fun | .tmp u => u == t | _ => false
  have hkeep : ∀ t, keep t = true ↔ (.tmp t) ∈ o.op.operands := by
    intro t
    simp only [keep, List.any_eq_true]
    constructor
    · rintro ⟨x, hx, hx2⟩
      cases x <;> simp at hx2
      subst hx2; simpa using hx
    · intro hx
      exact ⟨.tmp t, by simpa using hx, by simp⟩
  let m := max n ts.n
  have h0m : a.tmps.size ≤ m := Nat.le_max_left _ _
  have h1m : ts.n ≤ m := Nat.le_max_right _ _
  let l : List Value := (List.range m).map fun t => if keep t then getT ts t else undef
  let l' : List Value := (List.range m).map fun t => if keep t then a.tmps.getD t undef else undef
  let ts' := frameT m l
  have hl : l.length = m := by simp [l]
  have hcap : m ≤ 512 := Nat.max_le.2 ⟨hna, hnt⟩
  have hsn : (slots0 m).n = m := by rw [slots0_eq]
  have hd : (slots0 m).n ≤ 2 ^ (slots0 m).d := by rw [hsn]; exact hcap
  have hlr : LRel μ l l' := by
    refine LRel.map _ fun t _ => ?_
    by_cases hk : keep t = true
    · simp only [hk, if_true]; exact hT t ((hkeep t).1 hk)
    · simp only [hk]; exact vrel_undef μ
  obtain ⟨e1, e2, e3⟩ := fillT_eq l 0 (slots0 m) hd (by rw [hl, hsn]; omega)
  have hget : ∀ t, (.tmp t) ∈ o.op.operands → getT ts' t = getT ts t := by
    intro t ht
    by_cases hm : t < m
    · have := (e3 t).2 (by omega) (by rw [hl]; omega)
      show getT (fillT 0 l _) t = _
      rw [this]
      simp [l, List.getD_eq_getElem?_getD, hm, (hkeep t).2 ht]
    · have h1 : getT ts' t = undef := by
        show getT (fillT 0 l _) t = _
        rw [(e3 t).1 (by rw [hl]; exact .inr (by simpa using Nat.le_of_not_lt hm))]
        exact getT_slots0 hcap t
      have h2 : getT ts t = undef := getT_ge (fun h => hm (Nat.lt_of_lt_of_le h h1m))
      rw [h1, h2]
  let a' : Act := { tmps := l'.toArray ++ Array.replicate (m - l'.toArray.size) undef, defers := [] }
  have hT' : TRel μ ts' a' := frameT_rel (args := l) (args' := l'.toArray) (n := m) (by simpa using hlr) (by rw [hl]; exact Nat.le_refl _) hcap
  have hr := opV_runs hS (ts := ts') (by rw [opV_congr hget]; exact h) hT' hR hf
  have hev : execOp a'.eval o = execOp a.eval o := by
    refine execOp_congr o hsel fun x hx => ?_
    cases x with
    | tmp t =>
      show a'.tmps.getD t undef = a.tmps.getD t undef
      have hl2 : l'.toArray.size = m := by simp [l']
      by_cases hm : t < m
      · simp only [a', Array.getD_eq_getD_getElem?]
        rw [Array.getElem?_append_left (by rw [hl2]; exact hm)]
        simp [l', hm, (hkeep t).2 hx, Array.getD_eq_getD_getElem?]
      · have h1 : a'.tmps.getD t undef = undef := by
          simp only [a', Array.getD_eq_getD_getElem?]
          rw [Array.getElem?_append_right (by rw [hl2]; exact Nat.le_of_not_lt hm), Array.getElem?_replicate]
          split <;> rfl
        have h2 : a.tmps.getD t undef = undef := by
          rw [Array.getD_eq_getD_getElem?, Array.getElem?_eq_none (Nat.le_trans h0m (Nat.le_of_not_lt hm))]; rfl
        rw [h1, h2]
    | _ => rfl
  rw [hev] at hr
  exact hr
theorem wanted_part {μ : Mu} {ts : Ts} {a : Act} (all : Array Oper) (o : Oper) (hT : ∀ j want d, o.guard = some (j, want) → (all[j]?).bind (·.dst) = some d → VRel μ (getT ts d) (a.tmps.getD d undef)) : Region.wanted o (yielded all a.tmps) = wantedV all ts o := by
  unfold Region.wanted wantedV
  cases hg : o.guard with
  | none => rfl
  | some jw =>
    obtain ⟨j, want⟩ := jw
    simp only
    unfold yielded
    cases hd : ((all[j]?).bind (·.dst)) with
    | none => rfl
    | some d =>
      simp only [Option.bind_some]
      have hv := hT j want d hg hd
      cases hx : a.tmps[d]? with
      | none =>
        have e : a.tmps.getD d undef = undef := by rw [Array.getD_eq_getD_getElem?, hx]; rfl
        rw [e] at hv
        generalize getT ts d = u at hv
        cases hv <;> rfl
      | some x =>
        have e : a.tmps.getD d undef = x := by rw [Array.getD_eq_getD_getElem?, hx]; rfl
        rw [e] at hv
        generalize getT ts d = u at hv
        cases hv with
        | sc h => cases x <;> rfl
        | _ => rfl
end
end Go.Proofs.YtcllgicphjmamaaGreat.ev
