/- The reckoner's operations, and that the model's do as they do. -/
import Derived.Test.YtcllgicphjmamaaGreatKv2
namespace Go.Proofs.YtcllgicphjmamaaGreat.ev
noncomputable section
open Go.RowKit
set_option linter.unusedSimpArgs false
set_option linter.unusedVariables false
set_option linter.unusedSectionVars false

/-- a list, its elements laid side by side -/
def forceL {β : Type} : List Value → (List Value → β) → β
  | [], k => k []
  | v :: l, k => forceL l fun l' => k (v :: l')
theorem forceL_eq {β : Type} : ∀ (l : List Value) (k : List Value → β), forceL l k = k l
  | [], k => rfl
  | v :: l, k => by rw [forceL, forceL_eq l]
def pureRun {α : Type} (P : Program) : Sem α → Option α
  | .pure a => some a
  | .program k => pureRun P (k P)
  | .mark _ k => pureRun P k
  | _ => none
theorem pureRun_run {α : Type} {P : Program} : ∀ {s : Sem α} {a : α}, pureRun P s = some a → ∀ w, s.run P w = .ok a w
  | .pure a, b, h, w => by simp [pureRun] at h; subst h; rfl
  | .program k, b, h, w => by
    simp only [pureRun] at h
    show (k P).run P w = _
    exact pureRun_run h w
  | .mark m k, b, h, w => by
    simp only [pureRun] at h
    show k.run P w = _
    exact pureRun_run h w
  | .load .., _, h, _ | .store .., _, h, _ | .new .., _, h, _ | .shape .., _, h, _ | .freeze .., _, h, _ | .frozen .., _, h, _ | .getObj .., _, h, _ | .setObj .., _, h, _ | .choose .., _, h, _ | .sys .., _, h, _ | .halt .., _, h, _ => by simp [pureRun] at h

/-- the slots of a frame -/
structure Ts where
  n : Nat
  tr : N8 (N8 (N8 Value))
def Ts.d (_ : Ts) : Nat := 9
def getT (ts : Ts) (t : Nat) : Value := Bool.rec undef ((accS t).get ts.tr) (Nat.ble (Nat.succ t) ts.n)
def setT (ts : Ts) (t : Nat) (v : Value) : Ts := Ts.rec (motive := fun _ => Ts) (fun n tr => Bool.rec ⟨n, tr⟩ ⟨n, (sacS t).set v tr⟩ (Nat.ble (Nat.succ t) n)) ts
theorem blt_true {a b : Nat} (h : a < b) : Nat.blt a b = true := by simp [Nat.blt]; omega
theorem blt_false {a b : Nat} (h : ¬ a < b) : Nat.blt a b = false := by rw [Bool.eq_false_iff]; simp [Nat.blt]; omega
theorem ble_true {a b : Nat} (h : a < b) : Nat.ble (Nat.succ a) b = true := by simp; omega
theorem ble_false {a b : Nat} (h : ¬ a < b) : Nat.ble (Nat.succ a) b = false := by rw [Bool.eq_false_iff]; simp; omega
theorem getT_lt {ts : Ts} {t : Nat} (h : t < ts.n) : getT ts t = (accS t).get ts.tr := by unfold getT; rw [ble_true h]
theorem getT_ge {ts : Ts} {t : Nat} (h : ¬ t < ts.n) : getT ts t = undef := by unfold getT; rw [ble_false h]
theorem setT_lt {ts : Ts} {t : Nat} (h : t < ts.n) (v : Value) : setT ts t v = ⟨ts.n, (sacS t).set v ts.tr⟩ := by
  cases ts with
  | mk n tr => show Bool.rec (motive := fun _ => Ts) _ _ (Nat.ble (Nat.succ t) n) = _; rw [ble_true h]
theorem setT_ge {ts : Ts} {t : Nat} (h : ¬ t < ts.n) (v : Value) : setT ts t v = ts := by
  cases ts with
  | mk n tr => show Bool.rec (motive := fun _ => Ts) _ _ (Nat.ble (Nat.succ t) n) = _; rw [ble_false h]
theorem getT_setT (ts : Ts) (hd : ts.n ≤ 2 ^ ts.d) (t u : Nat) (v : Value) (ht : t < ts.n) : getT (setT ts t v) u = if u = t then v else getT ts u := by
  have hd : ts.n ≤ 512 := hd
  rw [setT_lt ht]
  by_cases hu : u < ts.n
  · rw [getT_lt (ts := ts) hu]
    refine (getT_lt (ts := ⟨ts.n, (sacS t).set v ts.tr⟩) hu).trans ?_
    exact lensS u t v ts.tr (by omega) (by omega)
  · rw [getT_ge (ts := ts) hu, if_neg (by omega)]
    exact getT_ge (ts := ⟨ts.n, (sacS t).set v ts.tr⟩) hu
theorem setT_n (ts : Ts) (t : Nat) (v : Value) : (setT ts t v).n = ts.n ∧ (setT ts t v).d = ts.d := by
  refine ⟨?_, rfl⟩
  by_cases h : t < ts.n
  · rw [setT_lt h]
  · rw [setT_ge h]
def slots0 (n : Nat) : Ts := Nat.rec (motive := fun _ => Ts) ⟨0, zS undef⟩ (fun p _ => ⟨Nat.succ p, zS undef⟩) n
theorem slots0_eq (n : Nat) : slots0 n = ⟨n, zS undef⟩ := by cases n <;> rfl
theorem getT_slots0 {n : Nat} (hn : n ≤ 512) (t : Nat) : getT (slots0 n) t = undef := by
  rw [slots0_eq]
  by_cases h : t < n
  · rw [getT_lt (ts := ⟨n, zS undef⟩) h]; exact accS_z (by omega) _
  · exact getT_ge (ts := ⟨n, zS undef⟩) h
def evo (ts : Ts) : Operand → Option Value
  | .tmp t => some (getT ts t)
  | .const v => match flat v with
    | true => some v
    | false => none
  | .func f => some (.func (.func f) #[] #[])
  | .global _ => none
structure TRel (μ : Mu) (ts : Ts) (a : Act) : Prop where
  n : a.tmps.size = ts.n
  d : ts.n ≤ 2 ^ ts.d
  rel : ∀ t, t < ts.n → VRel μ (getT ts t) (a.tmps.getD t undef)
  df : a.defers = []
theorem TRel.get {μ : Mu} {ts : Ts} {a : Act} (h : TRel μ ts a) (t : Nat) : VRel μ (getT ts t) (a.tmps.getD t undef) := by
  by_cases ht : t < ts.n
  · exact h.rel t ht
  · have e1 : getT ts t = undef := getT_ge ht
    have e2 : a.tmps.getD t undef = undef := by
      have := h.n
      simp [Array.getD, show ¬ t < a.tmps.size by omega]
    rw [e1, e2]
    exact vrel_undef μ
theorem evo_rel {μ : Mu} {ts : Ts} {a : Act} (h : TRel μ ts a) {x : Operand} {v : Value} (hv : evo ts x = some v) : VRel μ v (a.eval x) := by
  cases x with
  | tmp t =>
    simp only [evo, Option.some.injEq] at hv
    subst hv
    exact h.get t
  | const u =>
    simp only [evo] at hv
    split at hv
    · simp only [Option.some.injEq] at hv; subst hv; exact flat_rel μ (by assumption)
    · cases hv
  | func f => simp only [evo, Option.some.injEq] at hv; subst hv; exact flat_rel μ (by simp [flat, flatL1])
  | global g => simp [evo] at hv
def putV (ts : Ts) (dst : Option Tmp) (v : Value) : Ts := match dst with | some d => setT ts d v | none => ts
theorem TRel.putV {μ : Mu} {ts : Ts} {a : Act} (h : TRel μ ts a) {v v' : Value} (hv : VRel μ v v') (dst : Option Tmp) :
    TRel μ (putV ts dst v) (a.put dst v') := by
  cases dst with
  | none => exact h
  | some d =>
    have hn := setT_n ts d v
    refine ⟨?_, ?_, fun t ht => ?_, h.df⟩
    · simp only [ev.putV, Act.put, Array.size_setIfInBounds, hn.1]; exact h.n
    · simp only [ev.putV, hn.1, hn.2]; exact h.d
    · simp only [ev.putV, hn.1] at ht
      by_cases hd : d < ts.n
      · simp only [ev.putV, Act.put]
        rw [getT_setT ts h.d d t v hd]
        by_cases e : t = d
        · subst e
          rw [if_pos rfl]
          have := h.n
          simp [Array.getD, show t < a.tmps.size by omega]
          exact hv
        · rw [if_neg e]
          have := h.rel t ht
          have h2 : (a.tmps.setIfInBounds d v').getD t undef = a.tmps.getD t undef := by
            simp only [Array.getD_eq_getD_getElem?]
            rw [Array.getElem?_setIfInBounds_ne (fun e' => e e'.symm)]
          rw [h2]
          exact this
      · have e1 : setT ts d v = ts := setT_ge hd v
        have hn' : ¬ d < a.tmps.size := by rw [h.n]; exact hd
        have e2 : a.tmps.setIfInBounds d v' = a.tmps := by
          unfold Array.setIfInBounds; rw [dif_neg hn']
        simp only [ev.putV, Act.put, e1, e2]
        exact h.rel t ht
theorem TRel.mono {μ μ' : Mu} {ts : Ts} {a : Act} (h : TRel μ ts a) (hm : μ.le μ') : TRel μ' ts a := ⟨h.n, h.d, fun t ht => (h.rel t ht).mono hm, h.df⟩
/-- what an operation does: a value, a new memory -/
def Does (P : Program) (μ : Mu) (σ : St) (w : World) (ρ : Operand → Value) (o : Oper) (r : Value) (σ' : St) : Prop :=
  ∃ μ' r' w' n, (execOp ρ o).run P w = .ok n w' ∧ (n = .value r' ∨ (n = .skip ∧ r' = undef)) ∧ VRel μ' r r' ∧ Rel μ' σ' w' ∧ Step μ μ' σ σ' w w'

/-! operations on what holds no place -/
def allFlat (ts : Ts) : List Operand → Bool
  | [] => true
  | x :: l => (match evo ts x with | some v => flat v | none => false) && allFlat ts l
def isSelect : Op → Bool
  | .select .. => true
  | _ => false
def pureOp (P : Program) (ts : Ts) (o : Oper) : Option Value :=
  if allFlat ts o.op.operands.toList && !isSelect o.op then
    match pureRun P (execOp (fun x => (evo ts x).getD undef) o) with
    | some (.value r) => if flat r then some r else none
    | _ => none
  else none
theorem allFlat_eq {μ : Mu} {ts : Ts} {a : Act} (h : TRel μ ts a) : ∀ (l : List Operand), allFlat ts l = true → ∀ x ∈ l, a.eval x = (evo ts x).getD undef
  | [], _, x, hx => by simp at hx
  | y :: l, hl, x, hx => by
    simp only [allFlat, Bool.and_eq_true] at hl
    rcases List.mem_cons.1 hx with rfl | hx
    · cases hv : evo ts x with
      | none => simp [hv] at hl
      | some v =>
        simp only [hv] at hl
        simpa [hv] using flat_eq hl.1 (evo_rel h hv)
    · exact allFlat_eq h l hl.2 x hx
theorem pureOp_does {P : Program} {μ : Mu} {σ : St} {w : World} {ts : Ts} {a : Act} {o : Oper} {r : Value} (h : TRel μ ts a) (hR : Rel μ σ w) (he : pureOp P ts o = some r) : Does P μ σ w a.eval o r σ := by
  unfold pureOp at he
  split at he
  · rename_i hc
    simp only [Bool.and_eq_true, Bool.not_eq_true'] at hc
    split at he
    · rename_i r0 hr
      split at he
      · rename_i hf
        simp only [Option.some.injEq] at he
        subst he
        have hcg : execOp a.eval o = execOp (fun x => (evo ts x).getD undef) o := by
          refine execOp_congr o (fun cs b e => ?_) fun x hx => allFlat_eq h _ hc.1 x (by simpa using hx)
          rw [e] at hc; simp [isSelect] at hc
        exact ⟨μ, r0, w, _, by rw [hcg]; exact pureRun_run hr w, .inl rfl, flat_rel μ hf, hR, Step.refl _ _ _⟩
      · cases he
    · cases he
  · cases he

/-! new blocks -/
def newP (σ : St) (cells : List Value) (esz : Nat) : Option (Nat × St) :=
  forceL cells fun cells => if σ.size < 65536 then some (σ.size, σ.newS ⟨cells, true, esz, [], true⟩) else none
theorem cells_rel {μ : Mu} {v v' : Value} (h : VRel μ v v') : LRel μ v.cells.toList v'.cells.toList := by
  cases h with
  | agg l l' h => simpa [Value.cells] using h
  | sc v hs => cases v <;> first | (simp [scalar] at hs; done) | exact .cons _ _ _ _ (.sc _ hs) .nil
  | ptr k o L h => exact .cons _ _ _ _ (.ptr k o L h) .nil
  | slc k o n c L h hc => exact .cons _ _ _ _ (.slc k o n c L h hc) .nil
  | slo k o n c L h hn hs => exact .cons _ _ _ _ (.slo k o n c L h hn hs) .nil
  | sle k o o' L h hs => exact .cons _ _ _ _ (.sle k o o' L h hs) .nil
  | iface t v v' h => exact .cons _ _ _ _ (.iface t v v' h) .nil
  | tuple l l' h => exact .cons _ _ _ _ (.tuple l l' h) .nil
  | fn g l l' c c' h hc => exact .cons _ _ _ _ (.fn g l l' c c' h hc) .nil
theorem one_rel {μ : Mu} {v v' : Value} (h : VRel μ v v') : v'.oneCell' = v.oneCell' := by cases h <;> rfl
theorem ones_rel {μ : Mu} : ∀ {l l' : List Value}, LRel μ l l' → l'.all (·.oneCell') = l.all (·.oneCell')
  | _, _, .nil => rfl
  | _, _, .cons v v' l l' h hl => by simp [one_rel h, ones_rel hl]
theorem newP_does {P : Program} {μ : Mu} {σ σ' : St} {w w1 : World} {cells : List Value} {c : Array Value} {esz k : Nat} (hR : Rel μ σ w) (hn : newP σ cells esz = some (k, σ')) (hf : ∀ j, σ.size ≤ j → j < σ'.size → μ j = none) (e : TypeId)
    (hl : cells.length ≤ c.size) (hc : LRel μ cells (c.toList.take cells.length)) (hw : w1.heap = w.heap.push (.cells c e (0, 0))) (ho : w1.os = w.os) (ht : w1.tape = w.tape) (hp : w1.output = w.output) :
    k = σ.size ∧ Rel (μ.add k ⟨w.heap.size, 0, c.size, esz⟩) σ' w1 ∧ Step μ (μ.add k ⟨w.heap.size, 0, c.size, esz⟩) σ σ' w w1 := by
  unfold newP at hn
  rw [forceL_eq] at hn
  split at hn
  · rename_i hlt
    simp only [Option.some.injEq, Prod.mk.injEq] at hn
    obtain ⟨rfl, rfl⟩ := hn
    exact ⟨rfl, hR.alloc cells c e esz (hf _ (Nat.le_refl _) (by simp [St.newS])) hlt hl hc hw ho ht hp⟩
  · cases hn

/-! alloc, box -/
def allocV (P : Program) (σ : St) (e : TypeId) : Option (Value × St) :=
  match P.info? e with
  | some i => match i.zero with
    | some z => if flatL z.cells.toList then (newP σ z.cells.toList 0).map fun p => (.pointer (some ⟨p.1, 0, none⟩), p.2) else none
    | none => none
  | none => none
theorem allocV_does {P : Program} {μ : Mu} {σ σ' : St} {w : World} {e : TypeId} {r : Value} (hR : Rel μ σ w) (he : allocV P σ e = some (r, σ')) (hf : ∀ j, σ.size ≤ j → j < σ'.size → μ j = none) {ρ : Operand → Value} {o : Oper} (ho : o.op = .alloc e) :
    Does P μ σ w ρ o r σ' := by
  unfold allocV at he
  split at he
  · rename_i i hi
    split at he
    · rename_i z hz
      split at he
      · rename_i hfl
        simp only [Option.map_eq_some_iff, Prod.exists, Prod.mk.injEq] at he
        obtain ⟨k, s, hn, rfl, rfl⟩ := he
        obtain ⟨rfl, h1, h2⟩ := newP_does (P := P) (w1 := w.alloc (.cells z.cells e)) hR hn hf e (c := z.cells) (by simp) (by rw [show z.cells.toList.length = z.cells.size by simp, List.take_of_length_le (by simp)]; exact flatL_rel μ hfl) rfl rfl rfl rfl
        refine ⟨_, .pointer (some ⟨w.heap.size, 0, none⟩), w.alloc (.cells z.cells e), _, ?_, .inl rfl, ?_, h1, h2⟩
        · simp [execOp, ho, Instr.alloc, zeroValue, typeInfo, hi, hz, newVar, newRow]
        · have := VRel.ptr (μ := μ.add σ.size ⟨w.heap.size, 0, z.cells.size, 0⟩) σ.size 0 ⟨w.heap.size, 0, z.cells.size, 0⟩ (Mu.add_self _ _ _)
          simpa using this
      · cases he
    · cases he
  · cases he
def boxV (σ : St) (v : Value) : Option (Value × St) := (newP σ v.cells.toList 0).map fun p => (.pointer (some ⟨p.1, 0, none⟩), p.2)
theorem boxV_does {P : Program} {μ : Mu} {σ σ' : St} {w : World} {e : TypeId} {r v : Value} (hR : Rel μ σ w) (he : boxV σ v = some (r, σ')) (hf : ∀ j, σ.size ≤ j → j < σ'.size → μ j = none) {ρ : Operand → Value} {o : Oper} {x : Operand} (ho : o.op = .box e x) (hv : VRel μ v (ρ x)) :
    Does P μ σ w ρ o r σ' := by
  unfold boxV at he
  simp only [Option.map_eq_some_iff, Prod.exists, Prod.mk.injEq] at he
  obtain ⟨k, s, hn, rfl, rfl⟩ := he
  have hc := cells_rel hv
  have hl := hc.length
  obtain ⟨rfl, h1, h2⟩ := newP_does (P := P) (w1 := w.alloc (.cells (ρ x).cells e)) hR hn hf e (c := (ρ x).cells) (by rw [hl]; simp) (by rw [hl, List.take_length]; exact hc) rfl rfl rfl rfl
  refine ⟨_, .pointer (some ⟨w.heap.size, 0, none⟩), w.alloc (.cells (ρ x).cells e), _, ?_, .inl rfl, ?_, h1, h2⟩
  · simp [execOp, ho, Instr.box, newVar, newRow]
  · have := VRel.ptr (μ := μ.add σ.size ⟨w.heap.size, 0, (ρ x).cells.size, 0⟩) σ.size 0 ⟨w.heap.size, 0, (ρ x).cells.size, 0⟩ (Mu.add_self _ _ _)
    simpa using this

/-! load, store -/
def loadB (P : Program) (σ : St) (t : TypeId) (k off : Nat) : Option Value :=
  match σ.getB k with
  | some B => match P.underlying t, P.info? t with
    | some d, some i => if d.isRow then (if off + i.size ≤ B.cells.length then some (.agg ((B.cells.drop off).take i.size).toArray) else none) else B.cells[off]?
    | _, _ => none
  | none => none
theorem loadB_does {P : Program} {μ : Mu} {σ : St} {w : World} {t : TypeId} {k off : Nat} {r : Value} {L : Loc} (hR : Rel μ σ w) (hL : μ k = some L) (he : loadB P σ t k off = some r) :
    ∃ r', (loadVar t ⟨L.blk, off + L.sh, none⟩).run P w = .ok r' w ∧ VRel μ r r' := by
  unfold loadB at he
  split at he
  · rename_i B hB
    have hb := hR.blk k B L hB hL
    split at he
    · rename_i d i hd hi
      split at he
      · rename_i hrow
        split at he
        · rename_i hlen
          simp only [Option.some.injEq] at he
          subst he
          obtain ⟨m, h1, h2, h3⟩ := hb.range off i.size hlen
          exact ⟨_, run_loadVar_mid w L.blk (off + L.sh) t m d h3 hd (by simpa using hrow) (by simp [hi, h1]), .agg _ _ h2⟩
        · cases he
      · rename_i hrow
        have hlt : off < B.cells.length := (List.getElem?_eq_some_iff.1 he).1
        obtain ⟨m, h1, h2, h3⟩ := hb.range off 1 (by omega)
        have hr0 : ((B.cells.drop off).take 1)[0]? = some r := by simp [List.getElem?_take, he]
        obtain ⟨r', h4, h5⟩ := h2.get 0 r hr0
        refine ⟨r', ?_, h5⟩
        have hc := h3 0 r' h4
        have hagg : (isAgg t).run P w = .ok false w := by
          unfold isAgg
          rw [Sem.run_bind, run_underlying hd w]
          cases d <;> simp_all [TypeDesc.isRow]
        simp only [Nat.add_zero] at hc
        simp [loadVar, hagg, hc]
    · cases he
  · cases he
def storeB (P : Program) (σ : St) (t : TypeId) (k off : Nat) (v : Value) : Option St :=
  match σ.getB k with
  | some B => match P.info? t with
    | some i => if B.tip && v.cells.size == i.size && decide (off + i.size ≤ B.cells.length) && v.cells.toList.all (·.oneCell') then forceL (B.cells.take off ++ v.cells.toList ++ B.cells.drop (off + i.size)) fun l => some (σ.write k B l) else none
    | none => none
  | none => none
theorem write_does {P : Program} {μ : Mu} {σ : St} {w : World} {k off : Nat} {B : Blk} {L : Loc} (hR : Rel μ σ w) (hB : σ.getB k = some B) (hL : μ k = some L) (ht : B.tip = true) (vs vs' : List Value) (hvs : LRel μ vs vs') (hlen : off + vs.length ≤ B.cells.length) (h1 : vs.all (·.oneCell') = true) :
    ∃ w', (storeCells ⟨L.blk, off + L.sh, none⟩ vs').run P w = .ok () w' ∧ Rel μ (σ.write k B (B.cells.take off ++ vs ++ B.cells.drop (off + vs.length))) w' ∧ Step μ μ σ (σ.write k B (B.cells.take off ++ vs ++ B.cells.drop (off + vs.length))) w w' := by
  have hb := hR.blk k B L hB hL
  obtain ⟨c, e, g1, g2, g3, g4, g5⟩ := hb
  have hl := hvs.length
  have hst := run_storeCells_at P L.blk (off + L.sh) e vs' 0 c w g1 (by omega) (by
    have := ones_rel hvs
    rw [h1] at this
    simpa using this)
  simp only [Nat.add_zero] at hst
  refine ⟨_, hst, ?_⟩
  have hsz : (c.toList.take (off + L.sh) ++ vs' ++ c.toList.drop (off + L.sh + vs'.length)).toArray.size = c.size := by simp; omega
  refine hR.write hB hL ht _ (by simp; omega) g1 hsz ?_
  have e1 : (B.cells.take off ++ vs ++ B.cells.drop (off + vs.length)).length = B.cells.length := by simp; omega
  rw [e1]
  have e2 : (List.take B.cells.length (List.drop L.sh (c.toList.take (off + L.sh) ++ vs' ++ c.toList.drop (off + L.sh + vs'.length)).toArray.toList)) =
      ((c.toList.drop L.sh).take B.cells.length).take off ++ vs' ++ ((c.toList.drop L.sh).take B.cells.length).drop (off + vs.length) := by
    apply List.ext_getElem?
    intro i
    simp only [List.toList_toArray, List.getElem?_take, List.getElem?_drop, List.getElem?_append, List.length_take, List.length_append, List.length_drop, Array.length_toList]
    by_cases a1 : i < off
    · have : L.sh + i < min (off + L.sh) c.size := by omega
      have h2 : L.sh + i < min (off + L.sh) c.size + vs'.length := by omega
      have h3 : i < B.cells.length := by omega
      have h4 : i < min off (min B.cells.length (c.size - L.sh)) := by omega
      have h5 : i < min off (min B.cells.length (c.size - L.sh)) + vs'.length := by omega
      have h6 : L.sh + i < off + L.sh := by omega
      simp [this, h2, h3, h4, h5, h6, a1]
    · by_cases a2 : i < off + vs'.length
      · have h1 : ¬ L.sh + i < min (off + L.sh) c.size := by omega
        have h2 : L.sh + i < min (off + L.sh) c.size + vs'.length := by omega
        have h3 : i < B.cells.length := by omega
        have h4 : ¬ i < min off (min B.cells.length (c.size - L.sh)) := by omega
        have h5 : i < min off (min B.cells.length (c.size - L.sh)) + vs'.length := by omega
        have h6 : L.sh + i - min (off + L.sh) c.size = i - min off (min B.cells.length (c.size - L.sh)) := by omega
        simp [h1, h2, h3, h4, h5, h6]
      · have h2 : ¬ L.sh + i < min (off + L.sh) c.size + vs'.length := by omega
        have h5 : ¬ i < min off (min B.cells.length (c.size - L.sh)) + vs'.length := by omega
        have h6 : off + L.sh + vs'.length + (L.sh + i - (min (off + L.sh) c.size + vs'.length)) = L.sh + i := by omega
        have h7 : off + vs.length + (i - (min off (min B.cells.length (c.size - L.sh)) + vs'.length)) = i := by omega
        simp only [h2, h5, if_false, h6, h7]
  rw [e2]
  exact ((g5.take off).append hvs).append (g5.drop _)
theorem storeB_does {P : Program} {μ : Mu} {σ σ' : St} {w : World} {t : TypeId} {k off : Nat} {v v' : Value} {L : Loc} (hR : Rel μ σ w) (hL : μ k = some L) (hv : VRel μ v v') (he : storeB P σ t k off v = some σ') :
    ∃ w', (storeVar t ⟨L.blk, off + L.sh, none⟩ v').run P w = .ok () w' ∧ Rel μ σ' w' ∧ Step μ μ σ σ' w w' := by
  unfold storeB at he
  simp only [forceL_eq] at he
  split at he
  · rename_i B hB
    split at he
    · rename_i i hi
      split at he
      · rename_i hc
        simp only [Bool.and_eq_true, beq_iff_eq, decide_eq_true_eq] at hc
        obtain ⟨⟨⟨ht, hs⟩, hlen⟩, h1⟩ := hc
        simp only [Option.some.injEq] at he
        subst he
        have hcr := cells_rel hv
        have hl := hcr.length
        simp only [Array.length_toList] at hl
        obtain ⟨w', g1, g2, g3⟩ := write_does (P := P) (off := off) hR hB hL ht v.cells.toList v'.cells.toList hcr (by simp; omega) h1
        rw [show v.cells.toList.length = i.size by simpa using hs] at g2 g3
        refine ⟨w', ?_, g2, g3⟩
        have : v'.cells.size = i.size := by omega
        simp [storeVar, sizeOf, typeInfo, hi, this, g1]
      · cases he
    · cases he
  · cases he
end
end Go.Proofs.YtcllgicphjmamaaGreat.ev
