/- The reckoner's operations, and that the model's do as they do. -/
import Derived.Test.YtlnpibboemphnaaGreatQa8
import Derived.IntWalk
import Derived.Lib.AppendZeros

namespace Go.Proofs.YtlnpibboemphnaaGreat.ev
noncomputable section
open Go.RowKit
set_option linter.unusedSimpArgs false
set_option linter.unusedVariables false
set_option linter.unusedSectionVars false

/-- a list, its elements laid side by side -/
def forceL {β : Type} : List Value → (List Value → β) → β
  | [], k => k []
  | v :: l, k => forceL l fun l' => k (v :: l')
theorem forceL_eq {β : Type} : ∀ (l : List Value) (k : List Value → β), forceL l k = k l
  | [], k => rfl
  | v :: l, k => by rw [forceL, forceL_eq l]
def pureRun {α : Type} (P : Program) : Sem α → Option α
  | .pure a => some a
  | .program k => pureRun P (k P)
  | .mark _ k => pureRun P k
  | _ => none
theorem pureRun_run {α : Type} {P : Program} : ∀ {s : Sem α} {a : α}, pureRun P s = some a → ∀ w, s.run P w = .ok a w
  | .pure a, b, h, w => by simp [pureRun] at h; subst h; rfl
  | .program k, b, h, w => by
    simp only [pureRun] at h
    show (k P).run P w = _
    exact pureRun_run h w
  | .mark m k, b, h, w => by
    simp only [pureRun] at h
    show k.run P w = _
    exact pureRun_run h w
  | .load .., _, h, _ | .store .., _, h, _ | .new .., _, h, _ | .shape .., _, h, _ | .freeze .., _, h, _ | .frozen .., _, h, _ | .getObj .., _, h, _ | .setObj .., _, h, _ | .choose .., _, h, _ | .sys .., _, h, _ | .halt .., _, h, _ => by simp [pureRun] at h

/-- the slots of a frame -/
structure Ts where
  n : Nat
  tr : N8 (N8 (N8 Value))
def Ts.d (_ : Ts) : Nat := 9
def getT (ts : Ts) (t : Nat) : Value := Bool.rec undef ((accS t).get ts.tr) (Nat.ble (Nat.succ t) ts.n)
def setT (ts : Ts) (t : Nat) (v : Value) : Ts := Ts.rec (motive := fun _ => Ts) (fun n tr => Bool.rec ⟨n, tr⟩ ⟨n, (sacS t).set v tr⟩ (Nat.ble (Nat.succ t) n)) ts
theorem blt_true {a b : Nat} (h : a < b) : Nat.blt a b = true := by simp [Nat.blt]; omega
theorem blt_false {a b : Nat} (h : ¬ a < b) : Nat.blt a b = false := by rw [Bool.eq_false_iff]; simp [Nat.blt]; omega
theorem ble_true {a b : Nat} (h : a < b) : Nat.ble (Nat.succ a) b = true := by simp; omega
theorem ble_false {a b : Nat} (h : ¬ a < b) : Nat.ble (Nat.succ a) b = false := by rw [Bool.eq_false_iff]; simp; omega
theorem getT_lt {ts : Ts} {t : Nat} (h : t < ts.n) : getT ts t = (accS t).get ts.tr := by unfold getT; rw [ble_true h]
theorem getT_ge {ts : Ts} {t : Nat} (h : ¬ t < ts.n) : getT ts t = undef := by unfold getT; rw [ble_false h]
theorem setT_lt {ts : Ts} {t : Nat} (h : t < ts.n) (v : Value) : setT ts t v = ⟨ts.n, (sacS t).set v ts.tr⟩ := by
  cases ts with
  | mk n tr => show Bool.rec (motive := fun _ => Ts) _ _ (Nat.ble (Nat.succ t) n) = _; rw [ble_true h]
theorem setT_ge {ts : Ts} {t : Nat} (h : ¬ t < ts.n) (v : Value) : setT ts t v = ts := by
  cases ts with
  | mk n tr => show Bool.rec (motive := fun _ => Ts) _ _ (Nat.ble (Nat.succ t) n) = _; rw [ble_false h]
theorem getT_setT (ts : Ts) (hd : ts.n ≤ 2 ^ ts.d) (t u : Nat) (v : Value) (ht : t < ts.n) : getT (setT ts t v) u = if u = t then v else getT ts u := by
  have hd : ts.n ≤ 512 := hd
  rw [setT_lt ht]
  by_cases hu : u < ts.n
  · rw [getT_lt (ts := ts) hu]
    refine (getT_lt (ts := ⟨ts.n, (sacS t).set v ts.tr⟩) hu).trans ?_
    exact lensS u t v ts.tr (by omega) (by omega)
  · rw [getT_ge (ts := ts) hu, if_neg (by omega)]
    exact getT_ge (ts := ⟨ts.n, (sacS t).set v ts.tr⟩) hu
theorem setT_n (ts : Ts) (t : Nat) (v : Value) : (setT ts t v).n = ts.n ∧ (setT ts t v).d = ts.d := by
  refine ⟨?_, rfl⟩
  by_cases h : t < ts.n
  · rw [setT_lt h]
  · rw [setT_ge h]
def slots0 (n : Nat) : Ts := Nat.rec (motive := fun _ => Ts) ⟨0, zS undef⟩ (fun p _ => ⟨Nat.succ p, zS undef⟩) n
theorem slots0_eq (n : Nat) : slots0 n = ⟨n, zS undef⟩ := by cases n <;> rfl
theorem getT_slots0 {n : Nat} (hn : n ≤ 512) (t : Nat) : getT (slots0 n) t = undef := by
  rw [slots0_eq]
  by_cases h : t < n
  · rw [getT_lt (ts := ⟨n, zS undef⟩) h]; exact accS_z (by omega) _
  · exact getT_ge (ts := ⟨n, zS undef⟩) h
def evo (ts : Ts) : Operand → Option Value
  | .tmp t => some (getT ts t)
  | .const v => match flat v with
    | true => some v
    | false => none
  | .func f => some (.func (.func f) #[] #[])
  | .global _ => none
structure TRel (μ : Mu) (ts : Ts) (a : Act) : Prop where
  n : a.tmps.size = ts.n
  d : ts.n ≤ 2 ^ ts.d
  rel : ∀ t, t < ts.n → VRel μ (getT ts t) (a.tmps.getD t undef)
  df : a.defers = []
theorem TRel.get {μ : Mu} {ts : Ts} {a : Act} (h : TRel μ ts a) (t : Nat) : VRel μ (getT ts t) (a.tmps.getD t undef) := by
  by_cases ht : t < ts.n
  · exact h.rel t ht
  · have e1 : getT ts t = undef := getT_ge ht
    have e2 : a.tmps.getD t undef = undef := by
      have := h.n
      simp [Array.getD, show ¬ t < a.tmps.size by omega]
    rw [e1, e2]
    exact vrel_undef μ
theorem evo_rel {μ : Mu} {ts : Ts} {a : Act} (h : TRel μ ts a) {x : Operand} {v : Value} (hv : evo ts x = some v) : VRel μ v (a.eval x) := by
  cases x with
  | tmp t =>
    simp only [evo, Option.some.injEq] at hv
    subst hv
    exact h.get t
  | const u =>
    simp only [evo] at hv
    split at hv
    · simp only [Option.some.injEq] at hv; subst hv; exact flat_rel μ (by assumption)
    · cases hv
  | func f => simp only [evo, Option.some.injEq] at hv; subst hv; exact flat_rel μ (by simp [flat, flatL1])
  | global g => simp [evo] at hv
def putV (ts : Ts) (dst : Option Tmp) (v : Value) : Ts := match dst with | some d => setT ts d v | none => ts
theorem TRel.putV {μ : Mu} {ts : Ts} {a : Act} (h : TRel μ ts a) {v v' : Value} (hv : VRel μ v v') (dst : Option Tmp) :
    TRel μ (putV ts dst v) (a.put dst v') := by
  cases dst with
  | none => exact h
  | some d =>
    have hn := setT_n ts d v
    refine ⟨?_, ?_, fun t ht => ?_, h.df⟩
    · simp only [ev.putV, Act.put, Array.size_setIfInBounds, hn.1]; exact h.n
    · simp only [ev.putV, hn.1, hn.2]; exact h.d
    · simp only [ev.putV, hn.1] at ht
      by_cases hd : d < ts.n
      · simp only [ev.putV, Act.put]
        rw [getT_setT ts h.d d t v hd]
        by_cases e : t = d
        · subst e
          rw [if_pos rfl]
          have := h.n
          simp [Array.getD, show t < a.tmps.size by omega]
          exact hv
        · rw [if_neg e]
          have := h.rel t ht
          have h2 : (a.tmps.setIfInBounds d v').getD t undef = a.tmps.getD t undef := by
            simp only [Array.getD_eq_getD_getElem?]
            rw [Array.getElem?_setIfInBounds_ne (fun e' => e e'.symm)]
          rw [h2]
          exact this
      · have e1 : setT ts d v = ts := setT_ge hd v
        have hn' : ¬ d < a.tmps.size := by rw [h.n]; exact hd
        have e2 : a.tmps.setIfInBounds d v' = a.tmps := by
          unfold Array.setIfInBounds; rw [dif_neg hn']
        simp only [ev.putV, Act.put, e1, e2]
        exact h.rel t ht
theorem TRel.mono {μ μ' : Mu} {ts : Ts} {a : Act} (h : TRel μ ts a) (hm : μ.le μ') : TRel μ' ts a := ⟨h.n, h.d, fun t ht => (h.rel t ht).mono hm, h.df⟩
/-- what an operation does: a value, a new memory -/
def Does (P : Program) (μ : Mu) (σ : St) (w : World) (ρ : Operand → Value) (o : Oper) (r : Value) (σ' : St) : Prop :=
  ∃ μ' r' w' n, (execOp ρ o).run P w = .ok n w' ∧ (n = .value r' ∨ (n = .skip ∧ r' = undef)) ∧ VRel μ' r r' ∧ Rel μ' σ' w' ∧ Step μ μ' σ σ' w w'

/-! operations on what holds no place -/
def allFlat (ts : Ts) : List Operand → Bool
  | [] => true
  | x :: l => (match evo ts x with | some v => flat v | none => false) && allFlat ts l
def isSelect : Op → Bool
  | .select .. => true
  | _ => false
def pureOp (P : Program) (ts : Ts) (o : Oper) : Option Value :=
  if allFlat ts o.op.operands.toList && !isSelect o.op then
    match pureRun P (execOp (fun x => (evo ts x).getD undef) o) with
    | some (.value r) => if flat r then some r else none
    | _ => none
  else none
theorem allFlat_eq {μ : Mu} {ts : Ts} {a : Act} (h : TRel μ ts a) : ∀ (l : List Operand), allFlat ts l = true → ∀ x ∈ l, a.eval x = (evo ts x).getD undef
  | [], _, x, hx => by simp at hx
  | y :: l, hl, x, hx => by
    simp only [allFlat, Bool.and_eq_true] at hl
    rcases List.mem_cons.1 hx with rfl | hx
    · cases hv : evo ts x with
      | none => simp [hv] at hl
      | some v =>
        simp only [hv] at hl
        simpa [hv] using flat_eq hl.1 (evo_rel h hv)
    · exact allFlat_eq h l hl.2 x hx
theorem pureOp_does {P : Program} {μ : Mu} {σ : St} {w : World} {ts : Ts} {a : Act} {o : Oper} {r : Value} (h : TRel μ ts a) (hR : Rel μ σ w) (he : pureOp P ts o = some r) : Does P μ σ w a.eval o r σ := by
  unfold pureOp at he
  split at he
  · rename_i hc
    simp only [Bool.and_eq_true, Bool.not_eq_true'] at hc
    split at he
    · rename_i r0 hr
      split at he
      · rename_i hf
        simp only [Option.some.injEq] at he
        subst he
        have hcg : execOp a.eval o = execOp (fun x => (evo ts x).getD undef) o := by
          refine execOp_congr o (fun cs b e => ?_) fun x hx => allFlat_eq h _ hc.1 x (by simpa using hx)
          rw [e] at hc; simp [isSelect] at hc
        exact ⟨μ, r0, w, _, by rw [hcg]; exact pureRun_run hr w, .inl rfl, flat_rel μ hf, hR, Step.refl _ _ _⟩
      · cases he
    · cases he
  · cases he

/-! new blocks -/
def newP (σ : St) (cells : List Value) (esz : Nat) : Option (Nat × St) :=
  forceL cells fun cells => if σ.size < 65536 then some (σ.size, σ.newS ⟨cells, true, esz, [], true⟩) else none
theorem cells_rel {μ : Mu} {v v' : Value} (h : VRel μ v v') : LRel μ v.cells.toList v'.cells.toList := by
  cases h with
  | agg l l' h => simpa [Value.cells] using h
  | sc v hs => cases v <;> first | (simp [scalar] at hs; done) | exact .cons _ _ _ _ (.sc _ hs) .nil
  | ptr k o L h => exact .cons _ _ _ _ (.ptr k o L h) .nil
  | slc k o n c L h hc => exact .cons _ _ _ _ (.slc k o n c L h hc) .nil
  | slo k o n c L h hn hs => exact .cons _ _ _ _ (.slo k o n c L h hn hs) .nil
  | sle k o o' L h hs => exact .cons _ _ _ _ (.sle k o o' L h hs) .nil
  | iface t v v' h => exact .cons _ _ _ _ (.iface t v v' h) .nil
  | tuple l l' h => exact .cons _ _ _ _ (.tuple l l' h) .nil
  | fn g l l' c c' h hc => exact .cons _ _ _ _ (.fn g l l' c c' h hc) .nil
theorem one_rel {μ : Mu} {v v' : Value} (h : VRel μ v v') : v'.oneCell' = v.oneCell' := by cases h <;> rfl
theorem ones_rel {μ : Mu} : ∀ {l l' : List Value}, LRel μ l l' → l'.all (·.oneCell') = l.all (·.oneCell')
  | _, _, .nil => rfl
  | _, _, .cons v v' l l' h hl => by simp [one_rel h, ones_rel hl]
theorem newP_does {P : Program} {μ : Mu} {σ σ' : St} {w w1 : World} {cells : List Value} {c : Array Value} {esz k : Nat} (hR : Rel μ σ w) (hn : newP σ cells esz = some (k, σ')) (hf : ∀ j, σ.size ≤ j → j < σ'.size → μ j = none) (e : TypeId)
    (hl : cells.length ≤ c.size) (hc : LRel μ cells (c.toList.take cells.length)) (hw : w1.heap = w.heap.push (.cells c e (0, 0))) (ho : w1.os = w.os) (ht : w1.tape = w.tape) (hp : w1.output = w.output) :
    k = σ.size ∧ Rel (μ.add k ⟨w.heap.size, 0, c.size, esz⟩) σ' w1 ∧ Step μ (μ.add k ⟨w.heap.size, 0, c.size, esz⟩) σ σ' w w1 := by
  unfold newP at hn
  rw [forceL_eq] at hn
  split at hn
  · rename_i hlt
    simp only [Option.some.injEq, Prod.mk.injEq] at hn
    obtain ⟨rfl, rfl⟩ := hn
    exact ⟨rfl, hR.alloc cells c e esz (hf _ (Nat.le_refl _) (by simp [St.newS])) hlt hl hc hw ho ht hp⟩
  · cases hn

/-! alloc, box -/
def allocV (P : Program) (σ : St) (e : TypeId) : Option (Value × St) :=
  match P.info? e with
  | some i => match i.zero with
    | some z => if flatL z.cells.toList then (newP σ z.cells.toList 0).map fun p => (.pointer (some ⟨p.1, 0, none⟩), p.2) else none
    | none => none
  | none => none
theorem allocV_does {P : Program} {μ : Mu} {σ σ' : St} {w : World} {e : TypeId} {r : Value} (hR : Rel μ σ w) (he : allocV P σ e = some (r, σ')) (hf : ∀ j, σ.size ≤ j → j < σ'.size → μ j = none) {ρ : Operand → Value} {o : Oper} (ho : o.op = .alloc e) :
    Does P μ σ w ρ o r σ' := by
  unfold allocV at he
  split at he
  · rename_i i hi
    split at he
    · rename_i z hz
      split at he
      · rename_i hfl
        simp only [Option.map_eq_some_iff, Prod.exists, Prod.mk.injEq] at he
        obtain ⟨k, s, hn, rfl, rfl⟩ := he
        obtain ⟨rfl, h1, h2⟩ := newP_does (P := P) (w1 := w.alloc (.cells z.cells e)) hR hn hf e (c := z.cells) (by simp) (by rw [show z.cells.toList.length = z.cells.size by simp, List.take_of_length_le (by simp)]; exact flatL_rel μ hfl) rfl rfl rfl rfl
        refine ⟨_, .pointer (some ⟨w.heap.size, 0, none⟩), w.alloc (.cells z.cells e), _, ?_, .inl rfl, ?_, h1, h2⟩
        · simp [execOp, ho, Instr.alloc, zeroValue, typeInfo, hi, hz, newVar, newRow]
        · have := VRel.ptr (μ := μ.add σ.size ⟨w.heap.size, 0, z.cells.size, 0⟩) σ.size 0 ⟨w.heap.size, 0, z.cells.size, 0⟩ (Mu.add_self _ _ _)
          simpa using this
      · cases he
    · cases he
  · cases he
def boxV (σ : St) (v : Value) : Option (Value × St) := (newP σ v.cells.toList 0).map fun p => (.pointer (some ⟨p.1, 0, none⟩), p.2)
theorem boxV_does {P : Program} {μ : Mu} {σ σ' : St} {w : World} {e : TypeId} {r v : Value} (hR : Rel μ σ w) (he : boxV σ v = some (r, σ')) (hf : ∀ j, σ.size ≤ j → j < σ'.size → μ j = none) {ρ : Operand → Value} {o : Oper} {x : Operand} (ho : o.op = .box e x) (hv : VRel μ v (ρ x)) :
    Does P μ σ w ρ o r σ' := by
  unfold boxV at he
  simp only [Option.map_eq_some_iff, Prod.exists, Prod.mk.injEq] at he
  obtain ⟨k, s, hn, rfl, rfl⟩ := he
  have hc := cells_rel hv
  have hl := hc.length
  obtain ⟨rfl, h1, h2⟩ := newP_does (P := P) (w1 := w.alloc (.cells (ρ x).cells e)) hR hn hf e (c := (ρ x).cells) (by rw [hl]; simp) (by rw [hl, List.take_length]; exact hc) rfl rfl rfl rfl
  refine ⟨_, .pointer (some ⟨w.heap.size, 0, none⟩), w.alloc (.cells (ρ x).cells e), _, ?_, .inl rfl, ?_, h1, h2⟩
  · simp [execOp, ho, Instr.box, newVar, newRow]
  · have := VRel.ptr (μ := μ.add σ.size ⟨w.heap.size, 0, (ρ x).cells.size, 0⟩) σ.size 0 ⟨w.heap.size, 0, (ρ x).cells.size, 0⟩ (Mu.add_self _ _ _)
    simpa using this

/-! load, store -/
def loadB (P : Program) (σ : St) (t : TypeId) (k off : Nat) : Option Value :=
  match σ.getB k with
  | some B => match P.underlying t, P.info? t with
    | some d, some i => if d.isRow then (if off + i.size ≤ B.cells.length then some (.agg ((B.cells.drop off).take i.size).toArray) else none) else B.cells[off]?
    | _, _ => none
  | none => none
theorem loadB_does {P : Program} {μ : Mu} {σ : St} {w : World} {t : TypeId} {k off : Nat} {r : Value} {L : Loc} (hR : Rel μ σ w) (hL : μ k = some L) (he : loadB P σ t k off = some r) :
    ∃ r', (loadVar t ⟨L.blk, off + L.sh, none⟩).run P w = .ok r' w ∧ VRel μ r r' := by
  unfold loadB at he
  split at he
  · rename_i B hB
    have hb := hR.blk k B L hB hL
    split at he
    · rename_i d i hd hi
      split at he
      · rename_i hrow
        split at he
        · rename_i hlen
          simp only [Option.some.injEq] at he
          subst he
          obtain ⟨m, h1, h2, h3⟩ := hb.range off i.size hlen
          exact ⟨_, run_loadVar_mid w L.blk (off + L.sh) t m d h3 hd (by simpa using hrow) (by simp [hi, h1]), .agg _ _ h2⟩
        · cases he
      · rename_i hrow
        have hlt : off < B.cells.length := (List.getElem?_eq_some_iff.1 he).1
        obtain ⟨m, h1, h2, h3⟩ := hb.range off 1 (by omega)
        have hr0 : ((B.cells.drop off).take 1)[0]? = some r := by simp [List.getElem?_take, he]
        obtain ⟨r', h4, h5⟩ := h2.get 0 r hr0
        refine ⟨r', ?_, h5⟩
        have hc := h3 0 r' h4
        have hagg : (isAgg t).run P w = .ok false w := by
          unfold isAgg
          rw [Sem.run_bind, run_underlying hd w]
          cases d <;> simp_all [TypeDesc.isRow]
        simp only [Nat.add_zero] at hc
        simp [loadVar, hagg, hc]
    · cases he
  · cases he
def storeB (P : Program) (σ : St) (t : TypeId) (k off : Nat) (v : Value) : Option St :=
  match σ.getB k with
  | some B => match P.info? t with
    | some i => if B.tip && v.cells.size == i.size && decide (off + i.size ≤ B.cells.length) && v.cells.toList.all (·.oneCell') then forceL (B.cells.take off ++ v.cells.toList ++ B.cells.drop (off + i.size)) fun l => some (σ.write k B l) else none
    | none => none
  | none => none
theorem write_does {P : Program} {μ : Mu} {σ : St} {w : World} {k off : Nat} {B : Blk} {L : Loc} (hR : Rel μ σ w) (hB : σ.getB k = some B) (hL : μ k = some L) (ht : B.tip = true) (vs vs' : List Value) (hvs : LRel μ vs vs') (hlen : off + vs.length ≤ B.cells.length) (h1 : vs.all (·.oneCell') = true) :
    ∃ w', (storeCells ⟨L.blk, off + L.sh, none⟩ vs').run P w = .ok () w' ∧ Rel μ (σ.write k B (B.cells.take off ++ vs ++ B.cells.drop (off + vs.length))) w' ∧ Step μ μ σ (σ.write k B (B.cells.take off ++ vs ++ B.cells.drop (off + vs.length))) w w' := by
  have hb := hR.blk k B L hB hL
  obtain ⟨c, e, g1, g2, g3, g4, g5⟩ := hb
  have hl := hvs.length
  have hst := run_storeCells_at P L.blk (off + L.sh) e vs' 0 c w g1 (by omega) (by
    have := ones_rel hvs
    rw [h1] at this
    simpa using this)
  simp only [Nat.add_zero] at hst
  refine ⟨_, hst, ?_⟩
  have hsz : (c.toList.take (off + L.sh) ++ vs' ++ c.toList.drop (off + L.sh + vs'.length)).toArray.size = c.size := by simp; omega
  refine hR.write hB hL ht _ (by simp; omega) g1 hsz ?_
  have e1 : (B.cells.take off ++ vs ++ B.cells.drop (off + vs.length)).length = B.cells.length := by simp; omega
  rw [e1]
  have e2 : (List.take B.cells.length (List.drop L.sh (c.toList.take (off + L.sh) ++ vs' ++ c.toList.drop (off + L.sh + vs'.length)).toArray.toList)) =
      ((c.toList.drop L.sh).take B.cells.length).take off ++ vs' ++ ((c.toList.drop L.sh).take B.cells.length).drop (off + vs.length) := by
    apply List.ext_getElem?
    intro i
    simp only [List.toList_toArray, List.getElem?_take, List.getElem?_drop, List.getElem?_append, List.length_take, List.length_append, List.length_drop, Array.length_toList]
    by_cases a1 : i < off
    · have : L.sh + i < min (off + L.sh) c.size := by omega
      have h2 : L.sh + i < min (off + L.sh) c.size + vs'.length := by omega
      have h3 : i < B.cells.length := by omega
      have h4 : i < min off (min B.cells.length (c.size - L.sh)) := by omega
      have h5 : i < min off (min B.cells.length (c.size - L.sh)) + vs'.length := by omega
      have h6 : L.sh + i < off + L.sh := by omega
      simp [this, h2, h3, h4, h5, h6, a1]
    · by_cases a2 : i < off + vs'.length
      · have h1 : ¬ L.sh + i < min (off + L.sh) c.size := by omega
        have h2 : L.sh + i < min (off + L.sh) c.size + vs'.length := by omega
        have h3 : i < B.cells.length := by omega
        have h4 : ¬ i < min off (min B.cells.length (c.size - L.sh)) := by omega
        have h5 : i < min off (min B.cells.length (c.size - L.sh)) + vs'.length := by omega
        have h6 : L.sh + i - min (off + L.sh) c.size = i - min off (min B.cells.length (c.size - L.sh)) := by omega
        simp [h1, h2, h3, h4, h5, h6]
      · have h2 : ¬ L.sh + i < min (off + L.sh) c.size + vs'.length := by omega
        have h5 : ¬ i < min off (min B.cells.length (c.size - L.sh)) + vs'.length := by omega
        have h6 : off + L.sh + vs'.length + (L.sh + i - (min (off + L.sh) c.size + vs'.length)) = L.sh + i := by omega
        have h7 : off + vs.length + (i - (min off (min B.cells.length (c.size - L.sh)) + vs'.length)) = i := by omega
        simp only [h2, h5, if_false, h6, h7]
  rw [e2]
  exact ((g5.take off).append hvs).append (g5.drop _)
theorem storeB_does {P : Program} {μ : Mu} {σ σ' : St} {w : World} {t : TypeId} {k off : Nat} {v v' : Value} {L : Loc} (hR : Rel μ σ w) (hL : μ k = some L) (hv : VRel μ v v') (he : storeB P σ t k off v = some σ') :
    ∃ w', (storeVar t ⟨L.blk, off + L.sh, none⟩ v').run P w = .ok () w' ∧ Rel μ σ' w' ∧ Step μ μ σ σ' w w' := by
  unfold storeB at he
  simp only [forceL_eq] at he
  split at he
  · rename_i B hB
    split at he
    · rename_i i hi
      split at he
      · rename_i hc
        simp only [Bool.and_eq_true, beq_iff_eq, decide_eq_true_eq] at hc
        obtain ⟨⟨⟨ht, hs⟩, hlen⟩, h1⟩ := hc
        simp only [Option.some.injEq] at he
        subst he
        have hcr := cells_rel hv
        have hl := hcr.length
        simp only [Array.length_toList] at hl
        obtain ⟨w', g1, g2, g3⟩ := write_does (P := P) (off := off) hR hB hL ht v.cells.toList v'.cells.toList hcr (by simp; omega) h1
        rw [show v.cells.toList.length = i.size by simpa using hs] at g2 g3
        refine ⟨w', ?_, g2, g3⟩
        have : v'.cells.size = i.size := by omega
        simp [storeVar, sizeOf, typeInfo, hi, this, g1]
      · cases he
    · cases he
  · cases he
end
end Go.Proofs.YtlnpibboemphnaaGreat.ev

/- The reckoner's operations on addresses and slices. -/
namespace Go.Proofs.YtlnpibboemphnaaGreat.ev
noncomputable section
open Go.RowKit
set_option linter.unusedSimpArgs false
set_option linter.unusedVariables false
set_option linter.unusedSectionVars false

/-- operations that only reckon a value -/
theorem does_val {P : Program} {μ : Mu} {σ : St} {w : World} {ρ : Operand → Value} {o : Oper} {r r' : Value} (hR : Rel μ σ w) (hv : VRel μ r r') (hr : (execOp ρ o).run P w = .ok (.value r') w) : Does P μ σ w ρ o r σ :=
  ⟨μ, r', w, _, hr, .inl rfl, hv, hR, Step.refl _ _ _⟩
theorem ptr_inv {μ : Mu} {k o : Nat} {v' : Value} (h : VRel μ (.pointer (some ⟨k, o, none⟩)) v') : ∃ L, μ k = some L ∧ v' = .pointer (some ⟨L.blk, o + L.sh, none⟩) := by
  cases h with
  | sc v h => simp [scalar] at h
  | ptr k o L h => exact ⟨L, h, rfl⟩
theorem int_inv {μ : Mu} {k : IntKind} {n : Int} {v' : Value} (h : VRel μ (.int k n) v') : v' = .int k n := flat_eq (by rfl) h
theorem fieldPlace_run {P : Program} {w : World} {f : Field} {i : TypeInfo} (hi : P.info? f.type = some i) (h0 : i.size ≠ 0) (a : Addr) : (fieldPlace a f).run P w = .ok (a.add f.offset) w := by
  simp [fieldPlace, sizeOf, typeInfo, hi, h0]
def fieldAddrV (P : Program) (s : TypeId) (v : Value) (f : Nat) : Option Value :=
  match P.underlying s, v with
  | some (.struct fs), .pointer (some ⟨k, o, none⟩) =>
    match fs[f]? with
    | some fd => match P.info? fd.type with
      | some i => if i.size = 0 then none else some (.pointer (some ⟨k, o + fd.offset, none⟩))
      | none => none
    | none => none
  | _, _ => none
theorem fieldAddrV_does {P : Program} {μ : Mu} {σ : St} {w : World} {ρ : Operand → Value} {o : Oper} {s : TypeId} {x : Operand} {f : Nat} {v r : Value} (hR : Rel μ σ w) (ho : o.op = .fieldAddr s x f) (hv : VRel μ v (ρ x)) (he : fieldAddrV P s v f = some r) : Does P μ σ w ρ o r σ := by
  unfold fieldAddrV at he
  split at he
  · rename_i fs k off hu
    split at he
    · rename_i fd hfd
      split at he
      · rename_i i hi
        split at he
        · cases he
        · rename_i h0
          simp only [Option.some.injEq] at he
          subst he
          obtain ⟨L, hL, hx⟩ := ptr_inv hv
          refine does_val hR (.ptr k (off + fd.offset) L hL) ?_
          simp [execOp, ho, Instr.fieldAt, run_underlying hu, hfd, Instr.sureAddr, hx, fieldPlace_run hi h0, Addr.add_lit]
          all_goals omega
      · cases he
    · cases he
  · cases he
/-- slices, read -/
theorem slc_inv {μ : Mu} {k o n c : Nat} {v' : Value} (h : VRel μ (.slice (some ⟨k, o, none⟩) n c) v') :
    ∃ L, μ k = some L ∧ ((c < opn ∧ v' = .slice (some ⟨L.blk, o + L.sh, none⟩) n c) ∨ (c = opn ∧ ∃ c', n ≤ c' ∧ o + L.sh + c' * L.esz = L.size ∧ v' = .slice (some ⟨L.blk, o + L.sh, none⟩) n c') ∨ (c = opn ∧ n = 0 ∧ o + L.sh = L.size ∧ ∃ o', v' = .slice (some ⟨L.blk, o', none⟩) 0 0)) := by
  cases h with
  | sc v h => simp [scalar] at h
  | slc k o n c L h hc => exact ⟨L, h, .inl ⟨hc, rfl⟩⟩
  | slo k o n c L h hn hs => exact ⟨L, h, .inr (.inl ⟨rfl, c, hn, hs, rfl⟩)⟩
  | sle k o o' L h hs => exact ⟨L, h, .inr (.inr ⟨rfl, rfl, hs, o', rfl⟩)⟩
def indexAddrV (P : Program) (t : TypeId) (v ix : Value) : Option Value :=
  match ix with
  | .int _ i =>
    match P.underlying t, v with
    | some (.slice e), .slice (some ⟨k, o, none⟩) n _ =>
      match P.info? e with
      | some inf => if 0 ≤ i ∧ i < n then some (.pointer (some ⟨k, o + i.toNat * inf.size, none⟩)) else none
      | none => none
    | some (.array n e), .pointer (some ⟨k, o, none⟩) =>
      match P.info? e with
      | some inf => if 0 ≤ i ∧ i < n then some (.pointer (some ⟨k, o + i.toNat * inf.size, none⟩)) else none
      | none => none
    | _, _ => none
  | _ => none
theorem indexAddrV_does {P : Program} {μ : Mu} {σ : St} {w : World} {ρ : Operand → Value} {o : Oper} {t : TypeId} {x y : Operand} {v u r : Value} (hR : Rel μ σ w) (ho : o.op = .indexAddr t x y) (hv : VRel μ v (ρ x)) (hu : VRel μ u (ρ y)) (he : indexAddrV P t v u = some r) : Does P μ σ w ρ o r σ := by
  unfold indexAddrV at he
  split at he
  · rename_i kd i
    have hy := int_inv hu
    split at he
    · rename_i e k off n c hut
      split at he
      · rename_i inf hi
        split at he
        · rename_i hb
          simp only [Option.some.injEq] at he
          subst he
          obtain ⟨L, hL, hx⟩ := slc_inv hv
          have hpos : 0 < n := by omega
          have hxx : ∃ c', ρ x = .slice (some ⟨L.blk, off + L.sh, none⟩) n c' := by
            rcases hx with ⟨_, hx⟩ | ⟨_, c', _, _, hx⟩ | ⟨_, h0, _⟩
            · exact ⟨_, hx⟩
            · exact ⟨_, hx⟩
            · omega
          obtain ⟨c', hx⟩ := hxx
          refine does_val hR (.ptr k (off + i.toNat * inf.size) L hL) ?_
          simp [execOp, ho, Instr.indexAt, run_underlying hut, hx, hy, asIntOf, hb, sizeOf, typeInfo, hi, Addr.add_lit]
          all_goals omega
        · cases he
      · cases he
    · rename_i n e k off hut
      split at he
      · rename_i inf hi
        split at he
        · rename_i hb
          simp only [Option.some.injEq] at he
          subst he
          obtain ⟨L, hL, hx⟩ := ptr_inv hv
          refine does_val hR (.ptr k (off + i.toNat * inf.size) L hL) ?_
          simp [execOp, ho, Instr.indexAt, run_underlying hut, hx, hy, asIntOf, Instr.sureAddr, hb, sizeOf, typeInfo, hi, Addr.add_lit]
          all_goals omega
        · cases he
      · cases he
    · cases he
  · cases he

/-! slices of slices and of arrays -/
def bnd : Option Value → Option (Option Nat)
  | none => some none
  | some (.int _ i) => if 0 ≤ i then some (some i.toNat) else none
  | some _ => none
/-- low, high, max within a capacity -/
def bounds (len cap : Nat) (lo hi mx : Option Nat) : Option (Nat × Nat × Nat) :=
  if mx.getD cap ≤ cap ∧ hi.getD len ≤ mx.getD cap ∧ lo.getD 0 ≤ hi.getD len ∧ (hi.isSome || mx.isNone) = true then some (lo.getD 0, hi.getD len, mx.getD cap) else none
theorem bnd_run {P : Program} {w : World} {v : Value} {i : Nat} (h : bnd (some v) = some (some i)) (y : Nat) (hy : i ≤ y) (code : BoundsCode) : (Instr.sliceBound v y code).run P w = .ok i w := by
  unfold bnd at h
  split at h
  · rename_i h1; simp at h1
  · rename_i k n h1
    split at h
    · rename_i h0
      simp only [Option.some.injEq] at h1 h
      subst h1; subst h
      have : n ≤ (y : Int) := by omega
      simp [Instr.sliceBound, asIntOf, h0, this]
    · cases h
  · cases h
theorem bounds_run {P : Program} {w : World} {isSlice : Bool} {len cap : Nat} {lo hi mx : Option Value} {lo' hi' mx' : Option Nat} {l h m : Nat} (h1 : bnd lo = some lo') (h2 : bnd hi = some hi') (h3 : bnd mx = some mx') (hb : bounds len cap lo' hi' mx' = some (l, h, m)) :
    (Instr.sliceBounds isSlice len cap lo hi mx).run P w = .ok (l, h, m) w := by
  unfold bounds at hb
  split at hb
  · rename_i hc
    obtain ⟨c1, c2, c3, c4⟩ := hc
    simp only [Option.some.injEq, Prod.mk.injEq] at hb
    obtain ⟨rfl, rfl, rfl⟩ := hb
    have hn : ∀ {x : Option Value} {x' : Option Nat}, bnd x = some x' → (x = none ∧ x' = none) ∨ ∃ v i, x = some v ∧ x' = some i := by
      intro x x' hx
      cases x with
      | none => simp [bnd] at hx; exact .inl ⟨rfl, hx.symm⟩
      | some v =>
        cases v <;> simp [bnd] at hx
        exact .inr ⟨_, _, rfl, hx.2.symm⟩
    rcases hn h1 with ⟨rfl, rfl⟩ | ⟨a, a', rfl, rfl⟩ <;> rcases hn h2 with ⟨rfl, rfl⟩ | ⟨b, b', rfl, rfl⟩ <;> rcases hn h3 with ⟨rfl, rfl⟩ | ⟨c, c', rfl, rfl⟩ <;> simp only [Option.getD_none, Option.getD_some] at c1 c2 c3 ⊢
    · simp [Instr.sliceBounds]
    · simp at c4
    · simp [Instr.sliceBounds, bnd_run (P := P) (w := w) h2 _ c2]
    · simp [Instr.sliceBounds, bnd_run (P := P) (w := w) h2 _ c2, bnd_run (P := P) (w := w) h3 _ c1]
    · simp [Instr.sliceBounds, bnd_run (P := P) (w := w) h1 _ c3]
    · simp at c4
    · simp [Instr.sliceBounds, bnd_run (P := P) (w := w) h2 _ c2, bnd_run (P := P) (w := w) h1 _ c3]
    · simp [Instr.sliceBounds, bnd_run (P := P) (w := w) h2 _ c2, bnd_run (P := P) (w := w) h3 _ c1, bnd_run (P := P) (w := w) h1 _ c3]
  · cases hb
/-- the result of slicing at a known capacity -/
def cutA (k o : Nat) (size l h m : Nat) : Option Value :=
  if m - l < opn then some (.slice (some ⟨k, if m = l then o else o + l * size, none⟩) (h - l) (m - l)) else none
def sliceV (P : Program) (σ : St) (t : TypeId) (v : Value) (lo hi mx : Option Value) : Option Value :=
  match bnd lo, bnd hi, bnd mx with
  | some lo', some hi', some mx' =>
    match P.underlying t, v with
    | some (.array n e), .pointer (some ⟨k, o, none⟩) =>
      match P.info? e with
      | some i => match bounds n n lo' hi' mx' with
        | some (l, h, m) => cutA k o i.size l h m
        | none => none
      | none => none
    | some (.slice e), .slice none 0 0 =>
      match P.info? e with
      | some i => match bounds 0 0 lo' hi' mx' with
        | some (l, h, m) => some (.slice none 0 0)
        | none => none
      | none => none
    | some (.slice e), .slice (some ⟨k, o, none⟩) n c =>
      match P.info? e with
      | some i =>
        if c < opn then
          match bounds n c lo' hi' mx' with
          | some (l, h, m) => cutA k o i.size l h m
          | none => none
        else if c = opn then
          match mx' with
          | some m0 =>
            match bounds n n lo' hi' mx' with
            | some (l, h, m) => if 0 < n then cutA k o i.size l h m else none
            | none => none
          | none =>
            match bounds n n lo' hi' none, σ.getB k with
            | some (l, h, _), some B => if B.esz = i.size then some (.slice (some ⟨k, o + l * i.size, none⟩) (h - l) opn) else none
            | _, _ => none
        else none
      | none => none
    | _, _ => none
  | _, _, _ => none
theorem bnd_rel {μ : Mu} {x x' : Option Value} {r : Option Nat} (h : (x = none ∧ x' = none) ∨ ∃ v v', x = some v ∧ x' = some v' ∧ VRel μ v v') (hb : bnd x = some r) : bnd x' = some r := by
  rcases h with ⟨rfl, rfl⟩ | ⟨v, v', rfl, rfl, hv⟩
  · exact hb
  · cases v <;> simp [bnd] at hb
    rw [int_inv hv]
    simp [bnd, hb]
theorem bounds_wide {len c c' : Nat} {lo hi : Option Nat} {l h m : Nat} (hb : bounds len c lo hi none = some (l, h, m)) (hc : c ≤ c') : bounds len c' lo hi none = some (l, h, c') ∧ l ≤ h ∧ h ≤ c := by
  unfold bounds at *
  split at hb
  · rename_i g
    simp only [Option.getD_none, Option.some.injEq, Prod.mk.injEq] at hb g
    obtain ⟨rfl, rfl, rfl⟩ := hb
    refine ⟨?_, g.2.2.1, g.2.1⟩
    rw [if_pos ⟨by simp, by simp; omega, g.2.2.1, by simp⟩]
    simp
  · cases hb
theorem bounds_max {len c c' m0 : Nat} {lo hi : Option Nat} {l h m : Nat} (hb : bounds len c lo hi (some m0) = some (l, h, m)) (hc : c ≤ c') : bounds len c' lo hi (some m0) = some (l, h, m) ∧ l ≤ h ∧ h ≤ m := by
  unfold bounds at *
  split at hb
  · rename_i g
    simp only [Option.getD_some, Option.some.injEq, Prod.mk.injEq] at hb g
    obtain ⟨rfl, rfl, rfl⟩ := hb
    refine ⟨?_, g.2.2.1, g.2.1⟩
    rw [if_pos ⟨by simp; omega, by simpa using g.2.1, g.2.2.1, by simpa using g.2.2.2⟩]
    simp
  · cases hb
theorem add_if (b o s : Nat) (p : Prop) [Decidable p] (n : Nat) : (if p then some (⟨b, o, none⟩ : Addr) else some ((⟨b, o, none⟩ : Addr).add n)) = some ⟨b, if p then o else o + n, none⟩ := by
  split <;> simp [Addr.add_lit]
theorem sliceV_does {P : Program} {μ : Mu} {σ : St} {w : World} {ρ : Operand → Value} {o : Oper} {t : TypeId} {x : Operand} {lo hi mx : Option Operand} {v r : Value} {lv hv mv : Option Value} (hR : Rel μ σ w) (ho : o.op = .slice t x lo hi mx) (hx : VRel μ v (ρ x))
    (h1 : (lv = none ∧ lo.map ρ = none) ∨ ∃ u u', lv = some u ∧ lo.map ρ = some u' ∧ VRel μ u u') (h2 : (hv = none ∧ hi.map ρ = none) ∨ ∃ u u', hv = some u ∧ hi.map ρ = some u' ∧ VRel μ u u') (h3 : (mv = none ∧ mx.map ρ = none) ∨ ∃ u u', mv = some u ∧ mx.map ρ = some u' ∧ VRel μ u u')
    (he : sliceV P σ t v lv hv mv = some r) : Does P μ σ w ρ o r σ := by
  have hex : (execOp ρ o).run P w = ((Instr.sliceAt t (ρ x) (lo.map ρ) (hi.map ρ) (mx.map ρ)).run P w).andThen fun r w => .ok (.value r) w := by simp [execOp, ho]
  have cut : ∀ (k off sz l h m n : Nat) (L : Loc) (r : Value), μ k = some L → cutA k off sz l h m = some r → VRel μ r (.slice (some ⟨L.blk, if m = l then off + L.sh else off + L.sh + l * sz, none⟩) (h - l) (m - l)) := by
    intro k off sz l h m n L r hL hc
    unfold cutA at hc
    split at hc
    · rename_i hlt
      simp only [Option.some.injEq] at hc
      subst hc
      have := VRel.slc (μ := μ) k (if m = l then off else off + l * sz) (h - l) (m - l) L hL hlt
      have e : (if m = l then off else off + l * sz) + L.sh = if m = l then off + L.sh else off + L.sh + l * sz := by split <;> omega
      rwa [e] at this
    · cases hc
  unfold sliceV at he
  split at he
  · rename_i lo' hi' mx' b1 b2 b3
    have c1 := bnd_rel h1 b1
    have c2 := bnd_rel h2 b2
    have c3 := bnd_rel h3 b3
    split at he
    · rename_i n e k off hu
      split at he
      · rename_i i hi'
        split at he
        · rename_i l h m hb
          obtain ⟨L, hL, hxx⟩ := ptr_inv hx
          refine does_val hR (cut k off i.size l h m 0 L r hL he) ?_
          rw [hex, hxx]
          simp [Instr.sliceAt, run_underlying hu, Instr.sureAddr, bounds_run (P := P) (w := w) (isSlice := false) c1 c2 c3 hb, sizeOf, typeInfo, hi', Addr.add_lit]
          split <;> simp
        · cases he
      · cases he
    · rename_i e hu
      split at he
      · rename_i i hi'
        split at he
        · rename_i l h m hb
          simp only [Option.some.injEq] at he
          subst he
          have hxx := scalar_eq (by rfl) hx
          refine does_val hR (.sc _ rfl) ?_
          have hz : l = 0 ∧ h = 0 ∧ m = 0 := by
            unfold bounds at hb
            split at hb
            · rename_i g
              simp only [Option.some.injEq, Prod.mk.injEq] at hb
              omega
            · cases hb
          obtain ⟨rfl, rfl, rfl⟩ := hz
          rw [hex, hxx]
          simp [Instr.sliceAt, Instr.slice, run_underlying hu, bounds_run (P := P) (w := w) (isSlice := true) c1 c2 c3 hb, sizeOf, typeInfo, hi']
        · cases he
      · cases he
    · rename_i _ e k off n c hu
      split at he
      · rename_i i hi'
        obtain ⟨L, hL, hxx⟩ := slc_inv hx
        split at he
        · rename_i hc
          split at he
          · rename_i l h m hb
            rcases hxx with ⟨_, hxx⟩ | ⟨h0, _⟩ | ⟨h0, _⟩
            · refine does_val hR (cut k off i.size l h m 0 L r hL he) ?_
              rw [hex, hxx]
              simp [Instr.sliceAt, Instr.slice, run_underlying hu, bounds_run (P := P) (w := w) (isSlice := true) c1 c2 c3 hb, sizeOf, typeInfo, hi', Addr.add_lit]
              split <;> simp
            · omega
            · omega
          · cases he
        · split at he
          · rename_i hc
            subst hc
            split at he
            · rename_i m0
              split at he
              · rename_i l h m hb
                split at he
                · rename_i hpos
                  rcases hxx with ⟨h0, _⟩ | ⟨_, c', hn, hs, hxx⟩ | ⟨_, h0, _⟩
                  · omega
                  · obtain ⟨hb', _, _⟩ := bounds_max hb hn
                    refine does_val hR (cut k off i.size l h m 0 L r hL he) ?_
                    rw [hex, hxx]
                    simp [Instr.sliceAt, Instr.slice, run_underlying hu, bounds_run (P := P) (w := w) (isSlice := true) c1 c2 c3 hb', sizeOf, typeInfo, hi', Addr.add_lit]
                    split <;> simp
                  · omega
                · cases he
              · cases he
            · split at he
              · rename_i l h m B hb hB
                split at he
                · rename_i hesz
                  simp only [Option.some.injEq] at he
                  subst he
                  obtain ⟨_, _, _, _, g3, _⟩ := hR.blk k B L hB hL
                  rcases hxx with ⟨h0, _⟩ | ⟨_, c', hn, hs, hxx⟩ | ⟨_, h0, hs, o', hxx⟩
                  · omega
                  · obtain ⟨hb', hlh, hhn⟩ := bounds_wide hb hn
                    have hrun : (execOp ρ o).run P w = .ok (.value (.slice (some ⟨L.blk, if c' = l then off + L.sh else off + L.sh + l * i.size, none⟩) (h - l) (c' - l))) w := by
                      rw [hex, hxx]
                      simp [Instr.sliceAt, Instr.slice, run_underlying hu, bounds_run (P := P) (w := w) (isSlice := true) c1 c2 c3 hb', sizeOf, typeInfo, hi', Addr.add_lit]
                      split <;> simp
                    by_cases hcl : c' = l
                    · rw [if_pos hcl] at hrun
                      have e1 : h - l = 0 := by omega
                      have e2 : c' - l = 0 := by omega
                      rw [e1, e2] at hrun
                      rw [e1]
                      exact does_val hR (.sle k (off + l * i.size) (off + L.sh) L hL (by rw [g3, hesz, hcl] at hs; omega)) hrun
                    · rw [if_neg hcl] at hrun
                      refine does_val hR ?_ hrun
                      have := VRel.slo (μ := μ) k (off + l * i.size) (h - l) (c' - l) L hL (by omega) (by
                        rw [g3, hesz] at *
                        rw [Nat.sub_mul]
                        have : l * i.size ≤ c' * i.size := Nat.mul_le_mul_right _ (by omega)
                        omega)
                      rwa [show off + l * i.size + L.sh = off + L.sh + l * i.size by omega] at this
                  · subst h0
                    obtain ⟨hb', hlh, hhn⟩ := bounds_wide hb (Nat.le_refl 0)
                    obtain rfl : h = 0 := by omega
                    obtain rfl : l = 0 := by omega
                    refine does_val hR (.sle k _ o' L hL (by omega)) ?_
                    rw [hex, hxx]
                    simp [Instr.sliceAt, Instr.slice, run_underlying hu, bounds_run (P := P) (w := w) (isSlice := true) c1 c2 c3 hb', sizeOf, typeInfo, hi', Addr.add_lit]
                · cases he
              · cases he
          · cases he
      · cases he
    · cases he
  · cases he
end
end Go.Proofs.YtlnpibboemphnaaGreat.ev

/- The reckoner's operations: structs, new rows, append, copy. -/
namespace Go.Proofs.YtlnpibboemphnaaGreat.ev
noncomputable section
open Go.RowKit
set_option linter.unusedSimpArgs false
set_option linter.unusedVariables false
set_option linter.unusedSectionVars false

/-! filling -/
theorem lrel_fold {μ : Mu} (off : Nat) : ∀ {l l' : List Value}, LRel μ l l' → ∀ (j : Nat) {cs cs' : Array Value}, LRel μ cs.toList cs'.toList →
    LRel μ ((l.zipIdx j).foldl (fun (cs : Array Value) (p : Value × Nat) => cs.setIfInBounds (off + p.2) p.1) cs).toList ((l'.zipIdx j).foldl (fun (cs : Array Value) (p : Value × Nat) => cs.setIfInBounds (off + p.2) p.1) cs').toList
  | _, _, .nil, j, cs, cs', h => by simpa using h
  | _, _, .cons v v' l l' hv hl, j, cs, cs', h => by
    simp only [List.zipIdx_cons, List.foldl_cons]
    refine lrel_fold off hl (j + 1) ?_
    simpa [Array.toList_setIfInBounds] using h.set hv (off + j)
theorem fill_rel {μ : Mu} (place : Nat → Option (Nat × Nat)) (f f' : Operand → Value) : ∀ (ps : List (Nat × Operand)) (cs cs' r : Array Value), (∀ p ∈ ps, VRel μ (f p.2) (f' p.2)) → LRel μ cs.toList cs'.toList →
    Instr.fill place cs (ps.map fun p => (p.1, f p.2)) = some r → ∃ r', Instr.fill place cs' (ps.map fun p => (p.1, f' p.2)) = some r' ∧ LRel μ r.toList r'.toList
  | [], cs, cs', r, _, hc, h => by
    simp [Instr.fill] at h
    subst h
    exact ⟨cs', by simp [Instr.fill], hc⟩
  | (i, x) :: ps, cs, cs', r, hp, hc, h => by
    simp only [List.map_cons, Instr.fill] at h ⊢
    split at h
    · cases h
    · rename_i off size hpl
      split at h
      · cases h
      · rename_i hb
        have hx := cells_rel (hp (i, x) (by simp))
        have hxl := hx.length
        have hcl := hc.length
        simp only [Array.length_toList] at hxl hcl
        rw [if_neg (by rw [← hxl, ← hcl]; exact hb)]
        refine fill_rel place f f' ps _ _ r (fun p hpp => hp p (by simp [hpp])) ?_ h
        have := lrel_fold off hx 0 hc
        rw [← Array.foldl_toList, ← Array.foldl_toList, Array.toList_zipIdx, Array.toList_zipIdx]
        exact this
def oksP (ts : Ts) (ps : List (Nat × Operand)) : Bool := ps.all fun p => (evo ts p.2).isSome
def vof (ts : Ts) (x : Operand) : Value := (evo ts x).getD undef
theorem vof_rel {μ : Mu} {ts : Ts} {a : Act} (h : TRel μ ts a) {x : Operand} (hs : (evo ts x).isSome = true) : VRel μ (vof ts x) (a.eval x) := by
  obtain ⟨v, hv⟩ := Option.isSome_iff_exists.1 hs
  rw [vof, hv]
  exact evo_rel h hv
def buildV (P : Program) (ts : Ts) (t : TypeId) (ps : List (Nat × Operand)) : Option Value :=
  if oksP ts ps then
    match P.info? t with
    | some it => match it.zero with
      | some z => if flatL z.cells.toList then (P.built t (ps.map fun p => (p.1, vof ts p.2))).map .agg else none
      | none => none
    | none => none
  else none
theorem buildV_does {P : Program} {μ : Mu} {σ : St} {w : World} {ts : Ts} {a : Act} {o : Oper} {t : TypeId} {ps : Array (Nat × Operand)} {r : Value} (hT : TRel μ ts a) (hR : Rel μ σ w) (ho : o.op = .build t ps) (he : buildV P ts t ps.toList = some r) : Does P μ σ w a.eval o r σ := by
  unfold buildV at he
  split at he
  · rename_i hok
    split at he
    · rename_i it hit
      split at he
      · rename_i z hz
        split at he
        · rename_i hfl
          simp only [Option.map_eq_some_iff] at he
          obtain ⟨cells, hb, rfl⟩ := he
          have hp : ∀ p ∈ ps.toList, VRel μ (vof ts p.2) (a.eval p.2) := fun p hp => vof_rel hT (by simpa using List.all_eq_true.1 hok p hp)
          have key : ∃ c', P.built t (ps.toList.map fun p => (p.1, a.eval p.2)) = some c' ∧ LRel μ cells.toList c'.toList := by
            unfold Program.built at hb ⊢
            rw [hit] at hb ⊢
            cases hu : P.underlying t with
            | none => simp [hu] at hb
            | some d =>
              cases d <;> simp only [hu, hz] at hb ⊢ <;> try (cases hb; done)
              · rename_i n e
                cases hie : P.info? e with
                | none => simp [hie] at hb
                | some ie =>
                  simp only [hie] at hb ⊢
                  exact fill_rel _ _ _ _ _ _ _ hp (flatL_rel μ hfl) hb
              · rename_i fields
                cases hpl : fields.toList.mapM (fun f => (P.info? f.type).map fun i => (f.offset, i.size)) with
                | none => simp [hpl] at hb
                | some places =>
                  simp only [hpl] at hb ⊢
                  exact fill_rel _ _ _ _ _ _ _ hp (flatL_rel μ hfl) hb
          obtain ⟨c', h1, h2⟩ := key
          refine does_val (r' := .agg c') hR (by simpa using VRel.agg _ _ h2) ?_
          have := run_build (P := P) w t (ps.map fun p => (p.1, a.eval p.2)) c' (by simpa using h1)
          simp only [execOp, ho, Sem.run_bind]
          rw [show (ps.map fun (x : Nat × Operand) => match x with | (i, x) => (i, a.eval x)) = ps.map fun p => (p.1, a.eval p.2) from rfl, this]
          rfl
        · cases he
      · cases he
    · cases he
  · cases he
def zrow (z : Value) (n : Nat) : Array Value := (Array.range n).map ((if n = 0 then (#[] : Array Value) else z.cells)[· % (if n = 0 then (#[] : Array Value) else z.cells).size]!)
theorem run_buildSlice {P : Program} {w : World} {t e : TypeId} {i : TypeInfo} {z : Value} {n : Nat} {parts : Array (Nat × Value)} {c : Array Value} (hu : P.underlying t = some (.slice e)) (hi : P.info? e = some i) (hz : i.zero = some z) (hle : n * i.size ≤ 16777216)
    (hf : Instr.fill (fun j => some (j * i.size, i.size)) (zrow z (n * i.size)) parts.toList = some c) : (Instr.buildSlice t n parts).run P w = .ok (.slice (some ⟨w.heap.size, 0, none⟩) n n) (w.alloc (.cells c e)) := by
  have hle' : ¬ 2 ^ 24 < n * i.size := by omega
  by_cases h0 : n * i.size = 0
  · simp only [zrow, h0, if_true] at hf
    simp only [Instr.buildSlice, Sem.run_bind, run_underlying hu, Result.andThen_ok, sizeOf, typeInfo, run_program, hi, Sem.run_pure, Sem.run_ite, h0, if_true, gt_iff_lt, hf, newRow, run_newObj]
    simp [hf]
  · simp only [zrow, h0, if_false] at hf
    simp only [Instr.buildSlice, Sem.run_bind, run_underlying hu, Result.andThen_ok, sizeOf, typeInfo, run_program, hi, Sem.run_pure, Sem.run_ite, h0, if_false, zeroValue, hz, gt_iff_lt, hle', hf, newRow, run_newObj]
    rfl
def buildSliceV (P : Program) (σ : St) (ts : Ts) (t : TypeId) (n : Nat) (ps : List (Nat × Operand)) : Option (Value × St) :=
  if oksP ts ps then
    match P.underlying t with
    | some (.slice e) => match P.info? e with
      | some i => match i.zero with
        | some z =>
          if n * i.size ≤ 16777216 ∧ n < opn ∧ flatL (zrow z (n * i.size)).toList = true then
            match Instr.fill (fun j => some (j * i.size, i.size)) (zrow z (n * i.size)) (ps.map fun p => (p.1, vof ts p.2)) with
            | some cells => (newP σ cells.toList i.size).map fun p => (.slice (some ⟨p.1, 0, none⟩) n n, p.2)
            | none => none
          else none
        | none => none
      | none => none
    | _ => none
  else none
theorem buildSliceV_does {P : Program} {μ : Mu} {σ σ' : St} {w : World} {ts : Ts} {a : Act} {o : Oper} {t : TypeId} {n : Nat} {ps : Array (Nat × Operand)} {r : Value} (hT : TRel μ ts a) (hR : Rel μ σ w) (ho : o.op = .buildSlice t n ps) (he : buildSliceV P σ ts t n ps.toList = some (r, σ')) (hf : ∀ j, σ.size ≤ j → j < σ'.size → μ j = none) : Does P μ σ w a.eval o r σ' := by
  unfold buildSliceV at he
  split at he
  · rename_i hok
    split at he
    · rename_i e hu
      split at he
      · rename_i i hi
        split at he
        · rename_i z hz
          split at he
          · rename_i hc
            obtain ⟨hc1, hc2, hc3⟩ := hc
            split at he
            · rename_i cells hfill
              simp only [Option.map_eq_some_iff, Prod.exists, Prod.mk.injEq] at he
              obtain ⟨k, s, hn, rfl, rfl⟩ := he
              have hp : ∀ p ∈ ps.toList, VRel μ (vof ts p.2) (a.eval p.2) := fun p hp => vof_rel hT (by simpa using List.all_eq_true.1 hok p hp)
              obtain ⟨c', h1, h2⟩ := fill_rel (fun j => some (j * i.size, i.size)) (vof ts) a.eval ps.toList _ _ _ hp (flatL_rel μ hc3) hfill
              have hl := h2.length
              obtain ⟨rfl, g1, g2⟩ := newP_does (P := P) (w1 := w.alloc (.cells c' e)) hR hn hf e (c := c') (by rw [hl]; simp) (by rw [hl, List.take_length]; exact h2) rfl rfl rfl rfl
              refine ⟨_, .slice (some ⟨w.heap.size, 0, none⟩) n n, w.alloc (.cells c' e), _, ?_, .inl rfl, ?_, g1, g2⟩
              · have := run_buildSlice (P := P) (w := w) (parts := ps.map fun p => (p.1, a.eval p.2)) hu hi hz hc1 (by simpa using h1)
                simp only [execOp, ho, Sem.run_bind]
                rw [show (ps.map fun (x : Nat × Operand) => match x with | (i, x) => (i, a.eval x)) = ps.map fun p => (p.1, a.eval p.2) from rfl, this]
                rfl
              · have := VRel.slc (μ := μ.add σ.size ⟨w.heap.size, 0, c'.size, i.size⟩) σ.size 0 n n ⟨w.heap.size, 0, c'.size, i.size⟩ (Mu.add_self _ _ _) hc2
                simpa using this
            · cases he
          · cases he
        · cases he
      · cases he
    · cases he
  · cases he
/-! make -/
def makeSliceV (P : Program) (σ : St) (t : TypeId) (l c : Value) : Option (Value × St) :=
  match l, c with
  | .int _ l, .int _ c =>
    match P.underlying t with
    | some (.slice e) => match P.info? e with
      | some i => match i.zero with
        | some z =>
          if 0 ≤ l ∧ l ≤ c ∧ c ≤ 1000000 ∧ i.bytes ≤ 1000000 ∧ flatL (zrow z (c.toNat * i.size)).toList = true then
            (newP σ (zrow z (c.toNat * i.size)).toList i.size).map fun p => (.slice (some ⟨p.1, 0, none⟩) l.toNat c.toNat, p.2)
          else none
        | none => none
      | none => none
    | _ => none
  | _, _ => none
theorem i64_small {c : Int} (h0 : 0 ≤ c) (h1 : c ≤ 1000000) : IntKind.i64.wrap c = c := IntWalk.i64_in _ (by omega)
theorem run_makeSlice {P : Program} {w : World} {t e : TypeId} {i : TypeInfo} {z : Value} {k k' : IntKind} {l c : Int} (hu : P.underlying t = some (.slice e)) (hi : P.info? e = some i) (hz : i.zero = some z) (h0 : 0 ≤ l) (h1 : l ≤ c) (h2 : c ≤ 1000000) (h3 : i.bytes ≤ 1000000) :
    (Instr.makeSlice t (.int k l) (.int k' c)).run P w = .ok (.slice (some ⟨w.heap.size, 0, none⟩) l.toNat c.toNat) (w.alloc (.cells (zrow z (c.toNat * i.size)) e)) := by
  have w1 := i64_small h0 (by omega : l ≤ 1000000)
  have w2 := i64_small (by omega : 0 ≤ c) h2
  have hm : (i.bytes : Int) * c ≤ 1000000 * 1000000 := by
    refine Int.le_trans (Int.mul_le_mul_of_nonneg_right (by omega : (i.bytes : Int) ≤ 1000000) (by omega)) (Int.mul_le_mul_of_nonneg_left h2 (by omega))
  have b1 : ¬ c < 0 := by omega
  have b2 : ¬ (2 ^ 48 < (i.bytes : Int) * c) := by omega
  have b3 : ¬ l < 0 := by omega
  have b4 : ¬ c < l := by omega
  by_cases hn : c.toNat * i.size = 0
  · simp [Instr.makeSlice, run_underlying hu, asInt, asIntOf, typeInfo, hi, w1, w2, b1, b2, b3, b4, sizeOf, hn, newRow, zrow]
    intro hx; omega
  · simp [Instr.makeSlice, run_underlying hu, asInt, asIntOf, typeInfo, hi, w1, w2, b1, b2, b3, b4, sizeOf, hn, newRow, zrow, zeroValue, hz]
    intro hx; omega
theorem makeSliceV_does {P : Program} {μ : Mu} {σ σ' : St} {w : World} {ρ : Operand → Value} {o : Oper} {t : TypeId} {x y : Operand} {u v r : Value} (hR : Rel μ σ w) (ho : o.op = .makeSlice t x y) (hu : VRel μ u (ρ x)) (hv : VRel μ v (ρ y)) (he : makeSliceV P σ t u v = some (r, σ')) (hf : ∀ j, σ.size ≤ j → j < σ'.size → μ j = none) : Does P μ σ w ρ o r σ' := by
  unfold makeSliceV at he
  split at he
  · rename_i k l k' c
    split at he
    · rename_i e hut
      split at he
      · rename_i i hi
        split at he
        · rename_i z hz
          split at he
          · rename_i hc
            obtain ⟨c1, c2, c3, c4, c5⟩ := hc
            simp only [Option.map_eq_some_iff, Prod.exists, Prod.mk.injEq] at he
            obtain ⟨kk, s, hn, rfl, rfl⟩ := he
            obtain ⟨rfl, g1, g2⟩ := newP_does (P := P) (w1 := w.alloc (.cells (zrow z (c.toNat * i.size)) e)) hR hn hf e (c := zrow z (c.toNat * i.size)) (by simp) (by rw [show (zrow z (c.toNat * i.size)).toList.length = (zrow z (c.toNat * i.size)).size by simp, List.take_of_length_le (by simp)]; exact flatL_rel μ c5) rfl rfl rfl rfl
            refine ⟨_, .slice (some ⟨w.heap.size, 0, none⟩) l.toNat c.toNat, w.alloc (.cells (zrow z (c.toNat * i.size)) e), _, ?_, .inl rfl, ?_, g1, g2⟩
            · rw [show execOp ρ o = (do pure (.value (← Instr.makeSlice t (ρ x) (ρ y)))) by simp [execOp, ho], int_inv hu, int_inv hv]
              simp only [Sem.run_bind, run_makeSlice (P := P) (w := w) hut hi hz c1 c2 c3 c4]
              rfl
            · have := VRel.slc (μ := μ.add σ.size ⟨w.heap.size, 0, (zrow z (c.toNat * i.size)).size, i.size⟩) σ.size 0 l.toNat c.toNat ⟨w.heap.size, 0, (zrow z (c.toNat * i.size)).size, i.size⟩ (Mu.add_self _ _ _) (by unfold opn; omega)
              simpa using this
          · cases he
        · cases he
      · cases he
    · cases he
  · cases he

/-! parts of values -/
def partV (P : Program) (t : TypeId) (cs : Array Value) (off : Nat) : Option Value :=
  match P.underlying t, P.info? t with
  | some d, some i => if d.isRow then some (.agg (cs.extract off (off + i.size))) else cs[off]?
  | _, _ => none
theorem partV_does {P : Program} {μ : Mu} {w : World} {t : TypeId} {cs cs' : Array Value} {off : Nat} {r : Value} (h : LRel μ cs.toList cs'.toList) (he : partV P t cs off = some r) : ∃ r', (part t cs' off).run P w = .ok r' w ∧ VRel μ r r' := by
  unfold partV at he
  split at he
  · rename_i d i hd hi
    have hagg : (isAgg t).run P w = .ok d.isRow w := by
      unfold isAgg
      rw [Sem.run_bind, run_underlying hd w]
      cases d <;> simp [TypeDesc.isRow]
    split at he
    · rename_i hrow
      simp only [Option.some.injEq] at he
      subst he
      refine ⟨.agg (cs'.extract off (off + i.size)), by simp [part, hagg, hrow, sizeOf, typeInfo, hi], ?_⟩
      have e : ∀ c : Array Value, c.extract off (off + i.size) = ((c.toList.take (off + i.size)).drop off).toArray := fun c => by
        apply Array.ext'
        apply List.ext_getElem?
        intro j
        simp only [Array.getElem?_toList, Array.getElem?_extract, List.toList_toArray, List.getElem?_drop, List.getElem?_take]
        by_cases hj : j < min (off + i.size) c.size - off
        · rw [if_pos hj, if_pos (by omega)]
        · rw [if_neg hj]
          by_cases hk : off + j < off + i.size
          · rw [if_pos hk, Array.getElem?_eq_none (by omega)]
          · rw [if_neg hk]
      rw [e, e]
      exact .agg _ _ ((h.take _).drop _)
    · rename_i hrow
      obtain ⟨r', h1, h2⟩ := h.get off r (by simpa using he)
      refine ⟨r', ?_, h2⟩
      have h1' : cs'[off]? = some r' := by simpa using h1
      simp [part, hagg, hrow, h1']
  · cases he
theorem agg_inv {μ : Mu} {cs : Array Value} {v' : Value} (h : VRel μ (.agg cs) v') : ∃ cs', v' = .agg cs' ∧ LRel μ cs.toList cs'.toList := by
  cases h with
  | sc v h => simp [scalar] at h
  | agg l l' h => exact ⟨_, rfl, by simpa using h⟩
theorem tuple_inv {μ : Mu} {cs : Array Value} {v' : Value} (h : VRel μ (.tuple cs) v') : ∃ cs', v' = .tuple cs' ∧ LRel μ cs.toList cs'.toList := by
  cases h with
  | sc v h => simp [scalar] at h
  | tuple l l' h => exact ⟨_, rfl, by simpa using h⟩
theorem iface_inv {μ : Mu} {t : TypeId} {v v' : Value} (h : VRel μ (.iface t v) v') : ∃ u, v' = .iface t u ∧ VRel μ v u := by
  cases h with
  | sc v h => simp [scalar] at h
  | iface t v v' h => exact ⟨_, rfl, h⟩
theorem func_inv {μ : Mu} {g : FuncId} {a c : Array Value} {v' : Value} (h : VRel μ (.func (.func g) a c) v') : ∃ a' c', v' = .func (.func g) a' c' ∧ LRel μ a.toList a'.toList ∧ LRel μ c.toList c'.toList := by
  cases h with
  | sc v h => simp [scalar] at h
  | fn g l l' c c' h hc => exact ⟨_, _, rfl, by simpa using h, by simpa using hc⟩
def fieldV (P : Program) (t : TypeId) (v : Value) (f : Nat) : Option Value :=
  match P.underlying t, v with
  | some (.struct fs), .agg cs => match fs[f]? with
    | some fd => partV P fd.type cs fd.offset
    | none => none
  | _, _ => none
theorem fieldV_does {P : Program} {μ : Mu} {σ : St} {w : World} {ρ : Operand → Value} {o : Oper} {t : TypeId} {x : Operand} {f : Nat} {v r : Value} (hR : Rel μ σ w) (ho : o.op = .field t x f) (hv : VRel μ v (ρ x)) (he : fieldV P t v f = some r) : Does P μ σ w ρ o r σ := by
  unfold fieldV at he
  split at he
  · rename_i fs cs hu
    split at he
    · rename_i fd hfd
      obtain ⟨cs', hx, hl⟩ := agg_inv hv
      obtain ⟨r', h1, h2⟩ := partV_does (w := w) hl he
      refine does_val hR h2 ?_
      simp [execOp, ho, Instr.field, run_underlying hu, hfd, hx, asAgg, h1]
    · cases he
  · cases he
def indexV (P : Program) (t : TypeId) (v ix : Value) : Option Value :=
  match P.underlying t, v, ix with
  | some (.array n e), .agg cs, .int _ i => match P.info? e with
    | some inf => if 0 ≤ i ∧ i < n then partV P e cs (i.toNat * inf.size) else none
    | none => none
  | _, _, _ => none
theorem indexV_does {P : Program} {μ : Mu} {σ : St} {w : World} {ρ : Operand → Value} {o : Oper} {t : TypeId} {x y : Operand} {v u r : Value} (hR : Rel μ σ w) (ho : o.op = .index t x y) (hv : VRel μ v (ρ x)) (hu : VRel μ u (ρ y)) (he : indexV P t v u = some r) : Does P μ σ w ρ o r σ := by
  unfold indexV at he
  split at he
  · rename_i n e cs k i hut
    split at he
    · rename_i inf hi
      split at he
      · rename_i hb
        obtain ⟨cs', hx, hl⟩ := agg_inv hv
        obtain ⟨r', h1, h2⟩ := partV_does (w := w) hl he
        refine does_val hR h2 ?_
        simp [execOp, ho, Instr.index, run_underlying hut, hx, int_inv hu, asIntOf, hb, sizeOf, typeInfo, hi, h1]
      · cases he
    · cases he
  · cases he
def extractV (v : Value) (ix : Nat) : Option Value :=
  match v with
  | .tuple vs => vs[ix]?
  | _ => none
theorem extractV_does {P : Program} {μ : Mu} {σ : St} {w : World} {ρ : Operand → Value} {o : Oper} {x : Operand} {ix : Nat} {v r : Value} (hR : Rel μ σ w) (ho : o.op = .extract x ix) (hv : VRel μ v (ρ x)) (he : extractV v ix = some r) : Does P μ σ w ρ o r σ := by
  unfold extractV at he
  split at he
  · rename_i vs
    obtain ⟨cs', hx, hl⟩ := tuple_inv hv
    obtain ⟨r', h1, h2⟩ := hl.get ix r (by simpa using he)
    refine does_val hR h2 ?_
    have h1' : cs'[ix]? = some r' := by simpa using h1
    simp [execOp, ho, Instr.extract, hx, h1']
  · cases he
def makeIfaceV (P : Program) (t : TypeId) (v : Value) : Option Value :=
  match P.underlying t with
  | some (.interface _) => none
  | some _ => some (.iface t v)
  | none => none
theorem makeIfaceV_does {P : Program} {μ : Mu} {σ : St} {w : World} {ρ : Operand → Value} {o : Oper} {t : TypeId} {x : Operand} {v r : Value} (hR : Rel μ σ w) (ho : o.op = .makeInterface t x) (hv : VRel μ v (ρ x)) (he : makeIfaceV P t v = some r) : Does P μ σ w ρ o r σ := by
  unfold makeIfaceV at he
  split at he
  · cases he
  · rename_i d hnd hd
    simp only [Option.some.injEq] at he
    subst he
    refine does_val hR (.iface t v (ρ x) hv) ?_
    simp only [execOp, ho, Instr.makeInterface, Sem.run_bind, run_underlying hd, Result.andThen_ok]
    cases d <;> first | rfl | exact absurd rfl (hnd _)
  · cases he
def oksL (ts : Ts) (l : List Operand) : Bool := l.all fun x => (evo ts x).isSome
theorem oksL_rel {μ : Mu} {ts : Ts} {a : Act} (h : TRel μ ts a) (l : List Operand) (hs : oksL ts l = true) : LRel μ (l.map (vof ts)) (l.map a.eval) :=
  LRel.map l fun x hx => vof_rel h (by simpa using List.all_eq_true.1 hs x hx)
def makeFuncV (ts : Ts) (f : Fn) (first captured : List Operand) : Option Value :=
  match f with
  | .func g => if oksL ts first && oksL ts captured then some (.func (.func g) (first.map (vof ts)).toArray (captured.map (vof ts)).toArray) else none
  | _ => none
theorem makeFuncV_does {P : Program} {μ : Mu} {σ : St} {w : World} {ts : Ts} {a : Act} {o : Oper} {f : Fn} {first captured : Array Operand} {r : Value} (hT : TRel μ ts a) (hR : Rel μ σ w) (ho : o.op = .makeFunc f first captured) (he : makeFuncV ts f first.toList captured.toList = some r) : Does P μ σ w a.eval o r σ := by
  unfold makeFuncV at he
  split at he
  · rename_i g
    split at he
    · rename_i hok
      simp only [Bool.and_eq_true] at hok
      simp only [Option.some.injEq] at he
      subst he
      refine does_val hR (.fn g _ _ _ _ (oksL_rel hT _ hok.1) (oksL_rel hT _ hok.2)) ?_
      simp [execOp, ho, Instr.makeFunc]
      constructor <;> (apply Array.ext'; simp)
    · cases he
  · cases he
def nilCheckV (v : Value) : Option Value :=
  match v with
  | .pointer (some ⟨k, o, none⟩) => some (.pointer (some ⟨k, o, none⟩))
  | .func (.func g) a c => some (.func (.func g) a c)
  | _ => none
theorem nilCheckV_does {P : Program} {μ : Mu} {σ : St} {w : World} {ρ : Operand → Value} {o : Oper} {x : Operand} {v r : Value} (hR : Rel μ σ w) (ho : o.op = .nilCheck x) (hv : VRel μ v (ρ x)) (he : nilCheckV v = some r) : Does P μ σ w ρ o r σ := by
  unfold nilCheckV at he
  split at he
  · rename_i k off
    simp only [Option.some.injEq] at he
    subst he
    obtain ⟨L, hL, hx⟩ := ptr_inv hv
    refine does_val hR hv ?_
    simp [execOp, ho, hx]
  · rename_i g ar c
    simp only [Option.some.injEq] at he
    subst he
    obtain ⟨a', c', hx, _, _⟩ := func_inv hv
    refine does_val hR hv ?_
    simp [execOp, ho, hx]
  · cases he
/-- compared with nil -/
def nilEqV (P : Program) (op : BinOp) (t : TypeId) (x y : Value) : Option Value :=
  match P.underlying t, x, y, op with
  | some (.slice _), .slice q _ _, .slice none 0 0, .eql => some (.bool q.isNone)
  | some (.slice _), .slice q _ _, .slice none 0 0, .neq => some (.bool (!q.isNone))
  | _, _, _, _ => none
theorem slice_nil {μ : Mu} {q : Option Addr} {n c : Nat} {v' : Value} (h : VRel μ (.slice q n c) v') : ∃ q' n' c', v' = .slice q' n' c' ∧ q'.isNone = q.isNone := by
  cases h <;> exact ⟨_, _, _, rfl, rfl⟩
theorem run_eq_nil {P : Program} {w : World} {t e : TypeId} (hu : P.underlying t = some (.slice e)) (q : Option Addr) (n c : Nat) : (Op.equal t (.slice q n c) (.slice none 0 0)).run P w = .ok q.isNone w := by
  unfold Op.equal Op.maxDepth
  rw [show (10000 : Nat) = 9999 + 1 from rfl, Op.equalIn]
  simp only [Sem.run_bind, run_underlying hu, Result.andThen_ok]
  cases q <;> rfl
theorem nilEqV_does {P : Program} {μ : Mu} {σ : St} {w : World} {ρ : Operand → Value} {o : Oper} {op : BinOp} {t t' : TypeId} {x y : Operand} {v u r : Value} (hR : Rel μ σ w) (ho : o.op = .binOp op t x y t') (hv : VRel μ v (ρ x)) (hu : VRel μ u (ρ y)) (he : nilEqV P op t v u = some r) : Does P μ σ w ρ o r σ := by
  unfold nilEqV at he
  split at he
  · rename_i e q n c hut
    simp only [Option.some.injEq] at he
    subst he
    obtain ⟨q', n', c', hx, hq⟩ := slice_nil hv
    have hy : ρ y = .slice none 0 0 := scalar_eq (by rfl) hu
    refine does_val hR (.sc _ rfl) ?_
    simp only [execOp, ho, hx, hy, Sem.run_bind, eqGuard_at_slice, binOp, run_eq_nil hut, Sem.run_pure, Result.andThen_ok, hq]
  · rename_i e q n c hut
    simp only [Option.some.injEq] at he
    subst he
    obtain ⟨q', n', c', hx, hq⟩ := slice_nil hv
    have hy : ρ y = .slice none 0 0 := scalar_eq (by rfl) hu
    refine does_val hR (.sc _ rfl) ?_
    simp only [execOp, ho, hx, hy, Sem.run_bind, eqGuard_at_slice, binOp, run_eq_nil hut, Sem.run_pure, Result.andThen_ok, hq]
  · cases he
end
end Go.Proofs.YtlnpibboemphnaaGreat.ev

/- The reckoner's append, copy, len. -/
namespace Go.Proofs.YtlnpibboemphnaaGreat.ev
noncomputable section
open Go.RowKit
set_option linter.unusedSimpArgs false
set_option linter.unusedVariables false
set_option linter.unusedSectionVars false

theorem exec_builtin {ρ : Operand → Value} {o : Oper} {c : Call} {b : Builtin} (ho : o.op = .call c) (hc : c.callee = .builtin b) : ∃ cs, execOp ρ o = builtin b c.argTypes o.type cs (c.args.map ρ) := by
  have h : execOp ρ o = (do let d ← resolve ρ c o.type; invoke d.target d.args) := by simp only [execOp, ho]
  rw [h]
  unfold resolve
  rw [hc]
  exact ⟨_, rfl⟩
/-- the first n elements of a slice -/
def rowOf (σ : St) (x : Value) (size n : Nat) : Option (List Value) :=
  if n = 0 then some [] else
  match x with
  | .slice (some ⟨k, o, none⟩) m _ => if n ≤ m then match σ.getB k with
      | some B => if o + n * size ≤ B.cells.length then some ((B.cells.drop o).take (n * size)) else none
      | none => none
    else none
  | _ => none
theorem rowOf_rel {μ : Mu} {σ : St} {w : World} {x x' : Value} {size n : Nat} {xs : List Value} (hR : Rel μ σ w) (hx : VRel μ x x') (h : rowOf σ x size n = some xs) :
    ∃ xs', xs'.length = n * size ∧ LRel μ xs xs' ∧ xs.length = n * size ∧ (0 < n → ∃ b o m c, x' = .slice (some ⟨b, o, none⟩) m c ∧ w.rangeAt b o xs') := by
  unfold rowOf at h
  split at h
  · rename_i h0
    simp only [Option.some.injEq] at h
    subst h
    exact ⟨[], by simp [h0], .nil, by simp [h0], fun hp => by omega⟩
  · rename_i h0
    split at h
    · rename_i k o m c
      split at h
      · rename_i hnm
        split at h
        · rename_i B hB
          split at h
          · rename_i hlen
            simp only [Option.some.injEq] at h
            subst h
            obtain ⟨L, hL, hxx⟩ := slc_inv hx
            obtain ⟨xs', h1, h2, h3⟩ := (hR.blk k B L hB hL).range o (n * size) hlen
            refine ⟨xs', h1, h2, by simp; omega, fun hp => ?_⟩
            rcases hxx with ⟨_, hxx⟩ | ⟨_, c', _, _, hxx⟩ | ⟨_, hm, _⟩
            · exact ⟨_, _, _, _, hxx, h3⟩
            · exact ⟨_, _, _, _, hxx, h3⟩
            · omega
          · cases h
        · cases h
      · cases h
    · cases h
theorem run_append_zero {P : Program} {w : World} {t ty e : TypeId} {i : TypeInfo} (ht : P.underlying t = some (.slice e)) (hi : P.info? e = some i) (q xq : Option Addr) (l c xc : Nat) (hl : l ≤ c) :
    (Builtin.append_ #[t, t] ty #[.slice q l c, .slice xq 0 xc]).run P w = .ok (.slice q l c) w := by
  have hf : ∀ size, (Builtin.firstCells size 0 (.slice xq 0 xc)).run P w = .ok #[] w := fun size => by
    cases xq with
    | none => simp [Builtin.firstCells]
    | some a => simp [Builtin.firstCells, loadCells, loadCellsFrom]
  cases q with
  | none => simp [Builtin.append_, run_underlying ht, sizeOf, typeInfo, hi, Builtin.lenOf, hl, hf]
  | some a => simp [Builtin.append_, run_underlying ht, sizeOf, typeInfo, hi, Builtin.lenOf, hl, hf, storeCells]
theorem run_append_in {P : Program} {w w' : World} {t ty e : TypeId} {i : TypeInfo} (ht : P.underlying t = some (.slice e)) (hi : P.info? e = some i) (b o l c : Nat) (a : Addr) (n xc : Nat) (news : List Value) (hl : news.length = n * i.size) (hnews : ∀ j u, news[j]? = some u → w.cell? (a.add j) = some u)
    (hroom : l + n ≤ c) (hst : (storeCells ⟨b, o + l * i.size, none⟩ news).run P w = .ok () w') :
    (Builtin.append_ #[t, t] ty #[.slice (some ⟨b, o, none⟩) l c, .slice (some a) n xc]).run P w = .ok (.slice (some ⟨b, o, none⟩) (l + n) c) w' := by
  have hf := run_firstCells_some (P := P) w i.size n a n xc news hl hnews
  simp [Builtin.append_, run_underlying ht, sizeOf, typeInfo, hi, Builtin.lenOf, hroom, hf, Addr.add_lit, hst]
def appendV (P : Program) (σ : St) (t : TypeId) (s x : Value) : Option (Value × St) :=
  match P.underlying t with
  | some (.slice e) => match P.info? e with
    | some i => match i.zero with
      | some z => match s, x with
        | .slice q l c, .slice xq n xc =>
          if z.cells.size = i.size ∧ 0 < i.size ∧ i.bytes ≤ 1000000 ∧ l + n ≤ 1000000 then
            if n = 0 then (if c = opn ∨ l ≤ c then some (.slice q l c, σ) else none)
            else match rowOf σ (.slice xq n xc) i.size n with
              | none => none
              | some xs => match q with
                | none => if l = 0 ∧ c = 0 then (newP σ xs i.size).map fun p => (.slice (some ⟨p.1, 0, none⟩) n opn, p.2) else none
                | some ⟨k, o, none⟩ =>
                  if c < opn then
                    if l + n ≤ c then match σ.getB k with
                      | some B => if B.tip = true ∧ o + l * i.size + xs.length ≤ B.cells.length ∧ xs.all (·.oneCell') = true then
                          forceL (B.cells.take (o + l * i.size) ++ xs ++ B.cells.drop (o + l * i.size + xs.length)) fun cs => some (.slice (some ⟨k, o, none⟩) (l + n) c, σ.write k B cs) else none
                      | none => none
                    else match rowOf σ (.slice (some ⟨k, o, none⟩) l c) i.size l with
                      | some olds => (newP σ (olds ++ xs) i.size).map fun p => (.slice (some ⟨p.1, 0, none⟩) (l + n) opn, p.2)
                      | none => none
                  else if c = opn then match σ.getB k with
                    | some B => if B.tip = true ∧ B.esz = i.size ∧ xs.all (·.oneCell') = true then
                        if o + l * i.size = B.cells.length then
                          (if σ.size < 65536 then forceL (B.cells.drop o ++ xs) fun cs => some (.slice (some ⟨σ.size, 0, none⟩) (l + n) opn, σ.cont k B cs) else none)
                        else if o + l * i.size + xs.length ≤ B.cells.length then
                          forceL (B.cells.take (o + l * i.size) ++ xs ++ B.cells.drop (o + l * i.size + xs.length)) fun cs => some (.slice (some ⟨k, o, none⟩) (l + n) opn, σ.write k B cs)
                        else none
                      else none
                    | none => none
                  else none
                | _ => none
          else none
        | _, _ => none
      | none => none
    | none => none
  | _ => none
/-- what append does, as a run -/
def DoesV (P : Program) (μ : Mu) (σ : St) (w : World) (s : Sem Value) (r : Value) (σ' : St) : Prop :=
  ∃ μ' r' w', s.run P w = .ok r' w' ∧ VRel μ' r r' ∧ Rel μ' σ' w' ∧ Step μ μ' σ σ' w w'
theorem rel_row {μ : Mu} {xs xs' zs : List Value} (h : LRel μ xs xs') : LRel μ xs ((xs'.toArray ++ zs.toArray).toList.take xs.length) := by
  have := h.length
  simp [this]
  exact h
theorem growV {P : Program} {μ : Mu} {σ σ' : St} {w : World} {k n esz cap : Nat} {all all' : List Value} {zs : Array Value} {e : TypeId} (hR : Rel μ σ w) (hn : newP σ all esz = some (k, σ')) (hf : ∀ j, σ.size ≤ j → j < σ'.size → μ j = none) (hall : LRel μ all all') (hcap : n ≤ cap) (hsz : all'.length + zs.size = cap * esz) :
    ∃ μ', VRel μ' (.slice (some ⟨k, 0, none⟩) n opn) (.slice (some ⟨w.heap.size, 0, none⟩) n cap) ∧ Rel μ' σ' (w.drew.alloc (.cells (all'.toArray ++ zs) e)) ∧ Step μ μ' σ σ' w (w.drew.alloc (.cells (all'.toArray ++ zs) e)) := by
  have hl := hall.length
  obtain ⟨rfl, g1, g2⟩ := newP_does (P := P) (w1 := w.drew.alloc (.cells (all'.toArray ++ zs) e)) hR hn hf e (c := all'.toArray ++ zs) (by simp [hl]) (by simpa using rel_row (zs := zs.toList) hall) rfl rfl rfl rfl
  refine ⟨_, ?_, g1, g2⟩
  have := VRel.slo (μ := μ.add σ.size ⟨w.heap.size, 0, (all'.toArray ++ zs).size, esz⟩) σ.size 0 n cap ⟨w.heap.size, 0, (all'.toArray ++ zs).size, esz⟩ (Mu.add_self _ _ _) hcap (by simp; omega)
  simpa using this
theorem appendV_does {P : Program} {μ : Mu} {σ σ' : St} {w : World} {t ty : TypeId} {s s' x x' r : Value} (hR : Rel μ σ w) (hs : VRel μ s s') (hx : VRel μ x x') (he : appendV P σ t s x = some (r, σ')) (hf : ∀ j, σ.size ≤ j → j < σ'.size → μ j = none) :
    DoesV P μ σ w (Builtin.append_ #[t, t] ty #[s', x']) r σ' := by
  unfold appendV at he
  simp only [forceL_eq] at he
  split at he
  case h_2 => cases he
  rename_i e ht
  split at he
  case h_2 => cases he
  rename_i i hi
  split at he
  case h_2 => cases he
  rename_i z hz
  split at he
  case h_2 => cases he
  rename_i q l c xq n xc
  split at he
  case isFalse => cases he
  rename_i hc
  obtain ⟨hzs, hpos, hby, hlen⟩ := hc
  split at he
  · -- nothing is appended
    rename_i hn
    subst hn
    split at he
    · rename_i hcl
      simp only [Option.some.injEq, Prod.mk.injEq] at he
      obtain ⟨rfl, rfl⟩ := he
      have hx' : ∃ xq' xc', x' = .slice xq' 0 xc' := by cases hx <;> exact ⟨_, _, rfl⟩
      obtain ⟨xq', xc', rfl⟩ := hx'
      have hs' : ∃ q' c', s' = .slice q' l c' ∧ l ≤ c' := by
        cases hs with
        | sc v h =>
          refine ⟨q, c, rfl, ?_⟩
          rcases hcl with rfl | hcl
          · cases q <;> simp [scalar] at h
            unfold opn at *
            omega
          · exact hcl
        | slc k o n c L h hc => exact ⟨_, _, rfl, by unfold opn at *; omega⟩
        | slo k o n c L h hn hs => exact ⟨_, _, rfl, hn⟩
        | sle k o o' L h hs => exact ⟨_, _, rfl, Nat.le_refl _⟩
      obtain ⟨q', c', rfl, hlc⟩ := hs'
      exact ⟨μ, _, w, run_append_zero ht hi q' xq' l c' xc' hlc, hs, hR, Step.refl _ _ _⟩
    · cases he
  · rename_i hn
    have hn0 : 0 < n := by omega
    split at he
    case h_1 => cases he
    rename_i xs hxs
    obtain ⟨xs', x1, x2, x3, x4⟩ := rowOf_rel hR hx hxs
    obtain ⟨xb, xo, xm, xc', rfl, x5⟩ := x4 hn0
    have hxm : xm = n := by cases hx <;> rfl
    subst hxm
    have hnews : ∀ j u, xs'[j]? = some u → w.cell? ((⟨xb, xo, none⟩ : Addr).add j) = some u := fun j u hj => by rw [Addr.add_mid]; exact x5 j u hj
    have hone := ones_rel x2
    have h63 : ((l + xm : Nat) : Int) ≤ 9223372036854775807 := by omega
    have hbytes : (l + xm) * i.bytes ≤ 140737488355328 := Nat.le_trans (Nat.mul_le_mul hlen hby) (by decide)
    split at he
    · -- nil
      split at he
      · rename_i hlc
        obtain ⟨rfl, rfl⟩ := hlc
        simp only [Option.map_eq_some_iff, Prod.exists, Prod.mk.injEq] at he
        obtain ⟨k, s1, hnp, rfl, rfl⟩ := he
        have hs' : s' = .slice none 0 0 := scalar_eq (by rfl) hs
        subst hs'
        have hge := grownCap_ge w xm 0 e
        obtain ⟨μ', g0, g1, g2⟩ := growV (P := P) (e := e) (n := xm) (cap := grownCap w xm 0 e) (zs := Builtin.zeroCells z.cells (grownCap w xm 0 e - xm)) hR hnp hf x2 hge (by rw [size_zeroCells, hzs, x1, ← Nat.add_mul, Nat.add_sub_cancel' hge])
        exact ⟨μ', _, _, run_append_nil (P := P) w t ty e i z ht hi hz ⟨xb, xo, none⟩ xm xc' xs' x1 hnews hn0 (by omega) (by
          have : xm * i.bytes ≤ (0 + xm) * i.bytes := by simp
          omega), g0, g1, g2⟩
      · cases he
    · rename_i k o
      obtain ⟨L, hL, hss⟩ := slc_inv hs
      split at he
      · rename_i hcop
        have hs' : s' = .slice (some ⟨L.blk, o + L.sh, none⟩) l c := by
          rcases hss with ⟨_, h⟩ | ⟨h, _⟩ | ⟨h, _⟩
          · exact h
          · omega
          · omega
        subst hs'
        split at he
        · -- in its place
          rename_i hroom
          split at he
          case h_2 => cases he
          rename_i B hB
          split at he
          case isFalse => cases he
          rename_i hcc
          obtain ⟨htip, hfit, hall⟩ := hcc
          simp only [Option.some.injEq, Prod.mk.injEq] at he
          obtain ⟨rfl, rfl⟩ := he
          obtain ⟨w', g1, g2, g3⟩ := write_does (P := P) (off := o + l * i.size) hR hB hL htip xs xs' x2 hfit hall
          rw [show o + l * i.size + L.sh = o + L.sh + l * i.size by omega] at g1
          exact ⟨μ, _, w', run_append_in ht hi L.blk (o + L.sh) l c ⟨xb, xo, none⟩ xm xc' xs' x1 hnews hroom g1, .slc k o (l + xm) c L hL hcop, g2, g3⟩
        · rename_i hroom
          split at he
          case h_2 => cases he
          rename_i olds holds
          simp only [Option.map_eq_some_iff, Prod.exists, Prod.mk.injEq] at he
          obtain ⟨k1, s1, hnp, rfl, rfl⟩ := he
          obtain ⟨os', y1, y2, y3, y4⟩ := rowOf_rel hR hs holds
          have hcell : ∀ j v, os'[j]? = some v → w.cell? ((⟨L.blk, o + L.sh, none⟩ : Addr).add j) = some v := by
            intro j v hj
            by_cases hl0 : l = 0
            · have : os' = [] := List.length_eq_zero_iff.1 (by rw [y1, hl0]; simp)
              rw [this] at hj; simp at hj
            · obtain ⟨b2, o2, m2, c2, e2, e3⟩ := y4 (by omega)
              cases e2
              rw [Addr.add_mid]; exact e3 j v hj
          have hge := grownCap_ge w (l + xm) c e
          have hrun := run_append_grow (P := P) w t ty e i z ht hi hz ⟨L.blk, o + L.sh, none⟩ l c os' y1 hcell ⟨xb, xo, none⟩ xm xc' xs' x1 hnews (by omega) h63 (growslice_fits (by omega) hbytes)
          rw [show os'.toArray ++ xs'.toArray = (os' ++ xs').toArray by simp] at hrun
          obtain ⟨μ', g0, g1, g2⟩ := growV (P := P) (e := e) (n := l + xm) (cap := grownCap w (l + xm) c e) (zs := Builtin.zeroCells z.cells (grownCap w (l + xm) c e - (l + xm))) hR hnp hf (y2.append x2) hge (by rw [size_zeroCells, hzs, List.length_append, x1, y1, ← Nat.add_mul, ← Nat.add_mul, Nat.add_sub_cancel' hge])
          exact ⟨μ', _, _, hrun, g0, g1, g2⟩
      · split at he
        case isFalse => cases he
        rename_i hcop
        subst hcop
        split at he
        case h_2 => cases he
        rename_i B hB
        split at he
        case isFalse => cases he
        rename_i hcc
        obtain ⟨htip, hesz, hall⟩ := hcc
        have hbr := hR.blk k B L hB hL
        obtain ⟨cc, ee, g1, g2, g3, g4, g5⟩ := hbr
        rw [hesz] at g3
        split at he
        · -- at the row's end
          rename_i hend
          split at he
          case isFalse => cases he
          rename_i hlt
          simp only [Option.some.injEq, Prod.mk.injEq] at he
          obtain ⟨rfl, rfl⟩ := he
          have hfr : μ σ.size = none := hf _ (Nat.le_refl _) (by simp [St.cont, St.newS, St.setB])
          have hdrop : LRel μ (B.cells.drop o) (((cc.toList.drop L.sh).take B.cells.length).drop o) := g5.drop o
          have hlo : (B.cells.drop o).length = l * i.size := by simp; omega
          -- new memory
          have grow : ∀ (b : Addr) (sc : Nat) (os' : List Value), s' = .slice (some b) l sc → os'.length = l * i.size → LRel μ (B.cells.drop o) os' → (∀ j v, os'[j]? = some v → w.cell? (b.add j) = some v) → sc < l + xm →
              DoesV P μ σ w (Builtin.append_ #[t, t] ty #[s', .slice (some ⟨xb, xo, none⟩) xm xc']) (.slice (some ⟨σ.size, 0, none⟩) (l + xm) opn) (σ.cont k B (B.cells.drop o ++ xs)) := by
            intro b sc os' hsl hol hor hoc hsc
            subst hsl
            have hge := grownCap_ge w (l + xm) sc e
            have hrun := run_append_grow (P := P) w t ty e i z ht hi hz b l sc os' hol hoc ⟨xb, xo, none⟩ xm xc' xs' x1 hnews hsc h63 (growslice_fits hsc hbytes)
            rw [show os'.toArray ++ xs'.toArray = (os' ++ xs').toArray by simp] at hrun
            have hrel := hor.append x2
            have hll := hrel.length
            have hsz : ((os' ++ xs').toArray ++ Builtin.zeroCells z.cells (grownCap w (l + xm) sc e - (l + xm))).size = grownCap w (l + xm) sc e * i.size := by
              rw [Array.size_append, size_zeroCells, hzs, List.size_toArray, List.length_append, hol, x1, ← Nat.add_mul, ← Nat.add_mul, Nat.add_sub_cancel' hge]
            obtain ⟨q1, q2⟩ := hR.cont_new (w1 := w.drew.alloc (.cells ((os' ++ xs').toArray ++ Builtin.zeroCells z.cells (grownCap w (l + xm) sc e - (l + xm))) e)) hB hL htip hfr hlt (B.cells.drop o ++ xs) _ e (by rw [hsz, hll, List.length_append, hol, x1, ← Nat.add_mul]; exact Nat.mul_le_mul_right _ hge)
              (by simpa using rel_row (zs := (Builtin.zeroCells z.cells (grownCap w (l + xm) sc e - (l + xm))).toList) hrel) rfl rfl rfl rfl
            refine ⟨_, _, _, hrun, ?_, q1, q2⟩
            have := VRel.slo (μ := μ.add σ.size ⟨w.heap.size, 0, ((os' ++ xs').toArray ++ Builtin.zeroCells z.cells (grownCap w (l + xm) sc e - (l + xm))).size, B.esz⟩) σ.size 0 (l + xm) (grownCap w (l + xm) sc e) ⟨w.heap.size, 0, ((os' ++ xs').toArray ++ Builtin.zeroCells z.cells (grownCap w (l + xm) sc e - (l + xm))).size, B.esz⟩ (Mu.add_self _ _ _) hge (by rw [hsz, hesz]; simp)
            simpa using this
          have hcellB : ∀ j v, (((cc.toList.drop L.sh).take B.cells.length).drop o)[j]? = some v → w.cell? ((⟨L.blk, o + L.sh, none⟩ : Addr).add j) = some v := by
            intro j v hj
            rw [Addr.add_mid]
            simp only [List.getElem?_drop, List.getElem?_take] at hj
            split at hj
            · simp [World.cell?, g1]
              rw [show o + L.sh + j = L.sh + (o + j) by omega]
              simpa using hj
            · cases hj
          have hlenB : (((cc.toList.drop L.sh).take B.cells.length).drop o).length = l * i.size := by rw [← hdrop.length]; exact hlo
          rcases hss with ⟨h, _⟩ | ⟨_, c', hn', hs', rfl⟩ | ⟨_, hl0, hs', o', rfl⟩
          · omega
          · by_cases hroom : l + xm ≤ c'
            · -- in its place
              have hle : (l + xm) * i.size ≤ c' * i.size := Nat.mul_le_mul_right _ hroom
              rw [g3] at hs'
              rw [Nat.add_mul] at hle
              have hst := run_storeCells_at P L.blk (o + L.sh + l * i.size) ee xs' 0 cc w g1 (by omega) (by
                rw [hall] at hone
                simpa using hone)
              simp only [Nat.add_zero] at hst
              have hrun := run_append_in (ty := ty) ht hi L.blk (o + L.sh) l c' ⟨xb, xo, none⟩ xm xc' xs' x1 hnews hroom hst
              have hx3 := x3
              obtain ⟨q1, q2⟩ := hR.cont_in hB hL htip hfr hlt o (by omega) (B.cells.drop o ++ xs) (by simp; omega) g1 (c' := (cc.toList.take (o + L.sh + l * i.size) ++ xs' ++ cc.toList.drop (o + L.sh + l * i.size + xs'.length)).toArray) (by simp; omega) (by simp; omega)
                (by
                  intro j hj
                  have : j < min (o + L.sh + l * i.size) cc.size := by omega
                  have h2 : j < min (o + L.sh + l * i.size) cc.size + xs'.length := by omega
                  have h3 : j < o + L.sh + l * i.size := by omega
                  simp [List.getElem?_append, List.getElem?_take, this, h2, h3])
                (by
                  have e2 : ((cc.toList.take (o + L.sh + l * i.size) ++ xs' ++ cc.toList.drop (o + L.sh + l * i.size + xs'.length)).toArray.toList.drop (L.sh + o)).take (B.cells.drop o ++ xs).length = ((cc.toList.drop L.sh).take B.cells.length).drop o ++ xs' := by
                    apply List.ext_getElem?
                    intro j
                    simp only [List.toList_toArray, List.getElem?_take, List.getElem?_drop, List.getElem?_append, List.length_take, List.length_append, List.length_drop, Array.length_toList]
                    have hmin : min (o + L.sh + l * i.size) cc.size = L.sh + B.cells.length := by omega
                    have hmin2 : min B.cells.length (cc.size - L.sh) = B.cells.length := by omega
                    rw [hmin, hmin2]
                    by_cases a1 : j < B.cells.length - o
                    · have h1 : L.sh + o + j < L.sh + B.cells.length := by omega
                      have h2 : L.sh + o + j < L.sh + B.cells.length + xs'.length := by omega
                      have h3 : j < B.cells.length - o + xs.length := by omega
                      have h4 : L.sh + o + j < o + L.sh + l * i.size := by omega
                      have h5 : o + j < B.cells.length := by omega
                      simp [a1, h1, h2, h3, h4, h5]
                      congr 1; omega
                    · by_cases a2 : j < B.cells.length - o + xs.length
                      · have h1 : ¬ L.sh + o + j < L.sh + B.cells.length := by omega
                        have h2 : L.sh + o + j < L.sh + B.cells.length + xs'.length := by omega
                        have h3 : L.sh + o + j - (L.sh + B.cells.length) = j - (B.cells.length - o) := by omega
                        simp [a1, a2, h1, h2, h3]
                      · rw [if_neg a2, if_neg a1]
                        rw [List.getElem?_eq_none (by omega)]
                  rw [e2]
                  exact hdrop.append x2)
              refine ⟨_, _, _, hrun, ?_, q1, q2⟩
              have := VRel.slo (μ := μ.add σ.size ⟨L.blk, L.sh + o, L.size, L.esz⟩) σ.size 0 (l + xm) c' ⟨L.blk, L.sh + o, L.size, L.esz⟩ (Mu.add_self _ _ _) hroom (by simp only [g3]; omega)
              simpa [Nat.add_comm] using this
            · exact grow ⟨L.blk, o + L.sh, none⟩ c' _ rfl hlenB hdrop hcellB (by omega)
          · subst hl0
            refine grow ⟨L.blk, o', none⟩ 0 _ rfl hlenB hdrop (fun j v hj => ?_) (by omega)
            have : ((cc.toList.drop L.sh).take B.cells.length).drop o = [] := List.length_eq_zero_iff.1 (by rw [hlenB]; simp)
            rw [this] at hj
            simp at hj
        · split at he
          case isFalse => cases he
          rename_i hend hfit
          simp only [Option.some.injEq, Prod.mk.injEq] at he
          obtain ⟨rfl, rfl⟩ := he
          obtain ⟨w', f1, f2, f3⟩ := write_does (P := P) (off := o + l * i.size) hR hB hL htip xs xs' x2 hfit hall
          rw [show o + l * i.size + L.sh = o + L.sh + l * i.size by omega] at f1
          rcases hss with ⟨h, _⟩ | ⟨_, c', hn', hs', rfl⟩ | ⟨_, hl0, hs', o', rfl⟩
          · omega
          · have hroom : l + xm ≤ c' := by
              rw [g3] at hs'
              have : (l + xm) * i.size ≤ c' * i.size := by rw [Nat.add_mul]; omega
              exact Nat.le_of_mul_le_mul_right this hpos
            exact ⟨μ, _, w', run_append_in ht hi L.blk (o + L.sh) l c' ⟨xb, xo, none⟩ xm xc' xs' x1 hnews hroom f1, .slo k o (l + xm) c' L hL hroom hs', f2, f3⟩
          · exfalso
            subst hl0
            have : 0 < xm * i.size := Nat.mul_pos hn0 hpos
            omega
    · cases he
end
/-- append of zeros that make laid, to a list that is nil -/
noncomputable def zerosV (P : Program) (σ : St) (t t2 : TypeId) (s x : Value) : Option (Value × St) :=
  match P.underlying t, P.underlying t2 with
  | some (.slice e), some (.int _) => match P.info? e with
    | some i => match i.zero with
      | some z => match s, x with
        | .slice none 0 0, .int _ n =>
          if z.cells.size = i.size ∧ 0 < i.size ∧ i.bytes ≤ 1000000 ∧ 0 < n ∧ n ≤ 1000000 ∧ flatL (Builtin.zeroCells z.cells n.toNat).toList = true then
            (newP σ (Builtin.zeroCells z.cells n.toNat).toList i.size).map fun p => (.slice (some ⟨p.1, 0, none⟩) n.toNat opn, p.2)
          else none
        | _, _ => none
      | none => none
    | none => none
  | _, _ => none
theorem zerosV_does {P : Program} {μ : Mu} {σ σ' : St} {w : World} {t t2 ty : TypeId} {s s' x x' r : Value} (hR : Rel μ σ w) (hs : VRel μ s s') (hx : VRel μ x x') (he : zerosV P σ t t2 s x = some (r, σ')) (hf : ∀ j, σ.size ≤ j → j < σ'.size → μ j = none) :
    DoesV P μ σ w (Builtin.append_ #[t, t2] ty #[s', x']) r σ' := by
  unfold zerosV at he
  split at he
  case h_2 => cases he
  rename_i e kn ht htn
  split at he
  case h_2 => cases he
  rename_i i hi
  split at he
  case h_2 => cases he
  rename_i z hz
  split at he
  case h_2 => cases he
  rename_i k n
  split at he
  case isFalse => cases he
  rename_i hc
  obtain ⟨hzs, hpos, hby, hn0, hn1, hfl⟩ := hc
  simp only [Option.map_eq_some_iff, Prod.exists, Prod.mk.injEq] at he
  obtain ⟨k1, s1, hnp, rfl, rfl⟩ := he
  obtain rfl := scalar_eq (by rfl) hs
  obtain rfl := scalar_eq (by rfl) hx
  obtain ⟨m, rfl⟩ : ∃ m : Nat, n = m := ⟨n.toNat, by omega⟩
  rw [Int.toNat_natCast] at *
  have hbytes : m * i.bytes ≤ 281474976710656 := by
    have := Nat.mul_le_mul (show m ≤ 1000000 by omega) hby
    omega
  have hrun := Lib.run_append_nil_zeros (P := P) w t t2 ty e i z k kn ht htn hi hz m (by omega) hpos (by omega) hbytes
  have hge := grownCap_ge w m 0 e
  have e1 : Builtin.zeroCells z.cells m = (Builtin.zeroCells z.cells m).toList.toArray := by simp
  have hlen : (Builtin.zeroCells z.cells m).toList.length = m * i.size := by rw [Array.length_toList, size_zeroCells, hzs]
  obtain ⟨μ', g0, g1, g2⟩ := growV (P := P) (e := e) (n := m) (cap := grownCap w m 0 e) (zs := Builtin.zeroCells z.cells (grownCap w m 0 e - m)) hR hnp hf (flatL_rel μ hfl) hge (by rw [hlen, size_zeroCells, hzs, ← Nat.add_mul, Nat.add_sub_cancel' hge])
  rw [← e1] at g1 g2
  exact ⟨μ', _, _, hrun, g0, g1, g2⟩
end Go.Proofs.YtlnpibboemphnaaGreat.ev

