/- The reckoner: what it reckons the model does. Calls and straight regions. -/
import Derived.Scope
import Derived.Test.YtadamjleglckpaaQa7

namespace Go.Proofs.Ytadamjleglckpaa.ev
noncomputable section
open Go.RowKit
set_option linter.unusedSimpArgs false
set_option linter.unusedVariables false
set_option linter.unusedSectionVars false
variable [Kn]

def SizeOk (ih : Ih) : Prop := ∀ c ts σ ex ts' σ', ih c ts σ = some (ex, ts', σ') → σ.size ≤ σ'.size
def Fresh (μ : Mu) (σ σ' : St) : Prop := ∀ j, σ.size ≤ j → j < σ'.size → μ j = none
def Ends (μ : Mu) (σ : St) (w : World) (ts' : Ts) (σ' : St) (a' : Act) (w' : World) : Prop := ∃ μ', TRel μ' ts' a' ∧ Rel μ' σ' w' ∧ Step μ μ' σ σ' w w'
def KnOk (P : Program) : Prop := ∀ g args r, Kn.val g args = some r → flatL args = true ∧ flat r = true ∧ ∀ w, Calls P g args.toArray w fun e w' => e = .returned r ∧ Below w.heap.size w w'
structure Sound (P : Program) (ih : Ih) : Prop where
  kn : KnOk P
  run : ∀ c ts σ ex ts' σ', ih c ts σ = some (ex, ts', σ') → ∀ μ a w, TRel μ ts a → Rel μ σ w → Fresh μ σ σ' →
  c.wp P (fun e a' w' => e = ex.of ∧ Ends μ σ w ts' σ' a' w') a w
instance {P : Program} {ih : Ih} : CoeFun (Sound P ih) (fun _ => ∀ c ts σ ex ts' σ', ih c ts σ = some (ex, ts', σ') → ∀ μ a w, TRel μ ts a → Rel μ σ w → Fresh μ σ σ' →
  c.wp P (fun e a' w' => e = ex.of ∧ Ends μ σ w ts' σ' a' w') a w) := ⟨Sound.run⟩
theorem BRel.below {μ : Mu} {w w' : World} {B : Blk} {L : Loc} (h : BRel μ w B L) (hb : Below w.heap.size w w') : BRel μ w' B L := h.mono (Mu.le.refl μ) (hb.block _ h.lt)
theorem Rel.below {μ : Mu} {σ : St} {w w' : World} (h : Rel μ σ w) (hb : Below w.heap.size w w') : Rel μ σ w' := ⟨h.wf, fun k B L hk hL => (h.blk k B L hk hL).below hb, h.apart⟩
theorem Step.of_below {μ : Mu} {σ : St} {w w' : World} (hb : Below w.heap.size w w') : Step μ μ σ σ w w' :=
  ⟨Mu.le.refl _, fun _ _ h => .inl h, Nat.le_refl _, Nat.le_refl _, hb.size, hb.os, hb.tape, hb.output, fun b hlt _ => hb.block b hlt, fun _ _ _ => rfl⟩
theorem Step.fresh {μ μ1 : Mu} {σ σ1 σ2 : St} {w w1 : World} (h : Step μ μ1 σ σ1 w w1) (hf : Fresh μ σ σ2) : Fresh μ1 σ1 σ2 := fun j h1 h2 => by
  cases hj : μ1 j with
  | none => rfl
  | some L =>
    exfalso
    have := h.size
    rcases h.dom j L hj with a | ⟨_, b, _⟩
    · rw [hf j (by omega) h2] at a; cases a
    · omega
theorem Fresh.mono {μ : Mu} {σ σ1 σ2 : St} (h : Fresh μ σ σ2) (hs : σ1.size ≤ σ2.size) : Fresh μ σ σ1 := fun j a b => h j a (by omega)

/-! calls -/
def resV (tmps : Array Value) : ResultVar → Sem Value
  | .tmp t => pure (tmps.getD t undef)
  | .cell p t => do loadVar t (← asAddr (tmps.getD p undef))
theorem results_eq (fn : Func) (tmps : Array Value) : results fn tmps = (do let vs ← fn.results.mapM (resV tmps); pure (if h : vs.size = 1 then vs[0] else .tuple vs)) := by
  unfold results
  congr
theorem results_run {P : Program} {μ : Mu} {σ : St} {w : World} {ts : Ts} {a : Act} (hT : TRel μ ts a) (hR : Rel μ σ w) : ∀ (l : List ResultVar) (r : List Value), resultsV P σ ts l = some r →
    ∃ r', (l.mapM (resV a.tmps)).run P w = .ok r' w ∧ LRel μ r r'
  | [], r, h => by
    simp [resultsV] at h
    subst h
    exact ⟨[], by simp, .nil⟩
  | .tmp t :: l, r, h => by
    simp only [resultsV] at h
    split at h
    · rename_i r0 hr0
      simp only [Option.some.injEq] at h
      subst h
      obtain ⟨r', h1, h2⟩ := results_run hT hR l r0 hr0
      have hv := hT.get t
      refine ⟨a.tmps.getD t undef :: r', ?_, .cons _ _ _ _ (by simpa using hv) h2⟩
      simp only [List.mapM_cons, resV, Sem.run_bind, Sem.run_pure, Result.andThen_ok, h1]
    · cases h
  | .cell p ty :: l, r, h => by
    simp only [resultsV] at h
    split at h
    · rename_i k o hp
      split at h
      · rename_i v r0 hv hr0
        simp only [Option.some.injEq] at h
        subst h
        obtain ⟨r', h1, h2⟩ := results_run hT hR l r0 hr0
        have hpr := hT.get p
        rw [hp] at hpr
        obtain ⟨L, hL, hxx⟩ := ptr_inv hpr
        obtain ⟨v', g1, g2⟩ := loadB_does (w := w) hR hL hv
        refine ⟨v' :: r', ?_, .cons _ _ _ _ g2 h2⟩
        have hxx' : a.tmps.getD p undef = .pointer (some ⟨L.blk, o + L.sh, none⟩) := by simpa using hxx
        have hc : (resV a.tmps (.cell p ty)).run P w = .ok v' w := by
          simp only [resV, hxx', asAddr, Sem.run_bind, Sem.run_pure, Result.andThen_ok, g1]
        simp only [List.mapM_cons, Sem.run_bind, hc, Sem.run_pure, Result.andThen_ok, h1]
      · cases h
    · cases h
theorem oneOf_rel {μ : Mu} {r r' : List Value} (h : LRel μ r r') : VRel μ (oneOf r) (if h : r'.toArray.size = 1 then r'.toArray[0] else .tuple r'.toArray) := by
  cases h with
  | nil => simpa [oneOf] using VRel.tuple (μ := μ) [] [] .nil
  | cons v v' l l' hv hl =>
    cases hl with
    | nil => simpa [oneOf] using hv
    | cons u u' m m' hu hm => simpa [oneOf] using VRel.tuple (μ := μ) _ _ (.cons _ _ _ _ hv (.cons _ _ _ _ hu hm))
theorem results_ok {P : Program} {μ : Mu} {σ : St} {w : World} {ts : Ts} {a : Act} {fn : Func} {r : List Value} (hT : TRel μ ts a) (hR : Rel μ σ w) (h : resultsV P σ ts fn.results.toList = some r) :
    ∃ v', (results fn a.tmps).run P w = .ok v' w ∧ VRel μ (oneOf r) v' := by
  obtain ⟨r', h1, h2⟩ := results_run hT hR _ _ h
  refine ⟨_, ?_, oneOf_rel h2⟩
  rw [results_eq]
  simp only [Array.mapM_eq_mapM_toList, Sem.run_bind, Sem.run_map, Sem.run_pure, h1, Result.andThen_ok]
def Gives (μ : Mu) (σ : St) (w : World) (v : Value) (σ' : St) (e : Ending) (w' : World) : Prop := ∃ μ' v', e = .returned v' ∧ VRel μ' v v' ∧ Rel μ' σ' w' ∧ Step μ μ' σ σ' w w'
theorem lrel_replicate (μ : Mu) : ∀ n, LRel μ (List.replicate n undef) (List.replicate n undef)
  | 0 => .nil
  | n + 1 => .cons _ _ _ _ (vrel_undef μ) (lrel_replicate μ n)
theorem fillT_get {μ : Mu} : ∀ (l l' : List Value) (k : Nat) (ts : Ts), LRel μ l l' → ts.n ≤ 2 ^ ts.d → k + l.length ≤ ts.n →
    (fillT k l ts).n = ts.n ∧ (fillT k l ts).d = ts.d ∧ ∀ t, (t < k ∨ k + l.length ≤ t → getT (fillT k l ts) t = getT ts t) ∧ (k ≤ t → t < k + l.length → VRel μ (getT (fillT k l ts) t) (l'.getD (t - k) undef))
  | [], l', k, ts, h, hd, hn => ⟨rfl, rfl, fun t => ⟨fun _ => rfl, fun a b => by simp at b; omega⟩⟩
  | v :: l, l', k, ts, h, hd, hn => by
    cases h with
    | cons _ v' _ l2 hv hl =>
      simp only [List.length_cons] at hn
      obtain ⟨s1, s2⟩ := setT_n ts k v
      obtain ⟨i1, i2, i3⟩ := fillT_get l l2 (k + 1) (setT ts k v) hl (by rw [s1, s2]; exact hd) (by rw [s1]; omega)
      refine ⟨i1.trans s1, i2.trans s2, fun t => ⟨fun ht => ?_, fun h1 h2 => ?_⟩⟩
      · simp only [List.length_cons] at ht
        show getT (fillT (k + 1) l (setT ts k v)) t = _
        rw [(i3 t).1 (by omega), getT_setT ts hd k t v (by omega), if_neg (by omega)]
      · simp only [List.length_cons] at h2
        show VRel μ (getT (fillT (k + 1) l (setT ts k v)) t) _
        by_cases e : t = k
        · subst e
          rw [(i3 t).1 (by omega), getT_setT ts hd t t v (by omega), if_pos rfl]
          simpa using hv
        · have := (i3 t).2 (by omega) (by omega)
          rw [show t - k = (t - (k + 1)) + 1 by omega]
          simpa using this
theorem frameT_rel {μ : Mu} {args : List Value} {args' : Array Value} {n : Nat} (h : LRel μ args args'.toList) (hn : args.length ≤ n) (hcap : n ≤ 512) : TRel μ (frameT n args) { tmps := args' ++ Array.replicate (n - args'.size) undef, defers := [] } := by
  have hl := h.length
  simp only [Array.length_toList] at hl
  have hsn : (slots0 n).n = n := by rw [slots0_eq]
  have hd : (slots0 n).n ≤ 2 ^ (slots0 n).d := by rw [hsn]; exact hcap
  obtain ⟨i1, i2, i3⟩ := fillT_get args args'.toList 0 (slots0 n) h hd (by rw [hsn]; omega)
  rw [hsn] at i1 hd
  refine ⟨by rw [frameT, i1]; simp; omega, by rw [frameT, i1, i2]; exact hd, fun t ht => ?_, rfl⟩
  rw [frameT, i1] at ht
  by_cases ha : t < args.length
  · have := (i3 t).2 (by omega) (by omega)
    have e : (args' ++ Array.replicate (n - args'.size) undef).getD t undef = args'.toList.getD t undef := by
      simp only [Array.getD_eq_getD_getElem?, List.getD_eq_getElem?_getD, Array.getElem?_toList]
      rw [Array.getElem?_append_left (by omega)]
    show VRel μ _ ((args' ++ Array.replicate (n - args'.size) undef).getD t undef)
    rw [e]
    exact this
  · have e1 : getT (frameT n args) t = undef := by
      show getT (fillT 0 args _) t = undef
      rw [(i3 t).1 (by omega)]
      exact getT_slots0 hcap t
    have e2 : (args' ++ Array.replicate (n - args'.size) undef).getD t undef = undef := by
      simp only [Array.getD_eq_getD_getElem?]
      rw [Array.getElem?_append_right (by omega), Array.getElem?_replicate]
      split <;> rfl
    rw [e1]
    show VRel μ undef ((args' ++ Array.replicate (n - args'.size) undef).getD t undef)
    rw [e2]
    exact vrel_undef μ
theorem callF_calls {P : Program} {ih : Ih} (hS : Sound P ih) {g : FuncId} {args : List Value} {σ σ' : St} {v : Value} (h : callF P ih g args σ = some (v, σ')) {μ : Mu} {args' : Array Value} {w : World} (ha : LRel μ args args'.toList) (hR : Rel μ σ w) (hf : Fresh μ σ σ') :
    Calls P g args' w (Gives μ σ w v σ') := by
  unfold callF at h
  split at h
  case h_2 => cases h
  rename_i fd hfd
  split at h
  · rename_i r hr
    simp only [Option.some.injEq, Prod.mk.injEq] at h
    obtain ⟨rfl, rfl⟩ := h
    obtain ⟨k1, k2, k3⟩ := hS.kn g args _ hr
    have : args' = args.toArray := by rw [← flatL_eq ha k1]
    subst this
    refine (k3 w).mono ?_
    rintro e w' ⟨rfl, hb⟩
    exact ⟨μ, _, rfl, flat_rel μ k2, hR.below hb, Step.of_below hb⟩
  unfold callK at h
  unfold fdOf at hfd
  split at hfd
  case h_2 => cases hfd
  rename_i fn hfn
  split at hfd
  case h_2 => cases hfd
  rename_i c hc
  split at hfd
  · cases hfd
  simp only [Option.some.injEq] at hfd
  subst hfd
  simp only at h
  have hl := ha.length
  simp only [Array.length_toList] at hl
  refine calls_of_wp hfn hc ?_
  split at h
  · cases h
  rename_i hble
  obtain ⟨hle, hcap⟩ := okF_le hble
  have hT : TRel μ (frameT fn.ntmps args) { tmps := args' ++ Array.replicate (fn.ntmps - args'.size) undef, defers := [] } := frameT_rel ha (by omega) hcap
  split at h
  · rename_i ts s1 hih
    split at h
    case h_2 => cases h
    rename_i l hres
    simp only [Option.some.injEq, Prod.mk.injEq] at h
    obtain ⟨rfl, rfl⟩ := h
    refine Code.wp_mono ?_ (hS _ _ _ _ _ _ hih μ _ w hT hR hf)
    rintro e a' w' ⟨rfl, μ', t1, t2, t3⟩
    obtain ⟨v', r1, r2⟩ := results_ok t1 t2 hres
    exact ⟨t1.df, v', r1, μ', v', rfl, r2, t2, t3⟩
  · rename_i ts s1 hih
    split at h
    case h_2 => cases h
    rename_i l hres
    simp only [Option.some.injEq, Prod.mk.injEq] at h
    obtain ⟨rfl, rfl⟩ := h
    refine Code.wp_mono ?_ (hS _ _ _ _ _ _ hih μ _ w hT hR hf)
    rintro e a' w' ⟨rfl, μ', t1, t2, t3⟩
    obtain ⟨v', r1, r2⟩ := results_ok t1 t2 hres
    exact ⟨t1.df, v', r1, μ', v', rfl, r2, t2, t3⟩
  · cases h

/-! an operation -/
theorem callOf_run {P : Program} {ih : Ih} {μ : Mu} {ts : Ts} {a : Act} {o : Oper} {g : FuncId} {args : List Value} {σ σ' : St} {v : Value} (hT : TRel μ ts a) (h : callOf P ts o = some (g, args)) (hc : callF P ih g args σ = some (v, σ')) (w : World) :
    ∃ args' : Array Value, (execOp a.eval o).run P w = .ok (.enter g args') w ∧ LRel μ args args'.toList := by
  have hfn : ∃ fn, P.funcs[g]? = some fn ∧ fn.body.isNone = false ∧ (fn.name == "runtime.NumGoroutine") = false := by
    unfold callF at hc
    split at hc
    case h_2 => cases hc
    rename_i fd hfd
    unfold fdOf at hfd
    split at hfd
    case h_2 => cases hfd
    rename_i fn hfn
    split at hfd
    case h_2 => cases hfd
    rename_i c hb
    split at hfd
    · cases hfd
    · rename_i hn
      exact ⟨fn, hfn, by simp [hb], by simpa using hn⟩
  obtain ⟨fn, f1, f2, f3⟩ := hfn
  have hcf : ∀ args' : Array Value, (callFunc g args').run P w = .ok (.enter g args') w := fun args' => by
    simp only [callFunc, Sem.run_bind, run_program, Result.andThen_ok, f1, f3, f2, Bool.false_eq_true, if_false, Sem.run_pure]
  unfold callOf at h
  split at h
  case h_2 => cases h
  rename_i c ho
  split at h
  · rename_i f hcal
    split at h
    case h_2 => cases h
    rename_i g0 first captured hf
    split at h
    case isFalse => cases h
    rename_i hok
    simp only [Option.some.injEq, Prod.mk.injEq] at h
    obtain ⟨rfl, rfl⟩ := h
    obtain ⟨first', captured', hff, l1, l2⟩ := func_inv (evo_rel hT hf)
    refine ⟨first' ++ c.args.map a.eval ++ captured', ?_, ?_⟩
    · simp only [execOp, ho, resolve, hcal, Deferred.ofValue, hff, pure_bind, invoke, hcf]
    · have := (l1.append (oksL_rel hT _ hok)).append l2
      simpa using this
  · rename_i recv name hcal
    split at h
    case h_2 => cases h
    rename_i t u hrecv
    split at h
    case isFalse => cases h
    rename_i hok
    simp only [Bool.and_eq_true] at hok
    split at h
    case h_2 => cases h
    rename_i g0 rc hm
    split at h
    case isFalse => cases h
    rename_i hfl
    simp only [Option.some.injEq, Prod.mk.injEq] at h
    obtain ⟨rfl, rfl⟩ := h
    obtain ⟨u', huu, hvu⟩ := iface_inv (evo_rel hT hrecv)
    have : u' = u := flat_eq hok.1 hvu
    subst this
    refine ⟨#[rc] ++ c.args.map a.eval, ?_, ?_⟩
    · have hex : (#[a.eval recv] ++ c.args.map a.eval).extract 1 (#[a.eval recv] ++ c.args.map a.eval).size = c.args.map a.eval := by
        apply Array.ext'
        simp
        rw [List.take_of_length_le (by simp)]
      have h0 : (#[a.eval recv] ++ c.args.map a.eval)[0]? = some (.iface t u') := by
        rw [huu, Array.getElem?_append_left (by simp)]; rfl
      simp only [execOp, ho, resolve, hcal, pure_bind, invoke]
      rw [h0, hex]
      simp only [callMethod, Sem.run_bind, run_program, Result.andThen_ok, pureRun_run hm w, hcf]
    · have := LRel.cons (μ := μ) _ _ _ _ (flat_rel μ hfl) (oksL_rel hT _ hok.2)
      simpa using this
  · cases h
theorem opV_wp {P : Program} {ih : Ih} (hS : Sound P ih) {ts : Ts} {σ σ' : St} {o : Oper} {v : Value} (h : opV P ih ts σ o = some (v, σ')) {μ : Mu} {a : Act} {w : World} (hT : TRel μ ts a) (hR : Rel μ σ w) (hf : Fresh μ σ σ') {K : Act → World → Prop} {Q : Exit → Act → World → Prop}
    (hK : ∀ μ' v' w', VRel μ' v v' → Rel μ' σ' w' → Step μ μ' σ σ' w w' → K (a.put o.dst v') w') : o.wp P a w K Q := by
  unfold opV at h
  split at h
  · rename_i g args hc
    obtain ⟨args', h1, h2⟩ := callOf_run hT hc h w
    unfold Oper.wp
    rw [h1, Oper.upon_enter]
    refine (callF_calls hS h h2 hR hf).mono ?_
    rintro e w' ⟨μ', v', rfl, g1, g2, g3⟩
    exact hK μ' v' w' g1 g2 g3
  · obtain ⟨μ', r', w', n, h1, h2, h3, h4, h5⟩ := exec_does hT hR h hf
    unfold Oper.wp
    rw [h1]
    rcases h2 with rfl | ⟨rfl, rfl⟩
    · exact hK μ' r' w' h3 h4 h5
    · exact hK μ' undef w' h3 h4 h5
theorem wantedV_eq {μ : Mu} {ts : Ts} {a : Act} (hT : TRel μ ts a) (all : Array Oper) (o : Oper) : Region.wanted o (yielded all a.tmps) = wantedV all ts o := by
  unfold Region.wanted wantedV
  cases hg : o.guard with
  | none => rfl
  | some jw =>
    obtain ⟨j, want⟩ := jw
    simp only
    unfold yielded
    cases hd : ((all[j]?).bind (·.dst)) with
    | none => rfl
    | some d =>
      simp only [Option.bind_some]
      have hv := hT.get d
      cases hx : a.tmps[d]? with
      | none =>
        have e : a.tmps.getD d undef = undef := by rw [Array.getD_eq_getD_getElem?, hx]; rfl
        rw [e] at hv
        generalize getT ts d = u at hv
        cases hv <;> rfl
      | some x =>
        have e : a.tmps.getD d undef = x := by rw [Array.getD_eq_getD_getElem?, hx]; rfl
        rw [e] at hv
        generalize getT ts d = u at hv
        cases hv with
        | sc h => cases x <;> rfl
        | _ => rfl

/-! a region in the order of its text -/
theorem opsV_size {P : Program} {ih : Ih} {all : Array Oper} : ∀ (l : List Oper) (ts : Ts) (σ : St) (ts' : Ts) (σ' : St), opsV P ih all l ts σ = some (ts', σ') → σ.size ≤ σ'.size
  | [], ts, σ, ts', σ', h => by simp [opsV] at h; obtain ⟨_, rfl⟩ := h; exact Nat.le_refl _
  | o :: rest, ts, σ, ts', σ', h => by
    simp only [opsV] at h
    split at h
    · split at h
      · rename_i v s1 ho
        split at h
        · rename_i hs
          exact Nat.le_trans hs (opsV_size rest _ _ _ _ h)
        · cases h
      · cases h
    · exact opsV_size rest _ _ _ _ h
theorem opsV_wp {P : Program} {ih : Ih} (hS : Sound P ih) {all : Array Oper} {Q : Exit → Act → World → Prop} : ∀ (l : List Oper) (ts : Ts) (σ : St) (ts' : Ts) (σ' : St), opsV P ih all l ts σ = some (ts', σ') → ∀ (μ : Mu) (a : Act) (w : World), TRel μ ts a → Rel μ σ w → Fresh μ σ σ' →
    (∀ a' w', Ends μ σ w ts' σ' a' w' → Q .normal a' w') → wpList P all Q l a w
  | [], ts, σ, ts', σ', h, μ, a, w, hT, hR, hf, hQ => by
    simp [opsV] at h
    obtain ⟨rfl, rfl⟩ := h
    exact hQ a w ⟨μ, hT, hR, Step.refl _ _ _⟩
  | o :: rest, ts, σ, ts', σ', h, μ, a, w, hT, hR, hf, hQ => by
    simp only [opsV] at h
    have hw := wantedV_eq hT all o
    refine wpList_step fun K hK => ?_
    split at h
    · rename_i hwt
      rw [if_pos (by rw [hw]; exact hwt)]
      split at h
      case h_2 => cases h
      rename_i v s1 ho
      split at h
      case isFalse => cases h
      rename_i hs
      have hs2 := opsV_size rest _ _ _ _ h
      refine opV_wp hS ho hT hR (hf.mono hs2) fun μ' v' w' g1 g2 g3 => ?_
      refine hK _ _ (opsV_wp hS rest _ _ _ _ h μ' _ w' ((hT.mono g3.ext).putV g1 o.dst) g2 (g3.fresh hf) ?_)
      rintro a2 w2 ⟨μ2, t1, t2, t3⟩
      exact hQ a2 w2 ⟨μ2, t1, t2, g3.trans t3⟩
    · rename_i hwt
      rw [if_neg (by rw [hw]; exact hwt)]
      exact hK _ _ (opsV_wp hS rest _ _ _ _ h μ _ w (hT.putV (vrel_undef μ) o.dst) hR hf hQ)

/-! code -/
def DrawAt (P : Program) (draw : Ih → Array Oper → Ts → St → Option (Ts × St)) (ih : Ih) : Prop :=
  ∀ ops ts σ ts' σ', draw ih ops ts σ = some (ts', σ') → σ.size ≤ σ'.size ∧ ∀ (id : Nat) (μ : Mu) (a : Act) (w : World), TRel μ ts a → Rel μ σ w → Fresh μ σ σ' →
    (Code.region id ops true).wp P (fun e a' w' => e = .normal ∧ Ends μ σ w ts' σ' a' w') a w
theorem wp_loop_ind {P : Program} {c : Code} {Q : Exit → Act → World → Prop} (J : Nat → Act → World → Prop) (round : ∀ n a w, J n a w → c.wp P (Exit.then (fun a' w' => ∃ m, m < n ∧ J m a' w') Q) a w) {n : Nat} {a : Act} {w : World} (h₀ : J n a w) : (Code.loop c).wp P Q a w := by
  intro b k cs
  have key : ∀ n a w, J n a w → ∃ e a' w', Q e a' w' ∧ Arrives P (lone (b.at a (.code c :: .inLoop c :: k)) cs w) b k cs e a' w' := by
    intro n
    induction n using Nat.strongRecOn with
    | _ n ih =>
      intro a w hJ
      obtain ⟨e, a₁, w₁, hq, harr⟩ := round n a w hJ b (.inLoop c :: k) cs
      cases e with
      | normal =>
        obtain ⟨m, hm, hJ₁⟩ := hq
        obtain ⟨e₂, a₂, w₂, hq₂, harr₂⟩ := ih m hm a₁ w₁ hJ₁
        exact ⟨e₂, a₂, w₂, hq₂, .of_steps (Steps.trans harr (.one step_inLoop)) harr₂⟩
      | exit id => exact ⟨_, a₁, w₁, hq, .pass (x := .inLoop c) rfl (fun _ _ => .inl (by simp)) harr⟩
      | goto l => exact ⟨_, a₁, w₁, hq, .pass (x := .inLoop c) rfl (fun _ _ => .inl (by simp)) harr⟩
      | ret => exact ⟨_, a₁, w₁, hq, .pass (x := .inLoop c) rfl (fun _ _ => .inl (by simp)) harr⟩
      | panic ch => exact ⟨_, a₁, w₁, hq, .pass (x := .inLoop c) rfl (fun _ _ => .inl (by simp)) harr⟩
      | outgrown => exact ⟨_, a₁, w₁, hq, .pass (x := .inLoop c) rfl (fun _ _ => .inl (by simp)) harr⟩
  obtain ⟨e, a', w', hq, harr⟩ := key n a w h₀
  exact ⟨e, a', w', hq, .of_steps (.one step_loop) harr⟩
theorem stepV_sound {P : Program} {draw : Ih → Array Oper → Ts → St → Option (Ts × St)} {ih : Ih} (hd : DrawAt P draw ih) (hS : Sound P ih) (hz : SizeOk ih) (hloop : ∀ b ts σ ex ts' σ', stepV P draw ih (.loop b) ts σ = some (ex, ts', σ') → ∀ μ a w, TRel μ ts a → Rel μ σ w → Fresh μ σ σ' → (Code.loop b).wp P (fun e a' w' => e = ex.of ∧ Ends μ σ w ts' σ' a' w') a w) : Sound P (stepV P draw ih) := by
  refine ⟨hS.kn, ?_⟩
  intro c ts σ ex ts' σ' h μ a w hT hR hf
  cases c
  case loop b => exact hloop b ts σ ex ts' σ' h μ a w hT hR hf
  all_goals simp only [stepV] at h
  case skip => cases h; exact wp_skip ⟨rfl, μ, hT, hR, Step.refl _ _ _⟩
  case label => cases h; exact wp_label ⟨rfl, μ, hT, hR, Step.refl _ _ _⟩
  case exit => cases h; exact wp_exit ⟨rfl, μ, hT, hR, Step.refl _ _ _⟩
  case ret => cases h; exact wp_ret ⟨rfl, μ, hT, hR, Step.refl _ _ _⟩
  case region id ops d =>
    split at h
    case h_2 => cases h
    rename_i ts1 s1 h1
    cases h
    cases d
    · exact wp_region_list (opsV_wp hS _ _ _ _ _ h1 μ a w hT hR hf fun a' w' he => ⟨rfl, he⟩)
    · exact Code.wp_mono (fun e a' w' he => he) ((hd ops ts σ ts' σ' h1).2 id μ a w hT hR hf)
  case seq x y =>
    refine wp_seq ?_
    split at h
    · rename_i ts1 s1 h1
      have hs2 := hz _ _ _ _ _ _ h
      refine Code.wp_mono ?_ (hS _ _ _ _ _ _ h1 μ a w hT hR (hf.mono hs2))
      rintro e a1 w1 ⟨rfl, μ1, t1, t2, t3⟩
      refine Code.wp_mono ?_ (hS _ _ _ _ _ _ h μ1 a1 w1 t1 t2 (t3.fresh hf))
      rintro e a2 w2 ⟨rfl, μ2, u1, u2, u3⟩
      exact ⟨rfl, μ2, u1, u2, t3.trans u3⟩
    · rename_i hn
      refine Code.wp_mono ?_ (hS _ _ _ _ _ _ h μ a w hT hR hf)
      rintro e a1 w1 ⟨rfl, he⟩
      cases ex with
      | norm => exact absurd h (hn _ _)
      | exit id => exact ⟨rfl, he⟩
      | ret => exact ⟨rfl, he⟩
  case cond c x y =>
    split at h
    case h_2 => cases h
    rename_i t hc
    have hcc : a.eval c = .bool t := scalar_eq (by rfl) (evo_rel hT hc)
    exact wp_cond hcc (hS _ _ _ _ _ _ h μ a w hT hR hf)
  case scope b =>
    refine wp_scope_straight (Code.wp_mono ?_ (hS _ _ _ _ _ _ h μ a w hT hR hf))
    rintro e a1 w1 ⟨rfl, he⟩
    cases ex <;> exact ⟨rfl, he⟩
  case block id b =>
    refine wp_block ?_
    split at h
    · rename_i id' ts1 s1 h1
      cases h
      refine Code.wp_mono ?_ (hS _ _ _ _ _ _ h1 μ a w hT hR hf)
      rintro e a1 w1 ⟨rfl, he⟩
      simp only [Exit.inBlock, Ex.of]
      by_cases hid : id' = id
      · rw [if_pos hid]; exact ⟨by simp [hid, Ex.of], he⟩
      · rw [if_neg hid]; exact ⟨by simp [hid, Ex.of], he⟩
    · rename_i hn
      refine Code.wp_mono ?_ (hS _ _ _ _ _ _ h μ a w hT hR hf)
      rintro e a1 w1 ⟨rfl, he⟩
      cases ex with
      | norm => exact ⟨rfl, he⟩
      | exit id => exact absurd h (hn _ _ _)
      | ret => exact ⟨rfl, he⟩
  all_goals cases h
end
end Go.Proofs.Ytadamjleglckpaa.ev

/- The reckoner: what a stretch leaves of its memory, by itself. -/
namespace Go.Proofs.Ytadamjleglckpaa.ev
noncomputable section
open Go.RowKit
set_option linter.unusedSimpArgs false
set_option linter.unusedVariables false
set_option linter.unusedSectionVars false
variable [Kn]

def WfB (σ : St) : Prop := ∀ k B, σ.getB k = some B → k < σ.size
structure Canon (σ σ' : St) : Prop where
  size : σ.size ≤ σ'.size
  wr : σ'.wr ≤ σ.wr
  same : ∀ k, k < σ.size → k < σ'.wr → σ'.getB k = σ.getB k
  wf : WfB σ → WfB σ'
theorem Canon.refl (σ : St) : Canon σ σ := ⟨Nat.le_refl _, Nat.le_refl _, fun _ _ _ => rfl, fun h => h⟩
theorem Canon.trans {a b c : St} (h : Canon a b) (k : Canon b c) : Canon a c :=
  ⟨Nat.le_trans h.size k.size, Nat.le_trans k.wr h.wr, fun i h1 h2 => by
    have := h.size; have := k.wr
    rw [k.same i (by omega) h2, h.same i h1 (by omega)], fun hw => k.wf (h.wf hw)⟩
theorem canon_new {σ : St} (B : Blk) (hs : σ.size < 65536) : Canon σ (σ.newS B) := by
  refine ⟨by simp [St.newS], Nat.le_refl _, fun k h1 h2 => by rw [St.getB_newS σ B k hs, if_neg (by omega)], fun hw k B' hk => ?_⟩
  rw [St.getB_newS σ B k hs] at hk
  by_cases e : k = σ.size
  · subst e; simp [St.newS]
  · rw [if_neg e] at hk
    have := hw k B' hk
    simp [St.newS]; omega
theorem canon_newP {σ σ' : St} {cells : List Value} {esz k : Nat} (h : newP σ cells esz = some (k, σ')) : Canon σ σ' := by
  unfold newP at h
  rw [forceL_eq] at h
  split at h
  · rename_i hs
    cases h
    exact canon_new _ hs
  · cases h
theorem canon_write {σ : St} {k : Nat} {B : Blk} (hB : σ.getB k = some B) (cells : List Value) : Canon σ (σ.write k B cells) := by
  have hklt := St.getB_lt hB
  have hal := St.getB_alive hB
  have hsize : (σ.write k B cells).size = σ.size := by simp [St.write, St.setB, (killL_size B.anc σ).1]
  have hwr := foldl_min_le (k :: B.anc) σ.wr
  have h4 : (σ.write k B cells).wr = (k :: B.anc).foldl min σ.wr := rfl
  refine ⟨by rw [hsize]; exact Nat.le_refl _, hwr.1, fun m h1 h2 => ?_, fun hw m B' hm => ?_⟩
  · rw [St.getB_write σ k m B cells hklt hal]
    have e1 : m ≠ k := fun e => by have := hwr.2 k (by simp); omega
    have e2 : m ∉ B.anc := fun e => by have := hwr.2 m (by simp [e]); omega
    simp [e1, e2]
  · rw [St.getB_write σ k m B cells hklt hal] at hm
    rw [hsize]
    by_cases e1 : m = k
    · subst e1; exact hw m B hB
    · rw [if_neg e1] at hm
      by_cases e2 : m ∈ B.anc
      · rw [if_pos e2] at hm; cases hm
      · rw [if_neg e2] at hm; exact hw m B' hm
theorem canon_cont {σ : St} {k : Nat} {B : Blk} (hB : σ.getB k = some B) (hs : σ.size < 65536) (cells : List Value) : Canon σ (σ.cont k B cells) := by
  have hsize : (σ.cont k B cells).size = σ.size + 1 := by simp [St.cont, St.newS, St.setB]
  have h4 : (σ.cont k B cells).wr = min σ.wr k := rfl
  refine ⟨by omega, by omega, fun m h1 h2 => by rw [St.getB_cont σ k m B cells hB hs, if_neg (by omega), if_neg (by omega)], fun hw m B' hm => ?_⟩
  rw [St.getB_cont σ k m B cells hB hs] at hm
  rw [hsize]
  by_cases e0 : m = σ.size
  · omega
  · rw [if_neg e0] at hm
    by_cases e1 : m = k
    · have := hw k B hB; omega
    · rw [if_neg e1] at hm; have := hw m B' hm; omega
theorem canon_map {σ σ' : St} {x : Option (Nat × St)} {f : Nat × St → Value} {r : Value} (hx : ∀ p, x = some p → Canon σ p.2) (h : (x.map fun p => (f p, p.2)) = some (r, σ')) : Canon σ σ' := by
  simp only [Option.map_eq_some_iff, Prod.mk.injEq] at h
  obtain ⟨p, h1, _, rfl⟩ := h
  exact hx p h1
theorem canon_newP' {σ : St} {cells : List Value} {esz : Nat} (p : Nat × St) (h : newP σ cells esz = some p) : Canon σ p.2 := canon_newP (k := p.1) h
theorem canon_one {σ σ' : St} {x : Option Value} {r : Value} (h : one σ x = some (r, σ')) : Canon σ σ' := by
  obtain ⟨_, rfl⟩ := one_some h; exact Canon.refl _
theorem canon_pure {P : Program} {σ σ' : St} {ts : Ts} {o : Oper} {r : Value} (h : pureV P σ ts o = some (r, σ')) : Canon σ σ' := by
  unfold pureV at h
  simp only [Option.map_eq_some_iff, Prod.mk.injEq] at h
  obtain ⟨_, _, _, rfl⟩ := h
  exact Canon.refl _
theorem canon_or {P : Program} {σ σ' : St} {ts : Ts} {o : Oper} {x : Option (Value × St)} {r : Value} (h : orElse x (fun _ => pureV P σ ts o) = some (r, σ')) (hx : ∀ {v s}, x = some (v, s) → Canon σ s) : Canon σ σ' := by
  rcases orElse_some h with h | h
  · exact hx h
  · exact canon_pure h
theorem canon_append {P : Program} {σ σ' : St} {t : TypeId} {s x r : Value} (h : appendV P σ t s x = some (r, σ')) : Canon σ σ' := by
  unfold appendV at h
  simp only [forceL_eq] at h
  split at h
  case h_2 => cases h
  split at h
  case h_2 => cases h
  split at h
  case h_2 => cases h
  split at h
  case h_2 => cases h
  split at h
  case isFalse => cases h
  split at h
  · split at h
    · cases h; exact Canon.refl _
    · cases h
  · split at h
    · cases h
    · split at h
      · split at h
        · exact canon_map canon_newP' h
        · cases h
      · split at h
        · split at h
          · split at h
            · rename_i B hB
              split at h
              · cases h; exact canon_write hB _
              · cases h
            · cases h
          · split at h
            · exact canon_map canon_newP' h
            · cases h
        · split at h
          · split at h
            · rename_i B hB
              split at h
              · split at h
                · split at h
                  · rename_i hs
                    cases h; exact canon_cont hB hs _
                  · cases h
                · split at h
                  · cases h; exact canon_write hB _
                  · cases h
              · cases h
            · cases h
          · cases h
      · cases h
theorem canon_zeros {P : Program} {σ σ' : St} {t t2 : TypeId} {s x r : Value} (h : zerosV P σ t t2 s x = some (r, σ')) : Canon σ σ' := by
  unfold zerosV at h
  split at h
  case h_2 => cases h
  split at h
  case h_2 => cases h
  split at h
  case h_2 => cases h
  split at h
  case h_2 => cases h
  split at h
  case isFalse => cases h
  exact canon_map canon_newP' h
theorem canon_builtin {P : Program} {σ σ' : St} {ts : Ts} {b : Builtin} {tys : List TypeId} {args : List Operand} {r : Value} (h : builtinV P σ ts b tys args = some (r, σ')) : Canon σ σ' := by
  unfold builtinV at h
  split at h
  · split at h
    · simp only [Option.map_eq_some_iff, Prod.mk.injEq] at h
      obtain ⟨_, _, _, rfl⟩ := h; exact Canon.refl _
    · cases h
  · split at h
    · simp only [Option.map_eq_some_iff, Prod.mk.injEq] at h
      obtain ⟨_, _, _, rfl⟩ := h; exact Canon.refl _
    · cases h
  · split at h
    · unfold clearV at h
      split at h
      · split at h
        · cases h; exact Canon.refl _
        · cases h
      · split at h
        case h_2 => cases h
        split at h
        case h_2 => cases h
        split at h
        case h_2 => cases h
        split at h
        case h_2 => cases h
        rename_i B hB
        split at h
        · cases h; exact canon_write hB _
        · cases h
      · cases h
    · cases h
  · split at h
    · split at h
      · exact canon_append h
      · cases h
    · split at h
      · exact canon_zeros h
      · cases h
  · split at h
    · unfold copyV at h
      split at h
      case h_2 => cases h
      split at h
      case h_2 => cases h
      split at h
      case h_2 => cases h
      split at h
      · cases h; exact Canon.refl _
      · split at h
        case h_2 => cases h
        rename_i xs B hxs hB
        split at h
        · cases h; exact canon_write hB _
        · cases h
    · cases h
  · cases h
theorem canon_exec {P : Program} {σ σ' : St} {ts : Ts} {o : Oper} {r : Value} (h : exec P σ ts o = some (r, σ')) : Canon σ σ' := by
  unfold exec at h
  split at h
  case h_1 => exact canon_one h
  case h_2 => exact canon_one h
  case h_3 => unfold xPick at h; split at h; · exact canon_one h
              cases h
  case h_4 =>
    unfold allocV at h
    split at h
    case h_2 => cases h
    split at h
    case h_2 => cases h
    split at h
    · exact canon_map canon_newP' h
    · cases h
  case h_5 => unfold xBox at h; split at h; · exact canon_map canon_newP' h
              cases h
  case h_6 => exact canon_one h
  case h_7 =>
    unfold buildSliceV at h
    split at h
    case isFalse => cases h
    split at h
    case h_2 => cases h
    split at h
    case h_2 => cases h
    split at h
    case h_2 => cases h
    split at h
    case isFalse => cases h
    split at h
    case h_2 => cases h
    exact canon_map canon_newP' h
  case h_8 => unfold xLoad at h; split at h; · exact canon_one h
              cases h
  case h_9 =>
    unfold xStore at h
    split at h
    case h_2 => cases h
    unfold xUnit at h
    split at h
    case h_2 => cases h
    rename_i hs
    cases h
    unfold storeB at hs
    simp only [forceL_eq] at hs
    split at hs
    case h_2 => cases hs
    rename_i B hB
    split at hs
    case h_2 => cases hs
    split at hs
    · cases hs; exact canon_write hB _
    · cases hs
  case h_10 => unfold xNil at h; split at h; · exact canon_or h canon_one
               cases h
  case h_11 =>
    unfold xBin at h
    split at h
    · unfold xInt at h
      split at h
      · exact canon_or h canon_one
      · exact canon_pure h
    · exact canon_or h canon_one
    · cases h
  case h_12 =>
    unfold xNot at h
    split at h
    · split at h
      · cases h; exact Canon.refl _
      · cases h
    · exact canon_pure h
  case h_13 => unfold xIface at h; split at h; · exact canon_one h
               cases h
  case h_14 => exact canon_one h
  case h_15 =>
    unfold xMake at h
    split at h
    case h_2 => cases h
    unfold makeSliceV at h
    split at h
    case h_2 => cases h
    split at h
    case h_2 => cases h
    split at h
    case h_2 => cases h
    split at h
    case h_2 => cases h
    split at h
    · exact canon_map canon_newP' h
    · cases h
  case h_16 => unfold xSlice at h; split at h; · exact canon_or h canon_one
               cases h
  case h_17 => unfold xFieldAddr at h; split at h; · exact canon_one h
               cases h
  case h_18 => unfold xField at h; split at h; · exact canon_one h
               cases h
  case h_19 => unfold xIndexAddr at h; split at h; · exact canon_one h
               cases h
  case h_20 => unfold xIndex at h; split at h; · exact canon_or h canon_one
               cases h
  case h_21 => unfold xExtract at h; split at h; · exact canon_one h
               cases h
  case h_22 => unfold xCall at h; split at h; · exact canon_or h canon_builtin
               cases h
  case h_23 => exact canon_pure h
def CanonOk (ih : Ih) : Prop := ∀ c ts σ ex ts' σ', ih c ts σ = some (ex, ts', σ') → Canon σ σ'
theorem canon_call {P : Program} {ih : Ih} (hC : CanonOk ih) {g : FuncId} {args : List Value} {σ σ' : St} {v : Value} (h : callF P ih g args σ = some (v, σ')) : Canon σ σ' := by
  unfold callF at h
  split at h
  case h_2 => cases h
  split at h
  · cases h; exact Canon.refl _
  unfold callK at h
  split at h
  · cases h
  split at h
  · rename_i hih
    split at h
    · cases h; exact hC _ _ _ _ _ _ hih
    · cases h
  · rename_i hih
    split at h
    · cases h; exact hC _ _ _ _ _ _ hih
    · cases h
  · cases h
theorem canon_op {P : Program} {ih : Ih} (hC : CanonOk ih) {ts : Ts} {σ σ' : St} {o : Oper} {v : Value} (h : opV P ih ts σ o = some (v, σ')) : Canon σ σ' := by
  unfold opV at h
  split at h
  · exact canon_call hC h
  · exact canon_exec h
theorem canon_ops {P : Program} {ih : Ih} (hC : CanonOk ih) {all : Array Oper} : ∀ (l : List Oper) (ts : Ts) (σ : St) (ts' : Ts) (σ' : St), opsV P ih all l ts σ = some (ts', σ') → Canon σ σ'
  | [], ts, σ, ts', σ', h => by simp [opsV] at h; obtain ⟨_, rfl⟩ := h; exact Canon.refl _
  | o :: rest, ts, σ, ts', σ', h => by
    simp only [opsV] at h
    split at h
    · split at h
      · rename_i ho
        split at h
        · exact (canon_op hC ho).trans (canon_ops hC rest _ _ _ _ h)
        · cases h
      · cases h
    · exact canon_ops hC rest _ _ _ _ h
end
end Go.Proofs.Ytadamjleglckpaa.ev

/- The reckoner: a region that draws its order. -/
namespace Go.Proofs.Ytadamjleglckpaa.ev
noncomputable section
open Go.RowKit
set_option linter.unusedSimpArgs false
set_option linter.unusedVariables false
set_option linter.unusedSectionVars false
variable [Kn]

/-! an operation, by what it looks at -/
def OpRuns (P : Program) (μ : Mu) (σ : St) (w : World) (s : Sem Next) (v : Value) (σ' : St) : Prop :=
  (∃ μ' r' w' n, s.run P w = .ok n w' ∧ (n = .value r' ∨ (n = .skip ∧ r' = undef)) ∧ VRel μ' v r' ∧ Rel μ' σ' w' ∧ Step μ μ' σ σ' w w') ∨
  (∃ g args', s.run P w = .ok (.enter g args') w ∧ Calls P g args' w (Gives μ σ w v σ'))
theorem opV_runs {P : Program} {ih : Ih} (hS : Sound P ih) {ts : Ts} {σ σ' : St} {o : Oper} {v : Value} (h : opV P ih ts σ o = some (v, σ')) {μ : Mu} {a : Act} {w : World} (hT : TRel μ ts a) (hR : Rel μ σ w) (hf : Fresh μ σ σ') : OpRuns P μ σ w (execOp a.eval o) v σ' := by
  unfold opV at h
  split at h
  · rename_i g args hc
    obtain ⟨args', h1, h2⟩ := callOf_run hT hc h w
    exact .inr ⟨g, args', h1, callF_calls hS h h2 hR hf⟩
  · exact .inl (exec_does hT hR h hf)
theorem OpRuns.wp {P : Program} {μ : Mu} {σ σ' : St} {w : World} {v : Value} {o : Oper} {a : Act} (h : OpRuns P μ σ w (execOp a.eval o) v σ') {K : Act → World → Prop} {Q : Exit → Act → World → Prop}
    (hK : ∀ μ' v' w', VRel μ' v v' → Rel μ' σ' w' → Step μ μ' σ σ' w w' → K (a.put o.dst v') w') : o.wp P a w K Q := by
  rcases h with ⟨μ', r', w', n, h1, h2, h3, h4, h5⟩ | ⟨g, args', h1, h2⟩
  · unfold Oper.wp
    rw [h1]
    rcases h2 with rfl | ⟨rfl, rfl⟩
    · exact hK μ' r' w' h3 h4 h5
    · exact hK μ' undef w' h3 h4 h5
  · unfold Oper.wp
    rw [h1, Oper.upon_enter]
    refine h2.mono ?_
    rintro e w' ⟨μ', v', rfl, g1, g2, g3⟩
    exact hK μ' v' w' g1 g2 g3
theorem fillT_eq : ∀ (l : List Value) (k : Nat) (ts : Ts), ts.n ≤ 2 ^ ts.d → k + l.length ≤ ts.n →
    (fillT k l ts).n = ts.n ∧ (fillT k l ts).d = ts.d ∧ ∀ t, (t < k ∨ k + l.length ≤ t → getT (fillT k l ts) t = getT ts t) ∧ (k ≤ t → t < k + l.length → getT (fillT k l ts) t = l.getD (t - k) undef)
  | [], k, ts, hd, hn => ⟨rfl, rfl, fun t => ⟨fun _ => rfl, fun a b => by simp at b; omega⟩⟩
  | v :: l, k, ts, hd, hn => by
    simp only [List.length_cons] at hn
    obtain ⟨s1, s2⟩ := setT_n ts k v
    obtain ⟨i1, i2, i3⟩ := fillT_eq l (k + 1) (setT ts k v) (by rw [s1, s2]; exact hd) (by rw [s1]; omega)
    refine ⟨i1.trans s1, i2.trans s2, fun t => ⟨fun ht => ?_, fun h1 h2 => ?_⟩⟩
    · simp only [List.length_cons] at ht
      show getT (fillT (k + 1) l (setT ts k v)) t = _
      rw [(i3 t).1 (by omega), getT_setT ts hd k t v (by omega), if_neg (by omega)]
    · simp only [List.length_cons] at h2
      show getT (fillT (k + 1) l (setT ts k v)) t = _
      by_cases e : t = k
      · subst e
        rw [(i3 t).1 (by omega), getT_setT ts hd t t v (by omega), if_pos rfl]
        simp
      · rw [(i3 t).2 (by omega) (by omega), show t - k = (t - (k + 1)) + 1 by omega]
        simp
/-- what an operation looks at decides it -/
theorem evo_eq {ts ts' : Ts} {x : Operand} (h : ∀ t, x = .tmp t → getT ts' t = getT ts t) : evo ts' x = evo ts x := by
  cases x with
  | tmp t => simp only [evo, h t rfl]
  | _ => rfl
theorem opV_congr {P : Program} {ih : Ih} {ts ts' : Ts} {σ : St} {o : Oper} (h : ∀ t, (.tmp t) ∈ o.op.operands → getT ts' t = getT ts t) : opV P ih ts' σ o = opV P ih ts σ o := by
  have he : ∀ x ∈ o.op.operands, evo ts' x = evo ts x := fun x hx => evo_eq fun t e => h t (e ▸ hx)
  have hflat : ∀ l : List Operand, (∀ x ∈ l, x ∈ o.op.operands) → allFlat ts' l = allFlat ts l := by
    intro l
    induction l with
    | nil => intro _; rfl
    | cons x l ih => intro hl; simp only [allFlat, he x (hl x (by simp)), ih (fun y hy => hl y (by simp [hy]))]
  have hoks : ∀ l : List Operand, (∀ x ∈ l, x ∈ o.op.operands) → oksL ts' l = oksL ts l ∧ l.map (vof ts') = l.map (vof ts) := by
    intro l
    induction l with
    | nil => intro _; exact ⟨rfl, rfl⟩
    | cons x l ih =>
      intro hl
      obtain ⟨i1, i2⟩ := ih (fun y hy => hl y (by simp [hy]))
      have hx := he x (hl x (by simp))
      refine ⟨?_, ?_⟩
      · unfold oksL at *; simp only [List.all_cons, hx, i1]
      · simp only [List.map_cons, i2, vof, hx]
  have hparts : ∀ l : List (Nat × Operand), (∀ p ∈ l, p.2 ∈ o.op.operands) → oksP ts' l = oksP ts l ∧ (l.map fun p => (p.1, vof ts' p.2)) = l.map fun p => (p.1, vof ts p.2) := by
    intro l
    induction l with
    | nil => intro _; exact ⟨rfl, rfl⟩
    | cons x l ih =>
      intro hl
      obtain ⟨i1, i2⟩ := ih (fun y hy => hl y (by simp [hy]))
      have hx := he x.2 (hl x (by simp))
      have hvx : vof ts' x.2 = vof ts x.2 := by unfold vof; rw [hx]
      refine ⟨?_, ?_⟩
      · unfold oksP at *; simp only [List.all_cons, hx, i1]
      · rw [List.map_cons, List.map_cons, i2, hvx]
  have hpure : pureV P σ ts' o = pureV P σ ts o := by
    unfold pureV pureOp
    rw [hflat _ (fun x hx => by simpa using hx)]
    by_cases hsel : isSelect o.op = true
    · simp [hsel]
    · have : execOp (fun x => (evo ts' x).getD undef) o = execOp (fun x => (evo ts x).getD undef) o :=
        execOp_congr o (fun cs b e => hsel (by rw [e]; rfl)) fun x hx => by rw [he x hx]
      rw [this]
  have hex : exec P σ ts' o = exec P σ ts o := by
    unfold exec
    split
    case h_1 x ho => rw [he x (by simp [ho, Op.operands])]
    case h_2 x ho => rw [he x (by simp [ho, Op.operands])]
    case h_3 c x y ho =>
      have e1 := he x (by simp [ho, Op.operands])
      have e2 := he y (by simp [ho, Op.operands])
      rw [he c (by simp [ho, Op.operands])]
      unfold xPick
      split
      · rename_i t _
        cases t <;> simp only [e1, e2]
      · rfl
    case h_4 => rfl
    case h_5 e x ho => rw [he x (by simp [ho, Op.operands])]
    case h_6 t ps ho =>
      obtain ⟨p1, p2⟩ := hparts ps.toList (fun p hp => by simp only [ho, Op.operands, List.mem_toArray, List.mem_map]; exact ⟨p, hp, rfl⟩)
      unfold buildV
      rw [p1, p2]
    case h_7 t n ps ho =>
      obtain ⟨p1, p2⟩ := hparts ps.toList (fun p hp => by simp only [ho, Op.operands, List.mem_toArray, List.mem_map]; exact ⟨p, hp, rfl⟩)
      unfold buildSliceV
      rw [p1, p2]
    case h_8 t x ho => rw [he x (by simp [ho, Op.operands])]
    case h_9 t x y ho => rw [he x (by simp [ho, Op.operands]), he y (by simp [ho, Op.operands])]
    case h_10 x ho => rw [he x (by simp [ho, Op.operands])]; unfold xNil; rw [hpure]
    case h_11 op t x y t' ho => rw [he x (by simp [ho, Op.operands]), he y (by simp [ho, Op.operands])]; unfold xBin xInt; rw [hpure]
    case h_12 op t x ho => rw [he x (by simp [ho, Op.operands])]; unfold xNot; rw [hpure]
    case h_13 t x ho => rw [he x (by simp [ho, Op.operands])]
    case h_14 f first captured ho =>
      obtain ⟨p1, p2⟩ := hoks first.toList (fun x hx => by simp [ho, Op.operands]; left; simpa using hx)
      obtain ⟨q1, q2⟩ := hoks captured.toList (fun x hx => by simp [ho, Op.operands]; right; simpa using hx)
      unfold makeFuncV
      rw [p1, p2, q1, q2]
    case h_15 t x y ho => rw [he x (by simp [ho, Op.operands]), he y (by simp [ho, Op.operands])]
    case h_16 t x lo hi mx ho =>
      have hv : ∀ y : Option Operand, (∀ z, y = some z → z ∈ o.op.operands) → evos ts' y = evos ts y := by
        intro y hy
        cases y with
        | none => rfl
        | some z => simp only [evos, he z (hy z rfl)]
      rw [he x (by simp [ho, Op.operands]), hv lo (fun z e => by subst e; simp [ho, Op.operands]), hv hi (fun z e => by subst e; simp [ho, Op.operands]), hv mx (fun z e => by subst e; simp [ho, Op.operands])]
      unfold xSlice; rw [hpure]
    case h_17 s x f ho => rw [he x (by simp [ho, Op.operands])]
    case h_18 t x f ho => rw [he x (by simp [ho, Op.operands])]
    case h_19 t x y ho => rw [he x (by simp [ho, Op.operands]), he y (by simp [ho, Op.operands])]
    case h_20 t x y ho => rw [he x (by simp [ho, Op.operands]), he y (by simp [ho, Op.operands])]; unfold xIndex; rw [hpure]
    case h_21 x ix ho => rw [he x (by simp [ho, Op.operands])]
    case h_22 c ho =>
      unfold xCall
      split
      · rename_i b hc
        have hargs : ∀ x ∈ c.args.toList, x ∈ o.op.operands := fun x hx => by simp only [ho, Op.operands, Call.operands]; simp; right; simpa using hx
        have : builtinV P σ ts' b c.argTypes.toList c.args.toList = builtinV P σ ts b c.argTypes.toList c.args.toList := by
          generalize c.args.toList = l at hargs
          generalize c.argTypes.toList = tys
          unfold builtinV
          split
          · rename_i t x; rw [he x (hargs x (by simp))]
          · rename_i t x; rw [he x (hargs x (by simp))]
          · rename_i t x; rw [he x (hargs x (by simp))]
          · rename_i t t2 x y; rw [he x (hargs x (by simp)), he y (hargs y (by simp))]
          · rename_i t t2 x y; rw [he x (hargs x (by simp)), he y (hargs y (by simp))]
          · rfl
        rw [this, hpure]
      · rfl
    case h_23 => exact hpure
  have hcall : callOf P ts' o = callOf P ts o := by
    unfold callOf
    split
    · rename_i c ho
      have hargs : ∀ x ∈ c.args.toList, x ∈ o.op.operands := fun x hx => by simp only [ho, Op.operands, Call.operands]; simp; right; simpa using hx
      obtain ⟨p1, p2⟩ := hoks c.args.toList hargs
      split
      · rename_i f hc
        rw [he f (by simp [ho, Op.operands, Call.operands, hc]), p1, p2]
      · rename_i recv name hc
        rw [he recv (by simp [ho, Op.operands, Call.operands, hc]), p1, p2]
      · rfl
    · rfl
  unfold opV
  rw [hcall, hex]
theorem opV_part {P : Program} {ih : Ih} (hS : Sound P ih) {ts : Ts} {σ σ' : St} {o : Oper} {v : Value} (hsel : ∀ cs b, o.op ≠ .select cs b) (h : opV P ih ts σ o = some (v, σ')) {μ : Mu} {a : Act} {w : World} (hT : ∀ t, (.tmp t) ∈ o.op.operands → VRel μ (getT ts t) (a.tmps.getD t undef)) (hR : Rel μ σ w) (hf : Fresh μ σ σ') (hna : a.tmps.size ≤ 512) (hnt : ts.n ≤ 512) : OpRuns P μ σ w (execOp a.eval o) v σ' := by
  -- a frame that holds what is looked at, and nothing else
  let n := a.tmps.size
  let keep : Nat → Bool := fun t => o.op.operands.toList.any fun | .tmp u => u == t | _ => false
  have hkeep : ∀ t, keep t = true ↔ (.tmp t) ∈ o.op.operands := by
    intro t
    simp only [keep, List.any_eq_true]
    constructor
    · rintro ⟨x, hx, hx2⟩
      cases x <;> simp at hx2
      subst hx2; simpa using hx
    · intro hx
      exact ⟨.tmp t, by simpa using hx, by simp⟩
  let m := max n ts.n
  have h0m : a.tmps.size ≤ m := Nat.le_max_left _ _
  have h1m : ts.n ≤ m := Nat.le_max_right _ _
  let l : List Value := (List.range m).map fun t => if keep t then getT ts t else undef
  let l' : List Value := (List.range m).map fun t => if keep t then a.tmps.getD t undef else undef
  let ts' := frameT m l
  have hl : l.length = m := by simp [l]
  have hcap : m ≤ 512 := Nat.max_le.2 ⟨hna, hnt⟩
  have hsn : (slots0 m).n = m := by rw [slots0_eq]
  have hd : (slots0 m).n ≤ 2 ^ (slots0 m).d := by rw [hsn]; exact hcap
  have hlr : LRel μ l l' := by
    refine LRel.map _ fun t _ => ?_
    by_cases hk : keep t = true
    · simp only [hk, if_true]; exact hT t ((hkeep t).1 hk)
    · simp only [hk]; exact vrel_undef μ
  obtain ⟨e1, e2, e3⟩ := fillT_eq l 0 (slots0 m) hd (by rw [hl, hsn]; omega)
  have hget : ∀ t, (.tmp t) ∈ o.op.operands → getT ts' t = getT ts t := by
    intro t ht
    by_cases hm : t < m
    · have := (e3 t).2 (by omega) (by rw [hl]; omega)
      show getT (fillT 0 l _) t = _
      rw [this]
      simp [l, List.getD_eq_getElem?_getD, hm, (hkeep t).2 ht]
    · have h1 : getT ts' t = undef := by
        show getT (fillT 0 l _) t = _
        rw [(e3 t).1 (by rw [hl]; exact .inr (by simpa using Nat.le_of_not_lt hm))]
        exact getT_slots0 hcap t
      have h2 : getT ts t = undef := getT_ge (fun h => hm (Nat.lt_of_lt_of_le h h1m))
      rw [h1, h2]
  let a' : Act := { tmps := l'.toArray ++ Array.replicate (m - l'.toArray.size) undef, defers := [] }
  have hT' : TRel μ ts' a' := frameT_rel (args := l) (args' := l'.toArray) (n := m) (by simpa using hlr) (by rw [hl]; exact Nat.le_refl _) hcap
  have hr := opV_runs hS (ts := ts') (by rw [opV_congr hget]; exact h) hT' hR hf
  have hev : execOp a'.eval o = execOp a.eval o := by
    refine execOp_congr o hsel fun x hx => ?_
    cases x with
    | tmp t =>
      show a'.tmps.getD t undef = a.tmps.getD t undef
      have hl2 : l'.toArray.size = m := by simp [l']
      by_cases hm : t < m
      · simp only [a', Array.getD_eq_getD_getElem?]
        rw [Array.getElem?_append_left (by rw [hl2]; exact hm)]
        simp [l', hm, (hkeep t).2 hx, Array.getD_eq_getD_getElem?]
      · have h1 : a'.tmps.getD t undef = undef := by
          simp only [a', Array.getD_eq_getD_getElem?]
          rw [Array.getElem?_append_right (by rw [hl2]; exact Nat.le_of_not_lt hm), Array.getElem?_replicate]
          split <;> rfl
        have h2 : a.tmps.getD t undef = undef := by
          rw [Array.getD_eq_getD_getElem?, Array.getElem?_eq_none (Nat.le_trans h0m (Nat.le_of_not_lt hm))]; rfl
        rw [h1, h2]
    | _ => rfl
  rw [hev] at hr
  exact hr
theorem wanted_part {μ : Mu} {ts : Ts} {a : Act} (all : Array Oper) (o : Oper) (hT : ∀ j want d, o.guard = some (j, want) → (all[j]?).bind (·.dst) = some d → VRel μ (getT ts d) (a.tmps.getD d undef)) : Region.wanted o (yielded all a.tmps) = wantedV all ts o := by
  unfold Region.wanted wantedV
  cases hg : o.guard with
  | none => rfl
  | some jw =>
    obtain ⟨j, want⟩ := jw
    simp only
    unfold yielded
    cases hd : ((all[j]?).bind (·.dst)) with
    | none => rfl
    | some d =>
      simp only [Option.bind_some]
      have hv := hT j want d hg hd
      cases hx : a.tmps[d]? with
      | none =>
        have e : a.tmps.getD d undef = undef := by rw [Array.getD_eq_getD_getElem?, hx]; rfl
        rw [e] at hv
        generalize getT ts d = u at hv
        cases hv <;> rfl
      | some x =>
        have e : a.tmps.getD d undef = x := by rw [Array.getD_eq_getD_getElem?, hx]; rfl
        rw [e] at hv
        generalize getT ts d = u at hv
        cases hv with
        | sc h => cases x <;> rfl
        | _ => rfl
end
end Go.Proofs.Ytadamjleglckpaa.ev

/- The reckoner: regions that draw their order: whatever the order, it ends as in the order of the text. -/
namespace Go.Proofs.Ytadamjleglckpaa.ev
noncomputable section
open Go.RowKit
set_option linter.unusedSimpArgs false
set_option linter.unusedVariables false
set_option linter.unusedSectionVars false
variable [Kn]

/-! what goes before what -/
def maskOf (acc : List Nat) (o : Oper) : Nat := o.after.toList.foldl (fun s e => if Region.binds .any e then s ||| (1 <<< e.on) ||| acc.getD e.on 0 else s) 0
def closL : List Oper → List Nat → List Nat
  | [], acc => acc
  | o :: l, acc => closL l (acc ++ [maskOf acc o])
theorem closL_spec : ∀ (l : List Oper) (acc : List Nat), (closL l acc).length = acc.length + l.length ∧ (closL l acc).take acc.length = acc ∧ ∀ j o, l[j]? = some o → (closL l acc).getD (acc.length + j) 0 = maskOf ((closL l acc).take (acc.length + j)) o
  | [], acc => ⟨by simp [closL], by simp [closL], fun j o h => by simp at h⟩
  | o :: l, acc => by
    obtain ⟨h1, h2, h3⟩ := closL_spec l (acc ++ [maskOf acc o])
    simp only [List.length_append, List.length_cons, List.length_nil, Nat.zero_add] at h1 h2 h3
    refine ⟨by simp only [closL, h1, List.length_cons]; omega, ?_, fun j o' hj => ?_⟩
    · have := congrArg (List.take acc.length) h2
      simpa [closL, List.take_take] using this
    · cases j with
      | zero =>
        simp only [List.getElem?_cons_zero, Option.some.injEq] at hj
        subst hj
        have ht : (closL l (acc ++ [maskOf acc o])).take acc.length = acc := by
          have := congrArg (List.take acc.length) h2
          simpa [List.take_take] using this
        simp only [closL, Nat.add_zero, ht]
        have := congrArg (fun x => x.getD acc.length 0) h2
        simp [List.getD_eq_getElem?_getD, List.getElem?_take] at this
        simpa [List.getD_eq_getElem?_getD] using this
      | succ j =>
        have := h3 j o' (by simpa using hj)
        simp only [closL]
        rw [show acc.length + (j + 1) = acc.length + 1 + j by omega]
        exact this
theorem mask_bit {acc : List Nat} {o : Oper} {i : Nat} (h : (maskOf acc o).testBit i = true) : ∃ e ∈ o.after.toList, Region.binds .any e = true ∧ (e.on = i ∨ (acc.getD e.on 0).testBit i = true) := by
  unfold maskOf at h
  have key : ∀ (l : List Edge) (s : Nat), (l.foldl (fun s e => if Region.binds .any e then s ||| (1 <<< e.on) ||| acc.getD e.on 0 else s) s).testBit i = true → s.testBit i = true ∨ ∃ e ∈ l, Region.binds .any e = true ∧ (e.on = i ∨ (acc.getD e.on 0).testBit i = true) := by
    intro l
    induction l with
    | nil => intro s hs; exact .inl hs
    | cons e l ih =>
      intro s hs
      simp only [List.foldl_cons] at hs
      rcases ih _ hs with h1 | ⟨e', he', hb⟩
      · by_cases hb : Region.binds .any e = true
        · rw [if_pos hb] at h1
          simp only [Nat.testBit_or, Bool.or_eq_true] at h1
          rcases h1 with (h1 | h1) | h1
          · exact .inl h1
          · refine .inr ⟨e, by simp, hb, .inl ?_⟩
            rw [Nat.one_shiftLeft, Nat.testBit_two_pow] at h1
            simpa using h1
          · exact .inr ⟨e, by simp, hb, .inr h1⟩
        · rw [if_neg hb] at h1; exact .inl h1
      · exact .inr ⟨e', by simp [he'], hb⟩
  rcases key _ 0 h with h | h
  · simp at h
  · exact h
def Listed (L : Array Bool) (j : Nat) : Prop := L.getD j true = true
/-- what is listed comes with what it waits for -/
def Closed (ops : Array Oper) (L : Array Bool) : Prop := ∀ (j : Nat) (o : Oper), ops.toList[j]? = some o → Listed L j → ∀ e ∈ o.after.toList, Region.binds .any e = true → Listed L e.on
theorem bits_listed {ops : Array Oper} {L : Array Bool} (hC : Closed ops L) (hb : ∀ (j : Nat) (o : Oper), ops.toList[j]? = some o → ∀ e ∈ o.after.toList, Region.binds .any e = true → e.on < j) :
    ∀ (j : Nat) (o : Oper), ops.toList[j]? = some o → (∀ e ∈ o.after.toList, Region.binds .any e = true → Listed L e.on) → ∀ i, ((closL ops.toList []).getD j 0).testBit i = true → Listed L i := by
  intro j
  induction j using Nat.strongRecOn with
  | _ j ih =>
    intro o ho hp i hi
    obtain ⟨h1, _, h3⟩ := closL_spec ops.toList []
    have := h3 j o ho
    simp only [List.length_nil, Nat.zero_add] at this h1
    rw [this] at hi
    obtain ⟨e, he, hbe, hc⟩ := mask_bit hi
    have hlt := hb j o ho e he hbe
    rcases hc with rfl | hc
    · exact hp e he hbe
    · have hj : j < ops.toList.length := (List.getElem?_eq_some_iff.1 ho).1
      have hg : ((closL ops.toList []).take j).getD e.on 0 = (closL ops.toList []).getD e.on 0 := by
        simp [List.getD_eq_getElem?_getD, List.getElem?_take, hlt]
      rw [hg] at hc
      obtain ⟨o', ho'⟩ : ∃ o', ops.toList[e.on]? = some o' := ⟨_, List.getElem?_eq_getElem (by omega)⟩
      exact ih e.on hlt o' ho' (hC e.on o' ho' (hp e he hbe)) i hc

/-! what is asked of a region's text -/
def forcedAt (C : List Nat) (j : Nat) : Bool := Nat.beq (Nat.land (C.getD j 0) (2 ^ j - 1)) (2 ^ j - 1)
theorem forcedAt_bit {C : List Nat} {j : Nat} (h : forcedAt C j = true) : ∀ i, i < j → (C.getD j 0).testBit i = true := by
  intro i hi
  have h1 : C.getD j 0 &&& (2 ^ j - 1) = 2 ^ j - 1 := Nat.eq_of_beq_eq_true h
  have h2 := congrArg (fun x => x.testBit i) h1
  simp only [Nat.testBit_and, Nat.testBit_two_pow_sub_one, hi, decide_true, Bool.and_true] at h2
  exact h2
def dstIs (o : Oper) (t : Nat) : Bool := Option.rec (motive := fun _ => Bool) false (fun d => Nat.beq d t) o.dst
theorem dstIs_of {o : Oper} {t : Nat} (h : o.dst = some t) : dstIs o t = true := by
  unfold dstIs; rw [h]; simp
def dstOk (l : List Oper) (n : Nat) : Bool := l.all fun o => match o.dst with
  | some d => Nat.blt d n
  | none => true
def pairOk (C : List Nat) (i j : Nat) : Bool := match Nat.beq i j with
  | true => true
  | false => match Nat.blt i j with
    | true => (C.getD j 0).testBit i
    | false => (C.getD i 0).testBit j
def oneDst (l : List (Oper × Nat)) (j : Nat) : Option Tmp → Bool
  | some d => l.all fun q => match dstIs q.1 d with
    | false => true
    | true => Nat.beq q.2 j
  | none => true
def lookAll (C : List Nat) (l : List (Oper × Nat)) (j : Nat) : List Nat → Bool
  | [] => true
  | t :: ts => match l.all fun q => match dstIs q.1 t with
      | false => true
      | true => pairOk C q.2 j with
    | true => lookAll C l j ts
    | false => false
theorem lookAll_mem {C : List Nat} {l : List (Oper × Nat)} {j : Nat} : ∀ {ts : List Nat}, lookAll C l j ts = true → ∀ t ∈ ts, ∀ q ∈ l, dstIs q.1 t = true → pairOk C q.2 j = true
  | [], h, t, ht => by simp at ht
  | u :: ts, h, t, ht => by
    simp only [lookAll] at h
    split at h
    · rename_i hu
      rcases List.mem_cons.1 ht with rfl | ht
      · intro q hq hd
        have := List.all_eq_true.1 hu q hq
        simp only [hd] at this
        exact this
      · exact lookAll_mem h t ht
    · cases h
def lookOk (ops : Array Oper) (C : List Nat) (p : Nat) : Bool := (ops.toList.take p).zipIdx.all fun a => match oneDst (ops.toList.take p).zipIdx a.2 a.1.dst with
  | true => lookAll C (ops.toList.take p).zipIdx a.2 (a.1.looksAt ops)
  | false => false
def backOk (l : List Oper) : Bool := l.zipIdx.all fun p => !isSelect p.1.op && p.1.after.toList.all fun e => !Region.binds .any e || Nat.blt e.on p.2
def drawOK (P : Program) (ops : Array Oper) (n p : Nat) : Bool :=
  P.follows .mixedOrders && dstOk ops.toList n && lookOk ops (closL ops.toList []) p && backOk ops.toList && (List.range ops.toList.length).all fun j => Nat.blt j p || forcedAt (closL ops.toList []) j
/-- how many operations need not wait for all before them -/
def freeN (ops : Array Oper) : Nat :=
  ops.toList.length - ((((List.range ops.toList.length).map (forcedAt (closL ops.toList []))).reverse).takeWhile id).length
structure Text (P : Program) (ops : Array Oper) (n p : Nat) : Prop where
  mixed : P.follows .mixedOrders = true
  dlt : ∀ (j : Nat) (o : Oper) (d : Nat), ops.toList[j]? = some o → o.dst = some d → d < n
  duq : ∀ (i j : Nat) (o o' : Oper) (d : Nat), i < p → j < p → ops.toList[i]? = some o → ops.toList[j]? = some o' → o.dst = some d → o'.dst = some d → i = j
  look : ∀ (j i : Nat) (o o' : Oper) (t : Nat), i < p → j < p → ops.toList[j]? = some o → ops.toList[i]? = some o' → t ∈ o.looksAt ops → o'.dst = some t → i = j ∨ (i < j ∧ ((closL ops.toList []).getD j 0).testBit i = true) ∨ (j < i ∧ ((closL ops.toList []).getD i 0).testBit j = true)
  sel : ∀ (j : Nat) (o : Oper), ops.toList[j]? = some o → ∀ cs b, o.op ≠ .select cs b
  back : ∀ (j : Nat) (o : Oper), ops.toList[j]? = some o → ∀ e ∈ o.after.toList, Region.binds .any e = true → e.on < j
  forced : ∀ j, p ≤ j → j < ops.toList.length → ∀ i, i < j → ((closL ops.toList []).getD j 0).testBit i = true
theorem blt_lt {a b : Nat} (h : Nat.blt a b = true) : a < b := by
  have : a + 1 ≤ b := by simpa [Nat.blt] using h
  omega
theorem text_of {P : Program} {ops : Array Oper} {n p : Nat} (h : drawOK P ops n p = true) : Text P ops n p := by
  unfold drawOK at h
  simp only [Bool.and_eq_true] at h
  obtain ⟨⟨⟨⟨h1, h2⟩, h3⟩, h4⟩, h5⟩ := h
  have mem : ∀ {j : Nat} {o : Oper}, ops.toList[j]? = some o → (o, j) ∈ ops.toList.zipIdx := fun h => List.mem_zipIdx_iff_getElem?.2 h
  have mem2 : ∀ {j : Nat} {o : Oper}, j < p → ops.toList[j]? = some o → (o, j) ∈ (ops.toList.take p).zipIdx := fun hj h => List.mem_zipIdx_iff_getElem?.2 (by rw [List.getElem?_take, if_pos hj]; exact h)
  have row : ∀ {j : Nat} {o : Oper}, j < p → ops.toList[j]? = some o → oneDst (ops.toList.take p).zipIdx j o.dst = true ∧ lookAll (closL ops.toList []) (ops.toList.take p).zipIdx j (o.looksAt ops) = true := fun {j o} hj ho => by
    have := List.all_eq_true.1 h3 _ (mem2 hj ho)
    split at this
    · rename_i h; exact ⟨h, this⟩
    · cases this
  refine ⟨h1, fun j o d ho hd => ?_, fun i j o o' d hi hj ho ho' hd hd' => ?_, fun j i o o' t hi hj ho ho' ht hd => ?_, fun j o ho cs b e => ?_, fun j o ho e he hb => ?_, fun j hj hl i hi => ?_⟩
  · have := List.all_eq_true.1 h2 o (List.mem_of_getElem? ho)
    simp only [hd] at this
    exact blt_lt this
  · have := (row hj ho').1
    rw [hd'] at this
    have := List.all_eq_true.1 this _ (mem2 hi ho)
    simp only [dstIs_of hd] at this
    exact Nat.eq_of_beq_eq_true this
  · have := lookAll_mem (row hj ho).2 t ht _ (mem2 hi ho') (dstIs_of hd)
    unfold pairOk at this
    split at this
    · rename_i hb; exact .inl (Nat.eq_of_beq_eq_true hb)
    · rename_i hb
      split at this
      · rename_i hlt; exact .inr (.inl ⟨blt_lt hlt, this⟩)
      · rename_i hlt
        refine .inr (.inr ⟨?_, this⟩)
        have h1 : ¬ i < j := fun h => by
          have : Nat.blt i j = true := by simp [Nat.blt]; omega
          rw [this] at hlt; cases hlt
        have h2 : i ≠ j := fun h => by rw [h] at hb; simp at hb
        omega
  · have := List.all_eq_true.1 h4 _ (mem ho)
    simp [e, isSelect] at this
  · have := List.all_eq_true.1 h4 _ (mem ho)
    simp only [Bool.and_eq_true] at this
    have := List.all_eq_true.1 this.2 e he
    simp only [hb, Bool.not_true, Bool.false_or] at this
    exact blt_lt this
  · have := List.all_eq_true.1 h5 j (by simpa using hl)
    simp only [Bool.or_eq_true] at this
    rcases this with a | a
    · have := blt_lt a; omega
    · exact forcedAt_bit a i hi

/-! the operations that may come in any order -/
def qV (P : Program) (ih : Ih) (all : Array Oper) : List Oper → Ts → St → Option (Ts × St)
  | [], ts, σ => some (ts, σ)
  | o :: rest, ts, σ => if wantedV all ts o then match opV P ih ts { σ with wr := 65536 } o with
      | some (v, s1) => if σ.size ≤ s1.wr then qV P ih all rest (putV ts o.dst v) { s1 with wr := min σ.wr s1.wr } else none
      | none => none
    else qV P ih all rest (putV ts o.dst undef) σ
def QStep (P : Program) (ih : Ih) (all : Array Oper) (o : Oper) (ts : Ts) (σ : St) (v : Value) (ts' : Ts) (σ' : St) : Prop :=
  ts' = putV ts o.dst v ∧ ((wantedV all ts o = true ∧ ∃ s1, opV P ih ts { σ with wr := 65536 } o = some (v, s1) ∧ σ.size ≤ s1.wr ∧ σ' = { s1 with wr := min σ.wr s1.wr }) ∨ (wantedV all ts o = false ∧ v = undef ∧ σ' = σ))
theorem qV_run {P : Program} {ih : Ih} {all : Array Oper} : ∀ (l : List Oper) (ts : Ts) (σ : St) (ts' : Ts) (σ' : St), qV P ih all l ts σ = some (ts', σ') →
    ∃ (tf : Nat → Ts) (sf : Nat → St) (vf : Nat → Value), tf 0 = ts ∧ sf 0 = σ ∧ tf l.length = ts' ∧ sf l.length = σ' ∧ ∀ j o, l[j]? = some o → QStep P ih all o (tf j) (sf j) (vf j) (tf (j + 1)) (sf (j + 1))
  | [], ts, σ, ts', σ', h => by
    simp [qV] at h
    obtain ⟨rfl, rfl⟩ := h
    exact ⟨fun _ => ts, fun _ => σ, fun _ => undef, rfl, rfl, rfl, rfl, fun j o h => by simp at h⟩
  | o :: rest, ts, σ, ts', σ', h => by
    have build : ∀ (v : Value) (ts1 : Ts) (s1 : St), QStep P ih all o ts σ v ts1 s1 → qV P ih all rest ts1 s1 = some (ts', σ') →
        ∃ (tf : Nat → Ts) (sf : Nat → St) (vf : Nat → Value), tf 0 = ts ∧ sf 0 = σ ∧ tf (o :: rest).length = ts' ∧ sf (o :: rest).length = σ' ∧ ∀ j o', (o :: rest)[j]? = some o' → QStep P ih all o' (tf j) (sf j) (vf j) (tf (j + 1)) (sf (j + 1)) := by
      intro v ts1 s1 hq hr
      obtain ⟨tf, sf, vf, a1, a2, a3, a4, a5⟩ := qV_run rest ts1 s1 ts' σ' hr
      refine ⟨fun j => match j with | 0 => ts | j + 1 => tf j, fun j => match j with | 0 => σ | j + 1 => sf j, fun j => match j with | 0 => v | j + 1 => vf j, rfl, rfl, a3, a4, fun j o' hj => ?_⟩
      cases j with
      | zero =>
        simp at hj
        subst hj
        show QStep P ih all o ts σ v (tf 0) (sf 0)
        rw [a1, a2]; exact hq
      | succ j => exact a5 j o' (by simpa using hj)
    simp only [qV] at h
    split at h
    · rename_i hw
      split at h
      · rename_i v s1 ho
        split at h
        · rename_i hs
          exact build v _ _ ⟨rfl, .inl ⟨hw, s1, ho, hs, rfl⟩⟩ h
        · cases h
      · cases h
    · rename_i hw
      exact build undef _ _ ⟨rfl, .inr ⟨by simpa using hw, rfl, rfl⟩⟩ h
structure Keeps (σ σ' : St) : Prop where
  size : σ.size ≤ σ'.size
  wr : σ'.wr ≤ σ.wr
  same : ∀ k, k < σ.size → σ'.getB k = σ.getB k
  wf : WfB σ → WfB σ'
theorem Keeps.refl (σ : St) : Keeps σ σ := ⟨Nat.le_refl _, Nat.le_refl _, fun _ _ => rfl, fun h => h⟩
theorem Keeps.trans {a b c : St} (h : Keeps a b) (k : Keeps b c) : Keeps a c :=
  ⟨Nat.le_trans h.size k.size, Nat.le_trans k.wr h.wr, fun i hi => (k.same i (Nat.lt_of_lt_of_le hi h.size)).trans (h.same i hi), fun w => k.wf (h.wf w)⟩
theorem QStep.keeps {P : Program} {ih : Ih} (hC : CanonOk ih) {all : Array Oper} {o : Oper} {ts ts' : Ts} {σ σ' : St} {v : Value} (h : QStep P ih all o ts σ v ts' σ') : Keeps σ σ' := by
  obtain ⟨_, ⟨_, s1, h1, h2, rfl⟩ | ⟨_, _, rfl⟩⟩ := h
  · have hc := canon_op hC h1
    exact ⟨hc.size, Nat.min_le_left _ _, fun k hk => hc.same k hk (Nat.lt_of_lt_of_le hk h2), fun hw => hc.wf hw⟩
  · exact Keeps.refl _
theorem Rel.up {μ : Mu} {σ σ' : St} {w : World} (h : Rel μ σ w) (hk : Keeps σ σ') (hf : Fresh μ σ σ') : Rel μ σ' w := by
  have hwf := hk.wf h.wf
  have down : ∀ k B L, σ'.getB k = some B → μ k = some L → σ.getB k = some B := fun k B L hB hL => by
    rcases Nat.lt_or_ge k σ.size with h1 | h1
    · rw [← hk.same k h1]; exact hB
    · rw [hf k h1 (hwf k B hB)] at hL; cases hL
  exact ⟨hwf, fun k B L hB hL => h.blk k B L (down k B L hB hL) hL, fun k k' B B' L L' h1 h2 hne h3 h4 h5 => h.apart k k' B B' L L' (down _ _ _ h1 h3) (down _ _ _ h2 h4) hne h3 h4 h5⟩
theorem Rel.down {μ : Mu} {σ σ' : St} {w : World} (h : Rel μ σ' w) (hk : Keeps σ σ') (hw : WfB σ) : Rel μ σ w := by
  have up : ∀ k B, σ.getB k = some B → σ'.getB k = some B := fun k B hB => by rw [hk.same k (hw k B hB)]; exact hB
  exact ⟨hw, fun k B L hB hL => h.blk k B L (up k B hB) hL, fun k k' B B' L L' h1 h2 hne h3 h4 h5 => h.apart k k' B B' L L' (up _ _ h1) (up _ _ h2) hne h3 h4 h5⟩
end
end Go.Proofs.Ytadamjleglckpaa.ev

