/- The reckoner: what it reckons the model does. Calls and straight regions. -/
import Derived.Scope
import Derived.Test.YtcllgicphjmamaaGreatKv8
namespace Go.Proofs.YtcllgicphjmamaaGreat.ev
noncomputable section
open Go.RowKit
set_option linter.unusedSimpArgs false
set_option linter.unusedVariables false
set_option linter.unusedSectionVars false
variable [Kn]

def SizeOk (ih : Ih) : Prop := ∀ c ts σ ex ts' σ', ih c ts σ = some (ex, ts', σ') → σ.size ≤ σ'.size
def Fresh (μ : Mu) (σ σ' : St) : Prop := ∀ j, σ.size ≤ j → j < σ'.size → μ j = none
def Ends (μ : Mu) (σ : St) (w : World) (ts' : Ts) (σ' : St) (a' : Act) (w' : World) : Prop := ∃ μ', TRel μ' ts' a' ∧ Rel μ' σ' w' ∧ Step μ μ' σ σ' w w'
def KnOk (P : Program) : Prop := ∀ g args r, Kn.val g args = some r → flatL args = true ∧ flat r = true ∧ ∀ w, Calls P g args.toArray w fun e w' => e = .returned r ∧ Below w.heap.size w w'
structure Sound (P : Program) (ih : Ih) : Prop where
  kn : KnOk P
  run : ∀ c ts σ ex ts' σ', ih c ts σ = some (ex, ts', σ') → ∀ μ a w, TRel μ ts a → Rel μ σ w → Fresh μ σ σ' →
  c.wp P (fun e a' w' => e = ex.of ∧ Ends μ σ w ts' σ' a' w') a w
instance {P : Program} {ih : Ih} : CoeFun (Sound P ih) (fun _ => ∀ c ts σ ex ts' σ', ih c ts σ = some (ex, ts', σ') → ∀ μ a w, TRel μ ts a → Rel μ σ w → Fresh μ σ σ' →
  c.wp P (fun e a' w' => e = ex.of ∧ Ends μ σ w ts' σ' a' w') a w) := ⟨Sound.run⟩
theorem BRel.below {μ : Mu} {w w' : World} {B : Blk} {L : Loc} (h : BRel μ w B L) (hb : Below w.heap.size w w') : BRel μ w' B L := h.mono (Mu.le.refl μ) (hb.block _ h.lt)
theorem Rel.below {μ : Mu} {σ : St} {w w' : World} (h : Rel μ σ w) (hb : Below w.heap.size w w') : Rel μ σ w' := ⟨h.wf, fun k B L hk hL => (h.blk k B L hk hL).below hb, h.apart⟩
theorem Step.of_below {μ : Mu} {σ : St} {w w' : World} (hb : Below w.heap.size w w') : Step μ μ σ σ w w' :=
  ⟨Mu.le.refl _, fun _ _ h => .inl h, Nat.le_refl _, Nat.le_refl _, hb.size, hb.os, hb.tape, hb.output, fun b hlt _ => hb.block b hlt, fun _ _ _ => rfl⟩
theorem Step.fresh {μ μ1 : Mu} {σ σ1 σ2 : St} {w w1 : World} (h : Step μ μ1 σ σ1 w w1) (hf : Fresh μ σ σ2) : Fresh μ1 σ1 σ2 := fun j h1 h2 => by
  cases hj : μ1 j with
  | none => rfl
  | some L =>
    exfalso
    have := h.size
    rcases h.dom j L hj with a | ⟨_, b, _⟩
    · rw [hf j (by omega) h2] at a; cases a
    · omega
theorem Fresh.mono {μ : Mu} {σ σ1 σ2 : St} (h : Fresh μ σ σ2) (hs : σ1.size ≤ σ2.size) : Fresh μ σ σ1 := fun j a b => h j a (by omega)

/-! calls -/
def resV (tmps : Array Value) : ResultVar → Sem Value
  | .tmp t => pure (tmps.getD t undef)
  | .cell p t => do loadVar t (← asAddr (tmps.getD p undef))
theorem results_eq (fn : Func) (tmps : Array Value) : results fn tmps = (do let vs ← fn.results.mapM (resV tmps); pure (if h : vs.size = 1 then vs[0] else .tuple vs)) := by
  unfold results
  congr
theorem results_run {P : Program} {μ : Mu} {σ : St} {w : World} {ts : Ts} {a : Act} (hT : TRel μ ts a) (hR : Rel μ σ w) : ∀ (l : List ResultVar) (r : List Value), resultsV P σ ts l = some r →
    ∃ r', (l.mapM (resV a.tmps)).run P w = .ok r' w ∧ LRel μ r r'
  | [], r, h => by
    simp [resultsV] at h
    subst h
    exact ⟨[], by simp, .nil⟩
  | .tmp t :: l, r, h => by
    simp only [resultsV] at h
    split at h
    · rename_i r0 hr0
      simp only [Option.some.injEq] at h
      subst h
      obtain ⟨r', h1, h2⟩ := results_run hT hR l r0 hr0
      have hv := hT.get t
      refine ⟨a.tmps.getD t undef :: r', ?_, .cons _ _ _ _ (by simpa using hv) h2⟩
      simp only [List.mapM_cons, resV, Sem.run_bind, Sem.run_pure, Result.andThen_ok, h1]
    · cases h
  | .cell p ty :: l, r, h => by
    simp only [resultsV] at h
    split at h
    · rename_i k o hp
      split at h
      · rename_i v r0 hv hr0
        simp only [Option.some.injEq] at h
        subst h
        obtain ⟨r', h1, h2⟩ := results_run hT hR l r0 hr0
        have hpr := hT.get p
        rw [hp] at hpr
        obtain ⟨L, hL, hxx⟩ := ptr_inv hpr
        obtain ⟨v', g1, g2⟩ := loadB_does (w := w) hR hL hv
        refine ⟨v' :: r', ?_, .cons _ _ _ _ g2 h2⟩
        have hxx' : a.tmps.getD p undef = .pointer (some ⟨L.blk, o + L.sh, none⟩) := by simpa using hxx
        have hc : (resV a.tmps (.cell p ty)).run P w = .ok v' w := by
          simp only [resV, hxx', asAddr, Sem.run_bind, Sem.run_pure, Result.andThen_ok, g1]
        simp only [List.mapM_cons, Sem.run_bind, hc, Sem.run_pure, Result.andThen_ok, h1]
      · cases h
    · cases h
theorem oneOf_rel {μ : Mu} {r r' : List Value} (h : LRel μ r r') : VRel μ (oneOf r) (if h : r'.toArray.size = 1 then r'.toArray[0] else .tuple r'.toArray) := by
  cases h with
  | nil => simpa [oneOf] using VRel.tuple (μ := μ) [] [] .nil
  | cons v v' l l' hv hl =>
    cases hl with
    | nil => simpa [oneOf] using hv
    | cons u u' m m' hu hm => simpa [oneOf] using VRel.tuple (μ := μ) _ _ (.cons _ _ _ _ hv (.cons _ _ _ _ hu hm))
theorem results_ok {P : Program} {μ : Mu} {σ : St} {w : World} {ts : Ts} {a : Act} {fn : Func} {r : List Value} (hT : TRel μ ts a) (hR : Rel μ σ w) (h : resultsV P σ ts fn.results.toList = some r) :
    ∃ v', (results fn a.tmps).run P w = .ok v' w ∧ VRel μ (oneOf r) v' := by
  obtain ⟨r', h1, h2⟩ := results_run hT hR _ _ h
  refine ⟨_, ?_, oneOf_rel h2⟩
  rw [results_eq]
  simp only [Array.mapM_eq_mapM_toList, Sem.run_bind, Sem.run_map, Sem.run_pure, h1, Result.andThen_ok]
def Gives (μ : Mu) (σ : St) (w : World) (v : Value) (σ' : St) (e : Ending) (w' : World) : Prop := ∃ μ' v', e = .returned v' ∧ VRel μ' v v' ∧ Rel μ' σ' w' ∧ Step μ μ' σ σ' w w'
theorem lrel_replicate (μ : Mu) : ∀ n, LRel μ (List.replicate n undef) (List.replicate n undef)
  | 0 => .nil
  | n + 1 => .cons _ _ _ _ (vrel_undef μ) (lrel_replicate μ n)
theorem fillT_get {μ : Mu} : ∀ (l l' : List Value) (k : Nat) (ts : Ts), LRel μ l l' → ts.n ≤ 2 ^ ts.d → k + l.length ≤ ts.n →
    (fillT k l ts).n = ts.n ∧ (fillT k l ts).d = ts.d ∧ ∀ t, (t < k ∨ k + l.length ≤ t → getT (fillT k l ts) t = getT ts t) ∧ (k ≤ t → t < k + l.length → VRel μ (getT (fillT k l ts) t) (l'.getD (t - k) undef))
  | [], l', k, ts, h, hd, hn => ⟨rfl, rfl, fun t => ⟨fun _ => rfl, fun a b => by simp at b; omega⟩⟩
  | v :: l, l', k, ts, h, hd, hn => by
    cases h with
    | cons _ v' _ l2 hv hl =>
      simp only [List.length_cons] at hn
      obtain ⟨s1, s2⟩ := setT_n ts k v
      obtain ⟨i1, i2, i3⟩ := fillT_get l l2 (k + 1) (setT ts k v) hl (by rw [s1, s2]; exact hd) (by rw [s1]; omega)
      refine ⟨i1.trans s1, i2.trans s2, fun t => ⟨fun ht => ?_, fun h1 h2 => ?_⟩⟩
      · simp only [List.length_cons] at ht
        show getT (fillT (k + 1) l (setT ts k v)) t = _
        rw [(i3 t).1 (by omega), getT_setT ts hd k t v (by omega), if_neg (by omega)]
      · simp only [List.length_cons] at h2
        show VRel μ (getT (fillT (k + 1) l (setT ts k v)) t) _
        by_cases e : t = k
        · subst e
          rw [(i3 t).1 (by omega), getT_setT ts hd t t v (by omega), if_pos rfl]
          simpa using hv
        · have := (i3 t).2 (by omega) (by omega)
          rw [show t - k = (t - (k + 1)) + 1 by omega]
          simpa using this
theorem frameT_rel {μ : Mu} {args : List Value} {args' : Array Value} {n : Nat} (h : LRel μ args args'.toList) (hn : args.length ≤ n) (hcap : n ≤ 512) : TRel μ (frameT n args) { tmps := args' ++ Array.replicate (n - args'.size) undef, defers := [] } := by
  have hl := h.length
  simp only [Array.length_toList] at hl
  have hsn : (slots0 n).n = n := by rw [slots0_eq]
  have hd : (slots0 n).n ≤ 2 ^ (slots0 n).d := by rw [hsn]; exact hcap
  obtain ⟨i1, i2, i3⟩ := fillT_get args args'.toList 0 (slots0 n) h hd (by rw [hsn]; omega)
  rw [hsn] at i1 hd
  refine ⟨by rw [frameT, i1]; simp; omega, by rw [frameT, i1, i2]; exact hd, fun t ht => ?_, rfl⟩
  rw [frameT, i1] at ht
  by_cases ha : t < args.length
  · have := (i3 t).2 (by omega) (by omega)
    have e : (args' ++ Array.replicate (n - args'.size) undef).getD t undef = args'.toList.getD t undef := by
      simp only [Array.getD_eq_getD_getElem?, List.getD_eq_getElem?_getD, Array.getElem?_toList]
      rw [Array.getElem?_append_left (by omega)]
    show VRel μ _ ((args' ++ Array.replicate (n - args'.size) undef).getD t undef)
    rw [e]
    exact this
  · have e1 : getT (frameT n args) t = undef := by
      show getT (fillT 0 args _) t = undef
      rw [(i3 t).1 (by omega)]
      exact getT_slots0 hcap t
    have e2 : (args' ++ Array.replicate (n - args'.size) undef).getD t undef = undef := by
      simp only [Array.getD_eq_getD_getElem?]
      rw [Array.getElem?_append_right (by omega), Array.getElem?_replicate]
      split <;> rfl
    rw [e1]
    show VRel μ undef ((args' ++ Array.replicate (n - args'.size) undef).getD t undef)
    rw [e2]
    exact vrel_undef μ
theorem callF_calls {P : Program} {ih : Ih} (hS : Sound P ih) {g : FuncId} {args : List Value} {σ σ' : St} {v : Value} (h : callF P ih g args σ = some (v, σ')) {μ : Mu} {args' : Array Value} {w : World} (ha : LRel μ args args'.toList) (hR : Rel μ σ w) (hf : Fresh μ σ σ') :
    Calls P g args' w (Gives μ σ w v σ') := by
  unfold callF at h
  split at h
  case h_2 => cases h
  rename_i fd hfd
  split at h
  · rename_i r hr
    simp only [Option.some.injEq, Prod.mk.injEq] at h
    obtain ⟨rfl, rfl⟩ := h
    obtain ⟨k1, k2, k3⟩ := hS.kn g args _ hr
    have : args' = args.toArray := by rw [← flatL_eq ha k1]
    subst this
    refine (k3 w).mono ?_
    rintro e w' ⟨rfl, hb⟩
    exact ⟨μ, _, rfl, flat_rel μ k2, hR.below hb, Step.of_below hb⟩
  unfold callK at h
  unfold fdOf at hfd
  split at hfd
  case h_2 => cases hfd
  rename_i fn hfn
  split at hfd
  case h_2 => cases hfd
  rename_i c hc
  split at hfd
  · cases hfd
  simp only [Option.some.injEq] at hfd
  subst hfd
  simp only at h
  have hl := ha.length
  simp only [Array.length_toList] at hl
  refine calls_of_wp hfn hc ?_
  split at h
  · cases h
  rename_i hble
  obtain ⟨hle, hcap⟩ := okF_le hble
  have hT : TRel μ (frameT fn.ntmps args) { tmps := args' ++ Array.replicate (fn.ntmps - args'.size) undef, defers := [] } := frameT_rel ha (by omega) hcap
  split at h
  · rename_i ts s1 hih
    split at h
    case h_2 => cases h
    rename_i l hres
    simp only [Option.some.injEq, Prod.mk.injEq] at h
    obtain ⟨rfl, rfl⟩ := h
    refine Code.wp_mono ?_ (hS _ _ _ _ _ _ hih μ _ w hT hR hf)
    rintro e a' w' ⟨rfl, μ', t1, t2, t3⟩
    obtain ⟨v', r1, r2⟩ := results_ok t1 t2 hres
    exact ⟨t1.df, v', r1, μ', v', rfl, r2, t2, t3⟩
  · rename_i ts s1 hih
    split at h
    case h_2 => cases h
    rename_i l hres
    simp only [Option.some.injEq, Prod.mk.injEq] at h
    obtain ⟨rfl, rfl⟩ := h
    refine Code.wp_mono ?_ (hS _ _ _ _ _ _ hih μ _ w hT hR hf)
    rintro e a' w' ⟨rfl, μ', t1, t2, t3⟩
    obtain ⟨v', r1, r2⟩ := results_ok t1 t2 hres
    exact ⟨t1.df, v', r1, μ', v', rfl, r2, t2, t3⟩
  · cases h

/-! an operation -/
theorem callOf_run {P : Program} {ih : Ih} {μ : Mu} {ts : Ts} {a : Act} {o : Oper} {g : FuncId} {args : List Value} {σ σ' : St} {v : Value} (hT : TRel μ ts a) (h : callOf P ts o = some (g, args)) (hc : callF P ih g args σ = some (v, σ')) (w : World) :
    ∃ args' : Array Value, (execOp a.eval o).run P w = .ok (.enter g args') w ∧ LRel μ args args'.toList := by
  have hfn : ∃ fn, P.funcs[g]? = some fn ∧ fn.body.isNone = false ∧ (fn.name == "runtime.NumGoroutine") = false := by
    unfold callF at hc
    split at hc
    case h_2 => cases hc
    rename_i fd hfd
    unfold fdOf at hfd
    split at hfd
    case h_2 => cases hfd
    rename_i fn hfn
    split at hfd
    case h_2 => cases hfd
    rename_i c hb
    split at hfd
    · cases hfd
    · rename_i hn
      exact ⟨fn, hfn, by simp [hb], by simpa using hn⟩
  obtain ⟨fn, f1, f2, f3⟩ := hfn
  have hcf : ∀ args' : Array Value, (callFunc g args').run P w = .ok (.enter g args') w := fun args' => by
    simp only [callFunc, Sem.run_bind, run_program, Result.andThen_ok, f1, f3, f2, Bool.false_eq_true, if_false, Sem.run_pure]
  unfold callOf at h
  split at h
  case h_2 => cases h
  rename_i c ho
  split at h
  · rename_i f hcal
    split at h
    case h_2 => cases h
    rename_i g0 first captured hf
    split at h
    case isFalse => cases h
    rename_i hok
    simp only [Option.some.injEq, Prod.mk.injEq] at h
    obtain ⟨rfl, rfl⟩ := h
    obtain ⟨first', captured', hff, l1, l2⟩ := func_inv (evo_rel hT hf)
    refine ⟨first' ++ c.args.map a.eval ++ captured', ?_, ?_⟩
    · simp only [execOp, ho, resolve, hcal, Deferred.ofValue, hff, pure_bind, invoke, hcf]
    · have := (l1.append (oksL_rel hT _ hok)).append l2
      simpa using this
  · rename_i recv name hcal
    split at h
    case h_2 => cases h
    rename_i t u hrecv
    split at h
    case isFalse => cases h
    rename_i hok
    simp only [Bool.and_eq_true] at hok
    split at h
    case h_2 => cases h
    rename_i g0 rc hm
    split at h
    case isFalse => cases h
    rename_i hfl
    simp only [Option.some.injEq, Prod.mk.injEq] at h
    obtain ⟨rfl, rfl⟩ := h
    obtain ⟨u', huu, hvu⟩ := iface_inv (evo_rel hT hrecv)
    have : u' = u := flat_eq hok.1 hvu
    subst this
    refine ⟨#[rc] ++ c.args.map a.eval, ?_, ?_⟩
    · have hex : (#[a.eval recv] ++ c.args.map a.eval).extract 1 (#[a.eval recv] ++ c.args.map a.eval).size = c.args.map a.eval := by
        apply Array.ext'
        simp
        rw [List.take_of_length_le (by simp)]
      have h0 : (#[a.eval recv] ++ c.args.map a.eval)[0]? = some (.iface t u') := by
        rw [huu, Array.getElem?_append_left (by simp)]; rfl
      simp only [execOp, ho, resolve, hcal, pure_bind, invoke]
      rw [h0, hex]
      simp only [callMethod, Sem.run_bind, run_program, Result.andThen_ok, pureRun_run hm w, hcf]
    · have := LRel.cons (μ := μ) _ _ _ _ (flat_rel μ hfl) (oksL_rel hT _ hok.2)
      simpa using this
  · cases h
theorem opV_wp {P : Program} {ih : Ih} (hS : Sound P ih) {ts : Ts} {σ σ' : St} {o : Oper} {v : Value} (h : opV P ih ts σ o = some (v, σ')) {μ : Mu} {a : Act} {w : World} (hT : TRel μ ts a) (hR : Rel μ σ w) (hf : Fresh μ σ σ') {K : Act → World → Prop} {Q : Exit → Act → World → Prop}
    (hK : ∀ μ' v' w', VRel μ' v v' → Rel μ' σ' w' → Step μ μ' σ σ' w w' → K (a.put o.dst v') w') : o.wp P a w K Q := by
  unfold opV at h
  split at h
  · rename_i g args hc
    obtain ⟨args', h1, h2⟩ := callOf_run hT hc h w
    unfold Oper.wp
    rw [h1, Oper.upon_enter]
    refine (callF_calls hS h h2 hR hf).mono ?_
    rintro e w' ⟨μ', v', rfl, g1, g2, g3⟩
    exact hK μ' v' w' g1 g2 g3
  · obtain ⟨μ', r', w', n, h1, h2, h3, h4, h5⟩ := exec_does hT hR h hf
    unfold Oper.wp
    rw [h1]
    rcases h2 with rfl | ⟨rfl, rfl⟩
    · exact hK μ' r' w' h3 h4 h5
    · exact hK μ' undef w' h3 h4 h5
theorem wantedV_eq {μ : Mu} {ts : Ts} {a : Act} (hT : TRel μ ts a) (all : Array Oper) (o : Oper) : Region.wanted o (yielded all a.tmps) = wantedV all ts o := by
  unfold Region.wanted wantedV
  cases hg : o.guard with
  | none => rfl
  | some jw =>
    obtain ⟨j, want⟩ := jw
    simp only
    unfold yielded
    cases hd : ((all[j]?).bind (·.dst)) with
    | none => rfl
    | some d =>
      simp only [Option.bind_some]
      have hv := hT.get d
      cases hx : a.tmps[d]? with
      | none =>
        have e : a.tmps.getD d undef = undef := by rw [Array.getD_eq_getD_getElem?, hx]; rfl
        rw [e] at hv
        generalize getT ts d = u at hv
        cases hv <;> rfl
      | some x =>
        have e : a.tmps.getD d undef = x := by rw [Array.getD_eq_getD_getElem?, hx]; rfl
        rw [e] at hv
        generalize getT ts d = u at hv
        cases hv with
        | sc h => cases x <;> rfl
        | _ => rfl

/-! a region in the order of its text -/
theorem opsV_size {P : Program} {ih : Ih} {all : Array Oper} : ∀ (l : List Oper) (ts : Ts) (σ : St) (ts' : Ts) (σ' : St), opsV P ih all l ts σ = some (ts', σ') → σ.size ≤ σ'.size
  | [], ts, σ, ts', σ', h => by simp [opsV] at h; obtain ⟨_, rfl⟩ := h; exact Nat.le_refl _
  | o :: rest, ts, σ, ts', σ', h => by
    simp only [opsV] at h
    split at h
    · split at h
      · rename_i v s1 ho
        split at h
        · rename_i hs
          exact Nat.le_trans hs (opsV_size rest _ _ _ _ h)
        · cases h
      · cases h
    · exact opsV_size rest _ _ _ _ h
theorem opsV_wp {P : Program} {ih : Ih} (hS : Sound P ih) {all : Array Oper} {Q : Exit → Act → World → Prop} : ∀ (l : List Oper) (ts : Ts) (σ : St) (ts' : Ts) (σ' : St), opsV P ih all l ts σ = some (ts', σ') → ∀ (μ : Mu) (a : Act) (w : World), TRel μ ts a → Rel μ σ w → Fresh μ σ σ' →
    (∀ a' w', Ends μ σ w ts' σ' a' w' → Q .normal a' w') → wpList P all Q l a w
  | [], ts, σ, ts', σ', h, μ, a, w, hT, hR, hf, hQ => by
    simp [opsV] at h
    obtain ⟨rfl, rfl⟩ := h
    exact hQ a w ⟨μ, hT, hR, Step.refl _ _ _⟩
  | o :: rest, ts, σ, ts', σ', h, μ, a, w, hT, hR, hf, hQ => by
    simp only [opsV] at h
    have hw := wantedV_eq hT all o
    refine wpList_step fun K hK => ?_
    split at h
    · rename_i hwt
      rw [if_pos (by rw [hw]; exact hwt)]
      split at h
      case h_2 => cases h
      rename_i v s1 ho
      split at h
      case isFalse => cases h
      rename_i hs
      have hs2 := opsV_size rest _ _ _ _ h
      refine opV_wp hS ho hT hR (hf.mono hs2) fun μ' v' w' g1 g2 g3 => ?_
      refine hK _ _ (opsV_wp hS rest _ _ _ _ h μ' _ w' ((hT.mono g3.ext).putV g1 o.dst) g2 (g3.fresh hf) ?_)
      rintro a2 w2 ⟨μ2, t1, t2, t3⟩
      exact hQ a2 w2 ⟨μ2, t1, t2, g3.trans t3⟩
    · rename_i hwt
      rw [if_neg (by rw [hw]; exact hwt)]
      exact hK _ _ (opsV_wp hS rest _ _ _ _ h μ _ w (hT.putV (vrel_undef μ) o.dst) hR hf hQ)

/-! code -/
def DrawAt (P : Program) (draw : Ih → Array Oper → Ts → St → Option (Ts × St)) (ih : Ih) : Prop :=
  ∀ ops ts σ ts' σ', draw ih ops ts σ = some (ts', σ') → σ.size ≤ σ'.size ∧ ∀ (id : Nat) (μ : Mu) (a : Act) (w : World), TRel μ ts a → Rel μ σ w → Fresh μ σ σ' →
    (Code.region id ops true).wp P (fun e a' w' => e = .normal ∧ Ends μ σ w ts' σ' a' w') a w
theorem wp_loop_ind {P : Program} {c : Code} {Q : Exit → Act → World → Prop} (J : Nat → Act → World → Prop) (round : ∀ n a w, J n a w → c.wp P (Exit.then (fun a' w' => ∃ m, m < n ∧ J m a' w') Q) a w) {n : Nat} {a : Act} {w : World} (h₀ : J n a w) : (Code.loop c).wp P Q a w := by
  intro b k cs
  have key : ∀ n a w, J n a w → ∃ e a' w', Q e a' w' ∧ Arrives P (lone (b.at a (.code c :: .inLoop c :: k)) cs w) b k cs e a' w' := by
    intro n
    induction n using Nat.strongRecOn with
    | _ n ih =>
      intro a w hJ
      obtain ⟨e, a₁, w₁, hq, harr⟩ := round n a w hJ b (.inLoop c :: k) cs
      cases e with
      | normal =>
        obtain ⟨m, hm, hJ₁⟩ := hq
        obtain ⟨e₂, a₂, w₂, hq₂, harr₂⟩ := ih m hm a₁ w₁ hJ₁
        exact ⟨e₂, a₂, w₂, hq₂, .of_steps (Steps.trans harr (.one step_inLoop)) harr₂⟩
      | exit id => exact ⟨_, a₁, w₁, hq, .pass (x := .inLoop c) rfl (fun _ _ => .inl (by simp)) harr⟩
      | goto l => exact ⟨_, a₁, w₁, hq, .pass (x := .inLoop c) rfl (fun _ _ => .inl (by simp)) harr⟩
      | ret => exact ⟨_, a₁, w₁, hq, .pass (x := .inLoop c) rfl (fun _ _ => .inl (by simp)) harr⟩
      | panic ch => exact ⟨_, a₁, w₁, hq, .pass (x := .inLoop c) rfl (fun _ _ => .inl (by simp)) harr⟩
      | outgrown => exact ⟨_, a₁, w₁, hq, .pass (x := .inLoop c) rfl (fun _ _ => .inl (by simp)) harr⟩
  obtain ⟨e, a', w', hq, harr⟩ := key n a w h₀
  exact ⟨e, a', w', hq, .of_steps (.one step_loop) harr⟩
theorem stepV_sound {P : Program} {draw : Ih → Array Oper → Ts → St → Option (Ts × St)} {ih : Ih} (hd : DrawAt P draw ih) (hS : Sound P ih) (hz : SizeOk ih) (hloop : ∀ b ts σ ex ts' σ', stepV P draw ih (.loop b) ts σ = some (ex, ts', σ') → ∀ μ a w, TRel μ ts a → Rel μ σ w → Fresh μ σ σ' → (Code.loop b).wp P (fun e a' w' => e = ex.of ∧ Ends μ σ w ts' σ' a' w') a w) : Sound P (stepV P draw ih) := by
  refine ⟨hS.kn, ?_⟩
  intro c ts σ ex ts' σ' h μ a w hT hR hf
  cases c
  case loop b => exact hloop b ts σ ex ts' σ' h μ a w hT hR hf
  all_goals simp only [stepV] at h
  case skip => cases h; exact wp_skip ⟨rfl, μ, hT, hR, Step.refl _ _ _⟩
  case label => cases h; exact wp_label ⟨rfl, μ, hT, hR, Step.refl _ _ _⟩
  case exit => cases h; exact wp_exit ⟨rfl, μ, hT, hR, Step.refl _ _ _⟩
  case ret => cases h; exact wp_ret ⟨rfl, μ, hT, hR, Step.refl _ _ _⟩
  case region id ops d =>
    split at h
    case h_2 => cases h
    rename_i ts1 s1 h1
    cases h
    cases d
    · exact wp_region_list (opsV_wp hS _ _ _ _ _ h1 μ a w hT hR hf fun a' w' he => ⟨rfl, he⟩)
    · exact Code.wp_mono (fun e a' w' he => he) ((hd ops ts σ ts' σ' h1).2 id μ a w hT hR hf)
  case seq x y =>
    refine wp_seq ?_
    split at h
    · rename_i ts1 s1 h1
      have hs2 := hz _ _ _ _ _ _ h
      refine Code.wp_mono ?_ (hS _ _ _ _ _ _ h1 μ a w hT hR (hf.mono hs2))
      rintro e a1 w1 ⟨rfl, μ1, t1, t2, t3⟩
      refine Code.wp_mono ?_ (hS _ _ _ _ _ _ h μ1 a1 w1 t1 t2 (t3.fresh hf))
      rintro e a2 w2 ⟨rfl, μ2, u1, u2, u3⟩
      exact ⟨rfl, μ2, u1, u2, t3.trans u3⟩
    · rename_i hn
      refine Code.wp_mono ?_ (hS _ _ _ _ _ _ h μ a w hT hR hf)
      rintro e a1 w1 ⟨rfl, he⟩
      cases ex with
      | norm => exact absurd h (hn _ _)
      | exit id => exact ⟨rfl, he⟩
      | ret => exact ⟨rfl, he⟩
  case cond c x y =>
    split at h
    case h_2 => cases h
    rename_i t hc
    have hcc : a.eval c = .bool t := scalar_eq (by rfl) (evo_rel hT hc)
    exact wp_cond hcc (hS _ _ _ _ _ _ h μ a w hT hR hf)
  case scope b =>
    refine wp_scope_straight (Code.wp_mono ?_ (hS _ _ _ _ _ _ h μ a w hT hR hf))
    rintro e a1 w1 ⟨rfl, he⟩
    cases ex <;> exact ⟨rfl, he⟩
  case block id b =>
    refine wp_block ?_
    split at h
    · rename_i id' ts1 s1 h1
      cases h
      refine Code.wp_mono ?_ (hS _ _ _ _ _ _ h1 μ a w hT hR hf)
      rintro e a1 w1 ⟨rfl, he⟩
      simp only [Exit.inBlock, Ex.of]
      by_cases hid : id' = id
      · rw [if_pos hid]; exact ⟨by simp [hid, Ex.of], he⟩
      · rw [if_neg hid]; exact ⟨by simp [hid, Ex.of], he⟩
    · rename_i hn
      refine Code.wp_mono ?_ (hS _ _ _ _ _ _ h μ a w hT hR hf)
      rintro e a1 w1 ⟨rfl, he⟩
      cases ex with
      | norm => exact ⟨rfl, he⟩
      | exit id => exact absurd h (hn _ _ _)
      | ret => exact ⟨rfl, he⟩
  all_goals cases h
end
end Go.Proofs.YtcllgicphjmamaaGreat.ev
