/- The reckoner: regions that draw their order, the proof; the reckoner whole. -/
import Derived.Test.YtcllgicphjmamaaGreatKv12
namespace Go.Proofs.YtcllgicphjmamaaGreat.ev
noncomputable section
open Go.RowKit
set_option linter.unusedSimpArgs false
set_option linter.unusedVariables false
set_option linter.unusedSectionVars false
variable [Kn]

theorem filter_one {n i : Nat} (hi : i < n) {f g : Nat → Bool} (hf : f i = true) (hg : g i = false) (h : ∀ j, j ≠ i → f j = g j) : ((List.range n).filter f).length = ((List.range n).filter g).length + 1 := by
  induction n with
  | zero => omega
  | succ n ih =>
    rw [List.range_succ, List.filter_append, List.filter_append, List.length_append, List.length_append]
    by_cases e : i = n
    · subst e
      have : (List.range i).filter f = (List.range i).filter g := List.filter_congr fun j hj => h j (by simp at hj; omega)
      simp [this, hf, hg]
    · rw [ih (by omega)]
      have := h n (fun e' => e e'.symm)
      by_cases hb : g n = true <;> simp [this, hb]
def cnt (L : Array Bool) (m : Nat) : Nat := ((List.range m).filter fun j => !L.getD j true).length
theorem getD_set (L : Array Bool) (i j : Nat) (hi : i < L.size) : (L.setIfInBounds i true).getD j true = if j = i then true else L.getD j true := by
  simp only [Array.getD_eq_getD_getElem?]
  by_cases e : j = i
  · subst e
    simp [hi]
  · rw [Array.getElem?_setIfInBounds_ne (fun h => e h.symm), if_neg e]
section
variable {P : Program} {ih : Ih} {ops : Array Oper} {p : Nat} {tf : Nat → Ts} {sf : Nat → St} {vf : Nat → Value} {μ0 : Mu} {w0 : World} {n : Nat}
/-- some of the free operations have run -/
structure QInv (ops : Array Oper) (p n : Nat) (tf : Nat → Ts) (sf : Nat → St) (vf : Nat → Value) (μ0 : Mu) (w0 : World) (L : Array Bool) (a : Act) (w : World) (μ : Mu) : Prop where
  rel : Rel μ (sf p) w
  step : Step μ0 μ (sf 0) (sf p) w0 w
  fresh : ∀ j, j < p → L.getD j true = false → Fresh μ (sf j) (sf (j + 1))
  n : a.tmps.size = n
  df : a.defers = []
  done : ∀ (t j : Nat) (o : Oper), j < p → ops.toList[j]? = some o → o.dst = some t → L.getD j true = true → VRel μ (vf j) (a.tmps.getD t undef)
  wait : ∀ t, (∀ (j : Nat) (o : Oper), j < p → ops.toList[j]? = some o → o.dst = some t → L.getD j true = false) → VRel μ (getT (tf 0) t) (a.tmps.getD t undef)
theorem keeps_chain (hs : ∀ j o, j < p → ops.toList[j]? = some o → QStep P ih ops o (tf j) (sf j) (vf j) (tf (j + 1)) (sf (j + 1))) (hC : CanonOk ih) (hp : p ≤ ops.toList.length) : ∀ i j, i ≤ j → j ≤ p → Keeps (sf i) (sf j) := by
  intro i j hij hj
  induction j with
  | zero => rw [show i = 0 by omega]; exact Keeps.refl _
  | succ j ihj =>
    by_cases e : i = j + 1
    · subst e; exact Keeps.refl _
    · obtain ⟨o, ho⟩ : ∃ o, ops.toList[j]? = some o := ⟨_, List.getElem?_eq_getElem (by omega)⟩
      exact (ihj (by omega) (by omega)).trans ((hs j o (by omega) ho).keeps hC)
theorem tf_n (hs : ∀ j o, j < p → ops.toList[j]? = some o → QStep P ih ops o (tf j) (sf j) (vf j) (tf (j + 1)) (sf (j + 1))) (hp : p ≤ ops.toList.length) : ∀ j, j ≤ p → (tf j).n = (tf 0).n ∧ (tf j).d = (tf 0).d := by
  intro j hj
  induction j with
  | zero => exact ⟨rfl, rfl⟩
  | succ j ihj =>
    obtain ⟨o, ho⟩ : ∃ o, ops.toList[j]? = some o := ⟨_, List.getElem?_eq_getElem (by omega)⟩
    obtain ⟨h1, h2⟩ := ihj (by omega)
    have := (hs j o (by omega) ho).1
    rw [this]
    unfold ev.putV
    split
    · rename_i d _
      obtain ⟨a, b⟩ := setT_n (tf j) d (vf j)
      exact ⟨a.trans h1, b.trans h2⟩
    · exact ⟨h1, h2⟩
theorem tf_get (hT : Text P ops n p) (hs : ∀ j o, j < p → ops.toList[j]? = some o → QStep P ih ops o (tf j) (sf j) (vf j) (tf (j + 1)) (sf (j + 1))) (hp : p ≤ ops.toList.length) (hn : (tf 0).n = n) (hd : n ≤ 2 ^ (tf 0).d) (t : Nat) :
    ∀ j, j ≤ p → ((∀ (i : Nat) (o : Oper), i < j → ops.toList[i]? = some o → o.dst ≠ some t) → getT (tf j) t = getT (tf 0) t) ∧ (∀ (i : Nat) (o : Oper), i < j → ops.toList[i]? = some o → o.dst = some t → getT (tf j) t = vf i) := by
  intro j hj
  induction j with
  | zero => exact ⟨fun _ => rfl, fun i o h => by omega⟩
  | succ j ihj =>
    obtain ⟨o, ho⟩ : ∃ o, ops.toList[j]? = some o := ⟨_, List.getElem?_eq_getElem (by omega)⟩
    obtain ⟨h1, h2⟩ := ihj (by omega)
    obtain ⟨n1, n2⟩ := tf_n hs hp j (by omega)
    have e := (hs j o (by omega) ho).1
    have stay : o.dst ≠ some t → getT (tf (j + 1)) t = getT (tf j) t := by
      intro hne
      rw [e]
      unfold ev.putV
      split
      · rename_i d hd'
        by_cases hdn : d < (tf j).n
        · rw [getT_setT (tf j) (by rw [n1, n2, hn]; exact hd) d t (vf j) hdn, if_neg (fun h => hne (by rw [hd', h]))]
        · rw [setT_ge hdn]
      · rfl
    refine ⟨fun hno => ?_, fun i oi hi hoi hdi => ?_⟩
    · rw [stay (hno j o (by omega) ho)]
      exact h1 fun i oi hi hoi => hno i oi (by omega) hoi
    · by_cases ei : i = j
      · subst ei
        rw [ho] at hoi
        cases hoi
        rw [e]
        simp only [ev.putV, hdi]
        rw [getT_setT (tf i) (by rw [n1, n2, hn]; exact hd) t t (vf i) (by rw [n1, hn]; exact hT.dlt i o t ho hdi), if_pos rfl]
      · have hne : o.dst ≠ some t := fun h => ei (hT.duq i j oi o t (by omega) (by omega) hoi ho hdi h)
        rw [stay hne]
        exact h2 i oi (by omega) hoi hdi
/-- what an operation looks at is there -/
theorem look_ok (hT : Text P ops n p) (hs : ∀ j o, j < p → ops.toList[j]? = some o → QStep P ih ops o (tf j) (sf j) (vf j) (tf (j + 1)) (sf (j + 1))) (hp : p ≤ ops.toList.length) (hn : (tf 0).n = n) (hd : n ≤ 2 ^ (tf 0).d) {L : Array Bool} {a : Act} {w : World} {μ : Mu} (hQ : QInv ops p n tf sf vf μ0 w0 L a w μ)
    (hCl : Closed ops L) (hL : ∀ j, j < ops.toList.length → L.getD j true = true → j < p) {i : Nat} {o : Oper} (hi : i < p) (ho : ops.toList[i]? = some o) (hu : L.getD i true = false) (hpre : ∀ e ∈ o.after.toList, Region.binds .any e = true → Listed L e.on) {t : Nat} (ht : t ∈ o.looksAt ops) : VRel μ (getT (tf i) t) (a.tmps.getD t undef) := by
  have hbits := bits_listed hCl hT.back
  obtain ⟨g1, g2⟩ := tf_get hT hs hp hn hd t i (by omega)
  by_cases hex : ∃ (j : Nat) (oj : Oper), j < i ∧ ops.toList[j]? = some oj ∧ oj.dst = some t
  · obtain ⟨j, oj, hj, hoj, hdj⟩ := hex
    rw [g2 j oj hj hoj hdj]
    have hlist : L.getD j true = true := by
      rcases hT.look i j o oj t (by omega) hi ho hoj ht hdj with h | ⟨_, h⟩ | ⟨h, _⟩
      · omega
      · exact hbits i o ho hpre j h
      · omega
    exact hQ.done t j oj (by omega) hoj hdj hlist
  · rw [g1 (fun j oj hj hoj hdj => hex ⟨j, oj, hj, hoj, hdj⟩)]
    refine hQ.wait t fun j oj hj hoj hdj => ?_
    rcases hT.look i j o oj t (by omega) hi ho hoj ht hdj with h | ⟨h, _⟩ | ⟨h, hb⟩
    · rw [h]; exact hu
    · exact absurd ⟨j, oj, h, hoj, hdj⟩ hex
    · cases hlj : L.getD j true with
      | false => rfl
      | true =>
        have := hbits j oj hoj (fun e he hbe => hCl j oj hoj hlj e he hbe) i hb
        rw [Listed, hu] at this; cases this
/-- one more free operation -/
theorem QInv.next (hT : Text P ops n p) (hs : ∀ j o, j < p → ops.toList[j]? = some o → QStep P ih ops o (tf j) (sf j) (vf j) (tf (j + 1)) (sf (j + 1))) (hC : CanonOk ih) (hp : p ≤ ops.toList.length) {L : Array Bool} (hsz : L.size = ops.toList.length) {a : Act} {w w1 : World} {μ μ1 : Mu} (hQ : QInv ops p n tf sf vf μ0 w0 L a w μ)
    {i : Nat} {o : Oper} (hi : i < p) (ho : ops.toList[i]? = some o) (hu : L.getD i true = false) {s1 σa : St} (hwr : (sf i).size ≤ s1.wr) (hσa : σa.size = (sf i).size) (hsize : (sf (i + 1)).size = s1.size) (hget1 : ∀ k, (sf (i + 1)).getB k = s1.getB k) {v1 : Value} (hv : VRel μ1 (vf i) v1) (hR1 : Rel μ1 s1 w1) (hst : Step μ μ1 σa s1 w w1) :
    QInv ops p n tf sf vf μ0 w0 (L.setIfInBounds i true) (a.put o.dst v1) w1 μ1 := by
  have chain := keeps_chain hs hC hp
  have hfr := hQ.fresh i hi hu
  -- nothing that was there has turned
  have hkept : ∀ b, b < w.heap.size → w1.heap[b]? = w.heap[b]? := fun b hb => hst.frame b hb fun k L' hk hL => by
    rcases Nat.lt_or_ge k (sf i).size with h1 | h1
    · exact .inl (by omega)
    · refine .inr ?_
      rcases Nat.lt_or_ge k s1.size with h2 | h2
      · rw [hfr k h1 (by rw [hsize]; exact h2)] at hk; cases hk
      · exact h2
  have newb : ∀ k L', μ1 k = some L' → μ k = some L' ∨ ((sf i).size ≤ k ∧ k < s1.size ∧ w.heap.size ≤ L'.blk) := fun k L' hk => by
    rcases hst.dom k L' hk with h | ⟨h1, h2, h3⟩
    · exact .inl h
    · rw [hσa] at h1
      rcases h3 with h3 | ⟨k0, L0, x, y, z, z'⟩
      · exact .inr ⟨h1, h2, h3⟩
      · rw [hfr k0 (by omega) (by rw [hsize]; exact z')] at x; cases x
  have hsame : ∀ k, k < s1.size → (sf p).getB k = s1.getB k := fun k hk => by
    rw [(chain (i + 1) p (by omega) (Nat.le_refl _)).same k (by rw [hsize]; exact hk), hget1]
  have hpsz := (chain (i + 1) p (by omega) (Nat.le_refl _)).size
  have hisz := (chain 0 i (by omega) (by omega)).size
  have hpwr := (chain 0 p (by omega) (Nat.le_refl _)).wr
  refine ⟨⟨hQ.rel.wf, fun k B L' hB hk => ?_, fun k k' B B' L' L'' hB hB' hne hk hk' hb => ?_⟩, ⟨hQ.step.ext.trans hst.ext, fun k L' hk => ?_, hQ.step.size, hQ.step.wr, Nat.le_trans hQ.step.hs hst.hs, hst.os.trans hQ.step.os, hst.tape.trans hQ.step.tape, hst.output.trans hQ.step.output, fun b hb hf => ?_, hQ.step.canon⟩, fun j hj hLj => ?_, ?_, ?_, fun t j oj hj hoj hdj hLj => ?_, fun t hno => ?_⟩
  · rcases newb k L' hk with h | ⟨h1, h2, h3⟩
    · have := hQ.rel.blk k B L' hB h
      exact this.mono hst.ext (hkept _ this.lt)
    · exact hR1.blk k B L' (by rw [← hsame k h2]; exact hB) hk
  · rcases newb k L' hk with h | ⟨h1, h2, h3⟩
    · rcases newb k' L'' hk' with h' | ⟨h1', h2', h3'⟩
      · exact hQ.rel.apart k k' B B' L' L'' hB hB' hne h h' hb
      · have := (hQ.rel.blk k B L' hB h).lt
        omega
    · rcases newb k' L'' hk' with h' | ⟨h1', h2', h3'⟩
      · have := (hQ.rel.blk k' B' L'' hB' h').lt
        omega
      · exact hR1.apart k k' B B' L' L'' (by rw [← hsame k h2]; exact hB) (by rw [← hsame k' h2']; exact hB') hne hk hk' hb
  · rcases newb k L' hk with h | ⟨h1, h2, h3⟩
    · exact hQ.step.dom k L' h
    · refine .inr ⟨by omega, by rw [← hsize] at h2; omega, .inl (Nat.le_trans hQ.step.hs h3)⟩
  · rw [hkept b (Nat.lt_of_lt_of_le hb hQ.step.hs)]
    exact hQ.step.frame b hb hf
  · rw [getD_set L i j (by rw [hsz]; omega)] at hLj
    by_cases e : j = i
    · rw [if_pos e] at hLj; cases hLj
    · rw [if_neg e] at hLj
      have hfj := hQ.fresh j hj hLj
      intro k h1 h2
      cases hk : μ1 k with
      | none => rfl
      | some L' =>
        exfalso
        rcases newb k L' hk with h | ⟨g1, g2, _⟩
        · rw [hfj k h1 h2] at h; cases h
        · rcases Nat.lt_or_ge j i with hji | hji
          · have := (chain (j + 1) i (by omega) (by omega)).size
            omega
          · have := (chain (i + 1) j (by omega) (by omega)).size
            rw [hsize] at this
            omega
  · cases hdst : o.dst with
    | none => exact hQ.n
    | some d => simp only [Act.put, Array.size_setIfInBounds]; exact hQ.n
  · cases hdst : o.dst with
    | none => exact hQ.df
    | some d => exact hQ.df
  · rw [getD_set L i j (by rw [hsz]; omega)] at hLj
    by_cases e : j = i
    · subst e
      rw [ho] at hoj
      cases hoj
      have hdn := hT.dlt j o t ho hdj
      simp only [hdj, Act.put, Array.getD_eq_getD_getElem?]
      rw [Array.getElem?_setIfInBounds_self_of_lt (by rw [hQ.n]; exact hdn)]
      exact hv
    · rw [if_neg e] at hLj
      have := (hQ.done t j oj hj hoj hdj hLj).mono hst.ext
      have hne : o.dst ≠ some t := fun h => e (hT.duq j i oj o t hj hi hoj ho hdj h)
      cases hdst : o.dst with
      | none => exact this
      | some d =>
        have hdt : d ≠ t := fun h => hne (by rw [hdst, h])
        simp only [Act.put, Array.getD_eq_getD_getElem?] at this ⊢
        rw [Array.getElem?_setIfInBounds_ne hdt]
        exact this
  · have hne : o.dst ≠ some t := fun h => by
      have := hno i o hi ho h
      rw [getD_set L i i (by rw [hsz]; omega), if_pos rfl] at this
      cases this
    have := (hQ.wait t fun j oj hj hoj hdj => by
      have := hno j oj hj hoj hdj
      rw [getD_set L i j (by rw [hsz]; omega)] at this
      by_cases e : j = i
      · rw [if_pos e] at this; cases this
      · rw [if_neg e] at this; exact this).mono hst.ext
    cases hdst : o.dst with
    | none => exact this
    | some d =>
      have hdt : d ≠ t := fun h => hne (by rw [hdst, h])
      simp only [Act.put, Array.getD_eq_getD_getElem?] at this ⊢
      rw [Array.getElem?_setIfInBounds_ne hdt]
      exact this
theorem wpAny_zero {md : Region.Mode} {Q : Exit → Act → World → Prop} {L : Array Bool} {a : Act} {w : World} (h1 : Region.ready md ops L = []) (h2 : Q .normal a w) : wpAny P md ops Q 0 L a w := ⟨h1, h2⟩
theorem ready_iff {L : Array Bool} {i : Nat} : i ∈ Region.ready .any ops L ↔ i < ops.size ∧ L.getD i true = false ∧ ∃ o, ops.toList[i]? = some o ∧ ∀ e ∈ o.after.toList, Region.binds .any e = true → L.getD e.on false = true := by
  unfold Region.ready
  simp only [List.mem_filter, List.mem_range, Bool.and_eq_true, Bool.not_eq_true']
  constructor
  · rintro ⟨h1, h2, h3⟩
    refine ⟨h1, h2, ?_⟩
    have ho : ops[i]? = some ops[i] := Array.getElem?_eq_getElem h1
    refine ⟨ops[i], by simp [h1], fun e he hb => ?_⟩
    rw [ho] at h3
    simp only [Option.map_some, Option.getD_some, Array.all_eq_true_iff_forall_mem] at h3
    have := h3 e (by simpa using he)
    simpa [hb] using this
  · rintro ⟨h1, h2, o, ho, h3⟩
    refine ⟨h1, h2, ?_⟩
    have ho' : ops[i]? = some o := by simpa using ho
    rw [ho']
    simp only [Option.map_some, Option.getD_some, Array.all_eq_true_iff_forall_mem]
    intro e he
    by_cases hb : Region.binds .any e = true
    · simp [hb, h3 e (by simpa using he) hb]
    · simp [hb]
/-- all orders -/
theorem draw_any (hT : Text P ops n p) (hS : Sound P ih) (hs : ∀ j o, j < p → ops.toList[j]? = some o → QStep P ih ops o (tf j) (sf j) (vf j) (tf (j + 1)) (sf (j + 1))) (hC : CanonOk ih) (hp : p ≤ ops.toList.length) (hn : (tf 0).n = n) (hd : n ≤ 2 ^ (tf 0).d)
    {ts' : Ts} {σ' : St} (hrest : opsV P ih ops (ops.toList.drop p) (tf p) (sf p) = some (ts', σ')) (hfr : Fresh μ0 (sf 0) σ') (hw0 : WfB (sf 0)) {Q : Exit → Act → World → Prop} (hQ : ∀ a w, Ends μ0 (sf 0) w0 ts' σ' a w → Q .normal a w) :
    ∀ (fuel : Nat) (L : Array Bool) (a : Act) (w : World), L.size = ops.toList.length → cnt L ops.toList.length = fuel → Closed ops L →
      (((∀ j, j < ops.toList.length → L.getD j true = true → j < p) ∧ ∃ μ, QInv ops p n tf sf vf μ0 w0 L a w μ) ∨
       (∃ q ts σ μ, p ≤ q ∧ (∀ j, j < ops.toList.length → L.getD j true = decide (j < q)) ∧ opsV P ih ops (ops.toList.drop q) ts σ = some (ts', σ') ∧ TRel μ ts a ∧ Rel μ σ w ∧ Step μ0 μ (sf 0) σ w0 w)) →
      wpAny P .any ops Q fuel L a w := by
  have chain := keeps_chain hs hC hp
  have oplen : ops.size = ops.toList.length := by simp
  -- all free operations have run: from here on the order is the text's
  have turn : ∀ (L : Array Bool) (a : Act) (w : World) (μ : Mu), QInv ops p n tf sf vf μ0 w0 L a w μ → (∀ j, j < p → L.getD j true = true) → TRel μ (tf p) a := by
    intro L a w μ hq hall
    obtain ⟨n1, n2⟩ := tf_n hs hp p (Nat.le_refl _)
    refine ⟨by rw [hq.n, n1, hn], by rw [n1, n2, hn]; exact hd, fun t ht => ?_, hq.df⟩
    obtain ⟨g1, g2⟩ := tf_get hT hs hp hn hd t p (Nat.le_refl _)
    by_cases hex : ∃ (j : Nat) (oj : Oper), j < p ∧ ops.toList[j]? = some oj ∧ oj.dst = some t
    · obtain ⟨j, oj, hj, hoj, hdj⟩ := hex
      rw [g2 j oj hj hoj hdj]
      exact hq.done t j oj hj hoj hdj (hall j hj)
    · rw [g1 (fun j oj hj hoj hdj => hex ⟨j, oj, hj, hoj, hdj⟩)]
      exact hq.wait t fun j oj hj hoj hdj => absurd ⟨j, oj, hj, hoj, hdj⟩ hex
  intro fuel
  induction fuel with
  | zero =>
    intro L a w hsz hcnt hCl hstate
    have hall : ∀ j, j < ops.toList.length → L.getD j true = true := fun j hj => by
      cases h : L.getD j true with
      | true => rfl
      | false =>
        have : j ∈ (List.range ops.toList.length).filter fun j => !L.getD j true := List.mem_filter.2 ⟨List.mem_range.2 hj, by rw [h]; rfl⟩
        have hz := List.length_eq_zero_iff.1 hcnt
        rw [hz] at this; simp at this
    refine wpAny_zero ?_ ?_
    · rw [List.eq_nil_iff_forall_not_mem]
      intro i hi
      obtain ⟨h1, h2, _⟩ := ready_iff.1 hi
      rw [hall i (by omega)] at h2; cases h2
    · rcases hstate with ⟨hlt, μ, hq⟩ | ⟨q, ts, σ, μ, hpq, hL, hrun, t1, t2, t3⟩
      · have hpe : p = ops.toList.length := by
          rcases Nat.lt_or_ge p ops.toList.length with h | h
          · have := hlt p h (hall p h); omega
          · omega
        rw [hpe, List.drop_length] at hrest
        simp only [opsV, Option.some.injEq, Prod.mk.injEq] at hrest
        rw [← hpe] at hrest
        obtain ⟨e1, e2⟩ := hrest
        refine hQ a w ⟨μ, ?_, ?_, ?_⟩
        · rw [← e1]; exact turn L a w μ hq fun j hj => hall j (by omega)
        · rw [← e2]; exact hq.rel
        · rw [← e2]; exact hq.step
      · have hqe : ops.toList.length ≤ q := by
          rcases Nat.lt_or_ge q ops.toList.length with h | h
          · have := hall q h
            rw [hL q h] at this
            simp at this
          · exact h
        rw [List.drop_eq_nil_of_le hqe] at hrun
        simp only [opsV, Option.some.injEq, Prod.mk.injEq] at hrun
        obtain ⟨rfl, rfl⟩ := hrun
        exact hQ a w ⟨μ, t1, t2, t3⟩
  | succ fuel IH =>
    intro L a w hsz hcnt hCl hstate
    have hcl' : ∀ i o, ops.toList[i]? = some o → (∀ e ∈ o.after.toList, Region.binds .any e = true → L.getD e.on false = true) → i < ops.toList.length → Closed ops (L.setIfInBounds i true) := by
      intro i o ho hpre hi j oj hoj hlj e he hb
      rw [Listed, getD_set L i e.on (by omega)]
      by_cases e1 : e.on = i
      · rw [if_pos e1]
      · rw [if_neg e1]
        rw [Listed, getD_set L i j (by omega)] at hlj
        by_cases e2 : j = i
        · subst e2
          rw [ho] at hoj; cases hoj
          have := hpre e he hb
          simp only [Array.getD_eq_getD_getElem?] at this ⊢
          cases h3 : L[e.on]? with
          | none => rfl
          | some b => rw [h3] at this; simpa using this
        · rw [if_neg e2] at hlj
          exact hCl j oj hoj hlj e he hb
    have hcnt' : ∀ i, i < ops.toList.length → L.getD i true = false → cnt (L.setIfInBounds i true) ops.toList.length = fuel := by
      intro i hi hu
      have := filter_one (n := ops.toList.length) hi (f := fun j => !L.getD j true) (g := fun j => !(L.setIfInBounds i true).getD j true) (by simp [hu]) (by rw [getD_set L i i (by omega)]; simp) (fun j hj => by rw [getD_set L i j (by omega), if_neg hj])
      unfold cnt at hcnt ⊢
      omega
    have hsz' : ∀ i, (L.setIfInBounds i true).size = ops.toList.length := fun i => by simpa using hsz
    have hpre2 : ∀ o : Oper, (∀ e ∈ o.after.toList, Region.binds .any e = true → L.getD e.on false = true) → ∀ e ∈ o.after.toList, Region.binds .any e = true → Listed L e.on := by
      intro o h e he hb
      have := h e he hb
      unfold Listed
      simp only [Array.getD_eq_getD_getElem?] at this ⊢
      cases h3 : L[e.on]? with
      | none => rfl
      | some b => rw [h3] at this; simpa using this
    -- one operation of the forced ones
    have forcedStep : ∀ (q : Nat) (ts : Ts) (σ : St) (μ : Mu), p ≤ q → (∀ j, j < ops.toList.length → L.getD j true = decide (j < q)) → opsV P ih ops (ops.toList.drop q) ts σ = some (ts', σ') → TRel μ ts a → Rel μ σ w → Step μ0 μ (sf 0) σ w0 w →
        ∀ i ∈ Region.ready .any ops L, wpOp P ops Q i (wpAny P .any ops Q fuel (L.setIfInBounds i true)) a w := by
      intro q ts σ μ hpq hL hrun t1 t2 t3 i hi
      obtain ⟨h1, h2, o, ho, hpre⟩ := ready_iff.1 hi
      have hil : i < ops.toList.length := by omega
      have hiq : q ≤ i := by
        rw [hL i hil] at h2
        simp at h2; exact h2
      have hbits := bits_listed hCl hT.back i o ho (hpre2 o hpre)
      have hie : i = q := by
        rcases Nat.lt_or_ge q i with h | h
        · have := hbits q (hT.forced i (by omega) hil q h)
          rw [Listed, hL q (by omega)] at this
          simp at this
        · omega
      subst hie
      have ho' : ops[i]? = some o := by simpa using ho
      have hdrop : ops.toList.drop i = o :: ops.toList.drop (i + 1) := by
        rw [List.drop_eq_getElem_cons hil]
        congr 1
        exact (List.getElem?_eq_some_iff.1 ho).2
      rw [hdrop] at hrun
      simp only [opsV] at hrun
      have hw := wantedV_eq t1 ops o
      have hL' : ∀ j, j < ops.toList.length → (L.setIfInBounds i true).getD j true = decide (j < i + 1) := fun j hj => by
        rw [getD_set L i j (by omega)]
        by_cases e : j = i
        · subst e; simp
        · rw [if_neg e, hL j hj]
          by_cases hlt : j < i
          · simp [hlt]; omega
          · simp [hlt]; omega
      unfold wpOp
      rw [ho']
      simp only
      split at hrun
      · rename_i hwt
        rw [if_pos (by rw [hw]; exact hwt)]
        split at hrun
        case h_2 => cases hrun
        rename_i v s1 hop
        split at hrun
        case isFalse => cases hrun
        rename_i hs1
        have hs2 := opsV_size _ _ _ _ _ hrun
        refine .inl (opV_wp hS hop t1 t2 ((t3.fresh hfr).mono hs2) fun μ' v' w' g1 g2 g3 => ?_)
        exact IH _ _ _ (hsz' i) (hcnt' i hil h2) (hcl' i o ho hpre hil) (.inr ⟨i + 1, _, s1, μ', by omega, hL', hrun, (t1.mono g3.ext).putV g1 o.dst, g2, t3.trans g3⟩)
      · rename_i hwt
        rw [if_neg (by rw [hw]; exact hwt)]
        exact IH _ _ _ (hsz' i) (hcnt' i hil h2) (hcl' i o ho hpre hil) (.inr ⟨i + 1, _, σ, μ, by omega, hL', hrun, t1.putV (vrel_undef μ) o.dst, t2, t3⟩)
    refine ⟨fun hr => ?_, fun i hi => ?_⟩
    · -- there is always one that is ready
      exfalso
      have hex : ∃ j, j < ops.toList.length ∧ L.getD j true = false := by
        have hne : (List.range ops.toList.length).filter (fun j => !L.getD j true) ≠ [] := fun h => by
          unfold cnt at hcnt; rw [h] at hcnt; simp at hcnt
        obtain ⟨j, hj⟩ := List.exists_mem_of_ne_nil _ hne
        simp only [List.mem_filter, List.mem_range, Bool.not_eq_true'] at hj
        exact ⟨j, hj⟩
      have least : ∀ k j, j < k → j < ops.toList.length → L.getD j true = false → False := by
        intro k
        induction k with
        | zero => intro j hj; omega
        | succ k ihk =>
          intro j hj hjl hju
          obtain ⟨o, ho⟩ : ∃ o, ops.toList[j]? = some o := ⟨_, List.getElem?_eq_getElem hjl⟩
          have : j ∈ Region.ready .any ops L := ready_iff.2 ⟨by omega, hju, o, ho, fun e he hb => by
            have hlt := hT.back j o ho e he hb
            have h1 : L.getD e.on true = true := by
              cases h : L.getD e.on true with
              | true => rfl
              | false => exact (ihk e.on (by omega) (by omega) h).elim
            simp only [Array.getD_eq_getD_getElem?] at h1 ⊢
            have : e.on < L.size := by omega
            rw [Array.getElem?_eq_getElem this] at h1 ⊢
            simpa using h1⟩
          rw [hr] at this; simp at this
      obtain ⟨j, hj, hu⟩ := hex
      exact least (j + 1) j (by omega) hj hu
    · rcases hstate with ⟨hlt, μ, hq⟩ | ⟨q, ts, σ, μ, hpq, hL, hrun, t1, t2, t3⟩
      · obtain ⟨h1, h2, o, ho, hpre⟩ := ready_iff.1 hi
        have hil : i < ops.toList.length := by omega
        by_cases hip : i < p
        · have ho' : ops[i]? = some o := by simpa using ho
          have hpl := hpre2 o hpre
          have hlook := fun t ht => look_ok hT hs hp hn hd hq hCl hlt hip ho h2 hpl (t := t) ht
          have hops : ∀ t, (.tmp t) ∈ o.op.operands → VRel μ (getT (tf i) t) (a.tmps.getD t undef) := fun t ht => hlook t (List.mem_append_left _ (List.mem_filterMap.2 ⟨.tmp t, by simpa using ht, rfl⟩))
          have hguard : Region.wanted o (yielded ops a.tmps) = wantedV ops (tf i) o := wanted_part ops o fun j want d hg hd' => hlook d (by
            unfold Oper.looksAt
            rw [hg]
            exact List.mem_append_right _ (by simp [hd']))
          have hlt' : ∀ j, j < ops.toList.length → (L.setIfInBounds i true).getD j true = true → j < p := fun j hj hl => by
            rw [getD_set L i j (by omega)] at hl
            by_cases e : j = i
            · omega
            · rw [if_neg e] at hl; exact hlt j hj hl
          obtain ⟨hts, hcase⟩ := hs i o hip ho
          unfold wpOp
          rw [ho']
          simp only
          rcases hcase with ⟨hw, s1, hop, hwr, hs1⟩ | ⟨hw, hv, hs1⟩
          · rw [if_pos (by rw [hguard]; exact hw)]
            have hwf : WfB (sf i) := (chain 0 i (by omega) (by omega)).wf hw0
            have hRi : Rel μ { sf i with wr := 65536 } w := by
              have := hq.rel.down (chain i p (by omega) (Nat.le_refl _)) hwf
              exact ⟨this.wf, this.blk, this.apart⟩
            have hfi : Fresh μ { sf i with wr := 65536 } s1 := by
              have := hq.fresh i hip h2
              rw [hs1] at this
              exact this
            refine .inl ((opV_part hS (hT.sel i o ho) hop hops hRi hfi (by rw [hq.n]; exact hd) (by rw [(tf_n hs hp i (by omega)).1, hn]; exact hd)).wp fun μ' v' w' g1 g2 g3 => ?_)
            exact IH _ _ _ (hsz' i) (hcnt' i hil h2) (hcl' i o ho hpre hil) (.inl ⟨hlt', μ', hq.next (σa := { sf i with wr := 65536 }) hT hs hC hp hsz hip ho h2 hwr rfl (by rw [hs1]) (fun k => by rw [hs1]; rfl) g1 g2 g3⟩)
          · rw [if_neg (by rw [hguard, hw]; simp)]
            refine IH _ _ _ (hsz' i) (hcnt' i hil h2) (hcl' i o ho hpre hil) (.inl ⟨hlt', μ, ?_⟩)
            refine hq.next (s1 := { sf i with wr := (sf i).size }) (σa := { sf i with wr := (sf i).size }) hT hs hC hp hsz hip ho h2 (Nat.le_refl _) rfl (by rw [hs1]) (fun k => by rw [hs1]; rfl) (by rw [hv]; exact vrel_undef μ) ?_ (Step.refl _ _ _)
            have := hq.rel.down (chain i p (by omega) (Nat.le_refl _)) ((chain 0 i (by omega) (by omega)).wf hw0)
            exact ⟨this.wf, this.blk, this.apart⟩
        · -- all before it have run
          have hbits := bits_listed hCl hT.back i o ho (hpre2 o hpre)
          have hall : ∀ j, j < i → L.getD j true = true := fun j hj => hbits j (hT.forced i (by omega) hil j hj)
          have hpe : i = p := by
            rcases Nat.lt_or_ge p i with h | h
            · have := hlt p (by omega) (hall p h); omega
            · omega
          subst hpe
          refine forcedStep i (tf i) (sf i) μ (Nat.le_refl _) (fun j hj => ?_) hrest (turn L a w μ hq hall) hq.rel hq.step i hi
          by_cases hji : j < i
          · rw [hall j hji]; simp [hji]
          · cases h : L.getD j true with
            | false => simp [hji]
            | true => exact absurd (hlt j hj h) hji
      · exact forcedStep q ts σ μ hpq hL hrun t1 t2 t3 i hi
end
/-- a region that draws its order -/
def drawV (P : Program) (ih : Ih) (ops : Array Oper) (ts : Ts) (σ : St) : Option (Ts × St) :=
  if drawOK P ops ts.n (freeN ops) then match qV P ih ops (ops.toList.take (freeN ops)) ts σ with
    | some (ts1, s1) => opsV P ih ops (ops.toList.drop (freeN ops)) ts1 s1
    | none => none
  else none
theorem canon_draw {P : Program} {ih : Ih} (hC : CanonOk ih) {ops : Array Oper} {ts : Ts} {σ : St} {ts' : Ts} {σ' : St} (h : drawV P ih ops ts σ = some (ts', σ')) : Canon σ σ' := by
  unfold drawV at h
  split at h
  case isFalse => cases h
  split at h
  case h_2 => cases h
  rename_i ts1 s1 hq
  obtain ⟨tf, sf, vf, a1, a2, a3, a4, a5⟩ := qV_run _ _ _ _ _ hq
  have hple : freeN ops ≤ ops.toList.length := Nat.sub_le _ _
  have hlen : (ops.toList.take (freeN ops)).length = freeN ops := by rw [List.length_take]; exact Nat.min_eq_left hple
  rw [hlen] at a3 a4
  have hs : ∀ j o, j < freeN ops → ops.toList[j]? = some o → QStep P ih ops o (tf j) (sf j) (vf j) (tf (j + 1)) (sf (j + 1)) := fun j o hj ho => a5 j o (by rw [List.getElem?_take, if_pos hj]; exact ho)
  have chain := keeps_chain hs hC hple 0 (freeN ops) (Nat.zero_le _) (Nat.le_refl _)
  rw [a2, a4] at chain
  exact Canon.trans ⟨chain.size, chain.wr, fun k h1 _ => chain.same k h1, chain.wf⟩ (canon_ops hC _ _ _ _ _ h)
def DrawOk2 (P : Program) (draw : Ih → Array Oper → Ts → St → Option (Ts × St)) : Prop :=
  ∀ ih, Sound P ih → CanonOk ih → ∀ ops ts σ ts' σ', draw ih ops ts σ = some (ts', σ') → Canon σ σ' ∧ ∀ (id : Nat) (μ : Mu) (a : Act) (w : World), TRel μ ts a → Rel μ σ w → Fresh μ σ σ' →
    (Code.region id ops true).wp P (fun e a' w' => e = .normal ∧ Ends μ σ w ts' σ' a' w') a w
theorem drawV_ok (P : Program) : DrawOk2 P (drawV P) := by
  intro ih hS hC ops ts σ ts' σ' h
  unfold drawV at h
  split at h
  case isFalse => cases h
  rename_i hok
  have hT := text_of hok
  have hple : freeN ops ≤ ops.toList.length := Nat.sub_le _ _
  split at h
  case h_2 => cases h
  rename_i ts1 s1 hq
  obtain ⟨tf, sf, vf, a1, a2, a3, a4, a5⟩ := qV_run _ _ _ _ _ hq
  have hlen : (ops.toList.take (freeN ops)).length = freeN ops := by rw [List.length_take]; exact Nat.min_eq_left hple
  rw [hlen] at a3 a4
  have hs : ∀ j o, j < freeN ops → ops.toList[j]? = some o → QStep P ih ops o (tf j) (sf j) (vf j) (tf (j + 1)) (sf (j + 1)) := fun j o hj ho => a5 j o (by rw [List.getElem?_take, if_pos hj]; exact ho)
  have chain := keeps_chain hs hC hple 0 (freeN ops) (Nat.zero_le _) (Nat.le_refl _)
  have hcan : Canon σ σ' := by
    have hk := canon_ops hC _ _ _ _ _ h
    rw [a2, a4] at chain
    exact Canon.trans ⟨chain.size, chain.wr, fun k h1 _ => chain.same k h1, chain.wf⟩ hk
  refine ⟨hcan, fun id μ a w tr rel fr => ?_⟩
  refine wp_region_any hT.mixed ?_
  have hsz : (Array.replicate ops.size false).size = ops.toList.length := by simp
  have hrel0 : Rel μ (sf 0) { w with drawn := w.drawn + 1 } := by rw [a2]; exact ⟨rel.wf, rel.blk, rel.apart⟩
  have hstep0 : Step μ μ (sf 0) (sf 0) w { w with drawn := w.drawn + 1 } := ⟨Mu.le.refl _, fun _ _ h => .inl h, Nat.le_refl _, Nat.le_refl _, Nat.le_refl _, rfl, rfl, rfl, fun _ _ _ => rfl, fun _ _ _ => rfl⟩
  have hfr0 : Fresh μ (sf 0) (sf (freeN ops)) := by
    rw [a2, a4]
    exact fr.mono (canon_ops hC _ _ _ _ _ h).size
  have hrelp : Rel μ (sf (freeN ops)) { w with drawn := w.drawn + 1 } := hrel0.up chain hfr0
  have hno : ∀ j, (Array.replicate ops.size false).getD j true = true → ¬ j < ops.size := fun j h1 h2 => by
    simp [Array.getD_eq_getD_getElem?, Array.getElem?_replicate, h2] at h1
  have hno' : ∀ j, j < ops.size → (Array.replicate ops.size false).getD j true = false := fun j h2 => by
    simp [Array.getD_eq_getD_getElem?, Array.getElem?_replicate, h2]
  have oplen : ops.size = ops.toList.length := by simp
  have hfin : ∀ a1 w1, Ends μ (sf 0) { w with drawn := w.drawn + 1 } ts' σ' a1 w1 → Ends μ σ w ts' σ' a1 w1 := by
    rintro a1 w1 ⟨μ', t1, t2, t3⟩
    rw [a2] at t3 hstep0
    exact ⟨μ', t1, t2, hstep0.trans t3⟩
  refine draw_any (μ0 := μ) (w0 := { w with drawn := w.drawn + 1 }) (n := ts.n) (p := freeN ops) hT hS hs hC hple (by rw [a1]) (by rw [a1]; exact tr.d) (by rw [a3, a4]; exact h) (by rw [a2]; exact fr) hrel0.wf (fun a1 w1 he => ⟨rfl, hfin a1 w1 he⟩) ops.size _ a _ hsz ?_ ?_ (.inl ⟨fun j hj hl => absurd (by omega) (hno j hl), μ, ?_⟩)
  · unfold cnt
    rw [← oplen, List.filter_eq_self.2 (fun j hj => by rw [hno' j (by simpa using hj)]; rfl), List.length_range]
  · intro j o ho hl
    have : j < ops.toList.length := (List.getElem?_eq_some_iff.1 ho).1
    exact absurd (by omega) (hno j hl)
  · refine ⟨hrelp, ⟨Mu.le.refl _, fun _ _ h => .inl h, chain.size, chain.wr, Nat.le_refl _, rfl, rfl, rfl, fun _ _ _ => rfl, fun k h1 _ => chain.same k h1⟩, fun j hj _ => ?_, tr.n, tr.df, fun t j o hj ho hd hl => absurd (by omega) (hno j hl), fun t _ => by rw [a1]; exact tr.get t⟩
    have c1 := keeps_chain hs hC hple 0 j (Nat.zero_le _) (by omega)
    have c2 := keeps_chain hs hC hple (j + 1) (freeN ops) (by omega) (Nat.le_refl _)
    intro k h1 h2
    exact hfr0 k (Nat.le_trans c1.size h1) (Nat.lt_of_lt_of_le h2 c2.size)
theorem CanonOk.size {ih : Ih} (h : CanonOk ih) : SizeOk ih := fun c ts σ ex ts' σ' e => (h c ts σ ex ts' σ' e).size
/-! closed runs: what a call answers, for every world -/
def st0 : St := { heap := .nil, size := 0, wr := 65536 }
def mu0 : Mu := fun _ => none
theorem rel0 (w : World) : Rel mu0 st0 w := ⟨fun k B h => by rw [St.getB_eq] at h; simp [st0, Tr.get_nil] at h, fun k B L h hk => by simp [mu0] at hk, fun k k' B B' L L' h h' hne hk => by simp [mu0] at hk⟩
theorem Step.below {μ' : Mu} {σ σ' : St} {w w' : World} (h : Step mu0 μ' σ σ' w w') : Below w.heap.size w w' :=
  ⟨h.os, h.tape, h.output, h.hs, fun k hk => h.frame k hk fun k L h => by simp [mu0] at h⟩
end
end Go.Proofs.YtcllgicphjmamaaGreat.ev
