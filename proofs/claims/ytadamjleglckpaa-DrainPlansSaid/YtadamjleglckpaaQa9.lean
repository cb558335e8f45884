/- The reckoner: regions that draw their order, the proof; the reckoner whole. -/
import Derived.Test.YtadamjleglckpaaQa8

namespace Go.Proofs.Ytadamjleglckpaa.ev
noncomputable section
open Go.RowKit
set_option linter.unusedSimpArgs false
set_option linter.unusedVariables false
set_option linter.unusedSectionVars false
variable [Kn]

theorem filter_one {n i : Nat} (hi : i < n) {f g : Nat → Bool} (hf : f i = true) (hg : g i = false) (h : ∀ j, j ≠ i → f j = g j) : ((List.range n).filter f).length = ((List.range n).filter g).length + 1 := by
  induction n with
  | zero => omega
  | succ n ih =>
    rw [List.range_succ, List.filter_append, List.filter_append, List.length_append, List.length_append]
    by_cases e : i = n
    · subst e
      have : (List.range i).filter f = (List.range i).filter g := List.filter_congr fun j hj => h j (by simp at hj; omega)
      simp [this, hf, hg]
    · rw [ih (by omega)]
      have := h n (fun e' => e e'.symm)
      by_cases hb : g n = true <;> simp [this, hb]
def cnt (L : Array Bool) (m : Nat) : Nat := ((List.range m).filter fun j => !L.getD j true).length
theorem getD_set (L : Array Bool) (i j : Nat) (hi : i < L.size) : (L.setIfInBounds i true).getD j true = if j = i then true else L.getD j true := by
  simp only [Array.getD_eq_getD_getElem?]
  by_cases e : j = i
  · subst e
    simp [hi]
  · rw [Array.getElem?_setIfInBounds_ne (fun h => e h.symm), if_neg e]
section
variable {P : Program} {ih : Ih} {ops : Array Oper} {p : Nat} {tf : Nat → Ts} {sf : Nat → St} {vf : Nat → Value} {μ0 : Mu} {w0 : World} {n : Nat}
/-- some of the free operations have run -/
structure QInv (ops : Array Oper) (p n : Nat) (tf : Nat → Ts) (sf : Nat → St) (vf : Nat → Value) (μ0 : Mu) (w0 : World) (L : Array Bool) (a : Act) (w : World) (μ : Mu) : Prop where
  rel : Rel μ (sf p) w
  step : Step μ0 μ (sf 0) (sf p) w0 w
  fresh : ∀ j, j < p → L.getD j true = false → Fresh μ (sf j) (sf (j + 1))
  n : a.tmps.size = n
  df : a.defers = []
  done : ∀ (t j : Nat) (o : Oper), j < p → ops.toList[j]? = some o → o.dst = some t → L.getD j true = true → VRel μ (vf j) (a.tmps.getD t undef)
  wait : ∀ t, (∀ (j : Nat) (o : Oper), j < p → ops.toList[j]? = some o → o.dst = some t → L.getD j true = false) → VRel μ (getT (tf 0) t) (a.tmps.getD t undef)
theorem keeps_chain (hs : ∀ j o, j < p → ops.toList[j]? = some o → QStep P ih ops o (tf j) (sf j) (vf j) (tf (j + 1)) (sf (j + 1))) (hC : CanonOk ih) (hp : p ≤ ops.toList.length) : ∀ i j, i ≤ j → j ≤ p → Keeps (sf i) (sf j) := by
  intro i j hij hj
  induction j with
  | zero => rw [show i = 0 by omega]; exact Keeps.refl _
  | succ j ihj =>
    by_cases e : i = j + 1
    · subst e; exact Keeps.refl _
    · obtain ⟨o, ho⟩ : ∃ o, ops.toList[j]? = some o := ⟨_, List.getElem?_eq_getElem (by omega)⟩
      exact (ihj (by omega) (by omega)).trans ((hs j o (by omega) ho).keeps hC)
theorem tf_n (hs : ∀ j o, j < p → ops.toList[j]? = some o → QStep P ih ops o (tf j) (sf j) (vf j) (tf (j + 1)) (sf (j + 1))) (hp : p ≤ ops.toList.length) : ∀ j, j ≤ p → (tf j).n = (tf 0).n ∧ (tf j).d = (tf 0).d := by
  intro j hj
  induction j with
  | zero => exact ⟨rfl, rfl⟩
  | succ j ihj =>
    obtain ⟨o, ho⟩ : ∃ o, ops.toList[j]? = some o := ⟨_, List.getElem?_eq_getElem (by omega)⟩
    obtain ⟨h1, h2⟩ := ihj (by omega)
    have := (hs j o (by omega) ho).1
    rw [this]
    unfold ev.putV
    split
    · rename_i d _
      obtain ⟨a, b⟩ := setT_n (tf j) d (vf j)
      exact ⟨a.trans h1, b.trans h2⟩
    · exact ⟨h1, h2⟩
theorem tf_get (hT : Text P ops n p) (hs : ∀ j o, j < p → ops.toList[j]? = some o → QStep P ih ops o (tf j) (sf j) (vf j) (tf (j + 1)) (sf (j + 1))) (hp : p ≤ ops.toList.length) (hn : (tf 0).n = n) (hd : n ≤ 2 ^ (tf 0).d) (t : Nat) :
    ∀ j, j ≤ p → ((∀ (i : Nat) (o : Oper), i < j → ops.toList[i]? = some o → o.dst ≠ some t) → getT (tf j) t = getT (tf 0) t) ∧ (∀ (i : Nat) (o : Oper), i < j → ops.toList[i]? = some o → o.dst = some t → getT (tf j) t = vf i) := by
  intro j hj
  induction j with
  | zero => exact ⟨fun _ => rfl, fun i o h => by omega⟩
  | succ j ihj =>
    obtain ⟨o, ho⟩ : ∃ o, ops.toList[j]? = some o := ⟨_, List.getElem?_eq_getElem (by omega)⟩
    obtain ⟨h1, h2⟩ := ihj (by omega)
    obtain ⟨n1, n2⟩ := tf_n hs hp j (by omega)
    have e := (hs j o (by omega) ho).1
    have stay : o.dst ≠ some t → getT (tf (j + 1)) t = getT (tf j) t := by
      intro hne
      rw [e]
      unfold ev.putV
      split
      · rename_i d hd'
        by_cases hdn : d < (tf j).n
        · rw [getT_setT (tf j) (by rw [n1, n2, hn]; exact hd) d t (vf j) hdn, if_neg (fun h => hne (by rw [hd', h]))]
        · rw [setT_ge hdn]
      · rfl
    refine ⟨fun hno => ?_, fun i oi hi hoi hdi => ?_⟩
    · rw [stay (hno j o (by omega) ho)]
      exact h1 fun i oi hi hoi => hno i oi (by omega) hoi
    · by_cases ei : i = j
      · subst ei
        rw [ho] at hoi
        cases hoi
        rw [e]
        simp only [ev.putV, hdi]
        rw [getT_setT (tf i) (by rw [n1, n2, hn]; exact hd) t t (vf i) (by rw [n1, hn]; exact hT.dlt i o t ho hdi), if_pos rfl]
      · have hne : o.dst ≠ some t := fun h => ei (hT.duq i j oi o t (by omega) (by omega) hoi ho hdi h)
        rw [stay hne]
        exact h2 i oi (by omega) hoi hdi
/-- what an operation looks at is there -/
theorem look_ok (hT : Text P ops n p) (hs : ∀ j o, j < p → ops.toList[j]? = some o → QStep P ih ops o (tf j) (sf j) (vf j) (tf (j + 1)) (sf (j + 1))) (hp : p ≤ ops.toList.length) (hn : (tf 0).n = n) (hd : n ≤ 2 ^ (tf 0).d) {L : Array Bool} {a : Act} {w : World} {μ : Mu} (hQ : QInv ops p n tf sf vf μ0 w0 L a w μ)
    (hCl : Closed ops L) (hL : ∀ j, j < ops.toList.length → L.getD j true = true → j < p) {i : Nat} {o : Oper} (hi : i < p) (ho : ops.toList[i]? = some o) (hu : L.getD i true = false) (hpre : ∀ e ∈ o.after.toList, Region.binds .any e = true → Listed L e.on) {t : Nat} (ht : t ∈ o.looksAt ops) : VRel μ (getT (tf i) t) (a.tmps.getD t undef) := by
  have hbits := bits_listed hCl hT.back
  obtain ⟨g1, g2⟩ := tf_get hT hs hp hn hd t i (by omega)
  by_cases hex : ∃ (j : Nat) (oj : Oper), j < i ∧ ops.toList[j]? = some oj ∧ oj.dst = some t
  · obtain ⟨j, oj, hj, hoj, hdj⟩ := hex
    rw [g2 j oj hj hoj hdj]
    have hlist : L.getD j true = true := by
      rcases hT.look i j o oj t (by omega) hi ho hoj ht hdj with h | ⟨_, h⟩ | ⟨h, _⟩
      · omega
      · exact hbits i o ho hpre j h
      · omega
    exact hQ.done t j oj (by omega) hoj hdj hlist
  · rw [g1 (fun j oj hj hoj hdj => hex ⟨j, oj, hj, hoj, hdj⟩)]
    refine hQ.wait t fun j oj hj hoj hdj => ?_
    rcases hT.look i j o oj t (by omega) hi ho hoj ht hdj with h | ⟨h, _⟩ | ⟨h, hb⟩
    · rw [h]; exact hu
    · exact absurd ⟨j, oj, h, hoj, hdj⟩ hex
    · cases hlj : L.getD j true with
      | false => rfl
      | true =>
        have := hbits j oj hoj (fun e he hbe => hCl j oj hoj hlj e he hbe) i hb
        rw [Listed, hu] at this; cases this
/-- one more free operation -/
theorem QInv.next (hT : Text P ops n p) (hs : ∀ j o, j < p → ops.toList[j]? = some o → QStep P ih ops o (tf j) (sf j) (vf j) (tf (j + 1)) (sf (j + 1))) (hC : CanonOk ih) (hp : p ≤ ops.toList.length) {L : Array Bool} (hsz : L.size = ops.toList.length) {a : Act} {w w1 : World} {μ μ1 : Mu} (hQ : QInv ops p n tf sf vf μ0 w0 L a w μ)
    {i : Nat} {o : Oper} (hi : i < p) (ho : ops.toList[i]? = some o) (hu : L.getD i true = false) {s1 σa : St} (hwr : (sf i).size ≤ s1.wr) (hσa : σa.size = (sf i).size) (hsize : (sf (i + 1)).size = s1.size) (hget1 : ∀ k, (sf (i + 1)).getB k = s1.getB k) {v1 : Value} (hv : VRel μ1 (vf i) v1) (hR1 : Rel μ1 s1 w1) (hst : Step μ μ1 σa s1 w w1) :
    QInv ops p n tf sf vf μ0 w0 (L.setIfInBounds i true) (a.put o.dst v1) w1 μ1 := by
  have chain := keeps_chain hs hC hp
  have hfr := hQ.fresh i hi hu
  -- nothing that was there has turned
  have hkept : ∀ b, b < w.heap.size → w1.heap[b]? = w.heap[b]? := fun b hb => hst.frame b hb fun k L' hk hL => by
    rcases Nat.lt_or_ge k (sf i).size with h1 | h1
    · exact .inl (by omega)
    · refine .inr ?_
      rcases Nat.lt_or_ge k s1.size with h2 | h2
      · rw [hfr k h1 (by rw [hsize]; exact h2)] at hk; cases hk
      · exact h2
  have newb : ∀ k L', μ1 k = some L' → μ k = some L' ∨ ((sf i).size ≤ k ∧ k < s1.size ∧ w.heap.size ≤ L'.blk) := fun k L' hk => by
    rcases hst.dom k L' hk with h | ⟨h1, h2, h3⟩
    · exact .inl h
    · rw [hσa] at h1
      rcases h3 with h3 | ⟨k0, L0, x, y, z, z'⟩
      · exact .inr ⟨h1, h2, h3⟩
      · rw [hfr k0 (by omega) (by rw [hsize]; exact z')] at x; cases x
  have hsame : ∀ k, k < s1.size → (sf p).getB k = s1.getB k := fun k hk => by
    rw [(chain (i + 1) p (by omega) (Nat.le_refl _)).same k (by rw [hsize]; exact hk), hget1]
  have hpsz := (chain (i + 1) p (by omega) (Nat.le_refl _)).size
  have hisz := (chain 0 i (by omega) (by omega)).size
  have hpwr := (chain 0 p (by omega) (Nat.le_refl _)).wr
  refine ⟨⟨hQ.rel.wf, fun k B L' hB hk => ?_, fun k k' B B' L' L'' hB hB' hne hk hk' hb => ?_⟩, ⟨hQ.step.ext.trans hst.ext, fun k L' hk => ?_, hQ.step.size, hQ.step.wr, Nat.le_trans hQ.step.hs hst.hs, hst.os.trans hQ.step.os, hst.tape.trans hQ.step.tape, hst.output.trans hQ.step.output, fun b hb hf => ?_, hQ.step.canon⟩, fun j hj hLj => ?_, ?_, ?_, fun t j oj hj hoj hdj hLj => ?_, fun t hno => ?_⟩
  · rcases newb k L' hk with h | ⟨h1, h2, h3⟩
    · have := hQ.rel.blk k B L' hB h
      exact this.mono hst.ext (hkept _ this.lt)
    · exact hR1.blk k B L' (by rw [← hsame k h2]; exact hB) hk
  · rcases newb k L' hk with h | ⟨h1, h2, h3⟩
    · rcases newb k' L'' hk' with h' | ⟨h1', h2', h3'⟩
      · exact hQ.rel.apart k k' B B' L' L'' hB hB' hne h h' hb
      · have := (hQ.rel.blk k B L' hB h).lt
        omega
    · rcases newb k' L'' hk' with h' | ⟨h1', h2', h3'⟩
      · have := (hQ.rel.blk k' B' L'' hB' h').lt
        omega
      · exact hR1.apart k k' B B' L' L'' (by rw [← hsame k h2]; exact hB) (by rw [← hsame k' h2']; exact hB') hne hk hk' hb
  · rcases newb k L' hk with h | ⟨h1, h2, h3⟩
    · exact hQ.step.dom k L' h
    · refine .inr ⟨by omega, by rw [← hsize] at h2; omega, .inl (Nat.le_trans hQ.step.hs h3)⟩
  · rw [hkept b (Nat.lt_of_lt_of_le hb hQ.step.hs)]
    exact hQ.step.frame b hb hf
  · rw [getD_set L i j (by rw [hsz]; omega)] at hLj
    by_cases e : j = i
    · rw [if_pos e] at hLj; cases hLj
    · rw [if_neg e] at hLj
      have hfj := hQ.fresh j hj hLj
      intro k h1 h2
      cases hk : μ1 k with
      | none => rfl
      | some L' =>
        exfalso
        rcases newb k L' hk with h | ⟨g1, g2, _⟩
        · rw [hfj k h1 h2] at h; cases h
        · rcases Nat.lt_or_ge j i with hji | hji
          · have := (chain (j + 1) i (by omega) (by omega)).size
            omega
          · have := (chain (i + 1) j (by omega) (by omega)).size
            rw [hsize] at this
            omega
  · cases hdst : o.dst with
    | none => exact hQ.n
    | some d => simp only [Act.put, Array.size_setIfInBounds]; exact hQ.n
  · cases hdst : o.dst with
    | none => exact hQ.df
    | some d => exact hQ.df
  · rw [getD_set L i j (by rw [hsz]; omega)] at hLj
    by_cases e : j = i
    · subst e
      rw [ho] at hoj
      cases hoj
      have hdn := hT.dlt j o t ho hdj
      simp only [hdj, Act.put, Array.getD_eq_getD_getElem?]
      rw [Array.getElem?_setIfInBounds_self_of_lt (by rw [hQ.n]; exact hdn)]
      exact hv
    · rw [if_neg e] at hLj
      have := (hQ.done t j oj hj hoj hdj hLj).mono hst.ext
      have hne : o.dst ≠ some t := fun h => e (hT.duq j i oj o t hj hi hoj ho hdj h)
      cases hdst : o.dst with
      | none => exact this
      | some d =>
        have hdt : d ≠ t := fun h => hne (by rw [hdst, h])
        simp only [Act.put, Array.getD_eq_getD_getElem?] at this ⊢
        rw [Array.getElem?_setIfInBounds_ne hdt]
        exact this
  · have hne : o.dst ≠ some t := fun h => by
      have := hno i o hi ho h
      rw [getD_set L i i (by rw [hsz]; omega), if_pos rfl] at this
      cases this
    have := (hQ.wait t fun j oj hj hoj hdj => by
      have := hno j oj hj hoj hdj
      rw [getD_set L i j (by rw [hsz]; omega)] at this
      by_cases e : j = i
      · rw [if_pos e] at this; cases this
      · rw [if_neg e] at this; exact this).mono hst.ext
    cases hdst : o.dst with
    | none => exact this
    | some d =>
      have hdt : d ≠ t := fun h => hne (by rw [hdst, h])
      simp only [Act.put, Array.getD_eq_getD_getElem?] at this ⊢
      rw [Array.getElem?_setIfInBounds_ne hdt]
      exact this
theorem wpAny_zero {md : Region.Mode} {Q : Exit → Act → World → Prop} {L : Array Bool} {a : Act} {w : World} (h1 : Region.ready md ops L = []) (h2 : Q .normal a w) : wpAny P md ops Q 0 L a w := ⟨h1, h2⟩
theorem ready_iff {L : Array Bool} {i : Nat} : i ∈ Region.ready .any ops L ↔ i < ops.size ∧ L.getD i true = false ∧ ∃ o, ops.toList[i]? = some o ∧ ∀ e ∈ o.after.toList, Region.binds .any e = true → L.getD e.on false = true := by
  unfold Region.ready
  simp only [List.mem_filter, List.mem_range, Bool.and_eq_true, Bool.not_eq_true']
  constructor
  · rintro ⟨h1, h2, h3⟩
    refine ⟨h1, h2, ?_⟩
    have ho : ops[i]? = some ops[i] := Array.getElem?_eq_getElem h1
    refine ⟨ops[i], by simp [h1], fun e he hb => ?_⟩
    rw [ho] at h3
    simp only [Option.map_some, Option.getD_some, Array.all_eq_true_iff_forall_mem] at h3
    have := h3 e (by simpa using he)
    simpa [hb] using this
  · rintro ⟨h1, h2, o, ho, h3⟩
    refine ⟨h1, h2, ?_⟩
    have ho' : ops[i]? = some o := by simpa using ho
    rw [ho']
    simp only [Option.map_some, Option.getD_some, Array.all_eq_true_iff_forall_mem]
    intro e he
    by_cases hb : Region.binds .any e = true
    · simp [hb, h3 e (by simpa using he) hb]
    · simp [hb]
/-- all orders -/
theorem draw_any (hT : Text P ops n p) (hS : Sound P ih) (hs : ∀ j o, j < p → ops.toList[j]? = some o → QStep P ih ops o (tf j) (sf j) (vf j) (tf (j + 1)) (sf (j + 1))) (hC : CanonOk ih) (hp : p ≤ ops.toList.length) (hn : (tf 0).n = n) (hd : n ≤ 2 ^ (tf 0).d)
    {ts' : Ts} {σ' : St} (hrest : opsV P ih ops (ops.toList.drop p) (tf p) (sf p) = some (ts', σ')) (hfr : Fresh μ0 (sf 0) σ') (hw0 : WfB (sf 0)) {Q : Exit → Act → World → Prop} (hQ : ∀ a w, Ends μ0 (sf 0) w0 ts' σ' a w → Q .normal a w) :
    ∀ (fuel : Nat) (L : Array Bool) (a : Act) (w : World), L.size = ops.toList.length → cnt L ops.toList.length = fuel → Closed ops L →
      (((∀ j, j < ops.toList.length → L.getD j true = true → j < p) ∧ ∃ μ, QInv ops p n tf sf vf μ0 w0 L a w μ) ∨
       (∃ q ts σ μ, p ≤ q ∧ (∀ j, j < ops.toList.length → L.getD j true = decide (j < q)) ∧ opsV P ih ops (ops.toList.drop q) ts σ = some (ts', σ') ∧ TRel μ ts a ∧ Rel μ σ w ∧ Step μ0 μ (sf 0) σ w0 w)) →
      wpAny P .any ops Q fuel L a w := by
  have chain := keeps_chain hs hC hp
  have oplen : ops.size = ops.toList.length := by simp
  -- all free operations have run: from here on the order is the text's
  have turn : ∀ (L : Array Bool) (a : Act) (w : World) (μ : Mu), QInv ops p n tf sf vf μ0 w0 L a w μ → (∀ j, j < p → L.getD j true = true) → TRel μ (tf p) a := by
    intro L a w μ hq hall
    obtain ⟨n1, n2⟩ := tf_n hs hp p (Nat.le_refl _)
    refine ⟨by rw [hq.n, n1, hn], by rw [n1, n2, hn]; exact hd, fun t ht => ?_, hq.df⟩
    obtain ⟨g1, g2⟩ := tf_get hT hs hp hn hd t p (Nat.le_refl _)
    by_cases hex : ∃ (j : Nat) (oj : Oper), j < p ∧ ops.toList[j]? = some oj ∧ oj.dst = some t
    · obtain ⟨j, oj, hj, hoj, hdj⟩ := hex
      rw [g2 j oj hj hoj hdj]
      exact hq.done t j oj hj hoj hdj (hall j hj)
    · rw [g1 (fun j oj hj hoj hdj => hex ⟨j, oj, hj, hoj, hdj⟩)]
      exact hq.wait t fun j oj hj hoj hdj => absurd ⟨j, oj, hj, hoj, hdj⟩ hex
  intro fuel
  induction fuel with
  | zero =>
    intro L a w hsz hcnt hCl hstate
    have hall : ∀ j, j < ops.toList.length → L.getD j true = true := fun j hj => by
      cases h : L.getD j true with
      | true => rfl
      | false =>
        have : j ∈ (List.range ops.toList.length).filter fun j => !L.getD j true := List.mem_filter.2 ⟨List.mem_range.2 hj, by rw [h]; rfl⟩
        have hz := List.length_eq_zero_iff.1 hcnt
        rw [hz] at this; simp at this
    refine wpAny_zero ?_ ?_
    · rw [List.eq_nil_iff_forall_not_mem]
      intro i hi
      obtain ⟨h1, h2, _⟩ := ready_iff.1 hi
      rw [hall i (by omega)] at h2; cases h2
    · rcases hstate with ⟨hlt, μ, hq⟩ | ⟨q, ts, σ, μ, hpq, hL, hrun, t1, t2, t3⟩
      · have hpe : p = ops.toList.length := by
          rcases Nat.lt_or_ge p ops.toList.length with h | h
          · have := hlt p h (hall p h); omega
          · omega
        rw [hpe, List.drop_length] at hrest
        simp only [opsV, Option.some.injEq, Prod.mk.injEq] at hrest
        rw [← hpe] at hrest
        obtain ⟨e1, e2⟩ := hrest
        refine hQ a w ⟨μ, ?_, ?_, ?_⟩
        · rw [← e1]; exact turn L a w μ hq fun j hj => hall j (by omega)
        · rw [← e2]; exact hq.rel
        · rw [← e2]; exact hq.step
      · have hqe : ops.toList.length ≤ q := by
          rcases Nat.lt_or_ge q ops.toList.length with h | h
          · have := hall q h
            rw [hL q h] at this
            simp at this
          · exact h
        rw [List.drop_eq_nil_of_le hqe] at hrun
        simp only [opsV, Option.some.injEq, Prod.mk.injEq] at hrun
        obtain ⟨rfl, rfl⟩ := hrun
        exact hQ a w ⟨μ, t1, t2, t3⟩
  | succ fuel IH =>
    intro L a w hsz hcnt hCl hstate
    have hcl' : ∀ i o, ops.toList[i]? = some o → (∀ e ∈ o.after.toList, Region.binds .any e = true → L.getD e.on false = true) → i < ops.toList.length → Closed ops (L.setIfInBounds i true) := by
      intro i o ho hpre hi j oj hoj hlj e he hb
      rw [Listed, getD_set L i e.on (by omega)]
      by_cases e1 : e.on = i
      · rw [if_pos e1]
      · rw [if_neg e1]
        rw [Listed, getD_set L i j (by omega)] at hlj
        by_cases e2 : j = i
        · subst e2
          rw [ho] at hoj; cases hoj
          have := hpre e he hb
          simp only [Array.getD_eq_getD_getElem?] at this ⊢
          cases h3 : L[e.on]? with
          | none => rfl
          | some b => rw [h3] at this; simpa using this
        · rw [if_neg e2] at hlj
          exact hCl j oj hoj hlj e he hb
    have hcnt' : ∀ i, i < ops.toList.length → L.getD i true = false → cnt (L.setIfInBounds i true) ops.toList.length = fuel := by
      intro i hi hu
      have := filter_one (n := ops.toList.length) hi (f := fun j => !L.getD j true) (g := fun j => !(L.setIfInBounds i true).getD j true) (by simp [hu]) (by rw [getD_set L i i (by omega)]; simp) (fun j hj => by rw [getD_set L i j (by omega), if_neg hj])
      unfold cnt at hcnt ⊢
      omega
    have hsz' : ∀ i, (L.setIfInBounds i true).size = ops.toList.length := fun i => by simpa using hsz
    have hpre2 : ∀ o : Oper, (∀ e ∈ o.after.toList, Region.binds .any e = true → L.getD e.on false = true) → ∀ e ∈ o.after.toList, Region.binds .any e = true → Listed L e.on := by
      intro o h e he hb
      have := h e he hb
      unfold Listed
      simp only [Array.getD_eq_getD_getElem?] at this ⊢
      cases h3 : L[e.on]? with
      | none => rfl
      | some b => rw [h3] at this; simpa using this
    -- one operation of the forced ones
    have forcedStep : ∀ (q : Nat) (ts : Ts) (σ : St) (μ : Mu), p ≤ q → (∀ j, j < ops.toList.length → L.getD j true = decide (j < q)) → opsV P ih ops (ops.toList.drop q) ts σ = some (ts', σ') → TRel μ ts a → Rel μ σ w → Step μ0 μ (sf 0) σ w0 w →
        ∀ i ∈ Region.ready .any ops L, wpOp P ops Q i (wpAny P .any ops Q fuel (L.setIfInBounds i true)) a w := by
      intro q ts σ μ hpq hL hrun t1 t2 t3 i hi
      obtain ⟨h1, h2, o, ho, hpre⟩ := ready_iff.1 hi
      have hil : i < ops.toList.length := by omega
      have hiq : q ≤ i := by
        rw [hL i hil] at h2
        simp at h2; exact h2
      have hbits := bits_listed hCl hT.back i o ho (hpre2 o hpre)
      have hie : i = q := by
        rcases Nat.lt_or_ge q i with h | h
        · have := hbits q (hT.forced i (by omega) hil q h)
          rw [Listed, hL q (by omega)] at this
          simp at this
        · omega
      subst hie
      have ho' : ops[i]? = some o := by simpa using ho
      have hdrop : ops.toList.drop i = o :: ops.toList.drop (i + 1) := by
        rw [List.drop_eq_getElem_cons hil]
        congr 1
        exact (List.getElem?_eq_some_iff.1 ho).2
      rw [hdrop] at hrun
      simp only [opsV] at hrun
      have hw := wantedV_eq t1 ops o
      have hL' : ∀ j, j < ops.toList.length → (L.setIfInBounds i true).getD j true = decide (j < i + 1) := fun j hj => by
        rw [getD_set L i j (by omega)]
        by_cases e : j = i
        · subst e; simp
        · rw [if_neg e, hL j hj]
          by_cases hlt : j < i
          · simp [hlt]; omega
          · simp [hlt]; omega
      unfold wpOp
      rw [ho']
      simp only
      split at hrun
      · rename_i hwt
        rw [if_pos (by rw [hw]; exact hwt)]
        split at hrun
        case h_2 => cases hrun
        rename_i v s1 hop
        split at hrun
        case isFalse => cases hrun
        rename_i hs1
        have hs2 := opsV_size _ _ _ _ _ hrun
        refine .inl (opV_wp hS hop t1 t2 ((t3.fresh hfr).mono hs2) fun μ' v' w' g1 g2 g3 => ?_)
        exact IH _ _ _ (hsz' i) (hcnt' i hil h2) (hcl' i o ho hpre hil) (.inr ⟨i + 1, _, s1, μ', by omega, hL', hrun, (t1.mono g3.ext).putV g1 o.dst, g2, t3.trans g3⟩)
      · rename_i hwt
        rw [if_neg (by rw [hw]; exact hwt)]
        exact IH _ _ _ (hsz' i) (hcnt' i hil h2) (hcl' i o ho hpre hil) (.inr ⟨i + 1, _, σ, μ, by omega, hL', hrun, t1.putV (vrel_undef μ) o.dst, t2, t3⟩)
    refine ⟨fun hr => ?_, fun i hi => ?_⟩
    · -- there is always one that is ready
      exfalso
      have hex : ∃ j, j < ops.toList.length ∧ L.getD j true = false := by
        have hne : (List.range ops.toList.length).filter (fun j => !L.getD j true) ≠ [] := fun h => by
          unfold cnt at hcnt; rw [h] at hcnt; simp at hcnt
        obtain ⟨j, hj⟩ := List.exists_mem_of_ne_nil _ hne
        simp only [List.mem_filter, List.mem_range, Bool.not_eq_true'] at hj
        exact ⟨j, hj⟩
      have least : ∀ k j, j < k → j < ops.toList.length → L.getD j true = false → False := by
        intro k
        induction k with
        | zero => intro j hj; omega
        | succ k ihk =>
          intro j hj hjl hju
          obtain ⟨o, ho⟩ : ∃ o, ops.toList[j]? = some o := ⟨_, List.getElem?_eq_getElem hjl⟩
          have : j ∈ Region.ready .any ops L := ready_iff.2 ⟨by omega, hju, o, ho, fun e he hb => by
            have hlt := hT.back j o ho e he hb
            have h1 : L.getD e.on true = true := by
              cases h : L.getD e.on true with
              | true => rfl
              | false => exact (ihk e.on (by omega) (by omega) h).elim
            simp only [Array.getD_eq_getD_getElem?] at h1 ⊢
            have : e.on < L.size := by omega
            rw [Array.getElem?_eq_getElem this] at h1 ⊢
            simpa using h1⟩
          rw [hr] at this; simp at this
      obtain ⟨j, hj, hu⟩ := hex
      exact least (j + 1) j (by omega) hj hu
    · rcases hstate with ⟨hlt, μ, hq⟩ | ⟨q, ts, σ, μ, hpq, hL, hrun, t1, t2, t3⟩
      · obtain ⟨h1, h2, o, ho, hpre⟩ := ready_iff.1 hi
        have hil : i < ops.toList.length := by omega
        by_cases hip : i < p
        · have ho' : ops[i]? = some o := by simpa using ho
          have hpl := hpre2 o hpre
          have hlook := fun t ht => look_ok hT hs hp hn hd hq hCl hlt hip ho h2 hpl (t := t) ht
          have hops : ∀ t, (.tmp t) ∈ o.op.operands → VRel μ (getT (tf i) t) (a.tmps.getD t undef) := fun t ht => hlook t (List.mem_append_left _ (List.mem_filterMap.2 ⟨.tmp t, by simpa using ht, rfl⟩))
          have hguard : Region.wanted o (yielded ops a.tmps) = wantedV ops (tf i) o := wanted_part ops o fun j want d hg hd' => hlook d (by
            unfold Oper.looksAt
            rw [hg]
            exact List.mem_append_right _ (by simp [hd']))
          have hlt' : ∀ j, j < ops.toList.length → (L.setIfInBounds i true).getD j true = true → j < p := fun j hj hl => by
            rw [getD_set L i j (by omega)] at hl
            by_cases e : j = i
            · omega
            · rw [if_neg e] at hl; exact hlt j hj hl
          obtain ⟨hts, hcase⟩ := hs i o hip ho
          unfold wpOp
          rw [ho']
          simp only
          rcases hcase with ⟨hw, s1, hop, hwr, hs1⟩ | ⟨hw, hv, hs1⟩
          · rw [if_pos (by rw [hguard]; exact hw)]
            have hwf : WfB (sf i) := (chain 0 i (by omega) (by omega)).wf hw0
            have hRi : Rel μ { sf i with wr := 65536 } w := by
              have := hq.rel.down (chain i p (by omega) (Nat.le_refl _)) hwf
              exact ⟨this.wf, this.blk, this.apart⟩
            have hfi : Fresh μ { sf i with wr := 65536 } s1 := by
              have := hq.fresh i hip h2
              rw [hs1] at this
              exact this
            refine .inl ((opV_part hS (hT.sel i o ho) hop hops hRi hfi (by rw [hq.n]; exact hd) (by rw [(tf_n hs hp i (by omega)).1, hn]; exact hd)).wp fun μ' v' w' g1 g2 g3 => ?_)
            exact IH _ _ _ (hsz' i) (hcnt' i hil h2) (hcl' i o ho hpre hil) (.inl ⟨hlt', μ', hq.next (σa := { sf i with wr := 65536 }) hT hs hC hp hsz hip ho h2 hwr rfl (by rw [hs1]) (fun k => by rw [hs1]; rfl) g1 g2 g3⟩)
          · rw [if_neg (by rw [hguard, hw]; simp)]
            refine IH _ _ _ (hsz' i) (hcnt' i hil h2) (hcl' i o ho hpre hil) (.inl ⟨hlt', μ, ?_⟩)
            refine hq.next (s1 := { sf i with wr := (sf i).size }) (σa := { sf i with wr := (sf i).size }) hT hs hC hp hsz hip ho h2 (Nat.le_refl _) rfl (by rw [hs1]) (fun k => by rw [hs1]; rfl) (by rw [hv]; exact vrel_undef μ) ?_ (Step.refl _ _ _)
            have := hq.rel.down (chain i p (by omega) (Nat.le_refl _)) ((chain 0 i (by omega) (by omega)).wf hw0)
            exact ⟨this.wf, this.blk, this.apart⟩
        · -- all before it have run
          have hbits := bits_listed hCl hT.back i o ho (hpre2 o hpre)
          have hall : ∀ j, j < i → L.getD j true = true := fun j hj => hbits j (hT.forced i (by omega) hil j hj)
          have hpe : i = p := by
            rcases Nat.lt_or_ge p i with h | h
            · have := hlt p (by omega) (hall p h); omega
            · omega
          subst hpe
          refine forcedStep i (tf i) (sf i) μ (Nat.le_refl _) (fun j hj => ?_) hrest (turn L a w μ hq hall) hq.rel hq.step i hi
          by_cases hji : j < i
          · rw [hall j hji]; simp [hji]
          · cases h : L.getD j true with
            | false => simp [hji]
            | true => exact absurd (hlt j hj h) hji
      · exact forcedStep q ts σ μ hpq hL hrun t1 t2 t3 i hi
end
/-- a region that draws its order -/
def drawV (P : Program) (ih : Ih) (ops : Array Oper) (ts : Ts) (σ : St) : Option (Ts × St) :=
  if drawOK P ops ts.n (freeN ops) then match qV P ih ops (ops.toList.take (freeN ops)) ts σ with
    | some (ts1, s1) => opsV P ih ops (ops.toList.drop (freeN ops)) ts1 s1
    | none => none
  else none
theorem canon_draw {P : Program} {ih : Ih} (hC : CanonOk ih) {ops : Array Oper} {ts : Ts} {σ : St} {ts' : Ts} {σ' : St} (h : drawV P ih ops ts σ = some (ts', σ')) : Canon σ σ' := by
  unfold drawV at h
  split at h
  case isFalse => cases h
  split at h
  case h_2 => cases h
  rename_i ts1 s1 hq
  obtain ⟨tf, sf, vf, a1, a2, a3, a4, a5⟩ := qV_run _ _ _ _ _ hq
  have hple : freeN ops ≤ ops.toList.length := Nat.sub_le _ _
  have hlen : (ops.toList.take (freeN ops)).length = freeN ops := by rw [List.length_take]; exact Nat.min_eq_left hple
  rw [hlen] at a3 a4
  have hs : ∀ j o, j < freeN ops → ops.toList[j]? = some o → QStep P ih ops o (tf j) (sf j) (vf j) (tf (j + 1)) (sf (j + 1)) := fun j o hj ho => a5 j o (by rw [List.getElem?_take, if_pos hj]; exact ho)
  have chain := keeps_chain hs hC hple 0 (freeN ops) (Nat.zero_le _) (Nat.le_refl _)
  rw [a2, a4] at chain
  exact Canon.trans ⟨chain.size, chain.wr, fun k h1 _ => chain.same k h1, chain.wf⟩ (canon_ops hC _ _ _ _ _ h)
def DrawOk2 (P : Program) (draw : Ih → Array Oper → Ts → St → Option (Ts × St)) : Prop :=
  ∀ ih, Sound P ih → CanonOk ih → ∀ ops ts σ ts' σ', draw ih ops ts σ = some (ts', σ') → Canon σ σ' ∧ ∀ (id : Nat) (μ : Mu) (a : Act) (w : World), TRel μ ts a → Rel μ σ w → Fresh μ σ σ' →
    (Code.region id ops true).wp P (fun e a' w' => e = .normal ∧ Ends μ σ w ts' σ' a' w') a w
theorem drawV_ok (P : Program) : DrawOk2 P (drawV P) := by
  intro ih hS hC ops ts σ ts' σ' h
  unfold drawV at h
  split at h
  case isFalse => cases h
  rename_i hok
  have hT := text_of hok
  have hple : freeN ops ≤ ops.toList.length := Nat.sub_le _ _
  split at h
  case h_2 => cases h
  rename_i ts1 s1 hq
  obtain ⟨tf, sf, vf, a1, a2, a3, a4, a5⟩ := qV_run _ _ _ _ _ hq
  have hlen : (ops.toList.take (freeN ops)).length = freeN ops := by rw [List.length_take]; exact Nat.min_eq_left hple
  rw [hlen] at a3 a4
  have hs : ∀ j o, j < freeN ops → ops.toList[j]? = some o → QStep P ih ops o (tf j) (sf j) (vf j) (tf (j + 1)) (sf (j + 1)) := fun j o hj ho => a5 j o (by rw [List.getElem?_take, if_pos hj]; exact ho)
  have chain := keeps_chain hs hC hple 0 (freeN ops) (Nat.zero_le _) (Nat.le_refl _)
  have hcan : Canon σ σ' := by
    have hk := canon_ops hC _ _ _ _ _ h
    rw [a2, a4] at chain
    exact Canon.trans ⟨chain.size, chain.wr, fun k h1 _ => chain.same k h1, chain.wf⟩ hk
  refine ⟨hcan, fun id μ a w tr rel fr => ?_⟩
  refine wp_region_any hT.mixed ?_
  have hsz : (Array.replicate ops.size false).size = ops.toList.length := by simp
  have hrel0 : Rel μ (sf 0) { w with drawn := w.drawn + 1 } := by rw [a2]; exact ⟨rel.wf, rel.blk, rel.apart⟩
  have hstep0 : Step μ μ (sf 0) (sf 0) w { w with drawn := w.drawn + 1 } := ⟨Mu.le.refl _, fun _ _ h => .inl h, Nat.le_refl _, Nat.le_refl _, Nat.le_refl _, rfl, rfl, rfl, fun _ _ _ => rfl, fun _ _ _ => rfl⟩
  have hfr0 : Fresh μ (sf 0) (sf (freeN ops)) := by
    rw [a2, a4]
    exact fr.mono (canon_ops hC _ _ _ _ _ h).size
  have hrelp : Rel μ (sf (freeN ops)) { w with drawn := w.drawn + 1 } := hrel0.up chain hfr0
  have hno : ∀ j, (Array.replicate ops.size false).getD j true = true → ¬ j < ops.size := fun j h1 h2 => by
    simp [Array.getD_eq_getD_getElem?, Array.getElem?_replicate, h2] at h1
  have hno' : ∀ j, j < ops.size → (Array.replicate ops.size false).getD j true = false := fun j h2 => by
    simp [Array.getD_eq_getD_getElem?, Array.getElem?_replicate, h2]
  have oplen : ops.size = ops.toList.length := by simp
  have hfin : ∀ a1 w1, Ends μ (sf 0) { w with drawn := w.drawn + 1 } ts' σ' a1 w1 → Ends μ σ w ts' σ' a1 w1 := by
    rintro a1 w1 ⟨μ', t1, t2, t3⟩
    rw [a2] at t3 hstep0
    exact ⟨μ', t1, t2, hstep0.trans t3⟩
  refine draw_any (μ0 := μ) (w0 := { w with drawn := w.drawn + 1 }) (n := ts.n) (p := freeN ops) hT hS hs hC hple (by rw [a1]) (by rw [a1]; exact tr.d) (by rw [a3, a4]; exact h) (by rw [a2]; exact fr) hrel0.wf (fun a1 w1 he => ⟨rfl, hfin a1 w1 he⟩) ops.size _ a _ hsz ?_ ?_ (.inl ⟨fun j hj hl => absurd (by omega) (hno j hl), μ, ?_⟩)
  · unfold cnt
    rw [← oplen, List.filter_eq_self.2 (fun j hj => by rw [hno' j (by simpa using hj)]; rfl), List.length_range]
  · intro j o ho hl
    have : j < ops.toList.length := (List.getElem?_eq_some_iff.1 ho).1
    exact absurd (by omega) (hno j hl)
  · refine ⟨hrelp, ⟨Mu.le.refl _, fun _ _ h => .inl h, chain.size, chain.wr, Nat.le_refl _, rfl, rfl, rfl, fun _ _ _ => rfl, fun k h1 _ => chain.same k h1⟩, fun j hj _ => ?_, tr.n, tr.df, fun t j o hj ho hd hl => absurd (by omega) (hno j hl), fun t _ => by rw [a1]; exact tr.get t⟩
    have c1 := keeps_chain hs hC hple 0 j (Nat.zero_le _) (by omega)
    have c2 := keeps_chain hs hC hple (j + 1) (freeN ops) (by omega) (Nat.le_refl _)
    intro k h1 h2
    exact hfr0 k (Nat.le_trans c1.size h1) (Nat.lt_of_lt_of_le h2 c2.size)
theorem CanonOk.size {ih : Ih} (h : CanonOk ih) : SizeOk ih := fun c ts σ ex ts' σ' e => (h c ts σ ex ts' σ' e).size
/-! closed runs: what a call answers, for every world -/
def st0 : St := { heap := .nil, size := 0, wr := 65536 }
def mu0 : Mu := fun _ => none
theorem rel0 (w : World) : Rel mu0 st0 w := ⟨fun k B h => by rw [St.getB_eq] at h; simp [st0, Tr.get_nil] at h, fun k B L h hk => by simp [mu0] at hk, fun k k' B B' L L' h h' hne hk => by simp [mu0] at hk⟩
theorem Step.below {μ' : Mu} {σ σ' : St} {w w' : World} (h : Step mu0 μ' σ σ' w w') : Below w.heap.size w w' :=
  ⟨h.os, h.tape, h.output, h.hs, fun k hk => h.frame k hk fun k L h => by simp [mu0] at h⟩
end
end Go.Proofs.Ytadamjleglckpaa.ev

/- The reckoner, made fast: what a text alone decides is decided once. -/
namespace Go.Proofs.Ytadamjleglckpaa.ev
open Go.RowKit
set_option linter.unusedSimpArgs false
set_option linter.unusedVariables false
set_option linter.unusedSectionVars false
noncomputable section
variable [Kn]

structure G where
  get : Ts → Value
def gOf (x : Operand) : Option G :=
  match x with
  | .tmp t => some ⟨fun ts => getT ts t⟩
  | .const v => match flat v with
    | true => some ⟨fun _ => v⟩
    | false => none
  | .func f => some ⟨fun _ => .func (.func f) #[] #[]⟩
  | .global _ => none
theorem gOf_eq {x : Operand} {g : G} (h : gOf x = some g) (ts : Ts) : evo ts x = some (g.get ts) := by
  cases x with
  | tmp t => simp only [gOf, Option.some.injEq] at h; subst h; rfl
  | const v =>
    simp only [gOf] at h
    split at h
    · rename_i hf
      simp only [Option.some.injEq] at h; subst h
      simp only [evo, hf]
    · cases h
  | func f => simp only [gOf, Option.some.injEq] at h; subst h; rfl
  | global g => simp [gOf] at h
structure OC where
  run : Ih → Ts → St → Option (Value × St)
def slowO (P : Program) (o : Oper) : OC := ⟨fun ih ts σ => opV P ih ts σ o⟩
def execO (P : Program) (o : Oper) : OC := ⟨fun _ ts σ => exec P σ ts o⟩
/-- sums and comparisons of numbers -/
structure BF where
  f : IntKind → Int → Int → Value
def bfOf (op : BinOp) : Option BF :=
  match op with
  | .add => some ⟨fun k a b => .int k (wrF k (a + b))⟩
  | .sub => some ⟨fun k a b => .int k (wrF k (a - b))⟩
  | .mul => some ⟨fun k a b => .int k (wrF k (a * b))⟩
  | .eql => some ⟨fun _ a b => .bool (eqI a b)⟩
  | .neq => some ⟨fun _ a b => .bool (!eqI a b)⟩
  | .lss => some ⟨fun _ a b => .bool (ltI a b)⟩
  | .leq => some ⟨fun _ a b => .bool (!ltI b a)⟩
  | .gtr => some ⟨fun _ a b => .bool (ltI b a)⟩
  | .geq => some ⟨fun _ a b => .bool (!ltI a b)⟩
  | _ => none
theorem bfOf_eq {op : BinOp} {F : BF} (h : bfOf op = some F) (k : IntKind) (a b : Int) : intV op k a b = some (F.f k a b) := by
  cases op <;> simp only [bfOf, Option.some.injEq] at h <;> first | (cases h; done) | (subst h; rfl)
def intP (v : Value) : Option (IntKind × Int) := match v with | .int k n => some (k, n) | _ => none
theorem intP_some {v : Value} {p : IntKind × Int} (h : intP v = some p) : v = .int p.1 p.2 := by
  cases v <;> simp [intP] at h
  subst h; rfl
def binR (F : BF) (slow : Option (Value × St)) (σ : St) (x y : Value) : Option (Value × St) :=
  match intP x with
  | some p => match intP y with
    | some q => match sameK p.1 q.1 with
      | true => some (F.f p.1 p.2 q.2, σ)
      | false => slow
    | none => slow
  | none => slow
def valC (P : Program) (o : Oper) (x : Operand) : OC :=
  match gOf x with
  | some g => ⟨fun _ ts σ => some (g.get ts, σ)⟩
  | none => execO P o
def ptrP (v : Value) : Option (Nat × Nat) := match v with | .pointer (some ⟨k, off, none⟩) => some (k, off) | _ => none
theorem ptrP_some {v : Value} {p : Nat × Nat} (h : ptrP v = some p) : v = .pointer (some ⟨p.1, p.2, none⟩) := by
  unfold ptrP at h
  split at h
  · cases h; rfl
  · cases h
def nthO : List Value → Nat → Option Value
  | [], _ => none
  | v :: _, 0 => some v
  | _ :: l, n + 1 => nthO l n
theorem nthO_eq : ∀ (l : List Value) (n : Nat), nthO l n = l[n]?
  | [], n => by simp [nthO]
  | v :: l, 0 => by simp [nthO]
  | v :: l, n + 1 => by simpa [nthO] using nthO_eq l n
def loadOne (slow : Option (Value × St)) (σ : St) (v : Value) : Option (Value × St) :=
  match ptrP v with
  | some p => match σ.getB p.1 with
    | some B => match nthO B.cells p.2 with
      | some r => some (r, σ)
      | none => slow
    | none => slow
  | none => slow
def loadC (P : Program) (o : Oper) (t : TypeId) (x : Operand) : OC :=
  match gOf x, P.underlying t, P.info? t with
  | some g, some d, some _ => match d.isRow with
    | true => execO P o
    | false => ⟨fun _ ts σ => loadOne (exec P σ ts o) σ (g.get ts)⟩
  | _, _, _ => execO P o
def addPtr (slow : Option (Value × St)) (σ : St) (off : Nat) (v : Value) : Option (Value × St) :=
  match ptrP v with
  | some p => some (.pointer (some ⟨p.1, p.2 + off, none⟩), σ)
  | none => slow
def offOf (P : Program) (s : TypeId) (f : Nat) : Option Nat :=
  match P.underlying s with
  | some (.struct fs) => match fs[f]? with
    | some fd => match P.info? fd.type with
      | some i => match Nat.beq i.size 0 with
        | true => none
        | false => some fd.offset
      | none => none
    | none => none
  | _ => none
def fieldAddrC (P : Program) (o : Oper) (s : TypeId) (x : Operand) (f : Nat) : OC :=
  match gOf x, offOf P s f with
  | some g, some off => ⟨fun _ ts σ => addPtr (exec P σ ts o) σ off (g.get ts)⟩
  | _, _ => execO P o
def notR (slow : Option (Value × St)) (σ : St) (v : Value) : Option (Value × St) :=
  match boolOf v with
  | some b => some (.bool (!b), σ)
  | none => slow
def notC (P : Program) (o : Oper) (op : UnOp) (x : Operand) : OC :=
  match op, gOf x with
  | .not, some g => ⟨fun _ ts σ => notR (exec P σ ts o) σ (g.get ts)⟩
  | _, _ => execO P o
def gsOf : List Operand → Option (List G)
  | [] => some []
  | x :: l => match gOf x, gsOf l with
    | some g, some gs => some (g :: gs)
    | _, _ => none
def getsV (ts : Ts) : List G → List Value
  | [] => []
  | g :: gs => g.get ts :: getsV ts gs
theorem gsOf_eq : ∀ {l : List Operand} {gs : List G}, gsOf l = some gs → ∀ ts, oksL ts l = true ∧ l.map (vof ts) = getsV ts gs
  | [], gs, h, ts => by simp [gsOf] at h; subst h; exact ⟨rfl, rfl⟩
  | x :: l, gs, h, ts => by
    simp only [gsOf] at h
    split at h
    · rename_i g gs' hg hgs
      simp only [Option.some.injEq] at h; subst h
      obtain ⟨i1, i2⟩ := gsOf_eq hgs ts
      have := gOf_eq hg ts
      refine ⟨?_, ?_⟩
      · unfold oksL at *; simp only [List.all_cons, this, i1]; rfl
      · have hv : vof ts x = g.get ts := by unfold vof; rw [this]; rfl
        rw [List.map_cons, i2, hv]; rfl
    · cases h
def callFd (P : Program) (ih : Ih) (g : FuncId) (fd : Fd) (args : List Value) (σ : St) : Option (Value × St) :=
  match Kn.val g args with
  | some r => some (r, σ)
  | none => callK P ih fd args σ
theorem callF_fd {P : Program} {ih : Ih} {g : FuncId} {fd : Fd} (h : fdOf P g = some fd) (args : List Value) (σ : St) : callF P ih g args σ = callFd P ih g fd args σ := by
  unfold callF callFd; rw [h]; rfl
def callC (P : Program) (o : Oper) (c : Call) : OC :=
  match c.callee with
  | .value (.func g) => match fdOf P g, gsOf c.args.toList with
    | some fd, some gs => ⟨fun ih ts σ => callFd P ih g fd (getsV ts gs) σ⟩
    | _, _ => slowO P o
  | .value _ => slowO P o
  | .invoke _ _ => slowO P o
  | .builtin _ => ⟨fun _ ts σ => xCall P σ ts o c⟩
def u1 (P : Program) (o : Oper) (x : Operand) (f : Ts → St → Option Value → Option (Value × St)) : OC :=
  match gOf x with
  | some g => ⟨fun _ ts σ => f ts σ (some (g.get ts))⟩
  | none => execO P o
def u2 (P : Program) (o : Oper) (x y : Operand) (f : St → Option Value → Option Value → Option (Value × St)) : OC :=
  match gOf x, gOf y with
  | some g, some k => ⟨fun _ ts σ => f σ (some (g.get ts)) (some (k.get ts))⟩
  | _, _ => execO P o
theorem u1_eq {P : Program} {o : Oper} {x : Operand} {f : Ts → St → Option Value → Option (Value × St)} (h : ∀ ts σ, exec P σ ts o = f ts σ (evo ts x)) (ih : Ih) (ts : Ts) (σ : St) : (u1 P o x f).run ih ts σ = exec P σ ts o := by
  unfold u1
  split
  · rename_i g hg
    rw [h, gOf_eq hg]
  · rfl
theorem u2_eq {P : Program} {o : Oper} {x y : Operand} {f : St → Option Value → Option Value → Option (Value × St)} (h : ∀ ts σ, exec P σ ts o = f σ (evo ts x) (evo ts y)) (ih : Ih) (ts : Ts) (σ : St) : (u2 P o x y f).run ih ts σ = exec P σ ts o := by
  unfold u2
  split
  · rename_i g k hg hk
    rw [h, gOf_eq hg, gOf_eq hk]
  · rfl
theorem pureRun_value {P : Program} : ∀ (s : Sem Value), pureRun P (s.bind fun v => Sem.pure (Next.value v)) = (pureRun P s).map Next.value
  | .pure a => rfl
  | .program k => by simp only [Sem.bind, pureRun]; exact pureRun_value (k P)
  | .mark m k => by simp only [Sem.bind, pureRun]; exact pureRun_value k
  | .load .. | .store .. | .new .. | .shape .. | .freeze .. | .frozen .. | .getObj .. | .setObj .. | .choose .. | .sys .. | .halt .. => rfl
def flatR (σ : St) (x : Option Value) : Option (Value × St) :=
  match x with
  | some r => match flat r with
    | true => some (r, σ)
    | false => none
  | none => none
/-- other operations on numbers -/
def dirR (P : Program) (op : BinOp) (t : TypeId) (slow : Option (Value × St)) (σ : St) (x y : Value) : Option (Value × St) :=
  match intP x with
  | some p => match intP y with
    | some q => flatR σ (pureRun P (binOp op t (.int p.1 p.2) (.int q.1 q.2)))
    | none => slow
  | none => slow
def binC (P : Program) (o : Oper) (op : BinOp) (t : TypeId) (x y : Operand) : OC :=
  match gOf x, gOf y, bfOf op with
  | some gx, some gy, some F => ⟨fun _ ts σ => binR F (exec P σ ts o) σ (gx.get ts) (gy.get ts)⟩
  | some gx, some gy, none => ⟨fun _ ts σ => dirR P op t (exec P σ ts o) σ (gx.get ts) (gy.get ts)⟩
  | _, _, _ => execO P o
def opC (P : Program) (o : Oper) : OC :=
  match o.op with
  | .move x => valC P o x
  | .assign x => valC P o x
  | .binOp op t x y _ => binC P o op t x y
  | .load t x => loadC P o t x
  | .fieldAddr s x f => fieldAddrC P o s x f
  | .unOp op _ x => notC P o op x
  | .call c => callC P o c
  | .pick c x y => u1 P o c fun ts σ v => xPick σ ts x y v
  | .box _ x => u1 P o x fun _ σ v => xBox σ v
  | .store t x y => u2 P o x y fun σ v u => xStore P σ t v u
  | .indexAddr t x y => u2 P o x y fun σ v u => xIndexAddr P σ t v u
  | .extract x ix => u1 P o x fun _ σ v => xExtract σ ix v
  | .field t x f => u1 P o x fun _ σ v => xField P σ t f v
  | .makeInterface t x => u1 P o x fun _ σ v => xIface P σ t v
  | .nilCheck x => u1 P o x fun ts σ v => xNil P σ ts o v
  | .index t x y => execO P o
  | _ => execO P o
theorem exec_opV {P : Program} {ih : Ih} {ts : Ts} {σ : St} {o : Oper} (h : ∀ c, o.op = .call c → ∃ b, c.callee = .builtin b) : exec P σ ts o = opV P ih ts σ o := by
  unfold opV
  have : callOf P ts o = none := by
    unfold callOf
    split
    · rename_i c ho
      obtain ⟨b, hb⟩ := h c ho
      rw [hb]
    · rfl
  rw [this]
theorem opC_eq (P : Program) (o : Oper) (ih : Ih) (ts : Ts) (σ : St) : (opC P o).run ih ts σ = opV P ih ts σ o := by
  unfold opC
  split
  case h_1 x ho =>
    have hex := exec_opV (P := P) (ih := ih) (ts := ts) (σ := σ) (o := o) (fun c h => by rw [ho] at h; cases h)
    unfold valC
    split
    · rename_i g hg
      rw [← hex]; unfold exec; rw [ho]; simp only [gOf_eq hg ts]; rfl
    · exact hex
  case h_2 x ho =>
    have hex := exec_opV (P := P) (ih := ih) (ts := ts) (σ := σ) (o := o) (fun c h => by rw [ho] at h; cases h)
    unfold valC
    split
    · rename_i g hg
      rw [← hex]; unfold exec; rw [ho]; simp only [gOf_eq hg ts]; rfl
    · exact hex
  case h_3 op t x y t' ho =>
    have hex := exec_opV (P := P) (ih := ih) (ts := ts) (σ := σ) (o := o) (fun c h => by rw [ho] at h; cases h)
    unfold binC
    split
    · rename_i gx gy F hx hy hF
      show binR F _ σ _ _ = _
      unfold binR
      split
      · rename_i p hp
        split
        · rename_i q hq
          split
          · rename_i hk
            rw [← hex]; unfold exec; rw [ho]
            simp only [gOf_eq hx ts, gOf_eq hy ts, intP_some hp, intP_some hq]
            unfold xBin xInt
            simp only [hk, bfOf_eq hF]
            rfl
          · exact hex
        · exact hex
      · exact hex
    · rename_i gx gy hx hy hF
      show dirR P op t _ σ _ _ = _
      unfold dirR
      split
      · rename_i p hp
        split
        · rename_i q hq
          have hiv : intV op p.1 p.2 q.2 = none := by cases op <;> first | rfl | (simp [bfOf] at hF)
          rw [← hex]; unfold exec; rw [ho]
          simp only [gOf_eq hx ts, gOf_eq hy ts, intP_some hp, intP_some hq]
          have hp1 : pureV P σ ts o = flatR σ (pureRun P (binOp op t (.int p.1 p.2) (.int q.1 q.2))) := by
            have hfl : allFlat ts o.op.operands.toList = true := by
              simp only [ho, Op.operands, allFlat, gOf_eq hx ts, gOf_eq hy ts, intP_some hp, intP_some hq]; rfl
            have hse : isSelect o.op = false := by rw [ho]; rfl
            have hexe : execOp (fun x => (evo ts x).getD undef) o = (binOp op t (.int p.1 p.2) (.int q.1 q.2)).bind fun v => Sem.pure (Next.value v) := by
              simp only [execOp, ho, gOf_eq hx ts, gOf_eq hy ts, intP_some hp, intP_some hq, Option.getD_some, eqGuard_at_int]
              rfl
            unfold pureV pureOp
            rw [hfl, hse, hexe, pureRun_value]
            simp only [Bool.not_false, Bool.and_self, if_true]
            cases pureRun P (binOp op t (.int p.1 p.2) (.int q.1 q.2)) with
            | none => rfl
            | some r =>
              simp only [Option.map_some]
              unfold flatR
              cases hf : flat r <;> simp [hf]
          show _ = xInt P σ ts o op p.1 p.2 q.1 q.2
          unfold xInt
          split
          · rw [hiv]; exact hp1.symm
          · exact hp1.symm
        · exact hex
      · exact hex
    · exact hex
  case h_4 t x ho =>
    have hex := exec_opV (P := P) (ih := ih) (ts := ts) (σ := σ) (o := o) (fun c h => by rw [ho] at h; cases h)
    unfold loadC
    split
    · rename_i g d i hg hd hi
      split
      · exact hex
      · rename_i hrow
        show loadOne _ σ _ = _
        unfold loadOne
        split
        · rename_i p hp
          split
          · rename_i B hB
            split
            · rename_i r hr
              rw [← hex]; unfold exec; rw [ho]
              simp only [gOf_eq hg ts, ptrP_some hp]
              unfold xLoad loadB
              simp only [hB, hd, hi, hrow]
              rw [← nthO_eq, hr]; rfl
            · exact hex
          · exact hex
        · exact hex
    · exact hex
  case h_5 s x f ho =>
    have hex := exec_opV (P := P) (ih := ih) (ts := ts) (σ := σ) (o := o) (fun c h => by rw [ho] at h; cases h)
    unfold fieldAddrC
    split
    · rename_i g off hg hoff
      show addPtr _ σ off _ = _
      unfold addPtr
      split
      · rename_i p hp
        rw [← hex]; unfold exec; rw [ho]
        simp only [gOf_eq hg ts, ptrP_some hp]
        unfold offOf at hoff
        unfold xFieldAddr fieldAddrV
        split at hoff
        case h_2 => cases hoff
        rename_i fs hfs
        split at hoff
        case h_2 => cases hoff
        rename_i fd hfd
        split at hoff
        case h_2 => cases hoff
        rename_i i hi
        split at hoff
        · cases hoff
        · rename_i hz
          simp only [Option.some.injEq] at hoff
          subst hoff
          have : i.size ≠ 0 := fun e => by rw [e] at hz; cases hz
          simp only [hfs, hfd, hi, this, if_false]
          rfl
      · exact hex
    · exact hex
  case h_6 op t x ho =>
    have hex := exec_opV (P := P) (ih := ih) (ts := ts) (σ := σ) (o := o) (fun c h => by rw [ho] at h; cases h)
    unfold notC
    split
    · rename_i g hg
      show notR _ σ _ = _
      unfold notR
      split
      · rename_i b hb
        have hv : g.get ts = .bool b := by
          generalize g.get ts = v at hb
          cases v <;> simp [boolOf] at hb
          rw [hb]
        rw [← hex]; unfold exec; rw [ho]
        simp only [gOf_eq hg ts, hv]
        rfl
      · exact hex
    · exact hex
  case h_7 c ho =>
    unfold callC
    split
    · rename_i g hc
      split
      · rename_i fd gs hfd hgs
        show callFd P ih g fd (getsV ts gs) σ = _
        unfold opV callOf
        rw [ho]
        simp only [hc]
        obtain ⟨e1, e2⟩ := gsOf_eq hgs ts
        simp only [evo, e1, e2, if_true]
        rw [callF_fd hfd]
        simp
      · rfl
    · rfl
    · rfl
    · rename_i b hc
      have hex := exec_opV (P := P) (ih := ih) (ts := ts) (σ := σ) (o := o) fun c' h => by rw [ho] at h; cases h; exact ⟨b, hc⟩
      rw [← hex]
      unfold exec; rw [ho]
  case h_8 c x y ho =>
    rw [← exec_opV (P := P) (ih := ih) (ts := ts) (σ := σ) (o := o) (fun c h => by rw [ho] at h; cases h)]
    exact u1_eq (fun ts σ => by unfold exec; rw [ho]) ih ts σ
  case h_9 e x ho =>
    rw [← exec_opV (P := P) (ih := ih) (ts := ts) (σ := σ) (o := o) (fun c h => by rw [ho] at h; cases h)]
    exact u1_eq (fun ts σ => by unfold exec; rw [ho]) ih ts σ
  case h_10 t x y ho =>
    rw [← exec_opV (P := P) (ih := ih) (ts := ts) (σ := σ) (o := o) (fun c h => by rw [ho] at h; cases h)]
    exact u2_eq (fun ts σ => by unfold exec; rw [ho]) ih ts σ
  case h_11 t x y ho =>
    rw [← exec_opV (P := P) (ih := ih) (ts := ts) (σ := σ) (o := o) (fun c h => by rw [ho] at h; cases h)]
    exact u2_eq (fun ts σ => by unfold exec; rw [ho]) ih ts σ
  case h_12 x ix ho =>
    rw [← exec_opV (P := P) (ih := ih) (ts := ts) (σ := σ) (o := o) (fun c h => by rw [ho] at h; cases h)]
    exact u1_eq (fun ts σ => by unfold exec; rw [ho]) ih ts σ
  case h_13 t x f ho =>
    rw [← exec_opV (P := P) (ih := ih) (ts := ts) (σ := σ) (o := o) (fun c h => by rw [ho] at h; cases h)]
    exact u1_eq (fun ts σ => by unfold exec; rw [ho]) ih ts σ
  case h_14 t x ho =>
    rw [← exec_opV (P := P) (ih := ih) (ts := ts) (σ := σ) (o := o) (fun c h => by rw [ho] at h; cases h)]
    exact u1_eq (fun ts σ => by unfold exec; rw [ho]) ih ts σ
  case h_15 x ho =>
    rw [← exec_opV (P := P) (ih := ih) (ts := ts) (σ := σ) (o := o) (fun c h => by rw [ho] at h; cases h)]
    exact u1_eq (fun ts σ => by unfold exec; rw [ho]) ih ts σ
  case h_16 t x y ho =>
    exact exec_opV (P := P) (ih := ih) (ts := ts) (σ := σ) (o := o) (fun c h => by rw [ho] at h; cases h)
  case h_17 =>
    rename_i hcall _ _ _ _ _ _ _ _ _
    exact exec_opV fun c' h => absurd h (hcall c')

/-! a region's operations -/
structure RC where
  run : Ih → Ts → St → Option (Ts × St)
def forceN {β : Type} (n : Nat) (k : Nat → β) : β := Nat.rec (motive := fun _ => β) (k 0) (fun p _ => k (Nat.succ p)) n
theorem forceN_eq {β : Type} (n : Nat) (k : Nat → β) : forceN n k = k n := by cases n <;> rfl
def forceI {β : Type} (n : Int) (k : Int → β) : β := Int.rec (motive := fun _ => β) (fun m => forceN m fun m => k (.ofNat m)) (fun m => forceN m fun m => k (.negSucc m)) n
theorem forceI_eq {β : Type} (n : Int) (k : Int → β) : forceI n k = k n := by
  cases n with
  | ofNat m => exact forceN_eq m (fun m => k (.ofNat m))
  | negSucc m => exact forceN_eq m (fun m => k (.negSucc m))
def forceA {β : Type} (a : Option Addr) (k : Option Addr → β) : β :=
  match a with
  | some ⟨b, o, none⟩ => forceN b fun b => forceN o fun o => k (some ⟨b, o, none⟩)
  | a => k a
theorem forceA_eq {β : Type} (a : Option Addr) (k : Option Addr → β) : forceA a k = k a := by
  unfold forceA
  split
  · rw [forceN_eq, forceN_eq]
  · rfl
def forceV {β : Type} (v : Value) (k : Value → β) : β :=
  match v with
  | .int kd n => forceI n fun n => k (.int kd n)
  | .bool b => match b with
    | true => k (.bool true)
    | false => k (.bool false)
  | .pointer a => forceA a fun a => k (.pointer a)
  | .slice a n c => forceA a fun a => forceN n fun n => forceN c fun c => k (.slice a n c)
  | v => k v
theorem forceV_eq {β : Type} (v : Value) (k : Value → β) : forceV v k = k v := by
  unfold forceV
  split
  · exact forceI_eq _ _
  · split <;> rfl
  · exact forceA_eq _ _
  · rw [forceA_eq, forceN_eq, forceN_eq]
  · rfl
def forceS {β : Type} (σ : St) (k : St → β) : β := St.rec (motive := fun _ => β) (fun heap size wr => forceN size fun size => forceN wr fun wr => k ⟨heap, size, wr⟩) σ
theorem forceS_eq {β : Type} (σ : St) (k : St → β) : forceS σ k = k σ := by
  obtain ⟨heap, size, wr⟩ := σ
  exact (forceN_eq size (fun size => forceN wr fun wr => k ⟨heap, size, wr⟩)).trans (forceN_eq wr (fun wr => k ⟨heap, size, wr⟩))
def forceT {β : Type} (ts : Ts) (k : Ts → β) : β := Ts.rec (motive := fun _ => β) (fun n tr => k ⟨n, tr⟩) ts
theorem forceT_eq {β : Type} (ts : Ts) (k : Ts → β) : forceT ts k = k ts := rfl
/-- a value put into a slot that the text names -/
structure PK where
  put : Ts → Value → (Ts → Option (Ts × St)) → Option (Ts × St)
def putC (dst : Option Tmp) : PK :=
  match dst with
  | none => ⟨fun ts _ k => k ts⟩
  | some d => ⟨fun ts v k => Ts.rec (motive := fun _ => Option (Ts × St)) (fun n tr => Bool.rec (k ⟨n, tr⟩) (k ⟨n, (sacS d).set v tr⟩) (Nat.ble (Nat.succ d) n)) ts⟩
theorem putC_eq (dst : Option Tmp) (ts : Ts) (v : Value) (k : Ts → Option (Ts × St)) : (putC dst).put ts v k = k (putV ts dst v) := by
  cases dst with
  | none => rfl
  | some d =>
    obtain ⟨n, tr⟩ := ts
    show Bool.rec (motive := fun _ => Option (Ts × St)) (k ⟨n, tr⟩) (k ⟨n, (sacS d).set v tr⟩) (Nat.ble (Nat.succ d) n) = k (Bool.rec (motive := fun _ => Ts) ⟨n, tr⟩ ⟨n, (sacS d).set v tr⟩ (Nat.ble (Nat.succ d) n))
    cases Nat.ble (Nat.succ d) n <;> rfl
/-- operations that only reckon a value -/
def isPu : Op → Bool
  | .move _ | .assign _ | .binOp .. | .load .. | .fieldAddr .. | .unOp .. | .pick .. | .indexAddr .. | .extract .. | .field .. | .makeInterface .. | .nilCheck _ | .index .. => true
  | _ => false
def fstO (x : Option (Value × St)) : Option Value := Option.rec (motive := fun _ => Option Value) none (fun p => Prod.rec (motive := fun _ => Option Value) (fun v _ => some v) p) x
structure PC where
  run : Ts → St → Option Value
theorem one_fst (σ : St) (x : Option Value) : fstO (one σ x) = x := by cases x <;> rfl
theorem pure_same {P : Program} {σ σ' : St} {ts : Ts} {o : Oper} {r : Value} (h : pureV P σ ts o = some (r, σ')) : σ' = σ := by
  unfold pureV at h
  simp only [Option.map_eq_some_iff, Prod.mk.injEq] at h
  obtain ⟨_, _, _, h⟩ := h
  exact h.symm
theorem or_same {P : Program} {σ σ' : St} {ts : Ts} {o : Oper} {x : Option (Value × St)} {r : Value} (h : orElse x (fun _ => pureV P σ ts o) = some (r, σ')) (hx : ∀ {v s}, x = some (v, s) → s = σ) : σ' = σ := by
  rcases orElse_some h with h | h
  · exact hx h
  · exact pure_same h
theorem exec_same {P : Program} {σ σ' : St} {ts : Ts} {o : Oper} {r : Value} (hp : isPu o.op = true) (h : exec P σ ts o = some (r, σ')) : σ' = σ := by
  have h1 : ∀ {x : Option Value} {v : Value} {s : St}, one σ x = some (v, s) → s = σ := fun h => (one_some h).2
  cases ho : o.op <;> rw [ho] at hp <;> simp only [isPu] at hp <;> try (cases hp; done)
  all_goals (unfold exec at h; rw [ho] at h; simp only at h)
  case move => exact h1 h
  case assign => exact h1 h
  case pick => unfold xPick at h; split at h; · exact h1 h
               cases h
  case load => unfold xLoad at h; split at h; · exact h1 h
               cases h
  case nilCheck => unfold xNil at h; split at h; · exact or_same h h1
                   cases h
  case binOp =>
    unfold xBin at h
    split at h
    · unfold xInt at h
      split at h
      · exact or_same h h1
      · exact pure_same h
    · exact or_same h h1
    · cases h
  case unOp =>
    unfold xNot at h
    split at h
    · split at h
      · cases h; rfl
      · cases h
    · exact pure_same h
  case makeInterface => unfold xIface at h; split at h; · exact h1 h
                        cases h
  case fieldAddr => unfold xFieldAddr at h; split at h; · exact h1 h
                    cases h
  case field => unfold xField at h; split at h; · exact h1 h
                cases h
  case indexAddr => unfold xIndexAddr at h; split at h; · exact h1 h
                    cases h
  case index => unfold xIndex at h; split at h; · exact or_same h h1
                cases h
  case extract => unfold xExtract at h; split at h; · exact h1 h
                  cases h
def noIh : Ih := fun _ _ _ => none
def puDef (P : Program) (o : Oper) : PC := ⟨fun ts σ => fstO ((opC P o).run noIh ts σ)⟩
def valP (P : Program) (o : Oper) (x : Operand) : PC :=
  match gOf x with
  | some g => ⟨fun ts _ => some (g.get ts)⟩
  | none => puDef P o
def binF (F : BF) (slow : Option Value) (x y : Value) : Option Value :=
  match x with
  | .int k a => match y with
    | .int k' b => Bool.rec slow (some (F.f k a b)) (sameK k k')
    | _ => slow
  | _ => slow
theorem binF_eq (F : BF) (slow : Option (Value × St)) (σ : St) (x y : Value) : binF F (fstO slow) x y = fstO (binR F slow σ x y) := by
  unfold binF binR
  cases x <;> try rfl
  cases y <;> try rfl
  rename_i k a k' b
  simp only [intP]
  cases sameK k k' <;> rfl
def binP (P : Program) (o : Oper) (op : BinOp) (x y : Operand) : PC :=
  match gOf x, gOf y, bfOf op with
  | some gx, some gy, some F => ⟨fun ts σ => binF F (fstO (exec P σ ts o)) (gx.get ts) (gy.get ts)⟩
  | _, _, _ => puDef P o
def loadF (slow : Option Value) (σ : St) (v : Value) : Option Value :=
  match v with
  | .pointer (some ⟨k, off, none⟩) => Option.rec (motive := fun _ => Option Value) slow (fun B => Option.rec (motive := fun _ => Option Value) slow (fun r => some r) (nthO B.cells off)) (σ.getB k)
  | _ => slow
theorem loadF_eq (slow : Option (Value × St)) (σ : St) (v : Value) : loadF (fstO slow) σ v = fstO (loadOne slow σ v) := by
  unfold loadF loadOne
  split
  · rename_i k off
    simp only [ptrP]
    cases h : σ.getB k with
    | none => rfl
    | some B =>
      simp only
      cases h2 : nthO B.cells off <;> rfl
  · rename_i hne
    have : ptrP v = none := by
      unfold ptrP
      split
      · exact absurd rfl (hne _ _)
      · rfl
    rw [this]
def loadP (P : Program) (o : Oper) (t : TypeId) (x : Operand) : PC :=
  match gOf x, P.underlying t, P.info? t with
  | some g, some d, some _ => match d.isRow with
    | true => puDef P o
    | false => ⟨fun ts σ => loadF (fstO (exec P σ ts o)) σ (g.get ts)⟩
  | _, _, _ => puDef P o
def addF (slow : Option Value) (off : Nat) (v : Value) : Option Value :=
  match v with
  | .pointer (some ⟨k, o, none⟩) => some (.pointer (some ⟨k, o + off, none⟩))
  | _ => slow
theorem addF_eq (slow : Option (Value × St)) (σ : St) (off : Nat) (v : Value) : addF (fstO slow) off v = fstO (addPtr slow σ off v) := by
  unfold addF addPtr
  split
  · rfl
  · rename_i hne
    have : ptrP v = none := by
      unfold ptrP
      split
      · exact absurd rfl (hne _ _)
      · rfl
    rw [this]
def fieldAddrP (P : Program) (o : Oper) (s : TypeId) (x : Operand) (f : Nat) : PC :=
  match gOf x, offOf P s f with
  | some g, some off => ⟨fun ts σ => addF (fstO (exec P σ ts o)) off (g.get ts)⟩
  | _, _ => puDef P o
def indexAddrP (P : Program) (o : Oper) (t : TypeId) (x y : Operand) : PC :=
  match gOf x, gOf y with
  | some g, some k => ⟨fun ts _ => indexAddrV P t (g.get ts) (k.get ts)⟩
  | _, _ => puDef P o
def puOf (P : Program) (o : Oper) : PC :=
  match o.op with
  | .move x => valP P o x
  | .assign x => valP P o x
  | .binOp op _ x y _ => binP P o op x y
  | .load t x => loadP P o t x
  | .fieldAddr s x f => fieldAddrP P o s x f
  | .indexAddr t x y => indexAddrP P o t x y
  | _ => puDef P o
theorem puOf_eq (P : Program) (o : Oper) (ts : Ts) (σ : St) : (puOf P o).run ts σ = fstO ((opC P o).run noIh ts σ) := by
  unfold puOf
  split
  case h_1 x ho =>
    unfold opC valP; rw [ho]; simp only; unfold valC
    split
    · rename_i g hg; simp only [hg]; rfl
    · rename_i hg; simp only [puDef, opC, ho, valC, hg]
  case h_2 x ho =>
    unfold opC valP; rw [ho]; simp only; unfold valC
    split
    · rename_i g hg; simp only [hg]; rfl
    · rename_i hg; simp only [puDef, opC, ho, valC, hg]
  case h_3 op t x y t' ho =>
    unfold binP
    split
    · rename_i gx gy F hx hy hF
      simp only [opC, ho, binC, hx, hy, hF]
      exact binF_eq _ _ _ _ _
    · rfl
  case h_4 t x ho =>
    unfold loadP
    split
    · rename_i g d i hg hd hi
      split
      · rfl
      · rename_i hr
        simp only [opC, ho, loadC, hg, hd, hi, hr]
        exact loadF_eq _ _ _
    · rfl
  case h_5 s x f ho =>
    unfold fieldAddrP
    split
    · rename_i g off hg hoff
      simp only [opC, ho, fieldAddrC, hg, hoff]
      exact addF_eq _ _ _ _
    · rfl
  case h_6 t x y ho =>
    unfold indexAddrP
    split
    · rename_i g k hg hk
      simp only [opC, ho, u2, hg, hk]
      exact (one_fst _ _).symm
    · rfl
  case h_7 => rfl
/-- an operation and what follows -/
def opR (P : Program) (o : Oper) (rest : RC) : RC :=
  match isPu o.op with
  | true => ⟨fun ih ts σ => Option.rec (motive := fun _ => Option (Ts × St)) none (fun v => forceV v fun v => (putC o.dst).put ts v fun ts => rest.run ih ts σ) ((puOf P o).run ts σ)⟩
  | false => ⟨fun ih ts σ => Option.rec (motive := fun _ => Option (Ts × St)) none (fun p => Prod.rec (motive := fun _ => Option (Ts × St)) (fun v s => Bool.rec (motive := fun _ => Option (Ts × St)) none (forceV v fun v => forceS s fun s => (putC o.dst).put ts v fun ts => rest.run ih ts s) (Nat.ble σ.size s.size)) p) ((opC P o).run ih ts σ)⟩
theorem opR_eq (P : Program) (o : Oper) (rest : RC) (ih : Ih) (ts : Ts) (σ : St) : (opR P o rest).run ih ts σ = (match opV P ih ts σ o with
      | some (v, σ') => if σ.size ≤ σ'.size then rest.run ih (putV ts o.dst v) σ' else none
      | none => none) := by
  unfold opR
  split
  · rename_i hp
    have hnc : ∀ c, o.op = .call c → ∃ b, c.callee = .builtin b := fun c h => by rw [h] at hp; cases hp
    show Option.rec (motive := fun _ => Option (Ts × St)) none _ ((puOf P o).run ts σ) = _
    rw [puOf_eq, opC_eq, ← exec_opV hnc, ← exec_opV (ih := ih) hnc]
    cases he : exec P σ ts o with
    | none => rfl
    | some p =>
      obtain ⟨v, s⟩ := p
      have := exec_same hp he
      subst this
      show forceV v _ = _
      rw [forceV_eq, putC_eq]
      simp only [Nat.le_refl, if_true]
  · show Option.rec (motive := fun _ => Option (Ts × St)) none _ ((opC P o).run ih ts σ) = _
    rw [opC_eq]
    cases opV P ih ts σ o with
    | none => rfl
    | some p =>
      obtain ⟨v, s⟩ := p
      show Bool.rec (motive := fun _ => Option (Ts × St)) none (forceV v _) (Nat.ble σ.size s.size) = _
      rw [forceV_eq, forceS_eq, putC_eq]
      simp only
      by_cases h : σ.size ≤ s.size
      · rw [if_pos h, show Nat.ble σ.size s.size = true from by simpa using h]
      · rw [if_neg h, show Nat.ble σ.size s.size = false from by rw [Bool.eq_false_iff]; simpa using h]
def opsC (P : Program) (all : Array Oper) : List Oper → RC
  | [] => ⟨fun _ ts σ => some (ts, σ)⟩
  | o :: rest => match o.guard with
    | none => opR P o (opsC P all rest)
    | some _ => ⟨fun ih ts σ => match wantedV all ts o with
      | true => (opR P o (opsC P all rest)).run ih ts σ
      | false => (opsC P all rest).run ih (putV ts o.dst undef) σ⟩
theorem opsC_eq (P : Program) (all : Array Oper) (ih : Ih) : ∀ (l : List Oper) (ts : Ts) (σ : St), (opsC P all l).run ih ts σ = opsV P ih all l ts σ
  | [], ts, σ => rfl
  | o :: rest, ts, σ => by
    have hth : (opR P o (opsC P all rest)).run ih ts σ = (match opV P ih ts σ o with
      | some (v, σ') => if σ.size ≤ σ'.size then opsV P ih all rest (putV ts o.dst v) σ' else none
      | none => none) := by
      rw [opR_eq]
      cases opV P ih ts σ o with
      | none => rfl
      | some p =>
        obtain ⟨v, s⟩ := p
        simp only [opsC_eq P all ih rest]
    simp only [opsC, opsV]
    cases hg : o.guard with
    | none =>
      have : wantedV all ts o = true := by unfold wantedV; rw [hg]
      simp only [this, if_true]
      exact hth
    | some jw =>
      simp only
      cases hw : wantedV all ts o with
      | true => simp only [if_true]; exact hth
      | false => simp only [Bool.false_eq_true, if_false]; exact opsC_eq P all ih rest _ _
def dstTop : List Oper → Nat
  | [] => 0
  | o :: l => match o.dst with
    | some d => max (d + 1) (dstTop l)
    | none => dstTop l
theorem dstTop_le (l : List Oper) (o : Oper) (d : Nat) (ho : o ∈ l) (hd : o.dst = some d) : d < dstTop l := by
  induction l with
  | nil => exact absurd ho (List.not_mem_nil)
  | cons o' l ih =>
    have h1 : dstTop l ≤ dstTop (o' :: l) := by
      rw [dstTop]
      split
      · exact Nat.le_max_right _ _
      · exact Nat.le_refl _
    by_cases e : o ∈ l
    · exact Nat.lt_of_lt_of_le (ih e) h1
    · have : o = o' := (List.mem_cons.1 ho).resolve_right e
      subst this
      have : dstTop (o :: l) = max (d + 1) (dstTop l) := by rw [dstTop, hd]
      rw [this]
      exact Nat.lt_of_lt_of_le (Nat.lt_succ_self d) (Nat.le_max_left _ _)
theorem dstOk_mono {l : List Oper} {m n : Nat} (h : dstOk l m = true) (hm : m ≤ n) : dstOk l n = true := by
  unfold dstOk at *
  rw [List.all_eq_true] at *
  intro p hp
  have h2 := h p hp
  cases hd : p.dst with
  | none => rfl
  | some d =>
    rw [hd] at h2
    exact blt_true (Nat.lt_of_lt_of_le (blt_lt h2) hm)
def qC (P : Program) (all : Array Oper) : List Oper → RC
  | [] => ⟨fun _ ts σ => some (ts, σ)⟩
  | o :: rest => ⟨fun ih ts σ => match wantedV all ts o with
    | true => match (opC P o).run ih ts { heap := σ.heap, size := σ.size, wr := 65536 } with
      | some (v, s) => match Nat.ble σ.size s.wr with
        | true => forceV v fun v => forceS { heap := s.heap, size := s.size, wr := min σ.wr s.wr } fun s => forceT (putV ts o.dst v) fun ts => (qC P all rest).run ih ts s
        | false => none
      | none => none
    | false => (qC P all rest).run ih (putV ts o.dst undef) σ⟩
theorem qC_eq (P : Program) (all : Array Oper) (ih : Ih) : ∀ (l : List Oper) (ts : Ts) (σ : St), (qC P all l).run ih ts σ = qV P ih all l ts σ
  | [], ts, σ => rfl
  | o :: rest, ts, σ => by
    simp only [qC, qV]
    cases hw : wantedV all ts o with
    | true =>
      simp only [if_true, opC_eq]
      cases opV P ih ts { heap := σ.heap, size := σ.size, wr := 65536 } o with
      | none => rfl
      | some p =>
        obtain ⟨v, s⟩ := p
        simp only
        by_cases h : σ.size ≤ s.wr
        · rw [if_pos h, show Nat.ble σ.size s.wr = true from by simpa using h]
          simp only [forceV_eq, forceS_eq, forceT_eq]
          exact qC_eq P all ih rest _ _
        · rw [if_neg h, show Nat.ble σ.size s.wr = false from by rw [Bool.eq_false_iff]; simpa using h]
    | false => simp only [Bool.false_eq_true, if_false]; exact qC_eq P all ih rest _ _
def thenR (x : Option (Ts × St)) (k : Ts → St → Option (Ts × St)) : Option (Ts × St) :=
  match x with
  | some p => k p.1 p.2
  | none => none
def drawC (P : Program) (ops : Array Oper) : RC :=
  match drawOK P ops (dstTop ops.toList) (freeN ops) with
  | true => ⟨fun ih ts σ => match Nat.ble (dstTop ops.toList) ts.n with
    | true => thenR ((qC P ops (ops.toList.take (freeN ops))).run ih ts σ) ((opsC P ops (ops.toList.drop (freeN ops))).run ih)
    | false => none⟩
  | false => ⟨fun _ _ _ => none⟩
theorem drawC_some {P : Program} {ops : Array Oper} {ih : Ih} {ts : Ts} {σ : St} {r : Ts × St} (h : (drawC P ops).run ih ts σ = some r) : drawV P ih ops ts σ = some r := by
  unfold drawC at h
  split at h
  case h_2 => cases h
  rename_i hok
  simp only at h
  split at h
  case h_2 => cases h
  rename_i hn
  have hle := Nat.le_of_ble_eq_true hn
  have hok2 : drawOK P ops ts.n (freeN ops) = true := by
    unfold drawOK at hok ⊢
    simp only [Bool.and_eq_true] at hok ⊢
    exact ⟨⟨⟨⟨hok.1.1.1.1, dstOk_mono hok.1.1.1.2 hle⟩, hok.1.1.2⟩, hok.1.2⟩, hok.2⟩
  unfold drawV
  rw [if_pos hok2]
  unfold thenR at h
  rw [qC_eq] at h
  cases hq : qV P ih ops (ops.toList.take (freeN ops)) ts σ with
  | none => rw [hq] at h; cases h
  | some p =>
    obtain ⟨ts1, s1⟩ := p
    rw [hq] at h
    simp only [opsC_eq] at h
    exact h

end
end Go.Proofs.Ytadamjleglckpaa.ev

/- The reckoner: regions that draw their order and end in stores. What may come after one of these stores is reckoned in a memory without what they write. -/
namespace Go.Proofs.Ytadamjleglckpaa.ev
noncomputable section
open Go.RowKit
set_option linter.unusedSimpArgs false
set_option linter.unusedVariables false
set_option linter.unusedSectionVars false
variable [Kn]

/-! lists of blocks -/
def isStore : Op → Bool
  | .store .. => true
  | _ => false
def memN (k : Nat) : List Nat → Bool
  | [] => false
  | h :: l => match Nat.beq h k with
    | true => true
    | false => memN k l
theorem memN_mem {k : Nat} : ∀ {l : List Nat}, memN k l = true → k ∈ l
  | [], h => by simp [memN] at h
  | x :: l, h => by
    simp only [memN] at h
    split at h
    · rename_i hb; rw [Nat.eq_of_beq_eq_true hb]; simp
    · exact List.mem_cons_of_mem _ (memN_mem h)
def subN : List Nat → List Nat → Bool
  | [], _ => true
  | k :: l, H => match memN k H with
    | true => subN l H
    | false => false
theorem subN_mem {H : List Nat} : ∀ {l : List Nat}, subN l H = true → ∀ k ∈ l, k ∈ H
  | [], h, k, hk => by simp at hk
  | x :: l, h, k, hk => by
    simp only [subN] at h
    split at h
    · rename_i hb
      rcases List.mem_cons.1 hk with rfl | hk
      · exact memN_mem hb
      · exact subN_mem h k hk
    · cases h
def belowN (n : Nat) : List Nat → List Nat
  | [] => []
  | k :: l => match Nat.blt k n with
    | true => k :: belowN n l
    | false => belowN n l
theorem mem_belowN {n k : Nat} : ∀ {l : List Nat}, k ∈ belowN n l ↔ k ∈ l ∧ k < n
  | [] => by simp [belowN]
  | x :: l => by
    simp only [belowN]
    split
    · rename_i hb
      have := blt_lt hb
      simp only [List.mem_cons, mem_belowN (l := l)]
      constructor
      · rintro (rfl | ⟨a, b⟩)
        · exact ⟨.inl rfl, this⟩
        · exact ⟨.inr a, b⟩
      · rintro ⟨rfl | a, b⟩
        · exact .inl rfl
        · exact .inr ⟨a, b⟩
    · rename_i hb
      have : ¬ x < n := fun h => by rw [blt_true h] at hb; cases hb
      simp only [List.mem_cons, mem_belowN (l := l)]
      constructor
      · rintro ⟨a, b⟩; exact ⟨.inr a, b⟩
      · rintro ⟨rfl | a, b⟩
        · exact absurd b this
        · exact ⟨a, b⟩
def okN (a b : Nat) : List Nat → Bool
  | [] => true
  | k :: l => match Nat.blt k a with
    | true => okN a b l
    | false => match Nat.ble b k with
      | true => okN a b l
      | false => false
theorem okN_mem {a b : Nat} : ∀ {l : List Nat}, okN a b l = true → ∀ k ∈ l, k < a ∨ b ≤ k
  | [], h, k, hk => by simp at hk
  | x :: l, h, k, hk => by
    simp only [okN] at h
    split at h
    · rename_i hb
      rcases List.mem_cons.1 hk with rfl | hk
      · exact .inl (blt_lt hb)
      · exact okN_mem h k hk
    · split at h
      · rename_i hb
        rcases List.mem_cons.1 hk with rfl | hk
        · exact .inr (Nat.le_of_ble_eq_true hb)
        · exact okN_mem h k hk
      · cases h
def forceNs {β : Type} : List Nat → (List Nat → β) → β
  | [], k => k []
  | x :: l, k => forceN x fun x => forceNs l fun l => k (x :: l)
theorem forceNs_eq {β : Type} : ∀ (l : List Nat) (k : List Nat → β), forceNs l k = k l
  | [], k => rfl
  | x :: l, k => by rw [forceNs, forceN_eq, forceNs_eq l]

/-! a memory without some blocks, and these put back -/
def cutS (σ : St) (H : List Nat) : St := { heap := (killL σ H).heap, size := σ.size, wr := 65536 }
theorem getB_cutS (σ : St) (H : List Nat) (k : Nat) : (cutS σ H).getB k = if k ∈ H then none else σ.getB k := by
  show (killL σ H).getB k = _
  exact getB_killL H σ k
def backL (σ s : St) : List Nat → St
  | [] => s
  | k :: l => match σ.getB k with
    | some B => (backL σ s l).setB k B
    | none => backL σ s l
theorem backL_size (σ s : St) : ∀ l, (backL σ s l).size = s.size ∧ (backL σ s l).wr = s.wr
  | [] => ⟨rfl, rfl⟩
  | k :: l => by
    unfold backL
    split
    · exact ⟨(backL_size σ s l).1, (backL_size σ s l).2⟩
    · exact backL_size σ s l
theorem getB_backL (σ s : St) (b : Nat) : ∀ l, (∀ k ∈ l, σ.getB k = none → s.getB k = none) → (backL σ s l).getB b = if b ∈ l then σ.getB b else s.getB b
  | [], _ => by simp [backL]
  | k :: l, h => by
    have ih := getB_backL σ s b l fun j hj => h j (by simp [hj])
    unfold backL
    split
    · rename_i B hB
      rw [St.getB_setB _ k b B (St.getB_lt hB), ih]
      by_cases e : b = k
      · subst e; simp [hB, St.getB_alive hB]
      · simp [e]
    · rename_i hB
      rw [ih]
      by_cases e : b = k
      · subst e
        have := h b (by simp) hB
        simp [hB, this]
      · simp [e]

/-! the operations before the stores -/
def NStep (P : Program) (ih : Ih) (all : Array Oper) (C : Nat) (H : List Nat) (j : Nat) (o : Oper) (ts : Ts) (σ : St) (v : Value) (ts' : Ts) (σ' : St) : Prop :=
  ts' = putV ts o.dst v ∧ ((wantedV all ts o = true ∧ ∃ Hl s1, (C.testBit j = false → Hl = belowN σ.size H ∧ ∀ h ∈ H, h < σ.size ∨ s1.size ≤ h) ∧ (∀ h ∈ Hl, h < σ.size) ∧ opV P ih ts (cutS σ Hl) o = some (v, s1) ∧ σ.size ≤ s1.wr ∧ σ'.size = s1.size ∧ σ'.wr = min σ.wr s1.wr ∧ ∀ b, σ'.getB b = if b ∈ Hl then σ.getB b else s1.getB b) ∨ (wantedV all ts o = false ∧ v = undef ∧ σ' = σ))
def q2C (P : Program) (all : Array Oper) (C : Nat) (H : List Nat) : List Oper → Nat → RC
  | [], _ => ⟨fun _ ts σ => some (ts, σ)⟩
  | o :: rest, j => ⟨fun ih ts σ => match wantedV all ts o with
    | true => match Nat.testBit C j with
      | true => match (opC P o).run ih ts { heap := σ.heap, size := σ.size, wr := 65536 } with
        | some (v, s) => match Nat.ble σ.size s.wr with
          | true => forceV v fun v => forceS { heap := s.heap, size := s.size, wr := min σ.wr s.wr } fun s => forceT (putV ts o.dst v) fun ts => (q2C P all C H rest (j + 1)).run ih ts s
          | false => none
        | none => none
      | false => match (opC P o).run ih ts (cutS σ (belowN σ.size H)) with
        | some (v, s) => match Nat.ble σ.size s.wr with
          | true => match okN σ.size s.size H with
            | true => forceV v fun v => forceS { heap := (backL σ s (belowN σ.size H)).heap, size := s.size, wr := min σ.wr s.wr } fun s => forceT (putV ts o.dst v) fun ts => (q2C P all C H rest (j + 1)).run ih ts s
            | false => none
          | false => none
        | none => none
    | false => (q2C P all C H rest (j + 1)).run ih (putV ts o.dst undef) σ⟩
theorem q2C_run {P : Program} {ih : Ih} (hC : CanonOk ih) {all : Array Oper} {C : Nat} {H : List Nat} : ∀ (l : List Oper) (j0 : Nat) (ts : Ts) (σ : St) (ts' : Ts) (σ' : St), (q2C P all C H l j0).run ih ts σ = some (ts', σ') →
    ∃ (tf : Nat → Ts) (sf : Nat → St) (vf : Nat → Value), tf 0 = ts ∧ sf 0 = σ ∧ tf l.length = ts' ∧ sf l.length = σ' ∧ ∀ j o, l[j]? = some o → NStep P ih all C H (j0 + j) o (tf j) (sf j) (vf j) (tf (j + 1)) (sf (j + 1))
  | [], j0, ts, σ, ts', σ', h => by
    simp [q2C] at h
    obtain ⟨rfl, rfl⟩ := h
    exact ⟨fun _ => ts, fun _ => σ, fun _ => undef, rfl, rfl, rfl, rfl, fun j o h => by simp at h⟩
  | o :: rest, j0, ts, σ, ts', σ', h => by
    have build : ∀ (v : Value) (ts1 : Ts) (s1 : St), NStep P ih all C H j0 o ts σ v ts1 s1 → (q2C P all C H rest (j0 + 1)).run ih ts1 s1 = some (ts', σ') →
        ∃ (tf : Nat → Ts) (sf : Nat → St) (vf : Nat → Value), tf 0 = ts ∧ sf 0 = σ ∧ tf (o :: rest).length = ts' ∧ sf (o :: rest).length = σ' ∧ ∀ j o', (o :: rest)[j]? = some o' → NStep P ih all C H (j0 + j) o' (tf j) (sf j) (vf j) (tf (j + 1)) (sf (j + 1)) := by
      intro v ts1 s1 hq hr
      obtain ⟨tf, sf, vf, a1, a2, a3, a4, a5⟩ := q2C_run hC rest (j0 + 1) ts1 s1 ts' σ' hr
      refine ⟨fun j => match j with | 0 => ts | j + 1 => tf j, fun j => match j with | 0 => σ | j + 1 => sf j, fun j => match j with | 0 => v | j + 1 => vf j, rfl, rfl, a3, a4, fun j o' hj => ?_⟩
      cases j with
      | zero =>
        simp at hj
        subst hj
        show NStep P ih all C H j0 o ts σ v (tf 0) (sf 0)
        rw [a1, a2]; exact hq
      | succ j =>
        have := a5 j o' (by simpa using hj)
        rwa [show j0 + 1 + j = j0 + (j + 1) by omega] at this
    simp only [q2C, opC_eq] at h
    split at h
    · rename_i hw
      split at h
      · rename_i hbit
        split at h
        case h_2 => cases h
        rename_i v s1 hop
        split at h
        case h_2 => cases h
        rename_i hs
        simp only [forceV_eq, forceS_eq, forceT_eq] at h
        refine build v _ { heap := s1.heap, size := s1.size, wr := min σ.wr s1.wr } ⟨rfl, .inl ⟨hw, [], s1, fun hb => ?_, by simp, hop, Nat.le_of_ble_eq_true hs, rfl, rfl, fun b => ?_⟩⟩ h
        · rw [hbit] at hb; cases hb
        · simp [St.getB]
      · rename_i hbit
        split at h
        case h_2 => cases h
        rename_i v s1 hop
        split at h
        case h_2 => cases h
        rename_i hs
        split at h
        case h_2 => cases h
        rename_i hk
        simp only [forceV_eq, forceS_eq, forceT_eq] at h
        refine build v _ { heap := (backL σ s1 (belowN σ.size H)).heap, size := s1.size, wr := min σ.wr s1.wr } ⟨rfl, .inl ⟨hw, belowN σ.size H, s1, fun _ => ⟨rfl, okN_mem hk⟩, fun h hh => (mem_belowN.1 hh).2, hop, Nat.le_of_ble_eq_true hs, rfl, rfl, fun b => ?_⟩⟩ h
        have hc := canon_op hC hop
        have := getB_backL σ s1 b (belowN σ.size H) fun k hk2 hn => by
          have hlt := (mem_belowN.1 hk2).2
          rw [hc.same k hlt (Nat.lt_of_lt_of_le hlt (Nat.le_of_ble_eq_true hs)), getB_cutS, if_pos hk2]
        rw [← this]; simp [St.getB]
    · rename_i hw
      exact build undef _ _ ⟨rfl, .inr ⟨hw, rfl, rfl⟩⟩ h
theorem NStep.keeps {P : Program} {ih : Ih} (hC : CanonOk ih) {all : Array Oper} {C : Nat} {H : List Nat} {j : Nat} {o : Oper} {ts ts' : Ts} {σ σ' : St} {v : Value} (h : NStep P ih all C H j o ts σ v ts' σ') : Keeps σ σ' := by
  obtain ⟨_, ⟨_, Hl, s1, _, hHl, h1, h2, h3, h4, h5⟩ | ⟨_, _, rfl⟩⟩ := h
  · have hc := canon_op hC h1
    have hsz : σ.size ≤ s1.size := hc.size
    refine ⟨by rw [h3]; exact hsz, by rw [h4]; exact Nat.min_le_left _ _, fun k hk => ?_, fun hw k B hB => ?_⟩
    · rw [h5]
      by_cases e : k ∈ Hl
      · rw [if_pos e]
      · rw [if_neg e, hc.same k hk (Nat.lt_of_lt_of_le hk h2), getB_cutS, if_neg e]
    · rw [h5] at hB
      rw [h3]
      by_cases e : k ∈ Hl
      · have := hHl k e; omega
      · rw [if_neg e] at hB
        refine hc.wf (fun k' B' hB' => ?_) k B hB
        rw [getB_cutS] at hB'
        split at hB'
        · cases hB'
        · exact hw k' B' hB'
  · exact Keeps.refl _

/-! the stores -/
def tgt (ts : Ts) (σ : St) (all : Array Oper) (o : Oper) : List Nat :=
  match wantedV all ts o with
  | true => match o.op with
    | .store _ x _ => match evo ts x with
      | some v => match ptrP v with
        | some p => match σ.getB p.1 with
          | some B => p.1 :: B.anc
          | none => []
        | none => []
      | none => []
    | _ => []
  | false => []
def tgts (ts : Ts) (σ : St) (all : Array Oper) : List Oper → List Nat
  | [] => []
  | o :: l => tgt ts σ all o ++ tgts ts σ all l
def SStep (P : Program) (ih : Ih) (all : Array Oper) (H : List Nat) (o : Oper) (ts : Ts) (σ : St) (v : Value) (ts' : Ts) (σ' : St) : Prop :=
  ts' = putV ts o.dst v ∧ ((wantedV all ts o = true ∧ opV P ih ts σ o = some (v, σ') ∧ σ'.size = σ.size ∧ ∀ b, b ∉ H → σ'.getB b = σ.getB b) ∨ (wantedV all ts o = false ∧ v = undef ∧ σ' = σ))
def sC (P : Program) (all : Array Oper) (H : List Nat) : List Oper → RC
  | [] => ⟨fun _ ts σ => some (ts, σ)⟩
  | o :: rest => ⟨fun ih ts σ => match wantedV all ts o with
    | true => match isStore o.op with
      | true => match subN (tgt ts σ all o) H with
        | true => match (opC P o).run ih ts σ with
          | some (v, s) => match Nat.beq s.size σ.size with
            | true => forceV v fun v => forceS s fun s => forceT (putV ts o.dst v) fun ts => (sC P all H rest).run ih ts s
            | false => none
          | none => none
        | false => none
      | false => none
    | false => (sC P all H rest).run ih (putV ts o.dst undef) σ⟩
theorem store_changes {P : Program} {ih : Ih} {all : Array Oper} {ts : Ts} {σ σ' : St} {o : Oper} {v : Value} {H : List Nat} (hw : wantedV all ts o = true) (hs : isStore o.op = true) (ht : subN (tgt ts σ all o) H = true) (h : opV P ih ts σ o = some (v, σ')) : ∀ b, b ∉ H → σ'.getB b = σ.getB b := by
  intro b hb
  cases ho : o.op <;> rw [ho] at hs <;> simp only [isStore] at hs <;> try (cases hs; done)
  rename_i t x y
  have hcall : callOf P ts o = none := by unfold callOf; rw [ho]
  unfold opV at h
  rw [hcall] at h
  simp only at h
  unfold exec at h
  rw [ho] at h
  simp only at h
  unfold xStore at h
  split at h
  case h_2 => cases h
  rename_i k off u hx hy
  unfold xUnit at h
  split at h
  case h_2 => cases h
  rename_i s hst
  simp only [Option.some.injEq, Prod.mk.injEq] at h
  obtain ⟨_, rfl⟩ := h
  have hsub := subN_mem ht
  unfold tgt at hsub
  simp only [hw, ho, hx, ptrP] at hsub
  unfold storeB at hst
  simp only [forceL_eq] at hst
  split at hst
  case h_2 => cases hst
  rename_i B hB
  simp only [hB] at hsub
  split at hst
  case h_2 => cases hst
  split at hst
  · simp only [Option.some.injEq] at hst
    subst hst
    rw [St.getB_write σ k b B _ (St.getB_lt hB) (St.getB_alive hB)]
    have e1 : b ≠ k := fun e => hb (e ▸ hsub k (by simp))
    have e2 : b ∉ B.anc := fun e => hb (hsub b (by simp [e]))
    rw [if_neg e1, if_neg e2]
  · cases hst
theorem sC_run {P : Program} {ih : Ih} {all : Array Oper} {H : List Nat} : ∀ (l : List Oper) (ts : Ts) (σ : St) (ts' : Ts) (σ' : St), (sC P all H l).run ih ts σ = some (ts', σ') →
    ∃ (tf : Nat → Ts) (sf : Nat → St) (vf : Nat → Value), tf 0 = ts ∧ sf 0 = σ ∧ tf l.length = ts' ∧ sf l.length = σ' ∧ ∀ j o, l[j]? = some o → SStep P ih all H o (tf j) (sf j) (vf j) (tf (j + 1)) (sf (j + 1))
  | [], ts, σ, ts', σ', h => by
    simp [sC] at h
    obtain ⟨rfl, rfl⟩ := h
    exact ⟨fun _ => ts, fun _ => σ, fun _ => undef, rfl, rfl, rfl, rfl, fun j o h => by simp at h⟩
  | o :: rest, ts, σ, ts', σ', h => by
    have build : ∀ (v : Value) (ts1 : Ts) (s1 : St), SStep P ih all H o ts σ v ts1 s1 → (sC P all H rest).run ih ts1 s1 = some (ts', σ') →
        ∃ (tf : Nat → Ts) (sf : Nat → St) (vf : Nat → Value), tf 0 = ts ∧ sf 0 = σ ∧ tf (o :: rest).length = ts' ∧ sf (o :: rest).length = σ' ∧ ∀ j o', (o :: rest)[j]? = some o' → SStep P ih all H o' (tf j) (sf j) (vf j) (tf (j + 1)) (sf (j + 1)) := by
      intro v ts1 s1 hq hr
      obtain ⟨tf, sf, vf, a1, a2, a3, a4, a5⟩ := sC_run rest ts1 s1 ts' σ' hr
      refine ⟨fun j => match j with | 0 => ts | j + 1 => tf j, fun j => match j with | 0 => σ | j + 1 => sf j, fun j => match j with | 0 => v | j + 1 => vf j, rfl, rfl, a3, a4, fun j o' hj => ?_⟩
      cases j with
      | zero =>
        simp at hj
        subst hj
        show SStep P ih all H o ts σ v (tf 0) (sf 0)
        rw [a1, a2]; exact hq
      | succ j => exact a5 j o' (by simpa using hj)
    simp only [sC, opC_eq] at h
    split at h
    · rename_i hw
      split at h
      case h_2 => cases h
      rename_i hst
      split at h
      case h_2 => cases h
      rename_i hsub
      split at h
      case h_2 => cases h
      rename_i v s1 hop
      split at h
      case h_2 => cases h
      rename_i hsz
      simp only [forceV_eq, forceS_eq, forceT_eq] at h
      exact build v _ _ ⟨rfl, .inl ⟨hw, hop, Nat.eq_of_beq_eq_true hsz, store_changes hw hst hsub hop⟩⟩ h
    · rename_i hw
      exact build undef _ _ ⟨rfl, .inr ⟨hw, rfl, rfl⟩⟩ h
theorem SStep.canon {P : Program} {ih : Ih} (hC : CanonOk ih) {all : Array Oper} {H : List Nat} {o : Oper} {ts ts' : Ts} {σ σ' : St} {v : Value} (h : SStep P ih all H o ts σ v ts' σ') : Canon σ σ' ∧ σ'.size = σ.size ∧ ∀ b, b ∉ H → σ'.getB b = σ.getB b := by
  obtain ⟨_, ⟨_, h1, h2, h3⟩ | ⟨_, _, rfl⟩⟩ := h
  · exact ⟨canon_op hC h1, h2, h3⟩
  · exact ⟨Canon.refl _, rfl, fun _ _ => rfl⟩
end
end Go.Proofs.Ytadamjleglckpaa.ev

