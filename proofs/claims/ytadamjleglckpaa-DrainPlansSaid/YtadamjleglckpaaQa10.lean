/- The reckoner: regions that draw their order and end in stores, the proof. -/
import Derived.Test.YtadamjleglckpaaQa9
import Derived.Test.YtadamjleglckpaaChecked

namespace Go.Proofs.Ytadamjleglckpaa.ev
noncomputable section
open Go.RowKit
set_option linter.unusedSimpArgs false
set_option linter.unusedVariables false
set_option linter.unusedSectionVars false
variable [Kn]

section
variable {P : Program} {ih : Ih} {ops : Array Oper} {m p C : Nat} {H : List Nat} {tf : Nat → Ts} {sf : Nat → St} {vf : Nat → Value} {μ0 : Mu} {w0 : World} {n : Nat}
/-- some of the operations have run, and the first k of the stores -/
structure SInv (ops : Array Oper) (m p n : Nat) (tf : Nat → Ts) (sf : Nat → St) (vf : Nat → Value) (μ0 : Mu) (w0 : World) (L : Array Bool) (a : Act) (w : World) (μ : Mu) (k : Nat) : Prop where
  rel : Rel μ (sf (m + k)) w
  step : Step μ0 μ (sf 0) (sf (m + k)) w0 w
  fresh : ∀ j, j < m → L.getD j true = false → Fresh μ (sf j) (sf (j + 1))
  kp : m + k ≤ p
  sd : ∀ j, m ≤ j → j < p → L.getD j true = decide (j < m + k)
  n : a.tmps.size = n
  df : a.defers = []
  done : ∀ (t j : Nat) (o : Oper), j < p → ops.toList[j]? = some o → o.dst = some t → L.getD j true = true → VRel μ (vf j) (a.tmps.getD t undef)
  wait : ∀ t, (∀ (j : Nat) (o : Oper), j < p → ops.toList[j]? = some o → o.dst = some t → L.getD j true = false) → VRel μ (getT (tf 0) t) (a.tmps.getD t undef)
theorem keeps_n (hN : ∀ j o, j < m → ops.toList[j]? = some o → NStep P ih ops C H j o (tf j) (sf j) (vf j) (tf (j + 1)) (sf (j + 1))) (hC : CanonOk ih) (hm : m ≤ ops.toList.length) : ∀ i j, i ≤ j → j ≤ m → Keeps (sf i) (sf j) := by
  intro i j hij hj
  induction j with
  | zero => rw [show i = 0 by omega]; exact Keeps.refl _
  | succ j ihj =>
    by_cases e : i = j + 1
    · subst e; exact Keeps.refl _
    · obtain ⟨o, ho⟩ : ∃ o, ops.toList[j]? = some o := ⟨_, List.getElem?_eq_getElem (by omega)⟩
      exact (ihj (by omega) (by omega)).trans ((hN j o (by omega) ho).keeps hC)
theorem stores_same (hS2 : ∀ j o, m ≤ j → j < p → ops.toList[j]? = some o → SStep P ih ops H o (tf j) (sf j) (vf j) (tf (j + 1)) (sf (j + 1))) (hC : CanonOk ih) (hp : p ≤ ops.toList.length) : ∀ k, m + k ≤ p → Canon (sf m) (sf (m + k)) ∧ (sf (m + k)).size = (sf m).size ∧ ∀ b, b ∉ H → (sf (m + k)).getB b = (sf m).getB b := by
  intro k
  induction k with
  | zero => intro _; exact ⟨Canon.refl _, rfl, fun _ _ => rfl⟩
  | succ k ihk =>
    intro hk
    obtain ⟨o, ho⟩ : ∃ o, ops.toList[m + k]? = some o := ⟨_, List.getElem?_eq_getElem (by omega)⟩
    obtain ⟨c1, c2, c3⟩ := ihk (by omega)
    obtain ⟨d1, d2, d3⟩ := (hS2 (m + k) o (by omega) (by omega) ho).canon hC
    exact ⟨c1.trans d1, d2.trans c2, fun b hb => (d3 b hb).trans (c3 b hb)⟩
theorem tf_n2 (hts : ∀ j o, j < p → ops.toList[j]? = some o → tf (j + 1) = putV (tf j) o.dst (vf j)) (hp : p ≤ ops.toList.length) : ∀ j, j ≤ p → (tf j).n = (tf 0).n ∧ (tf j).d = (tf 0).d := by
  intro j hj
  induction j with
  | zero => exact ⟨rfl, rfl⟩
  | succ j ihj =>
    obtain ⟨o, ho⟩ : ∃ o, ops.toList[j]? = some o := ⟨_, List.getElem?_eq_getElem (by omega)⟩
    obtain ⟨h1, h2⟩ := ihj (by omega)
    have := hts j o (by omega) ho
    rw [this]
    unfold ev.putV
    split
    · rename_i d _
      obtain ⟨a, b⟩ := setT_n (tf j) d (vf j)
      exact ⟨a.trans h1, b.trans h2⟩
    · exact ⟨h1, h2⟩
theorem tf_get2 (hT : Text P ops n p) (hts : ∀ j o, j < p → ops.toList[j]? = some o → tf (j + 1) = putV (tf j) o.dst (vf j)) (hp : p ≤ ops.toList.length) (hn : (tf 0).n = n) (hd : n ≤ 2 ^ (tf 0).d) (t : Nat) :
    ∀ j, j ≤ p → ((∀ (i : Nat) (o : Oper), i < j → ops.toList[i]? = some o → o.dst ≠ some t) → getT (tf j) t = getT (tf 0) t) ∧ (∀ (i : Nat) (o : Oper), i < j → ops.toList[i]? = some o → o.dst = some t → getT (tf j) t = vf i) := by
  intro j hj
  induction j with
  | zero => exact ⟨fun _ => rfl, fun i o h => by omega⟩
  | succ j ihj =>
    obtain ⟨o, ho⟩ : ∃ o, ops.toList[j]? = some o := ⟨_, List.getElem?_eq_getElem (by omega)⟩
    obtain ⟨h1, h2⟩ := ihj (by omega)
    obtain ⟨n1, n2⟩ := tf_n2 hts hp j (by omega)
    have e := hts j o (by omega) ho
    have stay : o.dst ≠ some t → getT (tf (j + 1)) t = getT (tf j) t := by
      intro hne
      rw [e]
      unfold ev.putV
      split
      · rename_i d hd'
        by_cases hdn : d < (tf j).n
        · rw [getT_setT (tf j) (by rw [n1, n2, hn]; exact hd) d t (vf j) hdn, if_neg (fun h => hne (by rw [hd', h]))]
        · rw [setT_ge hdn]
      · rfl
    refine ⟨fun hno => ?_, fun i oi hi hoi hdi => ?_⟩
    · rw [stay (hno j o (by omega) ho)]
      exact h1 fun i oi hi hoi => hno i oi (by omega) hoi
    · by_cases ei : i = j
      · subst ei
        rw [ho] at hoi
        cases hoi
        rw [e]
        simp only [ev.putV, hdi]
        rw [getT_setT (tf i) (by rw [n1, n2, hn]; exact hd) t t (vf i) (by rw [n1, hn]; exact hT.dlt i o t ho hdi), if_pos rfl]
      · have hne : o.dst ≠ some t := fun h => ei (hT.duq i j oi o t (by omega) (by omega) hoi ho hdi h)
        rw [stay hne]
        exact h2 i oi (by omega) hoi hdi
/-- what an operation looks at is there -/
theorem look_ok2 (hT : Text P ops n p) (hts : ∀ j o, j < p → ops.toList[j]? = some o → tf (j + 1) = putV (tf j) o.dst (vf j)) (hp : p ≤ ops.toList.length) (hn : (tf 0).n = n) (hd : n ≤ 2 ^ (tf 0).d) {L : Array Bool} {a : Act} {w : World} {μ : Mu} {k : Nat} (hQ : SInv ops m p n tf sf vf μ0 w0 L a w μ k)
    (hCl : Closed ops L) {i : Nat} {o : Oper} (hi : i < p) (ho : ops.toList[i]? = some o) (hu : L.getD i true = false) (hpre : ∀ e ∈ o.after.toList, Region.binds .any e = true → Listed L e.on) {t : Nat} (ht : t ∈ o.looksAt ops) : VRel μ (getT (tf i) t) (a.tmps.getD t undef) := by
  have hbits := bits_listed hCl hT.back
  obtain ⟨g1, g2⟩ := tf_get2 hT hts hp hn hd t i (by omega)
  by_cases hex : ∃ (j : Nat) (oj : Oper), j < i ∧ ops.toList[j]? = some oj ∧ oj.dst = some t
  · obtain ⟨j, oj, hj, hoj, hdj⟩ := hex
    rw [g2 j oj hj hoj hdj]
    have hlist : L.getD j true = true := by
      rcases hT.look i j o oj t (by omega) hi ho hoj ht hdj with h | ⟨_, h⟩ | ⟨h, _⟩
      · omega
      · exact hbits i o ho hpre j h
      · omega
    exact hQ.done t j oj (by omega) hoj hdj hlist
  · rw [g1 (fun j oj hj hoj hdj => hex ⟨j, oj, hj, hoj, hdj⟩)]
    refine hQ.wait t fun j oj hj hoj hdj => ?_
    rcases hT.look i j o oj t (by omega) hi ho hoj ht hdj with h | ⟨h, _⟩ | ⟨h, hb⟩
    · rw [h]; exact hu
    · exact absurd ⟨j, oj, h, hoj, hdj⟩ hex
    · cases hlj : L.getD j true with
      | false => rfl
      | true =>
        have := hbits j oj hoj (fun e he hbe => hCl j oj hoj hlj e he hbe) i hb
        rw [Listed, hu] at this; cases this
theorem put_size (a : Act) (dst : Option Tmp) (v : Value) : (a.put dst v).tmps.size = a.tmps.size ∧ (a.put dst v).defers = a.defers := by
  cases dst with
  | none => exact ⟨rfl, rfl⟩
  | some d => simp [Act.put]
theorem put_done (hT : Text P ops n p) (hp : p ≤ ops.toList.length) {L : Array Bool} (hsz : L.size = ops.toList.length) {a : Act} (hn : a.tmps.size = n) {μ μ1 : Mu} (hext : μ.le μ1) {i : Nat} {o : Oper} (hi : i < p) (ho : ops.toList[i]? = some o) {v1 : Value} (hv : VRel μ1 (vf i) v1)
    (hdone : ∀ (t j : Nat) (o : Oper), j < p → ops.toList[j]? = some o → o.dst = some t → L.getD j true = true → VRel μ (vf j) (a.tmps.getD t undef)) :
    ∀ (t j : Nat) (oj : Oper), j < p → ops.toList[j]? = some oj → oj.dst = some t → (L.setIfInBounds i true).getD j true = true → VRel μ1 (vf j) ((a.put o.dst v1).tmps.getD t undef) := by
  intro t j oj hj hoj hdj hLj
  rw [getD_set L i j (by rw [hsz]; omega)] at hLj
  by_cases e : j = i
  · subst e
    rw [ho] at hoj
    cases hoj
    have hdn := hT.dlt j o t ho hdj
    simp only [hdj, Act.put, Array.getD_eq_getD_getElem?]
    rw [Array.getElem?_setIfInBounds_self_of_lt (by rw [hn]; exact hdn)]
    exact hv
  · rw [if_neg e] at hLj
    have := (hdone t j oj hj hoj hdj hLj).mono hext
    have hne : o.dst ≠ some t := fun h => e (hT.duq j i oj o t hj hi hoj ho hdj h)
    cases hdst : o.dst with
    | none => exact this
    | some d =>
      have hdt : d ≠ t := fun h => hne (by rw [hdst, h])
      simp only [Act.put, Array.getD_eq_getD_getElem?] at this ⊢
      rw [Array.getElem?_setIfInBounds_ne hdt]
      exact this
theorem put_wait (hp : p ≤ ops.toList.length) {L : Array Bool} (hsz : L.size = ops.toList.length) {a : Act} {μ μ1 : Mu} (hext : μ.le μ1) {i : Nat} {o : Oper} (hi : i < p) (ho : ops.toList[i]? = some o) {v1 : Value} {ts0 : Ts}
    (hwait : ∀ t, (∀ (j : Nat) (o : Oper), j < p → ops.toList[j]? = some o → o.dst = some t → L.getD j true = false) → VRel μ (getT ts0 t) (a.tmps.getD t undef)) :
    ∀ t, (∀ (j : Nat) (o : Oper), j < p → ops.toList[j]? = some o → o.dst = some t → (L.setIfInBounds i true).getD j true = false) → VRel μ1 (getT ts0 t) ((a.put o.dst v1).tmps.getD t undef) := by
  intro t hno
  have hne : o.dst ≠ some t := fun h => by
    have := hno i o hi ho h
    rw [getD_set L i i (by rw [hsz]; omega), if_pos rfl] at this
    cases this
  have := (hwait t fun j oj hj hoj hdj => by
    have := hno j oj hj hoj hdj
    rw [getD_set L i j (by rw [hsz]; omega)] at this
    by_cases e : j = i
    · rw [if_pos e] at this; cases this
    · rw [if_neg e] at this; exact this).mono hext
  cases hdst : o.dst with
  | none => exact this
  | some d =>
    have hdt : d ≠ t := fun h => hne (by rw [hdst, h])
    simp only [Act.put, Array.getD_eq_getD_getElem?] at this ⊢
    rw [Array.getElem?_setIfInBounds_ne hdt]
    exact this
/-- one more operation -/
theorem SInv.nextN (hT : Text P ops n p) (hN : ∀ j o, j < m → ops.toList[j]? = some o → NStep P ih ops C H j o (tf j) (sf j) (vf j) (tf (j + 1)) (sf (j + 1))) (hS2 : ∀ j o, m ≤ j → j < p → ops.toList[j]? = some o → SStep P ih ops H o (tf j) (sf j) (vf j) (tf (j + 1)) (sf (j + 1)))
    (hC : CanonOk ih) (hp : p ≤ ops.toList.length) (hmp : m ≤ p) {L : Array Bool} (hsz : L.size = ops.toList.length) {a : Act} {w w1 : World} {μ μ1 : Mu} {k : Nat} (hQ : SInv ops m p n tf sf vf μ0 w0 L a w μ k)
    {i : Nat} {o : Oper} (hi : i < m) (ho : ops.toList[i]? = some o) (hu : L.getD i true = false) {s1 σa : St} (hwr : (sf i).size ≤ s1.wr) (hσa : σa.size = (sf i).size) (hsize : (sf (i + 1)).size = s1.size) (hsame : ∀ b, (sf i).size ≤ b → b < s1.size → (sf (m + k)).getB b = s1.getB b) {v1 : Value} (hv : VRel μ1 (vf i) v1) (hR1 : Rel μ1 s1 w1) (hst : Step μ μ1 σa s1 w w1) :
    SInv ops m p n tf sf vf μ0 w0 (L.setIfInBounds i true) (a.put o.dst v1) w1 μ1 k := by
  have chain := keeps_n hN hC (Nat.le_trans hmp hp)
  have hfr := hQ.fresh i hi hu
  have hkept : ∀ b, b < w.heap.size → w1.heap[b]? = w.heap[b]? := fun b hb => hst.frame b hb fun k L' hk hL => by
    rcases Nat.lt_or_ge k (sf i).size with h1 | h1
    · exact .inl (by omega)
    · refine .inr ?_
      rcases Nat.lt_or_ge k s1.size with h2 | h2
      · rw [hfr k h1 (by rw [hsize]; exact h2)] at hk; cases hk
      · exact h2
  have newb : ∀ k L', μ1 k = some L' → μ k = some L' ∨ ((sf i).size ≤ k ∧ k < s1.size ∧ w.heap.size ≤ L'.blk) := fun k L' hk => by
    rcases hst.dom k L' hk with h | ⟨h1, h2, h3⟩
    · exact .inl h
    · rw [hσa] at h1
      rcases h3 with h3 | ⟨k0, L0, x, y, z, z'⟩
      · exact .inr ⟨h1, h2, h3⟩
      · rw [hfr k0 (by omega) (by rw [hsize]; exact z')] at x; cases x
  have hpsz := (chain (i + 1) m (by omega) (Nat.le_refl _)).size
  have hisz := (chain 0 i (by omega) (by omega)).size
  have hmk := (stores_same hS2 hC hp k hQ.kp).2.1
  refine ⟨⟨hQ.rel.wf, fun b B L' hB hk => ?_, fun b b' B B' L' L'' hB hB' hne hk hk' hb => ?_⟩, ⟨hQ.step.ext.trans hst.ext, fun b L' hk => ?_, hQ.step.size, hQ.step.wr, Nat.le_trans hQ.step.hs hst.hs, hst.os.trans hQ.step.os, hst.tape.trans hQ.step.tape, hst.output.trans hQ.step.output, fun b hb hf => ?_, hQ.step.canon⟩, fun j hj hLj => ?_, hQ.kp, fun j h1 h2 => ?_, by rw [(put_size _ _ _).1]; exact hQ.n, by rw [(put_size _ _ _).2]; exact hQ.df,
    put_done hT hp hsz hQ.n hst.ext (by omega) ho hv hQ.done, put_wait hp hsz hst.ext (by omega) ho hQ.wait⟩
  · rcases newb b L' hk with h | ⟨h1, h2, h3⟩
    · have := hQ.rel.blk b B L' hB h
      exact this.mono hst.ext (hkept _ this.lt)
    · exact hR1.blk b B L' (by rw [← hsame b h1 h2]; exact hB) hk
  · rcases newb b L' hk with h | ⟨h1, h2, h3⟩
    · rcases newb b' L'' hk' with h' | ⟨h1', h2', h3'⟩
      · exact hQ.rel.apart b b' B B' L' L'' hB hB' hne h h' hb
      · have := (hQ.rel.blk b B L' hB h).lt
        omega
    · rcases newb b' L'' hk' with h' | ⟨h1', h2', h3'⟩
      · have := (hQ.rel.blk b' B' L'' hB' h').lt
        omega
      · exact hR1.apart b b' B B' L' L'' (by rw [← hsame b h1 h2]; exact hB) (by rw [← hsame b' h1' h2']; exact hB') hne hk hk' hb
  · rcases newb b L' hk with h | ⟨h1, h2, h3⟩
    · exact hQ.step.dom b L' h
    · refine .inr ⟨by omega, by rw [← hsize] at h2; omega, .inl (Nat.le_trans hQ.step.hs h3)⟩
  · rw [hkept b (Nat.lt_of_lt_of_le hb hQ.step.hs)]
    exact hQ.step.frame b hb hf
  · rw [getD_set L i j (by rw [hsz]; omega)] at hLj
    by_cases e : j = i
    · rw [if_pos e] at hLj; cases hLj
    · rw [if_neg e] at hLj
      have hfj := hQ.fresh j hj hLj
      intro b h1 h2
      cases hk : μ1 b with
      | none => rfl
      | some L' =>
        exfalso
        rcases newb b L' hk with h | ⟨g1, g2, _⟩
        · rw [hfj b h1 h2] at h; cases h
        · rcases Nat.lt_or_ge j i with hji | hji
          · have := (chain (j + 1) i (by omega) (by omega)).size
            omega
          · have := (chain (i + 1) j (by omega) (by omega)).size
            rw [hsize] at this
            omega
  · rw [getD_set L i j (by rw [hsz]; omega), if_neg (by omega)]
    exact hQ.sd j h1 h2
/-- the next store -/
theorem SInv.nextS (hT : Text P ops n p) (hp : p ≤ ops.toList.length) {L : Array Bool} (hsz : L.size = ops.toList.length) {a : Act} {w w1 : World} {μ μ1 : Mu} {k : Nat} (hQ : SInv ops m p n tf sf vf μ0 w0 L a w μ k)
    {o : Oper} (hi : m + k < p) (ho : ops.toList[m + k]? = some o) (hsize : (sf (m + k + 1)).size = (sf (m + k)).size) {v1 : Value} (hv : VRel μ1 (vf (m + k)) v1) (hR1 : Rel μ1 (sf (m + k + 1)) w1) (hst : Step μ μ1 (sf (m + k)) (sf (m + k + 1)) w w1) :
    SInv ops m p n tf sf vf μ0 w0 (L.setIfInBounds (m + k) true) (a.put o.dst v1) w1 μ1 (k + 1) := by
  refine ⟨by rw [← Nat.add_assoc]; exact hR1, by rw [← Nat.add_assoc]; exact hQ.step.trans hst, fun j hj hLj => ?_, by omega, fun j h1 h2 => ?_, by rw [(put_size _ _ _).1]; exact hQ.n, by rw [(put_size _ _ _).2]; exact hQ.df,
    put_done hT hp hsz hQ.n hst.ext hi ho hv hQ.done, put_wait hp hsz hst.ext hi ho hQ.wait⟩
  · rw [getD_set L (m + k) j (by rw [hsz]; omega), if_neg (by omega)] at hLj
    intro b h1 h2
    cases hb : μ1 b with
    | none => rfl
    | some L' =>
      rcases hst.dom b L' hb with h | ⟨g1, g2, _⟩
      · rw [hQ.fresh j hj hLj b h1 h2] at h; cases h
      · omega
  · rw [getD_set L (m + k) j (by rw [hsz]; omega)]
    by_cases e : j = m + k
    · rw [if_pos e]; simp; omega
    · rw [if_neg e, hQ.sd j h1 h2]
      by_cases hlt : j < m + k
      · simp [hlt]; omega
      · simp [hlt]; omega
/-- all orders -/
theorem draw_any2 (hT : Text P ops n p) (hS : Sound P ih) (hN : ∀ j o, j < m → ops.toList[j]? = some o → NStep P ih ops C H j o (tf j) (sf j) (vf j) (tf (j + 1)) (sf (j + 1))) (hS2 : ∀ j o, m ≤ j → j < p → ops.toList[j]? = some o → SStep P ih ops H o (tf j) (sf j) (vf j) (tf (j + 1)) (sf (j + 1)))
    (hmp : m ≤ p) (hbit : m < p → C = (closL ops.toList []).getD m 0) (hseq : ∀ s s', m ≤ s' → s' < s → s < p → ((closL ops.toList []).getD s 0).testBit s' = true) (hC : CanonOk ih) (hp : p ≤ ops.toList.length) (hn : (tf 0).n = n) (hd : n ≤ 2 ^ (tf 0).d)
    {ts' : Ts} {σ' : St} (hrest : opsV P ih ops (ops.toList.drop p) (tf p) (sf p) = some (ts', σ')) (hfr : Fresh μ0 (sf 0) σ') (hw0 : WfB (sf 0)) {Q : Exit → Act → World → Prop} (hQ : ∀ a w, Ends μ0 (sf 0) w0 ts' σ' a w → Q .normal a w) :
    ∀ (fuel : Nat) (L : Array Bool) (a : Act) (w : World), L.size = ops.toList.length → cnt L ops.toList.length = fuel → Closed ops L →
      (((∀ j, j < ops.toList.length → L.getD j true = true → j < p) ∧ ∃ μ k, SInv ops m p n tf sf vf μ0 w0 L a w μ k) ∨
       (∃ q ts σ μ, p ≤ q ∧ (∀ j, j < ops.toList.length → L.getD j true = decide (j < q)) ∧ opsV P ih ops (ops.toList.drop q) ts σ = some (ts', σ') ∧ TRel μ ts a ∧ Rel μ σ w ∧ Step μ0 μ (sf 0) σ w0 w)) →
      wpAny P .any ops Q fuel L a w := by
  have chain := keeps_n hN hC (Nat.le_trans hmp hp)
  have sames := stores_same hS2 hC hp
  have hts : ∀ j o, j < p → ops.toList[j]? = some o → tf (j + 1) = putV (tf j) o.dst (vf j) := fun j o hj ho => by
    by_cases h : j < m
    · exact (hN j o h ho).1
    · exact (hS2 j o (by omega) hj ho).1
  have oplen : ops.size = ops.toList.length := by simp
  -- all of them have run: from here on the order is the text's
  have turn : ∀ (L : Array Bool) (a : Act) (w : World) (μ : Mu) (k : Nat), SInv ops m p n tf sf vf μ0 w0 L a w μ k → (∀ j, j < p → L.getD j true = true) → TRel μ (tf p) a ∧ m + k = p := by
    intro L a w μ k hq hall
    obtain ⟨n1, n2⟩ := tf_n2 hts hp p (Nat.le_refl _)
    refine ⟨⟨by rw [hq.n, n1, hn], by rw [n1, n2, hn]; exact hd, fun t ht => ?_, hq.df⟩, ?_⟩
    · obtain ⟨g1, g2⟩ := tf_get2 hT hts hp hn hd t p (Nat.le_refl _)
      by_cases hex : ∃ (j : Nat) (oj : Oper), j < p ∧ ops.toList[j]? = some oj ∧ oj.dst = some t
      · obtain ⟨j, oj, hj, hoj, hdj⟩ := hex
        rw [g2 j oj hj hoj hdj]
        exact hq.done t j oj hj hoj hdj (hall j hj)
      · rw [g1 (fun j oj hj hoj hdj => hex ⟨j, oj, hj, hoj, hdj⟩)]
        exact hq.wait t fun j oj hj hoj hdj => absurd ⟨j, oj, hj, hoj, hdj⟩ hex
    · have hkp := hq.kp
      rcases Nat.lt_or_ge (m + k) p with h | h
      · have h1 := hq.sd (m + k) (by omega) h
        rw [hall (m + k) h] at h1
        simp at h1
      · omega
  intro fuel
  induction fuel with
  | zero =>
    intro L a w hsz hcnt hCl hstate
    have hall : ∀ j, j < ops.toList.length → L.getD j true = true := fun j hj => by
      cases h : L.getD j true with
      | true => rfl
      | false =>
        have : j ∈ (List.range ops.toList.length).filter fun j => !L.getD j true := List.mem_filter.2 ⟨List.mem_range.2 hj, by rw [h]; rfl⟩
        have hz := List.length_eq_zero_iff.1 hcnt
        rw [hz] at this; simp at this
    refine wpAny_zero ?_ ?_
    · rw [List.eq_nil_iff_forall_not_mem]
      intro i hi
      obtain ⟨h1, h2, _⟩ := ready_iff.1 hi
      rw [hall i (by omega)] at h2; cases h2
    · rcases hstate with ⟨hlt, μ, k, hq⟩ | ⟨q, ts, σ, μ, hpq, hL, hrun, t1, t2, t3⟩
      · have hpe : p = ops.toList.length := by
          rcases Nat.lt_or_ge p ops.toList.length with h | h
          · have := hlt p h (hall p h); omega
          · omega
        rw [hpe, List.drop_length] at hrest
        simp only [opsV, Option.some.injEq, Prod.mk.injEq] at hrest
        rw [← hpe] at hrest
        obtain ⟨e1, e2⟩ := hrest
        obtain ⟨tr, ek⟩ := turn L a w μ k hq fun j hj => hall j (by omega)
        have r1 := hq.rel
        have r2 := hq.step
        rw [ek] at r1 r2
        refine hQ a w ⟨μ, ?_, ?_, ?_⟩
        · rw [← e1]; exact tr
        · rw [← e2]; exact r1
        · rw [← e2]; exact r2
      · have hqe : ops.toList.length ≤ q := by
          rcases Nat.lt_or_ge q ops.toList.length with h | h
          · have := hall q h
            rw [hL q h] at this
            simp at this
          · exact h
        rw [List.drop_eq_nil_of_le hqe] at hrun
        simp only [opsV, Option.some.injEq, Prod.mk.injEq] at hrun
        obtain ⟨rfl, rfl⟩ := hrun
        exact hQ a w ⟨μ, t1, t2, t3⟩
  | succ fuel IH =>
    intro L a w hsz hcnt hCl hstate
    have hcl' : ∀ i o, ops.toList[i]? = some o → (∀ e ∈ o.after.toList, Region.binds .any e = true → L.getD e.on false = true) → i < ops.toList.length → Closed ops (L.setIfInBounds i true) := by
      intro i o ho hpre hi j oj hoj hlj e he hb
      rw [Listed, getD_set L i e.on (by omega)]
      by_cases e1 : e.on = i
      · rw [if_pos e1]
      · rw [if_neg e1]
        rw [Listed, getD_set L i j (by omega)] at hlj
        by_cases e2 : j = i
        · subst e2
          rw [ho] at hoj; cases hoj
          have := hpre e he hb
          simp only [Array.getD_eq_getD_getElem?] at this ⊢
          cases h3 : L[e.on]? with
          | none => rfl
          | some b => rw [h3] at this; simpa using this
        · rw [if_neg e2] at hlj
          exact hCl j oj hoj hlj e he hb
    have hcnt' : ∀ i, i < ops.toList.length → L.getD i true = false → cnt (L.setIfInBounds i true) ops.toList.length = fuel := by
      intro i hi hu
      have := filter_one (n := ops.toList.length) hi (f := fun j => !L.getD j true) (g := fun j => !(L.setIfInBounds i true).getD j true) (by simp [hu]) (by rw [getD_set L i i (by omega)]; simp) (fun j hj => by rw [getD_set L i j (by omega), if_neg hj])
      unfold cnt at hcnt ⊢
      omega
    have hsz' : ∀ i, (L.setIfInBounds i true).size = ops.toList.length := fun i => by simpa using hsz
    have hpre2 : ∀ o : Oper, (∀ e ∈ o.after.toList, Region.binds .any e = true → L.getD e.on false = true) → ∀ e ∈ o.after.toList, Region.binds .any e = true → Listed L e.on := by
      intro o h e he hb
      have := h e he hb
      unfold Listed
      simp only [Array.getD_eq_getD_getElem?] at this ⊢
      cases h3 : L[e.on]? with
      | none => rfl
      | some b => rw [h3] at this; simpa using this
    -- one operation of the forced ones
    have forcedStep : ∀ (q : Nat) (ts : Ts) (σ : St) (μ : Mu), p ≤ q → (∀ j, j < ops.toList.length → L.getD j true = decide (j < q)) → opsV P ih ops (ops.toList.drop q) ts σ = some (ts', σ') → TRel μ ts a → Rel μ σ w → Step μ0 μ (sf 0) σ w0 w →
        ∀ i ∈ Region.ready .any ops L, wpOp P ops Q i (wpAny P .any ops Q fuel (L.setIfInBounds i true)) a w := by
      intro q ts σ μ hpq hL hrun t1 t2 t3 i hi
      obtain ⟨h1, h2, o, ho, hpre⟩ := ready_iff.1 hi
      have hil : i < ops.toList.length := by omega
      have hiq : q ≤ i := by
        rw [hL i hil] at h2
        simp at h2; exact h2
      have hbits := bits_listed hCl hT.back i o ho (hpre2 o hpre)
      have hie : i = q := by
        rcases Nat.lt_or_ge q i with h | h
        · have := hbits q (hT.forced i (by omega) hil q h)
          rw [Listed, hL q (by omega)] at this
          simp at this
        · omega
      subst hie
      have ho' : ops[i]? = some o := by simpa using ho
      have hdrop : ops.toList.drop i = o :: ops.toList.drop (i + 1) := by
        rw [List.drop_eq_getElem_cons hil]
        congr 1
        exact (List.getElem?_eq_some_iff.1 ho).2
      rw [hdrop] at hrun
      simp only [opsV] at hrun
      have hw := wantedV_eq t1 ops o
      have hL' : ∀ j, j < ops.toList.length → (L.setIfInBounds i true).getD j true = decide (j < i + 1) := fun j hj => by
        rw [getD_set L i j (by omega)]
        by_cases e : j = i
        · subst e; simp
        · rw [if_neg e, hL j hj]
          by_cases hlt : j < i
          · simp [hlt]; omega
          · simp [hlt]; omega
      unfold wpOp
      rw [ho']
      simp only
      split at hrun
      · rename_i hwt
        rw [if_pos (by rw [hw]; exact hwt)]
        split at hrun
        case h_2 => cases hrun
        rename_i v s1 hop
        split at hrun
        case isFalse => cases hrun
        rename_i hs1
        have hs2 := opsV_size _ _ _ _ _ hrun
        refine .inl (opV_wp hS hop t1 t2 ((t3.fresh hfr).mono hs2) fun μ' v' w' g1 g2 g3 => ?_)
        exact IH _ _ _ (hsz' i) (hcnt' i hil h2) (hcl' i o ho hpre hil) (.inr ⟨i + 1, _, s1, μ', by omega, hL', hrun, (t1.mono g3.ext).putV g1 o.dst, g2, t3.trans g3⟩)
      · rename_i hwt
        rw [if_neg (by rw [hw]; exact hwt)]
        exact IH _ _ _ (hsz' i) (hcnt' i hil h2) (hcl' i o ho hpre hil) (.inr ⟨i + 1, _, σ, μ, by omega, hL', hrun, t1.putV (vrel_undef μ) o.dst, t2, t3⟩)
    refine ⟨fun hr => ?_, fun i hi => ?_⟩
    · -- there is always one that is ready
      exfalso
      have hex : ∃ j, j < ops.toList.length ∧ L.getD j true = false := by
        have hne : (List.range ops.toList.length).filter (fun j => !L.getD j true) ≠ [] := fun h => by
          unfold cnt at hcnt; rw [h] at hcnt; simp at hcnt
        obtain ⟨j, hj⟩ := List.exists_mem_of_ne_nil _ hne
        simp only [List.mem_filter, List.mem_range, Bool.not_eq_true'] at hj
        exact ⟨j, hj⟩
      have least : ∀ k j, j < k → j < ops.toList.length → L.getD j true = false → False := by
        intro k
        induction k with
        | zero => intro j hj; omega
        | succ k ihk =>
          intro j hj hjl hju
          obtain ⟨o, ho⟩ : ∃ o, ops.toList[j]? = some o := ⟨_, List.getElem?_eq_getElem hjl⟩
          have : j ∈ Region.ready .any ops L := ready_iff.2 ⟨by omega, hju, o, ho, fun e he hb => by
            have hlt := hT.back j o ho e he hb
            have h1 : L.getD e.on true = true := by
              cases h : L.getD e.on true with
              | true => rfl
              | false => exact (ihk e.on (by omega) (by omega) h).elim
            simp only [Array.getD_eq_getD_getElem?] at h1 ⊢
            have : e.on < L.size := by omega
            rw [Array.getElem?_eq_getElem this] at h1 ⊢
            simpa using h1⟩
          rw [hr] at this; simp at this
      obtain ⟨j, hj, hu⟩ := hex
      exact least (j + 1) j (by omega) hj hu
    · rcases hstate with ⟨hlt, μ, k, hq⟩ | ⟨q, ts, σ, μ, hpq, hL, hrun, t1, t2, t3⟩
      · obtain ⟨h1, h2, o, ho, hpre⟩ := ready_iff.1 hi
        have hil : i < ops.toList.length := by omega
        have hkp := hq.kp
        by_cases hip : i < p
        · have ho' : ops[i]? = some o := by simpa using ho
          have hpl := hpre2 o hpre
          have hlook := fun t ht => look_ok2 hT hts hp hn hd hq hCl hip ho h2 hpl (t := t) ht
          have hops : ∀ t, (.tmp t) ∈ o.op.operands → VRel μ (getT (tf i) t) (a.tmps.getD t undef) := fun t ht => hlook t (List.mem_append_left _ (List.mem_filterMap.2 ⟨.tmp t, by simpa using ht, rfl⟩))
          have hguard : Region.wanted o (yielded ops a.tmps) = wantedV ops (tf i) o := wanted_part ops o fun j want d hg hd' => hlook d (by
            unfold Oper.looksAt
            rw [hg]
            exact List.mem_append_right _ (by simp [hd']))
          have hlt' : ∀ j, j < ops.toList.length → (L.setIfInBounds i true).getD j true = true → j < p := fun j hj hl => by
            rw [getD_set L i j (by omega)] at hl
            by_cases e : j = i
            · omega
            · rw [if_neg e] at hl; exact hlt j hj hl
          obtain ⟨s1m, s2m, s3m⟩ := sames k hkp
          unfold wpOp
          rw [ho']
          simp only
          by_cases him : i < m
          · -- one that is no store
            have late : k ≠ 0 → C.testBit i = false := fun hk0 => by
              have hmlt : m < p := by omega
              rw [hbit hmlt]
              cases hb : ((closL ops.toList []).getD m 0).testBit i with
              | false => rfl
              | true =>
                obtain ⟨om, hom⟩ : ∃ om, ops.toList[m]? = some om := ⟨_, List.getElem?_eq_getElem (by omega)⟩
                have hlm : Listed L m := by
                  have := hq.sd m (Nat.le_refl _) hmlt
                  rw [Listed, this]; simp; omega
                have := bits_listed hCl hT.back m om hom (fun e he hbe => hCl m om hom hlm e he hbe) i hb
                rw [Listed, h2] at this; cases this
            obtain ⟨hts1, hcase⟩ := hN i o him ho
            have hwf : WfB (sf i) := (chain 0 i (by omega) (by omega)).wf hw0
            have hke := chain i m (by omega) (Nat.le_refl _)
            rcases hcase with ⟨hw, Hl, s1, hHl, hHlt, hop, hwr, hsz1, hwr1, hget⟩ | ⟨hw, hv, hs1⟩
            · rw [if_pos (by rw [hguard]; exact hw)]
              -- what is left of the memory is as it was
              have hold : ∀ b B, (cutS (sf i) Hl).getB b = some B → (sf (m + k)).getB b = some B := fun b B hB => by
                rw [getB_cutS] at hB
                split at hB
                · cases hB
                · rename_i hbl
                  have hbs := hwf b B hB
                  have e1 : (sf (m + k)).getB b = (sf m).getB b := by
                    by_cases hk0 : k = 0
                    · subst hk0; rfl
                    · refine s3m b fun hbH => hbl ?_
                      rw [(hHl (late hk0)).1, mem_belowN]
                      exact ⟨hbH, hbs⟩
                  rw [e1, hke.same b hbs]; exact hB
              have hRi : Rel μ (cutS (sf i) Hl) w := by
                have := hq.rel
                refine ⟨fun b B hB => ?_, fun b B L' hB hk => this.blk b B L' (hold b B hB) hk, fun b b' B B' L' L'' hB hB' hne hk hk' hb => this.apart b b' B B' L' L'' (hold _ _ hB) (hold _ _ hB') hne hk hk' hb⟩
                rw [getB_cutS] at hB
                split at hB
                · cases hB
                · exact hwf b B hB
              have hfi : Fresh μ (cutS (sf i) Hl) s1 := by
                have := hq.fresh i him h2
                intro b g1 g2
                exact this b g1 (by rw [hsz1]; exact g2)
              have hnew : ∀ b, (sf i).size ≤ b → b < s1.size → (sf (m + k)).getB b = s1.getB b := fun b g1 g2 => by
                have e1 : (sf (m + k)).getB b = (sf m).getB b := by
                  by_cases hk0 : k = 0
                  · subst hk0; rfl
                  · refine s3m b fun hbH => ?_
                    have := (hHl (late hk0)).2 b hbH
                    omega
                have e2 : (sf m).getB b = (sf (i + 1)).getB b := (chain (i + 1) m (by omega) (Nat.le_refl _)).same b (by rw [hsz1]; exact g2)
                rw [e1, e2, hget, if_neg (fun h => by have := hHlt b h; omega)]
              refine .inl ((opV_part hS (hT.sel i o ho) hop hops hRi hfi (by rw [hq.n]; exact hd) (by rw [(tf_n2 hts hp i (by omega)).1, hn]; exact hd)).wp fun μ' v' w' g1 g2 g3 => ?_)
              exact IH _ _ _ (hsz' i) (hcnt' i hil h2) (hcl' i o ho hpre hil) (.inl ⟨hlt', μ', k, hq.nextN (σa := cutS (sf i) Hl) hT hN hS2 hC hp hmp hsz him ho h2 hwr rfl hsz1 hnew g1 g2 g3⟩)
            · rw [if_neg (by rw [hguard, hw]; simp)]
              refine IH _ _ _ (hsz' i) (hcnt' i hil h2) (hcl' i o ho hpre hil) (.inl ⟨hlt', μ, k, ?_⟩)
              have hRe : Rel μ { heap := .nil, size := (sf i).size, wr := (sf i).size } w := ⟨fun b B hB => by rw [St.getB_eq] at hB; simp [Tr.get_nil] at hB, fun b B L' hB => by rw [St.getB_eq] at hB; simp [Tr.get_nil] at hB, fun b b' B B' L' L'' hB => by rw [St.getB_eq] at hB; simp [Tr.get_nil] at hB⟩
              exact hq.nextN (s1 := { heap := .nil, size := (sf i).size, wr := (sf i).size }) (σa := { heap := .nil, size := (sf i).size, wr := (sf i).size }) hT hN hS2 hC hp hmp hsz him ho h2 (Nat.le_refl _) rfl (by rw [hs1]) (fun b g1 g2 => by simp at g2; omega) (by rw [hv]; exact vrel_undef μ) hRe (Step.refl _ _ _)
          · -- a store: it is the next one
            have hie : i = m + k := by
              have hge : m + k ≤ i := by
                have := hq.sd i (by omega) hip
                rw [h2] at this
                simp at this; exact this
              rcases Nat.lt_or_ge (m + k) i with h | h
              · have := bits_listed hCl hT.back i o ho hpl (m + k) (hseq i (m + k) (by omega) h hip)
                rw [Listed, hq.sd (m + k) (by omega) (by omega)] at this
                simp at this
              · omega
            subst hie
            have hss := hS2 (m + k) o (by omega) hip ho
            obtain ⟨c1, c2, c3⟩ := hss.canon hC
            obtain ⟨hts1, hcase⟩ := hss
            rcases hcase with ⟨hw, hop, hsz1, _⟩ | ⟨hw, hv, hs1⟩
            · rw [if_pos (by rw [hguard]; exact hw)]
              refine .inl ((opV_part hS (hT.sel _ o ho) hop hops hq.rel (fun b g1 g2 => by omega) (by rw [hq.n]; exact hd) (by rw [(tf_n2 hts hp (m + k) (by omega)).1, hn]; exact hd)).wp fun μ' v' w' g1 g2 g3 => ?_)
              exact IH _ _ _ (hsz' _) (hcnt' _ hil h2) (hcl' _ o ho hpre hil) (.inl ⟨hlt', μ', k + 1, hq.nextS hT hp hsz hip ho hsz1 g1 g2 g3⟩)
            · rw [if_neg (by rw [hguard, hw]; simp)]
              refine IH _ _ _ (hsz' _) (hcnt' _ hil h2) (hcl' _ o ho hpre hil) (.inl ⟨hlt', μ, k + 1, ?_⟩)
              exact hq.nextS hT hp hsz hip ho c2 (by rw [hv]; exact vrel_undef μ) (by rw [hs1]; exact hq.rel) (by rw [hs1]; exact Step.refl _ _ _)
        · -- all before it have run
          have hbits := bits_listed hCl hT.back i o ho (hpre2 o hpre)
          have hall : ∀ j, j < i → L.getD j true = true := fun j hj => hbits j (hT.forced i (by omega) hil j hj)
          have hpe : i = p := by
            rcases Nat.lt_or_ge p i with h | h
            · have := hlt p (by omega) (hall p h); omega
            · omega
          subst hpe
          obtain ⟨tr, ek⟩ := turn L a w μ k hq hall
          have r1 := hq.rel
          have r2 := hq.step
          rw [ek] at r1 r2
          refine forcedStep i (tf i) (sf i) μ (Nat.le_refl _) (fun j hj => ?_) hrest tr r1 r2 i hi
          by_cases hji : j < i
          · rw [hall j hji]; simp [hji]
          · cases h : L.getD j true with
            | false => simp [hji]
            | true => exact absurd (hlt j hj h) hji
      · exact forcedStep q ts σ μ hpq hL hrun t1 t2 t3 i hi
end
end
end Go.Proofs.Ytadamjleglckpaa.ev

/- The reckoner: regions that draw their order, with stores and without. -/
namespace Go.Proofs.Ytadamjleglckpaa.ev
noncomputable section
open Go.RowKit
set_option linter.unusedSimpArgs false
set_option linter.unusedVariables false
set_option linter.unusedSectionVars false
variable [Kn]

def firstStore : List Oper → Nat
  | [] => 0
  | o :: l => match isStore o.op with
    | true => 0
    | false => firstStore l + 1
theorem firstStore_le : ∀ l, firstStore l ≤ l.length
  | [] => by simp [firstStore]
  | o :: l => by
    unfold firstStore
    split
    · simp
    · have := firstStore_le l; simp; omega
/-- the free operations that are no stores -/
def midN (ops : Array Oper) : Nat := firstStore (ops.toList.take (freeN ops))
def seqOK (ops : Array Oper) (m p : Nat) : Bool := (List.range p).all fun s => Nat.blt s m || (List.range s).all fun s' => Nat.blt s' m || ((closL ops.toList []).getD s 0).testBit s'
theorem seqOK_spec {ops : Array Oper} {m p : Nat} (h : seqOK ops m p = true) : ∀ s s', m ≤ s' → s' < s → s < p → ((closL ops.toList []).getD s 0).testBit s' = true := by
  intro s s' h1 h2 h3
  unfold seqOK at h
  have := List.all_eq_true.1 h s (by simpa using h3)
  simp only [Bool.or_eq_true] at this
  rcases this with a | a
  · have := blt_lt a; omega
  · have := List.all_eq_true.1 a s' (by simpa using h2)
    simp only [Bool.or_eq_true] at this
    rcases this with b | b
    · have := blt_lt b; omega
    · exact b
def lastS (P : Program) (ops : Array Oper) (H : List Nat) (ih : Ih) (ts : Ts) (σ : St) : Option (Ts × St) :=
  thenR ((q2C P ops ((closL ops.toList []).getD (midN ops) 0) H (ops.toList.take (midN ops)) 0).run ih ts σ) fun ts σ =>
    thenR ((sC P ops H ((ops.toList.take (freeN ops)).drop (midN ops))).run ih ts σ) ((opsC P ops (ops.toList.drop (freeN ops))).run ih)
def drawSC (P : Program) (ops : Array Oper) : RC :=
  match drawOK P ops (dstTop ops.toList) (freeN ops) with
  | true => match seqOK ops (midN ops) (freeN ops) with
    | true => ⟨fun ih ts σ => match Nat.ble (dstTop ops.toList) ts.n with
      | true => match (qC P ops (ops.toList.take (midN ops))).run ih ts σ with
        | some r => forceNs (tgts r.1 r.2 ops ((ops.toList.take (freeN ops)).drop (midN ops))) fun H => lastS P ops H ih ts σ
        | none => none
      | false => none⟩
    | false => ⟨fun _ _ _ => none⟩
  | false => ⟨fun _ _ _ => none⟩
def drawWC (P : Program) (ops : Array Oper) : RC :=
  match Nat.beq (midN ops) (freeN ops) with
  | true => drawC P ops
  | false => drawSC P ops
def drawW (P : Program) (ih : Ih) (ops : Array Oper) (ts : Ts) (σ : St) : Option (Ts × St) := (drawWC P ops).run ih ts σ
theorem drawWC_some {P : Program} {ops : Array Oper} {ih : Ih} {ts : Ts} {σ : St} {r : Ts × St} (h : (drawWC P ops).run ih ts σ = some r) : drawW P ih ops ts σ = some r := h
theorem drawSC_some {P : Program} {ops : Array Oper} {ih : Ih} {ts : Ts} {σ : St} {r : Ts × St} (h : (drawSC P ops).run ih ts σ = some r) :
    drawOK P ops ts.n (freeN ops) = true ∧ seqOK ops (midN ops) (freeN ops) = true ∧ ∃ H, lastS P ops H ih ts σ = some r := by
  unfold drawSC at h
  split at h
  case h_2 => cases h
  rename_i hok
  split at h
  case h_2 => cases h
  rename_i hsq
  simp only at h
  split at h
  case h_2 => cases h
  rename_i hn
  have hle := Nat.le_of_ble_eq_true hn
  have hok2 : drawOK P ops ts.n (freeN ops) = true := by
    unfold drawOK at hok ⊢
    simp only [Bool.and_eq_true] at hok ⊢
    exact ⟨⟨⟨⟨hok.1.1.1.1, dstOk_mono hok.1.1.1.2 hle⟩, hok.1.1.2⟩, hok.1.2⟩, hok.2⟩
  split at h
  case h_2 => cases h
  rw [forceNs_eq] at h
  exact ⟨hok2, hsq, _, h⟩
/-- the runs of both parts laid one after the other -/
theorem lastS_run {P : Program} {ih : Ih} (hC : CanonOk ih) {ops : Array Oper} {H : List Nat} {ts : Ts} {σ : St} {ts' : Ts} {σ' : St} (h : lastS P ops H ih ts σ = some (ts', σ')) :
    ∃ (tf : Nat → Ts) (sf : Nat → St) (vf : Nat → Value), tf 0 = ts ∧ sf 0 = σ ∧
      (∀ j o, j < midN ops → ops.toList[j]? = some o → NStep P ih ops ((closL ops.toList []).getD (midN ops) 0) H j o (tf j) (sf j) (vf j) (tf (j + 1)) (sf (j + 1))) ∧
      (∀ j o, midN ops ≤ j → j < freeN ops → ops.toList[j]? = some o → SStep P ih ops H o (tf j) (sf j) (vf j) (tf (j + 1)) (sf (j + 1))) ∧
      opsV P ih ops (ops.toList.drop (freeN ops)) (tf (freeN ops)) (sf (freeN ops)) = some (ts', σ') := by
  have hple : freeN ops ≤ ops.toList.length := Nat.sub_le _ _
  have hmp : midN ops ≤ freeN ops := by
    have := firstStore_le (ops.toList.take (freeN ops))
    rw [List.length_take, Nat.min_eq_left hple] at this
    exact this
  unfold lastS thenR at h
  split at h
  case h_2 => cases h
  rename_i p1 h1
  simp only at h
  split at h
  case h_2 => cases h
  rename_i p2 h2
  rw [opsC_eq] at h
  obtain ⟨tf1, sf1, vf1, a1, a2, a3, a4, a5⟩ := q2C_run hC _ _ _ _ p1.1 p1.2 h1
  obtain ⟨tf2, sf2, vf2, b1, b2, b3, b4, b5⟩ := sC_run _ _ _ p2.1 p2.2 h2
  have hlen1 : (ops.toList.take (midN ops)).length = midN ops := by rw [List.length_take]; exact Nat.min_eq_left (by omega)
  have hlen2 : ((ops.toList.take (freeN ops)).drop (midN ops)).length = freeN ops - midN ops := by rw [List.length_drop, List.length_take]; omega
  rw [hlen1] at a3 a4
  rw [hlen2] at b3 b4
  refine ⟨fun j => if j < midN ops then tf1 j else tf2 (j - midN ops), fun j => if j < midN ops then sf1 j else sf2 (j - midN ops), fun j => if j < midN ops then vf1 j else vf2 (j - midN ops), ?_, ?_, fun j o hj ho => ?_, fun j o hj hj2 ho => ?_, ?_⟩
  · by_cases h0 : 0 < midN ops
    · simp only [h0, if_true]; exact a1
    · have : midN ops = 0 := by omega
      simp only [this, Nat.lt_irrefl, if_false, Nat.sub_zero, b1]
      rw [this] at a3; rw [← a3]; exact a1
  · by_cases h0 : 0 < midN ops
    · simp only [h0, if_true]; exact a2
    · have : midN ops = 0 := by omega
      simp only [this, Nat.lt_irrefl, if_false, Nat.sub_zero, b2]
      rw [this] at a4; rw [← a4]; exact a2
  · have := a5 j o (by rw [List.getElem?_take, if_pos hj]; exact ho)
    rw [Nat.zero_add] at this
    simp only [hj, if_true]
    by_cases h0 : j + 1 < midN ops
    · simp only [h0, if_true]; exact this
    · have e : j + 1 = midN ops := by omega
      simp only [e, Nat.lt_irrefl, if_false, Nat.sub_self, b1, b2]
      rw [e, a3, a4] at this
      exact this
  · have hn1 : ¬ j < midN ops := by omega
    have hn2 : ¬ j + 1 < midN ops := by omega
    simp only [hn1, hn2, if_false]
    have := b5 (j - midN ops) o (by rw [List.getElem?_drop, List.getElem?_take, show midN ops + (j - midN ops) = j by omega, if_pos hj2]; exact ho)
    rwa [show j - midN ops + 1 = j + 1 - midN ops by omega] at this
  · by_cases h0 : freeN ops < midN ops
    · omega
    · simp only [h0, if_false, b3, b4]
      exact h
theorem drawS_ok {P : Program} {ih : Ih} (hS : Sound P ih) (hC : CanonOk ih) {ops : Array Oper} {ts : Ts} {σ : St} {ts' : Ts} {σ' : St} (h : (drawSC P ops).run ih ts σ = some (ts', σ')) :
    Canon σ σ' ∧ ∀ (id : Nat) (μ : Mu) (a : Act) (w : World), TRel μ ts a → Rel μ σ w → Fresh μ σ σ' →
      (Code.region id ops true).wp P (fun e a' w' => e = .normal ∧ Ends μ σ w ts' σ' a' w') a w := by
  obtain ⟨hok, hsq, H, hl⟩ := drawSC_some h
  have hT := text_of hok
  have hple : freeN ops ≤ ops.toList.length := Nat.sub_le _ _
  have hmp : midN ops ≤ freeN ops := by
    have := firstStore_le (ops.toList.take (freeN ops))
    rw [List.length_take, Nat.min_eq_left hple] at this
    exact this
  obtain ⟨tf, sf, vf, a1, a2, hN, hS2, hrest⟩ := lastS_run hC hl
  have chain := keeps_n hN hC (Nat.le_trans hmp hple) 0 (midN ops) (Nat.zero_le _) (Nat.le_refl _)
  have hst := stores_same hS2 hC hple (freeN ops - midN ops) (by omega)
  rw [show midN ops + (freeN ops - midN ops) = freeN ops by omega] at hst
  have hcan : Canon σ σ' := by
    have hk := canon_ops hC _ _ _ _ _ hrest
    rw [a2] at chain
    exact Canon.trans (Canon.trans ⟨chain.size, chain.wr, fun k h1 _ => chain.same k h1, chain.wf⟩ hst.1) hk
  refine ⟨hcan, fun id μ a w tr rel fr => ?_⟩
  refine wp_region_any hT.mixed ?_
  have hsz : (Array.replicate ops.size false).size = ops.toList.length := by simp
  have hrel0 : Rel μ (sf 0) { w with drawn := w.drawn + 1 } := by rw [a2]; exact ⟨rel.wf, rel.blk, rel.apart⟩
  have hstep0 : Step μ μ (sf 0) (sf 0) w { w with drawn := w.drawn + 1 } := ⟨Mu.le.refl _, fun _ _ h => .inl h, Nat.le_refl _, Nat.le_refl _, Nat.le_refl _, rfl, rfl, rfl, fun _ _ _ => rfl, fun _ _ _ => rfl⟩
  have hfr0 : Fresh μ (sf 0) (sf (midN ops)) := by
    rw [a2]
    refine fr.mono ?_
    rw [← hst.2.1]
    exact (canon_ops hC _ _ _ _ _ hrest).size
  have hrelp : Rel μ (sf (midN ops)) { w with drawn := w.drawn + 1 } := hrel0.up chain hfr0
  have hno : ∀ j, (Array.replicate ops.size false).getD j true = true → ¬ j < ops.size := fun j h1 h2 => by
    simp [Array.getD_eq_getD_getElem?, Array.getElem?_replicate, h2] at h1
  have hno' : ∀ j, j < ops.size → (Array.replicate ops.size false).getD j true = false := fun j h2 => by
    simp [Array.getD_eq_getD_getElem?, Array.getElem?_replicate, h2]
  have oplen : ops.size = ops.toList.length := by simp
  have hfin : ∀ a1 w1, Ends μ (sf 0) { w with drawn := w.drawn + 1 } ts' σ' a1 w1 → Ends μ σ w ts' σ' a1 w1 := by
    rintro a1 w1 ⟨μ', t1, t2, t3⟩
    rw [a2] at t3 hstep0
    exact ⟨μ', t1, t2, hstep0.trans t3⟩
  refine draw_any2 (μ0 := μ) (w0 := { w with drawn := w.drawn + 1 }) (n := ts.n) (p := freeN ops) (m := midN ops) (C := (closL ops.toList []).getD (midN ops) 0) (H := H) hT hS hN hS2 hmp (fun _ => rfl) (seqOK_spec hsq) hC hple (by rw [a1]) (by rw [a1]; exact tr.d) hrest (by rw [a2]; exact fr) hrel0.wf (fun a1 w1 he => ⟨rfl, hfin a1 w1 he⟩) ops.size _ a _ hsz ?_ ?_ (.inl ⟨fun j hj hl => absurd (by omega) (hno j hl), μ, 0, ?_⟩)
  · unfold cnt
    rw [← oplen, List.filter_eq_self.2 (fun j hj => by rw [hno' j (by simpa using hj)]; rfl), List.length_range]
  · intro j o ho hl
    have : j < ops.toList.length := (List.getElem?_eq_some_iff.1 ho).1
    exact absurd (by omega) (hno j hl)
  · refine ⟨hrelp, ⟨Mu.le.refl _, fun _ _ h => .inl h, chain.size, chain.wr, Nat.le_refl _, rfl, rfl, rfl, fun _ _ _ => rfl, fun k h1 _ => chain.same k h1⟩, fun j hj _ => ?_, hmp, fun j g1 g2 => ?_, tr.n, tr.df, fun t j o hj ho hd hl => absurd (by omega) (hno j hl), fun t _ => by rw [a1]; exact tr.get t⟩
    · have c1 := keeps_n hN hC (Nat.le_trans hmp hple) 0 j (Nat.zero_le _) (by omega)
      have c2 := keeps_n hN hC (Nat.le_trans hmp hple) (j + 1) (midN ops) (by omega) (Nat.le_refl _)
      intro k h1 h2
      exact hfr0 k (Nat.le_trans c1.size h1) (Nat.lt_of_lt_of_le h2 c2.size)
    · rw [hno' j (by omega)]
      simp; omega
theorem drawW_ok (P : Program) : DrawOk2 P (drawW P) := by
  intro ih hS hC ops ts σ ts' σ' h
  unfold drawW drawWC at h
  split at h
  · exact drawV_ok P ih hS hC ops ts σ ts' σ' (drawC_some h)
  · exact drawS_ok hS hC h
theorem stepW_canon {P : Program} {ih : Ih} (hS : Sound P ih) (hC : CanonOk ih) : CanonOk (stepV P (drawW P) ih) := by
  intro c ts σ ex ts' σ' h
  cases c <;> simp only [stepV] at h
  case skip => cases h; exact Canon.refl _
  case label => cases h; exact Canon.refl _
  case exit => cases h; exact Canon.refl _
  case ret => cases h; exact Canon.refl _
  case region id ops d =>
    split at h
    · rename_i ts1 s1 h1
      cases h
      cases d
      · exact canon_ops hC _ _ _ _ _ h1
      · exact (drawW_ok P ih hS hC _ _ _ _ _ h1).1
    · cases h
  case seq x y =>
    split at h
    · rename_i h1
      exact (hC _ _ _ _ _ _ h1).trans (hC _ _ _ _ _ _ h)
    · exact hC _ _ _ _ _ _ h
  case cond c x y =>
    split at h
    · exact hC _ _ _ _ _ _ h
    · cases h
  case scope b => exact hC _ _ _ _ _ _ h
  case block id b =>
    split at h
    · rename_i h1
      cases h
      exact hC _ _ _ _ _ _ h1
    · exact hC _ _ _ _ _ _ h
  case loop b =>
    split at h
    · rename_i h1
      exact (hC _ _ _ _ _ _ h1).trans (hC _ _ _ _ _ _ h)
    · exact hC _ _ _ _ _ _ h
  all_goals cases h
end
end Go.Proofs.Ytadamjleglckpaa.ev

/- The reckoner, made fast: code. -/
namespace Go.Proofs.Ytadamjleglckpaa.ev
open Go.RowKit
set_option linter.unusedSimpArgs false
set_option linter.unusedVariables false
set_option linter.unusedSectionVars false
noncomputable section
variable [Kn]

/-! code -/
structure XC where
  run : Ih → Ts → St → Option (Ex × Ts × St)
def normR (x : Option (Ts × St)) : Option (Ex × Ts × St) :=
  match x with
  | some p => some (.norm, p.1, p.2)
  | none => none
def onNorm (x : Option (Ex × Ts × St)) (k : Ts → St → Option (Ex × Ts × St)) : Option (Ex × Ts × St) :=
  match x with
  | some (.norm, ts, σ) => k ts σ
  | some (.exit id, ts, σ) => some (.exit id, ts, σ)
  | some (.ret, ts, σ) => some (.ret, ts, σ)
  | none => none
def onExit (id : Nat) (x : Option (Ex × Ts × St)) : Option (Ex × Ts × St) :=
  match x with
  | some (.exit id', ts, σ) => match Nat.beq id' id with
    | true => some (.norm, ts, σ)
    | false => some (.exit id', ts, σ)
  | r => r
def onBool (x : Option Value) (t f : Unit → Option (Ex × Ts × St)) : Option (Ex × Ts × St) :=
  match x with
  | some v => match boolOf v with
    | some true => t ()
    | some false => f ()
    | none => none
  | none => none
def stepC (P : Program) (c : Code) : XC :=
  match c with
  | .skip => ⟨fun _ ts σ => some (.norm, ts, σ)⟩
  | .label _ => ⟨fun _ ts σ => some (.norm, ts, σ)⟩
  | .region _ ops true => ⟨fun ih ts σ => normR ((drawWC P ops).run ih ts σ)⟩
  | .region _ ops false => ⟨fun ih ts σ => normR ((opsC P ops ops.toList).run ih ts σ)⟩
  | .seq x y => ⟨fun ih ts σ => onNorm (ih x ts σ) (ih y)⟩
  | .cond c x y => ⟨fun ih ts σ => onBool (evo ts c) (fun _ => ih x ts σ) (fun _ => ih y ts σ)⟩
  | .block id b => ⟨fun ih ts σ => onExit id (ih b ts σ)⟩
  | .loop b => ⟨fun ih ts σ => onNorm (ih b ts σ) (ih (.loop b))⟩
  | .scope b => ⟨fun ih ts σ => ih b ts σ⟩
  | .exit id => ⟨fun _ ts σ => some (.exit id, ts, σ)⟩
  | .ret => ⟨fun _ ts σ => some (.ret, ts, σ)⟩
  | _ => ⟨fun _ _ _ => none⟩
theorem stepC_some {P : Program} {c : Code} {ih : Ih} {ts : Ts} {σ : St} {r : Ex × Ts × St} (h : (stepC P c).run ih ts σ = some r) : stepV P (drawW P) ih c ts σ = some r := by
  cases c <;> simp only [stepC] at h <;> try (exact h) <;> try (cases h; done)
  case region id ops d =>
    cases d
    · simp only at h
      rw [opsC_eq] at h
      simp only [stepV, Bool.false_eq_true, if_false]
      unfold normR at h
      cases ho : opsV P ih ops ops.toList ts σ with
      | none => rw [ho] at h; cases h
      | some p => rw [ho] at h; obtain ⟨a, b⟩ := p; exact h
    · simp only at h
      simp only [stepV, if_true]
      unfold normR at h
      cases ho : (drawWC P ops).run ih ts σ with
      | none => rw [ho] at h; cases h
      | some p =>
        rw [ho] at h
        obtain ⟨a, b⟩ := p
        rw [drawWC_some ho]; exact h
  case seq x y =>
    simp only [stepV]
    unfold onNorm at h
    cases hx : ih x ts σ with
    | none => rw [hx] at h; cases h
    | some p =>
      obtain ⟨e, a, b⟩ := p
      rw [hx] at h
      cases e <;> exact h
  case cond c x y =>
    simp only [stepV]
    unfold onBool at h
    cases hc : evo ts c with
    | none => rw [hc] at h; cases h
    | some v =>
      rw [hc] at h
      simp only at h
      cases v <;> simp only [boolOf] at h <;> try (cases h; done)
      rename_i b
      cases b <;> exact h
  case block id b =>
    simp only [stepV]
    unfold onExit at h
    cases hx : ih b ts σ with
    | none => rw [hx] at h; cases h
    | some p =>
      obtain ⟨e, a, b⟩ := p
      rw [hx] at h
      cases e with
      | norm => exact h
      | ret => exact h
      | exit id' =>
        simp only at h ⊢
        by_cases he : id' = id
        · subst he
          rw [show Nat.beq id' id' = true from by simp] at h
          simpa using h
        · rw [show Nat.beq id' id = false from by rw [Bool.eq_false_iff]; intro h2; exact he (Nat.eq_of_beq_eq_true h2)] at h
          simpa [he] using h
  case loop b =>
    simp only [stepV]
    unfold onNorm at h
    cases hx : ih b ts σ with
    | none => rw [hx] at h; cases h
    | some p =>
      obtain ⟨e, a, b⟩ := p
      rw [hx] at h
      cases e <;> exact h
/-! the fast reckoner -/
theorem fam_loop {P : Program} {F : Nat → Ih} (h0 : ∀ c ts σ, F 0 c ts σ = none) (hF : ∀ k c ts σ r, F (k + 1) c ts σ = some r → stepV P (drawW P) (F k) c ts σ = some r) {n : Nat} (hall : ∀ m, m ≤ n → Sound P (F m) ∧ SizeOk (F m)) (b : Code) (ts : Ts) (σ : St) (ex : Ex) (ts' : Ts) (σ' : St) (h : stepV P (drawW P) (F n) (.loop b) ts σ = some (ex, ts', σ')) (μ : Mu) (a : Act) (w : World) (hT : TRel μ ts a) (hR : Rel μ σ w) (hf : Fresh μ σ σ') :
    (Code.loop b).wp P (fun e a' w' => e = ex.of ∧ Ends μ σ w ts' σ' a' w') a w := by
  refine wp_loop_ind (n := n) (fun k a1 w1 => k ≤ n ∧ ∃ ts1 σ1 μ1, stepV P (drawW P) (F k) (.loop b) ts1 σ1 = some (ex, ts', σ') ∧ TRel μ1 ts1 a1 ∧ Rel μ1 σ1 w1 ∧ Fresh μ1 σ1 σ' ∧ Step μ μ1 σ σ1 w w1) ?_ ⟨Nat.le_refl n, ts, σ, μ, h, hT, hR, hf, Step.refl _ _ _⟩
  rintro k a1 w1 ⟨hk, ts1, σ1, μ1, h1, hT1, hR1, hf1, hs1⟩
  obtain ⟨hS, hz⟩ := hall k hk
  simp only [stepV] at h1
  split at h1
  · rename_i ts2 s2 hb
    have hs2 := hz _ _ _ _ _ _ h1
    refine Code.wp_mono ?_ (hS _ _ _ _ _ _ hb μ1 a1 w1 hT1 hR1 (hf1.mono hs2))
    rintro e a2 w2 ⟨rfl, μ2, t1, t2, t3⟩
    cases k with
    | zero => rw [h0] at h1; cases h1
    | succ k => exact ⟨k, by omega, by omega, ts2, s2, μ2, hF k _ _ _ _ h1, t1, t2, t3.fresh hf1, hs1.trans t3⟩
  · rename_i hn
    refine Code.wp_mono ?_ (hS _ _ _ _ _ _ h1 μ1 a1 w1 hT1 hR1 hf1)
    rintro e a2 w2 ⟨rfl, μ2, t1, t2, t3⟩
    cases ex with
    | norm => exact absurd h1 (hn _ _)
    | exit id => exact ⟨rfl, μ2, t1, t2, hs1.trans t3⟩
    | ret => exact ⟨rfl, μ2, t1, t2, hs1.trans t3⟩
def fv (P : Program) (n : Nat) : Ih := Nat.rec (motive := fun _ => Ih) (fun _ _ _ => none) (fun _ ih c ts σ => (stepC P c).run ih ts σ) n
class KnowOk (P : Program) : Prop where
  ok : KnOk P
theorem fv_ok (P : Program) [KnowOk P] (n : Nat) : Sound P (fv P n) ∧ CanonOk (fv P n) := by
  have hF : ∀ k c ts σ r, fv P (k + 1) c ts σ = some r → stepV P (drawW P) (fv P k) c ts σ = some r := fun k c ts σ r h => stepC_some h
  induction n using Nat.strongRecOn with
  | _ n ih =>
    cases n with
    | zero => exact ⟨⟨KnowOk.ok, fun c ts σ ex ts' σ' h => by cases h⟩, fun c ts σ ex ts' σ' h => by cases h⟩
    | succ n =>
      obtain ⟨hS, hz⟩ := ih n (by omega)
      have hd : DrawAt P (drawW P) (fv P n) := fun ops ts σ ts' σ' h => by
        obtain ⟨h1, h2⟩ := drawW_ok P _ hS hz ops ts σ ts' σ' h
        exact ⟨h1.size, h2⟩
      have hall : ∀ m, m ≤ n → Sound P (fv P m) ∧ SizeOk (fv P m) := fun m hm => ⟨(ih m (by omega)).1, (ih m (by omega)).2.size⟩
      have hs1 : Sound P (stepV P (drawW P) (fv P n)) := stepV_sound hd hS hz.size fun b ts σ ex ts' σ' h => fam_loop (F := fv P) (fun _ _ _ => rfl) hF hall b ts σ ex ts' σ' h
      exact ⟨⟨KnowOk.ok, fun c ts σ ex ts' σ' h => hs1 c ts σ ex ts' σ' (hF n c ts σ _ h)⟩, fun c ts σ ex ts' σ' h => stepW_canon hS hz c ts σ ex ts' σ' (hF n c ts σ _ h)⟩
/-! closed runs -/
def saysYes (P : Program) (n : Nat) (g : FuncId) : Bool :=
  match callF P (fv P n) g [] st0 with
  | some p => match boolOf p.1 with
    | some b => b
    | none => false
  | none => false
theorem calls_yes {P : Program} [KnowOk P] {n : Nat} {g : FuncId} (h : saysYes P n g = true) (w : World) : Calls P g #[] w fun e w' => e = .returned (.bool true) ∧ Below w.heap.size w w' := by
  have hc : ∃ σ', callF P (fv P n) g [] st0 = some (.bool true, σ') := by
    unfold saysYes at h
    split at h
    · rename_i p hp
      obtain ⟨v, s⟩ := p
      cases v <;> simp [boolOf] at h
      subst h
      exact ⟨s, hp⟩
    · cases h
  obtain ⟨σ', hc⟩ := hc
  refine (callF_calls (fv_ok P n).1 hc (μ := mu0) .nil (rel0 w) (fun j _ _ => rfl)).mono ?_
  rintro e w' ⟨μ', v', rfl, g1, g2, g3⟩
  exact ⟨by rw [scalar_eq (by rfl) g1], g3.below⟩
end
end Go.Proofs.Ytadamjleglckpaa.ev

/- The reckoner: a run in pieces. -/
namespace Go.Proofs.Ytadamjleglckpaa.ev
noncomputable section
open Go.RowKit
set_option linter.unusedSimpArgs false
set_option linter.unusedVariables false
set_option linter.unusedSectionVars false
variable [Kn]

section
variable {P : Program} [KnowOk P] {ih : Ih} {ops : Array Oper} {p : Nat} {tf : Nat → Ts} {sf : Nat → St} {vf : Nat → Value} {μ0 : Mu} {w0 : World} {n : Nat}
/-- all orders, up to where the order is the text's -/
theorem draw_upto (hT : Text P ops n p) (hS : Sound P ih) (hs : ∀ j o, j < p → ops.toList[j]? = some o → QStep P ih ops o (tf j) (sf j) (vf j) (tf (j + 1)) (sf (j + 1))) (hC : CanonOk ih) (hp : p ≤ ops.toList.length) (hn : (tf 0).n = n) (hd : n ≤ 2 ^ (tf 0).d)
    (hw0 : WfB (sf 0)) {Q : Exit → Act → World → Prop} (hrest : ∀ a w, Ends μ0 (sf 0) w0 (tf p) (sf p) a w → wpList P ops Q (ops.toList.drop p) a w) :
    ∀ (fuel : Nat) (L : Array Bool) (a : Act) (w : World), L.size = ops.toList.length → cnt L ops.toList.length = fuel → Closed ops L →
      (((∀ j, j < ops.toList.length → L.getD j true = true → j < p) ∧ ∃ μ, QInv ops p n tf sf vf μ0 w0 L a w μ) ∨
       (∃ q, p ≤ q ∧ (∀ j, j < ops.toList.length → L.getD j true = decide (j < q)) ∧ wpList P ops Q (ops.toList.drop q) a w)) →
      wpAny P .any ops Q fuel L a w := by
  have chain := keeps_chain hs hC hp
  have oplen : ops.size = ops.toList.length := by simp
  -- all free operations have run: from here on the order is the text's
  have turn : ∀ (L : Array Bool) (a : Act) (w : World) (μ : Mu), QInv ops p n tf sf vf μ0 w0 L a w μ → (∀ j, j < p → L.getD j true = true) → TRel μ (tf p) a := by
    intro L a w μ hq hall
    obtain ⟨n1, n2⟩ := tf_n hs hp p (Nat.le_refl _)
    refine ⟨by rw [hq.n, n1, hn], by rw [n1, n2, hn]; exact hd, fun t ht => ?_, hq.df⟩
    obtain ⟨g1, g2⟩ := tf_get hT hs hp hn hd t p (Nat.le_refl _)
    by_cases hex : ∃ (j : Nat) (oj : Oper), j < p ∧ ops.toList[j]? = some oj ∧ oj.dst = some t
    · obtain ⟨j, oj, hj, hoj, hdj⟩ := hex
      rw [g2 j oj hj hoj hdj]
      exact hq.done t j oj hj hoj hdj (hall j hj)
    · rw [g1 (fun j oj hj hoj hdj => hex ⟨j, oj, hj, hoj, hdj⟩)]
      exact hq.wait t fun j oj hj hoj hdj => absurd ⟨j, oj, hj, hoj, hdj⟩ hex
  intro fuel
  induction fuel with
  | zero =>
    intro L a w hsz hcnt hCl hstate
    have hall : ∀ j, j < ops.toList.length → L.getD j true = true := fun j hj => by
      cases h : L.getD j true with
      | true => rfl
      | false =>
        have : j ∈ (List.range ops.toList.length).filter fun j => !L.getD j true := List.mem_filter.2 ⟨List.mem_range.2 hj, by rw [h]; rfl⟩
        have hz := List.length_eq_zero_iff.1 hcnt
        rw [hz] at this; simp at this
    refine wpAny_zero ?_ ?_
    · rw [List.eq_nil_iff_forall_not_mem]
      intro i hi
      obtain ⟨h1, h2, _⟩ := ready_iff.1 hi
      rw [hall i (by omega)] at h2; cases h2
    · rcases hstate with ⟨hlt, μ, hq⟩ | ⟨q, hpq, hL, hrun⟩
      · have hpe : p = ops.toList.length := by
          rcases Nat.lt_or_ge p ops.toList.length with h | h
          · have := hlt p h (hall p h); omega
          · omega
        have := hrest a w ⟨μ, turn L a w μ hq fun j hj => hall j (by omega), hq.rel, hq.step⟩
        rw [List.drop_eq_nil_of_le (by omega)] at this
        exact this
      · have hqe : ops.toList.length ≤ q := by
          rcases Nat.lt_or_ge q ops.toList.length with h | h
          · have := hall q h
            rw [hL q h] at this
            simp at this
          · exact h
        rw [List.drop_eq_nil_of_le hqe] at hrun
        exact hrun
  | succ fuel IH =>
    intro L a w hsz hcnt hCl hstate
    have hcl' : ∀ i o, ops.toList[i]? = some o → (∀ e ∈ o.after.toList, Region.binds .any e = true → L.getD e.on false = true) → i < ops.toList.length → Closed ops (L.setIfInBounds i true) := by
      intro i o ho hpre hi j oj hoj hlj e he hb
      rw [Listed, getD_set L i e.on (by omega)]
      by_cases e1 : e.on = i
      · rw [if_pos e1]
      · rw [if_neg e1]
        rw [Listed, getD_set L i j (by omega)] at hlj
        by_cases e2 : j = i
        · subst e2
          rw [ho] at hoj; cases hoj
          have := hpre e he hb
          simp only [Array.getD_eq_getD_getElem?] at this ⊢
          cases h3 : L[e.on]? with
          | none => rfl
          | some b => rw [h3] at this; simpa using this
        · rw [if_neg e2] at hlj
          exact hCl j oj hoj hlj e he hb
    have hcnt' : ∀ i, i < ops.toList.length → L.getD i true = false → cnt (L.setIfInBounds i true) ops.toList.length = fuel := by
      intro i hi hu
      have := filter_one (n := ops.toList.length) hi (f := fun j => !L.getD j true) (g := fun j => !(L.setIfInBounds i true).getD j true) (by simp [hu]) (by rw [getD_set L i i (by omega)]; simp) (fun j hj => by rw [getD_set L i j (by omega), if_neg hj])
      unfold cnt at hcnt ⊢
      omega
    have hsz' : ∀ i, (L.setIfInBounds i true).size = ops.toList.length := fun i => by simpa using hsz
    have hpre2 : ∀ o : Oper, (∀ e ∈ o.after.toList, Region.binds .any e = true → L.getD e.on false = true) → ∀ e ∈ o.after.toList, Region.binds .any e = true → Listed L e.on := by
      intro o h e he hb
      have := h e he hb
      unfold Listed
      simp only [Array.getD_eq_getD_getElem?] at this ⊢
      cases h3 : L[e.on]? with
      | none => rfl
      | some b => rw [h3] at this; simpa using this
    -- one operation of the forced ones
    have forcedStep : ∀ (q : Nat), p ≤ q → (∀ j, j < ops.toList.length → L.getD j true = decide (j < q)) → wpList P ops Q (ops.toList.drop q) a w →
        ∀ i ∈ Region.ready .any ops L, wpOp P ops Q i (wpAny P .any ops Q fuel (L.setIfInBounds i true)) a w := by
      intro q hpq hL hrun i hi
      obtain ⟨h1, h2, o, ho, hpre⟩ := ready_iff.1 hi
      have hil : i < ops.toList.length := by omega
      have hiq : q ≤ i := by
        rw [hL i hil] at h2
        simp at h2; exact h2
      have hbits := bits_listed hCl hT.back i o ho (hpre2 o hpre)
      have hie : i = q := by
        rcases Nat.lt_or_ge q i with h | h
        · have := hbits q (hT.forced i (by omega) hil q h)
          rw [Listed, hL q (by omega)] at this
          simp at this
        · omega
      subst hie
      have ho' : ops[i]? = some o := by simpa using ho
      have hdrop : ops.toList.drop i = o :: ops.toList.drop (i + 1) := by
        rw [List.drop_eq_getElem_cons hil]
        congr 1
        exact (List.getElem?_eq_some_iff.1 ho).2
      rw [hdrop] at hrun
      simp only [wpList] at hrun
      have hL' : ∀ j, j < ops.toList.length → (L.setIfInBounds i true).getD j true = decide (j < i + 1) := fun j hj => by
        rw [getD_set L i j (by omega)]
        by_cases e : j = i
        · subst e; simp
        · rw [if_neg e, hL j hj]
          by_cases hlt : j < i
          · simp [hlt]; omega
          · simp [hlt]; omega
      unfold wpOp
      rw [ho']
      simp only
      have next : ∀ a1 w1, wpList P ops Q (ops.toList.drop (i + 1)) a1 w1 → wpAny P .any ops Q fuel (L.setIfInBounds i true) a1 w1 := fun a1 w1 h => IH _ _ _ (hsz' i) (hcnt' i hil h2) (hcl' i o ho hpre hil) (.inr ⟨i + 1, by omega, hL', h⟩)
      split at hrun
      · rename_i hwt
        rw [if_pos hwt]
        rcases hrun with hrun | hrun
        · exact .inl (Oper.wp_mono next hrun)
        · exact .inr hrun
      · rename_i hwt
        rw [if_neg hwt]
        exact next _ _ hrun
    refine ⟨fun hr => ?_, fun i hi => ?_⟩
    · -- there is always one that is ready
      exfalso
      have hex : ∃ j, j < ops.toList.length ∧ L.getD j true = false := by
        have hne : (List.range ops.toList.length).filter (fun j => !L.getD j true) ≠ [] := fun h => by
          unfold cnt at hcnt; rw [h] at hcnt; simp at hcnt
        obtain ⟨j, hj⟩ := List.exists_mem_of_ne_nil _ hne
        simp only [List.mem_filter, List.mem_range, Bool.not_eq_true'] at hj
        exact ⟨j, hj⟩
      have least : ∀ k j, j < k → j < ops.toList.length → L.getD j true = false → False := by
        intro k
        induction k with
        | zero => intro j hj; omega
        | succ k ihk =>
          intro j hj hjl hju
          obtain ⟨o, ho⟩ : ∃ o, ops.toList[j]? = some o := ⟨_, List.getElem?_eq_getElem hjl⟩
          have : j ∈ Region.ready .any ops L := ready_iff.2 ⟨by omega, hju, o, ho, fun e he hb => by
            have hlt := hT.back j o ho e he hb
            have h1 : L.getD e.on true = true := by
              cases h : L.getD e.on true with
              | true => rfl
              | false => exact (ihk e.on (by omega) (by omega) h).elim
            simp only [Array.getD_eq_getD_getElem?] at h1 ⊢
            have : e.on < L.size := by omega
            rw [Array.getElem?_eq_getElem this] at h1 ⊢
            simpa using h1⟩
          rw [hr] at this; simp at this
      obtain ⟨j, hj, hu⟩ := hex
      exact least (j + 1) j (by omega) hj hu
    · rcases hstate with ⟨hlt, μ, hq⟩ | ⟨q, hpq, hL, hrun⟩
      · obtain ⟨h1, h2, o, ho, hpre⟩ := ready_iff.1 hi
        have hil : i < ops.toList.length := by omega
        by_cases hip : i < p
        · have ho' : ops[i]? = some o := by simpa using ho
          have hpl := hpre2 o hpre
          have hlook := fun t ht => look_ok hT hs hp hn hd hq hCl hlt hip ho h2 hpl (t := t) ht
          have hops : ∀ t, (.tmp t) ∈ o.op.operands → VRel μ (getT (tf i) t) (a.tmps.getD t undef) := fun t ht => hlook t (List.mem_append_left _ (List.mem_filterMap.2 ⟨.tmp t, by simpa using ht, rfl⟩))
          have hguard : Region.wanted o (yielded ops a.tmps) = wantedV ops (tf i) o := wanted_part ops o fun j want d hg hd' => hlook d (by
            unfold Oper.looksAt
            rw [hg]
            exact List.mem_append_right _ (by simp [hd']))
          have hlt' : ∀ j, j < ops.toList.length → (L.setIfInBounds i true).getD j true = true → j < p := fun j hj hl => by
            rw [getD_set L i j (by omega)] at hl
            by_cases e : j = i
            · omega
            · rw [if_neg e] at hl; exact hlt j hj hl
          obtain ⟨hts, hcase⟩ := hs i o hip ho
          unfold wpOp
          rw [ho']
          simp only
          rcases hcase with ⟨hw, s1, hop, hwr, hs1⟩ | ⟨hw, hv, hs1⟩
          · rw [if_pos (by rw [hguard]; exact hw)]
            have hwf : WfB (sf i) := (chain 0 i (by omega) (by omega)).wf hw0
            have hRi : Rel μ { sf i with wr := 65536 } w := by
              have := hq.rel.down (chain i p (by omega) (Nat.le_refl _)) hwf
              exact ⟨this.wf, this.blk, this.apart⟩
            have hfi : Fresh μ { sf i with wr := 65536 } s1 := by
              have := hq.fresh i hip h2
              rw [hs1] at this
              exact this
            refine .inl ((opV_part hS (hT.sel i o ho) hop hops hRi hfi (by rw [hq.n]; exact hd) (by rw [(tf_n hs hp i (by omega)).1, hn]; exact hd)).wp fun μ' v' w' g1 g2 g3 => ?_)
            exact IH _ _ _ (hsz' i) (hcnt' i hil h2) (hcl' i o ho hpre hil) (.inl ⟨hlt', μ', hq.next (σa := { sf i with wr := 65536 }) hT hs hC hp hsz hip ho h2 hwr rfl (by rw [hs1]) (fun k => by rw [hs1]; rfl) g1 g2 g3⟩)
          · rw [if_neg (by rw [hguard, hw]; simp)]
            refine IH _ _ _ (hsz' i) (hcnt' i hil h2) (hcl' i o ho hpre hil) (.inl ⟨hlt', μ, ?_⟩)
            refine hq.next (s1 := { sf i with wr := (sf i).size }) (σa := { sf i with wr := (sf i).size }) hT hs hC hp hsz hip ho h2 (Nat.le_refl _) rfl (by rw [hs1]) (fun k => by rw [hs1]; rfl) (by rw [hv]; exact vrel_undef μ) ?_ (Step.refl _ _ _)
            have := hq.rel.down (chain i p (by omega) (Nat.le_refl _)) ((chain 0 i (by omega) (by omega)).wf hw0)
            exact ⟨this.wf, this.blk, this.apart⟩
        · -- all before it have run
          have hbits := bits_listed hCl hT.back i o ho (hpre2 o hpre)
          have hall : ∀ j, j < i → L.getD j true = true := fun j hj => hbits j (hT.forced i (by omega) hil j hj)
          have hpe : i = p := by
            rcases Nat.lt_or_ge p i with h | h
            · have := hlt p (by omega) (hall p h); omega
            · omega
          subst hpe
          refine forcedStep i (Nat.le_refl _) (fun j hj => ?_) (hrest a w ⟨μ, turn L a w μ hq hall, hq.rel, hq.step⟩) i hi
          by_cases hji : j < i
          · rw [hall j hji]; simp [hji]
          · cases h : L.getD j true with
            | false => simp [hji]
            | true => exact absurd (hlt j hj h) hji
      · exact forcedStep q hpq hL hrun i hi
end
/-- a region that draws its order, split where the order is the text's -/
theorem draw_split {P : Program} [KnowOk P] {ih : Ih} (hS : Sound P ih) (hC : CanonOk ih) {ops : Array Oper} {ts : Ts} {σ : St} {ts1 : Ts} {s1 : St} (hok : drawOK P ops ts.n (freeN ops) = true) (hq : qV P ih ops (ops.toList.take (freeN ops)) ts σ = some (ts1, s1))
    {id : Nat} {μ : Mu} {a : Act} {w : World} (tr : TRel μ ts a) (rel : Rel μ σ w) (fr : Fresh μ σ s1) {Q : Exit → Act → World → Prop} (hrest : ∀ a1 w1, Ends μ σ w ts1 s1 a1 w1 → wpList P ops Q (ops.toList.drop (freeN ops)) a1 w1) :
    (Code.region id ops true).wp P Q a w := by
  have hT := text_of hok
  have hple : freeN ops ≤ ops.toList.length := Nat.sub_le _ _
  obtain ⟨tf, sf, vf, a1, a2, a3, a4, a5⟩ := qV_run _ _ _ _ _ hq
  have hlen : (ops.toList.take (freeN ops)).length = freeN ops := by rw [List.length_take]; exact Nat.min_eq_left hple
  rw [hlen] at a3 a4
  have hs : ∀ j o, j < freeN ops → ops.toList[j]? = some o → QStep P ih ops o (tf j) (sf j) (vf j) (tf (j + 1)) (sf (j + 1)) := fun j o hj ho => a5 j o (by rw [List.getElem?_take, if_pos hj]; exact ho)
  have chain := keeps_chain hs hC hple 0 (freeN ops) (Nat.zero_le _) (Nat.le_refl _)
  refine wp_region_any hT.mixed ?_
  have hsz : (Array.replicate ops.size false).size = ops.toList.length := by simp
  have hrel0 : Rel μ (sf 0) { w with drawn := w.drawn + 1 } := by rw [a2]; exact ⟨rel.wf, rel.blk, rel.apart⟩
  have hstep0 : Step μ μ (sf 0) (sf 0) w { w with drawn := w.drawn + 1 } := ⟨Mu.le.refl _, fun _ _ h => .inl h, Nat.le_refl _, Nat.le_refl _, Nat.le_refl _, rfl, rfl, rfl, fun _ _ _ => rfl, fun _ _ _ => rfl⟩
  have hfr0 : Fresh μ (sf 0) (sf (freeN ops)) := by rw [a2, a4]; exact fr
  have hrelp : Rel μ (sf (freeN ops)) { w with drawn := w.drawn + 1 } := hrel0.up chain hfr0
  have hno : ∀ j, (Array.replicate ops.size false).getD j true = true → ¬ j < ops.size := fun j h1 h2 => by
    simp [Array.getD_eq_getD_getElem?, Array.getElem?_replicate, h2] at h1
  have hno' : ∀ j, j < ops.size → (Array.replicate ops.size false).getD j true = false := fun j h2 => by
    simp [Array.getD_eq_getD_getElem?, Array.getElem?_replicate, h2]
  have oplen : ops.size = ops.toList.length := by simp
  have hfin : ∀ a1 w1, Ends μ (sf 0) { w with drawn := w.drawn + 1 } (tf (freeN ops)) (sf (freeN ops)) a1 w1 → Ends μ σ w ts1 s1 a1 w1 := by
    rintro a1 w1 ⟨μ', t1, t2, t3⟩
    have := hstep0.trans t3
    rw [a2, a4] at this
    rw [a3] at t1
    rw [a4] at t2
    exact ⟨μ', t1, t2, this⟩
  refine draw_upto (μ0 := μ) (w0 := { w with drawn := w.drawn + 1 }) (n := ts.n) (p := freeN ops) hT hS hs hC hple (by rw [a1]) (by rw [a1]; exact tr.d) hrel0.wf (fun a1 w1 he => hrest a1 w1 (hfin a1 w1 he)) ops.size _ a _ hsz ?_ ?_ (.inl ⟨fun j hj hl => absurd (by omega) (hno j hl), μ, ?_⟩)
  · unfold cnt
    rw [← oplen, List.filter_eq_self.2 (fun j hj => by rw [hno' j (by simpa using hj)]; rfl), List.length_range]
  · intro j o ho hl
    have : j < ops.toList.length := (List.getElem?_eq_some_iff.1 ho).1
    exact absurd (by omega) (hno j hl)
  · refine ⟨hrelp, ⟨Mu.le.refl _, fun _ _ h => .inl h, chain.size, chain.wr, Nat.le_refl _, rfl, rfl, rfl, fun _ _ _ => rfl, fun k h1 _ => chain.same k h1⟩, fun j hj _ => ?_, tr.n, tr.df, fun t j o hj ho hd hl => absurd (by omega) (hno j hl), fun t _ => by rw [a1]; exact tr.get t⟩
    have c1 := keeps_chain hs hC hple 0 j (Nat.zero_le _) (by omega)
    have c2 := keeps_chain hs hC hple (j + 1) (freeN ops) (by omega) (Nat.le_refl _)
    intro k h1 h2
    exact hfr0 k (Nat.le_trans c1.size h1) (Nat.lt_of_lt_of_le h2 c2.size)
/-- where a run stands: its slots and what it still knows of its memory; all of it lies above what was there at first -/
def At (ts : Ts) (σ : St) (w0 : World) (a : Act) (w : World) : Prop :=
  ∃ μ, TRel μ ts a ∧ Rel μ σ w ∧ (∀ k L, μ k = some L → k < σ.size ∧ w0.heap.size ≤ L.blk) ∧ Below w0.heap.size w0 w
theorem At.ends {ts' : Ts} {σ σ' : St} {w0 w w' : World} {a' : Act} {μ : Mu} (hd : ∀ k L, μ k = some L → k < σ.size ∧ w0.heap.size ≤ L.blk) (hb : Below w0.heap.size w0 w) (h : Ends μ σ w ts' σ' a' w') : At ts' σ' w0 a' w' := by
  obtain ⟨μ', t1, t2, t3⟩ := h
  refine ⟨μ', t1, t2, fun k L hk => ?_, hb.trans ⟨t3.os, t3.tape, t3.output, t3.hs, fun b hlt => ?_⟩⟩
  · rcases t3.dom k L hk with h1 | ⟨h1, h2, h3⟩
    · obtain ⟨g1, g2⟩ := hd k L h1
      exact ⟨Nat.lt_of_lt_of_le g1 t3.size, g2⟩
    · refine ⟨h2, ?_⟩
      rcases h3 with h3 | ⟨k0, L0, h4, h5, _⟩
      · exact Nat.le_trans hb.size h3
      · rw [← h5]; exact (hd k0 L0 h4).2
  · refine t3.frame b (Nat.lt_of_lt_of_le hlt hb.size) fun k L hk hL => ?_
    have := (hd k L hk).2
    omega
theorem At.fresh {σ σ' : St} {w0 : World} {μ : Mu} (hd : ∀ k L, μ k = some L → k < σ.size ∧ w0.heap.size ≤ L.blk) : Fresh μ σ σ' := fun j h1 _ => by
  cases h : μ j with
  | none => rfl
  | some L => have := (hd j L h).1; omega
/-- less may be known of memory -/
theorem At.less {ts : Ts} {σ σ' : St} {w0 w : World} {a : Act} (h : At ts σ w0 a w) (hs : σ'.size = σ.size) (hg : ∀ k B, σ'.getB k = some B → σ.getB k = some B) : At ts σ' w0 a w := by
  obtain ⟨μ, t1, t2, t3, t4⟩ := h
  exact ⟨μ, t1, ⟨fun k B hk => by rw [hs]; exact t2.wf k B (hg k B hk), fun k B L hk => t2.blk k B L (hg k B hk), fun k k' B B' L L' h1 h2 => t2.apart k k' B B' L L' (hg k B h1) (hg k' B' h2)⟩, fun k L hk => by rw [hs]; exact t3 k L hk, t4⟩
/-- a piece of a list of operations -/
theorem opsV_app {P : Program} [KnowOk P] {ih : Ih} (hS : Sound P ih) {all : Array Oper} {Q : Exit → Act → World → Prop} {l2 : List Oper} : ∀ (l : List Oper) (ts : Ts) (σ : St) (ts' : Ts) (σ' : St), opsV P ih all l ts σ = some (ts', σ') → ∀ (μ : Mu) (a : Act) (w : World), TRel μ ts a → Rel μ σ w → Fresh μ σ σ' →
    (∀ a' w', Ends μ σ w ts' σ' a' w' → wpList P all Q l2 a' w') → wpList P all Q (l ++ l2) a w
  | [], ts, σ, ts', σ', h, μ, a, w, hT, hR, hf, hQ => by
    simp [opsV] at h
    obtain ⟨rfl, rfl⟩ := h
    exact hQ a w ⟨μ, hT, hR, Step.refl _ _ _⟩
  | o :: rest, ts, σ, ts', σ', h, μ, a, w, hT, hR, hf, hQ => by
    simp only [opsV] at h
    have hw := wantedV_eq hT all o
    rw [List.cons_append]
    refine wpList_step fun K hK => ?_
    split at h
    · rename_i hwt
      rw [if_pos (by rw [hw]; exact hwt)]
      split at h
      case h_2 => cases h
      rename_i v s1 ho
      split at h
      case isFalse => cases h
      rename_i hs
      have hs2 := opsV_size rest _ _ _ _ h
      refine opV_wp hS ho hT hR (hf.mono hs2) fun μ' v' w' g1 g2 g3 => ?_
      refine hK _ _ (opsV_app hS rest _ _ _ _ h μ' _ w' ((hT.mono g3.ext).putV g1 o.dst) g2 (g3.fresh hf) ?_)
      rintro a2 w2 ⟨μ2, t1, t2, t3⟩
      exact hQ a2 w2 ⟨μ2, t1, t2, g3.trans t3⟩
    · rename_i hwt
      rw [if_neg (by rw [hw]; exact hwt)]
      exact hK _ _ (opsV_app hS rest _ _ _ _ h μ _ w (hT.putV (vrel_undef μ) o.dst) hR hf hQ)
/-- what is kept of memory -/
def keepS (ks : List Nat) (σ : St) : St := { σ with heap := ks.foldl (fun t k => match St.getB σ k with | some B => Tr.set B 16 t k | none => t) .nil }
theorem keepL_getB (σ : St) : ∀ (ks : List Nat) (t : Tr Blk), (∀ k B, St.getB { σ with heap := t } k = some B → σ.getB k = some B) →
    ∀ k B, St.getB { σ with heap := ks.foldl (fun t k => match St.getB σ k with | some B => Tr.set B 16 t k | none => t) t } k = some B → σ.getB k = some B
  | [], t, h => h
  | k0 :: ks, t, h => by
    rw [List.foldl_cons]
    refine keepL_getB σ ks _ fun k B hk => ?_
    cases h0 : σ.getB k0 with
    | none => rw [h0] at hk; exact h k B hk
    | some B0 =>
      rw [h0] at hk
      have e := St.getB_setB { σ with heap := t } k0 k B0 (St.getB_lt h0)
      have e2 : St.setB { σ with heap := t } k0 B0 = { σ with heap := Tr.set B0 16 t k0 } := rfl
      rw [e2] at e
      rw [e] at hk
      by_cases hkk : k = k0
      · subst hkk
        rw [if_pos rfl, if_pos (St.getB_alive h0)] at hk
        cases hk; exact h0
      · rw [if_neg hkk] at hk
        exact h k B hk
theorem keepS_getB {ks : List Nat} {σ : St} (k : Nat) (B : Blk) (h : (keepS ks σ).getB k = some B) : σ.getB k = some B :=
  keepL_getB σ ks .nil (fun k B h => by rw [St.getB_eq] at h; simp [Tr.get_nil] at h) k B h
theorem At.keep {ts : Ts} {σ : St} {w0 w : World} {a : Act} (ks : List Nat) (h : At ts σ w0 a w) : At ts (keepS ks σ) w0 a w := h.less rfl keepS_getB
/-! pieces -/
def kept (ks : List Nat) (x : Option (Ts × St)) : Option (Ts × St) :=
  match x with
  | some p => some (p.1, keepS ks p.2)
  | none => none
theorem kept_some {ks : List Nat} {x : Option (Ts × St)} {ts' : Ts} {σ' : St} (h : kept ks x = some (ts', σ')) : ∃ s, x = some (ts', s) ∧ σ' = keepS ks s := by
  cases x with
  | none => cases h
  | some p => obtain ⟨t, s⟩ := p; cases h; exact ⟨s, rfl, rfl⟩
/-- a piece of a list -/
theorem at_ops {P : Program} [KnowOk P] {n : Nat} {all : Array Oper} {l l2 : List Oper} {ks : List Nat} {ts ts' : Ts} {σ σ' : St} {w0 : World} {Q : Exit → Act → World → Prop} (h : kept ks ((opsC P all l).run (fv P n) ts σ) = some (ts', σ')) {a : Act} {w : World} (ha : At ts σ w0 a w)
    (hQ : ∀ a' w', At ts' σ' w0 a' w' → wpList P all Q l2 a' w') : wpList P all Q (l ++ l2) a w := by
  obtain ⟨s, h1, rfl⟩ := kept_some h
  rw [opsC_eq] at h1
  obtain ⟨μ, t1, t2, t3, t4⟩ := ha
  exact opsV_app (fv_ok P n).1 l ts σ ts' s h1 μ a w t1 t2 (At.fresh t3) fun a' w' he => hQ a' w' ((At.ends t3 t4 he).keep ks)
/-- the part of a region whose order is drawn -/
theorem at_draw {P : Program} [KnowOk P] {n : Nat} {ops : Array Oper} {ks : List Nat} {ts ts' : Ts} {σ σ' : St} {w0 : World} {Q : Exit → Act → World → Prop} {id : Nat} (hok : drawOK P ops ts.n (freeN ops) = true) (h : kept ks ((qC P ops (ops.toList.take (freeN ops))).run (fv P n) ts σ) = some (ts', σ')) {a : Act} {w : World} (ha : At ts σ w0 a w)
    (hQ : ∀ a' w', At ts' σ' w0 a' w' → wpList P ops Q (ops.toList.drop (freeN ops)) a' w') : (Code.region id ops true).wp P Q a w := by
  obtain ⟨s, h1, rfl⟩ := kept_some h
  rw [qC_eq] at h1
  obtain ⟨μ, t1, t2, t3, t4⟩ := ha
  exact draw_split (fv_ok P n).1 (fv_ok P n).2 hok h1 t1 t2 (At.fresh t3) fun a' w' he => hQ a' w' ((At.ends t3 t4 he).keep ks)
def keptX (ks : List Nat) (x : Option (Ex × Ts × St)) : Option (Ex × Ts × St) :=
  match x with
  | some p => some (p.1, p.2.1, keepS ks p.2.2)
  | none => none
/-- a piece of code -/
theorem at_code {P : Program} [KnowOk P] {n : Nat} {c : Code} {ks : List Nat} {ex : Ex} {ts ts' : Ts} {σ σ' : St} {w0 : World} {Q : Exit → Act → World → Prop} (h : keptX ks (fv P n c ts σ) = some (ex, ts', σ')) {a : Act} {w : World} (ha : At ts σ w0 a w)
    (hQ : ∀ a' w', At ts' σ' w0 a' w' → Q ex.of a' w') : c.wp P Q a w := by
  obtain ⟨μ, t1, t2, t3, t4⟩ := ha
  cases hx : fv P n c ts σ with
  | none => rw [hx] at h; cases h
  | some p =>
    obtain ⟨e, t, s⟩ := p
    rw [hx] at h
    cases h
    refine Code.wp_mono ?_ ((fv_ok P n).1 _ _ _ _ _ _ hx μ a w t1 t2 (At.fresh t3))
    rintro e' a' w' ⟨rfl, he⟩
    exact hQ a' w' ((At.ends t3 t4 he).keep ks)
/-- what another call leaves below is still known -/
theorem At.below {ts : Ts} {σ : St} {w0 w w' : World} {a : Act} (h : At ts σ w0 a w) (hb : Below w.heap.size w w') : At ts σ w0 a w' := by
  obtain ⟨μ, t1, t2, t3, t4⟩ := h
  refine ⟨μ, t1, ⟨t2.wf, fun k B L hk hL => ?_, t2.apart⟩, t3, t4.trans ⟨hb.os, hb.tape, hb.output, hb.size, fun b hlt => hb.block b (Nat.lt_of_lt_of_le hlt t4.size)⟩⟩
  have := t2.blk k B L hk hL
  exact this.mono (Mu.le.refl μ) (hb.block _ this.lt)
def fakeIh : Ih := fun _ ts σ => some (.norm, ts, σ)
/-- a call without arguments of which a theorem speaks -/
theorem at_call {P : Program} [KnowOk P] {all : Array Oper} {o : Oper} {g : FuncId} {rest : List Oper} {ts : Ts} {σ : St} {w0 : World} {r : Value} {Q : Exit → Act → World → Prop} (hg : ∀ w, Calls P g #[] w fun e w' => e = .returned r ∧ Below w.heap.size w w') (hr : flat r = true)
    (hw : wantedV all ts o = true) (hc : (match callOf P ts o with | some (g', l) => Nat.beq g' g && l.isEmpty | none => false) = true) (hf : (callF P fakeIh g [] st0).isSome = true) {a : Act} {w : World} (ha : At ts σ w0 a w)
    (hQ : ∀ a' w', At (putV ts o.dst r) σ w0 a' w' → wpList P all Q rest a' w') : wpList P all Q (o :: rest) a w := by
  have hat := ha
  obtain ⟨μ, t1, t2, t3, t4⟩ := ha
  refine wpList_step fun K hK => ?_
  rw [if_pos (by rw [wantedV_eq t1]; exact hw)]
  split at hc
  case h_2 => cases hc
  rename_i g' l hco
  simp only [Bool.and_eq_true, List.isEmpty_iff] at hc
  obtain ⟨h1, rfl⟩ := hc
  have := Nat.eq_of_beq_eq_true h1
  subst this
  obtain ⟨p, hp⟩ := Option.isSome_iff_exists.1 hf
  obtain ⟨v, s⟩ := p
  obtain ⟨args', g1, g2⟩ := callOf_run t1 hco hp w
  have : args' = #[] := by
    cases g2' : args'.toList with
    | nil => exact Array.toList_eq_nil_iff.1 g2'
    | cons x l => rw [g2'] at g2; cases g2
  subst this
  unfold Oper.wp
  rw [g1, Oper.upon_enter]
  refine (hg w).mono ?_
  rintro e w' ⟨rfl, hb⟩
  refine hK _ _ (hQ _ _ ?_)
  obtain ⟨μ', s1, s2, s3, s4⟩ := hat.below hb
  exact ⟨μ', s1.putV (flat_rel μ' hr) o.dst, s2, s3, s4⟩
/-- a body in pieces -/
theorem calls_at {P : Program} [KnowOk P] {g : FuncId} {fd : Fd} (hfd : fdOf P g = some fd) (hcap : fd.ntmps ≤ 512) (w : World)
    (hb : ∀ a, At (frameT fd.ntmps []) st0 w a w → fd.body.wp P (fun e a' w' => (e = .normal ∨ e = .ret) ∧ ∃ ts' σ', At ts' σ' w a' w' ∧ resultsV P σ' ts' fd.results = some [.bool true]) a w) :
    Calls P g #[] w fun e w' => e = .returned (.bool true) ∧ Below w.heap.size w w' := by
  unfold fdOf at hfd
  split at hfd
  case h_2 => cases hfd
  rename_i fn hfn
  split at hfd
  case h_2 => cases hfd
  rename_i c hc
  split at hfd
  · cases hfd
  simp only [Option.some.injEq] at hfd
  subst hfd
  simp only at hb hcap
  refine calls_of_wp hfn hc ?_
  have hT : TRel mu0 (frameT fn.ntmps []) { tmps := #[] ++ Array.replicate (fn.ntmps - (#[] : Array Value).size) undef, defers := [] } := frameT_rel .nil (by simp) hcap
  refine Code.wp_mono ?_ (hb _ ⟨mu0, hT, rel0 w, fun k L h => by simp [mu0] at h, Below.refl _ _⟩)
  rintro e a' w' ⟨he, ts', σ', ⟨μ, t1, t2, t3, t4⟩, hres⟩
  obtain ⟨v', r1, r2⟩ := results_ok t1 t2 hres
  have hv : v' = .bool true := scalar_eq (by rfl) r2
  subst hv
  rcases he with rfl | rfl
  · exact ⟨t1.df, _, r1, rfl, t4⟩
  · exact ⟨t1.df, _, r1, rfl, t4⟩
end
end Go.Proofs.Ytadamjleglckpaa.ev

/- The reckoner: a body step by step. -/
namespace Go.Proofs.Ytadamjleglckpaa.ev
noncomputable section
open Go.RowKit
set_option linter.unusedSimpArgs false
set_option linter.unusedVariables false
set_option linter.unusedSectionVars false
variable [Kn]

def hdC : Code → Code
  | .seq x _ => x
  | c => c
def tlC : Code → Code
  | .seq _ y => y
  | c => c
def tlN : Nat → Code → Code
  | 0, c => c
  | n + 1, c => tlN n (tlC c)
def isSeq : Code → Bool
  | .seq _ _ => true
  | _ => false
def bodyOf (P : Program) (g : FuncId) : Code := match fdOf P g with
  | some fd => fd.body
  | none => .skip
def okFd (P : Program) (g : FuncId) : Bool := match fdOf P g with
  | some fd => Nat.ble fd.ntmps 512
  | none => false
def tmpsOf (P : Program) (g : FuncId) : Nat := match fdOf P g with
  | some fd => fd.ntmps
  | none => 0
def tpNorm (ks : List Nat) (x : Option (Ex × Ts × St)) : Option (Ts × St) :=
  match x with
  | some (.norm, t, s) => some (t, keepS ks s)
  | _ => none
/-- the first part of what is left of a body -/
theorem at_step {P : Program} [KnowOk P] {n : Nat} {b : Code} {ks : List Nat} {ts ts' : Ts} {σ σ' : St} {w0 : World} {Q : Exit → Act → World → Prop} (hb : isSeq b = true) (h : tpNorm ks (fv P n (hdC b) ts σ) = some (ts', σ')) {a : Act} {w : World} (ha : At ts σ w0 a w)
    (hQ : ∀ a' w', At ts' σ' w0 a' w' → (tlC b).wp P Q a' w') : b.wp P Q a w := by
  cases b <;> simp only [isSeq, Bool.false_eq_true] at hb
  rename_i x y
  simp only [hdC, tlC] at h hQ
  refine wp_seq ?_
  cases hx : fv P n x ts σ with
  | none => rw [hx] at h; cases h
  | some p =>
    obtain ⟨e, t, s⟩ := p
    rw [hx] at h
    cases e with
    | norm =>
      simp only [tpNorm, Option.some.injEq, Prod.mk.injEq] at h
      obtain ⟨rfl, rfl⟩ := h
      exact at_code (ks := ks) (ex := .norm) (by rw [hx]; rfl) ha hQ
    | exit id => cases h
    | ret => cases h
def lastOk (P : Program) (g : FuncId) (x : Option (Ex × Ts × St)) : Bool :=
  match x with
  | some (.ret, t, s) => match fdOf P g with
    | some fd => match resultsV P s t fd.results with
      | some [.bool true] => true
      | _ => false
    | none => false
  | _ => false
/-- what a body is to end in: it returns true -/
def Says (P : Program) (g : FuncId) (w : World) : Exit → Act → World → Prop := fun e a' w' => (e = .normal ∨ e = .ret) ∧ ∃ ts' σ', At ts' σ' w a' w' ∧ ∀ fd, fdOf P g = some fd → resultsV P σ' ts' fd.results = some [.bool true]
theorem at_last {P : Program} [KnowOk P] {n : Nat} {g : FuncId} {b : Code} {ts : Ts} {σ : St} {w0 : World} (h : lastOk P g (fv P n b ts σ) = true) {a : Act} {w : World} (ha : At ts σ w0 a w) : b.wp P (Says P g w0) a w := by
  cases hx : fv P n b ts σ with
  | none => rw [hx] at h; cases h
  | some p =>
    obtain ⟨e, t, s⟩ := p
    rw [hx] at h
    obtain ⟨μ, t1, t2, t3, t4⟩ := ha
    refine Code.wp_mono ?_ ((fv_ok P n).1 _ _ _ _ _ _ hx μ a w t1 t2 (At.fresh t3))
    rintro e' a' w' ⟨rfl, he⟩
    unfold lastOk at h
    split at h
    · rename_i heq
      cases heq
      split at h
      · rename_i fd hfd
        refine ⟨.inr rfl, _, _, At.ends t3 t4 he, fun fd' hfd' => ?_⟩
        rw [hfd] at hfd'
        cases hfd'
        split at h
        · assumption
        · cases h
      · cases h
    · cases h
theorem calls_says {P : Program} [KnowOk P] {g : FuncId} {nt : Nat} (hn : tmpsOf P g = nt) (hs : okFd P g = true) (w : World) (hb : ∀ a, At (frameT nt []) st0 w a w → (bodyOf P g).wp P (Says P g w) a w) :
    Calls P g #[] w fun e w' => e = .returned (.bool true) ∧ Below w.heap.size w w' := by
  obtain ⟨fd, hfd, hcap⟩ : ∃ fd, fdOf P g = some fd ∧ fd.ntmps ≤ 512 := by
    unfold okFd at hs
    cases h : fdOf P g with
    | none => rw [h] at hs; cases hs
    | some fd => rw [h] at hs; exact ⟨fd, rfl, Nat.le_of_ble_eq_true hs⟩
  unfold tmpsOf at hn
  unfold bodyOf at hb
  rw [hfd] at hn hb
  simp only at hn hb
  subst hn
  refine calls_at hfd hcap w fun a ha => Code.wp_mono ?_ (hb a ha)
  rintro e a' w' ⟨h1, ts', σ', h2, h3⟩
  exact ⟨h1, ts', σ', h2, h3 fd hfd⟩
theorem tlN_tl : ∀ (i : Nat) (c : Code), tlC (tlN i c) = tlN (i + 1) c
  | 0, c => rfl
  | i + 1, c => tlN_tl i (tlC c)
/-- the step number i of a body -/
theorem at_nth {P : Program} [KnowOk P] {n i : Nat} {b : Code} {ks : List Nat} {ts ts' : Ts} {σ σ' : St} {w0 : World} {Q : Exit → Act → World → Prop} (hb : isSeq (tlN i b) = true) (h : tpNorm ks (fv P n (hdC (tlN i b)) ts σ) = some (ts', σ')) {a : Act} {w : World} (ha : At ts σ w0 a w)
    (hQ : ∀ a' w', At ts' σ' w0 a' w' → (tlN (i + 1) b).wp P Q a' w') : (tlN i b).wp P Q a w :=
  at_step hb h ha fun a' w' h' => by rw [tlN_tl]; exact hQ a' w' h'
end
end Go.Proofs.Ytadamjleglckpaa.ev

/- Nothing is known of calls. -/
namespace Go.Proofs.Ytadamjleglckpaa.ev
instance k0 : Kn := ⟨fun _ _ => none⟩
instance k0ok : KnowOk Try.prog := ⟨fun _ _ _ h => by cases h⟩
end Go.Proofs.Ytadamjleglckpaa.ev

/- Short names for the literals of steps. -/
namespace Go.Proofs.Ytadamjleglckpaa.ev
abbrev tn {α : Type} (l r : Tr α) : Tr α := .node l r
abbrev tL {α : Type} (l : Tr α) : Tr α := .node l .nil
abbrev tR {α : Type} (r : Tr α) : Tr α := .node .nil r
abbrev tl {α : Type} (v : α) : Tr α := .leaf v
abbrev tz {α : Type} : Tr α := .nil
abbrev vi (n : Nat) : Value := .int .i64 (.ofNat n)
abbrev ti (n : Nat) : Tr Value := .leaf (.int .i64 (.ofNat n))
abbrev tT : Tr Value := .leaf (.bool true)
abbrev tF : Tr Value := .leaf (.bool false)
abbrev vN : Value := .slice none 0 0
abbrev vs (b o n c : Nat) : Value := .slice (some ⟨b, o, none⟩) n c
abbrev vo (b o n : Nat) : Value := .slice (some ⟨b, o, none⟩) n 4611686018427387904
abbrev vp (b o : Nat) : Value := .pointer (some ⟨b, o, none⟩)
abbrev bk (cells : List Value) (tip : Bool) (esz : Nat) (anc : List Nat) : Blk := ⟨cells, tip, esz, anc, true⟩
noncomputable def mkS (n : Nat) (l : List (Nat × Value)) : Ts := ⟨n, l.foldl (fun t p => (sacS p.1).set p.2 t) (zS undef)⟩
end Go.Proofs.Ytadamjleglckpaa.ev

