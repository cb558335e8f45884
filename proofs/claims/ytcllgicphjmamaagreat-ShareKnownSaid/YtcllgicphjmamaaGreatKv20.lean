/- The reckoner: regions that draw their order and end in stores, the proof. -/
import Derived.Test.YtcllgicphjmamaaGreatKv18
namespace Go.Proofs.YtcllgicphjmamaaGreat.ev
noncomputable section
open Go.RowKit
set_option linter.unusedSimpArgs false
set_option linter.unusedVariables false
set_option linter.unusedSectionVars false
variable [Kn]

section
variable {P : Program} {ih : Ih} {ops : Array Oper} {m p C : Nat} {H : List Nat} {tf : Nat → Ts} {sf : Nat → St} {vf : Nat → Value} {μ0 : Mu} {w0 : World} {n : Nat}
/-- some of the operations have run, and the first k of the stores -/
structure SInv (ops : Array Oper) (m p n : Nat) (tf : Nat → Ts) (sf : Nat → St) (vf : Nat → Value) (μ0 : Mu) (w0 : World) (L : Array Bool) (a : Act) (w : World) (μ : Mu) (k : Nat) : Prop where
  rel : Rel μ (sf (m + k)) w
  step : Step μ0 μ (sf 0) (sf (m + k)) w0 w
  fresh : ∀ j, j < m → L.getD j true = false → Fresh μ (sf j) (sf (j + 1))
  kp : m + k ≤ p
  sd : ∀ j, m ≤ j → j < p → L.getD j true = decide (j < m + k)
  n : a.tmps.size = n
  df : a.defers = []
  done : ∀ (t j : Nat) (o : Oper), j < p → ops.toList[j]? = some o → o.dst = some t → L.getD j true = true → VRel μ (vf j) (a.tmps.getD t undef)
  wait : ∀ t, (∀ (j : Nat) (o : Oper), j < p → ops.toList[j]? = some o → o.dst = some t → L.getD j true = false) → VRel μ (getT (tf 0) t) (a.tmps.getD t undef)
theorem keeps_n (hN : ∀ j o, j < m → ops.toList[j]? = some o → NStep P ih ops C H j o (tf j) (sf j) (vf j) (tf (j + 1)) (sf (j + 1))) (hC : CanonOk ih) (hm : m ≤ ops.toList.length) : ∀ i j, i ≤ j → j ≤ m → Keeps (sf i) (sf j) := by
  intro i j hij hj
  induction j with
  | zero => rw [show i = 0 by omega]; exact Keeps.refl _
  | succ j ihj =>
    by_cases e : i = j + 1
    · subst e; exact Keeps.refl _
    · obtain ⟨o, ho⟩ : ∃ o, ops.toList[j]? = some o := ⟨_, List.getElem?_eq_getElem (by omega)⟩
      exact (ihj (by omega) (by omega)).trans ((hN j o (by omega) ho).keeps hC)
theorem stores_same (hS2 : ∀ j o, m ≤ j → j < p → ops.toList[j]? = some o → SStep P ih ops H o (tf j) (sf j) (vf j) (tf (j + 1)) (sf (j + 1))) (hC : CanonOk ih) (hp : p ≤ ops.toList.length) : ∀ k, m + k ≤ p → Canon (sf m) (sf (m + k)) ∧ (sf (m + k)).size = (sf m).size ∧ ∀ b, b ∉ H → (sf (m + k)).getB b = (sf m).getB b := by
  intro k
  induction k with
  | zero => intro _; exact ⟨Canon.refl _, rfl, fun _ _ => rfl⟩
  | succ k ihk =>
    intro hk
    obtain ⟨o, ho⟩ : ∃ o, ops.toList[m + k]? = some o := ⟨_, List.getElem?_eq_getElem (by omega)⟩
    obtain ⟨c1, c2, c3⟩ := ihk (by omega)
    obtain ⟨d1, d2, d3⟩ := (hS2 (m + k) o (by omega) (by omega) ho).canon hC
    exact ⟨c1.trans d1, d2.trans c2, fun b hb => (d3 b hb).trans (c3 b hb)⟩
theorem tf_n2 (hts : ∀ j o, j < p → ops.toList[j]? = some o → tf (j + 1) = putV (tf j) o.dst (vf j)) (hp : p ≤ ops.toList.length) : ∀ j, j ≤ p → (tf j).n = (tf 0).n ∧ (tf j).d = (tf 0).d := by
  intro j hj
  induction j with
  | zero => exact ⟨rfl, rfl⟩
  | succ j ihj =>
    obtain ⟨o, ho⟩ : ∃ o, ops.toList[j]? = some o := ⟨_, List.getElem?_eq_getElem (by omega)⟩
    obtain ⟨h1, h2⟩ := ihj (by omega)
    have := hts j o (by omega) ho
    rw [this]
    unfold ev.putV
    split
    · rename_i d _
      obtain ⟨a, b⟩ := setT_n (tf j) d (vf j)
      exact ⟨a.trans h1, b.trans h2⟩
    · exact ⟨h1, h2⟩
theorem tf_get2 (hT : Text P ops n p) (hts : ∀ j o, j < p → ops.toList[j]? = some o → tf (j + 1) = putV (tf j) o.dst (vf j)) (hp : p ≤ ops.toList.length) (hn : (tf 0).n = n) (hd : n ≤ 2 ^ (tf 0).d) (t : Nat) :
    ∀ j, j ≤ p → ((∀ (i : Nat) (o : Oper), i < j → ops.toList[i]? = some o → o.dst ≠ some t) → getT (tf j) t = getT (tf 0) t) ∧ (∀ (i : Nat) (o : Oper), i < j → ops.toList[i]? = some o → o.dst = some t → getT (tf j) t = vf i) := by
  intro j hj
  induction j with
  | zero => exact ⟨fun _ => rfl, fun i o h => by omega⟩
  | succ j ihj =>
    obtain ⟨o, ho⟩ : ∃ o, ops.toList[j]? = some o := ⟨_, List.getElem?_eq_getElem (by omega)⟩
    obtain ⟨h1, h2⟩ := ihj (by omega)
    obtain ⟨n1, n2⟩ := tf_n2 hts hp j (by omega)
    have e := hts j o (by omega) ho
    have stay : o.dst ≠ some t → getT (tf (j + 1)) t = getT (tf j) t := by
      intro hne
      rw [e]
      unfold ev.putV
      split
      · rename_i d hd'
        by_cases hdn : d < (tf j).n
        · rw [getT_setT (tf j) (by rw [n1, n2, hn]; exact hd) d t (vf j) hdn, if_neg (fun h => hne (by rw [hd', h]))]
        · rw [setT_ge hdn]
      · rfl
    refine ⟨fun hno => ?_, fun i oi hi hoi hdi => ?_⟩
    · rw [stay (hno j o (by omega) ho)]
      exact h1 fun i oi hi hoi => hno i oi (by omega) hoi
    · by_cases ei : i = j
      · subst ei
        rw [ho] at hoi
        cases hoi
        rw [e]
        simp only [ev.putV, hdi]
        rw [getT_setT (tf i) (by rw [n1, n2, hn]; exact hd) t t (vf i) (by rw [n1, hn]; exact hT.dlt i o t ho hdi), if_pos rfl]
      · have hne : o.dst ≠ some t := fun h => ei (hT.duq i j oi o t (by omega) (by omega) hoi ho hdi h)
        rw [stay hne]
        exact h2 i oi (by omega) hoi hdi
/-- what an operation looks at is there -/
theorem look_ok2 (hT : Text P ops n p) (hts : ∀ j o, j < p → ops.toList[j]? = some o → tf (j + 1) = putV (tf j) o.dst (vf j)) (hp : p ≤ ops.toList.length) (hn : (tf 0).n = n) (hd : n ≤ 2 ^ (tf 0).d) {L : Array Bool} {a : Act} {w : World} {μ : Mu} {k : Nat} (hQ : SInv ops m p n tf sf vf μ0 w0 L a w μ k)
    (hCl : Closed ops L) {i : Nat} {o : Oper} (hi : i < p) (ho : ops.toList[i]? = some o) (hu : L.getD i true = false) (hpre : ∀ e ∈ o.after.toList, Region.binds .any e = true → Listed L e.on) {t : Nat} (ht : t ∈ o.looksAt ops) : VRel μ (getT (tf i) t) (a.tmps.getD t undef) := by
  have hbits := bits_listed hCl hT.back
  obtain ⟨g1, g2⟩ := tf_get2 hT hts hp hn hd t i (by omega)
  by_cases hex : ∃ (j : Nat) (oj : Oper), j < i ∧ ops.toList[j]? = some oj ∧ oj.dst = some t
  · obtain ⟨j, oj, hj, hoj, hdj⟩ := hex
    rw [g2 j oj hj hoj hdj]
    have hlist : L.getD j true = true := by
      rcases hT.look i j o oj t (by omega) hi ho hoj ht hdj with h | ⟨_, h⟩ | ⟨h, _⟩
      · omega
      · exact hbits i o ho hpre j h
      · omega
    exact hQ.done t j oj (by omega) hoj hdj hlist
  · rw [g1 (fun j oj hj hoj hdj => hex ⟨j, oj, hj, hoj, hdj⟩)]
    refine hQ.wait t fun j oj hj hoj hdj => ?_
    rcases hT.look i j o oj t (by omega) hi ho hoj ht hdj with h | ⟨h, _⟩ | ⟨h, hb⟩
    · rw [h]; exact hu
    · exact absurd ⟨j, oj, h, hoj, hdj⟩ hex
    · cases hlj : L.getD j true with
      | false => rfl
      | true =>
        have := hbits j oj hoj (fun e he hbe => hCl j oj hoj hlj e he hbe) i hb
        rw [Listed, hu] at this; cases this
theorem put_size (a : Act) (dst : Option Tmp) (v : Value) : (a.put dst v).tmps.size = a.tmps.size ∧ (a.put dst v).defers = a.defers := by
  cases dst with
  | none => exact ⟨rfl, rfl⟩
  | some d => simp [Act.put]
theorem put_done (hT : Text P ops n p) (hp : p ≤ ops.toList.length) {L : Array Bool} (hsz : L.size = ops.toList.length) {a : Act} (hn : a.tmps.size = n) {μ μ1 : Mu} (hext : μ.le μ1) {i : Nat} {o : Oper} (hi : i < p) (ho : ops.toList[i]? = some o) {v1 : Value} (hv : VRel μ1 (vf i) v1)
    (hdone : ∀ (t j : Nat) (o : Oper), j < p → ops.toList[j]? = some o → o.dst = some t → L.getD j true = true → VRel μ (vf j) (a.tmps.getD t undef)) :
    ∀ (t j : Nat) (oj : Oper), j < p → ops.toList[j]? = some oj → oj.dst = some t → (L.setIfInBounds i true).getD j true = true → VRel μ1 (vf j) ((a.put o.dst v1).tmps.getD t undef) := by
  intro t j oj hj hoj hdj hLj
  rw [getD_set L i j (by rw [hsz]; omega)] at hLj
  by_cases e : j = i
  · subst e
    rw [ho] at hoj
    cases hoj
    have hdn := hT.dlt j o t ho hdj
    simp only [hdj, Act.put, Array.getD_eq_getD_getElem?]
    rw [Array.getElem?_setIfInBounds_self_of_lt (by rw [hn]; exact hdn)]
    exact hv
  · rw [if_neg e] at hLj
    have := (hdone t j oj hj hoj hdj hLj).mono hext
    have hne : o.dst ≠ some t := fun h => e (hT.duq j i oj o t hj hi hoj ho hdj h)
    cases hdst : o.dst with
    | none => exact this
    | some d =>
      have hdt : d ≠ t := fun h => hne (by rw [hdst, h])
      simp only [Act.put, Array.getD_eq_getD_getElem?] at this ⊢
      rw [Array.getElem?_setIfInBounds_ne hdt]
      exact this
theorem put_wait (hp : p ≤ ops.toList.length) {L : Array Bool} (hsz : L.size = ops.toList.length) {a : Act} {μ μ1 : Mu} (hext : μ.le μ1) {i : Nat} {o : Oper} (hi : i < p) (ho : ops.toList[i]? = some o) {v1 : Value} {ts0 : Ts}
    (hwait : ∀ t, (∀ (j : Nat) (o : Oper), j < p → ops.toList[j]? = some o → o.dst = some t → L.getD j true = false) → VRel μ (getT ts0 t) (a.tmps.getD t undef)) :
    ∀ t, (∀ (j : Nat) (o : Oper), j < p → ops.toList[j]? = some o → o.dst = some t → (L.setIfInBounds i true).getD j true = false) → VRel μ1 (getT ts0 t) ((a.put o.dst v1).tmps.getD t undef) := by
  intro t hno
  have hne : o.dst ≠ some t := fun h => by
    have := hno i o hi ho h
    rw [getD_set L i i (by rw [hsz]; omega), if_pos rfl] at this
    cases this
  have := (hwait t fun j oj hj hoj hdj => by
    have := hno j oj hj hoj hdj
    rw [getD_set L i j (by rw [hsz]; omega)] at this
    by_cases e : j = i
    · rw [if_pos e] at this; cases this
    · rw [if_neg e] at this; exact this).mono hext
  cases hdst : o.dst with
  | none => exact this
  | some d =>
    have hdt : d ≠ t := fun h => hne (by rw [hdst, h])
    simp only [Act.put, Array.getD_eq_getD_getElem?] at this ⊢
    rw [Array.getElem?_setIfInBounds_ne hdt]
    exact this
/-- one more operation -/
theorem SInv.nextN (hT : Text P ops n p) (hN : ∀ j o, j < m → ops.toList[j]? = some o → NStep P ih ops C H j o (tf j) (sf j) (vf j) (tf (j + 1)) (sf (j + 1))) (hS2 : ∀ j o, m ≤ j → j < p → ops.toList[j]? = some o → SStep P ih ops H o (tf j) (sf j) (vf j) (tf (j + 1)) (sf (j + 1)))
    (hC : CanonOk ih) (hp : p ≤ ops.toList.length) (hmp : m ≤ p) {L : Array Bool} (hsz : L.size = ops.toList.length) {a : Act} {w w1 : World} {μ μ1 : Mu} {k : Nat} (hQ : SInv ops m p n tf sf vf μ0 w0 L a w μ k)
    {i : Nat} {o : Oper} (hi : i < m) (ho : ops.toList[i]? = some o) (hu : L.getD i true = false) {s1 σa : St} (hwr : (sf i).size ≤ s1.wr) (hσa : σa.size = (sf i).size) (hsize : (sf (i + 1)).size = s1.size) (hsame : ∀ b, (sf i).size ≤ b → b < s1.size → (sf (m + k)).getB b = s1.getB b) {v1 : Value} (hv : VRel μ1 (vf i) v1) (hR1 : Rel μ1 s1 w1) (hst : Step μ μ1 σa s1 w w1) :
    SInv ops m p n tf sf vf μ0 w0 (L.setIfInBounds i true) (a.put o.dst v1) w1 μ1 k := by
  have chain := keeps_n hN hC (Nat.le_trans hmp hp)
  have hfr := hQ.fresh i hi hu
  have hkept : ∀ b, b < w.heap.size → w1.heap[b]? = w.heap[b]? := fun b hb => hst.frame b hb fun k L' hk hL => by
    rcases Nat.lt_or_ge k (sf i).size with h1 | h1
    · exact .inl (by omega)
    · refine .inr ?_
      rcases Nat.lt_or_ge k s1.size with h2 | h2
      · rw [hfr k h1 (by rw [hsize]; exact h2)] at hk; cases hk
      · exact h2
  have newb : ∀ k L', μ1 k = some L' → μ k = some L' ∨ ((sf i).size ≤ k ∧ k < s1.size ∧ w.heap.size ≤ L'.blk) := fun k L' hk => by
    rcases hst.dom k L' hk with h | ⟨h1, h2, h3⟩
    · exact .inl h
    · rw [hσa] at h1
      rcases h3 with h3 | ⟨k0, L0, x, y, z, z'⟩
      · exact .inr ⟨h1, h2, h3⟩
      · rw [hfr k0 (by omega) (by rw [hsize]; exact z')] at x; cases x
  have hpsz := (chain (i + 1) m (by omega) (Nat.le_refl _)).size
  have hisz := (chain 0 i (by omega) (by omega)).size
  have hmk := (stores_same hS2 hC hp k hQ.kp).2.1
  refine ⟨⟨hQ.rel.wf, fun b B L' hB hk => ?_, fun b b' B B' L' L'' hB hB' hne hk hk' hb => ?_⟩, ⟨hQ.step.ext.trans hst.ext, fun b L' hk => ?_, hQ.step.size, hQ.step.wr, Nat.le_trans hQ.step.hs hst.hs, hst.os.trans hQ.step.os, hst.tape.trans hQ.step.tape, hst.output.trans hQ.step.output, fun b hb hf => ?_, hQ.step.canon⟩, fun j hj hLj => ?_, hQ.kp, fun j h1 h2 => ?_, by rw [(put_size _ _ _).1]; exact hQ.n, by rw [(put_size _ _ _).2]; exact hQ.df,
    put_done hT hp hsz hQ.n hst.ext (by omega) ho hv hQ.done, put_wait hp hsz hst.ext (by omega) ho hQ.wait⟩
  · rcases newb b L' hk with h | ⟨h1, h2, h3⟩
    · have := hQ.rel.blk b B L' hB h
      exact this.mono hst.ext (hkept _ this.lt)
    · exact hR1.blk b B L' (by rw [← hsame b h1 h2]; exact hB) hk
  · rcases newb b L' hk with h | ⟨h1, h2, h3⟩
    · rcases newb b' L'' hk' with h' | ⟨h1', h2', h3'⟩
      · exact hQ.rel.apart b b' B B' L' L'' hB hB' hne h h' hb
      · have := (hQ.rel.blk b B L' hB h).lt
        omega
    · rcases newb b' L'' hk' with h' | ⟨h1', h2', h3'⟩
      · have := (hQ.rel.blk b' B' L'' hB' h').lt
        omega
      · exact hR1.apart b b' B B' L' L'' (by rw [← hsame b h1 h2]; exact hB) (by rw [← hsame b' h1' h2']; exact hB') hne hk hk' hb
  · rcases newb b L' hk with h | ⟨h1, h2, h3⟩
    · exact hQ.step.dom b L' h
    · refine .inr ⟨by omega, by rw [← hsize] at h2; omega, .inl (Nat.le_trans hQ.step.hs h3)⟩
  · rw [hkept b (Nat.lt_of_lt_of_le hb hQ.step.hs)]
    exact hQ.step.frame b hb hf
  · rw [getD_set L i j (by rw [hsz]; omega)] at hLj
    by_cases e : j = i
    · rw [if_pos e] at hLj; cases hLj
    · rw [if_neg e] at hLj
      have hfj := hQ.fresh j hj hLj
      intro b h1 h2
      cases hk : μ1 b with
      | none => rfl
      | some L' =>
        exfalso
        rcases newb b L' hk with h | ⟨g1, g2, _⟩
        · rw [hfj b h1 h2] at h; cases h
        · rcases Nat.lt_or_ge j i with hji | hji
          · have := (chain (j + 1) i (by omega) (by omega)).size
            omega
          · have := (chain (i + 1) j (by omega) (by omega)).size
            rw [hsize] at this
            omega
  · rw [getD_set L i j (by rw [hsz]; omega), if_neg (by omega)]
    exact hQ.sd j h1 h2
/-- the next store -/
theorem SInv.nextS (hT : Text P ops n p) (hp : p ≤ ops.toList.length) {L : Array Bool} (hsz : L.size = ops.toList.length) {a : Act} {w w1 : World} {μ μ1 : Mu} {k : Nat} (hQ : SInv ops m p n tf sf vf μ0 w0 L a w μ k)
    {o : Oper} (hi : m + k < p) (ho : ops.toList[m + k]? = some o) (hsize : (sf (m + k + 1)).size = (sf (m + k)).size) {v1 : Value} (hv : VRel μ1 (vf (m + k)) v1) (hR1 : Rel μ1 (sf (m + k + 1)) w1) (hst : Step μ μ1 (sf (m + k)) (sf (m + k + 1)) w w1) :
    SInv ops m p n tf sf vf μ0 w0 (L.setIfInBounds (m + k) true) (a.put o.dst v1) w1 μ1 (k + 1) := by
  refine ⟨by rw [← Nat.add_assoc]; exact hR1, by rw [← Nat.add_assoc]; exact hQ.step.trans hst, fun j hj hLj => ?_, by omega, fun j h1 h2 => ?_, by rw [(put_size _ _ _).1]; exact hQ.n, by rw [(put_size _ _ _).2]; exact hQ.df,
    put_done hT hp hsz hQ.n hst.ext hi ho hv hQ.done, put_wait hp hsz hst.ext hi ho hQ.wait⟩
  · rw [getD_set L (m + k) j (by rw [hsz]; omega), if_neg (by omega)] at hLj
    intro b h1 h2
    cases hb : μ1 b with
    | none => rfl
    | some L' =>
      rcases hst.dom b L' hb with h | ⟨g1, g2, _⟩
      · rw [hQ.fresh j hj hLj b h1 h2] at h; cases h
      · omega
  · rw [getD_set L (m + k) j (by rw [hsz]; omega)]
    by_cases e : j = m + k
    · rw [if_pos e]; simp; omega
    · rw [if_neg e, hQ.sd j h1 h2]
      by_cases hlt : j < m + k
      · simp [hlt]; omega
      · simp [hlt]; omega
/-- all orders -/
theorem draw_any2 (hT : Text P ops n p) (hS : Sound P ih) (hN : ∀ j o, j < m → ops.toList[j]? = some o → NStep P ih ops C H j o (tf j) (sf j) (vf j) (tf (j + 1)) (sf (j + 1))) (hS2 : ∀ j o, m ≤ j → j < p → ops.toList[j]? = some o → SStep P ih ops H o (tf j) (sf j) (vf j) (tf (j + 1)) (sf (j + 1)))
    (hmp : m ≤ p) (hbit : m < p → C = (closL ops.toList []).getD m 0) (hseq : ∀ s s', m ≤ s' → s' < s → s < p → ((closL ops.toList []).getD s 0).testBit s' = true) (hC : CanonOk ih) (hp : p ≤ ops.toList.length) (hn : (tf 0).n = n) (hd : n ≤ 2 ^ (tf 0).d)
    {ts' : Ts} {σ' : St} (hrest : opsV P ih ops (ops.toList.drop p) (tf p) (sf p) = some (ts', σ')) (hfr : Fresh μ0 (sf 0) σ') (hw0 : WfB (sf 0)) {Q : Exit → Act → World → Prop} (hQ : ∀ a w, Ends μ0 (sf 0) w0 ts' σ' a w → Q .normal a w) :
    ∀ (fuel : Nat) (L : Array Bool) (a : Act) (w : World), L.size = ops.toList.length → cnt L ops.toList.length = fuel → Closed ops L →
      (((∀ j, j < ops.toList.length → L.getD j true = true → j < p) ∧ ∃ μ k, SInv ops m p n tf sf vf μ0 w0 L a w μ k) ∨
       (∃ q ts σ μ, p ≤ q ∧ (∀ j, j < ops.toList.length → L.getD j true = decide (j < q)) ∧ opsV P ih ops (ops.toList.drop q) ts σ = some (ts', σ') ∧ TRel μ ts a ∧ Rel μ σ w ∧ Step μ0 μ (sf 0) σ w0 w)) →
      wpAny P .any ops Q fuel L a w := by
  have chain := keeps_n hN hC (Nat.le_trans hmp hp)
  have sames := stores_same hS2 hC hp
  have hts : ∀ j o, j < p → ops.toList[j]? = some o → tf (j + 1) = putV (tf j) o.dst (vf j) := fun j o hj ho => by
    by_cases h : j < m
    · exact (hN j o h ho).1
    · exact (hS2 j o (by omega) hj ho).1
  have oplen : ops.size = ops.toList.length := by simp
  -- all of them have run: from here on the order is the text's
  have turn : ∀ (L : Array Bool) (a : Act) (w : World) (μ : Mu) (k : Nat), SInv ops m p n tf sf vf μ0 w0 L a w μ k → (∀ j, j < p → L.getD j true = true) → TRel μ (tf p) a ∧ m + k = p := by
    intro L a w μ k hq hall
    obtain ⟨n1, n2⟩ := tf_n2 hts hp p (Nat.le_refl _)
    refine ⟨⟨by rw [hq.n, n1, hn], by rw [n1, n2, hn]; exact hd, fun t ht => ?_, hq.df⟩, ?_⟩
    · obtain ⟨g1, g2⟩ := tf_get2 hT hts hp hn hd t p (Nat.le_refl _)
      by_cases hex : ∃ (j : Nat) (oj : Oper), j < p ∧ ops.toList[j]? = some oj ∧ oj.dst = some t
      · obtain ⟨j, oj, hj, hoj, hdj⟩ := hex
        rw [g2 j oj hj hoj hdj]
        exact hq.done t j oj hj hoj hdj (hall j hj)
      · rw [g1 (fun j oj hj hoj hdj => hex ⟨j, oj, hj, hoj, hdj⟩)]
        exact hq.wait t fun j oj hj hoj hdj => absurd ⟨j, oj, hj, hoj, hdj⟩ hex
    · have hkp := hq.kp
      rcases Nat.lt_or_ge (m + k) p with h | h
      · have h1 := hq.sd (m + k) (by omega) h
        rw [hall (m + k) h] at h1
        simp at h1
      · omega
  intro fuel
  induction fuel with
  | zero =>
    intro L a w hsz hcnt hCl hstate
    have hall : ∀ j, j < ops.toList.length → L.getD j true = true := fun j hj => by
      cases h : L.getD j true with
      | true => rfl
      | false =>
        have : j ∈ (List.range ops.toList.length).filter fun j => !L.getD j true := List.mem_filter.2 ⟨List.mem_range.2 hj, by rw [h]; rfl⟩
        have hz := List.length_eq_zero_iff.1 hcnt
        rw [hz] at this; simp at this
    refine wpAny_zero ?_ ?_
    · rw [List.eq_nil_iff_forall_not_mem]
      intro i hi
      obtain ⟨h1, h2, _⟩ := ready_iff.1 hi
      rw [hall i (by omega)] at h2; cases h2
    · rcases hstate with ⟨hlt, μ, k, hq⟩ | ⟨q, ts, σ, μ, hpq, hL, hrun, t1, t2, t3⟩
      · have hpe : p = ops.toList.length := by
          rcases Nat.lt_or_ge p ops.toList.length with h | h
          · have := hlt p h (hall p h); omega
          · omega
        rw [hpe, List.drop_length] at hrest
        simp only [opsV, Option.some.injEq, Prod.mk.injEq] at hrest
        rw [← hpe] at hrest
        obtain ⟨e1, e2⟩ := hrest
        obtain ⟨tr, ek⟩ := turn L a w μ k hq fun j hj => hall j (by omega)
        have r1 := hq.rel
        have r2 := hq.step
        rw [ek] at r1 r2
        refine hQ a w ⟨μ, ?_, ?_, ?_⟩
        · rw [← e1]; exact tr
        · rw [← e2]; exact r1
        · rw [← e2]; exact r2
      · have hqe : ops.toList.length ≤ q := by
          rcases Nat.lt_or_ge q ops.toList.length with h | h
          · have := hall q h
            rw [hL q h] at this
            simp at this
          · exact h
        rw [List.drop_eq_nil_of_le hqe] at hrun
        simp only [opsV, Option.some.injEq, Prod.mk.injEq] at hrun
        obtain ⟨rfl, rfl⟩ := hrun
        exact hQ a w ⟨μ, t1, t2, t3⟩
  | succ fuel IH =>
    intro L a w hsz hcnt hCl hstate
    have hcl' : ∀ i o, ops.toList[i]? = some o → (∀ e ∈ o.after.toList, Region.binds .any e = true → L.getD e.on false = true) → i < ops.toList.length → Closed ops (L.setIfInBounds i true) := by
      intro i o ho hpre hi j oj hoj hlj e he hb
      rw [Listed, getD_set L i e.on (by omega)]
      by_cases e1 : e.on = i
      · rw [if_pos e1]
      · rw [if_neg e1]
        rw [Listed, getD_set L i j (by omega)] at hlj
        by_cases e2 : j = i
        · subst e2
          rw [ho] at hoj; cases hoj
          have := hpre e he hb
          simp only [Array.getD_eq_getD_getElem?] at this ⊢
          cases h3 : L[e.on]? with
          | none => rfl
          | some b => rw [h3] at this; simpa using this
        · rw [if_neg e2] at hlj
          exact hCl j oj hoj hlj e he hb
    have hcnt' : ∀ i, i < ops.toList.length → L.getD i true = false → cnt (L.setIfInBounds i true) ops.toList.length = fuel := by
      intro i hi hu
      have := filter_one (n := ops.toList.length) hi (f := fun j => !L.getD j true) (g := fun j => !(L.setIfInBounds i true).getD j true) (by simp [hu]) (by rw [getD_set L i i (by omega)]; simp) (fun j hj => by rw [getD_set L i j (by omega), if_neg hj])
      unfold cnt at hcnt ⊢
      omega
    have hsz' : ∀ i, (L.setIfInBounds i true).size = ops.toList.length := fun i => by simpa using hsz
    have hpre2 : ∀ o : Oper, (∀ e ∈ o.after.toList, Region.binds .any e = true → L.getD e.on false = true) → ∀ e ∈ o.after.toList, Region.binds .any e = true → Listed L e.on := by
      intro o h e he hb
      have := h e he hb
      unfold Listed
      simp only [Array.getD_eq_getD_getElem?] at this ⊢
      cases h3 : L[e.on]? with
      | none => rfl
      | some b => rw [h3] at this; simpa using this
    -- one operation of the forced ones
    have forcedStep : ∀ (q : Nat) (ts : Ts) (σ : St) (μ : Mu), p ≤ q → (∀ j, j < ops.toList.length → L.getD j true = decide (j < q)) → opsV P ih ops (ops.toList.drop q) ts σ = some (ts', σ') → TRel μ ts a → Rel μ σ w → Step μ0 μ (sf 0) σ w0 w →
        ∀ i ∈ Region.ready .any ops L, wpOp P ops Q i (wpAny P .any ops Q fuel (L.setIfInBounds i true)) a w := by
      intro q ts σ μ hpq hL hrun t1 t2 t3 i hi
      obtain ⟨h1, h2, o, ho, hpre⟩ := ready_iff.1 hi
      have hil : i < ops.toList.length := by omega
      have hiq : q ≤ i := by
        rw [hL i hil] at h2
        simp at h2; exact h2
      have hbits := bits_listed hCl hT.back i o ho (hpre2 o hpre)
      have hie : i = q := by
        rcases Nat.lt_or_ge q i with h | h
        · have := hbits q (hT.forced i (by omega) hil q h)
          rw [Listed, hL q (by omega)] at this
          simp at this
        · omega
      subst hie
      have ho' : ops[i]? = some o := by simpa using ho
      have hdrop : ops.toList.drop i = o :: ops.toList.drop (i + 1) := by
        rw [List.drop_eq_getElem_cons hil]
        congr 1
        exact (List.getElem?_eq_some_iff.1 ho).2
      rw [hdrop] at hrun
      simp only [opsV] at hrun
      have hw := wantedV_eq t1 ops o
      have hL' : ∀ j, j < ops.toList.length → (L.setIfInBounds i true).getD j true = decide (j < i + 1) := fun j hj => by
        rw [getD_set L i j (by omega)]
        by_cases e : j = i
        · subst e; simp
        · rw [if_neg e, hL j hj]
          by_cases hlt : j < i
          · simp [hlt]; omega
          · simp [hlt]; omega
      unfold wpOp
      rw [ho']
      simp only
      split at hrun
      · rename_i hwt
        rw [if_pos (by rw [hw]; exact hwt)]
        split at hrun
        case h_2 => cases hrun
        rename_i v s1 hop
        split at hrun
        case isFalse => cases hrun
        rename_i hs1
        have hs2 := opsV_size _ _ _ _ _ hrun
        refine .inl (opV_wp hS hop t1 t2 ((t3.fresh hfr).mono hs2) fun μ' v' w' g1 g2 g3 => ?_)
        exact IH _ _ _ (hsz' i) (hcnt' i hil h2) (hcl' i o ho hpre hil) (.inr ⟨i + 1, _, s1, μ', by omega, hL', hrun, (t1.mono g3.ext).putV g1 o.dst, g2, t3.trans g3⟩)
      · rename_i hwt
        rw [if_neg (by rw [hw]; exact hwt)]
        exact IH _ _ _ (hsz' i) (hcnt' i hil h2) (hcl' i o ho hpre hil) (.inr ⟨i + 1, _, σ, μ, by omega, hL', hrun, t1.putV (vrel_undef μ) o.dst, t2, t3⟩)
    refine ⟨fun hr => ?_, fun i hi => ?_⟩
    · -- there is always one that is ready
      exfalso
      have hex : ∃ j, j < ops.toList.length ∧ L.getD j true = false := by
        have hne : (List.range ops.toList.length).filter (fun j => !L.getD j true) ≠ [] := fun h => by
          unfold cnt at hcnt; rw [h] at hcnt; simp at hcnt
        obtain ⟨j, hj⟩ := List.exists_mem_of_ne_nil _ hne
        simp only [List.mem_filter, List.mem_range, Bool.not_eq_true'] at hj
        exact ⟨j, hj⟩
      have least : ∀ k j, j < k → j < ops.toList.length → L.getD j true = false → False := by
        intro k
        induction k with
        | zero => intro j hj; omega
        | succ k ihk =>
          intro j hj hjl hju
          obtain ⟨o, ho⟩ : ∃ o, ops.toList[j]? = some o := ⟨_, List.getElem?_eq_getElem hjl⟩
          have : j ∈ Region.ready .any ops L := ready_iff.2 ⟨by omega, hju, o, ho, fun e he hb => by
            have hlt := hT.back j o ho e he hb
            have h1 : L.getD e.on true = true := by
              cases h : L.getD e.on true with
              | true => rfl
              | false => exact (ihk e.on (by omega) (by omega) h).elim
            simp only [Array.getD_eq_getD_getElem?] at h1 ⊢
            have : e.on < L.size := by omega
            rw [Array.getElem?_eq_getElem this] at h1 ⊢
            simpa using h1⟩
          rw [hr] at this; simp at this
      obtain ⟨j, hj, hu⟩ := hex
      exact least (j + 1) j (by omega) hj hu
    · rcases hstate with ⟨hlt, μ, k, hq⟩ | ⟨q, ts, σ, μ, hpq, hL, hrun, t1, t2, t3⟩
      · obtain ⟨h1, h2, o, ho, hpre⟩ := ready_iff.1 hi
        have hil : i < ops.toList.length := by omega
        have hkp := hq.kp
        by_cases hip : i < p
        · have ho' : ops[i]? = some o := by simpa using ho
          have hpl := hpre2 o hpre
          have hlook := fun t ht => look_ok2 hT hts hp hn hd hq hCl hip ho h2 hpl (t := t) ht
          have hops : ∀ t, (.tmp t) ∈ o.op.operands → VRel μ (getT (tf i) t) (a.tmps.getD t undef) := fun t ht => hlook t (List.mem_append_left _ (List.mem_filterMap.2 ⟨.tmp t, by simpa using ht, rfl⟩))
          have hguard : Region.wanted o (yielded ops a.tmps) = wantedV ops (tf i) o := wanted_part ops o fun j want d hg hd' => hlook d (by
            unfold Oper.looksAt
            rw [hg]
            exact List.mem_append_right _ (by simp [hd']))
          have hlt' : ∀ j, j < ops.toList.length → (L.setIfInBounds i true).getD j true = true → j < p := fun j hj hl => by
            rw [getD_set L i j (by omega)] at hl
            by_cases e : j = i
            · omega
            · rw [if_neg e] at hl; exact hlt j hj hl
          obtain ⟨s1m, s2m, s3m⟩ := sames k hkp
          unfold wpOp
          rw [ho']
          simp only
          by_cases him : i < m
          · -- one that is no store
            have late : k ≠ 0 → C.testBit i = false := fun hk0 => by
              have hmlt : m < p := by omega
              rw [hbit hmlt]
              cases hb : ((closL ops.toList []).getD m 0).testBit i with
              | false => rfl
              | true =>
                obtain ⟨om, hom⟩ : ∃ om, ops.toList[m]? = some om := ⟨_, List.getElem?_eq_getElem (by omega)⟩
                have hlm : Listed L m := by
                  have := hq.sd m (Nat.le_refl _) hmlt
                  rw [Listed, this]; simp; omega
                have := bits_listed hCl hT.back m om hom (fun e he hbe => hCl m om hom hlm e he hbe) i hb
                rw [Listed, h2] at this; cases this
            obtain ⟨hts1, hcase⟩ := hN i o him ho
            have hwf : WfB (sf i) := (chain 0 i (by omega) (by omega)).wf hw0
            have hke := chain i m (by omega) (Nat.le_refl _)
            rcases hcase with ⟨hw, Hl, s1, hHl, hHlt, hop, hwr, hsz1, hwr1, hget⟩ | ⟨hw, hv, hs1⟩
            · rw [if_pos (by rw [hguard]; exact hw)]
              -- what is left of the memory is as it was
              have hold : ∀ b B, (cutS (sf i) Hl).getB b = some B → (sf (m + k)).getB b = some B := fun b B hB => by
                rw [getB_cutS] at hB
                split at hB
                · cases hB
                · rename_i hbl
                  have hbs := hwf b B hB
                  have e1 : (sf (m + k)).getB b = (sf m).getB b := by
                    by_cases hk0 : k = 0
                    · subst hk0; rfl
                    · refine s3m b fun hbH => hbl ?_
                      rw [(hHl (late hk0)).1, mem_belowN]
                      exact ⟨hbH, hbs⟩
                  rw [e1, hke.same b hbs]; exact hB
              have hRi : Rel μ (cutS (sf i) Hl) w := by
                have := hq.rel
                refine ⟨fun b B hB => ?_, fun b B L' hB hk => this.blk b B L' (hold b B hB) hk, fun b b' B B' L' L'' hB hB' hne hk hk' hb => this.apart b b' B B' L' L'' (hold _ _ hB) (hold _ _ hB') hne hk hk' hb⟩
                rw [getB_cutS] at hB
                split at hB
                · cases hB
                · exact hwf b B hB
              have hfi : Fresh μ (cutS (sf i) Hl) s1 := by
                have := hq.fresh i him h2
                intro b g1 g2
                exact this b g1 (by rw [hsz1]; exact g2)
              have hnew : ∀ b, (sf i).size ≤ b → b < s1.size → (sf (m + k)).getB b = s1.getB b := fun b g1 g2 => by
                have e1 : (sf (m + k)).getB b = (sf m).getB b := by
                  by_cases hk0 : k = 0
                  · subst hk0; rfl
                  · refine s3m b fun hbH => ?_
                    have := (hHl (late hk0)).2 b hbH
                    omega
                have e2 : (sf m).getB b = (sf (i + 1)).getB b := (chain (i + 1) m (by omega) (Nat.le_refl _)).same b (by rw [hsz1]; exact g2)
                rw [e1, e2, hget, if_neg (fun h => by have := hHlt b h; omega)]
              refine .inl ((opV_part hS (hT.sel i o ho) hop hops hRi hfi (by rw [hq.n]; exact hd) (by rw [(tf_n2 hts hp i (by omega)).1, hn]; exact hd)).wp fun μ' v' w' g1 g2 g3 => ?_)
              exact IH _ _ _ (hsz' i) (hcnt' i hil h2) (hcl' i o ho hpre hil) (.inl ⟨hlt', μ', k, hq.nextN (σa := cutS (sf i) Hl) hT hN hS2 hC hp hmp hsz him ho h2 hwr rfl hsz1 hnew g1 g2 g3⟩)
            · rw [if_neg (by rw [hguard, hw]; simp)]
              refine IH _ _ _ (hsz' i) (hcnt' i hil h2) (hcl' i o ho hpre hil) (.inl ⟨hlt', μ, k, ?_⟩)
              have hRe : Rel μ { heap := .nil, size := (sf i).size, wr := (sf i).size } w := ⟨fun b B hB => by rw [St.getB_eq] at hB; simp [Tr.get_nil] at hB, fun b B L' hB => by rw [St.getB_eq] at hB; simp [Tr.get_nil] at hB, fun b b' B B' L' L'' hB => by rw [St.getB_eq] at hB; simp [Tr.get_nil] at hB⟩
              exact hq.nextN (s1 := { heap := .nil, size := (sf i).size, wr := (sf i).size }) (σa := { heap := .nil, size := (sf i).size, wr := (sf i).size }) hT hN hS2 hC hp hmp hsz him ho h2 (Nat.le_refl _) rfl (by rw [hs1]) (fun b g1 g2 => by simp at g2; omega) (by rw [hv]; exact vrel_undef μ) hRe (Step.refl _ _ _)
          · -- a store: it is the next one
            have hie : i = m + k := by
              have hge : m + k ≤ i := by
                have := hq.sd i (by omega) hip
                rw [h2] at this
                simp at this; exact this
              rcases Nat.lt_or_ge (m + k) i with h | h
              · have := bits_listed hCl hT.back i o ho hpl (m + k) (hseq i (m + k) (by omega) h hip)
                rw [Listed, hq.sd (m + k) (by omega) (by omega)] at this
                simp at this
              · omega
            subst hie
            have hss := hS2 (m + k) o (by omega) hip ho
            obtain ⟨c1, c2, c3⟩ := hss.canon hC
            obtain ⟨hts1, hcase⟩ := hss
            rcases hcase with ⟨hw, hop, hsz1, _⟩ | ⟨hw, hv, hs1⟩
            · rw [if_pos (by rw [hguard]; exact hw)]
              refine .inl ((opV_part hS (hT.sel _ o ho) hop hops hq.rel (fun b g1 g2 => by omega) (by rw [hq.n]; exact hd) (by rw [(tf_n2 hts hp (m + k) (by omega)).1, hn]; exact hd)).wp fun μ' v' w' g1 g2 g3 => ?_)
              exact IH _ _ _ (hsz' _) (hcnt' _ hil h2) (hcl' _ o ho hpre hil) (.inl ⟨hlt', μ', k + 1, hq.nextS hT hp hsz hip ho hsz1 g1 g2 g3⟩)
            · rw [if_neg (by rw [hguard, hw]; simp)]
              refine IH _ _ _ (hsz' _) (hcnt' _ hil h2) (hcl' _ o ho hpre hil) (.inl ⟨hlt', μ, k + 1, ?_⟩)
              exact hq.nextS hT hp hsz hip ho c2 (by rw [hv]; exact vrel_undef μ) (by rw [hs1]; exact hq.rel) (by rw [hs1]; exact Step.refl _ _ _)
        · -- all before it have run
          have hbits := bits_listed hCl hT.back i o ho (hpre2 o hpre)
          have hall : ∀ j, j < i → L.getD j true = true := fun j hj => hbits j (hT.forced i (by omega) hil j hj)
          have hpe : i = p := by
            rcases Nat.lt_or_ge p i with h | h
            · have := hlt p (by omega) (hall p h); omega
            · omega
          subst hpe
          obtain ⟨tr, ek⟩ := turn L a w μ k hq hall
          have r1 := hq.rel
          have r2 := hq.step
          rw [ek] at r1 r2
          refine forcedStep i (tf i) (sf i) μ (Nat.le_refl _) (fun j hj => ?_) hrest tr r1 r2 i hi
          by_cases hji : j < i
          · rw [hall j hji]; simp [hji]
          · cases h : L.getD j true with
            | false => simp [hji]
            | true => exact absurd (hlt j hj h) hji
      · exact forcedStep q ts σ μ hpq hL hrun t1 t2 t3 i hi
end
end
end Go.Proofs.YtcllgicphjmamaaGreat.ev
