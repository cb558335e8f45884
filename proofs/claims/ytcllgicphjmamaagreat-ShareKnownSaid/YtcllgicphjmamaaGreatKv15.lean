/- The reckoner: a run in pieces. -/
import Derived.Test.YtcllgicphjmamaaGreatKv19
namespace Go.Proofs.YtcllgicphjmamaaGreat.ev
noncomputable section
open Go.RowKit
set_option linter.unusedSimpArgs false
set_option linter.unusedVariables false
set_option linter.unusedSectionVars false
variable [Kn]

section
variable {P : Program} [KnowOk P] {ih : Ih} {ops : Array Oper} {p : Nat} {tf : Nat → Ts} {sf : Nat → St} {vf : Nat → Value} {μ0 : Mu} {w0 : World} {n : Nat}
/-- all orders, up to where the order is the text's -/
theorem draw_upto (hT : Text P ops n p) (hS : Sound P ih) (hs : ∀ j o, j < p → ops.toList[j]? = some o → QStep P ih ops o (tf j) (sf j) (vf j) (tf (j + 1)) (sf (j + 1))) (hC : CanonOk ih) (hp : p ≤ ops.toList.length) (hn : (tf 0).n = n) (hd : n ≤ 2 ^ (tf 0).d)
    (hw0 : WfB (sf 0)) {Q : Exit → Act → World → Prop} (hrest : ∀ a w, Ends μ0 (sf 0) w0 (tf p) (sf p) a w → wpList P ops Q (ops.toList.drop p) a w) :
    ∀ (fuel : Nat) (L : Array Bool) (a : Act) (w : World), L.size = ops.toList.length → cnt L ops.toList.length = fuel → Closed ops L →
      (((∀ j, j < ops.toList.length → L.getD j true = true → j < p) ∧ ∃ μ, QInv ops p n tf sf vf μ0 w0 L a w μ) ∨
       (∃ q, p ≤ q ∧ (∀ j, j < ops.toList.length → L.getD j true = decide (j < q)) ∧ wpList P ops Q (ops.toList.drop q) a w)) →
      wpAny P .any ops Q fuel L a w := by
  have chain := keeps_chain hs hC hp
  have oplen : ops.size = ops.toList.length := by simp
  -- all free operations have run: from here on the order is the text's
  have turn : ∀ (L : Array Bool) (a : Act) (w : World) (μ : Mu), QInv ops p n tf sf vf μ0 w0 L a w μ → (∀ j, j < p → L.getD j true = true) → TRel μ (tf p) a := by
    intro L a w μ hq hall
    obtain ⟨n1, n2⟩ := tf_n hs hp p (Nat.le_refl _)
    refine ⟨by rw [hq.n, n1, hn], by rw [n1, n2, hn]; exact hd, fun t ht => ?_, hq.df⟩
    obtain ⟨g1, g2⟩ := tf_get hT hs hp hn hd t p (Nat.le_refl _)
    by_cases hex : ∃ (j : Nat) (oj : Oper), j < p ∧ ops.toList[j]? = some oj ∧ oj.dst = some t
    · obtain ⟨j, oj, hj, hoj, hdj⟩ := hex
      rw [g2 j oj hj hoj hdj]
      exact hq.done t j oj hj hoj hdj (hall j hj)
    · rw [g1 (fun j oj hj hoj hdj => hex ⟨j, oj, hj, hoj, hdj⟩)]
      exact hq.wait t fun j oj hj hoj hdj => absurd ⟨j, oj, hj, hoj, hdj⟩ hex
  intro fuel
  induction fuel with
  | zero =>
    intro L a w hsz hcnt hCl hstate
    have hall : ∀ j, j < ops.toList.length → L.getD j true = true := fun j hj => by
      cases h : L.getD j true with
      | true => rfl
      | false =>
        have : j ∈ (List.range ops.toList.length).filter fun j => !L.getD j true := List.mem_filter.2 ⟨List.mem_range.2 hj, by rw [h]; rfl⟩
        have hz := List.length_eq_zero_iff.1 hcnt
        rw [hz] at this; simp at this
    refine wpAny_zero ?_ ?_
    · rw [List.eq_nil_iff_forall_not_mem]
      intro i hi
      obtain ⟨h1, h2, _⟩ := ready_iff.1 hi
      rw [hall i (by omega)] at h2; cases h2
    · rcases hstate with ⟨hlt, μ, hq⟩ | ⟨q, hpq, hL, hrun⟩
      · have hpe : p = ops.toList.length := by
          rcases Nat.lt_or_ge p ops.toList.length with h | h
          · have := hlt p h (hall p h); omega
          · omega
        have := hrest a w ⟨μ, turn L a w μ hq fun j hj => hall j (by omega), hq.rel, hq.step⟩
        rw [List.drop_eq_nil_of_le (by omega)] at this
        exact this
      · have hqe : ops.toList.length ≤ q := by
          rcases Nat.lt_or_ge q ops.toList.length with h | h
          · have := hall q h
            rw [hL q h] at this
            simp at this
          · exact h
        rw [List.drop_eq_nil_of_le hqe] at hrun
        exact hrun
  | succ fuel IH =>
    intro L a w hsz hcnt hCl hstate
    have hcl' : ∀ i o, ops.toList[i]? = some o → (∀ e ∈ o.after.toList, Region.binds .any e = true → L.getD e.on false = true) → i < ops.toList.length → Closed ops (L.setIfInBounds i true) := by
      intro i o ho hpre hi j oj hoj hlj e he hb
      rw [Listed, getD_set L i e.on (by omega)]
      by_cases e1 : e.on = i
      · rw [if_pos e1]
      · rw [if_neg e1]
        rw [Listed, getD_set L i j (by omega)] at hlj
        by_cases e2 : j = i
        · subst e2
          rw [ho] at hoj; cases hoj
          have := hpre e he hb
          simp only [Array.getD_eq_getD_getElem?] at this ⊢
          cases h3 : L[e.on]? with
          | none => rfl
          | some b => rw [h3] at this; simpa using this
        · rw [if_neg e2] at hlj
          exact hCl j oj hoj hlj e he hb
    have hcnt' : ∀ i, i < ops.toList.length → L.getD i true = false → cnt (L.setIfInBounds i true) ops.toList.length = fuel := by
      intro i hi hu
      have := filter_one (n := ops.toList.length) hi (f := fun j => !L.getD j true) (g := fun j => !(L.setIfInBounds i true).getD j true) (by simp [hu]) (by rw [getD_set L i i (by omega)]; simp) (fun j hj => by rw [getD_set L i j (by omega), if_neg hj])
      unfold cnt at hcnt ⊢
      omega
    have hsz' : ∀ i, (L.setIfInBounds i true).size = ops.toList.length := fun i => by simpa using hsz
    have hpre2 : ∀ o : Oper, (∀ e ∈ o.after.toList, Region.binds .any e = true → L.getD e.on false = true) → ∀ e ∈ o.after.toList, Region.binds .any e = true → Listed L e.on := by
      intro o h e he hb
      have := h e he hb
      unfold Listed
      simp only [Array.getD_eq_getD_getElem?] at this ⊢
      cases h3 : L[e.on]? with
      | none => rfl
      | some b => rw [h3] at this; simpa using this
    -- one operation of the forced ones
    have forcedStep : ∀ (q : Nat), p ≤ q → (∀ j, j < ops.toList.length → L.getD j true = decide (j < q)) → wpList P ops Q (ops.toList.drop q) a w →
        ∀ i ∈ Region.ready .any ops L, wpOp P ops Q i (wpAny P .any ops Q fuel (L.setIfInBounds i true)) a w := by
      intro q hpq hL hrun i hi
      obtain ⟨h1, h2, o, ho, hpre⟩ := ready_iff.1 hi
      have hil : i < ops.toList.length := by omega
      have hiq : q ≤ i := by
        rw [hL i hil] at h2
        simp at h2; exact h2
      have hbits := bits_listed hCl hT.back i o ho (hpre2 o hpre)
      have hie : i = q := by
        rcases Nat.lt_or_ge q i with h | h
        · have := hbits q (hT.forced i (by omega) hil q h)
          rw [Listed, hL q (by omega)] at this
          simp at this
        · omega
      subst hie
      have ho' : ops[i]? = some o := by simpa using ho
      have hdrop : ops.toList.drop i = o :: ops.toList.drop (i + 1) := by
        rw [List.drop_eq_getElem_cons hil]
        congr 1
        exact (List.getElem?_eq_some_iff.1 ho).2
      rw [hdrop] at hrun
      simp only [wpList] at hrun
      have hL' : ∀ j, j < ops.toList.length → (L.setIfInBounds i true).getD j true = decide (j < i + 1) := fun j hj => by
        rw [getD_set L i j (by omega)]
        by_cases e : j = i
        · subst e; simp
        · rw [if_neg e, hL j hj]
          by_cases hlt : j < i
          · simp [hlt]; omega
          · simp [hlt]; omega
      unfold wpOp
      rw [ho']
      simp only
      have next : ∀ a1 w1, wpList P ops Q (ops.toList.drop (i + 1)) a1 w1 → wpAny P .any ops Q fuel (L.setIfInBounds i true) a1 w1 := fun a1 w1 h => IH _ _ _ (hsz' i) (hcnt' i hil h2) (hcl' i o ho hpre hil) (.inr ⟨i + 1, by omega, hL', h⟩)
      split at hrun
      · rename_i hwt
        rw [if_pos hwt]
        rcases hrun with hrun | hrun
        · exact .inl (Oper.wp_mono next hrun)
        · exact .inr hrun
      · rename_i hwt
        rw [if_neg hwt]
        exact next _ _ hrun
    refine ⟨fun hr => ?_, fun i hi => ?_⟩
    · -- there is always one that is ready
      exfalso
      have hex : ∃ j, j < ops.toList.length ∧ L.getD j true = false := by
        have hne : (List.range ops.toList.length).filter (fun j => !L.getD j true) ≠ [] := fun h => by
          unfold cnt at hcnt; rw [h] at hcnt; simp at hcnt
        obtain ⟨j, hj⟩ := List.exists_mem_of_ne_nil _ hne
        simp only [List.mem_filter, List.mem_range, Bool.not_eq_true'] at hj
        exact ⟨j, hj⟩
      have least : ∀ k j, j < k → j < ops.toList.length → L.getD j true = false → False := by
        intro k
        induction k with
        | zero => intro j hj; omega
        | succ k ihk =>
          intro j hj hjl hju
          obtain ⟨o, ho⟩ : ∃ o, ops.toList[j]? = some o := ⟨_, List.getElem?_eq_getElem hjl⟩
          have : j ∈ Region.ready .any ops L := ready_iff.2 ⟨by omega, hju, o, ho, fun e he hb => by
            have hlt := hT.back j o ho e he hb
            have h1 : L.getD e.on true = true := by
              cases h : L.getD e.on true with
              | true => rfl
              | false => exact (ihk e.on (by omega) (by omega) h).elim
            simp only [Array.getD_eq_getD_getElem?] at h1 ⊢
            have : e.on < L.size := by omega
            rw [Array.getElem?_eq_getElem this] at h1 ⊢
            simpa using h1⟩
          rw [hr] at this; simp at this
      obtain ⟨j, hj, hu⟩ := hex
      exact least (j + 1) j (by omega) hj hu
    · rcases hstate with ⟨hlt, μ, hq⟩ | ⟨q, hpq, hL, hrun⟩
      · obtain ⟨h1, h2, o, ho, hpre⟩ := ready_iff.1 hi
        have hil : i < ops.toList.length := by omega
        by_cases hip : i < p
        · have ho' : ops[i]? = some o := by simpa using ho
          have hpl := hpre2 o hpre
          have hlook := fun t ht => look_ok hT hs hp hn hd hq hCl hlt hip ho h2 hpl (t := t) ht
          have hops : ∀ t, (.tmp t) ∈ o.op.operands → VRel μ (getT (tf i) t) (a.tmps.getD t undef) := fun t ht => hlook t (List.mem_append_left _ (List.mem_filterMap.2 ⟨.tmp t, by simpa using ht, rfl⟩))
          have hguard : Region.wanted o (yielded ops a.tmps) = wantedV ops (tf i) o := wanted_part ops o fun j want d hg hd' => hlook d (by
            unfold Oper.looksAt
            rw [hg]
            exact List.mem_append_right _ (by simp [hd']))
          have hlt' : ∀ j, j < ops.toList.length → (L.setIfInBounds i true).getD j true = true → j < p := fun j hj hl => by
            rw [getD_set L i j (by omega)] at hl
            by_cases e : j = i
            · omega
            · rw [if_neg e] at hl; exact hlt j hj hl
          obtain ⟨hts, hcase⟩ := hs i o hip ho
          unfold wpOp
          rw [ho']
          simp only
          rcases hcase with ⟨hw, s1, hop, hwr, hs1⟩ | ⟨hw, hv, hs1⟩
          · rw [if_pos (by rw [hguard]; exact hw)]
            have hwf : WfB (sf i) := (chain 0 i (by omega) (by omega)).wf hw0
            have hRi : Rel μ { sf i with wr := 65536 } w := by
              have := hq.rel.down (chain i p (by omega) (Nat.le_refl _)) hwf
              exact ⟨this.wf, this.blk, this.apart⟩
            have hfi : Fresh μ { sf i with wr := 65536 } s1 := by
              have := hq.fresh i hip h2
              rw [hs1] at this
              exact this
            refine .inl ((opV_part hS (hT.sel i o ho) hop hops hRi hfi (by rw [hq.n]; exact hd) (by rw [(tf_n hs hp i (by omega)).1, hn]; exact hd)).wp fun μ' v' w' g1 g2 g3 => ?_)
            exact IH _ _ _ (hsz' i) (hcnt' i hil h2) (hcl' i o ho hpre hil) (.inl ⟨hlt', μ', hq.next (σa := { sf i with wr := 65536 }) hT hs hC hp hsz hip ho h2 hwr rfl (by rw [hs1]) (fun k => by rw [hs1]; rfl) g1 g2 g3⟩)
          · rw [if_neg (by rw [hguard, hw]; simp)]
            refine IH _ _ _ (hsz' i) (hcnt' i hil h2) (hcl' i o ho hpre hil) (.inl ⟨hlt', μ, ?_⟩)
            refine hq.next (s1 := { sf i with wr := (sf i).size }) (σa := { sf i with wr := (sf i).size }) hT hs hC hp hsz hip ho h2 (Nat.le_refl _) rfl (by rw [hs1]) (fun k => by rw [hs1]; rfl) (by rw [hv]; exact vrel_undef μ) ?_ (Step.refl _ _ _)
            have := hq.rel.down (chain i p (by omega) (Nat.le_refl _)) ((chain 0 i (by omega) (by omega)).wf hw0)
            exact ⟨this.wf, this.blk, this.apart⟩
        · -- all before it have run
          have hbits := bits_listed hCl hT.back i o ho (hpre2 o hpre)
          have hall : ∀ j, j < i → L.getD j true = true := fun j hj => hbits j (hT.forced i (by omega) hil j hj)
          have hpe : i = p := by
            rcases Nat.lt_or_ge p i with h | h
            · have := hlt p (by omega) (hall p h); omega
            · omega
          subst hpe
          refine forcedStep i (Nat.le_refl _) (fun j hj => ?_) (hrest a w ⟨μ, turn L a w μ hq hall, hq.rel, hq.step⟩) i hi
          by_cases hji : j < i
          · rw [hall j hji]; simp [hji]
          · cases h : L.getD j true with
            | false => simp [hji]
            | true => exact absurd (hlt j hj h) hji
      · exact forcedStep q hpq hL hrun i hi
end
/-- a region that draws its order, split where the order is the text's -/
theorem draw_split {P : Program} [KnowOk P] {ih : Ih} (hS : Sound P ih) (hC : CanonOk ih) {ops : Array Oper} {ts : Ts} {σ : St} {ts1 : Ts} {s1 : St} (hok : drawOK P ops ts.n (freeN ops) = true) (hq : qV P ih ops (ops.toList.take (freeN ops)) ts σ = some (ts1, s1))
    {id : Nat} {μ : Mu} {a : Act} {w : World} (tr : TRel μ ts a) (rel : Rel μ σ w) (fr : Fresh μ σ s1) {Q : Exit → Act → World → Prop} (hrest : ∀ a1 w1, Ends μ σ w ts1 s1 a1 w1 → wpList P ops Q (ops.toList.drop (freeN ops)) a1 w1) :
    (Code.region id ops true).wp P Q a w := by
  have hT := text_of hok
  have hple : freeN ops ≤ ops.toList.length := Nat.sub_le _ _
  obtain ⟨tf, sf, vf, a1, a2, a3, a4, a5⟩ := qV_run _ _ _ _ _ hq
  have hlen : (ops.toList.take (freeN ops)).length = freeN ops := by rw [List.length_take]; exact Nat.min_eq_left hple
  rw [hlen] at a3 a4
  have hs : ∀ j o, j < freeN ops → ops.toList[j]? = some o → QStep P ih ops o (tf j) (sf j) (vf j) (tf (j + 1)) (sf (j + 1)) := fun j o hj ho => a5 j o (by rw [List.getElem?_take, if_pos hj]; exact ho)
  have chain := keeps_chain hs hC hple 0 (freeN ops) (Nat.zero_le _) (Nat.le_refl _)
  refine wp_region_any hT.mixed ?_
  have hsz : (Array.replicate ops.size false).size = ops.toList.length := by simp
  have hrel0 : Rel μ (sf 0) { w with drawn := w.drawn + 1 } := by rw [a2]; exact ⟨rel.wf, rel.blk, rel.apart⟩
  have hstep0 : Step μ μ (sf 0) (sf 0) w { w with drawn := w.drawn + 1 } := ⟨Mu.le.refl _, fun _ _ h => .inl h, Nat.le_refl _, Nat.le_refl _, Nat.le_refl _, rfl, rfl, rfl, fun _ _ _ => rfl, fun _ _ _ => rfl⟩
  have hfr0 : Fresh μ (sf 0) (sf (freeN ops)) := by rw [a2, a4]; exact fr
  have hrelp : Rel μ (sf (freeN ops)) { w with drawn := w.drawn + 1 } := hrel0.up chain hfr0
  have hno : ∀ j, (Array.replicate ops.size false).getD j true = true → ¬ j < ops.size := fun j h1 h2 => by
    simp [Array.getD_eq_getD_getElem?, Array.getElem?_replicate, h2] at h1
  have hno' : ∀ j, j < ops.size → (Array.replicate ops.size false).getD j true = false := fun j h2 => by
    simp [Array.getD_eq_getD_getElem?, Array.getElem?_replicate, h2]
  have oplen : ops.size = ops.toList.length := by simp
  have hfin : ∀ a1 w1, Ends μ (sf 0) { w with drawn := w.drawn + 1 } (tf (freeN ops)) (sf (freeN ops)) a1 w1 → Ends μ σ w ts1 s1 a1 w1 := by
    rintro a1 w1 ⟨μ', t1, t2, t3⟩
    have := hstep0.trans t3
    rw [a2, a4] at this
    rw [a3] at t1
    rw [a4] at t2
    exact ⟨μ', t1, t2, this⟩
  refine draw_upto (μ0 := μ) (w0 := { w with drawn := w.drawn + 1 }) (n := ts.n) (p := freeN ops) hT hS hs hC hple (by rw [a1]) (by rw [a1]; exact tr.d) hrel0.wf (fun a1 w1 he => hrest a1 w1 (hfin a1 w1 he)) ops.size _ a _ hsz ?_ ?_ (.inl ⟨fun j hj hl => absurd (by omega) (hno j hl), μ, ?_⟩)
  · unfold cnt
    rw [← oplen, List.filter_eq_self.2 (fun j hj => by rw [hno' j (by simpa using hj)]; rfl), List.length_range]
  · intro j o ho hl
    have : j < ops.toList.length := (List.getElem?_eq_some_iff.1 ho).1
    exact absurd (by omega) (hno j hl)
  · refine ⟨hrelp, ⟨Mu.le.refl _, fun _ _ h => .inl h, chain.size, chain.wr, Nat.le_refl _, rfl, rfl, rfl, fun _ _ _ => rfl, fun k h1 _ => chain.same k h1⟩, fun j hj _ => ?_, tr.n, tr.df, fun t j o hj ho hd hl => absurd (by omega) (hno j hl), fun t _ => by rw [a1]; exact tr.get t⟩
    have c1 := keeps_chain hs hC hple 0 j (Nat.zero_le _) (by omega)
    have c2 := keeps_chain hs hC hple (j + 1) (freeN ops) (by omega) (Nat.le_refl _)
    intro k h1 h2
    exact hfr0 k (Nat.le_trans c1.size h1) (Nat.lt_of_lt_of_le h2 c2.size)
/-- where a run stands: its slots and what it still knows of its memory; all of it lies above what was there at first -/
def At (ts : Ts) (σ : St) (w0 : World) (a : Act) (w : World) : Prop :=
  ∃ μ, TRel μ ts a ∧ Rel μ σ w ∧ (∀ k L, μ k = some L → k < σ.size ∧ w0.heap.size ≤ L.blk) ∧ Below w0.heap.size w0 w
theorem At.ends {ts' : Ts} {σ σ' : St} {w0 w w' : World} {a' : Act} {μ : Mu} (hd : ∀ k L, μ k = some L → k < σ.size ∧ w0.heap.size ≤ L.blk) (hb : Below w0.heap.size w0 w) (h : Ends μ σ w ts' σ' a' w') : At ts' σ' w0 a' w' := by
  obtain ⟨μ', t1, t2, t3⟩ := h
  refine ⟨μ', t1, t2, fun k L hk => ?_, hb.trans ⟨t3.os, t3.tape, t3.output, t3.hs, fun b hlt => ?_⟩⟩
  · rcases t3.dom k L hk with h1 | ⟨h1, h2, h3⟩
    · obtain ⟨g1, g2⟩ := hd k L h1
      exact ⟨Nat.lt_of_lt_of_le g1 t3.size, g2⟩
    · refine ⟨h2, ?_⟩
      rcases h3 with h3 | ⟨k0, L0, h4, h5, _⟩
      · exact Nat.le_trans hb.size h3
      · rw [← h5]; exact (hd k0 L0 h4).2
  · refine t3.frame b (Nat.lt_of_lt_of_le hlt hb.size) fun k L hk hL => ?_
    have := (hd k L hk).2
    omega
theorem At.fresh {σ σ' : St} {w0 : World} {μ : Mu} (hd : ∀ k L, μ k = some L → k < σ.size ∧ w0.heap.size ≤ L.blk) : Fresh μ σ σ' := fun j h1 _ => by
  cases h : μ j with
  | none => rfl
  | some L => have := (hd j L h).1; omega
/-- less may be known of memory -/
theorem At.less {ts : Ts} {σ σ' : St} {w0 w : World} {a : Act} (h : At ts σ w0 a w) (hs : σ'.size = σ.size) (hg : ∀ k B, σ'.getB k = some B → σ.getB k = some B) : At ts σ' w0 a w := by
  obtain ⟨μ, t1, t2, t3, t4⟩ := h
  exact ⟨μ, t1, ⟨fun k B hk => by rw [hs]; exact t2.wf k B (hg k B hk), fun k B L hk => t2.blk k B L (hg k B hk), fun k k' B B' L L' h1 h2 => t2.apart k k' B B' L L' (hg k B h1) (hg k' B' h2)⟩, fun k L hk => by rw [hs]; exact t3 k L hk, t4⟩
/-- a piece of a list of operations -/
theorem opsV_app {P : Program} [KnowOk P] {ih : Ih} (hS : Sound P ih) {all : Array Oper} {Q : Exit → Act → World → Prop} {l2 : List Oper} : ∀ (l : List Oper) (ts : Ts) (σ : St) (ts' : Ts) (σ' : St), opsV P ih all l ts σ = some (ts', σ') → ∀ (μ : Mu) (a : Act) (w : World), TRel μ ts a → Rel μ σ w → Fresh μ σ σ' →
    (∀ a' w', Ends μ σ w ts' σ' a' w' → wpList P all Q l2 a' w') → wpList P all Q (l ++ l2) a w
  | [], ts, σ, ts', σ', h, μ, a, w, hT, hR, hf, hQ => by
    simp [opsV] at h
    obtain ⟨rfl, rfl⟩ := h
    exact hQ a w ⟨μ, hT, hR, Step.refl _ _ _⟩
  | o :: rest, ts, σ, ts', σ', h, μ, a, w, hT, hR, hf, hQ => by
    simp only [opsV] at h
    have hw := wantedV_eq hT all o
    rw [List.cons_append]
    refine wpList_step fun K hK => ?_
    split at h
    · rename_i hwt
      rw [if_pos (by rw [hw]; exact hwt)]
      split at h
      case h_2 => cases h
      rename_i v s1 ho
      split at h
      case isFalse => cases h
      rename_i hs
      have hs2 := opsV_size rest _ _ _ _ h
      refine opV_wp hS ho hT hR (hf.mono hs2) fun μ' v' w' g1 g2 g3 => ?_
      refine hK _ _ (opsV_app hS rest _ _ _ _ h μ' _ w' ((hT.mono g3.ext).putV g1 o.dst) g2 (g3.fresh hf) ?_)
      rintro a2 w2 ⟨μ2, t1, t2, t3⟩
      exact hQ a2 w2 ⟨μ2, t1, t2, g3.trans t3⟩
    · rename_i hwt
      rw [if_neg (by rw [hw]; exact hwt)]
      exact hK _ _ (opsV_app hS rest _ _ _ _ h μ _ w (hT.putV (vrel_undef μ) o.dst) hR hf hQ)
/-- what is kept of memory -/
def keepS (ks : List Nat) (σ : St) : St := { σ with heap := ks.foldl (fun t k => match St.getB σ k with | some B => Tr.set B 16 t k | none => t) .nil }
theorem keepL_getB (σ : St) : ∀ (ks : List Nat) (t : Tr Blk), (∀ k B, St.getB { σ with heap := t } k = some B → σ.getB k = some B) →
    ∀ k B, St.getB { σ with heap := ks.foldl (fun t k => match St.getB σ k with | some B => Tr.set B 16 t k | none => t) t } k = some B → σ.getB k = some B
  | [], t, h => h
  | k0 :: ks, t, h => by
    rw [List.foldl_cons]
    refine keepL_getB σ ks _ fun k B hk => ?_
    cases h0 : σ.getB k0 with
    | none => rw [h0] at hk; exact h k B hk
    | some B0 =>
      rw [h0] at hk
      have e := St.getB_setB { σ with heap := t } k0 k B0 (St.getB_lt h0)
      have e2 : St.setB { σ with heap := t } k0 B0 = { σ with heap := Tr.set B0 16 t k0 } := rfl
      rw [e2] at e
      rw [e] at hk
      by_cases hkk : k = k0
      · subst hkk
        rw [if_pos rfl, if_pos (St.getB_alive h0)] at hk
        cases hk; exact h0
      · rw [if_neg hkk] at hk
        exact h k B hk
theorem keepS_getB {ks : List Nat} {σ : St} (k : Nat) (B : Blk) (h : (keepS ks σ).getB k = some B) : σ.getB k = some B :=
  keepL_getB σ ks .nil (fun k B h => by rw [St.getB_eq] at h; simp [Tr.get_nil] at h) k B h
theorem At.keep {ts : Ts} {σ : St} {w0 w : World} {a : Act} (ks : List Nat) (h : At ts σ w0 a w) : At ts (keepS ks σ) w0 a w := h.less rfl keepS_getB
/-! pieces -/
def kept (ks : List Nat) (x : Option (Ts × St)) : Option (Ts × St) :=
  match x with
  | some p => some (p.1, keepS ks p.2)
  | none => none
theorem kept_some {ks : List Nat} {x : Option (Ts × St)} {ts' : Ts} {σ' : St} (h : kept ks x = some (ts', σ')) : ∃ s, x = some (ts', s) ∧ σ' = keepS ks s := by
  cases x with
  | none => cases h
  | some p => obtain ⟨t, s⟩ := p; cases h; exact ⟨s, rfl, rfl⟩
/-- a piece of a list -/
theorem at_ops {P : Program} [KnowOk P] {n : Nat} {all : Array Oper} {l l2 : List Oper} {ks : List Nat} {ts ts' : Ts} {σ σ' : St} {w0 : World} {Q : Exit → Act → World → Prop} (h : kept ks ((opsC P all l).run (fv P n) ts σ) = some (ts', σ')) {a : Act} {w : World} (ha : At ts σ w0 a w)
    (hQ : ∀ a' w', At ts' σ' w0 a' w' → wpList P all Q l2 a' w') : wpList P all Q (l ++ l2) a w := by
  obtain ⟨s, h1, rfl⟩ := kept_some h
  rw [opsC_eq] at h1
  obtain ⟨μ, t1, t2, t3, t4⟩ := ha
  exact opsV_app (fv_ok P n).1 l ts σ ts' s h1 μ a w t1 t2 (At.fresh t3) fun a' w' he => hQ a' w' ((At.ends t3 t4 he).keep ks)
/-- the part of a region whose order is drawn -/
theorem at_draw {P : Program} [KnowOk P] {n : Nat} {ops : Array Oper} {ks : List Nat} {ts ts' : Ts} {σ σ' : St} {w0 : World} {Q : Exit → Act → World → Prop} {id : Nat} (hok : drawOK P ops ts.n (freeN ops) = true) (h : kept ks ((qC P ops (ops.toList.take (freeN ops))).run (fv P n) ts σ) = some (ts', σ')) {a : Act} {w : World} (ha : At ts σ w0 a w)
    (hQ : ∀ a' w', At ts' σ' w0 a' w' → wpList P ops Q (ops.toList.drop (freeN ops)) a' w') : (Code.region id ops true).wp P Q a w := by
  obtain ⟨s, h1, rfl⟩ := kept_some h
  rw [qC_eq] at h1
  obtain ⟨μ, t1, t2, t3, t4⟩ := ha
  exact draw_split (fv_ok P n).1 (fv_ok P n).2 hok h1 t1 t2 (At.fresh t3) fun a' w' he => hQ a' w' ((At.ends t3 t4 he).keep ks)
def keptX (ks : List Nat) (x : Option (Ex × Ts × St)) : Option (Ex × Ts × St) :=
  match x with
  | some p => some (p.1, p.2.1, keepS ks p.2.2)
  | none => none
/-- a piece of code -/
theorem at_code {P : Program} [KnowOk P] {n : Nat} {c : Code} {ks : List Nat} {ex : Ex} {ts ts' : Ts} {σ σ' : St} {w0 : World} {Q : Exit → Act → World → Prop} (h : keptX ks (fv P n c ts σ) = some (ex, ts', σ')) {a : Act} {w : World} (ha : At ts σ w0 a w)
    (hQ : ∀ a' w', At ts' σ' w0 a' w' → Q ex.of a' w') : c.wp P Q a w := by
  obtain ⟨μ, t1, t2, t3, t4⟩ := ha
  cases hx : fv P n c ts σ with
  | none => rw [hx] at h; cases h
  | some p =>
    obtain ⟨e, t, s⟩ := p
    rw [hx] at h
    cases h
    refine Code.wp_mono ?_ ((fv_ok P n).1 _ _ _ _ _ _ hx μ a w t1 t2 (At.fresh t3))
    rintro e' a' w' ⟨rfl, he⟩
    exact hQ a' w' ((At.ends t3 t4 he).keep ks)
/-- what another call leaves below is still known -/
theorem At.below {ts : Ts} {σ : St} {w0 w w' : World} {a : Act} (h : At ts σ w0 a w) (hb : Below w.heap.size w w') : At ts σ w0 a w' := by
  obtain ⟨μ, t1, t2, t3, t4⟩ := h
  refine ⟨μ, t1, ⟨t2.wf, fun k B L hk hL => ?_, t2.apart⟩, t3, t4.trans ⟨hb.os, hb.tape, hb.output, hb.size, fun b hlt => hb.block b (Nat.lt_of_lt_of_le hlt t4.size)⟩⟩
  have := t2.blk k B L hk hL
  exact this.mono (Mu.le.refl μ) (hb.block _ this.lt)
def fakeIh : Ih := fun _ ts σ => some (.norm, ts, σ)
/-- a call without arguments of which a theorem speaks -/
theorem at_call {P : Program} [KnowOk P] {all : Array Oper} {o : Oper} {g : FuncId} {rest : List Oper} {ts : Ts} {σ : St} {w0 : World} {r : Value} {Q : Exit → Act → World → Prop} (hg : ∀ w, Calls P g #[] w fun e w' => e = .returned r ∧ Below w.heap.size w w') (hr : flat r = true)
    (hw : wantedV all ts o = true) (hc : (match callOf P ts o with | some (g', l) => Nat.beq g' g && l.isEmpty | none => false) = true) (hf : (callF P fakeIh g [] st0).isSome = true) {a : Act} {w : World} (ha : At ts σ w0 a w)
    (hQ : ∀ a' w', At (putV ts o.dst r) σ w0 a' w' → wpList P all Q rest a' w') : wpList P all Q (o :: rest) a w := by
  have hat := ha
  obtain ⟨μ, t1, t2, t3, t4⟩ := ha
  refine wpList_step fun K hK => ?_
  rw [if_pos (by rw [wantedV_eq t1]; exact hw)]
  split at hc
  case h_2 => cases hc
  rename_i g' l hco
  simp only [Bool.and_eq_true, List.isEmpty_iff] at hc
  obtain ⟨h1, rfl⟩ := hc
  have := Nat.eq_of_beq_eq_true h1
  subst this
  obtain ⟨p, hp⟩ := Option.isSome_iff_exists.1 hf
  obtain ⟨v, s⟩ := p
  obtain ⟨args', g1, g2⟩ := callOf_run t1 hco hp w
  have : args' = #[] := by
    cases g2' : args'.toList with
    | nil => exact Array.toList_eq_nil_iff.1 g2'
    | cons x l => rw [g2'] at g2; cases g2
  subst this
  unfold Oper.wp
  rw [g1, Oper.upon_enter]
  refine (hg w).mono ?_
  rintro e w' ⟨rfl, hb⟩
  refine hK _ _ (hQ _ _ ?_)
  obtain ⟨μ', s1, s2, s3, s4⟩ := hat.below hb
  exact ⟨μ', s1.putV (flat_rel μ' hr) o.dst, s2, s3, s4⟩
/-- a body in pieces -/
theorem calls_at {P : Program} [KnowOk P] {g : FuncId} {fd : Fd} (hfd : fdOf P g = some fd) (hcap : fd.ntmps ≤ 512) (w : World)
    (hb : ∀ a, At (frameT fd.ntmps []) st0 w a w → fd.body.wp P (fun e a' w' => (e = .normal ∨ e = .ret) ∧ ∃ ts' σ', At ts' σ' w a' w' ∧ resultsV P σ' ts' fd.results = some [.bool true]) a w) :
    Calls P g #[] w fun e w' => e = .returned (.bool true) ∧ Below w.heap.size w w' := by
  unfold fdOf at hfd
  split at hfd
  case h_2 => cases hfd
  rename_i fn hfn
  split at hfd
  case h_2 => cases hfd
  rename_i c hc
  split at hfd
  · cases hfd
  simp only [Option.some.injEq] at hfd
  subst hfd
  simp only at hb hcap
  refine calls_of_wp hfn hc ?_
  have hT : TRel mu0 (frameT fn.ntmps []) { tmps := #[] ++ Array.replicate (fn.ntmps - (#[] : Array Value).size) undef, defers := [] } := frameT_rel .nil (by simp) hcap
  refine Code.wp_mono ?_ (hb _ ⟨mu0, hT, rel0 w, fun k L h => by simp [mu0] at h, Below.refl _ _⟩)
  rintro e a' w' ⟨he, ts', σ', ⟨μ, t1, t2, t3, t4⟩, hres⟩
  obtain ⟨v', r1, r2⟩ := results_ok t1 t2 hres
  have hv : v' = .bool true := scalar_eq (by rfl) r2
  subst hv
  rcases he with rfl | rfl
  · exact ⟨t1.df, _, r1, rfl, t4⟩
  · exact ⟨t1.df, _, r1, rfl, t4⟩
end
end Go.Proofs.YtcllgicphjmamaaGreat.ev
