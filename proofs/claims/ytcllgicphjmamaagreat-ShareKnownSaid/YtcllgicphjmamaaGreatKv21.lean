/- The reckoner: regions that draw their order, with stores and without. -/
import Derived.Test.YtcllgicphjmamaaGreatKv20
namespace Go.Proofs.YtcllgicphjmamaaGreat.ev
noncomputable section
open Go.RowKit
set_option linter.unusedSimpArgs false
set_option linter.unusedVariables false
set_option linter.unusedSectionVars false
variable [Kn]

def firstStore : List Oper → Nat
  | [] => 0
  | o :: l => match isStore o.op with
    | true => 0
    | false => firstStore l + 1
theorem firstStore_le : ∀ l, firstStore l ≤ l.length
  | [] => by simp [firstStore]
  | o :: l => by
    unfold firstStore
    split
    · simp
    · have := firstStore_le l; simp; omega
/-- the free operations that are no stores -/
def midN (ops : Array Oper) : Nat := firstStore (ops.toList.take (freeN ops))
def seqOK (ops : Array Oper) (m p : Nat) : Bool := (List.range p).all fun s => Nat.blt s m || (List.range s).all fun s' => Nat.blt s' m || ((closL ops.toList []).getD s 0).testBit s'
theorem seqOK_spec {ops : Array Oper} {m p : Nat} (h : seqOK ops m p = true) : ∀ s s', m ≤ s' → s' < s → s < p → ((closL ops.toList []).getD s 0).testBit s' = true := by
  intro s s' h1 h2 h3
  unfold seqOK at h
  have := List.all_eq_true.1 h s (by simpa using h3)
  simp only [Bool.or_eq_true] at this
  rcases this with a | a
  · have := blt_lt a; omega
  · have := List.all_eq_true.1 a s' (by simpa using h2)
    simp only [Bool.or_eq_true] at this
    rcases this with b | b
    · have := blt_lt b; omega
    · exact b
def lastS (P : Program) (ops : Array Oper) (H : List Nat) (ih : Ih) (ts : Ts) (σ : St) : Option (Ts × St) :=
  thenR ((q2C P ops ((closL ops.toList []).getD (midN ops) 0) H (ops.toList.take (midN ops)) 0).run ih ts σ) fun ts σ =>
    thenR ((sC P ops H ((ops.toList.take (freeN ops)).drop (midN ops))).run ih ts σ) ((opsC P ops (ops.toList.drop (freeN ops))).run ih)
def drawSC (P : Program) (ops : Array Oper) : RC :=
  match drawOK P ops (dstTop ops.toList) (freeN ops) with
  | true => match seqOK ops (midN ops) (freeN ops) with
    | true => ⟨fun ih ts σ => match Nat.ble (dstTop ops.toList) ts.n with
      | true => match (qC P ops (ops.toList.take (midN ops))).run ih ts σ with
        | some r => forceNs (tgts r.1 r.2 ops ((ops.toList.take (freeN ops)).drop (midN ops))) fun H => lastS P ops H ih ts σ
        | none => none
      | false => none⟩
    | false => ⟨fun _ _ _ => none⟩
  | false => ⟨fun _ _ _ => none⟩
def drawWC (P : Program) (ops : Array Oper) : RC :=
  match Nat.beq (midN ops) (freeN ops) with
  | true => drawC P ops
  | false => drawSC P ops
def drawW (P : Program) (ih : Ih) (ops : Array Oper) (ts : Ts) (σ : St) : Option (Ts × St) := (drawWC P ops).run ih ts σ
theorem drawWC_some {P : Program} {ops : Array Oper} {ih : Ih} {ts : Ts} {σ : St} {r : Ts × St} (h : (drawWC P ops).run ih ts σ = some r) : drawW P ih ops ts σ = some r := h
theorem drawSC_some {P : Program} {ops : Array Oper} {ih : Ih} {ts : Ts} {σ : St} {r : Ts × St} (h : (drawSC P ops).run ih ts σ = some r) :
    drawOK P ops ts.n (freeN ops) = true ∧ seqOK ops (midN ops) (freeN ops) = true ∧ ∃ H, lastS P ops H ih ts σ = some r := by
  unfold drawSC at h
  split at h
  case h_2 => cases h
  rename_i hok
  split at h
  case h_2 => cases h
  rename_i hsq
  simp only at h
  split at h
  case h_2 => cases h
  rename_i hn
  have hle := Nat.le_of_ble_eq_true hn
  have hok2 : drawOK P ops ts.n (freeN ops) = true := by
    unfold drawOK at hok ⊢
    simp only [Bool.and_eq_true] at hok ⊢
    exact ⟨⟨⟨⟨hok.1.1.1.1, dstOk_mono hok.1.1.1.2 hle⟩, hok.1.1.2⟩, hok.1.2⟩, hok.2⟩
  split at h
  case h_2 => cases h
  rw [forceNs_eq] at h
  exact ⟨hok2, hsq, _, h⟩
/-- the runs of both parts laid one after the other -/
theorem lastS_run {P : Program} {ih : Ih} (hC : CanonOk ih) {ops : Array Oper} {H : List Nat} {ts : Ts} {σ : St} {ts' : Ts} {σ' : St} (h : lastS P ops H ih ts σ = some (ts', σ')) :
    ∃ (tf : Nat → Ts) (sf : Nat → St) (vf : Nat → Value), tf 0 = ts ∧ sf 0 = σ ∧
      (∀ j o, j < midN ops → ops.toList[j]? = some o → NStep P ih ops ((closL ops.toList []).getD (midN ops) 0) H j o (tf j) (sf j) (vf j) (tf (j + 1)) (sf (j + 1))) ∧
      (∀ j o, midN ops ≤ j → j < freeN ops → ops.toList[j]? = some o → SStep P ih ops H o (tf j) (sf j) (vf j) (tf (j + 1)) (sf (j + 1))) ∧
      opsV P ih ops (ops.toList.drop (freeN ops)) (tf (freeN ops)) (sf (freeN ops)) = some (ts', σ') := by
  have hple : freeN ops ≤ ops.toList.length := Nat.sub_le _ _
  have hmp : midN ops ≤ freeN ops := by
    have := firstStore_le (ops.toList.take (freeN ops))
    rw [List.length_take, Nat.min_eq_left hple] at this
    exact this
  unfold lastS thenR at h
  split at h
  case h_2 => cases h
  rename_i p1 h1
  simp only at h
  split at h
  case h_2 => cases h
  rename_i p2 h2
  rw [opsC_eq] at h
  obtain ⟨tf1, sf1, vf1, a1, a2, a3, a4, a5⟩ := q2C_run hC _ _ _ _ p1.1 p1.2 h1
  obtain ⟨tf2, sf2, vf2, b1, b2, b3, b4, b5⟩ := sC_run _ _ _ p2.1 p2.2 h2
  have hlen1 : (ops.toList.take (midN ops)).length = midN ops := by rw [List.length_take]; exact Nat.min_eq_left (by omega)
  have hlen2 : ((ops.toList.take (freeN ops)).drop (midN ops)).length = freeN ops - midN ops := by rw [List.length_drop, List.length_take]; omega
  rw [hlen1] at a3 a4
  rw [hlen2] at b3 b4
  refine ⟨fun j => if j < midN ops then tf1 j else tf2 (j - midN ops), fun j => if j < midN ops then sf1 j else sf2 (j - midN ops), fun j => if j < midN ops then vf1 j else vf2 (j - midN ops), ?_, ?_, fun j o hj ho => ?_, fun j o hj hj2 ho => ?_, ?_⟩
  · by_cases h0 : 0 < midN ops
    · simp only [h0, if_true]; exact a1
    · have : midN ops = 0 := by omega
      simp only [this, Nat.lt_irrefl, if_false, Nat.sub_zero, b1]
      rw [this] at a3; rw [← a3]; exact a1
  · by_cases h0 : 0 < midN ops
    · simp only [h0, if_true]; exact a2
    · have : midN ops = 0 := by omega
      simp only [this, Nat.lt_irrefl, if_false, Nat.sub_zero, b2]
      rw [this] at a4; rw [← a4]; exact a2
  · have := a5 j o (by rw [List.getElem?_take, if_pos hj]; exact ho)
    rw [Nat.zero_add] at this
    simp only [hj, if_true]
    by_cases h0 : j + 1 < midN ops
    · simp only [h0, if_true]; exact this
    · have e : j + 1 = midN ops := by omega
      simp only [e, Nat.lt_irrefl, if_false, Nat.sub_self, b1, b2]
      rw [e, a3, a4] at this
      exact this
  · have hn1 : ¬ j < midN ops := by omega
    have hn2 : ¬ j + 1 < midN ops := by omega
    simp only [hn1, hn2, if_false]
    have := b5 (j - midN ops) o (by rw [List.getElem?_drop, List.getElem?_take, show midN ops + (j - midN ops) = j by omega, if_pos hj2]; exact ho)
    rwa [show j - midN ops + 1 = j + 1 - midN ops by omega] at this
  · by_cases h0 : freeN ops < midN ops
    · omega
    · simp only [h0, if_false, b3, b4]
      exact h
theorem drawS_ok {P : Program} {ih : Ih} (hS : Sound P ih) (hC : CanonOk ih) {ops : Array Oper} {ts : Ts} {σ : St} {ts' : Ts} {σ' : St} (h : (drawSC P ops).run ih ts σ = some (ts', σ')) :
    Canon σ σ' ∧ ∀ (id : Nat) (μ : Mu) (a : Act) (w : World), TRel μ ts a → Rel μ σ w → Fresh μ σ σ' →
      (Code.region id ops true).wp P (fun e a' w' => e = .normal ∧ Ends μ σ w ts' σ' a' w') a w := by
  obtain ⟨hok, hsq, H, hl⟩ := drawSC_some h
  have hT := text_of hok
  have hple : freeN ops ≤ ops.toList.length := Nat.sub_le _ _
  have hmp : midN ops ≤ freeN ops := by
    have := firstStore_le (ops.toList.take (freeN ops))
    rw [List.length_take, Nat.min_eq_left hple] at this
    exact this
  obtain ⟨tf, sf, vf, a1, a2, hN, hS2, hrest⟩ := lastS_run hC hl
  have chain := keeps_n hN hC (Nat.le_trans hmp hple) 0 (midN ops) (Nat.zero_le _) (Nat.le_refl _)
  have hst := stores_same hS2 hC hple (freeN ops - midN ops) (by omega)
  rw [show midN ops + (freeN ops - midN ops) = freeN ops by omega] at hst
  have hcan : Canon σ σ' := by
    have hk := canon_ops hC _ _ _ _ _ hrest
    rw [a2] at chain
    exact Canon.trans (Canon.trans ⟨chain.size, chain.wr, fun k h1 _ => chain.same k h1, chain.wf⟩ hst.1) hk
  refine ⟨hcan, fun id μ a w tr rel fr => ?_⟩
  refine wp_region_any hT.mixed ?_
  have hsz : (Array.replicate ops.size false).size = ops.toList.length := by simp
  have hrel0 : Rel μ (sf 0) { w with drawn := w.drawn + 1 } := by rw [a2]; exact ⟨rel.wf, rel.blk, rel.apart⟩
  have hstep0 : Step μ μ (sf 0) (sf 0) w { w with drawn := w.drawn + 1 } := ⟨Mu.le.refl _, fun _ _ h => .inl h, Nat.le_refl _, Nat.le_refl _, Nat.le_refl _, rfl, rfl, rfl, fun _ _ _ => rfl, fun _ _ _ => rfl⟩
  have hfr0 : Fresh μ (sf 0) (sf (midN ops)) := by
    rw [a2]
    refine fr.mono ?_
    rw [← hst.2.1]
    exact (canon_ops hC _ _ _ _ _ hrest).size
  have hrelp : Rel μ (sf (midN ops)) { w with drawn := w.drawn + 1 } := hrel0.up chain hfr0
  have hno : ∀ j, (Array.replicate ops.size false).getD j true = true → ¬ j < ops.size := fun j h1 h2 => by
    simp [Array.getD_eq_getD_getElem?, Array.getElem?_replicate, h2] at h1
  have hno' : ∀ j, j < ops.size → (Array.replicate ops.size false).getD j true = false := fun j h2 => by
    simp [Array.getD_eq_getD_getElem?, Array.getElem?_replicate, h2]
  have oplen : ops.size = ops.toList.length := by simp
  have hfin : ∀ a1 w1, Ends μ (sf 0) { w with drawn := w.drawn + 1 } ts' σ' a1 w1 → Ends μ σ w ts' σ' a1 w1 := by
    rintro a1 w1 ⟨μ', t1, t2, t3⟩
    rw [a2] at t3 hstep0
    exact ⟨μ', t1, t2, hstep0.trans t3⟩
  refine draw_any2 (μ0 := μ) (w0 := { w with drawn := w.drawn + 1 }) (n := ts.n) (p := freeN ops) (m := midN ops) (C := (closL ops.toList []).getD (midN ops) 0) (H := H) hT hS hN hS2 hmp (fun _ => rfl) (seqOK_spec hsq) hC hple (by rw [a1]) (by rw [a1]; exact tr.d) hrest (by rw [a2]; exact fr) hrel0.wf (fun a1 w1 he => ⟨rfl, hfin a1 w1 he⟩) ops.size _ a _ hsz ?_ ?_ (.inl ⟨fun j hj hl => absurd (by omega) (hno j hl), μ, 0, ?_⟩)
  · unfold cnt
    rw [← oplen, List.filter_eq_self.2 (fun j hj => by rw [hno' j (by simpa using hj)]; rfl), List.length_range]
  · intro j o ho hl
    have : j < ops.toList.length := (List.getElem?_eq_some_iff.1 ho).1
    exact absurd (by omega) (hno j hl)
  · refine ⟨hrelp, ⟨Mu.le.refl _, fun _ _ h => .inl h, chain.size, chain.wr, Nat.le_refl _, rfl, rfl, rfl, fun _ _ _ => rfl, fun k h1 _ => chain.same k h1⟩, fun j hj _ => ?_, hmp, fun j g1 g2 => ?_, tr.n, tr.df, fun t j o hj ho hd hl => absurd (by omega) (hno j hl), fun t _ => by rw [a1]; exact tr.get t⟩
    · have c1 := keeps_n hN hC (Nat.le_trans hmp hple) 0 j (Nat.zero_le _) (by omega)
      have c2 := keeps_n hN hC (Nat.le_trans hmp hple) (j + 1) (midN ops) (by omega) (Nat.le_refl _)
      intro k h1 h2
      exact hfr0 k (Nat.le_trans c1.size h1) (Nat.lt_of_lt_of_le h2 c2.size)
    · rw [hno' j (by omega)]
      simp; omega
theorem drawW_ok (P : Program) : DrawOk2 P (drawW P) := by
  intro ih hS hC ops ts σ ts' σ' h
  unfold drawW drawWC at h
  split at h
  · exact drawV_ok P ih hS hC ops ts σ ts' σ' (drawC_some h)
  · exact drawS_ok hS hC h
theorem stepW_canon {P : Program} {ih : Ih} (hS : Sound P ih) (hC : CanonOk ih) : CanonOk (stepV P (drawW P) ih) := by
  intro c ts σ ex ts' σ' h
  cases c <;> simp only [stepV] at h
  case skip => cases h; exact Canon.refl _
  case label => cases h; exact Canon.refl _
  case exit => cases h; exact Canon.refl _
  case ret => cases h; exact Canon.refl _
  case region id ops d =>
    split at h
    · rename_i ts1 s1 h1
      cases h
      cases d
      · exact canon_ops hC _ _ _ _ _ h1
      · exact (drawW_ok P ih hS hC _ _ _ _ _ h1).1
    · cases h
  case seq x y =>
    split at h
    · rename_i h1
      exact (hC _ _ _ _ _ _ h1).trans (hC _ _ _ _ _ _ h)
    · exact hC _ _ _ _ _ _ h
  case cond c x y =>
    split at h
    · exact hC _ _ _ _ _ _ h
    · cases h
  case scope b => exact hC _ _ _ _ _ _ h
  case block id b =>
    split at h
    · rename_i h1
      cases h
      exact hC _ _ _ _ _ _ h1
    · exact hC _ _ _ _ _ _ h
  case loop b =>
    split at h
    · rename_i h1
      exact (hC _ _ _ _ _ _ h1).trans (hC _ _ _ _ _ _ h)
    · exact hC _ _ _ _ _ _ h
  all_goals cases h
end
end Go.Proofs.YtcllgicphjmamaaGreat.ev
