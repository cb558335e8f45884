/- The reckoner: regions that draw their order and end in stores. What may come after one of these stores is reckoned in a memory without what they write. -/
import Derived.Test.YtcllgicphjmamaaGreatKv14
namespace Go.Proofs.YtcllgicphjmamaaGreat.ev
noncomputable section
open Go.RowKit
set_option linter.unusedSimpArgs false
set_option linter.unusedVariables false
set_option linter.unusedSectionVars false
variable [Kn]

/-! lists of blocks -/
def isStore : Op → Bool
  | .store .. => true
  | _ => false
def memN (k : Nat) : List Nat → Bool
  | [] => false
  | h :: l => match Nat.beq h k with
    | true => true
    | false => memN k l
theorem memN_mem {k : Nat} : ∀ {l : List Nat}, memN k l = true → k ∈ l
  | [], h => by simp [memN] at h
  | x :: l, h => by
    simp only [memN] at h
    split at h
    · rename_i hb; rw [Nat.eq_of_beq_eq_true hb]; simp
    · exact List.mem_cons_of_mem _ (memN_mem h)
def subN : List Nat → List Nat → Bool
  | [], _ => true
  | k :: l, H => match memN k H with
    | true => subN l H
    | false => false
theorem subN_mem {H : List Nat} : ∀ {l : List Nat}, subN l H = true → ∀ k ∈ l, k ∈ H
  | [], h, k, hk => by simp at hk
  | x :: l, h, k, hk => by
    simp only [subN] at h
    split at h
    · rename_i hb
      rcases List.mem_cons.1 hk with rfl | hk
      · exact memN_mem hb
      · exact subN_mem h k hk
    · cases h
def belowN (n : Nat) : List Nat → List Nat
  | [] => []
  | k :: l => match Nat.blt k n with
    | true => k :: belowN n l
    | false => belowN n l
theorem mem_belowN {n k : Nat} : ∀ {l : List Nat}, k ∈ belowN n l ↔ k ∈ l ∧ k < n
  | [] => by simp [belowN]
  | x :: l => by
    simp only [belowN]
    split
    · rename_i hb
      have := blt_lt hb
      simp only [List.mem_cons, mem_belowN (l := l)]
      constructor
      · rintro (rfl | ⟨a, b⟩)
        · exact ⟨.inl rfl, this⟩
        · exact ⟨.inr a, b⟩
      · rintro ⟨rfl | a, b⟩
        · exact .inl rfl
        · exact .inr ⟨a, b⟩
    · rename_i hb
      have : ¬ x < n := fun h => by rw [blt_true h] at hb; cases hb
      simp only [List.mem_cons, mem_belowN (l := l)]
      constructor
      · rintro ⟨a, b⟩; exact ⟨.inr a, b⟩
      · rintro ⟨rfl | a, b⟩
        · exact absurd b this
        · exact ⟨a, b⟩
def okN (a b : Nat) : List Nat → Bool
  | [] => true
  | k :: l => match Nat.blt k a with
    | true => okN a b l
    | false => match Nat.ble b k with
      | true => okN a b l
      | false => false
theorem okN_mem {a b : Nat} : ∀ {l : List Nat}, okN a b l = true → ∀ k ∈ l, k < a ∨ b ≤ k
  | [], h, k, hk => by simp at hk
  | x :: l, h, k, hk => by
    simp only [okN] at h
    split at h
    · rename_i hb
      rcases List.mem_cons.1 hk with rfl | hk
      · exact .inl (blt_lt hb)
      · exact okN_mem h k hk
    · split at h
      · rename_i hb
        rcases List.mem_cons.1 hk with rfl | hk
        · exact .inr (Nat.le_of_ble_eq_true hb)
        · exact okN_mem h k hk
      · cases h
def forceNs {β : Type} : List Nat → (List Nat → β) → β
  | [], k => k []
  | x :: l, k => forceN x fun x => forceNs l fun l => k (x :: l)
theorem forceNs_eq {β : Type} : ∀ (l : List Nat) (k : List Nat → β), forceNs l k = k l
  | [], k => rfl
  | x :: l, k => by rw [forceNs, forceN_eq, forceNs_eq l]

/-! a memory without some blocks, and these put back -/
def cutS (σ : St) (H : List Nat) : St := { heap := (killL σ H).heap, size := σ.size, wr := 65536 }
theorem getB_cutS (σ : St) (H : List Nat) (k : Nat) : (cutS σ H).getB k = if k ∈ H then none else σ.getB k := by
  show (killL σ H).getB k = _
  exact getB_killL H σ k
def backL (σ s : St) : List Nat → St
  | [] => s
  | k :: l => match σ.getB k with
    | some B => (backL σ s l).setB k B
    | none => backL σ s l
theorem backL_size (σ s : St) : ∀ l, (backL σ s l).size = s.size ∧ (backL σ s l).wr = s.wr
  | [] => ⟨rfl, rfl⟩
  | k :: l => by
    unfold backL
    split
    · exact ⟨(backL_size σ s l).1, (backL_size σ s l).2⟩
    · exact backL_size σ s l
theorem getB_backL (σ s : St) (b : Nat) : ∀ l, (∀ k ∈ l, σ.getB k = none → s.getB k = none) → (backL σ s l).getB b = if b ∈ l then σ.getB b else s.getB b
  | [], _ => by simp [backL]
  | k :: l, h => by
    have ih := getB_backL σ s b l fun j hj => h j (by simp [hj])
    unfold backL
    split
    · rename_i B hB
      rw [St.getB_setB _ k b B (St.getB_lt hB), ih]
      by_cases e : b = k
      · subst e; simp [hB, St.getB_alive hB]
      · simp [e]
    · rename_i hB
      rw [ih]
      by_cases e : b = k
      · subst e
        have := h b (by simp) hB
        simp [hB, this]
      · simp [e]

/-! the operations before the stores -/
def NStep (P : Program) (ih : Ih) (all : Array Oper) (C : Nat) (H : List Nat) (j : Nat) (o : Oper) (ts : Ts) (σ : St) (v : Value) (ts' : Ts) (σ' : St) : Prop :=
  ts' = putV ts o.dst v ∧ ((wantedV all ts o = true ∧ ∃ Hl s1, (C.testBit j = false → Hl = belowN σ.size H ∧ ∀ h ∈ H, h < σ.size ∨ s1.size ≤ h) ∧ (∀ h ∈ Hl, h < σ.size) ∧ opV P ih ts (cutS σ Hl) o = some (v, s1) ∧ σ.size ≤ s1.wr ∧ σ'.size = s1.size ∧ σ'.wr = min σ.wr s1.wr ∧ ∀ b, σ'.getB b = if b ∈ Hl then σ.getB b else s1.getB b) ∨ (wantedV all ts o = false ∧ v = undef ∧ σ' = σ))
def q2C (P : Program) (all : Array Oper) (C : Nat) (H : List Nat) : List Oper → Nat → RC
  | [], _ => ⟨fun _ ts σ => some (ts, σ)⟩
  | o :: rest, j => ⟨fun ih ts σ => match wantedV all ts o with
    | true => match Nat.testBit C j with
      | true => match (opC P o).run ih ts { heap := σ.heap, size := σ.size, wr := 65536 } with
        | some (v, s) => match Nat.ble σ.size s.wr with
          | true => forceV v fun v => forceS { heap := s.heap, size := s.size, wr := min σ.wr s.wr } fun s => forceT (putV ts o.dst v) fun ts => (q2C P all C H rest (j + 1)).run ih ts s
          | false => none
        | none => none
      | false => match (opC P o).run ih ts (cutS σ (belowN σ.size H)) with
        | some (v, s) => match Nat.ble σ.size s.wr with
          | true => match okN σ.size s.size H with
            | true => forceV v fun v => forceS { heap := (backL σ s (belowN σ.size H)).heap, size := s.size, wr := min σ.wr s.wr } fun s => forceT (putV ts o.dst v) fun ts => (q2C P all C H rest (j + 1)).run ih ts s
            | false => none
          | false => none
        | none => none
    | false => (q2C P all C H rest (j + 1)).run ih (putV ts o.dst undef) σ⟩
theorem q2C_run {P : Program} {ih : Ih} (hC : CanonOk ih) {all : Array Oper} {C : Nat} {H : List Nat} : ∀ (l : List Oper) (j0 : Nat) (ts : Ts) (σ : St) (ts' : Ts) (σ' : St), (q2C P all C H l j0).run ih ts σ = some (ts', σ') →
    ∃ (tf : Nat → Ts) (sf : Nat → St) (vf : Nat → Value), tf 0 = ts ∧ sf 0 = σ ∧ tf l.length = ts' ∧ sf l.length = σ' ∧ ∀ j o, l[j]? = some o → NStep P ih all C H (j0 + j) o (tf j) (sf j) (vf j) (tf (j + 1)) (sf (j + 1))
  | [], j0, ts, σ, ts', σ', h => by
    simp [q2C] at h
    obtain ⟨rfl, rfl⟩ := h
    exact ⟨fun _ => ts, fun _ => σ, fun _ => undef, rfl, rfl, rfl, rfl, fun j o h => by simp at h⟩
  | o :: rest, j0, ts, σ, ts', σ', h => by
    have build : ∀ (v : Value) (ts1 : Ts) (s1 : St), NStep P ih all C H j0 o ts σ v ts1 s1 → (q2C P all C H rest (j0 + 1)).run ih ts1 s1 = some (ts', σ') →
        ∃ (tf : Nat → Ts) (sf : Nat → St) (vf : Nat → Value), tf 0 = ts ∧ sf 0 = σ ∧ tf (o :: rest).length = ts' ∧ sf (o :: rest).length = σ' ∧ ∀ j o', (o :: rest)[j]? = some o' → NStep P ih all C H (j0 + j) o' (tf j) (sf j) (vf j) (tf (j + 1)) (sf (j + 1)) := by
      intro v ts1 s1 hq hr
      obtain ⟨tf, sf, vf, a1, a2, a3, a4, a5⟩ := q2C_run hC rest (j0 + 1) ts1 s1 ts' σ' hr
      refine ⟨fun j => match j with | 0 => ts | j + 1 => tf j, fun j => match j with | 0 => σ | j + 1 => sf j, fun j => match j with | 0 => v | j + 1 => vf j, rfl, rfl, a3, a4, fun j o' hj => ?_⟩
      cases j with
      | zero =>
        simp at hj
        subst hj
        show NStep P ih all C H j0 o ts σ v (tf 0) (sf 0)
        rw [a1, a2]; exact hq
      | succ j =>
        have := a5 j o' (by simpa using hj)
        rwa [show j0 + 1 + j = j0 + (j + 1) by omega] at this
    simp only [q2C, opC_eq] at h
    split at h
    · rename_i hw
      split at h
      · rename_i hbit
        split at h
        case h_2 => cases h
        rename_i v s1 hop
        split at h
        case h_2 => cases h
        rename_i hs
        simp only [forceV_eq, forceS_eq, forceT_eq] at h
        refine build v _ { heap := s1.heap, size := s1.size, wr := min σ.wr s1.wr } ⟨rfl, .inl ⟨hw, [], s1, fun hb => ?_, by simp, hop, Nat.le_of_ble_eq_true hs, rfl, rfl, fun b => ?_⟩⟩ h
        · rw [hbit] at hb; cases hb
        · simp [St.getB]
      · rename_i hbit
        split at h
        case h_2 => cases h
        rename_i v s1 hop
        split at h
        case h_2 => cases h
        rename_i hs
        split at h
        case h_2 => cases h
        rename_i hk
        simp only [forceV_eq, forceS_eq, forceT_eq] at h
        refine build v _ { heap := (backL σ s1 (belowN σ.size H)).heap, size := s1.size, wr := min σ.wr s1.wr } ⟨rfl, .inl ⟨hw, belowN σ.size H, s1, fun _ => ⟨rfl, okN_mem hk⟩, fun h hh => (mem_belowN.1 hh).2, hop, Nat.le_of_ble_eq_true hs, rfl, rfl, fun b => ?_⟩⟩ h
        have hc := canon_op hC hop
        have := getB_backL σ s1 b (belowN σ.size H) fun k hk2 hn => by
          have hlt := (mem_belowN.1 hk2).2
          rw [hc.same k hlt (Nat.lt_of_lt_of_le hlt (Nat.le_of_ble_eq_true hs)), getB_cutS, if_pos hk2]
        rw [← this]; simp [St.getB]
    · rename_i hw
      exact build undef _ _ ⟨rfl, .inr ⟨hw, rfl, rfl⟩⟩ h
theorem NStep.keeps {P : Program} {ih : Ih} (hC : CanonOk ih) {all : Array Oper} {C : Nat} {H : List Nat} {j : Nat} {o : Oper} {ts ts' : Ts} {σ σ' : St} {v : Value} (h : NStep P ih all C H j o ts σ v ts' σ') : Keeps σ σ' := by
  obtain ⟨_, ⟨_, Hl, s1, _, hHl, h1, h2, h3, h4, h5⟩ | ⟨_, _, rfl⟩⟩ := h
  · have hc := canon_op hC h1
    have hsz : σ.size ≤ s1.size := hc.size
    refine ⟨by rw [h3]; exact hsz, by rw [h4]; exact Nat.min_le_left _ _, fun k hk => ?_, fun hw k B hB => ?_⟩
    · rw [h5]
      by_cases e : k ∈ Hl
      · rw [if_pos e]
      · rw [if_neg e, hc.same k hk (Nat.lt_of_lt_of_le hk h2), getB_cutS, if_neg e]
    · rw [h5] at hB
      rw [h3]
      by_cases e : k ∈ Hl
      · have := hHl k e; omega
      · rw [if_neg e] at hB
        refine hc.wf (fun k' B' hB' => ?_) k B hB
        rw [getB_cutS] at hB'
        split at hB'
        · cases hB'
        · exact hw k' B' hB'
  · exact Keeps.refl _

/-! the stores -/
def tgt (ts : Ts) (σ : St) (all : Array Oper) (o : Oper) : List Nat :=
  match wantedV all ts o with
  | true => match o.op with
    | .store _ x _ => match evo ts x with
      | some v => match ptrP v with
        | some p => match σ.getB p.1 with
          | some B => p.1 :: B.anc
          | none => []
        | none => []
      | none => []
    | _ => []
  | false => []
def tgts (ts : Ts) (σ : St) (all : Array Oper) : List Oper → List Nat
  | [] => []
  | o :: l => tgt ts σ all o ++ tgts ts σ all l
def SStep (P : Program) (ih : Ih) (all : Array Oper) (H : List Nat) (o : Oper) (ts : Ts) (σ : St) (v : Value) (ts' : Ts) (σ' : St) : Prop :=
  ts' = putV ts o.dst v ∧ ((wantedV all ts o = true ∧ opV P ih ts σ o = some (v, σ') ∧ σ'.size = σ.size ∧ ∀ b, b ∉ H → σ'.getB b = σ.getB b) ∨ (wantedV all ts o = false ∧ v = undef ∧ σ' = σ))
def sC (P : Program) (all : Array Oper) (H : List Nat) : List Oper → RC
  | [] => ⟨fun _ ts σ => some (ts, σ)⟩
  | o :: rest => ⟨fun ih ts σ => match wantedV all ts o with
    | true => match isStore o.op with
      | true => match subN (tgt ts σ all o) H with
        | true => match (opC P o).run ih ts σ with
          | some (v, s) => match Nat.beq s.size σ.size with
            | true => forceV v fun v => forceS s fun s => forceT (putV ts o.dst v) fun ts => (sC P all H rest).run ih ts s
            | false => none
          | none => none
        | false => none
      | false => none
    | false => (sC P all H rest).run ih (putV ts o.dst undef) σ⟩
theorem store_changes {P : Program} {ih : Ih} {all : Array Oper} {ts : Ts} {σ σ' : St} {o : Oper} {v : Value} {H : List Nat} (hw : wantedV all ts o = true) (hs : isStore o.op = true) (ht : subN (tgt ts σ all o) H = true) (h : opV P ih ts σ o = some (v, σ')) : ∀ b, b ∉ H → σ'.getB b = σ.getB b := by
  intro b hb
  cases ho : o.op <;> rw [ho] at hs <;> simp only [isStore] at hs <;> try (cases hs; done)
  rename_i t x y
  have hcall : callOf P ts o = none := by unfold callOf; rw [ho]
  unfold opV at h
  rw [hcall] at h
  simp only at h
  unfold exec at h
  rw [ho] at h
  simp only at h
  unfold xStore at h
  split at h
  case h_2 => cases h
  rename_i k off u hx hy
  unfold xUnit at h
  split at h
  case h_2 => cases h
  rename_i s hst
  simp only [Option.some.injEq, Prod.mk.injEq] at h
  obtain ⟨_, rfl⟩ := h
  have hsub := subN_mem ht
  unfold tgt at hsub
  simp only [hw, ho, hx, ptrP] at hsub
  unfold storeB at hst
  simp only [forceL_eq] at hst
  split at hst
  case h_2 => cases hst
  rename_i B hB
  simp only [hB] at hsub
  split at hst
  case h_2 => cases hst
  split at hst
  · simp only [Option.some.injEq] at hst
    subst hst
    rw [St.getB_write σ k b B _ (St.getB_lt hB) (St.getB_alive hB)]
    have e1 : b ≠ k := fun e => hb (e ▸ hsub k (by simp))
    have e2 : b ∉ B.anc := fun e => hb (hsub b (by simp [e]))
    rw [if_neg e1, if_neg e2]
  · cases hst
theorem sC_run {P : Program} {ih : Ih} {all : Array Oper} {H : List Nat} : ∀ (l : List Oper) (ts : Ts) (σ : St) (ts' : Ts) (σ' : St), (sC P all H l).run ih ts σ = some (ts', σ') →
    ∃ (tf : Nat → Ts) (sf : Nat → St) (vf : Nat → Value), tf 0 = ts ∧ sf 0 = σ ∧ tf l.length = ts' ∧ sf l.length = σ' ∧ ∀ j o, l[j]? = some o → SStep P ih all H o (tf j) (sf j) (vf j) (tf (j + 1)) (sf (j + 1))
  | [], ts, σ, ts', σ', h => by
    simp [sC] at h
    obtain ⟨rfl, rfl⟩ := h
    exact ⟨fun _ => ts, fun _ => σ, fun _ => undef, rfl, rfl, rfl, rfl, fun j o h => by simp at h⟩
  | o :: rest, ts, σ, ts', σ', h => by
    have build : ∀ (v : Value) (ts1 : Ts) (s1 : St), SStep P ih all H o ts σ v ts1 s1 → (sC P all H rest).run ih ts1 s1 = some (ts', σ') →
        ∃ (tf : Nat → Ts) (sf : Nat → St) (vf : Nat → Value), tf 0 = ts ∧ sf 0 = σ ∧ tf (o :: rest).length = ts' ∧ sf (o :: rest).length = σ' ∧ ∀ j o', (o :: rest)[j]? = some o' → SStep P ih all H o' (tf j) (sf j) (vf j) (tf (j + 1)) (sf (j + 1)) := by
      intro v ts1 s1 hq hr
      obtain ⟨tf, sf, vf, a1, a2, a3, a4, a5⟩ := sC_run rest ts1 s1 ts' σ' hr
      refine ⟨fun j => match j with | 0 => ts | j + 1 => tf j, fun j => match j with | 0 => σ | j + 1 => sf j, fun j => match j with | 0 => v | j + 1 => vf j, rfl, rfl, a3, a4, fun j o' hj => ?_⟩
      cases j with
      | zero =>
        simp at hj
        subst hj
        show SStep P ih all H o ts σ v (tf 0) (sf 0)
        rw [a1, a2]; exact hq
      | succ j => exact a5 j o' (by simpa using hj)
    simp only [sC, opC_eq] at h
    split at h
    · rename_i hw
      split at h
      case h_2 => cases h
      rename_i hst
      split at h
      case h_2 => cases h
      rename_i hsub
      split at h
      case h_2 => cases h
      rename_i v s1 hop
      split at h
      case h_2 => cases h
      rename_i hsz
      simp only [forceV_eq, forceS_eq, forceT_eq] at h
      exact build v _ _ ⟨rfl, .inl ⟨hw, hop, Nat.eq_of_beq_eq_true hsz, store_changes hw hst hsub hop⟩⟩ h
    · rename_i hw
      exact build undef _ _ ⟨rfl, .inr ⟨hw, rfl, rfl⟩⟩ h
theorem SStep.canon {P : Program} {ih : Ih} (hC : CanonOk ih) {all : Array Oper} {H : List Nat} {o : Oper} {ts ts' : Ts} {σ σ' : St} {v : Value} (h : SStep P ih all H o ts σ v ts' σ') : Canon σ σ' ∧ σ'.size = σ.size ∧ ∀ b, b ∉ H → σ'.getB b = σ.getB b := by
  obtain ⟨_, ⟨_, h1, h2, h3⟩ | ⟨_, _, rfl⟩⟩ := h
  · exact ⟨canon_op hC h1, h2, h3⟩
  · exact ⟨Canon.refl _, rfl, fun _ _ => rfl⟩
end
end Go.Proofs.YtcllgicphjmamaaGreat.ev
