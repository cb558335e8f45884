/- The reckoner, made fast: code. -/
import Derived.Test.YtcllgicphjmamaaGreatKv21
namespace Go.Proofs.YtcllgicphjmamaaGreat.ev
open Go.RowKit
set_option linter.unusedSimpArgs false
set_option linter.unusedVariables false
set_option linter.unusedSectionVars false
noncomputable section
variable [Kn]

/-! code -/
structure XC where
  run : Ih → Ts → St → Option (Ex × Ts × St)
def normR (x : Option (Ts × St)) : Option (Ex × Ts × St) :=
  match x with
  | some p => some (.norm, p.1, p.2)
  | none => none
def onNorm (x : Option (Ex × Ts × St)) (k : Ts → St → Option (Ex × Ts × St)) : Option (Ex × Ts × St) :=
  match x with
  | some (.norm, ts, σ) => k ts σ
  | some (.exit id, ts, σ) => some (.exit id, ts, σ)
  | some (.ret, ts, σ) => some (.ret, ts, σ)
  | none => none
def onExit (id : Nat) (x : Option (Ex × Ts × St)) : Option (Ex × Ts × St) :=
  match x with
  | some (.exit id', ts, σ) => match Nat.beq id' id with
    | true => some (.norm, ts, σ)
    | false => some (.exit id', ts, σ)
  | r => r
def onBool (x : Option Value) (t f : Unit → Option (Ex × Ts × St)) : Option (Ex × Ts × St) :=
  match x with
  | some v => match boolOf v with
    | some true => t ()
    | some false => f ()
    | none => none
  | none => none
def stepC (P : Program) (c : Code) : XC :=
  match c with
  | .skip => ⟨fun _ ts σ => some (.norm, ts, σ)⟩
  | .label _ => ⟨fun _ ts σ => some (.norm, ts, σ)⟩
  | .region _ ops true => ⟨fun ih ts σ => normR ((drawWC P ops).run ih ts σ)⟩
  | .region _ ops false => ⟨fun ih ts σ => normR ((opsC P ops ops.toList).run ih ts σ)⟩
  | .seq x y => ⟨fun ih ts σ => onNorm (ih x ts σ) (ih y)⟩
  | .cond c x y => ⟨fun ih ts σ => onBool (evo ts c) (fun _ => ih x ts σ) (fun _ => ih y ts σ)⟩
  | .block id b => ⟨fun ih ts σ => onExit id (ih b ts σ)⟩
  | .loop b => ⟨fun ih ts σ => onNorm (ih b ts σ) (ih (.loop b))⟩
  | .scope b => ⟨fun ih ts σ => ih b ts σ⟩
  | .exit id => ⟨fun _ ts σ => some (.exit id, ts, σ)⟩
  | .ret => ⟨fun _ ts σ => some (.ret, ts, σ)⟩
  | _ => ⟨fun _ _ _ => none⟩
theorem stepC_some {P : Program} {c : Code} {ih : Ih} {ts : Ts} {σ : St} {r : Ex × Ts × St} (h : (stepC P c).run ih ts σ = some r) : stepV P (drawW P) ih c ts σ = some r := by
  cases c <;> simp only [stepC] at h <;> try (exact h) <;> try (cases h; done)
  case region id ops d =>
    cases d
    · simp only at h
      rw [opsC_eq] at h
      simp only [stepV, Bool.false_eq_true, if_false]
      unfold normR at h
      cases ho : opsV P ih ops ops.toList ts σ with
      | none => rw [ho] at h; cases h
      | some p => rw [ho] at h; obtain ⟨a, b⟩ := p; exact h
    · simp only at h
      simp only [stepV, if_true]
      unfold normR at h
      cases ho : (drawWC P ops).run ih ts σ with
      | none => rw [ho] at h; cases h
      | some p =>
        rw [ho] at h
        obtain ⟨a, b⟩ := p
        rw [drawWC_some ho]; exact h
  case seq x y =>
    simp only [stepV]
    unfold onNorm at h
    cases hx : ih x ts σ with
    | none => rw [hx] at h; cases h
    | some p =>
      obtain ⟨e, a, b⟩ := p
      rw [hx] at h
      cases e <;> exact h
  case cond c x y =>
    simp only [stepV]
    unfold onBool at h
    cases hc : evo ts c with
    | none => rw [hc] at h; cases h
    | some v =>
      rw [hc] at h
      simp only at h
      cases v <;> simp only [boolOf] at h <;> try (cases h; done)
      rename_i b
      cases b <;> exact h
  case block id b =>
    simp only [stepV]
    unfold onExit at h
    cases hx : ih b ts σ with
    | none => rw [hx] at h; cases h
    | some p =>
      obtain ⟨e, a, b⟩ := p
      rw [hx] at h
      cases e with
      | norm => exact h
      | ret => exact h
      | exit id' =>
        simp only at h ⊢
        by_cases he : id' = id
        · subst he
          rw [show Nat.beq id' id' = true from by simp] at h
          simpa using h
        · rw [show Nat.beq id' id = false from by rw [Bool.eq_false_iff]; intro h2; exact he (Nat.eq_of_beq_eq_true h2)] at h
          simpa [he] using h
  case loop b =>
    simp only [stepV]
    unfold onNorm at h
    cases hx : ih b ts σ with
    | none => rw [hx] at h; cases h
    | some p =>
      obtain ⟨e, a, b⟩ := p
      rw [hx] at h
      cases e <;> exact h
/-! the fast reckoner -/
theorem fam_loop {P : Program} {F : Nat → Ih} (h0 : ∀ c ts σ, F 0 c ts σ = none) (hF : ∀ k c ts σ r, F (k + 1) c ts σ = some r → stepV P (drawW P) (F k) c ts σ = some r) {n : Nat} (hall : ∀ m, m ≤ n → Sound P (F m) ∧ SizeOk (F m)) (b : Code) (ts : Ts) (σ : St) (ex : Ex) (ts' : Ts) (σ' : St) (h : stepV P (drawW P) (F n) (.loop b) ts σ = some (ex, ts', σ')) (μ : Mu) (a : Act) (w : World) (hT : TRel μ ts a) (hR : Rel μ σ w) (hf : Fresh μ σ σ') :
    (Code.loop b).wp P (fun e a' w' => e = ex.of ∧ Ends μ σ w ts' σ' a' w') a w := by
  refine wp_loop_ind (n := n) (fun k a1 w1 => k ≤ n ∧ ∃ ts1 σ1 μ1, stepV P (drawW P) (F k) (.loop b) ts1 σ1 = some (ex, ts', σ') ∧ TRel μ1 ts1 a1 ∧ Rel μ1 σ1 w1 ∧ Fresh μ1 σ1 σ' ∧ Step μ μ1 σ σ1 w w1) ?_ ⟨Nat.le_refl n, ts, σ, μ, h, hT, hR, hf, Step.refl _ _ _⟩
  rintro k a1 w1 ⟨hk, ts1, σ1, μ1, h1, hT1, hR1, hf1, hs1⟩
  obtain ⟨hS, hz⟩ := hall k hk
  simp only [stepV] at h1
  split at h1
  · rename_i ts2 s2 hb
    have hs2 := hz _ _ _ _ _ _ h1
    refine Code.wp_mono ?_ (hS _ _ _ _ _ _ hb μ1 a1 w1 hT1 hR1 (hf1.mono hs2))
    rintro e a2 w2 ⟨rfl, μ2, t1, t2, t3⟩
    cases k with
    | zero => rw [h0] at h1; cases h1
    | succ k => exact ⟨k, by omega, by omega, ts2, s2, μ2, hF k _ _ _ _ h1, t1, t2, t3.fresh hf1, hs1.trans t3⟩
  · rename_i hn
    refine Code.wp_mono ?_ (hS _ _ _ _ _ _ h1 μ1 a1 w1 hT1 hR1 hf1)
    rintro e a2 w2 ⟨rfl, μ2, t1, t2, t3⟩
    cases ex with
    | norm => exact absurd h1 (hn _ _)
    | exit id => exact ⟨rfl, μ2, t1, t2, hs1.trans t3⟩
    | ret => exact ⟨rfl, μ2, t1, t2, hs1.trans t3⟩
def fv (P : Program) (n : Nat) : Ih := Nat.rec (motive := fun _ => Ih) (fun _ _ _ => none) (fun _ ih c ts σ => (stepC P c).run ih ts σ) n
class KnowOk (P : Program) : Prop where
  ok : KnOk P
theorem fv_ok (P : Program) [KnowOk P] (n : Nat) : Sound P (fv P n) ∧ CanonOk (fv P n) := by
  have hF : ∀ k c ts σ r, fv P (k + 1) c ts σ = some r → stepV P (drawW P) (fv P k) c ts σ = some r := fun k c ts σ r h => stepC_some h
  induction n using Nat.strongRecOn with
  | _ n ih =>
    cases n with
    | zero => exact ⟨⟨KnowOk.ok, fun c ts σ ex ts' σ' h => by cases h⟩, fun c ts σ ex ts' σ' h => by cases h⟩
    | succ n =>
      obtain ⟨hS, hz⟩ := ih n (by omega)
      have hd : DrawAt P (drawW P) (fv P n) := fun ops ts σ ts' σ' h => by
        obtain ⟨h1, h2⟩ := drawW_ok P _ hS hz ops ts σ ts' σ' h
        exact ⟨h1.size, h2⟩
      have hall : ∀ m, m ≤ n → Sound P (fv P m) ∧ SizeOk (fv P m) := fun m hm => ⟨(ih m (by omega)).1, (ih m (by omega)).2.size⟩
      have hs1 : Sound P (stepV P (drawW P) (fv P n)) := stepV_sound hd hS hz.size fun b ts σ ex ts' σ' h => fam_loop (F := fv P) (fun _ _ _ => rfl) hF hall b ts σ ex ts' σ' h
      exact ⟨⟨KnowOk.ok, fun c ts σ ex ts' σ' h => hs1 c ts σ ex ts' σ' (hF n c ts σ _ h)⟩, fun c ts σ ex ts' σ' h => stepW_canon hS hz c ts σ ex ts' σ' (hF n c ts σ _ h)⟩
/-! closed runs -/
def saysYes (P : Program) (n : Nat) (g : FuncId) : Bool :=
  match callF P (fv P n) g [] st0 with
  | some p => match boolOf p.1 with
    | some b => b
    | none => false
  | none => false
theorem calls_yes {P : Program} [KnowOk P] {n : Nat} {g : FuncId} (h : saysYes P n g = true) (w : World) : Calls P g #[] w fun e w' => e = .returned (.bool true) ∧ Below w.heap.size w w' := by
  have hc : ∃ σ', callF P (fv P n) g [] st0 = some (.bool true, σ') := by
    unfold saysYes at h
    split at h
    · rename_i p hp
      obtain ⟨v, s⟩ := p
      cases v <;> simp [boolOf] at h
      subst h
      exact ⟨s, hp⟩
    · cases h
  obtain ⟨σ', hc⟩ := hc
  refine (callF_calls (fv_ok P n).1 hc (μ := mu0) .nil (rel0 w) (fun j _ _ => rfl)).mono ?_
  rintro e w' ⟨μ', v', rfl, g1, g2, g3⟩
  exact ⟨by rw [scalar_eq (by rfl) g1], g3.below⟩
end
end Go.Proofs.YtcllgicphjmamaaGreat.ev
