/- The reckoner: a body step by step. -/
import Derived.Test.YtcllgicphjmamaaGreatKv15
namespace Go.Proofs.YtcllgicphjmamaaGreat.ev
noncomputable section
open Go.RowKit
set_option linter.unusedSimpArgs false
set_option linter.unusedVariables false
set_option linter.unusedSectionVars false
variable [Kn]

def hdC : Code → Code
  | .seq x _ => x
  | c => c
def tlC : Code → Code
  | .seq _ y => y
  | c => c
def tlN : Nat → Code → Code
  | 0, c => c
  | n + 1, c => tlN n (tlC c)
def isSeq : Code → Bool
  | .seq _ _ => true
  | _ => false
def bodyOf (P : Program) (g : FuncId) : Code := match fdOf P g with
  | some fd => fd.body
  | none => .skip
def okFd (P : Program) (g : FuncId) : Bool := match fdOf P g with
  | some fd => Nat.ble fd.ntmps 512
  | none => false
def tmpsOf (P : Program) (g : FuncId) : Nat := match fdOf P g with
  | some fd => fd.ntmps
  | none => 0
def tpNorm (ks : List Nat) (x : Option (Ex × Ts × St)) : Option (Ts × St) :=
  match x with
  | some (.norm, t, s) => some (t, keepS ks s)
  | _ => none
/-- the first part of what is left of a body -/
theorem at_step {P : Program} [KnowOk P] {n : Nat} {b : Code} {ks : List Nat} {ts ts' : Ts} {σ σ' : St} {w0 : World} {Q : Exit → Act → World → Prop} (hb : isSeq b = true) (h : tpNorm ks (fv P n (hdC b) ts σ) = some (ts', σ')) {a : Act} {w : World} (ha : At ts σ w0 a w)
    (hQ : ∀ a' w', At ts' σ' w0 a' w' → (tlC b).wp P Q a' w') : b.wp P Q a w := by
  cases b <;> simp only [isSeq, Bool.false_eq_true] at hb
  rename_i x y
  simp only [hdC, tlC] at h hQ
  refine wp_seq ?_
  cases hx : fv P n x ts σ with
  | none => rw [hx] at h; cases h
  | some p =>
    obtain ⟨e, t, s⟩ := p
    rw [hx] at h
    cases e with
    | norm =>
      simp only [tpNorm, Option.some.injEq, Prod.mk.injEq] at h
      obtain ⟨rfl, rfl⟩ := h
      exact at_code (ks := ks) (ex := .norm) (by rw [hx]; rfl) ha hQ
    | exit id => cases h
    | ret => cases h
def lastOk (P : Program) (g : FuncId) (x : Option (Ex × Ts × St)) : Bool :=
  match x with
  | some (.ret, t, s) => match fdOf P g with
    | some fd => match resultsV P s t fd.results with
      | some [.bool true] => true
      | _ => false
    | none => false
  | _ => false
/-- what a body is to end in: it returns true -/
def Says (P : Program) (g : FuncId) (w : World) : Exit → Act → World → Prop := fun e a' w' => (e = .normal ∨ e = .ret) ∧ ∃ ts' σ', At ts' σ' w a' w' ∧ ∀ fd, fdOf P g = some fd → resultsV P σ' ts' fd.results = some [.bool true]
theorem at_last {P : Program} [KnowOk P] {n : Nat} {g : FuncId} {b : Code} {ts : Ts} {σ : St} {w0 : World} (h : lastOk P g (fv P n b ts σ) = true) {a : Act} {w : World} (ha : At ts σ w0 a w) : b.wp P (Says P g w0) a w := by
  cases hx : fv P n b ts σ with
  | none => rw [hx] at h; cases h
  | some p =>
    obtain ⟨e, t, s⟩ := p
    rw [hx] at h
    obtain ⟨μ, t1, t2, t3, t4⟩ := ha
    refine Code.wp_mono ?_ ((fv_ok P n).1 _ _ _ _ _ _ hx μ a w t1 t2 (At.fresh t3))
    rintro e' a' w' ⟨rfl, he⟩
    unfold lastOk at h
    split at h
    · rename_i heq
      cases heq
      split at h
      · rename_i fd hfd
        refine ⟨.inr rfl, _, _, At.ends t3 t4 he, fun fd' hfd' => ?_⟩
        rw [hfd] at hfd'
        cases hfd'
        split at h
        · assumption
        · cases h
      · cases h
    · cases h
theorem calls_says {P : Program} [KnowOk P] {g : FuncId} {nt : Nat} (hn : tmpsOf P g = nt) (hs : okFd P g = true) (w : World) (hb : ∀ a, At (frameT nt []) st0 w a w → (bodyOf P g).wp P (Says P g w) a w) :
    Calls P g #[] w fun e w' => e = .returned (.bool true) ∧ Below w.heap.size w w' := by
  obtain ⟨fd, hfd, hcap⟩ : ∃ fd, fdOf P g = some fd ∧ fd.ntmps ≤ 512 := by
    unfold okFd at hs
    cases h : fdOf P g with
    | none => rw [h] at hs; cases hs
    | some fd => rw [h] at hs; exact ⟨fd, rfl, Nat.le_of_ble_eq_true hs⟩
  unfold tmpsOf at hn
  unfold bodyOf at hb
  rw [hfd] at hn hb
  simp only at hn hb
  subst hn
  refine calls_at hfd hcap w fun a ha => Code.wp_mono ?_ (hb a ha)
  rintro e a' w' ⟨h1, ts', σ', h2, h3⟩
  exact ⟨h1, ts', σ', h2, h3 fd hfd⟩
theorem tlN_tl : ∀ (i : Nat) (c : Code), tlC (tlN i c) = tlN (i + 1) c
  | 0, c => rfl
  | i + 1, c => tlN_tl i (tlC c)
/-- the step number i of a body -/
theorem at_nth {P : Program} [KnowOk P] {n i : Nat} {b : Code} {ks : List Nat} {ts ts' : Ts} {σ σ' : St} {w0 : World} {Q : Exit → Act → World → Prop} (hb : isSeq (tlN i b) = true) (h : tpNorm ks (fv P n (hdC (tlN i b)) ts σ) = some (ts', σ')) {a : Act} {w : World} (ha : At ts σ w0 a w)
    (hQ : ∀ a' w', At ts' σ' w0 a' w' → (tlN (i + 1) b).wp P Q a' w') : (tlN i b).wp P Q a w :=
  at_step hb h ha fun a' w' h' => by rw [tlN_tl]; exact hQ a' w' h'
end
end Go.Proofs.YtcllgicphjmamaaGreat.ev
