/- The reckoner: operations told apart, code, calls. -/
import Derived.Test.YtlnpibboemphnaaGreatQa9
import Derived.Scope

namespace Go.Proofs.YtlnpibboemphnaaGreat.ev
noncomputable section
open Go.RowKit
set_option linter.unusedSimpArgs false
set_option linter.unusedVariables false
set_option linter.unusedSectionVars false

/-! the other builtins -/
def lenV (P : Program) (t : TypeId) (v : Value) : Option Value :=
  match P.underlying t, v with
  | some (.slice _), .slice _ n _ => some (.int .i64 n)
  | _, _ => none
theorem lenV_does {P : Program} {μ : Mu} {σ : St} {w : World} {t ty : TypeId} {v v' r : Value} (hR : Rel μ σ w) (hv : VRel μ v v') (he : lenV P t v = some r) : DoesV P μ σ w (Builtin.len_ #[t] ty #[v']) r σ := by
  unfold lenV at he
  split at he
  · rename_i e q n c hu
    simp only [Option.some.injEq] at he
    subst he
    have : ∃ q' c', v' = .slice q' n c' := by cases hv <;> exact ⟨_, _, rfl⟩
    obtain ⟨q', c', rfl⟩ := this
    exact ⟨μ, _, w, by simp [Builtin.len_, run_underlying hu]; rfl, .sc _ rfl, hR, Step.refl _ _ _⟩
  · cases he
def capV (P : Program) (t : TypeId) (v : Value) : Option Value :=
  match P.underlying t, v with
  | some (.slice _), .slice _ n c => if c < opn then some (.int .i64 c) else none
  | _, _ => none
theorem capV_does {P : Program} {μ : Mu} {σ : St} {w : World} {t ty : TypeId} {v v' r : Value} (hR : Rel μ σ w) (hv : VRel μ v v') (he : capV P t v = some r) : DoesV P μ σ w (Builtin.cap_ #[t] ty #[v']) r σ := by
  unfold capV at he
  split at he
  · rename_i e q n c hu
    split at he
    · rename_i hc
      simp only [Option.some.injEq] at he
      subst he
      have : ∃ q' n', v' = .slice q' n' c := by
        cases hv with
        | sc v h => exact ⟨_, _, rfl⟩
        | slc k o n c L h hc => exact ⟨_, _, rfl⟩
        | slo k o n c L h hn hs => omega
        | sle k o o' L h hs => omega
      obtain ⟨q', n', rfl⟩ := this
      exact ⟨μ, _, w, by simp [Builtin.cap_, run_underlying hu]; rfl, .sc _ rfl, hR, Step.refl _ _ _⟩
    · cases he
  · cases he
def copyV (P : Program) (σ : St) (t : TypeId) (d s : Value) : Option (Value × St) :=
  match P.underlying t with
  | some (.slice e) => match P.info? e with
    | some i => match d, s with
      | .slice (some ⟨k, o, none⟩) l c, .slice sq m sc =>
        if Nat.min m l = 0 then some (.int .i64 0, σ) else
        match rowOf σ (.slice sq m sc) i.size (Nat.min m l), σ.getB k with
        | some xs, some B => if B.tip = true ∧ o + xs.length ≤ B.cells.length ∧ xs.all (·.oneCell') = true then
            some (.int .i64 (Nat.min m l : Nat), σ.write k B (B.cells.take o ++ xs ++ B.cells.drop (o + xs.length))) else none
        | _, _ => none
      | _, _ => none
    | none => none
  | _ => none
theorem copyV_does {P : Program} {μ : Mu} {σ σ' : St} {w : World} {t t2 ty : TypeId} {d d' s s' r : Value} (hR : Rel μ σ w) (hd : VRel μ d d') (hs : VRel μ s s') (he : copyV P σ t d s = some (r, σ')) : DoesV P μ σ w (Builtin.copy_ #[t, t2] ty #[d', s']) r σ' := by
  unfold copyV at he
  split at he
  case h_2 => cases he
  rename_i e ht
  split at he
  case h_2 => cases he
  rename_i i hi
  split at he
  case h_2 => cases he
  rename_i k o l c sq m sc
  obtain ⟨L, hL, hdd⟩ := slc_inv hd
  have hs' : ∃ q' c', s' = .slice q' m c' := by cases hs <;> exact ⟨_, _, rfl⟩
  obtain ⟨q', c', rfl⟩ := hs'
  have hd' : ∃ q2 c2, d' = .slice (some q2) l c2 := by
    rcases hdd with ⟨_, h⟩ | ⟨_, c', _, _, h⟩ | ⟨_, h0, _, o', h⟩
    · exact ⟨_, _, h⟩
    · exact ⟨_, _, h⟩
    · subst h0; exact ⟨_, _, h⟩
  obtain ⟨q2, c2, rfl⟩ := hd'
  split at he
  · rename_i h0
    simp only [Option.some.injEq, Prod.mk.injEq] at he
    obtain ⟨rfl, rfl⟩ := he
    have hf : (Builtin.firstCells i.size 0 (.slice q' m c')).run P w = .ok #[] w := by
      cases q' with
      | none => simp [Builtin.firstCells]
      | some a => simp [Builtin.firstCells, loadCells, loadCellsFrom]
    refine ⟨μ, _, w, ?_, .sc _ rfl, hR, Step.refl _ _ _⟩
    have h0' : m.min l = 0 := h0
    simp [Builtin.copy_, run_underlying ht, Builtin.lenOf, h0', sizeOf, typeInfo, hi, hf, storeCells]
    rfl
  · rename_i h0
    split at he
    case h_2 => cases he
    rename_i xs B hxs hB
    split at he
    case isFalse => cases he
    rename_i hcc
    obtain ⟨htip, hfit, hall⟩ := hcc
    simp only [Option.some.injEq, Prod.mk.injEq] at he
    obtain ⟨rfl, rfl⟩ := he
    obtain ⟨xs', x1, x2, x3, x4⟩ := rowOf_rel hR hs hxs
    have hpos : 0 < m.min l := Nat.pos_of_ne_zero h0
    have hl0 : l ≠ 0 := fun e => h0 (by rw [e]; exact Nat.min_zero m)
    obtain ⟨b, so, sm, sc', e1, e2⟩ := x4 hpos
    cases e1
    obtain ⟨w', g1, g2, g3⟩ := write_does (P := P) (off := o) hR hB hL htip xs xs' x2 hfit hall
    have hq2 : q2 = ⟨L.blk, o + L.sh, none⟩ := by
      rcases hdd with ⟨_, h⟩ | ⟨_, c', _, _, h⟩ | ⟨_, h0, _⟩
      · cases h; rfl
      · cases h; rfl
      · exact absurd h0 hl0
    subst hq2
    have hf := run_firstCells_some (P := P) w i.size (m.min l) ⟨b, so, none⟩ m c' xs' x1 (fun j v hv => by rw [Addr.add_mid]; exact e2 j v hv)
    refine ⟨μ, _, w', ?_, .sc _ rfl, g2, g3⟩
    simp [Builtin.copy_, run_underlying ht, Builtin.lenOf, sizeOf, typeInfo, hi, hf, g1]
    rfl
def clearV (P : Program) (σ : St) (t : TypeId) (v : Value) : Option (Value × St) :=
  match v with
  | .slice _ 0 _ => match P.underlying t with
    | some (.slice _) => some (.tuple #[], σ)
    | _ => none
  | .slice (some ⟨k, o, none⟩) n _ => match P.underlying t with
    | some (.slice e) => match P.info? e with
      | some i => match i.zero with
        | some z => match σ.getB k with
          | some B => if B.tip = true ∧ o + (Builtin.zeroCells z.cells n).toList.length ≤ B.cells.length ∧ flatL (Builtin.zeroCells z.cells n).toList = true then
              some (.tuple #[], σ.write k B (B.cells.take o ++ (Builtin.zeroCells z.cells n).toList ++ B.cells.drop (o + (Builtin.zeroCells z.cells n).toList.length))) else none
          | none => none
        | none => none
      | none => none
    | _ => none
  | _ => none
theorem flatL_one : ∀ {l : List Value}, flatL l = true → l.all (·.oneCell') = true
  | [], _ => rfl
  | v :: l, h => by
    simp [flatL] at h
    have h1 : v.oneCell' = true := by cases v <;> simp [scalar] at h ⊢ <;> rfl
    simp [h1]
    simpa using flatL_one h.2
theorem clearV_does {P : Program} {μ : Mu} {σ σ' : St} {w : World} {t ty : TypeId} {v v' r : Value} (hR : Rel μ σ w) (hv : VRel μ v v') (he : clearV P σ t v = some (r, σ')) : DoesV P μ σ w (Builtin.clear_ #[t] ty #[v']) r σ' := by
  unfold clearV at he
  split at he
  · rename_i q c
    split at he
    · rename_i e hu
      simp only [Option.some.injEq, Prod.mk.injEq] at he
      obtain ⟨rfl, rfl⟩ := he
      have : ∃ q' c', v' = .slice q' 0 c' := by cases hv <;> exact ⟨_, _, rfl⟩
      obtain ⟨q', c', rfl⟩ := this
      refine ⟨μ, _, w, ?_, flat_rel μ (by rfl), hR, Step.refl _ _ _⟩
      cases q' <;> simp [Builtin.clear_, run_underlying hu]
    · cases he
  · rename_i k o n c hn
    split at he
    case h_2 => cases he
    rename_i e hu
    split at he
    case h_2 => cases he
    rename_i i hi
    split at he
    case h_2 => cases he
    rename_i z hz
    split at he
    case h_2 => cases he
    rename_i B hB
    split at he
    case isFalse => cases he
    rename_i hcc
    obtain ⟨htip, hfit, hfl⟩ := hcc
    simp only [Option.some.injEq, Prod.mk.injEq] at he
    obtain ⟨rfl, rfl⟩ := he
    obtain ⟨L, hL, hvv⟩ := slc_inv hv
    have hn0 : n ≠ 0 := fun e => by subst e; simp at hn
    have hv' : ∃ c', v' = .slice (some ⟨L.blk, o + L.sh, none⟩) n c' := by
      rcases hvv with ⟨_, h⟩ | ⟨_, c', _, _, h⟩ | ⟨_, h0, _⟩
      · exact ⟨_, h⟩
      · exact ⟨_, h⟩
      · exact absurd h0 hn0
    obtain ⟨c', rfl⟩ := hv'
    obtain ⟨w', g1, g2, g3⟩ := write_does (P := P) (off := o) hR hB hL htip _ _ (flatL_rel μ hfl) hfit (flatL_one hfl)
    refine ⟨μ, _, w', ?_, flat_rel μ (by rfl), g2, g3⟩
    cases n with
    | zero => exact absurd rfl hn0
    | succ n => simp [Builtin.clear_, run_underlying hu, zeroValue, typeInfo, hi, hz, g1]
  · cases he
def builtinV (P : Program) (σ : St) (ts : Ts) (b : Builtin) (tys : List TypeId) (args : List Operand) : Option (Value × St) :=
  match b, tys, args with
  | .len, [t], [x] => match evo ts x with
    | some v => (lenV P t v).map fun r => (r, σ)
    | none => none
  | .cap, [t], [x] => match evo ts x with
    | some v => (capV P t v).map fun r => (r, σ)
    | none => none
  | .clear, [t], [x] => match evo ts x with
    | some v => clearV P σ t v
    | none => none
  | .append, [t, t2], [x, y] => if t = t2 then match evo ts x, evo ts y with
      | some v, some u => appendV P σ t v u
      | _, _ => none
    else match evo ts x, evo ts y with
      | some v, some u => zerosV P σ t t2 v u
      | _, _ => none
  | .copy, [t, _], [x, y] => match evo ts x, evo ts y with
    | some v, some u => copyV P σ t v u
    | _, _ => none
  | _, _, _ => none
theorem doesV_does {P : Program} {μ : Mu} {σ σ' : St} {w : World} {ρ : Operand → Value} {o : Oper} {s : Sem Value} {r : Value} (h : DoesV P μ σ w s r σ') (he : execOp ρ o = (do pure (.value (← s)))) : Does P μ σ w ρ o r σ' := by
  obtain ⟨μ', r', w', h1, h2, h3, h4⟩ := h
  exact ⟨μ', r', w', _, by rw [he, Sem.run_bind, h1]; rfl, .inl rfl, h2, h3, h4⟩
theorem builtinV_does {P : Program} {μ : Mu} {σ σ' : St} {w : World} {ts : Ts} {a : Act} {o : Oper} {c : Call} {b : Builtin} {r : Value} (hT : TRel μ ts a) (hR : Rel μ σ w) (ho : o.op = .call c) (hc : c.callee = .builtin b) (he : builtinV P σ ts b c.argTypes.toList c.args.toList = some (r, σ')) (hf : ∀ j, σ.size ≤ j → j < σ'.size → μ j = none) :
    Does P μ σ w a.eval o r σ' := by
  obtain ⟨cs, hex⟩ := exec_builtin (ρ := a.eval) ho hc
  obtain ⟨callee, args, argTypes⟩ := c
  obtain ⟨args⟩ := args
  obtain ⟨argTypes⟩ := argTypes
  simp only at he hex
  unfold builtinV at he
  split at he
  · rename_i t x
    split at he
    case h_2 => cases he
    rename_i v hv
    simp only [Option.map_eq_some_iff, Prod.mk.injEq] at he
    obtain ⟨r0, h1, rfl, rfl⟩ := he
    exact doesV_does (lenV_does (ty := o.type) hR (evo_rel hT hv) h1) (by rw [hex]; simp [builtin])
  · rename_i t x
    split at he
    case h_2 => cases he
    rename_i v hv
    simp only [Option.map_eq_some_iff, Prod.mk.injEq] at he
    obtain ⟨r0, h1, rfl, rfl⟩ := he
    exact doesV_does (capV_does (ty := o.type) hR (evo_rel hT hv) h1) (by rw [hex]; simp [builtin])
  · rename_i t x
    split at he
    case h_2 => cases he
    rename_i v hv
    exact doesV_does (clearV_does (ty := o.type) hR (evo_rel hT hv) he) (by rw [hex]; simp [builtin])
  · rename_i t t2 x y
    split at he
    case isFalse =>
      split at he
      case h_2 => cases he
      rename_i v u hv hu
      exact doesV_does (zerosV_does (ty := o.type) hR (evo_rel hT hv) (evo_rel hT hu) he hf) (by rw [hex]; simp [builtin])
    rename_i e
    subst e
    split at he
    case h_2 => cases he
    rename_i v u hv hu
    exact doesV_does (appendV_does (ty := o.type) hR (evo_rel hT hv) (evo_rel hT hu) he hf) (by rw [hex]; simp [builtin])
  · rename_i t t2 x y
    split at he
    case h_2 => cases he
    rename_i v u hv hu
    exact doesV_does (copyV_does (t2 := t2) (ty := o.type) hR (evo_rel hT hv) (evo_rel hT hu) he) (by rw [hex]; simp [builtin])
  · cases he
def evos (ts : Ts) : Option Operand → Option (Option Value)
  | none => some none
  | some x => match evo ts x with
    | some v => some (some v)
    | none => none
theorem evos_rel {μ : Mu} {ts : Ts} {a : Act} (h : TRel μ ts a) {x : Option Operand} {v : Option Value} (hv : evos ts x = some v) : (v = none ∧ x.map a.eval = none) ∨ ∃ u u', v = some u ∧ x.map a.eval = some u' ∧ VRel μ u u' := by
  cases x with
  | none => simp [evos] at hv; exact .inl ⟨hv.symm, rfl⟩
  | some x =>
    simp only [evos] at hv
    split at hv
    · rename_i u hu
      simp only [Option.some.injEq] at hv
      exact .inr ⟨u, a.eval x, hv.symm, rfl, evo_rel h hu⟩
    · cases hv
def pureV (P : Program) (σ : St) (ts : Ts) (o : Oper) : Option (Value × St) := (pureOp P ts o).map fun r => (r, σ)
/-! sums and comparisons -/
def wrF : IntKind → Int → Int
  | .i64, .ofNat m => match m with
    | 0 => .ofNat 0
    | Nat.succ p => match Nat.ble (Nat.succ p) 9223372036854775807 with
      | true => .ofNat (Nat.succ p)
      | false => IntKind.i64.wrap (.ofNat (Nat.succ p))
  | k, n => k.wrap n
theorem wrF_eq (k : IntKind) (n : Int) : wrF k n = k.wrap n := by
  unfold wrF
  split
  · rename_i m
    cases m with
    | zero => rfl
    | succ p =>
      simp only
      split
      · rename_i h
        have := Nat.le_of_ble_eq_true h
        exact (IntWalk.i64_in _ (by simp; omega)).symm
      · rfl
  · rfl
def ltI : Int → Int → Bool
  | .ofNat a, .ofNat b => Nat.blt a b
  | a, b => decide (a < b)
theorem ltI_eq (a b : Int) : ltI a b = decide (a < b) := by
  unfold ltI
  split
  · rename_i a b
    rw [Bool.eq_iff_iff]; simp [Nat.blt]; omega
  · rfl
def eqI : Int → Int → Bool
  | .ofNat a, .ofNat b => Nat.beq a b
  | a, b => a == b
theorem eqI_eq (a b : Int) : eqI a b = (a == b) := by
  unfold eqI
  split
  · rename_i a b
    rw [Bool.eq_iff_iff]; simp [Nat.beq_eq]; omega
  · rfl
def sameK : IntKind → IntKind → Bool
  | .i64, .i64 | .u64, .u64 | .u8, .u8 | .u16, .u16 | .u32, .u32 | .i8, .i8 | .i16, .i16 | .i32, .i32 => true
  | _, _ => false
def intV (op : BinOp) (k : IntKind) (a b : Int) : Option Value :=
  match op with
  | .add => some (.int k (wrF k (a + b)))
  | .sub => some (.int k (wrF k (a - b)))
  | .mul => some (.int k (wrF k (a * b)))
  | .eql => some (.bool (eqI a b))
  | .neq => some (.bool (!eqI a b))
  | .lss => some (.bool (ltI a b))
  | .leq => some (.bool (!ltI b a))
  | .gtr => some (.bool (ltI b a))
  | .geq => some (.bool (!ltI a b))
  | _ => none
theorem intV_does {P : Program} {μ : Mu} {σ : St} {w : World} {ρ : Operand → Value} {o : Oper} {op : BinOp} {t t' : TypeId} {x y : Operand} {k k' : IntKind} {a b : Int} {r : Value} (hR : Rel μ σ w) (ho : o.op = .binOp op t x y t') (hx : ρ x = .int k a) (hy : ρ y = .int k' b) (hk : sameK k k' = true) (he : intV op k a b = some r) : Does P μ σ w ρ o r σ := by
  have hkk : k = k' := by cases k <;> cases k' <;> first | rfl | (simp [sameK] at hk)
  subst hkk
  have hex : execOp ρ o = (do pure (.value (← binOp op t (.int k a) (.int k b)))) := by
    simp [execOp, ho, hx, hy, eqGuard_at_int]
  have fin : ∀ v : Value, scalar v = true → binOp op t (.int k a) (.int k b) = pure v → r = v → Does P μ σ w ρ o r σ := by
    intro v hs hb hr
    subst hr
    exact does_val hR (.sc _ hs) (by rw [hex, hb]; rfl)
  unfold intV at he
  split at he <;> first | (cases he; done) | skip
  all_goals (try (simp only [Option.some.injEq] at he))
  · exact fin (.int k (k.wrap (a + b))) rfl (by simp [binOp, Op.intArith]) (by rw [← he, wrF_eq])
  · exact fin (.int k (k.wrap (a - b))) rfl (by simp [binOp, Op.intArith]) (by rw [← he, wrF_eq])
  · exact fin (.int k (k.wrap (a * b))) rfl (by simp [binOp, Op.intArith]) (by rw [← he, wrF_eq])
  · exact fin (.bool (a == b)) rfl (by simp [binOp, Op.intCmp]) (by rw [← he, eqI_eq])
  · exact fin (.bool (a != b)) rfl (by simp [binOp, Op.intCmp]) (by rw [← he, eqI_eq]; rfl)
  · exact fin (.bool (decide (a < b))) rfl (by simp [binOp, Op.intCmp]) (by rw [← he, ltI_eq])
  · exact fin (.bool (decide (a ≤ b))) rfl (by simp [binOp, Op.intCmp]) (by rw [← he, ltI_eq]; congr 1; rw [Bool.eq_iff_iff]; simp)
  · exact fin (.bool (decide (a > b))) rfl (by simp [binOp, Op.intCmp]) (by rw [← he, ltI_eq])
  · exact fin (.bool (decide (a ≥ b))) rfl (by simp [binOp, Op.intCmp]) (by rw [← he, ltI_eq]; congr 1; rw [Bool.eq_iff_iff]; simp)
def one (σ : St) : Option Value → Option (Value × St)
  | some v => some (v, σ)
  | none => none
def xPick (σ : St) (ts : Ts) (x y : Operand) : Option Value → Option (Value × St)
  | some (.bool t) => one σ (evo ts (match t with | true => x | false => y))
  | _ => none
def xBox (σ : St) : Option Value → Option (Value × St)
  | some v => boxV σ v
  | none => none
def xLoad (P : Program) (σ : St) (t : TypeId) : Option Value → Option (Value × St)
  | some (.pointer (some ⟨k, off, none⟩)) => one σ (loadB P σ t k off)
  | _ => none
def xUnit : Option St → Option (Value × St)
  | some σ => some (undef, σ)
  | none => none
def xStore (P : Program) (σ : St) (t : TypeId) : Option Value → Option Value → Option (Value × St)
  | some (.pointer (some ⟨k, off, none⟩)), some v => xUnit (storeB P σ t k off v)
  | _, _ => none
/-- the first that answers -/
def orElse (x : Option (Value × St)) (y : Unit → Option (Value × St)) : Option (Value × St) :=
  match x with
  | some r => some r
  | none => y ()
def xNil (P : Program) (σ : St) (ts : Ts) (o : Oper) : Option Value → Option (Value × St)
  | some v => orElse (one σ (nilCheckV v)) fun _ => pureV P σ ts o
  | none => none
def xInt (P : Program) (σ : St) (ts : Ts) (o : Oper) (op : BinOp) (k : IntKind) (a : Int) (k' : IntKind) (b : Int) : Option (Value × St) :=
  match sameK k k' with
  | true => orElse (one σ (intV op k a b)) fun _ => pureV P σ ts o
  | false => pureV P σ ts o
def xBin (P : Program) (σ : St) (ts : Ts) (o : Oper) (op : BinOp) (t : TypeId) : Option Value → Option Value → Option (Value × St)
  | some (.int k a), some (.int k' b) => xInt P σ ts o op k a k' b
  | some v, some u => orElse (one σ (nilEqV P op t v u)) fun _ => pureV P σ ts o
  | _, _ => none
def xIface (P : Program) (σ : St) (t : TypeId) : Option Value → Option (Value × St)
  | some v => one σ (makeIfaceV P t v)
  | none => none
def xMake (P : Program) (σ : St) (t : TypeId) : Option Value → Option Value → Option (Value × St)
  | some u, some v => makeSliceV P σ t u v
  | _, _ => none
def xSlice (P : Program) (σ : St) (ts : Ts) (o : Oper) (t : TypeId) : Option Value → Option (Option Value) → Option (Option Value) → Option (Option Value) → Option (Value × St)
  | some v, some l, some h, some m => orElse (one σ (sliceV P σ t v l h m)) fun _ => pureV P σ ts o
  | _, _, _, _ => none
def xFieldAddr (P : Program) (σ : St) (s : TypeId) (f : Nat) : Option Value → Option (Value × St)
  | some v => one σ (fieldAddrV P s v f)
  | none => none
def xField (P : Program) (σ : St) (t : TypeId) (f : Nat) : Option Value → Option (Value × St)
  | some v => one σ (fieldV P t v f)
  | none => none
def xIndexAddr (P : Program) (σ : St) (t : TypeId) : Option Value → Option Value → Option (Value × St)
  | some v, some u => one σ (indexAddrV P t v u)
  | _, _ => none
def xIndex (P : Program) (σ : St) (ts : Ts) (o : Oper) (t : TypeId) : Option Value → Option Value → Option (Value × St)
  | some v, some u => orElse (one σ (indexV P t v u)) fun _ => pureV P σ ts o
  | _, _ => none
def xExtract (σ : St) (ix : Nat) : Option Value → Option (Value × St)
  | some v => one σ (extractV v ix)
  | none => none
def xCall (P : Program) (σ : St) (ts : Ts) (o : Oper) (c : Call) : Option (Value × St) :=
  match c.callee with
  | .builtin b => orElse (builtinV P σ ts b c.argTypes.toList c.args.toList) fun _ => pureV P σ ts o
  | _ => none
def xNot (P : Program) (σ : St) (ts : Ts) (o : Oper) (op : UnOp) : Option Value → Option (Value × St)
  | some (.bool b) => match op with
    | .not => some (.bool (!b), σ)
    | _ => none
  | _ => pureV P σ ts o
def exec (P : Program) (σ : St) (ts : Ts) (o : Oper) : Option (Value × St) :=
  match o.op with
  | .move x => one σ (evo ts x)
  | .assign x => one σ (evo ts x)
  | .pick c x y => xPick σ ts x y (evo ts c)
  | .alloc e => allocV P σ e
  | .box _ x => xBox σ (evo ts x)
  | .build t ps => one σ (buildV P ts t ps.toList)
  | .buildSlice t n ps => buildSliceV P σ ts t n ps.toList
  | .load t x => xLoad P σ t (evo ts x)
  | .store t x y => xStore P σ t (evo ts x) (evo ts y)
  | .nilCheck x => xNil P σ ts o (evo ts x)
  | .binOp op t x y _ => xBin P σ ts o op t (evo ts x) (evo ts y)
  | .unOp op _ x => xNot P σ ts o op (evo ts x)
  | .makeInterface t x => xIface P σ t (evo ts x)
  | .makeFunc f first captured => one σ (makeFuncV ts f first.toList captured.toList)
  | .makeSlice t x y => xMake P σ t (evo ts x) (evo ts y)
  | .slice t x lo hi mx => xSlice P σ ts o t (evo ts x) (evos ts lo) (evos ts hi) (evos ts mx)
  | .fieldAddr s x f => xFieldAddr P σ s f (evo ts x)
  | .field t x f => xField P σ t f (evo ts x)
  | .indexAddr t x y => xIndexAddr P σ t (evo ts x) (evo ts y)
  | .index t x y => xIndex P σ ts o t (evo ts x) (evo ts y)
  | .extract x ix => xExtract σ ix (evo ts x)
  | .call c => xCall P σ ts o c
  | _ => pureV P σ ts o
theorem one_some {σ σ' : St} {x : Option Value} {r : Value} (h : one σ x = some (r, σ')) : x = some r ∧ σ' = σ := by
  unfold one at h
  split at h
  · cases h; exact ⟨rfl, rfl⟩
  · cases h
theorem orElse_some {x : Option (Value × St)} {y : Unit → Option (Value × St)} {r : Value × St} (h : orElse x y = some r) : x = some r ∨ y () = some r := by
  unfold orElse at h
  split at h
  · exact .inl h
  · exact .inr h
theorem pureV_does {P : Program} {μ : Mu} {σ σ' : St} {w : World} {ts : Ts} {a : Act} {o : Oper} {r : Value} (hT : TRel μ ts a) (hR : Rel μ σ w) (he : pureV P σ ts o = some (r, σ')) : Does P μ σ w a.eval o r σ' := by
  unfold pureV at he
  simp only [Option.map_eq_some_iff, Prod.mk.injEq] at he
  obtain ⟨r0, h1, rfl, rfl⟩ := he
  exact pureOp_does hT hR h1
theorem exec_does {P : Program} {μ : Mu} {σ σ' : St} {w : World} {ts : Ts} {a : Act} {o : Oper} {r : Value} (hT : TRel μ ts a) (hR : Rel μ σ w) (he : exec P σ ts o = some (r, σ')) (hf : ∀ j, σ.size ≤ j → j < σ'.size → μ j = none) : Does P μ σ w a.eval o r σ' := by
  have pv : ∀ {s : St} {v : Value}, pureV P σ ts o = some (v, s) → Does P μ σ w a.eval o v s := fun h => pureV_does hT hR h
  unfold exec at he
  split at he
  case h_1 x ho =>
    obtain ⟨h1, rfl⟩ := one_some he
    exact does_val hR (evo_rel hT h1) (by simp [execOp, ho])
  case h_2 x ho =>
    obtain ⟨h1, rfl⟩ := one_some he
    exact does_val hR (evo_rel hT h1) (by simp [execOp, ho])
  case h_3 c x y ho =>
    unfold xPick at he
    split at he
    case h_2 => cases he
    rename_i t hc
    obtain ⟨h1, rfl⟩ := one_some he
    have hcc : a.eval c = .bool t := scalar_eq (by rfl) (evo_rel hT hc)
    refine does_val hR (evo_rel hT h1) ?_
    simp [execOp, ho, hcc, asBool]
    cases t <;> simp
  case h_4 e ho => exact allocV_does hR he hf ho
  case h_5 e x ho =>
    unfold xBox at he
    split at he
    case h_2 => cases he
    rename_i v hv
    exact boxV_does hR he hf ho (evo_rel hT hv)
  case h_6 t ps ho =>
    obtain ⟨h1, rfl⟩ := one_some he
    exact buildV_does hT hR ho h1
  case h_7 t n ps ho => exact buildSliceV_does hT hR ho he hf
  case h_8 t x ho =>
    unfold xLoad at he
    split at he
    case h_2 => cases he
    rename_i k off hx
    obtain ⟨h1, rfl⟩ := one_some he
    obtain ⟨L, hL, hxx⟩ := ptr_inv (evo_rel hT hx)
    obtain ⟨r', g1, g2⟩ := loadB_does (w := w) hR hL h1
    refine does_val hR g2 ?_
    simp [execOp, ho, hxx, Instr.loadAt, Instr.sureAddr, g1]
  case h_9 t x y ho =>
    unfold xStore at he
    split at he
    case h_2 => cases he
    rename_i k off v hx hy
    unfold xUnit at he
    split at he
    case h_2 => cases he
    rename_i s h1
    cases he
    obtain ⟨L, hL, hxx⟩ := ptr_inv (evo_rel hT hx)
    obtain ⟨w', g1, g2, g3⟩ := storeB_does (P := P) hR hL (evo_rel hT hy) h1
    refine ⟨μ, undef, w', .skip, ?_, .inr ⟨rfl, rfl⟩, vrel_undef μ, g2, g3⟩
    simp [execOp, ho, hxx, Instr.storeAt, Instr.sureAddr, g1]
  case h_10 x ho =>
    unfold xNil at he
    split at he
    case h_2 => cases he
    rename_i v hv
    rcases orElse_some he with he | he
    · obtain ⟨h1, rfl⟩ := one_some he
      exact nilCheckV_does hR ho (evo_rel hT hv) h1
    · exact pv he
  case h_11 op t x y t' ho =>
    unfold xBin at he
    split at he
    · rename_i k i k' j hx hy
      unfold xInt at he
      split at he
      · rename_i hk
        rcases orElse_some he with he | he
        · obtain ⟨h1, rfl⟩ := one_some he
          exact intV_does hR ho (int_inv (evo_rel hT hx)) (int_inv (evo_rel hT hy)) hk h1
        · exact pv he
      · exact pv he
    · rename_i v u _ hv hu
      rcases orElse_some he with he | he
      · obtain ⟨h1, rfl⟩ := one_some he
        exact nilEqV_does hR ho (evo_rel hT hv) (evo_rel hT hu) h1
      · exact pv he
    · cases he
  case h_12 op t x ho =>
    unfold xNot at he
    split at he
    · rename_i b hx
      split at he
      · cases he
        have hxx : a.eval x = .bool b := scalar_eq (by rfl) (evo_rel hT hx)
        exact does_val hR (.sc _ rfl) (by simp [execOp, ho, hxx, Op.unary])
      · cases he
    · exact pv he
  case h_13 t x ho =>
    unfold xIface at he
    split at he
    case h_2 => cases he
    rename_i v hv
    obtain ⟨h1, rfl⟩ := one_some he
    exact makeIfaceV_does hR ho (evo_rel hT hv) h1
  case h_14 f first captured ho =>
    obtain ⟨h1, rfl⟩ := one_some he
    exact makeFuncV_does hT hR ho h1
  case h_15 t x y ho =>
    unfold xMake at he
    split at he
    case h_2 => cases he
    rename_i u v hu hv
    exact makeSliceV_does hR ho (evo_rel hT hu) (evo_rel hT hv) he hf
  case h_16 t x lo hi mx ho =>
    unfold xSlice at he
    split at he
    case h_2 => cases he
    rename_i v l h m hv hl hh hm
    rcases orElse_some he with he | he
    · obtain ⟨h1, rfl⟩ := one_some he
      exact sliceV_does hR ho (evo_rel hT hv) (evos_rel hT hl) (evos_rel hT hh) (evos_rel hT hm) h1
    · exact pv he
  case h_17 s x f ho =>
    unfold xFieldAddr at he
    split at he
    case h_2 => cases he
    rename_i v hv
    obtain ⟨h1, rfl⟩ := one_some he
    exact fieldAddrV_does hR ho (evo_rel hT hv) h1
  case h_18 t x f ho =>
    unfold xField at he
    split at he
    case h_2 => cases he
    rename_i v hv
    obtain ⟨h1, rfl⟩ := one_some he
    exact fieldV_does hR ho (evo_rel hT hv) h1
  case h_19 t x y ho =>
    unfold xIndexAddr at he
    split at he
    case h_2 => cases he
    rename_i v u hv hu
    obtain ⟨h1, rfl⟩ := one_some he
    exact indexAddrV_does hR ho (evo_rel hT hv) (evo_rel hT hu) h1
  case h_20 t x y ho =>
    unfold xIndex at he
    split at he
    case h_2 => cases he
    rename_i v u hv hu
    rcases orElse_some he with he | he
    · obtain ⟨h1, rfl⟩ := one_some he
      exact indexV_does hR ho (evo_rel hT hv) (evo_rel hT hu) h1
    · exact pv he
  case h_21 x ix ho =>
    unfold xExtract at he
    split at he
    case h_2 => cases he
    rename_i v hv
    obtain ⟨h1, rfl⟩ := one_some he
    exact extractV_does hR ho (evo_rel hT hv) h1
  case h_22 c ho =>
    unfold xCall at he
    split at he
    case h_2 => cases he
    rename_i b hc
    rcases orElse_some he with he | he
    · exact builtinV_does hT hR ho hc he hf
    · exact pv he
  case h_23 => exact pv he
end
end Go.Proofs.YtlnpibboemphnaaGreat.ev

/- The reckoner: calls and code. -/
namespace Go.Proofs.YtlnpibboemphnaaGreat.ev
noncomputable section
open Go.RowKit
set_option linter.unusedSimpArgs false
set_option linter.unusedVariables false
set_option linter.unusedSectionVars false

/-- what is known of calls: what they answer, nothing else done -/
class Kn where
  val : FuncId → List Value → Option Value
variable [Kn]
structure Fd where
  body : Code
  ntmps : Nat
  results : List ResultVar
def fdOf (P : Program) (g : FuncId) : Option Fd :=
  match P.funcs[g]? with
  | some fn => match fn.body with
    | some c => if fn.name == "runtime.NumGoroutine" then none else some ⟨c, fn.ntmps, fn.results.toList⟩
    | none => none
  | none => none
inductive Ex where
  | norm
  | exit (id : Nat)
  | ret
def Ex.of : Ex → Exit
  | .norm => .normal
  | .exit id => .exit id
  | .ret => .ret
abbrev Ih := Code → Ts → St → Option (Ex × Ts × St)
def callOf (P : Program) (ts : Ts) (o : Oper) : Option (FuncId × List Value) :=
  match o.op with
  | .call c => match c.callee with
    | .value f => match evo ts f with
      | some (.func (.func g) first captured) => if oksL ts c.args.toList then some (g, first.toList ++ c.args.toList.map (vof ts) ++ captured.toList) else none
      | _ => none
    | .invoke recv name => match evo ts recv with
      | some (.iface t v) => if flat v && oksL ts c.args.toList then match pureRun P (method (P.types.size + Made.depth) t v name) with
          | some (g, u) => if flat u then some (g, u :: c.args.toList.map (vof ts)) else none
          | none => none
        else none
      | _ => none
    | .builtin _ => none
  | _ => none
def resultsV (P : Program) (σ : St) (ts : Ts) : List ResultVar → Option (List Value)
  | [] => some []
  | .tmp t :: l => match resultsV P σ ts l with
    | some r => some (getT ts t :: r)
    | none => none
  | .cell p ty :: l => match getT ts p with
    | .pointer (some ⟨k, o, none⟩) => match loadB P σ ty k o, resultsV P σ ts l with
      | some v, some r => some (v :: r)
      | _, _ => none
    | _ => none
def oneOf : List Value → Value
  | [v] => v
  | l => .tuple l.toArray
def fillT : Nat → List Value → Ts → Ts
  | _, [], ts => ts
  | k, v :: l, ts => fillT (k + 1) l (setT ts k v)
def frameT (n : Nat) (args : List Value) : Ts := fillT 0 args (slots0 n)
def okF (a n : Nat) : Bool := Bool.rec false (Nat.ble n 512) (Nat.ble a n)
theorem okF_le {a n : Nat} (h : okF a n = true) : a ≤ n ∧ n ≤ 512 := by
  unfold okF at h
  cases h2 : Nat.ble a n with
  | false => rw [h2] at h; cases h
  | true => rw [h2] at h; exact ⟨Nat.le_of_ble_eq_true h2, Nat.le_of_ble_eq_true h⟩
def callK (P : Program) (ih : Ih) (fd : Fd) (args : List Value) (σ : St) : Option (Value × St) :=
  match okF args.length fd.ntmps with
   | false => none
   | true => match ih fd.body (frameT fd.ntmps args) σ with
    | some (.norm, ts, σ') => match resultsV P σ' ts fd.results with
      | some l => some (oneOf l, σ')
      | none => none
    | some (.ret, ts, σ') => match resultsV P σ' ts fd.results with
      | some l => some (oneOf l, σ')
      | none => none
    | _ => none
def callF (P : Program) (ih : Ih) (g : FuncId) (args : List Value) (σ : St) : Option (Value × St) :=
  match fdOf P g with
  | some fd => match Kn.val g args with
    | some r => some (r, σ)
    | none => callK P ih fd args σ
  | none => none
def opV (P : Program) (ih : Ih) (ts : Ts) (σ : St) (o : Oper) : Option (Value × St) :=
  match callOf P ts o with
  | some (g, args) => callF P ih g args σ
  | none => exec P σ ts o
def boolOf : Value → Option Bool
  | .bool b => some b
  | _ => none
def wantedV (all : Array Oper) (ts : Ts) (o : Oper) : Bool :=
  match o.guard with
  | none => true
  | some (j, want) => (match (all[j]?).bind (·.dst) with
    | some d => boolOf (getT ts d)
    | none => none) == some want
def opsV (P : Program) (ih : Ih) (all : Array Oper) : List Oper → Ts → St → Option (Ts × St)
  | [], ts, σ => some (ts, σ)
  | o :: rest, ts, σ => if wantedV all ts o then match opV P ih ts σ o with
      | some (v, σ') => if σ.size ≤ σ'.size then opsV P ih all rest (putV ts o.dst v) σ' else none
      | none => none
    else opsV P ih all rest (putV ts o.dst undef) σ
def stepV (P : Program) (draw : Ih → Array Oper → Ts → St → Option (Ts × St)) (ih : Ih) : Ih
  | .skip, ts, σ => some (.norm, ts, σ)
  | .label _, ts, σ => some (.norm, ts, σ)
  | .region _ ops d, ts, σ => match (if d then draw ih ops ts σ else opsV P ih ops ops.toList ts σ) with
    | some (ts', σ') => some (.norm, ts', σ')
    | none => none
  | .seq x y, ts, σ => match ih x ts σ with
    | some (.norm, ts', σ') => ih y ts' σ'
    | r => r
  | .cond c x y, ts, σ => match evo ts c with
    | some (.bool t) => ih (if t then x else y) ts σ
    | _ => none
  | .block id b, ts, σ => match ih b ts σ with
    | some (.exit id', ts', σ') => some (if id' = id then .norm else .exit id', ts', σ')
    | r => r
  | .loop b, ts, σ => match ih b ts σ with
    | some (.norm, ts', σ') => ih (.loop b) ts' σ'
    | r => r
  | .scope b, ts, σ => ih b ts σ
  | .exit id, ts, σ => some (.exit id, ts, σ)
  | .ret, ts, σ => some (.ret, ts, σ)
  | _, _, _ => none
end
end Go.Proofs.YtlnpibboemphnaaGreat.ev

/- The reckoner: what it reckons the model does. Calls and straight regions. -/
namespace Go.Proofs.YtlnpibboemphnaaGreat.ev
noncomputable section
open Go.RowKit
set_option linter.unusedSimpArgs false
set_option linter.unusedVariables false
set_option linter.unusedSectionVars false
variable [Kn]

def SizeOk (ih : Ih) : Prop := ∀ c ts σ ex ts' σ', ih c ts σ = some (ex, ts', σ') → σ.size ≤ σ'.size
def Fresh (μ : Mu) (σ σ' : St) : Prop := ∀ j, σ.size ≤ j → j < σ'.size → μ j = none
def Ends (μ : Mu) (σ : St) (w : World) (ts' : Ts) (σ' : St) (a' : Act) (w' : World) : Prop := ∃ μ', TRel μ' ts' a' ∧ Rel μ' σ' w' ∧ Step μ μ' σ σ' w w'
def KnOk (P : Program) : Prop := ∀ g args r, Kn.val g args = some r → flatL args = true ∧ flat r = true ∧ ∀ w, Calls P g args.toArray w fun e w' => e = .returned r ∧ Below w.heap.size w w'
structure Sound (P : Program) (ih : Ih) : Prop where
  kn : KnOk P
  run : ∀ c ts σ ex ts' σ', ih c ts σ = some (ex, ts', σ') → ∀ μ a w, TRel μ ts a → Rel μ σ w → Fresh μ σ σ' →
  c.wp P (fun e a' w' => e = ex.of ∧ Ends μ σ w ts' σ' a' w') a w
instance {P : Program} {ih : Ih} : CoeFun (Sound P ih) (fun _ => ∀ c ts σ ex ts' σ', ih c ts σ = some (ex, ts', σ') → ∀ μ a w, TRel μ ts a → Rel μ σ w → Fresh μ σ σ' →
  c.wp P (fun e a' w' => e = ex.of ∧ Ends μ σ w ts' σ' a' w') a w) := ⟨Sound.run⟩
theorem BRel.below {μ : Mu} {w w' : World} {B : Blk} {L : Loc} (h : BRel μ w B L) (hb : Below w.heap.size w w') : BRel μ w' B L := h.mono (Mu.le.refl μ) (hb.block _ h.lt)
theorem Rel.below {μ : Mu} {σ : St} {w w' : World} (h : Rel μ σ w) (hb : Below w.heap.size w w') : Rel μ σ w' := ⟨h.wf, fun k B L hk hL => (h.blk k B L hk hL).below hb, h.apart⟩
theorem Step.of_below {μ : Mu} {σ : St} {w w' : World} (hb : Below w.heap.size w w') : Step μ μ σ σ w w' :=
  ⟨Mu.le.refl _, fun _ _ h => .inl h, Nat.le_refl _, Nat.le_refl _, hb.size, hb.os, hb.tape, hb.output, fun b hlt _ => hb.block b hlt, fun _ _ _ => rfl⟩
theorem Step.fresh {μ μ1 : Mu} {σ σ1 σ2 : St} {w w1 : World} (h : Step μ μ1 σ σ1 w w1) (hf : Fresh μ σ σ2) : Fresh μ1 σ1 σ2 := fun j h1 h2 => by
  cases hj : μ1 j with
  | none => rfl
  | some L =>
    exfalso
    have := h.size
    rcases h.dom j L hj with a | ⟨_, b, _⟩
    · rw [hf j (by omega) h2] at a; cases a
    · omega
theorem Fresh.mono {μ : Mu} {σ σ1 σ2 : St} (h : Fresh μ σ σ2) (hs : σ1.size ≤ σ2.size) : Fresh μ σ σ1 := fun j a b => h j a (by omega)

/-! calls -/
def resV (tmps : Array Value) : ResultVar → Sem Value
  | .tmp t => pure (tmps.getD t undef)
  | .cell p t => do loadVar t (← asAddr (tmps.getD p undef))
theorem results_eq (fn : Func) (tmps : Array Value) : results fn tmps = (do let vs ← fn.results.mapM (resV tmps); pure (if h : vs.size = 1 then vs[0] else .tuple vs)) := by
  unfold results
  congr
theorem results_run {P : Program} {μ : Mu} {σ : St} {w : World} {ts : Ts} {a : Act} (hT : TRel μ ts a) (hR : Rel μ σ w) : ∀ (l : List ResultVar) (r : List Value), resultsV P σ ts l = some r →
    ∃ r', (l.mapM (resV a.tmps)).run P w = .ok r' w ∧ LRel μ r r'
  | [], r, h => by
    simp [resultsV] at h
    subst h
    exact ⟨[], by simp, .nil⟩
  | .tmp t :: l, r, h => by
    simp only [resultsV] at h
    split at h
    · rename_i r0 hr0
      simp only [Option.some.injEq] at h
      subst h
      obtain ⟨r', h1, h2⟩ := results_run hT hR l r0 hr0
      have hv := hT.get t
      refine ⟨a.tmps.getD t undef :: r', ?_, .cons _ _ _ _ (by simpa using hv) h2⟩
      simp only [List.mapM_cons, resV, Sem.run_bind, Sem.run_pure, Result.andThen_ok, h1]
    · cases h
  | .cell p ty :: l, r, h => by
    simp only [resultsV] at h
    split at h
    · rename_i k o hp
      split at h
      · rename_i v r0 hv hr0
        simp only [Option.some.injEq] at h
        subst h
        obtain ⟨r', h1, h2⟩ := results_run hT hR l r0 hr0
        have hpr := hT.get p
        rw [hp] at hpr
        obtain ⟨L, hL, hxx⟩ := ptr_inv hpr
        obtain ⟨v', g1, g2⟩ := loadB_does (w := w) hR hL hv
        refine ⟨v' :: r', ?_, .cons _ _ _ _ g2 h2⟩
        have hxx' : a.tmps.getD p undef = .pointer (some ⟨L.blk, o + L.sh, none⟩) := by simpa using hxx
        have hc : (resV a.tmps (.cell p ty)).run P w = .ok v' w := by
          simp only [resV, hxx', asAddr, Sem.run_bind, Sem.run_pure, Result.andThen_ok, g1]
        simp only [List.mapM_cons, Sem.run_bind, hc, Sem.run_pure, Result.andThen_ok, h1]
      · cases h
    · cases h
theorem oneOf_rel {μ : Mu} {r r' : List Value} (h : LRel μ r r') : VRel μ (oneOf r) (if h : r'.toArray.size = 1 then r'.toArray[0] else .tuple r'.toArray) := by
  cases h with
  | nil => simpa [oneOf] using VRel.tuple (μ := μ) [] [] .nil
  | cons v v' l l' hv hl =>
    cases hl with
    | nil => simpa [oneOf] using hv
    | cons u u' m m' hu hm => simpa [oneOf] using VRel.tuple (μ := μ) _ _ (.cons _ _ _ _ hv (.cons _ _ _ _ hu hm))
theorem results_ok {P : Program} {μ : Mu} {σ : St} {w : World} {ts : Ts} {a : Act} {fn : Func} {r : List Value} (hT : TRel μ ts a) (hR : Rel μ σ w) (h : resultsV P σ ts fn.results.toList = some r) :
    ∃ v', (results fn a.tmps).run P w = .ok v' w ∧ VRel μ (oneOf r) v' := by
  obtain ⟨r', h1, h2⟩ := results_run hT hR _ _ h
  refine ⟨_, ?_, oneOf_rel h2⟩
  rw [results_eq]
  simp only [Array.mapM_eq_mapM_toList, Sem.run_bind, Sem.run_map, Sem.run_pure, h1, Result.andThen_ok]
def Gives (μ : Mu) (σ : St) (w : World) (v : Value) (σ' : St) (e : Ending) (w' : World) : Prop := ∃ μ' v', e = .returned v' ∧ VRel μ' v v' ∧ Rel μ' σ' w' ∧ Step μ μ' σ σ' w w'
theorem lrel_replicate (μ : Mu) : ∀ n, LRel μ (List.replicate n undef) (List.replicate n undef)
  | 0 => .nil
  | n + 1 => .cons _ _ _ _ (vrel_undef μ) (lrel_replicate μ n)
theorem fillT_get {μ : Mu} : ∀ (l l' : List Value) (k : Nat) (ts : Ts), LRel μ l l' → ts.n ≤ 2 ^ ts.d → k + l.length ≤ ts.n →
    (fillT k l ts).n = ts.n ∧ (fillT k l ts).d = ts.d ∧ ∀ t, (t < k ∨ k + l.length ≤ t → getT (fillT k l ts) t = getT ts t) ∧ (k ≤ t → t < k + l.length → VRel μ (getT (fillT k l ts) t) (l'.getD (t - k) undef))
  | [], l', k, ts, h, hd, hn => ⟨rfl, rfl, fun t => ⟨fun _ => rfl, fun a b => by simp at b; omega⟩⟩
  | v :: l, l', k, ts, h, hd, hn => by
    cases h with
    | cons _ v' _ l2 hv hl =>
      simp only [List.length_cons] at hn
      obtain ⟨s1, s2⟩ := setT_n ts k v
      obtain ⟨i1, i2, i3⟩ := fillT_get l l2 (k + 1) (setT ts k v) hl (by rw [s1, s2]; exact hd) (by rw [s1]; omega)
      refine ⟨i1.trans s1, i2.trans s2, fun t => ⟨fun ht => ?_, fun h1 h2 => ?_⟩⟩
      · simp only [List.length_cons] at ht
        show getT (fillT (k + 1) l (setT ts k v)) t = _
        rw [(i3 t).1 (by omega), getT_setT ts hd k t v (by omega), if_neg (by omega)]
      · simp only [List.length_cons] at h2
        show VRel μ (getT (fillT (k + 1) l (setT ts k v)) t) _
        by_cases e : t = k
        · subst e
          rw [(i3 t).1 (by omega), getT_setT ts hd t t v (by omega), if_pos rfl]
          simpa using hv
        · have := (i3 t).2 (by omega) (by omega)
          rw [show t - k = (t - (k + 1)) + 1 by omega]
          simpa using this
theorem frameT_rel {μ : Mu} {args : List Value} {args' : Array Value} {n : Nat} (h : LRel μ args args'.toList) (hn : args.length ≤ n) (hcap : n ≤ 512) : TRel μ (frameT n args) { tmps := args' ++ Array.replicate (n - args'.size) undef, defers := [] } := by
  have hl := h.length
  simp only [Array.length_toList] at hl
  have hsn : (slots0 n).n = n := by rw [slots0_eq]
  have hd : (slots0 n).n ≤ 2 ^ (slots0 n).d := by rw [hsn]; exact hcap
  obtain ⟨i1, i2, i3⟩ := fillT_get args args'.toList 0 (slots0 n) h hd (by rw [hsn]; omega)
  rw [hsn] at i1 hd
  refine ⟨by rw [frameT, i1]; simp; omega, by rw [frameT, i1, i2]; exact hd, fun t ht => ?_, rfl⟩
  rw [frameT, i1] at ht
  by_cases ha : t < args.length
  · have := (i3 t).2 (by omega) (by omega)
    have e : (args' ++ Array.replicate (n - args'.size) undef).getD t undef = args'.toList.getD t undef := by
      simp only [Array.getD_eq_getD_getElem?, List.getD_eq_getElem?_getD, Array.getElem?_toList]
      rw [Array.getElem?_append_left (by omega)]
    show VRel μ _ ((args' ++ Array.replicate (n - args'.size) undef).getD t undef)
    rw [e]
    exact this
  · have e1 : getT (frameT n args) t = undef := by
      show getT (fillT 0 args _) t = undef
      rw [(i3 t).1 (by omega)]
      exact getT_slots0 hcap t
    have e2 : (args' ++ Array.replicate (n - args'.size) undef).getD t undef = undef := by
      simp only [Array.getD_eq_getD_getElem?]
      rw [Array.getElem?_append_right (by omega), Array.getElem?_replicate]
      split <;> rfl
    rw [e1]
    show VRel μ undef ((args' ++ Array.replicate (n - args'.size) undef).getD t undef)
    rw [e2]
    exact vrel_undef μ
theorem callF_calls {P : Program} {ih : Ih} (hS : Sound P ih) {g : FuncId} {args : List Value} {σ σ' : St} {v : Value} (h : callF P ih g args σ = some (v, σ')) {μ : Mu} {args' : Array Value} {w : World} (ha : LRel μ args args'.toList) (hR : Rel μ σ w) (hf : Fresh μ σ σ') :
    Calls P g args' w (Gives μ σ w v σ') := by
  unfold callF at h
  split at h
  case h_2 => cases h
  rename_i fd hfd
  split at h
  · rename_i r hr
    simp only [Option.some.injEq, Prod.mk.injEq] at h
    obtain ⟨rfl, rfl⟩ := h
    obtain ⟨k1, k2, k3⟩ := hS.kn g args _ hr
    have : args' = args.toArray := by rw [← flatL_eq ha k1]
    subst this
    refine (k3 w).mono ?_
    rintro e w' ⟨rfl, hb⟩
    exact ⟨μ, _, rfl, flat_rel μ k2, hR.below hb, Step.of_below hb⟩
  unfold callK at h
  unfold fdOf at hfd
  split at hfd
  case h_2 => cases hfd
  rename_i fn hfn
  split at hfd
  case h_2 => cases hfd
  rename_i c hc
  split at hfd
  · cases hfd
  simp only [Option.some.injEq] at hfd
  subst hfd
  simp only at h
  have hl := ha.length
  simp only [Array.length_toList] at hl
  refine calls_of_wp hfn hc ?_
  split at h
  · cases h
  rename_i hble
  obtain ⟨hle, hcap⟩ := okF_le hble
  have hT : TRel μ (frameT fn.ntmps args) { tmps := args' ++ Array.replicate (fn.ntmps - args'.size) undef, defers := [] } := frameT_rel ha (by omega) hcap
  split at h
  · rename_i ts s1 hih
    split at h
    case h_2 => cases h
    rename_i l hres
    simp only [Option.some.injEq, Prod.mk.injEq] at h
    obtain ⟨rfl, rfl⟩ := h
    refine Code.wp_mono ?_ (hS _ _ _ _ _ _ hih μ _ w hT hR hf)
    rintro e a' w' ⟨rfl, μ', t1, t2, t3⟩
    obtain ⟨v', r1, r2⟩ := results_ok t1 t2 hres
    exact ⟨t1.df, v', r1, μ', v', rfl, r2, t2, t3⟩
  · rename_i ts s1 hih
    split at h
    case h_2 => cases h
    rename_i l hres
    simp only [Option.some.injEq, Prod.mk.injEq] at h
    obtain ⟨rfl, rfl⟩ := h
    refine Code.wp_mono ?_ (hS _ _ _ _ _ _ hih μ _ w hT hR hf)
    rintro e a' w' ⟨rfl, μ', t1, t2, t3⟩
    obtain ⟨v', r1, r2⟩ := results_ok t1 t2 hres
    exact ⟨t1.df, v', r1, μ', v', rfl, r2, t2, t3⟩
  · cases h

/-! an operation -/
theorem callOf_run {P : Program} {ih : Ih} {μ : Mu} {ts : Ts} {a : Act} {o : Oper} {g : FuncId} {args : List Value} {σ σ' : St} {v : Value} (hT : TRel μ ts a) (h : callOf P ts o = some (g, args)) (hc : callF P ih g args σ = some (v, σ')) (w : World) :
    ∃ args' : Array Value, (execOp a.eval o).run P w = .ok (.enter g args') w ∧ LRel μ args args'.toList := by
  have hfn : ∃ fn, P.funcs[g]? = some fn ∧ fn.body.isNone = false ∧ (fn.name == "runtime.NumGoroutine") = false := by
    unfold callF at hc
    split at hc
    case h_2 => cases hc
    rename_i fd hfd
    unfold fdOf at hfd
    split at hfd
    case h_2 => cases hfd
    rename_i fn hfn
    split at hfd
    case h_2 => cases hfd
    rename_i c hb
    split at hfd
    · cases hfd
    · rename_i hn
      exact ⟨fn, hfn, by simp [hb], by simpa using hn⟩
  obtain ⟨fn, f1, f2, f3⟩ := hfn
  have hcf : ∀ args' : Array Value, (callFunc g args').run P w = .ok (.enter g args') w := fun args' => by
    simp only [callFunc, Sem.run_bind, run_program, Result.andThen_ok, f1, f3, f2, Bool.false_eq_true, if_false, Sem.run_pure]
  unfold callOf at h
  split at h
  case h_2 => cases h
  rename_i c ho
  split at h
  · rename_i f hcal
    split at h
    case h_2 => cases h
    rename_i g0 first captured hf
    split at h
    case isFalse => cases h
    rename_i hok
    simp only [Option.some.injEq, Prod.mk.injEq] at h
    obtain ⟨rfl, rfl⟩ := h
    obtain ⟨first', captured', hff, l1, l2⟩ := func_inv (evo_rel hT hf)
    refine ⟨first' ++ c.args.map a.eval ++ captured', ?_, ?_⟩
    · simp only [execOp, ho, resolve, hcal, Deferred.ofValue, hff, pure_bind, invoke, hcf]
    · have := (l1.append (oksL_rel hT _ hok)).append l2
      simpa using this
  · rename_i recv name hcal
    split at h
    case h_2 => cases h
    rename_i t u hrecv
    split at h
    case isFalse => cases h
    rename_i hok
    simp only [Bool.and_eq_true] at hok
    split at h
    case h_2 => cases h
    rename_i g0 rc hm
    split at h
    case isFalse => cases h
    rename_i hfl
    simp only [Option.some.injEq, Prod.mk.injEq] at h
    obtain ⟨rfl, rfl⟩ := h
    obtain ⟨u', huu, hvu⟩ := iface_inv (evo_rel hT hrecv)
    have : u' = u := flat_eq hok.1 hvu
    subst this
    refine ⟨#[rc] ++ c.args.map a.eval, ?_, ?_⟩
    · have hex : (#[a.eval recv] ++ c.args.map a.eval).extract 1 (#[a.eval recv] ++ c.args.map a.eval).size = c.args.map a.eval := by
        apply Array.ext'
        simp
        rw [List.take_of_length_le (by simp)]
      have h0 : (#[a.eval recv] ++ c.args.map a.eval)[0]? = some (.iface t u') := by
        rw [huu, Array.getElem?_append_left (by simp)]; rfl
      simp only [execOp, ho, resolve, hcal, pure_bind, invoke]
      rw [h0, hex]
      simp only [callMethod, Sem.run_bind, run_program, Result.andThen_ok, pureRun_run hm w, hcf]
    · have := LRel.cons (μ := μ) _ _ _ _ (flat_rel μ hfl) (oksL_rel hT _ hok.2)
      simpa using this
  · cases h
theorem opV_wp {P : Program} {ih : Ih} (hS : Sound P ih) {ts : Ts} {σ σ' : St} {o : Oper} {v : Value} (h : opV P ih ts σ o = some (v, σ')) {μ : Mu} {a : Act} {w : World} (hT : TRel μ ts a) (hR : Rel μ σ w) (hf : Fresh μ σ σ') {K : Act → World → Prop} {Q : Exit → Act → World → Prop}
    (hK : ∀ μ' v' w', VRel μ' v v' → Rel μ' σ' w' → Step μ μ' σ σ' w w' → K (a.put o.dst v') w') : o.wp P a w K Q := by
  unfold opV at h
  split at h
  · rename_i g args hc
    obtain ⟨args', h1, h2⟩ := callOf_run hT hc h w
    unfold Oper.wp
    rw [h1, Oper.upon_enter]
    refine (callF_calls hS h h2 hR hf).mono ?_
    rintro e w' ⟨μ', v', rfl, g1, g2, g3⟩
    exact hK μ' v' w' g1 g2 g3
  · obtain ⟨μ', r', w', n, h1, h2, h3, h4, h5⟩ := exec_does hT hR h hf
    unfold Oper.wp
    rw [h1]
    rcases h2 with rfl | ⟨rfl, rfl⟩
    · exact hK μ' r' w' h3 h4 h5
    · exact hK μ' undef w' h3 h4 h5
theorem wantedV_eq {μ : Mu} {ts : Ts} {a : Act} (hT : TRel μ ts a) (all : Array Oper) (o : Oper) : Region.wanted o (yielded all a.tmps) = wantedV all ts o := by
  unfold Region.wanted wantedV
  cases hg : o.guard with
  | none => rfl
  | some jw =>
    obtain ⟨j, want⟩ := jw
    simp only
    unfold yielded
    cases hd : ((all[j]?).bind (·.dst)) with
    | none => rfl
    | some d =>
      simp only [Option.bind_some]
      have hv := hT.get d
      cases hx : a.tmps[d]? with
      | none =>
        have e : a.tmps.getD d undef = undef := by rw [Array.getD_eq_getD_getElem?, hx]; rfl
        rw [e] at hv
        generalize getT ts d = u at hv
        cases hv <;> rfl
      | some x =>
        have e : a.tmps.getD d undef = x := by rw [Array.getD_eq_getD_getElem?, hx]; rfl
        rw [e] at hv
        generalize getT ts d = u at hv
        cases hv with
        | sc h => cases x <;> rfl
        | _ => rfl

/-! a region in the order of its text -/
theorem opsV_size {P : Program} {ih : Ih} {all : Array Oper} : ∀ (l : List Oper) (ts : Ts) (σ : St) (ts' : Ts) (σ' : St), opsV P ih all l ts σ = some (ts', σ') → σ.size ≤ σ'.size
  | [], ts, σ, ts', σ', h => by simp [opsV] at h; obtain ⟨_, rfl⟩ := h; exact Nat.le_refl _
  | o :: rest, ts, σ, ts', σ', h => by
    simp only [opsV] at h
    split at h
    · split at h
      · rename_i v s1 ho
        split at h
        · rename_i hs
          exact Nat.le_trans hs (opsV_size rest _ _ _ _ h)
        · cases h
      · cases h
    · exact opsV_size rest _ _ _ _ h
theorem opsV_wp {P : Program} {ih : Ih} (hS : Sound P ih) {all : Array Oper} {Q : Exit → Act → World → Prop} : ∀ (l : List Oper) (ts : Ts) (σ : St) (ts' : Ts) (σ' : St), opsV P ih all l ts σ = some (ts', σ') → ∀ (μ : Mu) (a : Act) (w : World), TRel μ ts a → Rel μ σ w → Fresh μ σ σ' →
    (∀ a' w', Ends μ σ w ts' σ' a' w' → Q .normal a' w') → wpList P all Q l a w
  | [], ts, σ, ts', σ', h, μ, a, w, hT, hR, hf, hQ => by
    simp [opsV] at h
    obtain ⟨rfl, rfl⟩ := h
    exact hQ a w ⟨μ, hT, hR, Step.refl _ _ _⟩
  | o :: rest, ts, σ, ts', σ', h, μ, a, w, hT, hR, hf, hQ => by
    simp only [opsV] at h
    have hw := wantedV_eq hT all o
    refine wpList_step fun K hK => ?_
    split at h
    · rename_i hwt
      rw [if_pos (by rw [hw]; exact hwt)]
      split at h
      case h_2 => cases h
      rename_i v s1 ho
      split at h
      case isFalse => cases h
      rename_i hs
      have hs2 := opsV_size rest _ _ _ _ h
      refine opV_wp hS ho hT hR (hf.mono hs2) fun μ' v' w' g1 g2 g3 => ?_
      refine hK _ _ (opsV_wp hS rest _ _ _ _ h μ' _ w' ((hT.mono g3.ext).putV g1 o.dst) g2 (g3.fresh hf) ?_)
      rintro a2 w2 ⟨μ2, t1, t2, t3⟩
      exact hQ a2 w2 ⟨μ2, t1, t2, g3.trans t3⟩
    · rename_i hwt
      rw [if_neg (by rw [hw]; exact hwt)]
      exact hK _ _ (opsV_wp hS rest _ _ _ _ h μ _ w (hT.putV (vrel_undef μ) o.dst) hR hf hQ)

/-! code -/
def DrawAt (P : Program) (draw : Ih → Array Oper → Ts → St → Option (Ts × St)) (ih : Ih) : Prop :=
  ∀ ops ts σ ts' σ', draw ih ops ts σ = some (ts', σ') → σ.size ≤ σ'.size ∧ ∀ (id : Nat) (μ : Mu) (a : Act) (w : World), TRel μ ts a → Rel μ σ w → Fresh μ σ σ' →
    (Code.region id ops true).wp P (fun e a' w' => e = .normal ∧ Ends μ σ w ts' σ' a' w') a w
theorem wp_loop_ind {P : Program} {c : Code} {Q : Exit → Act → World → Prop} (J : Nat → Act → World → Prop) (round : ∀ n a w, J n a w → c.wp P (Exit.then (fun a' w' => ∃ m, m < n ∧ J m a' w') Q) a w) {n : Nat} {a : Act} {w : World} (h₀ : J n a w) : (Code.loop c).wp P Q a w := by
  intro b k cs
  have key : ∀ n a w, J n a w → ∃ e a' w', Q e a' w' ∧ Arrives P (lone (b.at a (.code c :: .inLoop c :: k)) cs w) b k cs e a' w' := by
    intro n
    induction n using Nat.strongRecOn with
    | _ n ih =>
      intro a w hJ
      obtain ⟨e, a₁, w₁, hq, harr⟩ := round n a w hJ b (.inLoop c :: k) cs
      cases e with
      | normal =>
        obtain ⟨m, hm, hJ₁⟩ := hq
        obtain ⟨e₂, a₂, w₂, hq₂, harr₂⟩ := ih m hm a₁ w₁ hJ₁
        exact ⟨e₂, a₂, w₂, hq₂, .of_steps (Steps.trans harr (.one step_inLoop)) harr₂⟩
      | exit id => exact ⟨_, a₁, w₁, hq, .pass (x := .inLoop c) rfl (fun _ _ => .inl (by simp)) harr⟩
      | goto l => exact ⟨_, a₁, w₁, hq, .pass (x := .inLoop c) rfl (fun _ _ => .inl (by simp)) harr⟩
      | ret => exact ⟨_, a₁, w₁, hq, .pass (x := .inLoop c) rfl (fun _ _ => .inl (by simp)) harr⟩
      | panic ch => exact ⟨_, a₁, w₁, hq, .pass (x := .inLoop c) rfl (fun _ _ => .inl (by simp)) harr⟩
      | outgrown => exact ⟨_, a₁, w₁, hq, .pass (x := .inLoop c) rfl (fun _ _ => .inl (by simp)) harr⟩
  obtain ⟨e, a', w', hq, harr⟩ := key n a w h₀
  exact ⟨e, a', w', hq, .of_steps (.one step_loop) harr⟩
theorem stepV_sound {P : Program} {draw : Ih → Array Oper → Ts → St → Option (Ts × St)} {ih : Ih} (hd : DrawAt P draw ih) (hS : Sound P ih) (hz : SizeOk ih) (hloop : ∀ b ts σ ex ts' σ', stepV P draw ih (.loop b) ts σ = some (ex, ts', σ') → ∀ μ a w, TRel μ ts a → Rel μ σ w → Fresh μ σ σ' → (Code.loop b).wp P (fun e a' w' => e = ex.of ∧ Ends μ σ w ts' σ' a' w') a w) : Sound P (stepV P draw ih) := by
  refine ⟨hS.kn, ?_⟩
  intro c ts σ ex ts' σ' h μ a w hT hR hf
  cases c
  case loop b => exact hloop b ts σ ex ts' σ' h μ a w hT hR hf
  all_goals simp only [stepV] at h
  case skip => cases h; exact wp_skip ⟨rfl, μ, hT, hR, Step.refl _ _ _⟩
  case label => cases h; exact wp_label ⟨rfl, μ, hT, hR, Step.refl _ _ _⟩
  case exit => cases h; exact wp_exit ⟨rfl, μ, hT, hR, Step.refl _ _ _⟩
  case ret => cases h; exact wp_ret ⟨rfl, μ, hT, hR, Step.refl _ _ _⟩
  case region id ops d =>
    split at h
    case h_2 => cases h
    rename_i ts1 s1 h1
    cases h
    cases d
    · exact wp_region_list (opsV_wp hS _ _ _ _ _ h1 μ a w hT hR hf fun a' w' he => ⟨rfl, he⟩)
    · exact Code.wp_mono (fun e a' w' he => he) ((hd ops ts σ ts' σ' h1).2 id μ a w hT hR hf)
  case seq x y =>
    refine wp_seq ?_
    split at h
    · rename_i ts1 s1 h1
      have hs2 := hz _ _ _ _ _ _ h
      refine Code.wp_mono ?_ (hS _ _ _ _ _ _ h1 μ a w hT hR (hf.mono hs2))
      rintro e a1 w1 ⟨rfl, μ1, t1, t2, t3⟩
      refine Code.wp_mono ?_ (hS _ _ _ _ _ _ h μ1 a1 w1 t1 t2 (t3.fresh hf))
      rintro e a2 w2 ⟨rfl, μ2, u1, u2, u3⟩
      exact ⟨rfl, μ2, u1, u2, t3.trans u3⟩
    · rename_i hn
      refine Code.wp_mono ?_ (hS _ _ _ _ _ _ h μ a w hT hR hf)
      rintro e a1 w1 ⟨rfl, he⟩
      cases ex with
      | norm => exact absurd h (hn _ _)
      | exit id => exact ⟨rfl, he⟩
      | ret => exact ⟨rfl, he⟩
  case cond c x y =>
    split at h
    case h_2 => cases h
    rename_i t hc
    have hcc : a.eval c = .bool t := scalar_eq (by rfl) (evo_rel hT hc)
    exact wp_cond hcc (hS _ _ _ _ _ _ h μ a w hT hR hf)
  case scope b =>
    refine wp_scope_straight (Code.wp_mono ?_ (hS _ _ _ _ _ _ h μ a w hT hR hf))
    rintro e a1 w1 ⟨rfl, he⟩
    cases ex <;> exact ⟨rfl, he⟩
  case block id b =>
    refine wp_block ?_
    split at h
    · rename_i id' ts1 s1 h1
      cases h
      refine Code.wp_mono ?_ (hS _ _ _ _ _ _ h1 μ a w hT hR hf)
      rintro e a1 w1 ⟨rfl, he⟩
      simp only [Exit.inBlock, Ex.of]
      by_cases hid : id' = id
      · rw [if_pos hid]; exact ⟨by simp [hid, Ex.of], he⟩
      · rw [if_neg hid]; exact ⟨by simp [hid, Ex.of], he⟩
    · rename_i hn
      refine Code.wp_mono ?_ (hS _ _ _ _ _ _ h μ a w hT hR hf)
      rintro e a1 w1 ⟨rfl, he⟩
      cases ex with
      | norm => exact ⟨rfl, he⟩
      | exit id => exact absurd h (hn _ _ _)
      | ret => exact ⟨rfl, he⟩
  all_goals cases h
end
end Go.Proofs.YtlnpibboemphnaaGreat.ev

/- The reckoner: what a stretch leaves of its memory, by itself. -/
namespace Go.Proofs.YtlnpibboemphnaaGreat.ev
noncomputable section
open Go.RowKit
set_option linter.unusedSimpArgs false
set_option linter.unusedVariables false
set_option linter.unusedSectionVars false
variable [Kn]

def WfB (σ : St) : Prop := ∀ k B, σ.getB k = some B → k < σ.size
structure Canon (σ σ' : St) : Prop where
  size : σ.size ≤ σ'.size
  wr : σ'.wr ≤ σ.wr
  same : ∀ k, k < σ.size → k < σ'.wr → σ'.getB k = σ.getB k
  wf : WfB σ → WfB σ'
theorem Canon.refl (σ : St) : Canon σ σ := ⟨Nat.le_refl _, Nat.le_refl _, fun _ _ _ => rfl, fun h => h⟩
theorem Canon.trans {a b c : St} (h : Canon a b) (k : Canon b c) : Canon a c :=
  ⟨Nat.le_trans h.size k.size, Nat.le_trans k.wr h.wr, fun i h1 h2 => by
    have := h.size; have := k.wr
    rw [k.same i (by omega) h2, h.same i h1 (by omega)], fun hw => k.wf (h.wf hw)⟩
theorem canon_new {σ : St} (B : Blk) (hs : σ.size < 65536) : Canon σ (σ.newS B) := by
  refine ⟨by simp [St.newS], Nat.le_refl _, fun k h1 h2 => by rw [St.getB_newS σ B k hs, if_neg (by omega)], fun hw k B' hk => ?_⟩
  rw [St.getB_newS σ B k hs] at hk
  by_cases e : k = σ.size
  · subst e; simp [St.newS]
  · rw [if_neg e] at hk
    have := hw k B' hk
    simp [St.newS]; omega
theorem canon_newP {σ σ' : St} {cells : List Value} {esz k : Nat} (h : newP σ cells esz = some (k, σ')) : Canon σ σ' := by
  unfold newP at h
  rw [forceL_eq] at h
  split at h
  · rename_i hs
    cases h
    exact canon_new _ hs
  · cases h
theorem canon_write {σ : St} {k : Nat} {B : Blk} (hB : σ.getB k = some B) (cells : List Value) : Canon σ (σ.write k B cells) := by
  have hklt := St.getB_lt hB
  have hal := St.getB_alive hB
  have hsize : (σ.write k B cells).size = σ.size := by simp [St.write, St.setB, (killL_size B.anc σ).1]
  have hwr := foldl_min_le (k :: B.anc) σ.wr
  have h4 : (σ.write k B cells).wr = (k :: B.anc).foldl min σ.wr := rfl
  refine ⟨by rw [hsize]; exact Nat.le_refl _, hwr.1, fun m h1 h2 => ?_, fun hw m B' hm => ?_⟩
  · rw [St.getB_write σ k m B cells hklt hal]
    have e1 : m ≠ k := fun e => by have := hwr.2 k (by simp); omega
    have e2 : m ∉ B.anc := fun e => by have := hwr.2 m (by simp [e]); omega
    simp [e1, e2]
  · rw [St.getB_write σ k m B cells hklt hal] at hm
    rw [hsize]
    by_cases e1 : m = k
    · subst e1; exact hw m B hB
    · rw [if_neg e1] at hm
      by_cases e2 : m ∈ B.anc
      · rw [if_pos e2] at hm; cases hm
      · rw [if_neg e2] at hm; exact hw m B' hm
theorem canon_cont {σ : St} {k : Nat} {B : Blk} (hB : σ.getB k = some B) (hs : σ.size < 65536) (cells : List Value) : Canon σ (σ.cont k B cells) := by
  have hsize : (σ.cont k B cells).size = σ.size + 1 := by simp [St.cont, St.newS, St.setB]
  have h4 : (σ.cont k B cells).wr = min σ.wr k := rfl
  refine ⟨by omega, by omega, fun m h1 h2 => by rw [St.getB_cont σ k m B cells hB hs, if_neg (by omega), if_neg (by omega)], fun hw m B' hm => ?_⟩
  rw [St.getB_cont σ k m B cells hB hs] at hm
  rw [hsize]
  by_cases e0 : m = σ.size
  · omega
  · rw [if_neg e0] at hm
    by_cases e1 : m = k
    · have := hw k B hB; omega
    · rw [if_neg e1] at hm; have := hw m B' hm; omega
theorem canon_map {σ σ' : St} {x : Option (Nat × St)} {f : Nat × St → Value} {r : Value} (hx : ∀ p, x = some p → Canon σ p.2) (h : (x.map fun p => (f p, p.2)) = some (r, σ')) : Canon σ σ' := by
  simp only [Option.map_eq_some_iff, Prod.mk.injEq] at h
  obtain ⟨p, h1, _, rfl⟩ := h
  exact hx p h1
theorem canon_newP' {σ : St} {cells : List Value} {esz : Nat} (p : Nat × St) (h : newP σ cells esz = some p) : Canon σ p.2 := canon_newP (k := p.1) h
theorem canon_one {σ σ' : St} {x : Option Value} {r : Value} (h : one σ x = some (r, σ')) : Canon σ σ' := by
  obtain ⟨_, rfl⟩ := one_some h; exact Canon.refl _
theorem canon_pure {P : Program} {σ σ' : St} {ts : Ts} {o : Oper} {r : Value} (h : pureV P σ ts o = some (r, σ')) : Canon σ σ' := by
  unfold pureV at h
  simp only [Option.map_eq_some_iff, Prod.mk.injEq] at h
  obtain ⟨_, _, _, rfl⟩ := h
  exact Canon.refl _
theorem canon_or {P : Program} {σ σ' : St} {ts : Ts} {o : Oper} {x : Option (Value × St)} {r : Value} (h : orElse x (fun _ => pureV P σ ts o) = some (r, σ')) (hx : ∀ {v s}, x = some (v, s) → Canon σ s) : Canon σ σ' := by
  rcases orElse_some h with h | h
  · exact hx h
  · exact canon_pure h
theorem canon_append {P : Program} {σ σ' : St} {t : TypeId} {s x r : Value} (h : appendV P σ t s x = some (r, σ')) : Canon σ σ' := by
  unfold appendV at h
  simp only [forceL_eq] at h
  split at h
  case h_2 => cases h
  split at h
  case h_2 => cases h
  split at h
  case h_2 => cases h
  split at h
  case h_2 => cases h
  split at h
  case isFalse => cases h
  split at h
  · split at h
    · cases h; exact Canon.refl _
    · cases h
  · split at h
    · cases h
    · split at h
      · split at h
        · exact canon_map canon_newP' h
        · cases h
      · split at h
        · split at h
          · split at h
            · rename_i B hB
              split at h
              · cases h; exact canon_write hB _
              · cases h
            · cases h
          · split at h
            · exact canon_map canon_newP' h
            · cases h
        · split at h
          · split at h
            · rename_i B hB
              split at h
              · split at h
                · split at h
                  · rename_i hs
                    cases h; exact canon_cont hB hs _
                  · cases h
                · split at h
                  · cases h; exact canon_write hB _
                  · cases h
              · cases h
            · cases h
          · cases h
      · cases h
theorem canon_zeros {P : Program} {σ σ' : St} {t t2 : TypeId} {s x r : Value} (h : zerosV P σ t t2 s x = some (r, σ')) : Canon σ σ' := by
  unfold zerosV at h
  split at h
  case h_2 => cases h
  split at h
  case h_2 => cases h
  split at h
  case h_2 => cases h
  split at h
  case h_2 => cases h
  split at h
  case isFalse => cases h
  exact canon_map canon_newP' h
theorem canon_builtin {P : Program} {σ σ' : St} {ts : Ts} {b : Builtin} {tys : List TypeId} {args : List Operand} {r : Value} (h : builtinV P σ ts b tys args = some (r, σ')) : Canon σ σ' := by
  unfold builtinV at h
  split at h
  · split at h
    · simp only [Option.map_eq_some_iff, Prod.mk.injEq] at h
      obtain ⟨_, _, _, rfl⟩ := h; exact Canon.refl _
    · cases h
  · split at h
    · simp only [Option.map_eq_some_iff, Prod.mk.injEq] at h
      obtain ⟨_, _, _, rfl⟩ := h; exact Canon.refl _
    · cases h
  · split at h
    · unfold clearV at h
      split at h
      · split at h
        · cases h; exact Canon.refl _
        · cases h
      · split at h
        case h_2 => cases h
        split at h
        case h_2 => cases h
        split at h
        case h_2 => cases h
        split at h
        case h_2 => cases h
        rename_i B hB
        split at h
        · cases h; exact canon_write hB _
        · cases h
      · cases h
    · cases h
  · split at h
    · split at h
      · exact canon_append h
      · cases h
    · split at h
      · exact canon_zeros h
      · cases h
  · split at h
    · unfold copyV at h
      split at h
      case h_2 => cases h
      split at h
      case h_2 => cases h
      split at h
      case h_2 => cases h
      split at h
      · cases h; exact Canon.refl _
      · split at h
        case h_2 => cases h
        rename_i xs B hxs hB
        split at h
        · cases h; exact canon_write hB _
        · cases h
    · cases h
  · cases h
theorem canon_exec {P : Program} {σ σ' : St} {ts : Ts} {o : Oper} {r : Value} (h : exec P σ ts o = some (r, σ')) : Canon σ σ' := by
  unfold exec at h
  split at h
  case h_1 => exact canon_one h
  case h_2 => exact canon_one h
  case h_3 => unfold xPick at h; split at h; · exact canon_one h
              cases h
  case h_4 =>
    unfold allocV at h
    split at h
    case h_2 => cases h
    split at h
    case h_2 => cases h
    split at h
    · exact canon_map canon_newP' h
    · cases h
  case h_5 => unfold xBox at h; split at h; · exact canon_map canon_newP' h
              cases h
  case h_6 => exact canon_one h
  case h_7 =>
    unfold buildSliceV at h
    split at h
    case isFalse => cases h
    split at h
    case h_2 => cases h
    split at h
    case h_2 => cases h
    split at h
    case h_2 => cases h
    split at h
    case isFalse => cases h
    split at h
    case h_2 => cases h
    exact canon_map canon_newP' h
  case h_8 => unfold xLoad at h; split at h; · exact canon_one h
              cases h
  case h_9 =>
    unfold xStore at h
    split at h
    case h_2 => cases h
    unfold xUnit at h
    split at h
    case h_2 => cases h
    rename_i hs
    cases h
    unfold storeB at hs
    simp only [forceL_eq] at hs
    split at hs
    case h_2 => cases hs
    rename_i B hB
    split at hs
    case h_2 => cases hs
    split at hs
    · cases hs; exact canon_write hB _
    · cases hs
  case h_10 => unfold xNil at h; split at h; · exact canon_or h canon_one
               cases h
  case h_11 =>
    unfold xBin at h
    split at h
    · unfold xInt at h
      split at h
      · exact canon_or h canon_one
      · exact canon_pure h
    · exact canon_or h canon_one
    · cases h
  case h_12 =>
    unfold xNot at h
    split at h
    · split at h
      · cases h; exact Canon.refl _
      · cases h
    · exact canon_pure h
  case h_13 => unfold xIface at h; split at h; · exact canon_one h
               cases h
  case h_14 => exact canon_one h
  case h_15 =>
    unfold xMake at h
    split at h
    case h_2 => cases h
    unfold makeSliceV at h
    split at h
    case h_2 => cases h
    split at h
    case h_2 => cases h
    split at h
    case h_2 => cases h
    split at h
    case h_2 => cases h
    split at h
    · exact canon_map canon_newP' h
    · cases h
  case h_16 => unfold xSlice at h; split at h; · exact canon_or h canon_one
               cases h
  case h_17 => unfold xFieldAddr at h; split at h; · exact canon_one h
               cases h
  case h_18 => unfold xField at h; split at h; · exact canon_one h
               cases h
  case h_19 => unfold xIndexAddr at h; split at h; · exact canon_one h
               cases h
  case h_20 => unfold xIndex at h; split at h; · exact canon_or h canon_one
               cases h
  case h_21 => unfold xExtract at h; split at h; · exact canon_one h
               cases h
  case h_22 => unfold xCall at h; split at h; · exact canon_or h canon_builtin
               cases h
  case h_23 => exact canon_pure h
def CanonOk (ih : Ih) : Prop := ∀ c ts σ ex ts' σ', ih c ts σ = some (ex, ts', σ') → Canon σ σ'
theorem canon_call {P : Program} {ih : Ih} (hC : CanonOk ih) {g : FuncId} {args : List Value} {σ σ' : St} {v : Value} (h : callF P ih g args σ = some (v, σ')) : Canon σ σ' := by
  unfold callF at h
  split at h
  case h_2 => cases h
  split at h
  · cases h; exact Canon.refl _
  unfold callK at h
  split at h
  · cases h
  split at h
  · rename_i hih
    split at h
    · cases h; exact hC _ _ _ _ _ _ hih
    · cases h
  · rename_i hih
    split at h
    · cases h; exact hC _ _ _ _ _ _ hih
    · cases h
  · cases h
theorem canon_op {P : Program} {ih : Ih} (hC : CanonOk ih) {ts : Ts} {σ σ' : St} {o : Oper} {v : Value} (h : opV P ih ts σ o = some (v, σ')) : Canon σ σ' := by
  unfold opV at h
  split at h
  · exact canon_call hC h
  · exact canon_exec h
theorem canon_ops {P : Program} {ih : Ih} (hC : CanonOk ih) {all : Array Oper} : ∀ (l : List Oper) (ts : Ts) (σ : St) (ts' : Ts) (σ' : St), opsV P ih all l ts σ = some (ts', σ') → Canon σ σ'
  | [], ts, σ, ts', σ', h => by simp [opsV] at h; obtain ⟨_, rfl⟩ := h; exact Canon.refl _
  | o :: rest, ts, σ, ts', σ', h => by
    simp only [opsV] at h
    split at h
    · split at h
      · rename_i ho
        split at h
        · exact (canon_op hC ho).trans (canon_ops hC rest _ _ _ _ h)
        · cases h
      · cases h
    · exact canon_ops hC rest _ _ _ _ h
end
end Go.Proofs.YtlnpibboemphnaaGreat.ev

/- The reckoner: a region that draws its order. -/
namespace Go.Proofs.YtlnpibboemphnaaGreat.ev
noncomputable section
open Go.RowKit
set_option linter.unusedSimpArgs false
set_option linter.unusedVariables false
set_option linter.unusedSectionVars false
variable [Kn]

/-! an operation, by what it looks at -/
def OpRuns (P : Program) (μ : Mu) (σ : St) (w : World) (s : Sem Next) (v : Value) (σ' : St) : Prop :=
  (∃ μ' r' w' n, s.run P w = .ok n w' ∧ (n = .value r' ∨ (n = .skip ∧ r' = undef)) ∧ VRel μ' v r' ∧ Rel μ' σ' w' ∧ Step μ μ' σ σ' w w') ∨
  (∃ g args', s.run P w = .ok (.enter g args') w ∧ Calls P g args' w (Gives μ σ w v σ'))
theorem opV_runs {P : Program} {ih : Ih} (hS : Sound P ih) {ts : Ts} {σ σ' : St} {o : Oper} {v : Value} (h : opV P ih ts σ o = some (v, σ')) {μ : Mu} {a : Act} {w : World} (hT : TRel μ ts a) (hR : Rel μ σ w) (hf : Fresh μ σ σ') : OpRuns P μ σ w (execOp a.eval o) v σ' := by
  unfold opV at h
  split at h
  · rename_i g args hc
    obtain ⟨args', h1, h2⟩ := callOf_run hT hc h w
    exact .inr ⟨g, args', h1, callF_calls hS h h2 hR hf⟩
  · exact .inl (exec_does hT hR h hf)
theorem OpRuns.wp {P : Program} {μ : Mu} {σ σ' : St} {w : World} {v : Value} {o : Oper} {a : Act} (h : OpRuns P μ σ w (execOp a.eval o) v σ') {K : Act → World → Prop} {Q : Exit → Act → World → Prop}
    (hK : ∀ μ' v' w', VRel μ' v v' → Rel μ' σ' w' → Step μ μ' σ σ' w w' → K (a.put o.dst v') w') : o.wp P a w K Q := by
  rcases h with ⟨μ', r', w', n, h1, h2, h3, h4, h5⟩ | ⟨g, args', h1, h2⟩
  · unfold Oper.wp
    rw [h1]
    rcases h2 with rfl | ⟨rfl, rfl⟩
    · exact hK μ' r' w' h3 h4 h5
    · exact hK μ' undef w' h3 h4 h5
  · unfold Oper.wp
    rw [h1, Oper.upon_enter]
    refine h2.mono ?_
    rintro e w' ⟨μ', v', rfl, g1, g2, g3⟩
    exact hK μ' v' w' g1 g2 g3
theorem fillT_eq : ∀ (l : List Value) (k : Nat) (ts : Ts), ts.n ≤ 2 ^ ts.d → k + l.length ≤ ts.n →
    (fillT k l ts).n = ts.n ∧ (fillT k l ts).d = ts.d ∧ ∀ t, (t < k ∨ k + l.length ≤ t → getT (fillT k l ts) t = getT ts t) ∧ (k ≤ t → t < k + l.length → getT (fillT k l ts) t = l.getD (t - k) undef)
  | [], k, ts, hd, hn => ⟨rfl, rfl, fun t => ⟨fun _ => rfl, fun a b => by simp at b; omega⟩⟩
  | v :: l, k, ts, hd, hn => by
    simp only [List.length_cons] at hn
    obtain ⟨s1, s2⟩ := setT_n ts k v
    obtain ⟨i1, i2, i3⟩ := fillT_eq l (k + 1) (setT ts k v) (by rw [s1, s2]; exact hd) (by rw [s1]; omega)
    refine ⟨i1.trans s1, i2.trans s2, fun t => ⟨fun ht => ?_, fun h1 h2 => ?_⟩⟩
    · simp only [List.length_cons] at ht
      show getT (fillT (k + 1) l (setT ts k v)) t = _
      rw [(i3 t).1 (by omega), getT_setT ts hd k t v (by omega), if_neg (by omega)]
    · simp only [List.length_cons] at h2
      show getT (fillT (k + 1) l (setT ts k v)) t = _
      by_cases e : t = k
      · subst e
        rw [(i3 t).1 (by omega), getT_setT ts hd t t v (by omega), if_pos rfl]
        simp
      · rw [(i3 t).2 (by omega) (by omega), show t - k = (t - (k + 1)) + 1 by omega]
        simp
/-- what an operation looks at decides it -/
theorem evo_eq {ts ts' : Ts} {x : Operand} (h : ∀ t, x = .tmp t → getT ts' t = getT ts t) : evo ts' x = evo ts x := by
  cases x with
  | tmp t => simp only [evo, h t rfl]
  | _ => rfl
theorem opV_congr {P : Program} {ih : Ih} {ts ts' : Ts} {σ : St} {o : Oper} (h : ∀ t, (.tmp t) ∈ o.op.operands → getT ts' t = getT ts t) : opV P ih ts' σ o = opV P ih ts σ o := by
  have he : ∀ x ∈ o.op.operands, evo ts' x = evo ts x := fun x hx => evo_eq fun t e => h t (e ▸ hx)
  have hflat : ∀ l : List Operand, (∀ x ∈ l, x ∈ o.op.operands) → allFlat ts' l = allFlat ts l := by
    intro l
    induction l with
    | nil => intro _; rfl
    | cons x l ih => intro hl; simp only [allFlat, he x (hl x (by simp)), ih (fun y hy => hl y (by simp [hy]))]
  have hoks : ∀ l : List Operand, (∀ x ∈ l, x ∈ o.op.operands) → oksL ts' l = oksL ts l ∧ l.map (vof ts') = l.map (vof ts) := by
    intro l
    induction l with
    | nil => intro _; exact ⟨rfl, rfl⟩
    | cons x l ih =>
      intro hl
      obtain ⟨i1, i2⟩ := ih (fun y hy => hl y (by simp [hy]))
      have hx := he x (hl x (by simp))
      refine ⟨?_, ?_⟩
      · unfold oksL at *; simp only [List.all_cons, hx, i1]
      · simp only [List.map_cons, i2, vof, hx]
  have hparts : ∀ l : List (Nat × Operand), (∀ p ∈ l, p.2 ∈ o.op.operands) → oksP ts' l = oksP ts l ∧ (l.map fun p => (p.1, vof ts' p.2)) = l.map fun p => (p.1, vof ts p.2) := by
    intro l
    induction l with
    | nil => intro _; exact ⟨rfl, rfl⟩
    | cons x l ih =>
      intro hl
      obtain ⟨i1, i2⟩ := ih (fun y hy => hl y (by simp [hy]))
      have hx := he x.2 (hl x (by simp))
      have hvx : vof ts' x.2 = vof ts x.2 := by unfold vof; rw [hx]
      refine ⟨?_, ?_⟩
      · unfold oksP at *; simp only [List.all_cons, hx, i1]
      · rw [List.map_cons, List.map_cons, i2, hvx]
  have hpure : pureV P σ ts' o = pureV P σ ts o := by
    unfold pureV pureOp
    rw [hflat _ (fun x hx => by simpa using hx)]
    by_cases hsel : isSelect o.op = true
    · simp [hsel]
    · have : execOp (fun x => (evo ts' x).getD undef) o = execOp (fun x => (evo ts x).getD undef) o :=
        execOp_congr o (fun cs b e => hsel (by rw [e]; rfl)) fun x hx => by rw [he x hx]
      rw [this]
  have hex : exec P σ ts' o = exec P σ ts o := by
    unfold exec
    split
    case h_1 x ho => rw [he x (by simp [ho, Op.operands])]
    case h_2 x ho => rw [he x (by simp [ho, Op.operands])]
    case h_3 c x y ho =>
      have e1 := he x (by simp [ho, Op.operands])
      have e2 := he y (by simp [ho, Op.operands])
      rw [he c (by simp [ho, Op.operands])]
      unfold xPick
      split
      · rename_i t _
        cases t <;> simp only [e1, e2]
      · rfl
    case h_4 => rfl
    case h_5 e x ho => rw [he x (by simp [ho, Op.operands])]
    case h_6 t ps ho =>
      obtain ⟨p1, p2⟩ := hparts ps.toList (fun p hp => by simp only [ho, Op.operands, List.mem_toArray, List.mem_map]; exact ⟨p, hp, rfl⟩)
      unfold buildV
      rw [p1, p2]
    case h_7 t n ps ho =>
      obtain ⟨p1, p2⟩ := hparts ps.toList (fun p hp => by simp only [ho, Op.operands, List.mem_toArray, List.mem_map]; exact ⟨p, hp, rfl⟩)
      unfold buildSliceV
      rw [p1, p2]
    case h_8 t x ho => rw [he x (by simp [ho, Op.operands])]
    case h_9 t x y ho => rw [he x (by simp [ho, Op.operands]), he y (by simp [ho, Op.operands])]
    case h_10 x ho => rw [he x (by simp [ho, Op.operands])]; unfold xNil; rw [hpure]
    case h_11 op t x y t' ho => rw [he x (by simp [ho, Op.operands]), he y (by simp [ho, Op.operands])]; unfold xBin xInt; rw [hpure]
    case h_12 op t x ho => rw [he x (by simp [ho, Op.operands])]; unfold xNot; rw [hpure]
    case h_13 t x ho => rw [he x (by simp [ho, Op.operands])]
    case h_14 f first captured ho =>
      obtain ⟨p1, p2⟩ := hoks first.toList (fun x hx => by simp [ho, Op.operands]; left; simpa using hx)
      obtain ⟨q1, q2⟩ := hoks captured.toList (fun x hx => by simp [ho, Op.operands]; right; simpa using hx)
      unfold makeFuncV
      rw [p1, p2, q1, q2]
    case h_15 t x y ho => rw [he x (by simp [ho, Op.operands]), he y (by simp [ho, Op.operands])]
    case h_16 t x lo hi mx ho =>
      have hv : ∀ y : Option Operand, (∀ z, y = some z → z ∈ o.op.operands) → evos ts' y = evos ts y := by
        intro y hy
        cases y with
        | none => rfl
        | some z => simp only [evos, he z (hy z rfl)]
      rw [he x (by simp [ho, Op.operands]), hv lo (fun z e => by subst e; simp [ho, Op.operands]), hv hi (fun z e => by subst e; simp [ho, Op.operands]), hv mx (fun z e => by subst e; simp [ho, Op.operands])]
      unfold xSlice; rw [hpure]
    case h_17 s x f ho => rw [he x (by simp [ho, Op.operands])]
    case h_18 t x f ho => rw [he x (by simp [ho, Op.operands])]
    case h_19 t x y ho => rw [he x (by simp [ho, Op.operands]), he y (by simp [ho, Op.operands])]
    case h_20 t x y ho => rw [he x (by simp [ho, Op.operands]), he y (by simp [ho, Op.operands])]; unfold xIndex; rw [hpure]
    case h_21 x ix ho => rw [he x (by simp [ho, Op.operands])]
    case h_22 c ho =>
      unfold xCall
      split
      · rename_i b hc
        have hargs : ∀ x ∈ c.args.toList, x ∈ o.op.operands := fun x hx => by simp only [ho, Op.operands, Call.operands]; simp; right; simpa using hx
        have : builtinV P σ ts' b c.argTypes.toList c.args.toList = builtinV P σ ts b c.argTypes.toList c.args.toList := by
          generalize c.args.toList = l at hargs
          generalize c.argTypes.toList = tys
          unfold builtinV
          split
          · rename_i t x; rw [he x (hargs x (by simp))]
          · rename_i t x; rw [he x (hargs x (by simp))]
          · rename_i t x; rw [he x (hargs x (by simp))]
          · rename_i t t2 x y; rw [he x (hargs x (by simp)), he y (hargs y (by simp))]
          · rename_i t t2 x y; rw [he x (hargs x (by simp)), he y (hargs y (by simp))]
          · rfl
        rw [this, hpure]
      · rfl
    case h_23 => exact hpure
  have hcall : callOf P ts' o = callOf P ts o := by
    unfold callOf
    split
    · rename_i c ho
      have hargs : ∀ x ∈ c.args.toList, x ∈ o.op.operands := fun x hx => by simp only [ho, Op.operands, Call.operands]; simp; right; simpa using hx
      obtain ⟨p1, p2⟩ := hoks c.args.toList hargs
      split
      · rename_i f hc
        rw [he f (by simp [ho, Op.operands, Call.operands, hc]), p1, p2]
      · rename_i recv name hc
        rw [he recv (by simp [ho, Op.operands, Call.operands, hc]), p1, p2]
      · rfl
    · rfl
  unfold opV
  rw [hcall, hex]
theorem opV_part {P : Program} {ih : Ih} (hS : Sound P ih) {ts : Ts} {σ σ' : St} {o : Oper} {v : Value} (hsel : ∀ cs b, o.op ≠ .select cs b) (h : opV P ih ts σ o = some (v, σ')) {μ : Mu} {a : Act} {w : World} (hT : ∀ t, (.tmp t) ∈ o.op.operands → VRel μ (getT ts t) (a.tmps.getD t undef)) (hR : Rel μ σ w) (hf : Fresh μ σ σ') (hna : a.tmps.size ≤ 512) (hnt : ts.n ≤ 512) : OpRuns P μ σ w (execOp a.eval o) v σ' := by
  -- a frame that holds what is looked at, and nothing else
  let n := a.tmps.size
  let keep : Nat → Bool := fun t => o.op.operands.toList.any fun | .tmp u => u == t | _ => false
  have hkeep : ∀ t, keep t = true ↔ (.tmp t) ∈ o.op.operands := by
    intro t
    simp only [keep, List.any_eq_true]
    constructor
    · rintro ⟨x, hx, hx2⟩
      cases x <;> simp at hx2
      subst hx2; simpa using hx
    · intro hx
      exact ⟨.tmp t, by simpa using hx, by simp⟩
  let m := max n ts.n
  have h0m : a.tmps.size ≤ m := Nat.le_max_left _ _
  have h1m : ts.n ≤ m := Nat.le_max_right _ _
  let l : List Value := (List.range m).map fun t => if keep t then getT ts t else undef
  let l' : List Value := (List.range m).map fun t => if keep t then a.tmps.getD t undef else undef
  let ts' := frameT m l
  have hl : l.length = m := by simp [l]
  have hcap : m ≤ 512 := Nat.max_le.2 ⟨hna, hnt⟩
  have hsn : (slots0 m).n = m := by rw [slots0_eq]
  have hd : (slots0 m).n ≤ 2 ^ (slots0 m).d := by rw [hsn]; exact hcap
  have hlr : LRel μ l l' := by
    refine LRel.map _ fun t _ => ?_
    by_cases hk : keep t = true
    · simp only [hk, if_true]; exact hT t ((hkeep t).1 hk)
    · simp only [hk]; exact vrel_undef μ
  obtain ⟨e1, e2, e3⟩ := fillT_eq l 0 (slots0 m) hd (by rw [hl, hsn]; omega)
  have hget : ∀ t, (.tmp t) ∈ o.op.operands → getT ts' t = getT ts t := by
    intro t ht
    by_cases hm : t < m
    · have := (e3 t).2 (by omega) (by rw [hl]; omega)
      show getT (fillT 0 l _) t = _
      rw [this]
      simp [l, List.getD_eq_getElem?_getD, hm, (hkeep t).2 ht]
    · have h1 : getT ts' t = undef := by
        show getT (fillT 0 l _) t = _
        rw [(e3 t).1 (by rw [hl]; exact .inr (by simpa using Nat.le_of_not_lt hm))]
        exact getT_slots0 hcap t
      have h2 : getT ts t = undef := getT_ge (fun h => hm (Nat.lt_of_lt_of_le h h1m))
      rw [h1, h2]
  let a' : Act := { tmps := l'.toArray ++ Array.replicate (m - l'.toArray.size) undef, defers := [] }
  have hT' : TRel μ ts' a' := frameT_rel (args := l) (args' := l'.toArray) (n := m) (by simpa using hlr) (by rw [hl]; exact Nat.le_refl _) hcap
  have hr := opV_runs hS (ts := ts') (by rw [opV_congr hget]; exact h) hT' hR hf
  have hev : execOp a'.eval o = execOp a.eval o := by
    refine execOp_congr o hsel fun x hx => ?_
    cases x with
    | tmp t =>
      show a'.tmps.getD t undef = a.tmps.getD t undef
      have hl2 : l'.toArray.size = m := by simp [l']
      by_cases hm : t < m
      · simp only [a', Array.getD_eq_getD_getElem?]
        rw [Array.getElem?_append_left (by rw [hl2]; exact hm)]
        simp [l', hm, (hkeep t).2 hx, Array.getD_eq_getD_getElem?]
      · have h1 : a'.tmps.getD t undef = undef := by
          simp only [a', Array.getD_eq_getD_getElem?]
          rw [Array.getElem?_append_right (by rw [hl2]; exact Nat.le_of_not_lt hm), Array.getElem?_replicate]
          split <;> rfl
        have h2 : a.tmps.getD t undef = undef := by
          rw [Array.getD_eq_getD_getElem?, Array.getElem?_eq_none (Nat.le_trans h0m (Nat.le_of_not_lt hm))]; rfl
        rw [h1, h2]
    | _ => rfl
  rw [hev] at hr
  exact hr
theorem wanted_part {μ : Mu} {ts : Ts} {a : Act} (all : Array Oper) (o : Oper) (hT : ∀ j want d, o.guard = some (j, want) → (all[j]?).bind (·.dst) = some d → VRel μ (getT ts d) (a.tmps.getD d undef)) : Region.wanted o (yielded all a.tmps) = wantedV all ts o := by
  unfold Region.wanted wantedV
  cases hg : o.guard with
  | none => rfl
  | some jw =>
    obtain ⟨j, want⟩ := jw
    simp only
    unfold yielded
    cases hd : ((all[j]?).bind (·.dst)) with
    | none => rfl
    | some d =>
      simp only [Option.bind_some]
      have hv := hT j want d hg hd
      cases hx : a.tmps[d]? with
      | none =>
        have e : a.tmps.getD d undef = undef := by rw [Array.getD_eq_getD_getElem?, hx]; rfl
        rw [e] at hv
        generalize getT ts d = u at hv
        cases hv <;> rfl
      | some x =>
        have e : a.tmps.getD d undef = x := by rw [Array.getD_eq_getD_getElem?, hx]; rfl
        rw [e] at hv
        generalize getT ts d = u at hv
        cases hv with
        | sc h => cases x <;> rfl
        | _ => rfl
end
end Go.Proofs.YtlnpibboemphnaaGreat.ev

