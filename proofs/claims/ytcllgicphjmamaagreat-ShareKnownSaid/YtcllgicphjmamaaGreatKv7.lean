/- The reckoner: operations told apart, code, calls. -/
import Derived.Test.YtcllgicphjmamaaGreatKv6
namespace Go.Proofs.YtcllgicphjmamaaGreat.ev
noncomputable section
open Go.RowKit
set_option linter.unusedSimpArgs false
set_option linter.unusedVariables false
set_option linter.unusedSectionVars false

/-! the other builtins -/
def lenV (P : Program) (t : TypeId) (v : Value) : Option Value :=
  match P.underlying t, v with
  | some (.slice _), .slice _ n _ => some (.int .i64 n)
  | _, _ => none
theorem lenV_does {P : Program} {μ : Mu} {σ : St} {w : World} {t ty : TypeId} {v v' r : Value} (hR : Rel μ σ w) (hv : VRel μ v v') (he : lenV P t v = some r) : DoesV P μ σ w (Builtin.len_ #[t] ty #[v']) r σ := by
  unfold lenV at he
  split at he
  · rename_i e q n c hu
    simp only [Option.some.injEq] at he
    subst he
    have : ∃ q' c', v' = .slice q' n c' := by cases hv <;> exact ⟨_, _, rfl⟩
    obtain ⟨q', c', rfl⟩ := this
    exact ⟨μ, _, w, by simp [Builtin.len_, run_underlying hu]; rfl, .sc _ rfl, hR, Step.refl _ _ _⟩
  · cases he
def capV (P : Program) (t : TypeId) (v : Value) : Option Value :=
  match P.underlying t, v with
  | some (.slice _), .slice _ n c => if c < opn then some (.int .i64 c) else none
  | _, _ => none
theorem capV_does {P : Program} {μ : Mu} {σ : St} {w : World} {t ty : TypeId} {v v' r : Value} (hR : Rel μ σ w) (hv : VRel μ v v') (he : capV P t v = some r) : DoesV P μ σ w (Builtin.cap_ #[t] ty #[v']) r σ := by
  unfold capV at he
  split at he
  · rename_i e q n c hu
    split at he
    · rename_i hc
      simp only [Option.some.injEq] at he
      subst he
      have : ∃ q' n', v' = .slice q' n' c := by
        cases hv with
        | sc v h => exact ⟨_, _, rfl⟩
        | slc k o n c L h hc => exact ⟨_, _, rfl⟩
        | slo k o n c L h hn hs => omega
        | sle k o o' L h hs => omega
      obtain ⟨q', n', rfl⟩ := this
      exact ⟨μ, _, w, by simp [Builtin.cap_, run_underlying hu]; rfl, .sc _ rfl, hR, Step.refl _ _ _⟩
    · cases he
  · cases he
def copyV (P : Program) (σ : St) (t : TypeId) (d s : Value) : Option (Value × St) :=
  match P.underlying t with
  | some (.slice e) => match P.info? e with
    | some i => match d, s with
      | .slice (some ⟨k, o, none⟩) l c, .slice sq m sc =>
        if Nat.min m l = 0 then some (.int .i64 0, σ) else
        match rowOf σ (.slice sq m sc) i.size (Nat.min m l), σ.getB k with
        | some xs, some B => if B.tip = true ∧ o + xs.length ≤ B.cells.length ∧ xs.all (·.oneCell') = true then
            some (.int .i64 (Nat.min m l : Nat), σ.write k B (B.cells.take o ++ xs ++ B.cells.drop (o + xs.length))) else none
        | _, _ => none
      | _, _ => none
    | none => none
  | _ => none
theorem copyV_does {P : Program} {μ : Mu} {σ σ' : St} {w : World} {t t2 ty : TypeId} {d d' s s' r : Value} (hR : Rel μ σ w) (hd : VRel μ d d') (hs : VRel μ s s') (he : copyV P σ t d s = some (r, σ')) : DoesV P μ σ w (Builtin.copy_ #[t, t2] ty #[d', s']) r σ' := by
  unfold copyV at he
  split at he
  case h_2 => cases he
  rename_i e ht
  split at he
  case h_2 => cases he
  rename_i i hi
  split at he
  case h_2 => cases he
  rename_i k o l c sq m sc
  obtain ⟨L, hL, hdd⟩ := slc_inv hd
  have hs' : ∃ q' c', s' = .slice q' m c' := by cases hs <;> exact ⟨_, _, rfl⟩
  obtain ⟨q', c', rfl⟩ := hs'
  have hd' : ∃ q2 c2, d' = .slice (some q2) l c2 := by
    rcases hdd with ⟨_, h⟩ | ⟨_, c', _, _, h⟩ | ⟨_, h0, _, o', h⟩
    · exact ⟨_, _, h⟩
    · exact ⟨_, _, h⟩
    · subst h0; exact ⟨_, _, h⟩
  obtain ⟨q2, c2, rfl⟩ := hd'
  split at he
  · rename_i h0
    simp only [Option.some.injEq, Prod.mk.injEq] at he
    obtain ⟨rfl, rfl⟩ := he
    have hf : (Builtin.firstCells i.size 0 (.slice q' m c')).run P w = .ok #[] w := by
      cases q' with
      | none => simp [Builtin.firstCells]
      | some a => simp [Builtin.firstCells, loadCells, loadCellsFrom]
    refine ⟨μ, _, w, ?_, .sc _ rfl, hR, Step.refl _ _ _⟩
    have h0' : m.min l = 0 := h0
    simp [Builtin.copy_, run_underlying ht, Builtin.lenOf, h0', sizeOf, typeInfo, hi, hf, storeCells]
    rfl
  · rename_i h0
    split at he
    case h_2 => cases he
    rename_i xs B hxs hB
    split at he
    case isFalse => cases he
    rename_i hcc
    obtain ⟨htip, hfit, hall⟩ := hcc
    simp only [Option.some.injEq, Prod.mk.injEq] at he
    obtain ⟨rfl, rfl⟩ := he
    obtain ⟨xs', x1, x2, x3, x4⟩ := rowOf_rel hR hs hxs
    have hpos : 0 < m.min l := Nat.pos_of_ne_zero h0
    have hl0 : l ≠ 0 := fun e => h0 (by rw [e]; exact Nat.min_zero m)
    obtain ⟨b, so, sm, sc', e1, e2⟩ := x4 hpos
    cases e1
    obtain ⟨w', g1, g2, g3⟩ := write_does (P := P) (off := o) hR hB hL htip xs xs' x2 hfit hall
    have hq2 : q2 = ⟨L.blk, o + L.sh, none⟩ := by
      rcases hdd with ⟨_, h⟩ | ⟨_, c', _, _, h⟩ | ⟨_, h0, _⟩
      · cases h; rfl
      · cases h; rfl
      · exact absurd h0 hl0
    subst hq2
    have hf := run_firstCells_some (P := P) w i.size (m.min l) ⟨b, so, none⟩ m c' xs' x1 (fun j v hv => by rw [Addr.add_mid]; exact e2 j v hv)
    refine ⟨μ, _, w', ?_, .sc _ rfl, g2, g3⟩
    simp [Builtin.copy_, run_underlying ht, Builtin.lenOf, sizeOf, typeInfo, hi, hf, g1]
    rfl
def clearV (P : Program) (σ : St) (t : TypeId) (v : Value) : Option (Value × St) :=
  match v with
  | .slice _ 0 _ => match P.underlying t with
    | some (.slice _) => some (.tuple #[], σ)
    | _ => none
  | .slice (some ⟨k, o, none⟩) n _ => match P.underlying t with
    | some (.slice e) => match P.info? e with
      | some i => match i.zero with
        | some z => match σ.getB k with
          | some B => if B.tip = true ∧ o + (Builtin.zeroCells z.cells n).toList.length ≤ B.cells.length ∧ flatL (Builtin.zeroCells z.cells n).toList = true then
              some (.tuple #[], σ.write k B (B.cells.take o ++ (Builtin.zeroCells z.cells n).toList ++ B.cells.drop (o + (Builtin.zeroCells z.cells n).toList.length))) else none
          | none => none
        | none => none
      | none => none
    | _ => none
  | _ => none
theorem flatL_one : ∀ {l : List Value}, flatL l = true → l.all (·.oneCell') = true
  | [], _ => rfl
  | v :: l, h => by
    simp [flatL] at h
    have h1 : v.oneCell' = true := by cases v <;> simp [scalar] at h ⊢ <;> rfl
    simp [h1]
    simpa using flatL_one h.2
theorem clearV_does {P : Program} {μ : Mu} {σ σ' : St} {w : World} {t ty : TypeId} {v v' r : Value} (hR : Rel μ σ w) (hv : VRel μ v v') (he : clearV P σ t v = some (r, σ')) : DoesV P μ σ w (Builtin.clear_ #[t] ty #[v']) r σ' := by
  unfold clearV at he
  split at he
  · rename_i q c
    split at he
    · rename_i e hu
      simp only [Option.some.injEq, Prod.mk.injEq] at he
      obtain ⟨rfl, rfl⟩ := he
      have : ∃ q' c', v' = .slice q' 0 c' := by cases hv <;> exact ⟨_, _, rfl⟩
      obtain ⟨q', c', rfl⟩ := this
      refine ⟨μ, _, w, ?_, flat_rel μ (by rfl), hR, Step.refl _ _ _⟩
      cases q' <;> simp [Builtin.clear_, run_underlying hu]
    · cases he
  · rename_i k o n c hn
    split at he
    case h_2 => cases he
    rename_i e hu
    split at he
    case h_2 => cases he
    rename_i i hi
    split at he
    case h_2 => cases he
    rename_i z hz
    split at he
    case h_2 => cases he
    rename_i B hB
    split at he
    case isFalse => cases he
    rename_i hcc
    obtain ⟨htip, hfit, hfl⟩ := hcc
    simp only [Option.some.injEq, Prod.mk.injEq] at he
    obtain ⟨rfl, rfl⟩ := he
    obtain ⟨L, hL, hvv⟩ := slc_inv hv
    have hn0 : n ≠ 0 := fun e => by subst e; simp at hn
    have hv' : ∃ c', v' = .slice (some ⟨L.blk, o + L.sh, none⟩) n c' := by
      rcases hvv with ⟨_, h⟩ | ⟨_, c', _, _, h⟩ | ⟨_, h0, _⟩
      · exact ⟨_, h⟩
      · exact ⟨_, h⟩
      · exact absurd h0 hn0
    obtain ⟨c', rfl⟩ := hv'
    obtain ⟨w', g1, g2, g3⟩ := write_does (P := P) (off := o) hR hB hL htip _ _ (flatL_rel μ hfl) hfit (flatL_one hfl)
    refine ⟨μ, _, w', ?_, flat_rel μ (by rfl), g2, g3⟩
    cases n with
    | zero => exact absurd rfl hn0
    | succ n => simp [Builtin.clear_, run_underlying hu, zeroValue, typeInfo, hi, hz, g1]
  · cases he
def builtinV (P : Program) (σ : St) (ts : Ts) (b : Builtin) (tys : List TypeId) (args : List Operand) : Option (Value × St) :=
  match b, tys, args with
  | .len, [t], [x] => match evo ts x with
    | some v => (lenV P t v).map fun r => (r, σ)
    | none => none
  | .cap, [t], [x] => match evo ts x with
    | some v => (capV P t v).map fun r => (r, σ)
    | none => none
  | .clear, [t], [x] => match evo ts x with
    | some v => clearV P σ t v
    | none => none
  | .append, [t, t2], [x, y] => if t = t2 then match evo ts x, evo ts y with
      | some v, some u => appendV P σ t v u
      | _, _ => none
    else match evo ts x, evo ts y with
      | some v, some u => zerosV P σ t t2 v u
      | _, _ => none
  | .copy, [t, _], [x, y] => match evo ts x, evo ts y with
    | some v, some u => copyV P σ t v u
    | _, _ => none
  | _, _, _ => none
theorem doesV_does {P : Program} {μ : Mu} {σ σ' : St} {w : World} {ρ : Operand → Value} {o : Oper} {s : Sem Value} {r : Value} (h : DoesV P μ σ w s r σ') (he : execOp ρ o = (do pure (.value (← s)))) : Does P μ σ w ρ o r σ' := by
  obtain ⟨μ', r', w', h1, h2, h3, h4⟩ := h
  exact ⟨μ', r', w', _, by rw [he, Sem.run_bind, h1]; rfl, .inl rfl, h2, h3, h4⟩
theorem builtinV_does {P : Program} {μ : Mu} {σ σ' : St} {w : World} {ts : Ts} {a : Act} {o : Oper} {c : Call} {b : Builtin} {r : Value} (hT : TRel μ ts a) (hR : Rel μ σ w) (ho : o.op = .call c) (hc : c.callee = .builtin b) (he : builtinV P σ ts b c.argTypes.toList c.args.toList = some (r, σ')) (hf : ∀ j, σ.size ≤ j → j < σ'.size → μ j = none) :
    Does P μ σ w a.eval o r σ' := by
  obtain ⟨cs, hex⟩ := exec_builtin (ρ := a.eval) ho hc
  obtain ⟨callee, args, argTypes⟩ := c
  obtain ⟨args⟩ := args
  obtain ⟨argTypes⟩ := argTypes
  simp only at he hex
  unfold builtinV at he
  split at he
  · rename_i t x
    split at he
    case h_2 => cases he
    rename_i v hv
    simp only [Option.map_eq_some_iff, Prod.mk.injEq] at he
    obtain ⟨r0, h1, rfl, rfl⟩ := he
    exact doesV_does (lenV_does (ty := o.type) hR (evo_rel hT hv) h1) (by rw [hex]; simp [builtin])
  · rename_i t x
    split at he
    case h_2 => cases he
    rename_i v hv
    simp only [Option.map_eq_some_iff, Prod.mk.injEq] at he
    obtain ⟨r0, h1, rfl, rfl⟩ := he
    exact doesV_does (capV_does (ty := o.type) hR (evo_rel hT hv) h1) (by rw [hex]; simp [builtin])
  · rename_i t x
    split at he
    case h_2 => cases he
    rename_i v hv
    exact doesV_does (clearV_does (ty := o.type) hR (evo_rel hT hv) he) (by rw [hex]; simp [builtin])
  · rename_i t t2 x y
    split at he
    case isFalse =>
      split at he
      case h_2 => cases he
      rename_i v u hv hu
      exact doesV_does (zerosV_does (ty := o.type) hR (evo_rel hT hv) (evo_rel hT hu) he hf) (by rw [hex]; simp [builtin])
    rename_i e
    subst e
    split at he
    case h_2 => cases he
    rename_i v u hv hu
    exact doesV_does (appendV_does (ty := o.type) hR (evo_rel hT hv) (evo_rel hT hu) he hf) (by rw [hex]; simp [builtin])
  · rename_i t t2 x y
    split at he
    case h_2 => cases he
    rename_i v u hv hu
    exact doesV_does (copyV_does (t2 := t2) (ty := o.type) hR (evo_rel hT hv) (evo_rel hT hu) he) (by rw [hex]; simp [builtin])
  · cases he
def evos (ts : Ts) : Option Operand → Option (Option Value)
  | none => some none
  | some x => match evo ts x with
    | some v => some (some v)
    | none => none
theorem evos_rel {μ : Mu} {ts : Ts} {a : Act} (h : TRel μ ts a) {x : Option Operand} {v : Option Value} (hv : evos ts x = some v) : (v = none ∧ x.map a.eval = none) ∨ ∃ u u', v = some u ∧ x.map a.eval = some u' ∧ VRel μ u u' := by
  cases x with
  | none => simp [evos] at hv; exact .inl ⟨hv.symm, rfl⟩
  | some x =>
    simp only [evos] at hv
    split at hv
    · rename_i u hu
      simp only [Option.some.injEq] at hv
      exact .inr ⟨u, a.eval x, hv.symm, rfl, evo_rel h hu⟩
    · cases hv
def pureV (P : Program) (σ : St) (ts : Ts) (o : Oper) : Option (Value × St) := (pureOp P ts o).map fun r => (r, σ)
/-! sums and comparisons -/
def wrF : IntKind → Int → Int
  | .i64, .ofNat m => match m with
    | 0 => .ofNat 0
    | Nat.succ p => match Nat.ble (Nat.succ p) 9223372036854775807 with
      | true => .ofNat (Nat.succ p)
      | false => IntKind.i64.wrap (.ofNat (Nat.succ p))
  | k, n => k.wrap n
theorem wrF_eq (k : IntKind) (n : Int) : wrF k n = k.wrap n := by
  unfold wrF
  split
  · rename_i m
    cases m with
    | zero => rfl
    | succ p =>
      simp only
      split
      · rename_i h
        have := Nat.le_of_ble_eq_true h
        exact (IntWalk.i64_in _ (by simp; omega)).symm
      · rfl
  · rfl
def ltI : Int → Int → Bool
  | .ofNat a, .ofNat b => Nat.blt a b
  | a, b => decide (a < b)
theorem ltI_eq (a b : Int) : ltI a b = decide (a < b) := by
  unfold ltI
  split
  · rename_i a b
    rw [Bool.eq_iff_iff]; simp [Nat.blt]; omega
  · rfl
def eqI : Int → Int → Bool
  | .ofNat a, .ofNat b => Nat.beq a b
  | a, b => a == b
theorem eqI_eq (a b : Int) : eqI a b = (a == b) := by
  unfold eqI
  split
  · rename_i a b
    rw [Bool.eq_iff_iff]; simp [Nat.beq_eq]; omega
  · rfl
def sameK : IntKind → IntKind → Bool
  | .i64, .i64 | .u64, .u64 | .u8, .u8 | .u16, .u16 | .u32, .u32 | .i8, .i8 | .i16, .i16 | .i32, .i32 => true
  | _, _ => false
def intV (op : BinOp) (k : IntKind) (a b : Int) : Option Value :=
  match op with
  | .add => some (.int k (wrF k (a + b)))
  | .sub => some (.int k (wrF k (a - b)))
  | .mul => some (.int k (wrF k (a * b)))
  | .eql => some (.bool (eqI a b))
  | .neq => some (.bool (!eqI a b))
  | .lss => some (.bool (ltI a b))
  | .leq => some (.bool (!ltI b a))
  | .gtr => some (.bool (ltI b a))
  | .geq => some (.bool (!ltI a b))
  | _ => none
theorem intV_does {P : Program} {μ : Mu} {σ : St} {w : World} {ρ : Operand → Value} {o : Oper} {op : BinOp} {t t' : TypeId} {x y : Operand} {k k' : IntKind} {a b : Int} {r : Value} (hR : Rel μ σ w) (ho : o.op = .binOp op t x y t') (hx : ρ x = .int k a) (hy : ρ y = .int k' b) (hk : sameK k k' = true) (he : intV op k a b = some r) : Does P μ σ w ρ o r σ := by
  have hkk : k = k' := by cases k <;> cases k' <;> first | rfl | (simp [sameK] at hk)
  subst hkk
  have hex : execOp ρ o = (do pure (.value (← binOp op t (.int k a) (.int k b)))) := by
    simp [execOp, ho, hx, hy, eqGuard_at_int]
  have fin : ∀ v : Value, scalar v = true → binOp op t (.int k a) (.int k b) = pure v → r = v → Does P μ σ w ρ o r σ := by
    intro v hs hb hr
    subst hr
    exact does_val hR (.sc _ hs) (by rw [hex, hb]; rfl)
  unfold intV at he
  split at he <;> first | (cases he; done) | skip
  all_goals (try (simp only [Option.some.injEq] at he))
  · exact fin (.int k (k.wrap (a + b))) rfl (by simp [binOp, Op.intArith]) (by rw [← he, wrF_eq])
  · exact fin (.int k (k.wrap (a - b))) rfl (by simp [binOp, Op.intArith]) (by rw [← he, wrF_eq])
  · exact fin (.int k (k.wrap (a * b))) rfl (by simp [binOp, Op.intArith]) (by rw [← he, wrF_eq])
  · exact fin (.bool (a == b)) rfl (by simp [binOp, Op.intCmp]) (by rw [← he, eqI_eq])
  · exact fin (.bool (a != b)) rfl (by simp [binOp, Op.intCmp]) (by rw [← he, eqI_eq]; rfl)
  · exact fin (.bool (decide (a < b))) rfl (by simp [binOp, Op.intCmp]) (by rw [← he, ltI_eq])
  · exact fin (.bool (decide (a ≤ b))) rfl (by simp [binOp, Op.intCmp]) (by rw [← he, ltI_eq]; congr 1; rw [Bool.eq_iff_iff]; simp)
  · exact fin (.bool (decide (a > b))) rfl (by simp [binOp, Op.intCmp]) (by rw [← he, ltI_eq])
  · exact fin (.bool (decide (a ≥ b))) rfl (by simp [binOp, Op.intCmp]) (by rw [← he, ltI_eq]; congr 1; rw [Bool.eq_iff_iff]; simp)
def one (σ : St) : Option Value → Option (Value × St)
  | some v => some (v, σ)
  | none => none
def xPick (σ : St) (ts : Ts) (x y : Operand) : Option Value → Option (Value × St)
  | some (.bool t) => one σ (evo ts (match t with | true => x | false => y))
  | _ => none
def xBox (σ : St) : Option Value → Option (Value × St)
  | some v => boxV σ v
  | none => none
def xLoad (P : Program) (σ : St) (t : TypeId) : Option Value → Option (Value × St)
  | some (.pointer (some ⟨k, off, none⟩)) => one σ (loadB P σ t k off)
  | _ => none
def xUnit : Option St → Option (Value × St)
  | some σ => some (undef, σ)
  | none => none
def xStore (P : Program) (σ : St) (t : TypeId) : Option Value → Option Value → Option (Value × St)
  | some (.pointer (some ⟨k, off, none⟩)), some v => xUnit (storeB P σ t k off v)
  | _, _ => none
/-- the first that answers -/
def orElse (x : Option (Value × St)) (y : Unit → Option (Value × St)) : Option (Value × St) :=
  match x with
  | some r => some r
  | none => y ()
def xNil (P : Program) (σ : St) (ts : Ts) (o : Oper) : Option Value → Option (Value × St)
  | some v => orElse (one σ (nilCheckV v)) fun _ => pureV P σ ts o
  | none => none
def xInt (P : Program) (σ : St) (ts : Ts) (o : Oper) (op : BinOp) (k : IntKind) (a : Int) (k' : IntKind) (b : Int) : Option (Value × St) :=
  match sameK k k' with
  | true => orElse (one σ (intV op k a b)) fun _ => pureV P σ ts o
  | false => pureV P σ ts o
def xBin (P : Program) (σ : St) (ts : Ts) (o : Oper) (op : BinOp) (t : TypeId) : Option Value → Option Value → Option (Value × St)
  | some (.int k a), some (.int k' b) => xInt P σ ts o op k a k' b
  | some v, some u => orElse (one σ (nilEqV P op t v u)) fun _ => pureV P σ ts o
  | _, _ => none
def xIface (P : Program) (σ : St) (t : TypeId) : Option Value → Option (Value × St)
  | some v => one σ (makeIfaceV P t v)
  | none => none
def xMake (P : Program) (σ : St) (t : TypeId) : Option Value → Option Value → Option (Value × St)
  | some u, some v => makeSliceV P σ t u v
  | _, _ => none
def xSlice (P : Program) (σ : St) (ts : Ts) (o : Oper) (t : TypeId) : Option Value → Option (Option Value) → Option (Option Value) → Option (Option Value) → Option (Value × St)
  | some v, some l, some h, some m => orElse (one σ (sliceV P σ t v l h m)) fun _ => pureV P σ ts o
  | _, _, _, _ => none
def xFieldAddr (P : Program) (σ : St) (s : TypeId) (f : Nat) : Option Value → Option (Value × St)
  | some v => one σ (fieldAddrV P s v f)
  | none => none
def xField (P : Program) (σ : St) (t : TypeId) (f : Nat) : Option Value → Option (Value × St)
  | some v => one σ (fieldV P t v f)
  | none => none
def xIndexAddr (P : Program) (σ : St) (t : TypeId) : Option Value → Option Value → Option (Value × St)
  | some v, some u => one σ (indexAddrV P t v u)
  | _, _ => none
def xIndex (P : Program) (σ : St) (ts : Ts) (o : Oper) (t : TypeId) : Option Value → Option Value → Option (Value × St)
  | some v, some u => orElse (one σ (indexV P t v u)) fun _ => pureV P σ ts o
  | _, _ => none
def xExtract (σ : St) (ix : Nat) : Option Value → Option (Value × St)
  | some v => one σ (extractV v ix)
  | none => none
def xCall (P : Program) (σ : St) (ts : Ts) (o : Oper) (c : Call) : Option (Value × St) :=
  match c.callee with
  | .builtin b => orElse (builtinV P σ ts b c.argTypes.toList c.args.toList) fun _ => pureV P σ ts o
  | _ => none
def xNot (P : Program) (σ : St) (ts : Ts) (o : Oper) (op : UnOp) : Option Value → Option (Value × St)
  | some (.bool b) => match op with
    | .not => some (.bool (!b), σ)
    | _ => none
  | _ => pureV P σ ts o
def exec (P : Program) (σ : St) (ts : Ts) (o : Oper) : Option (Value × St) :=
  match o.op with
  | .move x => one σ (evo ts x)
  | .assign x => one σ (evo ts x)
  | .pick c x y => xPick σ ts x y (evo ts c)
  | .alloc e => allocV P σ e
  | .box _ x => xBox σ (evo ts x)
  | .build t ps => one σ (buildV P ts t ps.toList)
  | .buildSlice t n ps => buildSliceV P σ ts t n ps.toList
  | .load t x => xLoad P σ t (evo ts x)
  | .store t x y => xStore P σ t (evo ts x) (evo ts y)
  | .nilCheck x => xNil P σ ts o (evo ts x)
  | .binOp op t x y _ => xBin P σ ts o op t (evo ts x) (evo ts y)
  | .unOp op _ x => xNot P σ ts o op (evo ts x)
  | .makeInterface t x => xIface P σ t (evo ts x)
  | .makeFunc f first captured => one σ (makeFuncV ts f first.toList captured.toList)
  | .makeSlice t x y => xMake P σ t (evo ts x) (evo ts y)
  | .slice t x lo hi mx => xSlice P σ ts o t (evo ts x) (evos ts lo) (evos ts hi) (evos ts mx)
  | .fieldAddr s x f => xFieldAddr P σ s f (evo ts x)
  | .field t x f => xField P σ t f (evo ts x)
  | .indexAddr t x y => xIndexAddr P σ t (evo ts x) (evo ts y)
  | .index t x y => xIndex P σ ts o t (evo ts x) (evo ts y)
  | .extract x ix => xExtract σ ix (evo ts x)
  | .call c => xCall P σ ts o c
  | _ => pureV P σ ts o
theorem one_some {σ σ' : St} {x : Option Value} {r : Value} (h : one σ x = some (r, σ')) : x = some r ∧ σ' = σ := by
  unfold one at h
  split at h
  · cases h; exact ⟨rfl, rfl⟩
  · cases h
theorem orElse_some {x : Option (Value × St)} {y : Unit → Option (Value × St)} {r : Value × St} (h : orElse x y = some r) : x = some r ∨ y () = some r := by
  unfold orElse at h
  split at h
  · exact .inl h
  · exact .inr h
theorem pureV_does {P : Program} {μ : Mu} {σ σ' : St} {w : World} {ts : Ts} {a : Act} {o : Oper} {r : Value} (hT : TRel μ ts a) (hR : Rel μ σ w) (he : pureV P σ ts o = some (r, σ')) : Does P μ σ w a.eval o r σ' := by
  unfold pureV at he
  simp only [Option.map_eq_some_iff, Prod.mk.injEq] at he
  obtain ⟨r0, h1, rfl, rfl⟩ := he
  exact pureOp_does hT hR h1
theorem exec_does {P : Program} {μ : Mu} {σ σ' : St} {w : World} {ts : Ts} {a : Act} {o : Oper} {r : Value} (hT : TRel μ ts a) (hR : Rel μ σ w) (he : exec P σ ts o = some (r, σ')) (hf : ∀ j, σ.size ≤ j → j < σ'.size → μ j = none) : Does P μ σ w a.eval o r σ' := by
  have pv : ∀ {s : St} {v : Value}, pureV P σ ts o = some (v, s) → Does P μ σ w a.eval o v s := fun h => pureV_does hT hR h
  unfold exec at he
  split at he
  case h_1 x ho =>
    obtain ⟨h1, rfl⟩ := one_some he
    exact does_val hR (evo_rel hT h1) (by simp [execOp, ho])
  case h_2 x ho =>
    obtain ⟨h1, rfl⟩ := one_some he
    exact does_val hR (evo_rel hT h1) (by simp [execOp, ho])
  case h_3 c x y ho =>
    unfold xPick at he
    split at he
    case h_2 => cases he
    rename_i t hc
    obtain ⟨h1, rfl⟩ := one_some he
    have hcc : a.eval c = .bool t := scalar_eq (by rfl) (evo_rel hT hc)
    refine does_val hR (evo_rel hT h1) ?_
    simp [execOp, ho, hcc, asBool]
    cases t <;> simp
  case h_4 e ho => exact allocV_does hR he hf ho
  case h_5 e x ho =>
    unfold xBox at he
    split at he
    case h_2 => cases he
    rename_i v hv
    exact boxV_does hR he hf ho (evo_rel hT hv)
  case h_6 t ps ho =>
    obtain ⟨h1, rfl⟩ := one_some he
    exact buildV_does hT hR ho h1
  case h_7 t n ps ho => exact buildSliceV_does hT hR ho he hf
  case h_8 t x ho =>
    unfold xLoad at he
    split at he
    case h_2 => cases he
    rename_i k off hx
    obtain ⟨h1, rfl⟩ := one_some he
    obtain ⟨L, hL, hxx⟩ := ptr_inv (evo_rel hT hx)
    obtain ⟨r', g1, g2⟩ := loadB_does (w := w) hR hL h1
    refine does_val hR g2 ?_
    simp [execOp, ho, hxx, Instr.loadAt, Instr.sureAddr, g1]
  case h_9 t x y ho =>
    unfold xStore at he
    split at he
    case h_2 => cases he
    rename_i k off v hx hy
    unfold xUnit at he
    split at he
    case h_2 => cases he
    rename_i s h1
    cases he
    obtain ⟨L, hL, hxx⟩ := ptr_inv (evo_rel hT hx)
    obtain ⟨w', g1, g2, g3⟩ := storeB_does (P := P) hR hL (evo_rel hT hy) h1
    refine ⟨μ, undef, w', .skip, ?_, .inr ⟨rfl, rfl⟩, vrel_undef μ, g2, g3⟩
    simp [execOp, ho, hxx, Instr.storeAt, Instr.sureAddr, g1]
  case h_10 x ho =>
    unfold xNil at he
    split at he
    case h_2 => cases he
    rename_i v hv
    rcases orElse_some he with he | he
    · obtain ⟨h1, rfl⟩ := one_some he
      exact nilCheckV_does hR ho (evo_rel hT hv) h1
    · exact pv he
  case h_11 op t x y t' ho =>
    unfold xBin at he
    split at he
    · rename_i k i k' j hx hy
      unfold xInt at he
      split at he
      · rename_i hk
        rcases orElse_some he with he | he
        · obtain ⟨h1, rfl⟩ := one_some he
          exact intV_does hR ho (int_inv (evo_rel hT hx)) (int_inv (evo_rel hT hy)) hk h1
        · exact pv he
      · exact pv he
    · rename_i v u _ hv hu
      rcases orElse_some he with he | he
      · obtain ⟨h1, rfl⟩ := one_some he
        exact nilEqV_does hR ho (evo_rel hT hv) (evo_rel hT hu) h1
      · exact pv he
    · cases he
  case h_12 op t x ho =>
    unfold xNot at he
    split at he
    · rename_i b hx
      split at he
      · cases he
        have hxx : a.eval x = .bool b := scalar_eq (by rfl) (evo_rel hT hx)
        exact does_val hR (.sc _ rfl) (by simp [execOp, ho, hxx, Op.unary])
      · cases he
    · exact pv he
  case h_13 t x ho =>
    unfold xIface at he
    split at he
    case h_2 => cases he
    rename_i v hv
    obtain ⟨h1, rfl⟩ := one_some he
    exact makeIfaceV_does hR ho (evo_rel hT hv) h1
  case h_14 f first captured ho =>
    obtain ⟨h1, rfl⟩ := one_some he
    exact makeFuncV_does hT hR ho h1
  case h_15 t x y ho =>
    unfold xMake at he
    split at he
    case h_2 => cases he
    rename_i u v hu hv
    exact makeSliceV_does hR ho (evo_rel hT hu) (evo_rel hT hv) he hf
  case h_16 t x lo hi mx ho =>
    unfold xSlice at he
    split at he
    case h_2 => cases he
    rename_i v l h m hv hl hh hm
    rcases orElse_some he with he | he
    · obtain ⟨h1, rfl⟩ := one_some he
      exact sliceV_does hR ho (evo_rel hT hv) (evos_rel hT hl) (evos_rel hT hh) (evos_rel hT hm) h1
    · exact pv he
  case h_17 s x f ho =>
    unfold xFieldAddr at he
    split at he
    case h_2 => cases he
    rename_i v hv
    obtain ⟨h1, rfl⟩ := one_some he
    exact fieldAddrV_does hR ho (evo_rel hT hv) h1
  case h_18 t x f ho =>
    unfold xField at he
    split at he
    case h_2 => cases he
    rename_i v hv
    obtain ⟨h1, rfl⟩ := one_some he
    exact fieldV_does hR ho (evo_rel hT hv) h1
  case h_19 t x y ho =>
    unfold xIndexAddr at he
    split at he
    case h_2 => cases he
    rename_i v u hv hu
    obtain ⟨h1, rfl⟩ := one_some he
    exact indexAddrV_does hR ho (evo_rel hT hv) (evo_rel hT hu) h1
  case h_20 t x y ho =>
    unfold xIndex at he
    split at he
    case h_2 => cases he
    rename_i v u hv hu
    rcases orElse_some he with he | he
    · obtain ⟨h1, rfl⟩ := one_some he
      exact indexV_does hR ho (evo_rel hT hv) (evo_rel hT hu) h1
    · exact pv he
  case h_21 x ix ho =>
    unfold xExtract at he
    split at he
    case h_2 => cases he
    rename_i v hv
    obtain ⟨h1, rfl⟩ := one_some he
    exact extractV_does hR ho (evo_rel hT hv) h1
  case h_22 c ho =>
    unfold xCall at he
    split at he
    case h_2 => cases he
    rename_i b hc
    rcases orElse_some he with he | he
    · exact builtinV_does hT hR ho hc he hf
    · exact pv he
  case h_23 => exact pv he
end
end Go.Proofs.YtcllgicphjmamaaGreat.ev
