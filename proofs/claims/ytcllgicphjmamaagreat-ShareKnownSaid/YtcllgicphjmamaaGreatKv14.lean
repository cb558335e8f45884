/- The reckoner, made fast: what a text alone decides is decided once. -/
import Derived.Test.YtcllgicphjmamaaGreatKv13
namespace Go.Proofs.YtcllgicphjmamaaGreat.ev
open Go.RowKit
set_option linter.unusedSimpArgs false
set_option linter.unusedVariables false
set_option linter.unusedSectionVars false
noncomputable section
variable [Kn]

structure G where
  get : Ts → Value
def gOf (x : Operand) : Option G :=
  match x with
  | .tmp t => some ⟨fun ts => getT ts t⟩
  | .const v => match flat v with
    | true => some ⟨fun _ => v⟩
    | false => none
  | .func f => some ⟨fun _ => .func (.func f) #[] #[]⟩
  | .global _ => none
theorem gOf_eq {x : Operand} {g : G} (h : gOf x = some g) (ts : Ts) : evo ts x = some (g.get ts) := by
  cases x with
  | tmp t => simp only [gOf, Option.some.injEq] at h; subst h; rfl
  | const v =>
    simp only [gOf] at h
    split at h
    · rename_i hf
      simp only [Option.some.injEq] at h; subst h
      simp only [evo, hf]
    · cases h
  | func f => simp only [gOf, Option.some.injEq] at h; subst h; rfl
  | global g => simp [gOf] at h
structure OC where
  run : Ih → Ts → St → Option (Value × St)
def slowO (P : Program) (o : Oper) : OC := ⟨fun ih ts σ => opV P ih ts σ o⟩
def execO (P : Program) (o : Oper) : OC := ⟨fun _ ts σ => exec P σ ts o⟩
/-- sums and comparisons of numbers -/
structure BF where
  f : IntKind → Int → Int → Value
def bfOf (op : BinOp) : Option BF :=
  match op with
  | .add => some ⟨fun k a b => .int k (wrF k (a + b))⟩
  | .sub => some ⟨fun k a b => .int k (wrF k (a - b))⟩
  | .mul => some ⟨fun k a b => .int k (wrF k (a * b))⟩
  | .eql => some ⟨fun _ a b => .bool (eqI a b)⟩
  | .neq => some ⟨fun _ a b => .bool (!eqI a b)⟩
  | .lss => some ⟨fun _ a b => .bool (ltI a b)⟩
  | .leq => some ⟨fun _ a b => .bool (!ltI b a)⟩
  | .gtr => some ⟨fun _ a b => .bool (ltI b a)⟩
  | .geq => some ⟨fun _ a b => .bool (!ltI a b)⟩
  | _ => none
theorem bfOf_eq {op : BinOp} {F : BF} (h : bfOf op = some F) (k : IntKind) (a b : Int) : intV op k a b = some (F.f k a b) := by
  cases op <;> simp only [bfOf, Option.some.injEq] at h <;> first | (cases h; done) | (subst h; rfl)
def intP (v : Value) : Option (IntKind × Int) := match v with | .int k n => some (k, n) | _ => none
theorem intP_some {v : Value} {p : IntKind × Int} (h : intP v = some p) : v = .int p.1 p.2 := by
  cases v <;> simp [intP] at h
  subst h; rfl
def binR (F : BF) (slow : Option (Value × St)) (σ : St) (x y : Value) : Option (Value × St) :=
  match intP x with
  | some p => match intP y with
    | some q => match sameK p.1 q.1 with
      | true => some (F.f p.1 p.2 q.2, σ)
      | false => slow
    | none => slow
  | none => slow
def valC (P : Program) (o : Oper) (x : Operand) : OC :=
  match gOf x with
  | some g => ⟨fun _ ts σ => some (g.get ts, σ)⟩
  | none => execO P o
def ptrP (v : Value) : Option (Nat × Nat) := match v with | .pointer (some ⟨k, off, none⟩) => some (k, off) | _ => none
theorem ptrP_some {v : Value} {p : Nat × Nat} (h : ptrP v = some p) : v = .pointer (some ⟨p.1, p.2, none⟩) := by
  unfold ptrP at h
  split at h
  · cases h; rfl
  · cases h
def nthO : List Value → Nat → Option Value
  | [], _ => none
  | v :: _, 0 => some v
  | _ :: l, n + 1 => nthO l n
theorem nthO_eq : ∀ (l : List Value) (n : Nat), nthO l n = l[n]?
  | [], n => by simp [nthO]
  | v :: l, 0 => by simp [nthO]
  | v :: l, n + 1 => by simpa [nthO] using nthO_eq l n
def loadOne (slow : Option (Value × St)) (σ : St) (v : Value) : Option (Value × St) :=
  match ptrP v with
  | some p => match σ.getB p.1 with
    | some B => match nthO B.cells p.2 with
      | some r => some (r, σ)
      | none => slow
    | none => slow
  | none => slow
def loadC (P : Program) (o : Oper) (t : TypeId) (x : Operand) : OC :=
  match gOf x, P.underlying t, P.info? t with
  | some g, some d, some _ => match d.isRow with
    | true => execO P o
    | false => ⟨fun _ ts σ => loadOne (exec P σ ts o) σ (g.get ts)⟩
  | _, _, _ => execO P o
def addPtr (slow : Option (Value × St)) (σ : St) (off : Nat) (v : Value) : Option (Value × St) :=
  match ptrP v with
  | some p => some (.pointer (some ⟨p.1, p.2 + off, none⟩), σ)
  | none => slow
def offOf (P : Program) (s : TypeId) (f : Nat) : Option Nat :=
  match P.underlying s with
  | some (.struct fs) => match fs[f]? with
    | some fd => match P.info? fd.type with
      | some i => match Nat.beq i.size 0 with
        | true => none
        | false => some fd.offset
      | none => none
    | none => none
  | _ => none
def fieldAddrC (P : Program) (o : Oper) (s : TypeId) (x : Operand) (f : Nat) : OC :=
  match gOf x, offOf P s f with
  | some g, some off => ⟨fun _ ts σ => addPtr (exec P σ ts o) σ off (g.get ts)⟩
  | _, _ => execO P o
def notR (slow : Option (Value × St)) (σ : St) (v : Value) : Option (Value × St) :=
  match boolOf v with
  | some b => some (.bool (!b), σ)
  | none => slow
def notC (P : Program) (o : Oper) (op : UnOp) (x : Operand) : OC :=
  match op, gOf x with
  | .not, some g => ⟨fun _ ts σ => notR (exec P σ ts o) σ (g.get ts)⟩
  | _, _ => execO P o
def gsOf : List Operand → Option (List G)
  | [] => some []
  | x :: l => match gOf x, gsOf l with
    | some g, some gs => some (g :: gs)
    | _, _ => none
def getsV (ts : Ts) : List G → List Value
  | [] => []
  | g :: gs => g.get ts :: getsV ts gs
theorem gsOf_eq : ∀ {l : List Operand} {gs : List G}, gsOf l = some gs → ∀ ts, oksL ts l = true ∧ l.map (vof ts) = getsV ts gs
  | [], gs, h, ts => by simp [gsOf] at h; subst h; exact ⟨rfl, rfl⟩
  | x :: l, gs, h, ts => by
    simp only [gsOf] at h
    split at h
    · rename_i g gs' hg hgs
      simp only [Option.some.injEq] at h; subst h
      obtain ⟨i1, i2⟩ := gsOf_eq hgs ts
      have := gOf_eq hg ts
      refine ⟨?_, ?_⟩
      · unfold oksL at *; simp only [List.all_cons, this, i1]; rfl
      · have hv : vof ts x = g.get ts := by unfold vof; rw [this]; rfl
        rw [List.map_cons, i2, hv]; rfl
    · cases h
def callFd (P : Program) (ih : Ih) (g : FuncId) (fd : Fd) (args : List Value) (σ : St) : Option (Value × St) :=
  match Kn.val g args with
  | some r => some (r, σ)
  | none => callK P ih fd args σ
theorem callF_fd {P : Program} {ih : Ih} {g : FuncId} {fd : Fd} (h : fdOf P g = some fd) (args : List Value) (σ : St) : callF P ih g args σ = callFd P ih g fd args σ := by
  unfold callF callFd; rw [h]; rfl
def callC (P : Program) (o : Oper) (c : Call) : OC :=
  match c.callee with
  | .value (.func g) => match fdOf P g, gsOf c.args.toList with
    | some fd, some gs => ⟨fun ih ts σ => callFd P ih g fd (getsV ts gs) σ⟩
    | _, _ => slowO P o
  | .value _ => slowO P o
  | .invoke _ _ => slowO P o
  | .builtin _ => ⟨fun _ ts σ => xCall P σ ts o c⟩
def u1 (P : Program) (o : Oper) (x : Operand) (f : Ts → St → Option Value → Option (Value × St)) : OC :=
  match gOf x with
  | some g => ⟨fun _ ts σ => f ts σ (some (g.get ts))⟩
  | none => execO P o
def u2 (P : Program) (o : Oper) (x y : Operand) (f : St → Option Value → Option Value → Option (Value × St)) : OC :=
  match gOf x, gOf y with
  | some g, some k => ⟨fun _ ts σ => f σ (some (g.get ts)) (some (k.get ts))⟩
  | _, _ => execO P o
theorem u1_eq {P : Program} {o : Oper} {x : Operand} {f : Ts → St → Option Value → Option (Value × St)} (h : ∀ ts σ, exec P σ ts o = f ts σ (evo ts x)) (ih : Ih) (ts : Ts) (σ : St) : (u1 P o x f).run ih ts σ = exec P σ ts o := by
  unfold u1
  split
  · rename_i g hg
    rw [h, gOf_eq hg]
  · rfl
theorem u2_eq {P : Program} {o : Oper} {x y : Operand} {f : St → Option Value → Option Value → Option (Value × St)} (h : ∀ ts σ, exec P σ ts o = f σ (evo ts x) (evo ts y)) (ih : Ih) (ts : Ts) (σ : St) : (u2 P o x y f).run ih ts σ = exec P σ ts o := by
  unfold u2
  split
  · rename_i g k hg hk
    rw [h, gOf_eq hg, gOf_eq hk]
  · rfl
theorem pureRun_value {P : Program} : ∀ (s : Sem Value), pureRun P (s.bind fun v => Sem.pure (Next.value v)) = (pureRun P s).map Next.value
  | .pure a => rfl
  | .program k => by simp only [Sem.bind, pureRun]; exact pureRun_value (k P)
  | .mark m k => by simp only [Sem.bind, pureRun]; exact pureRun_value k
  | .load .. | .store .. | .new .. | .shape .. | .freeze .. | .frozen .. | .getObj .. | .setObj .. | .choose .. | .sys .. | .halt .. => rfl
def flatR (σ : St) (x : Option Value) : Option (Value × St) :=
  match x with
  | some r => match flat r with
    | true => some (r, σ)
    | false => none
  | none => none
/-- other operations on numbers -/
def dirR (P : Program) (op : BinOp) (t : TypeId) (slow : Option (Value × St)) (σ : St) (x y : Value) : Option (Value × St) :=
  match intP x with
  | some p => match intP y with
    | some q => flatR σ (pureRun P (binOp op t (.int p.1 p.2) (.int q.1 q.2)))
    | none => slow
  | none => slow
def binC (P : Program) (o : Oper) (op : BinOp) (t : TypeId) (x y : Operand) : OC :=
  match gOf x, gOf y, bfOf op with
  | some gx, some gy, some F => ⟨fun _ ts σ => binR F (exec P σ ts o) σ (gx.get ts) (gy.get ts)⟩
  | some gx, some gy, none => ⟨fun _ ts σ => dirR P op t (exec P σ ts o) σ (gx.get ts) (gy.get ts)⟩
  | _, _, _ => execO P o
def opC (P : Program) (o : Oper) : OC :=
  match o.op with
  | .move x => valC P o x
  | .assign x => valC P o x
  | .binOp op t x y _ => binC P o op t x y
  | .load t x => loadC P o t x
  | .fieldAddr s x f => fieldAddrC P o s x f
  | .unOp op _ x => notC P o op x
  | .call c => callC P o c
  | .pick c x y => u1 P o c fun ts σ v => xPick σ ts x y v
  | .box _ x => u1 P o x fun _ σ v => xBox σ v
  | .store t x y => u2 P o x y fun σ v u => xStore P σ t v u
  | .indexAddr t x y => u2 P o x y fun σ v u => xIndexAddr P σ t v u
  | .extract x ix => u1 P o x fun _ σ v => xExtract σ ix v
  | .field t x f => u1 P o x fun _ σ v => xField P σ t f v
  | .makeInterface t x => u1 P o x fun _ σ v => xIface P σ t v
  | .nilCheck x => u1 P o x fun ts σ v => xNil P σ ts o v
  | .index t x y => execO P o
  | _ => execO P o
theorem exec_opV {P : Program} {ih : Ih} {ts : Ts} {σ : St} {o : Oper} (h : ∀ c, o.op = .call c → ∃ b, c.callee = .builtin b) : exec P σ ts o = opV P ih ts σ o := by
  unfold opV
  have : callOf P ts o = none := by
    unfold callOf
    split
    · rename_i c ho
      obtain ⟨b, hb⟩ := h c ho
      rw [hb]
    · rfl
  rw [this]
theorem opC_eq (P : Program) (o : Oper) (ih : Ih) (ts : Ts) (σ : St) : (opC P o).run ih ts σ = opV P ih ts σ o := by
  unfold opC
  split
  case h_1 x ho =>
    have hex := exec_opV (P := P) (ih := ih) (ts := ts) (σ := σ) (o := o) (fun c h => by rw [ho] at h; cases h)
    unfold valC
    split
    · rename_i g hg
      rw [← hex]; unfold exec; rw [ho]; simp only [gOf_eq hg ts]; rfl
    · exact hex
  case h_2 x ho =>
    have hex := exec_opV (P := P) (ih := ih) (ts := ts) (σ := σ) (o := o) (fun c h => by rw [ho] at h; cases h)
    unfold valC
    split
    · rename_i g hg
      rw [← hex]; unfold exec; rw [ho]; simp only [gOf_eq hg ts]; rfl
    · exact hex
  case h_3 op t x y t' ho =>
    have hex := exec_opV (P := P) (ih := ih) (ts := ts) (σ := σ) (o := o) (fun c h => by rw [ho] at h; cases h)
    unfold binC
    split
    · rename_i gx gy F hx hy hF
      show binR F _ σ _ _ = _
      unfold binR
      split
      · rename_i p hp
        split
        · rename_i q hq
          split
          · rename_i hk
            rw [← hex]; unfold exec; rw [ho]
            simp only [gOf_eq hx ts, gOf_eq hy ts, intP_some hp, intP_some hq]
            unfold xBin xInt
            simp only [hk, bfOf_eq hF]
            rfl
          · exact hex
        · exact hex
      · exact hex
    · rename_i gx gy hx hy hF
      show dirR P op t _ σ _ _ = _
      unfold dirR
      split
      · rename_i p hp
        split
        · rename_i q hq
          have hiv : intV op p.1 p.2 q.2 = none := by cases op <;> first | rfl | (simp [bfOf] at hF)
          rw [← hex]; unfold exec; rw [ho]
          simp only [gOf_eq hx ts, gOf_eq hy ts, intP_some hp, intP_some hq]
          have hp1 : pureV P σ ts o = flatR σ (pureRun P (binOp op t (.int p.1 p.2) (.int q.1 q.2))) := by
            have hfl : allFlat ts o.op.operands.toList = true := by
              simp only [ho, Op.operands, allFlat, gOf_eq hx ts, gOf_eq hy ts, intP_some hp, intP_some hq]; rfl
            have hse : isSelect o.op = false := by rw [ho]; rfl
            have hexe : execOp (fun x => (evo ts x).getD undef) o = (binOp op t (.int p.1 p.2) (.int q.1 q.2)).bind fun v => Sem.pure (Next.value v) := by
              simp only [execOp, ho, gOf_eq hx ts, gOf_eq hy ts, intP_some hp, intP_some hq, Option.getD_some, eqGuard_at_int]
              rfl
            unfold pureV pureOp
            rw [hfl, hse, hexe, pureRun_value]
            simp only [Bool.not_false, Bool.and_self, if_true]
            cases pureRun P (binOp op t (.int p.1 p.2) (.int q.1 q.2)) with
            | none => rfl
            | some r =>
              simp only [Option.map_some]
              unfold flatR
              cases hf : flat r <;> simp [hf]
          show _ = xInt P σ ts o op p.1 p.2 q.1 q.2
          unfold xInt
          split
          · rw [hiv]; exact hp1.symm
          · exact hp1.symm
        · exact hex
      · exact hex
    · exact hex
  case h_4 t x ho =>
    have hex := exec_opV (P := P) (ih := ih) (ts := ts) (σ := σ) (o := o) (fun c h => by rw [ho] at h; cases h)
    unfold loadC
    split
    · rename_i g d i hg hd hi
      split
      · exact hex
      · rename_i hrow
        show loadOne _ σ _ = _
        unfold loadOne
        split
        · rename_i p hp
          split
          · rename_i B hB
            split
            · rename_i r hr
              rw [← hex]; unfold exec; rw [ho]
              simp only [gOf_eq hg ts, ptrP_some hp]
              unfold xLoad loadB
              simp only [hB, hd, hi, hrow]
              rw [← nthO_eq, hr]; rfl
            · exact hex
          · exact hex
        · exact hex
    · exact hex
  case h_5 s x f ho =>
    have hex := exec_opV (P := P) (ih := ih) (ts := ts) (σ := σ) (o := o) (fun c h => by rw [ho] at h; cases h)
    unfold fieldAddrC
    split
    · rename_i g off hg hoff
      show addPtr _ σ off _ = _
      unfold addPtr
      split
      · rename_i p hp
        rw [← hex]; unfold exec; rw [ho]
        simp only [gOf_eq hg ts, ptrP_some hp]
        unfold offOf at hoff
        unfold xFieldAddr fieldAddrV
        split at hoff
        case h_2 => cases hoff
        rename_i fs hfs
        split at hoff
        case h_2 => cases hoff
        rename_i fd hfd
        split at hoff
        case h_2 => cases hoff
        rename_i i hi
        split at hoff
        · cases hoff
        · rename_i hz
          simp only [Option.some.injEq] at hoff
          subst hoff
          have : i.size ≠ 0 := fun e => by rw [e] at hz; cases hz
          simp only [hfs, hfd, hi, this, if_false]
          rfl
      · exact hex
    · exact hex
  case h_6 op t x ho =>
    have hex := exec_opV (P := P) (ih := ih) (ts := ts) (σ := σ) (o := o) (fun c h => by rw [ho] at h; cases h)
    unfold notC
    split
    · rename_i g hg
      show notR _ σ _ = _
      unfold notR
      split
      · rename_i b hb
        have hv : g.get ts = .bool b := by
          generalize g.get ts = v at hb
          cases v <;> simp [boolOf] at hb
          rw [hb]
        rw [← hex]; unfold exec; rw [ho]
        simp only [gOf_eq hg ts, hv]
        rfl
      · exact hex
    · exact hex
  case h_7 c ho =>
    unfold callC
    split
    · rename_i g hc
      split
      · rename_i fd gs hfd hgs
        show callFd P ih g fd (getsV ts gs) σ = _
        unfold opV callOf
        rw [ho]
        simp only [hc]
        obtain ⟨e1, e2⟩ := gsOf_eq hgs ts
        simp only [evo, e1, e2, if_true]
        rw [callF_fd hfd]
        simp
      · rfl
    · rfl
    · rfl
    · rename_i b hc
      have hex := exec_opV (P := P) (ih := ih) (ts := ts) (σ := σ) (o := o) fun c' h => by rw [ho] at h; cases h; exact ⟨b, hc⟩
      rw [← hex]
      unfold exec; rw [ho]
  case h_8 c x y ho =>
    rw [← exec_opV (P := P) (ih := ih) (ts := ts) (σ := σ) (o := o) (fun c h => by rw [ho] at h; cases h)]
    exact u1_eq (fun ts σ => by unfold exec; rw [ho]) ih ts σ
  case h_9 e x ho =>
    rw [← exec_opV (P := P) (ih := ih) (ts := ts) (σ := σ) (o := o) (fun c h => by rw [ho] at h; cases h)]
    exact u1_eq (fun ts σ => by unfold exec; rw [ho]) ih ts σ
  case h_10 t x y ho =>
    rw [← exec_opV (P := P) (ih := ih) (ts := ts) (σ := σ) (o := o) (fun c h => by rw [ho] at h; cases h)]
    exact u2_eq (fun ts σ => by unfold exec; rw [ho]) ih ts σ
  case h_11 t x y ho =>
    rw [← exec_opV (P := P) (ih := ih) (ts := ts) (σ := σ) (o := o) (fun c h => by rw [ho] at h; cases h)]
    exact u2_eq (fun ts σ => by unfold exec; rw [ho]) ih ts σ
  case h_12 x ix ho =>
    rw [← exec_opV (P := P) (ih := ih) (ts := ts) (σ := σ) (o := o) (fun c h => by rw [ho] at h; cases h)]
    exact u1_eq (fun ts σ => by unfold exec; rw [ho]) ih ts σ
  case h_13 t x f ho =>
    rw [← exec_opV (P := P) (ih := ih) (ts := ts) (σ := σ) (o := o) (fun c h => by rw [ho] at h; cases h)]
    exact u1_eq (fun ts σ => by unfold exec; rw [ho]) ih ts σ
  case h_14 t x ho =>
    rw [← exec_opV (P := P) (ih := ih) (ts := ts) (σ := σ) (o := o) (fun c h => by rw [ho] at h; cases h)]
    exact u1_eq (fun ts σ => by unfold exec; rw [ho]) ih ts σ
  case h_15 x ho =>
    rw [← exec_opV (P := P) (ih := ih) (ts := ts) (σ := σ) (o := o) (fun c h => by rw [ho] at h; cases h)]
    exact u1_eq (fun ts σ => by unfold exec; rw [ho]) ih ts σ
  case h_16 t x y ho =>
    exact exec_opV (P := P) (ih := ih) (ts := ts) (σ := σ) (o := o) (fun c h => by rw [ho] at h; cases h)
  case h_17 =>
    rename_i hcall _ _ _ _ _ _ _ _ _
    exact exec_opV fun c' h => absurd h (hcall c')

/-! a region's operations -/
structure RC where
  run : Ih → Ts → St → Option (Ts × St)
def forceN {β : Type} (n : Nat) (k : Nat → β) : β := Nat.rec (motive := fun _ => β) (k 0) (fun p _ => k (Nat.succ p)) n
theorem forceN_eq {β : Type} (n : Nat) (k : Nat → β) : forceN n k = k n := by cases n <;> rfl
def forceI {β : Type} (n : Int) (k : Int → β) : β := Int.rec (motive := fun _ => β) (fun m => forceN m fun m => k (.ofNat m)) (fun m => forceN m fun m => k (.negSucc m)) n
theorem forceI_eq {β : Type} (n : Int) (k : Int → β) : forceI n k = k n := by
  cases n with
  | ofNat m => exact forceN_eq m (fun m => k (.ofNat m))
  | negSucc m => exact forceN_eq m (fun m => k (.negSucc m))
def forceA {β : Type} (a : Option Addr) (k : Option Addr → β) : β :=
  match a with
  | some ⟨b, o, none⟩ => forceN b fun b => forceN o fun o => k (some ⟨b, o, none⟩)
  | a => k a
theorem forceA_eq {β : Type} (a : Option Addr) (k : Option Addr → β) : forceA a k = k a := by
  unfold forceA
  split
  · rw [forceN_eq, forceN_eq]
  · rfl
def forceV {β : Type} (v : Value) (k : Value → β) : β :=
  match v with
  | .int kd n => forceI n fun n => k (.int kd n)
  | .bool b => match b with
    | true => k (.bool true)
    | false => k (.bool false)
  | .pointer a => forceA a fun a => k (.pointer a)
  | .slice a n c => forceA a fun a => forceN n fun n => forceN c fun c => k (.slice a n c)
  | v => k v
theorem forceV_eq {β : Type} (v : Value) (k : Value → β) : forceV v k = k v := by
  unfold forceV
  split
  · exact forceI_eq _ _
  · split <;> rfl
  · exact forceA_eq _ _
  · rw [forceA_eq, forceN_eq, forceN_eq]
  · rfl
def forceS {β : Type} (σ : St) (k : St → β) : β := St.rec (motive := fun _ => β) (fun heap size wr => forceN size fun size => forceN wr fun wr => k ⟨heap, size, wr⟩) σ
theorem forceS_eq {β : Type} (σ : St) (k : St → β) : forceS σ k = k σ := by
  obtain ⟨heap, size, wr⟩ := σ
  exact (forceN_eq size (fun size => forceN wr fun wr => k ⟨heap, size, wr⟩)).trans (forceN_eq wr (fun wr => k ⟨heap, size, wr⟩))
def forceT {β : Type} (ts : Ts) (k : Ts → β) : β := Ts.rec (motive := fun _ => β) (fun n tr => k ⟨n, tr⟩) ts
theorem forceT_eq {β : Type} (ts : Ts) (k : Ts → β) : forceT ts k = k ts := rfl
/-- a value put into a slot that the text names -/
structure PK where
  put : Ts → Value → (Ts → Option (Ts × St)) → Option (Ts × St)
def putC (dst : Option Tmp) : PK :=
  match dst with
  | none => ⟨fun ts _ k => k ts⟩
  | some d => ⟨fun ts v k => Ts.rec (motive := fun _ => Option (Ts × St)) (fun n tr => Bool.rec (k ⟨n, tr⟩) (k ⟨n, (sacS d).set v tr⟩) (Nat.ble (Nat.succ d) n)) ts⟩
theorem putC_eq (dst : Option Tmp) (ts : Ts) (v : Value) (k : Ts → Option (Ts × St)) : (putC dst).put ts v k = k (putV ts dst v) := by
  cases dst with
  | none => rfl
  | some d =>
    obtain ⟨n, tr⟩ := ts
    show Bool.rec (motive := fun _ => Option (Ts × St)) (k ⟨n, tr⟩) (k ⟨n, (sacS d).set v tr⟩) (Nat.ble (Nat.succ d) n) = k (Bool.rec (motive := fun _ => Ts) ⟨n, tr⟩ ⟨n, (sacS d).set v tr⟩ (Nat.ble (Nat.succ d) n))
    cases Nat.ble (Nat.succ d) n <;> rfl
/-- operations that only reckon a value -/
def isPu : Op → Bool
  | .move _ | .assign _ | .binOp .. | .load .. | .fieldAddr .. | .unOp .. | .pick .. | .indexAddr .. | .extract .. | .field .. | .makeInterface .. | .nilCheck _ | .index .. => true
  | _ => false
def fstO (x : Option (Value × St)) : Option Value := Option.rec (motive := fun _ => Option Value) none (fun p => Prod.rec (motive := fun _ => Option Value) (fun v _ => some v) p) x
structure PC where
  run : Ts → St → Option Value
theorem one_fst (σ : St) (x : Option Value) : fstO (one σ x) = x := by cases x <;> rfl
theorem pure_same {P : Program} {σ σ' : St} {ts : Ts} {o : Oper} {r : Value} (h : pureV P σ ts o = some (r, σ')) : σ' = σ := by
  unfold pureV at h
  simp only [Option.map_eq_some_iff, Prod.mk.injEq] at h
  obtain ⟨_, _, _, h⟩ := h
  exact h.symm
theorem or_same {P : Program} {σ σ' : St} {ts : Ts} {o : Oper} {x : Option (Value × St)} {r : Value} (h : orElse x (fun _ => pureV P σ ts o) = some (r, σ')) (hx : ∀ {v s}, x = some (v, s) → s = σ) : σ' = σ := by
  rcases orElse_some h with h | h
  · exact hx h
  · exact pure_same h
theorem exec_same {P : Program} {σ σ' : St} {ts : Ts} {o : Oper} {r : Value} (hp : isPu o.op = true) (h : exec P σ ts o = some (r, σ')) : σ' = σ := by
  have h1 : ∀ {x : Option Value} {v : Value} {s : St}, one σ x = some (v, s) → s = σ := fun h => (one_some h).2
  cases ho : o.op <;> rw [ho] at hp <;> simp only [isPu] at hp <;> try (cases hp; done)
  all_goals (unfold exec at h; rw [ho] at h; simp only at h)
  case move => exact h1 h
  case assign => exact h1 h
  case pick => unfold xPick at h; split at h; · exact h1 h
               cases h
  case load => unfold xLoad at h; split at h; · exact h1 h
               cases h
  case nilCheck => unfold xNil at h; split at h; · exact or_same h h1
                   cases h
  case binOp =>
    unfold xBin at h
    split at h
    · unfold xInt at h
      split at h
      · exact or_same h h1
      · exact pure_same h
    · exact or_same h h1
    · cases h
  case unOp =>
    unfold xNot at h
    split at h
    · split at h
      · cases h; rfl
      · cases h
    · exact pure_same h
  case makeInterface => unfold xIface at h; split at h; · exact h1 h
                        cases h
  case fieldAddr => unfold xFieldAddr at h; split at h; · exact h1 h
                    cases h
  case field => unfold xField at h; split at h; · exact h1 h
                cases h
  case indexAddr => unfold xIndexAddr at h; split at h; · exact h1 h
                    cases h
  case index => unfold xIndex at h; split at h; · exact or_same h h1
                cases h
  case extract => unfold xExtract at h; split at h; · exact h1 h
                  cases h
def noIh : Ih := fun _ _ _ => none
def puDef (P : Program) (o : Oper) : PC := ⟨fun ts σ => fstO ((opC P o).run noIh ts σ)⟩
def valP (P : Program) (o : Oper) (x : Operand) : PC :=
  match gOf x with
  | some g => ⟨fun ts _ => some (g.get ts)⟩
  | none => puDef P o
def binF (F : BF) (slow : Option Value) (x y : Value) : Option Value :=
  match x with
  | .int k a => match y with
    | .int k' b => Bool.rec slow (some (F.f k a b)) (sameK k k')
    | _ => slow
  | _ => slow
theorem binF_eq (F : BF) (slow : Option (Value × St)) (σ : St) (x y : Value) : binF F (fstO slow) x y = fstO (binR F slow σ x y) := by
  unfold binF binR
  cases x <;> try rfl
  cases y <;> try rfl
  rename_i k a k' b
  simp only [intP]
  cases sameK k k' <;> rfl
def binP (P : Program) (o : Oper) (op : BinOp) (x y : Operand) : PC :=
  match gOf x, gOf y, bfOf op with
  | some gx, some gy, some F => ⟨fun ts σ => binF F (fstO (exec P σ ts o)) (gx.get ts) (gy.get ts)⟩
  | _, _, _ => puDef P o
def loadF (slow : Option Value) (σ : St) (v : Value) : Option Value :=
  match v with
  | .pointer (some ⟨k, off, none⟩) => Option.rec (motive := fun _ => Option Value) slow (fun B => Option.rec (motive := fun _ => Option Value) slow (fun r => some r) (nthO B.cells off)) (σ.getB k)
  | _ => slow
theorem loadF_eq (slow : Option (Value × St)) (σ : St) (v : Value) : loadF (fstO slow) σ v = fstO (loadOne slow σ v) := by
  unfold loadF loadOne
  split
  · rename_i k off
    simp only [ptrP]
    cases h : σ.getB k with
    | none => rfl
    | some B =>
      simp only
      cases h2 : nthO B.cells off <;> rfl
  · rename_i hne
    have : ptrP v = none := by
      unfold ptrP
      split
      · exact absurd rfl (hne _ _)
      · rfl
    rw [this]
def loadP (P : Program) (o : Oper) (t : TypeId) (x : Operand) : PC :=
  match gOf x, P.underlying t, P.info? t with
  | some g, some d, some _ => match d.isRow with
    | true => puDef P o
    | false => ⟨fun ts σ => loadF (fstO (exec P σ ts o)) σ (g.get ts)⟩
  | _, _, _ => puDef P o
def addF (slow : Option Value) (off : Nat) (v : Value) : Option Value :=
  match v with
  | .pointer (some ⟨k, o, none⟩) => some (.pointer (some ⟨k, o + off, none⟩))
  | _ => slow
theorem addF_eq (slow : Option (Value × St)) (σ : St) (off : Nat) (v : Value) : addF (fstO slow) off v = fstO (addPtr slow σ off v) := by
  unfold addF addPtr
  split
  · rfl
  · rename_i hne
    have : ptrP v = none := by
      unfold ptrP
      split
      · exact absurd rfl (hne _ _)
      · rfl
    rw [this]
def fieldAddrP (P : Program) (o : Oper) (s : TypeId) (x : Operand) (f : Nat) : PC :=
  match gOf x, offOf P s f with
  | some g, some off => ⟨fun ts σ => addF (fstO (exec P σ ts o)) off (g.get ts)⟩
  | _, _ => puDef P o
def indexAddrP (P : Program) (o : Oper) (t : TypeId) (x y : Operand) : PC :=
  match gOf x, gOf y with
  | some g, some k => ⟨fun ts _ => indexAddrV P t (g.get ts) (k.get ts)⟩
  | _, _ => puDef P o
def puOf (P : Program) (o : Oper) : PC :=
  match o.op with
  | .move x => valP P o x
  | .assign x => valP P o x
  | .binOp op _ x y _ => binP P o op x y
  | .load t x => loadP P o t x
  | .fieldAddr s x f => fieldAddrP P o s x f
  | .indexAddr t x y => indexAddrP P o t x y
  | _ => puDef P o
theorem puOf_eq (P : Program) (o : Oper) (ts : Ts) (σ : St) : (puOf P o).run ts σ = fstO ((opC P o).run noIh ts σ) := by
  unfold puOf
  split
  case h_1 x ho =>
    unfold opC valP; rw [ho]; simp only; unfold valC
    split
    · rename_i g hg; simp only [hg]; rfl
    · rename_i hg; simp only [puDef, opC, ho, valC, hg]
  case h_2 x ho =>
    unfold opC valP; rw [ho]; simp only; unfold valC
    split
    · rename_i g hg; simp only [hg]; rfl
    · rename_i hg; simp only [puDef, opC, ho, valC, hg]
  case h_3 op t x y t' ho =>
    unfold binP
    split
    · rename_i gx gy F hx hy hF
      simp only [opC, ho, binC, hx, hy, hF]
      exact binF_eq _ _ _ _ _
    · rfl
  case h_4 t x ho =>
    unfold loadP
    split
    · rename_i g d i hg hd hi
      split
      · rfl
      · rename_i hr
        simp only [opC, ho, loadC, hg, hd, hi, hr]
        exact loadF_eq _ _ _
    · rfl
  case h_5 s x f ho =>
    unfold fieldAddrP
    split
    · rename_i g off hg hoff
      simp only [opC, ho, fieldAddrC, hg, hoff]
      exact addF_eq _ _ _ _
    · rfl
  case h_6 t x y ho =>
    unfold indexAddrP
    split
    · rename_i g k hg hk
      simp only [opC, ho, u2, hg, hk]
      exact (one_fst _ _).symm
    · rfl
  case h_7 => rfl
/-- an operation and what follows -/
def opR (P : Program) (o : Oper) (rest : RC) : RC :=
  match isPu o.op with
  | true => ⟨fun ih ts σ => Option.rec (motive := fun _ => Option (Ts × St)) none (fun v => forceV v fun v => (putC o.dst).put ts v fun ts => rest.run ih ts σ) ((puOf P o).run ts σ)⟩
  | false => ⟨fun ih ts σ => Option.rec (motive := fun _ => Option (Ts × St)) none (fun p => Prod.rec (motive := fun _ => Option (Ts × St)) (fun v s => Bool.rec (motive := fun _ => Option (Ts × St)) none (forceV v fun v => forceS s fun s => (putC o.dst).put ts v fun ts => rest.run ih ts s) (Nat.ble σ.size s.size)) p) ((opC P o).run ih ts σ)⟩
theorem opR_eq (P : Program) (o : Oper) (rest : RC) (ih : Ih) (ts : Ts) (σ : St) : (opR P o rest).run ih ts σ = (match opV P ih ts σ o with
      | some (v, σ') => if σ.size ≤ σ'.size then rest.run ih (putV ts o.dst v) σ' else none
      | none => none) := by
  unfold opR
  split
  · rename_i hp
    have hnc : ∀ c, o.op = .call c → ∃ b, c.callee = .builtin b := fun c h => by rw [h] at hp; cases hp
    show Option.rec (motive := fun _ => Option (Ts × St)) none _ ((puOf P o).run ts σ) = _
    rw [puOf_eq, opC_eq, ← exec_opV hnc, ← exec_opV (ih := ih) hnc]
    cases he : exec P σ ts o with
    | none => rfl
    | some p =>
      obtain ⟨v, s⟩ := p
      have := exec_same hp he
      subst this
      show forceV v _ = _
      rw [forceV_eq, putC_eq]
      simp only [Nat.le_refl, if_true]
  · show Option.rec (motive := fun _ => Option (Ts × St)) none _ ((opC P o).run ih ts σ) = _
    rw [opC_eq]
    cases opV P ih ts σ o with
    | none => rfl
    | some p =>
      obtain ⟨v, s⟩ := p
      show Bool.rec (motive := fun _ => Option (Ts × St)) none (forceV v _) (Nat.ble σ.size s.size) = _
      rw [forceV_eq, forceS_eq, putC_eq]
      simp only
      by_cases h : σ.size ≤ s.size
      · rw [if_pos h, show Nat.ble σ.size s.size = true from by simpa using h]
      · rw [if_neg h, show Nat.ble σ.size s.size = false from by rw [Bool.eq_false_iff]; simpa using h]
def opsC (P : Program) (all : Array Oper) : List Oper → RC
  | [] => ⟨fun _ ts σ => some (ts, σ)⟩
  | o :: rest => match o.guard with
    | none => opR P o (opsC P all rest)
    | some _ => ⟨fun ih ts σ => match wantedV all ts o with
      | true => (opR P o (opsC P all rest)).run ih ts σ
      | false => (opsC P all rest).run ih (putV ts o.dst undef) σ⟩
theorem opsC_eq (P : Program) (all : Array Oper) (ih : Ih) : ∀ (l : List Oper) (ts : Ts) (σ : St), (opsC P all l).run ih ts σ = opsV P ih all l ts σ
  | [], ts, σ => rfl
  | o :: rest, ts, σ => by
    have hth : (opR P o (opsC P all rest)).run ih ts σ = (match opV P ih ts σ o with
      | some (v, σ') => if σ.size ≤ σ'.size then opsV P ih all rest (putV ts o.dst v) σ' else none
      | none => none) := by
      rw [opR_eq]
      cases opV P ih ts σ o with
      | none => rfl
      | some p =>
        obtain ⟨v, s⟩ := p
        simp only [opsC_eq P all ih rest]
    simp only [opsC, opsV]
    cases hg : o.guard with
    | none =>
      have : wantedV all ts o = true := by unfold wantedV; rw [hg]
      simp only [this, if_true]
      exact hth
    | some jw =>
      simp only
      cases hw : wantedV all ts o with
      | true => simp only [if_true]; exact hth
      | false => simp only [Bool.false_eq_true, if_false]; exact opsC_eq P all ih rest _ _
def dstTop : List Oper → Nat
  | [] => 0
  | o :: l => match o.dst with
    | some d => max (d + 1) (dstTop l)
    | none => dstTop l
theorem dstTop_le (l : List Oper) (o : Oper) (d : Nat) (ho : o ∈ l) (hd : o.dst = some d) : d < dstTop l := by
  induction l with
  | nil => exact absurd ho (List.not_mem_nil)
  | cons o' l ih =>
    have h1 : dstTop l ≤ dstTop (o' :: l) := by
      rw [dstTop]
      split
      · exact Nat.le_max_right _ _
      · exact Nat.le_refl _
    by_cases e : o ∈ l
    · exact Nat.lt_of_lt_of_le (ih e) h1
    · have : o = o' := (List.mem_cons.1 ho).resolve_right e
      subst this
      have : dstTop (o :: l) = max (d + 1) (dstTop l) := by rw [dstTop, hd]
      rw [this]
      exact Nat.lt_of_lt_of_le (Nat.lt_succ_self d) (Nat.le_max_left _ _)
theorem dstOk_mono {l : List Oper} {m n : Nat} (h : dstOk l m = true) (hm : m ≤ n) : dstOk l n = true := by
  unfold dstOk at *
  rw [List.all_eq_true] at *
  intro p hp
  have h2 := h p hp
  cases hd : p.dst with
  | none => rfl
  | some d =>
    rw [hd] at h2
    exact blt_true (Nat.lt_of_lt_of_le (blt_lt h2) hm)
def qC (P : Program) (all : Array Oper) : List Oper → RC
  | [] => ⟨fun _ ts σ => some (ts, σ)⟩
  | o :: rest => ⟨fun ih ts σ => match wantedV all ts o with
    | true => match (opC P o).run ih ts { heap := σ.heap, size := σ.size, wr := 65536 } with
      | some (v, s) => match Nat.ble σ.size s.wr with
        | true => forceV v fun v => forceS { heap := s.heap, size := s.size, wr := min σ.wr s.wr } fun s => forceT (putV ts o.dst v) fun ts => (qC P all rest).run ih ts s
        | false => none
      | none => none
    | false => (qC P all rest).run ih (putV ts o.dst undef) σ⟩
theorem qC_eq (P : Program) (all : Array Oper) (ih : Ih) : ∀ (l : List Oper) (ts : Ts) (σ : St), (qC P all l).run ih ts σ = qV P ih all l ts σ
  | [], ts, σ => rfl
  | o :: rest, ts, σ => by
    simp only [qC, qV]
    cases hw : wantedV all ts o with
    | true =>
      simp only [if_true, opC_eq]
      cases opV P ih ts { heap := σ.heap, size := σ.size, wr := 65536 } o with
      | none => rfl
      | some p =>
        obtain ⟨v, s⟩ := p
        simp only
        by_cases h : σ.size ≤ s.wr
        · rw [if_pos h, show Nat.ble σ.size s.wr = true from by simpa using h]
          simp only [forceV_eq, forceS_eq, forceT_eq]
          exact qC_eq P all ih rest _ _
        · rw [if_neg h, show Nat.ble σ.size s.wr = false from by rw [Bool.eq_false_iff]; simpa using h]
    | false => simp only [Bool.false_eq_true, if_false]; exact qC_eq P all ih rest _ _
def thenR (x : Option (Ts × St)) (k : Ts → St → Option (Ts × St)) : Option (Ts × St) :=
  match x with
  | some p => k p.1 p.2
  | none => none
def drawC (P : Program) (ops : Array Oper) : RC :=
  match drawOK P ops (dstTop ops.toList) (freeN ops) with
  | true => ⟨fun ih ts σ => match Nat.ble (dstTop ops.toList) ts.n with
    | true => thenR ((qC P ops (ops.toList.take (freeN ops))).run ih ts σ) ((opsC P ops (ops.toList.drop (freeN ops))).run ih)
    | false => none⟩
  | false => ⟨fun _ _ _ => none⟩
theorem drawC_some {P : Program} {ops : Array Oper} {ih : Ih} {ts : Ts} {σ : St} {r : Ts × St} (h : (drawC P ops).run ih ts σ = some r) : drawV P ih ops ts σ = some r := by
  unfold drawC at h
  split at h
  case h_2 => cases h
  rename_i hok
  simp only at h
  split at h
  case h_2 => cases h
  rename_i hn
  have hle := Nat.le_of_ble_eq_true hn
  have hok2 : drawOK P ops ts.n (freeN ops) = true := by
    unfold drawOK at hok ⊢
    simp only [Bool.and_eq_true] at hok ⊢
    exact ⟨⟨⟨⟨hok.1.1.1.1, dstOk_mono hok.1.1.1.2 hle⟩, hok.1.1.2⟩, hok.1.2⟩, hok.2⟩
  unfold drawV
  rw [if_pos hok2]
  unfold thenR at h
  rw [qC_eq] at h
  cases hq : qV P ih ops (ops.toList.take (freeN ops)) ts σ with
  | none => rw [hq] at h; cases h
  | some p =>
    obtain ⟨ts1, s1⟩ := p
    rw [hq] at h
    simp only [opsC_eq] at h
    exact h

end
end Go.Proofs.YtcllgicphjmamaaGreat.ev
