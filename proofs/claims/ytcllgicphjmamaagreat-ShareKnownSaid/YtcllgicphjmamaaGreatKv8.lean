/- The reckoner: calls and code. -/
import Derived.Test.YtcllgicphjmamaaGreatKv7
namespace Go.Proofs.YtcllgicphjmamaaGreat.ev
noncomputable section
open Go.RowKit
set_option linter.unusedSimpArgs false
set_option linter.unusedVariables false
set_option linter.unusedSectionVars false

/-- what is known of calls: what they answer, nothing else done -/
class Kn where
  val : FuncId → List Value → Option Value
variable [Kn]
structure Fd where
  body : Code
  ntmps : Nat
  results : List ResultVar
def fdOf (P : Program) (g : FuncId) : Option Fd :=
  match P.funcs[g]? with
  | some fn => match fn.body with
    | some c => if fn.name == "runtime.NumGoroutine" then none else some ⟨c, fn.ntmps, fn.results.toList⟩
    | none => none
  | none => none
inductive Ex where
  | norm
  | exit (id : Nat)
  | ret
def Ex.of : Ex → Exit
  | .norm => .normal
  | .exit id => .exit id
  | .ret => .ret
abbrev Ih := Code → Ts → St → Option (Ex × Ts × St)
def callOf (P : Program) (ts : Ts) (o : Oper) : Option (FuncId × List Value) :=
  match o.op with
  | .call c => match c.callee with
    | .value f => match evo ts f with
      | some (.func (.func g) first captured) => if oksL ts c.args.toList then some (g, first.toList ++ c.args.toList.map (vof ts) ++ captured.toList) else none
      | _ => none
    | .invoke recv name => match evo ts recv with
      | some (.iface t v) => if flat v && oksL ts c.args.toList then match pureRun P (method (P.types.size + Made.depth) t v name) with
          | some (g, u) => if flat u then some (g, u :: c.args.toList.map (vof ts)) else none
          | none => none
        else none
      | _ => none
    | .builtin _ => none
  | _ => none
def resultsV (P : Program) (σ : St) (ts : Ts) : List ResultVar → Option (List Value)
  | [] => some []
  | .tmp t :: l => match resultsV P σ ts l with
    | some r => some (getT ts t :: r)
    | none => none
  | .cell p ty :: l => match getT ts p with
    | .pointer (some ⟨k, o, none⟩) => match loadB P σ ty k o, resultsV P σ ts l with
      | some v, some r => some (v :: r)
      | _, _ => none
    | _ => none
def oneOf : List Value → Value
  | [v] => v
  | l => .tuple l.toArray
def fillT : Nat → List Value → Ts → Ts
  | _, [], ts => ts
  | k, v :: l, ts => fillT (k + 1) l (setT ts k v)
def frameT (n : Nat) (args : List Value) : Ts := fillT 0 args (slots0 n)
def okF (a n : Nat) : Bool := Bool.rec false (Nat.ble n 512) (Nat.ble a n)
theorem okF_le {a n : Nat} (h : okF a n = true) : a ≤ n ∧ n ≤ 512 := by
  unfold okF at h
  cases h2 : Nat.ble a n with
  | false => rw [h2] at h; cases h
  | true => rw [h2] at h; exact ⟨Nat.le_of_ble_eq_true h2, Nat.le_of_ble_eq_true h⟩
def callK (P : Program) (ih : Ih) (fd : Fd) (args : List Value) (σ : St) : Option (Value × St) :=
  match okF args.length fd.ntmps with
   | false => none
   | true => match ih fd.body (frameT fd.ntmps args) σ with
    | some (.norm, ts, σ') => match resultsV P σ' ts fd.results with
      | some l => some (oneOf l, σ')
      | none => none
    | some (.ret, ts, σ') => match resultsV P σ' ts fd.results with
      | some l => some (oneOf l, σ')
      | none => none
    | _ => none
def callF (P : Program) (ih : Ih) (g : FuncId) (args : List Value) (σ : St) : Option (Value × St) :=
  match fdOf P g with
  | some fd => match Kn.val g args with
    | some r => some (r, σ)
    | none => callK P ih fd args σ
  | none => none
def opV (P : Program) (ih : Ih) (ts : Ts) (σ : St) (o : Oper) : Option (Value × St) :=
  match callOf P ts o with
  | some (g, args) => callF P ih g args σ
  | none => exec P σ ts o
def boolOf : Value → Option Bool
  | .bool b => some b
  | _ => none
def wantedV (all : Array Oper) (ts : Ts) (o : Oper) : Bool :=
  match o.guard with
  | none => true
  | some (j, want) => (match (all[j]?).bind (·.dst) with
    | some d => boolOf (getT ts d)
    | none => none) == some want
def opsV (P : Program) (ih : Ih) (all : Array Oper) : List Oper → Ts → St → Option (Ts × St)
  | [], ts, σ => some (ts, σ)
  | o :: rest, ts, σ => if wantedV all ts o then match opV P ih ts σ o with
      | some (v, σ') => if σ.size ≤ σ'.size then opsV P ih all rest (putV ts o.dst v) σ' else none
      | none => none
    else opsV P ih all rest (putV ts o.dst undef) σ
def stepV (P : Program) (draw : Ih → Array Oper → Ts → St → Option (Ts × St)) (ih : Ih) : Ih
  | .skip, ts, σ => some (.norm, ts, σ)
  | .label _, ts, σ => some (.norm, ts, σ)
  | .region _ ops d, ts, σ => match (if d then draw ih ops ts σ else opsV P ih ops ops.toList ts σ) with
    | some (ts', σ') => some (.norm, ts', σ')
    | none => none
  | .seq x y, ts, σ => match ih x ts σ with
    | some (.norm, ts', σ') => ih y ts' σ'
    | r => r
  | .cond c x y, ts, σ => match evo ts c with
    | some (.bool t) => ih (if t then x else y) ts σ
    | _ => none
  | .block id b, ts, σ => match ih b ts σ with
    | some (.exit id', ts', σ') => some (if id' = id then .norm else .exit id', ts', σ')
    | r => r
  | .loop b, ts, σ => match ih b ts σ with
    | some (.norm, ts', σ') => ih (.loop b) ts' σ'
    | r => r
  | .scope b, ts, σ => ih b ts σ
  | .exit id, ts, σ => some (.exit id, ts, σ)
  | .ret, ts, σ => some (.ret, ts, σ)
  | _, _, _ => none
end
end Go.Proofs.YtcllgicphjmamaaGreat.ev
