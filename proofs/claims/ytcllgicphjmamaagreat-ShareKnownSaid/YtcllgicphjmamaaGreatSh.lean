/- Short names for the literals of steps. -/
import Derived.Test.YtcllgicphjmamaaGreatKv16
namespace Go.Proofs.YtcllgicphjmamaaGreat.ev
abbrev tn {α : Type} (l r : Tr α) : Tr α := .node l r
abbrev tL {α : Type} (l : Tr α) : Tr α := .node l .nil
abbrev tR {α : Type} (r : Tr α) : Tr α := .node .nil r
abbrev tl {α : Type} (v : α) : Tr α := .leaf v
abbrev tz {α : Type} : Tr α := .nil
abbrev vi (n : Nat) : Value := .int .i64 (.ofNat n)
abbrev ti (n : Nat) : Tr Value := .leaf (.int .i64 (.ofNat n))
abbrev tT : Tr Value := .leaf (.bool true)
abbrev tF : Tr Value := .leaf (.bool false)
abbrev vN : Value := .slice none 0 0
abbrev vs (b o n c : Nat) : Value := .slice (some ⟨b, o, none⟩) n c
abbrev vo (b o n : Nat) : Value := .slice (some ⟨b, o, none⟩) n 4611686018427387904
abbrev vp (b o : Nat) : Value := .pointer (some ⟨b, o, none⟩)
abbrev bk (cells : List Value) (tip : Bool) (esz : Nat) (anc : List Nat) : Blk := ⟨cells, tip, esz, anc, true⟩
noncomputable def mkS (n : Nat) (l : List (Nat × Value)) : Ts := ⟨n, l.foldl (fun t p => (sacS p.1).set p.2 t) (zS undef)⟩
end Go.Proofs.YtcllgicphjmamaaGreat.ev
