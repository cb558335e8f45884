/-
  No cell of these rows narrows 'for every input' (looked for: loops, veiled, ifaces, maps, wideKeys, modest, calm, conditions, laid).
  DERIVED. THE GIVEN ROWS OF THIS SEAT. 2 by the template 'for every input the law returns true; each argument reads behind the call as it read before'; 0 by the template 'total and deterministic' (their statements: YtadamjleglckpaaTotals.lean).
  GIVEN WITH THE SEED: the statements are not yours to turn. If you find one false, say at which input.
  Laid BY PROGRAM, IN A SANDBOX (cutbox-rows.mjs): the forced cells as the released guide's own fill.sh prints them over the translation 2f09dd087bcfa8f4… (all of the seat's roots in one cut). By AI agents, Wed Nov 11 2026. No macro, syntax, notation, axiom, sorry.
-/
import Derived.Test.YtadamjleglckpaaChecked
import GoSem.Claim
import GoSem.ClaimJoined
import GoSem.ClaimMapViews
import Derived.JoinedTies
import Derived.KernelRfl
namespace Go.Proofs.Ytadamjleglckpaa
/- THE CELL 'sum', in the pinned program and in every row, IS THE sha256 OF THE DUMP (.gsa) THAT YtadamjleglckpaaProg.lean LOADS. Nothing in Lean hashes anything: it is a label: what it is worth is what the hold of that sum in a sandbox is worth. -/
noncomputable def Try.pinned : Pinned := { name := "ytadamjleglckpaa", sum := "2f09dd087bcfa8f436dc09c383268efad834a34160614a568724eed8c002d940", checked := Try.checked }
namespace Rows
def none {H : Type} : Left H := { results := [], args := [] }

/-- 'novaculitelaw02.DrainPlans': WHATEVER THE INPUT: true; the input reads as it did. -/
def drainPlansSpec : ChangeSpec := { name := "drainPlans", fn := fun _ => fun
  | [d1, d2, d3] => { results := [.lit (.bool true)], args := [d1, d2, d3] }
  | _ => none }
def drainPlansRow : OpenClaim := { program := "ytadamjleglckpaa", sum := "2f09dd087bcfa8f436dc09c383268efad834a34160614a568724eed8c002d940", func := "novaculite/novaculitelaw02.DrainPlans", spec := "drainPlans", unfollowed := true, recurses := true, apart := false }
def DrainPlansSaid : Prop := drainPlansRow.holds Try.pinned (OpenSpec.ofChange drainPlansSpec)

/-- ITS FALSE NEIGHBOUR: 'it returns false'. Refute it at one input. -/
def drainPlansWrong : ChangeSpec := { name := "drainPlans", fn := fun _ => fun
  | [d1, d2, d3] => { results := [.lit (.bool false)], args := [d1, d2, d3] }
  | _ => none }
def DrainPlansWrongFalsely : Prop := drainPlansRow.holds Try.pinned (OpenSpec.ofChange drainPlansWrong)

/-- 'novaculitelaw02.DrainNamed': WHATEVER THE INPUT: true; the input reads as it did. -/
def drainNamedSpec : ChangeSpec := { name := "drainNamed", fn := fun _ => fun
  | [d1, d2, d3] => { results := [.lit (.bool true)], args := [d1, d2, d3] }
  | _ => none }
def drainNamedRow : OpenClaim := { program := "ytadamjleglckpaa", sum := "2f09dd087bcfa8f436dc09c383268efad834a34160614a568724eed8c002d940", func := "novaculite/novaculitelaw02.DrainNamed", spec := "drainNamed", unfollowed := true, recurses := true, apart := false }
def DrainNamedSaid : Prop := drainNamedRow.holds Try.pinned (OpenSpec.ofChange drainNamedSpec)

/-- ITS FALSE NEIGHBOUR: 'it returns false'. Refute it at one input. -/
def drainNamedWrong : ChangeSpec := { name := "drainNamed", fn := fun _ => fun
  | [d1, d2, d3] => { results := [.lit (.bool false)], args := [d1, d2, d3] }
  | _ => none }
def DrainNamedWrongFalsely : Prop := drainNamedRow.holds Try.pinned (OpenSpec.ofChange drainNamedWrong)

/- THE SECOND FORM. 'bulk': how many values and letters a reading holds, each counted each time it is reached (what is shared counts as often as it is met; a slice's spare places count too). A statement '..UptoSaid' is the law's where the arguments, and the package variables that the reading takes, are together of bulk at most 1048576: NARROWER than '..Said'. Prove '..Said' where nothing that the law and all that it calls make is longer than what came in: it says more and counts as full. Else prove '..UptoSaid'. A law counts once. -/
mutual
def uptoBulk {H : Type} : DataW H → Nat
  | .lit (.string bytes) => bytes.length + 1
  | .lit _ => 1
  | .nil => 1
  | .ptr d => uptoBulk d + 1
  | .slice elems spare => uptoBulkAll elems + uptoBulkAll spare + 1
  | .agg parts => uptoBulkAll parts + 1
  | .iface _ d => uptoBulk d + 1
  | .map entries => uptoBulkEntries entries + 1
  | .held _ => 1
def uptoBulkAll {H : Type} : List (DataW H) → Nat
  | [] => 0
  | d :: r => uptoBulk d + uptoBulkAll r
def uptoBulkEntries {H : Type} : List (Lit × DataW H) → Nat
  | [] => 0
  | x :: r => uptoBulkEntry x + uptoBulkEntries r
def uptoBulkEntry {H : Type} : Lit × DataW H → Nat
  | (.string bytes, d) => bytes.length + uptoBulk d + 1
  | (_, d) => uptoBulk d + 1
 end
def uptoSmall : (H : Type) → List (DataW H) → Bool := fun _ ds => decide (uptoBulkAll ds ≤ 1048576)
def OpenSpec.upto (s : _root_.Go.ChangeSpec) : _root_.Go.OpenSpec := { _root_.Go.OpenSpec.ofChange s with cond := some uptoSmall }

/-- 'novaculitelaw02.DrainPlans', WHERE WHAT IT READS IS OF BULK AT MOST 1048576: true; the input reads as it did. -/
def drainPlansUptoRow : OpenClaim := { program := "ytadamjleglckpaa", sum := "2f09dd087bcfa8f436dc09c383268efad834a34160614a568724eed8c002d940", func := "novaculite/novaculitelaw02.DrainPlans", spec := "drainPlans", unfollowed := true, recurses := true, apart := false, narrowed := true }
def DrainPlansUptoSaid : Prop := drainPlansUptoRow.holds Try.pinned (OpenSpec.upto drainPlansSpec)

/-- 'novaculitelaw02.DrainNamed', WHERE WHAT IT READS IS OF BULK AT MOST 1048576: true; the input reads as it did. -/
def drainNamedUptoRow : OpenClaim := { program := "ytadamjleglckpaa", sum := "2f09dd087bcfa8f436dc09c383268efad834a34160614a568724eed8c002d940", func := "novaculite/novaculitelaw02.DrainNamed", spec := "drainNamed", unfollowed := true, recurses := true, apart := false, narrowed := true }
def DrainNamedUptoSaid : Prop := drainNamedUptoRow.holds Try.pinned (OpenSpec.upto drainNamedSpec)

end Rows
end Go.Proofs.Ytadamjleglckpaa
