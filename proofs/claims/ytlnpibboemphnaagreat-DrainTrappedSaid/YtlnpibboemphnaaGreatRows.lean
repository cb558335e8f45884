/-
  No cell of these rows narrows 'for every input' (looked for: loops, veiled, ifaces, maps, wideKeys, modest, calm, conditions, laid).
  DERIVED. THE GIVEN ROWS OF THIS SEAT. 8 by the template 'for every input the law returns true; each argument reads behind the call as it read before'; 0 by the template 'total and deterministic' (their statements: YtlnpibboemphnaaGreatTotals.lean).
  GIVEN WITH THE SEED: the statements are not yours to turn. If you find one false, say at which input.
  Laid BY PROGRAM, IN A SANDBOX (cutbox-rows.mjs): the forced cells as the released guide's own fill.sh prints them over the translation 8329007c76f6bea5… (all of the seat's roots in one cut). By AI agents, Wed Nov 11 2026. No macro, syntax, notation, axiom, sorry.
-/
import Derived.Test.YtlnpibboemphnaaGreatChecked
import GoSem.Claim
import GoSem.ClaimJoined
import GoSem.ClaimMapViews
import Derived.JoinedTies
import Derived.KernelRfl
namespace Go.Proofs.YtlnpibboemphnaaGreat
/- THE CELL 'sum', in the pinned program and in every row, IS THE sha256 OF THE DUMP (.gsa) THAT YtlnpibboemphnaaGreatProg.lean LOADS. Nothing in Lean hashes anything: it is a label: what it is worth is what the hold of that sum in a sandbox is worth. -/
noncomputable def Tryz.pinned : Pinned := { name := "ytlnpibboemphnaagreat", sum := "8329007c76f6bea59bb4f7132b66d1e33bee8d11ad4146f3511f646cb831b56b", checked := Tryz.checked }
namespace Rows
def none {H : Type} : Left H := { results := [], args := [] }

/-- 'novaculitelaw02.DrainFulkerson': WHATEVER THE INPUT: true; the input reads as it did. -/
def drainFulkersonSpec : ChangeSpec := { name := "drainFulkerson", fn := fun _ => fun
  | [d] => { results := [.lit (.bool true)], args := [d] }
  | _ => none }
def drainFulkersonRow : OpenClaim := { program := "ytlnpibboemphnaagreat", sum := "8329007c76f6bea59bb4f7132b66d1e33bee8d11ad4146f3511f646cb831b56b", func := "novaculite/novaculitelaw02.DrainFulkerson", spec := "drainFulkerson", unfollowed := true, recurses := true, apart := false }
def DrainFulkersonSaid : Prop := drainFulkersonRow.holds Tryz.pinned (OpenSpec.ofChange drainFulkersonSpec)

/-- ITS FALSE NEIGHBOUR: 'it returns false'. Refute it at one input. -/
def drainFulkersonWrong : ChangeSpec := { name := "drainFulkerson", fn := fun _ => fun
  | [d] => { results := [.lit (.bool false)], args := [d] }
  | _ => none }
def DrainFulkersonWrongFalsely : Prop := drainFulkersonRow.holds Tryz.pinned (OpenSpec.ofChange drainFulkersonWrong)

/-- 'novaculitelaw02.DrainSteps': WHATEVER THE INPUT: true; the input reads as it did. -/
def drainStepsSpec : ChangeSpec := { name := "drainSteps", fn := fun _ => fun
  | [d] => { results := [.lit (.bool true)], args := [d] }
  | _ => none }
def drainStepsRow : OpenClaim := { program := "ytlnpibboemphnaagreat", sum := "8329007c76f6bea59bb4f7132b66d1e33bee8d11ad4146f3511f646cb831b56b", func := "novaculite/novaculitelaw02.DrainSteps", spec := "drainSteps", unfollowed := true, recurses := true, apart := false }
def DrainStepsSaid : Prop := drainStepsRow.holds Tryz.pinned (OpenSpec.ofChange drainStepsSpec)

/-- ITS FALSE NEIGHBOUR: 'it returns false'. Refute it at one input. -/
def drainStepsWrong : ChangeSpec := { name := "drainSteps", fn := fun _ => fun
  | [d] => { results := [.lit (.bool false)], args := [d] }
  | _ => none }
def DrainStepsWrongFalsely : Prop := drainStepsRow.holds Tryz.pinned (OpenSpec.ofChange drainStepsWrong)

/-- 'novaculitelaw02.DrainEdmonds': WHATEVER THE INPUT: true; the input reads as it did. -/
def drainEdmondsSpec : ChangeSpec := { name := "drainEdmonds", fn := fun _ => fun
  | [d] => { results := [.lit (.bool true)], args := [d] }
  | _ => none }
def drainEdmondsRow : OpenClaim := { program := "ytlnpibboemphnaagreat", sum := "8329007c76f6bea59bb4f7132b66d1e33bee8d11ad4146f3511f646cb831b56b", func := "novaculite/novaculitelaw02.DrainEdmonds", spec := "drainEdmonds", unfollowed := true, recurses := true, apart := false }
def DrainEdmondsSaid : Prop := drainEdmondsRow.holds Tryz.pinned (OpenSpec.ofChange drainEdmondsSpec)

/-- ITS FALSE NEIGHBOUR: 'it returns false'. Refute it at one input. -/
def drainEdmondsWrong : ChangeSpec := { name := "drainEdmonds", fn := fun _ => fun
  | [d] => { results := [.lit (.bool false)], args := [d] }
  | _ => none }
def DrainEdmondsWrongFalsely : Prop := drainEdmondsRow.holds Tryz.pinned (OpenSpec.ofChange drainEdmondsWrong)

/-- 'novaculitelaw02.DrainTutte': WHATEVER THE INPUT: true; the input reads as it did. -/
def drainTutteSpec : ChangeSpec := { name := "drainTutte", fn := fun _ => fun
  | [d] => { results := [.lit (.bool true)], args := [d] }
  | _ => none }
def drainTutteRow : OpenClaim := { program := "ytlnpibboemphnaagreat", sum := "8329007c76f6bea59bb4f7132b66d1e33bee8d11ad4146f3511f646cb831b56b", func := "novaculite/novaculitelaw02.DrainTutte", spec := "drainTutte", unfollowed := true, recurses := true, apart := false }
def DrainTutteSaid : Prop := drainTutteRow.holds Tryz.pinned (OpenSpec.ofChange drainTutteSpec)

/-- ITS FALSE NEIGHBOUR: 'it returns false'. Refute it at one input. -/
def drainTutteWrong : ChangeSpec := { name := "drainTutte", fn := fun _ => fun
  | [d] => { results := [.lit (.bool false)], args := [d] }
  | _ => none }
def DrainTutteWrongFalsely : Prop := drainTutteRow.holds Tryz.pinned (OpenSpec.ofChange drainTutteWrong)

/-- 'novaculitelaw02.DrainTrapped': WHATEVER THE INPUT: true; the input reads as it did. -/
def drainTrappedSpec : ChangeSpec := { name := "drainTrapped", fn := fun _ => fun
  | [d1, d2] => { results := [.lit (.bool true)], args := [d1, d2] }
  | _ => none }
def drainTrappedRow : OpenClaim := { program := "ytlnpibboemphnaagreat", sum := "8329007c76f6bea59bb4f7132b66d1e33bee8d11ad4146f3511f646cb831b56b", func := "novaculite/novaculitelaw02.DrainTrapped", spec := "drainTrapped", unfollowed := true, recurses := true, apart := false }
def DrainTrappedSaid : Prop := drainTrappedRow.holds Tryz.pinned (OpenSpec.ofChange drainTrappedSpec)

/-- ITS FALSE NEIGHBOUR: 'it returns false'. Refute it at one input. -/
def drainTrappedWrong : ChangeSpec := { name := "drainTrapped", fn := fun _ => fun
  | [d1, d2] => { results := [.lit (.bool false)], args := [d1, d2] }
  | _ => none }
def DrainTrappedWrongFalsely : Prop := drainTrappedRow.holds Tryz.pinned (OpenSpec.ofChange drainTrappedWrong)

/-- 'novaculitelaw02.DrainWorth': WHATEVER THE INPUT: true; the input reads as it did. -/
def drainWorthSpec : ChangeSpec := { name := "drainWorth", fn := fun _ => fun
  | [d] => { results := [.lit (.bool true)], args := [d] }
  | _ => none }
def drainWorthRow : OpenClaim := { program := "ytlnpibboemphnaagreat", sum := "8329007c76f6bea59bb4f7132b66d1e33bee8d11ad4146f3511f646cb831b56b", func := "novaculite/novaculitelaw02.DrainWorth", spec := "drainWorth", unfollowed := true, recurses := true, apart := false }
def DrainWorthSaid : Prop := drainWorthRow.holds Tryz.pinned (OpenSpec.ofChange drainWorthSpec)

/-- ITS FALSE NEIGHBOUR: 'it returns false'. Refute it at one input. -/
def drainWorthWrong : ChangeSpec := { name := "drainWorth", fn := fun _ => fun
  | [d] => { results := [.lit (.bool false)], args := [d] }
  | _ => none }
def DrainWorthWrongFalsely : Prop := drainWorthRow.holds Tryz.pinned (OpenSpec.ofChange drainWorthWrong)

/-- 'novaculitelaw02.DrainWays': WHATEVER THE INPUT: true; the input reads as it did. -/
def drainWaysSpec : ChangeSpec := { name := "drainWays", fn := fun _ => fun
  | [d1, d2, d3] => { results := [.lit (.bool true)], args := [d1, d2, d3] }
  | _ => none }
def drainWaysRow : OpenClaim := { program := "ytlnpibboemphnaagreat", sum := "8329007c76f6bea59bb4f7132b66d1e33bee8d11ad4146f3511f646cb831b56b", func := "novaculite/novaculitelaw02.DrainWays", spec := "drainWays", unfollowed := true, recurses := true, apart := false }
def DrainWaysSaid : Prop := drainWaysRow.holds Tryz.pinned (OpenSpec.ofChange drainWaysSpec)

/-- ITS FALSE NEIGHBOUR: 'it returns false'. Refute it at one input. -/
def drainWaysWrong : ChangeSpec := { name := "drainWays", fn := fun _ => fun
  | [d1, d2, d3] => { results := [.lit (.bool false)], args := [d1, d2, d3] }
  | _ => none }
def DrainWaysWrongFalsely : Prop := drainWaysRow.holds Tryz.pinned (OpenSpec.ofChange drainWaysWrong)

/-- 'novaculitelaw02.DrainShown': WHATEVER THE INPUT: true; the input reads as it did. -/
def drainShownSpec : ChangeSpec := { name := "drainShown", fn := fun _ => fun
  | [d1, d2, d3, d4, d5] => { results := [.lit (.bool true)], args := [d1, d2, d3, d4, d5] }
  | _ => none }
def drainShownRow : OpenClaim := { program := "ytlnpibboemphnaagreat", sum := "8329007c76f6bea59bb4f7132b66d1e33bee8d11ad4146f3511f646cb831b56b", func := "novaculite/novaculitelaw02.DrainShown", spec := "drainShown", unfollowed := true, recurses := true, apart := false }
def DrainShownSaid : Prop := drainShownRow.holds Tryz.pinned (OpenSpec.ofChange drainShownSpec)

/-- ITS FALSE NEIGHBOUR: 'it returns false'. Refute it at one input. -/
def drainShownWrong : ChangeSpec := { name := "drainShown", fn := fun _ => fun
  | [d1, d2, d3, d4, d5] => { results := [.lit (.bool false)], args := [d1, d2, d3, d4, d5] }
  | _ => none }
def DrainShownWrongFalsely : Prop := drainShownRow.holds Tryz.pinned (OpenSpec.ofChange drainShownWrong)

/- THE SECOND FORM. 'bulk': how many values and letters a reading holds, each counted each time it is reached (what is shared counts as often as it is met; a slice's spare places count too). A statement '..UptoSaid' is the law's where the arguments, and the package variables that the reading takes, are together of bulk at most 1048576: NARROWER than '..Said'. Prove '..Said' where nothing that the law and all that it calls make is longer than what came in: it says more and counts as full. Else prove '..UptoSaid'. A law counts once. -/
mutual
def uptoBulk {H : Type} : DataW H → Nat
  | .lit (.string bytes) => bytes.length + 1
  | .lit _ => 1
  | .nil => 1
  | .ptr d => uptoBulk d + 1
  | .slice elems spare => uptoBulkAll elems + uptoBulkAll spare + 1
  | .agg parts => uptoBulkAll parts + 1
  | .iface _ d => uptoBulk d + 1
  | .map entries => uptoBulkEntries entries + 1
  | .held _ => 1
def uptoBulkAll {H : Type} : List (DataW H) → Nat
  | [] => 0
  | d :: r => uptoBulk d + uptoBulkAll r
def uptoBulkEntries {H : Type} : List (Lit × DataW H) → Nat
  | [] => 0
  | x :: r => uptoBulkEntry x + uptoBulkEntries r
def uptoBulkEntry {H : Type} : Lit × DataW H → Nat
  | (.string bytes, d) => bytes.length + uptoBulk d + 1
  | (_, d) => uptoBulk d + 1
 end
def uptoSmall : (H : Type) → List (DataW H) → Bool := fun _ ds => decide (uptoBulkAll ds ≤ 1048576)
def OpenSpec.upto (s : _root_.Go.ChangeSpec) : _root_.Go.OpenSpec := { _root_.Go.OpenSpec.ofChange s with cond := some uptoSmall }

/-- 'novaculitelaw02.DrainFulkerson', WHERE WHAT IT READS IS OF BULK AT MOST 1048576: true; the input reads as it did. -/
def drainFulkersonUptoRow : OpenClaim := { program := "ytlnpibboemphnaagreat", sum := "8329007c76f6bea59bb4f7132b66d1e33bee8d11ad4146f3511f646cb831b56b", func := "novaculite/novaculitelaw02.DrainFulkerson", spec := "drainFulkerson", unfollowed := true, recurses := true, apart := false, narrowed := true }
def DrainFulkersonUptoSaid : Prop := drainFulkersonUptoRow.holds Tryz.pinned (OpenSpec.upto drainFulkersonSpec)

/-- 'novaculitelaw02.DrainSteps', WHERE WHAT IT READS IS OF BULK AT MOST 1048576: true; the input reads as it did. -/
def drainStepsUptoRow : OpenClaim := { program := "ytlnpibboemphnaagreat", sum := "8329007c76f6bea59bb4f7132b66d1e33bee8d11ad4146f3511f646cb831b56b", func := "novaculite/novaculitelaw02.DrainSteps", spec := "drainSteps", unfollowed := true, recurses := true, apart := false, narrowed := true }
def DrainStepsUptoSaid : Prop := drainStepsUptoRow.holds Tryz.pinned (OpenSpec.upto drainStepsSpec)

/-- 'novaculitelaw02.DrainEdmonds', WHERE WHAT IT READS IS OF BULK AT MOST 1048576: true; the input reads as it did. -/
def drainEdmondsUptoRow : OpenClaim := { program := "ytlnpibboemphnaagreat", sum := "8329007c76f6bea59bb4f7132b66d1e33bee8d11ad4146f3511f646cb831b56b", func := "novaculite/novaculitelaw02.DrainEdmonds", spec := "drainEdmonds", unfollowed := true, recurses := true, apart := false, narrowed := true }
def DrainEdmondsUptoSaid : Prop := drainEdmondsUptoRow.holds Tryz.pinned (OpenSpec.upto drainEdmondsSpec)

/-- 'novaculitelaw02.DrainTutte', WHERE WHAT IT READS IS OF BULK AT MOST 1048576: true; the input reads as it did. -/
def drainTutteUptoRow : OpenClaim := { program := "ytlnpibboemphnaagreat", sum := "8329007c76f6bea59bb4f7132b66d1e33bee8d11ad4146f3511f646cb831b56b", func := "novaculite/novaculitelaw02.DrainTutte", spec := "drainTutte", unfollowed := true, recurses := true, apart := false, narrowed := true }
def DrainTutteUptoSaid : Prop := drainTutteUptoRow.holds Tryz.pinned (OpenSpec.upto drainTutteSpec)

/-- 'novaculitelaw02.DrainTrapped', WHERE WHAT IT READS IS OF BULK AT MOST 1048576: true; the input reads as it did. -/
def drainTrappedUptoRow : OpenClaim := { program := "ytlnpibboemphnaagreat", sum := "8329007c76f6bea59bb4f7132b66d1e33bee8d11ad4146f3511f646cb831b56b", func := "novaculite/novaculitelaw02.DrainTrapped", spec := "drainTrapped", unfollowed := true, recurses := true, apart := false, narrowed := true }
def DrainTrappedUptoSaid : Prop := drainTrappedUptoRow.holds Tryz.pinned (OpenSpec.upto drainTrappedSpec)

/-- 'novaculitelaw02.DrainWorth', WHERE WHAT IT READS IS OF BULK AT MOST 1048576: true; the input reads as it did. -/
def drainWorthUptoRow : OpenClaim := { program := "ytlnpibboemphnaagreat", sum := "8329007c76f6bea59bb4f7132b66d1e33bee8d11ad4146f3511f646cb831b56b", func := "novaculite/novaculitelaw02.DrainWorth", spec := "drainWorth", unfollowed := true, recurses := true, apart := false, narrowed := true }
def DrainWorthUptoSaid : Prop := drainWorthUptoRow.holds Tryz.pinned (OpenSpec.upto drainWorthSpec)

/-- 'novaculitelaw02.DrainWays', WHERE WHAT IT READS IS OF BULK AT MOST 1048576: true; the input reads as it did. -/
def drainWaysUptoRow : OpenClaim := { program := "ytlnpibboemphnaagreat", sum := "8329007c76f6bea59bb4f7132b66d1e33bee8d11ad4146f3511f646cb831b56b", func := "novaculite/novaculitelaw02.DrainWays", spec := "drainWays", unfollowed := true, recurses := true, apart := false, narrowed := true }
def DrainWaysUptoSaid : Prop := drainWaysUptoRow.holds Tryz.pinned (OpenSpec.upto drainWaysSpec)

/-- 'novaculitelaw02.DrainShown', WHERE WHAT IT READS IS OF BULK AT MOST 1048576: true; the input reads as it did. -/
def drainShownUptoRow : OpenClaim := { program := "ytlnpibboemphnaagreat", sum := "8329007c76f6bea59bb4f7132b66d1e33bee8d11ad4146f3511f646cb831b56b", func := "novaculite/novaculitelaw02.DrainShown", spec := "drainShown", unfollowed := true, recurses := true, apart := false, narrowed := true }
def DrainShownUptoSaid : Prop := drainShownUptoRow.holds Tryz.pinned (OpenSpec.upto drainShownSpec)

end Rows
end Go.Proofs.YtlnpibboemphnaaGreat
