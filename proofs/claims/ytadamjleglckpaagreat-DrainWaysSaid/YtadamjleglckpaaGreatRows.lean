/-
  No cell of these rows narrows 'for every input' (looked for: loops, veiled, ifaces, maps, wideKeys, modest, calm, conditions, laid).
  DERIVED. THE GIVEN ROWS OF THIS SEAT. 4 by the template 'for every input the law returns true; each argument reads behind the call as it read before'; 0 by the template 'total and deterministic' (their statements: YtadamjleglckpaaGreatTotals.lean).
  GIVEN WITH THE SEED: the statements are not yours to turn. If you find one false, say at which input.
  Laid BY PROGRAM, IN A SANDBOX (cutbox-rows.mjs): the forced cells as the released guide's own fill.sh prints them over the translation 39e4ef7f5a7879d4… (all of the seat's roots in one cut). By AI agents, Wed Nov 11 2026. No macro, syntax, notation, axiom, sorry.
-/
import Derived.Test.YtadamjleglckpaaGreatChecked
import GoSem.Claim
import GoSem.ClaimJoined
import GoSem.ClaimMapViews
import Derived.JoinedTies
import Derived.KernelRfl
namespace Go.Proofs.YtadamjleglckpaaGreat
/- THE CELL 'sum', in the pinned program and in every row, IS THE sha256 OF THE DUMP (.gsa) THAT YtadamjleglckpaaGreatProg.lean LOADS. Nothing in Lean hashes anything: it is a label: what it is worth is what the hold of that sum in a sandbox is worth. -/
noncomputable def Tryz.pinned : Pinned := { name := "ytadamjleglckpaagreat", sum := "39e4ef7f5a7879d4d347ddf1fd9677f797c21e9af2d50418f164f9ed5d3516cd", checked := Tryz.checked }
namespace Rows
def none {H : Type} : Left H := { results := [], args := [] }

/-- 'novaculitelaw02.DrainGroups': WHATEVER THE INPUT: true; the input reads as it did. -/
def drainGroupsSpec : ChangeSpec := { name := "drainGroups", fn := fun _ => fun
  | [d1, d2] => { results := [.lit (.bool true)], args := [d1, d2] }
  | _ => none }
def drainGroupsRow : OpenClaim := { program := "ytadamjleglckpaagreat", sum := "39e4ef7f5a7879d4d347ddf1fd9677f797c21e9af2d50418f164f9ed5d3516cd", func := "novaculite/novaculitelaw02.DrainGroups", spec := "drainGroups", unfollowed := true, recurses := true, apart := false }
def DrainGroupsSaid : Prop := drainGroupsRow.holds Tryz.pinned (OpenSpec.ofChange drainGroupsSpec)

/-- ITS FALSE NEIGHBOUR: 'it returns false'. Refute it at one input. -/
def drainGroupsWrong : ChangeSpec := { name := "drainGroups", fn := fun _ => fun
  | [d1, d2] => { results := [.lit (.bool false)], args := [d1, d2] }
  | _ => none }
def DrainGroupsWrongFalsely : Prop := drainGroupsRow.holds Tryz.pinned (OpenSpec.ofChange drainGroupsWrong)

/-- 'novaculitelaw02.DrainSteps': WHATEVER THE INPUT: true; the input reads as it did. -/
def drainStepsSpec : ChangeSpec := { name := "drainSteps", fn := fun _ => fun
  | [d] => { results := [.lit (.bool true)], args := [d] }
  | _ => none }
def drainStepsRow : OpenClaim := { program := "ytadamjleglckpaagreat", sum := "39e4ef7f5a7879d4d347ddf1fd9677f797c21e9af2d50418f164f9ed5d3516cd", func := "novaculite/novaculitelaw02.DrainSteps", spec := "drainSteps", unfollowed := true, recurses := true, apart := false }
def DrainStepsSaid : Prop := drainStepsRow.holds Tryz.pinned (OpenSpec.ofChange drainStepsSpec)

/-- ITS FALSE NEIGHBOUR: 'it returns false'. Refute it at one input. -/
def drainStepsWrong : ChangeSpec := { name := "drainSteps", fn := fun _ => fun
  | [d] => { results := [.lit (.bool false)], args := [d] }
  | _ => none }
def DrainStepsWrongFalsely : Prop := drainStepsRow.holds Tryz.pinned (OpenSpec.ofChange drainStepsWrong)

/-- 'novaculitelaw02.DrainWorth': WHATEVER THE INPUT: true; the input reads as it did. -/
def drainWorthSpec : ChangeSpec := { name := "drainWorth", fn := fun _ => fun
  | [d] => { results := [.lit (.bool true)], args := [d] }
  | _ => none }
def drainWorthRow : OpenClaim := { program := "ytadamjleglckpaagreat", sum := "39e4ef7f5a7879d4d347ddf1fd9677f797c21e9af2d50418f164f9ed5d3516cd", func := "novaculite/novaculitelaw02.DrainWorth", spec := "drainWorth", unfollowed := true, recurses := true, apart := false }
def DrainWorthSaid : Prop := drainWorthRow.holds Tryz.pinned (OpenSpec.ofChange drainWorthSpec)

/-- ITS FALSE NEIGHBOUR: 'it returns false'. Refute it at one input. -/
def drainWorthWrong : ChangeSpec := { name := "drainWorth", fn := fun _ => fun
  | [d] => { results := [.lit (.bool false)], args := [d] }
  | _ => none }
def DrainWorthWrongFalsely : Prop := drainWorthRow.holds Tryz.pinned (OpenSpec.ofChange drainWorthWrong)

/-- 'novaculitelaw02.DrainWays': WHATEVER THE INPUT: true; the input reads as it did. -/
def drainWaysSpec : ChangeSpec := { name := "drainWays", fn := fun _ => fun
  | [d1, d2, d3] => { results := [.lit (.bool true)], args := [d1, d2, d3] }
  | _ => none }
def drainWaysRow : OpenClaim := { program := "ytadamjleglckpaagreat", sum := "39e4ef7f5a7879d4d347ddf1fd9677f797c21e9af2d50418f164f9ed5d3516cd", func := "novaculite/novaculitelaw02.DrainWays", spec := "drainWays", unfollowed := true, recurses := true, apart := false }
def DrainWaysSaid : Prop := drainWaysRow.holds Tryz.pinned (OpenSpec.ofChange drainWaysSpec)

/-- ITS FALSE NEIGHBOUR: 'it returns false'. Refute it at one input. -/
def drainWaysWrong : ChangeSpec := { name := "drainWays", fn := fun _ => fun
  | [d1, d2, d3] => { results := [.lit (.bool false)], args := [d1, d2, d3] }
  | _ => none }
def DrainWaysWrongFalsely : Prop := drainWaysRow.holds Tryz.pinned (OpenSpec.ofChange drainWaysWrong)

/- THE SECOND FORM. 'bulk': how many values and letters a reading holds, each counted each time it is reached (what is shared counts as often as it is met; a slice's spare places count too). A statement '..UptoSaid' is the law's where the arguments, and the package variables that the reading takes, are together of bulk at most 1048576: NARROWER than '..Said'. Prove '..Said' where nothing that the law and all that it calls make is longer than what came in: it says more and counts as full. Else prove '..UptoSaid'. A law counts once. -/
mutual
def uptoBulk {H : Type} : DataW H → Nat
  | .lit (.string bytes) => bytes.length + 1
  | .lit _ => 1
  | .nil => 1
  | .ptr d => uptoBulk d + 1
  | .slice elems spare => uptoBulkAll elems + uptoBulkAll spare + 1
  | .agg parts => uptoBulkAll parts + 1
  | .iface _ d => uptoBulk d + 1
  | .map entries => uptoBulkEntries entries + 1
  | .held _ => 1
def uptoBulkAll {H : Type} : List (DataW H) → Nat
  | [] => 0
  | d :: r => uptoBulk d + uptoBulkAll r
def uptoBulkEntries {H : Type} : List (Lit × DataW H) → Nat
  | [] => 0
  | x :: r => uptoBulkEntry x + uptoBulkEntries r
def uptoBulkEntry {H : Type} : Lit × DataW H → Nat
  | (.string bytes, d) => bytes.length + uptoBulk d + 1
  | (_, d) => uptoBulk d + 1
 end
def uptoSmall : (H : Type) → List (DataW H) → Bool := fun _ ds => decide (uptoBulkAll ds ≤ 1048576)
def OpenSpec.upto (s : _root_.Go.ChangeSpec) : _root_.Go.OpenSpec := { _root_.Go.OpenSpec.ofChange s with cond := some uptoSmall }

/-- 'novaculitelaw02.DrainGroups', WHERE WHAT IT READS IS OF BULK AT MOST 1048576: true; the input reads as it did. -/
def drainGroupsUptoRow : OpenClaim := { program := "ytadamjleglckpaagreat", sum := "39e4ef7f5a7879d4d347ddf1fd9677f797c21e9af2d50418f164f9ed5d3516cd", func := "novaculite/novaculitelaw02.DrainGroups", spec := "drainGroups", unfollowed := true, recurses := true, apart := false, narrowed := true }
def DrainGroupsUptoSaid : Prop := drainGroupsUptoRow.holds Tryz.pinned (OpenSpec.upto drainGroupsSpec)

/-- 'novaculitelaw02.DrainSteps', WHERE WHAT IT READS IS OF BULK AT MOST 1048576: true; the input reads as it did. -/
def drainStepsUptoRow : OpenClaim := { program := "ytadamjleglckpaagreat", sum := "39e4ef7f5a7879d4d347ddf1fd9677f797c21e9af2d50418f164f9ed5d3516cd", func := "novaculite/novaculitelaw02.DrainSteps", spec := "drainSteps", unfollowed := true, recurses := true, apart := false, narrowed := true }
def DrainStepsUptoSaid : Prop := drainStepsUptoRow.holds Tryz.pinned (OpenSpec.upto drainStepsSpec)

/-- 'novaculitelaw02.DrainWorth', WHERE WHAT IT READS IS OF BULK AT MOST 1048576: true; the input reads as it did. -/
def drainWorthUptoRow : OpenClaim := { program := "ytadamjleglckpaagreat", sum := "39e4ef7f5a7879d4d347ddf1fd9677f797c21e9af2d50418f164f9ed5d3516cd", func := "novaculite/novaculitelaw02.DrainWorth", spec := "drainWorth", unfollowed := true, recurses := true, apart := false, narrowed := true }
def DrainWorthUptoSaid : Prop := drainWorthUptoRow.holds Tryz.pinned (OpenSpec.upto drainWorthSpec)

/-- 'novaculitelaw02.DrainWays', WHERE WHAT IT READS IS OF BULK AT MOST 1048576: true; the input reads as it did. -/
def drainWaysUptoRow : OpenClaim := { program := "ytadamjleglckpaagreat", sum := "39e4ef7f5a7879d4d347ddf1fd9677f797c21e9af2d50418f164f9ed5d3516cd", func := "novaculite/novaculitelaw02.DrainWays", spec := "drainWays", unfollowed := true, recurses := true, apart := false, narrowed := true }
def DrainWaysUptoSaid : Prop := drainWaysUptoRow.holds Tryz.pinned (OpenSpec.upto drainWaysSpec)

end Rows
end Go.Proofs.YtadamjleglckpaaGreat
