/- The examples of the chapter hold: MuleKnown returns true, whatever the memory and the schedule. No conditions. -/
import Derived.Test.YtcllgicphjmamabRows
import Derived.WalkKit
import Derived.ProofKit
import Derived.OpenShut
import Derived.Test.YtcllgicphjmamabKnL
import Derived.Test.YtcllgicphjmamabKnM
namespace Go.Proofs.Ytcllgicphjmamab.muleKnown
open Go Go.ChangeShapes Go.WideShapes Go.ChangeAt Go.RowKit

theorem over : Rows.muleKnownRow.holds Try.pinned (OpenSpec.ofChange Rows.muleKnownSpec) :=
  OpenClaim.holds_of_wide 3 Try.f3 rfl rfl rfl rfl rfl rfl rfl ⟨rfl, rfl, rfl, rfl, rfl⟩ rfl rfl rfl rfl rfl named Try.func3 closed inst wrapper
    (fun os started H enc _ => lifted os started H enc)

/-- ████ THE STATEMENT ████ -/
theorem proved : Rows.MuleKnownSaid :=
  over
#print axioms proved
end Go.Proofs.Ytcllgicphjmamab.muleKnown
