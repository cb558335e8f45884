/- The dues of groups charge no channel more than its cost, and are together what a cheapest plan costs: DrainFulkerson returns true, whatever the hill by numbers, the memory and the schedule. No conditions. -/
import Derived.Test.YtlnpibboemphnaaGreatRows
import Derived.WalkKit
import Derived.ProofKit
import Derived.OpenShut
import Derived.Test.YtlnpibboemphnaaGreatDrainFulkersonL
import Derived.Test.YtlnpibboemphnaaGreatDrainFulkersonM
namespace Go.Proofs.YtlnpibboemphnaaGreat.drainFulkerson
open Go Go.ChangeShapes Go.WideShapes Go.ChangeAt Go.RowKit

theorem over : Rows.drainFulkersonRow.holds Tryz.pinned (OpenSpec.ofChange Rows.drainFulkersonSpec) :=
  OpenClaim.holds_of_wide 3 Tryz.f3 rfl rfl rfl rfl rfl rfl rfl ⟨rfl, rfl, rfl, rfl, rfl⟩ rfl rfl rfl rfl rfl named Tryz.func3 closed inst wrapper
    (fun os started H enc _ => lifted os started H enc)

/-- ████ THE STATEMENT ████ -/
theorem proved : Rows.DrainFulkersonSaid :=
  over
#print axioms proved
end Go.Proofs.YtlnpibboemphnaaGreat.drainFulkerson
