/- There is a plan just if there is no trap, and just if no gallery is stuck: DrainTrapped returns true, whatever the hill and the set by numbers, the memory and the schedule. No conditions. -/
import Derived.Test.YtlnpibboemphnaaGreatRows
import Derived.WalkKit
import Derived.ProofKit
import Derived.OpenShut
import Derived.Test.YtlnpibboemphnaaGreatDrainTrappedL
import Derived.Test.YtlnpibboemphnaaGreatDrainTrappedM
namespace Go.Proofs.YtlnpibboemphnaaGreat.drainTrapped
open Go Go.ChangeShapes Go.WideShapes Go.ChangeAt Go.RowKit

theorem over : Rows.drainTrappedRow.holds Tryz.pinned (OpenSpec.ofChange Rows.drainTrappedSpec) :=
  OpenClaim.holds_of_wide 7 Tryz.f7 rfl rfl rfl rfl rfl rfl rfl ⟨rfl, rfl, rfl, rfl, rfl⟩ rfl rfl rfl rfl rfl named Tryz.func7 closed inst wrapper
    (fun os started H enc _ => lifted os started H enc)

/-- ████ THE STATEMENT ████ -/
theorem proved : Rows.DrainTrappedSaid :=
  over
#print axioms proved
end Go.Proofs.YtlnpibboemphnaaGreat.drainTrapped
