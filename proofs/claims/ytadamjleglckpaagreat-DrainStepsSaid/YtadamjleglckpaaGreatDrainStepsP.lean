/- Each due is paid by the first smallest group of which all channels out have something left, and is what the least of them has left: DrainSteps returns true, whatever the hill by numbers, the memory and the schedule. No conditions. -/
import Derived.Test.YtadamjleglckpaaGreatRows
import Derived.WalkKit
import Derived.ProofKit
import Derived.OpenShut
import Derived.Test.YtadamjleglckpaaGreatDrainStepsL
import Derived.Test.YtadamjleglckpaaGreatDrainStepsM
namespace Go.Proofs.YtadamjleglckpaaGreat.drainSteps
open Go Go.ChangeShapes Go.WideShapes Go.ChangeAt Go.RowKit

theorem over : Rows.drainStepsRow.holds Tryz.pinned (OpenSpec.ofChange Rows.drainStepsSpec) :=
  OpenClaim.holds_of_wide 4 Tryz.f4 rfl rfl rfl rfl rfl rfl rfl ⟨rfl, rfl, rfl, rfl, rfl⟩ rfl rfl rfl rfl rfl named Tryz.func4 closed inst wrapper
    (fun os started H enc _ => lifted os started H enc)

/-- ████ THE STATEMENT ████ -/
theorem proved : Rows.DrainStepsSaid :=
  over
#print axioms proved
end Go.Proofs.YtadamjleglckpaaGreat.drainSteps
