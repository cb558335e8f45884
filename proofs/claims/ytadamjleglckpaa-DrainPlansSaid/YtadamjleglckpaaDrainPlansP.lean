/- Plans are checked, and their costs and ways are, as the reference states them: DrainPlans returns true, whatever the hill, the plan and the gallery, the memory and the schedule. No conditions. -/
import Derived.Test.YtadamjleglckpaaRows
import Derived.WalkKit
import Derived.ProofKit
import Derived.OpenShut
import Derived.Test.YtadamjleglckpaaDrainPlansL
import Derived.Test.YtadamjleglckpaaDrainPlansM

namespace Go.Proofs.Ytadamjleglckpaa.drainPlans
open Go Go.ChangeShapes Go.WideShapes Go.ChangeAt Go.RowKit

theorem over : Rows.drainPlansRow.holds Try.pinned (OpenSpec.ofChange Rows.drainPlansSpec) :=
  OpenClaim.holds_of_wide 3 Try.f3 rfl rfl rfl rfl rfl rfl rfl ⟨rfl, rfl, rfl, rfl, rfl⟩ rfl rfl rfl rfl rfl named Try.func3 closed inst wrapper
    (fun os started H enc _ => lifted os started H enc)

/-- ████ THE STATEMENT ████ -/
theorem proved : Rows.DrainPlansSaid :=
  over
#print axioms proved
end Go.Proofs.Ytadamjleglckpaa.drainPlans

