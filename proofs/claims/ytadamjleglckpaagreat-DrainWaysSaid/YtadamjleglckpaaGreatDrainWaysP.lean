/- Ways by a plan lead from place to place by its channels to the mouth, and lists that are no plans are refused: DrainWays returns true, whatever the hill, the plan and the list by numbers, the memory and the schedule. No conditions. -/
import Derived.Test.YtadamjleglckpaaGreatRows
import Derived.WalkKit
import Derived.ProofKit
import Derived.OpenShut
import Derived.Test.YtadamjleglckpaaGreatDrainWaysL
import Derived.Test.YtadamjleglckpaaGreatDrainWaysM
namespace Go.Proofs.YtadamjleglckpaaGreat.drainWays
open Go Go.ChangeShapes Go.WideShapes Go.ChangeAt Go.RowKit

theorem over : Rows.drainWaysRow.holds Tryz.pinned (OpenSpec.ofChange Rows.drainWaysSpec) :=
  OpenClaim.holds_of_wide 6 Tryz.f6 rfl rfl rfl rfl rfl rfl rfl ⟨rfl, rfl, rfl, rfl, rfl⟩ rfl rfl rfl rfl rfl named Tryz.func6 closed inst wrapper
    (fun os started H enc _ => lifted os started H enc)

/-- ████ THE STATEMENT ████ -/
theorem proved : Rows.DrainWaysSaid :=
  over
#print axioms proved
end Go.Proofs.YtadamjleglckpaaGreat.drainWays
