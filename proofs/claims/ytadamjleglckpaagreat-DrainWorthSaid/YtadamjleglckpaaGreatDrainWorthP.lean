/- Which channels are needed, what it costs to lose one and what one may cost are as all plans with it and without it say: DrainWorth returns true, whatever the hill by numbers, the memory and the schedule. No conditions. -/
import Derived.Test.YtadamjleglckpaaGreatRows
import Derived.WalkKit
import Derived.ProofKit
import Derived.OpenShut
import Derived.Test.YtadamjleglckpaaGreatDrainWorthL
import Derived.Test.YtadamjleglckpaaGreatDrainWorthM

namespace Go.Proofs.YtadamjleglckpaaGreat.drainWorth
open Go Go.ChangeShapes Go.WideShapes Go.ChangeAt Go.RowKit

theorem over : Rows.drainWorthRow.holds Tryz.pinned (OpenSpec.ofChange Rows.drainWorthSpec) :=
  OpenClaim.holds_of_wide 5 Tryz.f5 rfl rfl rfl rfl rfl rfl rfl ⟨rfl, rfl, rfl, rfl, rfl⟩ rfl rfl rfl rfl rfl named Tryz.func5 closed inst wrapper
    (fun os started H enc _ => lifted os started H enc)

/-- ████ THE STATEMENT ████ -/
theorem proved : Rows.DrainWorthSaid :=
  over
#print axioms proved
end Go.Proofs.YtadamjleglckpaaGreat.drainWorth

