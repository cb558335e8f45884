/- The gallery to dig next, needless galleries, and the fewest with the same region, are as the reference states them: SeamNeeds returns true, whatever the hill and the galleries, the memory and the schedule. No conditions. -/
import Derived.Test.YtcalipoknbbaaaaRows
import Derived.WalkKit
import Derived.ProofKit
import Derived.OpenShut
import Derived.Test.YtcalipoknbbaaaaSeamNeedsB
import Derived.Test.YtcalipoknbbaaaaSeamNeedsM
namespace Go.Proofs.Ytcalipoknbbaaaa.seamNeeds
open Go Go.ChangeShapes Go.WideShapes Go.ChangeAt Go.RowKit

theorem over : Rows.seamNeedsRow.holds Try.pinned (OpenSpec.ofChange Rows.seamNeedsSpec) :=
  OpenClaim.holds_of_wide 5 Try.f5 rfl rfl rfl rfl rfl rfl rfl ⟨rfl, rfl, rfl, rfl, rfl⟩ rfl rfl rfl rfl rfl named Try.func5 closed inst wrapper
    (fun os started H enc _ => lifted os started H enc)

/-- ████ THE STATEMENT ████ -/
theorem proved : Rows.SeamNeedsSaid :=
  over
#print axioms proved
end Go.Proofs.Ytcalipoknbbaaaa.seamNeeds
