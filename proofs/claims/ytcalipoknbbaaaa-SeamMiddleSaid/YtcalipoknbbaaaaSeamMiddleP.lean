/- The deepest place of the grid, which has a quarter of the points by numbers on each side, is the one that all places show: SeamMiddle returns true, whatever the points and the place by numbers, the memory and the schedule. No conditions. -/
import Derived.Test.YtcalipoknbbaaaaRows
import Derived.WalkKit
import Derived.ProofKit
import Derived.OpenShut
import Derived.Test.YtcalipoknbbaaaaSeamMiddleB
import Derived.Test.YtcalipoknbbaaaaSeamMiddleM
namespace Go.Proofs.Ytcalipoknbbaaaa.seamMiddle
open Go Go.ChangeShapes Go.WideShapes Go.ChangeAt Go.RowKit

theorem over : Rows.seamMiddleRow.holds Try.pinned (OpenSpec.ofChange Rows.seamMiddleSpec) :=
  OpenClaim.holds_of_wide 16 Try.f16 rfl rfl rfl rfl rfl rfl rfl ⟨rfl, rfl, rfl, rfl, rfl⟩ rfl rfl rfl rfl rfl named Try.func16 closed inst wrapper
    (fun os started H enc _ => lifted os started H enc)

/-- ████ THE STATEMENT ████ -/
theorem proved : Rows.SeamMiddleSaid :=
  over
#print axioms proved
end Go.Proofs.Ytcalipoknbbaaaa.seamMiddle
