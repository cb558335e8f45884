/- The corners of points by numbers are those that a line tells apart from the others, in their turning order: SeamCorners returns true, whatever the points and the place by numbers, the memory and the schedule. No conditions. -/
import Derived.Test.YtcalipoknbbaaaaRows
import Derived.WalkKit
import Derived.ProofKit
import Derived.OpenShut
import Derived.Test.YtcalipoknbbaaaaSeamCornersB
import Derived.Test.YtcalipoknbbaaaaSeamCornersM
namespace Go.Proofs.Ytcalipoknbbaaaa.seamCorners
open Go Go.ChangeShapes Go.WideShapes Go.ChangeAt Go.RowKit

theorem over : Rows.seamCornersRow.holds Try.pinned (OpenSpec.ofChange Rows.seamCornersSpec) :=
  OpenClaim.holds_of_wide 14 Try.f14 rfl rfl rfl rfl rfl rfl rfl ⟨rfl, rfl, rfl, rfl, rfl⟩ rfl rfl rfl rfl rfl named Try.func14 closed inst wrapper
    (fun os started H enc _ => lifted os started H enc)

/-- ████ THE STATEMENT ████ -/
theorem proved : Rows.SeamCornersSaid :=
  over
#print axioms proved
end Go.Proofs.Ytcalipoknbbaaaa.seamCorners
