/- Of points by numbers, four have a division, the first one, and fewer or more have none: SeamRadon returns true, whatever the points, the memory and the schedule. No conditions. -/
import Derived.Test.YtcalipoknbbaaaaRows
import Derived.WalkKit
import Derived.ProofKit
import Derived.OpenShut
import Derived.Test.YtcalipoknbbaaaaSeamRadonB
import Derived.Test.YtcalipoknbbaaaaSeamRadonM
namespace Go.Proofs.Ytcalipoknbbaaaa.seamRadon
open Go Go.ChangeShapes Go.WideShapes Go.ChangeAt Go.RowKit

theorem over : Rows.seamRadonRow.holds Try.pinned (OpenSpec.ofChange Rows.seamRadonSpec) :=
  OpenClaim.holds_of_wide 15 Try.f15 rfl rfl rfl rfl rfl rfl rfl ⟨rfl, rfl, rfl, rfl, rfl⟩ rfl rfl rfl rfl rfl named Try.func15 closed inst wrapper
    (fun os started H enc _ => lifted os started H enc)

/-- ████ THE STATEMENT ████ -/
theorem proved : Rows.SeamRadonSaid :=
  over
#print axioms proved
end Go.Proofs.Ytcalipoknbbaaaa.seamRadon
