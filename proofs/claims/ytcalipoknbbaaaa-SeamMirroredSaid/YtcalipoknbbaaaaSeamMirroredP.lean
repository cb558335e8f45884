/- With X counted from the other end all is as before: SeamMirrored returns true, whatever the hill by numbers, the memory and the schedule. No conditions. -/
import Derived.Test.YtcalipoknbbaaaaRows
import Derived.WalkKit
import Derived.ProofKit
import Derived.OpenShut
import Derived.Test.YtcalipoknbbaaaaSeamMirroredB
import Derived.Test.YtcalipoknbbaaaaSeamMirroredM
namespace Go.Proofs.Ytcalipoknbbaaaa.seamMirrored
open Go Go.ChangeShapes Go.WideShapes Go.ChangeAt Go.RowKit

theorem over : Rows.seamMirroredRow.holds Try.pinned (OpenSpec.ofChange Rows.seamMirroredSpec) :=
  OpenClaim.holds_of_wide 12 Try.f12 rfl rfl rfl rfl rfl rfl rfl ⟨rfl, rfl, rfl, rfl, rfl⟩ rfl rfl rfl rfl rfl named Try.func12 closed inst wrapper
    (fun os started H enc _ => lifted os started H enc)

/-- ████ THE STATEMENT ████ -/
theorem proved : Rows.SeamMirroredSaid :=
  over
#print axioms proved
end Go.Proofs.Ytcalipoknbbaaaa.seamMirrored
