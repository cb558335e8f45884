/- One gallery more leaves the places that agree with it, and its opposite the others: SeamMore returns true, whatever the hill and the gallery by numbers, the memory and the schedule. No conditions. -/
import Derived.Test.YtcalipoknbbaaaaRows
import Derived.WalkKit
import Derived.ProofKit
import Derived.OpenShut
import Derived.Test.YtcalipoknbbaaaaSeamMoreB
import Derived.Test.YtcalipoknbbaaaaSeamMoreM
namespace Go.Proofs.Ytcalipoknbbaaaa.seamMore
open Go Go.ChangeShapes Go.WideShapes Go.ChangeAt Go.RowKit

theorem over : Rows.seamMoreRow.holds Try.pinned (OpenSpec.ofChange Rows.seamMoreSpec) :=
  OpenClaim.holds_of_wide 10 Try.f10 rfl rfl rfl rfl rfl rfl rfl ⟨rfl, rfl, rfl, rfl, rfl⟩ rfl rfl rfl rfl rfl named Try.func10 closed inst wrapper
    (fun os started H enc _ => lifted os started H enc)

/-- ████ THE STATEMENT ████ -/
theorem proved : Rows.SeamMoreSaid :=
  over
#print axioms proved
end Go.Proofs.Ytcalipoknbbaaaa.seamMore
