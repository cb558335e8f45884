/- Of offered galleries the one is returned whose worse answer leaves the fewest places: SeamAsked returns true, whatever the hill and the galleries by numbers, the memory and the schedule. No conditions. -/
import Derived.Test.YtcalipoknbbaaaaRows
import Derived.WalkKit
import Derived.ProofKit
import Derived.OpenShut
import Derived.Test.YtcalipoknbbaaaaSeamAskedB
import Derived.Test.YtcalipoknbbaaaaSeamAskedM
namespace Go.Proofs.Ytcalipoknbbaaaa.seamAsked
open Go Go.ChangeShapes Go.WideShapes Go.ChangeAt Go.RowKit

theorem over : Rows.seamAskedRow.holds Try.pinned (OpenSpec.ofChange Rows.seamAskedSpec) :=
  OpenClaim.holds_of_wide 11 Try.f11 rfl rfl rfl rfl rfl rfl rfl ⟨rfl, rfl, rfl, rfl, rfl⟩ rfl rfl rfl rfl rfl named Try.func11 closed inst wrapper
    (fun os started H enc _ => lifted os started H enc)

/-- ████ THE STATEMENT ████ -/
theorem proved : Rows.SeamAskedSaid :=
  over
#print axioms proved
end Go.Proofs.Ytcalipoknbbaaaa.seamAsked
