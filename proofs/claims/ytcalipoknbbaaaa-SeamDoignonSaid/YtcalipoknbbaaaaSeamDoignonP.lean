/- If no place agrees with all galleries of a hill by numbers, the first of the shortest lists that contradict each other has at most four, and is proved: SeamDoignon returns true, whatever the hill, the memory and the schedule. No conditions. -/
import Derived.Test.YtcalipoknbbaaaaRows
import Derived.WalkKit
import Derived.ProofKit
import Derived.OpenShut
import Derived.Test.YtcalipoknbbaaaaSeamDoignonB
import Derived.Test.YtcalipoknbbaaaaSeamDoignonM
namespace Go.Proofs.Ytcalipoknbbaaaa.seamDoignon
open Go Go.ChangeShapes Go.WideShapes Go.ChangeAt Go.RowKit

theorem over : Rows.seamDoignonRow.holds Try.pinned (OpenSpec.ofChange Rows.seamDoignonSpec) :=
  OpenClaim.holds_of_wide 8 Try.f8 rfl rfl rfl rfl rfl rfl rfl ⟨rfl, rfl, rfl, rfl, rfl⟩ rfl rfl rfl rfl rfl named Try.func8 closed inst wrapper
    (fun os started H enc _ => lifted os started H enc)

/-- ████ THE STATEMENT ████ -/
theorem proved : Rows.SeamDoignonSaid :=
  over
#print axioms proved
end Go.Proofs.Ytcalipoknbbaaaa.seamDoignon
