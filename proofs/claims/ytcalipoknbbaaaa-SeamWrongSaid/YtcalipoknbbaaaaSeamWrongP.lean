/- The fewest galleries that must be wrong, the fewest with the same region and the needless ones are those that all lists show: SeamWrong returns true, whatever the hill by numbers, the memory and the schedule. No conditions. -/
import Derived.Test.YtcalipoknbbaaaaRows
import Derived.WalkKit
import Derived.ProofKit
import Derived.OpenShut
import Derived.Test.YtcalipoknbbaaaaSeamWrongB
import Derived.Test.YtcalipoknbbaaaaSeamWrongM
namespace Go.Proofs.Ytcalipoknbbaaaa.seamWrong
open Go Go.ChangeShapes Go.WideShapes Go.ChangeAt Go.RowKit

theorem over : Rows.seamWrongRow.holds Try.pinned (OpenSpec.ofChange Rows.seamWrongSpec) :=
  OpenClaim.holds_of_wide 9 Try.f9 rfl rfl rfl rfl rfl rfl rfl ⟨rfl, rfl, rfl, rfl, rfl⟩ rfl rfl rfl rfl rfl named Try.func9 closed inst wrapper
    (fun os started H enc _ => lifted os started H enc)

/-- ████ THE STATEMENT ████ -/
theorem proved : Rows.SeamWrongSaid :=
  over
#print axioms proved
end Go.Proofs.Ytcalipoknbbaaaa.seamWrong
