/- Galleries that contradict each other, and those that must be wrong, are as the reference states them: SeamClashes returns true, whatever the hill and the list of numbers, the memory and the schedule. No conditions. -/
import Derived.Test.YtcalipoknbbaaaaRows
import Derived.WalkKit
import Derived.ProofKit
import Derived.OpenShut
import Derived.Test.YtcalipoknbbaaaaSeamClashesB
import Derived.Test.YtcalipoknbbaaaaSeamClashesM
namespace Go.Proofs.Ytcalipoknbbaaaa.seamClashes
open Go Go.ChangeShapes Go.WideShapes Go.ChangeAt Go.RowKit

theorem over : Rows.seamClashesRow.holds Try.pinned (OpenSpec.ofChange Rows.seamClashesSpec) :=
  OpenClaim.holds_of_wide 4 Try.f4 rfl rfl rfl rfl rfl rfl rfl ⟨rfl, rfl, rfl, rfl, rfl⟩ rfl rfl rfl rfl rfl named Try.func4 closed inst wrapper
    (fun os started H enc _ => lifted os started H enc)

/-- ████ THE STATEMENT ████ -/
theorem proved : Rows.SeamClashesSaid :=
  over
#print axioms proved
end Go.Proofs.Ytcalipoknbbaaaa.seamClashes
