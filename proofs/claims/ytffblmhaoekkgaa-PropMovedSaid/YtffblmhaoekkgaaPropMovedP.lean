/- Stones can be moved by just as much as is returned, and the first stones that may tip are returned: PropMoved returns true, whatever the pile and the stone by numbers, the memory and the schedule. No conditions. -/
import Derived.Test.YtffblmhaoekkgaaRows
import Derived.WalkKit
import Derived.ProofKit
import Derived.OpenShut
import Derived.Test.YtffblmhaoekkgaaPropMovedL
import Derived.Test.YtffblmhaoekkgaaPropMovedM
namespace Go.Proofs.Ytffblmhaoekkgaa.propMoved
open Go Go.ChangeShapes Go.WideShapes Go.ChangeAt Go.RowKit

theorem over : Rows.propMovedRow.holds Try.pinned (OpenSpec.ofChange Rows.propMovedSpec) :=
  OpenClaim.holds_of_wide 5 Try.f5 rfl rfl rfl rfl rfl rfl rfl ⟨rfl, rfl, rfl, rfl, rfl⟩ rfl rfl rfl rfl rfl named Try.func5 closed inst wrapper
    (fun os started H enc _ => lifted os started H enc)

/-- ████ THE STATEMENT ████ -/
theorem proved : Rows.PropMovedSaid :=
  over
#print axioms proved
end Go.Proofs.Ytffblmhaoekkgaa.propMoved
