/- Moments of both sides are together the weight of the level times the length beneath it, and weights and levels that are none are refused: PropShown returns true, whatever the pile, the weights, the level and the side by numbers, the memory and the schedule. No conditions. -/
import Derived.Test.YtffblmhaoekkgaaRows
import Derived.WalkKit
import Derived.ProofKit
import Derived.OpenShut
import Derived.Test.YtffblmhaoekkgaaPropShownL
import Derived.Test.YtffblmhaoekkgaaPropShownM
namespace Go.Proofs.Ytffblmhaoekkgaa.propShown
open Go Go.ChangeShapes Go.WideShapes Go.ChangeAt Go.RowKit

theorem over : Rows.propShownRow.holds Try.pinned (OpenSpec.ofChange Rows.propShownSpec) :=
  OpenClaim.holds_of_wide 11 Try.f11 rfl rfl rfl rfl rfl rfl rfl ⟨rfl, rfl, rfl, rfl, rfl⟩ rfl rfl rfl rfl rfl named Try.func11 closed inst wrapper
    (fun os started H enc _ => lifted os started H enc)

/-- ████ THE STATEMENT ████ -/
theorem proved : Rows.PropShownSaid :=
  over
#print axioms proved
end Go.Proofs.Ytffblmhaoekkgaa.propShown
