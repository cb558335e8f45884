/- If more is known of a weight, a pile that stood for sure stands, and spans become no wider: PropNarrowed returns true, whatever the pile, the stone and the bounds by numbers, the memory and the schedule. No conditions. -/
import Derived.Test.YtffblmhaoekkgaaRows
import Derived.WalkKit
import Derived.ProofKit
import Derived.OpenShut
import Derived.Test.YtffblmhaoekkgaaPropNarrowedL
import Derived.Test.YtffblmhaoekkgaaPropNarrowedM
namespace Go.Proofs.Ytffblmhaoekkgaa.propNarrowed
open Go Go.ChangeShapes Go.WideShapes Go.ChangeAt Go.RowKit

theorem over : Rows.propNarrowedRow.holds Try.pinned (OpenSpec.ofChange Rows.propNarrowedSpec) :=
  OpenClaim.holds_of_wide 6 Try.f6 rfl rfl rfl rfl rfl rfl rfl ⟨rfl, rfl, rfl, rfl, rfl⟩ rfl rfl rfl rfl rfl named Try.func6 closed inst wrapper
    (fun os started H enc _ => lifted os started H enc)

/-- ████ THE STATEMENT ████ -/
theorem proved : Rows.PropNarrowedSaid :=
  over
#print axioms proved
end Go.Proofs.Ytffblmhaoekkgaa.propNarrowed
