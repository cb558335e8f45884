/- With all lengths, or all weights, a factor greater the same levels may tip: PropScaled returns true, whatever the pile and the factor by numbers, the memory and the schedule. No conditions. -/
import Derived.Test.YtffblmhaoekkgaaRows
import Derived.WalkKit
import Derived.ProofKit
import Derived.OpenShut
import Derived.Test.YtffblmhaoekkgaaPropScaledL
import Derived.Test.YtffblmhaoekkgaaPropScaledM
namespace Go.Proofs.Ytffblmhaoekkgaa.propScaled
open Go Go.ChangeShapes Go.WideShapes Go.ChangeAt Go.RowKit

theorem over : Rows.propScaledRow.holds Try.pinned (OpenSpec.ofChange Rows.propScaledSpec) :=
  OpenClaim.holds_of_wide 10 Try.f10 rfl rfl rfl rfl rfl rfl rfl ⟨rfl, rfl, rfl, rfl, rfl⟩ rfl rfl rfl rfl rfl named Try.func10 closed inst wrapper
    (fun os started H enc _ => lifted os started H enc)

/-- ████ THE STATEMENT ████ -/
theorem proved : Rows.PropScaledSaid :=
  over
#print axioms proved
end Go.Proofs.Ytffblmhaoekkgaa.propScaled
