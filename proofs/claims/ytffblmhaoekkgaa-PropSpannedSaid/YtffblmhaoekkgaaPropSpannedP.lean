/- The ends of a span are the smallest and the greatest centre of all truths, and a pile stands for sure just if its spans lie between edges: PropSpanned returns true, whatever the pile and the truth by numbers, the memory and the schedule. No conditions. -/
import Derived.Test.YtffblmhaoekkgaaRows
import Derived.WalkKit
import Derived.ProofKit
import Derived.OpenShut
import Derived.Test.YtffblmhaoekkgaaPropSpannedL
import Derived.Test.YtffblmhaoekkgaaPropSpannedM
namespace Go.Proofs.Ytffblmhaoekkgaa.propSpanned
open Go Go.ChangeShapes Go.WideShapes Go.ChangeAt Go.RowKit

theorem over : Rows.propSpannedRow.holds Try.pinned (OpenSpec.ofChange Rows.propSpannedSpec) :=
  OpenClaim.holds_of_wide 4 Try.f4 rfl rfl rfl rfl rfl rfl rfl ⟨rfl, rfl, rfl, rfl, rfl⟩ rfl rfl rfl rfl rfl named Try.func4 closed inst wrapper
    (fun os started H enc _ => lifted os started H enc)

/-- ████ THE STATEMENT ████ -/
theorem proved : Rows.PropSpannedSaid :=
  over
#print axioms proved
end Go.Proofs.Ytffblmhaoekkgaa.propSpanned
