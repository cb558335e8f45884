/- A pile stands whatever its weights are just if no level tips in its worst truths, which no other truth passes: PropSure returns true, whatever the pile and the truth by numbers, the memory and the schedule. No conditions. -/
import Derived.Test.YtffblmhaoekkgaaRows
import Derived.WalkKit
import Derived.ProofKit
import Derived.OpenShut
import Derived.Test.YtffblmhaoekkgaaPropSureL
import Derived.Test.YtffblmhaoekkgaaPropSureM
namespace Go.Proofs.Ytffblmhaoekkgaa.propSure
open Go Go.ChangeShapes Go.WideShapes Go.ChangeAt Go.RowKit

theorem over : Rows.propSureRow.holds Try.pinned (OpenSpec.ofChange Rows.propSureSpec) :=
  OpenClaim.holds_of_wide 3 Try.f3 rfl rfl rfl rfl rfl rfl rfl ⟨rfl, rfl, rfl, rfl, rfl⟩ rfl rfl rfl rfl rfl named Try.func3 closed inst wrapper
    (fun os started H enc _ => lifted os started H enc)

/-- ████ THE STATEMENT ████ -/
theorem proved : Rows.PropSureSaid :=
  over
#print axioms proved
end Go.Proofs.Ytffblmhaoekkgaa.propSure
