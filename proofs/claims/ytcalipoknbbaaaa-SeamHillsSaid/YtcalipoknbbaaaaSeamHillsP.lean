/- Hills and galleries are checked, and regions, and what one gallery more would show, are as the reference states them: SeamHills returns true, whatever the hill, the place and the gallery, the memory and the schedule. No conditions. -/
import Derived.Test.YtcalipoknbbaaaaRows
import Derived.WalkKit
import Derived.ProofKit
import Derived.OpenShut
import Derived.Test.YtcalipoknbbaaaaSeamHillsB
import Derived.Test.YtcalipoknbbaaaaSeamHillsM
namespace Go.Proofs.Ytcalipoknbbaaaa.seamHills
open Go Go.ChangeShapes Go.WideShapes Go.ChangeAt Go.RowKit

theorem over : Rows.seamHillsRow.holds Try.pinned (OpenSpec.ofChange Rows.seamHillsSpec) :=
  OpenClaim.holds_of_wide 3 Try.f3 rfl rfl rfl rfl rfl rfl rfl ⟨rfl, rfl, rfl, rfl, rfl⟩ rfl rfl rfl rfl rfl named Try.func3 closed inst wrapper
    (fun os started H enc _ => lifted os started H enc)

/-- ████ THE STATEMENT ████ -/
theorem proved : Rows.SeamHillsSaid :=
  over
#print axioms proved
end Go.Proofs.Ytcalipoknbbaaaa.seamHills
