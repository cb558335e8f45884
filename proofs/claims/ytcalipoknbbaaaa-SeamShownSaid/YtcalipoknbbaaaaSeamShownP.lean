/- Galleries contradict each other just if no place agrees with all of them, and lists that are none are refused: SeamShown returns true, whatever the hill, the set and the wrong index by numbers, the memory and the schedule. No conditions. -/
import Derived.Test.YtcalipoknbbaaaaRows
import Derived.WalkKit
import Derived.ProofKit
import Derived.OpenShut
import Derived.Test.YtcalipoknbbaaaaSeamShownB
import Derived.Test.YtcalipoknbbaaaaSeamShownM
namespace Go.Proofs.Ytcalipoknbbaaaa.seamShown
open Go Go.ChangeShapes Go.WideShapes Go.ChangeAt Go.RowKit

theorem over : Rows.seamShownRow.holds Try.pinned (OpenSpec.ofChange Rows.seamShownSpec) :=
  OpenClaim.holds_of_wide 17 Try.f17 rfl rfl rfl rfl rfl rfl rfl ⟨rfl, rfl, rfl, rfl, rfl⟩ rfl rfl rfl rfl rfl named Try.func17 closed inst wrapper
    (fun os started H enc _ => lifted os started H enc)

/-- ████ THE STATEMENT ████ -/
theorem proved : Rows.SeamShownSaid :=
  over
#print axioms proved
end Go.Proofs.Ytcalipoknbbaaaa.seamShown
