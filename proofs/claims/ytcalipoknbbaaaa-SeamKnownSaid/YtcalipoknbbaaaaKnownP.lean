/- The examples of chapter 1 hold: SeamKnown returns true, whatever the memory and the schedule. No conditions. -/
import Derived.Test.YtcalipoknbbaaaaRows
import Derived.WalkKit
import Derived.ProofKit
import Derived.OpenShut
import Derived.Test.YtcalipoknbbaaaaKnownL
import Derived.Test.YtcalipoknbbaaaaKnownM
namespace Go.Proofs.Ytcalipoknbbaaaa.seamKnown
open Go Go.ChangeShapes Go.WideShapes Go.ChangeAt Go.RowKit

theorem over : Rows.seamKnownRow.holds Try.pinned (OpenSpec.ofChange Rows.seamKnownSpec) :=
  OpenClaim.holds_of_wide 18 Try.f18 rfl rfl rfl rfl rfl rfl rfl ⟨rfl, rfl, rfl, rfl, rfl⟩ rfl rfl rfl rfl rfl named Try.func18 closed inst wrapper
    (fun os started H enc _ => lifted os started H enc)

/-- ████ THE STATEMENT ████ -/
theorem proved : Rows.SeamKnownSaid :=
  over
#print axioms proved
end Go.Proofs.Ytcalipoknbbaaaa.seamKnown
