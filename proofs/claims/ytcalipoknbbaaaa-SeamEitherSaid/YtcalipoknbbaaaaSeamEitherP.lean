/- Either a line tells a place apart from points by numbers, or it lies in the hull of at most three of them: SeamEither returns true, whatever the points and the place by numbers, the memory and the schedule. No conditions. -/
import Derived.Test.YtcalipoknbbaaaaRows
import Derived.WalkKit
import Derived.ProofKit
import Derived.OpenShut
import Derived.Test.YtcalipoknbbaaaaSeamEitherB
import Derived.Test.YtcalipoknbbaaaaSeamEitherM
namespace Go.Proofs.Ytcalipoknbbaaaa.seamEither
open Go Go.ChangeShapes Go.WideShapes Go.ChangeAt Go.RowKit

theorem over : Rows.seamEitherRow.holds Try.pinned (OpenSpec.ofChange Rows.seamEitherSpec) :=
  OpenClaim.holds_of_wide 13 Try.f13 rfl rfl rfl rfl rfl rfl rfl ⟨rfl, rfl, rfl, rfl, rfl⟩ rfl rfl rfl rfl rfl named Try.func13 closed inst wrapper
    (fun os started H enc _ => lifted os started H enc)

/-- ████ THE STATEMENT ████ -/
theorem proved : Rows.SeamEitherSaid :=
  over
#print axioms proved
end Go.Proofs.Ytcalipoknbbaaaa.seamEither
