/- The examples of the chapter hold: RubKnown returns true, whatever the memory and the schedule. No conditions. -/
import Derived.Test.YtcfibdomffkhmaaRows
import Derived.WalkKit
import Derived.ProofKit
import Derived.OpenShut
import Derived.Test.YtcfibdomffkhmaaKnL
import Derived.Test.YtcfibdomffkhmaaKnM
namespace Go.Proofs.Ytcfibdomffkhmaa.rubKnown
open Go Go.ChangeShapes Go.WideShapes Go.ChangeAt Go.RowKit

theorem over : Rows.rubKnownRow.holds Try.pinned (OpenSpec.ofChange Rows.rubKnownSpec) :=
  OpenClaim.holds_of_wide 3 Try.f3 rfl rfl rfl rfl rfl rfl rfl ⟨rfl, rfl, rfl, rfl, rfl⟩ rfl rfl rfl rfl rfl named Try.func3 closed inst wrapper
    (fun os started H enc _ => lifted os started H enc)

/-- ████ THE STATEMENT ████ -/
theorem proved : Rows.RubKnownSaid :=
  over
#print axioms proved
end Go.Proofs.Ytcfibdomffkhmaa.rubKnown
