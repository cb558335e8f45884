/- The examples of the chapter hold: SawKnown returns true, whatever the memory and the schedule. No conditions. -/
import Derived.Test.YtdieenfbmdfmcaaRows
import Derived.WalkKit
import Derived.ProofKit
import Derived.OpenShut
import Derived.Test.YtdieenfbmdfmcaaKnL
import Derived.Test.YtdieenfbmdfmcaaKnM
namespace Go.Proofs.Ytdieenfbmdfmcaa.sawKnown
open Go Go.ChangeShapes Go.WideShapes Go.ChangeAt Go.RowKit

theorem over : Rows.sawKnownRow.holds Try.pinned (OpenSpec.ofChange Rows.sawKnownSpec) :=
  OpenClaim.holds_of_wide 3 Try.f3 rfl rfl rfl rfl rfl rfl rfl ⟨rfl, rfl, rfl, rfl, rfl⟩ rfl rfl rfl rfl rfl named Try.func3 closed inst wrapper
    (fun os started H enc _ => lifted os started H enc)

/-- ████ THE STATEMENT ████ -/
theorem proved : Rows.SawKnownSaid :=
  over
#print axioms proved
end Go.Proofs.Ytdieenfbmdfmcaa.sawKnown
