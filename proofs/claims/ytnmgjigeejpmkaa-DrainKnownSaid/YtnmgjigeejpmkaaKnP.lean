/- The examples of the chapter hold: DrainKnown returns true, whatever the memory and the schedule. No conditions. -/
import Derived.Test.YtnmgjigeejpmkaaRows
import Derived.WalkKit
import Derived.ProofKit
import Derived.OpenShut
import Derived.Test.YtnmgjigeejpmkaaKnL
import Derived.Test.YtnmgjigeejpmkaaKnM
namespace Go.Proofs.Ytnmgjigeejpmkaa.drainKnown
open Go Go.ChangeShapes Go.WideShapes Go.ChangeAt Go.RowKit

theorem over : Rows.drainKnownRow.holds Try.pinned (OpenSpec.ofChange Rows.drainKnownSpec) :=
  OpenClaim.holds_of_wide 3 Try.f3 rfl rfl rfl rfl rfl rfl rfl ⟨rfl, rfl, rfl, rfl, rfl⟩ rfl rfl rfl rfl rfl named Try.func3 closed inst wrapper
    (fun os started H enc _ => lifted os started H enc)

/-- ████ THE STATEMENT ████ -/
theorem proved : Rows.DrainKnownSaid :=
  over
#print axioms proved
end Go.Proofs.Ytnmgjigeejpmkaa.drainKnown
