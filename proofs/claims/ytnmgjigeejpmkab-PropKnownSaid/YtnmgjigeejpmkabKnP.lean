/- The examples of the chapter hold: PropKnown returns true, whatever the memory and the schedule. No conditions. -/
import Derived.Test.YtnmgjigeejpmkabRows
import Derived.WalkKit
import Derived.ProofKit
import Derived.OpenShut
import Derived.Test.YtnmgjigeejpmkabKnL
import Derived.Test.YtnmgjigeejpmkabKnM
namespace Go.Proofs.Ytnmgjigeejpmkab.propKnown
open Go Go.ChangeShapes Go.WideShapes Go.ChangeAt Go.RowKit

theorem over : Rows.propKnownRow.holds Try.pinned (OpenSpec.ofChange Rows.propKnownSpec) :=
  OpenClaim.holds_of_wide 3 Try.f3 rfl rfl rfl rfl rfl rfl rfl ⟨rfl, rfl, rfl, rfl, rfl⟩ rfl rfl rfl rfl rfl named Try.func3 closed inst wrapper
    (fun os started H enc _ => lifted os started H enc)

/-- ████ THE STATEMENT ████ -/
theorem proved : Rows.PropKnownSaid :=
  over
#print axioms proved
end Go.Proofs.Ytnmgjigeejpmkab.propKnown
