/- With one channel more nothing becomes worse, and if a channel costs more by 1 the least cost stays or becomes greater by 1: DrainMore returns true, whatever the hill and the channel by numbers, the memory and the schedule. No conditions. -/
import Derived.Test.YtlkdkamhebggbaaRows
import Derived.WalkKit
import Derived.ProofKit
import Derived.OpenShut
import Derived.Test.YtlkdkamhebggbaaDrainMoreL
import Derived.Test.YtlkdkamhebggbaaDrainMoreM

namespace Go.Proofs.Ytlkdkamhebggbaa.drainMore
open Go Go.ChangeShapes Go.WideShapes Go.ChangeAt Go.RowKit

theorem over : Rows.drainMoreRow.holds Try.pinned (OpenSpec.ofChange Rows.drainMoreSpec) :=
  OpenClaim.holds_of_wide 4 Try.f4 rfl rfl rfl rfl rfl rfl rfl ⟨rfl, rfl, rfl, rfl, rfl⟩ rfl rfl rfl rfl rfl named Try.func4 closed inst wrapper
    (fun os started H enc _ => lifted os started H enc)

/-- ████ THE STATEMENT ████ -/
theorem proved : Rows.DrainMoreSaid :=
  over
#print axioms proved
end Go.Proofs.Ytlkdkamhebggbaa.drainMore

