/- Dues prove a plan just if they charge no channel more than its cost and pay its cost: DrainShown returns true, whatever the hill and the dues by numbers, the memory and the schedule. No conditions. -/
import Derived.Test.YtlnpibboemphnaaGreatRows
import Derived.WalkKit
import Derived.ProofKit
import Derived.OpenShut
import Derived.Test.YtlnpibboemphnaaGreatDrainShownL
import Derived.Test.YtlnpibboemphnaaGreatDrainShownM


namespace Go.Proofs.YtlnpibboemphnaaGreat.drainShown
open Go Go.ChangeShapes Go.WideShapes Go.ChangeAt Go.RowKit

theorem over : Rows.drainShownRow.holds Tryz.pinned (OpenSpec.ofChange Rows.drainShownSpec) :=
  OpenClaim.holds_of_wide 10 Tryz.f10 rfl rfl rfl rfl rfl rfl rfl ⟨rfl, rfl, rfl, rfl, rfl⟩ rfl rfl rfl rfl rfl named Tryz.func10 closed inst wrapper
    (fun os started H enc _ => lifted os started H enc)

/-- ████ THE STATEMENT ████ -/
theorem proved : Rows.DrainShownSaid :=
  over
#print axioms proved
end Go.Proofs.YtlnpibboemphnaaGreat.drainShown

