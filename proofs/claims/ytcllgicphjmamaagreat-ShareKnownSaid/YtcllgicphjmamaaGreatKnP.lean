/- The examples of the chapter hold: ShareKnown returns true, whatever the memory and the schedule. No conditions. -/
import Derived.Test.YtcllgicphjmamaaGreatRows
import Derived.WalkKit
import Derived.ProofKit
import Derived.OpenShut
import Derived.Test.YtcllgicphjmamaaGreatKnL
import Derived.Test.YtcllgicphjmamaaGreatKnM
namespace Go.Proofs.YtcllgicphjmamaaGreat.shareKnown
open Go Go.ChangeShapes Go.WideShapes Go.ChangeAt Go.RowKit

theorem over : Rows.shareKnownRow.holds Tryz.pinned (OpenSpec.ofChange Rows.shareKnownSpec) :=
  OpenClaim.holds_of_wide 3 Tryz.f3 rfl rfl rfl rfl rfl rfl rfl ⟨rfl, rfl, rfl, rfl, rfl⟩ rfl rfl rfl rfl rfl named Tryz.func3 closed inst wrapper
    (fun os started H enc _ => lifted os started H enc)

/-- ████ THE STATEMENT ████ -/
theorem proved : Rows.ShareKnownSaid :=
  over
#print axioms proved
end Go.Proofs.YtcllgicphjmamaaGreat.shareKnown
