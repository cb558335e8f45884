/- Of equal stones the last one reaches the sum of parts of 1 times half of their length: PropSeries returns true, whatever the numbers, the memory and the schedule. No conditions. -/
import Derived.Test.YtffblmhaoekkgaaRows
import Derived.WalkKit
import Derived.ProofKit
import Derived.OpenShut
import Derived.Test.YtffblmhaoekkgaaPropSeriesL
import Derived.Test.YtffblmhaoekkgaaPropSeriesM
namespace Go.Proofs.Ytffblmhaoekkgaa.propSeries
open Go Go.ChangeShapes Go.WideShapes Go.ChangeAt Go.RowKit

theorem over : Rows.propSeriesRow.holds Try.pinned (OpenSpec.ofChange Rows.propSeriesSpec) :=
  OpenClaim.holds_of_wide 9 Try.f9 rfl rfl rfl rfl rfl rfl rfl ⟨rfl, rfl, rfl, rfl, rfl⟩ rfl rfl rfl rfl rfl named Try.func9 closed inst wrapper
    (fun os started H enc _ => lifted os started H enc)

/-- ████ THE STATEMENT ████ -/
theorem proved : Rows.PropSeriesSaid :=
  over
#print axioms proved
end Go.Proofs.Ytffblmhaoekkgaa.propSeries
