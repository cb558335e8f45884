/- What works answers, run by the reckoner. -/
import Derived.Test.YtffblmhaoekkgaaChecked
import Derived.Test.YtffblmhaoekkgaaK0
import Derived.WalkKit
namespace Go.Proofs.Ytffblmhaoekkgaa.ev
open Go.RowKit
set_option maxRecDepth 1000000 in
theorem works_yes : saysYes Try.prog 100000 25 = true := by kernel_rfl
theorem works_any (w : World) : Calls Try.prog 25 #[] w fun e w' => e = .returned (.bool true) ∧ Below w.heap.size w w' := calls_yes works_yes w
end Go.Proofs.Ytffblmhaoekkgaa.ev
