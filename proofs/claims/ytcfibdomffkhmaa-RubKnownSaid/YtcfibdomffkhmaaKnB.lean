/- The chapter's examples, run by the reckoner: RubKnown returns true. -/
import Derived.Test.YtcfibdomffkhmaaChecked
import Derived.Test.YtcfibdomffkhmaaK0
import Derived.WalkKit
namespace Go.Proofs.Ytcfibdomffkhmaa.ev
set_option maxRecDepth 1000000 in
theorem yes : saysYes Try.prog 100000 3 = true := by kernel_rfl
theorem RubKnown_any (w : World) : Calls Try.prog 3 #[] w fun e w' => e = .returned (.bool true) ∧ Go.RowKit.Below w.heap.size w w' := calls_yes yes w
end Go.Proofs.Ytcfibdomffkhmaa.ev
