/- The chapter's examples, run by the reckoner: PropKnown returns true. -/
import Derived.Test.YtnmgjigeejpmkabChecked
import Derived.Test.YtnmgjigeejpmkabK1
import Derived.WalkKit
namespace Go.Proofs.Ytnmgjigeejpmkab.ev
set_option maxRecDepth 1000000 in
theorem yes : saysYes Try.prog 100000 3 = true := by kernel_rfl
theorem PropKnown_any (w : World) : Calls Try.prog 3 #[] w fun e w' => e = .returned (.bool true) ∧ Go.RowKit.Below w.heap.size w w' := calls_yes yes w
end Go.Proofs.Ytnmgjigeejpmkab.ev
