/- The last step of function 25, reckoned. -/
import Derived.Test.YtcllgicphjmamabChecked
import Derived.Test.YtcllgicphjmamabK0
import Derived.Test.YtcllgicphjmamabSh
import Derived.WalkKit
namespace Go.Proofs.Ytcllgicphjmamab.ev.f25l
noncomputable section
set_option maxRecDepth 1000000
def tsl : Ts := (mkS 265 [(0, (Go.Value.bool false))])
def sl : St := (St.mk tz 0 65536)
theorem hl : lastOk Try.prog 25 (fv Try.prog 100000 (tlN 1 (bodyOf Try.prog 25)) tsl sl) = true := by kernel_rfl
end
end Go.Proofs.Ytcllgicphjmamab.ev.f25l
