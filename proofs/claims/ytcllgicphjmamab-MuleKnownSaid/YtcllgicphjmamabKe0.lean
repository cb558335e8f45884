/- Steps 0 to 0 of function 3, reckoned. -/
import Derived.Test.YtcllgicphjmamabChecked
import Derived.Test.YtcllgicphjmamabK1
import Derived.Test.YtcllgicphjmamabSh
import Derived.WalkKit
namespace Go.Proofs.Ytcllgicphjmamab.ev.f3x0
noncomputable section
set_option maxRecDepth 1000000
def ts0 : Ts := (mkS 389 [])
def s0 : St := (St.mk tz 0 65536)
def ts1 : Ts := (mkS 389 [(0, (Go.Value.bool false))])
def s1 : St := (St.mk tz 0 65536)
theorem h0 : tpNorm [] (fv Try.prog 100000 (hdC (tlN 0 (bodyOf Try.prog 3))) ts0 s0) = some (ts1, s1) := by kernel_rfl
theorem q0 : isSeq (tlN 0 (bodyOf Try.prog 3)) = true := by kernel_rfl
end
end Go.Proofs.Ytcllgicphjmamab.ev.f3x0
