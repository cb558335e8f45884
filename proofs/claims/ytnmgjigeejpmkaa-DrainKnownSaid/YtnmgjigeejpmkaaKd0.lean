/- Steps 0 to 2 of function 29, reckoned. -/
import Derived.Test.YtnmgjigeejpmkaaChecked
import Derived.Test.YtnmgjigeejpmkaaK0
import Derived.Test.YtnmgjigeejpmkaaSh
import Derived.WalkKit
namespace Go.Proofs.Ytnmgjigeejpmkaa.ev.f29x0
noncomputable section
set_option maxRecDepth 1000000
def ts0 : Ts := (Ts.mk 242 8 tz)
def s0 : St := (St.mk tz 0 65536)
def ts1 : Ts := (Ts.mk 242 8 (tL (tL (tL (tL (tL (tL (tL (tL tF)))))))))
def s1 : St := (St.mk tz 0 65536)
def ts2 : Ts := (Ts.mk 242 8 (tn (tn (tL (tn (tL (tL (tL (tL tF)))) (tR (tL (tL (tL (tl (Go.Value.tuple (Array.mk [(vo 140 0 3), (vi 0)]))))))))) (tn (tn (tL (tL (tL (tL (ti 0))))) (tR (tL (tL (tL (ti 0)))))) (tL (tR (tL (tL (tL (tl (Go.Value.tuple (Array.mk [(vo 140 0 3), (vi 0)])))))))))) (tn (tL (tn (tL (tL (tL (tL (tl (vo 140 0 3)))))) (tR (tL (tL (tL (tl (vo 140 0 3)))))))) (tR (tL (tR (tL (tL (tL (tl (Go.Value.agg (Array.mk [(vi 3), (vo 15 0 6)]))))))))))))
def s2 : St := (St.mk (tn (tL (tR (tR (tL (tL (tL (tR (tL (tL (tL (tL (tL (tL (tL (tL (tl (bk [(vi 0), (vi 3), (vi 4)] true 1 [138]))))))))))))))))) (tR (tR (tR (tL (tL (tL (tL (tL (tL (tL (tL (tL (tL (tL (tL (tl (bk [(vi 0), (vi 1), (vi 1), (vi 1), (vi 0), (vi 1), (vi 0), (vi 3), (vi 5), (vi 1), (vi 3), (vi 4), (vi 2), (vi 1), (vi 2), (vi 2), (vi 3), (vi 3)] true 3 [13, 11, 9, 7, 5])))))))))))))))))) 354 0)
def ts3 : Ts := (Ts.mk 242 8 (tn (tn (tn (tn (tL (tL (tL (tL tF)))) (tR (tL (tL (tL (tl (Go.Value.tuple (Array.mk [(vo 140 0 3), (vi 0)])))))))) (tn (tL (tL (tL (tL (ti 0))))) (tR (tL (tL (tL (tl (Go.Value.agg (Array.mk [(vi 3), (vo 369 0 6)]))))))))) (tn (tn (tL (tL (tL (tL (ti 0))))) (tR (tL (tL (tL (ti 0)))))) (tn (tR (tL (tL (tL (tl (Go.Value.tuple (Array.mk [(vo 140 0 3), (vi 0)]))))))) (tR (tL (tL (tL (ti 7)))))))) (tn (tn (tn (tL (tL (tL (tL (tl (vo 140 0 3)))))) (tR (tL (tL (tL (tl (vo 140 0 3))))))) (tR (tR (tL (tL (tL (tl (Go.Value.tuple (Array.mk [(vi 7), (vi 0)]))))))))) (tn (tn (tL (tL (tL (tL (ti 7))))) (tR (tL (tL (tL (tl (Go.Value.tuple (Array.mk [(vi 7), (vi 0)])))))))) (tn (tR (tL (tL (tL (tl (Go.Value.agg (Array.mk [(vi 3), (vo 15 0 6)]))))))) (tR (tL (tL (tL (ti 0))))))))))
def s3 : St := (St.mk (tn (tL (tR (tR (tL (tL (tL (tR (tL (tL (tL (tL (tL (tL (tL (tL (tl (bk [(vi 0), (vi 3), (vi 4)] true 1 [138]))))))))))))))))) (tn (tL (tL (tR (tR (tR (tL (tR (tL (tL (tL (tL (tL (tL (tL (tl (bk [(vi 0), (vi 1), (vi 1), (vi 1), (vi 0), (vi 1), (vi 0), (vi 3), (vi 5), (vi 1), (vi 3), (vi 4), (vi 2), (vi 1), (vi 2), (vi 2), (vi 3), (vi 3)] true 3 [367, 365, 363, 361, 359])))))))))))))))) (tR (tR (tL (tL (tL (tL (tL (tL (tL (tL (tL (tL (tL (tL (tl (bk [(vi 0), (vi 1), (vi 1), (vi 1), (vi 0), (vi 1), (vi 0), (vi 3), (vi 5), (vi 1), (vi 3), (vi 4), (vi 2), (vi 1), (vi 2), (vi 2), (vi 3), (vi 3)] true 3 [13, 11, 9, 7, 5])))))))))))))))))) 710 0)
theorem h0 : tpNorm [] (fv Try.prog 100000 (hdC (tlN 0 (bodyOf Try.prog 29))) ts0 s0) = some (ts1, s1) := by kernel_rfl
theorem q0 : isSeq (tlN 0 (bodyOf Try.prog 29)) = true := by kernel_rfl
theorem h1 : tpNorm [15, 140] (fv Try.prog 100000 (hdC (tlN 1 (bodyOf Try.prog 29))) ts1 s1) = some (ts2, s2) := by kernel_rfl
theorem q1 : isSeq (tlN 1 (bodyOf Try.prog 29)) = true := by kernel_rfl
theorem h2 : tpNorm [15, 140, 369] (fv Try.prog 100000 (hdC (tlN 2 (bodyOf Try.prog 29))) ts2 s2) = some (ts3, s3) := by kernel_rfl
theorem q2 : isSeq (tlN 2 (bodyOf Try.prog 29)) = true := by kernel_rfl
end
end Go.Proofs.Ytnmgjigeejpmkaa.ev.f29x0
