/- Closed facts of the program, by the kernel. -/
import Derived.Test.YtcalipoknbbaaaaRows
import Derived.ProofKit
namespace Go.Proofs.Ytcalipoknbbaaaa
open Go Go.RowKit
theorem fact_enter : Try.prog.mayEnter = true := by kernel_rfl
end Go.Proofs.Ytcalipoknbbaaaa
namespace Go.Proofs.Ytcalipoknbbaaaa
open Go Go.RowKit
theorem fact_make : (Try.prog.make == some Rows.seamKnownRow.make) = true := by kernel_rfl
end Go.Proofs.Ytcalipoknbbaaaa
namespace Go.Proofs.Ytcalipoknbbaaaa
open Go Go.RowKit
theorem fact_lifts : (Rows.seamKnownRow.lifted == Try.prog.liftsFinal) = true := by kernel_rfl
end Go.Proofs.Ytcalipoknbbaaaa
namespace Go.Proofs.Ytcalipoknbbaaaa
open Go Go.RowKit
theorem fact_laid : laidOutB Try.prog = true := by kernel_rfl
theorem fact_maps : mapsRowed Try.prog = true := by kernel_rfl
theorem fact_heard : Try.prog.stopsHeard = true := by kernel_rfl
end Go.Proofs.Ytcalipoknbbaaaa
