/- A closed fact of the program, by the kernel. -/
import Derived.Test.YtcalipoknbbaaaaRows
import Derived.ProofKit
namespace Go.Proofs.Ytcalipoknbbaaaa
open Go Go.RowKit
theorem fact_lifts : (Rows.seamKnownRow.lifted == Try.prog.liftsFinal) = true := by kernel_rfl
end Go.Proofs.Ytcalipoknbbaaaa
