/- A closed fact of the program, by the kernel. -/
import Derived.Test.YtodjifdbdonjoaaRows
import Derived.ProofKit
namespace Go.Proofs.Ytodjifdbdonjoaa
open Go Go.RowKit
theorem fact_lifts : (Rows.seamKnownRow.lifted == Try.prog.liftsFinal) = true := by kernel_rfl
end Go.Proofs.Ytodjifdbdonjoaa
