/- A closed fact of the program, by the kernel. -/
import Derived.Test.YtffblmhaoekkgaaRows
import Derived.ProofKit
namespace Go.Proofs.Ytffblmhaoekkgaa
open Go Go.RowKit
theorem fact_lifts : (Rows.propShownRow.lifted == Try.prog.liftsFinal) = true := by kernel_rfl
end Go.Proofs.Ytffblmhaoekkgaa
