/- A closed fact of the program, by the kernel. -/
import Derived.Test.YtlkdkamhebggbaaRows
import Derived.ProofKit

namespace Go.Proofs.Ytlkdkamhebggbaa
open Go Go.RowKit
theorem fact_enter : Try.prog.mayEnter = true := by kernel_rfl
end Go.Proofs.Ytlkdkamhebggbaa

/- A closed fact of the program, by the kernel. -/
namespace Go.Proofs.Ytlkdkamhebggbaa
open Go Go.RowKit
theorem fact_make : (Try.prog.make == some Rows.drainMoreRow.make) = true := by kernel_rfl
end Go.Proofs.Ytlkdkamhebggbaa

/- A closed fact of the program, by the kernel. -/
namespace Go.Proofs.Ytlkdkamhebggbaa
open Go Go.RowKit
theorem fact_lifts : (Rows.drainMoreRow.lifted == Try.prog.liftsFinal) = true := by kernel_rfl
end Go.Proofs.Ytlkdkamhebggbaa

/- Closed facts of the program that serve all statements, by the kernel. -/
namespace Go.Proofs.Ytlkdkamhebggbaa
open Go Go.RowKit
theorem fact_laid : laidOutB Try.prog = true := by kernel_rfl
theorem fact_maps : mapsRowed Try.prog = true := by kernel_rfl
theorem fact_heard : Try.prog.stopsHeard = true := by kernel_rfl
end Go.Proofs.Ytlkdkamhebggbaa

