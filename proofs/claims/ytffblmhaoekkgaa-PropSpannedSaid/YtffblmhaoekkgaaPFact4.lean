/- Closed facts of the program that serve all statements, by the kernel. -/
import Derived.Test.YtffblmhaoekkgaaRows
import Derived.ProofKit
namespace Go.Proofs.Ytffblmhaoekkgaa
open Go Go.RowKit
theorem fact_laid : laidOutB Try.prog = true := by kernel_rfl
theorem fact_maps : mapsRowed Try.prog = true := by kernel_rfl
theorem fact_heard : Try.prog.stopsHeard = true := by kernel_rfl
end Go.Proofs.Ytffblmhaoekkgaa
