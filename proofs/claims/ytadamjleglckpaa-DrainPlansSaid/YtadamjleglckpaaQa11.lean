/- A closed fact of the program, by the kernel. -/
import Derived.Test.YtadamjleglckpaaRows
import Derived.ProofKit

namespace Go.Proofs.Ytadamjleglckpaa
open Go Go.RowKit
theorem fact_enter : Try.prog.mayEnter = true := by kernel_rfl
end Go.Proofs.Ytadamjleglckpaa

/- A closed fact of the program, by the kernel. -/
namespace Go.Proofs.Ytadamjleglckpaa
open Go Go.RowKit
theorem fact_make : (Try.prog.make == some Rows.drainPlansRow.make) = true := by kernel_rfl
end Go.Proofs.Ytadamjleglckpaa

/- A closed fact of the program, by the kernel. -/
namespace Go.Proofs.Ytadamjleglckpaa
open Go Go.RowKit
theorem fact_lifts : (Rows.drainPlansRow.lifted == Try.prog.liftsFinal) = true := by kernel_rfl
end Go.Proofs.Ytadamjleglckpaa

/- Closed facts of the program that serve all statements, by the kernel. -/
namespace Go.Proofs.Ytadamjleglckpaa
open Go Go.RowKit
theorem fact_laid : laidOutB Try.prog = true := by kernel_rfl
theorem fact_maps : mapsRowed Try.prog = true := by kernel_rfl
theorem fact_heard : Try.prog.stopsHeard = true := by kernel_rfl
end Go.Proofs.Ytadamjleglckpaa

