/- A closed fact of the program, by the kernel. -/
import Derived.Test.YtadamjleglckpaaGreatRows
import Derived.ProofKit

namespace Go.Proofs.YtadamjleglckpaaGreat
open Go Go.RowKit
theorem fact_enter : Tryz.prog.mayEnter = true := by kernel_rfl
end Go.Proofs.YtadamjleglckpaaGreat

/- A closed fact of the program, by the kernel. -/
namespace Go.Proofs.YtadamjleglckpaaGreat
open Go Go.RowKit
theorem fact_make : (Tryz.prog.make == some Rows.drainWorthRow.make) = true := by kernel_rfl
end Go.Proofs.YtadamjleglckpaaGreat

/- A closed fact of the program, by the kernel. -/
namespace Go.Proofs.YtadamjleglckpaaGreat
open Go Go.RowKit
theorem fact_lifts : (Rows.drainWorthRow.lifted == Tryz.prog.liftsFinal) = true := by kernel_rfl
end Go.Proofs.YtadamjleglckpaaGreat

/- Closed facts of the program that serve all statements, by the kernel. -/
namespace Go.Proofs.YtadamjleglckpaaGreat
open Go Go.RowKit
theorem fact_laid : laidOutB Tryz.prog = true := by kernel_rfl
theorem fact_maps : mapsRowed Tryz.prog = true := by kernel_rfl
theorem fact_heard : Tryz.prog.stopsHeard = true := by kernel_rfl
end Go.Proofs.YtadamjleglckpaaGreat

