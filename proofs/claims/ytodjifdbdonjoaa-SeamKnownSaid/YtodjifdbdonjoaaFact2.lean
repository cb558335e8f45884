/- A closed fact of the program, by the kernel. -/
import Derived.Test.YtodjifdbdonjoaaRows
import Derived.ProofKit
namespace Go.Proofs.Ytodjifdbdonjoaa
open Go Go.RowKit
theorem fact_make : (Try.prog.make == some Rows.seamKnownRow.make) = true := by kernel_rfl
end Go.Proofs.Ytodjifdbdonjoaa
