/- Arguments of the statements by numbers: arrays of six u8. -/
import Derived.Test.YtadamjleglckpaaGreatQa3
namespace Go.Proofs.YtadamjleglckpaaGreat.drn
open Go.RowKit Go.ChangeShapes Go.WideShapes
set_option linter.unusedSimpArgs false
set_option linter.unusedVariables false
theorem cells6 : Tryz.prog.cellTypes Tryz.prog.depth 41 = some (List.replicate 6 5) := by kernel_rfl
theorem cof6 : Tryz.prog.cellsOf 41 = 6 := by kernel_rfl
theorem plain6 : plainT Tryz.prog 5 41 = true := by kernel_rfl
theorem six_of {w : World} {r : Reach} {base : Nat} {v : Value} : Value.okWide Tryz.prog w r base 41 v → ∃ xs : List Int, v = .agg (flat8 xs).toArray ∧ xs.length = 6 ∧ ∀ x ∈ xs, 0 ≤ x ∧ x ≤ 255 := nums_gen (.inr ⟨_, _, Tryz.underlying41⟩) Tryz.underlying5 cells6 (by omega) cof6
end Go.Proofs.YtadamjleglckpaaGreat.drn
