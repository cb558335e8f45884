/- Known: what 23 answers. -/
import Derived.Test.YtcllgicphjmamaaGreatChecked
import Derived.Test.YtcllgicphjmamaaGreatKw
namespace Go.Proofs.YtcllgicphjmamaaGreat.ev
def yes1 (g : Nat) (args : List Value) : Option Value :=
  match Nat.beq g 23 with
  | true => match args with
    | [] => some (.bool true)
    | _ :: _ => none
  | false => none
theorem yes1_ok (g : Nat) (args : List Value) (r : Value) (h : yes1 g args = some r) : g = 23 ∧ args = [] ∧ r = .bool true := by
  unfold yes1 at h
  split at h
  · rename_i hb
    have hg := Nat.eq_of_beq_eq_true hb
    split at h
    · simp only [Option.some.injEq] at h
      exact ⟨hg, rfl, h.symm⟩
    · cases h
  · cases h
instance k1 : Kn := ⟨yes1⟩
instance k1ok : KnowOk Tryz.prog := ⟨fun g args r h => by
  obtain ⟨rfl, rfl, rfl⟩ := yes1_ok g args r h
  exact ⟨rfl, rfl, fun w => works_any w⟩⟩
end Go.Proofs.YtcllgicphjmamaaGreat.ev
