/- math/bits.OnesCount at small sets; or at small sets. -/
import Derived.Test.YtlnpibboemphnaaGreatQa1
import Derived.Test.YtlnpibboemphnaaGreatQa6
namespace Go.Proofs.YtlnpibboemphnaaGreat.drn
open Go.RowKit
theorem ones_any (s : Nat) (w : World) (hs : s < 64) : Calls Tryz.prog 32 #[.int .u64 s] w fun e w' => e = .returned (.int .i64 (sizeS s : Nat)) ∧ w = w' := by
  go_enter Tryz.func32, Tryz.ntmps32
  go_wp2
  go_ret
  refine ⟨?_, rfl⟩
  refine congrArg (fun z : Int => Ending.returned (Value.int .i64 z)) ?_
  revert s
  decide +kernel
theorem or_sets (s t : Nat) (hs : s < 64) (ht : t < 64) : bits BinOp.or IntKind.i64 (s : Int) (t : Int) = ((s ||| t : Nat) : Int) := by
  have hd : ∀ s : Nat, s < 64 → ∀ t : Nat, t < 64 → bits BinOp.or IntKind.i64 (s : Int) (t : Int) = ((s ||| t : Nat) : Int) := by decide +kernel
  exact hd s hs t ht
theorem u64_set (s : Nat) (hs : s < 64) : IntKind.u64.wrap (s : Int) = (s : Int) := by
  have hd : ∀ s : Nat, s < 64 → IntKind.u64.wrap (s : Int) = (s : Int) := by decide +kernel
  exact hd s hs
end Go.Proofs.YtlnpibboemphnaaGreat.drn
