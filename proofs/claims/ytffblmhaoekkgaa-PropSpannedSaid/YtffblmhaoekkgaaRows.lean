/-
  No cell of these rows narrows 'for every input' (looked for: loops, veiled, ifaces, maps, wideKeys, modest, calm, conditions, laid).
  DERIVED. THE GIVEN ROWS OF THIS SEAT. 9 by the template 'for every input the law returns true; each argument reads behind the call as it read before'; 0 by the template 'total and deterministic' (their statements: YtffblmhaoekkgaaTotals.lean).
  GIVEN WITH THE SEED: the statements are not yours to turn. If you find one false, say at which input.
  Laid BY PROGRAM, IN A SANDBOX (cutbox-rows.mjs): the forced cells as the released guide's own fill.sh prints them over the translation 93004c8a52c9c9c1… (all of the seat's roots in one cut). By AI agents, Wed Nov 11 2026. No macro, syntax, notation, axiom, sorry.
-/
import Derived.Test.YtffblmhaoekkgaaChecked
import GoSem.Claim
import GoSem.ClaimJoined
import GoSem.ClaimMapViews
import Derived.JoinedTies
import Derived.KernelRfl
namespace Go.Proofs.Ytffblmhaoekkgaa
/- THE CELL 'sum', in the pinned program and in every row, IS THE sha256 OF THE DUMP (.gsa) THAT YtffblmhaoekkgaaProg.lean LOADS. Nothing in Lean hashes anything: it is a label: what it is worth is what the hold of that sum in a sandbox is worth. -/
noncomputable def Try.pinned : Pinned := { name := "ytffblmhaoekkgaa", sum := "93004c8a52c9c9c1a60a76c47c582a7e7cc9b93782199335765aec085b5440f4", checked := Try.checked }
namespace Rows
def none {H : Type} : Left H := { results := [], args := [] }

/-- 'novaculitelaw07.PropSure': WHATEVER THE INPUT: true; the input reads as it did. -/
def propSureSpec : ChangeSpec := { name := "propSure", fn := fun _ => fun
  | [d1, d2] => { results := [.lit (.bool true)], args := [d1, d2] }
  | _ => none }
def propSureRow : OpenClaim := { program := "ytffblmhaoekkgaa", sum := "93004c8a52c9c9c1a60a76c47c582a7e7cc9b93782199335765aec085b5440f4", func := "novaculite/novaculitelaw07.PropSure", spec := "propSure", unfollowed := true, recurses := true, apart := false }
def PropSureSaid : Prop := propSureRow.holds Try.pinned (OpenSpec.ofChange propSureSpec)

/-- ITS FALSE NEIGHBOUR: 'it returns false'. Refute it at one input. -/
def propSureWrong : ChangeSpec := { name := "propSure", fn := fun _ => fun
  | [d1, d2] => { results := [.lit (.bool false)], args := [d1, d2] }
  | _ => none }
def PropSureWrongFalsely : Prop := propSureRow.holds Try.pinned (OpenSpec.ofChange propSureWrong)

/-- 'novaculitelaw07.PropSpanned': WHATEVER THE INPUT: true; the input reads as it did. -/
def propSpannedSpec : ChangeSpec := { name := "propSpanned", fn := fun _ => fun
  | [d1, d2] => { results := [.lit (.bool true)], args := [d1, d2] }
  | _ => none }
def propSpannedRow : OpenClaim := { program := "ytffblmhaoekkgaa", sum := "93004c8a52c9c9c1a60a76c47c582a7e7cc9b93782199335765aec085b5440f4", func := "novaculite/novaculitelaw07.PropSpanned", spec := "propSpanned", unfollowed := true, recurses := true, apart := false }
def PropSpannedSaid : Prop := propSpannedRow.holds Try.pinned (OpenSpec.ofChange propSpannedSpec)

/-- ITS FALSE NEIGHBOUR: 'it returns false'. Refute it at one input. -/
def propSpannedWrong : ChangeSpec := { name := "propSpanned", fn := fun _ => fun
  | [d1, d2] => { results := [.lit (.bool false)], args := [d1, d2] }
  | _ => none }
def PropSpannedWrongFalsely : Prop := propSpannedRow.holds Try.pinned (OpenSpec.ofChange propSpannedWrong)

/-- 'novaculitelaw07.PropMoved': WHATEVER THE INPUT: true; the input reads as it did. -/
def propMovedSpec : ChangeSpec := { name := "propMoved", fn := fun _ => fun
  | [d1, d2] => { results := [.lit (.bool true)], args := [d1, d2] }
  | _ => none }
def propMovedRow : OpenClaim := { program := "ytffblmhaoekkgaa", sum := "93004c8a52c9c9c1a60a76c47c582a7e7cc9b93782199335765aec085b5440f4", func := "novaculite/novaculitelaw07.PropMoved", spec := "propMoved", unfollowed := true, recurses := true, apart := false }
def PropMovedSaid : Prop := propMovedRow.holds Try.pinned (OpenSpec.ofChange propMovedSpec)

/-- ITS FALSE NEIGHBOUR: 'it returns false'. Refute it at one input. -/
def propMovedWrong : ChangeSpec := { name := "propMoved", fn := fun _ => fun
  | [d1, d2] => { results := [.lit (.bool false)], args := [d1, d2] }
  | _ => none }
def PropMovedWrongFalsely : Prop := propMovedRow.holds Try.pinned (OpenSpec.ofChange propMovedWrong)

/-- 'novaculitelaw07.PropNarrowed': WHATEVER THE INPUT: true; the input reads as it did. -/
def propNarrowedSpec : ChangeSpec := { name := "propNarrowed", fn := fun _ => fun
  | [d1, d2, d3, d4] => { results := [.lit (.bool true)], args := [d1, d2, d3, d4] }
  | _ => none }
def propNarrowedRow : OpenClaim := { program := "ytffblmhaoekkgaa", sum := "93004c8a52c9c9c1a60a76c47c582a7e7cc9b93782199335765aec085b5440f4", func := "novaculite/novaculitelaw07.PropNarrowed", spec := "propNarrowed", unfollowed := true, recurses := true, apart := false }
def PropNarrowedSaid : Prop := propNarrowedRow.holds Try.pinned (OpenSpec.ofChange propNarrowedSpec)

/-- ITS FALSE NEIGHBOUR: 'it returns false'. Refute it at one input. -/
def propNarrowedWrong : ChangeSpec := { name := "propNarrowed", fn := fun _ => fun
  | [d1, d2, d3, d4] => { results := [.lit (.bool false)], args := [d1, d2, d3, d4] }
  | _ => none }
def PropNarrowedWrongFalsely : Prop := propNarrowedRow.holds Try.pinned (OpenSpec.ofChange propNarrowedWrong)

/-- 'novaculitelaw07.PropReach': WHATEVER THE INPUT: true; the input reads as it did. -/
def propReachSpec : ChangeSpec := { name := "propReach", fn := fun _ => fun
  | [d1, d2] => { results := [.lit (.bool true)], args := [d1, d2] }
  | _ => none }
def propReachRow : OpenClaim := { program := "ytffblmhaoekkgaa", sum := "93004c8a52c9c9c1a60a76c47c582a7e7cc9b93782199335765aec085b5440f4", func := "novaculite/novaculitelaw07.PropReach", spec := "propReach", unfollowed := true, recurses := true, apart := false }
def PropReachSaid : Prop := propReachRow.holds Try.pinned (OpenSpec.ofChange propReachSpec)

/-- ITS FALSE NEIGHBOUR: 'it returns false'. Refute it at one input. -/
def propReachWrong : ChangeSpec := { name := "propReach", fn := fun _ => fun
  | [d1, d2] => { results := [.lit (.bool false)], args := [d1, d2] }
  | _ => none }
def PropReachWrongFalsely : Prop := propReachRow.holds Try.pinned (OpenSpec.ofChange propReachWrong)

/-- 'novaculitelaw07.PropBest': WHATEVER THE INPUT: true; the input reads as it did. -/
def propBestSpec : ChangeSpec := { name := "propBest", fn := fun _ => fun
  | [d] => { results := [.lit (.bool true)], args := [d] }
  | _ => none }
def propBestRow : OpenClaim := { program := "ytffblmhaoekkgaa", sum := "93004c8a52c9c9c1a60a76c47c582a7e7cc9b93782199335765aec085b5440f4", func := "novaculite/novaculitelaw07.PropBest", spec := "propBest", unfollowed := true, recurses := true, apart := false }
def PropBestSaid : Prop := propBestRow.holds Try.pinned (OpenSpec.ofChange propBestSpec)

/-- ITS FALSE NEIGHBOUR: 'it returns false'. Refute it at one input. -/
def propBestWrong : ChangeSpec := { name := "propBest", fn := fun _ => fun
  | [d] => { results := [.lit (.bool false)], args := [d] }
  | _ => none }
def PropBestWrongFalsely : Prop := propBestRow.holds Try.pinned (OpenSpec.ofChange propBestWrong)

/-- 'novaculitelaw07.PropSeries': WHATEVER THE INPUT: true; the input reads as it did. -/
def propSeriesSpec : ChangeSpec := { name := "propSeries", fn := fun _ => fun
  | [d1, d2, d3] => { results := [.lit (.bool true)], args := [d1, d2, d3] }
  | _ => none }
def propSeriesRow : OpenClaim := { program := "ytffblmhaoekkgaa", sum := "93004c8a52c9c9c1a60a76c47c582a7e7cc9b93782199335765aec085b5440f4", func := "novaculite/novaculitelaw07.PropSeries", spec := "propSeries", unfollowed := true, recurses := true, apart := false }
def PropSeriesSaid : Prop := propSeriesRow.holds Try.pinned (OpenSpec.ofChange propSeriesSpec)

/-- ITS FALSE NEIGHBOUR: 'it returns false'. Refute it at one input. -/
def propSeriesWrong : ChangeSpec := { name := "propSeries", fn := fun _ => fun
  | [d1, d2, d3] => { results := [.lit (.bool false)], args := [d1, d2, d3] }
  | _ => none }
def PropSeriesWrongFalsely : Prop := propSeriesRow.holds Try.pinned (OpenSpec.ofChange propSeriesWrong)

/-- 'novaculitelaw07.PropScaled': WHATEVER THE INPUT: true; the input reads as it did. -/
def propScaledSpec : ChangeSpec := { name := "propScaled", fn := fun _ => fun
  | [d1, d2] => { results := [.lit (.bool true)], args := [d1, d2] }
  | _ => none }
def propScaledRow : OpenClaim := { program := "ytffblmhaoekkgaa", sum := "93004c8a52c9c9c1a60a76c47c582a7e7cc9b93782199335765aec085b5440f4", func := "novaculite/novaculitelaw07.PropScaled", spec := "propScaled", unfollowed := true, recurses := true, apart := false }
def PropScaledSaid : Prop := propScaledRow.holds Try.pinned (OpenSpec.ofChange propScaledSpec)

/-- ITS FALSE NEIGHBOUR: 'it returns false'. Refute it at one input. -/
def propScaledWrong : ChangeSpec := { name := "propScaled", fn := fun _ => fun
  | [d1, d2] => { results := [.lit (.bool false)], args := [d1, d2] }
  | _ => none }
def PropScaledWrongFalsely : Prop := propScaledRow.holds Try.pinned (OpenSpec.ofChange propScaledWrong)

/-- 'novaculitelaw07.PropShown': WHATEVER THE INPUT: true; the input reads as it did. -/
def propShownSpec : ChangeSpec := { name := "propShown", fn := fun _ => fun
  | [d1, d2, d3, d4, d5] => { results := [.lit (.bool true)], args := [d1, d2, d3, d4, d5] }
  | _ => none }
def propShownRow : OpenClaim := { program := "ytffblmhaoekkgaa", sum := "93004c8a52c9c9c1a60a76c47c582a7e7cc9b93782199335765aec085b5440f4", func := "novaculite/novaculitelaw07.PropShown", spec := "propShown", unfollowed := true, recurses := true, apart := false }
def PropShownSaid : Prop := propShownRow.holds Try.pinned (OpenSpec.ofChange propShownSpec)

/-- ITS FALSE NEIGHBOUR: 'it returns false'. Refute it at one input. -/
def propShownWrong : ChangeSpec := { name := "propShown", fn := fun _ => fun
  | [d1, d2, d3, d4, d5] => { results := [.lit (.bool false)], args := [d1, d2, d3, d4, d5] }
  | _ => none }
def PropShownWrongFalsely : Prop := propShownRow.holds Try.pinned (OpenSpec.ofChange propShownWrong)

/- THE SECOND FORM. 'bulk': how many values and letters a reading holds, each counted each time it is reached (what is shared counts as often as it is met; a slice's spare places count too). A statement '..UptoSaid' is the law's where the arguments, and the package variables that the reading takes, are together of bulk at most 1048576: NARROWER than '..Said'. Prove '..Said' where nothing that the law and all that it calls make is longer than what came in: it says more and counts as full. Else prove '..UptoSaid'. A law counts once. -/
mutual
def uptoBulk {H : Type} : DataW H → Nat
  | .lit (.string bytes) => bytes.length + 1
  | .lit _ => 1
  | .nil => 1
  | .ptr d => uptoBulk d + 1
  | .slice elems spare => uptoBulkAll elems + uptoBulkAll spare + 1
  | .agg parts => uptoBulkAll parts + 1
  | .iface _ d => uptoBulk d + 1
  | .map entries => uptoBulkEntries entries + 1
  | .held _ => 1
def uptoBulkAll {H : Type} : List (DataW H) → Nat
  | [] => 0
  | d :: r => uptoBulk d + uptoBulkAll r
def uptoBulkEntries {H : Type} : List (Lit × DataW H) → Nat
  | [] => 0
  | x :: r => uptoBulkEntry x + uptoBulkEntries r
def uptoBulkEntry {H : Type} : Lit × DataW H → Nat
  | (.string bytes, d) => bytes.length + uptoBulk d + 1
  | (_, d) => uptoBulk d + 1
 end
def uptoSmall : (H : Type) → List (DataW H) → Bool := fun _ ds => decide (uptoBulkAll ds ≤ 1048576)
def OpenSpec.upto (s : _root_.Go.ChangeSpec) : _root_.Go.OpenSpec := { _root_.Go.OpenSpec.ofChange s with cond := some uptoSmall }

/-- 'novaculitelaw07.PropSure', WHERE WHAT IT READS IS OF BULK AT MOST 1048576: true; the input reads as it did. -/
def propSureUptoRow : OpenClaim := { program := "ytffblmhaoekkgaa", sum := "93004c8a52c9c9c1a60a76c47c582a7e7cc9b93782199335765aec085b5440f4", func := "novaculite/novaculitelaw07.PropSure", spec := "propSure", unfollowed := true, recurses := true, apart := false, narrowed := true }
def PropSureUptoSaid : Prop := propSureUptoRow.holds Try.pinned (OpenSpec.upto propSureSpec)

/-- 'novaculitelaw07.PropSpanned', WHERE WHAT IT READS IS OF BULK AT MOST 1048576: true; the input reads as it did. -/
def propSpannedUptoRow : OpenClaim := { program := "ytffblmhaoekkgaa", sum := "93004c8a52c9c9c1a60a76c47c582a7e7cc9b93782199335765aec085b5440f4", func := "novaculite/novaculitelaw07.PropSpanned", spec := "propSpanned", unfollowed := true, recurses := true, apart := false, narrowed := true }
def PropSpannedUptoSaid : Prop := propSpannedUptoRow.holds Try.pinned (OpenSpec.upto propSpannedSpec)

/-- 'novaculitelaw07.PropMoved', WHERE WHAT IT READS IS OF BULK AT MOST 1048576: true; the input reads as it did. -/
def propMovedUptoRow : OpenClaim := { program := "ytffblmhaoekkgaa", sum := "93004c8a52c9c9c1a60a76c47c582a7e7cc9b93782199335765aec085b5440f4", func := "novaculite/novaculitelaw07.PropMoved", spec := "propMoved", unfollowed := true, recurses := true, apart := false, narrowed := true }
def PropMovedUptoSaid : Prop := propMovedUptoRow.holds Try.pinned (OpenSpec.upto propMovedSpec)

/-- 'novaculitelaw07.PropNarrowed', WHERE WHAT IT READS IS OF BULK AT MOST 1048576: true; the input reads as it did. -/
def propNarrowedUptoRow : OpenClaim := { program := "ytffblmhaoekkgaa", sum := "93004c8a52c9c9c1a60a76c47c582a7e7cc9b93782199335765aec085b5440f4", func := "novaculite/novaculitelaw07.PropNarrowed", spec := "propNarrowed", unfollowed := true, recurses := true, apart := false, narrowed := true }
def PropNarrowedUptoSaid : Prop := propNarrowedUptoRow.holds Try.pinned (OpenSpec.upto propNarrowedSpec)

/-- 'novaculitelaw07.PropReach', WHERE WHAT IT READS IS OF BULK AT MOST 1048576: true; the input reads as it did. -/
def propReachUptoRow : OpenClaim := { program := "ytffblmhaoekkgaa", sum := "93004c8a52c9c9c1a60a76c47c582a7e7cc9b93782199335765aec085b5440f4", func := "novaculite/novaculitelaw07.PropReach", spec := "propReach", unfollowed := true, recurses := true, apart := false, narrowed := true }
def PropReachUptoSaid : Prop := propReachUptoRow.holds Try.pinned (OpenSpec.upto propReachSpec)

/-- 'novaculitelaw07.PropBest', WHERE WHAT IT READS IS OF BULK AT MOST 1048576: true; the input reads as it did. -/
def propBestUptoRow : OpenClaim := { program := "ytffblmhaoekkgaa", sum := "93004c8a52c9c9c1a60a76c47c582a7e7cc9b93782199335765aec085b5440f4", func := "novaculite/novaculitelaw07.PropBest", spec := "propBest", unfollowed := true, recurses := true, apart := false, narrowed := true }
def PropBestUptoSaid : Prop := propBestUptoRow.holds Try.pinned (OpenSpec.upto propBestSpec)

/-- 'novaculitelaw07.PropSeries', WHERE WHAT IT READS IS OF BULK AT MOST 1048576: true; the input reads as it did. -/
def propSeriesUptoRow : OpenClaim := { program := "ytffblmhaoekkgaa", sum := "93004c8a52c9c9c1a60a76c47c582a7e7cc9b93782199335765aec085b5440f4", func := "novaculite/novaculitelaw07.PropSeries", spec := "propSeries", unfollowed := true, recurses := true, apart := false, narrowed := true }
def PropSeriesUptoSaid : Prop := propSeriesUptoRow.holds Try.pinned (OpenSpec.upto propSeriesSpec)

/-- 'novaculitelaw07.PropScaled', WHERE WHAT IT READS IS OF BULK AT MOST 1048576: true; the input reads as it did. -/
def propScaledUptoRow : OpenClaim := { program := "ytffblmhaoekkgaa", sum := "93004c8a52c9c9c1a60a76c47c582a7e7cc9b93782199335765aec085b5440f4", func := "novaculite/novaculitelaw07.PropScaled", spec := "propScaled", unfollowed := true, recurses := true, apart := false, narrowed := true }
def PropScaledUptoSaid : Prop := propScaledUptoRow.holds Try.pinned (OpenSpec.upto propScaledSpec)

/-- 'novaculitelaw07.PropShown', WHERE WHAT IT READS IS OF BULK AT MOST 1048576: true; the input reads as it did. -/
def propShownUptoRow : OpenClaim := { program := "ytffblmhaoekkgaa", sum := "93004c8a52c9c9c1a60a76c47c582a7e7cc9b93782199335765aec085b5440f4", func := "novaculite/novaculitelaw07.PropShown", spec := "propShown", unfollowed := true, recurses := true, apart := false, narrowed := true }
def PropShownUptoSaid : Prop := propShownUptoRow.holds Try.pinned (OpenSpec.upto propShownSpec)

end Rows
end Go.Proofs.Ytffblmhaoekkgaa
