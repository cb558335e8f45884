/-
  No cell of these rows narrows 'for every input' (looked for: loops, veiled, ifaces, maps, wideKeys, modest, calm, conditions, laid).
  DERIVED. THE GIVEN ROWS OF THIS SEAT. 16 by the template 'for every input the law returns true; each argument reads behind the call as it read before'; 0 by the template 'total and deterministic' (their statements: YtcalipoknbbaaaaTotals.lean).
  GIVEN WITH THE SEED: the statements are not yours to turn. If you find one false, say at which input.
  Laid BY PROGRAM, IN A SANDBOX (cutbox-rows.mjs): the forced cells as the released guide's own fill.sh prints them over the translation 798ec2158674ecd9… (all of the seat's roots in one cut). By AI agents, Wed Nov 11 2026. No macro, syntax, notation, axiom, sorry.
-/
import Derived.Test.YtcalipoknbbaaaaChecked
import GoSem.Claim
import GoSem.ClaimJoined
import GoSem.ClaimMapViews
import Derived.JoinedTies
import Derived.KernelRfl
namespace Go.Proofs.Ytcalipoknbbaaaa
/- THE CELL 'sum', in the pinned program and in every row, IS THE sha256 OF THE DUMP (.gsa) THAT YtcalipoknbbaaaaProg.lean LOADS. Nothing in Lean hashes anything: it is a label: what it is worth is what the hold of that sum in a sandbox is worth. -/
noncomputable def Try.pinned : Pinned := { name := "ytcalipoknbbaaaa", sum := "798ec2158674ecd9d5a9bf335f56d35149417e7b2d63425e6cf826e2c4507284", checked := Try.checked }
namespace Rows
def none {H : Type} : Left H := { results := [], args := [] }

/-- 'novaculitelaw01.SeamHills': WHATEVER THE INPUT: true; the input reads as it did. -/
def seamHillsSpec : ChangeSpec := { name := "seamHills", fn := fun _ => fun
  | [d1, d2, d3] => { results := [.lit (.bool true)], args := [d1, d2, d3] }
  | _ => none }
def seamHillsRow : OpenClaim := { program := "ytcalipoknbbaaaa", sum := "798ec2158674ecd9d5a9bf335f56d35149417e7b2d63425e6cf826e2c4507284", func := "novaculite/novaculitelaw01.SeamHills", spec := "seamHills", unfollowed := true, recurses := true, apart := false }
def SeamHillsSaid : Prop := seamHillsRow.holds Try.pinned (OpenSpec.ofChange seamHillsSpec)

/-- ITS FALSE NEIGHBOUR: 'it returns false'. Refute it at one input. -/
def seamHillsWrong : ChangeSpec := { name := "seamHills", fn := fun _ => fun
  | [d1, d2, d3] => { results := [.lit (.bool false)], args := [d1, d2, d3] }
  | _ => none }
def SeamHillsWrongFalsely : Prop := seamHillsRow.holds Try.pinned (OpenSpec.ofChange seamHillsWrong)

/-- 'novaculitelaw01.SeamClashes': WHATEVER THE INPUT: true; the input reads as it did. -/
def seamClashesSpec : ChangeSpec := { name := "seamClashes", fn := fun _ => fun
  | [d1, d2] => { results := [.lit (.bool true)], args := [d1, d2] }
  | _ => none }
def seamClashesRow : OpenClaim := { program := "ytcalipoknbbaaaa", sum := "798ec2158674ecd9d5a9bf335f56d35149417e7b2d63425e6cf826e2c4507284", func := "novaculite/novaculitelaw01.SeamClashes", spec := "seamClashes", unfollowed := true, recurses := true, apart := false }
def SeamClashesSaid : Prop := seamClashesRow.holds Try.pinned (OpenSpec.ofChange seamClashesSpec)

/-- ITS FALSE NEIGHBOUR: 'it returns false'. Refute it at one input. -/
def seamClashesWrong : ChangeSpec := { name := "seamClashes", fn := fun _ => fun
  | [d1, d2] => { results := [.lit (.bool false)], args := [d1, d2] }
  | _ => none }
def SeamClashesWrongFalsely : Prop := seamClashesRow.holds Try.pinned (OpenSpec.ofChange seamClashesWrong)

/-- 'novaculitelaw01.SeamNeeds': WHATEVER THE INPUT: true; the input reads as it did. -/
def seamNeedsSpec : ChangeSpec := { name := "seamNeeds", fn := fun _ => fun
  | [d1, d2] => { results := [.lit (.bool true)], args := [d1, d2] }
  | _ => none }
def seamNeedsRow : OpenClaim := { program := "ytcalipoknbbaaaa", sum := "798ec2158674ecd9d5a9bf335f56d35149417e7b2d63425e6cf826e2c4507284", func := "novaculite/novaculitelaw01.SeamNeeds", spec := "seamNeeds", unfollowed := true, recurses := true, apart := false }
def SeamNeedsSaid : Prop := seamNeedsRow.holds Try.pinned (OpenSpec.ofChange seamNeedsSpec)

/-- ITS FALSE NEIGHBOUR: 'it returns false'. Refute it at one input. -/
def seamNeedsWrong : ChangeSpec := { name := "seamNeeds", fn := fun _ => fun
  | [d1, d2] => { results := [.lit (.bool false)], args := [d1, d2] }
  | _ => none }
def SeamNeedsWrongFalsely : Prop := seamNeedsRow.holds Try.pinned (OpenSpec.ofChange seamNeedsWrong)

/-- 'novaculitelaw01.SeamHulls': WHATEVER THE INPUT: true; the input reads as it did. -/
def seamHullsSpec : ChangeSpec := { name := "seamHulls", fn := fun _ => fun
  | [d1, d2] => { results := [.lit (.bool true)], args := [d1, d2] }
  | _ => none }
def seamHullsRow : OpenClaim := { program := "ytcalipoknbbaaaa", sum := "798ec2158674ecd9d5a9bf335f56d35149417e7b2d63425e6cf826e2c4507284", func := "novaculite/novaculitelaw01.SeamHulls", spec := "seamHulls", unfollowed := true, recurses := true, apart := false }
def SeamHullsSaid : Prop := seamHullsRow.holds Try.pinned (OpenSpec.ofChange seamHullsSpec)

/-- ITS FALSE NEIGHBOUR: 'it returns false'. Refute it at one input. -/
def seamHullsWrong : ChangeSpec := { name := "seamHulls", fn := fun _ => fun
  | [d1, d2] => { results := [.lit (.bool false)], args := [d1, d2] }
  | _ => none }
def SeamHullsWrongFalsely : Prop := seamHullsRow.holds Try.pinned (OpenSpec.ofChange seamHullsWrong)

/-- 'novaculitelaw01.SeamDepths': WHATEVER THE INPUT: true; the input reads as it did. -/
def seamDepthsSpec : ChangeSpec := { name := "seamDepths", fn := fun _ => fun
  | [d1, d2] => { results := [.lit (.bool true)], args := [d1, d2] }
  | _ => none }
def seamDepthsRow : OpenClaim := { program := "ytcalipoknbbaaaa", sum := "798ec2158674ecd9d5a9bf335f56d35149417e7b2d63425e6cf826e2c4507284", func := "novaculite/novaculitelaw01.SeamDepths", spec := "seamDepths", unfollowed := true, recurses := true, apart := false }
def SeamDepthsSaid : Prop := seamDepthsRow.holds Try.pinned (OpenSpec.ofChange seamDepthsSpec)

/-- ITS FALSE NEIGHBOUR: 'it returns false'. Refute it at one input. -/
def seamDepthsWrong : ChangeSpec := { name := "seamDepths", fn := fun _ => fun
  | [d1, d2] => { results := [.lit (.bool false)], args := [d1, d2] }
  | _ => none }
def SeamDepthsWrongFalsely : Prop := seamDepthsRow.holds Try.pinned (OpenSpec.ofChange seamDepthsWrong)

/-- 'novaculitelaw01.SeamDoignon': WHATEVER THE INPUT: true; the input reads as it did. -/
def seamDoignonSpec : ChangeSpec := { name := "seamDoignon", fn := fun _ => fun
  | [d] => { results := [.lit (.bool true)], args := [d] }
  | _ => none }
def seamDoignonRow : OpenClaim := { program := "ytcalipoknbbaaaa", sum := "798ec2158674ecd9d5a9bf335f56d35149417e7b2d63425e6cf826e2c4507284", func := "novaculite/novaculitelaw01.SeamDoignon", spec := "seamDoignon", unfollowed := true, recurses := true, apart := false }
def SeamDoignonSaid : Prop := seamDoignonRow.holds Try.pinned (OpenSpec.ofChange seamDoignonSpec)

/-- ITS FALSE NEIGHBOUR: 'it returns false'. Refute it at one input. -/
def seamDoignonWrong : ChangeSpec := { name := "seamDoignon", fn := fun _ => fun
  | [d] => { results := [.lit (.bool false)], args := [d] }
  | _ => none }
def SeamDoignonWrongFalsely : Prop := seamDoignonRow.holds Try.pinned (OpenSpec.ofChange seamDoignonWrong)

/-- 'novaculitelaw01.SeamWrong': WHATEVER THE INPUT: true; the input reads as it did. -/
def seamWrongSpec : ChangeSpec := { name := "seamWrong", fn := fun _ => fun
  | [d] => { results := [.lit (.bool true)], args := [d] }
  | _ => none }
def seamWrongRow : OpenClaim := { program := "ytcalipoknbbaaaa", sum := "798ec2158674ecd9d5a9bf335f56d35149417e7b2d63425e6cf826e2c4507284", func := "novaculite/novaculitelaw01.SeamWrong", spec := "seamWrong", unfollowed := true, recurses := true, apart := false }
def SeamWrongSaid : Prop := seamWrongRow.holds Try.pinned (OpenSpec.ofChange seamWrongSpec)

/-- ITS FALSE NEIGHBOUR: 'it returns false'. Refute it at one input. -/
def seamWrongWrong : ChangeSpec := { name := "seamWrong", fn := fun _ => fun
  | [d] => { results := [.lit (.bool false)], args := [d] }
  | _ => none }
def SeamWrongWrongFalsely : Prop := seamWrongRow.holds Try.pinned (OpenSpec.ofChange seamWrongWrong)

/-- 'novaculitelaw01.SeamMore': WHATEVER THE INPUT: true; the input reads as it did. -/
def seamMoreSpec : ChangeSpec := { name := "seamMore", fn := fun _ => fun
  | [d1, d2] => { results := [.lit (.bool true)], args := [d1, d2] }
  | _ => none }
def seamMoreRow : OpenClaim := { program := "ytcalipoknbbaaaa", sum := "798ec2158674ecd9d5a9bf335f56d35149417e7b2d63425e6cf826e2c4507284", func := "novaculite/novaculitelaw01.SeamMore", spec := "seamMore", unfollowed := true, recurses := true, apart := false }
def SeamMoreSaid : Prop := seamMoreRow.holds Try.pinned (OpenSpec.ofChange seamMoreSpec)

/-- ITS FALSE NEIGHBOUR: 'it returns false'. Refute it at one input. -/
def seamMoreWrong : ChangeSpec := { name := "seamMore", fn := fun _ => fun
  | [d1, d2] => { results := [.lit (.bool false)], args := [d1, d2] }
  | _ => none }
def SeamMoreWrongFalsely : Prop := seamMoreRow.holds Try.pinned (OpenSpec.ofChange seamMoreWrong)

/-- 'novaculitelaw01.SeamAsked': WHATEVER THE INPUT: true; the input reads as it did. -/
def seamAskedSpec : ChangeSpec := { name := "seamAsked", fn := fun _ => fun
  | [d1, d2, d3] => { results := [.lit (.bool true)], args := [d1, d2, d3] }
  | _ => none }
def seamAskedRow : OpenClaim := { program := "ytcalipoknbbaaaa", sum := "798ec2158674ecd9d5a9bf335f56d35149417e7b2d63425e6cf826e2c4507284", func := "novaculite/novaculitelaw01.SeamAsked", spec := "seamAsked", unfollowed := true, recurses := true, apart := false }
def SeamAskedSaid : Prop := seamAskedRow.holds Try.pinned (OpenSpec.ofChange seamAskedSpec)

/-- ITS FALSE NEIGHBOUR: 'it returns false'. Refute it at one input. -/
def seamAskedWrong : ChangeSpec := { name := "seamAsked", fn := fun _ => fun
  | [d1, d2, d3] => { results := [.lit (.bool false)], args := [d1, d2, d3] }
  | _ => none }
def SeamAskedWrongFalsely : Prop := seamAskedRow.holds Try.pinned (OpenSpec.ofChange seamAskedWrong)

/-- 'novaculitelaw01.SeamMirrored': WHATEVER THE INPUT: true; the input reads as it did. -/
def seamMirroredSpec : ChangeSpec := { name := "seamMirrored", fn := fun _ => fun
  | [d] => { results := [.lit (.bool true)], args := [d] }
  | _ => none }
def seamMirroredRow : OpenClaim := { program := "ytcalipoknbbaaaa", sum := "798ec2158674ecd9d5a9bf335f56d35149417e7b2d63425e6cf826e2c4507284", func := "novaculite/novaculitelaw01.SeamMirrored", spec := "seamMirrored", unfollowed := true, recurses := true, apart := false }
def SeamMirroredSaid : Prop := seamMirroredRow.holds Try.pinned (OpenSpec.ofChange seamMirroredSpec)

/-- ITS FALSE NEIGHBOUR: 'it returns false'. Refute it at one input. -/
def seamMirroredWrong : ChangeSpec := { name := "seamMirrored", fn := fun _ => fun
  | [d] => { results := [.lit (.bool false)], args := [d] }
  | _ => none }
def SeamMirroredWrongFalsely : Prop := seamMirroredRow.holds Try.pinned (OpenSpec.ofChange seamMirroredWrong)

/-- 'novaculitelaw01.SeamEither': WHATEVER THE INPUT: true; the input reads as it did. -/
def seamEitherSpec : ChangeSpec := { name := "seamEither", fn := fun _ => fun
  | [d1, d2] => { results := [.lit (.bool true)], args := [d1, d2] }
  | _ => none }
def seamEitherRow : OpenClaim := { program := "ytcalipoknbbaaaa", sum := "798ec2158674ecd9d5a9bf335f56d35149417e7b2d63425e6cf826e2c4507284", func := "novaculite/novaculitelaw01.SeamEither", spec := "seamEither", unfollowed := true, recurses := true, apart := false }
def SeamEitherSaid : Prop := seamEitherRow.holds Try.pinned (OpenSpec.ofChange seamEitherSpec)

/-- ITS FALSE NEIGHBOUR: 'it returns false'. Refute it at one input. -/
def seamEitherWrong : ChangeSpec := { name := "seamEither", fn := fun _ => fun
  | [d1, d2] => { results := [.lit (.bool false)], args := [d1, d2] }
  | _ => none }
def SeamEitherWrongFalsely : Prop := seamEitherRow.holds Try.pinned (OpenSpec.ofChange seamEitherWrong)

/-- 'novaculitelaw01.SeamCorners': WHATEVER THE INPUT: true; the input reads as it did. -/
def seamCornersSpec : ChangeSpec := { name := "seamCorners", fn := fun _ => fun
  | [d1, d2] => { results := [.lit (.bool true)], args := [d1, d2] }
  | _ => none }
def seamCornersRow : OpenClaim := { program := "ytcalipoknbbaaaa", sum := "798ec2158674ecd9d5a9bf335f56d35149417e7b2d63425e6cf826e2c4507284", func := "novaculite/novaculitelaw01.SeamCorners", spec := "seamCorners", unfollowed := true, recurses := true, apart := false }
def SeamCornersSaid : Prop := seamCornersRow.holds Try.pinned (OpenSpec.ofChange seamCornersSpec)

/-- ITS FALSE NEIGHBOUR: 'it returns false'. Refute it at one input. -/
def seamCornersWrong : ChangeSpec := { name := "seamCorners", fn := fun _ => fun
  | [d1, d2] => { results := [.lit (.bool false)], args := [d1, d2] }
  | _ => none }
def SeamCornersWrongFalsely : Prop := seamCornersRow.holds Try.pinned (OpenSpec.ofChange seamCornersWrong)

/-- 'novaculitelaw01.SeamRadon': WHATEVER THE INPUT: true; the input reads as it did. -/
def seamRadonSpec : ChangeSpec := { name := "seamRadon", fn := fun _ => fun
  | [d] => { results := [.lit (.bool true)], args := [d] }
  | _ => none }
def seamRadonRow : OpenClaim := { program := "ytcalipoknbbaaaa", sum := "798ec2158674ecd9d5a9bf335f56d35149417e7b2d63425e6cf826e2c4507284", func := "novaculite/novaculitelaw01.SeamRadon", spec := "seamRadon", unfollowed := true, recurses := true, apart := false }
def SeamRadonSaid : Prop := seamRadonRow.holds Try.pinned (OpenSpec.ofChange seamRadonSpec)

/-- ITS FALSE NEIGHBOUR: 'it returns false'. Refute it at one input. -/
def seamRadonWrong : ChangeSpec := { name := "seamRadon", fn := fun _ => fun
  | [d] => { results := [.lit (.bool false)], args := [d] }
  | _ => none }
def SeamRadonWrongFalsely : Prop := seamRadonRow.holds Try.pinned (OpenSpec.ofChange seamRadonWrong)

/-- 'novaculitelaw01.SeamMiddle': WHATEVER THE INPUT: true; the input reads as it did. -/
def seamMiddleSpec : ChangeSpec := { name := "seamMiddle", fn := fun _ => fun
  | [d1, d2] => { results := [.lit (.bool true)], args := [d1, d2] }
  | _ => none }
def seamMiddleRow : OpenClaim := { program := "ytcalipoknbbaaaa", sum := "798ec2158674ecd9d5a9bf335f56d35149417e7b2d63425e6cf826e2c4507284", func := "novaculite/novaculitelaw01.SeamMiddle", spec := "seamMiddle", unfollowed := true, recurses := true, apart := false }
def SeamMiddleSaid : Prop := seamMiddleRow.holds Try.pinned (OpenSpec.ofChange seamMiddleSpec)

/-- ITS FALSE NEIGHBOUR: 'it returns false'. Refute it at one input. -/
def seamMiddleWrong : ChangeSpec := { name := "seamMiddle", fn := fun _ => fun
  | [d1, d2] => { results := [.lit (.bool false)], args := [d1, d2] }
  | _ => none }
def SeamMiddleWrongFalsely : Prop := seamMiddleRow.holds Try.pinned (OpenSpec.ofChange seamMiddleWrong)

/-- 'novaculitelaw01.SeamShown': WHATEVER THE INPUT: true; the input reads as it did. -/
def seamShownSpec : ChangeSpec := { name := "seamShown", fn := fun _ => fun
  | [d1, d2, d3] => { results := [.lit (.bool true)], args := [d1, d2, d3] }
  | _ => none }
def seamShownRow : OpenClaim := { program := "ytcalipoknbbaaaa", sum := "798ec2158674ecd9d5a9bf335f56d35149417e7b2d63425e6cf826e2c4507284", func := "novaculite/novaculitelaw01.SeamShown", spec := "seamShown", unfollowed := true, recurses := true, apart := false }
def SeamShownSaid : Prop := seamShownRow.holds Try.pinned (OpenSpec.ofChange seamShownSpec)

/-- ITS FALSE NEIGHBOUR: 'it returns false'. Refute it at one input. -/
def seamShownWrong : ChangeSpec := { name := "seamShown", fn := fun _ => fun
  | [d1, d2, d3] => { results := [.lit (.bool false)], args := [d1, d2, d3] }
  | _ => none }
def SeamShownWrongFalsely : Prop := seamShownRow.holds Try.pinned (OpenSpec.ofChange seamShownWrong)

/-- 'novaculitelaw01.SeamKnown': WHATEVER THE INPUT: true; the input reads as it did. -/
def seamKnownSpec : ChangeSpec := { name := "seamKnown", fn := fun _ => fun
  | [] => { results := [.lit (.bool true)], args := [] }
  | _ => none }
def seamKnownRow : OpenClaim := { program := "ytcalipoknbbaaaa", sum := "798ec2158674ecd9d5a9bf335f56d35149417e7b2d63425e6cf826e2c4507284", func := "novaculite/novaculitelaw01.SeamKnown", spec := "seamKnown", unfollowed := true, recurses := true, apart := false }
def SeamKnownSaid : Prop := seamKnownRow.holds Try.pinned (OpenSpec.ofChange seamKnownSpec)

/-- ITS FALSE NEIGHBOUR: 'it returns false'. Refute it at one input. -/
def seamKnownWrong : ChangeSpec := { name := "seamKnown", fn := fun _ => fun
  | [] => { results := [.lit (.bool false)], args := [] }
  | _ => none }
def SeamKnownWrongFalsely : Prop := seamKnownRow.holds Try.pinned (OpenSpec.ofChange seamKnownWrong)

/- THE SECOND FORM. 'bulk': how many values and letters a reading holds, each counted each time it is reached (what is shared counts as often as it is met; a slice's spare places count too). A statement '..UptoSaid' is the law's where the arguments, and the package variables that the reading takes, are together of bulk at most 1048576: NARROWER than '..Said'. Prove '..Said' where nothing that the law and all that it calls make is longer than what came in: it says more and counts as full. Else prove '..UptoSaid'. A law counts once. -/
mutual
def uptoBulk {H : Type} : DataW H → Nat
  | .lit (.string bytes) => bytes.length + 1
  | .lit _ => 1
  | .nil => 1
  | .ptr d => uptoBulk d + 1
  | .slice elems spare => uptoBulkAll elems + uptoBulkAll spare + 1
  | .agg parts => uptoBulkAll parts + 1
  | .iface _ d => uptoBulk d + 1
  | .map entries => uptoBulkEntries entries + 1
  | .held _ => 1
def uptoBulkAll {H : Type} : List (DataW H) → Nat
  | [] => 0
  | d :: r => uptoBulk d + uptoBulkAll r
def uptoBulkEntries {H : Type} : List (Lit × DataW H) → Nat
  | [] => 0
  | x :: r => uptoBulkEntry x + uptoBulkEntries r
def uptoBulkEntry {H : Type} : Lit × DataW H → Nat
  | (.string bytes, d) => bytes.length + uptoBulk d + 1
  | (_, d) => uptoBulk d + 1
 end
def uptoSmall : (H : Type) → List (DataW H) → Bool := fun _ ds => decide (uptoBulkAll ds ≤ 1048576)
def OpenSpec.upto (s : _root_.Go.ChangeSpec) : _root_.Go.OpenSpec := { _root_.Go.OpenSpec.ofChange s with cond := some uptoSmall }

/-- 'novaculitelaw01.SeamHills', WHERE WHAT IT READS IS OF BULK AT MOST 1048576: true; the input reads as it did. -/
def seamHillsUptoRow : OpenClaim := { program := "ytcalipoknbbaaaa", sum := "798ec2158674ecd9d5a9bf335f56d35149417e7b2d63425e6cf826e2c4507284", func := "novaculite/novaculitelaw01.SeamHills", spec := "seamHills", unfollowed := true, recurses := true, apart := false, narrowed := true }
def SeamHillsUptoSaid : Prop := seamHillsUptoRow.holds Try.pinned (OpenSpec.upto seamHillsSpec)

/-- 'novaculitelaw01.SeamClashes', WHERE WHAT IT READS IS OF BULK AT MOST 1048576: true; the input reads as it did. -/
def seamClashesUptoRow : OpenClaim := { program := "ytcalipoknbbaaaa", sum := "798ec2158674ecd9d5a9bf335f56d35149417e7b2d63425e6cf826e2c4507284", func := "novaculite/novaculitelaw01.SeamClashes", spec := "seamClashes", unfollowed := true, recurses := true, apart := false, narrowed := true }
def SeamClashesUptoSaid : Prop := seamClashesUptoRow.holds Try.pinned (OpenSpec.upto seamClashesSpec)

/-- 'novaculitelaw01.SeamNeeds', WHERE WHAT IT READS IS OF BULK AT MOST 1048576: true; the input reads as it did. -/
def seamNeedsUptoRow : OpenClaim := { program := "ytcalipoknbbaaaa", sum := "798ec2158674ecd9d5a9bf335f56d35149417e7b2d63425e6cf826e2c4507284", func := "novaculite/novaculitelaw01.SeamNeeds", spec := "seamNeeds", unfollowed := true, recurses := true, apart := false, narrowed := true }
def SeamNeedsUptoSaid : Prop := seamNeedsUptoRow.holds Try.pinned (OpenSpec.upto seamNeedsSpec)

/-- 'novaculitelaw01.SeamHulls', WHERE WHAT IT READS IS OF BULK AT MOST 1048576: true; the input reads as it did. -/
def seamHullsUptoRow : OpenClaim := { program := "ytcalipoknbbaaaa", sum := "798ec2158674ecd9d5a9bf335f56d35149417e7b2d63425e6cf826e2c4507284", func := "novaculite/novaculitelaw01.SeamHulls", spec := "seamHulls", unfollowed := true, recurses := true, apart := false, narrowed := true }
def SeamHullsUptoSaid : Prop := seamHullsUptoRow.holds Try.pinned (OpenSpec.upto seamHullsSpec)

/-- 'novaculitelaw01.SeamDepths', WHERE WHAT IT READS IS OF BULK AT MOST 1048576: true; the input reads as it did. -/
def seamDepthsUptoRow : OpenClaim := { program := "ytcalipoknbbaaaa", sum := "798ec2158674ecd9d5a9bf335f56d35149417e7b2d63425e6cf826e2c4507284", func := "novaculite/novaculitelaw01.SeamDepths", spec := "seamDepths", unfollowed := true, recurses := true, apart := false, narrowed := true }
def SeamDepthsUptoSaid : Prop := seamDepthsUptoRow.holds Try.pinned (OpenSpec.upto seamDepthsSpec)

/-- 'novaculitelaw01.SeamDoignon', WHERE WHAT IT READS IS OF BULK AT MOST 1048576: true; the input reads as it did. -/
def seamDoignonUptoRow : OpenClaim := { program := "ytcalipoknbbaaaa", sum := "798ec2158674ecd9d5a9bf335f56d35149417e7b2d63425e6cf826e2c4507284", func := "novaculite/novaculitelaw01.SeamDoignon", spec := "seamDoignon", unfollowed := true, recurses := true, apart := false, narrowed := true }
def SeamDoignonUptoSaid : Prop := seamDoignonUptoRow.holds Try.pinned (OpenSpec.upto seamDoignonSpec)

/-- 'novaculitelaw01.SeamWrong', WHERE WHAT IT READS IS OF BULK AT MOST 1048576: true; the input reads as it did. -/
def seamWrongUptoRow : OpenClaim := { program := "ytcalipoknbbaaaa", sum := "798ec2158674ecd9d5a9bf335f56d35149417e7b2d63425e6cf826e2c4507284", func := "novaculite/novaculitelaw01.SeamWrong", spec := "seamWrong", unfollowed := true, recurses := true, apart := false, narrowed := true }
def SeamWrongUptoSaid : Prop := seamWrongUptoRow.holds Try.pinned (OpenSpec.upto seamWrongSpec)

/-- 'novaculitelaw01.SeamMore', WHERE WHAT IT READS IS OF BULK AT MOST 1048576: true; the input reads as it did. -/
def seamMoreUptoRow : OpenClaim := { program := "ytcalipoknbbaaaa", sum := "798ec2158674ecd9d5a9bf335f56d35149417e7b2d63425e6cf826e2c4507284", func := "novaculite/novaculitelaw01.SeamMore", spec := "seamMore", unfollowed := true, recurses := true, apart := false, narrowed := true }
def SeamMoreUptoSaid : Prop := seamMoreUptoRow.holds Try.pinned (OpenSpec.upto seamMoreSpec)

/-- 'novaculitelaw01.SeamAsked', WHERE WHAT IT READS IS OF BULK AT MOST 1048576: true; the input reads as it did. -/
def seamAskedUptoRow : OpenClaim := { program := "ytcalipoknbbaaaa", sum := "798ec2158674ecd9d5a9bf335f56d35149417e7b2d63425e6cf826e2c4507284", func := "novaculite/novaculitelaw01.SeamAsked", spec := "seamAsked", unfollowed := true, recurses := true, apart := false, narrowed := true }
def SeamAskedUptoSaid : Prop := seamAskedUptoRow.holds Try.pinned (OpenSpec.upto seamAskedSpec)

/-- 'novaculitelaw01.SeamMirrored', WHERE WHAT IT READS IS OF BULK AT MOST 1048576: true; the input reads as it did. -/
def seamMirroredUptoRow : OpenClaim := { program := "ytcalipoknbbaaaa", sum := "798ec2158674ecd9d5a9bf335f56d35149417e7b2d63425e6cf826e2c4507284", func := "novaculite/novaculitelaw01.SeamMirrored", spec := "seamMirrored", unfollowed := true, recurses := true, apart := false, narrowed := true }
def SeamMirroredUptoSaid : Prop := seamMirroredUptoRow.holds Try.pinned (OpenSpec.upto seamMirroredSpec)

/-- 'novaculitelaw01.SeamEither', WHERE WHAT IT READS IS OF BULK AT MOST 1048576: true; the input reads as it did. -/
def seamEitherUptoRow : OpenClaim := { program := "ytcalipoknbbaaaa", sum := "798ec2158674ecd9d5a9bf335f56d35149417e7b2d63425e6cf826e2c4507284", func := "novaculite/novaculitelaw01.SeamEither", spec := "seamEither", unfollowed := true, recurses := true, apart := false, narrowed := true }
def SeamEitherUptoSaid : Prop := seamEitherUptoRow.holds Try.pinned (OpenSpec.upto seamEitherSpec)

/-- 'novaculitelaw01.SeamCorners', WHERE WHAT IT READS IS OF BULK AT MOST 1048576: true; the input reads as it did. -/
def seamCornersUptoRow : OpenClaim := { program := "ytcalipoknbbaaaa", sum := "798ec2158674ecd9d5a9bf335f56d35149417e7b2d63425e6cf826e2c4507284", func := "novaculite/novaculitelaw01.SeamCorners", spec := "seamCorners", unfollowed := true, recurses := true, apart := false, narrowed := true }
def SeamCornersUptoSaid : Prop := seamCornersUptoRow.holds Try.pinned (OpenSpec.upto seamCornersSpec)

/-- 'novaculitelaw01.SeamRadon', WHERE WHAT IT READS IS OF BULK AT MOST 1048576: true; the input reads as it did. -/
def seamRadonUptoRow : OpenClaim := { program := "ytcalipoknbbaaaa", sum := "798ec2158674ecd9d5a9bf335f56d35149417e7b2d63425e6cf826e2c4507284", func := "novaculite/novaculitelaw01.SeamRadon", spec := "seamRadon", unfollowed := true, recurses := true, apart := false, narrowed := true }
def SeamRadonUptoSaid : Prop := seamRadonUptoRow.holds Try.pinned (OpenSpec.upto seamRadonSpec)

/-- 'novaculitelaw01.SeamMiddle', WHERE WHAT IT READS IS OF BULK AT MOST 1048576: true; the input reads as it did. -/
def seamMiddleUptoRow : OpenClaim := { program := "ytcalipoknbbaaaa", sum := "798ec2158674ecd9d5a9bf335f56d35149417e7b2d63425e6cf826e2c4507284", func := "novaculite/novaculitelaw01.SeamMiddle", spec := "seamMiddle", unfollowed := true, recurses := true, apart := false, narrowed := true }
def SeamMiddleUptoSaid : Prop := seamMiddleUptoRow.holds Try.pinned (OpenSpec.upto seamMiddleSpec)

/-- 'novaculitelaw01.SeamShown', WHERE WHAT IT READS IS OF BULK AT MOST 1048576: true; the input reads as it did. -/
def seamShownUptoRow : OpenClaim := { program := "ytcalipoknbbaaaa", sum := "798ec2158674ecd9d5a9bf335f56d35149417e7b2d63425e6cf826e2c4507284", func := "novaculite/novaculitelaw01.SeamShown", spec := "seamShown", unfollowed := true, recurses := true, apart := false, narrowed := true }
def SeamShownUptoSaid : Prop := seamShownUptoRow.holds Try.pinned (OpenSpec.upto seamShownSpec)

/-- 'novaculitelaw01.SeamKnown', WHERE WHAT IT READS IS OF BULK AT MOST 1048576: true; the input reads as it did. -/
def seamKnownUptoRow : OpenClaim := { program := "ytcalipoknbbaaaa", sum := "798ec2158674ecd9d5a9bf335f56d35149417e7b2d63425e6cf826e2c4507284", func := "novaculite/novaculitelaw01.SeamKnown", spec := "seamKnown", unfollowed := true, recurses := true, apart := false, narrowed := true }
def SeamKnownUptoSaid : Prop := seamKnownUptoRow.holds Try.pinned (OpenSpec.upto seamKnownSpec)

end Rows
end Go.Proofs.Ytcalipoknbbaaaa
