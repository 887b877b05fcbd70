/-
  No cell of these rows narrows 'for every input' (looked for: loops, veiled, ifaces, maps, wideKeys, modest, calm, conditions, laid).
  DERIVED. THE GIVEN ROWS OF THIS SEAT. 13 by the template 'for every input the law returns true; each argument reads behind the call as it read before'; 0 by the template 'total and deterministic' (their statements: YtpefamheopplnaaTotals.lean).
  GIVEN WITH THE SEED: the statements are not yours to turn. If you find one false, say at which input.
  Laid BY PROGRAM, IN A SANDBOX (cutbox-rows.mjs): the forced cells as the released guide's own fill.sh prints them over the translation 7227f0a2995a657a… (all of the seat's roots in one cut). By AI agents, Wed Nov 11 2026. No macro, syntax, notation, axiom, sorry.
-/
import Derived.Test.YtpefamheopplnaaChecked
import GoSem.Claim
import GoSem.ClaimJoined
import GoSem.ClaimMapViews
import Derived.JoinedTies
import Derived.KernelRfl
namespace Go.Proofs.Ytpefamheopplnaa
/- THE CELL 'sum', in the pinned program and in every row, IS THE sha256 OF THE DUMP (.gsa) THAT YtpefamheopplnaaProg.lean LOADS. Nothing in Lean hashes anything: it is a label: what it is worth is what the hold of that sum in a sandbox is worth. -/
noncomputable def Try.pinned : Pinned := { name := "ytpefamheopplnaa", sum := "7227f0a2995a657a40b05ebc5c79ab5235c8719bbe86cc315f97c9fca030fb0f", checked := Try.checked }
namespace Rows
def none {H : Type} : Left H := { results := [], args := [] }

/-- 'watercresslaw05.BunchBounds': WHATEVER THE INPUT: true; the input reads as it did. -/
def bunchBoundsSpec : ChangeSpec := { name := "bunchBounds", fn := fun _ => fun
  | [d] => { results := [.lit (.bool true)], args := [d] }
  | _ => none }
def bunchBoundsRow : OpenClaim := { program := "ytpefamheopplnaa", sum := "7227f0a2995a657a40b05ebc5c79ab5235c8719bbe86cc315f97c9fca030fb0f", func := "watercress/watercresslaw05.BunchBounds", spec := "bunchBounds", unfollowed := true, recurses := true, plainKeys := false, apart := false }
def BunchBoundsSaid : Prop := bunchBoundsRow.holds Try.pinned (OpenSpec.ofChange bunchBoundsSpec)

/-- ITS FALSE NEIGHBOUR: 'it returns false'. Refute it at one input. -/
def bunchBoundsWrong : ChangeSpec := { name := "bunchBounds", fn := fun _ => fun
  | [d] => { results := [.lit (.bool false)], args := [d] }
  | _ => none }
def BunchBoundsWrongFalsely : Prop := bunchBoundsRow.holds Try.pinned (OpenSpec.ofChange bunchBoundsWrong)

/-- 'watercresslaw05.BunchFeels': WHATEVER THE INPUT: true; the input reads as it did. -/
def bunchFeelsSpec : ChangeSpec := { name := "bunchFeels", fn := fun _ => fun
  | [d1, d2, d3] => { results := [.lit (.bool true)], args := [d1, d2, d3] }
  | _ => none }
def bunchFeelsRow : OpenClaim := { program := "ytpefamheopplnaa", sum := "7227f0a2995a657a40b05ebc5c79ab5235c8719bbe86cc315f97c9fca030fb0f", func := "watercress/watercresslaw05.BunchFeels", spec := "bunchFeels", unfollowed := true, recurses := true, plainKeys := false, apart := false }
def BunchFeelsSaid : Prop := bunchFeelsRow.holds Try.pinned (OpenSpec.ofChange bunchFeelsSpec)

/-- ITS FALSE NEIGHBOUR: 'it returns false'. Refute it at one input. -/
def bunchFeelsWrong : ChangeSpec := { name := "bunchFeels", fn := fun _ => fun
  | [d1, d2, d3] => { results := [.lit (.bool false)], args := [d1, d2, d3] }
  | _ => none }
def BunchFeelsWrongFalsely : Prop := bunchFeelsRow.holds Try.pinned (OpenSpec.ofChange bunchFeelsWrong)

/-- 'watercresslaw05.BunchFewest': WHATEVER THE INPUT: true; the input reads as it did. -/
def bunchFewestSpec : ChangeSpec := { name := "bunchFewest", fn := fun _ => fun
  | [d] => { results := [.lit (.bool true)], args := [d] }
  | _ => none }
def bunchFewestRow : OpenClaim := { program := "ytpefamheopplnaa", sum := "7227f0a2995a657a40b05ebc5c79ab5235c8719bbe86cc315f97c9fca030fb0f", func := "watercress/watercresslaw05.BunchFewest", spec := "bunchFewest", unfollowed := true, recurses := true, plainKeys := false, apart := false }
def BunchFewestSaid : Prop := bunchFewestRow.holds Try.pinned (OpenSpec.ofChange bunchFewestSpec)

/-- ITS FALSE NEIGHBOUR: 'it returns false'. Refute it at one input. -/
def bunchFewestWrong : ChangeSpec := { name := "bunchFewest", fn := fun _ => fun
  | [d] => { results := [.lit (.bool false)], args := [d] }
  | _ => none }
def BunchFewestWrongFalsely : Prop := bunchFewestRow.holds Try.pinned (OpenSpec.ofChange bunchFewestWrong)

/-- 'watercresslaw05.BunchLeaves': WHATEVER THE INPUT: true; the input reads as it did. -/
def bunchLeavesSpec : ChangeSpec := { name := "bunchLeaves", fn := fun _ => fun
  | [d] => { results := [.lit (.bool true)], args := [d] }
  | _ => none }
def bunchLeavesRow : OpenClaim := { program := "ytpefamheopplnaa", sum := "7227f0a2995a657a40b05ebc5c79ab5235c8719bbe86cc315f97c9fca030fb0f", func := "watercress/watercresslaw05.BunchLeaves", spec := "bunchLeaves", unfollowed := true, recurses := true, plainKeys := false, apart := false }
def BunchLeavesSaid : Prop := bunchLeavesRow.holds Try.pinned (OpenSpec.ofChange bunchLeavesSpec)

/-- ITS FALSE NEIGHBOUR: 'it returns false'. Refute it at one input. -/
def bunchLeavesWrong : ChangeSpec := { name := "bunchLeaves", fn := fun _ => fun
  | [d] => { results := [.lit (.bool false)], args := [d] }
  | _ => none }
def BunchLeavesWrongFalsely : Prop := bunchLeavesRow.holds Try.pinned (OpenSpec.ofChange bunchLeavesWrong)

/-- 'watercresslaw05.BunchNames': WHATEVER THE INPUT: true; the input reads as it did. -/
def bunchNamesSpec : ChangeSpec := { name := "bunchNames", fn := fun _ => fun
  | [] => { results := [.lit (.bool true)], args := [] }
  | _ => none }
def bunchNamesRow : OpenClaim := { program := "ytpefamheopplnaa", sum := "7227f0a2995a657a40b05ebc5c79ab5235c8719bbe86cc315f97c9fca030fb0f", func := "watercress/watercresslaw05.BunchNames", spec := "bunchNames", unfollowed := true, recurses := true, plainKeys := false, apart := false }
def BunchNamesSaid : Prop := bunchNamesRow.holds Try.pinned (OpenSpec.ofChange bunchNamesSpec)

/-- ITS FALSE NEIGHBOUR: 'it returns false'. Refute it at one input. -/
def bunchNamesWrong : ChangeSpec := { name := "bunchNames", fn := fun _ => fun
  | [] => { results := [.lit (.bool false)], args := [] }
  | _ => none }
def BunchNamesWrongFalsely : Prop := bunchNamesRow.holds Try.pinned (OpenSpec.ofChange bunchNamesWrong)

/-- 'watercresslaw05.BunchTruth': WHATEVER THE INPUT: true; the input reads as it did. -/
def bunchTruthSpec : ChangeSpec := { name := "bunchTruth", fn := fun _ => fun
  | [d1, d2, d3] => { results := [.lit (.bool true)], args := [d1, d2, d3] }
  | _ => none }
def bunchTruthRow : OpenClaim := { program := "ytpefamheopplnaa", sum := "7227f0a2995a657a40b05ebc5c79ab5235c8719bbe86cc315f97c9fca030fb0f", func := "watercress/watercresslaw05.BunchTruth", spec := "bunchTruth", unfollowed := true, recurses := true, plainKeys := false, apart := false }
def BunchTruthSaid : Prop := bunchTruthRow.holds Try.pinned (OpenSpec.ofChange bunchTruthSpec)

/-- ITS FALSE NEIGHBOUR: 'it returns false'. Refute it at one input. -/
def bunchTruthWrong : ChangeSpec := { name := "bunchTruth", fn := fun _ => fun
  | [d1, d2, d3] => { results := [.lit (.bool false)], args := [d1, d2, d3] }
  | _ => none }
def BunchTruthWrongFalsely : Prop := bunchTruthRow.holds Try.pinned (OpenSpec.ofChange bunchTruthWrong)

/-- 'watercresslaw05.BunchEnds': WHATEVER THE INPUT: true; the input reads as it did. -/
def bunchEndsSpec : ChangeSpec := { name := "bunchEnds", fn := fun _ => fun
  | [d1, d2, d3] => { results := [.lit (.bool true)], args := [d1, d2, d3] }
  | _ => none }
def bunchEndsRow : OpenClaim := { program := "ytpefamheopplnaa", sum := "7227f0a2995a657a40b05ebc5c79ab5235c8719bbe86cc315f97c9fca030fb0f", func := "watercress/watercresslaw05.BunchEnds", spec := "bunchEnds", unfollowed := true, recurses := true, plainKeys := false, apart := false }
def BunchEndsSaid : Prop := bunchEndsRow.holds Try.pinned (OpenSpec.ofChange bunchEndsSpec)

/-- ITS FALSE NEIGHBOUR: 'it returns false'. Refute it at one input. -/
def bunchEndsWrong : ChangeSpec := { name := "bunchEnds", fn := fun _ => fun
  | [d1, d2, d3] => { results := [.lit (.bool false)], args := [d1, d2, d3] }
  | _ => none }
def BunchEndsWrongFalsely : Prop := bunchEndsRow.holds Try.pinned (OpenSpec.ofChange bunchEndsWrong)

/-- 'watercresslaw05.BunchMore': WHATEVER THE INPUT: true; the input reads as it did. -/
def bunchMoreSpec : ChangeSpec := { name := "bunchMore", fn := fun _ => fun
  | [d1, d2, d3, d4] => { results := [.lit (.bool true)], args := [d1, d2, d3, d4] }
  | _ => none }
def bunchMoreRow : OpenClaim := { program := "ytpefamheopplnaa", sum := "7227f0a2995a657a40b05ebc5c79ab5235c8719bbe86cc315f97c9fca030fb0f", func := "watercress/watercresslaw05.BunchMore", spec := "bunchMore", unfollowed := true, recurses := true, plainKeys := false, apart := false }
def BunchMoreSaid : Prop := bunchMoreRow.holds Try.pinned (OpenSpec.ofChange bunchMoreSpec)

/-- ITS FALSE NEIGHBOUR: 'it returns false'. Refute it at one input. -/
def bunchMoreWrong : ChangeSpec := { name := "bunchMore", fn := fun _ => fun
  | [d1, d2, d3, d4] => { results := [.lit (.bool false)], args := [d1, d2, d3, d4] }
  | _ => none }
def BunchMoreWrongFalsely : Prop := bunchMoreRow.holds Try.pinned (OpenSpec.ofChange bunchMoreWrong)

/-- 'watercresslaw05.BunchWider': WHATEVER THE INPUT: true; the input reads as it did. -/
def bunchWiderSpec : ChangeSpec := { name := "bunchWider", fn := fun _ => fun
  | [d1, d2, d3] => { results := [.lit (.bool true)], args := [d1, d2, d3] }
  | _ => none }
def bunchWiderRow : OpenClaim := { program := "ytpefamheopplnaa", sum := "7227f0a2995a657a40b05ebc5c79ab5235c8719bbe86cc315f97c9fca030fb0f", func := "watercress/watercresslaw05.BunchWider", spec := "bunchWider", unfollowed := true, recurses := true, plainKeys := false, apart := false }
def BunchWiderSaid : Prop := bunchWiderRow.holds Try.pinned (OpenSpec.ofChange bunchWiderSpec)

/-- ITS FALSE NEIGHBOUR: 'it returns false'. Refute it at one input. -/
def bunchWiderWrong : ChangeSpec := { name := "bunchWider", fn := fun _ => fun
  | [d1, d2, d3] => { results := [.lit (.bool false)], args := [d1, d2, d3] }
  | _ => none }
def BunchWiderWrongFalsely : Prop := bunchWiderRow.holds Try.pinned (OpenSpec.ofChange bunchWiderWrong)

/-- 'watercresslaw05.BunchSettled': WHATEVER THE INPUT: true; the input reads as it did. -/
def bunchSettledSpec : ChangeSpec := { name := "bunchSettled", fn := fun _ => fun
  | [d1, d2, d3] => { results := [.lit (.bool true)], args := [d1, d2, d3] }
  | _ => none }
def bunchSettledRow : OpenClaim := { program := "ytpefamheopplnaa", sum := "7227f0a2995a657a40b05ebc5c79ab5235c8719bbe86cc315f97c9fca030fb0f", func := "watercress/watercresslaw05.BunchSettled", spec := "bunchSettled", unfollowed := true, recurses := true, plainKeys := false, apart := false }
def BunchSettledSaid : Prop := bunchSettledRow.holds Try.pinned (OpenSpec.ofChange bunchSettledSpec)

/-- ITS FALSE NEIGHBOUR: 'it returns false'. Refute it at one input. -/
def bunchSettledWrong : ChangeSpec := { name := "bunchSettled", fn := fun _ => fun
  | [d1, d2, d3] => { results := [.lit (.bool false)], args := [d1, d2, d3] }
  | _ => none }
def BunchSettledWrongFalsely : Prop := bunchSettledRow.holds Try.pinned (OpenSpec.ofChange bunchSettledWrong)

/-- 'watercresslaw05.BunchFirst': WHATEVER THE INPUT: true; the input reads as it did. -/
def bunchFirstSpec : ChangeSpec := { name := "bunchFirst", fn := fun _ => fun
  | [d] => { results := [.lit (.bool true)], args := [d] }
  | _ => none }
def bunchFirstRow : OpenClaim := { program := "ytpefamheopplnaa", sum := "7227f0a2995a657a40b05ebc5c79ab5235c8719bbe86cc315f97c9fca030fb0f", func := "watercress/watercresslaw05.BunchFirst", spec := "bunchFirst", unfollowed := true, recurses := true, plainKeys := false, apart := false }
def BunchFirstSaid : Prop := bunchFirstRow.holds Try.pinned (OpenSpec.ofChange bunchFirstSpec)

/-- ITS FALSE NEIGHBOUR: 'it returns false'. Refute it at one input. -/
def bunchFirstWrong : ChangeSpec := { name := "bunchFirst", fn := fun _ => fun
  | [d] => { results := [.lit (.bool false)], args := [d] }
  | _ => none }
def BunchFirstWrongFalsely : Prop := bunchFirstRow.holds Try.pinned (OpenSpec.ofChange bunchFirstWrong)

/-- 'watercresslaw05.BunchLeft': WHATEVER THE INPUT: true; the input reads as it did. -/
def bunchLeftSpec : ChangeSpec := { name := "bunchLeft", fn := fun _ => fun
  | [d1, d2] => { results := [.lit (.bool true)], args := [d1, d2] }
  | _ => none }
def bunchLeftRow : OpenClaim := { program := "ytpefamheopplnaa", sum := "7227f0a2995a657a40b05ebc5c79ab5235c8719bbe86cc315f97c9fca030fb0f", func := "watercress/watercresslaw05.BunchLeft", spec := "bunchLeft", unfollowed := true, recurses := true, plainKeys := false, apart := false }
def BunchLeftSaid : Prop := bunchLeftRow.holds Try.pinned (OpenSpec.ofChange bunchLeftSpec)

/-- ITS FALSE NEIGHBOUR: 'it returns false'. Refute it at one input. -/
def bunchLeftWrong : ChangeSpec := { name := "bunchLeft", fn := fun _ => fun
  | [d1, d2] => { results := [.lit (.bool false)], args := [d1, d2] }
  | _ => none }
def BunchLeftWrongFalsely : Prop := bunchLeftRow.holds Try.pinned (OpenSpec.ofChange bunchLeftWrong)

/-- 'watercresslaw05.BunchNumber': WHATEVER THE INPUT: true; the input reads as it did. -/
def bunchNumberSpec : ChangeSpec := { name := "bunchNumber", fn := fun _ => fun
  | [d1, d2, d3, d4] => { results := [.lit (.bool true)], args := [d1, d2, d3, d4] }
  | _ => none }
def bunchNumberRow : OpenClaim := { program := "ytpefamheopplnaa", sum := "7227f0a2995a657a40b05ebc5c79ab5235c8719bbe86cc315f97c9fca030fb0f", func := "watercress/watercresslaw05.BunchNumber", spec := "bunchNumber", unfollowed := true, recurses := true, plainKeys := false, apart := false }
def BunchNumberSaid : Prop := bunchNumberRow.holds Try.pinned (OpenSpec.ofChange bunchNumberSpec)

/-- ITS FALSE NEIGHBOUR: 'it returns false'. Refute it at one input. -/
def bunchNumberWrong : ChangeSpec := { name := "bunchNumber", fn := fun _ => fun
  | [d1, d2, d3, d4] => { results := [.lit (.bool false)], args := [d1, d2, d3, d4] }
  | _ => none }
def BunchNumberWrongFalsely : Prop := bunchNumberRow.holds Try.pinned (OpenSpec.ofChange bunchNumberWrong)

/- THE SECOND FORM. 'bulk': how many values and letters a reading holds, each counted each time it is reached (what is shared counts as often as it is met; a slice's spare places count too). A statement '..UptoSaid' is the law's where the arguments, and the package variables that the reading takes, are together of bulk at most 1048576: NARROWER than '..Said'. Prove '..Said' where nothing that the law and all that it calls make is longer than what came in: it says more and counts as full. Else prove '..UptoSaid'. A law counts once. -/
mutual
def uptoBulk {H : Type} : DataW H → Nat
  | .lit (.string bytes) => bytes.length + 1
  | .lit _ => 1
  | .nil => 1
  | .ptr d => uptoBulk d + 1
  | .slice elems spare => uptoBulkAll elems + uptoBulkAll spare + 1
  | .agg parts => uptoBulkAll parts + 1
  | .iface _ d => uptoBulk d + 1
  | .map entries => uptoBulkEntries entries + 1
  | .held _ => 1
def uptoBulkAll {H : Type} : List (DataW H) → Nat
  | [] => 0
  | d :: r => uptoBulk d + uptoBulkAll r
def uptoBulkEntries {H : Type} : List (Lit × DataW H) → Nat
  | [] => 0
  | x :: r => uptoBulkEntry x + uptoBulkEntries r
def uptoBulkEntry {H : Type} : Lit × DataW H → Nat
  | (.string bytes, d) => bytes.length + uptoBulk d + 1
  | (_, d) => uptoBulk d + 1
 end
def uptoSmall : (H : Type) → List (DataW H) → Bool := fun _ ds => decide (uptoBulkAll ds ≤ 1048576)
def OpenSpec.upto (s : _root_.Go.ChangeSpec) : _root_.Go.OpenSpec := { _root_.Go.OpenSpec.ofChange s with cond := some uptoSmall }

/-- 'watercresslaw05.BunchBounds', WHERE WHAT IT READS IS OF BULK AT MOST 1048576: true; the input reads as it did. -/
def bunchBoundsUptoRow : OpenClaim := { program := "ytpefamheopplnaa", sum := "7227f0a2995a657a40b05ebc5c79ab5235c8719bbe86cc315f97c9fca030fb0f", func := "watercress/watercresslaw05.BunchBounds", spec := "bunchBounds", unfollowed := true, recurses := true, plainKeys := false, apart := false, narrowed := true }
def BunchBoundsUptoSaid : Prop := bunchBoundsUptoRow.holds Try.pinned (OpenSpec.upto bunchBoundsSpec)

/-- 'watercresslaw05.BunchFeels', WHERE WHAT IT READS IS OF BULK AT MOST 1048576: true; the input reads as it did. -/
def bunchFeelsUptoRow : OpenClaim := { program := "ytpefamheopplnaa", sum := "7227f0a2995a657a40b05ebc5c79ab5235c8719bbe86cc315f97c9fca030fb0f", func := "watercress/watercresslaw05.BunchFeels", spec := "bunchFeels", unfollowed := true, recurses := true, plainKeys := false, apart := false, narrowed := true }
def BunchFeelsUptoSaid : Prop := bunchFeelsUptoRow.holds Try.pinned (OpenSpec.upto bunchFeelsSpec)

/-- 'watercresslaw05.BunchFewest', WHERE WHAT IT READS IS OF BULK AT MOST 1048576: true; the input reads as it did. -/
def bunchFewestUptoRow : OpenClaim := { program := "ytpefamheopplnaa", sum := "7227f0a2995a657a40b05ebc5c79ab5235c8719bbe86cc315f97c9fca030fb0f", func := "watercress/watercresslaw05.BunchFewest", spec := "bunchFewest", unfollowed := true, recurses := true, plainKeys := false, apart := false, narrowed := true }
def BunchFewestUptoSaid : Prop := bunchFewestUptoRow.holds Try.pinned (OpenSpec.upto bunchFewestSpec)

/-- 'watercresslaw05.BunchLeaves', WHERE WHAT IT READS IS OF BULK AT MOST 1048576: true; the input reads as it did. -/
def bunchLeavesUptoRow : OpenClaim := { program := "ytpefamheopplnaa", sum := "7227f0a2995a657a40b05ebc5c79ab5235c8719bbe86cc315f97c9fca030fb0f", func := "watercress/watercresslaw05.BunchLeaves", spec := "bunchLeaves", unfollowed := true, recurses := true, plainKeys := false, apart := false, narrowed := true }
def BunchLeavesUptoSaid : Prop := bunchLeavesUptoRow.holds Try.pinned (OpenSpec.upto bunchLeavesSpec)

/-- 'watercresslaw05.BunchNames', WHERE WHAT IT READS IS OF BULK AT MOST 1048576: true; the input reads as it did. -/
def bunchNamesUptoRow : OpenClaim := { program := "ytpefamheopplnaa", sum := "7227f0a2995a657a40b05ebc5c79ab5235c8719bbe86cc315f97c9fca030fb0f", func := "watercress/watercresslaw05.BunchNames", spec := "bunchNames", unfollowed := true, recurses := true, plainKeys := false, apart := false, narrowed := true }
def BunchNamesUptoSaid : Prop := bunchNamesUptoRow.holds Try.pinned (OpenSpec.upto bunchNamesSpec)

/-- 'watercresslaw05.BunchTruth', WHERE WHAT IT READS IS OF BULK AT MOST 1048576: true; the input reads as it did. -/
def bunchTruthUptoRow : OpenClaim := { program := "ytpefamheopplnaa", sum := "7227f0a2995a657a40b05ebc5c79ab5235c8719bbe86cc315f97c9fca030fb0f", func := "watercress/watercresslaw05.BunchTruth", spec := "bunchTruth", unfollowed := true, recurses := true, plainKeys := false, apart := false, narrowed := true }
def BunchTruthUptoSaid : Prop := bunchTruthUptoRow.holds Try.pinned (OpenSpec.upto bunchTruthSpec)

/-- 'watercresslaw05.BunchEnds', WHERE WHAT IT READS IS OF BULK AT MOST 1048576: true; the input reads as it did. -/
def bunchEndsUptoRow : OpenClaim := { program := "ytpefamheopplnaa", sum := "7227f0a2995a657a40b05ebc5c79ab5235c8719bbe86cc315f97c9fca030fb0f", func := "watercress/watercresslaw05.BunchEnds", spec := "bunchEnds", unfollowed := true, recurses := true, plainKeys := false, apart := false, narrowed := true }
def BunchEndsUptoSaid : Prop := bunchEndsUptoRow.holds Try.pinned (OpenSpec.upto bunchEndsSpec)

/-- 'watercresslaw05.BunchMore', WHERE WHAT IT READS IS OF BULK AT MOST 1048576: true; the input reads as it did. -/
def bunchMoreUptoRow : OpenClaim := { program := "ytpefamheopplnaa", sum := "7227f0a2995a657a40b05ebc5c79ab5235c8719bbe86cc315f97c9fca030fb0f", func := "watercress/watercresslaw05.BunchMore", spec := "bunchMore", unfollowed := true, recurses := true, plainKeys := false, apart := false, narrowed := true }
def BunchMoreUptoSaid : Prop := bunchMoreUptoRow.holds Try.pinned (OpenSpec.upto bunchMoreSpec)

/-- 'watercresslaw05.BunchWider', WHERE WHAT IT READS IS OF BULK AT MOST 1048576: true; the input reads as it did. -/
def bunchWiderUptoRow : OpenClaim := { program := "ytpefamheopplnaa", sum := "7227f0a2995a657a40b05ebc5c79ab5235c8719bbe86cc315f97c9fca030fb0f", func := "watercress/watercresslaw05.BunchWider", spec := "bunchWider", unfollowed := true, recurses := true, plainKeys := false, apart := false, narrowed := true }
def BunchWiderUptoSaid : Prop := bunchWiderUptoRow.holds Try.pinned (OpenSpec.upto bunchWiderSpec)

/-- 'watercresslaw05.BunchSettled', WHERE WHAT IT READS IS OF BULK AT MOST 1048576: true; the input reads as it did. -/
def bunchSettledUptoRow : OpenClaim := { program := "ytpefamheopplnaa", sum := "7227f0a2995a657a40b05ebc5c79ab5235c8719bbe86cc315f97c9fca030fb0f", func := "watercress/watercresslaw05.BunchSettled", spec := "bunchSettled", unfollowed := true, recurses := true, plainKeys := false, apart := false, narrowed := true }
def BunchSettledUptoSaid : Prop := bunchSettledUptoRow.holds Try.pinned (OpenSpec.upto bunchSettledSpec)

/-- 'watercresslaw05.BunchFirst', WHERE WHAT IT READS IS OF BULK AT MOST 1048576: true; the input reads as it did. -/
def bunchFirstUptoRow : OpenClaim := { program := "ytpefamheopplnaa", sum := "7227f0a2995a657a40b05ebc5c79ab5235c8719bbe86cc315f97c9fca030fb0f", func := "watercress/watercresslaw05.BunchFirst", spec := "bunchFirst", unfollowed := true, recurses := true, plainKeys := false, apart := false, narrowed := true }
def BunchFirstUptoSaid : Prop := bunchFirstUptoRow.holds Try.pinned (OpenSpec.upto bunchFirstSpec)

/-- 'watercresslaw05.BunchLeft', WHERE WHAT IT READS IS OF BULK AT MOST 1048576: true; the input reads as it did. -/
def bunchLeftUptoRow : OpenClaim := { program := "ytpefamheopplnaa", sum := "7227f0a2995a657a40b05ebc5c79ab5235c8719bbe86cc315f97c9fca030fb0f", func := "watercress/watercresslaw05.BunchLeft", spec := "bunchLeft", unfollowed := true, recurses := true, plainKeys := false, apart := false, narrowed := true }
def BunchLeftUptoSaid : Prop := bunchLeftUptoRow.holds Try.pinned (OpenSpec.upto bunchLeftSpec)

/-- 'watercresslaw05.BunchNumber', WHERE WHAT IT READS IS OF BULK AT MOST 1048576: true; the input reads as it did. -/
def bunchNumberUptoRow : OpenClaim := { program := "ytpefamheopplnaa", sum := "7227f0a2995a657a40b05ebc5c79ab5235c8719bbe86cc315f97c9fca030fb0f", func := "watercress/watercresslaw05.BunchNumber", spec := "bunchNumber", unfollowed := true, recurses := true, plainKeys := false, apart := false, narrowed := true }
def BunchNumberUptoSaid : Prop := bunchNumberUptoRow.holds Try.pinned (OpenSpec.upto bunchNumberSpec)

end Rows
end Go.Proofs.Ytpefamheopplnaa
