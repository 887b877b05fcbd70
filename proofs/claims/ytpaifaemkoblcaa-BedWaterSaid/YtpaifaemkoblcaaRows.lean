/-
  No cell of these rows narrows 'for every input' (looked for: loops, veiled, ifaces, maps, wideKeys, modest, calm, conditions, laid).
  DERIVED. THE GIVEN ROWS OF THIS SEAT. 15 by the template 'for every input the law returns true; each argument reads behind the call as it read before'; 0 by the template 'total and deterministic' (their statements: YtpaifaemkoblcaaTotals.lean).
  GIVEN WITH THE SEED: the statements are not yours to turn. If you find one false, say at which input.
  Laid BY PROGRAM, IN A SANDBOX (cutbox-rows.mjs): the forced cells as the released guide's own fill.sh prints them over the translation 1902bf1feff6c2fc… (all of the seat's roots in one cut). By AI agents, Wed Nov 11 2026. No macro, syntax, notation, axiom, sorry.
-/
import Derived.Test.YtpaifaemkoblcaaChecked
import GoSem.Claim
import GoSem.ClaimJoined
import GoSem.ClaimMapViews
import Derived.JoinedTies
import Derived.KernelRfl
namespace Go.Proofs.Ytpaifaemkoblcaa
/- THE CELL 'sum', in the pinned program and in every row, IS THE sha256 OF THE DUMP (.gsa) THAT YtpaifaemkoblcaaProg.lean LOADS. Nothing in Lean hashes anything: it is a label: what it is worth is what the hold of that sum in a sandbox is worth. -/
noncomputable def Try.pinned : Pinned := { name := "ytpaifaemkoblcaa", sum := "1902bf1feff6c2fce0836f342f7fa93928bfdfbde3f30508691edd9c6141a27b", checked := Try.checked }
namespace Rows
def none {H : Type} : Left H := { results := [], args := [] }

/-- 'watercresslaw01.BedPlays': WHATEVER THE INPUT: true; the input reads as it did. -/
def bedPlaysSpec : ChangeSpec := { name := "bedPlays", fn := fun _ => fun
  | [d1, d2] => { results := [.lit (.bool true)], args := [d1, d2] }
  | _ => none }
def bedPlaysRow : OpenClaim := { program := "ytpaifaemkoblcaa", sum := "1902bf1feff6c2fce0836f342f7fa93928bfdfbde3f30508691edd9c6141a27b", func := "watercress/watercresslaw01.BedPlays", spec := "bedPlays", unfollowed := true, recurses := true, plainKeys := false, apart := false }
def BedPlaysSaid : Prop := bedPlaysRow.holds Try.pinned (OpenSpec.ofChange bedPlaysSpec)

/-- ITS FALSE NEIGHBOUR: 'it returns false'. Refute it at one input. -/
def bedPlaysWrong : ChangeSpec := { name := "bedPlays", fn := fun _ => fun
  | [d1, d2] => { results := [.lit (.bool false)], args := [d1, d2] }
  | _ => none }
def BedPlaysWrongFalsely : Prop := bedPlaysRow.holds Try.pinned (OpenSpec.ofChange bedPlaysWrong)

/-- 'watercresslaw01.BedBounds': WHATEVER THE INPUT: true; the input reads as it did. -/
def bedBoundsSpec : ChangeSpec := { name := "bedBounds", fn := fun _ => fun
  | [d1, d2] => { results := [.lit (.bool true)], args := [d1, d2] }
  | _ => none }
def bedBoundsRow : OpenClaim := { program := "ytpaifaemkoblcaa", sum := "1902bf1feff6c2fce0836f342f7fa93928bfdfbde3f30508691edd9c6141a27b", func := "watercress/watercresslaw01.BedBounds", spec := "bedBounds", unfollowed := true, recurses := true, plainKeys := false, apart := false }
def BedBoundsSaid : Prop := bedBoundsRow.holds Try.pinned (OpenSpec.ofChange bedBoundsSpec)

/-- ITS FALSE NEIGHBOUR: 'it returns false'. Refute it at one input. -/
def bedBoundsWrong : ChangeSpec := { name := "bedBounds", fn := fun _ => fun
  | [d1, d2] => { results := [.lit (.bool false)], args := [d1, d2] }
  | _ => none }
def BedBoundsWrongFalsely : Prop := bedBoundsRow.holds Try.pinned (OpenSpec.ofChange bedBoundsWrong)

/-- 'watercresslaw01.BedProves': WHATEVER THE INPUT: true; the input reads as it did. -/
def bedProvesSpec : ChangeSpec := { name := "bedProves", fn := fun _ => fun
  | [d1, d2, d3] => { results := [.lit (.bool true)], args := [d1, d2, d3] }
  | _ => none }
def bedProvesRow : OpenClaim := { program := "ytpaifaemkoblcaa", sum := "1902bf1feff6c2fce0836f342f7fa93928bfdfbde3f30508691edd9c6141a27b", func := "watercress/watercresslaw01.BedProves", spec := "bedProves", unfollowed := true, recurses := true, plainKeys := false, apart := false }
def BedProvesSaid : Prop := bedProvesRow.holds Try.pinned (OpenSpec.ofChange bedProvesSpec)

/-- ITS FALSE NEIGHBOUR: 'it returns false'. Refute it at one input. -/
def bedProvesWrong : ChangeSpec := { name := "bedProves", fn := fun _ => fun
  | [d1, d2, d3] => { results := [.lit (.bool false)], args := [d1, d2, d3] }
  | _ => none }
def BedProvesWrongFalsely : Prop := bedProvesRow.holds Try.pinned (OpenSpec.ofChange bedProvesWrong)

/-- 'watercresslaw01.BedForgets': WHATEVER THE INPUT: true; the input reads as it did. -/
def bedForgetsSpec : ChangeSpec := { name := "bedForgets", fn := fun _ => fun
  | [d1, d2, d3] => { results := [.lit (.bool true)], args := [d1, d2, d3] }
  | _ => none }
def bedForgetsRow : OpenClaim := { program := "ytpaifaemkoblcaa", sum := "1902bf1feff6c2fce0836f342f7fa93928bfdfbde3f30508691edd9c6141a27b", func := "watercress/watercresslaw01.BedForgets", spec := "bedForgets", unfollowed := true, recurses := true, plainKeys := false, apart := false }
def BedForgetsSaid : Prop := bedForgetsRow.holds Try.pinned (OpenSpec.ofChange bedForgetsSpec)

/-- ITS FALSE NEIGHBOUR: 'it returns false'. Refute it at one input. -/
def bedForgetsWrong : ChangeSpec := { name := "bedForgets", fn := fun _ => fun
  | [d1, d2, d3] => { results := [.lit (.bool false)], args := [d1, d2, d3] }
  | _ => none }
def BedForgetsWrongFalsely : Prop := bedForgetsRow.holds Try.pinned (OpenSpec.ofChange bedForgetsWrong)

/-- 'watercresslaw01.BedLeaves': WHATEVER THE INPUT: true; the input reads as it did. -/
def bedLeavesSpec : ChangeSpec := { name := "bedLeaves", fn := fun _ => fun
  | [d] => { results := [.lit (.bool true)], args := [d] }
  | _ => none }
def bedLeavesRow : OpenClaim := { program := "ytpaifaemkoblcaa", sum := "1902bf1feff6c2fce0836f342f7fa93928bfdfbde3f30508691edd9c6141a27b", func := "watercress/watercresslaw01.BedLeaves", spec := "bedLeaves", unfollowed := true, recurses := true, plainKeys := false, apart := false }
def BedLeavesSaid : Prop := bedLeavesRow.holds Try.pinned (OpenSpec.ofChange bedLeavesSpec)

/-- ITS FALSE NEIGHBOUR: 'it returns false'. Refute it at one input. -/
def bedLeavesWrong : ChangeSpec := { name := "bedLeaves", fn := fun _ => fun
  | [d] => { results := [.lit (.bool false)], args := [d] }
  | _ => none }
def BedLeavesWrongFalsely : Prop := bedLeavesRow.holds Try.pinned (OpenSpec.ofChange bedLeavesWrong)

/-- 'watercresslaw01.BedNames': WHATEVER THE INPUT: true; the input reads as it did. -/
def bedNamesSpec : ChangeSpec := { name := "bedNames", fn := fun _ => fun
  | [] => { results := [.lit (.bool true)], args := [] }
  | _ => none }
def bedNamesRow : OpenClaim := { program := "ytpaifaemkoblcaa", sum := "1902bf1feff6c2fce0836f342f7fa93928bfdfbde3f30508691edd9c6141a27b", func := "watercress/watercresslaw01.BedNames", spec := "bedNames", unfollowed := true, recurses := true, plainKeys := false, apart := false }
def BedNamesSaid : Prop := bedNamesRow.holds Try.pinned (OpenSpec.ofChange bedNamesSpec)

/-- ITS FALSE NEIGHBOUR: 'it returns false'. Refute it at one input. -/
def bedNamesWrong : ChangeSpec := { name := "bedNames", fn := fun _ => fun
  | [] => { results := [.lit (.bool false)], args := [] }
  | _ => none }
def BedNamesWrongFalsely : Prop := bedNamesRow.holds Try.pinned (OpenSpec.ofChange bedNamesWrong)

/-- 'watercresslaw01.BedTruth': WHATEVER THE INPUT: true; the input reads as it did. -/
def bedTruthSpec : ChangeSpec := { name := "bedTruth", fn := fun _ => fun
  | [d1, d2, d3] => { results := [.lit (.bool true)], args := [d1, d2, d3] }
  | _ => none }
def bedTruthRow : OpenClaim := { program := "ytpaifaemkoblcaa", sum := "1902bf1feff6c2fce0836f342f7fa93928bfdfbde3f30508691edd9c6141a27b", func := "watercress/watercresslaw01.BedTruth", spec := "bedTruth", unfollowed := true, recurses := true, plainKeys := false, apart := false }
def BedTruthSaid : Prop := bedTruthRow.holds Try.pinned (OpenSpec.ofChange bedTruthSpec)

/-- ITS FALSE NEIGHBOUR: 'it returns false'. Refute it at one input. -/
def bedTruthWrong : ChangeSpec := { name := "bedTruth", fn := fun _ => fun
  | [d1, d2, d3] => { results := [.lit (.bool false)], args := [d1, d2, d3] }
  | _ => none }
def BedTruthWrongFalsely : Prop := bedTruthRow.holds Try.pinned (OpenSpec.ofChange bedTruthWrong)

/-- 'watercresslaw01.BedEnds': WHATEVER THE INPUT: true; the input reads as it did. -/
def bedEndsSpec : ChangeSpec := { name := "bedEnds", fn := fun _ => fun
  | [d1, d2] => { results := [.lit (.bool true)], args := [d1, d2] }
  | _ => none }
def bedEndsRow : OpenClaim := { program := "ytpaifaemkoblcaa", sum := "1902bf1feff6c2fce0836f342f7fa93928bfdfbde3f30508691edd9c6141a27b", func := "watercress/watercresslaw01.BedEnds", spec := "bedEnds", unfollowed := true, recurses := true, plainKeys := false, apart := false }
def BedEndsSaid : Prop := bedEndsRow.holds Try.pinned (OpenSpec.ofChange bedEndsSpec)

/-- ITS FALSE NEIGHBOUR: 'it returns false'. Refute it at one input. -/
def bedEndsWrong : ChangeSpec := { name := "bedEnds", fn := fun _ => fun
  | [d1, d2] => { results := [.lit (.bool false)], args := [d1, d2] }
  | _ => none }
def BedEndsWrongFalsely : Prop := bedEndsRow.holds Try.pinned (OpenSpec.ofChange bedEndsWrong)

/-- 'watercresslaw01.BedChoice': WHATEVER THE INPUT: true; the input reads as it did. -/
def bedChoiceSpec : ChangeSpec := { name := "bedChoice", fn := fun _ => fun
  | [d1, d2] => { results := [.lit (.bool true)], args := [d1, d2] }
  | _ => none }
def bedChoiceRow : OpenClaim := { program := "ytpaifaemkoblcaa", sum := "1902bf1feff6c2fce0836f342f7fa93928bfdfbde3f30508691edd9c6141a27b", func := "watercress/watercresslaw01.BedChoice", spec := "bedChoice", unfollowed := true, recurses := true, plainKeys := false, apart := false }
def BedChoiceSaid : Prop := bedChoiceRow.holds Try.pinned (OpenSpec.ofChange bedChoiceSpec)

/-- ITS FALSE NEIGHBOUR: 'it returns false'. Refute it at one input. -/
def bedChoiceWrong : ChangeSpec := { name := "bedChoice", fn := fun _ => fun
  | [d1, d2] => { results := [.lit (.bool false)], args := [d1, d2] }
  | _ => none }
def BedChoiceWrongFalsely : Prop := bedChoiceRow.holds Try.pinned (OpenSpec.ofChange bedChoiceWrong)

/-- 'watercresslaw01.BedWater': WHATEVER THE INPUT: true; the input reads as it did. -/
def bedWaterSpec : ChangeSpec := { name := "bedWater", fn := fun _ => fun
  | [d1, d2, d3, d4] => { results := [.lit (.bool true)], args := [d1, d2, d3, d4] }
  | _ => none }
def bedWaterRow : OpenClaim := { program := "ytpaifaemkoblcaa", sum := "1902bf1feff6c2fce0836f342f7fa93928bfdfbde3f30508691edd9c6141a27b", func := "watercress/watercresslaw01.BedWater", spec := "bedWater", unfollowed := true, recurses := true, plainKeys := false, apart := false }
def BedWaterSaid : Prop := bedWaterRow.holds Try.pinned (OpenSpec.ofChange bedWaterSpec)

/-- ITS FALSE NEIGHBOUR: 'it returns false'. Refute it at one input. -/
def bedWaterWrong : ChangeSpec := { name := "bedWater", fn := fun _ => fun
  | [d1, d2, d3, d4] => { results := [.lit (.bool false)], args := [d1, d2, d3, d4] }
  | _ => none }
def BedWaterWrongFalsely : Prop := bedWaterRow.holds Try.pinned (OpenSpec.ofChange bedWaterWrong)

/-- 'watercresslaw01.BedLower': WHATEVER THE INPUT: true; the input reads as it did. -/
def bedLowerSpec : ChangeSpec := { name := "bedLower", fn := fun _ => fun
  | [d1, d2, d3, d4] => { results := [.lit (.bool true)], args := [d1, d2, d3, d4] }
  | _ => none }
def bedLowerRow : OpenClaim := { program := "ytpaifaemkoblcaa", sum := "1902bf1feff6c2fce0836f342f7fa93928bfdfbde3f30508691edd9c6141a27b", func := "watercress/watercresslaw01.BedLower", spec := "bedLower", unfollowed := true, recurses := true, plainKeys := false, apart := false }
def BedLowerSaid : Prop := bedLowerRow.holds Try.pinned (OpenSpec.ofChange bedLowerSpec)

/-- ITS FALSE NEIGHBOUR: 'it returns false'. Refute it at one input. -/
def bedLowerWrong : ChangeSpec := { name := "bedLower", fn := fun _ => fun
  | [d1, d2, d3, d4] => { results := [.lit (.bool false)], args := [d1, d2, d3, d4] }
  | _ => none }
def BedLowerWrongFalsely : Prop := bedLowerRow.holds Try.pinned (OpenSpec.ofChange bedLowerWrong)

/-- 'watercresslaw01.BedMore': WHATEVER THE INPUT: true; the input reads as it did. -/
def bedMoreSpec : ChangeSpec := { name := "bedMore", fn := fun _ => fun
  | [d1, d2, d3] => { results := [.lit (.bool true)], args := [d1, d2, d3] }
  | _ => none }
def bedMoreRow : OpenClaim := { program := "ytpaifaemkoblcaa", sum := "1902bf1feff6c2fce0836f342f7fa93928bfdfbde3f30508691edd9c6141a27b", func := "watercress/watercresslaw01.BedMore", spec := "bedMore", unfollowed := true, recurses := true, plainKeys := false, apart := false }
def BedMoreSaid : Prop := bedMoreRow.holds Try.pinned (OpenSpec.ofChange bedMoreSpec)

/-- ITS FALSE NEIGHBOUR: 'it returns false'. Refute it at one input. -/
def bedMoreWrong : ChangeSpec := { name := "bedMore", fn := fun _ => fun
  | [d1, d2, d3] => { results := [.lit (.bool false)], args := [d1, d2, d3] }
  | _ => none }
def BedMoreWrongFalsely : Prop := bedMoreRow.holds Try.pinned (OpenSpec.ofChange bedMoreWrong)

/-- 'watercresslaw01.BedFirst': WHATEVER THE INPUT: true; the input reads as it did. -/
def bedFirstSpec : ChangeSpec := { name := "bedFirst", fn := fun _ => fun
  | [d] => { results := [.lit (.bool true)], args := [d] }
  | _ => none }
def bedFirstRow : OpenClaim := { program := "ytpaifaemkoblcaa", sum := "1902bf1feff6c2fce0836f342f7fa93928bfdfbde3f30508691edd9c6141a27b", func := "watercress/watercresslaw01.BedFirst", spec := "bedFirst", unfollowed := true, recurses := true, plainKeys := false, apart := false }
def BedFirstSaid : Prop := bedFirstRow.holds Try.pinned (OpenSpec.ofChange bedFirstSpec)

/-- ITS FALSE NEIGHBOUR: 'it returns false'. Refute it at one input. -/
def bedFirstWrong : ChangeSpec := { name := "bedFirst", fn := fun _ => fun
  | [d] => { results := [.lit (.bool false)], args := [d] }
  | _ => none }
def BedFirstWrongFalsely : Prop := bedFirstRow.holds Try.pinned (OpenSpec.ofChange bedFirstWrong)

/-- 'watercresslaw01.BedLeft': WHATEVER THE INPUT: true; the input reads as it did. -/
def bedLeftSpec : ChangeSpec := { name := "bedLeft", fn := fun _ => fun
  | [d1, d2] => { results := [.lit (.bool true)], args := [d1, d2] }
  | _ => none }
def bedLeftRow : OpenClaim := { program := "ytpaifaemkoblcaa", sum := "1902bf1feff6c2fce0836f342f7fa93928bfdfbde3f30508691edd9c6141a27b", func := "watercress/watercresslaw01.BedLeft", spec := "bedLeft", unfollowed := true, recurses := true, plainKeys := false, apart := false }
def BedLeftSaid : Prop := bedLeftRow.holds Try.pinned (OpenSpec.ofChange bedLeftSpec)

/-- ITS FALSE NEIGHBOUR: 'it returns false'. Refute it at one input. -/
def bedLeftWrong : ChangeSpec := { name := "bedLeft", fn := fun _ => fun
  | [d1, d2] => { results := [.lit (.bool false)], args := [d1, d2] }
  | _ => none }
def BedLeftWrongFalsely : Prop := bedLeftRow.holds Try.pinned (OpenSpec.ofChange bedLeftWrong)

/-- 'watercresslaw01.BedDry': WHATEVER THE INPUT: true; the input reads as it did. -/
def bedDrySpec : ChangeSpec := { name := "bedDry", fn := fun _ => fun
  | [d1, d2, d3] => { results := [.lit (.bool true)], args := [d1, d2, d3] }
  | _ => none }
def bedDryRow : OpenClaim := { program := "ytpaifaemkoblcaa", sum := "1902bf1feff6c2fce0836f342f7fa93928bfdfbde3f30508691edd9c6141a27b", func := "watercress/watercresslaw01.BedDry", spec := "bedDry", unfollowed := true, recurses := true, plainKeys := false, apart := false }
def BedDrySaid : Prop := bedDryRow.holds Try.pinned (OpenSpec.ofChange bedDrySpec)

/-- ITS FALSE NEIGHBOUR: 'it returns false'. Refute it at one input. -/
def bedDryWrong : ChangeSpec := { name := "bedDry", fn := fun _ => fun
  | [d1, d2, d3] => { results := [.lit (.bool false)], args := [d1, d2, d3] }
  | _ => none }
def BedDryWrongFalsely : Prop := bedDryRow.holds Try.pinned (OpenSpec.ofChange bedDryWrong)

/- THE SECOND FORM. 'bulk': how many values and letters a reading holds, each counted each time it is reached (what is shared counts as often as it is met; a slice's spare places count too). A statement '..UptoSaid' is the law's where the arguments, and the package variables that the reading takes, are together of bulk at most 1048576: NARROWER than '..Said'. Prove '..Said' where nothing that the law and all that it calls make is longer than what came in: it says more and counts as full. Else prove '..UptoSaid'. A law counts once. -/
mutual
def uptoBulk {H : Type} : DataW H → Nat
  | .lit (.string bytes) => bytes.length + 1
  | .lit _ => 1
  | .nil => 1
  | .ptr d => uptoBulk d + 1
  | .slice elems spare => uptoBulkAll elems + uptoBulkAll spare + 1
  | .agg parts => uptoBulkAll parts + 1
  | .iface _ d => uptoBulk d + 1
  | .map entries => uptoBulkEntries entries + 1
  | .held _ => 1
def uptoBulkAll {H : Type} : List (DataW H) → Nat
  | [] => 0
  | d :: r => uptoBulk d + uptoBulkAll r
def uptoBulkEntries {H : Type} : List (Lit × DataW H) → Nat
  | [] => 0
  | x :: r => uptoBulkEntry x + uptoBulkEntries r
def uptoBulkEntry {H : Type} : Lit × DataW H → Nat
  | (.string bytes, d) => bytes.length + uptoBulk d + 1
  | (_, d) => uptoBulk d + 1
 end
def uptoSmall : (H : Type) → List (DataW H) → Bool := fun _ ds => decide (uptoBulkAll ds ≤ 1048576)
def OpenSpec.upto (s : _root_.Go.ChangeSpec) : _root_.Go.OpenSpec := { _root_.Go.OpenSpec.ofChange s with cond := some uptoSmall }

/-- 'watercresslaw01.BedPlays', WHERE WHAT IT READS IS OF BULK AT MOST 1048576: true; the input reads as it did. -/
def bedPlaysUptoRow : OpenClaim := { program := "ytpaifaemkoblcaa", sum := "1902bf1feff6c2fce0836f342f7fa93928bfdfbde3f30508691edd9c6141a27b", func := "watercress/watercresslaw01.BedPlays", spec := "bedPlays", unfollowed := true, recurses := true, plainKeys := false, apart := false, narrowed := true }
def BedPlaysUptoSaid : Prop := bedPlaysUptoRow.holds Try.pinned (OpenSpec.upto bedPlaysSpec)

/-- 'watercresslaw01.BedBounds', WHERE WHAT IT READS IS OF BULK AT MOST 1048576: true; the input reads as it did. -/
def bedBoundsUptoRow : OpenClaim := { program := "ytpaifaemkoblcaa", sum := "1902bf1feff6c2fce0836f342f7fa93928bfdfbde3f30508691edd9c6141a27b", func := "watercress/watercresslaw01.BedBounds", spec := "bedBounds", unfollowed := true, recurses := true, plainKeys := false, apart := false, narrowed := true }
def BedBoundsUptoSaid : Prop := bedBoundsUptoRow.holds Try.pinned (OpenSpec.upto bedBoundsSpec)

/-- 'watercresslaw01.BedProves', WHERE WHAT IT READS IS OF BULK AT MOST 1048576: true; the input reads as it did. -/
def bedProvesUptoRow : OpenClaim := { program := "ytpaifaemkoblcaa", sum := "1902bf1feff6c2fce0836f342f7fa93928bfdfbde3f30508691edd9c6141a27b", func := "watercress/watercresslaw01.BedProves", spec := "bedProves", unfollowed := true, recurses := true, plainKeys := false, apart := false, narrowed := true }
def BedProvesUptoSaid : Prop := bedProvesUptoRow.holds Try.pinned (OpenSpec.upto bedProvesSpec)

/-- 'watercresslaw01.BedForgets', WHERE WHAT IT READS IS OF BULK AT MOST 1048576: true; the input reads as it did. -/
def bedForgetsUptoRow : OpenClaim := { program := "ytpaifaemkoblcaa", sum := "1902bf1feff6c2fce0836f342f7fa93928bfdfbde3f30508691edd9c6141a27b", func := "watercress/watercresslaw01.BedForgets", spec := "bedForgets", unfollowed := true, recurses := true, plainKeys := false, apart := false, narrowed := true }
def BedForgetsUptoSaid : Prop := bedForgetsUptoRow.holds Try.pinned (OpenSpec.upto bedForgetsSpec)

/-- 'watercresslaw01.BedLeaves', WHERE WHAT IT READS IS OF BULK AT MOST 1048576: true; the input reads as it did. -/
def bedLeavesUptoRow : OpenClaim := { program := "ytpaifaemkoblcaa", sum := "1902bf1feff6c2fce0836f342f7fa93928bfdfbde3f30508691edd9c6141a27b", func := "watercress/watercresslaw01.BedLeaves", spec := "bedLeaves", unfollowed := true, recurses := true, plainKeys := false, apart := false, narrowed := true }
def BedLeavesUptoSaid : Prop := bedLeavesUptoRow.holds Try.pinned (OpenSpec.upto bedLeavesSpec)

/-- 'watercresslaw01.BedNames', WHERE WHAT IT READS IS OF BULK AT MOST 1048576: true; the input reads as it did. -/
def bedNamesUptoRow : OpenClaim := { program := "ytpaifaemkoblcaa", sum := "1902bf1feff6c2fce0836f342f7fa93928bfdfbde3f30508691edd9c6141a27b", func := "watercress/watercresslaw01.BedNames", spec := "bedNames", unfollowed := true, recurses := true, plainKeys := false, apart := false, narrowed := true }
def BedNamesUptoSaid : Prop := bedNamesUptoRow.holds Try.pinned (OpenSpec.upto bedNamesSpec)

/-- 'watercresslaw01.BedTruth', WHERE WHAT IT READS IS OF BULK AT MOST 1048576: true; the input reads as it did. -/
def bedTruthUptoRow : OpenClaim := { program := "ytpaifaemkoblcaa", sum := "1902bf1feff6c2fce0836f342f7fa93928bfdfbde3f30508691edd9c6141a27b", func := "watercress/watercresslaw01.BedTruth", spec := "bedTruth", unfollowed := true, recurses := true, plainKeys := false, apart := false, narrowed := true }
def BedTruthUptoSaid : Prop := bedTruthUptoRow.holds Try.pinned (OpenSpec.upto bedTruthSpec)

/-- 'watercresslaw01.BedEnds', WHERE WHAT IT READS IS OF BULK AT MOST 1048576: true; the input reads as it did. -/
def bedEndsUptoRow : OpenClaim := { program := "ytpaifaemkoblcaa", sum := "1902bf1feff6c2fce0836f342f7fa93928bfdfbde3f30508691edd9c6141a27b", func := "watercress/watercresslaw01.BedEnds", spec := "bedEnds", unfollowed := true, recurses := true, plainKeys := false, apart := false, narrowed := true }
def BedEndsUptoSaid : Prop := bedEndsUptoRow.holds Try.pinned (OpenSpec.upto bedEndsSpec)

/-- 'watercresslaw01.BedChoice', WHERE WHAT IT READS IS OF BULK AT MOST 1048576: true; the input reads as it did. -/
def bedChoiceUptoRow : OpenClaim := { program := "ytpaifaemkoblcaa", sum := "1902bf1feff6c2fce0836f342f7fa93928bfdfbde3f30508691edd9c6141a27b", func := "watercress/watercresslaw01.BedChoice", spec := "bedChoice", unfollowed := true, recurses := true, plainKeys := false, apart := false, narrowed := true }
def BedChoiceUptoSaid : Prop := bedChoiceUptoRow.holds Try.pinned (OpenSpec.upto bedChoiceSpec)

/-- 'watercresslaw01.BedWater', WHERE WHAT IT READS IS OF BULK AT MOST 1048576: true; the input reads as it did. -/
def bedWaterUptoRow : OpenClaim := { program := "ytpaifaemkoblcaa", sum := "1902bf1feff6c2fce0836f342f7fa93928bfdfbde3f30508691edd9c6141a27b", func := "watercress/watercresslaw01.BedWater", spec := "bedWater", unfollowed := true, recurses := true, plainKeys := false, apart := false, narrowed := true }
def BedWaterUptoSaid : Prop := bedWaterUptoRow.holds Try.pinned (OpenSpec.upto bedWaterSpec)

/-- 'watercresslaw01.BedLower', WHERE WHAT IT READS IS OF BULK AT MOST 1048576: true; the input reads as it did. -/
def bedLowerUptoRow : OpenClaim := { program := "ytpaifaemkoblcaa", sum := "1902bf1feff6c2fce0836f342f7fa93928bfdfbde3f30508691edd9c6141a27b", func := "watercress/watercresslaw01.BedLower", spec := "bedLower", unfollowed := true, recurses := true, plainKeys := false, apart := false, narrowed := true }
def BedLowerUptoSaid : Prop := bedLowerUptoRow.holds Try.pinned (OpenSpec.upto bedLowerSpec)

/-- 'watercresslaw01.BedMore', WHERE WHAT IT READS IS OF BULK AT MOST 1048576: true; the input reads as it did. -/
def bedMoreUptoRow : OpenClaim := { program := "ytpaifaemkoblcaa", sum := "1902bf1feff6c2fce0836f342f7fa93928bfdfbde3f30508691edd9c6141a27b", func := "watercress/watercresslaw01.BedMore", spec := "bedMore", unfollowed := true, recurses := true, plainKeys := false, apart := false, narrowed := true }
def BedMoreUptoSaid : Prop := bedMoreUptoRow.holds Try.pinned (OpenSpec.upto bedMoreSpec)

/-- 'watercresslaw01.BedFirst', WHERE WHAT IT READS IS OF BULK AT MOST 1048576: true; the input reads as it did. -/
def bedFirstUptoRow : OpenClaim := { program := "ytpaifaemkoblcaa", sum := "1902bf1feff6c2fce0836f342f7fa93928bfdfbde3f30508691edd9c6141a27b", func := "watercress/watercresslaw01.BedFirst", spec := "bedFirst", unfollowed := true, recurses := true, plainKeys := false, apart := false, narrowed := true }
def BedFirstUptoSaid : Prop := bedFirstUptoRow.holds Try.pinned (OpenSpec.upto bedFirstSpec)

/-- 'watercresslaw01.BedLeft', WHERE WHAT IT READS IS OF BULK AT MOST 1048576: true; the input reads as it did. -/
def bedLeftUptoRow : OpenClaim := { program := "ytpaifaemkoblcaa", sum := "1902bf1feff6c2fce0836f342f7fa93928bfdfbde3f30508691edd9c6141a27b", func := "watercress/watercresslaw01.BedLeft", spec := "bedLeft", unfollowed := true, recurses := true, plainKeys := false, apart := false, narrowed := true }
def BedLeftUptoSaid : Prop := bedLeftUptoRow.holds Try.pinned (OpenSpec.upto bedLeftSpec)

/-- 'watercresslaw01.BedDry', WHERE WHAT IT READS IS OF BULK AT MOST 1048576: true; the input reads as it did. -/
def bedDryUptoRow : OpenClaim := { program := "ytpaifaemkoblcaa", sum := "1902bf1feff6c2fce0836f342f7fa93928bfdfbde3f30508691edd9c6141a27b", func := "watercress/watercresslaw01.BedDry", spec := "bedDry", unfollowed := true, recurses := true, plainKeys := false, apart := false, narrowed := true }
def BedDryUptoSaid : Prop := bedDryUptoRow.holds Try.pinned (OpenSpec.upto bedDrySpec)

end Rows
end Go.Proofs.Ytpaifaemkoblcaa
