/-
  No cell of these rows narrows 'for every input' (looked for: loops, veiled, ifaces, maps, wideKeys, modest, calm, conditions, laid).
  DERIVED. THE GIVEN ROWS OF THIS SEAT. 14 by the template 'for every input the law returns true; each argument reads behind the call as it read before'; 0 by the template 'total and deterministic' (their statements: YtcjekdfncnmbfaaTotals.lean).
  GIVEN WITH THE SEED: the statements are not yours to turn. If you find one false, say at which input.
  Laid BY PROGRAM, IN A SANDBOX (cutbox-rows.mjs): the forced cells as the released guide's own fill.sh prints them over the translation e99bb5eee06dead5… (all of the seat's roots in one cut). By AI agents, Wed Nov 11 2026. No macro, syntax, notation, axiom, sorry.
-/
import Derived.Test.YtcjekdfncnmbfaaChecked
import GoSem.Claim
import GoSem.ClaimJoined
import GoSem.ClaimMapViews
import Derived.JoinedTies
import Derived.KernelRfl
namespace Go.Proofs.Ytcjekdfncnmbfaa
/- THE CELL 'sum', in the pinned program and in every row, IS THE sha256 OF THE DUMP (.gsa) THAT YtcjekdfncnmbfaaProg.lean LOADS. Nothing in Lean hashes anything: it is a label: what it is worth is what the hold of that sum in a sandbox is worth. -/
noncomputable def Try.pinned : Pinned := { name := "ytcjekdfncnmbfaa", sum := "e99bb5eee06dead51aaf569da4ec3ad2698c10ff8d83eb2adbeecca806036a62", checked := Try.checked }
namespace Rows
def none {H : Type} : Left H := { results := [], args := [] }

/-- 'watercresslaw04.CleanShows': WHATEVER THE INPUT: true; the input reads as it did. -/
def cleanShowsSpec : ChangeSpec := { name := "cleanShows", fn := fun _ => fun
  | [d1, d2] => { results := [.lit (.bool true)], args := [d1, d2] }
  | _ => none }
def cleanShowsRow : OpenClaim := { program := "ytcjekdfncnmbfaa", sum := "e99bb5eee06dead51aaf569da4ec3ad2698c10ff8d83eb2adbeecca806036a62", func := "watercress/watercresslaw04.CleanShows", spec := "cleanShows", unfollowed := true, recurses := true, plainKeys := false, apart := false }
def CleanShowsSaid : Prop := cleanShowsRow.holds Try.pinned (OpenSpec.ofChange cleanShowsSpec)

/-- ITS FALSE NEIGHBOUR: 'it returns false'. Refute it at one input. -/
def cleanShowsWrong : ChangeSpec := { name := "cleanShows", fn := fun _ => fun
  | [d1, d2] => { results := [.lit (.bool false)], args := [d1, d2] }
  | _ => none }
def CleanShowsWrongFalsely : Prop := cleanShowsRow.holds Try.pinned (OpenSpec.ofChange cleanShowsWrong)

/-- 'watercresslaw04.CleanWeeks': WHATEVER THE INPUT: true; the input reads as it did. -/
def cleanWeeksSpec : ChangeSpec := { name := "cleanWeeks", fn := fun _ => fun
  | [d1, d2, d3] => { results := [.lit (.bool true)], args := [d1, d2, d3] }
  | _ => none }
def cleanWeeksRow : OpenClaim := { program := "ytcjekdfncnmbfaa", sum := "e99bb5eee06dead51aaf569da4ec3ad2698c10ff8d83eb2adbeecca806036a62", func := "watercress/watercresslaw04.CleanWeeks", spec := "cleanWeeks", unfollowed := true, recurses := true, plainKeys := false, apart := false }
def CleanWeeksSaid : Prop := cleanWeeksRow.holds Try.pinned (OpenSpec.ofChange cleanWeeksSpec)

/-- ITS FALSE NEIGHBOUR: 'it returns false'. Refute it at one input. -/
def cleanWeeksWrong : ChangeSpec := { name := "cleanWeeks", fn := fun _ => fun
  | [d1, d2, d3] => { results := [.lit (.bool false)], args := [d1, d2, d3] }
  | _ => none }
def CleanWeeksWrongFalsely : Prop := cleanWeeksRow.holds Try.pinned (OpenSpec.ofChange cleanWeeksWrong)

/-- 'watercresslaw04.CleanProofs': WHATEVER THE INPUT: true; the input reads as it did. -/
def cleanProofsSpec : ChangeSpec := { name := "cleanProofs", fn := fun _ => fun
  | [d1, d2] => { results := [.lit (.bool true)], args := [d1, d2] }
  | _ => none }
def cleanProofsRow : OpenClaim := { program := "ytcjekdfncnmbfaa", sum := "e99bb5eee06dead51aaf569da4ec3ad2698c10ff8d83eb2adbeecca806036a62", func := "watercress/watercresslaw04.CleanProofs", spec := "cleanProofs", unfollowed := true, recurses := true, plainKeys := false, apart := false }
def CleanProofsSaid : Prop := cleanProofsRow.holds Try.pinned (OpenSpec.ofChange cleanProofsSpec)

/-- ITS FALSE NEIGHBOUR: 'it returns false'. Refute it at one input. -/
def cleanProofsWrong : ChangeSpec := { name := "cleanProofs", fn := fun _ => fun
  | [d1, d2] => { results := [.lit (.bool false)], args := [d1, d2] }
  | _ => none }
def CleanProofsWrongFalsely : Prop := cleanProofsRow.holds Try.pinned (OpenSpec.ofChange cleanProofsWrong)

/-- 'watercresslaw04.CleanLeaves': WHATEVER THE INPUT: true; the input reads as it did. -/
def cleanLeavesSpec : ChangeSpec := { name := "cleanLeaves", fn := fun _ => fun
  | [d] => { results := [.lit (.bool true)], args := [d] }
  | _ => none }
def cleanLeavesRow : OpenClaim := { program := "ytcjekdfncnmbfaa", sum := "e99bb5eee06dead51aaf569da4ec3ad2698c10ff8d83eb2adbeecca806036a62", func := "watercress/watercresslaw04.CleanLeaves", spec := "cleanLeaves", unfollowed := true, recurses := true, plainKeys := false, apart := false }
def CleanLeavesSaid : Prop := cleanLeavesRow.holds Try.pinned (OpenSpec.ofChange cleanLeavesSpec)

/-- ITS FALSE NEIGHBOUR: 'it returns false'. Refute it at one input. -/
def cleanLeavesWrong : ChangeSpec := { name := "cleanLeaves", fn := fun _ => fun
  | [d] => { results := [.lit (.bool false)], args := [d] }
  | _ => none }
def CleanLeavesWrongFalsely : Prop := cleanLeavesRow.holds Try.pinned (OpenSpec.ofChange cleanLeavesWrong)

/-- 'watercresslaw04.CleanTruth': WHATEVER THE INPUT: true; the input reads as it did. -/
def cleanTruthSpec : ChangeSpec := { name := "cleanTruth", fn := fun _ => fun
  | [d1, d2, d3, d4] => { results := [.lit (.bool true)], args := [d1, d2, d3, d4] }
  | _ => none }
def cleanTruthRow : OpenClaim := { program := "ytcjekdfncnmbfaa", sum := "e99bb5eee06dead51aaf569da4ec3ad2698c10ff8d83eb2adbeecca806036a62", func := "watercress/watercresslaw04.CleanTruth", spec := "cleanTruth", unfollowed := true, recurses := true, plainKeys := false, apart := false }
def CleanTruthSaid : Prop := cleanTruthRow.holds Try.pinned (OpenSpec.ofChange cleanTruthSpec)

/-- ITS FALSE NEIGHBOUR: 'it returns false'. Refute it at one input. -/
def cleanTruthWrong : ChangeSpec := { name := "cleanTruth", fn := fun _ => fun
  | [d1, d2, d3, d4] => { results := [.lit (.bool false)], args := [d1, d2, d3, d4] }
  | _ => none }
def CleanTruthWrongFalsely : Prop := cleanTruthRow.holds Try.pinned (OpenSpec.ofChange cleanTruthWrong)

/-- 'watercresslaw04.CleanEach': WHATEVER THE INPUT: true; the input reads as it did. -/
def cleanEachSpec : ChangeSpec := { name := "cleanEach", fn := fun _ => fun
  | [d1, d2, d3] => { results := [.lit (.bool true)], args := [d1, d2, d3] }
  | _ => none }
def cleanEachRow : OpenClaim := { program := "ytcjekdfncnmbfaa", sum := "e99bb5eee06dead51aaf569da4ec3ad2698c10ff8d83eb2adbeecca806036a62", func := "watercress/watercresslaw04.CleanEach", spec := "cleanEach", unfollowed := true, recurses := true, plainKeys := false, apart := false }
def CleanEachSaid : Prop := cleanEachRow.holds Try.pinned (OpenSpec.ofChange cleanEachSpec)

/-- ITS FALSE NEIGHBOUR: 'it returns false'. Refute it at one input. -/
def cleanEachWrong : ChangeSpec := { name := "cleanEach", fn := fun _ => fun
  | [d1, d2, d3] => { results := [.lit (.bool false)], args := [d1, d2, d3] }
  | _ => none }
def CleanEachWrongFalsely : Prop := cleanEachRow.holds Try.pinned (OpenSpec.ofChange cleanEachWrong)

/-- 'watercresslaw04.CleanHands': WHATEVER THE INPUT: true; the input reads as it did. -/
def cleanHandsSpec : ChangeSpec := { name := "cleanHands", fn := fun _ => fun
  | [d1, d2, d3] => { results := [.lit (.bool true)], args := [d1, d2, d3] }
  | _ => none }
def cleanHandsRow : OpenClaim := { program := "ytcjekdfncnmbfaa", sum := "e99bb5eee06dead51aaf569da4ec3ad2698c10ff8d83eb2adbeecca806036a62", func := "watercress/watercresslaw04.CleanHands", spec := "cleanHands", unfollowed := true, recurses := true, plainKeys := false, apart := false }
def CleanHandsSaid : Prop := cleanHandsRow.holds Try.pinned (OpenSpec.ofChange cleanHandsSpec)

/-- ITS FALSE NEIGHBOUR: 'it returns false'. Refute it at one input. -/
def cleanHandsWrong : ChangeSpec := { name := "cleanHands", fn := fun _ => fun
  | [d1, d2, d3] => { results := [.lit (.bool false)], args := [d1, d2, d3] }
  | _ => none }
def CleanHandsWrongFalsely : Prop := cleanHandsRow.holds Try.pinned (OpenSpec.ofChange cleanHandsWrong)

/-- 'watercresslaw04.CleanProof': WHATEVER THE INPUT: true; the input reads as it did. -/
def cleanProofSpec : ChangeSpec := { name := "cleanProof", fn := fun _ => fun
  | [d1, d2, d3] => { results := [.lit (.bool true)], args := [d1, d2, d3] }
  | _ => none }
def cleanProofRow : OpenClaim := { program := "ytcjekdfncnmbfaa", sum := "e99bb5eee06dead51aaf569da4ec3ad2698c10ff8d83eb2adbeecca806036a62", func := "watercress/watercresslaw04.CleanProof", spec := "cleanProof", unfollowed := true, recurses := true, plainKeys := false, apart := false }
def CleanProofSaid : Prop := cleanProofRow.holds Try.pinned (OpenSpec.ofChange cleanProofSpec)

/-- ITS FALSE NEIGHBOUR: 'it returns false'. Refute it at one input. -/
def cleanProofWrong : ChangeSpec := { name := "cleanProof", fn := fun _ => fun
  | [d1, d2, d3] => { results := [.lit (.bool false)], args := [d1, d2, d3] }
  | _ => none }
def CleanProofWrongFalsely : Prop := cleanProofRow.holds Try.pinned (OpenSpec.ofChange cleanProofWrong)

/-- 'watercresslaw04.CleanMore': WHATEVER THE INPUT: true; the input reads as it did. -/
def cleanMoreSpec : ChangeSpec := { name := "cleanMore", fn := fun _ => fun
  | [d1, d2, d3, d4] => { results := [.lit (.bool true)], args := [d1, d2, d3, d4] }
  | _ => none }
def cleanMoreRow : OpenClaim := { program := "ytcjekdfncnmbfaa", sum := "e99bb5eee06dead51aaf569da4ec3ad2698c10ff8d83eb2adbeecca806036a62", func := "watercress/watercresslaw04.CleanMore", spec := "cleanMore", unfollowed := true, recurses := true, plainKeys := false, apart := false }
def CleanMoreSaid : Prop := cleanMoreRow.holds Try.pinned (OpenSpec.ofChange cleanMoreSpec)

/-- ITS FALSE NEIGHBOUR: 'it returns false'. Refute it at one input. -/
def cleanMoreWrong : ChangeSpec := { name := "cleanMore", fn := fun _ => fun
  | [d1, d2, d3, d4] => { results := [.lit (.bool false)], args := [d1, d2, d3, d4] }
  | _ => none }
def CleanMoreWrongFalsely : Prop := cleanMoreRow.holds Try.pinned (OpenSpec.ofChange cleanMoreWrong)

/-- 'watercresslaw04.CleanWider': WHATEVER THE INPUT: true; the input reads as it did. -/
def cleanWiderSpec : ChangeSpec := { name := "cleanWider", fn := fun _ => fun
  | [d1, d2, d3, d4] => { results := [.lit (.bool true)], args := [d1, d2, d3, d4] }
  | _ => none }
def cleanWiderRow : OpenClaim := { program := "ytcjekdfncnmbfaa", sum := "e99bb5eee06dead51aaf569da4ec3ad2698c10ff8d83eb2adbeecca806036a62", func := "watercress/watercresslaw04.CleanWider", spec := "cleanWider", unfollowed := true, recurses := true, plainKeys := false, apart := false }
def CleanWiderSaid : Prop := cleanWiderRow.holds Try.pinned (OpenSpec.ofChange cleanWiderSpec)

/-- ITS FALSE NEIGHBOUR: 'it returns false'. Refute it at one input. -/
def cleanWiderWrong : ChangeSpec := { name := "cleanWider", fn := fun _ => fun
  | [d1, d2, d3, d4] => { results := [.lit (.bool false)], args := [d1, d2, d3, d4] }
  | _ => none }
def CleanWiderWrongFalsely : Prop := cleanWiderRow.holds Try.pinned (OpenSpec.ofChange cleanWiderWrong)

/-- 'watercresslaw04.CleanFirst': WHATEVER THE INPUT: true; the input reads as it did. -/
def cleanFirstSpec : ChangeSpec := { name := "cleanFirst", fn := fun _ => fun
  | [d] => { results := [.lit (.bool true)], args := [d] }
  | _ => none }
def cleanFirstRow : OpenClaim := { program := "ytcjekdfncnmbfaa", sum := "e99bb5eee06dead51aaf569da4ec3ad2698c10ff8d83eb2adbeecca806036a62", func := "watercress/watercresslaw04.CleanFirst", spec := "cleanFirst", unfollowed := true, recurses := true, plainKeys := false, apart := false }
def CleanFirstSaid : Prop := cleanFirstRow.holds Try.pinned (OpenSpec.ofChange cleanFirstSpec)

/-- ITS FALSE NEIGHBOUR: 'it returns false'. Refute it at one input. -/
def cleanFirstWrong : ChangeSpec := { name := "cleanFirst", fn := fun _ => fun
  | [d] => { results := [.lit (.bool false)], args := [d] }
  | _ => none }
def CleanFirstWrongFalsely : Prop := cleanFirstRow.holds Try.pinned (OpenSpec.ofChange cleanFirstWrong)

/-- 'watercresslaw04.CleanLeft': WHATEVER THE INPUT: true; the input reads as it did. -/
def cleanLeftSpec : ChangeSpec := { name := "cleanLeft", fn := fun _ => fun
  | [d1, d2] => { results := [.lit (.bool true)], args := [d1, d2] }
  | _ => none }
def cleanLeftRow : OpenClaim := { program := "ytcjekdfncnmbfaa", sum := "e99bb5eee06dead51aaf569da4ec3ad2698c10ff8d83eb2adbeecca806036a62", func := "watercress/watercresslaw04.CleanLeft", spec := "cleanLeft", unfollowed := true, recurses := true, plainKeys := false, apart := false }
def CleanLeftSaid : Prop := cleanLeftRow.holds Try.pinned (OpenSpec.ofChange cleanLeftSpec)

/-- ITS FALSE NEIGHBOUR: 'it returns false'. Refute it at one input. -/
def cleanLeftWrong : ChangeSpec := { name := "cleanLeft", fn := fun _ => fun
  | [d1, d2] => { results := [.lit (.bool false)], args := [d1, d2] }
  | _ => none }
def CleanLeftWrongFalsely : Prop := cleanLeftRow.holds Try.pinned (OpenSpec.ofChange cleanLeftWrong)

/-- 'watercresslaw04.CleanTurned': WHATEVER THE INPUT: true; the input reads as it did. -/
def cleanTurnedSpec : ChangeSpec := { name := "cleanTurned", fn := fun _ => fun
  | [d1, d2] => { results := [.lit (.bool true)], args := [d1, d2] }
  | _ => none }
def cleanTurnedRow : OpenClaim := { program := "ytcjekdfncnmbfaa", sum := "e99bb5eee06dead51aaf569da4ec3ad2698c10ff8d83eb2adbeecca806036a62", func := "watercress/watercresslaw04.CleanTurned", spec := "cleanTurned", unfollowed := true, recurses := true, plainKeys := false, apart := false }
def CleanTurnedSaid : Prop := cleanTurnedRow.holds Try.pinned (OpenSpec.ofChange cleanTurnedSpec)

/-- ITS FALSE NEIGHBOUR: 'it returns false'. Refute it at one input. -/
def cleanTurnedWrong : ChangeSpec := { name := "cleanTurned", fn := fun _ => fun
  | [d1, d2] => { results := [.lit (.bool false)], args := [d1, d2] }
  | _ => none }
def CleanTurnedWrongFalsely : Prop := cleanTurnedRow.holds Try.pinned (OpenSpec.ofChange cleanTurnedWrong)

/-- 'watercresslaw04.CleanOne': WHATEVER THE INPUT: true; the input reads as it did. -/
def cleanOneSpec : ChangeSpec := { name := "cleanOne", fn := fun _ => fun
  | [d1, d2, d3] => { results := [.lit (.bool true)], args := [d1, d2, d3] }
  | _ => none }
def cleanOneRow : OpenClaim := { program := "ytcjekdfncnmbfaa", sum := "e99bb5eee06dead51aaf569da4ec3ad2698c10ff8d83eb2adbeecca806036a62", func := "watercress/watercresslaw04.CleanOne", spec := "cleanOne", unfollowed := true, recurses := true, plainKeys := false, apart := false }
def CleanOneSaid : Prop := cleanOneRow.holds Try.pinned (OpenSpec.ofChange cleanOneSpec)

/-- ITS FALSE NEIGHBOUR: 'it returns false'. Refute it at one input. -/
def cleanOneWrong : ChangeSpec := { name := "cleanOne", fn := fun _ => fun
  | [d1, d2, d3] => { results := [.lit (.bool false)], args := [d1, d2, d3] }
  | _ => none }
def CleanOneWrongFalsely : Prop := cleanOneRow.holds Try.pinned (OpenSpec.ofChange cleanOneWrong)

/- THE SECOND FORM. 'bulk': how many values and letters a reading holds, each counted each time it is reached (what is shared counts as often as it is met; a slice's spare places count too). A statement '..UptoSaid' is the law's where the arguments, and the package variables that the reading takes, are together of bulk at most 1048576: NARROWER than '..Said'. Prove '..Said' where nothing that the law and all that it calls make is longer than what came in: it says more and counts as full. Else prove '..UptoSaid'. A law counts once. -/
mutual
def uptoBulk {H : Type} : DataW H → Nat
  | .lit (.string bytes) => bytes.length + 1
  | .lit _ => 1
  | .nil => 1
  | .ptr d => uptoBulk d + 1
  | .slice elems spare => uptoBulkAll elems + uptoBulkAll spare + 1
  | .agg parts => uptoBulkAll parts + 1
  | .iface _ d => uptoBulk d + 1
  | .map entries => uptoBulkEntries entries + 1
  | .held _ => 1
def uptoBulkAll {H : Type} : List (DataW H) → Nat
  | [] => 0
  | d :: r => uptoBulk d + uptoBulkAll r
def uptoBulkEntries {H : Type} : List (Lit × DataW H) → Nat
  | [] => 0
  | x :: r => uptoBulkEntry x + uptoBulkEntries r
def uptoBulkEntry {H : Type} : Lit × DataW H → Nat
  | (.string bytes, d) => bytes.length + uptoBulk d + 1
  | (_, d) => uptoBulk d + 1
 end
def uptoSmall : (H : Type) → List (DataW H) → Bool := fun _ ds => decide (uptoBulkAll ds ≤ 1048576)
def OpenSpec.upto (s : _root_.Go.ChangeSpec) : _root_.Go.OpenSpec := { _root_.Go.OpenSpec.ofChange s with cond := some uptoSmall }

/-- 'watercresslaw04.CleanShows', WHERE WHAT IT READS IS OF BULK AT MOST 1048576: true; the input reads as it did. -/
def cleanShowsUptoRow : OpenClaim := { program := "ytcjekdfncnmbfaa", sum := "e99bb5eee06dead51aaf569da4ec3ad2698c10ff8d83eb2adbeecca806036a62", func := "watercress/watercresslaw04.CleanShows", spec := "cleanShows", unfollowed := true, recurses := true, plainKeys := false, apart := false, narrowed := true }
def CleanShowsUptoSaid : Prop := cleanShowsUptoRow.holds Try.pinned (OpenSpec.upto cleanShowsSpec)

/-- 'watercresslaw04.CleanWeeks', WHERE WHAT IT READS IS OF BULK AT MOST 1048576: true; the input reads as it did. -/
def cleanWeeksUptoRow : OpenClaim := { program := "ytcjekdfncnmbfaa", sum := "e99bb5eee06dead51aaf569da4ec3ad2698c10ff8d83eb2adbeecca806036a62", func := "watercress/watercresslaw04.CleanWeeks", spec := "cleanWeeks", unfollowed := true, recurses := true, plainKeys := false, apart := false, narrowed := true }
def CleanWeeksUptoSaid : Prop := cleanWeeksUptoRow.holds Try.pinned (OpenSpec.upto cleanWeeksSpec)

/-- 'watercresslaw04.CleanProofs', WHERE WHAT IT READS IS OF BULK AT MOST 1048576: true; the input reads as it did. -/
def cleanProofsUptoRow : OpenClaim := { program := "ytcjekdfncnmbfaa", sum := "e99bb5eee06dead51aaf569da4ec3ad2698c10ff8d83eb2adbeecca806036a62", func := "watercress/watercresslaw04.CleanProofs", spec := "cleanProofs", unfollowed := true, recurses := true, plainKeys := false, apart := false, narrowed := true }
def CleanProofsUptoSaid : Prop := cleanProofsUptoRow.holds Try.pinned (OpenSpec.upto cleanProofsSpec)

/-- 'watercresslaw04.CleanLeaves', WHERE WHAT IT READS IS OF BULK AT MOST 1048576: true; the input reads as it did. -/
def cleanLeavesUptoRow : OpenClaim := { program := "ytcjekdfncnmbfaa", sum := "e99bb5eee06dead51aaf569da4ec3ad2698c10ff8d83eb2adbeecca806036a62", func := "watercress/watercresslaw04.CleanLeaves", spec := "cleanLeaves", unfollowed := true, recurses := true, plainKeys := false, apart := false, narrowed := true }
def CleanLeavesUptoSaid : Prop := cleanLeavesUptoRow.holds Try.pinned (OpenSpec.upto cleanLeavesSpec)

/-- 'watercresslaw04.CleanTruth', WHERE WHAT IT READS IS OF BULK AT MOST 1048576: true; the input reads as it did. -/
def cleanTruthUptoRow : OpenClaim := { program := "ytcjekdfncnmbfaa", sum := "e99bb5eee06dead51aaf569da4ec3ad2698c10ff8d83eb2adbeecca806036a62", func := "watercress/watercresslaw04.CleanTruth", spec := "cleanTruth", unfollowed := true, recurses := true, plainKeys := false, apart := false, narrowed := true }
def CleanTruthUptoSaid : Prop := cleanTruthUptoRow.holds Try.pinned (OpenSpec.upto cleanTruthSpec)

/-- 'watercresslaw04.CleanEach', WHERE WHAT IT READS IS OF BULK AT MOST 1048576: true; the input reads as it did. -/
def cleanEachUptoRow : OpenClaim := { program := "ytcjekdfncnmbfaa", sum := "e99bb5eee06dead51aaf569da4ec3ad2698c10ff8d83eb2adbeecca806036a62", func := "watercress/watercresslaw04.CleanEach", spec := "cleanEach", unfollowed := true, recurses := true, plainKeys := false, apart := false, narrowed := true }
def CleanEachUptoSaid : Prop := cleanEachUptoRow.holds Try.pinned (OpenSpec.upto cleanEachSpec)

/-- 'watercresslaw04.CleanHands', WHERE WHAT IT READS IS OF BULK AT MOST 1048576: true; the input reads as it did. -/
def cleanHandsUptoRow : OpenClaim := { program := "ytcjekdfncnmbfaa", sum := "e99bb5eee06dead51aaf569da4ec3ad2698c10ff8d83eb2adbeecca806036a62", func := "watercress/watercresslaw04.CleanHands", spec := "cleanHands", unfollowed := true, recurses := true, plainKeys := false, apart := false, narrowed := true }
def CleanHandsUptoSaid : Prop := cleanHandsUptoRow.holds Try.pinned (OpenSpec.upto cleanHandsSpec)

/-- 'watercresslaw04.CleanProof', WHERE WHAT IT READS IS OF BULK AT MOST 1048576: true; the input reads as it did. -/
def cleanProofUptoRow : OpenClaim := { program := "ytcjekdfncnmbfaa", sum := "e99bb5eee06dead51aaf569da4ec3ad2698c10ff8d83eb2adbeecca806036a62", func := "watercress/watercresslaw04.CleanProof", spec := "cleanProof", unfollowed := true, recurses := true, plainKeys := false, apart := false, narrowed := true }
def CleanProofUptoSaid : Prop := cleanProofUptoRow.holds Try.pinned (OpenSpec.upto cleanProofSpec)

/-- 'watercresslaw04.CleanMore', WHERE WHAT IT READS IS OF BULK AT MOST 1048576: true; the input reads as it did. -/
def cleanMoreUptoRow : OpenClaim := { program := "ytcjekdfncnmbfaa", sum := "e99bb5eee06dead51aaf569da4ec3ad2698c10ff8d83eb2adbeecca806036a62", func := "watercress/watercresslaw04.CleanMore", spec := "cleanMore", unfollowed := true, recurses := true, plainKeys := false, apart := false, narrowed := true }
def CleanMoreUptoSaid : Prop := cleanMoreUptoRow.holds Try.pinned (OpenSpec.upto cleanMoreSpec)

/-- 'watercresslaw04.CleanWider', WHERE WHAT IT READS IS OF BULK AT MOST 1048576: true; the input reads as it did. -/
def cleanWiderUptoRow : OpenClaim := { program := "ytcjekdfncnmbfaa", sum := "e99bb5eee06dead51aaf569da4ec3ad2698c10ff8d83eb2adbeecca806036a62", func := "watercress/watercresslaw04.CleanWider", spec := "cleanWider", unfollowed := true, recurses := true, plainKeys := false, apart := false, narrowed := true }
def CleanWiderUptoSaid : Prop := cleanWiderUptoRow.holds Try.pinned (OpenSpec.upto cleanWiderSpec)

/-- 'watercresslaw04.CleanFirst', WHERE WHAT IT READS IS OF BULK AT MOST 1048576: true; the input reads as it did. -/
def cleanFirstUptoRow : OpenClaim := { program := "ytcjekdfncnmbfaa", sum := "e99bb5eee06dead51aaf569da4ec3ad2698c10ff8d83eb2adbeecca806036a62", func := "watercress/watercresslaw04.CleanFirst", spec := "cleanFirst", unfollowed := true, recurses := true, plainKeys := false, apart := false, narrowed := true }
def CleanFirstUptoSaid : Prop := cleanFirstUptoRow.holds Try.pinned (OpenSpec.upto cleanFirstSpec)

/-- 'watercresslaw04.CleanLeft', WHERE WHAT IT READS IS OF BULK AT MOST 1048576: true; the input reads as it did. -/
def cleanLeftUptoRow : OpenClaim := { program := "ytcjekdfncnmbfaa", sum := "e99bb5eee06dead51aaf569da4ec3ad2698c10ff8d83eb2adbeecca806036a62", func := "watercress/watercresslaw04.CleanLeft", spec := "cleanLeft", unfollowed := true, recurses := true, plainKeys := false, apart := false, narrowed := true }
def CleanLeftUptoSaid : Prop := cleanLeftUptoRow.holds Try.pinned (OpenSpec.upto cleanLeftSpec)

/-- 'watercresslaw04.CleanTurned', WHERE WHAT IT READS IS OF BULK AT MOST 1048576: true; the input reads as it did. -/
def cleanTurnedUptoRow : OpenClaim := { program := "ytcjekdfncnmbfaa", sum := "e99bb5eee06dead51aaf569da4ec3ad2698c10ff8d83eb2adbeecca806036a62", func := "watercress/watercresslaw04.CleanTurned", spec := "cleanTurned", unfollowed := true, recurses := true, plainKeys := false, apart := false, narrowed := true }
def CleanTurnedUptoSaid : Prop := cleanTurnedUptoRow.holds Try.pinned (OpenSpec.upto cleanTurnedSpec)

/-- 'watercresslaw04.CleanOne', WHERE WHAT IT READS IS OF BULK AT MOST 1048576: true; the input reads as it did. -/
def cleanOneUptoRow : OpenClaim := { program := "ytcjekdfncnmbfaa", sum := "e99bb5eee06dead51aaf569da4ec3ad2698c10ff8d83eb2adbeecca806036a62", func := "watercress/watercresslaw04.CleanOne", spec := "cleanOne", unfollowed := true, recurses := true, plainKeys := false, apart := false, narrowed := true }
def CleanOneUptoSaid : Prop := cleanOneUptoRow.holds Try.pinned (OpenSpec.upto cleanOneSpec)

end Rows
end Go.Proofs.Ytcjekdfncnmbfaa
