/-
  No cell of these rows narrows 'for every input' (looked for: loops, veiled, ifaces, maps, wideKeys, modest, calm, conditions, laid).
  DERIVED. THE GIVEN ROWS OF THIS SEAT. 4 by the template 'for every input the law returns true; each argument reads behind the call as it read before'; 0 by the template 'total and deterministic' (their statements: YtkomalgeigefjaaTotals.lean).
  GIVEN WITH THE SEED: the statements are not yours to turn. If you find one false, say at which input.
  Laid BY PROGRAM, IN A SANDBOX (cutbox-rows.mjs): the forced cells as the released guide's own fill.sh prints them over the translation e3c692eb9a299e45… (all of the seat's roots in one cut). By AI agents, Wed Nov 11 2026. No macro, syntax, notation, axiom, sorry.
-/
import Derived.Test.YtkomalgeigefjaaChecked
import GoSem.Claim
import GoSem.ClaimJoined
import GoSem.ClaimMapViews
import Derived.JoinedTies
import Derived.KernelRfl
namespace Go.Proofs.Ytkomalgeigefjaa
/- THE CELL 'sum', in the pinned program and in every row, IS THE sha256 OF THE DUMP (.gsa) THAT YtkomalgeigefjaaProg.lean LOADS. Nothing in Lean hashes anything: it is a label: what it is worth is what the hold of that sum in a sandbox is worth. -/
noncomputable def Try.pinned : Pinned := { name := "ytkomalgeigefjaa", sum := "e3c692eb9a299e45ea7ab9f92c1bc641ee75c4feb4058076c7aa2fabe90e26cc", checked := Try.checked }
namespace Rows
def none {H : Type} : Left H := { results := [], args := [] }

/-- 'watercresslaw05.BunchPlays': WHATEVER THE INPUT: true; the input reads as it did. -/
def bunchPlaysSpec : ChangeSpec := { name := "bunchPlays", fn := fun _ => fun
  | [d1, d2] => { results := [.lit (.bool true)], args := [d1, d2] }
  | _ => none }
def bunchPlaysRow : OpenClaim := { program := "ytkomalgeigefjaa", sum := "e3c692eb9a299e45ea7ab9f92c1bc641ee75c4feb4058076c7aa2fabe90e26cc", func := "watercress/watercresslaw05.BunchPlays", spec := "bunchPlays", unfollowed := true, recurses := true, plainKeys := false, apart := false }
def BunchPlaysSaid : Prop := bunchPlaysRow.holds Try.pinned (OpenSpec.ofChange bunchPlaysSpec)

/-- ITS FALSE NEIGHBOUR: 'it returns false'. Refute it at one input. -/
def bunchPlaysWrong : ChangeSpec := { name := "bunchPlays", fn := fun _ => fun
  | [d1, d2] => { results := [.lit (.bool false)], args := [d1, d2] }
  | _ => none }
def BunchPlaysWrongFalsely : Prop := bunchPlaysRow.holds Try.pinned (OpenSpec.ofChange bunchPlaysWrong)

/-- 'watercresslaw05.BunchNames': WHATEVER THE INPUT: true; the input reads as it did. -/
def bunchNamesSpec : ChangeSpec := { name := "bunchNames", fn := fun _ => fun
  | [] => { results := [.lit (.bool true)], args := [] }
  | _ => none }
def bunchNamesRow : OpenClaim := { program := "ytkomalgeigefjaa", sum := "e3c692eb9a299e45ea7ab9f92c1bc641ee75c4feb4058076c7aa2fabe90e26cc", func := "watercress/watercresslaw05.BunchNames", spec := "bunchNames", unfollowed := true, recurses := true, plainKeys := false, apart := false }
def BunchNamesSaid : Prop := bunchNamesRow.holds Try.pinned (OpenSpec.ofChange bunchNamesSpec)

/-- ITS FALSE NEIGHBOUR: 'it returns false'. Refute it at one input. -/
def bunchNamesWrong : ChangeSpec := { name := "bunchNames", fn := fun _ => fun
  | [] => { results := [.lit (.bool false)], args := [] }
  | _ => none }
def BunchNamesWrongFalsely : Prop := bunchNamesRow.holds Try.pinned (OpenSpec.ofChange bunchNamesWrong)

/-- 'watercresslaw05.BunchThin': WHATEVER THE INPUT: true; the input reads as it did. -/
def bunchThinSpec : ChangeSpec := { name := "bunchThin", fn := fun _ => fun
  | [d1, d2, d3, d4] => { results := [.lit (.bool true)], args := [d1, d2, d3, d4] }
  | _ => none }
def bunchThinRow : OpenClaim := { program := "ytkomalgeigefjaa", sum := "e3c692eb9a299e45ea7ab9f92c1bc641ee75c4feb4058076c7aa2fabe90e26cc", func := "watercress/watercresslaw05.BunchThin", spec := "bunchThin", unfollowed := true, recurses := true, plainKeys := false, apart := false }
def BunchThinSaid : Prop := bunchThinRow.holds Try.pinned (OpenSpec.ofChange bunchThinSpec)

/-- ITS FALSE NEIGHBOUR: 'it returns false'. Refute it at one input. -/
def bunchThinWrong : ChangeSpec := { name := "bunchThin", fn := fun _ => fun
  | [d1, d2, d3, d4] => { results := [.lit (.bool false)], args := [d1, d2, d3, d4] }
  | _ => none }
def BunchThinWrongFalsely : Prop := bunchThinRow.holds Try.pinned (OpenSpec.ofChange bunchThinWrong)

/-- 'watercresslaw05.BunchLots': WHATEVER THE INPUT: true; the input reads as it did. -/
def bunchLotsSpec : ChangeSpec := { name := "bunchLots", fn := fun _ => fun
  | [d1, d2, d3, d4] => { results := [.lit (.bool true)], args := [d1, d2, d3, d4] }
  | _ => none }
def bunchLotsRow : OpenClaim := { program := "ytkomalgeigefjaa", sum := "e3c692eb9a299e45ea7ab9f92c1bc641ee75c4feb4058076c7aa2fabe90e26cc", func := "watercress/watercresslaw05.BunchLots", spec := "bunchLots", unfollowed := true, recurses := true, plainKeys := false, apart := false }
def BunchLotsSaid : Prop := bunchLotsRow.holds Try.pinned (OpenSpec.ofChange bunchLotsSpec)

/-- ITS FALSE NEIGHBOUR: 'it returns false'. Refute it at one input. -/
def bunchLotsWrong : ChangeSpec := { name := "bunchLots", fn := fun _ => fun
  | [d1, d2, d3, d4] => { results := [.lit (.bool false)], args := [d1, d2, d3, d4] }
  | _ => none }
def BunchLotsWrongFalsely : Prop := bunchLotsRow.holds Try.pinned (OpenSpec.ofChange bunchLotsWrong)

/- THE SECOND FORM. 'bulk': how many values and letters a reading holds, each counted each time it is reached (what is shared counts as often as it is met; a slice's spare places count too). A statement '..UptoSaid' is the law's where the arguments, and the package variables that the reading takes, are together of bulk at most 1048576: NARROWER than '..Said'. Prove '..Said' where nothing that the law and all that it calls make is longer than what came in: it says more and counts as full. Else prove '..UptoSaid'. A law counts once. -/
mutual
def uptoBulk {H : Type} : DataW H → Nat
  | .lit (.string bytes) => bytes.length + 1
  | .lit _ => 1
  | .nil => 1
  | .ptr d => uptoBulk d + 1
  | .slice elems spare => uptoBulkAll elems + uptoBulkAll spare + 1
  | .agg parts => uptoBulkAll parts + 1
  | .iface _ d => uptoBulk d + 1
  | .map entries => uptoBulkEntries entries + 1
  | .held _ => 1
def uptoBulkAll {H : Type} : List (DataW H) → Nat
  | [] => 0
  | d :: r => uptoBulk d + uptoBulkAll r
def uptoBulkEntries {H : Type} : List (Lit × DataW H) → Nat
  | [] => 0
  | x :: r => uptoBulkEntry x + uptoBulkEntries r
def uptoBulkEntry {H : Type} : Lit × DataW H → Nat
  | (.string bytes, d) => bytes.length + uptoBulk d + 1
  | (_, d) => uptoBulk d + 1
 end
def uptoSmall : (H : Type) → List (DataW H) → Bool := fun _ ds => decide (uptoBulkAll ds ≤ 1048576)
def OpenSpec.upto (s : _root_.Go.ChangeSpec) : _root_.Go.OpenSpec := { _root_.Go.OpenSpec.ofChange s with cond := some uptoSmall }

/-- 'watercresslaw05.BunchPlays', WHERE WHAT IT READS IS OF BULK AT MOST 1048576: true; the input reads as it did. -/
def bunchPlaysUptoRow : OpenClaim := { program := "ytkomalgeigefjaa", sum := "e3c692eb9a299e45ea7ab9f92c1bc641ee75c4feb4058076c7aa2fabe90e26cc", func := "watercress/watercresslaw05.BunchPlays", spec := "bunchPlays", unfollowed := true, recurses := true, plainKeys := false, apart := false, narrowed := true }
def BunchPlaysUptoSaid : Prop := bunchPlaysUptoRow.holds Try.pinned (OpenSpec.upto bunchPlaysSpec)

/-- 'watercresslaw05.BunchNames', WHERE WHAT IT READS IS OF BULK AT MOST 1048576: true; the input reads as it did. -/
def bunchNamesUptoRow : OpenClaim := { program := "ytkomalgeigefjaa", sum := "e3c692eb9a299e45ea7ab9f92c1bc641ee75c4feb4058076c7aa2fabe90e26cc", func := "watercress/watercresslaw05.BunchNames", spec := "bunchNames", unfollowed := true, recurses := true, plainKeys := false, apart := false, narrowed := true }
def BunchNamesUptoSaid : Prop := bunchNamesUptoRow.holds Try.pinned (OpenSpec.upto bunchNamesSpec)

/-- 'watercresslaw05.BunchThin', WHERE WHAT IT READS IS OF BULK AT MOST 1048576: true; the input reads as it did. -/
def bunchThinUptoRow : OpenClaim := { program := "ytkomalgeigefjaa", sum := "e3c692eb9a299e45ea7ab9f92c1bc641ee75c4feb4058076c7aa2fabe90e26cc", func := "watercress/watercresslaw05.BunchThin", spec := "bunchThin", unfollowed := true, recurses := true, plainKeys := false, apart := false, narrowed := true }
def BunchThinUptoSaid : Prop := bunchThinUptoRow.holds Try.pinned (OpenSpec.upto bunchThinSpec)

/-- 'watercresslaw05.BunchLots', WHERE WHAT IT READS IS OF BULK AT MOST 1048576: true; the input reads as it did. -/
def bunchLotsUptoRow : OpenClaim := { program := "ytkomalgeigefjaa", sum := "e3c692eb9a299e45ea7ab9f92c1bc641ee75c4feb4058076c7aa2fabe90e26cc", func := "watercress/watercresslaw05.BunchLots", spec := "bunchLots", unfollowed := true, recurses := true, plainKeys := false, apart := false, narrowed := true }
def BunchLotsUptoSaid : Prop := bunchLotsUptoRow.holds Try.pinned (OpenSpec.upto bunchLotsSpec)

end Rows
end Go.Proofs.Ytkomalgeigefjaa
