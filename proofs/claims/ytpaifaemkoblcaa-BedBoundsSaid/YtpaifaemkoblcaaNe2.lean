/- Own work of the verifier of watercress: FzG8, FzG5, FzD13, FzE4, FzG2, FzE5, FzG6, FzE6, FzG3, FzG4, FzG1, FzG7, FzG9. -/
import Derived.Below
import Derived.CallsIn
import Derived.Carry
import Derived.ChangeKeysEq
import Derived.ChangeSame
import Derived.Deep.Slices
import Derived.DeepKeys4
import Derived.JoinedCond
import Derived.Laws.AppendOwn
import Derived.Laws.Cells
import Derived.Laws.CopyRow
import Derived.Laws.Cover3
import Derived.Laws.Entries
import Derived.Laws.NewFold
import Derived.Laws.Sem
import Derived.Laws.Small
import Derived.Laws.StructEq
import Derived.Laws.Tables
import Derived.Laws.World
import Derived.Lib.SmallJoins
import Derived.Maps.Keyed
import Derived.Maps.RangeRun
import Derived.OpenShut
import Derived.OrdersHeld
import Derived.OrdersIn
import Derived.ProofKit
import Derived.RangeFuncLeaves
import Derived.RangeFuncRecord
import Derived.Shelf.Abstract
import Derived.WalkKit
import Derived.WideKeyArgs
import Derived.Test.YtpaifaemkoblcaaNa16
import Derived.Test.YtpaifaemkoblcaaNa24
import Derived.Test.YtpaifaemkoblcaaNa25
import Derived.Test.YtpaifaemkoblcaaNa26
import Derived.Test.YtpaifaemkoblcaaNa19
import Derived.Test.YtpaifaemkoblcaaNa20
import Derived.Test.YtpaifaemkoblcaaNa21
import Derived.Test.YtpaifaemkoblcaaNa22
import Derived.Test.YtpaifaemkoblcaaNa23
import Derived.Test.YtpaifaemkoblcaaNa27
import Derived.Test.YtpaifaemkoblcaaNa32
import Derived.Test.YtpaifaemkoblcaaNa35
import Derived.Test.YtpaifaemkoblcaaNa33
import Derived.Test.YtpaifaemkoblcaaNa34
import Derived.Test.YtpaifaemkoblcaaNa28
import Derived.Test.YtpaifaemkoblcaaNa29
import Derived.Test.YtpaifaemkoblcaaNa30
import Derived.Test.YtpaifaemkoblcaaNa31
import Derived.Test.YtpaifaemkoblcaaNa36
import Derived.Test.YtpaifaemkoblcaaNe0
import Derived.Test.YtpaifaemkoblcaaNa37
import Derived.Test.YtpaifaemkoblcaaNa38
import Derived.Test.YtpaifaemkoblcaaNa40
import Derived.Test.YtpaifaemkoblcaaNa39
import Derived.Test.YtpaifaemkoblcaaNa41
import Derived.Test.YtpaifaemkoblcaaNe1
import Derived.Test.YtpaifaemkoblcaaNa17
import Derived.Test.YtpaifaemkoblcaaNa18
import Derived.Test.YtpaifaemkoblcaaNa10
import Derived.Test.YtpaifaemkoblcaaNa12
import Derived.Test.YtpaifaemkoblcaaNa11
import Derived.Test.YtpaifaemkoblcaaNa13
import Derived.Test.YtpaifaemkoblcaaNa14
import Derived.Test.YtpaifaemkoblcaaNa0
import Derived.Test.YtpaifaemkoblcaaNa1
import Derived.Test.YtpaifaemkoblcaaNa2
import Derived.Test.YtpaifaemkoblcaaNa3
import Derived.Test.YtpaifaemkoblcaaNa4
import Derived.Test.YtpaifaemkoblcaaNa5
import Derived.Test.YtpaifaemkoblcaaNa6
import Derived.Test.YtpaifaemkoblcaaNa7
import Derived.Test.YtpaifaemkoblcaaNa8
import Derived.Test.YtpaifaemkoblcaaNa9
import Derived.Test.YtpaifaemkoblcaaProg
import Derived.Test.YtpaifaemkoblcaaRows
set_option linter.unusedVariables false
set_option linter.unusedSimpArgs false
set_option linter.unusedVariables false
set_option linter.unusedSimpArgs false
namespace Go.Fz
open Go.Proofs
set_option maxRecDepth 100000
set_option maxHeartbeats 8000000 in
theorem bound34_ok (a0 b0 a1 b1 a2 b2 : Int) : Pure Try.prog 34 [.agg [iV a0, iV b0, iV a1, iV b1, iV a2, iV b2], .agg [iV a0, iV b0, iV a1, iV b1, iV a2, iV b2]] (.lit (.bool true)) := by
  obtain ⟨O, hO⟩ : ∃ O : Ar, O = std := ⟨_, rfl⟩
  have e70a := to_ok a0 b0
  have e70b := to_ok a1 b1
  have e70c := to_ok a2 b2
  refine pure_of_body tok 3 Try.func34 en34 rfl ⟨Below.agg (AllB.ok ⟨Below.lit, Below.lit, Below.lit, Below.lit, Below.lit, Below.lit, trivial⟩), Below.agg (AllB.ok ⟨Below.lit, Below.lit, Below.lit, Below.lit, Below.lit, Below.lit, trivial⟩), trivial⟩ Below.lit ?_
  refine SW.seqRun tok hO (by cbv <;> rfl) (by trivial) ?_
  refine SW.seqRunDN tok mixed hO 4 (by kernel_rfl) (by cbv <;> rfl) (by trivial) ?_
  refine AnyE.callP e70a (by cbv <;> rfl) (by cbv <;> rfl) ?_
  refine AnyE.run tok hO (by kernel_rfl) (by cbv <;> rfl) (by trivial) ?_
  refine AnyE.dec tok hO (by kernel_rfl) (by cbv <;> rfl) (by trivial) (fun hw1 => ?_) (fun hw1 => by first | (cases hw1; done) | (subst hO; simp [std] at hw1; done) | (subst hO; simp [std] at hw1; omega))
  refine AnyE.runN tok hO 4 (by kernel_rfl) (by cbv <;> rfl) (by trivial) ?_
  refine AnyE.run tok hO (by kernel_rfl) (by cbv <;> rfl) (by trivial) ?_
  refine AnyE.callP e70b (by cbv <;> rfl) (by cbv <;> rfl) ?_
  refine AnyE.run tok hO (by kernel_rfl) (by cbv <;> rfl) (by trivial) ?_
  refine AnyE.dec tok hO (by kernel_rfl) (by cbv <;> rfl) (by trivial) (fun hw2 => ?_) (fun hw2 => by first | (cases hw2; done) | (subst hO; simp [std] at hw2; done) | (subst hO; simp [std] at hw2; omega))
  refine AnyE.runN tok hO 4 (by kernel_rfl) (by cbv <;> rfl) (by trivial) ?_
  refine AnyE.run tok hO (by kernel_rfl) (by cbv <;> rfl) (by trivial) ?_
  refine AnyE.callP e70c (by cbv <;> rfl) (by cbv <;> rfl) ?_
  refine AnyE.run tok hO (by kernel_rfl) (by cbv <;> rfl) (by trivial) ?_
  refine AnyE.dec tok hO (by kernel_rfl) (by cbv <;> rfl) (by trivial) (fun hw3 => ?_) (fun hw3 => by first | (cases hw3; done) | (subst hO; simp [std] at hw3; done) | (subst hO; simp [std] at hw3; omega))
  refine AnyE.run tok hO (by kernel_rfl) (by cbv <;> rfl) (by trivial) ?_
  exact SW.ret ⟨_, _, rfl, rfl, Eqv.of rfl⟩
set_option maxHeartbeats 8000000 in
theorem bb_not (haw : Pure Try.prog 19 [] (.lit (.bool true))) (f : FarmD) (w : Int) (e18 : Pure Try.prog 18 [farmV f] (.sb false)) : Pure Try.prog 4 [farmV f, iV w] (.lit (.bool true)) := by
  obtain ⟨O, hO⟩ : ∃ O : Ar, O = std := ⟨_, rfl⟩
  refine pure_of_body tok 3 Try.func4 en4 rfl ⟨farmV_below f, Below.lit, trivial⟩ Below.lit ?_
  refine SW.seqRun tok hO (by cbv <;> rfl) (by trivial) ?_
  refine SW.seq ?_
  refine SW.seqRun tok hO (by cbv <;> rfl) (by trivial) ?_
  refine OpsW.callP e18 (by cbv <;> rfl) ?_
  refine OpsW.run tok hO (by cbv <;> rfl) (by trivial) ?_
  refine SW.condS (by cbv <;> rfl) (fun hw1 => ?_) (fun hw1 => by first | (cases hw1; done) | (subst hO; simp [std] at hw1; done) | (subst hO; simp [std] at hw1; omega))
  refine SW.seqRun tok hO (by cbv <;> rfl) (by trivial) ?_
  refine OpsW.callP haw (by cbv <;> rfl) ?_
  refine OpsW.run tok hO (by cbv <;> rfl) (by trivial) ?_
  exact SW.ret ⟨_, _, rfl, rfl, Eqv.of rfl⟩
set_option maxHeartbeats 8000000 in
theorem bb_bad (haw : Pure Try.prog 19 [] (.lit (.bool true))) (f : FarmD) (w : Int) (E : Int) (hE : ¬ E = 0) (e18 : Pure Try.prog 18 [farmV f] (.sb true)) (e21 : Pure Try.prog 21 [farmV f] (farmV f)) (e29 : Pure Try.prog 29 [farmV f] (.tup [nl3, iV E])) (e30 : Pure Try.prog 30 [farmV f, iV w] (.tup [iV 0, iV E])) (e31 : Pure Try.prog 31 [farmV f] (.tup [nl3, iV E])) (e24 : Pure Try.prog 24 [farmV f] (iV E)) : Pure Try.prog 4 [farmV f, iV w] (.lit (.bool true)) := by
  obtain ⟨O, hO⟩ : ∃ O : Ar, O = std := ⟨_, rfl⟩
  refine pure_of_body tok 3 Try.func4 en4 rfl ⟨farmV_below f, Below.lit, trivial⟩ Below.lit ?_
  refine SW.seqRun tok hO (by cbv <;> rfl) (by trivial) ?_
  refine SW.seq ?_
  refine SW.seqRun tok hO (by cbv <;> rfl) (by trivial) ?_
  refine OpsW.callP e18 (by cbv <;> rfl) ?_
  refine OpsW.run tok hO (by cbv <;> rfl) (by trivial) ?_
  refine SW.condS (by cbv <;> rfl) (fun hw1 => by first | (cases hw1; done) | (subst hO; simp [std, hE] at hw1; done) | (subst hO; simp [std, hE] at hw1; omega)) (fun hw1 => SW.skip ?_)
  refine SW.seqRun tok hO (by cbv <;> rfl) (by trivial) ?_
  refine OpsW.callP e21 (by cbv <;> rfl) ?_
  refine OpsW.run tok hO (by cbv <;> rfl) (by trivial) ?_
  refine OpsW.callP e29 (by cbv <;> rfl) ?_
  refine OpsW.run tok hO (by cbv <;> rfl) (by trivial) ?_
  refine SW.seqRun tok hO (by cbv <;> rfl) (by trivial) ?_
  refine OpsW.callP e21 (by cbv <;> rfl) ?_
  refine OpsW.run tok hO (by cbv <;> rfl) (by trivial) ?_
  refine OpsW.callP e30 (by cbv <;> rfl) ?_
  refine OpsW.run tok hO (by cbv <;> rfl) (by trivial) ?_
  refine SW.seqRun tok hO (by cbv <;> rfl) (by trivial) ?_
  refine OpsW.callP e31 (by cbv <;> rfl) ?_
  refine OpsW.run tok hO (by cbv <;> rfl) (by trivial) ?_
  refine SW.seqRun tok hO (by cbv <;> rfl) (by trivial) ?_
  refine SW.seq ?_
  refine SW.seqRun tok hO (by cbv <;> rfl) (by trivial) ?_
  refine OpsW.callP e24 (by cbv <;> rfl) ?_
  refine OpsW.run tok hO (by cbv <;> rfl) (by trivial) ?_
  refine OpsW.splitG (by cbv <;> rfl) (fun hw2 => by first | (cases hw2; done) | (subst hO; simp [std, hE] at hw2; done) | (subst hO; simp [std, hE] at hw2; omega)) (fun hw2 => ?_)
  refine OpsW.run tok hO (by cbv <;> rfl) (by trivial) ?_
  refine SW.cond (t := false) (by cbv <;> rfl) (SW.skip ?_)
  refine SW.seq ?_
  refine SW.seqRun tok hO (by cbv <;> rfl) (by trivial) ?_
  refine OpsW.splitG (by cbv <;> rfl) (fun hw3 => by first | (cases hw3; done) | (subst hO; simp [std, hE] at hw3; done) | (subst hO; simp [std, hE] at hw3; omega)) (fun hw3 => ?_)
  refine OpsW.run tok hO (by cbv <;> rfl) (by trivial) ?_
  refine OpsW.splitG (by cbv <;> rfl) (fun hw4 => by first | (cases hw4; done) | (subst hO; simp [std, hE] at hw4; done) | (subst hO; simp [std, hE] at hw4; omega)) (fun hw4 => ?_)
  refine OpsW.run tok hO (by cbv <;> rfl) (by trivial) ?_
  refine OpsW.splitG (by cbv <;> rfl) (fun hw5 => ?_) (fun hw5 => by first | (cases hw5; done) | (subst hO; simp [std, hE] at hw5; done) | (subst hO; simp [std, hE] at hw5; omega))
  refine OpsW.run tok hO (by cbv <;> rfl) (by trivial) ?_
  refine SW.condS (by cbv <;> rfl) (fun hw6 => by first | (cases hw6; done) | (subst hO; simp [std, hE] at hw6; done) | (subst hO; simp [std, hE] at hw6; omega)) (fun hw6 => SW.skip ?_)
  refine SW.seq ?_
  refine SW.seqRun tok hO (by cbv <;> rfl) (by trivial) ?_
  refine SW.condS (by cbv <;> rfl) (fun hw7 => ?_) (fun hw7 => by first | (cases hw7; done) | (subst hO; simp [std, hE] at hw7; done) | (subst hO; simp [std, hE] at hw7; omega))
  refine SW.seqRun tok hO (by cbv <;> rfl) (by trivial) ?_
  refine OpsW.splitG (by cbv <;> rfl) (fun hw8 => ?_) (fun hw8 => by first | (cases hw8; done) | (subst hO; simp [std, hE] at hw8; done) | (subst hO; simp [std, hE] at hw8; omega))
  refine OpsW.run tok hO (by cbv <;> rfl) (by trivial) ?_
  refine OpsW.callP haw (by cbv <;> rfl) ?_
  refine OpsW.run tok hO (by cbv <;> rfl) (by trivial) ?_
  exact SW.ret ⟨_, _, rfl, rfl, Eqv.of rfl⟩
set_option maxHeartbeats 8000000 in
theorem bb_off0 (haw : Pure Try.prog 19 [] (.lit (.bool true))) (f : FarmD) (w : Int) (e18 : Pure Try.prog 18 [farmV f] (.sb true)) (e21 : Pure Try.prog 21 [farmV f] (farmV f)) (e29 : Pure Try.prog 29 [farmV f] (.tup [nl3, iV 11])) (e30 : Pure Try.prog 30 [farmV f, iV w] (.tup [iV 0, iV 2])) (e31 : Pure Try.prog 31 [farmV f] (.tup [nl3, iV 11])) (e24 : Pure Try.prog 24 [farmV f] (iV 0)) (e32 : Pure Try.prog 32 [farmV f, iV w] (.lit (.bool false))) : Pure Try.prog 4 [farmV f, iV w] (.lit (.bool true)) := by
  obtain ⟨O, hO⟩ : ∃ O : Ar, O = std := ⟨_, rfl⟩
  refine pure_of_body tok 3 Try.func4 en4 rfl ⟨farmV_below f, Below.lit, trivial⟩ Below.lit ?_
  refine SW.seqRun tok hO (by cbv <;> rfl) (by trivial) ?_
  refine SW.seq ?_
  refine SW.seqRun tok hO (by cbv <;> rfl) (by trivial) ?_
  refine OpsW.callP e18 (by cbv <;> rfl) ?_
  refine OpsW.run tok hO (by cbv <;> rfl) (by trivial) ?_
  refine SW.condS (by cbv <;> rfl) (fun hw1 => by first | (cases hw1; done) | (subst hO; simp [std] at hw1; done) | (subst hO; simp [std] at hw1; omega)) (fun hw1 => SW.skip ?_)
  refine SW.seqRun tok hO (by cbv <;> rfl) (by trivial) ?_
  refine OpsW.callP e21 (by cbv <;> rfl) ?_
  refine OpsW.run tok hO (by cbv <;> rfl) (by trivial) ?_
  refine OpsW.callP e29 (by cbv <;> rfl) ?_
  refine OpsW.run tok hO (by cbv <;> rfl) (by trivial) ?_
  refine SW.seqRun tok hO (by cbv <;> rfl) (by trivial) ?_
  refine OpsW.callP e21 (by cbv <;> rfl) ?_
  refine OpsW.run tok hO (by cbv <;> rfl) (by trivial) ?_
  refine OpsW.callP e30 (by cbv <;> rfl) ?_
  refine OpsW.run tok hO (by cbv <;> rfl) (by trivial) ?_
  refine SW.seqRun tok hO (by cbv <;> rfl) (by trivial) ?_
  refine OpsW.callP e31 (by cbv <;> rfl) ?_
  refine OpsW.run tok hO (by cbv <;> rfl) (by trivial) ?_
  refine SW.seqRun tok hO (by cbv <;> rfl) (by trivial) ?_
  refine SW.seq ?_
  refine SW.seqRun tok hO (by cbv <;> rfl) (by trivial) ?_
  refine OpsW.callP e24 (by cbv <;> rfl) ?_
  refine OpsW.run tok hO (by cbv <;> rfl) (by trivial) ?_
  refine OpsW.splitG (by cbv <;> rfl) (fun hw2 => ?_) (fun hw2 => by first | (cases hw2; done) | (subst hO; simp [std] at hw2; done) | (subst hO; simp [std] at hw2; omega))
  refine OpsW.run tok hO (by cbv <;> rfl) (by trivial) ?_
  refine OpsW.callP e32 (by cbv <;> rfl) ?_
  refine OpsW.run tok hO (by cbv <;> rfl) (by trivial) ?_
  refine SW.cond (t := true) (by cbv <;> rfl) ?_
  refine SW.run tok hO (by cbv <;> rfl) (by trivial) ?_
  refine SW.seq ?_
  refine SW.seqRun tok hO (by cbv <;> rfl) (by trivial) ?_
  refine OpsW.splitG (by cbv <;> rfl) (fun hw3 => by first | (cases hw3; done) | (subst hO; simp [std] at hw3; done) | (subst hO; simp [std] at hw3; omega)) (fun hw3 => ?_)
  refine OpsW.run tok hO (by cbv <;> rfl) (by trivial) ?_
  refine OpsW.splitG (by cbv <;> rfl) (fun hw4 => by first | (cases hw4; done) | (subst hO; simp [std] at hw4; done) | (subst hO; simp [std] at hw4; omega)) (fun hw4 => ?_)
  refine OpsW.run tok hO (by cbv <;> rfl) (by trivial) ?_
  refine OpsW.splitG (by cbv <;> rfl) (fun hw5 => ?_) (fun hw5 => by first | (cases hw5; done) | (subst hO; simp [std] at hw5; done) | (subst hO; simp [std] at hw5; omega))
  refine OpsW.run tok hO (by cbv <;> rfl) (by trivial) ?_
  refine SW.condS (by cbv <;> rfl) (fun hw6 => by first | (cases hw6; done) | (subst hO; simp [std] at hw6; done) | (subst hO; simp [std] at hw6; omega)) (fun hw6 => SW.skip ?_)
  refine SW.seq ?_
  refine SW.seqRun tok hO (by cbv <;> rfl) (by trivial) ?_
  refine SW.condS (by cbv <;> rfl) (fun hw7 => ?_) (fun hw7 => by first | (cases hw7; done) | (subst hO; simp [std] at hw7; done) | (subst hO; simp [std] at hw7; omega))
  refine SW.seqRun tok hO (by cbv <;> rfl) (by trivial) ?_
  refine OpsW.splitG (by cbv <;> rfl) (fun hw8 => ?_) (fun hw8 => by first | (cases hw8; done) | (subst hO; simp [std] at hw8; done) | (subst hO; simp [std] at hw8; omega))
  refine OpsW.run tok hO (by cbv <;> rfl) (by trivial) ?_
  refine OpsW.callP haw (by cbv <;> rfl) ?_
  refine OpsW.run tok hO (by cbv <;> rfl) (by trivial) ?_
  exact SW.ret ⟨_, _, rfl, rfl, Eqv.of rfl⟩
set_option maxHeartbeats 8000000 in
theorem bb_on0 (haw : Pure Try.prog 19 [] (.lit (.bool true))) (f : FarmD) (w : Int) (e18 : Pure Try.prog 18 [farmV f] (.sb true)) (e21 : Pure Try.prog 21 [farmV f] (farmV f)) (e29 : Pure Try.prog 29 [farmV f] (.tup [nl3, iV 11])) (e30 : Pure Try.prog 30 [farmV f, iV w] (.tup [iV 0, iV 11])) (e31 : Pure Try.prog 31 [farmV f] (.tup [nl3, iV 11])) (e24 : Pure Try.prog 24 [farmV f] (iV 0)) (e32 : Pure Try.prog 32 [farmV f, iV w] (.lit (.bool true))) : Pure Try.prog 4 [farmV f, iV w] (.lit (.bool true)) := by
  obtain ⟨O, hO⟩ : ∃ O : Ar, O = std := ⟨_, rfl⟩
  refine pure_of_body tok 3 Try.func4 en4 rfl ⟨farmV_below f, Below.lit, trivial⟩ Below.lit ?_
  refine SW.seqRun tok hO (by cbv <;> rfl) (by trivial) ?_
  refine SW.seq ?_
  refine SW.seqRun tok hO (by cbv <;> rfl) (by trivial) ?_
  refine OpsW.callP e18 (by cbv <;> rfl) ?_
  refine OpsW.run tok hO (by cbv <;> rfl) (by trivial) ?_
  refine SW.condS (by cbv <;> rfl) (fun hw1 => by first | (cases hw1; done) | (subst hO; simp [std] at hw1; done) | (subst hO; simp [std] at hw1; omega)) (fun hw1 => SW.skip ?_)
  refine SW.seqRun tok hO (by cbv <;> rfl) (by trivial) ?_
  refine OpsW.callP e21 (by cbv <;> rfl) ?_
  refine OpsW.run tok hO (by cbv <;> rfl) (by trivial) ?_
  refine OpsW.callP e29 (by cbv <;> rfl) ?_
  refine OpsW.run tok hO (by cbv <;> rfl) (by trivial) ?_
  refine SW.seqRun tok hO (by cbv <;> rfl) (by trivial) ?_
  refine OpsW.callP e21 (by cbv <;> rfl) ?_
  refine OpsW.run tok hO (by cbv <;> rfl) (by trivial) ?_
  refine OpsW.callP e30 (by cbv <;> rfl) ?_
  refine OpsW.run tok hO (by cbv <;> rfl) (by trivial) ?_
  refine SW.seqRun tok hO (by cbv <;> rfl) (by trivial) ?_
  refine OpsW.callP e31 (by cbv <;> rfl) ?_
  refine OpsW.run tok hO (by cbv <;> rfl) (by trivial) ?_
  refine SW.seqRun tok hO (by cbv <;> rfl) (by trivial) ?_
  refine SW.seq ?_
  refine SW.seqRun tok hO (by cbv <;> rfl) (by trivial) ?_
  refine OpsW.callP e24 (by cbv <;> rfl) ?_
  refine OpsW.run tok hO (by cbv <;> rfl) (by trivial) ?_
  refine OpsW.splitG (by cbv <;> rfl) (fun hw2 => ?_) (fun hw2 => by first | (cases hw2; done) | (subst hO; simp [std] at hw2; done) | (subst hO; simp [std] at hw2; omega))
  refine OpsW.run tok hO (by cbv <;> rfl) (by trivial) ?_
  refine OpsW.callP e32 (by cbv <;> rfl) ?_
  refine OpsW.run tok hO (by cbv <;> rfl) (by trivial) ?_
  refine SW.cond (t := false) (by cbv <;> rfl) (SW.skip ?_)
  refine SW.seq ?_
  refine SW.seqRun tok hO (by cbv <;> rfl) (by trivial) ?_
  refine OpsW.splitG (by cbv <;> rfl) (fun hw3 => by first | (cases hw3; done) | (subst hO; simp [std] at hw3; done) | (subst hO; simp [std] at hw3; omega)) (fun hw3 => ?_)
  refine OpsW.run tok hO (by cbv <;> rfl) (by trivial) ?_
  refine OpsW.splitG (by cbv <;> rfl) (fun hw4 => by first | (cases hw4; done) | (subst hO; simp [std] at hw4; done) | (subst hO; simp [std] at hw4; omega)) (fun hw4 => ?_)
  refine OpsW.run tok hO (by cbv <;> rfl) (by trivial) ?_
  refine OpsW.splitG (by cbv <;> rfl) (fun hw5 => ?_) (fun hw5 => by first | (cases hw5; done) | (subst hO; simp [std] at hw5; done) | (subst hO; simp [std] at hw5; omega))
  refine OpsW.run tok hO (by cbv <;> rfl) (by trivial) ?_
  refine SW.condS (by cbv <;> rfl) (fun hw6 => by first | (cases hw6; done) | (subst hO; simp [std] at hw6; done) | (subst hO; simp [std] at hw6; omega)) (fun hw6 => SW.skip ?_)
  refine SW.seq ?_
  refine SW.seqRun tok hO (by cbv <;> rfl) (by trivial) ?_
  refine SW.condS (by cbv <;> rfl) (fun hw7 => ?_) (fun hw7 => by first | (cases hw7; done) | (subst hO; simp [std] at hw7; done) | (subst hO; simp [std] at hw7; omega))
  refine SW.seqRun tok hO (by cbv <;> rfl) (by trivial) ?_
  refine OpsW.splitG (by cbv <;> rfl) (fun hw8 => ?_) (fun hw8 => by first | (cases hw8; done) | (subst hO; simp [std] at hw8; done) | (subst hO; simp [std] at hw8; omega))
  refine OpsW.run tok hO (by cbv <;> rfl) (by trivial) ?_
  refine OpsW.callP haw (by cbv <;> rfl) ?_
  refine OpsW.run tok hO (by cbv <;> rfl) (by trivial) ?_
  exact SW.ret ⟨_, _, rfl, rfl, Eqv.of rfl⟩
set_option maxHeartbeats 8000000 in
theorem bb_off (f : FarmD) (w : Int) (G : Nat → Nat → Int) (N : Nat) (gl : Nat → Nat → AV) (e18 : Pure Try.prog 18 [farmV f] (.sb true)) (e21 : Pure Try.prog 21 [farmV f] (farmV f)) (e29 : Pure Try.prog 29 [farmV f] (.tup [.isl f.nb 6 false (fun i k => iV (G i k)), iV 0])) (e30 : Pure Try.prog 30 [farmV f, iV w] (.tup [iV 0, iV 2])) (e31 : Pure Try.prog 31 [farmV f] (.tup [.isl N 1 false gl, iV 0])) (e24 : Pure Try.prog 24 [farmV f] (iV 0)) (e32 : Pure Try.prog 32 [farmV f, iV w] (.lit (.bool false)))
    (htail : ∀ (gg : Nat → AV), AllP (fun p => gg p.1 = p.2) [(2, .ptr 0 0), (5, .isl f.nb 6 false (fun i k => iV (G i k))), (9, .isl N 1 false gl)] → SW Try.prog none (restC 10 (bodyF Try.f4)) (trueQ3 Try.f4) ⟨⟨104, gg⟩, []⟩ ⟨[(0, .cells none false (farmL f))], 1⟩) : Pure Try.prog 4 [farmV f, iV w] (.lit (.bool true)) := by
  obtain ⟨O, hO⟩ : ∃ O : Ar, O = std := ⟨_, rfl⟩
  refine pure_of_body tok 3 Try.func4 en4 rfl ⟨farmV_below f, Below.lit, trivial⟩ Below.lit ?_
  refine SW.seqRun tok hO (by cbv <;> rfl) (by trivial) ?_
  refine SW.seq ?_
  refine SW.seqRun tok hO (by cbv <;> rfl) (by trivial) ?_
  refine OpsW.callP e18 (by cbv <;> rfl) ?_
  refine OpsW.run tok hO (by cbv <;> rfl) (by trivial) ?_
  refine SW.condS (by cbv <;> rfl) (fun hw1 => by first | (cases hw1; done) | (subst hO; simp [std] at hw1; done) | (subst hO; simp [std] at hw1; omega)) (fun hw1 => SW.skip ?_)
  refine SW.seqRun tok hO (by cbv <;> rfl) (by trivial) ?_
  refine OpsW.callP e21 (by cbv <;> rfl) ?_
  refine OpsW.run tok hO (by cbv <;> rfl) (by trivial) ?_
  refine OpsW.callP e29 (by cbv <;> rfl) ?_
  refine OpsW.run tok hO (by cbv <;> rfl) (by trivial) ?_
  refine SW.seqRun tok hO (by cbv <;> rfl) (by trivial) ?_
  refine OpsW.callP e21 (by cbv <;> rfl) ?_
  refine OpsW.run tok hO (by cbv <;> rfl) (by trivial) ?_
  refine OpsW.callP e30 (by cbv <;> rfl) ?_
  refine OpsW.run tok hO (by cbv <;> rfl) (by trivial) ?_
  refine SW.seqRun tok hO (by cbv <;> rfl) (by trivial) ?_
  refine OpsW.callP e31 (by cbv <;> rfl) ?_
  refine OpsW.run tok hO (by cbv <;> rfl) (by trivial) ?_
  refine SW.seqRun tok hO (by cbv <;> rfl) (by trivial) ?_
  refine SW.seq ?_
  refine SW.seqRun tok hO (by cbv <;> rfl) (by trivial) ?_
  refine OpsW.callP e24 (by cbv <;> rfl) ?_
  refine OpsW.run tok hO (by cbv <;> rfl) (by trivial) ?_
  refine OpsW.splitG (by cbv <;> rfl) (fun hw2 => ?_) (fun hw2 => by first | (cases hw2; done) | (subst hO; simp [std] at hw2; done) | (subst hO; simp [std] at hw2; omega))
  refine OpsW.run tok hO (by cbv <;> rfl) (by trivial) ?_
  refine OpsW.callP e32 (by cbv <;> rfl) ?_
  refine OpsW.run tok hO (by cbv <;> rfl) (by trivial) ?_
  refine SW.cond (t := true) (by cbv <;> rfl) ?_
  refine SW.run tok hO (by cbv <;> rfl) (by trivial) ?_
  refine SW.seq ?_
  refine SW.seqRun tok hO (by cbv <;> rfl) (by trivial) ?_
  refine OpsW.splitG (by cbv <;> rfl) (fun hw3 => by first | (cases hw3; done) | (subst hO; simp [std] at hw3; done) | (subst hO; simp [std] at hw3; omega)) (fun hw3 => ?_)
  refine OpsW.run tok hO (by cbv <;> rfl) (by trivial) ?_
  refine OpsW.splitG (by cbv <;> rfl) (fun hw4 => by first | (cases hw4; done) | (subst hO; simp [std] at hw4; done) | (subst hO; simp [std] at hw4; omega)) (fun hw4 => ?_)
  refine OpsW.run tok hO (by cbv <;> rfl) (by trivial) ?_
  refine OpsW.splitG (by cbv <;> rfl) (fun hw5 => ?_) (fun hw5 => by first | (cases hw5; done) | (subst hO; simp [std] at hw5; done) | (subst hO; simp [std] at hw5; omega))
  refine OpsW.run tok hO (by cbv <;> rfl) (by trivial) ?_
  refine SW.condS (by cbv <;> rfl) (fun hw6 => by first | (cases hw6; done) | (subst hO; simp [std] at hw6; done) | (subst hO; simp [std] at hw6; omega)) (fun hw6 => SW.skip ?_)
  refine SW.seq ?_
  refine SW.seqRun tok hO (by cbv <;> rfl) (by trivial) ?_
  refine SW.condS (by cbv <;> rfl) (fun hw7 => by first | (cases hw7; done) | (subst hO; simp [std] at hw7; done) | (subst hO; simp [std] at hw7; omega)) (fun hw7 => SW.skip ?_)
  refine SW.seq ?_
  refine SW.seqRun tok hO (by cbv <;> rfl) (by trivial) ?_
  refine OpsW.splitG (by cbv <;> rfl) (fun hw8 => by first | (cases hw8; done) | (subst hO; simp [std] at hw8; done) | (subst hO; simp [std] at hw8; omega)) (fun hw8 => ?_)
  refine OpsW.run tok hO (by cbv <;> rfl) (by trivial) ?_
  refine OpsW.splitG (by cbv <;> rfl) (fun hw9 => by first | (cases hw9; done) | (subst hO; simp [std] at hw9; done) | (subst hO; simp [std] at hw9; omega)) (fun hw9 => ?_)
  refine OpsW.run tok hO (by cbv <;> rfl) (by trivial) ?_
  refine SW.cond (t := false) (by cbv <;> rfl) (SW.skip ?_)
  exact htail _ ⟨rfl, rfl, rfl, trivial⟩
set_option maxHeartbeats 8000000 in
theorem bb_on (f : FarmD) (w : Int) (G : Nat → Nat → Int) (N : Nat) (gl : Nat → Nat → AV) (v : Int) (e18 : Pure Try.prog 18 [farmV f] (.sb true)) (e21 : Pure Try.prog 21 [farmV f] (farmV f)) (e29 : Pure Try.prog 29 [farmV f] (.tup [.isl f.nb 6 false (fun i k => iV (G i k)), iV 0])) (e30 : Pure Try.prog 30 [farmV f, iV w] (.tup [iV v, iV 0])) (e31 : Pure Try.prog 31 [farmV f] (.tup [.isl N 1 false gl, iV 0])) (e24 : Pure Try.prog 24 [farmV f] (iV 0)) (e32 : Pure Try.prog 32 [farmV f, iV w] (.lit (.bool true))) (e33 : Pure Try.prog 33 [farmV f, .isl N 1 false gl, iV w] (iV v))
    (htail : ∀ (gg : Nat → AV), AllP (fun p => gg p.1 = p.2) [(2, .ptr 0 0), (5, .isl f.nb 6 false (fun i k => iV (G i k))), (9, .isl N 1 false gl)] → SW Try.prog none (restC 10 (bodyF Try.f4)) (trueQ3 Try.f4) ⟨⟨104, gg⟩, []⟩ ⟨[(0, .cells none false (farmL f))], 1⟩) : Pure Try.prog 4 [farmV f, iV w] (.lit (.bool true)) := by
  obtain ⟨O, hO⟩ : ∃ O : Ar, O = std := ⟨_, rfl⟩
  refine pure_of_body tok 3 Try.func4 en4 rfl ⟨farmV_below f, Below.lit, trivial⟩ Below.lit ?_
  refine SW.seqRun tok hO (by cbv <;> rfl) (by trivial) ?_
  refine SW.seq ?_
  refine SW.seqRun tok hO (by cbv <;> rfl) (by trivial) ?_
  refine OpsW.callP e18 (by cbv <;> rfl) ?_
  refine OpsW.run tok hO (by cbv <;> rfl) (by trivial) ?_
  refine SW.condS (by cbv <;> rfl) (fun hw1 => by first | (cases hw1; done) | (subst hO; simp [std] at hw1; done) | (subst hO; simp [std] at hw1; omega)) (fun hw1 => SW.skip ?_)
  refine SW.seqRun tok hO (by cbv <;> rfl) (by trivial) ?_
  refine OpsW.callP e21 (by cbv <;> rfl) ?_
  refine OpsW.run tok hO (by cbv <;> rfl) (by trivial) ?_
  refine OpsW.callP e29 (by cbv <;> rfl) ?_
  refine OpsW.run tok hO (by cbv <;> rfl) (by trivial) ?_
  refine SW.seqRun tok hO (by cbv <;> rfl) (by trivial) ?_
  refine OpsW.callP e21 (by cbv <;> rfl) ?_
  refine OpsW.run tok hO (by cbv <;> rfl) (by trivial) ?_
  refine OpsW.callP e30 (by cbv <;> rfl) ?_
  refine OpsW.run tok hO (by cbv <;> rfl) (by trivial) ?_
  refine SW.seqRun tok hO (by cbv <;> rfl) (by trivial) ?_
  refine OpsW.callP e31 (by cbv <;> rfl) ?_
  refine OpsW.run tok hO (by cbv <;> rfl) (by trivial) ?_
  refine SW.seqRun tok hO (by cbv <;> rfl) (by trivial) ?_
  refine SW.seq ?_
  refine SW.seqRun tok hO (by cbv <;> rfl) (by trivial) ?_
  refine OpsW.callP e24 (by cbv <;> rfl) ?_
  refine OpsW.run tok hO (by cbv <;> rfl) (by trivial) ?_
  refine OpsW.splitG (by cbv <;> rfl) (fun hw2 => ?_) (fun hw2 => by first | (cases hw2; done) | (subst hO; simp [std] at hw2; done) | (subst hO; simp [std] at hw2; omega))
  refine OpsW.run tok hO (by cbv <;> rfl) (by trivial) ?_
  refine OpsW.callP e32 (by cbv <;> rfl) ?_
  refine OpsW.run tok hO (by cbv <;> rfl) (by trivial) ?_
  refine SW.cond (t := false) (by cbv <;> rfl) (SW.skip ?_)
  refine SW.seq ?_
  refine SW.seqRun tok hO (by cbv <;> rfl) (by trivial) ?_
  refine OpsW.splitG (by cbv <;> rfl) (fun hw3 => by first | (cases hw3; done) | (subst hO; simp [std] at hw3; done) | (subst hO; simp [std] at hw3; omega)) (fun hw3 => ?_)
  refine OpsW.run tok hO (by cbv <;> rfl) (by trivial) ?_
  refine OpsW.splitG (by cbv <;> rfl) (fun hw4 => by first | (cases hw4; done) | (subst hO; simp [std] at hw4; done) | (subst hO; simp [std] at hw4; omega)) (fun hw4 => ?_)
  refine OpsW.run tok hO (by cbv <;> rfl) (by trivial) ?_
  refine OpsW.splitG (by cbv <;> rfl) (fun hw5 => by first | (cases hw5; done) | (subst hO; simp [std] at hw5; done) | (subst hO; simp [std] at hw5; omega)) (fun hw5 => ?_)
  refine OpsW.run tok hO (by cbv <;> rfl) (by trivial) ?_
  refine SW.cond (t := false) (by cbv <;> rfl) (SW.skip ?_)
  refine SW.seq ?_
  refine SW.seqRun tok hO (by cbv <;> rfl) (by trivial) ?_
  refine SW.condS (by cbv <;> rfl) (fun hw6 => by first | (cases hw6; done) | (subst hO; simp [std] at hw6; done) | (subst hO; simp [std] at hw6; omega)) (fun hw6 => SW.skip ?_)
  refine SW.seq ?_
  refine SW.seqRun tok hO (by cbv <;> rfl) (by trivial) ?_
  refine OpsW.splitG (by cbv <;> rfl) (fun hw7 => by first | (cases hw7; done) | (subst hO; simp [std] at hw7; done) | (subst hO; simp [std] at hw7; omega)) (fun hw7 => ?_)
  refine OpsW.run tok hO (by cbv <;> rfl) (by trivial) ?_
  refine OpsW.splitG (by cbv <;> rfl) (fun hw8 => ?_) (fun hw8 => by first | (cases hw8; done) | (subst hO; simp [std] at hw8; done) | (subst hO; simp [std] at hw8; omega))
  refine OpsW.run tok hO (by cbv <;> rfl) (by trivial) ?_
  refine OpsW.callP e33 (by cbv <;> rfl) ?_
  refine OpsW.run tok hO (by cbv <;> rfl) (by trivial) ?_
  refine SW.condS (by cbv <;> rfl) (fun hw9 => by first | (cases hw9; done) | (subst hO; simp [std] at hw9; done) | (subst hO; simp [std] at hw9; omega)) (fun hw9 => SW.skip ?_)
  exact htail _ ⟨rfl, rfl, rfl, trivial⟩
set_option maxHeartbeats 16000000 in
theorem bb_loop (haw : Pure Try.prog 19 [] (.lit (.bool true))) (f : FarmD) (G : Nat → Nat → Int) (N : Nat) (gl : Nat → Nat → AV) (hLV : Below 0 (.isl N 1 false gl)) (hN : f.nb < 1000)
    (h35 : ∀ i, i < f.nb → Pure Try.prog 35 [farmV f, .isl N 1 false gl, iV (Int.ofNat i)] (.agg [iV (G i 0), iV (G i 1), iV (G i 2), iV (G i 3), iV (G i 4), iV (G i 5)]))
    (gg : Nat → AV) (h : AllP (fun p => gg p.1 = p.2) [(2, .ptr 0 0), (5, .isl f.nb 6 false (fun i k => iV (G i k))), (9, .isl N 1 false gl)]) :
    SW Try.prog none (restC 10 (bodyF Try.f4)) (trueQ3 Try.f4) ⟨⟨104, gg⟩, []⟩ ⟨[(0, .cells none false (farmL f))], 1⟩ := by
  obtain ⟨O, hO⟩ : ∃ O : Ar, O = std := ⟨_, rfl⟩
  obtain ⟨g1, g2, g3, _⟩ := h
  simp only at g1 g2 g3
  rw [← updT_self g1, ← updT_self g2, ← updT_self g3]
  have hb0 : ∀ {n}, ObjBelow n (.cells none false (farmL f)) := ⟨fun x hx => Below.up (m := 0) (farmL_below f x hx), fun f h => by cases h⟩
  have hB : Below 0 (.isl f.nb 6 false (fun i k => iV (G i k))) := Below.isl fun i k _ _ => Below.lit
  refine (show SW _ _ _ _ _ _ from ?_)
  refine SW.seq ?_
  refine SW.seqRun tok hO (by cbv <;> rfl) (by trivial) ?_
  refine (SW.block (SW.loopF (fun i : Nat => ⟨⟨104, getT [(2, .ptr 0 0), (5, .isl f.nb 6 false (fun i k => iV (G i k))), (9, .isl N 1 false gl), (12, iV (Int.ofNat i))]⟩, []⟩) (fun _ => ⟨[(0, .cells none false (farmL f))], 1⟩) (fun i => f.nb - i) (fun i => i ≤ f.nb) 0
    (fun _ => rfl) (Nat.zero_le _) (Weak.by rfl rfl (by simp) (Nat.le_refl _) (Nat.le_refl _) ⟨⟨rfl, .inl rfl⟩, ⟨rfl, .inl rfl⟩, ⟨rfl, .inl rfl⟩, ⟨rfl, .inl rfl⟩, trivial⟩ ⟨⟨rfl, by omega, .inl rfl⟩, trivial⟩) fun i hi => ?_))
  refine SW.seq ?_
  refine SW.seqRun tok hO (by cbv <;> rfl) (by trivial) ?_
  refine SW.condS (by cbv <;> rfl) (fun h => SW.skip ?_) (fun h => SW.exit ?_)
  · have hlt : i < f.nb := by
      have : Int.ofNat i < Int.ofNat f.nb := by subst hO; simpa [std] using h
      exact Int.ofNat_lt.1 this
    have hin : 0 ≤ Int.ofNat i ∧ Int.ofNat i < Int.ofNat f.nb := ⟨Int.natCast_nonneg i, Int.ofNat_lt.2 hlt⟩
    have hni : O.nat (Int.ofNat i) = i := by subst hO; rfl
    have e35 := h35 i hlt
    rw [show G i = G (O.nat (Int.ofNat i)) by rw [hni]] at e35
    have e34 := bound34_ok (G (O.nat (Int.ofNat i)) 0) (G (O.nat (Int.ofNat i)) 1) (G (O.nat (Int.ofNat i)) 2) (G (O.nat (Int.ofNat i)) 3) (G (O.nat (Int.ofNat i)) 4) (G (O.nat (Int.ofNat i)) 5)
    refine SW.seq (SW.block ?_)
    refine SW.seqRunD tok mixed hO (by kernel_rfl) (by cbv <;> rfl) (by repeat (first | exact trivial | exact hin | exact hin.1 | exact hin.2 | refine ⟨?_, ?_⟩)) ?_
    refine AnyE.callP e35 (by cbv <;> rfl) (by cbv <;> rfl) ?_
    refine AnyE.run tok hO (by kernel_rfl) (by cbv <;> rfl) (by repeat (first | exact trivial | exact hin | exact hin.1 | exact hin.2 | refine ⟨?_, ?_⟩)) ?_
    refine AnyE.callP e34 (by cbv <;> rfl) (by cbv <;> rfl) ?_
    refine AnyE.run tok hO (by kernel_rfl) (by cbv <;> rfl) (by repeat (first | exact trivial | exact hin | exact hin.1 | exact hin.2 | refine ⟨?_, ?_⟩)) ?_
    refine SW.cond (t := false) (by cbv <;> rfl) (SW.skip ?_)
    refine SW.run tok hO (by cbv <;> rfl) (by trivial) ?_
    exact ⟨i + 1, by omega, hlt, Weak.by rfl rfl (by simp) (Nat.le_refl _) (by first | exact Nat.le_refl _ | exact Nat.le_succ _ | exact Nat.le_of_ble_eq_true rfl) ⟨⟨rfl, .inr (Below.ptr (by omega))⟩, ⟨rfl, .inr (Below.up (m := 0) hB)⟩, ⟨rfl, .inr (Below.up (m := 0) hLV)⟩, ⟨inc_ok hO (by omega), .inr Below.lit⟩, trivial⟩ ⟨⟨rfl, by omega, .inr hb0⟩, trivial⟩⟩
  · refine SW.seqRun tok hO (by cbv <;> rfl) (by trivial) ?_
    refine OpsW.callP haw (by cbv <;> rfl) ?_
    refine OpsW.run tok hO (by cbv <;> rfl) (by trivial) ?_
    exact SW.ret ⟨_, _, rfl, rfl, Eqv.of rfl⟩
end Go.Fz
set_option linter.unusedVariables false
set_option linter.unusedSimpArgs false
namespace Go.Fz
open Go.Proofs
set_option maxRecDepth 100000
end Go.Fz
set_option linter.unusedVariables false
namespace Go.Fz
open Go.Proofs
set_option maxRecDepth 100000
end Go.Fz
set_option linter.unusedVariables false
namespace Go.Fz
open Go.Proofs
set_option maxRecDepth 100000
end Go.Fz
set_option linter.unusedVariables false
namespace Go.Fz
open Go.Proofs
set_option maxRecDepth 100000
section
variable (f : FarmD) (b : Int) (ov : Bool) (lo hi : Int)
end
section
variable {f : FarmD} {b : Int} {ov : Bool} {lo hi : Int}
end
end Go.Fz
set_option linter.unusedVariables false
namespace Go.Fz
open Go.Proofs
set_option maxRecDepth 100000
end Go.Fz
set_option linter.unusedVariables false
namespace Go.Fz
open Go.Proofs
set_option maxRecDepth 100000
theorem small_of_thin {f : FarmD} (h : f.thinB = true) : f.small ∧ f.nb ≤ 10 ∧ f.ns ≤ 6 ∧ f.nl ≤ 7 := by
  simp only [FarmD.thinB, Bool.and_eq_true, decide_eq_true_eq] at h
  exact ⟨⟨by omega, by omega, by omega⟩, by omega, by omega, by omega⟩
end Go.Fz
set_option linter.unusedVariables false
set_option linter.unusedSimpArgs false
namespace Go.Fz
open Go.Proofs
set_option maxRecDepth 100000
def mnE (V : Nat → Int) : Nat → Int
  | 0 => 1099511627776
  | i + 1 => std.mn (mnE V i) (V i)
def mxE (V : Nat → Int) : Nat → Int
  | 0 => -1099511627776
  | i + 1 => std.mx (mxE V i) (V i)
set_option maxHeartbeats 16000000 in
theorem bounds35_core (f : FarmD) (N : Nat) (hN : N < 100000) (ln : Nat → Nat) (F : Nat → Nat → Int) (hb : Below 0 (.isl N 1 false (fun i _ => intsV (ln i) false (F i)))) (B : Int) (x y z : Nat → Int)
    (e28 : ∀ i, i < N → Pure Try.prog 28 [farmV f, intsV (ln i) false (F i), iV B] (.agg [iV (x i), iV (y i), iV (z i)])) :
    Pure Try.prog 35 [farmV f, .isl N 1 false (fun i _ => intsV (ln i) false (F i)), iV B] (.agg [iV (mnE x N), iV (mxE x N), iV (mnE y N), iV (mxE y N), iV (mnE z N), iV (mxE z N)]) := by
  obtain ⟨O, hO⟩ : ∃ O : Ar, O = std := ⟨_, rfl⟩
  have hnat : ∀ i : Nat, O.nat (Int.ofNat i) = i := fun i => by subst hO; rfl
  have hb0 : ∀ {n}, ObjBelow n (.cells none false (farmL f)) := ⟨fun x hx => Below.up (m := 0) (farmL_below f x hx), fun f h => by cases h⟩
  have hb6 : ∀ {n a b c d e g}, ObjBelow n (.cells none false [iV a, iV b, iV c, iV d, iV e, iV g]) := ⟨AllB.ok ⟨Below.lit, Below.lit, Below.lit, Below.lit, Below.lit, Below.lit, trivial⟩, fun f h => by cases h⟩
  have e85 := empty85_ok
  refine pure_of_body tok 3 Try.func35 en35 rfl ⟨farmV_below f, hb, Below.lit, trivial⟩ (Below.agg (AllB.ok ⟨Below.lit, Below.lit, Below.lit, Below.lit, Below.lit, Below.lit, trivial⟩)) ?_
  refine SW.seqRun tok hO (by cbv <;> rfl) (by trivial) ?_
  refine SW.seqRun tok hO (by cbv <;> rfl) (by trivial) ?_
  refine OpsW.callP e85 (by cbv <;> rfl) ?_
  refine OpsW.run tok hO (by cbv <;> rfl) (by trivial) ?_
  refine OpsW.callP e85 (by cbv <;> rfl) ?_
  refine OpsW.run tok hO (by cbv <;> rfl) (by trivial) ?_
  refine OpsW.callP e85 (by cbv <;> rfl) ?_
  refine OpsW.run tok hO (by cbv <;> rfl) (by trivial) ?_
  refine SW.seq ?_
  refine SW.seqRun tok hO (by cbv <;> rfl) (by trivial) ?_
  refine (SW.block (SW.loopF (fun i : Nat => ⟨⟨44, getT [(1, .isl N 1 false (fun i _ => intsV (ln i) false (F i))), (2, iV B), (3, .ptr 0 0), (6, .ptr 1 0), (7, .ptr 2 0), (8, iV (Int.ofNat i))]⟩, []⟩) (fun i => ⟨(2, .cells none false [iV (mnE x i), iV (mxE x i), iV (mnE y i), iV (mxE y i), iV (mnE z i), iV (mxE z i)]) :: (1, .cells none false [iV 0, iV 0, iV 0, iV 0, iV 0, iV 0]) :: (0, .cells none false (farmL f)) :: [], 3⟩) (fun i => N - i) (fun i => i ≤ N) 0
    (fun _ => rfl) (Nat.zero_le _) (Weak.by rfl rfl (by simp) (Nat.le_refl _) (Nat.le_refl _) ⟨⟨rfl, .inl rfl⟩, ⟨rfl, .inl rfl⟩, ⟨rfl, .inl rfl⟩, ⟨rfl, .inl rfl⟩, ⟨rfl, .inl rfl⟩, ⟨rfl, .inl rfl⟩, trivial⟩ ⟨⟨rfl, by omega, .inl rfl⟩, ⟨rfl, by omega, .inl rfl⟩, ⟨rfl, by omega, .inl rfl⟩, trivial⟩) fun i hi => ?_))
  show SW _ _ _ _ ⟨⟨44, getT [(1, .isl N 1 false (fun i _ => intsV (ln i) false (F i))), (2, iV B), (3, .ptr 0 0), (6, .ptr 1 0), (7, .ptr 2 0), (8, iV (Int.ofNat i))]⟩, []⟩ ⟨(2, .cells none false [iV (mnE x i), iV (mxE x i), iV (mnE y i), iV (mxE y i), iV (mnE z i), iV (mxE z i)]) :: (1, .cells none false [iV 0, iV 0, iV 0, iV 0, iV 0, iV 0]) :: (0, .cells none false (farmL f)) :: [], 3⟩
  obtain ⟨a0, ha0⟩ : ∃ v, mnE x i = v := ⟨_, rfl⟩
  obtain ⟨b0, hb0'⟩ : ∃ v, mxE x i = v := ⟨_, rfl⟩
  obtain ⟨a1, ha1⟩ : ∃ v, mnE y i = v := ⟨_, rfl⟩
  obtain ⟨b1, hb1⟩ : ∃ v, mxE y i = v := ⟨_, rfl⟩
  obtain ⟨a2, ha2⟩ : ∃ v, mnE z i = v := ⟨_, rfl⟩
  obtain ⟨b2, hb2⟩ : ∃ v, mxE z i = v := ⟨_, rfl⟩
  rw [ha0, hb0', ha1, hb1, ha2, hb2]
  refine SW.seq ?_
  refine SW.seqRun tok hO (by cbv <;> rfl) (by trivial) ?_
  refine SW.condS (by cbv <;> rfl) (fun h => SW.skip ?_) (fun h => SW.exit ?_)
  · have hlt : i < N := by
      have : Int.ofNat i < Int.ofNat N := by subst hO; simpa [std] using h
      exact Int.ofNat_lt.1 this
    have hin : 0 ≤ Int.ofNat i ∧ Int.ofNat i < Int.ofNat N := ⟨Int.natCast_nonneg i, Int.ofNat_lt.2 hlt⟩
    have call := e28 (O.nat (Int.ofNat i)) (by rw [hnat]; exact hlt)
    obtain ⟨X, hX⟩ : ∃ v, x (O.nat (Int.ofNat i)) = v := ⟨_, rfl⟩
    obtain ⟨Y, hY⟩ : ∃ v, y (O.nat (Int.ofNat i)) = v := ⟨_, rfl⟩
    obtain ⟨Z, hZ⟩ : ∃ v, z (O.nat (Int.ofNat i)) = v := ⟨_, rfl⟩
    rw [hX, hY, hZ] at call
    have w0 := wider86_ok a0 b0 X
    have w1 := wider86_ok a1 b1 Y
    have w2 := wider86_ok a2 b2 Z
    obtain ⟨p0, hp0⟩ : ∃ v, std.mn a0 X = v := ⟨_, rfl⟩
    obtain ⟨q0, hq0⟩ : ∃ v, std.mx b0 X = v := ⟨_, rfl⟩
    obtain ⟨p1, hp1⟩ : ∃ v, std.mn a1 Y = v := ⟨_, rfl⟩
    obtain ⟨q1, hq1⟩ : ∃ v, std.mx b1 Y = v := ⟨_, rfl⟩
    obtain ⟨p2, hp2⟩ : ∃ v, std.mn a2 Z = v := ⟨_, rfl⟩
    obtain ⟨q2, hq2⟩ : ∃ v, std.mx b2 Z = v := ⟨_, rfl⟩
    rw [hp0, hq0] at w0
    rw [hp1, hq1] at w1
    rw [hp2, hq2] at w2
    have hnew : [iV (mnE x (i + 1)), iV (mxE x (i + 1)), iV (mnE y (i + 1)), iV (mxE y (i + 1)), iV (mnE z (i + 1)), iV (mxE z (i + 1))] = [iV p0, iV q0, iV p1, iV q1, iV p2, iV q2] := by
      rw [hnat] at hX hY hZ
      simp only [mnE, mxE, ha0, hb0', ha1, hb1, ha2, hb2, hX, hY, hZ, hp0, hq0, hp1, hq1, hp2, hq2]
    refine SW.seq (SW.block ?_)
    refine SW.seq ((show SW Try.prog none _ (midK 44 [(1, .isl N 1 false (fun i _ => intsV (ln i) false (F i))), (2, iV B), (3, .ptr 0 0), (6, .ptr 1 0), (7, .ptr 2 0), (8, iV (Int.ofNat i)), (9, .ptr 3 0)] ⟨(3, .cells none false [iV X, iV Y, iV Z]) :: (2, .cells none false [iV a0, iV b0, iV a1, iV b1, iV a2, iV b2]) :: (1, .cells none false [iV 0, iV 0, iV 0, iV 0, iV 0, iV 0]) :: (0, .cells none false (farmL f)) :: [], 4⟩) _ _ from ?_).mono fun e fm st hm => ?_)
    · refine SW.runD tok mixed hO (by kernel_rfl) (by cbv <;> rfl) (by repeat (first | exact trivial | exact hin | exact hin.1 | exact hin.2 | refine ⟨?_, ?_⟩)) ?_
      refine AnyE.many [6, 7] (by cbv <;> rfl) (by rfl) ⟨?_, ?_, trivial⟩
      · refine PickE.callQ call (by cbv <;> rfl) (by cbv <;> rfl) ?_ ?_
        · exact (by repeat (first | exact trivial | refine And.intro (by first | exact lv_of hO (by cbv <;> rfl) (by trivial) | (cbv <;> rfl)) ?_))
        refine AnyE.run tok hO (by rfl) (by cbv <;> rfl) (by trivial) ?_
        refine AnyE.effK tok hO (by cbv <;> rfl) (by cbv <;> rfl) (by trivial) ?_ ?_
        · exact (by repeat (first | exact trivial | refine And.intro (by first | exact lv_of hO (by cbv <;> rfl) (by trivial) | (cbv <;> rfl)) ?_))
        refine AnyE.run tok hO (by rfl) (by cbv <;> rfl) (by trivial) ?_
        refine AnyE.effK tok hO (by cbv <;> rfl) (by cbv <;> rfl) (by trivial) ?_ ?_
        · exact (by repeat (first | exact trivial | refine And.intro (by first | exact lv_of hO (by cbv <;> rfl) (by trivial) | (cbv <;> rfl)) ?_))
        refine AnyE.run tok hO (by rfl) (by cbv <;> rfl) (by trivial) ?_
        exact ⟨rfl, _, rfl, ⟨rfl, rfl, rfl, rfl, rfl, rfl, rfl, trivial⟩, rfl⟩
      · refine PickE.eff tok hO (by cbv <;> rfl) (by cbv <;> rfl) (by trivial) ?_ ?_
        · exact (by repeat (first | exact trivial | refine And.intro (by first | exact lv_of hO (by cbv <;> rfl) (by trivial) | (cbv <;> rfl)) ?_))
        refine AnyE.run tok hO (by rfl) (by cbv <;> rfl) (by trivial) ?_
        refine AnyE.callP call (by cbv <;> rfl) (by cbv <;> rfl) ?_
        refine AnyE.run tok hO (by rfl) (by cbv <;> rfl) (by trivial) ?_
        refine AnyE.effK tok hO (by cbv <;> rfl) (by cbv <;> rfl) (by trivial) ?_ ?_
        · exact (by repeat (first | exact trivial | refine And.intro (by first | exact lv_of hO (by cbv <;> rfl) (by trivial) | (cbv <;> rfl)) ?_))
        refine AnyE.run tok hO (by rfl) (by cbv <;> rfl) (by trivial) ?_
        exact ⟨rfl, _, rfl, ⟨rfl, rfl, rfl, rfl, rfl, rfl, rfl, trivial⟩, rfl⟩
    obtain ⟨rfl, ts, rfl, ⟨g1, g2, g3, g6, g7, g8, g9, _⟩, rfl⟩ := hm
    simp only at g1 g2 g3 g6 g7 g8 g9
    rw [← updT_self g1, ← updT_self g2, ← updT_self g3, ← updT_self g6, ← updT_self g7, ← updT_self g8, ← updT_self g9]
    refine (show SW _ _ _ _ _ _ from ?_)
    refine SW.runD tok mixed hO (by kernel_rfl) (by cbv <;> rfl) (by trivial) ?_
    refine AnyE.callP w0 (by cbv <;> rfl) (by cbv <;> rfl) ?_
    refine AnyE.run tok hO (by kernel_rfl) (by cbv <;> rfl) (by trivial) ?_
    refine AnyE.callP w1 (by cbv <;> rfl) (by cbv <;> rfl) ?_
    refine AnyE.run tok hO (by kernel_rfl) (by cbv <;> rfl) (by trivial) ?_
    refine AnyE.callP w2 (by cbv <;> rfl) (by cbv <;> rfl) ?_
    refine AnyE.run tok hO (by kernel_rfl) (by cbv <;> rfl) (by trivial) ?_
    refine AnyE.effK tok hO (by cbv <;> rfl) (by cbv <;> rfl) (by trivial) ?_ ?_
    · exact (by repeat (first | exact trivial | refine And.intro (by first | exact lv_of hO (by cbv <;> rfl) (by trivial) | (cbv <;> rfl)) ?_))
    refine AnyE.run tok hO (by kernel_rfl) (by cbv <;> rfl) (by trivial) ?_
    refine SW.run tok hO (by cbv <;> rfl) (by trivial) ?_
    refine ⟨i + 1, by omega, by omega, ?_⟩
    show Weak _ _ _ _ ⟨(2, .cells none false [iV (mnE x (i + 1)), iV (mxE x (i + 1)), iV (mnE y (i + 1)), iV (mxE y (i + 1)), iV (mnE z (i + 1)), iV (mxE z (i + 1))]) :: (1, .cells none false [iV 0, iV 0, iV 0, iV 0, iV 0, iV 0]) :: (0, .cells none false (farmL f)) :: [], 3⟩
    rw [hnew]
    exact Weak.by rfl rfl (by simp) (Nat.le_refl _) (by show 3 ≤ 4; omega) ⟨⟨rfl, .inr (Below.up (m := 0) hb)⟩, ⟨rfl, .inr Below.lit⟩, ⟨rfl, .inr (Below.ptr (by omega))⟩, ⟨rfl, .inr (Below.ptr (by omega))⟩, ⟨rfl, .inr (Below.ptr (by omega))⟩, ⟨inc_ok hO (by omega), .inr Below.lit⟩, trivial⟩ ⟨⟨rfl, by omega, .inr hb6⟩, ⟨rfl, by omega, .inr hb6⟩, ⟨rfl, by omega, .inr hb0⟩, trivial⟩
  · have hz : i = N := by
      have : ¬ Int.ofNat i < Int.ofNat N := by subst hO; simpa [std] using h
      have h2 : ¬ i < N := fun h => this (Int.ofNat_lt.2 h)
      omega
    rw [← hz, ha0, hb0', ha1, hb1, ha2, hb2]
    refine SW.seqRun tok hO (by cbv <;> rfl) (by trivial) ?_
    exact SW.ret ⟨_, _, rfl, rfl, Eqv.of rfl⟩
end Go.Fz
set_option linter.unusedVariables false
namespace Go.Fz
open Go.Proofs
set_option maxRecDepth 100000
theorem FarmD.waN_small {f : FarmD} (g : f.Good) {fl : Nat → Int} (hfl : ∀ s, s < f.ns → 0 ≤ fl s ∧ fl s ≤ 30) {j : Nat} (hj : j < f.nb) : 0 ≤ f.waN fl j ∧ f.waN fl j ≤ 15360 := by
  obtain ⟨h1, h2⟩ := f.waN_bound g fl hfl j hj
  have := pow2_le (b := j) (by have := g.nb; omega)
  omega
theorem FarmD.water_ex {f : FarmD} (g : f.Good) {fl : Nat → Int} (hfl : ∀ s, s < f.ns → 0 ≤ fl s ∧ fl s ≤ 30) {b : Nat} (hb : b < f.nb) :
    f.water fl b 0 = f.waN fl b ∧ f.water fl b 1 = minI (f.waN fl b) (f.notch b) ∧ f.water fl b 2 = f.waN fl b - minI (f.waN fl b) (f.notch b) ∧ (0 ≤ f.waN fl b ∧ f.waN fl b ≤ 15360) ∧ (0 ≤ f.notch b ∧ f.notch b ≤ 9) := by
  obtain ⟨h1, h2, h3⟩ := f.water_eq g fl hfl b hb
  have h4 := FarmD.waN_small g hfl hb
  have h5 := (g.bed b hb).2.1
  refine ⟨h1, h2, ?_, h4, h5⟩
  rw [h3]
  show sub64 (f.waN fl b) (minI (f.waN fl b) (f.notch b)) = _
  have : 0 ≤ minI (f.waN fl b) (f.notch b) ∧ minI (f.waN fl b) (f.notch b) ≤ 9 := by unfold minI; split <;> omega
  rw [sub64_in _ _ (by omega) (by omega)]
section
variable (f : FarmD) (k : Nat) (lo hi : Int)
end
end Go.Fz
set_option linter.unusedVariables false
set_option linter.unusedSimpArgs false
namespace Go.Fz
open Go.Proofs
set_option maxRecDepth 100000
end Go.Fz
set_option linter.unusedVariables false
namespace Go.Fz
open Go.Proofs
set_option maxRecDepth 100000
end Go.Fz
set_option linter.unusedVariables false
namespace Go.Fz
open Go.Proofs
set_option maxRecDepth 100000
end Go.Fz
set_option linter.unusedVariables false
namespace Go.Fz
open Go.Proofs
set_option maxRecDepth 100000
theorem FarmD.bnC_at (f : FarmD) (b k : Nat) : f.bnC b k = iV (f.bnI b k) := by rw [f.bnC_eq]
theorem mn_if (a b : Int) : std.mn a b = if b < a then b else a := rfl
theorem mx_if (a b : Int) : std.mx a b = if a < b then b else a := rfl
theorem mnE_spec (V : Nat → Int) (hV : ∀ i, V i ≤ 1099511627776) : ∀ n, (∀ i, i < n → mnE V n ≤ V i) ∧ (0 < n → ∃ i, i < n ∧ mnE V n = V i) ∧ (n = 0 → mnE V n = 1099511627776)
  | 0 => ⟨fun i h => absurd h (Nat.not_lt_zero i), fun h => absurd h (Nat.lt_irrefl 0), fun _ => rfl⟩
  | n + 1 => by
    obtain ⟨h1, h2, h3⟩ := mnE_spec V hV n
    have hm : mnE V (n + 1) = if V n ≤ mnE V n then V n else mnE V n := by
      show std.mn (mnE V n) (V n) = _
      rw [mn_if]
      split <;> split <;> omega
    have hn := hV n
    refine ⟨fun i hi => ?_, fun _ => ?_, fun h => by omega⟩
    · rw [hm]
      rcases Nat.lt_succ_iff_lt_or_eq.1 hi with h | rfl
      · have := h1 i h
        split <;> omega
      · split <;> omega
    · by_cases h : V n ≤ mnE V n
      · exact ⟨n, Nat.lt_succ_self n, by rw [hm, if_pos h]⟩
      · rcases Nat.eq_zero_or_pos n with h0 | h0
        · have := h3 h0; omega
        · obtain ⟨i, hi, he⟩ := h2 h0
          exact ⟨i, by omega, by rw [hm, if_neg h]; exact he⟩
theorem mxE_spec (V : Nat → Int) (hV : ∀ i, -1099511627776 ≤ V i) : ∀ n, (∀ i, i < n → V i ≤ mxE V n) ∧ (0 < n → ∃ i, i < n ∧ mxE V n = V i) ∧ (n = 0 → mxE V n = -1099511627776)
  | 0 => ⟨fun i h => absurd h (Nat.not_lt_zero i), fun h => absurd h (Nat.lt_irrefl 0), fun _ => rfl⟩
  | n + 1 => by
    obtain ⟨h1, h2, h3⟩ := mxE_spec V hV n
    have hm : mxE V (n + 1) = if mxE V n ≤ V n then V n else mxE V n := by
      show std.mx (mxE V n) (V n) = _
      rw [mx_if]
      split <;> split <;> omega
    have hn := hV n
    refine ⟨fun i hi => ?_, fun _ => ?_, fun h => by omega⟩
    · rw [hm]
      rcases Nat.lt_succ_iff_lt_or_eq.1 hi with h | rfl
      · have := h1 i h
        split <;> omega
      · split <;> omega
    · by_cases h : mxE V n ≤ V n
      · exact ⟨n, Nat.lt_succ_self n, by rw [hm, if_pos h]⟩
      · rcases Nat.eq_zero_or_pos n with h0 | h0
        · have := h3 h0; omega
        · obtain ⟨i, hi, he⟩ := h2 h0
          exact ⟨i, by omega, by rw [hm, if_neg h]; exact he⟩
theorem wtr_rng {f : FarmD} (g : f.Good) {l : List Int} (hl : f.isCh l) {b : Nat} (hb : b < f.nb) (c : Nat) (hc : c < 3) : 0 ≤ f.wtr b c l ∧ f.wtr b c l ≤ 15360 := by
  obtain ⟨h1, h2, h3, h4, h5⟩ := FarmD.water_ex g (f.ch_fl g hl) hb
  unfold FarmD.wtr
  rcases (by omega : c = 0 ∨ c = 1 ∨ c = 2) with rfl | rfl | rfl
  · rw [h1]; exact h4
  · rw [h2]; unfold minI; split <;> omega
  · rw [h3]; unfold minI; split <;> omega
theorem lo_ref {f : FarmD} (hc : f.check = 0) (ht : f.trs ≠ []) {b : Nat} (hb : b < f.nb) (c : Nat) (hcc : c < 3) : mnE (fun i => if i < f.refL.length then f.wtr b c (f.refL.getD i []) else 0) f.refL.length = f.bLo b c ∧ mxE (fun i => if i < f.refL.length then f.wtr b c (f.refL.getD i []) else 0) f.refL.length = f.bHi b c := by
  have g := good_of_check hc
  have hm : ∀ l, l ∈ f.refL ↔ l ∈ f.trs := fun l => FarmD.mem_refL hc
  have hpos : 0 < f.refL.length := Nat.pos_of_ne_zero fun h => ht ((FarmD.refL_nil hc).1 (List.length_eq_zero_iff.1 h))
  have hr : ∀ i, 0 ≤ (if i < f.refL.length then f.wtr b c (f.refL.getD i []) else 0) ∧ (if i < f.refL.length then f.wtr b c (f.refL.getD i []) else 0) ≤ 15360 := fun i => by
    split
    · rename_i h
      exact wtr_rng g (f.trs_ch ((hm _).1 (getD_mem h))) hb c hcc
    · omega
  obtain ⟨l, hl, hle⟩ := FarmD.bLo_mem (b := b) (c := c) ht
  obtain ⟨l2, hl2, hle2⟩ := FarmD.bHi_mem (b := b) (c := c) ht
  obtain ⟨i, hi, he⟩ := List.getElem_of_mem ((hm l).2 hl)
  obtain ⟨j, hj, hf⟩ := List.getElem_of_mem ((hm l2).2 hl2)
  have hgi : f.refL.getD i [] = l := by rw [List.getD_eq_getElem?_getD, List.getElem?_eq_getElem hi]; exact he
  have hgj : f.refL.getD j [] = l2 := by rw [List.getD_eq_getElem?_getD, List.getElem?_eq_getElem hj]; exact hf
  obtain ⟨a1, a2, _⟩ := mnE_spec (fun i => if i < f.refL.length then f.wtr b c (f.refL.getD i []) else 0) (fun i => by have := (hr i).2; omega) f.refL.length
  obtain ⟨b1, b2, _⟩ := mxE_spec (fun i => if i < f.refL.length then f.wtr b c (f.refL.getD i []) else 0) (fun i => by have := (hr i).1; omega) f.refL.length
  have a1 := a1 i hi
  have b1 := b1 j hj
  simp only [if_pos hi, hgi, hle] at a1
  simp only [if_pos hj, hgj, hle2] at b1
  obtain ⟨p, hp, hpe⟩ := a2 hpos
  obtain ⟨q, hq, hqe⟩ := b2 hpos
  simp only [if_pos hp] at hpe
  simp only [if_pos hq] at hqe
  have a3 := FarmD.bLo_le (b := b) (c := c) ((hm _).1 (getD_mem hp))
  have b3 := FarmD.bHi_ge (b := b) (c := c) ((hm _).1 (getD_mem hq))
  exact ⟨by omega, by omega⟩
theorem bounds35_ok {f : FarmD} (hc : f.check = 0) (ht : f.trs ≠ []) {b : Nat} (hb : b < f.nb) : Pure Try.prog 35 [farmV f, llV f.refL, iV (b : Int)] (.agg [iV (f.bnI b 0), iV (f.bnI b 1), iV (f.bnI b 2), iV (f.bnI b 3), iV (f.bnI b 4), iV (f.bnI b 5)]) := by
  have g := good_of_check hc
  have hm : ∀ l, l ∈ f.refL ↔ l ∈ f.trs := fun l => FarmD.mem_refL hc
  have h := bounds35_core f f.refL.length (by have := FarmD.refL_len hc; omega) (fun i => (f.refL.getD i []).length) (fun i => zL (f.refL.getD i [])) (llV_below f.refL) (b : Int)
    (fun i => if i < f.refL.length then f.wtr b 0 (f.refL.getD i []) else 0) (fun i => if i < f.refL.length then f.wtr b 1 (f.refL.getD i []) else 0) (fun i => if i < f.refL.length then f.wtr b 2 (f.refL.getD i []) else 0)
    (fun i hi => by
      simp only [if_pos hi]
      exact at_zL g (f.trs_ch ((hm _).1 (getD_mem hi))) hb)
  obtain ⟨h0, h1⟩ := lo_ref hc ht hb 0 (by omega)
  obtain ⟨h2, h3⟩ := lo_ref hc ht hb 1 (by omega)
  obtain ⟨h4, h5⟩ := lo_ref hc ht hb 2 (by omega)
  rw [h0, h1, h2, h3, h4, h5] at h
  exact h
theorem isBed_lit {f : FarmD} (hs : f.small) (w : Int) {b : Bool} (h : f.hasB w = b) : Pure Try.prog 32 [farmV f, iV w] (.lit (.bool b)) := by
  have e := isBed_ok f w hs
  rw [h] at e
  exact e.res (Eqv.litS b)
theorem bedBounds_ok (haw : Pure Try.prog 19 [] (.lit (.bool true))) (f : FarmD) (w : Int) : Pure Try.prog 4 [farmV f, iV w] (.lit (.bool true)) := by
  have e18 := thin_ok f
  cases hT : f.thinB with
  | false => rw [hT] at e18; exact bb_not haw f w e18
  | true =>
    rw [hT] at e18
    obtain ⟨hs, h1, h2, h3⟩ := small_of_thin hT
    have e21 := farm_ok f h1 h2 h3
    have e29 := bounds29 hs
    have e30 := fed_ok hs w
    have e31 := sure_ok hs
    have e24 := fault24_ok f hs
    rw [← f.check_eq] at e24
    by_cases hc : f.check = 0
    · rw [hc] at e24
      have g := good_of_check hc
      obtain ⟨k1, k2⟩ := bndE_of hc
      cases hB : f.hasB w with
      | false =>
        have e32 := isBed_lit hs w hB
        have hF : f.fedE w = 2 := by unfold FarmD.fedE FarmD.opnE; rw [if_neg (by rw [hc]; decide), hB, if_pos rfl]
        rw [hF, show f.fedV w = 0 by unfold FarmD.fedV; rw [hF]; rfl] at e30
        by_cases ht : f.trs = []
        · rw [k2 ht, show f.bndL = nl3 by unfold FarmD.bndL; rw [k2 ht]; rfl] at e29
          rw [k2 ht, show f.sureV = nl3 by unfold FarmD.sureV; rw [k2 ht]; rfl] at e31
          exact bb_off0 haw f w e18 e21 e29 e30 e31 e24 e32
        · rw [k1 ht, show f.bndL = .isl f.nb 6 false f.bnC by unfold FarmD.bndL; rw [k1 ht]; rfl] at e29
          rw [k1 ht, show f.sureV = llV f.refL by unfold FarmD.sureV; rw [k1 ht]; rfl] at e31
          have e29 : Pure Try.prog 29 [farmV f] (.tup [.isl f.nb 6 false (fun i k => iV (f.bnI i k)), iV 0]) := e29.res (Eqv.tup (.cons (Eqv.isl rfl fun i k _ _ => Eqv.of (f.bnC_at i k)) (.cons (Eqv.refl _) .nil)))
          refine bb_off f w f.bnI f.refL.length (gT f.refL) e18 e21 e29 e30 e31 e24 e32 fun gg h => ?_
          exact bb_loop haw f f.bnI f.refL.length (gT f.refL) (llV_below _) (by have := g.nb; omega) (fun i hi => bounds35_ok hc ht hi) gg h
      | true =>
        have e32 := isBed_lit hs w hB
        have hF : f.fedE w = f.bndE := by unfold FarmD.fedE; rw [hB]; rfl
        obtain ⟨b, rfl⟩ : ∃ b : Nat, w = (b : Int) := ⟨w.toNat, by simp only [FarmD.hasB, Bool.and_eq_true, decide_eq_true_eq] at hB; omega⟩
        have hb : b < f.nb := by simp only [FarmD.hasB, Bool.and_eq_true, decide_eq_true_eq] at hB; omega
        by_cases ht : f.trs = []
        · rw [hF, show f.fedV (b : Int) = 0 by unfold FarmD.fedV; rw [hF, k2 ht]; rfl, k2 ht] at e30
          rw [k2 ht, show f.bndL = nl3 by unfold FarmD.bndL; rw [k2 ht]; rfl] at e29
          rw [k2 ht, show f.sureV = nl3 by unfold FarmD.sureV; rw [k2 ht]; rfl] at e31
          exact bb_on0 haw f _ e18 e21 e29 e30 e31 e24 e32
        · rw [hF, show f.fedV (b : Int) = f.vrd b by unfold FarmD.fedV; rw [hF, k1 ht]; rfl, k1 ht] at e30
          rw [k1 ht, show f.bndL = .isl f.nb 6 false f.bnC by unfold FarmD.bndL; rw [k1 ht]; rfl] at e29
          rw [k1 ht, show f.sureV = llV f.refL by unfold FarmD.sureV; rw [k1 ht]; rfl] at e31
          have e29 : Pure Try.prog 29 [farmV f] (.tup [.isl f.nb 6 false (fun i k => iV (f.bnI i k)), iV 0]) := e29.res (Eqv.tup (.cons (Eqv.isl rfl fun i k _ _ => Eqv.of (f.bnC_at i k)) (.cons (Eqv.refl _) .nil)))
          have e33 := fed33_ok g (L := f.refL) (by have := FarmD.refL_len hc; omega) (fun l hl => f.trs_ch ((FarmD.mem_refL hc).1 hl)) hb
          rw [vrd_ref hc] at e33
          refine bb_on f _ f.bnI f.refL.length (gT f.refL) (f.vrd b) e18 e21 e29 e30 e31 e24 e32 e33 fun gg h => ?_
          exact bb_loop haw f f.bnI f.refL.length (gT f.refL) (llV_below _) (by have := g.nb; omega) (fun i hi => bounds35_ok hc ht hi) gg h
    · have hE : f.bndE = f.check := by unfold FarmD.bndE FarmD.opnE; rw [if_pos hc]
      have hF : f.fedE w = f.check := by unfold FarmD.fedE FarmD.opnE; rw [if_pos hc]
      rw [hE, show f.bndL = nl3 by unfold FarmD.bndL; rw [hE, if_neg hc]] at e29
      rw [hE, show f.sureV = nl3 by unfold FarmD.sureV; rw [hE, if_neg hc]] at e31
      rw [hF, show f.fedV w = 0 by unfold FarmD.fedV; rw [hF, if_neg hc]] at e30
      exact bb_bad haw f w f.check hc e18 e21 e29 e30 e31 e24
end Go.Fz
