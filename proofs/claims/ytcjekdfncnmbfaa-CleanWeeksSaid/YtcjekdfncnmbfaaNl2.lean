/- Own work of the verifier of watercress: FzWk1, FzRs4, FzRs5, FzRw1. -/
import Derived.Below
import Derived.CallsIn
import Derived.Carry
import Derived.ChangeKeysEq
import Derived.ChangeSame
import Derived.Deep.Slices
import Derived.DeepKeys4
import Derived.JoinedCond
import Derived.Laws.AppendOwn
import Derived.Laws.Cells
import Derived.Laws.CopyRow
import Derived.Laws.Cover3
import Derived.Laws.Entries
import Derived.Laws.NewFold
import Derived.Laws.Sem
import Derived.Laws.Small
import Derived.Laws.StructEq
import Derived.Laws.Tables
import Derived.Laws.World
import Derived.Lib.SmallJoins
import Derived.Maps.Keyed
import Derived.Maps.RangeRun
import Derived.OpenShut
import Derived.OrdersHeld
import Derived.OrdersIn
import Derived.ProofKit
import Derived.RangeFuncLeaves
import Derived.RangeFuncRecord
import Derived.Shelf.Abstract
import Derived.WalkKit
import Derived.WideKeyArgs
import Derived.Test.YtcjekdfncnmbfaaNl0
import Derived.Test.YtcjekdfncnmbfaaNa10
import Derived.Test.YtcjekdfncnmbfaaNa11
import Derived.Test.YtcjekdfncnmbfaaNa13
import Derived.Test.YtcjekdfncnmbfaaNa16
import Derived.Test.YtcjekdfncnmbfaaNa14
import Derived.Test.YtcjekdfncnmbfaaNa18
import Derived.Test.YtcjekdfncnmbfaaNa15
import Derived.Test.YtcjekdfncnmbfaaNa19
import Derived.Test.YtcjekdfncnmbfaaNa20
import Derived.Test.YtcjekdfncnmbfaaNa22
import Derived.Test.YtcjekdfncnmbfaaNa12
import Derived.Test.YtcjekdfncnmbfaaNa17
import Derived.Test.YtcjekdfncnmbfaaNl1
import Derived.Test.YtcjekdfncnmbfaaNa0
import Derived.Test.YtcjekdfncnmbfaaNa1
import Derived.Test.YtcjekdfncnmbfaaNa2
import Derived.Test.YtcjekdfncnmbfaaNa3
import Derived.Test.YtcjekdfncnmbfaaNa4
import Derived.Test.YtcjekdfncnmbfaaNa5
import Derived.Test.YtcjekdfncnmbfaaNa6
import Derived.Test.YtcjekdfncnmbfaaNa7
import Derived.Test.YtcjekdfncnmbfaaNa8
import Derived.Test.YtcjekdfncnmbfaaNa9
import Derived.Test.YtcjekdfncnmbfaaProg
import Derived.Test.YtcjekdfncnmbfaaRows
set_option linter.unusedVariables false
set_option linter.unusedSimpArgs false
set_option linter.unusedVariables false
set_option linter.unusedSimpArgs false
namespace Go.Fz
open Go.Proofs
set_option maxRecDepth 100000
set_option maxHeartbeats 8000000 in
theorem wk_not (haw : Pure Try.prog 18 [] (.lit (.bool true))) (y : YardD) (K w : Int) (e17 : Pure Try.prog 17 [yardV y] (.sb false)) : Pure Try.prog 4 [yardV y, iV K, iV w] (.lit (.bool true)) := by
  obtain ⟨O, hO⟩ : ∃ O : Ar, O = std := ⟨_, rfl⟩
  refine pure_of_body tok 3 Try.func4 en4 rfl ⟨yardV_below y, Below.lit, Below.lit, trivial⟩ Below.lit ?_
  refine SW.seqRun tok hO (by cbv <;> rfl) (by trivial) ?_
  refine SW.seq ?_
  refine SW.seqRun tok hO (by cbv <;> rfl) (by trivial) ?_
  refine OpsW.callP e17 (by cbv <;> rfl) ?_
  refine OpsW.run tok hO (by cbv <;> rfl) (by trivial) ?_
  refine SW.condS (by cbv <;> rfl) (fun hw1 => ?_) (fun hw1 => by first | (cases hw1; done) | (subst hO; simp [std] at hw1; done) | (subst hO; simp [std] at hw1; omega))
  refine SW.seqRun tok hO (by cbv <;> rfl) (by trivial) ?_
  refine OpsW.callP haw (by cbv <;> rfl) ?_
  refine OpsW.run tok hO (by cbv <;> rfl) (by trivial) ?_
  exact SW.ret ⟨_, _, rfl, rfl, Eqv.of rfl⟩
set_option maxHeartbeats 8000000 in
theorem wk_bad (haw : Pure Try.prog 18 [] (.lit (.bool true))) (y : YardD) (K w : Int) (W : Int) (hW : ¬ W = 0) (e17 : Pure Try.prog 17 [yardV y] (.sb true)) (e20 : Pure Try.prog 20 [yardV y] (yardV y)) (e27 : Pure Try.prog 27 [yardV y, iV K] (.tup [nl3, iV W])) (e28 : Pure Try.prog 28 [yardV y, iV K, iV w] (.tup [iV 0, iV W])) (e26 : Pure Try.prog 26 [yardV y] (.tup [nl3, iV W])) (e24 : Pure Try.prog 24 [yardV y] (iV W)) : Pure Try.prog 4 [yardV y, iV K, iV w] (.lit (.bool true)) := by
  obtain ⟨O, hO⟩ : ∃ O : Ar, O = std := ⟨_, rfl⟩
  refine pure_of_body tok 3 Try.func4 en4 rfl ⟨yardV_below y, Below.lit, Below.lit, trivial⟩ Below.lit ?_
  refine SW.seqRun tok hO (by cbv <;> rfl) (by trivial) ?_
  refine SW.seq ?_
  refine SW.seqRun tok hO (by cbv <;> rfl) (by trivial) ?_
  refine OpsW.callP e17 (by cbv <;> rfl) ?_
  refine OpsW.run tok hO (by cbv <;> rfl) (by trivial) ?_
  refine SW.condS (by cbv <;> rfl) (fun hw1 => by first | (cases hw1; done) | (subst hO; simp [std, hW] at hw1; done) | (subst hO; simp [std, hW] at hw1; omega)) (fun hw1 => SW.skip ?_)
  refine SW.seqRun tok hO (by cbv <;> rfl) (by trivial) ?_
  refine OpsW.callP e20 (by cbv <;> rfl) ?_
  refine OpsW.run tok hO (by cbv <;> rfl) (by trivial) ?_
  refine OpsW.callP e27 (by cbv <;> rfl) ?_
  refine OpsW.run tok hO (by cbv <;> rfl) (by trivial) ?_
  refine SW.seqRun tok hO (by cbv <;> rfl) (by trivial) ?_
  refine OpsW.callP e20 (by cbv <;> rfl) ?_
  refine OpsW.run tok hO (by cbv <;> rfl) (by trivial) ?_
  refine OpsW.callP e28 (by cbv <;> rfl) ?_
  refine OpsW.run tok hO (by cbv <;> rfl) (by trivial) ?_
  refine SW.seqRun tok hO (by cbv <;> rfl) (by trivial) ?_
  refine OpsW.callP e26 (by cbv <;> rfl) ?_
  refine OpsW.run tok hO (by cbv <;> rfl) (by trivial) ?_
  refine SW.seqRun tok hO (by cbv <;> rfl) (by trivial) ?_
  refine SW.seq ?_
  refine SW.seqRun tok hO (by cbv <;> rfl) (by trivial) ?_
  refine OpsW.callP e24 (by cbv <;> rfl) ?_
  refine OpsW.run tok hO (by cbv <;> rfl) (by trivial) ?_
  refine SW.condS (by cbv <;> rfl) (fun hw2 => by first | (cases hw2; done) | (subst hO; simp [std, hW] at hw2; done) | (subst hO; simp [std, hW] at hw2; omega)) (fun hw2 => SW.skip ?_)
  refine SW.seq ?_
  refine SW.seqRun tok hO (by cbv <;> rfl) (by trivial) ?_
  refine OpsW.splitG (by cbv <;> rfl) (fun hw3 => by first | (cases hw3; done) | (subst hO; simp [std, hW] at hw3; done) | (subst hO; simp [std, hW] at hw3; omega)) (fun hw3 => ?_)
  refine OpsW.run tok hO (by cbv <;> rfl) (by trivial) ?_
  refine OpsW.splitG (by cbv <;> rfl) (fun hw4 => by first | (cases hw4; done) | (subst hO; simp [std, hW] at hw4; done) | (subst hO; simp [std, hW] at hw4; omega)) (fun hw4 => ?_)
  refine OpsW.run tok hO (by cbv <;> rfl) (by trivial) ?_
  refine OpsW.splitG (by cbv <;> rfl) (fun hw5 => ?_) (fun hw5 => by first | (cases hw5; done) | (subst hO; simp [std, hW] at hw5; done) | (subst hO; simp [std, hW] at hw5; omega))
  refine OpsW.run tok hO (by cbv <;> rfl) (by trivial) ?_
  refine SW.condS (by cbv <;> rfl) (fun hw6 => by first | (cases hw6; done) | (subst hO; simp [std, hW] at hw6; done) | (subst hO; simp [std, hW] at hw6; omega)) (fun hw6 => SW.skip ?_)
  refine SW.seq ?_
  refine SW.seqRun tok hO (by cbv <;> rfl) (by trivial) ?_
  refine SW.condS (by cbv <;> rfl) (fun hw7 => ?_) (fun hw7 => by first | (cases hw7; done) | (subst hO; simp [std, hW] at hw7; done) | (subst hO; simp [std, hW] at hw7; omega))
  refine SW.seqRun tok hO (by cbv <;> rfl) (by trivial) ?_
  refine OpsW.splitG (by cbv <;> rfl) (fun hw8 => ?_) (fun hw8 => by first | (cases hw8; done) | (subst hO; simp [std, hW] at hw8; done) | (subst hO; simp [std, hW] at hw8; omega))
  refine OpsW.run tok hO (by cbv <;> rfl) (by trivial) ?_
  refine OpsW.callP haw (by cbv <;> rfl) ?_
  refine OpsW.run tok hO (by cbv <;> rfl) (by trivial) ?_
  exact SW.ret ⟨_, _, rfl, rfl, Eqv.of rfl⟩
set_option maxHeartbeats 8000000 in
theorem wk_bt (haw : Pure Try.prog 18 [] (.lit (.bool true))) (y : YardD) (K w : Int) (UV : AV) (U : Int) (e17 : Pure Try.prog 17 [yardV y] (.sb true)) (e20 : Pure Try.prog 20 [yardV y] (yardV y)) (e27 : Pure Try.prog 27 [yardV y, iV K] (.tup [nl3, iV 2])) (e28 : Pure Try.prog 28 [yardV y, iV K, iV w] (.tup [iV 0, iV 2])) (e26 : Pure Try.prog 26 [yardV y] (.tup [UV, iV U])) (e24 : Pure Try.prog 24 [yardV y] (iV 0)) (e29a : Pure Try.prog 29 [iV K, iV 0, iV (std.bin .sub .i64 (Int.ofNat y.nb) 1)] (.sb false)) (e29b : Pure Try.prog 29 [iV w, iV 0, iV y.last] (.sb true)) : Pure Try.prog 4 [yardV y, iV K, iV w] (.lit (.bool true)) := by
  obtain ⟨O, hO⟩ : ∃ O : Ar, O = std := ⟨_, rfl⟩
  rw [← hO] at e29a
  refine pure_of_body tok 3 Try.func4 en4 rfl ⟨yardV_below y, Below.lit, Below.lit, trivial⟩ Below.lit ?_
  refine SW.seqRun tok hO (by cbv <;> rfl) (by trivial) ?_
  refine SW.seq ?_
  refine SW.seqRun tok hO (by cbv <;> rfl) (by trivial) ?_
  refine OpsW.callP e17 (by cbv <;> rfl) ?_
  refine OpsW.run tok hO (by cbv <;> rfl) (by trivial) ?_
  refine SW.condS (by cbv <;> rfl) (fun hw1 => by first | (cases hw1; done) | (subst hO; simp [std] at hw1; done) | (subst hO; simp [std] at hw1; omega)) (fun hw1 => SW.skip ?_)
  refine SW.seqRun tok hO (by cbv <;> rfl) (by trivial) ?_
  refine OpsW.callP e20 (by cbv <;> rfl) ?_
  refine OpsW.run tok hO (by cbv <;> rfl) (by trivial) ?_
  refine OpsW.callP e27 (by cbv <;> rfl) ?_
  refine OpsW.run tok hO (by cbv <;> rfl) (by trivial) ?_
  refine SW.seqRun tok hO (by cbv <;> rfl) (by trivial) ?_
  refine OpsW.callP e20 (by cbv <;> rfl) ?_
  refine OpsW.run tok hO (by cbv <;> rfl) (by trivial) ?_
  refine OpsW.callP e28 (by cbv <;> rfl) ?_
  refine OpsW.run tok hO (by cbv <;> rfl) (by trivial) ?_
  refine SW.seqRun tok hO (by cbv <;> rfl) (by trivial) ?_
  refine OpsW.callP e26 (by cbv <;> rfl) ?_
  refine OpsW.run tok hO (by cbv <;> rfl) (by trivial) ?_
  refine SW.seqRun tok hO (by cbv <;> rfl) (by trivial) ?_
  refine SW.seq ?_
  refine SW.seqRun tok hO (by cbv <;> rfl) (by trivial) ?_
  refine OpsW.callP e24 (by cbv <;> rfl) ?_
  refine OpsW.run tok hO (by cbv <;> rfl) (by trivial) ?_
  refine SW.condS (by cbv <;> rfl) (fun hw2 => ?_) (fun hw2 => by first | (cases hw2; done) | (subst hO; simp [std] at hw2; done) | (subst hO; simp [std] at hw2; omega))
  refine SW.seq ?_
  refine SW.seqRun tok hO (by cbv <;> rfl) (by trivial) ?_
  refine OpsW.callP e29a (by cbv <;> rfl) ?_
  refine OpsW.run tok hO (by cbv <;> rfl) (by trivial) ?_
  refine SW.condS (by cbv <;> rfl) (fun hw3 => ?_) (fun hw3 => by first | (cases hw3; done) | (subst hO; simp [std] at hw3; done) | (subst hO; simp [std] at hw3; omega))
  refine SW.run tok hO (by cbv <;> rfl) (by trivial) ?_
  refine SW.seqRun tok hO (by cbv <;> rfl) (by trivial) ?_
  refine OpsW.callP e29b (by cbv <;> rfl) ?_
  refine OpsW.run tok hO (by cbv <;> rfl) (by trivial) ?_
  refine SW.condS (by cbv <;> rfl) (fun hw4 => by first | (cases hw4; done) | (subst hO; simp [std] at hw4; done) | (subst hO; simp [std] at hw4; omega)) (fun hw4 => SW.skip ?_)
  refine SW.seq ?_
  refine SW.seqRun tok hO (by cbv <;> rfl) (by trivial) ?_
  refine OpsW.splitG (by cbv <;> rfl) (fun hw5 => by first | (cases hw5; done) | (subst hO; simp [std] at hw5; done) | (subst hO; simp [std] at hw5; omega)) (fun hw5 => ?_)
  refine OpsW.run tok hO (by cbv <;> rfl) (by trivial) ?_
  refine OpsW.splitG (by cbv <;> rfl) (fun hw6 => by first | (cases hw6; done) | (subst hO; simp [std] at hw6; done) | (subst hO; simp [std] at hw6; omega)) (fun hw6 => ?_)
  refine OpsW.run tok hO (by cbv <;> rfl) (by trivial) ?_
  refine OpsW.splitG (by cbv <;> rfl) (fun hw7 => ?_) (fun hw7 => by first | (cases hw7; done) | (subst hO; simp [std] at hw7; done) | (subst hO; simp [std] at hw7; omega))
  refine OpsW.run tok hO (by cbv <;> rfl) (by trivial) ?_
  refine SW.condS (by cbv <;> rfl) (fun hw8 => by first | (cases hw8; done) | (subst hO; simp [std] at hw8; done) | (subst hO; simp [std] at hw8; omega)) (fun hw8 => SW.skip ?_)
  refine SW.seq ?_
  refine SW.seqRun tok hO (by cbv <;> rfl) (by trivial) ?_
  refine SW.condS (by cbv <;> rfl) (fun hw9 => ?_) (fun hw9 => by first | (cases hw9; done) | (subst hO; simp [std] at hw9; done) | (subst hO; simp [std] at hw9; omega))
  refine SW.seqRun tok hO (by cbv <;> rfl) (by trivial) ?_
  refine OpsW.splitG (by cbv <;> rfl) (fun hw10 => ?_) (fun hw10 => by first | (cases hw10; done) | (subst hO; simp [std] at hw10; done) | (subst hO; simp [std] at hw10; omega))
  refine OpsW.run tok hO (by cbv <;> rfl) (by trivial) ?_
  refine OpsW.callP haw (by cbv <;> rfl) ?_
  refine OpsW.run tok hO (by cbv <;> rfl) (by trivial) ?_
  exact SW.ret ⟨_, _, rfl, rfl, Eqv.of rfl⟩
set_option maxHeartbeats 8000000 in
theorem wk_bf (haw : Pure Try.prog 18 [] (.lit (.bool true))) (y : YardD) (K w : Int) (UV : AV) (U : Int) (e17 : Pure Try.prog 17 [yardV y] (.sb true)) (e20 : Pure Try.prog 20 [yardV y] (yardV y)) (e27 : Pure Try.prog 27 [yardV y, iV K] (.tup [nl3, iV 2])) (e28 : Pure Try.prog 28 [yardV y, iV K, iV w] (.tup [iV 0, iV 2])) (e26 : Pure Try.prog 26 [yardV y] (.tup [UV, iV U])) (e24 : Pure Try.prog 24 [yardV y] (iV 0)) (e29a : Pure Try.prog 29 [iV K, iV 0, iV (std.bin .sub .i64 (Int.ofNat y.nb) 1)] (.sb false)) (e29b : Pure Try.prog 29 [iV w, iV 0, iV y.last] (.sb false)) : Pure Try.prog 4 [yardV y, iV K, iV w] (.lit (.bool true)) := by
  obtain ⟨O, hO⟩ : ∃ O : Ar, O = std := ⟨_, rfl⟩
  rw [← hO] at e29a
  refine pure_of_body tok 3 Try.func4 en4 rfl ⟨yardV_below y, Below.lit, Below.lit, trivial⟩ Below.lit ?_
  refine SW.seqRun tok hO (by cbv <;> rfl) (by trivial) ?_
  refine SW.seq ?_
  refine SW.seqRun tok hO (by cbv <;> rfl) (by trivial) ?_
  refine OpsW.callP e17 (by cbv <;> rfl) ?_
  refine OpsW.run tok hO (by cbv <;> rfl) (by trivial) ?_
  refine SW.condS (by cbv <;> rfl) (fun hw1 => by first | (cases hw1; done) | (subst hO; simp [std] at hw1; done) | (subst hO; simp [std] at hw1; omega)) (fun hw1 => SW.skip ?_)
  refine SW.seqRun tok hO (by cbv <;> rfl) (by trivial) ?_
  refine OpsW.callP e20 (by cbv <;> rfl) ?_
  refine OpsW.run tok hO (by cbv <;> rfl) (by trivial) ?_
  refine OpsW.callP e27 (by cbv <;> rfl) ?_
  refine OpsW.run tok hO (by cbv <;> rfl) (by trivial) ?_
  refine SW.seqRun tok hO (by cbv <;> rfl) (by trivial) ?_
  refine OpsW.callP e20 (by cbv <;> rfl) ?_
  refine OpsW.run tok hO (by cbv <;> rfl) (by trivial) ?_
  refine OpsW.callP e28 (by cbv <;> rfl) ?_
  refine OpsW.run tok hO (by cbv <;> rfl) (by trivial) ?_
  refine SW.seqRun tok hO (by cbv <;> rfl) (by trivial) ?_
  refine OpsW.callP e26 (by cbv <;> rfl) ?_
  refine OpsW.run tok hO (by cbv <;> rfl) (by trivial) ?_
  refine SW.seqRun tok hO (by cbv <;> rfl) (by trivial) ?_
  refine SW.seq ?_
  refine SW.seqRun tok hO (by cbv <;> rfl) (by trivial) ?_
  refine OpsW.callP e24 (by cbv <;> rfl) ?_
  refine OpsW.run tok hO (by cbv <;> rfl) (by trivial) ?_
  refine SW.condS (by cbv <;> rfl) (fun hw2 => ?_) (fun hw2 => by first | (cases hw2; done) | (subst hO; simp [std] at hw2; done) | (subst hO; simp [std] at hw2; omega))
  refine SW.seq ?_
  refine SW.seqRun tok hO (by cbv <;> rfl) (by trivial) ?_
  refine OpsW.callP e29a (by cbv <;> rfl) ?_
  refine OpsW.run tok hO (by cbv <;> rfl) (by trivial) ?_
  refine SW.condS (by cbv <;> rfl) (fun hw3 => ?_) (fun hw3 => by first | (cases hw3; done) | (subst hO; simp [std] at hw3; done) | (subst hO; simp [std] at hw3; omega))
  refine SW.run tok hO (by cbv <;> rfl) (by trivial) ?_
  refine SW.seqRun tok hO (by cbv <;> rfl) (by trivial) ?_
  refine OpsW.callP e29b (by cbv <;> rfl) ?_
  refine OpsW.run tok hO (by cbv <;> rfl) (by trivial) ?_
  refine SW.condS (by cbv <;> rfl) (fun hw4 => ?_) (fun hw4 => by first | (cases hw4; done) | (subst hO; simp [std] at hw4; done) | (subst hO; simp [std] at hw4; omega))
  refine SW.run tok hO (by cbv <;> rfl) (by trivial) ?_
  refine SW.seq ?_
  refine SW.seqRun tok hO (by cbv <;> rfl) (by trivial) ?_
  refine OpsW.splitG (by cbv <;> rfl) (fun hw5 => by first | (cases hw5; done) | (subst hO; simp [std] at hw5; done) | (subst hO; simp [std] at hw5; omega)) (fun hw5 => ?_)
  refine OpsW.run tok hO (by cbv <;> rfl) (by trivial) ?_
  refine OpsW.splitG (by cbv <;> rfl) (fun hw6 => by first | (cases hw6; done) | (subst hO; simp [std] at hw6; done) | (subst hO; simp [std] at hw6; omega)) (fun hw6 => ?_)
  refine OpsW.run tok hO (by cbv <;> rfl) (by trivial) ?_
  refine OpsW.splitG (by cbv <;> rfl) (fun hw7 => ?_) (fun hw7 => by first | (cases hw7; done) | (subst hO; simp [std] at hw7; done) | (subst hO; simp [std] at hw7; omega))
  refine OpsW.run tok hO (by cbv <;> rfl) (by trivial) ?_
  refine SW.condS (by cbv <;> rfl) (fun hw8 => by first | (cases hw8; done) | (subst hO; simp [std] at hw8; done) | (subst hO; simp [std] at hw8; omega)) (fun hw8 => SW.skip ?_)
  refine SW.seq ?_
  refine SW.seqRun tok hO (by cbv <;> rfl) (by trivial) ?_
  refine SW.condS (by cbv <;> rfl) (fun hw9 => ?_) (fun hw9 => by first | (cases hw9; done) | (subst hO; simp [std] at hw9; done) | (subst hO; simp [std] at hw9; omega))
  refine SW.seqRun tok hO (by cbv <;> rfl) (by trivial) ?_
  refine OpsW.splitG (by cbv <;> rfl) (fun hw10 => ?_) (fun hw10 => by first | (cases hw10; done) | (subst hO; simp [std] at hw10; done) | (subst hO; simp [std] at hw10; omega))
  refine OpsW.run tok hO (by cbv <;> rfl) (by trivial) ?_
  refine OpsW.callP haw (by cbv <;> rfl) ?_
  refine OpsW.run tok hO (by cbv <;> rfl) (by trivial) ?_
  exact SW.ret ⟨_, _, rfl, rfl, Eqv.of rfl⟩
set_option maxHeartbeats 8000000 in
theorem wk_cU (haw : Pure Try.prog 18 [] (.lit (.bool true))) (y : YardD) (K w : Int) (U : Int) (hU : ¬ U = 0) (e17 : Pure Try.prog 17 [yardV y] (.sb true)) (e20 : Pure Try.prog 20 [yardV y] (yardV y)) (e27 : Pure Try.prog 27 [yardV y, iV K] (.tup [nl3, iV U])) (e28 : Pure Try.prog 28 [yardV y, iV K, iV w] (.tup [iV 0, iV 2])) (e26 : Pure Try.prog 26 [yardV y] (.tup [nl3, iV U])) (e24 : Pure Try.prog 24 [yardV y] (iV 0)) (e29a : Pure Try.prog 29 [iV K, iV 0, iV (std.bin .sub .i64 (Int.ofNat y.nb) 1)] (.sb true)) (e29b : Pure Try.prog 29 [iV w, iV 0, iV y.last] (.sb false)) : Pure Try.prog 4 [yardV y, iV K, iV w] (.lit (.bool true)) := by
  obtain ⟨O, hO⟩ : ∃ O : Ar, O = std := ⟨_, rfl⟩
  rw [← hO] at e29a
  refine pure_of_body tok 3 Try.func4 en4 rfl ⟨yardV_below y, Below.lit, Below.lit, trivial⟩ Below.lit ?_
  refine SW.seqRun tok hO (by cbv <;> rfl) (by trivial) ?_
  refine SW.seq ?_
  refine SW.seqRun tok hO (by cbv <;> rfl) (by trivial) ?_
  refine OpsW.callP e17 (by cbv <;> rfl) ?_
  refine OpsW.run tok hO (by cbv <;> rfl) (by trivial) ?_
  refine SW.condS (by cbv <;> rfl) (fun hw1 => by first | (cases hw1; done) | (subst hO; simp [std, hU] at hw1; done) | (subst hO; simp [std, hU] at hw1; omega)) (fun hw1 => SW.skip ?_)
  refine SW.seqRun tok hO (by cbv <;> rfl) (by trivial) ?_
  refine OpsW.callP e20 (by cbv <;> rfl) ?_
  refine OpsW.run tok hO (by cbv <;> rfl) (by trivial) ?_
  refine OpsW.callP e27 (by cbv <;> rfl) ?_
  refine OpsW.run tok hO (by cbv <;> rfl) (by trivial) ?_
  refine SW.seqRun tok hO (by cbv <;> rfl) (by trivial) ?_
  refine OpsW.callP e20 (by cbv <;> rfl) ?_
  refine OpsW.run tok hO (by cbv <;> rfl) (by trivial) ?_
  refine OpsW.callP e28 (by cbv <;> rfl) ?_
  refine OpsW.run tok hO (by cbv <;> rfl) (by trivial) ?_
  refine SW.seqRun tok hO (by cbv <;> rfl) (by trivial) ?_
  refine OpsW.callP e26 (by cbv <;> rfl) ?_
  refine OpsW.run tok hO (by cbv <;> rfl) (by trivial) ?_
  refine SW.seqRun tok hO (by cbv <;> rfl) (by trivial) ?_
  refine SW.seq ?_
  refine SW.seqRun tok hO (by cbv <;> rfl) (by trivial) ?_
  refine OpsW.callP e24 (by cbv <;> rfl) ?_
  refine OpsW.run tok hO (by cbv <;> rfl) (by trivial) ?_
  refine SW.condS (by cbv <;> rfl) (fun hw2 => ?_) (fun hw2 => by first | (cases hw2; done) | (subst hO; simp [std, hU] at hw2; done) | (subst hO; simp [std, hU] at hw2; omega))
  refine SW.seq ?_
  refine SW.seqRun tok hO (by cbv <;> rfl) (by trivial) ?_
  refine OpsW.callP e29a (by cbv <;> rfl) ?_
  refine OpsW.run tok hO (by cbv <;> rfl) (by trivial) ?_
  refine SW.condS (by cbv <;> rfl) (fun hw3 => by first | (cases hw3; done) | (subst hO; simp [std, hU] at hw3; done) | (subst hO; simp [std, hU] at hw3; omega)) (fun hw3 => SW.skip ?_)
  refine SW.seqRun tok hO (by cbv <;> rfl) (by trivial) ?_
  refine OpsW.callP e29b (by cbv <;> rfl) ?_
  refine OpsW.run tok hO (by cbv <;> rfl) (by trivial) ?_
  refine SW.condS (by cbv <;> rfl) (fun hw4 => ?_) (fun hw4 => by first | (cases hw4; done) | (subst hO; simp [std, hU] at hw4; done) | (subst hO; simp [std, hU] at hw4; omega))
  refine SW.run tok hO (by cbv <;> rfl) (by trivial) ?_
  refine SW.seq ?_
  refine SW.seqRun tok hO (by cbv <;> rfl) (by trivial) ?_
  refine OpsW.splitG (by cbv <;> rfl) (fun hw5 => by first | (cases hw5; done) | (subst hO; simp [std, hU] at hw5; done) | (subst hO; simp [std, hU] at hw5; omega)) (fun hw5 => ?_)
  refine OpsW.run tok hO (by cbv <;> rfl) (by trivial) ?_
  refine OpsW.splitG (by cbv <;> rfl) (fun hw6 => by first | (cases hw6; done) | (subst hO; simp [std, hU] at hw6; done) | (subst hO; simp [std, hU] at hw6; omega)) (fun hw6 => ?_)
  refine OpsW.run tok hO (by cbv <;> rfl) (by trivial) ?_
  refine OpsW.splitG (by cbv <;> rfl) (fun hw7 => ?_) (fun hw7 => by first | (cases hw7; done) | (subst hO; simp [std, hU] at hw7; done) | (subst hO; simp [std, hU] at hw7; omega))
  refine OpsW.run tok hO (by cbv <;> rfl) (by trivial) ?_
  refine SW.condS (by cbv <;> rfl) (fun hw8 => by first | (cases hw8; done) | (subst hO; simp [std, hU] at hw8; done) | (subst hO; simp [std, hU] at hw8; omega)) (fun hw8 => SW.skip ?_)
  refine SW.seq ?_
  refine SW.seqRun tok hO (by cbv <;> rfl) (by trivial) ?_
  refine SW.condS (by cbv <;> rfl) (fun hw9 => ?_) (fun hw9 => by first | (cases hw9; done) | (subst hO; simp [std, hU] at hw9; done) | (subst hO; simp [std, hU] at hw9; omega))
  refine SW.seqRun tok hO (by cbv <;> rfl) (by trivial) ?_
  refine OpsW.splitG (by cbv <;> rfl) (fun hw10 => ?_) (fun hw10 => by first | (cases hw10; done) | (subst hO; simp [std, hU] at hw10; done) | (subst hO; simp [std, hU] at hw10; omega))
  refine OpsW.run tok hO (by cbv <;> rfl) (by trivial) ?_
  refine OpsW.callP haw (by cbv <;> rfl) ?_
  refine OpsW.run tok hO (by cbv <;> rfl) (by trivial) ?_
  exact SW.ret ⟨_, _, rfl, rfl, Eqv.of rfl⟩
set_option maxHeartbeats 8000000 in
theorem wk_c0 (haw : Pure Try.prog 18 [] (.lit (.bool true))) (y : YardD) (K w : Int) (AL BL UV : AV) (e17 : Pure Try.prog 17 [yardV y] (.sb true)) (e20 : Pure Try.prog 20 [yardV y] (yardV y)) (e27 : Pure Try.prog 27 [yardV y, iV K] (.tup [AL, iV 0])) (e28 : Pure Try.prog 28 [yardV y, iV K, iV w] (.tup [iV 0, iV 2])) (e26 : Pure Try.prog 26 [yardV y] (.tup [UV, iV 0])) (e24 : Pure Try.prog 24 [yardV y] (iV 0)) (e29a : Pure Try.prog 29 [iV K, iV 0, iV (std.bin .sub .i64 (Int.ofNat y.nb) 1)] (.sb true)) (e29b : Pure Try.prog 29 [iV w, iV 0, iV y.last] (.sb false)) (e31 : Pure Try.prog 31 [yardV y, UV, iV K] BL) (e30 : Pure Try.prog 30 [AL, BL] (.sb true)) : Pure Try.prog 4 [yardV y, iV K, iV w] (.lit (.bool true)) := by
  obtain ⟨O, hO⟩ : ∃ O : Ar, O = std := ⟨_, rfl⟩
  rw [← hO] at e29a
  refine pure_of_body tok 3 Try.func4 en4 rfl ⟨yardV_below y, Below.lit, Below.lit, trivial⟩ Below.lit ?_
  refine SW.seqRun tok hO (by cbv <;> rfl) (by trivial) ?_
  refine SW.seq ?_
  refine SW.seqRun tok hO (by cbv <;> rfl) (by trivial) ?_
  refine OpsW.callP e17 (by cbv <;> rfl) ?_
  refine OpsW.run tok hO (by cbv <;> rfl) (by trivial) ?_
  refine SW.condS (by cbv <;> rfl) (fun hw1 => by first | (cases hw1; done) | (subst hO; simp [std] at hw1; done) | (subst hO; simp [std] at hw1; omega)) (fun hw1 => SW.skip ?_)
  refine SW.seqRun tok hO (by cbv <;> rfl) (by trivial) ?_
  refine OpsW.callP e20 (by cbv <;> rfl) ?_
  refine OpsW.run tok hO (by cbv <;> rfl) (by trivial) ?_
  refine OpsW.callP e27 (by cbv <;> rfl) ?_
  refine OpsW.run tok hO (by cbv <;> rfl) (by trivial) ?_
  refine SW.seqRun tok hO (by cbv <;> rfl) (by trivial) ?_
  refine OpsW.callP e20 (by cbv <;> rfl) ?_
  refine OpsW.run tok hO (by cbv <;> rfl) (by trivial) ?_
  refine OpsW.callP e28 (by cbv <;> rfl) ?_
  refine OpsW.run tok hO (by cbv <;> rfl) (by trivial) ?_
  refine SW.seqRun tok hO (by cbv <;> rfl) (by trivial) ?_
  refine OpsW.callP e26 (by cbv <;> rfl) ?_
  refine OpsW.run tok hO (by cbv <;> rfl) (by trivial) ?_
  refine SW.seqRun tok hO (by cbv <;> rfl) (by trivial) ?_
  refine SW.seq ?_
  refine SW.seqRun tok hO (by cbv <;> rfl) (by trivial) ?_
  refine OpsW.callP e24 (by cbv <;> rfl) ?_
  refine OpsW.run tok hO (by cbv <;> rfl) (by trivial) ?_
  refine SW.condS (by cbv <;> rfl) (fun hw2 => ?_) (fun hw2 => by first | (cases hw2; done) | (subst hO; simp [std] at hw2; done) | (subst hO; simp [std] at hw2; omega))
  refine SW.seq ?_
  refine SW.seqRun tok hO (by cbv <;> rfl) (by trivial) ?_
  refine OpsW.callP e29a (by cbv <;> rfl) ?_
  refine OpsW.run tok hO (by cbv <;> rfl) (by trivial) ?_
  refine SW.condS (by cbv <;> rfl) (fun hw3 => by first | (cases hw3; done) | (subst hO; simp [std] at hw3; done) | (subst hO; simp [std] at hw3; omega)) (fun hw3 => SW.skip ?_)
  refine SW.seqRun tok hO (by cbv <;> rfl) (by trivial) ?_
  refine OpsW.callP e29b (by cbv <;> rfl) ?_
  refine OpsW.run tok hO (by cbv <;> rfl) (by trivial) ?_
  refine SW.condS (by cbv <;> rfl) (fun hw4 => ?_) (fun hw4 => by first | (cases hw4; done) | (subst hO; simp [std] at hw4; done) | (subst hO; simp [std] at hw4; omega))
  refine SW.run tok hO (by cbv <;> rfl) (by trivial) ?_
  refine SW.seq ?_
  refine SW.seqRun tok hO (by cbv <;> rfl) (by trivial) ?_
  refine OpsW.splitG (by cbv <;> rfl) (fun hw5 => by first | (cases hw5; done) | (subst hO; simp [std] at hw5; done) | (subst hO; simp [std] at hw5; omega)) (fun hw5 => ?_)
  refine OpsW.run tok hO (by cbv <;> rfl) (by trivial) ?_
  refine OpsW.splitG (by cbv <;> rfl) (fun hw6 => by first | (cases hw6; done) | (subst hO; simp [std] at hw6; done) | (subst hO; simp [std] at hw6; omega)) (fun hw6 => ?_)
  refine OpsW.run tok hO (by cbv <;> rfl) (by trivial) ?_
  refine OpsW.splitG (by cbv <;> rfl) (fun hw7 => ?_) (fun hw7 => by first | (cases hw7; done) | (subst hO; simp [std] at hw7; done) | (subst hO; simp [std] at hw7; omega))
  refine OpsW.run tok hO (by cbv <;> rfl) (by trivial) ?_
  refine SW.condS (by cbv <;> rfl) (fun hw8 => by first | (cases hw8; done) | (subst hO; simp [std] at hw8; done) | (subst hO; simp [std] at hw8; omega)) (fun hw8 => SW.skip ?_)
  refine SW.seq ?_
  refine SW.seqRun tok hO (by cbv <;> rfl) (by trivial) ?_
  refine SW.condS (by cbv <;> rfl) (fun hw9 => by first | (cases hw9; done) | (subst hO; simp [std] at hw9; done) | (subst hO; simp [std] at hw9; omega)) (fun hw9 => SW.skip ?_)
  refine SW.seqRun tok hO (by cbv <;> rfl) (by trivial) ?_
  refine OpsW.callP e31 (by cbv <;> rfl) ?_
  refine OpsW.run tok hO (by cbv <;> rfl) (by trivial) ?_
  refine OpsW.callP e30 (by cbv <;> rfl) ?_
  refine OpsW.run tok hO (by cbv <;> rfl) (by trivial) ?_
  refine OpsW.splitG (by cbv <;> rfl) (fun hw10 => ?_) (fun hw10 => by first | (cases hw10; done) | (subst hO; simp [std] at hw10; done) | (subst hO; simp [std] at hw10; omega))
  refine OpsW.run tok hO (by cbv <;> rfl) (by trivial) ?_
  refine OpsW.splitG (by cbv <;> rfl) (fun hw11 => ?_) (fun hw11 => by first | (cases hw11; done) | (subst hO; simp [std] at hw11; done) | (subst hO; simp [std] at hw11; omega))
  refine OpsW.run tok hO (by cbv <;> rfl) (by trivial) ?_
  refine OpsW.callP haw (by cbv <;> rfl) ?_
  refine OpsW.run tok hO (by cbv <;> rfl) (by trivial) ?_
  exact SW.ret ⟨_, _, rfl, rfl, Eqv.of rfl⟩
set_option maxHeartbeats 8000000 in
theorem wk_dU (haw : Pure Try.prog 18 [] (.lit (.bool true))) (y : YardD) (K w : Int) (U : Int) (hU : ¬ U = 0) (e17 : Pure Try.prog 17 [yardV y] (.sb true)) (e20 : Pure Try.prog 20 [yardV y] (yardV y)) (e27 : Pure Try.prog 27 [yardV y, iV K] (.tup [nl3, iV U])) (e28 : Pure Try.prog 28 [yardV y, iV K, iV w] (.tup [iV 0, iV U])) (e26 : Pure Try.prog 26 [yardV y] (.tup [nl3, iV U])) (e24 : Pure Try.prog 24 [yardV y] (iV 0)) (e29a : Pure Try.prog 29 [iV K, iV 0, iV (std.bin .sub .i64 (Int.ofNat y.nb) 1)] (.sb true)) (e29b : Pure Try.prog 29 [iV w, iV 0, iV y.last] (.sb true)) : Pure Try.prog 4 [yardV y, iV K, iV w] (.lit (.bool true)) := by
  obtain ⟨O, hO⟩ : ∃ O : Ar, O = std := ⟨_, rfl⟩
  rw [← hO] at e29a
  refine pure_of_body tok 3 Try.func4 en4 rfl ⟨yardV_below y, Below.lit, Below.lit, trivial⟩ Below.lit ?_
  refine SW.seqRun tok hO (by cbv <;> rfl) (by trivial) ?_
  refine SW.seq ?_
  refine SW.seqRun tok hO (by cbv <;> rfl) (by trivial) ?_
  refine OpsW.callP e17 (by cbv <;> rfl) ?_
  refine OpsW.run tok hO (by cbv <;> rfl) (by trivial) ?_
  refine SW.condS (by cbv <;> rfl) (fun hw1 => by first | (cases hw1; done) | (subst hO; simp [std, hU] at hw1; done) | (subst hO; simp [std, hU] at hw1; omega)) (fun hw1 => SW.skip ?_)
  refine SW.seqRun tok hO (by cbv <;> rfl) (by trivial) ?_
  refine OpsW.callP e20 (by cbv <;> rfl) ?_
  refine OpsW.run tok hO (by cbv <;> rfl) (by trivial) ?_
  refine OpsW.callP e27 (by cbv <;> rfl) ?_
  refine OpsW.run tok hO (by cbv <;> rfl) (by trivial) ?_
  refine SW.seqRun tok hO (by cbv <;> rfl) (by trivial) ?_
  refine OpsW.callP e20 (by cbv <;> rfl) ?_
  refine OpsW.run tok hO (by cbv <;> rfl) (by trivial) ?_
  refine OpsW.callP e28 (by cbv <;> rfl) ?_
  refine OpsW.run tok hO (by cbv <;> rfl) (by trivial) ?_
  refine SW.seqRun tok hO (by cbv <;> rfl) (by trivial) ?_
  refine OpsW.callP e26 (by cbv <;> rfl) ?_
  refine OpsW.run tok hO (by cbv <;> rfl) (by trivial) ?_
  refine SW.seqRun tok hO (by cbv <;> rfl) (by trivial) ?_
  refine SW.seq ?_
  refine SW.seqRun tok hO (by cbv <;> rfl) (by trivial) ?_
  refine OpsW.callP e24 (by cbv <;> rfl) ?_
  refine OpsW.run tok hO (by cbv <;> rfl) (by trivial) ?_
  refine SW.condS (by cbv <;> rfl) (fun hw2 => ?_) (fun hw2 => by first | (cases hw2; done) | (subst hO; simp [std, hU] at hw2; done) | (subst hO; simp [std, hU] at hw2; omega))
  refine SW.seq ?_
  refine SW.seqRun tok hO (by cbv <;> rfl) (by trivial) ?_
  refine OpsW.callP e29a (by cbv <;> rfl) ?_
  refine OpsW.run tok hO (by cbv <;> rfl) (by trivial) ?_
  refine SW.condS (by cbv <;> rfl) (fun hw3 => by first | (cases hw3; done) | (subst hO; simp [std, hU] at hw3; done) | (subst hO; simp [std, hU] at hw3; omega)) (fun hw3 => SW.skip ?_)
  refine SW.seqRun tok hO (by cbv <;> rfl) (by trivial) ?_
  refine OpsW.callP e29b (by cbv <;> rfl) ?_
  refine OpsW.run tok hO (by cbv <;> rfl) (by trivial) ?_
  refine SW.condS (by cbv <;> rfl) (fun hw4 => by first | (cases hw4; done) | (subst hO; simp [std, hU] at hw4; done) | (subst hO; simp [std, hU] at hw4; omega)) (fun hw4 => SW.skip ?_)
  refine SW.seq ?_
  refine SW.seqRun tok hO (by cbv <;> rfl) (by trivial) ?_
  refine OpsW.splitG (by cbv <;> rfl) (fun hw5 => by first | (cases hw5; done) | (subst hO; simp [std, hU] at hw5; done) | (subst hO; simp [std, hU] at hw5; omega)) (fun hw5 => ?_)
  refine OpsW.run tok hO (by cbv <;> rfl) (by trivial) ?_
  refine OpsW.splitG (by cbv <;> rfl) (fun hw6 => by first | (cases hw6; done) | (subst hO; simp [std, hU] at hw6; done) | (subst hO; simp [std, hU] at hw6; omega)) (fun hw6 => ?_)
  refine OpsW.run tok hO (by cbv <;> rfl) (by trivial) ?_
  refine OpsW.splitG (by cbv <;> rfl) (fun hw7 => ?_) (fun hw7 => by first | (cases hw7; done) | (subst hO; simp [std, hU] at hw7; done) | (subst hO; simp [std, hU] at hw7; omega))
  refine OpsW.run tok hO (by cbv <;> rfl) (by trivial) ?_
  refine SW.condS (by cbv <;> rfl) (fun hw8 => by first | (cases hw8; done) | (subst hO; simp [std, hU] at hw8; done) | (subst hO; simp [std, hU] at hw8; omega)) (fun hw8 => SW.skip ?_)
  refine SW.seq ?_
  refine SW.seqRun tok hO (by cbv <;> rfl) (by trivial) ?_
  refine SW.condS (by cbv <;> rfl) (fun hw9 => ?_) (fun hw9 => by first | (cases hw9; done) | (subst hO; simp [std, hU] at hw9; done) | (subst hO; simp [std, hU] at hw9; omega))
  refine SW.seqRun tok hO (by cbv <;> rfl) (by trivial) ?_
  refine OpsW.splitG (by cbv <;> rfl) (fun hw10 => ?_) (fun hw10 => by first | (cases hw10; done) | (subst hO; simp [std, hU] at hw10; done) | (subst hO; simp [std, hU] at hw10; omega))
  refine OpsW.run tok hO (by cbv <;> rfl) (by trivial) ?_
  refine OpsW.callP haw (by cbv <;> rfl) ?_
  refine OpsW.run tok hO (by cbv <;> rfl) (by trivial) ?_
  exact SW.ret ⟨_, _, rfl, rfl, Eqv.of rfl⟩
set_option maxHeartbeats 8000000 in
theorem wk_d0 (haw : Pure Try.prog 18 [] (.lit (.bool true))) (y : YardD) (K w : Int) (AL BL UV : AV) (V : Int) (e17 : Pure Try.prog 17 [yardV y] (.sb true)) (e20 : Pure Try.prog 20 [yardV y] (yardV y)) (e27 : Pure Try.prog 27 [yardV y, iV K] (.tup [AL, iV 0])) (e28 : Pure Try.prog 28 [yardV y, iV K, iV w] (.tup [iV V, iV 0])) (e26 : Pure Try.prog 26 [yardV y] (.tup [UV, iV 0])) (e24 : Pure Try.prog 24 [yardV y] (iV 0)) (e29a : Pure Try.prog 29 [iV K, iV 0, iV (std.bin .sub .i64 (Int.ofNat y.nb) 1)] (.sb true)) (e29b : Pure Try.prog 29 [iV w, iV 0, iV y.last] (.sb true)) (e31 : Pure Try.prog 31 [yardV y, UV, iV K] BL) (e30 : Pure Try.prog 30 [AL, BL] (.sb true)) (e32 : Pure Try.prog 32 [yardV y, UV, iV K, iV w] (iV V)) : Pure Try.prog 4 [yardV y, iV K, iV w] (.lit (.bool true)) := by
  obtain ⟨O, hO⟩ : ∃ O : Ar, O = std := ⟨_, rfl⟩
  rw [← hO] at e29a
  refine pure_of_body tok 3 Try.func4 en4 rfl ⟨yardV_below y, Below.lit, Below.lit, trivial⟩ Below.lit ?_
  refine SW.seqRun tok hO (by cbv <;> rfl) (by trivial) ?_
  refine SW.seq ?_
  refine SW.seqRun tok hO (by cbv <;> rfl) (by trivial) ?_
  refine OpsW.callP e17 (by cbv <;> rfl) ?_
  refine OpsW.run tok hO (by cbv <;> rfl) (by trivial) ?_
  refine SW.condS (by cbv <;> rfl) (fun hw1 => by first | (cases hw1; done) | (subst hO; simp [std] at hw1; done) | (subst hO; simp [std] at hw1; omega)) (fun hw1 => SW.skip ?_)
  refine SW.seqRun tok hO (by cbv <;> rfl) (by trivial) ?_
  refine OpsW.callP e20 (by cbv <;> rfl) ?_
  refine OpsW.run tok hO (by cbv <;> rfl) (by trivial) ?_
  refine OpsW.callP e27 (by cbv <;> rfl) ?_
  refine OpsW.run tok hO (by cbv <;> rfl) (by trivial) ?_
  refine SW.seqRun tok hO (by cbv <;> rfl) (by trivial) ?_
  refine OpsW.callP e20 (by cbv <;> rfl) ?_
  refine OpsW.run tok hO (by cbv <;> rfl) (by trivial) ?_
  refine OpsW.callP e28 (by cbv <;> rfl) ?_
  refine OpsW.run tok hO (by cbv <;> rfl) (by trivial) ?_
  refine SW.seqRun tok hO (by cbv <;> rfl) (by trivial) ?_
  refine OpsW.callP e26 (by cbv <;> rfl) ?_
  refine OpsW.run tok hO (by cbv <;> rfl) (by trivial) ?_
  refine SW.seqRun tok hO (by cbv <;> rfl) (by trivial) ?_
  refine SW.seq ?_
  refine SW.seqRun tok hO (by cbv <;> rfl) (by trivial) ?_
  refine OpsW.callP e24 (by cbv <;> rfl) ?_
  refine OpsW.run tok hO (by cbv <;> rfl) (by trivial) ?_
  refine SW.condS (by cbv <;> rfl) (fun hw2 => ?_) (fun hw2 => by first | (cases hw2; done) | (subst hO; simp [std] at hw2; done) | (subst hO; simp [std] at hw2; omega))
  refine SW.seq ?_
  refine SW.seqRun tok hO (by cbv <;> rfl) (by trivial) ?_
  refine OpsW.callP e29a (by cbv <;> rfl) ?_
  refine OpsW.run tok hO (by cbv <;> rfl) (by trivial) ?_
  refine SW.condS (by cbv <;> rfl) (fun hw3 => by first | (cases hw3; done) | (subst hO; simp [std] at hw3; done) | (subst hO; simp [std] at hw3; omega)) (fun hw3 => SW.skip ?_)
  refine SW.seqRun tok hO (by cbv <;> rfl) (by trivial) ?_
  refine OpsW.callP e29b (by cbv <;> rfl) ?_
  refine OpsW.run tok hO (by cbv <;> rfl) (by trivial) ?_
  refine SW.condS (by cbv <;> rfl) (fun hw4 => by first | (cases hw4; done) | (subst hO; simp [std] at hw4; done) | (subst hO; simp [std] at hw4; omega)) (fun hw4 => SW.skip ?_)
  refine SW.seq ?_
  refine SW.seqRun tok hO (by cbv <;> rfl) (by trivial) ?_
  refine OpsW.splitG (by cbv <;> rfl) (fun hw5 => by first | (cases hw5; done) | (subst hO; simp [std] at hw5; done) | (subst hO; simp [std] at hw5; omega)) (fun hw5 => ?_)
  refine OpsW.run tok hO (by cbv <;> rfl) (by trivial) ?_
  refine OpsW.splitG (by cbv <;> rfl) (fun hw6 => by first | (cases hw6; done) | (subst hO; simp [std] at hw6; done) | (subst hO; simp [std] at hw6; omega)) (fun hw6 => ?_)
  refine OpsW.run tok hO (by cbv <;> rfl) (by trivial) ?_
  refine OpsW.splitG (by cbv <;> rfl) (fun hw7 => by first | (cases hw7; done) | (subst hO; simp [std] at hw7; done) | (subst hO; simp [std] at hw7; omega)) (fun hw7 => ?_)
  refine OpsW.run tok hO (by cbv <;> rfl) (by trivial) ?_
  refine SW.cond (t := false) (by cbv <;> rfl) (SW.skip ?_)
  refine SW.seq ?_
  refine SW.seqRun tok hO (by cbv <;> rfl) (by trivial) ?_
  refine SW.condS (by cbv <;> rfl) (fun hw8 => by first | (cases hw8; done) | (subst hO; simp [std] at hw8; done) | (subst hO; simp [std] at hw8; omega)) (fun hw8 => SW.skip ?_)
  refine SW.seqRun tok hO (by cbv <;> rfl) (by trivial) ?_
  refine OpsW.callP e31 (by cbv <;> rfl) ?_
  refine OpsW.run tok hO (by cbv <;> rfl) (by trivial) ?_
  refine OpsW.callP e30 (by cbv <;> rfl) ?_
  refine OpsW.run tok hO (by cbv <;> rfl) (by trivial) ?_
  refine OpsW.splitG (by cbv <;> rfl) (fun hw9 => ?_) (fun hw9 => by first | (cases hw9; done) | (subst hO; simp [std] at hw9; done) | (subst hO; simp [std] at hw9; omega))
  refine OpsW.run tok hO (by cbv <;> rfl) (by trivial) ?_
  refine OpsW.splitG (by cbv <;> rfl) (fun hw10 => by first | (cases hw10; done) | (subst hO; simp [std] at hw10; done) | (subst hO; simp [std] at hw10; omega)) (fun hw10 => ?_)
  refine OpsW.run tok hO (by cbv <;> rfl) (by trivial) ?_
  refine OpsW.callP e32 (by cbv <;> rfl) ?_
  refine OpsW.run tok hO (by cbv <;> rfl) (by trivial) ?_
  refine OpsW.splitG (by cbv <;> rfl) (fun hw11 => ?_) (fun hw11 => by first | (cases hw11; done) | (subst hO; simp [std] at hw11; done) | (subst hO; simp [std] at hw11; omega))
  refine OpsW.run tok hO (by cbv <;> rfl) (by trivial) ?_
  refine OpsW.callP haw (by cbv <;> rfl) ?_
  refine OpsW.run tok hO (by cbv <;> rfl) (by trivial) ?_
  exact SW.ret ⟨_, _, rfl, rfl, Eqv.of rfl⟩
end Go.Fz
set_option linter.unusedVariables false
namespace Go.Fz
open Go.Proofs
set_option maxRecDepth 100000
end Go.Fz
set_option linter.unusedVariables false
namespace Go.Fz
open Go.Proofs
set_option maxRecDepth 100000
theorem sel_full {nb : Nat} (hn : nb ≤ 6) : selL (allI nb) nb = List.range nb := by
  obtain ⟨a1, a2, a3, _⟩ := all6_fin ⟨nb, by omega⟩
  rw [selL_nb hn a2 a3]; exact a1
theorem bit_full {nb i : Nat} (hn : nb ≤ 6) (hi : i < nb) : bitB (allI nb) i = true := allI_bit ⟨nb, by omega⟩ ⟨i, by omega⟩ hi
theorem sch_all {y : YardD} (hc : y.check = 0) {f : Nat → Int} (hf : f ∈ y.schR) : lessF y.nb f ∈ y.allS ∧ ∀ i, i < y.nb → y.blo i ≤ f i ∧ f i ≤ y.bhi i := by
  obtain ⟨hfit, _, _, hh, _⟩ := y.fit_of_check hc
  obtain ⟨n, h1, h2, rfl⟩ := mem_pickS.1 hf
  obtain ⟨m1, m2⟩ := many_small hc (allI y.nb)
  have ho := ofL_nF hfit (b := allI y.nb) (n := Int.ofNat n) (Int.natCast_nonneg n) (by
    show (n : Int) ≤ 4000
    omega)
  have hs := (fit_sch hfit (by omega) ho).1 h2
  rw [sel_full hfit.nb] at hs
  refine ⟨mem_allS.2 ⟨fun b hb => if_neg fun hl => hb (List.mem_range.2 hl), sch_congr (fun i hi => (lessF_lt (List.mem_range.1 hi)).symm) hs⟩, fun i hi => ?_⟩
  exact hs.rng i (List.mem_range.2 hi)
theorem all_sch {y : YardD} (hc : y.check = 0) {g : Nat → Int} (hg : g ∈ y.allS) : ∃ f ∈ y.schR, ∀ i, i < y.nb → f i = g i := by
  obtain ⟨hfit, _, _, hh, _⟩ := y.fit_of_check hc
  obtain ⟨_, hs⟩ := mem_allS.1 hg
  obtain ⟨m1, m2⟩ := many_small hc (allI y.nb)
  obtain ⟨n, hn, hv⟩ := nF_onto hc (allI y.nb) (g := g) fun i hi _ => hs.rng i (List.mem_range.2 hi)
  have he : ∀ i, i < y.nb → y.nF (allI y.nb) (Int.ofNat n) i = g i := fun i hi => hv i hi (bit_full hfit.nb hi)
  have ho := ofL_nF hfit (b := allI y.nb) (n := Int.ofNat n) (Int.natCast_nonneg n) (by
    show (n : Int) ≤ 4000
    omega)
  refine ⟨_, mem_pickS.2 ⟨n, by omega, (fit_sch hfit (by omega) ho).2 ?_, rfl⟩, he⟩
  rw [sel_full hfit.nb]
  exact sch_congr (fun i hi => (he i (List.mem_range.1 hi)).symm) hs
theorem rgt_congr {y : YardD} (hcb : ∀ i, i < y.nc → 0 ≤ y.cb i ∧ y.cb i < y.nb) {f g : Nat → Int} (h : ∀ i, i < y.nb → f i = g i) {p : Nat} (hp : p < y.nc) : y.rgt f p = y.rgt g p := by
  have := hcb p hp
  unfold YardD.rgt
  rw [h _ (by omega)]
theorem or_bit : ∀ (n : Fin 5) (a : Fin 32), a.1 < 2 ^ n.1 → (0 ≤ std.bin .or .i64 (a.1 : Int) (std.bin .shl .i64 1 (std.conv .u64 (Int.ofNat n.1))) ∧ std.bin .or .i64 (a.1 : Int) (std.bin .shl .i64 1 (std.conv .u64 (Int.ofNat n.1))) < 2 ^ (n.1 + 1)) ∧ ∀ j : Fin 6, bitB (std.bin .or .i64 (a.1 : Int) (std.bin .shl .i64 1 (std.conv .u64 (Int.ofNat n.1)))) j.1 = (bitB (a.1 : Int) j.1 || decide (j.1 = n.1)) := by decide +kernel
theorem bit_zero0 : ∀ j : Fin 6, bitB (0 : Int) j.1 = false := by decide +kernel
theorem rm_bits (y : YardD) (f : Nat → Int) : ∀ n, n ≤ 5 → (0 ≤ y.rm f n ∧ y.rm f n < 2 ^ n) ∧ ∀ j, j < 6 → bitB (y.rm f n) j = (decide (j < n) && y.rgt f j)
  | 0, _ => by
    refine ⟨⟨Int.le_refl _, by show (0 : Int) < 1; omega⟩, fun j hj => ?_⟩
    have : bitB (0 : Int) j = false := bit_zero0 ⟨j, hj⟩
    show bitB (0 : Int) j = _
    rw [this, decide_eq_false (Nat.not_lt_zero j)]; rfl
  | n + 1, hn => by
    obtain ⟨⟨h1, h2⟩, h3⟩ := rm_bits y f n (by omega)
    have h32 : (2 : Int) ^ n ≤ 32 := by
      have : n = 0 ∨ n = 1 ∨ n = 2 ∨ n = 3 ∨ n = 4 := by omega
      rcases this with rfl | rfl | rfl | rfl | rfl <;> decide
    have h22 : (2 : Int) ^ n ≤ 2 ^ (n + 1) := by rw [Int.pow_succ]; omega
    have e : ((y.rm f n).toNat : Int) = y.rm f n := Int.toNat_of_nonneg h1
    have ho := or_bit ⟨n, by omega⟩ ⟨(y.rm f n).toNat, by omega⟩ (by
      have : ((y.rm f n).toNat : Int) < 2 ^ n := by rw [e]; exact h2
      exact_mod_cast this)
    simp only [e] at ho
    have hrm : y.rm f (n + 1) = if y.rgt f n = true then std.bin .or .i64 (y.rm f n) (std.bin .shl .i64 1 (std.conv .u64 (Int.ofNat n))) else y.rm f n := rfl
    rw [hrm]
    cases hr : y.rgt f n with
    | true =>
      rw [if_pos rfl]
      refine ⟨ho.1, fun j hj => ?_⟩
      have h4 : bitB (std.bin .or .i64 (y.rm f n) (std.bin .shl .i64 1 (std.conv .u64 (Int.ofNat n)))) j = (bitB (y.rm f n) j || decide (j = n)) := ho.2 ⟨j, hj⟩
      rw [h4, h3 j hj]
      by_cases ej : j = n
      · subst ej
        rw [decide_eq_true rfl, decide_eq_true (Nat.lt_succ_self j), hr]
        simp
      · rw [decide_eq_false ej, Bool.or_false]
        rw [decide_eq_decide.2 (show j < n ↔ j < n + 1 by omega)]
    | false =>
      rw [if_neg (by decide)]
      refine ⟨⟨h1, by omega⟩, fun j hj => ?_⟩
      rw [h3 j hj]
      by_cases ej : j = n
      · subst ej
        rw [hr, Bool.and_false, Bool.and_false]
      · rw [decide_eq_decide.2 (show j < n ↔ j < n + 1 by omega)]
theorem and_fin : ∀ (a c : Fin 64), (std.bin .and .i64 (a.1 : Int) (c.1 : Int) = (c.1 : Int)) ↔ ∀ j : Fin 6, bitB (c.1 : Int) j.1 = true → bitB (a.1 : Int) j.1 = true := by decide +kernel
theorem and_iff {a c : Int} (ha : 0 ≤ a ∧ a < 64) (hc : 0 ≤ c ∧ c < 64) : std.bin .and .i64 a c = c ↔ ∀ j, j < 6 → bitB c j = true → bitB a j = true := by
  have h := and_fin ⟨a.toNat, by omega⟩ ⟨c.toNat, by omega⟩
  have ea : (a.toNat : Int) = a := Int.toNat_of_nonneg ha.1
  have ec : (c.toNat : Int) = c := Int.toNat_of_nonneg hc.1
  simp only [ea, ec] at h
  rw [h]
  exact ⟨fun h j hj => h ⟨j, hj⟩, fun h j => h j.1 j.2⟩
theorem pow_le5 {n : Nat} (hn : n ≤ 5) : (2 : Int) ^ n ≤ 32 := by
  have : n = 0 ∨ n = 1 ∨ n = 2 ∨ n = 3 ∨ n = 4 ∨ n = 5 := by omega
  rcases this with rfl | rfl | rfl | rfl | rfl | rfl <;> decide
theorem mem_clR {y : YardD} (hc : y.check = 0) {c : Int} (hc6 : 0 ≤ c ∧ c < 64) {f : Nat → Int} : f ∈ y.clR c ↔ f ∈ y.schR ∧ ∀ p, p < 6 → bitB c p = true → p < y.nc ∧ y.rgt f p = true := by
  have h5 := (y.fit_of_check hc).2.2.2.2.2.1
  have hr := fun g => rm_bits y g y.nc h5
  have h32 := pow_le5 h5
  have hP : ∀ g, std.bin .and .i64 (y.rm g y.nc) c = c ↔ ∀ p, p < 6 → bitB c p = true → p < y.nc ∧ y.rgt g p = true := fun g => by
    rw [and_iff ⟨(hr g).1.1, by have := (hr g).1.2; omega⟩ hc6]
    constructor
    · intro h p hp hb
      have := h p hp hb
      rw [(hr g).2 p hp, Bool.and_eq_true, decide_eq_true_eq] at this
      exact this
    · intro h p hp hb
      rw [(hr g).2 p hp, Bool.and_eq_true, decide_eq_true_eq]
      exact h p hp hb
  have hg : ∀ j, (hj : j < y.schR.length) → y.schR.getD j f0 = y.schR[j] := fun j hj => by rw [List.getD_eq_getElem?_getD, List.getElem?_eq_getElem hj]; rfl
  unfold YardD.clR
  rw [mem_pickS]
  constructor
  · rintro ⟨i, h1, h2, h3⟩
    rw [h3, decide_eq_true_eq] at h2
    refine ⟨by rw [← h3, hg i h1]; exact List.getElem_mem h1, (hP f).1 h2⟩
  · rintro ⟨h1, h2⟩
    obtain ⟨i, hi, e⟩ := List.getElem_of_mem h1
    refine ⟨i, hi, ?_, (hg i hi).trans e⟩
    rw [(hg i hi).trans e]
    exact decide_eq_true ((hP f).2 h2)
theorem all5_bits : ∀ (n p : Fin 6), bitB (allI n.1) p.1 = decide (p.1 < n.1) := by decide +kernel
theorem all5_rng : ∀ n : Fin 6, 0 ≤ allI n.1 ∧ allI n.1 < 64 := by decide +kernel
theorem mem_clF {y : YardD} (hc : y.check = 0) {f : Nat → Int} : f ∈ y.clR (allI y.nc) ↔ f ∈ y.schR ∧ ∀ p, p < y.nc → y.rgt f p = true := by
  have h5 := (y.fit_of_check hc).2.2.2.2.2.1
  rw [mem_clR hc (all5_rng ⟨y.nc, by omega⟩)]
  have hb : ∀ p, p < 6 → bitB (allI y.nc) p = decide (p < y.nc) := fun p hp => all5_bits ⟨y.nc, by omega⟩ ⟨p, hp⟩
  constructor
  · rintro ⟨h1, h2⟩
    exact ⟨h1, fun p hp => (h2 p (by omega) (by rw [hb p (by omega)]; exact decide_eq_true hp)).2⟩
  · rintro ⟨h1, h2⟩
    refine ⟨h1, fun p hp hq => ?_⟩
    rw [hb p hp, decide_eq_true_eq] at hq
    exact ⟨hq, h2 p hq⟩
theorem cl_kept {y : YardD} (hc : y.check = 0) {f : Nat → Int} (hf : f ∈ y.clR (allI y.nc)) : lessF y.nb f ∈ y.kept := by
  obtain ⟨_, _, _, _, _, h5, hcl⟩ := y.fit_of_check hc
  obtain ⟨h1, h2⟩ := (mem_clF hc).1 hf
  refine mem_kept.2 ⟨(sch_all hc h1).1, fun p hp => ?_⟩
  rw [rgt_congr (fun i hi => (hcl i hi).1) (fun i hi => lessF_lt hi) hp]
  exact h2 p hp
theorem kept_cl {y : YardD} (hc : y.check = 0) {g : Nat → Int} (hg : g ∈ y.kept) : ∃ f ∈ y.clR (allI y.nc), ∀ i, i < y.nb → f i = g i := by
  obtain ⟨_, _, _, _, _, h5, hcl⟩ := y.fit_of_check hc
  obtain ⟨h1, h2⟩ := mem_kept.1 hg
  obtain ⟨f, hf, he⟩ := all_sch hc h1
  refine ⟨f, (mem_clF hc).2 ⟨hf, fun p hp => ?_⟩, he⟩
  rw [rgt_congr (fun i hi => (hcl i hi).1) he hp]
  exact h2 p hp
theorem sch_nil_iff {y : YardD} (hc : y.check = 0) : y.schR = [] ↔ y.allS = [] := by
  constructor
  · intro h
    refine Classical.not_not.1 fun hq => ?_
    obtain ⟨f, hf⟩ := List.exists_mem_of_ne_nil _ hq
    obtain ⟨g, hg, _⟩ := all_sch hc hf
    rw [h] at hg; cases hg
  · intro h
    refine Classical.not_not.1 fun hq => ?_
    obtain ⟨f, hf⟩ := List.exists_mem_of_ne_nil _ hq
    have := (sch_all hc hf).1
    rw [h] at this; cases this
theorem cl_nil_iff {y : YardD} (hc : y.check = 0) : y.clR (allI y.nc) = [] ↔ y.kept = [] := by
  constructor
  · intro h
    refine Classical.not_not.1 fun hq => ?_
    obtain ⟨f, hf⟩ := List.exists_mem_of_ne_nil _ hq
    obtain ⟨g, hg, _⟩ := kept_cl hc hf
    rw [h] at hg; cases hg
  · intro h
    refine Classical.not_not.1 fun hq => ?_
    obtain ⟨f, hf⟩ := List.exists_mem_of_ne_nil _ hq
    have := cl_kept hc hf
    rw [h] at this; cases this
theorem pl_any {y : YardD} (hc : y.check = 0) : y.plE = y.anyE true := by
  have hW : y.faultN = 0 := (check_eq y).symm.trans hc
  unfold YardD.plE
  rw [if_pos hW]
  by_cases hs : y.allS = []
  · rw [if_pos (List.length_eq_zero_iff.2 ((sch_nil_iff hc).2 hs)), (any_sees hc).1 hs]
  · rw [if_neg fun h => hs ((sch_nil_iff hc).1 (List.length_eq_zero_iff.1 h)), (any_sees hc).2 hs]
theorem su_own {y : YardD} (hc : y.check = 0) : y.suE = y.ownE true := by
  have h1 : y.suE = if y.plE = 0 then (if (y.clR (allI y.nc)).length = 0 then 9 else 0) else y.plE := rfl
  have h2 : y.ownE true = if y.anyE true ≠ 0 then y.anyE true else if y.kept = [] then 9 else 0 := rfl
  rw [h1, h2, pl_any hc]
  by_cases ha : y.anyE true = 0
  · rw [if_pos ha, if_neg (show ¬ y.anyE true ≠ 0 from fun h => h ha)]
    by_cases hk : y.kept = []
    · rw [if_pos (List.length_eq_zero_iff.2 ((cl_nil_iff hc).2 hk)), if_pos hk]
    · rw [if_neg fun h => hk ((cl_nil_iff hc).1 (List.length_eq_zero_iff.1 h)), if_neg hk]
  · rw [if_neg ha, if_pos ha]
theorem su_fault {y : YardD} (hW : ¬ y.faultN = 0) : y.suE = y.faultN ∧ y.plE = y.faultN := by
  have hp : y.plE = y.faultN := if_neg hW
  refine ⟨?_, hp⟩
  unfold YardD.suE
  rw [hp, if_neg hW]
theorem own_fault {y : YardD} (hW : ¬ y.faultN = 0) (B : Bool) : y.anyE B = y.faultN ∧ y.ownE B = y.faultN := by
  have hcn : y.check ≠ 0 := fun h => hW ((check_eq y).symm.trans h)
  have ha : y.anyE B = y.faultN := by
    unfold YardD.anyE
    rw [if_pos hcn, check_eq]
  refine ⟨ha, ?_⟩
  unfold YardD.ownE
  rw [ha, if_pos hW]
end Go.Fz
set_option linter.unusedVariables false
namespace Go.Fz
open Go.Proofs
set_option maxRecDepth 100000
def cnB (b : Nat → Bool) : Nat → Nat
  | 0 => 0
  | i + 1 => if b i then cnB b i + 1 else cnB b i
theorem cnB_le (b : Nat → Bool) : ∀ n, cnB b n ≤ n
  | 0 => Nat.le_refl _
  | n + 1 => by
    have := cnB_le b n
    unfold cnB
    split <;> omega
def vdR (b : Nat → Bool) (n : Nat) : Int := if cnB b n = n then 1 else if cnB b n = 0 then 2 else 3
set_option maxHeartbeats 16000000 in
theorem refEmpty_ok (y : YardD) (nb : Nat) (S : List (Nat → Int)) (K w : Int) (k0 : 0 ≤ K) (k1 : K < (nb : Int)) (k2 : K < (y.nb : Int)) (hS : S.length < 1000000) : Pure Try.prog 32 [yardV y, llV nb S, iV K, iV w] (iV (vdR (fun i => y.eR (S.getD i f0) K.toNat w) S.length)) := by
  obtain ⟨O, hO⟩ : ∃ O : Ar, O = std := ⟨_, rfl⟩
  have hnat : ∀ i : Nat, O.nat (Int.ofNat i) = i := fun i => by subst hO; rfl
  have e49 := fun i : Nat => isEmpty_ok y nb false (S.getD i f0) K w k0 k1 k2
  obtain ⟨b, hb⟩ : ∃ b : Nat → Bool, b = fun i => y.eR (S.getD i f0) K.toNat w := ⟨_, rfl⟩
  rw [← hb]
  obtain ⟨A, hA⟩ : ∃ A : Nat → Nat → Int, A = fun i => S.getD i f0 := ⟨_, rfl⟩
  have e49 : ∀ i : Nat, Pure Try.prog 49 [yardV y, intsV nb false (A (O.nat (Int.ofNat i))), iV K, iV w] (.sb (b i)) := fun i => by rw [hA, hb, hnat]; exact e49 i
  have hLV : llV nb S = .isl S.length 1 false (fun i _ => intsV nb false (A i)) := by rw [hA]; rfl
  have hLb := llV_below nb S
  rw [hLV] at hLb ⊢
  obtain ⟨N, hN⟩ : ∃ N, S.length = N := ⟨_, rfl⟩
  rw [hN] at hLb hS ⊢
  obtain ⟨c, hc⟩ : ∃ c, c = cnB b := ⟨_, rfl⟩
  have hcs : ∀ i, c (i + 1) = if b i then c i + 1 else c i := fun i => by rw [hc]; rfl
  have hc0 : c 0 = 0 := by rw [hc]; rfl
  have hcl : ∀ i, c i ≤ i := fun i => by rw [hc]; exact cnB_le b i
  have hv : vdR b N = if c N = N then 1 else if c N = 0 then 2 else 3 := by rw [hc]; rfl
  rw [hv]
  clear hA hb hLV hN hc hv
  refine pure_of_body tok 3 Try.func32 en32 rfl ⟨yardV_below y, hLb, Below.lit, Below.lit, trivial⟩ Below.lit ?_
  refine SW.seqRun tok hO (by cbv <;> rfl) (by trivial) ?_
  refine SW.seqRun tok hO (by cbv <;> rfl) (by trivial) ?_
  refine SW.seq ?_
  refine SW.seqRun tok hO (by cbv <;> rfl) (by trivial) ?_
  refine (SW.block (SW.loopF (fun i : Nat => ⟨⟨33, getT [(1, .isl N 1 false (fun i _ => intsV nb false (A i))), (2, iV K), (3, iV w), (4, .ptr 0 0), (9, iV (Int.ofNat (c i))), (10, iV (Int.ofNat i))]⟩, []⟩)
    (fun _ => ⟨[(0, .cells none false (yardC y))], 1⟩) (fun i => N - i) (fun i => i ≤ N) 0
    (fun _ => rfl) (Nat.zero_le _) (Weak.by rfl rfl (by simp) (Nat.le_refl _) (Nat.le_refl _) ⟨⟨rfl, .inl rfl⟩, ⟨rfl, .inl rfl⟩, ⟨rfl, .inl rfl⟩, ⟨rfl, .inl rfl⟩, ⟨by rw [hc0]; rfl, .inl rfl⟩, ⟨rfl, .inl rfl⟩, trivial⟩ ⟨⟨rfl, by omega, .inl rfl⟩, trivial⟩) fun i hi => ?_))
  refine SW.seq ?_
  refine SW.seqRun tok hO (by cbv <;> rfl) (by trivial) ?_
  refine SW.condS (by cbv <;> rfl) (fun h => SW.skip ?_) (fun h => SW.exit ?_)
  · have hlt : i < N := by subst hO; simpa [std] using h
    have hin : (0 : Int) ≤ Int.ofNat i ∧ Int.ofNat i < Int.ofNat N := ⟨Int.natCast_nonneg i, Int.ofNat_lt.2 hlt⟩
    have e49 := e49 i
    have hcs := hcs i
    have hcl := hcl i
    have hcb : c i < 4611686018427387904 := Nat.lt_of_le_of_lt hcl (by omega)
    have hbig : i < 4611686018427387904 := by omega
    refine SW.seq (SW.block ?_)
    refine SW.seqRunD tok mixed hO (by kernel_rfl) (by cbv <;> rfl) (by repeat (first | exact trivial | exact hin | refine ⟨?_, ?_⟩)) ?_
    refine AnyE.callP e49 (by cbv <;> rfl) (by cbv <;> rfl) ?_
    refine AnyE.done (by kernel_rfl) ?_
    refine SW.condS (by cbv <;> rfl) (fun h2 => ?_) (fun h2 => SW.skip ?_)
    · have hbt : b i = true := h2
      rw [hbt, if_pos rfl] at hcs
      refine SW.run tok hO (by cbv <;> rfl) (by trivial) ?_
      refine SW.run tok hO (by cbv <;> rfl) (by trivial) ?_
      exact ⟨i + 1, by omega, by omega, Weak.by rfl rfl (by simp) (Nat.le_refl _) (Nat.le_refl _) ⟨⟨rfl, .inl rfl⟩, ⟨rfl, .inl rfl⟩, ⟨rfl, .inl rfl⟩, ⟨rfl, .inl rfl⟩, ⟨by rw [hcs]; exact inc_ok hO hcb, .inl rfl⟩, ⟨inc_ok hO hbig, .inl rfl⟩, trivial⟩ ⟨⟨rfl, by omega, .inl rfl⟩, trivial⟩⟩
    · have hbt : b i = false := h2
      rw [hbt, if_neg (by decide)] at hcs
      refine SW.run tok hO (by cbv <;> rfl) (by trivial) ?_
      exact ⟨i + 1, by omega, by omega, Weak.by rfl rfl (by simp) (Nat.le_refl _) (Nat.le_refl _) ⟨⟨rfl, .inl rfl⟩, ⟨rfl, .inl rfl⟩, ⟨rfl, .inl rfl⟩, ⟨rfl, .inl rfl⟩, ⟨by rw [hcs]; rfl, .inl rfl⟩, ⟨inc_ok hO hbig, .inl rfl⟩, trivial⟩ ⟨⟨rfl, by omega, .inl rfl⟩, trivial⟩⟩
  · have hle : ¬ i < N := by subst hO; simpa [std] using h
    obtain rfl : i = N := by omega
    refine SW.seq ?_
    refine SW.seqRun tok hO (by cbv <;> rfl) (by trivial) ?_
    refine SW.condS (by cbv <;> rfl) (fun h2 => ?_) (fun h2 => SW.skip ?_)
    · have h3 : c i = i := by
        have : (c i : Int) = (i : Int) := by subst hO; simpa [std] using h2
        omega
      refine SW.seqRun tok hO (by cbv <;> rfl) (by trivial) ?_
      refine SW.ret ⟨_, _, rfl, rfl, ?_⟩
      rw [if_pos h3]; exact Eqv.refl _
    have h3 : ¬ c i = i := by
      have : ¬ (c i : Int) = (i : Int) := by subst hO; simpa [std] using h2
      omega
    refine SW.seq ?_
    refine SW.seqRun tok hO (by cbv <;> rfl) (by trivial) ?_
    refine SW.condS (by cbv <;> rfl) (fun h4 => ?_) (fun h4 => SW.skip ?_)
    · have h5 : c i = 0 := by subst hO; simpa [std] using h4
      refine SW.seqRun tok hO (by cbv <;> rfl) (by trivial) ?_
      refine SW.ret ⟨_, _, rfl, rfl, ?_⟩
      rw [if_neg h3, if_pos h5]; exact Eqv.refl _
    have h5 : ¬ c i = 0 := by subst hO; simpa [std] using h4
    refine SW.seqRun tok hO (by cbv <;> rfl) (by trivial) ?_
    refine SW.ret ⟨_, _, rfl, rfl, ?_⟩
    rw [if_neg h3, if_neg h5]; exact Eqv.refl _
end Go.Fz
