/- Own work of the verifier of watercress: FzSh1, FzRs5, FzSh2. -/
import Derived.Below
import Derived.CallsIn
import Derived.Carry
import Derived.ChangeKeysEq
import Derived.ChangeSame
import Derived.Deep.Slices
import Derived.DeepKeys4
import Derived.JoinedCond
import Derived.Laws.AppendOwn
import Derived.Laws.Cells
import Derived.Laws.CopyRow
import Derived.Laws.Cover3
import Derived.Laws.Entries
import Derived.Laws.NewFold
import Derived.Laws.Sem
import Derived.Laws.Small
import Derived.Laws.StructEq
import Derived.Laws.Tables
import Derived.Laws.World
import Derived.Lib.SmallJoins
import Derived.Maps.Keyed
import Derived.Maps.RangeRun
import Derived.OpenShut
import Derived.OrdersHeld
import Derived.OrdersIn
import Derived.ProofKit
import Derived.RangeFuncLeaves
import Derived.RangeFuncRecord
import Derived.Shelf.Abstract
import Derived.WalkKit
import Derived.WideKeyArgs
import Derived.Test.YtcjekdfncnmbfaaNj0
import Derived.Test.YtcjekdfncnmbfaaNa10
import Derived.Test.YtcjekdfncnmbfaaNa11
import Derived.Test.YtcjekdfncnmbfaaNa13
import Derived.Test.YtcjekdfncnmbfaaNa16
import Derived.Test.YtcjekdfncnmbfaaNa14
import Derived.Test.YtcjekdfncnmbfaaNa18
import Derived.Test.YtcjekdfncnmbfaaNa15
import Derived.Test.YtcjekdfncnmbfaaNa19
import Derived.Test.YtcjekdfncnmbfaaNa20
import Derived.Test.YtcjekdfncnmbfaaNa22
import Derived.Test.YtcjekdfncnmbfaaNa12
import Derived.Test.YtcjekdfncnmbfaaNa17
import Derived.Test.YtcjekdfncnmbfaaNj1
import Derived.Test.YtcjekdfncnmbfaaNa0
import Derived.Test.YtcjekdfncnmbfaaNa1
import Derived.Test.YtcjekdfncnmbfaaNa2
import Derived.Test.YtcjekdfncnmbfaaNa3
import Derived.Test.YtcjekdfncnmbfaaNa4
import Derived.Test.YtcjekdfncnmbfaaNa5
import Derived.Test.YtcjekdfncnmbfaaNa6
import Derived.Test.YtcjekdfncnmbfaaNa7
import Derived.Test.YtcjekdfncnmbfaaNa8
import Derived.Test.YtcjekdfncnmbfaaNa9
import Derived.Test.YtcjekdfncnmbfaaProg
import Derived.Test.YtcjekdfncnmbfaaRows
set_option linter.unusedVariables false
set_option linter.unusedSimpArgs false
set_option linter.unusedVariables false
set_option linter.unusedSimpArgs false
namespace Go.Fz
open Go.Proofs
set_option maxRecDepth 100000
set_option maxHeartbeats 8000000 in
theorem sh_notA (haw : Pure Try.prog 18 [] (.lit (.bool true))) (y : YardD) (n : Nat) (ex : Bool) (f : Nat → Int) (e17 : Pure Try.prog 17 [yardV y] (.sb false)) : Pure Try.prog 3 [yardV y, intsV n ex f] (.lit (.bool true)) := by
  obtain ⟨O, hO⟩ : ∃ O : Ar, O = std := ⟨_, rfl⟩
  refine pure_of_body tok 3 Try.func3 en3 rfl ⟨yardV_below y, intsV_below _ _ _, trivial⟩ Below.lit ?_
  refine SW.seqRun tok hO (by cbv <;> rfl) (by trivial) ?_
  refine SW.seq ?_
  refine SW.seqRun tok hO (by cbv <;> rfl) (by trivial) ?_
  refine OpsW.callP e17 (by cbv <;> rfl) ?_
  refine OpsW.run tok hO (by cbv <;> rfl) (by trivial) ?_
  refine OpsW.splitG (by cbv <;> rfl) (fun hw1 => ?_) (fun hw1 => by first | (cases hw1; done) | (subst hO; simp [std] at hw1; done) | (subst hO; simp [std] at hw1; omega))
  refine OpsW.run tok hO (by cbv <;> rfl) (by trivial) ?_
  refine SW.cond (t := true) (by cbv <;> rfl) ?_
  refine SW.seqRun tok hO (by cbv <;> rfl) (by trivial) ?_
  refine OpsW.callP haw (by cbv <;> rfl) ?_
  refine OpsW.run tok hO (by cbv <;> rfl) (by trivial) ?_
  exact SW.ret ⟨_, _, rfl, rfl, Eqv.of rfl⟩
set_option maxHeartbeats 8000000 in
theorem sh_notB (haw : Pure Try.prog 18 [] (.lit (.bool true))) (y : YardD) (n : Nat) (ex : Bool) (f : Nat → Int) (hn : 9 < n) (e17 : Pure Try.prog 17 [yardV y] (.sb true)) : Pure Try.prog 3 [yardV y, intsV n ex f] (.lit (.bool true)) := by
  obtain ⟨O, hO⟩ : ∃ O : Ar, O = std := ⟨_, rfl⟩
  refine pure_of_body tok 3 Try.func3 en3 rfl ⟨yardV_below y, intsV_below _ _ _, trivial⟩ Below.lit ?_
  refine SW.seqRun tok hO (by cbv <;> rfl) (by trivial) ?_
  refine SW.seq ?_
  refine SW.seqRun tok hO (by cbv <;> rfl) (by trivial) ?_
  refine OpsW.callP e17 (by cbv <;> rfl) ?_
  refine OpsW.run tok hO (by cbv <;> rfl) (by trivial) ?_
  refine OpsW.splitG (by cbv <;> rfl) (fun hw1 => by first | (cases hw1; done) | (subst hO; simp [std, hn] at hw1; done) | (subst hO; simp [std, hn] at hw1; omega)) (fun hw1 => ?_)
  refine OpsW.run tok hO (by cbv <;> rfl) (by trivial) ?_
  refine SW.condS (by cbv <;> rfl) (fun hw2 => ?_) (fun hw2 => by first | (cases hw2; done) | (subst hO; simp [std, hn] at hw2; done) | (subst hO; simp [std, hn] at hw2; omega))
  refine SW.seqRun tok hO (by cbv <;> rfl) (by trivial) ?_
  refine OpsW.callP haw (by cbv <;> rfl) ?_
  refine OpsW.run tok hO (by cbv <;> rfl) (by trivial) ?_
  exact SW.ret ⟨_, _, rfl, rfl, Eqv.of rfl⟩
set_option maxHeartbeats 8000000 in
theorem sh_bad (haw : Pure Try.prog 18 [] (.lit (.bool true))) (y : YardD) (n : Nat) (ex : Bool) (f : Nat → Int) (hn9 : n ≤ 9) (W : Int) (hW : ¬ W = 0) (e17 : Pure Try.prog 17 [yardV y] (.sb true)) (e20 : Pure Try.prog 20 [yardV y] (yardV y)) (e19 : Pure Try.prog 19 [yardV y] (.tup [nl3, iV W])) (e22 : Pure Try.prog 22 [intsV n ex f] (intsV n false f)) (e21 : Pure Try.prog 21 [yardV y, intsV n false f] (.sb false)) (e23 : Pure Try.prog 23 [yardV y] (iV W)) (e24 : Pure Try.prog 24 [yardV y] (iV W)) (e26 : Pure Try.prog 26 [yardV y] (.tup [nl3, iV W])) : Pure Try.prog 3 [yardV y, intsV n ex f] (.lit (.bool true)) := by
  obtain ⟨O, hO⟩ : ∃ O : Ar, O = std := ⟨_, rfl⟩
  have hn : ¬ 9 < n := by omega
  refine pure_of_body tok 3 Try.func3 en3 rfl ⟨yardV_below y, intsV_below _ _ _, trivial⟩ Below.lit ?_
  refine SW.seqRun tok hO (by cbv <;> rfl) (by trivial) ?_
  refine SW.seq ?_
  refine SW.seqRun tok hO (by cbv <;> rfl) (by trivial) ?_
  refine OpsW.callP e17 (by cbv <;> rfl) ?_
  refine OpsW.run tok hO (by cbv <;> rfl) (by trivial) ?_
  refine OpsW.splitG (by cbv <;> rfl) (fun hw1 => by first | (cases hw1; done) | (subst hO; simp [std, hn, hW] at hw1; done) | (subst hO; simp [std, hn, hW] at hw1; omega)) (fun hw1 => ?_)
  refine OpsW.run tok hO (by cbv <;> rfl) (by trivial) ?_
  refine SW.condS (by cbv <;> rfl) (fun hw2 => by first | (cases hw2; done) | (subst hO; simp [std, hn, hW] at hw2; done) | (subst hO; simp [std, hn, hW] at hw2; omega)) (fun hw2 => SW.skip ?_)
  refine SW.seqRun tok hO (by cbv <;> rfl) (by trivial) ?_
  refine OpsW.callP e20 (by cbv <;> rfl) ?_
  refine OpsW.run tok hO (by cbv <;> rfl) (by trivial) ?_
  refine OpsW.callP e19 (by cbv <;> rfl) ?_
  refine OpsW.run tok hO (by cbv <;> rfl) (by trivial) ?_
  refine SW.seqRun tok hO (by cbv <;> rfl) (by trivial) ?_
  refine OpsW.callP e20 (by cbv <;> rfl) ?_
  refine OpsW.run tok hO (by cbv <;> rfl) (by trivial) ?_
  refine OpsW.callP e22 (by cbv <;> rfl) ?_
  refine OpsW.run tok hO (by cbv <;> rfl) (by trivial) ?_
  refine OpsW.callP e21 (by cbv <;> rfl) ?_
  refine OpsW.run tok hO (by cbv <;> rfl) (by trivial) ?_
  refine SW.seq ?_
  refine SW.seqRunD tok mixed hO (by kernel_rfl) (by cbv <;> rfl) (by trivial) ?_
  refine AnyE.callP e20 (by cbv <;> rfl) (by cbv <;> rfl) ?_
  refine AnyE.run tok hO (by kernel_rfl) (by cbv <;> rfl) (by trivial) ?_
  refine AnyE.callP e23 (by cbv <;> rfl) (by cbv <;> rfl) ?_
  refine AnyE.run tok hO (by kernel_rfl) (by cbv <;> rfl) (by trivial) ?_
  refine AnyE.callP e24 (by cbv <;> rfl) (by cbv <;> rfl) ?_
  refine AnyE.run tok hO (by kernel_rfl) (by cbv <;> rfl) (by trivial) ?_
  refine AnyE.dec tok hO (by kernel_rfl) (by cbv <;> rfl) (by trivial) (fun hw3 => by first | (cases hw3; done) | (subst hO; simp [std, hn, hW] at hw3; done) | (subst hO; simp [std, hn, hW] at hw3; omega)) (fun hw3 => ?_)
  refine AnyE.run tok hO (by kernel_rfl) (by cbv <;> rfl) (by trivial) ?_
  refine AnyE.callP e24 (by cbv <;> rfl) (by cbv <;> rfl) ?_
  refine AnyE.run tok hO (by kernel_rfl) (by cbv <;> rfl) (by trivial) ?_
  refine AnyE.dec tok hO (by kernel_rfl) (by cbv <;> rfl) (by trivial) (fun hw4 => by first | (cases hw4; done) | (subst hO; simp [std, hn, hW] at hw4; done) | (subst hO; simp [std, hn, hW] at hw4; omega)) (fun hw4 => ?_)
  refine AnyE.run tok hO (by kernel_rfl) (by cbv <;> rfl) (by trivial) ?_
  refine AnyE.dec tok hO (by kernel_rfl) (by cbv <;> rfl) (by trivial) (fun hw5 => by first | (cases hw5; done) | (subst hO; simp [std, hn, hW] at hw5; done) | (subst hO; simp [std, hn, hW] at hw5; omega)) (fun hw5 => ?_)
  refine AnyE.run tok hO (by kernel_rfl) (by cbv <;> rfl) (by trivial) ?_
  refine SW.cond (t := false) (by cbv <;> rfl) (SW.skip ?_)
  refine SW.seq ?_
  refine SW.seqRun tok hO (by cbv <;> rfl) (by trivial) ?_
  refine OpsW.callP e26 (by cbv <;> rfl) ?_
  refine OpsW.run tok hO (by cbv <;> rfl) (by trivial) ?_
  refine SW.seqRun tok hO (by cbv <;> rfl) (by trivial) ?_
  refine SW.condS (by cbv <;> rfl) (fun hw6 => ?_) (fun hw6 => by first | (cases hw6; done) | (subst hO; simp [std, hn, hW] at hw6; done) | (subst hO; simp [std, hn, hW] at hw6; omega))
  refine SW.seqRun tok hO (by cbv <;> rfl) (by trivial) ?_
  refine OpsW.splitG (by cbv <;> rfl) (fun hw7 => ?_) (fun hw7 => by first | (cases hw7; done) | (subst hO; simp [std, hn, hW] at hw7; done) | (subst hO; simp [std, hn, hW] at hw7; omega))
  refine OpsW.run tok hO (by cbv <;> rfl) (by trivial) ?_
  refine OpsW.splitG (by cbv <;> rfl) (fun hw8 => ?_) (fun hw8 => by first | (cases hw8; done) | (subst hO; simp [std, hn, hW] at hw8; done) | (subst hO; simp [std, hn, hW] at hw8; omega))
  refine OpsW.run tok hO (by cbv <;> rfl) (by trivial) ?_
  refine OpsW.callP haw (by cbv <;> rfl) ?_
  refine OpsW.run tok hO (by cbv <;> rfl) (by trivial) ?_
  exact SW.ret ⟨_, _, rfl, rfl, Eqv.of rfl⟩
set_option maxHeartbeats 8000000 in
theorem sh_none (haw : Pure Try.prog 18 [] (.lit (.bool true))) (y : YardD) (n : Nat) (ex : Bool) (f : Nat → Int) (hn9 : n ≤ 9) (E : Int) (hE : ¬ E = 0) (B : Bool) (e25 : Pure Try.prog 25 [yardV y, intsV n ex f] (.sb B)) (e17 : Pure Try.prog 17 [yardV y] (.sb true)) (e20 : Pure Try.prog 20 [yardV y] (yardV y)) (e19 : Pure Try.prog 19 [yardV y] (.tup [nl3, iV E])) (e22 : Pure Try.prog 22 [intsV n ex f] (intsV n false f)) (e21 : Pure Try.prog 21 [yardV y, intsV n false f] (.sb B)) (e23 : Pure Try.prog 23 [yardV y] (iV 0)) (e24 : Pure Try.prog 24 [yardV y] (iV 0)) (e26 : Pure Try.prog 26 [yardV y] (.tup [nl3, iV E])) : Pure Try.prog 3 [yardV y, intsV n ex f] (.lit (.bool true)) := by
  obtain ⟨O, hO⟩ : ∃ O : Ar, O = std := ⟨_, rfl⟩
  have hn : ¬ 9 < n := by omega
  refine pure_of_body tok 3 Try.func3 en3 rfl ⟨yardV_below y, intsV_below _ _ _, trivial⟩ Below.lit ?_
  refine SW.seqRun tok hO (by cbv <;> rfl) (by trivial) ?_
  refine SW.seq ?_
  refine SW.seqRun tok hO (by cbv <;> rfl) (by trivial) ?_
  refine OpsW.callP e17 (by cbv <;> rfl) ?_
  refine OpsW.run tok hO (by cbv <;> rfl) (by trivial) ?_
  refine OpsW.splitG (by cbv <;> rfl) (fun hw1 => by first | (cases hw1; done) | (subst hO; simp [std, hn, hE] at hw1; done) | (subst hO; simp [std, hn, hE] at hw1; omega)) (fun hw1 => ?_)
  refine OpsW.run tok hO (by cbv <;> rfl) (by trivial) ?_
  refine SW.condS (by cbv <;> rfl) (fun hw2 => by first | (cases hw2; done) | (subst hO; simp [std, hn, hE] at hw2; done) | (subst hO; simp [std, hn, hE] at hw2; omega)) (fun hw2 => SW.skip ?_)
  refine SW.seqRun tok hO (by cbv <;> rfl) (by trivial) ?_
  refine OpsW.callP e20 (by cbv <;> rfl) ?_
  refine OpsW.run tok hO (by cbv <;> rfl) (by trivial) ?_
  refine OpsW.callP e19 (by cbv <;> rfl) ?_
  refine OpsW.run tok hO (by cbv <;> rfl) (by trivial) ?_
  refine SW.seqRun tok hO (by cbv <;> rfl) (by trivial) ?_
  refine OpsW.callP e20 (by cbv <;> rfl) ?_
  refine OpsW.run tok hO (by cbv <;> rfl) (by trivial) ?_
  refine OpsW.callP e22 (by cbv <;> rfl) ?_
  refine OpsW.run tok hO (by cbv <;> rfl) (by trivial) ?_
  refine OpsW.callP e21 (by cbv <;> rfl) ?_
  refine OpsW.run tok hO (by cbv <;> rfl) (by trivial) ?_
  refine SW.seq ?_
  refine SW.seqRunD tok mixed hO (by kernel_rfl) (by cbv <;> rfl) (by trivial) ?_
  refine AnyE.callP e20 (by cbv <;> rfl) (by cbv <;> rfl) ?_
  refine AnyE.run tok hO (by kernel_rfl) (by cbv <;> rfl) (by trivial) ?_
  refine AnyE.callP e23 (by cbv <;> rfl) (by cbv <;> rfl) ?_
  refine AnyE.run tok hO (by kernel_rfl) (by cbv <;> rfl) (by trivial) ?_
  refine AnyE.callP e24 (by cbv <;> rfl) (by cbv <;> rfl) ?_
  refine AnyE.run tok hO (by kernel_rfl) (by cbv <;> rfl) (by trivial) ?_
  refine AnyE.dec tok hO (by kernel_rfl) (by cbv <;> rfl) (by trivial) (fun hw3 => by first | (cases hw3; done) | (subst hO; simp [std, hn, hE] at hw3; done) | (subst hO; simp [std, hn, hE] at hw3; omega)) (fun hw3 => ?_)
  refine AnyE.run tok hO (by kernel_rfl) (by cbv <;> rfl) (by trivial) ?_
  refine AnyE.callP e24 (by cbv <;> rfl) (by cbv <;> rfl) ?_
  refine AnyE.run tok hO (by kernel_rfl) (by cbv <;> rfl) (by trivial) ?_
  refine AnyE.dec tok hO (by kernel_rfl) (by cbv <;> rfl) (by trivial) (fun hw4 => ?_) (fun hw4 => by first | (cases hw4; done) | (subst hO; simp [std, hn, hE] at hw4; done) | (subst hO; simp [std, hn, hE] at hw4; omega))
  refine AnyE.run tok hO (by kernel_rfl) (by cbv <;> rfl) (by trivial) ?_
  refine AnyE.callP e25 (by cbv <;> rfl) (by cbv <;> rfl) ?_
  refine AnyE.run tok hO (by kernel_rfl) (by cbv <;> rfl) (by trivial) ?_
  refine AnyE.dec tok hO (by kernel_rfl) (by cbv <;> rfl) (by trivial) (fun hx => by subst hO; cases B <;> first | (cases hx; done) | (simp [std] at hx; done)) (fun hw5 => ?_)
  refine AnyE.run tok hO (by kernel_rfl) (by cbv <;> rfl) (by trivial) ?_
  refine SW.cond (t := false) (by cbv <;> rfl) (SW.skip ?_)
  refine SW.seq ?_
  refine SW.seqRun tok hO (by cbv <;> rfl) (by trivial) ?_
  refine OpsW.callP e26 (by cbv <;> rfl) ?_
  refine OpsW.run tok hO (by cbv <;> rfl) (by trivial) ?_
  refine SW.seqRun tok hO (by cbv <;> rfl) (by trivial) ?_
  refine SW.condS (by cbv <;> rfl) (fun hw6 => ?_) (fun hw6 => by first | (cases hw6; done) | (subst hO; simp [std, hn, hE] at hw6; done) | (subst hO; simp [std, hn, hE] at hw6; omega))
  refine SW.seqRun tok hO (by cbv <;> rfl) (by trivial) ?_
  refine OpsW.splitG (by cbv <;> rfl) (fun hw7 => ?_) (fun hw7 => by first | (cases hw7; done) | (subst hO; simp [std, hn, hE] at hw7; done) | (subst hO; simp [std, hn, hE] at hw7; omega))
  refine OpsW.run tok hO (by cbv <;> rfl) (by trivial) ?_
  refine OpsW.splitG (by cbv <;> rfl) (fun hw8 => ?_) (fun hw8 => by first | (cases hw8; done) | (subst hO; simp [std, hn, hE] at hw8; done) | (subst hO; simp [std, hn, hE] at hw8; omega))
  refine OpsW.run tok hO (by cbv <;> rfl) (by trivial) ?_
  refine OpsW.callP haw (by cbv <;> rfl) ?_
  refine OpsW.run tok hO (by cbv <;> rfl) (by trivial) ?_
  exact SW.ret ⟨_, _, rfl, rfl, Eqv.of rfl⟩
set_option maxHeartbeats 8000000 in
theorem sh_some (haw : Pure Try.prog 18 [] (.lit (.bool true))) (y : YardD) (n : Nat) (ex : Bool) (f : Nat → Int) (hn9 : n ≤ 9) (B : Bool) (fs : Nat → Int) (UV : AV) (e25 : Pure Try.prog 25 [yardV y, intsV n ex f] (.sb B)) (e25b : Pure Try.prog 25 [yardV y, intsV y.nb false fs] (.sb true)) (e17 : Pure Try.prog 17 [yardV y] (.sb true)) (e20 : Pure Try.prog 20 [yardV y] (yardV y)) (e19 : Pure Try.prog 19 [yardV y] (.tup [intsV y.nb false fs, iV 0])) (e22 : Pure Try.prog 22 [intsV n ex f] (intsV n false f)) (e21 : Pure Try.prog 21 [yardV y, intsV n false f] (.sb B)) (e23 : Pure Try.prog 23 [yardV y] (iV 0)) (e24 : Pure Try.prog 24 [yardV y] (iV 0)) (e26 : Pure Try.prog 26 [yardV y] (.tup [UV, iV 0])) : Pure Try.prog 3 [yardV y, intsV n ex f] (.lit (.bool true)) := by
  obtain ⟨O, hO⟩ : ∃ O : Ar, O = std := ⟨_, rfl⟩
  have hn : ¬ 9 < n := by omega
  refine pure_of_body tok 3 Try.func3 en3 rfl ⟨yardV_below y, intsV_below _ _ _, trivial⟩ Below.lit ?_
  refine SW.seqRun tok hO (by cbv <;> rfl) (by trivial) ?_
  refine SW.seq ?_
  refine SW.seqRun tok hO (by cbv <;> rfl) (by trivial) ?_
  refine OpsW.callP e17 (by cbv <;> rfl) ?_
  refine OpsW.run tok hO (by cbv <;> rfl) (by trivial) ?_
  refine OpsW.splitG (by cbv <;> rfl) (fun hw1 => by first | (cases hw1; done) | (subst hO; simp [std, hn] at hw1; done) | (subst hO; simp [std, hn] at hw1; omega)) (fun hw1 => ?_)
  refine OpsW.run tok hO (by cbv <;> rfl) (by trivial) ?_
  refine SW.condS (by cbv <;> rfl) (fun hw2 => by first | (cases hw2; done) | (subst hO; simp [std, hn] at hw2; done) | (subst hO; simp [std, hn] at hw2; omega)) (fun hw2 => SW.skip ?_)
  refine SW.seqRun tok hO (by cbv <;> rfl) (by trivial) ?_
  refine OpsW.callP e20 (by cbv <;> rfl) ?_
  refine OpsW.run tok hO (by cbv <;> rfl) (by trivial) ?_
  refine OpsW.callP e19 (by cbv <;> rfl) ?_
  refine OpsW.run tok hO (by cbv <;> rfl) (by trivial) ?_
  refine SW.seqRun tok hO (by cbv <;> rfl) (by trivial) ?_
  refine OpsW.callP e20 (by cbv <;> rfl) ?_
  refine OpsW.run tok hO (by cbv <;> rfl) (by trivial) ?_
  refine OpsW.callP e22 (by cbv <;> rfl) ?_
  refine OpsW.run tok hO (by cbv <;> rfl) (by trivial) ?_
  refine OpsW.callP e21 (by cbv <;> rfl) ?_
  refine OpsW.run tok hO (by cbv <;> rfl) (by trivial) ?_
  refine SW.seq ?_
  refine SW.seqRunD tok mixed hO (by kernel_rfl) (by cbv <;> rfl) (by trivial) ?_
  refine AnyE.callP e20 (by cbv <;> rfl) (by cbv <;> rfl) ?_
  refine AnyE.run tok hO (by kernel_rfl) (by cbv <;> rfl) (by trivial) ?_
  refine AnyE.callP e23 (by cbv <;> rfl) (by cbv <;> rfl) ?_
  refine AnyE.run tok hO (by kernel_rfl) (by cbv <;> rfl) (by trivial) ?_
  refine AnyE.callP e24 (by cbv <;> rfl) (by cbv <;> rfl) ?_
  refine AnyE.run tok hO (by kernel_rfl) (by cbv <;> rfl) (by trivial) ?_
  refine AnyE.dec tok hO (by kernel_rfl) (by cbv <;> rfl) (by trivial) (fun hw3 => by first | (cases hw3; done) | (subst hO; simp [std, hn] at hw3; done) | (subst hO; simp [std, hn] at hw3; omega)) (fun hw3 => ?_)
  refine AnyE.run tok hO (by kernel_rfl) (by cbv <;> rfl) (by trivial) ?_
  refine AnyE.callP e24 (by cbv <;> rfl) (by cbv <;> rfl) ?_
  refine AnyE.run tok hO (by kernel_rfl) (by cbv <;> rfl) (by trivial) ?_
  refine AnyE.dec tok hO (by kernel_rfl) (by cbv <;> rfl) (by trivial) (fun hw4 => ?_) (fun hw4 => by first | (cases hw4; done) | (subst hO; simp [std, hn] at hw4; done) | (subst hO; simp [std, hn] at hw4; omega))
  refine AnyE.run tok hO (by kernel_rfl) (by cbv <;> rfl) (by trivial) ?_
  refine AnyE.callP e25 (by cbv <;> rfl) (by cbv <;> rfl) ?_
  refine AnyE.run tok hO (by kernel_rfl) (by cbv <;> rfl) (by trivial) ?_
  refine AnyE.dec tok hO (by kernel_rfl) (by cbv <;> rfl) (by trivial) (fun hx => by subst hO; cases B <;> first | (cases hx; done) | (simp [std] at hx; done)) (fun hw5 => ?_)
  refine AnyE.run tok hO (by kernel_rfl) (by cbv <;> rfl) (by trivial) ?_
  refine SW.cond (t := false) (by cbv <;> rfl) (SW.skip ?_)
  refine SW.seq ?_
  refine SW.seqRun tok hO (by cbv <;> rfl) (by trivial) ?_
  refine OpsW.callP e26 (by cbv <;> rfl) ?_
  refine OpsW.run tok hO (by cbv <;> rfl) (by trivial) ?_
  refine SW.seqRun tok hO (by cbv <;> rfl) (by trivial) ?_
  refine SW.condS (by cbv <;> rfl) (fun hw6 => by first | (cases hw6; done) | (subst hO; simp [std, hn] at hw6; done) | (subst hO; simp [std, hn] at hw6; omega)) (fun hw6 => SW.skip ?_)
  refine SW.seqRun tok hO (by cbv <;> rfl) (by trivial) ?_
  refine OpsW.splitG (by cbv <;> rfl) (fun hw7 => ?_) (fun hw7 => by first | (cases hw7; done) | (subst hO; simp [std, hn] at hw7; done) | (subst hO; simp [std, hn] at hw7; omega))
  refine OpsW.run tok hO (by cbv <;> rfl) (by trivial) ?_
  refine OpsW.callP e25b (by cbv <;> rfl) ?_
  refine OpsW.run tok hO (by cbv <;> rfl) (by trivial) ?_
  refine OpsW.splitG (by cbv <;> rfl) (fun hw8 => ?_) (fun hw8 => by first | (cases hw8; done) | (subst hO; simp [std, hn] at hw8; done) | (subst hO; simp [std, hn] at hw8; omega))
  refine OpsW.run tok hO (by cbv <;> rfl) (by trivial) ?_
  refine OpsW.callP haw (by cbv <;> rfl) ?_
  refine OpsW.run tok hO (by cbv <;> rfl) (by trivial) ?_
  exact SW.ret ⟨_, _, rfl, rfl, Eqv.of rfl⟩
end Go.Fz
set_option linter.unusedVariables false
namespace Go.Fz
open Go.Proofs
set_option maxRecDepth 100000
theorem sel_full {nb : Nat} (hn : nb ≤ 6) : selL (allI nb) nb = List.range nb := by
  obtain ⟨a1, a2, a3, _⟩ := all6_fin ⟨nb, by omega⟩
  rw [selL_nb hn a2 a3]; exact a1
theorem bit_full {nb i : Nat} (hn : nb ≤ 6) (hi : i < nb) : bitB (allI nb) i = true := allI_bit ⟨nb, by omega⟩ ⟨i, by omega⟩ hi
theorem sch_all {y : YardD} (hc : y.check = 0) {f : Nat → Int} (hf : f ∈ y.schR) : lessF y.nb f ∈ y.allS ∧ ∀ i, i < y.nb → y.blo i ≤ f i ∧ f i ≤ y.bhi i := by
  obtain ⟨hfit, _, _, hh, _⟩ := y.fit_of_check hc
  obtain ⟨n, h1, h2, rfl⟩ := mem_pickS.1 hf
  obtain ⟨m1, m2⟩ := many_small hc (allI y.nb)
  have ho := ofL_nF hfit (b := allI y.nb) (n := Int.ofNat n) (Int.natCast_nonneg n) (by
    show (n : Int) ≤ 4000
    omega)
  have hs := (fit_sch hfit (by omega) ho).1 h2
  rw [sel_full hfit.nb] at hs
  refine ⟨mem_allS.2 ⟨fun b hb => if_neg fun hl => hb (List.mem_range.2 hl), sch_congr (fun i hi => (lessF_lt (List.mem_range.1 hi)).symm) hs⟩, fun i hi => ?_⟩
  exact hs.rng i (List.mem_range.2 hi)
theorem all_sch {y : YardD} (hc : y.check = 0) {g : Nat → Int} (hg : g ∈ y.allS) : ∃ f ∈ y.schR, ∀ i, i < y.nb → f i = g i := by
  obtain ⟨hfit, _, _, hh, _⟩ := y.fit_of_check hc
  obtain ⟨_, hs⟩ := mem_allS.1 hg
  obtain ⟨m1, m2⟩ := many_small hc (allI y.nb)
  obtain ⟨n, hn, hv⟩ := nF_onto hc (allI y.nb) (g := g) fun i hi _ => hs.rng i (List.mem_range.2 hi)
  have he : ∀ i, i < y.nb → y.nF (allI y.nb) (Int.ofNat n) i = g i := fun i hi => hv i hi (bit_full hfit.nb hi)
  have ho := ofL_nF hfit (b := allI y.nb) (n := Int.ofNat n) (Int.natCast_nonneg n) (by
    show (n : Int) ≤ 4000
    omega)
  refine ⟨_, mem_pickS.2 ⟨n, by omega, (fit_sch hfit (by omega) ho).2 ?_, rfl⟩, he⟩
  rw [sel_full hfit.nb]
  exact sch_congr (fun i hi => (he i (List.mem_range.1 hi)).symm) hs
theorem rgt_congr {y : YardD} (hcb : ∀ i, i < y.nc → 0 ≤ y.cb i ∧ y.cb i < y.nb) {f g : Nat → Int} (h : ∀ i, i < y.nb → f i = g i) {p : Nat} (hp : p < y.nc) : y.rgt f p = y.rgt g p := by
  have := hcb p hp
  unfold YardD.rgt
  rw [h _ (by omega)]
theorem or_bit : ∀ (n : Fin 5) (a : Fin 32), a.1 < 2 ^ n.1 → (0 ≤ std.bin .or .i64 (a.1 : Int) (std.bin .shl .i64 1 (std.conv .u64 (Int.ofNat n.1))) ∧ std.bin .or .i64 (a.1 : Int) (std.bin .shl .i64 1 (std.conv .u64 (Int.ofNat n.1))) < 2 ^ (n.1 + 1)) ∧ ∀ j : Fin 6, bitB (std.bin .or .i64 (a.1 : Int) (std.bin .shl .i64 1 (std.conv .u64 (Int.ofNat n.1)))) j.1 = (bitB (a.1 : Int) j.1 || decide (j.1 = n.1)) := by decide +kernel
theorem bit_zero0 : ∀ j : Fin 6, bitB (0 : Int) j.1 = false := by decide +kernel
theorem rm_bits (y : YardD) (f : Nat → Int) : ∀ n, n ≤ 5 → (0 ≤ y.rm f n ∧ y.rm f n < 2 ^ n) ∧ ∀ j, j < 6 → bitB (y.rm f n) j = (decide (j < n) && y.rgt f j)
  | 0, _ => by
    refine ⟨⟨Int.le_refl _, by show (0 : Int) < 1; omega⟩, fun j hj => ?_⟩
    have : bitB (0 : Int) j = false := bit_zero0 ⟨j, hj⟩
    show bitB (0 : Int) j = _
    rw [this, decide_eq_false (Nat.not_lt_zero j)]; rfl
  | n + 1, hn => by
    obtain ⟨⟨h1, h2⟩, h3⟩ := rm_bits y f n (by omega)
    have h32 : (2 : Int) ^ n ≤ 32 := by
      have : n = 0 ∨ n = 1 ∨ n = 2 ∨ n = 3 ∨ n = 4 := by omega
      rcases this with rfl | rfl | rfl | rfl | rfl <;> decide
    have h22 : (2 : Int) ^ n ≤ 2 ^ (n + 1) := by rw [Int.pow_succ]; omega
    have e : ((y.rm f n).toNat : Int) = y.rm f n := Int.toNat_of_nonneg h1
    have ho := or_bit ⟨n, by omega⟩ ⟨(y.rm f n).toNat, by omega⟩ (by
      have : ((y.rm f n).toNat : Int) < 2 ^ n := by rw [e]; exact h2
      exact_mod_cast this)
    simp only [e] at ho
    have hrm : y.rm f (n + 1) = if y.rgt f n = true then std.bin .or .i64 (y.rm f n) (std.bin .shl .i64 1 (std.conv .u64 (Int.ofNat n))) else y.rm f n := rfl
    rw [hrm]
    cases hr : y.rgt f n with
    | true =>
      rw [if_pos rfl]
      refine ⟨ho.1, fun j hj => ?_⟩
      have h4 : bitB (std.bin .or .i64 (y.rm f n) (std.bin .shl .i64 1 (std.conv .u64 (Int.ofNat n)))) j = (bitB (y.rm f n) j || decide (j = n)) := ho.2 ⟨j, hj⟩
      rw [h4, h3 j hj]
      by_cases ej : j = n
      · subst ej
        rw [decide_eq_true rfl, decide_eq_true (Nat.lt_succ_self j), hr]
        simp
      · rw [decide_eq_false ej, Bool.or_false]
        rw [decide_eq_decide.2 (show j < n ↔ j < n + 1 by omega)]
    | false =>
      rw [if_neg (by decide)]
      refine ⟨⟨h1, by omega⟩, fun j hj => ?_⟩
      rw [h3 j hj]
      by_cases ej : j = n
      · subst ej
        rw [hr, Bool.and_false, Bool.and_false]
      · rw [decide_eq_decide.2 (show j < n ↔ j < n + 1 by omega)]
theorem and_fin : ∀ (a c : Fin 64), (std.bin .and .i64 (a.1 : Int) (c.1 : Int) = (c.1 : Int)) ↔ ∀ j : Fin 6, bitB (c.1 : Int) j.1 = true → bitB (a.1 : Int) j.1 = true := by decide +kernel
theorem and_iff {a c : Int} (ha : 0 ≤ a ∧ a < 64) (hc : 0 ≤ c ∧ c < 64) : std.bin .and .i64 a c = c ↔ ∀ j, j < 6 → bitB c j = true → bitB a j = true := by
  have h := and_fin ⟨a.toNat, by omega⟩ ⟨c.toNat, by omega⟩
  have ea : (a.toNat : Int) = a := Int.toNat_of_nonneg ha.1
  have ec : (c.toNat : Int) = c := Int.toNat_of_nonneg hc.1
  simp only [ea, ec] at h
  rw [h]
  exact ⟨fun h j hj => h ⟨j, hj⟩, fun h j => h j.1 j.2⟩
theorem and_cfin : ∀ (a c : Fin 64), std.bin .and .i64 (a.1 : Int) (c.1 : Int) = std.bin .and .i64 (c.1 : Int) (a.1 : Int) := by decide +kernel
theorem and_comm64 (a c : Int) (ha : 0 ≤ a ∧ a < 64) (hc : 0 ≤ c ∧ c < 64) : std.bin .and .i64 a c = std.bin .and .i64 c a := by
  have h := and_cfin ⟨a.toNat, by omega⟩ ⟨c.toNat, by omega⟩
  have ea : (a.toNat : Int) = a := Int.toNat_of_nonneg ha.1
  have ec : (c.toNat : Int) = c := Int.toNat_of_nonneg hc.1
  simp only [ea, ec] at h
  exact h
theorem pow_le5 {n : Nat} (hn : n ≤ 5) : (2 : Int) ^ n ≤ 32 := by
  have : n = 0 ∨ n = 1 ∨ n = 2 ∨ n = 3 ∨ n = 4 ∨ n = 5 := by omega
  rcases this with rfl | rfl | rfl | rfl | rfl | rfl <;> decide
theorem mem_clR {y : YardD} (hc : y.check = 0) {c : Int} (hc6 : 0 ≤ c ∧ c < 64) {f : Nat → Int} : f ∈ y.clR c ↔ f ∈ y.schR ∧ ∀ p, p < 6 → bitB c p = true → p < y.nc ∧ y.rgt f p = true := by
  have h5 := (y.fit_of_check hc).2.2.2.2.2.1
  have hr := fun g => rm_bits y g y.nc h5
  have h32 := pow_le5 h5
  have hP : ∀ g, std.bin .and .i64 (y.rm g y.nc) c = c ↔ ∀ p, p < 6 → bitB c p = true → p < y.nc ∧ y.rgt g p = true := fun g => by
    rw [and_iff ⟨(hr g).1.1, by have := (hr g).1.2; omega⟩ hc6]
    constructor
    · intro h p hp hb
      have := h p hp hb
      rw [(hr g).2 p hp, Bool.and_eq_true, decide_eq_true_eq] at this
      exact this
    · intro h p hp hb
      rw [(hr g).2 p hp, Bool.and_eq_true, decide_eq_true_eq]
      exact h p hp hb
  have hg : ∀ j, (hj : j < y.schR.length) → y.schR.getD j f0 = y.schR[j] := fun j hj => by rw [List.getD_eq_getElem?_getD, List.getElem?_eq_getElem hj]; rfl
  unfold YardD.clR
  rw [mem_pickS]
  constructor
  · rintro ⟨i, h1, h2, h3⟩
    rw [h3, decide_eq_true_eq] at h2
    refine ⟨by rw [← h3, hg i h1]; exact List.getElem_mem h1, (hP f).1 h2⟩
  · rintro ⟨h1, h2⟩
    obtain ⟨i, hi, e⟩ := List.getElem_of_mem h1
    refine ⟨i, hi, ?_, (hg i hi).trans e⟩
    rw [(hg i hi).trans e]
    exact decide_eq_true ((hP f).2 h2)
theorem all5_bits : ∀ (n p : Fin 6), bitB (allI n.1) p.1 = decide (p.1 < n.1) := by decide +kernel
theorem all5_rng : ∀ n : Fin 6, 0 ≤ allI n.1 ∧ allI n.1 < 64 := by decide +kernel
theorem mem_clF {y : YardD} (hc : y.check = 0) {f : Nat → Int} : f ∈ y.clR (allI y.nc) ↔ f ∈ y.schR ∧ ∀ p, p < y.nc → y.rgt f p = true := by
  have h5 := (y.fit_of_check hc).2.2.2.2.2.1
  rw [mem_clR hc (all5_rng ⟨y.nc, by omega⟩)]
  have hb : ∀ p, p < 6 → bitB (allI y.nc) p = decide (p < y.nc) := fun p hp => all5_bits ⟨y.nc, by omega⟩ ⟨p, hp⟩
  constructor
  · rintro ⟨h1, h2⟩
    exact ⟨h1, fun p hp => (h2 p (by omega) (by rw [hb p (by omega)]; exact decide_eq_true hp)).2⟩
  · rintro ⟨h1, h2⟩
    refine ⟨h1, fun p hp hq => ?_⟩
    rw [hb p hp, decide_eq_true_eq] at hq
    exact ⟨hq, h2 p hq⟩
theorem cl_kept {y : YardD} (hc : y.check = 0) {f : Nat → Int} (hf : f ∈ y.clR (allI y.nc)) : lessF y.nb f ∈ y.kept := by
  obtain ⟨_, _, _, _, _, h5, hcl⟩ := y.fit_of_check hc
  obtain ⟨h1, h2⟩ := (mem_clF hc).1 hf
  refine mem_kept.2 ⟨(sch_all hc h1).1, fun p hp => ?_⟩
  rw [rgt_congr (fun i hi => (hcl i hi).1) (fun i hi => lessF_lt hi) hp]
  exact h2 p hp
theorem kept_cl {y : YardD} (hc : y.check = 0) {g : Nat → Int} (hg : g ∈ y.kept) : ∃ f ∈ y.clR (allI y.nc), ∀ i, i < y.nb → f i = g i := by
  obtain ⟨_, _, _, _, _, h5, hcl⟩ := y.fit_of_check hc
  obtain ⟨h1, h2⟩ := mem_kept.1 hg
  obtain ⟨f, hf, he⟩ := all_sch hc h1
  refine ⟨f, (mem_clF hc).2 ⟨hf, fun p hp => ?_⟩, he⟩
  rw [rgt_congr (fun i hi => (hcl i hi).1) he hp]
  exact h2 p hp
theorem sch_nil_iff {y : YardD} (hc : y.check = 0) : y.schR = [] ↔ y.allS = [] := by
  constructor
  · intro h
    refine Classical.not_not.1 fun hq => ?_
    obtain ⟨f, hf⟩ := List.exists_mem_of_ne_nil _ hq
    obtain ⟨g, hg, _⟩ := all_sch hc hf
    rw [h] at hg; cases hg
  · intro h
    refine Classical.not_not.1 fun hq => ?_
    obtain ⟨f, hf⟩ := List.exists_mem_of_ne_nil _ hq
    have := (sch_all hc hf).1
    rw [h] at this; cases this
theorem cl_nil_iff {y : YardD} (hc : y.check = 0) : y.clR (allI y.nc) = [] ↔ y.kept = [] := by
  constructor
  · intro h
    refine Classical.not_not.1 fun hq => ?_
    obtain ⟨f, hf⟩ := List.exists_mem_of_ne_nil _ hq
    obtain ⟨g, hg, _⟩ := kept_cl hc hf
    rw [h] at hg; cases hg
  · intro h
    refine Classical.not_not.1 fun hq => ?_
    obtain ⟨f, hf⟩ := List.exists_mem_of_ne_nil _ hq
    have := cl_kept hc hf
    rw [h] at this; cases this
theorem pl_any {y : YardD} (hc : y.check = 0) : y.plE = y.anyE true := by
  have hW : y.faultN = 0 := (check_eq y).symm.trans hc
  unfold YardD.plE
  rw [if_pos hW]
  by_cases hs : y.allS = []
  · rw [if_pos (List.length_eq_zero_iff.2 ((sch_nil_iff hc).2 hs)), (any_sees hc).1 hs]
  · rw [if_neg fun h => hs ((sch_nil_iff hc).1 (List.length_eq_zero_iff.1 h)), (any_sees hc).2 hs]
theorem su_own {y : YardD} (hc : y.check = 0) : y.suE = y.ownE true := by
  have h1 : y.suE = if y.plE = 0 then (if (y.clR (allI y.nc)).length = 0 then 9 else 0) else y.plE := rfl
  have h2 : y.ownE true = if y.anyE true ≠ 0 then y.anyE true else if y.kept = [] then 9 else 0 := rfl
  rw [h1, h2, pl_any hc]
  by_cases ha : y.anyE true = 0
  · rw [if_pos ha, if_neg (show ¬ y.anyE true ≠ 0 from fun h => h ha)]
    by_cases hk : y.kept = []
    · rw [if_pos (List.length_eq_zero_iff.2 ((cl_nil_iff hc).2 hk)), if_pos hk]
    · rw [if_neg fun h => hk ((cl_nil_iff hc).1 (List.length_eq_zero_iff.1 h)), if_neg hk]
  · rw [if_neg ha, if_pos ha]
theorem su_fault {y : YardD} (hW : ¬ y.faultN = 0) : y.suE = y.faultN ∧ y.plE = y.faultN := by
  have hp : y.plE = y.faultN := if_neg hW
  refine ⟨?_, hp⟩
  unfold YardD.suE
  rw [hp, if_neg hW]
theorem own_fault {y : YardD} (hW : ¬ y.faultN = 0) (B : Bool) : y.anyE B = y.faultN ∧ y.ownE B = y.faultN := by
  have hcn : y.check ≠ 0 := fun h => hW ((check_eq y).symm.trans h)
  have ha : y.anyE B = y.faultN := by
    unfold YardD.anyE
    rw [if_pos hcn, check_eq]
  refine ⟨ha, ?_⟩
  unfold YardD.ownE
  rw [ha, if_pos hW]
theorem isS_iff {y : YardD} (hc : y.check = 0) {n : Nat} {f : Nat → Int} : y.isS n f = true ↔ n = y.nb ∧ lessF y.nb f ∈ y.kept := by
  obtain ⟨hfit, _, _, hh, _, h5, hcl⟩ := y.fit_of_check hc
  have hrm : y.rm f y.nc = allI y.nc ↔ ∀ p, p < y.nc → y.rgt f p = true := by
    obtain ⟨⟨r1, r2⟩, r3⟩ := rm_bits y f y.nc h5
    have h32 := pow_le5 h5
    obtain ⟨q1, q2⟩ := all5_rng ⟨y.nc, by omega⟩
    have hb : ∀ p, p < 6 → bitB (allI y.nc) p = decide (p < y.nc) := fun p hp => all5_bits ⟨y.nc, by omega⟩ ⟨p, hp⟩
    constructor
    · intro h p hp
      have := r3 p (by omega)
      rw [h, hb p (by omega), decide_eq_true hp, Bool.true_and] at this
      exact this.symm
    · intro h
      have hl := (all6_fin ⟨y.nc, by omega⟩).2.2.2
      have hand := (and_iff (a := y.rm f y.nc) (c := allI y.nc) ⟨r1, by omega⟩ ⟨q1, q2⟩).2 fun p hp hq => by
        rw [hb p hp] at hq
        rw [r3 p hp, hq, h p (of_decide_eq_true hq)]; rfl
      have hand2 := (and_iff (a := allI y.nc) (c := y.rm f y.nc) ⟨q1, q2⟩ ⟨r1, by omega⟩).2 fun p hp hq => by
        rw [r3 p hp, Bool.and_eq_true] at hq
        rw [hb p hp]; exact hq.1
      have hcm := and_comm64 (y.rm f y.nc) (allI y.nc) ⟨r1, by omega⟩ ⟨q1, q2⟩
      rw [← hand2, ← hcm, hand]
  have hin : allN y.nb (fun i => inB (f i) (y.blo i) (y.bhi i)) = true ↔ ∀ i, i < y.nb → y.blo i ≤ f i ∧ f i ≤ y.bhi i := by
    unfold allN inB
    simp only [decide_eq_true_eq, Bool.and_eq_true]
  unfold YardD.isS
  rw [Bool.and_eq_true, Bool.and_eq_true, Bool.and_eq_true, decide_eq_true_eq, decide_eq_true_eq, hrm, hin]
  have hof : (∀ i, i < y.nb → y.blo i ≤ f i ∧ f i ≤ y.bhi i) → y.ofL (allI y.nb) f := fun h => ⟨fun i hi _ => h i hi, fun i hi hb => by rw [bit_full hfit.nb hi] at hb; cases hb⟩
  constructor
  · rintro ⟨h1, h2, h3, h4⟩
    have hs := (fit_sch hfit (by omega) (hof h2)).1 h3
    rw [sel_full hfit.nb] at hs
    refine ⟨h1, mem_kept.2 ⟨mem_allS.2 ⟨fun b hb => if_neg fun hl => hb (List.mem_range.2 hl), sch_congr (fun i hi => (lessF_lt (List.mem_range.1 hi)).symm) hs⟩, fun p hp => ?_⟩⟩
    rw [rgt_congr (fun i hi => (hcl i hi).1) (fun i hi => lessF_lt hi) hp]
    exact h4 p hp
  · rintro ⟨h1, h2⟩
    obtain ⟨k1, k2⟩ := mem_kept.1 h2
    have hs := (mem_allS.1 k1).2
    have hs2 := sch_congr (fun i hi => lessF_lt (f := f) (List.mem_range.1 hi)) hs
    have hr : ∀ i, i < y.nb → y.blo i ≤ f i ∧ f i ≤ y.bhi i := fun i hi => hs2.rng i (List.mem_range.2 hi)
    refine ⟨h1, hr, (fit_sch hfit (by omega) (hof hr)).2 (by rw [sel_full hfit.nb]; exact hs2), fun p hp => ?_⟩
    have := k2 p hp
    rw [rgt_congr (fun i hi => (hcl i hi).1) (fun i hi => lessF_lt hi) hp] at this
    exact this
theorem less_key {n : Nat} (hn : n ≤ 6) (f : Nat → Int) : keyF n f = lessF n f := by
  funext j
  unfold keyF lessF
  have : Nat.min n 6 = n := Nat.min_eq_left hn
  rw [this]
theorem ps_isS {y : YardD} (hc : y.check = 0) (n : Nat) (f : Nat → Int) : y.psB n f = y.isS n f := by
  obtain ⟨hfit, _⟩ := y.fit_of_check hc
  have hn := hfit.nb
  refine Bool.eq_iff_iff.2 ?_
  rw [isS_iff hc]
  unfold YardD.psB
  by_cases hnb : n = y.nb
  · subst hnb
    rw [decide_eq_true rfl, Bool.and_eq_true, decide_eq_true_eq]
    constructor
    · rintro ⟨h1, h2⟩
      refine ⟨rfl, ?_⟩
      rw [(YardD.own_some h1).1, less_key hn] at h2
      obtain ⟨i, hi, e⟩ := of_decide_eq_true h2
      have hg : y.kept.getD i f0 = y.kept[i] := by rw [List.getD_eq_getElem?_getD, List.getElem?_eq_getElem hi]; rfl
      rw [hg] at e
      have hm := List.getElem_mem hi
      have hz := (mem_allS.1 (mem_kept.1 hm).1).1
      unfold eq6 at e
      simp only [Bool.and_eq_true, decide_eq_true_eq] at e
      have : lessF y.nb f = y.kept[i] := by
        funext j
        by_cases hj : j < 6
        · have : j = 0 ∨ j = 1 ∨ j = 2 ∨ j = 3 ∨ j = 4 ∨ j = 5 := by omega
          rcases this with rfl | rfl | rfl | rfl | rfl | rfl
          · exact e.1
          · exact e.2.1
          · exact e.2.2.1
          · exact e.2.2.2.1
          · exact e.2.2.2.2.1
          · exact e.2.2.2.2.2
        · rw [hz j fun h => by have := List.mem_range.1 h; omega]
          exact if_neg (by omega)
      rw [this]; exact hm
    · rintro ⟨_, h⟩
      have hk : y.kept ≠ [] := fun he => by rw [he] at h; cases h
      have ho := own_sees hc hk
      refine ⟨ho, ?_⟩
      rw [(YardD.own_some ho).1, less_key hn]
      have := key_self hn (f := lessF y.nb f) (fun b hb => if_neg fun hl => hb (List.mem_range.2 hl)) h
      rw [less_key hn] at this
      have e : lessF y.nb (lessF y.nb f) = lessF y.nb f := by
        funext j
        by_cases hj : j < y.nb
        · rw [lessF_lt hj]
        · exact (if_neg hj).trans (if_neg hj).symm
      rw [e] at this
      exact this
  · constructor
    · intro h
      rw [decide_eq_false hnb, Bool.and_eq_true, decide_eq_true_eq] at h
      have h1 : y.ownE false = 2 := by
        have ha : y.anyE false = 2 := by unfold YardD.anyE; rw [if_neg (by simp [hc]), if_pos rfl]
        unfold YardD.ownE
        rw [ha, if_pos (by decide)]
      omega
    · rintro ⟨h, _⟩; exact absurd h hnb
end Go.Fz
set_option linter.unusedVariables false
namespace Go.Fz
open Go.Proofs
set_option maxRecDepth 100000
theorem kept_less {y : YardD} {g : Nat → Int} (hg : g ∈ y.kept) : lessF y.nb g = g := by
  have hz := (mem_allS.1 (mem_kept.1 hg).1).1
  funext j
  by_cases hj : j < y.nb
  · exact lessF_lt hj
  · rw [hz j fun h => hj (List.mem_range.1 h)]
    exact if_neg hj
theorem cleanShows_ok (haw : Pure Try.prog 18 [] (.lit (.bool true))) (y : YardD) (n : Nat) (ex : Bool) (f : Nat → Int) : Pure Try.prog 3 [yardV y, intsV n ex f] (.lit (.bool true)) := by
  have e17 := thin_any y
  cases hT : y.thinB with
  | false =>
    rw [hT] at e17
    exact sh_notA haw y n ex f e17
  | true =>
    rw [hT] at e17
    by_cases hn9 : 9 < n
    · exact sh_notB haw y n ex f hn9 e17
    · obtain ⟨s1, s2⟩ := thin_small hT
      have e20 := yard_ok y (by omega) (by omega)
      have e19 := show_ok y (by omega) (by omega)
      have e22 := list22_ok n ex f (by omega)
      have e21 := proveSch_ok y (by omega) (by omega) n false f (by omega)
      have e23 := checkYard_ok y (by omega) (by omega)
      have e24 := fault24_ok y (by omega) (by omega)
      have e26 := sure_ok y (by omega) (by omega)
      rw [check_eq] at e23
      by_cases hW : y.faultN = 0
      · have hc : y.check = 0 := (check_eq y).trans hW
        have e25 := isSch_ok hc n ex f (by omega)
        rw [ps_isS hc] at e21
        rw [hW] at e23 e24
        by_cases hE : y.ownE true = 0
        · have hsv : y.showV = intsV y.nb false (y.firstS true) := if_pos hE
          rw [hsv, hE] at e19
          rw [su_own hc, hE] at e26
          have hfm := first_mem hE
          have e25b := isSch_ok hc y.nb false (y.firstS true) (by omega)
          rw [(isS_iff hc).2 ⟨rfl, by rw [kept_less hfm]; exact hfm⟩] at e25b
          exact sh_some haw y n ex f (by omega) _ _ _ e25 e25b e17 e20 e19 e22 e21 e23 e24 e26
        · have hsv : y.showV = nl3 := if_neg hE
          rw [hsv] at e19
          have hsu : y.suV = nl3 := if_neg (by rw [su_own hc]; exact hE)
          rw [hsu, su_own hc] at e26
          exact sh_none haw y n ex f (by omega) _ hE _ e25 e17 e20 e19 e22 e21 e23 e24 e26
      · obtain ⟨h1, h2⟩ := own_fault hW true
        have hsv : y.showV = nl3 := if_neg (by rw [h2]; exact hW)
        rw [hsv, h2] at e19
        have hps : y.psB n f = false := by
          have h3 := (own_fault hW (decide (n = y.nb))).2
          unfold YardD.psB
          rw [h3, decide_eq_false hW]; rfl
        rw [hps] at e21
        have hsu : y.suV = nl3 := if_neg (by rw [(su_fault hW).1]; exact hW)
        rw [hsu, (su_fault hW).1] at e26
        exact sh_bad haw y n ex f (by omega) _ hW e17 e20 e19 e22 e21 e23 e24 e26
end Go.Fz
