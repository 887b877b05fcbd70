/- Own work of the verifier of watercress: FzTr1, FzWk1, FzRs4, FzRs5, FzRw1, FzRw2, FzTd2, FzTd3, FzTd4, FzTd5, FzTd6, FzTd7, FzSh1, FzSh2, FzWk2, FzRl1, FzRl2, FzPr1, FzPr2. -/
import Derived.Below
import Derived.CallsIn
import Derived.Carry
import Derived.ChangeKeysEq
import Derived.ChangeSame
import Derived.Deep.Slices
import Derived.DeepKeys4
import Derived.JoinedCond
import Derived.Laws.AppendOwn
import Derived.Laws.Cells
import Derived.Laws.CopyRow
import Derived.Laws.Cover3
import Derived.Laws.Entries
import Derived.Laws.NewFold
import Derived.Laws.Sem
import Derived.Laws.Small
import Derived.Laws.StructEq
import Derived.Laws.Tables
import Derived.Laws.World
import Derived.Lib.SmallJoins
import Derived.Maps.Keyed
import Derived.Maps.RangeRun
import Derived.OpenShut
import Derived.OrdersHeld
import Derived.OrdersIn
import Derived.ProofKit
import Derived.RangeFuncLeaves
import Derived.RangeFuncRecord
import Derived.Shelf.Abstract
import Derived.WalkKit
import Derived.WideKeyArgs
import Derived.Test.YtcjekdfncnmbfaaNm0
import Derived.Test.YtcjekdfncnmbfaaNa10
import Derived.Test.YtcjekdfncnmbfaaNa11
import Derived.Test.YtcjekdfncnmbfaaNa13
import Derived.Test.YtcjekdfncnmbfaaNa16
import Derived.Test.YtcjekdfncnmbfaaNa14
import Derived.Test.YtcjekdfncnmbfaaNa18
import Derived.Test.YtcjekdfncnmbfaaNa15
import Derived.Test.YtcjekdfncnmbfaaNa19
import Derived.Test.YtcjekdfncnmbfaaNa20
import Derived.Test.YtcjekdfncnmbfaaNa21
import Derived.Test.YtcjekdfncnmbfaaNa22
import Derived.Test.YtcjekdfncnmbfaaNa12
import Derived.Test.YtcjekdfncnmbfaaNa17
import Derived.Test.YtcjekdfncnmbfaaNm1
import Derived.Test.YtcjekdfncnmbfaaNa0
import Derived.Test.YtcjekdfncnmbfaaNa1
import Derived.Test.YtcjekdfncnmbfaaNa2
import Derived.Test.YtcjekdfncnmbfaaNa3
import Derived.Test.YtcjekdfncnmbfaaNa4
import Derived.Test.YtcjekdfncnmbfaaNa5
import Derived.Test.YtcjekdfncnmbfaaNa6
import Derived.Test.YtcjekdfncnmbfaaNa7
import Derived.Test.YtcjekdfncnmbfaaNa8
import Derived.Test.YtcjekdfncnmbfaaNa9
import Derived.Test.YtcjekdfncnmbfaaProg
import Derived.Test.YtcjekdfncnmbfaaRows
set_option linter.unusedVariables false
set_option linter.unusedSimpArgs false
set_option linter.unusedVariables false
set_option linter.unusedSimpArgs false
namespace Go.Fz
open Go.Proofs
set_option maxRecDepth 100000
set_option maxHeartbeats 8000000 in
theorem tr_not (haw : Pure Try.prog 18 [] (.lit (.bool true))) (y : YardD) (m b v : Int) (e45 : Pure Try.prog 45 [yardV y] (.sb false)) : Pure Try.prog 7 [yardV y, .lit (.int .u16 m), .lit (.int .u8 b), .lit (.int .u8 v)] (.lit (.bool true)) := by
  obtain ⟨O, hO⟩ : ∃ O : Ar, O = std := ⟨_, rfl⟩
  refine pure_of_body tok 3 Try.func7 en7 rfl ⟨yardV_below y, Below.lit, Below.lit, Below.lit, trivial⟩ Below.lit ?_
  refine SW.seqRun tok hO (by cbv <;> rfl) (by trivial) ?_
  refine SW.seq ?_
  refine SW.seqRun tok hO (by cbv <;> rfl) (by trivial) ?_
  refine OpsW.callP e45 (by cbv <;> rfl) ?_
  refine OpsW.run tok hO (by cbv <;> rfl) (by trivial) ?_
  refine SW.condS (by cbv <;> rfl) (fun hw1 => ?_) (fun hw1 => by first | (cases hw1; done) | (subst hO; simp [std] at hw1; done) | (subst hO; simp [std] at hw1; omega))
  refine SW.seqRun tok hO (by cbv <;> rfl) (by trivial) ?_
  refine OpsW.callP haw (by cbv <;> rfl) ?_
  refine OpsW.run tok hO (by cbv <;> rfl) (by trivial) ?_
  exact SW.ret ⟨_, _, rfl, rfl, Eqv.of rfl⟩
set_option maxHeartbeats 8000000 in
theorem tr_pre (y : YardD) (m b v : Int) (g : Nat → Int) (A M : Int) (B : Bool) (hM : M ≠ 0) (e45 : Pure Try.prog 45 [yardV y] (.sb true)) (e47 : Pure Try.prog 47 [yardV y] (iV A)) (e48 : Pure Try.prog 48 [yardV y, iV A] (iV M)) (e46 : Pure Try.prog 46 [yardV y, iV A, iV (std.bin .rem .i64 (std.conv .i64 m) M)] (intsV y.nb false g)) (e25 : Pure Try.prog 25 [yardV y, intsV y.nb false g] (.sb B))
    (htail : ∀ (gg : Nat → AV), AllP (fun p => gg p.1 = p.2) [(2, .lit (.int .u8 b)), (3, .lit (.int .u8 v)), (4, .ptr 0 0), (9, intsV y.nb false g), (10, .sb B)] → SW Try.prog none (restC 4 (bodyF Try.f7)) (trueQ3 Try.f7) ⟨⟨201, gg⟩, []⟩ ⟨[(0, .cells none false (yardC y))], 1⟩) : Pure Try.prog 7 [yardV y, .lit (.int .u16 m), .lit (.int .u8 b), .lit (.int .u8 v)] (.lit (.bool true)) := by
  obtain ⟨O, hO⟩ : ∃ O : Ar, O = std := ⟨_, rfl⟩
  rw [← hO] at e46
  refine pure_of_body tok 3 Try.func7 en7 rfl ⟨yardV_below y, Below.lit, Below.lit, Below.lit, trivial⟩ Below.lit ?_
  refine SW.seqRun tok hO (by cbv <;> rfl) (by repeat (first | exact trivial | exact hM | refine ⟨?_, ?_⟩)) ?_
  refine SW.seq ?_
  refine SW.seqRun tok hO (by cbv <;> rfl) (by repeat (first | exact trivial | exact hM | refine ⟨?_, ?_⟩)) ?_
  refine OpsW.callP e45 (by cbv <;> rfl) ?_
  refine OpsW.run tok hO (by cbv <;> rfl) (by repeat (first | exact trivial | exact hM | refine ⟨?_, ?_⟩)) ?_
  refine SW.condS (by cbv <;> rfl) (fun hw1 => by first | (cases hw1; done) | (subst hO; simp [std] at hw1; done) | (subst hO; simp [std] at hw1; omega)) (fun hw1 => SW.skip ?_)
  refine SW.seqRunD tok mixed hO (by kernel_rfl) (by cbv <;> rfl) (by repeat (first | exact trivial | exact hM | refine ⟨?_, ?_⟩)) ?_
  refine AnyE.callP e47 (by cbv <;> rfl) (by cbv <;> rfl) ?_
  refine AnyE.run tok hO (by kernel_rfl) (by cbv <;> rfl) (by repeat (first | exact trivial | exact hM | refine ⟨?_, ?_⟩)) ?_
  refine AnyE.callP e47 (by cbv <;> rfl) (by cbv <;> rfl) ?_
  refine AnyE.run tok hO (by kernel_rfl) (by cbv <;> rfl) (by repeat (first | exact trivial | exact hM | refine ⟨?_, ?_⟩)) ?_
  refine AnyE.callP e48 (by cbv <;> rfl) (by cbv <;> rfl) ?_
  refine AnyE.run tok hO (by kernel_rfl) (by cbv <;> rfl) (by repeat (first | exact trivial | exact hM | refine ⟨?_, ?_⟩)) ?_
  refine AnyE.callP e46 (by cbv <;> rfl) (by cbv <;> rfl) ?_
  refine AnyE.run tok hO (by kernel_rfl) (by cbv <;> rfl) (by repeat (first | exact trivial | exact hM | refine ⟨?_, ?_⟩)) ?_
  refine SW.seqRun tok hO (by cbv <;> rfl) (by repeat (first | exact trivial | exact hM | refine ⟨?_, ?_⟩)) ?_
  refine OpsW.callP e25 (by cbv <;> rfl) ?_
  refine OpsW.run tok hO (by cbv <;> rfl) (by repeat (first | exact trivial | exact hM | refine ⟨?_, ?_⟩)) ?_
  exact htail _ ⟨rfl, rfl, rfl, rfl, rfl, trivial⟩
set_option maxHeartbeats 8000000 in
theorem tr_ten (haw : Pure Try.prog 18 [] (.lit (.bool true))) (y : YardD) (m b v : Int) (g : Nat → Int) (PV : AV) (e35 : Pure Try.prog 35 [yardV y, PV] (.sb true)) (e20 : Pure Try.prog 20 [yardV y] (yardV y)) (e19 : Pure Try.prog 19 [yardV y] (.tup [nl3, iV 10])) (e34 : Pure Try.prog 34 [yardV y] (.tup [PV, iV 0])) (e22 : Pure Try.prog 22 [intsV y.nb false g] (intsV y.nb false g)) (e21 : Pure Try.prog 21 [yardV y, intsV y.nb false g] (.sb false))
    (gg : Nat → AV) (h : AllP (fun p => gg p.1 = p.2) [(2, .lit (.int .u8 b)), (3, .lit (.int .u8 v)), (4, .ptr 0 0), (9, intsV y.nb false g), (10, .sb false)]) :
    SW Try.prog none (restC 4 (bodyF Try.f7)) (trueQ3 Try.f7) ⟨⟨201, gg⟩, []⟩ ⟨[(0, .cells none false (yardC y))], 1⟩ := by
  obtain ⟨O, hO⟩ : ∃ O : Ar, O = std := ⟨_, rfl⟩
  obtain ⟨g1, g2, g3, g4, g5, _⟩ := h
  simp only at g1 g2 g3 g4 g5
  rw [← updT_self g1, ← updT_self g2, ← updT_self g3, ← updT_self g4, ← updT_self g5]
  refine (show SW Try.prog none (.seq (.region _ _ _) _) _ _ _ from ?_)
  refine SW.seqRun tok hO (by cbv <;> rfl) (by trivial) ?_
  refine OpsW.callP e20 (by cbv <;> rfl) ?_
  refine OpsW.run tok hO (by cbv <;> rfl) (by trivial) ?_
  refine OpsW.callP e19 (by cbv <;> rfl) ?_
  refine OpsW.run tok hO (by cbv <;> rfl) (by trivial) ?_
  refine SW.seqRun tok hO (by cbv <;> rfl) (by trivial) ?_
  refine OpsW.callP e20 (by cbv <;> rfl) ?_
  refine OpsW.run tok hO (by cbv <;> rfl) (by trivial) ?_
  refine OpsW.callP e34 (by cbv <;> rfl) ?_
  refine OpsW.run tok hO (by cbv <;> rfl) (by trivial) ?_
  refine SW.seq ?_
  refine SW.seqRun tok hO (by cbv <;> rfl) (by trivial) ?_
  refine OpsW.callP e20 (by cbv <;> rfl) ?_
  refine OpsW.run tok hO (by cbv <;> rfl) (by trivial) ?_
  refine OpsW.callP e22 (by cbv <;> rfl) ?_
  refine OpsW.run tok hO (by cbv <;> rfl) (by trivial) ?_
  refine OpsW.callP e21 (by cbv <;> rfl) ?_
  refine OpsW.run tok hO (by cbv <;> rfl) (by trivial) ?_
  refine OpsW.splitG (by cbv <;> rfl) (fun hw1 => by first | (cases hw1; done) | (subst hO; simp [std] at hw1; done) | (subst hO; simp [std] at hw1; omega)) (fun hw1 => ?_)
  refine OpsW.run tok hO (by cbv <;> rfl) (by trivial) ?_
  refine OpsW.splitG (by cbv <;> rfl) (fun hw2 => ?_) (fun hw2 => by first | (cases hw2; done) | (subst hO; simp [std] at hw2; done) | (subst hO; simp [std] at hw2; omega))
  refine OpsW.run tok hO (by cbv <;> rfl) (by trivial) ?_
  refine SW.condS (by cbv <;> rfl) (fun hw3 => by first | (cases hw3; done) | (subst hO; simp [std] at hw3; done) | (subst hO; simp [std] at hw3; omega)) (fun hw3 => SW.skip ?_)
  refine SW.seq ?_
  refine SW.seqRun tok hO (by cbv <;> rfl) (by trivial) ?_
  refine SW.condS (by cbv <;> rfl) (fun hw4 => ?_) (fun hw4 => by first | (cases hw4; done) | (subst hO; simp [std] at hw4; done) | (subst hO; simp [std] at hw4; omega))
  refine SW.seqRun tok hO (by cbv <;> rfl) (by trivial) ?_
  refine OpsW.splitG (by cbv <;> rfl) (fun hw5 => ?_) (fun hw5 => by first | (cases hw5; done) | (subst hO; simp [std] at hw5; done) | (subst hO; simp [std] at hw5; omega))
  refine OpsW.run tok hO (by cbv <;> rfl) (by trivial) ?_
  refine OpsW.callP e20 (by cbv <;> rfl) ?_
  refine OpsW.run tok hO (by cbv <;> rfl) (by trivial) ?_
  refine OpsW.callP e35 (by cbv <;> rfl) ?_
  refine OpsW.run tok hO (by cbv <;> rfl) (by trivial) ?_
  refine OpsW.splitG (by cbv <;> rfl) (fun hw6 => ?_) (fun hw6 => by first | (cases hw6; done) | (subst hO; simp [std] at hw6; done) | (subst hO; simp [std] at hw6; omega))
  refine OpsW.run tok hO (by cbv <;> rfl) (by trivial) ?_
  refine OpsW.callP haw (by cbv <;> rfl) ?_
  refine OpsW.run tok hO (by cbv <;> rfl) (by trivial) ?_
  exact SW.ret ⟨_, _, rfl, rfl, Eqv.of rfl⟩
set_option maxHeartbeats 8000000 in
theorem tr_nine (haw : Pure Try.prog 18 [] (.lit (.bool true))) (y : YardD) (m b v : Int) (g : Nat → Int) (e20 : Pure Try.prog 20 [yardV y] (yardV y)) (e19 : Pure Try.prog 19 [yardV y] (.tup [nl3, iV 9])) (e34 : Pure Try.prog 34 [yardV y] (.tup [nl3, iV 7])) (e22 : Pure Try.prog 22 [intsV y.nb false g] (intsV y.nb false g)) (e21 : Pure Try.prog 21 [yardV y, intsV y.nb false g] (.sb false))
    (gg : Nat → AV) (h : AllP (fun p => gg p.1 = p.2) [(2, .lit (.int .u8 b)), (3, .lit (.int .u8 v)), (4, .ptr 0 0), (9, intsV y.nb false g), (10, .sb false)]) :
    SW Try.prog none (restC 4 (bodyF Try.f7)) (trueQ3 Try.f7) ⟨⟨201, gg⟩, []⟩ ⟨[(0, .cells none false (yardC y))], 1⟩ := by
  obtain ⟨O, hO⟩ : ∃ O : Ar, O = std := ⟨_, rfl⟩
  obtain ⟨g1, g2, g3, g4, g5, _⟩ := h
  simp only at g1 g2 g3 g4 g5
  rw [← updT_self g1, ← updT_self g2, ← updT_self g3, ← updT_self g4, ← updT_self g5]
  refine (show SW Try.prog none (.seq (.region _ _ _) _) _ _ _ from ?_)
  refine SW.seqRun tok hO (by cbv <;> rfl) (by trivial) ?_
  refine OpsW.callP e20 (by cbv <;> rfl) ?_
  refine OpsW.run tok hO (by cbv <;> rfl) (by trivial) ?_
  refine OpsW.callP e19 (by cbv <;> rfl) ?_
  refine OpsW.run tok hO (by cbv <;> rfl) (by trivial) ?_
  refine SW.seqRun tok hO (by cbv <;> rfl) (by trivial) ?_
  refine OpsW.callP e20 (by cbv <;> rfl) ?_
  refine OpsW.run tok hO (by cbv <;> rfl) (by trivial) ?_
  refine OpsW.callP e34 (by cbv <;> rfl) ?_
  refine OpsW.run tok hO (by cbv <;> rfl) (by trivial) ?_
  refine SW.seq ?_
  refine SW.seqRun tok hO (by cbv <;> rfl) (by trivial) ?_
  refine OpsW.callP e20 (by cbv <;> rfl) ?_
  refine OpsW.run tok hO (by cbv <;> rfl) (by trivial) ?_
  refine OpsW.callP e22 (by cbv <;> rfl) ?_
  refine OpsW.run tok hO (by cbv <;> rfl) (by trivial) ?_
  refine OpsW.callP e21 (by cbv <;> rfl) ?_
  refine OpsW.run tok hO (by cbv <;> rfl) (by trivial) ?_
  refine OpsW.splitG (by cbv <;> rfl) (fun hw1 => by first | (cases hw1; done) | (subst hO; simp [std] at hw1; done) | (subst hO; simp [std] at hw1; omega)) (fun hw1 => ?_)
  refine OpsW.run tok hO (by cbv <;> rfl) (by trivial) ?_
  refine OpsW.splitG (by cbv <;> rfl) (fun hw2 => ?_) (fun hw2 => by first | (cases hw2; done) | (subst hO; simp [std] at hw2; done) | (subst hO; simp [std] at hw2; omega))
  refine OpsW.run tok hO (by cbv <;> rfl) (by trivial) ?_
  refine SW.condS (by cbv <;> rfl) (fun hw3 => by first | (cases hw3; done) | (subst hO; simp [std] at hw3; done) | (subst hO; simp [std] at hw3; omega)) (fun hw3 => SW.skip ?_)
  refine SW.seq ?_
  refine SW.seqRun tok hO (by cbv <;> rfl) (by trivial) ?_
  refine SW.condS (by cbv <;> rfl) (fun hw4 => by first | (cases hw4; done) | (subst hO; simp [std] at hw4; done) | (subst hO; simp [std] at hw4; omega)) (fun hw4 => SW.skip ?_)
  refine SW.seq ?_
  refine SW.seqRun tok hO (by cbv <;> rfl) (by trivial) ?_
  refine OpsW.splitG (by cbv <;> rfl) (fun hw5 => by first | (cases hw5; done) | (subst hO; simp [std] at hw5; done) | (subst hO; simp [std] at hw5; omega)) (fun hw5 => ?_)
  refine OpsW.run tok hO (by cbv <;> rfl) (by trivial) ?_
  refine OpsW.splitG (by cbv <;> rfl) (fun hw6 => ?_) (fun hw6 => by first | (cases hw6; done) | (subst hO; simp [std] at hw6; done) | (subst hO; simp [std] at hw6; omega))
  refine OpsW.run tok hO (by cbv <;> rfl) (by trivial) ?_
  refine OpsW.splitG (by cbv <;> rfl) (fun hw7 => by first | (cases hw7; done) | (subst hO; simp [std] at hw7; done) | (subst hO; simp [std] at hw7; omega)) (fun hw7 => ?_)
  refine OpsW.run tok hO (by cbv <;> rfl) (by trivial) ?_
  refine OpsW.splitG (by cbv <;> rfl) (fun hw8 => by first | (cases hw8; done) | (subst hO; simp [std] at hw8; done) | (subst hO; simp [std] at hw8; omega)) (fun hw8 => ?_)
  refine OpsW.run tok hO (by cbv <;> rfl) (by trivial) ?_
  refine SW.cond (t := false) (by cbv <;> rfl) (SW.skip ?_)
  refine SW.seq ?_
  refine SW.seqRun tok hO (by cbv <;> rfl) (by trivial) ?_
  refine OpsW.splitG (by cbv <;> rfl) (fun hw9 => ?_) (fun hw9 => by first | (cases hw9; done) | (subst hO; simp [std] at hw9; done) | (subst hO; simp [std] at hw9; omega))
  refine OpsW.run tok hO (by cbv <;> rfl) (by trivial) ?_
  refine SW.cond (t := true) (by cbv <;> rfl) ?_
  refine SW.seqRun tok hO (by cbv <;> rfl) (by trivial) ?_
  refine OpsW.callP haw (by cbv <;> rfl) ?_
  refine OpsW.run tok hO (by cbv <;> rfl) (by trivial) ?_
  exact SW.ret ⟨_, _, rfl, rfl, Eqv.of rfl⟩
set_option maxHeartbeats 8000000 in
theorem tr_not2 (haw : Pure Try.prog 18 [] (.lit (.bool true))) (y : YardD) (m b v : Int) (g : Nat → Int) (SV : AV) (e20 : Pure Try.prog 20 [yardV y] (yardV y)) (e19 : Pure Try.prog 19 [yardV y] (.tup [SV, iV 0])) (e34 : Pure Try.prog 34 [yardV y] (.tup [nl3, iV 7])) (e22 : Pure Try.prog 22 [intsV y.nb false g] (intsV y.nb false g)) (e21 : Pure Try.prog 21 [yardV y, intsV y.nb false g] (.sb false)) (e25b : Pure Try.prog 25 [yardV y, SV] (.sb true)) (e22b : Pure Try.prog 22 [SV] SV) (e21b : Pure Try.prog 21 [yardV y, SV] (.sb true))
    (gg : Nat → AV) (h : AllP (fun p => gg p.1 = p.2) [(2, .lit (.int .u8 b)), (3, .lit (.int .u8 v)), (4, .ptr 0 0), (9, intsV y.nb false g), (10, .sb false)]) :
    SW Try.prog none (restC 4 (bodyF Try.f7)) (trueQ3 Try.f7) ⟨⟨201, gg⟩, []⟩ ⟨[(0, .cells none false (yardC y))], 1⟩ := by
  obtain ⟨O, hO⟩ : ∃ O : Ar, O = std := ⟨_, rfl⟩
  obtain ⟨g1, g2, g3, g4, g5, _⟩ := h
  simp only at g1 g2 g3 g4 g5
  rw [← updT_self g1, ← updT_self g2, ← updT_self g3, ← updT_self g4, ← updT_self g5]
  refine (show SW Try.prog none (.seq (.region _ _ _) _) _ _ _ from ?_)
  refine SW.seqRun tok hO (by cbv <;> rfl) (by trivial) ?_
  refine OpsW.callP e20 (by cbv <;> rfl) ?_
  refine OpsW.run tok hO (by cbv <;> rfl) (by trivial) ?_
  refine OpsW.callP e19 (by cbv <;> rfl) ?_
  refine OpsW.run tok hO (by cbv <;> rfl) (by trivial) ?_
  refine SW.seqRun tok hO (by cbv <;> rfl) (by trivial) ?_
  refine OpsW.callP e20 (by cbv <;> rfl) ?_
  refine OpsW.run tok hO (by cbv <;> rfl) (by trivial) ?_
  refine OpsW.callP e34 (by cbv <;> rfl) ?_
  refine OpsW.run tok hO (by cbv <;> rfl) (by trivial) ?_
  refine SW.seq ?_
  refine SW.seqRun tok hO (by cbv <;> rfl) (by trivial) ?_
  refine OpsW.callP e20 (by cbv <;> rfl) ?_
  refine OpsW.run tok hO (by cbv <;> rfl) (by trivial) ?_
  refine OpsW.callP e22 (by cbv <;> rfl) ?_
  refine OpsW.run tok hO (by cbv <;> rfl) (by trivial) ?_
  refine OpsW.callP e21 (by cbv <;> rfl) ?_
  refine OpsW.run tok hO (by cbv <;> rfl) (by trivial) ?_
  refine OpsW.splitG (by cbv <;> rfl) (fun hw1 => by first | (cases hw1; done) | (subst hO; simp [std] at hw1; done) | (subst hO; simp [std] at hw1; omega)) (fun hw1 => ?_)
  refine OpsW.run tok hO (by cbv <;> rfl) (by trivial) ?_
  refine OpsW.splitG (by cbv <;> rfl) (fun hw2 => by first | (cases hw2; done) | (subst hO; simp [std] at hw2; done) | (subst hO; simp [std] at hw2; omega)) (fun hw2 => ?_)
  refine OpsW.run tok hO (by cbv <;> rfl) (by trivial) ?_
  refine SW.cond (t := false) (by cbv <;> rfl) (SW.skip ?_)
  refine SW.seq ?_
  refine SW.seqRun tok hO (by cbv <;> rfl) (by trivial) ?_
  refine SW.condS (by cbv <;> rfl) (fun hw3 => by first | (cases hw3; done) | (subst hO; simp [std] at hw3; done) | (subst hO; simp [std] at hw3; omega)) (fun hw3 => SW.skip ?_)
  refine SW.seq ?_
  refine SW.seqRun tok hO (by cbv <;> rfl) (by trivial) ?_
  refine OpsW.splitG (by cbv <;> rfl) (fun hw4 => by first | (cases hw4; done) | (subst hO; simp [std] at hw4; done) | (subst hO; simp [std] at hw4; omega)) (fun hw4 => ?_)
  refine OpsW.run tok hO (by cbv <;> rfl) (by trivial) ?_
  refine OpsW.splitG (by cbv <;> rfl) (fun hw5 => by first | (cases hw5; done) | (subst hO; simp [std] at hw5; done) | (subst hO; simp [std] at hw5; omega)) (fun hw5 => ?_)
  refine OpsW.run tok hO (by cbv <;> rfl) (by trivial) ?_
  refine OpsW.splitG (by cbv <;> rfl) (fun hw6 => ?_) (fun hw6 => by first | (cases hw6; done) | (subst hO; simp [std] at hw6; done) | (subst hO; simp [std] at hw6; omega))
  refine OpsW.run tok hO (by cbv <;> rfl) (by trivial) ?_
  refine OpsW.callP e25b (by cbv <;> rfl) ?_
  refine OpsW.run tok hO (by cbv <;> rfl) (by trivial) ?_
  refine OpsW.splitG (by cbv <;> rfl) (fun hw7 => by first | (cases hw7; done) | (subst hO; simp [std] at hw7; done) | (subst hO; simp [std] at hw7; omega)) (fun hw7 => ?_)
  refine OpsW.run tok hO (by cbv <;> rfl) (by trivial) ?_
  refine OpsW.callP e20 (by cbv <;> rfl) ?_
  refine OpsW.run tok hO (by cbv <;> rfl) (by trivial) ?_
  refine OpsW.callP e22b (by cbv <;> rfl) ?_
  refine OpsW.run tok hO (by cbv <;> rfl) (by trivial) ?_
  refine OpsW.callP e21b (by cbv <;> rfl) ?_
  refine OpsW.run tok hO (by cbv <;> rfl) (by trivial) ?_
  refine SW.condS (by cbv <;> rfl) (fun hw8 => by first | (cases hw8; done) | (subst hO; simp [std] at hw8; done) | (subst hO; simp [std] at hw8; omega)) (fun hw8 => SW.skip ?_)
  refine SW.seq ?_
  refine SW.seqRun tok hO (by cbv <;> rfl) (by trivial) ?_
  refine OpsW.splitG (by cbv <;> rfl) (fun hw9 => ?_) (fun hw9 => by first | (cases hw9; done) | (subst hO; simp [std] at hw9; done) | (subst hO; simp [std] at hw9; omega))
  refine OpsW.run tok hO (by cbv <;> rfl) (by trivial) ?_
  refine SW.cond (t := true) (by cbv <;> rfl) ?_
  refine SW.seqRun tok hO (by cbv <;> rfl) (by trivial) ?_
  refine OpsW.callP haw (by cbv <;> rfl) ?_
  refine OpsW.run tok hO (by cbv <;> rfl) (by trivial) ?_
  exact SW.ret ⟨_, _, rfl, rfl, Eqv.of rfl⟩
set_option maxHeartbeats 8000000 in
theorem tr_no (haw : Pure Try.prog 18 [] (.lit (.bool true))) (y : YardD) (m b v : Int) (g : Nat → Int) (SV : AV) (hz : y.nb = 0) (e20 : Pure Try.prog 20 [yardV y] (yardV y)) (e19 : Pure Try.prog 19 [yardV y] (.tup [SV, iV 0])) (e34 : Pure Try.prog 34 [yardV y] (.tup [nl3, iV 7])) (e22 : Pure Try.prog 22 [intsV y.nb false g] (intsV y.nb false g)) (e21 : Pure Try.prog 21 [yardV y, intsV y.nb false g] (.sb true)) (e25b : Pure Try.prog 25 [yardV y, SV] (.sb true)) (e22b : Pure Try.prog 22 [SV] SV) (e21b : Pure Try.prog 21 [yardV y, SV] (.sb true))
    (gg : Nat → AV) (h : AllP (fun p => gg p.1 = p.2) [(2, .lit (.int .u8 b)), (3, .lit (.int .u8 v)), (4, .ptr 0 0), (9, intsV y.nb false g), (10, .sb true)]) :
    SW Try.prog none (restC 4 (bodyF Try.f7)) (trueQ3 Try.f7) ⟨⟨201, gg⟩, []⟩ ⟨[(0, .cells none false (yardC y))], 1⟩ := by
  obtain ⟨O, hO⟩ : ∃ O : Ar, O = std := ⟨_, rfl⟩
  obtain ⟨g1, g2, g3, g4, g5, _⟩ := h
  simp only at g1 g2 g3 g4 g5
  rw [← updT_self g1, ← updT_self g2, ← updT_self g3, ← updT_self g4, ← updT_self g5]
  refine (show SW Try.prog none (.seq (.region _ _ _) _) _ _ _ from ?_)
  refine SW.seqRun tok hO (by cbv <;> rfl) (by trivial) ?_
  refine OpsW.callP e20 (by cbv <;> rfl) ?_
  refine OpsW.run tok hO (by cbv <;> rfl) (by trivial) ?_
  refine OpsW.callP e19 (by cbv <;> rfl) ?_
  refine OpsW.run tok hO (by cbv <;> rfl) (by trivial) ?_
  refine SW.seqRun tok hO (by cbv <;> rfl) (by trivial) ?_
  refine OpsW.callP e20 (by cbv <;> rfl) ?_
  refine OpsW.run tok hO (by cbv <;> rfl) (by trivial) ?_
  refine OpsW.callP e34 (by cbv <;> rfl) ?_
  refine OpsW.run tok hO (by cbv <;> rfl) (by trivial) ?_
  refine SW.seq ?_
  refine SW.seqRun tok hO (by cbv <;> rfl) (by trivial) ?_
  refine OpsW.callP e20 (by cbv <;> rfl) ?_
  refine OpsW.run tok hO (by cbv <;> rfl) (by trivial) ?_
  refine OpsW.callP e22 (by cbv <;> rfl) ?_
  refine OpsW.run tok hO (by cbv <;> rfl) (by trivial) ?_
  refine OpsW.callP e21 (by cbv <;> rfl) ?_
  refine OpsW.run tok hO (by cbv <;> rfl) (by trivial) ?_
  refine OpsW.splitG (by cbv <;> rfl) (fun hw1 => by first | (cases hw1; done) | (subst hO; simp [std, hz] at hw1; done) | (subst hO; simp [std, hz] at hw1; omega)) (fun hw1 => ?_)
  refine OpsW.run tok hO (by cbv <;> rfl) (by trivial) ?_
  refine OpsW.splitG (by cbv <;> rfl) (fun hw2 => by first | (cases hw2; done) | (subst hO; simp [std, hz] at hw2; done) | (subst hO; simp [std, hz] at hw2; omega)) (fun hw2 => ?_)
  refine OpsW.run tok hO (by cbv <;> rfl) (by trivial) ?_
  refine SW.cond (t := false) (by cbv <;> rfl) (SW.skip ?_)
  refine SW.seq ?_
  refine SW.seqRun tok hO (by cbv <;> rfl) (by trivial) ?_
  refine SW.condS (by cbv <;> rfl) (fun hw3 => by first | (cases hw3; done) | (subst hO; simp [std, hz] at hw3; done) | (subst hO; simp [std, hz] at hw3; omega)) (fun hw3 => SW.skip ?_)
  refine SW.seq ?_
  refine SW.seqRun tok hO (by cbv <;> rfl) (by trivial) ?_
  refine OpsW.splitG (by cbv <;> rfl) (fun hw4 => by first | (cases hw4; done) | (subst hO; simp [std, hz] at hw4; done) | (subst hO; simp [std, hz] at hw4; omega)) (fun hw4 => ?_)
  refine OpsW.run tok hO (by cbv <;> rfl) (by trivial) ?_
  refine OpsW.splitG (by cbv <;> rfl) (fun hw5 => by first | (cases hw5; done) | (subst hO; simp [std, hz] at hw5; done) | (subst hO; simp [std, hz] at hw5; omega)) (fun hw5 => ?_)
  refine OpsW.run tok hO (by cbv <;> rfl) (by trivial) ?_
  refine OpsW.splitG (by cbv <;> rfl) (fun hw6 => ?_) (fun hw6 => by first | (cases hw6; done) | (subst hO; simp [std, hz] at hw6; done) | (subst hO; simp [std, hz] at hw6; omega))
  refine OpsW.run tok hO (by cbv <;> rfl) (by trivial) ?_
  refine OpsW.callP e25b (by cbv <;> rfl) ?_
  refine OpsW.run tok hO (by cbv <;> rfl) (by trivial) ?_
  refine OpsW.splitG (by cbv <;> rfl) (fun hw7 => by first | (cases hw7; done) | (subst hO; simp [std, hz] at hw7; done) | (subst hO; simp [std, hz] at hw7; omega)) (fun hw7 => ?_)
  refine OpsW.run tok hO (by cbv <;> rfl) (by trivial) ?_
  refine OpsW.callP e20 (by cbv <;> rfl) ?_
  refine OpsW.run tok hO (by cbv <;> rfl) (by trivial) ?_
  refine OpsW.callP e22b (by cbv <;> rfl) ?_
  refine OpsW.run tok hO (by cbv <;> rfl) (by trivial) ?_
  refine OpsW.callP e21b (by cbv <;> rfl) ?_
  refine OpsW.run tok hO (by cbv <;> rfl) (by trivial) ?_
  refine SW.condS (by cbv <;> rfl) (fun hw8 => by first | (cases hw8; done) | (subst hO; simp [std, hz] at hw8; done) | (subst hO; simp [std, hz] at hw8; omega)) (fun hw8 => SW.skip ?_)
  refine SW.seq ?_
  refine SW.seqRun tok hO (by cbv <;> rfl) (by trivial) ?_
  refine OpsW.splitG (by cbv <;> rfl) (fun hw9 => by first | (cases hw9; done) | (subst hO; simp [std, hz] at hw9; done) | (subst hO; simp [std, hz] at hw9; omega)) (fun hw9 => ?_)
  refine OpsW.run tok hO (by cbv <;> rfl) (by trivial) ?_
  refine SW.condS (by cbv <;> rfl) (fun hw10 => ?_) (fun hw10 => by first | (cases hw10; done) | (subst hO; simp [std, hz] at hw10; done) | (subst hO; simp [std, hz] at hw10; omega))
  refine SW.seqRun tok hO (by cbv <;> rfl) (by trivial) ?_
  refine OpsW.callP haw (by cbv <;> rfl) ?_
  refine OpsW.run tok hO (by cbv <;> rfl) (by trivial) ?_
  exact SW.ret ⟨_, _, rfl, rfl, Eqv.of rfl⟩
set_option maxHeartbeats 8000000 in
theorem tr_yes (y : YardD) (m b v : Int) (g : Nat → Int) (SV : AV) (hz : ¬ y.nb = 0) (e20 : Pure Try.prog 20 [yardV y] (yardV y)) (e19 : Pure Try.prog 19 [yardV y] (.tup [SV, iV 0])) (e34 : Pure Try.prog 34 [yardV y] (.tup [nl3, iV 7])) (e22 : Pure Try.prog 22 [intsV y.nb false g] (intsV y.nb false g)) (e21 : Pure Try.prog 21 [yardV y, intsV y.nb false g] (.sb true)) (e25b : Pure Try.prog 25 [yardV y, SV] (.sb true)) (e22b : Pure Try.prog 22 [SV] SV) (e21b : Pure Try.prog 21 [yardV y, SV] (.sb true))
    (htail : ∀ (gg : Nat → AV), AllP (fun p => gg p.1 = p.2) [(2, .lit (.int .u8 b)), (3, .lit (.int .u8 v)), (4, .ptr 0 0), (9, intsV y.nb false g)] → SW Try.prog none (restC 10 (bodyF Try.f7)) (trueQ3 Try.f7) ⟨⟨201, gg⟩, []⟩ ⟨[(0, .cells none false (yardC y))], 1⟩)
    (gg : Nat → AV) (h : AllP (fun p => gg p.1 = p.2) [(2, .lit (.int .u8 b)), (3, .lit (.int .u8 v)), (4, .ptr 0 0), (9, intsV y.nb false g), (10, .sb true)]) :
    SW Try.prog none (restC 4 (bodyF Try.f7)) (trueQ3 Try.f7) ⟨⟨201, gg⟩, []⟩ ⟨[(0, .cells none false (yardC y))], 1⟩ := by
  obtain ⟨O, hO⟩ : ∃ O : Ar, O = std := ⟨_, rfl⟩
  obtain ⟨g1, g2, g3, g4, g5, _⟩ := h
  simp only at g1 g2 g3 g4 g5
  rw [← updT_self g1, ← updT_self g2, ← updT_self g3, ← updT_self g4, ← updT_self g5]
  refine (show SW Try.prog none (.seq (.region _ _ _) _) _ _ _ from ?_)
  refine SW.seqRun tok hO (by cbv <;> rfl) (by trivial) ?_
  refine OpsW.callP e20 (by cbv <;> rfl) ?_
  refine OpsW.run tok hO (by cbv <;> rfl) (by trivial) ?_
  refine OpsW.callP e19 (by cbv <;> rfl) ?_
  refine OpsW.run tok hO (by cbv <;> rfl) (by trivial) ?_
  refine SW.seqRun tok hO (by cbv <;> rfl) (by trivial) ?_
  refine OpsW.callP e20 (by cbv <;> rfl) ?_
  refine OpsW.run tok hO (by cbv <;> rfl) (by trivial) ?_
  refine OpsW.callP e34 (by cbv <;> rfl) ?_
  refine OpsW.run tok hO (by cbv <;> rfl) (by trivial) ?_
  refine SW.seq ?_
  refine SW.seqRun tok hO (by cbv <;> rfl) (by trivial) ?_
  refine OpsW.callP e20 (by cbv <;> rfl) ?_
  refine OpsW.run tok hO (by cbv <;> rfl) (by trivial) ?_
  refine OpsW.callP e22 (by cbv <;> rfl) ?_
  refine OpsW.run tok hO (by cbv <;> rfl) (by trivial) ?_
  refine OpsW.callP e21 (by cbv <;> rfl) ?_
  refine OpsW.run tok hO (by cbv <;> rfl) (by trivial) ?_
  refine OpsW.splitG (by cbv <;> rfl) (fun hw1 => by first | (cases hw1; done) | (subst hO; simp [std, hz] at hw1; done) | (subst hO; simp [std, hz] at hw1; omega)) (fun hw1 => ?_)
  refine OpsW.run tok hO (by cbv <;> rfl) (by trivial) ?_
  refine OpsW.splitG (by cbv <;> rfl) (fun hw2 => by first | (cases hw2; done) | (subst hO; simp [std, hz] at hw2; done) | (subst hO; simp [std, hz] at hw2; omega)) (fun hw2 => ?_)
  refine OpsW.run tok hO (by cbv <;> rfl) (by trivial) ?_
  refine SW.cond (t := false) (by cbv <;> rfl) (SW.skip ?_)
  refine SW.seq ?_
  refine SW.seqRun tok hO (by cbv <;> rfl) (by trivial) ?_
  refine SW.condS (by cbv <;> rfl) (fun hw3 => by first | (cases hw3; done) | (subst hO; simp [std, hz] at hw3; done) | (subst hO; simp [std, hz] at hw3; omega)) (fun hw3 => SW.skip ?_)
  refine SW.seq ?_
  refine SW.seqRun tok hO (by cbv <;> rfl) (by trivial) ?_
  refine OpsW.splitG (by cbv <;> rfl) (fun hw4 => by first | (cases hw4; done) | (subst hO; simp [std, hz] at hw4; done) | (subst hO; simp [std, hz] at hw4; omega)) (fun hw4 => ?_)
  refine OpsW.run tok hO (by cbv <;> rfl) (by trivial) ?_
  refine OpsW.splitG (by cbv <;> rfl) (fun hw5 => by first | (cases hw5; done) | (subst hO; simp [std, hz] at hw5; done) | (subst hO; simp [std, hz] at hw5; omega)) (fun hw5 => ?_)
  refine OpsW.run tok hO (by cbv <;> rfl) (by trivial) ?_
  refine OpsW.splitG (by cbv <;> rfl) (fun hw6 => ?_) (fun hw6 => by first | (cases hw6; done) | (subst hO; simp [std, hz] at hw6; done) | (subst hO; simp [std, hz] at hw6; omega))
  refine OpsW.run tok hO (by cbv <;> rfl) (by trivial) ?_
  refine OpsW.callP e25b (by cbv <;> rfl) ?_
  refine OpsW.run tok hO (by cbv <;> rfl) (by trivial) ?_
  refine OpsW.splitG (by cbv <;> rfl) (fun hw7 => by first | (cases hw7; done) | (subst hO; simp [std, hz] at hw7; done) | (subst hO; simp [std, hz] at hw7; omega)) (fun hw7 => ?_)
  refine OpsW.run tok hO (by cbv <;> rfl) (by trivial) ?_
  refine OpsW.callP e20 (by cbv <;> rfl) ?_
  refine OpsW.run tok hO (by cbv <;> rfl) (by trivial) ?_
  refine OpsW.callP e22b (by cbv <;> rfl) ?_
  refine OpsW.run tok hO (by cbv <;> rfl) (by trivial) ?_
  refine OpsW.callP e21b (by cbv <;> rfl) ?_
  refine OpsW.run tok hO (by cbv <;> rfl) (by trivial) ?_
  refine SW.condS (by cbv <;> rfl) (fun hw8 => by first | (cases hw8; done) | (subst hO; simp [std, hz] at hw8; done) | (subst hO; simp [std, hz] at hw8; omega)) (fun hw8 => SW.skip ?_)
  refine SW.seq ?_
  refine SW.seqRun tok hO (by cbv <;> rfl) (by trivial) ?_
  refine OpsW.splitG (by cbv <;> rfl) (fun hw9 => by first | (cases hw9; done) | (subst hO; simp [std, hz] at hw9; done) | (subst hO; simp [std, hz] at hw9; omega)) (fun hw9 => ?_)
  refine OpsW.run tok hO (by cbv <;> rfl) (by trivial) ?_
  refine SW.condS (by cbv <;> rfl) (fun hw10 => by first | (cases hw10; done) | (subst hO; simp [std, hz] at hw10; done) | (subst hO; simp [std, hz] at hw10; omega)) (fun hw10 => SW.skip ?_)
  exact htail _ ⟨rfl, rfl, rfl, rfl, trivial⟩
set_option maxHeartbeats 8000000 in
theorem tr_kw (y : YardD) (m b v : Int) (g : Nat → Int) (hz : 0 < y.nb) (h9 : 0 ≤ y.last ∧ y.last ≤ 9)
    (htail : ∀ (gg : Nat → AV), AllP (fun p => gg p.1 = p.2) [(4, .ptr 0 0), (9, intsV y.nb false g), (15, iV (std.bin .rem .i64 (std.conv .i64 b) (Int.ofNat y.nb))), (16, iV (std.bin .rem .i64 (std.conv .i64 v) (std.bin .add .i64 y.last 1)))] → SW Try.prog none (restC 11 (bodyF Try.f7)) (trueQ3 Try.f7) ⟨⟨201, gg⟩, []⟩ ⟨[(0, .cells none false (yardC y))], 1⟩)
    (gg : Nat → AV) (h : AllP (fun p => gg p.1 = p.2) [(2, .lit (.int .u8 b)), (3, .lit (.int .u8 v)), (4, .ptr 0 0), (9, intsV y.nb false g)]) :
    SW Try.prog none (restC 10 (bodyF Try.f7)) (trueQ3 Try.f7) ⟨⟨201, gg⟩, []⟩ ⟨[(0, .cells none false (yardC y))], 1⟩ := by
  obtain ⟨O, hO⟩ : ∃ O : Ar, O = std := ⟨_, rfl⟩
  obtain ⟨g1, g2, g3, g4, _⟩ := h
  simp only at g1 g2 g3 g4
  rw [← updT_self g1, ← updT_self g2, ← updT_self g3, ← updT_self g4]
  rw [← hO] at htail
  have hnz : Int.ofNat y.nb ≠ 0 := by
    show (y.nb : Int) ≠ 0
    omega
  have hlz : O.bin .add .i64 y.last 1 ≠ 0 := add1Z hO h9.1 h9.2
  refine (show SW Try.prog none (.seq (.region _ _ _) _) _ _ _ from ?_)
  refine SW.seqRunD tok mixed hO (by kernel_rfl) (by cbv <;> rfl) (by repeat (first | exact trivial | exact hnz | exact hlz | refine ⟨?_, ?_⟩)) ?_
  exact htail _ ⟨rfl, rfl, rfl, rfl, trivial⟩
set_option maxHeartbeats 8000000 in
theorem tr_enda (haw : Pure Try.prog 18 [] (.lit (.bool true))) (y : YardD) (g : Nat → Int) (k : Nat) (hk : k < y.nb) (w : Int) (IE : Bool) (WV : AV) (lf : Nat → Int) (e20 : Pure Try.prog 20 [yardV y] (yardV y)) (e27 : Pure Try.prog 27 [yardV y, iV (Int.ofNat k)] (.tup [WV, iV 0])) (e28 : Pure Try.prog 28 [yardV y, iV (Int.ofNat k), iV w] (.tup [iV 1, iV 0])) (e41 : Pure Try.prog 41 [yardV y] (.tup [intsV 0 false lf, iV 0])) (e49 : Pure Try.prog 49 [yardV y, intsV y.nb false g, iV (Int.ofNat k), iV w] (.sb true)) (e50 : Pure Try.prog 50 [WV, iV (g k)] (.sb true)) (e29 : Pure Try.prog 29 [iV 1, iV 1, iV 3] (.sb true))
    (gg : Nat → AV) (h : AllP (fun p => gg p.1 = p.2) [(4, .ptr 0 0), (9, intsV y.nb false g), (15, iV (Int.ofNat k)), (16, iV w)]) :
    SW Try.prog none (restC 11 (bodyF Try.f7)) (trueQ3 Try.f7) ⟨⟨201, gg⟩, []⟩ ⟨[(0, .cells none false (yardC y))], 1⟩ := by
  obtain ⟨O, hO⟩ : ∃ O : Ar, O = std := ⟨_, rfl⟩
  obtain ⟨g1, g2, g3, g4, _⟩ := h
  simp only at g1 g2 g3 g4
  rw [← updT_self g1, ← updT_self g2, ← updT_self g3, ← updT_self g4]
  have hnk : O.nat (Int.ofNat k) = k := by subst hO; rfl
  have hin : (0 : Int) ≤ Int.ofNat k ∧ Int.ofNat k < Int.ofNat y.nb := ⟨Int.natCast_nonneg k, Int.ofNat_lt.2 hk⟩
  rw [← hnk] at e50
  refine (show SW Try.prog none (.seq (.region _ _ _) _) _ _ _ from ?_)
  refine SW.seqRun tok hO (by cbv <;> rfl) (by repeat (first | exact trivial | exact hin | refine ⟨?_, ?_⟩)) ?_
  refine OpsW.callP e20 (by cbv <;> rfl) ?_
  refine OpsW.run tok hO (by cbv <;> rfl) (by repeat (first | exact trivial | exact hin | refine ⟨?_, ?_⟩)) ?_
  refine OpsW.callP e27 (by cbv <;> rfl) ?_
  refine OpsW.run tok hO (by cbv <;> rfl) (by repeat (first | exact trivial | exact hin | refine ⟨?_, ?_⟩)) ?_
  refine SW.seqRun tok hO (by cbv <;> rfl) (by repeat (first | exact trivial | exact hin | refine ⟨?_, ?_⟩)) ?_
  refine OpsW.callP e20 (by cbv <;> rfl) ?_
  refine OpsW.run tok hO (by cbv <;> rfl) (by repeat (first | exact trivial | exact hin | refine ⟨?_, ?_⟩)) ?_
  refine OpsW.callP e28 (by cbv <;> rfl) ?_
  refine OpsW.run tok hO (by cbv <;> rfl) (by repeat (first | exact trivial | exact hin | refine ⟨?_, ?_⟩)) ?_
  refine SW.seqRun tok hO (by cbv <;> rfl) (by repeat (first | exact trivial | exact hin | refine ⟨?_, ?_⟩)) ?_
  refine OpsW.callP e20 (by cbv <;> rfl) ?_
  refine OpsW.run tok hO (by cbv <;> rfl) (by repeat (first | exact trivial | exact hin | refine ⟨?_, ?_⟩)) ?_
  refine OpsW.callP e41 (by cbv <;> rfl) ?_
  refine OpsW.run tok hO (by cbv <;> rfl) (by repeat (first | exact trivial | exact hin | refine ⟨?_, ?_⟩)) ?_
  refine SW.seqRun tok hO (by cbv <;> rfl) (by repeat (first | exact trivial | exact hin | refine ⟨?_, ?_⟩)) ?_
  refine OpsW.callP e49 (by cbv <;> rfl) ?_
  refine OpsW.run tok hO (by cbv <;> rfl) (by repeat (first | exact trivial | exact hin | refine ⟨?_, ?_⟩)) ?_
  refine SW.seqRun tok hO (by cbv <;> rfl) (by repeat (first | exact trivial | exact hin | refine ⟨?_, ?_⟩)) ?_
  refine OpsW.splitG (by cbv <;> rfl) (fun hw1 => ?_) (fun hw1 => by first | (cases hw1; done) | (subst hO; simp [std] at hw1; done) | (subst hO; simp [std] at hw1; omega))
  refine OpsW.run tok hO (by cbv <;> rfl) (by repeat (first | exact trivial | exact hin | refine ⟨?_, ?_⟩)) ?_
  refine OpsW.splitG (by cbv <;> rfl) (fun hw2 => ?_) (fun hw2 => by first | (cases hw2; done) | (subst hO; simp [std] at hw2; done) | (subst hO; simp [std] at hw2; omega))
  refine OpsW.run tok hO (by cbv <;> rfl) (by repeat (first | exact trivial | exact hin | refine ⟨?_, ?_⟩)) ?_
  refine OpsW.splitG (by cbv <;> rfl) (fun hw3 => ?_) (fun hw3 => by first | (cases hw3; done) | (subst hO; simp [std] at hw3; done) | (subst hO; simp [std] at hw3; omega))
  refine OpsW.run tok hO (by cbv <;> rfl) (by repeat (first | exact trivial | exact hin | refine ⟨?_, ?_⟩)) ?_
  refine OpsW.splitG (by cbv <;> rfl) (fun hw4 => ?_) (fun hw4 => by first | (cases hw4; done) | (subst hO; simp [std] at hw4; done) | (subst hO; simp [std] at hw4; omega))
  refine OpsW.run tok hO (by cbv <;> rfl) (by repeat (first | exact trivial | exact hin | refine ⟨?_, ?_⟩)) ?_
  refine OpsW.callP e50 (by cbv <;> rfl) ?_
  refine OpsW.run tok hO (by cbv <;> rfl) (by repeat (first | exact trivial | exact hin | refine ⟨?_, ?_⟩)) ?_
  refine OpsW.splitG (by cbv <;> rfl) (fun hw5 => ?_) (fun hw5 => by first | (cases hw5; done) | (subst hO; simp [std] at hw5; done) | (subst hO; simp [std] at hw5; omega))
  refine OpsW.run tok hO (by cbv <;> rfl) (by repeat (first | exact trivial | exact hin | refine ⟨?_, ?_⟩)) ?_
  refine OpsW.splitG (by cbv <;> rfl) (fun hw6 => by first | (cases hw6; done) | (subst hO; simp [std] at hw6; done) | (subst hO; simp [std] at hw6; omega)) (fun hw6 => ?_)
  refine OpsW.run tok hO (by cbv <;> rfl) (by repeat (first | exact trivial | exact hin | refine ⟨?_, ?_⟩)) ?_
  refine OpsW.splitG (by cbv <;> rfl) (fun hw7 => ?_) (fun hw7 => by first | (cases hw7; done) | (subst hO; simp [std] at hw7; done) | (subst hO; simp [std] at hw7; omega))
  refine OpsW.run tok hO (by cbv <;> rfl) (by repeat (first | exact trivial | exact hin | refine ⟨?_, ?_⟩)) ?_
  refine OpsW.splitG (by cbv <;> rfl) (fun hw8 => ?_) (fun hw8 => by first | (cases hw8; done) | (subst hO; simp [std] at hw8; done) | (subst hO; simp [std] at hw8; omega))
  refine OpsW.run tok hO (by cbv <;> rfl) (by repeat (first | exact trivial | exact hin | refine ⟨?_, ?_⟩)) ?_
  refine OpsW.callP e29 (by cbv <;> rfl) ?_
  refine OpsW.run tok hO (by cbv <;> rfl) (by repeat (first | exact trivial | exact hin | refine ⟨?_, ?_⟩)) ?_
  refine OpsW.splitG (by cbv <;> rfl) (fun hw9 => ?_) (fun hw9 => by first | (cases hw9; done) | (subst hO; simp [std] at hw9; done) | (subst hO; simp [std] at hw9; omega))
  refine OpsW.run tok hO (by cbv <;> rfl) (by repeat (first | exact trivial | exact hin | refine ⟨?_, ?_⟩)) ?_
  refine OpsW.callP haw (by cbv <;> rfl) ?_
  refine OpsW.run tok hO (by cbv <;> rfl) (by repeat (first | exact trivial | exact hin | refine ⟨?_, ?_⟩)) ?_
  exact SW.ret ⟨_, _, rfl, rfl, Eqv.of rfl⟩
set_option maxHeartbeats 8000000 in
theorem tr_endn (haw : Pure Try.prog 18 [] (.lit (.bool true))) (y : YardD) (g : Nat → Int) (k : Nat) (hk : k < y.nb) (w : Int) (IE : Bool) (WV : AV) (lf : Nat → Int) (e20 : Pure Try.prog 20 [yardV y] (yardV y)) (e27 : Pure Try.prog 27 [yardV y, iV (Int.ofNat k)] (.tup [WV, iV 0])) (e28 : Pure Try.prog 28 [yardV y, iV (Int.ofNat k), iV w] (.tup [iV 2, iV 0])) (e41 : Pure Try.prog 41 [yardV y] (.tup [intsV 0 false lf, iV 0])) (e49 : Pure Try.prog 49 [yardV y, intsV y.nb false g, iV (Int.ofNat k), iV w] (.sb false)) (e50 : Pure Try.prog 50 [WV, iV (g k)] (.sb true)) (e29 : Pure Try.prog 29 [iV 2, iV 1, iV 3] (.sb true))
    (gg : Nat → AV) (h : AllP (fun p => gg p.1 = p.2) [(4, .ptr 0 0), (9, intsV y.nb false g), (15, iV (Int.ofNat k)), (16, iV w)]) :
    SW Try.prog none (restC 11 (bodyF Try.f7)) (trueQ3 Try.f7) ⟨⟨201, gg⟩, []⟩ ⟨[(0, .cells none false (yardC y))], 1⟩ := by
  obtain ⟨O, hO⟩ : ∃ O : Ar, O = std := ⟨_, rfl⟩
  obtain ⟨g1, g2, g3, g4, _⟩ := h
  simp only at g1 g2 g3 g4
  rw [← updT_self g1, ← updT_self g2, ← updT_self g3, ← updT_self g4]
  have hnk : O.nat (Int.ofNat k) = k := by subst hO; rfl
  have hin : (0 : Int) ≤ Int.ofNat k ∧ Int.ofNat k < Int.ofNat y.nb := ⟨Int.natCast_nonneg k, Int.ofNat_lt.2 hk⟩
  rw [← hnk] at e50
  refine (show SW Try.prog none (.seq (.region _ _ _) _) _ _ _ from ?_)
  refine SW.seqRun tok hO (by cbv <;> rfl) (by repeat (first | exact trivial | exact hin | refine ⟨?_, ?_⟩)) ?_
  refine OpsW.callP e20 (by cbv <;> rfl) ?_
  refine OpsW.run tok hO (by cbv <;> rfl) (by repeat (first | exact trivial | exact hin | refine ⟨?_, ?_⟩)) ?_
  refine OpsW.callP e27 (by cbv <;> rfl) ?_
  refine OpsW.run tok hO (by cbv <;> rfl) (by repeat (first | exact trivial | exact hin | refine ⟨?_, ?_⟩)) ?_
  refine SW.seqRun tok hO (by cbv <;> rfl) (by repeat (first | exact trivial | exact hin | refine ⟨?_, ?_⟩)) ?_
  refine OpsW.callP e20 (by cbv <;> rfl) ?_
  refine OpsW.run tok hO (by cbv <;> rfl) (by repeat (first | exact trivial | exact hin | refine ⟨?_, ?_⟩)) ?_
  refine OpsW.callP e28 (by cbv <;> rfl) ?_
  refine OpsW.run tok hO (by cbv <;> rfl) (by repeat (first | exact trivial | exact hin | refine ⟨?_, ?_⟩)) ?_
  refine SW.seqRun tok hO (by cbv <;> rfl) (by repeat (first | exact trivial | exact hin | refine ⟨?_, ?_⟩)) ?_
  refine OpsW.callP e20 (by cbv <;> rfl) ?_
  refine OpsW.run tok hO (by cbv <;> rfl) (by repeat (first | exact trivial | exact hin | refine ⟨?_, ?_⟩)) ?_
  refine OpsW.callP e41 (by cbv <;> rfl) ?_
  refine OpsW.run tok hO (by cbv <;> rfl) (by repeat (first | exact trivial | exact hin | refine ⟨?_, ?_⟩)) ?_
  refine SW.seqRun tok hO (by cbv <;> rfl) (by repeat (first | exact trivial | exact hin | refine ⟨?_, ?_⟩)) ?_
  refine OpsW.callP e49 (by cbv <;> rfl) ?_
  refine OpsW.run tok hO (by cbv <;> rfl) (by repeat (first | exact trivial | exact hin | refine ⟨?_, ?_⟩)) ?_
  refine SW.seqRun tok hO (by cbv <;> rfl) (by repeat (first | exact trivial | exact hin | refine ⟨?_, ?_⟩)) ?_
  refine OpsW.splitG (by cbv <;> rfl) (fun hw1 => ?_) (fun hw1 => by first | (cases hw1; done) | (subst hO; simp [std] at hw1; done) | (subst hO; simp [std] at hw1; omega))
  refine OpsW.run tok hO (by cbv <;> rfl) (by repeat (first | exact trivial | exact hin | refine ⟨?_, ?_⟩)) ?_
  refine OpsW.splitG (by cbv <;> rfl) (fun hw2 => ?_) (fun hw2 => by first | (cases hw2; done) | (subst hO; simp [std] at hw2; done) | (subst hO; simp [std] at hw2; omega))
  refine OpsW.run tok hO (by cbv <;> rfl) (by repeat (first | exact trivial | exact hin | refine ⟨?_, ?_⟩)) ?_
  refine OpsW.splitG (by cbv <;> rfl) (fun hw3 => ?_) (fun hw3 => by first | (cases hw3; done) | (subst hO; simp [std] at hw3; done) | (subst hO; simp [std] at hw3; omega))
  refine OpsW.run tok hO (by cbv <;> rfl) (by repeat (first | exact trivial | exact hin | refine ⟨?_, ?_⟩)) ?_
  refine OpsW.splitG (by cbv <;> rfl) (fun hw4 => ?_) (fun hw4 => by first | (cases hw4; done) | (subst hO; simp [std] at hw4; done) | (subst hO; simp [std] at hw4; omega))
  refine OpsW.run tok hO (by cbv <;> rfl) (by repeat (first | exact trivial | exact hin | refine ⟨?_, ?_⟩)) ?_
  refine OpsW.callP e50 (by cbv <;> rfl) ?_
  refine OpsW.run tok hO (by cbv <;> rfl) (by repeat (first | exact trivial | exact hin | refine ⟨?_, ?_⟩)) ?_
  refine OpsW.splitG (by cbv <;> rfl) (fun hw5 => ?_) (fun hw5 => by first | (cases hw5; done) | (subst hO; simp [std] at hw5; done) | (subst hO; simp [std] at hw5; omega))
  refine OpsW.run tok hO (by cbv <;> rfl) (by repeat (first | exact trivial | exact hin | refine ⟨?_, ?_⟩)) ?_
  refine OpsW.splitG (by cbv <;> rfl) (fun hw6 => ?_) (fun hw6 => by first | (cases hw6; done) | (subst hO; simp [std] at hw6; done) | (subst hO; simp [std] at hw6; omega))
  refine OpsW.run tok hO (by cbv <;> rfl) (by repeat (first | exact trivial | exact hin | refine ⟨?_, ?_⟩)) ?_
  refine OpsW.splitG (by cbv <;> rfl) (fun hw7 => by first | (cases hw7; done) | (subst hO; simp [std] at hw7; done) | (subst hO; simp [std] at hw7; omega)) (fun hw7 => ?_)
  refine OpsW.run tok hO (by cbv <;> rfl) (by repeat (first | exact trivial | exact hin | refine ⟨?_, ?_⟩)) ?_
  refine OpsW.splitG (by cbv <;> rfl) (fun hw8 => ?_) (fun hw8 => by first | (cases hw8; done) | (subst hO; simp [std] at hw8; done) | (subst hO; simp [std] at hw8; omega))
  refine OpsW.run tok hO (by cbv <;> rfl) (by repeat (first | exact trivial | exact hin | refine ⟨?_, ?_⟩)) ?_
  refine OpsW.callP e29 (by cbv <;> rfl) ?_
  refine OpsW.run tok hO (by cbv <;> rfl) (by repeat (first | exact trivial | exact hin | refine ⟨?_, ?_⟩)) ?_
  refine OpsW.splitG (by cbv <;> rfl) (fun hw9 => ?_) (fun hw9 => by first | (cases hw9; done) | (subst hO; simp [std] at hw9; done) | (subst hO; simp [std] at hw9; omega))
  refine OpsW.run tok hO (by cbv <;> rfl) (by repeat (first | exact trivial | exact hin | refine ⟨?_, ?_⟩)) ?_
  refine OpsW.callP haw (by cbv <;> rfl) ?_
  refine OpsW.run tok hO (by cbv <;> rfl) (by repeat (first | exact trivial | exact hin | refine ⟨?_, ?_⟩)) ?_
  exact SW.ret ⟨_, _, rfl, rfl, Eqv.of rfl⟩
set_option maxHeartbeats 8000000 in
theorem tr_ends (haw : Pure Try.prog 18 [] (.lit (.bool true))) (y : YardD) (g : Nat → Int) (k : Nat) (hk : k < y.nb) (w : Int) (IE : Bool) (WV : AV) (lf : Nat → Int) (e20 : Pure Try.prog 20 [yardV y] (yardV y)) (e27 : Pure Try.prog 27 [yardV y, iV (Int.ofNat k)] (.tup [WV, iV 0])) (e28 : Pure Try.prog 28 [yardV y, iV (Int.ofNat k), iV w] (.tup [iV 3, iV 0])) (e41 : Pure Try.prog 41 [yardV y] (.tup [intsV 0 false lf, iV 0])) (e49 : Pure Try.prog 49 [yardV y, intsV y.nb false g, iV (Int.ofNat k), iV w] (.sb IE)) (e50 : Pure Try.prog 50 [WV, iV (g k)] (.sb true)) (e29 : Pure Try.prog 29 [iV 3, iV 1, iV 3] (.sb true))
    (gg : Nat → AV) (h : AllP (fun p => gg p.1 = p.2) [(4, .ptr 0 0), (9, intsV y.nb false g), (15, iV (Int.ofNat k)), (16, iV w)]) :
    SW Try.prog none (restC 11 (bodyF Try.f7)) (trueQ3 Try.f7) ⟨⟨201, gg⟩, []⟩ ⟨[(0, .cells none false (yardC y))], 1⟩ := by
  obtain ⟨O, hO⟩ : ∃ O : Ar, O = std := ⟨_, rfl⟩
  obtain ⟨g1, g2, g3, g4, _⟩ := h
  simp only at g1 g2 g3 g4
  rw [← updT_self g1, ← updT_self g2, ← updT_self g3, ← updT_self g4]
  have hnk : O.nat (Int.ofNat k) = k := by subst hO; rfl
  have hin : (0 : Int) ≤ Int.ofNat k ∧ Int.ofNat k < Int.ofNat y.nb := ⟨Int.natCast_nonneg k, Int.ofNat_lt.2 hk⟩
  rw [← hnk] at e50
  refine (show SW Try.prog none (.seq (.region _ _ _) _) _ _ _ from ?_)
  refine SW.seqRun tok hO (by cbv <;> rfl) (by repeat (first | exact trivial | exact hin | refine ⟨?_, ?_⟩)) ?_
  refine OpsW.callP e20 (by cbv <;> rfl) ?_
  refine OpsW.run tok hO (by cbv <;> rfl) (by repeat (first | exact trivial | exact hin | refine ⟨?_, ?_⟩)) ?_
  refine OpsW.callP e27 (by cbv <;> rfl) ?_
  refine OpsW.run tok hO (by cbv <;> rfl) (by repeat (first | exact trivial | exact hin | refine ⟨?_, ?_⟩)) ?_
  refine SW.seqRun tok hO (by cbv <;> rfl) (by repeat (first | exact trivial | exact hin | refine ⟨?_, ?_⟩)) ?_
  refine OpsW.callP e20 (by cbv <;> rfl) ?_
  refine OpsW.run tok hO (by cbv <;> rfl) (by repeat (first | exact trivial | exact hin | refine ⟨?_, ?_⟩)) ?_
  refine OpsW.callP e28 (by cbv <;> rfl) ?_
  refine OpsW.run tok hO (by cbv <;> rfl) (by repeat (first | exact trivial | exact hin | refine ⟨?_, ?_⟩)) ?_
  refine SW.seqRun tok hO (by cbv <;> rfl) (by repeat (first | exact trivial | exact hin | refine ⟨?_, ?_⟩)) ?_
  refine OpsW.callP e20 (by cbv <;> rfl) ?_
  refine OpsW.run tok hO (by cbv <;> rfl) (by repeat (first | exact trivial | exact hin | refine ⟨?_, ?_⟩)) ?_
  refine OpsW.callP e41 (by cbv <;> rfl) ?_
  refine OpsW.run tok hO (by cbv <;> rfl) (by repeat (first | exact trivial | exact hin | refine ⟨?_, ?_⟩)) ?_
  refine SW.seqRun tok hO (by cbv <;> rfl) (by repeat (first | exact trivial | exact hin | refine ⟨?_, ?_⟩)) ?_
  refine OpsW.callP e49 (by cbv <;> rfl) ?_
  refine OpsW.run tok hO (by cbv <;> rfl) (by repeat (first | exact trivial | exact hin | refine ⟨?_, ?_⟩)) ?_
  refine SW.seqRun tok hO (by cbv <;> rfl) (by repeat (first | exact trivial | exact hin | refine ⟨?_, ?_⟩)) ?_
  refine OpsW.splitG (by cbv <;> rfl) (fun hw1 => ?_) (fun hw1 => by first | (cases hw1; done) | (subst hO; simp [std] at hw1; done) | (subst hO; simp [std] at hw1; omega))
  refine OpsW.run tok hO (by cbv <;> rfl) (by repeat (first | exact trivial | exact hin | refine ⟨?_, ?_⟩)) ?_
  refine OpsW.splitG (by cbv <;> rfl) (fun hw2 => ?_) (fun hw2 => by first | (cases hw2; done) | (subst hO; simp [std] at hw2; done) | (subst hO; simp [std] at hw2; omega))
  refine OpsW.run tok hO (by cbv <;> rfl) (by repeat (first | exact trivial | exact hin | refine ⟨?_, ?_⟩)) ?_
  refine OpsW.splitG (by cbv <;> rfl) (fun hw3 => ?_) (fun hw3 => by first | (cases hw3; done) | (subst hO; simp [std] at hw3; done) | (subst hO; simp [std] at hw3; omega))
  refine OpsW.run tok hO (by cbv <;> rfl) (by repeat (first | exact trivial | exact hin | refine ⟨?_, ?_⟩)) ?_
  refine OpsW.splitG (by cbv <;> rfl) (fun hw4 => ?_) (fun hw4 => by first | (cases hw4; done) | (subst hO; simp [std] at hw4; done) | (subst hO; simp [std] at hw4; omega))
  refine OpsW.run tok hO (by cbv <;> rfl) (by repeat (first | exact trivial | exact hin | refine ⟨?_, ?_⟩)) ?_
  refine OpsW.callP e50 (by cbv <;> rfl) ?_
  refine OpsW.run tok hO (by cbv <;> rfl) (by repeat (first | exact trivial | exact hin | refine ⟨?_, ?_⟩)) ?_
  refine OpsW.splitG (by cbv <;> rfl) (fun hw5 => ?_) (fun hw5 => by first | (cases hw5; done) | (subst hO; simp [std] at hw5; done) | (subst hO; simp [std] at hw5; omega))
  refine OpsW.run tok hO (by cbv <;> rfl) (by repeat (first | exact trivial | exact hin | refine ⟨?_, ?_⟩)) ?_
  refine OpsW.splitG (by cbv <;> rfl) (fun hw6 => ?_) (fun hw6 => by first | (cases hw6; done) | (subst hO; simp [std] at hw6; done) | (subst hO; simp [std] at hw6; omega))
  refine OpsW.run tok hO (by cbv <;> rfl) (by repeat (first | exact trivial | exact hin | refine ⟨?_, ?_⟩)) ?_
  refine OpsW.splitG (by cbv <;> rfl) (fun hw7 => ?_) (fun hw7 => by first | (cases hw7; done) | (subst hO; simp [std] at hw7; done) | (subst hO; simp [std] at hw7; omega))
  refine OpsW.run tok hO (by cbv <;> rfl) (by repeat (first | exact trivial | exact hin | refine ⟨?_, ?_⟩)) ?_
  refine OpsW.callP e29 (by cbv <;> rfl) ?_
  refine OpsW.run tok hO (by cbv <;> rfl) (by repeat (first | exact trivial | exact hin | refine ⟨?_, ?_⟩)) ?_
  refine OpsW.splitG (by cbv <;> rfl) (fun hw8 => ?_) (fun hw8 => by first | (cases hw8; done) | (subst hO; simp [std] at hw8; done) | (subst hO; simp [std] at hw8; omega))
  refine OpsW.run tok hO (by cbv <;> rfl) (by repeat (first | exact trivial | exact hin | refine ⟨?_, ?_⟩)) ?_
  refine OpsW.callP haw (by cbv <;> rfl) ?_
  refine OpsW.run tok hO (by cbv <;> rfl) (by repeat (first | exact trivial | exact hin | refine ⟨?_, ?_⟩)) ?_
  exact SW.ret ⟨_, _, rfl, rfl, Eqv.of rfl⟩
end Go.Fz
set_option linter.unusedVariables false
set_option linter.unusedSimpArgs false
namespace Go.Fz
open Go.Proofs
set_option maxRecDepth 100000
end Go.Fz
set_option linter.unusedVariables false
namespace Go.Fz
open Go.Proofs
set_option maxRecDepth 100000
def YardD.isS (y : YardD) (n : Nat) (f : Nat → Int) : Bool := decide (n = y.nb) && (allN y.nb (fun i => inB (f i) (y.blo i) (y.bhi i)) && (y.fitB f && decide (y.rm f y.nc = allI y.nc)))
set_option maxHeartbeats 16000000 in
theorem isSch_ok {y : YardD} (hc : y.check = 0) (n : Nat) (ex : Bool) (f : Nat → Int) (hn1 : n < 1000) : Pure Try.prog 25 [yardV y, intsV n ex f] (.sb (y.isS n f)) := by
  obtain ⟨O, hO⟩ : ∃ O : Ar, O = std := ⟨_, rfl⟩
  have hnat : ∀ i : Nat, O.nat (Int.ofNat i) = i := fun i => by subst hO; rfl
  obtain ⟨hf, _, l9, _, _, h5, hcl⟩ := y.fit_of_check hc
  have hn := hf.nb
  have e67 := fits_ok y l9 (by omega) ex f
  have e68 := right_ok y y.nb ex f (by omega) fun i hi => (hcl i hi).1
  have e55 := full55_ok y (by omega)
  have hq : y.isS n f = (decide (n = y.nb) && (allN y.nb (fun i => inB (f i) (y.blo i) (y.bhi i)) && (y.fitB f && decide (y.rm f y.nc = allI y.nc)))) := rfl
  have h1 : ¬ n = y.nb → y.isS n f = false := fun h => by rw [hq, decide_eq_false h]; rfl
  have h2 : ∀ i, i < y.nb → inB (f i) (y.blo i) (y.bhi i) = false → y.isS n f = false := fun i hi h => by
    have : allN y.nb (fun i => inB (f i) (y.blo i) (y.bhi i)) = false := decide_eq_false fun hq => by
      have := hq i hi
      simp only [h] at this
      cases this
    rw [hq, this, Bool.false_and, Bool.and_false]
  have h3 : n = y.nb → (∀ i, i < y.nb → inB (f i) (y.blo i) (y.bhi i) = true) → y.isS n f = (y.fitB f && decide (y.rm f y.nc = allI y.nc)) := fun h h' => by
    rw [hq, decide_eq_true h, show allN y.nb (fun i => inB (f i) (y.blo i) (y.bhi i)) = true from decide_eq_true h']
    rfl
  generalize y.isS n f = Q at h1 h2 h3 ⊢
  generalize y.fitB f = FB at e67 h3
  generalize y.rm f y.nc = RM at e68 h3
  generalize allI y.nc = AN at e55 h3
  clear hq
  refine pure_of_body tok 3 Try.func25 en25 rfl ⟨yardV_below y, intsV_below _ _ _, trivial⟩ Below.sb ?_
  refine SW.seqRun tok hO (by cbv <;> rfl) (by trivial) ?_
  refine SW.seq ?_
  refine SW.seqRun tok hO (by cbv <;> rfl) (by trivial) ?_
  refine SW.condS (by cbv <;> rfl) (fun h => ?_) (fun h => SW.skip ?_)
  · have hne : ¬ n = y.nb := by
      have : ¬ (n : Int) = (y.nb : Int) := by subst hO; simpa [std] using h
      omega
    refine SW.seqRun tok hO (by cbv <;> rfl) (by trivial) ?_
    exact SW.ret ⟨_, _, rfl, rfl, Eqv.bool (h1 hne).symm⟩
  have hne : n = y.nb := by
    have : (n : Int) = (y.nb : Int) := by subst hO; simpa [std] using h
    omega
  have h3 := h3 hne
  clear h1
  refine SW.seq ?_
  refine SW.seqRun tok hO (by cbv <;> rfl) (by trivial) ?_
  refine (SW.block (SW.loopF (fun i : Nat => ⟨⟨49, getT [(1, intsV n ex f), (2, .ptr 0 0), (5, iV i)]⟩, []⟩) (fun _ => ⟨[(0, .cells none false (yardC y))], 1⟩) (fun i => n - i) (fun i => i ≤ n ∧ ∀ j, j < i → inB (f j) (y.blo j) (y.bhi j) = true) 0
    (fun _ => rfl) ⟨Nat.zero_le _, fun j hj => absurd hj (Nat.not_lt_zero _)⟩ (Weak.by rfl rfl (by simp) (Nat.le_refl _) (Nat.le_refl _) ⟨⟨rfl, .inl rfl⟩, ⟨rfl, .inl rfl⟩, ⟨rfl, .inl rfl⟩, trivial⟩ ⟨⟨rfl, by omega, .inl rfl⟩, trivial⟩) fun i hi => ?_))
  obtain ⟨hi, hall⟩ := hi
  refine SW.seq ?_
  refine SW.seqRun tok hO (by cbv <;> rfl) (by trivial) ?_
  refine SW.condS (by cbv <;> rfl) (fun h => SW.skip ?_) (fun h => SW.exit ?_)
  · have hlt : i < n := by
      have : (i : Int) < (n : Int) := by subst hO; simpa [std] using h
      omega
    have hin : (0 : Int) ≤ Int.ofNat i ∧ Int.ofNat i < Int.ofNat n := ⟨Int.natCast_nonneg i, Int.ofNat_lt.2 hlt⟩
    have hib : (0 : Int) ≤ Int.ofNat i ∧ Int.ofNat i < Int.ofNat y.nb := ⟨Int.natCast_nonneg i, Int.ofNat_lt.2 (by omega)⟩
    have hni := hnat i
    have e29 : Pure Try.prog 29 [iV (f (O.nat (Int.ofNat i))), iV (y.blo (O.nat (Int.ofNat i))), iV (y.bhi (O.nat (Int.ofNat i)))] (.sb (inB (f i) (y.blo i) (y.bhi i))) := by rw [hni]; exact in_ok _ _ _
    have h2 := h2 i (by omega)
    obtain ⟨B, hB⟩ : ∃ B, inB (f i) (y.blo i) (y.bhi i) = B := ⟨_, rfl⟩
    rw [hB] at e29 h2
    refine SW.seq (SW.block ?_)
    refine SW.seqRunD tok mixed hO (by kernel_rfl) (by cbv <;> rfl) (by repeat (first | exact trivial | exact hin | exact hib | refine ⟨?_, ?_⟩)) ?_
    refine AnyE.callP e29 (by cbv <;> rfl) (by cbv <;> rfl) ?_
    refine AnyE.dec tok hO (by kernel_rfl) (by cbv <;> rfl) (by trivial) (fun h4 => ?_) (fun h4 => ?_)
    · have hBf : B = false := by subst hO; simpa [std] using h4
      refine AnyE.done (by kernel_rfl) ?_
      refine SW.cond (t := true) (by cbv <;> rfl) ?_
      refine SW.seqRun tok hO (by cbv <;> rfl) (by trivial) ?_
      exact SW.ret ⟨_, _, rfl, rfl, Eqv.bool (h2 hBf).symm⟩
    · have hBt : B = true := by subst hO; simpa [std] using h4
      refine AnyE.done (by kernel_rfl) ?_
      refine SW.cond (t := false) (by cbv <;> rfl) (SW.skip ?_)
      refine SW.run tok hO (by cbv <;> rfl) (by trivial) ?_
      refine ⟨i + 1, by omega, ⟨by omega, fun j hj => ?_⟩, Weak.by rfl rfl (by simp) (Nat.le_refl _) (Nat.le_refl _) ⟨⟨rfl, .inl rfl⟩, ⟨rfl, .inl rfl⟩, ⟨inc_ok hO (by omega), .inl rfl⟩, trivial⟩ ⟨⟨rfl, by omega, .inl rfl⟩, trivial⟩⟩
      by_cases e : j = i
      · rw [e]; exact hB.trans hBt
      · exact hall j (by omega)
  have hie : i = n := by
    have : (n : Int) ≤ (i : Int) := by subst hO; simpa [std] using h
    omega
  have h3 := h3 fun j hj => hall j (by omega)
  rw [← hne] at e67 e68
  refine SW.seqRunD tok mixed hO (by kernel_rfl) (by cbv <;> rfl) (by trivial) ?_
  refine AnyE.callP e67 (by cbv <;> rfl) (by cbv <;> rfl) ?_
  refine AnyE.dec tok hO (by kernel_rfl) (by cbv <;> rfl) (by trivial) (fun h4 => ?_) (fun h4 => ?_)
  · have hF : FB = true := h4
    rw [hF, Bool.true_and] at h3
    refine AnyE.run tok hO (by kernel_rfl) (by cbv <;> rfl) (by trivial) ?_
    refine AnyE.callP e68 (by cbv <;> rfl) (by cbv <;> rfl) ?_
    refine AnyE.callP e55 (by cbv <;> rfl) (by cbv <;> rfl) ?_
    refine AnyE.dec tok hO (by kernel_rfl) (by cbv <;> rfl) (by trivial) (fun h6 => ?_) (fun h6 => ?_)
    · have hr : RM = AN := by subst hO; simpa [std] using h6
      refine AnyE.run tok hO (by kernel_rfl) (by cbv <;> rfl) (by trivial) ?_
      exact SW.ret ⟨_, _, rfl, rfl, Eqv.bool (by rw [h3, decide_eq_true hr])⟩
    · have hr : ¬ RM = AN := by subst hO; simpa [std] using h6
      refine AnyE.run tok hO (by kernel_rfl) (by cbv <;> rfl) (by trivial) ?_
      exact SW.ret ⟨_, _, rfl, rfl, Eqv.bool (by rw [h3, decide_eq_false hr])⟩
  · have hF : FB = false := h4
    rw [hF, Bool.false_and] at h3
    refine AnyE.run tok hO (by kernel_rfl) (by cbv <;> rfl) (by trivial) ?_
    exact SW.ret ⟨_, _, rfl, rfl, Eqv.bool h3.symm⟩
end Go.Fz
set_option linter.unusedVariables false
namespace Go.Fz
open Go.Proofs
set_option maxRecDepth 100000
theorem sel_full {nb : Nat} (hn : nb ≤ 6) : selL (allI nb) nb = List.range nb := by
  obtain ⟨a1, a2, a3, _⟩ := all6_fin ⟨nb, by omega⟩
  rw [selL_nb hn a2 a3]; exact a1
theorem bit_full {nb i : Nat} (hn : nb ≤ 6) (hi : i < nb) : bitB (allI nb) i = true := allI_bit ⟨nb, by omega⟩ ⟨i, by omega⟩ hi
theorem rgt_congr {y : YardD} (hcb : ∀ i, i < y.nc → 0 ≤ y.cb i ∧ y.cb i < y.nb) {f g : Nat → Int} (h : ∀ i, i < y.nb → f i = g i) {p : Nat} (hp : p < y.nc) : y.rgt f p = y.rgt g p := by
  have := hcb p hp
  unfold YardD.rgt
  rw [h _ (by omega)]
theorem or_bit : ∀ (n : Fin 5) (a : Fin 32), a.1 < 2 ^ n.1 → (0 ≤ std.bin .or .i64 (a.1 : Int) (std.bin .shl .i64 1 (std.conv .u64 (Int.ofNat n.1))) ∧ std.bin .or .i64 (a.1 : Int) (std.bin .shl .i64 1 (std.conv .u64 (Int.ofNat n.1))) < 2 ^ (n.1 + 1)) ∧ ∀ j : Fin 6, bitB (std.bin .or .i64 (a.1 : Int) (std.bin .shl .i64 1 (std.conv .u64 (Int.ofNat n.1)))) j.1 = (bitB (a.1 : Int) j.1 || decide (j.1 = n.1)) := by decide +kernel
theorem bit_zero0 : ∀ j : Fin 6, bitB (0 : Int) j.1 = false := by decide +kernel
theorem rm_bits (y : YardD) (f : Nat → Int) : ∀ n, n ≤ 5 → (0 ≤ y.rm f n ∧ y.rm f n < 2 ^ n) ∧ ∀ j, j < 6 → bitB (y.rm f n) j = (decide (j < n) && y.rgt f j)
  | 0, _ => by
    refine ⟨⟨Int.le_refl _, by show (0 : Int) < 1; omega⟩, fun j hj => ?_⟩
    have : bitB (0 : Int) j = false := bit_zero0 ⟨j, hj⟩
    show bitB (0 : Int) j = _
    rw [this, decide_eq_false (Nat.not_lt_zero j)]; rfl
  | n + 1, hn => by
    obtain ⟨⟨h1, h2⟩, h3⟩ := rm_bits y f n (by omega)
    have h32 : (2 : Int) ^ n ≤ 32 := by
      have : n = 0 ∨ n = 1 ∨ n = 2 ∨ n = 3 ∨ n = 4 := by omega
      rcases this with rfl | rfl | rfl | rfl | rfl <;> decide
    have h22 : (2 : Int) ^ n ≤ 2 ^ (n + 1) := by rw [Int.pow_succ]; omega
    have e : ((y.rm f n).toNat : Int) = y.rm f n := Int.toNat_of_nonneg h1
    have ho := or_bit ⟨n, by omega⟩ ⟨(y.rm f n).toNat, by omega⟩ (by
      have : ((y.rm f n).toNat : Int) < 2 ^ n := by rw [e]; exact h2
      exact_mod_cast this)
    simp only [e] at ho
    have hrm : y.rm f (n + 1) = if y.rgt f n = true then std.bin .or .i64 (y.rm f n) (std.bin .shl .i64 1 (std.conv .u64 (Int.ofNat n))) else y.rm f n := rfl
    rw [hrm]
    cases hr : y.rgt f n with
    | true =>
      rw [if_pos rfl]
      refine ⟨ho.1, fun j hj => ?_⟩
      have h4 : bitB (std.bin .or .i64 (y.rm f n) (std.bin .shl .i64 1 (std.conv .u64 (Int.ofNat n)))) j = (bitB (y.rm f n) j || decide (j = n)) := ho.2 ⟨j, hj⟩
      rw [h4, h3 j hj]
      by_cases ej : j = n
      · subst ej
        rw [decide_eq_true rfl, decide_eq_true (Nat.lt_succ_self j), hr]
        simp
      · rw [decide_eq_false ej, Bool.or_false]
        rw [decide_eq_decide.2 (show j < n ↔ j < n + 1 by omega)]
    | false =>
      rw [if_neg (by decide)]
      refine ⟨⟨h1, by omega⟩, fun j hj => ?_⟩
      rw [h3 j hj]
      by_cases ej : j = n
      · subst ej
        rw [hr, Bool.and_false, Bool.and_false]
      · rw [decide_eq_decide.2 (show j < n ↔ j < n + 1 by omega)]
theorem and_fin : ∀ (a c : Fin 64), (std.bin .and .i64 (a.1 : Int) (c.1 : Int) = (c.1 : Int)) ↔ ∀ j : Fin 6, bitB (c.1 : Int) j.1 = true → bitB (a.1 : Int) j.1 = true := by decide +kernel
theorem and_iff {a c : Int} (ha : 0 ≤ a ∧ a < 64) (hc : 0 ≤ c ∧ c < 64) : std.bin .and .i64 a c = c ↔ ∀ j, j < 6 → bitB c j = true → bitB a j = true := by
  have h := and_fin ⟨a.toNat, by omega⟩ ⟨c.toNat, by omega⟩
  have ea : (a.toNat : Int) = a := Int.toNat_of_nonneg ha.1
  have ec : (c.toNat : Int) = c := Int.toNat_of_nonneg hc.1
  simp only [ea, ec] at h
  rw [h]
  exact ⟨fun h j hj => h ⟨j, hj⟩, fun h j => h j.1 j.2⟩
theorem and_cfin : ∀ (a c : Fin 64), std.bin .and .i64 (a.1 : Int) (c.1 : Int) = std.bin .and .i64 (c.1 : Int) (a.1 : Int) := by decide +kernel
theorem and_comm64 (a c : Int) (ha : 0 ≤ a ∧ a < 64) (hc : 0 ≤ c ∧ c < 64) : std.bin .and .i64 a c = std.bin .and .i64 c a := by
  have h := and_cfin ⟨a.toNat, by omega⟩ ⟨c.toNat, by omega⟩
  have ea : (a.toNat : Int) = a := Int.toNat_of_nonneg ha.1
  have ec : (c.toNat : Int) = c := Int.toNat_of_nonneg hc.1
  simp only [ea, ec] at h
  exact h
theorem pow_le5 {n : Nat} (hn : n ≤ 5) : (2 : Int) ^ n ≤ 32 := by
  have : n = 0 ∨ n = 1 ∨ n = 2 ∨ n = 3 ∨ n = 4 ∨ n = 5 := by omega
  rcases this with rfl | rfl | rfl | rfl | rfl | rfl <;> decide
theorem all5_bits : ∀ (n p : Fin 6), bitB (allI n.1) p.1 = decide (p.1 < n.1) := by decide +kernel
theorem all5_rng : ∀ n : Fin 6, 0 ≤ allI n.1 ∧ allI n.1 < 64 := by decide +kernel
theorem isS_iff {y : YardD} (hc : y.check = 0) {n : Nat} {f : Nat → Int} : y.isS n f = true ↔ n = y.nb ∧ lessF y.nb f ∈ y.kept := by
  obtain ⟨hfit, _, _, hh, _, h5, hcl⟩ := y.fit_of_check hc
  have hrm : y.rm f y.nc = allI y.nc ↔ ∀ p, p < y.nc → y.rgt f p = true := by
    obtain ⟨⟨r1, r2⟩, r3⟩ := rm_bits y f y.nc h5
    have h32 := pow_le5 h5
    obtain ⟨q1, q2⟩ := all5_rng ⟨y.nc, by omega⟩
    have hb : ∀ p, p < 6 → bitB (allI y.nc) p = decide (p < y.nc) := fun p hp => all5_bits ⟨y.nc, by omega⟩ ⟨p, hp⟩
    constructor
    · intro h p hp
      have := r3 p (by omega)
      rw [h, hb p (by omega), decide_eq_true hp, Bool.true_and] at this
      exact this.symm
    · intro h
      have hl := (all6_fin ⟨y.nc, by omega⟩).2.2.2
      have hand := (and_iff (a := y.rm f y.nc) (c := allI y.nc) ⟨r1, by omega⟩ ⟨q1, q2⟩).2 fun p hp hq => by
        rw [hb p hp] at hq
        rw [r3 p hp, hq, h p (of_decide_eq_true hq)]; rfl
      have hand2 := (and_iff (a := allI y.nc) (c := y.rm f y.nc) ⟨q1, q2⟩ ⟨r1, by omega⟩).2 fun p hp hq => by
        rw [r3 p hp, Bool.and_eq_true] at hq
        rw [hb p hp]; exact hq.1
      have hcm := and_comm64 (y.rm f y.nc) (allI y.nc) ⟨r1, by omega⟩ ⟨q1, q2⟩
      rw [← hand2, ← hcm, hand]
  have hin : allN y.nb (fun i => inB (f i) (y.blo i) (y.bhi i)) = true ↔ ∀ i, i < y.nb → y.blo i ≤ f i ∧ f i ≤ y.bhi i := by
    unfold allN inB
    simp only [decide_eq_true_eq, Bool.and_eq_true]
  unfold YardD.isS
  rw [Bool.and_eq_true, Bool.and_eq_true, Bool.and_eq_true, decide_eq_true_eq, decide_eq_true_eq, hrm, hin]
  have hof : (∀ i, i < y.nb → y.blo i ≤ f i ∧ f i ≤ y.bhi i) → y.ofL (allI y.nb) f := fun h => ⟨fun i hi _ => h i hi, fun i hi hb => by rw [bit_full hfit.nb hi] at hb; cases hb⟩
  constructor
  · rintro ⟨h1, h2, h3, h4⟩
    have hs := (fit_sch hfit (by omega) (hof h2)).1 h3
    rw [sel_full hfit.nb] at hs
    refine ⟨h1, mem_kept.2 ⟨mem_allS.2 ⟨fun b hb => if_neg fun hl => hb (List.mem_range.2 hl), sch_congr (fun i hi => (lessF_lt (List.mem_range.1 hi)).symm) hs⟩, fun p hp => ?_⟩⟩
    rw [rgt_congr (fun i hi => (hcl i hi).1) (fun i hi => lessF_lt hi) hp]
    exact h4 p hp
  · rintro ⟨h1, h2⟩
    obtain ⟨k1, k2⟩ := mem_kept.1 h2
    have hs := (mem_allS.1 k1).2
    have hs2 := sch_congr (fun i hi => lessF_lt (f := f) (List.mem_range.1 hi)) hs
    have hr : ∀ i, i < y.nb → y.blo i ≤ f i ∧ f i ≤ y.bhi i := fun i hi => hs2.rng i (List.mem_range.2 hi)
    refine ⟨h1, hr, (fit_sch hfit (by omega) (hof hr)).2 (by rw [sel_full hfit.nb]; exact hs2), fun p hp => ?_⟩
    have := k2 p hp
    rw [rgt_congr (fun i hi => (hcl i hi).1) (fun i hi => lessF_lt hi) hp] at this
    exact this
theorem less_key {n : Nat} (hn : n ≤ 6) (f : Nat → Int) : keyF n f = lessF n f := by
  funext j
  unfold keyF lessF
  have : Nat.min n 6 = n := Nat.min_eq_left hn
  rw [this]
theorem ps_isS {y : YardD} (hc : y.check = 0) (n : Nat) (f : Nat → Int) : y.psB n f = y.isS n f := by
  obtain ⟨hfit, _⟩ := y.fit_of_check hc
  have hn := hfit.nb
  refine Bool.eq_iff_iff.2 ?_
  rw [isS_iff hc]
  unfold YardD.psB
  by_cases hnb : n = y.nb
  · subst hnb
    rw [decide_eq_true rfl, Bool.and_eq_true, decide_eq_true_eq]
    constructor
    · rintro ⟨h1, h2⟩
      refine ⟨rfl, ?_⟩
      rw [(YardD.own_some h1).1, less_key hn] at h2
      obtain ⟨i, hi, e⟩ := of_decide_eq_true h2
      have hg : y.kept.getD i f0 = y.kept[i] := by rw [List.getD_eq_getElem?_getD, List.getElem?_eq_getElem hi]; rfl
      rw [hg] at e
      have hm := List.getElem_mem hi
      have hz := (mem_allS.1 (mem_kept.1 hm).1).1
      unfold eq6 at e
      simp only [Bool.and_eq_true, decide_eq_true_eq] at e
      have : lessF y.nb f = y.kept[i] := by
        funext j
        by_cases hj : j < 6
        · have : j = 0 ∨ j = 1 ∨ j = 2 ∨ j = 3 ∨ j = 4 ∨ j = 5 := by omega
          rcases this with rfl | rfl | rfl | rfl | rfl | rfl
          · exact e.1
          · exact e.2.1
          · exact e.2.2.1
          · exact e.2.2.2.1
          · exact e.2.2.2.2.1
          · exact e.2.2.2.2.2
        · rw [hz j fun h => by have := List.mem_range.1 h; omega]
          exact if_neg (by omega)
      rw [this]; exact hm
    · rintro ⟨_, h⟩
      have hk : y.kept ≠ [] := fun he => by rw [he] at h; cases h
      have ho := own_sees hc hk
      refine ⟨ho, ?_⟩
      rw [(YardD.own_some ho).1, less_key hn]
      have := key_self hn (f := lessF y.nb f) (fun b hb => if_neg fun hl => hb (List.mem_range.2 hl)) h
      rw [less_key hn] at this
      have e : lessF y.nb (lessF y.nb f) = lessF y.nb f := by
        funext j
        by_cases hj : j < y.nb
        · rw [lessF_lt hj]
        · exact (if_neg hj).trans (if_neg hj).symm
      rw [e] at this
      exact this
  · constructor
    · intro h
      rw [decide_eq_false hnb, Bool.and_eq_true, decide_eq_true_eq] at h
      have h1 : y.ownE false = 2 := by
        have ha : y.anyE false = 2 := by unfold YardD.anyE; rw [if_neg (by simp [hc]), if_pos rfl]
        unfold YardD.ownE
        rw [ha, if_pos (by decide)]
      omega
    · rintro ⟨h, _⟩; exact absurd h hnb
end Go.Fz
set_option linter.unusedVariables false
namespace Go.Fz
open Go.Proofs
set_option maxRecDepth 100000
end Go.Fz
set_option linter.unusedVariables false
set_option linter.unusedSimpArgs false
namespace Go.Fz
open Go.Proofs
set_option maxRecDepth 100000
end Go.Fz
set_option linter.unusedVariables false
set_option linter.unusedSimpArgs false
namespace Go.Fz
open Go.Proofs
set_option maxRecDepth 100000
end Go.Fz
set_option linter.unusedVariables false
set_option linter.unusedSimpArgs false
namespace Go.Fz
open Go.Proofs
set_option maxRecDepth 100000
end Go.Fz
set_option linter.unusedVariables false
set_option linter.unusedSimpArgs false
namespace Go.Fz
open Go.Proofs
set_option maxRecDepth 100000
end Go.Fz
set_option linter.unusedVariables false
set_option linter.unusedSimpArgs false
namespace Go.Fz
open Go.Proofs
set_option maxRecDepth 100000
end Go.Fz
set_option linter.unusedVariables false
set_option linter.unusedSimpArgs false
namespace Go.Fz
open Go.Proofs
set_option maxRecDepth 100000
end Go.Fz
set_option linter.unusedVariables false
namespace Go.Fz
open Go.Proofs
set_option maxRecDepth 100000
end Go.Fz
set_option linter.unusedVariables false
set_option linter.unusedSimpArgs false
namespace Go.Fz
open Go.Proofs
set_option maxRecDepth 100000
end Go.Fz
set_option linter.unusedVariables false
namespace Go.Fz
open Go.Proofs
set_option maxRecDepth 100000
theorem kept_less {y : YardD} {g : Nat → Int} (hg : g ∈ y.kept) : lessF y.nb g = g := by
  have hz := (mem_allS.1 (mem_kept.1 hg).1).1
  funext j
  by_cases hj : j < y.nb
  · exact lessF_lt hj
  · rw [hz j fun h => hj (List.mem_range.1 h)]
    exact if_neg hj
end Go.Fz
set_option linter.unusedVariables false
namespace Go.Fz
open Go.Proofs
set_option maxRecDepth 100000
end Go.Fz
set_option linter.unusedVariables false
namespace Go.Fz
open Go.Proofs
set_option maxRecDepth 100000
end Go.Fz
set_option linter.unusedVariables false
namespace Go.Fz
open Go.Proofs
set_option maxRecDepth 100000
theorem rng_ris6 : ∀ nc : Fin 7, List.range nc.1 ∈ risL nc.1 := by decide +kernel
end Go.Fz
set_option linter.unusedVariables false
set_option linter.unusedSimpArgs false
namespace Go.Fz
open Go.Proofs
set_option maxRecDepth 100000
end Go.Fz
set_option linter.unusedVariables false
namespace Go.Fz
open Go.Proofs
set_option maxRecDepth 100000
end Go.Fz
