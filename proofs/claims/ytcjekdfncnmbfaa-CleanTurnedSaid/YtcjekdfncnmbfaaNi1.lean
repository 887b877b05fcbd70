/- Own work of the verifier of watercress: FzTd2, FzTd3, FzTd4, FzTd5. -/
import Derived.Below
import Derived.CallsIn
import Derived.Carry
import Derived.ChangeKeysEq
import Derived.ChangeSame
import Derived.Deep.Slices
import Derived.DeepKeys4
import Derived.JoinedCond
import Derived.Laws.AppendOwn
import Derived.Laws.Cells
import Derived.Laws.CopyRow
import Derived.Laws.Cover3
import Derived.Laws.Entries
import Derived.Laws.NewFold
import Derived.Laws.Sem
import Derived.Laws.Small
import Derived.Laws.StructEq
import Derived.Laws.Tables
import Derived.Laws.World
import Derived.Lib.SmallJoins
import Derived.Maps.Keyed
import Derived.Maps.RangeRun
import Derived.OpenShut
import Derived.OrdersHeld
import Derived.OrdersIn
import Derived.ProofKit
import Derived.RangeFuncLeaves
import Derived.RangeFuncRecord
import Derived.Shelf.Abstract
import Derived.WalkKit
import Derived.WideKeyArgs
import Derived.Test.YtcjekdfncnmbfaaNi0
import Derived.Test.YtcjekdfncnmbfaaNa10
import Derived.Test.YtcjekdfncnmbfaaNa11
import Derived.Test.YtcjekdfncnmbfaaNa13
import Derived.Test.YtcjekdfncnmbfaaNa16
import Derived.Test.YtcjekdfncnmbfaaNa14
import Derived.Test.YtcjekdfncnmbfaaNa18
import Derived.Test.YtcjekdfncnmbfaaNa15
import Derived.Test.YtcjekdfncnmbfaaNa19
import Derived.Test.YtcjekdfncnmbfaaNa20
import Derived.Test.YtcjekdfncnmbfaaNa21
import Derived.Test.YtcjekdfncnmbfaaNa22
import Derived.Test.YtcjekdfncnmbfaaNa12
import Derived.Test.YtcjekdfncnmbfaaNa17
import Derived.Test.YtcjekdfncnmbfaaNa0
import Derived.Test.YtcjekdfncnmbfaaNa1
import Derived.Test.YtcjekdfncnmbfaaNa2
import Derived.Test.YtcjekdfncnmbfaaNa3
import Derived.Test.YtcjekdfncnmbfaaNa4
import Derived.Test.YtcjekdfncnmbfaaNa5
import Derived.Test.YtcjekdfncnmbfaaNa6
import Derived.Test.YtcjekdfncnmbfaaNa7
import Derived.Test.YtcjekdfncnmbfaaNa8
import Derived.Test.YtcjekdfncnmbfaaNa9
import Derived.Test.YtcjekdfncnmbfaaProg
import Derived.Test.YtcjekdfncnmbfaaRows
set_option linter.unusedVariables false
set_option linter.unusedSimpArgs false
set_option linter.unusedVariables false
set_option linter.unusedSimpArgs false
namespace Go.Fz
open Go.Proofs
set_option maxRecDepth 100000
def YardD.revY (y : YardD) : YardD := { y with lng := fun i => y.lng (y.nb - 1 - i), blo := fun i => y.blo (y.nb - 1 - i), bhi := fun i => y.bhi (y.nb - 1 - i), cb := fun i => std.bin .sub .i64 (std.bin .sub .i64 (Int.ofNat y.nb) 1) (y.cb i) }
def YardD.bakY (y : YardD) : YardD := { y with blo := fun i => std.mx 0 (std.bin .sub .i64 (std.bin .sub .i64 (std.bin .add .i64 y.last 1) (y.lng i)) (y.bhi i)), bhi := fun i => std.bin .sub .i64 (std.bin .sub .i64 (std.bin .add .i64 y.last 1) (y.lng i)) (y.blo i), nc := 0 }
def tdS (y : YardD) (XB XC ZB : AV) (H : Hp) (n : Nat) : St := ⟨H ++ [(2, .cells none false [iV y.last, iV y.hands, ZB, nl3]), (1, .cells none false [iV y.last, iV y.hands, XB, XC]), (0, .cells none false (yardC y))], n⟩
theorem rv_in {n i : Nat} (hn : n < 1000) (hi : i < n) : std.bin .sub .i64 (std.bin .sub .i64 (Int.ofNat n) 1) (Int.ofNat i) = ((n - 1 - i : Nat) : Int) := by
  have h1 : sub64 ((n : Nat) : Int) 1 = (n : Int) - 1 := sub64_in _ _ (by omega) (by omega)
  show sub64 (sub64 ((n : Nat) : Int) 1) ((i : Nat) : Int) = _
  rw [h1, sub64_in _ _ (by omega) (by omega)]
  omega
def F34 (j : Nat) : Option Nat := if j = 3 ∨ j = 4 then some j else none
theorem F34_inj : ∀ i j f, F34 i = some f → F34 j = some f → i = j := fun i j f hi hj => by
  unfold F34 at hi hj
  split at hi
  · split at hj
    · cases hi; cases hj; rfl
    · cases hj
  · cases hi
set_option maxHeartbeats 8000000 in
theorem td_notA (haw : Pure Try.prog 18 [] (.lit (.bool true))) (y : YardD) (b : Int) (e45 : Pure Try.prog 45 [yardV y] (.sb false)) : Pure Try.prog 15 [yardV y, .lit (.int .u8 b)] (.lit (.bool true)) := by
  obtain ⟨O, hO⟩ : ∃ O : Ar, O = std := ⟨_, rfl⟩
  refine pure_of_body tok 3 Try.func15 en15 rfl ⟨yardV_below y, Below.lit, trivial⟩ Below.lit ?_
  refine SW.seqRun tok hO (by cbv <;> rfl) (by trivial) ?_
  refine SW.seq ?_
  refine SW.seqRun tok hO (by cbv <;> rfl) (by trivial) ?_
  refine OpsW.callP e45 (by cbv <;> rfl) ?_
  refine OpsW.run tok hO (by cbv <;> rfl) (by trivial) ?_
  refine OpsW.splitG (by cbv <;> rfl) (fun hw1 => ?_) (fun hw1 => by first | (cases hw1; done) | (subst hO; simp [std] at hw1; done) | (subst hO; simp [std] at hw1; omega))
  refine OpsW.run tok hO (by cbv <;> rfl) (by trivial) ?_
  refine SW.cond (t := true) (by cbv <;> rfl) ?_
  refine SW.seqRun tok hO (by cbv <;> rfl) (by trivial) ?_
  refine OpsW.callP haw (by cbv <;> rfl) ?_
  refine OpsW.run tok hO (by cbv <;> rfl) (by trivial) ?_
  exact SW.ret ⟨_, _, rfl, rfl, Eqv.of rfl⟩
set_option maxHeartbeats 8000000 in
theorem td_notB (haw : Pure Try.prog 18 [] (.lit (.bool true))) (y : YardD) (b : Int) (hz : y.nb = 0) (e45 : Pure Try.prog 45 [yardV y] (.sb true)) : Pure Try.prog 15 [yardV y, .lit (.int .u8 b)] (.lit (.bool true)) := by
  obtain ⟨O, hO⟩ : ∃ O : Ar, O = std := ⟨_, rfl⟩
  refine pure_of_body tok 3 Try.func15 en15 rfl ⟨yardV_below y, Below.lit, trivial⟩ Below.lit ?_
  refine SW.seqRun tok hO (by cbv <;> rfl) (by trivial) ?_
  refine SW.seq ?_
  refine SW.seqRun tok hO (by cbv <;> rfl) (by trivial) ?_
  refine OpsW.callP e45 (by cbv <;> rfl) ?_
  refine OpsW.run tok hO (by cbv <;> rfl) (by trivial) ?_
  refine OpsW.splitG (by cbv <;> rfl) (fun hw1 => by first | (cases hw1; done) | (subst hO; simp [std, hz] at hw1; done) | (subst hO; simp [std, hz] at hw1; omega)) (fun hw1 => ?_)
  refine OpsW.run tok hO (by cbv <;> rfl) (by trivial) ?_
  refine SW.condS (by cbv <;> rfl) (fun hw2 => ?_) (fun hw2 => by first | (cases hw2; done) | (subst hO; simp [std, hz] at hw2; done) | (subst hO; simp [std, hz] at hw2; omega))
  refine SW.seqRun tok hO (by cbv <;> rfl) (by trivial) ?_
  refine OpsW.callP haw (by cbv <;> rfl) ?_
  refine OpsW.run tok hO (by cbv <;> rfl) (by trivial) ?_
  exact SW.ret ⟨_, _, rfl, rfl, Eqv.of rfl⟩
set_option maxHeartbeats 8000000 in
theorem td_pre (y : YardD) (b : Int) (hz : ¬ y.nb = 0) (e45 : Pure Try.prog 45 [yardV y] (.sb true))
    (htail : ∀ (gg : Nat → AV), AllP (fun p => gg p.1 = p.2) [(1, .lit (.int .u8 b)), (2, .ptr 0 0), (5, iV (Int.ofNat y.nb))] → SW Try.prog none (restC 3 (bodyF Try.f15)) (trueQ3 Try.f15) ⟨⟨243, gg⟩, []⟩ ⟨[(0, .cells none false (yardC y))], 1⟩) : Pure Try.prog 15 [yardV y, .lit (.int .u8 b)] (.lit (.bool true)) := by
  obtain ⟨O, hO⟩ : ∃ O : Ar, O = std := ⟨_, rfl⟩
  refine pure_of_body tok 3 Try.func15 en15 rfl ⟨yardV_below y, Below.lit, trivial⟩ Below.lit ?_
  refine SW.seqRun tok hO (by cbv <;> rfl) (by trivial) ?_
  refine SW.seq ?_
  refine SW.seqRun tok hO (by cbv <;> rfl) (by trivial) ?_
  refine OpsW.callP e45 (by cbv <;> rfl) ?_
  refine OpsW.run tok hO (by cbv <;> rfl) (by trivial) ?_
  refine OpsW.splitG (by cbv <;> rfl) (fun hw1 => by first | (cases hw1; done) | (subst hO; simp [std, hz] at hw1; done) | (subst hO; simp [std, hz] at hw1; omega)) (fun hw1 => ?_)
  refine OpsW.run tok hO (by cbv <;> rfl) (by trivial) ?_
  refine SW.condS (by cbv <;> rfl) (fun hw2 => by first | (cases hw2; done) | (subst hO; simp [std, hz] at hw2; done) | (subst hO; simp [std, hz] at hw2; omega)) (fun hw2 => SW.skip ?_)
  refine SW.seqRun tok hO (by cbv <;> rfl) (by trivial) ?_
  exact htail _ ⟨rfl, rfl, rfl, trivial⟩
def tdL (y : YardD) (b : Int) : List (Nat × AV) := [(1, .lit (.int .u8 b)), (2, .ptr 0 0), (5, iV (Int.ofNat y.nb)), (6, .ptr 1 0), (7, .ptr 2 0)]
def td4S (y : YardD) : St := ⟨[(2, .cells none false (yardC y)), (1, .cells none false (yardC y)), (0, .cells none false (yardC y))], 3⟩
set_option maxHeartbeats 8000000 in
theorem td_r4 (y : YardD) (b : Int) (gg : Nat → AV) (h : AllP (fun p => gg p.1 = p.2) [(1, .lit (.int .u8 b)), (2, .ptr 0 0), (5, iV (Int.ofNat y.nb))]) :
    SW Try.prog none (nthC 3 (bodyF Try.f15)) (midK 243 (tdL y b) (td4S y)) ⟨⟨243, gg⟩, []⟩ ⟨[(0, .cells none false (yardC y))], 1⟩ := by
  obtain ⟨O, hO⟩ : ∃ O : Ar, O = std := ⟨_, rfl⟩
  obtain ⟨g1, g2, g3, _⟩ := h
  simp only at g1 g2 g3
  rw [← updT_self g1, ← updT_self g2, ← updT_self g3]
  refine SW.ren ?_
  refine SW.runD tok mixed hO (by kernel_rfl) (by cbv <;> rfl) (by trivial) ?_
  refine AnyE.many [2, 3] (by cbv <;> rfl) (by rfl) ⟨?_, ?_, trivial⟩
  · refine PickE.eff tok hO (by cbv <;> rfl) (by cbv <;> rfl) (by trivial) ?_ ?_
    · exact (by repeat (first | exact trivial | refine And.intro (by first | exact lv_of hO (by cbv <;> rfl) (by trivial) | (cbv <;> rfl)) ?_))
    refine AnyE.run tok hO (by rfl) (by cbv <;> rfl) (by trivial) ?_
    refine AnyE.effK tok hO (by cbv <;> rfl) (by cbv <;> rfl) (by trivial) ?_ ?_
    · exact (by repeat (first | exact trivial | refine And.intro (by first | exact lv_of hO (by cbv <;> rfl) (by trivial) | (cbv <;> rfl)) ?_))
    refine AnyE.run tok hO (by rfl) (by cbv <;> rfl) (by trivial) ?_
    refine AnyE.effK tok hO (by cbv <;> rfl) (by cbv <;> rfl) (by trivial) ?_ ?_
    · exact (by repeat (first | exact trivial | refine And.intro (by first | exact lv_of hO (by cbv <;> rfl) (by trivial) | (cbv <;> rfl)) ?_))
    refine AnyE.run tok hO (by rfl) (by cbv <;> rfl) (by trivial) ?_
    refine AnyE.effK tok hO (by cbv <;> rfl) (by cbv <;> rfl) (by trivial) ?_ ?_
    · exact (by repeat (first | exact trivial | refine And.intro (by first | exact lv_of hO (by cbv <;> rfl) (by trivial) | (cbv <;> rfl)) ?_))
    refine AnyE.done (by rfl) ?_
    refine ⟨tabR [(1, 1), (2, 2)], ⟨⟨243, getT (tdL y b)⟩, []⟩, td4S y, ?_, rfl, _, rfl, ⟨rfl, rfl, rfl, rfl, rfl, trivial⟩, rfl⟩
    exact WeakR.tab rfl rfl (by simp) (by rfl) (by show 1 ≤ 3; omega) (by rfl) ⟨RenV.closed Below.lit, RenV.ptr (by omega), RenV.closed Below.lit, RenV.ptr (by omega), RenV.ptr (by omega), trivial⟩ ⟨⟨by omega, _, rfl, .cells (RenVs.closed (yardC_below y)), rfl⟩, ⟨by omega, _, rfl, .cells (RenVs.closed (yardC_below y)), rfl⟩, ⟨by omega, _, rfl, .cells (RenVs.closed (yardC_below y)), rfl⟩, trivial⟩
  · refine PickE.eff tok hO (by cbv <;> rfl) (by cbv <;> rfl) (by trivial) ?_ ?_
    · exact (by repeat (first | exact trivial | refine And.intro (by first | exact lv_of hO (by cbv <;> rfl) (by trivial) | (cbv <;> rfl)) ?_))
    refine AnyE.run tok hO (by rfl) (by cbv <;> rfl) (by trivial) ?_
    refine AnyE.effK tok hO (by cbv <;> rfl) (by cbv <;> rfl) (by trivial) ?_ ?_
    · exact (by repeat (first | exact trivial | refine And.intro (by first | exact lv_of hO (by cbv <;> rfl) (by trivial) | (cbv <;> rfl)) ?_))
    refine AnyE.run tok hO (by rfl) (by cbv <;> rfl) (by trivial) ?_
    refine AnyE.effK tok hO (by cbv <;> rfl) (by cbv <;> rfl) (by trivial) ?_ ?_
    · exact (by repeat (first | exact trivial | refine And.intro (by first | exact lv_of hO (by cbv <;> rfl) (by trivial) | (cbv <;> rfl)) ?_))
    refine AnyE.run tok hO (by rfl) (by cbv <;> rfl) (by trivial) ?_
    refine AnyE.effK tok hO (by cbv <;> rfl) (by cbv <;> rfl) (by trivial) ?_ ?_
    · exact (by repeat (first | exact trivial | refine And.intro (by first | exact lv_of hO (by cbv <;> rfl) (by trivial) | (cbv <;> rfl)) ?_))
    refine AnyE.done (by rfl) ?_
    refine ⟨tabR [(1, 2), (2, 1)], ⟨⟨243, getT (tdL y b)⟩, []⟩, td4S y, ?_, rfl, _, rfl, ⟨rfl, rfl, rfl, rfl, rfl, trivial⟩, rfl⟩
    exact WeakR.tab rfl rfl (by simp) (by rfl) (by show 1 ≤ 3; omega) (by rfl) ⟨RenV.closed Below.lit, RenV.ptr (by omega), RenV.closed Below.lit, RenV.ptr (by omega), RenV.ptr (by omega), trivial⟩ ⟨⟨by omega, _, rfl, .cells (RenVs.closed (yardC_below y)), rfl⟩, ⟨by omega, _, rfl, .cells (RenVs.closed (yardC_below y)), rfl⟩, ⟨by omega, _, rfl, .cells (RenVs.closed (yardC_below y)), rfl⟩, trivial⟩
set_option maxHeartbeats 8000000 in
theorem td_r5 (y : YardD) (b : Int)
    (htail : ∀ (gg : Nat → AV), AllP (fun p => gg p.1 = p.2) [(1, .lit (.int .u8 b)), (2, .ptr 0 0), (5, iV (Int.ofNat y.nb)), (6, .ptr 1 0), (7, .ptr 2 0)] → SW Try.prog none (restC 5 (bodyF Try.f15)) (trueQ3 Try.f15) ⟨⟨243, gg⟩, []⟩ (tdS y nl3 nl3 nl3 [] 3))
    (gg : Nat → AV) (h : AllP (fun p => gg p.1 = p.2) [(1, .lit (.int .u8 b)), (2, .ptr 0 0), (5, iV (Int.ofNat y.nb)), (6, .ptr 1 0), (7, .ptr 2 0)]) :
    SW Try.prog none (restC 4 (bodyF Try.f15)) (trueQ3 Try.f15) ⟨⟨243, gg⟩, []⟩ (td4S y) := by
  obtain ⟨O, hO⟩ : ∃ O : Ar, O = std := ⟨_, rfl⟩
  obtain ⟨g1, g2, g3, g4, g5, _⟩ := h
  simp only at g1 g2 g3 g4 g5
  rw [← updT_self g1, ← updT_self g2, ← updT_self g3, ← updT_self g4, ← updT_self g5]
  refine (show SW Try.prog none (.seq (.region _ _ _) _) _ _ _ from ?_)
  refine SW.seqRun tok hO (by cbv <;> rfl) (by trivial) ?_
  exact htail _ ⟨rfl, rfl, rfl, rfl, rfl, trivial⟩
end Go.Fz
set_option linter.unusedVariables false
set_option linter.unusedSimpArgs false
namespace Go.Fz
open Go.Proofs
set_option maxRecDepth 100000
def td1Q (y : YardD) (b : Int) (e : Exit) (fm : Fm) (st : St) : Prop :=
  e = .normal ∧ ∃ g X Z, fm = ⟨⟨243, g⟩, []⟩ ∧ g 1 = .lit (.int .u8 b) ∧ g 2 = .ptr 0 0 ∧ g 5 = iV (Int.ofNat y.nb) ∧ g 6 = .ptr 1 0 ∧ g 7 = .ptr 2 0 ∧ Eqv X (bedsV y.revY) ∧ Eqv Z (bedsV y.bakY) ∧ st = tdS y X nl3 Z [] 5
set_option maxHeartbeats 16000000 in
theorem td_l1 (y : YardD) (b : Int) (hz : 0 < y.nb) (hn : y.nb ≤ 6) (gg : Nat → AV) (h : AllP (fun p => gg p.1 = p.2) (tdL y b)) :
    SW Try.prog none (nthC 5 (bodyF Try.f15)) (td1Q y b) ⟨⟨243, gg⟩, []⟩ (tdS y nl3 nl3 nl3 [] 3) := by
  obtain ⟨O, hO⟩ : ∃ O : Ar, O = std := ⟨_, rfl⟩
  obtain ⟨g1, g2, g3, g4, g5, _⟩ := h
  simp only at g1 g2 g3 g4 g5
  rw [← updT_self g1, ← updT_self g2, ← updT_self g3, ← updT_self g4, ← updT_self g5]
  have hnat : ∀ i : Nat, O.nat (Int.ofNat i) = i := fun i => by subst hO; rfl
  have hrv : ∀ i, i < y.nb → O.bin .sub .i64 (O.bin .sub .i64 (Int.ofNat y.nb) 1) (Int.ofNat i) = ((y.nb - 1 - i : Nat) : Int) := fun i hi => by subst hO; exact rv_in (by omega) hi
  have hxb : ∀ i, [iV (y.lng (y.nb - 1 - i)), iV (y.blo (y.nb - 1 - i)), iV (y.bhi (y.nb - 1 - i))] = [bedC y.revY i 0, bedC y.revY i 1, bedC y.revY i 2] := fun i => rfl
  have hzb : ∀ i, [iV (y.lng i), iV (O.mx 0 (O.bin .sub .i64 (O.bin .sub .i64 (O.bin .add .i64 y.last 1) (y.lng i)) (y.bhi i))), iV (O.bin .sub .i64 (O.bin .sub .i64 (O.bin .add .i64 y.last 1) (y.lng i)) (y.blo i))] = [bedC y.bakY i 0, bedC y.bakY i 1, bedC y.bakY i 2] := fun i => by subst hO; rfl
  have hfl : ∀ (g : Nat → Nat → AV) (i : Nat), flatG 3 g (i + 1) = flatG 3 g i ++ [g i 0, g i 1, g i 2] := fun g i => rfl
  have hXb := bedC_below y.revY
  have hZb := bedC_below y.bakY
  have hX1 : ∀ (h : Hp) (D : Nat → Bool) i k, frz h D 2 (bedC y.revY i k) = bedC y.revY i k := fun h D i k => by unfold bedC; split <;> rfl
  have hZ1 : ∀ (h : Hp) (D : Nat → Bool) i k, frz h D 2 (bedC y.bakY i k) = bedC y.bakY i k := fun h D i k => by unfold bedC; split <;> rfl
  have hXV : bedsV y.revY = .isl y.nb 3 false (bedC y.revY) := rfl
  have hZV : bedsV y.bakY = .isl y.nb 3 false (bedC y.bakY) := rfl
  unfold td1Q
  rw [hXV, hZV]
  generalize bedC y.revY = XB at hxb hXb hX1 ⊢
  generalize bedC y.bakY = ZB at hzb hZb hZ1 ⊢
  clear hXV hZV
  refine (show SW Try.prog none (.seq (.region _ _ _) _) _ _ _ from ?_)
  refine SW.seqRun tok hO (by cbv <;> rfl) (by trivial) ?_
  refine (SW.block (SW.loopR (fun i : Nat => ⟨⟨243, getT [(1, .lit (.int .u8 b)), (2, .ptr 0 0), (5, iV (Int.ofNat y.nb)), (6, .ptr 1 0), (7, .ptr 2 0), (8, iV i)]⟩, []⟩)
    (fun i => ⟨objG 4 3 ZB i ++ (objG 3 3 XB i ++ [(2, .cells none false [iV y.last, iV y.hands, slG 4 3 i, nl3]), (1, .cells none false [iV y.last, iV y.hands, slG 3 3 i, nl3]), (0, .cells none false (yardC y))]), 5⟩) (fun i => y.nb - i) (fun i => i ≤ y.nb) 0 (Nat.zero_le _) (tabR []) ?_ fun i hi => ?_))
  · exact WeakR.tabG (fun _ => none) (fun _ _ _ h => nomatch h) rfl rfl (by simp) (by rfl) (by show 3 ≤ 5; omega) (by rfl) ⟨RenV.closed Below.lit, RenV.ptr (by omega), RenV.closed Below.lit, RenV.ptr (by omega), RenV.ptr (by omega), RenV.closed Below.lit, trivial⟩
      ⟨⟨by omega, _, rfl, .cells (.cons (RenV.closed Below.lit) (.cons (RenV.closed Below.lit) (.cons (RenV.closed Below.lit) (.cons (RenV.closed Below.lit) .nil)))), rfl⟩, ⟨by omega, _, rfl, .cells (.cons (RenV.closed Below.lit) (.cons (RenV.closed Below.lit) (.cons (RenV.closed Below.lit) (.cons (RenV.closed Below.lit) .nil)))), rfl⟩, ⟨by omega, _, rfl, .cells (RenVs.closed (yardC_below y)), rfl⟩, trivial⟩
  cases i with
  | zero =>
    refine SW.seq ?_
    refine SW.seqRun tok hO (by cbv <;> rfl) (by trivial) ?_
    refine SW.condS (by cbv <;> rfl) (fun h => SW.skip ?_) (fun h => ?_)
    · have hlt : 0 < y.nb := hz
      have k0 : (0 : Int) ≤ Int.ofNat (0) := Int.natCast_nonneg _
      have kN : Int.ofNat (0) < Int.ofNat y.nb := Int.ofNat_lt.2 hlt
      have hni : O.nat (Int.ofNat (0)) = 0 := hnat _
      have hrv := hrv (0) hlt
      have hix : O.nat (O.bin .sub .i64 (O.bin .sub .i64 (Int.ofNat y.nb) 1) (Int.ofNat (0))) = y.nb - 1 - (0) := by rw [hrv]; exact hnat _
      have r0 : (0 : Int) ≤ O.bin .sub .i64 (O.bin .sub .i64 (Int.ofNat y.nb) 1) (Int.ofNat (0)) ∧ O.bin .sub .i64 (O.bin .sub .i64 (Int.ofNat y.nb) 1) (Int.ofNat (0)) < Int.ofNat y.nb := by
        rw [hrv]
        exact ⟨Int.natCast_nonneg _, Int.ofNat_lt.2 (by omega)⟩
      have hxb := hxb (0)
      have hzb := hzb (0)
      refine SW.seq (SW.block ?_)
      refine SW.seqRunD tok mixed hO (by kernel_rfl) (by cbv <;> rfl) (by repeat (first | exact trivial | exact r0 | refine ⟨?_, ?_⟩)) ?_
      refine AnyE.effK tok hO (by cbv <;> rfl) (by cbv <;> rfl) (by trivial) ?_ ?_
      · exact (by repeat (first | exact trivial | refine And.intro (by first | exact lv_of hO (by cbv <;> rfl) (by trivial) | (refine lv_of hO (by cbv <;> rfl) (by repeat (first | exact trivial | exact r0 | refine ⟨?_, ?_⟩))) | (cbv <;> rfl)) ?_))
      refine AnyE.appNil tok (by cbv <;> rfl) (by cbv <;> rfl) (by rfl) (by kernel_rfl) (by rfl) (by rfl) ?_
      refine AnyE.run tok hO (by rfl) (by cbv <;> rfl) (by trivial) ?_
      refine AnyE.eff tok hO (by cbv <;> rfl) (by cbv <;> rfl) (by trivial) ?_
      refine AnyE.done (by rfl) ?_
      refine SW.seqRun tok hO (by cbv <;> rfl) (by exact ⟨k0, kN⟩) ?_
      refine SW.seqRun tok hO (by cbv <;> rfl) (by trivial) ?_
      refine SW.seqRunD tok mixed hO (by kernel_rfl) (by cbv <;> rfl) (by repeat (first | exact trivial | exact k0 | exact kN | refine ⟨?_, ?_⟩)) ?_
      refine AnyE.eff tok hO (by cbv <;> rfl) (by cbv <;> rfl) (by trivial) ?_
      refine AnyE.done (by rfl) ?_
      refine SW.runN tok hO 4 (by cbv <;> rfl) (by trivial) ?_
      refine OpsW.appNil tok (by cbv <;> rfl) (by rfl) (by kernel_rfl) (by rfl) (by rfl) ?_
      refine OpsW.run tok hO (by cbv <;> rfl) (by trivial) ?_
      refine SW.run tok hO (by cbv <;> rfl) (by trivial) ?_
      refine ⟨1, by omega, by omega, tabR [(3, 6), (4, 9)], ?_⟩
      refine WeakR.tabG (fun _ => none) (fun _ _ _ h => nomatch h) rfl rfl (by simp) (by rfl) (by show 3 ≤ 5; omega) (by rfl) ⟨RenV.closed Below.lit, RenV.ptr (by omega), RenV.closed Below.lit, RenV.ptr (by omega), RenV.ptr (by omega), RenV.inc hO (by omega), trivial⟩
        ⟨⟨by omega, _, rfl, .cells (RenVs.of_eq (show [iV (y.lng (O.nat (Int.ofNat (0)))), iV (O.mx 0 (O.bin .sub .i64 (O.bin .sub .i64 (O.bin .add .i64 y.last 1) (y.lng (O.nat (Int.ofNat (0))))) (y.bhi (O.nat (Int.ofNat (0)))))), iV (O.bin .sub .i64 (O.bin .sub .i64 (O.bin .add .i64 y.last 1) (y.lng (O.nat (Int.ofNat (0))))) (y.blo (O.nat (Int.ofNat (0)))))] = flatG 3 ZB 1 from by rw [hni, hzb]; rfl) (flatG_below hZb (1))), rfl⟩, ⟨by omega, _, rfl, .cells (RenVs.of_eq (show [iV (y.lng (O.nat (O.bin .sub .i64 (O.bin .sub .i64 (Int.ofNat y.nb) 1) (Int.ofNat (0))))), iV (y.blo (O.nat (O.bin .sub .i64 (O.bin .sub .i64 (Int.ofNat y.nb) 1) (Int.ofNat (0))))), iV (y.bhi (O.nat (O.bin .sub .i64 (O.bin .sub .i64 (Int.ofNat y.nb) 1) (Int.ofNat (0)))))] = flatG 3 XB 1 from by rw [hix, hxb]; rfl) (flatG_below hXb (1))), rfl⟩, ⟨by omega, _, rfl, .cells (.cons (RenV.closed Below.lit) (.cons (RenV.closed Below.lit) (.cons (RenV.sl (by omega)) (.cons (RenV.closed Below.lit) .nil)))), rfl⟩, ⟨by omega, _, rfl, .cells (.cons (RenV.closed Below.lit) (.cons (RenV.closed Below.lit) (.cons (RenV.sl (by omega)) (.cons (RenV.closed Below.lit) .nil)))), rfl⟩, ⟨by omega, _, rfl, .cells (RenVs.closed (yardC_below y)), rfl⟩, trivial⟩
    · exfalso
      have : y.nb ≤ 0 := by subst hO; simpa [std] using h
      omega
  | succ i =>
    obtain ⟨GX, hGX⟩ : ∃ G, G = flatG 3 XB (i + 1) := ⟨_, rfl⟩
    obtain ⟨GZ, hGZ⟩ : ∃ G, G = flatG 3 ZB (i + 1) := ⟨_, rfl⟩
    show SW _ _ _ _ _ ⟨[(4, .cells none false (flatG 3 ZB (i + 1))), (3, .cells none false (flatG 3 XB (i + 1))), (2, .cells none false [iV y.last, iV y.hands, .sl 4 0 (i + 1) 3 false, nl3]), (1, .cells none false [iV y.last, iV y.hands, .sl 3 0 (i + 1) 3 false, nl3]), (0, .cells none false (yardC y))], 5⟩
    rw [← hGX, ← hGZ]
    refine SW.seq ?_
    refine SW.seqRun tok hO (by cbv <;> rfl) (by trivial) ?_
    refine SW.condS (by cbv <;> rfl) (fun h => SW.skip ?_) (fun h => ?_)
    · have hlt : i + 1 < y.nb := by
        have : ((i + 1 : Nat) : Int) < (y.nb : Int) := by subst hO; simpa [std] using h
        omega
      have k0 : (0 : Int) ≤ Int.ofNat (i + 1) := Int.natCast_nonneg _
      have kN : Int.ofNat (i + 1) < Int.ofNat y.nb := Int.ofNat_lt.2 hlt
      have hni : O.nat (Int.ofNat (i + 1)) = i + 1 := hnat _
      have hrv := hrv (i + 1) hlt
      have hix : O.nat (O.bin .sub .i64 (O.bin .sub .i64 (Int.ofNat y.nb) 1) (Int.ofNat (i + 1))) = y.nb - 1 - (i + 1) := by rw [hrv]; exact hnat _
      have r0 : (0 : Int) ≤ O.bin .sub .i64 (O.bin .sub .i64 (Int.ofNat y.nb) 1) (Int.ofNat (i + 1)) ∧ O.bin .sub .i64 (O.bin .sub .i64 (Int.ofNat y.nb) 1) (Int.ofNat (i + 1)) < Int.ofNat y.nb := by
        rw [hrv]
        exact ⟨Int.natCast_nonneg _, Int.ofNat_lt.2 (by omega)⟩
      have hxb := hxb (i + 1)
      have hzb := hzb (i + 1)
      refine SW.seq (SW.block ?_)
      refine SW.seqRunD tok mixed hO (by kernel_rfl) (by cbv <;> rfl) (by repeat (first | exact trivial | exact r0 | refine ⟨?_, ?_⟩)) ?_
      refine AnyE.effK tok hO (by cbv <;> rfl) (by cbv <;> rfl) (by trivial) ?_ ?_
      · exact (by repeat (first | exact trivial | refine And.intro (by first | exact lv_of hO (by cbv <;> rfl) (by trivial) | (refine lv_of hO (by cbv <;> rfl) (by repeat (first | exact trivial | exact r0 | refine ⟨?_, ?_⟩))) | (cbv <;> rfl)) ?_))
      refine AnyE.appOne (g := XB) tok (by cbv <;> rfl) (by cbv <;> rfl) (by rfl) (by rfl) hGX (by kernel_rfl) (by rfl) (by rfl) (by omega) fun H0 hH0 => ?_
      refine AnyE.run tok hO (by rfl) (by cbv <;> rfl) (by trivial) ?_
      refine AnyE.eff tok hO (by cbv <;> rfl) (by cbv <;> rfl) (by trivial) ?_
      refine AnyE.done (by rfl) ?_
      refine SW.seqRun tok hO (by cbv <;> rfl) (by exact ⟨k0, kN⟩) ?_
      refine SW.seqRun tok hO (by cbv <;> rfl) (by trivial) ?_
      refine SW.seqRunD tok mixed hO (by kernel_rfl) (by cbv <;> rfl) (by repeat (first | exact trivial | exact k0 | exact kN | refine ⟨?_, ?_⟩)) ?_
      refine AnyE.eff tok hO (by cbv <;> rfl) (by cbv <;> rfl) (by trivial) ?_
      refine AnyE.done (by rfl) ?_
      refine SW.runN tok hO 4 (by cbv <;> rfl) (by trivial) ?_
      refine OpsW.appOne (g := ZB) tok (by cbv <;> rfl) (by rfl) (by rfl) hGZ (by kernel_rfl) (by rfl) (by rfl) (by omega) fun H1 hH1 => ?_
      refine OpsW.run tok hO (by cbv <;> rfl) (by trivial) ?_
      refine SW.run tok hO (by cbv <;> rfl) (by trivial) ?_
      refine ⟨i + 1 + 1, by omega, by omega, tabR [(3, 6), (4, 9)], ?_⟩
      refine WeakR.tabG F34 F34_inj rfl rfl (by simp) (by rfl) (by show 3 ≤ 5; omega) (by rfl) ⟨RenV.closed Below.lit, RenV.ptr (by omega), RenV.closed Below.lit, RenV.ptr (by omega), RenV.ptr (by omega), RenV.inc hO (by omega), trivial⟩
        ⟨⟨by omega, _, rfl, .cells (RenVs.of_eq (hH1.trans (show flatG 3 ZB (i + 1) ++ [iV (y.lng (O.nat (Int.ofNat (i + 1)))), iV (O.mx 0 (O.bin .sub .i64 (O.bin .sub .i64 (O.bin .add .i64 y.last 1) (y.lng (O.nat (Int.ofNat (i + 1))))) (y.bhi (O.nat (Int.ofNat (i + 1)))))), iV (O.bin .sub .i64 (O.bin .sub .i64 (O.bin .add .i64 y.last 1) (y.lng (O.nat (Int.ofNat (i + 1))))) (y.blo (O.nat (Int.ofNat (i + 1)))))] = flatG 3 ZB (i + 1 + 1) from by rw [hni, hzb, hfl ZB (i + 1)])) (flatG_below hZb (i + 1 + 1))), rfl⟩, ⟨by omega, _, rfl, .cells (RenVs.of_eq (hH0.trans (show flatG 3 XB (i + 1) ++ [iV (y.lng (O.nat (O.bin .sub .i64 (O.bin .sub .i64 (Int.ofNat y.nb) 1) (Int.ofNat (i + 1))))), iV (y.blo (O.nat (O.bin .sub .i64 (O.bin .sub .i64 (Int.ofNat y.nb) 1) (Int.ofNat (i + 1))))), iV (y.bhi (O.nat (O.bin .sub .i64 (O.bin .sub .i64 (Int.ofNat y.nb) 1) (Int.ofNat (i + 1)))))] = flatG 3 XB (i + 1 + 1) from by rw [hix, hxb, hfl XB (i + 1)])) (flatG_below hXb (i + 1 + 1))), rfl⟩, ⟨by omega, _, rfl, .cells (.cons (RenV.closed Below.lit) (.cons (RenV.closed Below.lit) (.cons (RenV.sl (by omega)) (.cons (RenV.closed Below.lit) .nil)))), rfl⟩, ⟨by omega, _, rfl, .cells (.cons (RenV.closed Below.lit) (.cons (RenV.closed Below.lit) (.cons (RenV.sl (by omega)) (.cons (RenV.closed Below.lit) .nil)))), rfl⟩, ⟨by omega, _, rfl, .cells (RenVs.closed (yardC_below y)), rfl⟩, trivial⟩
    · have hge : y.nb = i + 1 := by
        have : (y.nb : Int) ≤ ((i + 1 : Nat) : Int) := by subst hO; simpa [std] using h
        omega
      have hlX : (i + 1) * 3 ≤ GX.length := by rw [hGX, flatG_length]; omega
      have hlZ : (i + 1) * 3 ≤ GZ.length := by rw [hGZ, flatG_length]; omega
      refine SW.freezeZ (fun j => Nat.beq j 3 || Nat.beq j 4) 3 (by rfl) (SW.exit ⟨rfl, _, _, _, rfl, rfl, rfl, rfl, rfl, rfl, ?_, ?_, rfl⟩)
      · show Eqv (frz _ _ 3 (.sl 3 0 (i + 1) 3 false)) (.isl y.nb 3 false XB)
        rw [hge, frz_slE (fm := none) (G := GX) rfl rfl hlX, hGX]
        exact Eqv.isl rfl fun i' k hi' hk => Eqv.of (frz_flat hi' hk (hX1 _ _ _ _))
      · show Eqv (frz _ _ 3 (.sl 4 0 (i + 1) 3 false)) (.isl y.nb 3 false ZB)
        rw [hge, frz_slE (fm := none) (G := GZ) rfl rfl hlZ, hGZ]
        exact Eqv.isl rfl fun i' k hi' hk => Eqv.of (frz_flat hi' hk (hZ1 _ _ _ _))
end Go.Fz
set_option linter.unusedVariables false
set_option linter.unusedSimpArgs false
namespace Go.Fz
open Go.Proofs
set_option maxRecDepth 100000
def td2Q (y : YardD) (b : Int) (e : Exit) (fm : Fm) (st : St) : Prop :=
  e = .normal ∧ ∃ g X, fm = ⟨⟨243, g⟩, []⟩ ∧ g 1 = .lit (.int .u8 b) ∧ g 2 = .ptr 0 0 ∧ g 5 = iV (Int.ofNat y.nb) ∧ g 6 = .ptr 1 0 ∧ g 7 = .ptr 2 0 ∧ Eqv X (clmsV y.revY) ∧ st = tdS y (bedsV y.revY) X (bedsV y.bakY) [] 6
set_option maxHeartbeats 16000000 in
theorem td_l2 (y : YardD) (b : Int) (hn : y.nc ≤ 1000) (X Z : AV) (hXe : Eqv X (bedsV y.revY)) (hZe : Eqv Z (bedsV y.bakY)) (gg : Nat → AV) (h : AllP (fun p => gg p.1 = p.2) (tdL y b)) :
    SW Try.prog none (nthC 6 (bodyF Try.f15)) (td2Q y b) ⟨⟨243, gg⟩, []⟩ (tdS y X nl3 Z [] 5) := by
  obtain ⟨O, hO⟩ : ∃ O : Ar, O = std := ⟨_, rfl⟩
  obtain ⟨g1, g2, g3, g4, g5, _⟩ := h
  simp only at g1 g2 g3 g4 g5
  rw [← updT_self g1, ← updT_self g2, ← updT_self g3, ← updT_self g4, ← updT_self g5]
  have hnat : ∀ i : Nat, O.nat (Int.ofNat i) = i := fun i => by subst hO; rfl
  have hxb : ∀ i, [iV (O.bin .sub .i64 (O.bin .sub .i64 (Int.ofNat y.nb) 1) (y.cb i)), iV (y.clo i), iV (y.chi i)] = [clmC y.revY i 0, clmC y.revY i 1, clmC y.revY i 2] := fun i => by subst hO; rfl
  have hfl : ∀ (g : Nat → Nat → AV) (i : Nat), flatG 3 g (i + 1) = flatG 3 g i ++ [g i 0, g i 1, g i 2] := fun g i => rfl
  have hXb := clmC_below y.revY
  have hX1 : ∀ (h : Hp) (D : Nat → Bool) i k, frz h D 2 (clmC y.revY i k) = clmC y.revY i k := fun h D i k => by unfold clmC; split <;> rfl
  have hXV : clmsV y.revY = .isl y.nc 3 false (clmC y.revY) := rfl
  have hBx := bedsV_below y.revY
  have hBz := bedsV_below y.bakY
  unfold td2Q
  rw [hXV]
  generalize clmC y.revY = XB at hxb hXb hX1 ⊢
  clear hXV
  have hXV : bedsV y.revY = .isl y.nb 3 false (bedC y.revY) := rfl
  have hZV : bedsV y.bakY = .isl y.nb 3 false (bedC y.bakY) := rfl
  rw [hXV] at hXe hBx ⊢
  rw [hZV] at hZe hBz ⊢
  clear hXV hZV
  generalize bedC y.revY = XF at hXe hBx ⊢
  generalize bedC y.bakY = ZF at hZe hBz ⊢
  refine (show SW Try.prog none (.seq (.region _ _ _) _) _ _ _ from ?_)
  refine SW.seqRun tok hO (by cbv <;> rfl) (by trivial) ?_
  refine (SW.block (SW.loopR (fun i : Nat => ⟨⟨243, getT [(1, .lit (.int .u8 b)), (2, .ptr 0 0), (5, iV (Int.ofNat y.nb)), (6, .ptr 1 0), (7, .ptr 2 0), (11, iV i)]⟩, []⟩)
    (fun i => ⟨[(2, .cells none false [iV y.last, iV y.hands, .isl y.nb 3 false ZF, nl3]), (1, .cells none false [iV y.last, iV y.hands, .isl y.nb 3 false XF, slG 5 3 i]), (0, .cells none false (yardC y))] ++ objG 5 3 XB i, 6⟩) (fun i => y.nc - i) (fun i => i ≤ y.nc) 0 (Nat.zero_le _) (ren1 5 5) ?_ fun i hi => ?_))
  · exact WeakR.up rfl rfl (by simp) (Nat.le_refl _) (.inl rfl) (by show 5 ≤ 6; omega) ⟨RenV.closed Below.lit, RenV.ptr (by omega), RenV.closed Below.lit, RenV.ptr (by omega), RenV.ptr (by omega), RenV.closed Below.lit, trivial⟩ ⟨⟨by omega, _, rfl, .cells (.cons (RenV.closed Below.lit) (.cons (RenV.closed Below.lit) (.cons (RenV.eqv (RenV.closed hBz) hZe) (.cons (RenV.closed Below.lit) .nil)))), .inr rfl⟩, ⟨by omega, _, rfl, .cells (.cons (RenV.closed Below.lit) (.cons (RenV.closed Below.lit) (.cons (RenV.eqv (RenV.closed hBx) hXe) (.cons (RenV.closed Below.lit) .nil)))), .inr rfl⟩, ⟨by omega, _, rfl, .cells (RenVs.closed (yardC_below y)), .inr rfl⟩, trivial⟩ (fun p hp => by cases hp)
  cases i with
  | zero =>
    refine SW.seq ?_
    refine SW.seqRun tok hO (by cbv <;> rfl) (by trivial) ?_
    refine SW.condS (by cbv <;> rfl) (fun h => SW.skip ?_) (fun h => ?_)
    · have hlt : 0 < y.nc := by subst hO; simpa [std] using h
      have k0 : (0 : Int) ≤ Int.ofNat (0) := Int.natCast_nonneg _
      have kN : Int.ofNat (0) < Int.ofNat y.nc := Int.ofNat_lt.2 hlt
      have hni : O.nat (Int.ofNat (0)) = 0 := hnat _
      have hxb := hxb (0)
      refine SW.seq (SW.block ?_)
      refine SW.seqRun tok hO (by cbv <;> rfl) (by exact ⟨k0, kN⟩) ?_
      refine SW.seqRun tok hO (by cbv <;> rfl) (by trivial) ?_
      refine SW.runN tok hO 4 (by cbv <;> rfl) (by trivial) ?_
      refine OpsW.appNil tok (by cbv <;> rfl) (by rfl) (by kernel_rfl) (by rfl) (by rfl) ?_
      refine OpsW.run tok hO (by cbv <;> rfl) (by trivial) ?_
      refine SW.run tok hO (by cbv <;> rfl) (by trivial) ?_
      refine ⟨1, by omega, by omega, ren1 5 8, ?_⟩
      refine WeakR.up rfl rfl (by simp) (Nat.le_refl _) (.inr (by omega)) (by show 5 ≤ 6; omega) ⟨RenV.closed Below.lit, RenV.ptr (by omega), RenV.closed Below.lit, RenV.ptr (by omega), RenV.ptr (by omega), RenV.inc hO (by omega), trivial⟩ ⟨⟨by omega, _, rfl, .cells (.cons (RenV.closed Below.lit) (.cons (RenV.closed Below.lit) (.cons (RenV.closed hBz) (.cons (RenV.closed Below.lit) .nil)))), .inr rfl⟩, ⟨by omega, _, rfl, .cells (.cons (RenV.closed Below.lit) (.cons (RenV.closed Below.lit) (.cons (RenV.closed hBx) (.cons (RenV.sl (by omega)) .nil)))), .inr rfl⟩, ⟨by omega, _, rfl, .cells (RenVs.closed (yardC_below y)), .inr rfl⟩, trivial⟩ (fun p hp => ?_)
      obtain rfl := objG_mem hp
      exact ⟨by omega, _, rfl, .cells (RenVs.of_eq (show [iV (O.bin .sub .i64 (O.bin .sub .i64 (Int.ofNat y.nb) 1) (y.cb (O.nat (Int.ofNat (0))))), iV (y.clo (O.nat (Int.ofNat (0)))), iV (y.chi (O.nat (Int.ofNat (0))))] = flatG 3 XB 1 from by rw [hni, hxb]; rfl) (flatG_below hXb (1))), .inl rfl⟩
    · have hz : y.nc = 0 := by
        have : y.nc ≤ 0 := by subst hO; simpa [std] using h
        omega
      refine SW.exit ⟨rfl, _, nl3, rfl, rfl, rfl, rfl, rfl, rfl, ?_, rfl⟩
      show Eqv nl3 (.isl y.nc 3 false XB)
      rw [hz]; exact Eqv.nil
  | succ i =>
    obtain ⟨GX, hGX⟩ : ∃ G, G = flatG 3 XB (i + 1) := ⟨_, rfl⟩
    have hGo : objG 5 3 XB (i + 1) = [(5, .cells none false GX)] := by rw [hGX]; rfl
    show SW _ _ _ _ _ ⟨[(2, .cells none false [iV y.last, iV y.hands, .isl y.nb 3 false ZF, nl3]), (1, .cells none false [iV y.last, iV y.hands, .isl y.nb 3 false XF, .sl 5 0 (i + 1) 3 false]), (0, .cells none false (yardC y))] ++ objG 5 3 XB (i + 1), 6⟩
    rw [hGo]
    refine SW.seq ?_
    refine SW.seqRun tok hO (by cbv <;> rfl) (by trivial) ?_
    refine SW.condS (by cbv <;> rfl) (fun h => SW.skip ?_) (fun h => ?_)
    · have hlt : i + 1 < y.nc := by
        have : ((i + 1 : Nat) : Int) < (y.nc : Int) := by subst hO; simpa [std] using h
        omega
      have k0 : (0 : Int) ≤ Int.ofNat (i + 1) := Int.natCast_nonneg _
      have kN : Int.ofNat (i + 1) < Int.ofNat y.nc := Int.ofNat_lt.2 hlt
      have hni : O.nat (Int.ofNat (i + 1)) = i + 1 := hnat _
      have hxb := hxb (i + 1)
      refine SW.seq (SW.block ?_)
      refine SW.seqRun tok hO (by cbv <;> rfl) (by exact ⟨k0, kN⟩) ?_
      refine SW.seqRun tok hO (by cbv <;> rfl) (by trivial) ?_
      refine SW.runN tok hO 4 (by cbv <;> rfl) (by trivial) ?_
      refine OpsW.appOne (g := XB) tok (by cbv <;> rfl) (by rfl) (by rfl) hGX (by kernel_rfl) (by rfl) (by rfl) (by omega) fun H0 hH0 => ?_
      refine OpsW.run tok hO (by cbv <;> rfl) (by trivial) ?_
      refine SW.run tok hO (by cbv <;> rfl) (by trivial) ?_
      refine ⟨i + 1 + 1, by omega, by omega, ren1 5 8, ?_⟩
      refine WeakR.up rfl rfl (by simp) (Nat.le_refl _) (.inr (by omega)) (by show 5 ≤ 6; omega) ⟨RenV.closed Below.lit, RenV.ptr (by omega), RenV.closed Below.lit, RenV.ptr (by omega), RenV.ptr (by omega), RenV.inc hO (by omega), trivial⟩ ⟨⟨by omega, _, rfl, .cells (.cons (RenV.closed Below.lit) (.cons (RenV.closed Below.lit) (.cons (RenV.closed hBz) (.cons (RenV.closed Below.lit) .nil)))), .inr rfl⟩, ⟨by omega, _, rfl, .cells (.cons (RenV.closed Below.lit) (.cons (RenV.closed Below.lit) (.cons (RenV.closed hBx) (.cons (RenV.sl (by omega)) .nil)))), .inr rfl⟩, ⟨by omega, _, rfl, .cells (RenVs.closed (yardC_below y)), .inr rfl⟩, trivial⟩ (fun p hp => ?_)
      obtain rfl := objG_mem hp
      exact ⟨by omega, _, rfl, .cells (RenVs.of_eq (hH0.trans (show flatG 3 XB (i + 1) ++ [iV (O.bin .sub .i64 (O.bin .sub .i64 (Int.ofNat y.nb) 1) (y.cb (O.nat (Int.ofNat (i + 1))))), iV (y.clo (O.nat (Int.ofNat (i + 1)))), iV (y.chi (O.nat (Int.ofNat (i + 1))))] = flatG 3 XB (i + 1 + 1) from by rw [hni, hxb, hfl XB (i + 1)])) (flatG_below hXb (i + 1 + 1))), .inl rfl⟩
    · have hge : y.nc = i + 1 := by
        have : (y.nc : Int) ≤ ((i + 1 : Nat) : Int) := by subst hO; simpa [std] using h
        omega
      have hlX : (i + 1) * 3 ≤ GX.length := by rw [hGX, flatG_length]; omega
      refine SW.freezeZ (fun j => Nat.beq j 5) 3 (by rfl) ?_
      refine SW.exit ⟨rfl, _, _, rfl, rfl, rfl, rfl, rfl, rfl, ?_, rfl⟩
      show Eqv (frz _ _ 3 (.sl 5 0 (i + 1) 3 false)) (.isl y.nc 3 false XB)
      rw [hge, frz_slE (fm := none) (G := GX) rfl rfl hlX, hGX]
      exact Eqv.isl rfl fun i' k hi' hk => Eqv.of (frz_flat hi' hk (hX1 _ _ _ _))
end Go.Fz
set_option linter.unusedVariables false
set_option linter.unusedSimpArgs false
namespace Go.Fz
open Go.Proofs
set_option maxRecDepth 100000
theorem td_l2m (y : YardD) (b : Int) (hn : y.nc ≤ 1000) (X Z : AV) (hXe : Eqv X (bedsV y.revY)) (hZe : Eqv Z (bedsV y.bakY)) (gg : Nat → AV) (h : AllP (fun p => gg p.1 = p.2) (tdL y b)) :
    SW Try.prog none (nthC 6 (bodyF Try.f15)) (midK 243 (tdL y b) (tdS y (bedsV y.revY) (clmsV y.revY) (bedsV y.bakY) [] 6)) ⟨⟨243, gg⟩, []⟩ (tdS y X nl3 Z [] 5) := by
  refine SW.ren ?_
  refine SW.mono (td_l2 y b hn X Z hXe hZe gg h) ?_
  rintro e fm st ⟨rfl, g, X', rfl, g1, g2, g3, g4, g5, hX', rfl⟩
  refine ⟨tabR [], ⟨⟨243, getT (tdL y b)⟩, []⟩, tdS y (bedsV y.revY) (clmsV y.revY) (bedsV y.bakY) [] 6, ?_, rfl, _, rfl, ⟨rfl, rfl, rfl, rfl, rfl, trivial⟩, rfl⟩
  refine WeakR.tab rfl rfl (by simp) (by rfl) (by show 5 ≤ 6; omega) (by rfl) ⟨?_, ?_, ?_, ?_, ?_, trivial⟩ ⟨⟨by omega, _, rfl, .cells (.cons (RenV.closed Below.lit) (.cons (RenV.closed Below.lit) (.cons (RenV.closed (bedsV_below _)) (.cons (RenV.closed Below.lit) .nil)))), rfl⟩, ⟨by omega, _, rfl, .cells (.cons (RenV.closed Below.lit) (.cons (RenV.closed Below.lit) (.cons (RenV.closed (bedsV_below _)) (.cons (RenV.eqv (RenV.closed (clmsV_below _)) hX') .nil)))), rfl⟩, ⟨by omega, _, rfl, .cells (RenVs.closed (yardC_below y)), rfl⟩, trivial⟩
  · show RenV _ _ _ (g 1); rw [g1]; exact RenV.closed Below.lit
  · show RenV _ _ _ (g 2); rw [g2]; exact RenV.ptr (by omega)
  · show RenV _ _ _ (g 5); rw [g3]; exact RenV.closed Below.lit
  · show RenV _ _ _ (g 6); rw [g4]; exact RenV.ptr (by omega)
  · show RenV _ _ _ (g 7); rw [g5]; exact RenV.ptr (by omega)
def tdT (y : YardD) (XF XG ZF : Nat → Nat → AV) : St := ⟨[(2, .cells none false [iV y.last, iV y.hands, .isl y.nb 3 false ZF, nl3]), (1, .cells none false [iV y.last, iV y.hands, .isl y.nb 3 false XF, .isl y.nc 3 false XG]), (0, .cells none false (yardC y))], 6⟩
set_option maxHeartbeats 8000000 in
theorem td_e9 (haw : Pure Try.prog 18 [] (.lit (.bool true))) (y : YardD) (b : Int) (hz : Int.ofNat y.nb ≠ 0) (XF XG ZF : Nat → Nat → AV) (AL LL SV YV XV : AV) (A : Int) (e20 : Pure Try.prog 20 [yardV y] (yardV y)) (x20 : Pure Try.prog 20 [.agg [iV y.last, iV y.hands, .isl y.nb 3 false XF, .isl y.nc 3 false XG]] XV) (e27 : Pure Try.prog 27 [yardV y, iV (std.bin .rem .i64 (std.conv .i64 b) (Int.ofNat y.nb))] (.tup [AL, iV 9])) (x27 : Pure Try.prog 27 [XV, iV (std.bin .sub .i64 (std.bin .sub .i64 (Int.ofNat y.nb) 1) (std.bin .rem .i64 (std.conv .i64 b) (Int.ofNat y.nb)))] (.tup [AL, iV 9])) (e41 : Pure Try.prog 41 [yardV y] (.tup [LL, iV A])) (x41 : Pure Try.prog 41 [XV] (.tup [LL, iV A])) (e30 : Pure Try.prog 30 [AL, AL] (.sb true)) (e30b : Pure Try.prog 30 [LL, LL] (.sb true)) (e19 : Pure Try.prog 19 [yardV y] (.tup [SV, iV 9]))
    (gg : Nat → AV) (h : AllP (fun p => gg p.1 = p.2) [(1, .lit (.int .u8 b)), (2, .ptr 0 0), (5, iV (Int.ofNat y.nb)), (6, .ptr 1 0), (7, .ptr 2 0)]) :
    SW Try.prog none (restC 7 (bodyF Try.f15)) (trueQ3 Try.f15) ⟨⟨243, gg⟩, []⟩ (tdT y XF XG ZF) := by
  obtain ⟨O, hO⟩ : ∃ O : Ar, O = std := ⟨_, rfl⟩
  obtain ⟨g1, g2, g3, g4, g5, _⟩ := h
  simp only at g1 g2 g3 g4 g5
  rw [← updT_self g1, ← updT_self g2, ← updT_self g3, ← updT_self g4, ← updT_self g5]
  rw [← hO] at e27 x27
  refine (show SW Try.prog none (.seq (.region _ _ _) _) _ _ _ from ?_)
  refine SW.seqRun tok hO (by cbv <;> rfl) (by repeat (first | exact trivial | exact hz | refine ⟨?_, ?_⟩)) ?_
  refine SW.seqRun tok hO (by cbv <;> rfl) (by repeat (first | exact trivial | exact hz | refine ⟨?_, ?_⟩)) ?_
  refine OpsW.callP e20 (by cbv <;> rfl) ?_
  refine OpsW.run tok hO (by cbv <;> rfl) (by repeat (first | exact trivial | exact hz | refine ⟨?_, ?_⟩)) ?_
  refine OpsW.callP e27 (by cbv <;> rfl) ?_
  refine OpsW.run tok hO (by cbv <;> rfl) (by repeat (first | exact trivial | exact hz | refine ⟨?_, ?_⟩)) ?_
  refine SW.seqRun tok hO (by cbv <;> rfl) (by repeat (first | exact trivial | exact hz | refine ⟨?_, ?_⟩)) ?_
  refine OpsW.callP x20 (by cbv <;> rfl) ?_
  refine OpsW.run tok hO (by cbv <;> rfl) (by repeat (first | exact trivial | exact hz | refine ⟨?_, ?_⟩)) ?_
  refine OpsW.callP x27 (by cbv <;> rfl) ?_
  refine OpsW.run tok hO (by cbv <;> rfl) (by repeat (first | exact trivial | exact hz | refine ⟨?_, ?_⟩)) ?_
  refine SW.seqRun tok hO (by cbv <;> rfl) (by repeat (first | exact trivial | exact hz | refine ⟨?_, ?_⟩)) ?_
  refine OpsW.callP e20 (by cbv <;> rfl) ?_
  refine OpsW.run tok hO (by cbv <;> rfl) (by repeat (first | exact trivial | exact hz | refine ⟨?_, ?_⟩)) ?_
  refine OpsW.callP e41 (by cbv <;> rfl) ?_
  refine OpsW.run tok hO (by cbv <;> rfl) (by repeat (first | exact trivial | exact hz | refine ⟨?_, ?_⟩)) ?_
  refine SW.seqRun tok hO (by cbv <;> rfl) (by repeat (first | exact trivial | exact hz | refine ⟨?_, ?_⟩)) ?_
  refine OpsW.callP x20 (by cbv <;> rfl) ?_
  refine OpsW.run tok hO (by cbv <;> rfl) (by repeat (first | exact trivial | exact hz | refine ⟨?_, ?_⟩)) ?_
  refine OpsW.callP x41 (by cbv <;> rfl) ?_
  refine OpsW.run tok hO (by cbv <;> rfl) (by repeat (first | exact trivial | exact hz | refine ⟨?_, ?_⟩)) ?_
  refine SW.seq ?_
  refine SW.seqRun tok hO (by cbv <;> rfl) (by repeat (first | exact trivial | exact hz | refine ⟨?_, ?_⟩)) ?_
  refine OpsW.splitG (by cbv <;> rfl) (fun hw1 => by first | (cases hw1; done) | (subst hO; simp [std] at hw1; done) | (subst hO; simp [std] at hw1; omega)) (fun hw1 => ?_)
  refine OpsW.run tok hO (by cbv <;> rfl) (by repeat (first | exact trivial | exact hz | refine ⟨?_, ?_⟩)) ?_
  refine OpsW.callP e30 (by cbv <;> rfl) ?_
  refine OpsW.run tok hO (by cbv <;> rfl) (by repeat (first | exact trivial | exact hz | refine ⟨?_, ?_⟩)) ?_
  refine OpsW.splitG (by cbv <;> rfl) (fun hw2 => by first | (cases hw2; done) | (subst hO; simp [std] at hw2; done) | (subst hO; simp [std] at hw2; omega)) (fun hw2 => ?_)
  refine OpsW.run tok hO (by cbv <;> rfl) (by repeat (first | exact trivial | exact hz | refine ⟨?_, ?_⟩)) ?_
  refine OpsW.splitG (by cbv <;> rfl) (fun hw3 => by first | (cases hw3; done) | (subst hO; simp [std] at hw3; done) | (subst hO; simp [std] at hw3; omega)) (fun hw3 => ?_)
  refine OpsW.run tok hO (by cbv <;> rfl) (by repeat (first | exact trivial | exact hz | refine ⟨?_, ?_⟩)) ?_
  refine OpsW.callP e30b (by cbv <;> rfl) ?_
  refine OpsW.run tok hO (by cbv <;> rfl) (by repeat (first | exact trivial | exact hz | refine ⟨?_, ?_⟩)) ?_
  refine OpsW.splitG (by cbv <;> rfl) (fun hw4 => by first | (cases hw4; done) | (subst hO; simp [std] at hw4; done) | (subst hO; simp [std] at hw4; omega)) (fun hw4 => ?_)
  refine OpsW.run tok hO (by cbv <;> rfl) (by repeat (first | exact trivial | exact hz | refine ⟨?_, ?_⟩)) ?_
  refine OpsW.splitG (by cbv <;> rfl) (fun hw5 => ?_) (fun hw5 => by first | (cases hw5; done) | (subst hO; simp [std] at hw5; done) | (subst hO; simp [std] at hw5; omega))
  refine OpsW.run tok hO (by cbv <;> rfl) (by repeat (first | exact trivial | exact hz | refine ⟨?_, ?_⟩)) ?_
  refine OpsW.splitG (by cbv <;> rfl) (fun hw6 => ?_) (fun hw6 => by first | (cases hw6; done) | (subst hO; simp [std] at hw6; done) | (subst hO; simp [std] at hw6; omega))
  refine OpsW.run tok hO (by cbv <;> rfl) (by repeat (first | exact trivial | exact hz | refine ⟨?_, ?_⟩)) ?_
  refine SW.condS (by cbv <;> rfl) (fun hw7 => by first | (cases hw7; done) | (subst hO; simp [std] at hw7; done) | (subst hO; simp [std] at hw7; omega)) (fun hw7 => SW.skip ?_)
  refine SW.seqRun tok hO (by cbv <;> rfl) (by repeat (first | exact trivial | exact hz | refine ⟨?_, ?_⟩)) ?_
  refine OpsW.callP e20 (by cbv <;> rfl) ?_
  refine OpsW.run tok hO (by cbv <;> rfl) (by repeat (first | exact trivial | exact hz | refine ⟨?_, ?_⟩)) ?_
  refine OpsW.callP e19 (by cbv <;> rfl) ?_
  refine OpsW.run tok hO (by cbv <;> rfl) (by repeat (first | exact trivial | exact hz | refine ⟨?_, ?_⟩)) ?_
  refine SW.seq ?_
  refine SW.seqRun tok hO (by cbv <;> rfl) (by repeat (first | exact trivial | exact hz | refine ⟨?_, ?_⟩)) ?_
  refine OpsW.splitG (by cbv <;> rfl) (fun hw8 => ?_) (fun hw8 => by first | (cases hw8; done) | (subst hO; simp [std] at hw8; done) | (subst hO; simp [std] at hw8; omega))
  refine OpsW.run tok hO (by cbv <;> rfl) (by repeat (first | exact trivial | exact hz | refine ⟨?_, ?_⟩)) ?_
  refine SW.cond (t := true) (by cbv <;> rfl) ?_
  refine SW.seqRun tok hO (by cbv <;> rfl) (by repeat (first | exact trivial | exact hz | refine ⟨?_, ?_⟩)) ?_
  refine OpsW.splitG (by cbv <;> rfl) (fun hw9 => ?_) (fun hw9 => by first | (cases hw9; done) | (subst hO; simp [std] at hw9; done) | (subst hO; simp [std] at hw9; omega))
  refine OpsW.run tok hO (by cbv <;> rfl) (by repeat (first | exact trivial | exact hz | refine ⟨?_, ?_⟩)) ?_
  refine OpsW.callP haw (by cbv <;> rfl) ?_
  refine OpsW.run tok hO (by cbv <;> rfl) (by repeat (first | exact trivial | exact hz | refine ⟨?_, ?_⟩)) ?_
  exact SW.ret ⟨_, _, rfl, rfl, Eqv.of rfl⟩
set_option maxHeartbeats 8000000 in
theorem td_e10 (haw : Pure Try.prog 18 [] (.lit (.bool true))) (y : YardD) (b : Int) (hz : Int.ofNat y.nb ≠ 0) (XF XG ZF : Nat → Nat → AV) (AL LL SV YV XV : AV) (A : Int) (e20 : Pure Try.prog 20 [yardV y] (yardV y)) (x20 : Pure Try.prog 20 [.agg [iV y.last, iV y.hands, .isl y.nb 3 false XF, .isl y.nc 3 false XG]] XV) (e27 : Pure Try.prog 27 [yardV y, iV (std.bin .rem .i64 (std.conv .i64 b) (Int.ofNat y.nb))] (.tup [AL, iV 10])) (x27 : Pure Try.prog 27 [XV, iV (std.bin .sub .i64 (std.bin .sub .i64 (Int.ofNat y.nb) 1) (std.bin .rem .i64 (std.conv .i64 b) (Int.ofNat y.nb)))] (.tup [AL, iV 10])) (e41 : Pure Try.prog 41 [yardV y] (.tup [LL, iV A])) (x41 : Pure Try.prog 41 [XV] (.tup [LL, iV A])) (e30 : Pure Try.prog 30 [AL, AL] (.sb true)) (e30b : Pure Try.prog 30 [LL, LL] (.sb true)) (e19 : Pure Try.prog 19 [yardV y] (.tup [SV, iV 10]))
    (gg : Nat → AV) (h : AllP (fun p => gg p.1 = p.2) [(1, .lit (.int .u8 b)), (2, .ptr 0 0), (5, iV (Int.ofNat y.nb)), (6, .ptr 1 0), (7, .ptr 2 0)]) :
    SW Try.prog none (restC 7 (bodyF Try.f15)) (trueQ3 Try.f15) ⟨⟨243, gg⟩, []⟩ (tdT y XF XG ZF) := by
  obtain ⟨O, hO⟩ : ∃ O : Ar, O = std := ⟨_, rfl⟩
  obtain ⟨g1, g2, g3, g4, g5, _⟩ := h
  simp only at g1 g2 g3 g4 g5
  rw [← updT_self g1, ← updT_self g2, ← updT_self g3, ← updT_self g4, ← updT_self g5]
  rw [← hO] at e27 x27
  refine (show SW Try.prog none (.seq (.region _ _ _) _) _ _ _ from ?_)
  refine SW.seqRun tok hO (by cbv <;> rfl) (by repeat (first | exact trivial | exact hz | refine ⟨?_, ?_⟩)) ?_
  refine SW.seqRun tok hO (by cbv <;> rfl) (by repeat (first | exact trivial | exact hz | refine ⟨?_, ?_⟩)) ?_
  refine OpsW.callP e20 (by cbv <;> rfl) ?_
  refine OpsW.run tok hO (by cbv <;> rfl) (by repeat (first | exact trivial | exact hz | refine ⟨?_, ?_⟩)) ?_
  refine OpsW.callP e27 (by cbv <;> rfl) ?_
  refine OpsW.run tok hO (by cbv <;> rfl) (by repeat (first | exact trivial | exact hz | refine ⟨?_, ?_⟩)) ?_
  refine SW.seqRun tok hO (by cbv <;> rfl) (by repeat (first | exact trivial | exact hz | refine ⟨?_, ?_⟩)) ?_
  refine OpsW.callP x20 (by cbv <;> rfl) ?_
  refine OpsW.run tok hO (by cbv <;> rfl) (by repeat (first | exact trivial | exact hz | refine ⟨?_, ?_⟩)) ?_
  refine OpsW.callP x27 (by cbv <;> rfl) ?_
  refine OpsW.run tok hO (by cbv <;> rfl) (by repeat (first | exact trivial | exact hz | refine ⟨?_, ?_⟩)) ?_
  refine SW.seqRun tok hO (by cbv <;> rfl) (by repeat (first | exact trivial | exact hz | refine ⟨?_, ?_⟩)) ?_
  refine OpsW.callP e20 (by cbv <;> rfl) ?_
  refine OpsW.run tok hO (by cbv <;> rfl) (by repeat (first | exact trivial | exact hz | refine ⟨?_, ?_⟩)) ?_
  refine OpsW.callP e41 (by cbv <;> rfl) ?_
  refine OpsW.run tok hO (by cbv <;> rfl) (by repeat (first | exact trivial | exact hz | refine ⟨?_, ?_⟩)) ?_
  refine SW.seqRun tok hO (by cbv <;> rfl) (by repeat (first | exact trivial | exact hz | refine ⟨?_, ?_⟩)) ?_
  refine OpsW.callP x20 (by cbv <;> rfl) ?_
  refine OpsW.run tok hO (by cbv <;> rfl) (by repeat (first | exact trivial | exact hz | refine ⟨?_, ?_⟩)) ?_
  refine OpsW.callP x41 (by cbv <;> rfl) ?_
  refine OpsW.run tok hO (by cbv <;> rfl) (by repeat (first | exact trivial | exact hz | refine ⟨?_, ?_⟩)) ?_
  refine SW.seq ?_
  refine SW.seqRun tok hO (by cbv <;> rfl) (by repeat (first | exact trivial | exact hz | refine ⟨?_, ?_⟩)) ?_
  refine OpsW.splitG (by cbv <;> rfl) (fun hw1 => by first | (cases hw1; done) | (subst hO; simp [std] at hw1; done) | (subst hO; simp [std] at hw1; omega)) (fun hw1 => ?_)
  refine OpsW.run tok hO (by cbv <;> rfl) (by repeat (first | exact trivial | exact hz | refine ⟨?_, ?_⟩)) ?_
  refine OpsW.callP e30 (by cbv <;> rfl) ?_
  refine OpsW.run tok hO (by cbv <;> rfl) (by repeat (first | exact trivial | exact hz | refine ⟨?_, ?_⟩)) ?_
  refine OpsW.splitG (by cbv <;> rfl) (fun hw2 => by first | (cases hw2; done) | (subst hO; simp [std] at hw2; done) | (subst hO; simp [std] at hw2; omega)) (fun hw2 => ?_)
  refine OpsW.run tok hO (by cbv <;> rfl) (by repeat (first | exact trivial | exact hz | refine ⟨?_, ?_⟩)) ?_
  refine OpsW.splitG (by cbv <;> rfl) (fun hw3 => by first | (cases hw3; done) | (subst hO; simp [std] at hw3; done) | (subst hO; simp [std] at hw3; omega)) (fun hw3 => ?_)
  refine OpsW.run tok hO (by cbv <;> rfl) (by repeat (first | exact trivial | exact hz | refine ⟨?_, ?_⟩)) ?_
  refine OpsW.callP e30b (by cbv <;> rfl) ?_
  refine OpsW.run tok hO (by cbv <;> rfl) (by repeat (first | exact trivial | exact hz | refine ⟨?_, ?_⟩)) ?_
  refine OpsW.splitG (by cbv <;> rfl) (fun hw4 => by first | (cases hw4; done) | (subst hO; simp [std] at hw4; done) | (subst hO; simp [std] at hw4; omega)) (fun hw4 => ?_)
  refine OpsW.run tok hO (by cbv <;> rfl) (by repeat (first | exact trivial | exact hz | refine ⟨?_, ?_⟩)) ?_
  refine OpsW.splitG (by cbv <;> rfl) (fun hw5 => ?_) (fun hw5 => by first | (cases hw5; done) | (subst hO; simp [std] at hw5; done) | (subst hO; simp [std] at hw5; omega))
  refine OpsW.run tok hO (by cbv <;> rfl) (by repeat (first | exact trivial | exact hz | refine ⟨?_, ?_⟩)) ?_
  refine OpsW.splitG (by cbv <;> rfl) (fun hw6 => by first | (cases hw6; done) | (subst hO; simp [std] at hw6; done) | (subst hO; simp [std] at hw6; omega)) (fun hw6 => ?_)
  refine OpsW.run tok hO (by cbv <;> rfl) (by repeat (first | exact trivial | exact hz | refine ⟨?_, ?_⟩)) ?_
  refine SW.cond (t := false) (by cbv <;> rfl) (SW.skip ?_)
  refine SW.seqRun tok hO (by cbv <;> rfl) (by repeat (first | exact trivial | exact hz | refine ⟨?_, ?_⟩)) ?_
  refine OpsW.callP e20 (by cbv <;> rfl) ?_
  refine OpsW.run tok hO (by cbv <;> rfl) (by repeat (first | exact trivial | exact hz | refine ⟨?_, ?_⟩)) ?_
  refine OpsW.callP e19 (by cbv <;> rfl) ?_
  refine OpsW.run tok hO (by cbv <;> rfl) (by repeat (first | exact trivial | exact hz | refine ⟨?_, ?_⟩)) ?_
  refine SW.seq ?_
  refine SW.seqRun tok hO (by cbv <;> rfl) (by repeat (first | exact trivial | exact hz | refine ⟨?_, ?_⟩)) ?_
  refine OpsW.splitG (by cbv <;> rfl) (fun hw7 => ?_) (fun hw7 => by first | (cases hw7; done) | (subst hO; simp [std] at hw7; done) | (subst hO; simp [std] at hw7; omega))
  refine OpsW.run tok hO (by cbv <;> rfl) (by repeat (first | exact trivial | exact hz | refine ⟨?_, ?_⟩)) ?_
  refine SW.cond (t := true) (by cbv <;> rfl) ?_
  refine SW.seqRun tok hO (by cbv <;> rfl) (by repeat (first | exact trivial | exact hz | refine ⟨?_, ?_⟩)) ?_
  refine OpsW.splitG (by cbv <;> rfl) (fun hw8 => ?_) (fun hw8 => by first | (cases hw8; done) | (subst hO; simp [std] at hw8; done) | (subst hO; simp [std] at hw8; omega))
  refine OpsW.run tok hO (by cbv <;> rfl) (by repeat (first | exact trivial | exact hz | refine ⟨?_, ?_⟩)) ?_
  refine OpsW.callP haw (by cbv <;> rfl) ?_
  refine OpsW.run tok hO (by cbv <;> rfl) (by repeat (first | exact trivial | exact hz | refine ⟨?_, ?_⟩)) ?_
  exact SW.ret ⟨_, _, rfl, rfl, Eqv.of rfl⟩
set_option maxHeartbeats 8000000 in
theorem td_eW (haw : Pure Try.prog 18 [] (.lit (.bool true))) (y : YardD) (b : Int) (hz : Int.ofNat y.nb ≠ 0) (XF XG ZF : Nat → Nat → AV) (AL LL SV YV XV : AV) (A : Int) (W : Int) (e24 : Pure Try.prog 24 [.agg [iV y.last, iV y.hands, .isl y.nb 3 false ZF, nl3]] (iV W)) (hW : ¬ W = 0) (e20 : Pure Try.prog 20 [yardV y] (yardV y)) (x20 : Pure Try.prog 20 [.agg [iV y.last, iV y.hands, .isl y.nb 3 false XF, .isl y.nc 3 false XG]] XV) (e27 : Pure Try.prog 27 [yardV y, iV (std.bin .rem .i64 (std.conv .i64 b) (Int.ofNat y.nb))] (.tup [AL, iV 0])) (x27 : Pure Try.prog 27 [XV, iV (std.bin .sub .i64 (std.bin .sub .i64 (Int.ofNat y.nb) 1) (std.bin .rem .i64 (std.conv .i64 b) (Int.ofNat y.nb)))] (.tup [AL, iV 0])) (e41 : Pure Try.prog 41 [yardV y] (.tup [LL, iV A])) (x41 : Pure Try.prog 41 [XV] (.tup [LL, iV A])) (e30 : Pure Try.prog 30 [AL, AL] (.sb true)) (e30b : Pure Try.prog 30 [LL, LL] (.sb true)) (e19 : Pure Try.prog 19 [yardV y] (.tup [SV, iV 0]))
    (gg : Nat → AV) (h : AllP (fun p => gg p.1 = p.2) [(1, .lit (.int .u8 b)), (2, .ptr 0 0), (5, iV (Int.ofNat y.nb)), (6, .ptr 1 0), (7, .ptr 2 0)]) :
    SW Try.prog none (restC 7 (bodyF Try.f15)) (trueQ3 Try.f15) ⟨⟨243, gg⟩, []⟩ (tdT y XF XG ZF) := by
  obtain ⟨O, hO⟩ : ∃ O : Ar, O = std := ⟨_, rfl⟩
  obtain ⟨g1, g2, g3, g4, g5, _⟩ := h
  simp only at g1 g2 g3 g4 g5
  rw [← updT_self g1, ← updT_self g2, ← updT_self g3, ← updT_self g4, ← updT_self g5]
  rw [← hO] at e27 x27
  refine (show SW Try.prog none (.seq (.region _ _ _) _) _ _ _ from ?_)
  refine SW.seqRun tok hO (by cbv <;> rfl) (by repeat (first | exact trivial | exact hz | refine ⟨?_, ?_⟩)) ?_
  refine SW.seqRun tok hO (by cbv <;> rfl) (by repeat (first | exact trivial | exact hz | refine ⟨?_, ?_⟩)) ?_
  refine OpsW.callP e20 (by cbv <;> rfl) ?_
  refine OpsW.run tok hO (by cbv <;> rfl) (by repeat (first | exact trivial | exact hz | refine ⟨?_, ?_⟩)) ?_
  refine OpsW.callP e27 (by cbv <;> rfl) ?_
  refine OpsW.run tok hO (by cbv <;> rfl) (by repeat (first | exact trivial | exact hz | refine ⟨?_, ?_⟩)) ?_
  refine SW.seqRun tok hO (by cbv <;> rfl) (by repeat (first | exact trivial | exact hz | refine ⟨?_, ?_⟩)) ?_
  refine OpsW.callP x20 (by cbv <;> rfl) ?_
  refine OpsW.run tok hO (by cbv <;> rfl) (by repeat (first | exact trivial | exact hz | refine ⟨?_, ?_⟩)) ?_
  refine OpsW.callP x27 (by cbv <;> rfl) ?_
  refine OpsW.run tok hO (by cbv <;> rfl) (by repeat (first | exact trivial | exact hz | refine ⟨?_, ?_⟩)) ?_
  refine SW.seqRun tok hO (by cbv <;> rfl) (by repeat (first | exact trivial | exact hz | refine ⟨?_, ?_⟩)) ?_
  refine OpsW.callP e20 (by cbv <;> rfl) ?_
  refine OpsW.run tok hO (by cbv <;> rfl) (by repeat (first | exact trivial | exact hz | refine ⟨?_, ?_⟩)) ?_
  refine OpsW.callP e41 (by cbv <;> rfl) ?_
  refine OpsW.run tok hO (by cbv <;> rfl) (by repeat (first | exact trivial | exact hz | refine ⟨?_, ?_⟩)) ?_
  refine SW.seqRun tok hO (by cbv <;> rfl) (by repeat (first | exact trivial | exact hz | refine ⟨?_, ?_⟩)) ?_
  refine OpsW.callP x20 (by cbv <;> rfl) ?_
  refine OpsW.run tok hO (by cbv <;> rfl) (by repeat (first | exact trivial | exact hz | refine ⟨?_, ?_⟩)) ?_
  refine OpsW.callP x41 (by cbv <;> rfl) ?_
  refine OpsW.run tok hO (by cbv <;> rfl) (by repeat (first | exact trivial | exact hz | refine ⟨?_, ?_⟩)) ?_
  refine SW.seq ?_
  refine SW.seqRun tok hO (by cbv <;> rfl) (by repeat (first | exact trivial | exact hz | refine ⟨?_, ?_⟩)) ?_
  refine OpsW.splitG (by cbv <;> rfl) (fun hw1 => by first | (cases hw1; done) | (subst hO; simp [std, hW] at hw1; done) | (subst hO; simp [std, hW] at hw1; omega)) (fun hw1 => ?_)
  refine OpsW.run tok hO (by cbv <;> rfl) (by repeat (first | exact trivial | exact hz | refine ⟨?_, ?_⟩)) ?_
  refine OpsW.callP e30 (by cbv <;> rfl) ?_
  refine OpsW.run tok hO (by cbv <;> rfl) (by repeat (first | exact trivial | exact hz | refine ⟨?_, ?_⟩)) ?_
  refine OpsW.splitG (by cbv <;> rfl) (fun hw2 => by first | (cases hw2; done) | (subst hO; simp [std, hW] at hw2; done) | (subst hO; simp [std, hW] at hw2; omega)) (fun hw2 => ?_)
  refine OpsW.run tok hO (by cbv <;> rfl) (by repeat (first | exact trivial | exact hz | refine ⟨?_, ?_⟩)) ?_
  refine OpsW.splitG (by cbv <;> rfl) (fun hw3 => by first | (cases hw3; done) | (subst hO; simp [std, hW] at hw3; done) | (subst hO; simp [std, hW] at hw3; omega)) (fun hw3 => ?_)
  refine OpsW.run tok hO (by cbv <;> rfl) (by repeat (first | exact trivial | exact hz | refine ⟨?_, ?_⟩)) ?_
  refine OpsW.callP e30b (by cbv <;> rfl) ?_
  refine OpsW.run tok hO (by cbv <;> rfl) (by repeat (first | exact trivial | exact hz | refine ⟨?_, ?_⟩)) ?_
  refine OpsW.splitG (by cbv <;> rfl) (fun hw4 => by first | (cases hw4; done) | (subst hO; simp [std, hW] at hw4; done) | (subst hO; simp [std, hW] at hw4; omega)) (fun hw4 => ?_)
  refine OpsW.run tok hO (by cbv <;> rfl) (by repeat (first | exact trivial | exact hz | refine ⟨?_, ?_⟩)) ?_
  refine OpsW.splitG (by cbv <;> rfl) (fun hw5 => by first | (cases hw5; done) | (subst hO; simp [std, hW] at hw5; done) | (subst hO; simp [std, hW] at hw5; omega)) (fun hw5 => ?_)
  refine OpsW.run tok hO (by cbv <;> rfl) (by repeat (first | exact trivial | exact hz | refine ⟨?_, ?_⟩)) ?_
  refine SW.cond (t := false) (by cbv <;> rfl) (SW.skip ?_)
  refine SW.seqRun tok hO (by cbv <;> rfl) (by repeat (first | exact trivial | exact hz | refine ⟨?_, ?_⟩)) ?_
  refine OpsW.callP e20 (by cbv <;> rfl) ?_
  refine OpsW.run tok hO (by cbv <;> rfl) (by repeat (first | exact trivial | exact hz | refine ⟨?_, ?_⟩)) ?_
  refine OpsW.callP e19 (by cbv <;> rfl) ?_
  refine OpsW.run tok hO (by cbv <;> rfl) (by repeat (first | exact trivial | exact hz | refine ⟨?_, ?_⟩)) ?_
  refine SW.seq ?_
  refine SW.seqRun tok hO (by cbv <;> rfl) (by repeat (first | exact trivial | exact hz | refine ⟨?_, ?_⟩)) ?_
  refine OpsW.splitG (by cbv <;> rfl) (fun hw6 => by first | (cases hw6; done) | (subst hO; simp [std, hW] at hw6; done) | (subst hO; simp [std, hW] at hw6; omega)) (fun hw6 => ?_)
  refine OpsW.run tok hO (by cbv <;> rfl) (by repeat (first | exact trivial | exact hz | refine ⟨?_, ?_⟩)) ?_
  refine OpsW.callP e24 (by cbv <;> rfl) ?_
  refine OpsW.run tok hO (by cbv <;> rfl) (by repeat (first | exact trivial | exact hz | refine ⟨?_, ?_⟩)) ?_
  refine SW.condS (by cbv <;> rfl) (fun hw7 => ?_) (fun hw7 => by first | (cases hw7; done) | (subst hO; simp [std, hW] at hw7; done) | (subst hO; simp [std, hW] at hw7; omega))
  refine SW.seqRun tok hO (by cbv <;> rfl) (by repeat (first | exact trivial | exact hz | refine ⟨?_, ?_⟩)) ?_
  refine OpsW.splitG (by cbv <;> rfl) (fun hw8 => ?_) (fun hw8 => by first | (cases hw8; done) | (subst hO; simp [std, hW] at hw8; done) | (subst hO; simp [std, hW] at hw8; omega))
  refine OpsW.run tok hO (by cbv <;> rfl) (by repeat (first | exact trivial | exact hz | refine ⟨?_, ?_⟩)) ?_
  refine OpsW.callP haw (by cbv <;> rfl) ?_
  refine OpsW.run tok hO (by cbv <;> rfl) (by repeat (first | exact trivial | exact hz | refine ⟨?_, ?_⟩)) ?_
  exact SW.ret ⟨_, _, rfl, rfl, Eqv.of rfl⟩
set_option maxHeartbeats 8000000 in
theorem td_e0 (haw : Pure Try.prog 18 [] (.lit (.bool true))) (y : YardD) (b : Int) (hz : Int.ofNat y.nb ≠ 0) (XF XG ZF : Nat → Nat → AV) (AL LL  YV XV : AV) (A : Int) (fs : Nat → Int) (W : Int) (e24 : Pure Try.prog 24 [.agg [iV y.last, iV y.hands, .isl y.nb 3 false ZF, nl3]] (iV W)) (hW : W = 0) (e20 : Pure Try.prog 20 [yardV y] (yardV y)) (x20 : Pure Try.prog 20 [.agg [iV y.last, iV y.hands, .isl y.nb 3 false XF, .isl y.nc 3 false XG]] XV) (e27 : Pure Try.prog 27 [yardV y, iV (std.bin .rem .i64 (std.conv .i64 b) (Int.ofNat y.nb))] (.tup [AL, iV 0])) (x27 : Pure Try.prog 27 [XV, iV (std.bin .sub .i64 (std.bin .sub .i64 (Int.ofNat y.nb) 1) (std.bin .rem .i64 (std.conv .i64 b) (Int.ofNat y.nb)))] (.tup [AL, iV 0])) (e41 : Pure Try.prog 41 [yardV y] (.tup [LL, iV A])) (x41 : Pure Try.prog 41 [XV] (.tup [LL, iV A])) (e30 : Pure Try.prog 30 [AL, AL] (.sb true)) (e30b : Pure Try.prog 30 [LL, LL] (.sb true)) (e19 : Pure Try.prog 19 [yardV y] (.tup [intsV y.nb false fs, iV 0]))
    (htail : ∀ (gg : Nat → AV), AllP (fun p => gg p.1 = p.2) [(2, .ptr 0 0), (5, iV (Int.ofNat y.nb)), (7, .ptr 2 0), (22, intsV y.nb false fs), (24, nl3)] → SW Try.prog none (restC 17 (bodyF Try.f15)) (trueQ3 Try.f15) ⟨⟨243, gg⟩, []⟩ (tdT y XF XG ZF))
    (gg : Nat → AV) (h : AllP (fun p => gg p.1 = p.2) [(1, .lit (.int .u8 b)), (2, .ptr 0 0), (5, iV (Int.ofNat y.nb)), (6, .ptr 1 0), (7, .ptr 2 0)]) :
    SW Try.prog none (restC 7 (bodyF Try.f15)) (trueQ3 Try.f15) ⟨⟨243, gg⟩, []⟩ (tdT y XF XG ZF) := by
  obtain ⟨O, hO⟩ : ∃ O : Ar, O = std := ⟨_, rfl⟩
  obtain ⟨g1, g2, g3, g4, g5, _⟩ := h
  simp only at g1 g2 g3 g4 g5
  rw [← updT_self g1, ← updT_self g2, ← updT_self g3, ← updT_self g4, ← updT_self g5]
  rw [← hO] at e27 x27
  refine (show SW Try.prog none (.seq (.region _ _ _) _) _ _ _ from ?_)
  refine SW.seqRun tok hO (by cbv <;> rfl) (by repeat (first | exact trivial | exact hz | refine ⟨?_, ?_⟩)) ?_
  refine SW.seqRun tok hO (by cbv <;> rfl) (by repeat (first | exact trivial | exact hz | refine ⟨?_, ?_⟩)) ?_
  refine OpsW.callP e20 (by cbv <;> rfl) ?_
  refine OpsW.run tok hO (by cbv <;> rfl) (by repeat (first | exact trivial | exact hz | refine ⟨?_, ?_⟩)) ?_
  refine OpsW.callP e27 (by cbv <;> rfl) ?_
  refine OpsW.run tok hO (by cbv <;> rfl) (by repeat (first | exact trivial | exact hz | refine ⟨?_, ?_⟩)) ?_
  refine SW.seqRun tok hO (by cbv <;> rfl) (by repeat (first | exact trivial | exact hz | refine ⟨?_, ?_⟩)) ?_
  refine OpsW.callP x20 (by cbv <;> rfl) ?_
  refine OpsW.run tok hO (by cbv <;> rfl) (by repeat (first | exact trivial | exact hz | refine ⟨?_, ?_⟩)) ?_
  refine OpsW.callP x27 (by cbv <;> rfl) ?_
  refine OpsW.run tok hO (by cbv <;> rfl) (by repeat (first | exact trivial | exact hz | refine ⟨?_, ?_⟩)) ?_
  refine SW.seqRun tok hO (by cbv <;> rfl) (by repeat (first | exact trivial | exact hz | refine ⟨?_, ?_⟩)) ?_
  refine OpsW.callP e20 (by cbv <;> rfl) ?_
  refine OpsW.run tok hO (by cbv <;> rfl) (by repeat (first | exact trivial | exact hz | refine ⟨?_, ?_⟩)) ?_
  refine OpsW.callP e41 (by cbv <;> rfl) ?_
  refine OpsW.run tok hO (by cbv <;> rfl) (by repeat (first | exact trivial | exact hz | refine ⟨?_, ?_⟩)) ?_
  refine SW.seqRun tok hO (by cbv <;> rfl) (by repeat (first | exact trivial | exact hz | refine ⟨?_, ?_⟩)) ?_
  refine OpsW.callP x20 (by cbv <;> rfl) ?_
  refine OpsW.run tok hO (by cbv <;> rfl) (by repeat (first | exact trivial | exact hz | refine ⟨?_, ?_⟩)) ?_
  refine OpsW.callP x41 (by cbv <;> rfl) ?_
  refine OpsW.run tok hO (by cbv <;> rfl) (by repeat (first | exact trivial | exact hz | refine ⟨?_, ?_⟩)) ?_
  refine SW.seq ?_
  refine SW.seqRun tok hO (by cbv <;> rfl) (by repeat (first | exact trivial | exact hz | refine ⟨?_, ?_⟩)) ?_
  refine OpsW.splitG (by cbv <;> rfl) (fun hw1 => by first | (cases hw1; done) | (subst hO; simp [std, hW] at hw1; done) | (subst hO; simp [std, hW] at hw1; omega)) (fun hw1 => ?_)
  refine OpsW.run tok hO (by cbv <;> rfl) (by repeat (first | exact trivial | exact hz | refine ⟨?_, ?_⟩)) ?_
  refine OpsW.callP e30 (by cbv <;> rfl) ?_
  refine OpsW.run tok hO (by cbv <;> rfl) (by repeat (first | exact trivial | exact hz | refine ⟨?_, ?_⟩)) ?_
  refine OpsW.splitG (by cbv <;> rfl) (fun hw2 => by first | (cases hw2; done) | (subst hO; simp [std, hW] at hw2; done) | (subst hO; simp [std, hW] at hw2; omega)) (fun hw2 => ?_)
  refine OpsW.run tok hO (by cbv <;> rfl) (by repeat (first | exact trivial | exact hz | refine ⟨?_, ?_⟩)) ?_
  refine OpsW.splitG (by cbv <;> rfl) (fun hw3 => by first | (cases hw3; done) | (subst hO; simp [std, hW] at hw3; done) | (subst hO; simp [std, hW] at hw3; omega)) (fun hw3 => ?_)
  refine OpsW.run tok hO (by cbv <;> rfl) (by repeat (first | exact trivial | exact hz | refine ⟨?_, ?_⟩)) ?_
  refine OpsW.callP e30b (by cbv <;> rfl) ?_
  refine OpsW.run tok hO (by cbv <;> rfl) (by repeat (first | exact trivial | exact hz | refine ⟨?_, ?_⟩)) ?_
  refine OpsW.splitG (by cbv <;> rfl) (fun hw4 => by first | (cases hw4; done) | (subst hO; simp [std, hW] at hw4; done) | (subst hO; simp [std, hW] at hw4; omega)) (fun hw4 => ?_)
  refine OpsW.run tok hO (by cbv <;> rfl) (by repeat (first | exact trivial | exact hz | refine ⟨?_, ?_⟩)) ?_
  refine OpsW.splitG (by cbv <;> rfl) (fun hw5 => by first | (cases hw5; done) | (subst hO; simp [std, hW] at hw5; done) | (subst hO; simp [std, hW] at hw5; omega)) (fun hw5 => ?_)
  refine OpsW.run tok hO (by cbv <;> rfl) (by repeat (first | exact trivial | exact hz | refine ⟨?_, ?_⟩)) ?_
  refine SW.cond (t := false) (by cbv <;> rfl) (SW.skip ?_)
  refine SW.seqRun tok hO (by cbv <;> rfl) (by repeat (first | exact trivial | exact hz | refine ⟨?_, ?_⟩)) ?_
  refine OpsW.callP e20 (by cbv <;> rfl) ?_
  refine OpsW.run tok hO (by cbv <;> rfl) (by repeat (first | exact trivial | exact hz | refine ⟨?_, ?_⟩)) ?_
  refine OpsW.callP e19 (by cbv <;> rfl) ?_
  refine OpsW.run tok hO (by cbv <;> rfl) (by repeat (first | exact trivial | exact hz | refine ⟨?_, ?_⟩)) ?_
  refine SW.seq ?_
  refine SW.seqRun tok hO (by cbv <;> rfl) (by repeat (first | exact trivial | exact hz | refine ⟨?_, ?_⟩)) ?_
  refine OpsW.splitG (by cbv <;> rfl) (fun hw6 => by first | (cases hw6; done) | (subst hO; simp [std, hW] at hw6; done) | (subst hO; simp [std, hW] at hw6; omega)) (fun hw6 => ?_)
  refine OpsW.run tok hO (by cbv <;> rfl) (by repeat (first | exact trivial | exact hz | refine ⟨?_, ?_⟩)) ?_
  refine OpsW.callP e24 (by cbv <;> rfl) ?_
  refine OpsW.run tok hO (by cbv <;> rfl) (by repeat (first | exact trivial | exact hz | refine ⟨?_, ?_⟩)) ?_
  refine SW.condS (by cbv <;> rfl) (fun hw7 => by first | (cases hw7; done) | (subst hO; simp [std, hW] at hw7; done) | (subst hO; simp [std, hW] at hw7; omega)) (fun hw7 => SW.skip ?_)
  refine SW.seq ?_
  refine SW.seqRun tok hO (by cbv <;> rfl) (by repeat (first | exact trivial | exact hz | refine ⟨?_, ?_⟩)) ?_
  refine SW.condS (by cbv <;> rfl) (fun hw8 => by first | (cases hw8; done) | (subst hO; simp [std, hW] at hw8; done) | (subst hO; simp [std, hW] at hw8; omega)) (fun hw8 => SW.skip ?_)
  refine SW.seqRun tok hO (by cbv <;> rfl) (by repeat (first | exact trivial | exact hz | refine ⟨?_, ?_⟩)) ?_
  exact htail _ ⟨rfl, rfl, rfl, rfl, rfl, trivial⟩
end Go.Fz
