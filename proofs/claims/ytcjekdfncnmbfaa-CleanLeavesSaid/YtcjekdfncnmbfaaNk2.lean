/- Own work of the verifier of watercress: FzLv1, FzRs4, FzRs5, FzRl1, FzRl2, FzTd2, FzTd3, FzTd4, FzTd5, FzTd6, FzTd7, FzLv2. -/
import Derived.Below
import Derived.CallsIn
import Derived.Carry
import Derived.ChangeKeysEq
import Derived.ChangeSame
import Derived.Deep.Slices
import Derived.DeepKeys4
import Derived.JoinedCond
import Derived.Laws.AppendOwn
import Derived.Laws.Cells
import Derived.Laws.CopyRow
import Derived.Laws.Cover3
import Derived.Laws.Entries
import Derived.Laws.NewFold
import Derived.Laws.Sem
import Derived.Laws.Small
import Derived.Laws.StructEq
import Derived.Laws.Tables
import Derived.Laws.World
import Derived.Lib.SmallJoins
import Derived.Maps.Keyed
import Derived.Maps.RangeRun
import Derived.OpenShut
import Derived.OrdersHeld
import Derived.OrdersIn
import Derived.ProofKit
import Derived.RangeFuncLeaves
import Derived.RangeFuncRecord
import Derived.Shelf.Abstract
import Derived.WalkKit
import Derived.WideKeyArgs
import Derived.Test.YtcjekdfncnmbfaaNk0
import Derived.Test.YtcjekdfncnmbfaaNa10
import Derived.Test.YtcjekdfncnmbfaaNa11
import Derived.Test.YtcjekdfncnmbfaaNa13
import Derived.Test.YtcjekdfncnmbfaaNa16
import Derived.Test.YtcjekdfncnmbfaaNa14
import Derived.Test.YtcjekdfncnmbfaaNa18
import Derived.Test.YtcjekdfncnmbfaaNa15
import Derived.Test.YtcjekdfncnmbfaaNa19
import Derived.Test.YtcjekdfncnmbfaaNa20
import Derived.Test.YtcjekdfncnmbfaaNa21
import Derived.Test.YtcjekdfncnmbfaaNa22
import Derived.Test.YtcjekdfncnmbfaaNa12
import Derived.Test.YtcjekdfncnmbfaaNa17
import Derived.Test.YtcjekdfncnmbfaaNk1
import Derived.Test.YtcjekdfncnmbfaaNa0
import Derived.Test.YtcjekdfncnmbfaaNa1
import Derived.Test.YtcjekdfncnmbfaaNa2
import Derived.Test.YtcjekdfncnmbfaaNa3
import Derived.Test.YtcjekdfncnmbfaaNa4
import Derived.Test.YtcjekdfncnmbfaaNa5
import Derived.Test.YtcjekdfncnmbfaaNa6
import Derived.Test.YtcjekdfncnmbfaaNa7
import Derived.Test.YtcjekdfncnmbfaaNa8
import Derived.Test.YtcjekdfncnmbfaaNa9
import Derived.Test.YtcjekdfncnmbfaaProg
import Derived.Test.YtcjekdfncnmbfaaRows
set_option linter.unusedVariables false
set_option linter.unusedSimpArgs false
set_option linter.unusedVariables false
set_option linter.unusedSimpArgs false
namespace Go.Fz
open Go.Proofs
set_option maxRecDepth 100000
set_option maxHeartbeats 8000000 in
theorem lv_not (haw : Pure Try.prog 18 [] (.lit (.bool true))) (y : YardD) (e17 : Pure Try.prog 17 [yardV y] (.sb false)) : Pure Try.prog 6 [yardV y] (.lit (.bool true)) := by
  obtain ⟨O, hO⟩ : ∃ O : Ar, O = std := ⟨_, rfl⟩
  refine pure_of_body tok 3 Try.func6 en6 rfl ⟨yardV_below y, trivial⟩ Below.lit ?_
  refine SW.seqRun tok hO (by cbv <;> rfl) (by trivial) ?_
  refine SW.seq ?_
  refine SW.seqRun tok hO (by cbv <;> rfl) (by trivial) ?_
  refine OpsW.callP e17 (by cbv <;> rfl) ?_
  refine OpsW.run tok hO (by cbv <;> rfl) (by trivial) ?_
  refine SW.condS (by cbv <;> rfl) (fun hw1 => ?_) (fun hw1 => by first | (cases hw1; done) | (subst hO; simp [std] at hw1; done) | (subst hO; simp [std] at hw1; omega))
  refine SW.seqRun tok hO (by cbv <;> rfl) (by trivial) ?_
  refine OpsW.callP haw (by cbv <;> rfl) ?_
  refine OpsW.run tok hO (by cbv <;> rfl) (by trivial) ?_
  exact SW.ret ⟨_, _, rfl, rfl, Eqv.of rfl⟩
set_option maxHeartbeats 8000000 in
theorem lv_bad (haw : Pure Try.prog 18 [] (.lit (.bool true))) (y : YardD) (E : Int) (hE : ¬ E = 0) (e17 : Pure Try.prog 17 [yardV y] (.sb true)) (e20 : Pure Try.prog 20 [yardV y] (yardV y)) (e40 : Pure Try.prog 40 [yardV y] (.tup [iV 0, iV E])) (e41 : Pure Try.prog 41 [yardV y] (.tup [nl3, iV E])) (e42 : Pure Try.prog 42 [yardV y] (.tup [nl3, iV E])) : Pure Try.prog 6 [yardV y] (.lit (.bool true)) := by
  obtain ⟨O, hO⟩ : ∃ O : Ar, O = std := ⟨_, rfl⟩
  refine pure_of_body tok 3 Try.func6 en6 rfl ⟨yardV_below y, trivial⟩ Below.lit ?_
  refine SW.seqRun tok hO (by cbv <;> rfl) (by trivial) ?_
  refine SW.seq ?_
  refine SW.seqRun tok hO (by cbv <;> rfl) (by trivial) ?_
  refine OpsW.callP e17 (by cbv <;> rfl) ?_
  refine OpsW.run tok hO (by cbv <;> rfl) (by trivial) ?_
  refine SW.condS (by cbv <;> rfl) (fun hw1 => by first | (cases hw1; done) | (subst hO; simp [std, hE] at hw1; done) | (subst hO; simp [std, hE] at hw1; omega)) (fun hw1 => SW.skip ?_)
  refine SW.seqRun tok hO (by cbv <;> rfl) (by trivial) ?_
  refine OpsW.callP e20 (by cbv <;> rfl) ?_
  refine OpsW.run tok hO (by cbv <;> rfl) (by trivial) ?_
  refine OpsW.callP e40 (by cbv <;> rfl) ?_
  refine OpsW.run tok hO (by cbv <;> rfl) (by trivial) ?_
  refine SW.seqRun tok hO (by cbv <;> rfl) (by trivial) ?_
  refine OpsW.callP e20 (by cbv <;> rfl) ?_
  refine OpsW.run tok hO (by cbv <;> rfl) (by trivial) ?_
  refine OpsW.callP e41 (by cbv <;> rfl) ?_
  refine OpsW.run tok hO (by cbv <;> rfl) (by trivial) ?_
  refine SW.seqRun tok hO (by cbv <;> rfl) (by trivial) ?_
  refine OpsW.callP e42 (by cbv <;> rfl) ?_
  refine OpsW.run tok hO (by cbv <;> rfl) (by trivial) ?_
  refine SW.seq ?_
  refine SW.seqRun tok hO (by cbv <;> rfl) (by trivial) ?_
  refine SW.condS (by cbv <;> rfl) (fun hw2 => ?_) (fun hw2 => by first | (cases hw2; done) | (subst hO; simp [std, hE] at hw2; done) | (subst hO; simp [std, hE] at hw2; omega))
  refine SW.seqRun tok hO (by cbv <;> rfl) (by trivial) ?_
  refine OpsW.splitG (by cbv <;> rfl) (fun hw3 => ?_) (fun hw3 => by first | (cases hw3; done) | (subst hO; simp [std, hE] at hw3; done) | (subst hO; simp [std, hE] at hw3; omega))
  refine OpsW.run tok hO (by cbv <;> rfl) (by trivial) ?_
  refine OpsW.splitG (by cbv <;> rfl) (fun hw4 => ?_) (fun hw4 => by first | (cases hw4; done) | (subst hO; simp [std, hE] at hw4; done) | (subst hO; simp [std, hE] at hw4; omega))
  refine OpsW.run tok hO (by cbv <;> rfl) (by trivial) ?_
  refine OpsW.splitG (by cbv <;> rfl) (fun hw5 => ?_) (fun hw5 => by first | (cases hw5; done) | (subst hO; simp [std, hE] at hw5; done) | (subst hO; simp [std, hE] at hw5; omega))
  refine OpsW.run tok hO (by cbv <;> rfl) (by trivial) ?_
  refine OpsW.splitG (by cbv <;> rfl) (fun hw6 => ?_) (fun hw6 => by first | (cases hw6; done) | (subst hO; simp [std, hE] at hw6; done) | (subst hO; simp [std, hE] at hw6; omega))
  refine OpsW.run tok hO (by cbv <;> rfl) (by trivial) ?_
  refine OpsW.callP haw (by cbv <;> rfl) ?_
  refine OpsW.run tok hO (by cbv <;> rfl) (by trivial) ?_
  exact SW.ret ⟨_, _, rfl, rfl, Eqv.of rfl⟩
set_option maxHeartbeats 8000000 in
theorem lv_fst (haw : Pure Try.prog 18 [] (.lit (.bool true))) (y : YardD) (LV AV : AV) (R : Int) (hR : 0 ≤ R) (e17 : Pure Try.prog 17 [yardV y] (.sb true)) (e20 : Pure Try.prog 20 [yardV y] (yardV y)) (e40 : Pure Try.prog 40 [yardV y] (.tup [iV R, iV 0])) (e41 : Pure Try.prog 41 [yardV y] (.tup [LV, iV 0])) (e42 : Pure Try.prog 42 [yardV y] (.tup [AV, iV 0])) (e43 : Pure Try.prog 43 [yardV y, AV] LV) (e30 : Pure Try.prog 30 [LV, LV] (.sb true)) (e44 : Pure Try.prog 44 [yardV y, AV] (iV R)) : Pure Try.prog 6 [yardV y] (.lit (.bool true)) := by
  obtain ⟨O, hO⟩ : ∃ O : Ar, O = std := ⟨_, rfl⟩
  refine pure_of_body tok 3 Try.func6 en6 rfl ⟨yardV_below y, trivial⟩ Below.lit ?_
  refine SW.seqRun tok hO (by cbv <;> rfl) (by trivial) ?_
  refine SW.seq ?_
  refine SW.seqRun tok hO (by cbv <;> rfl) (by trivial) ?_
  refine OpsW.callP e17 (by cbv <;> rfl) ?_
  refine OpsW.run tok hO (by cbv <;> rfl) (by trivial) ?_
  refine SW.condS (by cbv <;> rfl) (fun hw1 => by first | (cases hw1; done) | (subst hO; simp [std, hR] at hw1; done) | (subst hO; simp [std, hR] at hw1; omega)) (fun hw1 => SW.skip ?_)
  refine SW.seqRun tok hO (by cbv <;> rfl) (by trivial) ?_
  refine OpsW.callP e20 (by cbv <;> rfl) ?_
  refine OpsW.run tok hO (by cbv <;> rfl) (by trivial) ?_
  refine OpsW.callP e40 (by cbv <;> rfl) ?_
  refine OpsW.run tok hO (by cbv <;> rfl) (by trivial) ?_
  refine SW.seqRun tok hO (by cbv <;> rfl) (by trivial) ?_
  refine OpsW.callP e20 (by cbv <;> rfl) ?_
  refine OpsW.run tok hO (by cbv <;> rfl) (by trivial) ?_
  refine OpsW.callP e41 (by cbv <;> rfl) ?_
  refine OpsW.run tok hO (by cbv <;> rfl) (by trivial) ?_
  refine SW.seqRun tok hO (by cbv <;> rfl) (by trivial) ?_
  refine OpsW.callP e42 (by cbv <;> rfl) ?_
  refine OpsW.run tok hO (by cbv <;> rfl) (by trivial) ?_
  refine SW.seq ?_
  refine SW.seqRun tok hO (by cbv <;> rfl) (by trivial) ?_
  refine SW.condS (by cbv <;> rfl) (fun hw2 => by first | (cases hw2; done) | (subst hO; simp [std, hR] at hw2; done) | (subst hO; simp [std, hR] at hw2; omega)) (fun hw2 => SW.skip ?_)
  refine SW.seq ?_
  refine SW.seqRun tok hO (by cbv <;> rfl) (by trivial) ?_
  refine OpsW.splitG (by cbv <;> rfl) (fun hw3 => by first | (cases hw3; done) | (subst hO; simp [std, hR] at hw3; done) | (subst hO; simp [std, hR] at hw3; omega)) (fun hw3 => ?_)
  refine OpsW.run tok hO (by cbv <;> rfl) (by trivial) ?_
  refine OpsW.callP e43 (by cbv <;> rfl) ?_
  refine OpsW.run tok hO (by cbv <;> rfl) (by trivial) ?_
  refine OpsW.callP e30 (by cbv <;> rfl) ?_
  refine OpsW.run tok hO (by cbv <;> rfl) (by trivial) ?_
  refine SW.condS (by cbv <;> rfl) (fun hw4 => by first | (cases hw4; done) | (subst hO; simp [std, hR] at hw4; done) | (subst hO; simp [std, hR] at hw4; omega)) (fun hw4 => SW.skip ?_)
  refine SW.seq ?_
  refine SW.seqRun tok hO (by cbv <;> rfl) (by trivial) ?_
  refine OpsW.callP e44 (by cbv <;> rfl) ?_
  refine OpsW.run tok hO (by cbv <;> rfl) (by trivial) ?_
  refine SW.seqRun tok hO (by cbv <;> rfl) (by trivial) ?_
  refine SW.condS (by cbv <;> rfl) (fun hw5 => ?_) (fun hw5 => by first | (cases hw5; done) | (subst hO; simp [std, hR] at hw5; done) | (subst hO; simp [std, hR] at hw5; omega))
  refine SW.seqRun tok hO (by cbv <;> rfl) (by trivial) ?_
  refine OpsW.splitG (by cbv <;> rfl) (fun hw6 => ?_) (fun hw6 => by first | (cases hw6; done) | (subst hO; simp [std, hR] at hw6; done) | (subst hO; simp [std, hR] at hw6; omega))
  refine OpsW.run tok hO (by cbv <;> rfl) (by trivial) ?_
  refine OpsW.splitG (by cbv <;> rfl) (fun hw7 => ?_) (fun hw7 => by first | (cases hw7; done) | (subst hO; simp [std, hR] at hw7; done) | (subst hO; simp [std, hR] at hw7; omega))
  refine OpsW.run tok hO (by cbv <;> rfl) (by trivial) ?_
  refine OpsW.callP haw (by cbv <;> rfl) ?_
  refine OpsW.run tok hO (by cbv <;> rfl) (by trivial) ?_
  exact SW.ret ⟨_, _, rfl, rfl, Eqv.of rfl⟩
set_option maxHeartbeats 8000000 in
theorem lv_all (haw : Pure Try.prog 18 [] (.lit (.bool true))) (y : YardD) (LV AV : AV) (e17 : Pure Try.prog 17 [yardV y] (.sb true)) (e20 : Pure Try.prog 20 [yardV y] (yardV y)) (e40 : Pure Try.prog 40 [yardV y] (.tup [iV 0, iV 7])) (e41 : Pure Try.prog 41 [yardV y] (.tup [LV, iV 0])) (e42 : Pure Try.prog 42 [yardV y] (.tup [AV, iV 0])) (e43 : Pure Try.prog 43 [yardV y, AV] LV) (e30 : Pure Try.prog 30 [LV, LV] (.sb true)) (e44 : Pure Try.prog 44 [yardV y, AV] (iV (-1))) : Pure Try.prog 6 [yardV y] (.lit (.bool true)) := by
  obtain ⟨O, hO⟩ : ∃ O : Ar, O = std := ⟨_, rfl⟩
  refine pure_of_body tok 3 Try.func6 en6 rfl ⟨yardV_below y, trivial⟩ Below.lit ?_
  refine SW.seqRun tok hO (by cbv <;> rfl) (by trivial) ?_
  refine SW.seq ?_
  refine SW.seqRun tok hO (by cbv <;> rfl) (by trivial) ?_
  refine OpsW.callP e17 (by cbv <;> rfl) ?_
  refine OpsW.run tok hO (by cbv <;> rfl) (by trivial) ?_
  refine SW.condS (by cbv <;> rfl) (fun hw1 => by first | (cases hw1; done) | (subst hO; simp [std] at hw1; done) | (subst hO; simp [std] at hw1; omega)) (fun hw1 => SW.skip ?_)
  refine SW.seqRun tok hO (by cbv <;> rfl) (by trivial) ?_
  refine OpsW.callP e20 (by cbv <;> rfl) ?_
  refine OpsW.run tok hO (by cbv <;> rfl) (by trivial) ?_
  refine OpsW.callP e40 (by cbv <;> rfl) ?_
  refine OpsW.run tok hO (by cbv <;> rfl) (by trivial) ?_
  refine SW.seqRun tok hO (by cbv <;> rfl) (by trivial) ?_
  refine OpsW.callP e20 (by cbv <;> rfl) ?_
  refine OpsW.run tok hO (by cbv <;> rfl) (by trivial) ?_
  refine OpsW.callP e41 (by cbv <;> rfl) ?_
  refine OpsW.run tok hO (by cbv <;> rfl) (by trivial) ?_
  refine SW.seqRun tok hO (by cbv <;> rfl) (by trivial) ?_
  refine OpsW.callP e42 (by cbv <;> rfl) ?_
  refine OpsW.run tok hO (by cbv <;> rfl) (by trivial) ?_
  refine SW.seq ?_
  refine SW.seqRun tok hO (by cbv <;> rfl) (by trivial) ?_
  refine SW.condS (by cbv <;> rfl) (fun hw2 => by first | (cases hw2; done) | (subst hO; simp [std] at hw2; done) | (subst hO; simp [std] at hw2; omega)) (fun hw2 => SW.skip ?_)
  refine SW.seq ?_
  refine SW.seqRun tok hO (by cbv <;> rfl) (by trivial) ?_
  refine OpsW.splitG (by cbv <;> rfl) (fun hw3 => by first | (cases hw3; done) | (subst hO; simp [std] at hw3; done) | (subst hO; simp [std] at hw3; omega)) (fun hw3 => ?_)
  refine OpsW.run tok hO (by cbv <;> rfl) (by trivial) ?_
  refine OpsW.callP e43 (by cbv <;> rfl) ?_
  refine OpsW.run tok hO (by cbv <;> rfl) (by trivial) ?_
  refine OpsW.callP e30 (by cbv <;> rfl) ?_
  refine OpsW.run tok hO (by cbv <;> rfl) (by trivial) ?_
  refine SW.condS (by cbv <;> rfl) (fun hw4 => by first | (cases hw4; done) | (subst hO; simp [std] at hw4; done) | (subst hO; simp [std] at hw4; omega)) (fun hw4 => SW.skip ?_)
  refine SW.seq ?_
  refine SW.seqRun tok hO (by cbv <;> rfl) (by trivial) ?_
  refine OpsW.callP e44 (by cbv <;> rfl) ?_
  refine OpsW.run tok hO (by cbv <;> rfl) (by trivial) ?_
  refine SW.seqRun tok hO (by cbv <;> rfl) (by trivial) ?_
  refine SW.condS (by cbv <;> rfl) (fun hw5 => by first | (cases hw5; done) | (subst hO; simp [std] at hw5; done) | (subst hO; simp [std] at hw5; omega)) (fun hw5 => SW.skip ?_)
  refine SW.seqRun tok hO (by cbv <;> rfl) (by trivial) ?_
  refine OpsW.splitG (by cbv <;> rfl) (fun hw6 => ?_) (fun hw6 => by first | (cases hw6; done) | (subst hO; simp [std] at hw6; done) | (subst hO; simp [std] at hw6; omega))
  refine OpsW.run tok hO (by cbv <;> rfl) (by trivial) ?_
  refine OpsW.splitG (by cbv <;> rfl) (fun hw7 => ?_) (fun hw7 => by first | (cases hw7; done) | (subst hO; simp [std] at hw7; done) | (subst hO; simp [std] at hw7; omega))
  refine OpsW.run tok hO (by cbv <;> rfl) (by trivial) ?_
  refine OpsW.callP haw (by cbv <;> rfl) ?_
  refine OpsW.run tok hO (by cbv <;> rfl) (by trivial) ?_
  exact SW.ret ⟨_, _, rfl, rfl, Eqv.of rfl⟩
end Go.Fz
set_option linter.unusedVariables false
namespace Go.Fz
open Go.Proofs
set_option maxRecDepth 100000
end Go.Fz
set_option linter.unusedVariables false
namespace Go.Fz
open Go.Proofs
set_option maxRecDepth 100000
theorem sel_full {nb : Nat} (hn : nb ≤ 6) : selL (allI nb) nb = List.range nb := by
  obtain ⟨a1, a2, a3, _⟩ := all6_fin ⟨nb, by omega⟩
  rw [selL_nb hn a2 a3]; exact a1
theorem bit_full {nb i : Nat} (hn : nb ≤ 6) (hi : i < nb) : bitB (allI nb) i = true := allI_bit ⟨nb, by omega⟩ ⟨i, by omega⟩ hi
theorem sch_all {y : YardD} (hc : y.check = 0) {f : Nat → Int} (hf : f ∈ y.schR) : lessF y.nb f ∈ y.allS ∧ ∀ i, i < y.nb → y.blo i ≤ f i ∧ f i ≤ y.bhi i := by
  obtain ⟨hfit, _, _, hh, _⟩ := y.fit_of_check hc
  obtain ⟨n, h1, h2, rfl⟩ := mem_pickS.1 hf
  obtain ⟨m1, m2⟩ := many_small hc (allI y.nb)
  have ho := ofL_nF hfit (b := allI y.nb) (n := Int.ofNat n) (Int.natCast_nonneg n) (by
    show (n : Int) ≤ 4000
    omega)
  have hs := (fit_sch hfit (by omega) ho).1 h2
  rw [sel_full hfit.nb] at hs
  refine ⟨mem_allS.2 ⟨fun b hb => if_neg fun hl => hb (List.mem_range.2 hl), sch_congr (fun i hi => (lessF_lt (List.mem_range.1 hi)).symm) hs⟩, fun i hi => ?_⟩
  exact hs.rng i (List.mem_range.2 hi)
theorem all_sch {y : YardD} (hc : y.check = 0) {g : Nat → Int} (hg : g ∈ y.allS) : ∃ f ∈ y.schR, ∀ i, i < y.nb → f i = g i := by
  obtain ⟨hfit, _, _, hh, _⟩ := y.fit_of_check hc
  obtain ⟨_, hs⟩ := mem_allS.1 hg
  obtain ⟨m1, m2⟩ := many_small hc (allI y.nb)
  obtain ⟨n, hn, hv⟩ := nF_onto hc (allI y.nb) (g := g) fun i hi _ => hs.rng i (List.mem_range.2 hi)
  have he : ∀ i, i < y.nb → y.nF (allI y.nb) (Int.ofNat n) i = g i := fun i hi => hv i hi (bit_full hfit.nb hi)
  have ho := ofL_nF hfit (b := allI y.nb) (n := Int.ofNat n) (Int.natCast_nonneg n) (by
    show (n : Int) ≤ 4000
    omega)
  refine ⟨_, mem_pickS.2 ⟨n, by omega, (fit_sch hfit (by omega) ho).2 ?_, rfl⟩, he⟩
  rw [sel_full hfit.nb]
  exact sch_congr (fun i hi => (he i (List.mem_range.1 hi)).symm) hs
theorem rgt_congr {y : YardD} (hcb : ∀ i, i < y.nc → 0 ≤ y.cb i ∧ y.cb i < y.nb) {f g : Nat → Int} (h : ∀ i, i < y.nb → f i = g i) {p : Nat} (hp : p < y.nc) : y.rgt f p = y.rgt g p := by
  have := hcb p hp
  unfold YardD.rgt
  rw [h _ (by omega)]
theorem or_bit : ∀ (n : Fin 5) (a : Fin 32), a.1 < 2 ^ n.1 → (0 ≤ std.bin .or .i64 (a.1 : Int) (std.bin .shl .i64 1 (std.conv .u64 (Int.ofNat n.1))) ∧ std.bin .or .i64 (a.1 : Int) (std.bin .shl .i64 1 (std.conv .u64 (Int.ofNat n.1))) < 2 ^ (n.1 + 1)) ∧ ∀ j : Fin 6, bitB (std.bin .or .i64 (a.1 : Int) (std.bin .shl .i64 1 (std.conv .u64 (Int.ofNat n.1)))) j.1 = (bitB (a.1 : Int) j.1 || decide (j.1 = n.1)) := by decide +kernel
theorem bit_zero0 : ∀ j : Fin 6, bitB (0 : Int) j.1 = false := by decide +kernel
theorem rm_bits (y : YardD) (f : Nat → Int) : ∀ n, n ≤ 5 → (0 ≤ y.rm f n ∧ y.rm f n < 2 ^ n) ∧ ∀ j, j < 6 → bitB (y.rm f n) j = (decide (j < n) && y.rgt f j)
  | 0, _ => by
    refine ⟨⟨Int.le_refl _, by show (0 : Int) < 1; omega⟩, fun j hj => ?_⟩
    have : bitB (0 : Int) j = false := bit_zero0 ⟨j, hj⟩
    show bitB (0 : Int) j = _
    rw [this, decide_eq_false (Nat.not_lt_zero j)]; rfl
  | n + 1, hn => by
    obtain ⟨⟨h1, h2⟩, h3⟩ := rm_bits y f n (by omega)
    have h32 : (2 : Int) ^ n ≤ 32 := by
      have : n = 0 ∨ n = 1 ∨ n = 2 ∨ n = 3 ∨ n = 4 := by omega
      rcases this with rfl | rfl | rfl | rfl | rfl <;> decide
    have h22 : (2 : Int) ^ n ≤ 2 ^ (n + 1) := by rw [Int.pow_succ]; omega
    have e : ((y.rm f n).toNat : Int) = y.rm f n := Int.toNat_of_nonneg h1
    have ho := or_bit ⟨n, by omega⟩ ⟨(y.rm f n).toNat, by omega⟩ (by
      have : ((y.rm f n).toNat : Int) < 2 ^ n := by rw [e]; exact h2
      exact_mod_cast this)
    simp only [e] at ho
    have hrm : y.rm f (n + 1) = if y.rgt f n = true then std.bin .or .i64 (y.rm f n) (std.bin .shl .i64 1 (std.conv .u64 (Int.ofNat n))) else y.rm f n := rfl
    rw [hrm]
    cases hr : y.rgt f n with
    | true =>
      rw [if_pos rfl]
      refine ⟨ho.1, fun j hj => ?_⟩
      have h4 : bitB (std.bin .or .i64 (y.rm f n) (std.bin .shl .i64 1 (std.conv .u64 (Int.ofNat n)))) j = (bitB (y.rm f n) j || decide (j = n)) := ho.2 ⟨j, hj⟩
      rw [h4, h3 j hj]
      by_cases ej : j = n
      · subst ej
        rw [decide_eq_true rfl, decide_eq_true (Nat.lt_succ_self j), hr]
        simp
      · rw [decide_eq_false ej, Bool.or_false]
        rw [decide_eq_decide.2 (show j < n ↔ j < n + 1 by omega)]
    | false =>
      rw [if_neg (by decide)]
      refine ⟨⟨h1, by omega⟩, fun j hj => ?_⟩
      rw [h3 j hj]
      by_cases ej : j = n
      · subst ej
        rw [hr, Bool.and_false, Bool.and_false]
      · rw [decide_eq_decide.2 (show j < n ↔ j < n + 1 by omega)]
theorem and_fin : ∀ (a c : Fin 64), (std.bin .and .i64 (a.1 : Int) (c.1 : Int) = (c.1 : Int)) ↔ ∀ j : Fin 6, bitB (c.1 : Int) j.1 = true → bitB (a.1 : Int) j.1 = true := by decide +kernel
theorem and_iff {a c : Int} (ha : 0 ≤ a ∧ a < 64) (hc : 0 ≤ c ∧ c < 64) : std.bin .and .i64 a c = c ↔ ∀ j, j < 6 → bitB c j = true → bitB a j = true := by
  have h := and_fin ⟨a.toNat, by omega⟩ ⟨c.toNat, by omega⟩
  have ea : (a.toNat : Int) = a := Int.toNat_of_nonneg ha.1
  have ec : (c.toNat : Int) = c := Int.toNat_of_nonneg hc.1
  simp only [ea, ec] at h
  rw [h]
  exact ⟨fun h j hj => h ⟨j, hj⟩, fun h j => h j.1 j.2⟩
theorem pow_le5 {n : Nat} (hn : n ≤ 5) : (2 : Int) ^ n ≤ 32 := by
  have : n = 0 ∨ n = 1 ∨ n = 2 ∨ n = 3 ∨ n = 4 ∨ n = 5 := by omega
  rcases this with rfl | rfl | rfl | rfl | rfl | rfl <;> decide
theorem mem_clR {y : YardD} (hc : y.check = 0) {c : Int} (hc6 : 0 ≤ c ∧ c < 64) {f : Nat → Int} : f ∈ y.clR c ↔ f ∈ y.schR ∧ ∀ p, p < 6 → bitB c p = true → p < y.nc ∧ y.rgt f p = true := by
  have h5 := (y.fit_of_check hc).2.2.2.2.2.1
  have hr := fun g => rm_bits y g y.nc h5
  have h32 := pow_le5 h5
  have hP : ∀ g, std.bin .and .i64 (y.rm g y.nc) c = c ↔ ∀ p, p < 6 → bitB c p = true → p < y.nc ∧ y.rgt g p = true := fun g => by
    rw [and_iff ⟨(hr g).1.1, by have := (hr g).1.2; omega⟩ hc6]
    constructor
    · intro h p hp hb
      have := h p hp hb
      rw [(hr g).2 p hp, Bool.and_eq_true, decide_eq_true_eq] at this
      exact this
    · intro h p hp hb
      rw [(hr g).2 p hp, Bool.and_eq_true, decide_eq_true_eq]
      exact h p hp hb
  have hg : ∀ j, (hj : j < y.schR.length) → y.schR.getD j f0 = y.schR[j] := fun j hj => by rw [List.getD_eq_getElem?_getD, List.getElem?_eq_getElem hj]; rfl
  unfold YardD.clR
  rw [mem_pickS]
  constructor
  · rintro ⟨i, h1, h2, h3⟩
    rw [h3, decide_eq_true_eq] at h2
    refine ⟨by rw [← h3, hg i h1]; exact List.getElem_mem h1, (hP f).1 h2⟩
  · rintro ⟨h1, h2⟩
    obtain ⟨i, hi, e⟩ := List.getElem_of_mem h1
    refine ⟨i, hi, ?_, (hg i hi).trans e⟩
    rw [(hg i hi).trans e]
    exact decide_eq_true ((hP f).2 h2)
theorem sch_nil_iff {y : YardD} (hc : y.check = 0) : y.schR = [] ↔ y.allS = [] := by
  constructor
  · intro h
    refine Classical.not_not.1 fun hq => ?_
    obtain ⟨f, hf⟩ := List.exists_mem_of_ne_nil _ hq
    obtain ⟨g, hg, _⟩ := all_sch hc hf
    rw [h] at hg; cases hg
  · intro h
    refine Classical.not_not.1 fun hq => ?_
    obtain ⟨f, hf⟩ := List.exists_mem_of_ne_nil _ hq
    have := (sch_all hc hf).1
    rw [h] at this; cases this
theorem pl_any {y : YardD} (hc : y.check = 0) : y.plE = y.anyE true := by
  have hW : y.faultN = 0 := (check_eq y).symm.trans hc
  unfold YardD.plE
  rw [if_pos hW]
  by_cases hs : y.allS = []
  · rw [if_pos (List.length_eq_zero_iff.2 ((sch_nil_iff hc).2 hs)), (any_sees hc).1 hs]
  · rw [if_neg fun h => hs ((sch_nil_iff hc).1 (List.length_eq_zero_iff.1 h)), (any_sees hc).2 hs]
theorem su_fault {y : YardD} (hW : ¬ y.faultN = 0) : y.suE = y.faultN ∧ y.plE = y.faultN := by
  have hp : y.plE = y.faultN := if_neg hW
  refine ⟨?_, hp⟩
  unfold YardD.suE
  rw [hp, if_neg hW]
theorem own_fault {y : YardD} (hW : ¬ y.faultN = 0) (B : Bool) : y.anyE B = y.faultN ∧ y.ownE B = y.faultN := by
  have hcn : y.check ≠ 0 := fun h => hW ((check_eq y).symm.trans h)
  have ha : y.anyE B = y.faultN := by
    unfold YardD.anyE
    rw [if_pos hcn, check_eq]
  refine ⟨ha, ?_⟩
  unfold YardD.ownE
  rw [ha, if_pos hW]
end Go.Fz
set_option linter.unusedVariables false
namespace Go.Fz
open Go.Proofs
set_option maxRecDepth 100000
theorem cl_ne {y : YardD} (hc : y.check = 0) {c : Int} (hc6 : 0 ≤ c ∧ c < 64) : (y.clR c).length ≠ 0 ↔ ∃ g ∈ y.allS, ∀ p, p < 6 → bitB c p = true → p < y.nc ∧ y.rgt g p = true := by
  obtain ⟨_, _, _, _, _, h5, hcl⟩ := y.fit_of_check hc
  have hlen : (y.clR c).length ≠ 0 ↔ y.clR c ≠ [] := by rw [ne_eq, List.length_eq_zero_iff]
  rw [hlen]
  constructor
  · intro h
    obtain ⟨f, hf⟩ := List.exists_mem_of_ne_nil _ h
    obtain ⟨h1, h2⟩ := (mem_clR hc hc6).1 hf
    refine ⟨_, (sch_all hc h1).1, fun p hp hb => ?_⟩
    obtain ⟨h3, h4⟩ := h2 p hp hb
    refine ⟨h3, ?_⟩
    rw [rgt_congr (fun i hi => (hcl i hi).1) (fun i hi => lessF_lt hi) h3]
    exact h4
  · rintro ⟨g, hg, h⟩ he
    obtain ⟨f, hf, hfg⟩ := all_sch hc hg
    have : f ∈ y.clR c := (mem_clR hc hc6).2 ⟨hf, fun p hp hb => by
      obtain ⟨h3, h4⟩ := h p hp hb
      refine ⟨h3, ?_⟩
      rw [rgt_congr (fun i hi => (hcl i hi).1) hfg h3]
      exact h4⟩
    rw [he] at this
    cases this
theorem fst_bits : ∀ (n : Fin 5), (0 ≤ std.bin .sub .i64 (std.bin .shl .i64 2 (std.conv .u64 (Int.ofNat n.1))) 1 ∧ std.bin .sub .i64 (std.bin .shl .i64 2 (std.conv .u64 (Int.ofNat n.1))) 1 < 64) ∧ ∀ p : Fin 6, bitB (std.bin .sub .i64 (std.bin .shl .i64 2 (std.conv .u64 (Int.ofNat n.1))) 1) p.1 = decide (p.1 ≤ n.1) := by decide +kernel
theorem fst_cl {y : YardD} (hc : y.check = 0) (hs : y.allS ≠ []) {n : Nat} (hn : n < y.nc) : (y.clR (std.bin .sub .i64 (std.bin .shl .i64 2 (std.conv .u64 (Int.ofNat n))) 1)).length = 0 ↔ y.fur y.allS y.allS.length < ((n + 1 : Nat) : Int) := by
  have h5 := (y.fit_of_check hc).2.2.2.2.2.1
  obtain ⟨h6, hb⟩ := fst_bits ⟨n, by omega⟩
  have h1 := cl_ne hc h6
  have h2 := fur_ge hs (show n + 1 ≤ y.nc by omega)
  have h3 : (∃ g ∈ y.allS, ∀ p, p < 6 → bitB (std.bin .sub .i64 (std.bin .shl .i64 2 (std.conv .u64 (Int.ofNat n))) 1) p = true → p < y.nc ∧ y.rgt g p = true) ↔ ∃ f ∈ y.allS, ∀ p, p < n + 1 → y.rgt f p = true := by
    constructor
    · rintro ⟨g, hg, h⟩
      refine ⟨g, hg, fun p hp => (h p (by omega) ?_).2⟩
      have := hb ⟨p, by omega⟩
      simp only at this
      rw [this]; exact decide_eq_true (by omega)
    · rintro ⟨g, hg, h⟩
      refine ⟨g, hg, fun p hp hbp => ?_⟩
      have := hb ⟨p, hp⟩
      simp only at this
      rw [this, decide_eq_true_eq] at hbp
      exact ⟨by omega, h p (by omega)⟩
  rw [h3, ← h2] at h1
  constructor
  · intro h
    by_cases hlt : y.fur y.allS y.allS.length < ((n + 1 : Nat) : Int)
    · exact hlt
    · exact absurd h (h1.2 (by omega))
  · intro h
    by_cases hz : (y.clR (std.bin .sub .i64 (std.bin .shl .i64 2 (std.conv .u64 (Int.ofNat n))) 1)).length = 0
    · exact hz
    · have := h1.1 hz
      omega
set_option maxHeartbeats 8000000 in
theorem refFirst_ok {y : YardD} (hc : y.check = 0) (hs : y.allS ≠ []) : Pure Try.prog 44 [yardV y, llV y.nb y.schR] (iV (if y.fur y.allS y.allS.length = (y.nc : Int) then -1 else y.fur y.allS y.allS.length)) := by
  obtain ⟨O, hO⟩ : ∃ O : Ar, O = std := ⟨_, rfl⟩
  have h5 := (y.fit_of_check hc).2.2.2.2.2.1
  have e69 : ∀ i : Nat, Pure Try.prog 69 [yardV y, llV y.nb y.schR, iV (O.bin .sub .i64 (O.bin .shl .i64 2 (O.conv .u64 (Int.ofNat i))) 1)] (llV y.nb (y.clR (O.bin .sub .i64 (O.bin .shl .i64 2 (O.conv .u64 (Int.ofNat i))) 1))) := fun i => claimedR_ok hc _
  have hF : ∀ i, i < y.nc → ((y.clR (O.bin .sub .i64 (O.bin .shl .i64 2 (O.conv .u64 (Int.ofNat i))) 1)).length = 0 ↔ y.fur y.allS y.allS.length < ((i + 1 : Nat) : Int)) := fun i hi => by subst hO; exact fst_cl hc hs hi
  have h0 := (fur_all y y.allS y.allS.length).1
  have hle := fur_le (y := y)
  generalize y.fur y.allS y.allS.length = FU at hF h0 hle ⊢
  obtain ⟨CL, hCL⟩ : ∃ CL : Nat → List (Nat → Int), CL = fun i => y.clR (O.bin .sub .i64 (O.bin .shl .i64 2 (O.conv .u64 (Int.ofNat i))) 1) := ⟨_, rfl⟩
  have e69 : ∀ i : Nat, Pure Try.prog 69 [yardV y, llV y.nb y.schR, iV (O.bin .sub .i64 (O.bin .shl .i64 2 (O.conv .u64 (Int.ofNat i))) 1)] (.isl (CL i).length 1 false (lls y.nb (CL i))) := fun i => by rw [hCL]; exact e69 i
  have hF : ∀ i, i < y.nc → ((CL i).length = 0 ↔ FU < ((i + 1 : Nat) : Int)) := fun i hi => by rw [hCL]; exact hF i hi
  clear hCL
  have hLb := llV_below y.nb y.schR
  generalize llV y.nb y.schR = LV at e69 hLb ⊢
  refine pure_of_body tok 3 Try.func44 en44 rfl ⟨yardV_below y, hLb, trivial⟩ Below.lit ?_
  refine SW.seqRun tok hO (by cbv <;> rfl) (by trivial) ?_
  refine SW.seq ?_
  refine SW.seqRun tok hO (by cbv <;> rfl) (by trivial) ?_
  refine (SW.block (SW.loopF (fun i : Nat => ⟨⟨23, getT [(1, LV), (2, .ptr 0 0), (5, iV i)]⟩, []⟩) (fun _ => ⟨[(0, .cells none false (yardC y))], 1⟩) (fun i => y.nc - i) (fun i => i ≤ y.nc ∧ (i : Int) ≤ FU) 0
    (fun _ => rfl) ⟨Nat.zero_le _, h0⟩ (Weak.by rfl rfl (by simp) (Nat.le_refl _) (Nat.le_refl _) ⟨⟨rfl, .inl rfl⟩, ⟨rfl, .inl rfl⟩, ⟨rfl, .inl rfl⟩, trivial⟩ ⟨⟨rfl, by omega, .inl rfl⟩, trivial⟩) fun i hi => ?_))
  obtain ⟨hi, hif⟩ := hi
  refine SW.seq ?_
  refine SW.seqRun tok hO (by cbv <;> rfl) (by trivial) ?_
  refine SW.condS (by cbv <;> rfl) (fun h => SW.skip ?_) (fun h => SW.exit ?_)
  · have hlt : i < y.nc := by
      have : (i : Int) < (y.nc : Int) := by subst hO; simpa [std] using h
      omega
    have hcv := conv0 hO (show i < 1000 by omega)
    have hF := hF i hlt
    have e69 := e69 i
    generalize lls y.nb (CL i) = G at e69
    obtain ⟨N, hN⟩ : ∃ N, (CL i).length = N := ⟨_, rfl⟩
    rw [hN] at e69 hF
    refine SW.seq (SW.block ?_)
    refine SW.seqRun tok hO (by cbv <;> rfl) (by exact hcv) ?_
    refine OpsW.callP e69 (by cbv <;> rfl) ?_
    refine OpsW.run tok hO (by cbv <;> rfl) (by trivial) ?_
    refine SW.condS (by cbv <;> rfl) (fun h2 => ?_) (fun h2 => SW.skip ?_)
    · have hz : N = 0 := by
        have : (N : Int) = 0 := by subst hO; simpa [std] using h2
        omega
      have hfi := hF.1 hz
      have he : FU = (i : Int) := by omega
      refine SW.seqRun tok hO (by cbv <;> rfl) (by trivial) ?_
      refine SW.ret ⟨_, _, rfl, rfl, Eqv.int ?_⟩
      rw [if_neg (by omega), he]; rfl
    · have hz : ¬ N = 0 := by
        have : ¬ (N : Int) = 0 := by subst hO; simpa [std] using h2
        omega
      have hfi : ¬ FU < ((i + 1 : Nat) : Int) := fun h => hz (hF.2 h)
      refine SW.run tok hO (by cbv <;> rfl) (by trivial) ?_
      exact ⟨i + 1, by omega, ⟨by omega, by omega⟩, Weak.by rfl rfl (by simp) (Nat.le_refl _) (Nat.le_refl _) ⟨⟨rfl, .inl rfl⟩, ⟨rfl, .inl rfl⟩, ⟨inc_ok hO (by omega), .inl rfl⟩, trivial⟩ ⟨⟨rfl, by omega, .inl rfl⟩, trivial⟩⟩
  · have hz : i = y.nc := by
      have : (y.nc : Int) ≤ (i : Int) := by subst hO; simpa [std] using h
      omega
    refine SW.seqRun tok hO (by cbv <;> rfl) (by trivial) ?_
    refine SW.ret ⟨_, _, rfl, rfl, Eqv.int ?_⟩
    rw [if_pos (by omega)]
structure bstI (q : List Nat → Bool) (n i : Nat) (o : List Nat) : Prop where
  inn : o ∈ risL n
  ok : q o = true
  least : ∀ b : Nat, b < i → q (selL (b : Int) 6) = true → shL (selL (b : Int) 6) o = false
theorem bstI_end {q : List Nat → Bool} {n : Nat} (hn : n ≤ 6) {o : List Nat} (h : bstI q n (2 ^ n) o) : (risL n).find? q = some o := by
  cases hf : (risL n).find? q with
  | none =>
    have := List.find?_eq_none.1 hf o h.inn
    rw [h.ok] at this
    exact absurd rfl this
  | some m =>
    obtain ⟨q1, pre, post, q2, q3⟩ := List.find?_eq_some_iff_append.1 hf
    have hm : m ∈ risL n := by rw [q2]; simp
    rcases ris_tot hn h.inn hm with e | e | e
    · rw [e]
    · have := q3 o (ris_before6 hn q2 h.inn e)
      rw [h.ok] at this
      cases this
    · obtain ⟨i, hi, ei⟩ := msk_ris6 hn hm
      have := h.least i hi (by rw [ei]; exact q1)
      rw [ei, e] at this
      cases this
theorem bstI_keep {q : List Nat → Bool} {n i : Nat} {o : List Nat} (h : bstI q n i o) (hk : q (selL (i : Int) 6) = false ∨ shL (selL (i : Int) 6) o = false) : bstI q n (i + 1) o := by
  refine ⟨h.inn, h.ok, fun b hb hq => ?_⟩
  by_cases e : b = i
  · subst e
    rcases hk with hk | hk
    · rw [hk] at hq; cases hq
    · exact hk
  · exact h.least b (by omega) hq
theorem bstI_take {q : List Nat → Bool} {n i : Nat} {o : List Nat} (hn : n ≤ 6) (hi : i < 2 ^ n) (h : bstI q n i o) (h1 : q (selL (i : Int) 6) = true) (h2 : shL (selL (i : Int) 6) o = true) : bstI q n (i + 1) (selL (i : Int) 6) := by
  have hr := sel_ris6 hn hi
  refine ⟨hr, h1, fun b hb hq => ?_⟩
  by_cases e : b = i
  · rw [e]; exact (ord_fin6 ⟨n, by omega⟩).2 _ hr
  · have h4 := h.least b (by omega) hq
    cases hs : shL (selL (b : Int) 6) (selL (i : Int) 6) with
    | false => rfl
    | true =>
      have := ris_tri hn (sel_ris6 hn (by omega)) hr h.inn hs h2
      rw [h4] at this; cases this
theorem lv_bits : ∀ (nc : Fin 6) (o : Fin 32), o.1 < 2 ^ nc.1 → (0 ≤ std.bin .sub .i64 (allI nc.1) (o.1 : Int) ∧ std.bin .sub .i64 (allI nc.1) (o.1 : Int) < 64) ∧ ∀ p : Fin 6, bitB (std.bin .sub .i64 (allI nc.1) (o.1 : Int)) p.1 = (decide (p.1 < nc.1) && !bitB (o.1 : Int) p.1) := by decide +kernel
theorem lv_cl {y : YardD} (hc : y.check = 0) {i : Nat} (hi : i < 2 ^ y.nc) : (y.clR (std.bin .sub .i64 (allI y.nc) (i : Int))).length ≠ 0 ↔ y.lvB y.allS (selL (i : Int) 6) = true := by
  have h5 := (y.fit_of_check hc).2.2.2.2.2.1
  have h32 : i < 32 := by
    have : (2 : Nat) ^ y.nc ≤ 2 ^ 5 := Nat.pow_le_pow_right (by decide) h5
    omega
  obtain ⟨h6, hb⟩ := lv_bits ⟨y.nc, by omega⟩ ⟨i, h32⟩ hi
  rw [cl_ne hc h6, lvB_iff]
  have hb : ∀ p, p < 6 → bitB (std.bin .sub .i64 (allI y.nc) (i : Int)) p = (decide (p < y.nc) && !bitB (i : Int) p) := fun p hp => hb ⟨p, hp⟩
  constructor
  · rintro ⟨g, hg, h⟩
    refine ⟨g, hg, fun p hp => ?_⟩
    obtain ⟨h1, h2⟩ := mem_coL.1 hp
    refine (h p (by omega) ?_).2
    rw [hb p (by omega), decide_eq_true h1, Bool.true_and]
    cases hq : bitB (i : Int) p with
    | false => rfl
    | true => exact absurd (selL_mem6.2 ⟨by omega, hq⟩) h2
  · rintro ⟨g, hg, h⟩
    refine ⟨g, hg, fun p hp hq => ?_⟩
    rw [hb p hp, Bool.and_eq_true, decide_eq_true_eq] at hq
    refine ⟨hq.1, h p (mem_coL.2 ⟨hq.1, fun hm => ?_⟩)⟩
    have := (selL_mem6.1 hm).2
    rw [this] at hq
    cases hq.2
end Go.Fz
set_option linter.unusedVariables false
namespace Go.Fz
open Go.Proofs
set_option maxRecDepth 100000
theorem rng_ris6 : ∀ nc : Fin 7, List.range nc.1 ∈ risL nc.1 := by decide +kernel
set_option maxHeartbeats 16000000 in
theorem refLeave_ok {y : YardD} (hc : y.check = 0) (hs : y.allS ≠ []) : Pure Try.prog 43 [yardV y, llV y.nb y.schR] y.lveV := by
  obtain ⟨O, hO⟩ : ∃ O : Ar, O = std := ⟨_, rfl⟩
  have h5 := (y.fit_of_check hc).2.2.2.2.2.1
  have hn6 : y.nc ≤ 6 := by omega
  obtain ⟨b1, b2, b3, b4⟩ := all6_fin ⟨y.nc, by omega⟩
  simp only at b1 b2 b3 b4
  have h64 : (2 : Int) ^ y.nc ≤ 64 := pow_le6 hn6
  have e55 := full55_ok y (by omega)
  have eF := bits64_ok (allI y.nc) b2 (by omega)
  rw [b1] at eF
  have hiN : ∀ i : Nat, i < 2 ^ y.nc → (i : Int) < 2 ^ y.nc := fun i hi => by
    have e : ((2 ^ y.nc : Nat) : Int) = 2 ^ y.nc := by simp
    omega
  have hA : ∀ i : Nat, ((i : Int) ≤ allI y.nc ↔ i < 2 ^ y.nc) := fun i => by
    rw [b4]
    have e : ((2 ^ y.nc : Nat) : Int) = 2 ^ y.nc := by simp
    omega
  have e52 := fun (i : Nat) (hi : i < 2 ^ y.nc) => bits64_ok (Int.ofNat i) (Int.natCast_nonneg i) (Int.lt_of_lt_of_le (hiN i hi) h64)
  have e53 := fun (a b : List Nat) (ha : a.length ≤ 6) (hb : b.length ≤ 6) => shorter_ok a.length b.length false false (lI a) (lI b) (by omega) (by omega)
  have e69 : ∀ i : Nat, Pure Try.prog 69 [yardV y, llV y.nb y.schR, iV (O.bin .sub .i64 (allI y.nc) (Int.ofNat i))] (llV y.nb (y.clR (O.bin .sub .i64 (allI y.nc) (Int.ofNat i)))) := fun i => claimedR_ok hc _
  have hC : ∀ i, i < 2 ^ y.nc → ((y.clR (O.bin .sub .i64 (allI y.nc) (Int.ofNat i))).length ≠ 0 ↔ y.lvB y.allS (selL (i : Int) 6) = true) := fun i hi => by subst hO; exact lv_cl hc hi
  have hq0 : bstI (y.lvB y.allS) y.nc 0 (List.range y.nc) := by
    refine ⟨rng_ris6 ⟨y.nc, by omega⟩, ?_, fun b hb => absurd hb (Nat.not_lt_zero _)⟩
    obtain ⟨f, hf⟩ := List.exists_mem_of_ne_nil _ hs
    refine lvB_iff.2 ⟨f, hf, fun p hp => ?_⟩
    obtain ⟨h1, h2⟩ := mem_coL.1 hp
    exact absurd (List.mem_range.2 h1) h2
  have hend : ∀ o, bstI (y.lvB y.allS) y.nc (2 ^ y.nc) o → lsV o = y.lveV := fun o h => by
    have h1 := bstI_end hn6 h
    unfold YardD.lveV
    rw [if_pos ((any_sees hc).2 hs), h1]
  generalize y.lvB y.allS = q at hC hq0 hend
  generalize y.lveV = RV at hend ⊢
  obtain ⟨CL, hCL⟩ : ∃ CL : Nat → List (Nat → Int), CL = fun i => y.clR (O.bin .sub .i64 (allI y.nc) (Int.ofNat i)) := ⟨_, rfl⟩
  have e69 : ∀ i : Nat, Pure Try.prog 69 [yardV y, llV y.nb y.schR, iV (O.bin .sub .i64 (allI y.nc) (Int.ofNat i))] (.isl (CL i).length 1 false (lls y.nb (CL i))) := fun i => by rw [hCL]; exact e69 i
  have hC : ∀ i, i < 2 ^ y.nc → ((CL i).length ≠ 0 ↔ q (selL (i : Int) 6) = true) := fun i hi => by rw [hCL]; exact hC i hi
  clear hCL
  have hLb := llV_below y.nb y.schR
  have hL2 : llV y.nb y.schR = .isl y.schR.length 1 false (lls y.nb y.schR) := rfl
  rw [hL2] at e69 hLb ⊢
  generalize y.schR.length = NS at e69 hLb ⊢
  generalize lls y.nb y.schR = GS at e69 hLb ⊢
  generalize allI y.nc = A at e55 eF hA e69
  have hRb : Below 0 RV := by
    obtain ⟨o, ho⟩ : ∃ o, (risL y.nc).find? q = some o := by
      cases hf : (risL y.nc).find? q with
      | some o => exact ⟨o, rfl⟩
      | none =>
        have := List.find?_eq_none.1 hf _ hq0.inn
        rw [hq0.ok] at this
        exact absurd rfl this
    obtain ⟨q1, pre, post, q2, q3⟩ := List.find?_eq_some_iff_append.1 ho
    have hor : o ∈ risL y.nc := by rw [q2]; simp
    rw [← hend o ⟨hor, q1, fun b hb hqb => ?_⟩]
    · exact lsV_below _
    · cases hsb : shL (selL (b : Int) 6) o with
      | false => rfl
      | true =>
        have := q3 _ (ris_before6 hn6 q2 (sel_ris6 hn6 hb) hsb)
        rw [hqb] at this; cases this
  refine pure_of_body tok 3 Try.func43 en43 rfl ⟨yardV_below y, hLb, trivial⟩ hRb ?_
  refine SW.seqRun tok hO (by cbv <;> rfl) (by trivial) ?_
  refine SW.seqRun tok hO (by cbv <;> rfl) (by trivial) ?_
  refine OpsW.callP e55 (by cbv <;> rfl) ?_
  refine OpsW.run tok hO (by cbv <;> rfl) (by trivial) ?_
  obtain ⟨BV, hBV⟩ : ∃ V, lsV (List.range y.nc) = V := ⟨_, rfl⟩
  rw [hBV] at eF
  refine OpsW.callP eF (by cbv <;> rfl) ?_
  refine OpsW.run tok hO (by cbv <;> rfl) (by trivial) ?_
  refine SW.seq ?_
  refine SW.seqRun tok hO (by cbv <;> rfl) (by trivial) ?_
  refine (SW.block (SW.loopF (fun x : Nat × List Nat => ⟨⟨35, getT [(1, .isl NS 1 false GS), (2, .ptr 0 0), (5, lsV x.2), (6, iV x.1)]⟩, []⟩) (fun _ => ⟨[(0, .cells none false (yardC y))], 1⟩) (fun x => 2 ^ y.nc - x.1) (fun x => x.1 ≤ 2 ^ y.nc ∧ bstI q y.nc x.1 x.2) (0, List.range y.nc)
    (fun _ => rfl) ⟨Nat.zero_le _, hq0⟩ (Weak.by rfl rfl (by simp) (Nat.le_refl _) (Nat.le_refl _) ⟨⟨rfl, .inl rfl⟩, ⟨rfl, .inl rfl⟩, ⟨hBV.symm, .inl rfl⟩, ⟨rfl, .inl rfl⟩, trivial⟩ ⟨⟨rfl, by omega, .inl rfl⟩, trivial⟩) fun x hx => ?_))
  clear hBV eF
  obtain ⟨i, o⟩ := x
  obtain ⟨hi, hI⟩ := hx
  simp only at hi hI
  obtain ⟨NO, hNO⟩ : ∃ n, o.length = n := ⟨_, rfl⟩
  obtain ⟨FO, hFO⟩ : ∃ f, lI o = f := ⟨_, rfl⟩
  have hOV : lsV o = intsV NO false FO := by rw [← hNO, ← hFO]; rfl
  show SW _ _ _ _ ⟨⟨35, getT [(1, .isl NS 1 false GS), (2, .ptr 0 0), (5, lsV o), (6, iV (Int.ofNat i))]⟩, []⟩ _
  rw [hOV]
  refine SW.seq ?_
  refine SW.seqRun tok hO (by cbv <;> rfl) (by trivial) ?_
  refine OpsW.callP e55 (by cbv <;> rfl) ?_
  refine OpsW.run tok hO (by cbv <;> rfl) (by trivial) ?_
  refine SW.condS (by cbv <;> rfl) (fun h => SW.skip ?_) (fun h => SW.exit ?_)
  · have hlt : i < 2 ^ y.nc := by
      have : (i : Int) ≤ A := by subst hO; simpa [std] using h
      exact (hA i).1 this
    have hbig : i < 4611686018427387904 := by
      have := hiN i hlt
      omega
    have e52 := e52 i hlt
    have hkeep := bstI_keep hI
    have htake := bstI_take hn6 hlt hI
    have hsl := ris_len6 hn6 (sel_ris6 hn6 hlt)
    have hC := hC i hlt
    have e69 := e69 i
    generalize lls y.nb (CL i) = G at e69
    obtain ⟨N, hN⟩ : ∃ N, (CL i).length = N := ⟨_, rfl⟩
    rw [hN] at e69 hC
    obtain ⟨L, hL⟩ : ∃ L, selL (Int.ofNat i) 6 = L := ⟨_, rfl⟩
    have hL2 : selL (i : Int) 6 = L := hL
    rw [hL] at e52
    rw [hL2] at hkeep htake hsl hC
    have e53 := e53 L o hsl (ris_len6 hn6 hI.inn)
    obtain ⟨S, hS⟩ : ∃ S, shortB L.length o.length (lI L) (lI o) = S := ⟨_, rfl⟩
    have hS2 : shL L o = S := hS
    rw [hS] at e53
    have e53 : Pure Try.prog 53 [lsV L, lsV o] (.sb S) := e53
    rw [hOV] at e53
    obtain ⟨NL, hNL⟩ : ∃ n, L.length = n := ⟨_, rfl⟩
    obtain ⟨FL, hFL⟩ : ∃ f, lI L = f := ⟨_, rfl⟩
    have hLV : lsV L = intsV NL false FL := by rw [← hNL, ← hFL]; rfl
    rw [hLV] at e52 e53
    have hgo : ∀ (o' : List Nat) (f' : Fm) (st' : St), bstI q y.nc (i + 1) o' → Weak 1 f' st' ⟨⟨35, getT [(1, .isl NS 1 false GS), (2, .ptr 0 0), (5, lsV o'), (6, iV ((i + 1 : Nat) : Int))]⟩, []⟩ ⟨[(0, .cells none false (yardC y))], 1⟩ → ∃ x' : Nat × List Nat, 2 ^ y.nc - x'.1 < 2 ^ y.nc - i ∧ (x'.1 ≤ 2 ^ y.nc ∧ bstI q y.nc x'.1 x'.2) ∧ Weak 1 f' st' ⟨⟨35, getT [(1, .isl NS 1 false GS), (2, .ptr 0 0), (5, lsV x'.2), (6, iV x'.1)]⟩, []⟩ ⟨[(0, .cells none false (yardC y))], 1⟩ := fun o' f' st' h1 h2 => ⟨(i + 1, o'), by show 2 ^ y.nc - (i + 1) < 2 ^ y.nc - i; omega, ⟨by show i + 1 ≤ 2 ^ y.nc; omega, h1⟩, h2⟩
    refine SW.seq (SW.block ?_)
    refine SW.seqRun tok hO (by cbv <;> rfl) (by trivial) ?_
    refine OpsW.callP e52 (by cbv <;> rfl) ?_
    refine OpsW.run tok hO (by cbv <;> rfl) (by trivial) ?_
    refine SW.seqRunD tok mixed hO (by kernel_rfl) (by cbv <;> rfl) (by trivial) ?_
    refine AnyE.callP e53 (by cbv <;> rfl) (by cbv <;> rfl) ?_
    refine AnyE.dec tok hO (by kernel_rfl) (by cbv <;> rfl) (by trivial) (fun h3 => ?_) (fun h3 => ?_)
    · have hSt : S = true := h3
      refine AnyE.run tok hO (by kernel_rfl) (by cbv <;> rfl) (by trivial) ?_
      refine AnyE.callP e55 (by cbv <;> rfl) (by cbv <;> rfl) ?_
      refine AnyE.run tok hO (by kernel_rfl) (by cbv <;> rfl) (by trivial) ?_
      refine AnyE.callP e69 (by cbv <;> rfl) (by cbv <;> rfl) ?_
      refine AnyE.run tok hO (by kernel_rfl) (by cbv <;> rfl) (by trivial) ?_
      refine AnyE.dec tok hO (by kernel_rfl) (by cbv <;> rfl) (by trivial) (fun h4 => ?_) (fun h4 => ?_)
      · have hNz : N ≠ 0 := by
          have : (N : Int) > 0 := by subst hO; simpa [std] using h4
          omega
        refine AnyE.run tok hO (by kernel_rfl) (by cbv <;> rfl) (by trivial) ?_
        refine SW.cond (t := true) (by cbv <;> rfl) ?_
        refine SW.run tok hO (by cbv <;> rfl) (by trivial) ?_
        refine SW.run tok hO (by cbv <;> rfl) (by trivial) ?_
        refine hgo L _ _ (htake (hC.1 hNz) (hS2.trans hSt)) ?_
        exact Weak.by rfl rfl (by simp) (Nat.le_refl _) (Nat.le_refl _) ⟨⟨rfl, .inl rfl⟩, ⟨rfl, .inl rfl⟩, ⟨hLV.symm, .inl rfl⟩, ⟨inc_ok hO hbig, .inl rfl⟩, trivial⟩ ⟨⟨rfl, by omega, .inl rfl⟩, trivial⟩
      · have hNz : ¬ N ≠ 0 := by
          have : ¬ (N : Int) > 0 := by subst hO; simpa [std] using h4
          omega
        refine AnyE.run tok hO (by kernel_rfl) (by cbv <;> rfl) (by trivial) ?_
        refine SW.cond (t := false) (by cbv <;> rfl) (SW.skip ?_)
        refine SW.run tok hO (by cbv <;> rfl) (by trivial) ?_
        have hqf : q L = false := by
          cases hq : q L with
          | false => rfl
          | true => exact absurd (hC.2 hq) hNz
        refine hgo o _ _ (hkeep (.inl hqf)) ?_
        exact Weak.by rfl rfl (by simp) (Nat.le_refl _) (Nat.le_refl _) ⟨⟨rfl, .inl rfl⟩, ⟨rfl, .inl rfl⟩, ⟨hOV.symm, .inl rfl⟩, ⟨inc_ok hO hbig, .inl rfl⟩, trivial⟩ ⟨⟨rfl, by omega, .inl rfl⟩, trivial⟩
    · have hSf : S = false := h3
      refine AnyE.run tok hO (by kernel_rfl) (by cbv <;> rfl) (by trivial) ?_
      refine SW.cond (t := false) (by cbv <;> rfl) (SW.skip ?_)
      refine SW.run tok hO (by cbv <;> rfl) (by trivial) ?_
      refine hgo o _ _ (hkeep (.inr (hS2.trans hSf))) ?_
      exact Weak.by rfl rfl (by simp) (Nat.le_refl _) (Nat.le_refl _) ⟨⟨rfl, .inl rfl⟩, ⟨rfl, .inl rfl⟩, ⟨hOV.symm, .inl rfl⟩, ⟨inc_ok hO hbig, .inl rfl⟩, trivial⟩ ⟨⟨rfl, by omega, .inl rfl⟩, trivial⟩
  · have hge : i = 2 ^ y.nc := by
      have : ¬ (i : Int) ≤ A := by subst hO; simpa [std] using h
      have h2 : ¬ i < 2 ^ y.nc := fun h => this ((hA i).2 h)
      omega
    subst hge
    have hRV := hend o hI
    refine SW.seqRun tok hO (by cbv <;> rfl) (by trivial) ?_
    refine SW.ret ⟨_, _, rfl, rfl, ?_⟩
    rw [← hRV, hOV]
    exact Eqv.of rfl
end Go.Fz
set_option linter.unusedVariables false
set_option linter.unusedSimpArgs false
namespace Go.Fz
open Go.Proofs
set_option maxRecDepth 100000
end Go.Fz
set_option linter.unusedVariables false
set_option linter.unusedSimpArgs false
namespace Go.Fz
open Go.Proofs
set_option maxRecDepth 100000
end Go.Fz
set_option linter.unusedVariables false
set_option linter.unusedSimpArgs false
namespace Go.Fz
open Go.Proofs
set_option maxRecDepth 100000
end Go.Fz
set_option linter.unusedVariables false
set_option linter.unusedSimpArgs false
namespace Go.Fz
open Go.Proofs
set_option maxRecDepth 100000
end Go.Fz
set_option linter.unusedVariables false
set_option linter.unusedSimpArgs false
namespace Go.Fz
open Go.Proofs
set_option maxRecDepth 100000
end Go.Fz
set_option linter.unusedVariables false
namespace Go.Fz
open Go.Proofs
set_option maxRecDepth 100000
theorem same_nil : Pure Try.prog 30 [nl3, nl3] (.sb true) := by
  have h := same_ok 0 0 false false (fun _ => 0) (fun _ => 0) (by omega) (by omega)
  rw [same_self] at h
  exact h.eqv (.cons Eqv.nil (.cons Eqv.nil .nil))
theorem same_lve {y : YardD} (hc : y.check = 0) : Pure Try.prog 30 [y.lveV, y.lveV] (.sb true) := by
  by_cases hs : y.allS = []
  · have : y.lveV = nl3 := by
      unfold YardD.lveV
      rw [if_neg (by rw [(any_sees hc).1 hs]; decide)]
    rw [this]; exact same_nil
  · obtain ⟨pre, l, post, q1, q2, _⟩ := lve_sees hc hs
    have h5 := (y.fit_of_check hc).2.2.2.2.2.1
    have hl := (msk_fin6 ⟨y.nc, by omega⟩ l (by rw [q2]; simp)).2.2
    rw [q1]
    have h := same_ok l.length l.length false false (lI l) (lI l) (by omega) (by omega)
    rw [same_self] at h
    exact h
end Go.Fz
set_option linter.unusedVariables false
namespace Go.Fz
open Go.Proofs
set_option maxRecDepth 100000
theorem pl_eq (y : YardD) : y.plE = y.anyE true := by
  by_cases hW : y.faultN = 0
  · exact pl_any ((check_eq y).trans hW)
  · rw [(su_fault hW).2, (own_fault hW true).1]
theorem cleanLeaves_ok (haw : Pure Try.prog 18 [] (.lit (.bool true))) (y : YardD) : Pure Try.prog 6 [yardV y] (.lit (.bool true)) := by
  have e17 := thin_any y
  cases hT : y.thinB with
  | false =>
    rw [hT] at e17
    exact lv_not haw y e17
  | true =>
    rw [hT] at e17
    obtain ⟨s1, s2⟩ := thin_small hT
    have e20 := yard_ok y (by omega) (by omega)
    have e40 := first_ok y (by omega) (by omega)
    have e41 := leave_ok y (by omega) (by omega)
    have e42 := planned_ok y (by omega) (by omega)
    rw [pl_eq] at e42
    by_cases hE : y.anyE true = 0
    · have hc := (YardD.any_ok0 hE).1
      have hs := (YardD.any_ok0 hE).2.2
      have hpv : y.plV = llV y.nb y.schR := if_pos (by rw [pl_eq]; exact hE)
      rw [hpv, hE] at e42
      rw [hE] at e41
      have e43 := refLeave_ok hc hs
      have e44 := refFirst_ok hc hs
      have e30 := same_lve hc
      have h0 := (fur_all y y.allS y.allS.length).1
      by_cases hf : y.fur y.allS y.allS.length = (y.nc : Nat)
      · have h1 : y.fstE = 7 := by unfold YardD.fstE; rw [if_neg (by simp [hE]), if_pos hf]
        have h2 : y.fstV = 0 := by unfold YardD.fstV; rw [if_neg (by rw [h1]; decide)]
        rw [h1, h2] at e40
        rw [if_pos hf] at e44
        exact lv_all haw y _ _ e17 e20 e40 e41 e42 e43 e30 e44
      · have h1 : y.fstE = 0 := by unfold YardD.fstE; rw [if_neg (by simp [hE]), if_neg hf]
        have h2 : y.fstV = y.fur y.allS y.allS.length := by unfold YardD.fstV; rw [if_pos h1]
        rw [h1, h2] at e40
        rw [if_neg hf] at e44
        exact lv_fst haw y _ _ _ h0 e17 e20 e40 e41 e42 e43 e30 e44
    · have h1 : y.fstE = y.anyE true := by unfold YardD.fstE; rw [if_pos hE]
      have h2 : y.fstV = 0 := by unfold YardD.fstV; rw [if_neg (by rw [h1]; exact hE)]
      have h3 : y.lveV = nl3 := by unfold YardD.lveV; rw [if_neg hE]
      have h4 : y.plV = nl3 := if_neg (by rw [pl_eq]; exact hE)
      rw [h1, h2] at e40
      rw [h3] at e41
      rw [h4] at e42
      exact lv_bad haw y _ hE e17 e20 e40 e41 e42
end Go.Fz
