/- Own work of the verifier of watercress: FzG5, FzE1, FzD13, FzE4, FzE2, FzG2, FzE5, FzG6. -/
import Derived.Below
import Derived.CallsIn
import Derived.Carry
import Derived.ChangeKeysEq
import Derived.ChangeSame
import Derived.Deep.Slices
import Derived.DeepKeys4
import Derived.JoinedCond
import Derived.Laws.AppendOwn
import Derived.Laws.Cells
import Derived.Laws.CopyRow
import Derived.Laws.Cover3
import Derived.Laws.Entries
import Derived.Laws.NewFold
import Derived.Laws.Sem
import Derived.Laws.Small
import Derived.Laws.StructEq
import Derived.Laws.Tables
import Derived.Laws.World
import Derived.Lib.SmallJoins
import Derived.Maps.Keyed
import Derived.Maps.RangeRun
import Derived.OpenShut
import Derived.OrdersHeld
import Derived.OrdersIn
import Derived.ProofKit
import Derived.RangeFuncLeaves
import Derived.RangeFuncRecord
import Derived.Shelf.Abstract
import Derived.WalkKit
import Derived.WideKeyArgs
import Derived.Test.YtpaifaemkoblcaaNa16
import Derived.Test.YtpaifaemkoblcaaNa24
import Derived.Test.YtpaifaemkoblcaaNa25
import Derived.Test.YtpaifaemkoblcaaNa26
import Derived.Test.YtpaifaemkoblcaaNa19
import Derived.Test.YtpaifaemkoblcaaNa20
import Derived.Test.YtpaifaemkoblcaaNa21
import Derived.Test.YtpaifaemkoblcaaNa22
import Derived.Test.YtpaifaemkoblcaaNa23
import Derived.Test.YtpaifaemkoblcaaNa27
import Derived.Test.YtpaifaemkoblcaaNc0
import Derived.Test.YtpaifaemkoblcaaNa32
import Derived.Test.YtpaifaemkoblcaaNa35
import Derived.Test.YtpaifaemkoblcaaNa33
import Derived.Test.YtpaifaemkoblcaaNa34
import Derived.Test.YtpaifaemkoblcaaNa28
import Derived.Test.YtpaifaemkoblcaaNa29
import Derived.Test.YtpaifaemkoblcaaNa30
import Derived.Test.YtpaifaemkoblcaaNa31
import Derived.Test.YtpaifaemkoblcaaNa36
import Derived.Test.YtpaifaemkoblcaaNa37
import Derived.Test.YtpaifaemkoblcaaNa38
import Derived.Test.YtpaifaemkoblcaaNa40
import Derived.Test.YtpaifaemkoblcaaNa39
import Derived.Test.YtpaifaemkoblcaaNa41
import Derived.Test.YtpaifaemkoblcaaNa17
import Derived.Test.YtpaifaemkoblcaaNa18
import Derived.Test.YtpaifaemkoblcaaNa10
import Derived.Test.YtpaifaemkoblcaaNa12
import Derived.Test.YtpaifaemkoblcaaNa11
import Derived.Test.YtpaifaemkoblcaaNa13
import Derived.Test.YtpaifaemkoblcaaNa14
import Derived.Test.YtpaifaemkoblcaaNa0
import Derived.Test.YtpaifaemkoblcaaNa1
import Derived.Test.YtpaifaemkoblcaaNa2
import Derived.Test.YtpaifaemkoblcaaNa3
import Derived.Test.YtpaifaemkoblcaaNa4
import Derived.Test.YtpaifaemkoblcaaNa5
import Derived.Test.YtpaifaemkoblcaaNa6
import Derived.Test.YtpaifaemkoblcaaNa7
import Derived.Test.YtpaifaemkoblcaaNa8
import Derived.Test.YtpaifaemkoblcaaNa9
import Derived.Test.YtpaifaemkoblcaaProg
import Derived.Test.YtpaifaemkoblcaaRows
set_option linter.unusedVariables false
set_option linter.unusedSimpArgs false
set_option linter.unusedVariables false
set_option linter.unusedSimpArgs false
namespace Go.Fz
open Go.Proofs
set_option maxRecDepth 100000
set_option maxHeartbeats 8000000 in
theorem le_not (haw : Pure Try.prog 19 [] (.lit (.bool true))) (f : FarmD) (e18 : Pure Try.prog 18 [farmV f] (.sb false)) : Pure Try.prog 7 [farmV f] (.lit (.bool true)) := by
  obtain ⟨O, hO⟩ : ∃ O : Ar, O = std := ⟨_, rfl⟩
  refine pure_of_body tok 3 Try.func7 en7 rfl ⟨farmV_below f, trivial⟩ Below.lit ?_
  refine SW.seqRun tok hO (by cbv <;> rfl) (by trivial) ?_
  refine SW.seq ?_
  refine SW.seqRun tok hO (by cbv <;> rfl) (by trivial) ?_
  refine OpsW.callP e18 (by cbv <;> rfl) ?_
  refine OpsW.run tok hO (by cbv <;> rfl) (by trivial) ?_
  refine SW.condS (by cbv <;> rfl) (fun hw1 => ?_) (fun hw1 => by first | (cases hw1; done) | (subst hO; simp [std] at hw1; done) | (subst hO; simp [std] at hw1; omega))
  refine SW.seqRun tok hO (by cbv <;> rfl) (by trivial) ?_
  refine OpsW.callP haw (by cbv <;> rfl) ?_
  refine OpsW.run tok hO (by cbv <;> rfl) (by trivial) ?_
  exact SW.ret ⟨_, _, rfl, rfl, Eqv.of rfl⟩
set_option maxHeartbeats 8000000 in
theorem le_bad (haw : Pure Try.prog 19 [] (.lit (.bool true))) (f : FarmD) (c : Int) (hc : ¬ c = 0) (e18 : Pure Try.prog 18 [farmV f] (.sb true)) (e21 : Pure Try.prog 21 [farmV f] (farmV f)) (e43 : Pure Try.prog 43 [farmV f] (.tup [iV 0, iV c])) (e44 : Pure Try.prog 44 [farmV f] (.tup [nl3, iV c])) (e24 : Pure Try.prog 24 [farmV f] (iV c)) : Pure Try.prog 7 [farmV f] (.lit (.bool true)) := by
  obtain ⟨O, hO⟩ : ∃ O : Ar, O = std := ⟨_, rfl⟩
  refine pure_of_body tok 3 Try.func7 en7 rfl ⟨farmV_below f, trivial⟩ Below.lit ?_
  refine SW.seqRun tok hO (by cbv <;> rfl) (by trivial) ?_
  refine SW.seq ?_
  refine SW.seqRun tok hO (by cbv <;> rfl) (by trivial) ?_
  refine OpsW.callP e18 (by cbv <;> rfl) ?_
  refine OpsW.run tok hO (by cbv <;> rfl) (by trivial) ?_
  refine SW.condS (by cbv <;> rfl) (fun hw1 => by first | (cases hw1; done) | (subst hO; simp [std, hc] at hw1; done) | (subst hO; simp [std, hc] at hw1; omega)) (fun hw1 => SW.skip ?_)
  refine SW.seqRun tok hO (by cbv <;> rfl) (by trivial) ?_
  refine OpsW.callP e21 (by cbv <;> rfl) ?_
  refine OpsW.run tok hO (by cbv <;> rfl) (by trivial) ?_
  refine OpsW.callP e43 (by cbv <;> rfl) ?_
  refine OpsW.run tok hO (by cbv <;> rfl) (by trivial) ?_
  refine SW.seqRun tok hO (by cbv <;> rfl) (by trivial) ?_
  refine OpsW.callP e21 (by cbv <;> rfl) ?_
  refine OpsW.run tok hO (by cbv <;> rfl) (by trivial) ?_
  refine OpsW.callP e44 (by cbv <;> rfl) ?_
  refine OpsW.run tok hO (by cbv <;> rfl) (by trivial) ?_
  refine SW.seq ?_
  refine SW.seqRun tok hO (by cbv <;> rfl) (by trivial) ?_
  refine OpsW.callP e24 (by cbv <;> rfl) ?_
  refine OpsW.run tok hO (by cbv <;> rfl) (by trivial) ?_
  refine SW.seqRun tok hO (by cbv <;> rfl) (by trivial) ?_
  refine SW.condS (by cbv <;> rfl) (fun hw2 => ?_) (fun hw2 => by first | (cases hw2; done) | (subst hO; simp [std, hc] at hw2; done) | (subst hO; simp [std, hc] at hw2; omega))
  refine SW.seqRun tok hO (by cbv <;> rfl) (by trivial) ?_
  refine OpsW.splitG (by cbv <;> rfl) (fun hw3 => ?_) (fun hw3 => by first | (cases hw3; done) | (subst hO; simp [std, hc] at hw3; done) | (subst hO; simp [std, hc] at hw3; omega))
  refine OpsW.run tok hO (by cbv <;> rfl) (by trivial) ?_
  refine OpsW.splitG (by cbv <;> rfl) (fun hw4 => ?_) (fun hw4 => by first | (cases hw4; done) | (subst hO; simp [std, hc] at hw4; done) | (subst hO; simp [std, hc] at hw4; omega))
  refine OpsW.run tok hO (by cbv <;> rfl) (by trivial) ?_
  refine OpsW.splitG (by cbv <;> rfl) (fun hw5 => ?_) (fun hw5 => by first | (cases hw5; done) | (subst hO; simp [std, hc] at hw5; done) | (subst hO; simp [std, hc] at hw5; omega))
  refine OpsW.run tok hO (by cbv <;> rfl) (by trivial) ?_
  refine OpsW.splitG (by cbv <;> rfl) (fun hw6 => ?_) (fun hw6 => by first | (cases hw6; done) | (subst hO; simp [std, hc] at hw6; done) | (subst hO; simp [std, hc] at hw6; omega))
  refine OpsW.run tok hO (by cbv <;> rfl) (by trivial) ?_
  refine OpsW.callP haw (by cbv <;> rfl) ?_
  refine OpsW.run tok hO (by cbv <;> rfl) (by trivial) ?_
  exact SW.ret ⟨_, _, rfl, rfl, Eqv.of rfl⟩
set_option maxHeartbeats 8000000 in
theorem le_some (haw : Pure Try.prog 19 [] (.lit (.bool true))) (f : FarmD) (n : Int) (hn : 0 ≤ n) (LV AL : AV) (e18 : Pure Try.prog 18 [farmV f] (.sb true)) (e21 : Pure Try.prog 21 [farmV f] (farmV f)) (e43 : Pure Try.prog 43 [farmV f] (.tup [iV n, iV 0])) (e44 : Pure Try.prog 44 [farmV f] (.tup [LV, iV 0])) (e24 : Pure Try.prog 24 [farmV f] (iV 0)) (e45 : Pure Try.prog 45 [farmV f] AL) (e46 : Pure Try.prog 46 [farmV f, AL] LV) (e41 : Pure Try.prog 41 [LV, LV] (.lit (.bool true))) (e47 : Pure Try.prog 47 [farmV f, AL] (iV n)) : Pure Try.prog 7 [farmV f] (.lit (.bool true)) := by
  obtain ⟨O, hO⟩ : ∃ O : Ar, O = std := ⟨_, rfl⟩
  refine pure_of_body tok 3 Try.func7 en7 rfl ⟨farmV_below f, trivial⟩ Below.lit ?_
  refine SW.seqRun tok hO (by cbv <;> rfl) (by trivial) ?_
  refine SW.seq ?_
  refine SW.seqRun tok hO (by cbv <;> rfl) (by trivial) ?_
  refine OpsW.callP e18 (by cbv <;> rfl) ?_
  refine OpsW.run tok hO (by cbv <;> rfl) (by trivial) ?_
  refine SW.condS (by cbv <;> rfl) (fun hw1 => by first | (cases hw1; done) | (subst hO; simp [std, hn] at hw1; done) | (subst hO; simp [std, hn] at hw1; omega)) (fun hw1 => SW.skip ?_)
  refine SW.seqRun tok hO (by cbv <;> rfl) (by trivial) ?_
  refine OpsW.callP e21 (by cbv <;> rfl) ?_
  refine OpsW.run tok hO (by cbv <;> rfl) (by trivial) ?_
  refine OpsW.callP e43 (by cbv <;> rfl) ?_
  refine OpsW.run tok hO (by cbv <;> rfl) (by trivial) ?_
  refine SW.seqRun tok hO (by cbv <;> rfl) (by trivial) ?_
  refine OpsW.callP e21 (by cbv <;> rfl) ?_
  refine OpsW.run tok hO (by cbv <;> rfl) (by trivial) ?_
  refine OpsW.callP e44 (by cbv <;> rfl) ?_
  refine OpsW.run tok hO (by cbv <;> rfl) (by trivial) ?_
  refine SW.seq ?_
  refine SW.seqRun tok hO (by cbv <;> rfl) (by trivial) ?_
  refine OpsW.callP e24 (by cbv <;> rfl) ?_
  refine OpsW.run tok hO (by cbv <;> rfl) (by trivial) ?_
  refine SW.seqRun tok hO (by cbv <;> rfl) (by trivial) ?_
  refine SW.condS (by cbv <;> rfl) (fun hw2 => by first | (cases hw2; done) | (subst hO; simp [std, hn] at hw2; done) | (subst hO; simp [std, hn] at hw2; omega)) (fun hw2 => SW.skip ?_)
  refine SW.seqRun tok hO (by cbv <;> rfl) (by trivial) ?_
  refine OpsW.callP e45 (by cbv <;> rfl) ?_
  refine OpsW.run tok hO (by cbv <;> rfl) (by trivial) ?_
  refine SW.seq ?_
  refine SW.seqRun tok hO (by cbv <;> rfl) (by trivial) ?_
  refine OpsW.splitG (by cbv <;> rfl) (fun hw3 => by first | (cases hw3; done) | (subst hO; simp [std, hn] at hw3; done) | (subst hO; simp [std, hn] at hw3; omega)) (fun hw3 => ?_)
  refine OpsW.run tok hO (by cbv <;> rfl) (by trivial) ?_
  refine OpsW.callP e46 (by cbv <;> rfl) ?_
  refine OpsW.run tok hO (by cbv <;> rfl) (by trivial) ?_
  refine OpsW.callP e41 (by cbv <;> rfl) ?_
  refine OpsW.run tok hO (by cbv <;> rfl) (by trivial) ?_
  refine SW.cond (t := false) (by cbv <;> rfl) (SW.skip ?_)
  refine SW.seq ?_
  refine SW.seqRun tok hO (by cbv <;> rfl) (by trivial) ?_
  refine OpsW.callP e47 (by cbv <;> rfl) ?_
  refine OpsW.run tok hO (by cbv <;> rfl) (by trivial) ?_
  refine SW.seqRun tok hO (by cbv <;> rfl) (by trivial) ?_
  refine SW.condS (by cbv <;> rfl) (fun hw4 => ?_) (fun hw4 => by first | (cases hw4; done) | (subst hO; simp [std, hn] at hw4; done) | (subst hO; simp [std, hn] at hw4; omega))
  refine SW.seqRun tok hO (by cbv <;> rfl) (by trivial) ?_
  refine OpsW.splitG (by cbv <;> rfl) (fun hw5 => ?_) (fun hw5 => by first | (cases hw5; done) | (subst hO; simp [std, hn] at hw5; done) | (subst hO; simp [std, hn] at hw5; omega))
  refine OpsW.run tok hO (by cbv <;> rfl) (by trivial) ?_
  refine OpsW.splitG (by cbv <;> rfl) (fun hw6 => ?_) (fun hw6 => by first | (cases hw6; done) | (subst hO; simp [std, hn] at hw6; done) | (subst hO; simp [std, hn] at hw6; omega))
  refine OpsW.run tok hO (by cbv <;> rfl) (by trivial) ?_
  refine OpsW.callP haw (by cbv <;> rfl) ?_
  refine OpsW.run tok hO (by cbv <;> rfl) (by trivial) ?_
  exact SW.ret ⟨_, _, rfl, rfl, Eqv.of rfl⟩
set_option maxHeartbeats 8000000 in
theorem le_none (haw : Pure Try.prog 19 [] (.lit (.bool true))) (f : FarmD) (LV AL : AV) (e18 : Pure Try.prog 18 [farmV f] (.sb true)) (e21 : Pure Try.prog 21 [farmV f] (farmV f)) (e43 : Pure Try.prog 43 [farmV f] (.tup [iV 0, iV 7])) (e44 : Pure Try.prog 44 [farmV f] (.tup [LV, iV 0])) (e24 : Pure Try.prog 24 [farmV f] (iV 0)) (e45 : Pure Try.prog 45 [farmV f] AL) (e46 : Pure Try.prog 46 [farmV f, AL] LV) (e41 : Pure Try.prog 41 [LV, LV] (.lit (.bool true))) (e47 : Pure Try.prog 47 [farmV f, AL] (iV (-1))) : Pure Try.prog 7 [farmV f] (.lit (.bool true)) := by
  obtain ⟨O, hO⟩ : ∃ O : Ar, O = std := ⟨_, rfl⟩
  refine pure_of_body tok 3 Try.func7 en7 rfl ⟨farmV_below f, trivial⟩ Below.lit ?_
  refine SW.seqRun tok hO (by cbv <;> rfl) (by trivial) ?_
  refine SW.seq ?_
  refine SW.seqRun tok hO (by cbv <;> rfl) (by trivial) ?_
  refine OpsW.callP e18 (by cbv <;> rfl) ?_
  refine OpsW.run tok hO (by cbv <;> rfl) (by trivial) ?_
  refine SW.condS (by cbv <;> rfl) (fun hw1 => by first | (cases hw1; done) | (subst hO; simp [std] at hw1; done) | (subst hO; simp [std] at hw1; omega)) (fun hw1 => SW.skip ?_)
  refine SW.seqRun tok hO (by cbv <;> rfl) (by trivial) ?_
  refine OpsW.callP e21 (by cbv <;> rfl) ?_
  refine OpsW.run tok hO (by cbv <;> rfl) (by trivial) ?_
  refine OpsW.callP e43 (by cbv <;> rfl) ?_
  refine OpsW.run tok hO (by cbv <;> rfl) (by trivial) ?_
  refine SW.seqRun tok hO (by cbv <;> rfl) (by trivial) ?_
  refine OpsW.callP e21 (by cbv <;> rfl) ?_
  refine OpsW.run tok hO (by cbv <;> rfl) (by trivial) ?_
  refine OpsW.callP e44 (by cbv <;> rfl) ?_
  refine OpsW.run tok hO (by cbv <;> rfl) (by trivial) ?_
  refine SW.seq ?_
  refine SW.seqRun tok hO (by cbv <;> rfl) (by trivial) ?_
  refine OpsW.callP e24 (by cbv <;> rfl) ?_
  refine OpsW.run tok hO (by cbv <;> rfl) (by trivial) ?_
  refine SW.seqRun tok hO (by cbv <;> rfl) (by trivial) ?_
  refine SW.condS (by cbv <;> rfl) (fun hw2 => by first | (cases hw2; done) | (subst hO; simp [std] at hw2; done) | (subst hO; simp [std] at hw2; omega)) (fun hw2 => SW.skip ?_)
  refine SW.seqRun tok hO (by cbv <;> rfl) (by trivial) ?_
  refine OpsW.callP e45 (by cbv <;> rfl) ?_
  refine OpsW.run tok hO (by cbv <;> rfl) (by trivial) ?_
  refine SW.seq ?_
  refine SW.seqRun tok hO (by cbv <;> rfl) (by trivial) ?_
  refine OpsW.splitG (by cbv <;> rfl) (fun hw3 => by first | (cases hw3; done) | (subst hO; simp [std] at hw3; done) | (subst hO; simp [std] at hw3; omega)) (fun hw3 => ?_)
  refine OpsW.run tok hO (by cbv <;> rfl) (by trivial) ?_
  refine OpsW.callP e46 (by cbv <;> rfl) ?_
  refine OpsW.run tok hO (by cbv <;> rfl) (by trivial) ?_
  refine OpsW.callP e41 (by cbv <;> rfl) ?_
  refine OpsW.run tok hO (by cbv <;> rfl) (by trivial) ?_
  refine SW.cond (t := false) (by cbv <;> rfl) (SW.skip ?_)
  refine SW.seq ?_
  refine SW.seqRun tok hO (by cbv <;> rfl) (by trivial) ?_
  refine OpsW.callP e47 (by cbv <;> rfl) ?_
  refine OpsW.run tok hO (by cbv <;> rfl) (by trivial) ?_
  refine SW.seqRun tok hO (by cbv <;> rfl) (by trivial) ?_
  refine SW.condS (by cbv <;> rfl) (fun hw4 => by first | (cases hw4; done) | (subst hO; simp [std] at hw4; done) | (subst hO; simp [std] at hw4; omega)) (fun hw4 => SW.skip ?_)
  refine SW.seqRun tok hO (by cbv <;> rfl) (by trivial) ?_
  refine OpsW.splitG (by cbv <;> rfl) (fun hw5 => ?_) (fun hw5 => by first | (cases hw5; done) | (subst hO; simp [std] at hw5; done) | (subst hO; simp [std] at hw5; omega))
  refine OpsW.run tok hO (by cbv <;> rfl) (by trivial) ?_
  refine OpsW.splitG (by cbv <;> rfl) (fun hw6 => ?_) (fun hw6 => by first | (cases hw6; done) | (subst hO; simp [std] at hw6; done) | (subst hO; simp [std] at hw6; omega))
  refine OpsW.run tok hO (by cbv <;> rfl) (by trivial) ?_
  refine OpsW.callP haw (by cbv <;> rfl) ?_
  refine OpsW.run tok hO (by cbv <;> rfl) (by trivial) ?_
  exact SW.ret ⟨_, _, rfl, rfl, Eqv.of rfl⟩
end Go.Fz
set_option linter.unusedVariables false
namespace Go.Fz
open Go.Proofs
set_option maxRecDepth 100000
def qZ (s : Nat → Int) (n : Int) : Nat → Int
  | 0 => n
  | i + 1 => qZ s n i / s i
def pZ (s : Nat → Int) : Nat → Int
  | 0 => 1
  | i + 1 => pZ s i * s i
theorem radixZ_onto {s : Nat → Int} {k : Nat} (hs : ∀ i, i < k → 1 ≤ s i) {d : Nat → Int} (hd : ∀ i, i < k → 0 ≤ d i ∧ d i < s i) : ∀ j, j ≤ k → ∀ m : Int, 0 ≤ m → ∃ n : Int, 0 ≤ n ∧ n < pZ s j * (m + 1) ∧ qZ s n j = m ∧ ∀ i, i < j → qZ s n i % s i = d i
  | 0, _, m, hm => ⟨m, hm, by show m < 1 * (m + 1); omega, rfl, fun i hi => absurd hi (Nat.not_lt_zero _)⟩
  | j + 1, h, m, hm => by
    have h3 := hs j (by omega)
    obtain ⟨d0, d1⟩ := hd j (by omega)
    have hp : ∀ i, i ≤ j → 1 ≤ pZ s i := fun i => by
      induction i with
      | zero => intro _; exact Int.le_refl _
      | succ i ih =>
        intro hi
        have h1 := ih (by omega)
        have h2 := hs i (by omega)
        have h4 : pZ s i * 1 ≤ pZ s i * s i := Int.mul_le_mul_of_nonneg_left h2 (by omega)
        show 1 ≤ pZ s i * s i
        omega
    have hp := hp j (Nat.le_refl _)
    have hms : 0 ≤ m * s j := Int.mul_nonneg hm (by omega)
    obtain ⟨n, n0, n1, n2, n3⟩ := radixZ_onto hs hd j (by omega) (m * s j + d j) (by omega)
    have hq : (m * s j + d j) / s j = m := by
      rw [Int.add_comm, Int.add_mul_ediv_right _ _ (by omega), Int.ediv_eq_zero_of_lt d0 d1]; omega
    have hr : (m * s j + d j) % s j = d j := by
      rw [Int.add_comm, Int.add_mul_emod_self_right, Int.emod_eq_of_lt d0 d1]
    refine ⟨n, n0, ?_, ?_, fun i hi => ?_⟩
    · show n < pZ s j * s j * (m + 1)
      rw [Int.mul_assoc]
      refine Int.lt_of_lt_of_le n1 (Int.mul_le_mul_of_nonneg_left ?_ (by omega))
      rw [Int.mul_add, Int.mul_one, Int.mul_comm (s j) m]; omega
    · show qZ s n j / s j = m
      rw [n2]; exact hq
    · by_cases e : i = j
      · rw [e, n2]; exact hr
      · exact n3 i (by omega)
theorem qZ_rng {s : Nat → Int} {k : Nat} (hs : ∀ i, i < k → 1 ≤ s i) {n : Int} (n0 : 0 ≤ n) : ∀ j, j ≤ k → 0 ≤ qZ s n j ∧ qZ s n j ≤ n
  | 0, _ => ⟨n0, Int.le_refl _⟩
  | j + 1, h => by
    obtain ⟨h1, h2⟩ := qZ_rng hs n0 j (by omega)
    have h3 := hs j (by omega)
    have h4 : 0 ≤ qZ s n j / s j := Int.ediv_nonneg h1 (by omega)
    have h5 : qZ s n j / s j ≤ qZ s n j := Int.ediv_le_self _ h1
    show 0 ≤ qZ s n j / s j ∧ qZ s n j / s j ≤ n
    omega
def FarmD.szS (f : FarmD) (i : Nat) : Int := f.shi i - f.slo i + 1
theorem FarmD.prod_pZ (f : FarmD) : ∀ s, f.prodN s = pZ f.szS s
  | 0 => rfl
  | s + 1 => by
    show f.prodN s * _ = pZ f.szS s * _
    rw [f.prod_pZ s]; rfl
theorem FarmD.szS_pos {f : FarmD} (g : f.Good) : ∀ i, i < f.ns → 1 ≤ f.szS i := fun i hi => by
  have := g.spring i hi
  unfold FarmD.szS; omega
theorem FarmD.many_eq {f : FarmD} (hc : f.check = 0) : f.manyN f.ns = pZ f.szS f.ns ∧ 1 ≤ f.manyN f.ns ∧ f.manyN f.ns ≤ 2000 := by
  have g := good_of_check hc
  have hsp : ∀ s, s < f.ns → 0 ≤ f.slo s ∧ f.slo s ≤ f.shi s ∧ f.shi s ≤ 30 := fun s hs => (g.spring s hs).2
  obtain ⟨h1, h2⟩ := f.sizes_eq g.ns hsp f.ns (Nat.le_refl _)
  have h3 := (f.prod_le hsp f.ns (Nat.le_refl _)).1
  have h4 : f.sizesN f.ns ≤ 2000 := by
    unfold FarmD.check at hc
    split at hc
    · cases hc
    · split at hc
      · split at hc
        · cases hc
        · rename_i h; omega
      · cases hc
  rw [h1] at h4
  rw [h2, ← f.prod_pZ]
  unfold minI
  split <;> omega
theorem FarmD.qN_q {f : FarmD} (g : f.Good) {n : Int} (n0 : 0 ≤ n) (n1 : n ≤ 70000) : ∀ i, i ≤ f.ns → f.qN n i = qZ f.szS n i
  | 0, _ => rfl
  | i + 1, h => by
    have h1 := FarmD.qN_q g n0 n1 i (by omega)
    have h2 := qZ_rng (FarmD.szS_pos g) n0 i (by omega)
    have hs := FarmD.szS_pos g i (by omega)
    obtain ⟨_, r0, r1, r2⟩ := g.spring i (by omega)
    show quo64 (f.qN n i) (size64 (f.slo i) (f.shi i)) = qZ f.szS n i / f.szS i
    rw [h1, size64_in r0 r1 (by omega), show f.shi i - f.slo i + 1 = f.szS i from rfl]
    have h3 : 0 ≤ (qZ f.szS n i).tdiv (f.szS i) := Int.tdiv_nonneg h2.1 (by omega)
    have h4 : (qZ f.szS n i).tdiv (f.szS i) ≤ qZ f.szS n i := by
      rw [Int.tdiv_eq_ediv_of_nonneg h2.1]; exact Int.ediv_le_self _ h2.1
    unfold quo64
    rw [wrp_in (by simp only [IntKind.lo]; omega) (by simp only [IntKind.hi]; omega), Int.tdiv_eq_ediv_of_nonneg h2.1]
theorem FarmD.nthN_q {f : FarmD} (g : f.Good) {n : Int} (n0 : 0 ≤ n) (n1 : n ≤ 70000) {i : Nat} (hi : i < f.ns) : f.nthN n i = f.slo i + qZ f.szS n i % f.szS i := by
  have h2 := qZ_rng (FarmD.szS_pos g) n0 i (by omega)
  have hs := FarmD.szS_pos g i hi
  obtain ⟨_, r0, r1, r2⟩ := g.spring i hi
  have h3 := Int.emod_nonneg (qZ f.szS n i) (show f.szS i ≠ 0 by omega)
  have h4 := Int.emod_lt_of_pos (qZ f.szS n i) (show 0 < f.szS i by omega)
  have h5 : f.szS i ≤ 31 := by unfold FarmD.szS; omega
  unfold FarmD.nthN
  rw [FarmD.qN_q g n0 n1 i (by omega), size64_in r0 r1 (by omega), show f.shi i - f.slo i + 1 = f.szS i from rfl, Int.tmod_eq_emod_of_nonneg h2.1, add64_in _ _ (by omega) (by omega)]
def FarmD.nthL (f : FarmD) (n : Int) : List Int := (List.range f.ns).map (f.nthN n)
theorem FarmD.nthL_len (f : FarmD) (n : Int) : (f.nthL n).length = f.ns := by simp [FarmD.nthL]
theorem FarmD.nthL_at (f : FarmD) (n : Int) {i : Nat} (hi : i < f.ns) : zL (f.nthL n) i = f.nthN n i := by
  unfold zL FarmD.nthL
  rw [List.getD_eq_getElem?_getD, List.getElem?_map, List.getElem?_range hi]; rfl
theorem FarmD.nthL_ch {f : FarmD} (g : f.Good) {n : Int} (n0 : 0 ≤ n) (n1 : n ≤ 70000) : f.isCh (f.nthL n) := by
  refine ⟨f.nthL_len n, fun i hi => ?_⟩
  have hs := FarmD.szS_pos g i hi
  rw [f.nthL_at n hi, FarmD.nthN_q g n0 n1 hi]
  have h3 := Int.emod_nonneg (qZ f.szS n i) (show f.szS i ≠ 0 by omega)
  have h4 := Int.emod_lt_of_pos (qZ f.szS n i) (show 0 < f.szS i by omega)
  have h5 : f.szS i = f.shi i - f.slo i + 1 := rfl
  omega
theorem zL_ext {p q : List Int} (h : p.length = q.length) (hz : ∀ i, i < p.length → zL p i = zL q i) : p = q := by
  refine List.ext_getElem h fun i k1 k2 => ?_
  have := hz i k1
  unfold zL at this
  simpa [List.getD_eq_getElem?_getD, List.getElem?_eq_getElem k1, List.getElem?_eq_getElem k2] using this
theorem FarmD.nthL_onto {f : FarmD} (hc : f.check = 0) {l : List Int} (hl : f.isCh l) : ∃ n : Nat, (n : Int) < f.manyN f.ns ∧ f.nthL n = l := by
  have g := good_of_check hc
  obtain ⟨h1, _, h2⟩ := FarmD.many_eq hc
  obtain ⟨n, n0, n1, _, n3⟩ := radixZ_onto (s := f.szS) (k := f.ns) (FarmD.szS_pos g) (d := fun i => zL l i - f.slo i) (fun i hi => by
    have := hl.2 i hi
    show 0 ≤ zL l i - f.slo i ∧ zL l i - f.slo i < f.shi i - f.slo i + 1
    omega) f.ns (Nat.le_refl _) 0 (Int.le_refl _)
  have n1 : n < pZ f.szS f.ns := by
    have : n < pZ f.szS f.ns * 1 := n1
    omega
  obtain ⟨N, rfl⟩ := Int.eq_ofNat_of_zero_le n0
  refine ⟨N, by rw [h1]; exact n1, zL_ext (by rw [f.nthL_len, hl.1]) fun i hi => ?_⟩
  rw [f.nthL_len] at hi
  rw [f.nthL_at _ hi, FarmD.nthN_q g n0 (by omega) hi, n3 i hi]
  show f.slo i + (zL l i - f.slo i) = zL l i
  omega
def pickL (p : Nat → Bool) (g : Nat → List Int) : Nat → List (List Int)
  | 0 => []
  | i + 1 => if p i = true then pickL p g i ++ [g i] else pickL p g i
theorem mem_pickL {p : Nat → Bool} {g : Nat → List Int} {f : List Int} : ∀ {n}, f ∈ pickL p g n ↔ ∃ i, i < n ∧ p i = true ∧ g i = f
  | 0 => ⟨fun h => (by cases h), fun ⟨i, h1, _⟩ => absurd h1 (Nat.not_lt_zero _)⟩
  | n + 1 => by
    have ih := mem_pickL (p := p) (g := g) (f := f) (n := n)
    unfold pickL
    split
    · rename_i hp
      rw [List.mem_append, List.mem_singleton, ih]
      constructor
      · rintro (⟨i, h1, h2, h3⟩ | h)
        · exact ⟨i, by omega, h2, h3⟩
        · exact ⟨n, by omega, hp, h.symm⟩
      · rintro ⟨i, h1, h2, h3⟩
        by_cases e : i = n
        · subst e; exact .inr h3.symm
        · exact .inl ⟨i, by omega, h2, h3⟩
    · rename_i hp
      rw [ih]
      constructor
      · rintro ⟨i, h1, h2, h3⟩; exact ⟨i, by omega, h2, h3⟩
      · rintro ⟨i, h1, h2, h3⟩
        by_cases e : i = n
        · subst e; exact absurd h2 hp
        · exact ⟨i, by omega, h2, h3⟩
theorem bitsN_congr {b c : Nat → Bool} : ∀ {n : Nat}, (∀ j, j < n → b j = c j) → bitsN b n = bitsN c n
  | 0, _ => rfl
  | n + 1, h => by
    unfold bitsN
    rw [bitsN_congr fun j hj => h j (by omega), h n (by omega)]
def mk5 (b : Bool × Bool × Bool × Bool × Bool) (j : Nat) : Bool := match j with
  | 0 => b.1
  | 1 => b.2.1
  | 2 => b.2.2.1
  | 3 => b.2.2.2.1
  | _ => b.2.2.2.2
theorem mk5_eq (b : Nat → Bool) : ∀ j, j < 5 → mk5 (b 0, b 1, b 2, b 3, b 4) j = b j := fun j hj => by
  match j, hj with
  | 0, _ => rfl
  | 1, _ => rfl
  | 2, _ => rfl
  | 3, _ => rfl
  | 4, _ => rfl
def FarmD.bitT (f : FarmD) (n : Nat) : Int := bitsN (f.rightN (f.nthN n)) f.nl
def FarmD.mN (f : FarmD) : Nat := (f.manyN f.ns).toNat
theorem FarmD.rightN_congr {f : FarmD} {fl fl' : Nat → Int} (h : ∀ i, i < f.ns → fl i = fl' i) (g : f.Good) {i : Nat} (hi : i < f.nl) (hfl : ∀ s, s < f.ns → 0 ≤ fl s ∧ fl s ≤ 30) : f.rightN fl i = f.rightN fl' i := by
  have hS : ∀ b s, s ≤ f.ns → f.inS fl b s = f.inS fl' b s := fun b s => by
    induction s with
    | zero => intro _; rfl
    | succ s ih =>
      intro hs
      simp only [FarmD.inS]
      rw [ih (by omega), h s (by omega)]
  have hB : ∀ (V : Nat → Int) b m, f.inB fl V b m = f.inB fl' V b m := fun V b m => by
    induction m with
    | zero => exact hS b f.ns (Nat.le_refl _)
    | succ m ih => simp only [FarmD.inB, ih]
  have hW : ∀ b, f.waN fl b = f.waN fl' b := fun b => by
    induction b using Nat.strongRecOn with
    | _ b ih =>
      rw [f.waN_eq, f.waN_eq, hB, f.inB_eq fl' (f.waN fl) (f.waN fl') b b ih]
  unfold FarmD.rightN FarmD.downN
  simp only [hW]
end Go.Fz
set_option linter.unusedVariables false
namespace Go.Fz
open Go.Proofs
set_option maxRecDepth 100000
theorem memGetD {l : List Nat} {p : Nat} : p ∈ l ↔ ∃ j, j < l.length ∧ l.getD j 0 = p := by
  constructor
  · intro h
    obtain ⟨j, hj, rfl⟩ := List.getElem_of_mem h
    exact ⟨j, hj, by rw [List.getD_eq_getElem?_getD, List.getElem?_eq_getElem hj]; rfl⟩
  · rintro ⟨j, hj, rfl⟩
    rw [List.getD_eq_getElem?_getD, List.getElem?_eq_getElem hj]
    exact List.getElem_mem hj
def coL (nc : Nat) (l : List Nat) : List Nat := (List.range nc).filter fun p => !l.contains p
theorem mem_coL {nc : Nat} {l : List Nat} {p : Nat} : p ∈ coL nc l ↔ p < nc ∧ p ∉ l := by
  unfold coL
  rw [List.mem_filter, List.mem_range]
  simp
theorem hasI_iff {l : List Nat} {p : Nat} : hasN (nI l).length (zL (nI l)) (p : Int) = true ↔ p ∈ l := by
  have hz : ∀ j, j < l.length → zL (nI l) j = ((l.getD j 0 : Nat) : Int) := fun j hj => by
    unfold zL nI
    rw [List.getD_eq_getElem?_getD, List.getD_eq_getElem?_getD, List.getElem?_map, List.getElem?_eq_getElem hj]; rfl
  unfold hasN
  rw [decide_eq_true_eq, memGetD, nI_len]
  constructor
  · rintro ⟨j, hj, h⟩
    rw [hz j hj] at h
    exact ⟨j, hj, Int.ofNat_inj.1 h⟩
  · rintro ⟨j, hj, h⟩
    exact ⟨j, hj, by rw [hz j hj]; exact congrArg Int.ofNat h⟩
theorem lvs_iff {f : FarmD} {l : List Nat} : f.lvs l = true ↔ ∃ c ∈ f.chL, ∀ j ∈ coL f.nl l, f.rightB (f.water (zL c)) j = true := by
  unfold FarmD.lvs
  rw [List.any_eq_true]
  have hc : ∀ c, f.lvC l c = true ↔ ∀ j ∈ coL f.nl l, f.rightB (f.water (zL c)) j = true := fun c => by
    unfold FarmD.lvC allN FarmD.butB
    rw [decide_eq_true_eq]
    constructor
    · intro h j hj
      obtain ⟨h1, h2⟩ := mem_coL.1 hj
      rcases Bool.or_eq_true_iff.1 (h j h1) with h3 | h3
      · exact absurd (hasI_iff.1 h3) h2
      · exact h3
    · intro h i hi
      rw [Bool.or_eq_true]
      by_cases hm : i ∈ l
      · exact .inl (hasI_iff.2 hm)
      · exact .inr (h i (mem_coL.2 ⟨hi, hm⟩))
  constructor
  · rintro ⟨c, h1, h2⟩; exact ⟨c, h1, (hc c).1 h2⟩
  · rintro ⟨c, h1, h2⟩; exact ⟨c, h1, (hc c).2 h2⟩
theorem rng_ris5 : ∀ nc : Fin 6, List.range nc.1 ∈ risL nc.1 := by decide +kernel
theorem pow_le5 {n : Nat} (hn : n ≤ 5) : 2 ^ n ≤ 32 := by
  rcases (by omega : n = 0 ∨ n = 1 ∨ n = 2 ∨ n = 3 ∨ n = 4 ∨ n = 5) with rfl | rfl | rfl | rfl | rfl | rfl <;> decide
end Go.Fz
set_option linter.unusedVariables false
namespace Go.Fz
open Go.Proofs
set_option maxRecDepth 100000
set_option maxHeartbeats 8000000 in
theorem can97_ok (N : Nat) (A : Nat → Int) (c : Int) (hN : N < 100000) : Pure Try.prog 97 [intsV N false A, iV c] (.sb (canB A c N)) := by
  obtain ⟨O, hO⟩ : ∃ O : Ar, O = std := ⟨_, rfl⟩
  have hnat : ∀ i : Nat, O.nat (Int.ofNat i) = i := fun i => by subst hO; rfl
  obtain ⟨B, hB⟩ : ∃ B, canB A c N = B := ⟨_, rfl⟩
  have hBt : ∀ i, i < N → O.cmp .eql (O.bin .and .i64 (A i) c) c = true → B = true := fun i hi h => by rw [← hB]; subst hO; exact decide_eq_true ⟨i, hi, h⟩
  have hBf : (∀ i, i < N → O.cmp .eql (O.bin .and .i64 (A i) c) c = false) → B = false := fun h => by
    rw [← hB]; subst hO
    exact decide_eq_false fun ⟨i, hi, h2⟩ => by rw [h i hi] at h2; cases h2
  rw [hB]
  refine pure_of_body tok 3 Try.func97 en97 rfl ⟨intsV_below _ _ _, Below.lit, trivial⟩ Below.sb ?_
  refine SW.seqRun tok hO (by cbv <;> rfl) (by trivial) ?_
  refine SW.seq ?_
  refine SW.seqRun tok hO (by cbv <;> rfl) (by trivial) ?_
  refine (SW.block (SW.loopF (fun i : Nat => ⟨⟨20, getT [(0, intsV N false A), (1, iV c), (5, iV (Int.ofNat i))]⟩, []⟩) (fun _ => ⟨[], 0⟩) (fun i => N - i) (fun i => i ≤ N ∧ ∀ j, j < i → O.cmp .eql (O.bin .and .i64 (A j) c) c = false) 0
    (fun _ => rfl) ⟨Nat.zero_le _, fun j h => absurd h (Nat.not_lt_zero j)⟩ (Weak.by rfl rfl (by simp) (Nat.le_refl _) (Nat.le_refl _) ⟨⟨rfl, .inl rfl⟩, ⟨rfl, .inl rfl⟩, ⟨rfl, .inl rfl⟩, trivial⟩ trivial) fun i ⟨hi, hall⟩ => ?_))
  refine SW.seq ?_
  refine SW.seqRun tok hO (by cbv <;> rfl) (by trivial) ?_
  refine SW.condS (by cbv <;> rfl) (fun h => SW.skip ?_) (fun h => SW.exit ?_)
  · have hlt : i < N := by
      have : (Int.ofNat i : Int) < Int.ofNat N := by subst hO; simpa [std] using h
      exact Int.ofNat_lt.1 this
    have hc : 0 ≤ Int.ofNat i ∧ Int.ofNat i < (N : Int) := ⟨Int.natCast_nonneg i, Int.ofNat_lt.2 hlt⟩
    refine SW.seq (SW.block ?_)
    refine SW.seqRun tok hO (by cbv <;> rfl) (by first | exact hc | exact ⟨hc, trivial⟩) ?_
    refine SW.condS (by cbv <;> rfl) (fun h2 => ?_) (fun h2 => SW.skip ?_)
    · refine SW.seqRun tok hO (by cbv <;> rfl) (by trivial) ?_
      refine SW.ret ⟨_, _, rfl, rfl, Eqv.bool ?_⟩
      have h3 : O.cmp .eql (O.bin .and .i64 (A (O.nat (Int.ofNat i))) c) c = true := h2
      rw [hnat] at h3
      exact (hBt i hlt h3).symm
    · have h3 : O.cmp .eql (O.bin .and .i64 (A (O.nat (Int.ofNat i))) c) c = false := h2
      rw [hnat] at h3
      refine SW.run tok hO (by cbv <;> rfl) (by trivial) ?_
      refine ⟨i + 1, by omega, ⟨hlt, fun j hj => ?_⟩, Weak.by rfl rfl (by simp) (Nat.le_refl _) (Nat.le_refl _) ⟨⟨rfl, .inl rfl⟩, ⟨rfl, .inl rfl⟩, ⟨inc_ok hO (by omega), .inl rfl⟩, trivial⟩ trivial⟩
      rcases Nat.lt_succ_iff_lt_or_eq.1 hj with h4 | rfl
      · exact hall j h4
      · exact h3
  · have hge : i = N := by
      have : ¬ (Int.ofNat i : Int) < Int.ofNat N := by subst hO; simpa [std] using h
      have h2 : ¬ i < N := fun h => this (Int.ofNat_lt.2 h)
      omega
    subst hge
    refine SW.seqRun tok hO (by cbv <;> rfl) (by trivial) ?_
    refine SW.ret ⟨_, _, rfl, rfl, Eqv.bool ?_⟩
    exact (hBf hall).symm
set_option maxHeartbeats 8000000 in
theorem first47_ok (f : FarmD) (hnc : f.nl ≤ 7) (AL : AV) (hAL : Below 0 AL) (P : Nat → Bool) (hcan : ∀ k, k < f.nl → Pure Try.prog 97 [AL, iV (upTo k)] (.sb (P k))) (V : Int) (hV1 : ∀ k : Nat, k < f.nl → P k = false → (∀ j, j < k → P j = true) → V = k) (hV2 : (∀ j, j < f.nl → P j = true) → V = -1) :
    Pure Try.prog 47 [farmV f, AL] (iV V) := by
  obtain ⟨O, hO⟩ : ∃ O : Ar, O = std := ⟨_, rfl⟩
  have hcan' : ∀ k, k < f.nl → Pure Try.prog 97 [AL, iV (O.bin .sub .i64 (O.bin .shl .i64 2 (O.conv .u64 (Int.ofNat k))) 1)] (.sb (P k)) := fun k hk => by subst hO; exact hcan k hk
  refine pure_of_body tok 3 Try.func47 en47 rfl ⟨farmV_below f, hAL, trivial⟩ Below.lit ?_
  refine SW.seqRun tok hO (by cbv <;> rfl) (by trivial) ?_
  refine SW.seq ?_
  refine SW.seqRun tok hO (by cbv <;> rfl) (by trivial) ?_
  refine (SW.block (SW.loopF (fun i : Nat => ⟨⟨21, getT [(1, AL), (2, .ptr 0 0), (5, iV (Int.ofNat i))]⟩, []⟩) (fun _ => ⟨[(0, .cells none false (farmL f))], 1⟩) (fun i => f.nl - i) (fun i => i ≤ f.nl ∧ ∀ j, j < i → P j = true) 0
    (fun _ => rfl) ⟨Nat.zero_le _, fun j h => absurd h (Nat.not_lt_zero j)⟩ (Weak.by rfl rfl (by simp) (Nat.le_refl _) (Nat.le_refl _) ⟨⟨rfl, .inl rfl⟩, ⟨rfl, .inl rfl⟩, ⟨rfl, .inl rfl⟩, trivial⟩ ⟨⟨rfl, by show 0 < 1; omega, .inl rfl⟩, trivial⟩) fun i ⟨hi, hall⟩ => ?_))
  refine SW.seq ?_
  refine SW.seqRun tok hO (by cbv <;> rfl) (by trivial) ?_
  refine SW.condS (by cbv <;> rfl) (fun h => SW.skip ?_) (fun h => SW.exit ?_)
  · have hlt : i < f.nl := by
      have : (Int.ofNat i : Int) < Int.ofNat f.nl := by subst hO; simpa [std] using h
      exact Int.ofNat_lt.1 this
    have hnn : 0 ≤ O.conv .u64 (Int.ofNat i) := by
      subst hO
      show 0 ≤ wrp .u64 (i : Int)
      rw [wrp_in (by simp only [IntKind.lo]; omega) (by simp only [IntKind.hi]; omega)]; omega
    have call := hcan' i hlt
    generalize hp : P i = p at call
    refine SW.seq (SW.block ?_)
    refine SW.seqRun tok hO (by cbv <;> rfl) (by first | exact hnn | exact ⟨hnn, trivial⟩) ?_
    refine OpsW.callP call (by cbv <;> rfl) ?_
    have hnot : O.not p = !p := by subst hO; rfl
    refine OpsW.run tok hO (by cbv <;> rfl) (by trivial) ?_
    refine SW.condS (by cbv <;> rfl) (fun h2 => ?_) (fun h2 => SW.skip ?_)
    · have hp2 : p = false := by have := hnot.symm.trans h2; simpa using this
      refine SW.seqRun tok hO (by cbv <;> rfl) (by trivial) ?_
      refine SW.ret ⟨_, _, rfl, rfl, Eqv.int ?_⟩
      exact (hV1 i hlt (hp.trans hp2) hall).symm
    · have hp2 : p = true := by have := hnot.symm.trans h2; simpa using this
      refine SW.run tok hO (by cbv <;> rfl) (by trivial) ?_
      refine ⟨i + 1, by omega, ⟨hlt, fun j hj => ?_⟩, Weak.by rfl rfl (by simp) (Nat.le_refl _) (Nat.le_refl _) ⟨⟨rfl, .inl rfl⟩, ⟨rfl, .inl rfl⟩, ⟨inc_ok hO (by omega), .inl rfl⟩, trivial⟩ ⟨⟨rfl, by show 0 < 1; omega, .inl rfl⟩, trivial⟩⟩
      rcases Nat.lt_succ_iff_lt_or_eq.1 hj with h4 | rfl
      · exact hall j h4
      · exact hp.trans hp2
  · have hge : i = f.nl := by
      have : ¬ (Int.ofNat i : Int) < Int.ofNat f.nl := by subst hO; simpa [std] using h
      have h2 : ¬ i < f.nl := fun h => this (Int.ofNat_lt.2 h)
      omega
    subst hge
    refine SW.seqRun tok hO (by cbv <;> rfl) (by trivial) ?_
    refine SW.ret ⟨_, _, rfl, rfl, Eqv.int ?_⟩
    exact (hV2 hall).symm
set_option maxHeartbeats 16000000 in
theorem leave46_ok (f : FarmD) (hnc : f.nl ≤ 5) (AL : AV) (hAL : Below 0 AL) (P : Nat → Bool) (hcan : ∀ n, n < 2 ^ f.nl → Pure Try.prog 97 [AL, iV (std.bin .andNot .i64 (fullI f.nl) (Int.ofNat n))] (.sb (P n))) (h0 : P (2 ^ f.nl - 1) = true) :
    Pure Try.prog 46 [farmV f, AL] (lsV (lvS P (selL ((2 ^ f.nl - 1 : Nat) : Int) 5) (2 ^ f.nl))) := by
  obtain ⟨O, hO⟩ : ∃ O : Ar, O = std := ⟨_, rfl⟩
  have hfull := full65_ok f (by omega)
  have hF : fullI f.nl = Int.ofNat (2 ^ f.nl - 1) := full_fin2 ⟨f.nl, by omega⟩
  have hfull : Pure Try.prog 65 [farmV f] (iV (fullI f.nl)) := hfull
  rw [hF] at hfull hcan
  have hW : 2 ^ f.nl ≤ 32 := pow_le5 hnc
  have hWp : 0 < 2 ^ f.nl := Nat.pow_pos (by decide)
  obtain ⟨W, hWd⟩ : ∃ W, W = 2 ^ f.nl := ⟨_, rfl⟩
  rw [← hWd] at hW hWp hfull hcan h0 ⊢
  have hcan' : ∀ n, n < W → Pure Try.prog 97 [AL, iV (O.bin .andNot .i64 (Int.ofNat (W - 1)) (Int.ofNat n))] (.sb (P n)) := fun n hn => by subst hO; exact hcan n hn
  have hbits0 := bits59_ok (Int.ofNat (W - 1)) (Int.natCast_nonneg _) (by show ((W - 1 : Nat) : Int) < 32; omega)
  have hmin := fun m hm => leS_min (P := P) (b0 := W - 1) (N := W) (by omega) hW h0 m hm
  have hs : ∀ m, lvS P (selL ((W - 1 : Nat) : Int) 5) (m + 1) = if shL (selL (m : Int) 5) (lvS P (selL ((W - 1 : Nat) : Int) 5) m) && P m then selL (m : Int) 5 else lvS P (selL ((W - 1 : Nat) : Int) 5) m := fun m => rfl
  have hz : lvS P (selL ((W - 1 : Nat) : Int) 5) 0 = selL ((W - 1 : Nat) : Int) 5 := rfl
  obtain ⟨L, hL⟩ : ∃ L, L = lvS P (selL ((W - 1 : Nat) : Int) 5) := ⟨_, rfl⟩
  rw [← hL] at hmin hs hz ⊢
  have hlen : ∀ m, m ≤ W → (L m).length < 1000 := fun m hm => by
    obtain ⟨b, _, h1, _⟩ := hmin m hm
    rw [h1]
    have := selL_len (b : Int) 5
    omega
  rw [show selL (Int.ofNat (W - 1)) 5 = L 0 from hz.symm] at hbits0
  refine pure_of_body tok 3 Try.func46 en46 rfl ⟨farmV_below f, hAL, trivial⟩ (lsV_below _) ?_
  obtain ⟨X0, hX0⟩ : ∃ X, lsV (L 0) = X := ⟨_, rfl⟩
  rw [hX0] at hbits0
  obtain ⟨W1, hW1⟩ : ∃ W1, W - 1 = W1 := ⟨_, rfl⟩
  rw [hW1] at hfull hcan' hbits0
  refine SW.seqRun tok hO (by cbv <;> rfl) (by trivial) ?_
  refine SW.seqRun tok hO (by cbv <;> rfl) (by trivial) ?_
  refine OpsW.callP hfull (by cbv <;> rfl) ?_
  refine OpsW.run tok hO (by cbv <;> rfl) (by trivial) ?_
  refine OpsW.callP hbits0 (by cbv <;> rfl) ?_
  refine OpsW.run tok hO (by cbv <;> rfl) (by trivial) ?_
  refine SW.seq ?_
  refine SW.seqRun tok hO (by cbv <;> rfl) (by trivial) ?_
  refine (SW.block (SW.loopF (fun m : Nat => ⟨⟨32, getT [(1, AL), (2, .ptr 0 0), (5, lsV (L m)), (6, iV (Int.ofNat m))]⟩, []⟩) (fun _ => ⟨[(0, .cells none false (farmL f))], 1⟩) (fun m => W - m) (fun m => m ≤ W) 0
    (fun _ => rfl) (Nat.zero_le _) (Weak.by rfl rfl (by simp) (Nat.le_refl _) (Nat.le_refl _) ⟨⟨rfl, .inl rfl⟩, ⟨rfl, .inl rfl⟩, ⟨hX0.symm, .inl rfl⟩, ⟨rfl, .inl rfl⟩, trivial⟩ ⟨⟨rfl, by show 0 < 1; omega, .inl rfl⟩, trivial⟩) fun m hm => ?_))
  show SW _ _ _ _ ⟨⟨32, getT [(1, AL), (2, .ptr 0 0), (5, lsV (L m)), (6, iV (Int.ofNat m))]⟩, []⟩ ⟨[(0, .cells none false (farmL f))], 1⟩
  obtain ⟨Bv, hBv⟩ : ∃ X, lsV (L m) = X := ⟨_, rfl⟩
  rw [hBv]
  refine SW.seq ?_
  refine SW.seqRun tok hO (by cbv <;> rfl) (by trivial) ?_
  refine OpsW.callP hfull (by cbv <;> rfl) ?_
  refine OpsW.run tok hO (by cbv <;> rfl) (by trivial) ?_
  refine SW.condS (by cbv <;> rfl) (fun h => SW.skip ?_) (fun h => SW.exit ?_)
  · have hlt : m < W := by
      have : (Int.ofNat m : Int) ≤ Int.ofNat W1 := by subst hO; simpa [std] using h
      have := Int.ofNat_le.1 this
      omega
    clear h
    have hbits := bits59_ok (Int.ofNat m) (Int.natCast_nonneg m) (by show (m : Int) < 32; omega)
    have hl5 := selL_len (m : Int) 5
    have hs1 := hs m
    have hcn := hcan' m hlt
    have hlm := hlen m hm
    generalize hPm : P m = p at hcn hs1
    obtain ⟨x, hx⟩ : ∃ x, selL (m : Int) 5 = x := ⟨_, rfl⟩
    rw [show selL (Int.ofNat m) 5 = x from hx] at hbits
    rw [hx] at hs1 hl5
    have hsho : Pure Try.prog 58 [lsV x, lsV (L m)] (.sb (shL x (L m))) := shorter_ok x.length (L m).length false false (lI x) (lI (L m)) (by omega) hlm
    rw [hBv] at hsho
    generalize shL x (L m) = s at hsho hs1
    obtain ⟨X, hX⟩ : ∃ v, lsV x = v := ⟨_, rfl⟩
    rw [hX] at hbits hsho
    refine SW.seq (SW.block ?_)
    refine SW.seqRun tok hO (by cbv <;> rfl) (by trivial) ?_
    refine OpsW.callP hbits (by cbv <;> rfl) ?_
    refine OpsW.run tok hO (by cbv <;> rfl) (by trivial) ?_
    refine SW.seqRun tok hO (by cbv <;> rfl) (by trivial) ?_
    refine OpsW.callP hsho (by cbv <;> rfl) ?_
    refine OpsW.run tok hO (by cbv <;> rfl) (by trivial) ?_
    refine OpsW.splitG (by cbv <;> rfl) (fun h5 => ?_) (fun h5 => ?_) <;> refine OpsW.run tok hO (by cbv <;> rfl) (by trivial) ?_
    · rw [h5, Bool.true_and] at hs1
      refine OpsW.callP hfull (by cbv <;> rfl) ?_
      refine OpsW.run tok hO (by cbv <;> rfl) (by trivial) ?_
      refine OpsW.callP hcn (by cbv <;> rfl) ?_
      refine OpsW.run tok hO (by cbv <;> rfl) (by trivial) ?_
      refine SW.condS (by cbv <;> rfl) (fun h4 => ?_) (fun h4 => SW.skip ?_)
      · rw [h4, if_pos rfl] at hs1
        refine SW.run tok hO (by cbv <;> rfl) (by trivial) ?_
        refine SW.run tok hO (by cbv <;> rfl) (by trivial) ?_
        exact ⟨m + 1, by omega, hlt, Weak.by rfl rfl (by simp) (Nat.le_refl _) (Nat.le_refl _) ⟨⟨rfl, .inl rfl⟩, ⟨rfl, .inl rfl⟩, ⟨by rw [hs1]; exact hX.symm, .inl rfl⟩, ⟨inc_ok hO (by omega), .inl rfl⟩, trivial⟩ ⟨⟨rfl, by show 0 < 1; omega, .inl rfl⟩, trivial⟩⟩
      · rw [h4, if_neg (by decide)] at hs1
        refine SW.run tok hO (by cbv <;> rfl) (by trivial) ?_
        exact ⟨m + 1, by omega, hlt, Weak.by rfl rfl (by simp) (Nat.le_refl _) (Nat.le_refl _) ⟨⟨rfl, .inl rfl⟩, ⟨rfl, .inl rfl⟩, ⟨by rw [hs1]; exact hBv.symm, .inl rfl⟩, ⟨inc_ok hO (by omega), .inl rfl⟩, trivial⟩ ⟨⟨rfl, by show 0 < 1; omega, .inl rfl⟩, trivial⟩⟩
    · rw [h5, Bool.false_and, if_neg (by decide)] at hs1
      refine SW.condS (by cbv <;> rfl) (fun h4 => absurd h4 (by decide)) (fun h4 => SW.skip ?_)
      refine SW.run tok hO (by cbv <;> rfl) (by trivial) ?_
      exact ⟨m + 1, by omega, hlt, Weak.by rfl rfl (by simp) (Nat.le_refl _) (Nat.le_refl _) ⟨⟨rfl, .inl rfl⟩, ⟨rfl, .inl rfl⟩, ⟨by rw [hs1]; exact hBv.symm, .inl rfl⟩, ⟨inc_ok hO (by omega), .inl rfl⟩, trivial⟩ ⟨⟨rfl, by show 0 < 1; omega, .inl rfl⟩, trivial⟩⟩
  · have hge : m = W := by
      have : ¬ (Int.ofNat m : Int) ≤ Int.ofNat W1 := by subst hO; simpa [std] using h
      have h2 : ¬ m ≤ W1 := fun h => this (Int.ofNat_le.2 h)
      omega
    subst hge
    have hBv' : Bv = intsV (L m).length false (lI (L m)) := hBv.symm
    rw [show lsV (L m) = Bv from hBv]
    generalize (L m).length = n1 at hBv'
    generalize lI (L m) = f1 at hBv'
    subst hBv'
    refine SW.seqRun tok hO (by cbv <;> rfl) (by trivial) ?_
    exact SW.ret ⟨_, _, rfl, rfl, Eqv.of rfl⟩
end Go.Fz
set_option linter.unusedVariables false
set_option linter.unusedSimpArgs false
namespace Go.Fz
open Go.Proofs
set_option maxRecDepth 100000
noncomputable def alC : Code := match nthC 2 (bodyF Try.f45) with
  | .seq _ (.block _ (.loop c)) => c
  | _ => .skip
noncomputable def alB : Code := match alC with
  | .seq _ (.seq (.block _ b) _) => b
  | _ => .skip
theorem conv0B {O : Ar} (hO : O = std) {i : Nat} (h : i < 1000) : 0 ≤ O.conv .u64 (Int.ofNat i) := by
  subst hO
  show 0 ≤ wrp .u64 ((i : Nat) : Int)
  rw [wrp_in (by simp only [IntKind.lo]; omega) (by simp only [IntKind.hi]; omega)]
  omega
set_option maxHeartbeats 16000000 in
theorem all_in0 (f : FarmD) (hnl : f.nl < 1000) (X : AV) (i : Nat) (fl : Nat → Int) (R : Nat → Bool) (e60 : Pure Try.prog 60 [farmV f, iV (Int.ofNat i)] (intsV f.ns false fl)) (hr : ∀ j, j < f.nl → Pure Try.prog 75 [farmV f, intsV f.ns false fl, lookV f j] (.sb (R j)))
    (g : Nat → AV) (O : Ar) (hO : O = std) (h : AllP (fun p => g p.1 = p.2) [(1, .ptr 0 0), (3, X), (4, iV (Int.ofNat i)), (5, iV 0)]) :
    SW Try.prog none (nthC 1 alB) (midK 40 [(1, .ptr 0 0), (3, X), (4, iV (Int.ofNat i)), (5, iV (bitsN R f.nl))] ⟨(0, .cells none false (farmL f)) :: [], 2⟩) ⟨⟨40, g⟩, []⟩ ⟨(0, .cells none false (farmL f)) :: [], 2⟩ := by
  have hnat : ∀ i : Nat, O.nat (Int.ofNat i) = i := fun i => by subst hO; rfl
  obtain ⟨bb, hbb⟩ : ∃ bb, bb = bitsN R := ⟨_, rfl⟩
  have hb0 : bb 0 = 0 := by rw [hbb]; rfl
  have hbs : ∀ j, bb (j + 1) = if R j = true then O.bin .or .i64 (bb j) (O.bin .shl .i64 1 (O.conv .u64 (Int.ofNat j))) else bb j := fun j => by rw [hbb]; subst hO; rfl
  rw [← hbb]
  obtain ⟨g1, g3, g4, g5, _⟩ := h
  simp only at g1 g3 g4 g5
  rw [← updT_self g1, ← updT_self g3, ← updT_self g4, ← updT_self g5]
  refine SW.seqRun tok hO (by cbv <;> rfl) (by trivial) ?_
  refine (SW.block (SW.loopF (fun j : Nat => ⟨⟨40, getT [(1, .ptr 0 0), (3, X), (4, iV (Int.ofNat i)), (5, iV (bb j)), (6, iV (Int.ofNat j))]⟩, []⟩)
    (fun _ => ⟨(0, .cells none false (farmL f)) :: [], 2⟩) (fun j => f.nl - j) (fun j => j ≤ f.nl) 0
    (fun _ => rfl) (Nat.zero_le _) (Weak.by rfl rfl (by simp) (Nat.le_refl _) (Nat.le_refl _) ⟨⟨rfl, .inl rfl⟩, ⟨rfl, .inl rfl⟩, ⟨rfl, .inl rfl⟩, ⟨by rw [hb0]; rfl, .inl rfl⟩, ⟨rfl, .inl rfl⟩, trivial⟩ ⟨⟨rfl, by omega, .inl rfl⟩, trivial⟩) fun j hj => ?_))
  refine SW.seq ?_
  refine SW.seqRun tok hO (by cbv <;> rfl) (by trivial) ?_
  refine SW.condS (by cbv <;> rfl) (fun h => SW.skip ?_) (fun h => SW.exit ?_)
  · have hlt : j < f.nl := by
      have : Int.ofNat j < (f.nl : Int) := by subst hO; simpa [std] using h
      exact Int.ofNat_lt.1 this
    have hin : 0 ≤ Int.ofNat j ∧ Int.ofNat j < (f.nl : Int) := ⟨Int.natCast_nonneg j, Int.ofNat_lt.2 hlt⟩
    have hnn : 0 ≤ O.conv .u64 (Int.ofNat j) := conv0B hO (by omega)
    have call := hr (O.nat (Int.ofNat j)) (by rw [hnat]; exact hlt)
    refine SW.seq (SW.block ?_)
    refine SW.seqRunD tok mixed hO (by kernel_rfl) (by cbv <;> rfl) (by repeat (first | exact trivial | exact hin | refine ⟨?_, ?_⟩)) ?_
    refine AnyE.callP e60 (by cbv <;> rfl) (by cbv <;> rfl) ?_
    refine AnyE.run tok hO (by kernel_rfl) (by cbv <;> rfl) (by trivial) ?_
    refine AnyE.callP call (by cbv <;> rfl) (by cbv <;> rfl) ?_
    refine AnyE.run tok hO (by kernel_rfl) (by cbv <;> rfl) (by trivial) ?_
    refine SW.condS (by cbv <;> rfl) (fun h2 => ?_) (fun h2 => SW.skip ?_)
    · rw [hnat] at h2
      refine SW.run tok hO (by cbv <;> rfl) (by first | exact hnn | exact ⟨hnn, trivial⟩) ?_
      refine SW.run tok hO (by cbv <;> rfl) (by trivial) ?_
      have hcn : bb (j + 1) = O.bin .or .i64 (bb j) (O.bin .shl .i64 1 (O.conv .u64 (Int.ofNat j))) := by rw [hbs, h2]; rfl
      exact ⟨j + 1, by omega, by omega, Weak.by rfl rfl (by simp) (Nat.le_refl _) (Nat.le_refl _) ⟨⟨rfl, .inl rfl⟩, ⟨rfl, .inl rfl⟩, ⟨rfl, .inl rfl⟩, ⟨by rw [hcn]; rfl, .inl rfl⟩, ⟨inc_ok hO (by omega), .inl rfl⟩, trivial⟩ ⟨⟨rfl, by omega, .inl rfl⟩, trivial⟩⟩
    · rw [hnat] at h2
      refine SW.run tok hO (by cbv <;> rfl) (by trivial) ?_
      have hcn : bb (j + 1) = bb j := by rw [hbs, h2]; rfl
      exact ⟨j + 1, by omega, by omega, Weak.by rfl rfl (by simp) (Nat.le_refl _) (Nat.le_refl _) ⟨⟨rfl, .inl rfl⟩, ⟨rfl, .inl rfl⟩, ⟨rfl, .inl rfl⟩, ⟨by rw [hcn]; rfl, .inl rfl⟩, ⟨inc_ok hO (by omega), .inl rfl⟩, trivial⟩ ⟨⟨rfl, by omega, .inl rfl⟩, trivial⟩⟩
  · have hle : ¬ j < f.nl := by
      have : ¬ Int.ofNat j < (f.nl : Int) := by subst hO; simpa [std] using h
      exact fun h => this (Int.ofNat_lt.2 h)
    obtain rfl : j = f.nl := by omega
    exact ⟨rfl, _, rfl, ⟨rfl, rfl, rfl, rfl, trivial⟩, rfl⟩
set_option maxHeartbeats 16000000 in
theorem all_in1 (f : FarmD) (hnl : f.nl < 1000) (X : AV) (i : Nat) (G : List AV) (fl : Nat → Int) (R : Nat → Bool) (e60 : Pure Try.prog 60 [farmV f, iV (Int.ofNat i)] (intsV f.ns false fl)) (hr : ∀ j, j < f.nl → Pure Try.prog 75 [farmV f, intsV f.ns false fl, lookV f j] (.sb (R j)))
    (g : Nat → AV) (O : Ar) (hO : O = std) (h : AllP (fun p => g p.1 = p.2) [(1, .ptr 0 0), (3, X), (4, iV (Int.ofNat i)), (5, iV 0)]) :
    SW Try.prog none (nthC 1 alB) (midK 40 [(1, .ptr 0 0), (3, X), (4, iV (Int.ofNat i)), (5, iV (bitsN R f.nl))] ⟨(0, .cells none false (farmL f)) :: [(1, .cells none false G)], 2⟩) ⟨⟨40, g⟩, []⟩ ⟨(0, .cells none false (farmL f)) :: [(1, .cells none false G)], 2⟩ := by
  have hnat : ∀ i : Nat, O.nat (Int.ofNat i) = i := fun i => by subst hO; rfl
  obtain ⟨bb, hbb⟩ : ∃ bb, bb = bitsN R := ⟨_, rfl⟩
  have hb0 : bb 0 = 0 := by rw [hbb]; rfl
  have hbs : ∀ j, bb (j + 1) = if R j = true then O.bin .or .i64 (bb j) (O.bin .shl .i64 1 (O.conv .u64 (Int.ofNat j))) else bb j := fun j => by rw [hbb]; subst hO; rfl
  rw [← hbb]
  obtain ⟨g1, g3, g4, g5, _⟩ := h
  simp only at g1 g3 g4 g5
  rw [← updT_self g1, ← updT_self g3, ← updT_self g4, ← updT_self g5]
  refine SW.seqRun tok hO (by cbv <;> rfl) (by trivial) ?_
  refine (SW.block (SW.loopF (fun j : Nat => ⟨⟨40, getT [(1, .ptr 0 0), (3, X), (4, iV (Int.ofNat i)), (5, iV (bb j)), (6, iV (Int.ofNat j))]⟩, []⟩)
    (fun _ => ⟨(0, .cells none false (farmL f)) :: [(1, .cells none false G)], 2⟩) (fun j => f.nl - j) (fun j => j ≤ f.nl) 0
    (fun _ => rfl) (Nat.zero_le _) (Weak.by rfl rfl (by simp) (Nat.le_refl _) (Nat.le_refl _) ⟨⟨rfl, .inl rfl⟩, ⟨rfl, .inl rfl⟩, ⟨rfl, .inl rfl⟩, ⟨by rw [hb0]; rfl, .inl rfl⟩, ⟨rfl, .inl rfl⟩, trivial⟩ ⟨⟨rfl, by omega, .inl rfl⟩, ⟨rfl, by omega, .inl rfl⟩, trivial⟩) fun j hj => ?_))
  refine SW.seq ?_
  refine SW.seqRun tok hO (by cbv <;> rfl) (by trivial) ?_
  refine SW.condS (by cbv <;> rfl) (fun h => SW.skip ?_) (fun h => SW.exit ?_)
  · have hlt : j < f.nl := by
      have : Int.ofNat j < (f.nl : Int) := by subst hO; simpa [std] using h
      exact Int.ofNat_lt.1 this
    have hin : 0 ≤ Int.ofNat j ∧ Int.ofNat j < (f.nl : Int) := ⟨Int.natCast_nonneg j, Int.ofNat_lt.2 hlt⟩
    have hnn : 0 ≤ O.conv .u64 (Int.ofNat j) := conv0B hO (by omega)
    have call := hr (O.nat (Int.ofNat j)) (by rw [hnat]; exact hlt)
    refine SW.seq (SW.block ?_)
    refine SW.seqRunD tok mixed hO (by kernel_rfl) (by cbv <;> rfl) (by repeat (first | exact trivial | exact hin | refine ⟨?_, ?_⟩)) ?_
    refine AnyE.callP e60 (by cbv <;> rfl) (by cbv <;> rfl) ?_
    refine AnyE.run tok hO (by kernel_rfl) (by cbv <;> rfl) (by trivial) ?_
    refine AnyE.callP call (by cbv <;> rfl) (by cbv <;> rfl) ?_
    refine AnyE.run tok hO (by kernel_rfl) (by cbv <;> rfl) (by trivial) ?_
    refine SW.condS (by cbv <;> rfl) (fun h2 => ?_) (fun h2 => SW.skip ?_)
    · rw [hnat] at h2
      refine SW.run tok hO (by cbv <;> rfl) (by first | exact hnn | exact ⟨hnn, trivial⟩) ?_
      refine SW.run tok hO (by cbv <;> rfl) (by trivial) ?_
      have hcn : bb (j + 1) = O.bin .or .i64 (bb j) (O.bin .shl .i64 1 (O.conv .u64 (Int.ofNat j))) := by rw [hbs, h2]; rfl
      exact ⟨j + 1, by omega, by omega, Weak.by rfl rfl (by simp) (Nat.le_refl _) (Nat.le_refl _) ⟨⟨rfl, .inl rfl⟩, ⟨rfl, .inl rfl⟩, ⟨rfl, .inl rfl⟩, ⟨by rw [hcn]; rfl, .inl rfl⟩, ⟨inc_ok hO (by omega), .inl rfl⟩, trivial⟩ ⟨⟨rfl, by omega, .inl rfl⟩, ⟨rfl, by omega, .inl rfl⟩, trivial⟩⟩
    · rw [hnat] at h2
      refine SW.run tok hO (by cbv <;> rfl) (by trivial) ?_
      have hcn : bb (j + 1) = bb j := by rw [hbs, h2]; rfl
      exact ⟨j + 1, by omega, by omega, Weak.by rfl rfl (by simp) (Nat.le_refl _) (Nat.le_refl _) ⟨⟨rfl, .inl rfl⟩, ⟨rfl, .inl rfl⟩, ⟨rfl, .inl rfl⟩, ⟨by rw [hcn]; rfl, .inl rfl⟩, ⟨inc_ok hO (by omega), .inl rfl⟩, trivial⟩ ⟨⟨rfl, by omega, .inl rfl⟩, ⟨rfl, by omega, .inl rfl⟩, trivial⟩⟩
  · have hle : ¬ j < f.nl := by
      have : ¬ Int.ofNat j < (f.nl : Int) := by subst hO; simpa [std] using h
      exact fun h => this (Int.ofNat_lt.2 h)
    obtain rfl : j = f.nl := by omega
    exact ⟨rfl, _, rfl, ⟨rfl, rfl, rfl, rfl, trivial⟩, rfl⟩
theorem flatG_snocB (bt : Nat → Int) (i : Nat) : flatG 1 (intC bt) i ++ [iV (bt i)] = flatG 1 (intC bt) (i + 1) := rfl
set_option maxHeartbeats 32000000 in
theorem all45_core (f : FarmD) (hnl : f.nl < 1000) (N : Nat) (hN : N < 100000) (e61 : Pure Try.prog 61 [farmV f] (iV (Int.ofNat N))) (fl : Nat → Nat → Int) (R : Nat → Nat → Bool) (e60 : ∀ i, i < N → Pure Try.prog 60 [farmV f, iV (Int.ofNat i)] (intsV f.ns false (fl i)))
    (hr : ∀ i, i < N → ∀ j, j < f.nl → Pure Try.prog 75 [farmV f, intsV f.ns false (fl i), lookV f j] (.sb (R i j))) : Pure Try.prog 45 [farmV f] (intsV N false (fun i => bitsN (R i) f.nl)) := by
  obtain ⟨O, hO⟩ : ∃ O : Ar, O = std := ⟨_, rfl⟩
  obtain ⟨bt, hbt⟩ : ∃ bt : Nat → Int, bt = fun i => bitsN (R i) f.nl := ⟨_, rfl⟩
  have hbi : ∀ i, bitsN (R i) f.nl = bt i := fun i => by rw [hbt]
  rw [← hbt]
  refine pure_of_body tok 3 Try.func45 en45 rfl ⟨farmV_below f, trivial⟩ (intsV_below _ _ _) ?_
  refine SW.seqRun tok hO (by cbv <;> rfl) (by trivial) ?_
  refine SW.seqRun tok hO (by cbv <;> rfl) (by trivial) ?_
  refine SW.seq ?_
  refine SW.seqRun tok hO (by cbv <;> rfl) (by trivial) ?_
  refine (SW.block (SW.loopR (fun i : Nat => ⟨⟨40, getT [(1, .ptr 0 0), (3, slG 1 1 i), (4, iV (Int.ofNat i))]⟩, []⟩) (fun i => ⟨[(0, .cells none false (farmL f))] ++ objG 1 1 (intC bt) i, 2⟩) (fun i => N - i) (fun i => i ≤ N) 0 (Nat.zero_le _) (ren1 1 1) ?_ fun i hi => ?_))
  · exact WeakR.up rfl rfl (by simp) (Nat.le_refl _) (.inl rfl) (by show 1 ≤ 2; omega) ⟨RenV.ptr (by omega), RenV.closed Below.lit, RenV.closed Below.lit, trivial⟩ ⟨⟨by omega, _, rfl, .cells (RenVs.closed (farmL_below f)), .inr rfl⟩, trivial⟩ (fun p hp => by cases hp)
  cases i with
  | zero =>
    show SW _ _ _ _ ⟨⟨40, getT [(1, .ptr 0 0), (3, nl3), (4, iV (Int.ofNat 0))]⟩, []⟩ ⟨[(0, .cells none false (farmL f))], 2⟩
    refine SW.seq ?_
    refine SW.seqRun tok hO (by cbv <;> rfl) (by trivial) ?_
    refine OpsW.callP e61 (by cbv <;> rfl) ?_
    refine OpsW.run tok hO (by cbv <;> rfl) (by trivial) ?_
    refine SW.condS (by cbv <;> rfl) (fun h => SW.skip ?_) (fun h => SW.exit ?_)
    · have hlt : 0 < N := by
        have : Int.ofNat 0 < Int.ofNat N := by subst hO; simpa [std] using h
        exact Int.ofNat_lt.1 this
      have k1 := e60 0 hlt
      have k2 := hr 0 hlt
      refine SW.seq (SW.block ?_)
      refine SW.seqRun tok hO (by cbv <;> rfl) (by trivial) ?_
      refine SW.seq ((all_in0 f hnl nl3 0 (fl 0) (R 0) k1 k2 _ O hO ⟨rfl, rfl, rfl, rfl, trivial⟩).mono fun e fm st hm => ?_)
      obtain ⟨rfl, ts, rfl, ⟨g1, g3, g4, g5, _⟩, rfl⟩ := hm
      simp only at g1 g3 g4 g5
      rw [hbi] at g5
      rw [← updT_self g1, ← updT_self g3, ← updT_self g4, ← updT_self g5]
      refine (show SW _ _ _ _ _ _ from ?_)
      refine SW.runN tok hO 3 (by cbv <;> rfl) (by trivial) ?_
      refine OpsW.appNil tok (by cbv <;> rfl) (by rfl) (by kernel_rfl) (by rfl) (by rfl) ?_
      refine OpsW.run tok hO (by cbv <;> rfl) (by trivial) ?_
      refine SW.run tok hO (by cbv <;> rfl) (by trivial) ?_
      refine ⟨0 + 1, by omega, by omega, ren1 1 3, ?_⟩
      refine WeakR.up rfl rfl (by simp) (Nat.le_refl _) (.inr (by omega)) (by show 1 ≤ 2; omega) ⟨RenV.ptr (by omega), RenV.sl (by omega), RenV.inc hO (by omega), trivial⟩ ⟨⟨by omega, _, rfl, .cells (RenVs.closed (farmL_below f)), .inr rfl⟩, trivial⟩ (fun p hp => ?_)
      obtain rfl := objG_mem hp
      exact ⟨by omega, _, rfl, .cells (RenVs.of_eq (rfl) (flatG_below (intC_below bt) _)), .inl rfl⟩
    · have hz : 0 = N := by
        have : ¬ Int.ofNat 0 < Int.ofNat N := by subst hO; simpa [std] using h
        have h2 : ¬ 0 < N := fun h => this (Int.ofNat_lt.2 h)
        omega
      refine SW.seqRun tok hO (by cbv <;> rfl) (by trivial) ?_
      refine SW.ret ⟨_, _, rfl, rfl, ?_⟩
      rw [← hz]
      exact Eqv.nil
  | succ m =>
    obtain ⟨G, hG⟩ : ∃ G, G = flatG 1 (intC bt) (m + 1) := ⟨_, rfl⟩
    show SW _ _ _ _ ⟨⟨40, getT [(1, .ptr 0 0), (3, .sl 1 0 (m + 1) 1 false), (4, iV (Int.ofNat (m + 1)))]⟩, []⟩ ⟨[(0, .cells none false (farmL f)), (1, .cells none false (flatG 1 (intC bt) (m + 1)))], 2⟩
    rw [← hG]
    refine SW.seq ?_
    refine SW.seqRun tok hO (by cbv <;> rfl) (by trivial) ?_
    refine OpsW.callP e61 (by cbv <;> rfl) ?_
    refine OpsW.run tok hO (by cbv <;> rfl) (by trivial) ?_
    refine SW.condS (by cbv <;> rfl) (fun h => SW.skip ?_) (fun h => SW.exit ?_)
    · have hlt : (m + 1) < N := by
        have : Int.ofNat (m + 1) < Int.ofNat N := by subst hO; simpa [std] using h
        exact Int.ofNat_lt.1 this
      have k1 := e60 (m + 1) hlt
      have k2 := hr (m + 1) hlt
      refine SW.seq (SW.block ?_)
      refine SW.seqRun tok hO (by cbv <;> rfl) (by trivial) ?_
      refine SW.seq ((all_in1 f hnl (.sl 1 0 (m + 1) 1 false) (m + 1) G (fl (m + 1)) (R (m + 1)) k1 k2 _ O hO ⟨rfl, rfl, rfl, rfl, trivial⟩).mono fun e fm st hm => ?_)
      obtain ⟨rfl, ts, rfl, ⟨g1, g3, g4, g5, _⟩, rfl⟩ := hm
      simp only at g1 g3 g4 g5
      rw [hbi] at g5
      rw [← updT_self g1, ← updT_self g3, ← updT_self g4, ← updT_self g5]
      refine (show SW _ _ _ _ _ _ from ?_)
      refine SW.runN tok hO 3 (by cbv <;> rfl) (by trivial) ?_
      refine OpsW.appOne (g := intC bt) tok (by cbv <;> rfl) (by rfl) (by rfl) hG (by kernel_rfl) (by rfl) (by rfl) (by omega) fun G' hG' => ?_
      refine OpsW.run tok hO (by cbv <;> rfl) (by trivial) ?_
      refine SW.run tok hO (by cbv <;> rfl) (by trivial) ?_
      refine ⟨(m + 1) + 1, by omega, by omega, ren1 1 3, ?_⟩
      refine WeakR.up rfl rfl (by simp) (Nat.le_refl _) (.inr (by omega)) (by show 1 ≤ 2; omega) ⟨RenV.ptr (by omega), RenV.sl (by omega), RenV.inc hO (by omega), trivial⟩ ⟨⟨by omega, _, rfl, .cells (RenVs.closed (farmL_below f)), .inr rfl⟩, trivial⟩ (fun p hp => ?_)
      obtain rfl := objG_mem hp
      exact ⟨by omega, _, rfl, .cells (RenVs.of_eq (hG'.trans (flatG_snocB bt (m + 1))) (flatG_below (intC_below bt) _)), .inl rfl⟩
    · have hz : (m + 1) = N := by
        have : ¬ Int.ofNat (m + 1) < Int.ofNat N := by subst hO; simpa [std] using h
        have h2 : ¬ (m + 1) < N := fun h => this (Int.ofNat_lt.2 h)
        omega
      refine SW.seqRun tok hO (by cbv <;> rfl) (by trivial) ?_
      refine SW.ret ⟨_, _, rfl, rfl, ?_⟩
      rw [← hz]
      show Eqv (frz _ (fun _ => true) 3 (.sl 1 0 (m + 1) 1 false)) _
      rw [frz_slE (fm := none) (G := G) rfl rfl (by rw [hG, flatG_length]; exact Nat.le_refl _)]
      exact Eqv.isl rfl fun a k ha hk => Eqv.of (by rw [hG]; exact frz_flat ha hk rfl)
theorem all45_ok {f : FarmD} (hc : f.check = 0) : Pure Try.prog 45 [farmV f] (intsV f.mN false f.bitT) := by
  have g := good_of_check hc
  have hs := good_small g
  obtain ⟨_, h1, h2⟩ := FarmD.many_eq hc
  have e61 := many_ok f hs
  have hm : f.manyN f.ns = Int.ofNat f.mN := by unfold FarmD.mN; show _ = (((f.manyN f.ns).toNat : Nat) : Int); omega
  rw [hm] at e61
  have hnl := g.nl
  have hns := g.ns
  exact all45_core f (by omega) f.mN (by unfold FarmD.mN; omega) e61 (fun i => f.nthN (i : Int)) (fun i => f.rightN (f.nthN (i : Int))) (fun i hi => nth_ok f g (Int.ofNat i)) (fun i hi j hj => rightN_ok f hs f.ns false (f.nthN (i : Int)) (by omega) (Nat.le_refl _) j (g.look j hj).1.1 (g.look j hj).1.2)
end Go.Fz
set_option linter.unusedVariables false
namespace Go.Fz
open Go.Proofs
set_option maxRecDepth 100000
section
variable (f : FarmD) (b : Int) (ov : Bool) (lo hi : Int)
end
section
variable {f : FarmD} {b : Int} {ov : Bool} {lo hi : Int}
end
theorem lve_first {f : FarmD} (hc : f.check = 0) : ∃ l, (risL f.nl).find? f.lvs = some l ∧ f.lveL = zV (nI l) := by
  have g := good_of_check hc
  have h5 := g.nl
  have hv : f.lvs (List.range f.nl) = true := by
    obtain ⟨c, hcc⟩ := List.exists_mem_of_ne_nil _ (chL_ne g)
    refine lvs_iff.2 ⟨c, hcc, fun j hj => ?_⟩
    obtain ⟨h2, h3⟩ := mem_coL.1 hj
    exact absurd (List.mem_range.2 h2) h3
  obtain ⟨l, hl⟩ := find_ex (rng_ris5 ⟨f.nl, by omega⟩) hv
  refine ⟨l, hl, ?_⟩
  unfold FarmD.lveL
  rw [if_pos hc, hl]
end Go.Fz
set_option linter.unusedVariables false
namespace Go.Fz
open Go.Proofs
set_option maxRecDepth 100000
theorem mask_fin1 : ∀ (b0 b1 b2 b3 b4 : Bool) (n : Fin 6) (o : Fin 32), o.1 < 2 ^ n.1 → (std.cmp .eql (std.bin .and .i64 (bitsN (mk5 (b0, b1, b2, b3, b4)) n.1) (std.bin .andNot .i64 (fullI n.1) (Int.ofNat o.1))) (std.bin .andNot .i64 (fullI n.1) (Int.ofNat o.1)) = true ↔ ∀ j : Fin 5, j.1 < n.1 → j.1 ∉ selL (o.1 : Int) 5 → mk5 (b0, b1, b2, b3, b4) j.1 = true) := by decide +kernel
theorem mask_fin2 : ∀ (b0 b1 b2 b3 b4 : Bool) (n : Fin 6) (k : Fin 5), k.1 < n.1 → (std.cmp .eql (std.bin .and .i64 (bitsN (mk5 (b0, b1, b2, b3, b4)) n.1) (upTo k.1)) (upTo k.1) = true ↔ ∀ j : Fin 5, j.1 ≤ k.1 → mk5 (b0, b1, b2, b3, b4) j.1 = true) := by decide +kernel
theorem mask1 (b : Nat → Bool) {n o : Nat} (hn : n ≤ 5) (ho : o < 2 ^ n) : std.cmp .eql (std.bin .and .i64 (bitsN b n) (std.bin .andNot .i64 (fullI n) (Int.ofNat o))) (std.bin .andNot .i64 (fullI n) (Int.ofNat o)) = true ↔ ∀ j, j < n → j ∉ selL (o : Int) 5 → b j = true := by
  have h := mask_fin1 (b 0) (b 1) (b 2) (b 3) (b 4) ⟨n, by omega⟩ ⟨o, Nat.lt_of_lt_of_le ho (pow_le32 hn)⟩ ho
  rw [bitsN_congr (n := n) fun j hj => mk5_eq b j (by omega)] at h
  rw [h]
  constructor
  · intro k j hj hm
    have := k ⟨j, by omega⟩ hj hm
    rw [mk5_eq b j (by omega)] at this; exact this
  · intro k j hj hm
    rw [mk5_eq b j.1 j.2]; exact k j.1 hj hm
theorem mask2 (b : Nat → Bool) {n k : Nat} (hn : n ≤ 5) (hk : k < n) : std.cmp .eql (std.bin .and .i64 (bitsN b n) (upTo k)) (upTo k) = true ↔ ∀ j, j ≤ k → b j = true := by
  have h := mask_fin2 (b 0) (b 1) (b 2) (b 3) (b 4) ⟨n, by omega⟩ ⟨k, by omega⟩ hk
  rw [bitsN_congr (n := n) fun j hj => mk5_eq b j (by omega)] at h
  rw [h]
  constructor
  · intro q j hj
    have := q ⟨j, by omega⟩ hj
    rw [mk5_eq b j (by omega)] at this; exact this
  · intro q j hj
    rw [mk5_eq b j.1 j.2]; exact q j.1 hj
def FarmD.canL (f : FarmD) (o : Nat) : Bool := canB f.bitT (std.bin .andNot .i64 (fullI f.nl) (Int.ofNat o)) f.mN
def FarmD.canF (f : FarmD) (k : Nat) : Bool := canB f.bitT (upTo k) f.mN
theorem right_nth {f : FarmD} (g : f.Good) {n : Nat} (hn : n ≤ 70000) {j : Nat} (hj : j < f.nl) : f.rightN (f.nthN n) j = f.rightB (f.water (zL (f.nthL n))) j := by
  have hch := FarmD.nthL_ch g (n := (n : Int)) (by omega) (by omega)
  have hfl : ∀ s, s < f.ns → 0 ≤ zL (f.nthL n) s ∧ zL (f.nthL n) s ≤ 30 := f.ch_fl g hch
  rw [f.right_eq g _ hfl j hj]
  exact (FarmD.rightN_congr (fun i hi => f.nthL_at n hi) g hj hfl).symm
theorem ex_nth {f : FarmD} (hc : f.check = 0) (p : List Int → Prop) : (∃ c ∈ f.chL, p c) ↔ ∃ n, n < f.mN ∧ p (f.nthL (n : Int)) := by
  have g := good_of_check hc
  obtain ⟨_, h1, h2⟩ := FarmD.many_eq hc
  unfold FarmD.mN
  constructor
  · rintro ⟨c, h3, h4⟩
    obtain ⟨n, h5, rfl⟩ := FarmD.nthL_onto hc ((f.mem_chL c).1 h3)
    exact ⟨n, by omega, h4⟩
  · rintro ⟨n, h3, h4⟩
    exact ⟨_, (f.mem_chL _).2 (FarmD.nthL_ch g (by omega) (by omega)), h4⟩
theorem canL_same {f : FarmD} (hc : f.check = 0) {o : Nat} (ho : o < 2 ^ f.nl) : f.lvs (selL (o : Int) 5) = f.canL o := by
  have g := good_of_check hc
  obtain ⟨_, h1, h2⟩ := FarmD.many_eq hc
  rw [Bool.eq_iff_iff, lvs_iff, ex_nth hc (fun c => ∀ j ∈ coL f.nl (selL (o : Int) 5), f.rightB (f.water (zL c)) j = true)]
  unfold FarmD.canL canB
  rw [decide_eq_true_eq]
  have hmN : ∀ n, n < f.mN → n ≤ 70000 := fun n hn => by unfold FarmD.mN at hn; omega
  constructor
  · rintro ⟨n, hn, h⟩
    refine ⟨n, hn, (mask1 _ g.nl ho).2 fun j hj hm => ?_⟩
    rw [right_nth g (hmN n hn) hj]
    exact h j (mem_coL.2 ⟨hj, hm⟩)
  · rintro ⟨n, hn, h⟩
    refine ⟨n, hn, fun j hj => ?_⟩
    obtain ⟨h3, h4⟩ := mem_coL.1 hj
    rw [← right_nth g (hmN n hn) h3]
    exact (mask1 _ g.nl ho).1 h j h3 h4
theorem wl_playS (f : FarmD) (n : Nat) (fl : Nat → Int) : ∀ s, playS (f.wl n) fl s = playS f fl s
  | 0 => rfl
  | s + 1 => by
    show stepS (f.wl n) fl s (playS (f.wl n) fl s) = stepS f fl s (playS f fl s)
    rw [wl_playS f n fl s]; rfl
theorem wl_playB (f : FarmD) (n : Nat) (K fl : Nat → Int) : ∀ i, playB (f.wl n) K fl i = playB f K fl i
  | 0 => wl_playS f n fl f.ns
  | i + 1 => by
    show stepB (f.wl n) K i (playB (f.wl n) K fl i) = stepB f K i (playB f K fl i)
    rw [wl_playB f n K fl i]; rfl
theorem wl_water (f : FarmD) (n : Nat) (fl : Nat → Int) : (f.wl n).water fl = f.water fl := wl_playB f n (f.k0 f.nb) fl f.nb
theorem wl_trs {f : FarmD} {k : Nat} : (f.wl k).trs ≠ [] ↔ ∃ c ∈ f.chL, ∀ j, j < k → f.rightB (f.water (zL c)) j = true := by
  unfold FarmD.trs
  have hr : ∀ c, (f.wl k).rgt c = true ↔ ∀ j, j < k → f.rightB (f.water (zL c)) j = true := fun c => by
    unfold FarmD.rgt allN
    rw [decide_eq_true_eq]
    have hw : (f.wl k).water (zL c) = f.water (zL c) := wl_water f k (zL c)
    rw [hw]; exact Iff.rfl
  constructor
  · intro h
    obtain ⟨c, hcc⟩ := List.exists_mem_of_ne_nil _ h
    obtain ⟨h1, h2⟩ := List.mem_filter.1 hcc
    exact ⟨c, h1, (hr c).1 h2⟩
  · rintro ⟨c, h1, h2⟩ e
    have : c ∈ (f.wl k).chL.filter (f.wl k).rgt := List.mem_filter.2 ⟨h1, (hr c).2 h2⟩
    rw [e] at this; cases this
theorem canF_iff {f : FarmD} (hc : f.check = 0) {k : Nat} (hk : k < f.nl) : f.canF k = true ↔ (f.wl (k + 1)).trs ≠ [] := by
  have g := good_of_check hc
  obtain ⟨_, h1, h2⟩ := FarmD.many_eq hc
  rw [wl_trs, ex_nth hc (fun c => ∀ j, j < k + 1 → f.rightB (f.water (zL c)) j = true)]
  unfold FarmD.canF canB
  rw [decide_eq_true_eq]
  have hmN : ∀ n, n < f.mN → n ≤ 70000 := fun n hn => by unfold FarmD.mN at hn; omega
  constructor
  · rintro ⟨n, hn, h⟩
    refine ⟨n, hn, fun j hj => ?_⟩
    rw [← right_nth g (hmN n hn) (show j < f.nl by omega)]
    exact (mask2 _ g.nl hk).1 h j (by omega)
  · rintro ⟨n, hn, h⟩
    refine ⟨n, hn, (mask2 _ g.nl hk).2 fun j hj => ?_⟩
    rw [right_nth g (hmN n hn) (show j < f.nl by omega)]
    exact h j (by omega)
def FarmD.fstR (f : FarmD) : Int := match f.fstO with
  | some n => (n : Int)
  | none => -1
theorem fstR_wrong {f : FarmD} (hc : f.check = 0) {k : Nat} (hk : k < f.nl) (hf : f.canF k = false) (ht : ∀ j, j < k → f.canF j = true) : f.fstR = k := by
  have h : f.fstO = some k := find_range hk (fun j hj => by
    have := (canF_iff hc (by omega)).1 (ht j hj)
    simpa using this) (by
    have : ¬ (f.wl (k + 1)).trs ≠ [] := fun h => by
      have := (canF_iff hc hk).2 h
      rw [hf] at this; cases this
    simpa using this)
  unfold FarmD.fstR
  rw [h]
theorem fstR_none {f : FarmD} (hc : f.check = 0) (ht : ∀ j, j < f.nl → f.canF j = true) : f.fstR = -1 := by
  have h : f.fstO = none := find_none fun j hj => by
    have := (canF_iff hc hj).1 (ht j hj)
    simpa using this
  unfold FarmD.fstR
  rw [h]
theorem all_fin5 : ∀ n : Fin 6, ∀ j : Fin 5, j.1 < n.1 → j.1 ∈ selL ((2 ^ n.1 - 1 : Nat) : Int) 5 := by decide +kernel
theorem canL_all {f : FarmD} (hc : f.check = 0) : f.canL (2 ^ f.nl - 1) = true := by
  have g := good_of_check hc
  have h5 := g.nl
  have hp : 0 < 2 ^ f.nl := Nat.pow_pos (by decide)
  rw [← canL_same hc (by omega), lvs_iff]
  obtain ⟨c, hcc⟩ := List.exists_mem_of_ne_nil _ (chL_ne g)
  refine ⟨c, hcc, fun j hj => ?_⟩
  obtain ⟨h1, h2⟩ := mem_coL.1 hj
  exact absurd (all_fin5 ⟨f.nl, by omega⟩ ⟨j, by omega⟩ h1) h2
theorem firstR_ok {f : FarmD} (hc : f.check = 0) : Pure Try.prog 47 [farmV f, intsV f.mN false f.bitT] (iV f.fstR) := by
  have g := good_of_check hc
  have h5 := g.nl
  obtain ⟨_, h1, h2⟩ := FarmD.many_eq hc
  exact first47_ok f (by omega) _ (intsV_below _ _ _) f.canF (fun k hk => can97_ok f.mN f.bitT (upTo k) (by unfold FarmD.mN; omega)) f.fstR (fun k hk hp hall => fstR_wrong hc hk hp hall) (fun hall => fstR_none hc hall)
theorem leaveR_ok {f : FarmD} (hc : f.check = 0) : ∃ l, f.lveL = zV (nI l) ∧ l.length ≤ 5 ∧ Pure Try.prog 46 [farmV f, intsV f.mN false f.bitT] (lsV l) := by
  have g := good_of_check hc
  have h5 := g.nl
  obtain ⟨_, h1, h2⟩ := FarmD.many_eq hc
  have hp : 0 < 2 ^ f.nl := Nat.pow_pos (by decide)
  have e := leave46_ok f h5 _ (intsV_below f.mN false f.bitT) f.canL (fun o ho => can97_ok f.mN f.bitT _ (by unfold FarmD.mN; omega)) (canL_all hc)
  have hfind := leS_find h5 (P := f.canL) (Q := f.lvs) (fun b hb => canL_same hc hb) (b0 := 2 ^ f.nl - 1) (by omega) (canL_all hc)
  obtain ⟨l, hl, hv⟩ := lve_first hc
  have hfind := hl.symm.trans hfind
  rw [← Option.some.inj hfind] at e
  exact ⟨l, hv, Nat.le_trans (risL_len (find_in hl).1) h5, e⟩
end Go.Fz
set_option linter.unusedVariables false
namespace Go.Fz
open Go.Proofs
set_option maxRecDepth 100000
theorem small_of_thin {f : FarmD} (h : f.thinB = true) : f.small ∧ f.nb ≤ 10 ∧ f.ns ≤ 6 ∧ f.nl ≤ 7 := by
  simp only [FarmD.thinB, Bool.and_eq_true, decide_eq_true_eq] at h
  exact ⟨⟨by omega, by omega, by omega⟩, by omega, by omega, by omega⟩
theorem bedLeaves_ok (haw : Pure Try.prog 19 [] (.lit (.bool true))) (f : FarmD) : Pure Try.prog 7 [farmV f] (.lit (.bool true)) := by
  have e18 := thin_ok f
  cases hT : f.thinB with
  | false => rw [hT] at e18; exact le_not haw f e18
  | true =>
    rw [hT] at e18
    obtain ⟨hs, h1, h2, h3⟩ := small_of_thin hT
    have e21 := farm_ok f h1 h2 h3
    have e43 := first_ok f hs
    have e44 := leave44 hs
    have e24 := fault24_ok f hs
    rw [← f.check_eq] at e24
    by_cases hc : f.check = 0
    · have e45 := all45_ok hc
      have e47 := firstR_ok hc
      obtain ⟨l, hl, h5, e46⟩ := leaveR_ok hc
      rw [hl, nI_val, hc] at e44
      rw [hc] at e24
      have e41 : Pure Try.prog 41 [lsV l, lsV l] (.lit (.bool true)) := by
        have h := ints_ok l.length l.length false false (lI l) (lI l) (by omega) (by omega)
        rw [show eqL l.length l.length (lI l) (lI l) = true from eqL_self fun _ _ => rfl] at h
        exact h.res (Eqv.litS true)
      unfold FarmD.fstR at e47
      unfold FarmD.fstV FarmD.fstE at e43
      rw [if_pos hc, if_pos hc] at e43
      cases hf : f.fstO with
      | some n =>
        rw [hf] at e43 e47
        exact le_some haw f n (by omega) _ _ e18 e21 e43 e44 e24 e45 e46 e41 e47
      | none =>
        rw [hf] at e43 e47
        exact le_none haw f _ _ e18 e21 e43 e44 e24 e45 e46 e41 e47
    · unfold FarmD.fstV FarmD.fstE at e43
      rw [if_neg hc, if_neg hc] at e43
      rw [show f.lveL = nl3 from if_neg hc] at e44
      exact le_bad haw f _ hc e18 e21 e43 e44 e24
end Go.Fz
