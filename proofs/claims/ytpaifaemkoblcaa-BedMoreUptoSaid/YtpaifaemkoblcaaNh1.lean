/- Own work of the verifier of watercress: FzH3, FzH2, FzE1, FzE2, FzE3, FzG8, FzG5, FzE4, FzE5, FzG6, FzE6, FzG3, FzG4, FzG1, FzG7, FzG9, FzH4. -/
import Derived.Below
import Derived.CallsIn
import Derived.Carry
import Derived.ChangeKeysEq
import Derived.ChangeSame
import Derived.Deep.Slices
import Derived.DeepKeys4
import Derived.JoinedCond
import Derived.Laws.AppendOwn
import Derived.Laws.Cells
import Derived.Laws.CopyRow
import Derived.Laws.Cover3
import Derived.Laws.Entries
import Derived.Laws.NewFold
import Derived.Laws.Sem
import Derived.Laws.Small
import Derived.Laws.StructEq
import Derived.Laws.Tables
import Derived.Laws.World
import Derived.Lib.SmallJoins
import Derived.Maps.Keyed
import Derived.Maps.RangeRun
import Derived.OpenShut
import Derived.OrdersHeld
import Derived.OrdersIn
import Derived.ProofKit
import Derived.RangeFuncLeaves
import Derived.RangeFuncRecord
import Derived.Shelf.Abstract
import Derived.WalkKit
import Derived.WideKeyArgs
import Derived.Test.YtpaifaemkoblcaaNa16
import Derived.Test.YtpaifaemkoblcaaNa24
import Derived.Test.YtpaifaemkoblcaaNa25
import Derived.Test.YtpaifaemkoblcaaNa26
import Derived.Test.YtpaifaemkoblcaaNa19
import Derived.Test.YtpaifaemkoblcaaNa20
import Derived.Test.YtpaifaemkoblcaaNa21
import Derived.Test.YtpaifaemkoblcaaNa22
import Derived.Test.YtpaifaemkoblcaaNa23
import Derived.Test.YtpaifaemkoblcaaNa27
import Derived.Test.YtpaifaemkoblcaaNh0
import Derived.Test.YtpaifaemkoblcaaNa32
import Derived.Test.YtpaifaemkoblcaaNa35
import Derived.Test.YtpaifaemkoblcaaNa33
import Derived.Test.YtpaifaemkoblcaaNa34
import Derived.Test.YtpaifaemkoblcaaNa28
import Derived.Test.YtpaifaemkoblcaaNa29
import Derived.Test.YtpaifaemkoblcaaNa30
import Derived.Test.YtpaifaemkoblcaaNa31
import Derived.Test.YtpaifaemkoblcaaNa36
import Derived.Test.YtpaifaemkoblcaaNa37
import Derived.Test.YtpaifaemkoblcaaNa38
import Derived.Test.YtpaifaemkoblcaaNa40
import Derived.Test.YtpaifaemkoblcaaNa39
import Derived.Test.YtpaifaemkoblcaaNa41
import Derived.Test.YtpaifaemkoblcaaNa17
import Derived.Test.YtpaifaemkoblcaaNa18
import Derived.Test.YtpaifaemkoblcaaNa10
import Derived.Test.YtpaifaemkoblcaaNa12
import Derived.Test.YtpaifaemkoblcaaNa11
import Derived.Test.YtpaifaemkoblcaaNa13
import Derived.Test.YtpaifaemkoblcaaNa14
import Derived.Test.YtpaifaemkoblcaaNa0
import Derived.Test.YtpaifaemkoblcaaNa1
import Derived.Test.YtpaifaemkoblcaaNa2
import Derived.Test.YtpaifaemkoblcaaNa3
import Derived.Test.YtpaifaemkoblcaaNa4
import Derived.Test.YtpaifaemkoblcaaNa5
import Derived.Test.YtpaifaemkoblcaaNa6
import Derived.Test.YtpaifaemkoblcaaNa7
import Derived.Test.YtpaifaemkoblcaaNa8
import Derived.Test.YtpaifaemkoblcaaNa9
import Derived.Test.YtpaifaemkoblcaaProg
import Derived.Test.YtpaifaemkoblcaaRows
set_option linter.unusedVariables false
set_option linter.unusedSimpArgs false
set_option linter.unusedVariables false
set_option linter.unusedSimpArgs false
namespace Go.Fz
open Go.Proofs
set_option maxRecDepth 100000
def bmX (f : FarmD) (len : Nat) (hC : Nat → Nat → AV) : List AV := [springsV f, bedsV f, .isl len 4 false hC]
theorem gtr_no {O : Ar} (hO : O = std) {a b : Int} (h : O.cmp .gtr a b = true) (hab : a ≤ b) : False := by
  subst hO
  have h2 : decide (a > b) = true := h
  have := of_decide_eq_true h2
  omega
theorem lss_no {O : Ar} (hO : O = std) {a b : Int} (h : O.cmp .lss a b = true) (hab : b ≤ a) : False := by
  subst hO
  have h2 : decide (a < b) = true := h
  have := of_decide_eq_true h2
  omega
set_option maxHeartbeats 8000000 in
theorem bm_not1 (haw : Pure Try.prog 19 [] (.lit (.bool true))) (f : FarmD) (len : Nat) (hC : Nat → Nat → AV) (cl : List AV) (x0 : Int) (e52 : Pure Try.prog 52 [farmV f] (.sb false))
    (gg : Nat → AV) (h : AllP (fun p => gg p.1 = p.2) [(2, .lit (.int .u8 x0)), (3, .ptr 0 0), (7, .ptr 2 0)]) :
    SW Try.prog none (restC 3 (bodyF Try.f14)) (trueQ3 Try.f14) ⟨⟨187, gg⟩, []⟩ ⟨[(2, .cells none false (bmX f len hC)), (1, .cells none false cl), (0, .cells none false (farmL f))], 4⟩ := by
  obtain ⟨O, hO⟩ : ∃ O : Ar, O = std := ⟨_, rfl⟩
  obtain ⟨g1, g2, g3, _⟩ := h
  simp only at g1 g2 g3
  rw [← updT_self g1, ← updT_self g2, ← updT_self g3]
  refine (show SW Try.prog none (.seq (.seq (.region _ _ _) _) _) _ _ _ from ?_)
  refine SW.seq ?_
  refine SW.seqRun tok hO (by cbv <;> rfl) (by trivial) ?_
  refine OpsW.callP e52 (by cbv <;> rfl) ?_
  refine OpsW.run tok hO (by cbv <;> rfl) (by trivial) ?_
  refine OpsW.splitG (by cbv <;> rfl) (fun hw1 => ?_) (fun hw1 => by first | (cases hw1; done) | (subst hO; simp [std] at hw1; done) | (subst hO; simp [std] at hw1; omega))
  refine OpsW.run tok hO (by cbv <;> rfl) (by trivial) ?_
  refine SW.cond (t := true) (by cbv <;> rfl) ?_
  refine SW.seqRun tok hO (by cbv <;> rfl) (by trivial) ?_
  refine OpsW.callP haw (by cbv <;> rfl) ?_
  refine OpsW.run tok hO (by cbv <;> rfl) (by trivial) ?_
  exact SW.ret ⟨_, _, rfl, rfl, Eqv.of rfl⟩
set_option maxHeartbeats 8000000 in
theorem bm_not2 (haw : Pure Try.prog 19 [] (.lit (.bool true))) (f : FarmD) (len : Nat) (hC : Nat → Nat → AV) (cl : List AV) (x0 : Int) (e52 : Pure Try.prog 52 [farmV f] (.sb true)) (x52 : Pure Try.prog 52 [.agg (bmX f len hC)] (.sb false))
    (gg : Nat → AV) (h : AllP (fun p => gg p.1 = p.2) [(2, .lit (.int .u8 x0)), (3, .ptr 0 0), (7, .ptr 2 0)]) :
    SW Try.prog none (restC 3 (bodyF Try.f14)) (trueQ3 Try.f14) ⟨⟨187, gg⟩, []⟩ ⟨[(2, .cells none false (bmX f len hC)), (1, .cells none false cl), (0, .cells none false (farmL f))], 4⟩ := by
  obtain ⟨O, hO⟩ : ∃ O : Ar, O = std := ⟨_, rfl⟩
  obtain ⟨g1, g2, g3, _⟩ := h
  simp only at g1 g2 g3
  rw [← updT_self g1, ← updT_self g2, ← updT_self g3]
  refine (show SW Try.prog none (.seq (.seq (.region _ _ _) _) _) _ _ _ from ?_)
  refine SW.seq ?_
  refine SW.seqRun tok hO (by cbv <;> rfl) (by trivial) ?_
  refine OpsW.callP e52 (by cbv <;> rfl) ?_
  refine OpsW.run tok hO (by cbv <;> rfl) (by trivial) ?_
  refine OpsW.splitG (by cbv <;> rfl) (fun hw1 => by first | (cases hw1; done) | (subst hO; simp [std] at hw1; done) | (subst hO; simp [std] at hw1; omega)) (fun hw1 => ?_)
  refine OpsW.run tok hO (by cbv <;> rfl) (by trivial) ?_
  refine OpsW.callP x52 (by cbv <;> rfl) ?_
  refine OpsW.run tok hO (by cbv <;> rfl) (by trivial) ?_
  refine SW.condS (by cbv <;> rfl) (fun hw2 => ?_) (fun hw2 => by first | (cases hw2; done) | (subst hO; simp [std] at hw2; done) | (subst hO; simp [std] at hw2; omega))
  refine SW.seqRun tok hO (by cbv <;> rfl) (by trivial) ?_
  refine OpsW.callP haw (by cbv <;> rfl) ?_
  refine OpsW.run tok hO (by cbv <;> rfl) (by trivial) ?_
  exact SW.ret ⟨_, _, rfl, rfl, Eqv.of rfl⟩
set_option maxHeartbeats 8000000 in
theorem bm_yes (f : FarmD) (len : Nat) (hC : Nat → Nat → AV) (cl : List AV) (x0 : Int) (k : Nat) (hnz : Int.ofNat f.nb ≠ 0) (hk : std.bin .rem .i64 (std.conv .i64 x0) (Int.ofNat f.nb) = Int.ofNat k) (e52 : Pure Try.prog 52 [farmV f] (.sb true)) (x52 : Pure Try.prog 52 [.agg (bmX f len hC)] (.sb true))
    (htail : ∀ (gg : Nat → AV), AllP (fun p => gg p.1 = p.2) [(3, .ptr 0 0), (7, .ptr 2 0), (8, iV (Int.ofNat k))] → SW Try.prog none (restC 5 (bodyF Try.f14)) (trueQ3 Try.f14) ⟨⟨187, gg⟩, []⟩ ⟨[(2, .cells none false (bmX f len hC)), (1, .cells none false cl), (0, .cells none false (farmL f))], 4⟩)
    (gg : Nat → AV) (h : AllP (fun p => gg p.1 = p.2) [(2, .lit (.int .u8 x0)), (3, .ptr 0 0), (7, .ptr 2 0)]) :
    SW Try.prog none (restC 3 (bodyF Try.f14)) (trueQ3 Try.f14) ⟨⟨187, gg⟩, []⟩ ⟨[(2, .cells none false (bmX f len hC)), (1, .cells none false cl), (0, .cells none false (farmL f))], 4⟩ := by
  obtain ⟨O, hO⟩ : ∃ O : Ar, O = std := ⟨_, rfl⟩
  obtain ⟨g1, g2, g3, _⟩ := h
  simp only at g1 g2 g3
  rw [← updT_self g1, ← updT_self g2, ← updT_self g3]
  rw [← hO] at hk
  refine (show SW Try.prog none (.seq (.seq (.region _ _ _) _) _) _ _ _ from ?_)
  refine SW.seq ?_
  refine SW.seqRun tok hO (by cbv <;> rfl) (by repeat (first | exact trivial | exact hnz | refine ⟨?_, ?_⟩)) ?_
  refine OpsW.callP e52 (by cbv <;> rfl) ?_
  refine OpsW.run tok hO (by cbv <;> rfl) (by repeat (first | exact trivial | exact hnz | refine ⟨?_, ?_⟩)) ?_
  refine OpsW.splitG (by cbv <;> rfl) (fun hw1 => by first | (cases hw1; done) | (subst hO; simp [std] at hw1; done) | (subst hO; simp [std] at hw1; omega)) (fun hw1 => ?_)
  refine OpsW.run tok hO (by cbv <;> rfl) (by repeat (first | exact trivial | exact hnz | refine ⟨?_, ?_⟩)) ?_
  refine OpsW.callP x52 (by cbv <;> rfl) ?_
  refine OpsW.run tok hO (by cbv <;> rfl) (by repeat (first | exact trivial | exact hnz | refine ⟨?_, ?_⟩)) ?_
  refine SW.condS (by cbv <;> rfl) (fun hw2 => by first | (cases hw2; done) | (subst hO; simp [std] at hw2; done) | (subst hO; simp [std] at hw2; omega)) (fun hw2 => SW.skip ?_)
  refine SW.seqRun tok hO (by cbv <;> rfl) (by repeat (first | exact trivial | exact hnz | refine ⟨?_, ?_⟩)) ?_
  exact htail _ ⟨rfl, rfl, (by rw [← hk]; rfl), trivial⟩
set_option maxHeartbeats 8000000 in
theorem bm_none11 (haw : Pure Try.prog 19 [] (.lit (.bool true))) (f : FarmD) (len : Nat) (hC : Nat → Nat → AV) (cl : List AV) (k : Nat) (XV : AV) (NL NM : Nat) (FL FM : Nat → Int) (hle : NL ≤ NM) (hle2 : NM ≤ NL + 1) (h1000 : NL < 1000) (e21 : Pure Try.prog 21 [farmV f] (farmV f)) (x21 : Pure Try.prog 21 [.agg (bmX f len hC)] XV) (e44 : Pure Try.prog 44 [farmV f] (.tup [intsV NL false FL, iV 0])) (x44 : Pure Try.prog 44 [XV] (.tup [intsV NM false FM, iV 0])) (e29 : Pure Try.prog 29 [farmV f] (.tup [nl3, iV 11])) (x29 : Pure Try.prog 29 [XV] (.tup [nl3, iV 11]))
    (gg : Nat → AV) (h : AllP (fun p => gg p.1 = p.2) [(3, .ptr 0 0), (7, .ptr 2 0), (8, iV (Int.ofNat k))]) :
    SW Try.prog none (restC 5 (bodyF Try.f14)) (trueQ3 Try.f14) ⟨⟨187, gg⟩, []⟩ ⟨[(2, .cells none false (bmX f len hC)), (1, .cells none false cl), (0, .cells none false (farmL f))], 4⟩ := by
  obtain ⟨O, hO⟩ : ∃ O : Ar, O = std := ⟨_, rfl⟩
  obtain ⟨g1, g2, g3, _⟩ := h
  simp only at g1 g2 g3
  rw [← updT_self g1, ← updT_self g2, ← updT_self g3]
  refine (show SW Try.prog none (.seq (.region _ _ _) _) _ _ _ from ?_)
  refine SW.seqRun tok hO (by cbv <;> rfl) (by trivial) ?_
  refine OpsW.callP e21 (by cbv <;> rfl) ?_
  refine OpsW.run tok hO (by cbv <;> rfl) (by trivial) ?_
  refine OpsW.callP e44 (by cbv <;> rfl) ?_
  refine OpsW.run tok hO (by cbv <;> rfl) (by trivial) ?_
  refine SW.seqRun tok hO (by cbv <;> rfl) (by trivial) ?_
  refine OpsW.callP x21 (by cbv <;> rfl) ?_
  refine OpsW.run tok hO (by cbv <;> rfl) (by trivial) ?_
  refine OpsW.callP x44 (by cbv <;> rfl) ?_
  refine OpsW.run tok hO (by cbv <;> rfl) (by trivial) ?_
  refine SW.seqRun tok hO (by cbv <;> rfl) (by trivial) ?_
  refine OpsW.callP e21 (by cbv <;> rfl) ?_
  refine OpsW.run tok hO (by cbv <;> rfl) (by trivial) ?_
  refine OpsW.callP e29 (by cbv <;> rfl) ?_
  refine OpsW.run tok hO (by cbv <;> rfl) (by trivial) ?_
  refine SW.seqRun tok hO (by cbv <;> rfl) (by trivial) ?_
  refine OpsW.callP x21 (by cbv <;> rfl) ?_
  refine OpsW.run tok hO (by cbv <;> rfl) (by trivial) ?_
  refine OpsW.callP x29 (by cbv <;> rfl) ?_
  refine OpsW.run tok hO (by cbv <;> rfl) (by trivial) ?_
  refine SW.seq ?_
  refine SW.seqRun tok hO (by cbv <;> rfl) (by trivial) ?_
  refine OpsW.splitG (by cbv <;> rfl) (fun hw1 => by first | (cases hw1; done) | (subst hO; simp [std] at hw1; done) | (subst hO; simp [std] at hw1; omega)) (fun hw1 => ?_)
  refine OpsW.run tok hO (by cbv <;> rfl) (by trivial) ?_
  refine OpsW.splitG (by cbv <;> rfl) (fun hw2 => by first | (cases hw2; done) | (subst hO; simp [std] at hw2; done) | (subst hO; simp [std] at hw2; omega)) (fun hw2 => ?_)
  refine OpsW.run tok hO (by cbv <;> rfl) (by trivial) ?_
  refine OpsW.splitG (by cbv <;> rfl) (fun h => (lss_no hO h (Int.ofNat_le.2 hle)).elim) (fun hw3 => ?_)
  refine OpsW.run tok hO (by cbv <;> rfl) (by trivial) ?_
  refine OpsW.splitG (by cbv <;> rfl) (fun h => (gtr_no hO h (by show Int.ofNat NM ≤ O.bin .add .i64 (Int.ofNat NL) 1; rw [add1_ok hO (show NL < 4611686018427387904 by omega)]; have := Int.ofNat_le.2 hle2; show (NM : Int) ≤ _; omega)).elim) (fun hw4 => ?_)
  refine OpsW.run tok hO (by cbv <;> rfl) (by trivial) ?_
  refine OpsW.splitG (by cbv <;> rfl) (fun hw5 => ?_) (fun hw5 => by first | (cases hw5; done) | (subst hO; simp [std] at hw5; done) | (subst hO; simp [std] at hw5; omega))
  refine OpsW.run tok hO (by cbv <;> rfl) (by trivial) ?_
  refine SW.condS (by cbv <;> rfl) (fun hw6 => by first | (cases hw6; done) | (subst hO; simp [std] at hw6; done) | (subst hO; simp [std] at hw6; omega)) (fun hw6 => SW.skip ?_)
  refine SW.seq ?_
  refine SW.seqRun tok hO (by cbv <;> rfl) (by trivial) ?_
  refine SW.condS (by cbv <;> rfl) (fun hw7 => ?_) (fun hw7 => by first | (cases hw7; done) | (subst hO; simp [std] at hw7; done) | (subst hO; simp [std] at hw7; omega))
  refine SW.seqRun tok hO (by cbv <;> rfl) (by trivial) ?_
  refine OpsW.splitG (by cbv <;> rfl) (fun hw8 => ?_) (fun hw8 => by first | (cases hw8; done) | (subst hO; simp [std] at hw8; done) | (subst hO; simp [std] at hw8; omega))
  refine OpsW.run tok hO (by cbv <;> rfl) (by trivial) ?_
  refine OpsW.callP haw (by cbv <;> rfl) ?_
  refine OpsW.run tok hO (by cbv <;> rfl) (by trivial) ?_
  exact SW.ret ⟨_, _, rfl, rfl, Eqv.of rfl⟩
set_option maxHeartbeats 8000000 in
theorem bm_none0 (haw : Pure Try.prog 19 [] (.lit (.bool true))) (f : FarmD) (len : Nat) (hC : Nat → Nat → AV) (cl : List AV) (k : Nat) (A : AV) (XV : AV) (NL NM : Nat) (FL FM : Nat → Int) (hle : NL ≤ NM) (hle2 : NM ≤ NL + 1) (h1000 : NL < 1000) (e21 : Pure Try.prog 21 [farmV f] (farmV f)) (x21 : Pure Try.prog 21 [.agg (bmX f len hC)] XV) (e44 : Pure Try.prog 44 [farmV f] (.tup [intsV NL false FL, iV 0])) (x44 : Pure Try.prog 44 [XV] (.tup [intsV NM false FM, iV 0])) (e29 : Pure Try.prog 29 [farmV f] (.tup [A, iV 0])) (x29 : Pure Try.prog 29 [XV] (.tup [nl3, iV 11]))
    (gg : Nat → AV) (h : AllP (fun p => gg p.1 = p.2) [(3, .ptr 0 0), (7, .ptr 2 0), (8, iV (Int.ofNat k))]) :
    SW Try.prog none (restC 5 (bodyF Try.f14)) (trueQ3 Try.f14) ⟨⟨187, gg⟩, []⟩ ⟨[(2, .cells none false (bmX f len hC)), (1, .cells none false cl), (0, .cells none false (farmL f))], 4⟩ := by
  obtain ⟨O, hO⟩ : ∃ O : Ar, O = std := ⟨_, rfl⟩
  obtain ⟨g1, g2, g3, _⟩ := h
  simp only at g1 g2 g3
  rw [← updT_self g1, ← updT_self g2, ← updT_self g3]
  refine (show SW Try.prog none (.seq (.region _ _ _) _) _ _ _ from ?_)
  refine SW.seqRun tok hO (by cbv <;> rfl) (by trivial) ?_
  refine OpsW.callP e21 (by cbv <;> rfl) ?_
  refine OpsW.run tok hO (by cbv <;> rfl) (by trivial) ?_
  refine OpsW.callP e44 (by cbv <;> rfl) ?_
  refine OpsW.run tok hO (by cbv <;> rfl) (by trivial) ?_
  refine SW.seqRun tok hO (by cbv <;> rfl) (by trivial) ?_
  refine OpsW.callP x21 (by cbv <;> rfl) ?_
  refine OpsW.run tok hO (by cbv <;> rfl) (by trivial) ?_
  refine OpsW.callP x44 (by cbv <;> rfl) ?_
  refine OpsW.run tok hO (by cbv <;> rfl) (by trivial) ?_
  refine SW.seqRun tok hO (by cbv <;> rfl) (by trivial) ?_
  refine OpsW.callP e21 (by cbv <;> rfl) ?_
  refine OpsW.run tok hO (by cbv <;> rfl) (by trivial) ?_
  refine OpsW.callP e29 (by cbv <;> rfl) ?_
  refine OpsW.run tok hO (by cbv <;> rfl) (by trivial) ?_
  refine SW.seqRun tok hO (by cbv <;> rfl) (by trivial) ?_
  refine OpsW.callP x21 (by cbv <;> rfl) ?_
  refine OpsW.run tok hO (by cbv <;> rfl) (by trivial) ?_
  refine OpsW.callP x29 (by cbv <;> rfl) ?_
  refine OpsW.run tok hO (by cbv <;> rfl) (by trivial) ?_
  refine SW.seq ?_
  refine SW.seqRun tok hO (by cbv <;> rfl) (by trivial) ?_
  refine OpsW.splitG (by cbv <;> rfl) (fun hw1 => by first | (cases hw1; done) | (subst hO; simp [std] at hw1; done) | (subst hO; simp [std] at hw1; omega)) (fun hw1 => ?_)
  refine OpsW.run tok hO (by cbv <;> rfl) (by trivial) ?_
  refine OpsW.splitG (by cbv <;> rfl) (fun hw2 => by first | (cases hw2; done) | (subst hO; simp [std] at hw2; done) | (subst hO; simp [std] at hw2; omega)) (fun hw2 => ?_)
  refine OpsW.run tok hO (by cbv <;> rfl) (by trivial) ?_
  refine OpsW.splitG (by cbv <;> rfl) (fun h => (lss_no hO h (Int.ofNat_le.2 hle)).elim) (fun hw3 => ?_)
  refine OpsW.run tok hO (by cbv <;> rfl) (by trivial) ?_
  refine OpsW.splitG (by cbv <;> rfl) (fun h => (gtr_no hO h (by show Int.ofNat NM ≤ O.bin .add .i64 (Int.ofNat NL) 1; rw [add1_ok hO (show NL < 4611686018427387904 by omega)]; have := Int.ofNat_le.2 hle2; show (NM : Int) ≤ _; omega)).elim) (fun hw4 => ?_)
  refine OpsW.run tok hO (by cbv <;> rfl) (by trivial) ?_
  refine OpsW.splitG (by cbv <;> rfl) (fun hw5 => by first | (cases hw5; done) | (subst hO; simp [std] at hw5; done) | (subst hO; simp [std] at hw5; omega)) (fun hw5 => ?_)
  refine OpsW.run tok hO (by cbv <;> rfl) (by trivial) ?_
  refine SW.cond (t := false) (by cbv <;> rfl) (SW.skip ?_)
  refine SW.seq ?_
  refine SW.seqRun tok hO (by cbv <;> rfl) (by trivial) ?_
  refine SW.condS (by cbv <;> rfl) (fun hw6 => ?_) (fun hw6 => by first | (cases hw6; done) | (subst hO; simp [std] at hw6; done) | (subst hO; simp [std] at hw6; omega))
  refine SW.seqRun tok hO (by cbv <;> rfl) (by trivial) ?_
  refine OpsW.splitG (by cbv <;> rfl) (fun hw7 => ?_) (fun hw7 => by first | (cases hw7; done) | (subst hO; simp [std] at hw7; done) | (subst hO; simp [std] at hw7; omega))
  refine OpsW.run tok hO (by cbv <;> rfl) (by trivial) ?_
  refine OpsW.callP haw (by cbv <;> rfl) ?_
  refine OpsW.run tok hO (by cbv <;> rfl) (by trivial) ?_
  exact SW.ret ⟨_, _, rfl, rfl, Eqv.of rfl⟩
set_option maxHeartbeats 8000000 in
theorem bm_two (f : FarmD) (len : Nat) (hC : Nat → Nat → AV) (cl : List AV) (k : Nat) (G H : Nat → Nat → Int) (XV : AV) (NL NM : Nat) (FL FM : Nat → Int) (hle : NL ≤ NM) (hle2 : NM ≤ NL + 1) (h1000 : NL < 1000) (e21 : Pure Try.prog 21 [farmV f] (farmV f)) (x21 : Pure Try.prog 21 [.agg (bmX f len hC)] XV) (e44 : Pure Try.prog 44 [farmV f] (.tup [intsV NL false FL, iV 0])) (x44 : Pure Try.prog 44 [XV] (.tup [intsV NM false FM, iV 0])) (e29 : Pure Try.prog 29 [farmV f] (.tup [.isl f.nb 6 false (fun i k => iV (G i k)), iV 0])) (x29 : Pure Try.prog 29 [XV] (.tup [.isl f.nb 6 false (fun i k => iV (H i k)), iV 0]))
    (htail : ∀ (gg : Nat → AV), AllP (fun p => gg p.1 = p.2) [(3, .ptr 0 0), (7, .ptr 2 0), (8, iV (Int.ofNat k)), (13, .isl f.nb 6 false (fun i k => iV (G i k))), (14, iV 0), (15, .isl f.nb 6 false (fun i k => iV (H i k)))] → SW Try.prog none (restC 11 (bodyF Try.f14)) (trueQ3 Try.f14) ⟨⟨187, gg⟩, []⟩ ⟨[(2, .cells none false (bmX f len hC)), (1, .cells none false cl), (0, .cells none false (farmL f))], 4⟩)
    (gg : Nat → AV) (h : AllP (fun p => gg p.1 = p.2) [(3, .ptr 0 0), (7, .ptr 2 0), (8, iV (Int.ofNat k))]) :
    SW Try.prog none (restC 5 (bodyF Try.f14)) (trueQ3 Try.f14) ⟨⟨187, gg⟩, []⟩ ⟨[(2, .cells none false (bmX f len hC)), (1, .cells none false cl), (0, .cells none false (farmL f))], 4⟩ := by
  obtain ⟨O, hO⟩ : ∃ O : Ar, O = std := ⟨_, rfl⟩
  obtain ⟨g1, g2, g3, _⟩ := h
  simp only at g1 g2 g3
  rw [← updT_self g1, ← updT_self g2, ← updT_self g3]
  refine (show SW Try.prog none (.seq (.region _ _ _) _) _ _ _ from ?_)
  refine SW.seqRun tok hO (by cbv <;> rfl) (by trivial) ?_
  refine OpsW.callP e21 (by cbv <;> rfl) ?_
  refine OpsW.run tok hO (by cbv <;> rfl) (by trivial) ?_
  refine OpsW.callP e44 (by cbv <;> rfl) ?_
  refine OpsW.run tok hO (by cbv <;> rfl) (by trivial) ?_
  refine SW.seqRun tok hO (by cbv <;> rfl) (by trivial) ?_
  refine OpsW.callP x21 (by cbv <;> rfl) ?_
  refine OpsW.run tok hO (by cbv <;> rfl) (by trivial) ?_
  refine OpsW.callP x44 (by cbv <;> rfl) ?_
  refine OpsW.run tok hO (by cbv <;> rfl) (by trivial) ?_
  refine SW.seqRun tok hO (by cbv <;> rfl) (by trivial) ?_
  refine OpsW.callP e21 (by cbv <;> rfl) ?_
  refine OpsW.run tok hO (by cbv <;> rfl) (by trivial) ?_
  refine OpsW.callP e29 (by cbv <;> rfl) ?_
  refine OpsW.run tok hO (by cbv <;> rfl) (by trivial) ?_
  refine SW.seqRun tok hO (by cbv <;> rfl) (by trivial) ?_
  refine OpsW.callP x21 (by cbv <;> rfl) ?_
  refine OpsW.run tok hO (by cbv <;> rfl) (by trivial) ?_
  refine OpsW.callP x29 (by cbv <;> rfl) ?_
  refine OpsW.run tok hO (by cbv <;> rfl) (by trivial) ?_
  refine SW.seq ?_
  refine SW.seqRun tok hO (by cbv <;> rfl) (by trivial) ?_
  refine OpsW.splitG (by cbv <;> rfl) (fun hw1 => by first | (cases hw1; done) | (subst hO; simp [std] at hw1; done) | (subst hO; simp [std] at hw1; omega)) (fun hw1 => ?_)
  refine OpsW.run tok hO (by cbv <;> rfl) (by trivial) ?_
  refine OpsW.splitG (by cbv <;> rfl) (fun hw2 => by first | (cases hw2; done) | (subst hO; simp [std] at hw2; done) | (subst hO; simp [std] at hw2; omega)) (fun hw2 => ?_)
  refine OpsW.run tok hO (by cbv <;> rfl) (by trivial) ?_
  refine OpsW.splitG (by cbv <;> rfl) (fun h => (lss_no hO h (Int.ofNat_le.2 hle)).elim) (fun hw3 => ?_)
  refine OpsW.run tok hO (by cbv <;> rfl) (by trivial) ?_
  refine OpsW.splitG (by cbv <;> rfl) (fun h => (gtr_no hO h (by show Int.ofNat NM ≤ O.bin .add .i64 (Int.ofNat NL) 1; rw [add1_ok hO (show NL < 4611686018427387904 by omega)]; have := Int.ofNat_le.2 hle2; show (NM : Int) ≤ _; omega)).elim) (fun hw4 => ?_)
  refine OpsW.run tok hO (by cbv <;> rfl) (by trivial) ?_
  refine OpsW.splitG (by cbv <;> rfl) (fun hw5 => by first | (cases hw5; done) | (subst hO; simp [std] at hw5; done) | (subst hO; simp [std] at hw5; omega)) (fun hw5 => ?_)
  refine OpsW.run tok hO (by cbv <;> rfl) (by trivial) ?_
  refine SW.cond (t := false) (by cbv <;> rfl) (SW.skip ?_)
  refine SW.seq ?_
  refine SW.seqRun tok hO (by cbv <;> rfl) (by trivial) ?_
  refine SW.condS (by cbv <;> rfl) (fun hw6 => by first | (cases hw6; done) | (subst hO; simp [std] at hw6; done) | (subst hO; simp [std] at hw6; omega)) (fun hw6 => SW.skip ?_)
  exact htail _ ⟨rfl, rfl, rfl, rfl, rfl, rfl, trivial⟩
set_option maxHeartbeats 8000000 in
theorem bm_fed3 (f : FarmD) (len : Nat) (hC : Nat → Nat → AV) (cl : List AV) (k : Nat) (G H : Nat → Nat → Int) (w : Int) (XV CV DV : AV) (q p : Int) (e21 : Pure Try.prog 21 [farmV f] (farmV f)) (x21 : Pure Try.prog 21 [.agg (bmX f len hC)] XV) (e30 : Pure Try.prog 30 [farmV f, iV (Int.ofNat k)] (.tup [iV 3, iV 0])) (x30 : Pure Try.prog 30 [XV, iV (Int.ofNat k)] (.tup [iV w, iV 0])) (e49 : Pure Try.prog 49 [farmV f] (.tup [CV, iV q])) (x49 : Pure Try.prog 49 [XV] (.tup [DV, iV p])) (e62 : Pure Try.prog 62 [.isl f.nb 6 false (fun i k => iV (H i k)), .isl f.nb 6 false (fun i k => iV (G i k))] (.lit (.bool true)))
    (htail : ∀ (gg : Nat → AV), AllP (fun p => gg p.1 = p.2) [(21, CV), (22, iV q), (23, DV), (24, iV p)] → SW Try.prog none (restC 16 (bodyF Try.f14)) (trueQ3 Try.f14) ⟨⟨187, gg⟩, []⟩ ⟨[(2, .cells none false (bmX f len hC)), (1, .cells none false cl), (0, .cells none false (farmL f))], 4⟩)
    (gg : Nat → AV) (h : AllP (fun p => gg p.1 = p.2) [(3, .ptr 0 0), (7, .ptr 2 0), (8, iV (Int.ofNat k)), (13, .isl f.nb 6 false (fun i k => iV (G i k))), (14, iV 0), (15, .isl f.nb 6 false (fun i k => iV (H i k)))]) :
    SW Try.prog none (restC 11 (bodyF Try.f14)) (trueQ3 Try.f14) ⟨⟨187, gg⟩, []⟩ ⟨[(2, .cells none false (bmX f len hC)), (1, .cells none false cl), (0, .cells none false (farmL f))], 4⟩ := by
  obtain ⟨O, hO⟩ : ∃ O : Ar, O = std := ⟨_, rfl⟩
  obtain ⟨g1, g2, g3, g4, g5, g6, _⟩ := h
  simp only at g1 g2 g3 g4 g5 g6
  rw [← updT_self g1, ← updT_self g2, ← updT_self g3, ← updT_self g4, ← updT_self g5, ← updT_self g6]
  refine (show SW Try.prog none (.seq (.region _ _ _) _) _ _ _ from ?_)
  refine SW.seqRun tok hO (by cbv <;> rfl) (by trivial) ?_
  refine OpsW.callP e21 (by cbv <;> rfl) ?_
  refine OpsW.run tok hO (by cbv <;> rfl) (by trivial) ?_
  refine OpsW.callP e30 (by cbv <;> rfl) ?_
  refine OpsW.run tok hO (by cbv <;> rfl) (by trivial) ?_
  refine SW.seqRun tok hO (by cbv <;> rfl) (by trivial) ?_
  refine OpsW.callP x21 (by cbv <;> rfl) ?_
  refine OpsW.run tok hO (by cbv <;> rfl) (by trivial) ?_
  refine OpsW.callP x30 (by cbv <;> rfl) ?_
  refine OpsW.run tok hO (by cbv <;> rfl) (by trivial) ?_
  refine SW.seqRun tok hO (by cbv <;> rfl) (by trivial) ?_
  refine OpsW.callP e21 (by cbv <;> rfl) ?_
  refine OpsW.run tok hO (by cbv <;> rfl) (by trivial) ?_
  refine OpsW.callP e49 (by cbv <;> rfl) ?_
  refine OpsW.run tok hO (by cbv <;> rfl) (by trivial) ?_
  refine SW.seqRun tok hO (by cbv <;> rfl) (by trivial) ?_
  refine OpsW.callP x21 (by cbv <;> rfl) ?_
  refine OpsW.run tok hO (by cbv <;> rfl) (by trivial) ?_
  refine OpsW.callP x49 (by cbv <;> rfl) ?_
  refine OpsW.run tok hO (by cbv <;> rfl) (by trivial) ?_
  refine SW.seq ?_
  refine SW.seqRun tok hO (by cbv <;> rfl) (by trivial) ?_
  refine OpsW.splitG (by cbv <;> rfl) (fun hw1 => by first | (cases hw1; done) | (subst hO; simp [std] at hw1; done) | (subst hO; simp [std] at hw1; omega)) (fun hw1 => ?_)
  refine OpsW.run tok hO (by cbv <;> rfl) (by trivial) ?_
  refine OpsW.callP e62 (by cbv <;> rfl) ?_
  refine OpsW.run tok hO (by cbv <;> rfl) (by trivial) ?_
  refine OpsW.splitG (by cbv <;> rfl) (fun hw2 => by first | (cases hw2; done) | (subst hO; simp [std] at hw2; done) | (subst hO; simp [std] at hw2; omega)) (fun hw2 => ?_)
  refine OpsW.run tok hO (by cbv <;> rfl) (by trivial) ?_
  refine OpsW.splitG (by cbv <;> rfl) (fun hw3 => by first | (cases hw3; done) | (subst hO; simp [std] at hw3; done) | (subst hO; simp [std] at hw3; omega)) (fun hw3 => ?_)
  refine OpsW.run tok hO (by cbv <;> rfl) (by trivial) ?_
  refine OpsW.splitG (by cbv <;> rfl) (fun hw4 => by first | (cases hw4; done) | (subst hO; simp [std] at hw4; done) | (subst hO; simp [std] at hw4; omega)) (fun hw4 => ?_)
  refine OpsW.run tok hO (by cbv <;> rfl) (by trivial) ?_
  refine SW.cond (t := false) (by cbv <;> rfl) (SW.skip ?_)
  exact htail _ ⟨rfl, rfl, rfl, rfl, trivial⟩
set_option maxHeartbeats 8000000 in
theorem bm_fedv (f : FarmD) (len : Nat) (hC : Nat → Nat → AV) (cl : List AV) (k : Nat) (G H : Nat → Nat → Int) (v : Int) (XV CV DV : AV) (q p : Int) (e21 : Pure Try.prog 21 [farmV f] (farmV f)) (x21 : Pure Try.prog 21 [.agg (bmX f len hC)] XV) (e30 : Pure Try.prog 30 [farmV f, iV (Int.ofNat k)] (.tup [iV v, iV 0])) (x30 : Pure Try.prog 30 [XV, iV (Int.ofNat k)] (.tup [iV v, iV 0])) (e49 : Pure Try.prog 49 [farmV f] (.tup [CV, iV q])) (x49 : Pure Try.prog 49 [XV] (.tup [DV, iV p])) (e62 : Pure Try.prog 62 [.isl f.nb 6 false (fun i k => iV (H i k)), .isl f.nb 6 false (fun i k => iV (G i k))] (.lit (.bool true)))
    (htail : ∀ (gg : Nat → AV), AllP (fun p => gg p.1 = p.2) [(21, CV), (22, iV q), (23, DV), (24, iV p)] → SW Try.prog none (restC 16 (bodyF Try.f14)) (trueQ3 Try.f14) ⟨⟨187, gg⟩, []⟩ ⟨[(2, .cells none false (bmX f len hC)), (1, .cells none false cl), (0, .cells none false (farmL f))], 4⟩)
    (gg : Nat → AV) (h : AllP (fun p => gg p.1 = p.2) [(3, .ptr 0 0), (7, .ptr 2 0), (8, iV (Int.ofNat k)), (13, .isl f.nb 6 false (fun i k => iV (G i k))), (14, iV 0), (15, .isl f.nb 6 false (fun i k => iV (H i k)))]) :
    SW Try.prog none (restC 11 (bodyF Try.f14)) (trueQ3 Try.f14) ⟨⟨187, gg⟩, []⟩ ⟨[(2, .cells none false (bmX f len hC)), (1, .cells none false cl), (0, .cells none false (farmL f))], 4⟩ := by
  obtain ⟨O, hO⟩ : ∃ O : Ar, O = std := ⟨_, rfl⟩
  obtain ⟨g1, g2, g3, g4, g5, g6, _⟩ := h
  simp only at g1 g2 g3 g4 g5 g6
  rw [← updT_self g1, ← updT_self g2, ← updT_self g3, ← updT_self g4, ← updT_self g5, ← updT_self g6]
  refine (show SW Try.prog none (.seq (.region _ _ _) _) _ _ _ from ?_)
  refine SW.seqRun tok hO (by cbv <;> rfl) (by trivial) ?_
  refine OpsW.callP e21 (by cbv <;> rfl) ?_
  refine OpsW.run tok hO (by cbv <;> rfl) (by trivial) ?_
  refine OpsW.callP e30 (by cbv <;> rfl) ?_
  refine OpsW.run tok hO (by cbv <;> rfl) (by trivial) ?_
  refine SW.seqRun tok hO (by cbv <;> rfl) (by trivial) ?_
  refine OpsW.callP x21 (by cbv <;> rfl) ?_
  refine OpsW.run tok hO (by cbv <;> rfl) (by trivial) ?_
  refine OpsW.callP x30 (by cbv <;> rfl) ?_
  refine OpsW.run tok hO (by cbv <;> rfl) (by trivial) ?_
  refine SW.seqRun tok hO (by cbv <;> rfl) (by trivial) ?_
  refine OpsW.callP e21 (by cbv <;> rfl) ?_
  refine OpsW.run tok hO (by cbv <;> rfl) (by trivial) ?_
  refine OpsW.callP e49 (by cbv <;> rfl) ?_
  refine OpsW.run tok hO (by cbv <;> rfl) (by trivial) ?_
  refine SW.seqRun tok hO (by cbv <;> rfl) (by trivial) ?_
  refine OpsW.callP x21 (by cbv <;> rfl) ?_
  refine OpsW.run tok hO (by cbv <;> rfl) (by trivial) ?_
  refine OpsW.callP x49 (by cbv <;> rfl) ?_
  refine OpsW.run tok hO (by cbv <;> rfl) (by trivial) ?_
  refine SW.seq ?_
  refine SW.seqRun tok hO (by cbv <;> rfl) (by trivial) ?_
  refine OpsW.splitG (by cbv <;> rfl) (fun hw1 => by first | (cases hw1; done) | (subst hO; simp [std] at hw1; done) | (subst hO; simp [std] at hw1; omega)) (fun hw1 => ?_)
  refine OpsW.run tok hO (by cbv <;> rfl) (by trivial) ?_
  refine OpsW.callP e62 (by cbv <;> rfl) ?_
  refine OpsW.run tok hO (by cbv <;> rfl) (by trivial) ?_
  refine OpsW.splitG (by cbv <;> rfl) (fun hw2 => by first | (cases hw2; done) | (subst hO; simp [std] at hw2; done) | (subst hO; simp [std] at hw2; omega)) (fun hw2 => ?_)
  refine OpsW.run tok hO (by cbv <;> rfl) (by trivial) ?_
  refine OpsW.splitG (by cbv <;> rfl) (fun hw3 => by first | (cases hw3; done) | (subst hO; simp [std] at hw3; done) | (subst hO; simp [std] at hw3; omega)) (fun hw3 => ?_)
  refine OpsW.run tok hO (by cbv <;> rfl) (by trivial) ?_
  refine OpsW.splitG (by cbv <;> rfl) (fun hw4 => ?_) (fun hw4 => ?_)
  · refine OpsW.run tok hO (by cbv <;> rfl) (by trivial) ?_
    refine SW.condS (by cbv <;> rfl) (fun hw5 => by first | (cases hw5; done) | (subst hO; simp [std] at hw5; done) | (subst hO; simp [std] at hw5; omega)) (fun hw5 => SW.skip ?_)
    exact htail _ ⟨rfl, rfl, rfl, rfl, trivial⟩
  · refine OpsW.run tok hO (by cbv <;> rfl) (by trivial) ?_
    refine SW.cond (t := false) (by cbv <;> rfl) (SW.skip ?_)
    exact htail _ ⟨rfl, rfl, rfl, rfl, trivial⟩
set_option maxHeartbeats 8000000 in
theorem bm_q10 (haw : Pure Try.prog 19 [] (.lit (.bool true))) (f : FarmD) (len : Nat) (hC : Nat → Nat → AV) (cl : List AV) (CV DV : AV)
    (gg : Nat → AV) (h : AllP (fun p => gg p.1 = p.2) [(21, CV), (22, iV 10), (23, DV), (24, iV 10)]) :
    SW Try.prog none (restC 16 (bodyF Try.f14)) (trueQ3 Try.f14) ⟨⟨187, gg⟩, []⟩ ⟨[(2, .cells none false (bmX f len hC)), (1, .cells none false cl), (0, .cells none false (farmL f))], 4⟩ := by
  obtain ⟨O, hO⟩ : ∃ O : Ar, O = std := ⟨_, rfl⟩
  obtain ⟨g1, g2, g3, g4, _⟩ := h
  simp only at g1 g2 g3 g4
  rw [← updT_self g1, ← updT_self g2, ← updT_self g3, ← updT_self g4]
  refine (show SW Try.prog none (.seq (.seq (.region _ _ _) _) _) _ _ _ from ?_)
  refine SW.seq ?_
  refine SW.seqRun tok hO (by cbv <;> rfl) (by trivial) ?_
  refine SW.condS (by cbv <;> rfl) (fun hw1 => ?_) (fun hw1 => by first | (cases hw1; done) | (subst hO; simp [std] at hw1; done) | (subst hO; simp [std] at hw1; omega))
  refine SW.seqRun tok hO (by cbv <;> rfl) (by trivial) ?_
  refine OpsW.splitG (by cbv <;> rfl) (fun hw2 => ?_) (fun hw2 => by first | (cases hw2; done) | (subst hO; simp [std] at hw2; done) | (subst hO; simp [std] at hw2; omega))
  refine OpsW.run tok hO (by cbv <;> rfl) (by trivial) ?_
  refine OpsW.splitG (by cbv <;> rfl) (fun hw3 => by first | (cases hw3; done) | (subst hO; simp [std] at hw3; done) | (subst hO; simp [std] at hw3; omega)) (fun hw3 => ?_)
  refine OpsW.run tok hO (by cbv <;> rfl) (by trivial) ?_
  refine OpsW.splitG (by cbv <;> rfl) (fun hw4 => ?_) (fun hw4 => by first | (cases hw4; done) | (subst hO; simp [std] at hw4; done) | (subst hO; simp [std] at hw4; omega))
  refine OpsW.run tok hO (by cbv <;> rfl) (by trivial) ?_
  refine OpsW.callP haw (by cbv <;> rfl) ?_
  refine OpsW.run tok hO (by cbv <;> rfl) (by trivial) ?_
  exact SW.ret ⟨_, _, rfl, rfl, Eqv.of rfl⟩
set_option maxHeartbeats 8000000 in
theorem bm_q0 (haw : Pure Try.prog 19 [] (.lit (.bool true))) (f : FarmD) (len : Nat) (hC : Nat → Nat → AV) (cl : List AV) (CV DV : AV)
    (gg : Nat → AV) (h : AllP (fun p => gg p.1 = p.2) [(21, CV), (22, iV 10), (23, DV), (24, iV 0)]) :
    SW Try.prog none (restC 16 (bodyF Try.f14)) (trueQ3 Try.f14) ⟨⟨187, gg⟩, []⟩ ⟨[(2, .cells none false (bmX f len hC)), (1, .cells none false cl), (0, .cells none false (farmL f))], 4⟩ := by
  obtain ⟨O, hO⟩ : ∃ O : Ar, O = std := ⟨_, rfl⟩
  obtain ⟨g1, g2, g3, g4, _⟩ := h
  simp only at g1 g2 g3 g4
  rw [← updT_self g1, ← updT_self g2, ← updT_self g3, ← updT_self g4]
  refine (show SW Try.prog none (.seq (.seq (.region _ _ _) _) _) _ _ _ from ?_)
  refine SW.seq ?_
  refine SW.seqRun tok hO (by cbv <;> rfl) (by trivial) ?_
  refine SW.condS (by cbv <;> rfl) (fun hw1 => ?_) (fun hw1 => by first | (cases hw1; done) | (subst hO; simp [std] at hw1; done) | (subst hO; simp [std] at hw1; omega))
  refine SW.seqRun tok hO (by cbv <;> rfl) (by trivial) ?_
  refine OpsW.splitG (by cbv <;> rfl) (fun hw2 => ?_) (fun hw2 => by first | (cases hw2; done) | (subst hO; simp [std] at hw2; done) | (subst hO; simp [std] at hw2; omega))
  refine OpsW.run tok hO (by cbv <;> rfl) (by trivial) ?_
  refine OpsW.splitG (by cbv <;> rfl) (fun hw3 => ?_) (fun hw3 => by first | (cases hw3; done) | (subst hO; simp [std] at hw3; done) | (subst hO; simp [std] at hw3; omega))
  refine OpsW.run tok hO (by cbv <;> rfl) (by trivial) ?_
  refine OpsW.callP haw (by cbv <;> rfl) ?_
  refine OpsW.run tok hO (by cbv <;> rfl) (by trivial) ?_
  exact SW.ret ⟨_, _, rfl, rfl, Eqv.of rfl⟩
set_option maxHeartbeats 8000000 in
theorem bm_qq (haw : Pure Try.prog 19 [] (.lit (.bool true))) (f : FarmD) (len : Nat) (hC : Nat → Nat → AV) (cl : List AV) (NC ND : Nat) (FC FD : Nat → Int) (hle : ND ≤ NC)
    (gg : Nat → AV) (h : AllP (fun p => gg p.1 = p.2) [(21, intsV NC false FC), (22, iV 0), (23, intsV ND false FD), (24, iV 0)]) :
    SW Try.prog none (restC 16 (bodyF Try.f14)) (trueQ3 Try.f14) ⟨⟨187, gg⟩, []⟩ ⟨[(2, .cells none false (bmX f len hC)), (1, .cells none false cl), (0, .cells none false (farmL f))], 4⟩ := by
  obtain ⟨O, hO⟩ : ∃ O : Ar, O = std := ⟨_, rfl⟩
  obtain ⟨g1, g2, g3, g4, _⟩ := h
  simp only at g1 g2 g3 g4
  rw [← updT_self g1, ← updT_self g2, ← updT_self g3, ← updT_self g4]
  refine (show SW Try.prog none (.seq (.seq (.region _ _ _) _) _) _ _ _ from ?_)
  refine SW.seq ?_
  refine SW.seqRun tok hO (by cbv <;> rfl) (by trivial) ?_
  refine SW.condS (by cbv <;> rfl) (fun hw1 => by first | (cases hw1; done) | (subst hO; simp [std] at hw1; done) | (subst hO; simp [std] at hw1; omega)) (fun hw1 => SW.skip ?_)
  refine SW.seqRun tok hO (by cbv <;> rfl) (by trivial) ?_
  refine OpsW.splitG (by cbv <;> rfl) (fun hw2 => ?_) (fun hw2 => by first | (cases hw2; done) | (subst hO; simp [std] at hw2; done) | (subst hO; simp [std] at hw2; omega))
  refine OpsW.run tok hO (by cbv <;> rfl) (by trivial) ?_
  refine OpsW.splitG (by cbv <;> rfl) (fun hw3 => ?_) (fun h => by exfalso; subst hO; have h2 : decide ((ND : Int) ≤ (NC : Int)) = false := h; have := of_decide_eq_false h2; omega)
  refine OpsW.run tok hO (by cbv <;> rfl) (by trivial) ?_
  refine OpsW.callP haw (by cbv <;> rfl) ?_
  refine OpsW.run tok hO (by cbv <;> rfl) (by trivial) ?_
  exact SW.ret ⟨_, _, rfl, rfl, Eqv.of rfl⟩
end Go.Fz
set_option linter.unusedVariables false
set_option linter.unusedSimpArgs false
namespace Go.Fz
open Go.Proofs
set_option maxRecDepth 100000
theorem inside106 {a b c d : Int} (h1 : c ≤ a) (h2 : b ≤ d) : Pure Try.prog 106 [rangeV a b, rangeV c d] (.lit (.bool true)) := by
  obtain ⟨O, hO⟩ : ∃ O : Ar, O = std := ⟨_, rfl⟩
  refine pure_of_body tok 3 Try.func106 en106 rfl ⟨rangeV_below, rangeV_below, trivial⟩ Below.lit ?_
  refine SW.seqRun tok hO (by cbv <;> rfl) (by trivial) ?_
  refine SW.seqRun tok hO (by cbv <;> rfl) (by trivial) ?_
  refine OpsW.splitG (by cbv <;> rfl) (fun h => ?_) (fun h => by exfalso; subst hO; simp [std] at h; omega)
  refine OpsW.run tok hO (by cbv <;> rfl) (by trivial) ?_
  refine SW.ret ⟨_, _, rfl, rfl, ?_⟩
  have e : O.cmp .leq b d = true := by subst hO; simpa [std] using h2
  refine (show Eqv (.sb (O.cmp .leq b d)) _ from ?_)
  rw [e]
  exact Eqv.litS true
set_option maxHeartbeats 16000000 in
theorem narrower62 (n : Nat) (hn : n < 1000) (G H : Nat → Nat → Int) (hle : ∀ i, i < n → H i 0 ≤ G i 0 ∧ G i 1 ≤ H i 1 ∧ H i 2 ≤ G i 2 ∧ G i 3 ≤ H i 3 ∧ H i 4 ≤ G i 4 ∧ G i 5 ≤ H i 5) : Pure Try.prog 62 [.isl n 6 false (fun i k => iV (G i k)), .isl n 6 false (fun i k => iV (H i k))] (.lit (.bool true)) := by
  obtain ⟨O, hO⟩ : ∃ O : Ar, O = std := ⟨_, rfl⟩
  have hB : Below 0 (.isl n 6 false (fun i k => iV (G i k))) := Below.isl fun i k _ _ => Below.lit
  have hB2 : Below 0 (.isl n 6 false (fun i k => iV (H i k))) := Below.isl fun i k _ _ => Below.lit
  refine pure_of_body tok 3 Try.func62 en62 rfl ⟨hB, hB2, trivial⟩ Below.lit ?_
  refine SW.seqRun tok hO (by cbv <;> rfl) (by trivial) ?_
  refine SW.seq ?_
  refine SW.seqRun tok hO (by cbv <;> rfl) (by trivial) ?_
  refine SW.condS (by cbv <;> rfl) (fun h => by exfalso; subst hO; simp [std] at h) (fun h => SW.skip ?_)
  refine SW.seq ?_
  refine SW.seqRun tok hO (by cbv <;> rfl) (by trivial) ?_
  refine (SW.block (SW.loopF (fun i : Nat => ⟨⟨57, getT [(0, .isl n 6 false (fun i k => iV (G i k))), (1, .isl n 6 false (fun i k => iV (H i k))), (5, iV (Int.ofNat i))]⟩, []⟩) (fun _ => ⟨[], 0⟩) (fun i => n - i) (fun i => i ≤ n) 0
    (fun _ => rfl) (Nat.zero_le _) (Weak.by rfl rfl (by simp) (Nat.le_refl _) (Nat.le_refl _) ⟨⟨rfl, .inl rfl⟩, ⟨rfl, .inl rfl⟩, ⟨rfl, .inl rfl⟩, trivial⟩ trivial) fun i hi => ?_))
  refine SW.seq ?_
  refine SW.seqRun tok hO (by cbv <;> rfl) (by trivial) ?_
  refine SW.condS (by cbv <;> rfl) (fun h => SW.skip ?_) (fun h => SW.exit ?_)
  · have hlt : i < n := by
      have : Int.ofNat i < Int.ofNat n := by subst hO; simpa [std] using h
      exact Int.ofNat_lt.1 this
    have hin : 0 ≤ Int.ofNat i ∧ Int.ofNat i < Int.ofNat n := ⟨Int.natCast_nonneg i, Int.ofNat_lt.2 hlt⟩
    have hni : O.nat (Int.ofNat i) = i := by subst hO; rfl
    obtain ⟨q0, q1, q2, q3, q4, q5⟩ := hle (O.nat (Int.ofNat i)) (by rw [hni]; exact hlt)
    have e0 := inside106 q0 q1
    have e1 := inside106 q2 q3
    have e2 := inside106 q4 q5
    refine SW.seq (SW.block ?_)
    refine SW.seqRunDN tok mixed hO 4 (by kernel_rfl) (by cbv <;> rfl) (by repeat (first | exact trivial | exact hin | exact hin.1 | exact hin.2 | refine ⟨?_, ?_⟩)) ?_
    refine AnyE.runN tok hO 4 (by kernel_rfl) (by cbv <;> rfl) (by repeat (first | exact trivial | exact hin | exact hin.1 | exact hin.2 | refine ⟨?_, ?_⟩)) ?_
    refine AnyE.run tok hO (by kernel_rfl) (by cbv <;> rfl) (by repeat (first | exact trivial | exact hin | exact hin.1 | exact hin.2 | refine ⟨?_, ?_⟩)) ?_
    refine AnyE.callP e0 (by cbv <;> rfl) (by cbv <;> rfl) ?_
    refine AnyE.runN tok hO 4 (by kernel_rfl) (by cbv <;> rfl) (by repeat (first | exact trivial | exact hin | exact hin.1 | exact hin.2 | refine ⟨?_, ?_⟩)) ?_
    refine AnyE.runN tok hO 4 (by kernel_rfl) (by cbv <;> rfl) (by repeat (first | exact trivial | exact hin | exact hin.1 | exact hin.2 | refine ⟨?_, ?_⟩)) ?_
    refine AnyE.run tok hO (by kernel_rfl) (by cbv <;> rfl) (by repeat (first | exact trivial | exact hin | exact hin.1 | exact hin.2 | refine ⟨?_, ?_⟩)) ?_
    refine AnyE.callP e1 (by cbv <;> rfl) (by cbv <;> rfl) ?_
    refine AnyE.runN tok hO 4 (by kernel_rfl) (by cbv <;> rfl) (by repeat (first | exact trivial | exact hin | exact hin.1 | exact hin.2 | refine ⟨?_, ?_⟩)) ?_
    refine AnyE.runN tok hO 4 (by kernel_rfl) (by cbv <;> rfl) (by repeat (first | exact trivial | exact hin | exact hin.1 | exact hin.2 | refine ⟨?_, ?_⟩)) ?_
    refine AnyE.runN tok hO 4 (by kernel_rfl) (by cbv <;> rfl) (by repeat (first | exact trivial | exact hin | exact hin.1 | exact hin.2 | refine ⟨?_, ?_⟩)) ?_
    refine AnyE.run tok hO (by kernel_rfl) (by cbv <;> rfl) (by repeat (first | exact trivial | exact hin | exact hin.1 | exact hin.2 | refine ⟨?_, ?_⟩)) ?_
    refine AnyE.callP e2 (by cbv <;> rfl) (by cbv <;> rfl) ?_
    refine AnyE.run tok hO (by kernel_rfl) (by cbv <;> rfl) (by repeat (first | exact trivial | exact hin | exact hin.1 | exact hin.2 | refine ⟨?_, ?_⟩)) ?_
    refine SW.cond (t := false) (by cbv <;> rfl) (SW.skip ?_)
    refine SW.run tok hO (by cbv <;> rfl) (by trivial) ?_
    exact ⟨i + 1, by omega, hlt, Weak.by rfl rfl (by simp) (Nat.le_refl _) (by first | exact Nat.le_refl _ | exact Nat.le_succ _ | exact Nat.le_of_ble_eq_true rfl) ⟨⟨rfl, .inr (Below.up (m := 0) hB)⟩, ⟨rfl, .inr (Below.up (m := 0) hB2)⟩, ⟨inc_ok hO (by omega), .inr Below.lit⟩, trivial⟩ trivial⟩
  · refine SW.seqRun tok hO (by cbv <;> rfl) (by trivial) ?_
    exact SW.ret ⟨_, _, rfl, rfl, Eqv.of rfl⟩
end Go.Fz
set_option linter.unusedVariables false
namespace Go.Fz
open Go.Proofs
set_option maxRecDepth 100000
end Go.Fz
set_option linter.unusedVariables false
set_option linter.unusedSimpArgs false
namespace Go.Fz
open Go.Proofs
set_option maxRecDepth 100000
end Go.Fz
set_option linter.unusedVariables false
set_option linter.unusedSimpArgs false
namespace Go.Fz
open Go.Proofs
set_option maxRecDepth 100000
end Go.Fz
set_option linter.unusedVariables false
set_option linter.unusedSimpArgs false
namespace Go.Fz
open Go.Proofs
set_option maxRecDepth 100000
end Go.Fz
set_option linter.unusedVariables false
set_option linter.unusedSimpArgs false
namespace Go.Fz
open Go.Proofs
set_option maxRecDepth 100000
end Go.Fz
set_option linter.unusedVariables false
namespace Go.Fz
open Go.Proofs
set_option maxRecDepth 100000
end Go.Fz
set_option linter.unusedVariables false
namespace Go.Fz
open Go.Proofs
set_option maxRecDepth 100000
end Go.Fz
set_option linter.unusedVariables false
namespace Go.Fz
open Go.Proofs
set_option maxRecDepth 100000
end Go.Fz
set_option linter.unusedVariables false
set_option linter.unusedSimpArgs false
namespace Go.Fz
open Go.Proofs
set_option maxRecDepth 100000
end Go.Fz
set_option linter.unusedVariables false
namespace Go.Fz
open Go.Proofs
set_option maxRecDepth 100000
section
variable (f : FarmD) (k : Nat) (lo hi : Int)
end
end Go.Fz
set_option linter.unusedVariables false
set_option linter.unusedSimpArgs false
namespace Go.Fz
open Go.Proofs
set_option maxRecDepth 100000
end Go.Fz
set_option linter.unusedVariables false
namespace Go.Fz
open Go.Proofs
set_option maxRecDepth 100000
end Go.Fz
set_option linter.unusedVariables false
namespace Go.Fz
open Go.Proofs
set_option maxRecDepth 100000
end Go.Fz
set_option linter.unusedVariables false
namespace Go.Fz
open Go.Proofs
set_option maxRecDepth 100000
theorem FarmD.bnC_at (f : FarmD) (b k : Nat) : f.bnC b k = iV (f.bnI b k) := by rw [f.bnC_eq]
end Go.Fz
set_option linter.unusedVariables false
namespace Go.Fz
open Go.Proofs
set_option maxRecDepth 100000
def bmD (j : Nat) : Bool := Nat.beq j 3
set_option maxHeartbeats 64000000 in
theorem bm_front (f : FarmD) (b : Int) (ov : Bool) (lo hi x0 : Int) (hnl : f.nl < 1048576)
    (htail : ∀ (hC : Nat → Nat → AV), Eqv (.isl (f.nl + 1) 4 false hC) (looksV (f.plusL b ov lo hi)) → ∀ (gg : Nat → AV), AllP (fun p => gg p.1 = p.2) [(2, .lit (.int .u8 x0)), (3, .ptr 0 0), (7, .ptr 2 0)] →
      SW Try.prog none (restC 3 (bodyF Try.f14)) (trueQ3 Try.f14) ⟨⟨187, gg⟩, []⟩ ⟨[(2, .cells none false (bmX f (f.nl + 1) hC)), (1, .cells none false [iV b, .sb ov, iV lo, iV hi]), (0, .cells none false (farmL f))], 4⟩) :
    Pure Try.prog 14 [farmV f, .agg [iV b, .sb ov, iV lo, iV hi], .lit (.int .u8 x0)] (.lit (.bool true)) := by
  obtain ⟨O, hO⟩ : ∃ O : Ar, O = std := ⟨_, rfl⟩
  refine pure_of_body tok 3 Try.func14 en14 rfl ⟨farmV_below f, Below.agg (AllB.ok ⟨Below.lit, Below.sb, Below.lit, Below.lit, trivial⟩), Below.lit, trivial⟩ Below.lit ?_
  refine SW.seqRun tok hO (by cbv <;> rfl) (by trivial) ?_
  refine SW.seqRun tok hO (by cbv <;> rfl) (by trivial) ?_
  refine SW.seq ((show SW Try.prog none (nthC 2 (bodyF Try.f14)) (midK 187 (cmL x0) (cmS f [iV b, .sb ov, iV lo, iV hi] [(3, .cells none false (flatG 4 (lookC (f.plusL b ov lo hi)) (f.nl + 1)))] (.sl 3 0 (f.nl + 1) 4 false) 4)) _ _ from ?_).mono fun e fm st hm => ?_)
  · rcases Nat.eq_zero_or_pos f.nl with h0 | h0
    · have hG1 := (plus_flat f b ov lo hi).symm
      have hf0 : flatG 4 (lookC f) f.nl = [] := by rw [h0]; rfl
      rw [hf0, List.nil_append] at hG1
      rw [hG1, show f.nl + 1 = 1 by omega]
      exact bmore_s2z f b ov lo hi x0 h0 _ ⟨rfl, rfl, rfl, rfl, trivial⟩
    · exact bmore_s2 f b ov lo hi x0 h0 hnl _ ⟨rfl, rfl, rfl, rfl, trivial⟩
  obtain ⟨rfl, g, rfl, ⟨g2, g3, g4, g7, _⟩, rfl⟩ := hm
  simp only at g2 g3 g4 g7
  obtain ⟨GX, hGX⟩ : ∃ G, G = flatG 4 (lookC (f.plusL b ov lo hi)) (f.nl + 1) := ⟨_, rfl⟩
  rw [← hGX]
  refine SW.freezeZ bmD 3 (by rfl) ?_
  have hlX : (f.nl + 1) * 4 ≤ GX.length := by rw [hGX, flatG_length]; omega
  obtain ⟨H, hH⟩ : ∃ H, H = (cmS f [iV b, .sb ov, iV lo, iV hi] [(3, .cells none false GX)] (.sl 3 0 (f.nl + 1) 4 false) 4).h := ⟨_, rfl⟩
  have hH3 : H.get 3 = some (.cells none false GX) := by rw [hH]; rfl
  obtain ⟨XC, hX, hXe, hXf⟩ : ∃ X, frz H bmD 3 (.sl 3 0 (f.nl + 1) 4 false) = X ∧ Eqv X (looksV (f.plusL b ov lo hi)) ∧ ∃ h, X = .isl (f.nl + 1) 4 false h :=
    ⟨_, rfl, by
      rw [frz_slE (fm := none) (G := GX) rfl hH3 hlX, hGX]
      exact Eqv.isl rfl fun i j hi hj => Eqv.of (frz_flat hi hj (by unfold lookC; split <;> rfl)), _, frz_slE (fm := none) (G := GX) rfl hH3 hlX⟩
  show SW _ _ _ _ ⟨⟨187, fun i => frz (cmS f [iV b, .sb ov, iV lo, iV hi] [(3, .cells none false GX)] (.sl 3 0 (f.nl + 1) 4 false) 4).h bmD 3 (g i)⟩, []⟩ (cmS f [iV b, .sb ov, iV lo, iV hi] [] (frz (cmS f [iV b, .sb ov, iV lo, iV hi] [(3, .cells none false GX)] (.sl 3 0 (f.nl + 1) 4 false) 4).h bmD 3 (.sl 3 0 (f.nl + 1) 4 false)) 4)
  rw [← hH, hX]
  obtain ⟨hC, rfl⟩ := hXf
  clear hX
  have f2 : frz H bmD 3 (g 2) = .lit (.int .u8 x0) := by rw [g2]; rfl
  have f3 : frz H bmD 3 (g 3) = .ptr 0 0 := by rw [g3]; rfl
  have f7 : frz H bmD 3 (g 7) = .ptr 2 0 := by rw [g7]; rfl
  exact htail hC hXe _ ⟨f2, f3, f7, trivial⟩
theorem zV_nI (l : List Nat) : zV (nI l) = intsV l.length false (lI l) := nI_val l
theorem bedMore_ok (haw : Pure Try.prog 19 [] (.lit (.bool true))) (f : FarmD) (b : Int) (ov : Bool) (lo hi x0 : Int) (h00 : 0 ≤ x0) (h01 : x0 ≤ 255) (hnl : f.nl < 1048576) : Pure Try.prog 14 [farmV f, .agg [iV b, .sb ov, iV lo, iV hi], .lit (.int .u8 x0)] (.lit (.bool true)) := by
  refine bm_front f b ov lo hi x0 hnl fun hC hCe gg h => ?_
  have hV : Eqvs [.agg (bmX f (f.nl + 1) hC)] [farmV (f.plusL b ov lo hi)] := .cons (Eqv.agg (.cons (Eqv.refl _) (.cons (Eqv.refl _) (.cons hCe .nil)))) .nil
  cases hR : f.readyB with
  | false => exact bm_not1 haw f _ hC _ x0 (ready_sb f hR) gg h
  | true =>
    have e52 := ready_sb f hR
    cases hRx : (f.plusL b ov lo hi).readyB with
    | false => exact bm_not2 haw f _ hC _ x0 e52 (Pure.eqv (ready_sb _ hRx) hV) gg h
    | true =>
      have x52 := Pure.eqv (ready_sb _ hRx) hV
      have hc := check_of_ready hR
      have hcx := check_of_ready hRx
      have gd := good_of_check hc
      have gx := good_of_check hcx
      have hnb := gd.nb
      have hns := gd.ns
      have h5 : f.nl + 1 ≤ 5 := gx.nl
      obtain ⟨k, hk, hm⟩ := modN gd.pos (by omega) h00 (by omega)
      have hnz : Int.ofNat f.nb ≠ 0 := by
        have := gd.pos
        show (f.nb : Int) ≠ 0
        omega
      refine bm_yes f _ hC _ x0 k hnz hm e52 x52 (fun gg h => ?_) gg h
      have e21 := farm_ok f (by omega) (by omega) (by omega)
      have x21 := Pure.eqv (farm_ok (f.plusL b ov lo hi) (show f.nb ≤ 10 by omega) (show f.ns ≤ 6 by omega) (show f.nl + 1 ≤ 7 by omega)) hV
      have e44 := leave44 (good_small gd)
      have x44 := leave44 (good_small gx)
      obtain ⟨l, hl, hlv⟩ := lve_first hc
      obtain ⟨m, hmm, hmv⟩ := lve_first hcx
      rw [hc, hlv, zV_nI] at e44
      rw [hcx, hmv, zV_nI] at x44
      obtain ⟨hle, hle2⟩ := plus_lens h5 hl hmm
      have hl5 := risL_len (find_in hl).1
      have e29 := bounds29 (good_small gd)
      have x29 := bounds29 (good_small gx)
      obtain ⟨k1, k2⟩ := bndE_of hc
      obtain ⟨y1, y2⟩ := bndE_of hcx
      by_cases htx : (f.plusL b ov lo hi).trs = []
      · rw [y2 htx, show (f.plusL b ov lo hi).bndL = nl3 by unfold FarmD.bndL; rw [y2 htx]; rfl] at x29
        by_cases ht : f.trs = []
        · rw [k2 ht, show f.bndL = nl3 by unfold FarmD.bndL; rw [k2 ht]; rfl] at e29
          exact bm_none11 haw f _ hC _ k _ _ _ _ _ hle hle2 (by omega) e21 x21 e44 x44 e29 x29 gg h
        · rw [k1 ht] at e29
          exact bm_none0 haw f _ hC _ k _ _ _ _ _ _ hle hle2 (by omega) e21 x21 e44 x44 e29 x29 gg h
      · have ht := plus_ne htx
        rw [y1 htx, show (f.plusL b ov lo hi).bndL = .isl f.nb 6 false (f.plusL b ov lo hi).bnC by unfold FarmD.bndL; rw [y1 htx]; rfl] at x29
        rw [k1 ht, show f.bndL = .isl f.nb 6 false f.bnC by unfold FarmD.bndL; rw [k1 ht]; rfl] at e29
        have e29 : Pure Try.prog 29 [farmV f] (.tup [.isl f.nb 6 false (fun i k => iV (f.bnI i k)), iV 0]) := e29.res (Eqv.tup (.cons (Eqv.isl rfl fun i k _ _ => Eqv.of (f.bnC_at i k)) (.cons (Eqv.refl _) .nil)))
        have x29 : Pure Try.prog 29 [farmV (f.plusL b ov lo hi)] (.tup [.isl f.nb 6 false (fun i k => iV ((f.plusL b ov lo hi).bnI i k)), iV 0]) := x29.res (Eqv.tup (.cons (Eqv.isl rfl fun i k _ _ => Eqv.of ((f.plusL b ov lo hi).bnC_at i k)) (.cons (Eqv.refl _) .nil)))
        refine bm_two f _ hC _ k f.bnI (f.plusL b ov lo hi).bnI _ _ _ _ _ hle hle2 (by omega) e21 x21 e44 x44 e29 x29 (fun gg h => ?_) gg h
        have e62 := narrower62 f.nb (by omega) (f.plusL b ov lo hi).bnI f.bnI fun i hib => by
          obtain ⟨a1, a2⟩ := plus_bounds (b := b) (ov := ov) (lo := lo) (hi := hi) htx i 0
          obtain ⟨a3, a4⟩ := plus_bounds (b := b) (ov := ov) (lo := lo) (hi := hi) htx i 1
          obtain ⟨a5, a6⟩ := plus_bounds (b := b) (ov := ov) (lo := lo) (hi := hi) htx i 2
          exact ⟨a1, a2, a3, a4, a5, a6⟩
        have hhas : f.hasB (k : Int) = true := by
          simp only [FarmD.hasB, Bool.and_eq_true, decide_eq_true_eq]; omega
        have hhasx : (f.plusL b ov lo hi).hasB (k : Int) = true := hhas
        have e30 := fed_ok (good_small gd) (k : Int)
        have x30 := fed_ok (good_small gx) (k : Int)
        have hF : f.fedE (k : Int) = 0 := by unfold FarmD.fedE; rw [hhas]; exact k1 ht
        have hFx : (f.plusL b ov lo hi).fedE (k : Int) = 0 := by unfold FarmD.fedE; rw [hhasx]; exact y1 htx
        rw [hF, show f.fedV (k : Int) = f.vrd k by unfold FarmD.fedV; rw [hF]; rfl] at e30
        rw [hFx, show (f.plusL b ov lo hi).fedV (k : Int) = (f.plusL b ov lo hi).vrd k by unfold FarmD.fedV; rw [hFx]; rfl] at x30
        have e49 := fewest49 (good_small gd)
        have x49 := fewest49 (good_small gx)
        have tail : ∀ (gg : Nat → AV), AllP (fun p => gg p.1 = p.2) [(21, f.fewL), (22, iV f.fewE), (23, (f.plusL b ov lo hi).fewL), (24, iV (f.plusL b ov lo hi).fewE)] → SW Try.prog none (restC 16 (bodyF Try.f14)) (trueQ3 Try.f14) ⟨⟨187, gg⟩, []⟩ ⟨[(2, .cells none false (bmX f (f.nl + 1) hC)), (1, .cells none false [iV b, .sb ov, iV lo, iV hi]), (0, .cells none false (farmL f))], 4⟩ := fun gg h => by
          cases hfo : f.fewO with
          | some c =>
            obtain ⟨d, hd, hdl⟩ := plus_few (b := b) (ov := ov) (lo := lo) (hi := hi) hfo
            rw [show f.fewE = 0 by unfold FarmD.fewE; rw [k1 ht, hfo]; rfl, show f.fewL = intsV c.length false (lI c) by unfold FarmD.fewL; rw [k1 ht, hfo]; exact zV_nI c,
              show (f.plusL b ov lo hi).fewE = 0 by unfold FarmD.fewE; rw [y1 htx, hd]; rfl, show (f.plusL b ov lo hi).fewL = intsV d.length false (lI d) by unfold FarmD.fewL; rw [y1 htx, hd]; exact zV_nI d] at h
            exact bm_qq haw f _ hC _ c.length d.length _ _ hdl gg h
          | none =>
            rw [show f.fewE = 10 by unfold FarmD.fewE; rw [k1 ht, hfo]; rfl] at h
            cases hfx : (f.plusL b ov lo hi).fewO with
            | some d =>
              rw [show (f.plusL b ov lo hi).fewE = 0 by unfold FarmD.fewE; rw [y1 htx, hfx]; rfl] at h
              exact bm_q0 haw f _ hC _ _ _ gg h
            | none =>
              rw [show (f.plusL b ov lo hi).fewE = 10 by unfold FarmD.fewE; rw [y1 htx, hfx]; rfl] at h
              exact bm_q10 haw f _ hC _ _ _ gg h
        by_cases hv : f.vrd k = 3
        · rw [hv] at e30
          exact bm_fed3 f _ hC _ k f.bnI (f.plusL b ov lo hi).bnI _ _ _ _ _ _ e21 x21 e30 x30 e49 x49 e62 tail gg h
        · rw [plus_vrd htx k hv] at x30
          exact bm_fedv f _ hC _ k f.bnI (f.plusL b ov lo hi).bnI _ _ _ _ _ _ e21 x21 e30 x30 e49 x49 e62 tail gg h
end Go.Fz
