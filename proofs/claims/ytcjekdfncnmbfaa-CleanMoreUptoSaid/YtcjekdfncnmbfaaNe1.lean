/- Own work of the verifier of watercress: FzCm4, FzCm5. -/
import Derived.Below
import Derived.CallsIn
import Derived.Carry
import Derived.ChangeKeysEq
import Derived.ChangeSame
import Derived.Deep.Slices
import Derived.DeepKeys4
import Derived.JoinedCond
import Derived.Laws.AppendOwn
import Derived.Laws.Cells
import Derived.Laws.CopyRow
import Derived.Laws.Cover3
import Derived.Laws.Entries
import Derived.Laws.NewFold
import Derived.Laws.Sem
import Derived.Laws.Small
import Derived.Laws.StructEq
import Derived.Laws.Tables
import Derived.Laws.World
import Derived.Lib.SmallJoins
import Derived.Maps.Keyed
import Derived.Maps.RangeRun
import Derived.OpenShut
import Derived.OrdersHeld
import Derived.OrdersIn
import Derived.ProofKit
import Derived.RangeFuncLeaves
import Derived.RangeFuncRecord
import Derived.Shelf.Abstract
import Derived.WalkKit
import Derived.WideKeyArgs
import Derived.Test.YtcjekdfncnmbfaaNe0
import Derived.Test.YtcjekdfncnmbfaaNa10
import Derived.Test.YtcjekdfncnmbfaaNa11
import Derived.Test.YtcjekdfncnmbfaaNa13
import Derived.Test.YtcjekdfncnmbfaaNa16
import Derived.Test.YtcjekdfncnmbfaaNa14
import Derived.Test.YtcjekdfncnmbfaaNa18
import Derived.Test.YtcjekdfncnmbfaaNa15
import Derived.Test.YtcjekdfncnmbfaaNa19
import Derived.Test.YtcjekdfncnmbfaaNa20
import Derived.Test.YtcjekdfncnmbfaaNa21
import Derived.Test.YtcjekdfncnmbfaaNa22
import Derived.Test.YtcjekdfncnmbfaaNa12
import Derived.Test.YtcjekdfncnmbfaaNa17
import Derived.Test.YtcjekdfncnmbfaaNa0
import Derived.Test.YtcjekdfncnmbfaaNa1
import Derived.Test.YtcjekdfncnmbfaaNa2
import Derived.Test.YtcjekdfncnmbfaaNa3
import Derived.Test.YtcjekdfncnmbfaaNa4
import Derived.Test.YtcjekdfncnmbfaaNa5
import Derived.Test.YtcjekdfncnmbfaaNa6
import Derived.Test.YtcjekdfncnmbfaaNa7
import Derived.Test.YtcjekdfncnmbfaaNa8
import Derived.Test.YtcjekdfncnmbfaaNa9
import Derived.Test.YtcjekdfncnmbfaaProg
import Derived.Test.YtcjekdfncnmbfaaRows
set_option linter.unusedVariables false
set_option linter.unusedSimpArgs false
set_option linter.unusedVariables false
namespace Go.Fz
open Go.Proofs
set_option maxRecDepth 100000
theorem add1I {O : Ar} (hO : O = std) {i : Int} (h0 : 0 ≤ i) (h : i < 1000) : O.bin .add .i64 i 1 = i + 1 := by
  subst hO
  show add64 i 1 = _
  exact add64_in _ _ (by omega) (by omega)
theorem add1N {O : Ar} (hO : O = std) {i : Nat} (h : i < 1000) : O.bin .add .i64 (Int.ofNat i) 1 = (i : Int) + 1 := add1I hO (Int.natCast_nonneg i) (by show (i : Int) < 1000; omega)
theorem add1Z {O : Ar} (hO : O = std) {i : Int} (h0 : 0 ≤ i) (h : i ≤ 9) : O.bin .add .i64 i 1 ≠ 0 := by
  rw [add1I hO h0 (by omega)]
  omega
def cmX (y : YardD) (len : Nat) (hC : Nat → Nat → AV) : List AV := [iV y.last, iV y.hands, bedsV y, .isl len 3 false hC]
def cmT (y : YardD) (cl : List AV) (len : Nat) (hC : Nat → Nat → AV) : St := ⟨[(2, .cells none false (cmX y len hC)), (1, .cells none false cl), (0, .cells none false (yardC y))], 4⟩
set_option maxHeartbeats 8000000 in
theorem cm_not (haw : Pure Try.prog 18 [] (.lit (.bool true))) (y : YardD) (k lo hi : Int) (len : Nat) (hC : Nat → Nat → AV) (rd rx : Bool) (e45 : Pure Try.prog 45 [yardV y] (.sb rd)) (x45 : Pure Try.prog 45 [.agg (cmX y len hC)] (.sb rx)) (hno : rd = false ∨ rx = false ∨ y.nb = 0)
    (gg : Nat → AV) (h : AllP (fun p => gg p.1 = p.2) [(4, .ptr 0 0), (9, .ptr 2 0)]) :
    SW Try.prog none (restC 3 (bodyF Try.f11)) (trueQ3 Try.f11) ⟨⟨166, gg⟩, []⟩ (cmT y [iV k, iV lo, iV hi] len hC) := by
  obtain ⟨O, hO⟩ : ∃ O : Ar, O = std := ⟨_, rfl⟩
  obtain ⟨g1, g2, _⟩ := h
  simp only at g1 g2
  rw [← updT_self g1, ← updT_self g2]
  refine (show SW Try.prog none (.seq (.seq (.region _ _ _) _) _) _ _ _ from ?_)
  refine SW.seq ?_
  refine SW.seqRun tok hO (by cbv <;> rfl) (by trivial) ?_
  refine OpsW.callP e45 (by cbv <;> rfl) ?_
  refine OpsW.run tok hO (by cbv <;> rfl) (by trivial) ?_
  refine OpsW.splitG (by cbv <;> rfl) (fun h1 => ?_) (fun h1 => ?_)
  · refine OpsW.run tok hO (by cbv <;> rfl) (by trivial) ?_
    refine SW.cond (t := true) (by cbv <;> rfl) ?_
    refine SW.seqRun tok hO (by cbv <;> rfl) (by trivial) ?_
    refine OpsW.callP haw (by cbv <;> rfl) ?_
    refine OpsW.run tok hO (by cbv <;> rfl) (by trivial) ?_
    exact SW.ret ⟨_, _, rfl, rfl, Eqv.of rfl⟩
  have hrd : rd = true := by
    subst hO
    cases rd with
    | true => rfl
    | false => cases h1
  refine OpsW.run tok hO (by cbv <;> rfl) (by trivial) ?_
  refine OpsW.callP x45 (by cbv <;> rfl) ?_
  refine OpsW.run tok hO (by cbv <;> rfl) (by trivial) ?_
  refine OpsW.splitG (by cbv <;> rfl) (fun h2 => ?_) (fun h2 => ?_)
  · refine OpsW.run tok hO (by cbv <;> rfl) (by trivial) ?_
    refine SW.cond (t := true) (by cbv <;> rfl) ?_
    refine SW.seqRun tok hO (by cbv <;> rfl) (by trivial) ?_
    refine OpsW.callP haw (by cbv <;> rfl) ?_
    refine OpsW.run tok hO (by cbv <;> rfl) (by trivial) ?_
    exact SW.ret ⟨_, _, rfl, rfl, Eqv.of rfl⟩
  have hrx : rx = true := by
    subst hO
    cases rx with
    | true => rfl
    | false => cases h2
  refine OpsW.run tok hO (by cbv <;> rfl) (by trivial) ?_
  refine SW.condS (by cbv <;> rfl) (fun h3 => ?_) (fun h3 => ?_)
  · refine SW.seqRun tok hO (by cbv <;> rfl) (by trivial) ?_
    refine OpsW.callP haw (by cbv <;> rfl) ?_
    refine OpsW.run tok hO (by cbv <;> rfl) (by trivial) ?_
    exact SW.ret ⟨_, _, rfl, rfl, Eqv.of rfl⟩
  · exfalso
    have h4 : ¬ (Int.ofNat y.nb = 0) := by subst hO; simpa [std] using h3
    rcases hno with h | h | h
    · rw [hrd] at h; cases h
    · rw [hrx] at h; cases h
    · exact h4 (by rw [h]; rfl)
set_option maxHeartbeats 8000000 in
theorem cm_pre (y : YardD) (k lo hi x0 x1 : Int) (len : Nat) (hC : Nat → Nat → AV) (LV MV : AV) (E F : Int) (hz : 0 < y.nb) (e45 : Pure Try.prog 45 [yardV y] (.sb true)) (x45 : Pure Try.prog 45 [.agg (cmX y len hC)] (.sb true))
    (e20 : Pure Try.prog 20 [yardV y] (yardV y)) (XV : AV) (x20 : Pure Try.prog 20 [.agg (cmX y len hC)] XV) (e41 : Pure Try.prog 41 [yardV y] (.tup [LV, iV E])) (x41 : Pure Try.prog 41 [XV] (.tup [MV, iV F]))
    (htail : ∀ (gg : Nat → AV), AllP (fun p => gg p.1 = p.2) [(2, .lit (.int .u8 x0)), (3, .lit (.int .u8 x1)), (4, .ptr 0 0), (9, .ptr 2 0), (10, LV), (11, iV E), (12, MV), (13, iV F)] → SW Try.prog none (restC 6 (bodyF Try.f11)) (trueQ3 Try.f11) ⟨⟨166, gg⟩, []⟩ (cmT y [iV k, iV lo, iV hi] len hC))
    (gg : Nat → AV) (h : AllP (fun p => gg p.1 = p.2) [(2, .lit (.int .u8 x0)), (3, .lit (.int .u8 x1)), (4, .ptr 0 0), (9, .ptr 2 0)]) :
    SW Try.prog none (restC 3 (bodyF Try.f11)) (trueQ3 Try.f11) ⟨⟨166, gg⟩, []⟩ (cmT y [iV k, iV lo, iV hi] len hC) := by
  obtain ⟨O, hO⟩ : ∃ O : Ar, O = std := ⟨_, rfl⟩
  obtain ⟨g1, g2, g3, g4, _⟩ := h
  simp only at g1 g2 g3 g4
  rw [← updT_self g1, ← updT_self g2, ← updT_self g3, ← updT_self g4]
  have hnz : Int.ofNat y.nb ≠ 0 := by
    show (y.nb : Int) ≠ 0
    omega
  refine (show SW Try.prog none (.seq (.seq (.region _ _ _) _) _) _ _ _ from ?_)
  refine SW.seq ?_
  refine SW.seqRun tok hO (by cbv <;> rfl) (by trivial) ?_
  refine OpsW.callP e45 (by cbv <;> rfl) ?_
  refine OpsW.run tok hO (by cbv <;> rfl) (by trivial) ?_
  refine OpsW.splitG (by cbv <;> rfl) (fun h => nomatch (show false = true from (by rw [hO] at h; exact h))) (fun h1 => ?_)
  refine OpsW.run tok hO (by cbv <;> rfl) (by trivial) ?_
  refine OpsW.callP x45 (by cbv <;> rfl) ?_
  refine OpsW.run tok hO (by cbv <;> rfl) (by trivial) ?_
  refine OpsW.splitG (by cbv <;> rfl) (fun h => nomatch (show false = true from (by rw [hO] at h; exact h))) (fun h2 => ?_)
  refine OpsW.run tok hO (by cbv <;> rfl) (by trivial) ?_
  refine SW.condS (by cbv <;> rfl) (fun h3 => absurd (show Int.ofNat y.nb = 0 by subst hO; simpa [std] using h3) hnz) (fun h3 => SW.skip ?_)
  refine SW.seqRun tok hO (by cbv <;> rfl) (by trivial) ?_
  refine OpsW.callP e20 (by cbv <;> rfl) ?_
  refine OpsW.run tok hO (by cbv <;> rfl) (by trivial) ?_
  refine OpsW.callP e41 (by cbv <;> rfl) ?_
  refine OpsW.run tok hO (by cbv <;> rfl) (by trivial) ?_
  refine SW.seqRun tok hO (by cbv <;> rfl) (by trivial) ?_
  refine OpsW.callP x20 (by cbv <;> rfl) ?_
  refine OpsW.run tok hO (by cbv <;> rfl) (by trivial) ?_
  refine OpsW.callP x41 (by cbv <;> rfl) ?_
  refine OpsW.run tok hO (by cbv <;> rfl) (by trivial) ?_
  exact htail _ ⟨rfl, rfl, rfl, rfl, rfl, rfl, rfl, rfl, trivial⟩
set_option maxHeartbeats 8000000 in
theorem cm_err (haw : Pure Try.prog 18 [] (.lit (.bool true))) (y : YardD) (k lo hi : Int) (len : Nat) (hC : Nat → Nat → AV)
    (gg : Nat → AV) (h : AllP (fun p => gg p.1 = p.2) [(4, .ptr 0 0), (9, .ptr 2 0), (11, iV 10), (13, iV 10)]) :
    SW Try.prog none (restC 6 (bodyF Try.f11)) (trueQ3 Try.f11) ⟨⟨166, gg⟩, []⟩ (cmT y [iV k, iV lo, iV hi] len hC) := by
  obtain ⟨O, hO⟩ : ∃ O : Ar, O = std := ⟨_, rfl⟩
  obtain ⟨g1, g2, g3, g4, _⟩ := h
  simp only at g1 g2 g3 g4
  rw [← updT_self g1, ← updT_self g2, ← updT_self g3, ← updT_self g4]
  refine (show SW Try.prog none (.seq (.seq (.region _ _ _) _) _) _ _ _ from ?_)
  refine SW.seq ?_
  refine SW.seqRun tok hO (by cbv <;> rfl) (by trivial) ?_
  refine SW.condS (by cbv <;> rfl) (fun h => ?_) (fun h => by subst hO; simp [std] at h)
  refine SW.seqRun tok hO (by cbv <;> rfl) (by trivial) ?_
  refine OpsW.splitG (by cbv <;> rfl) (fun h => ?_) (fun h => by subst hO; simp [std] at h)
  refine OpsW.run tok hO (by cbv <;> rfl) (by trivial) ?_
  refine OpsW.splitG (by cbv <;> rfl) (fun h => ?_) (fun h => by subst hO; simp [std] at h)
  refine OpsW.run tok hO (by cbv <;> rfl) (by trivial) ?_
  refine OpsW.callP haw (by cbv <;> rfl) ?_
  refine OpsW.run tok hO (by cbv <;> rfl) (by trivial) ?_
  exact SW.ret ⟨_, _, rfl, rfl, Eqv.of rfl⟩
set_option maxHeartbeats 8000000 in
theorem cm_lens (haw : Pure Try.prog 18 [] (.lit (.bool true))) (y : YardD) (k lo hi x0 x1 : Int) (len : Nat) (hC : Nat → Nat → AV) (a m : Nat) (fa fm : Nat → Int) (ham : a ≤ m ∧ m ≤ a + 1) (ha : a < 1000)
    (htail : m = 0 → ∀ (gg : Nat → AV), AllP (fun p => gg p.1 = p.2) [(2, .lit (.int .u8 x0)), (3, .lit (.int .u8 x1)), (4, .ptr 0 0), (9, .ptr 2 0)] → SW Try.prog none (restC 9 (bodyF Try.f11)) (trueQ3 Try.f11) ⟨⟨166, gg⟩, []⟩ (cmT y [iV k, iV lo, iV hi] len hC))
    (gg : Nat → AV) (h : AllP (fun p => gg p.1 = p.2) [(2, .lit (.int .u8 x0)), (3, .lit (.int .u8 x1)), (4, .ptr 0 0), (9, .ptr 2 0), (10, intsV a false fa), (11, iV 0), (12, intsV m false fm), (13, iV 0)]) :
    SW Try.prog none (restC 6 (bodyF Try.f11)) (trueQ3 Try.f11) ⟨⟨166, gg⟩, []⟩ (cmT y [iV k, iV lo, iV hi] len hC) := by
  obtain ⟨O, hO⟩ : ∃ O : Ar, O = std := ⟨_, rfl⟩
  obtain ⟨g1, g2, g3, g4, g5, g6, g7, g8, _⟩ := h
  simp only at g1 g2 g3 g4 g5 g6 g7 g8
  rw [← updT_self g1, ← updT_self g2, ← updT_self g3, ← updT_self g4, ← updT_self g5, ← updT_self g6, ← updT_self g7, ← updT_self g8]
  have hadd : O.bin .add .i64 (Int.ofNat a) 1 = (a : Int) + 1 := add1N hO ha
  refine (show SW Try.prog none (.seq (.seq (.region _ _ _) _) _) _ _ _ from ?_)
  refine SW.seq ?_
  refine SW.seqRun tok hO (by cbv <;> rfl) (by trivial) ?_
  refine SW.condS (by cbv <;> rfl) (fun h => by subst hO; simp [std] at h) (fun h => SW.skip ?_)
  refine SW.seq ?_
  refine SW.seqRun tok hO (by cbv <;> rfl) (by trivial) ?_
  refine OpsW.splitG (by cbv <;> rfl) (fun h => by subst hO; simp [std] at h) (fun h => ?_)
  refine OpsW.run tok hO (by cbv <;> rfl) (by trivial) ?_
  refine OpsW.splitG (by cbv <;> rfl) (fun h => ?_) (fun h => ?_)
  · exfalso
    have h2 : (m : Int) < (a : Int) := by subst hO; simpa [std] using h
    omega
  refine OpsW.run tok hO (by cbv <;> rfl) (by trivial) ?_
  refine SW.condS (by cbv <;> rfl) (fun h => ?_) (fun h => SW.skip ?_)
  · exfalso
    have h2 : O.cmp .gtr (Int.ofNat m) (O.bin .add .i64 (Int.ofNat a) 1) = true := h
    rw [hadd] at h2
    have h3 : (m : Int) > (a : Int) + 1 := by subst hO; simpa [std] using h2
    omega
  refine SW.seq ?_
  refine SW.seqRun tok hO (by cbv <;> rfl) (by trivial) ?_
  refine SW.condS (by cbv <;> rfl) (fun h => ?_) (fun h => SW.skip ?_)
  · refine SW.seqRun tok hO (by cbv <;> rfl) (by trivial) ?_
    refine OpsW.callP haw (by cbv <;> rfl) ?_
    refine OpsW.run tok hO (by cbv <;> rfl) (by trivial) ?_
    exact SW.ret ⟨_, _, rfl, rfl, Eqv.of rfl⟩
  · have hm : m = 0 := by
      have h2 : ¬ ((m : Int) > 0) := by subst hO; simpa [std] using h
      omega
    exact htail hm _ ⟨rfl, rfl, rfl, rfl, trivial⟩
set_option maxHeartbeats 8000000 in
theorem cm_full (haw : Pure Try.prog 18 [] (.lit (.bool true))) (y : YardD) (k lo hi x0 x1 : Int) (len : Nat) (hC : Nat → Nat → AV) (hz : 0 < y.nb) (h9 : 0 ≤ y.last ∧ y.last ≤ 9) (wa wb : Nat) (ga gb : Nat → Int) (u v : Int) (huv : u = 3 ∨ u = v)
    (e20 : Pure Try.prog 20 [yardV y] (yardV y)) (XV : AV) (x20 : Pure Try.prog 20 [.agg (cmX y len hC)] XV)
    (e27 : Pure Try.prog 27 [yardV y, iV (std.bin .rem .i64 (std.conv .i64 x0) (Int.ofNat y.nb))] (.tup [intsV wa false ga, iV 0])) (x27 : Pure Try.prog 27 [XV, iV (std.bin .rem .i64 (std.conv .i64 x0) (Int.ofNat y.nb))] (.tup [intsV wb false gb, iV 0]))
    (e28 : Pure Try.prog 28 [yardV y, iV (std.bin .rem .i64 (std.conv .i64 x0) (Int.ofNat y.nb)), iV (std.bin .rem .i64 (std.conv .i64 x1) (std.bin .add .i64 y.last 1))] (.tup [iV u, iV 0])) (x28 : Pure Try.prog 28 [XV, iV (std.bin .rem .i64 (std.conv .i64 x0) (Int.ofNat y.nb)), iV (std.bin .rem .i64 (std.conv .i64 x1) (std.bin .add .i64 y.last 1))] (.tup [iV v, iV 0]))
    (e51 : Pure Try.prog 51 [intsV wa false ga, intsV wb false gb] (.sb true))
    (gg : Nat → AV) (h : AllP (fun p => gg p.1 = p.2) [(2, .lit (.int .u8 x0)), (3, .lit (.int .u8 x1)), (4, .ptr 0 0), (9, .ptr 2 0)]) :
    SW Try.prog none (restC 9 (bodyF Try.f11)) (trueQ3 Try.f11) ⟨⟨166, gg⟩, []⟩ (cmT y [iV k, iV lo, iV hi] len hC) := by
  obtain ⟨O, hO⟩ : ∃ O : Ar, O = std := ⟨_, rfl⟩
  obtain ⟨g1, g2, g3, g4, _⟩ := h
  simp only at g1 g2 g3 g4
  rw [← updT_self g1, ← updT_self g2, ← updT_self g3, ← updT_self g4]
  rw [← hO] at e27 x27 e28 x28
  have hnz : Int.ofNat y.nb ≠ 0 := by
    show (y.nb : Int) ≠ 0
    omega
  have hlz : O.bin .add .i64 y.last 1 ≠ 0 := add1Z hO h9.1 h9.2
  refine (show SW Try.prog none (.seq (.region _ _ _) _) _ _ _ from ?_)
  refine SW.seqRunD tok mixed hO (by kernel_rfl) (by cbv <;> rfl) (by first | exact ⟨hlz, hnz⟩ | exact ⟨hnz, hlz⟩) ?_
  refine SW.seqRun tok hO (by cbv <;> rfl) (by trivial) ?_
  refine OpsW.callP e20 (by cbv <;> rfl) ?_
  refine OpsW.run tok hO (by cbv <;> rfl) (by trivial) ?_
  refine OpsW.callP e27 (by cbv <;> rfl) ?_
  refine OpsW.run tok hO (by cbv <;> rfl) (by trivial) ?_
  refine SW.seqRun tok hO (by cbv <;> rfl) (by trivial) ?_
  refine OpsW.callP x20 (by cbv <;> rfl) ?_
  refine OpsW.run tok hO (by cbv <;> rfl) (by trivial) ?_
  refine OpsW.callP x27 (by cbv <;> rfl) ?_
  refine OpsW.run tok hO (by cbv <;> rfl) (by trivial) ?_
  refine SW.seqRun tok hO (by cbv <;> rfl) (by trivial) ?_
  refine OpsW.callP e20 (by cbv <;> rfl) ?_
  refine OpsW.run tok hO (by cbv <;> rfl) (by trivial) ?_
  refine OpsW.callP e28 (by cbv <;> rfl) ?_
  refine OpsW.run tok hO (by cbv <;> rfl) (by trivial) ?_
  refine SW.seqRun tok hO (by cbv <;> rfl) (by trivial) ?_
  refine OpsW.callP x20 (by cbv <;> rfl) ?_
  refine OpsW.run tok hO (by cbv <;> rfl) (by trivial) ?_
  refine OpsW.callP x28 (by cbv <;> rfl) ?_
  refine OpsW.run tok hO (by cbv <;> rfl) (by trivial) ?_
  refine SW.seqRun tok hO (by cbv <;> rfl) (by trivial) ?_
  refine OpsW.splitG (by cbv <;> rfl) (fun h => ?_) (fun h => by subst hO; simp [std] at h)
  refine OpsW.run tok hO (by cbv <;> rfl) (by trivial) ?_
  refine OpsW.splitG (by cbv <;> rfl) (fun h => ?_) (fun h => by subst hO; simp [std] at h)
  refine OpsW.run tok hO (by cbv <;> rfl) (by trivial) ?_
  refine OpsW.splitG (by cbv <;> rfl) (fun h => ?_) (fun h => by subst hO; simp [std] at h)
  refine OpsW.run tok hO (by cbv <;> rfl) (by trivial) ?_
  refine OpsW.splitG (by cbv <;> rfl) (fun h => ?_) (fun h => by subst hO; simp [std] at h)
  refine OpsW.run tok hO (by cbv <;> rfl) (by trivial) ?_
  refine OpsW.callP e51 (by cbv <;> rfl) ?_
  refine OpsW.run tok hO (by cbv <;> rfl) (by trivial) ?_
  refine OpsW.splitG (by cbv <;> rfl) (fun h => ?_) (fun h => by cases h)
  refine OpsW.run tok hO (by cbv <;> rfl) (by trivial) ?_
  refine OpsW.splitG (by cbv <;> rfl) (fun h4 => ?_) (fun h4 => ?_)
  · refine OpsW.run tok hO (by cbv <;> rfl) (by trivial) ?_
    refine OpsW.callP haw (by cbv <;> rfl) ?_
    refine OpsW.run tok hO (by cbv <;> rfl) (by trivial) ?_
    exact SW.ret ⟨_, _, rfl, rfl, Eqv.of rfl⟩
  · have h5 : ¬ u = 3 := by subst hO; simpa [std] using h4
    have h6 : u = v := huv.resolve_left h5
    refine OpsW.run tok hO (by cbv <;> rfl) (by trivial) ?_
    refine OpsW.splitG (by cbv <;> rfl) (fun h => ?_) (fun h => by subst hO; simp [std, h6] at h)
    refine OpsW.run tok hO (by cbv <;> rfl) (by trivial) ?_
    refine OpsW.callP haw (by cbv <;> rfl) ?_
    refine OpsW.run tok hO (by cbv <;> rfl) (by trivial) ?_
    exact SW.ret ⟨_, _, rfl, rfl, Eqv.of rfl⟩
end Go.Fz
set_option linter.unusedVariables false
namespace Go.Fz
open Go.Proofs
set_option maxRecDepth 100000
def cmD (j : Nat) : Bool := Nat.beq j 3
set_option maxHeartbeats 64000000 in
theorem cm_two (y : YardD) (k lo hi x0 x1 : Int) (hnc : y.nc < 1048576)
    (htail : ∀ (hC : Nat → Nat → AV), Eqv (.isl (y.nc + 1) 3 false hC) (clmsV (y.plusC k lo hi)) → ∀ (gg : Nat → AV), AllP (fun p => gg p.1 = p.2) [(2, .lit (.int .u8 x0)), (3, .lit (.int .u8 x1)), (4, .ptr 0 0), (9, .ptr 2 0)] →
      SW Try.prog none (restC 3 (bodyF Try.f11)) (trueQ3 Try.f11) ⟨⟨166, gg⟩, []⟩ (cmT y [iV k, iV lo, iV hi] (y.nc + 1) hC)) :
    Pure Try.prog 11 [yardV y, .agg [iV k, iV lo, iV hi], .lit (.int .u8 x0), .lit (.int .u8 x1)] (.lit (.bool true)) := by
  obtain ⟨O, hO⟩ : ∃ O : Ar, O = std := ⟨_, rfl⟩
  refine pure_of_body tok 3 Try.func11 en11 rfl ⟨yardV_below y, Below.agg (AllB.ok ⟨Below.lit, Below.lit, Below.lit, trivial⟩), Below.lit, Below.lit, trivial⟩ Below.lit ?_
  refine SW.seqRun tok hO (by cbv <;> rfl) (by trivial) ?_
  refine SW.seqRun tok hO (by cbv <;> rfl) (by trivial) ?_
  refine SW.seq ((show SW Try.prog none (nthC 2 (bodyF Try.f11)) (midK 166 (cmL x0 x1) (cmS y [iV k, iV lo, iV hi] [(3, .cells none false (flatG 3 (clmC (y.plusC k lo hi)) (y.nc + 1)))] (.sl 3 0 (y.nc + 1) 3 false) 4)) _ _ from ?_).mono fun e f st hm => ?_)
  · rcases Nat.eq_zero_or_pos y.nc with h0 | h0
    · have hG1 := (plus_flat y k lo hi).symm
      have hf0 : flatG 3 (clmC y) y.nc = [] := by rw [h0]; rfl
      rw [hf0, List.nil_append] at hG1
      rw [hG1, show y.nc + 1 = 1 by omega]
      exact cmore_s2z y k lo hi x0 x1 h0 _ ⟨rfl, rfl, rfl, rfl, rfl, trivial⟩
    · exact cmore_s2 y k lo hi x0 x1 h0 hnc _ ⟨rfl, rfl, rfl, rfl, rfl, trivial⟩
  obtain ⟨rfl, g, rfl, ⟨g2, g3, g4, g5, g9, _⟩, rfl⟩ := hm
  simp only at g2 g3 g4 g5 g9
  obtain ⟨GX, hGX⟩ : ∃ G, G = flatG 3 (clmC (y.plusC k lo hi)) (y.nc + 1) := ⟨_, rfl⟩
  rw [← hGX]
  refine SW.freezeZ cmD 3 (by rfl) ?_
  have hlX : (y.nc + 1) * 3 ≤ GX.length := by rw [hGX, flatG_length]; omega
  obtain ⟨H, hH⟩ : ∃ H, H = (cmS y [iV k, iV lo, iV hi] [(3, .cells none false GX)] (.sl 3 0 (y.nc + 1) 3 false) 4).h := ⟨_, rfl⟩
  have hH3 : H.get 3 = some (.cells none false GX) := by rw [hH]; rfl
  obtain ⟨XC, hX, hXe, hXf⟩ : ∃ X, frz H cmD 3 (.sl 3 0 (y.nc + 1) 3 false) = X ∧ Eqv X (clmsV (y.plusC k lo hi)) ∧ ∃ h, X = .isl (y.nc + 1) 3 false h :=
    ⟨_, rfl, by
      rw [frz_slE (fm := none) (G := GX) rfl hH3 hlX, hGX]
      exact Eqv.isl rfl fun i j hi hj => Eqv.of (frz_flat hi hj (by unfold clmC; split <;> rfl)), _, frz_slE (fm := none) (G := GX) rfl hH3 hlX⟩
  show SW _ _ _ _ ⟨⟨166, fun i => frz (cmS y [iV k, iV lo, iV hi] [(3, .cells none false GX)] (.sl 3 0 (y.nc + 1) 3 false) 4).h cmD 3 (g i)⟩, []⟩ (cmS y [iV k, iV lo, iV hi] [] (frz (cmS y [iV k, iV lo, iV hi] [(3, .cells none false GX)] (.sl 3 0 (y.nc + 1) 3 false) 4).h cmD 3 (.sl 3 0 (y.nc + 1) 3 false)) 4)
  rw [← hH, hX]
  obtain ⟨hC, rfl⟩ := hXf
  clear hX
  have f2 : frz H cmD 3 (g 2) = .lit (.int .u8 x0) := by rw [g2]; rfl
  have f3 : frz H cmD 3 (g 3) = .lit (.int .u8 x1) := by rw [g3]; rfl
  have f4 : frz H cmD 3 (g 4) = .ptr 0 0 := by rw [g4]; rfl
  have f9 : frz H cmD 3 (g 9) = .ptr 2 0 := by rw [g9]; rfl
  exact htail hC hXe _ ⟨f2, f3, f4, f9, trivial⟩
theorem cleanMore_ok (haw : Pure Try.prog 18 [] (.lit (.bool true))) (y : YardD) (k lo hi x0 x1 : Int) (h00 : 0 ≤ x0) (h01 : x0 ≤ 255) (h10 : 0 ≤ x1) (h11 : x1 ≤ 255) (hnc : y.nc < 1048576) : Pure Try.prog 11 [yardV y, .agg [iV k, iV lo, iV hi], .lit (.int .u8 x0), .lit (.int .u8 x1)] (.lit (.bool true)) := by
  refine cm_two y k lo hi x0 x1 hnc fun hC hCe gg h => ?_
  have hV : Eqvs [.agg (cmX y (y.nc + 1) hC)] [yardV (y.plusC k lo hi)] := .cons (Eqv.agg (.cons (Eqv.refl _) (.cons (Eqv.refl _) (.cons (Eqv.refl _) (.cons hCe .nil))))) .nil
  have e45 := ready_any y
  have x45 := Pure.eqv (ready_any (y.plusC k lo hi)) hV
  by_cases hno : y.readyB = false ∨ (y.plusC k lo hi).readyB = false ∨ y.nb = 0
  · exact cm_not haw y k lo hi _ hC _ _ e45 x45 hno gg ⟨h.2.2.1, h.2.2.2.1, trivial⟩
  have hR : y.readyB = true := by
    cases hr : y.readyB with
    | true => rfl
    | false => exact absurd (.inl hr) hno
  have hRx : (y.plusC k lo hi).readyB = true := by
    cases hr : (y.plusC k lo hi).readyB with
    | true => rfl
    | false => exact absurd (.inr (.inl hr)) hno
  have hz : 0 < y.nb := Nat.pos_of_ne_zero fun hz => hno (.inr (.inr hz))
  rw [hR] at e45
  rw [hRx] at x45
  have hc := ready_check hR
  have hcx := ready_check hRx
  obtain ⟨hf, l0, l9, _, _, _, _⟩ := y.fit_of_check hc
  have hn := hf.nb
  have h4 : y.nc + 1 ≤ 5 := ((y.plusC k lo hi).fit_of_check hcx).2.2.2.2.2.1
  have e20 := yard_ok y (by omega) (by omega)
  have x20 := Pure.eqv (yard_ok (y.plusC k lo hi) (show y.nb ≤ 1000 by omega) (show y.nc + 1 ≤ 1000 by omega)) hV
  have e41 := leave_ok y (by omega) (by omega)
  have x41 := leave_ok (y.plusC k lo hi) (show y.nb < 1000000 by omega) (show y.nc + 1 < 1000000 by omega)
  by_cases hs : y.allS = []
  · rw [(any_sees hc).1 hs] at e41
    rw [(any_sees hcx).1 (by rw [plus_allS]; exact hs)] at x41
    refine cm_pre y k lo hi x0 x1 _ hC _ _ _ _ hz e45 x45 e20 _ x20 e41 x41 (fun gg h => ?_) gg h
    exact cm_err haw y k lo hi _ hC gg ⟨h.2.2.1, h.2.2.2.1, h.2.2.2.2.2.1, h.2.2.2.2.2.2.2.1, trivial⟩
  · have hsx : (y.plusC k lo hi).allS ≠ [] := by rw [plus_allS]; exact hs
    obtain ⟨pre, l, post, q1, q2, q3, q4⟩ := lve_sees hc hs
    obtain ⟨prx, m, pox, r1, r2, r3, r4⟩ := lve_sees hcx hsx
    rw [plus_allS] at r3 r4
    rw [(any_sees hc).2 hs, q1] at e41
    rw [(any_sees hcx).2 hsx, r1] at x41
    have hlen := plus_lens h4 q2 q3 q4 r2 r3 r4
    have hl : l ∈ risL y.nc := by rw [q2]; simp
    have hl6 := (msk_fin6 ⟨y.nc, by omega⟩ l hl).2.2
    refine cm_pre y k lo hi x0 x1 _ hC _ _ _ _ hz e45 x45 e20 _ x20 e41 x41 (fun gg h => ?_) gg h
    refine cm_lens haw y k lo hi x0 x1 _ hC l.length m.length _ _ hlen (by omega) (fun hm0 gg h => ?_) gg h
    have hmn : m = [] := List.length_eq_zero_iff.1 hm0
    rw [hmn] at r4
    obtain ⟨f, hf1, hf2⟩ := lv_nil r4
    have hfx : f ∈ (y.plusC k lo hi).kept := mem_kept.2 ⟨by rw [plus_allS]; exact hf1, hf2⟩
    have hkx : (y.plusC k lo hi).kept ≠ [] := fun h => by
      rw [h] at hfx
      cases hfx
    have hky : y.kept ≠ [] := fun h => by
      have := plus_kept hfx
      rw [h] at this
      cases this
    have hK := rem_rng h00 h01 hz hn
    have hW := week_rng h10 h11 l0 l9
    obtain ⟨e27, w1⟩ := weeks_sees hc hky hK.1 hK.2
    obtain ⟨x27, w2⟩ := weeks_sees hcx hkx (K := std.bin .rem .i64 (std.conv .i64 x0) (y.nb : Int)) hK.1 hK.2
    have e28 := empty_sees hc hky hK.1 hK.2 hW.1 hW.2
    have x28 := empty_sees hcx hkx (K := std.bin .rem .i64 (std.conv .i64 x0) (y.nb : Int)) (w := std.bin .rem .i64 (std.conv .i64 x1) (std.bin .add .i64 y.last 1)) hK.1 hK.2 hW.1 hW.2
    have s1 := wk_small hf hK.1 hK.2
    have s2 := wk_small ((y.plusC k lo hi).fit_of_check hcx).1 (K := std.bin .rem .i64 (std.conv .i64 x0) (y.nb : Int)) hK.1 hK.2
    have hw : ∀ w ∈ (y.plusC k lo hi).wkL (std.bin .rem .i64 (std.conv .i64 x0) (y.nb : Int)), w ∈ y.wkL (std.bin .rem .i64 (std.conv .i64 x0) (y.nb : Int)) := fun w hw => by
      rw [w2] at hw
      rw [w1]
      obtain ⟨a1, a2⟩ := (mem_wkN _).1 hw
      refine (mem_wkN _).2 ⟨a1, ?_⟩
      obtain ⟨f, a3, a4⟩ := anyW_iff.1 a2
      exact anyW_iff.2 ⟨f, plus_kept a3, a4⟩
    have e51 := contains51_ok (y.wkL (std.bin .rem .i64 (std.conv .i64 x0) (y.nb : Int))).length ((y.plusC k lo hi).wkL (std.bin .rem .i64 (std.conv .i64 x0) (y.nb : Int))).length false false (fun j => (y.wkL (std.bin .rem .i64 (std.conv .i64 x0) (y.nb : Int))).getD j 0) (fun j => ((y.plusC k lo hi).wkL (std.bin .rem .i64 (std.conv .i64 x0) (y.nb : Int))).getD j 0) s1 s2
    rw [con_sub hw] at e51
    exact cm_full haw y k lo hi x0 x1 _ hC hz ⟨l0, l9⟩ _ _ _ _ _ _ (vd_sub (fun f => y.emB (std.bin .rem .i64 (std.conv .i64 x0) (y.nb : Int)).toNat (std.bin .rem .i64 (std.conv .i64 x1) (std.bin .add .i64 y.last 1)) f) hkx fun f hf => plus_kept hf) e20 _ x20 e27 x27 e28 x28 e51 gg h
end Go.Fz
