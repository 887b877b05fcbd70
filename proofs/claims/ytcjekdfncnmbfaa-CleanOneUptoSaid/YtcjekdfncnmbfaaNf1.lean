/- Own work of the verifier of watercress: FzOn3, FzOn4. -/
import Derived.Below
import Derived.CallsIn
import Derived.Carry
import Derived.ChangeKeysEq
import Derived.ChangeSame
import Derived.Deep.Slices
import Derived.DeepKeys4
import Derived.JoinedCond
import Derived.Laws.AppendOwn
import Derived.Laws.Cells
import Derived.Laws.CopyRow
import Derived.Laws.Cover3
import Derived.Laws.Entries
import Derived.Laws.NewFold
import Derived.Laws.Sem
import Derived.Laws.Small
import Derived.Laws.StructEq
import Derived.Laws.Tables
import Derived.Laws.World
import Derived.Lib.SmallJoins
import Derived.Maps.Keyed
import Derived.Maps.RangeRun
import Derived.OpenShut
import Derived.OrdersHeld
import Derived.OrdersIn
import Derived.ProofKit
import Derived.RangeFuncLeaves
import Derived.RangeFuncRecord
import Derived.Shelf.Abstract
import Derived.WalkKit
import Derived.WideKeyArgs
import Derived.Test.YtcjekdfncnmbfaaNf0
import Derived.Test.YtcjekdfncnmbfaaNa10
import Derived.Test.YtcjekdfncnmbfaaNa11
import Derived.Test.YtcjekdfncnmbfaaNa13
import Derived.Test.YtcjekdfncnmbfaaNa16
import Derived.Test.YtcjekdfncnmbfaaNa14
import Derived.Test.YtcjekdfncnmbfaaNa18
import Derived.Test.YtcjekdfncnmbfaaNa15
import Derived.Test.YtcjekdfncnmbfaaNa19
import Derived.Test.YtcjekdfncnmbfaaNa20
import Derived.Test.YtcjekdfncnmbfaaNa22
import Derived.Test.YtcjekdfncnmbfaaNa12
import Derived.Test.YtcjekdfncnmbfaaNa17
import Derived.Test.YtcjekdfncnmbfaaNa0
import Derived.Test.YtcjekdfncnmbfaaNa1
import Derived.Test.YtcjekdfncnmbfaaNa2
import Derived.Test.YtcjekdfncnmbfaaNa3
import Derived.Test.YtcjekdfncnmbfaaNa4
import Derived.Test.YtcjekdfncnmbfaaNa5
import Derived.Test.YtcjekdfncnmbfaaNa6
import Derived.Test.YtcjekdfncnmbfaaNa7
import Derived.Test.YtcjekdfncnmbfaaNa8
import Derived.Test.YtcjekdfncnmbfaaNa9
import Derived.Test.YtcjekdfncnmbfaaProg
import Derived.Test.YtcjekdfncnmbfaaRows
set_option linter.unusedVariables false
set_option linter.unusedSimpArgs false
set_option linter.unusedVariables false
namespace Go.Fz
open Go.Proofs
set_option maxRecDepth 100000
def ooX (y : YardD) (len : Nat) (hC : Nat → Nat → AV) : List AV := [iV y.last, iV y.hands, .isl len 3 false hC, clmsV y]
def ooT (y : YardD) (cl : List AV) (len : Nat) (hC : Nat → Nat → AV) : St := ⟨[(2, .cells none false (ooX y len hC)), (1, .cells none false cl), (0, .cells none false (yardC y))], 4⟩
set_option maxHeartbeats 8000000 in
theorem oo_not (haw : Pure Try.prog 18 [] (.lit (.bool true))) (y : YardD) (k lo hi : Int) (len : Nat) (hC : Nat → Nat → AV) (rd rx : Bool) (e45 : Pure Try.prog 45 [yardV y] (.sb rd)) (x45 : Pure Try.prog 45 [.agg (ooX y len hC)] (.sb rx)) (hno : rd = false ∨ rx = false ∨ y.nb = 0)
    (gg : Nat → AV) (h : AllP (fun p => gg p.1 = p.2) [(3, .ptr 0 0), (7, .ptr 2 0)]) :
    SW Try.prog none (restC 3 (bodyF Try.f16)) (trueQ3 Try.f16) ⟨⟨133, gg⟩, []⟩ (ooT y [iV k, iV lo, iV hi] len hC) := by
  obtain ⟨O, hO⟩ : ∃ O : Ar, O = std := ⟨_, rfl⟩
  obtain ⟨g1, g2, _⟩ := h
  simp only at g1 g2
  rw [← updT_self g1, ← updT_self g2]
  refine (show SW Try.prog none (.seq (.seq (.region _ _ _) _) _) _ _ _ from ?_)
  refine SW.seq ?_
  refine SW.seqRun tok hO (by cbv <;> rfl) (by trivial) ?_
  refine OpsW.callP e45 (by cbv <;> rfl) ?_
  refine OpsW.run tok hO (by cbv <;> rfl) (by trivial) ?_
  refine OpsW.splitG (by cbv <;> rfl) (fun h1 => ?_) (fun h1 => ?_)
  · refine OpsW.run tok hO (by cbv <;> rfl) (by trivial) ?_
    refine SW.cond (t := true) (by cbv <;> rfl) ?_
    refine SW.seqRun tok hO (by cbv <;> rfl) (by trivial) ?_
    refine OpsW.callP haw (by cbv <;> rfl) ?_
    refine OpsW.run tok hO (by cbv <;> rfl) (by trivial) ?_
    exact SW.ret ⟨_, _, rfl, rfl, Eqv.of rfl⟩
  have hrd : rd = true := by
    subst hO
    cases rd with
    | true => rfl
    | false => cases h1
  refine OpsW.run tok hO (by cbv <;> rfl) (by trivial) ?_
  refine OpsW.callP x45 (by cbv <;> rfl) ?_
  refine OpsW.run tok hO (by cbv <;> rfl) (by trivial) ?_
  refine OpsW.splitG (by cbv <;> rfl) (fun h2 => ?_) (fun h2 => ?_)
  · refine OpsW.run tok hO (by cbv <;> rfl) (by trivial) ?_
    refine SW.cond (t := true) (by cbv <;> rfl) ?_
    refine SW.seqRun tok hO (by cbv <;> rfl) (by trivial) ?_
    refine OpsW.callP haw (by cbv <;> rfl) ?_
    refine OpsW.run tok hO (by cbv <;> rfl) (by trivial) ?_
    exact SW.ret ⟨_, _, rfl, rfl, Eqv.of rfl⟩
  have hrx : rx = true := by
    subst hO
    cases rx with
    | true => rfl
    | false => cases h2
  refine OpsW.run tok hO (by cbv <;> rfl) (by trivial) ?_
  refine SW.condS (by cbv <;> rfl) (fun h3 => ?_) (fun h3 => ?_)
  · refine SW.seqRun tok hO (by cbv <;> rfl) (by trivial) ?_
    refine OpsW.callP haw (by cbv <;> rfl) ?_
    refine OpsW.run tok hO (by cbv <;> rfl) (by trivial) ?_
    exact SW.ret ⟨_, _, rfl, rfl, Eqv.of rfl⟩
  · exfalso
    have h4 : ¬ (Int.ofNat y.nb = 0) := by subst hO; simpa [std] using h3
    rcases hno with h | h | h
    · rw [hrd] at h; cases h
    · rw [hrx] at h; cases h
    · exact h4 (by rw [h]; rfl)
set_option maxHeartbeats 8000000 in
theorem oo_pre (y : YardD) (k lo hi x0 : Int) (len : Nat) (hC : Nat → Nat → AV) (LV MV E F : Int) (hz : 0 < y.nb) (e45 : Pure Try.prog 45 [yardV y] (.sb true)) (x45 : Pure Try.prog 45 [.agg (ooX y len hC)] (.sb true))
    (e20 : Pure Try.prog 20 [yardV y] (yardV y)) (XV : AV) (x20 : Pure Try.prog 20 [.agg (ooX y len hC)] XV) (e33 : Pure Try.prog 33 [yardV y] (.tup [iV LV, iV E])) (x33 : Pure Try.prog 33 [XV] (.tup [iV MV, iV F]))
    (htail : ∀ (gg : Nat → AV), AllP (fun p => gg p.1 = p.2) [(2, .lit (.int .u8 x0)), (3, .ptr 0 0), (7, .ptr 2 0), (8, iV LV), (9, iV E), (10, iV MV), (11, iV F)] → SW Try.prog none (restC 6 (bodyF Try.f16)) (trueQ3 Try.f16) ⟨⟨133, gg⟩, []⟩ (ooT y [iV k, iV lo, iV hi] len hC))
    (gg : Nat → AV) (h : AllP (fun p => gg p.1 = p.2) [(2, .lit (.int .u8 x0)), (3, .ptr 0 0), (7, .ptr 2 0)]) :
    SW Try.prog none (restC 3 (bodyF Try.f16)) (trueQ3 Try.f16) ⟨⟨133, gg⟩, []⟩ (ooT y [iV k, iV lo, iV hi] len hC) := by
  obtain ⟨O, hO⟩ : ∃ O : Ar, O = std := ⟨_, rfl⟩
  obtain ⟨g1, g2, g3, _⟩ := h
  simp only at g1 g2 g3
  rw [← updT_self g1, ← updT_self g2, ← updT_self g3]
  have hnz : Int.ofNat y.nb ≠ 0 := by
    show (y.nb : Int) ≠ 0
    omega
  refine (show SW Try.prog none (.seq (.seq (.region _ _ _) _) _) _ _ _ from ?_)
  refine SW.seq ?_
  refine SW.seqRun tok hO (by cbv <;> rfl) (by trivial) ?_
  refine OpsW.callP e45 (by cbv <;> rfl) ?_
  refine OpsW.run tok hO (by cbv <;> rfl) (by trivial) ?_
  refine OpsW.splitG (by cbv <;> rfl) (fun h => nomatch (show false = true from (by rw [hO] at h; exact h))) (fun h1 => ?_)
  refine OpsW.run tok hO (by cbv <;> rfl) (by trivial) ?_
  refine OpsW.callP x45 (by cbv <;> rfl) ?_
  refine OpsW.run tok hO (by cbv <;> rfl) (by trivial) ?_
  refine OpsW.splitG (by cbv <;> rfl) (fun h => nomatch (show false = true from (by rw [hO] at h; exact h))) (fun h2 => ?_)
  refine OpsW.run tok hO (by cbv <;> rfl) (by trivial) ?_
  refine SW.condS (by cbv <;> rfl) (fun h3 => absurd (show Int.ofNat y.nb = 0 by subst hO; simpa [std] using h3) hnz) (fun h3 => SW.skip ?_)
  refine SW.seqRun tok hO (by cbv <;> rfl) (by trivial) ?_
  refine OpsW.callP e20 (by cbv <;> rfl) ?_
  refine OpsW.run tok hO (by cbv <;> rfl) (by trivial) ?_
  refine OpsW.callP e33 (by cbv <;> rfl) ?_
  refine OpsW.run tok hO (by cbv <;> rfl) (by trivial) ?_
  refine SW.seqRun tok hO (by cbv <;> rfl) (by trivial) ?_
  refine OpsW.callP x20 (by cbv <;> rfl) ?_
  refine OpsW.run tok hO (by cbv <;> rfl) (by trivial) ?_
  refine OpsW.callP x33 (by cbv <;> rfl) ?_
  refine OpsW.run tok hO (by cbv <;> rfl) (by trivial) ?_
  exact htail _ ⟨rfl, rfl, rfl, rfl, rfl, rfl, rfl, trivial⟩
set_option maxHeartbeats 8000000 in
theorem oo_err (haw : Pure Try.prog 18 [] (.lit (.bool true))) (y : YardD) (k lo hi : Int) (len : Nat) (hC : Nat → Nat → AV)
    (gg : Nat → AV) (h : AllP (fun p => gg p.1 = p.2) [(3, .ptr 0 0), (7, .ptr 2 0), (9, iV 10), (11, iV 10)]) :
    SW Try.prog none (restC 6 (bodyF Try.f16)) (trueQ3 Try.f16) ⟨⟨133, gg⟩, []⟩ (ooT y [iV k, iV lo, iV hi] len hC) := by
  obtain ⟨O, hO⟩ : ∃ O : Ar, O = std := ⟨_, rfl⟩
  obtain ⟨g1, g2, g3, g4, _⟩ := h
  simp only at g1 g2 g3 g4
  rw [← updT_self g1, ← updT_self g2, ← updT_self g3, ← updT_self g4]
  refine (show SW Try.prog none (.seq (.seq (.region _ _ _) _) _) _ _ _ from ?_)
  refine SW.seq ?_
  refine SW.seqRun tok hO (by cbv <;> rfl) (by trivial) ?_
  refine SW.condS (by cbv <;> rfl) (fun h => ?_) (fun h => by subst hO; simp [std] at h)
  refine SW.seqRun tok hO (by cbv <;> rfl) (by trivial) ?_
  refine OpsW.splitG (by cbv <;> rfl) (fun h => ?_) (fun h => by subst hO; simp [std] at h)
  refine OpsW.run tok hO (by cbv <;> rfl) (by trivial) ?_
  refine OpsW.splitG (by cbv <;> rfl) (fun h => ?_) (fun h => by subst hO; simp [std] at h)
  refine OpsW.run tok hO (by cbv <;> rfl) (by trivial) ?_
  refine OpsW.callP haw (by cbv <;> rfl) ?_
  refine OpsW.run tok hO (by cbv <;> rfl) (by trivial) ?_
  exact SW.ret ⟨_, _, rfl, rfl, Eqv.of rfl⟩
set_option maxHeartbeats 8000000 in
theorem oo_mid (y : YardD) (k lo hi x0 : Int) (len : Nat) (hC : Nat → Nat → AV) (n m F : Int) (hF : (F = 0 ∧ n ≤ m) ∨ F = 10)
    (htail : ∀ (gg : Nat → AV), AllP (fun p => gg p.1 = p.2) [(2, .lit (.int .u8 x0)), (3, .ptr 0 0), (7, .ptr 2 0)] → SW Try.prog none (restC 8 (bodyF Try.f16)) (trueQ3 Try.f16) ⟨⟨133, gg⟩, []⟩ (ooT y [iV k, iV lo, iV hi] len hC))
    (gg : Nat → AV) (h : AllP (fun p => gg p.1 = p.2) [(2, .lit (.int .u8 x0)), (3, .ptr 0 0), (7, .ptr 2 0), (8, iV n), (9, iV 0), (10, iV m), (11, iV F)]) :
    SW Try.prog none (restC 6 (bodyF Try.f16)) (trueQ3 Try.f16) ⟨⟨133, gg⟩, []⟩ (ooT y [iV k, iV lo, iV hi] len hC) := by
  obtain ⟨O, hO⟩ : ∃ O : Ar, O = std := ⟨_, rfl⟩
  obtain ⟨g1, g2, g3, g4, g5, g6, g7, _⟩ := h
  simp only at g1 g2 g3 g4 g5 g6 g7
  rw [← updT_self g1, ← updT_self g2, ← updT_self g3, ← updT_self g4, ← updT_self g5, ← updT_self g6, ← updT_self g7]
  refine (show SW Try.prog none (.seq (.seq (.region _ _ _) _) _) _ _ _ from ?_)
  refine SW.seq ?_
  refine SW.seqRun tok hO (by cbv <;> rfl) (by trivial) ?_
  refine SW.condS (by cbv <;> rfl) (fun h => by subst hO; simp [std] at h) (fun h => SW.skip ?_)
  refine SW.seq ?_
  refine SW.seqRun tok hO (by cbv <;> rfl) (by trivial) ?_
  rcases hF with ⟨hF, hnm⟩ | hF
  · skip
    refine OpsW.splitG (by cbv <;> rfl) (fun h => by subst hO; simp [std, hF] at h) (fun h => ?_)
    refine OpsW.run tok hO (by cbv <;> rfl) (by trivial) ?_
    refine OpsW.splitG (by cbv <;> rfl) (fun h => ?_) (fun h => by subst hO; simp [std, hF] at h)
    refine OpsW.run tok hO (by cbv <;> rfl) (by trivial) ?_
    refine SW.condS (by cbv <;> rfl) (fun h => ?_) (fun h => SW.skip ?_)
    · exfalso
      have h2 : m < n := by subst hO; simpa [std] using h
      omega
    · exact htail _ ⟨rfl, rfl, rfl, trivial⟩
  · skip
    refine OpsW.splitG (by cbv <;> rfl) (fun h => ?_) (fun h => by subst hO; simp [std, hF] at h)
    refine OpsW.run tok hO (by cbv <;> rfl) (by trivial) ?_
    refine OpsW.splitG (by cbv <;> rfl) (fun h => by subst hO; simp [std, hF] at h) (fun h => ?_)
    refine OpsW.run tok hO (by cbv <;> rfl) (by trivial) ?_
    refine OpsW.splitG (by cbv <;> rfl) (fun h => by subst hO; simp [std, hF] at h) (fun h => ?_)
    refine OpsW.run tok hO (by cbv <;> rfl) (by trivial) ?_
    refine SW.cond (t := false) (by cbv <;> rfl) (SW.skip ?_)
    exact htail _ ⟨rfl, rfl, rfl, trivial⟩
set_option maxHeartbeats 8000000 in
theorem oo_weeks (haw : Pure Try.prog 18 [] (.lit (.bool true))) (y : YardD) (k lo hi x0 : Int) (len : Nat) (hC : Nat → Nat → AV) (hz : 0 < y.nb) (wa wb : Nat) (ga gb : Nat → Int) (G H : Int)
    (e20 : Pure Try.prog 20 [yardV y] (yardV y)) (XV : AV) (x20 : Pure Try.prog 20 [.agg (ooX y len hC)] XV)
    (e27 : Pure Try.prog 27 [yardV y, iV (std.bin .rem .i64 (std.conv .i64 x0) (Int.ofNat y.nb))] (.tup [intsV wa false ga, iV G])) (x27 : Pure Try.prog 27 [XV, iV (std.bin .rem .i64 (std.conv .i64 x0) (Int.ofNat y.nb))] (.tup [intsV wb false gb, iV H]))
    (hGH : ((H = 9 ∨ H = 10) ∧ (G = 0 ∨ G = 9 ∨ G = 10)) ∨ (H = 0 ∧ G = 0 ∧ Pure Try.prog 51 [intsV wa false ga, intsV wb false gb] (.sb true)))
    (gg : Nat → AV) (h : AllP (fun p => gg p.1 = p.2) [(2, .lit (.int .u8 x0)), (3, .ptr 0 0), (7, .ptr 2 0)]) :
    SW Try.prog none (restC 8 (bodyF Try.f16)) (trueQ3 Try.f16) ⟨⟨133, gg⟩, []⟩ (ooT y [iV k, iV lo, iV hi] len hC) := by
  obtain ⟨O, hO⟩ : ∃ O : Ar, O = std := ⟨_, rfl⟩
  obtain ⟨g1, g2, g3, _⟩ := h
  simp only at g1 g2 g3
  rw [← updT_self g1, ← updT_self g2, ← updT_self g3]
  rw [← hO] at e27 x27
  have hnz : Int.ofNat y.nb ≠ 0 := by
    show (y.nb : Int) ≠ 0
    omega
  refine (show SW Try.prog none (.seq (.region _ _ _) _) _ _ _ from ?_)
  refine SW.seqRun tok hO (by cbv <;> rfl) (by exact hnz) ?_
  refine SW.seqRun tok hO (by cbv <;> rfl) (by trivial) ?_
  refine OpsW.callP e20 (by cbv <;> rfl) ?_
  refine OpsW.run tok hO (by cbv <;> rfl) (by trivial) ?_
  refine OpsW.callP e27 (by cbv <;> rfl) ?_
  refine OpsW.run tok hO (by cbv <;> rfl) (by trivial) ?_
  refine SW.seqRun tok hO (by cbv <;> rfl) (by trivial) ?_
  refine OpsW.callP x20 (by cbv <;> rfl) ?_
  refine OpsW.run tok hO (by cbv <;> rfl) (by trivial) ?_
  refine OpsW.callP x27 (by cbv <;> rfl) ?_
  refine OpsW.run tok hO (by cbv <;> rfl) (by trivial) ?_
  refine SW.seq ?_
  refine SW.seqRun tok hO (by cbv <;> rfl) (by trivial) ?_
  rcases hGH with ⟨hH, hG⟩ | ⟨hH, hG, e51⟩
  · refine SW.condS (by cbv <;> rfl) (fun h => ?_) (fun h => by subst hO; rcases hH with hH | hH <;> simp [std, hH] at h)
    refine SW.seqRun tok hO (by cbv <;> rfl) (by trivial) ?_
    rcases hH with hH | hH
    · skip
      refine OpsW.splitG (by cbv <;> rfl) (fun h => by subst hO; simp [std, hH] at h) (fun h => ?_)
      refine OpsW.run tok hO (by cbv <;> rfl) (by trivial) ?_
      refine OpsW.splitG (by cbv <;> rfl) (fun h => ?_) (fun h => by subst hO; simp [std, hH] at h)
      refine OpsW.run tok hO (by cbv <;> rfl) (by trivial) ?_
      rcases hG with hG | hG | hG
      · skip
        refine OpsW.splitG (by cbv <;> rfl) (fun h => ?_) (fun h => by subst hO; simp [std, hG] at h)
        refine OpsW.run tok hO (by cbv <;> rfl) (by trivial) ?_
        refine OpsW.callP haw (by cbv <;> rfl) ?_
        refine OpsW.run tok hO (by cbv <;> rfl) (by trivial) ?_
        exact SW.ret ⟨_, _, rfl, rfl, Eqv.of rfl⟩
      · skip
        refine OpsW.splitG (by cbv <;> rfl) (fun h => by subst hO; simp [std, hG] at h) (fun h => ?_)
        refine OpsW.run tok hO (by cbv <;> rfl) (by trivial) ?_
        refine OpsW.splitG (by cbv <;> rfl) (fun h => by subst hO; simp [std, hG] at h) (fun h => ?_)
        refine OpsW.run tok hO (by cbv <;> rfl) (by trivial) ?_
        refine OpsW.splitG (by cbv <;> rfl) (fun h => ?_) (fun h => by subst hO; simp [std, hG] at h)
        refine OpsW.run tok hO (by cbv <;> rfl) (by trivial) ?_
        refine OpsW.callP haw (by cbv <;> rfl) ?_
        refine OpsW.run tok hO (by cbv <;> rfl) (by trivial) ?_
        exact SW.ret ⟨_, _, rfl, rfl, Eqv.of rfl⟩
      · skip
        refine OpsW.splitG (by cbv <;> rfl) (fun h => by subst hO; simp [std, hG] at h) (fun h => ?_)
        refine OpsW.run tok hO (by cbv <;> rfl) (by trivial) ?_
        refine OpsW.splitG (by cbv <;> rfl) (fun h => ?_) (fun h => by subst hO; simp [std, hG] at h)
        refine OpsW.run tok hO (by cbv <;> rfl) (by trivial) ?_
        refine OpsW.callP haw (by cbv <;> rfl) ?_
        refine OpsW.run tok hO (by cbv <;> rfl) (by trivial) ?_
        exact SW.ret ⟨_, _, rfl, rfl, Eqv.of rfl⟩
    · skip
      refine OpsW.splitG (by cbv <;> rfl) (fun h => ?_) (fun h => by subst hO; simp [std, hH] at h)
      refine OpsW.run tok hO (by cbv <;> rfl) (by trivial) ?_
      rcases hG with hG | hG | hG
      · skip
        refine OpsW.splitG (by cbv <;> rfl) (fun h => ?_) (fun h => by subst hO; simp [std, hG] at h)
        refine OpsW.run tok hO (by cbv <;> rfl) (by trivial) ?_
        refine OpsW.callP haw (by cbv <;> rfl) ?_
        refine OpsW.run tok hO (by cbv <;> rfl) (by trivial) ?_
        exact SW.ret ⟨_, _, rfl, rfl, Eqv.of rfl⟩
      · skip
        refine OpsW.splitG (by cbv <;> rfl) (fun h => by subst hO; simp [std, hG] at h) (fun h => ?_)
        refine OpsW.run tok hO (by cbv <;> rfl) (by trivial) ?_
        refine OpsW.splitG (by cbv <;> rfl) (fun h => by subst hO; simp [std, hG] at h) (fun h => ?_)
        refine OpsW.run tok hO (by cbv <;> rfl) (by trivial) ?_
        refine OpsW.splitG (by cbv <;> rfl) (fun h => ?_) (fun h => by subst hO; simp [std, hG] at h)
        refine OpsW.run tok hO (by cbv <;> rfl) (by trivial) ?_
        refine OpsW.callP haw (by cbv <;> rfl) ?_
        refine OpsW.run tok hO (by cbv <;> rfl) (by trivial) ?_
        exact SW.ret ⟨_, _, rfl, rfl, Eqv.of rfl⟩
      · skip
        refine OpsW.splitG (by cbv <;> rfl) (fun h => by subst hO; simp [std, hG] at h) (fun h => ?_)
        refine OpsW.run tok hO (by cbv <;> rfl) (by trivial) ?_
        refine OpsW.splitG (by cbv <;> rfl) (fun h => ?_) (fun h => by subst hO; simp [std, hG] at h)
        refine OpsW.run tok hO (by cbv <;> rfl) (by trivial) ?_
        refine OpsW.callP haw (by cbv <;> rfl) ?_
        refine OpsW.run tok hO (by cbv <;> rfl) (by trivial) ?_
        exact SW.ret ⟨_, _, rfl, rfl, Eqv.of rfl⟩
  · refine SW.condS (by cbv <;> rfl) (fun h => by subst hO; simp [std, hH] at h) (fun h => SW.skip ?_)
    refine SW.seqRun tok hO (by cbv <;> rfl) (by trivial) ?_
    refine OpsW.splitG (by cbv <;> rfl) (fun h => ?_) (fun h => by subst hO; simp [std, hG] at h)
    refine OpsW.run tok hO (by cbv <;> rfl) (by trivial) ?_
    refine OpsW.callP e51 (by cbv <;> rfl) ?_
    refine OpsW.run tok hO (by cbv <;> rfl) (by trivial) ?_
    refine OpsW.splitG (by cbv <;> rfl) (fun h => ?_) (fun h => by cases h)
    refine OpsW.run tok hO (by cbv <;> rfl) (by trivial) ?_
    refine OpsW.callP haw (by cbv <;> rfl) ?_
    refine OpsW.run tok hO (by cbv <;> rfl) (by trivial) ?_
    exact SW.ret ⟨_, _, rfl, rfl, Eqv.of rfl⟩
end Go.Fz
set_option linter.unusedVariables false
namespace Go.Fz
open Go.Proofs
set_option maxRecDepth 100000
set_option maxHeartbeats 64000000 in
theorem oo_two (y : YardD) (k lo hi x0 : Int) (hnb : y.nb < 1048576)
    (htail : ∀ (hC : Nat → Nat → AV), Eqv (.isl (y.nb + 1) 3 false hC) (bedsV (y.plusB k lo hi)) → ∀ (gg : Nat → AV), AllP (fun p => gg p.1 = p.2) [(2, .lit (.int .u8 x0)), (3, .ptr 0 0), (7, .ptr 2 0)] →
      SW Try.prog none (restC 3 (bodyF Try.f16)) (trueQ3 Try.f16) ⟨⟨133, gg⟩, []⟩ (ooT y [iV k, iV lo, iV hi] (y.nb + 1) hC)) :
    Pure Try.prog 16 [yardV y, .agg [iV k, iV lo, iV hi], .lit (.int .u8 x0)] (.lit (.bool true)) := by
  obtain ⟨O, hO⟩ : ∃ O : Ar, O = std := ⟨_, rfl⟩
  refine pure_of_body tok 3 Try.func16 en16 rfl ⟨yardV_below y, Below.agg (AllB.ok ⟨Below.lit, Below.lit, Below.lit, trivial⟩), Below.lit, trivial⟩ Below.lit ?_
  refine SW.seqRun tok hO (by cbv <;> rfl) (by trivial) ?_
  refine SW.seqRun tok hO (by cbv <;> rfl) (by trivial) ?_
  refine SW.seq ((show SW Try.prog none (nthC 2 (bodyF Try.f16)) (midK 133 (ooL x0) (ooS y [iV k, iV lo, iV hi] [(3, .cells none false (flatG 3 (bedC (y.plusB k lo hi)) (y.nb + 1)))] (.sl 3 0 (y.nb + 1) 3 false) 4)) _ _ from ?_).mono fun e f st hm => ?_)
  · rcases Nat.eq_zero_or_pos y.nb with h0 | h0
    · have hG1 := (plusB_flat y k lo hi).symm
      have hf0 : flatG 3 (bedC y) y.nb = [] := by rw [h0]; rfl
      rw [hf0, List.nil_append] at hG1
      rw [hG1, show y.nb + 1 = 1 by omega]
      exact oone_s2z y k lo hi x0 h0 _ ⟨rfl, rfl, rfl, rfl, trivial⟩
    · exact oone_s2 y k lo hi x0 h0 hnb _ ⟨rfl, rfl, rfl, rfl, trivial⟩
  obtain ⟨rfl, g, rfl, ⟨g2, g3, g4, g7, _⟩, rfl⟩ := hm
  simp only at g2 g3 g4 g7
  obtain ⟨GX, hGX⟩ : ∃ G, G = flatG 3 (bedC (y.plusB k lo hi)) (y.nb + 1) := ⟨_, rfl⟩
  rw [← hGX]
  refine SW.freezeZ cmD 3 (by rfl) ?_
  have hlX : (y.nb + 1) * 3 ≤ GX.length := by rw [hGX, flatG_length]; omega
  obtain ⟨H, hH⟩ : ∃ H, H = (ooS y [iV k, iV lo, iV hi] [(3, .cells none false GX)] (.sl 3 0 (y.nb + 1) 3 false) 4).h := ⟨_, rfl⟩
  have hH3 : H.get 3 = some (.cells none false GX) := by rw [hH]; rfl
  obtain ⟨XC, hX, hXe, hXf⟩ : ∃ X, frz H cmD 3 (.sl 3 0 (y.nb + 1) 3 false) = X ∧ Eqv X (bedsV (y.plusB k lo hi)) ∧ ∃ h, X = .isl (y.nb + 1) 3 false h :=
    ⟨_, rfl, by
      rw [frz_slE (fm := none) (G := GX) rfl hH3 hlX, hGX]
      exact Eqv.isl rfl fun i j hi hj => Eqv.of (frz_flat hi hj (by unfold bedC; split <;> rfl)), _, frz_slE (fm := none) (G := GX) rfl hH3 hlX⟩
  show SW _ _ _ _ ⟨⟨133, fun i => frz (ooS y [iV k, iV lo, iV hi] [(3, .cells none false GX)] (.sl 3 0 (y.nb + 1) 3 false) 4).h cmD 3 (g i)⟩, []⟩ (ooS y [iV k, iV lo, iV hi] [] (frz (ooS y [iV k, iV lo, iV hi] [(3, .cells none false GX)] (.sl 3 0 (y.nb + 1) 3 false) 4).h cmD 3 (.sl 3 0 (y.nb + 1) 3 false)) 4)
  rw [← hH, hX]
  obtain ⟨hC, rfl⟩ := hXf
  clear hX
  have f2 : frz H cmD 3 (g 2) = .lit (.int .u8 x0) := by rw [g2]; rfl
  have f3 : frz H cmD 3 (g 3) = .ptr 0 0 := by rw [g3]; rfl
  have f7 : frz H cmD 3 (g 7) = .ptr 2 0 := by rw [g7]; rfl
  exact htail hC hXe _ ⟨f2, f3, f7, trivial⟩
theorem cleanOne_ok (haw : Pure Try.prog 18 [] (.lit (.bool true))) (y : YardD) (k lo hi x0 : Int) (h00 : 0 ≤ x0) (h01 : x0 ≤ 255) (hnb : y.nb < 1048576) : Pure Try.prog 16 [yardV y, .agg [iV k, iV lo, iV hi], .lit (.int .u8 x0)] (.lit (.bool true)) := by
  refine oo_two y k lo hi x0 hnb fun hC hCe gg h => ?_
  have hV : Eqvs [.agg (ooX y (y.nb + 1) hC)] [yardV (y.plusB k lo hi)] := .cons (Eqv.agg (.cons (Eqv.refl _) (.cons (Eqv.refl _) (.cons hCe (.cons (Eqv.refl _) .nil))))) .nil
  have e45 := ready_any y
  have x45 := Pure.eqv (ready_any (y.plusB k lo hi)) hV
  by_cases hno : y.readyB = false ∨ (y.plusB k lo hi).readyB = false ∨ y.nb = 0
  · exact oo_not haw y k lo hi _ hC _ _ e45 x45 hno gg ⟨h.2.1, h.2.2.1, trivial⟩
  have hR : y.readyB = true := by
    cases hr : y.readyB with
    | true => rfl
    | false => exact absurd (.inl hr) hno
  have hRx : (y.plusB k lo hi).readyB = true := by
    cases hr : (y.plusB k lo hi).readyB with
    | true => rfl
    | false => exact absurd (.inr (.inl hr)) hno
  have hz : 0 < y.nb := Nat.pos_of_ne_zero fun hz => hno (.inr (.inr hz))
  rw [hR] at e45
  rw [hRx] at x45
  have hc := ready_check hR
  have hcx := ready_check hRx
  obtain ⟨hf, _, _, _, _, h5, hcl⟩ := y.fit_of_check hc
  have hn := hf.nb
  have hnx : y.nb + 1 ≤ 6 := ((y.plusB k lo hi).fit_of_check hcx).1.nb
  have hcb : ∀ i, i < y.nc → 0 ≤ y.cb i ∧ y.cb i < y.nb := fun i hi => (hcl i hi).1
  have e20 := yard_ok y (by omega) (by omega)
  have x20 := Pure.eqv (yard_ok (y.plusB k lo hi) (show y.nb + 1 ≤ 1000 by omega) (show y.nc ≤ 1000 by omega)) hV
  have e33 := fewest_ok y (by omega) (by omega)
  have x33 := fewest_ok (y.plusB k lo hi) (show y.nb + 1 < 1000000 by omega) (show y.nc < 1000000 by omega)
  rcases plusB_few hc hcx with ⟨q1, q2⟩ | ⟨n, m, F, q1, q2, hF⟩
  · rw [q1] at e33
    rw [q2] at x33
    refine oo_pre y k lo hi x0 _ hC _ _ _ _ hz e45 x45 e20 _ x20 e33 x33 (fun gg h => ?_) gg h
    exact oo_err haw y k lo hi _ hC gg ⟨h.2.1, h.2.2.1, h.2.2.2.2.1, h.2.2.2.2.2.2.1, trivial⟩
  · rw [q1] at e33
    rw [q2] at x33
    refine oo_pre y k lo hi x0 _ hC _ _ _ _ hz e45 x45 e20 _ x20 e33 x33 (fun gg h => ?_) gg h
    refine oo_mid y k lo hi x0 _ hC n m F hF (fun gg h => ?_) gg h
    have hK := rem_rng h00 h01 hz hn
    rcases own_range hcx with ⟨ox, hkx⟩ | ox
    · have hky : y.kept ≠ [] := fun h => by
        obtain ⟨f, hf⟩ := List.exists_mem_of_ne_nil _ hkx
        have := plusB_kept hcb hf
        rw [h] at this
        cases this
      obtain ⟨e27, w1⟩ := weeks_sees hc hky hK.1 hK.2
      have hKx : std.bin .rem .i64 (std.conv .i64 x0) (y.nb : Int) < ((y.nb + 1 : Nat) : Int) := by
        have := hK.2
        omega
      obtain ⟨x27, w2⟩ := weeks_sees hcx hkx (K := std.bin .rem .i64 (std.conv .i64 x0) (y.nb : Int)) hK.1 hKx
      have s1 := wk_small hf hK.1 hK.2
      have s2 := wk_small ((y.plusB k lo hi).fit_of_check hcx).1 (K := std.bin .rem .i64 (std.conv .i64 x0) (y.nb : Int)) hK.1 hKx
      have hw : ∀ w ∈ (y.plusB k lo hi).wkL (std.bin .rem .i64 (std.conv .i64 x0) (y.nb : Int)), w ∈ y.wkL (std.bin .rem .i64 (std.conv .i64 x0) (y.nb : Int)) := fun w hw => by
        rw [w2] at hw
        rw [w1]
        exact plusB_weeks hcb hK.1 hK.2 hw
      have e51 := contains51_ok (y.wkL (std.bin .rem .i64 (std.conv .i64 x0) (y.nb : Int))).length ((y.plusB k lo hi).wkL (std.bin .rem .i64 (std.conv .i64 x0) (y.nb : Int))).length false false (fun j => (y.wkL (std.bin .rem .i64 (std.conv .i64 x0) (y.nb : Int))).getD j 0) (fun j => ((y.plusB k lo hi).wkL (std.bin .rem .i64 (std.conv .i64 x0) (y.nb : Int))).getD j 0) s1 s2
      rw [con_sub hw] at e51
      exact oo_weeks haw y k lo hi x0 _ hC hz _ _ _ _ 0 0 e20 _ x20 e27 x27 (.inr ⟨rfl, rfl, e51⟩) gg h
    · have hKx : std.bin .rem .i64 (std.conv .i64 x0) (y.nb : Int) < ((y.nb + 1 : Nat) : Int) := by
        have := hK.2
        omega
      obtain ⟨wa, ga, e27⟩ := weeks_any hc hK.1 hK.2
      obtain ⟨wb, gb, x27⟩ := weeks_any hcx (K := std.bin .rem .i64 (std.conv .i64 x0) (y.nb : Int)) hK.1 hKx
      refine oo_weeks haw y k lo hi x0 _ hC hz _ _ _ _ _ _ e20 _ x20 e27 x27 (.inl ⟨ox, ?_⟩) gg h
      rcases own_range hc with ⟨oy, _⟩ | oy | oy
      · exact .inl oy
      · exact .inr (.inl oy)
      · exact .inr (.inr oy)
end Go.Fz
