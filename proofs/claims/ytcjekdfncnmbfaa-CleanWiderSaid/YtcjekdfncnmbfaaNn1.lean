/- Own work of the verifier of watercress: FzWi1, FzWi2, FzWi3, FzWi4, FzWi5, FzWi6. -/
import Derived.Below
import Derived.CallsIn
import Derived.Carry
import Derived.ChangeKeysEq
import Derived.ChangeSame
import Derived.Deep.Slices
import Derived.DeepKeys4
import Derived.JoinedCond
import Derived.Laws.AppendOwn
import Derived.Laws.Cells
import Derived.Laws.CopyRow
import Derived.Laws.Cover3
import Derived.Laws.Entries
import Derived.Laws.NewFold
import Derived.Laws.Sem
import Derived.Laws.Small
import Derived.Laws.StructEq
import Derived.Laws.Tables
import Derived.Laws.World
import Derived.Lib.SmallJoins
import Derived.Maps.Keyed
import Derived.Maps.RangeRun
import Derived.OpenShut
import Derived.OrdersHeld
import Derived.OrdersIn
import Derived.ProofKit
import Derived.RangeFuncLeaves
import Derived.RangeFuncRecord
import Derived.Shelf.Abstract
import Derived.WalkKit
import Derived.WideKeyArgs
import Derived.Test.YtcjekdfncnmbfaaNn0
import Derived.Test.YtcjekdfncnmbfaaNa10
import Derived.Test.YtcjekdfncnmbfaaNa11
import Derived.Test.YtcjekdfncnmbfaaNa13
import Derived.Test.YtcjekdfncnmbfaaNa16
import Derived.Test.YtcjekdfncnmbfaaNa14
import Derived.Test.YtcjekdfncnmbfaaNa18
import Derived.Test.YtcjekdfncnmbfaaNa15
import Derived.Test.YtcjekdfncnmbfaaNa19
import Derived.Test.YtcjekdfncnmbfaaNa20
import Derived.Test.YtcjekdfncnmbfaaNa21
import Derived.Test.YtcjekdfncnmbfaaNa22
import Derived.Test.YtcjekdfncnmbfaaNa12
import Derived.Test.YtcjekdfncnmbfaaNa17
import Derived.Test.YtcjekdfncnmbfaaNa0
import Derived.Test.YtcjekdfncnmbfaaNa1
import Derived.Test.YtcjekdfncnmbfaaNa2
import Derived.Test.YtcjekdfncnmbfaaNa3
import Derived.Test.YtcjekdfncnmbfaaNa4
import Derived.Test.YtcjekdfncnmbfaaNa5
import Derived.Test.YtcjekdfncnmbfaaNa6
import Derived.Test.YtcjekdfncnmbfaaNa7
import Derived.Test.YtcjekdfncnmbfaaNa8
import Derived.Test.YtcjekdfncnmbfaaNa9
import Derived.Test.YtcjekdfncnmbfaaProg
import Derived.Test.YtcjekdfncnmbfaaRows
set_option linter.unusedVariables false
set_option linter.unusedSimpArgs false
set_option linter.unusedVariables false
set_option linter.unusedSimpArgs false
namespace Go.Fz
open Go.Proofs
set_option maxRecDepth 100000
def wdS (y : YardD) (h : Hp) (XB XC : AV) (n : Nat) : St := ⟨h ++ [(1, .cells none false [iV y.last, iV y.hands, XB, XC]), (0, .cells none false (yardC y))], n⟩
def wdL (b1 b2 b3 : Int) : List (Nat × AV) := [(1, .lit (.int .u8 b1)), (2, .lit (.int .u8 b2)), (3, .lit (.int .u8 b3)), (4, .ptr 0 0), (9, .ptr 1 0)]
theorem wd_fin {y : YardD} {b1 b2 b3 : Int} {nC : Nat} {eC : Bool} {GB GC : List AV} {f1 : Fm} {st1 : St} (hBb : ∀ a ∈ GB, Below 0 a) (hCb : ∀ a ∈ GC, Below 0 a) (a b : Nat)
    (hinj : ([3, 2, 1, 0].all fun p => [3, 2, 1, 0].all fun q => !(Nat.beq (tabR [(2, a), (3, b)] p) (tabR [(2, a), (3, b)] q)) || Nat.beq p q) = true)
    (h1 : 211 = f1.ts.len) (h2 : [] = f1.dm) (e1 : f1.ts.get 1 = .lit (.int .u8 b1)) (e2 : f1.ts.get 2 = .lit (.int .u8 b2)) (e3 : f1.ts.get 3 = .lit (.int .u8 b3)) (e4 : f1.ts.get 4 = .ptr 0 0) (e9 : f1.ts.get 9 = .ptr 1 0)
    (s3 : st1.h.get b = some (.cells none false GC)) (s2 : st1.h.get a = some (.cells none false GB)) (s1 : st1.h.get 1 = some (.cells none false [iV y.last, iV y.hands, .sl a 0 y.nb 3 false, .sl b 0 nC 3 eC])) (s0 : st1.h.get 0 = some (.cells none false (yardC y))) :
    ∃ ρ f2 st2, WeakR 2 ρ f1 st1 f2 st2 ∧ midK 211 (wdL b1 b2 b3) (wdS y [(3, .cells none false GC), (2, .cells none false GB)] (.sl 2 0 y.nb 3 false) (.sl 3 0 nC 3 eC) 4) .normal f2 st2 := by
  refine ⟨tabR [(2, a), (3, b)], ⟨⟨211, getT (wdL b1 b2 b3)⟩, []⟩, wdS y [(3, .cells none false GC), (2, .cells none false GB)] (.sl 2 0 y.nb 3 false) (.sl 3 0 nC 3 eC) 4, ?_, rfl, _, rfl, ⟨rfl, rfl, rfl, rfl, rfl, trivial⟩, rfl⟩
  refine WeakR.tab h1 h2 (by simp) (by rfl) (by show 2 ≤ 4; omega) hinj ⟨by show RenV _ 4 (.lit (.int .u8 b1)) (f1.ts.get 1); rw [e1]; exact RenV.closed Below.lit, by show RenV _ 4 (.lit (.int .u8 b2)) (f1.ts.get 2); rw [e2]; exact RenV.closed Below.lit, by show RenV _ 4 (.lit (.int .u8 b3)) (f1.ts.get 3); rw [e3]; exact RenV.closed Below.lit, by show RenV _ 4 (.ptr 0 0) (f1.ts.get 4); rw [e4]; exact RenV.ptr (ρ := tabR [(2, a), (3, b)]) (j := 0) (by omega), by show RenV _ 4 (.ptr 1 0) (f1.ts.get 9); rw [e9]; exact RenV.ptr (ρ := tabR [(2, a), (3, b)]) (j := 1) (by omega), trivial⟩ ⟨⟨by omega, _, s3, .cells (RenVs.closed hCb), rfl⟩, ⟨by omega, _, s2, .cells (RenVs.closed hBb), rfl⟩, ⟨by omega, _, s1, .cells (.cons (RenV.closed Below.lit) (.cons (RenV.closed Below.lit) (.cons (RenV.sl (ρ := tabR [(2, a), (3, b)]) (j := 2) (by omega)) (.cons (RenV.sl (ρ := tabR [(2, a), (3, b)]) (j := 3) (by omega)) .nil)))), rfl⟩, ⟨by omega, _, s0, .cells (RenVs.closed (yardC_below y)), rfl⟩, trivial⟩
set_option maxHeartbeats 32000000 in
theorem wd_4z (y : YardD) (b1 b2 b3 : Int) (GB : List AV) (hGB : GB = flatG 3 (bedC y) y.nb) (h0 : 0 < y.nb) (hnb : y.nb < 1048576) (hc : y.nc = 0) (g : Nat → AV) (h : AllP (fun p => g p.1 = p.2) (wdL b1 b2 b3)) :
    SW Try.prog none (nthC 3 (bodyF Try.f12)) (midK 211 (wdL b1 b2 b3) (wdS y [(3, .cells none false []), (2, .cells none false GB)] (.sl 2 0 y.nb 3 false) (.sl 3 0 0 3 true) 4)) ⟨⟨211, g⟩, []⟩ (wdS y [] (bedsV y) (clmsV y) 2) := by
  obtain ⟨O, hO⟩ : ∃ O : Ar, O = std := ⟨_, rfl⟩
  obtain ⟨g1, g2, g3, g4, g9, _⟩ := h
  simp only at g1 g2 g3 g4 g9
  rw [← updT_self g1, ← updT_self g2, ← updT_self g3, ← updT_self g4, ← updT_self g9]
  have hBb : ∀ a ∈ GB, Below 0 a := by rw [hGB]; exact flatG_below (fun i j => bedC_below y i j) _
  have hCb : ∀ a ∈ ([] : List AV), Below 0 a := fun a h => by cases h
  refine SW.ren ?_
  refine SW.runD tok mixed hO (by kernel_rfl) (by cbv <;> rfl) (by trivial) ?_
  refine AnyE.many [0, 4] (by cbv <;> rfl) (by rfl) ⟨?_, ?_, trivial⟩
  · refine PickE.eff tok hO (by cbv <;> rfl) (by cbv <;> rfl) (by trivial) ?_ ?_
    · exact (by repeat (first | exact trivial | refine And.intro (by first | exact lv_of hO (by cbv <;> rfl) (by trivial) | (cbv <;> rfl)) ?_))
    refine AnyE.run tok hO (by rfl) (by cbv <;> rfl) (by trivial) ?_
    refine AnyE.many [3, 4] (by cbv <;> rfl) (by rfl) ⟨?_, ?_, trivial⟩
    · refine PickE.app tok (by cbv <;> rfl) (by cbv <;> rfl) (append_emptyG (by kernel_rfl) (by rfl) hnb h0 (fun i k => bedC_one y i k) hGB) ?_ ?_
      · exact (by repeat (first | exact trivial | refine And.intro (by first | exact lv_of hO (by cbv <;> rfl) (by trivial) | (cbv <;> rfl)) ?_))
      refine AnyE.run tok hO (by rfl) (by cbv <;> rfl) (by trivial) ?_
      refine AnyE.effK tok hO (by cbv <;> rfl) (by cbv <;> rfl) (by trivial) ?_ ?_
      · exact (by repeat (first | exact trivial | refine And.intro (by first | exact lv_of hO (by cbv <;> rfl) (by trivial) | (cbv <;> rfl)) ?_))
      refine AnyE.run tok hO (by rfl) (by cbv <;> rfl) (by trivial) ?_
      refine AnyE.appK tok (by cbv <;> rfl) (by cbv <;> rfl) (append_noneZ hc (by kernel_rfl) (by rfl)) ?_ ?_
      · exact (by repeat (first | exact trivial | refine And.intro (by first | exact lv_of hO (by cbv <;> rfl) (by trivial) | (cbv <;> rfl)) ?_))
      refine AnyE.run tok hO (by rfl) (by cbv <;> rfl) (by trivial) ?_
      refine AnyE.effK tok hO (by cbv <;> rfl) (by cbv <;> rfl) (by trivial) ?_ ?_
      · exact (by repeat (first | exact trivial | refine And.intro (by first | exact lv_of hO (by cbv <;> rfl) (by trivial) | (cbv <;> rfl)) ?_))
      refine AnyE.run tok hO (by rfl) (by cbv <;> rfl) (by trivial) ?_
      refine AnyE.effK tok hO (by cbv <;> rfl) (by cbv <;> rfl) (by trivial) ?_ ?_
      · exact (by repeat (first | exact trivial | refine And.intro (by first | exact lv_of hO (by cbv <;> rfl) (by trivial) | (cbv <;> rfl)) ?_))
      refine AnyE.run tok hO (by rfl) (by cbv <;> rfl) (by trivial) ?_
      exact wd_fin hBb hCb 3 4 rfl rfl rfl rfl rfl rfl rfl rfl rfl rfl rfl rfl
    · refine PickE.eff tok hO (by cbv <;> rfl) (by cbv <;> rfl) (by trivial) ?_ ?_
      · exact (by repeat (first | exact trivial | refine And.intro (by first | exact lv_of hO (by cbv <;> rfl) (by trivial) | (cbv <;> rfl)) ?_))
      refine AnyE.run tok hO (by rfl) (by cbv <;> rfl) (by trivial) ?_
      refine AnyE.appK tok (by cbv <;> rfl) (by cbv <;> rfl) (append_emptyG (by kernel_rfl) (by rfl) hnb h0 (fun i k => bedC_one y i k) hGB) ?_ ?_
      · exact (by repeat (first | exact trivial | refine And.intro (by first | exact lv_of hO (by cbv <;> rfl) (by trivial) | (cbv <;> rfl)) ?_))
      refine AnyE.run tok hO (by rfl) (by cbv <;> rfl) (by trivial) ?_
      refine AnyE.appK tok (by cbv <;> rfl) (by cbv <;> rfl) (append_noneZ hc (by kernel_rfl) (by rfl)) ?_ ?_
      · exact (by repeat (first | exact trivial | refine And.intro (by first | exact lv_of hO (by cbv <;> rfl) (by trivial) | (cbv <;> rfl)) ?_))
      refine AnyE.run tok hO (by rfl) (by cbv <;> rfl) (by trivial) ?_
      refine AnyE.effK tok hO (by cbv <;> rfl) (by cbv <;> rfl) (by trivial) ?_ ?_
      · exact (by repeat (first | exact trivial | refine And.intro (by first | exact lv_of hO (by cbv <;> rfl) (by trivial) | (cbv <;> rfl)) ?_))
      refine AnyE.run tok hO (by rfl) (by cbv <;> rfl) (by trivial) ?_
      refine AnyE.effK tok hO (by cbv <;> rfl) (by cbv <;> rfl) (by trivial) ?_ ?_
      · exact (by repeat (first | exact trivial | refine And.intro (by first | exact lv_of hO (by cbv <;> rfl) (by trivial) | (cbv <;> rfl)) ?_))
      refine AnyE.run tok hO (by rfl) (by cbv <;> rfl) (by trivial) ?_
      exact wd_fin hBb hCb 4 3 rfl rfl rfl rfl rfl rfl rfl rfl rfl rfl rfl rfl
  · refine PickE.eff tok hO (by cbv <;> rfl) (by cbv <;> rfl) (by trivial) ?_ ?_
    · exact (by repeat (first | exact trivial | refine And.intro (by first | exact lv_of hO (by cbv <;> rfl) (by trivial) | (cbv <;> rfl)) ?_))
    refine AnyE.run tok hO (by rfl) (by cbv <;> rfl) (by trivial) ?_
    refine AnyE.effK tok hO (by cbv <;> rfl) (by cbv <;> rfl) (by trivial) ?_ ?_
    · exact (by repeat (first | exact trivial | refine And.intro (by first | exact lv_of hO (by cbv <;> rfl) (by trivial) | (cbv <;> rfl)) ?_))
    refine AnyE.run tok hO (by rfl) (by cbv <;> rfl) (by trivial) ?_
    refine AnyE.appK tok (by cbv <;> rfl) (by cbv <;> rfl) (append_emptyG (by kernel_rfl) (by rfl) hnb h0 (fun i k => bedC_one y i k) hGB) ?_ ?_
    · exact (by repeat (first | exact trivial | refine And.intro (by first | exact lv_of hO (by cbv <;> rfl) (by trivial) | (cbv <;> rfl)) ?_))
    refine AnyE.run tok hO (by rfl) (by cbv <;> rfl) (by trivial) ?_
    refine AnyE.appK tok (by cbv <;> rfl) (by cbv <;> rfl) (append_noneZ hc (by kernel_rfl) (by rfl)) ?_ ?_
    · exact (by repeat (first | exact trivial | refine And.intro (by first | exact lv_of hO (by cbv <;> rfl) (by trivial) | (cbv <;> rfl)) ?_))
    refine AnyE.run tok hO (by rfl) (by cbv <;> rfl) (by trivial) ?_
    refine AnyE.effK tok hO (by cbv <;> rfl) (by cbv <;> rfl) (by trivial) ?_ ?_
    · exact (by repeat (first | exact trivial | refine And.intro (by first | exact lv_of hO (by cbv <;> rfl) (by trivial) | (cbv <;> rfl)) ?_))
    refine AnyE.run tok hO (by rfl) (by cbv <;> rfl) (by trivial) ?_
    refine AnyE.effK tok hO (by cbv <;> rfl) (by cbv <;> rfl) (by trivial) ?_ ?_
    · exact (by repeat (first | exact trivial | refine And.intro (by first | exact lv_of hO (by cbv <;> rfl) (by trivial) | (cbv <;> rfl)) ?_))
    refine AnyE.run tok hO (by rfl) (by cbv <;> rfl) (by trivial) ?_
    exact wd_fin hBb hCb 4 2 rfl rfl rfl rfl rfl rfl rfl rfl rfl rfl rfl rfl
set_option maxHeartbeats 32000000 in
theorem wd_4n (y : YardD) (b1 b2 b3 : Int) (GB : List AV) (hGB : GB = flatG 3 (bedC y) y.nb) (h0 : 0 < y.nb) (hnb : y.nb < 1048576) (GC : List AV) (hGC : GC = flatG 3 (clmC y) y.nc) (hc : 0 < y.nc) (hnc : y.nc < 1048576) (g : Nat → AV) (h : AllP (fun p => g p.1 = p.2) (wdL b1 b2 b3)) :
    SW Try.prog none (nthC 3 (bodyF Try.f12)) (midK 211 (wdL b1 b2 b3) (wdS y [(3, .cells none false GC), (2, .cells none false GB)] (.sl 2 0 y.nb 3 false) (.sl 3 0 y.nc 3 false) 4)) ⟨⟨211, g⟩, []⟩ (wdS y [] (bedsV y) (clmsV y) 2) := by
  obtain ⟨O, hO⟩ : ∃ O : Ar, O = std := ⟨_, rfl⟩
  obtain ⟨g1, g2, g3, g4, g9, _⟩ := h
  simp only at g1 g2 g3 g4 g9
  rw [← updT_self g1, ← updT_self g2, ← updT_self g3, ← updT_self g4, ← updT_self g9]
  have hBb : ∀ a ∈ GB, Below 0 a := by rw [hGB]; exact flatG_below (fun i j => bedC_below y i j) _
  have hCb : ∀ a ∈ GC, Below 0 a := by rw [hGC]; exact flatG_below (fun i j => clmC_below y i j) _
  refine SW.ren ?_
  refine SW.runD tok mixed hO (by kernel_rfl) (by cbv <;> rfl) (by trivial) ?_
  refine AnyE.many [0, 4] (by cbv <;> rfl) (by rfl) ⟨?_, ?_, trivial⟩
  · refine PickE.eff tok hO (by cbv <;> rfl) (by cbv <;> rfl) (by trivial) ?_ ?_
    · exact (by repeat (first | exact trivial | refine And.intro (by first | exact lv_of hO (by cbv <;> rfl) (by trivial) | (cbv <;> rfl)) ?_))
    refine AnyE.run tok hO (by rfl) (by cbv <;> rfl) (by trivial) ?_
    refine AnyE.many [3, 4] (by cbv <;> rfl) (by rfl) ⟨?_, ?_, trivial⟩
    · refine PickE.app tok (by cbv <;> rfl) (by cbv <;> rfl) (append_emptyG (by kernel_rfl) (by rfl) hnb h0 (fun i k => bedC_one y i k) hGB) ?_ ?_
      · exact (by repeat (first | exact trivial | refine And.intro (by first | exact lv_of hO (by cbv <;> rfl) (by trivial) | (cbv <;> rfl)) ?_))
      refine AnyE.run tok hO (by rfl) (by cbv <;> rfl) (by trivial) ?_
      refine AnyE.effK tok hO (by cbv <;> rfl) (by cbv <;> rfl) (by trivial) ?_ ?_
      · exact (by repeat (first | exact trivial | refine And.intro (by first | exact lv_of hO (by cbv <;> rfl) (by trivial) | (cbv <;> rfl)) ?_))
      refine AnyE.run tok hO (by rfl) (by cbv <;> rfl) (by trivial) ?_
      refine AnyE.appK tok (by cbv <;> rfl) (by cbv <;> rfl) (append_emptyG (by kernel_rfl) (by rfl) hnc hc (fun i k => clmC_one y i k) hGC) ?_ ?_
      · exact (by repeat (first | exact trivial | refine And.intro (by first | exact lv_of hO (by cbv <;> rfl) (by trivial) | (cbv <;> rfl)) ?_))
      refine AnyE.run tok hO (by rfl) (by cbv <;> rfl) (by trivial) ?_
      refine AnyE.effK tok hO (by cbv <;> rfl) (by cbv <;> rfl) (by trivial) ?_ ?_
      · exact (by repeat (first | exact trivial | refine And.intro (by first | exact lv_of hO (by cbv <;> rfl) (by trivial) | (cbv <;> rfl)) ?_))
      refine AnyE.run tok hO (by rfl) (by cbv <;> rfl) (by trivial) ?_
      refine AnyE.effK tok hO (by cbv <;> rfl) (by cbv <;> rfl) (by trivial) ?_ ?_
      · exact (by repeat (first | exact trivial | refine And.intro (by first | exact lv_of hO (by cbv <;> rfl) (by trivial) | (cbv <;> rfl)) ?_))
      refine AnyE.run tok hO (by rfl) (by cbv <;> rfl) (by trivial) ?_
      exact wd_fin hBb hCb 3 5 rfl rfl rfl rfl rfl rfl rfl rfl rfl rfl rfl rfl
    · refine PickE.eff tok hO (by cbv <;> rfl) (by cbv <;> rfl) (by trivial) ?_ ?_
      · exact (by repeat (first | exact trivial | refine And.intro (by first | exact lv_of hO (by cbv <;> rfl) (by trivial) | (cbv <;> rfl)) ?_))
      refine AnyE.run tok hO (by rfl) (by cbv <;> rfl) (by trivial) ?_
      refine AnyE.appK tok (by cbv <;> rfl) (by cbv <;> rfl) (append_emptyG (by kernel_rfl) (by rfl) hnb h0 (fun i k => bedC_one y i k) hGB) ?_ ?_
      · exact (by repeat (first | exact trivial | refine And.intro (by first | exact lv_of hO (by cbv <;> rfl) (by trivial) | (cbv <;> rfl)) ?_))
      refine AnyE.run tok hO (by rfl) (by cbv <;> rfl) (by trivial) ?_
      refine AnyE.appK tok (by cbv <;> rfl) (by cbv <;> rfl) (append_emptyG (by kernel_rfl) (by rfl) hnc hc (fun i k => clmC_one y i k) hGC) ?_ ?_
      · exact (by repeat (first | exact trivial | refine And.intro (by first | exact lv_of hO (by cbv <;> rfl) (by trivial) | (cbv <;> rfl)) ?_))
      refine AnyE.run tok hO (by rfl) (by cbv <;> rfl) (by trivial) ?_
      refine AnyE.effK tok hO (by cbv <;> rfl) (by cbv <;> rfl) (by trivial) ?_ ?_
      · exact (by repeat (first | exact trivial | refine And.intro (by first | exact lv_of hO (by cbv <;> rfl) (by trivial) | (cbv <;> rfl)) ?_))
      refine AnyE.run tok hO (by rfl) (by cbv <;> rfl) (by trivial) ?_
      refine AnyE.effK tok hO (by cbv <;> rfl) (by cbv <;> rfl) (by trivial) ?_ ?_
      · exact (by repeat (first | exact trivial | refine And.intro (by first | exact lv_of hO (by cbv <;> rfl) (by trivial) | (cbv <;> rfl)) ?_))
      refine AnyE.run tok hO (by rfl) (by cbv <;> rfl) (by trivial) ?_
      exact wd_fin hBb hCb 4 5 rfl rfl rfl rfl rfl rfl rfl rfl rfl rfl rfl rfl
  · refine PickE.eff tok hO (by cbv <;> rfl) (by cbv <;> rfl) (by trivial) ?_ ?_
    · exact (by repeat (first | exact trivial | refine And.intro (by first | exact lv_of hO (by cbv <;> rfl) (by trivial) | (cbv <;> rfl)) ?_))
    refine AnyE.run tok hO (by rfl) (by cbv <;> rfl) (by trivial) ?_
    refine AnyE.effK tok hO (by cbv <;> rfl) (by cbv <;> rfl) (by trivial) ?_ ?_
    · exact (by repeat (first | exact trivial | refine And.intro (by first | exact lv_of hO (by cbv <;> rfl) (by trivial) | (cbv <;> rfl)) ?_))
    refine AnyE.run tok hO (by rfl) (by cbv <;> rfl) (by trivial) ?_
    refine AnyE.appK tok (by cbv <;> rfl) (by cbv <;> rfl) (append_emptyG (by kernel_rfl) (by rfl) hnb h0 (fun i k => bedC_one y i k) hGB) ?_ ?_
    · exact (by repeat (first | exact trivial | refine And.intro (by first | exact lv_of hO (by cbv <;> rfl) (by trivial) | (cbv <;> rfl)) ?_))
    refine AnyE.run tok hO (by rfl) (by cbv <;> rfl) (by trivial) ?_
    refine AnyE.appK tok (by cbv <;> rfl) (by cbv <;> rfl) (append_emptyG (by kernel_rfl) (by rfl) hnc hc (fun i k => clmC_one y i k) hGC) ?_ ?_
    · exact (by repeat (first | exact trivial | refine And.intro (by first | exact lv_of hO (by cbv <;> rfl) (by trivial) | (cbv <;> rfl)) ?_))
    refine AnyE.run tok hO (by rfl) (by cbv <;> rfl) (by trivial) ?_
    refine AnyE.effK tok hO (by cbv <;> rfl) (by cbv <;> rfl) (by trivial) ?_ ?_
    · exact (by repeat (first | exact trivial | refine And.intro (by first | exact lv_of hO (by cbv <;> rfl) (by trivial) | (cbv <;> rfl)) ?_))
    refine AnyE.run tok hO (by rfl) (by cbv <;> rfl) (by trivial) ?_
    refine AnyE.effK tok hO (by cbv <;> rfl) (by cbv <;> rfl) (by trivial) ?_ ?_
    · exact (by repeat (first | exact trivial | refine And.intro (by first | exact lv_of hO (by cbv <;> rfl) (by trivial) | (cbv <;> rfl)) ?_))
    refine AnyE.run tok hO (by rfl) (by cbv <;> rfl) (by trivial) ?_
    exact wd_fin hBb hCb 4 5 rfl rfl rfl rfl rfl rfl rfl rfl rfl rfl rfl rfl
set_option maxHeartbeats 8000000 in
theorem wd_not (haw : Pure Try.prog 18 [] (.lit (.bool true))) (y : YardD) (b1 b2 b3 : Int) (e45 : Pure Try.prog 45 [yardV y] (.sb false)) : Pure Try.prog 12 [yardV y, .lit (.int .u8 b1), .lit (.int .u8 b2), .lit (.int .u8 b3)] (.lit (.bool true)) := by
  obtain ⟨O, hO⟩ : ∃ O : Ar, O = std := ⟨_, rfl⟩
  refine pure_of_body tok 3 Try.func12 en12 rfl ⟨yardV_below y, Below.lit, Below.lit, Below.lit, trivial⟩ Below.lit ?_
  refine SW.seqRun tok hO (by cbv <;> rfl) (by trivial) ?_
  refine SW.seq ?_
  refine SW.seqRun tok hO (by cbv <;> rfl) (by trivial) ?_
  refine OpsW.callP e45 (by cbv <;> rfl) ?_
  refine OpsW.run tok hO (by cbv <;> rfl) (by trivial) ?_
  refine OpsW.splitG (by cbv <;> rfl) (fun hw1 => ?_) (fun hw1 => by first | (cases hw1; done) | (subst hO; simp [std] at hw1; done) | (subst hO; simp [std] at hw1; omega))
  refine OpsW.run tok hO (by cbv <;> rfl) (by trivial) ?_
  refine SW.cond (t := true) (by cbv <;> rfl) ?_
  refine SW.seqRun tok hO (by cbv <;> rfl) (by trivial) ?_
  refine OpsW.callP haw (by cbv <;> rfl) ?_
  refine OpsW.run tok hO (by cbv <;> rfl) (by trivial) ?_
  exact SW.ret ⟨_, _, rfl, rfl, Eqv.of rfl⟩
set_option maxHeartbeats 8000000 in
theorem wd_no (haw : Pure Try.prog 18 [] (.lit (.bool true))) (y : YardD) (b1 b2 b3 : Int) (hz : y.nb = 0) (e45 : Pure Try.prog 45 [yardV y] (.sb true)) : Pure Try.prog 12 [yardV y, .lit (.int .u8 b1), .lit (.int .u8 b2), .lit (.int .u8 b3)] (.lit (.bool true)) := by
  obtain ⟨O, hO⟩ : ∃ O : Ar, O = std := ⟨_, rfl⟩
  refine pure_of_body tok 3 Try.func12 en12 rfl ⟨yardV_below y, Below.lit, Below.lit, Below.lit, trivial⟩ Below.lit ?_
  refine SW.seqRun tok hO (by cbv <;> rfl) (by trivial) ?_
  refine SW.seq ?_
  refine SW.seqRun tok hO (by cbv <;> rfl) (by trivial) ?_
  refine OpsW.callP e45 (by cbv <;> rfl) ?_
  refine OpsW.run tok hO (by cbv <;> rfl) (by trivial) ?_
  refine OpsW.splitG (by cbv <;> rfl) (fun hw1 => by first | (cases hw1; done) | (subst hO; simp [std, hz] at hw1; done) | (subst hO; simp [std, hz] at hw1; omega)) (fun hw1 => ?_)
  refine OpsW.run tok hO (by cbv <;> rfl) (by trivial) ?_
  refine SW.condS (by cbv <;> rfl) (fun hw2 => ?_) (fun hw2 => by first | (cases hw2; done) | (subst hO; simp [std, hz] at hw2; done) | (subst hO; simp [std, hz] at hw2; omega))
  refine SW.seqRun tok hO (by cbv <;> rfl) (by trivial) ?_
  refine OpsW.callP haw (by cbv <;> rfl) ?_
  refine OpsW.run tok hO (by cbv <;> rfl) (by trivial) ?_
  exact SW.ret ⟨_, _, rfl, rfl, Eqv.of rfl⟩
set_option maxHeartbeats 8000000 in
theorem wd_pre (y : YardD) (b1 b2 b3 : Int) (hz : ¬ y.nb = 0) (e45 : Pure Try.prog 45 [yardV y] (.sb true))
    (htail : ∀ (gg : Nat → AV), AllP (fun p => gg p.1 = p.2) [(1, .lit (.int .u8 b1)), (2, .lit (.int .u8 b2)), (3, .lit (.int .u8 b3)), (4, .ptr 0 0), (9, .ptr 1 0)] → SW Try.prog none (restC 3 (bodyF Try.f12)) (trueQ3 Try.f12) ⟨⟨211, gg⟩, []⟩ (wdS y [] (bedsV y) (clmsV y) 2)) : Pure Try.prog 12 [yardV y, .lit (.int .u8 b1), .lit (.int .u8 b2), .lit (.int .u8 b3)] (.lit (.bool true)) := by
  obtain ⟨O, hO⟩ : ∃ O : Ar, O = std := ⟨_, rfl⟩
  refine pure_of_body tok 3 Try.func12 en12 rfl ⟨yardV_below y, Below.lit, Below.lit, Below.lit, trivial⟩ Below.lit ?_
  refine SW.seqRun tok hO (by cbv <;> rfl) (by trivial) ?_
  refine SW.seq ?_
  refine SW.seqRun tok hO (by cbv <;> rfl) (by trivial) ?_
  refine OpsW.callP e45 (by cbv <;> rfl) ?_
  refine OpsW.run tok hO (by cbv <;> rfl) (by trivial) ?_
  refine OpsW.splitG (by cbv <;> rfl) (fun hw1 => by first | (cases hw1; done) | (subst hO; simp [std, hz] at hw1; done) | (subst hO; simp [std, hz] at hw1; omega)) (fun hw1 => ?_)
  refine OpsW.run tok hO (by cbv <;> rfl) (by trivial) ?_
  refine SW.condS (by cbv <;> rfl) (fun hw2 => by first | (cases hw2; done) | (subst hO; simp [std, hz] at hw2; done) | (subst hO; simp [std, hz] at hw2; omega)) (fun hw2 => SW.skip ?_)
  refine SW.seqRun tok hO (by cbv <;> rfl) (by trivial) ?_
  exact htail _ ⟨rfl, rfl, rfl, rfl, rfl, trivial⟩
end Go.Fz
set_option linter.unusedVariables false
set_option linter.unusedSimpArgs false
namespace Go.Fz
open Go.Proofs
set_option maxRecDepth 100000
set_option maxHeartbeats 16000000 in
theorem wd_5 (y : YardD) (b1 b2 b3 : Int) (nC : Nat) (eC : Bool) (G GC : List AV) (k : Nat) (hk : k < y.nb) (O : Ar) (hO : O = std) (hK : O.bin .rem .i64 (O.conv .i64 b1) (Int.ofNat y.nb) = Int.ofNat k)
    (htail : ∀ q, q = 0 + k * 3 → ∀ (gg : Nat → AV), AllP (fun p => gg p.1 = p.2) [(1, .lit (.int .u8 b1)), (2, .lit (.int .u8 b2)), (3, .lit (.int .u8 b3)), (4, .ptr 0 0), (9, .ptr 1 0), (10, .ptr 2 q)] → SW Try.prog none (restC 5 (bodyF Try.f12)) (trueQ3 Try.f12) ⟨⟨211, gg⟩, []⟩ (wdS y [(3, .cells none false GC), (2, .cells none false G)] (.sl 2 0 y.nb 3 false) (.sl 3 0 nC 3 eC) 4))
    (gg : Nat → AV) (h : AllP (fun p => gg p.1 = p.2) [(1, .lit (.int .u8 b1)), (2, .lit (.int .u8 b2)), (3, .lit (.int .u8 b3)), (4, .ptr 0 0), (9, .ptr 1 0)]) : SW Try.prog none (restC 4 (bodyF Try.f12)) (trueQ3 Try.f12) ⟨⟨211, gg⟩, []⟩ (wdS y [(3, .cells none false GC), (2, .cells none false G)] (.sl 2 0 y.nb 3 false) (.sl 3 0 nC 3 eC) 4) := by
  obtain ⟨g1, g2, g3, g4, g5, _⟩ := h
  simp only at g1 g2 g3 g4 g5
  rw [← updT_self g1, ← updT_self g2, ← updT_self g3, ← updT_self g4, ← updT_self g5]
  have hne : Int.ofNat y.nb ≠ 0 := by
    have : (y.nb : Int) ≠ 0 := by omega
    exact this
  refine (show SW Try.prog none (.seq (.region _ _ _) _) _ _ _ from ?_)
  refine SW.seqRunD tok mixed hO (by kernel_rfl) (by cbv <;> rfl) (by repeat (first | exact trivial | exact hne | (show (_ : Int) ≠ 0; decide) | refine ⟨?_, ?_⟩)) ?_
  refine AnyE.idxSl tok 8 (n := k) (by rfl) ((show idxAt _ 8 _ = some (22, .sl 2 0 y.nb 3 false, .lit (.int .i64 (O.bin .rem .i64 (O.conv .i64 b1) (Int.ofNat y.nb)))) from by cbv <;> rfl).trans (congrArg (fun z => some (22, AV.sl 2 0 y.nb 3 false, AV.lit (.int .i64 z))) hK)) (by kernel_rfl) hk (by cbv <;> rfl) fun q hq => ?_
  refine AnyE.run tok hO (by rfl) (by cbv <;> rfl) (by trivial) ?_
  exact htail q hq _ ⟨rfl, rfl, rfl, rfl, rfl, rfl, trivial⟩
set_option maxHeartbeats 16000000 in
theorem wd_7 (y : YardD) (b1 b2 b3 : Int) (nC : Nat) (eC : Bool) (G GC : List AV) (q : Nat) (lg : Int) (hl : G[q + 0]? = some (iV lg)) (hlen : q + 0 + 1 ≤ G.length) (O : Ar) (hO : O = std)
    (htail : ∀ G1, G1 = G.set (q + 0) (iV (O.mx 1 (O.bin .sub .i64 lg (O.bin .rem .i64 (O.bin .quo .i64 (O.conv .i64 b2) 4) 2)))) → ∀ (gg : Nat → AV), AllP (fun p => gg p.1 = p.2) [(1, .lit (.int .u8 b1)), (2, .lit (.int .u8 b2)), (3, .lit (.int .u8 b3)), (4, .ptr 0 0), (9, .ptr 1 0)] → SW Try.prog none (restC 7 (bodyF Try.f12)) (trueQ3 Try.f12) ⟨⟨211, gg⟩, []⟩ (wdS y [(3, .cells none false GC), (2, .cells none false G1)] (.sl 2 0 y.nb 3 false) (.sl 3 0 nC 3 eC) 4))
    (gg : Nat → AV) (h : AllP (fun p => gg p.1 = p.2) [(1, .lit (.int .u8 b1)), (2, .lit (.int .u8 b2)), (3, .lit (.int .u8 b3)), (4, .ptr 0 0), (9, .ptr 1 0), (10, .ptr 2 q)]) : SW Try.prog none (restC 6 (bodyF Try.f12)) (trueQ3 Try.f12) ⟨⟨211, gg⟩, []⟩ (wdS y [(3, .cells none false GC), (2, .cells none false G)] (.sl 2 0 y.nb 3 false) (.sl 3 0 nC 3 eC) 4) := by
  obtain ⟨g1, g2, g3, g4, g5, g6, _⟩ := h
  simp only at g1 g2 g3 g4 g5 g6
  rw [← updT_self g1, ← updT_self g2, ← updT_self g3, ← updT_self g4, ← updT_self g5, ← updT_self g6]
  refine (show SW Try.prog none (.seq (.region _ _ _) _) _ _ _ from ?_)
  refine SW.seq (SW.runN tok hO 2 (by cbv <;> rfl) (by trivial) ?_)
  refine OpsW.nilC (by cbv <;> rfl) ?_
  refine OpsW.runN tok hO 1 (by cbv <;> rfl) (by trivial) ?_
  refine OpsW.ldI tok (by cbv <;> rfl) (load_at (by kernel_rfl) (by rfl) hl) ?_
  refine OpsW.runN tok hO 6 (by cbv <;> rfl) (by repeat (first | exact trivial | (show (_ : Int) ≠ 0; decide) | refine ⟨?_, ?_⟩)) ?_
  refine OpsW.nilC (by cbv <;> rfl) ?_
  refine OpsW.runN tok hO 1 (by cbv <;> rfl) (by trivial) ?_
  refine OpsW.stoG (id := 2) (n := 1) (G := G) (cs := [iV (O.mx 1 (O.bin .sub .i64 lg (O.bin .rem .i64 (O.bin .quo .i64 (O.conv .i64 b2) 4) 2)))]) tok (by cbv <;> rfl) (by kernel_rfl) (by rfl) (by rfl) (by omega) (by rfl) (by rfl) (by rfl) hlen fun G1 hG1 => ?_
  refine OpsW.run tok hO (by cbv <;> rfl) (by trivial) ?_
  exact htail G1 hG1 _ ⟨rfl, rfl, rfl, rfl, rfl, trivial⟩
set_option maxHeartbeats 8000000 in
theorem wd_8z (y : YardD) (b1 b2 b3 : Int) (nC : Nat) (eC : Bool) (hc : y.nc = 0) (G GC : List AV) (O : Ar) (hO : O = std)
    (htail : ∀ (gg : Nat → AV), AllP (fun p => gg p.1 = p.2) [(3, .lit (.int .u8 b3)), (4, .ptr 0 0), (9, .ptr 1 0)] → SW Try.prog none (restC 8 (bodyF Try.f12)) (trueQ3 Try.f12) ⟨⟨211, gg⟩, []⟩ (wdS y [(3, .cells none false GC), (2, .cells none false G)] (.sl 2 0 y.nb 3 false) (.sl 3 0 nC 3 eC) 4))
    (gg : Nat → AV) (h : AllP (fun p => gg p.1 = p.2) [(1, .lit (.int .u8 b1)), (2, .lit (.int .u8 b2)), (3, .lit (.int .u8 b3)), (4, .ptr 0 0), (9, .ptr 1 0)]) : SW Try.prog none (restC 7 (bodyF Try.f12)) (trueQ3 Try.f12) ⟨⟨211, gg⟩, []⟩ (wdS y [(3, .cells none false GC), (2, .cells none false G)] (.sl 2 0 y.nb 3 false) (.sl 3 0 nC 3 eC) 4) := by
  obtain ⟨g1, g2, g3, g4, g5, _⟩ := h
  simp only at g1 g2 g3 g4 g5
  rw [← updT_self g1, ← updT_self g2, ← updT_self g3, ← updT_self g4, ← updT_self g5]
  refine (show SW Try.prog none (.seq (.seq (.region _ _ _) _) _) _ _ _ from ?_)
  refine SW.seq ?_
  refine SW.seqRun tok hO (by cbv <;> rfl) (by trivial) ?_
  refine SW.seqRun tok hO (by cbv <;> rfl) (by trivial) ?_
  refine SW.condS (by cbv <;> rfl) (fun h => ?_) (fun _ => SW.skip ?_)
  · exfalso
    subst hO
    simp [std, hc] at h
  exact htail _ ⟨rfl, rfl, rfl, trivial⟩
end Go.Fz
set_option linter.unusedVariables false
set_option linter.unusedSimpArgs false
namespace Go.Fz
open Go.Proofs
set_option maxRecDepth 100000
set_option maxHeartbeats 32000000 in
theorem wd_6 (y : YardD) (b1 b2 b3 : Int) (nC : Nat) (eC : Bool) (G GC : List AV) (q : Nat) (lo hi : Int) (hl0 : G[q + 1 + 0]? = some (iV lo)) (hl1 : G[q + 1 + 1]? = some (iV hi)) (hlen : q + 1 + 2 ≤ G.length) (O : Ar) (hO : O = std)
    (htail : ∀ G1, G1 = (G.set (q + 1) (iV (O.mx 0 (O.bin .sub .i64 lo (O.bin .rem .i64 (O.conv .i64 b2) 2))))).set (q + 1 + 1) (iV (O.mn y.last (O.bin .add .i64 hi (O.bin .rem .i64 (O.bin .quo .i64 (O.conv .i64 b2) 2) 2)))) → ∀ (gg : Nat → AV), AllP (fun p => gg p.1 = p.2) [(1, .lit (.int .u8 b1)), (2, .lit (.int .u8 b2)), (3, .lit (.int .u8 b3)), (4, .ptr 0 0), (9, .ptr 1 0), (10, .ptr 2 q)] → SW Try.prog none (restC 6 (bodyF Try.f12)) (trueQ3 Try.f12) ⟨⟨211, gg⟩, []⟩ (wdS y [(3, .cells none false GC), (2, .cells none false G1)] (.sl 2 0 y.nb 3 false) (.sl 3 0 nC 3 eC) 4))
    (gg : Nat → AV) (h : AllP (fun p => gg p.1 = p.2) [(1, .lit (.int .u8 b1)), (2, .lit (.int .u8 b2)), (3, .lit (.int .u8 b3)), (4, .ptr 0 0), (9, .ptr 1 0), (10, .ptr 2 q)]) : SW Try.prog none (restC 5 (bodyF Try.f12)) (trueQ3 Try.f12) ⟨⟨211, gg⟩, []⟩ (wdS y [(3, .cells none false GC), (2, .cells none false G)] (.sl 2 0 y.nb 3 false) (.sl 3 0 nC 3 eC) 4) := by
  obtain ⟨g1, g2, g3, g4, g5, g6, _⟩ := h
  simp only at g1 g2 g3 g4 g5 g6
  rw [← updT_self g1, ← updT_self g2, ← updT_self g3, ← updT_self g4, ← updT_self g5, ← updT_self g6]
  refine (show SW Try.prog none (.seq (.region _ _ _) _) _ _ _ from ?_)
  refine SW.seqRunD tok mixed hO (by kernel_rfl) (by cbv <;> rfl) (by repeat (first | exact trivial | (show (_ : Int) ≠ 0; decide) | refine ⟨?_, ?_⟩)) ?_
  refine AnyE.many [2, 14] (by cbv <;> rfl) (by rfl) ⟨?_, ?_, trivial⟩
  · refine PickE.nilC (by cbv <;> rfl) (by cbv <;> rfl) ?_ ?_
    · exact (by repeat (first | exact trivial | refine And.intro (by first | exact lv_of hO (by cbv <;> rfl) (by repeat (first | exact trivial | (show (_ : Int) ≠ 0; decide) | refine ⟨?_, ?_⟩)) | (cbv <;> rfl)) ?_))
    refine AnyE.runN tok hO 2 (by rfl) (by cbv <;> rfl) (by trivial) ?_
    refine AnyE.ldD tok (by rfl) 5 (by cbv <;> rfl) (load_at (by kernel_rfl) (by rfl) hl0) (by kernel_rfl) ?_
    refine AnyE.run tok hO (by rfl) (by cbv <;> rfl) (by trivial) ?_
    refine AnyE.nilC (by cbv <;> rfl) (by cbv <;> rfl) ?_
    refine AnyE.runN tok hO 2 (by rfl) (by cbv <;> rfl) (by trivial) ?_
    refine AnyE.ldD tok (by rfl) 17 (by cbv <;> rfl) (load_at (by kernel_rfl) (by rfl) hl1) (by kernel_rfl) ?_
    refine AnyE.run tok hO (by rfl) (by cbv <;> rfl) (by trivial) ?_
    refine AnyE.nilC (by cbv <;> rfl) (by cbv <;> rfl) ?_
    refine AnyE.run tok hO (by rfl) (by cbv <;> rfl) (by trivial) ?_
    refine AnyE.sto2 (id := 2) (G := G) tok (by cbv <;> rfl) (by cbv <;> rfl) (by kernel_rfl) (by rfl) hlen fun G1 hG1 => ?_
    refine AnyE.done (by rfl) ?_
    exact htail G1 hG1 _ ⟨rfl, rfl, rfl, rfl, rfl, rfl, trivial⟩
  · refine PickE.nilC (by cbv <;> rfl) (by cbv <;> rfl) ?_ ?_
    · exact (by repeat (first | exact trivial | refine And.intro (by first | exact lv_of hO (by cbv <;> rfl) (by repeat (first | exact trivial | (show (_ : Int) ≠ 0; decide) | refine ⟨?_, ?_⟩)) | (cbv <;> rfl)) ?_))
    refine AnyE.runN tok hO 2 (by rfl) (by cbv <;> rfl) (by trivial) ?_
    refine AnyE.ldD tok (by rfl) 17 (by cbv <;> rfl) (load_at (by kernel_rfl) (by rfl) hl1) (by kernel_rfl) ?_
    refine AnyE.run tok hO (by rfl) (by cbv <;> rfl) (by trivial) ?_
    refine AnyE.nilC (by cbv <;> rfl) (by cbv <;> rfl) ?_
    refine AnyE.runN tok hO 2 (by rfl) (by cbv <;> rfl) (by trivial) ?_
    refine AnyE.ldD tok (by rfl) 5 (by cbv <;> rfl) (load_at (by kernel_rfl) (by rfl) hl0) (by kernel_rfl) ?_
    refine AnyE.run tok hO (by rfl) (by cbv <;> rfl) (by trivial) ?_
    refine AnyE.nilC (by cbv <;> rfl) (by cbv <;> rfl) ?_
    refine AnyE.run tok hO (by rfl) (by cbv <;> rfl) (by trivial) ?_
    refine AnyE.sto2 (id := 2) (G := G) tok (by cbv <;> rfl) (by cbv <;> rfl) (by kernel_rfl) (by rfl) hlen fun G1 hG1 => ?_
    refine AnyE.done (by rfl) ?_
    exact htail G1 hG1 _ ⟨rfl, rfl, rfl, rfl, rfl, rfl, trivial⟩
end Go.Fz
set_option linter.unusedVariables false
set_option linter.unusedSimpArgs false
namespace Go.Fz
open Go.Proofs
set_option maxRecDepth 100000
set_option maxHeartbeats 32000000 in
theorem wd_8n (y : YardD) (b1 b2 b3 : Int) (hc : 0 < y.nc) (G GC : List AV) (k : Nat) (hk : k < y.nc) (lo hi : Int) (hlen : GC.length = y.nc * 3) (hc0 : GC[k * 3 + 1]? = some (iV lo)) (hc1 : GC[k * 3 + 2]? = some (iV hi)) (O : Ar) (hO : O = std)
    (hK : O.bin .rem .i64 (O.bin .quo .i64 (O.conv .i64 b1) 8) (Int.ofNat y.nc) = Int.ofNat k)
    (htail : ∀ G3, G3 = (GC.set (k * 3 + 1) (iV (O.mx 0 (O.bin .sub .i64 lo (O.bin .rem .i64 (O.bin .quo .i64 (O.conv .i64 b2) 8) 2))))).set (k * 3 + 2) (iV (O.mn y.last (O.bin .add .i64 hi (O.bin .rem .i64 (O.bin .quo .i64 (O.conv .i64 b2) 16) 2)))) → ∀ (gg : Nat → AV), AllP (fun p => gg p.1 = p.2) [(3, .lit (.int .u8 b3)), (4, .ptr 0 0), (9, .ptr 1 0)] → SW Try.prog none (restC 8 (bodyF Try.f12)) (trueQ3 Try.f12) ⟨⟨211, gg⟩, []⟩ (wdS y [(3, .cells none false G3), (2, .cells none false G)] (.sl 2 0 y.nb 3 false) (.sl 3 0 y.nc 3 false) 4))
    (gg : Nat → AV) (h : AllP (fun p => gg p.1 = p.2) [(1, .lit (.int .u8 b1)), (2, .lit (.int .u8 b2)), (3, .lit (.int .u8 b3)), (4, .ptr 0 0), (9, .ptr 1 0)]) : SW Try.prog none (restC 7 (bodyF Try.f12)) (trueQ3 Try.f12) ⟨⟨211, gg⟩, []⟩ (wdS y [(3, .cells none false GC), (2, .cells none false G)] (.sl 2 0 y.nb 3 false) (.sl 3 0 y.nc 3 false) 4) := by
  obtain ⟨g1, g2, g3, g4, g5, _⟩ := h
  simp only at g1 g2 g3 g4 g5
  rw [← updT_self g1, ← updT_self g2, ← updT_self g3, ← updT_self g4, ← updT_self g5]
  have hle : k * 3 + 3 ≤ y.nc * 3 := by
    have := Nat.mul_le_mul_right 3 (show k + 1 ≤ y.nc from hk)
    omega
  have hl0 : ∀ q, q = 0 + k * 3 → GC[q + 1 + 0]? = some (iV lo) := fun q h => by rw [← hc0, h]; congr 1; omega
  have hl1 : ∀ q, q = 0 + k * 3 → GC[q + 1 + 1]? = some (iV hi) := fun q h => by rw [← hc1, h]; congr 1; omega
  have hb0 : ∀ q, q = 0 + k * 3 → q + 1 + 0 < GC.length := fun q h => by rw [hlen, h]; omega
  have hb1 : ∀ q, q = 0 + k * 3 → q + 1 + 1 < GC.length := fun q h => by rw [hlen, h]; omega
  have hfin : ∀ q, q = 0 + k * 3 → ∀ G1, G1 = GC.set (q + 1 + 0) (iV (O.mx 0 (O.bin .sub .i64 lo (O.bin .rem .i64 (O.bin .quo .i64 (O.conv .i64 b2) 8) 2)))) → ∀ G3, G3 = G1.set (q + 1 + 1) (iV (O.mn y.last (O.bin .add .i64 hi (O.bin .rem .i64 (O.bin .quo .i64 (O.conv .i64 b2) 16) 2)))) → G3 = (GC.set (k * 3 + 1) (iV (O.mx 0 (O.bin .sub .i64 lo (O.bin .rem .i64 (O.bin .quo .i64 (O.conv .i64 b2) 8) 2))))).set (k * 3 + 2) (iV (O.mn y.last (O.bin .add .i64 hi (O.bin .rem .i64 (O.bin .quo .i64 (O.conv .i64 b2) 16) 2)))) := fun q hq G1 h1 G3 h3 => by
    rw [h3, h1, show q + 1 + 1 = k * 3 + 2 by omega, show q + 1 + 0 = k * 3 + 1 by omega]
  have hz : O.cmp .gtr (Int.ofNat y.nc) 0 = true := by subst hO; simp [std]; omega
  have hne : Int.ofNat y.nc ≠ 0 := by
    have : (y.nc : Int) ≠ 0 := by omega
    exact this
  refine (show SW Try.prog none (.seq (.seq (.region _ _ _) _) _) _ _ _ from ?_)
  refine SW.seq ?_
  refine SW.seqRun tok hO (by cbv <;> rfl) (by trivial) ?_
  refine SW.seqRun tok hO (by cbv <;> rfl) (by trivial) ?_
  refine SW.condS (by cbv <;> rfl) (fun _ => ?_) (fun h => absurd (show true = false from hz.symm.trans h) (by decide))
  refine SW.seqRunD tok mixed hO (by kernel_rfl) (by cbv <;> rfl) (by repeat (first | exact trivial | exact hne | (show (_ : Int) ≠ 0; decide) | refine ⟨?_, ?_⟩)) ?_
  refine AnyE.idxSl tok 7 (n := k) (by rfl) ((show idxAt _ 7 _ = some (23, .sl 3 0 y.nc 3 false, .lit (.int .i64 (O.bin .rem .i64 (O.bin .quo .i64 (O.conv .i64 b1) 8) (Int.ofNat y.nc)))) from by cbv <;> rfl).trans (congrArg (fun z => some (23, AV.sl 3 0 y.nc 3 false, AV.lit (.int .i64 z))) hK)) (by kernel_rfl) hk (by cbv <;> rfl) fun q hq => ?_
  refine AnyE.run tok hO (by rfl) (by cbv <;> rfl) (by trivial) ?_
  refine SW.runD tok mixed hO (by kernel_rfl) (by cbv <;> rfl) (by repeat (first | exact trivial | exact hne | (show (_ : Int) ≠ 0; decide) | refine ⟨?_, ?_⟩)) ?_
  refine AnyE.many [3, 15] (by cbv <;> rfl) (by rfl) ⟨?_, ?_, trivial⟩
  · refine PickE.nilC (by cbv <;> rfl) (by cbv <;> rfl) ?_ ?_
    · exact (by repeat (first | exact trivial | refine And.intro (by first | exact lv_of hO (by cbv <;> rfl) (by repeat (first | exact trivial | (show (_ : Int) ≠ 0; decide) | refine ⟨?_, ?_⟩)) | (cbv <;> rfl)) ?_))
    refine AnyE.runN tok hO 1 (by rfl) (by cbv <;> rfl) (by trivial) ?_
    refine AnyE.ldD tok (by rfl) 5 (by cbv <;> rfl) (load_at (by kernel_rfl) (by rfl) (hl0 q hq)) (by kernel_rfl) ?_
    refine AnyE.run tok hO (by rfl) (by cbv <;> rfl) (by trivial) ?_
    refine AnyE.nilC (by cbv <;> rfl) (by cbv <;> rfl) ?_
    refine AnyE.runN tok hO 1 (by rfl) (by cbv <;> rfl) (by trivial) ?_
    refine AnyE.ldD tok (by rfl) 17 (by cbv <;> rfl) (load_at (by kernel_rfl) (by rfl) (hl1 q hq)) (by kernel_rfl) ?_
    refine AnyE.run tok hO (by rfl) (by cbv <;> rfl) (by trivial) ?_
    refine AnyE.nilC (by cbv <;> rfl) (by cbv <;> rfl) ?_
    refine AnyE.run tok hO (by rfl) (by cbv <;> rfl) (by trivial) ?_
    refine AnyE.stoK (id := 3) (G := GC) tok (by cbv <;> rfl) (by cbv <;> rfl) (by kernel_rfl) (by rfl) (hb0 q hq) fun G1 hG1 => ⟨?_, ?_⟩
    · exact (by repeat (first | exact trivial | refine And.intro (by first | exact lv_of hO (by cbv <;> rfl) (by repeat (first | exact trivial | (show (_ : Int) ≠ 0; decide) | refine ⟨?_, ?_⟩)) | (cbv <;> rfl)) ?_))
    refine AnyE.run tok hO (by rfl) (by cbv <;> rfl) (by trivial) ?_
    refine AnyE.nilC (by cbv <;> rfl) (by cbv <;> rfl) ?_
    refine AnyE.run tok hO (by rfl) (by cbv <;> rfl) (by trivial) ?_
    refine AnyE.sto (id := 3) (G := G1) tok (by cbv <;> rfl) (by cbv <;> rfl) (by kernel_rfl) (by rfl) (by rw [hG1, List.length_set]; exact hb1 q hq) fun G3 hG3 => ?_
    refine AnyE.done (by rfl) ?_
    exact htail G3 (hfin q hq G1 hG1 G3 hG3) _ ⟨rfl, rfl, rfl, trivial⟩
  · refine PickE.nilC (by cbv <;> rfl) (by cbv <;> rfl) ?_ ?_
    · exact (by repeat (first | exact trivial | refine And.intro (by first | exact lv_of hO (by cbv <;> rfl) (by repeat (first | exact trivial | (show (_ : Int) ≠ 0; decide) | refine ⟨?_, ?_⟩)) | (cbv <;> rfl)) ?_))
    refine AnyE.runN tok hO 1 (by rfl) (by cbv <;> rfl) (by trivial) ?_
    refine AnyE.ldD tok (by rfl) 17 (by cbv <;> rfl) (load_at (by kernel_rfl) (by rfl) (hl1 q hq)) (by kernel_rfl) ?_
    refine AnyE.run tok hO (by rfl) (by cbv <;> rfl) (by trivial) ?_
    refine AnyE.nilC (by cbv <;> rfl) (by cbv <;> rfl) ?_
    refine AnyE.runN tok hO 1 (by rfl) (by cbv <;> rfl) (by trivial) ?_
    refine AnyE.ldD tok (by rfl) 5 (by cbv <;> rfl) (load_at (by kernel_rfl) (by rfl) (hl0 q hq)) (by kernel_rfl) ?_
    refine AnyE.run tok hO (by rfl) (by cbv <;> rfl) (by trivial) ?_
    refine AnyE.nilC (by cbv <;> rfl) (by cbv <;> rfl) ?_
    refine AnyE.run tok hO (by rfl) (by cbv <;> rfl) (by trivial) ?_
    refine AnyE.stoK (id := 3) (G := GC) tok (by cbv <;> rfl) (by cbv <;> rfl) (by kernel_rfl) (by rfl) (hb0 q hq) fun G1 hG1 => ⟨?_, ?_⟩
    · exact (by repeat (first | exact trivial | refine And.intro (by first | exact lv_of hO (by cbv <;> rfl) (by repeat (first | exact trivial | (show (_ : Int) ≠ 0; decide) | refine ⟨?_, ?_⟩)) | (cbv <;> rfl)) ?_))
    refine AnyE.run tok hO (by rfl) (by cbv <;> rfl) (by trivial) ?_
    refine AnyE.nilC (by cbv <;> rfl) (by cbv <;> rfl) ?_
    refine AnyE.run tok hO (by rfl) (by cbv <;> rfl) (by trivial) ?_
    refine AnyE.sto (id := 3) (G := G1) tok (by cbv <;> rfl) (by cbv <;> rfl) (by kernel_rfl) (by rfl) (by rw [hG1, List.length_set]; exact hb1 q hq) fun G3 hG3 => ?_
    refine AnyE.done (by rfl) ?_
    exact htail G3 (hfin q hq G1 hG1 G3 hG3) _ ⟨rfl, rfl, rfl, trivial⟩
end Go.Fz
set_option linter.unusedVariables false
set_option linter.unusedSimpArgs false
namespace Go.Fz
open Go.Proofs
set_option maxRecDepth 100000
set_option maxHeartbeats 8000000 in
theorem wx_not (haw : Pure Try.prog 18 [] (.lit (.bool true))) (y : YardD) (nB nC : Nat) (eC : Bool) (hB hC : Nat → Nat → AV) (b3 : Int) (x45 : Pure Try.prog 45 [.agg [iV y.last, iV y.hands, .isl nB 3 false hB, .isl nC 3 eC hC]] (.sb false))
    (gg : Nat → AV) (h : AllP (fun p => gg p.1 = p.2) [(3, .lit (.int .u8 b3)), (4, .ptr 0 0), (9, .ptr 1 0)]) :
    SW Try.prog none (restC 8 (bodyF Try.f12)) (trueQ3 Try.f12) ⟨⟨211, gg⟩, []⟩ (wdS y [] (.isl nB 3 false hB) (.isl nC 3 eC hC) 4) := by
  obtain ⟨O, hO⟩ : ∃ O : Ar, O = std := ⟨_, rfl⟩
  obtain ⟨g1, g2, g3, _⟩ := h
  simp only at g1 g2 g3
  rw [← updT_self g1, ← updT_self g2, ← updT_self g3]
  refine (show SW Try.prog none (.seq (.seq (.region _ _ _) _) _) _ _ _ from ?_)
  refine SW.seq ?_
  refine SW.seqRun tok hO (by cbv <;> rfl) (by trivial) ?_
  refine OpsW.callP x45 (by cbv <;> rfl) ?_
  refine OpsW.run tok hO (by cbv <;> rfl) (by trivial) ?_
  refine SW.condS (by cbv <;> rfl) (fun hw1 => ?_) (fun hw1 => by first | (cases hw1; done) | (subst hO; simp [std] at hw1; done) | (subst hO; simp [std] at hw1; omega))
  refine SW.seqRun tok hO (by cbv <;> rfl) (by trivial) ?_
  refine OpsW.callP haw (by cbv <;> rfl) ?_
  refine OpsW.run tok hO (by cbv <;> rfl) (by trivial) ?_
  exact SW.ret ⟨_, _, rfl, rfl, Eqv.of rfl⟩
set_option maxHeartbeats 8000000 in
theorem wx_s0 (haw : Pure Try.prog 18 [] (.lit (.bool true))) (y : YardD) (nB nC : Nat) (eC : Bool) (hB hC : Nat → Nat → AV) (b3 : Int) (LV MV : AV) (XW : AV) (x45 : Pure Try.prog 45 [.agg [iV y.last, iV y.hands, .isl nB 3 false hB, .isl nC 3 eC hC]] (.sb true)) (e20 : Pure Try.prog 20 [yardV y] (yardV y)) (x20 : Pure Try.prog 20 [.agg [iV y.last, iV y.hands, .isl nB 3 false hB, .isl nC 3 eC hC]] XW) (e41 : Pure Try.prog 41 [yardV y] (.tup [LV, iV 10])) (x41 : Pure Try.prog 41 [XW] (.tup [MV, iV 0]))
    (gg : Nat → AV) (h : AllP (fun p => gg p.1 = p.2) [(3, .lit (.int .u8 b3)), (4, .ptr 0 0), (9, .ptr 1 0)]) :
    SW Try.prog none (restC 8 (bodyF Try.f12)) (trueQ3 Try.f12) ⟨⟨211, gg⟩, []⟩ (wdS y [] (.isl nB 3 false hB) (.isl nC 3 eC hC) 4) := by
  obtain ⟨O, hO⟩ : ∃ O : Ar, O = std := ⟨_, rfl⟩
  obtain ⟨g1, g2, g3, _⟩ := h
  simp only at g1 g2 g3
  rw [← updT_self g1, ← updT_self g2, ← updT_self g3]
  refine (show SW Try.prog none (.seq (.seq (.region _ _ _) _) _) _ _ _ from ?_)
  refine SW.seq ?_
  refine SW.seqRun tok hO (by cbv <;> rfl) (by trivial) ?_
  refine OpsW.callP x45 (by cbv <;> rfl) ?_
  refine OpsW.run tok hO (by cbv <;> rfl) (by trivial) ?_
  refine SW.condS (by cbv <;> rfl) (fun hw1 => by first | (cases hw1; done) | (subst hO; simp [std] at hw1; done) | (subst hO; simp [std] at hw1; omega)) (fun hw1 => SW.skip ?_)
  refine SW.seqRun tok hO (by cbv <;> rfl) (by trivial) ?_
  refine OpsW.callP e20 (by cbv <;> rfl) ?_
  refine OpsW.run tok hO (by cbv <;> rfl) (by trivial) ?_
  refine OpsW.callP e41 (by cbv <;> rfl) ?_
  refine OpsW.run tok hO (by cbv <;> rfl) (by trivial) ?_
  refine SW.seqRun tok hO (by cbv <;> rfl) (by trivial) ?_
  refine OpsW.callP x20 (by cbv <;> rfl) ?_
  refine OpsW.run tok hO (by cbv <;> rfl) (by trivial) ?_
  refine OpsW.callP x41 (by cbv <;> rfl) ?_
  refine OpsW.run tok hO (by cbv <;> rfl) (by trivial) ?_
  refine SW.seq ?_
  refine SW.seqRun tok hO (by cbv <;> rfl) (by trivial) ?_
  refine SW.condS (by cbv <;> rfl) (fun hw2 => ?_) (fun hw2 => by first | (cases hw2; done) | (subst hO; simp [std] at hw2; done) | (subst hO; simp [std] at hw2; omega))
  refine SW.seqRun tok hO (by cbv <;> rfl) (by trivial) ?_
  refine OpsW.splitG (by cbv <;> rfl) (fun hw3 => ?_) (fun hw3 => by first | (cases hw3; done) | (subst hO; simp [std] at hw3; done) | (subst hO; simp [std] at hw3; omega))
  refine OpsW.run tok hO (by cbv <;> rfl) (by trivial) ?_
  refine OpsW.splitG (by cbv <;> rfl) (fun hw4 => ?_) (fun hw4 => by first | (cases hw4; done) | (subst hO; simp [std] at hw4; done) | (subst hO; simp [std] at hw4; omega))
  refine OpsW.run tok hO (by cbv <;> rfl) (by trivial) ?_
  refine OpsW.callP haw (by cbv <;> rfl) ?_
  refine OpsW.run tok hO (by cbv <;> rfl) (by trivial) ?_
  exact SW.ret ⟨_, _, rfl, rfl, Eqv.of rfl⟩
set_option maxHeartbeats 8000000 in
theorem wx_s10 (haw : Pure Try.prog 18 [] (.lit (.bool true))) (y : YardD) (nB nC : Nat) (eC : Bool) (hB hC : Nat → Nat → AV) (b3 : Int) (LV MV : AV) (XW : AV) (x45 : Pure Try.prog 45 [.agg [iV y.last, iV y.hands, .isl nB 3 false hB, .isl nC 3 eC hC]] (.sb true)) (e20 : Pure Try.prog 20 [yardV y] (yardV y)) (x20 : Pure Try.prog 20 [.agg [iV y.last, iV y.hands, .isl nB 3 false hB, .isl nC 3 eC hC]] XW) (e41 : Pure Try.prog 41 [yardV y] (.tup [LV, iV 10])) (x41 : Pure Try.prog 41 [XW] (.tup [MV, iV 10]))
    (gg : Nat → AV) (h : AllP (fun p => gg p.1 = p.2) [(3, .lit (.int .u8 b3)), (4, .ptr 0 0), (9, .ptr 1 0)]) :
    SW Try.prog none (restC 8 (bodyF Try.f12)) (trueQ3 Try.f12) ⟨⟨211, gg⟩, []⟩ (wdS y [] (.isl nB 3 false hB) (.isl nC 3 eC hC) 4) := by
  obtain ⟨O, hO⟩ : ∃ O : Ar, O = std := ⟨_, rfl⟩
  obtain ⟨g1, g2, g3, _⟩ := h
  simp only at g1 g2 g3
  rw [← updT_self g1, ← updT_self g2, ← updT_self g3]
  refine (show SW Try.prog none (.seq (.seq (.region _ _ _) _) _) _ _ _ from ?_)
  refine SW.seq ?_
  refine SW.seqRun tok hO (by cbv <;> rfl) (by trivial) ?_
  refine OpsW.callP x45 (by cbv <;> rfl) ?_
  refine OpsW.run tok hO (by cbv <;> rfl) (by trivial) ?_
  refine SW.condS (by cbv <;> rfl) (fun hw1 => by first | (cases hw1; done) | (subst hO; simp [std] at hw1; done) | (subst hO; simp [std] at hw1; omega)) (fun hw1 => SW.skip ?_)
  refine SW.seqRun tok hO (by cbv <;> rfl) (by trivial) ?_
  refine OpsW.callP e20 (by cbv <;> rfl) ?_
  refine OpsW.run tok hO (by cbv <;> rfl) (by trivial) ?_
  refine OpsW.callP e41 (by cbv <;> rfl) ?_
  refine OpsW.run tok hO (by cbv <;> rfl) (by trivial) ?_
  refine SW.seqRun tok hO (by cbv <;> rfl) (by trivial) ?_
  refine OpsW.callP x20 (by cbv <;> rfl) ?_
  refine OpsW.run tok hO (by cbv <;> rfl) (by trivial) ?_
  refine OpsW.callP x41 (by cbv <;> rfl) ?_
  refine OpsW.run tok hO (by cbv <;> rfl) (by trivial) ?_
  refine SW.seq ?_
  refine SW.seqRun tok hO (by cbv <;> rfl) (by trivial) ?_
  refine SW.condS (by cbv <;> rfl) (fun hw2 => ?_) (fun hw2 => by first | (cases hw2; done) | (subst hO; simp [std] at hw2; done) | (subst hO; simp [std] at hw2; omega))
  refine SW.seqRun tok hO (by cbv <;> rfl) (by trivial) ?_
  refine OpsW.splitG (by cbv <;> rfl) (fun hw3 => ?_) (fun hw3 => by first | (cases hw3; done) | (subst hO; simp [std] at hw3; done) | (subst hO; simp [std] at hw3; omega))
  refine OpsW.run tok hO (by cbv <;> rfl) (by trivial) ?_
  refine OpsW.splitG (by cbv <;> rfl) (fun hw4 => by first | (cases hw4; done) | (subst hO; simp [std] at hw4; done) | (subst hO; simp [std] at hw4; omega)) (fun hw4 => ?_)
  refine OpsW.run tok hO (by cbv <;> rfl) (by trivial) ?_
  refine OpsW.splitG (by cbv <;> rfl) (fun hw5 => ?_) (fun hw5 => by first | (cases hw5; done) | (subst hO; simp [std] at hw5; done) | (subst hO; simp [std] at hw5; omega))
  refine OpsW.run tok hO (by cbv <;> rfl) (by trivial) ?_
  refine OpsW.callP haw (by cbv <;> rfl) ?_
  refine OpsW.run tok hO (by cbv <;> rfl) (by trivial) ?_
  exact SW.ret ⟨_, _, rfl, rfl, Eqv.of rfl⟩
set_option maxHeartbeats 8000000 in
theorem wx_mid (y : YardD) (nB nC : Nat) (eC : Bool) (hB hC : Nat → Nat → AV) (b3 : Int) (l m : Nat) (lf mf : Nat → Int) (hML : m ≤ l) (hz : 0 < y.nb) (XW : AV) (x45 : Pure Try.prog 45 [.agg [iV y.last, iV y.hands, .isl nB 3 false hB, .isl nC 3 eC hC]] (.sb true)) (e20 : Pure Try.prog 20 [yardV y] (yardV y)) (x20 : Pure Try.prog 20 [.agg [iV y.last, iV y.hands, .isl nB 3 false hB, .isl nC 3 eC hC]] XW) (e41 : Pure Try.prog 41 [yardV y] (.tup [intsV l false lf, iV 0])) (x41 : Pure Try.prog 41 [XW] (.tup [intsV m false mf, iV 0]))
    (htail : ∀ (gg : Nat → AV), AllP (fun p => gg p.1 = p.2) [(4, .ptr 0 0), (9, .ptr 1 0), (17, iV (std.bin .rem .i64 (std.conv .i64 b3) (Int.ofNat y.nb)))] → SW Try.prog none (restC 14 (bodyF Try.f12)) (trueQ3 Try.f12) ⟨⟨211, gg⟩, []⟩ (wdS y [] (.isl nB 3 false hB) (.isl nC 3 eC hC) 4))
    (gg : Nat → AV) (h : AllP (fun p => gg p.1 = p.2) [(3, .lit (.int .u8 b3)), (4, .ptr 0 0), (9, .ptr 1 0)]) :
    SW Try.prog none (restC 8 (bodyF Try.f12)) (trueQ3 Try.f12) ⟨⟨211, gg⟩, []⟩ (wdS y [] (.isl nB 3 false hB) (.isl nC 3 eC hC) 4) := by
  obtain ⟨O, hO⟩ : ∃ O : Ar, O = std := ⟨_, rfl⟩
  obtain ⟨g1, g2, g3, _⟩ := h
  simp only at g1 g2 g3
  rw [← updT_self g1, ← updT_self g2, ← updT_self g3]
  rw [← hO] at htail
  have hne : Int.ofNat y.nb ≠ 0 := by
    show (y.nb : Int) ≠ 0
    omega
  refine (show SW Try.prog none (.seq (.seq (.region _ _ _) _) _) _ _ _ from ?_)
  refine SW.seq ?_
  refine SW.seqRun tok hO (by cbv <;> rfl) (by repeat (first | exact trivial | exact hne | refine ⟨?_, ?_⟩)) ?_
  refine OpsW.callP x45 (by cbv <;> rfl) ?_
  refine OpsW.run tok hO (by cbv <;> rfl) (by repeat (first | exact trivial | exact hne | refine ⟨?_, ?_⟩)) ?_
  refine SW.condS (by cbv <;> rfl) (fun hw1 => by first | (cases hw1; done) | (subst hO; simp [std, hML] at hw1; done) | (subst hO; simp [std, hML] at hw1; omega)) (fun hw1 => SW.skip ?_)
  refine SW.seqRun tok hO (by cbv <;> rfl) (by repeat (first | exact trivial | exact hne | refine ⟨?_, ?_⟩)) ?_
  refine OpsW.callP e20 (by cbv <;> rfl) ?_
  refine OpsW.run tok hO (by cbv <;> rfl) (by repeat (first | exact trivial | exact hne | refine ⟨?_, ?_⟩)) ?_
  refine OpsW.callP e41 (by cbv <;> rfl) ?_
  refine OpsW.run tok hO (by cbv <;> rfl) (by repeat (first | exact trivial | exact hne | refine ⟨?_, ?_⟩)) ?_
  refine SW.seqRun tok hO (by cbv <;> rfl) (by repeat (first | exact trivial | exact hne | refine ⟨?_, ?_⟩)) ?_
  refine OpsW.callP x20 (by cbv <;> rfl) ?_
  refine OpsW.run tok hO (by cbv <;> rfl) (by repeat (first | exact trivial | exact hne | refine ⟨?_, ?_⟩)) ?_
  refine OpsW.callP x41 (by cbv <;> rfl) ?_
  refine OpsW.run tok hO (by cbv <;> rfl) (by repeat (first | exact trivial | exact hne | refine ⟨?_, ?_⟩)) ?_
  refine SW.seq ?_
  refine SW.seqRun tok hO (by cbv <;> rfl) (by repeat (first | exact trivial | exact hne | refine ⟨?_, ?_⟩)) ?_
  refine SW.condS (by cbv <;> rfl) (fun hw2 => by first | (cases hw2; done) | (subst hO; simp [std, hML] at hw2; done) | (subst hO; simp [std, hML] at hw2; omega)) (fun hw2 => SW.skip ?_)
  refine SW.seq ?_
  refine SW.seqRun tok hO (by cbv <;> rfl) (by repeat (first | exact trivial | exact hne | refine ⟨?_, ?_⟩)) ?_
  refine OpsW.splitG (by cbv <;> rfl) (fun hw3 => by first | (cases hw3; done) | (subst hO; simp [std, hML] at hw3; done) | (subst hO; simp [std, hML] at hw3; omega)) (fun hw3 => ?_)
  refine OpsW.run tok hO (by cbv <;> rfl) (by repeat (first | exact trivial | exact hne | refine ⟨?_, ?_⟩)) ?_
  refine SW.condS (by cbv <;> rfl) (fun hw4 => by first | (cases hw4; done) | (subst hO; simp [std, hML] at hw4; done) | (subst hO; simp [std, hML] at hw4; omega)) (fun hw4 => SW.skip ?_)
  refine SW.seqRun tok hO (by cbv <;> rfl) (by repeat (first | exact trivial | exact hne | refine ⟨?_, ?_⟩)) ?_
  exact htail _ ⟨rfl, rfl, rfl, trivial⟩
set_option maxHeartbeats 8000000 in
theorem wx_nine (haw : Pure Try.prog 18 [] (.lit (.bool true))) (y : YardD) (nB nC : Nat) (eC : Bool) (hB hC : Nat → Nat → AV) (k : Nat) (AL CL : AV) (G : Int) (XW : AV) (e20 : Pure Try.prog 20 [yardV y] (yardV y)) (x20 : Pure Try.prog 20 [.agg [iV y.last, iV y.hands, .isl nB 3 false hB, .isl nC 3 eC hC]] XW) (e27 : Pure Try.prog 27 [yardV y, iV (Int.ofNat k)] (.tup [AL, iV 9])) (x27 : Pure Try.prog 27 [XW, iV (Int.ofNat k)] (.tup [CL, iV G]))
    (gg : Nat → AV) (h : AllP (fun p => gg p.1 = p.2) [(4, .ptr 0 0), (9, .ptr 1 0), (17, iV (Int.ofNat k))]) :
    SW Try.prog none (restC 14 (bodyF Try.f12)) (trueQ3 Try.f12) ⟨⟨211, gg⟩, []⟩ (wdS y [] (.isl nB 3 false hB) (.isl nC 3 eC hC) 4) := by
  obtain ⟨O, hO⟩ : ∃ O : Ar, O = std := ⟨_, rfl⟩
  obtain ⟨g1, g2, g3, _⟩ := h
  simp only at g1 g2 g3
  rw [← updT_self g1, ← updT_self g2, ← updT_self g3]
  refine (show SW Try.prog none (.seq (.region _ _ _) _) _ _ _ from ?_)
  refine SW.seqRun tok hO (by cbv <;> rfl) (by trivial) ?_
  refine OpsW.callP e20 (by cbv <;> rfl) ?_
  refine OpsW.run tok hO (by cbv <;> rfl) (by trivial) ?_
  refine OpsW.callP e27 (by cbv <;> rfl) ?_
  refine OpsW.run tok hO (by cbv <;> rfl) (by trivial) ?_
  refine SW.seqRun tok hO (by cbv <;> rfl) (by trivial) ?_
  refine OpsW.callP x20 (by cbv <;> rfl) ?_
  refine OpsW.run tok hO (by cbv <;> rfl) (by trivial) ?_
  refine OpsW.callP x27 (by cbv <;> rfl) ?_
  refine OpsW.run tok hO (by cbv <;> rfl) (by trivial) ?_
  refine SW.seq ?_
  refine SW.seqRun tok hO (by cbv <;> rfl) (by trivial) ?_
  refine SW.condS (by cbv <;> rfl) (fun hw1 => ?_) (fun hw1 => by first | (cases hw1; done) | (subst hO; simp [std] at hw1; done) | (subst hO; simp [std] at hw1; omega))
  refine SW.seqRun tok hO (by cbv <;> rfl) (by trivial) ?_
  refine OpsW.splitG (by cbv <;> rfl) (fun hw2 => ?_) (fun hw2 => by first | (cases hw2; done) | (subst hO; simp [std] at hw2; done) | (subst hO; simp [std] at hw2; omega))
  refine OpsW.run tok hO (by cbv <;> rfl) (by trivial) ?_
  refine OpsW.callP haw (by cbv <;> rfl) ?_
  refine OpsW.run tok hO (by cbv <;> rfl) (by trivial) ?_
  exact SW.ret ⟨_, _, rfl, rfl, Eqv.of rfl⟩
set_option maxHeartbeats 8000000 in
theorem wx_end (haw : Pure Try.prog 18 [] (.lit (.bool true))) (y : YardD) (nB nC : Nat) (eC : Bool) (hB hC : Nat → Nat → AV) (k : Nat) (AL CL : AV) (XW : AV) (e20 : Pure Try.prog 20 [yardV y] (yardV y)) (x20 : Pure Try.prog 20 [.agg [iV y.last, iV y.hands, .isl nB 3 false hB, .isl nC 3 eC hC]] XW) (e27 : Pure Try.prog 27 [yardV y, iV (Int.ofNat k)] (.tup [AL, iV 0])) (x27 : Pure Try.prog 27 [XW, iV (Int.ofNat k)] (.tup [CL, iV 0])) (e51 : Pure Try.prog 51 [CL, AL] (.sb true))
    (gg : Nat → AV) (h : AllP (fun p => gg p.1 = p.2) [(4, .ptr 0 0), (9, .ptr 1 0), (17, iV (Int.ofNat k))]) :
    SW Try.prog none (restC 14 (bodyF Try.f12)) (trueQ3 Try.f12) ⟨⟨211, gg⟩, []⟩ (wdS y [] (.isl nB 3 false hB) (.isl nC 3 eC hC) 4) := by
  obtain ⟨O, hO⟩ : ∃ O : Ar, O = std := ⟨_, rfl⟩
  obtain ⟨g1, g2, g3, _⟩ := h
  simp only at g1 g2 g3
  rw [← updT_self g1, ← updT_self g2, ← updT_self g3]
  refine (show SW Try.prog none (.seq (.region _ _ _) _) _ _ _ from ?_)
  refine SW.seqRun tok hO (by cbv <;> rfl) (by trivial) ?_
  refine OpsW.callP e20 (by cbv <;> rfl) ?_
  refine OpsW.run tok hO (by cbv <;> rfl) (by trivial) ?_
  refine OpsW.callP e27 (by cbv <;> rfl) ?_
  refine OpsW.run tok hO (by cbv <;> rfl) (by trivial) ?_
  refine SW.seqRun tok hO (by cbv <;> rfl) (by trivial) ?_
  refine OpsW.callP x20 (by cbv <;> rfl) ?_
  refine OpsW.run tok hO (by cbv <;> rfl) (by trivial) ?_
  refine OpsW.callP x27 (by cbv <;> rfl) ?_
  refine OpsW.run tok hO (by cbv <;> rfl) (by trivial) ?_
  refine SW.seq ?_
  refine SW.seqRun tok hO (by cbv <;> rfl) (by trivial) ?_
  refine SW.condS (by cbv <;> rfl) (fun hw1 => by first | (cases hw1; done) | (subst hO; simp [std] at hw1; done) | (subst hO; simp [std] at hw1; omega)) (fun hw1 => SW.skip ?_)
  refine SW.seqRun tok hO (by cbv <;> rfl) (by trivial) ?_
  refine OpsW.splitG (by cbv <;> rfl) (fun hw2 => ?_) (fun hw2 => by first | (cases hw2; done) | (subst hO; simp [std] at hw2; done) | (subst hO; simp [std] at hw2; omega))
  refine OpsW.run tok hO (by cbv <;> rfl) (by trivial) ?_
  refine OpsW.callP e51 (by cbv <;> rfl) ?_
  refine OpsW.run tok hO (by cbv <;> rfl) (by trivial) ?_
  refine OpsW.splitG (by cbv <;> rfl) (fun hw3 => ?_) (fun hw3 => by first | (cases hw3; done) | (subst hO; simp [std] at hw3; done) | (subst hO; simp [std] at hw3; omega))
  refine OpsW.run tok hO (by cbv <;> rfl) (by trivial) ?_
  refine OpsW.callP haw (by cbv <;> rfl) ?_
  refine OpsW.run tok hO (by cbv <;> rfl) (by trivial) ?_
  exact SW.ret ⟨_, _, rfl, rfl, Eqv.of rfl⟩
end Go.Fz
set_option linter.unusedVariables false
namespace Go.Fz
open Go.Proofs
set_option maxRecDepth 100000
def YardD.wdX (y : YardD) (k : Nat) (l a b : Int) (p : Nat) (c d : Int) : YardD := { y with lng := setI y.lng k l, blo := setI y.blo k a, bhi := setI y.bhi k b, clo := setI y.clo p c, chi := setI y.chi p d }
theorem wdX_wide {y : YardD} {k p : Nat} {l a b c d : Int} (h1 : l ≤ y.lng k) (h2 : a ≤ y.blo k) (h3 : y.bhi k ≤ b) (h4 : c ≤ y.clo p) (h5 : y.chi p ≤ d) : Wide y (y.wdX k l a b p c d) := by
  have lo : ∀ (f : Nat → Int) (j : Nat) (v : Int), v ≤ f j → ∀ i, setI f j v i ≤ f i := fun f j v h i => by
    unfold setI
    split
    · rename_i e; rw [e]; exact h
    · exact Int.le_refl _
  have hi : ∀ (f : Nat → Int) (j : Nat) (v : Int), f j ≤ v → ∀ i, f i ≤ setI f j v i := fun f j v h i => by
    unfold setI
    split
    · rename_i e; rw [e]; exact h
    · exact Int.le_refl _
  exact ⟨rfl, rfl, rfl, fun i _ => lo _ _ _ h1 i, fun i _ => lo _ _ _ h2 i, fun i _ => hi _ _ _ h3 i, rfl, fun _ _ => rfl, fun i _ => lo _ _ _ h4 i, fun i _ => hi _ _ _ h5 i⟩
theorem wd_rem : ∀ b : Fin 256, (∃ r : Fin 2, std.bin .rem .i64 (std.conv .i64 (b.1 : Int)) 2 = (r.1 : Int)) ∧ (∃ r : Fin 2, std.bin .rem .i64 (std.bin .quo .i64 (std.conv .i64 (b.1 : Int)) 2) 2 = (r.1 : Int)) ∧ (∃ r : Fin 2, std.bin .rem .i64 (std.bin .quo .i64 (std.conv .i64 (b.1 : Int)) 4) 2 = (r.1 : Int)) ∧ (∃ r : Fin 2, std.bin .rem .i64 (std.bin .quo .i64 (std.conv .i64 (b.1 : Int)) 8) 2 = (r.1 : Int)) ∧ (∃ r : Fin 2, std.bin .rem .i64 (std.bin .quo .i64 (std.conv .i64 (b.1 : Int)) 16) 2 = (r.1 : Int)) := by decide +kernel
theorem wd_lo : ∀ (x : Fin 10) (r : Fin 2), std.mx 0 (std.bin .sub .i64 (x.1 : Int) (r.1 : Int)) ≤ (x.1 : Int) := by decide +kernel
theorem wd_lg : ∀ (x : Fin 10) (r : Fin 2), 1 ≤ x.1 → std.mx 1 (std.bin .sub .i64 (x.1 : Int) (r.1 : Int)) ≤ (x.1 : Int) := by decide +kernel
theorem wd_hi : ∀ (z x : Fin 10) (r : Fin 2), x.1 ≤ z.1 → (x.1 : Int) ≤ std.mn (z.1 : Int) (std.bin .add .i64 (x.1 : Int) (r.1 : Int)) := by decide +kernel
theorem wd_pick : ∀ (b : Fin 256) (n : Fin 6), 0 < n.1 → 0 ≤ std.bin .rem .i64 (std.bin .quo .i64 (std.conv .i64 (b.1 : Int)) 8) (n.1 : Int) ∧ std.bin .rem .i64 (std.bin .quo .i64 (std.conv .i64 (b.1 : Int)) 8) (n.1 : Int) < (n.1 : Int) := by decide +kernel
theorem wd_bcell {y : YardD} {k : Nat} (hk : k < y.nb) {l a b : Int} {p : Nat} {c d : Int} {q : Nat} (hq : q = 0 + k * 3) {i j : Nat} (hi : i < y.nb) (hj : j < 3) :
    ((((flatG 3 (bedC y) y.nb).set (q + 1) (iV a)).set (q + 1 + 1) (iV b)).set (q + 0) (iV l)).getD (0 + i * 3 + j) .any = bedC (y.wdX k l a b p c d) i j := by
  have hlen : (flatG 3 (bedC y) y.nb).length = y.nb * 3 := flatG_length _ _ _
  have hle : k * 3 + 3 ≤ y.nb * 3 := by
    have := Nat.mul_le_mul_right 3 (show k + 1 ≤ y.nb from hk)
    omega
  rw [List.getD_eq_getElem?_getD, List.getElem?_set, List.getElem?_set, List.getElem?_set, List.length_set, List.length_set, hlen, show 0 + i * 3 + j = i * 3 + j by omega, flatG_get 3 (bedC y) y.nb i j hi hj]
  by_cases e : i = k
  · subst e
    match j, hj with
    | 0, _ =>
      rw [if_pos (by omega), if_pos (by omega)]
      show iV l = iV (setI y.lng i l i)
      rw [setI_self]
    | 1, _ =>
      rw [if_neg (by omega), if_neg (by omega), if_pos (by omega), if_pos (by omega)]
      show iV a = iV (setI y.blo i a i)
      rw [setI_self]
    | 2, _ =>
      rw [if_neg (by omega), if_pos (by omega), if_pos (by omega)]
      show iV b = iV (setI y.bhi i b i)
      rw [setI_self]
  · rw [if_neg (by omega), if_neg (by omega), if_neg (by omega)]
    match j, hj with
    | 0, _ => show iV (y.lng i) = iV (setI y.lng k l i); rw [setI_ne e]
    | 1, _ => show iV (y.blo i) = iV (setI y.blo k a i); rw [setI_ne e]
    | 2, _ => show iV (y.bhi i) = iV (setI y.bhi k b i); rw [setI_ne e]
theorem wd_ccell {y : YardD} {p : Nat} (hp : p < y.nc) {k : Nat} {l a b c d : Int} {i j : Nat} (hi : i < y.nc) (hj : j < 3) :
    (((flatG 3 (clmC y) y.nc).set (p * 3 + 1) (iV c)).set (p * 3 + 2) (iV d)).getD (0 + i * 3 + j) .any = clmC (y.wdX k l a b p c d) i j := by
  have hlen : (flatG 3 (clmC y) y.nc).length = y.nc * 3 := flatG_length _ _ _
  have hle : p * 3 + 3 ≤ y.nc * 3 := by
    have := Nat.mul_le_mul_right 3 (show p + 1 ≤ y.nc from hp)
    omega
  rw [List.getD_eq_getElem?_getD, List.getElem?_set, List.getElem?_set, List.length_set, hlen, show 0 + i * 3 + j = i * 3 + j by omega, flatG_get 3 (clmC y) y.nc i j hi hj]
  by_cases e : i = p
  · subst e
    match j, hj with
    | 0, _ =>
      rw [if_neg (by omega), if_neg (by omega)]
      rfl
    | 1, _ =>
      rw [if_neg (by omega), if_pos (by omega), if_pos (by omega)]
      show iV c = iV (setI y.clo i c i)
      rw [setI_self]
    | 2, _ =>
      rw [if_pos (by omega), if_pos (by omega)]
      show iV d = iV (setI y.chi i d i)
      rw [setI_self]
  · rw [if_neg (by omega), if_neg (by omega)]
    match j, hj with
    | 0, _ => rfl
    | 1, _ => show iV (y.clo i) = iV (setI y.clo p c i); rw [setI_ne e]
    | 2, _ => show iV (y.chi i) = iV (setI y.chi p d i); rw [setI_ne e]
def wdD (j : Nat) : Bool := Nat.beq j 2 || Nat.beq j 3
theorem wd_rest (haw : Pure Try.prog 18 [] (.lit (.bool true))) {y x : YardD} (hW : Wide y x) (hR : y.readyB = true) (hz : 0 < y.nb) (nB nC : Nat) (eC : Bool) (hB hC : Nat → Nat → AV) (b3 : Int) (v0 : 0 ≤ b3) (v1 : b3 ≤ 255)
    (hV : Eqvs [.agg [iV y.last, iV y.hands, .isl nB 3 false hB, .isl nC 3 eC hC]] [yardV x])
    (gg : Nat → AV) (h : AllP (fun p => gg p.1 = p.2) [(3, .lit (.int .u8 b3)), (4, .ptr 0 0), (9, .ptr 1 0)]) :
    SW Try.prog none (restC 8 (bodyF Try.f12)) (trueQ3 Try.f12) ⟨⟨211, gg⟩, []⟩ (wdS y [] (.isl nB 3 false hB) (.isl nC 3 eC hC) 4) := by
  have hc := ready_check hR
  have hn := (y.fit_of_check hc).1.nb
  have h5 := (y.fit_of_check hc).2.2.2.2.2.1
  have x45 := Pure.eqv (ready_any x) hV
  cases hRx : x.readyB with
  | false =>
    rw [hRx] at x45
    exact wx_not haw y nB nC eC hB hC b3 x45 gg h
  | true =>
    rw [hRx] at x45
    have hcx := ready_check hRx
    have hnx := (x.fit_of_check hcx).1.nb
    have h5x := (x.fit_of_check hcx).2.2.2.2.2.1
    have e20 := yard_ok y (by omega) (by omega)
    have x20 := Pure.eqv (yard_ok x (by omega) (by omega)) hV
    have e41 := leave_ok y (by omega) (by omega)
    have x41 := leave_ok x (by omega) (by omega)
    have hK := rem_rng v0 v1 hz hn
    obtain ⟨k, hk'⟩ : ∃ k : Nat, std.bin .rem .i64 (std.conv .i64 b3) (y.nb : Int) = (k : Int) := ⟨_, (Int.toNat_of_nonneg hK.1).symm⟩
    have hkn : k < y.nb := by
      have := hK.2
      rw [hk'] at this
      exact Int.ofNat_lt.1 this
    rcases wide_sees hW hc hcx hkn with ⟨q1, q2 | q2⟩ | ⟨q1, q2, l, m, q3, q4, q5, q6, q7⟩
    · rw [q1] at e41
      rw [q2] at x41
      exact wx_s0 haw y nB nC eC hB hC b3 _ _ _ x45 e20 x20 e41 x41 gg h
    · rw [q1] at e41
      rw [q2] at x41
      exact wx_s10 haw y nB nC eC hB hC b3 _ _ _ x45 e20 x20 e41 x41 gg h
    · rw [q1, q3] at e41
      rw [q2, q4] at x41
      refine wx_mid y nB nC eC hB hC b3 l.length m.length _ _ q5 hz _ x45 e20 x20 e41 x41 (fun gg h => ?_) gg h
      have h : AllP (fun p => gg p.1 = p.2) [(4, .ptr 0 0), (9, .ptr 1 0), (17, iV (Int.ofNat k))] := by
        obtain ⟨a1, a2, a3, _⟩ := h
        exact ⟨a1, a2, a3.trans (congrArg iV hk'), trivial⟩
      rcases q7 with ho | ⟨ho, a, c, e27, x27, la, lc, hsub⟩
      · have e27 := weeks_ok y (by omega) (by omega) (k : Int)
        have x27 := weeks_ok x (by omega) (by omega) (k : Int)
        have hb : y.hasB (k : Int) = true := by
          unfold YardD.hasB
          rw [decide_eq_true (Int.natCast_nonneg k), decide_eq_true (Int.ofNat_lt.2 hkn)]; rfl
        rw [hb, ho] at e27
        exact wx_nine haw y nB nC eC hB hC k _ _ _ _ e20 x20 e27 x27 gg h
      · have e51 := contains51_ok c.length a.length false false (fun j => c.getD j 0) (fun j => a.getD j 0) lc la
        rw [con_sub hsub] at e51
        exact wx_end haw y nB nC eC hB hC k _ _ _ e20 x20 e27 x27 e51 gg h
theorem wd_froz (haw : Pure Try.prog 18 [] (.lit (.bool true))) {y x : YardD} (hW : Wide y x) (hR : y.readyB = true) (hz : 0 < y.nb) (hll : x.last = y.last) (hhh : x.hands = y.hands) (GB GC : List AV) (nC : Nat) (eC : Bool) (hnC : nC = x.nc) (hnB : x.nb = y.nb) (b3 : Int) (v0 : 0 ≤ b3) (v1 : b3 ≤ 255)
    (lB : y.nb * 3 ≤ GB.length) (lC : nC * 3 ≤ GC.length) (cB : ∀ i j, i < y.nb → j < 3 → GB.getD (0 + i * 3 + j) .any = bedC x i j) (cC : ∀ i j, i < nC → j < 3 → GC.getD (0 + i * 3 + j) .any = clmC x i j)
    (g : Nat → AV) (h : AllP (fun p => g p.1 = p.2) [(3, .lit (.int .u8 b3)), (4, .ptr 0 0), (9, .ptr 1 0)]) :
    SW Try.prog none (restC 8 (bodyF Try.f12)) (trueQ3 Try.f12) ⟨⟨211, g⟩, []⟩ (wdS y [(3, .cells none false GC), (2, .cells none false GB)] (.sl 2 0 y.nb 3 false) (.sl 3 0 nC 3 eC) 4) := by
  obtain ⟨g3, g4, g9, _⟩ := h
  simp only at g3 g4 g9
  refine SW.freezeZ wdD 3 (by rfl) ?_
  obtain ⟨H, hH⟩ : ∃ H, H = (wdS y [(3, .cells none false GC), (2, .cells none false GB)] (.sl 2 0 y.nb 3 false) (.sl 3 0 nC 3 eC) 4).h := ⟨_, rfl⟩
  have hH3 : H.get 3 = some (.cells none false GC) := by rw [hH]; rfl
  have hH2 : H.get 2 = some (.cells none false GB) := by rw [hH]; rfl
  have hXB := frz_slE (D := wdD) (fm := none) (n := y.nb) (sz := 3) (G := GB) rfl hH2 lB
  have hXC := frz_slX (D := wdD) (fm := none) (n := nC) (sz := 3) (ex := eC) (G := GC) rfl hH3 lC
  show SW _ _ _ _ ⟨⟨211, fun i => frz (wdS y [(3, .cells none false GC), (2, .cells none false GB)] (.sl 2 0 y.nb 3 false) (.sl 3 0 nC 3 eC) 4).h wdD 3 (g i)⟩, []⟩ (wdS y [] (frz (wdS y [(3, .cells none false GC), (2, .cells none false GB)] (.sl 2 0 y.nb 3 false) (.sl 3 0 nC 3 eC) 4).h wdD 3 (.sl 2 0 y.nb 3 false)) (frz (wdS y [(3, .cells none false GC), (2, .cells none false GB)] (.sl 2 0 y.nb 3 false) (.sl 3 0 nC 3 eC) 4).h wdD 3 (.sl 3 0 nC 3 eC)) 4)
  rw [← hH, hXB, hXC]
  have f3 : frz H wdD 3 (g 3) = .lit (.int .u8 b3) := by rw [g3]; rfl
  have f4 : frz H wdD 3 (g 4) = .ptr 0 0 := by rw [g4]; rfl
  have f9 : frz H wdD 3 (g 9) = .ptr 1 0 := by rw [g9]; rfl
  have hBe : Eqv (.isl y.nb 3 false (fun i k => frz H wdD 2 (GB.getD (0 + i * 3 + k) .any))) (bedsV x) := Eqv.isl hnB.symm fun i j hi hj => Eqv.of (by
    rw [cB i j hi hj]
    unfold bedC
    split <;> rfl)
  have hCe : Eqv (.isl nC 3 eC (fun i k => frz H wdD 2 (GC.getD (0 + i * 3 + k) .any))) (clmsV x) := by
    have h2 : Eqv (.isl nC 3 false (fun i k => frz H wdD 2 (GC.getD (0 + i * 3 + k) .any))) (clmsV x) := Eqv.isl hnC fun i j hi hj => Eqv.of (by
      rw [cC i j hi hj]
      unfold clmC
      split <;> rfl)
    cases eC with
    | false => exact h2
    | true => exact Eqv.trans Eqv.room h2
  have hV : Eqvs [.agg [iV y.last, iV y.hands, .isl y.nb 3 false (fun i k => frz H wdD 2 (GB.getD (0 + i * 3 + k) .any)), .isl nC 3 eC (fun i k => frz H wdD 2 (GC.getD (0 + i * 3 + k) .any))]] [yardV x] := by
    refine .cons (Eqv.agg (.cons ?_ (.cons ?_ (.cons hBe (.cons hCe .nil))))) .nil
    · rw [hll]; exact Eqv.refl _
    · rw [hhh]; exact Eqv.refl _
  exact wd_rest haw hW hR hz _ _ _ _ _ b3 v0 v1 hV _ ⟨f3, f4, f9, trivial⟩
end Go.Fz
