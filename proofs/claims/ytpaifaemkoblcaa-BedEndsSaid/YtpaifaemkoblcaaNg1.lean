/- Own work of the verifier of watercress: FzE2, FzG0, FzE3, FzE6, FzJ1, FzJ2, FzG8, FzG5, FzD13, FzE4, FzG2, FzE5, FzG6, FzG3, FzG4, FzG1, FzG7, FzG9. -/
import Derived.Below
import Derived.CallsIn
import Derived.Carry
import Derived.ChangeKeysEq
import Derived.ChangeSame
import Derived.Deep.Slices
import Derived.DeepKeys4
import Derived.JoinedCond
import Derived.Laws.AppendOwn
import Derived.Laws.Cells
import Derived.Laws.CopyRow
import Derived.Laws.Cover3
import Derived.Laws.Entries
import Derived.Laws.NewFold
import Derived.Laws.Sem
import Derived.Laws.Small
import Derived.Laws.StructEq
import Derived.Laws.Tables
import Derived.Laws.World
import Derived.Lib.SmallJoins
import Derived.Maps.Keyed
import Derived.Maps.RangeRun
import Derived.OpenShut
import Derived.OrdersHeld
import Derived.OrdersIn
import Derived.ProofKit
import Derived.RangeFuncLeaves
import Derived.RangeFuncRecord
import Derived.Shelf.Abstract
import Derived.WalkKit
import Derived.WideKeyArgs
import Derived.Test.YtpaifaemkoblcaaNa16
import Derived.Test.YtpaifaemkoblcaaNa24
import Derived.Test.YtpaifaemkoblcaaNa25
import Derived.Test.YtpaifaemkoblcaaNa26
import Derived.Test.YtpaifaemkoblcaaNa19
import Derived.Test.YtpaifaemkoblcaaNa20
import Derived.Test.YtpaifaemkoblcaaNa21
import Derived.Test.YtpaifaemkoblcaaNa22
import Derived.Test.YtpaifaemkoblcaaNa23
import Derived.Test.YtpaifaemkoblcaaNa27
import Derived.Test.YtpaifaemkoblcaaNa32
import Derived.Test.YtpaifaemkoblcaaNa35
import Derived.Test.YtpaifaemkoblcaaNa33
import Derived.Test.YtpaifaemkoblcaaNa34
import Derived.Test.YtpaifaemkoblcaaNa28
import Derived.Test.YtpaifaemkoblcaaNa29
import Derived.Test.YtpaifaemkoblcaaNa30
import Derived.Test.YtpaifaemkoblcaaNa31
import Derived.Test.YtpaifaemkoblcaaNa36
import Derived.Test.YtpaifaemkoblcaaNg0
import Derived.Test.YtpaifaemkoblcaaNa37
import Derived.Test.YtpaifaemkoblcaaNa38
import Derived.Test.YtpaifaemkoblcaaNa40
import Derived.Test.YtpaifaemkoblcaaNa39
import Derived.Test.YtpaifaemkoblcaaNa41
import Derived.Test.YtpaifaemkoblcaaNa17
import Derived.Test.YtpaifaemkoblcaaNa18
import Derived.Test.YtpaifaemkoblcaaNa10
import Derived.Test.YtpaifaemkoblcaaNa12
import Derived.Test.YtpaifaemkoblcaaNa11
import Derived.Test.YtpaifaemkoblcaaNa13
import Derived.Test.YtpaifaemkoblcaaNa14
import Derived.Test.YtpaifaemkoblcaaNa0
import Derived.Test.YtpaifaemkoblcaaNa1
import Derived.Test.YtpaifaemkoblcaaNa2
import Derived.Test.YtpaifaemkoblcaaNa3
import Derived.Test.YtpaifaemkoblcaaNa4
import Derived.Test.YtpaifaemkoblcaaNa5
import Derived.Test.YtpaifaemkoblcaaNa6
import Derived.Test.YtpaifaemkoblcaaNa7
import Derived.Test.YtpaifaemkoblcaaNa8
import Derived.Test.YtpaifaemkoblcaaNa9
import Derived.Test.YtpaifaemkoblcaaProg
import Derived.Test.YtpaifaemkoblcaaRows
set_option linter.unusedVariables false
set_option linter.unusedSimpArgs false
set_option linter.unusedVariables false
set_option linter.unusedSimpArgs false
namespace Go.Fz
open Go.Proofs
set_option maxRecDepth 100000
noncomputable def alC : Code := match nthC 2 (bodyF Try.f45) with
  | .seq _ (.block _ (.loop c)) => c
  | _ => .skip
noncomputable def alB : Code := match alC with
  | .seq _ (.seq (.block _ b) _) => b
  | _ => .skip
theorem conv0B {O : Ar} (hO : O = std) {i : Nat} (h : i < 1000) : 0 ≤ O.conv .u64 (Int.ofNat i) := by
  subst hO
  show 0 ≤ wrp .u64 ((i : Nat) : Int)
  rw [wrp_in (by simp only [IntKind.lo]; omega) (by simp only [IntKind.hi]; omega)]
  omega
set_option maxHeartbeats 16000000 in
theorem all_in0 (f : FarmD) (hnl : f.nl < 1000) (X : AV) (i : Nat) (fl : Nat → Int) (R : Nat → Bool) (e60 : Pure Try.prog 60 [farmV f, iV (Int.ofNat i)] (intsV f.ns false fl)) (hr : ∀ j, j < f.nl → Pure Try.prog 75 [farmV f, intsV f.ns false fl, lookV f j] (.sb (R j)))
    (g : Nat → AV) (O : Ar) (hO : O = std) (h : AllP (fun p => g p.1 = p.2) [(1, .ptr 0 0), (3, X), (4, iV (Int.ofNat i)), (5, iV 0)]) :
    SW Try.prog none (nthC 1 alB) (midK 40 [(1, .ptr 0 0), (3, X), (4, iV (Int.ofNat i)), (5, iV (bitsN R f.nl))] ⟨(0, .cells none false (farmL f)) :: [], 2⟩) ⟨⟨40, g⟩, []⟩ ⟨(0, .cells none false (farmL f)) :: [], 2⟩ := by
  have hnat : ∀ i : Nat, O.nat (Int.ofNat i) = i := fun i => by subst hO; rfl
  obtain ⟨bb, hbb⟩ : ∃ bb, bb = bitsN R := ⟨_, rfl⟩
  have hb0 : bb 0 = 0 := by rw [hbb]; rfl
  have hbs : ∀ j, bb (j + 1) = if R j = true then O.bin .or .i64 (bb j) (O.bin .shl .i64 1 (O.conv .u64 (Int.ofNat j))) else bb j := fun j => by rw [hbb]; subst hO; rfl
  rw [← hbb]
  obtain ⟨g1, g3, g4, g5, _⟩ := h
  simp only at g1 g3 g4 g5
  rw [← updT_self g1, ← updT_self g3, ← updT_self g4, ← updT_self g5]
  refine SW.seqRun tok hO (by cbv <;> rfl) (by trivial) ?_
  refine (SW.block (SW.loopF (fun j : Nat => ⟨⟨40, getT [(1, .ptr 0 0), (3, X), (4, iV (Int.ofNat i)), (5, iV (bb j)), (6, iV (Int.ofNat j))]⟩, []⟩)
    (fun _ => ⟨(0, .cells none false (farmL f)) :: [], 2⟩) (fun j => f.nl - j) (fun j => j ≤ f.nl) 0
    (fun _ => rfl) (Nat.zero_le _) (Weak.by rfl rfl (by simp) (Nat.le_refl _) (Nat.le_refl _) ⟨⟨rfl, .inl rfl⟩, ⟨rfl, .inl rfl⟩, ⟨rfl, .inl rfl⟩, ⟨by rw [hb0]; rfl, .inl rfl⟩, ⟨rfl, .inl rfl⟩, trivial⟩ ⟨⟨rfl, by omega, .inl rfl⟩, trivial⟩) fun j hj => ?_))
  refine SW.seq ?_
  refine SW.seqRun tok hO (by cbv <;> rfl) (by trivial) ?_
  refine SW.condS (by cbv <;> rfl) (fun h => SW.skip ?_) (fun h => SW.exit ?_)
  · have hlt : j < f.nl := by
      have : Int.ofNat j < (f.nl : Int) := by subst hO; simpa [std] using h
      exact Int.ofNat_lt.1 this
    have hin : 0 ≤ Int.ofNat j ∧ Int.ofNat j < (f.nl : Int) := ⟨Int.natCast_nonneg j, Int.ofNat_lt.2 hlt⟩
    have hnn : 0 ≤ O.conv .u64 (Int.ofNat j) := conv0B hO (by omega)
    have call := hr (O.nat (Int.ofNat j)) (by rw [hnat]; exact hlt)
    refine SW.seq (SW.block ?_)
    refine SW.seqRunD tok mixed hO (by kernel_rfl) (by cbv <;> rfl) (by repeat (first | exact trivial | exact hin | refine ⟨?_, ?_⟩)) ?_
    refine AnyE.callP e60 (by cbv <;> rfl) (by cbv <;> rfl) ?_
    refine AnyE.run tok hO (by kernel_rfl) (by cbv <;> rfl) (by trivial) ?_
    refine AnyE.callP call (by cbv <;> rfl) (by cbv <;> rfl) ?_
    refine AnyE.run tok hO (by kernel_rfl) (by cbv <;> rfl) (by trivial) ?_
    refine SW.condS (by cbv <;> rfl) (fun h2 => ?_) (fun h2 => SW.skip ?_)
    · rw [hnat] at h2
      refine SW.run tok hO (by cbv <;> rfl) (by first | exact hnn | exact ⟨hnn, trivial⟩) ?_
      refine SW.run tok hO (by cbv <;> rfl) (by trivial) ?_
      have hcn : bb (j + 1) = O.bin .or .i64 (bb j) (O.bin .shl .i64 1 (O.conv .u64 (Int.ofNat j))) := by rw [hbs, h2]; rfl
      exact ⟨j + 1, by omega, by omega, Weak.by rfl rfl (by simp) (Nat.le_refl _) (Nat.le_refl _) ⟨⟨rfl, .inl rfl⟩, ⟨rfl, .inl rfl⟩, ⟨rfl, .inl rfl⟩, ⟨by rw [hcn]; rfl, .inl rfl⟩, ⟨inc_ok hO (by omega), .inl rfl⟩, trivial⟩ ⟨⟨rfl, by omega, .inl rfl⟩, trivial⟩⟩
    · rw [hnat] at h2
      refine SW.run tok hO (by cbv <;> rfl) (by trivial) ?_
      have hcn : bb (j + 1) = bb j := by rw [hbs, h2]; rfl
      exact ⟨j + 1, by omega, by omega, Weak.by rfl rfl (by simp) (Nat.le_refl _) (Nat.le_refl _) ⟨⟨rfl, .inl rfl⟩, ⟨rfl, .inl rfl⟩, ⟨rfl, .inl rfl⟩, ⟨by rw [hcn]; rfl, .inl rfl⟩, ⟨inc_ok hO (by omega), .inl rfl⟩, trivial⟩ ⟨⟨rfl, by omega, .inl rfl⟩, trivial⟩⟩
  · have hle : ¬ j < f.nl := by
      have : ¬ Int.ofNat j < (f.nl : Int) := by subst hO; simpa [std] using h
      exact fun h => this (Int.ofNat_lt.2 h)
    obtain rfl : j = f.nl := by omega
    exact ⟨rfl, _, rfl, ⟨rfl, rfl, rfl, rfl, trivial⟩, rfl⟩
set_option maxHeartbeats 16000000 in
theorem all_in1 (f : FarmD) (hnl : f.nl < 1000) (X : AV) (i : Nat) (G : List AV) (fl : Nat → Int) (R : Nat → Bool) (e60 : Pure Try.prog 60 [farmV f, iV (Int.ofNat i)] (intsV f.ns false fl)) (hr : ∀ j, j < f.nl → Pure Try.prog 75 [farmV f, intsV f.ns false fl, lookV f j] (.sb (R j)))
    (g : Nat → AV) (O : Ar) (hO : O = std) (h : AllP (fun p => g p.1 = p.2) [(1, .ptr 0 0), (3, X), (4, iV (Int.ofNat i)), (5, iV 0)]) :
    SW Try.prog none (nthC 1 alB) (midK 40 [(1, .ptr 0 0), (3, X), (4, iV (Int.ofNat i)), (5, iV (bitsN R f.nl))] ⟨(0, .cells none false (farmL f)) :: [(1, .cells none false G)], 2⟩) ⟨⟨40, g⟩, []⟩ ⟨(0, .cells none false (farmL f)) :: [(1, .cells none false G)], 2⟩ := by
  have hnat : ∀ i : Nat, O.nat (Int.ofNat i) = i := fun i => by subst hO; rfl
  obtain ⟨bb, hbb⟩ : ∃ bb, bb = bitsN R := ⟨_, rfl⟩
  have hb0 : bb 0 = 0 := by rw [hbb]; rfl
  have hbs : ∀ j, bb (j + 1) = if R j = true then O.bin .or .i64 (bb j) (O.bin .shl .i64 1 (O.conv .u64 (Int.ofNat j))) else bb j := fun j => by rw [hbb]; subst hO; rfl
  rw [← hbb]
  obtain ⟨g1, g3, g4, g5, _⟩ := h
  simp only at g1 g3 g4 g5
  rw [← updT_self g1, ← updT_self g3, ← updT_self g4, ← updT_self g5]
  refine SW.seqRun tok hO (by cbv <;> rfl) (by trivial) ?_
  refine (SW.block (SW.loopF (fun j : Nat => ⟨⟨40, getT [(1, .ptr 0 0), (3, X), (4, iV (Int.ofNat i)), (5, iV (bb j)), (6, iV (Int.ofNat j))]⟩, []⟩)
    (fun _ => ⟨(0, .cells none false (farmL f)) :: [(1, .cells none false G)], 2⟩) (fun j => f.nl - j) (fun j => j ≤ f.nl) 0
    (fun _ => rfl) (Nat.zero_le _) (Weak.by rfl rfl (by simp) (Nat.le_refl _) (Nat.le_refl _) ⟨⟨rfl, .inl rfl⟩, ⟨rfl, .inl rfl⟩, ⟨rfl, .inl rfl⟩, ⟨by rw [hb0]; rfl, .inl rfl⟩, ⟨rfl, .inl rfl⟩, trivial⟩ ⟨⟨rfl, by omega, .inl rfl⟩, ⟨rfl, by omega, .inl rfl⟩, trivial⟩) fun j hj => ?_))
  refine SW.seq ?_
  refine SW.seqRun tok hO (by cbv <;> rfl) (by trivial) ?_
  refine SW.condS (by cbv <;> rfl) (fun h => SW.skip ?_) (fun h => SW.exit ?_)
  · have hlt : j < f.nl := by
      have : Int.ofNat j < (f.nl : Int) := by subst hO; simpa [std] using h
      exact Int.ofNat_lt.1 this
    have hin : 0 ≤ Int.ofNat j ∧ Int.ofNat j < (f.nl : Int) := ⟨Int.natCast_nonneg j, Int.ofNat_lt.2 hlt⟩
    have hnn : 0 ≤ O.conv .u64 (Int.ofNat j) := conv0B hO (by omega)
    have call := hr (O.nat (Int.ofNat j)) (by rw [hnat]; exact hlt)
    refine SW.seq (SW.block ?_)
    refine SW.seqRunD tok mixed hO (by kernel_rfl) (by cbv <;> rfl) (by repeat (first | exact trivial | exact hin | refine ⟨?_, ?_⟩)) ?_
    refine AnyE.callP e60 (by cbv <;> rfl) (by cbv <;> rfl) ?_
    refine AnyE.run tok hO (by kernel_rfl) (by cbv <;> rfl) (by trivial) ?_
    refine AnyE.callP call (by cbv <;> rfl) (by cbv <;> rfl) ?_
    refine AnyE.run tok hO (by kernel_rfl) (by cbv <;> rfl) (by trivial) ?_
    refine SW.condS (by cbv <;> rfl) (fun h2 => ?_) (fun h2 => SW.skip ?_)
    · rw [hnat] at h2
      refine SW.run tok hO (by cbv <;> rfl) (by first | exact hnn | exact ⟨hnn, trivial⟩) ?_
      refine SW.run tok hO (by cbv <;> rfl) (by trivial) ?_
      have hcn : bb (j + 1) = O.bin .or .i64 (bb j) (O.bin .shl .i64 1 (O.conv .u64 (Int.ofNat j))) := by rw [hbs, h2]; rfl
      exact ⟨j + 1, by omega, by omega, Weak.by rfl rfl (by simp) (Nat.le_refl _) (Nat.le_refl _) ⟨⟨rfl, .inl rfl⟩, ⟨rfl, .inl rfl⟩, ⟨rfl, .inl rfl⟩, ⟨by rw [hcn]; rfl, .inl rfl⟩, ⟨inc_ok hO (by omega), .inl rfl⟩, trivial⟩ ⟨⟨rfl, by omega, .inl rfl⟩, ⟨rfl, by omega, .inl rfl⟩, trivial⟩⟩
    · rw [hnat] at h2
      refine SW.run tok hO (by cbv <;> rfl) (by trivial) ?_
      have hcn : bb (j + 1) = bb j := by rw [hbs, h2]; rfl
      exact ⟨j + 1, by omega, by omega, Weak.by rfl rfl (by simp) (Nat.le_refl _) (Nat.le_refl _) ⟨⟨rfl, .inl rfl⟩, ⟨rfl, .inl rfl⟩, ⟨rfl, .inl rfl⟩, ⟨by rw [hcn]; rfl, .inl rfl⟩, ⟨inc_ok hO (by omega), .inl rfl⟩, trivial⟩ ⟨⟨rfl, by omega, .inl rfl⟩, ⟨rfl, by omega, .inl rfl⟩, trivial⟩⟩
  · have hle : ¬ j < f.nl := by
      have : ¬ Int.ofNat j < (f.nl : Int) := by subst hO; simpa [std] using h
      exact fun h => this (Int.ofNat_lt.2 h)
    obtain rfl : j = f.nl := by omega
    exact ⟨rfl, _, rfl, ⟨rfl, rfl, rfl, rfl, trivial⟩, rfl⟩
theorem flatG_snocB (bt : Nat → Int) (i : Nat) : flatG 1 (intC bt) i ++ [iV (bt i)] = flatG 1 (intC bt) (i + 1) := rfl
set_option maxHeartbeats 32000000 in
theorem all45_core (f : FarmD) (hnl : f.nl < 1000) (N : Nat) (hN : N < 100000) (e61 : Pure Try.prog 61 [farmV f] (iV (Int.ofNat N))) (fl : Nat → Nat → Int) (R : Nat → Nat → Bool) (e60 : ∀ i, i < N → Pure Try.prog 60 [farmV f, iV (Int.ofNat i)] (intsV f.ns false (fl i)))
    (hr : ∀ i, i < N → ∀ j, j < f.nl → Pure Try.prog 75 [farmV f, intsV f.ns false (fl i), lookV f j] (.sb (R i j))) : Pure Try.prog 45 [farmV f] (intsV N false (fun i => bitsN (R i) f.nl)) := by
  obtain ⟨O, hO⟩ : ∃ O : Ar, O = std := ⟨_, rfl⟩
  obtain ⟨bt, hbt⟩ : ∃ bt : Nat → Int, bt = fun i => bitsN (R i) f.nl := ⟨_, rfl⟩
  have hbi : ∀ i, bitsN (R i) f.nl = bt i := fun i => by rw [hbt]
  rw [← hbt]
  refine pure_of_body tok 3 Try.func45 en45 rfl ⟨farmV_below f, trivial⟩ (intsV_below _ _ _) ?_
  refine SW.seqRun tok hO (by cbv <;> rfl) (by trivial) ?_
  refine SW.seqRun tok hO (by cbv <;> rfl) (by trivial) ?_
  refine SW.seq ?_
  refine SW.seqRun tok hO (by cbv <;> rfl) (by trivial) ?_
  refine (SW.block (SW.loopR (fun i : Nat => ⟨⟨40, getT [(1, .ptr 0 0), (3, slG 1 1 i), (4, iV (Int.ofNat i))]⟩, []⟩) (fun i => ⟨[(0, .cells none false (farmL f))] ++ objG 1 1 (intC bt) i, 2⟩) (fun i => N - i) (fun i => i ≤ N) 0 (Nat.zero_le _) (ren1 1 1) ?_ fun i hi => ?_))
  · exact WeakR.up rfl rfl (by simp) (Nat.le_refl _) (.inl rfl) (by show 1 ≤ 2; omega) ⟨RenV.ptr (by omega), RenV.closed Below.lit, RenV.closed Below.lit, trivial⟩ ⟨⟨by omega, _, rfl, .cells (RenVs.closed (farmL_below f)), .inr rfl⟩, trivial⟩ (fun p hp => by cases hp)
  cases i with
  | zero =>
    show SW _ _ _ _ ⟨⟨40, getT [(1, .ptr 0 0), (3, nl3), (4, iV (Int.ofNat 0))]⟩, []⟩ ⟨[(0, .cells none false (farmL f))], 2⟩
    refine SW.seq ?_
    refine SW.seqRun tok hO (by cbv <;> rfl) (by trivial) ?_
    refine OpsW.callP e61 (by cbv <;> rfl) ?_
    refine OpsW.run tok hO (by cbv <;> rfl) (by trivial) ?_
    refine SW.condS (by cbv <;> rfl) (fun h => SW.skip ?_) (fun h => SW.exit ?_)
    · have hlt : 0 < N := by
        have : Int.ofNat 0 < Int.ofNat N := by subst hO; simpa [std] using h
        exact Int.ofNat_lt.1 this
      have k1 := e60 0 hlt
      have k2 := hr 0 hlt
      refine SW.seq (SW.block ?_)
      refine SW.seqRun tok hO (by cbv <;> rfl) (by trivial) ?_
      refine SW.seq ((all_in0 f hnl nl3 0 (fl 0) (R 0) k1 k2 _ O hO ⟨rfl, rfl, rfl, rfl, trivial⟩).mono fun e fm st hm => ?_)
      obtain ⟨rfl, ts, rfl, ⟨g1, g3, g4, g5, _⟩, rfl⟩ := hm
      simp only at g1 g3 g4 g5
      rw [hbi] at g5
      rw [← updT_self g1, ← updT_self g3, ← updT_self g4, ← updT_self g5]
      refine (show SW _ _ _ _ _ _ from ?_)
      refine SW.runN tok hO 3 (by cbv <;> rfl) (by trivial) ?_
      refine OpsW.appNil tok (by cbv <;> rfl) (by rfl) (by kernel_rfl) (by rfl) (by rfl) ?_
      refine OpsW.run tok hO (by cbv <;> rfl) (by trivial) ?_
      refine SW.run tok hO (by cbv <;> rfl) (by trivial) ?_
      refine ⟨0 + 1, by omega, by omega, ren1 1 3, ?_⟩
      refine WeakR.up rfl rfl (by simp) (Nat.le_refl _) (.inr (by omega)) (by show 1 ≤ 2; omega) ⟨RenV.ptr (by omega), RenV.sl (by omega), RenV.inc hO (by omega), trivial⟩ ⟨⟨by omega, _, rfl, .cells (RenVs.closed (farmL_below f)), .inr rfl⟩, trivial⟩ (fun p hp => ?_)
      obtain rfl := objG_mem hp
      exact ⟨by omega, _, rfl, .cells (RenVs.of_eq (rfl) (flatG_below (intC_below bt) _)), .inl rfl⟩
    · have hz : 0 = N := by
        have : ¬ Int.ofNat 0 < Int.ofNat N := by subst hO; simpa [std] using h
        have h2 : ¬ 0 < N := fun h => this (Int.ofNat_lt.2 h)
        omega
      refine SW.seqRun tok hO (by cbv <;> rfl) (by trivial) ?_
      refine SW.ret ⟨_, _, rfl, rfl, ?_⟩
      rw [← hz]
      exact Eqv.nil
  | succ m =>
    obtain ⟨G, hG⟩ : ∃ G, G = flatG 1 (intC bt) (m + 1) := ⟨_, rfl⟩
    show SW _ _ _ _ ⟨⟨40, getT [(1, .ptr 0 0), (3, .sl 1 0 (m + 1) 1 false), (4, iV (Int.ofNat (m + 1)))]⟩, []⟩ ⟨[(0, .cells none false (farmL f)), (1, .cells none false (flatG 1 (intC bt) (m + 1)))], 2⟩
    rw [← hG]
    refine SW.seq ?_
    refine SW.seqRun tok hO (by cbv <;> rfl) (by trivial) ?_
    refine OpsW.callP e61 (by cbv <;> rfl) ?_
    refine OpsW.run tok hO (by cbv <;> rfl) (by trivial) ?_
    refine SW.condS (by cbv <;> rfl) (fun h => SW.skip ?_) (fun h => SW.exit ?_)
    · have hlt : (m + 1) < N := by
        have : Int.ofNat (m + 1) < Int.ofNat N := by subst hO; simpa [std] using h
        exact Int.ofNat_lt.1 this
      have k1 := e60 (m + 1) hlt
      have k2 := hr (m + 1) hlt
      refine SW.seq (SW.block ?_)
      refine SW.seqRun tok hO (by cbv <;> rfl) (by trivial) ?_
      refine SW.seq ((all_in1 f hnl (.sl 1 0 (m + 1) 1 false) (m + 1) G (fl (m + 1)) (R (m + 1)) k1 k2 _ O hO ⟨rfl, rfl, rfl, rfl, trivial⟩).mono fun e fm st hm => ?_)
      obtain ⟨rfl, ts, rfl, ⟨g1, g3, g4, g5, _⟩, rfl⟩ := hm
      simp only at g1 g3 g4 g5
      rw [hbi] at g5
      rw [← updT_self g1, ← updT_self g3, ← updT_self g4, ← updT_self g5]
      refine (show SW _ _ _ _ _ _ from ?_)
      refine SW.runN tok hO 3 (by cbv <;> rfl) (by trivial) ?_
      refine OpsW.appOne (g := intC bt) tok (by cbv <;> rfl) (by rfl) (by rfl) hG (by kernel_rfl) (by rfl) (by rfl) (by omega) fun G' hG' => ?_
      refine OpsW.run tok hO (by cbv <;> rfl) (by trivial) ?_
      refine SW.run tok hO (by cbv <;> rfl) (by trivial) ?_
      refine ⟨(m + 1) + 1, by omega, by omega, ren1 1 3, ?_⟩
      refine WeakR.up rfl rfl (by simp) (Nat.le_refl _) (.inr (by omega)) (by show 1 ≤ 2; omega) ⟨RenV.ptr (by omega), RenV.sl (by omega), RenV.inc hO (by omega), trivial⟩ ⟨⟨by omega, _, rfl, .cells (RenVs.closed (farmL_below f)), .inr rfl⟩, trivial⟩ (fun p hp => ?_)
      obtain rfl := objG_mem hp
      exact ⟨by omega, _, rfl, .cells (RenVs.of_eq (hG'.trans (flatG_snocB bt (m + 1))) (flatG_below (intC_below bt) _)), .inl rfl⟩
    · have hz : (m + 1) = N := by
        have : ¬ Int.ofNat (m + 1) < Int.ofNat N := by subst hO; simpa [std] using h
        have h2 : ¬ (m + 1) < N := fun h => this (Int.ofNat_lt.2 h)
        omega
      refine SW.seqRun tok hO (by cbv <;> rfl) (by trivial) ?_
      refine SW.ret ⟨_, _, rfl, rfl, ?_⟩
      rw [← hz]
      show Eqv (frz _ (fun _ => true) 3 (.sl 1 0 (m + 1) 1 false)) _
      rw [frz_slE (fm := none) (G := G) rfl rfl (by rw [hG, flatG_length]; exact Nat.le_refl _)]
      exact Eqv.isl rfl fun a k ha hk => Eqv.of (by rw [hG]; exact frz_flat ha hk rfl)
set_option maxHeartbeats 32000000 in
theorem truths55_core (f : FarmD) (N : Nat) (hN : N < 100000) (a : Nat → Int) (fu : Int) (F : Nat → List Int) (e45 : Pure Try.prog 45 [farmV f] (intsV N false a)) (e65 : Pure Try.prog 65 [farmV f] (iV fu)) (M : Nat) (FL : Nat → Nat → Int) (hzv : ∀ i, zV (F i) = intsV M false (FL i)) (e60 : ∀ i, i < N → Pure Try.prog 60 [farmV f, iV (Int.ofNat i)] (intsV M false (FL i))) :
    Pure Try.prog 55 [farmV f] (llV (pickL (fun i => decide (a i = fu)) F N)) := by
  obtain ⟨O, hO⟩ : ∃ O : Ar, O = std := ⟨_, rfl⟩
  have hnat : ∀ i : Nat, O.nat (Int.ofNat i) = i := fun i => by subst hO; rfl
  obtain ⟨p, hp⟩ : ∃ p : Nat → Bool, p = fun i => decide (a i = fu) := ⟨_, rfl⟩
  rw [← hp]
  have hpi : ∀ i, O.cmp .eql (a (O.nat (Int.ofNat i))) fu = p i := fun i => by rw [hnat, hp]; subst hO; rfl
  have hC0 : pickL p F 0 = [] := rfl
  have hC : ∀ i, pickL p F (i + 1) = if p i = true then pickL p F i ++ [F i] else pickL p F i := fun i => rfl
  have hCL := pickL_len p F
  generalize pickL p F = C at hC0 hC hCL ⊢
  clear hp
  refine pure_of_body tok 3 Try.func55 en55 rfl ⟨farmV_below f, trivial⟩ (llV_below _) ?_
  refine SW.seqRun tok hO (by cbv <;> rfl) (by trivial) ?_
  refine SW.seqRun tok hO (by cbv <;> rfl) (by trivial) ?_
  refine OpsW.callP e45 (by cbv <;> rfl) ?_
  refine OpsW.run tok hO (by cbv <;> rfl) (by trivial) ?_
  refine SW.seqRun tok hO (by cbv <;> rfl) (by trivial) ?_
  refine SW.seq ?_
  refine SW.seqRun tok hO (by cbv <;> rfl) (by trivial) ?_
  refine (SW.block (SW.loopR (fun i : Nat => ⟨⟨28, getT [(1, .ptr 0 0), (3, intsV N false a), (4, slG 1 1 (C i).length), (5, iV (Int.ofNat i))]⟩, []⟩) (fun i => ⟨[(0, .cells none false (farmL f))] ++ objG 1 1 (gT (C i)) (C i).length, 2⟩) (fun i => N - i) (fun i => i ≤ N) 0 (Nat.zero_le _) (ren1 1 1) ?_ fun i hi => ?_))
  · rw [hC0]
    exact WeakR.up rfl rfl (by simp) (Nat.le_refl _) (.inl rfl) (by show 1 ≤ 2; omega) ⟨RenV.ptr (by omega), RenV.closed (intsV_below _ _ _), RenV.closed Below.lit, RenV.closed Below.lit, trivial⟩ ⟨⟨by omega, _, rfl, .cells (RenVs.closed (farmL_below f)), .inr rfl⟩, trivial⟩ (fun p hp => by cases hp)
  have hCi := hC i
  have hCl := hCL i
  have hsn := fun l => gT_app (C i) l
  have hgo : ∀ (f' : Fm) (st' : St) (ρ : Nat → Nat), i < N → WeakR 1 ρ f' st' ⟨⟨28, getT [(1, .ptr 0 0), (3, intsV N false a), (4, slG 1 1 (C (i + 1)).length), (5, iV ((i + 1 : Nat) : Int))]⟩, []⟩ ⟨[(0, .cells none false (farmL f))] ++ objG 1 1 (gT (C (i + 1))) (C (i + 1)).length, 2⟩ → ∃ x', N - x' < N - i ∧ x' ≤ N ∧ ∃ ρ, WeakR 1 ρ f' st' ⟨⟨28, getT [(1, .ptr 0 0), (3, intsV N false a), (4, slG 1 1 (C x').length), (5, iV (Int.ofNat x'))]⟩, []⟩ ⟨[(0, .cells none false (farmL f))] ++ objG 1 1 (gT (C x')) (C x').length, 2⟩ := fun f' st' ρ h1 h2 => ⟨i + 1, by omega, by omega, ρ, h2⟩
  obtain ⟨L, hL⟩ : ∃ L, C i = L := ⟨_, rfl⟩
  rw [hL] at hCi hCl hsn
  show SW _ _ _ _ ⟨⟨28, getT [(1, .ptr 0 0), (3, intsV N false a), (4, slG 1 1 (C i).length), (5, iV (Int.ofNat i))]⟩, []⟩ ⟨[(0, .cells none false (farmL f))] ++ objG 1 1 (gT (C i)) (C i).length, 2⟩
  rw [hL]
  clear hC hC0 hCL
  cases hm : L.length with
  | zero =>
    rw [hm] at hsn
    show SW _ _ _ _ ⟨⟨28, getT [(1, .ptr 0 0), (3, intsV N false a), (4, nl3), (5, iV (Int.ofNat i))]⟩, []⟩ ⟨[(0, .cells none false (farmL f))], 2⟩
    refine SW.seq ?_
    refine SW.seqRun tok hO (by cbv <;> rfl) (by trivial) ?_
    refine SW.condS (by cbv <;> rfl) (fun h => SW.skip ?_) (fun h => SW.exit ?_)
    · have hlt : i < N := by
        have : Int.ofNat i < Int.ofNat N := by subst hO; simpa [std] using h
        exact Int.ofNat_lt.1 this
      have hin : 0 ≤ Int.ofNat i ∧ Int.ofNat i < Int.ofNat N := ⟨Int.natCast_nonneg i, Int.ofNat_lt.2 hlt⟩
      have k1 := e60 i hlt
      refine SW.seq (SW.block ?_)
      refine SW.seqRunD tok mixed hO (by kernel_rfl) (by cbv <;> rfl) (by repeat (first | exact trivial | exact hin | exact hin.1 | exact hin.2 | refine ⟨?_, ?_⟩)) ?_
      refine AnyE.callP e65 (by cbv <;> rfl) (by cbv <;> rfl) ?_
      refine AnyE.dec tok hO (by kernel_rfl) (by cbv <;> rfl) (by trivial) (fun h1 => ?_) (fun h1 => ?_)
      · have hpt : p i = true := (hpi i).symm.trans h1
        rw [if_pos hpt] at hCi
        refine AnyE.done (by kernel_rfl) ?_
        refine SW.cond (t := true) (by cbv <;> rfl) ?_
        refine SW.run tok hO (by cbv <;> rfl) (by trivial) ?_
        refine OpsW.callP k1 (by cbv <;> rfl) ?_
        refine OpsW.runN tok hO 1 (by cbv <;> rfl) (by trivial) ?_
        refine OpsW.appNil tok (by cbv <;> rfl) (by rfl) (by kernel_rfl) (by rfl) (by rfl) ?_
        refine OpsW.run tok hO (by cbv <;> rfl) (by trivial) ?_
        refine SW.run tok hO (by cbv <;> rfl) (by trivial) ?_
        refine hgo _ _ (ren1 1 3) hlt ?_
        rw [hCi, List.length_append, List.length_singleton, hm]
        refine WeakR.up rfl rfl (by simp) (Nat.le_refl _) (.inr (by omega)) (by show 1 ≤ 2; omega) ⟨RenV.ptr (by omega), RenV.closed (intsV_below _ _ _), RenV.sl (by omega), RenV.inc hO (by omega), trivial⟩ ⟨⟨by omega, _, rfl, .cells (RenVs.closed (farmL_below f)), .inr rfl⟩, trivial⟩ (fun p hp => ?_)
        obtain rfl := objG_mem hp
        refine ⟨by omega, _, rfl, .cells (RenVs.of_eq ?_ (flatG_below (gT_below _) _)), .inl rfl⟩
        have hsn := hsn (F i)
        rw [List.length_append, List.length_singleton, hm] at hsn
        rw [hzv i] at hsn
        exact hsn
      · have hpf : p i = false := (hpi i).symm.trans h1
        rw [if_neg (by rw [hpf]; decide)] at hCi
        refine AnyE.done (by kernel_rfl) ?_
        refine SW.cond (t := false) (by cbv <;> rfl) (SW.skip ?_)
        refine SW.run tok hO (by cbv <;> rfl) (by trivial) ?_
        refine hgo _ _ (ren1 1 1) hlt ?_
        rw [hCi, hm]
        exact WeakR.up rfl rfl (by simp) (Nat.le_refl _) (.inl rfl) (by show 1 ≤ 2; omega) ⟨RenV.ptr (by omega), RenV.closed (intsV_below _ _ _), RenV.closed Below.lit, RenV.inc hO (by omega), trivial⟩ ⟨⟨by omega, _, rfl, .cells (RenVs.closed (farmL_below f)), .inr rfl⟩, trivial⟩ (fun p hp => by cases hp)
    · have hz : i = N := by
        have : ¬ Int.ofNat i < Int.ofNat N := by subst hO; simpa [std] using h
        have h2 : ¬ i < N := fun h => this (Int.ofNat_lt.2 h)
        omega
      refine SW.seqRun tok hO (by cbv <;> rfl) (by trivial) ?_
      refine SW.ret ⟨_, _, rfl, rfl, ?_⟩
      rw [← hz, hL]
      unfold llV
      rw [hm]
      exact Eqv.nil
  | succ m =>
    obtain ⟨G, hG⟩ : ∃ G, G = flatG 1 (gT L) (m + 1) := ⟨_, rfl⟩
    rw [hm, ← hG] at hsn
    show SW _ _ _ _ ⟨⟨28, getT [(1, .ptr 0 0), (3, intsV N false a), (4, .sl 1 0 (m + 1) 1 false), (5, iV (Int.ofNat i))]⟩, []⟩ ⟨[(0, .cells none false (farmL f)), (1, .cells none false (flatG 1 (gT L) (m + 1)))], 2⟩
    rw [← hG]
    refine SW.seq ?_
    refine SW.seqRun tok hO (by cbv <;> rfl) (by trivial) ?_
    refine SW.condS (by cbv <;> rfl) (fun h => SW.skip ?_) (fun h => SW.exit ?_)
    · have hlt : i < N := by
        have : Int.ofNat i < Int.ofNat N := by subst hO; simpa [std] using h
        exact Int.ofNat_lt.1 this
      have hin : 0 ≤ Int.ofNat i ∧ Int.ofNat i < Int.ofNat N := ⟨Int.natCast_nonneg i, Int.ofNat_lt.2 hlt⟩
      have k1 := e60 i hlt
      refine SW.seq (SW.block ?_)
      refine SW.seqRunD tok mixed hO (by kernel_rfl) (by cbv <;> rfl) (by repeat (first | exact trivial | exact hin | exact hin.1 | exact hin.2 | refine ⟨?_, ?_⟩)) ?_
      refine AnyE.callP e65 (by cbv <;> rfl) (by cbv <;> rfl) ?_
      refine AnyE.dec tok hO (by kernel_rfl) (by cbv <;> rfl) (by trivial) (fun h1 => ?_) (fun h1 => ?_)
      · have hpt : p i = true := (hpi i).symm.trans h1
        rw [if_pos hpt] at hCi
        refine AnyE.done (by kernel_rfl) ?_
        refine SW.cond (t := true) (by cbv <;> rfl) ?_
        refine SW.run tok hO (by cbv <;> rfl) (by trivial) ?_
        refine OpsW.callP k1 (by cbv <;> rfl) ?_
        refine OpsW.runN tok hO 1 (by cbv <;> rfl) (by trivial) ?_
        refine OpsW.appOne (g := gT L) tok (by cbv <;> rfl) (by rfl) (by rfl) hG (by kernel_rfl) (by rfl) (by rfl) (by omega) fun G' hG' => ?_
        refine OpsW.run tok hO (by cbv <;> rfl) (by trivial) ?_
        refine SW.run tok hO (by cbv <;> rfl) (by trivial) ?_
        refine hgo _ _ (ren1 1 3) hlt ?_
        rw [hCi, List.length_append, List.length_singleton, hm]
        refine WeakR.up rfl rfl (by simp) (Nat.le_refl _) (.inr (by omega)) (by show 1 ≤ 2; omega) ⟨RenV.ptr (by omega), RenV.closed (intsV_below _ _ _), RenV.sl (by omega), RenV.inc hO (by omega), trivial⟩ ⟨⟨by omega, _, rfl, .cells (RenVs.closed (farmL_below f)), .inr rfl⟩, trivial⟩ (fun p hp => ?_)
        obtain rfl := objG_mem hp
        refine ⟨by omega, _, rfl, .cells (RenVs.of_eq ?_ (flatG_below (gT_below _) _)), .inl rfl⟩
        have hsn := hsn (F i)
        rw [List.length_append, List.length_singleton, hm] at hsn
        rw [hzv i] at hsn
        exact hG'.trans (by rw [← hsn, hG]; rfl)
      · have hpf : p i = false := (hpi i).symm.trans h1
        rw [if_neg (by rw [hpf]; decide)] at hCi
        refine AnyE.done (by kernel_rfl) ?_
        refine SW.cond (t := false) (by cbv <;> rfl) (SW.skip ?_)
        refine SW.run tok hO (by cbv <;> rfl) (by trivial) ?_
        refine hgo _ _ (ren1 1 1) hlt ?_
        rw [hCi, hm]
        refine WeakR.up rfl rfl (by simp) (Nat.le_refl _) (.inl rfl) (by show 1 ≤ 2; omega) ⟨RenV.ptr (by omega), RenV.closed (intsV_below _ _ _), RenV.sl (by omega), RenV.inc hO (by omega), trivial⟩ ⟨⟨by omega, _, rfl, .cells (RenVs.closed (farmL_below f)), .inr rfl⟩, trivial⟩ (fun p hp => ?_)
        obtain rfl := objG_mem hp
        exact ⟨by omega, _, rfl, .cells (RenVs.of_eq hG (flatG_below (gT_below _) _)), .inl rfl⟩
    · have hz : i = N := by
        have : ¬ Int.ofNat i < Int.ofNat N := by subst hO; simpa [std] using h
        have h2 : ¬ i < N := fun h => this (Int.ofNat_lt.2 h)
        omega
      refine SW.seqRun tok hO (by cbv <;> rfl) (by trivial) ?_
      refine SW.ret ⟨_, _, rfl, rfl, ?_⟩
      rw [← hz, hL]
      unfold llV
      rw [hm]
      show Eqv (frz _ (fun _ => true) 3 (.sl 1 0 (m + 1) 1 false)) _
      rw [frz_slE (fm := none) (G := G) rfl rfl (by rw [hG, flatG_length]; exact Nat.le_refl _)]
      exact Eqv.isl rfl fun a k ha hk => Eqv.of (by rw [hG]; exact frz_flat ha hk rfl)
theorem all45_ok {f : FarmD} (hc : f.check = 0) : Pure Try.prog 45 [farmV f] (intsV f.mN false f.bitT) := by
  have g := good_of_check hc
  have hs := good_small g
  obtain ⟨_, h1, h2⟩ := FarmD.many_eq hc
  have e61 := many_ok f hs
  have hm : f.manyN f.ns = Int.ofNat f.mN := by unfold FarmD.mN; show _ = (((f.manyN f.ns).toNat : Nat) : Int); omega
  rw [hm] at e61
  have hnl := g.nl
  have hns := g.ns
  exact all45_core f (by omega) f.mN (by unfold FarmD.mN; omega) e61 (fun i => f.nthN (i : Int)) (fun i => f.rightN (f.nthN (i : Int))) (fun i hi => nth_ok f g (Int.ofNat i)) (fun i hi j hj => rightN_ok f hs f.ns false (f.nthN (i : Int)) (by omega) (Nat.le_refl _) j (g.look j hj).1.1 (g.look j hj).1.2)
theorem truths55_ok {f : FarmD} (hc : f.check = 0) : Pure Try.prog 55 [farmV f] (llV f.refL) := by
  have g := good_of_check hc
  obtain ⟨_, h1, h2⟩ := FarmD.many_eq hc
  have hnl := g.nl
  have hz : ∀ i : Nat, zV (f.nthL (i : Int)) = intsV f.ns false (zL (f.nthL (i : Int))) := fun i => by
    unfold zV; rw [f.nthL_len]
  refine truths55_core f f.mN (by unfold FarmD.mN; omega) f.bitT (pw1 f.nl) (fun n => f.nthL n) (all45_ok hc) (full65_ok f (by omega)) f.ns (fun i => zL (f.nthL (i : Int))) hz fun i hi => ?_
  refine (nth_ok f g (Int.ofNat i)).res (Eqv.isl rfl fun s k hs hk => Eqv.int ?_)
  exact (f.nthL_at (i : Int) hs).symm
end Go.Fz
set_option linter.unusedVariables false
namespace Go.Fz
open Go.Proofs
set_option maxRecDepth 100000
def trueQ3 (fn : Func) : Exit → Fm → St → Prop := retQ T fn (fun v st' => Eqv (frz st'.h (fun _ => true) 3 v) (.lit (.bool true)))
theorem check_of_ready {f : FarmD} (h : f.readyB = true) : f.check = 0 := by
  simp only [FarmD.readyB, Bool.and_eq_true, decide_eq_true_eq] at h
  rw [f.check_eq]; exact h.2
theorem ready_sb (f : FarmD) {t : Bool} (h : f.readyB = t) : Pure Try.prog 52 [farmV f] (.sb t) := by
  have := ready_ok f
  rw [h] at this; exact this
theorem modN {nb : Nat} (h0 : 0 < nb) (h1 : nb < 1000) {a : Int} (a0 : 0 ≤ a) (a1 : a ≤ 65535) : ∃ k : Nat, k < nb ∧ std.bin .rem .i64 (std.conv .i64 a) (Int.ofNat nb) = Int.ofNat k := by
  have e1 : std.conv .i64 a = a := wrp_in (by simp only [IntKind.lo]; omega) (by simp only [IntKind.hi]; omega)
  rw [e1]
  have e2 : std.bin .rem .i64 a (Int.ofNat nb) = a.tmod (nb : Int) := rfl
  have h2 := Int.tmod_nonneg (nb : Int) a0
  have h3 := Int.tmod_lt_of_pos a (show (0 : Int) < nb by omega)
  refine ⟨(a.tmod (nb : Int)).toNat, by omega, ?_⟩
  rw [e2]
  show _ = (((a.tmod (nb : Int)).toNat : Nat) : Int)
  omega
end Go.Fz
set_option linter.unusedVariables false
set_option linter.unusedSimpArgs false
namespace Go.Fz
open Go.Proofs
set_option maxRecDepth 100000
theorem at_zL {f : FarmD} (g : f.Good) {l : List Int} (hl : f.isCh l) {b : Nat} (hb : b < f.nb) : Pure Try.prog 28 [farmV f, zV l, iV (b : Int)] (.agg [iV (f.wtr b 0 l), iV (f.wtr b 1 l), iV (f.wtr b 2 l)]) := by
  have hns := g.ns
  have h := at_ok f (good_small g) l.length false (zL l) (by rw [hl.1]; omega) (by rw [hl.1]; exact Nat.le_refl _) b hb
  obtain ⟨h1, h2, h3⟩ := f.water_eq g (zL l) (f.ch_fl g hl) b hb
  unfold FarmD.wtr
  rw [h1, h2, h3]
  exact h
end Go.Fz
set_option linter.unusedVariables false
set_option linter.unusedSimpArgs false
namespace Go.Fz
open Go.Proofs
set_option maxRecDepth 100000
end Go.Fz
set_option linter.unusedVariables false
namespace Go.Fz
open Go.Proofs
set_option maxRecDepth 100000
noncomputable def enP : {a : Array Oper // rgC 15 (bodyF Try.f10) = .region 15 a true} := ⟨_, by rfl⟩
noncomputable def enA : Array Oper := enP.1
def enM : List Nat := [0, 1, 0, 0, 12, 28, 60, 124, 255, 0, 512, 0, 0, 6144, 14336, 30720, 63488, 130560, 0, 262144, 0, 0, 3145728, 7340032, 15728640, 32505856, 66846720, 0, 134217728, 0, 0, 1610612736, 3758096384, 8053063680, 16642998272, 34225520640, 0, 68719476736, 0, 0, 824633720832, 1924145348608, 4123168604160, 8521215115264, 17523466567680, 0, 35184372088832, 0, 0, 422212465065984, 985162418487296, 2111062325329920, 4362862139015168, 8972014882652160, 18014398509481983, 0, 72057594037927935]
theorem en_tidy : tidyB enA enM = true := by kernel_rfl
theorem en_size : enA.size = 57 := by kernel_rfl
def enL (N k i : Nat) (gl : Nat → Nat → AV) (nb : Nat) (G : Nat → Nat → Int) (m : Int) : List (Nat × AV) := [(2, .ptr 0 0), (5, iV (Int.ofNat k)), (6, .isl nb 6 false (fun i k => iV (G i k))), (8, .isl N 1 false gl), (9, iV m), (10, iV (Int.ofNat i)), (11, .ptr 1 0)]
def enE (O : Ar) (G : Nat → Nat → Int) (k : Nat) (X Y Z : Int) : List AV := [.sb (O.cmp .eql X (G (O.nat (Int.ofNat k)) 0)), .sb (O.cmp .eql X (G (O.nat (Int.ofNat k)) 1)), .sb (O.cmp .eql Y (G (O.nat (Int.ofNat k)) 2)), .sb (O.cmp .eql Y (G (O.nat (Int.ofNat k)) 3)), .sb (O.cmp .eql Z (G (O.nat (Int.ofNat k)) 4)), .sb (O.cmp .eql Z (G (O.nat (Int.ofNat k)) 5))]
set_option maxHeartbeats 64000000 in
theorem en_r15 {Q : Exit → Fm → St → Prop} (f : FarmD) (N k i : Nat) (gl : Nat → Nat → AV) (G : Nat → Nat → Int) (m X Y Z : Int) {O : Ar} (hO : O = std) (hin : 0 ≤ Int.ofNat k ∧ Int.ofNat k < Int.ofNat f.nb)
    (hQ : ∀ g, AllP (fun p => g p.1 = p.2) (enL N k i gl f.nb G m ++ [(12, .ptr 2 0)]) → Q .normal ⟨⟨135, g⟩, []⟩ ⟨(2, .cells none false (enE O G k X Y Z)) :: (1, .cells none false [iV X, iV Y, iV Z]) :: (0, .cells none false (farmL f)) :: [], 3⟩) :
    SW Try.prog none (.region 15 enA true) Q ⟨⟨135, getT (enL N k i gl f.nb G m)⟩, []⟩ ⟨(1, .cells none false [iV X, iV Y, iV Z]) :: (0, .cells none false (farmL f)) :: [], 2⟩ := by
  refine SW.drawnB tok (M := enM) mixed 57 en_tidy en_size (by kernel_rfl) ?_
  refine AnyE.tkO en_tidy tok hO 0 63 1 (by kernel_rfl) (by kernel_rfl) (by cbv <;> rfl) (by first | exact trivial | exact hin | exact ⟨hin, trivial⟩) (Eqv.refl _) ?_
  refine AnyE.tkO en_tidy tok hO 1 64 3 (by kernel_rfl) (by kernel_rfl) (by cbv <;> rfl) (by first | exact trivial | exact hin | exact ⟨hin, trivial⟩) (Eqv.refl _) ?_
  refine AnyE.tkO en_tidy tok hO 2 65 7 (by kernel_rfl) (by kernel_rfl) (by cbv <;> rfl) (by first | exact trivial | exact hin | exact ⟨hin, trivial⟩) (Eqv.refl _) ?_
  refine AnyE.tkO en_tidy tok hO 3 66 15 (by kernel_rfl) (by kernel_rfl) (by cbv <;> rfl) (by first | exact trivial | exact hin | exact ⟨hin, trivial⟩) (Eqv.refl _) ?_
  refine AnyE.tkO en_tidy tok hO 4 67 31 (by kernel_rfl) (by kernel_rfl) (by cbv <;> rfl) (by first | exact trivial | exact hin | exact ⟨hin, trivial⟩) (Eqv.refl _) ?_
  refine AnyE.tkO en_tidy tok hO 5 68 63 (by kernel_rfl) (by kernel_rfl) (by cbv <;> rfl) (by first | exact trivial | exact hin | exact ⟨hin, trivial⟩) (Eqv.refl _) ?_
  refine AnyE.tkO en_tidy tok hO 6 69 127 (by kernel_rfl) (by kernel_rfl) (by cbv <;> rfl) (by first | exact trivial | exact hin | exact ⟨hin, trivial⟩) (Eqv.refl _) ?_
  refine AnyE.tkO en_tidy tok hO 7 70 255 (by kernel_rfl) (by kernel_rfl) (by cbv <;> rfl) (by first | exact trivial | exact hin | exact ⟨hin, trivial⟩) (Eqv.refl _) ?_
  refine AnyE.tkO en_tidy tok hO 8 71 511 (by kernel_rfl) (by kernel_rfl) (by cbv <;> rfl) (by first | exact trivial | exact hin | exact ⟨hin, trivial⟩) (Eqv.refl _) ?_
  refine AnyE.tkO en_tidy tok hO 9 72 1023 (by kernel_rfl) (by kernel_rfl) (by cbv <;> rfl) (by first | exact trivial | exact hin | exact ⟨hin, trivial⟩) (Eqv.refl _) ?_
  refine AnyE.tkO en_tidy tok hO 10 73 2047 (by kernel_rfl) (by kernel_rfl) (by cbv <;> rfl) (by first | exact trivial | exact hin | exact ⟨hin, trivial⟩) (Eqv.refl _) ?_
  refine AnyE.tkO en_tidy tok hO 11 74 4095 (by kernel_rfl) (by kernel_rfl) (by cbv <;> rfl) (by first | exact trivial | exact hin | exact ⟨hin, trivial⟩) (Eqv.refl _) ?_
  refine AnyE.tkO en_tidy tok hO 12 75 8191 (by kernel_rfl) (by kernel_rfl) (by cbv <;> rfl) (by first | exact trivial | exact hin | exact ⟨hin, trivial⟩) (Eqv.refl _) ?_
  refine AnyE.tkO en_tidy tok hO 13 76 16383 (by kernel_rfl) (by kernel_rfl) (by cbv <;> rfl) (by first | exact trivial | exact hin | exact ⟨hin, trivial⟩) (Eqv.refl _) ?_
  refine AnyE.tkO en_tidy tok hO 14 77 32767 (by kernel_rfl) (by kernel_rfl) (by cbv <;> rfl) (by first | exact trivial | exact hin | exact ⟨hin, trivial⟩) (Eqv.refl _) ?_
  refine AnyE.tkO en_tidy tok hO 15 78 65535 (by kernel_rfl) (by kernel_rfl) (by cbv <;> rfl) (by first | exact trivial | exact hin | exact ⟨hin, trivial⟩) (Eqv.refl _) ?_
  refine AnyE.tkO en_tidy tok hO 16 79 131071 (by kernel_rfl) (by kernel_rfl) (by cbv <;> rfl) (by first | exact trivial | exact hin | exact ⟨hin, trivial⟩) (Eqv.refl _) ?_
  refine AnyE.tkO en_tidy tok hO 17 80 262143 (by kernel_rfl) (by kernel_rfl) (by cbv <;> rfl) (by first | exact trivial | exact hin | exact ⟨hin, trivial⟩) (Eqv.refl _) ?_
  refine AnyE.tkO en_tidy tok hO 18 81 524287 (by kernel_rfl) (by kernel_rfl) (by cbv <;> rfl) (by first | exact trivial | exact hin | exact ⟨hin, trivial⟩) (Eqv.refl _) ?_
  refine AnyE.tkO en_tidy tok hO 19 82 1048575 (by kernel_rfl) (by kernel_rfl) (by cbv <;> rfl) (by first | exact trivial | exact hin | exact ⟨hin, trivial⟩) (Eqv.refl _) ?_
  refine AnyE.tkO en_tidy tok hO 20 83 2097151 (by kernel_rfl) (by kernel_rfl) (by cbv <;> rfl) (by first | exact trivial | exact hin | exact ⟨hin, trivial⟩) (Eqv.refl _) ?_
  refine AnyE.tkO en_tidy tok hO 21 84 4194303 (by kernel_rfl) (by kernel_rfl) (by cbv <;> rfl) (by first | exact trivial | exact hin | exact ⟨hin, trivial⟩) (Eqv.refl _) ?_
  refine AnyE.tkO en_tidy tok hO 22 85 8388607 (by kernel_rfl) (by kernel_rfl) (by cbv <;> rfl) (by first | exact trivial | exact hin | exact ⟨hin, trivial⟩) (Eqv.refl _) ?_
  refine AnyE.tkO en_tidy tok hO 23 86 16777215 (by kernel_rfl) (by kernel_rfl) (by cbv <;> rfl) (by first | exact trivial | exact hin | exact ⟨hin, trivial⟩) (Eqv.refl _) ?_
  refine AnyE.tkO en_tidy tok hO 24 87 33554431 (by kernel_rfl) (by kernel_rfl) (by cbv <;> rfl) (by first | exact trivial | exact hin | exact ⟨hin, trivial⟩) (Eqv.refl _) ?_
  refine AnyE.tkO en_tidy tok hO 25 88 67108863 (by kernel_rfl) (by kernel_rfl) (by cbv <;> rfl) (by first | exact trivial | exact hin | exact ⟨hin, trivial⟩) (Eqv.refl _) ?_
  refine AnyE.tkO en_tidy tok hO 26 89 134217727 (by kernel_rfl) (by kernel_rfl) (by cbv <;> rfl) (by first | exact trivial | exact hin | exact ⟨hin, trivial⟩) (Eqv.refl _) ?_
  refine AnyE.tkO en_tidy tok hO 27 90 268435455 (by kernel_rfl) (by kernel_rfl) (by cbv <;> rfl) (by first | exact trivial | exact hin | exact ⟨hin, trivial⟩) (Eqv.refl _) ?_
  refine AnyE.tkO en_tidy tok hO 28 91 536870911 (by kernel_rfl) (by kernel_rfl) (by cbv <;> rfl) (by first | exact trivial | exact hin | exact ⟨hin, trivial⟩) (Eqv.refl _) ?_
  refine AnyE.tkO en_tidy tok hO 29 92 1073741823 (by kernel_rfl) (by kernel_rfl) (by cbv <;> rfl) (by first | exact trivial | exact hin | exact ⟨hin, trivial⟩) (Eqv.refl _) ?_
  refine AnyE.tkO en_tidy tok hO 30 93 2147483647 (by kernel_rfl) (by kernel_rfl) (by cbv <;> rfl) (by first | exact trivial | exact hin | exact ⟨hin, trivial⟩) (Eqv.refl _) ?_
  refine AnyE.tkO en_tidy tok hO 31 94 4294967295 (by kernel_rfl) (by kernel_rfl) (by cbv <;> rfl) (by first | exact trivial | exact hin | exact ⟨hin, trivial⟩) (Eqv.refl _) ?_
  refine AnyE.tkO en_tidy tok hO 32 95 8589934591 (by kernel_rfl) (by kernel_rfl) (by cbv <;> rfl) (by first | exact trivial | exact hin | exact ⟨hin, trivial⟩) (Eqv.refl _) ?_
  refine AnyE.tkO en_tidy tok hO 33 96 17179869183 (by kernel_rfl) (by kernel_rfl) (by cbv <;> rfl) (by first | exact trivial | exact hin | exact ⟨hin, trivial⟩) (Eqv.refl _) ?_
  refine AnyE.tkO en_tidy tok hO 34 97 34359738367 (by kernel_rfl) (by kernel_rfl) (by cbv <;> rfl) (by first | exact trivial | exact hin | exact ⟨hin, trivial⟩) (Eqv.refl _) ?_
  refine AnyE.tkO en_tidy tok hO 35 98 68719476735 (by kernel_rfl) (by kernel_rfl) (by cbv <;> rfl) (by first | exact trivial | exact hin | exact ⟨hin, trivial⟩) (Eqv.refl _) ?_
  refine AnyE.tkO en_tidy tok hO 36 99 137438953471 (by kernel_rfl) (by kernel_rfl) (by cbv <;> rfl) (by first | exact trivial | exact hin | exact ⟨hin, trivial⟩) (Eqv.refl _) ?_
  refine AnyE.tkO en_tidy tok hO 37 100 274877906943 (by kernel_rfl) (by kernel_rfl) (by cbv <;> rfl) (by first | exact trivial | exact hin | exact ⟨hin, trivial⟩) (Eqv.refl _) ?_
  refine AnyE.tkO en_tidy tok hO 38 101 549755813887 (by kernel_rfl) (by kernel_rfl) (by cbv <;> rfl) (by first | exact trivial | exact hin | exact ⟨hin, trivial⟩) (Eqv.refl _) ?_
  refine AnyE.tkO en_tidy tok hO 39 102 1099511627775 (by kernel_rfl) (by kernel_rfl) (by cbv <;> rfl) (by first | exact trivial | exact hin | exact ⟨hin, trivial⟩) (Eqv.refl _) ?_
  refine AnyE.tkO en_tidy tok hO 40 103 2199023255551 (by kernel_rfl) (by kernel_rfl) (by cbv <;> rfl) (by first | exact trivial | exact hin | exact ⟨hin, trivial⟩) (Eqv.refl _) ?_
  refine AnyE.tkO en_tidy tok hO 41 104 4398046511103 (by kernel_rfl) (by kernel_rfl) (by cbv <;> rfl) (by first | exact trivial | exact hin | exact ⟨hin, trivial⟩) (Eqv.refl _) ?_
  refine AnyE.tkO en_tidy tok hO 42 105 8796093022207 (by kernel_rfl) (by kernel_rfl) (by cbv <;> rfl) (by first | exact trivial | exact hin | exact ⟨hin, trivial⟩) (Eqv.refl _) ?_
  refine AnyE.tkO en_tidy tok hO 43 106 17592186044415 (by kernel_rfl) (by kernel_rfl) (by cbv <;> rfl) (by first | exact trivial | exact hin | exact ⟨hin, trivial⟩) (Eqv.refl _) ?_
  refine AnyE.tkO en_tidy tok hO 44 107 35184372088831 (by kernel_rfl) (by kernel_rfl) (by cbv <;> rfl) (by first | exact trivial | exact hin | exact ⟨hin, trivial⟩) (Eqv.refl _) ?_
  refine AnyE.tkO en_tidy tok hO 45 108 70368744177663 (by kernel_rfl) (by kernel_rfl) (by cbv <;> rfl) (by first | exact trivial | exact hin | exact ⟨hin, trivial⟩) (Eqv.refl _) ?_
  refine AnyE.tkO en_tidy tok hO 46 109 140737488355327 (by kernel_rfl) (by kernel_rfl) (by cbv <;> rfl) (by first | exact trivial | exact hin | exact ⟨hin, trivial⟩) (Eqv.refl _) ?_
  refine AnyE.tkO en_tidy tok hO 47 110 281474976710655 (by kernel_rfl) (by kernel_rfl) (by cbv <;> rfl) (by first | exact trivial | exact hin | exact ⟨hin, trivial⟩) (Eqv.refl _) ?_
  refine AnyE.tkO en_tidy tok hO 48 111 562949953421311 (by kernel_rfl) (by kernel_rfl) (by cbv <;> rfl) (by first | exact trivial | exact hin | exact ⟨hin, trivial⟩) (Eqv.refl _) ?_
  refine AnyE.tkO en_tidy tok hO 49 112 1125899906842623 (by kernel_rfl) (by kernel_rfl) (by cbv <;> rfl) (by first | exact trivial | exact hin | exact ⟨hin, trivial⟩) (Eqv.refl _) ?_
  refine AnyE.tkO en_tidy tok hO 50 113 2251799813685247 (by kernel_rfl) (by kernel_rfl) (by cbv <;> rfl) (by first | exact trivial | exact hin | exact ⟨hin, trivial⟩) (Eqv.refl _) ?_
  refine AnyE.tkO en_tidy tok hO 51 114 4503599627370495 (by kernel_rfl) (by kernel_rfl) (by cbv <;> rfl) (by first | exact trivial | exact hin | exact ⟨hin, trivial⟩) (Eqv.refl _) ?_
  refine AnyE.tkO en_tidy tok hO 52 115 9007199254740991 (by kernel_rfl) (by kernel_rfl) (by cbv <;> rfl) (by first | exact trivial | exact hin | exact ⟨hin, trivial⟩) (Eqv.refl _) ?_
  refine AnyE.tkO en_tidy tok hO 53 116 18014398509481983 (by kernel_rfl) (by kernel_rfl) (by cbv <;> rfl) (by first | exact trivial | exact hin | exact ⟨hin, trivial⟩) (Eqv.refl _) ?_
  refine AnyE.tkO en_tidy tok hO 54 117 36028797018963967 (by kernel_rfl) (by kernel_rfl) (by cbv <;> rfl) (by first | exact trivial | exact hin | exact ⟨hin, trivial⟩) (Eqv.refl _) ?_
  refine AnyE.efB tok hO 55 72057594037927935 (by kernel_rfl) (by cbv <;> rfl) (by cbv <;> rfl) (by trivial) (by kernel_rfl) (by repeat (first | exact trivial | refine And.intro (by first | exact lv_of hO (by cbv <;> rfl) (by first | exact trivial | exact hin | exact ⟨hin, trivial⟩) | (cbv <;> rfl)) ?_)) ?_
  refine AnyE.efB tok hO 56 144115188075855871 (by kernel_rfl) (by cbv <;> rfl) (by cbv <;> rfl) (by trivial) (by kernel_rfl) (by repeat (first | exact trivial | refine And.intro (by first | exact lv_of hO (by cbv <;> rfl) (by first | exact trivial | exact hin | exact ⟨hin, trivial⟩) | (cbv <;> rfl)) ?_)) ?_
  refine AnyE.done (by kernel_rfl) ?_
  exact hQ _ ⟨rfl, rfl, rfl, rfl, rfl, rfl, rfl, rfl, trivial⟩
end Go.Fz
set_option linter.unusedVariables false
set_option linter.unusedSimpArgs false
namespace Go.Fz
open Go.Proofs
set_option maxRecDepth 100000
set_option maxHeartbeats 8000000 in
theorem en_not (haw : Pure Try.prog 19 [] (.lit (.bool true))) (f : FarmD) (a : Int) (e52 : Pure Try.prog 52 [farmV f] (.sb false)) : Pure Try.prog 10 [farmV f, .lit (.int .u8 a)] (.lit (.bool true)) := by
  obtain ⟨O, hO⟩ : ∃ O : Ar, O = std := ⟨_, rfl⟩
  refine pure_of_body tok 3 Try.func10 en10 rfl ⟨farmV_below f, Below.lit, trivial⟩ Below.lit ?_
  refine SW.seqRun tok hO (by cbv <;> rfl) (by trivial) ?_
  refine SW.seq ?_
  refine SW.seqRun tok hO (by cbv <;> rfl) (by trivial) ?_
  refine OpsW.callP e52 (by cbv <;> rfl) ?_
  refine OpsW.run tok hO (by cbv <;> rfl) (by trivial) ?_
  refine SW.condS (by cbv <;> rfl) (fun hw1 => ?_) (fun hw1 => by first | (cases hw1; done) | (subst hO; simp [std] at hw1; done) | (subst hO; simp [std] at hw1; omega))
  refine SW.seqRun tok hO (by cbv <;> rfl) (by trivial) ?_
  refine OpsW.callP haw (by cbv <;> rfl) ?_
  refine OpsW.run tok hO (by cbv <;> rfl) (by trivial) ?_
  exact SW.ret ⟨_, _, rfl, rfl, Eqv.of rfl⟩
set_option maxHeartbeats 8000000 in
theorem en_pre (f : FarmD) (a : Int) (k : Nat) (hnz : Int.ofNat f.nb ≠ 0) (hk : std.bin .rem .i64 (std.conv .i64 a) (Int.ofNat f.nb) = Int.ofNat k) (e52 : Pure Try.prog 52 [farmV f] (.sb true))
    (htail : ∀ (gg : Nat → AV), AllP (fun p => gg p.1 = p.2) [(2, .ptr 0 0), (5, iV (Int.ofNat k))] → SW Try.prog none (restC 3 (bodyF Try.f10)) (trueQ3 Try.f10) ⟨⟨135, gg⟩, []⟩ ⟨[(0, .cells none false (farmL f))], 1⟩) : Pure Try.prog 10 [farmV f, .lit (.int .u8 a)] (.lit (.bool true)) := by
  obtain ⟨O, hO⟩ : ∃ O : Ar, O = std := ⟨_, rfl⟩
  rw [← hO] at hk
  refine pure_of_body tok 3 Try.func10 en10 rfl ⟨farmV_below f, Below.lit, trivial⟩ Below.lit ?_
  refine SW.seqRun tok hO (by cbv <;> rfl) (by repeat (first | exact trivial | exact hnz | refine ⟨?_, ?_⟩)) ?_
  refine SW.seq ?_
  refine SW.seqRun tok hO (by cbv <;> rfl) (by repeat (first | exact trivial | exact hnz | refine ⟨?_, ?_⟩)) ?_
  refine OpsW.callP e52 (by cbv <;> rfl) ?_
  refine OpsW.run tok hO (by cbv <;> rfl) (by repeat (first | exact trivial | exact hnz | refine ⟨?_, ?_⟩)) ?_
  refine SW.condS (by cbv <;> rfl) (fun hw1 => by first | (cases hw1; done) | (subst hO; simp [std] at hw1; done) | (subst hO; simp [std] at hw1; omega)) (fun hw1 => SW.skip ?_)
  refine SW.seqRun tok hO (by cbv <;> rfl) (by repeat (first | exact trivial | exact hnz | refine ⟨?_, ?_⟩)) ?_
  exact htail _ ⟨rfl, (by rw [← hk]; rfl), trivial⟩
set_option maxHeartbeats 8000000 in
theorem en_none (haw : Pure Try.prog 19 [] (.lit (.bool true))) (f : FarmD) (k : Nat) (gl : Nat → Nat → AV) (e21 : Pure Try.prog 21 [farmV f] (farmV f)) (e29 : Pure Try.prog 29 [farmV f] (.tup [nl3, iV 11])) (e55 : Pure Try.prog 55 [farmV f] (.isl 0 1 false gl))
    (gg : Nat → AV) (h : AllP (fun p => gg p.1 = p.2) [(2, .ptr 0 0), (5, iV (Int.ofNat k))]) :
    SW Try.prog none (restC 3 (bodyF Try.f10)) (trueQ3 Try.f10) ⟨⟨135, gg⟩, []⟩ ⟨[(0, .cells none false (farmL f))], 1⟩ := by
  obtain ⟨O, hO⟩ : ∃ O : Ar, O = std := ⟨_, rfl⟩
  obtain ⟨g1, g2, _⟩ := h
  simp only at g1 g2
  rw [← updT_self g1, ← updT_self g2]
  refine (show SW Try.prog none (.seq (.region _ _ _) _) _ _ _ from ?_)
  refine SW.seqRun tok hO (by cbv <;> rfl) (by trivial) ?_
  refine OpsW.callP e21 (by cbv <;> rfl) ?_
  refine OpsW.run tok hO (by cbv <;> rfl) (by trivial) ?_
  refine OpsW.callP e29 (by cbv <;> rfl) ?_
  refine OpsW.run tok hO (by cbv <;> rfl) (by trivial) ?_
  refine SW.seqRun tok hO (by cbv <;> rfl) (by trivial) ?_
  refine OpsW.callP e55 (by cbv <;> rfl) ?_
  refine OpsW.run tok hO (by cbv <;> rfl) (by trivial) ?_
  refine SW.seq ?_
  refine SW.seqRun tok hO (by cbv <;> rfl) (by trivial) ?_
  refine SW.condS (by cbv <;> rfl) (fun hw1 => ?_) (fun hw1 => by first | (cases hw1; done) | (subst hO; simp [std] at hw1; done) | (subst hO; simp [std] at hw1; omega))
  refine SW.seqRun tok hO (by cbv <;> rfl) (by trivial) ?_
  refine OpsW.splitG (by cbv <;> rfl) (fun hw2 => ?_) (fun hw2 => by first | (cases hw2; done) | (subst hO; simp [std] at hw2; done) | (subst hO; simp [std] at hw2; omega))
  refine OpsW.run tok hO (by cbv <;> rfl) (by trivial) ?_
  refine OpsW.splitG (by cbv <;> rfl) (fun hw3 => ?_) (fun hw3 => by first | (cases hw3; done) | (subst hO; simp [std] at hw3; done) | (subst hO; simp [std] at hw3; omega))
  refine OpsW.run tok hO (by cbv <;> rfl) (by trivial) ?_
  refine OpsW.callP haw (by cbv <;> rfl) ?_
  refine OpsW.run tok hO (by cbv <;> rfl) (by trivial) ?_
  exact SW.ret ⟨_, _, rfl, rfl, Eqv.of rfl⟩
set_option maxHeartbeats 8000000 in
theorem en_some (f : FarmD) (k N : Nat) (ln : Nat → Nat) (F : Nat → Nat → Int) (G : Nat → Nat → Int) (e21 : Pure Try.prog 21 [farmV f] (farmV f)) (e29 : Pure Try.prog 29 [farmV f] (.tup [.isl f.nb 6 false (fun i k => iV (G i k)), iV 0])) (e55 : Pure Try.prog 55 [farmV f] (.isl N 1 false (fun i _ => intsV (ln i) false (F i))))
    (htail : ∀ (gg : Nat → AV), AllP (fun p => gg p.1 = p.2) [(2, .ptr 0 0), (5, iV (Int.ofNat k)), (6, .isl f.nb 6 false (fun i k => iV (G i k))), (8, .isl N 1 false (fun i _ => intsV (ln i) false (F i)))] → SW Try.prog none (restC 7 (bodyF Try.f10)) (trueQ3 Try.f10) ⟨⟨135, gg⟩, []⟩ ⟨[(0, .cells none false (farmL f))], 1⟩)
    (gg : Nat → AV) (h : AllP (fun p => gg p.1 = p.2) [(2, .ptr 0 0), (5, iV (Int.ofNat k))]) :
    SW Try.prog none (restC 3 (bodyF Try.f10)) (trueQ3 Try.f10) ⟨⟨135, gg⟩, []⟩ ⟨[(0, .cells none false (farmL f))], 1⟩ := by
  obtain ⟨O, hO⟩ : ∃ O : Ar, O = std := ⟨_, rfl⟩
  obtain ⟨g1, g2, _⟩ := h
  simp only at g1 g2
  rw [← updT_self g1, ← updT_self g2]
  refine (show SW Try.prog none (.seq (.region _ _ _) _) _ _ _ from ?_)
  refine SW.seqRun tok hO (by cbv <;> rfl) (by trivial) ?_
  refine OpsW.callP e21 (by cbv <;> rfl) ?_
  refine OpsW.run tok hO (by cbv <;> rfl) (by trivial) ?_
  refine OpsW.callP e29 (by cbv <;> rfl) ?_
  refine OpsW.run tok hO (by cbv <;> rfl) (by trivial) ?_
  refine SW.seqRun tok hO (by cbv <;> rfl) (by trivial) ?_
  refine OpsW.callP e55 (by cbv <;> rfl) ?_
  refine OpsW.run tok hO (by cbv <;> rfl) (by trivial) ?_
  refine SW.seq ?_
  refine SW.seqRun tok hO (by cbv <;> rfl) (by trivial) ?_
  refine SW.condS (by cbv <;> rfl) (fun hw1 => by first | (cases hw1; done) | (subst hO; simp [std] at hw1; done) | (subst hO; simp [std] at hw1; omega)) (fun hw1 => SW.skip ?_)
  refine SW.seq ?_
  refine SW.seqRun tok hO (by cbv <;> rfl) (by trivial) ?_
  refine SW.condS (by cbv <;> rfl) (fun hw2 => by first | (cases hw2; done) | (subst hO; simp [std] at hw2; done) | (subst hO; simp [std] at hw2; omega)) (fun hw2 => SW.skip ?_)
  exact htail _ ⟨rfl, rfl, rfl, rfl, trivial⟩
theorem or_fin6 : ∀ (m : Fin 64) (j : Fin 6), 0 ≤ std.bin .or .i64 (m.1 : Int) (std.bin .shl .i64 1 (std.conv .u64 (j.1 : Int))) ∧ std.bin .or .i64 (m.1 : Int) (std.bin .shl .i64 1 (std.conv .u64 (j.1 : Int))) < 64 ∧ ∀ q : Fin 6, bitB (std.bin .or .i64 (m.1 : Int) (std.bin .shl .i64 1 (std.conv .u64 (j.1 : Int)))) q.1 = (bitB (m.1 : Int) q.1 || decide (q.1 = j.1)) := by decide +kernel
theorem all_fin6 : ∀ m : Fin 64, (∀ q : Fin 6, bitB (m.1 : Int) q.1 = true) → m.1 = 63 := by decide +kernel
theorem zero_bits : ∀ q : Fin 6, bitB 0 q.1 = false := by decide +kernel
theorem selB6 (g : Nat → Bool) (q : Nat) (h : q < 6) : std.selB [g 0, g 1, g 2, g 3, g 4, g 5] q = g q := by
  match q, h with
  | 0, _ => rfl
  | 1, _ => rfl
  | 2, _ => rfl
  | 3, _ => rfl
  | 4, _ => rfl
  | 5, _ => rfl
def enF (O : Ar) (G : Nat → Nat → Int) (k : Nat) (X Y Z : Int) : Nat → Bool
  | 0 => O.cmp .eql X (G (O.nat (Int.ofNat k)) 0)
  | 1 => O.cmp .eql X (G (O.nat (Int.ofNat k)) 1)
  | 2 => O.cmp .eql Y (G (O.nat (Int.ofNat k)) 2)
  | 3 => O.cmp .eql Y (G (O.nat (Int.ofNat k)) 3)
  | 4 => O.cmp .eql Z (G (O.nat (Int.ofNat k)) 4)
  | _ => O.cmp .eql Z (G (O.nat (Int.ofNat k)) 5)
def trip (X Y Z : Int) : Nat → Int
  | 0 => X
  | 1 => X
  | 2 => Y
  | 3 => Y
  | 4 => Z
  | _ => Z
set_option maxHeartbeats 64000000 in
theorem en_loop (haw : Pure Try.prog 19 [] (.lit (.bool true))) (f : FarmD) (k N : Nat) (hk : k < f.nb) (hN : N < 100000) (ln : Nat → Nat) (F : Nat → Nat → Int) (G : Nat → Nat → Int) (hLV : Below 0 (.isl N 1 false (fun i _ => intsV (ln i) false (F i)))) (x y z : Nat → Int)
    (e28 : ∀ i, i < N → Pure Try.prog 28 [farmV f, intsV (ln i) false (F i), iV (Int.ofNat k)] (.agg [iV (x i), iV (y i), iV (z i)]))
    (hall : ∀ q, q < 6 → ∃ i, i < N ∧ trip (x i) (y i) (z i) q = G k q)
    (gg : Nat → AV) (h : AllP (fun p => gg p.1 = p.2) [(2, .ptr 0 0), (5, iV (Int.ofNat k)), (6, .isl f.nb 6 false (fun i k => iV (G i k))), (8, .isl N 1 false (fun i _ => intsV (ln i) false (F i)))]) :
    SW Try.prog none (restC 7 (bodyF Try.f10)) (trueQ3 Try.f10) ⟨⟨135, gg⟩, []⟩ ⟨[(0, .cells none false (farmL f))], 1⟩ := by
  obtain ⟨O, hO⟩ : ∃ O : Ar, O = std := ⟨_, rfl⟩
  have hnat : ∀ i : Nat, O.nat (Int.ofNat i) = i := fun i => by subst hO; rfl
  obtain ⟨g2, g5, g6, g8, _⟩ := h
  simp only at g2 g5 g6 g8
  rw [← updT_self g2, ← updT_self g5, ← updT_self g6, ← updT_self g8]
  have hb0 : ∀ {n}, ObjBelow n (.cells none false (farmL f)) := ⟨fun x hx => Below.up (m := 0) (farmL_below f x hx), fun f h => by cases h⟩
  have hB : Below 0 (.isl f.nb 6 false (fun i k => iV (G i k))) := Below.isl fun i k _ _ => Below.lit
  have hin : 0 ≤ Int.ofNat k ∧ Int.ofNat k < Int.ofNat f.nb := ⟨Int.natCast_nonneg k, Int.ofNat_lt.2 hk⟩
  refine (show SW _ _ _ _ _ _ from ?_)
  refine SW.seqRun tok hO (by cbv <;> rfl) (by trivial) ?_
  refine SW.seq ?_
  refine SW.seqRun tok hO (by cbv <;> rfl) (by trivial) ?_
  refine (SW.block (SW.loopF (fun w : Nat × Nat => ⟨⟨135, getT [(2, .ptr 0 0), (5, iV (Int.ofNat k)), (6, .isl f.nb 6 false (fun i k => iV (G i k))), (8, .isl N 1 false (fun i _ => intsV (ln i) false (F i))), (9, iV ((w.2 : Nat) : Int)), (10, iV (Int.ofNat w.1))]⟩, []⟩) (fun _ => ⟨[(0, .cells none false (farmL f))], 1⟩) (fun w => N - w.1) (fun w => w.1 ≤ N ∧ w.2 < 64 ∧ ∀ q, q < 6 → (bitB (w.2 : Int) q = true ↔ ∃ i, i < w.1 ∧ trip (x i) (y i) (z i) q = G k q)) (0, 0)
    (fun _ => rfl) ⟨Nat.zero_le _, by decide, fun q hq => ⟨fun h => (by rw [show ((((0, 0) : Nat × Nat).2 : Nat) : Int) = 0 from rfl, zero_bits ⟨q, hq⟩] at h; cases h), fun ⟨i, hi, _⟩ => absurd hi (Nat.not_lt_zero i)⟩⟩
    (Weak.by rfl rfl (by simp) (Nat.le_refl _) (Nat.le_refl _) ⟨⟨rfl, .inl rfl⟩, ⟨rfl, .inl rfl⟩, ⟨rfl, .inl rfl⟩, ⟨rfl, .inl rfl⟩, ⟨rfl, .inl rfl⟩, ⟨rfl, .inl rfl⟩, trivial⟩ ⟨⟨rfl, by omega, .inl rfl⟩, trivial⟩) fun w hw => ?_))
  obtain ⟨i, m⟩ := w
  obtain ⟨hi, hm, hbits⟩ := hw
  simp only at hi hm hbits
  show SW _ _ _ _ ⟨⟨135, getT [(2, .ptr 0 0), (5, iV (Int.ofNat k)), (6, .isl f.nb 6 false (fun i k => iV (G i k))), (8, .isl N 1 false (fun i _ => intsV (ln i) false (F i))), (9, iV ((m : Nat) : Int)), (10, iV (Int.ofNat i))]⟩, []⟩ ⟨[(0, .cells none false (farmL f))], 1⟩
  obtain ⟨mI, hmI⟩ : ∃ v : Int, ((m : Nat) : Int) = v := ⟨_, rfl⟩
  rw [hmI]
  refine SW.seq ?_
  refine SW.seqRun tok hO (by cbv <;> rfl) (by trivial) ?_
  refine SW.condS (by cbv <;> rfl) (fun h => SW.skip ?_) (fun h => SW.exit ?_)
  · have hlt : i < N := by
      have : Int.ofNat i < Int.ofNat N := by subst hO; simpa [std] using h
      exact Int.ofNat_lt.1 this
    have hiN : 0 ≤ Int.ofNat i ∧ Int.ofNat i < Int.ofNat N := ⟨Int.natCast_nonneg i, Int.ofNat_lt.2 hlt⟩
    have call := e28 (O.nat (Int.ofNat i)) (by rw [hnat]; exact hlt)
    obtain ⟨X, hX⟩ : ∃ v, x (O.nat (Int.ofNat i)) = v := ⟨_, rfl⟩
    obtain ⟨Y, hY⟩ : ∃ v, y (O.nat (Int.ofNat i)) = v := ⟨_, rfl⟩
    obtain ⟨Z, hZ⟩ : ∃ v, z (O.nat (Int.ofNat i)) = v := ⟨_, rfl⟩
    rw [hX, hY, hZ] at call
    rw [hnat] at hX hY hZ
    refine SW.seq (SW.block ?_)
    refine SW.seq ((show SW Try.prog none _ (midK 135 [(2, .ptr 0 0), (5, iV (Int.ofNat k)), (6, .isl f.nb 6 false (fun i k => iV (G i k))), (8, .isl N 1 false (fun i _ => intsV (ln i) false (F i))), (9, iV (mI)), (10, iV (Int.ofNat i)), (11, .ptr 1 0)] ⟨(1, .cells none false [iV X, iV Y, iV Z]) :: (0, .cells none false (farmL f)) :: [], 2⟩) _ _ from ?_).mono fun ee fm st hmm => ?_)
    · refine SW.runD tok mixed hO (by kernel_rfl) (by cbv <;> rfl) (by repeat (first | exact trivial | exact hiN | exact hiN.1 | exact hiN.2 | refine ⟨?_, ?_⟩)) ?_
      refine AnyE.many [6, 7] (by cbv <;> rfl) (by rfl) ⟨?_, ?_, trivial⟩
      · refine PickE.callQ call (by cbv <;> rfl) (by cbv <;> rfl) ?_ ?_
        · exact (by repeat (first | exact trivial | refine And.intro (by first | exact lv_of hO (by cbv <;> rfl) (by trivial) | (cbv <;> rfl)) ?_))
        refine AnyE.run tok hO (by rfl) (by cbv <;> rfl) (by trivial) ?_
        refine AnyE.effK tok hO (by cbv <;> rfl) (by cbv <;> rfl) (by trivial) ?_ ?_
        · exact (by repeat (first | exact trivial | refine And.intro (by first | exact lv_of hO (by cbv <;> rfl) (by trivial) | (cbv <;> rfl)) ?_))
        refine AnyE.run tok hO (by rfl) (by cbv <;> rfl) (by trivial) ?_
        refine AnyE.effK tok hO (by cbv <;> rfl) (by cbv <;> rfl) (by trivial) ?_ ?_
        · exact (by repeat (first | exact trivial | refine And.intro (by first | exact lv_of hO (by cbv <;> rfl) (by trivial) | (cbv <;> rfl)) ?_))
        refine AnyE.run tok hO (by rfl) (by cbv <;> rfl) (by trivial) ?_
        exact ⟨rfl, _, rfl, ⟨rfl, rfl, rfl, rfl, rfl, rfl, rfl, trivial⟩, rfl⟩
      · refine PickE.eff tok hO (by cbv <;> rfl) (by cbv <;> rfl) (by trivial) ?_ ?_
        · exact (by repeat (first | exact trivial | refine And.intro (by first | exact lv_of hO (by cbv <;> rfl) (by trivial) | (cbv <;> rfl)) ?_))
        refine AnyE.run tok hO (by rfl) (by cbv <;> rfl) (by trivial) ?_
        refine AnyE.callP call (by cbv <;> rfl) (by cbv <;> rfl) ?_
        refine AnyE.run tok hO (by rfl) (by cbv <;> rfl) (by trivial) ?_
        refine AnyE.effK tok hO (by cbv <;> rfl) (by cbv <;> rfl) (by trivial) ?_ ?_
        · exact (by repeat (first | exact trivial | refine And.intro (by first | exact lv_of hO (by cbv <;> rfl) (by trivial) | (cbv <;> rfl)) ?_))
        refine AnyE.run tok hO (by rfl) (by cbv <;> rfl) (by trivial) ?_
        exact ⟨rfl, _, rfl, ⟨rfl, rfl, rfl, rfl, rfl, rfl, rfl, trivial⟩, rfl⟩
    obtain ⟨rfl, ts, rfl, ⟨q2, q5, q6, q8, q9, q10, q11, _⟩, rfl⟩ := hmm
    simp only at q2 q5 q6 q8 q9 q10 q11
    refine (show SW _ _ _ _ _ _ from ?_)
    refine SW.fmT (len := 135) (enL N k i (fun i _ => intsV (ln i) false (F i)) f.nb G mI) rfl rfl ⟨⟨q2, .inl rfl⟩, ⟨q5, .inl rfl⟩, ⟨q6, .inl rfl⟩, ⟨q8, .inl rfl⟩, ⟨q9, .inl rfl⟩, ⟨q10, .inl rfl⟩, ⟨q11, .inl rfl⟩, trivial⟩ (fun id o ho => by
      have hmm := Hp.mem_of_get ho
      simp only [List.mem_cons, List.not_mem_nil, or_false, Prod.mk.injEq] at hmm
      rcases hmm with ⟨rfl, _⟩ | ⟨rfl, _⟩ <;> omega) ?_
    refine SW.seq (show SW Try.prog none (.region 15 enA true) _ ⟨⟨135, getT (enL N k i (fun i _ => intsV (ln i) false (F i)) f.nb G mI)⟩, []⟩ _ from en_r15 f N k i _ G mI X Y Z hO hin fun g hg => ?_)
    obtain ⟨r2, r5, r6, r8, r9, r10, r11, r12, _⟩ := hg
    simp only at r2 r5 r6 r8 r9 r10 r11 r12
    rw [← updT_self r2, ← updT_self r5, ← updT_self r6, ← updT_self r8, ← updT_self r9, ← updT_self r10, ← updT_self r12]
    obtain ⟨e, he⟩ : ∃ e, e = enF O G k X Y Z := ⟨_, rfl⟩
    have hcells : enE O G k X Y Z = [.sb (e 0), .sb (e 1), .sb (e 2), .sb (e 3), .sb (e 4), .sb (e 5)] := by rw [he]; rfl
    rw [hcells]
    have heq : ∀ q, q < 6 → (e q = true ↔ trip (x i) (y i) (z i) q = G k q) := fun q hq => by
      rw [he, hX, hY, hZ]
      match q, hq with
      | 0, _ => show O.cmp .eql X (G (O.nat (Int.ofNat k)) 0) = true ↔ X = G k 0; rw [hnat]; subst hO; simp [std]
      | 1, _ => show O.cmp .eql X (G (O.nat (Int.ofNat k)) 1) = true ↔ X = G k 1; rw [hnat]; subst hO; simp [std]
      | 2, _ => show O.cmp .eql Y (G (O.nat (Int.ofNat k)) 2) = true ↔ Y = G k 2; rw [hnat]; subst hO; simp [std]
      | 3, _ => show O.cmp .eql Y (G (O.nat (Int.ofNat k)) 3) = true ↔ Y = G k 3; rw [hnat]; subst hO; simp [std]
      | 4, _ => show O.cmp .eql Z (G (O.nat (Int.ofNat k)) 4) = true ↔ Z = G k 4; rw [hnat]; subst hO; simp [std]
      | 5, _ => show O.cmp .eql Z (G (O.nat (Int.ofNat k)) 5) = true ↔ Z = G k 5; rw [hnat]; subst hO; simp [std]
    clear he hcells call
    refine (show SW _ _ _ _ _ _ from ?_)
    refine SW.seqRun tok hO (by cbv <;> rfl) (by trivial) ?_
    refine (SW.block (SW.loopF (fun w : Nat × Nat => ⟨⟨135, getT [(2, .ptr 0 0), (5, iV (Int.ofNat k)), (6, .isl f.nb 6 false (fun i k => iV (G i k))), (8, .isl N 1 false (fun i _ => intsV (ln i) false (F i))), (9, iV ((w.2 : Nat) : Int)), (10, iV (Int.ofNat i)), (12, .ptr 2 0), (13, iV (Int.ofNat w.1))]⟩, []⟩) (fun _ => ⟨(2, .cells none false [.sb (e 0), .sb (e 1), .sb (e 2), .sb (e 3), .sb (e 4), .sb (e 5)]) :: (0, .cells none false (farmL f)) :: [], 3⟩) (fun w => 6 - w.1) (fun w => w.1 ≤ 6 ∧ w.2 < 64 ∧ ∀ q, q < 6 → bitB (w.2 : Int) q = (bitB (m : Int) q || (decide (q < w.1) && e q))) (0, m)
      (fun _ => rfl) ⟨Nat.zero_le _, hm, fun q hq => by simp⟩
      (Weak.by rfl rfl (by simp) (Nat.le_refl _) (Nat.le_refl _) ⟨⟨rfl, .inl rfl⟩, ⟨rfl, .inl rfl⟩, ⟨rfl, .inl rfl⟩, ⟨rfl, .inl rfl⟩, ⟨by rw [show (((0, m) : Nat × Nat).2 : Int) = mI from hmI]; rfl, .inl rfl⟩, ⟨rfl, .inl rfl⟩, ⟨rfl, .inl rfl⟩, ⟨rfl, .inl rfl⟩, trivial⟩ ⟨⟨rfl, by omega, .inl rfl⟩, ⟨rfl, by omega, .inl rfl⟩, trivial⟩) fun w hw => ?_))
    obtain ⟨j, m2⟩ := w
    obtain ⟨hj, hm2, hb2⟩ := hw
    simp only at hj hm2 hb2
    show SW _ _ _ _ ⟨⟨135, getT [(2, .ptr 0 0), (5, iV (Int.ofNat k)), (6, .isl f.nb 6 false (fun i k => iV (G i k))), (8, .isl N 1 false (fun i _ => intsV (ln i) false (F i))), (9, iV ((m2 : Nat) : Int)), (10, iV (Int.ofNat i)), (12, .ptr 2 0), (13, iV (Int.ofNat j))]⟩, []⟩ ⟨(2, .cells none false [.sb (e 0), .sb (e 1), .sb (e 2), .sb (e 3), .sb (e 4), .sb (e 5)]) :: (0, .cells none false (farmL f)) :: [], 3⟩
    have hbE : ∀ {n}, ObjBelow n (.cells none false [.sb (e 0), .sb (e 1), .sb (e 2), .sb (e 3), .sb (e 4), .sb (e 5)]) := ⟨AllB.ok ⟨Below.sb, Below.sb, Below.sb, Below.sb, Below.sb, Below.sb, trivial⟩, fun f h => by cases h⟩
    refine SW.seq ?_
    refine SW.seqRun tok hO (by cbv <;> rfl) (by trivial) ?_
    refine SW.condS (by cbv <;> rfl) (fun h2 => SW.skip ?_) (fun h2 => SW.exit ?_)
    · have hlj : j < 6 := by
        have : Int.ofNat j < 6 := by subst hO; simpa [std] using h2
        exact Int.ofNat_lt.1 this
      have hij : 0 ≤ Int.ofNat j ∧ Int.ofNat j < 6 := ⟨Int.natCast_nonneg j, by show (j : Int) < 6; omega⟩
      have hnj : O.nat (Int.ofNat j) < 6 := by rw [hnat]; exact hlj
      have hcv : 0 ≤ O.conv .u64 (Int.ofNat j) := conv0B hO (by omega)
      obtain ⟨v0, v1, v2⟩ := or_fin6 ⟨m2, hm2⟩ ⟨j, hlj⟩
      simp only at v0 v1 v2
      refine SW.seq (SW.block ?_)
      refine SW.seqRun tok hO (by cbv <;> rfl) (by repeat (first | exact trivial | exact hnj | exact hij | exact hij.1 | exact hij.2 | refine ⟨?_, ?_⟩)) ?_
      refine SW.condS (by cbv <;> rfl) (fun h3 => ?_) (fun h3 => SW.skip ?_)
      · have h3e : e j = true := by
          have : O.selB [e 0, e 1, e 2, e 3, e 4, e 5] (O.nat (Int.ofNat j)) = true := h3
          rw [hnat] at this; subst hO; rw [selB6 e j hlj] at this; exact this
        obtain ⟨mn, hmn⟩ : ∃ r : Nat, std.bin .or .i64 (m2 : Int) (std.bin .shl .i64 1 (std.conv .u64 (j : Int))) = (r : Int) := ⟨(std.bin .or .i64 (m2 : Int) (std.bin .shl .i64 1 (std.conv .u64 (j : Int)))).toNat, by omega⟩
        rw [hmn] at v1 v2
        have hval : O.bin .or .i64 ((m2 : Nat) : Int) (O.bin .shl .i64 1 (O.conv .u64 (Int.ofNat j))) = (mn : Int) := by subst hO; exact hmn
        refine SW.run tok hO (by cbv <;> rfl) (by first | exact hcv | exact ⟨hcv, trivial⟩) ?_
        refine SW.run tok hO (by cbv <;> rfl) (by trivial) ?_
        refine ⟨(j + 1, mn), by show 6 - (j + 1) < 6 - j; omega, ⟨by show j + 1 ≤ 6; omega, by show mn < 64; omega, fun q hq => ?_⟩, Weak.by rfl rfl (by simp) (Nat.le_refl _) (by first | exact Nat.le_refl _ | exact Nat.le_succ _) ⟨⟨rfl, .inr (Below.ptr (by omega))⟩, ⟨rfl, .inr Below.lit⟩, ⟨rfl, .inr (Below.up (m := 0) hB)⟩, ⟨rfl, .inr (Below.up (m := 0) hLV)⟩, ⟨by rw [← hval]; rfl, .inr Below.lit⟩, ⟨rfl, .inr Below.lit⟩, ⟨rfl, .inr (Below.ptr (by omega))⟩, ⟨inc_ok hO (by omega), .inr Below.lit⟩, trivial⟩ ⟨⟨rfl, by omega, .inr hbE⟩, ⟨rfl, by omega, .inr hb0⟩, trivial⟩⟩
        have := v2 ⟨q, hq⟩
        simp only at this
        show bitB (mn : Int) q = _
        rw [this, hb2 q hq]
        by_cases hqj : q = j
        · subst hqj; rw [h3e]; simp
        · rw [decide_eq_false hqj, Bool.or_false]
          congr 2
          exact decide_eq_decide.2 ⟨fun h => by show q < j + 1; omega, fun h => by have h : q < j + 1 := h; omega⟩
      · have h3e : e j = false := by
          have : O.selB [e 0, e 1, e 2, e 3, e 4, e 5] (O.nat (Int.ofNat j)) = false := h3
          rw [hnat] at this; subst hO; rw [selB6 e j hlj] at this; exact this
        refine SW.run tok hO (by cbv <;> rfl) (by trivial) ?_
        refine ⟨(j + 1, m2), by show 6 - (j + 1) < 6 - j; omega, ⟨by show j + 1 ≤ 6; omega, hm2, fun q hq => ?_⟩, Weak.by rfl rfl (by simp) (Nat.le_refl _) (by first | exact Nat.le_refl _ | exact Nat.le_succ _) ⟨⟨rfl, .inr (Below.ptr (by omega))⟩, ⟨rfl, .inr Below.lit⟩, ⟨rfl, .inr (Below.up (m := 0) hB)⟩, ⟨rfl, .inr (Below.up (m := 0) hLV)⟩, ⟨rfl, .inr Below.lit⟩, ⟨rfl, .inr Below.lit⟩, ⟨rfl, .inr (Below.ptr (by omega))⟩, ⟨inc_ok hO (by omega), .inr Below.lit⟩, trivial⟩ ⟨⟨rfl, by omega, .inr hbE⟩, ⟨rfl, by omega, .inr hb0⟩, trivial⟩⟩
        show bitB (m2 : Int) q = _
        rw [hb2 q hq]
        by_cases hqj : q = j
        · subst hqj; rw [h3e]; simp
        · congr 2
          exact decide_eq_decide.2 ⟨fun h => by show q < j + 1; omega, fun h => by have h : q < j + 1 := h; omega⟩
    · have hz : j = 6 := by
        have : ¬ Int.ofNat j < 6 := by subst hO; simpa [std] using h2
        have h2 : ¬ j < 6 := fun h => this (by show (j : Int) < 6; omega)
        omega
      refine SW.run tok hO (by cbv <;> rfl) (by trivial) ?_
      refine ⟨(i + 1, m2), by show N - (i + 1) < N - i; omega, ⟨by show i + 1 ≤ N; omega, hm2, fun q hq => ?_⟩, Weak.by rfl rfl (by simp) (Nat.le_refl _) (by first | exact Nat.le_refl _ | exact Nat.le_succ _ | exact Nat.le_of_ble_eq_true rfl) ⟨⟨rfl, .inr (Below.ptr (by omega))⟩, ⟨rfl, .inr Below.lit⟩, ⟨rfl, .inr (Below.up (m := 0) hB)⟩, ⟨rfl, .inr (Below.up (m := 0) hLV)⟩, ⟨rfl, .inr Below.lit⟩, ⟨inc_ok hO (by omega), .inr Below.lit⟩, trivial⟩ ⟨⟨rfl, by omega, .inr hb0⟩, trivial⟩⟩
      show bitB (m2 : Int) q = true ↔ ∃ i', i' < i + 1 ∧ _
      rw [hb2 q hq, hz, decide_eq_true hq, Bool.true_and, Bool.or_eq_true, hbits q hq, heq q hq]
      constructor
      · rintro (⟨i', h4, h5⟩ | h4)
        · exact ⟨i', by omega, h5⟩
        · exact ⟨i, by omega, h4⟩
      · rintro ⟨i', h4, h5⟩
        by_cases hii : i' = i
        · subst hii; exact .inr h5
        · exact .inl ⟨i', by omega, h5⟩
  · have hz : i = N := by
      have : ¬ Int.ofNat i < Int.ofNat N := by subst hO; simpa [std] using h
      have h2 : ¬ i < N := fun h => this (Int.ofNat_lt.2 h)
      omega
    have h63 : mI = 63 := by
      have := all_fin6 ⟨m, hm⟩ fun q => by
        rw [hbits q.1 q.2, hz]
        exact hall q.1 q.2
      simp only at this
      rw [← hmI, this]; rfl
    rw [h63]
    refine SW.seqRun tok hO (by cbv <;> rfl) (by trivial) ?_
    refine OpsW.splitG (by cbv <;> rfl) (fun h5 => ?_) (fun h5 => by exfalso; subst hO; simp [std] at h5)
    refine OpsW.run tok hO (by cbv <;> rfl) (by trivial) ?_
    refine OpsW.callP haw (by cbv <;> rfl) ?_
    refine OpsW.run tok hO (by cbv <;> rfl) (by trivial) ?_
    exact SW.ret ⟨_, _, rfl, rfl, Eqv.of rfl⟩
end Go.Fz
set_option linter.unusedVariables false
set_option linter.unusedSimpArgs false
namespace Go.Fz
open Go.Proofs
set_option maxRecDepth 100000
end Go.Fz
set_option linter.unusedVariables false
set_option linter.unusedSimpArgs false
namespace Go.Fz
open Go.Proofs
set_option maxRecDepth 100000
end Go.Fz
set_option linter.unusedVariables false
namespace Go.Fz
open Go.Proofs
set_option maxRecDepth 100000
end Go.Fz
set_option linter.unusedVariables false
namespace Go.Fz
open Go.Proofs
set_option maxRecDepth 100000
end Go.Fz
set_option linter.unusedVariables false
namespace Go.Fz
open Go.Proofs
set_option maxRecDepth 100000
section
variable (f : FarmD) (b : Int) (ov : Bool) (lo hi : Int)
end
section
variable {f : FarmD} {b : Int} {ov : Bool} {lo hi : Int}
end
end Go.Fz
set_option linter.unusedVariables false
namespace Go.Fz
open Go.Proofs
set_option maxRecDepth 100000
end Go.Fz
set_option linter.unusedVariables false
namespace Go.Fz
open Go.Proofs
set_option maxRecDepth 100000
end Go.Fz
set_option linter.unusedVariables false
namespace Go.Fz
open Go.Proofs
set_option maxRecDepth 100000
section
variable (f : FarmD) (k : Nat) (lo hi : Int)
end
end Go.Fz
set_option linter.unusedVariables false
set_option linter.unusedSimpArgs false
namespace Go.Fz
open Go.Proofs
set_option maxRecDepth 100000
end Go.Fz
set_option linter.unusedVariables false
namespace Go.Fz
open Go.Proofs
set_option maxRecDepth 100000
end Go.Fz
set_option linter.unusedVariables false
namespace Go.Fz
open Go.Proofs
set_option maxRecDepth 100000
end Go.Fz
set_option linter.unusedVariables false
namespace Go.Fz
open Go.Proofs
set_option maxRecDepth 100000
theorem FarmD.bnC_at (f : FarmD) (b k : Nat) : f.bnC b k = iV (f.bnI b k) := by rw [f.bnC_eq]
end Go.Fz
