/- Own work of the verifier of watercress: FzE2, FzG0, FzE3. -/
import Derived.Below
import Derived.CallsIn
import Derived.Carry
import Derived.ChangeKeysEq
import Derived.ChangeSame
import Derived.Deep.Slices
import Derived.DeepKeys4
import Derived.JoinedCond
import Derived.Laws.AppendOwn
import Derived.Laws.Cells
import Derived.Laws.CopyRow
import Derived.Laws.Cover3
import Derived.Laws.Entries
import Derived.Laws.NewFold
import Derived.Laws.Sem
import Derived.Laws.Small
import Derived.Laws.StructEq
import Derived.Laws.Tables
import Derived.Laws.World
import Derived.Lib.SmallJoins
import Derived.Maps.Keyed
import Derived.Maps.RangeRun
import Derived.OpenShut
import Derived.OrdersHeld
import Derived.OrdersIn
import Derived.ProofKit
import Derived.RangeFuncLeaves
import Derived.RangeFuncRecord
import Derived.Shelf.Abstract
import Derived.WalkKit
import Derived.WideKeyArgs
import Derived.Test.YtpaifaemkoblcaaNa16
import Derived.Test.YtpaifaemkoblcaaNa24
import Derived.Test.YtpaifaemkoblcaaNa25
import Derived.Test.YtpaifaemkoblcaaNa26
import Derived.Test.YtpaifaemkoblcaaNa19
import Derived.Test.YtpaifaemkoblcaaNa20
import Derived.Test.YtpaifaemkoblcaaNa21
import Derived.Test.YtpaifaemkoblcaaNa22
import Derived.Test.YtpaifaemkoblcaaNa23
import Derived.Test.YtpaifaemkoblcaaNa27
import Derived.Test.YtpaifaemkoblcaaNa32
import Derived.Test.YtpaifaemkoblcaaNa35
import Derived.Test.YtpaifaemkoblcaaNa33
import Derived.Test.YtpaifaemkoblcaaNa34
import Derived.Test.YtpaifaemkoblcaaNa28
import Derived.Test.YtpaifaemkoblcaaNa29
import Derived.Test.YtpaifaemkoblcaaNa30
import Derived.Test.YtpaifaemkoblcaaNa31
import Derived.Test.YtpaifaemkoblcaaNa36
import Derived.Test.YtpaifaemkoblcaaNe0
import Derived.Test.YtpaifaemkoblcaaNa37
import Derived.Test.YtpaifaemkoblcaaNa38
import Derived.Test.YtpaifaemkoblcaaNa40
import Derived.Test.YtpaifaemkoblcaaNa39
import Derived.Test.YtpaifaemkoblcaaNa41
import Derived.Test.YtpaifaemkoblcaaNa17
import Derived.Test.YtpaifaemkoblcaaNa18
import Derived.Test.YtpaifaemkoblcaaNa10
import Derived.Test.YtpaifaemkoblcaaNa12
import Derived.Test.YtpaifaemkoblcaaNa11
import Derived.Test.YtpaifaemkoblcaaNa13
import Derived.Test.YtpaifaemkoblcaaNa14
import Derived.Test.YtpaifaemkoblcaaNa0
import Derived.Test.YtpaifaemkoblcaaNa1
import Derived.Test.YtpaifaemkoblcaaNa2
import Derived.Test.YtpaifaemkoblcaaNa3
import Derived.Test.YtpaifaemkoblcaaNa4
import Derived.Test.YtpaifaemkoblcaaNa5
import Derived.Test.YtpaifaemkoblcaaNa6
import Derived.Test.YtpaifaemkoblcaaNa7
import Derived.Test.YtpaifaemkoblcaaNa8
import Derived.Test.YtpaifaemkoblcaaNa9
import Derived.Test.YtpaifaemkoblcaaProg
import Derived.Test.YtpaifaemkoblcaaRows
set_option linter.unusedVariables false
set_option linter.unusedSimpArgs false
set_option linter.unusedVariables false
set_option linter.unusedSimpArgs false
namespace Go.Fz
open Go.Proofs
set_option maxRecDepth 100000
noncomputable def alC : Code := match nthC 2 (bodyF Try.f45) with
  | .seq _ (.block _ (.loop c)) => c
  | _ => .skip
noncomputable def alB : Code := match alC with
  | .seq _ (.seq (.block _ b) _) => b
  | _ => .skip
theorem conv0B {O : Ar} (hO : O = std) {i : Nat} (h : i < 1000) : 0 ≤ O.conv .u64 (Int.ofNat i) := by
  subst hO
  show 0 ≤ wrp .u64 ((i : Nat) : Int)
  rw [wrp_in (by simp only [IntKind.lo]; omega) (by simp only [IntKind.hi]; omega)]
  omega
set_option maxHeartbeats 16000000 in
theorem all_in0 (f : FarmD) (hnl : f.nl < 1000) (X : AV) (i : Nat) (fl : Nat → Int) (R : Nat → Bool) (e60 : Pure Try.prog 60 [farmV f, iV (Int.ofNat i)] (intsV f.ns false fl)) (hr : ∀ j, j < f.nl → Pure Try.prog 75 [farmV f, intsV f.ns false fl, lookV f j] (.sb (R j)))
    (g : Nat → AV) (O : Ar) (hO : O = std) (h : AllP (fun p => g p.1 = p.2) [(1, .ptr 0 0), (3, X), (4, iV (Int.ofNat i)), (5, iV 0)]) :
    SW Try.prog none (nthC 1 alB) (midK 40 [(1, .ptr 0 0), (3, X), (4, iV (Int.ofNat i)), (5, iV (bitsN R f.nl))] ⟨(0, .cells none false (farmL f)) :: [], 2⟩) ⟨⟨40, g⟩, []⟩ ⟨(0, .cells none false (farmL f)) :: [], 2⟩ := by
  have hnat : ∀ i : Nat, O.nat (Int.ofNat i) = i := fun i => by subst hO; rfl
  obtain ⟨bb, hbb⟩ : ∃ bb, bb = bitsN R := ⟨_, rfl⟩
  have hb0 : bb 0 = 0 := by rw [hbb]; rfl
  have hbs : ∀ j, bb (j + 1) = if R j = true then O.bin .or .i64 (bb j) (O.bin .shl .i64 1 (O.conv .u64 (Int.ofNat j))) else bb j := fun j => by rw [hbb]; subst hO; rfl
  rw [← hbb]
  obtain ⟨g1, g3, g4, g5, _⟩ := h
  simp only at g1 g3 g4 g5
  rw [← updT_self g1, ← updT_self g3, ← updT_self g4, ← updT_self g5]
  refine SW.seqRun tok hO (by cbv <;> rfl) (by trivial) ?_
  refine (SW.block (SW.loopF (fun j : Nat => ⟨⟨40, getT [(1, .ptr 0 0), (3, X), (4, iV (Int.ofNat i)), (5, iV (bb j)), (6, iV (Int.ofNat j))]⟩, []⟩)
    (fun _ => ⟨(0, .cells none false (farmL f)) :: [], 2⟩) (fun j => f.nl - j) (fun j => j ≤ f.nl) 0
    (fun _ => rfl) (Nat.zero_le _) (Weak.by rfl rfl (by simp) (Nat.le_refl _) (Nat.le_refl _) ⟨⟨rfl, .inl rfl⟩, ⟨rfl, .inl rfl⟩, ⟨rfl, .inl rfl⟩, ⟨by rw [hb0]; rfl, .inl rfl⟩, ⟨rfl, .inl rfl⟩, trivial⟩ ⟨⟨rfl, by omega, .inl rfl⟩, trivial⟩) fun j hj => ?_))
  refine SW.seq ?_
  refine SW.seqRun tok hO (by cbv <;> rfl) (by trivial) ?_
  refine SW.condS (by cbv <;> rfl) (fun h => SW.skip ?_) (fun h => SW.exit ?_)
  · have hlt : j < f.nl := by
      have : Int.ofNat j < (f.nl : Int) := by subst hO; simpa [std] using h
      exact Int.ofNat_lt.1 this
    have hin : 0 ≤ Int.ofNat j ∧ Int.ofNat j < (f.nl : Int) := ⟨Int.natCast_nonneg j, Int.ofNat_lt.2 hlt⟩
    have hnn : 0 ≤ O.conv .u64 (Int.ofNat j) := conv0B hO (by omega)
    have call := hr (O.nat (Int.ofNat j)) (by rw [hnat]; exact hlt)
    refine SW.seq (SW.block ?_)
    refine SW.seqRunD tok mixed hO (by kernel_rfl) (by cbv <;> rfl) (by repeat (first | exact trivial | exact hin | refine ⟨?_, ?_⟩)) ?_
    refine AnyE.callP e60 (by cbv <;> rfl) (by cbv <;> rfl) ?_
    refine AnyE.run tok hO (by kernel_rfl) (by cbv <;> rfl) (by trivial) ?_
    refine AnyE.callP call (by cbv <;> rfl) (by cbv <;> rfl) ?_
    refine AnyE.run tok hO (by kernel_rfl) (by cbv <;> rfl) (by trivial) ?_
    refine SW.condS (by cbv <;> rfl) (fun h2 => ?_) (fun h2 => SW.skip ?_)
    · rw [hnat] at h2
      refine SW.run tok hO (by cbv <;> rfl) (by first | exact hnn | exact ⟨hnn, trivial⟩) ?_
      refine SW.run tok hO (by cbv <;> rfl) (by trivial) ?_
      have hcn : bb (j + 1) = O.bin .or .i64 (bb j) (O.bin .shl .i64 1 (O.conv .u64 (Int.ofNat j))) := by rw [hbs, h2]; rfl
      exact ⟨j + 1, by omega, by omega, Weak.by rfl rfl (by simp) (Nat.le_refl _) (Nat.le_refl _) ⟨⟨rfl, .inl rfl⟩, ⟨rfl, .inl rfl⟩, ⟨rfl, .inl rfl⟩, ⟨by rw [hcn]; rfl, .inl rfl⟩, ⟨inc_ok hO (by omega), .inl rfl⟩, trivial⟩ ⟨⟨rfl, by omega, .inl rfl⟩, trivial⟩⟩
    · rw [hnat] at h2
      refine SW.run tok hO (by cbv <;> rfl) (by trivial) ?_
      have hcn : bb (j + 1) = bb j := by rw [hbs, h2]; rfl
      exact ⟨j + 1, by omega, by omega, Weak.by rfl rfl (by simp) (Nat.le_refl _) (Nat.le_refl _) ⟨⟨rfl, .inl rfl⟩, ⟨rfl, .inl rfl⟩, ⟨rfl, .inl rfl⟩, ⟨by rw [hcn]; rfl, .inl rfl⟩, ⟨inc_ok hO (by omega), .inl rfl⟩, trivial⟩ ⟨⟨rfl, by omega, .inl rfl⟩, trivial⟩⟩
  · have hle : ¬ j < f.nl := by
      have : ¬ Int.ofNat j < (f.nl : Int) := by subst hO; simpa [std] using h
      exact fun h => this (Int.ofNat_lt.2 h)
    obtain rfl : j = f.nl := by omega
    exact ⟨rfl, _, rfl, ⟨rfl, rfl, rfl, rfl, trivial⟩, rfl⟩
set_option maxHeartbeats 16000000 in
theorem all_in1 (f : FarmD) (hnl : f.nl < 1000) (X : AV) (i : Nat) (G : List AV) (fl : Nat → Int) (R : Nat → Bool) (e60 : Pure Try.prog 60 [farmV f, iV (Int.ofNat i)] (intsV f.ns false fl)) (hr : ∀ j, j < f.nl → Pure Try.prog 75 [farmV f, intsV f.ns false fl, lookV f j] (.sb (R j)))
    (g : Nat → AV) (O : Ar) (hO : O = std) (h : AllP (fun p => g p.1 = p.2) [(1, .ptr 0 0), (3, X), (4, iV (Int.ofNat i)), (5, iV 0)]) :
    SW Try.prog none (nthC 1 alB) (midK 40 [(1, .ptr 0 0), (3, X), (4, iV (Int.ofNat i)), (5, iV (bitsN R f.nl))] ⟨(0, .cells none false (farmL f)) :: [(1, .cells none false G)], 2⟩) ⟨⟨40, g⟩, []⟩ ⟨(0, .cells none false (farmL f)) :: [(1, .cells none false G)], 2⟩ := by
  have hnat : ∀ i : Nat, O.nat (Int.ofNat i) = i := fun i => by subst hO; rfl
  obtain ⟨bb, hbb⟩ : ∃ bb, bb = bitsN R := ⟨_, rfl⟩
  have hb0 : bb 0 = 0 := by rw [hbb]; rfl
  have hbs : ∀ j, bb (j + 1) = if R j = true then O.bin .or .i64 (bb j) (O.bin .shl .i64 1 (O.conv .u64 (Int.ofNat j))) else bb j := fun j => by rw [hbb]; subst hO; rfl
  rw [← hbb]
  obtain ⟨g1, g3, g4, g5, _⟩ := h
  simp only at g1 g3 g4 g5
  rw [← updT_self g1, ← updT_self g3, ← updT_self g4, ← updT_self g5]
  refine SW.seqRun tok hO (by cbv <;> rfl) (by trivial) ?_
  refine (SW.block (SW.loopF (fun j : Nat => ⟨⟨40, getT [(1, .ptr 0 0), (3, X), (4, iV (Int.ofNat i)), (5, iV (bb j)), (6, iV (Int.ofNat j))]⟩, []⟩)
    (fun _ => ⟨(0, .cells none false (farmL f)) :: [(1, .cells none false G)], 2⟩) (fun j => f.nl - j) (fun j => j ≤ f.nl) 0
    (fun _ => rfl) (Nat.zero_le _) (Weak.by rfl rfl (by simp) (Nat.le_refl _) (Nat.le_refl _) ⟨⟨rfl, .inl rfl⟩, ⟨rfl, .inl rfl⟩, ⟨rfl, .inl rfl⟩, ⟨by rw [hb0]; rfl, .inl rfl⟩, ⟨rfl, .inl rfl⟩, trivial⟩ ⟨⟨rfl, by omega, .inl rfl⟩, ⟨rfl, by omega, .inl rfl⟩, trivial⟩) fun j hj => ?_))
  refine SW.seq ?_
  refine SW.seqRun tok hO (by cbv <;> rfl) (by trivial) ?_
  refine SW.condS (by cbv <;> rfl) (fun h => SW.skip ?_) (fun h => SW.exit ?_)
  · have hlt : j < f.nl := by
      have : Int.ofNat j < (f.nl : Int) := by subst hO; simpa [std] using h
      exact Int.ofNat_lt.1 this
    have hin : 0 ≤ Int.ofNat j ∧ Int.ofNat j < (f.nl : Int) := ⟨Int.natCast_nonneg j, Int.ofNat_lt.2 hlt⟩
    have hnn : 0 ≤ O.conv .u64 (Int.ofNat j) := conv0B hO (by omega)
    have call := hr (O.nat (Int.ofNat j)) (by rw [hnat]; exact hlt)
    refine SW.seq (SW.block ?_)
    refine SW.seqRunD tok mixed hO (by kernel_rfl) (by cbv <;> rfl) (by repeat (first | exact trivial | exact hin | refine ⟨?_, ?_⟩)) ?_
    refine AnyE.callP e60 (by cbv <;> rfl) (by cbv <;> rfl) ?_
    refine AnyE.run tok hO (by kernel_rfl) (by cbv <;> rfl) (by trivial) ?_
    refine AnyE.callP call (by cbv <;> rfl) (by cbv <;> rfl) ?_
    refine AnyE.run tok hO (by kernel_rfl) (by cbv <;> rfl) (by trivial) ?_
    refine SW.condS (by cbv <;> rfl) (fun h2 => ?_) (fun h2 => SW.skip ?_)
    · rw [hnat] at h2
      refine SW.run tok hO (by cbv <;> rfl) (by first | exact hnn | exact ⟨hnn, trivial⟩) ?_
      refine SW.run tok hO (by cbv <;> rfl) (by trivial) ?_
      have hcn : bb (j + 1) = O.bin .or .i64 (bb j) (O.bin .shl .i64 1 (O.conv .u64 (Int.ofNat j))) := by rw [hbs, h2]; rfl
      exact ⟨j + 1, by omega, by omega, Weak.by rfl rfl (by simp) (Nat.le_refl _) (Nat.le_refl _) ⟨⟨rfl, .inl rfl⟩, ⟨rfl, .inl rfl⟩, ⟨rfl, .inl rfl⟩, ⟨by rw [hcn]; rfl, .inl rfl⟩, ⟨inc_ok hO (by omega), .inl rfl⟩, trivial⟩ ⟨⟨rfl, by omega, .inl rfl⟩, ⟨rfl, by omega, .inl rfl⟩, trivial⟩⟩
    · rw [hnat] at h2
      refine SW.run tok hO (by cbv <;> rfl) (by trivial) ?_
      have hcn : bb (j + 1) = bb j := by rw [hbs, h2]; rfl
      exact ⟨j + 1, by omega, by omega, Weak.by rfl rfl (by simp) (Nat.le_refl _) (Nat.le_refl _) ⟨⟨rfl, .inl rfl⟩, ⟨rfl, .inl rfl⟩, ⟨rfl, .inl rfl⟩, ⟨by rw [hcn]; rfl, .inl rfl⟩, ⟨inc_ok hO (by omega), .inl rfl⟩, trivial⟩ ⟨⟨rfl, by omega, .inl rfl⟩, ⟨rfl, by omega, .inl rfl⟩, trivial⟩⟩
  · have hle : ¬ j < f.nl := by
      have : ¬ Int.ofNat j < (f.nl : Int) := by subst hO; simpa [std] using h
      exact fun h => this (Int.ofNat_lt.2 h)
    obtain rfl : j = f.nl := by omega
    exact ⟨rfl, _, rfl, ⟨rfl, rfl, rfl, rfl, trivial⟩, rfl⟩
theorem flatG_snocB (bt : Nat → Int) (i : Nat) : flatG 1 (intC bt) i ++ [iV (bt i)] = flatG 1 (intC bt) (i + 1) := rfl
set_option maxHeartbeats 32000000 in
theorem all45_core (f : FarmD) (hnl : f.nl < 1000) (N : Nat) (hN : N < 100000) (e61 : Pure Try.prog 61 [farmV f] (iV (Int.ofNat N))) (fl : Nat → Nat → Int) (R : Nat → Nat → Bool) (e60 : ∀ i, i < N → Pure Try.prog 60 [farmV f, iV (Int.ofNat i)] (intsV f.ns false (fl i)))
    (hr : ∀ i, i < N → ∀ j, j < f.nl → Pure Try.prog 75 [farmV f, intsV f.ns false (fl i), lookV f j] (.sb (R i j))) : Pure Try.prog 45 [farmV f] (intsV N false (fun i => bitsN (R i) f.nl)) := by
  obtain ⟨O, hO⟩ : ∃ O : Ar, O = std := ⟨_, rfl⟩
  obtain ⟨bt, hbt⟩ : ∃ bt : Nat → Int, bt = fun i => bitsN (R i) f.nl := ⟨_, rfl⟩
  have hbi : ∀ i, bitsN (R i) f.nl = bt i := fun i => by rw [hbt]
  rw [← hbt]
  refine pure_of_body tok 3 Try.func45 en45 rfl ⟨farmV_below f, trivial⟩ (intsV_below _ _ _) ?_
  refine SW.seqRun tok hO (by cbv <;> rfl) (by trivial) ?_
  refine SW.seqRun tok hO (by cbv <;> rfl) (by trivial) ?_
  refine SW.seq ?_
  refine SW.seqRun tok hO (by cbv <;> rfl) (by trivial) ?_
  refine (SW.block (SW.loopR (fun i : Nat => ⟨⟨40, getT [(1, .ptr 0 0), (3, slG 1 1 i), (4, iV (Int.ofNat i))]⟩, []⟩) (fun i => ⟨[(0, .cells none false (farmL f))] ++ objG 1 1 (intC bt) i, 2⟩) (fun i => N - i) (fun i => i ≤ N) 0 (Nat.zero_le _) (ren1 1 1) ?_ fun i hi => ?_))
  · exact WeakR.up rfl rfl (by simp) (Nat.le_refl _) (.inl rfl) (by show 1 ≤ 2; omega) ⟨RenV.ptr (by omega), RenV.closed Below.lit, RenV.closed Below.lit, trivial⟩ ⟨⟨by omega, _, rfl, .cells (RenVs.closed (farmL_below f)), .inr rfl⟩, trivial⟩ (fun p hp => by cases hp)
  cases i with
  | zero =>
    show SW _ _ _ _ ⟨⟨40, getT [(1, .ptr 0 0), (3, nl3), (4, iV (Int.ofNat 0))]⟩, []⟩ ⟨[(0, .cells none false (farmL f))], 2⟩
    refine SW.seq ?_
    refine SW.seqRun tok hO (by cbv <;> rfl) (by trivial) ?_
    refine OpsW.callP e61 (by cbv <;> rfl) ?_
    refine OpsW.run tok hO (by cbv <;> rfl) (by trivial) ?_
    refine SW.condS (by cbv <;> rfl) (fun h => SW.skip ?_) (fun h => SW.exit ?_)
    · have hlt : 0 < N := by
        have : Int.ofNat 0 < Int.ofNat N := by subst hO; simpa [std] using h
        exact Int.ofNat_lt.1 this
      have k1 := e60 0 hlt
      have k2 := hr 0 hlt
      refine SW.seq (SW.block ?_)
      refine SW.seqRun tok hO (by cbv <;> rfl) (by trivial) ?_
      refine SW.seq ((all_in0 f hnl nl3 0 (fl 0) (R 0) k1 k2 _ O hO ⟨rfl, rfl, rfl, rfl, trivial⟩).mono fun e fm st hm => ?_)
      obtain ⟨rfl, ts, rfl, ⟨g1, g3, g4, g5, _⟩, rfl⟩ := hm
      simp only at g1 g3 g4 g5
      rw [hbi] at g5
      rw [← updT_self g1, ← updT_self g3, ← updT_self g4, ← updT_self g5]
      refine (show SW _ _ _ _ _ _ from ?_)
      refine SW.runN tok hO 3 (by cbv <;> rfl) (by trivial) ?_
      refine OpsW.appNil tok (by cbv <;> rfl) (by rfl) (by kernel_rfl) (by rfl) (by rfl) ?_
      refine OpsW.run tok hO (by cbv <;> rfl) (by trivial) ?_
      refine SW.run tok hO (by cbv <;> rfl) (by trivial) ?_
      refine ⟨0 + 1, by omega, by omega, ren1 1 3, ?_⟩
      refine WeakR.up rfl rfl (by simp) (Nat.le_refl _) (.inr (by omega)) (by show 1 ≤ 2; omega) ⟨RenV.ptr (by omega), RenV.sl (by omega), RenV.inc hO (by omega), trivial⟩ ⟨⟨by omega, _, rfl, .cells (RenVs.closed (farmL_below f)), .inr rfl⟩, trivial⟩ (fun p hp => ?_)
      obtain rfl := objG_mem hp
      exact ⟨by omega, _, rfl, .cells (RenVs.of_eq (rfl) (flatG_below (intC_below bt) _)), .inl rfl⟩
    · have hz : 0 = N := by
        have : ¬ Int.ofNat 0 < Int.ofNat N := by subst hO; simpa [std] using h
        have h2 : ¬ 0 < N := fun h => this (Int.ofNat_lt.2 h)
        omega
      refine SW.seqRun tok hO (by cbv <;> rfl) (by trivial) ?_
      refine SW.ret ⟨_, _, rfl, rfl, ?_⟩
      rw [← hz]
      exact Eqv.nil
  | succ m =>
    obtain ⟨G, hG⟩ : ∃ G, G = flatG 1 (intC bt) (m + 1) := ⟨_, rfl⟩
    show SW _ _ _ _ ⟨⟨40, getT [(1, .ptr 0 0), (3, .sl 1 0 (m + 1) 1 false), (4, iV (Int.ofNat (m + 1)))]⟩, []⟩ ⟨[(0, .cells none false (farmL f)), (1, .cells none false (flatG 1 (intC bt) (m + 1)))], 2⟩
    rw [← hG]
    refine SW.seq ?_
    refine SW.seqRun tok hO (by cbv <;> rfl) (by trivial) ?_
    refine OpsW.callP e61 (by cbv <;> rfl) ?_
    refine OpsW.run tok hO (by cbv <;> rfl) (by trivial) ?_
    refine SW.condS (by cbv <;> rfl) (fun h => SW.skip ?_) (fun h => SW.exit ?_)
    · have hlt : (m + 1) < N := by
        have : Int.ofNat (m + 1) < Int.ofNat N := by subst hO; simpa [std] using h
        exact Int.ofNat_lt.1 this
      have k1 := e60 (m + 1) hlt
      have k2 := hr (m + 1) hlt
      refine SW.seq (SW.block ?_)
      refine SW.seqRun tok hO (by cbv <;> rfl) (by trivial) ?_
      refine SW.seq ((all_in1 f hnl (.sl 1 0 (m + 1) 1 false) (m + 1) G (fl (m + 1)) (R (m + 1)) k1 k2 _ O hO ⟨rfl, rfl, rfl, rfl, trivial⟩).mono fun e fm st hm => ?_)
      obtain ⟨rfl, ts, rfl, ⟨g1, g3, g4, g5, _⟩, rfl⟩ := hm
      simp only at g1 g3 g4 g5
      rw [hbi] at g5
      rw [← updT_self g1, ← updT_self g3, ← updT_self g4, ← updT_self g5]
      refine (show SW _ _ _ _ _ _ from ?_)
      refine SW.runN tok hO 3 (by cbv <;> rfl) (by trivial) ?_
      refine OpsW.appOne (g := intC bt) tok (by cbv <;> rfl) (by rfl) (by rfl) hG (by kernel_rfl) (by rfl) (by rfl) (by omega) fun G' hG' => ?_
      refine OpsW.run tok hO (by cbv <;> rfl) (by trivial) ?_
      refine SW.run tok hO (by cbv <;> rfl) (by trivial) ?_
      refine ⟨(m + 1) + 1, by omega, by omega, ren1 1 3, ?_⟩
      refine WeakR.up rfl rfl (by simp) (Nat.le_refl _) (.inr (by omega)) (by show 1 ≤ 2; omega) ⟨RenV.ptr (by omega), RenV.sl (by omega), RenV.inc hO (by omega), trivial⟩ ⟨⟨by omega, _, rfl, .cells (RenVs.closed (farmL_below f)), .inr rfl⟩, trivial⟩ (fun p hp => ?_)
      obtain rfl := objG_mem hp
      exact ⟨by omega, _, rfl, .cells (RenVs.of_eq (hG'.trans (flatG_snocB bt (m + 1))) (flatG_below (intC_below bt) _)), .inl rfl⟩
    · have hz : (m + 1) = N := by
        have : ¬ Int.ofNat (m + 1) < Int.ofNat N := by subst hO; simpa [std] using h
        have h2 : ¬ (m + 1) < N := fun h => this (Int.ofNat_lt.2 h)
        omega
      refine SW.seqRun tok hO (by cbv <;> rfl) (by trivial) ?_
      refine SW.ret ⟨_, _, rfl, rfl, ?_⟩
      rw [← hz]
      show Eqv (frz _ (fun _ => true) 3 (.sl 1 0 (m + 1) 1 false)) _
      rw [frz_slE (fm := none) (G := G) rfl rfl (by rw [hG, flatG_length]; exact Nat.le_refl _)]
      exact Eqv.isl rfl fun a k ha hk => Eqv.of (by rw [hG]; exact frz_flat ha hk rfl)
set_option maxHeartbeats 32000000 in
theorem truths55_core (f : FarmD) (N : Nat) (hN : N < 100000) (a : Nat → Int) (fu : Int) (F : Nat → List Int) (e45 : Pure Try.prog 45 [farmV f] (intsV N false a)) (e65 : Pure Try.prog 65 [farmV f] (iV fu)) (M : Nat) (FL : Nat → Nat → Int) (hzv : ∀ i, zV (F i) = intsV M false (FL i)) (e60 : ∀ i, i < N → Pure Try.prog 60 [farmV f, iV (Int.ofNat i)] (intsV M false (FL i))) :
    Pure Try.prog 55 [farmV f] (llV (pickL (fun i => decide (a i = fu)) F N)) := by
  obtain ⟨O, hO⟩ : ∃ O : Ar, O = std := ⟨_, rfl⟩
  have hnat : ∀ i : Nat, O.nat (Int.ofNat i) = i := fun i => by subst hO; rfl
  obtain ⟨p, hp⟩ : ∃ p : Nat → Bool, p = fun i => decide (a i = fu) := ⟨_, rfl⟩
  rw [← hp]
  have hpi : ∀ i, O.cmp .eql (a (O.nat (Int.ofNat i))) fu = p i := fun i => by rw [hnat, hp]; subst hO; rfl
  have hC0 : pickL p F 0 = [] := rfl
  have hC : ∀ i, pickL p F (i + 1) = if p i = true then pickL p F i ++ [F i] else pickL p F i := fun i => rfl
  have hCL := pickL_len p F
  generalize pickL p F = C at hC0 hC hCL ⊢
  clear hp
  refine pure_of_body tok 3 Try.func55 en55 rfl ⟨farmV_below f, trivial⟩ (llV_below _) ?_
  refine SW.seqRun tok hO (by cbv <;> rfl) (by trivial) ?_
  refine SW.seqRun tok hO (by cbv <;> rfl) (by trivial) ?_
  refine OpsW.callP e45 (by cbv <;> rfl) ?_
  refine OpsW.run tok hO (by cbv <;> rfl) (by trivial) ?_
  refine SW.seqRun tok hO (by cbv <;> rfl) (by trivial) ?_
  refine SW.seq ?_
  refine SW.seqRun tok hO (by cbv <;> rfl) (by trivial) ?_
  refine (SW.block (SW.loopR (fun i : Nat => ⟨⟨28, getT [(1, .ptr 0 0), (3, intsV N false a), (4, slG 1 1 (C i).length), (5, iV (Int.ofNat i))]⟩, []⟩) (fun i => ⟨[(0, .cells none false (farmL f))] ++ objG 1 1 (gT (C i)) (C i).length, 2⟩) (fun i => N - i) (fun i => i ≤ N) 0 (Nat.zero_le _) (ren1 1 1) ?_ fun i hi => ?_))
  · rw [hC0]
    exact WeakR.up rfl rfl (by simp) (Nat.le_refl _) (.inl rfl) (by show 1 ≤ 2; omega) ⟨RenV.ptr (by omega), RenV.closed (intsV_below _ _ _), RenV.closed Below.lit, RenV.closed Below.lit, trivial⟩ ⟨⟨by omega, _, rfl, .cells (RenVs.closed (farmL_below f)), .inr rfl⟩, trivial⟩ (fun p hp => by cases hp)
  have hCi := hC i
  have hCl := hCL i
  have hsn := fun l => gT_app (C i) l
  have hgo : ∀ (f' : Fm) (st' : St) (ρ : Nat → Nat), i < N → WeakR 1 ρ f' st' ⟨⟨28, getT [(1, .ptr 0 0), (3, intsV N false a), (4, slG 1 1 (C (i + 1)).length), (5, iV ((i + 1 : Nat) : Int))]⟩, []⟩ ⟨[(0, .cells none false (farmL f))] ++ objG 1 1 (gT (C (i + 1))) (C (i + 1)).length, 2⟩ → ∃ x', N - x' < N - i ∧ x' ≤ N ∧ ∃ ρ, WeakR 1 ρ f' st' ⟨⟨28, getT [(1, .ptr 0 0), (3, intsV N false a), (4, slG 1 1 (C x').length), (5, iV (Int.ofNat x'))]⟩, []⟩ ⟨[(0, .cells none false (farmL f))] ++ objG 1 1 (gT (C x')) (C x').length, 2⟩ := fun f' st' ρ h1 h2 => ⟨i + 1, by omega, by omega, ρ, h2⟩
  obtain ⟨L, hL⟩ : ∃ L, C i = L := ⟨_, rfl⟩
  rw [hL] at hCi hCl hsn
  show SW _ _ _ _ ⟨⟨28, getT [(1, .ptr 0 0), (3, intsV N false a), (4, slG 1 1 (C i).length), (5, iV (Int.ofNat i))]⟩, []⟩ ⟨[(0, .cells none false (farmL f))] ++ objG 1 1 (gT (C i)) (C i).length, 2⟩
  rw [hL]
  clear hC hC0 hCL
  cases hm : L.length with
  | zero =>
    rw [hm] at hsn
    show SW _ _ _ _ ⟨⟨28, getT [(1, .ptr 0 0), (3, intsV N false a), (4, nl3), (5, iV (Int.ofNat i))]⟩, []⟩ ⟨[(0, .cells none false (farmL f))], 2⟩
    refine SW.seq ?_
    refine SW.seqRun tok hO (by cbv <;> rfl) (by trivial) ?_
    refine SW.condS (by cbv <;> rfl) (fun h => SW.skip ?_) (fun h => SW.exit ?_)
    · have hlt : i < N := by
        have : Int.ofNat i < Int.ofNat N := by subst hO; simpa [std] using h
        exact Int.ofNat_lt.1 this
      have hin : 0 ≤ Int.ofNat i ∧ Int.ofNat i < Int.ofNat N := ⟨Int.natCast_nonneg i, Int.ofNat_lt.2 hlt⟩
      have k1 := e60 i hlt
      refine SW.seq (SW.block ?_)
      refine SW.seqRunD tok mixed hO (by kernel_rfl) (by cbv <;> rfl) (by repeat (first | exact trivial | exact hin | exact hin.1 | exact hin.2 | refine ⟨?_, ?_⟩)) ?_
      refine AnyE.callP e65 (by cbv <;> rfl) (by cbv <;> rfl) ?_
      refine AnyE.dec tok hO (by kernel_rfl) (by cbv <;> rfl) (by trivial) (fun h1 => ?_) (fun h1 => ?_)
      · have hpt : p i = true := (hpi i).symm.trans h1
        rw [if_pos hpt] at hCi
        refine AnyE.done (by kernel_rfl) ?_
        refine SW.cond (t := true) (by cbv <;> rfl) ?_
        refine SW.run tok hO (by cbv <;> rfl) (by trivial) ?_
        refine OpsW.callP k1 (by cbv <;> rfl) ?_
        refine OpsW.runN tok hO 1 (by cbv <;> rfl) (by trivial) ?_
        refine OpsW.appNil tok (by cbv <;> rfl) (by rfl) (by kernel_rfl) (by rfl) (by rfl) ?_
        refine OpsW.run tok hO (by cbv <;> rfl) (by trivial) ?_
        refine SW.run tok hO (by cbv <;> rfl) (by trivial) ?_
        refine hgo _ _ (ren1 1 3) hlt ?_
        rw [hCi, List.length_append, List.length_singleton, hm]
        refine WeakR.up rfl rfl (by simp) (Nat.le_refl _) (.inr (by omega)) (by show 1 ≤ 2; omega) ⟨RenV.ptr (by omega), RenV.closed (intsV_below _ _ _), RenV.sl (by omega), RenV.inc hO (by omega), trivial⟩ ⟨⟨by omega, _, rfl, .cells (RenVs.closed (farmL_below f)), .inr rfl⟩, trivial⟩ (fun p hp => ?_)
        obtain rfl := objG_mem hp
        refine ⟨by omega, _, rfl, .cells (RenVs.of_eq ?_ (flatG_below (gT_below _) _)), .inl rfl⟩
        have hsn := hsn (F i)
        rw [List.length_append, List.length_singleton, hm] at hsn
        rw [hzv i] at hsn
        exact hsn
      · have hpf : p i = false := (hpi i).symm.trans h1
        rw [if_neg (by rw [hpf]; decide)] at hCi
        refine AnyE.done (by kernel_rfl) ?_
        refine SW.cond (t := false) (by cbv <;> rfl) (SW.skip ?_)
        refine SW.run tok hO (by cbv <;> rfl) (by trivial) ?_
        refine hgo _ _ (ren1 1 1) hlt ?_
        rw [hCi, hm]
        exact WeakR.up rfl rfl (by simp) (Nat.le_refl _) (.inl rfl) (by show 1 ≤ 2; omega) ⟨RenV.ptr (by omega), RenV.closed (intsV_below _ _ _), RenV.closed Below.lit, RenV.inc hO (by omega), trivial⟩ ⟨⟨by omega, _, rfl, .cells (RenVs.closed (farmL_below f)), .inr rfl⟩, trivial⟩ (fun p hp => by cases hp)
    · have hz : i = N := by
        have : ¬ Int.ofNat i < Int.ofNat N := by subst hO; simpa [std] using h
        have h2 : ¬ i < N := fun h => this (Int.ofNat_lt.2 h)
        omega
      refine SW.seqRun tok hO (by cbv <;> rfl) (by trivial) ?_
      refine SW.ret ⟨_, _, rfl, rfl, ?_⟩
      rw [← hz, hL]
      unfold llV
      rw [hm]
      exact Eqv.nil
  | succ m =>
    obtain ⟨G, hG⟩ : ∃ G, G = flatG 1 (gT L) (m + 1) := ⟨_, rfl⟩
    rw [hm, ← hG] at hsn
    show SW _ _ _ _ ⟨⟨28, getT [(1, .ptr 0 0), (3, intsV N false a), (4, .sl 1 0 (m + 1) 1 false), (5, iV (Int.ofNat i))]⟩, []⟩ ⟨[(0, .cells none false (farmL f)), (1, .cells none false (flatG 1 (gT L) (m + 1)))], 2⟩
    rw [← hG]
    refine SW.seq ?_
    refine SW.seqRun tok hO (by cbv <;> rfl) (by trivial) ?_
    refine SW.condS (by cbv <;> rfl) (fun h => SW.skip ?_) (fun h => SW.exit ?_)
    · have hlt : i < N := by
        have : Int.ofNat i < Int.ofNat N := by subst hO; simpa [std] using h
        exact Int.ofNat_lt.1 this
      have hin : 0 ≤ Int.ofNat i ∧ Int.ofNat i < Int.ofNat N := ⟨Int.natCast_nonneg i, Int.ofNat_lt.2 hlt⟩
      have k1 := e60 i hlt
      refine SW.seq (SW.block ?_)
      refine SW.seqRunD tok mixed hO (by kernel_rfl) (by cbv <;> rfl) (by repeat (first | exact trivial | exact hin | exact hin.1 | exact hin.2 | refine ⟨?_, ?_⟩)) ?_
      refine AnyE.callP e65 (by cbv <;> rfl) (by cbv <;> rfl) ?_
      refine AnyE.dec tok hO (by kernel_rfl) (by cbv <;> rfl) (by trivial) (fun h1 => ?_) (fun h1 => ?_)
      · have hpt : p i = true := (hpi i).symm.trans h1
        rw [if_pos hpt] at hCi
        refine AnyE.done (by kernel_rfl) ?_
        refine SW.cond (t := true) (by cbv <;> rfl) ?_
        refine SW.run tok hO (by cbv <;> rfl) (by trivial) ?_
        refine OpsW.callP k1 (by cbv <;> rfl) ?_
        refine OpsW.runN tok hO 1 (by cbv <;> rfl) (by trivial) ?_
        refine OpsW.appOne (g := gT L) tok (by cbv <;> rfl) (by rfl) (by rfl) hG (by kernel_rfl) (by rfl) (by rfl) (by omega) fun G' hG' => ?_
        refine OpsW.run tok hO (by cbv <;> rfl) (by trivial) ?_
        refine SW.run tok hO (by cbv <;> rfl) (by trivial) ?_
        refine hgo _ _ (ren1 1 3) hlt ?_
        rw [hCi, List.length_append, List.length_singleton, hm]
        refine WeakR.up rfl rfl (by simp) (Nat.le_refl _) (.inr (by omega)) (by show 1 ≤ 2; omega) ⟨RenV.ptr (by omega), RenV.closed (intsV_below _ _ _), RenV.sl (by omega), RenV.inc hO (by omega), trivial⟩ ⟨⟨by omega, _, rfl, .cells (RenVs.closed (farmL_below f)), .inr rfl⟩, trivial⟩ (fun p hp => ?_)
        obtain rfl := objG_mem hp
        refine ⟨by omega, _, rfl, .cells (RenVs.of_eq ?_ (flatG_below (gT_below _) _)), .inl rfl⟩
        have hsn := hsn (F i)
        rw [List.length_append, List.length_singleton, hm] at hsn
        rw [hzv i] at hsn
        exact hG'.trans (by rw [← hsn, hG]; rfl)
      · have hpf : p i = false := (hpi i).symm.trans h1
        rw [if_neg (by rw [hpf]; decide)] at hCi
        refine AnyE.done (by kernel_rfl) ?_
        refine SW.cond (t := false) (by cbv <;> rfl) (SW.skip ?_)
        refine SW.run tok hO (by cbv <;> rfl) (by trivial) ?_
        refine hgo _ _ (ren1 1 1) hlt ?_
        rw [hCi, hm]
        refine WeakR.up rfl rfl (by simp) (Nat.le_refl _) (.inl rfl) (by show 1 ≤ 2; omega) ⟨RenV.ptr (by omega), RenV.closed (intsV_below _ _ _), RenV.sl (by omega), RenV.inc hO (by omega), trivial⟩ ⟨⟨by omega, _, rfl, .cells (RenVs.closed (farmL_below f)), .inr rfl⟩, trivial⟩ (fun p hp => ?_)
        obtain rfl := objG_mem hp
        exact ⟨by omega, _, rfl, .cells (RenVs.of_eq hG (flatG_below (gT_below _) _)), .inl rfl⟩
    · have hz : i = N := by
        have : ¬ Int.ofNat i < Int.ofNat N := by subst hO; simpa [std] using h
        have h2 : ¬ i < N := fun h => this (Int.ofNat_lt.2 h)
        omega
      refine SW.seqRun tok hO (by cbv <;> rfl) (by trivial) ?_
      refine SW.ret ⟨_, _, rfl, rfl, ?_⟩
      rw [← hz, hL]
      unfold llV
      rw [hm]
      show Eqv (frz _ (fun _ => true) 3 (.sl 1 0 (m + 1) 1 false)) _
      rw [frz_slE (fm := none) (G := G) rfl rfl (by rw [hG, flatG_length]; exact Nat.le_refl _)]
      exact Eqv.isl rfl fun a k ha hk => Eqv.of (by rw [hG]; exact frz_flat ha hk rfl)
theorem all45_ok {f : FarmD} (hc : f.check = 0) : Pure Try.prog 45 [farmV f] (intsV f.mN false f.bitT) := by
  have g := good_of_check hc
  have hs := good_small g
  obtain ⟨_, h1, h2⟩ := FarmD.many_eq hc
  have e61 := many_ok f hs
  have hm : f.manyN f.ns = Int.ofNat f.mN := by unfold FarmD.mN; show _ = (((f.manyN f.ns).toNat : Nat) : Int); omega
  rw [hm] at e61
  have hnl := g.nl
  have hns := g.ns
  exact all45_core f (by omega) f.mN (by unfold FarmD.mN; omega) e61 (fun i => f.nthN (i : Int)) (fun i => f.rightN (f.nthN (i : Int))) (fun i hi => nth_ok f g (Int.ofNat i)) (fun i hi j hj => rightN_ok f hs f.ns false (f.nthN (i : Int)) (by omega) (Nat.le_refl _) j (g.look j hj).1.1 (g.look j hj).1.2)
theorem truths55_ok {f : FarmD} (hc : f.check = 0) : Pure Try.prog 55 [farmV f] (llV f.refL) := by
  have g := good_of_check hc
  obtain ⟨_, h1, h2⟩ := FarmD.many_eq hc
  have hnl := g.nl
  have hz : ∀ i : Nat, zV (f.nthL (i : Int)) = intsV f.ns false (zL (f.nthL (i : Int))) := fun i => by
    unfold zV; rw [f.nthL_len]
  refine truths55_core f f.mN (by unfold FarmD.mN; omega) f.bitT (pw1 f.nl) (fun n => f.nthL n) (all45_ok hc) (full65_ok f (by omega)) f.ns (fun i => zL (f.nthL (i : Int))) hz fun i hi => ?_
  refine (nth_ok f g (Int.ofNat i)).res (Eqv.isl rfl fun s k hs hk => Eqv.int ?_)
  exact (f.nthL_at (i : Int) hs).symm
end Go.Fz
set_option linter.unusedVariables false
namespace Go.Fz
open Go.Proofs
set_option maxRecDepth 100000
def trueQ3 (fn : Func) : Exit → Fm → St → Prop := retQ T fn (fun v st' => Eqv (frz st'.h (fun _ => true) 3 v) (.lit (.bool true)))
end Go.Fz
set_option linter.unusedVariables false
set_option linter.unusedSimpArgs false
namespace Go.Fz
open Go.Proofs
set_option maxRecDepth 100000
theorem sure_err {f : FarmD} {E : Int} (hE : ¬ E = 0) (e24 : Pure Try.prog 24 [farmV f] (iV E)) : Pure Try.prog 31 [farmV f] (.tup [nl3, iV E]) := by
  obtain ⟨O, hO⟩ : ∃ O : Ar, O = std := ⟨_, rfl⟩
  refine pure_of_body tok 3 Try.func31 en31 rfl ⟨farmV_below f, trivial⟩ (Below.tup (AllB.ok ⟨Below.lit, Below.lit, trivial⟩)) ?_
  refine SW.seqRun tok hO (by cbv <;> rfl) (by trivial) ?_
  refine SW.seq ?_
  refine SW.seqRun tok hO (by cbv <;> rfl) (by trivial) ?_
  refine OpsW.callP e24 (by cbv <;> rfl) ?_
  refine OpsW.run tok hO (by cbv <;> rfl) (by trivial) ?_
  refine SW.seqRun tok hO (by cbv <;> rfl) (by trivial) ?_
  refine SW.condS (by cbv <;> rfl) (fun h => ?_) (fun h => (hE (by subst hO; simpa [std] using h)).elim)
  refine SW.seqRun tok hO (by cbv <;> rfl) (by trivial) ?_
  exact SW.ret ⟨_, _, rfl, rfl, Eqv.refl _⟩
theorem sure_some {f : FarmD} {N : Nat} {gg : Nat → Nat → AV} (hb : Below 0 (.isl N 1 false gg)) (hN : ¬ N = 0) (e24 : Pure Try.prog 24 [farmV f] (iV 0)) (e55 : Pure Try.prog 55 [farmV f] (.isl N 1 false gg)) : Pure Try.prog 31 [farmV f] (.tup [.isl N 1 false gg, iV 0]) := by
  obtain ⟨O, hO⟩ : ∃ O : Ar, O = std := ⟨_, rfl⟩
  refine pure_of_body tok 3 Try.func31 en31 rfl ⟨farmV_below f, trivial⟩ (Below.tup (AllB.ok ⟨hb, Below.lit, trivial⟩)) ?_
  refine SW.seqRun tok hO (by cbv <;> rfl) (by trivial) ?_
  refine SW.seq ?_
  refine SW.seqRun tok hO (by cbv <;> rfl) (by trivial) ?_
  refine OpsW.callP e24 (by cbv <;> rfl) ?_
  refine OpsW.run tok hO (by cbv <;> rfl) (by trivial) ?_
  refine SW.seqRun tok hO (by cbv <;> rfl) (by trivial) ?_
  refine SW.condS (by cbv <;> rfl) (fun h => by exfalso; subst hO; simp [std] at h) (fun h => SW.skip ?_)
  refine SW.seqRun tok hO (by cbv <;> rfl) (by trivial) ?_
  refine OpsW.callP e55 (by cbv <;> rfl) ?_
  refine OpsW.run tok hO (by cbv <;> rfl) (by trivial) ?_
  refine SW.seq ?_
  refine SW.seqRun tok hO (by cbv <;> rfl) (by trivial) ?_
  refine SW.condS (by cbv <;> rfl) (fun h => by exfalso; subst hO; simp [std] at h; omega) (fun h => SW.skip ?_)
  refine SW.seqRun tok hO (by cbv <;> rfl) (by trivial) ?_
  exact SW.ret ⟨_, _, rfl, rfl, Eqv.of rfl⟩
theorem sure_none {f : FarmD} {gg : Nat → Nat → AV} (e24 : Pure Try.prog 24 [farmV f] (iV 0)) (e55 : Pure Try.prog 55 [farmV f] (.isl 0 1 false gg)) : Pure Try.prog 31 [farmV f] (.tup [nl3, iV 11]) := by
  obtain ⟨O, hO⟩ : ∃ O : Ar, O = std := ⟨_, rfl⟩
  refine pure_of_body tok 3 Try.func31 en31 rfl ⟨farmV_below f, trivial⟩ (Below.tup (AllB.ok ⟨Below.lit, Below.lit, trivial⟩)) ?_
  refine SW.seqRun tok hO (by cbv <;> rfl) (by trivial) ?_
  refine SW.seq ?_
  refine SW.seqRun tok hO (by cbv <;> rfl) (by trivial) ?_
  refine OpsW.callP e24 (by cbv <;> rfl) ?_
  refine OpsW.run tok hO (by cbv <;> rfl) (by trivial) ?_
  refine SW.seqRun tok hO (by cbv <;> rfl) (by trivial) ?_
  refine SW.condS (by cbv <;> rfl) (fun h => by exfalso; subst hO; simp [std] at h) (fun h => SW.skip ?_)
  refine SW.seqRun tok hO (by cbv <;> rfl) (by trivial) ?_
  refine OpsW.callP e55 (by cbv <;> rfl) ?_
  refine OpsW.run tok hO (by cbv <;> rfl) (by trivial) ?_
  refine SW.seq ?_
  refine SW.seqRun tok hO (by cbv <;> rfl) (by trivial) ?_
  refine SW.condS (by cbv <;> rfl) (fun h => ?_) (fun h => by exfalso; subst hO; simp [std] at h)
  refine SW.seqRun tok hO (by cbv <;> rfl) (by trivial) ?_
  exact SW.ret ⟨_, _, rfl, rfl, Eqv.refl _⟩
def FarmD.sureV (f : FarmD) : AV := if f.bndE = 0 then llV f.refL else nl3
theorem sure_ok {f : FarmD} (hs : f.small) : Pure Try.prog 31 [farmV f] (.tup [f.sureV, iV f.bndE]) := by
  have e24 := fault24_ok f hs
  rw [← f.check_eq] at e24
  by_cases hc : f.check = 0
  · rw [hc] at e24
    have e55 := truths55_ok hc
    have hn := FarmD.refL_nil hc
    by_cases ht : f.trs = []
    · have hE : f.bndE = 11 := (bndE_of hc).2 ht
      have hr := hn.2 ht
      unfold FarmD.sureV
      rw [hE, if_neg (by decide)]
      rw [hr] at e55
      exact sure_none e24 e55
    · have hE : f.bndE = 0 := (bndE_of hc).1 ht
      unfold FarmD.sureV
      rw [hE, if_pos rfl]
      exact sure_some (llV_below f.refL) (fun h => ht (hn.1 (List.length_eq_zero_iff.1 h))) e24 e55
  · have hE : f.bndE = f.check := by unfold FarmD.bndE FarmD.opnE; rw [if_pos hc]
    unfold FarmD.sureV
    rw [hE, if_neg hc]
    exact sure_err hc e24
set_option maxHeartbeats 8000000 in
theorem isFed_core {f : FarmD} (N : Nat) (F : Nat → Int) (b : Nat) (hb : b < f.nb) (w d z : Int) (e28 : Pure Try.prog 28 [farmV f, intsV N false F, iV (b : Int)] (.agg [iV w, iV d, iV z])) : Pure Try.prog 84 [farmV f, intsV N false F, iV (b : Int)] (.sb (decide (f.need b ≤ d))) := by
  obtain ⟨O, hO⟩ : ∃ O : Ar, O = std := ⟨_, rfl⟩
  have hnat : ∀ i : Nat, O.nat (Int.ofNat i) = i := fun i => by subst hO; rfl
  have hin : 0 ≤ Int.ofNat b ∧ Int.ofNat b < Int.ofNat f.nb := ⟨Int.natCast_nonneg b, Int.ofNat_lt.2 hb⟩
  obtain ⟨nd, hnd⟩ : ∃ v, f.need b = v := ⟨_, rfl⟩
  have hnn : f.need (O.nat (Int.ofNat b)) = nd := by rw [hnat, hnd]
  refine pure_of_body tok 3 Try.func84 en84 rfl ⟨farmV_below f, intsV_below _ _ _, Below.lit, trivial⟩ Below.sb ?_
  refine SW.seqRun tok hO (by cbv <;> rfl) (by trivial) ?_
  refine SW.seqRunD tok mixed hO (by kernel_rfl) (by cbv <;> rfl) (by repeat (first | exact trivial | exact hin | exact hin.1 | exact hin.2 | refine ⟨?_, ?_⟩)) ?_
  refine AnyE.callP e28 (by cbv <;> rfl) (by cbv <;> rfl) ?_
  refine AnyE.run tok hO (by kernel_rfl) (by cbv <;> rfl) (by trivial) ?_
  refine AnyE.dec tok hO (by kernel_rfl) (by cbv <;> rfl) (by trivial) (fun h1 => ?_) (fun h1 => ?_) <;> refine AnyE.run tok hO (by kernel_rfl) (by cbv <;> rfl) (by trivial) ?_
  · refine SW.ret ⟨_, _, rfl, rfl, Eqv.bool ?_⟩
    have h2 : O.cmp .geq d (f.need (O.nat (Int.ofNat b))) = true := h1
    rw [hnn] at h2
    rw [hnd]
    exact (decide_eq_true (by subst hO; simpa [std] using h2)).symm
  · refine SW.ret ⟨_, _, rfl, rfl, Eqv.bool ?_⟩
    have h2 : O.cmp .geq d (f.need (O.nat (Int.ofNat b))) = false := h1
    rw [hnn] at h2
    rw [hnd]
    exact (decide_eq_false (by subst hO; simpa [std] using h2)).symm
theorem at_zL {f : FarmD} (g : f.Good) {l : List Int} (hl : f.isCh l) {b : Nat} (hb : b < f.nb) : Pure Try.prog 28 [farmV f, zV l, iV (b : Int)] (.agg [iV (f.wtr b 0 l), iV (f.wtr b 1 l), iV (f.wtr b 2 l)]) := by
  have hns := g.ns
  have h := at_ok f (good_small g) l.length false (zL l) (by rw [hl.1]; omega) (by rw [hl.1]; exact Nat.le_refl _) b hb
  obtain ⟨h1, h2, h3⟩ := f.water_eq g (zL l) (f.ch_fl g hl) b hb
  unfold FarmD.wtr
  rw [h1, h2, h3]
  exact h
theorem isFed84 {f : FarmD} (g : f.Good) {l : List Int} (hl : f.isCh l) {b : Nat} (hb : b < f.nb) : Pure Try.prog 84 [farmV f, zV l, iV (b : Int)] (.sb (f.fedOk b l)) := isFed_core l.length (zL l) b hb _ _ _ (at_zL g hl hb)
def cntN (p : Nat → Bool) : Nat → Nat
  | 0 => 0
  | i + 1 => if p i = true then cntN p i + 1 else cntN p i
theorem cntN_le (p : Nat → Bool) : ∀ n, cntN p n ≤ n
  | 0 => Nat.le_refl _
  | n + 1 => by
    have := cntN_le p n
    unfold cntN
    split <;> omega
theorem cntN_all {p : Nat → Bool} : ∀ {n}, cntN p n = n ↔ ∀ i, i < n → p i = true
  | 0 => ⟨fun _ i h => absurd h (Nat.not_lt_zero i), fun _ => rfl⟩
  | n + 1 => by
    have ih := cntN_all (p := p) (n := n)
    have hl := cntN_le p n
    unfold cntN
    by_cases hp : p n = true
    · rw [if_pos hp]
      constructor
      · intro h i hi
        rcases Nat.lt_succ_iff_lt_or_eq.1 hi with h1 | rfl
        · exact ih.1 (by omega) i h1
        · exact hp
      · intro h
        rw [ih.2 fun i hi => h i (by omega)]
    · rw [if_neg hp]
      constructor
      · intro h; omega
      · intro h; exact absurd (h n (Nat.lt_succ_self n)) hp
theorem cntN_zero {p : Nat → Bool} : ∀ {n}, cntN p n = 0 ↔ ∀ i, i < n → p i = false
  | 0 => ⟨fun _ i h => absurd h (Nat.not_lt_zero i), fun _ => rfl⟩
  | n + 1 => by
    have ih := cntN_zero (p := p) (n := n)
    unfold cntN
    by_cases hp : p n = true
    · rw [if_pos hp]
      constructor
      · intro h; omega
      · intro h
        have := h n (Nat.lt_succ_self n)
        rw [hp] at this; cases this
    · rw [if_neg hp]
      constructor
      · intro h i hi
        rcases Nat.lt_succ_iff_lt_or_eq.1 hi with h1 | rfl
        · exact ih.1 h i h1
        · exact Bool.not_eq_true _ ▸ hp
      · intro h
        exact ih.2 fun i hi => h i (by omega)
set_option maxHeartbeats 8000000 in
theorem fed33_core (f : FarmD) (N : Nat) (hN : N < 100000) (ln : Nat → Nat) (F : Nat → Nat → Int) (hb : Below 0 (.isl N 1 false (fun i _ => intsV (ln i) false (F i)))) (B : Int) (p : Nat → Bool) (e84 : ∀ i, i < N → Pure Try.prog 84 [farmV f, intsV (ln i) false (F i), iV B] (.sb (p i))) :
    Pure Try.prog 33 [farmV f, .isl N 1 false (fun i _ => intsV (ln i) false (F i)), iV B] (iV (if cntN p N = N then 1 else if cntN p N = 0 then 2 else 3)) := by
  obtain ⟨O, hO⟩ : ∃ O : Ar, O = std := ⟨_, rfl⟩
  have hnat : ∀ i : Nat, O.nat (Int.ofNat i) = i := fun i => by subst hO; rfl
  obtain ⟨C, hC⟩ : ∃ C, C = cntN p := ⟨_, rfl⟩
  have hC0 : C 0 = 0 := by rw [hC]; rfl
  have hCs : ∀ i, C (i + 1) = if p i = true then C i + 1 else C i := fun i => by rw [hC]; rfl
  have hCl : ∀ i, C i ≤ i := fun i => by rw [hC]; exact cntN_le p i
  rw [← hC]
  clear hC
  have hb0 : ∀ {n}, ObjBelow n (.cells none false (farmL f)) := ⟨fun x hx => Below.up (m := 0) (farmL_below f x hx), fun f h => by cases h⟩
  refine pure_of_body tok 3 Try.func33 en33 rfl ⟨farmV_below f, hb, Below.lit, trivial⟩ Below.lit ?_
  refine SW.seqRun tok hO (by cbv <;> rfl) (by trivial) ?_
  refine SW.seqRun tok hO (by cbv <;> rfl) (by trivial) ?_
  refine SW.seq ?_
  refine SW.seqRun tok hO (by cbv <;> rfl) (by trivial) ?_
  refine (SW.block (SW.loopF (fun i : Nat => ⟨⟨30, getT [(1, .isl N 1 false (fun i _ => intsV (ln i) false (F i))), (2, iV B), (3, .ptr 0 0), (7, iV (Int.ofNat (C i))), (8, iV (Int.ofNat i))]⟩, []⟩) (fun _ => ⟨[(0, .cells none false (farmL f))], 1⟩) (fun i => N - i) (fun i => i ≤ N) 0
    (fun _ => rfl) (Nat.zero_le _) (Weak.by rfl rfl (by simp) (Nat.le_refl _) (Nat.le_refl _) ⟨⟨rfl, .inl rfl⟩, ⟨rfl, .inl rfl⟩, ⟨rfl, .inl rfl⟩, ⟨by rw [hC0]; rfl, .inl rfl⟩, ⟨rfl, .inl rfl⟩, trivial⟩ ⟨⟨rfl, by omega, .inl rfl⟩, trivial⟩) fun i hi => ?_))
  have hCi := hCs i
  have hCli := hCl i
  obtain ⟨c, hc⟩ : ∃ c, C i = c := ⟨_, rfl⟩
  rw [hc] at hCi hCli
  show SW _ _ _ _ ⟨⟨30, getT [(1, .isl N 1 false (fun i _ => intsV (ln i) false (F i))), (2, iV B), (3, .ptr 0 0), (7, iV (Int.ofNat (C i))), (8, iV (Int.ofNat i))]⟩, []⟩ _
  rw [hc]
  refine SW.seq ?_
  refine SW.seqRun tok hO (by cbv <;> rfl) (by trivial) ?_
  refine SW.condS (by cbv <;> rfl) (fun h => SW.skip ?_) (fun h => SW.exit ?_)
  · have hlt : i < N := by
      have : Int.ofNat i < Int.ofNat N := by subst hO; simpa [std] using h
      exact Int.ofNat_lt.1 this
    have hin : 0 ≤ Int.ofNat i ∧ Int.ofNat i < Int.ofNat N := ⟨Int.natCast_nonneg i, Int.ofNat_lt.2 hlt⟩
    have call := e84 (O.nat (Int.ofNat i)) (by rw [hnat]; exact hlt)
    refine SW.seq (SW.block ?_)
    refine SW.seqRunD tok mixed hO (by kernel_rfl) (by cbv <;> rfl) (by repeat (first | exact trivial | exact hin | exact hin.1 | exact hin.2 | refine ⟨?_, ?_⟩)) ?_
    refine AnyE.callP call (by cbv <;> rfl) (by cbv <;> rfl) ?_
    refine AnyE.done (by kernel_rfl) ?_
    refine SW.condS (by cbv <;> rfl) (fun h2 => ?_) (fun h2 => SW.skip ?_)
    · have h3 : p i = true := by rw [hnat] at h2; exact h2
      rw [if_pos h3] at hCi
      refine SW.run tok hO (by cbv <;> rfl) (by trivial) ?_
      refine SW.run tok hO (by cbv <;> rfl) (by trivial) ?_
      exact ⟨i + 1, by omega, by omega, Weak.by rfl rfl (by simp) (Nat.le_refl _) (by first | exact Nat.le_refl _ | exact Nat.le_succ _) ⟨⟨rfl, .inr (Below.up (m := 0) hb)⟩, ⟨rfl, .inr Below.lit⟩, ⟨rfl, .inr (Below.ptr (by omega))⟩, ⟨by rw [hCi]; exact inc_ok hO (by omega), .inr Below.lit⟩, ⟨inc_ok hO (by omega), .inr Below.lit⟩, trivial⟩ ⟨⟨rfl, by omega, .inr hb0⟩, trivial⟩⟩
    · have h3 : p i = false := by rw [hnat] at h2; exact h2
      rw [if_neg (by rw [h3]; decide)] at hCi
      refine SW.run tok hO (by cbv <;> rfl) (by trivial) ?_
      exact ⟨i + 1, by omega, by omega, Weak.by rfl rfl (by simp) (Nat.le_refl _) (by first | exact Nat.le_refl _ | exact Nat.le_succ _) ⟨⟨rfl, .inr (Below.up (m := 0) hb)⟩, ⟨rfl, .inr Below.lit⟩, ⟨rfl, .inr (Below.ptr (by omega))⟩, ⟨by rw [hCi]; rfl, .inr Below.lit⟩, ⟨inc_ok hO (by omega), .inr Below.lit⟩, trivial⟩ ⟨⟨rfl, by omega, .inr hb0⟩, trivial⟩⟩
  · have hz : i = N := by
      have : ¬ Int.ofNat i < Int.ofNat N := by subst hO; simpa [std] using h
      have h2 : ¬ i < N := fun h => this (Int.ofNat_lt.2 h)
      omega
    rw [← hz, hc]
    refine SW.seq ?_
    refine SW.seqRun tok hO (by cbv <;> rfl) (by trivial) ?_
    refine SW.condS (by cbv <;> rfl) (fun h2 => ?_) (fun h2 => SW.skip ?_)
    · have h3 : c = i := by
        have : Int.ofNat c = Int.ofNat i := by subst hO; simpa [std] using h2
        exact Int.ofNat_inj.1 this
      refine SW.seqRun tok hO (by cbv <;> rfl) (by trivial) ?_
      refine SW.ret ⟨_, _, rfl, rfl, Eqv.int ?_⟩
      rw [if_pos h3]
    · have h3 : ¬ c = i := by
        have : ¬ Int.ofNat c = Int.ofNat i := by subst hO; simpa [std] using h2
        intro e; exact this (by rw [e])
      refine SW.seq ?_
      refine SW.seqRun tok hO (by cbv <;> rfl) (by trivial) ?_
      refine SW.condS (by cbv <;> rfl) (fun h4 => ?_) (fun h4 => SW.skip ?_)
      · have h5 : c = 0 := by
          have : Int.ofNat c = 0 := by subst hO; simpa [std] using h4
          exact Int.ofNat_inj.1 this
        refine SW.seqRun tok hO (by cbv <;> rfl) (by trivial) ?_
        refine SW.ret ⟨_, _, rfl, rfl, Eqv.int ?_⟩
        rw [if_neg h3, if_pos h5]
      · have h5 : ¬ c = 0 := by
          have : ¬ Int.ofNat c = 0 := by subst hO; simpa [std] using h4
          intro e; exact this (by rw [e]; rfl)
        refine SW.seqRun tok hO (by cbv <;> rfl) (by trivial) ?_
        refine SW.ret ⟨_, _, rfl, rfl, Eqv.int ?_⟩
        rw [if_neg h3, if_neg h5]
def FarmD.vrdL (f : FarmD) (L : List (List Int)) (b : Nat) : Int := if L.any (fun l => !f.fedOk b l) = false then 1 else if L.any (f.fedOk b) = false then 2 else 3
theorem fed33_ok {f : FarmD} (g : f.Good) {L : List (List Int)} (hL : L.length < 100000) (hch : ∀ l ∈ L, f.isCh l) {b : Nat} (hb : b < f.nb) : Pure Try.prog 33 [farmV f, llV L, iV (b : Int)] (iV (f.vrdL L b)) := by
  have h := fed33_core f L.length hL (fun i => (L.getD i []).length) (fun i => zL (L.getD i [])) (llV_below L) (b : Int) (fun i => f.fedOk b (L.getD i [])) (fun i hi => isFed84 g (hch _ (getD_mem hi)) hb)
  refine h.res (Eqv.int ?_)
  have hex : ∀ q : List Int → Bool, L.any q = false ↔ ∀ i, i < L.length → q (L.getD i []) = false := fun q => by
    rw [List.any_eq_false]
    constructor
    · intro h i hi
      have := h _ (getD_mem hi)
      simpa using this
    · intro h x hx
      obtain ⟨i, hi, rfl⟩ := List.getElem_of_mem hx
      have := h i hi
      rw [List.getD_eq_getElem?_getD, List.getElem?_eq_getElem hi] at this
      simpa using this
  unfold FarmD.vrdL
  have h1 : cntN (fun i => f.fedOk b (L.getD i [])) L.length = L.length ↔ L.any (fun l => !f.fedOk b l) = false := by
    rw [cntN_all, hex]
    exact ⟨fun h i hi => by rw [h i hi]; rfl, fun h i hi => by simpa using h i hi⟩
  have h2 : cntN (fun i => f.fedOk b (L.getD i [])) L.length = 0 ↔ L.any (f.fedOk b) = false := by
    rw [cntN_zero, hex]
  by_cases k1 : L.any (fun l => !f.fedOk b l) = false
  · rw [if_pos (h1.2 k1), if_pos k1]
  · rw [if_neg (fun h => k1 (h1.1 h)), if_neg k1]
    by_cases k2 : L.any (f.fedOk b) = false
    · rw [if_pos (h2.2 k2), if_pos k2]
    · rw [if_neg (fun h => k2 (h2.1 h)), if_neg k2]
theorem any_mem {α : Type} {L M : List α} (h : ∀ x, x ∈ L ↔ x ∈ M) (q : α → Bool) : L.any q = M.any q := by
  rw [Bool.eq_iff_iff, List.any_eq_true, List.any_eq_true]
  exact ⟨fun ⟨x, h1, h2⟩ => ⟨x, (h x).1 h1, h2⟩, fun ⟨x, h1, h2⟩ => ⟨x, (h x).2 h1, h2⟩⟩
theorem vrd_ref {f : FarmD} (hc : f.check = 0) (b : Nat) : f.vrdL f.refL b = f.vrd b := by
  unfold FarmD.vrdL FarmD.vrd
  rw [any_mem (fun l => FarmD.mem_refL hc), any_mem (fun l => FarmD.mem_refL hc)]
theorem empty85_ok : Pure Try.prog 85 [] (rangeV 1099511627776 (-1099511627776)) := by
  obtain ⟨O, hO⟩ : ∃ O : Ar, O = std := ⟨_, rfl⟩
  refine pure_of_body tok 3 Try.func85 en85 rfl trivial rangeV_below ?_
  refine SW.seqRun tok hO (by cbv <;> rfl) (by trivial) ?_
  refine SW.seqRun tok hO (by cbv <;> rfl) (by trivial) ?_
  exact SW.ret ⟨_, _, rfl, rfl, Eqv.of rfl⟩
theorem wider86_ok (lo hi n : Int) : Pure Try.prog 86 [rangeV lo hi, iV n] (rangeV (std.mn lo n) (std.mx hi n)) := by
  obtain ⟨O, hO⟩ : ∃ O : Ar, O = std := ⟨_, rfl⟩
  rw [show std = O from hO.symm]
  refine pure_of_body tok 3 Try.func86 en86 rfl ⟨rangeV_below, Below.lit, trivial⟩ rangeV_below ?_
  refine SW.seqRun tok hO (by cbv <;> rfl) (by trivial) ?_
  refine SW.seqRun tok hO (by cbv <;> rfl) (by trivial) ?_
  exact SW.ret ⟨_, _, rfl, rfl, Eqv.of rfl⟩
end Go.Fz
