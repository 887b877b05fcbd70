/- Own work of the verifier of watercress: FzG3, FzL2, FzH2, FzL3, FzD13, FzG2, FzH1, FzH3, FzE3, FzG8, FzG5, FzE4, FzE5, FzG6, FzE6, FzG4, FzG1, FzG7, FzG9, FzH4, FzL4. -/
import Derived.Below
import Derived.CallsIn
import Derived.Carry
import Derived.ChangeKeysEq
import Derived.ChangeSame
import Derived.Deep.Slices
import Derived.DeepKeys4
import Derived.JoinedCond
import Derived.Laws.AppendOwn
import Derived.Laws.Cells
import Derived.Laws.CopyRow
import Derived.Laws.Cover3
import Derived.Laws.Entries
import Derived.Laws.NewFold
import Derived.Laws.Sem
import Derived.Laws.Small
import Derived.Laws.StructEq
import Derived.Laws.Tables
import Derived.Laws.World
import Derived.Lib.SmallJoins
import Derived.Maps.Keyed
import Derived.Maps.RangeRun
import Derived.OpenShut
import Derived.OrdersHeld
import Derived.OrdersIn
import Derived.ProofKit
import Derived.RangeFuncLeaves
import Derived.RangeFuncRecord
import Derived.Shelf.Abstract
import Derived.WalkKit
import Derived.WideKeyArgs
import Derived.Test.YtpaifaemkoblcaaNa16
import Derived.Test.YtpaifaemkoblcaaNa24
import Derived.Test.YtpaifaemkoblcaaNa25
import Derived.Test.YtpaifaemkoblcaaNa26
import Derived.Test.YtpaifaemkoblcaaNa19
import Derived.Test.YtpaifaemkoblcaaNa20
import Derived.Test.YtpaifaemkoblcaaNa21
import Derived.Test.YtpaifaemkoblcaaNa22
import Derived.Test.YtpaifaemkoblcaaNa23
import Derived.Test.YtpaifaemkoblcaaNa27
import Derived.Test.YtpaifaemkoblcaaNa32
import Derived.Test.YtpaifaemkoblcaaNa35
import Derived.Test.YtpaifaemkoblcaaNa33
import Derived.Test.YtpaifaemkoblcaaNa34
import Derived.Test.YtpaifaemkoblcaaNa28
import Derived.Test.YtpaifaemkoblcaaNa29
import Derived.Test.YtpaifaemkoblcaaNa30
import Derived.Test.YtpaifaemkoblcaaNa31
import Derived.Test.YtpaifaemkoblcaaNa36
import Derived.Test.YtpaifaemkoblcaaNa37
import Derived.Test.YtpaifaemkoblcaaNa38
import Derived.Test.YtpaifaemkoblcaaNa40
import Derived.Test.YtpaifaemkoblcaaNa39
import Derived.Test.YtpaifaemkoblcaaNa41
import Derived.Test.YtpaifaemkoblcaaNa17
import Derived.Test.YtpaifaemkoblcaaNa18
import Derived.Test.YtpaifaemkoblcaaNa10
import Derived.Test.YtpaifaemkoblcaaNa12
import Derived.Test.YtpaifaemkoblcaaNa11
import Derived.Test.YtpaifaemkoblcaaNj0
import Derived.Test.YtpaifaemkoblcaaNa13
import Derived.Test.YtpaifaemkoblcaaNa14
import Derived.Test.YtpaifaemkoblcaaNa0
import Derived.Test.YtpaifaemkoblcaaNa1
import Derived.Test.YtpaifaemkoblcaaNa2
import Derived.Test.YtpaifaemkoblcaaNa3
import Derived.Test.YtpaifaemkoblcaaNa4
import Derived.Test.YtpaifaemkoblcaaNa5
import Derived.Test.YtpaifaemkoblcaaNa6
import Derived.Test.YtpaifaemkoblcaaNa7
import Derived.Test.YtpaifaemkoblcaaNa8
import Derived.Test.YtpaifaemkoblcaaNa9
import Derived.Test.YtpaifaemkoblcaaProg
import Derived.Test.YtpaifaemkoblcaaRows
set_option linter.unusedVariables false
set_option linter.unusedSimpArgs false
set_option linter.unusedVariables false
namespace Go.Fz
open Go.Proofs
set_option maxRecDepth 100000
theorem FarmD.waN_small {f : FarmD} (g : f.Good) {fl : Nat → Int} (hfl : ∀ s, s < f.ns → 0 ≤ fl s ∧ fl s ≤ 30) {j : Nat} (hj : j < f.nb) : 0 ≤ f.waN fl j ∧ f.waN fl j ≤ 15360 := by
  obtain ⟨h1, h2⟩ := f.waN_bound g fl hfl j hj
  have := pow2_le (b := j) (by have := g.nb; omega)
  omega
theorem FarmD.inS_mono {f : FarmD} (g : f.Good) {fl fl' : Nat → Int} (hfl : ∀ s, s < f.ns → 0 ≤ fl s ∧ fl s ≤ 30) (hfl' : ∀ s, s < f.ns → 0 ≤ fl' s ∧ fl' s ≤ 30) (hle : ∀ s, s < f.ns → fl s ≤ fl' s) (b : Nat) : ∀ s, s ≤ f.ns → f.inS fl b s ≤ f.inS fl' b s
  | 0, _ => Int.le_refl _
  | s + 1, h => by
    have ih := FarmD.inS_mono g hfl hfl' hle b s (by omega)
    have b1 := f.inS_bound fl g.ns hfl b s (by omega)
    have b2 := f.inS_bound fl' g.ns hfl' b s (by omega)
    have h1 := hfl s (by omega)
    have h2 := hfl' s (by omega)
    have h3 := hle s (by omega)
    have hns := g.ns
    simp only [FarmD.inS]
    split
    · rw [add64_in _ _ (by omega) (by omega), add64_in _ _ (by omega) (by omega)]; omega
    · exact ih
theorem FarmD.mono {f : FarmD} (g : f.Good) {fl fl' : Nat → Int} (hfl : ∀ s, s < f.ns → 0 ≤ fl s ∧ fl s ≤ 30) (hfl' : ∀ s, s < f.ns → 0 ≤ fl' s ∧ fl' s ≤ 30) (hle : ∀ s, s < f.ns → fl s ≤ fl' s) (i : Nat) : i < f.nb → f.waN fl i ≤ f.waN fl' i := by
  induction i using Nat.strongRecOn with
  | _ i ih =>
    intro hi
    have hnb := g.nb
    have hns := g.ns
    rw [f.waN_eq, f.waN_eq]
    have key : ∀ m, m ≤ i → f.inB fl (f.waN fl) i m ≤ f.inB fl' (f.waN fl') i m ∧ (0 ≤ f.inB fl (f.waN fl) i m ∧ f.inB fl (f.waN fl) i m ≤ 120 + 15360 * m) ∧ (0 ≤ f.inB fl' (f.waN fl') i m ∧ f.inB fl' (f.waN fl') i m ≤ 120 + 15360 * m) := by
      intro m
      induction m with
      | zero =>
        intro _
        have h1 := f.inS_bound fl g.ns hfl i f.ns (Nat.le_refl _)
        have h2 := f.inS_bound fl' g.ns hfl' i f.ns (Nat.le_refl _)
        have h3 := FarmD.inS_mono g hfl hfl' hle i f.ns (Nat.le_refl _)
        refine ⟨h3, ⟨h1.1, ?_⟩, ⟨h2.1, ?_⟩⟩
        · show f.inS fl i f.ns ≤ _; omega
        · show f.inS fl' i f.ns ≤ _; omega
      | succ m ihm =>
        intro hm
        obtain ⟨h1, ⟨h3, h4⟩, ⟨h5, h6⟩⟩ := ihm (by omega)
        obtain ⟨w0, w1⟩ := FarmD.waN_small g hfl (j := m) (by omega)
        obtain ⟨u0, u1⟩ := FarmD.waN_small g hfl' (j := m) (by omega)
        obtain ⟨_, ⟨n0, n1⟩, _⟩ := g.bed m (by omega)
        have hw := ih m (by omega) (by omega)
        simp only [FarmD.inB]
        by_cases hd : f.down m = (i : Int)
        · have b1 : 0 ≤ maxI 0 (sub64 (f.waN fl m) (f.notch m)) ∧ maxI 0 (sub64 (f.waN fl m) (f.notch m)) ≤ 15360 := by
            rw [sub64_in _ _ (by omega) (by omega)]; unfold maxI; split <;> omega
          have b2 : 0 ≤ maxI 0 (sub64 (f.waN fl' m) (f.notch m)) ∧ maxI 0 (sub64 (f.waN fl' m) (f.notch m)) ≤ 15360 := by
            rw [sub64_in _ _ (by omega) (by omega)]; unfold maxI; split <;> omega
          have b3 : maxI 0 (sub64 (f.waN fl m) (f.notch m)) ≤ maxI 0 (sub64 (f.waN fl' m) (f.notch m)) := by
            rw [sub64_in _ _ (by omega) (by omega), sub64_in _ _ (by omega) (by omega)]; unfold maxI; split <;> split <;> omega
          rw [if_pos hd, if_pos hd, add64_in _ _ (by omega) (by omega), add64_in _ _ (by omega) (by omega)]
          exact ⟨by omega, ⟨by omega, by omega⟩, ⟨by omega, by omega⟩⟩
        · rw [if_neg hd, if_neg hd]
          exact ⟨h1, ⟨h3, by omega⟩, ⟨h5, by omega⟩⟩
    exact (key i (Nat.le_refl _)).1
theorem FarmD.water_ex {f : FarmD} (g : f.Good) {fl : Nat → Int} (hfl : ∀ s, s < f.ns → 0 ≤ fl s ∧ fl s ≤ 30) {b : Nat} (hb : b < f.nb) :
    f.water fl b 0 = f.waN fl b ∧ f.water fl b 1 = minI (f.waN fl b) (f.notch b) ∧ f.water fl b 2 = f.waN fl b - minI (f.waN fl b) (f.notch b) ∧ (0 ≤ f.waN fl b ∧ f.waN fl b ≤ 15360) ∧ (0 ≤ f.notch b ∧ f.notch b ≤ 9) := by
  obtain ⟨h1, h2, h3⟩ := f.water_eq g fl hfl b hb
  have h4 := FarmD.waN_small g hfl hb
  have h5 := (g.bed b hb).2.1
  refine ⟨h1, h2, ?_, h4, h5⟩
  rw [h3]
  show sub64 (f.waN fl b) (minI (f.waN fl b) (f.notch b)) = _
  have : 0 ≤ minI (f.waN fl b) (f.notch b) ∧ minI (f.waN fl b) (f.notch b) ≤ 9 := by unfold minI; split <;> omega
  rw [sub64_in _ _ (by omega) (by omega)]
theorem FarmD.water_mono {f : FarmD} (g : f.Good) {fl fl' : Nat → Int} (hfl : ∀ s, s < f.ns → 0 ≤ fl s ∧ fl s ≤ 30) (hfl' : ∀ s, s < f.ns → 0 ≤ fl' s ∧ fl' s ≤ 30) (hle : ∀ s, s < f.ns → fl s ≤ fl' s) {b : Nat} (hb : b < f.nb) :
    f.water fl b 0 ≤ f.water fl' b 0 ∧ f.water fl b 1 ≤ f.water fl' b 1 ∧ f.water fl b 2 ≤ f.water fl' b 2 := by
  obtain ⟨a1, a2, a3, a4, a5⟩ := FarmD.water_ex g hfl hb
  obtain ⟨b1, b2, b3, b4, b5⟩ := FarmD.water_ex g hfl' hb
  have h := FarmD.mono g hfl hfl' hle b hb
  rw [a1, a2, a3, b1, b2, b3]
  unfold minI
  refine ⟨h, ?_, ?_⟩ <;> split <;> split <;> omega
def FarmD.setF (f : FarmD) (k : Nat) (lo hi : Int) : FarmD := { f with slo := fun i => if i = k then lo else f.slo i, shi := fun i => if i = k then hi else f.shi i }
section
variable (f : FarmD) (k : Nat) (lo hi : Int)
theorem setF_playS (fl : Nat → Int) : ∀ s, playS (f.setF k lo hi) fl s = playS f fl s
  | 0 => rfl
  | s + 1 => by
    show stepS (f.setF k lo hi) fl s (playS (f.setF k lo hi) fl s) = stepS f fl s (playS f fl s)
    rw [setF_playS fl s]; rfl
theorem setF_playB (K fl : Nat → Int) : ∀ i, playB (f.setF k lo hi) K fl i = playB f K fl i
  | 0 => setF_playS f k lo hi fl f.ns
  | i + 1 => by
    show stepB (f.setF k lo hi) K i (playB (f.setF k lo hi) K fl i) = stepB f K i (playB f K fl i)
    rw [setF_playB K fl i]; rfl
theorem setF_water (fl : Nat → Int) : (f.setF k lo hi).water fl = f.water fl := setF_playB f k lo hi (f.k0 f.nb) fl f.nb
end
theorem setF_trs {f : FarmD} {k : Nat} {lo hi : Int} (h1 : lo ≤ f.slo k) (h2 : f.shi k ≤ hi) {l : List Int} (h : l ∈ f.trs) : l ∈ (f.setF k lo hi).trs := by
  obtain ⟨h3, h4⟩ := List.mem_filter.1 h
  refine List.mem_filter.2 ⟨?_, ?_⟩
  · obtain ⟨k1, k2⟩ := (f.mem_chL l).1 h3
    refine ((f.setF k lo hi).mem_chL l).2 ⟨k1, fun i hi' => ?_⟩
    have := k2 i hi'
    show (if i = k then lo else f.slo i) ≤ _ ∧ _ ≤ (if i = k then hi else f.shi i)
    by_cases e : i = k
    · subst e; rw [if_pos rfl, if_pos rfl]; omega
    · rw [if_neg e, if_neg e]; exact this
  · unfold FarmD.rgt allN at h4 ⊢
    rw [setF_water]
    exact h4
theorem setF_bounds {f : FarmD} {k : Nat} {lo hi : Int} (h1 : lo ≤ f.slo k) (h2 : f.shi k ≤ hi) (h : f.trs ≠ []) (b c : Nat) : (f.setF k lo hi).bLo b c ≤ f.bLo b c ∧ f.bHi b c ≤ (f.setF k lo hi).bHi b c := by
  have hw : ∀ l, (f.setF k lo hi).wtr b c l = f.wtr b c l := fun l => by unfold FarmD.wtr; rw [setF_water]
  obtain ⟨l, h3, h4⟩ := FarmD.bLo_mem (b := b) (c := c) h
  obtain ⟨m, h5, h6⟩ := FarmD.bHi_mem (b := b) (c := c) h
  rw [← h4, ← h6, ← hw, ← hw]
  exact ⟨FarmD.bLo_le (setF_trs h1 h2 h3), FarmD.bHi_ge (setF_trs h1 h2 h5)⟩
theorem setF_ne {f : FarmD} {k : Nat} {lo hi : Int} (h1 : lo ≤ f.slo k) (h2 : f.shi k ≤ hi) (h : f.trs ≠ []) : (f.setF k lo hi).trs ≠ [] := fun e => by
  obtain ⟨l, hl⟩ := List.exists_mem_of_ne_nil _ h
  have := setF_trs h1 h2 hl
  rw [e] at this; cases this
end Go.Fz
set_option linter.unusedVariables false
set_option linter.unusedSimpArgs false
namespace Go.Fz
open Go.Proofs
set_option maxRecDepth 100000
theorem lss_no2 {O : Ar} (hO : O = std) {a b : Int} (h : O.cmp .lss a b = true) (hab : b ≤ a) : False := by
  subst hO
  have h2 : decide (a < b) = true := h
  have := of_decide_eq_true h2
  omega
set_option maxHeartbeats 16000000 in
theorem wt_cmp (f : FarmD) (hnb : f.nb ≤ 8) (b : Int) (k : Nat) (A B : Nat → Nat → Int) (hle : ∀ i, i < f.nb → A i 0 ≤ B i 0 ∧ A i 1 ≤ B i 1 ∧ A i 2 ≤ B i 2)
    (htail : ∀ (gg : Nat → AV), AllP (fun p => gg p.1 = p.2) [(3, .lit (.int .u8 b)), (4, .ptr 0 0), (10, iV (Int.ofNat k))] → SW Try.prog none (restC 10 (bodyF Try.f12)) (trueQ3 Try.f12) ⟨⟨225, gg⟩, []⟩ ⟨[(0, .cells none false (farmL f))], 2⟩)
    (gg : Nat → AV) (h : AllP (fun p => gg p.1 = p.2) [(3, .lit (.int .u8 b)), (4, .ptr 0 0), (10, iV (Int.ofNat k)), (12, .isl f.nb 3 false (fun i k => iV (A i k))), (14, .isl f.nb 3 false (fun i k => iV (B i k)))]) :
    SW Try.prog none (restC 9 (bodyF Try.f12)) (trueQ3 Try.f12) ⟨⟨225, gg⟩, []⟩ ⟨[(0, .cells none false (farmL f))], 2⟩ := by
  obtain ⟨O, hO⟩ : ∃ O : Ar, O = std := ⟨_, rfl⟩
  obtain ⟨g3, g4, g10, g12, g14, _⟩ := h
  simp only at g3 g4 g10 g12 g14
  rw [← updT_self g3, ← updT_self g4, ← updT_self g10, ← updT_self g12, ← updT_self g14]
  have hb0 : ∀ {n}, ObjBelow n (.cells none false (farmL f)) := ⟨fun x hx => Below.up (m := 0) (farmL_below f x hx), fun f h => by cases h⟩
  have hBA : Below 0 (.isl f.nb 3 false (fun i k => iV (A i k))) := Below.isl fun i k _ _ => Below.lit
  have hBB : Below 0 (.isl f.nb 3 false (fun i k => iV (B i k))) := Below.isl fun i k _ _ => Below.lit
  refine (show SW _ _ _ _ _ _ from ?_)
  refine SW.seq ?_
  refine SW.seqRun tok hO (by cbv <;> rfl) (by trivial) ?_
  refine (SW.block (SW.loopF (fun i : Nat => ⟨⟨225, getT [(3, .lit (.int .u8 b)), (4, .ptr 0 0), (10, iV (Int.ofNat k)), (12, .isl f.nb 3 false (fun i k => iV (A i k))), (14, .isl f.nb 3 false (fun i k => iV (B i k))), (16, iV (Int.ofNat i))]⟩, []⟩) (fun _ => ⟨[(0, .cells none false (farmL f))], 2⟩) (fun i => f.nb - i) (fun i => i ≤ f.nb) 0
    (fun _ => rfl) (Nat.zero_le _) (Weak.by rfl rfl (by simp) (Nat.le_refl _) (Nat.le_refl _) ⟨⟨rfl, .inl rfl⟩, ⟨rfl, .inl rfl⟩, ⟨rfl, .inl rfl⟩, ⟨rfl, .inl rfl⟩, ⟨rfl, .inl rfl⟩, ⟨rfl, .inl rfl⟩, trivial⟩ ⟨⟨rfl, by omega, .inl rfl⟩, trivial⟩) fun i hi => ?_))
  refine SW.seq ?_
  refine SW.seqRun tok hO (by cbv <;> rfl) (by trivial) ?_
  refine SW.condS (by cbv <;> rfl) (fun h => SW.skip ?_) (fun h => SW.exit ?_)
  · have hlt : i < f.nb := by
      have : Int.ofNat i < Int.ofNat f.nb := by subst hO; simpa [std] using h
      exact Int.ofNat_lt.1 this
    have hin : 0 ≤ Int.ofNat i ∧ Int.ofNat i < Int.ofNat f.nb := ⟨Int.natCast_nonneg i, Int.ofNat_lt.2 hlt⟩
    have hni : O.nat (Int.ofNat i) = i := by subst hO; rfl
    refine SW.seq (SW.block ?_)
    refine SW.seqRunDN tok mixed hO 4 (by kernel_rfl) (by cbv <;> rfl) (by repeat (first | exact trivial | exact hin | exact hin.1 | exact hin.2 | refine ⟨?_, ?_⟩)) ?_
    refine AnyE.runN tok hO 4 (by kernel_rfl) (by cbv <;> rfl) (by repeat (first | exact trivial | exact hin | exact hin.1 | exact hin.2 | refine ⟨?_, ?_⟩)) ?_
    refine AnyE.run tok hO (by kernel_rfl) (by cbv <;> rfl) (by repeat (first | exact trivial | exact hin | exact hin.1 | exact hin.2 | refine ⟨?_, ?_⟩)) ?_
    refine AnyE.dec tok hO (by kernel_rfl) (by cbv <;> rfl) (by trivial) (fun h => (lss_no2 hO h (hle (O.nat (Int.ofNat i)) (by rw [hni]; exact hlt)).1).elim) (fun hw1 => ?_)
    refine AnyE.runN tok hO 4 (by kernel_rfl) (by cbv <;> rfl) (by repeat (first | exact trivial | exact hin | exact hin.1 | exact hin.2 | refine ⟨?_, ?_⟩)) ?_
    refine AnyE.runN tok hO 4 (by kernel_rfl) (by cbv <;> rfl) (by repeat (first | exact trivial | exact hin | exact hin.1 | exact hin.2 | refine ⟨?_, ?_⟩)) ?_
    refine AnyE.run tok hO (by kernel_rfl) (by cbv <;> rfl) (by repeat (first | exact trivial | exact hin | exact hin.1 | exact hin.2 | refine ⟨?_, ?_⟩)) ?_
    refine AnyE.dec tok hO (by kernel_rfl) (by cbv <;> rfl) (by trivial) (fun h => (lss_no2 hO h (hle (O.nat (Int.ofNat i)) (by rw [hni]; exact hlt)).2.1).elim) (fun hw2 => ?_)
    refine AnyE.runN tok hO 4 (by kernel_rfl) (by cbv <;> rfl) (by repeat (first | exact trivial | exact hin | exact hin.1 | exact hin.2 | refine ⟨?_, ?_⟩)) ?_
    refine AnyE.runN tok hO 4 (by kernel_rfl) (by cbv <;> rfl) (by repeat (first | exact trivial | exact hin | exact hin.1 | exact hin.2 | refine ⟨?_, ?_⟩)) ?_
    refine AnyE.run tok hO (by kernel_rfl) (by cbv <;> rfl) (by repeat (first | exact trivial | exact hin | exact hin.1 | exact hin.2 | refine ⟨?_, ?_⟩)) ?_
    refine AnyE.dec tok hO (by kernel_rfl) (by cbv <;> rfl) (by trivial) (fun h => (lss_no2 hO h (hle (O.nat (Int.ofNat i)) (by rw [hni]; exact hlt)).2.2).elim) (fun hw3 => ?_)
    refine AnyE.run tok hO (by kernel_rfl) (by cbv <;> rfl) (by repeat (first | exact trivial | exact hin | exact hin.1 | exact hin.2 | refine ⟨?_, ?_⟩)) ?_
    refine SW.cond (t := false) (by cbv <;> rfl) (SW.skip ?_)
    refine SW.run tok hO (by cbv <;> rfl) (by trivial) ?_
    exact ⟨i + 1, by omega, hlt, Weak.by rfl rfl (by simp) (Nat.le_refl _) (by first | exact Nat.le_refl _ | exact Nat.le_succ _ | exact Nat.le_of_ble_eq_true rfl) ⟨⟨rfl, .inr Below.lit⟩, ⟨rfl, .inr (Below.ptr (by omega))⟩, ⟨rfl, .inr Below.lit⟩, ⟨rfl, .inr (Below.up (m := 0) hBA)⟩, ⟨rfl, .inr (Below.up (m := 0) hBB)⟩, ⟨inc_ok hO (by omega), .inr Below.lit⟩, trivial⟩ ⟨⟨rfl, by omega, .inr hb0⟩, trivial⟩⟩
  · exact htail _ ⟨rfl, rfl, rfl, trivial⟩
set_option maxHeartbeats 16000000 in
theorem wt_16 (f : FarmD) (hns : f.ns ≤ 4) (b : Int) (k : Nat) (hk : k < f.ns)
    (htail : ∀ q G, q = 0 + k * 3 + 1 → G = flatG 3 (springC f) f.ns → ∀ (gg : Nat → AV), AllP (fun p => gg p.1 = p.2) [(3, .lit (.int .u8 b)), (4, .ptr 0 0), (17, .ptr 2 0), (18, .ptr 4 q)] → SW Try.prog none (restC 13 (bodyF Try.f12)) (trueQ3 Try.f12) ⟨⟨225, gg⟩, []⟩ ⟨[(4, .cells none false G), (3, .cells none false []), (2, .cells none false [.sl 4 0 f.ns 3 false, bedsV f, looksV f]), (0, .cells none false (farmL f))], 5⟩)
    (gg : Nat → AV) (h : AllP (fun p => gg p.1 = p.2) [(3, .lit (.int .u8 b)), (4, .ptr 0 0), (10, iV (Int.ofNat k))]) :
    SW Try.prog none (restC 10 (bodyF Try.f12)) (trueQ3 Try.f12) ⟨⟨225, gg⟩, []⟩ ⟨[(0, .cells none false (farmL f))], 2⟩ := by
  obtain ⟨O, hO⟩ : ∃ O : Ar, O = std := ⟨_, rfl⟩
  obtain ⟨g3, g4, g10, _⟩ := h
  simp only at g3 g4 g10
  rw [← updT_self g3, ← updT_self g4, ← updT_self g10]
  obtain ⟨GC, hGC⟩ : ∃ G, G = flatG 3 (springC f) f.ns := ⟨_, rfl⟩
  refine (show SW Try.prog none (.seq (.region _ _ _) _) _ _ _ from ?_)
  refine SW.seqRun tok hO (by cbv <;> rfl) (by trivial) ?_
  refine SW.seq (SW.runN tok hO 3 (by cbv <;> rfl) (by trivial) ?_)
  refine OpsW.appA tok (by cbv <;> rfl) (append_emptyG (by kernel_rfl) (by rfl) (by omega) (by omega) (fun i k => (springC_one f i k).2) hGC) ?_
  refine OpsW.run tok hO (by cbv <;> rfl) (by trivial) ?_
  refine SW.seq (SW.runN tok hO 3 (by cbv <;> rfl) (by trivial) ?_)
  refine OpsW.idxSl tok (by cbv <;> rfl) (by kernel_rfl) hk fun q hq => ?_
  refine OpsW.run tok hO (by cbv <;> rfl) (by trivial) ?_
  exact htail (q + 1) GC (by rw [hq]) hGC _ ⟨rfl, rfl, rfl, rfl, trivial⟩
set_option maxHeartbeats 64000000 in
theorem wt_19 (f : FarmD) (b : Int) (q : Nat) (G : List AV) (lo hi : Int) (hl0 : G[q + 0]? = some (iV lo)) (hl1 : G[q + 1]? = some (iV hi)) (hlen0 : q + 0 < G.length) (hlen1 : q + 1 < G.length) (O : Ar) (hO : O = std)
    (htail : ∀ G1 G2, G1 = G.set (q + 0) (iV (O.mx 0 (O.bin .sub .i64 lo (O.bin .rem .i64 (O.bin .quo .i64 (O.conv .i64 b) 8) 3)))) → G2 = G1.set (q + 1) (iV (O.mn 30 (O.bin .add .i64 hi (O.bin .rem .i64 (O.bin .quo .i64 (O.conv .i64 b) 32) 3)))) → ∀ (gg : Nat → AV), AllP (fun p => gg p.1 = p.2) [(4, .ptr 0 0), (17, .ptr 2 0), (18, .ptr 4 q)] → SW Try.prog none (restC 14 (bodyF Try.f12)) (trueQ3 Try.f12) ⟨⟨225, gg⟩, []⟩ ⟨[(4, .cells none false G2), (3, .cells none false []), (2, .cells none false [.sl 4 0 f.ns 3 false, bedsV f, looksV f]), (0, .cells none false (farmL f))], 5⟩)
    (gg : Nat → AV) (h : AllP (fun p => gg p.1 = p.2) [(3, .lit (.int .u8 b)), (4, .ptr 0 0), (17, .ptr 2 0), (18, .ptr 4 q)]) :
    SW Try.prog none (restC 13 (bodyF Try.f12)) (trueQ3 Try.f12) ⟨⟨225, gg⟩, []⟩ ⟨[(4, .cells none false G), (3, .cells none false []), (2, .cells none false [.sl 4 0 f.ns 3 false, bedsV f, looksV f]), (0, .cells none false (farmL f))], 5⟩ := by
  obtain ⟨g3, g4, g17, g18, _⟩ := h
  simp only at g3 g4 g17 g18
  rw [← updT_self g3, ← updT_self g4, ← updT_self g17, ← updT_self g18]
  refine (show SW Try.prog none (.seq (.region _ _ _) _) _ _ _ from ?_)
  refine SW.seqRunDN tok mixed hO 4 (by kernel_rfl) (by cbv <;> rfl) (by repeat (first | exact trivial | (show (_ : Int) ≠ 0; decide) | refine ⟨?_, ?_⟩)) ?_
  refine AnyE.runN tok hO 4 (by kernel_rfl) (by cbv <;> rfl) (by repeat (first | exact trivial | (show (_ : Int) ≠ 0; decide) | refine ⟨?_, ?_⟩)) ?_
  refine AnyE.run tok hO (by kernel_rfl) (by cbv <;> rfl) (by repeat (first | exact trivial | (show (_ : Int) ≠ 0; decide) | refine ⟨?_, ?_⟩)) ?_
  refine AnyE.many [3, 13] (by cbv <;> rfl) (by rfl) ⟨?_, ?_, trivial⟩
  · refine PickE.nilC (by cbv <;> rfl) (by cbv <;> rfl) ?_ ?_
    · exact (by repeat (first | exact trivial | refine And.intro (by first | exact lv_of hO (by cbv <;> rfl) (by repeat (first | exact trivial | (show (_ : Int) ≠ 0; decide) | refine ⟨?_, ?_⟩)) | (cbv <;> rfl)) ?_))
    refine AnyE.runN tok hO 1 (by kernel_rfl) (by cbv <;> rfl) (by repeat (first | exact trivial | (show (_ : Int) ≠ 0; decide) | refine ⟨?_, ?_⟩)) ?_
    refine AnyE.ldD tok (by kernel_rfl) 5 (by cbv <;> rfl) (load_at (by kernel_rfl) (by rfl) hl0) (by kernel_rfl) ?_
    refine AnyE.run tok hO (by kernel_rfl) (by cbv <;> rfl) (by repeat (first | exact trivial | (show (_ : Int) ≠ 0; decide) | refine ⟨?_, ?_⟩)) ?_
    refine AnyE.nilC (by cbv <;> rfl) (by cbv <;> rfl) ?_
    refine AnyE.runN tok hO 1 (by kernel_rfl) (by cbv <;> rfl) (by repeat (first | exact trivial | (show (_ : Int) ≠ 0; decide) | refine ⟨?_, ?_⟩)) ?_
    refine AnyE.ldD tok (by kernel_rfl) 15 (by cbv <;> rfl) (load_at (by kernel_rfl) (by rfl) hl1) (by kernel_rfl) ?_
    refine AnyE.run tok hO (by kernel_rfl) (by cbv <;> rfl) (by repeat (first | exact trivial | (show (_ : Int) ≠ 0; decide) | refine ⟨?_, ?_⟩)) ?_
    refine AnyE.nilC (by cbv <;> rfl) (by cbv <;> rfl) ?_
    refine AnyE.run tok hO (by kernel_rfl) (by cbv <;> rfl) (by repeat (first | exact trivial | (show (_ : Int) ≠ 0; decide) | refine ⟨?_, ?_⟩)) ?_
    refine AnyE.stoK (id := 4) (G := G) tok (by cbv <;> rfl) (by cbv <;> rfl) (by kernel_rfl) (by rfl) hlen0 fun G1 hG1 => ⟨?_, ?_⟩
    · exact (by repeat (first | exact trivial | refine And.intro (by first | exact lv_of hO (by cbv <;> rfl) (by repeat (first | exact trivial | (show (_ : Int) ≠ 0; decide) | refine ⟨?_, ?_⟩)) | (cbv <;> rfl)) ?_))
    refine AnyE.nilC (by cbv <;> rfl) (by cbv <;> rfl) ?_
    refine AnyE.run tok hO (by kernel_rfl) (by cbv <;> rfl) (by repeat (first | exact trivial | (show (_ : Int) ≠ 0; decide) | refine ⟨?_, ?_⟩)) ?_
    refine AnyE.sto (id := 4) (G := G1) tok (by cbv <;> rfl) (by cbv <;> rfl) (by kernel_rfl) (by rfl) (by rw [hG1, List.length_set]; exact hlen1) fun G2 hG2 => ?_
    refine AnyE.done (by kernel_rfl) ?_
    exact htail G1 G2 hG1 hG2 _ ⟨rfl, rfl, rfl, trivial⟩
  · refine PickE.nilC (by cbv <;> rfl) (by cbv <;> rfl) ?_ ?_
    · exact (by repeat (first | exact trivial | refine And.intro (by first | exact lv_of hO (by cbv <;> rfl) (by repeat (first | exact trivial | (show (_ : Int) ≠ 0; decide) | refine ⟨?_, ?_⟩)) | (cbv <;> rfl)) ?_))
    refine AnyE.runN tok hO 1 (by kernel_rfl) (by cbv <;> rfl) (by repeat (first | exact trivial | (show (_ : Int) ≠ 0; decide) | refine ⟨?_, ?_⟩)) ?_
    refine AnyE.ldD tok (by kernel_rfl) 15 (by cbv <;> rfl) (load_at (by kernel_rfl) (by rfl) hl1) (by kernel_rfl) ?_
    refine AnyE.run tok hO (by kernel_rfl) (by cbv <;> rfl) (by repeat (first | exact trivial | (show (_ : Int) ≠ 0; decide) | refine ⟨?_, ?_⟩)) ?_
    refine AnyE.nilC (by cbv <;> rfl) (by cbv <;> rfl) ?_
    refine AnyE.runN tok hO 1 (by kernel_rfl) (by cbv <;> rfl) (by repeat (first | exact trivial | (show (_ : Int) ≠ 0; decide) | refine ⟨?_, ?_⟩)) ?_
    refine AnyE.ldD tok (by kernel_rfl) 5 (by cbv <;> rfl) (load_at (by kernel_rfl) (by rfl) hl0) (by kernel_rfl) ?_
    refine AnyE.run tok hO (by kernel_rfl) (by cbv <;> rfl) (by repeat (first | exact trivial | (show (_ : Int) ≠ 0; decide) | refine ⟨?_, ?_⟩)) ?_
    refine AnyE.nilC (by cbv <;> rfl) (by cbv <;> rfl) ?_
    refine AnyE.run tok hO (by kernel_rfl) (by cbv <;> rfl) (by repeat (first | exact trivial | (show (_ : Int) ≠ 0; decide) | refine ⟨?_, ?_⟩)) ?_
    refine AnyE.stoK (id := 4) (G := G) tok (by cbv <;> rfl) (by cbv <;> rfl) (by kernel_rfl) (by rfl) hlen0 fun G1 hG1 => ⟨?_, ?_⟩
    · exact (by repeat (first | exact trivial | refine And.intro (by first | exact lv_of hO (by cbv <;> rfl) (by repeat (first | exact trivial | (show (_ : Int) ≠ 0; decide) | refine ⟨?_, ?_⟩)) | (cbv <;> rfl)) ?_))
    refine AnyE.nilC (by cbv <;> rfl) (by cbv <;> rfl) ?_
    refine AnyE.run tok hO (by kernel_rfl) (by cbv <;> rfl) (by repeat (first | exact trivial | (show (_ : Int) ≠ 0; decide) | refine ⟨?_, ?_⟩)) ?_
    refine AnyE.sto (id := 4) (G := G1) tok (by cbv <;> rfl) (by cbv <;> rfl) (by kernel_rfl) (by rfl) (by rw [hG1, List.length_set]; exact hlen1) fun G2 hG2 => ?_
    refine AnyE.done (by kernel_rfl) ?_
    exact htail G1 G2 hG1 hG2 _ ⟨rfl, rfl, rfl, trivial⟩
end Go.Fz
set_option linter.unusedVariables false
set_option linter.unusedSimpArgs false
namespace Go.Fz
open Go.Proofs
set_option maxRecDepth 100000
theorem inside106 {a b c d : Int} (h1 : c ≤ a) (h2 : b ≤ d) : Pure Try.prog 106 [rangeV a b, rangeV c d] (.lit (.bool true)) := by
  obtain ⟨O, hO⟩ : ∃ O : Ar, O = std := ⟨_, rfl⟩
  refine pure_of_body tok 3 Try.func106 en106 rfl ⟨rangeV_below, rangeV_below, trivial⟩ Below.lit ?_
  refine SW.seqRun tok hO (by cbv <;> rfl) (by trivial) ?_
  refine SW.seqRun tok hO (by cbv <;> rfl) (by trivial) ?_
  refine OpsW.splitG (by cbv <;> rfl) (fun h => ?_) (fun h => by exfalso; subst hO; simp [std] at h; omega)
  refine OpsW.run tok hO (by cbv <;> rfl) (by trivial) ?_
  refine SW.ret ⟨_, _, rfl, rfl, ?_⟩
  have e : O.cmp .leq b d = true := by subst hO; simpa [std] using h2
  refine (show Eqv (.sb (O.cmp .leq b d)) _ from ?_)
  rw [e]
  exact Eqv.litS true
set_option maxHeartbeats 16000000 in
theorem narrower62 (n : Nat) (hn : n < 1000) (G H : Nat → Nat → Int) (hle : ∀ i, i < n → H i 0 ≤ G i 0 ∧ G i 1 ≤ H i 1 ∧ H i 2 ≤ G i 2 ∧ G i 3 ≤ H i 3 ∧ H i 4 ≤ G i 4 ∧ G i 5 ≤ H i 5) : Pure Try.prog 62 [.isl n 6 false (fun i k => iV (G i k)), .isl n 6 false (fun i k => iV (H i k))] (.lit (.bool true)) := by
  obtain ⟨O, hO⟩ : ∃ O : Ar, O = std := ⟨_, rfl⟩
  have hB : Below 0 (.isl n 6 false (fun i k => iV (G i k))) := Below.isl fun i k _ _ => Below.lit
  have hB2 : Below 0 (.isl n 6 false (fun i k => iV (H i k))) := Below.isl fun i k _ _ => Below.lit
  refine pure_of_body tok 3 Try.func62 en62 rfl ⟨hB, hB2, trivial⟩ Below.lit ?_
  refine SW.seqRun tok hO (by cbv <;> rfl) (by trivial) ?_
  refine SW.seq ?_
  refine SW.seqRun tok hO (by cbv <;> rfl) (by trivial) ?_
  refine SW.condS (by cbv <;> rfl) (fun h => by exfalso; subst hO; simp [std] at h) (fun h => SW.skip ?_)
  refine SW.seq ?_
  refine SW.seqRun tok hO (by cbv <;> rfl) (by trivial) ?_
  refine (SW.block (SW.loopF (fun i : Nat => ⟨⟨57, getT [(0, .isl n 6 false (fun i k => iV (G i k))), (1, .isl n 6 false (fun i k => iV (H i k))), (5, iV (Int.ofNat i))]⟩, []⟩) (fun _ => ⟨[], 0⟩) (fun i => n - i) (fun i => i ≤ n) 0
    (fun _ => rfl) (Nat.zero_le _) (Weak.by rfl rfl (by simp) (Nat.le_refl _) (Nat.le_refl _) ⟨⟨rfl, .inl rfl⟩, ⟨rfl, .inl rfl⟩, ⟨rfl, .inl rfl⟩, trivial⟩ trivial) fun i hi => ?_))
  refine SW.seq ?_
  refine SW.seqRun tok hO (by cbv <;> rfl) (by trivial) ?_
  refine SW.condS (by cbv <;> rfl) (fun h => SW.skip ?_) (fun h => SW.exit ?_)
  · have hlt : i < n := by
      have : Int.ofNat i < Int.ofNat n := by subst hO; simpa [std] using h
      exact Int.ofNat_lt.1 this
    have hin : 0 ≤ Int.ofNat i ∧ Int.ofNat i < Int.ofNat n := ⟨Int.natCast_nonneg i, Int.ofNat_lt.2 hlt⟩
    have hni : O.nat (Int.ofNat i) = i := by subst hO; rfl
    obtain ⟨q0, q1, q2, q3, q4, q5⟩ := hle (O.nat (Int.ofNat i)) (by rw [hni]; exact hlt)
    have e0 := inside106 q0 q1
    have e1 := inside106 q2 q3
    have e2 := inside106 q4 q5
    refine SW.seq (SW.block ?_)
    refine SW.seqRunDN tok mixed hO 4 (by kernel_rfl) (by cbv <;> rfl) (by repeat (first | exact trivial | exact hin | exact hin.1 | exact hin.2 | refine ⟨?_, ?_⟩)) ?_
    refine AnyE.runN tok hO 4 (by kernel_rfl) (by cbv <;> rfl) (by repeat (first | exact trivial | exact hin | exact hin.1 | exact hin.2 | refine ⟨?_, ?_⟩)) ?_
    refine AnyE.run tok hO (by kernel_rfl) (by cbv <;> rfl) (by repeat (first | exact trivial | exact hin | exact hin.1 | exact hin.2 | refine ⟨?_, ?_⟩)) ?_
    refine AnyE.callP e0 (by cbv <;> rfl) (by cbv <;> rfl) ?_
    refine AnyE.runN tok hO 4 (by kernel_rfl) (by cbv <;> rfl) (by repeat (first | exact trivial | exact hin | exact hin.1 | exact hin.2 | refine ⟨?_, ?_⟩)) ?_
    refine AnyE.runN tok hO 4 (by kernel_rfl) (by cbv <;> rfl) (by repeat (first | exact trivial | exact hin | exact hin.1 | exact hin.2 | refine ⟨?_, ?_⟩)) ?_
    refine AnyE.run tok hO (by kernel_rfl) (by cbv <;> rfl) (by repeat (first | exact trivial | exact hin | exact hin.1 | exact hin.2 | refine ⟨?_, ?_⟩)) ?_
    refine AnyE.callP e1 (by cbv <;> rfl) (by cbv <;> rfl) ?_
    refine AnyE.runN tok hO 4 (by kernel_rfl) (by cbv <;> rfl) (by repeat (first | exact trivial | exact hin | exact hin.1 | exact hin.2 | refine ⟨?_, ?_⟩)) ?_
    refine AnyE.runN tok hO 4 (by kernel_rfl) (by cbv <;> rfl) (by repeat (first | exact trivial | exact hin | exact hin.1 | exact hin.2 | refine ⟨?_, ?_⟩)) ?_
    refine AnyE.runN tok hO 4 (by kernel_rfl) (by cbv <;> rfl) (by repeat (first | exact trivial | exact hin | exact hin.1 | exact hin.2 | refine ⟨?_, ?_⟩)) ?_
    refine AnyE.run tok hO (by kernel_rfl) (by cbv <;> rfl) (by repeat (first | exact trivial | exact hin | exact hin.1 | exact hin.2 | refine ⟨?_, ?_⟩)) ?_
    refine AnyE.callP e2 (by cbv <;> rfl) (by cbv <;> rfl) ?_
    refine AnyE.run tok hO (by kernel_rfl) (by cbv <;> rfl) (by repeat (first | exact trivial | exact hin | exact hin.1 | exact hin.2 | refine ⟨?_, ?_⟩)) ?_
    refine SW.cond (t := false) (by cbv <;> rfl) (SW.skip ?_)
    refine SW.run tok hO (by cbv <;> rfl) (by trivial) ?_
    exact ⟨i + 1, by omega, hlt, Weak.by rfl rfl (by simp) (Nat.le_refl _) (by first | exact Nat.le_refl _ | exact Nat.le_succ _ | exact Nat.le_of_ble_eq_true rfl) ⟨⟨rfl, .inr (Below.up (m := 0) hB)⟩, ⟨rfl, .inr (Below.up (m := 0) hB2)⟩, ⟨inc_ok hO (by omega), .inr Below.lit⟩, trivial⟩ trivial⟩
  · refine SW.seqRun tok hO (by cbv <;> rfl) (by trivial) ?_
    exact SW.ret ⟨_, _, rfl, rfl, Eqv.of rfl⟩
end Go.Fz
set_option linter.unusedVariables false
set_option linter.unusedSimpArgs false
namespace Go.Fz
open Go.Proofs
set_option maxRecDepth 100000
set_option maxHeartbeats 8000000 in
theorem wt_nr (haw : Pure Try.prog 19 [] (.lit (.bool true))) (f : FarmD) (hS : Nat → Nat → AV) (x52 : Pure Try.prog 52 [.agg [.isl f.ns 3 false hS, bedsV f, looksV f]] (.sb false))
    (gg : Nat → AV) (h : AllP (fun p => gg p.1 = p.2) [(4, .ptr 0 0), (17, .ptr 2 0)]) :
    SW Try.prog none (restC 14 (bodyF Try.f12)) (trueQ3 Try.f12) ⟨⟨225, gg⟩, []⟩ ⟨[(3, .cells none false []), (2, .cells none false [.isl f.ns 3 false hS, bedsV f, looksV f]), (0, .cells none false (farmL f))], 5⟩ := by
  obtain ⟨O, hO⟩ : ∃ O : Ar, O = std := ⟨_, rfl⟩
  obtain ⟨g1, g2, _⟩ := h
  simp only at g1 g2
  rw [← updT_self g1, ← updT_self g2]
  refine (show SW Try.prog none (.seq (.seq (.region _ _ _) _) _) _ _ _ from ?_)
  refine SW.seq ?_
  refine SW.seqRun tok hO (by cbv <;> rfl) (by trivial) ?_
  refine OpsW.callP x52 (by cbv <;> rfl) ?_
  refine OpsW.run tok hO (by cbv <;> rfl) (by trivial) ?_
  refine SW.condS (by cbv <;> rfl) (fun hw1 => ?_) (fun hw1 => by first | (cases hw1; done) | (subst hO; simp [std] at hw1; done) | (subst hO; simp [std] at hw1; omega))
  refine SW.seqRun tok hO (by cbv <;> rfl) (by trivial) ?_
  refine OpsW.callP haw (by cbv <;> rfl) ?_
  refine OpsW.run tok hO (by cbv <;> rfl) (by trivial) ?_
  exact SW.ret ⟨_, _, rfl, rfl, Eqv.of rfl⟩
set_option maxHeartbeats 8000000 in
theorem wt_h11a (haw : Pure Try.prog 19 [] (.lit (.bool true))) (f : FarmD) (hS : Nat → Nat → AV) (A B : AV) (XV : AV) (x52 : Pure Try.prog 52 [.agg [.isl f.ns 3 false hS, bedsV f, looksV f]] (.sb true)) (e21 : Pure Try.prog 21 [farmV f] (farmV f)) (x21 : Pure Try.prog 21 [.agg [.isl f.ns 3 false hS, bedsV f, looksV f]] XV) (e29 : Pure Try.prog 29 [farmV f] (.tup [A, iV 11])) (x29 : Pure Try.prog 29 [XV] (.tup [B, iV 0]))
    (gg : Nat → AV) (h : AllP (fun p => gg p.1 = p.2) [(4, .ptr 0 0), (17, .ptr 2 0)]) :
    SW Try.prog none (restC 14 (bodyF Try.f12)) (trueQ3 Try.f12) ⟨⟨225, gg⟩, []⟩ ⟨[(3, .cells none false []), (2, .cells none false [.isl f.ns 3 false hS, bedsV f, looksV f]), (0, .cells none false (farmL f))], 5⟩ := by
  obtain ⟨O, hO⟩ : ∃ O : Ar, O = std := ⟨_, rfl⟩
  obtain ⟨g1, g2, _⟩ := h
  simp only at g1 g2
  rw [← updT_self g1, ← updT_self g2]
  refine (show SW Try.prog none (.seq (.seq (.region _ _ _) _) _) _ _ _ from ?_)
  refine SW.seq ?_
  refine SW.seqRun tok hO (by cbv <;> rfl) (by trivial) ?_
  refine OpsW.callP x52 (by cbv <;> rfl) ?_
  refine OpsW.run tok hO (by cbv <;> rfl) (by trivial) ?_
  refine SW.condS (by cbv <;> rfl) (fun hw1 => by first | (cases hw1; done) | (subst hO; simp [std] at hw1; done) | (subst hO; simp [std] at hw1; omega)) (fun hw1 => SW.skip ?_)
  refine SW.seqRun tok hO (by cbv <;> rfl) (by trivial) ?_
  refine OpsW.callP e21 (by cbv <;> rfl) ?_
  refine OpsW.run tok hO (by cbv <;> rfl) (by trivial) ?_
  refine OpsW.callP e29 (by cbv <;> rfl) ?_
  refine OpsW.run tok hO (by cbv <;> rfl) (by trivial) ?_
  refine SW.seqRun tok hO (by cbv <;> rfl) (by trivial) ?_
  refine OpsW.callP x21 (by cbv <;> rfl) ?_
  refine OpsW.run tok hO (by cbv <;> rfl) (by trivial) ?_
  refine OpsW.callP x29 (by cbv <;> rfl) ?_
  refine OpsW.run tok hO (by cbv <;> rfl) (by trivial) ?_
  refine SW.seq ?_
  refine SW.seqRun tok hO (by cbv <;> rfl) (by trivial) ?_
  refine SW.condS (by cbv <;> rfl) (fun hw2 => ?_) (fun hw2 => by first | (cases hw2; done) | (subst hO; simp [std] at hw2; done) | (subst hO; simp [std] at hw2; omega))
  refine SW.seqRun tok hO (by cbv <;> rfl) (by trivial) ?_
  refine OpsW.splitG (by cbv <;> rfl) (fun hw3 => ?_) (fun hw3 => by first | (cases hw3; done) | (subst hO; simp [std] at hw3; done) | (subst hO; simp [std] at hw3; omega))
  refine OpsW.run tok hO (by cbv <;> rfl) (by trivial) ?_
  refine OpsW.splitG (by cbv <;> rfl) (fun hw4 => ?_) (fun hw4 => by first | (cases hw4; done) | (subst hO; simp [std] at hw4; done) | (subst hO; simp [std] at hw4; omega))
  refine OpsW.run tok hO (by cbv <;> rfl) (by trivial) ?_
  refine OpsW.callP haw (by cbv <;> rfl) ?_
  refine OpsW.run tok hO (by cbv <;> rfl) (by trivial) ?_
  exact SW.ret ⟨_, _, rfl, rfl, Eqv.of rfl⟩
set_option maxHeartbeats 8000000 in
theorem wt_h11b (haw : Pure Try.prog 19 [] (.lit (.bool true))) (f : FarmD) (hS : Nat → Nat → AV) (A B : AV) (XV : AV) (x52 : Pure Try.prog 52 [.agg [.isl f.ns 3 false hS, bedsV f, looksV f]] (.sb true)) (e21 : Pure Try.prog 21 [farmV f] (farmV f)) (x21 : Pure Try.prog 21 [.agg [.isl f.ns 3 false hS, bedsV f, looksV f]] XV) (e29 : Pure Try.prog 29 [farmV f] (.tup [A, iV 11])) (x29 : Pure Try.prog 29 [XV] (.tup [B, iV 11]))
    (gg : Nat → AV) (h : AllP (fun p => gg p.1 = p.2) [(4, .ptr 0 0), (17, .ptr 2 0)]) :
    SW Try.prog none (restC 14 (bodyF Try.f12)) (trueQ3 Try.f12) ⟨⟨225, gg⟩, []⟩ ⟨[(3, .cells none false []), (2, .cells none false [.isl f.ns 3 false hS, bedsV f, looksV f]), (0, .cells none false (farmL f))], 5⟩ := by
  obtain ⟨O, hO⟩ : ∃ O : Ar, O = std := ⟨_, rfl⟩
  obtain ⟨g1, g2, _⟩ := h
  simp only at g1 g2
  rw [← updT_self g1, ← updT_self g2]
  refine (show SW Try.prog none (.seq (.seq (.region _ _ _) _) _) _ _ _ from ?_)
  refine SW.seq ?_
  refine SW.seqRun tok hO (by cbv <;> rfl) (by trivial) ?_
  refine OpsW.callP x52 (by cbv <;> rfl) ?_
  refine OpsW.run tok hO (by cbv <;> rfl) (by trivial) ?_
  refine SW.condS (by cbv <;> rfl) (fun hw1 => by first | (cases hw1; done) | (subst hO; simp [std] at hw1; done) | (subst hO; simp [std] at hw1; omega)) (fun hw1 => SW.skip ?_)
  refine SW.seqRun tok hO (by cbv <;> rfl) (by trivial) ?_
  refine OpsW.callP e21 (by cbv <;> rfl) ?_
  refine OpsW.run tok hO (by cbv <;> rfl) (by trivial) ?_
  refine OpsW.callP e29 (by cbv <;> rfl) ?_
  refine OpsW.run tok hO (by cbv <;> rfl) (by trivial) ?_
  refine SW.seqRun tok hO (by cbv <;> rfl) (by trivial) ?_
  refine OpsW.callP x21 (by cbv <;> rfl) ?_
  refine OpsW.run tok hO (by cbv <;> rfl) (by trivial) ?_
  refine OpsW.callP x29 (by cbv <;> rfl) ?_
  refine OpsW.run tok hO (by cbv <;> rfl) (by trivial) ?_
  refine SW.seq ?_
  refine SW.seqRun tok hO (by cbv <;> rfl) (by trivial) ?_
  refine SW.condS (by cbv <;> rfl) (fun hw2 => ?_) (fun hw2 => by first | (cases hw2; done) | (subst hO; simp [std] at hw2; done) | (subst hO; simp [std] at hw2; omega))
  refine SW.seqRun tok hO (by cbv <;> rfl) (by trivial) ?_
  refine OpsW.splitG (by cbv <;> rfl) (fun hw3 => ?_) (fun hw3 => by first | (cases hw3; done) | (subst hO; simp [std] at hw3; done) | (subst hO; simp [std] at hw3; omega))
  refine OpsW.run tok hO (by cbv <;> rfl) (by trivial) ?_
  refine OpsW.splitG (by cbv <;> rfl) (fun hw4 => by first | (cases hw4; done) | (subst hO; simp [std] at hw4; done) | (subst hO; simp [std] at hw4; omega)) (fun hw4 => ?_)
  refine OpsW.run tok hO (by cbv <;> rfl) (by trivial) ?_
  refine OpsW.splitG (by cbv <;> rfl) (fun hw5 => ?_) (fun hw5 => by first | (cases hw5; done) | (subst hO; simp [std] at hw5; done) | (subst hO; simp [std] at hw5; omega))
  refine OpsW.run tok hO (by cbv <;> rfl) (by trivial) ?_
  refine OpsW.callP haw (by cbv <;> rfl) ?_
  refine OpsW.run tok hO (by cbv <;> rfl) (by trivial) ?_
  exact SW.ret ⟨_, _, rfl, rfl, Eqv.of rfl⟩
set_option maxHeartbeats 8000000 in
theorem wt_two (haw : Pure Try.prog 19 [] (.lit (.bool true))) (f : FarmD) (hS : Nat → Nat → AV) (A B : AV) (XV : AV) (x52 : Pure Try.prog 52 [.agg [.isl f.ns 3 false hS, bedsV f, looksV f]] (.sb true)) (e21 : Pure Try.prog 21 [farmV f] (farmV f)) (x21 : Pure Try.prog 21 [.agg [.isl f.ns 3 false hS, bedsV f, looksV f]] XV) (e29 : Pure Try.prog 29 [farmV f] (.tup [A, iV 0])) (x29 : Pure Try.prog 29 [XV] (.tup [B, iV 0])) (e62 : Pure Try.prog 62 [A, B] (.lit (.bool true)))
    (gg : Nat → AV) (h : AllP (fun p => gg p.1 = p.2) [(4, .ptr 0 0), (17, .ptr 2 0)]) :
    SW Try.prog none (restC 14 (bodyF Try.f12)) (trueQ3 Try.f12) ⟨⟨225, gg⟩, []⟩ ⟨[(3, .cells none false []), (2, .cells none false [.isl f.ns 3 false hS, bedsV f, looksV f]), (0, .cells none false (farmL f))], 5⟩ := by
  obtain ⟨O, hO⟩ : ∃ O : Ar, O = std := ⟨_, rfl⟩
  obtain ⟨g1, g2, _⟩ := h
  simp only at g1 g2
  rw [← updT_self g1, ← updT_self g2]
  refine (show SW Try.prog none (.seq (.seq (.region _ _ _) _) _) _ _ _ from ?_)
  refine SW.seq ?_
  refine SW.seqRun tok hO (by cbv <;> rfl) (by trivial) ?_
  refine OpsW.callP x52 (by cbv <;> rfl) ?_
  refine OpsW.run tok hO (by cbv <;> rfl) (by trivial) ?_
  refine SW.condS (by cbv <;> rfl) (fun hw1 => by first | (cases hw1; done) | (subst hO; simp [std] at hw1; done) | (subst hO; simp [std] at hw1; omega)) (fun hw1 => SW.skip ?_)
  refine SW.seqRun tok hO (by cbv <;> rfl) (by trivial) ?_
  refine OpsW.callP e21 (by cbv <;> rfl) ?_
  refine OpsW.run tok hO (by cbv <;> rfl) (by trivial) ?_
  refine OpsW.callP e29 (by cbv <;> rfl) ?_
  refine OpsW.run tok hO (by cbv <;> rfl) (by trivial) ?_
  refine SW.seqRun tok hO (by cbv <;> rfl) (by trivial) ?_
  refine OpsW.callP x21 (by cbv <;> rfl) ?_
  refine OpsW.run tok hO (by cbv <;> rfl) (by trivial) ?_
  refine OpsW.callP x29 (by cbv <;> rfl) ?_
  refine OpsW.run tok hO (by cbv <;> rfl) (by trivial) ?_
  refine SW.seq ?_
  refine SW.seqRun tok hO (by cbv <;> rfl) (by trivial) ?_
  refine SW.condS (by cbv <;> rfl) (fun hw2 => by first | (cases hw2; done) | (subst hO; simp [std] at hw2; done) | (subst hO; simp [std] at hw2; omega)) (fun hw2 => SW.skip ?_)
  refine SW.seqRun tok hO (by cbv <;> rfl) (by trivial) ?_
  refine OpsW.splitG (by cbv <;> rfl) (fun hw3 => ?_) (fun hw3 => by first | (cases hw3; done) | (subst hO; simp [std] at hw3; done) | (subst hO; simp [std] at hw3; omega))
  refine OpsW.run tok hO (by cbv <;> rfl) (by trivial) ?_
  refine OpsW.callP e62 (by cbv <;> rfl) ?_
  refine OpsW.run tok hO (by cbv <;> rfl) (by trivial) ?_
  refine OpsW.callP haw (by cbv <;> rfl) ?_
  refine OpsW.run tok hO (by cbv <;> rfl) (by trivial) ?_
  exact SW.ret ⟨_, _, rfl, rfl, Eqv.of rfl⟩
def wwD (j : Nat) : Bool := Nat.beq j 4
theorem wt_wide (f : FarmD) {k : Nat} (hk : k < f.ns) (lo hi : Int) : ((flatG 3 (springC f) f.ns).set (k * 3 + 1) (iV lo)).set (k * 3 + 2) (iV hi) = flatG 3 (springC (f.setF k lo hi)) f.ns := by
  have h1 : (flatG 3 (springC f) f.ns).set (k * 3 + 1) (iV lo) = flatG 3 (springC (f.setF k lo (f.shi k))) f.ns := by
    refine flatG_set hk (by omega) ?_ fun i j _ hj hne => ?_
    · show iV (if k = k then lo else f.slo k) = iV lo
      rw [if_pos rfl]
    · match j, hj with
      | 0, _ => rfl
      | 1, _ =>
        show iV (if i = k then lo else f.slo i) = iV (f.slo i)
        rw [if_neg (fun e => hne ⟨e, rfl⟩)]
      | 2, _ =>
        show iV (if i = k then f.shi k else f.shi i) = iV (f.shi i)
        by_cases e : i = k
        · rw [if_pos e, e]
        · rw [if_neg e]
  rw [h1]
  refine flatG_set hk (by omega) ?_ fun i j _ hj hne => ?_
  · show iV (if k = k then hi else f.shi k) = iV hi
    rw [if_pos rfl]
  · match j, hj with
    | 0, _ => rfl
    | 1, _ => rfl
    | 2, _ =>
      show iV (if i = k then hi else f.shi i) = iV (if i = k then f.shi k else f.shi i)
      rw [if_neg (fun e => hne ⟨e, rfl⟩), if_neg (fun e => hne ⟨e, rfl⟩)]
set_option maxHeartbeats 16000000 in
theorem wt_froz (f : FarmD) (k q : Nat) (lo hi : Int) (G : List AV) (hG : G = flatG 3 (springC (f.setF k lo hi)) f.ns)
    (htail : ∀ (hS : Nat → Nat → AV), Eqv (.isl f.ns 3 false hS) (springsV (f.setF k lo hi)) → ∀ (gg : Nat → AV), AllP (fun p => gg p.1 = p.2) [(4, .ptr 0 0), (17, .ptr 2 0)] → SW Try.prog none (restC 14 (bodyF Try.f12)) (trueQ3 Try.f12) ⟨⟨225, gg⟩, []⟩ ⟨[(3, .cells none false []), (2, .cells none false [.isl f.ns 3 false hS, bedsV f, looksV f]), (0, .cells none false (farmL f))], 5⟩)
    (g : Nat → AV) (h : AllP (fun p => g p.1 = p.2) [(4, .ptr 0 0), (17, .ptr 2 0), (18, .ptr 4 q)]) :
    SW Try.prog none (restC 14 (bodyF Try.f12)) (trueQ3 Try.f12) ⟨⟨225, g⟩, []⟩ ⟨[(4, .cells none false G), (3, .cells none false []), (2, .cells none false [.sl 4 0 f.ns 3 false, bedsV f, looksV f]), (0, .cells none false (farmL f))], 5⟩ := by
  obtain ⟨g4, g17, _⟩ := h
  simp only at g4 g17
  refine SW.freezeZ wwD 3 (by rfl) ?_
  obtain ⟨H, hH⟩ : ∃ H : Hp, H = [(4, .cells none false G), (3, .cells none false []), (2, .cells none false [.sl 4 0 f.ns 3 false, bedsV f, looksV f]), (0, .cells none false (farmL f))] := ⟨_, rfl⟩
  have hH4 : H.get 4 = some (.cells none false G) := by rw [hH]; rfl
  have hlX : f.ns * 3 ≤ G.length := by rw [hG, flatG_length]; omega
  obtain ⟨XC, hX, hXe, hXf⟩ : ∃ X, frz H wwD 3 (.sl 4 0 f.ns 3 false) = X ∧ Eqv X (springsV (f.setF k lo hi)) ∧ ∃ h, X = .isl f.ns 3 false h :=
    ⟨_, rfl, by
      rw [frz_slE (fm := none) (G := G) rfl hH4 hlX, hG]
      exact Eqv.isl rfl fun i j hi hj => Eqv.of (frz_flat hi hj (by unfold springC; split <;> rfl)), _, frz_slE (fm := none) (G := G) rfl hH4 hlX⟩
  show SW _ _ _ _ ⟨⟨225, fun i => frz [(4, .cells none false G), (3, .cells none false []), (2, .cells none false [.sl 4 0 f.ns 3 false, bedsV f, looksV f]), (0, .cells none false (farmL f))] wwD 3 (g i)⟩, []⟩ ⟨[(3, .cells none false []), (2, .cells none false [frz [(4, .cells none false G), (3, .cells none false []), (2, .cells none false [.sl 4 0 f.ns 3 false, bedsV f, looksV f]), (0, .cells none false (farmL f))] wwD 3 (.sl 4 0 f.ns 3 false), bedsV f, looksV f]), (0, .cells none false (farmL f))], 5⟩
  rw [← hH, hX]
  obtain ⟨hS, rfl⟩ := hXf
  clear hX
  have f4 : frz H wwD 3 (g 4) = .ptr 0 0 := by rw [g4]; rfl
  have f17 : frz H wwD 3 (g 17) = .ptr 2 0 := by rw [g17]; rfl
  exact htail hS hXe _ ⟨f4, f17, trivial⟩
end Go.Fz
set_option linter.unusedVariables false
namespace Go.Fz
open Go.Proofs
set_option maxRecDepth 100000
end Go.Fz
set_option linter.unusedVariables false
namespace Go.Fz
open Go.Proofs
set_option maxRecDepth 100000
section
variable (f : FarmD) (b : Int) (ov : Bool) (lo hi : Int)
end
section
variable {f : FarmD} {b : Int} {ov : Bool} {lo hi : Int}
end
end Go.Fz
set_option linter.unusedVariables false
namespace Go.Fz
open Go.Proofs
set_option maxRecDepth 100000
end Go.Fz
set_option linter.unusedVariables false
set_option linter.unusedSimpArgs false
namespace Go.Fz
open Go.Proofs
set_option maxRecDepth 100000
end Go.Fz
set_option linter.unusedVariables false
set_option linter.unusedSimpArgs false
namespace Go.Fz
open Go.Proofs
set_option maxRecDepth 100000
end Go.Fz
set_option linter.unusedVariables false
set_option linter.unusedSimpArgs false
namespace Go.Fz
open Go.Proofs
set_option maxRecDepth 100000
end Go.Fz
set_option linter.unusedVariables false
set_option linter.unusedSimpArgs false
namespace Go.Fz
open Go.Proofs
set_option maxRecDepth 100000
end Go.Fz
set_option linter.unusedVariables false
namespace Go.Fz
open Go.Proofs
set_option maxRecDepth 100000
end Go.Fz
set_option linter.unusedVariables false
namespace Go.Fz
open Go.Proofs
set_option maxRecDepth 100000
end Go.Fz
set_option linter.unusedVariables false
namespace Go.Fz
open Go.Proofs
set_option maxRecDepth 100000
end Go.Fz
set_option linter.unusedVariables false
set_option linter.unusedSimpArgs false
namespace Go.Fz
open Go.Proofs
set_option maxRecDepth 100000
end Go.Fz
set_option linter.unusedVariables false
set_option linter.unusedSimpArgs false
namespace Go.Fz
open Go.Proofs
set_option maxRecDepth 100000
end Go.Fz
set_option linter.unusedVariables false
namespace Go.Fz
open Go.Proofs
set_option maxRecDepth 100000
end Go.Fz
set_option linter.unusedVariables false
namespace Go.Fz
open Go.Proofs
set_option maxRecDepth 100000
end Go.Fz
set_option linter.unusedVariables false
namespace Go.Fz
open Go.Proofs
set_option maxRecDepth 100000
theorem FarmD.bnC_at (f : FarmD) (b k : Nat) : f.bnC b k = iV (f.bnI b k) := by rw [f.bnC_eq]
end Go.Fz
set_option linter.unusedVariables false
namespace Go.Fz
open Go.Proofs
set_option maxRecDepth 100000
end Go.Fz
set_option linter.unusedVariables false
set_option linter.unusedSimpArgs false
namespace Go.Fz
open Go.Proofs
set_option maxRecDepth 100000
theorem mx0_le {x y : Int} (h : y ≤ x) (h0 : 0 ≤ x) : std.mx 0 y ≤ x := by
  show (if y > 0 then y else 0) ≤ x
  split <;> omega
theorem le_mn30 {x y : Int} (h : x ≤ y) (h0 : x ≤ 30) : x ≤ std.mn 30 y := by
  show x ≤ (if y < 30 then y else 30)
  split <;> omega
set_option maxHeartbeats 16000000 in
theorem bedWater_ok (haw : Pure Try.prog 19 [] (.lit (.bool true))) (f : FarmD) (w a b : Int) (w0 : 0 ≤ w) (w1 : w ≤ 65535) (a0 : 0 ≤ a) (a1 : a ≤ 255) (b0 : 0 ≤ b) (b1 : b ≤ 255) : Pure Try.prog 12 [farmV f, .lit (.int .u16 w), .lit (.int .u8 a), .lit (.int .u8 b)] (.lit (.bool true)) := by
  cases hR : f.readyB with
  | false => exact wt_not1 haw f w a b (ready_sb f hR)
  | true =>
    have e52 := ready_sb f hR
    by_cases hz : f.ns = 0
    · exact wt_not2 haw f w a b hz e52
    have hc := check_of_ready hR
    have g := good_of_check hc
    have hF : f.faultN = 0 := by rw [f.check_eq] at hc; exact hc
    have hnb := g.nb
    have hns := g.ns
    have hnl := g.nl
    have hs : f.small := good_small g
    have e61 := many_ok f hs
    obtain ⟨_, hm0, hm1⟩ := FarmD.many_eq hc
    obtain ⟨M, hM⟩ : ∃ M, f.manyN f.ns = M := ⟨_, rfl⟩
    rw [hM] at e61 hm0 hm1
    have hNb := tmod_bound (q := w) (z := M) w0 (by omega)
    have hN : std.bin .rem .i64 (std.conv .i64 w) M = w.tmod M := by
      show (wrp .i64 w).tmod M = _
      rw [wrp_in (by simp only [IntKind.lo]; omega) (by simp only [IntKind.hi]; omega)]
    have hlist := f.nth_listed g (w.tmod M) hNb.1 (by omega)
    have e60 : Pure Try.prog 60 [farmV f, iV (std.bin .rem .i64 (std.conv .i64 w) M)] (intsV f.ns false (f.nthN (w.tmod M))) := by rw [hN]; exact nth_ok f g _
    generalize f.nthN (w.tmod M) = fl at hlist e60
    refine wt_pre f w a b fl M hz (by omega) e52 e61 e60 fun gg h => ?_
    obtain ⟨k, hk, hm⟩ := modN (show 0 < f.ns by omega) (show f.ns < 1000 by omega) a0 (show a ≤ 65535 by omega)
    have hnz : Int.ofNat f.ns ≠ 0 := by show (f.ns : Int) ≠ 0; omega
    refine wt_k f a b fl k hnz hm (fun gg h => ?_) gg h
    have hin : ∀ s, s < f.ns → f.slo s ≤ fl s ∧ fl s ≤ f.shi s := fun s hs2 => by
      have h2 := hlist
      unfold FarmD.listedB at h2
      rw [Bool.and_eq_true] at h2
      have h3 := (of_decide_eq_true h2.2 : ∀ i, i < f.ns → _) s hs2
      unfold Go.Fz.inB at h3
      simpa using h3
    obtain ⟨v, hv⟩ : ∃ v, std.mn (f.shi k) (std.bin .add .i64 (fl k) (std.bin .rem .i64 (std.conv .i64 b) 5)) = v := ⟨_, rfl⟩
    obtain ⟨_, sk0, sk1, sk2⟩ := g.spring k hk
    have hv2 : fl k ≤ v ∧ v ≤ f.shi k := by
      have hb5 := tmod_bound (q := b) (z := 5) b0 (by omega)
      obtain ⟨i0, i1⟩ := hin k hk
      have e : v = if wrp .i64 (fl k + (wrp .i64 b).tmod 5) < f.shi k then wrp .i64 (fl k + (wrp .i64 b).tmod 5) else f.shi k := hv.symm
      rw [wrp_in (n := b) (by simp only [IntKind.lo]; omega) (by simp only [IntKind.hi]; omega), wrp_in (by simp only [IntKind.lo]; omega) (by simp only [IntKind.hi]; omega)] at e
      rw [e]
      split <;> omega
    refine wt_u f hns b fl k hk v hv (fun hU hUb hUe gg h => ?_) gg h
    have hset : ∀ s, s < f.ns → fl s ≤ setI fl k v s ∧ setI fl k v s ≤ f.shi s := fun s hs2 => by
      obtain ⟨i0, i1⟩ := hin s hs2
      unfold setI
      by_cases e : s = k
      · subst e; rw [if_pos rfl]; omega
      · rw [if_neg e]; omega
    have hlist2 : f.listedB f.ns (setI fl k v) = true := by
      unfold FarmD.listedB
      rw [Bool.and_eq_true]
      refine ⟨by simp, allN_true fun s hs2 => ?_⟩
      obtain ⟨i0, i1⟩ := hin s hs2
      obtain ⟨j0, j1⟩ := hset s hs2
      unfold Go.Fz.inB
      rw [Bool.and_eq_true, decide_eq_true_eq, decide_eq_true_eq]
      omega
    have e21 := farm_ok f (by omega) (by omega) (by omega)
    have e22 := list_ok f.ns false fl (by omega)
    have e22u := Pure.eqv (list_ok f.ns false (setI fl k v) (by omega)) (.cons hUe .nil)
    have e20 := play20_ok f hs f.ns false fl (by omega)
    have e20u := play20_ok f hs f.ns false (setI fl k v) (by omega)
    obtain ⟨p1, p2⟩ := f.play_good f.ns fl hF hlist
    obtain ⟨u1, u2⟩ := f.play_good f.ns (setI fl k v) hF hlist2
    rw [p1, p2] at e20
    rw [u1, u2] at e20u
    refine wt_play f b fl k hU _ _ (f.water fl) (f.water (setI fl k v)) e21 e22 e22u e20 e20u (fun gg h => ?_) gg h
    have fl30 : ∀ s, s < f.ns → 0 ≤ fl s ∧ fl s ≤ 30 := fun s hs2 => by
      obtain ⟨_, q0, q1, q2⟩ := g.spring s hs2
      obtain ⟨i0, i1⟩ := hin s hs2
      omega
    have fu30 : ∀ s, s < f.ns → 0 ≤ setI fl k v s ∧ setI fl k v s ≤ 30 := fun s hs2 => by
      obtain ⟨_, q0, q1, q2⟩ := g.spring s hs2
      obtain ⟨i0, i1⟩ := hin s hs2
      obtain ⟨j0, j1⟩ := hset s hs2
      omega
    refine wt_cmp f hnb b k (f.water fl) (f.water (setI fl k v)) (fun i hi => FarmD.water_mono g fl30 fu30 (fun s hs2 => (hset s hs2).1) hi) (fun gg h => ?_) gg h
    refine wt_16 f hns b k hk (fun q G hq hG gg h => ?_) gg h
    have hgl : G.length = 3 * f.ns := by rw [hG, flatG_length]; omega
    have hl0 : G[q + 0]? = some (iV (f.slo k)) := by
      rw [hG, hq, show 0 + k * 3 + 1 + 0 = k * 3 + 1 by omega]
      exact flatG_get 3 (springC f) f.ns k 1 hk (by omega)
    have hl1 : G[q + 1]? = some (iV (f.shi k)) := by
      rw [hG, hq, show 0 + k * 3 + 1 + 1 = k * 3 + 2 by omega]
      exact flatG_get 3 (springC f) f.ns k 2 hk (by omega)
    refine wt_19 f b q G (f.slo k) (f.shi k) hl0 hl1 (by omega) (by omega) std rfl (fun G1 G2 hG1 hG2 gg h => ?_) gg h
    have hb8 : 0 ≤ b.tdiv 8 ∧ b.tdiv 8 ≤ b := ⟨Int.tdiv_nonneg b0 (by omega), Int.tdiv_le_self 8 b0⟩
    have hb32 : 0 ≤ b.tdiv 32 ∧ b.tdiv 32 ≤ b := ⟨Int.tdiv_nonneg b0 (by omega), Int.tdiv_le_self 32 b0⟩
    obtain ⟨lo, hlo⟩ : ∃ v, std.mx 0 (std.bin .sub .i64 (f.slo k) (std.bin .rem .i64 (std.bin .quo .i64 (std.conv .i64 b) 8) 3)) = v := ⟨_, rfl⟩
    obtain ⟨hi, hhi⟩ : ∃ v, std.mn 30 (std.bin .add .i64 (f.shi k) (std.bin .rem .i64 (std.bin .quo .i64 (std.conv .i64 b) 32) 3)) = v := ⟨_, rfl⟩
    have h1 : lo ≤ f.slo k := by
      rw [← hlo]
      refine mx0_le ?_ sk0
      show wrp .i64 (f.slo k - (wrp .i64 ((wrp .i64 b).tdiv 8)).tmod 3) ≤ _
      rw [wrp_in (n := b) (by simp only [IntKind.lo]; omega) (by simp only [IntKind.hi]; omega), wrp_in (n := b.tdiv 8) (by simp only [IntKind.lo]; omega) (by simp only [IntKind.hi]; omega)]
      have := tmod_bound (q := b.tdiv 8) (z := 3) hb8.1 (by omega)
      rw [wrp_in (by simp only [IntKind.lo]; omega) (by simp only [IntKind.hi]; omega)]
      omega
    have h2 : f.shi k ≤ hi := by
      rw [← hhi]
      refine le_mn30 ?_ sk2
      show _ ≤ wrp .i64 (f.shi k + (wrp .i64 ((wrp .i64 b).tdiv 32)).tmod 3)
      rw [wrp_in (n := b) (by simp only [IntKind.lo]; omega) (by simp only [IntKind.hi]; omega), wrp_in (n := b.tdiv 32) (by simp only [IntKind.lo]; omega) (by simp only [IntKind.hi]; omega)]
      have := tmod_bound (q := b.tdiv 32) (z := 3) hb32.1 (by omega)
      rw [wrp_in (by simp only [IntKind.lo]; omega) (by simp only [IntKind.hi]; omega)]
      omega
    rw [hlo] at hG1
    rw [hhi] at hG2
    have hGw : G2 = flatG 3 (springC (f.setF k lo hi)) f.ns := by
      have e0 : q + 0 = k * 3 + 1 := by omega
      have e1 : q + 1 = k * 3 + 2 := by omega
      rw [hG2, hG1, hG, e0, e1]
      exact wt_wide f hk lo hi
    refine wt_froz f k q lo hi G2 hGw (fun hS hSe gg h => ?_) gg h
    have hV : Eqvs [.agg [.isl f.ns 3 false hS, bedsV f, looksV f]] [farmV (f.setF k lo hi)] := .cons (Eqv.agg (.cons hSe (.cons (Eqv.refl _) (.cons (Eqv.refl _) .nil)))) .nil
    cases hRx : (f.setF k lo hi).readyB with
    | false => exact wt_nr haw f hS (Pure.eqv (ready_sb _ hRx) hV) gg h
    | true =>
      have x52 := Pure.eqv (ready_sb _ hRx) hV
      have hcx := check_of_ready hRx
      have gx := good_of_check hcx
      have x21 := Pure.eqv (farm_ok (f.setF k lo hi) (show f.nb ≤ 10 by omega) (show f.ns ≤ 6 by omega) (show f.nl ≤ 7 by omega)) hV
      have e29 := bounds29 hs
      have x29 := bounds29 (good_small gx)
      obtain ⟨k1, k2⟩ := bndE_of hc
      obtain ⟨y1, y2⟩ := bndE_of hcx
      by_cases ht : f.trs = []
      · rw [k2 ht] at e29
        by_cases htx : (f.setF k lo hi).trs = []
        · rw [y2 htx] at x29
          exact wt_h11b haw f hS _ _ _ x52 e21 x21 e29 x29 gg h
        · rw [y1 htx] at x29
          exact wt_h11a haw f hS _ _ _ x52 e21 x21 e29 x29 gg h
      · have htx := setF_ne (k := k) h1 h2 ht
        rw [y1 htx, show (f.setF k lo hi).bndL = .isl f.nb 6 false (f.setF k lo hi).bnC by unfold FarmD.bndL; rw [y1 htx]; rfl] at x29
        rw [k1 ht, show f.bndL = .isl f.nb 6 false f.bnC by unfold FarmD.bndL; rw [k1 ht]; rfl] at e29
        have e29 : Pure Try.prog 29 [farmV f] (.tup [.isl f.nb 6 false (fun i k => iV (f.bnI i k)), iV 0]) := e29.res (Eqv.tup (.cons (Eqv.isl rfl fun i k _ _ => Eqv.of (f.bnC_at i k)) (.cons (Eqv.refl _) .nil)))
        have x29 : Pure Try.prog 29 [farmV (f.setF k lo hi)] (.tup [.isl f.nb 6 false (fun i j => iV ((f.setF k lo hi).bnI i j)), iV 0]) := x29.res (Eqv.tup (.cons (Eqv.isl rfl fun i j _ _ => Eqv.of ((f.setF k lo hi).bnC_at i j)) (.cons (Eqv.refl _) .nil)))
        have e62 := narrower62 f.nb (by omega) f.bnI (f.setF k lo hi).bnI fun i hib => by
          obtain ⟨a1, a2⟩ := setF_bounds (k := k) h1 h2 ht i 0
          obtain ⟨a3, a4⟩ := setF_bounds (k := k) h1 h2 ht i 1
          obtain ⟨a5, a6⟩ := setF_bounds (k := k) h1 h2 ht i 2
          exact ⟨a1, a2, a3, a4, a5, a6⟩
        exact wt_two haw f hS _ _ _ x52 e21 x21 e29 x29 e62 gg h
end Go.Fz
