/- Own work of the verifier of watercress: FzF1, FzG8, FzG5, FzD13, FzE4, FzG2, FzE5, FzG6, FzE6, FzG3, FzG4, FzG1, FzG7, FzG9, FzF3. -/
import Derived.Below
import Derived.CallsIn
import Derived.Carry
import Derived.ChangeKeysEq
import Derived.ChangeSame
import Derived.Deep.Slices
import Derived.DeepKeys4
import Derived.JoinedCond
import Derived.Laws.AppendOwn
import Derived.Laws.Cells
import Derived.Laws.CopyRow
import Derived.Laws.Cover3
import Derived.Laws.Entries
import Derived.Laws.NewFold
import Derived.Laws.Sem
import Derived.Laws.Small
import Derived.Laws.StructEq
import Derived.Laws.Tables
import Derived.Laws.World
import Derived.Lib.SmallJoins
import Derived.Maps.Keyed
import Derived.Maps.RangeRun
import Derived.OpenShut
import Derived.OrdersHeld
import Derived.OrdersIn
import Derived.ProofKit
import Derived.RangeFuncLeaves
import Derived.RangeFuncRecord
import Derived.Shelf.Abstract
import Derived.WalkKit
import Derived.WideKeyArgs
import Derived.Test.YtpaifaemkoblcaaNa16
import Derived.Test.YtpaifaemkoblcaaNa24
import Derived.Test.YtpaifaemkoblcaaNa25
import Derived.Test.YtpaifaemkoblcaaNa26
import Derived.Test.YtpaifaemkoblcaaNa19
import Derived.Test.YtpaifaemkoblcaaNa20
import Derived.Test.YtpaifaemkoblcaaNa21
import Derived.Test.YtpaifaemkoblcaaNa22
import Derived.Test.YtpaifaemkoblcaaNa23
import Derived.Test.YtpaifaemkoblcaaNa27
import Derived.Test.YtpaifaemkoblcaaNf0
import Derived.Test.YtpaifaemkoblcaaNa32
import Derived.Test.YtpaifaemkoblcaaNa35
import Derived.Test.YtpaifaemkoblcaaNa33
import Derived.Test.YtpaifaemkoblcaaNa34
import Derived.Test.YtpaifaemkoblcaaNa28
import Derived.Test.YtpaifaemkoblcaaNa29
import Derived.Test.YtpaifaemkoblcaaNa30
import Derived.Test.YtpaifaemkoblcaaNa31
import Derived.Test.YtpaifaemkoblcaaNa36
import Derived.Test.YtpaifaemkoblcaaNa37
import Derived.Test.YtpaifaemkoblcaaNa38
import Derived.Test.YtpaifaemkoblcaaNa40
import Derived.Test.YtpaifaemkoblcaaNa39
import Derived.Test.YtpaifaemkoblcaaNa41
import Derived.Test.YtpaifaemkoblcaaNf1
import Derived.Test.YtpaifaemkoblcaaNa17
import Derived.Test.YtpaifaemkoblcaaNa18
import Derived.Test.YtpaifaemkoblcaaNa10
import Derived.Test.YtpaifaemkoblcaaNa12
import Derived.Test.YtpaifaemkoblcaaNa11
import Derived.Test.YtpaifaemkoblcaaNa13
import Derived.Test.YtpaifaemkoblcaaNa14
import Derived.Test.YtpaifaemkoblcaaNa0
import Derived.Test.YtpaifaemkoblcaaNa1
import Derived.Test.YtpaifaemkoblcaaNa2
import Derived.Test.YtpaifaemkoblcaaNa3
import Derived.Test.YtpaifaemkoblcaaNa4
import Derived.Test.YtpaifaemkoblcaaNa5
import Derived.Test.YtpaifaemkoblcaaNa6
import Derived.Test.YtpaifaemkoblcaaNa7
import Derived.Test.YtpaifaemkoblcaaNa8
import Derived.Test.YtpaifaemkoblcaaNa9
import Derived.Test.YtpaifaemkoblcaaProg
import Derived.Test.YtpaifaemkoblcaaRows
set_option linter.unusedVariables false
set_option linter.unusedSimpArgs false
set_option linter.unusedVariables false
set_option linter.unusedSimpArgs false
namespace Go.Fz
open Go.Proofs
set_option maxRecDepth 100000
def resQ (fn : Func) (r : AV) : Exit → Fm → St → Prop := retQ T fn (fun v st' => Eqv (frz st'.h (fun _ => true) 3 v) r)
def foD (j : Nat) : Bool := Nat.beq j 3
def foT (f : FarmD) (hC : Nat → Nat → AV) : St := ⟨[(2, .cells none false []), (1, .cells none false [springsV f, .isl f.nb 3 false hC, looksV f]), (0, .cells none false (farmL f))], 4⟩
set_option maxHeartbeats 16000000 in
theorem fo_mid (f : FarmD) (hnb : f.nb ≤ 8) (N : Nat) (gl : Nat → Nat → AV) (hgl : Below 0 (.isl N 1 false gl)) (b : Nat) (hb : b < f.nb) (v : Int) (r : AV) (hr : Below 0 r)
    (htail : ∀ (hC : Nat → Nat → AV), Below 0 (.isl f.nb 3 false hC) → Eqv (.isl f.nb 3 false hC) (bedsV (f.setN b v)) → ∀ (gg : Nat → AV), AllP (fun p => gg p.1 = p.2) [(1, .isl N 1 false gl), (2, iV (Int.ofNat b)), (3, iV v), (4, .ptr 0 0), (9, .ptr 1 0)] →
      SW Try.prog none (restC 4 (bodyF Try.f42)) (resQ Try.f42 r) ⟨⟨48, gg⟩, []⟩ (foT f hC)) :
    Pure Try.prog 42 [farmV f, .isl N 1 false gl, iV (Int.ofNat b), iV v] r := by
  obtain ⟨O, hO⟩ : ∃ O : Ar, O = std := ⟨_, rfl⟩
  obtain ⟨GC, hGC⟩ : ∃ G, G = flatG 3 (bedC f) f.nb := ⟨_, rfl⟩
  refine pure_of_body tok 3 Try.func42 en42 rfl ⟨farmV_below f, hgl, Below.lit, Below.lit, trivial⟩ hr ?_
  refine SW.seqRun tok hO (by cbv <;> rfl) (by trivial) ?_
  refine SW.seqRun tok hO (by cbv <;> rfl) (by trivial) ?_
  refine SW.seq (SW.runN tok hO 3 (by cbv <;> rfl) (by trivial) ?_)
  refine OpsW.appA tok (by cbv <;> rfl) (append_emptyG (by kernel_rfl) (by rfl) (by omega) (by omega) (fun i k => (bedC_one f i k).2) hGC) ?_
  refine OpsW.run tok hO (by cbv <;> rfl) (by trivial) ?_
  refine SW.seq (SW.runN tok hO 4 (by cbv <;> rfl) (by trivial) ?_)
  refine OpsW.idxSl tok (by cbv <;> rfl) (by kernel_rfl) hb fun q hq => ?_
  refine OpsW.runN tok hO 1 (by cbv <;> rfl) (by trivial) ?_
  refine OpsW.stoI (id := 3) (G := GC) tok (by cbv <;> rfl) (by kernel_rfl) (by rfl) (by rw [hq, hGC, flatG_length]; omega) fun G' hG' => ?_
  have hGe : G' = flatG 3 (bedC (f.setN b v)) f.nb := by
    rw [hG', hGC, hq, show (0 + b * 3).succ = b * 3 + 1 by omega]
    refine flatG_set hb (by omega) ?_ fun i j _ hj hne => ?_
    · show iV (if b = b then v else _) = iV v
      rw [if_pos rfl]
    · match j, hj with
      | 0, _ => rfl
      | 1, _ =>
        have : i ≠ b := fun e => hne ⟨e, rfl⟩
        show iV (if i = b then v else f.notch i) = iV (f.notch i)
        rw [if_neg this]
      | 2, _ => rfl
  have hlX : f.nb * 3 ≤ G'.length := by rw [hGe, flatG_length]; exact Nat.le_refl _
  clear hG' hGC hq
  refine OpsW.run tok hO (by cbv <;> rfl) (by trivial) ?_
  refine SW.freezeZ foD 3 (by rfl) ?_
  obtain ⟨H, hH⟩ : ∃ H : Hp, H = [(3, .cells none false G'), (2, .cells none false []), (1, .cells none false [springsV f, .sl 3 0 f.nb 3 false, looksV f]), (0, .cells none false (farmL f))] := ⟨_, rfl⟩
  have hH3 : H.get 3 = some (.cells none false G') := by rw [hH]; rfl
  have hX := frz_slE (D := foD) (n := f.nb) (sz := 3) (fm := none) (G := G') (h := H) rfl hH3 hlX
  have hCe : Eqv (.isl f.nb 3 false (fun i c => frz H foD 2 (G'.getD (0 + i * 3 + c) .any))) (bedsV (f.setN b v)) := Eqv.isl rfl fun i c hi hc => Eqv.of (by
    rw [hGe]
    exact frz_flat hi hc (by unfold bedC; split <;> rfl))
  have hCb : Below 0 (.isl f.nb 3 false (fun i c => frz H foD 2 (G'.getD (0 + i * 3 + c) .any))) := Below.isl fun i c hi hc => by
    have e : frz H foD 2 (G'.getD (0 + i * 3 + c) .any) = bedC (f.setN b v) i c := by
      rw [hGe]
      exact frz_flat hi hc (by unfold bedC; split <;> rfl)
    rw [e]
    exact (bedC_one _ i c).1
  show SW _ _ _ _ ⟨⟨48, fun i => frz [(3, .cells none false G'), (2, .cells none false []), (1, .cells none false [springsV f, .sl 3 0 f.nb 3 false, looksV f]), (0, .cells none false (farmL f))] foD 3 (_ : AV)⟩, []⟩ ⟨[(2, .cells none false []), (1, .cells none false [springsV f, frz [(3, .cells none false G'), (2, .cells none false []), (1, .cells none false [springsV f, .sl 3 0 f.nb 3 false, looksV f]), (0, .cells none false (farmL f))] foD 3 (.sl 3 0 f.nb 3 false), looksV f]), (0, .cells none false (farmL f))], 4⟩
  rw [← hH, hX]
  exact htail _ hCb hCe _ ⟨rfl, rfl, rfl, rfl, rfl, trivial⟩
def pickN (p : Nat → Bool) (n : Nat) : List Nat := (List.range n).filter p
theorem pickN_succ (p : Nat → Bool) (i : Nat) : pickN p (i + 1) = if p i = true then pickN p i ++ [i] else pickN p i := by
  unfold pickN
  rw [List.range_succ, List.filter_append]
  by_cases h : p i = true
  · rw [if_pos h]; simp [h]
  · rw [if_neg h]; simp [h]
theorem pickN_len (p : Nat → Bool) (i : Nat) : (pickN p i).length ≤ i := by
  have : (pickN p i).length ≤ (List.range i).length := List.length_filter_le _ _
  rwa [List.length_range] at this
set_option maxHeartbeats 32000000 in
theorem fo_loop (f : FarmD) (hnb : f.nb ≤ 8) (N : Nat) (gl : Nat → Nat → AV) (hgl : Below 0 (.isl N 1 false gl)) (hC : Nat → Nat → AV) (hCb : Below 0 (.isl f.nb 3 false hC)) (b : Nat) (v : Int) (A B : Nat → Int) (P : Nat → Bool) (hP : ∀ i, P i = (decide (A i = 1) && decide (¬ B i = 1)))
    (e33a : ∀ i, i < f.nb → Pure Try.prog 33 [farmV f, .isl N 1 false gl, iV (Int.ofNat i)] (iV (A i))) (e33b : ∀ i, i < f.nb → Pure Try.prog 33 [.agg [springsV f, .isl f.nb 3 false hC, looksV f], .isl N 1 false gl, iV (Int.ofNat i)] (iV (B i)))
    (gg : Nat → AV) (h : AllP (fun p => gg p.1 = p.2) [(1, .isl N 1 false gl), (2, iV (Int.ofNat b)), (3, iV v), (4, .ptr 0 0), (9, .ptr 1 0)]) : SW Try.prog none (restC 4 (bodyF Try.f42)) (resQ Try.f42 (lsV (pickN P f.nb))) ⟨⟨48, gg⟩, []⟩ (foT f hC) := by
  obtain ⟨O, hO⟩ : ∃ O : Ar, O = std := ⟨_, rfl⟩
  obtain ⟨g1, g2, g3, g4, g9, _⟩ := h
  simp only at g1 g2 g3 g4 g9
  rw [← updT_self g1, ← updT_self g2, ← updT_self g3, ← updT_self g4, ← updT_self g9]
  have hfx : ∀ a ∈ [springsV f, .isl f.nb 3 false hC, looksV f], Below 0 a := AllB.ok ⟨springsV_below f, hCb, looksV_below f, trivial⟩
  have hC0 : pickN P 0 = [] := rfl
  have hCs := pickN_succ P
  have hCL := pickN_len P
  generalize pickN P = C at hC0 hCs hCL ⊢
  refine (show SW _ _ _ _ _ _ from ?_)
  refine SW.seqRun tok hO (by cbv <;> rfl) (by trivial) ?_
  refine SW.seq ?_
  refine SW.seqRun tok hO (by cbv <;> rfl) (by trivial) ?_
  refine (SW.block (SW.loopR (fun i : Nat => ⟨⟨48, getT [(1, .isl N 1 false gl), (4, .ptr 0 0), (9, .ptr 1 0), (10, slG 4 1 (C i).length), (11, iV (Int.ofNat i))]⟩, []⟩) (fun i => ⟨[(1, .cells none false [springsV f, .isl f.nb 3 false hC, looksV f]), (0, .cells none false (farmL f))] ++ objG 4 1 (intC (lI (C i))) (C i).length, 5⟩) (fun i => f.nb - i) (fun i => i ≤ f.nb) 0 (Nat.zero_le _) (ren1 4 4) ?_ fun i hi => ?_))
  · rw [hC0]
    exact WeakR.up rfl rfl (by simp) (Nat.le_refl _) (.inl rfl) (by show 4 ≤ 5; omega) ⟨RenV.closed hgl, RenV.ptr (by omega), RenV.ptr (by omega), RenV.closed Below.lit, RenV.closed Below.lit, trivial⟩ ⟨⟨by omega, _, rfl, .cells (RenVs.closed hfx), .inr rfl⟩, ⟨by omega, _, rfl, .cells (RenVs.closed (farmL_below f)), .inr rfl⟩, trivial⟩ (fun p hp => by cases hp)
  have hCi := hCs i
  have hCl := hCL i
  have hgo : ∀ (f' : Fm) (st' : St) (ρ : Nat → Nat), i < f.nb → WeakR 4 ρ f' st' ⟨⟨48, getT [(1, .isl N 1 false gl), (4, .ptr 0 0), (9, .ptr 1 0), (10, slG 4 1 (C (i + 1)).length), (11, iV ((i + 1 : Nat) : Int))]⟩, []⟩ ⟨[(1, .cells none false [springsV f, .isl f.nb 3 false hC, looksV f]), (0, .cells none false (farmL f))] ++ objG 4 1 (intC (lI (C (i + 1)))) (C (i + 1)).length, 5⟩ → ∃ x', f.nb - x' < f.nb - i ∧ x' ≤ f.nb ∧ ∃ ρ, WeakR 4 ρ f' st' ⟨⟨48, getT [(1, .isl N 1 false gl), (4, .ptr 0 0), (9, .ptr 1 0), (10, slG 4 1 (C x').length), (11, iV (Int.ofNat x'))]⟩, []⟩ ⟨[(1, .cells none false [springsV f, .isl f.nb 3 false hC, looksV f]), (0, .cells none false (farmL f))] ++ objG 4 1 (intC (lI (C x'))) (C x').length, 5⟩ := fun f' st' ρ h1 h2 => ⟨i + 1, by omega, by omega, ρ, h2⟩
  obtain ⟨L, hL⟩ : ∃ L, C i = L := ⟨_, rfl⟩
  rw [hL] at hCi hCl
  have hsn := lI_snoc L i
  show SW _ _ _ _ ⟨⟨48, getT [(1, .isl N 1 false gl), (4, .ptr 0 0), (9, .ptr 1 0), (10, slG 4 1 (C i).length), (11, iV (Int.ofNat i))]⟩, []⟩ ⟨[(1, .cells none false [springsV f, .isl f.nb 3 false hC, looksV f]), (0, .cells none false (farmL f))] ++ objG 4 1 (intC (lI (C i))) (C i).length, 5⟩
  rw [hL]
  clear hC0 hCs hCL
  cases hm : L.length with
  | zero =>
    rw [hm] at hsn
    show SW _ _ _ _ ⟨⟨48, getT [(1, .isl N 1 false gl), (4, .ptr 0 0), (9, .ptr 1 0), (10, nl3), (11, iV (Int.ofNat i))]⟩, []⟩ ⟨[(1, .cells none false [springsV f, .isl f.nb 3 false hC, looksV f]), (0, .cells none false (farmL f))], 5⟩
    refine SW.seq ?_
    refine SW.seqRun tok hO (by cbv <;> rfl) (by trivial) ?_
    refine SW.condS (by cbv <;> rfl) (fun h => SW.skip ?_) (fun h => SW.exit ?_)
    · have hlt : i < f.nb := by
        have : Int.ofNat i < Int.ofNat f.nb := by subst hO; simpa [std] using h
        exact Int.ofNat_lt.1 this
      have ka := e33a i hlt
      have kb := e33b i hlt
      have hPi := hP i
      obtain ⟨a, ha⟩ : ∃ a, A i = a := ⟨_, rfl⟩
      obtain ⟨c, hc⟩ : ∃ c, B i = c := ⟨_, rfl⟩
      rw [ha] at ka hPi
      rw [hc] at kb hPi
      refine SW.seq (SW.block ?_)
      refine SW.seqRun tok hO (by cbv <;> rfl) (by trivial) ?_
      refine OpsW.callP ka (by cbv <;> rfl) ?_
      refine OpsW.run tok hO (by cbv <;> rfl) (by trivial) ?_
      refine OpsW.splitG (by cbv <;> rfl) (fun h1 => ?_) (fun h1 => ?_)
      · have h1e : a = 1 := by subst hO; simpa [std] using h1
        refine OpsW.run tok hO (by cbv <;> rfl) (by trivial) ?_
        refine OpsW.callP kb (by cbv <;> rfl) ?_
        refine OpsW.run tok hO (by cbv <;> rfl) (by trivial) ?_
        refine SW.condS (by cbv <;> rfl) (fun h2 => ?_) (fun h2 => SW.skip ?_)
        · have h2e : ¬ c = 1 := by subst hO; simpa [std] using h2
          have hp : P i = true := by rw [hPi, decide_eq_true h1e, decide_eq_true h2e]; rfl
          have hCi := hCi
          rw [if_pos hp] at hCi
          refine SW.runN tok hO 3 (by cbv <;> rfl) (by trivial) ?_
          refine OpsW.appNil tok (by cbv <;> rfl) (by rfl) (by kernel_rfl) (by rfl) (by rfl) ?_
          refine OpsW.run tok hO (by cbv <;> rfl) (by trivial) ?_
          refine SW.run tok hO (by cbv <;> rfl) (by trivial) ?_
          refine hgo _ _ (ren1 4 6) hlt ?_
          rw [hCi, List.length_append, List.length_singleton, hm]
          refine WeakR.up rfl rfl (by simp) (Nat.le_refl _) (.inr (by omega)) (by show 4 ≤ 5; omega) ⟨RenV.closed hgl, RenV.ptr (by omega), RenV.ptr (by omega), RenV.sl (by omega), RenV.inc hO (by omega), trivial⟩ ⟨⟨by omega, _, rfl, .cells (RenVs.closed hfx), .inr rfl⟩, ⟨by omega, _, rfl, .cells (RenVs.closed (farmL_below f)), .inr rfl⟩, trivial⟩ (fun p hp => ?_)
          obtain rfl := objG_mem hp
          exact ⟨by omega, _, rfl, .cells (RenVs.of_eq hsn (flatG_below (fun _ _ => Below.lit) _)), .inl rfl⟩
        · have h2e : c = 1 := by subst hO; simpa [std] using h2
          have hp : ¬ P i = true := by rw [hPi, decide_eq_false (show ¬ ¬ c = 1 from fun hh => hh h2e), Bool.and_false]; decide
          have hCi := hCi
          rw [if_neg hp] at hCi
          refine SW.run tok hO (by cbv <;> rfl) (by trivial) ?_
          refine hgo _ _ (ren1 4 4) hlt ?_
          rw [hCi, hm]
          exact WeakR.up rfl rfl (by simp) (Nat.le_refl _) (.inl rfl) (by show 4 ≤ 5; omega) ⟨RenV.closed hgl, RenV.ptr (by omega), RenV.ptr (by omega), RenV.closed Below.lit, RenV.inc hO (by omega), trivial⟩ ⟨⟨by omega, _, rfl, .cells (RenVs.closed hfx), .inr rfl⟩, ⟨by omega, _, rfl, .cells (RenVs.closed (farmL_below f)), .inr rfl⟩, trivial⟩ (fun p hp => by cases hp)
      · have h1e : ¬ a = 1 := by subst hO; simpa [std] using h1
        have hp : ¬ P i = true := by rw [hPi, decide_eq_false h1e, Bool.false_and]; decide
        refine OpsW.run tok hO (by cbv <;> rfl) (by trivial) ?_
        refine SW.cond (t := false) (by cbv <;> rfl) (SW.skip ?_)
        have hCi := hCi
        rw [if_neg hp] at hCi
        refine SW.run tok hO (by cbv <;> rfl) (by trivial) ?_
        refine hgo _ _ (ren1 4 4) hlt ?_
        rw [hCi, hm]
        exact WeakR.up rfl rfl (by simp) (Nat.le_refl _) (.inl rfl) (by show 4 ≤ 5; omega) ⟨RenV.closed hgl, RenV.ptr (by omega), RenV.ptr (by omega), RenV.closed Below.lit, RenV.inc hO (by omega), trivial⟩ ⟨⟨by omega, _, rfl, .cells (RenVs.closed hfx), .inr rfl⟩, ⟨by omega, _, rfl, .cells (RenVs.closed (farmL_below f)), .inr rfl⟩, trivial⟩ (fun p hp => by cases hp)
    · have hz : i = f.nb := by
        have : ¬ Int.ofNat i < Int.ofNat f.nb := by subst hO; simpa [std] using h
        have h2 : ¬ i < f.nb := fun h => this (Int.ofNat_lt.2 h)
        omega
      refine SW.seqRun tok hO (by cbv <;> rfl) (by trivial) ?_
      refine SW.ret ⟨_, _, rfl, rfl, ?_⟩
      rw [← hz, hL]
      rw [List.length_eq_zero_iff.1 hm]
      exact Eqv.nil
  | succ m =>
    obtain ⟨G, hG⟩ : ∃ G, G = flatG 1 (intC (lI L)) (m + 1) := ⟨_, rfl⟩
    rw [hm] at hsn
    show SW _ _ _ _ ⟨⟨48, getT [(1, .isl N 1 false gl), (4, .ptr 0 0), (9, .ptr 1 0), (10, .sl 4 0 (m + 1) 1 false), (11, iV (Int.ofNat i))]⟩, []⟩ ⟨[(1, .cells none false [springsV f, .isl f.nb 3 false hC, looksV f]), (0, .cells none false (farmL f)), (4, .cells none false (flatG 1 (intC (lI L)) (m + 1)))], 5⟩
    rw [← hG]
    refine SW.seq ?_
    refine SW.seqRun tok hO (by cbv <;> rfl) (by trivial) ?_
    refine SW.condS (by cbv <;> rfl) (fun h => SW.skip ?_) (fun h => SW.exit ?_)
    · have hlt : i < f.nb := by
        have : Int.ofNat i < Int.ofNat f.nb := by subst hO; simpa [std] using h
        exact Int.ofNat_lt.1 this
      have ka := e33a i hlt
      have kb := e33b i hlt
      have hPi := hP i
      obtain ⟨a, ha⟩ : ∃ a, A i = a := ⟨_, rfl⟩
      obtain ⟨c, hc⟩ : ∃ c, B i = c := ⟨_, rfl⟩
      rw [ha] at ka hPi
      rw [hc] at kb hPi
      refine SW.seq (SW.block ?_)
      refine SW.seqRun tok hO (by cbv <;> rfl) (by trivial) ?_
      refine OpsW.callP ka (by cbv <;> rfl) ?_
      refine OpsW.run tok hO (by cbv <;> rfl) (by trivial) ?_
      refine OpsW.splitG (by cbv <;> rfl) (fun h1 => ?_) (fun h1 => ?_)
      · have h1e : a = 1 := by subst hO; simpa [std] using h1
        refine OpsW.run tok hO (by cbv <;> rfl) (by trivial) ?_
        refine OpsW.callP kb (by cbv <;> rfl) ?_
        refine OpsW.run tok hO (by cbv <;> rfl) (by trivial) ?_
        refine SW.condS (by cbv <;> rfl) (fun h2 => ?_) (fun h2 => SW.skip ?_)
        · have h2e : ¬ c = 1 := by subst hO; simpa [std] using h2
          have hp : P i = true := by rw [hPi, decide_eq_true h1e, decide_eq_true h2e]; rfl
          have hCi := hCi
          rw [if_pos hp] at hCi
          refine SW.runN tok hO 3 (by cbv <;> rfl) (by trivial) ?_
          refine OpsW.appOne (g := intC (lI L)) tok (by cbv <;> rfl) (by rfl) (by rfl) hG (by kernel_rfl) (by rfl) (by rfl) (by omega) fun G' hG' => ?_
          refine OpsW.run tok hO (by cbv <;> rfl) (by trivial) ?_
          refine SW.run tok hO (by cbv <;> rfl) (by trivial) ?_
          refine hgo _ _ (ren1 4 6) hlt ?_
          rw [hCi, List.length_append, List.length_singleton, hm]
          refine WeakR.up rfl rfl (by simp) (Nat.le_refl _) (.inr (by omega)) (by show 4 ≤ 5; omega) ⟨RenV.closed hgl, RenV.ptr (by omega), RenV.ptr (by omega), RenV.sl (by omega), RenV.inc hO (by omega), trivial⟩ ⟨⟨by omega, _, rfl, .cells (RenVs.closed hfx), .inr rfl⟩, ⟨by omega, _, rfl, .cells (RenVs.closed (farmL_below f)), .inr rfl⟩, trivial⟩ (fun p hp => ?_)
          obtain rfl := objG_mem hp
          exact ⟨by omega, _, rfl, .cells (RenVs.of_eq (hG'.trans hsn) (flatG_below (fun _ _ => Below.lit) _)), .inl rfl⟩
        · have h2e : c = 1 := by subst hO; simpa [std] using h2
          have hp : ¬ P i = true := by rw [hPi, decide_eq_false (show ¬ ¬ c = 1 from fun hh => hh h2e), Bool.and_false]; decide
          have hCi := hCi
          rw [if_neg hp] at hCi
          refine SW.run tok hO (by cbv <;> rfl) (by trivial) ?_
          refine hgo _ _ (ren1 4 4) hlt ?_
          rw [hCi, hm]
          refine WeakR.up rfl rfl (by simp) (Nat.le_refl _) (.inl rfl) (by show 4 ≤ 5; omega) ⟨RenV.closed hgl, RenV.ptr (by omega), RenV.ptr (by omega), RenV.sl (by omega), RenV.inc hO (by omega), trivial⟩ ⟨⟨by omega, _, rfl, .cells (RenVs.closed hfx), .inr rfl⟩, ⟨by omega, _, rfl, .cells (RenVs.closed (farmL_below f)), .inr rfl⟩, trivial⟩ (fun p hp => ?_)
          obtain rfl := objG_mem hp
          exact ⟨by omega, _, rfl, .cells (RenVs.of_eq hG (flatG_below (fun _ _ => Below.lit) _)), .inl rfl⟩
      · have h1e : ¬ a = 1 := by subst hO; simpa [std] using h1
        have hp : ¬ P i = true := by rw [hPi, decide_eq_false h1e, Bool.false_and]; decide
        refine OpsW.run tok hO (by cbv <;> rfl) (by trivial) ?_
        refine SW.cond (t := false) (by cbv <;> rfl) (SW.skip ?_)
        have hCi := hCi
        rw [if_neg hp] at hCi
        refine SW.run tok hO (by cbv <;> rfl) (by trivial) ?_
        refine hgo _ _ (ren1 4 4) hlt ?_
        rw [hCi, hm]
        refine WeakR.up rfl rfl (by simp) (Nat.le_refl _) (.inl rfl) (by show 4 ≤ 5; omega) ⟨RenV.closed hgl, RenV.ptr (by omega), RenV.ptr (by omega), RenV.sl (by omega), RenV.inc hO (by omega), trivial⟩ ⟨⟨by omega, _, rfl, .cells (RenVs.closed hfx), .inr rfl⟩, ⟨by omega, _, rfl, .cells (RenVs.closed (farmL_below f)), .inr rfl⟩, trivial⟩ (fun p hp => ?_)
        obtain rfl := objG_mem hp
        exact ⟨by omega, _, rfl, .cells (RenVs.of_eq hG (flatG_below (fun _ _ => Below.lit) _)), .inl rfl⟩
    · have hz : i = f.nb := by
        have : ¬ Int.ofNat i < Int.ofNat f.nb := by subst hO; simpa [std] using h
        have h2 : ¬ i < f.nb := fun h => this (Int.ofNat_lt.2 h)
        omega
      refine SW.seqRun tok hO (by cbv <;> rfl) (by trivial) ?_
      refine SW.ret ⟨_, _, rfl, rfl, ?_⟩
      rw [← hz, hL]
      show Eqv (frz _ _ 3 (.sl 4 0 (m + 1) 1 false)) (.isl L.length 1 false _)
      rw [frz_slE (fm := none) (G := G) rfl rfl (by rw [hG, flatG_length]; exact Nat.le_refl _), hm]
      refine Eqv.isl rfl fun j k hj hk => Eqv.of ?_
      rw [hG, frz_flat hj hk rfl]
      rfl
theorem forgotten42_core {f : FarmD} (g : f.Good) {L : List (List Int)} (hL : L.length < 100000) (hch : ∀ l ∈ L, f.isCh l) (b : Nat) (hb : b < f.nb) {v : Int} (v0 : 0 ≤ v) (v1 : v ≤ 9) :
    Pure Try.prog 42 [farmV f, llV L, iV (b : Int), iV v] (lsV (pickN (fun i => decide (f.vrdL L i = 1) && decide (¬ (f.setN b v).vrdL L i = 1)) f.nb)) := by
  have g2 : (f.setN b v).Good := by
    refine ⟨g.nb, g.ns, g.nl, g.pos, fun i hi => ?_, g.spring, g.look⟩
    obtain ⟨h1, h2, h3⟩ := g.bed i hi
    refine ⟨h1, ?_, h3⟩
    show 0 ≤ (if i = b then v else f.notch i) ∧ (if i = b then v else f.notch i) ≤ 9
    split <;> omega
  refine fo_mid f g.nb L.length (gT L) (llV_below L) b hb v _ (lsV_below _) fun hC hCb hCe gg h => ?_
  refine fo_loop f g.nb L.length (gT L) (llV_below L) hC hCb b v (f.vrdL L) ((f.setN b v).vrdL L) _ (fun i => rfl) (fun i hi => fed33_ok g hL hch hi) (fun i hi => ?_) gg h
  exact Pure.eqv (fed33_ok g2 hL hch hi) (.cons (Eqv.agg (.cons (Eqv.refl _) (.cons hCe (.cons (Eqv.refl _) .nil)))) (.cons (Eqv.refl _) (.cons (Eqv.refl _) .nil)))
end Go.Fz
set_option linter.unusedVariables false
set_option linter.unusedSimpArgs false
namespace Go.Fz
open Go.Proofs
set_option maxRecDepth 100000
end Go.Fz
set_option linter.unusedVariables false
set_option linter.unusedSimpArgs false
namespace Go.Fz
open Go.Proofs
set_option maxRecDepth 100000
end Go.Fz
set_option linter.unusedVariables false
namespace Go.Fz
open Go.Proofs
set_option maxRecDepth 100000
end Go.Fz
set_option linter.unusedVariables false
namespace Go.Fz
open Go.Proofs
set_option maxRecDepth 100000
end Go.Fz
set_option linter.unusedVariables false
namespace Go.Fz
open Go.Proofs
set_option maxRecDepth 100000
section
variable (f : FarmD) (b : Int) (ov : Bool) (lo hi : Int)
end
section
variable {f : FarmD} {b : Int} {ov : Bool} {lo hi : Int}
end
end Go.Fz
set_option linter.unusedVariables false
namespace Go.Fz
open Go.Proofs
set_option maxRecDepth 100000
end Go.Fz
set_option linter.unusedVariables false
namespace Go.Fz
open Go.Proofs
set_option maxRecDepth 100000
theorem small_of_thin {f : FarmD} (h : f.thinB = true) : f.small ∧ f.nb ≤ 10 ∧ f.ns ≤ 6 ∧ f.nl ≤ 7 := by
  simp only [FarmD.thinB, Bool.and_eq_true, decide_eq_true_eq] at h
  exact ⟨⟨by omega, by omega, by omega⟩, by omega, by omega, by omega⟩
end Go.Fz
set_option linter.unusedVariables false
set_option linter.unusedSimpArgs false
namespace Go.Fz
open Go.Proofs
set_option maxRecDepth 100000
end Go.Fz
set_option linter.unusedVariables false
namespace Go.Fz
open Go.Proofs
set_option maxRecDepth 100000
section
variable (f : FarmD) (k : Nat) (lo hi : Int)
end
end Go.Fz
set_option linter.unusedVariables false
set_option linter.unusedSimpArgs false
namespace Go.Fz
open Go.Proofs
set_option maxRecDepth 100000
end Go.Fz
set_option linter.unusedVariables false
namespace Go.Fz
open Go.Proofs
set_option maxRecDepth 100000
theorem setN_playS (f : FarmD) (k : Nat) (v : Int) (fl : Nat → Int) : ∀ s, playS (f.setN k v) fl s = playS f fl s
  | 0 => rfl
  | s + 1 => by
    show stepS (f.setN k v) fl s (playS (f.setN k v) fl s) = stepS f fl s (playS f fl s)
    rw [setN_playS f k v fl s]; rfl
theorem setN_playB (f : FarmD) (k : Nat) (v : Int) (K fl : Nat → Int) : ∀ i, playB (f.setN k v) K fl i = playB f K fl i
  | 0 => setN_playS f k v fl f.ns
  | i + 1 => by
    show stepB (f.setN k v) K i (playB (f.setN k v) K fl i) = stepB f K i (playB f K fl i)
    rw [setN_playB f k v K fl i]; rfl
theorem setN_k0 (f : FarmD) (k : Nat) (hk : k < f.nb) (v : Int) : setK (f.k0 f.nb) k v = (f.setN k v).k0 (f.setN k v).nb := by
  funext i
  show (if i = k then v else if i < f.nb then f.notch i else 0) = (if i < f.nb then (if i = k then v else f.notch i) else 0)
  by_cases h : i = k
  · rw [if_pos h, if_pos (by omega), if_pos h]
  · rw [if_neg h, if_neg h]
theorem setN_play (f : FarmD) (k : Nat) (hk : k < f.nb) (v : Int) (fl : Nat → Int) : playF f (setK (f.k0 f.nb) k v) fl = (f.setN k v).water fl := by
  rw [setN_k0 f k hk v]
  exact (setN_playB f k v _ fl f.nb).symm
end Go.Fz
set_option linter.unusedVariables false
namespace Go.Fz
open Go.Proofs
set_option maxRecDepth 100000
end Go.Fz
set_option linter.unusedVariables false
namespace Go.Fz
open Go.Proofs
set_option maxRecDepth 100000
theorem isBed_lit {f : FarmD} (hs : f.small) (w : Int) {b : Bool} (h : f.hasB w = b) : Pure Try.prog 32 [farmV f, iV w] (.lit (.bool b)) := by
  have e := isBed_ok f w hs
  rw [h] at e
  exact e.res (Eqv.litS b)
end Go.Fz
set_option linter.unusedVariables false
namespace Go.Fz
open Go.Proofs
set_option maxRecDepth 100000
theorem vrdL_one {f : FarmD} {L : List (List Int)} {i : Nat} : f.vrdL L i = 1 ↔ ∀ l ∈ L, f.fedOk i l = true := by
  unfold FarmD.vrdL
  have h : L.any (fun l => !f.fedOk i l) = false ↔ ∀ l ∈ L, f.fedOk i l = true := by
    rw [List.any_eq_false]
    exact ⟨fun h l hl => by simpa using h l hl, fun h l hl => by rw [h l hl]; decide⟩
  by_cases h1 : L.any (fun l => !f.fedOk i l) = false
  · rw [if_pos h1]; exact ⟨fun _ => h.1 h1, fun _ => rfl⟩
  · rw [if_neg h1]
    refine ⟨fun h2 => ?_, fun h2 => absurd (h.2 h2) h1⟩
    split at h2 <;> cases h2
theorem fg_ref {f : FarmD} (hc : f.check = 0) (b : Nat) (hb : b < f.nb) (v : Int) : f.fgN (setK (f.k0 f.nb) b v) f.nb = pickN (fun i => decide (f.vrdL f.refL i = 1) && decide (¬ (f.setN b v).vrdL f.refL i = 1)) f.nb := by
  unfold FarmD.fgN pickN
  refine List.filter_congr fun i hi => ?_
  have hin := List.mem_range.1 hi
  have hm : ∀ l, l ∈ f.refL ↔ l ∈ f.trs := fun l => FarmD.mem_refL hc
  have hfed : ∀ l, (f.setN b v).fedOk i l = decide (f.need i ≤ playF f (setK (f.k0 f.nb) b v) (zL l) i 1) := fun l => by
    rw [setN_play f b hb v]; rfl
  rw [Bool.eq_iff_iff]
  unfold FarmD.fgP
  simp only [Bool.and_eq_true, decide_eq_true_eq, vrdL_one]
  constructor
  · rintro ⟨h1, h2⟩
    have hall : ∀ l ∈ f.trs, f.fedOk i l = true := fun l hl => List.all_eq_true.1 h2 l hl
    refine ⟨fun l hl => hall l ((hm l).1 hl), fun h3 => ?_⟩
    unfold FarmD.dryN at h1
    rw [Bool.and_eq_true, List.any_eq_true] at h1
    obtain ⟨_, j, hj, hd⟩ := h1
    have hl := getD_mem (List.mem_range.1 hj)
    generalize f.trs.getD j [] = l at hl hd
    have h4 := h3 l ((hm l).2 hl)
    rw [hfed] at h4
    unfold FarmD.dr at hd
    rw [h4] at hd
    simp at hd
  · rintro ⟨h1, h2⟩
    have hall : ∀ l ∈ f.trs, f.fedOk i l = true := fun l hl => h1 l ((hm l).2 hl)
    refine ⟨?_, List.all_eq_true.2 fun l hl => hall l hl⟩
    have h3 : ∃ l ∈ f.trs, ¬ (f.setN b v).fedOk i l = true := Classical.byContradiction fun hno => h2 fun l hl => Classical.byContradiction fun hx => hno ⟨l, (hm l).1 hl, hx⟩
    obtain ⟨l, hl, hx⟩ := h3
    unfold FarmD.dryN
    rw [Bool.and_eq_true, List.any_eq_true]
    refine ⟨decide_eq_true hin, ?_⟩
    obtain ⟨j, hj, he⟩ := List.getElem_of_mem hl
    refine ⟨j, List.mem_range.2 hj, ?_⟩
    have hgj : f.trs.getD j [] = l := by rw [List.getD_eq_getElem?_getD, List.getElem?_eq_getElem hj]; exact he
    rw [hgj]
    rw [hfed] at hx
    unfold FarmD.dr
    have hne : eqW (playF f (f.k0 f.nb) (zL l)) (playF f (setK (f.k0 f.nb) b v) (zL l)) = false := by
      cases hq : eqW (playF f (f.k0 f.nb) (zL l)) (playF f (setK (f.k0 f.nb) b v) (zL l)) with
      | false => rfl
      | true =>
        exfalso
        have hg := good_of_check hc
        have h5 := eqW_one hq (b := i) (by have := hg.nb; omega)
        rw [h5] at hx
        exact hx (hall l hl)
    rw [hne]
    simpa using hx
theorem ntch_in (v : Int) {t : Bool} (h : ntchB v = t) : Pure Try.prog 40 [iV v, iV 0, iV 9] (.lit (.bool t)) := by
  have e := in_ok v 0 9
  have hb : Go.Fz.inB v 0 9 = ntchB v := by
    unfold Go.Fz.inB ntchB
    rfl
  rw [hb, h] at e
  exact e.res (Eqv.litS t)
theorem bedForgets_ok (haw : Pure Try.prog 19 [] (.lit (.bool true))) (f : FarmD) (w v : Int) : Pure Try.prog 6 [farmV f, iV w, iV v] (.lit (.bool true)) := by
  have e18 := thin_ok f
  cases hT : f.thinB with
  | false => rw [hT] at e18; exact bf_not haw f w v e18
  | true =>
    rw [hT] at e18
    obtain ⟨hs, h1, h2, h3⟩ := small_of_thin hT
    have e21 := farm_ok f h1 h2 h3
    have e39 := forgotten39 hs w v
    have e31 := sure_ok hs
    have e24 := fault24_ok f hs
    rw [← f.check_eq] at e24
    by_cases hc : f.check = 0
    · rw [hc] at e24
      have g := good_of_check hc
      obtain ⟨k1, k2⟩ := bndE_of hc
      cases hB : f.hasB w with
      | false =>
        have hF : f.fgE w v = 2 := by unfold FarmD.fgE FarmD.opnE; rw [if_neg (by rw [hc]; decide), hB, Bool.false_and, if_pos rfl]
        rw [hF, show f.fgV w v = nl3 by unfold FarmD.fgV; rw [hF]; rfl] at e39
        exact bf_bed haw f w v _ _ e18 e21 e39 e31 e24 (isBed_lit hs w hB)
      | true =>
        cases hN : ntchB v with
        | false =>
          have hF : f.fgE w v = 2 := by unfold FarmD.fgE FarmD.opnE; rw [if_neg (by rw [hc]; decide), hN, Bool.and_false, if_pos rfl]
          rw [hF, show f.fgV w v = nl3 by unfold FarmD.fgV; rw [hF]; rfl] at e39
          exact bf_ntch haw f w v _ _ e18 e21 e39 e31 e24 (isBed_lit hs w hB) (ntch_in v hN)
        | true =>
          have hF : f.fgE w v = f.bndE := by unfold FarmD.fgE; rw [hB, hN]; rfl
          by_cases ht : f.trs = []
          · rw [hF, k2 ht, show f.fgV w v = nl3 by unfold FarmD.fgV; rw [hF, k2 ht]; rfl] at e39
            rw [k2 ht] at e31
            exact bf_none haw f w v _ e18 e21 e39 e31 e24 (isBed_lit hs w hB) (ntch_in v hN)
          · obtain ⟨b, rfl⟩ : ∃ b : Nat, w = (b : Int) := ⟨w.toNat, by simp only [FarmD.hasB, Bool.and_eq_true, decide_eq_true_eq] at hB; omega⟩
            have hb : b < f.nb := by simp only [FarmD.hasB, Bool.and_eq_true, decide_eq_true_eq] at hB; omega
            have hv : 0 ≤ v ∧ v ≤ 9 := by simpa [ntchB] using hN
            rw [hF, k1 ht, show f.fgV (b : Int) v = lsV (f.fgN (setK (f.k0 f.nb) b v) f.nb) by unfold FarmD.fgV; rw [hF, k1 ht]; exact nI_val _] at e39
            rw [k1 ht, show f.sureV = llV f.refL by unfold FarmD.sureV; rw [k1 ht]; rfl] at e31
            have e42 := forgotten42_core g (L := f.refL) (by have := FarmD.refL_len hc; omega) (fun l hl => f.trs_ch ((FarmD.mem_refL hc).1 hl)) b hb hv.1 hv.2
            rw [fg_ref hc b hb v] at e39
            have hlen := pickN_len (fun i => decide (f.vrdL f.refL i = 1) && decide (¬ (f.setN b v).vrdL f.refL i = 1)) f.nb
            generalize pickN (fun i => decide (f.vrdL f.refL i = 1) && decide (¬ (f.setN b v).vrdL f.refL i = 1)) f.nb = l at e39 e42 hlen
            have hnb := g.nb
            have e41 : Pure Try.prog 41 [lsV l, lsV l] (.lit (.bool true)) := by
              have h := ints_ok l.length l.length false false (lI l) (lI l) (by omega) (by omega)
              rw [show eqL l.length l.length (lI l) (lI l) = true from eqL_self fun _ _ => rfl] at h
              exact h.res (Eqv.litS true)
            exact bf_some haw f _ v _ _ e18 e21 e39 e31 e24 (isBed_lit hs _ hB) (ntch_in v hN) e42 e41
    · have hE : f.bndE = f.check := by unfold FarmD.bndE FarmD.opnE; rw [if_pos hc]
      have hF : f.fgE w v = f.check := by unfold FarmD.fgE FarmD.opnE; rw [if_pos hc]
      rw [hE] at e31
      rw [hF, show f.fgV w v = nl3 by unfold FarmD.fgV; rw [hF, if_neg hc]] at e39
      exact bf_bad haw f w v f.check hc _ e18 e21 e39 e31 e24
end Go.Fz
