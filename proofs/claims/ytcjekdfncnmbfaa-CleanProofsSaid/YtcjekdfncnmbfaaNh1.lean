/- Own work of the verifier of watercress: FzRf6, FzRf7, FzRf8, FzPr1, FzPr2. -/
import Derived.Below
import Derived.CallsIn
import Derived.Carry
import Derived.ChangeKeysEq
import Derived.ChangeSame
import Derived.Deep.Slices
import Derived.DeepKeys4
import Derived.JoinedCond
import Derived.Laws.AppendOwn
import Derived.Laws.Cells
import Derived.Laws.CopyRow
import Derived.Laws.Cover3
import Derived.Laws.Entries
import Derived.Laws.NewFold
import Derived.Laws.Sem
import Derived.Laws.Small
import Derived.Laws.StructEq
import Derived.Laws.Tables
import Derived.Laws.World
import Derived.Lib.SmallJoins
import Derived.Maps.Keyed
import Derived.Maps.RangeRun
import Derived.OpenShut
import Derived.OrdersHeld
import Derived.OrdersIn
import Derived.ProofKit
import Derived.RangeFuncLeaves
import Derived.RangeFuncRecord
import Derived.Shelf.Abstract
import Derived.WalkKit
import Derived.WideKeyArgs
import Derived.Test.YtcjekdfncnmbfaaNh0
import Derived.Test.YtcjekdfncnmbfaaNa10
import Derived.Test.YtcjekdfncnmbfaaNa11
import Derived.Test.YtcjekdfncnmbfaaNa13
import Derived.Test.YtcjekdfncnmbfaaNa16
import Derived.Test.YtcjekdfncnmbfaaNa14
import Derived.Test.YtcjekdfncnmbfaaNa18
import Derived.Test.YtcjekdfncnmbfaaNa15
import Derived.Test.YtcjekdfncnmbfaaNa19
import Derived.Test.YtcjekdfncnmbfaaNa20
import Derived.Test.YtcjekdfncnmbfaaNa21
import Derived.Test.YtcjekdfncnmbfaaNa22
import Derived.Test.YtcjekdfncnmbfaaNa12
import Derived.Test.YtcjekdfncnmbfaaNa17
import Derived.Test.YtcjekdfncnmbfaaNa0
import Derived.Test.YtcjekdfncnmbfaaNa1
import Derived.Test.YtcjekdfncnmbfaaNa2
import Derived.Test.YtcjekdfncnmbfaaNa3
import Derived.Test.YtcjekdfncnmbfaaNa4
import Derived.Test.YtcjekdfncnmbfaaNa5
import Derived.Test.YtcjekdfncnmbfaaNa6
import Derived.Test.YtcjekdfncnmbfaaNa7
import Derived.Test.YtcjekdfncnmbfaaNa8
import Derived.Test.YtcjekdfncnmbfaaNa9
import Derived.Test.YtcjekdfncnmbfaaProg
import Derived.Test.YtcjekdfncnmbfaaRows
set_option linter.unusedVariables false
set_option linter.unusedSimpArgs false
set_option linter.unusedVariables false
namespace Go.Fz
open Go.Proofs
set_option maxRecDepth 100000
set_option maxHeartbeats 8000000 in
theorem can_ok {y : YardD} (hc : y.check = 0) {b : Int} (b0 : 0 ≤ b) (b1 : b < 64) : Pure Try.prog 37 [yardV y, iV b] (.sb (y.canR b)) := by
  obtain ⟨O, hO⟩ : ∃ O : Ar, O = std := ⟨_, rfl⟩
  obtain ⟨hf, _, l9, _⟩ := y.fit_of_check hc
  have hn := hf.nb
  have e48 := many_ok y b (by omega)
  have e46 := fun i : Nat => nth_ok y hf b (Int.ofNat i) b0 b1
  have e67 := fun i : Nat => fits_ok y l9 (by omega) false (y.nF b (Int.ofNat i))
  have hM : mnB y.blo y.bhi b y.nb ≤ 2000 := by
    obtain ⟨h1, h2⟩ := many_small hc b
    rw [h1]; exact h2
  have hyes : ∀ i : Nat, (i : Int) < mnB y.blo y.bhi b y.nb → y.fitB (y.nF b (Int.ofNat i)) = true → y.canR b = true := fun i h1 h2 => canR_iff.2 ⟨i, h1, h2⟩
  have hno : (∀ i : Nat, (i : Int) < mnB y.blo y.bhi b y.nb → y.fitB (y.nF b (Int.ofNat i)) = false) → y.canR b = false := fun h => by
    cases hq : y.canR b with
    | false => rfl
    | true =>
      obtain ⟨i, h1, h2⟩ := canR_iff.1 hq
      have h3 : y.fitB (y.nF b (Int.ofNat i)) = true := h2
      rw [h i h1] at h3; cases h3
  generalize y.canR b = Q at hyes hno ⊢
  generalize mnB y.blo y.bhi b y.nb = M at e48 hM hyes hno
  obtain ⟨F, hF⟩ : ∃ F : Nat → Nat → Int, F = fun i => y.nF b (Int.ofNat i) := ⟨_, rfl⟩
  obtain ⟨P, hP⟩ : ∃ P : Nat → Bool, P = fun i => y.fitB (y.nF b (Int.ofNat i)) := ⟨_, rfl⟩
  have e46 : ∀ i : Nat, Pure Try.prog 46 [yardV y, iV b, iV (Int.ofNat i)] (intsV y.nb false (F i)) := fun i => by rw [hF]; exact e46 i
  have e67 : ∀ i : Nat, Pure Try.prog 67 [yardV y, intsV y.nb false (F i)] (.sb (P i)) := fun i => by rw [hF, hP]; exact e67 i
  have hyes : ∀ i : Nat, (i : Int) < M → P i = true → Q = true := fun i h1 h2 => by rw [hP] at h2; exact hyes i h1 h2
  have hno : (∀ i : Nat, (i : Int) < M → P i = false) → Q = false := fun h => hno fun i h1 => by have := h i h1; rw [hP] at this; exact this
  clear hF hP
  refine pure_of_body tok 3 Try.func37 en37 rfl ⟨yardV_below y, Below.lit, trivial⟩ Below.sb ?_
  refine SW.seqRun tok hO (by cbv <;> rfl) (by trivial) ?_
  refine SW.seq ?_
  refine SW.seqRun tok hO (by cbv <;> rfl) (by trivial) ?_
  refine (SW.block (SW.loopF (fun i : Nat => ⟨⟨19, getT [(1, iV b), (2, .ptr 0 0), (5, iV i)]⟩, []⟩) (fun _ => ⟨[(0, .cells none false (yardC y))], 1⟩) (fun i => (M - i).toNat) (fun i => ∀ j : Nat, j < i → (j : Int) < M → P j = false) 0
    (fun _ => rfl) (fun j hj => absurd hj (Nat.not_lt_zero _)) (Weak.by rfl rfl (by simp) (Nat.le_refl _) (Nat.le_refl _) ⟨⟨rfl, .inl rfl⟩, ⟨rfl, .inl rfl⟩, ⟨rfl, .inl rfl⟩, trivial⟩ ⟨⟨rfl, by omega, .inl rfl⟩, trivial⟩) fun i hi => ?_))
  refine SW.seq ?_
  refine SW.seqRun tok hO (by cbv <;> rfl) (by trivial) ?_
  refine OpsW.callP e48 (by cbv <;> rfl) ?_
  refine OpsW.run tok hO (by cbv <;> rfl) (by trivial) ?_
  refine SW.condS (by cbv <;> rfl) (fun h => SW.skip ?_) (fun h => SW.exit ?_)
  · have hlt : (i : Int) < M := by subst hO; simpa [std] using h
    have e46 := e46 i
    have e67 := e67 i
    obtain ⟨B, hB⟩ : ∃ B, P i = B := ⟨_, rfl⟩
    rw [hB] at e67
    refine SW.seq (SW.block ?_)
    refine SW.seqRunD tok mixed hO (by kernel_rfl) (by cbv <;> rfl) (by trivial) ?_
    refine AnyE.callP e46 (by cbv <;> rfl) (by cbv <;> rfl) ?_
    refine AnyE.run tok hO (by kernel_rfl) (by cbv <;> rfl) (by trivial) ?_
    refine AnyE.callP e67 (by cbv <;> rfl) (by cbv <;> rfl) ?_
    refine AnyE.done (by kernel_rfl) ?_
    refine SW.condS (by cbv <;> rfl) (fun h2 => ?_) (fun h2 => SW.skip ?_)
    · refine SW.seqRun tok hO (by cbv <;> rfl) (by trivial) ?_
      refine SW.ret ⟨_, _, rfl, rfl, Eqv.bool (Eq.symm ?_)⟩
      exact hyes i hlt (hB.trans h2)
    · refine SW.run tok hO (by cbv <;> rfl) (by trivial) ?_
      refine ⟨i + 1, by omega, fun j hj hjm => ?_, Weak.by rfl rfl (by simp) (Nat.le_refl _) (Nat.le_refl _) ⟨⟨rfl, .inl rfl⟩, ⟨rfl, .inl rfl⟩, ⟨inc_ok hO (by omega), .inl rfl⟩, trivial⟩ ⟨⟨rfl, by omega, .inl rfl⟩, trivial⟩⟩
      by_cases e : j = i
      · rw [e]; exact hB.trans h2
      · exact hi j (by omega) hjm
  · have hge : ¬ (i : Int) < M := by subst hO; simpa [std] using h
    refine SW.seqRun tok hO (by cbv <;> rfl) (by trivial) ?_
    refine SW.ret ⟨_, _, rfl, rfl, Eqv.bool (Eq.symm ?_)⟩
    exact hno fun j hj => hi j (by omega) hj
theorem all6_fin : ∀ n : Fin 7, selL (allI n.1) 6 = List.range n.1 ∧ 0 ≤ allI n.1 ∧ allI n.1 < 2 ^ n.1 ∧ allI n.1 = 2 ^ n.1 - 1 := by decide +kernel
theorem can_bits {y : YardD} (hc : y.check = 0) {b : Int} (b0 : 0 ≤ b) (b1 : b < 2 ^ y.nb) : Pure Try.prog 37 [yardV y, iV b] (.sb (y.canL (selL b 6))) := by
  have h6 := pow_le6 (y.fit_of_check hc).1.nb
  have e := can_ok hc b0 (by omega)
  rw [canR_eq hc b0 b1] at e
  exact e
def YardD.fewR (y : YardD) : Int := if y.canH 1 then 1 else if y.canH 2 then 2 else if y.canH 3 then 3 else 0
set_option maxHeartbeats 8000000 in
theorem refFew_ok {y : YardD} (hc : y.check = 0) : Pure Try.prog 38 [yardV y] (iV y.fewR) := by
  obtain ⟨O, hO⟩ : ∃ O : Ar, O = std := ⟨_, rfl⟩
  have hn := (y.fit_of_check hc).1.nb
  obtain ⟨a1, a2, a3, _⟩ := all6_fin ⟨y.nb, by omega⟩
  have e47 : ∀ k : Nat, Pure Try.prog 47 [.agg [iV y.last, iV (Int.ofNat k), bedsV y, clmsV y]] (iV (allI y.nb)) := fun k => all_ok (y.withH k) (show y.nb < 1000000 by omega)
  have e37 : ∀ k : Nat, 1 ≤ k → k ≤ 3 → Pure Try.prog 37 [.agg [iV y.last, iV (Int.ofNat k), bedsV y, clmsV y], iV (allI y.nb)] (.sb (y.canH k)) := fun k k1 k3 => by
    have h := can_bits (y := y.withH k) (withH_check hc (by omega) (by omega)) a2 a3
    rw [a1] at h
    exact h
  have hyes : ∀ i : Nat, 1 ≤ i → i ≤ 3 → (∀ j : Nat, 1 ≤ j → j < i → y.canH j = false) → y.canH i = true → y.fewR = i := fun i i1 i3 h h2 => by
    unfold YardD.fewR
    have hc3 : i = 1 ∨ i = 2 ∨ i = 3 := by omega
    rcases hc3 with rfl | rfl | rfl
    · rw [if_pos (show y.canH 1 = true from h2)]; rfl
    · rw [if_neg (by rw [show y.canH 1 = false from h 1 (by omega) (by omega)]; simp), if_pos (show y.canH 2 = true from h2)]; rfl
    · rw [if_neg (by rw [show y.canH 1 = false from h 1 (by omega) (by omega)]; simp), if_neg (by rw [show y.canH 2 = false from h 2 (by omega) (by omega)]; simp), if_pos (show y.canH 3 = true from h2)]; rfl
  have hno : (∀ j : Nat, 1 ≤ j → j < 4 → y.canH j = false) → y.fewR = 0 := fun h => by
    unfold YardD.fewR
    rw [if_neg (by rw [show y.canH 1 = false from h 1 (by omega) (by omega)]; simp), if_neg (by rw [show y.canH 2 = false from h 2 (by omega) (by omega)]; simp), if_neg (by rw [show y.canH 3 = false from h 3 (by omega) (by omega)]; simp)]
  generalize y.fewR = R at hyes hno ⊢
  generalize allI y.nb = A at e47 e37
  obtain ⟨H, hH⟩ : ∃ H : Nat → Bool, H = fun k : Nat => y.canH (k : Int) := ⟨_, rfl⟩
  have e37 : ∀ k : Nat, 1 ≤ k → k ≤ 3 → Pure Try.prog 37 [.agg [iV y.last, iV (Int.ofNat k), bedsV y, clmsV y], iV A] (.sb (H k)) := fun k k1 k3 => by rw [hH]; exact e37 k k1 k3
  have hyes : ∀ i : Nat, 1 ≤ i → i ≤ 3 → (∀ j : Nat, 1 ≤ j → j < i → H j = false) → H i = true → R = i := fun i i1 i3 => by rw [hH]; exact hyes i i1 i3
  have hno : (∀ j : Nat, 1 ≤ j → j < 4 → H j = false) → R = 0 := by rw [hH]; exact hno
  clear hH
  have hb0 : ObjBelow 1 (.cells none false (yardC y)) := ⟨AllB.ok ⟨Below.lit, Below.lit, Below.up (m := 0) (bedsV_below y), Below.up (m := 0) (clmsV_below y), trivial⟩, fun f h => by cases h⟩
  refine pure_of_body tok 3 Try.func38 en38 rfl ⟨yardV_below y, trivial⟩ Below.lit ?_
  refine SW.seqRun tok hO (by cbv <;> rfl) (by trivial) ?_
  refine SW.seq ?_
  refine SW.seqRun tok hO (by cbv <;> rfl) (by trivial) ?_
  refine (SW.block (SW.loopF (fun i : Nat => ⟨⟨17, getT [(1, .ptr 0 0), (3, iV i)]⟩, []⟩) (fun _ => ⟨[(0, .cells none false (yardC y))], 1⟩) (fun i => 4 - i) (fun i => 1 ≤ i ∧ i ≤ 4 ∧ ∀ j : Nat, 1 ≤ j → j < i → H j = false) 1
    (fun _ => rfl) ⟨Nat.le_refl _, by omega, fun j hj hj1 => by omega⟩ (Weak.by rfl rfl (by simp) (Nat.le_refl _) (Nat.le_refl _) ⟨⟨rfl, .inl rfl⟩, ⟨rfl, .inl rfl⟩, trivial⟩ ⟨⟨rfl, by omega, .inl rfl⟩, trivial⟩) fun i hi => ?_))
  obtain ⟨i1, i4, hall⟩ := hi
  refine SW.seq ?_
  refine SW.seqRun tok hO (by cbv <;> rfl) (by trivial) ?_
  refine SW.condS (by cbv <;> rfl) (fun h => SW.skip ?_) (fun h => SW.exit ?_)
  · have hle : i ≤ 3 := by
      have : (i : Int) ≤ 3 := by subst hO; simpa [std] using h
      omega
    have e37 := e37 i i1 hle
    have hyes := hyes i i1 hle hall
    obtain ⟨B, hB⟩ : ∃ B, H i = B := ⟨_, rfl⟩
    rw [hB] at e37 hyes
    refine SW.seq (SW.block ?_)
    refine SW.seqRun tok hO (by cbv <;> rfl) (by trivial) ?_
    refine SW.seqRun tok hO (by cbv <;> rfl) (by trivial) ?_
    refine SW.seqRunD tok mixed hO (by kernel_rfl) (by cbv <;> rfl) (by trivial) ?_
    refine AnyE.callP (e47 i) (by cbv <;> rfl) (by cbv <;> rfl) ?_
    refine AnyE.run tok hO (by kernel_rfl) (by cbv <;> rfl) (by trivial) ?_
    refine AnyE.callP e37 (by cbv <;> rfl) (by cbv <;> rfl) ?_
    refine AnyE.done (by kernel_rfl) ?_
    refine SW.condS (by cbv <;> rfl) (fun h2 => ?_) (fun h2 => SW.skip ?_)
    · refine SW.seqRun tok hO (by cbv <;> rfl) (by trivial) ?_
      refine SW.ret ⟨_, _, rfl, rfl, Eqv.int ?_⟩
      exact (hyes h2).symm
    · refine SW.run tok hO (by cbv <;> rfl) (by trivial) ?_
      refine ⟨i + 1, by omega, ⟨by omega, by omega, fun j hj hj1 => ?_⟩, Weak.by rfl rfl (by simp) (Nat.le_refl _) (by show 1 ≤ 2; omega) ⟨⟨rfl, .inr (Below.ptr (by omega))⟩, ⟨inc_ok hO (by omega), .inr Below.lit⟩, trivial⟩ ⟨⟨rfl, by omega, .inr hb0⟩, trivial⟩⟩
      by_cases e : j = i
      · rw [e]; exact hB.trans h2
      · exact hall j hj (by omega)
  · have hge : i = 4 := by
      have : (3 : Int) < (i : Int) := by subst hO; simpa [std] using h
      omega
    subst hge
    refine SW.seqRun tok hO (by cbv <;> rfl) (by trivial) ?_
    refine SW.ret ⟨_, _, rfl, rfl, Eqv.int ?_⟩
    exact (hno hall).symm
end Go.Fz
set_option linter.unusedVariables false
namespace Go.Fz
open Go.Proofs
set_option maxRecDepth 100000
theorem ris_pair6 : ∀ n : Fin 7, (risL n.1).Pairwise (fun x z => shL x z = true) := by decide +kernel
theorem ris_tri {n : Nat} (hn : n ≤ 6) {a b c : List Nat} (ha : a ∈ risL n) (hb : b ∈ risL n) (hc : c ∈ risL n) (h1 : shL a b = true) (h2 : shL b c = true) : shL a c = true := by
  obtain ⟨pre, post, hE⟩ := List.append_of_mem hc
  have hb2 := ris_before6 hn hE hb h2
  obtain ⟨p1, p2, hE2⟩ := List.append_of_mem hb2
  have hE3 : risL n = p1 ++ b :: (p2 ++ c :: post) := by rw [hE, hE2]; simp
  have ha2 := ris_before6 hn hE3 ha h1
  have hp := ris_pair6 ⟨n, by omega⟩
  simp only at hp
  rw [hE3] at hp
  exact (List.pairwise_append.1 hp).2.2 a ha2 c (by simp)
theorem ris_tot {n : Nat} (hn : n ≤ 6) {a b : List Nat} (ha : a ∈ risL n) (hb : b ∈ risL n) : a = b ∨ shL a b = true ∨ shL b a = true := by
  obtain ⟨pre, post, hE⟩ := List.append_of_mem hb
  have hp := ris_pair6 ⟨n, by omega⟩
  simp only at hp
  rw [hE] at hp ha
  rcases List.mem_append.1 ha with h | h
  · exact .inr (.inl ((List.pairwise_append.1 hp).2.2 a h b (by simp)))
  · rcases List.mem_cons.1 h with h | h
    · exact .inl h
    · exact .inr (.inr ((List.pairwise_cons.1 (List.pairwise_append.1 hp).2.1).1 a h))
theorem sel_ris6 {n : Nat} (hn : n ≤ 6) {i : Nat} (hi : i < 2 ^ n) : selL (i : Int) 6 ∈ risL n := by
  have h64 : i < 64 := by
    have : (2 : Nat) ^ n ≤ 2 ^ 6 := Nat.pow_le_pow_right (by decide) hn
    omega
  exact oth_fin6 ⟨n, by omega⟩ ⟨i, h64⟩ hi
theorem msk_ris6 {n : Nat} (hn : n ≤ 6) {l : List Nat} (hl : l ∈ risL n) : ∃ i : Nat, i < 2 ^ n ∧ selL (i : Int) 6 = l := by
  obtain ⟨⟨h1, h2⟩, h3, _⟩ := msk_fin6 ⟨n, by omega⟩ l hl
  refine ⟨(mskL l).toNat, ?_, ?_⟩
  · have : ((mskL l).toNat : Int) < 2 ^ n := by rw [Int.toNat_of_nonneg h1]; exact h2
    exact_mod_cast this
  · rw [Int.toNat_of_nonneg h1]; exact h3
theorem ris_len6 {n : Nat} (hn : n ≤ 6) {l : List Nat} (hl : l ∈ risL n) : l.length ≤ 6 := (msk_fin6 ⟨n, by omega⟩ l hl).2.2
def bestV : Option (List Nat) → AV
  | none => nl3
  | some l => lsV l
def prfI (y : YardD) (i : Nat) : Option (List Nat) → Prop
  | none => ∀ b : Nat, b < i → y.canL (selL (b : Int) 6) = true
  | some l => l ∈ risL y.nb ∧ y.canL l = false ∧ ∀ b : Nat, b < i → y.canL (selL (b : Int) 6) = false → shL (selL (b : Int) 6) l = false
theorem prfI_end {y : YardD} (hn : y.nb ≤ 6) {o : Option (List Nat)} (h : prfI y (2 ^ y.nb) o) : (risL y.nb).find? (fun l => !y.canL l) = o := by
  cases o with
  | none =>
    refine List.find?_eq_none.2 fun l hl hc => ?_
    obtain ⟨i, hi, e⟩ := msk_ris6 hn hl
    have := h i hi
    rw [e] at this
    rw [this] at hc
    cases hc
  | some l =>
    obtain ⟨h1, h2, h3⟩ := h
    cases hf : (risL y.nb).find? (fun l => !y.canL l) with
    | none =>
      have := List.find?_eq_none.1 hf l h1
      rw [h2] at this
      exact absurd rfl this
    | some m =>
      obtain ⟨q1, pre, post, q2, q3⟩ := List.find?_eq_some_iff_append.1 hf
      have hm : m ∈ risL y.nb := by rw [q2]; simp
      have hmc : y.canL m = false := by simpa using q1
      rcases ris_tot hn h1 hm with e | e | e
      · rw [e]
      · have := q3 l (ris_before6 hn q2 h1 e)
        rw [h2] at this
        cases this
      · obtain ⟨i, hi, ei⟩ := msk_ris6 hn hm
        have := h3 i hi (by rw [ei]; exact hmc)
        rw [ei, e] at this
        cases this
theorem prfI_keep {y : YardD} {i : Nat} {o : Option (List Nat)} (h : prfI y i o) (hn : y.canL (selL (i : Int) 6) = true ∨ ∃ l, o = some l ∧ shL (selL (i : Int) 6) l = false) : prfI y (i + 1) o := by
  cases o with
  | none =>
    intro b hb
    by_cases e : b = i
    · rcases hn with hn | ⟨l, hl, _⟩
      · rw [e]; exact hn
      · cases hl
    · exact h b (by omega)
  | some l =>
    obtain ⟨h1, h2, h3⟩ := h
    refine ⟨h1, h2, fun b hb hc => ?_⟩
    by_cases e : b = i
    · rcases hn with hn | ⟨l', hl, hs⟩
      · rw [e, hn] at hc; cases hc
      · cases hl
        rw [e]; exact hs
    · exact h3 b (by omega) hc
theorem prfI_take {y : YardD} (hn : y.nb ≤ 6) {i : Nat} (hi : i < 2 ^ y.nb) {o : Option (List Nat)} (h : prfI y i o) (hc : y.canL (selL (i : Int) 6) = false) (hs : ∀ l, o = some l → shL (selL (i : Int) 6) l = true) : prfI y (i + 1) (some (selL (i : Int) 6)) := by
  have hr := sel_ris6 hn hi
  refine ⟨hr, hc, fun b hb hcb => ?_⟩
  by_cases e : b = i
  · rw [e]; exact (ord_fin6 ⟨y.nb, by omega⟩).2 _ hr
  · have hb2 : b < i := by omega
    cases o with
    | none =>
      have := h b hb2
      rw [hcb] at this; cases this
    | some l =>
      obtain ⟨h1, h2, h3⟩ := h
      have h4 := h3 b hb2 hcb
      cases hq : shL (selL (b : Int) 6) (selL (i : Int) 6) with
      | false => rfl
      | true =>
        have := ris_tri hn (sel_ris6 hn (by omega)) hr h1 hq (hs l rfl)
        rw [h4] at this; cases this
set_option maxHeartbeats 16000000 in
theorem refProof_ok {y : YardD} (hc : y.check = 0) : Pure Try.prog 39 [yardV y] (.tup [bestV ((risL y.nb).find? (fun l => !y.canL l)), .lit (.bool ((risL y.nb).find? (fun l => !y.canL l)).isSome)]) := by
  obtain ⟨O, hO⟩ : ∃ O : Ar, O = std := ⟨_, rfl⟩
  have hn := (y.fit_of_check hc).1.nb
  obtain ⟨_, _, _, a4⟩ := all6_fin ⟨y.nb, by omega⟩
  simp only at a4
  have e47 := all_ok y (by omega)
  have h64 : (2 : Int) ^ y.nb ≤ 64 := pow_le6 hn
  have hpw : ∀ i : Nat, ((i : Int) ≤ allI y.nb ↔ i < 2 ^ y.nb) := fun i => by
    rw [a4]
    have e : ((2 ^ y.nb : Nat) : Int) = 2 ^ y.nb := by simp
    omega
  have hiN : ∀ i : Nat, i < 2 ^ y.nb → (i : Int) < 2 ^ y.nb := fun i hi => by
    have e : ((2 ^ y.nb : Nat) : Int) = 2 ^ y.nb := by simp
    omega
  have e52 := fun (i : Nat) (hi : i < 2 ^ y.nb) => bits64_ok (Int.ofNat i) (Int.natCast_nonneg i) (Int.lt_of_lt_of_le (hiN i hi) h64)
  have e37 := fun (i : Nat) (hi : i < 2 ^ y.nb) => can_bits hc (b := Int.ofNat i) (Int.natCast_nonneg i) (hiN i hi)
  have e53 := fun (a b : List Nat) (ha : a.length ≤ 6) (hb : b.length ≤ 6) => shorter_ok a.length b.length false false (lI a) (lI b) (by omega) (by omega)
  have hend := fun (o : Option (List Nat)) (h : prfI y (2 ^ y.nb) o) => prfI_end hn h
  have hbel : ∀ o : Option (List Nat), Below 0 (bestV o) := fun o => by
    cases o with
    | none => exact Below.lit
    | some l => exact intsV_below _ _ _
  generalize (risL y.nb).find? (fun l => !y.canL l) = FD at hend ⊢
  have hA := hpw
  generalize allI y.nb = A at e47 hA
  refine pure_of_body tok 3 Try.func39 en39 rfl ⟨yardV_below y, trivial⟩ (Below.tup (AllB.ok ⟨hbel _, Below.lit, trivial⟩)) ?_
  refine SW.seqRun tok hO (by cbv <;> rfl) (by trivial) ?_
  refine SW.seqRun tok hO (by cbv <;> rfl) (by trivial) ?_
  refine SW.seqRun tok hO (by cbv <;> rfl) (by trivial) ?_
  refine SW.seq ?_
  refine SW.seqRun tok hO (by cbv <;> rfl) (by trivial) ?_
  refine (SW.block (SW.loopF (fun x : Nat × Option (List Nat) => ⟨⟨32, getT [(1, .ptr 0 0), (4, bestV x.2), (5, .lit (.bool x.2.isSome)), (6, iV x.1)]⟩, []⟩) (fun _ => ⟨[(0, .cells none false (yardC y))], 1⟩) (fun x => 2 ^ y.nb - x.1) (fun x => x.1 ≤ 2 ^ y.nb ∧ prfI y x.1 x.2) (0, none)
    (fun _ => rfl) ⟨Nat.zero_le _, fun b hb => absurd hb (Nat.not_lt_zero _)⟩ (Weak.by rfl rfl (by simp) (Nat.le_refl _) (Nat.le_refl _) ⟨⟨rfl, .inl rfl⟩, ⟨rfl, .inl rfl⟩, ⟨rfl, .inl rfl⟩, ⟨rfl, .inl rfl⟩, trivial⟩ ⟨⟨rfl, by omega, .inl rfl⟩, trivial⟩) fun x hx => ?_))
  obtain ⟨i, o⟩ := x
  obtain ⟨hi, hI⟩ := hx
  simp only at hi hI
  obtain ⟨BV, hBV⟩ : ∃ V, bestV o = V := ⟨_, rfl⟩
  obtain ⟨BB, hBB⟩ : ∃ b, o.isSome = b := ⟨_, rfl⟩
  show SW _ _ _ _ ⟨⟨32, getT [(1, .ptr 0 0), (4, bestV o), (5, .lit (.bool o.isSome)), (6, iV (Int.ofNat i))]⟩, []⟩ _
  rw [hBV, hBB]
  refine SW.seq ?_
  refine SW.seqRun tok hO (by cbv <;> rfl) (by trivial) ?_
  refine OpsW.callP e47 (by cbv <;> rfl) ?_
  refine OpsW.run tok hO (by cbv <;> rfl) (by trivial) ?_
  refine SW.condS (by cbv <;> rfl) (fun h => SW.skip ?_) (fun h => SW.exit ?_)
  · have hlt : i < 2 ^ y.nb := by
      have : (i : Int) ≤ A := by subst hO; simpa [std] using h
      exact (hA i).1 this
    have hbig : i < 4611686018427387904 := by
      have := hiN i hlt
      omega
    have e52 := e52 i hlt
    have e37 := e37 i hlt
    have hkeep := prfI_keep hI
    have htake := prfI_take hn hlt hI
    have hsl := ris_len6 hn (sel_ris6 hn hlt)
    obtain ⟨L, hL⟩ : ∃ L, selL (Int.ofNat i) 6 = L := ⟨_, rfl⟩
    have hL2 : selL (i : Int) 6 = L := hL
    rw [hL] at e52 e37
    rw [hL2] at hkeep htake hsl
    obtain ⟨B, hB⟩ : ∃ B, y.canL L = B := ⟨_, rfl⟩
    rw [hB] at e37 hkeep htake
    obtain ⟨LV, hLV⟩ : ∃ V, lsV L = V := ⟨_, rfl⟩
    rw [hLV] at e52
    have hLb : LV = bestV (some L) := hLV.symm
    have hgo : ∀ (o' : Option (List Nat)) (f' : Fm) (st' : St), prfI y (i + 1) o' → Weak 1 f' st' ⟨⟨32, getT [(1, .ptr 0 0), (4, bestV o'), (5, .lit (.bool o'.isSome)), (6, iV ((i + 1 : Nat) : Int))]⟩, []⟩ ⟨[(0, .cells none false (yardC y))], 1⟩ → ∃ x' : Nat × Option (List Nat), 2 ^ y.nb - x'.1 < 2 ^ y.nb - i ∧ (x'.1 ≤ 2 ^ y.nb ∧ prfI y x'.1 x'.2) ∧ Weak 1 f' st' ⟨⟨32, getT [(1, .ptr 0 0), (4, bestV x'.2), (5, .lit (.bool x'.2.isSome)), (6, iV x'.1)]⟩, []⟩ ⟨[(0, .cells none false (yardC y))], 1⟩ := fun o' f' st' h1 h2 => ⟨(i + 1, o'), by show 2 ^ y.nb - (i + 1) < 2 ^ y.nb - i; omega, ⟨by show i + 1 ≤ 2 ^ y.nb; omega, h1⟩, h2⟩
    refine SW.seq (SW.block ?_)
    refine SW.seqRun tok hO (by cbv <;> rfl) (by trivial) ?_
    refine OpsW.callP e52 (by cbv <;> rfl) ?_
    cases o with
    | none =>
      have hBB2 : BB = false := hBB.symm
      subst hBB2
      refine OpsW.run tok hO (by cbv <;> rfl) (by trivial) ?_
      refine SW.seqRun tok hO (by cbv <;> rfl) (by trivial) ?_
      refine OpsW.callP e37 (by cbv <;> rfl) ?_
      refine OpsW.run tok hO (by cbv <;> rfl) (by trivial) ?_
      refine SW.condS (by cbv <;> rfl) (fun h2 => ?_) (fun h2 => SW.skip ?_)
      · have hBf : B = false := by subst hO; simpa [std] using h2
        refine SW.run tok hO (by cbv <;> rfl) (by trivial) ?_
        refine SW.run tok hO (by cbv <;> rfl) (by trivial) ?_
        refine hgo (some L) _ _ (htake hBf fun l hl => by cases hl) ?_
        exact Weak.by rfl rfl (by simp) (Nat.le_refl _) (Nat.le_refl _) ⟨⟨rfl, .inl rfl⟩, ⟨hLb, .inl rfl⟩, ⟨rfl, .inl rfl⟩, ⟨inc_ok hO hbig, .inl rfl⟩, trivial⟩ ⟨⟨rfl, by omega, .inl rfl⟩, trivial⟩
      · have hBt : B = true := by subst hO; simpa [std] using h2
        refine SW.run tok hO (by cbv <;> rfl) (by trivial) ?_
        refine hgo none _ _ (hkeep (.inl hBt)) ?_
        exact Weak.by rfl rfl (by simp) (Nat.le_refl _) (Nat.le_refl _) ⟨⟨rfl, .inl rfl⟩, ⟨hBV.symm, .inl rfl⟩, ⟨rfl, .inl rfl⟩, ⟨inc_ok hO hbig, .inl rfl⟩, trivial⟩ ⟨⟨rfl, by omega, .inl rfl⟩, trivial⟩
    | some l =>
      have e53 := e53 L l hsl (ris_len6 hn hI.1)
      obtain ⟨S, hS⟩ : ∃ S, shortB L.length l.length (lI L) (lI l) = S := ⟨_, rfl⟩
      have hS2 : shL L l = S := hS
      rw [hS] at e53
      have e53 : Pure Try.prog 53 [lsV L, bestV (some l)] (.sb S) := e53
      rw [hLV] at e53
      rw [hBV] at e53
      have hBb : BV = bestV (some l) := hBV.symm
      have hBB2 : BB = true := hBB.symm
      subst hBB2
      refine OpsW.run tok hO (by cbv <;> rfl) (by trivial) ?_
      refine SW.seqRun tok hO (by cbv <;> rfl) (by trivial) ?_
      refine OpsW.callP e53 (by cbv <;> rfl) ?_
      refine OpsW.run tok hO (by cbv <;> rfl) (by trivial) ?_
      refine OpsW.splitG (by cbv <;> rfl) (fun h3 => ?_) (fun h3 => ?_)
      · have hSt : S = true := h3
        refine OpsW.run tok hO (by cbv <;> rfl) (by trivial) ?_
        refine OpsW.callP e37 (by cbv <;> rfl) ?_
        refine OpsW.run tok hO (by cbv <;> rfl) (by trivial) ?_
        refine SW.condS (by cbv <;> rfl) (fun h2 => ?_) (fun h2 => SW.skip ?_)
        · have hBf : B = false := by subst hO; simpa [std] using h2
          refine SW.run tok hO (by cbv <;> rfl) (by trivial) ?_
          refine SW.run tok hO (by cbv <;> rfl) (by trivial) ?_
          refine hgo (some L) _ _ (htake hBf fun l' hl => by cases hl; exact hS2.trans hSt) ?_
          exact Weak.by rfl rfl (by simp) (Nat.le_refl _) (Nat.le_refl _) ⟨⟨rfl, .inl rfl⟩, ⟨hLb, .inl rfl⟩, ⟨rfl, .inl rfl⟩, ⟨inc_ok hO hbig, .inl rfl⟩, trivial⟩ ⟨⟨rfl, by omega, .inl rfl⟩, trivial⟩
        · have hBt : B = true := by subst hO; simpa [std] using h2
          refine SW.run tok hO (by cbv <;> rfl) (by trivial) ?_
          refine hgo (some l) _ _ (hkeep (.inl hBt)) ?_
          exact Weak.by rfl rfl (by simp) (Nat.le_refl _) (Nat.le_refl _) ⟨⟨rfl, .inl rfl⟩, ⟨hBb, .inl rfl⟩, ⟨rfl, .inl rfl⟩, ⟨inc_ok hO hbig, .inl rfl⟩, trivial⟩ ⟨⟨rfl, by omega, .inl rfl⟩, trivial⟩
      · have hSf : S = false := h3
        refine OpsW.run tok hO (by cbv <;> rfl) (by trivial) ?_
        refine SW.cond (t := false) (by cbv <;> rfl) (SW.skip ?_)
        refine SW.run tok hO (by cbv <;> rfl) (by trivial) ?_
        refine hgo (some l) _ _ (hkeep (.inr ⟨l, rfl, hS2.trans hSf⟩)) ?_
        exact Weak.by rfl rfl (by simp) (Nat.le_refl _) (Nat.le_refl _) ⟨⟨rfl, .inl rfl⟩, ⟨hBb, .inl rfl⟩, ⟨rfl, .inl rfl⟩, ⟨inc_ok hO hbig, .inl rfl⟩, trivial⟩ ⟨⟨rfl, by omega, .inl rfl⟩, trivial⟩
  · have hge : i = 2 ^ y.nb := by
      have : ¬ (i : Int) ≤ A := by subst hO; simpa [std] using h
      have h2 : ¬ i < 2 ^ y.nb := fun h => this ((hA i).2 h)
      omega
    subst hge
    rw [hend o hI]
    refine SW.seqRun tok hO (by cbv <;> rfl) (by trivial) ?_
    refine SW.ret ⟨_, _, rfl, rfl, ?_⟩
    subst hBV
    subst hBB
    cases o with
    | none => exact Eqv.of rfl
    | some l => exact Eqv.of rfl
end Go.Fz
set_option linter.unusedVariables false
namespace Go.Fz
open Go.Proofs
set_option maxRecDepth 100000
def mskN (FL : Nat → Int) : Nat → Int
  | 0 => 0
  | i + 1 => std.bin .or .i64 (mskN FL i) (std.bin .shl .i64 1 (std.conv .u64 (FL i)))
def YardD.ibV (y : YardD) (N : Nat) (FL : Nat → Int) : AV := if allN N (y.isB FL) = true then .tup [iV (mskN FL N), .lit (.bool true)] else .tup [iV 0, .lit (.bool false)]
theorem ibV_below (y : YardD) (N : Nat) (FL : Nat → Int) : Below 0 (y.ibV N FL) := by
  unfold YardD.ibV
  split <;> exact Below.tup (AllB.ok ⟨Below.lit, Below.lit, trivial⟩)
theorem leq_of {O : Ar} (hO : O = std) {a b : Int} (h : O.cmp .leq a b = true) : a ≤ b := by subst hO; simpa [std] using h
theorem leq_not {O : Ar} (hO : O = std) {a b : Int} (h : O.cmp .leq a b = false) : b < a := by
  have : ¬ a ≤ b := by subst hO; simpa [std] using h
  omega
theorem gtr_not {O : Ar} (hO : O = std) {i : Nat} (h : O.cmp .gtr (Int.ofNat i) 0 = false) : i = 0 := by
  have : ¬ (i : Int) > 0 := by subst hO; simpa [std] using h
  omega
set_option maxHeartbeats 8000000 in
theorem isBeds_any (y : YardD) (hn : y.nb ≤ 6) (N : Nat) (ex : Bool) (FL : Nat → Int) (hl : N < 1000) : Pure Try.prog 36 [yardV y, intsV N ex FL] (y.ibV N FL) := by
  obtain ⟨O, hO⟩ : ∃ O : Ar, O = std := ⟨_, rfl⟩
  have hnat : ∀ i : Nat, O.nat (Int.ofNat i) = i := fun i => by subst hO; rfl
  obtain ⟨M, hM⟩ : ∃ M : Nat → Int, M = mskN FL := ⟨_, rfl⟩
  have hM0 : M 0 = 0 := by rw [hM]; rfl
  have hMs : ∀ i, M (i + 1) = O.bin .or .i64 (M i) (O.bin .shl .i64 1 (O.conv .u64 (FL i))) := fun i => by rw [hM, hO]; rfl
  have hbel := ibV_below y N FL
  have hyes : (∀ i, i < N → (0 ≤ FL i ∧ FL i < y.nb) ∧ (i = 0 ∨ FL (i - 1) < FL i)) → y.ibV N FL = .tup [iV (M N), .lit (.bool true)] := fun h => by
    unfold YardD.ibV
    rw [if_pos, hM]
    refine decide_eq_true fun i hi => ?_
    have h2 := h i hi
    show (y.hasB (FL i) && (decide (i = 0) || decide (FL (i - 1) < FL i))) = true
    unfold YardD.hasB
    rw [decide_eq_true h2.1.1, decide_eq_true h2.1.2, Bool.true_and, Bool.true_and, Bool.or_eq_true, decide_eq_true_eq, decide_eq_true_eq]
    exact h2.2
  have hno : ∀ i, i < N → ¬ ((0 ≤ FL i ∧ FL i < y.nb) ∧ (i = 0 ∨ FL (i - 1) < FL i)) → y.ibV N FL = .tup [iV 0, .lit (.bool false)] := fun i hi h => by
    unfold YardD.ibV
    rw [if_neg]
    intro hq
    have hq := of_decide_eq_true hq i hi
    have hq : (y.hasB (FL i) && (decide (i = 0) || decide (FL (i - 1) < FL i))) = true := hq
    unfold YardD.hasB at hq
    rw [Bool.and_eq_true, Bool.and_eq_true, Bool.or_eq_true, decide_eq_true_eq, decide_eq_true_eq, decide_eq_true_eq, decide_eq_true_eq] at hq
    exact h hq
  clear hM
  generalize y.ibV N FL = V at hbel hyes hno ⊢
  have hconv : ∀ i, i < N → (0 ≤ FL i ∧ FL i < y.nb) → 0 ≤ O.conv .u64 (FL i) := fun i hi h => by
    subst hO
    show 0 ≤ wrp .u64 (FL i)
    rw [wrp_in (by simp only [IntKind.lo]; omega) (by simp only [IntKind.hi]; omega)]
    omega
  have hsub : O.bin .sub .i64 (Int.ofNat y.nb) 1 = (y.nb : Int) - 1 := by
    subst hO
    show sub64 ((y.nb : Nat) : Int) 1 = _
    rw [sub64_in _ _ (by omega) (by omega)]
  refine pure_of_body tok 3 Try.func36 en36 rfl ⟨yardV_below y, intsV_below _ _ _, trivial⟩ hbel ?_
  refine SW.seqRun tok hO (by cbv <;> rfl) (by trivial) ?_
  refine SW.seqRun tok hO (by cbv <;> rfl) (by trivial) ?_
  refine SW.seq ?_
  refine SW.seqRun tok hO (by cbv <;> rfl) (by trivial) ?_
  refine (SW.block (SW.loopF (fun i : Nat => ⟨⟨49, getT [(1, intsV N ex FL), (2, .ptr 0 0), (6, iV (M i)), (7, iV i)]⟩, []⟩) (fun _ => ⟨[(0, .cells none false (yardC y))], 1⟩) (fun i => N - i) (fun i => i ≤ N ∧ ∀ j, j < i → (0 ≤ FL j ∧ FL j < y.nb) ∧ (j = 0 ∨ FL (j - 1) < FL j)) 0
    (fun _ => rfl) ⟨Nat.zero_le _, fun j hj => absurd hj (Nat.not_lt_zero _)⟩ (Weak.by rfl rfl (by simp) (Nat.le_refl _) (Nat.le_refl _) ⟨⟨rfl, .inl rfl⟩, ⟨rfl, .inl rfl⟩, ⟨by show iV 0 = iV (M 0); rw [hM0], .inl rfl⟩, ⟨rfl, .inl rfl⟩, trivial⟩ ⟨⟨rfl, by omega, .inl rfl⟩, trivial⟩) fun i hi => ?_))
  obtain ⟨hi, hall⟩ := hi
  have hMi := hMs i
  obtain ⟨m, hm⟩ : ∃ m, M i = m := ⟨_, rfl⟩
  rw [hm] at hMi
  show SW _ _ _ _ ⟨⟨49, getT [(1, intsV N ex FL), (2, .ptr 0 0), (6, iV (M i)), (7, iV i)]⟩, []⟩ _
  rw [hm]
  have hni : O.nat (Int.ofNat i) = i := hnat i
  refine SW.seq ?_
  refine SW.seqRun tok hO (by cbv <;> rfl) (by trivial) ?_
  refine SW.condS (by cbv <;> rfl) (fun h => SW.skip ?_) (fun h => SW.exit ?_)
  · have hlt : i < N := by
      have : (i : Int) < (N : Int) := by subst hO; simpa [std] using h
      omega
    have k0 : (0 : Int) ≤ Int.ofNat i := Int.natCast_nonneg i
    have kN : Int.ofNat i < Int.ofNat N := Int.ofNat_lt.2 hlt
    refine SW.seq (SW.block ?_)
    refine SW.seq ?_
    refine SW.seqRunD tok mixed hO (by kernel_rfl) (by cbv <;> rfl) ?_ ?_
    · exact ⟨k0, kN⟩
    refine AnyE.callD (in_ok (FL (O.nat (Int.ofNat i))) 0 (O.bin .sub .i64 (Int.ofNat y.nb) 1)) (by cbv <;> rfl) (by cbv <;> rfl) (fun h3 => ?_) (fun h3 => ?_)
    rotate_left
    · rw [hni, hsub] at h3
      unfold inB at h3
      rw [Bool.and_eq_false_iff, decide_eq_false_iff_not, decide_eq_false_iff_not] at h3
      have hV := hno i hlt (fun hq => by omega)
      refine AnyE.run tok hO (by kernel_rfl) (by cbv <;> rfl) (by trivial) ?_
      refine SW.cond (t := true) (by cbv <;> rfl) ?_
      refine SW.seqRun tok hO (by cbv <;> rfl) (by trivial) ?_
      refine SW.ret ⟨_, _, rfl, rfl, ?_⟩
      rw [hV]
      exact Eqv.of rfl
    have hkk : 0 ≤ FL i ∧ FL i < y.nb := by
      rw [hni, hsub] at h3
      unfold inB at h3
      rw [Bool.and_eq_true, decide_eq_true_eq, decide_eq_true_eq] at h3
      omega
    refine AnyE.run tok hO (by kernel_rfl) (by cbv <;> rfl) (by trivial) ?_
    have hbig : i < 4611686018427387904 := Nat.lt_trans hlt (Nat.lt_trans hl (by decide))
    have hcv : 0 ≤ O.conv .u64 (FL (O.nat (Int.ofNat i))) := by rw [hni]; exact hconv i hlt hkk
    have hnext : ∀ (f' : Fm) (st' : St), Weak 1 f' st' ⟨⟨49, getT [(1, intsV N ex FL), (2, .ptr 0 0), (6, iV (M (i + 1))), (7, iV ((i + 1 : Nat) : Int))]⟩, []⟩ ⟨[(0, .cells none false (yardC y))], 1⟩ → (i = 0 ∨ FL (i - 1) < FL i) → ∃ x', N - x' < N - i ∧ (x' ≤ N ∧ ∀ j, j < x' → (0 ≤ FL j ∧ FL j < y.nb) ∧ (j = 0 ∨ FL (j - 1) < FL j)) ∧ Weak 1 f' st' ⟨⟨49, getT [(1, intsV N ex FL), (2, .ptr 0 0), (6, iV (M x')), (7, iV (x' : Nat))]⟩, []⟩ ⟨[(0, .cells none false (yardC y))], 1⟩ := fun f' st' h hr => ⟨i + 1, by omega, ⟨by omega, fun j hj => by
      by_cases e : j = i
      · rw [e]; exact ⟨hkk, hr⟩
      · exact hall j (by omega)⟩, h⟩
    have hMi2 : M (i + 1) = O.bin .or .i64 m (O.bin .shl .i64 1 (O.conv .u64 (FL (O.nat (Int.ofNat i))))) := by rw [hni]; exact hMi
    refine AnyE.dec tok hO (by kernel_rfl) (by cbv <;> rfl) (by trivial) (fun h4 => ?_) (fun h4 => ?_)
    · have hi0 : 0 < i := gtr0 hO h4
      have hq := sub1_rng hO (Nat.lt_trans hlt hl) hi0 hlt
      have hns := natsub1 hO (Nat.lt_trans hlt hl) hi0
      refine AnyE.run tok hO (by kernel_rfl) (by cbv <;> rfl) ?_ ?_
      · exact ⟨hq, ⟨k0, kN⟩⟩
      refine AnyE.dec tok hO (by kernel_rfl) (by cbv <;> rfl) (by trivial) (fun h5 => ?_) (fun h5 => ?_)
      · have h6 : O.cmp .leq (FL (O.nat (Int.ofNat i))) (FL (O.nat (O.bin .sub .i64 (Int.ofNat i) 1))) = true := h5
        rw [hni, hns] at h6
        have hle := leq_of hO h6
        have hV := hno i hlt (fun hq => by omega)
        refine AnyE.run tok hO (by kernel_rfl) (by cbv <;> rfl) (by trivial) ?_
        refine SW.cond (t := true) (by cbv <;> rfl) ?_
        refine SW.seqRun tok hO (by cbv <;> rfl) (by trivial) ?_
        refine SW.ret ⟨_, _, rfl, rfl, ?_⟩
        rw [hV]
        exact Eqv.of rfl
      · have h6 : O.cmp .leq (FL (O.nat (Int.ofNat i))) (FL (O.nat (O.bin .sub .i64 (Int.ofNat i) 1))) = false := h5
        rw [hni, hns] at h6
        have hgt := leq_not hO h6
        refine AnyE.run tok hO (by kernel_rfl) (by cbv <;> rfl) (by trivial) ?_
        refine SW.cond (t := false) (by cbv <;> rfl) (SW.skip ?_)
        refine SW.run tok hO (by cbv <;> rfl) ?_ ?_
        · exact ⟨hcv, ⟨k0, kN⟩⟩
        refine SW.run tok hO (by cbv <;> rfl) (by trivial) ?_
        refine hnext _ _ ?_ (.inr hgt)
        rw [hMi2]
        exact Weak.by rfl rfl (by simp) (Nat.le_refl _) (Nat.le_refl _) ⟨⟨rfl, .inl rfl⟩, ⟨rfl, .inl rfl⟩, ⟨rfl, .inl rfl⟩, ⟨inc_ok hO hbig, .inl rfl⟩, trivial⟩ ⟨⟨rfl, Nat.zero_lt_one, .inl rfl⟩, trivial⟩
    · refine AnyE.run tok hO (by kernel_rfl) (by cbv <;> rfl) (by trivial) ?_
      refine SW.cond (t := false) (by cbv <;> rfl) (SW.skip ?_)
      refine SW.run tok hO (by cbv <;> rfl) ?_ ?_
      · exact ⟨hcv, ⟨k0, kN⟩⟩
      refine SW.run tok hO (by cbv <;> rfl) (by trivial) ?_
      refine hnext _ _ ?_ (.inl (gtr_not hO h4))
      rw [hMi2]
      exact Weak.by rfl rfl (by simp) (Nat.le_refl _) (Nat.le_refl _) ⟨⟨rfl, .inl rfl⟩, ⟨rfl, .inl rfl⟩, ⟨rfl, .inl rfl⟩, ⟨inc_ok hO hbig, .inl rfl⟩, trivial⟩ ⟨⟨rfl, Nat.zero_lt_one, .inl rfl⟩, trivial⟩
  · have hz : i = N := by
      have : (N : Int) ≤ (i : Int) := by subst hO; simpa [std] using h
      omega
    subst hz
    have hV := hyes hall
    rw [hm] at hV
    refine SW.seqRun tok hO (by cbv <;> rfl) (by trivial) ?_
    refine SW.ret ⟨_, _, rfl, rfl, ?_⟩
    rw [hV]
    exact Eqv.of rfl
end Go.Fz
set_option linter.unusedVariables false
set_option linter.unusedSimpArgs false
namespace Go.Fz
open Go.Proofs
set_option maxRecDepth 100000
set_option maxHeartbeats 8000000 in
theorem pr_notA (haw : Pure Try.prog 18 [] (.lit (.bool true))) (y : YardD) (n : Nat) (ex : Bool) (f : Nat → Int) (e17 : Pure Try.prog 17 [yardV y] (.sb false)) : Pure Try.prog 5 [yardV y, intsV n ex f] (.lit (.bool true)) := by
  obtain ⟨O, hO⟩ : ∃ O : Ar, O = std := ⟨_, rfl⟩
  refine pure_of_body tok 3 Try.func5 en5 rfl ⟨yardV_below y, intsV_below _ _ _, trivial⟩ Below.lit ?_
  refine SW.seqRun tok hO (by cbv <;> rfl) (by trivial) ?_
  refine SW.seq ?_
  refine SW.seqRun tok hO (by cbv <;> rfl) (by trivial) ?_
  refine OpsW.callP e17 (by cbv <;> rfl) ?_
  refine OpsW.run tok hO (by cbv <;> rfl) (by trivial) ?_
  refine OpsW.splitG (by cbv <;> rfl) (fun hw1 => ?_) (fun hw1 => by first | (cases hw1; done) | (subst hO; simp [std] at hw1; done) | (subst hO; simp [std] at hw1; omega))
  refine OpsW.run tok hO (by cbv <;> rfl) (by trivial) ?_
  refine SW.cond (t := true) (by cbv <;> rfl) ?_
  refine SW.seqRun tok hO (by cbv <;> rfl) (by trivial) ?_
  refine OpsW.callP haw (by cbv <;> rfl) ?_
  refine OpsW.run tok hO (by cbv <;> rfl) (by trivial) ?_
  exact SW.ret ⟨_, _, rfl, rfl, Eqv.of rfl⟩
set_option maxHeartbeats 8000000 in
theorem pr_notB (haw : Pure Try.prog 18 [] (.lit (.bool true))) (y : YardD) (n : Nat) (ex : Bool) (f : Nat → Int) (hn : 9 < n) (e17 : Pure Try.prog 17 [yardV y] (.sb true)) : Pure Try.prog 5 [yardV y, intsV n ex f] (.lit (.bool true)) := by
  obtain ⟨O, hO⟩ : ∃ O : Ar, O = std := ⟨_, rfl⟩
  refine pure_of_body tok 3 Try.func5 en5 rfl ⟨yardV_below y, intsV_below _ _ _, trivial⟩ Below.lit ?_
  refine SW.seqRun tok hO (by cbv <;> rfl) (by trivial) ?_
  refine SW.seq ?_
  refine SW.seqRun tok hO (by cbv <;> rfl) (by trivial) ?_
  refine OpsW.callP e17 (by cbv <;> rfl) ?_
  refine OpsW.run tok hO (by cbv <;> rfl) (by trivial) ?_
  refine OpsW.splitG (by cbv <;> rfl) (fun hw1 => by first | (cases hw1; done) | (subst hO; simp [std, hn] at hw1; done) | (subst hO; simp [std, hn] at hw1; omega)) (fun hw1 => ?_)
  refine OpsW.run tok hO (by cbv <;> rfl) (by trivial) ?_
  refine SW.condS (by cbv <;> rfl) (fun hw2 => ?_) (fun hw2 => by first | (cases hw2; done) | (subst hO; simp [std, hn] at hw2; done) | (subst hO; simp [std, hn] at hw2; omega))
  refine SW.seqRun tok hO (by cbv <;> rfl) (by trivial) ?_
  refine OpsW.callP haw (by cbv <;> rfl) ?_
  refine OpsW.run tok hO (by cbv <;> rfl) (by trivial) ?_
  exact SW.ret ⟨_, _, rfl, rfl, Eqv.of rfl⟩
set_option maxHeartbeats 8000000 in
theorem pr_pre (y : YardD) (n : Nat) (hn9 : n ≤ 9) (ex : Bool) (f : Nat → Int) (V E F W : Int) (PV : AV) (IS : Bool) (hW : W = 0) (e17 : Pure Try.prog 17 [yardV y] (.sb true)) (e20 : Pure Try.prog 20 [yardV y] (yardV y)) (e33 : Pure Try.prog 33 [yardV y] (.tup [iV V, iV E])) (e34 : Pure Try.prog 34 [yardV y] (.tup [PV, iV F])) (e22 : Pure Try.prog 22 [intsV n ex f] (intsV n false f)) (e35 : Pure Try.prog 35 [yardV y, intsV n false f] (.sb IS)) (e24 : Pure Try.prog 24 [yardV y] (iV W))
    (htail : ∀ (gg : Nat → AV), AllP (fun p => gg p.1 = p.2) [(1, intsV n ex f), (2, .ptr 0 0), (5, iV V), (6, iV E), (7, PV), (8, iV F), (9, .sb IS)] → SW Try.prog none (restC 6 (bodyF Try.f5)) (trueQ3 Try.f5) ⟨⟨137, gg⟩, []⟩ ⟨[(0, .cells none false (yardC y))], 1⟩) : Pure Try.prog 5 [yardV y, intsV n ex f] (.lit (.bool true)) := by
  obtain ⟨O, hO⟩ : ∃ O : Ar, O = std := ⟨_, rfl⟩
  have hn : ¬ 9 < n := by omega
  refine pure_of_body tok 3 Try.func5 en5 rfl ⟨yardV_below y, intsV_below _ _ _, trivial⟩ Below.lit ?_
  refine SW.seqRun tok hO (by cbv <;> rfl) (by trivial) ?_
  refine SW.seq ?_
  refine SW.seqRun tok hO (by cbv <;> rfl) (by trivial) ?_
  refine OpsW.callP e17 (by cbv <;> rfl) ?_
  refine OpsW.run tok hO (by cbv <;> rfl) (by trivial) ?_
  refine OpsW.splitG (by cbv <;> rfl) (fun hw1 => by first | (cases hw1; done) | (subst hO; simp [std, hn, hW] at hw1; done) | (subst hO; simp [std, hn, hW] at hw1; omega)) (fun hw1 => ?_)
  refine OpsW.run tok hO (by cbv <;> rfl) (by trivial) ?_
  refine SW.condS (by cbv <;> rfl) (fun hw2 => by first | (cases hw2; done) | (subst hO; simp [std, hn, hW] at hw2; done) | (subst hO; simp [std, hn, hW] at hw2; omega)) (fun hw2 => SW.skip ?_)
  refine SW.seqRun tok hO (by cbv <;> rfl) (by trivial) ?_
  refine OpsW.callP e20 (by cbv <;> rfl) ?_
  refine OpsW.run tok hO (by cbv <;> rfl) (by trivial) ?_
  refine OpsW.callP e33 (by cbv <;> rfl) ?_
  refine OpsW.run tok hO (by cbv <;> rfl) (by trivial) ?_
  refine SW.seqRun tok hO (by cbv <;> rfl) (by trivial) ?_
  refine OpsW.callP e20 (by cbv <;> rfl) ?_
  refine OpsW.run tok hO (by cbv <;> rfl) (by trivial) ?_
  refine OpsW.callP e34 (by cbv <;> rfl) ?_
  refine OpsW.run tok hO (by cbv <;> rfl) (by trivial) ?_
  refine SW.seqRun tok hO (by cbv <;> rfl) (by trivial) ?_
  refine OpsW.callP e20 (by cbv <;> rfl) ?_
  refine OpsW.run tok hO (by cbv <;> rfl) (by trivial) ?_
  refine OpsW.callP e22 (by cbv <;> rfl) ?_
  refine OpsW.run tok hO (by cbv <;> rfl) (by trivial) ?_
  refine OpsW.callP e35 (by cbv <;> rfl) ?_
  refine OpsW.run tok hO (by cbv <;> rfl) (by trivial) ?_
  refine SW.seq ?_
  refine SW.seqRun tok hO (by cbv <;> rfl) (by trivial) ?_
  refine OpsW.callP e24 (by cbv <;> rfl) ?_
  refine OpsW.run tok hO (by cbv <;> rfl) (by trivial) ?_
  refine SW.seqRun tok hO (by cbv <;> rfl) (by trivial) ?_
  refine SW.condS (by cbv <;> rfl) (fun hw3 => by first | (cases hw3; done) | (subst hO; simp [std, hn, hW] at hw3; done) | (subst hO; simp [std, hn, hW] at hw3; omega)) (fun hw3 => SW.skip ?_)
  exact htail _ ⟨rfl, rfl, rfl, rfl, rfl, rfl, rfl, trivial⟩
set_option maxHeartbeats 8000000 in
theorem pr_bad (haw : Pure Try.prog 18 [] (.lit (.bool true))) (y : YardD) (n : Nat) (hn9 : n ≤ 9) (ex : Bool) (f : Nat → Int) (W : Int) (hW : ¬ W = 0) (e17 : Pure Try.prog 17 [yardV y] (.sb true)) (e20 : Pure Try.prog 20 [yardV y] (yardV y)) (e33 : Pure Try.prog 33 [yardV y] (.tup [iV 0, iV W])) (e34 : Pure Try.prog 34 [yardV y] (.tup [nl3, iV W])) (e22 : Pure Try.prog 22 [intsV n ex f] (intsV n false f)) (e35 : Pure Try.prog 35 [yardV y, intsV n false f] (.sb false)) (e24 : Pure Try.prog 24 [yardV y] (iV W)) : Pure Try.prog 5 [yardV y, intsV n ex f] (.lit (.bool true)) := by
  obtain ⟨O, hO⟩ : ∃ O : Ar, O = std := ⟨_, rfl⟩
  have hn : ¬ 9 < n := by omega
  refine pure_of_body tok 3 Try.func5 en5 rfl ⟨yardV_below y, intsV_below _ _ _, trivial⟩ Below.lit ?_
  refine SW.seqRun tok hO (by cbv <;> rfl) (by trivial) ?_
  refine SW.seq ?_
  refine SW.seqRun tok hO (by cbv <;> rfl) (by trivial) ?_
  refine OpsW.callP e17 (by cbv <;> rfl) ?_
  refine OpsW.run tok hO (by cbv <;> rfl) (by trivial) ?_
  refine OpsW.splitG (by cbv <;> rfl) (fun hw1 => by first | (cases hw1; done) | (subst hO; simp [std, hn, hW] at hw1; done) | (subst hO; simp [std, hn, hW] at hw1; omega)) (fun hw1 => ?_)
  refine OpsW.run tok hO (by cbv <;> rfl) (by trivial) ?_
  refine SW.condS (by cbv <;> rfl) (fun hw2 => by first | (cases hw2; done) | (subst hO; simp [std, hn, hW] at hw2; done) | (subst hO; simp [std, hn, hW] at hw2; omega)) (fun hw2 => SW.skip ?_)
  refine SW.seqRun tok hO (by cbv <;> rfl) (by trivial) ?_
  refine OpsW.callP e20 (by cbv <;> rfl) ?_
  refine OpsW.run tok hO (by cbv <;> rfl) (by trivial) ?_
  refine OpsW.callP e33 (by cbv <;> rfl) ?_
  refine OpsW.run tok hO (by cbv <;> rfl) (by trivial) ?_
  refine SW.seqRun tok hO (by cbv <;> rfl) (by trivial) ?_
  refine OpsW.callP e20 (by cbv <;> rfl) ?_
  refine OpsW.run tok hO (by cbv <;> rfl) (by trivial) ?_
  refine OpsW.callP e34 (by cbv <;> rfl) ?_
  refine OpsW.run tok hO (by cbv <;> rfl) (by trivial) ?_
  refine SW.seqRun tok hO (by cbv <;> rfl) (by trivial) ?_
  refine OpsW.callP e20 (by cbv <;> rfl) ?_
  refine OpsW.run tok hO (by cbv <;> rfl) (by trivial) ?_
  refine OpsW.callP e22 (by cbv <;> rfl) ?_
  refine OpsW.run tok hO (by cbv <;> rfl) (by trivial) ?_
  refine OpsW.callP e35 (by cbv <;> rfl) ?_
  refine OpsW.run tok hO (by cbv <;> rfl) (by trivial) ?_
  refine SW.seq ?_
  refine SW.seqRun tok hO (by cbv <;> rfl) (by trivial) ?_
  refine OpsW.callP e24 (by cbv <;> rfl) ?_
  refine OpsW.run tok hO (by cbv <;> rfl) (by trivial) ?_
  refine SW.seqRun tok hO (by cbv <;> rfl) (by trivial) ?_
  refine SW.condS (by cbv <;> rfl) (fun hw3 => ?_) (fun hw3 => by first | (cases hw3; done) | (subst hO; simp [std, hn, hW] at hw3; done) | (subst hO; simp [std, hn, hW] at hw3; omega))
  refine SW.seqRun tok hO (by cbv <;> rfl) (by trivial) ?_
  refine OpsW.splitG (by cbv <;> rfl) (fun hw4 => ?_) (fun hw4 => by first | (cases hw4; done) | (subst hO; simp [std, hn, hW] at hw4; done) | (subst hO; simp [std, hn, hW] at hw4; omega))
  refine OpsW.run tok hO (by cbv <;> rfl) (by trivial) ?_
  refine OpsW.splitG (by cbv <;> rfl) (fun hw5 => ?_) (fun hw5 => by first | (cases hw5; done) | (subst hO; simp [std, hn, hW] at hw5; done) | (subst hO; simp [std, hn, hW] at hw5; omega))
  refine OpsW.run tok hO (by cbv <;> rfl) (by trivial) ?_
  refine OpsW.splitG (by cbv <;> rfl) (fun hw6 => ?_) (fun hw6 => by first | (cases hw6; done) | (subst hO; simp [std, hn, hW] at hw6; done) | (subst hO; simp [std, hn, hW] at hw6; omega))
  refine OpsW.run tok hO (by cbv <;> rfl) (by trivial) ?_
  refine OpsW.splitG (by cbv <;> rfl) (fun hw7 => ?_) (fun hw7 => by first | (cases hw7; done) | (subst hO; simp [std, hn, hW] at hw7; done) | (subst hO; simp [std, hn, hW] at hw7; omega))
  refine OpsW.run tok hO (by cbv <;> rfl) (by trivial) ?_
  refine OpsW.splitG (by cbv <;> rfl) (fun hw8 => ?_) (fun hw8 => by first | (cases hw8; done) | (subst hO; simp [std, hn, hW] at hw8; done) | (subst hO; simp [std, hn, hW] at hw8; omega))
  refine OpsW.run tok hO (by cbv <;> rfl) (by trivial) ?_
  refine OpsW.callP haw (by cbv <;> rfl) ?_
  refine OpsW.run tok hO (by cbv <;> rfl) (by trivial) ?_
  exact SW.ret ⟨_, _, rfl, rfl, Eqv.of rfl⟩
set_option maxHeartbeats 8000000 in
theorem pr_noR (y : YardD) (n : Nat) (ex : Bool) (f : Nat → Int) (V E F : Int) (PV : AV) (e36 : Pure Try.prog 36 [yardV y, intsV n ex f] (.tup [iV 0, .lit (.bool false)]))
    (htail : ∀ (gg : Nat → AV), AllP (fun p => gg p.1 = p.2) [(2, .ptr 0 0), (5, iV V), (6, iV E), (7, PV), (8, iV F)] → SW Try.prog none (restC 8 (bodyF Try.f5)) (trueQ3 Try.f5) ⟨⟨137, gg⟩, []⟩ ⟨[(0, .cells none false (yardC y))], 1⟩)
    (gg : Nat → AV) (h : AllP (fun p => gg p.1 = p.2) [(1, intsV n ex f), (2, .ptr 0 0), (5, iV V), (6, iV E), (7, PV), (8, iV F), (9, .sb false)]) :
    SW Try.prog none (restC 6 (bodyF Try.f5)) (trueQ3 Try.f5) ⟨⟨137, gg⟩, []⟩ ⟨[(0, .cells none false (yardC y))], 1⟩ := by
  obtain ⟨O, hO⟩ : ∃ O : Ar, O = std := ⟨_, rfl⟩
  obtain ⟨g1, g2, g3, g4, g5, g6, g7, _⟩ := h
  simp only at g1 g2 g3 g4 g5 g6 g7
  rw [← updT_self g1, ← updT_self g2, ← updT_self g3, ← updT_self g4, ← updT_self g5, ← updT_self g6, ← updT_self g7]
  refine (show SW Try.prog none (.seq (.region _ _ _) _) _ _ _ from ?_)
  refine SW.seqRun tok hO (by cbv <;> rfl) (by trivial) ?_
  refine OpsW.callP e36 (by cbv <;> rfl) ?_
  refine OpsW.run tok hO (by cbv <;> rfl) (by trivial) ?_
  refine SW.seq ?_
  refine SW.seqRun tok hO (by cbv <;> rfl) (by trivial) ?_
  refine SW.condS (by cbv <;> rfl) (fun hw1 => by first | (cases hw1; done) | (subst hO; simp [std] at hw1; done) | (subst hO; simp [std] at hw1; omega)) (fun hw1 => SW.skip ?_)
  exact htail _ ⟨rfl, rfl, rfl, rfl, rfl, trivial⟩
set_option maxHeartbeats 8000000 in
theorem pr_yesR (y : YardD) (n : Nat) (ex : Bool) (f : Nat → Int) (V E F : Int) (PV : AV) (B : Int) (C : Bool) (e36 : Pure Try.prog 36 [yardV y, intsV n ex f] (.tup [iV B, .lit (.bool true)])) (e37 : Pure Try.prog 37 [yardV y, iV B] (.sb C))
    (htail : ∀ (gg : Nat → AV), AllP (fun p => gg p.1 = p.2) [(2, .ptr 0 0), (5, iV V), (6, iV E), (7, PV), (8, iV F)] → SW Try.prog none (restC 8 (bodyF Try.f5)) (trueQ3 Try.f5) ⟨⟨137, gg⟩, []⟩ ⟨[(0, .cells none false (yardC y))], 1⟩)
    (gg : Nat → AV) (h : AllP (fun p => gg p.1 = p.2) [(1, intsV n ex f), (2, .ptr 0 0), (5, iV V), (6, iV E), (7, PV), (8, iV F), (9, .sb (!C))]) :
    SW Try.prog none (restC 6 (bodyF Try.f5)) (trueQ3 Try.f5) ⟨⟨137, gg⟩, []⟩ ⟨[(0, .cells none false (yardC y))], 1⟩ := by
  obtain ⟨O, hO⟩ : ∃ O : Ar, O = std := ⟨_, rfl⟩
  obtain ⟨g1, g2, g3, g4, g5, g6, g7, _⟩ := h
  simp only at g1 g2 g3 g4 g5 g6 g7
  rw [← updT_self g1, ← updT_self g2, ← updT_self g3, ← updT_self g4, ← updT_self g5, ← updT_self g6, ← updT_self g7]
  refine (show SW Try.prog none (.seq (.region _ _ _) _) _ _ _ from ?_)
  refine SW.seqRun tok hO (by cbv <;> rfl) (by trivial) ?_
  refine OpsW.callP e36 (by cbv <;> rfl) ?_
  refine OpsW.run tok hO (by cbv <;> rfl) (by trivial) ?_
  refine SW.seq ?_
  refine SW.seqRun tok hO (by cbv <;> rfl) (by trivial) ?_
  refine OpsW.callP e37 (by cbv <;> rfl) ?_
  refine OpsW.run tok hO (by cbv <;> rfl) (by trivial) ?_
  refine SW.condS (by cbv <;> rfl) (fun hx => by subst hO; cases C <;> first | (cases hx; done) | (simp [std] at hx; done)) (fun hw1 => SW.skip ?_)
  exact htail _ ⟨rfl, rfl, rfl, rfl, rfl, trivial⟩
set_option maxHeartbeats 8000000 in
theorem pr_few0 (y : YardD) (F : Int) (PV : AV) (e38 : Pure Try.prog 38 [yardV y] (iV 0))
    (htail : ∀ (gg : Nat → AV), AllP (fun p => gg p.1 = p.2) [(2, .ptr 0 0), (7, PV), (8, iV F)] → SW Try.prog none (restC 9 (bodyF Try.f5)) (trueQ3 Try.f5) ⟨⟨137, gg⟩, []⟩ ⟨[(0, .cells none false (yardC y))], 1⟩)
    (gg : Nat → AV) (h : AllP (fun p => gg p.1 = p.2) [(2, .ptr 0 0), (5, iV 0), (6, iV 10), (7, PV), (8, iV F)]) :
    SW Try.prog none (restC 8 (bodyF Try.f5)) (trueQ3 Try.f5) ⟨⟨137, gg⟩, []⟩ ⟨[(0, .cells none false (yardC y))], 1⟩ := by
  obtain ⟨O, hO⟩ : ∃ O : Ar, O = std := ⟨_, rfl⟩
  obtain ⟨g1, g2, g3, g4, g5, _⟩ := h
  simp only at g1 g2 g3 g4 g5
  rw [← updT_self g1, ← updT_self g2, ← updT_self g3, ← updT_self g4, ← updT_self g5]
  refine (show SW Try.prog none (.seq (.seq (.region _ _ _) _) _) _ _ _ from ?_)
  refine SW.seq ?_
  refine SW.seqRun tok hO (by cbv <;> rfl) (by trivial) ?_
  refine OpsW.callP e38 (by cbv <;> rfl) ?_
  refine OpsW.run tok hO (by cbv <;> rfl) (by trivial) ?_
  refine SW.seqRun tok hO (by cbv <;> rfl) (by trivial) ?_
  refine OpsW.splitG (by cbv <;> rfl) (fun hw1 => ?_) (fun hw1 => by first | (cases hw1; done) | (subst hO; simp [std] at hw1; done) | (subst hO; simp [std] at hw1; omega))
  refine OpsW.run tok hO (by cbv <;> rfl) (by trivial) ?_
  refine OpsW.splitG (by cbv <;> rfl) (fun hw2 => by first | (cases hw2; done) | (subst hO; simp [std] at hw2; done) | (subst hO; simp [std] at hw2; omega)) (fun hw2 => ?_)
  refine OpsW.run tok hO (by cbv <;> rfl) (by trivial) ?_
  refine OpsW.splitG (by cbv <;> rfl) (fun hw3 => by first | (cases hw3; done) | (subst hO; simp [std] at hw3; done) | (subst hO; simp [std] at hw3; omega)) (fun hw3 => ?_)
  refine OpsW.run tok hO (by cbv <;> rfl) (by trivial) ?_
  refine OpsW.splitG (by cbv <;> rfl) (fun hw4 => by first | (cases hw4; done) | (subst hO; simp [std] at hw4; done) | (subst hO; simp [std] at hw4; omega)) (fun hw4 => ?_)
  refine OpsW.run tok hO (by cbv <;> rfl) (by trivial) ?_
  refine SW.cond (t := false) (by cbv <;> rfl) (SW.skip ?_)
  exact htail _ ⟨rfl, rfl, rfl, trivial⟩
set_option maxHeartbeats 8000000 in
theorem pr_few1 (y : YardD) (R F : Int) (PV : AV) (hR : 0 < R) (hR0 : ¬ R = 0) (e38 : Pure Try.prog 38 [yardV y] (iV R))
    (htail : ∀ (gg : Nat → AV), AllP (fun p => gg p.1 = p.2) [(2, .ptr 0 0), (7, PV), (8, iV F)] → SW Try.prog none (restC 9 (bodyF Try.f5)) (trueQ3 Try.f5) ⟨⟨137, gg⟩, []⟩ ⟨[(0, .cells none false (yardC y))], 1⟩)
    (gg : Nat → AV) (h : AllP (fun p => gg p.1 = p.2) [(2, .ptr 0 0), (5, iV R), (6, iV 0), (7, PV), (8, iV F)]) :
    SW Try.prog none (restC 8 (bodyF Try.f5)) (trueQ3 Try.f5) ⟨⟨137, gg⟩, []⟩ ⟨[(0, .cells none false (yardC y))], 1⟩ := by
  obtain ⟨O, hO⟩ : ∃ O : Ar, O = std := ⟨_, rfl⟩
  obtain ⟨g1, g2, g3, g4, g5, _⟩ := h
  simp only at g1 g2 g3 g4 g5
  rw [← updT_self g1, ← updT_self g2, ← updT_self g3, ← updT_self g4, ← updT_self g5]
  refine (show SW Try.prog none (.seq (.seq (.region _ _ _) _) _) _ _ _ from ?_)
  refine SW.seq ?_
  refine SW.seqRun tok hO (by cbv <;> rfl) (by trivial) ?_
  refine OpsW.callP e38 (by cbv <;> rfl) ?_
  refine OpsW.run tok hO (by cbv <;> rfl) (by trivial) ?_
  refine SW.seqRun tok hO (by cbv <;> rfl) (by trivial) ?_
  refine OpsW.splitG (by cbv <;> rfl) (fun hw1 => by first | (cases hw1; done) | (subst hO; simp [std, hR, hR0] at hw1; done) | (subst hO; simp [std, hR, hR0] at hw1; omega)) (fun hw1 => ?_)
  refine OpsW.run tok hO (by cbv <;> rfl) (by trivial) ?_
  refine OpsW.splitG (by cbv <;> rfl) (fun hw2 => ?_) (fun hw2 => by first | (cases hw2; done) | (subst hO; simp [std, hR, hR0] at hw2; done) | (subst hO; simp [std, hR, hR0] at hw2; omega))
  refine OpsW.run tok hO (by cbv <;> rfl) (by trivial) ?_
  refine OpsW.splitG (by cbv <;> rfl) (fun hw3 => by first | (cases hw3; done) | (subst hO; simp [std, hR, hR0] at hw3; done) | (subst hO; simp [std, hR, hR0] at hw3; omega)) (fun hw3 => ?_)
  refine OpsW.run tok hO (by cbv <;> rfl) (by trivial) ?_
  refine SW.condS (by cbv <;> rfl) (fun hw4 => by first | (cases hw4; done) | (subst hO; simp [std, hR, hR0] at hw4; done) | (subst hO; simp [std, hR, hR0] at hw4; omega)) (fun hw4 => SW.skip ?_)
  exact htail _ ⟨rfl, rfl, rfl, trivial⟩
set_option maxHeartbeats 8000000 in
theorem pr_none (haw : Pure Try.prog 18 [] (.lit (.bool true))) (y : YardD) (e39 : Pure Try.prog 39 [yardV y] (.tup [nl3, .lit (.bool false)]))
    (gg : Nat → AV) (h : AllP (fun p => gg p.1 = p.2) [(2, .ptr 0 0), (7, nl3), (8, iV 7)]) :
    SW Try.prog none (restC 9 (bodyF Try.f5)) (trueQ3 Try.f5) ⟨⟨137, gg⟩, []⟩ ⟨[(0, .cells none false (yardC y))], 1⟩ := by
  obtain ⟨O, hO⟩ : ∃ O : Ar, O = std := ⟨_, rfl⟩
  obtain ⟨g1, g2, g3, _⟩ := h
  simp only at g1 g2 g3
  rw [← updT_self g1, ← updT_self g2, ← updT_self g3]
  refine (show SW Try.prog none (.seq (.region _ _ _) _) _ _ _ from ?_)
  refine SW.seqRun tok hO (by cbv <;> rfl) (by trivial) ?_
  refine OpsW.callP e39 (by cbv <;> rfl) ?_
  refine OpsW.run tok hO (by cbv <;> rfl) (by trivial) ?_
  refine SW.seq ?_
  refine SW.seqRun tok hO (by cbv <;> rfl) (by trivial) ?_
  refine SW.cond (t := true) (by cbv <;> rfl) ?_
  refine SW.seqRun tok hO (by cbv <;> rfl) (by trivial) ?_
  refine OpsW.splitG (by cbv <;> rfl) (fun hw1 => ?_) (fun hw1 => by first | (cases hw1; done) | (subst hO; simp [std] at hw1; done) | (subst hO; simp [std] at hw1; omega))
  refine OpsW.run tok hO (by cbv <;> rfl) (by trivial) ?_
  refine OpsW.splitG (by cbv <;> rfl) (fun hw2 => ?_) (fun hw2 => by first | (cases hw2; done) | (subst hO; simp [std] at hw2; done) | (subst hO; simp [std] at hw2; omega))
  refine OpsW.run tok hO (by cbv <;> rfl) (by trivial) ?_
  refine OpsW.callP haw (by cbv <;> rfl) ?_
  refine OpsW.run tok hO (by cbv <;> rfl) (by trivial) ?_
  exact SW.ret ⟨_, _, rfl, rfl, Eqv.of rfl⟩
set_option maxHeartbeats 8000000 in
theorem pr_some (haw : Pure Try.prog 18 [] (.lit (.bool true))) (y : YardD) (LV : AV) (e39 : Pure Try.prog 39 [yardV y] (.tup [LV, .lit (.bool true)])) (e30 : Pure Try.prog 30 [LV, LV] (.sb true))
    (gg : Nat → AV) (h : AllP (fun p => gg p.1 = p.2) [(2, .ptr 0 0), (7, LV), (8, iV 0)]) :
    SW Try.prog none (restC 9 (bodyF Try.f5)) (trueQ3 Try.f5) ⟨⟨137, gg⟩, []⟩ ⟨[(0, .cells none false (yardC y))], 1⟩ := by
  obtain ⟨O, hO⟩ : ∃ O : Ar, O = std := ⟨_, rfl⟩
  obtain ⟨g1, g2, g3, _⟩ := h
  simp only at g1 g2 g3
  rw [← updT_self g1, ← updT_self g2, ← updT_self g3]
  refine (show SW Try.prog none (.seq (.region _ _ _) _) _ _ _ from ?_)
  refine SW.seqRun tok hO (by cbv <;> rfl) (by trivial) ?_
  refine OpsW.callP e39 (by cbv <;> rfl) ?_
  refine OpsW.run tok hO (by cbv <;> rfl) (by trivial) ?_
  refine SW.seq ?_
  refine SW.seqRun tok hO (by cbv <;> rfl) (by trivial) ?_
  refine SW.cond (t := false) (by cbv <;> rfl) (SW.skip ?_)
  refine SW.seqRun tok hO (by cbv <;> rfl) (by trivial) ?_
  refine OpsW.splitG (by cbv <;> rfl) (fun hw1 => ?_) (fun hw1 => by first | (cases hw1; done) | (subst hO; simp [std] at hw1; done) | (subst hO; simp [std] at hw1; omega))
  refine OpsW.run tok hO (by cbv <;> rfl) (by trivial) ?_
  refine OpsW.callP e30 (by cbv <;> rfl) ?_
  refine OpsW.run tok hO (by cbv <;> rfl) (by trivial) ?_
  refine OpsW.splitG (by cbv <;> rfl) (fun hw2 => ?_) (fun hw2 => by first | (cases hw2; done) | (subst hO; simp [std] at hw2; done) | (subst hO; simp [std] at hw2; omega))
  refine OpsW.run tok hO (by cbv <;> rfl) (by trivial) ?_
  refine OpsW.callP haw (by cbv <;> rfl) ?_
  refine OpsW.run tok hO (by cbv <;> rfl) (by trivial) ?_
  exact SW.ret ⟨_, _, rfl, rfl, Eqv.of rfl⟩
end Go.Fz
set_option linter.unusedVariables false
namespace Go.Fz
open Go.Proofs
set_option maxRecDepth 100000
def bN (a : Bool) (k : Nat) : Nat := if a = true then k else 0
theorem bits_ex (a b c d e f : Bool) : ∃ o : Nat, o < 64 ∧ (bitB (o : Int) 0 = a ∧ bitB (o : Int) 1 = b ∧ bitB (o : Int) 2 = c ∧ bitB (o : Int) 3 = d ∧ bitB (o : Int) 4 = e ∧ bitB (o : Int) 5 = f) :=
  ⟨bN a 1 + bN b 2 + bN c 4 + bN d 8 + bN e 16 + bN f 32, by cases a <;> cases b <;> cases c <;> cases d <;> cases e <;> cases f <;> decide +kernel⟩
theorem low_bits : ∀ (n : Fin 7) (o : Fin 64), (∀ j : Fin 6, n.1 ≤ j.1 → bitB (o.1 : Int) j.1 = false) → o.1 < 2 ^ n.1 := by decide +kernel
theorem mem_ris6 {n : Nat} (hn : n ≤ 6) {l : List Nat} (h1 : l.Pairwise (· < ·)) (h2 : ∀ p ∈ l, p < n) : l ∈ risL n := by
  obtain ⟨o, ho, a0, a1, a2, a3, a4, a5⟩ := bits_ex (decide (0 ∈ l)) (decide (1 ∈ l)) (decide (2 ∈ l)) (decide (3 ∈ l)) (decide (4 ∈ l)) (decide (5 ∈ l))
  have hb : ∀ j, j < 6 → bitB (o : Int) j = decide (j ∈ l) := fun j hj => by
    match j, hj with
    | 0, _ => exact a0
    | 1, _ => exact a1
    | 2, _ => exact a2
    | 3, _ => exact a3
    | 4, _ => exact a4
    | 5, _ => exact a5
  have hlt := low_bits ⟨n, by omega⟩ ⟨o, ho⟩ fun j hj => by
    show bitB (o : Int) j.1 = false
    rw [hb j.1 j.2]
    exact decide_eq_false fun hm => by
      have := h2 _ hm
      simp only at hj
      omega
  have hr := sel_ris6 hn hlt
  have hs := selL_incr (o : Int) 6
  have e1 : ∀ b ∈ l, b ∈ selL (o : Int) 6 := fun b hbm => by
    have := h2 b hbm
    exact selL_nbmem.2 ⟨by omega, by rw [hb b (by omega)]; exact decide_eq_true hbm⟩
  have e2 : ∀ b ∈ selL (o : Int) 6, b ∈ l := fun b hbm => by
    obtain ⟨k1, k2⟩ := selL_nbmem.1 hbm
    rw [hb b k1] at k2
    exact of_decide_eq_true k2
  have s1 := sub_sorted h1 hs e1
  have s2 := sub_sorted hs h1 e2
  have := s1.eq_of_length (Nat.le_antisymm s1.length_le s2.length_le)
  rw [this]; exact hr
theorem msk_bl {y : YardD} {n : Nat} {f : Nat → Int} (h : allN n (y.isB f) = true) : mskN f n = mskL (blL n f) := by
  obtain ⟨h1, h2⟩ := beds_ris h
  have : ∀ i, i ≤ n → mskN f i = mskL ((blL n f).take i) := fun i => by
    induction i with
    | zero => intro _; rfl
    | succ i ih =>
      intro hi
      rw [mskL_snoc _ _ (by rw [blL_len]; omega), ← ih (by omega)]
      have e : lI (blL n f) i = f i := by
        unfold lI
        rw [blL_get (by omega)]
        have := (h1 i (by omega)).1
        omega
      rw [e]; rfl
  have h3 := this n (Nat.le_refl _)
  rw [List.take_of_length_le (by rw [blL_len]; exact Nat.le_refl _)] at h3
  exact h3
theorem cleanProofs_ok (haw : Pure Try.prog 18 [] (.lit (.bool true))) (y : YardD) (n : Nat) (ex : Bool) (f : Nat → Int) : Pure Try.prog 5 [yardV y, intsV n ex f] (.lit (.bool true)) := by
  have e17 := thin_any y
  cases hT : y.thinB with
  | false =>
    rw [hT] at e17
    exact pr_notA haw y n ex f e17
  | true =>
    rw [hT] at e17
    by_cases hn9 : 9 < n
    · exact pr_notB haw y n ex f hn9 e17
    · obtain ⟨s1, s2⟩ := thin_small hT
      have e20 := yard_ok y (by omega) (by omega)
      have e33 := fewest_ok y (by omega) (by omega)
      have e34 := proof_ok y (by omega) (by omega)
      have e22 := list22_ok n ex f (by omega)
      have e35 := prove_ok y (by omega) (by omega) n false f (by omega)
      have e24 := fault24_ok y (by omega) (by omega)
      have hce := check_eq y
      by_cases hW : y.faultN = 0
      · have hc : y.check = 0 := hce.trans hW
        have hn6 := (y.fit_of_check hc).1.nb
        refine pr_pre y n (by omega) ex f y.fewN.1 y.fewN.2 y.prfV.2 y.faultN y.prfV.1 (y.proveB n f) hW e17 e20 e33 e34 e22 e35 e24 fun gg h => ?_
        have T2 : ∀ (gg : Nat → AV), AllP (fun p => gg p.1 = p.2) [(2, .ptr 0 0), (7, y.prfV.1), (8, iV y.prfV.2)] → SW Try.prog none (restC 9 (bodyF Try.f5)) (trueQ3 Try.f5) ⟨⟨137, gg⟩, []⟩ ⟨[(0, .cells none false (yardC y))], 1⟩ := fun gg h => by
          have e39 := refProof_ok hc
          rcases prf_cases hc with ⟨hq, hall⟩ | ⟨pre, l, post, hq, hE, hpre, hl⟩
          · have hfd : (risL y.nb).find? (fun l => !y.canL l) = none := List.find?_eq_none.2 fun l hl => by simp [hall l hl]
            rw [hfd] at e39
            rw [hq] at h
            exact pr_none haw y e39 gg h
          · have hfd : (risL y.nb).find? (fun l => !y.canL l) = some l := List.find?_eq_some_iff_append.2 ⟨by simp [hl], pre, post, hE, fun a ha => by simp [hpre a ha]⟩
            rw [hfd] at e39
            rw [hq] at h
            have hlen := ris_len6 hn6 (l := l) (by rw [hE]; simp)
            have e30 := same_ok l.length l.length false false (lI l) (lI l) (by omega) (by omega)
            rw [same_self] at e30
            exact pr_some haw y (lsV l) e39 e30 gg h
        have T1 : ∀ (gg : Nat → AV), AllP (fun p => gg p.1 = p.2) [(2, .ptr 0 0), (5, iV y.fewN.1), (6, iV y.fewN.2), (7, y.prfV.1), (8, iV y.prfV.2)] → SW Try.prog none (restC 8 (bodyF Try.f5)) (trueQ3 Try.f5) ⟨⟨137, gg⟩, []⟩ ⟨[(0, .cells none false (yardC y))], 1⟩ := fun gg h => by
          have e38 := refFew_ok hc
          have hfw : y.fewN = if y.check = 0 then (if y.canH 1 then (1, 0) else if y.canH 2 then (2, 0) else if y.canH 3 then (3, 0) else (0, 10)) else (0, y.check) := rfl
          rw [if_pos hc] at hfw
          have hcase : (y.fewR = 0 ∧ y.fewN = (0, 10)) ∨ (0 < y.fewR ∧ y.fewN = (y.fewR, 0)) := by
            unfold YardD.fewR
            rw [hfw]
            split
            · exact .inr ⟨by decide, rfl⟩
            · split
              · exact .inr ⟨by decide, rfl⟩
              · split
                · exact .inr ⟨by decide, rfl⟩
                · exact .inl ⟨rfl, rfl⟩
          rcases hcase with ⟨h1, h2⟩ | ⟨h1, h2⟩
          · rw [h1] at e38
            rw [h2] at h
            exact pr_few0 y y.prfV.2 y.prfV.1 e38 T2 gg h
          · rw [h2] at h
            exact pr_few1 y y.fewR y.prfV.2 y.prfV.1 h1 (by omega) e38 T2 gg h
        have e36 := isBeds_any y hn6 n ex f (by omega)
        have hpv : y.proveB n f = (allN n (y.isB f) && !y.canL (blL n f)) := by
          show (decide (y.check = 0) && allN n (y.isB f) && !y.canL (blL n f)) = _
          rw [decide_eq_true hc, Bool.true_and]
        cases hR : allN n (y.isB f) with
        | false =>
          rw [hR, Bool.false_and] at hpv
          have hV : y.ibV n f = .tup [iV 0, .lit (.bool false)] := by unfold YardD.ibV; rw [hR, if_neg (by decide)]
          rw [hV] at e36
          rw [hpv] at h
          exact pr_noR y n ex f y.fewN.1 y.fewN.2 y.prfV.2 y.prfV.1 e36 T1 gg h
        | true =>
          rw [hR, Bool.true_and] at hpv
          have hV : y.ibV n f = .tup [iV (mskN f n), .lit (.bool true)] := by unfold YardD.ibV; rw [hR, if_pos rfl]
          rw [hV] at e36
          rw [hpv] at h
          obtain ⟨k1, k2⟩ := blL_ris hR
          have hm := mem_ris6 hn6 k1 k2
          obtain ⟨⟨m1, m2⟩, m3, _⟩ := msk_fin6 ⟨y.nb, by omega⟩ _ hm
          have e37 := can_bits hc m1 m2
          rw [m3, ← msk_bl hR] at e37
          exact pr_yesR y n ex f y.fewN.1 y.fewN.2 y.prfV.2 y.prfV.1 (mskN f n) (y.canL (blL n f)) e36 e37 T1 gg h
      · have hcn : ¬ y.check = 0 := fun h => hW (hce.symm.trans h)
        have hfw : y.fewN = (0, y.faultN) := by
          show (if y.check = 0 then _ else (0, y.check)) = _
          rw [if_neg hcn, hce]
        have hpf : y.prfV = (nl3, y.faultN) := by
          unfold YardD.prfV
          rw [if_neg hcn, hce]
        have hpv : y.proveB n f = false := by
          show (decide (y.check = 0) && allN n (y.isB f) && !y.canL (blL n f)) = _
          rw [decide_eq_false hcn]; rfl
        rw [hfw] at e33
        rw [hpf] at e34
        rw [hpv] at e35
        exact pr_bad haw y n (by omega) ex f y.faultN hW e17 e20 e33 e34 e22 e35 e24
end Go.Fz
