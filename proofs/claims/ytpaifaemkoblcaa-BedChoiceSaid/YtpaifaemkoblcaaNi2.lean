/- Own work of the verifier of watercress: FzG2, FzE3, FzK1, FzK2, FzK3, FzK4, FzK4b, FzG8, FzG5, FzE4, FzE5, FzG6, FzE6, FzG4, FzG1, FzG7, FzG9, FzK6. -/
import Derived.Below
import Derived.CallsIn
import Derived.Carry
import Derived.ChangeKeysEq
import Derived.ChangeSame
import Derived.Deep.Slices
import Derived.DeepKeys4
import Derived.JoinedCond
import Derived.Laws.AppendOwn
import Derived.Laws.Cells
import Derived.Laws.CopyRow
import Derived.Laws.Cover3
import Derived.Laws.Entries
import Derived.Laws.NewFold
import Derived.Laws.Sem
import Derived.Laws.Small
import Derived.Laws.StructEq
import Derived.Laws.Tables
import Derived.Laws.World
import Derived.Lib.SmallJoins
import Derived.Maps.Keyed
import Derived.Maps.RangeRun
import Derived.OpenShut
import Derived.OrdersHeld
import Derived.OrdersIn
import Derived.ProofKit
import Derived.RangeFuncLeaves
import Derived.RangeFuncRecord
import Derived.Shelf.Abstract
import Derived.WalkKit
import Derived.WideKeyArgs
import Derived.Test.YtpaifaemkoblcaaNa16
import Derived.Test.YtpaifaemkoblcaaNa24
import Derived.Test.YtpaifaemkoblcaaNa25
import Derived.Test.YtpaifaemkoblcaaNa26
import Derived.Test.YtpaifaemkoblcaaNa19
import Derived.Test.YtpaifaemkoblcaaNa20
import Derived.Test.YtpaifaemkoblcaaNa21
import Derived.Test.YtpaifaemkoblcaaNa22
import Derived.Test.YtpaifaemkoblcaaNa23
import Derived.Test.YtpaifaemkoblcaaNa27
import Derived.Test.YtpaifaemkoblcaaNi0
import Derived.Test.YtpaifaemkoblcaaNa32
import Derived.Test.YtpaifaemkoblcaaNa35
import Derived.Test.YtpaifaemkoblcaaNa33
import Derived.Test.YtpaifaemkoblcaaNa34
import Derived.Test.YtpaifaemkoblcaaNa28
import Derived.Test.YtpaifaemkoblcaaNa29
import Derived.Test.YtpaifaemkoblcaaNa30
import Derived.Test.YtpaifaemkoblcaaNa31
import Derived.Test.YtpaifaemkoblcaaNa36
import Derived.Test.YtpaifaemkoblcaaNi1
import Derived.Test.YtpaifaemkoblcaaNa37
import Derived.Test.YtpaifaemkoblcaaNa38
import Derived.Test.YtpaifaemkoblcaaNa40
import Derived.Test.YtpaifaemkoblcaaNa39
import Derived.Test.YtpaifaemkoblcaaNa17
import Derived.Test.YtpaifaemkoblcaaNa18
import Derived.Test.YtpaifaemkoblcaaNa10
import Derived.Test.YtpaifaemkoblcaaNa12
import Derived.Test.YtpaifaemkoblcaaNa11
import Derived.Test.YtpaifaemkoblcaaNa13
import Derived.Test.YtpaifaemkoblcaaNa14
import Derived.Test.YtpaifaemkoblcaaNa0
import Derived.Test.YtpaifaemkoblcaaNa1
import Derived.Test.YtpaifaemkoblcaaNa2
import Derived.Test.YtpaifaemkoblcaaNa3
import Derived.Test.YtpaifaemkoblcaaNa4
import Derived.Test.YtpaifaemkoblcaaNa5
import Derived.Test.YtpaifaemkoblcaaNa6
import Derived.Test.YtpaifaemkoblcaaNa7
import Derived.Test.YtpaifaemkoblcaaNa8
import Derived.Test.YtpaifaemkoblcaaNa9
import Derived.Test.YtpaifaemkoblcaaProg
import Derived.Test.YtpaifaemkoblcaaRows
set_option linter.unusedVariables false
set_option linter.unusedSimpArgs false
set_option linter.unusedVariables false
namespace Go.Fz
open Go.Proofs
set_option maxRecDepth 100000
section
variable (f : FarmD) (b : Int) (ov : Bool) (lo hi : Int)
end
section
variable {f : FarmD} {b : Int} {ov : Bool} {lo hi : Int}
end
theorem ris_lens (n : Nat) : (risL n).Pairwise fun x y => x.length ≤ y.length := by
  unfold risL
  rw [List.pairwise_flatMap]
  refine ⟨fun m hm => ?_, ?_⟩
  · rw [List.pairwise_iff_forall_sublist]
    intro x y hxy
    have h1 := risE_len _ _ _ x (hxy.subset (by simp))
    have h2 := risE_len _ _ _ y (hxy.subset (by simp))
    omega
  · refine List.Pairwise.imp_of_mem (R := (· < ·)) ?_ List.pairwise_lt_range
    intro m m' _ _ hlt x hx y hy
    have h1 := risE_len _ _ _ x hx
    have h2 := risE_len _ _ _ y hy
    omega
theorem find_len {n : Nat} {p : List Nat → Bool} {l a : List Nat} (h : (risL n).find? p = some l) (ha : a ∈ risL n) (hp : p a = true) : l.length ≤ a.length := by
  obtain ⟨h1, pre, post, h2, h3⟩ := List.find?_eq_some_iff_append.1 h
  have hs := ris_lens n
  rw [h2] at ha hs
  rcases List.mem_append.1 ha with h4 | h4
  · have := h3 a h4
    rw [hp] at this; cases this
  · rcases List.mem_cons.1 h4 with rfl | h4
    · exact Nat.le_refl _
    · exact (List.pairwise_cons.1 (List.pairwise_append.1 hs).2.1).1 a h4
end Go.Fz
set_option linter.unusedVariables false
set_option linter.unusedSimpArgs false
namespace Go.Fz
open Go.Proofs
set_option maxRecDepth 100000
set_option maxHeartbeats 8000000 in
theorem isFed_core {f : FarmD} (N : Nat) (F : Nat → Int) (b : Nat) (hb : b < f.nb) (w d z : Int) (e28 : Pure Try.prog 28 [farmV f, intsV N false F, iV (b : Int)] (.agg [iV w, iV d, iV z])) : Pure Try.prog 84 [farmV f, intsV N false F, iV (b : Int)] (.sb (decide (f.need b ≤ d))) := by
  obtain ⟨O, hO⟩ : ∃ O : Ar, O = std := ⟨_, rfl⟩
  have hnat : ∀ i : Nat, O.nat (Int.ofNat i) = i := fun i => by subst hO; rfl
  have hin : 0 ≤ Int.ofNat b ∧ Int.ofNat b < Int.ofNat f.nb := ⟨Int.natCast_nonneg b, Int.ofNat_lt.2 hb⟩
  obtain ⟨nd, hnd⟩ : ∃ v, f.need b = v := ⟨_, rfl⟩
  have hnn : f.need (O.nat (Int.ofNat b)) = nd := by rw [hnat, hnd]
  refine pure_of_body tok 3 Try.func84 en84 rfl ⟨farmV_below f, intsV_below _ _ _, Below.lit, trivial⟩ Below.sb ?_
  refine SW.seqRun tok hO (by cbv <;> rfl) (by trivial) ?_
  refine SW.seqRunD tok mixed hO (by kernel_rfl) (by cbv <;> rfl) (by repeat (first | exact trivial | exact hin | exact hin.1 | exact hin.2 | refine ⟨?_, ?_⟩)) ?_
  refine AnyE.callP e28 (by cbv <;> rfl) (by cbv <;> rfl) ?_
  refine AnyE.run tok hO (by kernel_rfl) (by cbv <;> rfl) (by trivial) ?_
  refine AnyE.dec tok hO (by kernel_rfl) (by cbv <;> rfl) (by trivial) (fun h1 => ?_) (fun h1 => ?_) <;> refine AnyE.run tok hO (by kernel_rfl) (by cbv <;> rfl) (by trivial) ?_
  · refine SW.ret ⟨_, _, rfl, rfl, Eqv.bool ?_⟩
    have h2 : O.cmp .geq d (f.need (O.nat (Int.ofNat b))) = true := h1
    rw [hnn] at h2
    rw [hnd]
    exact (decide_eq_true (by subst hO; simpa [std] using h2)).symm
  · refine SW.ret ⟨_, _, rfl, rfl, Eqv.bool ?_⟩
    have h2 : O.cmp .geq d (f.need (O.nat (Int.ofNat b))) = false := h1
    rw [hnn] at h2
    rw [hnd]
    exact (decide_eq_false (by subst hO; simpa [std] using h2)).symm
theorem at_zL {f : FarmD} (g : f.Good) {l : List Int} (hl : f.isCh l) {b : Nat} (hb : b < f.nb) : Pure Try.prog 28 [farmV f, zV l, iV (b : Int)] (.agg [iV (f.wtr b 0 l), iV (f.wtr b 1 l), iV (f.wtr b 2 l)]) := by
  have hns := g.ns
  have h := at_ok f (good_small g) l.length false (zL l) (by rw [hl.1]; omega) (by rw [hl.1]; exact Nat.le_refl _) b hb
  obtain ⟨h1, h2, h3⟩ := f.water_eq g (zL l) (f.ch_fl g hl) b hb
  unfold FarmD.wtr
  rw [h1, h2, h3]
  exact h
theorem isFed84 {f : FarmD} (g : f.Good) {l : List Int} (hl : f.isCh l) {b : Nat} (hb : b < f.nb) : Pure Try.prog 84 [farmV f, zV l, iV (b : Int)] (.sb (f.fedOk b l)) := isFed_core l.length (zL l) b hb _ _ _ (at_zL g hl hb)
end Go.Fz
set_option linter.unusedVariables false
namespace Go.Fz
open Go.Proofs
set_option maxRecDepth 100000
def FarmD.movF (f : FarmD) (P : Nat → Bool) : FarmD := { f with notch := fun i => if P i = true then f.need i else f.notch i }
section
variable (f : FarmD) (P : Nat → Bool)
theorem movF_playS (fl : Nat → Int) : ∀ s, playS (f.movF P) fl s = playS f fl s
  | 0 => rfl
  | s + 1 => by
    show stepS (f.movF P) fl s (playS (f.movF P) fl s) = stepS f fl s (playS f fl s)
    rw [movF_playS fl s]; rfl
theorem movF_playB (K fl : Nat → Int) : ∀ i, playB (f.movF P) K fl i = playB f K fl i
  | 0 => movF_playS f P fl f.ns
  | i + 1 => by
    show stepB (f.movF P) K i (playB (f.movF P) K fl i) = stepB f K i (playB f K fl i)
    rw [movF_playB K fl i]; rfl
theorem movF_abT (below : Nat) : ∀ (m : Nat) (n : Int), (f.movF P).abT below m n = f.abT below m n
  | 0, _ => rfl
  | m + 1, n => by
    simp only [FarmD.abT]
    rw [show (f.movF P).down = f.down from rfl]
    simp only [movF_abT below m]
theorem movF_above (b below : Nat) : (f.movF P).aboveN b below = f.aboveN b below := movF_abT f P below f.nb (f.down b)
end
theorem movF_good {f : FarmD} (g : f.Good) (P : Nat → Bool) : (f.movF P).Good := by
  refine ⟨g.nb, g.ns, g.nl, g.pos, fun i hi => ?_, g.spring, g.look⟩
  obtain ⟨h1, h2, h3⟩ := g.bed i hi
  refine ⟨h1, ?_, h3⟩
  show 0 ≤ (if P i = true then f.need i else f.notch i) ∧ (if P i = true then f.need i else f.notch i) ≤ 9
  split <;> omega
theorem movK_at (f : FarmD) : ∀ (l : List Nat) (K : Nat → Int) (b : Nat), f.movK l K b = if b ∈ l then f.need b else K b
  | [], K, b => by simp [FarmD.movK]
  | a :: l, K, b => by
    have ih := movK_at f l (setK K a (f.need a)) b
    show f.movK l (setK K a (f.need a)) b = _
    rw [ih]
    by_cases h : b ∈ l
    · rw [if_pos h, if_pos (List.mem_cons_of_mem _ h)]
    · rw [if_neg h]
      unfold setK
      by_cases hb : b = a
      · subst hb; rw [if_pos rfl, if_pos (by simp)]
      · rw [if_neg hb, if_neg (by simp [hb, h])]
theorem movK_eq {f : FarmD} {l : List Nat} (hl : ∀ b ∈ l, b < f.nb) {P : Nat → Bool} (hP : ∀ b, b < f.nb → (P b = true ↔ b ∈ l)) : f.movK l (f.k0 f.nb) = (f.movF P).k0 f.nb := by
  funext b
  rw [movK_at]
  show _ = if b < f.nb then (if P b = true then f.need b else f.notch b) else 0
  by_cases hb : b < f.nb
  · rw [if_pos hb]
    by_cases h : b ∈ l
    · rw [if_pos h, if_pos ((hP b hb).2 h)]
    · rw [if_neg h, if_neg (fun h2 => h ((hP b hb).1 h2))]
      show (if b < f.nb then f.notch b else 0) = _
      rw [if_pos hb]
  · rw [if_neg hb, if_neg (fun h => hb (hl b h))]
    show (if b < f.nb then f.notch b else 0) = _
    rw [if_neg hb]
def FarmD.sufL (f : FarmD) (L : List (List Int)) (P : Nat → Bool) : Bool := L.all fun c => allN f.nb fun i => (f.movF P).fedOk i c
theorem suff_eq {f : FarmD} {l : List Nat} (hl : ∀ b ∈ l, b < f.nb) {P : Nat → Bool} (hP : ∀ b, b < f.nb → (P b = true ↔ b ∈ l)) : f.suff l = f.sufL f.trs P := by
  unfold FarmD.suff FarmD.sufL FarmD.allFed
  rw [movK_eq hl hP]
  have : ∀ c i, playF f ((f.movF P).k0 f.nb) (zL c) i 1 = (f.movF P).water (zL c) i 1 := fun c i => congrFun (congrFun (movF_playB f P ((f.movF P).k0 f.nb) (zL c) f.nb).symm i) 1
  simp only [this]
  rfl
theorem sufL_iff {f : FarmD} {L : List (List Int)} {P : Nat → Bool} : f.sufL L P = true ↔ ∀ c ∈ L, ∀ i, i < f.nb → (f.movF P).fedOk i c = true := by
  unfold FarmD.sufL allN
  rw [List.all_eq_true]
  exact ⟨fun h c hc i hi => (of_decide_eq_true (h c hc)) i hi, fun h c hc => decide_eq_true (h c hc)⟩
theorem flowN_sum {f : FarmD} (g : f.Good) (b : Nat) {fl : Nat → Int} (hfl : ∀ s, s < f.ns → 0 ≤ fl s ∧ fl s ≤ 30) : ∀ s, s ≤ f.ns → f.flowN b fl s = sumZ (fun s => if f.topN b (f.sb s).toNat = true then fl s else 0) s
  | 0, _ => rfl
  | s + 1, h => by
    have ih := flowN_sum g b hfl s (by omega)
    have hb := f.flowN_bound b fl g.ns hfl s (by omega)
    have h1 := hfl s (by omega)
    have hns := g.ns
    show (if f.topN b (f.sb s).toNat = true then add64 (f.flowN b fl s) (fl s) else f.flowN b fl s) = sumZ (fun s => if f.topN b (f.sb s).toNat = true then fl s else 0) s + (if f.topN b (f.sb s).toNat = true then fl s else 0)
    split
    · rw [add64_in _ _ (by omega) (by omega), ih]
    · rw [ih]; omega
theorem needN_sum {f : FarmD} (g : f.Good) (b : Nat) : ∀ i, i ≤ f.nb → f.needN b i = sumZ (fun i => if f.topN b i = true then f.need i else 0) i ∧ 0 ≤ f.needN b i ∧ f.needN b i ≤ 9 * i
  | 0, _ => ⟨rfl, Int.le_refl _, Int.le_refl _⟩
  | i + 1, h => by
    obtain ⟨ih, h1, h2⟩ := needN_sum g b i (by omega)
    have h3 := (g.bed i (by omega)).1
    have hnb := g.nb
    show (if f.topN b i = true then add64 (f.needN b i) (f.need i) else f.needN b i) = sumZ (fun i => if f.topN b i = true then f.need i else 0) i + (if f.topN b i = true then f.need i else 0) ∧ 0 ≤ (if f.topN b i = true then add64 (f.needN b i) (f.need i) else f.needN b i) ∧ (if f.topN b i = true then add64 (f.needN b i) (f.need i) else f.needN b i) ≤ 9 * ((i + 1 : Nat) : Int)
    split
    · rw [add64_in _ _ (by omega) (by omega), ih]
      refine ⟨rfl, ?_, ?_⟩ <;> omega
    · rw [ih]
      refine ⟨by omega, ?_, ?_⟩ <;> omega
theorem sumZ_le {g h : Nat → Int} : ∀ {n : Nat}, (∀ i, i < n → g i ≤ h i) → sumZ g n ≤ sumZ h n
  | 0, _ => Int.le_refl _
  | n + 1, k => by
    have h1 := sumZ_le (n := n) fun i hi => k i (by omega)
    have h2 := k n (by omega)
    show sumZ g n + g n ≤ sumZ h n + h n
    omega
theorem sumZ_at (v : Nat → Int) (b : Nat) : ∀ n : Nat, sumZ (fun j => if j = b then v j else 0) n = if b < n then v b else 0
  | 0 => by rw [if_neg (by omega)]; rfl
  | n + 1 => by
    show sumZ (fun j => if j = b then v j else 0) n + (if n = b then v n else 0) = _
    rw [sumZ_at v b n]
    by_cases h : n = b
    · subst h; rw [if_neg (by omega), if_pos rfl, if_pos (by omega)]; omega
    · rw [if_neg h]
      by_cases h2 : b < n
      · rw [if_pos h2, if_pos (by omega)]; omega
      · rw [if_neg h2, if_neg (by omega)]; rfl
theorem sumZ_if (S : Nat → Bool) (u : Nat → Nat → Int) (m : Nat) : ∀ n : Nat, sumZ (fun b => if S b = true then sumZ (u b) m else 0) n = sumZ (fun j => sumZ (fun b => if S b = true then u b j else 0) n) m
  | 0 => by
    show (0 : Int) = sumZ (fun _ => 0) m
    rw [sumZ_zero]
  | n + 1 => by
    show sumZ (fun b => if S b = true then sumZ (u b) m else 0) n + (if S n = true then sumZ (u n) m else 0) = sumZ (fun j => sumZ (fun b => if S b = true then u b j else 0) n + (if S n = true then u n j else 0)) m
    rw [sumZ_if S u m n, sumZ_add]
    congr 1
    by_cases h : S n = true
    · rw [if_pos h]; exact sumZ_congr fun j _ => by rw [if_pos h]
    · rw [if_neg h]; exact (sumZ_zero m).symm.trans (sumZ_congr fun j _ => by rw [if_neg h])
theorem sumZ_oneS (S : Nat → Bool) (x v : Int) : ∀ n : Nat, sumZ (fun b => if S b = true then (if x = (b : Int) then v else 0) else 0) n = if 0 ≤ x ∧ x < n ∧ S x.toNat = true then v else 0
  | 0 => by rw [if_neg (by omega)]; rfl
  | n + 1 => by
    show sumZ (fun b => if S b = true then (if x = (b : Int) then v else 0) else 0) n + (if S n = true then (if x = (n : Int) then v else 0) else 0) = _
    rw [sumZ_oneS S x v n]
    by_cases h : x = (n : Int)
    · subst h
      have e : ((n : Nat) : Int).toNat = n := rfl
      rw [e, if_neg (by omega)]
      by_cases hs : S n = true
      · rw [if_pos hs, if_pos rfl, if_pos ⟨by omega, by omega, hs⟩]; omega
      · rw [if_neg hs, if_neg (fun h => hs h.2.2)]; rfl
    · rw [if_neg h]
      have : (if S n = true then (0 : Int) else 0) = 0 := by split <;> rfl
      rw [this]
      by_cases h2 : 0 ≤ x ∧ x < n ∧ S x.toNat = true
      · rw [if_pos h2, if_pos ⟨h2.1, by omega, h2.2.2⟩]; omega
      · rw [if_neg h2, if_neg (fun h3 => h2 ⟨h3.1, by omega, h3.2.2⟩)]; rfl
theorem above_self {f : FarmD} (g : f.Good) {b : Nat} (hb : b < f.nb) : f.aboveN b b = false := by
  cases h : f.aboveN b b with
  | false => rfl
  | true => exact absurd (f.abN_gt g b b hb h) (Nat.lt_irrefl _)
theorem above_down {f : FarmD} (g : f.Good) {j b : Nat} (hj : j < f.nb) : f.aboveN j b = true ↔ 0 ≤ f.down j ∧ f.down j < f.nb ∧ f.topN b (f.down j).toNat = true := by
  rw [f.abN_step g j b hj]
  unfold FarmD.topN
  have hd := (g.bed j hj).2.2
  simp only [Bool.or_eq_true, Bool.and_eq_true, decide_eq_true_eq]
  constructor
  · rintro (h | ⟨h1, h2⟩)
    · exact ⟨by omega, by omega, .inl (by omega)⟩
    · exact ⟨h1, by omega, .inr h2⟩
  · rintro ⟨h1, h2, h3 | h3⟩
    · exact .inl (by omega)
    · exact .inr ⟨h1, h3⟩
theorem top_water {f : FarmD} (g : f.Good) {fl : Nat → Int} (hfl : ∀ s, s < f.ns → 0 ≤ fl s ∧ fl s ≤ 30) {b : Nat} (hb : b < f.nb) :
    f.waN fl b + sumZ (fun j => if f.aboveN j b = true then minI (f.waN fl j) (f.notch j) else 0) f.nb = sumZ (fun s => if f.topN b (f.sb s).toNat = true then fl s else 0) f.ns := by
  have hS : ∀ j, f.topN b j = (decide (j = b) || f.aboveN j b) := fun j => rfl
  have h1 : sumZ (fun j => if f.topN b j = true then f.waN fl j else 0) f.nb = sumZ (fun s => if f.topN b (f.sb s).toNat = true then fl s else 0) f.ns + sumZ (fun j => if f.aboveN j b = true then f.ovZ fl j else 0) f.nb := by
    rw [sumZ_congr (h := fun i => (if f.topN b i = true then sumZ (fun s => if f.sb s = (i : Int) then fl s else 0) f.ns else 0) + (if f.topN b i = true then sumZ (fun j => if f.down j = (i : Int) then f.ovZ fl j else 0) f.nb else 0)) fun i hi => by
      rw [FarmD.waN_sum g hfl hi]
      split <;> rfl]
    rw [sumZ_add, sumZ_if (f.topN b) (fun i s => if f.sb s = (i : Int) then fl s else 0), sumZ_if (f.topN b) (fun i j => if f.down j = (i : Int) then f.ovZ fl j else 0)]
    congr 1
    · refine sumZ_congr fun s hs => ?_
      have h2 := (g.spring s hs).1
      show sumZ (fun i => if f.topN b i = true then (if f.sb s = (i : Int) then fl s else 0) else 0) f.nb = _
      rw [sumZ_oneS]
      by_cases h3 : f.topN b (f.sb s).toNat = true
      · rw [if_pos ⟨h2.1, h2.2, h3⟩, if_pos h3]
      · rw [if_neg (fun h => h3 h.2.2), if_neg h3]
    · refine sumZ_congr fun j hj => ?_
      show sumZ (fun i => if f.topN b i = true then (if f.down j = (i : Int) then f.ovZ fl j else 0) else 0) f.nb = _
      rw [sumZ_oneS]
      by_cases h3 : f.aboveN j b = true
      · rw [if_pos ((above_down g hj).1 h3), if_pos h3]
      · rw [if_neg (fun h => h3 ((above_down g hj).2 h)), if_neg h3]
  have h2 : sumZ (fun j => if f.topN b j = true then f.waN fl j else 0) f.nb = f.waN fl b + sumZ (fun j => if f.aboveN j b = true then f.waN fl j else 0) f.nb := by
    have e : sumZ (fun j => if f.topN b j = true then f.waN fl j else 0) f.nb = sumZ (fun j => (if j = b then f.waN fl j else 0) + (if f.aboveN j b = true then f.waN fl j else 0)) f.nb := sumZ_congr fun j hj => by
      rw [hS j]
      by_cases h : j = b
      · subst h
        rw [above_self g hj]; simp
      · cases ha : f.aboveN j b <;> simp [h]
    rw [e, sumZ_add, sumZ_at, if_pos hb]
  have h3 : sumZ (fun j => if f.aboveN j b = true then f.waN fl j else 0) f.nb = sumZ (fun j => if f.aboveN j b = true then minI (f.waN fl j) (f.notch j) else 0) f.nb + sumZ (fun j => if f.aboveN j b = true then f.ovZ fl j else 0) f.nb := by
    rw [← sumZ_add]
    refine sumZ_congr fun j hj => ?_
    show (if f.aboveN j b = true then f.waN fl j else 0) = _
    have : f.ovZ fl j = f.waN fl j - minI (f.waN fl j) (f.notch j) := rfl
    rw [this]
    split <;> omega
  omega
theorem need_top {f : FarmD} (g : f.Good) {b : Nat} (hb : b < f.nb) : f.needN b f.nb = f.need b + sumZ (fun j => if f.aboveN j b = true then f.need j else 0) f.nb := by
  rw [(needN_sum g b f.nb (Nat.le_refl _)).1]
  have e : sumZ (fun j => if f.topN b j = true then f.need j else 0) f.nb = sumZ (fun j => (if j = b then f.need j else 0) + (if f.aboveN j b = true then f.need j else 0)) f.nb := sumZ_congr fun j hj => by
    show (if (decide (j = b) || f.aboveN j b) = true then f.need j else 0) = _
    by_cases h : j = b
    · subst h
      rw [above_self g hj]; simp
    · cases ha : f.aboveN j b <;> simp [h]
  rw [e, sumZ_add, sumZ_at, if_pos hb]
theorem fed_iff {f : FarmD} (g : f.Good) {c : List Int} (hc : f.isCh c) {i : Nat} (hi : i < f.nb) : f.fedOk i c = true ↔ f.need i ≤ minI (f.waN (zL c) i) (f.notch i) := by
  obtain ⟨_, h2, _⟩ := FarmD.water_ex g (f.ch_fl g hc) hi
  unfold FarmD.fedOk
  rw [decide_eq_true_eq, h2]
theorem fed_nocut {f : FarmD} (g : f.Good) (P : Nat → Bool) {c : List Int} (hc : f.isCh c) (h : ∀ i, i < f.nb → (f.movF P).fedOk i c = true) {b : Nat} (hb : b < f.nb) : f.cutB b (zL c) = false := by
  have g2 := movF_good g P
  have hfl := f.ch_fl g hc
  rw [f.cut_eq g b hb (zL c) hfl]
  unfold FarmD.cutN
  refine decide_eq_false ?_
  rw [flowN_sum g b hfl f.ns (Nat.le_refl _), need_top g hb]
  have h1 : (f.movF P).waN (zL c) b + sumZ (fun j => if (f.movF P).aboveN j b = true then minI ((f.movF P).waN (zL c) j) ((f.movF P).notch j) else 0) f.nb = sumZ (fun s => if (f.movF P).topN b (f.sb s).toNat = true then zL c s else 0) f.ns := top_water g2 hfl hb
  have e1 : ∀ j, (f.movF P).topN b j = f.topN b j := fun j => by unfold FarmD.topN; rw [movF_above]
  simp only [movF_above, e1] at h1
  have hfd : ∀ i, i < f.nb → f.need i ≤ minI ((f.movF P).waN (zL c) i) ((f.movF P).notch i) := fun i hi => (fed_iff g2 hc hi).1 (h i hi)
  have h2 : sumZ (fun j => if f.aboveN j b = true then f.need j else 0) f.nb ≤ sumZ (fun j => if f.aboveN j b = true then minI ((f.movF P).waN (zL c) j) ((f.movF P).notch j) else 0) f.nb := sumZ_le fun j hj => by
    split
    · exact hfd j hj
    · exact Int.le_refl _
  have h3 := hfd b hb
  have h4 : minI ((f.movF P).waN (zL c) b) ((f.movF P).notch b) ≤ (f.movF P).waN (zL c) b := by unfold minI; split <;> omega
  omega
theorem nocut_fed {f : FarmD} (g : f.Good) {P : Nat → Bool} (hP : ∀ i, i < f.nb → P i = true) {c : List Int} (hc : f.isCh c) {b : Nat} (hb : b < f.nb) (h : f.cutB b (zL c) = false) : (f.movF P).fedOk b c = true := by
  have g2 := movF_good g P
  have hfl := f.ch_fl g hc
  rw [f.cut_eq g b hb (zL c) hfl] at h
  unfold FarmD.cutN at h
  have h := of_decide_eq_false h
  rw [flowN_sum g b hfl f.ns (Nat.le_refl _), need_top g hb] at h
  have h1 : (f.movF P).waN (zL c) b + sumZ (fun j => if (f.movF P).aboveN j b = true then minI ((f.movF P).waN (zL c) j) ((f.movF P).notch j) else 0) f.nb = sumZ (fun s => if (f.movF P).topN b (f.sb s).toNat = true then zL c s else 0) f.ns := top_water g2 hfl hb
  have e1 : ∀ j, (f.movF P).topN b j = f.topN b j := fun j => by unfold FarmD.topN; rw [movF_above]
  simp only [movF_above, e1] at h1
  have hn : ∀ i, i < f.nb → (f.movF P).notch i = f.need i := fun i hi => if_pos (hP i hi)
  have h2 : sumZ (fun j => if f.aboveN j b = true then minI ((f.movF P).waN (zL c) j) ((f.movF P).notch j) else 0) f.nb ≤ sumZ (fun j => if f.aboveN j b = true then f.need j else 0) f.nb := sumZ_le fun j hj => by
    rw [hn j hj]
    split
    · unfold minI; split <;> omega
    · exact Int.le_refl _
  rw [fed_iff g2 hc hb, hn b hb]
  show f.need b ≤ minI ((f.movF P).waN (zL c) b) (f.need b)
  unfold minI
  split <;> omega
theorem suff_nocut {f : FarmD} (hc : f.check = 0) {P : Nat → Bool} (h : f.sufL f.trs P = true) : f.cutO = none := by
  have g := good_of_check hc
  unfold FarmD.cutO
  rw [List.find?_eq_none]
  intro n hn
  have hnb := List.mem_range.1 hn
  have : f.cutAt n = none := by
    unfold FarmD.cutAt
    rw [List.find?_eq_none]
    intro i hi
    have hl := getD_mem (List.mem_range.1 hi)
    have := fed_nocut g P (f.trs_ch hl) (fun i hi => sufL_iff.1 h _ hl i hi) hnb
    unfold FarmD.cutQ
    rw [this]; decide
  rw [this]; decide
theorem nocut_suff {f : FarmD} (hc : f.check = 0) (h : f.cutO = none) : f.sufL f.trs (fun _ => true) = true := by
  have g := good_of_check hc
  refine sufL_iff.2 fun c hcc i hi => nocut_fed g (fun _ _ => rfl) (f.trs_ch hcc) hi ?_
  unfold FarmD.cutO at h
  have h1 := List.find?_eq_none.1 h i (List.mem_range.2 hi)
  have h2 : f.cutAt i = none := by
    cases hq : f.cutAt i with
    | none => rfl
    | some j => rw [hq] at h1; exact absurd rfl h1
  unfold FarmD.cutAt at h2
  obtain ⟨j, hj, he⟩ := List.getElem_of_mem hcc
  have h3 := List.find?_eq_none.1 h2 j (List.mem_range.2 hj)
  unfold FarmD.cutQ at h3
  rw [List.getD_eq_getElem?_getD, List.getElem?_eq_getElem hj] at h3
  have h3 : ¬ f.cutB i (zL f.trs[j]) = true := h3
  rw [he] at h3
  simpa using h3
end Go.Fz
set_option linter.unusedVariables false
set_option linter.unusedSimpArgs false
namespace Go.Fz
open Go.Proofs
set_option maxRecDepth 100000
def mvP (o : Int) (i j : Nat) : Bool := decide (j < i) && bitB o j
theorem mv_zero (f : FarmD) (o : Int) : flatG 3 (bedC (f.movF (mvP o 0))) f.nb = flatG 3 (bedC f) f.nb := flatG_congr fun i k hi => by
  have : (f.movF (mvP o 0)).notch i = f.notch i := by
    show (if mvP o 0 i = true then f.need i else f.notch i) = f.notch i
    rw [if_neg (by unfold mvP; simp)]
  unfold bedC
  rw [this]; rfl
theorem mv_yes {f : FarmD} {o : Int} {i : Nat} (hi : i < f.nb) (h : bitB o i = true) : (flatG 3 (bedC (f.movF (mvP o i))) f.nb).set (i * 3 + 1) (iV (f.need i)) = flatG 3 (bedC (f.movF (mvP o (i + 1)))) f.nb := by
  refine flatG_set hi (by omega) ?_ fun a b ha hb hne => ?_
  · show iV (if mvP o (i + 1) i = true then f.need i else f.notch i) = _
    rw [if_pos (by unfold mvP; rw [h]; simp)]
  · match b, hb with
    | 0, _ => rfl
    | 1, _ =>
      have hai : a ≠ i := fun e => hne ⟨e, rfl⟩
      show iV (if mvP o (i + 1) a = true then f.need a else f.notch a) = iV (if mvP o i a = true then f.need a else f.notch a)
      have : mvP o (i + 1) a = mvP o i a := by
        unfold mvP
        congr 1
        exact decide_eq_decide.2 ⟨fun h => by omega, fun h => by omega⟩
      rw [this]
    | 2, _ => rfl
theorem mv_no {f : FarmD} {o : Int} {i : Nat} (h : bitB o i = false) : flatG 3 (bedC (f.movF (mvP o i))) f.nb = flatG 3 (bedC (f.movF (mvP o (i + 1)))) f.nb := flatG_congr fun a b ha => by
  have : mvP o (i + 1) a = mvP o i a := by
    unfold mvP
    by_cases e : a = i
    · subst e; rw [h, Bool.and_false, Bool.and_false]
    · congr 1
      exact decide_eq_decide.2 ⟨fun h => by omega, fun h => by omega⟩
  have h2 : (f.movF (mvP o i)).notch a = (f.movF (mvP o (i + 1))).notch a := by
    show (if mvP o i a = true then f.need a else f.notch a) = (if mvP o (i + 1) a = true then f.need a else f.notch a)
    rw [this]
  unfold bedC
  rw [h2]; rfl
def mvS (f : FarmD) (G : List AV) : St := ⟨[(4, .cells none false G), (2, .cells none false [springsV f, .sl 4 0 f.nb 3 false, looksV f]), (1, .cells none false [nl3, nl3, nl3]), (0, .cells none false (farmL f))], 5⟩
set_option maxHeartbeats 32000000 in
theorem moved103_core (f : FarmD) (hnb : f.nb ≤ 8) (h0 : 0 < f.nb) (o : Int) : Pure Try.prog 103 [farmV f, iV o] (farmV (f.movF (mvP o f.nb))) := by
  obtain ⟨O, hO⟩ : ∃ O : Ar, O = std := ⟨_, rfl⟩
  have hnat : ∀ i : Nat, O.nat (Int.ofNat i) = i := fun i => by subst hO; rfl
  obtain ⟨GC, hGC⟩ : ∃ G, G = flatG 3 (bedC f) f.nb := ⟨_, rfl⟩
  have hbG : ∀ {n i}, ObjBelow n (.cells none false (flatG 3 (bedC (f.movF (mvP o i))) f.nb)) := ⟨fun x hx => Below.up (m := 0) (flatG_below (fun i j => (bedC_one _ i j).1) _ x hx), fun f h => by cases h⟩
  refine pure_of_body tok 3 Try.func103 en103 rfl ⟨farmV_below f, Below.lit, trivial⟩ (farmV_below _) ?_
  refine SW.seqRun tok hO (by cbv <;> rfl) (by trivial) ?_
  refine SW.seqRun tok hO (by cbv <;> rfl) (by trivial) ?_
  refine SW.seq (SW.runN tok hO 3 (by cbv <;> rfl) (by trivial) ?_)
  refine OpsW.appA tok (by cbv <;> rfl) (append_emptyG (by kernel_rfl) (by rfl) (by omega) (by omega) (fun i k => (bedC_one f i k).2) hGC) ?_
  refine OpsW.run tok hO (by cbv <;> rfl) (by trivial) ?_
  refine SW.seq ?_
  refine SW.seqRun tok hO (by cbv <;> rfl) (by trivial) ?_
  refine (SW.block (SW.loopF (fun i : Nat => ⟨⟨38, getT [(1, iV o), (4, .ptr 1 0), (5, .ptr 2 0), (6, iV (Int.ofNat i))]⟩, []⟩) (fun i => mvS f (flatG 3 (bedC (f.movF (mvP o i))) f.nb)) (fun i => f.nb - i) (fun i => i ≤ f.nb) 0
    (fun _ => rfl) (Nat.zero_le _) (Weak.by rfl rfl (by simp) (Nat.le_refl _) (Nat.le_refl _) ⟨⟨rfl, .inl rfl⟩, ⟨rfl, .inl rfl⟩, ⟨rfl, .inl rfl⟩, ⟨rfl, .inl rfl⟩, trivial⟩ ⟨⟨by rw [mv_zero, ← hGC]; rfl, by omega, .inl rfl⟩, ⟨rfl, by omega, .inl rfl⟩, ⟨rfl, by omega, .inl rfl⟩, ⟨rfl, by omega, .inl rfl⟩, trivial⟩) fun i hi => ?_))
  obtain ⟨G, hG⟩ : ∃ G, flatG 3 (bedC (f.movF (mvP o i))) f.nb = G := ⟨_, rfl⟩
  have hGb : ∀ {n}, ObjBelow n (.cells none false G) := by rw [← hG]; exact hbG
  have hlG : G.length = f.nb * 3 := by rw [← hG, flatG_length]
  show SW _ _ _ _ ⟨⟨38, getT [(1, iV o), (4, .ptr 1 0), (5, .ptr 2 0), (6, iV (Int.ofNat i))]⟩, []⟩ ⟨[(4, .cells none false (flatG 3 (bedC (f.movF (mvP o i))) f.nb)), (2, .cells none false [springsV f, .sl 4 0 f.nb 3 false, looksV f]), (1, .cells none false [nl3, nl3, nl3]), (0, .cells none false (farmL f))], 5⟩
  rw [hG]
  have hb2 : ∀ {n}, 5 ≤ n → ObjBelow n (.cells none false [springsV f, .sl 4 0 f.nb 3 false, looksV f]) := fun hn => ⟨AllB.ok ⟨Below.up (m := 0) (springsV_below f), Below.sl (by omega), Below.up (m := 0) (looksV_below f), trivial⟩, fun f h => by cases h⟩
  have hb1 : ∀ {n}, ObjBelow n (.cells none false [nl3, nl3, nl3]) := ⟨AllB.ok ⟨Below.lit, Below.lit, Below.lit, trivial⟩, fun f h => by cases h⟩
  have hb0 : ∀ {n}, ObjBelow n (.cells none false (farmL f)) := ⟨fun x hx => Below.up (m := 0) (farmL_below f x hx), fun f h => by cases h⟩
  refine SW.seq ?_
  refine SW.seqRun tok hO (by cbv <;> rfl) (by trivial) ?_
  refine SW.condS (by cbv <;> rfl) (fun h => SW.skip ?_) (fun h => SW.exit ?_)
  · have hlt : i < f.nb := by
      have : Int.ofNat i < Int.ofNat f.nb := by subst hO; simpa [std] using h
      exact Int.ofNat_lt.1 this
    have hc0 : 0 ≤ O.conv .u64 (Int.ofNat i) := by
      subst hO
      show 0 ≤ wrp .u64 ((i : Nat) : Int)
      rw [wrp_in (by simp only [IntKind.lo]; omega) (by simp only [IntKind.hi]; omega)]
      omega
    refine SW.seq (SW.block ?_)
    refine SW.seqRun tok hO (by cbv <;> rfl) (by first | exact ⟨hc0, (by decide : (2 : Int) ≠ 0)⟩ | exact ⟨(by decide : (2 : Int) ≠ 0), hc0⟩) ?_
    refine SW.condS (by cbv <;> rfl) (fun h2 => ?_) (fun h2 => SW.skip ?_)
    · have hb : bitB o i = true := by subst hO; exact h2
      refine SW.runDN tok mixed hO 6 (by kernel_rfl) (by cbv <;> rfl) (by trivial) ?_
      refine AnyE.idxSl tok 6 (n := i) (by kernel_rfl) (by cbv <;> rfl) (by kernel_rfl) hlt (by cbv <;> rfl) fun q hq => ?_
      refine AnyE.runN tok hO 1 (by kernel_rfl) (by cbv <;> rfl) (by trivial) ?_
      have hq0 : G[q]? = some (iV (f.need i)) := by
        rw [hq, Nat.zero_add, ← hG]
        exact flatG_get 3 (bedC (f.movF (mvP o i))) f.nb i 0 hlt (by omega)
      refine AnyE.ldD tok (by kernel_rfl) 8 (by cbv <;> rfl) (load_at (by kernel_rfl) (by rfl) hq0) (by kernel_rfl) ?_
      refine AnyE.idxSl tok 9 (n := i) (by kernel_rfl) (by cbv <;> rfl) (by kernel_rfl) hlt (by cbv <;> rfl) fun q2 hq2 => ?_
      refine AnyE.runN tok hO 1 (by kernel_rfl) (by cbv <;> rfl) (by trivial) ?_
      refine AnyE.sto (id := 4) (G := G) tok (by cbv <;> rfl) (by cbv <;> rfl) (by kernel_rfl) (by rfl) (by rw [hlG, hq2]; omega) fun G' hG' => ?_
      refine AnyE.done (by kernel_rfl) ?_
      refine SW.run tok hO (by cbv <;> rfl) (by trivial) ?_
      have hGe : G' = flatG 3 (bedC (f.movF (mvP o (i + 1)))) f.nb := by
        rw [hG', hq2, ← hG, show (0 + i * 3).succ = i * 3 + 1 by omega]
        exact mv_yes hlt hb
      refine ⟨i + 1, by omega, hlt, ?_⟩
      show Weak _ _ _ _ (mvS f (flatG 3 (bedC (f.movF (mvP o (i + 1)))) f.nb))
      rw [← hGe]
      have hGb' : ∀ {n}, ObjBelow n (.cells none false G') := by rw [hGe]; exact hbG
      exact Weak.by rfl rfl (by simp) (Nat.le_refl _) (by first | exact Nat.le_refl _ | exact Nat.le_succ _) ⟨⟨rfl, .inr Below.lit⟩, ⟨rfl, .inr (Below.ptr (by omega))⟩, ⟨rfl, .inr (Below.ptr (by omega))⟩, ⟨inc_ok hO (by omega), .inr Below.lit⟩, trivial⟩ ⟨⟨rfl, by omega, .inr hGb'⟩, ⟨rfl, by omega, .inr (hb2 (by omega))⟩, ⟨rfl, by omega, .inr hb1⟩, ⟨rfl, by omega, .inr hb0⟩, trivial⟩
    · have hb : bitB o i = false := by subst hO; exact h2
      refine SW.run tok hO (by cbv <;> rfl) (by trivial) ?_
      refine ⟨i + 1, by omega, hlt, ?_⟩
      show Weak _ _ _ _ (mvS f (flatG 3 (bedC (f.movF (mvP o (i + 1)))) f.nb))
      rw [← mv_no hb, hG]
      exact Weak.by rfl rfl (by simp) (Nat.le_refl _) (by first | exact Nat.le_refl _ | exact Nat.le_succ _) ⟨⟨rfl, .inr Below.lit⟩, ⟨rfl, .inr (Below.ptr (by omega))⟩, ⟨rfl, .inr (Below.ptr (by omega))⟩, ⟨inc_ok hO (by omega), .inr Below.lit⟩, trivial⟩ ⟨⟨rfl, by omega, .inr hGb⟩, ⟨rfl, by omega, .inr (hb2 (by omega))⟩, ⟨rfl, by omega, .inr hb1⟩, ⟨rfl, by omega, .inr hb0⟩, trivial⟩
  · have hz : i = f.nb := by
      have : ¬ Int.ofNat i < Int.ofNat f.nb := by subst hO; simpa [std] using h
      have h2 : ¬ i < f.nb := fun h => this (Int.ofNat_lt.2 h)
      omega
    refine SW.seqRun tok hO (by cbv <;> rfl) (by trivial) ?_
    refine SW.ret ⟨_, _, rfl, rfl, ?_⟩
    rw [hz] at hG
    refine Eqv.agg (.cons (Eqv.isl rfl fun i k _ _ => Eqv.of (by unfold springC; split <;> rfl)) (.cons ?_ (.cons (Eqv.isl rfl fun i k _ _ => Eqv.of (by unfold lookC; split <;> rfl)) .nil)))
    exact frz_gen (m := 0) (fm := none) rfl rfl hG (fun i k => by unfold bedC; split <;> rfl)
end Go.Fz
set_option linter.unusedVariables false
set_option linter.unusedSimpArgs false
namespace Go.Fz
open Go.Proofs
set_option maxRecDepth 100000
set_option maxHeartbeats 32000000 in
theorem suffice56_core (f g' : FarmD) (hnb : g'.nb ≤ 8) (N : Nat) (hN : N < 100000) (ln : Nat → Nat) (F : Nat → Nat → Int) (hLV : Below 0 (.isl N 1 false (fun i _ => intsV (ln i) false (F i)))) (o : Int) (p : Nat → Nat → Bool) (B : Bool)
    (e103 : Pure Try.prog 103 [farmV f, iV o] (farmV g')) (e84 : ∀ i, i < N → ∀ k, k < g'.nb → Pure Try.prog 84 [farmV g', intsV (ln i) false (F i), iV (Int.ofNat k)] (.sb (p i k)))
    (hBt : (∀ i, i < N → ∀ k, k < g'.nb → p i k = true) → B = true) (hBf : ∀ i, i < N → ∀ k, k < g'.nb → p i k = false → B = false) :
    Pure Try.prog 56 [farmV f, .isl N 1 false (fun i _ => intsV (ln i) false (F i)), iV o] (.lit (.bool B)) := by
  obtain ⟨O, hO⟩ : ∃ O : Ar, O = std := ⟨_, rfl⟩
  have hnat : ∀ i : Nat, O.nat (Int.ofNat i) = i := fun i => by subst hO; rfl
  have hb0 : ∀ {n}, ObjBelow n (.cells none false (farmL f)) := ⟨fun x hx => Below.up (m := 0) (farmL_below f x hx), fun f h => by cases h⟩
  have hb1 : ∀ {n}, ObjBelow n (.cells none false (farmL g')) := ⟨fun x hx => Below.up (m := 0) (farmL_below g' x hx), fun f h => by cases h⟩
  refine pure_of_body tok 3 Try.func56 en56 rfl ⟨farmV_below f, hLV, Below.lit, trivial⟩ Below.lit ?_
  refine SW.seqRun tok hO (by cbv <;> rfl) (by trivial) ?_
  refine SW.seqRun tok hO (by cbv <;> rfl) (by trivial) ?_
  refine OpsW.callP e103 (by cbv <;> rfl) ?_
  refine OpsW.run tok hO (by cbv <;> rfl) (by trivial) ?_
  refine SW.seq ?_
  refine SW.seqRun tok hO (by cbv <;> rfl) (by trivial) ?_
  refine (SW.block (SW.loopF (fun i : Nat => ⟨⟨34, getT [(1, .isl N 1 false (fun i _ => intsV (ln i) false (F i))), (7, .ptr 1 0), (8, iV (Int.ofNat i))]⟩, []⟩) (fun _ => ⟨[(1, .cells none false (farmL g')), (0, .cells none false (farmL f))], 2⟩) (fun i => N - i) (fun i => i ≤ N ∧ ∀ i', i' < i → ∀ k, k < g'.nb → p i' k = true) 0
    (fun _ => rfl) ⟨Nat.zero_le _, fun i h => absurd h (Nat.not_lt_zero i)⟩ (Weak.by rfl rfl (by simp) (Nat.le_refl _) (Nat.le_refl _) ⟨⟨rfl, .inl rfl⟩, ⟨rfl, .inl rfl⟩, ⟨rfl, .inl rfl⟩, trivial⟩ ⟨⟨rfl, by omega, .inl rfl⟩, ⟨rfl, by omega, .inl rfl⟩, trivial⟩) fun i ⟨hi, hall⟩ => ?_))
  refine SW.seq ?_
  refine SW.seqRun tok hO (by cbv <;> rfl) (by trivial) ?_
  refine SW.condS (by cbv <;> rfl) (fun h => SW.skip ?_) (fun h => SW.exit ?_)
  · have hlt : i < N := by
      have : Int.ofNat i < Int.ofNat N := by subst hO; simpa [std] using h
      exact Int.ofNat_lt.1 this
    have hin : 0 ≤ Int.ofNat i ∧ Int.ofNat i < Int.ofNat N := ⟨Int.natCast_nonneg i, Int.ofNat_lt.2 hlt⟩
    have e84i := e84 (O.nat (Int.ofNat i)) (by rw [hnat]; exact hlt)
    refine SW.seq (SW.block ?_)
    refine SW.seqRun tok hO (by cbv <;> rfl) (by trivial) ?_
    refine (SW.block (SW.loopF (fun k : Nat => ⟨⟨34, getT [(1, .isl N 1 false (fun i _ => intsV (ln i) false (F i))), (7, .ptr 1 0), (8, iV (Int.ofNat i)), (9, iV (Int.ofNat k))]⟩, []⟩) (fun _ => ⟨[(1, .cells none false (farmL g')), (0, .cells none false (farmL f))], 2⟩) (fun k => g'.nb - k) (fun k => k ≤ g'.nb ∧ ∀ k', k' < k → p i k' = true) 0
      (fun _ => rfl) ⟨Nat.zero_le _, fun k h => absurd h (Nat.not_lt_zero k)⟩ (Weak.by rfl rfl (by simp) (Nat.le_refl _) (Nat.le_refl _) ⟨⟨rfl, .inl rfl⟩, ⟨rfl, .inl rfl⟩, ⟨rfl, .inl rfl⟩, ⟨rfl, .inl rfl⟩, trivial⟩ ⟨⟨rfl, by omega, .inl rfl⟩, ⟨rfl, by omega, .inl rfl⟩, trivial⟩) fun k ⟨hk, hall2⟩ => ?_))
    refine SW.seq ?_
    refine SW.seqRun tok hO (by cbv <;> rfl) (by trivial) ?_
    refine SW.condS (by cbv <;> rfl) (fun h2 => SW.skip ?_) (fun h2 => SW.exit ?_)
    · have hlk : k < g'.nb := by
        have : Int.ofNat k < Int.ofNat g'.nb := by subst hO; simpa [std] using h2
        exact Int.ofNat_lt.1 this
      have call := e84i k hlk
      rw [show p (O.nat (Int.ofNat i)) k = p i k by rw [hnat]] at call
      generalize hp : p i k = b at call
      have hnot : O.not b = !b := by subst hO; rfl
      refine SW.seq (SW.block ?_)
      refine SW.seqRunD tok mixed hO (by kernel_rfl) (by cbv <;> rfl) (by repeat (first | exact trivial | exact hin | exact hin.1 | exact hin.2 | refine ⟨?_, ?_⟩)) ?_
      refine AnyE.callP call (by cbv <;> rfl) (by cbv <;> rfl) ?_
      refine AnyE.dec tok hO (by kernel_rfl) (by cbv <;> rfl) (by trivial) (fun h3 => ?_) (fun h3 => ?_) <;> refine AnyE.done (by kernel_rfl) ?_
      · have hbf : b = false := by have := hnot.symm.trans h3; simpa using this
        refine SW.cond (t := true) (by cbv <;> rfl) ?_
        refine SW.seqRun tok hO (by cbv <;> rfl) (by trivial) ?_
        refine SW.ret ⟨_, _, rfl, rfl, Eqv.of ?_⟩
        rw [hBf i hlt k hlk (hp.trans hbf)]; rfl
      · have hbt : b = true := by have := hnot.symm.trans h3; simpa using this
        refine SW.cond (t := false) (by cbv <;> rfl) (SW.skip ?_)
        refine SW.run tok hO (by cbv <;> rfl) (by trivial) ?_
        refine ⟨k + 1, by omega, ⟨hlk, fun k' hk' => ?_⟩, Weak.by rfl rfl (by simp) (Nat.le_refl _) (by first | exact Nat.le_refl _ | exact Nat.le_succ _) ⟨⟨rfl, .inr (Below.up (m := 0) hLV)⟩, ⟨rfl, .inr (Below.ptr (by omega))⟩, ⟨rfl, .inr Below.lit⟩, ⟨inc_ok hO (by omega), .inr Below.lit⟩, trivial⟩ ⟨⟨rfl, by omega, .inr hb1⟩, ⟨rfl, by omega, .inr hb0⟩, trivial⟩⟩
        rcases Nat.lt_succ_iff_lt_or_eq.1 hk' with h4 | rfl
        · exact hall2 k' h4
        · exact hp.trans hbt
    · have hz : k = g'.nb := by
        have : ¬ Int.ofNat k < Int.ofNat g'.nb := by subst hO; simpa [std] using h2
        have h2 : ¬ k < g'.nb := fun h => this (Int.ofNat_lt.2 h)
        omega
      refine SW.run tok hO (by cbv <;> rfl) (by trivial) ?_
      refine ⟨i + 1, by omega, ⟨hlt, fun i' hi' => ?_⟩, Weak.by rfl rfl (by simp) (Nat.le_refl _) (by first | exact Nat.le_refl _ | exact Nat.le_succ _) ⟨⟨rfl, .inr (Below.up (m := 0) hLV)⟩, ⟨rfl, .inr (Below.ptr (by omega))⟩, ⟨inc_ok hO (by omega), .inr Below.lit⟩, trivial⟩ ⟨⟨rfl, by omega, .inr hb1⟩, ⟨rfl, by omega, .inr hb0⟩, trivial⟩⟩
      rcases Nat.lt_succ_iff_lt_or_eq.1 hi' with h4 | rfl
      · exact hall i' h4
      · rw [← hz]; exact hall2
  · have hz : i = N := by
      have : ¬ Int.ofNat i < Int.ofNat N := by subst hO; simpa [std] using h
      have h2 : ¬ i < N := fun h => this (Int.ofNat_lt.2 h)
      omega
    refine SW.seqRun tok hO (by cbv <;> rfl) (by trivial) ?_
    refine SW.ret ⟨_, _, rfl, rfl, Eqv.of ?_⟩
    rw [hBt (by rw [← hz]; exact hall)]; rfl
theorem movF_congr {f : FarmD} {P Q : Nat → Bool} (h : ∀ b, b < f.nb → P b = Q b) : Eqv (farmV (f.movF P)) (farmV (f.movF Q)) :=
  Eqv.agg (.cons (Eqv.refl _) (.cons (Eqv.isl rfl fun i k hi hk => Eqv.of (by
    have e : (f.movF P).notch i = (f.movF Q).notch i := by
      show (if P i = true then f.need i else f.notch i) = (if Q i = true then f.need i else f.notch i)
      rw [h i hi]
    unfold bedC
    rw [e]; rfl)) (.cons (Eqv.refl _) .nil)))
theorem suffice56_ok {f : FarmD} (g : f.Good) {L : List (List Int)} (hL : L.length < 100000) (hch : ∀ l ∈ L, f.isCh l) (o : Int) : Pure Try.prog 56 [farmV f, llV L, iV o] (.lit (.bool (f.sufL L (bitB o)))) := by
  have g2 := movF_good g (bitB o)
  have e103 : Pure Try.prog 103 [farmV f, iV o] (farmV (f.movF (bitB o))) := (moved103_core f g.nb g.pos o).res (movF_congr fun b hb => by unfold mvP; rw [decide_eq_true hb, Bool.true_and])
  refine suffice56_core f (f.movF (bitB o)) g.nb L.length hL (fun i => (L.getD i []).length) (fun i => zL (L.getD i [])) (llV_below L) o (fun i k => (f.movF (bitB o)).fedOk k (L.getD i [])) _ e103 (fun i hi k hk => isFed84 g2 (hch _ (getD_mem hi)) hk) (fun h => ?_) (fun i hi k hk hf => ?_)
  · refine sufL_iff.2 fun c hc i hi => ?_
    obtain ⟨j, hj, he⟩ := List.getElem_of_mem hc
    have := h j hj i hi
    rw [List.getD_eq_getElem?_getD, List.getElem?_eq_getElem hj] at this
    have this : (f.movF (bitB o)).fedOk i L[j] = true := this
    rwa [he] at this
  · cases hq : f.sufL L (bitB o) with
    | false => rfl
    | true =>
      have := sufL_iff.1 hq _ (getD_mem hi) k hk
      rw [this] at hf; cases hf
theorem sufL_mem {f : FarmD} {L M : List (List Int)} (h : ∀ l, l ∈ L ↔ l ∈ M) (P : Nat → Bool) : f.sufL L P = f.sufL M P := by
  rw [Bool.eq_iff_iff, sufL_iff, sufL_iff]
  exact ⟨fun k c hc => k c ((h c).2 hc), fun k c hc => k c ((h c).1 hc)⟩
end Go.Fz
set_option linter.unusedVariables false
namespace Go.Fz
open Go.Proofs
set_option maxRecDepth 100000
theorem bits_fin8 : ∀ (n : Fin 256) (i : Fin 9), (std.cmp .gtr (std.bin .shr .i64 (n.1 : Int) (std.conv .u64 (i.1 : Int))) 0 = true → i.1 < 8) ∧ (std.cmp .gtr (std.bin .shr .i64 (n.1 : Int) (std.conv .u64 (i.1 : Int))) 0 = false → selL (n.1 : Int) i.1 = selL (n.1 : Int) 8) := by decide +kernel
theorem and_fin8 : ∀ (n : Fin 9) (b : Fin 256), 0 ≤ std.bin .and .i64 (std.conv .i64 (b.1 : Int)) (pw1 n.1) ∧ std.bin .and .i64 (std.conv .i64 (b.1 : Int)) (pw1 n.1) < 2 ^ n.1 := by decide +kernel
theorem msk_fin8 : ∀ n : Fin 9, ∀ l ∈ risL n.1, ∀ i : Fin 8, bitB (mskL l) i.1 = decide (i.1 ∈ l) := by decide +kernel
theorem sort_fin8 : ∀ n : Fin 9, ∀ l ∈ risL n.1, l.Pairwise (· < ·) := by decide +kernel
theorem less_fin8 : ∀ n : Fin 9, ∀ l ∈ risL n.1, ∀ x ∈ l, (l.filter fun y => decide (y ≠ x)) ∈ risL n.1 ∧ (l.filter fun y => decide (y ≠ x)).length < l.length ∧ ∀ i : Fin 8, bitB (std.bin .andNot .i64 (mskL l) (std.bin .shl .i64 1 (std.conv .u64 (x : Int)))) i.1 = decide (i.1 ∈ l.filter fun y => decide (y ≠ x)) := by decide +kernel
theorem range_fin8 : ∀ n : Fin 9, List.range n.1 ∈ risL n.1 := by decide +kernel
set_option maxHeartbeats 16000000 in
theorem bits59_8 (o : Int) (o0 : 0 ≤ o) (o256 : o < 256) : Pure Try.prog 59 [iV o] (lsV (selL o 8)) := by
  obtain ⟨O, hO⟩ : ∃ O : Ar, O = std := ⟨_, rfl⟩
  have hfin : ∀ i : Nat, i ≤ 8 → (std.cmp .gtr (std.bin .shr .i64 o (std.conv .u64 (i : Int))) 0 = true → i < 8) ∧ (std.cmp .gtr (std.bin .shr .i64 o (std.conv .u64 (i : Int))) 0 = false → selL o i = selL o 8) := fun i hi => by
    have h1 := bits_fin8 ⟨o.toNat, by omega⟩ ⟨i, by omega⟩
    have h2 : ((o.toNat : Nat) : Int) = o := by omega
    rw [h2] at h1
    exact h1
  refine pure_of_body tok 3 Try.func59 en59 rfl ⟨Below.lit, trivial⟩ (lsV_below _) ?_
  refine SW.seqRun tok hO (by cbv <;> rfl) (by trivial) ?_
  refine SW.seqRun tok hO (by cbv <;> rfl) (by trivial) ?_
  refine SW.seq ?_
  refine SW.seqRun tok hO (by cbv <;> rfl) (by trivial) ?_
  refine (SW.block (SW.loopR (fun i : Nat => ⟨⟨23, getT [(0, iV o), (3, slG 0 1 (selL o i).length), (4, iV i)]⟩, []⟩) (fun i => ⟨[] ++ objG 0 1 (intC (lI (selL o i))) (selL o i).length, 1⟩) (fun i => 8 - i) (fun i => i ≤ 8) 0 (Nat.zero_le _) (ren1 0 0) ?_ fun i hi => ?_))
  · exact WeakR.up rfl rfl (by simp) (Nat.le_refl _) (.inl rfl) (by show 0 ≤ 1; omega) ⟨RenV.closed Below.lit, RenV.closed Below.lit, RenV.closed Below.lit, trivial⟩ trivial (fun p hp => by cases hp)
  have hlen := selL_len o i
  have hsn := lI_snoc (selL o i) i
  have hsu : selL o (i + 1) = if bitB o i then selL o i ++ [i] else selL o i := rfl
  obtain ⟨f1, f2⟩ := hfin i hi
  have hc0 : 0 ≤ O.conv .u64 (Int.ofNat i) := by
    subst hO
    show 0 ≤ wrp .u64 ((i : Nat) : Int)
    rw [wrp_in (by simp only [IntKind.lo]; omega) (by simp only [IntKind.hi]; omega)]
    omega
  cases hm : (selL o i).length with
  | zero =>
    have hl0 : selL o i = [] := List.length_eq_zero_iff.1 hm
    show SW _ _ _ _ ⟨⟨23, getT [(0, iV o), (3, nl3), (4, iV i)]⟩, []⟩ ⟨[], 1⟩
    refine SW.seq ?_
    refine SW.seqRun tok hO (by cbv <;> rfl) (by first | exact hc0 | exact ⟨hc0, trivial⟩) ?_
    refine SW.condS (by cbv <;> rfl) (fun h => SW.skip ?_) (fun h => SW.exit ?_)
    · have hlt : i < 8 := f1 (by subst hO; exact h)
      refine SW.seq (SW.block ?_)
      refine SW.seqRun tok hO (by cbv <;> rfl) (by first | exact ⟨hc0, (by decide : (2 : Int) ≠ 0)⟩ | exact ⟨(by decide : (2 : Int) ≠ 0), hc0⟩) ?_
      refine SW.condS (by cbv <;> rfl) (fun h2 => ?_) (fun h2 => SW.skip ?_)
      · have hb : bitB o i = true := by subst hO; exact h2
        rw [if_pos hb] at hsu
        rw [hl0] at hsn hsu
        refine SW.runN tok hO 3 (by cbv <;> rfl) (by trivial) ?_
        refine OpsW.appNil tok (by cbv <;> rfl) (by rfl) (by kernel_rfl) (by rfl) (by rfl) ?_
        refine OpsW.run tok hO (by cbv <;> rfl) (by trivial) ?_
        refine SW.run tok hO (by cbv <;> rfl) (by trivial) ?_
        refine ⟨i + 1, by omega, by omega, ren1 0 2, ?_⟩
        rw [hsu]
        refine WeakR.up rfl rfl (by simp) (Nat.le_refl _) (.inr (by omega)) (by show 0 ≤ 1; omega) ⟨RenV.closed Below.lit, RenV.sl (by omega), RenV.inc hO (by omega), trivial⟩ trivial (fun p hp => ?_)
        obtain rfl := objG_mem hp
        exact ⟨by omega, _, rfl, .cells (RenVs.of_eq hsn (flatG_below (fun _ _ => Below.lit) _)), .inl rfl⟩
      · have hb : bitB o i = false := by subst hO; exact h2
        rw [if_neg (by rw [hb]; decide)] at hsu
        refine SW.run tok hO (by cbv <;> rfl) (by trivial) ?_
        refine ⟨i + 1, by omega, by omega, ren1 0 0, ?_⟩
        rw [hsu, hm]
        exact WeakR.up rfl rfl (by simp) (Nat.le_refl _) (.inl rfl) (by show 0 ≤ 1; omega) ⟨RenV.closed Below.lit, RenV.closed Below.lit, RenV.inc hO (by omega), trivial⟩ trivial (fun p hp => by cases hp)
    · have he := f2 (by subst hO; exact h)
      refine SW.seqRun tok hO (by cbv <;> rfl) (by trivial) ?_
      refine SW.ret ⟨_, _, rfl, rfl, ?_⟩
      rw [← he, hl0]
      exact Eqv.nil
  | succ m =>
    obtain ⟨G, hG⟩ : ∃ G, G = flatG 1 (intC (lI (selL o i))) (m + 1) := ⟨_, rfl⟩
    show SW _ _ _ _ ⟨⟨23, getT [(0, iV o), (3, .sl 0 0 (m + 1) 1 false), (4, iV i)]⟩, []⟩ ⟨[(0, .cells none false (flatG 1 (intC (lI (selL o i))) (m + 1)))], 1⟩
    rw [← hG]
    refine SW.seq ?_
    refine SW.seqRun tok hO (by cbv <;> rfl) (by first | exact hc0 | exact ⟨hc0, trivial⟩) ?_
    refine SW.condS (by cbv <;> rfl) (fun h => SW.skip ?_) (fun h => SW.exit ?_)
    · have hlt : i < 8 := f1 (by subst hO; exact h)
      refine SW.seq (SW.block ?_)
      refine SW.seqRun tok hO (by cbv <;> rfl) (by first | exact ⟨hc0, (by decide : (2 : Int) ≠ 0)⟩ | exact ⟨(by decide : (2 : Int) ≠ 0), hc0⟩) ?_
      refine SW.condS (by cbv <;> rfl) (fun h2 => ?_) (fun h2 => SW.skip ?_)
      · have hb : bitB o i = true := by subst hO; exact h2
        rw [if_pos hb] at hsu
        rw [hm, ← hG] at hsn
        refine SW.runN tok hO 3 (by cbv <;> rfl) (by trivial) ?_
        refine OpsW.appOne (g := intC (lI (selL o i))) (len := m + 1) tok (by cbv <;> rfl) (by rfl) (by rfl) hG (by kernel_rfl) (by rfl) (by rfl) (by omega) fun G' hG' => ?_
        refine OpsW.run tok hO (by cbv <;> rfl) (by trivial) ?_
        refine SW.run tok hO (by cbv <;> rfl) (by trivial) ?_
        refine ⟨i + 1, by omega, by omega, ren1 0 2, ?_⟩
        rw [hsu, List.length_append, List.length_singleton, hm]
        refine WeakR.up rfl rfl (by simp) (Nat.le_refl _) (.inr (by omega)) (by show 0 ≤ 1; omega) ⟨RenV.closed Below.lit, RenV.sl (by omega), RenV.inc hO (by omega), trivial⟩ trivial (fun p hp => ?_)
        obtain rfl := objG_mem hp
        exact ⟨by omega, _, rfl, .cells (RenVs.of_eq (by rw [hG', ← hG]; exact hsn) (flatG_below (fun _ _ => Below.lit) _)), .inl rfl⟩
      · have hb : bitB o i = false := by subst hO; exact h2
        rw [if_neg (by rw [hb]; decide)] at hsu
        refine SW.run tok hO (by cbv <;> rfl) (by trivial) ?_
        refine ⟨i + 1, by omega, by omega, ren1 0 0, ?_⟩
        rw [hsu, hm]
        refine WeakR.up rfl rfl (by simp) (Nat.le_refl _) (.inl rfl) (by show 0 ≤ 1; omega) ⟨RenV.closed Below.lit, RenV.sl (by omega), RenV.inc hO (by omega), trivial⟩ trivial (fun p hp => ?_)
        obtain rfl := objG_mem hp
        exact ⟨by omega, _, rfl, .cells (RenVs.of_eq hG (flatG_below (fun _ _ => Below.lit) _)), .inl rfl⟩
    · have he := f2 (by subst hO; exact h)
      refine SW.seqRun tok hO (by cbv <;> rfl) (by trivial) ?_
      refine SW.ret ⟨_, _, rfl, rfl, ?_⟩
      rw [← he]
      show Eqv (frz _ _ 3 (.sl 0 0 (m + 1) 1 false)) (.isl (selL o i).length 1 false _)
      rw [frz_slE (fm := none) (G := G) rfl rfl (by rw [hG, flatG_length]; omega), hm]
      refine Eqv.isl rfl fun j k hj hk => Eqv.of ?_
      rw [hG, frz_flat hj hk rfl]
      rfl
set_option maxHeartbeats 8000000 in
theorem bitsOf8_ok (nb : Nat) (hn : nb ≤ 8) (l : List Nat) (h1 : l.Pairwise (· < ·)) (h2 : ∀ p ∈ l, p < nb) (hl : l.length < 1000) : Pure Try.prog 57 [lsV l, iV (nb : Int)] (.tup [iV (mskL l), .lit (.bool true)]) := by
  obtain ⟨O, hO⟩ : ∃ O : Ar, O = std := ⟨_, rfl⟩
  have hnat : ∀ i : Nat, O.nat (Int.ofNat i) = i := fun i => by subst hO; rfl
  have hlI : ∀ i, i < l.length → 0 ≤ lI l i ∧ lI l i < nb ∧ (0 < i → lI l (i - 1) < lI l i) := fun i hi => by
    have hg : ∀ j, (hj : j < l.length) → l.getD j 0 = l[j] := fun j hj => by rw [List.getD_eq_getElem?_getD, List.getElem?_eq_getElem hj]; rfl
    unfold lI
    refine ⟨Int.natCast_nonneg _, ?_, fun h0 => ?_⟩
    · rw [hg i hi]; exact Int.ofNat_lt.2 (h2 _ (List.getElem_mem hi))
    · rw [hg i hi, hg (i - 1) (by omega)]
      exact Int.ofNat_lt.2 (List.pairwise_iff_getElem.1 h1 (i - 1) i (by omega) hi (by omega))
  have hm0 : mskL (l.take 0) = 0 := rfl
  have hms := fun i (hi : i < l.length) => mskL_snoc l i hi
  have hmL : mskL (l.take l.length) = mskL l := by rw [List.take_length]
  obtain ⟨M, hM⟩ : ∃ M : Nat → Int, M = fun i => mskL (l.take i) := ⟨_, rfl⟩
  have hM0 : M 0 = 0 := by rw [hM]; exact hm0
  have hMs : ∀ i, i < l.length → M (i + 1) = O.bin .or .i64 (M i) (O.bin .shl .i64 1 (O.conv .u64 (lI l i))) := fun i hi => by rw [hM, hO]; exact hms i hi
  have hML : M l.length = mskL l := by rw [hM]; exact hmL
  rw [← hML]
  have hlv : lsV l = intsV l.length false (lI l) := rfl
  rw [hlv]
  clear hM hm0 hms hmL hML hlv h1 h2
  obtain ⟨FL, hFL⟩ : ∃ f, lI l = f := ⟨_, rfl⟩
  obtain ⟨N, hN⟩ : ∃ n, l.length = n := ⟨_, rfl⟩
  rw [hFL, hN] at hlI hMs
  rw [hN] at hl
  rw [hFL, hN]
  have hconv : ∀ i, i < N → 0 ≤ O.conv .u64 (FL i) := fun i hi => by
    have := hlI i hi
    subst hO
    show 0 ≤ wrp .u64 (FL i)
    rw [wrp_in (by simp only [IntKind.lo]; omega) (by simp only [IntKind.hi]; omega)]
    omega
  refine pure_of_body tok 3 Try.func57 en57 rfl ⟨intsV_below _ _ _, Below.lit, trivial⟩ (Below.tup (AllB.ok ⟨Below.lit, Below.lit, trivial⟩)) ?_
  refine SW.seqRun tok hO (by cbv <;> rfl) (by trivial) ?_
  refine SW.seqRun tok hO (by cbv <;> rfl) (by trivial) ?_
  refine SW.seq ?_
  refine SW.seqRun tok hO (by cbv <;> rfl) (by trivial) ?_
  refine (SW.block (SW.loopF (fun i : Nat => ⟨⟨52, getT [(0, intsV N false FL), (1, iV (nb : Int)), (6, iV (M i)), (7, iV i)]⟩, []⟩) (fun _ => ⟨[], 0⟩) (fun i => N - i) (fun i => i ≤ N) 0
    (fun _ => rfl) (Nat.zero_le _) (Weak.by rfl rfl (by simp) (Nat.le_refl _) (Nat.le_refl _) ⟨⟨rfl, .inl rfl⟩, ⟨rfl, .inl rfl⟩, ⟨by show iV 0 = iV (M 0); rw [hM0], .inl rfl⟩, ⟨rfl, .inl rfl⟩, trivial⟩ trivial) fun i hi => ?_))
  have hMi := hMs i
  obtain ⟨m, hm⟩ : ∃ m, M i = m := ⟨_, rfl⟩
  rw [hm] at hMi
  show SW _ _ _ _ ⟨⟨52, getT [(0, intsV N false FL), (1, iV (nb : Int)), (6, iV (M i)), (7, iV i)]⟩, []⟩ _
  rw [hm]
  have hni : O.nat (Int.ofNat i) = i := hnat i
  refine SW.seq ?_
  refine SW.seqRun tok hO (by cbv <;> rfl) (by trivial) ?_
  refine SW.condS (by cbv <;> rfl) (fun h => SW.skip ?_) (fun h => SW.exit ?_)
  · have hlt : i < N := by
      have : (i : Int) < (N : Int) := by subst hO; simpa [std] using h
      omega
    obtain ⟨k1, k2, k3⟩ := hlI i hlt
    have k0 : (0 : Int) ≤ Int.ofNat i := Int.natCast_nonneg i
    have kN : Int.ofNat i < Int.ofNat N := Int.ofNat_lt.2 hlt
    refine SW.seq (SW.block ?_)
    refine SW.seq ?_
    refine SW.seqRunD tok mixed hO (by kernel_rfl) (by cbv <;> rfl) ?_ ?_
    · exact ⟨k0, kN⟩
    refine AnyE.dec tok hO (by kernel_rfl) (by cbv <;> rfl) (by trivial) (fun h3 => ?_) (fun h3 => ?_)
    · exfalso
      have h6 : O.cmp .lss (FL (O.nat (Int.ofNat i))) 0 = true := h3
      rw [hni] at h6
      have : FL i < 0 := by subst hO; simpa [std] using h6
      omega
    refine AnyE.run tok hO (by kernel_rfl) (by cbv <;> rfl) ?_ ?_
    · exact ⟨k0, kN⟩
    refine AnyE.dec tok hO (by kernel_rfl) (by cbv <;> rfl) (by trivial) (fun h3 => ?_) (fun h3 => ?_)
    · exfalso
      have h6 : O.cmp .geq (FL (O.nat (Int.ofNat i))) (nb : Int) = true := h3
      rw [hni] at h6
      have : FL i ≥ (nb : Int) := by subst hO; simpa [std] using h6
      omega
    refine AnyE.run tok hO (by kernel_rfl) (by cbv <;> rfl) (by trivial) ?_
    have hbig : i < 4611686018427387904 := Nat.lt_trans hlt (Nat.lt_trans hl (by decide))
    have hcv : 0 ≤ O.conv .u64 (FL (O.nat (Int.ofNat i))) := by rw [hni]; exact hconv i hlt
    have hnext : ∀ (f' : Fm) (st' : St), Weak 0 f' st' ⟨⟨52, getT [(0, intsV N false FL), (1, iV (nb : Int)), (6, iV (M (i + 1))), (7, iV ((i + 1 : Nat) : Int))]⟩, []⟩ ⟨[], 0⟩ → ∃ x', N - x' < N - i ∧ x' ≤ N ∧ Weak 0 f' st' ⟨⟨52, getT [(0, intsV N false FL), (1, iV (nb : Int)), (6, iV (M x')), (7, iV (x' : Nat))]⟩, []⟩ ⟨[], 0⟩ := fun f' st' h => ⟨i + 1, by omega, by omega, h⟩
    have hMi2 : M (i + 1) = O.bin .or .i64 m (O.bin .shl .i64 1 (O.conv .u64 (FL (O.nat (Int.ofNat i))))) := by rw [hni]; exact hMi hlt
    refine AnyE.dec tok hO (by kernel_rfl) (by cbv <;> rfl) (by trivial) (fun h4 => ?_) (fun h4 => ?_)
    · have hi0 : 0 < i := gtr0 hO h4
      have hq := sub1_rng hO (Nat.lt_trans hlt hl) hi0 hlt
      have hns := natsub1 hO (Nat.lt_trans hlt hl) hi0
      have k3 := k3 hi0
      refine AnyE.run tok hO (by kernel_rfl) (by cbv <;> rfl) ?_ ?_
      · exact ⟨hq, ⟨k0, kN⟩⟩
      refine AnyE.dec tok hO (by kernel_rfl) (by cbv <;> rfl) (by trivial) (fun h5 => ?_) (fun h5 => ?_)
      · exfalso
        have h6 : O.cmp .leq (FL (O.nat (Int.ofNat i))) (FL (O.nat (O.bin .sub .i64 (Int.ofNat i) 1))) = true := h5
        rw [hni, hns] at h6
        exact leq_no hO h6 k3
      · refine AnyE.run tok hO (by kernel_rfl) (by cbv <;> rfl) (by trivial) ?_
        refine SW.cond (t := false) (by cbv <;> rfl) (SW.skip ?_)
        refine SW.run tok hO (by cbv <;> rfl) ?_ ?_
        · exact ⟨hcv, ⟨k0, kN⟩⟩
        refine SW.run tok hO (by cbv <;> rfl) (by trivial) ?_
        refine hnext _ _ ?_
        rw [hMi2]
        exact Weak.by rfl rfl (by simp) (Nat.le_refl _) (Nat.le_refl _) ⟨⟨rfl, .inl rfl⟩, ⟨rfl, .inl rfl⟩, ⟨rfl, .inl rfl⟩, ⟨inc_ok hO hbig, .inl rfl⟩, trivial⟩ trivial
    · refine AnyE.run tok hO (by kernel_rfl) (by cbv <;> rfl) (by trivial) ?_
      refine SW.cond (t := false) (by cbv <;> rfl) (SW.skip ?_)
      refine SW.run tok hO (by cbv <;> rfl) ?_ ?_
      · exact ⟨hcv, ⟨k0, kN⟩⟩
      refine SW.run tok hO (by cbv <;> rfl) (by trivial) ?_
      refine hnext _ _ ?_
      rw [hMi2]
      exact Weak.by rfl rfl (by simp) (Nat.le_refl _) (Nat.le_refl _) ⟨⟨rfl, .inl rfl⟩, ⟨rfl, .inl rfl⟩, ⟨rfl, .inl rfl⟩, ⟨inc_ok hO hbig, .inl rfl⟩, trivial⟩ trivial
  · have hz : i = N := by
      have : (N : Int) ≤ (i : Int) := by subst hO; simpa [std] using h
      omega
    subst hz
    rw [hm]
    refine SW.seqRun tok hO (by cbv <;> rfl) (by trivial) ?_
    exact SW.ret ⟨_, _, rfl, rfl, Eqv.of rfl⟩end Go.Fz
set_option linter.unusedVariables false
namespace Go.Fz
open Go.Proofs
set_option maxRecDepth 100000
theorem ord_fin8 : ∀ n : Fin 9, (risL n.1).Pairwise (fun x y => shL y x = false) ∧ ∀ l ∈ risL n.1, shL l l = false := by decide +kernel
theorem sel_fin8 : ∀ (n : Fin 9) (o : Fin 256), o.1 < 2 ^ n.1 → selL (o.1 : Int) 8 ∈ risL n.1 := by decide +kernel
theorem selB_fin8 : ∀ (o : Fin 256) (i : Fin 8), bitB (o.1 : Int) i.1 = decide (i.1 ∈ selL (o.1 : Int) 8) := by decide +kernel
end Go.Fz
set_option linter.unusedVariables false
set_option linter.unusedSimpArgs false
namespace Go.Fz
open Go.Proofs
set_option maxRecDepth 100000
end Go.Fz
set_option linter.unusedVariables false
set_option linter.unusedSimpArgs false
namespace Go.Fz
open Go.Proofs
set_option maxRecDepth 100000
end Go.Fz
set_option linter.unusedVariables false
namespace Go.Fz
open Go.Proofs
set_option maxRecDepth 100000
end Go.Fz
set_option linter.unusedVariables false
namespace Go.Fz
open Go.Proofs
set_option maxRecDepth 100000
end Go.Fz
set_option linter.unusedVariables false
namespace Go.Fz
open Go.Proofs
set_option maxRecDepth 100000
end Go.Fz
set_option linter.unusedVariables false
set_option linter.unusedSimpArgs false
namespace Go.Fz
open Go.Proofs
set_option maxRecDepth 100000
end Go.Fz
set_option linter.unusedVariables false
set_option linter.unusedSimpArgs false
namespace Go.Fz
open Go.Proofs
set_option maxRecDepth 100000
end Go.Fz
set_option linter.unusedVariables false
namespace Go.Fz
open Go.Proofs
set_option maxRecDepth 100000
end Go.Fz
set_option linter.unusedVariables false
namespace Go.Fz
open Go.Proofs
set_option maxRecDepth 100000
end Go.Fz
set_option linter.unusedVariables false
namespace Go.Fz
open Go.Proofs
set_option maxRecDepth 100000
end Go.Fz
set_option linter.unusedVariables false
namespace Go.Fz
open Go.Proofs
set_option maxRecDepth 100000
theorem ris_before8 {n : Nat} (hn : n ≤ 8) {pre post : List (List Nat)} {l a : List Nat} (hE : risL n = pre ++ l :: post) (ha : a ∈ risL n) (hs : shL a l = true) : a ∈ pre := by
  obtain ⟨h1, h2⟩ := ord_fin8 ⟨n, by omega⟩
  simp only at h1 h2
  have hl := h2 l (by rw [hE]; simp)
  rw [hE] at h1 ha
  rcases List.mem_append.1 ha with ha | ha
  · exact ha
  · rcases List.mem_cons.1 ha with rfl | ha
    · rw [hl] at hs; cases hs
    · have := (List.pairwise_append.1 h1).2.1
      have := (List.pairwise_cons.1 this).1 a ha
      rw [this] at hs; cases hs
theorem cut_some {f : FarmD} (hc : f.check = 0) (ht : f.trs ≠ []) {n : Nat} (h : f.cutO = some n) : ∃ l, l ∈ f.trs ∧ n < f.nb ∧ f.cutB n (zL l) = true ∧ f.cutV = (n : Int) ∧ f.cutL = zV l ∧ f.cutE = 0 := by
  have hb : f.bndE = 0 := (bndE_of hc).1 ht
  have hn := List.mem_range.1 (List.mem_of_find?_eq_some h)
  have h1 : (f.cutAt n).isSome = true := List.find?_some (p := fun n => (f.cutAt n).isSome) (l := List.range f.nb) h
  obtain ⟨i, hi⟩ := Option.isSome_iff_exists.1 h1
  have hil : i < f.trs.length := List.mem_range.1 (List.mem_of_find?_eq_some hi)
  have hq : f.cutB n (zL (f.trs.getD i [])) = true := List.find?_some (p := f.cutQ n) (l := List.range f.trs.length) hi
  refine ⟨f.trs.getD i [], getD_mem hil, hn, hq, ?_, ?_, ?_⟩
  · unfold FarmD.cutV; rw [hb, h]; rfl
  · unfold FarmD.cutL; rw [hb, h]; simp only [hi]; rfl
  · unfold FarmD.cutE; rw [hb, h]; rfl
theorem proveC_true {f : FarmD} (hc : f.check = 0) {l : List Int} (hl : l ∈ f.trs) {n : Nat} (hn : n < f.nb) (hq : f.cutB n (zL l) = true) : f.proveC (n : Int) l.length (zL l) = true := by
  obtain ⟨h1, h2⟩ := f.trs_ch hl
  have h3 : f.rgt l = true := (List.mem_filter.1 hl).2
  unfold FarmD.proveC FarmD.proveT FarmD.fits
  have e1 : f.hasB (n : Int) = true := by simp only [FarmD.hasB, Bool.and_eq_true, decide_eq_true_eq]; omega
  have e2 : allN l.length (f.fitB (zL l)) = true := allN_true fun i hi => by
    have := h2 i (by omega)
    unfold FarmD.fitB
    rw [Bool.and_eq_true, decide_eq_true_eq, decide_eq_true_eq]
    exact this
  have e3 : allN f.nl (f.rightB (f.water (zL l))) = true := h3
  rw [e1, e2, e3, decide_eq_true hc, decide_eq_true h1, show ((n : Nat) : Int).toNat = n from rfl, hq]
  rfl
theorem bedChoice_ok (haw : Pure Try.prog 19 [] (.lit (.bool true))) (f : FarmD) (a : Int) (a0 : 0 ≤ a) (a1 : a ≤ 255) : Pure Try.prog 11 [farmV f, .lit (.int .u8 a)] (.lit (.bool true)) := by
  cases hR : f.readyB with
  | false => exact bc_not haw f a (ready_sb f hR)
  | true =>
    have e52 := ready_sb f hR
    have hc := check_of_ready hR
    have g := good_of_check hc
    have hs := good_small g
    have hnb := g.nb
    have hns := g.ns
    have hnl := g.nl
    have e21 := farm_ok f (by omega) (by omega) (by omega)
    have e49 := fewest49 hs
    have e50 := cut50 hs
    have e55 := truths55_ok hc
    obtain ⟨k1, k2⟩ := bndE_of hc
    by_cases ht : f.trs = []
    · rw [show f.fewL = nl3 by unfold FarmD.fewL; rw [k2 ht]; rfl, show f.fewE = 11 by unfold FarmD.fewE; rw [k2 ht]; rfl] at e49
      rw [show f.cutV = 0 by unfold FarmD.cutV; rw [k2 ht]; rfl, show f.cutL = nl3 by unfold FarmD.cutL; rw [k2 ht]; rfl, show f.cutE = 11 by unfold FarmD.cutE; rw [k2 ht]; rfl] at e50
      rw [(FarmD.refL_nil hc).2 ht] at e55
      exact bc_none haw f a _ e52 e21 e49 e50 e55
    · have hm : ∀ l, l ∈ f.refL ↔ l ∈ f.trs := fun l => FarmD.mem_refL hc
      have hNz : ¬ f.refL.length = 0 := fun h => ht ((FarmD.refL_nil hc).1 (List.length_eq_zero_iff.1 h))
      obtain ⟨an, rfl⟩ : ∃ n : Nat, a = (n : Int) := ⟨a.toNat, by omega⟩
      obtain ⟨q1, q2⟩ := and_fin8 ⟨f.nb, by omega⟩ ⟨an, by omega⟩
      simp only at q1 q2
      obtain ⟨tn, htn⟩ : ∃ n : Nat, std.bin .and .i64 (std.conv .i64 (an : Int)) (pw1 f.nb) = (n : Int) := ⟨(std.bin .and .i64 (std.conv .i64 (an : Int)) (pw1 f.nb)).toNat, by omega⟩
      rw [htn] at q2
      have ht1 : tn < 2 ^ f.nb := by exact_mod_cast q2
      have h256 : tn < 256 := Nat.lt_of_lt_of_le ht1 (by
        have : 2 ^ f.nb ≤ 2 ^ 8 := Nat.pow_le_pow_right (by decide) hnb
        exact this)
      have hsel := sel_fin8 ⟨f.nb, by omega⟩ ⟨tn, h256⟩ ht1
      simp only at hsel
      have hselB : ∀ b, b < f.nb → (bitB (tn : Int) b = true ↔ b ∈ selL (tn : Int) 8) := fun b hb => by
        have := selB_fin8 ⟨tn, h256⟩ ⟨b, by omega⟩
        simp only at this
        rw [this, decide_eq_true_eq]
      have e56 := fun o => suffice56_ok g (L := f.refL) (by have := FarmD.refL_len hc; omega) (fun l hl => f.trs_ch ((hm l).1 hl)) o
      have hsL : ∀ P, f.sufL f.refL P = f.sufL f.trs P := fun P => sufL_mem hm P
      have hst : f.sufL f.refL (bitB (tn : Int)) = f.suff (selL (tn : Int) 8) := by
        rw [hsL]
        exact (suff_eq (risL_lt hsel) hselB).symm
      refine bc_pre f (an : Int) f.refL.length (gT f.refL) hNz _ _ _ _ _ (tn : Int) (by omega) htn e52 e21 e49 e50 e55 fun gg h => ?_
      cases hfo : f.fewO with
      | none =>
        have hno : ∀ l ∈ risL f.nb, f.suff l = false := fun l hl => by
          have := List.find?_eq_none.1 hfo l hl
          simpa using this
        have hcut : f.cutO ≠ none := fun hn => by
          have h1 := nocut_suff hc hn
          have h2 := suff_eq (f := f) (l := List.range f.nb) (P := fun _ => true) (fun b hb => List.mem_range.1 hb) (fun b hb => ⟨fun _ => List.mem_range.2 hb, fun _ => rfl⟩)
          rw [h1, hno _ (range_fin8 ⟨f.nb, by omega⟩)] at h2
          cases h2
        obtain ⟨n, hn⟩ := Option.ne_none_iff_exists'.1 hcut
        obtain ⟨l, hl, hnn, hq, hV, hL, hE⟩ := cut_some hc ht hn
        have e38 := proveCut_ok f hs (n : Int) l.length false (zL l) (by rw [(f.trs_ch hl).1]; omega)
        rw [proveC_true hc hl hnn hq] at e38
        rw [hV, hL, hE, show f.fewE = 10 by unfold FarmD.fewE; rw [k1 ht, hfo]; rfl] at h
        have e56t := e56 (tn : Int)
        rw [hst, hno _ hsel] at e56t
        exact bc_short haw f _ _ _ _ _ _ e21 (e38.res (Eqv.litS true)) e56t gg h
      | some m =>
        obtain ⟨m1, m2⟩ := find_in hfo
        have hmlt := risL_lt m1
        have hml := risL_len m1
        have hmsk : ∀ b, b < f.nb → (bitB (mskL m) b = true ↔ b ∈ m) := fun b hb => by
          have := msk_fin8 ⟨f.nb, by omega⟩ m m1 ⟨b, by omega⟩
          simp only at this
          rw [this, decide_eq_true_eq]
        have hsm : f.sufL f.trs (bitB (mskL m)) = true := by rw [← suff_eq hmlt hmsk]; exact m2
        have hco : f.cutO = none := suff_nocut hc hsm
        rw [show f.fewE = 0 by unfold FarmD.fewE; rw [k1 ht, hfo]; rfl, show f.fewL = intsV m.length false (lI m) by unfold FarmD.fewL; rw [k1 ht, hfo]; exact nI_val m, show f.cutE = 7 by unfold FarmD.cutE; rw [k1 ht, hco]; rfl] at h
        have e57 : Pure Try.prog 57 [intsV m.length false (lI m), iV (Int.ofNat f.nb)] (.tup [iV (mskL m), .lit (.bool true)]) := bitsOf8_ok f.nb hnb m (sort_fin8 ⟨f.nb, by omega⟩ m m1) hmlt (by omega)
        have e56b := e56 (mskL m)
        rw [hsL, hsm] at e56b
        have e59 := bits59_8 (tn : Int) (by omega) (by omega)
        have hl8 : (selL (tn : Int) 8).length < 1000 := Nat.lt_of_le_of_lt (selL_len _ _) (by omega)
        have e58 := shorter_ok (selL (tn : Int) 8).length m.length false false (lI (selL (tn : Int) 8)) (lI m) hl8 (by omega)
        have tail : ∀ (gg : Nat → AV), AllP (fun p => gg p.1 = p.2) [(2, .ptr 0 0), (5, intsV m.length false (lI m)), (10, .isl f.refL.length 1 false (gT f.refL)), (12, iV (mskL m))] → SW Try.prog none (restC 10 (bodyF Try.f11)) (trueQ3 Try.f11) ⟨⟨132, gg⟩, []⟩ ⟨[(0, .cells none false (farmL f))], 1⟩ := fun gg h => by
          have hmem : ∀ i, i < m.length → lI m i = ((m.getD i 0 : Nat) : Int) ∧ m.getD i 0 ∈ m := fun i hi => by
            refine ⟨rfl, ?_⟩
            rw [List.getD_eq_getElem?_getD, List.getElem?_eq_getElem hi]
            exact List.getElem_mem hi
          refine bc_loop haw f f.refL.length (gT f.refL) (llV_below _) m.length (lI m) (by omega) (mskL m) (fun i hi => ?_) (fun i hi => ?_) gg h
          · obtain ⟨h1, h2⟩ := hmem i hi
            exact ⟨m.getD i 0, by have := hmlt _ h2; omega, h1⟩
          · obtain ⟨h1, h2⟩ := hmem i hi
            rw [h1]
            obtain ⟨h3, h4, h5⟩ := less_fin8 ⟨f.nb, by omega⟩ m m1 _ h2
            simp only at h3 h4 h5
            have h6 := e56 (std.bin .andNot .i64 (mskL m) (std.bin .shl .i64 1 (std.conv .u64 ((m.getD i 0 : Nat) : Int))))
            have h7 : f.sufL f.refL (bitB (std.bin .andNot .i64 (mskL m) (std.bin .shl .i64 1 (std.conv .u64 ((m.getD i 0 : Nat) : Int))))) = false := by
              rw [hsL, ← suff_eq (risL_lt h3) (fun b hb => by
                have := h5 ⟨b, by omega⟩
                simp only at this
                rw [this, decide_eq_true_eq])]
              cases hq : f.suff (m.filter fun y => decide (y ≠ m.getD i 0)) with
              | false => rfl
              | true =>
                have := find_len hfo h3 hq
                omega
            rw [h7] at h6
            exact h6
        cases hsh : shL (selL (tn : Int) 8) m with
        | false =>
          rw [show shortB (selL (tn : Int) 8).length m.length (lI (selL (tn : Int) 8)) (lI m) = false from hsh] at e58
          exact bc_okf f _ _ _ _ _ _ _ _ _ e57 e56b e59 (e58.res (Eqv.litS false)) tail gg h
        | true =>
          rw [show shortB (selL (tn : Int) 8).length m.length (lI (selL (tn : Int) 8)) (lI m) = true from hsh] at e58
          have e56t := e56 (tn : Int)
          have hns' : f.suff (selL (tn : Int) 8) = false := by
            obtain ⟨_, pre, post, hE, hpre⟩ := List.find?_eq_some_iff_append.1 hfo
            have := hpre _ (ris_before8 hnb hE hsel hsh)
            simpa using this
          rw [hst, hns'] at e56t
          exact bc_okt f _ _ _ _ _ _ _ _ _ e57 e56b e59 (e58.res (Eqv.litS true)) e56t tail gg h
end Go.Fz
