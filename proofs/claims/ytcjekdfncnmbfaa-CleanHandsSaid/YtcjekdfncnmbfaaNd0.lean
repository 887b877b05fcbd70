/- Own work of the verifier of watercress: Lb4, FzCn1, FzCn2, FzCn4, FzCh1, FzCh2, FzCh3, FzCh4, FzCh5. -/
import Derived.ChangeKeysEq
import Derived.Laws.AppendOwn
import Derived.Laws.Cells
import Derived.Laws.CopyRow
import Derived.Laws.Entries
import Derived.Laws.NewFold
import Derived.Laws.Sem
import Derived.Laws.Small
import Derived.Laws.StructEq
import Derived.Laws.Tables
import Derived.Laws.World
import Derived.OrdersHeld
import Derived.OrdersIn
import Derived.RangeFuncLeaves
import Derived.RangeFuncRecord
import Derived.Shelf.Abstract
import Derived.Test.YtcjekdfncnmbfaaNa0
import Derived.Test.YtcjekdfncnmbfaaNa1
import Derived.Test.YtcjekdfncnmbfaaNa2
import Derived.Test.YtcjekdfncnmbfaaNa3
import Derived.Test.YtcjekdfncnmbfaaProg
import Derived.Test.YtcjekdfncnmbfaaNa4
import Derived.Below
import Derived.CallsIn
import Derived.Carry
import Derived.ChangeSame
import Derived.Deep.Slices
import Derived.DeepKeys4
import Derived.JoinedCond
import Derived.Laws.Cover3
import Derived.Lib.SmallJoins
import Derived.Maps.Keyed
import Derived.Maps.RangeRun
import Derived.OpenShut
import Derived.ProofKit
import Derived.WalkKit
import Derived.WideKeyArgs
import Derived.Test.YtcjekdfncnmbfaaNa10
import Derived.Test.YtcjekdfncnmbfaaNa11
import Derived.Test.YtcjekdfncnmbfaaNa13
import Derived.Test.YtcjekdfncnmbfaaNa16
import Derived.Test.YtcjekdfncnmbfaaNa14
import Derived.Test.YtcjekdfncnmbfaaNa18
import Derived.Test.YtcjekdfncnmbfaaNa15
import Derived.Test.YtcjekdfncnmbfaaNa19
import Derived.Test.YtcjekdfncnmbfaaNa20
import Derived.Test.YtcjekdfncnmbfaaNa22
import Derived.Test.YtcjekdfncnmbfaaNa12
import Derived.Test.YtcjekdfncnmbfaaNa17
import Derived.Test.YtcjekdfncnmbfaaNa5
import Derived.Test.YtcjekdfncnmbfaaNa6
import Derived.Test.YtcjekdfncnmbfaaNa7
import Derived.Test.YtcjekdfncnmbfaaNa8
import Derived.Test.YtcjekdfncnmbfaaNa9
import Derived.Test.YtcjekdfncnmbfaaRows
set_option linter.unusedVariables false
set_option linter.unusedSimpArgs false
namespace Go.Fz
open Go.Proofs
theorem en9 : Enters Try.prog 9 := fun args w => Go.Proofs.enters_of Try.func9 (by kernel_rfl) rfl args w
theorem en50 : Enters Try.prog 50 := fun args w => Go.Proofs.enters_of Try.func50 (by kernel_rfl) rfl args w
theorem en51 : Enters Try.prog 51 := fun args w => Go.Proofs.enters_of Try.func51 (by kernel_rfl) rfl args w
end Go.Fz
set_option linter.unusedVariables false
namespace Go.Fz
open Go.Proofs
set_option maxRecDepth 100000
def YardD.someL (y : YardD) (l : List Nat) : YardD := { y with nc := l.length, cb := fun i => y.cb (l.getD i 0), clo := fun i => y.clo (l.getD i 0), chi := fun i => y.chi (l.getD i 0) }
end Go.Fz
set_option linter.unusedVariables false
namespace Go.Fz
open Go.Proofs
set_option maxRecDepth 100000
theorem foldS_someL {α : Type} (y : YardD) (l : List Nat) (next : α → (Nat → Int) → α) : ∀ (L P : List Nat) (f : Nat → Int) (a : α), foldS (y.someL l) next L P f a = foldS y next L P f a
  | [], _, _, _ => rfl
  | b :: L, P, f, a => by
    show foldV (fun v a => if y.okAt P f b v = true then foldS (y.someL l) next L (P ++ [b]) (setI f b v) a else a) (y.blo b) (y.bhi b - y.blo b + 1).toNat a = foldV (fun v a => if y.okAt P f b v = true then foldS y next L (P ++ [b]) (setI f b v) a else a) (y.blo b) (y.bhi b - y.blo b + 1).toNat a
    have : (fun v a => if y.okAt P f b v = true then foldS (y.someL l) next L (P ++ [b]) (setI f b v) a else a) = (fun v a => if y.okAt P f b v = true then foldS y next L (P ++ [b]) (setI f b v) a else a) := by
      funext v a
      rw [foldS_someL y l next L]
    rw [this]
theorem someL_allS (y : YardD) (l : List Nat) : (y.someL l).allS = y.allS := foldS_someL y l _ _ _ _ _
theorem someL_check {y : YardD} (hc : y.check = 0) {l : List Nat} (hl : ∀ p ∈ l, p < y.nc) (h5 : l.length ≤ 5) : (y.someL l).check = 0 := by
  unfold YardD.check at hc
  split at hc
  · omega
  · rename_i h1
    split at hc
    · rename_i h2
      split at hc
      · omega
      · rename_i h3
        have k1 : (y.someL l).long = false := by
          simp only [YardD.long, Bool.or_eq_true, decide_eq_true_eq, not_or] at h1
          obtain ⟨⟨⟨a1, a2⟩, a3⟩, a4⟩ := h1
          show (decide (9 < y.last) || decide (3 < y.hands) || decide (6 < y.nb) || decide (5 < l.length)) = false
          rw [decide_eq_false a1, decide_eq_false a2, decide_eq_false a3, decide_eq_false (by omega)]; rfl
        have k2 : (y.someL l).validB = true := by
          simp only [YardD.validB, Bool.and_eq_true] at h2
          obtain ⟨⟨⟨a1, a2⟩, a3⟩, a4⟩ := h2
          show (decide (0 ≤ y.last) && decide (1 ≤ y.hands) && allN y.nb y.bedOk && allN l.length (fun i => y.clmOk (l.getD i 0))) = true
          have a5 : allN l.length (fun i => y.clmOk (l.getD i 0)) = true := decide_eq_true fun i hi => by
            have e : l.getD i 0 = l[i] := by rw [List.getD_eq_getElem?_getD, List.getElem?_eq_getElem hi]; rfl
            show y.clmOk (l.getD i 0) = true
            rw [e]
            exact of_decide_eq_true a4 _ (hl _ (List.getElem_mem hi))
          rw [a1, a2, a3, a5]; rfl
        unfold YardD.check
        rw [k1, k2, if_neg (by simp), if_pos rfl]
        exact if_neg h3
    · omega
theorem not_bad {y : YardD} {f : Nat → Int} : y.badB f = false ↔ ∀ p, p < y.nc → y.rgt f p = true := by
  unfold YardD.badB
  rw [decide_eq_false_iff_not, Nat.not_lt, Nat.le_zero, List.length_eq_zero_iff]
  unfold YardD.wrN
  rw [List.filter_eq_nil_iff]
  constructor
  · intro h p hp
    have := h p (List.mem_range.2 hp)
    simpa using this
  · intro h p hp
    have := h p (List.mem_range.1 hp)
    simp [this]
theorem someL_kept {y : YardD} {l : List Nat} : (y.someL l).kept ≠ [] ↔ ∃ f ∈ y.allS, ∀ p ∈ l, y.rgt f p = true := by
  unfold YardD.kept kpS
  rw [someL_allS, Ne, List.filter_eq_nil_iff]
  constructor
  · intro h
    apply Classical.byContradiction
    intro hn
    apply h
    intro f hf hb
    apply hn
    have hb : (y.someL l).badB f = false := by simpa using hb
    refine ⟨f, hf, fun p hp => ?_⟩
    obtain ⟨i, hi, rfl⟩ := List.getElem_of_mem hp
    have := not_bad.1 hb i hi
    have e : l.getD i 0 = l[i] := by rw [List.getD_eq_getElem?_getD, List.getElem?_eq_getElem hi]; rfl
    rw [← e]
    exact this
  · rintro ⟨f, hf, hp⟩ h
    have := h f hf
    have hb : (y.someL l).badB f = false := not_bad.2 fun i hi => by
      have hi' : i < l.length := hi
      have e : l.getD i 0 = l[i] := by rw [List.getD_eq_getElem?_getD, List.getElem?_eq_getElem hi']; rfl
      show y.rgt f (l.getD i 0) = true
      rw [e]
      exact hp _ (List.getElem_mem hi')
    rw [hb] at this
    simp at this
theorem someL_show {y : YardD} (hc : y.check = 0) (hs : y.allS ≠ []) {l : List Nat} (hl : ∀ p ∈ l, p < y.nc) (h5 : l.length ≤ 5) : ((∃ f ∈ y.allS, ∀ p ∈ l, y.rgt f p = true) → (y.someL l).ownE true = 0) ∧ ((¬ ∃ f ∈ y.allS, ∀ p ∈ l, y.rgt f p = true) → (y.someL l).ownE true = 9) := by
  have ha : (y.someL l).anyE true = 0 := by
    unfold YardD.anyE
    rw [if_neg (by simp [someL_check hc hl h5]), if_neg (by simp), if_neg (by rw [someL_allS]; exact hs)]
  refine ⟨fun h => ?_, fun h => ?_⟩
  · have := someL_kept.2 h
    unfold YardD.ownE
    rw [if_neg (by simp [ha]), if_neg this]
  · have := mt someL_kept.1 h
    unfold YardD.ownE
    rw [if_neg (by simp [ha]), if_pos (Classical.not_not.1 this)]
theorem mem_wrN {y : YardD} {f : Nat → Int} {n p : Nat} : p ∈ y.wrN f n ↔ p < n ∧ y.rgt f p = false := by
  unfold YardD.wrN
  rw [List.mem_filter, List.mem_range]
  simp
end Go.Fz
set_option linter.unusedVariables false
namespace Go.Fz
open Go.Proofs
set_option maxRecDepth 100000
theorem memGetD {l : List Nat} {p : Nat} : p ∈ l ↔ ∃ j, j < l.length ∧ l.getD j 0 = p := by
  constructor
  · intro h
    obtain ⟨j, hj, rfl⟩ := List.getElem_of_mem h
    exact ⟨j, hj, by rw [List.getD_eq_getElem?_getD, List.getElem?_eq_getElem hj]; rfl⟩
  · rintro ⟨j, hj, rfl⟩
    rw [List.getD_eq_getElem?_getD, List.getElem?_eq_getElem hj]
    exact List.getElem_mem hj
theorem hasN_iff {l : List Nat} {p : Nat} : hasN l.length (fun j => ((l.getD j 0 : Nat) : Int)) (p : Int) = true ↔ p ∈ l := by
  unfold hasN
  rw [decide_eq_true_eq, memGetD]
  constructor
  · rintro ⟨j, hj, h⟩
    exact ⟨j, hj, Int.ofNat_inj.1 h⟩
  · rintro ⟨j, hj, h⟩
    exact ⟨j, hj, congrArg Int.ofNat h⟩
theorem wrB_iff {y : YardD} {f : Nat → Int} {l : List Nat} : y.wrB f l = true ↔ ∀ p, p < y.nc → y.rgt f p = false → p ∈ l := by
  unfold YardD.wrB subB allN
  rw [decide_eq_true_eq]
  constructor
  · intro h p hp hr
    obtain ⟨j, hj, e⟩ := memGetD.1 (mem_wrN.2 ⟨hp, hr⟩)
    have := h j hj
    simp only [e] at this
    exact hasN_iff.1 this
  · intro h j hj
    have hm : (y.wrN f y.nc).getD j 0 ∈ y.wrN f y.nc := memGetD.2 ⟨j, hj, rfl⟩
    have := mem_wrN.1 hm
    exact hasN_iff.2 (h _ this.1 this.2)
def coL (nc : Nat) (l : List Nat) : List Nat := (List.range nc).filter fun p => !l.contains p
theorem mem_coL {nc : Nat} {l : List Nat} {p : Nat} : p ∈ coL nc l ↔ p < nc ∧ p ∉ l := by
  unfold coL
  rw [List.mem_filter, List.mem_range]
  simp
theorem co_wr {y : YardD} {f : Nat → Int} {l : List Nat} : (∀ p ∈ coL y.nc l, y.rgt f p = true) ↔ y.wrB f l = true := by
  rw [wrB_iff]
  constructor
  · intro h p hp hr
    apply Classical.byContradiction
    intro hn
    rw [h p (mem_coL.2 ⟨hp, hn⟩)] at hr
    cases hr
  · intro h p hp
    obtain ⟨h1, h2⟩ := mem_coL.1 hp
    cases hr : y.rgt f p with
    | true => rfl
    | false => exact absurd (h p h1 hr) h2
theorem lvB_iff {y : YardD} {S : List (Nat → Int)} {l : List Nat} : y.lvB S l = true ↔ ∃ f ∈ S, ∀ p ∈ coL y.nc l, y.rgt f p = true := by
  unfold YardD.lvB
  rw [List.any_eq_true]
  constructor
  · rintro ⟨f, hf, h⟩; exact ⟨f, hf, co_wr.2 h⟩
  · rintro ⟨f, hf, h⟩; exact ⟨f, hf, co_wr.1 h⟩
theorem rng_ris5 : ∀ nc : Fin 6, List.range nc.1 ∈ risL nc.1 := by decide +kernel
end Go.Fz
set_option linter.unusedVariables false
namespace Go.Fz
open Go.Proofs
set_option maxRecDepth 100000
theorem mem_allS {y : YardD} {f : Nat → Int} : f ∈ y.allS ↔ (∀ b, b ∉ List.range y.nb → f b = 0) ∧ y.Sch (List.range y.nb) f := by
  have h := foldS_all (y := y) (next := appS) (S := fun s => f ∈ s) (G := fun g => f = g) (fun s g => by unfold appS; rw [List.mem_append, List.mem_singleton]) (L := List.range y.nb) List.pairwise_lt_range []
  refine Iff.trans h ?_
  constructor
  · rintro (h | ⟨g, h1, h2, rfl⟩)
    · cases h
    · exact ⟨h1, h2⟩
  · rintro ⟨h1, h2⟩
    exact .inr ⟨f, h1, h2, rfl⟩
theorem allS_can {y : YardD} : y.canL (List.range y.nb) = true ↔ y.allS ≠ [] := by
  rw [y.canL_iff List.pairwise_lt_range]
  constructor
  · rintro ⟨g, h1, h2⟩ h
    have := mem_allS.2 ⟨h1, h2⟩
    rw [h] at this
    cases this
  · intro h
    obtain ⟨f, hf⟩ := List.exists_mem_of_ne_nil _ h
    exact ⟨f, mem_allS.1 hf⟩
theorem mem_kept {y : YardD} {f : Nat → Int} : f ∈ y.kept ↔ f ∈ y.allS ∧ ∀ p, p < y.nc → y.rgt f p = true := by
  unfold YardD.kept kpS
  rw [List.mem_filter]
  constructor
  · rintro ⟨h1, h2⟩
    exact ⟨h1, not_bad.1 (by simpa using h2)⟩
  · rintro ⟨h1, h2⟩
    exact ⟨h1, by rw [not_bad.2 h2]; rfl⟩
theorem anyW_iff {S : List (Nat → Int)} {b w : Int} : anyW S b w = true ↔ ∃ f ∈ S, f b.toNat = w := by
  unfold anyW
  rw [decide_eq_true_eq]
  have hg : ∀ j, (hj : j < S.length) → S.getD j f0 = S[j] := fun j hj => by rw [List.getD_eq_getElem?_getD, List.getElem?_eq_getElem hj]; rfl
  constructor
  · rintro ⟨i, hi, h⟩
    rw [hg i hi] at h
    exact ⟨_, List.getElem_mem hi, of_decide_eq_true h⟩
  · rintro ⟨f, hf, h⟩
    obtain ⟨i, hi, rfl⟩ := List.getElem_of_mem hf
    exact ⟨i, hi, by rw [hg i hi]; exact decide_eq_true h⟩
theorem mem_wkN {S : List (Nat → Int)} {b lo w : Int} : ∀ n, w ∈ wkN S b lo n ↔ (lo ≤ w ∧ w < lo + (n : Nat)) ∧ anyW S b w = true
  | 0 => by
    constructor
    · intro h; cases h
    · rintro ⟨h, _⟩; omega
  | n + 1 => by
    have ih := mem_wkN (S := S) (b := b) (lo := lo) (w := w) n
    show w ∈ nxW S b (wkN S b lo n) (lo + (n : Nat)) ↔ _
    unfold nxW
    constructor
    · intro h
      split at h
      · rename_i ha
        rcases List.mem_append.1 h with h | h
        · have := ih.1 h
          exact ⟨by omega, this.2⟩
        · rw [List.mem_singleton.1 h]
          exact ⟨by omega, ha⟩
      · have := ih.1 h
        exact ⟨by omega, this.2⟩
    · rintro ⟨h1, h2⟩
      by_cases e : w = lo + (n : Nat)
      · subst e
        rw [if_pos h2]
        exact List.mem_append.2 (.inr (List.mem_singleton.2 rfl))
      · have := ih.2 ⟨by omega, h2⟩
        split
        · exact List.mem_append.2 (.inl this)
        · exact this
theorem wkN_congr {S S' : List (Nat → Int)} {b lo : Int} (h : ∀ w, anyW S b w = anyW S' b w) : ∀ n, wkN S b lo n = wkN S' b lo n
  | 0 => rfl
  | n + 1 => by
    show nxW S b (wkN S b lo n) _ = nxW S' b (wkN S' b lo n) _
    rw [wkN_congr h n]
    unfold nxW
    rw [h]
theorem withH_check {y : YardD} (hc : y.check = 0) {k : Int} (h1 : 1 ≤ k) (h3 : k ≤ 3) : (y.withH k).check = 0 := by
  unfold YardD.check at hc
  split at hc
  · omega
  · rename_i a1
    split at hc
    · rename_i a2
      split at hc
      · omega
      · rename_i a3
        have k1 : (y.withH k).long = false := by
          simp only [YardD.long, Bool.or_eq_true, decide_eq_true_eq, not_or] at a1
          obtain ⟨⟨⟨b1, b2⟩, b3⟩, b4⟩ := a1
          show (decide (9 < y.last) || decide (3 < k) || decide (6 < y.nb) || decide (5 < y.nc)) = false
          rw [decide_eq_false b1, decide_eq_false (by omega), decide_eq_false b3, decide_eq_false b4]; rfl
        have k2 : (y.withH k).validB = true := by
          simp only [YardD.validB, Bool.and_eq_true] at a2
          obtain ⟨⟨⟨b1, b2⟩, b3⟩, b4⟩ := a2
          show (decide (0 ≤ y.last) && decide (1 ≤ k) && allN y.nb y.bedOk && allN y.nc y.clmOk) = true
          rw [b1, decide_eq_true h1, b3, b4]; rfl
        unfold YardD.check
        rw [k1, k2, if_neg (by simp), if_pos rfl]
        exact if_neg a3
    · omega
theorem more_allS {y : YardD} {k : Int} (hk : y.hands ≤ k) {f : Nat → Int} (hf : f ∈ y.allS) : f ∈ (y.withH k).allS := by
  obtain ⟨h1, h2⟩ := mem_allS.1 hf
  refine mem_allS.2 ⟨h1, ⟨h2.rng, h2.fin, fun w hw => Int.le_trans (h2.few w hw) hk, h2.apt⟩⟩
theorem busy_nb (y : YardD) (g : Nat → Int) (w : Int) : y.busyP (List.range y.nb) g w ≤ y.nb := by
  have : ((List.range y.nb).filter fun b => y.mt g b w).length ≤ (List.range y.nb).length := List.length_filter_le _ _
  rw [List.length_range] at this
  exact this
theorem full_allS {y : YardD} {k : Int} (hh : (y.nb : Int) ≤ y.hands) {f : Nat → Int} (hf : f ∈ (y.withH k).allS) : f ∈ y.allS := by
  obtain ⟨h1, h2⟩ := mem_allS.1 hf
  refine mem_allS.2 ⟨h1, ⟨h2.rng, h2.fin, fun w _ => ?_, h2.apt⟩⟩
  have := busy_nb y f w
  have : (y.busyP (List.range y.nb) f w : Int) ≤ (y.nb : Int) := Int.ofNat_le.2 this
  exact Int.le_trans this hh
theorem canH_iff {y : YardD} {k : Int} : y.canH k = true ↔ (y.withH k).allS ≠ [] := allS_can (y := y.withH k)
theorem canH_mono {y : YardD} {k l : Int} (h : k ≤ l) (hk : y.canH k = true) : y.canH l = true := by
  rw [canH_iff] at hk ⊢
  obtain ⟨f, hf⟩ := List.exists_mem_of_ne_nil _ hk
  have := more_allS (y := y.withH k) (k := l) h hf
  intro h'
  rw [show ((y.withH k).withH l).allS = (y.withH l).allS from rfl, h'] at this
  cases this
theorem few_sees {y : YardD} (hc : y.check = 0) : (∃ n : Nat, 1 ≤ n ∧ n ≤ 3 ∧ y.fewN = ((n : Int), 0) ∧ ∀ k : Nat, 1 ≤ k → k ≤ 3 → (y.canH k = true ↔ n ≤ k)) ∨ (y.fewN = (0, 10) ∧ ∀ k : Nat, 1 ≤ k → k ≤ 3 → y.canH k = false) := by
  have hq : y.fewN = if y.check = 0 then (if y.canH 1 then (1, 0) else if y.canH 2 then (2, 0) else if y.canH 3 then (3, 0) else (0, 10)) else (0, y.check) := rfl
  rw [if_pos hc] at hq
  have m12 := canH_mono (y := y) (k := 1) (l := 2) (by decide)
  have m23 := canH_mono (y := y) (k := 2) (l := 3) (by decide)
  have hk3 : ∀ k : Nat, 1 ≤ k → k ≤ 3 → k = 1 ∨ k = 2 ∨ k = 3 := fun k _ _ => by omega
  cases c1 : y.canH 1 with
  | true =>
    have c2 := m12 c1
    have c3 := m23 c2
    rw [c1] at hq
    refine .inl ⟨1, by omega, by omega, hq, fun k k1 k3 => ⟨fun _ => k1, fun _ => ?_⟩⟩
    rcases hk3 k k1 k3 with rfl | rfl | rfl
    · exact c1
    · exact c2
    · exact c3
  | false =>
    rw [c1] at hq
    cases c2 : y.canH 2 with
    | true =>
      have c3 := m23 c2
      rw [c2] at hq
      refine .inl ⟨2, by omega, by omega, hq, fun k k1 k3 => ?_⟩
      rcases hk3 k k1 k3 with rfl | rfl | rfl
      · exact ⟨fun h => (by rw [show y.canH ((1 : Nat) : Int) = y.canH 1 from rfl, c1] at h; cases h), fun h => (by omega)⟩
      · exact ⟨fun _ => by omega, fun _ => c2⟩
      · exact ⟨fun _ => by omega, fun _ => c3⟩
    | false =>
      rw [c2] at hq
      cases c3 : y.canH 3 with
      | true =>
        rw [c3] at hq
        refine .inl ⟨3, by omega, by omega, hq, fun k k1 k3 => ?_⟩
        rcases hk3 k k1 k3 with rfl | rfl | rfl
        · exact ⟨fun h => (by rw [show y.canH ((1 : Nat) : Int) = y.canH 1 from rfl, c1] at h; cases h), fun h => (by omega)⟩
        · exact ⟨fun h => (by rw [show y.canH ((2 : Nat) : Int) = y.canH 2 from rfl, c2] at h; cases h), fun h => (by omega)⟩
        · exact ⟨fun _ => by omega, fun _ => c3⟩
      | false =>
        rw [c3] at hq
        refine .inr ⟨hq, fun k k1 k3 => ?_⟩
        rcases hk3 k k1 k3 with rfl | rfl | rfl
        · exact c1
        · exact c2
        · exact c3
theorem bare_show {y : YardD} (hc : y.check = 0) {k : Nat} (h1 : 1 ≤ k) (h3 : k ≤ 3) : ((y.withH k).someL []).ownE true = if y.canH k = true then 0 else 10 := by
  have hz := withH_check hc (k := (k : Int)) (by omega) (by omega)
  have hz2 : ((y.withH k).someL []).check = 0 := someL_check hz (fun p hp => by cases hp) (by simp)
  by_cases hk : y.canH k = true
  · rw [if_pos hk]
    have hs := canH_iff.1 hk
    refine (someL_show hz hs (fun p hp => by cases hp) (by simp)).1 ?_
    obtain ⟨f, hf⟩ := List.exists_mem_of_ne_nil _ hs
    exact ⟨f, hf, fun p hp => by cases hp⟩
  · rw [if_neg hk]
    have hs : (y.withH k).allS = [] := Classical.not_not.1 fun h => hk (canH_iff.2 h)
    have ha : ((y.withH k).someL []).anyE true = 10 := by
      unfold YardD.anyE
      rw [if_neg (by simp [hz2]), if_neg (by simp), if_pos (by rw [someL_allS]; exact hs)]
    unfold YardD.ownE
    rw [if_pos (by rw [ha]; decide), ha]
theorem min_fin : ∀ (h : Fin 4) (m : Fin 256), 1 ≤ h.1 → ((h.1 : Int) ≤ std.mn 3 (std.bin .add .i64 (h.1 : Int) (std.bin .rem .i64 (std.conv .i64 (m.1 : Int)) 3)) ∧ std.mn 3 (std.bin .add .i64 (h.1 : Int) (std.bin .rem .i64 (std.conv .i64 (m.1 : Int)) 3)) ≤ 3) := by decide +kernel
theorem len_fin5 : ∀ nc : Fin 6, (risL nc.1).Pairwise (fun a b => a.length ≤ b.length) := by decide +kernel
end Go.Fz
set_option linter.unusedVariables false
namespace Go.Fz
open Go.Proofs
set_option maxRecDepth 100000
set_option maxHeartbeats 8000000 in
theorem has50_ok (n : Nat) (ex : Bool) (fl : Nat → Int) (x : Int) (hn : n < 1000) : Pure Try.prog 50 [intsV n ex fl, iV x] (.sb (hasN n fl x)) := by
  obtain ⟨O, hO⟩ : ∃ O : Ar, O = std := ⟨_, rfl⟩
  have hnat : ∀ i : Nat, O.nat (Int.ofNat i) = i := fun i => by subst hO; rfl
  refine pure_of_body tok 3 Try.func50 en50 rfl ⟨intsV_below _ _ _, Below.lit, trivial⟩ Below.sb ?_
  refine SW.seqRun tok hO (by cbv <;> rfl) (by trivial) ?_
  refine SW.seq ?_
  refine SW.seqRun tok hO (by cbv <;> rfl) (by trivial) ?_
  refine (SW.block (SW.loopF (fun i : Nat => ⟨⟨18, getT [(0, intsV n ex fl), (1, iV x), (5, iV i)]⟩, []⟩) (fun _ => ⟨[], 0⟩) (fun i => n - i) (fun i => i ≤ n ∧ ∀ j, j < i → fl j ≠ x) 0
    (fun _ => rfl) ⟨Nat.zero_le _, fun j hj => absurd hj (Nat.not_lt_zero _)⟩ (Weak.by rfl rfl (by simp) (Nat.le_refl _) (Nat.le_refl _) ⟨⟨rfl, .inl rfl⟩, ⟨rfl, .inl rfl⟩, ⟨rfl, .inl rfl⟩, trivial⟩ trivial) fun i hi => ?_))
  obtain ⟨hi, hbefore⟩ := hi
  have hni := hnat i
  show SW _ _ _ _ ⟨⟨18, getT [(0, intsV n ex fl), (1, iV x), (5, iV i)]⟩, []⟩ _
  refine SW.seq ?_
  refine SW.seqRun tok hO (by cbv <;> rfl) (by trivial) ?_
  refine SW.condS (by cbv <;> rfl) (fun h => SW.skip ?_) (fun h => SW.exit ?_)
  · have hlt : i < n := by
      have : (i : Int) < (n : Int) := by subst hO; simpa [std] using h
      omega
    have k0 : (0 : Int) ≤ Int.ofNat i := Int.natCast_nonneg i
    have kN : Int.ofNat i < Int.ofNat n := Int.ofNat_lt.2 hlt
    have hbig : i < 4611686018427387904 := Nat.lt_trans hlt (Nat.lt_trans hn (by decide))
    refine SW.seq (SW.block ?_)
    refine SW.seqRun tok hO (by cbv <;> rfl) ?_ ?_
    · exact ⟨k0, kN⟩
    refine SW.condS (by cbv <;> rfl) (fun h2 => ?_) (fun h2 => SW.skip ?_)
    · have he : fl i = x := by
        have h3 : O.cmp .eql (fl (O.nat (Int.ofNat i))) x = true := h2
        rw [hni] at h3
        subst hO; simpa [std] using h3
      refine SW.seqRun tok hO (by cbv <;> rfl) (by trivial) ?_
      refine SW.ret ⟨_, _, rfl, rfl, Eqv.bool ?_⟩
      unfold hasN
      exact (decide_eq_true ⟨i, hlt, he⟩).symm
    · have he : fl i ≠ x := by
        have h3 : O.cmp .eql (fl (O.nat (Int.ofNat i))) x = false := h2
        rw [hni] at h3
        subst hO; simpa [std] using h3
      refine SW.run tok hO (by cbv <;> rfl) (by trivial) ?_
      refine ⟨i + 1, by omega, ⟨by omega, fun j hj => ?_⟩, Weak.by rfl rfl (by simp) (Nat.le_refl _) (Nat.le_refl _) ⟨⟨rfl, .inl rfl⟩, ⟨rfl, .inl rfl⟩, ⟨inc_ok hO hbig, .inl rfl⟩, trivial⟩ trivial⟩
      by_cases e : j = i
      · subst e; exact he
      · exact hbefore j (by omega)
  · have hz : i = n := by
      have : (n : Int) ≤ (i : Int) := by subst hO; simpa [std] using h
      omega
    subst hz
    refine SW.seqRun tok hO (by cbv <;> rfl) (by trivial) ?_
    refine SW.ret ⟨_, _, rfl, rfl, Eqv.bool ?_⟩
    unfold hasN
    exact (decide_eq_false fun ⟨j, hj, h⟩ => hbefore j hj h).symm
def conB (na nb : Nat) (fa fb : Nat → Int) : Bool := allN nb fun i => hasN na fa (fb i)
set_option maxHeartbeats 8000000 in
theorem contains51_ok (na nb : Nat) (ea eb : Bool) (fa fb : Nat → Int) (hna : na < 1000) (hnb : nb < 1000) : Pure Try.prog 51 [intsV na ea fa, intsV nb eb fb] (.sb (conB na nb fa fb)) := by
  obtain ⟨O, hO⟩ : ∃ O : Ar, O = std := ⟨_, rfl⟩
  have hnat : ∀ i : Nat, O.nat (Int.ofNat i) = i := fun i => by subst hO; rfl
  refine pure_of_body tok 3 Try.func51 en51 rfl ⟨intsV_below _ _ _, intsV_below _ _ _, trivial⟩ Below.sb ?_
  refine SW.seqRun tok hO (by cbv <;> rfl) (by trivial) ?_
  refine SW.seq ?_
  refine SW.seqRun tok hO (by cbv <;> rfl) (by trivial) ?_
  refine (SW.block (SW.loopF (fun i : Nat => ⟨⟨19, getT [(0, intsV na ea fa), (1, intsV nb eb fb), (5, iV i)]⟩, []⟩) (fun _ => ⟨[], 0⟩) (fun i => nb - i) (fun i => i ≤ nb ∧ ∀ j, j < i → hasN na fa (fb j) = true) 0
    (fun _ => rfl) ⟨Nat.zero_le _, fun j hj => absurd hj (Nat.not_lt_zero _)⟩ (Weak.by rfl rfl (by simp) (Nat.le_refl _) (Nat.le_refl _) ⟨⟨rfl, .inl rfl⟩, ⟨rfl, .inl rfl⟩, ⟨rfl, .inl rfl⟩, trivial⟩ trivial) fun i hi => ?_))
  obtain ⟨hi, hbefore⟩ := hi
  have hni := hnat i
  show SW _ _ _ _ ⟨⟨19, getT [(0, intsV na ea fa), (1, intsV nb eb fb), (5, iV i)]⟩, []⟩ _
  refine SW.seq ?_
  refine SW.seqRun tok hO (by cbv <;> rfl) (by trivial) ?_
  refine SW.condS (by cbv <;> rfl) (fun h => SW.skip ?_) (fun h => SW.exit ?_)
  · have hlt : i < nb := by
      have : (i : Int) < (nb : Int) := by subst hO; simpa [std] using h
      omega
    have k0 : (0 : Int) ≤ Int.ofNat i := Int.natCast_nonneg i
    have kN : Int.ofNat i < Int.ofNat nb := Int.ofNat_lt.2 hlt
    have hbig : i < 4611686018427387904 := Nat.lt_trans hlt (Nat.lt_trans hnb (by decide))
    have e50 := has50_ok na ea fa (fb i) hna
    obtain ⟨H, hH⟩ : ∃ H, hasN na fa (fb i) = H := ⟨_, rfl⟩
    rw [hH] at e50
    rw [← hni] at e50
    refine SW.seq (SW.block ?_)
    refine SW.seqRun tok hO (by cbv <;> rfl) ?_ ?_
    · exact ⟨k0, kN⟩
    refine OpsW.callP e50 (by cbv <;> rfl) ?_
    refine OpsW.run tok hO (by cbv <;> rfl) (by trivial) ?_
    refine SW.condS (by cbv <;> rfl) (fun h2 => ?_) (fun h2 => SW.skip ?_)
    · have he : H = false := by
        have h3 : O.not H = true := h2
        subst hO
        cases H with
        | true => cases h3
        | false => rfl
      refine SW.seqRun tok hO (by cbv <;> rfl) (by trivial) ?_
      refine SW.ret ⟨_, _, rfl, rfl, Eqv.bool ?_⟩
      unfold conB allN
      refine (decide_eq_false fun h => ?_).symm
      have this : hasN na fa (fb i) = true := h i hlt
      rw [hH, he] at this
      cases this
    · have he : H = true := by
        have h3 : O.not H = false := h2
        subst hO
        cases H with
        | true => rfl
        | false => cases h3
      refine SW.run tok hO (by cbv <;> rfl) (by trivial) ?_
      refine ⟨i + 1, by omega, ⟨by omega, fun j hj => ?_⟩, Weak.by rfl rfl (by simp) (Nat.le_refl _) (Nat.le_refl _) ⟨⟨rfl, .inl rfl⟩, ⟨rfl, .inl rfl⟩, ⟨inc_ok hO hbig, .inl rfl⟩, trivial⟩ trivial⟩
      by_cases e : j = i
      · subst e; rw [hH, he]
      · exact hbefore j (by omega)
  · have hz : i = nb := by
      have : (nb : Int) ≤ (i : Int) := by subst hO; simpa [std] using h
      omega
    subst hz
    refine SW.seqRun tok hO (by cbv <;> rfl) (by trivial) ?_
    refine SW.ret ⟨_, _, rfl, rfl, Eqv.bool ?_⟩
    unfold conB allN
    exact (decide_eq_true hbefore).symm
end Go.Fz
set_option linter.unusedVariables false
namespace Go.Fz
open Go.Proofs
set_option maxRecDepth 100000
def trueQ3 (fn : Func) : Exit → Fm → St → Prop := retQ T fn (fun v st' => Eqv (frz st'.h (fun _ => true) 3 v) (.lit (.bool true)))
def chX (y : YardD) (X : Int) : List AV := [iV y.last, iV X, bedsV y, clmsV y]
def chS (y : YardD) (X : Int) : St := ⟨[(1, .cells none false (chX y X)), (0, .cells none false (yardC y))], 2⟩
set_option maxHeartbeats 8000000 in
theorem ch_err (haw : Pure Try.prog 18 [] (.lit (.bool true))) (y : YardD) (X G : Int) (LV MV : AV) (e20 : Pure Try.prog 20 [yardV y] (yardV y)) (x20 : Pure Try.prog 20 [.agg (chX y X)] (.agg (chX y X)))
    (e41 : Pure Try.prog 41 [yardV y] (.tup [LV, iV 10])) (x41 : Pure Try.prog 41 [.agg (chX y X)] (.tup [MV, iV G])) (hG : G = 0 ∨ G = 10)
    (gg : Nat → AV) (h : AllP (fun p => gg p.1 = p.2) [(3, .ptr 0 0), (7, .ptr 1 0)]) :
    SW Try.prog none (restC 7 (bodyF Try.f9)) (trueQ3 Try.f9) ⟨⟨182, gg⟩, []⟩ (chS y X) := by
  obtain ⟨O, hO⟩ : ∃ O : Ar, O = std := ⟨_, rfl⟩
  obtain ⟨g1, g2, _⟩ := h
  simp only at g1 g2
  rw [← updT_self g1, ← updT_self g2]
  refine (show SW Try.prog none (.seq (.region _ _ _) _) _ _ _ from ?_)
  refine SW.seqRun tok hO (by cbv <;> rfl) (by trivial) ?_
  refine OpsW.callP e20 (by cbv <;> rfl) ?_
  refine OpsW.run tok hO (by cbv <;> rfl) (by trivial) ?_
  refine OpsW.callP e41 (by cbv <;> rfl) ?_
  refine OpsW.run tok hO (by cbv <;> rfl) (by trivial) ?_
  refine SW.seqRun tok hO (by cbv <;> rfl) (by trivial) ?_
  refine OpsW.callP x20 (by cbv <;> rfl) ?_
  refine OpsW.run tok hO (by cbv <;> rfl) (by trivial) ?_
  refine OpsW.callP x41 (by cbv <;> rfl) ?_
  refine OpsW.run tok hO (by cbv <;> rfl) (by trivial) ?_
  refine SW.seq ?_
  refine SW.seqRun tok hO (by cbv <;> rfl) (by trivial) ?_
  refine SW.condS (by cbv <;> rfl) (fun h => ?_) (fun h => by subst hO; simp [std] at h)
  refine SW.seqRun tok hO (by cbv <;> rfl) (by trivial) ?_
  refine OpsW.splitG (by cbv <;> rfl) (fun h => ?_) (fun h => by subst hO; simp [std] at h)
  refine OpsW.run tok hO (by cbv <;> rfl) (by trivial) ?_
  rcases hG with hG | hG
  · refine OpsW.splitG (by cbv <;> rfl) (fun h => ?_) (fun h => by subst hO; simp [std, hG] at h)
    refine OpsW.run tok hO (by cbv <;> rfl) (by trivial) ?_
    refine OpsW.callP haw (by cbv <;> rfl) ?_
    refine OpsW.run tok hO (by cbv <;> rfl) (by trivial) ?_
    exact SW.ret ⟨_, _, rfl, rfl, Eqv.of rfl⟩
  · refine OpsW.splitG (by cbv <;> rfl) (fun h => by subst hO; simp [std, hG] at h) (fun h => ?_)
    refine OpsW.run tok hO (by cbv <;> rfl) (by trivial) ?_
    refine OpsW.splitG (by cbv <;> rfl) (fun h => ?_) (fun h => by subst hO; simp [std, hG] at h)
    refine OpsW.run tok hO (by cbv <;> rfl) (by trivial) ?_
    refine OpsW.callP haw (by cbv <;> rfl) ?_
    refine OpsW.run tok hO (by cbv <;> rfl) (by trivial) ?_
    exact SW.ret ⟨_, _, rfl, rfl, Eqv.of rfl⟩
set_option maxHeartbeats 8000000 in
theorem ch_pre2 (y : YardD) (X bd : Int) (na nb : Nat) (fa fb : Nat → Int) (e20 : Pure Try.prog 20 [yardV y] (yardV y)) (x20 : Pure Try.prog 20 [.agg (chX y X)] (.agg (chX y X)))
    (e41 : Pure Try.prog 41 [yardV y] (.tup [intsV na false fa, iV 0])) (x41 : Pure Try.prog 41 [.agg (chX y X)] (.tup [intsV nb false fb, iV 0])) (hab : nb ≤ na)
    (htail : ∀ (gg : Nat → AV), AllP (fun p => gg p.1 = p.2) [(2, .lit (.int .u8 bd)), (3, .ptr 0 0), (7, .ptr 1 0), (14, intsV na false fa)] → SW Try.prog none (restC 11 (bodyF Try.f9)) (trueQ3 Try.f9) ⟨⟨182, gg⟩, []⟩ (chS y X))
    (gg : Nat → AV) (h : AllP (fun p => gg p.1 = p.2) [(2, .lit (.int .u8 bd)), (3, .ptr 0 0), (7, .ptr 1 0)]) :
    SW Try.prog none (restC 7 (bodyF Try.f9)) (trueQ3 Try.f9) ⟨⟨182, gg⟩, []⟩ (chS y X) := by
  obtain ⟨O, hO⟩ : ∃ O : Ar, O = std := ⟨_, rfl⟩
  obtain ⟨g1, g2, g3, _⟩ := h
  simp only at g1 g2 g3
  rw [← updT_self g1, ← updT_self g2, ← updT_self g3]
  refine (show SW Try.prog none (.seq (.region _ _ _) _) _ _ _ from ?_)
  refine SW.seqRun tok hO (by cbv <;> rfl) (by trivial) ?_
  refine OpsW.callP e20 (by cbv <;> rfl) ?_
  refine OpsW.run tok hO (by cbv <;> rfl) (by trivial) ?_
  refine OpsW.callP e41 (by cbv <;> rfl) ?_
  refine OpsW.run tok hO (by cbv <;> rfl) (by trivial) ?_
  refine SW.seqRun tok hO (by cbv <;> rfl) (by trivial) ?_
  refine OpsW.callP x20 (by cbv <;> rfl) ?_
  refine OpsW.run tok hO (by cbv <;> rfl) (by trivial) ?_
  refine OpsW.callP x41 (by cbv <;> rfl) ?_
  refine OpsW.run tok hO (by cbv <;> rfl) (by trivial) ?_
  refine SW.seq ?_
  refine SW.seqRun tok hO (by cbv <;> rfl) (by trivial) ?_
  refine SW.condS (by cbv <;> rfl) (fun h => by subst hO; simp [std] at h) (fun h => SW.skip ?_)
  refine SW.seq ?_
  refine SW.seqRun tok hO (by cbv <;> rfl) (by trivial) ?_
  refine OpsW.splitG (by cbv <;> rfl) (fun h => by subst hO; simp [std] at h) (fun h => ?_)
  refine OpsW.run tok hO (by cbv <;> rfl) (by trivial) ?_
  refine SW.condS (by cbv <;> rfl) (fun h => ?_) (fun h => SW.skip ?_)
  · exfalso
    have h2 : (nb : Int) > (na : Int) := by subst hO; simpa [std] using h
    omega
  · exact htail _ ⟨rfl, rfl, rfl, rfl, trivial⟩
set_option maxHeartbeats 8000000 in
theorem ch_few (haw : Pure Try.prog 18 [] (.lit (.bool true))) (y : YardD) (X bd : Int) (na : Nat) (fa : Nat → Int) (hz : y.nb = 0 ∨ 0 < na)
    (gg : Nat → AV) (h : AllP (fun p => gg p.1 = p.2) [(2, .lit (.int .u8 bd)), (3, .ptr 0 0), (7, .ptr 1 0), (14, intsV na false fa)]) :
    SW Try.prog none (restC 11 (bodyF Try.f9)) (trueQ3 Try.f9) ⟨⟨182, gg⟩, []⟩ (chS y X) := by
  obtain ⟨O, hO⟩ : ∃ O : Ar, O = std := ⟨_, rfl⟩
  obtain ⟨g1, g2, g3, g4, _⟩ := h
  simp only at g1 g2 g3 g4
  rw [← updT_self g1, ← updT_self g2, ← updT_self g3, ← updT_self g4]
  refine (show SW Try.prog none (.seq (.seq (.region _ _ _) _) _) _ _ _ from ?_)
  refine SW.seq ?_
  refine SW.seqRun tok hO (by cbv <;> rfl) (by trivial) ?_
  refine OpsW.splitG (by cbv <;> rfl) (fun h => ?_) (fun h => ?_)
  · refine OpsW.run tok hO (by cbv <;> rfl) (by trivial) ?_
    refine SW.cond (t := true) (by cbv <;> rfl) ?_
    refine SW.seqRun tok hO (by cbv <;> rfl) (by trivial) ?_
    refine OpsW.callP haw (by cbv <;> rfl) ?_
    refine OpsW.run tok hO (by cbv <;> rfl) (by trivial) ?_
    exact SW.ret ⟨_, _, rfl, rfl, Eqv.of rfl⟩
  · have h1 : 0 < na := by
      rcases hz with hz | hz
      · exfalso
        have h2 : ¬ ((y.nb : Int) = 0) := by subst hO; simpa [std] using h
        omega
      · exact hz
    refine OpsW.run tok hO (by cbv <;> rfl) (by trivial) ?_
    refine SW.condS (by cbv <;> rfl) (fun h3 => ?_) (fun h3 => ?_)
    · refine SW.seqRun tok hO (by cbv <;> rfl) (by trivial) ?_
      refine OpsW.callP haw (by cbv <;> rfl) ?_
      refine OpsW.run tok hO (by cbv <;> rfl) (by trivial) ?_
      exact SW.ret ⟨_, _, rfl, rfl, Eqv.of rfl⟩
    · exfalso
      have h2 : ¬ ((na : Int) > 0) := by subst hO; simpa [std] using h3
      omega
set_option maxHeartbeats 8000000 in
theorem ch_weeks (haw : Pure Try.prog 18 [] (.lit (.bool true))) (y : YardD) (X bd : Int) (na : Nat) (fa : Nat → Int) (hz : 0 < y.nb) (hna : na = 0) (wa wb : Nat) (ga gb : Nat → Int) (e20 : Pure Try.prog 20 [yardV y] (yardV y)) (x20 : Pure Try.prog 20 [.agg (chX y X)] (.agg (chX y X)))
    (e27 : Pure Try.prog 27 [yardV y, iV (std.bin .rem .i64 (std.conv .i64 bd) (Int.ofNat y.nb))] (.tup [intsV wa false ga, iV 0])) (x27 : Pure Try.prog 27 [.agg (chX y X), iV (std.bin .rem .i64 (std.conv .i64 bd) (Int.ofNat y.nb))] (.tup [intsV wb false gb, iV 0]))
    (e51 : Pure Try.prog 51 [intsV wb false gb, intsV wa false ga] (.sb true)) (e30 : ¬ (y.hands < y.nb) → Pure Try.prog 30 [intsV wa false ga, intsV wb false gb] (.sb true))
    (gg : Nat → AV) (h : AllP (fun p => gg p.1 = p.2) [(2, .lit (.int .u8 bd)), (3, .ptr 0 0), (7, .ptr 1 0), (14, intsV na false fa)]) :
    SW Try.prog none (restC 11 (bodyF Try.f9)) (trueQ3 Try.f9) ⟨⟨182, gg⟩, []⟩ (chS y X) := by
  obtain ⟨O, hO⟩ : ∃ O : Ar, O = std := ⟨_, rfl⟩
  obtain ⟨g1, g2, g3, g4, _⟩ := h
  simp only at g1 g2 g3 g4
  rw [← updT_self g1, ← updT_self g2, ← updT_self g3, ← updT_self g4]
  rw [← hO] at e27 x27
  have hnz : Int.ofNat y.nb ≠ 0 := by
    have := Int.ofNat_lt.2 hz
    show (y.nb : Int) ≠ 0
    omega
  refine (show SW Try.prog none (.seq (.seq (.region _ _ _) _) _) _ _ _ from ?_)
  refine SW.seq ?_
  refine SW.seqRun tok hO (by cbv <;> rfl) (by trivial) ?_
  refine OpsW.splitG (by cbv <;> rfl) (fun h => absurd (show Int.ofNat y.nb = 0 by subst hO; simpa [std] using h) hnz) (fun h => ?_)
  refine OpsW.run tok hO (by cbv <;> rfl) (by trivial) ?_
  refine SW.condS (by cbv <;> rfl) (fun h3 => by subst hO; simp [std, hna] at h3) (fun h3 => SW.skip ?_)
  refine SW.seqRun tok hO (by cbv <;> rfl) (by exact hnz) ?_
  refine SW.seqRun tok hO (by cbv <;> rfl) (by trivial) ?_
  refine OpsW.callP e20 (by cbv <;> rfl) ?_
  refine OpsW.run tok hO (by cbv <;> rfl) (by trivial) ?_
  refine OpsW.callP e27 (by cbv <;> rfl) ?_
  refine OpsW.run tok hO (by cbv <;> rfl) (by trivial) ?_
  refine SW.seqRun tok hO (by cbv <;> rfl) (by trivial) ?_
  refine OpsW.callP x20 (by cbv <;> rfl) ?_
  refine OpsW.run tok hO (by cbv <;> rfl) (by trivial) ?_
  refine OpsW.callP x27 (by cbv <;> rfl) ?_
  refine OpsW.run tok hO (by cbv <;> rfl) (by trivial) ?_
  refine SW.seqRun tok hO (by cbv <;> rfl) (by trivial) ?_
  refine OpsW.splitG (by cbv <;> rfl) (fun h => ?_) (fun h => by subst hO; simp [std] at h)
  refine OpsW.run tok hO (by cbv <;> rfl) (by trivial) ?_
  refine OpsW.splitG (by cbv <;> rfl) (fun h => ?_) (fun h => by subst hO; simp [std] at h)
  refine OpsW.run tok hO (by cbv <;> rfl) (by trivial) ?_
  refine OpsW.callP e51 (by cbv <;> rfl) ?_
  refine OpsW.run tok hO (by cbv <;> rfl) (by trivial) ?_
  refine OpsW.splitG (by cbv <;> rfl) (fun h => ?_) (fun h => by cases h)
  refine OpsW.run tok hO (by cbv <;> rfl) (by trivial) ?_
  refine OpsW.splitG (by cbv <;> rfl) (fun h4 => ?_) (fun h4 => ?_)
  · refine OpsW.run tok hO (by cbv <;> rfl) (by trivial) ?_
    refine OpsW.callP haw (by cbv <;> rfl) ?_
    refine OpsW.run tok hO (by cbv <;> rfl) (by trivial) ?_
    exact SW.ret ⟨_, _, rfl, rfl, Eqv.of rfl⟩
  · have e30 := e30 (by
      have : ¬ (y.hands < (y.nb : Int)) := by subst hO; simpa [std] using h4
      exact this)
    refine OpsW.run tok hO (by cbv <;> rfl) (by trivial) ?_
    refine OpsW.callP e30 (by cbv <;> rfl) ?_
    refine OpsW.run tok hO (by cbv <;> rfl) (by trivial) ?_
    refine OpsW.splitG (by cbv <;> rfl) (fun h => ?_) (fun h => by cases h)
    refine OpsW.run tok hO (by cbv <;> rfl) (by trivial) ?_
    refine OpsW.callP haw (by cbv <;> rfl) ?_
    refine OpsW.run tok hO (by cbv <;> rfl) (by trivial) ?_
    exact SW.ret ⟨_, _, rfl, rfl, Eqv.of rfl⟩
end Go.Fz
set_option linter.unusedVariables false
namespace Go.Fz
open Go.Proofs
set_option maxRecDepth 100000
theorem bne_no {O : Ar} (hO : O = std) {F V : Int} {k : Nat} (h : (F = 0 ∧ V ≤ k) ∨ (F = 10 ∧ ¬ V ≤ k)) (hb : O.bne (O.cmp .eql F 0) (O.cmp .geq (Int.ofNat k) V) = true) : False := by
  subst hO
  rcases h with ⟨h1, h2⟩ | ⟨h1, h2⟩
  · have e2 : std.cmp .geq (Int.ofNat k) V = true := by
      show decide ((k : Int) ≥ V) = true
      exact decide_eq_true h2
    rw [h1, e2] at hb
    revert hb; decide
  · have e2 : std.cmp .geq (Int.ofNat k) V = false := by
      show decide ((k : Int) ≥ V) = false
      exact decide_eq_false h2
    rw [h1, e2] at hb
    revert hb; decide
theorem bne_no2 {O : Ar} (hO : O = std) {F : Int} (h1 : F = 10) (hb : O.bne (O.cmp .eql F 0) false = true) : False := by
  subst hO
  rw [h1] at hb
  revert hb; decide
set_option maxHeartbeats 8000000 in
theorem ch_loop (y : YardD) (X bd V E : Int)
    (hshow : ∀ k : Nat, 1 ≤ k → k ≤ 3 → ∃ (ZV SV : AV) (F : Int), Pure Try.prog 20 [.agg [iV y.last, iV (Int.ofNat k), bedsV y, nl3]] ZV ∧ Pure Try.prog 19 [ZV] (.tup [SV, iV F]) ∧ ((F = 0 ∧ E = 0 ∧ V ≤ k) ∨ (F = 10 ∧ E = 0 ∧ ¬ V ≤ k) ∨ (F = 10 ∧ E = 10)))
    (htail : ∀ (gg : Nat → AV), AllP (fun p => gg p.1 = p.2) [(2, .lit (.int .u8 bd)), (3, .ptr 0 0), (7, .ptr 1 0)] → SW Try.prog none (restC 7 (bodyF Try.f9)) (trueQ3 Try.f9) ⟨⟨182, gg⟩, []⟩ (chS y X))
    (gg : Nat → AV) (h : AllP (fun p => gg p.1 = p.2) [(2, .lit (.int .u8 bd)), (3, .ptr 0 0), (7, .ptr 1 0), (8, iV V), (9, iV E)]) :
    SW Try.prog none (restC 6 (bodyF Try.f9)) (trueQ3 Try.f9) ⟨⟨182, gg⟩, []⟩ (chS y X) := by
  obtain ⟨O, hO⟩ : ∃ O : Ar, O = std := ⟨_, rfl⟩
  obtain ⟨g1, g2, g3, g4, g5, _⟩ := h
  simp only at g1 g2 g3 g4 g5
  rw [← updT_self g1, ← updT_self g2, ← updT_self g3, ← updT_self g4, ← updT_self g5]
  refine (show SW Try.prog none (.seq (.seq (.region _ _ _) _) _) _ _ _ from ?_)
  refine SW.seq ?_
  refine SW.seqRun tok hO (by cbv <;> rfl) (by trivial) ?_
  refine (SW.block (SW.loopF (fun k : Nat => ⟨⟨182, getT [(2, .lit (.int .u8 bd)), (3, .ptr 0 0), (7, .ptr 1 0), (8, iV V), (9, iV E), (10, iV k)]⟩, []⟩) (fun _ => ⟨[(1, .cells none false [iV y.last, iV X, bedsV y, clmsV y]), (0, .cells none false (yardC y))], 2⟩) (fun k => 4 - k) (fun k => 1 ≤ k ∧ k ≤ 4) 1
    (fun _ => rfl) ⟨by omega, by omega⟩ (Weak.by rfl rfl (by simp) (Nat.le_refl _) (Nat.le_refl _) ⟨⟨rfl, .inl rfl⟩, ⟨rfl, .inl rfl⟩, ⟨rfl, .inl rfl⟩, ⟨rfl, .inl rfl⟩, ⟨rfl, .inl rfl⟩, ⟨rfl, .inl rfl⟩, trivial⟩ ⟨⟨rfl, by omega, .inl rfl⟩, ⟨rfl, by omega, .inl rfl⟩, trivial⟩) fun k hk => ?_))
  obtain ⟨hk1, hk4⟩ := hk
  show SW _ _ _ _ ⟨⟨182, getT [(2, .lit (.int .u8 bd)), (3, .ptr 0 0), (7, .ptr 1 0), (8, iV V), (9, iV E), (10, iV k)]⟩, []⟩ _
  refine SW.seq ?_
  refine SW.seqRun tok hO (by cbv <;> rfl) (by trivial) ?_
  refine SW.condS (by cbv <;> rfl) (fun h => SW.skip ?_) (fun h => SW.exit ?_)
  · have hlt : k ≤ 3 := by
      have : (k : Int) ≤ 3 := by subst hO; simpa [std] using h
      omega
    obtain ⟨ZV, SV, F, e20, e19, hrel⟩ := hshow k hk1 hlt
    have hbig : k < 4611686018427387904 := by omega
    have hnext : ∀ (f' : Fm) (st' : St), Weak 2 f' st' ⟨⟨182, getT [(2, .lit (.int .u8 bd)), (3, .ptr 0 0), (7, .ptr 1 0), (8, iV V), (9, iV E), (10, iV ((k + 1 : Nat) : Int))]⟩, []⟩ ⟨[(1, .cells none false [iV y.last, iV X, bedsV y, clmsV y]), (0, .cells none false (yardC y))], 2⟩ → ∃ x', 4 - x' < 4 - k ∧ (1 ≤ x' ∧ x' ≤ 4) ∧ Weak 2 f' st' ⟨⟨182, getT [(2, .lit (.int .u8 bd)), (3, .ptr 0 0), (7, .ptr 1 0), (8, iV V), (9, iV E), (10, iV (x' : Nat))]⟩, []⟩ ⟨[(1, .cells none false [iV y.last, iV X, bedsV y, clmsV y]), (0, .cells none false (yardC y))], 2⟩ := fun f' st' h => ⟨k + 1, by omega, by omega, h⟩
    have hinc := inc_ok hO hbig
    clear hshow htail
    have hb1 : ObjBelow 2 (.cells none false [iV y.last, iV X, bedsV y, clmsV y]) := ⟨AllB.ok ⟨Below.lit, Below.lit, Below.up (m := 0) (bedsV_below y), Below.up (m := 0) (clmsV_below y), trivial⟩, fun f h => by cases h⟩
    have hb0 : ObjBelow 2 (.cells none false (yardC y)) := ⟨AllB.ok ⟨Below.lit, Below.lit, Below.up (m := 0) (bedsV_below y), Below.up (m := 0) (clmsV_below y), trivial⟩, fun f h => by cases h⟩
    refine SW.seq (SW.block ?_)
    refine SW.seqRun tok hO (by cbv <;> rfl) (by trivial) ?_
    refine SW.seqRun tok hO (by cbv <;> rfl) (by trivial) ?_
    refine SW.seqRun tok hO (by cbv <;> rfl) (by trivial) ?_
    refine OpsW.callP e20 (by cbv <;> rfl) ?_
    refine OpsW.run tok hO (by cbv <;> rfl) (by trivial) ?_
    refine OpsW.callP e19 (by cbv <;> rfl) ?_
    refine OpsW.run tok hO (by cbv <;> rfl) (by trivial) ?_
    refine SW.seqRun tok hO (by cbv <;> rfl) (by trivial) ?_
    rcases hrel with ⟨hF, hE, hV⟩ | ⟨hF, hE, hV⟩ | ⟨hF, hE⟩
    · refine OpsW.splitG (by cbv <;> rfl) (fun h => by subst hO; simp [std, hF] at h) (fun h => ?_)
      refine OpsW.run tok hO (by cbv <;> rfl) (by trivial) ?_
      refine OpsW.splitG (by cbv <;> rfl) (fun h => ?_) (fun h => by subst hO; simp [std, hE] at h)
      refine OpsW.run tok hO (by cbv <;> rfl) (by trivial) ?_
      refine SW.condS (by cbv <;> rfl) (fun h => (bne_no hO (.inl ⟨hF, hV⟩) h).elim) (fun h => SW.skip ?_)
      refine SW.run tok hO (by cbv <;> rfl) (by trivial) ?_
      refine hnext _ _ ?_
      exact Weak.by rfl rfl (by simp) (Nat.le_refl _) (by show 2 ≤ 3; omega) ⟨⟨rfl, .inr Below.lit⟩, ⟨rfl, .inr (Below.ptr (by omega))⟩, ⟨rfl, .inr (Below.ptr (by omega))⟩, ⟨rfl, .inr Below.lit⟩, ⟨rfl, .inr Below.lit⟩, ⟨hinc, .inr Below.lit⟩, trivial⟩ ⟨⟨rfl, by omega, .inr hb1⟩, ⟨rfl, by omega, .inr hb0⟩, trivial⟩
    · refine OpsW.splitG (by cbv <;> rfl) (fun h => ?_) (fun h => by subst hO; simp [std, hF] at h)
      refine OpsW.run tok hO (by cbv <;> rfl) (by trivial) ?_
      refine OpsW.splitG (by cbv <;> rfl) (fun h => by subst hO; simp [std, hF] at h) (fun h => ?_)
      refine OpsW.run tok hO (by cbv <;> rfl) (by trivial) ?_
      refine OpsW.splitG (by cbv <;> rfl) (fun h => ?_) (fun h => by subst hO; simp [std, hE] at h)
      refine OpsW.run tok hO (by cbv <;> rfl) (by trivial) ?_
      refine SW.condS (by cbv <;> rfl) (fun h => (bne_no hO (.inr ⟨hF, hV⟩) h).elim) (fun h => SW.skip ?_)
      refine SW.run tok hO (by cbv <;> rfl) (by trivial) ?_
      refine hnext _ _ ?_
      exact Weak.by rfl rfl (by simp) (Nat.le_refl _) (by show 2 ≤ 3; omega) ⟨⟨rfl, .inr Below.lit⟩, ⟨rfl, .inr (Below.ptr (by omega))⟩, ⟨rfl, .inr (Below.ptr (by omega))⟩, ⟨rfl, .inr Below.lit⟩, ⟨rfl, .inr Below.lit⟩, ⟨hinc, .inr Below.lit⟩, trivial⟩ ⟨⟨rfl, by omega, .inr hb1⟩, ⟨rfl, by omega, .inr hb0⟩, trivial⟩
    · refine OpsW.splitG (by cbv <;> rfl) (fun h => ?_) (fun h => by subst hO; simp [std, hF] at h)
      refine OpsW.run tok hO (by cbv <;> rfl) (by trivial) ?_
      refine OpsW.splitG (by cbv <;> rfl) (fun h => by subst hO; simp [std, hF] at h) (fun h => ?_)
      refine OpsW.run tok hO (by cbv <;> rfl) (by trivial) ?_
      refine OpsW.splitG (by cbv <;> rfl) (fun h => by subst hO; simp [std, hE] at h) (fun h => ?_)
      refine OpsW.run tok hO (by cbv <;> rfl) (by trivial) ?_
      refine SW.condS (by cbv <;> rfl) (fun h => (bne_no2 hO hF h).elim) (fun h => SW.skip ?_)
      refine SW.run tok hO (by cbv <;> rfl) (by trivial) ?_
      refine hnext _ _ ?_
      exact Weak.by rfl rfl (by simp) (Nat.le_refl _) (by show 2 ≤ 3; omega) ⟨⟨rfl, .inr Below.lit⟩, ⟨rfl, .inr (Below.ptr (by omega))⟩, ⟨rfl, .inr (Below.ptr (by omega))⟩, ⟨rfl, .inr Below.lit⟩, ⟨rfl, .inr Below.lit⟩, ⟨hinc, .inr Below.lit⟩, trivial⟩ ⟨⟨rfl, by omega, .inr hb1⟩, ⟨rfl, by omega, .inr hb0⟩, trivial⟩
  · exact htail _ ⟨rfl, rfl, rfl, trivial⟩
set_option maxHeartbeats 8000000 in
theorem ch_start (y : YardD) (mr bd V E : Int) (e45 : Pure Try.prog 45 [yardV y] (.sb true)) (e20 : Pure Try.prog 20 [yardV y] (yardV y)) (e33 : Pure Try.prog 33 [yardV y] (.tup [iV V, iV E])) (hE : (E = 0 ∧ 1 ≤ V ∧ V ≤ 3) ∨ E = 10)
    (htail : ∀ (gg : Nat → AV), AllP (fun p => gg p.1 = p.2) [(2, .lit (.int .u8 bd)), (3, .ptr 0 0), (7, .ptr 1 0), (8, iV V), (9, iV E)] → SW Try.prog none (restC 6 (bodyF Try.f9)) (trueQ3 Try.f9) ⟨⟨182, gg⟩, []⟩ (chS y (std.mn 3 (std.bin .add .i64 y.hands (std.bin .rem .i64 (std.conv .i64 mr) 3))))) :
    Pure Try.prog 9 [yardV y, .lit (.int .u8 mr), .lit (.int .u8 bd)] (.lit (.bool true)) := by
  obtain ⟨O, hO⟩ : ∃ O : Ar, O = std := ⟨_, rfl⟩
  rw [← hO] at htail
  have e29 := in_ok V 1 3
  refine pure_of_body tok 3 Try.func9 en9 rfl ⟨yardV_below y, Below.lit, Below.lit, trivial⟩ Below.lit ?_
  refine SW.seqRun tok hO (by cbv <;> rfl) (by trivial) ?_
  refine SW.seq ?_
  refine SW.seqRun tok hO (by cbv <;> rfl) (by trivial) ?_
  refine OpsW.callP e45 (by cbv <;> rfl) ?_
  refine OpsW.run tok hO (by cbv <;> rfl) (by trivial) ?_
  refine SW.condS (by cbv <;> rfl) (fun h => nomatch (show false = true from (by rw [hO] at h; exact h))) (fun h => SW.skip ?_)
  refine SW.seqRun tok hO (by cbv <;> rfl) (by trivial) ?_
  refine SW.seqRun tok hO (by cbv <;> rfl) (by exact (by decide : (3 : Int) ≠ 0)) ?_
  refine SW.seqRun tok hO (by cbv <;> rfl) (by trivial) ?_
  refine OpsW.callP e20 (by cbv <;> rfl) ?_
  refine OpsW.run tok hO (by cbv <;> rfl) (by trivial) ?_
  refine OpsW.callP e33 (by cbv <;> rfl) ?_
  refine OpsW.run tok hO (by cbv <;> rfl) (by trivial) ?_
  refine SW.seq ?_
  refine SW.seqRun tok hO (by cbv <;> rfl) (by trivial) ?_
  rcases hE with ⟨hE, h1, h3⟩ | hE
  · have hb : inB V 1 3 = true := by
      unfold inB
      rw [Bool.and_eq_true, decide_eq_true_eq, decide_eq_true_eq]
      exact ⟨h1, h3⟩
    rw [hb] at e29
    refine OpsW.splitG (by cbv <;> rfl) (fun h => by subst hO; simp [std, hE] at h) (fun h => ?_)
    refine OpsW.run tok hO (by cbv <;> rfl) (by trivial) ?_
    refine OpsW.splitG (by cbv <;> rfl) (fun h => ?_) (fun h => by subst hO; simp [std, hE] at h)
    refine OpsW.run tok hO (by cbv <;> rfl) (by trivial) ?_
    refine OpsW.callP e29 (by cbv <;> rfl) ?_
    refine OpsW.run tok hO (by cbv <;> rfl) (by trivial) ?_
    refine SW.condS (by cbv <;> rfl) (fun h => nomatch (show false = true from (by rw [hO] at h; exact h))) (fun h => SW.skip ?_)
    exact htail _ ⟨rfl, rfl, rfl, rfl, rfl, trivial⟩
  · refine OpsW.splitG (by cbv <;> rfl) (fun h => ?_) (fun h => by subst hO; simp [std, hE] at h)
    refine OpsW.run tok hO (by cbv <;> rfl) (by trivial) ?_
    refine OpsW.splitG (by cbv <;> rfl) (fun h => by subst hO; simp [std, hE] at h) (fun h => ?_)
    refine OpsW.run tok hO (by cbv <;> rfl) (by trivial) ?_
    refine OpsW.splitG (by cbv <;> rfl) (fun h => by subst hO; simp [std, hE] at h) (fun h => ?_)
    refine OpsW.run tok hO (by cbv <;> rfl) (by trivial) ?_
    refine SW.condS (by cbv <;> rfl) (fun h => by cases h) (fun h => SW.skip ?_)
    exact htail _ ⟨rfl, rfl, rfl, rfl, rfl, trivial⟩
set_option maxHeartbeats 8000000 in
theorem ch_not (haw : Pure Try.prog 18 [] (.lit (.bool true))) (y : YardD) (mr bd : Int) (e45 : Pure Try.prog 45 [yardV y] (.sb false)) : Pure Try.prog 9 [yardV y, .lit (.int .u8 mr), .lit (.int .u8 bd)] (.lit (.bool true)) := by
  obtain ⟨O, hO⟩ : ∃ O : Ar, O = std := ⟨_, rfl⟩
  refine pure_of_body tok 3 Try.func9 en9 rfl ⟨yardV_below y, Below.lit, Below.lit, trivial⟩ Below.lit ?_
  refine SW.seqRun tok hO (by cbv <;> rfl) (by trivial) ?_
  refine SW.seq ?_
  refine SW.seqRun tok hO (by cbv <;> rfl) (by trivial) ?_
  refine OpsW.callP e45 (by cbv <;> rfl) ?_
  refine OpsW.run tok hO (by cbv <;> rfl) (by trivial) ?_
  refine SW.condS (by cbv <;> rfl) (fun h => ?_) (fun h => by subst hO; cases h)
  refine SW.seqRun tok hO (by cbv <;> rfl) (by trivial) ?_
  refine OpsW.callP haw (by cbv <;> rfl) ?_
  refine OpsW.run tok hO (by cbv <;> rfl) (by trivial) ?_
  exact SW.ret ⟨_, _, rfl, rfl, Eqv.of rfl⟩
end Go.Fz
set_option linter.unusedVariables false
namespace Go.Fz
open Go.Proofs
set_option maxRecDepth 100000
theorem any_sees {y : YardD} (hc : y.check = 0) : (y.allS = [] → y.anyE true = 10) ∧ (y.allS ≠ [] → y.anyE true = 0) := by
  refine ⟨fun hs => ?_, fun hs => ?_⟩
  · unfold YardD.anyE
    rw [if_neg (by simp [hc]), if_neg (by simp), if_pos hs]
  · unfold YardD.anyE
    rw [if_neg (by simp [hc]), if_neg (by simp), if_neg hs]
theorem own_sees {y : YardD} (hc : y.check = 0) (hk : y.kept ≠ []) : y.ownE true = 0 := by
  have hs : y.allS ≠ [] := fun h => hk (by unfold YardD.kept kpS; rw [h]; rfl)
  unfold YardD.ownE
  rw [if_neg (by simp [(any_sees hc).2 hs]), if_neg hk]
theorem lve_sees {y : YardD} (hc : y.check = 0) (hs : y.allS ≠ []) : ∃ pre l post, y.lveV = lsV l ∧ risL y.nc = pre ++ l :: post ∧ (∀ l' ∈ pre, y.lvB y.allS l' = false) ∧ y.lvB y.allS l = true := by
  have h5 := (y.fit_of_check hc).2.2.2.2.2.1
  have ha := (any_sees hc).2 hs
  cases hf : (risL y.nc).find? (fun l => y.lvB y.allS l) with
  | none =>
    exfalso
    have h1 := List.find?_eq_none.1 hf _ (rng_ris5 ⟨y.nc, by omega⟩)
    apply h1
    simp only
    obtain ⟨f, hf⟩ := List.exists_mem_of_ne_nil _ hs
    refine lvB_iff.2 ⟨f, hf, fun p hp => ?_⟩
    obtain ⟨h2, h3⟩ := mem_coL.1 hp
    exact absurd (List.mem_range.2 h2) h3
  | some l =>
    obtain ⟨h1, pre, post, h2, h3⟩ := List.find?_eq_some_iff_append.1 hf
    refine ⟨pre, l, post, ?_, h2, fun l' hl' => by simpa using h3 l' hl', h1⟩
    unfold YardD.lveV
    rw [if_pos ha, hf]
theorem ris_short {n : Nat} (hn : n ≤ 5) {pre post : List (List Nat)} {m l : List Nat} (hE : risL n = pre ++ m :: post) (hl : l ∈ risL n) (hp : l ∉ pre) : m.length ≤ l.length := by
  have h := len_fin5 ⟨n, by omega⟩
  simp only at h
  rw [hE] at h hl
  rcases List.mem_append.1 hl with hl | hl
  · exact absurd hl hp
  · rcases List.mem_cons.1 hl with rfl | hl
    · exact Nat.le_refl _
    · exact (List.pairwise_cons.1 (List.pairwise_append.1 h).2.1).1 _ hl
theorem lv_nil {y : YardD} {S : List (Nat → Int)} (h : y.lvB S [] = true) : ∃ f ∈ S, ∀ p, p < y.nc → y.rgt f p = true := by
  obtain ⟨f, hf, h1⟩ := lvB_iff.1 h
  exact ⟨f, hf, fun p hp => h1 p (mem_coL.2 ⟨hp, by simp⟩)⟩
theorem rem_fin : ∀ (b : Fin 256) (n : Fin 7), 0 < n.1 → 0 ≤ std.bin .rem .i64 (std.conv .i64 (b.1 : Int)) (n.1 : Int) ∧ std.bin .rem .i64 (std.conv .i64 (b.1 : Int)) (n.1 : Int) < (n.1 : Int) := by decide +kernel
theorem rem_rng {b : Int} (b0 : 0 ≤ b) (b1 : b ≤ 255) {n : Nat} (h0 : 0 < n) (h6 : n ≤ 6) : 0 ≤ std.bin .rem .i64 (std.conv .i64 b) (n : Int) ∧ std.bin .rem .i64 (std.conv .i64 b) (n : Int) < (n : Int) := by
  have h := rem_fin ⟨b.toNat, by omega⟩ ⟨n, by omega⟩ h0
  have e : ((b.toNat : Nat) : Int) = b := by omega
  simp only [e] at h
  exact h
theorem befF_self (f : Nat → Int) (n : Nat) : ∀ k i, befF f f n n i k = false
  | 0, i => by
    show decide ((n : Int) < n) = false
    exact decide_eq_false (by omega)
  | k + 1, i => by
    show (if i < n ∧ i < n then (if f i = f i then befF f f n n (i + 1) k else decide (f i < f i)) else decide ((n : Int) < n)) = false
    split
    · rw [if_pos rfl]
      exact befF_self f n k (i + 1)
    · exact decide_eq_false (by omega)
theorem same_self (f : Nat → Int) (n : Nat) : sameB n n f f = true := by
  unfold sameB
  rw [befF_self, decide_eq_true rfl]
  rfl
theorem con_sub {a b : List Int} (h : ∀ x ∈ a, x ∈ b) : conB b.length a.length (fun j => b.getD j 0) (fun j => a.getD j 0) = true := by
  unfold conB allN hasN
  refine decide_eq_true fun i hi => ?_
  have hg : ∀ (l : List Int) j, (hj : j < l.length) → l.getD j 0 = l[j] := fun l j hj => by rw [List.getD_eq_getElem?_getD, List.getElem?_eq_getElem hj]; rfl
  obtain ⟨k, hk, e⟩ := List.getElem_of_mem (h _ (List.getElem_mem hi))
  refine decide_eq_true ⟨k, hk, ?_⟩
  show b.getD k 0 = a.getD i 0
  rw [hg b k hk, hg a i hi, e]
theorem wk_small {y : YardD} (hf : y.Fit) {K : Int} (k0 : 0 ≤ K) (k1 : K < y.nb) : (y.wkL K).length < 1000 := by
  have h1 := wkN_len (y.ownL (y.hasB K)) K (y.blo K.toNat) (y.bhi K.toNat - y.blo K.toNat + 1).toNat
  have h2 := hf.beg K.toNat (by omega)
  have h3 : (y.wkL K).length ≤ (y.bhi K.toNat - y.blo K.toNat + 1).toNat := h1
  omega
theorem weeks_sees {y : YardD} (hc : y.check = 0) (hk : y.kept ≠ []) {K : Int} (k0 : 0 ≤ K) (k1 : K < y.nb) : Pure Try.prog 27 [yardV y, iV K] (.tup [zV (y.wkL K), iV 0]) ∧ y.wkL K = wkN y.kept K (y.blo K.toNat) (y.bhi K.toNat - y.blo K.toNat + 1).toNat := by
  have hn := (y.fit_of_check hc).1.nb
  have h5 := (y.fit_of_check hc).2.2.2.2.2.1
  have hb : y.hasB K = true := by
    unfold YardD.hasB
    rw [decide_eq_true k0, decide_eq_true k1]; rfl
  have ho := own_sees hc hk
  have e := weeks_ok y (by omega) (by omega) K
  have e2 : y.wkV K = zV (y.wkL K) := by
    unfold YardD.wkV
    rw [hb, if_pos ho]
  rw [e2, hb, ho] at e
  refine ⟨e, ?_⟩
  unfold YardD.wkL
  rw [hb, (YardD.own_some ho).1]
theorem cleanHands_ok (haw : Pure Try.prog 18 [] (.lit (.bool true))) (y : YardD) (mr bd : Int) (m0 : 0 ≤ mr) (m1 : mr ≤ 255) (b0 : 0 ≤ bd) (b1 : bd ≤ 255) : Pure Try.prog 9 [yardV y, .lit (.int .u8 mr), .lit (.int .u8 bd)] (.lit (.bool true)) := by
  have e45 := ready_any y
  cases hR : y.readyB with
  | false =>
    rw [hR] at e45
    exact ch_not haw y mr bd e45
  | true =>
    rw [hR] at e45
    have hc := ready_check hR
    have hsm := ready_small hR
    obtain ⟨hf, _, _, hh1, hh3, h5, _⟩ := y.fit_of_check hc
    have hn := hf.nb
    have e20 := yard_ok y (by omega) (by omega)
    have e33 := fewest_ok y (by omega) (by omega)
    have e41 := leave_ok y (by omega) (by omega)
    have hX : y.hands ≤ std.mn 3 (std.bin .add .i64 y.hands (std.bin .rem .i64 (std.conv .i64 mr) 3)) ∧ std.mn 3 (std.bin .add .i64 y.hands (std.bin .rem .i64 (std.conv .i64 mr) 3)) ≤ 3 := by
      have h := min_fin ⟨y.hands.toNat, by omega⟩ ⟨mr.toNat, by omega⟩ (show 1 ≤ y.hands.toNat by omega)
      have ea : ((y.hands.toNat : Nat) : Int) = y.hands := by omega
      have eb : ((mr.toNat : Nat) : Int) = mr := by omega
      simp only [ea, eb] at h
      exact h
    obtain ⟨X, hXe⟩ : ∃ X, std.mn 3 (std.bin .add .i64 y.hands (std.bin .rem .i64 (std.conv .i64 mr) 3)) = X := ⟨_, rfl⟩
    rw [hXe] at hX
    have hcx : (y.withH X).check = 0 := withH_check hc (by omega) hX.2
    have x20 : Pure Try.prog 20 [.agg (chX y X)] (.agg (chX y X)) := yard_ok (y.withH X) (show y.nb ≤ 1000 by omega) (show y.nc ≤ 1000 by omega)
    have x41 : Pure Try.prog 41 [.agg (chX y X)] (.tup [(y.withH X).lveV, iV ((y.withH X).anyE true)]) := leave_ok (y.withH X) (show y.nb < 1000000 by omega) (show y.nc < 1000000 by omega)
    have hshow : ∀ (V E : Int), ((∃ n : Nat, V = n ∧ E = 0 ∧ ∀ k : Nat, 1 ≤ k → k ≤ 3 → (y.canH k = true ↔ n ≤ k)) ∨ (E = 10 ∧ ∀ k : Nat, 1 ≤ k → k ≤ 3 → y.canH k = false)) → ∀ k : Nat, 1 ≤ k → k ≤ 3 → ∃ (ZV SV : AV) (F : Int), Pure Try.prog 20 [.agg [iV y.last, iV (Int.ofNat k), bedsV y, nl3]] ZV ∧ Pure Try.prog 19 [ZV] (.tup [SV, iV F]) ∧ ((F = 0 ∧ E = 0 ∧ V ≤ k) ∨ (F = 10 ∧ E = 0 ∧ ¬ V ≤ k) ∨ (F = 10 ∧ E = 10)) := fun V E hVE k k1 k3 => by
      have hz : Pure Try.prog 20 [yardV ((y.withH k).someL [])] (yardV ((y.withH k).someL [])) := yard_ok _ (show y.nb ≤ 1000 by omega) (show 0 ≤ 1000 by omega)
      have hs := show_ok ((y.withH k).someL []) (show y.nb < 1000000 by omega) (show 0 < 1000000 by omega)
      refine ⟨yardV ((y.withH k).someL []), _, _, hz.eqv (.cons (Eqv.agg (.cons (Eqv.refl _) (.cons (Eqv.refl _) (.cons (Eqv.refl _) (.cons Eqv.nil .nil))))) .nil), hs, ?_⟩
      rw [bare_show hc k1 k3]
      rcases hVE with ⟨n, rfl, hE, hn⟩ | ⟨hE, hn⟩
      · by_cases hk : y.canH k = true
        · rw [if_pos hk]
          exact .inl ⟨rfl, hE, Int.ofNat_le.2 ((hn k k1 k3).1 hk)⟩
        · rw [if_neg hk]
          exact .inr (.inl ⟨rfl, hE, fun h => hk ((hn k k1 k3).2 (Int.ofNat_le.1 h))⟩)
      · rw [hn k k1 k3]
        exact .inr (.inr ⟨rfl, hE⟩)
    have htail : ∀ (gg : Nat → AV), AllP (fun p => gg p.1 = p.2) [(2, .lit (.int .u8 bd)), (3, .ptr 0 0), (7, .ptr 1 0)] → SW Try.prog none (restC 7 (bodyF Try.f9)) (trueQ3 Try.f9) ⟨⟨182, gg⟩, []⟩ (chS y X) := fun gg h => by
      by_cases hs : y.allS = []
      · rw [(any_sees hc).1 hs] at e41
        refine ch_err haw y X _ _ _ e20 x20 e41 x41 ?_ gg ⟨h.2.1, h.2.2.1, trivial⟩
        by_cases hsx : (y.withH X).allS = []
        · exact .inr ((any_sees hcx).1 hsx)
        · exact .inl ((any_sees hcx).2 hsx)
      · have hsub : ∀ f ∈ y.allS, f ∈ (y.withH X).allS := fun f hf => more_allS hX.1 hf
        have hsx : (y.withH X).allS ≠ [] := fun h => by
          obtain ⟨f, hf⟩ := List.exists_mem_of_ne_nil _ hs
          have := hsub f hf
          rw [h] at this
          cases this
        obtain ⟨pre, l, post, q1, q2, q3, q4⟩ := lve_sees hc hs
        obtain ⟨prx, m, pox, r1, r2, r3, r4⟩ := lve_sees hcx hsx
        rw [(any_sees hc).2 hs, q1] at e41
        rw [(any_sees hcx).2 hsx, r1] at x41
        have hlx : (y.withH X).lvB (y.withH X).allS l = true := by
          obtain ⟨f, hf, hp⟩ := lvB_iff.1 q4
          exact lvB_iff.2 ⟨f, hsub f hf, hp⟩
        have hlen : m.length ≤ l.length := ris_short (n := y.nc) h5 r2 (by rw [q2]; simp) (fun h => by
          have := r3 l h
          rw [hlx] at this
          cases this)
        refine ch_pre2 y X bd l.length m.length _ _ e20 x20 e41 x41 hlen (fun gg h => ?_) gg h
        by_cases hfew : y.nb = 0 ∨ 0 < l.length
        · exact ch_few haw y X bd _ _ hfew gg h
        · have hz : 0 < y.nb := by omega
          have hl0 : l.length = 0 := by omega
          have hln : l = [] := List.length_eq_zero_iff.1 hl0
          rw [hln] at q4
          obtain ⟨f, hf1, hf2⟩ := lv_nil q4
          have hky : y.kept ≠ [] := fun h => by
            have := mem_kept.2 ⟨hf1, hf2⟩
            rw [h] at this
            cases this
          have hkx : (y.withH X).kept ≠ [] := fun h => by
            have := mem_kept (y := y.withH X).2 ⟨hsub f hf1, hf2⟩
            rw [h] at this
            cases this
          have hK := rem_rng b0 b1 hz hn
          obtain ⟨e27, w1⟩ := weeks_sees hc hky hK.1 hK.2
          obtain ⟨x27, w2⟩ := weeks_sees hcx hkx (K := std.bin .rem .i64 (std.conv .i64 bd) (y.nb : Int)) hK.1 hK.2
          obtain ⟨K, hKe⟩ : ∃ K, std.bin .rem .i64 (std.conv .i64 bd) (y.nb : Int) = K := ⟨_, rfl⟩
          rw [hKe] at w1 w2 hK
          have s1 := wk_small hf hK.1 hK.2
          have s2 := wk_small (y.withH X |>.fit_of_check hcx).1 hK.1 hK.2
          have hw : ∀ w ∈ y.wkL K, w ∈ (y.withH X).wkL K := fun w hw => by
            rw [w1] at hw
            rw [w2]
            obtain ⟨a1, a2⟩ := (mem_wkN _).1 hw
            refine (mem_wkN _).2 ⟨a1, ?_⟩
            obtain ⟨f, a3, a4⟩ := anyW_iff.1 a2
            obtain ⟨a5, a6⟩ := mem_kept.1 a3
            exact anyW_iff.2 ⟨f, mem_kept (y := y.withH X).2 ⟨hsub f a5, a6⟩, a4⟩
          have e51 := contains51_ok ((y.withH X).wkL K).length (y.wkL K).length false false (fun j => ((y.withH X).wkL K).getD j 0) (fun j => (y.wkL K).getD j 0) s2 s1
          rw [con_sub hw] at e51
          have e30 : ¬ (y.hands < y.nb) → Pure Try.prog 30 [intsV (y.wkL K).length false (fun j => (y.wkL K).getD j 0), intsV ((y.withH X).wkL K).length false (fun j => ((y.withH X).wkL K).getD j 0)] (.sb true) := fun hh => by
            have heq : (y.withH X).wkL K = y.wkL K := by
              rw [w1, w2]
              refine wkN_congr (fun w => ?_) _
              refine Bool.eq_iff_iff.2 ⟨fun h => ?_, fun h => ?_⟩
              · obtain ⟨f, a3, a4⟩ := anyW_iff.1 h
                obtain ⟨a5, a6⟩ := mem_kept (y := y.withH X).1 a3
                exact anyW_iff.2 ⟨f, mem_kept.2 ⟨full_allS (by omega) a5, a6⟩, a4⟩
              · obtain ⟨f, a3, a4⟩ := anyW_iff.1 h
                obtain ⟨a5, a6⟩ := mem_kept.1 a3
                exact anyW_iff.2 ⟨f, mem_kept (y := y.withH X).2 ⟨hsub f a5, a6⟩, a4⟩
            rw [heq]
            have := same_ok (y.wkL K).length (y.wkL K).length false false (fun j => (y.wkL K).getD j 0) (fun j => (y.wkL K).getD j 0) s1 s1
            rw [same_self] at this
            exact this
          rw [← hKe] at e51 e30
          exact ch_weeks haw y X bd _ _ hz hl0 _ _ _ _ e20 x20 e27 x27 e51 e30 gg h
    rcases few_sees hc with ⟨n, n1, n3, hq, hk⟩ | ⟨hq, hk⟩
    · rw [hq] at e33
      refine ch_start y mr bd n 0 e45 e20 e33 (.inl ⟨rfl, by omega, by omega⟩) fun gg h => ?_
      rw [hXe]
      exact ch_loop y X bd n 0 (hshow _ _ (.inl ⟨n, rfl, rfl, hk⟩)) htail gg h
    · rw [hq] at e33
      refine ch_start y mr bd 0 10 e45 e20 e33 (.inr rfl) fun gg h => ?_
      rw [hXe]
      exact ch_loop y X bd 0 10 (hshow _ _ (.inr ⟨rfl, hk⟩)) htail gg h
end Go.Fz
