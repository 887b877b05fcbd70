/- Own work of the verifier of watercress: FzE1, FzE2, FzK5, FzG3, FzD13. -/
import Derived.Below
import Derived.CallsIn
import Derived.Carry
import Derived.ChangeKeysEq
import Derived.ChangeSame
import Derived.Deep.Slices
import Derived.DeepKeys4
import Derived.JoinedCond
import Derived.Laws.AppendOwn
import Derived.Laws.Cells
import Derived.Laws.CopyRow
import Derived.Laws.Cover3
import Derived.Laws.Entries
import Derived.Laws.NewFold
import Derived.Laws.Sem
import Derived.Laws.Small
import Derived.Laws.StructEq
import Derived.Laws.Tables
import Derived.Laws.World
import Derived.Lib.SmallJoins
import Derived.Maps.Keyed
import Derived.Maps.RangeRun
import Derived.OpenShut
import Derived.OrdersHeld
import Derived.OrdersIn
import Derived.ProofKit
import Derived.RangeFuncLeaves
import Derived.RangeFuncRecord
import Derived.Shelf.Abstract
import Derived.WalkKit
import Derived.WideKeyArgs
import Derived.Test.YtpaifaemkoblcaaNa16
import Derived.Test.YtpaifaemkoblcaaNa24
import Derived.Test.YtpaifaemkoblcaaNa25
import Derived.Test.YtpaifaemkoblcaaNa26
import Derived.Test.YtpaifaemkoblcaaNa19
import Derived.Test.YtpaifaemkoblcaaNa20
import Derived.Test.YtpaifaemkoblcaaNa21
import Derived.Test.YtpaifaemkoblcaaNa22
import Derived.Test.YtpaifaemkoblcaaNa23
import Derived.Test.YtpaifaemkoblcaaNa27
import Derived.Test.YtpaifaemkoblcaaNi0
import Derived.Test.YtpaifaemkoblcaaNa32
import Derived.Test.YtpaifaemkoblcaaNa35
import Derived.Test.YtpaifaemkoblcaaNa33
import Derived.Test.YtpaifaemkoblcaaNa34
import Derived.Test.YtpaifaemkoblcaaNa28
import Derived.Test.YtpaifaemkoblcaaNa29
import Derived.Test.YtpaifaemkoblcaaNa30
import Derived.Test.YtpaifaemkoblcaaNa31
import Derived.Test.YtpaifaemkoblcaaNa36
import Derived.Test.YtpaifaemkoblcaaNa37
import Derived.Test.YtpaifaemkoblcaaNa38
import Derived.Test.YtpaifaemkoblcaaNa40
import Derived.Test.YtpaifaemkoblcaaNa39
import Derived.Test.YtpaifaemkoblcaaNa17
import Derived.Test.YtpaifaemkoblcaaNa18
import Derived.Test.YtpaifaemkoblcaaNa10
import Derived.Test.YtpaifaemkoblcaaNa12
import Derived.Test.YtpaifaemkoblcaaNa11
import Derived.Test.YtpaifaemkoblcaaNa13
import Derived.Test.YtpaifaemkoblcaaNa14
import Derived.Test.YtpaifaemkoblcaaNa0
import Derived.Test.YtpaifaemkoblcaaNa1
import Derived.Test.YtpaifaemkoblcaaNa2
import Derived.Test.YtpaifaemkoblcaaNa3
import Derived.Test.YtpaifaemkoblcaaNa4
import Derived.Test.YtpaifaemkoblcaaNa5
import Derived.Test.YtpaifaemkoblcaaNa6
import Derived.Test.YtpaifaemkoblcaaNa7
import Derived.Test.YtpaifaemkoblcaaNa8
import Derived.Test.YtpaifaemkoblcaaNa9
import Derived.Test.YtpaifaemkoblcaaProg
import Derived.Test.YtpaifaemkoblcaaRows
set_option linter.unusedVariables false
set_option linter.unusedSimpArgs false
set_option linter.unusedVariables false
namespace Go.Fz
open Go.Proofs
set_option maxRecDepth 100000
def qZ (s : Nat → Int) (n : Int) : Nat → Int
  | 0 => n
  | i + 1 => qZ s n i / s i
def pZ (s : Nat → Int) : Nat → Int
  | 0 => 1
  | i + 1 => pZ s i * s i
theorem radixZ_onto {s : Nat → Int} {k : Nat} (hs : ∀ i, i < k → 1 ≤ s i) {d : Nat → Int} (hd : ∀ i, i < k → 0 ≤ d i ∧ d i < s i) : ∀ j, j ≤ k → ∀ m : Int, 0 ≤ m → ∃ n : Int, 0 ≤ n ∧ n < pZ s j * (m + 1) ∧ qZ s n j = m ∧ ∀ i, i < j → qZ s n i % s i = d i
  | 0, _, m, hm => ⟨m, hm, by show m < 1 * (m + 1); omega, rfl, fun i hi => absurd hi (Nat.not_lt_zero _)⟩
  | j + 1, h, m, hm => by
    have h3 := hs j (by omega)
    obtain ⟨d0, d1⟩ := hd j (by omega)
    have hp : ∀ i, i ≤ j → 1 ≤ pZ s i := fun i => by
      induction i with
      | zero => intro _; exact Int.le_refl _
      | succ i ih =>
        intro hi
        have h1 := ih (by omega)
        have h2 := hs i (by omega)
        have h4 : pZ s i * 1 ≤ pZ s i * s i := Int.mul_le_mul_of_nonneg_left h2 (by omega)
        show 1 ≤ pZ s i * s i
        omega
    have hp := hp j (Nat.le_refl _)
    have hms : 0 ≤ m * s j := Int.mul_nonneg hm (by omega)
    obtain ⟨n, n0, n1, n2, n3⟩ := radixZ_onto hs hd j (by omega) (m * s j + d j) (by omega)
    have hq : (m * s j + d j) / s j = m := by
      rw [Int.add_comm, Int.add_mul_ediv_right _ _ (by omega), Int.ediv_eq_zero_of_lt d0 d1]; omega
    have hr : (m * s j + d j) % s j = d j := by
      rw [Int.add_comm, Int.add_mul_emod_self_right, Int.emod_eq_of_lt d0 d1]
    refine ⟨n, n0, ?_, ?_, fun i hi => ?_⟩
    · show n < pZ s j * s j * (m + 1)
      rw [Int.mul_assoc]
      refine Int.lt_of_lt_of_le n1 (Int.mul_le_mul_of_nonneg_left ?_ (by omega))
      rw [Int.mul_add, Int.mul_one, Int.mul_comm (s j) m]; omega
    · show qZ s n j / s j = m
      rw [n2]; exact hq
    · by_cases e : i = j
      · rw [e, n2]; exact hr
      · exact n3 i (by omega)
theorem qZ_rng {s : Nat → Int} {k : Nat} (hs : ∀ i, i < k → 1 ≤ s i) {n : Int} (n0 : 0 ≤ n) : ∀ j, j ≤ k → 0 ≤ qZ s n j ∧ qZ s n j ≤ n
  | 0, _ => ⟨n0, Int.le_refl _⟩
  | j + 1, h => by
    obtain ⟨h1, h2⟩ := qZ_rng hs n0 j (by omega)
    have h3 := hs j (by omega)
    have h4 : 0 ≤ qZ s n j / s j := Int.ediv_nonneg h1 (by omega)
    have h5 : qZ s n j / s j ≤ qZ s n j := Int.ediv_le_self _ h1
    show 0 ≤ qZ s n j / s j ∧ qZ s n j / s j ≤ n
    omega
def FarmD.szS (f : FarmD) (i : Nat) : Int := f.shi i - f.slo i + 1
theorem FarmD.prod_pZ (f : FarmD) : ∀ s, f.prodN s = pZ f.szS s
  | 0 => rfl
  | s + 1 => by
    show f.prodN s * _ = pZ f.szS s * _
    rw [f.prod_pZ s]; rfl
theorem FarmD.szS_pos {f : FarmD} (g : f.Good) : ∀ i, i < f.ns → 1 ≤ f.szS i := fun i hi => by
  have := g.spring i hi
  unfold FarmD.szS; omega
theorem FarmD.many_eq {f : FarmD} (hc : f.check = 0) : f.manyN f.ns = pZ f.szS f.ns ∧ 1 ≤ f.manyN f.ns ∧ f.manyN f.ns ≤ 2000 := by
  have g := good_of_check hc
  have hsp : ∀ s, s < f.ns → 0 ≤ f.slo s ∧ f.slo s ≤ f.shi s ∧ f.shi s ≤ 30 := fun s hs => (g.spring s hs).2
  obtain ⟨h1, h2⟩ := f.sizes_eq g.ns hsp f.ns (Nat.le_refl _)
  have h3 := (f.prod_le hsp f.ns (Nat.le_refl _)).1
  have h4 : f.sizesN f.ns ≤ 2000 := by
    unfold FarmD.check at hc
    split at hc
    · cases hc
    · split at hc
      · split at hc
        · cases hc
        · rename_i h; omega
      · cases hc
  rw [h1] at h4
  rw [h2, ← f.prod_pZ]
  unfold minI
  split <;> omega
theorem FarmD.qN_q {f : FarmD} (g : f.Good) {n : Int} (n0 : 0 ≤ n) (n1 : n ≤ 70000) : ∀ i, i ≤ f.ns → f.qN n i = qZ f.szS n i
  | 0, _ => rfl
  | i + 1, h => by
    have h1 := FarmD.qN_q g n0 n1 i (by omega)
    have h2 := qZ_rng (FarmD.szS_pos g) n0 i (by omega)
    have hs := FarmD.szS_pos g i (by omega)
    obtain ⟨_, r0, r1, r2⟩ := g.spring i (by omega)
    show quo64 (f.qN n i) (size64 (f.slo i) (f.shi i)) = qZ f.szS n i / f.szS i
    rw [h1, size64_in r0 r1 (by omega), show f.shi i - f.slo i + 1 = f.szS i from rfl]
    have h3 : 0 ≤ (qZ f.szS n i).tdiv (f.szS i) := Int.tdiv_nonneg h2.1 (by omega)
    have h4 : (qZ f.szS n i).tdiv (f.szS i) ≤ qZ f.szS n i := by
      rw [Int.tdiv_eq_ediv_of_nonneg h2.1]; exact Int.ediv_le_self _ h2.1
    unfold quo64
    rw [wrp_in (by simp only [IntKind.lo]; omega) (by simp only [IntKind.hi]; omega), Int.tdiv_eq_ediv_of_nonneg h2.1]
theorem FarmD.nthN_q {f : FarmD} (g : f.Good) {n : Int} (n0 : 0 ≤ n) (n1 : n ≤ 70000) {i : Nat} (hi : i < f.ns) : f.nthN n i = f.slo i + qZ f.szS n i % f.szS i := by
  have h2 := qZ_rng (FarmD.szS_pos g) n0 i (by omega)
  have hs := FarmD.szS_pos g i hi
  obtain ⟨_, r0, r1, r2⟩ := g.spring i hi
  have h3 := Int.emod_nonneg (qZ f.szS n i) (show f.szS i ≠ 0 by omega)
  have h4 := Int.emod_lt_of_pos (qZ f.szS n i) (show 0 < f.szS i by omega)
  have h5 : f.szS i ≤ 31 := by unfold FarmD.szS; omega
  unfold FarmD.nthN
  rw [FarmD.qN_q g n0 n1 i (by omega), size64_in r0 r1 (by omega), show f.shi i - f.slo i + 1 = f.szS i from rfl, Int.tmod_eq_emod_of_nonneg h2.1, add64_in _ _ (by omega) (by omega)]
def FarmD.nthL (f : FarmD) (n : Int) : List Int := (List.range f.ns).map (f.nthN n)
theorem FarmD.nthL_len (f : FarmD) (n : Int) : (f.nthL n).length = f.ns := by simp [FarmD.nthL]
theorem FarmD.nthL_at (f : FarmD) (n : Int) {i : Nat} (hi : i < f.ns) : zL (f.nthL n) i = f.nthN n i := by
  unfold zL FarmD.nthL
  rw [List.getD_eq_getElem?_getD, List.getElem?_map, List.getElem?_range hi]; rfl
theorem FarmD.nthL_ch {f : FarmD} (g : f.Good) {n : Int} (n0 : 0 ≤ n) (n1 : n ≤ 70000) : f.isCh (f.nthL n) := by
  refine ⟨f.nthL_len n, fun i hi => ?_⟩
  have hs := FarmD.szS_pos g i hi
  rw [f.nthL_at n hi, FarmD.nthN_q g n0 n1 hi]
  have h3 := Int.emod_nonneg (qZ f.szS n i) (show f.szS i ≠ 0 by omega)
  have h4 := Int.emod_lt_of_pos (qZ f.szS n i) (show 0 < f.szS i by omega)
  have h5 : f.szS i = f.shi i - f.slo i + 1 := rfl
  omega
theorem zL_ext {p q : List Int} (h : p.length = q.length) (hz : ∀ i, i < p.length → zL p i = zL q i) : p = q := by
  refine List.ext_getElem h fun i k1 k2 => ?_
  have := hz i k1
  unfold zL at this
  simpa [List.getD_eq_getElem?_getD, List.getElem?_eq_getElem k1, List.getElem?_eq_getElem k2] using this
theorem FarmD.nthL_onto {f : FarmD} (hc : f.check = 0) {l : List Int} (hl : f.isCh l) : ∃ n : Nat, (n : Int) < f.manyN f.ns ∧ f.nthL n = l := by
  have g := good_of_check hc
  obtain ⟨h1, _, h2⟩ := FarmD.many_eq hc
  obtain ⟨n, n0, n1, _, n3⟩ := radixZ_onto (s := f.szS) (k := f.ns) (FarmD.szS_pos g) (d := fun i => zL l i - f.slo i) (fun i hi => by
    have := hl.2 i hi
    show 0 ≤ zL l i - f.slo i ∧ zL l i - f.slo i < f.shi i - f.slo i + 1
    omega) f.ns (Nat.le_refl _) 0 (Int.le_refl _)
  have n1 : n < pZ f.szS f.ns := by
    have : n < pZ f.szS f.ns * 1 := n1
    omega
  obtain ⟨N, rfl⟩ := Int.eq_ofNat_of_zero_le n0
  refine ⟨N, by rw [h1]; exact n1, zL_ext (by rw [f.nthL_len, hl.1]) fun i hi => ?_⟩
  rw [f.nthL_len] at hi
  rw [f.nthL_at _ hi, FarmD.nthN_q g n0 (by omega) hi, n3 i hi]
  show f.slo i + (zL l i - f.slo i) = zL l i
  omega
def pickL (p : Nat → Bool) (g : Nat → List Int) : Nat → List (List Int)
  | 0 => []
  | i + 1 => if p i = true then pickL p g i ++ [g i] else pickL p g i
theorem pickL_len (p : Nat → Bool) (g : Nat → List Int) : ∀ i, (pickL p g i).length ≤ i
  | 0 => Nat.le_refl _
  | i + 1 => by
    have := pickL_len p g i
    unfold pickL
    split
    · rw [List.length_append, List.length_singleton]; omega
    · omega
theorem mem_pickL {p : Nat → Bool} {g : Nat → List Int} {f : List Int} : ∀ {n}, f ∈ pickL p g n ↔ ∃ i, i < n ∧ p i = true ∧ g i = f
  | 0 => ⟨fun h => (by cases h), fun ⟨i, h1, _⟩ => absurd h1 (Nat.not_lt_zero _)⟩
  | n + 1 => by
    have ih := mem_pickL (p := p) (g := g) (f := f) (n := n)
    unfold pickL
    split
    · rename_i hp
      rw [List.mem_append, List.mem_singleton, ih]
      constructor
      · rintro (⟨i, h1, h2, h3⟩ | h)
        · exact ⟨i, by omega, h2, h3⟩
        · exact ⟨n, by omega, hp, h.symm⟩
      · rintro ⟨i, h1, h2, h3⟩
        by_cases e : i = n
        · subst e; exact .inr h3.symm
        · exact .inl ⟨i, by omega, h2, h3⟩
    · rename_i hp
      rw [ih]
      constructor
      · rintro ⟨i, h1, h2, h3⟩; exact ⟨i, by omega, h2, h3⟩
      · rintro ⟨i, h1, h2, h3⟩
        by_cases e : i = n
        · subst e; exact absurd h2 hp
        · exact ⟨i, by omega, h2, h3⟩
theorem bitsN_congr {b c : Nat → Bool} : ∀ {n : Nat}, (∀ j, j < n → b j = c j) → bitsN b n = bitsN c n
  | 0, _ => rfl
  | n + 1, h => by
    unfold bitsN
    rw [bitsN_congr fun j hj => h j (by omega), h n (by omega)]
def mk5 (b : Bool × Bool × Bool × Bool × Bool) (j : Nat) : Bool := match j with
  | 0 => b.1
  | 1 => b.2.1
  | 2 => b.2.2.1
  | 3 => b.2.2.2.1
  | _ => b.2.2.2.2
theorem mk5_eq (b : Nat → Bool) : ∀ j, j < 5 → mk5 (b 0, b 1, b 2, b 3, b 4) j = b j := fun j hj => by
  match j, hj with
  | 0, _ => rfl
  | 1, _ => rfl
  | 2, _ => rfl
  | 3, _ => rfl
  | 4, _ => rfl
theorem full_fin : ∀ (b0 b1 b2 b3 b4 : Bool) (n : Fin 6), bitsN (mk5 (b0, b1, b2, b3, b4)) n.1 = pw1 n.1 ↔ ∀ j : Fin 5, j.1 < n.1 → mk5 (b0, b1, b2, b3, b4) j.1 = true := by decide +kernel
theorem bits_full (b : Nat → Bool) {n : Nat} (hn : n ≤ 5) : bitsN b n = pw1 n ↔ ∀ j, j < n → b j = true := by
  have h5 := mk5_eq b
  have h := full_fin (b 0) (b 1) (b 2) (b 3) (b 4) ⟨n, by omega⟩
  rw [bitsN_congr (n := n) fun j hj => h5 j (by omega)] at h
  rw [h]
  constructor
  · intro k j hj
    have := k ⟨j, by omega⟩ hj
    rw [h5 j (by omega)] at this; exact this
  · intro k j hj
    rw [h5 j.1 j.2]; exact k j.1 hj
def FarmD.bitT (f : FarmD) (n : Nat) : Int := bitsN (f.rightN (f.nthN n)) f.nl
def FarmD.mN (f : FarmD) : Nat := (f.manyN f.ns).toNat
def FarmD.refL (f : FarmD) : List (List Int) := pickL (fun n => decide (f.bitT n = pw1 f.nl)) (fun n => f.nthL n) f.mN
theorem FarmD.rightN_congr {f : FarmD} {fl fl' : Nat → Int} (h : ∀ i, i < f.ns → fl i = fl' i) (g : f.Good) {i : Nat} (hi : i < f.nl) (hfl : ∀ s, s < f.ns → 0 ≤ fl s ∧ fl s ≤ 30) : f.rightN fl i = f.rightN fl' i := by
  have hS : ∀ b s, s ≤ f.ns → f.inS fl b s = f.inS fl' b s := fun b s => by
    induction s with
    | zero => intro _; rfl
    | succ s ih =>
      intro hs
      simp only [FarmD.inS]
      rw [ih (by omega), h s (by omega)]
  have hB : ∀ (V : Nat → Int) b m, f.inB fl V b m = f.inB fl' V b m := fun V b m => by
    induction m with
    | zero => exact hS b f.ns (Nat.le_refl _)
    | succ m ih => simp only [FarmD.inB, ih]
  have hW : ∀ b, f.waN fl b = f.waN fl' b := fun b => by
    induction b using Nat.strongRecOn with
    | _ b ih =>
      rw [f.waN_eq, f.waN_eq, hB, f.inB_eq fl' (f.waN fl) (f.waN fl') b b ih]
  unfold FarmD.rightN FarmD.downN
  simp only [hW]
theorem FarmD.bit_full {f : FarmD} (g : f.Good) {n : Nat} (hn : n ≤ 70000) : f.bitT n = pw1 f.nl ↔ f.rgt (f.nthL n) = true := by
  have hch := FarmD.nthL_ch g (n := (n : Int)) (by omega) (by omega)
  have hfl : ∀ s, s < f.ns → 0 ≤ zL (f.nthL n) s ∧ zL (f.nthL n) s ≤ 30 := fun s hs => by
    have h1 := hch.2 s hs
    have h2 := (g.spring s hs).2
    omega
  unfold FarmD.bitT FarmD.rgt allN
  rw [bits_full _ g.nl, decide_eq_true_eq]
  have hk : ∀ j, j < f.nl → f.rightN (f.nthN n) j = f.rightB (f.water (zL (f.nthL n))) j := fun j hj => by
    rw [f.right_eq g _ hfl j hj]
    exact (FarmD.rightN_congr (fun i hi => f.nthL_at n hi) g hj hfl).symm
  exact ⟨fun h j hj => by rw [← hk j hj]; exact h j hj, fun h j hj => by rw [hk j hj]; exact h j hj⟩
theorem FarmD.mem_refL {f : FarmD} (hc : f.check = 0) {l : List Int} : l ∈ f.refL ↔ l ∈ f.trs := by
  have g := good_of_check hc
  obtain ⟨_, h1, h2⟩ := FarmD.many_eq hc
  unfold FarmD.refL FarmD.trs FarmD.mN
  rw [mem_pickL, List.mem_filter, f.mem_chL]
  constructor
  · rintro ⟨i, hi, hp, rfl⟩
    exact ⟨FarmD.nthL_ch g (by omega) (by omega), (FarmD.bit_full g (by omega)).1 (of_decide_eq_true hp)⟩
  · rintro ⟨hch, hr⟩
    obtain ⟨n, hn, rfl⟩ := FarmD.nthL_onto hc hch
    exact ⟨n, by omega, decide_eq_true ((FarmD.bit_full g (by omega)).2 hr), rfl⟩
theorem FarmD.refL_nil {f : FarmD} (hc : f.check = 0) : f.refL = [] ↔ f.trs = [] := by
  constructor
  · intro h
    cases ht : f.trs with
    | nil => rfl
    | cons a l =>
      have : a ∈ f.refL := (FarmD.mem_refL hc).2 (by rw [ht]; simp)
      rw [h] at this; cases this
  · intro h
    cases ht : f.refL with
    | nil => rfl
    | cons a l =>
      have : a ∈ f.trs := (FarmD.mem_refL hc).1 (by rw [ht]; simp)
      rw [h] at this; cases this
theorem FarmD.refL_len {f : FarmD} (hc : f.check = 0) : f.refL.length ≤ 2000 := by
  obtain ⟨_, h1, h2⟩ := FarmD.many_eq hc
  have := pickL_len (fun n => decide (f.bitT n = pw1 f.nl)) (fun n => f.nthL n) f.mN
  unfold FarmD.mN at this
  unfold FarmD.refL FarmD.mN
  omega
end Go.Fz
set_option linter.unusedVariables false
set_option linter.unusedSimpArgs false
namespace Go.Fz
open Go.Proofs
set_option maxRecDepth 100000
noncomputable def alC : Code := match nthC 2 (bodyF Try.f45) with
  | .seq _ (.block _ (.loop c)) => c
  | _ => .skip
noncomputable def alB : Code := match alC with
  | .seq _ (.seq (.block _ b) _) => b
  | _ => .skip
theorem conv0B {O : Ar} (hO : O = std) {i : Nat} (h : i < 1000) : 0 ≤ O.conv .u64 (Int.ofNat i) := by
  subst hO
  show 0 ≤ wrp .u64 ((i : Nat) : Int)
  rw [wrp_in (by simp only [IntKind.lo]; omega) (by simp only [IntKind.hi]; omega)]
  omega
set_option maxHeartbeats 16000000 in
theorem all_in0 (f : FarmD) (hnl : f.nl < 1000) (X : AV) (i : Nat) (fl : Nat → Int) (R : Nat → Bool) (e60 : Pure Try.prog 60 [farmV f, iV (Int.ofNat i)] (intsV f.ns false fl)) (hr : ∀ j, j < f.nl → Pure Try.prog 75 [farmV f, intsV f.ns false fl, lookV f j] (.sb (R j)))
    (g : Nat → AV) (O : Ar) (hO : O = std) (h : AllP (fun p => g p.1 = p.2) [(1, .ptr 0 0), (3, X), (4, iV (Int.ofNat i)), (5, iV 0)]) :
    SW Try.prog none (nthC 1 alB) (midK 40 [(1, .ptr 0 0), (3, X), (4, iV (Int.ofNat i)), (5, iV (bitsN R f.nl))] ⟨(0, .cells none false (farmL f)) :: [], 2⟩) ⟨⟨40, g⟩, []⟩ ⟨(0, .cells none false (farmL f)) :: [], 2⟩ := by
  have hnat : ∀ i : Nat, O.nat (Int.ofNat i) = i := fun i => by subst hO; rfl
  obtain ⟨bb, hbb⟩ : ∃ bb, bb = bitsN R := ⟨_, rfl⟩
  have hb0 : bb 0 = 0 := by rw [hbb]; rfl
  have hbs : ∀ j, bb (j + 1) = if R j = true then O.bin .or .i64 (bb j) (O.bin .shl .i64 1 (O.conv .u64 (Int.ofNat j))) else bb j := fun j => by rw [hbb]; subst hO; rfl
  rw [← hbb]
  obtain ⟨g1, g3, g4, g5, _⟩ := h
  simp only at g1 g3 g4 g5
  rw [← updT_self g1, ← updT_self g3, ← updT_self g4, ← updT_self g5]
  refine SW.seqRun tok hO (by cbv <;> rfl) (by trivial) ?_
  refine (SW.block (SW.loopF (fun j : Nat => ⟨⟨40, getT [(1, .ptr 0 0), (3, X), (4, iV (Int.ofNat i)), (5, iV (bb j)), (6, iV (Int.ofNat j))]⟩, []⟩)
    (fun _ => ⟨(0, .cells none false (farmL f)) :: [], 2⟩) (fun j => f.nl - j) (fun j => j ≤ f.nl) 0
    (fun _ => rfl) (Nat.zero_le _) (Weak.by rfl rfl (by simp) (Nat.le_refl _) (Nat.le_refl _) ⟨⟨rfl, .inl rfl⟩, ⟨rfl, .inl rfl⟩, ⟨rfl, .inl rfl⟩, ⟨by rw [hb0]; rfl, .inl rfl⟩, ⟨rfl, .inl rfl⟩, trivial⟩ ⟨⟨rfl, by omega, .inl rfl⟩, trivial⟩) fun j hj => ?_))
  refine SW.seq ?_
  refine SW.seqRun tok hO (by cbv <;> rfl) (by trivial) ?_
  refine SW.condS (by cbv <;> rfl) (fun h => SW.skip ?_) (fun h => SW.exit ?_)
  · have hlt : j < f.nl := by
      have : Int.ofNat j < (f.nl : Int) := by subst hO; simpa [std] using h
      exact Int.ofNat_lt.1 this
    have hin : 0 ≤ Int.ofNat j ∧ Int.ofNat j < (f.nl : Int) := ⟨Int.natCast_nonneg j, Int.ofNat_lt.2 hlt⟩
    have hnn : 0 ≤ O.conv .u64 (Int.ofNat j) := conv0B hO (by omega)
    have call := hr (O.nat (Int.ofNat j)) (by rw [hnat]; exact hlt)
    refine SW.seq (SW.block ?_)
    refine SW.seqRunD tok mixed hO (by kernel_rfl) (by cbv <;> rfl) (by repeat (first | exact trivial | exact hin | refine ⟨?_, ?_⟩)) ?_
    refine AnyE.callP e60 (by cbv <;> rfl) (by cbv <;> rfl) ?_
    refine AnyE.run tok hO (by kernel_rfl) (by cbv <;> rfl) (by trivial) ?_
    refine AnyE.callP call (by cbv <;> rfl) (by cbv <;> rfl) ?_
    refine AnyE.run tok hO (by kernel_rfl) (by cbv <;> rfl) (by trivial) ?_
    refine SW.condS (by cbv <;> rfl) (fun h2 => ?_) (fun h2 => SW.skip ?_)
    · rw [hnat] at h2
      refine SW.run tok hO (by cbv <;> rfl) (by first | exact hnn | exact ⟨hnn, trivial⟩) ?_
      refine SW.run tok hO (by cbv <;> rfl) (by trivial) ?_
      have hcn : bb (j + 1) = O.bin .or .i64 (bb j) (O.bin .shl .i64 1 (O.conv .u64 (Int.ofNat j))) := by rw [hbs, h2]; rfl
      exact ⟨j + 1, by omega, by omega, Weak.by rfl rfl (by simp) (Nat.le_refl _) (Nat.le_refl _) ⟨⟨rfl, .inl rfl⟩, ⟨rfl, .inl rfl⟩, ⟨rfl, .inl rfl⟩, ⟨by rw [hcn]; rfl, .inl rfl⟩, ⟨inc_ok hO (by omega), .inl rfl⟩, trivial⟩ ⟨⟨rfl, by omega, .inl rfl⟩, trivial⟩⟩
    · rw [hnat] at h2
      refine SW.run tok hO (by cbv <;> rfl) (by trivial) ?_
      have hcn : bb (j + 1) = bb j := by rw [hbs, h2]; rfl
      exact ⟨j + 1, by omega, by omega, Weak.by rfl rfl (by simp) (Nat.le_refl _) (Nat.le_refl _) ⟨⟨rfl, .inl rfl⟩, ⟨rfl, .inl rfl⟩, ⟨rfl, .inl rfl⟩, ⟨by rw [hcn]; rfl, .inl rfl⟩, ⟨inc_ok hO (by omega), .inl rfl⟩, trivial⟩ ⟨⟨rfl, by omega, .inl rfl⟩, trivial⟩⟩
  · have hle : ¬ j < f.nl := by
      have : ¬ Int.ofNat j < (f.nl : Int) := by subst hO; simpa [std] using h
      exact fun h => this (Int.ofNat_lt.2 h)
    obtain rfl : j = f.nl := by omega
    exact ⟨rfl, _, rfl, ⟨rfl, rfl, rfl, rfl, trivial⟩, rfl⟩
set_option maxHeartbeats 16000000 in
theorem all_in1 (f : FarmD) (hnl : f.nl < 1000) (X : AV) (i : Nat) (G : List AV) (fl : Nat → Int) (R : Nat → Bool) (e60 : Pure Try.prog 60 [farmV f, iV (Int.ofNat i)] (intsV f.ns false fl)) (hr : ∀ j, j < f.nl → Pure Try.prog 75 [farmV f, intsV f.ns false fl, lookV f j] (.sb (R j)))
    (g : Nat → AV) (O : Ar) (hO : O = std) (h : AllP (fun p => g p.1 = p.2) [(1, .ptr 0 0), (3, X), (4, iV (Int.ofNat i)), (5, iV 0)]) :
    SW Try.prog none (nthC 1 alB) (midK 40 [(1, .ptr 0 0), (3, X), (4, iV (Int.ofNat i)), (5, iV (bitsN R f.nl))] ⟨(0, .cells none false (farmL f)) :: [(1, .cells none false G)], 2⟩) ⟨⟨40, g⟩, []⟩ ⟨(0, .cells none false (farmL f)) :: [(1, .cells none false G)], 2⟩ := by
  have hnat : ∀ i : Nat, O.nat (Int.ofNat i) = i := fun i => by subst hO; rfl
  obtain ⟨bb, hbb⟩ : ∃ bb, bb = bitsN R := ⟨_, rfl⟩
  have hb0 : bb 0 = 0 := by rw [hbb]; rfl
  have hbs : ∀ j, bb (j + 1) = if R j = true then O.bin .or .i64 (bb j) (O.bin .shl .i64 1 (O.conv .u64 (Int.ofNat j))) else bb j := fun j => by rw [hbb]; subst hO; rfl
  rw [← hbb]
  obtain ⟨g1, g3, g4, g5, _⟩ := h
  simp only at g1 g3 g4 g5
  rw [← updT_self g1, ← updT_self g3, ← updT_self g4, ← updT_self g5]
  refine SW.seqRun tok hO (by cbv <;> rfl) (by trivial) ?_
  refine (SW.block (SW.loopF (fun j : Nat => ⟨⟨40, getT [(1, .ptr 0 0), (3, X), (4, iV (Int.ofNat i)), (5, iV (bb j)), (6, iV (Int.ofNat j))]⟩, []⟩)
    (fun _ => ⟨(0, .cells none false (farmL f)) :: [(1, .cells none false G)], 2⟩) (fun j => f.nl - j) (fun j => j ≤ f.nl) 0
    (fun _ => rfl) (Nat.zero_le _) (Weak.by rfl rfl (by simp) (Nat.le_refl _) (Nat.le_refl _) ⟨⟨rfl, .inl rfl⟩, ⟨rfl, .inl rfl⟩, ⟨rfl, .inl rfl⟩, ⟨by rw [hb0]; rfl, .inl rfl⟩, ⟨rfl, .inl rfl⟩, trivial⟩ ⟨⟨rfl, by omega, .inl rfl⟩, ⟨rfl, by omega, .inl rfl⟩, trivial⟩) fun j hj => ?_))
  refine SW.seq ?_
  refine SW.seqRun tok hO (by cbv <;> rfl) (by trivial) ?_
  refine SW.condS (by cbv <;> rfl) (fun h => SW.skip ?_) (fun h => SW.exit ?_)
  · have hlt : j < f.nl := by
      have : Int.ofNat j < (f.nl : Int) := by subst hO; simpa [std] using h
      exact Int.ofNat_lt.1 this
    have hin : 0 ≤ Int.ofNat j ∧ Int.ofNat j < (f.nl : Int) := ⟨Int.natCast_nonneg j, Int.ofNat_lt.2 hlt⟩
    have hnn : 0 ≤ O.conv .u64 (Int.ofNat j) := conv0B hO (by omega)
    have call := hr (O.nat (Int.ofNat j)) (by rw [hnat]; exact hlt)
    refine SW.seq (SW.block ?_)
    refine SW.seqRunD tok mixed hO (by kernel_rfl) (by cbv <;> rfl) (by repeat (first | exact trivial | exact hin | refine ⟨?_, ?_⟩)) ?_
    refine AnyE.callP e60 (by cbv <;> rfl) (by cbv <;> rfl) ?_
    refine AnyE.run tok hO (by kernel_rfl) (by cbv <;> rfl) (by trivial) ?_
    refine AnyE.callP call (by cbv <;> rfl) (by cbv <;> rfl) ?_
    refine AnyE.run tok hO (by kernel_rfl) (by cbv <;> rfl) (by trivial) ?_
    refine SW.condS (by cbv <;> rfl) (fun h2 => ?_) (fun h2 => SW.skip ?_)
    · rw [hnat] at h2
      refine SW.run tok hO (by cbv <;> rfl) (by first | exact hnn | exact ⟨hnn, trivial⟩) ?_
      refine SW.run tok hO (by cbv <;> rfl) (by trivial) ?_
      have hcn : bb (j + 1) = O.bin .or .i64 (bb j) (O.bin .shl .i64 1 (O.conv .u64 (Int.ofNat j))) := by rw [hbs, h2]; rfl
      exact ⟨j + 1, by omega, by omega, Weak.by rfl rfl (by simp) (Nat.le_refl _) (Nat.le_refl _) ⟨⟨rfl, .inl rfl⟩, ⟨rfl, .inl rfl⟩, ⟨rfl, .inl rfl⟩, ⟨by rw [hcn]; rfl, .inl rfl⟩, ⟨inc_ok hO (by omega), .inl rfl⟩, trivial⟩ ⟨⟨rfl, by omega, .inl rfl⟩, ⟨rfl, by omega, .inl rfl⟩, trivial⟩⟩
    · rw [hnat] at h2
      refine SW.run tok hO (by cbv <;> rfl) (by trivial) ?_
      have hcn : bb (j + 1) = bb j := by rw [hbs, h2]; rfl
      exact ⟨j + 1, by omega, by omega, Weak.by rfl rfl (by simp) (Nat.le_refl _) (Nat.le_refl _) ⟨⟨rfl, .inl rfl⟩, ⟨rfl, .inl rfl⟩, ⟨rfl, .inl rfl⟩, ⟨by rw [hcn]; rfl, .inl rfl⟩, ⟨inc_ok hO (by omega), .inl rfl⟩, trivial⟩ ⟨⟨rfl, by omega, .inl rfl⟩, ⟨rfl, by omega, .inl rfl⟩, trivial⟩⟩
  · have hle : ¬ j < f.nl := by
      have : ¬ Int.ofNat j < (f.nl : Int) := by subst hO; simpa [std] using h
      exact fun h => this (Int.ofNat_lt.2 h)
    obtain rfl : j = f.nl := by omega
    exact ⟨rfl, _, rfl, ⟨rfl, rfl, rfl, rfl, trivial⟩, rfl⟩
theorem flatG_snocB (bt : Nat → Int) (i : Nat) : flatG 1 (intC bt) i ++ [iV (bt i)] = flatG 1 (intC bt) (i + 1) := rfl
set_option maxHeartbeats 32000000 in
theorem all45_core (f : FarmD) (hnl : f.nl < 1000) (N : Nat) (hN : N < 100000) (e61 : Pure Try.prog 61 [farmV f] (iV (Int.ofNat N))) (fl : Nat → Nat → Int) (R : Nat → Nat → Bool) (e60 : ∀ i, i < N → Pure Try.prog 60 [farmV f, iV (Int.ofNat i)] (intsV f.ns false (fl i)))
    (hr : ∀ i, i < N → ∀ j, j < f.nl → Pure Try.prog 75 [farmV f, intsV f.ns false (fl i), lookV f j] (.sb (R i j))) : Pure Try.prog 45 [farmV f] (intsV N false (fun i => bitsN (R i) f.nl)) := by
  obtain ⟨O, hO⟩ : ∃ O : Ar, O = std := ⟨_, rfl⟩
  obtain ⟨bt, hbt⟩ : ∃ bt : Nat → Int, bt = fun i => bitsN (R i) f.nl := ⟨_, rfl⟩
  have hbi : ∀ i, bitsN (R i) f.nl = bt i := fun i => by rw [hbt]
  rw [← hbt]
  refine pure_of_body tok 3 Try.func45 en45 rfl ⟨farmV_below f, trivial⟩ (intsV_below _ _ _) ?_
  refine SW.seqRun tok hO (by cbv <;> rfl) (by trivial) ?_
  refine SW.seqRun tok hO (by cbv <;> rfl) (by trivial) ?_
  refine SW.seq ?_
  refine SW.seqRun tok hO (by cbv <;> rfl) (by trivial) ?_
  refine (SW.block (SW.loopR (fun i : Nat => ⟨⟨40, getT [(1, .ptr 0 0), (3, slG 1 1 i), (4, iV (Int.ofNat i))]⟩, []⟩) (fun i => ⟨[(0, .cells none false (farmL f))] ++ objG 1 1 (intC bt) i, 2⟩) (fun i => N - i) (fun i => i ≤ N) 0 (Nat.zero_le _) (ren1 1 1) ?_ fun i hi => ?_))
  · exact WeakR.up rfl rfl (by simp) (Nat.le_refl _) (.inl rfl) (by show 1 ≤ 2; omega) ⟨RenV.ptr (by omega), RenV.closed Below.lit, RenV.closed Below.lit, trivial⟩ ⟨⟨by omega, _, rfl, .cells (RenVs.closed (farmL_below f)), .inr rfl⟩, trivial⟩ (fun p hp => by cases hp)
  cases i with
  | zero =>
    show SW _ _ _ _ ⟨⟨40, getT [(1, .ptr 0 0), (3, nl3), (4, iV (Int.ofNat 0))]⟩, []⟩ ⟨[(0, .cells none false (farmL f))], 2⟩
    refine SW.seq ?_
    refine SW.seqRun tok hO (by cbv <;> rfl) (by trivial) ?_
    refine OpsW.callP e61 (by cbv <;> rfl) ?_
    refine OpsW.run tok hO (by cbv <;> rfl) (by trivial) ?_
    refine SW.condS (by cbv <;> rfl) (fun h => SW.skip ?_) (fun h => SW.exit ?_)
    · have hlt : 0 < N := by
        have : Int.ofNat 0 < Int.ofNat N := by subst hO; simpa [std] using h
        exact Int.ofNat_lt.1 this
      have k1 := e60 0 hlt
      have k2 := hr 0 hlt
      refine SW.seq (SW.block ?_)
      refine SW.seqRun tok hO (by cbv <;> rfl) (by trivial) ?_
      refine SW.seq ((all_in0 f hnl nl3 0 (fl 0) (R 0) k1 k2 _ O hO ⟨rfl, rfl, rfl, rfl, trivial⟩).mono fun e fm st hm => ?_)
      obtain ⟨rfl, ts, rfl, ⟨g1, g3, g4, g5, _⟩, rfl⟩ := hm
      simp only at g1 g3 g4 g5
      rw [hbi] at g5
      rw [← updT_self g1, ← updT_self g3, ← updT_self g4, ← updT_self g5]
      refine (show SW _ _ _ _ _ _ from ?_)
      refine SW.runN tok hO 3 (by cbv <;> rfl) (by trivial) ?_
      refine OpsW.appNil tok (by cbv <;> rfl) (by rfl) (by kernel_rfl) (by rfl) (by rfl) ?_
      refine OpsW.run tok hO (by cbv <;> rfl) (by trivial) ?_
      refine SW.run tok hO (by cbv <;> rfl) (by trivial) ?_
      refine ⟨0 + 1, by omega, by omega, ren1 1 3, ?_⟩
      refine WeakR.up rfl rfl (by simp) (Nat.le_refl _) (.inr (by omega)) (by show 1 ≤ 2; omega) ⟨RenV.ptr (by omega), RenV.sl (by omega), RenV.inc hO (by omega), trivial⟩ ⟨⟨by omega, _, rfl, .cells (RenVs.closed (farmL_below f)), .inr rfl⟩, trivial⟩ (fun p hp => ?_)
      obtain rfl := objG_mem hp
      exact ⟨by omega, _, rfl, .cells (RenVs.of_eq (rfl) (flatG_below (intC_below bt) _)), .inl rfl⟩
    · have hz : 0 = N := by
        have : ¬ Int.ofNat 0 < Int.ofNat N := by subst hO; simpa [std] using h
        have h2 : ¬ 0 < N := fun h => this (Int.ofNat_lt.2 h)
        omega
      refine SW.seqRun tok hO (by cbv <;> rfl) (by trivial) ?_
      refine SW.ret ⟨_, _, rfl, rfl, ?_⟩
      rw [← hz]
      exact Eqv.nil
  | succ m =>
    obtain ⟨G, hG⟩ : ∃ G, G = flatG 1 (intC bt) (m + 1) := ⟨_, rfl⟩
    show SW _ _ _ _ ⟨⟨40, getT [(1, .ptr 0 0), (3, .sl 1 0 (m + 1) 1 false), (4, iV (Int.ofNat (m + 1)))]⟩, []⟩ ⟨[(0, .cells none false (farmL f)), (1, .cells none false (flatG 1 (intC bt) (m + 1)))], 2⟩
    rw [← hG]
    refine SW.seq ?_
    refine SW.seqRun tok hO (by cbv <;> rfl) (by trivial) ?_
    refine OpsW.callP e61 (by cbv <;> rfl) ?_
    refine OpsW.run tok hO (by cbv <;> rfl) (by trivial) ?_
    refine SW.condS (by cbv <;> rfl) (fun h => SW.skip ?_) (fun h => SW.exit ?_)
    · have hlt : (m + 1) < N := by
        have : Int.ofNat (m + 1) < Int.ofNat N := by subst hO; simpa [std] using h
        exact Int.ofNat_lt.1 this
      have k1 := e60 (m + 1) hlt
      have k2 := hr (m + 1) hlt
      refine SW.seq (SW.block ?_)
      refine SW.seqRun tok hO (by cbv <;> rfl) (by trivial) ?_
      refine SW.seq ((all_in1 f hnl (.sl 1 0 (m + 1) 1 false) (m + 1) G (fl (m + 1)) (R (m + 1)) k1 k2 _ O hO ⟨rfl, rfl, rfl, rfl, trivial⟩).mono fun e fm st hm => ?_)
      obtain ⟨rfl, ts, rfl, ⟨g1, g3, g4, g5, _⟩, rfl⟩ := hm
      simp only at g1 g3 g4 g5
      rw [hbi] at g5
      rw [← updT_self g1, ← updT_self g3, ← updT_self g4, ← updT_self g5]
      refine (show SW _ _ _ _ _ _ from ?_)
      refine SW.runN tok hO 3 (by cbv <;> rfl) (by trivial) ?_
      refine OpsW.appOne (g := intC bt) tok (by cbv <;> rfl) (by rfl) (by rfl) hG (by kernel_rfl) (by rfl) (by rfl) (by omega) fun G' hG' => ?_
      refine OpsW.run tok hO (by cbv <;> rfl) (by trivial) ?_
      refine SW.run tok hO (by cbv <;> rfl) (by trivial) ?_
      refine ⟨(m + 1) + 1, by omega, by omega, ren1 1 3, ?_⟩
      refine WeakR.up rfl rfl (by simp) (Nat.le_refl _) (.inr (by omega)) (by show 1 ≤ 2; omega) ⟨RenV.ptr (by omega), RenV.sl (by omega), RenV.inc hO (by omega), trivial⟩ ⟨⟨by omega, _, rfl, .cells (RenVs.closed (farmL_below f)), .inr rfl⟩, trivial⟩ (fun p hp => ?_)
      obtain rfl := objG_mem hp
      exact ⟨by omega, _, rfl, .cells (RenVs.of_eq (hG'.trans (flatG_snocB bt (m + 1))) (flatG_below (intC_below bt) _)), .inl rfl⟩
    · have hz : (m + 1) = N := by
        have : ¬ Int.ofNat (m + 1) < Int.ofNat N := by subst hO; simpa [std] using h
        have h2 : ¬ (m + 1) < N := fun h => this (Int.ofNat_lt.2 h)
        omega
      refine SW.seqRun tok hO (by cbv <;> rfl) (by trivial) ?_
      refine SW.ret ⟨_, _, rfl, rfl, ?_⟩
      rw [← hz]
      show Eqv (frz _ (fun _ => true) 3 (.sl 1 0 (m + 1) 1 false)) _
      rw [frz_slE (fm := none) (G := G) rfl rfl (by rw [hG, flatG_length]; exact Nat.le_refl _)]
      exact Eqv.isl rfl fun a k ha hk => Eqv.of (by rw [hG]; exact frz_flat ha hk rfl)
set_option maxHeartbeats 32000000 in
theorem truths55_core (f : FarmD) (N : Nat) (hN : N < 100000) (a : Nat → Int) (fu : Int) (F : Nat → List Int) (e45 : Pure Try.prog 45 [farmV f] (intsV N false a)) (e65 : Pure Try.prog 65 [farmV f] (iV fu)) (M : Nat) (FL : Nat → Nat → Int) (hzv : ∀ i, zV (F i) = intsV M false (FL i)) (e60 : ∀ i, i < N → Pure Try.prog 60 [farmV f, iV (Int.ofNat i)] (intsV M false (FL i))) :
    Pure Try.prog 55 [farmV f] (llV (pickL (fun i => decide (a i = fu)) F N)) := by
  obtain ⟨O, hO⟩ : ∃ O : Ar, O = std := ⟨_, rfl⟩
  have hnat : ∀ i : Nat, O.nat (Int.ofNat i) = i := fun i => by subst hO; rfl
  obtain ⟨p, hp⟩ : ∃ p : Nat → Bool, p = fun i => decide (a i = fu) := ⟨_, rfl⟩
  rw [← hp]
  have hpi : ∀ i, O.cmp .eql (a (O.nat (Int.ofNat i))) fu = p i := fun i => by rw [hnat, hp]; subst hO; rfl
  have hC0 : pickL p F 0 = [] := rfl
  have hC : ∀ i, pickL p F (i + 1) = if p i = true then pickL p F i ++ [F i] else pickL p F i := fun i => rfl
  have hCL := pickL_len p F
  generalize pickL p F = C at hC0 hC hCL ⊢
  clear hp
  refine pure_of_body tok 3 Try.func55 en55 rfl ⟨farmV_below f, trivial⟩ (llV_below _) ?_
  refine SW.seqRun tok hO (by cbv <;> rfl) (by trivial) ?_
  refine SW.seqRun tok hO (by cbv <;> rfl) (by trivial) ?_
  refine OpsW.callP e45 (by cbv <;> rfl) ?_
  refine OpsW.run tok hO (by cbv <;> rfl) (by trivial) ?_
  refine SW.seqRun tok hO (by cbv <;> rfl) (by trivial) ?_
  refine SW.seq ?_
  refine SW.seqRun tok hO (by cbv <;> rfl) (by trivial) ?_
  refine (SW.block (SW.loopR (fun i : Nat => ⟨⟨28, getT [(1, .ptr 0 0), (3, intsV N false a), (4, slG 1 1 (C i).length), (5, iV (Int.ofNat i))]⟩, []⟩) (fun i => ⟨[(0, .cells none false (farmL f))] ++ objG 1 1 (gT (C i)) (C i).length, 2⟩) (fun i => N - i) (fun i => i ≤ N) 0 (Nat.zero_le _) (ren1 1 1) ?_ fun i hi => ?_))
  · rw [hC0]
    exact WeakR.up rfl rfl (by simp) (Nat.le_refl _) (.inl rfl) (by show 1 ≤ 2; omega) ⟨RenV.ptr (by omega), RenV.closed (intsV_below _ _ _), RenV.closed Below.lit, RenV.closed Below.lit, trivial⟩ ⟨⟨by omega, _, rfl, .cells (RenVs.closed (farmL_below f)), .inr rfl⟩, trivial⟩ (fun p hp => by cases hp)
  have hCi := hC i
  have hCl := hCL i
  have hsn := fun l => gT_app (C i) l
  have hgo : ∀ (f' : Fm) (st' : St) (ρ : Nat → Nat), i < N → WeakR 1 ρ f' st' ⟨⟨28, getT [(1, .ptr 0 0), (3, intsV N false a), (4, slG 1 1 (C (i + 1)).length), (5, iV ((i + 1 : Nat) : Int))]⟩, []⟩ ⟨[(0, .cells none false (farmL f))] ++ objG 1 1 (gT (C (i + 1))) (C (i + 1)).length, 2⟩ → ∃ x', N - x' < N - i ∧ x' ≤ N ∧ ∃ ρ, WeakR 1 ρ f' st' ⟨⟨28, getT [(1, .ptr 0 0), (3, intsV N false a), (4, slG 1 1 (C x').length), (5, iV (Int.ofNat x'))]⟩, []⟩ ⟨[(0, .cells none false (farmL f))] ++ objG 1 1 (gT (C x')) (C x').length, 2⟩ := fun f' st' ρ h1 h2 => ⟨i + 1, by omega, by omega, ρ, h2⟩
  obtain ⟨L, hL⟩ : ∃ L, C i = L := ⟨_, rfl⟩
  rw [hL] at hCi hCl hsn
  show SW _ _ _ _ ⟨⟨28, getT [(1, .ptr 0 0), (3, intsV N false a), (4, slG 1 1 (C i).length), (5, iV (Int.ofNat i))]⟩, []⟩ ⟨[(0, .cells none false (farmL f))] ++ objG 1 1 (gT (C i)) (C i).length, 2⟩
  rw [hL]
  clear hC hC0 hCL
  cases hm : L.length with
  | zero =>
    rw [hm] at hsn
    show SW _ _ _ _ ⟨⟨28, getT [(1, .ptr 0 0), (3, intsV N false a), (4, nl3), (5, iV (Int.ofNat i))]⟩, []⟩ ⟨[(0, .cells none false (farmL f))], 2⟩
    refine SW.seq ?_
    refine SW.seqRun tok hO (by cbv <;> rfl) (by trivial) ?_
    refine SW.condS (by cbv <;> rfl) (fun h => SW.skip ?_) (fun h => SW.exit ?_)
    · have hlt : i < N := by
        have : Int.ofNat i < Int.ofNat N := by subst hO; simpa [std] using h
        exact Int.ofNat_lt.1 this
      have hin : 0 ≤ Int.ofNat i ∧ Int.ofNat i < Int.ofNat N := ⟨Int.natCast_nonneg i, Int.ofNat_lt.2 hlt⟩
      have k1 := e60 i hlt
      refine SW.seq (SW.block ?_)
      refine SW.seqRunD tok mixed hO (by kernel_rfl) (by cbv <;> rfl) (by repeat (first | exact trivial | exact hin | exact hin.1 | exact hin.2 | refine ⟨?_, ?_⟩)) ?_
      refine AnyE.callP e65 (by cbv <;> rfl) (by cbv <;> rfl) ?_
      refine AnyE.dec tok hO (by kernel_rfl) (by cbv <;> rfl) (by trivial) (fun h1 => ?_) (fun h1 => ?_)
      · have hpt : p i = true := (hpi i).symm.trans h1
        rw [if_pos hpt] at hCi
        refine AnyE.done (by kernel_rfl) ?_
        refine SW.cond (t := true) (by cbv <;> rfl) ?_
        refine SW.run tok hO (by cbv <;> rfl) (by trivial) ?_
        refine OpsW.callP k1 (by cbv <;> rfl) ?_
        refine OpsW.runN tok hO 1 (by cbv <;> rfl) (by trivial) ?_
        refine OpsW.appNil tok (by cbv <;> rfl) (by rfl) (by kernel_rfl) (by rfl) (by rfl) ?_
        refine OpsW.run tok hO (by cbv <;> rfl) (by trivial) ?_
        refine SW.run tok hO (by cbv <;> rfl) (by trivial) ?_
        refine hgo _ _ (ren1 1 3) hlt ?_
        rw [hCi, List.length_append, List.length_singleton, hm]
        refine WeakR.up rfl rfl (by simp) (Nat.le_refl _) (.inr (by omega)) (by show 1 ≤ 2; omega) ⟨RenV.ptr (by omega), RenV.closed (intsV_below _ _ _), RenV.sl (by omega), RenV.inc hO (by omega), trivial⟩ ⟨⟨by omega, _, rfl, .cells (RenVs.closed (farmL_below f)), .inr rfl⟩, trivial⟩ (fun p hp => ?_)
        obtain rfl := objG_mem hp
        refine ⟨by omega, _, rfl, .cells (RenVs.of_eq ?_ (flatG_below (gT_below _) _)), .inl rfl⟩
        have hsn := hsn (F i)
        rw [List.length_append, List.length_singleton, hm] at hsn
        rw [hzv i] at hsn
        exact hsn
      · have hpf : p i = false := (hpi i).symm.trans h1
        rw [if_neg (by rw [hpf]; decide)] at hCi
        refine AnyE.done (by kernel_rfl) ?_
        refine SW.cond (t := false) (by cbv <;> rfl) (SW.skip ?_)
        refine SW.run tok hO (by cbv <;> rfl) (by trivial) ?_
        refine hgo _ _ (ren1 1 1) hlt ?_
        rw [hCi, hm]
        exact WeakR.up rfl rfl (by simp) (Nat.le_refl _) (.inl rfl) (by show 1 ≤ 2; omega) ⟨RenV.ptr (by omega), RenV.closed (intsV_below _ _ _), RenV.closed Below.lit, RenV.inc hO (by omega), trivial⟩ ⟨⟨by omega, _, rfl, .cells (RenVs.closed (farmL_below f)), .inr rfl⟩, trivial⟩ (fun p hp => by cases hp)
    · have hz : i = N := by
        have : ¬ Int.ofNat i < Int.ofNat N := by subst hO; simpa [std] using h
        have h2 : ¬ i < N := fun h => this (Int.ofNat_lt.2 h)
        omega
      refine SW.seqRun tok hO (by cbv <;> rfl) (by trivial) ?_
      refine SW.ret ⟨_, _, rfl, rfl, ?_⟩
      rw [← hz, hL]
      unfold llV
      rw [hm]
      exact Eqv.nil
  | succ m =>
    obtain ⟨G, hG⟩ : ∃ G, G = flatG 1 (gT L) (m + 1) := ⟨_, rfl⟩
    rw [hm, ← hG] at hsn
    show SW _ _ _ _ ⟨⟨28, getT [(1, .ptr 0 0), (3, intsV N false a), (4, .sl 1 0 (m + 1) 1 false), (5, iV (Int.ofNat i))]⟩, []⟩ ⟨[(0, .cells none false (farmL f)), (1, .cells none false (flatG 1 (gT L) (m + 1)))], 2⟩
    rw [← hG]
    refine SW.seq ?_
    refine SW.seqRun tok hO (by cbv <;> rfl) (by trivial) ?_
    refine SW.condS (by cbv <;> rfl) (fun h => SW.skip ?_) (fun h => SW.exit ?_)
    · have hlt : i < N := by
        have : Int.ofNat i < Int.ofNat N := by subst hO; simpa [std] using h
        exact Int.ofNat_lt.1 this
      have hin : 0 ≤ Int.ofNat i ∧ Int.ofNat i < Int.ofNat N := ⟨Int.natCast_nonneg i, Int.ofNat_lt.2 hlt⟩
      have k1 := e60 i hlt
      refine SW.seq (SW.block ?_)
      refine SW.seqRunD tok mixed hO (by kernel_rfl) (by cbv <;> rfl) (by repeat (first | exact trivial | exact hin | exact hin.1 | exact hin.2 | refine ⟨?_, ?_⟩)) ?_
      refine AnyE.callP e65 (by cbv <;> rfl) (by cbv <;> rfl) ?_
      refine AnyE.dec tok hO (by kernel_rfl) (by cbv <;> rfl) (by trivial) (fun h1 => ?_) (fun h1 => ?_)
      · have hpt : p i = true := (hpi i).symm.trans h1
        rw [if_pos hpt] at hCi
        refine AnyE.done (by kernel_rfl) ?_
        refine SW.cond (t := true) (by cbv <;> rfl) ?_
        refine SW.run tok hO (by cbv <;> rfl) (by trivial) ?_
        refine OpsW.callP k1 (by cbv <;> rfl) ?_
        refine OpsW.runN tok hO 1 (by cbv <;> rfl) (by trivial) ?_
        refine OpsW.appOne (g := gT L) tok (by cbv <;> rfl) (by rfl) (by rfl) hG (by kernel_rfl) (by rfl) (by rfl) (by omega) fun G' hG' => ?_
        refine OpsW.run tok hO (by cbv <;> rfl) (by trivial) ?_
        refine SW.run tok hO (by cbv <;> rfl) (by trivial) ?_
        refine hgo _ _ (ren1 1 3) hlt ?_
        rw [hCi, List.length_append, List.length_singleton, hm]
        refine WeakR.up rfl rfl (by simp) (Nat.le_refl _) (.inr (by omega)) (by show 1 ≤ 2; omega) ⟨RenV.ptr (by omega), RenV.closed (intsV_below _ _ _), RenV.sl (by omega), RenV.inc hO (by omega), trivial⟩ ⟨⟨by omega, _, rfl, .cells (RenVs.closed (farmL_below f)), .inr rfl⟩, trivial⟩ (fun p hp => ?_)
        obtain rfl := objG_mem hp
        refine ⟨by omega, _, rfl, .cells (RenVs.of_eq ?_ (flatG_below (gT_below _) _)), .inl rfl⟩
        have hsn := hsn (F i)
        rw [List.length_append, List.length_singleton, hm] at hsn
        rw [hzv i] at hsn
        exact hG'.trans (by rw [← hsn, hG]; rfl)
      · have hpf : p i = false := (hpi i).symm.trans h1
        rw [if_neg (by rw [hpf]; decide)] at hCi
        refine AnyE.done (by kernel_rfl) ?_
        refine SW.cond (t := false) (by cbv <;> rfl) (SW.skip ?_)
        refine SW.run tok hO (by cbv <;> rfl) (by trivial) ?_
        refine hgo _ _ (ren1 1 1) hlt ?_
        rw [hCi, hm]
        refine WeakR.up rfl rfl (by simp) (Nat.le_refl _) (.inl rfl) (by show 1 ≤ 2; omega) ⟨RenV.ptr (by omega), RenV.closed (intsV_below _ _ _), RenV.sl (by omega), RenV.inc hO (by omega), trivial⟩ ⟨⟨by omega, _, rfl, .cells (RenVs.closed (farmL_below f)), .inr rfl⟩, trivial⟩ (fun p hp => ?_)
        obtain rfl := objG_mem hp
        exact ⟨by omega, _, rfl, .cells (RenVs.of_eq hG (flatG_below (gT_below _) _)), .inl rfl⟩
    · have hz : i = N := by
        have : ¬ Int.ofNat i < Int.ofNat N := by subst hO; simpa [std] using h
        have h2 : ¬ i < N := fun h => this (Int.ofNat_lt.2 h)
        omega
      refine SW.seqRun tok hO (by cbv <;> rfl) (by trivial) ?_
      refine SW.ret ⟨_, _, rfl, rfl, ?_⟩
      rw [← hz, hL]
      unfold llV
      rw [hm]
      show Eqv (frz _ (fun _ => true) 3 (.sl 1 0 (m + 1) 1 false)) _
      rw [frz_slE (fm := none) (G := G) rfl rfl (by rw [hG, flatG_length]; exact Nat.le_refl _)]
      exact Eqv.isl rfl fun a k ha hk => Eqv.of (by rw [hG]; exact frz_flat ha hk rfl)
theorem all45_ok {f : FarmD} (hc : f.check = 0) : Pure Try.prog 45 [farmV f] (intsV f.mN false f.bitT) := by
  have g := good_of_check hc
  have hs := good_small g
  obtain ⟨_, h1, h2⟩ := FarmD.many_eq hc
  have e61 := many_ok f hs
  have hm : f.manyN f.ns = Int.ofNat f.mN := by unfold FarmD.mN; show _ = (((f.manyN f.ns).toNat : Nat) : Int); omega
  rw [hm] at e61
  have hnl := g.nl
  have hns := g.ns
  exact all45_core f (by omega) f.mN (by unfold FarmD.mN; omega) e61 (fun i => f.nthN (i : Int)) (fun i => f.rightN (f.nthN (i : Int))) (fun i hi => nth_ok f g (Int.ofNat i)) (fun i hi j hj => rightN_ok f hs f.ns false (f.nthN (i : Int)) (by omega) (Nat.le_refl _) j (g.look j hj).1.1 (g.look j hj).1.2)
theorem truths55_ok {f : FarmD} (hc : f.check = 0) : Pure Try.prog 55 [farmV f] (llV f.refL) := by
  have g := good_of_check hc
  obtain ⟨_, h1, h2⟩ := FarmD.many_eq hc
  have hnl := g.nl
  have hz : ∀ i : Nat, zV (f.nthL (i : Int)) = intsV f.ns false (zL (f.nthL (i : Int))) := fun i => by
    unfold zV; rw [f.nthL_len]
  refine truths55_core f f.mN (by unfold FarmD.mN; omega) f.bitT (pw1 f.nl) (fun n => f.nthL n) (all45_ok hc) (full65_ok f (by omega)) f.ns (fun i => zL (f.nthL (i : Int))) hz fun i hi => ?_
  refine (nth_ok f g (Int.ofNat i)).res (Eqv.isl rfl fun s k hs hk => Eqv.int ?_)
  exact (f.nthL_at (i : Int) hs).symm
end Go.Fz
set_option linter.unusedVariables false
set_option linter.unusedSimpArgs false
namespace Go.Fz
open Go.Proofs
set_option maxRecDepth 100000
set_option maxHeartbeats 8000000 in
theorem bc_not (haw : Pure Try.prog 19 [] (.lit (.bool true))) (f : FarmD) (a : Int) (e52 : Pure Try.prog 52 [farmV f] (.sb false)) : Pure Try.prog 11 [farmV f, .lit (.int .u8 a)] (.lit (.bool true)) := by
  obtain ⟨O, hO⟩ : ∃ O : Ar, O = std := ⟨_, rfl⟩
  refine pure_of_body tok 3 Try.func11 en11 rfl ⟨farmV_below f, Below.lit, trivial⟩ Below.lit ?_
  refine SW.seqRun tok hO (by cbv <;> rfl) (by trivial) ?_
  refine SW.seq ?_
  refine SW.seqRun tok hO (by cbv <;> rfl) (by trivial) ?_
  refine OpsW.callP e52 (by cbv <;> rfl) ?_
  refine OpsW.run tok hO (by cbv <;> rfl) (by trivial) ?_
  refine SW.condS (by cbv <;> rfl) (fun hw1 => ?_) (fun hw1 => by first | (cases hw1; done) | (subst hO; simp [std] at hw1; done) | (subst hO; simp [std] at hw1; omega))
  refine SW.seqRun tok hO (by cbv <;> rfl) (by trivial) ?_
  refine OpsW.callP haw (by cbv <;> rfl) ?_
  refine OpsW.run tok hO (by cbv <;> rfl) (by trivial) ?_
  exact SW.ret ⟨_, _, rfl, rfl, Eqv.of rfl⟩
set_option maxHeartbeats 8000000 in
theorem bc_none (haw : Pure Try.prog 19 [] (.lit (.bool true))) (f : FarmD) (a : Int) (gl : Nat → Nat → AV) (e52 : Pure Try.prog 52 [farmV f] (.sb true)) (e21 : Pure Try.prog 21 [farmV f] (farmV f)) (e49 : Pure Try.prog 49 [farmV f] (.tup [nl3, iV 11])) (e50 : Pure Try.prog 50 [farmV f] (.tup [iV 0, nl3, iV 11])) (e55 : Pure Try.prog 55 [farmV f] (.isl 0 1 false gl)) : Pure Try.prog 11 [farmV f, .lit (.int .u8 a)] (.lit (.bool true)) := by
  obtain ⟨O, hO⟩ : ∃ O : Ar, O = std := ⟨_, rfl⟩
  refine pure_of_body tok 3 Try.func11 en11 rfl ⟨farmV_below f, Below.lit, trivial⟩ Below.lit ?_
  refine SW.seqRun tok hO (by cbv <;> rfl) (by trivial) ?_
  refine SW.seq ?_
  refine SW.seqRun tok hO (by cbv <;> rfl) (by trivial) ?_
  refine OpsW.callP e52 (by cbv <;> rfl) ?_
  refine OpsW.run tok hO (by cbv <;> rfl) (by trivial) ?_
  refine SW.condS (by cbv <;> rfl) (fun hw1 => by first | (cases hw1; done) | (subst hO; simp [std] at hw1; done) | (subst hO; simp [std] at hw1; omega)) (fun hw1 => SW.skip ?_)
  refine SW.seqRun tok hO (by cbv <;> rfl) (by trivial) ?_
  refine OpsW.callP e21 (by cbv <;> rfl) ?_
  refine OpsW.run tok hO (by cbv <;> rfl) (by trivial) ?_
  refine OpsW.callP e49 (by cbv <;> rfl) ?_
  refine OpsW.run tok hO (by cbv <;> rfl) (by trivial) ?_
  refine SW.seqRun tok hO (by cbv <;> rfl) (by trivial) ?_
  refine OpsW.callP e21 (by cbv <;> rfl) ?_
  refine OpsW.run tok hO (by cbv <;> rfl) (by trivial) ?_
  refine OpsW.callP e50 (by cbv <;> rfl) ?_
  refine OpsW.run tok hO (by cbv <;> rfl) (by trivial) ?_
  refine SW.seqRun tok hO (by cbv <;> rfl) (by trivial) ?_
  refine OpsW.callP e55 (by cbv <;> rfl) ?_
  refine OpsW.run tok hO (by cbv <;> rfl) (by trivial) ?_
  refine SW.seq ?_
  refine SW.seqRun tok hO (by cbv <;> rfl) (by trivial) ?_
  refine SW.condS (by cbv <;> rfl) (fun hw2 => ?_) (fun hw2 => by first | (cases hw2; done) | (subst hO; simp [std] at hw2; done) | (subst hO; simp [std] at hw2; omega))
  refine SW.seqRun tok hO (by cbv <;> rfl) (by trivial) ?_
  refine OpsW.splitG (by cbv <;> rfl) (fun hw3 => ?_) (fun hw3 => by first | (cases hw3; done) | (subst hO; simp [std] at hw3; done) | (subst hO; simp [std] at hw3; omega))
  refine OpsW.run tok hO (by cbv <;> rfl) (by trivial) ?_
  refine OpsW.splitG (by cbv <;> rfl) (fun hw4 => ?_) (fun hw4 => by first | (cases hw4; done) | (subst hO; simp [std] at hw4; done) | (subst hO; simp [std] at hw4; omega))
  refine OpsW.run tok hO (by cbv <;> rfl) (by trivial) ?_
  refine OpsW.callP haw (by cbv <;> rfl) ?_
  refine OpsW.run tok hO (by cbv <;> rfl) (by trivial) ?_
  exact SW.ret ⟨_, _, rfl, rfl, Eqv.of rfl⟩
set_option maxHeartbeats 8000000 in
theorem bc_pre (f : FarmD) (a : Int) (N : Nat) (gl : Nat → Nat → AV) (hN : ¬ N = 0) (M X : AV) (E c G tn : Int) (hnb : f.nb < 1000) (htn : std.bin .and .i64 (std.conv .i64 a) (std.bin .sub .i64 (std.bin .shl .i64 1 (std.conv .u64 (Int.ofNat f.nb))) 1) = tn) (e52 : Pure Try.prog 52 [farmV f] (.sb true)) (e21 : Pure Try.prog 21 [farmV f] (farmV f)) (e49 : Pure Try.prog 49 [farmV f] (.tup [M, iV E])) (e50 : Pure Try.prog 50 [farmV f] (.tup [iV c, X, iV G])) (e55 : Pure Try.prog 55 [farmV f] (.isl N 1 false gl))
    (htail : ∀ (gg : Nat → AV), AllP (fun p => gg p.1 = p.2) [(2, .ptr 0 0), (5, M), (6, iV E), (7, iV c), (8, X), (9, iV G), (10, .isl N 1 false gl), (11, iV tn)] → SW Try.prog none (restC 7 (bodyF Try.f11)) (trueQ3 Try.f11) ⟨⟨132, gg⟩, []⟩ ⟨[(0, .cells none false (farmL f))], 1⟩) : Pure Try.prog 11 [farmV f, .lit (.int .u8 a)] (.lit (.bool true)) := by
  obtain ⟨O, hO⟩ : ∃ O : Ar, O = std := ⟨_, rfl⟩
  rw [← hO] at htn
  have hcv : 0 ≤ O.conv .u64 (Int.ofNat f.nb) := conv0B hO hnb
  refine pure_of_body tok 3 Try.func11 en11 rfl ⟨farmV_below f, Below.lit, trivial⟩ Below.lit ?_
  refine SW.seqRun tok hO (by cbv <;> rfl) (by repeat (first | exact trivial | exact hcv | refine ⟨?_, ?_⟩)) ?_
  refine SW.seq ?_
  refine SW.seqRun tok hO (by cbv <;> rfl) (by repeat (first | exact trivial | exact hcv | refine ⟨?_, ?_⟩)) ?_
  refine OpsW.callP e52 (by cbv <;> rfl) ?_
  refine OpsW.run tok hO (by cbv <;> rfl) (by repeat (first | exact trivial | exact hcv | refine ⟨?_, ?_⟩)) ?_
  refine SW.condS (by cbv <;> rfl) (fun hw1 => by first | (cases hw1; done) | (subst hO; simp [std, hN] at hw1; done) | (subst hO; simp [std, hN] at hw1; omega)) (fun hw1 => SW.skip ?_)
  refine SW.seqRun tok hO (by cbv <;> rfl) (by repeat (first | exact trivial | exact hcv | refine ⟨?_, ?_⟩)) ?_
  refine OpsW.callP e21 (by cbv <;> rfl) ?_
  refine OpsW.run tok hO (by cbv <;> rfl) (by repeat (first | exact trivial | exact hcv | refine ⟨?_, ?_⟩)) ?_
  refine OpsW.callP e49 (by cbv <;> rfl) ?_
  refine OpsW.run tok hO (by cbv <;> rfl) (by repeat (first | exact trivial | exact hcv | refine ⟨?_, ?_⟩)) ?_
  refine SW.seqRun tok hO (by cbv <;> rfl) (by repeat (first | exact trivial | exact hcv | refine ⟨?_, ?_⟩)) ?_
  refine OpsW.callP e21 (by cbv <;> rfl) ?_
  refine OpsW.run tok hO (by cbv <;> rfl) (by repeat (first | exact trivial | exact hcv | refine ⟨?_, ?_⟩)) ?_
  refine OpsW.callP e50 (by cbv <;> rfl) ?_
  refine OpsW.run tok hO (by cbv <;> rfl) (by repeat (first | exact trivial | exact hcv | refine ⟨?_, ?_⟩)) ?_
  refine SW.seqRun tok hO (by cbv <;> rfl) (by repeat (first | exact trivial | exact hcv | refine ⟨?_, ?_⟩)) ?_
  refine OpsW.callP e55 (by cbv <;> rfl) ?_
  refine OpsW.run tok hO (by cbv <;> rfl) (by repeat (first | exact trivial | exact hcv | refine ⟨?_, ?_⟩)) ?_
  refine SW.seq ?_
  refine SW.seqRun tok hO (by cbv <;> rfl) (by repeat (first | exact trivial | exact hcv | refine ⟨?_, ?_⟩)) ?_
  refine SW.condS (by cbv <;> rfl) (fun hw2 => by first | (cases hw2; done) | (subst hO; simp [std, hN] at hw2; done) | (subst hO; simp [std, hN] at hw2; omega)) (fun hw2 => SW.skip ?_)
  refine SW.seqRun tok hO (by cbv <;> rfl) (by repeat (first | exact trivial | exact hcv | refine ⟨?_, ?_⟩)) ?_
  exact htail _ ⟨rfl, rfl, rfl, rfl, rfl, rfl, rfl, (by rw [← htn]; rfl), trivial⟩
set_option maxHeartbeats 8000000 in
theorem bc_short (haw : Pure Try.prog 19 [] (.lit (.bool true))) (f : FarmD) (N : Nat) (gl : Nat → Nat → AV) (M X : AV) (c tn : Int) (e21 : Pure Try.prog 21 [farmV f] (farmV f)) (e38 : Pure Try.prog 38 [farmV f, iV c, X] (.lit (.bool true))) (e56 : Pure Try.prog 56 [farmV f, .isl N 1 false gl, iV tn] (.lit (.bool false)))
    (gg : Nat → AV) (h : AllP (fun p => gg p.1 = p.2) [(2, .ptr 0 0), (5, M), (6, iV 10), (7, iV c), (8, X), (9, iV 0), (10, .isl N 1 false gl), (11, iV tn)]) :
    SW Try.prog none (restC 7 (bodyF Try.f11)) (trueQ3 Try.f11) ⟨⟨132, gg⟩, []⟩ ⟨[(0, .cells none false (farmL f))], 1⟩ := by
  obtain ⟨O, hO⟩ : ∃ O : Ar, O = std := ⟨_, rfl⟩
  obtain ⟨g1, g2, g3, g4, g5, g6, g7, g8, _⟩ := h
  simp only at g1 g2 g3 g4 g5 g6 g7 g8
  rw [← updT_self g1, ← updT_self g2, ← updT_self g3, ← updT_self g4, ← updT_self g5, ← updT_self g6, ← updT_self g7, ← updT_self g8]
  refine (show SW Try.prog none (.seq (.seq (.region _ _ _) _) _) _ _ _ from ?_)
  refine SW.seq ?_
  refine SW.seqRun tok hO (by cbv <;> rfl) (by trivial) ?_
  refine SW.condS (by cbv <;> rfl) (fun hw1 => ?_) (fun hw1 => by first | (cases hw1; done) | (subst hO; simp [std] at hw1; done) | (subst hO; simp [std] at hw1; omega))
  refine SW.seqRun tok hO (by cbv <;> rfl) (by trivial) ?_
  refine OpsW.splitG (by cbv <;> rfl) (fun hw2 => ?_) (fun hw2 => by first | (cases hw2; done) | (subst hO; simp [std] at hw2; done) | (subst hO; simp [std] at hw2; omega))
  refine OpsW.run tok hO (by cbv <;> rfl) (by trivial) ?_
  refine OpsW.splitG (by cbv <;> rfl) (fun hw3 => ?_) (fun hw3 => by first | (cases hw3; done) | (subst hO; simp [std] at hw3; done) | (subst hO; simp [std] at hw3; omega))
  refine OpsW.run tok hO (by cbv <;> rfl) (by trivial) ?_
  refine OpsW.callP e21 (by cbv <;> rfl) ?_
  refine OpsW.run tok hO (by cbv <;> rfl) (by trivial) ?_
  refine OpsW.callP e38 (by cbv <;> rfl) ?_
  refine OpsW.run tok hO (by cbv <;> rfl) (by trivial) ?_
  refine OpsW.callP e56 (by cbv <;> rfl) ?_
  refine OpsW.run tok hO (by cbv <;> rfl) (by trivial) ?_
  refine OpsW.callP haw (by cbv <;> rfl) ?_
  refine OpsW.run tok hO (by cbv <;> rfl) (by trivial) ?_
  exact SW.ret ⟨_, _, rfl, rfl, Eqv.of rfl⟩
set_option maxHeartbeats 8000000 in
theorem bc_okt (f : FarmD) (N : Nat) (gl : Nat → Nat → AV) (m : Nat) (F : Nat → Int) (X TL : AV) (c tn MK : Int) (e57 : Pure Try.prog 57 [intsV m false F, iV (Int.ofNat f.nb)] (.tup [iV MK, .lit (.bool true)])) (e56b : Pure Try.prog 56 [farmV f, .isl N 1 false gl, iV MK] (.lit (.bool true))) (e59 : Pure Try.prog 59 [iV tn] TL) (e58 : Pure Try.prog 58 [TL, intsV m false F] (.lit (.bool true))) (e56c : Pure Try.prog 56 [farmV f, .isl N 1 false gl, iV tn] (.lit (.bool false)))
    (htail : ∀ (gg : Nat → AV), AllP (fun p => gg p.1 = p.2) [(2, .ptr 0 0), (5, intsV m false F), (10, .isl N 1 false gl), (12, iV MK)] → SW Try.prog none (restC 10 (bodyF Try.f11)) (trueQ3 Try.f11) ⟨⟨132, gg⟩, []⟩ ⟨[(0, .cells none false (farmL f))], 1⟩)
    (gg : Nat → AV) (h : AllP (fun p => gg p.1 = p.2) [(2, .ptr 0 0), (5, intsV m false F), (6, iV 0), (7, iV c), (8, X), (9, iV 7), (10, .isl N 1 false gl), (11, iV tn)]) :
    SW Try.prog none (restC 7 (bodyF Try.f11)) (trueQ3 Try.f11) ⟨⟨132, gg⟩, []⟩ ⟨[(0, .cells none false (farmL f))], 1⟩ := by
  obtain ⟨O, hO⟩ : ∃ O : Ar, O = std := ⟨_, rfl⟩
  obtain ⟨g1, g2, g3, g4, g5, g6, g7, g8, _⟩ := h
  simp only at g1 g2 g3 g4 g5 g6 g7 g8
  rw [← updT_self g1, ← updT_self g2, ← updT_self g3, ← updT_self g4, ← updT_self g5, ← updT_self g6, ← updT_self g7, ← updT_self g8]
  refine (show SW Try.prog none (.seq (.seq (.region _ _ _) _) _) _ _ _ from ?_)
  refine SW.seq ?_
  refine SW.seqRun tok hO (by cbv <;> rfl) (by trivial) ?_
  refine SW.condS (by cbv <;> rfl) (fun hw1 => by first | (cases hw1; done) | (subst hO; simp [std] at hw1; done) | (subst hO; simp [std] at hw1; omega)) (fun hw1 => SW.skip ?_)
  refine SW.seqRun tok hO (by cbv <;> rfl) (by trivial) ?_
  refine OpsW.callP e57 (by cbv <;> rfl) ?_
  refine OpsW.run tok hO (by cbv <;> rfl) (by trivial) ?_
  refine SW.seq ?_
  refine SW.seqRun tok hO (by cbv <;> rfl) (by trivial) ?_
  refine OpsW.splitG (by cbv <;> rfl) (fun hw2 => by first | (cases hw2; done) | (subst hO; simp [std] at hw2; done) | (subst hO; simp [std] at hw2; omega)) (fun hw2 => ?_)
  refine OpsW.run tok hO (by cbv <;> rfl) (by trivial) ?_
  refine OpsW.callP e56b (by cbv <;> rfl) ?_
  refine OpsW.run tok hO (by cbv <;> rfl) (by trivial) ?_
  refine OpsW.callP e59 (by cbv <;> rfl) ?_
  refine OpsW.run tok hO (by cbv <;> rfl) (by trivial) ?_
  refine OpsW.callP e58 (by cbv <;> rfl) ?_
  refine OpsW.run tok hO (by cbv <;> rfl) (by trivial) ?_
  refine OpsW.callP e56c (by cbv <;> rfl) ?_
  refine OpsW.run tok hO (by cbv <;> rfl) (by trivial) ?_
  refine SW.cond (t := false) (by cbv <;> rfl) (SW.skip ?_)
  exact htail _ ⟨rfl, rfl, rfl, rfl, trivial⟩
set_option maxHeartbeats 8000000 in
theorem bc_okf (f : FarmD) (N : Nat) (gl : Nat → Nat → AV) (m : Nat) (F : Nat → Int) (X TL : AV) (c tn MK : Int) (e57 : Pure Try.prog 57 [intsV m false F, iV (Int.ofNat f.nb)] (.tup [iV MK, .lit (.bool true)])) (e56b : Pure Try.prog 56 [farmV f, .isl N 1 false gl, iV MK] (.lit (.bool true))) (e59 : Pure Try.prog 59 [iV tn] TL) (e58 : Pure Try.prog 58 [TL, intsV m false F] (.lit (.bool false)))
    (htail : ∀ (gg : Nat → AV), AllP (fun p => gg p.1 = p.2) [(2, .ptr 0 0), (5, intsV m false F), (10, .isl N 1 false gl), (12, iV MK)] → SW Try.prog none (restC 10 (bodyF Try.f11)) (trueQ3 Try.f11) ⟨⟨132, gg⟩, []⟩ ⟨[(0, .cells none false (farmL f))], 1⟩)
    (gg : Nat → AV) (h : AllP (fun p => gg p.1 = p.2) [(2, .ptr 0 0), (5, intsV m false F), (6, iV 0), (7, iV c), (8, X), (9, iV 7), (10, .isl N 1 false gl), (11, iV tn)]) :
    SW Try.prog none (restC 7 (bodyF Try.f11)) (trueQ3 Try.f11) ⟨⟨132, gg⟩, []⟩ ⟨[(0, .cells none false (farmL f))], 1⟩ := by
  obtain ⟨O, hO⟩ : ∃ O : Ar, O = std := ⟨_, rfl⟩
  obtain ⟨g1, g2, g3, g4, g5, g6, g7, g8, _⟩ := h
  simp only at g1 g2 g3 g4 g5 g6 g7 g8
  rw [← updT_self g1, ← updT_self g2, ← updT_self g3, ← updT_self g4, ← updT_self g5, ← updT_self g6, ← updT_self g7, ← updT_self g8]
  refine (show SW Try.prog none (.seq (.seq (.region _ _ _) _) _) _ _ _ from ?_)
  refine SW.seq ?_
  refine SW.seqRun tok hO (by cbv <;> rfl) (by trivial) ?_
  refine SW.condS (by cbv <;> rfl) (fun hw1 => by first | (cases hw1; done) | (subst hO; simp [std] at hw1; done) | (subst hO; simp [std] at hw1; omega)) (fun hw1 => SW.skip ?_)
  refine SW.seqRun tok hO (by cbv <;> rfl) (by trivial) ?_
  refine OpsW.callP e57 (by cbv <;> rfl) ?_
  refine OpsW.run tok hO (by cbv <;> rfl) (by trivial) ?_
  refine SW.seq ?_
  refine SW.seqRun tok hO (by cbv <;> rfl) (by trivial) ?_
  refine OpsW.splitG (by cbv <;> rfl) (fun hw2 => by first | (cases hw2; done) | (subst hO; simp [std] at hw2; done) | (subst hO; simp [std] at hw2; omega)) (fun hw2 => ?_)
  refine OpsW.run tok hO (by cbv <;> rfl) (by trivial) ?_
  refine OpsW.callP e56b (by cbv <;> rfl) ?_
  refine OpsW.run tok hO (by cbv <;> rfl) (by trivial) ?_
  refine OpsW.callP e59 (by cbv <;> rfl) ?_
  refine OpsW.run tok hO (by cbv <;> rfl) (by trivial) ?_
  refine OpsW.callP e58 (by cbv <;> rfl) ?_
  refine OpsW.run tok hO (by cbv <;> rfl) (by trivial) ?_
  refine SW.cond (t := false) (by cbv <;> rfl) (SW.skip ?_)
  exact htail _ ⟨rfl, rfl, rfl, rfl, trivial⟩
set_option maxHeartbeats 16000000 in
theorem bc_loop (haw : Pure Try.prog 19 [] (.lit (.bool true))) (f : FarmD) (N : Nat) (gl : Nat → Nat → AV) (hgl : Below 0 (.isl N 1 false gl)) (m : Nat) (F : Nat → Int) (hm : m < 1000) (MK : Int) (hF : ∀ i, i < m → ∃ j : Nat, j < 1000 ∧ F i = Int.ofNat j)
    (h56 : ∀ i, i < m → Pure Try.prog 56 [farmV f, .isl N 1 false gl, iV (std.bin .andNot .i64 MK (std.bin .shl .i64 1 (std.conv .u64 (F i))))] (.lit (.bool false)))
    (gg : Nat → AV) (h : AllP (fun p => gg p.1 = p.2) [(2, .ptr 0 0), (5, intsV m false F), (10, .isl N 1 false gl), (12, iV MK)]) :
    SW Try.prog none (restC 10 (bodyF Try.f11)) (trueQ3 Try.f11) ⟨⟨132, gg⟩, []⟩ ⟨[(0, .cells none false (farmL f))], 1⟩ := by
  obtain ⟨O, hO⟩ : ∃ O : Ar, O = std := ⟨_, rfl⟩
  obtain ⟨g1, g2, g3, g4, _⟩ := h
  simp only at g1 g2 g3 g4
  rw [← updT_self g1, ← updT_self g2, ← updT_self g3, ← updT_self g4]
  have hb0 : ∀ {n}, ObjBelow n (.cells none false (farmL f)) := ⟨fun x hx => Below.up (m := 0) (farmL_below f x hx), fun f h => by cases h⟩
  refine (show SW _ _ _ _ _ _ from ?_)
  refine SW.seq ?_
  refine SW.seqRun tok hO (by cbv <;> rfl) (by trivial) ?_
  refine (SW.block (SW.loopF (fun i : Nat => ⟨⟨132, getT [(2, .ptr 0 0), (5, intsV m false F), (10, .isl N 1 false gl), (12, iV MK), (14, iV (Int.ofNat i))]⟩, []⟩) (fun _ => ⟨[(0, .cells none false (farmL f))], 1⟩) (fun i => m - i) (fun i => i ≤ m) 0
    (fun _ => rfl) (Nat.zero_le _) (Weak.by rfl rfl (by simp) (Nat.le_refl _) (Nat.le_refl _) ⟨⟨rfl, .inl rfl⟩, ⟨rfl, .inl rfl⟩, ⟨rfl, .inl rfl⟩, ⟨rfl, .inl rfl⟩, ⟨rfl, .inl rfl⟩, trivial⟩ ⟨⟨rfl, by omega, .inl rfl⟩, trivial⟩) fun i hi => ?_))
  refine SW.seq ?_
  refine SW.seqRun tok hO (by cbv <;> rfl) (by trivial) ?_
  refine SW.condS (by cbv <;> rfl) (fun h => SW.skip ?_) (fun h => SW.exit ?_)
  · have hlt : i < m := by
      have : Int.ofNat i < Int.ofNat m := by subst hO; simpa [std] using h
      exact Int.ofNat_lt.1 this
    have hin : 0 ≤ Int.ofNat i ∧ Int.ofNat i < Int.ofNat m := ⟨Int.natCast_nonneg i, Int.ofNat_lt.2 hlt⟩
    have hni : O.nat (Int.ofNat i) = i := by subst hO; rfl
    have e56l := h56 (O.nat (Int.ofNat i)) (by rw [hni]; exact hlt)
    rw [← hO] at e56l
    have hcv : 0 ≤ O.conv .u64 (F (O.nat (Int.ofNat i))) := by
      obtain ⟨j, hj, he⟩ := hF (O.nat (Int.ofNat i)) (by rw [hni]; exact hlt)
      rw [he]
      exact conv0B hO hj
    refine SW.seq (SW.block ?_)
    refine SW.seqRunD tok mixed hO (by kernel_rfl) (by cbv <;> rfl) (by repeat (first | exact trivial | exact hin | exact hin.1 | exact hin.2 | exact hcv | refine ⟨?_, ?_⟩)) ?_
    refine AnyE.callP e56l (by cbv <;> rfl) (by cbv <;> rfl) ?_
    refine AnyE.done (by kernel_rfl) ?_
    refine SW.cond (t := false) (by cbv <;> rfl) (SW.skip ?_)
    refine SW.run tok hO (by cbv <;> rfl) (by trivial) ?_
    exact ⟨i + 1, by omega, hlt, Weak.by rfl rfl (by simp) (Nat.le_refl _) (by first | exact Nat.le_refl _ | exact Nat.le_succ _ | exact Nat.le_of_ble_eq_true rfl) ⟨⟨rfl, .inr (Below.ptr (by omega))⟩, ⟨rfl, .inr (Below.up (m := 0) (intsV_below _ _ _))⟩, ⟨rfl, .inr (Below.up (m := 0) hgl)⟩, ⟨rfl, .inr Below.lit⟩, ⟨inc_ok hO (by omega), .inr Below.lit⟩, trivial⟩ ⟨⟨rfl, by omega, .inr hb0⟩, trivial⟩⟩
  · refine SW.seqRun tok hO (by cbv <;> rfl) (by trivial) ?_
    refine OpsW.callP haw (by cbv <;> rfl) ?_
    refine OpsW.run tok hO (by cbv <;> rfl) (by trivial) ?_
    exact SW.ret ⟨_, _, rfl, rfl, Eqv.of rfl⟩
end Go.Fz
set_option linter.unusedVariables false
namespace Go.Fz
open Go.Proofs
set_option maxRecDepth 100000
theorem FarmD.waN_small {f : FarmD} (g : f.Good) {fl : Nat → Int} (hfl : ∀ s, s < f.ns → 0 ≤ fl s ∧ fl s ≤ 30) {j : Nat} (hj : j < f.nb) : 0 ≤ f.waN fl j ∧ f.waN fl j ≤ 15360 := by
  obtain ⟨h1, h2⟩ := f.waN_bound g fl hfl j hj
  have := pow2_le (b := j) (by have := g.nb; omega)
  omega
theorem FarmD.inS_mono {f : FarmD} (g : f.Good) {fl fl' : Nat → Int} (hfl : ∀ s, s < f.ns → 0 ≤ fl s ∧ fl s ≤ 30) (hfl' : ∀ s, s < f.ns → 0 ≤ fl' s ∧ fl' s ≤ 30) (hle : ∀ s, s < f.ns → fl s ≤ fl' s) (b : Nat) : ∀ s, s ≤ f.ns → f.inS fl b s ≤ f.inS fl' b s
  | 0, _ => Int.le_refl _
  | s + 1, h => by
    have ih := FarmD.inS_mono g hfl hfl' hle b s (by omega)
    have b1 := f.inS_bound fl g.ns hfl b s (by omega)
    have b2 := f.inS_bound fl' g.ns hfl' b s (by omega)
    have h1 := hfl s (by omega)
    have h2 := hfl' s (by omega)
    have h3 := hle s (by omega)
    have hns := g.ns
    simp only [FarmD.inS]
    split
    · rw [add64_in _ _ (by omega) (by omega), add64_in _ _ (by omega) (by omega)]; omega
    · exact ih
theorem FarmD.mono {f : FarmD} (g : f.Good) {fl fl' : Nat → Int} (hfl : ∀ s, s < f.ns → 0 ≤ fl s ∧ fl s ≤ 30) (hfl' : ∀ s, s < f.ns → 0 ≤ fl' s ∧ fl' s ≤ 30) (hle : ∀ s, s < f.ns → fl s ≤ fl' s) (i : Nat) : i < f.nb → f.waN fl i ≤ f.waN fl' i := by
  induction i using Nat.strongRecOn with
  | _ i ih =>
    intro hi
    have hnb := g.nb
    have hns := g.ns
    rw [f.waN_eq, f.waN_eq]
    have key : ∀ m, m ≤ i → f.inB fl (f.waN fl) i m ≤ f.inB fl' (f.waN fl') i m ∧ (0 ≤ f.inB fl (f.waN fl) i m ∧ f.inB fl (f.waN fl) i m ≤ 120 + 15360 * m) ∧ (0 ≤ f.inB fl' (f.waN fl') i m ∧ f.inB fl' (f.waN fl') i m ≤ 120 + 15360 * m) := by
      intro m
      induction m with
      | zero =>
        intro _
        have h1 := f.inS_bound fl g.ns hfl i f.ns (Nat.le_refl _)
        have h2 := f.inS_bound fl' g.ns hfl' i f.ns (Nat.le_refl _)
        have h3 := FarmD.inS_mono g hfl hfl' hle i f.ns (Nat.le_refl _)
        refine ⟨h3, ⟨h1.1, ?_⟩, ⟨h2.1, ?_⟩⟩
        · show f.inS fl i f.ns ≤ _; omega
        · show f.inS fl' i f.ns ≤ _; omega
      | succ m ihm =>
        intro hm
        obtain ⟨h1, ⟨h3, h4⟩, ⟨h5, h6⟩⟩ := ihm (by omega)
        obtain ⟨w0, w1⟩ := FarmD.waN_small g hfl (j := m) (by omega)
        obtain ⟨u0, u1⟩ := FarmD.waN_small g hfl' (j := m) (by omega)
        obtain ⟨_, ⟨n0, n1⟩, _⟩ := g.bed m (by omega)
        have hw := ih m (by omega) (by omega)
        simp only [FarmD.inB]
        by_cases hd : f.down m = (i : Int)
        · have b1 : 0 ≤ maxI 0 (sub64 (f.waN fl m) (f.notch m)) ∧ maxI 0 (sub64 (f.waN fl m) (f.notch m)) ≤ 15360 := by
            rw [sub64_in _ _ (by omega) (by omega)]; unfold maxI; split <;> omega
          have b2 : 0 ≤ maxI 0 (sub64 (f.waN fl' m) (f.notch m)) ∧ maxI 0 (sub64 (f.waN fl' m) (f.notch m)) ≤ 15360 := by
            rw [sub64_in _ _ (by omega) (by omega)]; unfold maxI; split <;> omega
          have b3 : maxI 0 (sub64 (f.waN fl m) (f.notch m)) ≤ maxI 0 (sub64 (f.waN fl' m) (f.notch m)) := by
            rw [sub64_in _ _ (by omega) (by omega), sub64_in _ _ (by omega) (by omega)]; unfold maxI; split <;> split <;> omega
          rw [if_pos hd, if_pos hd, add64_in _ _ (by omega) (by omega), add64_in _ _ (by omega) (by omega)]
          exact ⟨by omega, ⟨by omega, by omega⟩, ⟨by omega, by omega⟩⟩
        · rw [if_neg hd, if_neg hd]
          exact ⟨h1, ⟨h3, by omega⟩, ⟨h5, by omega⟩⟩
    exact (key i (Nat.le_refl _)).1
theorem FarmD.water_ex {f : FarmD} (g : f.Good) {fl : Nat → Int} (hfl : ∀ s, s < f.ns → 0 ≤ fl s ∧ fl s ≤ 30) {b : Nat} (hb : b < f.nb) :
    f.water fl b 0 = f.waN fl b ∧ f.water fl b 1 = minI (f.waN fl b) (f.notch b) ∧ f.water fl b 2 = f.waN fl b - minI (f.waN fl b) (f.notch b) ∧ (0 ≤ f.waN fl b ∧ f.waN fl b ≤ 15360) ∧ (0 ≤ f.notch b ∧ f.notch b ≤ 9) := by
  obtain ⟨h1, h2, h3⟩ := f.water_eq g fl hfl b hb
  have h4 := FarmD.waN_small g hfl hb
  have h5 := (g.bed b hb).2.1
  refine ⟨h1, h2, ?_, h4, h5⟩
  rw [h3]
  show sub64 (f.waN fl b) (minI (f.waN fl b) (f.notch b)) = _
  have : 0 ≤ minI (f.waN fl b) (f.notch b) ∧ minI (f.waN fl b) (f.notch b) ≤ 9 := by unfold minI; split <;> omega
  rw [sub64_in _ _ (by omega) (by omega)]
def FarmD.setF (f : FarmD) (k : Nat) (lo hi : Int) : FarmD := { f with slo := fun i => if i = k then lo else f.slo i, shi := fun i => if i = k then hi else f.shi i }
section
variable (f : FarmD) (k : Nat) (lo hi : Int)
theorem setF_playS (fl : Nat → Int) : ∀ s, playS (f.setF k lo hi) fl s = playS f fl s
  | 0 => rfl
  | s + 1 => by
    show stepS (f.setF k lo hi) fl s (playS (f.setF k lo hi) fl s) = stepS f fl s (playS f fl s)
    rw [setF_playS fl s]; rfl
end
def sumZ (g : Nat → Int) : Nat → Int
  | 0 => 0
  | n + 1 => sumZ g n + g n
theorem sumZ_congr {g h : Nat → Int} : ∀ {n : Nat}, (∀ i, i < n → g i = h i) → sumZ g n = sumZ h n
  | 0, _ => rfl
  | n + 1, k => by
    show sumZ g n + g n = sumZ h n + h n
    rw [sumZ_congr fun i hi => k i (by omega), k n (by omega)]
theorem sumZ_add (g h : Nat → Int) : ∀ n : Nat, sumZ (fun i => g i + h i) n = sumZ g n + sumZ h n
  | 0 => rfl
  | n + 1 => by
    show sumZ (fun i => g i + h i) n + (g n + h n) = (sumZ g n + g n) + (sumZ h n + h n)
    rw [sumZ_add g h n]; omega
theorem sumZ_zero : ∀ n : Nat, sumZ (fun _ => 0) n = 0
  | 0 => rfl
  | n + 1 => by
    show sumZ (fun _ => 0) n + 0 = 0
    rw [sumZ_zero n]; rfl
def FarmD.ovZ (f : FarmD) (fl : Nat → Int) (j : Nat) : Int := f.waN fl j - minI (f.waN fl j) (f.notch j)
theorem FarmD.inS_sum {f : FarmD} (g : f.Good) {fl : Nat → Int} (hfl : ∀ s, s < f.ns → 0 ≤ fl s ∧ fl s ≤ 30) (b : Nat) : ∀ s, s ≤ f.ns → f.inS fl b s = sumZ (fun s => if f.sb s = (b : Int) then fl s else 0) s
  | 0, _ => rfl
  | s + 1, h => by
    have ih := FarmD.inS_sum g hfl b s (by omega)
    have b1 := f.inS_bound fl g.ns hfl b s (by omega)
    have h1 := hfl s (by omega)
    have hns := g.ns
    show _ = sumZ (fun s => if f.sb s = (b : Int) then fl s else 0) s + (if f.sb s = (b : Int) then fl s else 0)
    simp only [FarmD.inS]
    split
    · rw [add64_in _ _ (by omega) (by omega), ih]
    · rw [ih]; omega
theorem FarmD.waN_sum {f : FarmD} (g : f.Good) {fl : Nat → Int} (hfl : ∀ s, s < f.ns → 0 ≤ fl s ∧ fl s ≤ 30) {b : Nat} (hb : b < f.nb) :
    f.waN fl b = sumZ (fun s => if f.sb s = (b : Int) then fl s else 0) f.ns + sumZ (fun j => if f.down j = (b : Int) then f.ovZ fl j else 0) f.nb := by
  have hnb := g.nb
  have hns := g.ns
  have key : ∀ m, m ≤ b → f.inB fl (f.waN fl) b m = f.inS fl b f.ns + sumZ (fun j => if f.down j = (b : Int) then f.ovZ fl j else 0) m ∧ 0 ≤ f.inB fl (f.waN fl) b m ∧ f.inB fl (f.waN fl) b m ≤ 120 + 15360 * m := by
    intro m
    induction m with
    | zero =>
      intro _
      have h1 := f.inS_bound fl g.ns hfl b f.ns (Nat.le_refl _)
      refine ⟨?_, h1.1, ?_⟩
      · show f.inS fl b f.ns = f.inS fl b f.ns + 0; omega
      · show f.inS fl b f.ns ≤ _; omega
    | succ m ihm =>
      intro hm
      obtain ⟨h1, h2, h3⟩ := ihm (by omega)
      obtain ⟨w0, w1⟩ := FarmD.waN_small g hfl (j := m) (by omega)
      obtain ⟨_, ⟨n0, n1⟩, _⟩ := g.bed m (by omega)
      have hov : maxI 0 (sub64 (f.waN fl m) (f.notch m)) = f.ovZ fl m ∧ 0 ≤ f.ovZ fl m ∧ f.ovZ fl m ≤ 15360 := by
        rw [sub64_in _ _ (by omega) (by omega)]; unfold maxI FarmD.ovZ minI; split <;> split <;> omega
      show (if f.down m = (b : Int) then add64 (f.inB fl (f.waN fl) b m) (maxI 0 (sub64 (f.waN fl m) (f.notch m))) else f.inB fl (f.waN fl) b m) = f.inS fl b f.ns + (sumZ (fun j => if f.down j = (b : Int) then f.ovZ fl j else 0) m + (if f.down m = (b : Int) then f.ovZ fl m else 0)) ∧ 0 ≤ (if f.down m = (b : Int) then add64 (f.inB fl (f.waN fl) b m) (maxI 0 (sub64 (f.waN fl m) (f.notch m))) else f.inB fl (f.waN fl) b m) ∧ (if f.down m = (b : Int) then add64 (f.inB fl (f.waN fl) b m) (maxI 0 (sub64 (f.waN fl m) (f.notch m))) else f.inB fl (f.waN fl) b m) ≤ 120 + 15360 * ((m + 1 : Nat) : Int)
      by_cases hd : f.down m = (b : Int)
      · rw [if_pos hd, if_pos hd, hov.1, add64_in _ _ (by omega) (by omega)]
        refine ⟨?_, ?_, ?_⟩ <;> omega
      · rw [if_neg hd, if_neg hd]
        refine ⟨?_, ?_, ?_⟩ <;> omega
  rw [f.waN_eq, (key b (Nat.le_refl _)).1, FarmD.inS_sum g hfl b f.ns (Nat.le_refl _)]
  have tail : ∀ d, b + d ≤ f.nb → sumZ (fun j => if f.down j = (b : Int) then f.ovZ fl j else 0) (b + d) = sumZ (fun j => if f.down j = (b : Int) then f.ovZ fl j else 0) b := by
    intro d
    induction d with
    | zero => intro _; rfl
    | succ d ih =>
      intro h
      show sumZ (fun j => if f.down j = (b : Int) then f.ovZ fl j else 0) (b + d) + (if f.down (b + d) = (b : Int) then f.ovZ fl (b + d) else 0) = _
      rw [ih (by omega), if_neg (by have := (g.bed (b + d) (by omega)).2.2; omega)]
      omega
  have := tail (f.nb - b) (by omega)
  rw [show b + (f.nb - b) = f.nb by omega] at this
  rw [this]
end Go.Fz
set_option linter.unusedVariables false
namespace Go.Fz
open Go.Proofs
set_option maxRecDepth 100000
end Go.Fz
