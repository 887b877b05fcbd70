/- Own work of the verifier of watercress: FzRf4, FzRf5, FzRf6, FzRf7, FzRf8, FzRs1, FzRs2, FzRs3. -/
import Derived.Below
import Derived.CallsIn
import Derived.Carry
import Derived.ChangeKeysEq
import Derived.ChangeSame
import Derived.Deep.Slices
import Derived.DeepKeys4
import Derived.JoinedCond
import Derived.Laws.AppendOwn
import Derived.Laws.Cells
import Derived.Laws.CopyRow
import Derived.Laws.Cover3
import Derived.Laws.Entries
import Derived.Laws.NewFold
import Derived.Laws.Sem
import Derived.Laws.Small
import Derived.Laws.StructEq
import Derived.Laws.Tables
import Derived.Laws.World
import Derived.Lib.SmallJoins
import Derived.Maps.Keyed
import Derived.Maps.RangeRun
import Derived.OpenShut
import Derived.OrdersHeld
import Derived.OrdersIn
import Derived.ProofKit
import Derived.RangeFuncLeaves
import Derived.RangeFuncRecord
import Derived.Shelf.Abstract
import Derived.WalkKit
import Derived.WideKeyArgs
import Derived.Test.YtcjekdfncnmbfaaNl0
import Derived.Test.YtcjekdfncnmbfaaNa10
import Derived.Test.YtcjekdfncnmbfaaNa11
import Derived.Test.YtcjekdfncnmbfaaNa13
import Derived.Test.YtcjekdfncnmbfaaNa16
import Derived.Test.YtcjekdfncnmbfaaNa14
import Derived.Test.YtcjekdfncnmbfaaNa18
import Derived.Test.YtcjekdfncnmbfaaNa15
import Derived.Test.YtcjekdfncnmbfaaNa19
import Derived.Test.YtcjekdfncnmbfaaNa20
import Derived.Test.YtcjekdfncnmbfaaNa22
import Derived.Test.YtcjekdfncnmbfaaNa12
import Derived.Test.YtcjekdfncnmbfaaNa17
import Derived.Test.YtcjekdfncnmbfaaNa0
import Derived.Test.YtcjekdfncnmbfaaNa1
import Derived.Test.YtcjekdfncnmbfaaNa2
import Derived.Test.YtcjekdfncnmbfaaNa3
import Derived.Test.YtcjekdfncnmbfaaNa4
import Derived.Test.YtcjekdfncnmbfaaNa5
import Derived.Test.YtcjekdfncnmbfaaNa6
import Derived.Test.YtcjekdfncnmbfaaNa7
import Derived.Test.YtcjekdfncnmbfaaNa8
import Derived.Test.YtcjekdfncnmbfaaNa9
import Derived.Test.YtcjekdfncnmbfaaProg
import Derived.Test.YtcjekdfncnmbfaaRows
set_option linter.unusedVariables false
set_option linter.unusedSimpArgs false
set_option linter.unusedVariables false
namespace Go.Fz
open Go.Proofs
set_option maxRecDepth 100000
section
variable (s : Nat → Int) (T : Nat → Bool)
def pS : Nat → Int
  | 0 => 1
  | i + 1 => if T i = true then pS i * s i else pS i
def qS (n : Int) : Nat → Int
  | 0 => n
  | i + 1 => if T i = true then qS n i / s i else qS n i
end
theorem pS_pos {s : Nat → Int} {T : Nat → Bool} {k : Nat} (hs : ∀ i, i < k → 1 ≤ s i) : ∀ j, j ≤ k → 1 ≤ pS s T j ∧ pS s T j ≤ prodZ s j
  | 0, _ => ⟨Int.le_refl _, Int.le_refl _⟩
  | j + 1, h => by
    obtain ⟨h1, h2⟩ := pS_pos (T := T) hs j (by omega)
    have h3 := hs j (by omega)
    have h4 : pS s T j * s j ≤ prodZ s j * s j := Int.mul_le_mul_of_nonneg_right h2 (by omega)
    have h5 : pS s T j * 1 ≤ pS s T j * s j := Int.mul_le_mul_of_nonneg_left h3 (by omega)
    show 1 ≤ (if T j = true then _ else _) ∧ (if T j = true then _ else _) ≤ prodZ s j * s j
    split <;> constructor <;> omega
theorem radix_onto {s : Nat → Int} {T : Nat → Bool} {k : Nat} (hs : ∀ i, i < k → 1 ≤ s i) {d : Nat → Int} (hd : ∀ i, i < k → T i = true → 0 ≤ d i ∧ d i < s i) : ∀ j, j ≤ k → ∀ m : Int, 0 ≤ m → ∃ n : Int, 0 ≤ n ∧ n < pS s T j * (m + 1) ∧ qS s T n j = m ∧ ∀ i, i < j → T i = true → qS s T n i % s i = d i
  | 0, _, m, hm => ⟨m, hm, by show m < 1 * (m + 1); omega, rfl, fun i hi => absurd hi (Nat.not_lt_zero _)⟩
  | j + 1, h, m, hm => by
    have h3 := hs j (by omega)
    have hp := (pS_pos (T := T) hs j (by omega)).1
    cases hT : T j with
    | false =>
      obtain ⟨n, n0, n1, n2, n3⟩ := radix_onto hs hd j (by omega) m hm
      refine ⟨n, n0, ?_, ?_, fun i hi ht => ?_⟩
      · show n < (if T j = true then pS s T j * s j else pS s T j) * (m + 1)
        rw [hT, if_neg (by decide)]; exact n1
      · show (if T j = true then qS s T n j / s j else qS s T n j) = m
        rw [hT, if_neg (by decide)]; exact n2
      · by_cases e : i = j
        · rw [e, hT] at ht; cases ht
        · exact n3 i (by omega) ht
    | true =>
      obtain ⟨d0, d1⟩ := hd j (by omega) hT
      have hms : 0 ≤ m * s j := Int.mul_nonneg hm (by omega)
      obtain ⟨n, n0, n1, n2, n3⟩ := radix_onto hs hd j (by omega) (m * s j + d j) (by omega)
      have hq : (m * s j + d j) / s j = m := by
        rw [Int.add_comm, Int.add_mul_ediv_right _ _ (by omega), Int.ediv_eq_zero_of_lt d0 d1]; omega
      have hr : (m * s j + d j) % s j = d j := by
        rw [Int.add_comm, Int.add_mul_emod_self_right, Int.emod_eq_of_lt d0 d1]
      refine ⟨n, n0, ?_, ?_, fun i hi ht => ?_⟩
      · show n < (if T j = true then pS s T j * s j else pS s T j) * (m + 1)
        rw [hT, if_pos rfl, Int.mul_assoc]
        refine Int.lt_of_lt_of_le n1 (Int.mul_le_mul_of_nonneg_left ?_ (by omega))
        rw [Int.mul_add, Int.mul_one, Int.mul_comm (s j) m]; omega
      · show (if T j = true then qS s T n j / s j else qS s T n j) = m
        rw [hT, if_pos rfl, n2]; exact hq
      · by_cases e : i = j
        · rw [e, n2]; exact hr
        · exact n3 i (by omega) ht
theorem qS_rng {s : Nat → Int} {T : Nat → Bool} {k : Nat} (hs : ∀ i, i < k → 1 ≤ s i) {n : Int} (n0 : 0 ≤ n) : ∀ j, j ≤ k → 0 ≤ qS s T n j ∧ qS s T n j ≤ n
  | 0, _ => ⟨n0, Int.le_refl _⟩
  | j + 1, h => by
    obtain ⟨h1, h2⟩ := qS_rng (T := T) hs n0 j (by omega)
    have h3 := hs j (by omega)
    show 0 ≤ (if T j = true then qS s T n j / s j else qS s T n j) ∧ (if T j = true then qS s T n j / s j else qS s T n j) ≤ n
    split
    · have h4 : 0 ≤ qS s T n j / s j := Int.ediv_nonneg h1 (by omega)
      have h5 : qS s T n j / s j ≤ qS s T n j := Int.ediv_le_self _ h1
      omega
    · exact ⟨h1, h2⟩
def YardD.szB (y : YardD) (i : Nat) : Int := y.bhi i - y.blo i + 1
theorem szB_pos {y : YardD} (hf : y.Fit) : ∀ i, i < y.nb → 1 ≤ y.szB i := fun i hi => by
  have := hf.beg i hi
  unfold YardD.szB; omega
theorem many_small {y : YardD} (hc : y.check = 0) (b : Int) : mnB y.blo y.bhi b y.nb = pS y.szB (bitB b) y.nb ∧ pS y.szB (bitB b) y.nb ≤ 2000 := by
  have hf := (y.fit_of_check hc).1
  have h3 := (check_zero.1 hc).2.2
  have hp := prN_prod hf.nb hf.beg
  have hz : prodZ y.szB y.nb ≤ 2000 := by rw [(hp y.nb (Nat.le_refl _)).1] at h3; exact h3
  have hmono : ∀ i j, i + j ≤ y.nb → prodZ y.szB i ≤ prodZ y.szB (i + j) := fun i j => by
    induction j with
    | zero => intro _; exact Int.le_refl _
    | succ j ih =>
      intro h
      have h1 := ih (by omega)
      have h2 := szB_pos hf (i + j) (by omega)
      have h4 := (hp (i + j) (by omega)).2.1
      rw [(hp (i + j) (by omega)).1] at h4
      have h4 : 1 ≤ prodZ y.szB (i + j) := h4
      have h5 : prodZ y.szB (i + j) * 1 ≤ prodZ y.szB (i + j) * y.szB (i + j) := Int.mul_le_mul_of_nonneg_left h2 (by omega)
      show prodZ y.szB i ≤ prodZ y.szB (i + j) * y.szB (i + j)
      omega
  have hle : ∀ i, i ≤ y.nb → pS y.szB (bitB b) i ≤ 2000 := fun i hi => by
    have h1 := (pS_pos (T := bitB b) (szB_pos hf) i hi).2
    have h2 := hmono i (y.nb - i) (by omega)
    rw [show i + (y.nb - i) = y.nb by omega] at h2
    omega
  refine ⟨?_, hle _ (Nat.le_refl _)⟩
  have : ∀ i, i ≤ y.nb → mnB y.blo y.bhi b i = pS y.szB (bitB b) i := fun i => by
    induction i with
    | zero => intro _; rfl
    | succ i ih =>
      intro h
      have h1 := ih (by omega)
      have h2 := hle (i + 1) h
      have h4 := (pS_pos (T := bitB b) (szB_pos hf) i (by omega)).1
      have h5 := hle i (by omega)
      show (if bitB b i = true then std.mn 4000 (mul64 (mnB y.blo y.bhi b i) (size64 (y.blo i) (y.bhi i))) else mnB y.blo y.bhi b i) = (if bitB b i = true then pS y.szB (bitB b) i * y.szB i else pS y.szB (bitB b) i)
      rw [h1]
      split
      · rename_i hb
        have h2 : (if bitB b i = true then pS y.szB (bitB b) i * y.szB i else pS y.szB (bitB b) i) ≤ 2000 := h2
        rw [if_pos hb] at h2
        have hr := hf.beg i (by omega)
        have h6 : 0 ≤ pS y.szB (bitB b) i * y.szB i := Int.mul_nonneg (by omega) (by have := szB_pos hf i (by omega); omega)
        rw [size_in hr, show y.bhi i - y.blo i + 1 = y.szB i from rfl, mul64_in _ _ (by omega) (by omega), mn_if, if_pos (by omega)]
      · rfl
  exact this _ (Nat.le_refl _)
theorem nR_q {y : YardD} (hf : y.Fit) {b n : Int} (n0 : 0 ≤ n) (n1 : n ≤ 4000) : ∀ i, i ≤ y.nb → y.nR b n i = qS y.szB (bitB b) n i
  | 0, _ => rfl
  | i + 1, h => by
    have h1 := nR_q hf n0 n1 (b := b) i (by omega)
    have h2 := qS_rng (T := bitB b) (szB_pos hf) n0 i (by omega)
    have hr := hf.beg i (by omega)
    have hs := szB_pos hf i (by omega)
    show (if bitB b i = true then std.bin .quo .i64 (y.nR b n i) (size64 (y.blo i) (y.bhi i)) else y.nR b n i) = (if bitB b i = true then qS y.szB (bitB b) n i / y.szB i else qS y.szB (bitB b) n i)
    rw [h1]
    split
    · show quo64 _ _ = _
      rw [size_in hr, show y.bhi i - y.blo i + 1 = y.szB i from rfl, quo64_nn h2.1 (by omega) hs, Int.tdiv_eq_ediv_of_nonneg h2.1]
    · rfl
theorem nF_q {y : YardD} (hf : y.Fit) {b n : Int} (n0 : 0 ≤ n) (n1 : n ≤ 4000) {i : Nat} (hi : i < y.nb) : y.nF b n i = if bitB b i = true then y.blo i + qS y.szB (bitB b) n i % y.szB i else -1 := by
  have h2 := qS_rng (T := bitB b) (szB_pos hf) n0 i (by omega)
  have hr := hf.beg i hi
  have hs := szB_pos hf i hi
  unfold YardD.nF
  rw [nR_q hf n0 n1 i (by omega)]
  split
  · show add64 (y.blo i) ((qS y.szB (bitB b) n i).tmod (size64 (y.blo i) (y.bhi i))) = _
    have h3 := Int.emod_nonneg (qS y.szB (bitB b) n i) (show y.szB i ≠ 0 by omega)
    have h4 := Int.emod_lt_of_pos (qS y.szB (bitB b) n i) (show 0 < y.szB i by omega)
    have h5 : y.szB i ≤ 10 := by unfold YardD.szB; omega
    rw [size_in hr, show y.bhi i - y.blo i + 1 = y.szB i from rfl, Int.tmod_eq_emod_of_nonneg h2.1, add64_in _ _ (by omega) (by omega)]
  · rfl
theorem nF_rng {y : YardD} (hf : y.Fit) {b n : Int} (n0 : 0 ≤ n) (n1 : n ≤ 4000) {i : Nat} (hi : i < y.nb) (hb : bitB b i = true) : y.blo i ≤ y.nF b n i ∧ y.nF b n i ≤ y.bhi i := by
  have hs := szB_pos hf i hi
  rw [nF_q hf n0 n1 hi, if_pos hb]
  have h3 := Int.emod_nonneg (qS y.szB (bitB b) n i) (show y.szB i ≠ 0 by omega)
  have h4 := Int.emod_lt_of_pos (qS y.szB (bitB b) n i) (show 0 < y.szB i by omega)
  have h5 : y.szB i = y.bhi i - y.blo i + 1 := rfl
  omega
theorem nF_onto {y : YardD} (hc : y.check = 0) (b : Int) {g : Nat → Int} (hg : ∀ i, i < y.nb → bitB b i = true → y.blo i ≤ g i ∧ g i ≤ y.bhi i) : ∃ n : Nat, (n : Int) < mnB y.blo y.bhi b y.nb ∧ ∀ i, i < y.nb → bitB b i = true → y.nF b n i = g i := by
  have hf := (y.fit_of_check hc).1
  obtain ⟨h1, h2⟩ := many_small hc b
  obtain ⟨n, n0, n1, _, n3⟩ := radix_onto (s := y.szB) (T := bitB b) (k := y.nb) (szB_pos hf) (d := fun i => g i - y.blo i) (fun i hi ht => by
    have := hg i hi ht
    show 0 ≤ g i - y.blo i ∧ g i - y.blo i < y.bhi i - y.blo i + 1
    omega) y.nb (Nat.le_refl _) 0 (Int.le_refl _)
  have n1 : n < pS y.szB (bitB b) y.nb := by
    have : n < pS y.szB (bitB b) y.nb * 1 := n1
    omega
  obtain ⟨N, rfl⟩ := Int.eq_ofNat_of_zero_le n0
  refine ⟨N, by rw [h1]; exact n1, fun i hi ht => ?_⟩
  rw [nF_q hf n0 (by omega) hi, if_pos ht, n3 i hi ht]
  show y.blo i + (g i - y.blo i) = g i
  omega
end Go.Fz
set_option linter.unusedVariables false
namespace Go.Fz
open Go.Proofs
set_option maxRecDepth 100000
theorem selL_fin6 : ∀ (nb : Fin 7) (o : Fin 64), o.1 < 2 ^ nb.1 → selL (o.1 : Int) nb.1 = selL (o.1 : Int) 6 := by decide +kernel
theorem selL_nb {nb : Nat} (hn : nb ≤ 6) {b : Int} (b0 : 0 ≤ b) (b1 : b < 2 ^ nb) : selL b nb = selL b 6 := by
  have h6 := pow_le6 hn
  have e : ((b.toNat : Nat) : Int) = b := by omega
  have h := selL_fin6 ⟨nb, by omega⟩ ⟨b.toNat, by omega⟩ (by
    have : ((b.toNat : Nat) : Int) < 2 ^ nb := by rw [e]; exact b1
    exact_mod_cast this)
  simp only [e] at h
  exact h
theorem selL_nbmem {o : Int} {n j : Nat} : j ∈ selL o n ↔ j < n ∧ bitB o j = true := selL_mem o j n
structure YardD.ofL (y : YardD) (b : Int) (f : Nat → Int) : Prop where
  inn : ∀ i, i < y.nb → bitB b i = true → y.blo i ≤ f i ∧ f i ≤ y.bhi i
  out : ∀ i, i < y.nb → bitB b i = false → f i = -1
theorem len64 {y : YardD} (hf : y.Fit) {i : Nat} (hi : i < y.nb) {v : Int} (v0 : 0 ≤ v) (v9 : v ≤ 9) : sub64 (add64 v (y.lng i)) 1 = v + y.lng i - 1 := by
  have := hf.lng i hi
  rw [add64_in _ _ (by omega) (by omega), sub64_in _ _ (by omega) (by omega)]
theorem eR_mt {y : YardD} (hf : y.Fit) {b : Int} {f : Nat → Int} (h : y.ofL b f) {i : Nat} (hi : i < y.nb) (w : Int) : y.eR f i w = (bitB b i && y.mt f i w) := by
  unfold YardD.eR
  cases hb : bitB b i with
  | true =>
    have h1 := h.inn i hi hb
    have h2 := hf.beg i hi
    rw [decide_eq_true (by omega : 0 ≤ f i), len64 hf hi (by omega) (by omega)]
    rfl
  | false =>
    rw [h.out i hi hb]
    rfl
theorem cnt_busy {y : YardD} (hf : y.Fit) {b : Int} {f : Nat → Int} (h : y.ofL b f) (w : Int) : ∀ n, n ≤ y.nb → y.cntR f w n = y.busyP (selL b n) f w
  | 0, _ => rfl
  | n + 1, hn => by
    have ih := cnt_busy hf h w n (by omega)
    show (if y.eR f n w = true then y.cntR f w n + 1 else y.cntR f w n) = y.busyP (if bitB b n then selL b n ++ [n] else selL b n) f w
    rw [eR_mt hf h (by omega), ih]
    cases hb : bitB b n with
    | false => rfl
    | true =>
      rw [Bool.true_and, if_pos rfl, busy_append]
      unfold YardD.busyP
      cases hm : y.mt f n w with
      | true => rw [if_pos rfl]; simp [hm]
      | false => rw [if_neg (by decide)]; simp [hm]
theorem fit_sch {y : YardD} (hf : y.Fit) (hh : 0 ≤ y.hands) {b : Int} {f : Nat → Int} (h : y.ofL b f) : y.fitB f = true ↔ y.Sch (selL b y.nb) f := by
  rw [fitB_iff]
  constructor
  · rintro ⟨h1, h2⟩
    have hfin : ∀ c ∈ selL b y.nb, f c + y.lng c - 1 ≤ y.last := fun c hc => by
      obtain ⟨hc1, hc2⟩ := selL_nbmem.1 hc
      have h3 := h1 c hc1
      have h4 := h.inn c hc1 hc2
      have h5 := hf.beg c hc1
      unfold YardD.endR at h3
      rw [decide_eq_true (by omega : 0 ≤ f c), len64 hf hc1 (by omega) (by omega), Bool.true_and, decide_eq_false_iff_not] at h3
      omega
    have hw : ∀ c ∈ selL b y.nb, ∀ w, y.mt f c w = true → ∃ v : Nat, w = v ∧ (v : Int) ≤ y.last := fun c hc w hm => by
      obtain ⟨hc1, hc2⟩ := selL_nbmem.1 hc
      have h4 := h.inn c hc1 hc2
      have h5 := hf.beg c hc1
      have h6 := hfin c hc
      unfold YardD.mt at hm
      rw [Bool.and_eq_true, decide_eq_true_eq, decide_eq_true_eq] at hm
      exact ⟨w.toNat, by omega, by omega⟩
    refine ⟨fun c hc => ?_, hfin, fun w hw2 => ?_, fun c hc h0 hc1 w hm hm2 => ?_⟩
    · obtain ⟨hc1, hc2⟩ := selL_nbmem.1 hc
      exact h.inn c hc1 hc2
    · obtain ⟨c, hc, hm⟩ := hw2
      obtain ⟨v, rfl, hv⟩ := hw c hc w hm
      have := (h2 v hv).2
      rw [cnt_busy hf h _ _ (Nat.le_refl _)] at this
      exact this
    · obtain ⟨v, rfl, hv⟩ := hw c hc w hm
      obtain ⟨hc2, hc3⟩ := selL_nbmem.1 hc
      obtain ⟨hc4, hc5⟩ := selL_nbmem.1 hc1
      have := (h2 v hv).1 c hc2
      unfold YardD.adjR at this
      rw [eR_mt hf h hc2, eR_mt hf h hc4, hc3, hc5, hm, hm2, decide_eq_true h0] at this
      cases this
  · intro hs
    refine ⟨fun i hi => ?_, fun w hw => ⟨fun i hi => ?_, ?_⟩⟩
    · unfold YardD.endR
      cases hb : bitB b i with
      | true =>
        have h4 := h.inn i hi hb
        have h5 := hf.beg i hi
        have h6 := hs.fin i (selL_nbmem.2 ⟨hi, hb⟩)
        rw [len64 hf hi (by omega) (by omega), decide_eq_false (by omega : ¬ y.last < f i + y.lng i - 1), Bool.and_false]
      | false => rw [h.out i hi hb]; rfl
    · unfold YardD.adjR
      rw [eR_mt hf h hi, eR_mt hf h (by omega)]
      cases hb : bitB b i with
      | false => rfl
      | true =>
        cases hm : y.mt f i w with
        | false => rfl
        | true =>
          by_cases h0 : 0 < i
          · rw [decide_eq_true h0]
            cases hb1 : bitB b (i - 1) with
            | false => rfl
            | true =>
              have := hs.apt i (selL_nbmem.2 ⟨hi, hb⟩) h0 (selL_nbmem.2 ⟨by omega, hb1⟩) w hm
              cases hm2 : y.mt f (i - 1) w with
              | false => rfl
              | true => exact absurd hm2 this
          · rw [decide_eq_false h0]; rfl
    · rw [cnt_busy hf h _ _ (Nat.le_refl _)]
      by_cases hex : ∃ c ∈ selL b y.nb, y.mt f c w = true
      · exact hs.few w hex
      · have hz : y.busyP (selL b y.nb) f w = 0 := by
          unfold YardD.busyP
          rw [List.length_eq_zero_iff, List.filter_eq_nil_iff]
          intro c hc hm
          exact hex ⟨c, hc, hm⟩
        rw [hz]
        exact hh
theorem sch_congr {y : YardD} {L : List Nat} {f g : Nat → Int} (h : ∀ i ∈ L, f i = g i) (hs : y.Sch L f) : y.Sch L g := by
  refine ⟨fun c hc => ?_, fun c hc => ?_, fun w hw => ?_, fun c hc h0 hc1 w hm hm2 => ?_⟩
  · rw [← h c hc]; exact hs.rng c hc
  · rw [← h c hc]; exact hs.fin c hc
  · obtain ⟨c, hc, hm⟩ := hw
    rw [← busy_congr y h]
    exact hs.few w ⟨c, hc, by rw [mt_congr y (h c hc)]; exact hm⟩
  · rw [← mt_congr y (h c hc)] at hm
    rw [← mt_congr y (h _ hc1)] at hm2
    exact hs.apt c hc h0 hc1 w hm hm2
theorem ofL_nF {y : YardD} (hf : y.Fit) {b n : Int} (n0 : 0 ≤ n) (n1 : n ≤ 4000) : y.ofL b (y.nF b n) := ⟨fun i hi hb => nF_rng hf n0 n1 hi hb, fun i hi hb => by rw [nF_q hf n0 n1 hi, hb]; rfl⟩
end Go.Fz
set_option linter.unusedVariables false
namespace Go.Fz
open Go.Proofs
set_option maxRecDepth 100000
theorem all6_fin : ∀ n : Fin 7, selL (allI n.1) 6 = List.range n.1 ∧ 0 ≤ allI n.1 ∧ allI n.1 < 2 ^ n.1 ∧ allI n.1 = 2 ^ n.1 - 1 := by decide +kernel
end Go.Fz
set_option linter.unusedVariables false
namespace Go.Fz
open Go.Proofs
set_option maxRecDepth 100000
end Go.Fz
set_option linter.unusedVariables false
namespace Go.Fz
open Go.Proofs
set_option maxRecDepth 100000
end Go.Fz
set_option linter.unusedVariables false
set_option linter.unusedSimpArgs false
namespace Go.Fz
open Go.Proofs
set_option maxRecDepth 100000
def YardD.rm (y : YardD) (f : Nat → Int) : Nat → Int
  | 0 => 0
  | i + 1 => if y.rgt f i = true then std.bin .or .i64 (y.rm f i) (std.bin .shl .i64 1 (std.conv .u64 (Int.ofNat i))) else y.rm f i
set_option maxHeartbeats 8000000 in
theorem right_ok (y : YardD) (n : Nat) (ex : Bool) (f : Nat → Int) (hnc : y.nc < 1000) (hcb : ∀ i, i < y.nc → 0 ≤ y.cb i ∧ y.cb i < n) : Pure Try.prog 68 [yardV y, intsV n ex f] (iV (y.rm f y.nc)) := by
  obtain ⟨O, hO⟩ : ∃ O : Ar, O = std := ⟨_, rfl⟩
  have hnat : ∀ i : Nat, O.nat (Int.ofNat i) = i := fun i => by subst hO; rfl
  have hR : ∀ i, y.rm f (i + 1) = if y.rgt f i = true then O.bin .or .i64 (y.rm f i) (O.bin .shl .i64 1 (O.conv .u64 (Int.ofNat i))) else y.rm f i := fun i => by subst hO; rfl
  have hR0 : y.rm f 0 = 0 := rfl
  have hg : ∀ i, y.rgt f i = inB (f (O.nat (y.cb i))) (y.clo i) (y.chi i) := fun i => by subst hO; rfl
  generalize y.rm f = R at hR hR0 ⊢
  generalize y.rgt f = T at hR hg
  have hb0 : ObjBelow 1 (.cells none false (yardC y)) := ⟨AllB.ok ⟨Below.lit, Below.lit, Below.up (m := 0) (bedsV_below y), Below.up (m := 0) (clmsV_below y), trivial⟩, fun f h => by cases h⟩
  refine pure_of_body tok 3 Try.func68 en68 rfl ⟨yardV_below y, intsV_below _ _ _, trivial⟩ Below.lit ?_
  refine SW.seqRun tok hO (by cbv <;> rfl) (by trivial) ?_
  refine SW.seqRun tok hO (by cbv <;> rfl) (by trivial) ?_
  refine SW.seq ?_
  refine SW.seqRun tok hO (by cbv <;> rfl) (by trivial) ?_
  refine (SW.block (SW.loopF (fun i : Nat => ⟨⟨38, getT [(1, intsV n ex f), (2, .ptr 0 0), (5, iV (R i)), (6, iV i)]⟩, []⟩) (fun _ => ⟨[(0, .cells none false (yardC y))], 1⟩) (fun i => y.nc - i) (fun i => i ≤ y.nc) 0
    (fun _ => rfl) (Nat.zero_le _) (Weak.by rfl rfl (by simp) (Nat.le_refl _) (Nat.le_refl _) ⟨⟨rfl, .inl rfl⟩, ⟨rfl, .inl rfl⟩, ⟨by rw [hR0]; rfl, .inl rfl⟩, ⟨rfl, .inl rfl⟩, trivial⟩ ⟨⟨rfl, by omega, .inl rfl⟩, trivial⟩) fun i hi => ?_))
  have hRi := hR i
  obtain ⟨r, hr⟩ : ∃ r, R i = r := ⟨_, rfl⟩
  rw [hr] at hRi
  show SW _ _ _ _ ⟨⟨38, getT [(1, intsV n ex f), (2, .ptr 0 0), (5, iV (R i)), (6, iV i)]⟩, []⟩ _
  rw [hr]
  refine SW.seq ?_
  refine SW.seqRun tok hO (by cbv <;> rfl) (by trivial) ?_
  refine SW.condS (by cbv <;> rfl) (fun h => SW.skip ?_) (fun h => SW.exit ?_)
  · have hlt : i < y.nc := by
      have : (i : Int) < (y.nc : Int) := by subst hO; simpa [std] using h
      omega
    have k0 : (0 : Int) ≤ Int.ofNat i := Int.natCast_nonneg i
    have kN : Int.ofNat i < Int.ofNat y.nc := Int.ofNat_lt.2 hlt
    have hni : O.nat (Int.ofNat i) = i := hnat i
    have hcv := conv0 hO (Nat.lt_trans hlt hnc)
    have hc : 0 ≤ y.cb (O.nat (Int.ofNat i)) ∧ y.cb (O.nat (Int.ofNat i)) < Int.ofNat n := by rw [hni]; exact hcb i hlt
    have hgi := hg i
    have e29 := in_ok (f (O.nat (y.cb (O.nat (Int.ofNat i))))) (y.clo (O.nat (Int.ofNat i))) (y.chi (O.nat (Int.ofNat i)))
    rw [← hni] at hgi
    rw [← hgi, hni] at e29
    rw [hni] at hgi
    have e29 : Pure Try.prog 29 [iV (f (O.nat (y.cb (O.nat (Int.ofNat i))))), iV (y.clo (O.nat (Int.ofNat i))), iV (y.chi (O.nat (Int.ofNat i)))] (.sb (T i)) := by rw [hni]; exact e29
    obtain ⟨B, hB⟩ : ∃ B, T i = B := ⟨_, rfl⟩
    rw [hB] at e29 hRi
    have hbig : i < 4611686018427387904 := by omega
    refine SW.seq (SW.block ?_)
    refine SW.seqRun tok hO (by cbv <;> rfl) (by exact ⟨k0, kN⟩) ?_
    refine SW.seqRunD tok mixed hO (by kernel_rfl) (by cbv <;> rfl) (by exact hc) ?_
    refine AnyE.callP e29 (by cbv <;> rfl) (by cbv <;> rfl) ?_
    refine AnyE.done (by kernel_rfl) ?_
    refine SW.condS (by cbv <;> rfl) (fun h2 => ?_) (fun h2 => SW.skip ?_)
    · rw [show B = true from h2, if_pos rfl] at hRi
      refine SW.run tok hO (by cbv <;> rfl) (by repeat (first | exact trivial | exact hcv | refine ⟨?_, ?_⟩)) ?_
      refine SW.run tok hO (by cbv <;> rfl) (by trivial) ?_
      exact ⟨i + 1, by omega, by omega, Weak.by rfl rfl (by simp) (Nat.le_refl _) (by show 1 ≤ 2; omega) ⟨⟨rfl, .inr (Below.up (m := 0) (intsV_below _ _ _))⟩, ⟨rfl, .inr (Below.ptr (by omega))⟩, ⟨by rw [hRi]; rfl, .inr Below.lit⟩, ⟨inc_ok hO hbig, .inr Below.lit⟩, trivial⟩ ⟨⟨rfl, by omega, .inr hb0⟩, trivial⟩⟩
    · rw [show B = false from h2, if_neg (by decide)] at hRi
      refine SW.run tok hO (by cbv <;> rfl) (by trivial) ?_
      exact ⟨i + 1, by omega, by omega, Weak.by rfl rfl (by simp) (Nat.le_refl _) (by show 1 ≤ 2; omega) ⟨⟨rfl, .inr (Below.up (m := 0) (intsV_below _ _ _))⟩, ⟨rfl, .inr (Below.ptr (by omega))⟩, ⟨by rw [hRi]; rfl, .inr Below.lit⟩, ⟨inc_ok hO hbig, .inr Below.lit⟩, trivial⟩ ⟨⟨rfl, by omega, .inr hb0⟩, trivial⟩⟩
  · have hz : i = y.nc := by
      have : (y.nc : Int) ≤ (i : Int) := by subst hO; simpa [std] using h
      omega
    subst hz
    refine SW.seqRun tok hO (by cbv <;> rfl) (by trivial) ?_
    exact SW.ret ⟨_, _, rfl, rfl, Eqv.int hr.symm⟩
def lls (n : Nat) (S : List (Nat → Int)) : Nat → Nat → AV := fun i _ => intsV n false (S.getD i f0)
def llV (n : Nat) (S : List (Nat → Int)) : AV := .isl S.length 1 false (lls n S)
theorem lls_below (n : Nat) (S : List (Nat → Int)) (i k : Nat) : Below 0 (lls n S i k) := intsV_below _ _ _
theorem llV_below (n : Nat) (S : List (Nat → Int)) : Below 0 (llV n S) := Below.isl fun i k _ _ => lls_below n S i k
theorem lls_snoc (n : Nat) (S : List (Nat → Int)) (f : Nat → Int) : flatG 1 (lls n S) S.length ++ [intsV n false f] = flatG 1 (lls n (S ++ [f])) (S.length + 1) := by
  have h1 : flatG 1 (lls n (S ++ [f])) S.length = flatG 1 (lls n S) S.length := flatG_congr fun j k hj => by
    show intsV n false ((S ++ [f]).getD j f0) = intsV n false (S.getD j f0)
    rw [List.getD_eq_getElem?_getD, List.getElem?_append_left hj, ← List.getD_eq_getElem?_getD]
  have h2 : (S ++ [f]).getD S.length f0 = f := by simp
  show _ = flatG 1 (lls n (S ++ [f])) S.length ++ [intsV n false ((S ++ [f]).getD S.length f0)]
  rw [h1, h2]
def pickS (p : Nat → Bool) (g : Nat → Nat → Int) : Nat → List (Nat → Int)
  | 0 => []
  | i + 1 => if p i = true then pickS p g i ++ [g i] else pickS p g i
theorem pickS_len (p : Nat → Bool) (g : Nat → Nat → Int) : ∀ i, (pickS p g i).length ≤ i
  | 0 => Nat.le_refl _
  | i + 1 => by
    have := pickS_len p g i
    unfold pickS
    split
    · rw [List.length_append, List.length_singleton]; omega
    · omega
theorem mem_pickS {p : Nat → Bool} {g : Nat → Nat → Int} {f : Nat → Int} : ∀ {n}, f ∈ pickS p g n ↔ ∃ i, i < n ∧ p i = true ∧ g i = f
  | 0 => ⟨fun h => (by cases h), fun ⟨i, h1, _⟩ => absurd h1 (Nat.not_lt_zero _)⟩
  | n + 1 => by
    have ih := mem_pickS (p := p) (g := g) (f := f) (n := n)
    unfold pickS
    split
    · rename_i hp
      rw [List.mem_append, List.mem_singleton, ih]
      constructor
      · rintro (⟨i, h1, h2, h3⟩ | h)
        · exact ⟨i, by omega, h2, h3⟩
        · exact ⟨n, by omega, hp, h.symm⟩
      · rintro ⟨i, h1, h2, h3⟩
        by_cases e : i = n
        · subst e; exact .inr h3.symm
        · exact .inl ⟨i, by omega, h2, h3⟩
    · rename_i hp
      rw [ih]
      constructor
      · rintro ⟨i, h1, h2, h3⟩; exact ⟨i, by omega, h2, h3⟩
      · rintro ⟨i, h1, h2, h3⟩
        by_cases e : i = n
        · subst e; exact absurd h2 hp
        · exact ⟨i, by omega, h2, h3⟩
set_option maxHeartbeats 16000000 in
theorem claimed_ok (y : YardD) (nb : Nat) (S : List (Nat → Int)) (c : Int) (hS : S.length < 1000000) (hnc : y.nc < 1000) (hcb : ∀ i, i < y.nc → 0 ≤ y.cb i ∧ y.cb i < nb) : Pure Try.prog 69 [yardV y, llV nb S, iV c] (llV nb (pickS (fun i => decide (std.bin .and .i64 (y.rm (S.getD i f0) y.nc) c = c)) (fun i => S.getD i f0) S.length)) := by
  obtain ⟨O, hO⟩ : ∃ O : Ar, O = std := ⟨_, rfl⟩
  have hnat : ∀ i : Nat, O.nat (Int.ofNat i) = i := fun i => by subst hO; rfl
  have e68 := fun i : Nat => right_ok y nb false (S.getD i f0) hnc hcb
  obtain ⟨P, hP⟩ : ∃ P : Nat → Bool, P = fun i => decide (std.bin .and .i64 (y.rm (S.getD i f0) y.nc) c = c) := ⟨_, rfl⟩
  rw [← hP]
  have hPi : ∀ i, O.cmp .eql (O.bin .and .i64 (y.rm (S.getD i f0) y.nc) c) c = P i := fun i => by rw [hP]; subst hO; rfl
  obtain ⟨N, hN⟩ : ∃ N, S.length = N := ⟨_, rfl⟩
  have hLV : llV nb S = .isl N 1 false (fun i _ => intsV nb false (S.getD i f0)) := by unfold llV; rw [hN]; rfl
  have hLb := llV_below nb S
  rw [hLV] at hLb ⊢
  rw [hN] at hS ⊢
  obtain ⟨A, hA⟩ : ∃ A : Nat → Nat → Int, A = fun i => S.getD i f0 := ⟨_, rfl⟩
  have hC0 : pickS P (fun i => S.getD i f0) 0 = [] := rfl
  have hC : ∀ i, pickS P (fun i => S.getD i f0) (i + 1) = if P i = true then pickS P (fun i => S.getD i f0) i ++ [A i] else pickS P (fun i => S.getD i f0) i := fun i => by rw [hA]; rfl
  have hCL := pickS_len P (fun i => S.getD i f0)
  generalize pickS P (fun i => S.getD i f0) = C at hC0 hC hCL ⊢
  have e68 : ∀ i : Nat, Pure Try.prog 68 [yardV y, intsV nb false (A (O.nat (Int.ofNat i)))] (iV (y.rm (A i) y.nc)) := fun i => by rw [hA, hnat]; exact e68 i
  have hPi : ∀ i, O.cmp .eql (O.bin .and .i64 (y.rm (A i) y.nc) c) c = P i := fun i => by rw [hA]; exact hPi i
  have hfun : (fun i _ => intsV nb false (S.getD i f0) : Nat → Nat → AV) = fun i _ => intsV nb false (A i) := by rw [hA]
  rw [hfun] at hLb ⊢
  obtain ⟨RM, hRM⟩ : ∃ R : Nat → Int, R = fun i => y.rm (A i) y.nc := ⟨_, rfl⟩
  have e68 : ∀ i : Nat, Pure Try.prog 68 [yardV y, intsV nb false (A (O.nat (Int.ofNat i)))] (iV (RM i)) := fun i => by rw [hRM]; exact e68 i
  have hPi : ∀ i, O.cmp .eql (O.bin .and .i64 (RM i) c) c = P i := fun i => by rw [hRM]; exact hPi i
  clear hA hP hLV hfun hRM
  refine pure_of_body tok 3 Try.func69 en69 rfl ⟨yardV_below y, hLb, Below.lit, trivial⟩ (llV_below _ _) ?_
  refine SW.seqRun tok hO (by cbv <;> rfl) (by trivial) ?_
  refine SW.seqRun tok hO (by cbv <;> rfl) (by trivial) ?_
  refine SW.seq ?_
  refine SW.seqRun tok hO (by cbv <;> rfl) (by trivial) ?_
  refine (SW.block (SW.loopR (fun i : Nat => ⟨⟨33, getT [(1, .isl N 1 false (fun i _ => intsV nb false (A i))), (2, iV c), (3, .ptr 0 0), (7, slG 1 1 (C i).length), (8, iV i)]⟩, []⟩) (fun i => ⟨[(0, .cells none false (yardC y))] ++ objG 1 1 (lls nb (C i)) (C i).length, 2⟩) (fun i => N - i) (fun i => i ≤ N) 0 (Nat.zero_le _) (ren1 1 1) ?_ fun i hi => ?_))
  · rw [hC0]
    exact WeakR.up rfl rfl (by simp) (Nat.le_refl _) (.inl rfl) (by show 1 ≤ 2; omega) ⟨RenV.closed hLb, RenV.closed Below.lit, RenV.ptr (by omega), RenV.closed Below.lit, RenV.closed Below.lit, trivial⟩ ⟨⟨by omega, _, rfl, .cells (RenVs.closed (yardC_below y)), .inr rfl⟩, trivial⟩ (fun p hp => by cases hp)
  have hCi := hC i
  have hCl := hCL i
  have hbig : i < 4611686018427387904 := by omega
  have hsn := fun f => lls_snoc nb (C i) f
  have hgo : ∀ (f' : Fm) (st' : St) (ρ : Nat → Nat), i < N → WeakR 1 ρ f' st' ⟨⟨33, getT [(1, .isl N 1 false (fun i _ => intsV nb false (A i))), (2, iV c), (3, .ptr 0 0), (7, slG 1 1 (C (i + 1)).length), (8, iV ((i + 1 : Nat) : Int))]⟩, []⟩ ⟨[(0, .cells none false (yardC y))] ++ objG 1 1 (lls nb (C (i + 1))) (C (i + 1)).length, 2⟩ → ∃ x', N - x' < N - i ∧ x' ≤ N ∧ ∃ ρ, WeakR 1 ρ f' st' ⟨⟨33, getT [(1, .isl N 1 false (fun i _ => intsV nb false (A i))), (2, iV c), (3, .ptr 0 0), (7, slG 1 1 (C x').length), (8, iV (x' : Nat))]⟩, []⟩ ⟨[(0, .cells none false (yardC y))] ++ objG 1 1 (lls nb (C x')) (C x').length, 2⟩ := fun f' st' ρ h1 h => ⟨i + 1, by omega, by omega, ρ, h⟩
  obtain ⟨L, hL⟩ : ∃ L, C i = L := ⟨_, rfl⟩
  rw [hL] at hCi hCl hsn
  show SW _ _ _ _ ⟨⟨33, getT [(1, .isl N 1 false (fun i _ => intsV nb false (A i))), (2, iV c), (3, .ptr 0 0), (7, slG 1 1 (C i).length), (8, iV i)]⟩, []⟩ ⟨[(0, .cells none false (yardC y))] ++ objG 1 1 (lls nb (C i)) (C i).length, 2⟩
  rw [hL]
  have hend : ∀ (h : Hp) (G : List AV), i = N → (L.length = 0 ∨ ∃ m, L.length = m + 1 ∧ G = flatG 1 (lls nb L) (m + 1) ∧ h.get 1 = some (.cells none false G)) → Eqv (frz h (fun _ => true) 3 (slG 1 1 L.length)) (llV nb (C N)) := fun h G hiN hq => by
    rw [← hiN, hL]
    unfold llV
    rcases hq with hq | ⟨m, hm, hG, hg⟩
    · rw [hq]; exact Eqv.nil
    · rw [hm]
      show Eqv (frz _ _ 3 (.sl 1 0 (m + 1) 1 false)) _
      rw [frz_slE (fm := none) (G := G) rfl hg (by rw [hG, flatG_length]; omega)]
      exact Eqv.isl rfl fun i' k hi' hk => Eqv.of (by rw [hG]; exact frz_flat hi' hk rfl)
  clear hC hC0 hCL
  generalize hLL : lls nb L = LL at hsn hend
  cases hm : L.length with
  | zero =>
    show SW _ _ _ _ ⟨⟨33, getT [(1, .isl N 1 false (fun i _ => intsV nb false (A i))), (2, iV c), (3, .ptr 0 0), (7, nl3), (8, iV (Int.ofNat i))]⟩, []⟩ ⟨[(0, .cells none false (yardC y))], 2⟩
    refine SW.seq ?_
    refine SW.seqRun tok hO (by cbv <;> rfl) (by trivial) ?_
    refine SW.condS (by cbv <;> rfl) (fun h => SW.skip ?_) (fun h => SW.exit ?_)
    · have hlt : i < N := by
        subst hO; simpa [std] using h
      have k0 : (0 : Int) ≤ Int.ofNat i := Int.natCast_nonneg i
      have kN : Int.ofNat i < Int.ofNat N := Int.ofNat_lt.2 hlt
      have hni := hnat i
      have e68 := e68 i
      have hPi := hPi i
      refine SW.seq (SW.block ?_)
      refine SW.seqRunD tok mixed hO (by kernel_rfl) (by cbv <;> rfl) (by repeat (first | exact trivial | exact k0 | exact kN | refine ⟨?_, ?_⟩)) ?_
      refine AnyE.callP e68 (by cbv <;> rfl) (by cbv <;> rfl) ?_
      refine AnyE.run tok hO (by kernel_rfl) (by cbv <;> rfl) (by trivial) ?_
      refine AnyE.dec tok hO (by kernel_rfl) (by cbv <;> rfl) (by trivial) (fun h2 => ?_) (fun h2 => ?_)
      · have h2e : P i = true := hPi.symm.trans h2
        refine AnyE.done (by kernel_rfl) ?_
        refine SW.cond (t := true) (by cbv <;> rfl) ?_
        rw [h2e, if_pos rfl] at hCi
        have hCi : C (i + 1) = L ++ [A (O.nat (Int.ofNat i))] := by rw [hni]; exact hCi
        refine SW.runN tok hO 6 (by cbv <;> rfl) (by exact ⟨k0, kN⟩) ?_
        refine OpsW.appNil tok (by cbv <;> rfl) (by rfl) (by kernel_rfl) (by rfl) (by rfl) ?_
        refine OpsW.run tok hO (by cbv <;> rfl) (by trivial) ?_
        refine SW.run tok hO (by cbv <;> rfl) (by trivial) ?_
        refine hgo _ _ (ren1 1 3) hlt ?_
        rw [hCi, List.length_append, List.length_singleton, hm]
        refine WeakR.up rfl rfl (by simp) (Nat.le_refl _) (.inr (by omega)) (by show 1 ≤ 2; omega) ⟨RenV.closed hLb, RenV.closed Below.lit, RenV.ptr (by omega), RenV.sl (by omega), RenV.inc hO hbig, trivial⟩ ⟨⟨by omega, _, rfl, .cells (RenVs.closed (yardC_below y)), .inr rfl⟩, trivial⟩ (fun p hp => ?_)
        obtain rfl := objG_mem hp
        refine ⟨by omega, _, rfl, .cells (RenVs.of_eq ?_ (flatG_below (lls_below nb _) _)), .inl rfl⟩
        have := hsn (A (O.nat (Int.ofNat i)))
        rw [hm] at this
        exact this
      · have h2e : P i = false := hPi.symm.trans h2
        refine AnyE.done (by kernel_rfl) ?_
        refine SW.cond (t := false) (by cbv <;> rfl) (SW.skip ?_)
        rw [h2e, if_neg (by decide)] at hCi
        refine SW.run tok hO (by cbv <;> rfl) (by trivial) ?_
        refine hgo _ _ (ren1 1 1) hlt ?_
        rw [hCi, hm]
        exact WeakR.up rfl rfl (by simp) (Nat.le_refl _) (.inl rfl) (by show 1 ≤ 2; omega) ⟨RenV.closed hLb, RenV.closed Below.lit, RenV.ptr (by omega), RenV.closed Below.lit, RenV.inc hO hbig, trivial⟩ ⟨⟨by omega, _, rfl, .cells (RenVs.closed (yardC_below y)), .inr rfl⟩, trivial⟩ (fun p hp => by cases hp)
    · have hge : i = N := by
        have : ¬ i < N := fun hq => by exact absurd (show O.cmp .lss (Int.ofNat i) (Int.ofNat N) = true by subst hO; simpa [std] using hq) (by rw [show O.cmp .lss (Int.ofNat i) (Int.ofNat N) = false from h]; decide)
        omega
      refine SW.seqRun tok hO (by cbv <;> rfl) (by trivial) ?_
      refine SW.ret ⟨_, _, rfl, rfl, ?_⟩
      have := hend [(0, .cells none false (yardC y))] [] hge (.inl hm)
      rw [hm] at this
      exact this
  | succ m =>
    obtain ⟨G, hG⟩ : ∃ G, G = flatG 1 LL (m + 1) := ⟨_, rfl⟩
    show SW _ _ _ _ ⟨⟨33, getT [(1, .isl N 1 false (fun i _ => intsV nb false (A i))), (2, iV c), (3, .ptr 0 0), (7, .sl 1 0 (m + 1) 1 false), (8, iV (Int.ofNat i))]⟩, []⟩ ⟨[(0, .cells none false (yardC y)), (1, .cells none false (flatG 1 LL (m + 1)))], 2⟩
    rw [← hG]
    refine SW.seq ?_
    refine SW.seqRun tok hO (by cbv <;> rfl) (by trivial) ?_
    refine SW.condS (by cbv <;> rfl) (fun h => SW.skip ?_) (fun h => SW.exit ?_)
    · have hlt : i < N := by
        subst hO; simpa [std] using h
      have k0 : (0 : Int) ≤ Int.ofNat i := Int.natCast_nonneg i
      have kN : Int.ofNat i < Int.ofNat N := Int.ofNat_lt.2 hlt
      have hni := hnat i
      have e68 := e68 i
      have hPi := hPi i
      refine SW.seq (SW.block ?_)
      refine SW.seqRunD tok mixed hO (by kernel_rfl) (by cbv <;> rfl) (by repeat (first | exact trivial | exact k0 | exact kN | refine ⟨?_, ?_⟩)) ?_
      refine AnyE.callP e68 (by cbv <;> rfl) (by cbv <;> rfl) ?_
      refine AnyE.run tok hO (by kernel_rfl) (by cbv <;> rfl) (by trivial) ?_
      refine AnyE.dec tok hO (by kernel_rfl) (by cbv <;> rfl) (by trivial) (fun h2 => ?_) (fun h2 => ?_)
      · have h2e : P i = true := hPi.symm.trans h2
        refine AnyE.done (by kernel_rfl) ?_
        refine SW.cond (t := true) (by cbv <;> rfl) ?_
        rw [h2e, if_pos rfl] at hCi
        have hCi : C (i + 1) = L ++ [A (O.nat (Int.ofNat i))] := by rw [hni]; exact hCi
        refine SW.runN tok hO 6 (by cbv <;> rfl) (by exact ⟨k0, kN⟩) ?_
        refine OpsW.appOne (g := LL) tok (by cbv <;> rfl) (by rfl) (by rfl) hG (by kernel_rfl) (by rfl) (by rfl) (by omega) fun G' hG' => ?_
        refine OpsW.run tok hO (by cbv <;> rfl) (by trivial) ?_
        refine SW.run tok hO (by cbv <;> rfl) (by trivial) ?_
        refine hgo _ _ (ren1 1 3) hlt ?_
        rw [hCi, List.length_append, List.length_singleton, hm]
        refine WeakR.up rfl rfl (by simp) (Nat.le_refl _) (.inr (by omega)) (by show 1 ≤ 2; omega) ⟨RenV.closed hLb, RenV.closed Below.lit, RenV.ptr (by omega), RenV.sl (by omega), RenV.inc hO hbig, trivial⟩ ⟨⟨by omega, _, rfl, .cells (RenVs.closed (yardC_below y)), .inr rfl⟩, trivial⟩ (fun p hp => ?_)
        obtain rfl := objG_mem hp
        refine ⟨by omega, _, rfl, .cells (RenVs.of_eq ?_ (flatG_below (lls_below nb _) _)), .inl rfl⟩
        have := hsn (A (O.nat (Int.ofNat i)))
        rw [hm] at this
        exact hG'.trans this
      · have h2e : P i = false := hPi.symm.trans h2
        refine AnyE.done (by kernel_rfl) ?_
        refine SW.cond (t := false) (by cbv <;> rfl) (SW.skip ?_)
        rw [h2e, if_neg (by decide)] at hCi
        refine SW.run tok hO (by cbv <;> rfl) (by trivial) ?_
        refine hgo _ _ (ren1 1 1) hlt ?_
        rw [hCi, hm]
        refine WeakR.up rfl rfl (by simp) (Nat.le_refl _) (.inl rfl) (by show 1 ≤ 2; omega) ⟨RenV.closed hLb, RenV.closed Below.lit, RenV.ptr (by omega), RenV.sl (by omega), RenV.inc hO hbig, trivial⟩ ⟨⟨by omega, _, rfl, .cells (RenVs.closed (yardC_below y)), .inr rfl⟩, trivial⟩ (fun p hp => ?_)
        obtain rfl := objG_mem hp
        exact ⟨by omega, _, rfl, .cells (RenVs.of_eq (by rw [hG, ← hLL]) (flatG_below (lls_below nb _) _)), .inl rfl⟩
    · have hge : i = N := by
        have : ¬ i < N := fun hq => by exact absurd (show O.cmp .lss (Int.ofNat i) (Int.ofNat N) = true by subst hO; simpa [std] using hq) (by rw [show O.cmp .lss (Int.ofNat i) (Int.ofNat N) = false from h]; decide)
        omega
      refine SW.seqRun tok hO (by cbv <;> rfl) (by trivial) ?_
      refine SW.ret ⟨_, _, rfl, rfl, ?_⟩
      have := hend [(0, .cells none false (yardC y)), (1, .cells none false G)] G hge (.inr ⟨m, hm, hG, rfl⟩)
      rw [hm] at this
      exact this
end Go.Fz
set_option linter.unusedVariables false
set_option linter.unusedSimpArgs false
namespace Go.Fz
open Go.Proofs
set_option maxRecDepth 100000
def YardD.schR (y : YardD) : List (Nat → Int) := pickS (fun i => y.fitB (y.nF (allI y.nb) (Int.ofNat i))) (fun i => y.nF (allI y.nb) (Int.ofNat i)) (mnB y.blo y.bhi (allI y.nb) y.nb).toNat
set_option maxHeartbeats 16000000 in
theorem schR_ok {y : YardD} (hc : y.check = 0) : Pure Try.prog 86 [yardV y] (llV y.nb y.schR) := by
  obtain ⟨O, hO⟩ : ∃ O : Ar, O = std := ⟨_, rfl⟩
  have hnat : ∀ i : Nat, O.nat (Int.ofNat i) = i := fun i => by subst hO; rfl
  obtain ⟨hf, _, l9, _⟩ := y.fit_of_check hc
  have hn := hf.nb
  obtain ⟨_, a2, a3, _⟩ := all6_fin ⟨y.nb, by omega⟩
  have h64 := pow_le6 hn
  have e47 := all_ok y (by omega)
  have e48 := many_ok y (allI y.nb) (by omega)
  have e46 := fun i : Nat => nth_ok y hf (allI y.nb) (Int.ofNat i) a2 (Int.lt_of_lt_of_le a3 h64)
  have e67 := fun i : Nat => fits_ok y l9 (by omega) false (y.nF (allI y.nb) (Int.ofNat i))
  have hM : mnB y.blo y.bhi (allI y.nb) y.nb ≤ 2000 := by
    obtain ⟨h1, h2⟩ := many_small hc (allI y.nb)
    rw [h1]; exact h2
  unfold YardD.schR
  obtain ⟨A, hA⟩ : ∃ A : Nat → Nat → Int, A = fun i => y.nF (allI y.nb) (Int.ofNat i) := ⟨_, rfl⟩
  obtain ⟨P, hP⟩ : ∃ P : Nat → Bool, P = fun i => y.fitB (y.nF (allI y.nb) (Int.ofNat i)) := ⟨_, rfl⟩
  rw [← hA, ← hP]
  have e46 : ∀ i : Nat, Pure Try.prog 46 [yardV y, iV (allI y.nb), iV (Int.ofNat i)] (intsV y.nb false (A i)) := fun i => by rw [hA]; exact e46 i
  have e67 : ∀ i : Nat, Pure Try.prog 67 [yardV y, intsV y.nb false (A i)] (.sb (P i)) := fun i => by rw [hA, hP]; exact e67 i
  generalize mnB y.blo y.bhi (allI y.nb) y.nb = M at e48 hM ⊢
  generalize allI y.nb = AI at e47 e48 e46
  obtain ⟨N, hN⟩ : ∃ N : Nat, M.toNat = N := ⟨_, rfl⟩
  rw [hN]
  have hlN : ∀ i : Nat, (Int.ofNat i < M ↔ i < N) := fun i => by
    have e : (Int.ofNat i : Int) = (i : Int) := rfl
    rw [e]; omega
  have hS : N < 1000000 := by omega
  have hC0 : pickS P A 0 = [] := rfl
  have hC : ∀ i, pickS P A (i + 1) = if P i = true then pickS P A i ++ [A i] else pickS P A i := fun i => rfl
  have hCL := pickS_len P A
  generalize pickS P A = C at hC0 hC hCL ⊢
  obtain ⟨nb, hnb⟩ : ∃ nb, nb = y.nb := ⟨_, rfl⟩
  have e46 : ∀ i : Nat, Pure Try.prog 46 [yardV y, iV AI, iV (Int.ofNat i)] (intsV nb false (A i)) := fun i => by rw [hnb]; exact e46 i
  have e67 : ∀ i : Nat, Pure Try.prog 67 [yardV y, intsV nb false (A i)] (.sb (P i)) := fun i => by rw [hnb]; exact e67 i
  rw [← hnb]
  clear hA hP hN hnb
  refine pure_of_body tok 3 Try.func86 en86 rfl ⟨yardV_below y, trivial⟩ (llV_below _ _) ?_
  refine SW.seqRun tok hO (by cbv <;> rfl) (by trivial) ?_
  refine SW.seqRun tok hO (by cbv <;> rfl) (by trivial) ?_
  refine SW.seq ?_
  refine SW.seqRun tok hO (by cbv <;> rfl) (by trivial) ?_
  refine (SW.block (SW.loopR (fun i : Nat => ⟨⟨27, getT [(1, .ptr 0 0), (3, slG 1 1 (C i).length), (4, iV i)]⟩, []⟩) (fun i => ⟨[(0, .cells none false (yardC y))] ++ objG 1 1 (lls nb (C i)) (C i).length, 2⟩) (fun i => N - i) (fun i => i ≤ N) 0 (Nat.zero_le _) (ren1 1 1) ?_ fun i hi => ?_))
  · rw [hC0]
    exact WeakR.up rfl rfl (by simp) (Nat.le_refl _) (.inl rfl) (by show 1 ≤ 2; omega) ⟨RenV.ptr (by omega), RenV.closed Below.lit, RenV.closed Below.lit, trivial⟩ ⟨⟨by omega, _, rfl, .cells (RenVs.closed (yardC_below y)), .inr rfl⟩, trivial⟩ (fun p hp => by cases hp)
  have hCi := hC i
  have hCl := hCL i
  have hbig : i < 4611686018427387904 := by omega
  have hsn := fun f => lls_snoc nb (C i) f
  have hgo : ∀ (f' : Fm) (st' : St) (ρ : Nat → Nat), i < N → WeakR 1 ρ f' st' ⟨⟨27, getT [(1, .ptr 0 0), (3, slG 1 1 (C (i + 1)).length), (4, iV ((i + 1 : Nat) : Int))]⟩, []⟩ ⟨[(0, .cells none false (yardC y))] ++ objG 1 1 (lls nb (C (i + 1))) (C (i + 1)).length, 2⟩ → ∃ x', N - x' < N - i ∧ x' ≤ N ∧ ∃ ρ, WeakR 1 ρ f' st' ⟨⟨27, getT [(1, .ptr 0 0), (3, slG 1 1 (C x').length), (4, iV (x' : Nat))]⟩, []⟩ ⟨[(0, .cells none false (yardC y))] ++ objG 1 1 (lls nb (C x')) (C x').length, 2⟩ := fun f' st' ρ h1 h => ⟨i + 1, by omega, by omega, ρ, h⟩
  obtain ⟨L, hL⟩ : ∃ L, C i = L := ⟨_, rfl⟩
  rw [hL] at hCi hCl hsn
  show SW _ _ _ _ ⟨⟨27, getT [(1, .ptr 0 0), (3, slG 1 1 (C i).length), (4, iV i)]⟩, []⟩ ⟨[(0, .cells none false (yardC y))] ++ objG 1 1 (lls nb (C i)) (C i).length, 2⟩
  rw [hL]
  have hend : ∀ (h : Hp) (G : List AV), i = N → (L.length = 0 ∨ ∃ m, L.length = m + 1 ∧ G = flatG 1 (lls nb L) (m + 1) ∧ h.get 1 = some (.cells none false G)) → Eqv (frz h (fun _ => true) 3 (slG 1 1 L.length)) (llV nb (C N)) := fun h G hiN hq => by
    rw [← hiN, hL]
    unfold llV
    rcases hq with hq | ⟨m, hm, hG, hg⟩
    · rw [hq]; exact Eqv.nil
    · rw [hm]
      show Eqv (frz _ _ 3 (.sl 1 0 (m + 1) 1 false)) _
      rw [frz_slE (fm := none) (G := G) rfl hg (by rw [hG, flatG_length]; omega)]
      exact Eqv.isl rfl fun i' k hi' hk => Eqv.of (by rw [hG]; exact frz_flat hi' hk rfl)
  clear hC hC0 hCL
  generalize hLL : lls nb L = LL at hsn hend
  cases hm : L.length with
  | zero =>
    show SW _ _ _ _ ⟨⟨27, getT [(1, .ptr 0 0), (3, nl3), (4, iV (Int.ofNat i))]⟩, []⟩ ⟨[(0, .cells none false (yardC y))], 2⟩
    refine SW.seq ?_
    refine SW.seqRunD tok mixed hO (by kernel_rfl) (by cbv <;> rfl) (by trivial) ?_
    refine AnyE.callP e47 (by cbv <;> rfl) (by cbv <;> rfl) ?_
    refine AnyE.callP e48 (by cbv <;> rfl) (by cbv <;> rfl) ?_
    refine AnyE.dec tok hO (by kernel_rfl) (by cbv <;> rfl) (by trivial) (fun h => ?_) (fun h => ?_)
    · refine AnyE.done (by kernel_rfl) ?_
      refine SW.cond (t := true) (by cbv <;> rfl) (SW.skip ?_)
      have hlt : i < N := by
        have h3 : Int.ofNat i < M := by subst hO; simpa [std] using h
        exact (hlN i).1 h3
      have e46 := e46 i
      have e67 := e67 i
      refine SW.seq (SW.block ?_)
      refine SW.seqRunD tok mixed hO (by kernel_rfl) (by cbv <;> rfl) (by trivial) ?_
      refine AnyE.callP e47 (by cbv <;> rfl) (by cbv <;> rfl) ?_
      refine AnyE.callP e46 (by cbv <;> rfl) (by cbv <;> rfl) ?_
      refine AnyE.run tok hO (by kernel_rfl) (by cbv <;> rfl) (by trivial) ?_
      refine SW.seqRun tok hO (by cbv <;> rfl) (by trivial) ?_
      refine OpsW.callP e67 (by cbv <;> rfl) ?_
      refine OpsW.run tok hO (by cbv <;> rfl) (by trivial) ?_
      refine SW.condS (by cbv <;> rfl) (fun h2 => ?_) (fun h2 => SW.skip ?_)
      · have h2e : P i = true := h2
        rw [h2e, if_pos rfl] at hCi
        refine SW.runN tok hO 3 (by cbv <;> rfl) (by trivial) ?_
        refine OpsW.appNil tok (by cbv <;> rfl) (by rfl) (by kernel_rfl) (by rfl) (by rfl) ?_
        refine OpsW.run tok hO (by cbv <;> rfl) (by trivial) ?_
        refine SW.run tok hO (by cbv <;> rfl) (by trivial) ?_
        refine hgo _ _ (ren1 1 3) hlt ?_
        rw [hCi, List.length_append, List.length_singleton, hm]
        refine WeakR.up rfl rfl (by simp) (Nat.le_refl _) (.inr (by omega)) (by show 1 ≤ 2; omega) ⟨RenV.ptr (by omega), RenV.sl (by omega), RenV.inc hO hbig, trivial⟩ ⟨⟨by omega, _, rfl, .cells (RenVs.closed (yardC_below y)), .inr rfl⟩, trivial⟩ (fun p hp => ?_)
        obtain rfl := objG_mem hp
        refine ⟨by omega, _, rfl, .cells (RenVs.of_eq ?_ (flatG_below (lls_below nb _) _)), .inl rfl⟩
        have := hsn (A i)
        rw [hm] at this
        exact this
      · have h2e : P i = false := h2
        rw [h2e, if_neg (by decide)] at hCi
        refine SW.run tok hO (by cbv <;> rfl) (by trivial) ?_
        refine hgo _ _ (ren1 1 1) hlt ?_
        rw [hCi, hm]
        exact WeakR.up rfl rfl (by simp) (Nat.le_refl _) (.inl rfl) (by show 1 ≤ 2; omega) ⟨RenV.ptr (by omega), RenV.closed Below.lit, RenV.inc hO hbig, trivial⟩ ⟨⟨by omega, _, rfl, .cells (RenVs.closed (yardC_below y)), .inr rfl⟩, trivial⟩ (fun p hp => by cases hp)
    · refine AnyE.done (by kernel_rfl) ?_
      refine SW.cond (t := false) (by cbv <;> rfl) (SW.exit ?_)
      have hge : i = N := by
        have : ¬ i < N := fun hq => by exact absurd ((hlN i).2 hq) (show ¬ Int.ofNat i < M by have h3 : O.cmp .lss (Int.ofNat i) M = false := h; subst hO; simpa [std] using h3)
        omega
      refine SW.seqRun tok hO (by cbv <;> rfl) (by trivial) ?_
      refine SW.ret ⟨_, _, rfl, rfl, ?_⟩
      have := hend [(0, .cells none false (yardC y))] [] hge (.inl hm)
      rw [hm] at this
      exact this
  | succ m =>
    obtain ⟨G, hG⟩ : ∃ G, G = flatG 1 LL (m + 1) := ⟨_, rfl⟩
    show SW _ _ _ _ ⟨⟨27, getT [(1, .ptr 0 0), (3, .sl 1 0 (m + 1) 1 false), (4, iV (Int.ofNat i))]⟩, []⟩ ⟨[(0, .cells none false (yardC y)), (1, .cells none false (flatG 1 LL (m + 1)))], 2⟩
    rw [← hG]
    refine SW.seq ?_
    refine SW.seqRunD tok mixed hO (by kernel_rfl) (by cbv <;> rfl) (by trivial) ?_
    refine AnyE.callP e47 (by cbv <;> rfl) (by cbv <;> rfl) ?_
    refine AnyE.callP e48 (by cbv <;> rfl) (by cbv <;> rfl) ?_
    refine AnyE.dec tok hO (by kernel_rfl) (by cbv <;> rfl) (by trivial) (fun h => ?_) (fun h => ?_)
    · refine AnyE.done (by kernel_rfl) ?_
      refine SW.cond (t := true) (by cbv <;> rfl) (SW.skip ?_)
      have hlt : i < N := by
        have h3 : Int.ofNat i < M := by subst hO; simpa [std] using h
        exact (hlN i).1 h3
      have e46 := e46 i
      have e67 := e67 i
      refine SW.seq (SW.block ?_)
      refine SW.seqRunD tok mixed hO (by kernel_rfl) (by cbv <;> rfl) (by trivial) ?_
      refine AnyE.callP e47 (by cbv <;> rfl) (by cbv <;> rfl) ?_
      refine AnyE.callP e46 (by cbv <;> rfl) (by cbv <;> rfl) ?_
      refine AnyE.run tok hO (by kernel_rfl) (by cbv <;> rfl) (by trivial) ?_
      refine SW.seqRun tok hO (by cbv <;> rfl) (by trivial) ?_
      refine OpsW.callP e67 (by cbv <;> rfl) ?_
      refine OpsW.run tok hO (by cbv <;> rfl) (by trivial) ?_
      refine SW.condS (by cbv <;> rfl) (fun h2 => ?_) (fun h2 => SW.skip ?_)
      · have h2e : P i = true := h2
        rw [h2e, if_pos rfl] at hCi
        refine SW.runN tok hO 3 (by cbv <;> rfl) (by trivial) ?_
        refine OpsW.appOne (g := LL) tok (by cbv <;> rfl) (by rfl) (by rfl) hG (by kernel_rfl) (by rfl) (by rfl) (by omega) fun G' hG' => ?_
        refine OpsW.run tok hO (by cbv <;> rfl) (by trivial) ?_
        refine SW.run tok hO (by cbv <;> rfl) (by trivial) ?_
        refine hgo _ _ (ren1 1 3) hlt ?_
        rw [hCi, List.length_append, List.length_singleton, hm]
        refine WeakR.up rfl rfl (by simp) (Nat.le_refl _) (.inr (by omega)) (by show 1 ≤ 2; omega) ⟨RenV.ptr (by omega), RenV.sl (by omega), RenV.inc hO hbig, trivial⟩ ⟨⟨by omega, _, rfl, .cells (RenVs.closed (yardC_below y)), .inr rfl⟩, trivial⟩ (fun p hp => ?_)
        obtain rfl := objG_mem hp
        refine ⟨by omega, _, rfl, .cells (RenVs.of_eq ?_ (flatG_below (lls_below nb _) _)), .inl rfl⟩
        have := hsn (A i)
        rw [hm] at this
        exact hG'.trans this
      · have h2e : P i = false := h2
        rw [h2e, if_neg (by decide)] at hCi
        refine SW.run tok hO (by cbv <;> rfl) (by trivial) ?_
        refine hgo _ _ (ren1 1 1) hlt ?_
        rw [hCi, hm]
        refine WeakR.up rfl rfl (by simp) (Nat.le_refl _) (.inl rfl) (by show 1 ≤ 2; omega) ⟨RenV.ptr (by omega), RenV.sl (by omega), RenV.inc hO hbig, trivial⟩ ⟨⟨by omega, _, rfl, .cells (RenVs.closed (yardC_below y)), .inr rfl⟩, trivial⟩ (fun p hp => ?_)
        obtain rfl := objG_mem hp
        exact ⟨by omega, _, rfl, .cells (RenVs.of_eq (by rw [hG, ← hLL]) (flatG_below (lls_below nb _) _)), .inl rfl⟩
    · refine AnyE.done (by kernel_rfl) ?_
      refine SW.cond (t := false) (by cbv <;> rfl) (SW.exit ?_)
      have hge : i = N := by
        have : ¬ i < N := fun hq => by exact absurd ((hlN i).2 hq) (show ¬ Int.ofNat i < M by have h3 : O.cmp .lss (Int.ofNat i) M = false := h; subst hO; simpa [std] using h3)
        omega
      refine SW.seqRun tok hO (by cbv <;> rfl) (by trivial) ?_
      refine SW.ret ⟨_, _, rfl, rfl, ?_⟩
      have := hend [(0, .cells none false (yardC y)), (1, .cells none false G)] G hge (.inr ⟨m, hm, hG, rfl⟩)
      rw [hm] at this
      exact this
end Go.Fz
set_option linter.unusedVariables false
set_option linter.unusedSimpArgs false
namespace Go.Fz
open Go.Proofs
set_option maxRecDepth 100000
set_option maxHeartbeats 8000000 in
theorem pl_bad (y : YardD) (W : Int) (hW : ¬ W = 0) (e24 : Pure Try.prog 24 [yardV y] (iV W)) : Pure Try.prog 42 [yardV y] (.tup [nl3, iV W]) := by
  obtain ⟨O, hO⟩ : ∃ O : Ar, O = std := ⟨_, rfl⟩
  refine pure_of_body tok 3 Try.func42 en42 rfl ⟨yardV_below y, trivial⟩ (Below.tup (AllB.ok ⟨Below.lit, Below.lit, trivial⟩)) ?_
  refine SW.seqRun tok hO (by cbv <;> rfl) (by trivial) ?_
  refine SW.seq ?_
  refine SW.seqRun tok hO (by cbv <;> rfl) (by trivial) ?_
  refine OpsW.callP e24 (by cbv <;> rfl) ?_
  refine OpsW.run tok hO (by cbv <;> rfl) (by trivial) ?_
  refine SW.seqRun tok hO (by cbv <;> rfl) (by trivial) ?_
  refine SW.condS (by cbv <;> rfl) (fun hw1 => ?_) (fun hw1 => by first | (cases hw1; done) | (subst hO; simp [std, hW] at hw1; done) | (subst hO; simp [std, hW] at hw1; omega))
  refine SW.seqRun tok hO (by cbv <;> rfl) (by trivial) ?_
  exact SW.ret ⟨_, _, rfl, rfl, Eqv.of rfl⟩
set_option maxHeartbeats 8000000 in
theorem pl_none (y : YardD) (N : Nat) (G : Nat → Nat → AV) (hN : N = 0) (e24 : Pure Try.prog 24 [yardV y] (iV 0)) (e86 : Pure Try.prog 86 [yardV y] (.isl N 1 false G)) : Pure Try.prog 42 [yardV y] (.tup [nl3, iV 10]) := by
  obtain ⟨O, hO⟩ : ∃ O : Ar, O = std := ⟨_, rfl⟩
  refine pure_of_body tok 3 Try.func42 en42 rfl ⟨yardV_below y, trivial⟩ (Below.tup (AllB.ok ⟨Below.lit, Below.lit, trivial⟩)) ?_
  refine SW.seqRun tok hO (by cbv <;> rfl) (by trivial) ?_
  refine SW.seq ?_
  refine SW.seqRun tok hO (by cbv <;> rfl) (by trivial) ?_
  refine OpsW.callP e24 (by cbv <;> rfl) ?_
  refine OpsW.run tok hO (by cbv <;> rfl) (by trivial) ?_
  refine SW.seqRun tok hO (by cbv <;> rfl) (by trivial) ?_
  refine SW.condS (by cbv <;> rfl) (fun hw1 => by first | (cases hw1; done) | (subst hO; simp [std, hN] at hw1; done) | (subst hO; simp [std, hN] at hw1; omega)) (fun hw1 => SW.skip ?_)
  refine SW.seqRun tok hO (by cbv <;> rfl) (by trivial) ?_
  refine OpsW.callP e86 (by cbv <;> rfl) ?_
  refine OpsW.run tok hO (by cbv <;> rfl) (by trivial) ?_
  refine SW.seq ?_
  refine SW.seqRun tok hO (by cbv <;> rfl) (by trivial) ?_
  refine SW.condS (by cbv <;> rfl) (fun hw2 => ?_) (fun hw2 => by first | (cases hw2; done) | (subst hO; simp [std, hN] at hw2; done) | (subst hO; simp [std, hN] at hw2; omega))
  refine SW.seqRun tok hO (by cbv <;> rfl) (by trivial) ?_
  exact SW.ret ⟨_, _, rfl, rfl, Eqv.of rfl⟩
set_option maxHeartbeats 8000000 in
theorem pl_some (y : YardD) (N : Nat) (G : Nat → Nat → AV) (hG : ∀ i k, Below 0 (G i k)) (hN : ¬ N = 0) (e24 : Pure Try.prog 24 [yardV y] (iV 0)) (e86 : Pure Try.prog 86 [yardV y] (.isl N 1 false G)) : Pure Try.prog 42 [yardV y] (.tup [.isl N 1 false G, iV 0]) := by
  obtain ⟨O, hO⟩ : ∃ O : Ar, O = std := ⟨_, rfl⟩
  refine pure_of_body tok 3 Try.func42 en42 rfl ⟨yardV_below y, trivial⟩ (Below.tup (AllB.ok ⟨Below.isl fun i k _ _ => hG i k, Below.lit, trivial⟩)) ?_
  refine SW.seqRun tok hO (by cbv <;> rfl) (by trivial) ?_
  refine SW.seq ?_
  refine SW.seqRun tok hO (by cbv <;> rfl) (by trivial) ?_
  refine OpsW.callP e24 (by cbv <;> rfl) ?_
  refine OpsW.run tok hO (by cbv <;> rfl) (by trivial) ?_
  refine SW.seqRun tok hO (by cbv <;> rfl) (by trivial) ?_
  refine SW.condS (by cbv <;> rfl) (fun hw1 => by first | (cases hw1; done) | (subst hO; simp [std, hN] at hw1; done) | (subst hO; simp [std, hN] at hw1; omega)) (fun hw1 => SW.skip ?_)
  refine SW.seqRun tok hO (by cbv <;> rfl) (by trivial) ?_
  refine OpsW.callP e86 (by cbv <;> rfl) ?_
  refine OpsW.run tok hO (by cbv <;> rfl) (by trivial) ?_
  refine SW.seq ?_
  refine SW.seqRun tok hO (by cbv <;> rfl) (by trivial) ?_
  refine SW.condS (by cbv <;> rfl) (fun hw2 => by first | (cases hw2; done) | (subst hO; simp [std, hN] at hw2; done) | (subst hO; simp [std, hN] at hw2; omega)) (fun hw2 => SW.skip ?_)
  refine SW.seqRun tok hO (by cbv <;> rfl) (by trivial) ?_
  exact SW.ret ⟨_, _, rfl, rfl, Eqv.of rfl⟩
set_option maxHeartbeats 8000000 in
theorem su_bad (y : YardD) (E : Int) (hE : ¬ E = 0) (e42 : Pure Try.prog 42 [yardV y] (.tup [nl3, iV E])) : Pure Try.prog 26 [yardV y] (.tup [nl3, iV E]) := by
  obtain ⟨O, hO⟩ : ∃ O : Ar, O = std := ⟨_, rfl⟩
  refine pure_of_body tok 3 Try.func26 en26 rfl ⟨yardV_below y, trivial⟩ (Below.tup (AllB.ok ⟨Below.lit, Below.lit, trivial⟩)) ?_
  refine SW.seqRun tok hO (by cbv <;> rfl) (by trivial) ?_
  refine SW.seqRun tok hO (by cbv <;> rfl) (by trivial) ?_
  refine OpsW.callP e42 (by cbv <;> rfl) ?_
  refine OpsW.run tok hO (by cbv <;> rfl) (by trivial) ?_
  refine SW.seq ?_
  refine SW.seqRun tok hO (by cbv <;> rfl) (by trivial) ?_
  refine SW.condS (by cbv <;> rfl) (fun hw1 => ?_) (fun hw1 => by first | (cases hw1; done) | (subst hO; simp [std, hE] at hw1; done) | (subst hO; simp [std, hE] at hw1; omega))
  refine SW.seqRun tok hO (by cbv <;> rfl) (by trivial) ?_
  exact SW.ret ⟨_, _, rfl, rfl, Eqv.of rfl⟩
set_option maxHeartbeats 8000000 in
theorem su_none (y : YardD) (N M : Nat) (G H : Nat → Nat → AV) (FU : Int) (hM : M = 0) (e42 : Pure Try.prog 42 [yardV y] (.tup [.isl N 1 false G, iV 0])) (e55 : Pure Try.prog 55 [yardV y] (iV FU)) (e69 : Pure Try.prog 69 [yardV y, .isl N 1 false G, iV FU] (.isl M 1 false H)) : Pure Try.prog 26 [yardV y] (.tup [nl3, iV 9]) := by
  obtain ⟨O, hO⟩ : ∃ O : Ar, O = std := ⟨_, rfl⟩
  refine pure_of_body tok 3 Try.func26 en26 rfl ⟨yardV_below y, trivial⟩ (Below.tup (AllB.ok ⟨Below.lit, Below.lit, trivial⟩)) ?_
  refine SW.seqRun tok hO (by cbv <;> rfl) (by trivial) ?_
  refine SW.seqRun tok hO (by cbv <;> rfl) (by trivial) ?_
  refine OpsW.callP e42 (by cbv <;> rfl) ?_
  refine OpsW.run tok hO (by cbv <;> rfl) (by trivial) ?_
  refine SW.seq ?_
  refine SW.seqRun tok hO (by cbv <;> rfl) (by trivial) ?_
  refine SW.condS (by cbv <;> rfl) (fun hw1 => by first | (cases hw1; done) | (subst hO; simp [std, hM] at hw1; done) | (subst hO; simp [std, hM] at hw1; omega)) (fun hw1 => SW.skip ?_)
  refine SW.seqRunD tok mixed hO (by kernel_rfl) (by cbv <;> rfl) (by trivial) ?_
  refine AnyE.callP e55 (by cbv <;> rfl) (by cbv <;> rfl) ?_
  refine AnyE.run tok hO (by kernel_rfl) (by cbv <;> rfl) (by trivial) ?_
  refine AnyE.callP e69 (by cbv <;> rfl) (by cbv <;> rfl) ?_
  refine AnyE.run tok hO (by kernel_rfl) (by cbv <;> rfl) (by trivial) ?_
  refine SW.seq ?_
  refine SW.seqRun tok hO (by cbv <;> rfl) (by trivial) ?_
  refine SW.condS (by cbv <;> rfl) (fun hw2 => ?_) (fun hw2 => by first | (cases hw2; done) | (subst hO; simp [std, hM] at hw2; done) | (subst hO; simp [std, hM] at hw2; omega))
  refine SW.seqRun tok hO (by cbv <;> rfl) (by trivial) ?_
  exact SW.ret ⟨_, _, rfl, rfl, Eqv.of rfl⟩
set_option maxHeartbeats 8000000 in
theorem su_some (y : YardD) (N M : Nat) (G H : Nat → Nat → AV) (FU : Int) (hG : ∀ i k, Below 0 (H i k)) (hM : ¬ M = 0) (e42 : Pure Try.prog 42 [yardV y] (.tup [.isl N 1 false G, iV 0])) (e55 : Pure Try.prog 55 [yardV y] (iV FU)) (e69 : Pure Try.prog 69 [yardV y, .isl N 1 false G, iV FU] (.isl M 1 false H)) : Pure Try.prog 26 [yardV y] (.tup [.isl M 1 false H, iV 0]) := by
  obtain ⟨O, hO⟩ : ∃ O : Ar, O = std := ⟨_, rfl⟩
  refine pure_of_body tok 3 Try.func26 en26 rfl ⟨yardV_below y, trivial⟩ (Below.tup (AllB.ok ⟨Below.isl fun i k _ _ => hG i k, Below.lit, trivial⟩)) ?_
  refine SW.seqRun tok hO (by cbv <;> rfl) (by trivial) ?_
  refine SW.seqRun tok hO (by cbv <;> rfl) (by trivial) ?_
  refine OpsW.callP e42 (by cbv <;> rfl) ?_
  refine OpsW.run tok hO (by cbv <;> rfl) (by trivial) ?_
  refine SW.seq ?_
  refine SW.seqRun tok hO (by cbv <;> rfl) (by trivial) ?_
  refine SW.condS (by cbv <;> rfl) (fun hw1 => by first | (cases hw1; done) | (subst hO; simp [std, hM] at hw1; done) | (subst hO; simp [std, hM] at hw1; omega)) (fun hw1 => SW.skip ?_)
  refine SW.seqRunD tok mixed hO (by kernel_rfl) (by cbv <;> rfl) (by trivial) ?_
  refine AnyE.callP e55 (by cbv <;> rfl) (by cbv <;> rfl) ?_
  refine AnyE.run tok hO (by kernel_rfl) (by cbv <;> rfl) (by trivial) ?_
  refine AnyE.callP e69 (by cbv <;> rfl) (by cbv <;> rfl) ?_
  refine AnyE.run tok hO (by kernel_rfl) (by cbv <;> rfl) (by trivial) ?_
  refine SW.seq ?_
  refine SW.seqRun tok hO (by cbv <;> rfl) (by trivial) ?_
  refine SW.condS (by cbv <;> rfl) (fun hw2 => by first | (cases hw2; done) | (subst hO; simp [std, hM] at hw2; done) | (subst hO; simp [std, hM] at hw2; omega)) (fun hw2 => SW.skip ?_)
  refine SW.seqRun tok hO (by cbv <;> rfl) (by trivial) ?_
  exact SW.ret ⟨_, _, rfl, rfl, Eqv.of rfl⟩
def YardD.plE (y : YardD) : Int := if y.faultN = 0 then (if y.schR.length = 0 then 10 else 0) else y.faultN
def YardD.plV (y : YardD) : AV := if y.plE = 0 then llV y.nb y.schR else nl3
theorem planned_ok (y : YardD) (hb : y.nb < 1000000) (hcn : y.nc < 1000000) : Pure Try.prog 42 [yardV y] (.tup [y.plV, iV y.plE]) := by
  have e24 := fault24_ok y hb hcn
  unfold YardD.plV YardD.plE
  by_cases hW : y.faultN = 0
  · have hc : y.check = 0 := (check_eq y).trans hW
    have e86 := schR_ok hc
    rw [hW] at e24
    rw [if_pos hW]
    by_cases hN : y.schR.length = 0
    · rw [if_pos hN, if_neg (by decide)]
      exact pl_none y _ _ hN e24 e86
    · rw [if_neg hN, if_pos rfl]
      exact pl_some y _ _ (lls_below _ _) hN e24 e86
  · rw [if_neg hW, if_neg hW]
    exact pl_bad y _ hW e24
def YardD.clR (y : YardD) (c : Int) : List (Nat → Int) := pickS (fun i => decide (std.bin .and .i64 (y.rm (y.schR.getD i f0) y.nc) c = c)) (fun i => y.schR.getD i f0) y.schR.length
def YardD.suE (y : YardD) : Int := if y.plE = 0 then (if (y.clR (allI y.nc)).length = 0 then 9 else 0) else y.plE
def YardD.suV (y : YardD) : AV := if y.suE = 0 then llV y.nb (y.clR (allI y.nc)) else nl3
theorem schR_len {y : YardD} (hc : y.check = 0) : y.schR.length < 1000000 := by
  have h := pickS_len (fun i => y.fitB (y.nF (allI y.nb) (Int.ofNat i))) (fun i => y.nF (allI y.nb) (Int.ofNat i)) (mnB y.blo y.bhi (allI y.nb) y.nb).toNat
  have hM : mnB y.blo y.bhi (allI y.nb) y.nb ≤ 2000 := by
    obtain ⟨h1, h2⟩ := many_small hc (allI y.nb)
    rw [h1]; exact h2
  have h : y.schR.length ≤ (mnB y.blo y.bhi (allI y.nb) y.nb).toNat := h
  omega
theorem claimedR_ok {y : YardD} (hc : y.check = 0) (c : Int) : Pure Try.prog 69 [yardV y, llV y.nb y.schR, iV c] (llV y.nb (y.clR c)) := by
  obtain ⟨_, _, _, _, _, h5, hcl⟩ := y.fit_of_check hc
  exact claimed_ok y y.nb y.schR c (schR_len hc) (by omega) fun i hi => (hcl i hi).1
theorem plE_check {y : YardD} (h : y.plE = 0) : y.check = 0 := by
  unfold YardD.plE at h
  split at h
  · rename_i hW
    exact (check_eq y).trans hW
  · rename_i hW
    exact absurd h hW
theorem sure_ok (y : YardD) (hb : y.nb < 1000000) (hcn : y.nc < 1000000) : Pure Try.prog 26 [yardV y] (.tup [y.suV, iV y.suE]) := by
  have e42 := planned_ok y hb hcn
  unfold YardD.suV YardD.suE
  by_cases hE : y.plE = 0
  · have hc := plE_check hE
    have e55 := full55_ok y hcn
    have e69 := claimedR_ok hc (allI y.nc)
    have hv : y.plV = llV y.nb y.schR := if_pos hE
    rw [hv, hE] at e42
    rw [if_pos hE]
    by_cases hM : (y.clR (allI y.nc)).length = 0
    · rw [if_pos hM, if_neg (by decide)]
      exact su_none y _ _ _ _ _ hM e42 e55 e69
    · rw [if_neg hM, if_pos rfl]
      exact su_some y _ _ _ _ _ (lls_below _ _) hM e42 e55 e69
  · have hv : y.plV = nl3 := if_neg hE
    rw [hv] at e42
    rw [if_neg hE, if_neg hE]
    exact su_bad y _ hE e42
end Go.Fz
