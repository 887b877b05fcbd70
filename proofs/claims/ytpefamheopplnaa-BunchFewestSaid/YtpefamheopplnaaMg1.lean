/- Own work of the verifier of watercress: FzSe6, FzSe7. -/
import Derived.ChangeKeysEq
import Derived.DeepKeys4
import Derived.Laws.AppendOwn
import Derived.Laws.Cells
import Derived.Laws.CopyRow
import Derived.Laws.Cover3
import Derived.Laws.Entries
import Derived.Laws.NewFold
import Derived.Laws.Sem
import Derived.Laws.Small
import Derived.Laws.StructEq
import Derived.Laws.Tables
import Derived.Laws.World
import Derived.Maps.Keyed
import Derived.Maps.RangeRun
import Derived.OrdersHeld
import Derived.OrdersIn
import Derived.RangeFuncLeaves
import Derived.RangeFuncRecord
import Derived.Shelf.Abstract
import Derived.Test.YtpefamheopplnaaMf0
import Derived.Test.YtpefamheopplnaaMf8
import Derived.Test.YtpefamheopplnaaMf12
import Derived.Test.YtpefamheopplnaaMf13
import Derived.Test.YtpefamheopplnaaMf14
import Derived.Test.YtpefamheopplnaaMf24
import Derived.Test.YtpefamheopplnaaMf22
import Derived.Test.YtpefamheopplnaaMf25
import Derived.Test.YtpefamheopplnaaMf9
import Derived.Test.YtpefamheopplnaaMf23
import Derived.Test.YtpefamheopplnaaMf10
import Derived.Test.YtpefamheopplnaaMf11
import Derived.Test.YtpefamheopplnaaMf1
import Derived.Test.YtpefamheopplnaaMf16
import Derived.Test.YtpefamheopplnaaMf18
import Derived.Test.YtpefamheopplnaaMf15
import Derived.Test.YtpefamheopplnaaMf19
import Derived.Test.YtpefamheopplnaaMg0
import Derived.Test.YtpefamheopplnaaMf20
import Derived.Test.YtpefamheopplnaaMf21
import Derived.Test.YtpefamheopplnaaMf2
import Derived.Test.YtpefamheopplnaaMf3
import Derived.Test.YtpefamheopplnaaMf4
import Derived.Test.YtpefamheopplnaaMf6
import Derived.Test.YtpefamheopplnaaMf7
import Derived.Test.YtpefamheopplnaaMf5
import Derived.Test.YtpefamheopplnaaProg
set_option linter.unusedVariables false
set_option linter.unusedSimpArgs false
namespace Go.Fz
open Go.Proofs
set_option maxRecDepth 100000
set_option linter.unusedVariables false
theorem fvF_val (f0 : Nat → Int) (l : List Nat) (j : Nat) : ∀ n, n ≤ l.length → fvF f0 (fun k => ((l.getD k 0 : Nat) : Int)) n j = if ∃ k, k < n ∧ l.getD k 0 = j then f0 j else 0
  | 0, _ => by
    rw [if_neg (fun ⟨k, h, _⟩ => absurd h (Nat.not_lt_zero k))]; rfl
  | n + 1, hn => by
    have ih := fvF_val f0 l j n (by omega)
    unfold fvF
    by_cases h : l.getD n 0 = j
    · rw [if_pos (by rw [h]), if_pos ⟨n, Nat.lt_succ_self n, h⟩]
    · rw [if_neg (by omega), ih]
      by_cases h2 : ∃ k, k < n ∧ l.getD k 0 = j
      · obtain ⟨k, h3, h4⟩ := h2
        rw [if_pos ⟨k, h3, h4⟩, if_pos ⟨k, by omega, h4⟩]
      · rw [if_neg h2, if_neg]
        rintro ⟨k, h3, h4⟩
        rcases Nat.lt_succ_iff_lt_or_eq.1 h3 with h5 | rfl
        · exact h2 ⟨k, h5, h4⟩
        · exact h h4
theorem mem_getD {l : List Nat} {j : Nat} : (∃ k, k < l.length ∧ l.getD k 0 = j) ↔ j ∈ l := by
  constructor
  · rintro ⟨k, hk, rfl⟩
    rw [List.getD_eq_getElem?_getD, List.getElem?_eq_getElem hk]
    exact List.getElem_mem hk
  · intro h
    obtain ⟨k, hk, e⟩ := List.getElem_of_mem h
    exact ⟨k, hk, by rw [List.getD_eq_getElem?_getD, List.getElem?_eq_getElem hk, Option.getD_some, e]⟩
theorem fv_same {l : List Nat} (hl : ∀ x ∈ l, x < 4) (f f' : Nat → Int) : (∀ m, m < 4 → fvF f (fun k => ((l.getD k 0 : Nat) : Int)) l.length m = fvF f' (fun k => ((l.getD k 0 : Nat) : Int)) l.length m) ↔ ∀ w ∈ l, f w = f' w := by
  constructor
  · intro h w hw
    have := h w (hl w hw)
    rw [fvF_val _ _ _ _ (Nat.le_refl _), fvF_val _ _ _ _ (Nat.le_refl _), if_pos (mem_getD.2 hw), if_pos (mem_getD.2 hw)] at this
    exact this
  · intro h m hm
    rw [fvF_val _ _ _ _ (Nat.le_refl _), fvF_val _ _ _ _ (Nat.le_refl _)]
    by_cases hw : m ∈ l
    · rw [if_pos (mem_getD.2 hw), if_pos (mem_getD.2 hw)]; exact h m hw
    · rw [if_neg (fun h => hw (mem_getD.1 h)), if_neg (fun h => hw (mem_getD.1 h))]
def DayD.clash (d : DayD) (l : List Nat) (f f' : Nat → Int) : Prop := (d.tally (truF d f)).flats ≠ (d.tally (truF d f')).flats ∧ ∀ w ∈ l, f w = f' w
theorem setQ_clash {d : DayD} {l : List Nat} (hl : ∀ x ∈ l, x < 4) : d.setQ d.seen.outs l = true ↔ ¬ ∃ f, f ∈ d.seen.outs ∧ ∃ f', f' ∈ d.seen.outs ∧ d.clash l f f' := by
  rw [setQ_iff]
  constructor
  · rintro h ⟨f, hf, f', hf', hne, hs⟩
    obtain ⟨i, hi, rfl⟩ := mem_nth hf
    obtain ⟨j, hj, rfl⟩ := mem_nth hf'
    rcases Nat.lt_trichotomy i j with h1 | rfl | h1
    · exact hne (h j hj i h1 ((fv_same hl _ _).2 fun w hw => (hs w hw).symm))
    · exact hne rfl
    · exact hne (h i hi j h1 ((fv_same hl _ _).2 hs)).symm
  · intro h i hi j hj hm
    by_cases e : (d.tally (truF d (nthF d.seen.outs j))).flats = (d.tally (truF d (nthF d.seen.outs i))).flats
    · exact e
    · exact absurd ⟨_, nth_mem (by omega), _, nth_mem hi, e, fun w hw => ((fv_same hl _ _).1 hm w hw).symm⟩ h
def DayD.sF (d : DayD) (k : Nat) : Nat → Int := cutF (d.nw + d.nl) (numT d (d.sT k))
theorem ex_sel {d : DayD} (hc : d.check = 0) (c : (Nat → Int) → Prop) : (∃ f, f ∈ d.seen.outs ∧ c f) ↔ ∃ k, k < d.sN ∧ c (d.sF k) := by
  rw [sel_outs hc c]
  constructor
  · rintro ⟨N, hN, h⟩
    obtain ⟨k, hk, e⟩ := List.getElem_of_mem hN
    refine ⟨k, hk, ?_⟩
    show c (cutF (d.nw + d.nl) (numT d (d.nthI ((selT d.selB d.nT).getD k 0))))
    rw [List.getD_eq_getElem?_getD, List.getElem?_eq_getElem hk, Option.getD_some, e]; exact h
  · rintro ⟨k, hk, h⟩
    have h2 : c (cutF (d.nw + d.nl) (numT d (d.nthI ((selT d.selB d.nT).getD k 0)))) := h
    have hk2 : k < (selT d.selB d.nT).length := hk
    rw [List.getD_eq_getElem?_getD, List.getElem?_eq_getElem hk2, Option.getD_some] at h2
    exact ⟨_, List.getElem_mem hk2, h2⟩
theorem sF_fe {d : DayD} {k w : Nat} (hw : w < d.nw) : d.sF k w = (d.sT k).fe w := by
  unfold DayD.sF cutF numT; rw [if_pos (by omega), if_pos hw]
theorem sF_flats (d : DayD) (k : Nat) : (d.tally (truF d (d.sF k))).flats = (d.tally (d.sT k)).flats := val_nth (val_flats d) _
theorem bit_fin : ∀ b : Fin 32, ∀ w : Fin 5, bitZ (b.1 : Int) w.1 = !decide (w.1 ∈ selL (b.1 : Int) 5) := by decide +kernel
theorem settle_same {d : DayD} (hc : d.check = 0) {b : Nat} (hb : b < 2 ^ d.nw) : d.setQ d.seen.outs (selL (b : Int) 5) = setR (fun k => (d.tally (d.sT k)).flats) (fun k => (d.sT k).fe) (b : Int) d.nw d.sN := by
  have gd := good_of_check hc
  have hnw := gd.nw
  have hb32 : b < 32 := Nat.lt_of_lt_of_le hb (pow_le32 (by omega))
  have hin := (oth_fin ⟨d.nw, by omega⟩ ⟨b, hb32⟩ hb).1
  have hl : ∀ x ∈ selL (b : Int) 5, x < d.nw := risL_lt hin
  have hsm : ∀ i k, smN (fun k => (d.tally (d.sT k)).flats) (fun k => (d.sT k).fe) (b : Int) i k d.nw = true ↔ d.clash (selL (b : Int) 5) (d.sF i) (d.sF k) := fun i k => by
    unfold smN DayD.clash
    rw [Bool.and_eq_true, decide_eq_true_eq, sF_flats, sF_flats]
    refine and_congr Iff.rfl ?_
    constructor
    · intro h w hw
      have h1 := of_decide_eq_true h w (hl w hw)
      rw [Bool.or_eq_true, decide_eq_true_eq, bit_fin ⟨b, hb32⟩ ⟨w, by have := hl w hw; omega⟩] at h1
      rw [sF_fe (hl w hw), sF_fe (hl w hw)]
      rcases h1 with h1 | h1
      · rw [decide_eq_true hw] at h1; cases h1
      · exact h1
    · intro h
      refine allN_true fun w hw => ?_
      rw [Bool.or_eq_true, decide_eq_true_eq, bit_fin ⟨b, hb32⟩ ⟨w, by omega⟩]
      by_cases hm : w ∈ selL (b : Int) 5
      · have := h w hm
        rw [sF_fe hw, sF_fe hw] at this
        exact .inr this
      · exact .inl (by rw [decide_eq_false hm]; rfl)
  have hq := setQ_clash (d := d) (l := selL (b : Int) 5) fun x hx => by have := hl x hx; omega
  rw [ex_sel hc (fun f => ∃ f', f' ∈ d.seen.outs ∧ d.clash (selL (b : Int) 5) f f')] at hq
  rw [Bool.eq_iff_iff, hq]
  constructor
  · intro h
    refine setR_true fun i hi k hk => ?_
    cases hs : smN (fun k => (d.tally (d.sT k)).flats) (fun k => (d.sT k).fe) (b : Int) i k d.nw with
    | false => rfl
    | true => exact absurd ⟨i, hi, (ex_sel hc _).2 ⟨k, by omega, (hsm i k).1 hs⟩⟩ h
  · rintro h ⟨i, hi, h2⟩
    obtain ⟨k, hk, h3⟩ := (ex_sel hc _).1 h2
    have hF : ∀ i k, k < i → i < d.sN → ¬ d.clash (selL (b : Int) 5) (d.sF i) (d.sF k) := fun i k hk hi hcl => by
      rw [setR_false hi hk ((hsm i k).2 hcl)] at h; cases h
    rcases Nat.lt_trichotomy i k with h1 | rfl | h1
    · exact hF k i h1 hk ⟨Ne.symm h3.1, fun w hw => (h3.2 w hw).symm⟩
    · exact h3.1 rfl
    · exact hF i k h1 hi h3
end Go.Fz
namespace Go.Fz
open Go.Proofs
set_option maxRecDepth 100000
set_option linter.unusedVariables false
set_option maxHeartbeats 8000000 in
theorem fw_2 (d : DayD) (e s : Int) (X A : AV) (g : Nat → AV) (O : Ar) (hO : O = std) (hday : Pure Try.prog 19 [dayV d] (dayV d)) (hf : Pure Try.prog 27 [dayV d] (.tup [X, iV e])) (h : AllP (fun p => g p.1 = p.2) [(1, .ptr 0 0)]) :
    SW Try.prog none (nthC 2 (bodyF Try.f5)) (midK 65 [(1, .ptr 0 0), (3, X), (4, iV e)] ⟨[(0, .cells none false (dayC d))], 1⟩) ⟨⟨65, g⟩, []⟩ ⟨[(0, .cells none false (dayC d))], 1⟩ := by
  obtain ⟨g1, _⟩ := h
  simp only at g1
  rw [← updT_self g1]
  refine SW.run tok hO (by cbv <;> rfl) (by trivial) ?_
  refine OpsW.callP hday (by cbv <;> rfl) ?_
  refine OpsW.run tok hO (by cbv <;> rfl) (by trivial) ?_
  refine OpsW.callP hf (by cbv <;> rfl) ?_
  refine OpsW.run tok hO (by cbv <;> rfl) (by trivial) ?_
  exact ⟨rfl, _, rfl, ⟨rfl, rfl, rfl, trivial⟩, rfl⟩
set_option maxHeartbeats 8000000 in
theorem fw_3 (d : DayD) (e s : Int) (X A : AV) (g : Nat → AV) (O : Ar) (hO : O = std) (hsu : Pure Try.prog 20 [dayV d] (.tup [A, iV s])) (h : AllP (fun p => g p.1 = p.2) [(1, .ptr 0 0), (3, X), (4, iV e)]) :
    SW Try.prog none (nthC 3 (bodyF Try.f5)) (midK 65 [(1, .ptr 0 0), (3, X), (4, iV e), (5, A), (6, iV s)] ⟨[(0, .cells none false (dayC d))], 1⟩) ⟨⟨65, g⟩, []⟩ ⟨[(0, .cells none false (dayC d))], 1⟩ := by
  obtain ⟨g1, g3, g4, _⟩ := h
  simp only at g1 g3 g4
  rw [← updT_self g1, ← updT_self g3, ← updT_self g4]
  refine SW.run tok hO (by cbv <;> rfl) (by trivial) ?_
  refine OpsW.callP hsu (by cbv <;> rfl) ?_
  refine OpsW.run tok hO (by cbv <;> rfl) (by trivial) ?_
  exact ⟨rfl, _, rfl, ⟨rfl, rfl, rfl, rfl, rfl, trivial⟩, rfl⟩
set_option maxHeartbeats 8000000 in
theorem fw_4a (d : DayD) (e s : Int) (X A : AV) (g : Nat → AV) (O : Ar) (hO : O = std) (haw : Pure Try.prog 17 [] (.lit (.bool true))) (hs : s ≠ 0) (h : AllP (fun p => g p.1 = p.2) [(1, .ptr 0 0), (3, nl3), (4, iV s), (5, A), (6, iV s)]) :
    SW Try.prog none (restC 4 (bodyF Try.f5)) (retQ T Try.f5 (fun v st' => Eqv (frz st'.h (fun _ => true) 3 v) (.lit (.bool true)))) ⟨⟨65, g⟩, []⟩ ⟨[(0, .cells none false (dayC d))], 1⟩ := by
  have hp : O.cmp .neq s 0 = true := by subst hO; simpa [std] using hs
  have hq : O.cmp .eql s s = true := by subst hO; simp [std]
  have hz : O.cmp .eql 0 0 = true := by subst hO; rfl
  obtain ⟨g1, g3, g4, g5, g6, _⟩ := h
  simp only at g1 g3 g4 g5 g6
  rw [← updT_self g1, ← updT_self g3, ← updT_self g4, ← updT_self g5, ← updT_self g6]
  refine SW.seq ?_
  refine SW.seqRun tok hO (by cbv <;> rfl) (by trivial) ?_
  refine SW.condS (by cbv <;> rfl) (fun _ => ?_) (fun h => absurd (show true = false from hp.symm.trans h) (by decide))
  refine SW.seqRun tok hO (by cbv <;> rfl) (by trivial) ?_
  refine OpsW.splitG (by cbv <;> rfl) (fun _ => ?_) (fun h => absurd (show true = false from hq.symm.trans h) (by decide))
  refine OpsW.run tok hO (by cbv <;> rfl) (by trivial) ?_
  refine OpsW.splitG (by cbv <;> rfl) (fun _ => ?_) (fun h => absurd (show true = false from hz.symm.trans h) (by decide))
  refine OpsW.run tok hO (by cbv <;> rfl) (by trivial) ?_
  refine OpsW.callP haw (by cbv <;> rfl) ?_
  refine OpsW.run tok hO (by cbv <;> rfl) (by trivial) ?_
  exact SW.ret ⟨_, _, rfl, rfl, Eqv.refl _⟩
set_option maxHeartbeats 8000000 in
theorem fw_4b (d : DayD) (e s : Int) (X A : AV) (g : Nat → AV) (O : Ar) (hO : O = std)  (h : AllP (fun p => g p.1 = p.2) [(1, .ptr 0 0), (3, X), (4, iV e), (5, A), (6, iV 0)]) :
    SW Try.prog none (nthC 4 (bodyF Try.f5)) (midK 65 [(1, .ptr 0 0), (3, X), (4, iV e), (5, A)] ⟨[(0, .cells none false (dayC d))], 1⟩) ⟨⟨65, g⟩, []⟩ ⟨[(0, .cells none false (dayC d))], 1⟩ := by
  have hz : O.cmp .neq 0 0 = false := by subst hO; rfl
  obtain ⟨g1, g3, g4, g5, g6, _⟩ := h
  simp only at g1 g3 g4 g5 g6
  rw [← updT_self g1, ← updT_self g3, ← updT_self g4, ← updT_self g5, ← updT_self g6]
  refine SW.seqRun tok hO (by cbv <;> rfl) (by trivial) ?_
  refine SW.condS (by cbv <;> rfl) (fun h => absurd (show false = true from hz.symm.trans h) (by decide)) (fun _ => SW.skip ?_)
  exact ⟨rfl, _, rfl, ⟨rfl, rfl, rfl, rfl, trivial⟩, rfl⟩
set_option maxHeartbeats 8000000 in
theorem fw_5 (d : DayD) (e s : Int) (X A : AV) (g : Nat → AV) (O : Ar) (hO : O = std) (Bv : AV) (fd : Bool) (hr : Pure Try.prog 28 [dayV d, A] (.tup [Bv, .lit (.bool fd)])) (h : AllP (fun p => g p.1 = p.2) [(1, .ptr 0 0), (3, X), (4, iV e), (5, A)]) :
    SW Try.prog none (nthC 5 (bodyF Try.f5)) (midK 65 [(3, X), (4, iV e), (7, Bv), (8, .lit (.bool fd))] ⟨[(0, .cells none false (dayC d))], 1⟩) ⟨⟨65, g⟩, []⟩ ⟨[(0, .cells none false (dayC d))], 1⟩ := by
  obtain ⟨g1, g3, g4, g5, _⟩ := h
  simp only at g1 g3 g4 g5
  rw [← updT_self g1, ← updT_self g3, ← updT_self g4, ← updT_self g5]
  refine SW.run tok hO (by cbv <;> rfl) (by trivial) ?_
  refine OpsW.callP hr (by cbv <;> rfl) ?_
  refine OpsW.run tok hO (by cbv <;> rfl) (by trivial) ?_
  exact ⟨rfl, _, rfl, ⟨rfl, rfl, rfl, rfl, trivial⟩, rfl⟩
set_option maxHeartbeats 8000000 in
theorem fw_6a (d : DayD) (e s : Int) (X A : AV) (g : Nat → AV) (O : Ar) (hO : O = std) (haw : Pure Try.prog 17 [] (.lit (.bool true))) (Bv : AV) (h : AllP (fun p => g p.1 = p.2) [(3, nl3), (4, iV 10), (7, Bv), (8, .lit (.bool false))]) :
    SW Try.prog none (restC 6 (bodyF Try.f5)) (retQ T Try.f5 (fun v st' => Eqv (frz st'.h (fun _ => true) 3 v) (.lit (.bool true)))) ⟨⟨65, g⟩, []⟩ ⟨[(0, .cells none false (dayC d))], 1⟩ := by
  have hq : O.cmp .eql 10 10 = true := by subst hO; rfl
  have hz : O.cmp .eql 0 0 = true := by subst hO; rfl
  obtain ⟨g3, g4, g7, g8, _⟩ := h
  simp only at g3 g4 g7 g8
  rw [← updT_self g3, ← updT_self g4, ← updT_self g7, ← updT_self g8]
  refine SW.seq ?_
  refine SW.seqRun tok hO (by cbv <;> rfl) (by trivial) ?_
  refine SW.condS (by cbv <;> rfl) (fun _ => ?_) (fun h => absurd h (by decide))
  refine SW.seqRun tok hO (by cbv <;> rfl) (by trivial) ?_
  refine OpsW.splitG (by cbv <;> rfl) (fun _ => ?_) (fun h => absurd (show true = false from hq.symm.trans h) (by decide))
  refine OpsW.run tok hO (by cbv <;> rfl) (by trivial) ?_
  refine OpsW.splitG (by cbv <;> rfl) (fun _ => ?_) (fun h => absurd (show true = false from hz.symm.trans h) (by decide))
  refine OpsW.run tok hO (by cbv <;> rfl) (by trivial) ?_
  refine OpsW.callP haw (by cbv <;> rfl) ?_
  refine OpsW.run tok hO (by cbv <;> rfl) (by trivial) ?_
  exact SW.ret ⟨_, _, rfl, rfl, Eqv.refl _⟩
set_option maxHeartbeats 8000000 in
theorem fw_6b (d : DayD) (e s : Int) (X A : AV) (g : Nat → AV) (O : Ar) (hO : O = std) (haw : Pure Try.prog 17 [] (.lit (.bool true))) (Bv : AV) (hi : Pure Try.prog 29 [X, Bv] (.lit (.bool true))) (h : AllP (fun p => g p.1 = p.2) [(3, X), (4, iV 0), (7, Bv), (8, .lit (.bool true))]) :
    SW Try.prog none (restC 6 (bodyF Try.f5)) (retQ T Try.f5 (fun v st' => Eqv (frz st'.h (fun _ => true) 3 v) (.lit (.bool true)))) ⟨⟨65, g⟩, []⟩ ⟨[(0, .cells none false (dayC d))], 1⟩ := by
  have hq : O.cmp .eql 0 0 = true := by subst hO; rfl
  obtain ⟨g3, g4, g7, g8, _⟩ := h
  simp only at g3 g4 g7 g8
  rw [← updT_self g3, ← updT_self g4, ← updT_self g7, ← updT_self g8]
  refine SW.seq ?_
  refine SW.seqRun tok hO (by cbv <;> rfl) (by trivial) ?_
  refine SW.condS (by cbv <;> rfl) (fun h => absurd h (by decide)) (fun _ => SW.skip ?_)
  refine SW.seqRun tok hO (by cbv <;> rfl) (by trivial) ?_
  refine OpsW.splitG (by cbv <;> rfl) (fun _ => ?_) (fun h => absurd (show true = false from hq.symm.trans h) (by decide))
  refine OpsW.run tok hO (by cbv <;> rfl) (by trivial) ?_
  refine OpsW.callP hi (by cbv <;> rfl) ?_
  refine OpsW.run tok hO (by cbv <;> rfl) (by trivial) ?_
  refine OpsW.callP haw (by cbv <;> rfl) ?_
  refine OpsW.run tok hO (by cbv <;> rfl) (by trivial) ?_
  exact SW.ret ⟨_, _, rfl, rfl, Eqv.refl _⟩
set_option maxHeartbeats 32000000 in
theorem bunchFewest_ok (haw : Pure Try.prog 17 [] (.lit (.bool true))) (d : DayD) : Pure Try.prog 5 [dayV d] (.lit (.bool true)) := by
  obtain ⟨O, hO⟩ : ∃ O : Ar, O = std := ⟨_, rfl⟩
  refine pure_of_body tok 3 Try.func5 en5 rfl ⟨dayV_below d, trivial⟩ Below.lit ?_
  refine SW.seqRun tok hO (by cbv <;> rfl) (by trivial) ?_
  refine SW.seq ?_
  refine SW.seqRun tok hO (by cbv <;> rfl) (by trivial) ?_
  have call := thin_ok d
  generalize hR : d.thinB = r at call
  refine OpsW.callP call (by cbv <;> rfl) ?_
  have hnot : O.not r = !r := by subst hO; rfl
  refine OpsW.run tok hO (by cbv <;> rfl) (by trivial) ?_
  refine SW.condS (by cbv <;> rfl) (fun h1 => ?_) (fun h1 => SW.skip ?_)
  · refine SW.seqRun tok hO (by cbv <;> rfl) (by trivial) ?_
    refine OpsW.callP haw (by cbv <;> rfl) ?_
    refine OpsW.run tok hO (by cbv <;> rfl) (by trivial) ?_
    exact SW.ret ⟨_, _, rfl, rfl, Eqv.refl _⟩
  have hr : r = true := by have := hnot.symm.trans h1; simpa using this
  rw [hr] at hR
  obtain ⟨k1, k2, k3⟩ := thin_small hR
  have hsm : d.small := ⟨by omega, by omega, by omega⟩
  have hday := day_ok d k1 k2 k3
  have hf := fault13_ok d hsm
  have hce := checkDay_ok d hsm
  rw [← check_eq d] at hf
  clear call hnot h1 hr
  by_cases hc : d.check = 0
  · have gd := good_of_check hc
    have hnw := gd.nw
    rw [hc] at hf hce
    have hMs : d.sN < 100000 := by
      have h1 := sel_len d
      have h2 := nT_in hc
      have h3 : (d.nT : Int) = d.manyL d.nl := by
        show ((d.manyL d.nl).toNat : Int) = _
        omega
      omega
    have hsu : Pure Try.prog 20 [dayV d] (.tup [if d.sN = 0 then nl3 else trsV d.sN d.nw d.nl (fun k => (d.sT k).fe) (fun k => (d.sT k).st), iV (if d.sN = 0 then 11 else 0)]) := sure_ok d _ _ _ _ _ hMs hf (truths_ok d gd (nT_in hc).1 (nT_in hc).2)
    have hfe := fewestA_ok d hsm hc
    by_cases ho : d.seen.outs = []
    · have hM : d.sN = 0 := (sel_nil hc).2 ho
      rw [if_pos hM, if_pos hM] at hsu
      rw [show d.fewL = nl3 from if_pos ho, show d.fewN = 11 from if_pos ho] at hfe
      refine SW.seq ((fw_2 d 11 11 nl3 nl3 _ O hO hday hfe ⟨rfl, trivial⟩).mono fun e f st hm => ?_)
      obtain ⟨rfl, g, rfl, h, rfl⟩ := hm
      refine SW.seq ((fw_3 d 11 11 nl3 nl3 _ O hO hsu h).mono fun e f st hm => ?_)
      clear h; obtain ⟨rfl, g, rfl, h, rfl⟩ := hm
      exact fw_4a d 11 11 nl3 nl3 _ O hO haw (by decide) h
    · have hM : ¬ d.sN = 0 := fun h => ho ((sel_nil hc).1 h)
      rw [if_neg hM, if_neg hM] at hsu
      rw [show d.fewL = fewV (d.setQ d.seen.outs) d.nw from if_neg ho, show d.fewN = fewE (d.setQ d.seen.outs) d.nw from if_neg ho] at hfe
      have hset : ∀ n, n < 2 ^ d.nw → Pure Try.prog 49 [dayV d, trsV d.sN d.nw d.nl (fun k => (d.sT k).fe) (fun k => (d.sT k).st), iV (Int.ofNat n)] (.sb (setR (fun k => (d.tally (d.sT k)).flats) (fun k => (d.sT k).fe) (Int.ofNat n) d.nw d.sN)) := fun n _ =>
        settle49_ok d hnw d.sN _ _ (Int.ofNat n) hMs (fun k => (d.tally (d.sT k)).flats) (fun k => (d.tally (d.sT k)).hands) (fun k => (d.tally (d.sT k)).loose) (fun k => (d.tally (d.sT k)).spare) (fun k => d.bun (d.sT k)) (fun k => d.lef (d.sT k)) fun i hi => playN_ok' gd (sel_fit hc hi)
      have href := refFewest_ok d hnw (trsV d.sN d.nw d.nl (fun k => (d.sT k).fe) (fun k => (d.sT k).st)) (trsV_below _ _ _ _ _) (fun n => setR (fun k => (d.tally (d.sT k)).flats) (fun k => (d.sT k).fe) (Int.ofNat n) d.nw d.sN) hset
      rw [fewS_find (n := d.nw) (by omega) (P := fun n => setR (fun k => (d.tally (d.sT k)).flats) (fun k => (d.sT k).fe) (Int.ofNat n) d.nw d.sN) (Q := d.setQ d.seen.outs) fun b hb => settle_same hc hb] at href
      generalize trsV d.sN d.nw d.nl (fun k => (d.sT k).fe) (fun k => (d.sT k).st) = A at hsu href
      clear hset
      unfold fewV fewE at hfe
      cases hq : (risL d.nw).find? (d.setQ d.seen.outs) with
      | none =>
        rw [hq] at hfe href
        refine SW.seq ((fw_2 d 10 0 nl3 A _ O hO hday hfe ⟨rfl, trivial⟩).mono fun e f st hm => ?_)
        obtain ⟨rfl, g, rfl, h, rfl⟩ := hm
        refine SW.seq ((fw_3 d 10 0 nl3 A _ O hO hsu h).mono fun e f st hm => ?_)
        clear h; obtain ⟨rfl, g, rfl, h, rfl⟩ := hm
        refine SW.seq ((fw_4b d 10 0 nl3 A _ O hO h).mono fun e f st hm => ?_)
        clear h; obtain ⟨rfl, g, rfl, h, rfl⟩ := hm
        refine SW.seq ((fw_5 d 10 0 nl3 A _ O hO nl3 false href h).mono fun e f st hm => ?_)
        clear h; obtain ⟨rfl, g, rfl, h, rfl⟩ := hm
        exact fw_6a d 10 0 nl3 A _ O hO haw nl3 h
      | some l =>
        rw [hq] at hfe href
        have hlen : l.length < 1000 := by
          have h1 := risL_len (find_in hq).1
          omega
        have hi : Pure Try.prog 29 [lsV l, lsV l] (.lit (.bool true)) := (ints_ok l.length false (lI l) l.length false (lI l) hlen).res (Eqv.lit (by
          unfold intsEq
          rw [allN_true fun i hi => decide_eq_true rfl]; simp))
        obtain ⟨X, hX⟩ : ∃ X, lsV l = X := ⟨_, rfl⟩
        have hfe2 : Pure Try.prog 27 [dayV d] (.tup [X, iV 0]) := by rw [← hX]; exact hfe
        have href2 : Pure Try.prog 28 [dayV d, A] (.tup [X, .lit (.bool true)]) := by rw [← hX]; exact href
        rw [hX] at hi
        refine SW.seq ((fw_2 d 0 0 X A _ O hO hday hfe2 ⟨rfl, trivial⟩).mono fun e f st hm => ?_)
        obtain ⟨rfl, g, rfl, h, rfl⟩ := hm
        refine SW.seq ((fw_3 d 0 0 X A _ O hO hsu h).mono fun e f st hm => ?_)
        clear h; obtain ⟨rfl, g, rfl, h, rfl⟩ := hm
        refine SW.seq ((fw_4b d 0 0 X A _ O hO h).mono fun e f st hm => ?_)
        clear h; obtain ⟨rfl, g, rfl, h, rfl⟩ := hm
        refine SW.seq ((fw_5 d 0 0 X A _ O hO X true href2 h).mono fun e f st hm => ?_)
        clear h; obtain ⟨rfl, g, rfl, h, rfl⟩ := hm
        exact fw_6b d 0 0 X A _ O hO haw X hi h
  · have hsu := sure_bad d d.check hc hf
    have hfe := fewest_err d d.check hc (open_bad d _ d.check hc hce)
    generalize d.check = c at hc hf hce hsu hfe
    refine SW.seq ((fw_2 d c c nl3 nl3 _ O hO hday hfe ⟨rfl, trivial⟩).mono fun e f st hm => ?_)
    obtain ⟨rfl, g, rfl, h, rfl⟩ := hm
    refine SW.seq ((fw_3 d c c nl3 nl3 _ O hO hsu h).mono fun e f st hm => ?_)
    clear h; obtain ⟨rfl, g, rfl, h, rfl⟩ := hm
    exact fw_4a d c c nl3 nl3 _ O hO haw hc h
end Go.Fz
