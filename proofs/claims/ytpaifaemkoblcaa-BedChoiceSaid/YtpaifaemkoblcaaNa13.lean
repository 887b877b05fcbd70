/- Own work of the verifier of watercress: FzX1. -/
import Derived.Test.YtpaifaemkoblcaaNa12
set_option linter.unusedVariables false
set_option linter.unusedSimpArgs false
namespace Go.Fz
def FarmD.prodN (f : FarmD) : Nat → Int
  | 0 => 1
  | s + 1 => f.prodN s * (f.shi s - f.slo s + 1)
theorem FarmD.prod_le (f : FarmD) (h : ∀ s, s < f.ns → 0 ≤ f.slo s ∧ f.slo s ≤ f.shi s ∧ f.shi s ≤ 30) : ∀ s, s ≤ f.ns → 1 ≤ f.prodN s ∧ f.prodN s ≤ 31 ^ s
  | 0, _ => ⟨Int.le_refl _, Int.le_refl _⟩
  | s + 1, hs => by
    obtain ⟨h1, h2⟩ := f.prod_le h s (by omega)
    obtain ⟨h3, h4, h5⟩ := h s (by omega)
    have hz : 1 ≤ f.shi s - f.slo s + 1 ∧ f.shi s - f.slo s + 1 ≤ 31 := by omega
    generalize f.shi s - f.slo s + 1 = z at hz
    refine ⟨?_, ?_⟩
    · show 1 ≤ f.prodN s * _
      calc (1 : Int) = 1 * 1 := rfl
        _ ≤ f.prodN s * _ := Int.mul_le_mul h1 (by omega) (by omega) (by omega)
    · show f.prodN s * _ ≤ _
      rw [Int.pow_succ]
      exact Int.mul_le_mul h2 (by omega) (by omega) (by omega)
theorem FarmD.sizes_eq (f : FarmD) (hns : f.ns ≤ 4) (h : ∀ s, s < f.ns → 0 ≤ f.slo s ∧ f.slo s ≤ f.shi s ∧ f.shi s ≤ 30) : ∀ s, s ≤ f.ns → f.sizesN s = f.prodN s ∧ f.manyN s = minI 3000 (f.prodN s)
  | 0, _ => ⟨rfl, rfl⟩
  | s + 1, hs => by
    obtain ⟨h1, h2⟩ := f.sizes_eq hns h s (by omega)
    obtain ⟨h3, h4, h5⟩ := h s (by omega)
    obtain ⟨k1, k2⟩ := f.prod_le h (s + 1) hs
    obtain ⟨k3, k4⟩ := f.prod_le h s (by omega)
    have hp : (31 : Int) ^ (s + 1) ≤ 923521 := by
      have : s + 1 = 1 ∨ s + 1 = 2 ∨ s + 1 = 3 ∨ s + 1 = 4 := by omega
      rcases this with h | h | h | h <;> rw [h] <;> decide
    have e1 : f.prodN (s + 1) = f.prodN s * (f.shi s - f.slo s + 1) := rfl
    have hz := size64_in h3 h4 (by omega)
    have hzb : 1 ≤ f.shi s - f.slo s + 1 ∧ f.shi s - f.slo s + 1 ≤ 31 := by omega
    refine ⟨?_, ?_⟩
    · show mul64 (f.sizesN s) (size64 _ _) = _
      rw [h1, hz]
      show wrp .i64 (f.prodN s * _) = f.prodN s * _
      rw [← e1]
      exact wrp_in (by simp only [IntKind.lo]; omega) (by simp only [IntKind.hi]; omega)
    · show minI 3000 (mul64 (f.manyN s) (size64 _ _)) = _
      rw [h2, hz]
      rw [e1] at k1 k2 ⊢
      generalize f.shi s - f.slo s + 1 = z at *
      generalize f.prodN s = p at *
      have hm : mul64 (minI 3000 p) z = minI 3000 p * z := by
        have hb : 1 ≤ minI 3000 p ∧ minI 3000 p ≤ 3000 := by unfold minI; split <;> omega
        have k5 : minI 3000 p * z ≤ 3000 * 31 := Int.mul_le_mul hb.2 hzb.2 (by omega) (by omega)
        have k6 : (0 : Int) ≤ minI 3000 p * z := Int.mul_nonneg (by omega) (by omega)
        exact wrp_in (by simp only [IntKind.lo]; omega) (by simp only [IntKind.hi]; omega)
      rw [hm]
      unfold minI
      split
      · rfl
      · rename_i hp3
        have k7 : 3000 * 1 ≤ 3000 * z := Int.mul_le_mul (Int.le_refl _) hzb.1 (by omega) (by omega)
        have k8 : 3000 * z ≤ p * z := Int.mul_le_mul_of_nonneg_right (by omega) (by omega)
        rw [if_neg (by omega), if_neg (by omega)]
theorem FarmD.check_eq (f : FarmD) : f.check = f.faultN := by
  unfold FarmD.check FarmD.faultN
  split
  · rfl
  · rename_i hl
    split
    · rename_i hv
      have g := good_of_valid (by simpa using hl) hv
      obtain ⟨h1, h2⟩ := f.sizes_eq g.ns (fun s hs => (g.spring s hs).2) f.ns (Nat.le_refl _)
      rw [h1, h2]
      unfold minI
      by_cases h3 : f.prodN f.ns < 3000
      · rw [if_pos h3]
      · rw [if_neg h3, if_pos (by omega), if_pos (by omega)]
    · rfl
theorem FarmD.playS_eq (f : FarmD) (hs : ∀ s, s < f.ns → 0 ≤ f.sb s) (fl : Nat → Int) (b : Nat) : ∀ s, s ≤ f.ns → playS f fl s b 0 = f.inS fl b s
  | 0, _ => rfl
  | s + 1, h => by
    have ih := f.playS_eq hs fl b s (by omega)
    have h0 := hs s (by omega)
    show (if (f.sb s).toNat = b ∧ (0 : Nat) = 0 then add64 (playS f fl s b 0) (fl s) else playS f fl s b 0) = (if f.sb s = (b : Int) then _ else _)
    rw [ih]
    by_cases hb : f.sb s = (b : Int)
    · rw [if_pos hb, if_pos ⟨by omega, rfl⟩]
    · rw [if_neg hb, if_neg (fun ⟨h1, _⟩ => hb (by omega))]
theorem pow2_le {b : Nat} (h : b < 8) : (2 : Int) ^ b ≤ 128 := by
  have : b = 0 ∨ b = 1 ∨ b = 2 ∨ b = 3 ∨ b = 4 ∨ b = 5 ∨ b = 6 ∨ b = 7 := by omega
  rcases this with h | h | h | h | h | h | h | h <;> rw [h] <;> decide
theorem pow2_pos (b : Nat) : (1 : Int) ≤ 2 ^ b := by
  induction b with
  | zero => decide
  | succ n ih => rw [Int.pow_succ]; omega
theorem FarmD.inS_bound (f : FarmD) (fl : Nat → Int) (hns : f.ns ≤ 4) (hfl : ∀ s, s < f.ns → 0 ≤ fl s ∧ fl s ≤ 30) (b : Nat) : ∀ s, s ≤ f.ns → 0 ≤ f.inS fl b s ∧ f.inS fl b s ≤ 30 * s
  | 0, _ => ⟨Int.le_refl _, Int.le_refl _⟩
  | s + 1, h => by
    obtain ⟨h1, h2⟩ := f.inS_bound fl hns hfl b s (by omega)
    obtain ⟨h3, h4⟩ := hfl s (by omega)
    show 0 ≤ (if f.sb s = (b : Int) then _ else _) ∧ (if f.sb s = (b : Int) then _ else _) ≤ _
    split
    · rw [add64_in _ _ (by omega) (by omega)]; omega
    · omega
theorem FarmD.waN_bound (f : FarmD) (g : f.Good) (fl : Nat → Int) (hfl : ∀ s, s < f.ns → 0 ≤ fl s ∧ fl s ≤ 30) (b : Nat) : b < f.nb → 0 ≤ f.waN fl b ∧ f.waN fl b ≤ 120 * 2 ^ b := by
  induction b using Nat.strongRecOn with
  | _ b ih =>
    intro hb
    rw [f.waN_eq]
    have hns := g.ns
    have hnb := g.nb
    have key : ∀ i, i ≤ b → 0 ≤ f.inB fl (f.waN fl) b i ∧ f.inB fl (f.waN fl) b i ≤ 120 * 2 ^ i := by
      intro i
      induction i with
      | zero =>
        intro _
        obtain ⟨h1, h2⟩ := f.inS_bound fl hns hfl b f.ns (Nat.le_refl _)
        show 0 ≤ f.inS fl b f.ns ∧ f.inS fl b f.ns ≤ 120 * 1
        omega
      | succ i ihi =>
        intro hi
        obtain ⟨h1, h2⟩ := ihi (by omega)
        obtain ⟨h3, h4⟩ := ih i (by omega) (by omega)
        obtain ⟨_, ⟨h5, h6⟩, _⟩ := g.bed i (by omega)
        have hp := pow2_le (b := i) (by omega)
        have hq := pow2_pos i
        have he : (2 : Int) ^ (i + 1) = 2 ^ i * 2 := Int.pow_succ 2 i
        rw [he]
        generalize (2 : Int) ^ i = p at *
        show 0 ≤ (if f.down i = (b : Int) then _ else _) ∧ (if f.down i = (b : Int) then _ else _) ≤ _
        split
        · rw [sub64_in _ _ (by omega) (by omega)]
          have : 0 ≤ maxI 0 (f.waN fl i - f.notch i) ∧ maxI 0 (f.waN fl i - f.notch i) ≤ f.waN fl i := by unfold maxI; split <;> omega
          rw [add64_in _ _ (by omega) (by omega)]
          omega
        · omega
    exact key b (Nat.le_refl _)
theorem over_eq {w k : Int} (h0 : 0 ≤ w) (h1 : w ≤ 20000) (h2 : 0 ≤ k) (h3 : k ≤ 9) : sub64 w (minI w k) = maxI 0 (sub64 w k) := by
  rw [sub64_in w k (by omega) (by omega)]
  unfold minI maxI
  split <;> rw [sub64_in _ _ (by omega) (by omega)] <;> split <;> omega
theorem FarmD.playB_eq (f : FarmD) (g : f.Good) (fl K : Nat → Int) (hK : ∀ b, b < f.nb → K b = f.notch b) (hfl : ∀ s, s < f.ns → 0 ≤ fl s ∧ fl s ≤ 30) : ∀ i, i ≤ f.nb → ∀ b, b < f.nb →
    (b < i → playB f K fl i b 0 = f.waN fl b ∧ playB f K fl i b 1 = minI (f.waN fl b) (f.notch b) ∧ playB f K fl i b 2 = sub64 (f.waN fl b) (minI (f.waN fl b) (f.notch b))) ∧
    (i ≤ b → playB f K fl i b 0 = f.inB fl (f.waN fl) b i)
  | 0, _, b, hb => ⟨fun h => absurd h (Nat.not_lt_zero b), fun _ => f.playS_eq (fun s hs => (g.spring s hs).1.1) fl b f.ns (Nat.le_refl _)⟩
  | i + 1, hi, b, hb => by
    have ih := f.playB_eq g fl K hK hfl i (by omega)
    have hnb := g.nb
    have hW : playB f K fl i i 0 = f.waN fl i := by rw [(ih i (by omega)).2 (Nat.le_refl _), ← f.waN_eq]
    obtain ⟨hw0, hw1⟩ := f.waN_bound g fl hfl i (by omega)
    have hp := pow2_le (b := i) (by omega)
    have hov : sub64 (f.waN fl i) (minI (f.waN fl i) (f.notch i)) = maxI 0 (sub64 (f.waN fl i) (f.notch i)) := over_eq hw0 (by omega) (g.bed i (by omega)).2.1.1 (g.bed i (by omega)).2.1.2
    have hd := (g.bed i (by omega)).2.2
    have hKi := hK i (by omega)
    have e0 : playB f K fl (i + 1) b 0 = if 0 ≤ f.down i ∧ (f.down i).toNat = b then add64 (playB f K fl i b 0) (sub64 (f.waN fl i) (minI (f.waN fl i) (f.notch i))) else playB f K fl i b 0 := by
      show stepB f K i (playB f K fl i) b 0 = _
      unfold stepB
      rw [if_pos rfl, hW, hKi]
    refine ⟨fun hlt => ?_, fun hle => ?_⟩
    · by_cases hbi : b = i
      · subst hbi
        refine ⟨?_, ?_, ?_⟩
        · rw [e0, if_neg (by omega), hW]
        · show stepB f K b (playB f K fl b) b 1 = _
          unfold stepB
          rw [if_neg (by decide), if_pos rfl, if_pos rfl, hW, hKi]
        · show stepB f K b (playB f K fl b) b 2 = _
          unfold stepB
          rw [if_neg (by decide), if_pos rfl, if_neg (by decide), hW, hKi]
      · obtain ⟨h1, h2, h3⟩ := (ih b hb).1 (by omega)
        refine ⟨?_, ?_, ?_⟩
        · rw [e0, if_neg (by omega), h1]
        · show stepB f K i (playB f K fl i) b 1 = _
          unfold stepB
          rw [if_neg (by decide), if_neg (fun h => hbi h.symm), h2]
        · show stepB f K i (playB f K fl i) b 2 = _
          unfold stepB
          rw [if_neg (by decide), if_neg (fun h => hbi h.symm), h3]
    · rw [e0, (ih b hb).2 (by omega), hov]
      show _ = (if f.down i = (b : Int) then _ else _)
      by_cases hdb : f.down i = (b : Int)
      · rw [if_pos hdb, if_pos (by omega)]
      · rw [if_neg hdb, if_neg (by omega)]
theorem FarmD.water_eq (f : FarmD) (g : f.Good) (fl : Nat → Int) (hfl : ∀ s, s < f.ns → 0 ≤ fl s ∧ fl s ≤ 30) (b : Nat) (hb : b < f.nb) :
    f.water fl b 0 = f.waN fl b ∧ f.water fl b 1 = f.downN fl b ∧ f.water fl b 2 = sub64 (f.waN fl b) (f.downN fl b) :=
  (f.playB_eq g fl (f.k0 f.nb) (fun b hb => by unfold FarmD.k0; rw [if_pos hb]) hfl f.nb (Nat.le_refl _) b hb).1 hb
end Go.Fz
