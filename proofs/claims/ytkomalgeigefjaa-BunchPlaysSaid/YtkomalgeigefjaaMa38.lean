/- Own work of the verifier of watercress: FzB18, FzB19. -/
import Derived.Test.YtkomalgeigefjaaMa36
import Derived.Test.YtkomalgeigefjaaMa31
import Derived.Test.YtkomalgeigefjaaMa37
set_option linter.unusedVariables false
set_option linter.unusedSimpArgs false
namespace Go.Fz
open Go.Proofs
set_option maxRecDepth 100000
def mnN (lo hi : Nat → Int) : Nat → Int
  | 0 => 1
  | i + 1 => minI 3000 (mul64 (mnN lo hi i) (size64 (lo i) (hi i)))
theorem size64_in {lo hi : Int} (h1 : 0 ≤ lo) (h2 : lo ≤ hi) (h3 : hi ≤ 5000) : size64 lo hi = hi - lo + 1 := by
  unfold size64
  rw [sub64_in _ _ (by omega) (by omega), add64_in _ _ (by omega) (by omega)]
theorem mn_pr (lo hi : Nat → Int) (M : Nat) (hr : ∀ i, i < M → 0 ≤ lo i ∧ lo i ≤ hi i ∧ hi i ≤ 5000) : ∀ i, i ≤ M → (1 ≤ mnN lo hi i ∧ mnN lo hi i ≤ 3000) ∧ ((∀ j, j < i → prN lo hi (j + 1) ≤ 2000) → prN lo hi i = mnN lo hi i ∧ mnN lo hi i ≤ 2000) ∧ ((∃ j, j < i ∧ 2000 < prN lo hi (j + 1)) → 2000 < mnN lo hi i)
  | 0, _ => ⟨⟨by simp [mnN], by simp [mnN]⟩, fun _ => ⟨rfl, by simp [mnN]⟩, fun ⟨j, hj, _⟩ => absurd hj (Nat.not_lt_zero j)⟩
  | i + 1, hi' => by
    obtain ⟨⟨a1, a2⟩, ih1, ih2⟩ := mn_pr lo hi M hr i (by omega)
    obtain ⟨r1, r2, r3⟩ := hr i (by omega)
    have hs := size64_in r1 r2 r3
    obtain ⟨s, hsd⟩ : ∃ s, s = size64 (lo i) (hi i) := ⟨_, rfl⟩
    have hs1 : 1 ≤ s := by omega
    have hs2 : s ≤ 5001 := by omega
    have em : mnN lo hi (i + 1) = minI 3000 (mul64 (mnN lo hi i) s) := by rw [hsd]; rfl
    have ep : prN lo hi (i + 1) = mul64 (prN lo hi i) s := by rw [hsd]; rfl
    have b1 : mnN lo hi i ≤ mnN lo hi i * s := by
      have := Int.mul_le_mul_of_nonneg_left hs1 (show 0 ≤ mnN lo hi i by omega)
      omega
    have b2 : mnN lo hi i * s ≤ 3000 * 5001 := Int.mul_le_mul a2 hs2 (by omega) (by omega)
    have em2 : mul64 (mnN lo hi i) s = mnN lo hi i * s := mul64_in _ _ (by omega) (by omega)
    have emin : mnN lo hi (i + 1) = if mnN lo hi i * s < 3000 then mnN lo hi i * s else 3000 := by rw [em, em2]; rfl
    refine ⟨by rw [emin]; split <;> omega, fun hall => ?_, fun ⟨j, hj, hjp⟩ => ?_⟩
    · obtain ⟨e1, e2⟩ := ih1 fun j hj => hall j (by omega)
      have hl := hall i (by omega)
      rw [ep, e1, em2] at hl
      rw [ep, e1, em2, emin]
      split <;> omega
    · by_cases hex : ∃ j, j < i ∧ 2000 < prN lo hi (j + 1)
      · have := ih2 hex
        rw [emin]; split <;> omega
      · have hall : ∀ j, j < i → prN lo hi (j + 1) ≤ 2000 := fun j hj => by
          rcases Int.lt_or_le 2000 (prN lo hi (j + 1)) with h | h
          · exact absurd ⟨j, hj, h⟩ hex
          · exact h
        obtain ⟨e1, e2⟩ := ih1 hall
        have : j = i := by
          rcases Nat.lt_succ_iff_lt_or_eq.1 hj with h | h
          · exact absurd ⟨j, h, hjp⟩ hex
          · exact h
        subst this
        rw [ep, e1, em2] at hjp
        rw [emin]; split <;> omega
theorem manyW_mn (d : DayD) : ∀ i, i ≤ d.nw → d.manyW i = mnN d.ulo d.uhi i
  | 0, _ => rfl
  | i + 1, h => by
    have : i < d.nw := by omega
    show minI 3000 (mul64 (d.manyW i) (size64 (d.wlo i) (d.whi i))) = minI 3000 (mul64 (mnN d.ulo d.uhi i) (size64 (d.ulo i) (d.uhi i)))
    rw [manyW_mn d i (by omega)]
    simp only [DayD.ulo, DayD.uhi, this, if_true]
theorem manyL_mn (d : DayD) : ∀ j, d.manyL j = mnN d.ulo d.uhi (d.nw + j)
  | 0 => manyW_mn d d.nw (Nat.le_refl _)
  | j + 1 => by
    have : ¬ d.nw + j < d.nw := by omega
    show minI 3000 (mul64 (d.manyL j) (size64 (d.llo j) (d.lhi j))) = minI 3000 (mul64 (mnN d.ulo d.uhi (d.nw + j)) (size64 (d.ulo (d.nw + j)) (d.uhi (d.nw + j))))
    rw [manyL_mn d j]
    simp only [DayD.ulo, DayD.uhi, this, if_false, Nat.add_sub_cancel_left]
theorem lot_eq (d : DayD) (i : Nat) : d.lotOk i = d.lotN i := by
  have : d.hasW (d.lw i) = inB (d.lw i) 0 ((d.nw : Int) - 1) := by
    rw [Bool.eq_iff_iff]; simp only [DayD.hasW, inB, Bool.and_eq_true, decide_eq_true_eq]; omega
  unfold DayD.lotOk DayD.lotN
  rw [this]
theorem cnt_eq (d : DayD) (h : 0 < d.nw) (i : Nat) : d.cntOk i = d.cntN i := by
  unfold DayD.cntOk DayD.cntN
  generalize withinB (d.clo i) (d.chi i) 0 20000 = w
  cases w
  · simp
  · rw [Bool.eq_iff_iff]
    simp only [DayD.hasW, inB, Bool.and_eq_true, Bool.or_eq_true, decide_eq_true_eq, Bool.and_true, Bool.true_and, and_true, true_and]
    by_cases hk : 1 < d.ck i
    · simp only [hk, if_true, decide_eq_true_eq]; omega
    · simp only [hk, if_false, Bool.and_eq_true, decide_eq_true_eq]; omega
theorem valid_eq (d : DayD) : d.validB = d.validN := by
  unfold DayD.validB DayD.validN
  by_cases h : 0 < d.nw
  · rw [show allN d.nl d.lotOk = allN d.nl d.lotN from allN_congr fun i _ => lot_eq d i, show allN d.nc d.cntOk = allN d.nc d.cntN from allN_congr fun i _ => cnt_eq d h i]
    rfl
  · simp [h]
theorem check_eq (d : DayD) : d.check = d.faultN := by
  unfold DayD.check DayD.faultN
  rw [← valid_eq]
  by_cases h1 : d.long = true
  · rw [if_pos h1, if_pos h1]
  · rw [if_neg h1, if_neg h1]
    by_cases h2 : d.validB = true
    · rw [if_pos h2, if_pos h2]
      have g := good_of_valid (by simpa using h1) h2
      have hr : ∀ i, i < d.nw + d.nl → 0 ≤ d.ulo i ∧ d.ulo i ≤ d.uhi i ∧ d.uhi i ≤ 5000 := fun i hi => by
        unfold DayD.ulo DayD.uhi
        by_cases hc : i < d.nw
        · have := g.wom i hc
          simp only [hc, if_true]; omega
        · have := g.lot (i - d.nw) (by omega)
          simp only [hc, if_false]; omega
      obtain ⟨_, m1, m2⟩ := mn_pr d.ulo d.uhi (d.nw + d.nl) hr (d.nw + d.nl) (Nat.le_refl _)
      rw [manyL_mn]
      by_cases hall : ∀ j, j < d.nw + d.nl → prN d.ulo d.uhi (j + 1) ≤ 2000
      · have hb : manyB d.ulo d.uhi (d.nw + d.nl) = false := by
          unfold manyB; rw [allN_true fun j hj => by simpa using hall j hj]; rfl
        obtain ⟨_, e2⟩ := m1 hall
        rw [hb, if_neg (by simp), if_neg (by omega)]
      · have hex : ∃ j, j < d.nw + d.nl ∧ 2000 < prN d.ulo d.uhi (j + 1) := by
          apply Classical.byContradiction
          intro hn
          refine hall fun j hj => ?_
          rcases Int.lt_or_le 2000 (prN d.ulo d.uhi (j + 1)) with h | h
          · exact absurd ⟨j, hj, h⟩ hn
          · exact h
        have hb : manyB d.ulo d.uhi (d.nw + d.nl) = true := by
          obtain ⟨j, hj, hp⟩ := hex
          unfold manyB; rw [allN_false (i := j) hj (by simpa using hp)]; rfl
        rw [hb, if_pos rfl, if_pos (m2 hex)]
    · rw [if_neg h2, if_neg h2]
theorem stemN_bound {d : DayD} {t : TruD} (hst : ∀ i, i < d.nl → 0 ≤ t.st i ∧ t.st i ≤ 5000) (w : Int) : ∀ j, j ≤ d.nl → j ≤ 4 → 0 ≤ stemN d t.st w j ∧ stemN d t.st w j ≤ 5000 * j
  | 0, _, _ => by simp [stemN]
  | j + 1, h, h4 => by
    obtain ⟨h1, h2⟩ := stemN_bound hst w j (by omega) (by omega)
    have := hst j (by omega)
    show 0 ≤ (if d.lw j = w then add64 (stemN d t.st w j) (t.st j) else stemN d t.st w j) ∧ (if d.lw j = w then add64 (stemN d t.st w j) (t.st j) else stemN d t.st w j) ≤ 5000 * ((j + 1 : Nat) : Int)
    split
    · rw [add64_in _ _ (by omega) (by omega)]; omega
    · omega
theorem sumN_bound {b : Nat → Int} {M : Nat} (hb : ∀ i, i < M → 0 ≤ b i ∧ b i ≤ 20000) : ∀ i, i ≤ M → i ≤ 4 → 0 ≤ sumN b i ∧ sumN b i ≤ 20000 * i
  | 0, _, _ => by simp [sumN]
  | i + 1, h, h4 => by
    obtain ⟨h1, h2⟩ := sumN_bound hb i (by omega) (by omega)
    have := hb i (by omega)
    show 0 ≤ add64 (sumN b i) (b i) ∧ add64 (sumN b i) (b i) ≤ 20000 * ((i + 1 : Nat) : Int)
    rw [add64_in _ _ (by omega) (by omega)]; omega
theorem tally_bounds {d : DayD} {t : TruD} (g : d.Good) (h : d.fits t = true) : (∀ w : Nat, w < d.nw → 1 ≤ t.fe w) ∧ (∀ w : Nat, w < d.nw → 0 ≤ stemN d t.st w d.nl ∧ stemN d t.st w d.nl ≤ 1000000000) ∧ 0 ≤ d.all t ∧ d.all t ≤ 1000000000 := by
  obtain ⟨h1, h2, h3, h4⟩ := fits_true h
  have f1 : ∀ w : Nat, w < d.nw → 1 ≤ t.fe w := fun w hw => by have := h3 w hw; have := g.wom w hw; omega
  have s1 : ∀ i, i < d.nl → 0 ≤ t.st i ∧ t.st i ≤ 5000 := fun i hi => by have := h4 i hi; have := g.lot i hi; omega
  have hnl := g.nl
  have hnw := g.nw
  have s2 : ∀ w : Int, 0 ≤ stemN d t.st w d.nl ∧ stemN d t.st w d.nl ≤ 20000 := fun w => by
    obtain ⟨a, b⟩ := stemN_bound s1 w d.nl (Nat.le_refl _) hnl
    omega
  have b1 : ∀ i, i < d.nw → 0 ≤ d.bun t i ∧ d.bun t i ≤ 20000 := fun i hi => by
    unfold DayD.bun
    rw [h2]
    have := s2 i
    obtain ⟨k1, k2, _⟩ := tdiv_nn this.1 (f1 i hi)
    rw [quo64_nn this.1 (by omega) (f1 i hi)]; omega
  obtain ⟨a, b⟩ := sumN_bound b1 d.nw (Nat.le_refl _) hnw
  exact ⟨f1, fun w _ => by have := s2 w; omega, a, by show sumN (d.bun t) d.nw ≤ _; omega⟩
end Go.Fz
namespace Go.Fz
open Go.Proofs
set_option maxRecDepth 100000
theorem fault13_ok (d : DayD) (hs : d.small) : Pure Try.prog 13 [dayV d] (iV d.faultN) := by
  obtain ⟨O, hO⟩ : ∃ O : Ar, O = std := ⟨_, rfl⟩
  refine pure_of_body tok 3 Try.func13 en13 rfl ⟨dayV_below d, trivial⟩ Below.lit ?_
  refine SW.seqRun tok hO (by cbv <;> rfl) (by trivial) ?_
  refine SW.seqRun tok hO (by cbv <;> rfl) (by trivial) ?_
  refine OpsW.callI (fault_ok d hs) (by cbv <;> rfl) fun e he => ?_
  refine OpsW.run tok hO (by cbv <;> rfl) (by trivial) ?_
  exact SW.ret ⟨_, _, rfl, rfl, Eqv.int he⟩
def DayD.thinB (d : DayD) : Bool := decide (d.nw ≤ 6) && decide (d.nl ≤ 6) && decide (d.nc ≤ 7) && (decide (d.faultN ≠ 0) || decide (d.manyL d.nl ≤ 200))
set_option maxHeartbeats 4000000 in
theorem thin_ok (d : DayD) : Pure Try.prog 7 [dayV d] (.sb d.thinB) := by
  obtain ⟨O, hO⟩ : ∃ O : Ar, O = std := ⟨_, rfl⟩
  refine pure_of_body tok 3 Try.func7 en7 rfl ⟨dayV_below d, trivial⟩ Below.sb ?_
  refine SW.seqRun tok hO (by cbv <;> rfl) (by trivial) ?_
  refine SW.seqRun tok hO (by cbv <;> rfl) (by trivial) ?_
  refine OpsW.splitG (by cbv <;> rfl) (fun h1 => ?_) (fun h1 => ?_) <;> refine OpsW.run tok hO (by cbv <;> rfl) (by trivial) ?_
  rotate_left
  · have : ¬ (d.nw : Int) ≤ 6 := by subst hO; simpa [std] using h1
    refine SW.ret ⟨_, _, rfl, rfl, Eqv.bool ?_⟩
    have : ¬ d.nw ≤ 6 := by omega
    simp [DayD.thinB, this]
  have k1' : (d.nw : Int) ≤ 6 := by subst hO; simpa [std] using h1
  have k1 : d.nw ≤ 6 := by omega
  refine OpsW.splitG (by cbv <;> rfl) (fun h2 => ?_) (fun h2 => ?_) <;> refine OpsW.run tok hO (by cbv <;> rfl) (by trivial) ?_
  rotate_left
  · have : ¬ (d.nl : Int) ≤ 6 := by subst hO; simpa [std] using h2
    refine SW.ret ⟨_, _, rfl, rfl, Eqv.bool ?_⟩
    have : ¬ d.nl ≤ 6 := by omega
    simp [DayD.thinB, this]
  have k2' : (d.nl : Int) ≤ 6 := by subst hO; simpa [std] using h2
  have k2 : d.nl ≤ 6 := by omega
  refine OpsW.splitG (by cbv <;> rfl) (fun h3 => ?_) (fun h3 => ?_) <;> refine OpsW.run tok hO (by cbv <;> rfl) (by trivial) ?_
  rotate_left
  · have : ¬ (d.nc : Int) ≤ 7 := by subst hO; simpa [std] using h3
    refine SW.ret ⟨_, _, rfl, rfl, Eqv.bool ?_⟩
    have : ¬ d.nc ≤ 7 := by omega
    simp [DayD.thinB, this]
  have k3' : (d.nc : Int) ≤ 7 := by subst hO; simpa [std] using h3
  have k3 : d.nc ≤ 7 := by omega
  have hs : d.small := ⟨by omega, by omega, by omega⟩
  refine OpsW.callI (fault_ok d hs) (by cbv <;> rfl) fun e he => ?_
  refine OpsW.run tok hO (by cbv <;> rfl) (by trivial) ?_
  refine OpsW.splitG (by cbv <;> rfl) (fun h4 => ?_) (fun h4 => ?_) <;> refine OpsW.run tok hO (by cbv <;> rfl) (by trivial) ?_
  · have : d.faultN ≠ 0 := by subst hO; rw [← he]; simpa [std] using h4
    refine SW.ret ⟨_, _, rfl, rfl, Eqv.bool ?_⟩
    simp [DayD.thinB, this, k1, k2, k3]
  · have h5 : ¬ d.faultN ≠ 0 := by subst hO; rw [← he]; simpa [std] using h4
    refine OpsW.callI (many_ok d hs) (by cbv <;> rfl) fun m hm => ?_
    refine OpsW.run tok hO (by cbv <;> rfl) (by trivial) ?_
    refine SW.ret ⟨_, _, rfl, rfl, Eqv.sb ?_⟩
    subst hO
    simp [DayD.thinB, k1, k2, k3, h5, std, ← hm]
theorem playN_ok' {d : DayD} {t : TruD} (g : d.Good) (h : d.fits t = true) : Pure Try.prog 18 [dayV d, truV t] (talV (d.tally t)) := by
  obtain ⟨h1, h2, h3, h4⟩ := fits_true h
  obtain ⟨b1, b2, b3, b4⟩ := tally_bounds g h
  exact playN_ok d t h1 h2 g.nw g.nl b1 g.hand.1 g.flat.1 b2 b3 b4
def DayD.truthN (d : DayD) (t : TruD) : Bool := d.fits t && allN d.nc (d.rightB (d.tally t))
set_option maxHeartbeats 4000000 in
theorem isTruth_ok (d : DayD) (g : d.Good) (t : TruD) (hf : t.nf < 1000) (hn : t.ns < 1000) : Pure Try.prog 15 [dayV d, truV t] (.sb (d.truthN t)) := by
  obtain ⟨O, hO⟩ : ∃ O : Ar, O = std := ⟨_, rfl⟩
  have hnat : ∀ i : Nat, O.nat (Int.ofNat i) = i := fun i => by subst hO; rfl
  have hnot : ∀ b, O.not b = !b := fun b => by subst hO; rfl
  have hnc := g.nc
  have htr : d.truthN t = (d.fits t && allN d.nc (d.rightB (d.tally t))) := rfl
  have e1 := isListed_ok d t hf hn
  have e2 := fun h => playN_ok' (t := t) g h
  have e3 : ∀ i, i < d.nc → Pure Try.prog 40 [talV (d.tally t), cntV d i] (.sb (d.rightB (d.tally t) i)) := fun i hi => rightN_ok d (d.tally t) i (g.cnt i hi).2.1.1 (g.cnt i hi).2.1.2
  generalize d.fits t = F at e1 e2 htr
  generalize d.rightB (d.tally t) = R at e3 htr
  generalize d.tally t = Y at e2 e3
  rw [htr]
  refine pure_of_body tok 3 Try.func15 en15 rfl ⟨dayV_below d, truV_below t, trivial⟩ Below.sb ?_
  refine SW.seqRun tok hO (by cbv <;> rfl) (by trivial) ?_
  refine SW.seq ?_
  refine SW.seqRun tok hO (by cbv <;> rfl) (by trivial) ?_
  refine OpsW.callP e1 (by cbv <;> rfl) ?_
  refine OpsW.run tok hO (by cbv <;> rfl) (by trivial) ?_
  refine SW.condS (by cbv <;> rfl) (fun h => ?_) (fun h => SW.skip ?_)
  · refine SW.seqRun tok hO (by cbv <;> rfl) (by trivial) ?_
    refine SW.ret ⟨_, _, rfl, rfl, Eqv.bool ?_⟩
    rw [show F = false by simpa using (hnot F).symm.trans h]; rfl
  obtain rfl : F = true := by simpa using (hnot F).symm.trans h
  refine SW.seqRun tok hO (by cbv <;> rfl) (by trivial) ?_
  refine OpsW.callP (e2 rfl) (by cbv <;> rfl) ?_
  refine OpsW.run tok hO (by cbv <;> rfl) (by trivial) ?_
  refine SW.seq ?_
  refine SW.seqRun tok hO (by cbv <;> rfl) (by trivial) ?_
  refine (SW.block (SW.loopF (fun i : Nat => ⟨⟨29, getT [(2, .ptr 0 0), (5, .ptr 2 0), (6, iV i)]⟩, []⟩) (fun _ => ⟨[(2, .cells none false (talC Y)), (0, .cells none false (dayC d))], 3⟩) (fun i => d.nc - i)
    (fun i => i ≤ d.nc ∧ ∀ j, j < i → R j = true) 0
    (fun _ => rfl) ⟨Nat.zero_le _, fun j hj => absurd hj (Nat.not_lt_zero j)⟩ (Weak.by rfl rfl (by simp) (Nat.le_refl _) (Nat.le_refl _) ⟨⟨rfl, .inl rfl⟩, ⟨rfl, .inl rfl⟩, ⟨rfl, .inl rfl⟩, trivial⟩ ⟨⟨rfl, by omega, .inl rfl⟩, ⟨rfl, by omega, .inl rfl⟩, trivial⟩) fun i ⟨hi, hall⟩ => ?_))
  refine SW.seq ?_
  refine SW.seqRun tok hO (by cbv <;> rfl) (by trivial) ?_
  refine SW.condS (by cbv <;> rfl) (fun h => SW.skip ?_) (fun h => SW.exit ?_)
  · have hlt : i < d.nc := by subst hO; simpa [std] using h
    have h0 : (0 : Int) ≤ Int.ofNat i := Int.natCast_nonneg i
    have call := e3 i hlt
    unfold cntV at call
    rw [← hnat i] at call
    refine SW.seq (SW.block ?_)
    refine SW.seqRunD tok mixed hO (by rfl) (by cbv <;> rfl) ?_ ?_
    · exact ⟨h0, Int.ofNat_lt.2 hlt⟩
    refine AnyE.callD call (by cbv <;> rfl) (by cbv <;> rfl) (fun hb => ?_) (fun hb => ?_) <;> rw [hnat] at hb
    · refine AnyE.run tok hO (by rfl) (by cbv <;> rfl) (by trivial) ?_
      refine SW.cond (t := false) (by cbv <;> rfl) (SW.skip ?_)
      refine SW.run tok hO (by cbv <;> rfl) (by trivial) ?_
      refine ⟨i + 1, by omega, ⟨by omega, fun j hj => ?_⟩, Weak.by rfl rfl (by simp) (Nat.le_refl _) (Nat.le_refl _) ⟨⟨rfl, .inl rfl⟩, ⟨rfl, .inl rfl⟩, ⟨inc_ok hO (by omega), .inl rfl⟩, trivial⟩ ⟨⟨rfl, by omega, .inl rfl⟩, ⟨rfl, by omega, .inl rfl⟩, trivial⟩⟩
      rcases Nat.lt_succ_iff_lt_or_eq.1 hj with hj | rfl
      · exact hall j hj
      · exact hb
    · refine AnyE.run tok hO (by rfl) (by cbv <;> rfl) (by trivial) ?_
      refine SW.cond (t := true) (by cbv <;> rfl) ?_
      refine SW.seqRun tok hO (by cbv <;> rfl) (by trivial) ?_
      refine SW.ret ⟨_, _, rfl, rfl, Eqv.bool ?_⟩
      rw [allN_false hlt hb]; simp
  · have hge : d.nc ≤ i := by subst hO; simpa [std] using h
    refine SW.seqRun tok hO (by cbv <;> rfl) (by trivial) ?_
    refine SW.ret ⟨_, _, rfl, rfl, Eqv.bool ?_⟩
    rw [allN_true fun j hj => hall j (by omega)]; rfl
theorem proveT_eq (d : DayD) (t : TruD) : d.proveT t = (decide (d.faultN = 0) && d.truthN t) := by
  unfold DayD.proveT DayD.truthN
  rw [check_eq, Bool.and_assoc]
end Go.Fz
