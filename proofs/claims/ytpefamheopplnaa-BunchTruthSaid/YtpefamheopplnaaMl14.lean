/- Own work of the verifier of watercress: FzB12. -/
import Derived.Test.YtpefamheopplnaaMl13
set_option linter.unusedVariables false
set_option linter.unusedSimpArgs false
namespace Go.Fz
open Go.Proofs
set_option maxRecDepth 100000
def DayD.lotN (d : DayD) (i : Nat) : Bool := inB (d.lw i) 0 ((d.nw : Int) - 1) && withinB (d.llo i) (d.lhi i) 0 5000
def DayD.womN (d : DayD) (i : Nat) : Bool := withinB (d.wlo i) (d.whi i) 1 60
def DayD.validN (d : DayD) : Bool := inB d.hand 1 20 && inB d.flat 1 20 && decide (0 < d.nw) && allN d.nw d.womN && allN d.nl d.lotN && allN d.nc d.cntN
def DayD.faultN (d : DayD) : Int := if d.long then 3 else if d.validN then (if 2000 < d.manyL d.nl then 3 else 0) else 1
set_option maxHeartbeats 8000000 in
theorem fault_ok (d : DayD) (hs : d.small) : Pure Try.prog 54 [dayV d] (iV d.faultN) := by
  obtain ⟨O, hO⟩ : ∃ O : Ar, O = std := ⟨_, rfl⟩
  have hs' := hs
  obtain ⟨hsw, hsl, hsc⟩ := hs
  have hnot : ∀ b, O.not b = !b := fun b => by subst hO; rfl
  have hnat : ∀ i : Nat, O.nat (Int.ofNat i) = i := fun i => by subst hO; rfl
  have long : d.long = true → ∀ (v : AV) (h : Hp), v = iV 3 → Eqv (frz h (fun _ => true) 3 v) (iV d.faultN) := fun hl v h hv => by
    subst hv; unfold DayD.faultN; rw [if_pos hl]; exact Eqv.refl _
  have bad : d.long = false → d.validN = false → ∀ (v : AV) (h : Hp), v = iV 1 → Eqv (frz h (fun _ => true) 3 v) (iV d.faultN) := fun hl hv v h he => by
    subst he; unfold DayD.faultN; rw [if_neg (by rw [hl]; simp), if_neg (by rw [hv]; simp)]; exact Eqv.refl _
  refine pure_of_body tok 3 Try.func54 en54 rfl ⟨dayV_below d, trivial⟩ Below.lit ?_
  refine SW.seqRun tok hO (by cbv <;> rfl) (by trivial) ?_
  refine SW.seq ?_
  refine SW.seqRun tok hO (by cbv <;> rfl) (by trivial) ?_
  have hlong : (4 < d.nw ∨ 4 < d.nl ∨ 5 < d.nc) → d.long = true := fun h => by
    simp only [DayD.long, Bool.or_eq_true, decide_eq_true_eq]; omega
  refine OpsW.splitG (by cbv <;> rfl) (fun h1 => ?_) (fun h1 => ?_) <;> refine OpsW.run tok hO (by cbv <;> rfl) (by trivial) ?_
  · refine SW.cond (t := true) (by cbv <;> rfl) ?_
    refine SW.seqRun tok hO (by cbv <;> rfl) (by trivial) ?_
    refine SW.ret ⟨_, _, rfl, rfl, long (hlong (.inl ?_)) _ _ rfl⟩
    have : (4 : Int) < d.nw := by subst hO; simpa [std] using h1
    omega
  have k1' : (d.nw : Int) ≤ 4 := by subst hO; simpa [std] using h1
  have k1 : d.nw ≤ 4 := by omega
  refine OpsW.splitG (by cbv <;> rfl) (fun h2 => ?_) (fun h2 => ?_) <;> refine OpsW.run tok hO (by cbv <;> rfl) (by trivial) ?_
  · refine SW.cond (t := true) (by cbv <;> rfl) ?_
    refine SW.seqRun tok hO (by cbv <;> rfl) (by trivial) ?_
    refine SW.ret ⟨_, _, rfl, rfl, long (hlong (.inr (.inl ?_))) _ _ rfl⟩
    have : (4 : Int) < d.nl := by subst hO; simpa [std] using h2
    omega
  have k2' : (d.nl : Int) ≤ 4 := by subst hO; simpa [std] using h2
  have k2 : d.nl ≤ 4 := by omega
  refine SW.condS (by cbv <;> rfl) (fun h3 => ?_) (fun h3 => SW.skip ?_)
  · refine SW.seqRun tok hO (by cbv <;> rfl) (by trivial) ?_
    refine SW.ret ⟨_, _, rfl, rfl, long (hlong (.inr (.inr ?_))) _ _ rfl⟩
    have : (5 : Int) < d.nc := by subst hO; simpa [std] using h3
    omega
  have k3' : (d.nc : Int) ≤ 5 := by subst hO; simpa [std] using h3
  have k3 : d.nc ≤ 5 := by omega
  have hl : d.long = false := by
    simp only [DayD.long, Bool.or_eq_false_iff, decide_eq_false_iff_not]; omega
  clear h1 h2 h3
  have c1 := in_ok d.hand 1 20
  have c2 := in_ok d.flat 1 20
  have hva : d.validN = (inB d.hand 1 20 && inB d.flat 1 20 && decide (0 < d.nw) && allN d.nw d.womN && allN d.nl d.lotN && allN d.nc d.cntN) := rfl
  generalize inB d.hand 1 20 = p1 at c1 hva
  generalize inB d.flat 1 20 = p2 at c2 hva
  refine SW.seq ?_
  refine SW.seqRun tok hO (by cbv <;> rfl) (by trivial) ?_
  refine OpsW.callP c1 (by cbv <;> rfl) ?_
  refine OpsW.run tok hO (by cbv <;> rfl) (by trivial) ?_
  refine OpsW.splitG (by cbv <;> rfl) (fun h1 => ?_) (fun h1 => ?_) <;> refine OpsW.run tok hO (by cbv <;> rfl) (by trivial) ?_
  · refine SW.cond (t := true) (by cbv <;> rfl) ?_
    refine SW.seqRun tok hO (by cbv <;> rfl) (by trivial) ?_
    refine SW.ret ⟨_, _, rfl, rfl, bad hl ?_ _ _ rfl⟩
    rw [hva, show p1 = false by simpa using (hnot p1).symm.trans h1]; rfl
  obtain rfl : p1 = true := by simpa using (hnot p1).symm.trans h1
  refine OpsW.callP c2 (by cbv <;> rfl) ?_
  refine OpsW.run tok hO (by cbv <;> rfl) (by trivial) ?_
  refine OpsW.splitG (by cbv <;> rfl) (fun h2 => ?_) (fun h2 => ?_) <;> refine OpsW.run tok hO (by cbv <;> rfl) (by trivial) ?_
  · refine SW.cond (t := true) (by cbv <;> rfl) ?_
    refine SW.seqRun tok hO (by cbv <;> rfl) (by trivial) ?_
    refine SW.ret ⟨_, _, rfl, rfl, bad hl ?_ _ _ rfl⟩
    rw [hva, show p2 = false by simpa using (hnot p2).symm.trans h2]; rfl
  obtain rfl : p2 = true := by simpa using (hnot p2).symm.trans h2
  refine SW.condS (by cbv <;> rfl) (fun h1 => ?_) (fun h1 => SW.skip ?_)
  · refine SW.seqRun tok hO (by cbv <;> rfl) (by trivial) ?_
    refine SW.ret ⟨_, _, rfl, rfl, bad hl ?_ _ _ rfl⟩
    have : d.nw = 0 := by
      have : (d.nw : Int) = 0 := by subst hO; simpa [std] using h1
      omega
    rw [hva]; simp [this]
  have hpos : 0 < d.nw := by
    have : ¬ (d.nw : Int) = 0 := by subst hO; simpa [std] using h1
    omega
  refine SW.seq ?_
  refine SW.seqRun tok hO (by cbv <;> rfl) (by trivial) ?_
  refine (SW.block (SW.loopF (fun i : Nat => ⟨⟨99, getT [(1, .ptr 0 0), (3, iV i)]⟩, []⟩) (fun _ => ⟨[(0, .cells none false (dayC d))], 1⟩) (fun i => d.nw - i) (fun i => i ≤ d.nw ∧ ∀ j, j < i → d.womN j = true) 0
    (fun _ => rfl) ⟨Nat.zero_le _, fun j hj => absurd hj (Nat.not_lt_zero j)⟩ (Weak.by rfl rfl (by simp) (Nat.le_refl _) (Nat.le_refl _) ⟨⟨rfl, .inl rfl⟩, ⟨rfl, .inl rfl⟩, trivial⟩ ⟨⟨rfl, by omega, .inl rfl⟩, trivial⟩) fun i ⟨hi, hall⟩ => ?_))
  refine SW.seq ?_
  refine SW.seqRun tok hO (by cbv <;> rfl) (by trivial) ?_
  refine SW.condS (by cbv <;> rfl) (fun h => SW.skip ?_) (fun h => SW.exit ?_)
  · have hlt : i < d.nw := by subst hO; simpa [std] using h
    have h0 : (0 : Int) ≤ Int.ofNat i := Int.natCast_nonneg i
    refine SW.seq (SW.block ?_)
    refine SW.seqRun tok hO (by cbv <;> rfl) ?_ ?_
    · exact ⟨h0, Int.ofNat_lt.2 hlt⟩
    refine OpsW.callB (within62_ok (d.wlo (O.nat (Int.ofNat i))) (d.whi (O.nat (Int.ofNat i))) 1 60) (by cbv <;> rfl) fun b1 hb1 => ?_
    rw [hnat] at hb1
    have hbw : b1 = d.womN i := hb1
    refine OpsW.run tok hO (by cbv <;> rfl) (by trivial) ?_
    refine SW.condS (by cbv <;> rfl) (fun h4 => ?_) (fun h4 => SW.skip ?_)
    · have hb : d.womN i = false := by rw [← hbw]; simpa using (hnot b1).symm.trans h4
      refine SW.seqRun tok hO (by cbv <;> rfl) (by trivial) ?_
      refine SW.ret ⟨_, _, rfl, rfl, bad hl ?_ _ _ rfl⟩
      rw [hva, allN_false hlt hb]; simp
    · have hb : d.womN i = true := by rw [← hbw]; simpa using (hnot b1).symm.trans h4
      refine SW.run tok hO (by cbv <;> rfl) (by trivial) ?_
      refine ⟨i + 1, by omega, ⟨by omega, fun j hj => ?_⟩, Weak.by rfl rfl (by simp) (Nat.le_refl _) (Nat.le_refl _) ⟨⟨rfl, .inl rfl⟩, ⟨inc_ok hO (by omega), .inl rfl⟩, trivial⟩ ⟨⟨rfl, by omega, .inl rfl⟩, trivial⟩⟩
      rcases Nat.lt_succ_iff_lt_or_eq.1 hj with hj | rfl
      · exact hall j hj
      · exact hb
  have hge : d.nw ≤ i := by subst hO; simpa [std] using h
  have hwom : allN d.nw d.womN = true := allN_true fun j hj => hall j (by omega)
  refine SW.seq ?_
  refine SW.seqRun tok hO (by cbv <;> rfl) (by trivial) ?_
  refine (SW.block (SW.loopF (fun i : Nat => ⟨⟨99, getT [(1, .ptr 0 0), (4, iV i)]⟩, []⟩) (fun _ => ⟨[(0, .cells none false (dayC d))], 1⟩) (fun i => d.nl - i) (fun i => i ≤ d.nl ∧ ∀ j, j < i → d.lotN j = true) 0
    (fun _ => rfl) ⟨Nat.zero_le _, fun j hj => absurd hj (Nat.not_lt_zero j)⟩ (Weak.by rfl rfl (by simp) (Nat.le_refl _) (Nat.le_refl _) ⟨⟨rfl, .inl rfl⟩, ⟨rfl, .inl rfl⟩, trivial⟩ ⟨⟨rfl, by omega, .inl rfl⟩, trivial⟩) fun i ⟨hi, hall⟩ => ?_))
  refine SW.seq ?_
  refine SW.seqRun tok hO (by cbv <;> rfl) (by trivial) ?_
  refine SW.condS (by cbv <;> rfl) (fun h => SW.skip ?_) (fun h => SW.exit ?_)
  · have hlt : i < d.nl := by subst hO; simpa [std] using h
    have h0 : (0 : Int) ≤ Int.ofNat i := Int.natCast_nonneg i
    have badb : d.lotN i = false → d.validN = false := fun hb => by rw [hva, allN_false hlt hb]; simp
    have nextb : d.lotN i = true → ∀ j, j < i + 1 → d.lotN j = true := fun hb j hj => by
      rcases Nat.lt_succ_iff_lt_or_eq.1 hj with hj | rfl
      · exact hall j hj
      · exact hb
    refine SW.seq (SW.block ?_)
    refine SW.seqRunD tok mixed hO (by rfl) (by cbv <;> rfl) ?_ ?_
    · exact ⟨h0, Int.ofNat_lt.2 hlt⟩
    refine AnyE.callD (in_ok (d.lw (O.nat (Int.ofNat i))) 0 (O.bin .sub .i64 (Int.ofNat d.nw) 1)) (by cbv <;> rfl) (by cbv <;> rfl) (fun h1 => ?_) (fun h1 => ?_)
    · rw [hnat, sub1_ok hO hsw] at h1
      refine AnyE.run tok hO (by rfl) (by cbv <;> rfl) ?_ ?_
      · exact ⟨h0, Int.ofNat_lt.2 hlt⟩
      refine AnyE.callD (within62_ok (d.llo (O.nat (Int.ofNat i))) (d.lhi (O.nat (Int.ofNat i))) 0 5000) (by cbv <;> rfl) (by cbv <;> rfl) (fun h2 => ?_) (fun h2 => ?_)
      · rw [hnat] at h2
        have hb : d.lotN i = true := by simp only [DayD.lotN, h1, h2, Bool.and_self]
        refine AnyE.run tok hO (by rfl) (by cbv <;> rfl) (by trivial) ?_
        refine SW.cond (t := false) (by cbv <;> rfl) (SW.skip ?_)
        refine SW.run tok hO (by cbv <;> rfl) (by trivial) ?_
        exact ⟨i + 1, by omega, ⟨by omega, nextb hb⟩, Weak.by rfl rfl (by simp) (Nat.le_refl _) (Nat.le_refl _) ⟨⟨rfl, .inl rfl⟩, ⟨inc_ok hO (by omega), .inl rfl⟩, trivial⟩ ⟨⟨rfl, by omega, .inl rfl⟩, trivial⟩⟩
      · rw [hnat] at h2
        have hb : d.lotN i = false := by simp only [DayD.lotN, h2, Bool.and_false]
        refine AnyE.run tok hO (by rfl) (by cbv <;> rfl) (by trivial) ?_
        refine SW.cond (t := true) (by cbv <;> rfl) ?_
        refine SW.seqRun tok hO (by cbv <;> rfl) (by trivial) ?_
        exact SW.ret ⟨_, _, rfl, rfl, bad hl (badb hb) _ _ rfl⟩
    · rw [hnat, sub1_ok hO hsw] at h1
      have hb : d.lotN i = false := by simp only [DayD.lotN, h1, Bool.false_and]
      refine AnyE.run tok hO (by rfl) (by cbv <;> rfl) (by trivial) ?_
      refine SW.cond (t := true) (by cbv <;> rfl) ?_
      refine SW.seqRun tok hO (by cbv <;> rfl) (by trivial) ?_
      exact SW.ret ⟨_, _, rfl, rfl, bad hl (badb hb) _ _ rfl⟩
  have hge : d.nl ≤ i := by subst hO; simpa [std] using h
  have hlot : allN d.nl d.lotN = true := allN_true fun j hj => hall j (by omega)
  refine SW.seq ?_
  refine SW.seqRun tok hO (by cbv <;> rfl) (by trivial) ?_
  refine (SW.block (SW.loopF (fun i : Nat => ⟨⟨99, getT [(1, .ptr 0 0), (5, iV i)]⟩, []⟩) (fun _ => ⟨[(0, .cells none false (dayC d))], 1⟩) (fun i => d.nc - i) (fun i => i ≤ d.nc ∧ ∀ j, j < i → d.cntN j = true) 0
    (fun _ => rfl) ⟨Nat.zero_le _, fun j hj => absurd hj (Nat.not_lt_zero j)⟩ (Weak.by rfl rfl (by simp) (Nat.le_refl _) (Nat.le_refl _) ⟨⟨rfl, .inl rfl⟩, ⟨rfl, .inl rfl⟩, trivial⟩ ⟨⟨rfl, by omega, .inl rfl⟩, trivial⟩) fun i ⟨hi, hall⟩ => ?_))
  refine SW.seq ?_
  refine SW.seqRun tok hO (by cbv <;> rfl) (by trivial) ?_
  refine SW.condS (by cbv <;> rfl) (fun h => SW.skip ?_) (fun h => SW.exit ?_)
  · have hlt : i < d.nc := by subst hO; simpa [std] using h
    have h0 : (0 : Int) ≤ Int.ofNat i := Int.natCast_nonneg i
    have badb : d.cntN i = false → d.validN = false := fun hb => by rw [hva, allN_false hlt hb]; simp
    have nextb : d.cntN i = true → ∀ j, j < i + 1 → d.cntN j = true := fun hb j hj => by
      rcases Nat.lt_succ_iff_lt_or_eq.1 hj with hj | rfl
      · exact hall j hj
      · exact hb
    have call := isCountN_ok d hs' i
    rw [← hnat i] at call
    unfold cntV at call
    refine SW.seq (SW.block ?_)
    refine SW.seqRunD tok mixed hO (by rfl) (by cbv <;> rfl) ?_ ?_
    · exact ⟨h0, Int.ofNat_lt.2 hlt⟩
    refine AnyE.callD call (by cbv <;> rfl) (by cbv <;> rfl) (fun h1 => ?_) (fun h1 => ?_)
    · rw [hnat] at h1
      refine AnyE.run tok hO (by rfl) (by cbv <;> rfl) (by trivial) ?_
      refine SW.cond (t := false) (by cbv <;> rfl) (SW.skip ?_)
      refine SW.run tok hO (by cbv <;> rfl) (by trivial) ?_
      exact ⟨i + 1, by omega, ⟨by omega, nextb h1⟩, Weak.by rfl rfl (by simp) (Nat.le_refl _) (Nat.le_refl _) ⟨⟨rfl, .inl rfl⟩, ⟨inc_ok hO (by omega), .inl rfl⟩, trivial⟩ ⟨⟨rfl, by omega, .inl rfl⟩, trivial⟩⟩
    · rw [hnat] at h1
      refine AnyE.run tok hO (by rfl) (by cbv <;> rfl) (by trivial) ?_
      refine SW.cond (t := true) (by cbv <;> rfl) ?_
      refine SW.seqRun tok hO (by cbv <;> rfl) (by trivial) ?_
      exact SW.ret ⟨_, _, rfl, rfl, bad hl (badb h1) _ _ rfl⟩
  have hge : d.nc ≤ i := by subst hO; simpa [std] using h
  have hcnt : allN d.nc d.cntN = true := allN_true fun j hj => hall j (by omega)
  have hv : d.validN = true := by rw [hva, hwom, hlot, hcnt]; simp [hpos]
  refine SW.seq ?_
  refine SW.seqRun tok hO (by cbv <;> rfl) (by trivial) ?_
  refine OpsW.callI (many_ok d hs') (by cbv <;> rfl) fun n hn => ?_
  refine OpsW.run tok hO (by cbv <;> rfl) (by trivial) ?_
  refine SW.condS (by cbv <;> rfl) (fun h3 => ?_) (fun h3 => SW.skip ?_)
  · refine SW.seqRun tok hO (by cbv <;> rfl) (by trivial) ?_
    have : 2000 < d.manyL d.nl := by subst hO; simpa [std, hn] using h3
    refine SW.ret ⟨_, _, rfl, rfl, Eqv.int ?_⟩
    simp [DayD.faultN, hl, hv, this]
  · have : ¬ 2000 < d.manyL d.nl := by subst hO; simpa [std, hn] using h3
    refine SW.seqRun tok hO (by cbv <;> rfl) (by trivial) ?_
    refine SW.ret ⟨_, _, rfl, rfl, Eqv.int ?_⟩
    simp [DayD.faultN, hl, hv, this]
end Go.Fz
