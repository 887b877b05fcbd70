/- Own work of the verifier of watercress: FzB8. -/
import Derived.Test.YtpefamheopplnaaMl10
set_option linter.unusedVariables false
set_option linter.unusedSimpArgs false
namespace Go.Fz
open Go.Proofs
set_option maxRecDepth 100000
structure DayD.Good (d : DayD) : Prop where
  nw : d.nw ≤ 4
  nl : d.nl ≤ 4
  nc : d.nc ≤ 5
  pos : 0 < d.nw
  hand : 1 ≤ d.hand ∧ d.hand ≤ 20
  flat : 1 ≤ d.flat ∧ d.flat ≤ 20
  wom : ∀ i, i < d.nw → 1 ≤ d.wlo i ∧ d.wlo i ≤ d.whi i ∧ d.whi i ≤ 60
  lot : ∀ i, i < d.nl → (0 ≤ d.lw i ∧ d.lw i < d.nw) ∧ 0 ≤ d.llo i ∧ d.llo i ≤ d.lhi i ∧ d.lhi i ≤ 5000
  cnt : ∀ i, i < d.nc → (0 ≤ d.ck i ∧ d.ck i < 6) ∧ (0 ≤ d.cw i ∧ d.cw i < d.nw) ∧ (d.cw i = 0 ∨ d.ck i < 2) ∧ 0 ≤ d.clo i ∧ d.clo i ≤ d.chi i ∧ d.chi i ≤ 20000
theorem good_of_valid {d : DayD} (h1 : d.long = false) (h2 : d.validB = true) : d.Good := by
  simp only [DayD.long, Bool.or_eq_false_iff, decide_eq_false_iff_not, Nat.not_lt] at h1
  simp only [DayD.validB, bet, Bool.and_eq_true, decide_eq_true_eq, allN] at h2
  obtain ⟨⟨⟨⟨⟨h3, h4⟩, h5⟩, h6⟩, h7⟩, h8⟩ := h2
  refine ⟨h1.1.1, h1.1.2, h1.2, h5, h3, h4, fun i hi => ?_, fun i hi => ?_, fun i hi => ?_⟩
  · have := h6 i hi
    simp only [withinB, Bool.and_eq_true, decide_eq_true_eq] at this
    omega
  · have := h7 i hi
    simp only [DayD.lotOk, withinB, DayD.hasW, Bool.and_eq_true, decide_eq_true_eq] at this
    omega
  · have := h8 i hi
    simp only [DayD.cntOk, withinB, DayD.hasW, Bool.and_eq_true, Bool.or_eq_true, decide_eq_true_eq] at this
    omega
theorem good_of_check {d : DayD} (h : d.check = 0) : d.Good := by
  unfold DayD.check at h
  split at h
  · omega
  · rename_i h1
    split at h
    · rename_i h2; exact good_of_valid (by simpa using h1) h2
    · omega
theorem fits_true {d : DayD} {t : TruD} (h : d.fits t = true) : t.nf = d.nw ∧ t.ns = d.nl ∧ (∀ i, i < d.nw → d.wlo i ≤ t.fe i ∧ t.fe i ≤ d.whi i) ∧ (∀ i, i < d.nl → d.llo i ≤ t.st i ∧ t.st i ≤ d.lhi i) := by
  simp only [DayD.fits, inB, Bool.and_eq_true, decide_eq_true_eq, allN] at h
  obtain ⟨⟨⟨h1, h2⟩, h3⟩, h4⟩ := h
  exact ⟨h1, h2, fun i hi => h3 i (by omega), fun i hi => h4 i (by omega)⟩
theorem tally_ok' {d : DayD} {t : TruD} (g : d.Good) (h : d.fits t = true) : Pure Try.prog 84 [dayV d, truV t] (talV (d.tally t)) := by
  obtain ⟨h1, h2, h3, h4⟩ := fits_true h
  exact tally_ok d t h1 h2 g.nw g.nl (fun w hw => by have := h3 w hw; have := g.wom w hw; omega) (by have := g.hand; omega) (by have := g.flat; omega)
def DayD.proveT (d : DayD) (t : TruD) : Bool := decide (d.check = 0) && d.fits t && allN d.nc (d.rightB (d.tally t))
theorem allN_wr (r : Nat → Bool) (n : Nat) (h : n ≤ 5) : allN n r = (!(wrM r n 0) && !(wrM r n 1) && !(wrM r n 2) && !(wrM r n 3) && !(wrM r n 4)) := by
  rw [Bool.eq_iff_iff]
  simp only [allN, wrM, decide_eq_true_eq, Bool.and_eq_true, Bool.not_and, Bool.not_not, Bool.or_eq_true, Bool.not_eq_true', decide_eq_false_iff_not]
  constructor
  · intro hq
    refine ⟨⟨⟨⟨?_, ?_⟩, ?_⟩, ?_⟩, ?_⟩
    · by_cases h0 : 0 < n; exact .inr (hq 0 h0); exact .inl h0
    · by_cases h0 : 1 < n; exact .inr (hq 1 h0); exact .inl h0
    · by_cases h0 : 2 < n; exact .inr (hq 2 h0); exact .inl h0
    · by_cases h0 : 3 < n; exact .inr (hq 3 h0); exact .inl h0
    · by_cases h0 : 4 < n; exact .inr (hq 4 h0); exact .inl h0
  · rintro ⟨⟨⟨⟨h0, h1⟩, h2⟩, h3⟩, h4⟩ i hi
    have : i = 0 ∨ i = 1 ∨ i = 2 ∨ i = 3 ∨ i = 4 := by omega
    rcases this with rfl | rfl | rfl | rfl | rfl
    · exact h0.resolve_left (by omega)
    · exact h1.resolve_left (by omega)
    · exact h2.resolve_left (by omega)
    · exact h3.resolve_left (by omega)
    · exact h4.resolve_left (by omega)
theorem proveTruth_ok (d : DayD) (hs : d.small) (t : TruD) (hf : t.nf < 1000) (hn : t.ns < 1000) : Pure Try.prog 38 [dayV d, truV t] (.sb (d.proveT t)) := by
  obtain ⟨O, hO⟩ : ∃ O : Ar, O = std := ⟨_, rfl⟩
  have e1 := checkDay_ok d hs
  have hg : d.check = 0 → d.Good := good_of_check
  have hpt : d.proveT t = (decide (d.check = 0) && d.fits t && allN d.nc (d.rightB (d.tally t))) := rfl
  have e2 := fits_ok d t hf hn
  have e3 := fun (g : d.Good) (h : d.fits t = true) => tally_ok' g h
  have e4 := fun (g : d.Good) => wrongIn_ok d (d.tally t) g.nc (fun i hi => ⟨(g.cnt i hi).1.1, (g.cnt i hi).1.2, (g.cnt i hi).2.1.1, (g.cnt i hi).2.1.2⟩)
  have hal := fun (g : d.Good) => allN_wr (d.rightB (d.tally t)) d.nc g.nc
  generalize d.check = C at e1 hg hpt
  generalize d.fits t = F at e2 e3 hpt
  generalize wrM (d.rightB (d.tally t)) d.nc = M at e4 hal
  generalize d.tally t = Y at e3 e4 hal hpt
  refine pure_of_body tok 3 Try.func38 en38 rfl ⟨dayV_below d, truV_below t, trivial⟩ Below.sb ?_
  refine SW.seqRun tok hO (by cbv <;> rfl) (by trivial) ?_
  refine SW.seqRunD tok mixed hO (by rfl) (by cbv <;> rfl) (by trivial) ?_
  refine AnyE.callP e1 (by cbv <;> rfl) (by cbv <;> rfl) ?_
  refine AnyE.run tok hO (by rfl) (by cbv <;> rfl) (by trivial) ?_
  refine AnyE.dec tok hO (by rfl) (by cbv <;> rfl) (by trivial) (fun h1 => ?_) (fun h1 => ?_)
  · have hc0 : C = 0 := by subst hO; simpa [std] using h1
    have g := hg hc0
    refine AnyE.run tok hO (by rfl) (by cbv <;> rfl) (by trivial) ?_
    refine AnyE.callD e2 (by cbv <;> rfl) (by cbv <;> rfl) (fun h2 => ?_) (fun h2 => ?_)
    · refine AnyE.run tok hO (by rfl) (by cbv <;> rfl) (by trivial) ?_
      refine AnyE.callP (e3 g h2) (by cbv <;> rfl) (by cbv <;> rfl) ?_
      refine AnyE.run tok hO (by rfl) (by cbv <;> rfl) (by trivial) ?_
      refine AnyE.callP (e4 g) (by cbv <;> rfl) (by cbv <;> rfl) ?_
      refine AnyE.run tok hO (by rfl) (by cbv <;> rfl) (by trivial) ?_
      refine AnyE.dec tok hO (by rfl) (by cbv <;> rfl) (by trivial) (fun h3 => ?_) (fun h3 => ?_)
      all_goals
        refine AnyE.run tok hO (by rfl) (by cbv <;> rfl) (by trivial) ?_
        refine SW.ret ⟨_, _, rfl, rfl, Eqv.bool ?_⟩
        subst hO; simp [std] at h3
        rw [hpt, h2, hal g, hc0]
        simp_all
    · refine AnyE.run tok hO (by rfl) (by cbv <;> rfl) (by trivial) ?_
      refine SW.ret ⟨_, _, rfl, rfl, Eqv.bool ?_⟩
      rw [hpt, h2]; simp
  · have hc0 : ¬ C = 0 := by subst hO; simpa [std] using h1
    refine AnyE.run tok hO (by rfl) (by cbv <;> rfl) (by trivial) ?_
    refine SW.ret ⟨_, _, rfl, rfl, Eqv.bool ?_⟩
    rw [hpt]; simp [hc0]
def DayD.playT (d : DayD) (t : TruD) : AV := if d.check = 0 ∧ d.fits t = true then talV (d.tally t) else .agg [nl3, nl3, iV 0, iV 0, iV 0, iV 0]
def DayD.playE (d : DayD) (t : TruD) : Int := if d.check = 0 then (if d.fits t then 0 else 2) else d.check
theorem tal00_below : Below 0 (.agg [nl3, nl3, iV 0, iV 0, iV 0, iV 0]) := Below.agg tal0_below
theorem play_ok (d : DayD) (hs : d.small) (t : TruD) (hf : t.nf < 1000) (hn : t.ns < 1000) : Pure Try.prog 39 [dayV d, truV t] (.tup [d.playT t, iV (d.playE t)]) := by
  obtain ⟨O, hO⟩ : ∃ O : Ar, O = std := ⟨_, rfl⟩
  have e1 := checkDay_ok d hs
  have hg : d.check = 0 → d.Good := good_of_check
  have hpt : d.playT t = if d.check = 0 ∧ d.fits t = true then talV (d.tally t) else .agg [nl3, nl3, iV 0, iV 0, iV 0, iV 0] := rfl
  have hpe : d.playE t = if d.check = 0 then (if d.fits t then 0 else 2) else d.check := rfl
  have e2 := fits_ok d t hf hn
  have e3 := fun (g : d.Good) (h : d.fits t = true) => tally_ok' g h
  rw [hpt, hpe]
  clear hpt hpe
  generalize d.check = C at e1 hg
  generalize d.fits t = F at e2 e3
  generalize d.tally t = Y at e3
  have hbel : Below 0 (if C = 0 ∧ F = true then talV Y else .agg [nl3, nl3, iV 0, iV 0, iV 0, iV 0]) := by split; exact talV_below Y; exact tal00_below
  refine pure_of_body tok 3 Try.func39 en39 rfl ⟨dayV_below d, truV_below t, trivial⟩ (Below.tup (AllB.ok ⟨hbel, Below.lit, trivial⟩)) ?_
  refine SW.seqRun tok hO (by cbv <;> rfl) (by trivial) ?_
  refine SW.seq ?_
  refine SW.seqRun tok hO (by cbv <;> rfl) (by trivial) ?_
  refine OpsW.callP e1 (by cbv <;> rfl) ?_
  refine OpsW.run tok hO (by cbv <;> rfl) (by trivial) ?_
  refine SW.seqRun tok hO (by cbv <;> rfl) (by trivial) ?_
  refine SW.condS (by cbv <;> rfl) (fun h1 => ?_) (fun h1 => SW.skip ?_)
  · have hc : ¬ C = 0 := by subst hO; simpa [std] using h1
    refine SW.seqRun tok hO (by cbv <;> rfl) (by trivial) ?_
    refine SW.ret ⟨_, _, rfl, rfl, ?_⟩
    rw [if_neg (fun h => hc h.1), if_neg hc]
    exact Eqv.of rfl
  have hc : C = 0 := by subst hO; simpa [std] using h1
  refine SW.seq ?_
  refine SW.seqRun tok hO (by cbv <;> rfl) (by trivial) ?_
  refine OpsW.callP e2 (by cbv <;> rfl) ?_
  have hnot : O.not F = !F := by subst hO; rfl
  refine OpsW.run tok hO (by cbv <;> rfl) (by trivial) ?_
  refine SW.condS (by cbv <;> rfl) (fun h2 => ?_) (fun h2 => SW.skip ?_)
  · have hF : F = false := by have := hnot.symm.trans h2; simpa using this
    refine SW.seqRun tok hO (by cbv <;> rfl) (by trivial) ?_
    refine SW.ret ⟨_, _, rfl, rfl, ?_⟩
    rw [if_neg (fun h => by rw [hF] at h; cases h.2), if_pos hc, hF]
    exact Eqv.of rfl
  have hF : F = true := by have := hnot.symm.trans h2; simpa using this
  refine SW.seqRun tok hO (by cbv <;> rfl) (by trivial) ?_
  refine OpsW.callP (e3 (hg hc) hF) (by cbv <;> rfl) ?_
  refine OpsW.run tok hO (by cbv <;> rfl) (by trivial) ?_
  refine SW.ret ⟨_, _, rfl, rfl, ?_⟩
  rw [if_pos ⟨hc, hF⟩, if_pos hc, hF]
  exact Eqv.of rfl
end Go.Fz
