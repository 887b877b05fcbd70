/- Own work of the verifier of watercress: FzB13. -/
import Derived.Test.YtkomalgeigefjaaMa33
set_option linter.unusedVariables false
set_option linter.unusedSimpArgs false
namespace Go.Fz
open Go.Proofs
set_option maxRecDepth 100000
set_option maxHeartbeats 8000000 in
theorem isListed_ok (d : DayD) (t : TruD) (hf : t.nf < 1000) (hn : t.ns < 1000) : Pure Try.prog 16 [dayV d, truV t] (.sb (d.fits t)) := by
  obtain ⟨O, hO⟩ : ∃ O : Ar, O = std := ⟨_, rfl⟩
  have hnot : ∀ b, O.not b = !b := fun b => by subst hO; rfl
  have hnat : ∀ i : Nat, O.nat (Int.ofNat i) = i := fun i => by subst hO; rfl
  have hfit : d.fits t = (decide (t.nf = d.nw) && decide (t.ns = d.nl) && allN t.nf (fun i => inB (t.fe i) (d.wlo i) (d.whi i)) && allN t.ns (fun i => inB (t.st i) (d.llo i) (d.lhi i))) := rfl
  generalize d.fits t = F at hfit
  refine pure_of_body tok 3 Try.func16 en16 rfl ⟨dayV_below d, truV_below t, trivial⟩ Below.sb ?_
  refine SW.seqRun tok hO (by cbv <;> rfl) (by trivial) ?_
  refine SW.seq ?_
  refine SW.seqRun tok hO (by cbv <;> rfl) (by trivial) ?_
  refine OpsW.splitG (by cbv <;> rfl) (fun h1 => ?_) (fun h1 => ?_) <;> refine OpsW.run tok hO (by cbv <;> rfl) (by trivial) ?_
  · refine SW.cond (t := true) (by cbv <;> rfl) ?_
    refine SW.seqRun tok hO (by cbv <;> rfl) (by trivial) ?_
    refine SW.ret ⟨_, _, rfl, rfl, Eqv.bool ?_⟩
    have : ¬ t.nf = d.nw := by
      have : ¬ (t.nf : Int) = (d.nw : Int) := by subst hO; simpa [std] using h1
      omega
    rw [hfit]; simp [this]
  have e1 : t.nf = d.nw := by
    have : (t.nf : Int) = (d.nw : Int) := by subst hO; simpa [std] using h1
    omega
  refine SW.condS (by cbv <;> rfl) (fun h2 => ?_) (fun h2 => SW.skip ?_)
  · refine SW.seqRun tok hO (by cbv <;> rfl) (by trivial) ?_
    refine SW.ret ⟨_, _, rfl, rfl, Eqv.bool ?_⟩
    have : ¬ t.ns = d.nl := by
      have : ¬ (t.ns : Int) = (d.nl : Int) := by subst hO; simpa [std] using h2
      omega
    rw [hfit]; simp [this]
  have e2 : t.ns = d.nl := by
    have : (t.ns : Int) = (d.nl : Int) := by subst hO; simpa [std] using h2
    omega
  refine SW.seq ?_
  refine SW.seqRun tok hO (by cbv <;> rfl) (by trivial) ?_
  refine (SW.block (SW.loopF (fun i : Nat => ⟨⟨77, getT [(2, .ptr 0 0), (3, .ptr 1 0), (5, iV i)]⟩, []⟩) (fun _ => ⟨[(1, .cells none false (truC t)), (0, .cells none false (dayC d))], 2⟩) (fun i => t.nf - i)
    (fun i => i ≤ t.nf ∧ ∀ j, j < i → inB (t.fe j) (d.wlo j) (d.whi j) = true) 0
    (fun _ => rfl) ⟨Nat.zero_le _, fun j hj => absurd hj (Nat.not_lt_zero j)⟩ (Weak.by rfl rfl (by simp) (Nat.le_refl _) (Nat.le_refl _) ⟨⟨rfl, .inl rfl⟩, ⟨rfl, .inl rfl⟩, ⟨rfl, .inl rfl⟩, trivial⟩ ⟨⟨rfl, by omega, .inl rfl⟩, ⟨rfl, by omega, .inl rfl⟩, trivial⟩) fun i ⟨hi, hall⟩ => ?_))
  refine SW.seq ?_
  refine SW.seqRun tok hO (by cbv <;> rfl) (by trivial) ?_
  refine SW.condS (by cbv <;> rfl) (fun h => SW.skip ?_) (fun h => SW.exit ?_)
  · have hlt : i < t.nf := by subst hO; simpa [std] using h
    have hlt' : i < d.nw := by omega
    have h0 : (0 : Int) ≤ Int.ofNat i := Int.natCast_nonneg i
    refine SW.seq (SW.block ?_)
    refine SW.seqRunD tok mixed hO (by rfl) (by cbv <;> rfl) ?_ ?_
    · exact ⟨⟨h0, Int.ofNat_lt.2 (by first | exact hlt | exact hlt')⟩, ⟨h0, Int.ofNat_lt.2 (by first | exact hlt | exact hlt')⟩, ⟨h0, Int.ofNat_lt.2 (by first | exact hlt | exact hlt')⟩⟩
    refine AnyE.callD (in_ok (t.fe (O.nat (Int.ofNat i))) (d.wlo (O.nat (Int.ofNat i))) (d.whi (O.nat (Int.ofNat i)))) (by cbv <;> rfl) (by cbv <;> rfl) (fun hb => ?_) (fun hb => ?_) <;> rw [hnat] at hb
    · refine AnyE.run tok hO (by rfl) (by cbv <;> rfl) (by trivial) ?_
      refine SW.cond (t := false) (by cbv <;> rfl) (SW.skip ?_)
      refine SW.run tok hO (by cbv <;> rfl) (by trivial) ?_
      refine ⟨i + 1, by omega, ⟨by omega, fun j hj => ?_⟩, Weak.by rfl rfl (by simp) (Nat.le_refl _) (Nat.le_refl _) ⟨⟨rfl, .inl rfl⟩, ⟨rfl, .inl rfl⟩, ⟨inc_ok hO (by omega), .inl rfl⟩, trivial⟩ ⟨⟨rfl, by omega, .inl rfl⟩, ⟨rfl, by omega, .inl rfl⟩, trivial⟩⟩
      rcases Nat.lt_succ_iff_lt_or_eq.1 hj with hj | rfl
      · exact hall j hj
      · exact hb
    · refine AnyE.run tok hO (by rfl) (by cbv <;> rfl) (by trivial) ?_
      refine SW.cond (t := true) (by cbv <;> rfl) ?_
      refine SW.seqRun tok hO (by cbv <;> rfl) (by trivial) ?_
      refine SW.ret ⟨_, _, rfl, rfl, Eqv.bool ?_⟩
      rw [hfit, allN_false (p := fun i => inB (t.fe i) (d.wlo i) (d.whi i)) hlt hb]; simp
  have hge : t.nf ≤ i := by subst hO; simpa [std] using h
  have hfe : allN t.nf (fun i => inB (t.fe i) (d.wlo i) (d.whi i)) = true := allN_true fun j hj => hall j (by omega)
  refine SW.seq ?_
  refine SW.seqRun tok hO (by cbv <;> rfl) (by trivial) ?_
  refine (SW.block (SW.loopF (fun i : Nat => ⟨⟨77, getT [(2, .ptr 0 0), (3, .ptr 1 0), (6, iV i)]⟩, []⟩) (fun _ => ⟨[(1, .cells none false (truC t)), (0, .cells none false (dayC d))], 2⟩) (fun i => t.ns - i)
    (fun i => i ≤ t.ns ∧ ∀ j, j < i → inB (t.st j) (d.llo j) (d.lhi j) = true) 0
    (fun _ => rfl) ⟨Nat.zero_le _, fun j hj => absurd hj (Nat.not_lt_zero j)⟩ (Weak.by rfl rfl (by simp) (Nat.le_refl _) (Nat.le_refl _) ⟨⟨rfl, .inl rfl⟩, ⟨rfl, .inl rfl⟩, ⟨rfl, .inl rfl⟩, trivial⟩ ⟨⟨rfl, by omega, .inl rfl⟩, ⟨rfl, by omega, .inl rfl⟩, trivial⟩) fun i ⟨hi, hall⟩ => ?_))
  refine SW.seq ?_
  refine SW.seqRun tok hO (by cbv <;> rfl) (by trivial) ?_
  refine SW.condS (by cbv <;> rfl) (fun h => SW.skip ?_) (fun h => SW.exit ?_)
  · have hlt : i < t.ns := by subst hO; simpa [std] using h
    have hlt' : i < d.nl := by omega
    have h0 : (0 : Int) ≤ Int.ofNat i := Int.natCast_nonneg i
    refine SW.seq (SW.block ?_)
    refine SW.seqRunD tok mixed hO (by rfl) (by cbv <;> rfl) ?_ ?_
    · exact ⟨⟨h0, Int.ofNat_lt.2 (by first | exact hlt | exact hlt')⟩, ⟨h0, Int.ofNat_lt.2 (by first | exact hlt | exact hlt')⟩, ⟨h0, Int.ofNat_lt.2 (by first | exact hlt | exact hlt')⟩⟩
    refine AnyE.callD (in_ok (t.st (O.nat (Int.ofNat i))) (d.llo (O.nat (Int.ofNat i))) (d.lhi (O.nat (Int.ofNat i)))) (by cbv <;> rfl) (by cbv <;> rfl) (fun hb => ?_) (fun hb => ?_) <;> rw [hnat] at hb
    · refine AnyE.run tok hO (by rfl) (by cbv <;> rfl) (by trivial) ?_
      refine SW.cond (t := false) (by cbv <;> rfl) (SW.skip ?_)
      refine SW.run tok hO (by cbv <;> rfl) (by trivial) ?_
      refine ⟨i + 1, by omega, ⟨by omega, fun j hj => ?_⟩, Weak.by rfl rfl (by simp) (Nat.le_refl _) (Nat.le_refl _) ⟨⟨rfl, .inl rfl⟩, ⟨rfl, .inl rfl⟩, ⟨inc_ok hO (by omega), .inl rfl⟩, trivial⟩ ⟨⟨rfl, by omega, .inl rfl⟩, ⟨rfl, by omega, .inl rfl⟩, trivial⟩⟩
      rcases Nat.lt_succ_iff_lt_or_eq.1 hj with hj | rfl
      · exact hall j hj
      · exact hb
    · refine AnyE.run tok hO (by rfl) (by cbv <;> rfl) (by trivial) ?_
      refine SW.cond (t := true) (by cbv <;> rfl) ?_
      refine SW.seqRun tok hO (by cbv <;> rfl) (by trivial) ?_
      refine SW.ret ⟨_, _, rfl, rfl, Eqv.bool ?_⟩
      rw [hfit, allN_false (p := fun i => inB (t.st i) (d.llo i) (d.lhi i)) hlt hb]; simp
  have hge : t.ns ≤ i := by subst hO; simpa [std] using h
  have hst : allN t.ns (fun i => inB (t.st i) (d.llo i) (d.lhi i)) = true := allN_true fun j hj => hall j (by omega)
  refine SW.seqRun tok hO (by cbv <;> rfl) (by trivial) ?_
  refine SW.ret ⟨_, _, rfl, rfl, Eqv.bool ?_⟩
  rw [hfit, hfe, hst]; simp [e1, e2]
end Go.Fz
