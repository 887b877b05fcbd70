/- Own work of the verifier of watercress: FzU2, FzU3, FzU4, FzU5, FzU6, FzU7, FzU8, FzU9. -/
import Derived.Test.YtpaifaemkoblcaaNa10
set_option linter.unusedVariables false
set_option linter.unusedSimpArgs false
namespace Go.Fz
open Go.Proofs
set_option maxRecDepth 100000
def bedV (f : FarmD) (i : Nat) : AV := .agg [iV (f.need i), iV (f.notch i), iV (f.down i)]
def springV (f : FarmD) (i : Nat) : AV := .agg [iV (f.sb i), iV (f.slo i), iV (f.shi i)]
def lookV (f : FarmD) (i : Nat) : AV := .agg [iV (f.lb i), .sb (f.lov i), iV (f.llo i), iV (f.lhi i)]
def bedsV (f : FarmD) : AV := .isl f.nb 3 false (bedC f)
def springsV (f : FarmD) : AV := .isl f.ns 3 false (springC f)
def looksV (f : FarmD) : AV := .isl f.nl 4 false (lookC f)
theorem bedsV_below (f : FarmD) : Below 0 (bedsV f) := Below.isl fun i k _ _ => by unfold bedC; split <;> exact Below.lit
theorem springsV_below (f : FarmD) : Below 0 (springsV f) := Below.isl fun i k _ _ => by unfold springC; split <;> exact Below.lit
theorem looksV_below (f : FarmD) : Below 0 (looksV f) := Below.isl fun i k _ _ => by unfold lookC; split <;> first | exact Below.lit | exact Below.sb
theorem each115_ok (f : FarmD) (g0 : FuncId) (first caps : List AV) (p : Nat → Bool) (hb : Below 0 (.fn (.func g0) first caps)) (hn : f.nb < 4611686018427387904) (hp : ∀ i, i < f.nb → Pure Try.prog g0 (first ++ [iV i, bedV f i] ++ caps) (.sb (p i))) :
    Pure Try.prog 115 [bedsV f, .fn (.func g0) first caps] (.sb (allN f.nb p)) := by
  obtain ⟨O, hO⟩ : ∃ O : Ar, O = std := ⟨_, rfl⟩
  have hnat : ∀ i : Nat, O.nat (Int.ofNat i) = i := fun i => by subst hO; rfl
  refine pure_of_body tok 3 Try.func115 en115 rfl ⟨bedsV_below f, hb, trivial⟩ Below.sb ?_
  refine SW.seqRun tok hO (by cbv <;> rfl) (by trivial) ?_
  refine SW.seq ?_
  refine SW.seqRun tok hO (by cbv <;> rfl) (by trivial) ?_
  refine (SW.block (SW.loopF (fun i : Nat => ⟨⟨20, getT [(1, .fn (.func g0) first caps), (7, bedsV f), (8, iV f.nb), (9, iV i)]⟩, []⟩) (fun _ => ⟨[], 0⟩) (fun i => f.nb - i) (fun i => i ≤ f.nb ∧ ∀ j, j < i → p j = true) 0
    (fun _ => rfl) ⟨Nat.zero_le _, fun j hj => absurd hj (Nat.not_lt_zero j)⟩ (Weak.by rfl rfl (by simp) (Nat.le_refl _) (Nat.le_refl _) ⟨⟨rfl, .inl rfl⟩, ⟨rfl, .inl rfl⟩, ⟨rfl, .inl rfl⟩, ⟨rfl, .inl rfl⟩, trivial⟩ trivial) fun i ⟨hi, hall⟩ => ?_))
  refine SW.seqRun tok hO (by cbv <;> rfl) (by trivial) ?_
  refine SW.seq (SW.condS (by cbv <;> rfl) (fun h => SW.skip ?_) (fun h => SW.exit ?_))
  · have hlt : i < f.nb := by subst hO; simpa [std] using h
    refine SW.seq (SW.block ?_)
    refine SW.seqRun tok hO (by cbv <;> rfl) ?_ ?_
    · exact ⟨Int.natCast_nonneg i, Int.ofNat_lt.2 hlt⟩
    refine SW.seqRun tok hO (by cbv <;> rfl) (by trivial) ?_
    refine OpsW.callB (e := p i) (args := first ++ [iV (Int.ofNat i), .agg [iV (f.need (O.nat (Int.ofNat i))), iV (f.notch (O.nat (Int.ofNat i))), iV (f.down (O.nat (Int.ofNat i)))]] ++ caps) (by rw [hnat]; exact hp i hlt) (by cbv <;> rfl) fun b hb' => ?_
    refine OpsW.run tok hO (by cbv <;> rfl) (by trivial) ?_
    refine SW.condS (by cbv <;> rfl) (fun h' => ?_) (fun h' => SW.skip ?_)
    · refine SW.seqRun tok hO (by cbv <;> rfl) (by trivial) ?_
      refine SW.ret ⟨_, _, rfl, rfl, Eqv.bool (Bool.eq_iff_iff.2 ?_)⟩
      subst hO
      simp [std, hb'] at h'
      simp only [Bool.false_eq_true, allN, decide_eq_true_eq, false_iff]
      intro hq
      rw [hq i hlt] at h'
      cases h'
    · refine SW.run tok hO (by cbv <;> rfl) (by trivial) ?_
      refine ⟨i + 1, by omega, ⟨by omega, fun j hj => ?_⟩, Weak.by rfl rfl (by simp) (Nat.le_refl _) (Nat.zero_le _) ⟨⟨rfl, .inr hb⟩, ⟨rfl, .inr (bedsV_below f)⟩, ⟨rfl, .inr iV_below⟩, ⟨?_, .inr iV_below⟩, trivial⟩ trivial⟩
      · rcases Nat.lt_succ_iff_lt_or_eq.1 hj with hj | rfl
        · exact hall j hj
        · subst hO; simp [std, hb'] at h'; exact h'
      · subst hO
        show AV.lit (.int .i64 (wrp .i64 ((i : Int) + 1))) = _
        rw [wrp_in (by simp only [IntKind.lo]; omega) (by simp only [IntKind.hi]; omega)]
        rfl
  · refine SW.seqRun tok hO (by cbv <;> rfl) (by trivial) ?_
    refine SW.ret ⟨_, _, rfl, rfl, Eqv.bool (Bool.eq_iff_iff.2 ?_)⟩
    have hge : f.nb ≤ i := by subst hO; simpa [std] using h
    simp only [allN, decide_eq_true_eq, true_iff]
    exact fun j hj => hall j (by omega)
theorem each117_ok (f : FarmD) (g0 : FuncId) (first caps : List AV) (p : Nat → Bool) (hb : Below 0 (.fn (.func g0) first caps)) (hn : f.ns < 4611686018427387904) (hp : ∀ i, i < f.ns → Pure Try.prog g0 (first ++ [iV i, springV f i] ++ caps) (.sb (p i))) :
    Pure Try.prog 117 [springsV f, .fn (.func g0) first caps] (.sb (allN f.ns p)) := by
  obtain ⟨O, hO⟩ : ∃ O : Ar, O = std := ⟨_, rfl⟩
  have hnat : ∀ i : Nat, O.nat (Int.ofNat i) = i := fun i => by subst hO; rfl
  refine pure_of_body tok 3 Try.func117 en117 rfl ⟨springsV_below f, hb, trivial⟩ Below.sb ?_
  refine SW.seqRun tok hO (by cbv <;> rfl) (by trivial) ?_
  refine SW.seq ?_
  refine SW.seqRun tok hO (by cbv <;> rfl) (by trivial) ?_
  refine (SW.block (SW.loopF (fun i : Nat => ⟨⟨20, getT [(1, .fn (.func g0) first caps), (7, springsV f), (8, iV f.ns), (9, iV i)]⟩, []⟩) (fun _ => ⟨[], 0⟩) (fun i => f.ns - i) (fun i => i ≤ f.ns ∧ ∀ j, j < i → p j = true) 0
    (fun _ => rfl) ⟨Nat.zero_le _, fun j hj => absurd hj (Nat.not_lt_zero j)⟩ (Weak.by rfl rfl (by simp) (Nat.le_refl _) (Nat.le_refl _) ⟨⟨rfl, .inl rfl⟩, ⟨rfl, .inl rfl⟩, ⟨rfl, .inl rfl⟩, ⟨rfl, .inl rfl⟩, trivial⟩ trivial) fun i ⟨hi, hall⟩ => ?_))
  refine SW.seqRun tok hO (by cbv <;> rfl) (by trivial) ?_
  refine SW.seq (SW.condS (by cbv <;> rfl) (fun h => SW.skip ?_) (fun h => SW.exit ?_))
  · have hlt : i < f.ns := by subst hO; simpa [std] using h
    refine SW.seq (SW.block ?_)
    refine SW.seqRun tok hO (by cbv <;> rfl) ?_ ?_
    · exact ⟨Int.natCast_nonneg i, Int.ofNat_lt.2 hlt⟩
    refine SW.seqRun tok hO (by cbv <;> rfl) (by trivial) ?_
    refine OpsW.callB (e := p i) (args := first ++ [iV (Int.ofNat i), .agg [iV (f.sb (O.nat (Int.ofNat i))), iV (f.slo (O.nat (Int.ofNat i))), iV (f.shi (O.nat (Int.ofNat i)))]] ++ caps) (by rw [hnat]; exact hp i hlt) (by cbv <;> rfl) fun b hb' => ?_
    refine OpsW.run tok hO (by cbv <;> rfl) (by trivial) ?_
    refine SW.condS (by cbv <;> rfl) (fun h' => ?_) (fun h' => SW.skip ?_)
    · refine SW.seqRun tok hO (by cbv <;> rfl) (by trivial) ?_
      refine SW.ret ⟨_, _, rfl, rfl, Eqv.bool (Bool.eq_iff_iff.2 ?_)⟩
      subst hO
      simp [std, hb'] at h'
      simp only [Bool.false_eq_true, allN, decide_eq_true_eq, false_iff]
      intro hq
      rw [hq i hlt] at h'
      cases h'
    · refine SW.run tok hO (by cbv <;> rfl) (by trivial) ?_
      refine ⟨i + 1, by omega, ⟨by omega, fun j hj => ?_⟩, Weak.by rfl rfl (by simp) (Nat.le_refl _) (Nat.zero_le _) ⟨⟨rfl, .inr hb⟩, ⟨rfl, .inr (springsV_below f)⟩, ⟨rfl, .inr iV_below⟩, ⟨?_, .inr iV_below⟩, trivial⟩ trivial⟩
      · rcases Nat.lt_succ_iff_lt_or_eq.1 hj with hj | rfl
        · exact hall j hj
        · subst hO; simp [std, hb'] at h'; exact h'
      · subst hO
        show AV.lit (.int .i64 (wrp .i64 ((i : Int) + 1))) = _
        rw [wrp_in (by simp only [IntKind.lo]; omega) (by simp only [IntKind.hi]; omega)]
        rfl
  · refine SW.seqRun tok hO (by cbv <;> rfl) (by trivial) ?_
    refine SW.ret ⟨_, _, rfl, rfl, Eqv.bool (Bool.eq_iff_iff.2 ?_)⟩
    have hge : f.ns ≤ i := by subst hO; simpa [std] using h
    simp only [allN, decide_eq_true_eq, true_iff]
    exact fun j hj => hall j (by omega)
theorem each111_ok (f : FarmD) (g0 : FuncId) (first caps : List AV) (p : Nat → Bool) (hb : Below 0 (.fn (.func g0) first caps)) (hn : f.nl < 4611686018427387904) (hp : ∀ i, i < f.nl → Pure Try.prog g0 (first ++ [iV i, lookV f i] ++ caps) (.sb (p i))) :
    Pure Try.prog 111 [looksV f, .fn (.func g0) first caps] (.sb (allN f.nl p)) := by
  obtain ⟨O, hO⟩ : ∃ O : Ar, O = std := ⟨_, rfl⟩
  have hnat : ∀ i : Nat, O.nat (Int.ofNat i) = i := fun i => by subst hO; rfl
  refine pure_of_body tok 3 Try.func111 en111 rfl ⟨looksV_below f, hb, trivial⟩ Below.sb ?_
  refine SW.seqRun tok hO (by cbv <;> rfl) (by trivial) ?_
  refine SW.seq ?_
  refine SW.seqRun tok hO (by cbv <;> rfl) (by trivial) ?_
  refine (SW.block (SW.loopF (fun i : Nat => ⟨⟨20, getT [(1, .fn (.func g0) first caps), (7, looksV f), (8, iV f.nl), (9, iV i)]⟩, []⟩) (fun _ => ⟨[], 0⟩) (fun i => f.nl - i) (fun i => i ≤ f.nl ∧ ∀ j, j < i → p j = true) 0
    (fun _ => rfl) ⟨Nat.zero_le _, fun j hj => absurd hj (Nat.not_lt_zero j)⟩ (Weak.by rfl rfl (by simp) (Nat.le_refl _) (Nat.le_refl _) ⟨⟨rfl, .inl rfl⟩, ⟨rfl, .inl rfl⟩, ⟨rfl, .inl rfl⟩, ⟨rfl, .inl rfl⟩, trivial⟩ trivial) fun i ⟨hi, hall⟩ => ?_))
  refine SW.seqRun tok hO (by cbv <;> rfl) (by trivial) ?_
  refine SW.seq (SW.condS (by cbv <;> rfl) (fun h => SW.skip ?_) (fun h => SW.exit ?_))
  · have hlt : i < f.nl := by subst hO; simpa [std] using h
    refine SW.seq (SW.block ?_)
    refine SW.seqRun tok hO (by cbv <;> rfl) ?_ ?_
    · exact ⟨Int.natCast_nonneg i, Int.ofNat_lt.2 hlt⟩
    refine SW.seqRun tok hO (by cbv <;> rfl) (by trivial) ?_
    refine OpsW.callB (e := p i) (args := first ++ [iV (Int.ofNat i), .agg [iV (f.lb (O.nat (Int.ofNat i))), .sb (f.lov (O.nat (Int.ofNat i))), iV (f.llo (O.nat (Int.ofNat i))), iV (f.lhi (O.nat (Int.ofNat i)))]] ++ caps) (by rw [hnat]; exact hp i hlt) (by cbv <;> rfl) fun b hb' => ?_
    refine OpsW.run tok hO (by cbv <;> rfl) (by trivial) ?_
    refine SW.condS (by cbv <;> rfl) (fun h' => ?_) (fun h' => SW.skip ?_)
    · refine SW.seqRun tok hO (by cbv <;> rfl) (by trivial) ?_
      refine SW.ret ⟨_, _, rfl, rfl, Eqv.bool (Bool.eq_iff_iff.2 ?_)⟩
      subst hO
      simp [std, hb'] at h'
      simp only [Bool.false_eq_true, allN, decide_eq_true_eq, false_iff]
      intro hq
      rw [hq i hlt] at h'
      cases h'
    · refine SW.run tok hO (by cbv <;> rfl) (by trivial) ?_
      refine ⟨i + 1, by omega, ⟨by omega, fun j hj => ?_⟩, Weak.by rfl rfl (by simp) (Nat.le_refl _) (Nat.zero_le _) ⟨⟨rfl, .inr hb⟩, ⟨rfl, .inr (looksV_below f)⟩, ⟨rfl, .inr iV_below⟩, ⟨?_, .inr iV_below⟩, trivial⟩ trivial⟩
      · rcases Nat.lt_succ_iff_lt_or_eq.1 hj with hj | rfl
        · exact hall j hj
        · subst hO; simp [std, hb'] at h'; exact h'
      · subst hO
        show AV.lit (.int .i64 (wrp .i64 ((i : Int) + 1))) = _
        rw [wrp_in (by simp only [IntKind.lo]; omega) (by simp only [IntKind.hi]; omega)]
        rfl
  · refine SW.seqRun tok hO (by cbv <;> rfl) (by trivial) ?_
    refine SW.ret ⟨_, _, rfl, rfl, Eqv.bool (Bool.eq_iff_iff.2 ?_)⟩
    have hge : f.nl ≤ i := by subst hO; simpa [std] using h
    simp only [allN, decide_eq_true_eq, true_iff]
    exact fun j hj => hall j (by omega)
theorem each107_ok (n : Nat) (ex : Bool) (fl : Nat → Int) (g0 : FuncId) (first caps : List AV) (p : Nat → Bool) (hb : Below 0 (.fn (.func g0) first caps)) (hn : n < 4611686018427387904) (hp : ∀ i, i < n → Pure Try.prog g0 (first ++ [iV i, iV (fl i)] ++ caps) (.sb (p i))) :
    Pure Try.prog 107 [intsV n ex fl, .fn (.func g0) first caps] (.sb (allN n p)) := by
  obtain ⟨O, hO⟩ : ∃ O : Ar, O = std := ⟨_, rfl⟩
  have hnat : ∀ i : Nat, O.nat (Int.ofNat i) = i := fun i => by subst hO; rfl
  refine pure_of_body tok 3 Try.func107 en107 rfl ⟨intsV_below n ex fl, hb, trivial⟩ Below.sb ?_
  refine SW.seqRun tok hO (by cbv <;> rfl) (by trivial) ?_
  refine SW.seq ?_
  refine SW.seqRun tok hO (by cbv <;> rfl) (by trivial) ?_
  refine (SW.block (SW.loopF (fun i : Nat => ⟨⟨20, getT [(1, .fn (.func g0) first caps), (7, intsV n ex fl), (8, iV n), (9, iV i)]⟩, []⟩) (fun _ => ⟨[], 0⟩) (fun i => n - i) (fun i => i ≤ n ∧ ∀ j, j < i → p j = true) 0
    (fun _ => rfl) ⟨Nat.zero_le _, fun j hj => absurd hj (Nat.not_lt_zero j)⟩ (Weak.by rfl rfl (by simp) (Nat.le_refl _) (Nat.le_refl _) ⟨⟨rfl, .inl rfl⟩, ⟨rfl, .inl rfl⟩, ⟨rfl, .inl rfl⟩, ⟨rfl, .inl rfl⟩, trivial⟩ trivial) fun i ⟨hi, hall⟩ => ?_))
  refine SW.seqRun tok hO (by cbv <;> rfl) (by trivial) ?_
  refine SW.seq (SW.condS (by cbv <;> rfl) (fun h => SW.skip ?_) (fun h => SW.exit ?_))
  · have hlt : i < n := by subst hO; simpa [std] using h
    refine SW.seq (SW.block ?_)
    refine SW.seqRun tok hO (by cbv <;> rfl) ?_ ?_
    · exact ⟨Int.natCast_nonneg i, Int.ofNat_lt.2 hlt⟩
    refine SW.seqRun tok hO (by cbv <;> rfl) (by trivial) ?_
    refine OpsW.callB (e := p i) (args := first ++ [iV (Int.ofNat i), iV (fl (O.nat (Int.ofNat i)))] ++ caps) (by rw [hnat]; exact hp i hlt) (by cbv <;> rfl) fun b hb' => ?_
    refine OpsW.run tok hO (by cbv <;> rfl) (by trivial) ?_
    refine SW.condS (by cbv <;> rfl) (fun h' => ?_) (fun h' => SW.skip ?_)
    · refine SW.seqRun tok hO (by cbv <;> rfl) (by trivial) ?_
      refine SW.ret ⟨_, _, rfl, rfl, Eqv.bool (Bool.eq_iff_iff.2 ?_)⟩
      subst hO
      simp [std, hb'] at h'
      simp only [Bool.false_eq_true, allN, decide_eq_true_eq, false_iff]
      intro hq
      rw [hq i hlt] at h'
      cases h'
    · refine SW.run tok hO (by cbv <;> rfl) (by trivial) ?_
      refine ⟨i + 1, by omega, ⟨by omega, fun j hj => ?_⟩, Weak.by rfl rfl (by simp) (Nat.le_refl _) (Nat.zero_le _) ⟨⟨rfl, .inr hb⟩, ⟨rfl, .inr (intsV_below n ex fl)⟩, ⟨rfl, .inr iV_below⟩, ⟨?_, .inr iV_below⟩, trivial⟩ trivial⟩
      · rcases Nat.lt_succ_iff_lt_or_eq.1 hj with hj | rfl
        · exact hall j hj
        · subst hO; simp [std, hb'] at h'; exact h'
      · subst hO
        show AV.lit (.int .i64 (wrp .i64 ((i : Int) + 1))) = _
        rw [wrp_in (by simp only [IntKind.lo]; omega) (by simp only [IntKind.hi]; omega)]
        rfl
  · refine SW.seqRun tok hO (by cbv <;> rfl) (by trivial) ?_
    refine SW.ret ⟨_, _, rfl, rfl, Eqv.bool (Bool.eq_iff_iff.2 ?_)⟩
    have hge : n ≤ i := by subst hO; simpa [std] using h
    simp only [allN, decide_eq_true_eq, true_iff]
    exact fun j hj => hall j (by omega)
end Go.Fz
namespace Go.Fz
open Go.Proofs
set_option maxRecDepth 100000
def notchB (n : Int) : Bool := decide (0 ≤ n) && decide (n ≤ 9)
def FarmD.hasB (f : FarmD) (n : Int) : Bool := decide (0 ≤ n) && decide (n < f.nb)
def FarmD.bedOk (f : FarmD) (i : Nat) : Bool := notchB (f.need i) && notchB (f.notch i) && (decide (f.down i = -1) || (decide ((i : Int) < f.down i) && f.hasB (f.down i)))
def FarmD.springOk (f : FarmD) (i : Nat) : Bool := f.hasB (f.sb i) && withinB (f.slo i) (f.shi i) 0 30
def FarmD.lookOk (f : FarmD) (i : Nat) : Bool := f.hasB (f.lb i) && withinB (f.llo i) (f.lhi i) 0 120
def FarmD.validB (f : FarmD) : Bool := decide (0 < f.nb) && allN f.nb f.bedOk && allN f.ns f.springOk && allN f.nl f.lookOk
def FarmD.small (f : FarmD) : Prop := f.nb < 4611686018427387904 ∧ f.ns < 4611686018427387904 ∧ f.nl < 4611686018427387904
theorem validBed_ok (f : FarmD) (i : Nat) : Pure Try.prog 116 [farmV f, iV i, bedV f i] (.sb (f.bedOk i)) := by
  obtain ⟨O, hO⟩ : ∃ O : Ar, O = std := ⟨_, rfl⟩
  refine pure_of_body tok 3 Try.func116 en116 rfl ⟨farmV_below f, iV_below, Below.agg (AllB.ok ⟨Below.lit, Below.lit, Below.lit, trivial⟩), trivial⟩ Below.sb ?_
  refine SW.seqRun tok hO (by cbv <;> rfl) (by trivial) ?_
  refine SW.seqRun tok hO (by cbv <;> rfl) (by trivial) ?_
  refine OpsW.callB (isNotch_ok (f.need i)) (by cbv <;> rfl) fun b1 hb1 => ?_
  refine OpsW.run tok hO (by cbv <;> rfl) (by trivial) ?_
  refine OpsW.splitG (by cbv <;> rfl) (fun h1 => ?_) (fun h1 => ?_) <;> refine OpsW.run tok hO (by cbv <;> rfl) (by trivial) ?_
  · refine OpsW.callB (isNotch_ok (f.notch i)) (by cbv <;> rfl) fun b2 hb2 => ?_
    refine OpsW.run tok hO (by cbv <;> rfl) (by trivial) ?_
    refine OpsW.splitG (by cbv <;> rfl) (fun h2 => ?_) (fun h2 => ?_) <;> refine OpsW.run tok hO (by cbv <;> rfl) (by trivial) ?_
    · refine OpsW.splitG (by cbv <;> rfl) (fun h3 => ?_) (fun h3 => ?_) <;> refine OpsW.run tok hO (by cbv <;> rfl) (by trivial) ?_
      · refine SW.ret ⟨_, _, rfl, rfl, Eqv.bool ?_⟩
        subst hO; simp [std] at h3; simp_all [FarmD.bedOk, notchB]
      · refine OpsW.splitG (by cbv <;> rfl) (fun h4 => ?_) (fun h4 => ?_) <;> refine OpsW.run tok hO (by cbv <;> rfl) (by trivial) ?_
        · refine OpsW.callB (hasBed_ok f (f.down i)) (by cbv <;> rfl) fun b3 hb3 => ?_
          refine OpsW.run tok hO (by cbv <;> rfl) (by trivial) ?_
          refine SW.ret ⟨_, _, rfl, rfl, Eqv.sb ?_⟩
          subst hO; simp [std] at h3 h4; simp_all [FarmD.bedOk, notchB, FarmD.hasB]
        · refine SW.ret ⟨_, _, rfl, rfl, Eqv.bool ?_⟩
          subst hO; cases f; simp [std] at h3 h4; simp_all [FarmD.bedOk, notchB, FarmD.hasB]
          all_goals (intros; omega)
    · refine SW.ret ⟨_, _, rfl, rfl, Eqv.bool ?_⟩
      simp only [FarmD.bedOk, notchB]; rw [← hb1, ← hb2, h2]; simp
  · refine SW.ret ⟨_, _, rfl, rfl, Eqv.bool ?_⟩
    simp only [FarmD.bedOk, notchB]; rw [← hb1, h1]; simp
theorem validLook_ok (f : FarmD) (i : Nat) : Pure Try.prog 119 [farmV f, iV i, lookV f i] (.sb (f.lookOk i)) := by
  obtain ⟨O, hO⟩ : ∃ O : Ar, O = std := ⟨_, rfl⟩
  refine pure_of_body tok 3 Try.func119 en119 rfl ⟨farmV_below f, iV_below, Below.agg (AllB.ok ⟨Below.lit, Below.sb, Below.lit, Below.lit, trivial⟩), trivial⟩ Below.sb ?_
  refine SW.seqRun tok hO (by cbv <;> rfl) (by trivial) ?_
  refine SW.seqRun tok hO (by cbv <;> rfl) (by trivial) ?_
  refine OpsW.callB (hasBed_ok f (f.lb i)) (by cbv <;> rfl) fun b hb => ?_
  refine OpsW.run tok hO (by cbv <;> rfl) (by trivial) ?_
  refine OpsW.splitG (by cbv <;> rfl) (fun h => ?_) (fun h => ?_) <;> refine OpsW.run tok hO (by cbv <;> rfl) (by trivial) ?_
  · refine OpsW.callB (within_ok (f.llo i) (f.lhi i) 0 120) (by cbv <;> rfl) fun b' hb' => ?_
    refine OpsW.run tok hO (by cbv <;> rfl) (by trivial) ?_
    refine SW.ret ⟨_, _, rfl, rfl, Eqv.sb ?_⟩
    simp_all [FarmD.lookOk, withinB, FarmD.hasB]
  · refine SW.ret ⟨_, _, rfl, rfl, Eqv.bool ?_⟩
    simp_all [FarmD.lookOk, withinB, FarmD.hasB]
    all_goals (intros; omega)
theorem validSpring_ok' (f : FarmD) (i : Nat) : Pure Try.prog 118 [farmV f, iV i, springV f i] (.sb (f.springOk i)) := validSpring_ok f i (f.sb i) (f.slo i) (f.shi i)
theorem valid_ok (f : FarmD) (hs : f.small) : Pure Try.prog 73 [farmV f] (.sb f.validB) := by
  obtain ⟨O, hO⟩ : ∃ O : Ar, O = std := ⟨_, rfl⟩
  have e1 := each115_ok f 116 [farmV f] [] f.bedOk (Below.fn (AllB.ok ⟨farmV_below f, trivial⟩) (AllB.ok trivial)) hs.1 (fun i hi => validBed_ok f i)
  have e2 := each117_ok f 118 [farmV f] [] f.springOk (Below.fn (AllB.ok ⟨farmV_below f, trivial⟩) (AllB.ok trivial)) hs.2.1 (fun i hi => validSpring_ok' f i)
  have e3 := each111_ok f 119 [farmV f] [] f.lookOk (Below.fn (AllB.ok ⟨farmV_below f, trivial⟩) (AllB.ok trivial)) hs.2.2 (fun i hi => validLook_ok f i)
  refine pure_of_body tok 3 Try.func73 en73 rfl ⟨farmV_below f, trivial⟩ Below.sb ?_
  refine SW.seqRun tok hO (by cbv <;> rfl) (by trivial) ?_
  refine SW.seqRun tok hO (by cbv <;> rfl) (by trivial) ?_
  refine OpsW.splitG (by cbv <;> rfl) (fun h1 => ?_) (fun h1 => ?_) <;> refine OpsW.run tok hO (by cbv <;> rfl) (by trivial) ?_
  · refine OpsW.callB e1 (by cbv <;> rfl) fun b1 hb1 => ?_
    refine OpsW.run tok hO (by cbv <;> rfl) (by trivial) ?_
    refine OpsW.splitG (by cbv <;> rfl) (fun h2 => ?_) (fun h2 => ?_) <;> refine OpsW.run tok hO (by cbv <;> rfl) (by trivial) ?_
    · refine OpsW.callB e2 (by cbv <;> rfl) fun b2 hb2 => ?_
      refine OpsW.run tok hO (by cbv <;> rfl) (by trivial) ?_
      refine OpsW.splitG (by cbv <;> rfl) (fun h3 => ?_) (fun h3 => ?_) <;> refine OpsW.run tok hO (by cbv <;> rfl) (by trivial) ?_
      · refine OpsW.callB e3 (by cbv <;> rfl) fun b3 hb3 => ?_
        refine OpsW.run tok hO (by cbv <;> rfl) (by trivial) ?_
        refine SW.ret ⟨_, _, rfl, rfl, Eqv.sb ?_⟩
        subst hO; simp [std] at h1; unfold FarmD.validB; rw [← hb1, ← hb2, ← hb3, h2, h3]; cases f; simp_all
      · refine SW.ret ⟨_, _, rfl, rfl, Eqv.bool ?_⟩
        unfold FarmD.validB; rw [← hb1, ← hb2, h3]; simp
    · refine SW.ret ⟨_, _, rfl, rfl, Eqv.bool ?_⟩
      unfold FarmD.validB; rw [← hb1, h2]; simp
  · refine SW.ret ⟨_, _, rfl, rfl, Eqv.bool ?_⟩
    subst hO; simp [std] at h1; unfold FarmD.validB; cases f; simp_all
end Go.Fz
namespace Go.Fz
open Go.Proofs
set_option maxRecDepth 100000
def leastN (a : Int) (fl : Nat → Int) : Nat → Int
  | 0 => a
  | n + 1 => minI (leastN a fl n) (fl n)
theorem least_ok (a : Int) (n : Nat) (ex : Bool) (fl : Nat → Int) (hn : n < 4611686018427387904) : Pure Try.prog 110 [iV a, intsV n ex fl] (iV (leastN a fl n)) := by
  obtain ⟨O, hO⟩ : ∃ O : Ar, O = std := ⟨_, rfl⟩
  have hnat : ∀ i : Nat, O.nat (Int.ofNat i) = i := fun i => by subst hO; rfl
  refine pure_of_body tok 3 Try.func110 en110 rfl ⟨iV_below, intsV_below n ex fl, trivial⟩ Below.lit ?_
  refine SW.seqRun tok hO (by cbv <;> rfl) (by trivial) ?_
  refine SW.seq ?_
  refine SW.seqRun tok hO (by cbv <;> rfl) (by trivial) ?_
  refine (SW.block (SW.loopF (fun i : Nat => ⟨⟨18, getT [(0, iV (leastN a fl i)), (7, intsV n ex fl), (8, iV n), (9, iV i)]⟩, []⟩) (fun _ => ⟨[], 0⟩) (fun i => n - i) (fun i => i ≤ n) 0
    (fun _ => rfl) (Nat.zero_le _) (Weak.by rfl rfl (by simp) (Nat.le_refl _) (Nat.le_refl _) ⟨⟨rfl, .inl rfl⟩, ⟨rfl, .inl rfl⟩, ⟨rfl, .inl rfl⟩, ⟨rfl, .inl rfl⟩, trivial⟩ trivial) fun i hi => ?_))
  generalize hacc : leastN a fl i = acc
  refine SW.seqRun tok hO (by cbv <;> rfl) (by trivial) ?_
  refine SW.seq (SW.condS (by cbv <;> rfl) (fun h => SW.skip ?_) (fun h => SW.exit ?_))
  · have hlt : i < n := by subst hO; simpa [std] using h
    refine SW.seq (SW.block ?_)
    refine SW.seqRun tok hO (by cbv <;> rfl) ?_ ?_
    · exact ⟨Int.natCast_nonneg i, Int.ofNat_lt.2 hlt⟩
    refine SW.run tok hO (by cbv <;> rfl) (by trivial) ?_
    refine SW.run tok hO (by cbv <;> rfl) (by trivial) ?_
    refine ⟨i + 1, by omega, by omega, Weak.by rfl rfl (by simp) (Nat.le_refl _) (Nat.zero_le _) ⟨⟨?_, .inr iV_below⟩, ⟨rfl, .inr (intsV_below n ex fl)⟩, ⟨rfl, .inr iV_below⟩, ⟨?_, .inr iV_below⟩, trivial⟩ trivial⟩
    · show AV.lit (.int .i64 (O.mn acc (fl (O.nat (Int.ofNat i))))) = iV (leastN a fl (i + 1))
      rw [hnat]; subst hO; subst hacc; rfl
    · subst hO
      show AV.lit (.int .i64 (wrp .i64 ((i : Int) + 1))) = _
      rw [wrp_in (by simp only [IntKind.lo]; omega) (by simp only [IntKind.hi]; omega)]
      rfl
  · refine SW.seqRun tok hO (by cbv <;> rfl) (by trivial) ?_
    refine SW.ret ⟨_, _, rfl, rfl, Eqv.int ?_⟩
    have hge : n ≤ i := by subst hO; simpa [std] using h
    have : i = n := by omega
    subst this; exact hacc.symm
def workV (f : FarmD) (tr : AV) (K : Nat → Int) : AV := .agg [springsV f, bedsV f, looksV f, tr, iV (K 0), iV (K 1), iV (K 2), iV (K 3), iV (K 4), iV (K 5), iV (K 6), iV (K 7)]
def nilV : AV := .lit (.slice none 0 0)
def FarmD.k0 (f : FarmD) (n : Nat) (i : Nat) : Int := if i < n then f.notch i else 0
theorem workV_below (f : FarmD) (tr : AV) (K : Nat → Int) (h : Below 0 tr) : Below 0 (workV f tr K) :=
  Below.agg (AllB.ok ⟨springsV_below f, bedsV_below f, looksV_below f, h, Below.lit, Below.lit, Below.lit, Below.lit, Below.lit, Below.lit, Below.lit, Below.lit, trivial⟩)
def workC (f : FarmD) (tr : AV) (K : Nat → Int) : List AV := [springsV f, bedsV f, looksV f, tr, iV (K 0), iV (K 1), iV (K 2), iV (K 3), iV (K 4), iV (K 5), iV (K 6), iV (K 7)]
theorem bedsV_below' (f : FarmD) (n : Nat) : Below n (bedsV f) := Below.up (m := 0) (bedsV_below f)
theorem workC_below (f : FarmD) (n : Nat) (K : Nat → Int) : ∀ a ∈ workC f nilV K, Below n a := AllB.ok ⟨Below.up (m := 0) (springsV_below f), Below.up (m := 0) (bedsV_below f), Below.up (m := 0) (looksV_below f), Below.lit, Below.lit, Below.lit, Below.lit, Below.lit, Below.lit, Below.lit, Below.lit, Below.lit, trivial⟩
def workC0 : List AV := [nilV, nilV, nilV, nilV, iV 0, iV 0, iV 0, iV 0, iV 0, iV 0, iV 0, iV 0]
theorem workC0_below (n : Nat) : ∀ a ∈ workC0, Below n a := AllB.ok ⟨Below.lit, Below.lit, Below.lit, Below.lit, Below.lit, Below.lit, Below.lit, Below.lit, Below.lit, Below.lit, Below.lit, Below.lit, trivial⟩
theorem start_ok (f : FarmD) (hn : f.nb ≤ 8) : Pure Try.prog 67 [farmV f] (workV f nilV (f.k0 f.nb)) := by
  obtain ⟨O, hO⟩ : ∃ O : Ar, O = std := ⟨_, rfl⟩
  have hnat : ∀ i : Nat, O.nat (Int.ofNat i) = i := fun i => by subst hO; rfl
  refine pure_of_body tok 3 Try.func67 en67 rfl ⟨farmV_below f, trivial⟩ (workV_below f _ _ Below.lit) ?_
  refine SW.seqRun tok hO (by cbv <;> rfl) (by trivial) ?_
  refine SW.seqRun tok hO (by cbv <;> rfl) (by trivial) ?_
  refine SW.seq ?_
  refine SW.seqRun tok hO (by cbv <;> rfl) (by trivial) ?_
  refine (SW.block (SW.loopF (fun i : Nat => ⟨⟨24, getT [(2, .ptr 1 0), (3, .ptr 2 0), (10, bedsV f), (11, iV f.nb), (12, iV i)]⟩, []⟩)
    (fun i => ⟨[(2, .cells none false (workC f nilV (f.k0 i))), (1, .cells none false (workC0))], 3⟩) (fun i => f.nb - i) (fun i => i ≤ f.nb) 0
    (fun _ => rfl) (Nat.zero_le _) (Weak.by rfl rfl (by simp) (Nat.le_refl _) (Nat.le_refl _) ⟨⟨rfl, .inl rfl⟩, ⟨rfl, .inl rfl⟩, ⟨rfl, .inl rfl⟩, ⟨rfl, .inl rfl⟩, ⟨rfl, .inl rfl⟩, trivial⟩ ⟨⟨rfl, by omega, .inl rfl⟩, ⟨rfl, by omega, .inl rfl⟩, trivial⟩) fun i hi => ?_))
  generalize hK : f.k0 i = K
  refine SW.seqRun tok hO (by cbv <;> rfl) (by trivial) ?_
  refine SW.seq (SW.condS (by cbv <;> rfl) (fun h => SW.skip ?_) (fun h => SW.exit ?_))
  · have hlt : i < f.nb := by subst hO; simpa [std] using h
    have h0 : (0 : Int) ≤ Int.ofNat i := Int.natCast_nonneg i
    have hk : ∀ j, O.ups j (O.nat (Int.ofNat i)) (f.notch (O.nat (Int.ofNat i))) (K j) = f.k0 (i + 1) j := fun j => by
      rw [hnat, ← hK]; subst hO
      simp only [std, FarmD.k0]
      by_cases e : i = j
      · subst e; simp
      · rw [if_neg e]
        by_cases e2 : j < i
        · rw [if_pos e2, if_pos (by omega)]
        · rw [if_neg e2, if_neg (by omega)]
    refine SW.seq (SW.block ?_)
    refine SW.seqRun tok hO (by cbv <;> rfl) ?_ ?_
    · exact ⟨h0, Int.ofNat_lt.2 hlt⟩
    refine SW.run tok hO (by cbv <;> rfl) ?_ ?_
    · exact ⟨by show O.nat (Int.ofNat i) < 8; rw [hnat]; omega, h0, Int.ofNat_lt.2 (show i < 8 by omega)⟩
    refine SW.run tok hO (by cbv <;> rfl) (by trivial) ?_
    refine ⟨i + 1, by omega, by omega, Weak.by rfl rfl (by simp) (Nat.le_refl _) (by show 3 ≤ 4; omega) ⟨⟨rfl, .inr (Below.ptr (by omega))⟩, ⟨rfl, .inr (Below.ptr (by omega))⟩, ⟨rfl, .inr (bedsV_below' f 3)⟩, ⟨rfl, .inr Below.lit⟩, ⟨?_, .inr Below.lit⟩, trivial⟩
      ⟨⟨congrArg (fun l => some (AObj.cells none false l)) ?_, by omega, .inr ⟨(workC_below f 3 _), fun _ h => by cases h⟩⟩, ⟨rfl, by omega, .inr ⟨workC0_below 3, fun _ h => by cases h⟩⟩, trivial⟩⟩
    · subst hO
      show AV.lit (.int .i64 (wrp .i64 ((i : Int) + 1))) = _
      rw [wrp_in (by simp only [IntKind.lo]; omega) (by simp only [IntKind.hi]; omega)]
      rfl
    · simp only [workC, ← hk]
      rfl
  · refine SW.seqRun tok hO (by cbv <;> rfl) (by trivial) ?_
    have hge : f.nb ≤ i := by subst hO; simpa [std] using h
    have : i = f.nb := by omega
    subst hK
    rw [← this]
    refine SW.ret ⟨_, _, rfl, rfl, Eqv.of rfl⟩
end Go.Fz
namespace Go.Fz
open Go.Proofs
set_option maxRecDepth 100000
abbrev Wat := Nat → Nat → Int
def cells24 (W : Wat) : List AV := [iV (W 0 0), iV (W 0 1), iV (W 0 2), iV (W 1 0), iV (W 1 1), iV (W 1 2), iV (W 2 0), iV (W 2 1), iV (W 2 2), iV (W 3 0), iV (W 3 1), iV (W 3 2),
  iV (W 4 0), iV (W 4 1), iV (W 4 2), iV (W 5 0), iV (W 5 1), iV (W 5 2), iV (W 6 0), iV (W 6 1), iV (W 6 2), iV (W 7 0), iV (W 7 1), iV (W 7 2)]
def watersV (W : Wat) : AV := .agg (cells24 W)
def stepS (f : FarmD) (fl : Nat → Int) (s : Nat) (W : Wat) : Wat := fun b c => if (f.sb s).toNat = b ∧ c = 0 then add64 (W b 0) (fl s) else W b c
def playS (f : FarmD) (fl : Nat → Int) : Nat → Wat
  | 0 => fun _ _ => 0
  | s + 1 => stepS f fl s (playS f fl s)
def stepB (f : FarmD) (K : Nat → Int) (i : Nat) (W : Wat) : Wat := fun b c =>
  if c = 0 then (if 0 ≤ f.down i ∧ (f.down i).toNat = b then add64 (W b 0) (sub64 (W i 0) (minI (W i 0) (K i))) else W b 0)
  else if i = b then (if c = 1 then minI (W i 0) (K i) else sub64 (W i 0) (minI (W i 0) (K i))) else W b c
def playB (f : FarmD) (K fl : Nat → Int) : Nat → Wat
  | 0 => playS f fl f.ns
  | i + 1 => stepB f K i (playB f K fl i)
def playF (f : FarmD) (K fl : Nat → Int) : Wat := playB f K fl f.nb
theorem cells24_below (n : Nat) (W : Wat) : ∀ a ∈ cells24 W, Below n a := AllB.ok ⟨Below.lit, Below.lit, Below.lit, Below.lit, Below.lit, Below.lit, Below.lit, Below.lit, Below.lit, Below.lit, Below.lit, Below.lit, Below.lit, Below.lit, Below.lit, Below.lit, Below.lit, Below.lit, Below.lit, Below.lit, Below.lit, Below.lit, Below.lit, Below.lit, trivial⟩
theorem watersV_below (W : Wat) : Below 0 (watersV W) := Below.agg (cells24_below 0 W)
theorem workC_below' (f : FarmD) (n : Nat) (tr : AV) (K : Nat → Int) (h : Below 0 tr) : ∀ a ∈ workC f tr K, Below n a := AllB.ok ⟨Below.up (m := 0) (springsV_below f), Below.up (m := 0) (bedsV_below f), Below.up (m := 0) (looksV_below f), Below.up (m := 0) h, Below.lit, Below.lit, Below.lit, Below.lit, Below.lit, Below.lit, Below.lit, Below.lit, trivial⟩
theorem sel8 (g : Nat → Int) (q : Nat) (h : q < 8) : std.sel [g 0, g 1, g 2, g 3, g 4, g 5, g 6, g 7] q = g q := by
  match q, h with
  | 0, _ => rfl
  | 1, _ => rfl
  | 2, _ => rfl
  | 3, _ => rfl
  | 4, _ => rfl
  | 5, _ => rfl
  | 6, _ => rfl
  | 7, _ => rfl
def truthsV (m : Nat) (ex : Bool) (g : Nat → Nat → AV) : AV := .isl m 1 ex g
theorem play_ok (f : FarmD) (m : Nat) (ex' : Bool) (g : Nat → Nat → AV) (K : Nat → Int) (n : Nat) (ex : Bool) (fl : Nat → Int) (htr : Below 0 (truthsV m ex' g)) (hnb : f.nb ≤ 8) (hns : f.ns ≤ n) (hn : n < 1000) (hsb : ∀ s, s < f.ns → 0 ≤ f.sb s ∧ f.sb s < 8) (hdn : ∀ i, i < f.nb → f.down i < 8) :
    Pure Try.prog 68 [workV f (truthsV m ex' g) K, intsV n ex fl] (watersV (playF f K fl)) := by
  obtain ⟨O, hO⟩ : ∃ O : Ar, O = std := ⟨_, rfl⟩
  have hnat : ∀ i : Nat, O.nat (Int.ofNat i) = i := fun i => by subst hO; rfl
  refine pure_of_body tok 3 Try.func68 en68 rfl ⟨workV_below f _ K htr, intsV_below n ex fl, trivial⟩ (watersV_below _) ?_
  refine SW.seqRun tok hO (by cbv <;> rfl) (by trivial) ?_
  refine SW.seqRun tok hO (by cbv <;> rfl) (by trivial) ?_
  refine SW.seq ?_
  refine SW.seqRun tok hO (by cbv <;> rfl) (by trivial) ?_
  refine (SW.block (SW.loopF (fun s : Nat => ⟨⟨80, getT [(1, intsV n ex fl), (2, .ptr 0 0), (4, .ptr 1 0), (5, .ptr 2 0), (14, springsV f), (15, iV f.ns), (16, iV s)]⟩, []⟩)
    (fun s => ⟨[(2, .cells none false (cells24 (playS f fl s))), (1, .cells none false (cells24 fun _ _ => 0)), (0, .cells none false (workC f (truthsV m ex' g) K))], 3⟩) (fun s => f.ns - s) (fun s => s ≤ f.ns) 0
    (fun _ => rfl) (Nat.zero_le _) (Weak.by rfl rfl (by simp) (Nat.le_refl _) (Nat.le_refl _) ⟨⟨rfl, .inl rfl⟩, ⟨rfl, .inl rfl⟩, ⟨rfl, .inl rfl⟩, ⟨rfl, .inl rfl⟩, ⟨rfl, .inl rfl⟩, ⟨rfl, .inl rfl⟩, ⟨rfl, .inl rfl⟩, trivial⟩ ⟨⟨rfl, by omega, .inl rfl⟩, ⟨rfl, by omega, .inl rfl⟩, ⟨rfl, by omega, .inl rfl⟩, trivial⟩) fun s hs => ?_))
  · generalize hW : playS f fl s = W
    refine SW.seqRun tok hO (by cbv <;> rfl) (by trivial) ?_
    refine SW.seq (SW.condS (by cbv <;> rfl) (fun h => SW.skip ?_) (fun h => SW.exit ?_))
    · have hlt : s < f.ns := by subst hO; simpa [std] using h
      have h0 : (0 : Int) ≤ Int.ofNat s := Int.natCast_nonneg s
      obtain ⟨hb0, hb1⟩ := hsb s hlt
      refine SW.seq (SW.block ?_)
      refine SW.seqRun tok hO (by cbv <;> rfl) ?_ ?_
      · exact ⟨h0, Int.ofNat_lt.2 hlt⟩
      have hq : (f.sb s).toNat < 8 := by omega
      refine SW.runD tok mixed hO (by rfl) (by cbv <;> rfl) ?_ ?_
      · subst hO; exact ⟨⟨hb0, hb1⟩, ⟨h0, Int.ofNat_lt.2 (by omega)⟩, hq, ⟨hb0, hb1⟩⟩
      refine AnyE.eff tok hO (by cbv <;> rfl) (by cbv <;> rfl) ?_ ?_
      · subst hO; exact hq
      refine AnyE.done (by rfl) ?_
      refine SW.run tok hO (by cbv <;> rfl) (by trivial) ?_
      refine ⟨s + 1, by omega, by omega, Weak.by rfl rfl (by simp) (Nat.le_refl _) (by show 3 ≤ 4; omega) ⟨⟨rfl, .inr (Below.up (m := 0) (intsV_below n ex fl))⟩, ⟨rfl, .inr (Below.ptr (by omega))⟩, ⟨rfl, .inr (Below.ptr (by omega))⟩, ⟨rfl, .inr (Below.ptr (by omega))⟩, ⟨rfl, .inr (Below.up (m := 0) (springsV_below f))⟩, ⟨rfl, .inr Below.lit⟩, ⟨?_, .inr Below.lit⟩, trivial⟩
        ⟨⟨congrArg (fun l => some (AObj.cells none false l)) ?_, by omega, .inr ⟨cells24_below 3 _, fun _ h => by cases h⟩⟩, ⟨rfl, by omega, .inr ⟨cells24_below 3 _, fun _ h => by cases h⟩⟩, ⟨rfl, by omega, .inr ⟨workC_below' f 3 _ K htr, fun _ h => by cases h⟩⟩, trivial⟩⟩
      · subst hO
        show AV.lit (.int .i64 (wrp .i64 ((s : Int) + 1))) = _
        rw [wrp_in (by simp only [IntKind.lo]; omega) (by simp only [IntKind.hi]; omega)]
        rfl
      · subst hO
        have e : playS f fl (s + 1) = stepS f fl s W := by rw [← hW]; rfl
        have hk : ∀ j, stepS f fl s W j 0 = std.ups j (f.sb s).toNat (std.bin .add .i64 (std.sel [W 0 0, W 1 0, W 2 0, W 3 0, W 4 0, W 5 0, W 6 0, W 7 0] (f.sb s).toNat) (fl s)) (W j 0) := fun j => by
          rw [sel8 (fun j => W j 0) _ hq]
          simp only [stepS, std, and_true]
          by_cases hj : (f.sb s).toNat = j
          · rw [if_pos hj, if_pos hj, hj]; rfl
          · rw [if_neg hj, if_neg hj]
        have hk1 : ∀ j, stepS f fl s W j 1 = W j 1 := fun j => by simp [stepS]
        have hk2 : ∀ j, stepS f fl s W j 2 = W j 2 := fun j => by simp [stepS]
        simp only [e, cells24, hk, hk1, hk2]
        rfl
    · have hge : f.ns ≤ s := by subst hO; simpa [std] using h
      have hsn : s = f.ns := by omega
      subst hsn
      refine SW.seq ?_
      refine SW.seqRun tok hO (by cbv <;> rfl) (by trivial) ?_
      refine (SW.block (SW.loopF (fun i : Nat => ⟨⟨80, getT [(2, .ptr 0 0), (4, .ptr 1 0), (5, .ptr 2 0), (36, bedsV f), (37, iV f.nb), (38, iV i)]⟩, []⟩)
        (fun i => ⟨[(2, .cells none false (cells24 (playB f K fl i))), (1, .cells none false (cells24 fun _ _ => 0)), (0, .cells none false (workC f (truthsV m ex' g) K))], 3⟩) (fun i => f.nb - i) (fun i => i ≤ f.nb) 0
        (fun _ => rfl) (Nat.zero_le _) (Weak.by rfl rfl (by simp) (Nat.le_refl _) (Nat.le_refl _) ⟨⟨rfl, .inl rfl⟩, ⟨rfl, .inl rfl⟩, ⟨rfl, .inl rfl⟩, ⟨rfl, .inl rfl⟩, ⟨rfl, .inl rfl⟩, ⟨rfl, .inl rfl⟩, trivial⟩
          ⟨⟨by rw [← hW]; rfl, by omega, .inl rfl⟩, ⟨rfl, by omega, .inl rfl⟩, ⟨rfl, by omega, .inl rfl⟩, trivial⟩) fun i hi => ?_))
      clear hW
      generalize hW : playB f K fl i = W
      refine SW.seqRun tok hO (by cbv <;> rfl) (by trivial) ?_
      refine SW.seq (SW.condS (by cbv <;> rfl) (fun h => SW.skip ?_) (fun h => SW.exit ?_))
      · have hlt : i < f.nb := by subst hO; simpa [std] using h
        have h0 : (0 : Int) ≤ Int.ofNat i := Int.natCast_nonneg i
        have h8 : i < 8 := by omega
        have h8' : (Int.ofNat i : Int) < 8 := Int.ofNat_lt.2 h8
        refine SW.seq (SW.block ?_)
        refine SW.seqRun tok hO (by cbv <;> rfl) ?_ ?_
        · exact ⟨h0, Int.ofNat_lt.2 hlt⟩
        refine SW.seqRun tok hO (by cbv <;> rfl) ?_ ?_
        · subst hO; exact ⟨h8, ⟨h0, h8'⟩⟩
        refine SW.seqRun tok hO (by cbv <;> rfl) ?_ ?_
        · subst hO; exact ⟨h8, ⟨h0, h8'⟩⟩
        refine OpsW.freeze (fun id => Nat.beq id 4) 2 (by rfl) ?_
        refine OpsW.callI (Pure.eqv (least_ok (O.sel [W 0 0, W 1 0, W 2 0, W 3 0, W 4 0, W 5 0, W 6 0, W 7 0] (O.nat (Int.ofNat i))) 1 true (fun _ => O.sel [K 0, K 1, K 2, K 3, K 4, K 5, K 6, K 7] (O.nat (Int.ofNat i))) (by omega)) ?_) (by cbv <;> rfl) fun v hv => ?_
        · refine .cons (Eqv.refl _) (.cons (Eqv.isl rfl fun a b ha hb => ?_) .nil)
          obtain rfl : a = 0 := by omega
          obtain rfl : b = 0 := by omega
          exact Eqv.of rfl
        refine OpsW.run tok hO (by cbv <;> rfl) (by trivial) ?_
        refine SW.seqRun tok hO (by cbv <;> rfl) ?_ ?_
        · subst hO; exact ⟨h8, ⟨h0, h8'⟩, h8, ⟨h0, h8'⟩⟩
        have e : playB f K fl (i + 1) = stepB f K i W := by rw [← hW]; rfl
        have hv' : v = minI (W i 0) (K i) := by
          subst hO
          rw [hv, sel8 (fun j => W j 0) _ (show std.nat (Int.ofNat i) < 8 from h8), sel8 K _ (show std.nat (Int.ofNat i) < 8 from h8)]
          rfl
        have hs0 : O.sel [W 0 0, W 1 0, W 2 0, W 3 0, W 4 0, W 5 0, W 6 0, W 7 0] (O.nat (Int.ofNat i)) = W i 0 := by
          subst hO; exact sel8 (fun j => W j 0) i h8
        have hk1 : ∀ j, stepB f K i W j 1 = O.ups j (O.nat (Int.ofNat i)) v (W j 1) := fun j => by
          subst hO; rw [hv']; rfl
        have hk2 : ∀ j, stepB f K i W j 2 = O.ups j (O.nat (Int.ofNat i)) (O.bin .sub .i64 (O.sel [W 0 0, W 1 0, W 2 0, W 3 0, W 4 0, W 5 0, W 6 0, W 7 0] (O.nat (Int.ofNat i))) v) (W j 2) := fun j => by
          rw [hs0]; subst hO; rw [hv']; rfl
        have hinc : AV.lit (.int .i64 (O.bin .add .i64 (Int.ofNat i) 1)) = iV ((i + 1 : Nat) : Int) := by
          have h1 : O.bin .add .i64 (Int.ofNat i) 1 = add64 (Int.ofNat i) 1 := by rw [hO]; exact add64_eq _ _
          have h2 : add64 (Int.ofNat i) 1 = Int.ofNat i + 1 := add64_in _ _ (by omega) (by omega)
          rw [h1, h2]; rfl
        refine SW.seqRun tok hO (by cbv <;> rfl) (by trivial) ?_
        refine SW.condS (by cbv <;> rfl) (fun h' => ?_) (fun h' => SW.skip ?_)
        · have hd0 : 0 ≤ f.down i := by subst hO; simpa [std] using h'
          have hd1 := hdn i hlt
          have hq : (f.down i).toNat < 8 := by omega
          refine SW.run tok hO (by cbv <;> rfl) ?_ ?_
          · subst hO; exact ⟨hq, ⟨hd0, hd1⟩, hq, ⟨hd0, hd1⟩⟩
          refine SW.run tok hO (by cbv <;> rfl) (by trivial) ?_
          refine ⟨i + 1, by omega, by omega, Weak.by rfl rfl (by simp) (Nat.le_refl _) (by show 3 ≤ 5; omega) ⟨⟨rfl, .inr (Below.ptr (by omega))⟩, ⟨rfl, .inr (Below.ptr (by omega))⟩, ⟨rfl, .inr (Below.ptr (by omega))⟩, ⟨rfl, .inr (Below.up (m := 0) (bedsV_below f))⟩, ⟨rfl, .inr Below.lit⟩, ⟨?_, .inr Below.lit⟩, trivial⟩
            ⟨⟨congrArg (fun l => some (AObj.cells none false l)) ?_, by omega, .inr ⟨cells24_below 3 _, fun _ h => by cases h⟩⟩, ⟨rfl, by omega, .inr ⟨cells24_below 3 _, fun _ h => by cases h⟩⟩, ⟨rfl, by omega, .inr ⟨workC_below' f 3 _ K htr, fun _ h => by cases h⟩⟩, trivial⟩⟩
          · exact hinc
          · have hk : ∀ j, stepB f K i W j 0 = O.ups j (O.nat (f.down i)) (O.bin .add .i64 (O.sel [W 0 0, W 1 0, W 2 0, W 3 0, W 4 0, W 5 0, W 6 0, W 7 0] (O.nat (f.down i))) (O.bin .sub .i64 (O.sel [W 0 0, W 1 0, W 2 0, W 3 0, W 4 0, W 5 0, W 6 0, W 7 0] (O.nat (Int.ofNat i))) v)) (W j 0) := fun j => by
              rw [hs0]; subst hO
              rw [sel8 (fun j => W j 0) _ (show std.nat (f.down i) < 8 from hq), hv']
              show (if (0 : Nat) = 0 then (if 0 ≤ f.down i ∧ (f.down i).toNat = j then _ else _) else _) = (if (f.down i).toNat = j then _ else _)
              rw [if_pos rfl]
              by_cases hj : (f.down i).toNat = j
              · rw [if_pos ⟨hd0, hj⟩, if_pos hj, ← hj]; rfl
              · rw [if_neg (fun hc => hj hc.2), if_neg hj]
            simp only [e, cells24, hk, hk1, hk2]
            subst hO
            rfl
        · have hd0 : ¬ 0 ≤ f.down i := by subst hO; simpa [std] using h'
          refine SW.run tok hO (by cbv <;> rfl) (by trivial) ?_
          refine ⟨i + 1, by omega, by omega, Weak.by rfl rfl (by simp) (Nat.le_refl _) (by show 3 ≤ 5; omega) ⟨⟨rfl, .inr (Below.ptr (by omega))⟩, ⟨rfl, .inr (Below.ptr (by omega))⟩, ⟨rfl, .inr (Below.ptr (by omega))⟩, ⟨rfl, .inr (Below.up (m := 0) (bedsV_below f))⟩, ⟨rfl, .inr Below.lit⟩, ⟨?_, .inr Below.lit⟩, trivial⟩
            ⟨⟨congrArg (fun l => some (AObj.cells none false l)) ?_, by omega, .inr ⟨cells24_below 3 _, fun _ h => by cases h⟩⟩, ⟨rfl, by omega, .inr ⟨cells24_below 3 _, fun _ h => by cases h⟩⟩, ⟨rfl, by omega, .inr ⟨workC_below' f 3 _ K htr, fun _ h => by cases h⟩⟩, trivial⟩⟩
          · exact hinc
          · have hk : ∀ j, stepB f K i W j 0 = W j 0 := fun j => by
              show (if (0 : Nat) = 0 then (if 0 ≤ f.down i ∧ (f.down i).toNat = j then _ else _) else _) = _
              rw [if_pos rfl, if_neg (fun hc => hd0 hc.1)]
            simp only [e, cells24, hk, hk1, hk2]
            rfl
      · have hge : f.nb ≤ i := by subst hO; simpa [std] using h
        have hin : i = f.nb := by omega
        refine SW.seqRun tok hO (by cbv <;> rfl) (by trivial) ?_
        subst hW
        rw [hin]
        refine SW.ret ⟨_, _, rfl, rfl, Eqv.of rfl⟩
end Go.Fz
namespace Go.Fz
open Go.Proofs
set_option maxRecDepth 100000
theorem size_ok' (lo hi : Int) : Pure Try.prog 120 [rangeV lo hi] (iV (size64 lo hi)) := by
  obtain ⟨O, hO⟩ : ∃ O : Ar, O = std := ⟨_, rfl⟩
  refine pure_of_body tok 3 Try.func120 en120 rfl ⟨rangeV_below, trivial⟩ Below.lit ?_
  refine SW.seqRun tok hO (by cbv <;> rfl) (by trivial) ?_
  refine SW.seqRun tok hO (by cbv <;> rfl) (by trivial) ?_
  refine SW.ret ⟨_, _, rfl, rfl, Eqv.int ?_⟩
  subst hO; rfl
def FarmD.sizesN (f : FarmD) : Nat → Int
  | 0 => 1
  | s + 1 => mul64 (f.sizesN s) (size64 (f.slo s) (f.shi s))
theorem sizes_ok (f : FarmD) (hs : f.small) : Pure Try.prog 74 [farmV f] (iV (f.sizesN f.ns)) := by
  obtain ⟨O, hO⟩ : ∃ O : Ar, O = std := ⟨_, rfl⟩
  have hns := hs.2.1
  refine pure_of_body tok 3 Try.func74 en74 rfl ⟨farmV_below f, trivial⟩ Below.lit ?_
  refine SW.seqRun tok hO (by cbv <;> rfl) (by trivial) ?_
  refine SW.seqRun tok hO (by cbv <;> rfl) (by trivial) ?_
  refine SW.seq ?_
  refine SW.seqRun tok hO (by cbv <;> rfl) (by trivial) ?_
  refine (SW.block (SW.loopF (fun i : Nat => ⟨⟨20, getT [(3, iV (f.sizesN i)), (7, springsV f), (8, iV f.ns), (9, iV i)]⟩, []⟩) (fun _ => ⟨[], 1⟩) (fun i => f.ns - i) (fun i => i ≤ f.ns) 0
    (fun _ => rfl) (Nat.zero_le _) (Weak.by rfl rfl (by simp) (Nat.le_refl _) (Nat.le_refl _) ⟨⟨rfl, .inl rfl⟩, ⟨rfl, .inl rfl⟩, ⟨rfl, .inl rfl⟩, ⟨rfl, .inl rfl⟩, trivial⟩ trivial) fun i hi => ?_))
  generalize hacc : f.sizesN i = acc
  refine SW.seqRun tok hO (by cbv <;> rfl) (by trivial) ?_
  refine SW.seq (SW.condS (by cbv <;> rfl) (fun h => SW.skip ?_) (fun h => SW.exit ?_))
  · have hlt : i < f.ns := by subst hO; simpa [std] using h
    have h0 : (0 : Int) ≤ Int.ofNat i := Int.natCast_nonneg i
    refine SW.seq (SW.block ?_)
    refine SW.seqRun tok hO (by cbv <;> rfl) ?_ ?_
    · exact ⟨h0, Int.ofNat_lt.2 hlt⟩
    refine SW.run tok hO (by cbv <;> rfl) (by trivial) ?_
    refine OpsW.callI (size_ok' (f.slo (O.nat (Int.ofNat i))) (f.shi (O.nat (Int.ofNat i)))) (by cbv <;> rfl) fun v hv => ?_
    refine OpsW.run tok hO (by cbv <;> rfl) (by trivial) ?_
    refine SW.run tok hO (by cbv <;> rfl) (by trivial) ?_
    refine ⟨i + 1, by omega, by omega, Weak.by rfl rfl (by simp) (Nat.le_refl _) (by show 1 ≤ 2; omega) ⟨⟨?_, .inr Below.lit⟩, ⟨rfl, .inr (Below.up (m := 0) (springsV_below f))⟩, ⟨rfl, .inr Below.lit⟩, ⟨inc_ok hO (by omega), .inr Below.lit⟩, trivial⟩ trivial⟩
    subst hO; subst hv; subst hacc; rfl
  · refine SW.seqRun tok hO (by cbv <;> rfl) (by trivial) ?_
    have hge : f.ns ≤ i := by subst hO; simpa [std] using h
    have hin : i = f.ns := by omega
    subst hin; subst hacc
    refine SW.ret ⟨_, _, rfl, rfl, Eqv.of rfl⟩
def FarmD.long (f : FarmD) : Bool := decide (8 < f.nb) || decide (4 < f.ns) || decide (5 < f.nl)
def FarmD.check (f : FarmD) : Int := if f.long then 3 else if f.validB then (if 2000 < f.sizesN f.ns then 3 else 0) else 1
theorem checkFarm_ok (f : FarmD) (hs : f.small) : Pure Try.prog 25 [farmV f] (iV f.check) := by
  obtain ⟨O, hO⟩ : ∃ O : Ar, O = std := ⟨_, rfl⟩
  refine pure_of_body tok 3 Try.func25 en25 rfl ⟨farmV_below f, trivial⟩ Below.lit ?_
  refine SW.seqRun tok hO (by cbv <;> rfl) (by trivial) ?_
  refine SW.seq (SW.block ?_)
  refine SW.seqRun tok hO (by cbv <;> rfl) (by trivial) ?_
  refine OpsW.callB (tooLong_ok f) (by cbv <;> rfl) fun b1 hb1 => ?_
  refine OpsW.run tok hO (by cbv <;> rfl) (by trivial) ?_
  refine SW.condS (by cbv <;> rfl) (fun h1 => ?_) (fun h1 => ?_)
  · refine SW.seqRun tok hO (by cbv <;> rfl) (by trivial) ?_
    refine SW.ret ⟨_, _, rfl, rfl, Eqv.int ?_⟩
    have : f.long = true := by rw [← h1]; exact hb1.symm
    simp [FarmD.check, this]
  · have hl : f.long = false := by rw [← h1]; exact hb1.symm
    refine SW.seqRun tok hO (by cbv <;> rfl) (by trivial) ?_
    refine OpsW.callB (valid_ok f hs) (by cbv <;> rfl) fun b2 hb2 => ?_
    refine OpsW.run tok hO (by cbv <;> rfl) (by trivial) ?_
    refine SW.condS (by cbv <;> rfl) (fun h2 => ?_) (fun h2 => ?_)
    · refine SW.seqRun tok hO (by cbv <;> rfl) (by trivial) ?_
      refine SW.ret ⟨_, _, rfl, rfl, Eqv.int ?_⟩
      have : f.validB = false := by subst hO; simpa [std, hb2] using h2
      simp [FarmD.check, hl, this]
    · have hv : f.validB = true := by subst hO; simpa [std, hb2] using h2
      refine SW.seqRun tok hO (by cbv <;> rfl) (by trivial) ?_
      refine OpsW.callI (sizes_ok f hs) (by cbv <;> rfl) fun n hn => ?_
      refine OpsW.run tok hO (by cbv <;> rfl) (by trivial) ?_
      refine SW.condS (by cbv <;> rfl) (fun h3 => ?_) (fun h3 => ?_)
      · refine SW.seqRun tok hO (by cbv <;> rfl) (by trivial) ?_
        refine SW.ret ⟨_, _, rfl, rfl, Eqv.int ?_⟩
        have : 2000 < f.sizesN f.ns := by subst hO; simpa [std, hn] using h3
        simp [FarmD.check, hl, hv, this]
      · have : ¬ 2000 < f.sizesN f.ns := by subst hO; simpa [std, hn] using h3
        refine SW.skip ?_
        refine SW.seqRun tok hO (by cbv <;> rfl) (by trivial) ?_
        refine SW.ret ⟨_, _, rfl, rfl, Eqv.int ?_⟩
        simp [FarmD.check, hl, hv, this]
def farmE (f : FarmD) (k : Nat) : AV := match k with
  | 0 => springsV f
  | 1 => bedsV f
  | _ => looksV f
theorem farmE_below (f : FarmD) : Below 0 (.ip 3 0 (farmE f)) := Below.ip fun j _ => by unfold farmE; split <;> first | exact springsV_below f | exact bedsV_below f | exact looksV_below f
def FarmD.fitB (f : FarmD) (fl : Nat → Int) (i : Nat) : Bool := decide (f.slo i ≤ fl i) && decide (fl i ≤ f.shi i)
theorem fits1_ok (f : FarmD) (fl : Nat → Int) (i : Nat) (hi : i < f.ns) : Pure Try.prog 108 [iV i, iV (fl i), .ip 3 0 (farmE f)] (.sb (f.fitB fl i)) := by
  obtain ⟨O, hO⟩ : ∃ O : Ar, O = std := ⟨_, rfl⟩
  have h0 : (0 : Int) ≤ Int.ofNat i := Int.natCast_nonneg i
  refine pure_of_body tok 3 Try.func108 en108 rfl ⟨Below.lit, Below.lit, farmE_below f, trivial⟩ Below.sb ?_
  refine SW.seqRun tok hO (by cbv <;> rfl) (by trivial) ?_
  refine SW.seqRun tok hO (by cbv <;> rfl) ?_ ?_
  · exact ⟨h0, Int.ofNat_lt.2 hi⟩
  refine OpsW.callB (has_ok (f.slo (O.nat (Int.ofNat i))) (f.shi (O.nat (Int.ofNat i))) (fl i)) (by cbv <;> rfl) fun b hb => ?_
  refine OpsW.run tok hO (by cbv <;> rfl) (by trivial) ?_
  refine SW.ret ⟨_, _, rfl, rfl, Eqv.sb ?_⟩
  subst hO; exact hb
def FarmD.fits (f : FarmD) (n : Nat) (fl : Nat → Int) : Bool := decide (n = f.ns) && allN n (f.fitB fl)
theorem fits_ok (f : FarmD) (n : Nat) (ex : Bool) (fl : Nat → Int) (hn : n < 1000) : Pure Try.prog 66 [farmV f, intsV n ex fl] (.sb (f.fits n fl)) := by
  obtain ⟨O, hO⟩ : ∃ O : Ar, O = std := ⟨_, rfl⟩
  refine pure_of_body tok 3 Try.func66 en66 rfl ⟨farmV_below f, intsV_below n ex fl, trivial⟩ Below.sb ?_
  refine SW.seqRun tok hO (by cbv <;> rfl) (by trivial) ?_
  refine SW.seqRun tok hO (by cbv <;> rfl) (by trivial) ?_
  refine OpsW.splitG (by cbv <;> rfl) (fun h1 => ?_) (fun h1 => ?_) <;> refine OpsW.run tok hO (by cbv <;> rfl) (by trivial) ?_
  · have hns' : (n : Int) = (f.ns : Int) := by subst hO; simpa [std] using h1
    have hns : n = f.ns := by omega
    refine OpsW.freeze (fun _ => true) 3 (by rfl) ?_
    refine OpsW.callB (Pure.eqv (each107_ok n ex fl 108 [] [.ip 3 0 (farmE f)] (f.fitB fl) (Below.fn (AllB.ok trivial) (AllB.ok ⟨farmE_below f, trivial⟩)) (by omega) fun i hi => fits1_ok f fl i (by omega)) ?_) (by cbv <;> rfl) fun b hb => ?_
    · refine .cons (Eqv.refl _) (.cons ?_ .nil)
      refine Eqv.fn .nil (.cons (Eqv.ip fun j hj => ?_) .nil)
      match j, hj with
      | 0, _ => exact Eqv.of rfl
      | 1, _ => exact Eqv.of rfl
      | 2, _ => exact Eqv.of rfl
    refine OpsW.run tok hO (by cbv <;> rfl) (by trivial) ?_
    refine SW.ret ⟨_, _, rfl, rfl, Eqv.sb ?_⟩
    simp [FarmD.fits, hns, hb]
  · refine SW.ret ⟨_, _, rfl, rfl, Eqv.bool ?_⟩
    have hns' : ¬ (n : Int) = (f.ns : Int) := by subst hO; simpa [std] using h1
    have hns : ¬ n = f.ns := by omega
    simp [FarmD.fits, hns]
end Go.Fz
namespace Go.Fz
open Go.Proofs
set_option maxRecDepth 100000
def FarmD.rightB (f : FarmD) (W : Wat) (i : Nat) : Bool :=
  if f.lov i then decide (f.llo i ≤ W (f.lb i).toNat 2) && decide (W (f.lb i).toNat 2 ≤ f.lhi i) else decide (f.llo i ≤ W (f.lb i).toNat 1) && decide (W (f.lb i).toNat 1 ≤ f.lhi i)
theorem right_ok (f : FarmD) (W : Wat) (i : Nat) (h0 : 0 ≤ f.lb i) (h1 : f.lb i < 8) : Pure Try.prog 114 [lookV f i, watersV W] (.sb (f.rightB W i)) := by
  obtain ⟨O, hO⟩ : ∃ O : Ar, O = std := ⟨_, rfl⟩
  have hq : (f.lb i).toNat < 8 := by omega
  refine pure_of_body tok 3 Try.func114 en114 rfl ⟨Below.agg (AllB.ok ⟨Below.lit, Below.sb, Below.lit, Below.lit, trivial⟩), watersV_below W, trivial⟩ Below.sb ?_
  refine SW.seqRun tok hO (by cbv <;> rfl) (by trivial) ?_
  refine SW.seq ?_
  refine SW.seqRun tok hO (by cbv <;> rfl) (by trivial) ?_
  refine SW.condS (by cbv <;> rfl) (fun h => ?_) (fun h => SW.skip ?_)
  · refine SW.seqRunD tok mixed hO (by rfl) (by cbv <;> rfl) ?_ ?_
    · subst hO; exact ⟨hq, ⟨h0, h1⟩⟩
    refine AnyE.callB (has_ok (f.llo i) (f.lhi i) (O.sel [W 0 2, W 1 2, W 2 2, W 3 2, W 4 2, W 5 2, W 6 2, W 7 2] (O.nat (f.lb i)))) (by cbv <;> rfl) (by cbv <;> rfl) fun b hb => ?_
    refine AnyE.run tok hO (by rfl) (by cbv <;> rfl) (by trivial) ?_
    refine SW.ret ⟨_, _, rfl, rfl, Eqv.sb ?_⟩
    subst hO
    rw [hb, sel8 (fun j => W j 2) _ (show std.nat (f.lb i) < 8 from hq)]
    unfold FarmD.rightB
    rw [if_pos h]; rfl
  · refine SW.seqRunD tok mixed hO (by rfl) (by cbv <;> rfl) ?_ ?_
    · subst hO; exact ⟨hq, ⟨h0, h1⟩⟩
    refine AnyE.callB (has_ok (f.llo i) (f.lhi i) (O.sel [W 0 1, W 1 1, W 2 1, W 3 1, W 4 1, W 5 1, W 6 1, W 7 1] (O.nat (f.lb i)))) (by cbv <;> rfl) (by cbv <;> rfl) fun b hb => ?_
    refine AnyE.run tok hO (by rfl) (by cbv <;> rfl) (by trivial) ?_
    refine SW.ret ⟨_, _, rfl, rfl, Eqv.sb ?_⟩
    subst hO
    rw [hb, sel8 (fun j => W j 1) _ (show std.nat (f.lb i) < 8 from hq)]
    unfold FarmD.rightB
    rw [if_neg (by rw [show f.lov i = false from h]; simp)]; rfl
def watE (W : Wat) (k : Nat) : AV := (cells24 W).getD k .any
theorem watE_below (W : Wat) : Below 0 (.ip 24 0 (watE W)) := Below.ip fun j hj => by
  unfold watE
  have := cells24_below 0 W
  rw [List.getD_eq_getElem?_getD]
  cases h : (cells24 W)[j]? with
  | none => exact Below.any
  | some a => exact this a (List.mem_of_getElem? h)
def onlyE (a : AV) (_ : Nat) : AV := a
def FarmD.butB (f : FarmD) (n : Nat) (fl : Nat → Int) (W : Wat) (i : Nat) : Bool := hasN n fl i || f.rightB W i
theorem rightBut1_ok (f : FarmD) (W : Wat) (n : Nat) (ex : Bool) (fl : Nat → Int) (hn : n < 1000) (i : Nat) (h0 : 0 ≤ f.lb i) (h1 : f.lb i < 8) :
    Pure Try.prog 112 [iV i, lookV f i, .ip 1 0 (onlyE (intsV n ex fl)), .ip 24 0 (watE W)] (.sb (f.butB n fl W i)) := by
  obtain ⟨O, hO⟩ : ∃ O : Ar, O = std := ⟨_, rfl⟩
  refine pure_of_body tok 3 Try.func112 en112 rfl ⟨Below.lit, Below.agg (AllB.ok ⟨Below.lit, Below.sb, Below.lit, Below.lit, trivial⟩), Below.ip (fun _ _ => intsV_below n ex fl), watE_below W, trivial⟩ Below.sb ?_
  refine SW.seqRun tok hO (by cbv <;> rfl) (by trivial) ?_
  refine SW.seqRun tok hO (by cbv <;> rfl) (by trivial) ?_
  refine OpsW.callB (contains_ok n ex fl i hn) (by cbv <;> rfl) fun b hb => ?_
  refine OpsW.run tok hO (by cbv <;> rfl) (by trivial) ?_
  refine OpsW.splitG (by cbv <;> rfl) (fun h1 => ?_) (fun h1 => ?_) <;> refine OpsW.run tok hO (by cbv <;> rfl) (by trivial) ?_
  · refine SW.ret ⟨_, _, rfl, rfl, Eqv.bool ?_⟩
    unfold FarmD.butB; rw [← hb, h1]; rfl
  · refine OpsW.callB (right_ok f W i h0 (by assumption)) (by cbv <;> rfl) fun b' hb' => ?_
    refine OpsW.run tok hO (by cbv <;> rfl) (by trivial) ?_
    refine SW.ret ⟨_, _, rfl, rfl, Eqv.sb ?_⟩
    unfold FarmD.butB; rw [← hb, h1, hb']; rfl
theorem rightBut_ok (f : FarmD) (hs : f.small) (W : Wat) (n : Nat) (ex : Bool) (fl : Nat → Int) (hn : n < 1000) (hl : ∀ i, i < f.nl → 0 ≤ f.lb i ∧ f.lb i < 8) :
    Pure Try.prog 71 [farmV f, intsV n ex fl, watersV W] (.sb (allN f.nl (f.butB n fl W))) := by
  obtain ⟨O, hO⟩ : ∃ O : Ar, O = std := ⟨_, rfl⟩
  refine pure_of_body tok 3 Try.func71 en71 rfl ⟨farmV_below f, intsV_below n ex fl, watersV_below W, trivial⟩ Below.sb ?_
  refine SW.seqRun tok hO (by cbv <;> rfl) (by trivial) ?_
  refine SW.seqRun tok hO (by cbv <;> rfl) (by trivial) ?_
  refine OpsW.freeze (fun _ => true) 3 (by rfl) ?_
  refine OpsW.callB (Pure.eqv (each111_ok f 112 [] [.ip 1 0 (onlyE (intsV n ex fl)), .ip 24 0 (watE W)] (f.butB n fl W) (Below.fn (AllB.ok trivial) (AllB.ok ⟨Below.ip (fun _ _ => intsV_below n ex fl), watE_below W, trivial⟩)) hs.2.2 fun i hi => rightBut1_ok f W n ex fl hn i (hl i hi).1 (hl i hi).2) ?_) (by cbv <;> rfl) fun b hb => ?_
  · refine .cons (Eqv.refl _) (.cons ?_ .nil)
    refine Eqv.fn .nil (.cons (Eqv.ip fun j hj => ?_) (.cons (Eqv.ip fun j hj => ?_) .nil))
    · obtain rfl : j = 0 := by omega
      exact Eqv.of rfl
    · exact Eqv.of (frz_lits (l := cells24 W) rfl j)
  refine OpsW.run tok hO (by cbv <;> rfl) (by trivial) ?_
  refine SW.ret ⟨_, _, rfl, rfl, Eqv.sb hb⟩
end Go.Fz
namespace Go.Fz
open Go.Proofs
set_option maxRecDepth 100000
structure FarmD.Good (f : FarmD) : Prop where
  nb : f.nb ≤ 8
  ns : f.ns ≤ 4
  nl : f.nl ≤ 5
  pos : 0 < f.nb
  bed : ∀ i, i < f.nb → (0 ≤ f.need i ∧ f.need i ≤ 9) ∧ (0 ≤ f.notch i ∧ f.notch i ≤ 9) ∧ (f.down i = -1 ∨ ((i : Int) < f.down i ∧ f.down i < f.nb))
  spring : ∀ i, i < f.ns → (0 ≤ f.sb i ∧ f.sb i < f.nb) ∧ 0 ≤ f.slo i ∧ f.slo i ≤ f.shi i ∧ f.shi i ≤ 30
  look : ∀ i, i < f.nl → (0 ≤ f.lb i ∧ f.lb i < f.nb) ∧ 0 ≤ f.llo i ∧ f.llo i ≤ f.lhi i ∧ f.lhi i ≤ 120
theorem good_of_valid {f : FarmD} (h1 : f.long = false) (h2 : f.validB = true) : f.Good := by
  simp only [FarmD.long, Bool.or_eq_false_iff, decide_eq_false_iff_not, Nat.not_lt] at h1
  simp only [FarmD.validB, Bool.and_eq_true, decide_eq_true_eq, allN] at h2
  obtain ⟨⟨⟨h3, h4⟩, h5⟩, h6⟩ := h2
  refine ⟨h1.1.1, h1.1.2, h1.2, h3, fun i hi => ?_, fun i hi => ?_, fun i hi => ?_⟩
  · have := h4 i hi
    simp only [FarmD.bedOk, notchB, FarmD.hasB, Bool.and_eq_true, Bool.or_eq_true, decide_eq_true_eq] at this
    omega
  · have := h5 i hi
    simp only [FarmD.springOk, withinB, FarmD.hasB, Bool.and_eq_true, decide_eq_true_eq] at this
    omega
  · have := h6 i hi
    simp only [FarmD.lookOk, withinB, FarmD.hasB, Bool.and_eq_true, decide_eq_true_eq] at this
    omega
theorem good_of_check {f : FarmD} (h : f.check = 0) : f.Good := by
  unfold FarmD.check at h
  split at h
  · omega
  · rename_i h1
    split at h
    · rename_i h2; exact good_of_valid (by simpa using h1) h2
    · omega
def FarmD.water (f : FarmD) (fl : Nat → Int) : Wat := playF f (f.k0 f.nb) fl
def FarmD.proveT (f : FarmD) (n : Nat) (fl : Nat → Int) : Bool := decide (f.check = 0) && f.fits n fl && allN f.nl (f.rightB (f.water fl))
theorem proveTruth_ok (f : FarmD) (hs : f.small) (n : Nat) (ex : Bool) (fl : Nat → Int) (hn : n < 1000) : Pure Try.prog 23 [farmV f, intsV n ex fl] (.sb (f.proveT n fl)) := by
  obtain ⟨O, hO⟩ : ∃ O : Ar, O = std := ⟨_, rfl⟩
  refine pure_of_body tok 3 Try.func23 en23 rfl ⟨farmV_below f, intsV_below n ex fl, trivial⟩ Below.sb ?_
  refine SW.seqRun tok hO (by cbv <;> rfl) (by trivial) ?_
  refine SW.seqRunD tok mixed hO (by rfl) (by cbv <;> rfl) (by trivial) ?_
  refine AnyE.callI (checkFarm_ok f hs) (by cbv <;> rfl) (by cbv <;> rfl) fun c hc => ?_
  refine AnyE.run tok hO (by rfl) (by cbv <;> rfl) (by trivial) ?_
  refine AnyE.dec tok hO (by rfl) (by cbv <;> rfl) (by trivial) (fun h1 => ?_) (fun h1 => ?_)
  · have hc0 : f.check = 0 := by subst hO; rw [← hc]; simpa [std] using h1
    have hg := good_of_check hc0
    refine AnyE.run tok hO (by rfl) (by cbv <;> rfl) (by trivial) ?_
    refine AnyE.callD (fits_ok f n ex fl hn) (by cbv <;> rfl) (by cbv <;> rfl) (fun h2 => ?_) (fun h2 => ?_)
    · have hns : n = f.ns := by
        simp only [FarmD.fits, Bool.and_eq_true, decide_eq_true_eq] at h2; exact h2.1
      refine AnyE.run tok hO (by rfl) (by cbv <;> rfl) (by trivial) ?_
      refine AnyE.callP ((start_ok f hg.nb).res (r' := workV f (truthsV 0 true fun _ _ => .any) (f.k0 f.nb)) ?_) (by cbv <;> rfl) (by cbv <;> rfl) ?_
      · exact Eqv.agg (.cons (Eqv.refl _) (.cons (Eqv.refl _) (.cons (Eqv.refl _) (.cons Eqv.nil (.cons (Eqv.refl _) (.cons (Eqv.refl _) (.cons (Eqv.refl _) (.cons (Eqv.refl _) (.cons (Eqv.refl _) (.cons (Eqv.refl _) (.cons (Eqv.refl _) (.cons (Eqv.refl _) .nil))))))))))))
      generalize hK : f.k0 f.nb = K
      refine AnyE.run tok hO (by rfl) (by cbv <;> rfl) (by trivial) ?_
      refine AnyE.callP (play_ok f 0 true (fun _ _ => .any) K n ex fl (Below.isl fun _ _ h => absurd h (Nat.not_lt_zero _)) hg.nb (by omega) hn (fun s hs => ⟨(hg.spring s hs).1.1, by have := (hg.spring s hs).1.2; have := hg.nb; omega⟩) (fun i hi => by have := (hg.bed i hi).2.2; have := hg.nb; omega)) (by cbv <;> rfl) (by cbv <;> rfl) ?_
      generalize hW : playF f K fl = W
      refine AnyE.run tok hO (by rfl) (by cbv <;> rfl) (by trivial) ?_
      refine AnyE.callD (Pure.eqv (rightBut_ok f hs W 0 true (fun _ => 0) (by omega) (fun i hi => ⟨(hg.look i hi).1.1, by have := (hg.look i hi).1.2; have := hg.nb; omega⟩)) (.cons (Eqv.refl _) (.cons Eqv.nil (.cons (Eqv.refl _) .nil)))) (by cbv <;> rfl) (by cbv <;> rfl) (fun h3 => ?_) (fun h3 => ?_)
      all_goals
        refine AnyE.run tok hO (by rfl) (by cbv <;> rfl) (by trivial) ?_
        refine SW.ret ⟨_, _, rfl, rfl, Eqv.bool ?_⟩
        have hw : f.water fl = W := by rw [← hW, ← hK]; rfl
        have hb : allN f.nl (f.butB 0 (fun _ => 0) W) = allN f.nl (f.rightB W) := allN_congr fun i hi => by
          have : hasN 0 (fun _ => 0) (i : Int) = false := by simp [hasN]
          simp [FarmD.butB, this]
        rw [hb] at h3
        simp only [FarmD.proveT, hc0, h2, hw, h3, decide_true, Bool.and_self, Bool.and_false]
    · refine AnyE.run tok hO (by rfl) (by cbv <;> rfl) (by trivial) ?_
      refine SW.ret ⟨_, _, rfl, rfl, Eqv.bool ?_⟩
      simp [FarmD.proveT, h2]
  · have hc0 : ¬ f.check = 0 := by subst hO; rw [← hc]; simpa [std] using h1
    refine AnyE.run tok hO (by rfl) (by cbv <;> rfl) (by trivial) ?_
    refine SW.ret ⟨_, _, rfl, rfl, Eqv.bool ?_⟩
    simp [FarmD.proveT, hc0]
end Go.Fz
namespace Go.Fz
open Go.Proofs
set_option maxRecDepth 100000
def cells8B (M : Nat → Bool) : List AV := [.sb (M 0), .sb (M 1), .sb (M 2), .sb (M 3), .sb (M 4), .sb (M 5), .sb (M 6), .sb (M 7)]
def marksV (M : Nat → Bool) : AV := .agg (cells8B M)
theorem cells8B_below (n : Nat) (M : Nat → Bool) : ∀ a ∈ cells8B M, Below n a := AllB.ok ⟨Below.sb, Below.sb, Below.sb, Below.sb, Below.sb, Below.sb, Below.sb, Below.sb, trivial⟩
theorem marksV_below (M : Nat → Bool) : Below 0 (marksV M) := Below.agg (cells8B_below 0 M)
def FarmD.mkN (f : FarmD) (bed : Nat) : Nat → Nat → Bool
  | 0 => fun j => decide (bed = j)
  | k + 1 => fun j => if bed - 1 - k = j then (decide (0 ≤ f.down j) && f.mkN bed k (f.down j).toNat) else f.mkN bed k j
def FarmD.marks (f : FarmD) (bed : Nat) : Nat → Bool := f.mkN bed bed
theorem selB8 (g : Nat → Bool) (q : Nat) (h : q < 8) : std.selB [g 0, g 1, g 2, g 3, g 4, g 5, g 6, g 7] q = g q := by
  match q, h with
  | 0, _ => rfl
  | 1, _ => rfl
  | 2, _ => rfl
  | 3, _ => rfl
  | 4, _ => rfl
  | 5, _ => rfl
  | 6, _ => rfl
  | 7, _ => rfl
theorem andAbove_ok (f : FarmD) (bed : Nat) (hb : bed < f.nb) (hnb : f.nb ≤ 8) (hdn : ∀ i, i < f.nb → f.down i < 8) : Pure Try.prog 124 [farmV f, iV bed] (marksV (f.marks bed)) := by
  obtain ⟨O, hO⟩ : ∃ O : Ar, O = std := ⟨_, rfl⟩
  have hb0 : (0 : Int) ≤ Int.ofNat bed := Int.natCast_nonneg bed
  have hb8 : (Int.ofNat bed : Int) < 8 := Int.ofNat_lt.2 (show bed < 8 by omega)
  refine pure_of_body tok 3 Try.func124 en124 rfl ⟨farmV_below f, Below.lit, trivial⟩ (marksV_below _) ?_
  refine SW.seqRun tok hO (by cbv <;> rfl) (by trivial) ?_
  refine SW.seqRun tok hO (by cbv <;> rfl) (by trivial) ?_
  refine SW.seqRun tok hO (by cbv <;> rfl) ?_ ?_
  · subst hO; exact ⟨show bed < 8 by omega, ⟨hb0, hb8⟩⟩
  refine SW.seq ?_
  refine SW.seqRun tok hO (by cbv <;> rfl) (by trivial) ?_
  refine (SW.block (SW.loopF (fun k : Nat => ⟨⟨32, getT [(2, .ptr 0 0), (4, .ptr 1 0), (5, .ptr 2 0), (6, iV ((bed : Int) - 1 - k))]⟩, []⟩)
    (fun k => ⟨[(2, .cells none false (cells8B (f.mkN bed k))), (1, .cells none false (cells8B fun _ => false)), (0, .cells none false [springsV f, bedsV f, looksV f])], 3⟩) (fun k => bed - k) (fun k => k ≤ bed) 0
    (fun _ => rfl) (Nat.zero_le _) (Weak.by rfl rfl (by simp) (Nat.le_refl _) (Nat.le_refl _) ⟨⟨rfl, .inl rfl⟩, ⟨rfl, .inl rfl⟩, ⟨rfl, .inl rfl⟩, ⟨?_, .inl rfl⟩, trivial⟩ ⟨⟨congrArg (fun l => some (AObj.cells none false l)) ?_, by omega, .inl rfl⟩, ⟨rfl, by omega, .inl rfl⟩, ⟨rfl, by omega, .inl rfl⟩, trivial⟩) fun k hk => ?_))
  · show AV.lit (.int .i64 (O.bin .sub .i64 (Int.ofNat bed) 1)) = _
    have h1 : O.bin .sub .i64 (Int.ofNat bed) 1 = sub64 (Int.ofNat bed) 1 := by rw [hO]; exact sub64_eq _ _
    have h2 : sub64 (Int.ofNat bed) 1 = (bed : Int) - 1 := sub64_in (bed : Int) 1 (by omega) (by omega)
    rw [h1, h2]
    simp [iV]
  · have hk : ∀ j, f.mkN bed 0 j = O.upsB j (O.nat (Int.ofNat bed)) true false := fun j => by
      subst hO
      simp only [FarmD.mkN, std, Int.ofNat_eq_natCast, Int.toNat_natCast]
      by_cases h : bed = j <;> simp [h]
    simp only [cells8B, hk]
  generalize hM : f.mkN bed k = M
  generalize hz : ((bed : Int) - 1 - k) = z
  refine SW.seq ?_
  refine SW.seqRun tok hO (by cbv <;> rfl) (by trivial) ?_
  refine SW.condS (by cbv <;> rfl) (fun h => SW.skip ?_) (fun h => SW.exit ?_)
  · have hz0 : 0 ≤ z := by subst hO; simpa [std] using h
    have hzt : z.toNat = bed - 1 - k := by omega
    have hznb : z.toNat < f.nb := by omega
    have hz8 : z.toNat < 8 := by omega
    have hzi : z < 8 := by omega
    refine SW.seq (SW.block ?_)
    refine SW.seqRun tok hO (by cbv <;> rfl) ?_ ?_
    · exact ⟨hz0, by show z < (f.nb : Int); omega⟩
    refine SW.run tok hO (by cbv <;> rfl) (by trivial) ?_
    have fin : ∀ b : Bool, b = (decide (0 ≤ f.down z.toNat) && M (f.down z.toNat).toNat) → ∀ (l : List AV), l = [.sb (O.upsB 0 (O.nat z) b (M 0)), .sb (O.upsB 1 (O.nat z) b (M 1)), .sb (O.upsB 2 (O.nat z) b (M 2)), .sb (O.upsB 3 (O.nat z) b (M 3)), .sb (O.upsB 4 (O.nat z) b (M 4)), .sb (O.upsB 5 (O.nat z) b (M 5)), .sb (O.upsB 6 (O.nat z) b (M 6)), .sb (O.upsB 7 (O.nat z) b (M 7))] →
        l = cells8B (f.mkN bed (k + 1)) := fun b hbb l hl => by
      have hk : ∀ j, f.mkN bed (k + 1) j = O.upsB j (O.nat z) b (M j) := fun j => by
        subst hO
        simp only [FarmD.mkN, std, hM]
        by_cases hj : bed - 1 - k = j
        · rw [if_pos hj, if_pos (by omega), hbb, show z.toNat = j by omega]
        · rw [if_neg hj, if_neg (by omega)]
      rw [hl]
      simp only [cells8B, hk]
    have hdec : AV.lit (.int .i64 (O.bin .sub .i64 z 1)) = iV ((bed : Int) - 1 - ((k + 1 : Nat) : Int)) := by
      have h1 : O.bin .sub .i64 z 1 = sub64 z 1 := by rw [hO]; exact sub64_eq _ _
      have h2 : sub64 z 1 = z - 1 := sub64_in z 1 (by omega) (by omega)
      rw [h1, h2, iV]; congr 2; omega
    refine OpsW.splitG (by cbv <;> rfl) (fun h1 => ?_) (fun h1 => ?_)
    · have hd0 : 0 ≤ f.down z.toNat := by subst hO; simpa [std] using h1
      have hd8 := hdn z.toNat hznb
      refine OpsW.run tok hO (by cbv <;> rfl) ?_ ?_
      · subst hO; exact ⟨hz8, ⟨hz0, hzi⟩, show (f.down z.toNat).toNat < 8 by omega, ⟨hd0, hd8⟩⟩
      refine SW.run tok hO (by cbv <;> rfl) (by trivial) ?_
      refine ⟨k + 1, by omega, by omega, Weak.by rfl rfl (by simp) (Nat.le_refl _) (Nat.le_refl _) ⟨⟨rfl, .inl rfl⟩, ⟨rfl, .inl rfl⟩, ⟨rfl, .inl rfl⟩, ⟨hdec, .inl rfl⟩, trivial⟩
        ⟨⟨congrArg (fun l => some (AObj.cells none false l)) (fin (O.selB [M 0, M 1, M 2, M 3, M 4, M 5, M 6, M 7] (O.nat (f.down (O.nat z)))) ?_ _ rfl), by omega, .inl rfl⟩, ⟨rfl, by omega, .inl rfl⟩, ⟨rfl, by omega, .inl rfl⟩, trivial⟩⟩
      subst hO
      rw [selB8 M _ (show std.nat (f.down (std.nat z)) < 8 from (show (f.down z.toNat).toNat < 8 by omega))]
      simp [hd0]; rfl
    · have hd0 : ¬ 0 ≤ f.down z.toNat := by subst hO; simpa [std] using h1
      refine OpsW.run tok hO (by cbv <;> rfl) ?_ ?_
      · subst hO; exact ⟨hz8, ⟨hz0, hzi⟩⟩
      refine SW.run tok hO (by cbv <;> rfl) (by trivial) ?_
      refine ⟨k + 1, by omega, by omega, Weak.by rfl rfl (by simp) (Nat.le_refl _) (Nat.le_refl _) ⟨⟨rfl, .inl rfl⟩, ⟨rfl, .inl rfl⟩, ⟨rfl, .inl rfl⟩, ⟨hdec, .inl rfl⟩, trivial⟩
        ⟨⟨congrArg (fun l => some (AObj.cells none false l)) (fin false ?_ _ rfl), by omega, .inl rfl⟩, ⟨rfl, by omega, .inl rfl⟩, ⟨rfl, by omega, .inl rfl⟩, trivial⟩⟩
      simp [hd0]
  · have hz0 : ¬ 0 ≤ z := by subst hO; simpa [std] using h
    have hkb : k = bed := by omega
    refine SW.seqRun tok hO (by cbv <;> rfl) (by trivial) ?_
    subst hM
    rw [hkb]
    refine SW.ret ⟨_, _, rfl, rfl, Eqv.of rfl⟩
end Go.Fz
