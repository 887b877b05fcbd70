/- Own work of the verifier of watercress: FzCl1, FzCl4, FzCl5, FzCl6, FzCl7, FzCl8, FzCl9, FzCl10. -/
import Derived.Test.YtcjekdfncnmbfaaNa9
set_option linter.unusedVariables false
set_option linter.unusedSimpArgs false
namespace Go.Fz
open Go.Proofs
set_option maxRecDepth 100000
set_option linter.unusedVariables false
def bedC (y : YardD) (i k : Nat) : AV := match k with
  | 0 => iV (y.lng i)
  | 1 => iV (y.blo i)
  | _ => iV (y.bhi i)
def clmC (y : YardD) (i k : Nat) : AV := match k with
  | 0 => iV (y.cb i)
  | 1 => iV (y.clo i)
  | _ => iV (y.chi i)
def bedsV (y : YardD) : AV := .isl y.nb 3 false (bedC y)
def clmsV (y : YardD) : AV := .isl y.nc 3 false (clmC y)
def yardC (y : YardD) : List AV := [iV y.last, iV y.hands, bedsV y, clmsV y]
def yardV (y : YardD) : AV := .agg (yardC y)
def bedV (y : YardD) (i : Nat) : AV := .agg [iV (y.lng i), iV (y.blo i), iV (y.bhi i)]
def clmV (y : YardD) (i : Nat) : AV := .agg [iV (y.cb i), iV (y.clo i), iV (y.chi i)]
theorem three_below {a b c : Int} : Below 0 (.agg [iV a, iV b, iV c]) := Below.agg (AllB.ok ⟨Below.lit, Below.lit, Below.lit, trivial⟩)
theorem bedsV_below (y : YardD) : Below 0 (bedsV y) := Below.isl fun i k _ _ => by unfold bedC; split <;> exact Below.lit
theorem clmsV_below (y : YardD) : Below 0 (clmsV y) := Below.isl fun i k _ _ => by unfold clmC; split <;> exact Below.lit
theorem yardC_below (y : YardD) : ∀ a ∈ yardC y, Below 0 a := AllB.ok ⟨Below.lit, Below.lit, bedsV_below y, clmsV_below y, trivial⟩
theorem yardV_below (y : YardD) : Below 0 (yardV y) := Below.agg (yardC_below y)
theorem has_ok (lo hi n : Int) : Pure Try.prog 76 [rangeV lo hi, iV n] (.sb (inB n lo hi)) := by
  obtain ⟨O, hO⟩ : ∃ O : Ar, O = std := ⟨_, rfl⟩
  refine pure_of_body tok 3 Try.func76 en76 rfl ⟨rangeV_below, iV_below, trivial⟩ Below.sb ?_
  refine SW.seqRun tok hO (by cbv <;> rfl) (by trivial) ?_
  refine SW.seqRun tok hO (by cbv <;> rfl) (by trivial) ?_
  repeat' (refine OpsW.splitG (by cbv <;> rfl) (fun h => ?_) (fun h => ?_) <;> refine OpsW.run tok hO (by cbv <;> rfl) (by trivial) ?_)
  all_goals first
    | refine SW.ret ⟨_, _, rfl, rfl, Eqv.bool (Bool.eq_iff_iff.2 ?_)⟩
    | refine SW.ret ⟨_, _, rfl, rfl, Eqv.sb (Bool.eq_iff_iff.2 ?_)⟩
  all_goals subst hO; simp_all [std, inB]
  all_goals (intros; omega)
theorem in_ok (n a b : Int) : Pure Try.prog 29 [iV n, iV a, iV b] (.sb (inB n a b)) := by
  obtain ⟨O, hO⟩ : ∃ O : Ar, O = std := ⟨_, rfl⟩
  refine pure_of_body tok 3 Try.func29 en29 rfl ⟨iV_below, iV_below, iV_below, trivial⟩ Below.sb ?_
  refine SW.seqRun tok hO (by cbv <;> rfl) (by trivial) ?_
  refine SW.seqRun tok hO (by cbv <;> rfl) (by trivial) ?_
  repeat' (refine OpsW.splitG (by cbv <;> rfl) (fun h => ?_) (fun h => ?_) <;> refine OpsW.run tok hO (by cbv <;> rfl) (by trivial) ?_)
  all_goals first
    | refine SW.ret ⟨_, _, rfl, rfl, Eqv.bool (Bool.eq_iff_iff.2 ?_)⟩
    | refine SW.ret ⟨_, _, rfl, rfl, Eqv.sb (Bool.eq_iff_iff.2 ?_)⟩
  all_goals subst hO; simp_all [std, inB]
  all_goals (intros; omega)
theorem within_ok (lo hi a b : Int) : Pure Try.prog 108 [rangeV lo hi, iV a, iV b] (.sb (withinB lo hi a b)) := by
  obtain ⟨O, hO⟩ : ∃ O : Ar, O = std := ⟨_, rfl⟩
  refine pure_of_body tok 3 Try.func108 en108 rfl ⟨rangeV_below, iV_below, iV_below, trivial⟩ Below.sb ?_
  refine SW.seqRun tok hO (by cbv <;> rfl) (by trivial) ?_
  refine SW.seqRun tok hO (by cbv <;> rfl) (by trivial) ?_
  repeat' (refine OpsW.splitG (by cbv <;> rfl) (fun h => ?_) (fun h => ?_) <;> refine OpsW.run tok hO (by cbv <;> rfl) (by trivial) ?_)
  all_goals first
    | refine SW.ret ⟨_, _, rfl, rfl, Eqv.bool (Bool.eq_iff_iff.2 ?_)⟩
    | refine SW.ret ⟨_, _, rfl, rfl, Eqv.sb (Bool.eq_iff_iff.2 ?_)⟩
  all_goals subst hO; simp_all [std, withinB]
  all_goals (intros; omega)
theorem size_ok (lo hi : Int) : Pure Try.prog 96 [rangeV lo hi] (iV (size64 lo hi)) := by
  obtain ⟨O, hO⟩ : ∃ O : Ar, O = std := ⟨_, rfl⟩
  refine pure_of_body tok 3 Try.func96 en96 rfl ⟨rangeV_below, trivial⟩ Below.lit ?_
  refine SW.seqRun tok hO (by cbv <;> rfl) (by trivial) ?_
  refine SW.seqRun tok hO (by cbv <;> rfl) (by trivial) ?_
  refine SW.ret ⟨_, _, rfl, rfl, Eqv.int ?_⟩
  subst hO; rfl
theorem to_ok (lo hi : Int) : Pure Try.prog 62 [rangeV lo hi] (rangeV lo hi) := by
  obtain ⟨O, hO⟩ : ∃ O : Ar, O = std := ⟨_, rfl⟩
  refine pure_of_body tok 3 Try.func62 en62 rfl ⟨rangeV_below, trivial⟩ rangeV_below ?_
  refine SW.seqRun tok hO (by cbv <;> rfl) (by trivial) ?_
  refine SW.seqRun tok hO (by cbv <;> rfl) (by trivial) ?_
  refine SW.ret ⟨_, _, rfl, rfl, Eqv.of rfl⟩
theorem between_ok (lo hi : Int) : Pure Try.prog 88 [iV lo, iV hi] (rangeV lo hi) := by
  obtain ⟨O, hO⟩ : ∃ O : Ar, O = std := ⟨_, rfl⟩
  refine pure_of_body tok 3 Try.func88 en88 rfl ⟨iV_below, iV_below, trivial⟩ rangeV_below ?_
  refine SW.seqRun tok hO (by cbv <;> rfl) (by trivial) ?_
  refine SW.seqRun tok hO (by cbv <;> rfl) (by trivial) ?_
  refine SW.ret ⟨_, _, rfl, rfl, Eqv.of rfl⟩
theorem emptyFrom_ok (a b c v : Int) : Pure Try.prog 75 [.agg [iV a, iV b, iV c], iV v] (rangeV v (sub64 (add64 v a) 1)) := by
  obtain ⟨O, hO⟩ : ∃ O : Ar, O = std := ⟨_, rfl⟩
  refine pure_of_body tok 3 Try.func75 en75 rfl ⟨three_below, iV_below, trivial⟩ rangeV_below ?_
  refine SW.seqRun tok hO (by cbv <;> rfl) (by trivial) ?_
  refine SW.seqRun tok hO (by cbv <;> rfl) (by trivial) ?_
  refine SW.ret ⟨_, _, rfl, rfl, Eqv.agg (.cons (Eqv.refl _) (.cons (Eqv.int ?_) .nil))⟩
  subst hO; rfl
def YardD.hasB (y : YardD) (n : Int) : Bool := decide (0 ≤ n) && decide (n < y.nb)
theorem hasBed_ok (y : YardD) (n : Int) : Pure Try.prog 70 [yardV y, iV n] (.sb (y.hasB n)) := by
  obtain ⟨O, hO⟩ : ∃ O : Ar, O = std := ⟨_, rfl⟩
  refine pure_of_body tok 3 Try.func70 en70 rfl ⟨yardV_below y, iV_below, trivial⟩ Below.sb ?_
  refine SW.seqRun tok hO (by cbv <;> rfl) (by trivial) ?_
  refine SW.seqRun tok hO (by cbv <;> rfl) (by trivial) ?_
  repeat' (refine OpsW.splitG (by cbv <;> rfl) (fun h => ?_) (fun h => ?_) <;> refine OpsW.run tok hO (by cbv <;> rfl) (by trivial) ?_)
  all_goals first
    | refine SW.ret ⟨_, _, rfl, rfl, Eqv.bool (Bool.eq_iff_iff.2 ?_)⟩
    | refine SW.ret ⟨_, _, rfl, rfl, Eqv.sb (Bool.eq_iff_iff.2 ?_)⟩
  all_goals subst hO; cases y; simp_all [std, YardD.hasB]
  all_goals (intros; omega)
def YardD.hasWk (y : YardD) (n : Int) : Bool := decide (0 ≤ n) && decide (n ≤ y.last)
theorem hasWeek_ok (y : YardD) (n : Int) : Pure Try.prog 74 [yardV y, iV n] (.sb (y.hasWk n)) := by
  obtain ⟨O, hO⟩ : ∃ O : Ar, O = std := ⟨_, rfl⟩
  refine pure_of_body tok 3 Try.func74 en74 rfl ⟨yardV_below y, iV_below, trivial⟩ Below.sb ?_
  refine SW.seqRun tok hO (by cbv <;> rfl) (by trivial) ?_
  refine SW.seqRun tok hO (by cbv <;> rfl) (by trivial) ?_
  repeat' (refine OpsW.splitG (by cbv <;> rfl) (fun h => ?_) (fun h => ?_) <;> refine OpsW.run tok hO (by cbv <;> rfl) (by trivial) ?_)
  all_goals first
    | refine SW.ret ⟨_, _, rfl, rfl, Eqv.bool (Bool.eq_iff_iff.2 ?_)⟩
    | refine SW.ret ⟨_, _, rfl, rfl, Eqv.sb (Bool.eq_iff_iff.2 ?_)⟩
  all_goals subst hO; cases y; simp_all [std, YardD.hasWk]
  all_goals (intros; omega)
def YardD.long (y : YardD) : Bool := decide (9 < y.last) || decide (3 < y.hands) || decide (6 < y.nb) || decide (5 < y.nc)
theorem tooLong_ok (y : YardD) : Pure Try.prog 64 [yardV y] (.sb y.long) := by
  obtain ⟨O, hO⟩ : ∃ O : Ar, O = std := ⟨_, rfl⟩
  refine pure_of_body tok 3 Try.func64 en64 rfl ⟨yardV_below y, trivial⟩ Below.sb ?_
  refine SW.seqRun tok hO (by cbv <;> rfl) (by trivial) ?_
  refine SW.seqRun tok hO (by cbv <;> rfl) (by trivial) ?_
  repeat' (refine OpsW.splitG (by cbv <;> rfl) (fun h => ?_) (fun h => ?_) <;> refine OpsW.run tok hO (by cbv <;> rfl) (by trivial) ?_)
  all_goals first
    | refine SW.ret ⟨_, _, rfl, rfl, Eqv.bool (Bool.eq_iff_iff.2 ?_)⟩
    | refine SW.ret ⟨_, _, rfl, rfl, Eqv.sb (Bool.eq_iff_iff.2 ?_)⟩
  all_goals subst hO; cases y; simp_all [std, YardD.long]
  all_goals (intros; omega)
def YardD.bedOk (y : YardD) (i : Nat) : Bool := inB (y.lng i) 1 3 && withinB (y.blo i) (y.bhi i) 0 y.last
theorem isBed_ok (y : YardD) (i : Nat) (j : Int) : Pure Try.prog 93 [yardV y, iV j, bedV y i] (.sb (y.bedOk i)) := by
  obtain ⟨O, hO⟩ : ∃ O : Ar, O = std := ⟨_, rfl⟩
  refine pure_of_body tok 3 Try.func93 en93 rfl ⟨yardV_below y, iV_below, three_below, trivial⟩ Below.sb ?_
  refine SW.seqRun tok hO (by cbv <;> rfl) (by trivial) ?_
  refine SW.seqRun tok hO (by cbv <;> rfl) (by trivial) ?_
  refine OpsW.splitG (by cbv <;> rfl) (fun h => ?_) (fun h => ?_) <;> refine OpsW.run tok hO (by cbv <;> rfl) (by trivial) ?_
  · refine OpsW.splitG (by cbv <;> rfl) (fun h2 => ?_) (fun h2 => ?_) <;> refine OpsW.run tok hO (by cbv <;> rfl) (by trivial) ?_
    · refine OpsW.callB (within_ok (y.blo i) (y.bhi i) 0 y.last) (by cbv <;> rfl) fun b hb => ?_
      refine OpsW.run tok hO (by cbv <;> rfl) (by trivial) ?_
      refine SW.ret ⟨_, _, rfl, rfl, Eqv.sb ?_⟩
      subst hO; simp [std] at h h2; simp [YardD.bedOk, inB, h, h2, hb]
    · refine SW.ret ⟨_, _, rfl, rfl, Eqv.bool ?_⟩
      subst hO; cases y; simp [std] at h h2; simp [YardD.bedOk, inB, h]; intro h3; omega
  · refine SW.ret ⟨_, _, rfl, rfl, Eqv.bool ?_⟩
    subst hO; cases y; simp [std] at h; simp [YardD.bedOk, inB]; intro h3; omega
def YardD.clmOk (y : YardD) (i : Nat) : Bool := y.hasB (y.cb i) && withinB (y.clo i) (y.chi i) 0 y.last
theorem isClaim_ok (y : YardD) (i : Nat) (j : Int) : Pure Try.prog 95 [yardV y, iV j, clmV y i] (.sb (y.clmOk i)) := by
  obtain ⟨O, hO⟩ : ∃ O : Ar, O = std := ⟨_, rfl⟩
  refine pure_of_body tok 3 Try.func95 en95 rfl ⟨yardV_below y, iV_below, three_below, trivial⟩ Below.sb ?_
  refine SW.seqRun tok hO (by cbv <;> rfl) (by trivial) ?_
  refine SW.seqRun tok hO (by cbv <;> rfl) (by trivial) ?_
  refine OpsW.callB (hasBed_ok y (y.cb i)) (by cbv <;> rfl) fun b hb => ?_
  refine OpsW.run tok hO (by cbv <;> rfl) (by trivial) ?_
  refine OpsW.splitG (by cbv <;> rfl) (fun h => ?_) (fun h => ?_) <;> refine OpsW.run tok hO (by cbv <;> rfl) (by trivial) ?_
  · refine OpsW.callB (within_ok (y.clo i) (y.chi i) 0 y.last) (by cbv <;> rfl) fun b' hb' => ?_
    refine OpsW.run tok hO (by cbv <;> rfl) (by trivial) ?_
    refine SW.ret ⟨_, _, rfl, rfl, Eqv.sb ?_⟩
    rw [hb', YardD.clmOk, ← hb, h]; rfl
  · refine SW.ret ⟨_, _, rfl, rfl, Eqv.bool ?_⟩
    rw [YardD.clmOk, ← hb, h]; rfl
theorem each92_ok (y : YardD) (g0 : FuncId) (first caps : List AV) (p : Nat → Bool) (hb : Below 0 (.fn (.func g0) first caps)) (hn : y.nb < 4611686018427387904) (hp : ∀ i, i < y.nb → Pure Try.prog g0 (first ++ [iV i, .agg [iV (y.lng i), iV (y.blo i), iV (y.bhi i)]] ++ caps) (.sb (p i))) :
    Pure Try.prog 92 [bedsV y, .fn (.func g0) first caps] (.sb (allN y.nb p)) := by
  obtain ⟨O, hO⟩ : ∃ O : Ar, O = std := ⟨_, rfl⟩
  have hnat : ∀ i : Nat, O.nat (Int.ofNat i) = i := fun i => by subst hO; rfl
  refine pure_of_body tok 3 Try.func92 en92 rfl ⟨bedsV_below y, hb, trivial⟩ Below.sb ?_
  refine SW.seqRun tok hO (by cbv <;> rfl) (by trivial) ?_
  refine SW.seq ?_
  refine SW.seqRun tok hO (by cbv <;> rfl) (by trivial) ?_
  refine (SW.block (SW.loopF (fun i : Nat => ⟨⟨20, getT [(1, .fn (.func g0) first caps), (7, bedsV y), (8, iV y.nb), (9, iV i)]⟩, []⟩) (fun _ => ⟨[], 0⟩) (fun i => y.nb - i) (fun i => i ≤ y.nb ∧ ∀ j, j < i → p j = true) 0
    (fun _ => rfl) ⟨Nat.zero_le _, fun j hj => absurd hj (Nat.not_lt_zero j)⟩ (Weak.by rfl rfl (by simp) (Nat.le_refl _) (Nat.le_refl _) ⟨⟨rfl, .inl rfl⟩, ⟨rfl, .inl rfl⟩, ⟨rfl, .inl rfl⟩, ⟨rfl, .inl rfl⟩, trivial⟩ trivial) fun i ⟨hi, hall⟩ => ?_))
  refine SW.seqRun tok hO (by cbv <;> rfl) (by trivial) ?_
  refine SW.seq (SW.condS (by cbv <;> rfl) (fun h => SW.skip ?_) (fun h => SW.exit ?_))
  · have hlt : i < y.nb := by subst hO; simpa [std] using h
    refine SW.seq (SW.block ?_)
    refine SW.seqRun tok hO (by cbv <;> rfl) ?_ ?_
    · exact ⟨Int.natCast_nonneg i, Int.ofNat_lt.2 hlt⟩
    refine SW.seqRun tok hO (by cbv <;> rfl) (by trivial) ?_
    refine OpsW.callB (e := p i) (args := first ++ [iV (Int.ofNat i), .agg [iV (y.lng (O.nat (Int.ofNat i))), iV (y.blo (O.nat (Int.ofNat i))), iV (y.bhi (O.nat (Int.ofNat i)))]] ++ caps) (by rw [hnat]; exact hp i hlt) (by cbv <;> rfl) fun b hb' => ?_
    refine OpsW.run tok hO (by cbv <;> rfl) (by trivial) ?_
    refine SW.condS (by cbv <;> rfl) (fun h' => ?_) (fun h' => SW.skip ?_)
    · refine SW.seqRun tok hO (by cbv <;> rfl) (by trivial) ?_
      refine SW.ret ⟨_, _, rfl, rfl, Eqv.bool (Bool.eq_iff_iff.2 ?_)⟩
      subst hO
      simp [std, hb'] at h'
      simp only [Bool.false_eq_true, allN, decide_eq_true_eq, false_iff]
      intro hq
      rw [hq i hlt] at h'
      cases h'
    · refine SW.run tok hO (by cbv <;> rfl) (by trivial) ?_
      refine ⟨i + 1, by omega, ⟨by omega, fun j hj => ?_⟩, Weak.by rfl rfl (by simp) (Nat.le_refl _) (Nat.zero_le _) ⟨⟨rfl, .inr hb⟩, ⟨rfl, .inr (bedsV_below y)⟩, ⟨rfl, .inr iV_below⟩, ⟨inc_ok hO (by omega), .inr iV_below⟩, trivial⟩ trivial⟩
      rcases Nat.lt_succ_iff_lt_or_eq.1 hj with hj | rfl
      · exact hall j hj
      · subst hO; simp [std, hb'] at h'; exact h'
  · refine SW.seqRun tok hO (by cbv <;> rfl) (by trivial) ?_
    refine SW.ret ⟨_, _, rfl, rfl, Eqv.bool (Bool.eq_iff_iff.2 ?_)⟩
    have hge : y.nb ≤ i := by subst hO; simpa [std] using h
    simp only [allN, decide_eq_true_eq, true_iff]
    exact fun j hj => hall j (by omega)
theorem each94_ok (y : YardD) (g0 : FuncId) (first caps : List AV) (p : Nat → Bool) (hb : Below 0 (.fn (.func g0) first caps)) (hn : y.nc < 4611686018427387904) (hp : ∀ i, i < y.nc → Pure Try.prog g0 (first ++ [iV i, .agg [iV (y.cb i), iV (y.clo i), iV (y.chi i)]] ++ caps) (.sb (p i))) :
    Pure Try.prog 94 [clmsV y, .fn (.func g0) first caps] (.sb (allN y.nc p)) := by
  obtain ⟨O, hO⟩ : ∃ O : Ar, O = std := ⟨_, rfl⟩
  have hnat : ∀ i : Nat, O.nat (Int.ofNat i) = i := fun i => by subst hO; rfl
  refine pure_of_body tok 3 Try.func94 en94 rfl ⟨clmsV_below y, hb, trivial⟩ Below.sb ?_
  refine SW.seqRun tok hO (by cbv <;> rfl) (by trivial) ?_
  refine SW.seq ?_
  refine SW.seqRun tok hO (by cbv <;> rfl) (by trivial) ?_
  refine (SW.block (SW.loopF (fun i : Nat => ⟨⟨20, getT [(1, .fn (.func g0) first caps), (7, clmsV y), (8, iV y.nc), (9, iV i)]⟩, []⟩) (fun _ => ⟨[], 0⟩) (fun i => y.nc - i) (fun i => i ≤ y.nc ∧ ∀ j, j < i → p j = true) 0
    (fun _ => rfl) ⟨Nat.zero_le _, fun j hj => absurd hj (Nat.not_lt_zero j)⟩ (Weak.by rfl rfl (by simp) (Nat.le_refl _) (Nat.le_refl _) ⟨⟨rfl, .inl rfl⟩, ⟨rfl, .inl rfl⟩, ⟨rfl, .inl rfl⟩, ⟨rfl, .inl rfl⟩, trivial⟩ trivial) fun i ⟨hi, hall⟩ => ?_))
  refine SW.seqRun tok hO (by cbv <;> rfl) (by trivial) ?_
  refine SW.seq (SW.condS (by cbv <;> rfl) (fun h => SW.skip ?_) (fun h => SW.exit ?_))
  · have hlt : i < y.nc := by subst hO; simpa [std] using h
    refine SW.seq (SW.block ?_)
    refine SW.seqRun tok hO (by cbv <;> rfl) ?_ ?_
    · exact ⟨Int.natCast_nonneg i, Int.ofNat_lt.2 hlt⟩
    refine SW.seqRun tok hO (by cbv <;> rfl) (by trivial) ?_
    refine OpsW.callB (e := p i) (args := first ++ [iV (Int.ofNat i), .agg [iV (y.cb (O.nat (Int.ofNat i))), iV (y.clo (O.nat (Int.ofNat i))), iV (y.chi (O.nat (Int.ofNat i)))]] ++ caps) (by rw [hnat]; exact hp i hlt) (by cbv <;> rfl) fun b hb' => ?_
    refine OpsW.run tok hO (by cbv <;> rfl) (by trivial) ?_
    refine SW.condS (by cbv <;> rfl) (fun h' => ?_) (fun h' => SW.skip ?_)
    · refine SW.seqRun tok hO (by cbv <;> rfl) (by trivial) ?_
      refine SW.ret ⟨_, _, rfl, rfl, Eqv.bool (Bool.eq_iff_iff.2 ?_)⟩
      subst hO
      simp [std, hb'] at h'
      simp only [Bool.false_eq_true, allN, decide_eq_true_eq, false_iff]
      intro hq
      rw [hq i hlt] at h'
      cases h'
    · refine SW.run tok hO (by cbv <;> rfl) (by trivial) ?_
      refine ⟨i + 1, by omega, ⟨by omega, fun j hj => ?_⟩, Weak.by rfl rfl (by simp) (Nat.le_refl _) (Nat.zero_le _) ⟨⟨rfl, .inr hb⟩, ⟨rfl, .inr (clmsV_below y)⟩, ⟨rfl, .inr iV_below⟩, ⟨inc_ok hO (by omega), .inr iV_below⟩, trivial⟩ trivial⟩
      rcases Nat.lt_succ_iff_lt_or_eq.1 hj with hj | rfl
      · exact hall j hj
      · subst hO; simp [std, hb'] at h'; exact h'
  · refine SW.seqRun tok hO (by cbv <;> rfl) (by trivial) ?_
    refine SW.ret ⟨_, _, rfl, rfl, Eqv.bool (Bool.eq_iff_iff.2 ?_)⟩
    have hge : y.nc ≤ i := by subst hO; simpa [std] using h
    simp only [allN, decide_eq_true_eq, true_iff]
    exact fun j hj => hall j (by omega)
def YardD.validB (y : YardD) : Bool := decide (0 ≤ y.last) && decide (1 ≤ y.hands) && allN y.nb y.bedOk && allN y.nc y.clmOk
theorem valid_ok (y : YardD) (hb : y.nb < 1000000) (hc : y.nc < 1000000) : Pure Try.prog 65 [yardV y] (.sb y.validB) := by
  have e1 := hasWeek_ok y 0
  have e2 := each92_ok y 93 [yardV y] [] y.bedOk (Below.fn (AllB.ok ⟨yardV_below y, trivial⟩) (AllB.ok trivial)) (by omega) (fun i _ => isBed_ok y i i)
  have e3 := each94_ok y 95 [yardV y] [] y.clmOk (Below.fn (AllB.ok ⟨yardV_below y, trivial⟩) (AllB.ok trivial)) (by omega) (fun i _ => isClaim_ok y i i)
  have hv : y.validB = (y.hasWk 0 && decide (1 ≤ y.hands) && allN y.nb y.bedOk && allN y.nc y.clmOk) := by
    simp only [YardD.validB, YardD.hasWk, Int.le_refl, decide_true, Bool.true_and]
  rw [hv]
  generalize y.hasWk 0 = A at e1 ⊢
  generalize allN y.nb y.bedOk = B at e2 ⊢
  generalize allN y.nc y.clmOk = C at e3 ⊢
  obtain ⟨O, hO⟩ : ∃ O : Ar, O = std := ⟨_, rfl⟩
  refine pure_of_body tok 3 Try.func65 en65 rfl ⟨yardV_below y, trivial⟩ Below.sb ?_
  refine SW.seqRun tok hO (by cbv <;> rfl) (by trivial) ?_
  refine SW.seqRun tok hO (by cbv <;> rfl) (by trivial) ?_
  refine OpsW.callP e1 (by cbv <;> rfl) ?_
  refine OpsW.run tok hO (by cbv <;> rfl) (by trivial) ?_
  refine OpsW.splitG (by cbv <;> rfl) (fun h1 => ?_) (fun h1 => ?_) <;> refine OpsW.run tok hO (by cbv <;> rfl) (by trivial) ?_
  · subst h1
    refine OpsW.splitG (by cbv <;> rfl) (fun h2 => ?_) (fun h2 => ?_) <;> refine OpsW.run tok hO (by cbv <;> rfl) (by trivial) ?_
    · refine OpsW.callP e2 (by cbv <;> rfl) ?_
      refine OpsW.run tok hO (by cbv <;> rfl) (by trivial) ?_
      refine OpsW.splitG (by cbv <;> rfl) (fun h3 => ?_) (fun h3 => ?_) <;> refine OpsW.run tok hO (by cbv <;> rfl) (by trivial) ?_
      · subst h3
        refine OpsW.callP e3 (by cbv <;> rfl) ?_
        refine OpsW.run tok hO (by cbv <;> rfl) (by trivial) ?_
        refine SW.ret ⟨_, _, rfl, rfl, Eqv.sb ?_⟩
        subst hO; simp [std] at h2; simp [h2]
      · refine SW.ret ⟨_, _, rfl, rfl, Eqv.bool ?_⟩
        rw [h3]; simp
    · refine SW.ret ⟨_, _, rfl, rfl, Eqv.bool ?_⟩
      subst hO; cases y; simp [std] at h2; simp; omega
  · refine SW.ret ⟨_, _, rfl, rfl, Eqv.bool ?_⟩
    rw [h1]; simp
end Go.Fz
set_option linter.unusedVariables false
namespace Go.Fz
variable {P : Program} {T : Ti}
def not0 (j : Nat) : Bool := !(Nat.beq j 0)
def mpS (es : List (AV × AV × Nat)) (clock : Nat) : St := ⟨[(0, .map es clock)], 1⟩
theorem mpS_get {es : List (AV × AV × Nat)} {clock id : Nat} {o : AObj} (h : (mpS es clock).h.get id = some o) : id = 0 ∧ o = .map es clock := by
  simp only [mpS, Hp.get] at h
  split at h
  · rename_i hi; cases h; exact ⟨hi.symm, rfl⟩
  · cases h
theorem call_mp {g : FuncId} {args args2 : List AV} {r : AV} {m mid : Nat} {es : List (AV × AV × Nat)} {clock : Nat} {st : St} (hm : st.h.get mid = some (.map es clock))
    (hes : ∀ x ∈ es, Below 0 x.1 ∧ Below 0 x.2.1) (hr : Below 0 r)
    (ha : ∀ (φ : Fi) (us : List Value), VRL φ args us → VRL ⟨fun _ => φ.f mid, 1, φ.z⟩ args2 us)
    (h : CallW P g args2 (mpS es clock) (fun v st' => st'.h.get 0 = some (.map es clock) ∧ freeB st'.h not0 = true ∧ Eqv (frz st'.h not0 m v) r)) : CallW P g args st (fun v st' => v = r ∧ st' = st) := by
  intro φ w cargs n hrel hargs
  obtain ⟨φ0, hφ0⟩ : ∃ φ0 : Fi, φ0 = ⟨fun _ => φ.f mid, 1, φ.z⟩ := ⟨_, rfl⟩
  have f0 : φ0.f 0 = φ.f mid := by rw [hφ0]
  have n0 : φ0.n = 1 := by rw [hφ0]
  have z0 : φ0.z = φ.z := by rw [hφ0]
  have closed : ∀ {a : AV} {v : Value}, Below 0 a → VR φ a v → VR φ0 a v := fun hb h =>
    VR.mono (φ := ⟨φ.f, 0, φ.z⟩) (φ' := φ0) ⟨Nat.zero_le _, fun id hid => absurd hid (Nat.not_lt_zero id), fun b c hb => by rw [z0]; exact hb⟩ (hb _ _ h)
  have hrel0 : Rel φ0 (mpS es clock) w := by
    refine ⟨n0, fun j o h => ?_, fun j o h => ?_, fun j o h => ?_, fun i j oi oj hi hj hij ho hbb => ?_, fun j o f h hf => ?_, fun b c hb' => ?_⟩
    · obtain ⟨rfl, rfl⟩ := mpS_get h; show 0 < 1; omega
    · obtain ⟨rfl, rfl⟩ := mpS_get h; rw [f0]; exact hrel.blk _ _ hm
    · obtain ⟨rfl, rfl⟩ := mpS_get h
      obtain ⟨ces, h1, h2, h3⟩ := hrel.obj mid _ hm
      refine ⟨ces, by rw [f0]; exact h1, h2, fun i x hx => ?_⟩
      obtain ⟨e, k1, k2, k3, k4⟩ := h3 i x hx
      obtain ⟨b1, b2⟩ := hes x (List.mem_of_getElem? hx)
      exact ⟨e, k1, closed b1 k2, closed b2 k3, k4⟩
    · exfalso
      obtain ⟨rfl, rfl⟩ := mpS_get hi
      obtain ⟨rfl, rfl⟩ := mpS_get hj
      exact hij rfl
    · obtain ⟨rfl, rfl⟩ := mpS_get h; cases hf
    · obtain ⟨h1, h2, h3⟩ := hrel.froz b c (by rw [← z0]; exact hb')
      refine ⟨h1, h2, fun j o h ho => ?_⟩
      obtain ⟨rfl, rfl⟩ := mpS_get h
      rw [f0]; exact h3 mid _ hm rfl
  refine (h φ0 w cargs n hrel0 (by have := ha φ _ hargs; rw [hφ0]; exact this)).mono fun e w1 hp => ?_
  obtain ⟨v, cv, st1, φ1, rfl, ⟨hmap, hfree, hv⟩, hvr, hext, hrel1, hfr⟩ := hp
  obtain ⟨hrel2, hfr2⟩ := hrel1.freeze hfree
  have hvr2 := frz_ok (D := not0) hrel1 m hvr
  replace hvr2 := hv _ _ hvr2
  have hfr3 := hfr.trans hfr2
  have e0 : φ1.f 0 = φ.f mid := (hext.f 0 (by rw [n0]; omega)).trans f0
  have hown : ∀ b, Owns φ0 (mpS es clock) b → b = (φ.f mid).b := fun b ⟨j, o, h, ho, hb⟩ => by
    obtain ⟨rfl, rfl⟩ := mpS_get h
    rw [← hb, f0]
  have hkeep : (st1.keep fun i => !not0 i).h.get 0 = some (.map es clock) := Hp.filter_get (p := fun i => !not0 i) hmap (by rfl)
  have hzs : ∀ b c, zOf φ1 st1.h not0 w1 b = some c → φ.z b = some c ∨ w.heap.size ≤ b := fun b c hb => by
    rcases hfr3.zs b c hb with h | h | h
    · exact .inl (by rw [← z0]; exact h)
    · exfalso
      exact (hrel2.froz b c hb).2.2 0 _ hkeep rfl (by show (φ1.f 0).b = b; rw [e0, hown b h])
    · exact .inr h
  have hext3 : Ext φ ⟨φ.f, φ.n, zOf φ1 st1.h not0 w1⟩ := ⟨Nat.le_refl _, fun _ _ => rfl, fun b c hb => zOf_old (hext.z b c (by rw [z0]; exact hb))⟩
  have hback : ∀ {a : AV} {v : Value}, Below 0 a → VR ⟨φ1.f, φ1.n, zOf φ1 st1.h not0 w1⟩ a v → VR ⟨φ.f, φ.n, zOf φ1 st1.h not0 w1⟩ a v := fun hb h =>
    VR.mono (φ := ⟨φ1.f, 0, zOf φ1 st1.h not0 w1⟩) (φ' := ⟨φ.f, φ.n, zOf φ1 st1.h not0 w1⟩) ⟨Nat.zero_le _, fun id hid => absurd hid (Nat.not_lt_zero id), fun b c hb => hb⟩ (hb _ _ h)
  have hsame : ∀ k, k < w.heap.size → k ≠ (φ.f mid).b → w1.heap[k]? = w.heap[k]? := fun k hk hne => hfr3.block k hk fun ho => hne (hown k ho)
  refine ⟨r, cv, st, ⟨φ.f, φ.n, zOf φ1 st1.h not0 w1⟩, rfl, ⟨rfl, rfl⟩, hback hr hvr2, hext3, ?_, ?_⟩
  · refine ⟨hrel.n, hrel.lt, fun id o ho => Nat.lt_of_lt_of_le (hrel.blk id o ho) hfr3.size, fun id o ho => ?_, hrel.sep, hrel.fam, fun b c hb => ?_⟩
    · by_cases hi : id = mid
      · subst hi
        rw [hm] at ho; cases ho
        obtain ⟨ces, h1, h2, h3⟩ := hrel1.obj 0 _ hmap
        refine ⟨ces, by rw [← h1, e0], h2, fun i x hx => ?_⟩
        obtain ⟨e, k1, k2, k3, k4⟩ := h3 i x hx
        obtain ⟨b1, b2⟩ := hes x (List.mem_of_getElem? hx)
        have hz : Ext φ1 ⟨φ1.f, φ1.n, zOf φ1 st1.h not0 w1⟩ := ⟨Nat.le_refl _, fun _ _ => rfl, fun b c hb => zOf_old hb⟩
        exact ⟨e, k1, hback b1 (k2.mono hz), hback b2 (k3.mono hz), k4⟩
      · refine (hrel.obj id o ho).same hext3 (by rw [hrel.n]; exact hrel.lt id o ho) (hsame _ (hrel.blk id o ho) fun he => ?_)
        obtain ⟨⟨f, hf, _⟩, _⟩ := hrel.sep mid id _ o hm ho (Ne.symm hi) rfl he.symm
        cases hf
    · obtain ⟨h1, h2, _⟩ := hrel2.froz b c hb
      refine ⟨h1, h2, fun id o ho hown' hbb => ?_⟩
      rcases hzs b c hb with h3 | h3
      · exact (hrel.froz b c h3).2.2 id o ho hown' hbb
      · have := hrel.blk id o ho
        have hbb' : (φ.f id).b = b := hbb
        omega
  · exact ⟨hfr3.os, hfr3.tape, hfr3.output, hfr3.size, fun k hk hno => hsame k hk (fun he => hno ⟨mid, _, hm, rfl, he.symm⟩), fun k hk => .inl hk, fun b c hb => (hzs b c hb).elim .inl fun h => .inr (.inr h)⟩
end Go.Fz
set_option linter.unusedVariables false
namespace Go.Fz
open Go.Proofs
set_option maxRecDepth 100000
def inP (p : Int × Int) : Bool := decide (-10 ≤ p.1) && decide (p.1 ≤ 1000) && decide (-10 ≤ p.2) && decide (p.2 ≤ 1000)
abbrev Plc := { p : Int × Int // inP p = true }
def pl (a b : Int) : Plc := if h : inP (a, b) = true then ⟨(a, b), h⟩ else ⟨(0, 0), rfl⟩
def plV (p : Plc) : AV := .agg [iV p.1.1, iV p.1.2]
theorem plV_below (p : Plc) : Below 0 (plV p) := Below.agg (AllB.ok ⟨Below.lit, Below.lit, trivial⟩)
theorem pl_in {a b : Int} (h1 : -10 ≤ a) (h2 : a ≤ 1000) (h3 : -10 ≤ b) (h4 : b ≤ 1000) : (pl a b).1 = (a, b) := by
  have h : inP (a, b) = true := by simp only [inP, Bool.and_eq_true, decide_eq_true_eq]; exact ⟨⟨⟨h1, h2⟩, h3⟩, h4⟩
  unfold pl; rw [dif_pos h]
theorem plV_in {a b : Int} (h1 : -10 ≤ a) (h2 : a ≤ 1000) (h3 : -10 ≤ b) (h4 : b ≤ 1000) : plV (pl a b) = .agg [iV a, iV b] := by
  unfold plV; rw [pl_in h1 h2 h3 h4]
theorem keyed147 : Maps.Keyed Try.prog 147 := Maps.Keyed.of_law (deep_law_laid (m := 3) laid (by omega) (lt_of_ble (by kernel_rfl)) (by kernel_rfl) (by kernel_rfl))
theorem wfP {n : Int} (h0 : -10 ≤ n) (h1 : n ≤ 1000) : (Lit.int .i64 n).wf = true := by
  simp [Lit.wf, IntKind.min, IntKind.max, IntKind.signed, IntKind.bits]
  omega
theorem pl_key {a b : Int} (ha : (Lit.int .i64 a).wf = true) (hb : (Lit.int .i64 b).wf = true) : ∃ l, keyOf Try.prog 147 (.agg #[.int .i64 a, .int .i64 b]) = some l :=
  keyOf_pair (e := 3) (d := 164) Try.underlying147 (by kernel_rfl) rfl rfl rfl rfl (by decide) (by decide) Try.underlying3 (by kernel_rfl) (by kernel_rfl) (by kernel_rfl) ha hb
def plKey : KeyF Try.prog 147 plV where
  den p := .agg #[.int .i64 p.1.1, .int .i64 p.1.2]
  val φ b u h := by
    obtain ⟨us, rfl, h1⟩ := h.agg_inv
    match us, h1 with
    | [_, _], .cons h1 (.cons h2 .nil) => rw [h1.lit_inv, h2.lit_inv]
  key b := by
    obtain ⟨b, h⟩ := b
    simp only [inP, Bool.and_eq_true, decide_eq_true_eq] at h
    exact pl_key (wfP h.1.1.1 h.1.1.2) (wfP h.1.2 h.2)
  inj b c h := by
    obtain ⟨⟨b0, b1⟩, _⟩ := b
    obtain ⟨⟨c0, c1⟩, _⟩ := c
    simp at h
    simp [h]
theorem zero4 : ZeroG Try.prog 4 (boolVal.den false) := falseZ4
abbrev Mk4 := List ((Plc × Bool) × Nat)
def mkE (E : Mk4) : List (AV × AV × Nat) := gmE plV blV E
theorem mkE_below (E : Mk4) : ∀ x ∈ mkE E, Below 0 x.1 ∧ Below 0 x.2.1 := fun x hx => by
  obtain ⟨p, _, rfl⟩ := List.mem_map.1 hx
  exact ⟨plV_below _, Below.lit⟩
def empB (E : Mk4) (a b : Int) : Bool := gmGet false E (pl a b)
def workC (y : YardD) (m : AV) : List AV := [iV y.last, iV y.hands, bedsV y, clmsV y, m]
def busyN (E : Mk4) (w : Int) : Nat → Int
  | 0 => 0
  | i + 1 => if empB E i w then add64 (busyN E w i) 1 else busyN E w i
set_option maxHeartbeats 4000000 in
theorem busy_ok (y : YardD) (hy : y.nb < 100) (w : Int) (h1 : -10 ≤ w) (h2 : w ≤ 1000) (E : Mk4) (hn : (E.map (·.1.1)).Nodup) (cl : Nat) :
    CallW Try.prog 120 [.agg (workC y (.mp 0)), iV w] (mpS (mkE E) cl) (fun v st' => st'.h.get 0 = some (.map (mkE E) cl) ∧ freeB st'.h not0 = true ∧ Eqv (frz st'.h not0 3 v) (iV (busyN E w y.nb))) := by
  obtain ⟨O, hO⟩ : ∃ O : Ar, O = std := ⟨_, rfl⟩
  obtain ⟨ME, hME⟩ : ∃ m, mkE E = m := ⟨_, rfl⟩
  rw [hME]
  refine callW_of_body tok Try.func120 rfl ?_
  refine SW.seqRun tok hO (by cbv <;> rfl) (by trivial) ?_
  refine SW.seqRun tok hO (by cbv <;> rfl) (by trivial) ?_
  refine SW.seq ?_
  refine SW.seqRun tok hO (by cbv <;> rfl) (by trivial) ?_
  refine (SW.block (SW.loopF (fun i : Nat => ⟨⟨24, getT [(1, iV w), (2, .ptr 1 0), (5, iV (busyN E w i)), (10, iV y.nb), (11, iV i)]⟩, []⟩) (fun _ => ⟨[(1, .cells none false (workC y (.mp 0))), (0, .map ME cl)], 2⟩) (fun i => y.nb - i) (fun i => i ≤ y.nb) 0
    (fun _ => rfl) (Nat.zero_le _) (Weak.by rfl rfl (by simp) (Nat.le_refl _) (Nat.le_refl _) ⟨⟨rfl, .inl rfl⟩, ⟨rfl, .inl rfl⟩, ⟨rfl, .inl rfl⟩, ⟨rfl, .inl rfl⟩, ⟨rfl, .inl rfl⟩, trivial⟩ ⟨⟨rfl, by show 1 < 2; omega, .inl rfl⟩, ⟨rfl, by show 0 < 2; omega, .inl rfl⟩, trivial⟩) fun i hi => ?_))
  generalize hacc : busyN E w i = acc
  refine SW.seqRun tok hO (by cbv <;> rfl) (by trivial) ?_
  refine SW.seq (SW.condS (by cbv <;> rfl) (fun h => SW.skip ?_) (fun h => SW.exit ?_))
  · have hlt : i < y.nb := by subst hO; simpa [std] using h
    refine SW.seq (SW.block ?_)
    refine SW.seqRun tok hO (by cbv <;> rfl) (by trivial) ?_
    have hkv : plV (pl (i : Int) w) = .agg [iV (Int.ofNat i), iV w] := plV_in (by omega) (by omega) h1 h2
    refine SW.seq (SW.runN tok hO 5 (by cbv <;> rfl) (by trivial) ?_)
    refine OpsW.gmLook tok keyed147 plKey boolVal (pl (i : Int) w) false hn (by cbv <;> rfl) (by rw [hkv]; exact Eqv.refl _) (by kernel_rfl) zero4 (clock := cl) (by rw [← hME]; rfl) ?_
    have hsu : busyN E w (i + 1) = if empB E i w then add64 acc 1 else acc := by rw [← hacc]; rfl
    obtain ⟨b, hb⟩ : ∃ b, empB E i w = b := ⟨_, rfl⟩
    rw [hb] at hsu
    rw [show gmGet false E (pl (i : Int) w) = b from hb]
    refine OpsW.run tok hO (by cbv <;> rfl) (by trivial) ?_
    cases b with
    | true =>
      refine SW.cond (t := true) (by cbv <;> rfl) ?_
      refine SW.run tok hO (by cbv <;> rfl) (by trivial) ?_
      refine SW.run tok hO (by cbv <;> rfl) (by trivial) ?_
      refine ⟨i + 1, by omega, by omega, Weak.by rfl rfl (by simp) (Nat.le_refl _) (Nat.le_refl _) ⟨⟨rfl, .inl rfl⟩, ⟨rfl, .inl rfl⟩, ⟨?_, .inl rfl⟩, ⟨rfl, .inl rfl⟩, ⟨inc_ok hO (by omega), .inl rfl⟩, trivial⟩ ⟨⟨rfl, by show 1 < 2; omega, .inl rfl⟩, ⟨rfl, by show 0 < 2; omega, .inl rfl⟩, trivial⟩⟩
      show AV.lit (.int .i64 _) = iV (busyN E w (i + 1))
      rw [hsu]
      subst hO; rfl
    | false =>
      refine SW.cond (t := false) (by cbv <;> rfl) (SW.skip ?_)
      refine SW.run tok hO (by cbv <;> rfl) (by trivial) ?_
      refine ⟨i + 1, by omega, by omega, Weak.by rfl rfl (by simp) (Nat.le_refl _) (Nat.le_refl _) ⟨⟨rfl, .inl rfl⟩, ⟨rfl, .inl rfl⟩, ⟨by rw [hsu]; rfl, .inl rfl⟩, ⟨rfl, .inl rfl⟩, ⟨inc_ok hO (by omega), .inl rfl⟩, trivial⟩ ⟨⟨rfl, by show 1 < 2; omega, .inl rfl⟩, ⟨rfl, by show 0 < 2; omega, .inl rfl⟩, trivial⟩⟩
  · have hge : y.nb ≤ i := by subst hO; simpa [std] using h
    have hin : i = y.nb := by omega
    subst hin
    refine SW.seqRun tok hO (by cbv <;> rfl) (by trivial) ?_
    exact SW.ret ⟨_, _, rfl, rfl, rfl, rfl, Eqv.int hacc.symm⟩
end Go.Fz
set_option linter.unusedVariables false
namespace Go.Fz
open Go.Proofs
set_option maxRecDepth 100000
theorem work_arg {y : YardD} {mid : Nat} {l : List Int} {φ : Fi} {us : List Value} (h : VRL φ (.agg (workC y (.mp mid)) :: l.map iV) us) : VRL ⟨fun _ => φ.f mid, 1, φ.z⟩ (.agg (workC y (.mp 0)) :: l.map iV) us := by
  have closed : ∀ {a : AV} {v : Value}, Below 0 a → VR φ a v → VR ⟨fun _ => φ.f mid, 1, φ.z⟩ a v := fun hb h =>
    VR.mono (φ := ⟨φ.f, 0, φ.z⟩) (φ' := ⟨fun _ => φ.f mid, 1, φ.z⟩) ⟨Nat.zero_le _, fun id hid => absurd hid (Nat.not_lt_zero id), fun b c hb => hb⟩ (hb _ _ h)
  have ints : ∀ (l : List Int) (us : List Value), VRL φ (l.map iV) us → VRL ⟨fun _ => φ.f mid, 1, φ.z⟩ (l.map iV) us := fun l => by
    induction l with
    | nil => intro us h; cases h; exact .nil
    | cons x l ih => intro us h; cases h with | cons h t => exact .cons (closed Below.lit h) (ih _ t)
  cases h with
  | cons h t =>
    refine .cons ?_ (ints l _ t)
    obtain ⟨vs, rfl, h1⟩ := h.agg_inv
    match vs, h1 with
    | [_, _, _, _, _], .cons h1 (.cons h2 (.cons h3 (.cons h4 (.cons h5 .nil)))) =>
      obtain ⟨rfl, _⟩ := h5.mp_inv
      exact .agg (.cons (closed Below.lit h1) (.cons (closed Below.lit h2) (.cons (closed (bedsV_below y) h3) (.cons (closed (clmsV_below y) h4) (.cons (.mp (φ := ⟨fun _ => φ.f mid, 1, φ.z⟩) 0 Nat.zero_lt_one) .nil)))))
theorem busy_at (y : YardD) (hy : y.nb < 100) (w : Int) (h1 : -10 ≤ w) (h2 : w ≤ 1000) (E : Mk4) (hn : (E.map (·.1.1)).Nodup) (cl : Nat) {st : St} {mid : Nat} (hm : st.h.get mid = some (.map (mkE E) cl)) :
    CallW Try.prog 120 [.agg (workC y (.mp mid)), iV w] st (fun v st' => v = iV (busyN E w y.nb) ∧ st' = st) :=
  call_mp (m := 3) hm (mkE_below E) Below.lit (fun φ us h => work_arg (l := [w]) h) (busy_ok y hy w h1 h2 E hn cl)
theorem range71 (lo hi : Int) (h : Hp) (n : Nat) : CallW Try.prog 71 [rangeV lo hi] ⟨h, n⟩ (fun v st' => v = .fn (.func 97) [] [.ptr n 0] ∧ st' = ⟨(n, .cells none false [iV lo, iV hi]) :: h, n + 1⟩) := by
  obtain ⟨O, hO⟩ : ∃ O : Ar, O = std := ⟨_, rfl⟩
  refine callW_of_body tok Try.func71 rfl ?_
  refine SW.seqRun tok hO (by cbv <;> rfl) (by trivial) ?_
  refine SW.seqRun tok hO (by cbv <;> rfl) (by trivial) ?_
  exact SW.ret ⟨_, _, rfl, rfl, rfl, rfl⟩
set_option maxHeartbeats 4000000 in
theorem all97 {K stop : Nat → St → Prop} {y m : Nat} {lo hi : Int} (h0 : -10 ≤ lo) (h1 : hi ≤ 1000) (hlh : lo ≤ hi + 1)
    (hget : ∀ i st, K i st → ∃ fm ro, st.h.get m = some (.cells fm ro [iV lo, iV hi]))
    (step : ∀ i st, i < (hi - lo + 1).toNat → K i st → YieldW Try.prog y [iV (lo + i)] st (fun v st' => (v = .lit (.bool true) ∧ K (i + 1) st') ∨ (v = .lit (.bool false) ∧ stop i st')))
    {st : St} (hK : K 0 st) : CallW Try.prog 97 [.yld y, .ptr m 0] st (fun _ st' => K (hi - lo + 1).toNat st' ∨ ∃ i, i < (hi - lo + 1).toNat ∧ stop i st') := by
  obtain ⟨O, hO⟩ : ∃ O : Ar, O = std := ⟨_, rfl⟩
  obtain ⟨C, hC⟩ : ∃ C, (hi - lo + 1).toNat = C := ⟨_, rfl⟩
  rw [hC] at step ⊢
  have hsz : size64 lo hi = (C : Int) := by
    unfold size64
    rw [sub64_in _ _ (by omega) (by omega), add64_in _ _ (by omega) (by omega)]
    omega
  have hC2 : C < 100000 := by omega
  obtain ⟨fm, ro, hg⟩ := hget _ _ hK
  refine callW_of_body tok Try.func97 rfl ?_
  refine SW.seq (SW.runN tok hO 0 (by cbv <;> rfl) (by trivial) ?_)
  refine OpsW.ldI tok (by cbv <;> rfl) (load_at2 (u := iV lo) (v := iV hi) (by kernel_rfl) hg rfl rfl) ?_
  refine OpsW.run tok hO (by cbv <;> rfl) (by trivial) ?_
  have hs := size_ok lo hi
  rw [hsz] at hs
  obtain ⟨CC, hCC⟩ : ∃ c : Int, (C : Int) = c := ⟨_, rfl⟩
  rw [hCC] at hs
  refine OpsW.callP hs (by cbv <;> rfl) ?_
  refine OpsW.run tok hO (by cbv <;> rfl) (by trivial) ?_
  refine (SW.block (SW.loop (fun k f st => ∃ (g : Nat → AV) (c : Nat), f = ⟨⟨17, g⟩, []⟩ ∧ AllP (fun p => g p.1 = p.2) [(0, .yld y), (1, .ptr m 0), (5, iV CC), (6, iV c)] ∧ K c st ∧ c ≤ C ∧ k = C - c) (C - 0) ?_ ?_))
  · exact ⟨_, 0, rfl, ⟨rfl, rfl, rfl, rfl, trivial⟩, hK, Nat.zero_le _, rfl⟩
  · rintro k f st ⟨g, c, rfl, ⟨g0, g1, g5, g6, _⟩, hK, hle, rfl⟩
    obtain ⟨fm, ro, hg⟩ := hget _ _ hK
    simp only at g0 g1 g5 g6
    rw [← updT_self g0, ← updT_self g1, ← updT_self g5, ← updT_self g6]
    obtain ⟨cc, hcc⟩ : ∃ x : Int, (c : Int) = x := ⟨_, rfl⟩
    rw [hcc]
    refine SW.seqRun tok hO (by cbv <;> rfl) (by trivial) ?_
    refine SW.seq (SW.condS (by cbv <;> rfl) (fun h3 => SW.skip ?_) (fun h3 => SW.exit ?_))
    · have hlt : c < C := by
        have : cc < CC := by subst hO; simpa [std] using h3
        omega
      refine SW.seq (SW.block ?_)
      refine SW.seqRun tok hO (by cbv <;> rfl) (by trivial) ?_
      refine SW.seq (SW.runN tok hO 2 (by cbv <;> rfl) (by trivial) ?_)
      refine OpsW.ldI tok (by cbv <;> rfl) (load_at (v := iV lo) (by kernel_rfl) hg rfl) ?_
      refine OpsW.run tok hO (by cbv <;> rfl) (by trivial) ?_
      have hv : O.bin .add .i64 lo cc = lo + (c : Int) := by
        subst hO
        show add64 lo cc = _
        rw [← hcc, add64_in _ _ (by omega) (by omega)]
      have hst := step c st hlt hK
      rw [← hv] at hst
      refine OpsW.apply (c := .yld y) (args := [iV (O.bin .add .i64 lo cc)]) (by cbv <;> rfl) hst fun v st' hk => ?_
      rcases hk with ⟨rfl, hK'⟩ | ⟨rfl, hS⟩
      · refine OpsW.run tok hO (by cbv <;> rfl) (by trivial) ?_
        refine SW.cond (t := false) (by cbv <;> rfl) (SW.skip ?_)
        refine SW.run tok hO (by cbv <;> rfl) (by trivial) ?_
        refine ⟨C - (c + 1), by omega, _, c + 1, rfl, ⟨rfl, rfl, rfl, ?_, trivial⟩, hK', by omega, rfl⟩
        show AV.lit (.int .i64 (O.bin .add .i64 cc 1)) = iV ((c + 1 : Nat) : Int)
        rw [← hcc]
        exact inc_ok hO (by omega)
      · refine OpsW.run tok hO (by cbv <;> rfl) (by trivial) ?_
        refine SW.cond (t := true) (by cbv <;> rfl) ?_
        exact SW.ret ⟨_, _, rfl, rfl, .inr ⟨c, hlt, hS⟩⟩
    · have hge : c = C := by
        have : CC ≤ cc := by subst hO; simpa [std] using h3
        omega
      subst hge
      exact ⟨_, _, rfl, rfl, .inl hK⟩
end Go.Fz
set_option linter.unusedVariables false
namespace Go.Fz
open Go.Proofs
set_option maxRecDepth 100000
noncomputable def hhParts : Code × Code := match findRF (bodyF Try.f116) with
  | some p => p
  | none => (.skip, .skip)
def hhL : List (Nat × AV) := [(3, .ptr 1 0), (6, .ptr 2 0), (16, .fn (.func 97) [] [.ptr 3 0])]
noncomputable def hhR : ALoop := { state := .ready, pending := none, tmps := ⟨25, getT hhL⟩, params := #[17], assign := hhParts.1, body := hhParts.2, dfid := 4 }
noncomputable def hhRx : ALoop := { hhR with state := .done, pending := some .ret }
def hhH (y : YardD) (ME : List (AV × AV × Nat)) (cl : Nat) (lo hi : Int) (r : ALoop) (X : AV) : Hp :=
  [(5, .loop r), (4, .dfr), (3, .cells none false [iV lo, iV hi]), (2, .cells none false [X]), (1, .cells none false (workC y (.mp 0))), (0, .map ME cl)]
def handsQ (y : YardD) (E : Mk4) (w : Int) : Bool := decide (busyN E w y.nb < y.hands)
def bedHi (y : YardD) (b : Nat) (v : Int) : Int := v + y.lng b - 1
set_option maxHeartbeats 4000000 in
theorem hh_round (y : YardD) (hy : y.nb < 100) (w : Int) (h1 : -10 ≤ w) (h2 : w ≤ 1000) (E : Mk4) (hn : (E.map (·.1.1)).Nodup) (cl : Nat) (lo hi : Int) (X : AV) :
    YieldW Try.prog 5 [iV w] ⟨hhH y (mkE E) cl lo hi hhR X, 6⟩ (fun v st' => (v = .lit (.bool true) ∧ handsQ y E w = true ∧ st' = ⟨hhH y (mkE E) cl lo hi hhR X, 6⟩) ∨ (v = .lit (.bool false) ∧ handsQ y E w = false ∧ st' = ⟨hhH y (mkE E) cl lo hi hhRx (.sb false), 6⟩)) := by
  obtain ⟨O, hO⟩ : ∃ O : Ar, O = std := ⟨_, rfl⟩
  have hb := fun (st : St) (hm : st.h.get 0 = some (.map (mkE E) cl)) => busy_at y hy w h1 h2 E hn cl (mid := 0) hm
  have hq : handsQ y E w = decide (busyN E w y.nb < y.hands) := rfl
  generalize busyN E w y.nb = N at hb hq
  generalize handsQ y E w = HQ at hq ⊢
  obtain ⟨ME, hME⟩ : ∃ m, mkE E = m := ⟨_, rfl⟩
  rw [hME] at hb ⊢
  refine YieldW.of_round (r := hhR) rfl rfl ?_
  refine SW.run tok hO (by cbv <;> rfl) (by trivial) ?_
  refine ⟨hhR, rfl, rfl, SW.block ?_⟩
  obtain ⟨RB, hRB⟩ : ∃ r, r = ({ hhR with state := .busy } : ALoop) := ⟨_, rfl⟩
  rw [← hRB]
  refine SW.seqRunD tok mixed hO (by rfl) (by cbv <;> rfl) (by trivial) ?_
  refine AnyE.callS en120 (hb _ rfl) (by cbv <;> rfl) (by cbv <;> rfl) ?_
  refine AnyE.run tok hO (by rfl) (by cbv <;> rfl) (by trivial) ?_
  refine AnyE.dec tok hO (by rfl) (by cbv <;> rfl) (by trivial) (fun h3 => ?_) (fun h3 => ?_)
  · refine AnyE.run tok hO (by rfl) (by cbv <;> rfl) (by trivial) ?_
    refine SW.cond (t := true) (by cbv <;> rfl) ?_
    refine SW.seqRun tok hO (by cbv <;> rfl) (by trivial) ?_
    subst hRB
    have : y.hands ≤ N := by subst hO; simpa [std] using h3
    exact SW.ret ⟨_, rfl, .inr ⟨rfl, by rw [hq]; exact decide_eq_false (by omega), rfl⟩⟩
  · refine AnyE.run tok hO (by rfl) (by cbv <;> rfl) (by trivial) ?_
    refine SW.cond (t := false) (by cbv <;> rfl) (SW.skip ?_)
    subst hRB
    have : N < y.hands := by subst hO; simpa [std] using h3
    exact ⟨_, rfl, .inl ⟨rfl, by rw [hq]; exact decide_eq_true this, rfl⟩⟩
def handsN (y : YardD) (E : Mk4) (b : Nat) (v : Int) : Bool := allN (y.lng b).toNat fun k => handsQ y E (v + k)
set_option maxHeartbeats 8000000 in
theorem hasHands_ok (y : YardD) (hy : y.nb < 100) (b : Nat) (hb : b < y.nb) (hl : 1 ≤ y.lng b ∧ y.lng b ≤ 3) (v : Int) (h1 : 0 ≤ v) (h2 : v ≤ 100) (E : Mk4) (hn : (E.map (·.1.1)).Nodup) (cl : Nat) :
    CallW Try.prog 116 [.agg (workC y (.mp 0)), iV (b : Int), iV v] (mpS (mkE E) cl) (fun r st' => st'.h.get 0 = some (.map (mkE E) cl) ∧ freeB st'.h not0 = true ∧ Eqv (frz st'.h not0 3 r) (.sb (handsN y E b v))) := by
  obtain ⟨O, hO⟩ : ∃ O : Ar, O = std := ⟨_, rfl⟩
  have hnat : ∀ i : Nat, O.nat (Int.ofNat i) = i := fun i => by subst hO; rfl
  have hem := emptyFrom_ok (y.lng b) (y.blo b) (y.bhi b) v
  have hhi : sub64 (add64 v (y.lng b)) 1 = bedHi y b v := by
    rw [add64_in _ _ (by omega) (by omega), sub64_in _ _ (by omega) (by omega)]; rfl
  rw [hhi] at hem
  have hcnt : (bedHi y b v - v + 1).toNat = (y.lng b).toNat := by unfold bedHi; omega
  have hbh : v ≤ bedHi y b v + 1 ∧ bedHi y b v ≤ 1000 := by unfold bedHi; omega
  obtain ⟨hi, hhi⟩ : ∃ x, bedHi y b v = x := ⟨_, rfl⟩
  rw [hhi] at hem hcnt hbh
  have hround := fun w a b => hh_round y hy w a b E hn cl v hi
  have hq : handsN y E b v = allN (y.lng b).toNat fun k => handsQ y E (v + k) := rfl
  generalize handsN y E b v = HN at hq ⊢
  rw [← hcnt] at hq
  have hall := fun X => all97 (K := fun i st => st = ⟨hhH y (mkE E) cl v hi hhR X, 6⟩ ∧ ∀ k : Nat, k < i → handsQ y E (v + k) = true) (stop := fun i st => st = ⟨hhH y (mkE E) cl v hi hhRx (.sb false), 6⟩ ∧ handsQ y E (v + i) = false) (y := 5) (m := 3) (lo := v) (hi := hi) (by omega) hbh.2 hbh.1 (fun i st hk => by rw [hk.1]; exact ⟨none, false, rfl⟩)
    (fun i st hi' hk => by
      rw [hk.1]
      refine (hround (v + i) (by omega) (by omega) X).mono fun r st' hr => ?_
      rcases hr with ⟨rfl, hq1, rfl⟩ | ⟨rfl, hq1, rfl⟩
      · refine .inl ⟨rfl, rfl, fun k hk' => ?_⟩
        rcases Nat.lt_succ_iff_lt_or_eq.1 hk' with hk' | rfl
        · exact hk.2 k hk'
        · exact hq1
      · exact .inr ⟨rfl, rfl, hq1⟩) (st := ⟨hhH y (mkE E) cl v hi hhR X, 6⟩) ⟨rfl, fun k hk => absurd hk (Nat.not_lt_zero k)⟩
  clear hround
  obtain ⟨ME, hME⟩ : ∃ m, mkE E = m := ⟨_, rfl⟩
  rw [hME] at hall ⊢
  refine callW_of_body tok Try.func116 rfl ?_
  refine SW.seqRun tok hO (by cbv <;> rfl) (by trivial) ?_
  refine SW.seq ?_
  refine SW.seqRun tok hO (by cbv <;> rfl) ?_ ?_
  · exact ⟨Int.natCast_nonneg b, Int.ofNat_lt.2 hb⟩
  rw [← hnat b] at hem
  refine OpsW.callP hem (by cbv <;> rfl) ?_
  refine OpsW.run tok hO (by cbv <;> rfl) (by trivial) ?_
  refine OpsW.callS en71 (range71 v hi _ _) (by cbv <;> rfl) fun r st' hk => ?_
  obtain ⟨rfl, rfl⟩ := hk
  refine OpsW.run tok hO (by cbv <;> rfl) (by trivial) ?_
  refine SW.block ?_
  refine SW.pre (f2 := ⟨⟨25, getT hhL⟩, []⟩) (st2 := ⟨[(3, .cells none false [iV v, iV hi]), (2, .cells none false [.sb false]), (1, .cells none false (workC y (.mp 0))), (0, .map ME cl)], 4⟩) ?_ ?_
  · exact Weak.by rfl rfl (fun _ h => nomatch h) (Nat.le_refl _) (Nat.le_refl _) ⟨⟨rfl, .inl rfl⟩, ⟨rfl, .inl rfl⟩, ⟨rfl, .inl rfl⟩, trivial⟩ ⟨⟨rfl, by show _ < 4; omega, .inl rfl⟩, ⟨rfl, by show _ < 4; omega, .inl rfl⟩, ⟨rfl, by show _ < 4; omega, .inl rfl⟩, ⟨rfl, by show _ < 4; omega, .inl rfl⟩, trivial⟩
  refine SW.rangeFunc (gf := 97) (first := []) (caps := [.ptr 3 0]) (by rfl) en97 ?_
  refine CallW.mono (show CallW Try.prog 97 [.yld 5, .ptr 3 0] ⟨hhH y ME cl v hi hhR (.sb false), 6⟩ _ from hall (.sb false)) fun r st' hk => ?_
  rcases hk with ⟨rfl, hk⟩ | ⟨i, hi', rfl, hk⟩
  · refine ⟨hhR, rfl, (fun h => by simp [hhR] at h), ?_⟩
    show SW _ _ _ _ _ _
    refine SW.seqRun tok hO (by cbv <;> rfl) (by trivial) ?_
    have : HN = true := hq.trans (decide_eq_true hk)
    exact SW.ret ⟨_, _, rfl, rfl, rfl, rfl, by rw [this]; exact Eqv.refl _⟩
  · refine ⟨hhRx, rfl, (fun h => by simp [hhRx, hhR] at h), ?_⟩
    have : HN = false := hq.trans (allN_false hi' hk)
    exact SW.ret ⟨_, _, rfl, rfl, rfl, rfl, by rw [this]; exact Eqv.refl _⟩
end Go.Fz
set_option linter.unusedVariables false
namespace Go.Fz
open Go.Proofs
set_option maxRecDepth 100000
noncomputable def apParts : Code × Code := match findRF (bodyF Try.f117) with
  | some p => p
  | none => (.skip, .skip)
def apL : List (Nat × AV) := [(3, .ptr 1 0), (4, .ptr 2 0), (6, .ptr 3 0), (16, .fn (.func 97) [] [.ptr 4 0])]
noncomputable def apR : ALoop := { state := .ready, pending := none, tmps := ⟨25, getT apL⟩, params := #[17], assign := apParts.1, body := apParts.2, dfid := 5 }
noncomputable def apRx : ALoop := { apR with state := .done, pending := some .ret }
def apH (y : YardD) (ME : List (AV × AV × Nat)) (cl : Nat) (bd lo hi : Int) (r : ALoop) (X : AV) : Hp :=
  [(6, .loop r), (5, .dfr), (4, .cells none false [iV lo, iV hi]), (3, .cells none false [X]), (2, .cells none false [iV bd]), (1, .cells none false (workC y (.mp 0))), (0, .map ME cl)]
set_option maxHeartbeats 4000000 in
theorem ap_round (y : YardD) (bd : Int) (hb1 : 0 ≤ bd) (hb2 : bd ≤ 100) (w : Int) (h1 : -10 ≤ w) (h2 : w ≤ 1000) (E : Mk4) (hn : (E.map (·.1.1)).Nodup) (cl : Nat) (lo hi : Int) (X : AV) :
    YieldW Try.prog 6 [iV w] ⟨apH y (mkE E) cl bd lo hi apR X, 7⟩ (fun v st' => (v = .lit (.bool true) ∧ empB E (bd - 1) w = false ∧ st' = ⟨apH y (mkE E) cl bd lo hi apR X, 7⟩) ∨ (v = .lit (.bool false) ∧ empB E (bd - 1) w = true ∧ st' = ⟨apH y (mkE E) cl bd lo hi apRx (.sb false), 7⟩)) := by
  obtain ⟨O, hO⟩ : ∃ O : Ar, O = std := ⟨_, rfl⟩
  have hkv : plV (pl (bd - 1) w) = .agg [iV (bd - 1), iV w] := plV_in (by omega) (by omega) h1 h2
  have hsub : O.bin .sub .i64 bd 1 = bd - 1 := by
    subst hO
    show sub64 bd 1 = _
    rw [sub64_in _ _ (by omega) (by omega)]
  rw [← hsub] at hkv
  rw [← hsub]
  obtain ⟨ME, hME⟩ : ∃ m, mkE E = m := ⟨_, rfl⟩
  rw [hME]
  refine YieldW.of_round (r := apR) rfl rfl ?_
  refine SW.run tok hO (by cbv <;> rfl) (by trivial) ?_
  refine ⟨apR, rfl, rfl, SW.block ?_⟩
  obtain ⟨RB, hRB⟩ : ∃ r, r = ({ apR with state := .busy } : ALoop) := ⟨_, rfl⟩
  rw [← hRB]
  refine SW.seq (SW.runN tok hO 6 (by cbv <;> rfl) (by trivial) ?_)
  refine OpsW.gmLook tok keyed147 plKey boolVal (pl (O.bin .sub .i64 bd 1) w) false hn (by cbv <;> rfl) (by rw [hkv]; exact Eqv.refl _) (by kernel_rfl) zero4 (clock := cl) (by rw [← hME]; rfl) ?_
  obtain ⟨b, hb⟩ : ∃ b, empB E (O.bin .sub .i64 bd 1) w = b := ⟨_, rfl⟩
  rw [show gmGet false E (pl (O.bin .sub .i64 bd 1) w) = b from hb, hb]
  refine OpsW.run tok hO (by cbv <;> rfl) (by trivial) ?_
  cases b with
  | true =>
    refine SW.cond (t := true) (by cbv <;> rfl) ?_
    refine SW.seqRun tok hO (by cbv <;> rfl) (by trivial) ?_
    subst hRB
    exact SW.ret ⟨_, rfl, .inr ⟨rfl, rfl, rfl⟩⟩
  | false =>
    refine SW.cond (t := false) (by cbv <;> rfl) (SW.skip ?_)
    subst hRB
    exact ⟨_, rfl, .inl ⟨rfl, rfl, rfl⟩⟩
def apartN (y : YardD) (E : Mk4) (b : Nat) (v : Int) : Bool := allN (y.lng b).toNat fun k => !empB E ((b : Int) - 1) (v + k)
set_option maxHeartbeats 8000000 in
theorem isApart_ok (y : YardD) (hy : y.nb < 100) (b : Nat) (hb : b < y.nb) (hl : 1 ≤ y.lng b ∧ y.lng b ≤ 3) (v : Int) (h1 : 0 ≤ v) (h2 : v ≤ 100) (E : Mk4) (hn : (E.map (·.1.1)).Nodup) (cl : Nat) :
    CallW Try.prog 117 [.agg (workC y (.mp 0)), iV (b : Int), iV v] (mpS (mkE E) cl) (fun r st' => st'.h.get 0 = some (.map (mkE E) cl) ∧ freeB st'.h not0 = true ∧ Eqv (frz st'.h not0 3 r) (.sb (apartN y E b v))) := by
  obtain ⟨O, hO⟩ : ∃ O : Ar, O = std := ⟨_, rfl⟩
  have hnat : ∀ i : Nat, O.nat (Int.ofNat i) = i := fun i => by subst hO; rfl
  have hem := emptyFrom_ok (y.lng b) (y.blo b) (y.bhi b) v
  have api : sub64 (add64 v (y.lng b)) 1 = bedHi y b v := by
    rw [add64_in _ _ (by omega) (by omega), sub64_in _ _ (by omega) (by omega)]; rfl
  rw [api] at hem
  have hcnt : (bedHi y b v - v + 1).toNat = (y.lng b).toNat := by unfold bedHi; omega
  have hbh : v ≤ bedHi y b v + 1 ∧ bedHi y b v ≤ 1000 := by unfold bedHi; omega
  obtain ⟨hi, api⟩ : ∃ x, bedHi y b v = x := ⟨_, rfl⟩
  rw [api] at hem hcnt hbh
  have hround := fun w a c => ap_round y b (by omega) (by omega) w a c E hn cl v hi
  have hq : apartN y E b v = allN (y.lng b).toNat fun k => !empB E ((b : Int) - 1) (v + k) := rfl
  generalize apartN y E b v = HN at hq ⊢
  rw [← hcnt] at hq
  have hall := fun X => all97 (K := fun i st => st = ⟨apH y (mkE E) cl b v hi apR X, 7⟩ ∧ ∀ k : Nat, k < i → empB E ((b : Int) - 1) (v + k) = false) (stop := fun i st => st = ⟨apH y (mkE E) cl b v hi apRx (.sb false), 7⟩ ∧ empB E ((b : Int) - 1) (v + i) = true) (y := 6) (m := 4) (lo := v) (hi := hi) (by omega) hbh.2 hbh.1 (fun i st hk => by rw [hk.1]; exact ⟨none, false, rfl⟩)
    (fun i st hi' hk => by
      rw [hk.1]
      refine (hround (v + i) (by omega) (by omega) X).mono fun r st' hr => ?_
      rcases hr with ⟨rfl, hq1, rfl⟩ | ⟨rfl, hq1, rfl⟩
      · refine .inl ⟨rfl, rfl, fun k hk' => ?_⟩
        rcases Nat.lt_succ_iff_lt_or_eq.1 hk' with hk' | rfl
        · exact hk.2 k hk'
        · exact hq1
      · exact .inr ⟨rfl, rfl, hq1⟩) (st := ⟨apH y (mkE E) cl b v hi apR X, 7⟩) ⟨rfl, fun k hk => absurd hk (Nat.not_lt_zero k)⟩
  clear hround
  obtain ⟨ME, hME⟩ : ∃ m, mkE E = m := ⟨_, rfl⟩
  rw [hME] at hall ⊢
  refine callW_of_body tok Try.func117 rfl ?_
  refine SW.seqRun tok hO (by cbv <;> rfl) (by trivial) ?_
  refine SW.seq ?_
  refine SW.seqRun tok hO (by cbv <;> rfl) ?_ ?_
  · exact ⟨Int.natCast_nonneg b, Int.ofNat_lt.2 hb⟩
  rw [← hnat b] at hem
  refine OpsW.callP hem (by cbv <;> rfl) ?_
  refine OpsW.run tok hO (by cbv <;> rfl) (by trivial) ?_
  refine OpsW.callS en71 (range71 v hi _ _) (by cbv <;> rfl) fun r st' hk => ?_
  obtain ⟨rfl, rfl⟩ := hk
  refine OpsW.run tok hO (by cbv <;> rfl) (by trivial) ?_
  refine SW.block ?_
  refine SW.pre (f2 := ⟨⟨25, getT apL⟩, []⟩) (st2 := ⟨[(4, .cells none false [iV v, iV hi]), (3, .cells none false [.sb false]), (2, .cells none false [iV b]), (1, .cells none false (workC y (.mp 0))), (0, .map ME cl)], 5⟩) ?_ ?_
  · exact Weak.by rfl rfl (fun _ h => nomatch h) (Nat.le_refl _) (Nat.le_refl _) ⟨⟨rfl, .inl rfl⟩, ⟨rfl, .inl rfl⟩, ⟨rfl, .inl rfl⟩, ⟨rfl, .inl rfl⟩, trivial⟩ ⟨⟨rfl, by show _ < 5; omega, .inl rfl⟩, ⟨rfl, by show _ < 5; omega, .inl rfl⟩, ⟨rfl, by show _ < 5; omega, .inl rfl⟩, ⟨rfl, by show _ < 5; omega, .inl rfl⟩, ⟨rfl, by show _ < 5; omega, .inl rfl⟩, trivial⟩
  refine SW.rangeFunc (gf := 97) (first := []) (caps := [.ptr 4 0]) (by rfl) en97 ?_
  refine CallW.mono (show CallW Try.prog 97 [.yld 6, .ptr 4 0] ⟨apH y ME cl b v hi apR (.sb false), 7⟩ _ from hall (.sb false)) fun r st' hk => ?_
  rcases hk with ⟨rfl, hk⟩ | ⟨i, hi', rfl, hk⟩
  · refine ⟨apR, rfl, (fun h => by simp [apR] at h), ?_⟩
    show SW _ _ _ _ _ _
    refine SW.seqRun tok hO (by cbv <;> rfl) (by trivial) ?_
    have : HN = true := hq.trans (allN_true fun k hk' => by rw [hk k hk']; rfl)
    exact SW.ret ⟨_, _, rfl, rfl, rfl, rfl, by rw [this]; exact Eqv.refl _⟩
  · refine ⟨apRx, rfl, (fun h => by simp [apRx, apR] at h), ?_⟩
    have : HN = false := hq.trans (allN_false hi' (by rw [hk]; rfl))
    exact SW.ret ⟨_, _, rfl, rfl, rfl, rfl, by rw [this]; exact Eqv.refl _⟩
def endsN (y : YardD) (b : Nat) (v : Int) : Bool := y.hasWk (bedHi y b v)
set_option maxHeartbeats 4000000 in
theorem endsInTime_ok (y : YardD) (b : Nat) (hb : b < y.nb) (hl : 1 ≤ y.lng b ∧ y.lng b ≤ 3) (v : Int) (h1 : 0 ≤ v) (h2 : v ≤ 100) (ME : List (AV × AV × Nat)) (cl : Nat) :
    CallW Try.prog 115 [.agg (workC y (.mp 0)), iV (b : Int), iV v] (mpS ME cl) (fun r st' => st'.h.get 0 = some (.map ME cl) ∧ freeB st'.h not0 = true ∧ Eqv (frz st'.h not0 3 r) (.sb (endsN y b v))) := by
  obtain ⟨O, hO⟩ : ∃ O : Ar, O = std := ⟨_, rfl⟩
  have hnat : ∀ i : Nat, O.nat (Int.ofNat i) = i := fun i => by subst hO; rfl
  have hem := emptyFrom_ok (y.lng b) (y.blo b) (y.bhi b) v
  have hhi : sub64 (add64 v (y.lng b)) 1 = bedHi y b v := by
    rw [add64_in _ _ (by omega) (by omega), sub64_in _ _ (by omega) (by omega)]; rfl
  rw [hhi] at hem
  have hw := hasWeek_ok y (bedHi y b v)
  obtain ⟨EN, hEN⟩ : ∃ x, endsN y b v = x := ⟨_, rfl⟩
  rw [show y.hasWk (bedHi y b v) = EN from hEN] at hw
  rw [hEN]
  generalize bedHi y b v = hi at hem hw
  rw [← hnat b] at hem
  refine callW_of_body tok Try.func115 rfl ?_
  refine SW.seqRun tok hO (by cbv <;> rfl) (by trivial) ?_
  refine SW.seqRunD tok mixed hO (by rfl) (by cbv <;> rfl) ?_ ?_
  · exact ⟨Int.natCast_nonneg b, Int.ofNat_lt.2 hb⟩
  refine AnyE.callP hem (by cbv <;> rfl) (by cbv <;> rfl) ?_
  refine AnyE.run tok hO (by rfl) (by cbv <;> rfl) (by trivial) ?_
  refine AnyE.callP hw (by cbv <;> rfl) (by cbv <;> rfl) ?_
  refine AnyE.run tok hO (by rfl) (by cbv <;> rfl) (by trivial) ?_
  exact SW.ret ⟨_, _, rfl, rfl, rfl, rfl, Eqv.refl _⟩
end Go.Fz
set_option linter.unusedVariables false
namespace Go.Fz
open Go.Proofs
set_option maxRecDepth 100000
def ruB (B0 B1 B2 : Bool) (i : Nat) : Bool := match i with
  | 0 => B0
  | 1 => B1
  | _ => B2
def ruH (y : YardD) (b : Nat) (v : Int) (ME : List (AV × AV × Nat)) (cl : Nat) : Hp :=
  [(4, .cells none false [.fn (.func 115) [] [], .fn (.func 116) [] [], .fn (.func 117) [] []]), (3, .cells none false [iV v]), (2, .cells none false [iV (b : Int)]), (1, .cells none false (workC y (.mp 0))), (0, .map ME cl)]
theorem rule119 (g : FuncId) (he : Enters Try.prog g) (B : Bool) (y : YardD) (b : Nat) (v i : Int) (ME : List (AV × AV × Nat)) (cl : Nat) (o5 : AObj)
    (hg : ∀ st : St, st.h.get 0 = some (.map ME cl) → CallW Try.prog g [.agg (workC y (.mp 0)), iV (b : Int), iV v] st (fun r st' => r = .sb B ∧ st' = st)) :
    CallW Try.prog 119 [iV i, .agg [.fn (.func g) [] []], .ptr 1 0, .ptr 2 0, .ptr 3 0] ⟨(5, o5) :: ruH y b v ME cl, 6⟩ (fun r st' => r = .sb B ∧ st' = ⟨(6, .cells none false [.fn (.func g) [] []]) :: (5, o5) :: ruH y b v ME cl, 7⟩) := by
  obtain ⟨O, hO⟩ : ∃ O : Ar, O = std := ⟨_, rfl⟩
  obtain ⟨bb, hbb⟩ : ∃ bb : Int, (b : Int) = bb := ⟨_, rfl⟩
  unfold ruH
  rw [hbb] at hg ⊢
  refine callW_of_body tok Try.func119 rfl ?_
  refine SW.seqRun tok hO (by cbv <;> rfl) (by trivial) ?_
  refine SW.seqRun tok hO (by cbv <;> rfl) (by trivial) ?_
  refine OpsW.callS he (hg _ rfl) (by cbv <;> rfl) fun r st' hk => ?_
  obtain ⟨rfl, rfl⟩ := hk
  refine OpsW.run tok hO (by cbv <;> rfl) (by trivial) ?_
  exact SW.ret ⟨_, _, rfl, rfl, rfl, rfl⟩
theorem each118 (B0 B1 B2 : Bool) (y : YardD) (b : Nat) (v : Int) (ME : List (AV × AV × Nat)) (cl : Nat) (hME : ∀ x ∈ ME, Below 0 x.1 ∧ Below 0 x.2.1)
    (h0 : ∀ st : St, st.h.get 0 = some (.map ME cl) → CallW Try.prog 115 [.agg (workC y (.mp 0)), iV (b : Int), iV v] st (fun r st' => r = .sb B0 ∧ st' = st))
    (h1 : ∀ st : St, st.h.get 0 = some (.map ME cl) → CallW Try.prog 116 [.agg (workC y (.mp 0)), iV (b : Int), iV v] st (fun r st' => r = .sb B1 ∧ st' = st))
    (h2 : ∀ st : St, st.h.get 0 = some (.map ME cl) → CallW Try.prog 117 [.agg (workC y (.mp 0)), iV (b : Int), iV v] st (fun r st' => r = .sb B2 ∧ st' = st)) :
    CallW Try.prog 118 [.sl 4 0 3 1 true, .fn (.func 119) [] [.ptr 1 0, .ptr 2 0, .ptr 3 0]] ⟨ruH y b v ME cl, 5⟩ (fun r st' => r = .lit (.bool (B0 && B1 && B2)) ∧ ∃ R n, st' = ⟨R, n⟩ ∧ R.get 0 = some (.map ME cl) ∧ freeB R not0 = true) := by
  replace h0 := fun i o5 => rule119 115 en115 B0 y b v i ME cl o5 h0
  replace h1 := fun i o5 => rule119 116 en116 B1 y b v i ME cl o5 h1
  replace h2 := fun i o5 => rule119 117 en117 B2 y b v i ME cl o5 h2
  unfold ruH at h0 h1 h2 ⊢
  obtain ⟨bb, hbb⟩ : ∃ bb : Int, (b : Int) = bb := ⟨_, rfl⟩
  rw [hbb] at h0 h1 h2 ⊢
  have cap : ∀ {k : Nat}, k < 5 → Below 5 (.ptr k 0) := fun h => Below.ptr h
  have bf : Below 5 (.fn (.func 119) [] [.ptr 1 0, .ptr 2 0, .ptr 3 0]) := Below.fn (AllB.ok trivial) (AllB.ok ⟨cap (by omega), cap (by omega), cap (by omega), trivial⟩)
  have bs : Below 5 (.sl 4 0 3 1 true) := Below.sl (by omega)
  have bg : ∀ g, Below 5 (.fn (.func g) [] []) := fun g => Below.fn (AllB.ok trivial) (AllB.ok trivial)
  have b4 : ObjBelowM 5 (.cells none false [.fn (.func 115) [] [], .fn (.func 116) [] [], .fn (.func 117) [] []]) := ⟨AllB.ok ⟨bg _, bg _, bg _, trivial⟩, fun _ h => by cases h⟩
  have b3 : ObjBelowM 5 (.cells none false [iV v]) := ⟨AllB.ok ⟨Below.lit, trivial⟩, fun _ h => by cases h⟩
  have b2 : ObjBelowM 5 (.cells none false [iV bb]) := ⟨AllB.ok ⟨Below.lit, trivial⟩, fun _ h => by cases h⟩
  have b1 : ObjBelowM 5 (.cells none false (workC y (.mp 0))) := ⟨AllB.ok ⟨Below.lit, Below.lit, Below.up (m := 0) (bedsV_below y), Below.up (m := 0) (clmsV_below y), Below.mp (by omega), trivial⟩, fun _ h => by cases h⟩
  have b0 : ObjBelowM 5 (.map ME cl) := fun x hx => ⟨Below.up (m := 0) (hME x hx).1, Below.up (m := 0) (hME x hx).2⟩
  refine callW_of_body tok Try.func118 rfl ?_
  refine SW.seqRun tok rfl (by cbv <;> rfl) (by trivial) ?_
  refine SW.seq ?_
  refine SW.seqRun tok rfl (by cbv <;> rfl) (by trivial) ?_
  refine (SW.block (SW.loopM (fun i : Nat => ⟨⟨20, getT [(1, .fn (.func 119) [] [.ptr 1 0, .ptr 2 0, .ptr 3 0]), (7, .sl 4 0 3 1 true), (8, iV 3), (9, iV i)]⟩, []⟩) (fun _ => ⟨[(4, .cells none false [.fn (.func 115) [] [], .fn (.func 116) [] [], .fn (.func 117) [] []]), (3, .cells none false [iV v]), (2, .cells none false [iV bb]), (1, .cells none false (workC y (.mp 0))), (0, .map ME cl)], 5⟩) (fun i => 3 - i) (fun i => i ≤ 3 ∧ ∀ j, j < i → ruB B0 B1 B2 j = true) 0
    (fun _ => rfl) ⟨by omega, fun j hj => absurd hj (Nat.not_lt_zero j)⟩ (Weak.by rfl rfl (by simp) (Nat.le_refl _) (Nat.le_refl _) ⟨⟨rfl, .inl rfl⟩, ⟨rfl, .inl rfl⟩, ⟨rfl, .inl rfl⟩, ⟨rfl, .inl rfl⟩, trivial⟩ ⟨⟨rfl, by show _ < 5; omega, .inl rfl⟩, ⟨rfl, by show _ < 5; omega, .inl rfl⟩, ⟨rfl, by show _ < 5; omega, .inl rfl⟩, ⟨rfl, by show _ < 5; omega, .inl rfl⟩, ⟨rfl, by show _ < 5; omega, .inl rfl⟩, trivial⟩) fun i ⟨hi, hall⟩ => ?_))
  · match i with
    | 0 =>
      refine SW.seqRun tok rfl (by cbv <;> rfl) (by trivial) ?_
      refine SW.seq (SW.condS (by cbv <;> rfl) (fun _ => SW.skip ?_) (fun h => by cases h))
      refine SW.seq (SW.block ?_)
      refine SW.seq (SW.runN tok rfl 1 (by cbv <;> rfl) (by trivial) ?_)
      refine OpsW.idxSl tok (n := 0) (by cbv <;> rfl) (by kernel_rfl) (by decide) fun q hq => ?_
      obtain rfl : q = 0 := hq
      refine OpsW.run tok rfl (by cbv <;> rfl) (by trivial) ?_
      refine SW.seqRun tok rfl (by cbv <;> rfl) (by trivial) ?_
      refine OpsW.callS en119 (h0 0 _) (by cbv <;> rfl) fun r st' hk => ?_
      obtain ⟨rfl, rfl⟩ := hk
      refine OpsW.run tok rfl (by cbv <;> rfl) (by trivial) ?_
      cases B0 with
      | false =>
        refine SW.condS (by cbv <;> rfl) (fun _ => ?_) (fun h => by cases h)
        refine SW.seqRun tok rfl (by cbv <;> rfl) (by trivial) ?_
        exact SW.ret ⟨_, _, rfl, rfl, (by show AV.lit (.bool false) = _; simp), _, _, rfl, rfl, rfl⟩
      | true =>
        refine SW.condS (by cbv <;> rfl) (fun h => by cases h) (fun _ => SW.skip ?_)
        refine SW.run tok rfl (by cbv <;> rfl) (by trivial) ?_
        refine ⟨1, by omega, ⟨by omega, fun j hj => ?_⟩, WeakM.by rfl rfl (by simp) (Nat.le_refl _) (by show 5 ≤ 7; omega) ⟨⟨rfl, .inr bf⟩, ⟨rfl, .inr bs⟩, ⟨rfl, .inr Below.lit⟩, ⟨rfl, .inr Below.lit⟩, trivial⟩ ⟨⟨rfl, by show _ < 5; omega, .inr (b4)⟩, ⟨rfl, by show _ < 5; omega, .inr (b3)⟩, ⟨rfl, by show _ < 5; omega, .inr (b2)⟩, ⟨rfl, by show _ < 5; omega, .inr (b1)⟩, ⟨rfl, by show _ < 5; omega, .inr (b0)⟩, trivial⟩⟩
        rcases Nat.lt_succ_iff_lt_or_eq.1 hj with hj | rfl
        · exact hall j hj
        · rfl
    | 1 =>
      refine SW.seqRun tok rfl (by cbv <;> rfl) (by trivial) ?_
      refine SW.seq (SW.condS (by cbv <;> rfl) (fun _ => SW.skip ?_) (fun h => by cases h))
      refine SW.seq (SW.block ?_)
      refine SW.seq (SW.runN tok rfl 1 (by cbv <;> rfl) (by trivial) ?_)
      refine OpsW.idxSl tok (n := 1) (by cbv <;> rfl) (by kernel_rfl) (by decide) fun q hq => ?_
      obtain rfl : q = 1 := hq
      refine OpsW.run tok rfl (by cbv <;> rfl) (by trivial) ?_
      refine SW.seqRun tok rfl (by cbv <;> rfl) (by trivial) ?_
      refine OpsW.callS en119 (h1 1 _) (by cbv <;> rfl) fun r st' hk => ?_
      obtain ⟨rfl, rfl⟩ := hk
      refine OpsW.run tok rfl (by cbv <;> rfl) (by trivial) ?_
      cases B1 with
      | false =>
        refine SW.condS (by cbv <;> rfl) (fun _ => ?_) (fun h => by cases h)
        refine SW.seqRun tok rfl (by cbv <;> rfl) (by trivial) ?_
        exact SW.ret ⟨_, _, rfl, rfl, (by show AV.lit (.bool false) = _; simp), _, _, rfl, rfl, rfl⟩
      | true =>
        refine SW.condS (by cbv <;> rfl) (fun h => by cases h) (fun _ => SW.skip ?_)
        refine SW.run tok rfl (by cbv <;> rfl) (by trivial) ?_
        refine ⟨2, by omega, ⟨by omega, fun j hj => ?_⟩, WeakM.by rfl rfl (by simp) (Nat.le_refl _) (by show 5 ≤ 7; omega) ⟨⟨rfl, .inr bf⟩, ⟨rfl, .inr bs⟩, ⟨rfl, .inr Below.lit⟩, ⟨rfl, .inr Below.lit⟩, trivial⟩ ⟨⟨rfl, by show _ < 5; omega, .inr (b4)⟩, ⟨rfl, by show _ < 5; omega, .inr (b3)⟩, ⟨rfl, by show _ < 5; omega, .inr (b2)⟩, ⟨rfl, by show _ < 5; omega, .inr (b1)⟩, ⟨rfl, by show _ < 5; omega, .inr (b0)⟩, trivial⟩⟩
        rcases Nat.lt_succ_iff_lt_or_eq.1 hj with hj | rfl
        · exact hall j hj
        · rfl
    | 2 =>
      refine SW.seqRun tok rfl (by cbv <;> rfl) (by trivial) ?_
      refine SW.seq (SW.condS (by cbv <;> rfl) (fun _ => SW.skip ?_) (fun h => by cases h))
      refine SW.seq (SW.block ?_)
      refine SW.seq (SW.runN tok rfl 1 (by cbv <;> rfl) (by trivial) ?_)
      refine OpsW.idxSl tok (n := 2) (by cbv <;> rfl) (by kernel_rfl) (by decide) fun q hq => ?_
      obtain rfl : q = 2 := hq
      refine OpsW.run tok rfl (by cbv <;> rfl) (by trivial) ?_
      refine SW.seqRun tok rfl (by cbv <;> rfl) (by trivial) ?_
      refine OpsW.callS en119 (h2 2 _) (by cbv <;> rfl) fun r st' hk => ?_
      obtain ⟨rfl, rfl⟩ := hk
      refine OpsW.run tok rfl (by cbv <;> rfl) (by trivial) ?_
      cases B2 with
      | false =>
        refine SW.condS (by cbv <;> rfl) (fun _ => ?_) (fun h => by cases h)
        refine SW.seqRun tok rfl (by cbv <;> rfl) (by trivial) ?_
        exact SW.ret ⟨_, _, rfl, rfl, (by show AV.lit (.bool false) = _; simp), _, _, rfl, rfl, rfl⟩
      | true =>
        refine SW.condS (by cbv <;> rfl) (fun h => by cases h) (fun _ => SW.skip ?_)
        refine SW.run tok rfl (by cbv <;> rfl) (by trivial) ?_
        refine ⟨3, by omega, ⟨by omega, fun j hj => ?_⟩, WeakM.by rfl rfl (by simp) (Nat.le_refl _) (by show 5 ≤ 7; omega) ⟨⟨rfl, .inr bf⟩, ⟨rfl, .inr bs⟩, ⟨rfl, .inr Below.lit⟩, ⟨rfl, .inr Below.lit⟩, trivial⟩ ⟨⟨rfl, by show _ < 5; omega, .inr (b4)⟩, ⟨rfl, by show _ < 5; omega, .inr (b3)⟩, ⟨rfl, by show _ < 5; omega, .inr (b2)⟩, ⟨rfl, by show _ < 5; omega, .inr (b1)⟩, ⟨rfl, by show _ < 5; omega, .inr (b0)⟩, trivial⟩⟩
        rcases Nat.lt_succ_iff_lt_or_eq.1 hj with hj | rfl
        · exact hall j hj
        · rfl
    | 3 =>
      refine SW.seqRun tok rfl (by cbv <;> rfl) (by trivial) ?_
      refine SW.seq (SW.condS (by cbv <;> rfl) (fun h => by cases h) (fun _ => SW.exit ?_))
      refine SW.seqRun tok rfl (by cbv <;> rfl) (by trivial) ?_
      have e0 : B0 = true := hall 0 (by omega)
      have e1 : B1 = true := hall 1 (by omega)
      have e2 : B2 = true := hall 2 (by omega)
      exact SW.ret ⟨_, _, rfl, rfl, by rw [e0, e1, e2]; rfl, _, _, rfl, rfl, rfl⟩
    | i + 4 => omega
end Go.Fz
set_option linter.unusedVariables false
namespace Go.Fz
open Go.Proofs
set_option maxRecDepth 100000
def allowsN (y : YardD) (E : Mk4) (b : Nat) (v : Int) : Bool := endsN y b v && handsN y E b v && apartN y E b v
theorem allows_ok (y : YardD) (hy : y.nb < 100) (b : Nat) (hb : b < y.nb) (hl : 1 ≤ y.lng b ∧ y.lng b ≤ 3) (v : Int) (h1 : 0 ≤ v) (h2 : v ≤ 100) (E : Mk4) (hn : (E.map (·.1.1)).Nodup) (cl : Nat) :
    CallW Try.prog 111 [.agg (workC y (.mp 0)), iV (b : Int), iV v] (mpS (mkE E) cl) (fun r st' => st'.h.get 0 = some (.map (mkE E) cl) ∧ freeB st'.h not0 = true ∧ Eqv (frz st'.h not0 3 r) (.sb (allowsN y E b v))) := by
  obtain ⟨O, hO⟩ : ∃ O : Ar, O = std := ⟨_, rfl⟩
  have harg : ∀ {st : St} (hm : st.h.get 0 = some (.map (mkE E) cl)) (φ : Fi) (us : List Value), VRL φ [.agg (workC y (.mp 0)), iV (b : Int), iV v] us → VRL ⟨fun _ => φ.f 0, 1, φ.z⟩ [.agg (workC y (.mp 0)), iV (b : Int), iV v] us := fun hm φ us h => work_arg (l := [(b : Int), v]) h
  have k0 := fun (st : St) (hm : st.h.get 0 = some (.map (mkE E) cl)) => call_mp (m := 3) hm (mkE_below E) Below.sb (harg hm) (endsInTime_ok y b hb hl v h1 h2 (mkE E) cl)
  have k1 := fun (st : St) (hm : st.h.get 0 = some (.map (mkE E) cl)) => call_mp (m := 3) hm (mkE_below E) Below.sb (harg hm) (hasHands_ok y hy b hb hl v h1 h2 E hn cl)
  have k2 := fun (st : St) (hm : st.h.get 0 = some (.map (mkE E) cl)) => call_mp (m := 3) hm (mkE_below E) Below.sb (harg hm) (isApart_ok y hy b hb hl v h1 h2 E hn cl)
  have he := each118 _ _ _ y b v (mkE E) cl (mkE_below E) k0 k1 k2
  clear k0 k1 k2 harg
  obtain ⟨B, hB⟩ : ∃ B, allowsN y E b v = B := ⟨_, rfl⟩
  rw [show (endsN y b v && handsN y E b v && apartN y E b v) = B from hB] at he
  rw [hB]
  obtain ⟨ME, hME⟩ : ∃ m, mkE E = m := ⟨_, rfl⟩
  unfold ruH at he
  rw [hME] at he ⊢
  obtain ⟨bb, hbb⟩ : ∃ bb : Int, (b : Int) = bb := ⟨_, rfl⟩
  rw [hbb] at he ⊢
  refine callW_of_body tok Try.func111 rfl ?_
  refine SW.seqRun tok hO (by cbv <;> rfl) (by trivial) ?_
  refine SW.seqRun tok hO (by cbv <;> rfl) (by trivial) ?_
  refine SW.seqRun tok hO (by cbv <;> rfl) (by trivial) ?_
  refine OpsW.callS en118 he (by cbv <;> rfl) fun r st' hk => ?_
  obtain ⟨rfl, R, n, rfl, hR, hf⟩ := hk
  refine OpsW.run tok hO (by cbv <;> rfl) (by trivial) ?_
  exact SW.ret ⟨_, _, rfl, rfl, hR, hf, Eqv.bool rfl⟩
theorem allows_at (y : YardD) (hy : y.nb < 100) (b : Nat) (hb : b < y.nb) (hl : 1 ≤ y.lng b ∧ y.lng b ≤ 3) (v : Int) (h1 : 0 ≤ v) (h2 : v ≤ 100) (E : Mk4) (hn : (E.map (·.1.1)).Nodup) (cl : Nat) {st : St} {mid : Nat} (hm : st.h.get mid = some (.map (mkE E) cl)) :
    CallW Try.prog 111 [.agg (workC y (.mp mid)), iV (b : Int), iV v] st (fun r st' => r = .sb (allowsN y E b v) ∧ st' = st) :=
  call_mp (m := 3) hm (mkE_below E) Below.sb (fun φ us h => work_arg (l := [(b : Int), v]) h) (allows_ok y hy b hb hl v h1 h2 E hn cl)
end Go.Fz
