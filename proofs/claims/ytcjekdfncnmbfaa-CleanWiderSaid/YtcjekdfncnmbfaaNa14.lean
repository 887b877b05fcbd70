/- Own work of the verifier of watercress: FzCl2. -/
import Derived.Test.YtcjekdfncnmbfaaNa10
set_option linter.unusedVariables false
set_option linter.unusedSimpArgs false
namespace Go.Fz
open Go.Proofs
set_option maxRecDepth 100000
set_option linter.unusedVariables false
theorem sizes_ok (y : YardD) (hn : y.nb < 1000000) : Pure Try.prog 66 [yardV y] (iV (prN y.blo y.bhi y.nb)) := by
  obtain ⟨O, hO⟩ : ∃ O : Ar, O = std := ⟨_, rfl⟩
  have hnat : ∀ i : Nat, O.nat (Int.ofNat i) = i := fun i => by subst hO; rfl
  refine pure_of_body tok 3 Try.func66 en66 rfl ⟨yardV_below y, trivial⟩ Below.lit ?_
  refine SW.seqRun tok hO (by cbv <;> rfl) (by trivial) ?_
  refine SW.seqRun tok hO (by cbv <;> rfl) (by trivial) ?_
  refine SW.seq ?_
  refine SW.seqRun tok hO (by cbv <;> rfl) (by trivial) ?_
  refine (SW.block (SW.loopF (fun i : Nat => ⟨⟨20, getT [(3, iV (prN y.blo y.bhi i)), (7, bedsV y), (8, iV y.nb), (9, iV i)]⟩, []⟩) (fun _ => ⟨[], 1⟩) (fun i => y.nb - i) (fun i => i ≤ y.nb) 0
    (fun _ => rfl) (Nat.zero_le _) (Weak.by rfl rfl (by simp) (Nat.le_refl _) (Nat.le_refl _) ⟨⟨rfl, .inl rfl⟩, ⟨rfl, .inl rfl⟩, ⟨rfl, .inl rfl⟩, ⟨rfl, .inl rfl⟩, trivial⟩ trivial) fun i hi => ?_))
  generalize hacc : prN y.blo y.bhi i = acc
  refine SW.seqRun tok hO (by cbv <;> rfl) (by trivial) ?_
  refine SW.seq (SW.condS (by cbv <;> rfl) (fun h => SW.skip ?_) (fun h => SW.exit ?_))
  · have hlt : i < y.nb := by subst hO; simpa [std] using h
    refine SW.seq (SW.block ?_)
    refine SW.seqRun tok hO (by cbv <;> rfl) ?_ ?_
    · exact ⟨Int.natCast_nonneg i, Int.ofNat_lt.2 hlt⟩
    refine SW.run tok hO (by cbv <;> rfl) (by trivial) ?_
    refine OpsW.callI (size_ok (y.blo (O.nat (Int.ofNat i))) (y.bhi (O.nat (Int.ofNat i)))) (by cbv <;> rfl) fun v hv => ?_
    refine OpsW.run tok hO (by cbv <;> rfl) (by trivial) ?_
    refine SW.run tok hO (by cbv <;> rfl) (by trivial) ?_
    have hnew : O.bin .mul .i64 acc v = prN y.blo y.bhi (i + 1) := by
      subst hO; subst hv; subst hacc; rfl
    refine ⟨i + 1, by omega, by omega, Weak.by rfl rfl (by simp) (Nat.le_refl _) (by show 1 ≤ 2; omega) ⟨⟨by show AV.lit (.int .i64 (O.bin .mul .i64 acc v)) = _; rw [hnew]; rfl, .inr Below.lit⟩, ⟨rfl, .inr (Below.up (m := 0) (bedsV_below y))⟩, ⟨rfl, .inr Below.lit⟩, ⟨inc_ok hO (by omega), .inr Below.lit⟩, trivial⟩ trivial⟩
  · have hge : y.nb ≤ i := by subst hO; simpa [std] using h
    have hin : i = y.nb := by omega
    subst hin
    refine SW.seqRun tok hO (by cbv <;> rfl) (by trivial) ?_
    exact SW.ret ⟨_, _, rfl, rfl, Eqv.int hacc.symm⟩
def YardD.check (y : YardD) : Int := if y.long then 3 else if y.validB then (if 2000 < prN y.blo y.bhi y.nb then 3 else 0) else 1
theorem checkYard_ok (y : YardD) (hb : y.nb < 1000000) (hc : y.nc < 1000000) : Pure Try.prog 23 [yardV y] (iV y.check) := by
  have e1 := tooLong_ok y
  have e2 := valid_ok y hb hc
  have e3 := sizes_ok y hb
  have hc : y.check = if y.long then 3 else if y.validB then (if 2000 < prN y.blo y.bhi y.nb then 3 else 0) else 1 := rfl
  generalize prN y.blo y.bhi y.nb = N at hc e3
  generalize y.long = L at e1 hc
  generalize y.validB = W at e2 hc
  obtain ⟨O, hO⟩ : ∃ O : Ar, O = std := ⟨_, rfl⟩
  refine pure_of_body tok 3 Try.func23 en23 rfl ⟨yardV_below y, trivial⟩ Below.lit ?_
  refine SW.seqRun tok hO (by cbv <;> rfl) (by trivial) ?_
  refine SW.seq (SW.block ?_)
  refine SW.seqRun tok hO (by cbv <;> rfl) (by trivial) ?_
  refine OpsW.callP e1 (by cbv <;> rfl) ?_
  refine OpsW.run tok hO (by cbv <;> rfl) (by trivial) ?_
  refine SW.condS (by cbv <;> rfl) (fun h1 => ?_) (fun h1 => ?_)
  · refine SW.seqRun tok hO (by cbv <;> rfl) (by trivial) ?_
    refine SW.ret ⟨_, _, rfl, rfl, Eqv.int ?_⟩
    rw [hc, h1]; rfl
  refine SW.seqRun tok hO (by cbv <;> rfl) (by trivial) ?_
  refine OpsW.callP e2 (by cbv <;> rfl) ?_
  have hnot : O.not W = !W := by subst hO; rfl
  refine OpsW.run tok hO (by cbv <;> rfl) (by trivial) ?_
  refine SW.condS (by cbv <;> rfl) (fun h2 => ?_) (fun h2 => ?_)
  · have hw : W = false := by have := hnot.symm.trans h2; simpa using this
    refine SW.seqRun tok hO (by cbv <;> rfl) (by trivial) ?_
    refine SW.ret ⟨_, _, rfl, rfl, Eqv.int ?_⟩
    rw [hc, h1, hw]; rfl
  have hw : W = true := by have := hnot.symm.trans h2; simpa using this
  refine SW.seqRun tok hO (by cbv <;> rfl) (by trivial) ?_
  refine OpsW.callP e3 (by cbv <;> rfl) ?_
  refine OpsW.run tok hO (by cbv <;> rfl) (by trivial) ?_
  refine SW.condS (by cbv <;> rfl) (fun h3 => ?_) (fun h3 => SW.skip ?_)
  · refine SW.seqRun tok hO (by cbv <;> rfl) (by trivial) ?_
    refine SW.ret ⟨_, _, rfl, rfl, Eqv.int ?_⟩
    have : 2000 < N := by subst hO; simpa [std] using h3
    rw [hc, h1, hw, if_neg (by simp), if_pos rfl, if_pos this]
  · refine SW.seqRun tok hO (by cbv <;> rfl) (by trivial) ?_
    refine SW.ret ⟨_, _, rfl, rfl, Eqv.int ?_⟩
    have : ¬ 2000 < N := by subst hO; simpa [std] using h3
    rw [hc, h1, hw, if_neg (by simp), if_pos rfl, if_neg this]
theorem isWeeks_ok (y : YardD) (lo hi : Int) : Pure Try.prog 87 [yardV y, rangeV lo hi] (.sb (withinB lo hi 0 y.last)) := by
  obtain ⟨O, hO⟩ : ∃ O : Ar, O = std := ⟨_, rfl⟩
  refine pure_of_body tok 3 Try.func87 en87 rfl ⟨yardV_below y, rangeV_below, trivial⟩ Below.sb ?_
  refine SW.seqRun tok hO (by cbv <;> rfl) (by trivial) ?_
  refine SW.seqRun tok hO (by cbv <;> rfl) (by trivial) ?_
  repeat' (refine OpsW.splitG (by cbv <;> rfl) (fun h => ?_) (fun h => ?_) <;> refine OpsW.run tok hO (by cbv <;> rfl) (by trivial) ?_)
  all_goals first
    | refine SW.ret ⟨_, _, rfl, rfl, Eqv.bool (Bool.eq_iff_iff.2 ?_)⟩
    | refine SW.ret ⟨_, _, rfl, rfl, Eqv.sb (Bool.eq_iff_iff.2 ?_)⟩
  all_goals subst hO; cases y; simp_all [std, withinB]
  all_goals (intros; omega)
theorem conv_nn {O : Ar} (hO : O = std) {i : Nat} (h : i < 1000000) : 0 ≤ O.conv .u64 (Int.ofNat i) := by
  subst hO
  show 0 ≤ wrp .u64 (Int.ofNat i)
  rw [wrp_in (by simp only [IntKind.lo]; exact Int.natCast_nonneg i) (by simp only [IntKind.hi]; have : (i : Int) ≤ 1000000 := by omega
                                                                         show (i : Int) ≤ _; omega)]
  exact Int.natCast_nonneg i
def allI (n : Nat) : Int := std.bin .sub .i64 (std.bin .shl .i64 1 (std.conv .u64 (Int.ofNat n))) 1
theorem all_ok (y : YardD) (hn : y.nb < 1000000) : Pure Try.prog 47 [yardV y] (iV (allI y.nb)) := by
  obtain ⟨O, hO⟩ : ∃ O : Ar, O = std := ⟨_, rfl⟩
  refine pure_of_body tok 3 Try.func47 en47 rfl ⟨yardV_below y, trivial⟩ Below.lit ?_
  refine SW.seqRun tok hO (by cbv <;> rfl) (by trivial) ?_
  refine SW.seqRun tok hO (by cbv <;> rfl) (by exact conv_nn hO hn) ?_
  refine SW.ret ⟨_, _, rfl, rfl, Eqv.int ?_⟩
  subst hO; rfl
def mnB (lo hi : Nat → Int) (b : Int) : Nat → Int
  | 0 => 1
  | i + 1 => if bitB b i then std.mn 4000 (mul64 (mnB lo hi b i) (size64 (lo i) (hi i))) else mnB lo hi b i
theorem many_ok (y : YardD) (b : Int) (hn : y.nb < 1000000) : Pure Try.prog 48 [yardV y, iV b] (iV (mnB y.blo y.bhi b y.nb)) := by
  obtain ⟨O, hO⟩ : ∃ O : Ar, O = std := ⟨_, rfl⟩
  have hnat : ∀ i : Nat, O.nat (Int.ofNat i) = i := fun i => by subst hO; rfl
  refine pure_of_body tok 3 Try.func48 en48 rfl ⟨yardV_below y, iV_below, trivial⟩ Below.lit ?_
  refine SW.seqRun tok hO (by cbv <;> rfl) (by trivial) ?_
  refine SW.seqRun tok hO (by cbv <;> rfl) (by trivial) ?_
  refine SW.seq ?_
  refine SW.seqRun tok hO (by cbv <;> rfl) (by trivial) ?_
  refine (SW.block (SW.loopF (fun i : Nat => ⟨⟨40, getT [(1, iV b), (2, .ptr 0 0), (5, iV (mnB y.blo y.bhi b i)), (6, iV i)]⟩, []⟩) (fun _ => ⟨[(0, .cells none false (yardC y))], 1⟩) (fun i => y.nb - i) (fun i => i ≤ y.nb) 0
    (fun _ => rfl) (Nat.zero_le _) (Weak.by rfl rfl (by simp) (Nat.le_refl _) (Nat.le_refl _) ⟨⟨rfl, .inl rfl⟩, ⟨rfl, .inl rfl⟩, ⟨rfl, .inl rfl⟩, ⟨rfl, .inl rfl⟩, trivial⟩ ⟨⟨rfl, by omega, .inl rfl⟩, trivial⟩) fun i hi => ?_))
  generalize hacc : mnB y.blo y.bhi b i = acc
  refine SW.seq ?_
  refine SW.seqRun tok hO (by cbv <;> rfl) (by trivial) ?_
  refine SW.condS (by cbv <;> rfl) (fun h => SW.skip ?_) (fun h => SW.exit ?_)
  · have hlt : i < y.nb := by subst hO; simpa [std] using h
    refine SW.seq (SW.block ?_)
    refine SW.seqRun tok hO (by cbv <;> rfl) ?_ ?_
    · first | exact ⟨conv_nn hO (by omega), (by decide : (2 : Int) ≠ 0)⟩ | exact ⟨(by decide : (2 : Int) ≠ 0), conv_nn hO (by omega)⟩
    have hsu : mnB y.blo y.bhi b (i + 1) = if bitB b i then std.mn 4000 (mul64 acc (size64 (y.blo i) (y.bhi i))) else acc := by rw [← hacc]; rfl
    have hi0 : (0 : Int) ≤ Int.ofNat i := Int.natCast_nonneg i
    refine SW.condS (by cbv <;> rfl) (fun h1 => ?_) (fun h1 => SW.skip ?_)
    · have hb : bitB b i = true := by subst hO; exact h1
      rw [if_pos hb] at hsu
      refine SW.runD tok mixed hO (by rfl) (by cbv <;> rfl) ?_ ?_
      · first | exact ⟨⟨hi0, Int.ofNat_lt.2 hlt⟩, ⟨hi0, Int.ofNat_lt.2 hlt⟩⟩ | exact ⟨hi0, Int.ofNat_lt.2 hlt, hi0, Int.ofNat_lt.2 hlt⟩
      refine AnyE.eff tok hO (by cbv <;> rfl) (by cbv <;> rfl) (by trivial) ?_
      refine AnyE.done (by rfl) ?_
      refine SW.run tok hO (by cbv <;> rfl) (by trivial) ?_
      refine ⟨i + 1, by omega, by omega, Weak.by rfl rfl (by simp) (Nat.le_refl _) (Nat.le_refl _) ⟨⟨rfl, .inl rfl⟩, ⟨rfl, .inl rfl⟩, ⟨?_, .inl rfl⟩, ⟨inc_ok hO (by omega), .inl rfl⟩, trivial⟩ ⟨⟨rfl, by omega, .inl rfl⟩, trivial⟩⟩
      rw [hsu]
      subst hO; rfl
    · have hb : bitB b i = false := by subst hO; exact h1
      rw [hb, if_neg (by simp)] at hsu
      refine SW.run tok hO (by cbv <;> rfl) (by trivial) ?_
      refine ⟨i + 1, by omega, by omega, Weak.by rfl rfl (by simp) (Nat.le_refl _) (Nat.le_refl _) ⟨⟨rfl, .inl rfl⟩, ⟨rfl, .inl rfl⟩, ⟨by rw [hsu]; rfl, .inl rfl⟩, ⟨inc_ok hO (by omega), .inl rfl⟩, trivial⟩ ⟨⟨rfl, by omega, .inl rfl⟩, trivial⟩⟩
  · have hge : y.nb ≤ i := by subst hO; simpa [std] using h
    have hin : i = y.nb := by omega
    subst hin
    refine SW.seqRun tok hO (by cbv <;> rfl) (by trivial) ?_
    exact SW.ret ⟨_, _, rfl, rfl, Eqv.int hacc.symm⟩
def YardD.clmN (y : YardD) (i : Nat) : Bool := inB (y.cb i) 0 ((y.nb : Int) - 1) && withinB (y.clo i) (y.chi i) 0 y.last
def YardD.validN (y : YardD) : Bool := decide (0 ≤ y.last) && decide (1 ≤ y.hands) && allN y.nb y.bedOk && allN y.nc y.clmN
def YardD.faultN (y : YardD) : Int := if y.long then 3 else if y.validN then (if 2000 < mnB y.blo y.bhi (allI y.nb) y.nb then 3 else 0) else 1
set_option maxHeartbeats 8000000 in
theorem fault_ok (y : YardD) (hsb : y.nb < 1000000) (hsc : y.nc < 1000000) : Pure Try.prog 56 [yardV y] (iV y.faultN) := by
  obtain ⟨O, hO⟩ : ∃ O : Ar, O = std := ⟨_, rfl⟩
  have hnot : ∀ b, O.not b = !b := fun b => by subst hO; rfl
  have hnat : ∀ i : Nat, O.nat (Int.ofNat i) = i := fun i => by subst hO; rfl
  have long : y.long = true → ∀ (v : AV) (h : Hp), v = iV 3 → Eqv (frz h (fun _ => true) 3 v) (iV y.faultN) := fun hl v h hv => by
    subst hv; unfold YardD.faultN; rw [if_pos hl]; exact Eqv.refl _
  have bad : y.long = false → y.validN = false → ∀ (v : AV) (h : Hp), v = iV 1 → Eqv (frz h (fun _ => true) 3 v) (iV y.faultN) := fun hl hv v h he => by
    subst he; unfold YardD.faultN; rw [if_neg (by rw [hl]; simp), if_neg (by rw [hv]; simp)]; exact Eqv.refl _
  have ea := all_ok y hsb
  have em := many_ok y (allI y.nb) hsb
  have hf : y.faultN = if y.long then 3 else if y.validN then (if 2000 < mnB y.blo y.bhi (allI y.nb) y.nb then 3 else 0) else 1 := rfl
  generalize mnB y.blo y.bhi (allI y.nb) y.nb = N at em hf
  generalize allI y.nb = A at ea em
  have hlong : (9 < y.last ∨ 3 < y.hands ∨ 6 < y.nb ∨ 5 < y.nc) → y.long = true := fun h => by
    simp only [YardD.long, Bool.or_eq_true, decide_eq_true_eq]; omega
  have hva : y.validN = (decide (0 ≤ y.last) && decide (1 ≤ y.hands) && allN y.nb y.bedOk && allN y.nc y.clmN) := rfl
  refine pure_of_body tok 3 Try.func56 en56 rfl ⟨yardV_below y, trivial⟩ Below.lit ?_
  refine SW.seqRun tok hO (by cbv <;> rfl) (by trivial) ?_
  refine SW.seq ?_
  refine SW.seqRun tok hO (by cbv <;> rfl) (by trivial) ?_
  refine OpsW.splitG (by cbv <;> rfl) (fun h1 => ?_) (fun h1 => ?_) <;> refine OpsW.run tok hO (by cbv <;> rfl) (by trivial) ?_
  · refine SW.cond (t := true) (by cbv <;> rfl) ?_
    refine SW.seqRun tok hO (by cbv <;> rfl) (by trivial) ?_
    refine SW.ret ⟨_, _, rfl, rfl, long (hlong (.inl ?_)) _ _ rfl⟩
    subst hO; simpa [std] using h1
  have k1 : y.last ≤ 9 := by subst hO; simpa [std] using h1
  refine OpsW.splitG (by cbv <;> rfl) (fun h2 => ?_) (fun h2 => ?_) <;> refine OpsW.run tok hO (by cbv <;> rfl) (by trivial) ?_
  · refine SW.cond (t := true) (by cbv <;> rfl) ?_
    refine SW.seqRun tok hO (by cbv <;> rfl) (by trivial) ?_
    refine SW.ret ⟨_, _, rfl, rfl, long (hlong (.inr (.inl ?_))) _ _ rfl⟩
    subst hO; simpa [std] using h2
  have k2 : y.hands ≤ 3 := by subst hO; simpa [std] using h2
  refine OpsW.splitG (by cbv <;> rfl) (fun h3 => ?_) (fun h3 => ?_) <;> refine OpsW.run tok hO (by cbv <;> rfl) (by trivial) ?_
  · refine SW.cond (t := true) (by cbv <;> rfl) ?_
    refine SW.seqRun tok hO (by cbv <;> rfl) (by trivial) ?_
    refine SW.ret ⟨_, _, rfl, rfl, long (hlong (.inr (.inr (.inl ?_)))) _ _ rfl⟩
    have : (6 : Int) < y.nb := by subst hO; simpa [std] using h3
    omega
  have k3' : (y.nb : Int) ≤ 6 := by subst hO; simpa [std] using h3
  have k3 : y.nb ≤ 6 := by omega
  refine SW.condS (by cbv <;> rfl) (fun h4 => ?_) (fun h4 => SW.skip ?_)
  · refine SW.seqRun tok hO (by cbv <;> rfl) (by trivial) ?_
    refine SW.ret ⟨_, _, rfl, rfl, long (hlong (.inr (.inr (.inr ?_)))) _ _ rfl⟩
    have : (5 : Int) < y.nc := by subst hO; simpa [std] using h4
    omega
  have k4' : (y.nc : Int) ≤ 5 := by subst hO; simpa [std] using h4
  have k4 : y.nc ≤ 5 := by omega
  have hl : y.long = false := by
    simp only [YardD.long, Bool.or_eq_false_iff, decide_eq_false_iff_not]; omega
  clear h1 h2 h3 h4 k3' k4'
  refine SW.seq ?_
  refine SW.seqRun tok hO (by cbv <;> rfl) (by trivial) ?_
  refine OpsW.splitG (by cbv <;> rfl) (fun h1 => ?_) (fun h1 => ?_) <;> refine OpsW.run tok hO (by cbv <;> rfl) (by trivial) ?_
  · refine SW.cond (t := true) (by cbv <;> rfl) ?_
    refine SW.seqRun tok hO (by cbv <;> rfl) (by trivial) ?_
    refine SW.ret ⟨_, _, rfl, rfl, bad hl ?_ _ _ rfl⟩
    have : y.last < 0 := by subst hO; simpa [std] using h1
    rw [hva, decide_eq_false (by omega : ¬ 0 ≤ y.last)]; rfl
  have k5 : 0 ≤ y.last := by subst hO; simpa [std] using h1
  refine SW.condS (by cbv <;> rfl) (fun h2 => ?_) (fun h2 => SW.skip ?_)
  · refine SW.seqRun tok hO (by cbv <;> rfl) (by trivial) ?_
    refine SW.ret ⟨_, _, rfl, rfl, bad hl ?_ _ _ rfl⟩
    have : y.hands < 1 := by subst hO; simpa [std] using h2
    rw [hva, decide_eq_false (by omega : ¬ 1 ≤ y.hands)]; simp
  have k6 : 1 ≤ y.hands := by subst hO; simpa [std] using h2
  have hva : y.validN = (allN y.nb y.bedOk && allN y.nc y.clmN) := by rw [hva, decide_eq_true k5, decide_eq_true k6]; rfl
  clear h1 h2
  refine SW.seq ?_
  refine SW.seqRun tok hO (by cbv <;> rfl) (by trivial) ?_
  refine (SW.block (SW.loopF (fun i : Nat => ⟨⟨94, getT [(1, .ptr 0 0), (3, iV i)]⟩, []⟩) (fun _ => ⟨[(0, .cells none false (yardC y))], 1⟩) (fun i => y.nb - i) (fun i => i ≤ y.nb ∧ ∀ j, j < i → y.bedOk j = true) 0
    (fun _ => rfl) ⟨Nat.zero_le _, fun j hj => absurd hj (Nat.not_lt_zero j)⟩ (Weak.by rfl rfl (by simp) (Nat.le_refl _) (Nat.le_refl _) ⟨⟨rfl, .inl rfl⟩, ⟨rfl, .inl rfl⟩, trivial⟩ ⟨⟨rfl, by omega, .inl rfl⟩, trivial⟩) fun i ⟨hi, hall⟩ => ?_))
  refine SW.seq ?_
  refine SW.seqRun tok hO (by cbv <;> rfl) (by trivial) ?_
  refine SW.condS (by cbv <;> rfl) (fun h => SW.skip ?_) (fun h => SW.exit ?_)
  · have hlt : i < y.nb := by subst hO; simpa [std] using h
    have h0 : (0 : Int) ≤ Int.ofNat i := Int.natCast_nonneg i
    have badb : y.bedOk i = false → y.validN = false := fun hb => by rw [hva, allN_false hlt hb]; simp
    have nextb : y.bedOk i = true → ∀ j, j < i + 1 → y.bedOk j = true := fun hb j hj => by
      rcases Nat.lt_succ_iff_lt_or_eq.1 hj with hj | rfl
      · exact hall j hj
      · exact hb
    refine SW.seq (SW.block ?_)
    refine SW.seqRunD tok mixed hO (by rfl) (by cbv <;> rfl) ?_ ?_
    · exact ⟨h0, Int.ofNat_lt.2 hlt⟩
    refine AnyE.callD (in_ok (y.lng (O.nat (Int.ofNat i))) 1 3) (by cbv <;> rfl) (by cbv <;> rfl) (fun h1 => ?_) (fun h1 => ?_)
    · rw [hnat] at h1
      refine AnyE.run tok hO (by rfl) (by cbv <;> rfl) ?_ ?_
      · exact ⟨h0, Int.ofNat_lt.2 hlt⟩
      refine AnyE.callD (isWeeks_ok y (y.blo (O.nat (Int.ofNat i))) (y.bhi (O.nat (Int.ofNat i)))) (by cbv <;> rfl) (by cbv <;> rfl) (fun h2 => ?_) (fun h2 => ?_)
      · rw [hnat] at h2
        have hb : y.bedOk i = true := by simp only [YardD.bedOk, h1, h2, Bool.and_self]
        refine AnyE.run tok hO (by rfl) (by cbv <;> rfl) (by trivial) ?_
        refine SW.cond (t := false) (by cbv <;> rfl) (SW.skip ?_)
        refine SW.run tok hO (by cbv <;> rfl) (by trivial) ?_
        exact ⟨i + 1, by omega, ⟨by omega, nextb hb⟩, Weak.by rfl rfl (by simp) (Nat.le_refl _) (Nat.le_refl _) ⟨⟨rfl, .inl rfl⟩, ⟨inc_ok hO (by omega), .inl rfl⟩, trivial⟩ ⟨⟨rfl, by omega, .inl rfl⟩, trivial⟩⟩
      · rw [hnat] at h2
        have hb : y.bedOk i = false := by simp only [YardD.bedOk, h2, Bool.and_false]
        refine AnyE.run tok hO (by rfl) (by cbv <;> rfl) (by trivial) ?_
        refine SW.cond (t := true) (by cbv <;> rfl) ?_
        refine SW.seqRun tok hO (by cbv <;> rfl) (by trivial) ?_
        exact SW.ret ⟨_, _, rfl, rfl, bad hl (badb hb) _ _ rfl⟩
    · rw [hnat] at h1
      have hb : y.bedOk i = false := by simp only [YardD.bedOk, h1, Bool.false_and]
      refine AnyE.run tok hO (by rfl) (by cbv <;> rfl) (by trivial) ?_
      refine SW.cond (t := true) (by cbv <;> rfl) ?_
      refine SW.seqRun tok hO (by cbv <;> rfl) (by trivial) ?_
      exact SW.ret ⟨_, _, rfl, rfl, bad hl (badb hb) _ _ rfl⟩
  have hge : y.nb ≤ i := by subst hO; simpa [std] using h
  have hall3 : allN y.nb y.bedOk = true := allN_true fun j hj => hall j (by omega)
  clear hall hi h hge
  refine SW.seq ?_
  refine SW.seqRun tok hO (by cbv <;> rfl) (by trivial) ?_
  refine (SW.block (SW.loopF (fun i : Nat => ⟨⟨94, getT [(1, .ptr 0 0), (4, iV i)]⟩, []⟩) (fun _ => ⟨[(0, .cells none false (yardC y))], 1⟩) (fun i => y.nc - i) (fun i => i ≤ y.nc ∧ ∀ j, j < i → y.clmN j = true) 0
    (fun _ => rfl) ⟨Nat.zero_le _, fun j hj => absurd hj (Nat.not_lt_zero j)⟩ (Weak.by rfl rfl (by simp) (Nat.le_refl _) (Nat.le_refl _) ⟨⟨rfl, .inl rfl⟩, ⟨rfl, .inl rfl⟩, trivial⟩ ⟨⟨rfl, by omega, .inl rfl⟩, trivial⟩) fun i ⟨hi, hall⟩ => ?_))
  refine SW.seq ?_
  refine SW.seqRun tok hO (by cbv <;> rfl) (by trivial) ?_
  refine SW.condS (by cbv <;> rfl) (fun h => SW.skip ?_) (fun h => SW.exit ?_)
  · have hlt : i < y.nc := by subst hO; simpa [std] using h
    have h0 : (0 : Int) ≤ Int.ofNat i := Int.natCast_nonneg i
    have badb : y.clmN i = false → y.validN = false := fun hb => by rw [hva, allN_false hlt hb]; simp
    have nextb : y.clmN i = true → ∀ j, j < i + 1 → y.clmN j = true := fun hb j hj => by
      rcases Nat.lt_succ_iff_lt_or_eq.1 hj with hj | rfl
      · exact hall j hj
      · exact hb
    refine SW.seq (SW.block ?_)
    refine SW.seqRunD tok mixed hO (by rfl) (by cbv <;> rfl) ?_ ?_
    · exact ⟨h0, Int.ofNat_lt.2 hlt⟩
    refine AnyE.callD (in_ok (y.cb (O.nat (Int.ofNat i))) 0 (O.bin .sub .i64 (Int.ofNat y.nb) 1)) (by cbv <;> rfl) (by cbv <;> rfl) (fun h1 => ?_) (fun h1 => ?_)
    · rw [hnat, sub1_ok hO (by omega)] at h1
      refine AnyE.run tok hO (by rfl) (by cbv <;> rfl) ?_ ?_
      · exact ⟨h0, Int.ofNat_lt.2 hlt⟩
      refine AnyE.callD (isWeeks_ok y (y.clo (O.nat (Int.ofNat i))) (y.chi (O.nat (Int.ofNat i)))) (by cbv <;> rfl) (by cbv <;> rfl) (fun h2 => ?_) (fun h2 => ?_)
      · rw [hnat] at h2
        have hb : y.clmN i = true := by simp only [YardD.clmN, h1, h2, Bool.and_self]
        refine AnyE.run tok hO (by rfl) (by cbv <;> rfl) (by trivial) ?_
        refine SW.cond (t := false) (by cbv <;> rfl) (SW.skip ?_)
        refine SW.run tok hO (by cbv <;> rfl) (by trivial) ?_
        exact ⟨i + 1, by omega, ⟨by omega, nextb hb⟩, Weak.by rfl rfl (by simp) (Nat.le_refl _) (Nat.le_refl _) ⟨⟨rfl, .inl rfl⟩, ⟨inc_ok hO (by omega), .inl rfl⟩, trivial⟩ ⟨⟨rfl, by omega, .inl rfl⟩, trivial⟩⟩
      · rw [hnat] at h2
        have hb : y.clmN i = false := by simp only [YardD.clmN, h2, Bool.and_false]
        refine AnyE.run tok hO (by rfl) (by cbv <;> rfl) (by trivial) ?_
        refine SW.cond (t := true) (by cbv <;> rfl) ?_
        refine SW.seqRun tok hO (by cbv <;> rfl) (by trivial) ?_
        exact SW.ret ⟨_, _, rfl, rfl, bad hl (badb hb) _ _ rfl⟩
    · rw [hnat, sub1_ok hO (by omega)] at h1
      have hb : y.clmN i = false := by simp only [YardD.clmN, h1, Bool.false_and]
      refine AnyE.run tok hO (by rfl) (by cbv <;> rfl) (by trivial) ?_
      refine SW.cond (t := true) (by cbv <;> rfl) ?_
      refine SW.seqRun tok hO (by cbv <;> rfl) (by trivial) ?_
      exact SW.ret ⟨_, _, rfl, rfl, bad hl (badb hb) _ _ rfl⟩
  have hge : y.nc ≤ i := by subst hO; simpa [std] using h
  have hall4 : allN y.nc y.clmN = true := allN_true fun j hj => hall j (by omega)
  clear hall hi h hge
  have hv : y.validN = true := by rw [hva, hall3, hall4]; rfl
  refine SW.seq ?_
  refine SW.seqRunD tok mixed hO (by rfl) (by cbv <;> rfl) (by trivial) ?_
  refine AnyE.callP ea (by cbv <;> rfl) (by cbv <;> rfl) ?_
  refine AnyE.run tok hO (by rfl) (by cbv <;> rfl) (by trivial) ?_
  refine AnyE.callP em (by cbv <;> rfl) (by cbv <;> rfl) ?_
  refine AnyE.run tok hO (by rfl) (by cbv <;> rfl) (by trivial) ?_
  refine AnyE.dec tok hO (by rfl) (by cbv <;> rfl) (by trivial) (fun h3 => ?_) (fun h3 => ?_)
  · refine AnyE.run tok hO (by rfl) (by cbv <;> rfl) (by trivial) ?_
    refine SW.cond (t := true) (by cbv <;> rfl) ?_
    refine SW.seqRun tok hO (by cbv <;> rfl) (by trivial) ?_
    refine SW.ret ⟨_, _, rfl, rfl, Eqv.int ?_⟩
    have : 2000 < N := by subst hO; simpa [std] using h3
    rw [hf, hl, hv, if_neg (by simp), if_pos rfl, if_pos this]
  · refine AnyE.run tok hO (by rfl) (by cbv <;> rfl) (by trivial) ?_
    refine SW.cond (t := false) (by cbv <;> rfl) (SW.skip ?_)
    refine SW.seqRun tok hO (by cbv <;> rfl) (by trivial) ?_
    refine SW.ret ⟨_, _, rfl, rfl, Eqv.int ?_⟩
    have : ¬ 2000 < N := by subst hO; simpa [std] using h3
    rw [hf, hl, hv, if_neg (by simp), if_pos rfl, if_neg this]
end Go.Fz
