/- Own work of the verifier of watercress: FzB10, FzB11, FzB14. -/
import Derived.Test.YtpefamheopplnaaMm11
set_option linter.unusedVariables false
set_option linter.unusedSimpArgs false
namespace Go.Fz
open Go.Proofs
set_option maxRecDepth 100000
theorem allN_false {n i : Nat} {p : Nat → Bool} (h : i < n) (hp : p i = false) : allN n p = false := by
  simp only [allN, decide_eq_false_iff_not]
  intro hq
  rw [hq i h] at hp; cases hp
theorem allN_true {n : Nat} {p : Nat → Bool} (h : ∀ i, i < n → p i = true) : allN n p = true := by
  simp only [allN, decide_eq_true_eq]; exact h
def intsEq (n : Nat) (a : Nat → Int) (m : Nat) (b : Nat → Int) : Bool := decide (n = m) && allN n fun i => decide (a i = b i)
set_option maxHeartbeats 4000000 in
theorem ints_ok (n : Nat) (e1 : Bool) (a : Nat → Int) (m : Nat) (e2 : Bool) (b : Nat → Int) (hn : n < 1000) : Pure Try.prog 29 [intsV n e1 a, intsV m e2 b] (.sb (intsEq n a m b)) := by
  obtain ⟨O, hO⟩ : ∃ O : Ar, O = std := ⟨_, rfl⟩
  have hnat : ∀ i : Nat, O.nat (Int.ofNat i) = i := fun i => by subst hO; rfl
  refine pure_of_body tok 3 Try.func29 en29 rfl ⟨intsV_below n e1 a, intsV_below m e2 b, trivial⟩ Below.sb ?_
  refine SW.seqRun tok hO (by cbv <;> rfl) (by trivial) ?_
  refine SW.seq ?_
  refine SW.seqRun tok hO (by cbv <;> rfl) (by trivial) ?_
  refine SW.condS (by cbv <;> rfl) (fun h => ?_) (fun h => SW.skip ?_)
  · refine SW.seqRun tok hO (by cbv <;> rfl) (by trivial) ?_
    refine SW.ret ⟨_, _, rfl, rfl, Eqv.bool ?_⟩
    have : ¬ n = m := by
      have : ¬ (n : Int) = (m : Int) := by subst hO; simpa [std] using h
      omega
    simp [intsEq, this]
  have hm : n = m := by
    have : (n : Int) = (m : Int) := by subst hO; simpa [std] using h
    omega
  subst hm
  refine SW.seq ?_
  refine SW.seqRun tok hO (by cbv <;> rfl) (by trivial) ?_
  refine (SW.block (SW.loopF (fun i : Nat => ⟨⟨26, getT [(0, intsV n e1 a), (1, intsV n e2 b), (4, .lit (.bool false)), (5, iV i)]⟩, []⟩) (fun _ => ⟨[], 0⟩) (fun i => n - i)
    (fun i => i ≤ n ∧ ∀ j, j < i → decide (a j = b j) = true) 0
    (fun _ => rfl) ⟨Nat.zero_le _, fun j hj => absurd hj (Nat.not_lt_zero j)⟩ (Weak.by rfl rfl (by simp) (Nat.le_refl _) (Nat.le_refl _) ⟨⟨rfl, .inl rfl⟩, ⟨rfl, .inl rfl⟩, ⟨rfl, .inl rfl⟩, ⟨rfl, .inl rfl⟩, trivial⟩ trivial) fun i ⟨hi, hall⟩ => ?_))
  refine SW.seq ?_
  refine SW.seqRun tok hO (by cbv <;> rfl) (by trivial) ?_
  refine SW.condS (by cbv <;> rfl) (fun h => SW.skip ?_) (fun h => SW.exit ?_)
  · have hlt : i < n := by subst hO; simpa [std] using h
    have h0 : (0 : Int) ≤ Int.ofNat i := Int.natCast_nonneg i
    refine SW.seq (SW.block ?_)
    refine SW.seqRunD tok mixed hO (by rfl) (by cbv <;> rfl) ?_ ?_
    · exact ⟨⟨h0, Int.ofNat_lt.2 hlt⟩, h0, Int.ofNat_lt.2 hlt⟩
    refine AnyE.dec tok hO (by rfl) (by cbv <;> rfl) (by trivial) (fun h => ?_) (fun h => ?_) <;> refine AnyE.run tok hO (by rfl) (by cbv <;> rfl) (by trivial) ?_
    · refine SW.cond (t := true) (by cbv <;> rfl) ?_
      refine SW.seqRun tok hO (by cbv <;> rfl) (by trivial) ?_
      refine SW.ret ⟨_, _, rfl, rfl, Eqv.bool ?_⟩
      have hb : decide (a i = b i) = false := by
        rw [hnat] at h; subst hO; simpa [std] using h
      unfold intsEq
      rw [allN_false (p := fun i => decide (a i = b i)) hlt hb]; simp
    · refine SW.cond (t := false) (by cbv <;> rfl) (SW.skip ?_)
      refine SW.run tok hO (by cbv <;> rfl) (by trivial) ?_
      refine ⟨i + 1, by omega, ⟨by omega, fun j hj => ?_⟩, Weak.by rfl rfl (by simp) (Nat.le_refl _) (Nat.le_refl _) ⟨⟨rfl, .inl rfl⟩, ⟨rfl, .inl rfl⟩, ⟨rfl, .inl rfl⟩, ⟨inc_ok hO (by omega), .inl rfl⟩, trivial⟩ trivial⟩
      rcases Nat.lt_succ_iff_lt_or_eq.1 hj with hj | rfl
      · exact hall j hj
      · rw [hnat] at h; subst hO; simpa [std] using h
  · have hge : n ≤ i := by subst hO; simpa [std] using h
    refine SW.seqRun tok hO (by cbv <;> rfl) (by trivial) ?_
    refine SW.ret ⟨_, _, rfl, rfl, Eqv.bool ?_⟩
    unfold intsEq
    rw [allN_true (p := fun i => decide (a i = b i)) fun j hj => hall j (by omega)]; simp
def TalD.eqB (x y : TalD) : Bool := intsEq x.n x.bun y.n y.bun && intsEq x.n x.lef y.n y.lef && decide (x.hands = y.hands) && decide (x.loose = y.loose) && decide (x.flats = y.flats) && decide (x.spare = y.spare)
set_option maxHeartbeats 4000000 in
theorem tallyEq_ok (x y : TalD) (hn : x.n < 1000) : Pure Try.prog 56 [talV x, talV y] (.sb (x.eqB y)) := by
  obtain ⟨O, hO⟩ : ∃ O : Ar, O = std := ⟨_, rfl⟩
  have c1 := ints_ok x.n x.eb x.bun y.n y.eb y.bun hn
  have c2 := ints_ok x.n x.el x.lef y.n y.el y.lef hn
  have hv : x.eqB y = (intsEq x.n x.bun y.n y.bun && intsEq x.n x.lef y.n y.lef && decide (x.hands = y.hands) && decide (x.loose = y.loose) && decide (x.flats = y.flats) && decide (x.spare = y.spare)) := rfl
  generalize intsEq x.n x.bun y.n y.bun = p1 at c1 hv
  generalize intsEq x.n x.lef y.n y.lef = p2 at c2 hv
  rw [hv]
  refine pure_of_body tok 3 Try.func56 en56 rfl ⟨talV_below x, talV_below y, trivial⟩ Below.sb ?_
  refine SW.seqRun tok hO (by cbv <;> rfl) (by trivial) ?_
  refine SW.seqRun tok hO (by cbv <;> rfl) (by trivial) ?_
  refine OpsW.callB c1 (by cbv <;> rfl) fun b1 hb1 => ?_
  rw [← hb1]
  refine OpsW.run tok hO (by cbv <;> rfl) (by trivial) ?_
  refine OpsW.splitG (by cbv <;> rfl) (fun h1 => ?_) (fun h1 => ?_) <;> refine OpsW.run tok hO (by cbv <;> rfl) (by trivial) ?_
  · subst h1
    refine OpsW.callB c2 (by cbv <;> rfl) fun b2 hb2 => ?_
    rw [← hb2]
    refine OpsW.run tok hO (by cbv <;> rfl) (by trivial) ?_
    repeat' (refine OpsW.splitG (by cbv <;> rfl) (fun h => ?_) (fun h => ?_) <;> refine OpsW.run tok hO (by cbv <;> rfl) (by trivial) ?_)
    all_goals first
      | refine SW.ret ⟨_, _, rfl, rfl, Eqv.bool (Bool.eq_iff_iff.2 ?_)⟩
      | refine SW.ret ⟨_, _, rfl, rfl, Eqv.sb (Bool.eq_iff_iff.2 ?_)⟩
    all_goals subst hO; simp_all [std]
  · refine SW.ret ⟨_, _, rfl, rfl, Eqv.bool ?_⟩
    rw [h1]; rfl
end Go.Fz
namespace Go.Fz
open Go.Proofs
set_option maxRecDepth 100000
end Go.Fz
namespace Go.Fz
open Go.Proofs
set_option maxRecDepth 100000
end Go.Fz
