/- Own work of the verifier of watercress: FzD2. -/
import Derived.Test.YtpaifaemkoblcaaNa35
set_option linter.unusedVariables false
set_option linter.unusedSimpArgs false
set_option linter.unusedVariables false
namespace Go.Fz
open Go.Proofs
set_option maxRecDepth 100000
def eqL (na nb : Nat) (fa fb : Nat → Int) : Bool := decide (na = nb) && allN na fun i => decide (fa i = fb i)
set_option maxHeartbeats 4000000 in
theorem ints_ok (na nb : Nat) (ea eb : Bool) (fa fb : Nat → Int) (hna : na < 1000) (hnb : nb < 1000) : Pure Try.prog 41 [intsV na ea fa, intsV nb eb fb] (.sb (eqL na nb fa fb)) := by
  obtain ⟨O, hO⟩ : ∃ O : Ar, O = std := ⟨_, rfl⟩
  have hnat : ∀ i : Nat, O.nat (Int.ofNat i) = i := fun i => by subst hO; rfl
  have hy : na = nb → (∀ i, i < na → fa i = fb i) → eqL na nb fa fb = true := fun h1 h2 => by simp [eqL, allN, h1]; exact fun i hi => h2 i (by omega)
  have hn1 : na ≠ nb → eqL na nb fa fb = false := fun h => by simp [eqL, h]
  have hn2 : ∀ i, i < na → fa i ≠ fb i → eqL na nb fa fb = false := fun i hi h => by
    simp only [eqL, Bool.and_eq_false_iff, decide_eq_false_iff_not, allN]
    exact .inr fun h2 => h (by simpa using h2 i hi)
  generalize eqL na nb fa fb = Q at hy hn1 hn2 ⊢
  refine pure_of_body tok 3 Try.func41 en41 rfl ⟨intsV_below na ea fa, intsV_below nb eb fb, trivial⟩ Below.sb ?_
  refine SW.seqRun tok hO (by cbv <;> rfl) (by trivial) ?_
  refine SW.seq ?_
  refine SW.seqRun tok hO (by cbv <;> rfl) (by trivial) ?_
  refine SW.condS (by cbv <;> rfl) (fun h1 => ?_) (fun h1 => SW.skip ?_)
  · have : na ≠ nb := fun e => by subst e; subst hO; simp [std] at h1
    obtain rfl := hn1 this
    refine SW.seqRun tok hO (by cbv <;> rfl) (by trivial) ?_
    exact SW.ret ⟨_, _, rfl, rfl, Eqv.bool rfl⟩
  have hnn : na = nb := by
    have : ¬ ((na : Int) ≠ (nb : Int)) := by subst hO; simpa [std] using h1
    omega
  refine (show SW _ _ _ _ _ _ from ?_)
  refine SW.seq ?_
  refine SW.seqRun tok hO (by cbv <;> rfl) (by trivial) ?_
  refine (SW.block (SW.loopF (fun i : Nat => ⟨⟨26, getT [(0, intsV na ea fa), (1, intsV nb eb fb), (5, iV i)]⟩, []⟩) (fun _ => ⟨[], 0⟩) (fun i => na - i) (fun i => i ≤ na ∧ ∀ j, j < i → fa j = fb j) 0
    (fun _ => rfl) ⟨Nat.zero_le _, fun j hj => absurd hj (Nat.not_lt_zero j)⟩ (Weak.by rfl rfl (by simp) (Nat.le_refl _) (Nat.le_refl _) ⟨⟨rfl, .inl rfl⟩, ⟨rfl, .inl rfl⟩, ⟨rfl, .inl rfl⟩, trivial⟩ trivial) fun i ⟨hi, hall⟩ => ?_))
  refine SW.seq ?_
  refine SW.seqRun tok hO (by cbv <;> rfl) (by trivial) ?_
  refine SW.condS (by cbv <;> rfl) (fun h => SW.skip ?_) (fun h => SW.exit ?_)
  · have hlt : i < na := by
      have : (i : Int) < (na : Int) := by subst hO; simpa [std] using h
      omega
    have hni := hnat i
    refine (show SW _ _ _ _ _ _ from ?_)
    refine SW.seq (SW.block ?_)
    refine SW.seqRunD tok mixed hO (by kernel_rfl) (by cbv <;> rfl) ?_ ?_
    · exact ⟨⟨by show (0 : Int) ≤ (i : Int); omega, by show (i : Int) < (nb : Int); omega⟩, by show (0 : Int) ≤ (i : Int); omega, by show (i : Int) < (na : Int); omega⟩
    refine AnyE.dec tok hO (by kernel_rfl) (by cbv <;> rfl) (by trivial) (fun h2 => ?_) (fun h2 => ?_)
    · have hne : fa i ≠ fb i := by
        have h3 : O.cmp .neq (fa (O.nat (Int.ofNat i))) (fb (O.nat (Int.ofNat i))) = true := h2
        rw [hni] at h3
        subst hO
        simpa [std] using h3
      refine AnyE.done (by kernel_rfl) ?_
      refine SW.condS (by cbv <;> rfl) (fun _ => ?_) (fun h3 => absurd h3 (by decide))
      obtain rfl := hn2 i hlt hne
      refine SW.seqRun tok hO (by cbv <;> rfl) (by trivial) ?_
      exact SW.ret ⟨_, _, rfl, rfl, Eqv.bool rfl⟩
    · have heq : fa i = fb i := by
        have h3 : O.cmp .neq (fa (O.nat (Int.ofNat i))) (fb (O.nat (Int.ofNat i))) = false := h2
        rw [hni] at h3
        subst hO
        simpa [std] using h3
      refine AnyE.done (by kernel_rfl) ?_
      refine SW.condS (by cbv <;> rfl) (fun h3 => absurd h3 (by decide)) (fun _ => SW.skip ?_)
      refine SW.run tok hO (by cbv <;> rfl) (by trivial) ?_
      refine ⟨i + 1, by omega, ⟨by omega, fun j hj => ?_⟩, Weak.by rfl rfl (by simp) (Nat.le_refl _) (Nat.le_refl _) ⟨⟨rfl, .inl rfl⟩, ⟨rfl, .inl rfl⟩, ⟨inc_ok hO (by omega), .inl rfl⟩, trivial⟩ trivial⟩
      rcases Nat.lt_succ_iff_lt_or_eq.1 hj with hj | rfl
      · exact hall j hj
      · exact heq
  · have hz : i = na := by
      have : (na : Int) ≤ (i : Int) := by subst hO; simpa [std] using h
      omega
    obtain rfl := hy hnn (fun j hj => hall j (by omega))
    refine (show SW _ _ _ _ _ _ from ?_)
    refine SW.seqRun tok hO (by cbv <;> rfl) (by trivial) ?_
    exact SW.ret ⟨_, _, rfl, rfl, Eqv.bool rfl⟩
end Go.Fz
