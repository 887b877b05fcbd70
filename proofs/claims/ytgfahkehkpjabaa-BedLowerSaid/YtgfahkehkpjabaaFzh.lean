/-
  Layer 1: BedProves returns true. Own work of the verifier of watercress.
-/
import Derived.Test.YtgfahkehkpjabaaFzf
namespace Go.Fz
open Go.Proofs
set_option maxRecDepth 100000

set_option maxHeartbeats 4000000 in
theorem bedProves_ok (haw : Pure Try.prog 19 [] (.lit (.bool true))) (f : FarmD) (which : Int) (n : Nat) (ex : Bool) (fl : Nat → Int) :
    Pure Try.prog 5 [farmV f, iV which, intsV n ex fl] (.lit (.bool true)) := by
  obtain ⟨O, hO⟩ : ∃ O : Ar, O = std := ⟨_, rfl⟩
  refine pure_of_body tok 3 Try.func5 en5 rfl ⟨farmV_below f, iV_below, intsV_below n ex fl, trivial⟩ Below.lit ?_
  refine SW.seqRun tok hO (by cbv <;> rfl) (by trivial) ?_
  refine SW.seq ?_
  refine SW.seqRun tok hO (by cbv <;> rfl) (by trivial) ?_
  have call := thin_ok f
  generalize hT : f.thinB = t at call
  refine OpsW.callP call (by cbv <;> rfl) ?_
  have hnot : O.not t = !t := by subst hO; rfl
  refine OpsW.run tok hO (by cbv <;> rfl) (by trivial) ?_
  have aw : ∀ (fm : Fm) (st : St), True := fun _ _ => trivial
  refine OpsW.splitG (by cbv <;> rfl) (fun h1 => ?_) (fun h1 => ?_) <;> refine OpsW.run tok hO (by cbv <;> rfl) (by trivial) ?_
  · refine SW.cond (t := true) (by cbv <;> rfl) ?_
    refine SW.seqRun tok hO (by cbv <;> rfl) (by trivial) ?_
    refine OpsW.callP haw (by cbv <;> rfl) ?_
    refine OpsW.run tok hO (by cbv <;> rfl) (by trivial) ?_
    exact SW.ret ⟨_, _, rfl, rfl, Eqv.refl _⟩
  have ht : t = true := by have := hnot.symm.trans h1; simpa using this
  refine SW.condS (by cbv <;> rfl) (fun h2 => ?_) (fun h2 => SW.skip ?_)
  · refine SW.seqRun tok hO (by cbv <;> rfl) (by trivial) ?_
    refine OpsW.callP haw (by cbv <;> rfl) ?_
    refine OpsW.run tok hO (by cbv <;> rfl) (by trivial) ?_
    exact SW.ret ⟨_, _, rfl, rfl, Eqv.refl _⟩
  have hn8 : n ≤ 8 := by
    have : ¬ (8 : Int) < (n : Int) := by subst hO; simpa [std] using h2
    omega
  rw [ht] at hT
  have hsz : f.nb ≤ 10 ∧ f.ns ≤ 6 ∧ f.nl ≤ 7 := by
    simp only [FarmD.thinB, Bool.and_eq_true, decide_eq_true_eq] at hT; exact ⟨hT.1.1.1, hT.1.1.2, hT.1.2⟩
  have hs : f.small := ⟨by omega, by omega, by omega⟩
  have hpc := f.proveC_eq which n fl
  obtain ⟨due, hdue⟩ : ∃ due, due = (decide (f.faultN = 0) && f.hasB which && f.truthN n fl && f.cutN which.toNat fl) := ⟨_, rfl⟩
  refine SW.seq (SW.mono (Q := fun e fm st => e = .normal ∧ ∃ g D, fm = ⟨⟨47, g⟩, []⟩ ∧ g 1 = iV which ∧ g 2 = intsV n ex fl ∧ g 3 = .ptr 0 0 ∧ g 7 = D ∧ (D = .sb due ∨ D = .lit (.bool due)) ∧ st = ⟨[(0, .cells none false [springsV f, bedsV f, looksV f])], 1⟩) ?_ ?_)
  · refine SW.run tok hO (by cbv <;> rfl) (by trivial) ?_
    refine OpsW.callI (fault_ok f hs) (by cbv <;> rfl) fun e he => ?_
    refine OpsW.run tok hO (by cbv <;> rfl) (by trivial) ?_
    refine OpsW.splitG (by cbv <;> rfl) (fun h3 => ?_) (fun h3 => ?_) <;> refine OpsW.run tok hO (by cbv <;> rfl) (by trivial) ?_
    rotate_left
    · have hf : ¬ f.faultN = 0 := by subst hO; rw [← he]; simpa [std] using h3
      exact ⟨rfl, _, .lit (.bool false), rfl, rfl, rfl, rfl, rfl, .inr (congrArg (fun b => AV.lit (.bool b)) (by rw [hdue]; simp [hf])), rfl⟩
    have hf : f.faultN = 0 := by subst hO; rw [← he]; simpa [std] using h3
    have g := good_of_check (f.check_eq.trans hf)
    refine OpsW.callB (isBed_ok f which hs) (by cbv <;> rfl) fun b hb => ?_
    refine OpsW.run tok hO (by cbv <;> rfl) (by trivial) ?_
    refine OpsW.splitG (by cbv <;> rfl) (fun h4 => ?_) (fun h4 => ?_) <;> refine OpsW.run tok hO (by cbv <;> rfl) (by trivial) ?_
    rotate_left
    · exact ⟨rfl, _, .lit (.bool false), rfl, rfl, rfl, rfl, rfl, .inr (congrArg (fun b => AV.lit (.bool b)) (by rw [hdue, ← hb, h4]; simp)), rfl⟩
    refine OpsW.callB (isTruth_ok f hs n ex fl (by omega) fun i hi => (g.look i hi).1) (by cbv <;> rfl) fun c hc => ?_
    refine OpsW.run tok hO (by cbv <;> rfl) (by trivial) ?_
    refine OpsW.splitG (by cbv <;> rfl) (fun h5 => ?_) (fun h5 => ?_) <;> refine OpsW.run tok hO (by cbv <;> rfl) (by trivial) ?_
    rotate_left
    · exact ⟨rfl, _, .lit (.bool false), rfl, rfl, rfl, rfl, rfl, .inr (congrArg (fun b => AV.lit (.bool b)) (by rw [hdue, ← hc, h5]; simp)), rfl⟩
    have hw : 0 ≤ which ∧ which < f.nb := by
      rw [h4] at hb
      simpa [FarmD.hasB] using hb.symm
    have hns : f.ns ≤ n := by
      rw [h5] at hc
      have := hc.symm
      simp only [FarmD.truthN, FarmD.listedB, Bool.and_eq_true, decide_eq_true_eq] at this
      omega
    have call := isCutN_ok f g n ex fl (by omega) hns which.toNat
    rw [show ((which.toNat : Nat) : Int) = which by omega] at call
    refine OpsW.callB call (by cbv <;> rfl) fun d hd => ?_
    refine OpsW.run tok hO (by cbv <;> rfl) (by trivial) ?_
    exact ⟨rfl, _, .sb d, rfl, rfl, rfl, rfl, rfl, .inl (congrArg AV.sb (by rw [hdue, ← hb, ← hc, ← hd, h4, h5, hf]; rfl)), rfl⟩
  rintro e fm st ⟨rfl, g, D, rfl, g1, g2, g3, g7, hD, rfl⟩
  rw [← updT_self g1, ← updT_self g2, ← updT_self g3, ← updT_self g7]
  have hp := proveCut_ok f hs which n false fl (by omega)
  rw [hpc, ← hdue] at hp
  have hbq : O.beq due due = true := by subst hO; simp [std]
  rcases hD with rfl | rfl
  · refine SW.seqRun tok hO (by cbv <;> rfl) (by trivial) ?_
    refine OpsW.callP (farm_ok f hsz.1 hsz.2.1 hsz.2.2) (by cbv <;> rfl) ?_
    refine OpsW.run tok hO (by cbv <;> rfl) (by trivial) ?_
    refine OpsW.callP (list_ok n ex fl (by omega)) (by cbv <;> rfl) ?_
    refine OpsW.run tok hO (by cbv <;> rfl) (by trivial) ?_
    refine OpsW.callP hp (by cbv <;> rfl) ?_
    refine OpsW.run tok hO (by cbv <;> rfl) (by trivial) ?_
    refine OpsW.splitG (by cbv <;> rfl) (fun h6 => ?_) (fun h6 => ?_) <;> refine OpsW.run tok hO (by cbv <;> rfl) (by trivial) ?_
    · refine OpsW.callP haw (by cbv <;> rfl) ?_
      refine OpsW.run tok hO (by cbv <;> rfl) (by trivial) ?_
      exact SW.ret ⟨_, _, rfl, rfl, Eqv.refl _⟩
    · exact absurd (hbq.symm.trans h6) (by decide)
  · refine SW.seqRun tok hO (by cbv <;> rfl) (by trivial) ?_
    refine OpsW.callP (farm_ok f hsz.1 hsz.2.1 hsz.2.2) (by cbv <;> rfl) ?_
    refine OpsW.run tok hO (by cbv <;> rfl) (by trivial) ?_
    refine OpsW.callP (list_ok n ex fl (by omega)) (by cbv <;> rfl) ?_
    refine OpsW.run tok hO (by cbv <;> rfl) (by trivial) ?_
    refine OpsW.callP hp (by cbv <;> rfl) ?_
    refine OpsW.run tok hO (by cbv <;> rfl) (by trivial) ?_
    refine OpsW.splitG (by cbv <;> rfl) (fun h6 => ?_) (fun h6 => ?_) <;> refine OpsW.run tok hO (by cbv <;> rfl) (by trivial) ?_
    · refine OpsW.callP haw (by cbv <;> rfl) ?_
      refine OpsW.run tok hO (by cbv <;> rfl) (by trivial) ?_
      exact SW.ret ⟨_, _, rfl, rfl, Eqv.refl _⟩
    · exact absurd (hbq.symm.trans h6) (by decide)
end Go.Fz
