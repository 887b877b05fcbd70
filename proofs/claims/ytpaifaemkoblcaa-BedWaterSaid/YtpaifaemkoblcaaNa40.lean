/- Own work of the verifier of watercress: FzD5. -/
import Derived.Test.YtpaifaemkoblcaaNa39
set_option linter.unusedVariables false
set_option linter.unusedSimpArgs false
set_option linter.unusedVariables false
namespace Go.Fz
open Go.Proofs
set_option maxRecDepth 100000
set_option maxHeartbeats 16000000 in
theorem awake_ok : Pure Try.prog 19 [] (.lit (.bool true)) := by
  obtain ⟨O, hO⟩ : ∃ O : Ar, O = std := ⟨_, rfl⟩
  have f0 := four0_ok
  have f1 := four1_ok
  have f2 := four2_ok
  have b1 := between_ok 4 5
  have b2 := between_ok 2 2
  have b3 := between_ok 2 3
  have cpl := awp_play
  have cfe := awp_fed
  have ccu := awp_cut
  have cbn := awp_bnd
  have cfw := awp_few
  have cfg := awp_fg
  have cfs := awp_fst
  have clv := awp_lve
  have cpr := awp_prv
  have ci1 := awp_i1
  have ci2 := awp_i2
  have h1n : O.nat 1 = 1 := by subst hO; rfl
  have h2n : O.nat 2 = 2 := by subst hO; rfl
  have h3n : O.nat 3 = 3 := by subst hO; rfl
  replace f0 := f0.res y0_to
  replace cpl := cpl.eqv (args := [y0V (spI (fwD 0)) (beI (fwD 0)), _]) (.cons y0_of (.cons (Eqv.refl _) .nil))
  replace cfe := cfe.eqv (args := [y0V (spI (fwD 0)) (beI (fwD 0)), _]) (.cons y0_of (.cons (Eqv.refl _) .nil))
  replace ccu := ccu.eqv (args := [y0V (spI (fwD 0)) (beI (fwD 0))]) (.cons y0_of .nil)
  replace cpr := cpr.eqv (args := [y0V (spI (fwD 0)) (beI (fwD 0)), _, _]) (.cons y0_of (.cons (Eqv.refl _) (.cons (Eqv.refl _) .nil)))
  obtain ⟨ya, hya⟩ : ∃ v, spI (fwD 0) = v := ⟨_, rfl⟩
  obtain ⟨yb, hyb⟩ : ∃ v, beI (fwD 0) = v := ⟨_, rfl⟩
  rw [hya, hyb] at f0 cpl cfe ccu cpr
  obtain ⟨Y1, hY1⟩ : ∃ v, farmV (fwD 1) = v := ⟨_, rfl⟩
  obtain ⟨Y2, hY2⟩ : ∃ v, farmV (fwD 2) = v := ⟨_, rfl⟩
  rw [hY1] at f1 cbn cfw cfg
  rw [hY2] at f2 cfs clv
  obtain ⟨L45, hL45⟩ : ∃ f, zV [4, 5] = intsV 2 false f := ⟨_, rfl⟩
  obtain ⟨L1, hL1⟩ : ∃ f, zV [1] = intsV 1 false f := ⟨_, rfl⟩
  obtain ⟨L2, hL2⟩ : ∃ f, zV [2] = intsV 1 false f := ⟨_, rfl⟩
  rw [hL45] at ccu cpr
  rw [hL1] at cfw clv ci1
  rw [hL2] at cfg ci2
  have hW := aw_play.2
  have hB := aw_bnd
  obtain ⟨W, hWe⟩ : ∃ W : Nat → Nat → Int, (fwD 0).water (zL [4, 5]) = W := ⟨_, rfl⟩
  rw [hWe] at cpl hW
  simp only at hW
  have hBB : (fwD 1).bnI 2 0 = 4 ∧ (fwD 1).bnI 2 1 = 5 ∧ (fwD 1).bnI 2 2 = 2 ∧ (fwD 1).bnI 2 3 = 2 ∧ (fwD 1).bnI 2 4 = 2 ∧ (fwD 1).bnI 2 5 = 3 := hB
  obtain ⟨B, hBe⟩ : ∃ B : Nat → Nat → Int, (fwD 1).bnI = B := ⟨_, rfl⟩
  rw [hBe] at cbn hBB
  clear hB hWe hBe hY1 hY2 hL45 hL1 hL2 hya hyb
  have hpl : ∀ h : Hp, h.get 0 = some (.cells none false [iV 4, iV 5]) → Pure Try.prog 20 [y0V ya yb, frz h (fun _ => true) 3 (.sl 0 0 2 1 true)] (.tup [.isl 4 3 false fun i k => iV (W i k), iV 0]) := fun h hh =>
    Pure.eqv cpl (.cons (Eqv.refl _) (.cons (by
      rw [frz_slm rfl hh (by simp)]
      refine Eqv.isl rfl fun i k hi hk => Eqv.of ?_
      obtain rfl : k = 0 := by omega
      rcases (by omega : i = 0 ∨ i = 1) with rfl | rfl <;> rfl) .nil))
  unfold y0V at f0 hpl cfe ccu cpr
  refine pure_of_body tok 3 Try.func19 en19 rfl trivial Below.lit ?_
  refine SW.seqRun tok hO (by cbv <;> rfl) (by trivial) ?_
  refine SW.seqRun tok hO (by cbv <;> rfl) (by trivial) ?_
  refine OpsW.callP f0 (by cbv <;> rfl) ?_
  refine OpsW.run tok hO (by cbv <;> rfl) (by trivial) ?_
  refine OpsW.freeze (fun _ => true) 3 (by rfl) ?_
  refine OpsW.callP (hpl [(0, .cells none false [iV 4, iV 5])] rfl) (by rfl) ?_
  refine OpsW.run tok hO (by cbv <;> rfl) (by trivial) ?_
  refine SW.seqRun tok hO (by cbv <;> rfl) (by trivial) ?_
  refine OpsW.callP f0 (by cbv <;> rfl) ?_
  refine OpsW.run tok hO (by cbv <;> rfl) (by trivial) ?_
  refine OpsW.callP cfe (by cbv <;> rfl) ?_
  refine OpsW.run tok hO (by cbv <;> rfl) (by trivial) ?_
  refine SW.seqRun tok hO (by cbv <;> rfl) (by trivial) ?_
  refine OpsW.callP f0 (by cbv <;> rfl) ?_
  refine OpsW.run tok hO (by cbv <;> rfl) (by trivial) ?_
  refine OpsW.callP ccu (by cbv <;> rfl) ?_
  refine OpsW.run tok hO (by cbv <;> rfl) (by trivial) ?_
  refine SW.seqRun tok hO (by cbv <;> rfl) (by trivial) ?_
  refine OpsW.callP f1 (by cbv <;> rfl) ?_
  refine OpsW.run tok hO (by cbv <;> rfl) (by trivial) ?_
  refine OpsW.callP cbn (by cbv <;> rfl) ?_
  refine OpsW.run tok hO (by cbv <;> rfl) (by trivial) ?_
  refine SW.seqRun tok hO (by cbv <;> rfl) (by trivial) ?_
  refine OpsW.callP f1 (by cbv <;> rfl) ?_
  refine OpsW.run tok hO (by cbv <;> rfl) (by trivial) ?_
  refine OpsW.callP cfw (by cbv <;> rfl) ?_
  refine OpsW.run tok hO (by cbv <;> rfl) (by trivial) ?_
  refine SW.seqRun tok hO (by cbv <;> rfl) (by trivial) ?_
  refine OpsW.callP f1 (by cbv <;> rfl) ?_
  refine OpsW.run tok hO (by cbv <;> rfl) (by trivial) ?_
  refine OpsW.callP cfg (by cbv <;> rfl) ?_
  refine OpsW.run tok hO (by cbv <;> rfl) (by trivial) ?_
  refine SW.seqRun tok hO (by cbv <;> rfl) (by trivial) ?_
  refine OpsW.callP f2 (by cbv <;> rfl) ?_
  refine OpsW.run tok hO (by cbv <;> rfl) (by trivial) ?_
  refine OpsW.callP cfs (by cbv <;> rfl) ?_
  refine OpsW.run tok hO (by cbv <;> rfl) (by trivial) ?_
  refine SW.seqRun tok hO (by cbv <;> rfl) (by trivial) ?_
  refine OpsW.callP f2 (by cbv <;> rfl) ?_
  refine OpsW.run tok hO (by cbv <;> rfl) (by trivial) ?_
  refine OpsW.callP clv (by cbv <;> rfl) ?_
  refine OpsW.run tok hO (by cbv <;> rfl) (by trivial) ?_
  refine SW.fmT (len := 156) (awL W B L45 L1 L2) rfl rfl (by repeat (first | exact trivial | refine And.intro ⟨rfl, .inl rfl⟩ ?_)) (fun id o ho => by cases ho) ?_
  refine SW.seq (show SW Try.prog none (.region 9 aw9 true) _ ⟨⟨156, getT (awL W B L45 L1 L2)⟩, []⟩ ⟨[], 1⟩ from aw_r9 f0 cpr ci1 ci2 hW hBB fun g st hg => ?_)
  exact SW.ret ⟨_, _, rfl, rfl, by
    show Eqv (frz _ _ _ (g 0)) _
    rw [hg]
    exact Eqv.of rfl⟩
end Go.Fz
