/- Own work of the verifier of watercress: FzB20. -/
import Derived.Test.YtkomalgeigefjaaMa38
set_option linter.unusedVariables false
set_option linter.unusedSimpArgs false
namespace Go.Fz
open Go.Proofs
set_option maxRecDepth 100000
theorem PickE.callP {P : Program} {T : Ti} {rd : Option Nat} {ops : Array Oper} {M : List Nat} {K : Fm → St → Prop} {fuel : Nat} {pend pend' : List (Nat × AV)} {listed : Array Bool} {f : Fm} {st : St} {j : Nat} {g : FuncId} {args : List AV} {r : AV} (hp : Pure P g args r)
    (hd : dropP M j pend = pend') (hc : callAt ops j f = some (g, args)) (hk : AllP (fun p => lightV T ops st.h (putAt ops j f r) p.1 = some p.2) pend') (h : AnyE P T ops M rd K fuel pend' (listed.setIfInBounds j true) (putAt ops j f r) st) : PickE P T ops M rd K fuel pend listed f st j := by
  obtain ⟨o', first, caps, az, ho', hw, hcc, ha, hput⟩ := callAt_ok hc
  subst ha
  rw [hput] at hk h
  exact ⟨o', pend', ho', hd, OpsW.pure hp ho' hw hcc (.nil ⟨⟨_, rfl⟩, (show PendOk T ops pend' (f.put o'.dst r) st.h from fun p hpm => LV.of (hk.ok p hpm)), h⟩)⟩
theorem intsEq_self (n : Nat) (a : Nat → Int) : intsEq n a n a = true := by
  unfold intsEq; rw [allN_true fun _ _ => by simp]; simp
theorem tally_self (y : TalD) (hn : y.n < 1000) : Pure Try.prog 17 [talV y, talV y] (.lit (.bool true)) :=
  (tallyEq_ok y y hn).res (Eqv.lit (by unfold TalD.eqB; rw [intsEq_self, intsEq_self]; simp))
def tz : TalD := ⟨0, false, fun _ => 0, false, fun _ => 0, 0, 0, 0, 0⟩
theorem tz_eqv : Eqv (.agg tal0) (talV tz) := Eqv.agg (.cons Eqv.nil (.cons Eqv.nil (.cons (Eqv.refl _) (.cons (Eqv.refl _) (.cons (Eqv.refl _) (.cons (Eqv.refl _) .nil))))))
theorem tally_zero : Pure Try.prog 17 [.agg tal0, .agg tal0] (.lit (.bool true)) :=
  (tally_self tz (by show 0 < 1000; omega)).eqv (.cons tz_eqv (.cons tz_eqv .nil))
def midP (LC : List AV) (e0 : Int) (d : DayD) (t : TruD) (e : Exit) (fm : Fm) (st : St) : Prop :=
  e = .normal ∧ ∃ g, fm = ⟨⟨89, g⟩, []⟩ ∧ g 2 = .ptr 0 0 ∧ g 3 = .ptr 1 0 ∧ g 5 = .ptr 2 0 ∧ g 6 = iV e0 ∧ st = ⟨[(2, .cells none false LC), (1, .cells none false (truC t)), (0, .cells none false (dayC d))], 3⟩
set_option maxHeartbeats 8000000 in
theorem bunchPlays_ok (haw : Pure Try.prog 8 [] (.lit (.bool true))) (d : DayD) (t : TruD) : Pure Try.prog 3 [dayV d, truV t] (.lit (.bool true)) := by
  obtain ⟨O, hO⟩ : ∃ O : Ar, O = std := ⟨_, rfl⟩
  refine pure_of_body tok 3 Try.func3 en3 rfl ⟨dayV_below d, truV_below t, trivial⟩ Below.lit ?_
  refine SW.seqRun tok hO (by cbv <;> rfl) (by trivial) ?_
  refine SW.seq ?_
  refine SW.seqRun tok hO (by cbv <;> rfl) (by trivial) ?_
  have call := thin_ok d
  generalize hT : d.thinB = b at call
  refine OpsW.callP call (by cbv <;> rfl) ?_
  have hnot : ∀ b, O.not b = !b := fun b => by subst hO; rfl
  refine OpsW.run tok hO (by cbv <;> rfl) (by trivial) ?_
  refine OpsW.splitG (by cbv <;> rfl) (fun h1 => ?_) (fun h1 => ?_) <;> refine OpsW.run tok hO (by cbv <;> rfl) (by trivial) ?_
  · refine SW.cond (t := true) (by cbv <;> rfl) ?_
    refine SW.seqRun tok hO (by cbv <;> rfl) (by trivial) ?_
    refine OpsW.callP haw (by cbv <;> rfl) ?_
    refine OpsW.run tok hO (by cbv <;> rfl) (by trivial) ?_
    exact SW.ret ⟨_, _, rfl, rfl, Eqv.refl _⟩
  have ht : b = true := by simpa using (hnot b).symm.trans h1
  refine OpsW.splitG (by cbv <;> rfl) (fun h2 => ?_) (fun h2 => ?_) <;> refine OpsW.run tok hO (by cbv <;> rfl) (by trivial) ?_
  · refine SW.cond (t := true) (by cbv <;> rfl) ?_
    refine SW.seqRun tok hO (by cbv <;> rfl) (by trivial) ?_
    refine OpsW.callP haw (by cbv <;> rfl) ?_
    refine OpsW.run tok hO (by cbv <;> rfl) (by trivial) ?_
    exact SW.ret ⟨_, _, rfl, rfl, Eqv.refl _⟩
  have hf8 : t.nf ≤ 8 := by
    have : ¬ (8 : Int) < (t.nf : Int) := by subst hO; simpa [std] using h2
    omega
  refine SW.condS (by cbv <;> rfl) (fun h3 => ?_) (fun h3 => SW.skip ?_)
  · refine SW.seqRun tok hO (by cbv <;> rfl) (by trivial) ?_
    refine OpsW.callP haw (by cbv <;> rfl) ?_
    refine OpsW.run tok hO (by cbv <;> rfl) (by trivial) ?_
    exact SW.ret ⟨_, _, rfl, rfl, Eqv.refl _⟩
  have hs8 : t.ns ≤ 8 := by
    have : ¬ (8 : Int) < (t.ns : Int) := by subst hO; simpa [std] using h3
    omega
  rw [ht] at hT
  have hsz : d.nw ≤ 6 ∧ d.nl ≤ 6 ∧ d.nc ≤ 7 := by
    simp only [DayD.thinB, Bool.and_eq_true, decide_eq_true_eq] at hT; exact ⟨hT.1.1.1, hT.1.1.2, hT.1.2⟩
  have hs : d.small := ⟨by omega, by omega, by omega⟩
  have hday := day_ok d hsz.1 hsz.2.1 hsz.2.2
  have htru := truth_ok t (by omega) (by omega)
  have hplay : Pure Try.prog 9 [dayV d, truV t.copy] (.tup [d.playT t, iV (d.playE t)]) := play_ok d hs t.copy (by show t.nf < 1000; omega) (by show t.ns < 1000; omega)
  have hprove : Pure Try.prog 12 [dayV d, truV t.copy] (.sb (d.proveT t)) := proveTruth_ok d hs t.copy (by show t.nf < 1000; omega) (by show t.ns < 1000; omega)
  have hfault := fault13_ok d hs
  have hcheck := checkDay_ok d hs
  have hlist := isListed_ok d t (by omega) (by omega)
  have hpt := proveT_eq d t
  have hT' : d.playT t = if d.faultN = 0 ∧ d.fits t = true then talV (d.tally t) else .agg tal0 := by unfold DayD.playT; rw [check_eq]; rfl
  have hE' : d.playE t = if d.faultN = 0 then (if d.fits t then 0 else 2) else d.faultN := by unfold DayD.playE; rw [check_eq]
  have htn : d.truthN t = (d.fits t && allN d.nc (d.rightB (d.tally t))) := rfl
  have hg : d.faultN = 0 → d.Good := fun h => good_of_check ((check_eq d).trans h)
  have htrue := fun g => isTruth_ok d g t (by omega) (by omega)
  have hpl2 := fun g h => playN_ok' (d := d) (t := t) g h
  have hY : (d.tally t).n = d.nw := rfl
  have hself := tally_self (d.tally t) (by rw [hY]; omega)
  rw [check_eq] at hcheck
  obtain ⟨cp, hcp⟩ : ∃ c, c = truV t.copy := ⟨_, rfl⟩
  rw [← hcp] at htru hplay hprove
  generalize d.proveT t = PT at hprove hpt
  generalize d.playT t = PL at hplay hT'
  generalize d.playE t = PE at hplay hE'
  generalize d.truthN t = TN at htrue hpt htn
  generalize allN d.nc (d.rightB (d.tally t)) = AR at htn
  generalize d.faultN = F at hfault hcheck hpt hT' hE' hg
  generalize d.fits t = FI at hlist hT' hE' htn hpl2
  generalize d.tally t = Y at hT' hpl2 hself
  by_cases hF : F = 0
  rotate_left
  · obtain rfl : PL = .agg tal0 := by rw [hT', if_neg (fun h => hF h.1)]
    obtain rfl : PE = F := by rw [hE', if_neg hF]
    obtain rfl : PT = false := by rw [hpt]; simp [hF]
    refine SW.seq (SW.mono (Q := midP (tal0) (PE) d t) ?_ ?_)
    · refine SW.runD tok mixed hO (by rfl) (by cbv <;> rfl) (by trivial) ?_
      refine AnyE.two 1 8 (by cbv <;> rfl) ?_ ?_
      · refine PickE.callP hday (by cbv <;> rfl) (by cbv <;> rfl) ?_ ?_
        · exact (by repeat (first | exact trivial | refine And.intro (by first | exact lv_of hO (by cbv <;> rfl) (by trivial) | (cbv <;> rfl)) ?_))
        refine AnyE.two 3 8 (by cbv <;> rfl) ?_ ?_
        · refine PickE.callP htru (by cbv <;> rfl) (by cbv <;> rfl) ?_ ?_
          · exact (by repeat (first | exact trivial | refine And.intro (by first | exact lv_of hO (by cbv <;> rfl) (by trivial) | (cbv <;> rfl)) ?_))
          refine AnyE.two 4 8 (by cbv <;> rfl) ?_ ?_
          · refine PickE.callP hplay (by cbv <;> rfl) (by cbv <;> rfl) ?_ ?_
            · exact (by repeat (first | exact trivial | refine And.intro (by first | exact lv_of hO (by cbv <;> rfl) (by trivial) | (cbv <;> rfl)) ?_))
            refine AnyE.run tok hO (by rfl) (by cbv <;> rfl) (by trivial) ?_
            refine AnyE.effK tok hO (by cbv <;> rfl) (by cbv <;> rfl) (by trivial) ?_ ?_
            · exact (by repeat (first | exact trivial | refine And.intro (by first | exact lv_of hO (by cbv <;> rfl) (by trivial) | (cbv <;> rfl)) ?_))
            refine AnyE.run tok hO (by rfl) (by cbv <;> rfl) (by trivial) ?_
            refine AnyE.effK tok hO (by cbv <;> rfl) (by cbv <;> rfl) (by trivial) ?_ ?_
            · exact (by repeat (first | exact trivial | refine And.intro (by first | exact lv_of hO (by cbv <;> rfl) (by trivial) | (cbv <;> rfl)) ?_))
            refine AnyE.run tok hO (by rfl) (by cbv <;> rfl) (by trivial) ?_
            exact ⟨rfl, _, rfl, rfl, rfl, rfl, rfl, rfl⟩
          · refine PickE.eff tok hO (by cbv <;> rfl) (by cbv <;> rfl) (by trivial) ?_ ?_
            · exact (by repeat (first | exact trivial | refine And.intro (by first | exact lv_of hO (by cbv <;> rfl) (by trivial) | (cbv <;> rfl)) ?_))
            refine AnyE.callP hplay (by cbv <;> rfl) (by cbv <;> rfl) ?_
            refine AnyE.run tok hO (by rfl) (by cbv <;> rfl) (by trivial) ?_
            refine AnyE.effK tok hO (by cbv <;> rfl) (by cbv <;> rfl) (by trivial) ?_ ?_
            · exact (by repeat (first | exact trivial | refine And.intro (by first | exact lv_of hO (by cbv <;> rfl) (by trivial) | (cbv <;> rfl)) ?_))
            refine AnyE.run tok hO (by rfl) (by cbv <;> rfl) (by trivial) ?_
            exact ⟨rfl, _, rfl, rfl, rfl, rfl, rfl, rfl⟩
        · refine PickE.eff tok hO (by cbv <;> rfl) (by cbv <;> rfl) (by trivial) ?_ ?_
          · exact (by repeat (first | exact trivial | refine And.intro (by first | exact lv_of hO (by cbv <;> rfl) (by trivial) | (cbv <;> rfl)) ?_))
          refine AnyE.callP htru (by cbv <;> rfl) (by cbv <;> rfl) ?_
          refine AnyE.callP hplay (by cbv <;> rfl) (by cbv <;> rfl) ?_
          refine AnyE.run tok hO (by rfl) (by cbv <;> rfl) (by trivial) ?_
          refine AnyE.effK tok hO (by cbv <;> rfl) (by cbv <;> rfl) (by trivial) ?_ ?_
          · exact (by repeat (first | exact trivial | refine And.intro (by first | exact lv_of hO (by cbv <;> rfl) (by trivial) | (cbv <;> rfl)) ?_))
          refine AnyE.run tok hO (by rfl) (by cbv <;> rfl) (by trivial) ?_
          exact ⟨rfl, _, rfl, rfl, rfl, rfl, rfl, rfl⟩
      · refine PickE.eff tok hO (by cbv <;> rfl) (by cbv <;> rfl) (by trivial) ?_ ?_
        · exact (by repeat (first | exact trivial | refine And.intro (by first | exact lv_of hO (by cbv <;> rfl) (by trivial) | (cbv <;> rfl)) ?_))
        refine AnyE.callP hday (by cbv <;> rfl) (by cbv <;> rfl) ?_
        refine AnyE.callP htru (by cbv <;> rfl) (by cbv <;> rfl) ?_
        refine AnyE.callP hplay (by cbv <;> rfl) (by cbv <;> rfl) ?_
        refine AnyE.run tok hO (by rfl) (by cbv <;> rfl) (by trivial) ?_
        refine AnyE.effK tok hO (by cbv <;> rfl) (by cbv <;> rfl) (by trivial) ?_ ?_
        · exact (by repeat (first | exact trivial | refine And.intro (by first | exact lv_of hO (by cbv <;> rfl) (by trivial) | (cbv <;> rfl)) ?_))
        refine AnyE.run tok hO (by rfl) (by cbv <;> rfl) (by trivial) ?_
        exact ⟨rfl, _, rfl, rfl, rfl, rfl, rfl, rfl⟩
    rintro e fm st ⟨rfl, g, rfl, g2, g3, g5, g6, rfl⟩
    rw [← updT_self g2, ← updT_self g3, ← updT_self g5, ← updT_self g6]
    refine SW.seqRunD tok mixed hO (by rfl) (by cbv <;> rfl) (by trivial) ?_
    refine AnyE.callP hday (by cbv <;> rfl) (by cbv <;> rfl) ?_
    refine AnyE.callP htru (by cbv <;> rfl) (by cbv <;> rfl) ?_
    refine AnyE.callP hprove (by cbv <;> rfl) (by cbv <;> rfl) ?_
    refine AnyE.run tok hO (by rfl) (by cbv <;> rfl) (by trivial) ?_
    refine SW.seqRun tok hO (by cbv <;> rfl) (by trivial) ?_
    refine OpsW.callP hfault (by cbv <;> rfl) ?_
    refine OpsW.run tok hO (by cbv <;> rfl) (by trivial) ?_
    refine SW.seq ?_
    refine SW.seqRun tok hO (by cbv <;> rfl) (by trivial) ?_
    refine OpsW.callP hday (by cbv <;> rfl) ?_
    refine OpsW.run tok hO (by cbv <;> rfl) (by trivial) ?_
    refine OpsW.callP hcheck (by cbv <;> rfl) ?_
    refine OpsW.run tok hO (by cbv <;> rfl) (by trivial) ?_
    refine OpsW.splitG (by cbv <;> rfl) (fun h4 => ?_) (fun h4 => ?_)
    · exfalso; subst hO; simp [std] at h4
    refine OpsW.run tok hO (by cbv <;> rfl) (by trivial) ?_
    refine OpsW.splitG (by cbv <;> rfl) (fun h5 => ?_) (fun h5 => ?_)
    · exfalso; subst hO; simp [std] at h5; exact hF h5
    refine OpsW.run tok hO (by cbv <;> rfl) (by trivial) ?_
    refine SW.condS (by cbv <;> rfl) (fun h6 => ?_) (fun h6 => SW.skip ?_)
    · exfalso; subst hO; simp [std] at h6
    refine SW.seq ?_
    refine SW.seqRun tok hO (by cbv <;> rfl) (by trivial) ?_
    refine OpsW.splitG (by cbv <;> rfl) (fun h7 => ?_) (fun h7 => ?_)
    · exfalso; subst hO; simp [std] at h7; exact hF h7
    refine OpsW.run tok hO (by cbv <;> rfl) (by trivial) ?_
    refine SW.cond (t := false) (by cbv <;> rfl) (SW.skip ?_)
    refine SW.seq ?_
    refine SW.seqRun tok hO (by cbv <;> rfl) (by trivial) ?_
    refine SW.condS (by cbv <;> rfl) (fun h8 => ?_) (fun h8 => SW.skip ?_)
    rotate_left
    · exfalso; subst hO; simp [std] at h8; exact hF h8
    refine SW.seqRun tok hO (by cbv <;> rfl) (by trivial) ?_
    refine OpsW.splitG (by cbv <;> rfl) (fun h9 => ?_) (fun h9 => ?_)
    rotate_left
    · exfalso; subst hO; simp [std] at h9
    refine OpsW.run tok hO (by cbv <;> rfl) (by trivial) ?_
    refine OpsW.callP tally_zero (by cbv <;> rfl) ?_
    refine OpsW.run tok hO (by cbv <;> rfl) (by trivial) ?_
    refine OpsW.callP haw (by cbv <;> rfl) ?_
    refine OpsW.run tok hO (by cbv <;> rfl) (by trivial) ?_
    exact SW.ret ⟨_, _, rfl, rfl, Eqv.refl _⟩
  subst hF
  have g0 := hg rfl
  cases FI
  · obtain rfl : PL = .agg tal0 := by rw [hT', if_neg (by simp)]
    obtain rfl : PE = 2 := by rw [hE']; simp
    obtain rfl : TN = false := by rw [htn]; rfl
    obtain rfl : PT = false := by rw [hpt]; simp
    refine SW.seq (SW.mono (Q := midP (tal0) (2) d t) ?_ ?_)
    · refine SW.runD tok mixed hO (by rfl) (by cbv <;> rfl) (by trivial) ?_
      refine AnyE.two 1 8 (by cbv <;> rfl) ?_ ?_
      · refine PickE.callP hday (by cbv <;> rfl) (by cbv <;> rfl) ?_ ?_
        · exact (by repeat (first | exact trivial | refine And.intro (by first | exact lv_of hO (by cbv <;> rfl) (by trivial) | (cbv <;> rfl)) ?_))
        refine AnyE.two 3 8 (by cbv <;> rfl) ?_ ?_
        · refine PickE.callP htru (by cbv <;> rfl) (by cbv <;> rfl) ?_ ?_
          · exact (by repeat (first | exact trivial | refine And.intro (by first | exact lv_of hO (by cbv <;> rfl) (by trivial) | (cbv <;> rfl)) ?_))
          refine AnyE.two 4 8 (by cbv <;> rfl) ?_ ?_
          · refine PickE.callP hplay (by cbv <;> rfl) (by cbv <;> rfl) ?_ ?_
            · exact (by repeat (first | exact trivial | refine And.intro (by first | exact lv_of hO (by cbv <;> rfl) (by trivial) | (cbv <;> rfl)) ?_))
            refine AnyE.run tok hO (by rfl) (by cbv <;> rfl) (by trivial) ?_
            refine AnyE.effK tok hO (by cbv <;> rfl) (by cbv <;> rfl) (by trivial) ?_ ?_
            · exact (by repeat (first | exact trivial | refine And.intro (by first | exact lv_of hO (by cbv <;> rfl) (by trivial) | (cbv <;> rfl)) ?_))
            refine AnyE.run tok hO (by rfl) (by cbv <;> rfl) (by trivial) ?_
            refine AnyE.effK tok hO (by cbv <;> rfl) (by cbv <;> rfl) (by trivial) ?_ ?_
            · exact (by repeat (first | exact trivial | refine And.intro (by first | exact lv_of hO (by cbv <;> rfl) (by trivial) | (cbv <;> rfl)) ?_))
            refine AnyE.run tok hO (by rfl) (by cbv <;> rfl) (by trivial) ?_
            exact ⟨rfl, _, rfl, rfl, rfl, rfl, rfl, rfl⟩
          · refine PickE.eff tok hO (by cbv <;> rfl) (by cbv <;> rfl) (by trivial) ?_ ?_
            · exact (by repeat (first | exact trivial | refine And.intro (by first | exact lv_of hO (by cbv <;> rfl) (by trivial) | (cbv <;> rfl)) ?_))
            refine AnyE.callP hplay (by cbv <;> rfl) (by cbv <;> rfl) ?_
            refine AnyE.run tok hO (by rfl) (by cbv <;> rfl) (by trivial) ?_
            refine AnyE.effK tok hO (by cbv <;> rfl) (by cbv <;> rfl) (by trivial) ?_ ?_
            · exact (by repeat (first | exact trivial | refine And.intro (by first | exact lv_of hO (by cbv <;> rfl) (by trivial) | (cbv <;> rfl)) ?_))
            refine AnyE.run tok hO (by rfl) (by cbv <;> rfl) (by trivial) ?_
            exact ⟨rfl, _, rfl, rfl, rfl, rfl, rfl, rfl⟩
        · refine PickE.eff tok hO (by cbv <;> rfl) (by cbv <;> rfl) (by trivial) ?_ ?_
          · exact (by repeat (first | exact trivial | refine And.intro (by first | exact lv_of hO (by cbv <;> rfl) (by trivial) | (cbv <;> rfl)) ?_))
          refine AnyE.callP htru (by cbv <;> rfl) (by cbv <;> rfl) ?_
          refine AnyE.callP hplay (by cbv <;> rfl) (by cbv <;> rfl) ?_
          refine AnyE.run tok hO (by rfl) (by cbv <;> rfl) (by trivial) ?_
          refine AnyE.effK tok hO (by cbv <;> rfl) (by cbv <;> rfl) (by trivial) ?_ ?_
          · exact (by repeat (first | exact trivial | refine And.intro (by first | exact lv_of hO (by cbv <;> rfl) (by trivial) | (cbv <;> rfl)) ?_))
          refine AnyE.run tok hO (by rfl) (by cbv <;> rfl) (by trivial) ?_
          exact ⟨rfl, _, rfl, rfl, rfl, rfl, rfl, rfl⟩
      · refine PickE.eff tok hO (by cbv <;> rfl) (by cbv <;> rfl) (by trivial) ?_ ?_
        · exact (by repeat (first | exact trivial | refine And.intro (by first | exact lv_of hO (by cbv <;> rfl) (by trivial) | (cbv <;> rfl)) ?_))
        refine AnyE.callP hday (by cbv <;> rfl) (by cbv <;> rfl) ?_
        refine AnyE.callP htru (by cbv <;> rfl) (by cbv <;> rfl) ?_
        refine AnyE.callP hplay (by cbv <;> rfl) (by cbv <;> rfl) ?_
        refine AnyE.run tok hO (by rfl) (by cbv <;> rfl) (by trivial) ?_
        refine AnyE.effK tok hO (by cbv <;> rfl) (by cbv <;> rfl) (by trivial) ?_ ?_
        · exact (by repeat (first | exact trivial | refine And.intro (by first | exact lv_of hO (by cbv <;> rfl) (by trivial) | (cbv <;> rfl)) ?_))
        refine AnyE.run tok hO (by rfl) (by cbv <;> rfl) (by trivial) ?_
        exact ⟨rfl, _, rfl, rfl, rfl, rfl, rfl, rfl⟩
    rintro e fm st ⟨rfl, g, rfl, g2, g3, g5, g6, rfl⟩
    rw [← updT_self g2, ← updT_self g3, ← updT_self g5, ← updT_self g6]
    refine SW.seqRunD tok mixed hO (by rfl) (by cbv <;> rfl) (by trivial) ?_
    refine AnyE.callP hday (by cbv <;> rfl) (by cbv <;> rfl) ?_
    refine AnyE.callP htru (by cbv <;> rfl) (by cbv <;> rfl) ?_
    refine AnyE.callP hprove (by cbv <;> rfl) (by cbv <;> rfl) ?_
    refine AnyE.run tok hO (by rfl) (by cbv <;> rfl) (by trivial) ?_
    refine SW.seqRun tok hO (by cbv <;> rfl) (by trivial) ?_
    refine OpsW.callP hfault (by cbv <;> rfl) ?_
    refine OpsW.run tok hO (by cbv <;> rfl) (by trivial) ?_
    refine SW.seq ?_
    refine SW.seqRun tok hO (by cbv <;> rfl) (by trivial) ?_
    refine OpsW.callP hday (by cbv <;> rfl) ?_
    refine OpsW.run tok hO (by cbv <;> rfl) (by trivial) ?_
    refine OpsW.callP hcheck (by cbv <;> rfl) ?_
    refine OpsW.run tok hO (by cbv <;> rfl) (by trivial) ?_
    refine OpsW.splitG (by cbv <;> rfl) (fun h4 => ?_) (fun h4 => ?_)
    · exfalso; subst hO; simp [std] at h4
    refine OpsW.run tok hO (by cbv <;> rfl) (by trivial) ?_
    refine OpsW.splitG (by cbv <;> rfl) (fun h5 => ?_) (fun h5 => ?_)
    rotate_left
    · exfalso; subst hO; simp [std] at h5
    refine OpsW.run tok hO (by cbv <;> rfl) (by trivial) ?_
    refine OpsW.callP (htrue g0) (by cbv <;> rfl) ?_
    refine OpsW.run tok hO (by cbv <;> rfl) (by trivial) ?_
    refine SW.condS (by cbv <;> rfl) (fun h6 => ?_) (fun h6 => SW.skip ?_)
    · exfalso; subst hO; simp [std] at h6
    refine SW.seq ?_
    refine SW.seqRun tok hO (by cbv <;> rfl) (by trivial) ?_
    refine OpsW.splitG (by cbv <;> rfl) (fun h7 => ?_) (fun h7 => ?_)
    rotate_left
    · exfalso; subst hO; simp [std] at h7
    refine OpsW.run tok hO (by cbv <;> rfl) (by trivial) ?_
    refine OpsW.callP hlist (by cbv <;> rfl) ?_
    refine OpsW.run tok hO (by cbv <;> rfl) (by trivial) ?_
    refine SW.condS (by cbv <;> rfl) (fun h8 => ?_) (fun h8 => SW.skip ?_)
    rotate_left
    · exfalso; have := (hnot false).symm.trans h8; simp at this
    refine SW.run tok hO (by cbv <;> rfl) (by trivial) ?_
    refine SW.seq ?_
    refine SW.seqRun tok hO (by cbv <;> rfl) (by trivial) ?_
    refine SW.condS (by cbv <;> rfl) (fun h9 => ?_) (fun h9 => SW.skip ?_)
    rotate_left
    · exfalso; subst hO; simp [std] at h9
    refine SW.seqRun tok hO (by cbv <;> rfl) (by trivial) ?_
    refine OpsW.splitG (by cbv <;> rfl) (fun h10 => ?_) (fun h10 => ?_)
    rotate_left
    · exfalso; subst hO; simp [std] at h10
    refine OpsW.run tok hO (by cbv <;> rfl) (by trivial) ?_
    refine OpsW.callP tally_zero (by cbv <;> rfl) ?_
    refine OpsW.run tok hO (by cbv <;> rfl) (by trivial) ?_
    refine OpsW.callP haw (by cbv <;> rfl) ?_
    refine OpsW.run tok hO (by cbv <;> rfl) (by trivial) ?_
    exact SW.ret ⟨_, _, rfl, rfl, Eqv.refl _⟩
  · obtain rfl : PL = talV Y := by rw [hT', if_pos ⟨rfl, rfl⟩]
    obtain rfl : PE = 0 := by rw [hE']; simp
    obtain rfl : PT = TN := by rw [hpt]; simp
    have hplay2 := hpl2 g0 rfl
    refine SW.seq (SW.mono (Q := midP (talC Y) (0) d t) ?_ ?_)
    · refine SW.runD tok mixed hO (by rfl) (by cbv <;> rfl) (by trivial) ?_
      refine AnyE.two 1 8 (by cbv <;> rfl) ?_ ?_
      · refine PickE.callP hday (by cbv <;> rfl) (by cbv <;> rfl) ?_ ?_
        · exact (by repeat (first | exact trivial | refine And.intro (by first | exact lv_of hO (by cbv <;> rfl) (by trivial) | (cbv <;> rfl)) ?_))
        refine AnyE.two 3 8 (by cbv <;> rfl) ?_ ?_
        · refine PickE.callP htru (by cbv <;> rfl) (by cbv <;> rfl) ?_ ?_
          · exact (by repeat (first | exact trivial | refine And.intro (by first | exact lv_of hO (by cbv <;> rfl) (by trivial) | (cbv <;> rfl)) ?_))
          refine AnyE.two 4 8 (by cbv <;> rfl) ?_ ?_
          · refine PickE.callP hplay (by cbv <;> rfl) (by cbv <;> rfl) ?_ ?_
            · exact (by repeat (first | exact trivial | refine And.intro (by first | exact lv_of hO (by cbv <;> rfl) (by trivial) | (cbv <;> rfl)) ?_))
            refine AnyE.run tok hO (by rfl) (by cbv <;> rfl) (by trivial) ?_
            refine AnyE.effK tok hO (by cbv <;> rfl) (by cbv <;> rfl) (by trivial) ?_ ?_
            · exact (by repeat (first | exact trivial | refine And.intro (by first | exact lv_of hO (by cbv <;> rfl) (by trivial) | (cbv <;> rfl)) ?_))
            refine AnyE.run tok hO (by rfl) (by cbv <;> rfl) (by trivial) ?_
            refine AnyE.effK tok hO (by cbv <;> rfl) (by cbv <;> rfl) (by trivial) ?_ ?_
            · exact (by repeat (first | exact trivial | refine And.intro (by first | exact lv_of hO (by cbv <;> rfl) (by trivial) | (cbv <;> rfl)) ?_))
            refine AnyE.run tok hO (by rfl) (by cbv <;> rfl) (by trivial) ?_
            exact ⟨rfl, _, rfl, rfl, rfl, rfl, rfl, rfl⟩
          · refine PickE.eff tok hO (by cbv <;> rfl) (by cbv <;> rfl) (by trivial) ?_ ?_
            · exact (by repeat (first | exact trivial | refine And.intro (by first | exact lv_of hO (by cbv <;> rfl) (by trivial) | (cbv <;> rfl)) ?_))
            refine AnyE.callP hplay (by cbv <;> rfl) (by cbv <;> rfl) ?_
            refine AnyE.run tok hO (by rfl) (by cbv <;> rfl) (by trivial) ?_
            refine AnyE.effK tok hO (by cbv <;> rfl) (by cbv <;> rfl) (by trivial) ?_ ?_
            · exact (by repeat (first | exact trivial | refine And.intro (by first | exact lv_of hO (by cbv <;> rfl) (by trivial) | (cbv <;> rfl)) ?_))
            refine AnyE.run tok hO (by rfl) (by cbv <;> rfl) (by trivial) ?_
            exact ⟨rfl, _, rfl, rfl, rfl, rfl, rfl, rfl⟩
        · refine PickE.eff tok hO (by cbv <;> rfl) (by cbv <;> rfl) (by trivial) ?_ ?_
          · exact (by repeat (first | exact trivial | refine And.intro (by first | exact lv_of hO (by cbv <;> rfl) (by trivial) | (cbv <;> rfl)) ?_))
          refine AnyE.callP htru (by cbv <;> rfl) (by cbv <;> rfl) ?_
          refine AnyE.callP hplay (by cbv <;> rfl) (by cbv <;> rfl) ?_
          refine AnyE.run tok hO (by rfl) (by cbv <;> rfl) (by trivial) ?_
          refine AnyE.effK tok hO (by cbv <;> rfl) (by cbv <;> rfl) (by trivial) ?_ ?_
          · exact (by repeat (first | exact trivial | refine And.intro (by first | exact lv_of hO (by cbv <;> rfl) (by trivial) | (cbv <;> rfl)) ?_))
          refine AnyE.run tok hO (by rfl) (by cbv <;> rfl) (by trivial) ?_
          exact ⟨rfl, _, rfl, rfl, rfl, rfl, rfl, rfl⟩
      · refine PickE.eff tok hO (by cbv <;> rfl) (by cbv <;> rfl) (by trivial) ?_ ?_
        · exact (by repeat (first | exact trivial | refine And.intro (by first | exact lv_of hO (by cbv <;> rfl) (by trivial) | (cbv <;> rfl)) ?_))
        refine AnyE.callP hday (by cbv <;> rfl) (by cbv <;> rfl) ?_
        refine AnyE.callP htru (by cbv <;> rfl) (by cbv <;> rfl) ?_
        refine AnyE.callP hplay (by cbv <;> rfl) (by cbv <;> rfl) ?_
        refine AnyE.run tok hO (by rfl) (by cbv <;> rfl) (by trivial) ?_
        refine AnyE.effK tok hO (by cbv <;> rfl) (by cbv <;> rfl) (by trivial) ?_ ?_
        · exact (by repeat (first | exact trivial | refine And.intro (by first | exact lv_of hO (by cbv <;> rfl) (by trivial) | (cbv <;> rfl)) ?_))
        refine AnyE.run tok hO (by rfl) (by cbv <;> rfl) (by trivial) ?_
        exact ⟨rfl, _, rfl, rfl, rfl, rfl, rfl, rfl⟩
    rintro e fm st ⟨rfl, g, rfl, g2, g3, g5, g6, rfl⟩
    rw [← updT_self g2, ← updT_self g3, ← updT_self g5, ← updT_self g6]
    refine SW.seqRunD tok mixed hO (by rfl) (by cbv <;> rfl) (by trivial) ?_
    refine AnyE.callP hday (by cbv <;> rfl) (by cbv <;> rfl) ?_
    refine AnyE.callP htru (by cbv <;> rfl) (by cbv <;> rfl) ?_
    refine AnyE.callP hprove (by cbv <;> rfl) (by cbv <;> rfl) ?_
    refine AnyE.run tok hO (by rfl) (by cbv <;> rfl) (by trivial) ?_
    refine SW.seqRun tok hO (by cbv <;> rfl) (by trivial) ?_
    refine OpsW.callP hfault (by cbv <;> rfl) ?_
    refine OpsW.run tok hO (by cbv <;> rfl) (by trivial) ?_
    refine SW.seq ?_
    refine SW.seqRun tok hO (by cbv <;> rfl) (by trivial) ?_
    refine OpsW.callP hday (by cbv <;> rfl) ?_
    refine OpsW.run tok hO (by cbv <;> rfl) (by trivial) ?_
    refine OpsW.callP hcheck (by cbv <;> rfl) ?_
    refine OpsW.run tok hO (by cbv <;> rfl) (by trivial) ?_
    refine OpsW.splitG (by cbv <;> rfl) (fun h4 => ?_) (fun h4 => ?_)
    · exfalso; subst hO; simp [std] at h4
    refine OpsW.run tok hO (by cbv <;> rfl) (by trivial) ?_
    refine OpsW.splitG (by cbv <;> rfl) (fun h5 => ?_) (fun h5 => ?_)
    rotate_left
    · exfalso; subst hO; simp [std] at h5
    refine OpsW.run tok hO (by cbv <;> rfl) (by trivial) ?_
    refine OpsW.callP (htrue g0) (by cbv <;> rfl) ?_
    refine OpsW.run tok hO (by cbv <;> rfl) (by trivial) ?_
    refine SW.condS (by cbv <;> rfl) (fun h6 => ?_) (fun h6 => SW.skip ?_)
    · exfalso; subst hO; simp [std] at h6
    refine SW.seq ?_
    refine SW.seqRun tok hO (by cbv <;> rfl) (by trivial) ?_
    refine OpsW.splitG (by cbv <;> rfl) (fun h7 => ?_) (fun h7 => ?_)
    rotate_left
    · exfalso; subst hO; simp [std] at h7
    refine OpsW.run tok hO (by cbv <;> rfl) (by trivial) ?_
    refine OpsW.callP hlist (by cbv <;> rfl) ?_
    refine OpsW.run tok hO (by cbv <;> rfl) (by trivial) ?_
    refine SW.condS (by cbv <;> rfl) (fun h8 => ?_) (fun h8 => SW.skip ?_)
    · exfalso; have := (hnot true).symm.trans h8; simp at this
    refine SW.seq ?_
    refine SW.seqRun tok hO (by cbv <;> rfl) (by trivial) ?_
    refine SW.condS (by cbv <;> rfl) (fun h9 => ?_) (fun h9 => SW.skip ?_)
    · exfalso; subst hO; simp [std] at h9
    refine SW.seqRunD tok mixed hO (by rfl) (by cbv <;> rfl) (by trivial) ?_
    refine AnyE.dec tok hO (by rfl) (by cbv <;> rfl) (by trivial) (fun h10 => ?_) (fun h10 => ?_)
    rotate_left
    · exfalso; subst hO; simp [std] at h10
    refine AnyE.run tok hO (by rfl) (by cbv <;> rfl) (by trivial) ?_
    refine AnyE.callP hplay2 (by cbv <;> rfl) (by cbv <;> rfl) ?_
    refine AnyE.run tok hO (by rfl) (by cbv <;> rfl) (by trivial) ?_
    refine AnyE.callP hself (by cbv <;> rfl) (by cbv <;> rfl) ?_
    refine AnyE.run tok hO (by rfl) (by cbv <;> rfl) (by trivial) ?_
    refine AnyE.callP haw (by cbv <;> rfl) (by cbv <;> rfl) ?_
    refine AnyE.run tok hO (by rfl) (by cbv <;> rfl) (by trivial) ?_
    exact SW.ret ⟨_, _, rfl, rfl, Eqv.refl _⟩
end Go.Fz
