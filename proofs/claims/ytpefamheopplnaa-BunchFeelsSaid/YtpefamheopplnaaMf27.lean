/- Own work of the verifier of watercress: FzFe3. -/
import Derived.Test.YtpefamheopplnaaMf26
import Derived.Test.YtpefamheopplnaaMf25
import Derived.Test.YtpefamheopplnaaMf23
set_option linter.unusedVariables false
set_option linter.unusedSimpArgs false
namespace Go.Fz
open Go.Proofs
set_option maxRecDepth 100000
set_option linter.unusedVariables false
theorem sub_one {n : Nat} (h : n ≤ 1000) : std.bin .sub .i64 (Int.ofNat n) 1 = (n : Int) - 1 := by
  show wrp .i64 ((n : Int) - 1) = _
  exact wrp_in (by simp only [IntKind.lo]; omega) (by simp only [IntKind.hi]; omega)
theorem hasW_iff (d : DayD) (w : Int) : d.hasW w = true ↔ 0 ≤ w ∧ w < d.nw := by
  simp only [DayD.hasW, Bool.and_eq_true, decide_eq_true_eq]
set_option maxHeartbeats 32000000 in
theorem bunchFeels_ok (haw : Pure Try.prog 17 [] (.lit (.bool true))) (d : DayD) (w n : Int) : Pure Try.prog 4 [dayV d, iV w, iV n] (.lit (.bool true)) := by
  obtain ⟨O, hO⟩ : ∃ O : Ar, O = std := ⟨_, rfl⟩
  refine pure_of_body tok 3 Try.func4 en4 rfl ⟨dayV_below d, Below.lit, Below.lit, trivial⟩ Below.lit ?_
  refine SW.seqRun tok hO (by cbv <;> rfl) (by trivial) ?_
  refine SW.seq ?_
  refine SW.seqRun tok hO (by cbv <;> rfl) (by trivial) ?_
  have call := thin_ok d
  generalize hR : d.thinB = r at call
  refine OpsW.callP call (by cbv <;> rfl) ?_
  have hnot : O.not r = !r := by subst hO; rfl
  refine OpsW.run tok hO (by cbv <;> rfl) (by trivial) ?_
  refine SW.condS (by cbv <;> rfl) (fun h1 => ?_) (fun h1 => SW.skip ?_)
  · refine SW.seqRun tok hO (by cbv <;> rfl) (by trivial) ?_
    refine OpsW.callP haw (by cbv <;> rfl) ?_
    refine OpsW.run tok hO (by cbv <;> rfl) (by trivial) ?_
    exact SW.ret ⟨_, _, rfl, rfl, Eqv.refl _⟩
  have hr : r = true := by have := hnot.symm.trans h1; simpa using this
  rw [hr] at hR
  obtain ⟨k1, k2, k3⟩ := thin_small hR
  have hsm : d.small := ⟨by omega, by omega, by omega⟩
  have hday := day_ok d k1 k2 k3
  have hf := fault13_ok d hsm
  have hce := checkDay_ok d hsm
  rw [← check_eq d] at hf
  clear call hnot h1 hr
  by_cases hc : d.check = 0
  · have gd := good_of_check hc
    rw [hc] at hf hce
    have hMs : (selT d.selB d.nT).length < 100000 := by
      have h1 := sel_len d
      have h2 := nT_in hc
      have h3 : (d.nT : Int) = d.manyL d.nl := by
        show ((d.manyL d.nl).toNat : Int) = _
        omega
      have h4 : (selT d.selB d.nT).length = d.sN := rfl
      omega
    have hsu := sure_ok d _ _ _ _ _ hMs hf (truths_ok d gd (nT_in hc).1 (nT_in hc).2)
    have hw1 := in_ok w 0 (std.bin .sub .i64 (Int.ofNat d.nw) 1)
    have hn1 := in_ok n 0 60
    by_cases hW : d.hasW w = true
    · have hW2 := (hasW_iff d w).1 hW
      have hw2 : Pure Try.prog 25 [iV w, iV 0, iV (std.bin .sub .i64 (Int.ofNat d.nw) 1)] (.lit (.bool true)) := hw1.res (Eqv.lit (by
        rw [sub_one (by omega)]
        simp only [inB, Bool.and_eq_true, decide_eq_true_eq]; omega))
      by_cases hn : 0 ≤ n ∧ n ≤ 60
      · have hn2 : Pure Try.prog 25 [iV n, iV 0, iV 60] (.lit (.bool true)) := hn1.res (Eqv.lit (by
          simp only [inB, Bool.and_eq_true, decide_eq_true_eq]; omega))
        obtain ⟨k, rfl⟩ : ∃ k : Nat, w = Int.ofNat k := ⟨w.toNat, by show w = (w.toNat : Int); omega⟩
        have hk : k < d.nw := by
          have : (k : Int) < d.nw := hW2.2
          omega
        have ht := thicker_ok d hsm hc k hk n hn
        by_cases ho : d.seen.outs = []
        · have hM : (selT d.selB d.nT).length = 0 := (sel_nil hc).2 ho
          rw [if_pos hM, if_pos hM] at hsu
          rw [show d.thick k n = 0 from if_pos ho, show d.thickE = 11 from if_pos ho] at ht
          refine SW.seq ((fe_2 d _ n 0 11 11 nl3 _ O hO hday ht ⟨rfl, rfl, rfl, trivial⟩).mono fun e f st hm => ?_)
          obtain ⟨rfl, g, rfl, h, rfl⟩ := hm
          refine SW.seq ((fe_3 d _ n 0 11 11 nl3 _ O hO hsu h).mono fun e f st hm => ?_)
          clear h; obtain ⟨rfl, g, rfl, h, rfl⟩ := hm
          refine SW.seq ((fe_4d d _ n 0 11 11 nl3 _ O hO hf hw2 hn2 h).mono fun e f st hm => ?_)
          clear h; obtain ⟨rfl, g, rfl, h, rfl⟩ := hm
          exact fe_5a d _ n 0 11 11 nl3 _ O hO haw (by decide) h
        · have hM : ¬ (selT d.selB d.nT).length = 0 := fun h => ho ((sel_nil hc).1 h)
          rw [if_neg hM, if_neg hM] at hsu
          have hv := refThicker_ok (selT d.selB d.nT).length d.nw d.nl (fun k => (d.nthI ((selT d.selB d.nT).getD k 0)).fe) (fun k => (d.nthI ((selT d.selB d.nT).getD k 0)).st) k hk n hMs
          rw [← thick_ref hc ho hk n] at hv
          rw [show d.thickE = 0 from if_neg ho] at ht
          generalize d.thick k n = v at hv ht
          have hAb : ∀ A : AV, A = A := fun _ => rfl
          generalize trsV (selT d.selB d.nT).length d.nw d.nl (fun k => (d.nthI ((selT d.selB d.nT).getD k 0)).fe) (fun k => (d.nthI ((selT d.selB d.nT).getD k 0)).st) = A at hv hsu
          refine SW.seq ((fe_2 d _ n v 0 0 A _ O hO hday ht ⟨rfl, rfl, rfl, trivial⟩).mono fun e f st hm => ?_)
          obtain ⟨rfl, g, rfl, h, rfl⟩ := hm
          refine SW.seq ((fe_3 d _ n v 0 0 A _ O hO hsu h).mono fun e f st hm => ?_)
          clear h; obtain ⟨rfl, g, rfl, h, rfl⟩ := hm
          refine SW.seq ((fe_4d d _ n v 0 0 A _ O hO hf hw2 hn2 h).mono fun e f st hm => ?_)
          clear h; obtain ⟨rfl, g, rfl, h, rfl⟩ := hm
          exact fe_5b d _ n v 0 0 A _ O hO haw hv h
      · have hn2 : Pure Try.prog 25 [iV n, iV 0, iV 60] (.lit (.bool false)) := hn1.res (Eqv.lit (by
          cases hi : inB n 0 60 with
          | false => rfl
          | true => exact absurd (by simpa only [inB, Bool.and_eq_true, decide_eq_true_eq] using hi) hn))
        have ht := thicker_e d w n 2 (by decide) (by
          have : d.askB w n = false := by
            cases hi : d.askB w n with
            | false => rfl
            | true =>
              simp only [DayD.askB, Bool.and_eq_true, decide_eq_true_eq] at hi
              exact absurd ⟨hi.1.2, hi.2⟩ hn
          rw [this]; exact open_range d hce)
        generalize (if (selT d.selB d.nT).length = 0 then nl3 else trsV (selT d.selB d.nT).length d.nw d.nl (fun k => (d.nthI ((selT d.selB d.nT).getD k 0)).fe) (fun k => (d.nthI ((selT d.selB d.nT).getD k 0)).st)) = A at hsu
        generalize (if (selT d.selB d.nT).length = 0 then (11 : Int) else 0) = s at hsu
        refine SW.seq ((fe_2 d w n 0 2 s A _ O hO hday ht ⟨rfl, rfl, rfl, trivial⟩).mono fun e f st hm => ?_)
        obtain ⟨rfl, g, rfl, h, rfl⟩ := hm
        refine SW.seq ((fe_3 d w n 0 2 s A _ O hO hsu h).mono fun e f st hm => ?_)
        clear h; obtain ⟨rfl, g, rfl, h, rfl⟩ := hm
        refine SW.seq ((fe_4c d w n 0 2 s A _ O hO hf hw2 hn2 h).mono fun e f st hm => ?_)
        clear h; obtain ⟨rfl, g, rfl, h, rfl⟩ := hm
        exact fe_5a d w n 0 2 2 A _ O hO haw (by decide) h
    · have hw2 : Pure Try.prog 25 [iV w, iV 0, iV (std.bin .sub .i64 (Int.ofNat d.nw) 1)] (.lit (.bool false)) := hw1.res (Eqv.lit (by
        rw [sub_one (by omega)]
        cases hi : inB w 0 ((d.nw : Int) - 1) with
        | false => rfl
        | true =>
          simp only [inB, Bool.and_eq_true, decide_eq_true_eq] at hi
          exact absurd ((hasW_iff d w).2 ⟨hi.1, by omega⟩) hW))
      have ht := thicker_e d w n 2 (by decide) (by
        have : d.askB w n = false := by
          cases hi : d.askB w n with
          | false => rfl
          | true =>
            simp only [DayD.askB, Bool.and_eq_true, decide_eq_true_eq] at hi
            exact absurd hi.1.1 hW
        rw [this]; exact open_range d hce)
      generalize (if (selT d.selB d.nT).length = 0 then nl3 else trsV (selT d.selB d.nT).length d.nw d.nl (fun k => (d.nthI ((selT d.selB d.nT).getD k 0)).fe) (fun k => (d.nthI ((selT d.selB d.nT).getD k 0)).st)) = A at hsu
      generalize (if (selT d.selB d.nT).length = 0 then (11 : Int) else 0) = s at hsu
      refine SW.seq ((fe_2 d w n 0 2 s A _ O hO hday ht ⟨rfl, rfl, rfl, trivial⟩).mono fun e f st hm => ?_)
      obtain ⟨rfl, g, rfl, h, rfl⟩ := hm
      refine SW.seq ((fe_3 d w n 0 2 s A _ O hO hsu h).mono fun e f st hm => ?_)
      clear h; obtain ⟨rfl, g, rfl, h, rfl⟩ := hm
      refine SW.seq ((fe_4b d w n 0 2 s A _ O hO hf hw2 h).mono fun e f st hm => ?_)
      clear h; obtain ⟨rfl, g, rfl, h, rfl⟩ := hm
      exact fe_5a d w n 0 2 2 A _ O hO haw (by decide) h
  · have hsu := sure_bad d d.check hc hf
    have ht := thicker_e d w n d.check hc (open_bad d _ d.check hc hce)
    generalize d.check = c at hc hf hce hsu ht
    refine SW.seq ((fe_2 d w n 0 c c nl3 _ O hO hday ht ⟨rfl, rfl, rfl, trivial⟩).mono fun e f st hm => ?_)
    obtain ⟨rfl, g, rfl, h, rfl⟩ := hm
    refine SW.seq ((fe_3 d w n 0 c c nl3 _ O hO hsu h).mono fun e f st hm => ?_)
    clear h; obtain ⟨rfl, g, rfl, h, rfl⟩ := hm
    refine SW.seq ((fe_4a d w n 0 c c nl3 _ O hO c hf hc h).mono fun e f st hm => ?_)
    clear h; obtain ⟨rfl, g, rfl, h, rfl⟩ := hm
    exact fe_5a d w n 0 c c nl3 _ O hO haw hc h
end Go.Fz
