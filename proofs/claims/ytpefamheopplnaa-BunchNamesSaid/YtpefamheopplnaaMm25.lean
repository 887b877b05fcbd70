/- Own work of the verifier of watercress: FzL3. -/
import Derived.Test.YtpefamheopplnaaMm24
import Derived.Test.YtpefamheopplnaaMm12
set_option linter.unusedVariables false
set_option linter.unusedSimpArgs false
namespace Go.Fz
open Go.Proofs
set_option maxRecDepth 100000
def awT1 : TruD := ⟨2, true, pick2 21 25, 2, true, pick2 500 610⟩
def awY : TalD := ⟨2, true, pick2 23 24, true, pick2 17 10, 7, 5, 1, 3⟩
theorem aw_play1 : Pure Try.prog 39 [dayV (twoD 0), truV awT1] (.tup [talV ((twoD 0).tally awT1), iV 0]) := by
  have h := play_ok (twoD 0) (two_small 0 (by omega)) awT1 (by decide) (by decide)
  rw [show (twoD 0).playE awT1 = 0 by decide +kernel] at h
  unfold DayD.playT at h
  rw [if_pos ⟨two_check0, by decide +kernel⟩] at h
  exact h
theorem aw_tal : Pure Try.prog 56 [talV ((twoD 0).tally awT1), talV awY] (.lit (.bool true)) := (tallyEq_ok _ awY (by decide)).res (Eqv.lit (by decide +kernel))
theorem aw_ints (v : Nat) : Pure Try.prog 29 [lsV [v], intsV 1 true (fun _ => (v : Int))] (.lit (.bool true)) := (ints_ok 1 false _ 1 true _ (by omega)).res (Eqv.lit (by simp [intsEq, allN]))
theorem rng_two (F G : Nat → Int) (h1 : F 0 = 0) (h2 : G 0 = 19) : Eqv (.isl 2 2 false (rngC F G)) (.isl 2 2 false (rngC (pick2 0 (F 1)) (pick2 19 (G 1)))) := by
  refine Eqv.isl rfl fun i k hi hk => ?_
  obtain rfl | rfl : i = 0 ∨ i = 1 := by omega
  · obtain rfl | rfl : k = 0 ∨ k = 1 := by omega
    · exact Eqv.of (congrArg iV h1)
    · exact Eqv.of (congrArg iV h2)
  · obtain rfl | rfl : k = 0 ∨ k = 1 := by omega
    · exact Eqv.of rfl
    · exact Eqv.of rfl
theorem bnd_shape {D : AV} {n : Nat} {F0 G0 F1 G1 F2 G2 : Nat → Int} {a b c d e f g h : Int} (P : Pure Try.prog 18 [D] (.tup [.agg (bndC n F0 G0 F1 G1 F2 G2 a b c d e f g h), iV 0])) (hn : n = 2) (h1 : F2 0 = 0) (h2 : G2 0 = 19) (ha : a = 7) (hb : b = 8) (he : e = 1) (hf : f = 2) :
    ∃ (X Y : Nat → Nat → AV) (x y p q s t : Int), Pure Try.prog 18 [D] (.tup [.agg [.isl 2 2 false X, .isl 2 2 false Y, .isl 2 2 false (rngC (pick2 0 x) (pick2 19 y)), iV 7, iV 8, iV p, iV q, iV 1, iV 2, iV s, iV t], iV 0]) := by
  subst hn ha hb he hf
  exact ⟨_, _, _, _, _, _, _, _, P.res (Eqv.tup (.cons (Eqv.agg (.cons (Eqv.refl _) (.cons (Eqv.refl _) (.cons (rng_two F2 G2 h1 h2) (.cons (Eqv.refl _) (.cons (Eqv.refl _) (.cons (Eqv.refl _) (.cons (Eqv.refl _) (.cons (Eqv.refl _) (.cons (Eqv.refl _) (.cons (Eqv.refl _) (.cons (Eqv.refl _) .nil)))))))))))) (.cons (Eqv.refl _) .nil)))⟩
theorem aw_boundsC : ∃ (X Y : Nat → Nat → AV) (x y p q s t : Int), Pure Try.prog 18 [dayV (twoD 0)] (.tup [.agg [.isl 2 2 false X, .isl 2 2 false Y, .isl 2 2 false (rngC (pick2 0 x) (pick2 19 y)), iV 7, iV 8, iV p, iV q, iV 1, iV 2, iV s, iV t], iV 0]) := by
  have h := aw_bounds
  unfold DayD.bndV at h
  exact bnd_shape h rfl (by decide +kernel) (by decide +kernel) (by decide +kernel) (by decide +kernel) (by decide +kernel) (by decide +kernel)
noncomputable def aw8P : {a : Array Oper // nthC 8 (bodyF Try.f17) = .region 8 a true} := ⟨_, by rfl⟩
noncomputable def aw8 : Array Oper := aw8P.1
def aw8M : List Nat := [0, 1, 3, 7, 7, 7, 55, 127, 255, 511, 1023, 2047, 4095, 8191, 16383, 32767, 65535, 131071, 262143, 524287, 1048575, 2097151, 4194303, 8388607, 1048575, 33554431, 67108863, 134217727, 268435455, 536870911, 268435455, 2147483647, 4294967295, 8589934591, 17179869183, 34359738367, 17179869183, 137438953471, 274877906943, 549755813887, 1099511627775, 2199023255551, 4398046511103, 8796093022207, 17592186044415, 35184372088831, 70368744177663, 140737488355327, 281474976710655, 562949953421311, 1125899906842623, 2251799813685247, 4503599627370495, 9007199254740991, 18014398509481983, 36028797018963967, 72057594037927935, 144115188075855871, 288230376151711743, 576460752303423487, 1152921504606846975, 1152921504606846975, 4611686018427387903, 9223372036854775807, 18446744073709551615, 36893488147419103231, 73786976294838206463, 147573952589676412927, 295147905179352825855, 590295810358705651711, 1180591620717411303423, 2361183241434822606847, 4722366482869645213695, 9444732965739290427391, 18889465931478580854783, 37778931862957161709567, 75557863725914323419135, 151115727451828646838271, 151115727451828646838271, 604462909807314587353087, 1208925819614629174706175, 2417851639229258349412351]
theorem aw8_tidy : tidyB aw8 aw8M = true := by kernel_rfl
theorem aw8_size : aw8.size = 82 := by kernel_rfl
set_option maxHeartbeats 64000000 in
theorem awake_ok : Pure Try.prog 17 [] (.lit (.bool true)) := by
  obtain ⟨O, hO⟩ : ∃ O : Ar, O = std := ⟨_, rfl⟩
  obtain ⟨X, Y, x, y, p, q, s, t, hbo⟩ := aw_boundsC
  have hd0 := two_ok0
  have hd1 := two_ok1
  have hd2 := two_ok2
  have hpl := aw_play1
  have ht0 := aw_thick0
  have ht1 := aw_thick1
  have hfe := aw_fewest
  have hfi := aw_first
  have hle := aw_leave
  have htal := aw_tal
  have hi0 := aw_ints 0
  have hi1 := aw_ints 1
  have hb0 := between_ok 0 19
  have hb1 := between_ok 7 8
  have hb2 := between_ok 1 2
  obtain ⟨wf, lf, cf, hD⟩ : ∃ wf lf cf, dayV (twoD 0) = .agg [iV 6, iV 4, .isl 2 2 false wf, .isl 2 3 false lf, .isl 0 4 false cf] := ⟨_, _, _, rfl⟩
  rw [hD] at hd0 hpl hbo ht0 hfe
  clear hD
  generalize dayV (twoD 1) = D1 at *
  generalize dayV (twoD 2) = D2 at *
  generalize (twoD 0).tally awT1 = T1 at *
  obtain ⟨l0, hL0⟩ : ∃ f, lsV [0] = .isl 1 1 false f := ⟨_, rfl⟩
  obtain ⟨l1, hL1⟩ : ∃ f, lsV [1] = .isl 1 1 false f := ⟨_, rfl⟩
  rw [hL0] at hfe hi0
  rw [hL1] at hle hi1
  clear hL0 hL1
  refine pure_of_body tok 3 Try.func17 en17 rfl trivial Below.lit ?_
  refine SW.seqRun tok hO (by cbv <;> rfl) (by trivial) ?_
  refine SW.seqRun tok hO (by cbv <;> rfl) (by trivial) ?_
  refine OpsW.callP hd0 (by cbv <;> rfl) ?_
  refine OpsW.run tok hO (by cbv <;> rfl) (by trivial) ?_
  refine OpsW.freeze (fun _ => true) 3 (by rfl) ?_
  refine OpsW.callP (Pure.eqv hpl ?_) (by cbv <;> rfl) ?_
  · refine .cons (Eqv.of rfl) (.cons (Eqv.agg (.cons (Eqv.isl rfl fun i j hi hj => ?_) (.cons (Eqv.isl rfl fun i j hi hj => ?_) .nil))) .nil)
    all_goals
      obtain rfl : j = 0 := by omega
      obtain rfl | rfl : i = 0 ∨ i = 1 := by omega
      all_goals exact Eqv.of rfl
  refine OpsW.run tok hO (by cbv <;> rfl) (by trivial) ?_
  refine SW.seqRun tok hO (by cbv <;> rfl) (by trivial) ?_
  refine OpsW.callP hd0 (by cbv <;> rfl) ?_
  refine OpsW.run tok hO (by cbv <;> rfl) (by trivial) ?_
  refine OpsW.callP hbo (by cbv <;> rfl) ?_
  refine OpsW.run tok hO (by cbv <;> rfl) (by trivial) ?_
  refine SW.seqRun tok hO (by cbv <;> rfl) (by trivial) ?_
  refine OpsW.callP hd0 (by cbv <;> rfl) ?_
  refine OpsW.run tok hO (by cbv <;> rfl) (by trivial) ?_
  refine OpsW.callP ht0 (by cbv <;> rfl) ?_
  refine OpsW.run tok hO (by cbv <;> rfl) (by trivial) ?_
  refine SW.seqRun tok hO (by cbv <;> rfl) (by trivial) ?_
  refine OpsW.callP hd1 (by cbv <;> rfl) ?_
  refine OpsW.run tok hO (by cbv <;> rfl) (by trivial) ?_
  refine OpsW.callP ht1 (by cbv <;> rfl) ?_
  refine OpsW.run tok hO (by cbv <;> rfl) (by trivial) ?_
  refine SW.seqRun tok hO (by cbv <;> rfl) (by trivial) ?_
  refine OpsW.callP hd0 (by cbv <;> rfl) ?_
  refine OpsW.run tok hO (by cbv <;> rfl) (by trivial) ?_
  refine OpsW.callP hfe (by cbv <;> rfl) ?_
  refine OpsW.run tok hO (by cbv <;> rfl) (by trivial) ?_
  refine SW.seqRun tok hO (by cbv <;> rfl) (by trivial) ?_
  refine OpsW.callP hd2 (by cbv <;> rfl) ?_
  refine OpsW.run tok hO (by cbv <;> rfl) (by trivial) ?_
  refine OpsW.callP hfi (by cbv <;> rfl) ?_
  refine OpsW.run tok hO (by cbv <;> rfl) (by trivial) ?_
  refine SW.seqRun tok hO (by cbv <;> rfl) (by trivial) ?_
  refine OpsW.callP hd2 (by cbv <;> rfl) ?_
  refine OpsW.run tok hO (by cbv <;> rfl) (by trivial) ?_
  refine OpsW.callP hle (by cbv <;> rfl) ?_
  refine OpsW.run tok hO (by cbv <;> rfl) (by trivial) ?_
  refine SW.seq (show SW Try.prog none (.region 8 aw8 true) _ _ _ from ?_)
  refine SW.drawnB tok (M := aw8M) mixed 82 aw8_tidy aw8_size (by kernel_rfl) ?_
  refine AnyE.tk aw8_tidy tok 0 53 1 (by kernel_rfl) (by kernel_rfl) (by cbv <;> rfl) (Eqv.refl _) ?_
  refine AnyE.tk aw8_tidy tok 1 54 3 (by kernel_rfl) (by kernel_rfl) (by cbv <;> rfl) (Eqv.lit (by first | rfl | decide | simp [std])) ?_
  refine AnyE.tk aw8_tidy tok 2 55 7 (by kernel_rfl) (by kernel_rfl) (by cbv <;> rfl) (Eqv.refl _) ?_
  refine AnyE.tk aw8_tidy tok 3 56 15 (by kernel_rfl) (by kernel_rfl) (by cbv <;> rfl) (Eqv.refl _) ?_
  refine AnyE.many [4, 5] (by kernel_rfl) (by rfl) ⟨?_, ?_, trivial⟩
  · refine PickE.eff tok hO (by cbv <;> rfl) (by cbv <;> rfl) (by trivial) ?_ ?_
    · exact (by repeat (first | exact trivial | refine And.intro (by cbv <;> rfl) ?_))
    refine AnyE.ls (n := 82) 31 (by kernel_rfl) rfl ?_
    refine AnyE.many [5] (by kernel_rfl) (by rfl) ⟨?_, trivial⟩
    refine PickE.eff tok hO (by cbv <;> rfl) (by cbv <;> rfl) (by trivial) ?_ ?_
    · exact (by repeat (first | exact trivial | refine And.intro (by cbv <;> rfl) ?_))
    refine AnyE.ls (n := 82) 63 (by kernel_rfl) rfl ?_
    refine AnyE.tk aw8_tidy tok 6 59 127 (by kernel_rfl) (by kernel_rfl) (by cbv <;> rfl) (Eqv.refl _) ?_
    refine AnyE.many [7] (by kernel_rfl) (by rfl) ⟨?_, trivial⟩
    refine PickE.callE htal.ent (call_frz (fun _ => true) 3 htal (by rfl) ?_) (by cbv <;> rfl) (by cbv <;> rfl) ?_
    · refine .cons (Eqv.of rfl) (.cons (Eqv.agg (.cons (Eqv.isl rfl fun i j hi hj => ?_) (.cons (Eqv.isl rfl fun i j hi hj => ?_) (.cons (Eqv.of rfl) (.cons (Eqv.of rfl) (.cons (Eqv.of rfl) (.cons (Eqv.of rfl) .nil))))))) .nil)
      all_goals
        obtain rfl : j = 0 := by omega
        obtain rfl | rfl : i = 0 ∨ i = 1 := by omega
        all_goals exact Eqv.of rfl
    rintro r st' ⟨rfl, rfl⟩
    refine ⟨?_, ?_⟩
    · exact (by repeat (first | exact trivial | refine And.intro (by cbv <;> rfl) ?_))
    refine AnyE.ls (n := 82) 255 (by kernel_rfl) (show putAt aw8 7 _ _ = Fm.put _ (some 60) _ from rfl) ?_
    refine AnyE.tk aw8_tidy tok 8 61 511 (by kernel_rfl) (by kernel_rfl) (by cbv <;> rfl) (Eqv.refl _) ?_
    refine AnyE.tk aw8_tidy tok 9 62 1023 (by kernel_rfl) (by kernel_rfl) (by cbv <;> rfl) (Eqv.refl _) ?_
    refine AnyE.tk aw8_tidy tok 10 63 2047 (by kernel_rfl) (by kernel_rfl) (by cbv <;> rfl) (Eqv.refl _) ?_
    refine AnyE.tk aw8_tidy tok 11 64 4095 (by kernel_rfl) (by kernel_rfl) (by cbv <;> rfl) (Eqv.lit (by first | rfl | decide | simp [std])) ?_
    refine AnyE.tk aw8_tidy tok 12 65 8191 (by kernel_rfl) (by kernel_rfl) (by cbv <;> rfl) (Eqv.refl _) ?_
    refine AnyE.tk aw8_tidy tok 13 66 16383 (by kernel_rfl) (by kernel_rfl) (by cbv <;> rfl) (Eqv.refl _) ?_
    refine AnyE.tk aw8_tidy tok 14 67 32767 (by kernel_rfl) (by kernel_rfl) (by cbv <;> rfl) (Eqv.refl _) ?_
    refine AnyE.tk aw8_tidy tok 15 68 65535 (by kernel_rfl) (by kernel_rfl) (by cbv <;> rfl) (Eqv.refl _) ?_
    refine AnyE.tk aw8_tidy tok 16 69 131071 (by kernel_rfl) (by kernel_rfl) (by cbv <;> rfl) (Eqv.refl _) ?_
    refine AnyE.tk aw8_tidy tok 17 70 262143 (by kernel_rfl) (by kernel_rfl) (by cbv <;> rfl) (Eqv.lit (by first | rfl | decide | simp [std])) ?_
    refine AnyE.tk aw8_tidy tok 18 71 524287 (by kernel_rfl) (by kernel_rfl) (by cbv <;> rfl) (Eqv.refl _) ?_
    refine AnyE.tk aw8_tidy tok 19 72 1048575 (by kernel_rfl) (by kernel_rfl) (by cbv <;> rfl) (Eqv.refl _) ?_
    refine AnyE.tk aw8_tidy tok 20 73 2097151 (by kernel_rfl) (by kernel_rfl) (by cbv <;> rfl) (Eqv.refl _) ?_
    refine AnyE.tk aw8_tidy tok 21 74 4194303 (by kernel_rfl) (by kernel_rfl) (by cbv <;> rfl) (Eqv.refl _) ?_
    refine AnyE.tk aw8_tidy tok 22 75 8388607 (by kernel_rfl) (by kernel_rfl) (by cbv <;> rfl) (Eqv.refl _) ?_
    refine AnyE.tk aw8_tidy tok 23 76 16777215 (by kernel_rfl) (by kernel_rfl) (by cbv <;> rfl) (Eqv.refl _) ?_
    refine AnyE.many [24] (by kernel_rfl) (by rfl) ⟨?_, trivial⟩
    refine PickE.callQ hb0 (by cbv <;> rfl) (by cbv <;> rfl) ?_ ?_
    · exact (by repeat (first | exact trivial | refine And.intro (by cbv <;> rfl) ?_))
    refine AnyE.ls (n := 82) 33554431 (by kernel_rfl) (show putAt aw8 24 _ _ = Fm.put _ (some 77) _ from rfl) ?_
    refine AnyE.tk aw8_tidy tok 25 78 67108863 (by kernel_rfl) (by kernel_rfl) (by cbv <;> rfl) (Eqv.lit (by first | rfl | decide | simp [std])) ?_
    refine AnyE.tk aw8_tidy tok 26 79 134217727 (by kernel_rfl) (by kernel_rfl) (by cbv <;> rfl) (Eqv.refl _) ?_
    refine AnyE.tk aw8_tidy tok 27 80 268435455 (by kernel_rfl) (by kernel_rfl) (by cbv <;> rfl) (Eqv.refl _) ?_
    refine AnyE.tk aw8_tidy tok 28 81 536870911 (by kernel_rfl) (by kernel_rfl) (by cbv <;> rfl) (Eqv.refl _) ?_
    refine AnyE.tk aw8_tidy tok 29 82 1073741823 (by kernel_rfl) (by kernel_rfl) (by cbv <;> rfl) (Eqv.refl _) ?_
    refine AnyE.many [30] (by kernel_rfl) (by rfl) ⟨?_, trivial⟩
    refine PickE.callQ hb1 (by cbv <;> rfl) (by cbv <;> rfl) ?_ ?_
    · exact (by repeat (first | exact trivial | refine And.intro (by cbv <;> rfl) ?_))
    refine AnyE.ls (n := 82) 2147483647 (by kernel_rfl) (show putAt aw8 30 _ _ = Fm.put _ (some 83) _ from rfl) ?_
    refine AnyE.tk aw8_tidy tok 31 84 4294967295 (by kernel_rfl) (by kernel_rfl) (by cbv <;> rfl) (Eqv.lit (by first | rfl | decide | simp [std])) ?_
    refine AnyE.tk aw8_tidy tok 32 85 8589934591 (by kernel_rfl) (by kernel_rfl) (by cbv <;> rfl) (Eqv.refl _) ?_
    refine AnyE.tk aw8_tidy tok 33 86 17179869183 (by kernel_rfl) (by kernel_rfl) (by cbv <;> rfl) (Eqv.refl _) ?_
    refine AnyE.tk aw8_tidy tok 34 87 34359738367 (by kernel_rfl) (by kernel_rfl) (by cbv <;> rfl) (Eqv.refl _) ?_
    refine AnyE.tk aw8_tidy tok 35 88 68719476735 (by kernel_rfl) (by kernel_rfl) (by cbv <;> rfl) (Eqv.refl _) ?_
    refine AnyE.many [36] (by kernel_rfl) (by rfl) ⟨?_, trivial⟩
    refine PickE.callQ hb2 (by cbv <;> rfl) (by cbv <;> rfl) ?_ ?_
    · exact (by repeat (first | exact trivial | refine And.intro (by cbv <;> rfl) ?_))
    refine AnyE.ls (n := 82) 137438953471 (by kernel_rfl) (show putAt aw8 36 _ _ = Fm.put _ (some 89) _ from rfl) ?_
    refine AnyE.tk aw8_tidy tok 37 90 274877906943 (by kernel_rfl) (by kernel_rfl) (by cbv <;> rfl) (Eqv.lit (by first | rfl | decide | simp [std])) ?_
    refine AnyE.tk aw8_tidy tok 38 91 549755813887 (by kernel_rfl) (by kernel_rfl) (by cbv <;> rfl) (Eqv.refl _) ?_
    refine AnyE.tk aw8_tidy tok 39 92 1099511627775 (by kernel_rfl) (by kernel_rfl) (by cbv <;> rfl) (Eqv.refl _) ?_
    refine AnyE.tk aw8_tidy tok 40 93 2199023255551 (by kernel_rfl) (by kernel_rfl) (by cbv <;> rfl) (Eqv.refl _) ?_
    refine AnyE.tk aw8_tidy tok 41 94 4398046511103 (by kernel_rfl) (by kernel_rfl) (by cbv <;> rfl) (Eqv.lit (by first | rfl | decide | simp [std])) ?_
    refine AnyE.tk aw8_tidy tok 42 95 8796093022207 (by kernel_rfl) (by kernel_rfl) (by cbv <;> rfl) (Eqv.refl _) ?_
    refine AnyE.tk aw8_tidy tok 43 96 17592186044415 (by kernel_rfl) (by kernel_rfl) (by cbv <;> rfl) (Eqv.refl _) ?_
    refine AnyE.tk aw8_tidy tok 44 97 35184372088831 (by kernel_rfl) (by kernel_rfl) (by cbv <;> rfl) (Eqv.refl _) ?_
    refine AnyE.tk aw8_tidy tok 45 98 70368744177663 (by kernel_rfl) (by kernel_rfl) (by cbv <;> rfl) (Eqv.lit (by first | rfl | decide | simp [std])) ?_
    refine AnyE.tk aw8_tidy tok 46 99 140737488355327 (by kernel_rfl) (by kernel_rfl) (by cbv <;> rfl) (Eqv.refl _) ?_
    refine AnyE.tk aw8_tidy tok 47 100 281474976710655 (by kernel_rfl) (by kernel_rfl) (by cbv <;> rfl) (Eqv.refl _) ?_
    refine AnyE.tk aw8_tidy tok 48 101 562949953421311 (by kernel_rfl) (by kernel_rfl) (by cbv <;> rfl) (Eqv.refl _) ?_
    refine AnyE.tk aw8_tidy tok 49 102 1125899906842623 (by kernel_rfl) (by kernel_rfl) (by cbv <;> rfl) (Eqv.lit (by first | rfl | decide | simp [std])) ?_
    refine AnyE.tk aw8_tidy tok 50 103 2251799813685247 (by kernel_rfl) (by kernel_rfl) (by cbv <;> rfl) (Eqv.refl _) ?_
    refine AnyE.tk aw8_tidy tok 51 104 4503599627370495 (by kernel_rfl) (by kernel_rfl) (by cbv <;> rfl) (Eqv.refl _) ?_
    refine AnyE.tk aw8_tidy tok 52 105 9007199254740991 (by kernel_rfl) (by kernel_rfl) (by cbv <;> rfl) (Eqv.refl _) ?_
    refine AnyE.tk aw8_tidy tok 53 106 18014398509481983 (by kernel_rfl) (by kernel_rfl) (by cbv <;> rfl) (Eqv.lit (by first | rfl | decide | simp [std])) ?_
    refine AnyE.tk aw8_tidy tok 54 107 36028797018963967 (by kernel_rfl) (by kernel_rfl) (by cbv <;> rfl) (Eqv.refl _) ?_
    refine AnyE.tk aw8_tidy tok 55 108 72057594037927935 (by kernel_rfl) (by kernel_rfl) (by cbv <;> rfl) (Eqv.refl _) ?_
    refine AnyE.tk aw8_tidy tok 56 109 144115188075855871 (by kernel_rfl) (by kernel_rfl) (by cbv <;> rfl) (Eqv.refl _) ?_
    refine AnyE.tk aw8_tidy tok 57 110 288230376151711743 (by kernel_rfl) (by kernel_rfl) (by cbv <;> rfl) (Eqv.lit (by first | rfl | decide | simp [std])) ?_
    refine AnyE.tk aw8_tidy tok 58 111 576460752303423487 (by kernel_rfl) (by kernel_rfl) (by cbv <;> rfl) (Eqv.refl _) ?_
    refine AnyE.tk aw8_tidy tok 59 112 1152921504606846975 (by kernel_rfl) (by kernel_rfl) (by cbv <;> rfl) (Eqv.refl _) ?_
    refine AnyE.tk aw8_tidy tok 60 113 2305843009213693951 (by kernel_rfl) (by kernel_rfl) (by cbv <;> rfl) (Eqv.refl _) ?_
    refine AnyE.many [61] (by kernel_rfl) (by rfl) ⟨?_, trivial⟩
    refine PickE.eff tok hO (by cbv <;> rfl) (by cbv <;> rfl) (by trivial) ?_ ?_
    · exact (by repeat (first | exact trivial | refine And.intro (by cbv <;> rfl) ?_))
    refine AnyE.ls (n := 82) 4611686018427387903 (by kernel_rfl) rfl ?_
    refine AnyE.many [62] (by kernel_rfl) (by rfl) ⟨?_, trivial⟩
    refine PickE.callE hi0.ent (call_frz (fun _ => true) 3 hi0 (by rfl) ?_) (by cbv <;> rfl) (by cbv <;> rfl) ?_
    · refine .cons (Eqv.of rfl) (.cons (Eqv.isl rfl fun i j hi hj => ?_) .nil)
      obtain rfl : j = 0 := by omega
      obtain rfl : i = 0 := by omega
      exact Eqv.of rfl
    rintro r st' ⟨rfl, rfl⟩
    refine ⟨?_, ?_⟩
    · exact (by repeat (first | exact trivial | refine And.intro (by cbv <;> rfl) ?_))
    refine AnyE.ls (n := 82) 9223372036854775807 (by kernel_rfl) (show putAt aw8 62 _ _ = Fm.put _ (some 115) _ from rfl) ?_
    refine AnyE.tk aw8_tidy tok 63 116 18446744073709551615 (by kernel_rfl) (by kernel_rfl) (by cbv <;> rfl) (Eqv.refl _) ?_
    refine AnyE.tk aw8_tidy tok 64 117 36893488147419103231 (by kernel_rfl) (by kernel_rfl) (by cbv <;> rfl) (Eqv.refl _) ?_
    refine AnyE.tk aw8_tidy tok 65 118 73786976294838206463 (by kernel_rfl) (by kernel_rfl) (by cbv <;> rfl) (Eqv.refl _) ?_
    refine AnyE.tk aw8_tidy tok 66 119 147573952589676412927 (by kernel_rfl) (by kernel_rfl) (by cbv <;> rfl) (Eqv.lit (by first | rfl | decide | simp [std])) ?_
    refine AnyE.tk aw8_tidy tok 67 120 295147905179352825855 (by kernel_rfl) (by kernel_rfl) (by cbv <;> rfl) (Eqv.refl _) ?_
    refine AnyE.tk aw8_tidy tok 68 121 590295810358705651711 (by kernel_rfl) (by kernel_rfl) (by cbv <;> rfl) (Eqv.refl _) ?_
    refine AnyE.tk aw8_tidy tok 69 122 1180591620717411303423 (by kernel_rfl) (by kernel_rfl) (by cbv <;> rfl) (Eqv.refl _) ?_
    refine AnyE.tk aw8_tidy tok 70 123 2361183241434822606847 (by kernel_rfl) (by kernel_rfl) (by cbv <;> rfl) (Eqv.lit (by first | rfl | decide | simp [std])) ?_
    refine AnyE.tk aw8_tidy tok 71 124 4722366482869645213695 (by kernel_rfl) (by kernel_rfl) (by cbv <;> rfl) (Eqv.refl _) ?_
    refine AnyE.tk aw8_tidy tok 72 125 9444732965739290427391 (by kernel_rfl) (by kernel_rfl) (by cbv <;> rfl) (Eqv.refl _) ?_
    refine AnyE.tk aw8_tidy tok 73 126 18889465931478580854783 (by kernel_rfl) (by kernel_rfl) (by cbv <;> rfl) (Eqv.refl _) ?_
    refine AnyE.tk aw8_tidy tok 74 127 37778931862957161709567 (by kernel_rfl) (by kernel_rfl) (by cbv <;> rfl) (Eqv.lit (by first | rfl | decide | simp [std])) ?_
    refine AnyE.tk aw8_tidy tok 75 128 75557863725914323419135 (by kernel_rfl) (by kernel_rfl) (by cbv <;> rfl) (Eqv.refl _) ?_
    refine AnyE.tk aw8_tidy tok 76 129 151115727451828646838271 (by kernel_rfl) (by kernel_rfl) (by cbv <;> rfl) (Eqv.refl _) ?_
    refine AnyE.tk aw8_tidy tok 77 130 302231454903657293676543 (by kernel_rfl) (by kernel_rfl) (by cbv <;> rfl) (Eqv.refl _) ?_
    refine AnyE.many [78] (by kernel_rfl) (by rfl) ⟨?_, trivial⟩
    refine PickE.eff tok hO (by cbv <;> rfl) (by cbv <;> rfl) (by trivial) ?_ ?_
    · exact (by repeat (first | exact trivial | refine And.intro (by cbv <;> rfl) ?_))
    refine AnyE.ls (n := 82) 604462909807314587353087 (by kernel_rfl) rfl ?_
    refine AnyE.many [79] (by kernel_rfl) (by rfl) ⟨?_, trivial⟩
    refine PickE.callE hi1.ent (call_frz (fun _ => true) 3 hi1 (by rfl) ?_) (by cbv <;> rfl) (by cbv <;> rfl) ?_
    · refine .cons (Eqv.of rfl) (.cons (Eqv.isl rfl fun i j hi hj => ?_) .nil)
      obtain rfl : j = 0 := by omega
      obtain rfl : i = 0 := by omega
      exact Eqv.of rfl
    rintro r st' ⟨rfl, rfl⟩
    refine ⟨?_, ?_⟩
    · exact (by repeat (first | exact trivial | refine And.intro (by cbv <;> rfl) ?_))
    refine AnyE.ls (n := 82) 1208925819614629174706175 (by kernel_rfl) (show putAt aw8 79 _ _ = Fm.put _ (some 132) _ from rfl) ?_
    refine AnyE.tk aw8_tidy tok 80 133 2417851639229258349412351 (by kernel_rfl) (by kernel_rfl) (by cbv <;> rfl) (Eqv.refl _) ?_
    refine AnyE.tk aw8_tidy tok 81 0 4835703278458516698824703 (by kernel_rfl) (by kernel_rfl) (by cbv <;> rfl) (Eqv.refl _) ?_
    refine AnyE.done (by kernel_rfl) ?_
    exact SW.ret ⟨_, _, rfl, rfl, Eqv.refl _⟩
  · refine PickE.eff tok hO (by cbv <;> rfl) (by cbv <;> rfl) (by trivial) ?_ ?_
    · exact (by repeat (first | exact trivial | refine And.intro (by cbv <;> rfl) ?_))
    refine AnyE.ls (n := 82) 47 (by kernel_rfl) rfl ?_
    refine AnyE.many [4] (by kernel_rfl) (by rfl) ⟨?_, trivial⟩
    refine PickE.eff tok hO (by cbv <;> rfl) (by cbv <;> rfl) (by trivial) ?_ ?_
    · exact (by repeat (first | exact trivial | refine And.intro (by cbv <;> rfl) ?_))
    refine AnyE.ls (n := 82) 63 (by kernel_rfl) rfl ?_
    refine AnyE.tk aw8_tidy tok 6 59 127 (by kernel_rfl) (by kernel_rfl) (by cbv <;> rfl) (Eqv.refl _) ?_
    refine AnyE.many [7] (by kernel_rfl) (by rfl) ⟨?_, trivial⟩
    refine PickE.callE htal.ent (call_frz (fun _ => true) 3 htal (by rfl) ?_) (by cbv <;> rfl) (by cbv <;> rfl) ?_
    · refine .cons (Eqv.of rfl) (.cons (Eqv.agg (.cons (Eqv.isl rfl fun i j hi hj => ?_) (.cons (Eqv.isl rfl fun i j hi hj => ?_) (.cons (Eqv.of rfl) (.cons (Eqv.of rfl) (.cons (Eqv.of rfl) (.cons (Eqv.of rfl) .nil))))))) .nil)
      all_goals
        obtain rfl : j = 0 := by omega
        obtain rfl | rfl : i = 0 ∨ i = 1 := by omega
        all_goals exact Eqv.of rfl
    rintro r st' ⟨rfl, rfl⟩
    refine ⟨?_, ?_⟩
    · exact (by repeat (first | exact trivial | refine And.intro (by cbv <;> rfl) ?_))
    refine AnyE.ls (n := 82) 255 (by kernel_rfl) (show putAt aw8 7 _ _ = Fm.put _ (some 60) _ from rfl) ?_
    refine AnyE.tk aw8_tidy tok 8 61 511 (by kernel_rfl) (by kernel_rfl) (by cbv <;> rfl) (Eqv.refl _) ?_
    refine AnyE.tk aw8_tidy tok 9 62 1023 (by kernel_rfl) (by kernel_rfl) (by cbv <;> rfl) (Eqv.refl _) ?_
    refine AnyE.tk aw8_tidy tok 10 63 2047 (by kernel_rfl) (by kernel_rfl) (by cbv <;> rfl) (Eqv.refl _) ?_
    refine AnyE.tk aw8_tidy tok 11 64 4095 (by kernel_rfl) (by kernel_rfl) (by cbv <;> rfl) (Eqv.lit (by first | rfl | decide | simp [std])) ?_
    refine AnyE.tk aw8_tidy tok 12 65 8191 (by kernel_rfl) (by kernel_rfl) (by cbv <;> rfl) (Eqv.refl _) ?_
    refine AnyE.tk aw8_tidy tok 13 66 16383 (by kernel_rfl) (by kernel_rfl) (by cbv <;> rfl) (Eqv.refl _) ?_
    refine AnyE.tk aw8_tidy tok 14 67 32767 (by kernel_rfl) (by kernel_rfl) (by cbv <;> rfl) (Eqv.refl _) ?_
    refine AnyE.tk aw8_tidy tok 15 68 65535 (by kernel_rfl) (by kernel_rfl) (by cbv <;> rfl) (Eqv.refl _) ?_
    refine AnyE.tk aw8_tidy tok 16 69 131071 (by kernel_rfl) (by kernel_rfl) (by cbv <;> rfl) (Eqv.refl _) ?_
    refine AnyE.tk aw8_tidy tok 17 70 262143 (by kernel_rfl) (by kernel_rfl) (by cbv <;> rfl) (Eqv.lit (by first | rfl | decide | simp [std])) ?_
    refine AnyE.tk aw8_tidy tok 18 71 524287 (by kernel_rfl) (by kernel_rfl) (by cbv <;> rfl) (Eqv.refl _) ?_
    refine AnyE.tk aw8_tidy tok 19 72 1048575 (by kernel_rfl) (by kernel_rfl) (by cbv <;> rfl) (Eqv.refl _) ?_
    refine AnyE.tk aw8_tidy tok 20 73 2097151 (by kernel_rfl) (by kernel_rfl) (by cbv <;> rfl) (Eqv.refl _) ?_
    refine AnyE.tk aw8_tidy tok 21 74 4194303 (by kernel_rfl) (by kernel_rfl) (by cbv <;> rfl) (Eqv.refl _) ?_
    refine AnyE.tk aw8_tidy tok 22 75 8388607 (by kernel_rfl) (by kernel_rfl) (by cbv <;> rfl) (Eqv.refl _) ?_
    refine AnyE.tk aw8_tidy tok 23 76 16777215 (by kernel_rfl) (by kernel_rfl) (by cbv <;> rfl) (Eqv.refl _) ?_
    refine AnyE.many [24] (by kernel_rfl) (by rfl) ⟨?_, trivial⟩
    refine PickE.callQ hb0 (by cbv <;> rfl) (by cbv <;> rfl) ?_ ?_
    · exact (by repeat (first | exact trivial | refine And.intro (by cbv <;> rfl) ?_))
    refine AnyE.ls (n := 82) 33554431 (by kernel_rfl) (show putAt aw8 24 _ _ = Fm.put _ (some 77) _ from rfl) ?_
    refine AnyE.tk aw8_tidy tok 25 78 67108863 (by kernel_rfl) (by kernel_rfl) (by cbv <;> rfl) (Eqv.lit (by first | rfl | decide | simp [std])) ?_
    refine AnyE.tk aw8_tidy tok 26 79 134217727 (by kernel_rfl) (by kernel_rfl) (by cbv <;> rfl) (Eqv.refl _) ?_
    refine AnyE.tk aw8_tidy tok 27 80 268435455 (by kernel_rfl) (by kernel_rfl) (by cbv <;> rfl) (Eqv.refl _) ?_
    refine AnyE.tk aw8_tidy tok 28 81 536870911 (by kernel_rfl) (by kernel_rfl) (by cbv <;> rfl) (Eqv.refl _) ?_
    refine AnyE.tk aw8_tidy tok 29 82 1073741823 (by kernel_rfl) (by kernel_rfl) (by cbv <;> rfl) (Eqv.refl _) ?_
    refine AnyE.many [30] (by kernel_rfl) (by rfl) ⟨?_, trivial⟩
    refine PickE.callQ hb1 (by cbv <;> rfl) (by cbv <;> rfl) ?_ ?_
    · exact (by repeat (first | exact trivial | refine And.intro (by cbv <;> rfl) ?_))
    refine AnyE.ls (n := 82) 2147483647 (by kernel_rfl) (show putAt aw8 30 _ _ = Fm.put _ (some 83) _ from rfl) ?_
    refine AnyE.tk aw8_tidy tok 31 84 4294967295 (by kernel_rfl) (by kernel_rfl) (by cbv <;> rfl) (Eqv.lit (by first | rfl | decide | simp [std])) ?_
    refine AnyE.tk aw8_tidy tok 32 85 8589934591 (by kernel_rfl) (by kernel_rfl) (by cbv <;> rfl) (Eqv.refl _) ?_
    refine AnyE.tk aw8_tidy tok 33 86 17179869183 (by kernel_rfl) (by kernel_rfl) (by cbv <;> rfl) (Eqv.refl _) ?_
    refine AnyE.tk aw8_tidy tok 34 87 34359738367 (by kernel_rfl) (by kernel_rfl) (by cbv <;> rfl) (Eqv.refl _) ?_
    refine AnyE.tk aw8_tidy tok 35 88 68719476735 (by kernel_rfl) (by kernel_rfl) (by cbv <;> rfl) (Eqv.refl _) ?_
    refine AnyE.many [36] (by kernel_rfl) (by rfl) ⟨?_, trivial⟩
    refine PickE.callQ hb2 (by cbv <;> rfl) (by cbv <;> rfl) ?_ ?_
    · exact (by repeat (first | exact trivial | refine And.intro (by cbv <;> rfl) ?_))
    refine AnyE.ls (n := 82) 137438953471 (by kernel_rfl) (show putAt aw8 36 _ _ = Fm.put _ (some 89) _ from rfl) ?_
    refine AnyE.tk aw8_tidy tok 37 90 274877906943 (by kernel_rfl) (by kernel_rfl) (by cbv <;> rfl) (Eqv.lit (by first | rfl | decide | simp [std])) ?_
    refine AnyE.tk aw8_tidy tok 38 91 549755813887 (by kernel_rfl) (by kernel_rfl) (by cbv <;> rfl) (Eqv.refl _) ?_
    refine AnyE.tk aw8_tidy tok 39 92 1099511627775 (by kernel_rfl) (by kernel_rfl) (by cbv <;> rfl) (Eqv.refl _) ?_
    refine AnyE.tk aw8_tidy tok 40 93 2199023255551 (by kernel_rfl) (by kernel_rfl) (by cbv <;> rfl) (Eqv.refl _) ?_
    refine AnyE.tk aw8_tidy tok 41 94 4398046511103 (by kernel_rfl) (by kernel_rfl) (by cbv <;> rfl) (Eqv.lit (by first | rfl | decide | simp [std])) ?_
    refine AnyE.tk aw8_tidy tok 42 95 8796093022207 (by kernel_rfl) (by kernel_rfl) (by cbv <;> rfl) (Eqv.refl _) ?_
    refine AnyE.tk aw8_tidy tok 43 96 17592186044415 (by kernel_rfl) (by kernel_rfl) (by cbv <;> rfl) (Eqv.refl _) ?_
    refine AnyE.tk aw8_tidy tok 44 97 35184372088831 (by kernel_rfl) (by kernel_rfl) (by cbv <;> rfl) (Eqv.refl _) ?_
    refine AnyE.tk aw8_tidy tok 45 98 70368744177663 (by kernel_rfl) (by kernel_rfl) (by cbv <;> rfl) (Eqv.lit (by first | rfl | decide | simp [std])) ?_
    refine AnyE.tk aw8_tidy tok 46 99 140737488355327 (by kernel_rfl) (by kernel_rfl) (by cbv <;> rfl) (Eqv.refl _) ?_
    refine AnyE.tk aw8_tidy tok 47 100 281474976710655 (by kernel_rfl) (by kernel_rfl) (by cbv <;> rfl) (Eqv.refl _) ?_
    refine AnyE.tk aw8_tidy tok 48 101 562949953421311 (by kernel_rfl) (by kernel_rfl) (by cbv <;> rfl) (Eqv.refl _) ?_
    refine AnyE.tk aw8_tidy tok 49 102 1125899906842623 (by kernel_rfl) (by kernel_rfl) (by cbv <;> rfl) (Eqv.lit (by first | rfl | decide | simp [std])) ?_
    refine AnyE.tk aw8_tidy tok 50 103 2251799813685247 (by kernel_rfl) (by kernel_rfl) (by cbv <;> rfl) (Eqv.refl _) ?_
    refine AnyE.tk aw8_tidy tok 51 104 4503599627370495 (by kernel_rfl) (by kernel_rfl) (by cbv <;> rfl) (Eqv.refl _) ?_
    refine AnyE.tk aw8_tidy tok 52 105 9007199254740991 (by kernel_rfl) (by kernel_rfl) (by cbv <;> rfl) (Eqv.refl _) ?_
    refine AnyE.tk aw8_tidy tok 53 106 18014398509481983 (by kernel_rfl) (by kernel_rfl) (by cbv <;> rfl) (Eqv.lit (by first | rfl | decide | simp [std])) ?_
    refine AnyE.tk aw8_tidy tok 54 107 36028797018963967 (by kernel_rfl) (by kernel_rfl) (by cbv <;> rfl) (Eqv.refl _) ?_
    refine AnyE.tk aw8_tidy tok 55 108 72057594037927935 (by kernel_rfl) (by kernel_rfl) (by cbv <;> rfl) (Eqv.refl _) ?_
    refine AnyE.tk aw8_tidy tok 56 109 144115188075855871 (by kernel_rfl) (by kernel_rfl) (by cbv <;> rfl) (Eqv.refl _) ?_
    refine AnyE.tk aw8_tidy tok 57 110 288230376151711743 (by kernel_rfl) (by kernel_rfl) (by cbv <;> rfl) (Eqv.lit (by first | rfl | decide | simp [std])) ?_
    refine AnyE.tk aw8_tidy tok 58 111 576460752303423487 (by kernel_rfl) (by kernel_rfl) (by cbv <;> rfl) (Eqv.refl _) ?_
    refine AnyE.tk aw8_tidy tok 59 112 1152921504606846975 (by kernel_rfl) (by kernel_rfl) (by cbv <;> rfl) (Eqv.refl _) ?_
    refine AnyE.tk aw8_tidy tok 60 113 2305843009213693951 (by kernel_rfl) (by kernel_rfl) (by cbv <;> rfl) (Eqv.refl _) ?_
    refine AnyE.many [61] (by kernel_rfl) (by rfl) ⟨?_, trivial⟩
    refine PickE.eff tok hO (by cbv <;> rfl) (by cbv <;> rfl) (by trivial) ?_ ?_
    · exact (by repeat (first | exact trivial | refine And.intro (by cbv <;> rfl) ?_))
    refine AnyE.ls (n := 82) 4611686018427387903 (by kernel_rfl) rfl ?_
    refine AnyE.many [62] (by kernel_rfl) (by rfl) ⟨?_, trivial⟩
    refine PickE.callE hi0.ent (call_frz (fun _ => true) 3 hi0 (by rfl) ?_) (by cbv <;> rfl) (by cbv <;> rfl) ?_
    · refine .cons (Eqv.of rfl) (.cons (Eqv.isl rfl fun i j hi hj => ?_) .nil)
      obtain rfl : j = 0 := by omega
      obtain rfl : i = 0 := by omega
      exact Eqv.of rfl
    rintro r st' ⟨rfl, rfl⟩
    refine ⟨?_, ?_⟩
    · exact (by repeat (first | exact trivial | refine And.intro (by cbv <;> rfl) ?_))
    refine AnyE.ls (n := 82) 9223372036854775807 (by kernel_rfl) (show putAt aw8 62 _ _ = Fm.put _ (some 115) _ from rfl) ?_
    refine AnyE.tk aw8_tidy tok 63 116 18446744073709551615 (by kernel_rfl) (by kernel_rfl) (by cbv <;> rfl) (Eqv.refl _) ?_
    refine AnyE.tk aw8_tidy tok 64 117 36893488147419103231 (by kernel_rfl) (by kernel_rfl) (by cbv <;> rfl) (Eqv.refl _) ?_
    refine AnyE.tk aw8_tidy tok 65 118 73786976294838206463 (by kernel_rfl) (by kernel_rfl) (by cbv <;> rfl) (Eqv.refl _) ?_
    refine AnyE.tk aw8_tidy tok 66 119 147573952589676412927 (by kernel_rfl) (by kernel_rfl) (by cbv <;> rfl) (Eqv.lit (by first | rfl | decide | simp [std])) ?_
    refine AnyE.tk aw8_tidy tok 67 120 295147905179352825855 (by kernel_rfl) (by kernel_rfl) (by cbv <;> rfl) (Eqv.refl _) ?_
    refine AnyE.tk aw8_tidy tok 68 121 590295810358705651711 (by kernel_rfl) (by kernel_rfl) (by cbv <;> rfl) (Eqv.refl _) ?_
    refine AnyE.tk aw8_tidy tok 69 122 1180591620717411303423 (by kernel_rfl) (by kernel_rfl) (by cbv <;> rfl) (Eqv.refl _) ?_
    refine AnyE.tk aw8_tidy tok 70 123 2361183241434822606847 (by kernel_rfl) (by kernel_rfl) (by cbv <;> rfl) (Eqv.lit (by first | rfl | decide | simp [std])) ?_
    refine AnyE.tk aw8_tidy tok 71 124 4722366482869645213695 (by kernel_rfl) (by kernel_rfl) (by cbv <;> rfl) (Eqv.refl _) ?_
    refine AnyE.tk aw8_tidy tok 72 125 9444732965739290427391 (by kernel_rfl) (by kernel_rfl) (by cbv <;> rfl) (Eqv.refl _) ?_
    refine AnyE.tk aw8_tidy tok 73 126 18889465931478580854783 (by kernel_rfl) (by kernel_rfl) (by cbv <;> rfl) (Eqv.refl _) ?_
    refine AnyE.tk aw8_tidy tok 74 127 37778931862957161709567 (by kernel_rfl) (by kernel_rfl) (by cbv <;> rfl) (Eqv.lit (by first | rfl | decide | simp [std])) ?_
    refine AnyE.tk aw8_tidy tok 75 128 75557863725914323419135 (by kernel_rfl) (by kernel_rfl) (by cbv <;> rfl) (Eqv.refl _) ?_
    refine AnyE.tk aw8_tidy tok 76 129 151115727451828646838271 (by kernel_rfl) (by kernel_rfl) (by cbv <;> rfl) (Eqv.refl _) ?_
    refine AnyE.tk aw8_tidy tok 77 130 302231454903657293676543 (by kernel_rfl) (by kernel_rfl) (by cbv <;> rfl) (Eqv.refl _) ?_
    refine AnyE.many [78] (by kernel_rfl) (by rfl) ⟨?_, trivial⟩
    refine PickE.eff tok hO (by cbv <;> rfl) (by cbv <;> rfl) (by trivial) ?_ ?_
    · exact (by repeat (first | exact trivial | refine And.intro (by cbv <;> rfl) ?_))
    refine AnyE.ls (n := 82) 604462909807314587353087 (by kernel_rfl) rfl ?_
    refine AnyE.many [79] (by kernel_rfl) (by rfl) ⟨?_, trivial⟩
    refine PickE.callE hi1.ent (call_frz (fun _ => true) 3 hi1 (by rfl) ?_) (by cbv <;> rfl) (by cbv <;> rfl) ?_
    · refine .cons (Eqv.of rfl) (.cons (Eqv.isl rfl fun i j hi hj => ?_) .nil)
      obtain rfl : j = 0 := by omega
      obtain rfl : i = 0 := by omega
      exact Eqv.of rfl
    rintro r st' ⟨rfl, rfl⟩
    refine ⟨?_, ?_⟩
    · exact (by repeat (first | exact trivial | refine And.intro (by cbv <;> rfl) ?_))
    refine AnyE.ls (n := 82) 1208925819614629174706175 (by kernel_rfl) (show putAt aw8 79 _ _ = Fm.put _ (some 132) _ from rfl) ?_
    refine AnyE.tk aw8_tidy tok 80 133 2417851639229258349412351 (by kernel_rfl) (by kernel_rfl) (by cbv <;> rfl) (Eqv.refl _) ?_
    refine AnyE.tk aw8_tidy tok 81 0 4835703278458516698824703 (by kernel_rfl) (by kernel_rfl) (by cbv <;> rfl) (Eqv.refl _) ?_
    refine AnyE.done (by kernel_rfl) ?_
    exact SW.ret ⟨_, _, rfl, rfl, Eqv.refl _⟩
end Go.Fz
