/- Own work of the verifier of watercress: FzNm5. -/
import Derived.Test.YtpefamheopplnaaMm30
set_option linter.unusedVariables false
set_option linter.unusedSimpArgs false
namespace Go.Fz
open Go.Proofs
set_option maxRecDepth 100000
set_option linter.unusedVariables false
noncomputable def nm5P : {a : Array Oper // cL (cL (cR (cR (cR (cR (cR (bodyF Try.f7))))))) = .region 5 a true} := ⟨_, by rfl⟩
noncomputable def nm5A : Array Oper := nm5P.1
def nm5M : List Nat := [0, 1, 3, 7, 15, 7, 7, 103, 255, 511, 1023, 2047, 4095, 8191, 4095, 4095, 53247, 131071, 262143, 524287, 1048575, 2097151, 4194303, 2097151, 16777215, 33554431, 67108863, 134217727, 268435455, 134217727, 1073741823, 2147483647, 4294967295, 8589934591, 17179869183, 34359738367, 68719476735, 137438953471, 274877906943, 549755813887, 1099511627775, 2199023255551, 4398046511103, 8796093022207, 17592186044415, 35184372088831, 70368744177663, 140737488355327, 281474976710655, 562949953421311, 1125899906842623, 2251799813685247, 4503599627370495, 9007199254740991, 18014398509481983, 36028797018963967, 72057594037927935, 144115188075855871, 288230376151711743, 288230376151711743, 288230376151711743, 2017612633061982207, 4611686018427387903, 9223372036854775807, 18446744073709551615, 36893488147419103231, 73786976294838206463, 73786976294838206463, 73786976294838206463, 516508834063867445247, 1180591620717411303423, 2361183241434822606847]
theorem nm5_tidy : tidyB nm5A nm5M = true := by kernel_rfl
theorem nm5_size : nm5A.size = 72 := by kernel_rfl
set_option maxHeartbeats 32000000 in
theorem nm5_c (g : Nat → AV) (O : Ar) (hO : O = std) (K : Fm → St → Prop) (H : Hp) (hH : freeB H (fun _ => true) = true) (D1 : AV) (p q : Nat) (hp1 : Pure Try.prog 38 [D1, .agg [intsV 2 true (pick2 21 25), intsV 2 true (pick2 501 610)]] (.lit (.bool false))) (hA : Eqv (frz H (fun _ => true) 3 (.agg [.sl p 0 2 1 true, .sl q 0 2 1 true])) (.agg [intsV 2 true (pick2 21 25), intsV 2 true (pick2 501 610)]))
    (hDf : Eqv (frz H (fun _ => true) 3 D1) D1) (g109 : g 109 = .lit (.bool false)) (g110 : g 110 = D1) (g113 : g 113 = .agg [.sl p 0 2 1 true, .sl q 0 2 1 true]) (hK : ∀ g H, g 115 = .lit (.bool false) → K ⟨⟨274, g⟩, []⟩ ⟨H, 7⟩) :
    AnyE Try.prog T nm5A nm5M none K 2 [(69, .agg [.sl p 0 2 1 true, .sl q 0 2 1 true])] (lsB 72 1180591620717411303423) ⟨⟨274, g⟩, []⟩ ⟨H, 7⟩ := by
  rw [← updT_self g109, ← updT_self g110, ← updT_self g113]
  refine AnyE.many [70] (by kernel_rfl) (by rfl) ⟨?_, trivial⟩
  refine PickE.callE hp1.ent (call_frz (fun _ => true) 3 hp1 hH ?_) (by cbv <;> rfl) (by cbv <;> rfl) ?_
  · exact .cons hDf (.cons hA .nil)
  rintro r st' ⟨rfl, rfl⟩
  refine ⟨(by repeat (first | exact trivial | refine And.intro (by cbv <;> rfl) ?_)), ?_⟩
  refine AnyE.ls (n := 72) 2361183241434822606847 (by kernel_rfl) (show putAt nm5A 70 _ _ = Fm.put _ (some 114) _ from rfl) ?_
  refine AnyE.tkO nm5_tidy tok hO 71 115 4722366482869645213695 (by kernel_rfl) (by kernel_rfl) (by cbv <;> rfl) (by trivial) (Eqv.refl _) ?_
  refine AnyE.done (by kernel_rfl) ?_
  exact hK _ _ (by show _ = _; kernel_rfl)
set_option maxHeartbeats 32000000 in
theorem nm5_b (g : Nat → AV) (O : Ar) (hO : O = std) (K : Fm → St → Prop) (H : Hp) (hH : freeB H (fun _ => true) = true) (D1 : AV) (p q : Nat) (hd1 : Pure Try.prog 35 [iV 1] D1) (hp0 : Pure Try.prog 38 [D1, .agg [intsV 2 true (pick2 20 25), intsV 2 true (pick2 501 610)]] (.lit (.bool true)))
    (hp1 : Pure Try.prog 38 [D1, .agg [intsV 2 true (pick2 21 25), intsV 2 true (pick2 501 610)]] (.lit (.bool false))) (hA : Eqv (frz H (fun _ => true) 3 (.agg [.sl p 0 2 1 true, .sl q 0 2 1 true])) (.agg [intsV 2 true (pick2 20 25), intsV 2 true (pick2 501 610)]))
    (hDf : ∀ H : Hp, Eqv (frz H (fun _ => true) 3 D1) D1) (g101 : g 101 = .lit (.bool false)) (g102 : g 102 = D1) (g105 : g 105 = .agg [.sl p 0 2 1 true, .sl q 0 2 1 true]) (hK : ∀ g H, g 115 = .lit (.bool false) → K ⟨⟨274, g⟩, []⟩ ⟨H, 7⟩) :
    AnyE Try.prog T nm5A nm5M none K 10 [(61, .agg [.sl p 0 2 1 true, .sl q 0 2 1 true])] (lsB 72 4611686018427387903) ⟨⟨274, g⟩, []⟩ ⟨H, 5⟩ := by
  rw [← updT_self g101, ← updT_self g102, ← updT_self g105]
  refine AnyE.many [62] (by kernel_rfl) (by rfl) ⟨?_, trivial⟩
  refine PickE.callE hp0.ent (call_frz (fun _ => true) 3 hp0 hH ?_) (by cbv <;> rfl) (by cbv <;> rfl) ?_
  · exact .cons (hDf _) (.cons hA .nil)
  rintro r st' ⟨rfl, rfl⟩
  refine ⟨(by repeat (first | exact trivial | refine And.intro (by cbv <;> rfl) ?_)), ?_⟩
  refine AnyE.ls (n := 72) 9223372036854775807 (by kernel_rfl) (show putAt nm5A 62 _ _ = Fm.put _ (some 106) _ from rfl) ?_
  refine AnyE.tkO nm5_tidy tok hO 63 107 18446744073709551615 (by kernel_rfl) (by kernel_rfl) (by cbv <;> rfl) (by trivial) (Eqv.refl _) ?_
  refine AnyE.tkO nm5_tidy tok hO 64 108 36893488147419103231 (by kernel_rfl) (by kernel_rfl) (by cbv <;> rfl) (by trivial) (Eqv.refl _) ?_
  refine AnyE.tkO nm5_tidy tok hO 65 109 73786976294838206463 (by kernel_rfl) (by kernel_rfl) (by cbv <;> rfl) (by trivial) (Eqv.refl _) ?_
  refine AnyE.many [66, 67, 68] (by kernel_rfl) (by rfl) ⟨?_, ?_, ?_, trivial⟩
  · refine PickE.callQ hd1 (by cbv <;> rfl) (by cbv <;> rfl) (by repeat (first | exact trivial | refine And.intro (by cbv <;> rfl) ?_)) ?_
    refine AnyE.ls (n := 72) 147573952589676412927 (by kernel_rfl) (show putAt nm5A 66 _ _ = Fm.put _ (some 110) _ from rfl) ?_
    refine AnyE.many [67, 68] (by kernel_rfl) (by rfl) ⟨?_, ?_, trivial⟩
    · refine PickE.eff tok hO (by cbv <;> rfl) (by cbv <;> rfl) (by trivial) ?_ ?_
      · exact (by repeat (first | exact trivial | refine And.intro (by cbv <;> rfl) ?_))
      refine AnyE.ls (n := 72) 295147905179352825855 (by kernel_rfl) rfl ?_
      refine AnyE.efB tok hO 68 590295810358705651711 (by kernel_rfl) (by cbv <;> rfl) (by cbv <;> rfl) (by trivial) (by kernel_rfl) (by repeat (first | exact trivial | refine And.intro (by cbv <;> rfl) ?_)) ?_
      refine AnyE.tkO nm5_tidy tok hO 69 113 1180591620717411303423 (by kernel_rfl) (by kernel_rfl) (by cbv <;> rfl) (by trivial) (Eqv.refl _) ?_
      refine nm5_c _ O hO K _ ?_ D1 5 6 hp1 ?_ (hDf _) ?_ ?_ ?_ hK
      · exact hH
      · exact Eqv.agg (.cons (by (first | refine Eqv.isl rfl fun i j hi hj => ?_ | refine Eqv.trans Eqv.islX (Eqv.isl rfl fun i j hi hj => ?_)) <;> (obtain rfl | rfl : i = 0 ∨ i = 1 := by omega) <;> (obtain rfl : j = 0 := by omega) <;> exact Eqv.of rfl) (.cons (by (first | refine Eqv.isl rfl fun i j hi hj => ?_ | refine Eqv.trans Eqv.islX (Eqv.isl rfl fun i j hi hj => ?_)) <;> (obtain rfl | rfl : i = 0 ∨ i = 1 := by omega) <;> (obtain rfl : j = 0 := by omega) <;> exact Eqv.of rfl) .nil))
      · show _ = _; kernel_rfl
      · show _ = _; kernel_rfl
      · show _ = _; kernel_rfl
    · refine PickE.eff tok hO (by cbv <;> rfl) (by cbv <;> rfl) (by trivial) ?_ ?_
      · exact (by repeat (first | exact trivial | refine And.intro (by cbv <;> rfl) ?_))
      refine AnyE.ls (n := 72) 442721857769029238783 (by kernel_rfl) rfl ?_
      refine AnyE.efB tok hO 67 590295810358705651711 (by kernel_rfl) (by cbv <;> rfl) (by cbv <;> rfl) (by trivial) (by kernel_rfl) (by repeat (first | exact trivial | refine And.intro (by cbv <;> rfl) ?_)) ?_
      refine AnyE.tkO nm5_tidy tok hO 69 113 1180591620717411303423 (by kernel_rfl) (by kernel_rfl) (by cbv <;> rfl) (by trivial) (Eqv.refl _) ?_
      refine nm5_c _ O hO K _ ?_ D1 6 5 hp1 ?_ (hDf _) ?_ ?_ ?_ hK
      · exact hH
      · exact Eqv.agg (.cons (by (first | refine Eqv.isl rfl fun i j hi hj => ?_ | refine Eqv.trans Eqv.islX (Eqv.isl rfl fun i j hi hj => ?_)) <;> (obtain rfl | rfl : i = 0 ∨ i = 1 := by omega) <;> (obtain rfl : j = 0 := by omega) <;> exact Eqv.of rfl) (.cons (by (first | refine Eqv.isl rfl fun i j hi hj => ?_ | refine Eqv.trans Eqv.islX (Eqv.isl rfl fun i j hi hj => ?_)) <;> (obtain rfl | rfl : i = 0 ∨ i = 1 := by omega) <;> (obtain rfl : j = 0 := by omega) <;> exact Eqv.of rfl) .nil))
      · show _ = _; kernel_rfl
      · show _ = _; kernel_rfl
      · show _ = _; kernel_rfl
  · refine PickE.eff tok hO (by cbv <;> rfl) (by cbv <;> rfl) (by trivial) ?_ ?_
    · exact (by repeat (first | exact trivial | refine And.intro (by cbv <;> rfl) ?_))
    refine AnyE.ls (n := 72) 221360928884514619391 (by kernel_rfl) rfl ?_
    refine AnyE.many [66, 68] (by kernel_rfl) (by rfl) ⟨?_, ?_, trivial⟩
    · refine PickE.callQ hd1 (by cbv <;> rfl) (by cbv <;> rfl) (by repeat (first | exact trivial | refine And.intro (by cbv <;> rfl) ?_)) ?_
      refine AnyE.ls (n := 72) 295147905179352825855 (by kernel_rfl) (show putAt nm5A 66 _ _ = Fm.put _ (some 110) _ from rfl) ?_
      refine AnyE.efB tok hO 68 590295810358705651711 (by kernel_rfl) (by cbv <;> rfl) (by cbv <;> rfl) (by trivial) (by kernel_rfl) (by repeat (first | exact trivial | refine And.intro (by cbv <;> rfl) ?_)) ?_
      refine AnyE.tkO nm5_tidy tok hO 69 113 1180591620717411303423 (by kernel_rfl) (by kernel_rfl) (by cbv <;> rfl) (by trivial) (Eqv.refl _) ?_
      refine nm5_c _ O hO K _ ?_ D1 5 6 hp1 ?_ (hDf _) ?_ ?_ ?_ hK
      · exact hH
      · exact Eqv.agg (.cons (by (first | refine Eqv.isl rfl fun i j hi hj => ?_ | refine Eqv.trans Eqv.islX (Eqv.isl rfl fun i j hi hj => ?_)) <;> (obtain rfl | rfl : i = 0 ∨ i = 1 := by omega) <;> (obtain rfl : j = 0 := by omega) <;> exact Eqv.of rfl) (.cons (by (first | refine Eqv.isl rfl fun i j hi hj => ?_ | refine Eqv.trans Eqv.islX (Eqv.isl rfl fun i j hi hj => ?_)) <;> (obtain rfl | rfl : i = 0 ∨ i = 1 := by omega) <;> (obtain rfl : j = 0 := by omega) <;> exact Eqv.of rfl) .nil))
      · show _ = _; kernel_rfl
      · show _ = _; kernel_rfl
      · show _ = _; kernel_rfl
    · refine PickE.eff tok hO (by cbv <;> rfl) (by cbv <;> rfl) (by trivial) ?_ ?_
      · exact (by repeat (first | exact trivial | refine And.intro (by cbv <;> rfl) ?_))
      refine AnyE.ls (n := 72) 516508834063867445247 (by kernel_rfl) rfl ?_
      refine AnyE.tkO nm5_tidy tok hO 69 113 1106804644422573096959 (by kernel_rfl) (by kernel_rfl) (by cbv <;> rfl) (by trivial) (Eqv.refl _) ?_
      refine AnyE.cpN hd1 66 110 1180591620717411303423 (by kernel_rfl) (by kernel_rfl) (by cbv <;> rfl) (by cbv <;> rfl) (by kernel_rfl) rfl ?_
      refine nm5_c _ O hO K _ ?_ D1 5 6 hp1 ?_ (hDf _) ?_ ?_ ?_ hK
      · exact hH
      · exact Eqv.agg (.cons (by (first | refine Eqv.isl rfl fun i j hi hj => ?_ | refine Eqv.trans Eqv.islX (Eqv.isl rfl fun i j hi hj => ?_)) <;> (obtain rfl | rfl : i = 0 ∨ i = 1 := by omega) <;> (obtain rfl : j = 0 := by omega) <;> exact Eqv.of rfl) (.cons (by (first | refine Eqv.isl rfl fun i j hi hj => ?_ | refine Eqv.trans Eqv.islX (Eqv.isl rfl fun i j hi hj => ?_)) <;> (obtain rfl | rfl : i = 0 ∨ i = 1 := by omega) <;> (obtain rfl : j = 0 := by omega) <;> exact Eqv.of rfl) .nil))
      · show _ = _; kernel_rfl
      · show _ = _; kernel_rfl
      · show _ = _; kernel_rfl
  · refine PickE.eff tok hO (by cbv <;> rfl) (by cbv <;> rfl) (by trivial) ?_ ?_
    · exact (by repeat (first | exact trivial | refine And.intro (by cbv <;> rfl) ?_))
    refine AnyE.ls (n := 72) 368934881474191032319 (by kernel_rfl) rfl ?_
    refine AnyE.many [66, 67] (by kernel_rfl) (by rfl) ⟨?_, ?_, trivial⟩
    · refine PickE.callQ hd1 (by cbv <;> rfl) (by cbv <;> rfl) (by repeat (first | exact trivial | refine And.intro (by cbv <;> rfl) ?_)) ?_
      refine AnyE.ls (n := 72) 442721857769029238783 (by kernel_rfl) (show putAt nm5A 66 _ _ = Fm.put _ (some 110) _ from rfl) ?_
      refine AnyE.efB tok hO 67 590295810358705651711 (by kernel_rfl) (by cbv <;> rfl) (by cbv <;> rfl) (by trivial) (by kernel_rfl) (by repeat (first | exact trivial | refine And.intro (by cbv <;> rfl) ?_)) ?_
      refine AnyE.tkO nm5_tidy tok hO 69 113 1180591620717411303423 (by kernel_rfl) (by kernel_rfl) (by cbv <;> rfl) (by trivial) (Eqv.refl _) ?_
      refine nm5_c _ O hO K _ ?_ D1 6 5 hp1 ?_ (hDf _) ?_ ?_ ?_ hK
      · exact hH
      · exact Eqv.agg (.cons (by (first | refine Eqv.isl rfl fun i j hi hj => ?_ | refine Eqv.trans Eqv.islX (Eqv.isl rfl fun i j hi hj => ?_)) <;> (obtain rfl | rfl : i = 0 ∨ i = 1 := by omega) <;> (obtain rfl : j = 0 := by omega) <;> exact Eqv.of rfl) (.cons (by (first | refine Eqv.isl rfl fun i j hi hj => ?_ | refine Eqv.trans Eqv.islX (Eqv.isl rfl fun i j hi hj => ?_)) <;> (obtain rfl | rfl : i = 0 ∨ i = 1 := by omega) <;> (obtain rfl : j = 0 := by omega) <;> exact Eqv.of rfl) .nil))
      · show _ = _; kernel_rfl
      · show _ = _; kernel_rfl
      · show _ = _; kernel_rfl
    · refine PickE.eff tok hO (by cbv <;> rfl) (by cbv <;> rfl) (by trivial) ?_ ?_
      · exact (by repeat (first | exact trivial | refine And.intro (by cbv <;> rfl) ?_))
      refine AnyE.ls (n := 72) 516508834063867445247 (by kernel_rfl) rfl ?_
      refine AnyE.tkO nm5_tidy tok hO 69 113 1106804644422573096959 (by kernel_rfl) (by kernel_rfl) (by cbv <;> rfl) (by trivial) (Eqv.refl _) ?_
      refine AnyE.cpN hd1 66 110 1180591620717411303423 (by kernel_rfl) (by kernel_rfl) (by cbv <;> rfl) (by cbv <;> rfl) (by kernel_rfl) rfl ?_
      refine nm5_c _ O hO K _ ?_ D1 6 5 hp1 ?_ (hDf _) ?_ ?_ ?_ hK
      · exact hH
      · exact Eqv.agg (.cons (by (first | refine Eqv.isl rfl fun i j hi hj => ?_ | refine Eqv.trans Eqv.islX (Eqv.isl rfl fun i j hi hj => ?_)) <;> (obtain rfl | rfl : i = 0 ∨ i = 1 := by omega) <;> (obtain rfl : j = 0 := by omega) <;> exact Eqv.of rfl) (.cons (by (first | refine Eqv.isl rfl fun i j hi hj => ?_ | refine Eqv.trans Eqv.islX (Eqv.isl rfl fun i j hi hj => ?_)) <;> (obtain rfl | rfl : i = 0 ∨ i = 1 := by omega) <;> (obtain rfl : j = 0 := by omega) <;> exact Eqv.of rfl) .nil))
      · show _ = _; kernel_rfl
      · show _ = _; kernel_rfl
      · show _ = _; kernel_rfl
set_option maxHeartbeats 64000000 in
theorem nm_5 (g : Nat → AV) (O : Ar) (hO : O = std) (X : Nat → Nat → AV) (xa xb xe xf : Int) (h : AllP (fun p => g p.1 = p.2) ([(1, .ptr 0 0), (2, iV 0), (3, iV 2), (4, iV 0), (5, iV 1), (6, iV 0), (7, .isl 0 1 false (intC (fun _ => 0))), (8, iV 0)] : List (Nat × AV))) :
    SW Try.prog none (nthC 5 (bodyF Try.f7)) (midK 274 ([] : List (Nat × AV)) ⟨[], 7⟩) ⟨⟨274, g⟩, []⟩ ⟨[(0, .cells none false [.isl 2 2 false (rngC (pick2 20 25) (pick2 22 25)), .isl 2 2 false (rngC (pick2 22 24) (pick2 25 24)), .isl 2 2 false X, iV xa, iV xb, iV 1, iV 5, iV xe, iV xf, iV 0, iV 3])], 1⟩ := by
  obtain ⟨g1, g2, g3, g4, g5, g6, g7, g8, _⟩ := h
  simp only at g1 g2 g3 g4 g5 g6 g7 g8
  rw [← updT_self g1, ← updT_self g2, ← updT_self g3, ← updT_self g4, ← updT_self g5, ← updT_self g6, ← updT_self g7, ← updT_self g8]
  have hr0 := nm_rng 20 25 22 25
  have hr1 := nm_rng 22 24 25 24
  have hb15 := between_ok 1 5
  have hb03 := between_ok 0 3
  have hd1 := two_ok1
  have hp0 := nm_prove20
  have hp1 := nm_prove21
  have hDf : ∀ H : Hp, Eqv (frz H (fun _ => true) 3 (dayV (twoD 1))) (dayV (twoD 1)) := fun H => Eqv.of rfl
  generalize dayV (twoD 1) = D1 at hd1 hp0 hp1 hDf
  refine SW.ren ?_
  refine SW.seq ?_
  have hK : ∀ (Q : Exit → Fm → St → Prop) g H, (∀ e f st, Q e f st ↔ ∃ ρ f2 st2, WeakR 1 ρ f st f2 st2 ∧ midK 274 ([] : List (Nat × AV)) ⟨[], 7⟩ e f2 st2) → g 115 = .lit (.bool false) → SW Try.prog none (cR (cL (cR (cR (cR (cR (cR (bodyF Try.f7)))))))) Q ⟨⟨274, g⟩, []⟩ ⟨H, 7⟩ := fun Q g H hQ hg => by
    show SW Try.prog none (.cond _ _ .skip) Q _ _
    refine SW.condS (t := false) (by show boolOf (g 115) = some false; rw [hg]; rfl) (fun h => absurd h (by decide)) (fun _ => SW.skip ?_)
    rw [hQ]
    exact ⟨tabR [], ⟨⟨274, getT []⟩, []⟩, ⟨[], 7⟩, WeakR.tab rfl rfl (by simp) (by rfl) (by show 1 ≤ 7; omega) (by rfl) trivial trivial, rfl, _, rfl, trivial, rfl⟩
  have hK := fun g H => hK _ g H (fun e f st => Iff.rfl)
  refine (show SW Try.prog none (.region 5 nm5A true) _ _ _ from ?_)
  refine SW.drawnB tok (M := nm5M) mixed 72 nm5_tidy nm5_size (by kernel_rfl) ?_
  refine AnyE.tkO nm5_tidy tok hO 0 44 1 (by kernel_rfl) (by kernel_rfl) (by cbv <;> rfl) (by trivial) (Eqv.refl _) ?_
  refine AnyE.tkO nm5_tidy tok hO 1 45 3 (r := .lit (.bool false)) (by kernel_rfl) (by kernel_rfl) (by cbv <;> rfl) (by trivial) (Eqv.lit (by subst hO; first | rfl | decide | simp [std])) ?_
  refine AnyE.tkO nm5_tidy tok hO 2 46 7 (by kernel_rfl) (by kernel_rfl) (by cbv <;> rfl) (by trivial) (Eqv.refl _) ?_
  refine AnyE.tkO nm5_tidy tok hO 3 47 15 (by kernel_rfl) (by kernel_rfl) (by cbv <;> rfl) (by trivial) (Eqv.refl _) ?_
  refine AnyE.tkO nm5_tidy tok hO 4 48 31 (by kernel_rfl) (by kernel_rfl) (by cbv <;> rfl) (by trivial) (Eqv.refl _) ?_
  refine AnyE.tkO nm5_tidy tok hO 5 49 63 (by kernel_rfl) (by kernel_rfl) (by cbv <;> rfl) (by trivial) (Eqv.refl _) ?_
  refine AnyE.tkO nm5_tidy tok hO 6 50 127 (by kernel_rfl) (by kernel_rfl) (by cbv <;> rfl) (by trivial) (Eqv.refl _) ?_
  refine AnyE.efB tok hO 7 255 (by kernel_rfl) (by cbv <;> rfl) (by cbv <;> rfl) (by trivial) (by kernel_rfl) (by repeat (first | exact trivial | refine And.intro (by cbv <;> rfl) ?_)) ?_
  refine AnyE.many [8] (by kernel_rfl) (by rfl) ⟨?_, trivial⟩
  refine PickE.callE hr0.ent (call_frz (fun _ => true) 3 hr0 (by rfl) ?_) (by cbv <;> rfl) (by cbv <;> rfl) ?_
  · exact .cons (Eqv.of rfl) (.cons (by (first | refine Eqv.isl rfl fun i j hi hj => ?_ | refine Eqv.trans Eqv.islX (Eqv.isl rfl fun i j hi hj => ?_)) <;> (obtain rfl | rfl : i = 0 ∨ i = 1 := by omega) <;> (obtain rfl | rfl : j = 0 ∨ j = 1 := by omega) <;> exact Eqv.of rfl) .nil)
  rintro r st' ⟨rfl, rfl⟩
  refine ⟨(by repeat (first | exact trivial | refine And.intro (by cbv <;> rfl) ?_)), ?_⟩
  refine AnyE.ls (n := 72) 511 (by kernel_rfl) (show putAt nm5A 8 _ _ = Fm.put _ (some 52) _ from rfl) ?_
  refine AnyE.tkO nm5_tidy tok hO 9 53 1023 (by kernel_rfl) (by kernel_rfl) (by cbv <;> rfl) (by trivial) (Eqv.refl _) ?_
  refine AnyE.tkO nm5_tidy tok hO 10 54 2047 (by kernel_rfl) (by kernel_rfl) (by cbv <;> rfl) (by trivial) (Eqv.refl _) ?_
  refine AnyE.tkO nm5_tidy tok hO 11 55 4095 (by kernel_rfl) (by kernel_rfl) (by cbv <;> rfl) (by trivial) (Eqv.refl _) ?_
  refine AnyE.tkO nm5_tidy tok hO 12 56 8191 (by kernel_rfl) (by kernel_rfl) (by cbv <;> rfl) (by trivial) (Eqv.refl _) ?_
  refine AnyE.tkO nm5_tidy tok hO 13 57 16383 (by kernel_rfl) (by kernel_rfl) (by cbv <;> rfl) (by trivial) (Eqv.refl _) ?_
  refine AnyE.tkO nm5_tidy tok hO 14 58 32767 (by kernel_rfl) (by kernel_rfl) (by cbv <;> rfl) (by trivial) (Eqv.refl _) ?_
  refine AnyE.tkO nm5_tidy tok hO 15 59 65535 (by kernel_rfl) (by kernel_rfl) (by cbv <;> rfl) (by trivial) (Eqv.refl _) ?_
  refine AnyE.efB tok hO 16 131071 (by kernel_rfl) (by cbv <;> rfl) (by cbv <;> rfl) (by trivial) (by kernel_rfl) (by repeat (first | exact trivial | refine And.intro (by cbv <;> rfl) ?_)) ?_
  refine AnyE.many [17] (by kernel_rfl) (by rfl) ⟨?_, trivial⟩
  refine PickE.callE hr1.ent (call_frz (fun _ => true) 3 hr1 (by rfl) ?_) (by cbv <;> rfl) (by cbv <;> rfl) ?_
  · exact .cons (Eqv.of rfl) (.cons (by (first | refine Eqv.isl rfl fun i j hi hj => ?_ | refine Eqv.trans Eqv.islX (Eqv.isl rfl fun i j hi hj => ?_)) <;> (obtain rfl | rfl : i = 0 ∨ i = 1 := by omega) <;> (obtain rfl | rfl : j = 0 ∨ j = 1 := by omega) <;> exact Eqv.of rfl) .nil)
  rintro r st' ⟨rfl, rfl⟩
  refine ⟨(by repeat (first | exact trivial | refine And.intro (by cbv <;> rfl) ?_)), ?_⟩
  refine AnyE.ls (n := 72) 262143 (by kernel_rfl) (show putAt nm5A 17 _ _ = Fm.put _ (some 61) _ from rfl) ?_
  refine AnyE.tkO nm5_tidy tok hO 18 62 524287 (by kernel_rfl) (by kernel_rfl) (by cbv <;> rfl) (by trivial) (Eqv.refl _) ?_
  refine AnyE.tkO nm5_tidy tok hO 19 63 1048575 (by kernel_rfl) (by kernel_rfl) (by cbv <;> rfl) (by trivial) (Eqv.refl _) ?_
  refine AnyE.tkO nm5_tidy tok hO 20 64 2097151 (by kernel_rfl) (by kernel_rfl) (by cbv <;> rfl) (by trivial) (Eqv.refl _) ?_
  refine AnyE.tkO nm5_tidy tok hO 21 65 4194303 (by kernel_rfl) (by kernel_rfl) (by cbv <;> rfl) (by trivial) (Eqv.refl _) ?_
  refine AnyE.tkO nm5_tidy tok hO 22 66 8388607 (by kernel_rfl) (by kernel_rfl) (by cbv <;> rfl) (by trivial) (Eqv.refl _) ?_
  refine AnyE.cpN hb15 23 67 16777215 (by kernel_rfl) (by kernel_rfl) (by cbv <;> rfl) (by cbv <;> rfl) (by kernel_rfl) rfl ?_
  refine AnyE.tkO nm5_tidy tok hO 24 68 33554431 (r := .lit (.bool false)) (by kernel_rfl) (by kernel_rfl) (by cbv <;> rfl) (by trivial) (Eqv.lit (by subst hO; first | rfl | decide | simp [std])) ?_
  refine AnyE.tkO nm5_tidy tok hO 25 69 67108863 (by kernel_rfl) (by kernel_rfl) (by cbv <;> rfl) (by trivial) (Eqv.refl _) ?_
  refine AnyE.tkO nm5_tidy tok hO 26 70 134217727 (by kernel_rfl) (by kernel_rfl) (by cbv <;> rfl) (by trivial) (Eqv.refl _) ?_
  refine AnyE.tkO nm5_tidy tok hO 27 71 268435455 (by kernel_rfl) (by kernel_rfl) (by cbv <;> rfl) (by trivial) (Eqv.refl _) ?_
  refine AnyE.tkO nm5_tidy tok hO 28 72 536870911 (by kernel_rfl) (by kernel_rfl) (by cbv <;> rfl) (by trivial) (Eqv.refl _) ?_
  refine AnyE.cpN hb03 29 73 1073741823 (by kernel_rfl) (by kernel_rfl) (by cbv <;> rfl) (by cbv <;> rfl) (by kernel_rfl) rfl ?_
  refine AnyE.tkO nm5_tidy tok hO 30 74 2147483647 (r := .lit (.bool false)) (by kernel_rfl) (by kernel_rfl) (by cbv <;> rfl) (by trivial) (Eqv.lit (by subst hO; first | rfl | decide | simp [std])) ?_
  refine AnyE.tkO nm5_tidy tok hO 31 75 4294967295 (by kernel_rfl) (by kernel_rfl) (by cbv <;> rfl) (by trivial) (Eqv.refl _) ?_
  refine AnyE.tkO nm5_tidy tok hO 32 76 8589934591 (by kernel_rfl) (by kernel_rfl) (by cbv <;> rfl) (by trivial) (Eqv.refl _) ?_
  refine AnyE.tkO nm5_tidy tok hO 33 77 17179869183 (by kernel_rfl) (by kernel_rfl) (by cbv <;> rfl) (by trivial) (Eqv.refl _) ?_
  refine AnyE.tkO nm5_tidy tok hO 34 78 34359738367 (r := .lit (.bool false)) (by kernel_rfl) (by kernel_rfl) (by cbv <;> rfl) (by trivial) (Eqv.lit (by subst hO; first | rfl | decide | simp [std])) ?_
  refine AnyE.tkO nm5_tidy tok hO 35 79 68719476735 (by kernel_rfl) (by kernel_rfl) (by cbv <;> rfl) (by trivial) (Eqv.refl _) ?_
  refine AnyE.tkO nm5_tidy tok hO 36 80 137438953471 (by kernel_rfl) (by kernel_rfl) (by cbv <;> rfl) (by trivial) (Eqv.refl _) ?_
  refine AnyE.tkO nm5_tidy tok hO 37 81 274877906943 (by kernel_rfl) (by kernel_rfl) (by cbv <;> rfl) (by trivial) (Eqv.refl _) ?_
  refine AnyE.tkO nm5_tidy tok hO 38 82 549755813887 (r := .lit (.bool false)) (by kernel_rfl) (by kernel_rfl) (by cbv <;> rfl) (by trivial) (Eqv.lit (by subst hO; first | rfl | decide | simp [std])) ?_
  refine AnyE.tkO nm5_tidy tok hO 39 83 1099511627775 (by kernel_rfl) (by kernel_rfl) (by cbv <;> rfl) (by trivial) (Eqv.refl _) ?_
  refine AnyE.tkO nm5_tidy tok hO 40 84 2199023255551 (by kernel_rfl) (by kernel_rfl) (by cbv <;> rfl) (by trivial) (Eqv.refl _) ?_
  refine AnyE.tkO nm5_tidy tok hO 41 85 4398046511103 (by kernel_rfl) (by kernel_rfl) (by cbv <;> rfl) (by trivial) (Eqv.refl _) ?_
  refine AnyE.tkO nm5_tidy tok hO 42 86 8796093022207 (r := .lit (.bool false)) (by kernel_rfl) (by kernel_rfl) (by cbv <;> rfl) (by trivial) (Eqv.lit (by subst hO; first | rfl | decide | simp [std])) ?_
  refine AnyE.tkO nm5_tidy tok hO 43 87 17592186044415 (by kernel_rfl) (by kernel_rfl) (by cbv <;> rfl) (by trivial) (Eqv.refl _) ?_
  refine AnyE.tkO nm5_tidy tok hO 44 88 35184372088831 (by kernel_rfl) (by kernel_rfl) (by cbv <;> rfl) (by trivial) (Eqv.refl _) ?_
  refine AnyE.tkO nm5_tidy tok hO 45 89 70368744177663 (by kernel_rfl) (by kernel_rfl) (by cbv <;> rfl) (by trivial) (Eqv.refl _) ?_
  refine AnyE.tkO nm5_tidy tok hO 46 90 140737488355327 (r := .lit (.bool false)) (by kernel_rfl) (by kernel_rfl) (by cbv <;> rfl) (by trivial) (Eqv.lit (by subst hO; first | rfl | decide | simp [std])) ?_
  refine AnyE.tkO nm5_tidy tok hO 47 91 281474976710655 (by kernel_rfl) (by kernel_rfl) (by cbv <;> rfl) (by trivial) (Eqv.refl _) ?_
  refine AnyE.tkO nm5_tidy tok hO 48 92 562949953421311 (by kernel_rfl) (by kernel_rfl) (by cbv <;> rfl) (by trivial) (Eqv.refl _) ?_
  refine AnyE.tkO nm5_tidy tok hO 49 93 1125899906842623 (by kernel_rfl) (by kernel_rfl) (by cbv <;> rfl) (by trivial) (Eqv.refl _) ?_
  refine AnyE.tkO nm5_tidy tok hO 50 94 2251799813685247 (r := .lit (.bool false)) (by kernel_rfl) (by kernel_rfl) (by cbv <;> rfl) (by trivial) (Eqv.lit (by subst hO; first | rfl | decide | simp [std])) ?_
  refine AnyE.tkO nm5_tidy tok hO 51 95 4503599627370495 (by kernel_rfl) (by kernel_rfl) (by cbv <;> rfl) (by trivial) (Eqv.refl _) ?_
  refine AnyE.tkO nm5_tidy tok hO 52 96 9007199254740991 (by kernel_rfl) (by kernel_rfl) (by cbv <;> rfl) (by trivial) (Eqv.refl _) ?_
  refine AnyE.tkO nm5_tidy tok hO 53 97 18014398509481983 (by kernel_rfl) (by kernel_rfl) (by cbv <;> rfl) (by trivial) (Eqv.refl _) ?_
  refine AnyE.tkO nm5_tidy tok hO 54 98 36028797018963967 (by kernel_rfl) (by kernel_rfl) (by cbv <;> rfl) (by trivial) (Eqv.refl _) ?_
  refine AnyE.tkO nm5_tidy tok hO 55 99 72057594037927935 (r := .lit (.bool false)) (by kernel_rfl) (by kernel_rfl) (by cbv <;> rfl) (by trivial) (Eqv.lit (by subst hO; first | rfl | decide | simp [std])) ?_
  refine AnyE.tkO nm5_tidy tok hO 56 100 144115188075855871 (by kernel_rfl) (by kernel_rfl) (by cbv <;> rfl) (by trivial) (Eqv.refl _) ?_
  refine AnyE.tkO nm5_tidy tok hO 57 101 288230376151711743 (by kernel_rfl) (by kernel_rfl) (by cbv <;> rfl) (by trivial) (Eqv.refl _) ?_
  refine AnyE.many [58, 59, 60] (by kernel_rfl) (by rfl) ⟨?_, ?_, ?_, trivial⟩
  · refine PickE.callQ hd1 (by cbv <;> rfl) (by cbv <;> rfl) (by repeat (first | exact trivial | refine And.intro (by cbv <;> rfl) ?_)) ?_
    refine AnyE.ls (n := 72) 576460752303423487 (by kernel_rfl) (show putAt nm5A 58 _ _ = Fm.put _ (some 102) _ from rfl) ?_
    refine AnyE.many [59, 60] (by kernel_rfl) (by rfl) ⟨?_, ?_, trivial⟩
    · refine PickE.eff tok hO (by cbv <;> rfl) (by cbv <;> rfl) (by trivial) ?_ ?_
      · exact (by repeat (first | exact trivial | refine And.intro (by cbv <;> rfl) ?_))
      refine AnyE.ls (n := 72) 1152921504606846975 (by kernel_rfl) rfl ?_
      refine AnyE.efB tok hO 60 2305843009213693951 (by kernel_rfl) (by cbv <;> rfl) (by cbv <;> rfl) (by trivial) (by kernel_rfl) (by repeat (first | exact trivial | refine And.intro (by cbv <;> rfl) ?_)) ?_
      refine AnyE.tkO nm5_tidy tok hO 61 105 4611686018427387903 (by kernel_rfl) (by kernel_rfl) (by cbv <;> rfl) (by trivial) (Eqv.refl _) ?_
      refine nm5_b _ O hO _ _ ?_ D1 3 4 hd1 hp0 hp1 ?_ hDf ?_ ?_ ?_ ?_
      · rfl
      · exact Eqv.agg (.cons (by (first | refine Eqv.isl rfl fun i j hi hj => ?_ | refine Eqv.trans Eqv.islX (Eqv.isl rfl fun i j hi hj => ?_)) <;> (obtain rfl | rfl : i = 0 ∨ i = 1 := by omega) <;> (obtain rfl : j = 0 := by omega) <;> exact Eqv.of rfl) (.cons (by (first | refine Eqv.isl rfl fun i j hi hj => ?_ | refine Eqv.trans Eqv.islX (Eqv.isl rfl fun i j hi hj => ?_)) <;> (obtain rfl | rfl : i = 0 ∨ i = 1 := by omega) <;> (obtain rfl : j = 0 := by omega) <;> exact Eqv.of rfl) .nil))
      · show _ = _; kernel_rfl
      · show _ = _; kernel_rfl
      · show _ = _; kernel_rfl
      · exact hK
    · refine PickE.eff tok hO (by cbv <;> rfl) (by cbv <;> rfl) (by trivial) ?_ ?_
      · exact (by repeat (first | exact trivial | refine And.intro (by cbv <;> rfl) ?_))
      refine AnyE.ls (n := 72) 1729382256910270463 (by kernel_rfl) rfl ?_
      refine AnyE.efB tok hO 59 2305843009213693951 (by kernel_rfl) (by cbv <;> rfl) (by cbv <;> rfl) (by trivial) (by kernel_rfl) (by repeat (first | exact trivial | refine And.intro (by cbv <;> rfl) ?_)) ?_
      refine AnyE.tkO nm5_tidy tok hO 61 105 4611686018427387903 (by kernel_rfl) (by kernel_rfl) (by cbv <;> rfl) (by trivial) (Eqv.refl _) ?_
      refine nm5_b _ O hO _ _ ?_ D1 4 3 hd1 hp0 hp1 ?_ hDf ?_ ?_ ?_ ?_
      · rfl
      · exact Eqv.agg (.cons (by (first | refine Eqv.isl rfl fun i j hi hj => ?_ | refine Eqv.trans Eqv.islX (Eqv.isl rfl fun i j hi hj => ?_)) <;> (obtain rfl | rfl : i = 0 ∨ i = 1 := by omega) <;> (obtain rfl : j = 0 := by omega) <;> exact Eqv.of rfl) (.cons (by (first | refine Eqv.isl rfl fun i j hi hj => ?_ | refine Eqv.trans Eqv.islX (Eqv.isl rfl fun i j hi hj => ?_)) <;> (obtain rfl | rfl : i = 0 ∨ i = 1 := by omega) <;> (obtain rfl : j = 0 := by omega) <;> exact Eqv.of rfl) .nil))
      · show _ = _; kernel_rfl
      · show _ = _; kernel_rfl
      · show _ = _; kernel_rfl
      · exact hK
  · refine PickE.eff tok hO (by cbv <;> rfl) (by cbv <;> rfl) (by trivial) ?_ ?_
    · exact (by repeat (first | exact trivial | refine And.intro (by cbv <;> rfl) ?_))
    refine AnyE.ls (n := 72) 864691128455135231 (by kernel_rfl) rfl ?_
    refine AnyE.many [58, 60] (by kernel_rfl) (by rfl) ⟨?_, ?_, trivial⟩
    · refine PickE.callQ hd1 (by cbv <;> rfl) (by cbv <;> rfl) (by repeat (first | exact trivial | refine And.intro (by cbv <;> rfl) ?_)) ?_
      refine AnyE.ls (n := 72) 1152921504606846975 (by kernel_rfl) (show putAt nm5A 58 _ _ = Fm.put _ (some 102) _ from rfl) ?_
      refine AnyE.efB tok hO 60 2305843009213693951 (by kernel_rfl) (by cbv <;> rfl) (by cbv <;> rfl) (by trivial) (by kernel_rfl) (by repeat (first | exact trivial | refine And.intro (by cbv <;> rfl) ?_)) ?_
      refine AnyE.tkO nm5_tidy tok hO 61 105 4611686018427387903 (by kernel_rfl) (by kernel_rfl) (by cbv <;> rfl) (by trivial) (Eqv.refl _) ?_
      refine nm5_b _ O hO _ _ ?_ D1 3 4 hd1 hp0 hp1 ?_ hDf ?_ ?_ ?_ ?_
      · rfl
      · exact Eqv.agg (.cons (by (first | refine Eqv.isl rfl fun i j hi hj => ?_ | refine Eqv.trans Eqv.islX (Eqv.isl rfl fun i j hi hj => ?_)) <;> (obtain rfl | rfl : i = 0 ∨ i = 1 := by omega) <;> (obtain rfl : j = 0 := by omega) <;> exact Eqv.of rfl) (.cons (by (first | refine Eqv.isl rfl fun i j hi hj => ?_ | refine Eqv.trans Eqv.islX (Eqv.isl rfl fun i j hi hj => ?_)) <;> (obtain rfl | rfl : i = 0 ∨ i = 1 := by omega) <;> (obtain rfl : j = 0 := by omega) <;> exact Eqv.of rfl) .nil))
      · show _ = _; kernel_rfl
      · show _ = _; kernel_rfl
      · show _ = _; kernel_rfl
      · exact hK
    · refine PickE.eff tok hO (by cbv <;> rfl) (by cbv <;> rfl) (by trivial) ?_ ?_
      · exact (by repeat (first | exact trivial | refine And.intro (by cbv <;> rfl) ?_))
      refine AnyE.ls (n := 72) 2017612633061982207 (by kernel_rfl) rfl ?_
      refine AnyE.tkO nm5_tidy tok hO 61 105 4323455642275676159 (by kernel_rfl) (by kernel_rfl) (by cbv <;> rfl) (by trivial) (Eqv.refl _) ?_
      refine AnyE.cpN hd1 58 102 4611686018427387903 (by kernel_rfl) (by kernel_rfl) (by cbv <;> rfl) (by cbv <;> rfl) (by kernel_rfl) rfl ?_
      refine nm5_b _ O hO _ _ ?_ D1 3 4 hd1 hp0 hp1 ?_ hDf ?_ ?_ ?_ ?_
      · rfl
      · exact Eqv.agg (.cons (by (first | refine Eqv.isl rfl fun i j hi hj => ?_ | refine Eqv.trans Eqv.islX (Eqv.isl rfl fun i j hi hj => ?_)) <;> (obtain rfl | rfl : i = 0 ∨ i = 1 := by omega) <;> (obtain rfl : j = 0 := by omega) <;> exact Eqv.of rfl) (.cons (by (first | refine Eqv.isl rfl fun i j hi hj => ?_ | refine Eqv.trans Eqv.islX (Eqv.isl rfl fun i j hi hj => ?_)) <;> (obtain rfl | rfl : i = 0 ∨ i = 1 := by omega) <;> (obtain rfl : j = 0 := by omega) <;> exact Eqv.of rfl) .nil))
      · show _ = _; kernel_rfl
      · show _ = _; kernel_rfl
      · show _ = _; kernel_rfl
      · exact hK
  · refine PickE.eff tok hO (by cbv <;> rfl) (by cbv <;> rfl) (by trivial) ?_ ?_
    · exact (by repeat (first | exact trivial | refine And.intro (by cbv <;> rfl) ?_))
    refine AnyE.ls (n := 72) 1441151880758558719 (by kernel_rfl) rfl ?_
    refine AnyE.many [58, 59] (by kernel_rfl) (by rfl) ⟨?_, ?_, trivial⟩
    · refine PickE.callQ hd1 (by cbv <;> rfl) (by cbv <;> rfl) (by repeat (first | exact trivial | refine And.intro (by cbv <;> rfl) ?_)) ?_
      refine AnyE.ls (n := 72) 1729382256910270463 (by kernel_rfl) (show putAt nm5A 58 _ _ = Fm.put _ (some 102) _ from rfl) ?_
      refine AnyE.efB tok hO 59 2305843009213693951 (by kernel_rfl) (by cbv <;> rfl) (by cbv <;> rfl) (by trivial) (by kernel_rfl) (by repeat (first | exact trivial | refine And.intro (by cbv <;> rfl) ?_)) ?_
      refine AnyE.tkO nm5_tidy tok hO 61 105 4611686018427387903 (by kernel_rfl) (by kernel_rfl) (by cbv <;> rfl) (by trivial) (Eqv.refl _) ?_
      refine nm5_b _ O hO _ _ ?_ D1 4 3 hd1 hp0 hp1 ?_ hDf ?_ ?_ ?_ ?_
      · rfl
      · exact Eqv.agg (.cons (by (first | refine Eqv.isl rfl fun i j hi hj => ?_ | refine Eqv.trans Eqv.islX (Eqv.isl rfl fun i j hi hj => ?_)) <;> (obtain rfl | rfl : i = 0 ∨ i = 1 := by omega) <;> (obtain rfl : j = 0 := by omega) <;> exact Eqv.of rfl) (.cons (by (first | refine Eqv.isl rfl fun i j hi hj => ?_ | refine Eqv.trans Eqv.islX (Eqv.isl rfl fun i j hi hj => ?_)) <;> (obtain rfl | rfl : i = 0 ∨ i = 1 := by omega) <;> (obtain rfl : j = 0 := by omega) <;> exact Eqv.of rfl) .nil))
      · show _ = _; kernel_rfl
      · show _ = _; kernel_rfl
      · show _ = _; kernel_rfl
      · exact hK
    · refine PickE.eff tok hO (by cbv <;> rfl) (by cbv <;> rfl) (by trivial) ?_ ?_
      · exact (by repeat (first | exact trivial | refine And.intro (by cbv <;> rfl) ?_))
      refine AnyE.ls (n := 72) 2017612633061982207 (by kernel_rfl) rfl ?_
      refine AnyE.tkO nm5_tidy tok hO 61 105 4323455642275676159 (by kernel_rfl) (by kernel_rfl) (by cbv <;> rfl) (by trivial) (Eqv.refl _) ?_
      refine AnyE.cpN hd1 58 102 4611686018427387903 (by kernel_rfl) (by kernel_rfl) (by cbv <;> rfl) (by cbv <;> rfl) (by kernel_rfl) rfl ?_
      refine nm5_b _ O hO _ _ ?_ D1 4 3 hd1 hp0 hp1 ?_ hDf ?_ ?_ ?_ ?_
      · rfl
      · exact Eqv.agg (.cons (by (first | refine Eqv.isl rfl fun i j hi hj => ?_ | refine Eqv.trans Eqv.islX (Eqv.isl rfl fun i j hi hj => ?_)) <;> (obtain rfl | rfl : i = 0 ∨ i = 1 := by omega) <;> (obtain rfl : j = 0 := by omega) <;> exact Eqv.of rfl) (.cons (by (first | refine Eqv.isl rfl fun i j hi hj => ?_ | refine Eqv.trans Eqv.islX (Eqv.isl rfl fun i j hi hj => ?_)) <;> (obtain rfl | rfl : i = 0 ∨ i = 1 := by omega) <;> (obtain rfl : j = 0 := by omega) <;> exact Eqv.of rfl) .nil))
      · show _ = _; kernel_rfl
      · show _ = _; kernel_rfl
      · show _ = _; kernel_rfl
      · exact hK
end Go.Fz
