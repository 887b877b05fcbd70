/- Own work of the verifier of watercress: FzL1. -/
import Derived.Test.YtpefamheopplnaaMe24
import Derived.Test.YtpefamheopplnaaMe18
set_option linter.unusedVariables false
set_option linter.unusedSimpArgs false
namespace Go.Fz
open Go.Proofs
set_option maxRecDepth 100000
theorem between_ok (a b : Int) : Pure Try.prog 37 [iV a, iV b] (rangeV a b) := by
  obtain ⟨O, hO⟩ : ∃ O : Ar, O = std := ⟨_, rfl⟩
  refine pure_of_body tok 3 Try.func37 en37 rfl ⟨Below.lit, Below.lit, trivial⟩ rangeV_below ?_
  refine SW.seqRun tok hO (by cbv <;> rfl) (by trivial) ?_
  refine SW.seqRun tok hO (by cbv <;> rfl) (by trivial) ?_
  exact SW.ret ⟨_, _, rfl, rfl, Eqv.of rfl⟩
def pick2 (a b : Int) (i : Nat) : Int := if i = 0 then a else b
def twoD (k : Nat) : DayD := { hand := 6, flat := 4, nw := 2, wlo := pick2 20 25, whi := pick2 22 25, nl := 2, lw := pick2 0 1, llo := pick2 500 610, lhi := pick2 502 610, nc := k, ck := pick2 4 1, cw := pick2 0 0, clo := pick2 2 5, chi := pick2 2 9 }
set_option maxHeartbeats 16000000 in
theorem two_ok0 : Pure Try.prog 35 [iV 0] (dayV (twoD 0)) := by
  obtain ⟨O, hO⟩ : ∃ O : Ar, O = std := ⟨_, rfl⟩
  have ha := between_ok 2 2
  have hb := between_ok 5 9
  have h0 := between_ok 20 22
  have h1 := between_ok 25 25
  have h3 := between_ok 500 502
  have h5 := between_ok 610 610
  refine pure_of_body tok 4 Try.func35 en35 rfl ⟨Below.lit, trivial⟩ (dayV_below _) ?_
  refine SW.seqRun tok hO (by cbv <;> rfl) (by trivial) ?_
  refine SW.seqRun tok hO (by cbv <;> rfl) (by trivial) ?_
  refine OpsW.callP ha (by cbv <;> rfl) ?_
  refine OpsW.run tok hO (by cbv <;> rfl) (by trivial) ?_
  refine OpsW.callP hb (by cbv <;> rfl) ?_
  refine OpsW.run tok hO (by cbv <;> rfl) (by trivial) ?_
  refine SW.seqRunD tok mixed hO (by kernel_rfl) (by cbv <;> rfl) (by trivial) ?_
  refine AnyE.take (r := .sl 1 0 0 4 (Nat.beq 0 2)) (by kernel_rfl) tok 10 rfl (by cbv <;> rfl) (by cbv <;> rfl) ?_
  refine AnyE.run tok hO (by rfl) (by cbv <;> rfl) (by trivial) ?_
  refine AnyE.callP h0 (by cbv <;> rfl) (by cbv <;> rfl) ?_
  refine AnyE.run tok hO (by rfl) (by cbv <;> rfl) (by trivial) ?_
  refine AnyE.callP h1 (by cbv <;> rfl) (by cbv <;> rfl) ?_
  refine AnyE.run tok hO (by rfl) (by cbv <;> rfl) (by trivial) ?_
  refine AnyE.many [2, 3] (by cbv <;> rfl) (by rfl) ⟨?_, ?_, trivial⟩
  · refine PickE.eff tok hO (by cbv <;> rfl) (by cbv <;> rfl) (by trivial) ?_ ?_
    · exact (by repeat (first | exact trivial | refine And.intro (by first | exact lv_of hO (by cbv <;> rfl) (by trivial) | (cbv <;> rfl)) ?_))
    refine AnyE.run tok hO (by rfl) (by cbv <;> rfl) (by trivial) ?_
    refine AnyE.callP h3 (by cbv <;> rfl) (by cbv <;> rfl) ?_
    refine AnyE.run tok hO (by rfl) (by cbv <;> rfl) (by trivial) ?_
    refine AnyE.callP h5 (by cbv <;> rfl) (by cbv <;> rfl) ?_
    refine AnyE.run tok hO (by rfl) (by cbv <;> rfl) (by trivial) ?_
    refine AnyE.effK tok hO (by cbv <;> rfl) (by cbv <;> rfl) (by trivial) ?_ ?_
    · exact (by repeat (first | exact trivial | refine And.intro (by first | exact lv_of hO (by cbv <;> rfl) (by trivial) | (cbv <;> rfl)) ?_))
    refine AnyE.run tok hO (by rfl) (by cbv <;> rfl) (by trivial) ?_
    refine AnyE.effK tok hO (by cbv <;> rfl) (by cbv <;> rfl) (by trivial) ?_ ?_
    · exact (by repeat (first | exact trivial | refine And.intro (by first | exact lv_of hO (by cbv <;> rfl) (by trivial) | (cbv <;> rfl)) ?_))
    refine AnyE.run tok hO (by rfl) (by cbv <;> rfl) (by trivial) ?_
    refine SW.ret ⟨_, _, rfl, rfl, ?_⟩
    exact Eqv.agg (.cons (Eqv.of rfl) (.cons (Eqv.of rfl) (.cons (by (first | refine Eqv.isl rfl fun i j hi hj => ?_ | refine Eqv.trans Eqv.islX (Eqv.isl rfl fun i j hi hj => ?_)) <;> (obtain rfl | rfl : i = 0 ∨ i = 1 := by omega) <;> (obtain rfl | rfl | rfl | rfl : j = 0 ∨ j = 1 ∨ j = 2 ∨ j = 3 := by omega) <;> first | exact Eqv.of rfl | omega) (.cons (by (first | refine Eqv.isl rfl fun i j hi hj => ?_ | refine Eqv.trans Eqv.islX (Eqv.isl rfl fun i j hi hj => ?_)) <;> (obtain rfl | rfl : i = 0 ∨ i = 1 := by omega) <;> (obtain rfl | rfl | rfl | rfl : j = 0 ∨ j = 1 ∨ j = 2 ∨ j = 3 := by omega) <;> first | exact Eqv.of rfl | omega) (.cons (by (first | refine Eqv.isl rfl fun i j hi hj => ?_ | refine Eqv.trans Eqv.islX (Eqv.isl rfl fun i j hi hj => ?_)) <;> (obtain rfl | rfl : i = 0 ∨ i = 1 := by omega) <;> (obtain rfl | rfl | rfl | rfl : j = 0 ∨ j = 1 ∨ j = 2 ∨ j = 3 := by omega) <;> first | exact Eqv.of rfl | omega) .nil)))))
  · refine PickE.callQ h3 (by cbv <;> rfl) (by cbv <;> rfl) ?_ ?_
    · exact (by repeat (first | exact trivial | refine And.intro (by first | exact lv_of hO (by cbv <;> rfl) (by trivial) | (cbv <;> rfl)) ?_))
    refine AnyE.run tok hO (by rfl) (by cbv <;> rfl) (by trivial) ?_
    refine AnyE.many [2, 5] (by cbv <;> rfl) (by rfl) ⟨?_, ?_, trivial⟩
    · refine PickE.eff tok hO (by cbv <;> rfl) (by cbv <;> rfl) (by trivial) ?_ ?_
      · exact (by repeat (first | exact trivial | refine And.intro (by first | exact lv_of hO (by cbv <;> rfl) (by trivial) | (cbv <;> rfl)) ?_))
      refine AnyE.run tok hO (by rfl) (by cbv <;> rfl) (by trivial) ?_
      refine AnyE.callP h5 (by cbv <;> rfl) (by cbv <;> rfl) ?_
      refine AnyE.run tok hO (by rfl) (by cbv <;> rfl) (by trivial) ?_
      refine AnyE.effK tok hO (by cbv <;> rfl) (by cbv <;> rfl) (by trivial) ?_ ?_
      · exact (by repeat (first | exact trivial | refine And.intro (by first | exact lv_of hO (by cbv <;> rfl) (by trivial) | (cbv <;> rfl)) ?_))
      refine AnyE.run tok hO (by rfl) (by cbv <;> rfl) (by trivial) ?_
      refine AnyE.effK tok hO (by cbv <;> rfl) (by cbv <;> rfl) (by trivial) ?_ ?_
      · exact (by repeat (first | exact trivial | refine And.intro (by first | exact lv_of hO (by cbv <;> rfl) (by trivial) | (cbv <;> rfl)) ?_))
      refine AnyE.run tok hO (by rfl) (by cbv <;> rfl) (by trivial) ?_
      refine SW.ret ⟨_, _, rfl, rfl, ?_⟩
      exact Eqv.agg (.cons (Eqv.of rfl) (.cons (Eqv.of rfl) (.cons (by (first | refine Eqv.isl rfl fun i j hi hj => ?_ | refine Eqv.trans Eqv.islX (Eqv.isl rfl fun i j hi hj => ?_)) <;> (obtain rfl | rfl : i = 0 ∨ i = 1 := by omega) <;> (obtain rfl | rfl | rfl | rfl : j = 0 ∨ j = 1 ∨ j = 2 ∨ j = 3 := by omega) <;> first | exact Eqv.of rfl | omega) (.cons (by (first | refine Eqv.isl rfl fun i j hi hj => ?_ | refine Eqv.trans Eqv.islX (Eqv.isl rfl fun i j hi hj => ?_)) <;> (obtain rfl | rfl : i = 0 ∨ i = 1 := by omega) <;> (obtain rfl | rfl | rfl | rfl : j = 0 ∨ j = 1 ∨ j = 2 ∨ j = 3 := by omega) <;> first | exact Eqv.of rfl | omega) (.cons (by (first | refine Eqv.isl rfl fun i j hi hj => ?_ | refine Eqv.trans Eqv.islX (Eqv.isl rfl fun i j hi hj => ?_)) <;> (obtain rfl | rfl : i = 0 ∨ i = 1 := by omega) <;> (obtain rfl | rfl | rfl | rfl : j = 0 ∨ j = 1 ∨ j = 2 ∨ j = 3 := by omega) <;> first | exact Eqv.of rfl | omega) .nil)))))
    · refine PickE.callQ h5 (by cbv <;> rfl) (by cbv <;> rfl) ?_ ?_
      · exact (by repeat (first | exact trivial | refine And.intro (by first | exact lv_of hO (by cbv <;> rfl) (by trivial) | (cbv <;> rfl)) ?_))
      refine AnyE.run tok hO (by rfl) (by cbv <;> rfl) (by trivial) ?_
      refine AnyE.many [2, 7] (by cbv <;> rfl) (by rfl) ⟨?_, ?_, trivial⟩
      · refine PickE.eff tok hO (by cbv <;> rfl) (by cbv <;> rfl) (by trivial) ?_ ?_
        · exact (by repeat (first | exact trivial | refine And.intro (by first | exact lv_of hO (by cbv <;> rfl) (by trivial) | (cbv <;> rfl)) ?_))
        refine AnyE.run tok hO (by rfl) (by cbv <;> rfl) (by trivial) ?_
        refine AnyE.effK tok hO (by cbv <;> rfl) (by cbv <;> rfl) (by trivial) ?_ ?_
        · exact (by repeat (first | exact trivial | refine And.intro (by first | exact lv_of hO (by cbv <;> rfl) (by trivial) | (cbv <;> rfl)) ?_))
        refine AnyE.run tok hO (by rfl) (by cbv <;> rfl) (by trivial) ?_
        refine AnyE.effK tok hO (by cbv <;> rfl) (by cbv <;> rfl) (by trivial) ?_ ?_
        · exact (by repeat (first | exact trivial | refine And.intro (by first | exact lv_of hO (by cbv <;> rfl) (by trivial) | (cbv <;> rfl)) ?_))
        refine AnyE.run tok hO (by rfl) (by cbv <;> rfl) (by trivial) ?_
        refine SW.ret ⟨_, _, rfl, rfl, ?_⟩
        exact Eqv.agg (.cons (Eqv.of rfl) (.cons (Eqv.of rfl) (.cons (by (first | refine Eqv.isl rfl fun i j hi hj => ?_ | refine Eqv.trans Eqv.islX (Eqv.isl rfl fun i j hi hj => ?_)) <;> (obtain rfl | rfl : i = 0 ∨ i = 1 := by omega) <;> (obtain rfl | rfl | rfl | rfl : j = 0 ∨ j = 1 ∨ j = 2 ∨ j = 3 := by omega) <;> first | exact Eqv.of rfl | omega) (.cons (by (first | refine Eqv.isl rfl fun i j hi hj => ?_ | refine Eqv.trans Eqv.islX (Eqv.isl rfl fun i j hi hj => ?_)) <;> (obtain rfl | rfl : i = 0 ∨ i = 1 := by omega) <;> (obtain rfl | rfl | rfl | rfl : j = 0 ∨ j = 1 ∨ j = 2 ∨ j = 3 := by omega) <;> first | exact Eqv.of rfl | omega) (.cons (by (first | refine Eqv.isl rfl fun i j hi hj => ?_ | refine Eqv.trans Eqv.islX (Eqv.isl rfl fun i j hi hj => ?_)) <;> (obtain rfl | rfl : i = 0 ∨ i = 1 := by omega) <;> (obtain rfl | rfl | rfl | rfl : j = 0 ∨ j = 1 ∨ j = 2 ∨ j = 3 := by omega) <;> first | exact Eqv.of rfl | omega) .nil)))))
      · refine PickE.eff tok hO (by cbv <;> rfl) (by cbv <;> rfl) (by trivial) ?_ ?_
        · exact (by repeat (first | exact trivial | refine And.intro (by first | exact lv_of hO (by cbv <;> rfl) (by trivial) | (cbv <;> rfl)) ?_))
        refine AnyE.run tok hO (by rfl) (by cbv <;> rfl) (by trivial) ?_
        refine AnyE.effK tok hO (by cbv <;> rfl) (by cbv <;> rfl) (by trivial) ?_ ?_
        · exact (by repeat (first | exact trivial | refine And.intro (by first | exact lv_of hO (by cbv <;> rfl) (by trivial) | (cbv <;> rfl)) ?_))
        refine AnyE.run tok hO (by rfl) (by cbv <;> rfl) (by trivial) ?_
        refine AnyE.effK tok hO (by cbv <;> rfl) (by cbv <;> rfl) (by trivial) ?_ ?_
        · exact (by repeat (first | exact trivial | refine And.intro (by first | exact lv_of hO (by cbv <;> rfl) (by trivial) | (cbv <;> rfl)) ?_))
        refine AnyE.run tok hO (by rfl) (by cbv <;> rfl) (by trivial) ?_
        refine SW.ret ⟨_, _, rfl, rfl, ?_⟩
        exact Eqv.agg (.cons (Eqv.of rfl) (.cons (Eqv.of rfl) (.cons (by (first | refine Eqv.isl rfl fun i j hi hj => ?_ | refine Eqv.trans Eqv.islX (Eqv.isl rfl fun i j hi hj => ?_)) <;> (obtain rfl | rfl : i = 0 ∨ i = 1 := by omega) <;> (obtain rfl | rfl | rfl | rfl : j = 0 ∨ j = 1 ∨ j = 2 ∨ j = 3 := by omega) <;> first | exact Eqv.of rfl | omega) (.cons (by (first | refine Eqv.isl rfl fun i j hi hj => ?_ | refine Eqv.trans Eqv.islX (Eqv.isl rfl fun i j hi hj => ?_)) <;> (obtain rfl | rfl : i = 0 ∨ i = 1 := by omega) <;> (obtain rfl | rfl | rfl | rfl : j = 0 ∨ j = 1 ∨ j = 2 ∨ j = 3 := by omega) <;> first | exact Eqv.of rfl | omega) (.cons (by (first | refine Eqv.isl rfl fun i j hi hj => ?_ | refine Eqv.trans Eqv.islX (Eqv.isl rfl fun i j hi hj => ?_)) <;> (obtain rfl | rfl : i = 0 ∨ i = 1 := by omega) <;> (obtain rfl | rfl | rfl | rfl : j = 0 ∨ j = 1 ∨ j = 2 ∨ j = 3 := by omega) <;> first | exact Eqv.of rfl | omega) .nil)))))
set_option maxHeartbeats 16000000 in
theorem two_ok1 : Pure Try.prog 35 [iV 1] (dayV (twoD 1)) := by
  obtain ⟨O, hO⟩ : ∃ O : Ar, O = std := ⟨_, rfl⟩
  have ha := between_ok 2 2
  have hb := between_ok 5 9
  have h0 := between_ok 20 22
  have h1 := between_ok 25 25
  have h3 := between_ok 500 502
  have h5 := between_ok 610 610
  refine pure_of_body tok 4 Try.func35 en35 rfl ⟨Below.lit, trivial⟩ (dayV_below _) ?_
  refine SW.seqRun tok hO (by cbv <;> rfl) (by trivial) ?_
  refine SW.seqRun tok hO (by cbv <;> rfl) (by trivial) ?_
  refine OpsW.callP ha (by cbv <;> rfl) ?_
  refine OpsW.run tok hO (by cbv <;> rfl) (by trivial) ?_
  refine OpsW.callP hb (by cbv <;> rfl) ?_
  refine OpsW.run tok hO (by cbv <;> rfl) (by trivial) ?_
  refine SW.seqRunD tok mixed hO (by kernel_rfl) (by cbv <;> rfl) (by trivial) ?_
  refine AnyE.take (r := .sl 1 0 1 4 (Nat.beq 1 2)) (by kernel_rfl) tok 10 rfl (by cbv <;> rfl) (by cbv <;> rfl) ?_
  refine AnyE.run tok hO (by rfl) (by cbv <;> rfl) (by trivial) ?_
  refine AnyE.callP h0 (by cbv <;> rfl) (by cbv <;> rfl) ?_
  refine AnyE.run tok hO (by rfl) (by cbv <;> rfl) (by trivial) ?_
  refine AnyE.callP h1 (by cbv <;> rfl) (by cbv <;> rfl) ?_
  refine AnyE.run tok hO (by rfl) (by cbv <;> rfl) (by trivial) ?_
  refine AnyE.many [2, 3] (by cbv <;> rfl) (by rfl) ⟨?_, ?_, trivial⟩
  · refine PickE.eff tok hO (by cbv <;> rfl) (by cbv <;> rfl) (by trivial) ?_ ?_
    · exact (by repeat (first | exact trivial | refine And.intro (by first | exact lv_of hO (by cbv <;> rfl) (by trivial) | (cbv <;> rfl)) ?_))
    refine AnyE.run tok hO (by rfl) (by cbv <;> rfl) (by trivial) ?_
    refine AnyE.callP h3 (by cbv <;> rfl) (by cbv <;> rfl) ?_
    refine AnyE.run tok hO (by rfl) (by cbv <;> rfl) (by trivial) ?_
    refine AnyE.callP h5 (by cbv <;> rfl) (by cbv <;> rfl) ?_
    refine AnyE.run tok hO (by rfl) (by cbv <;> rfl) (by trivial) ?_
    refine AnyE.effK tok hO (by cbv <;> rfl) (by cbv <;> rfl) (by trivial) ?_ ?_
    · exact (by repeat (first | exact trivial | refine And.intro (by first | exact lv_of hO (by cbv <;> rfl) (by trivial) | (cbv <;> rfl)) ?_))
    refine AnyE.run tok hO (by rfl) (by cbv <;> rfl) (by trivial) ?_
    refine AnyE.effK tok hO (by cbv <;> rfl) (by cbv <;> rfl) (by trivial) ?_ ?_
    · exact (by repeat (first | exact trivial | refine And.intro (by first | exact lv_of hO (by cbv <;> rfl) (by trivial) | (cbv <;> rfl)) ?_))
    refine AnyE.run tok hO (by rfl) (by cbv <;> rfl) (by trivial) ?_
    refine SW.ret ⟨_, _, rfl, rfl, ?_⟩
    exact Eqv.agg (.cons (Eqv.of rfl) (.cons (Eqv.of rfl) (.cons (by (first | refine Eqv.isl rfl fun i j hi hj => ?_ | refine Eqv.trans Eqv.islX (Eqv.isl rfl fun i j hi hj => ?_)) <;> (obtain rfl | rfl : i = 0 ∨ i = 1 := by omega) <;> (obtain rfl | rfl | rfl | rfl : j = 0 ∨ j = 1 ∨ j = 2 ∨ j = 3 := by omega) <;> first | exact Eqv.of rfl | omega) (.cons (by (first | refine Eqv.isl rfl fun i j hi hj => ?_ | refine Eqv.trans Eqv.islX (Eqv.isl rfl fun i j hi hj => ?_)) <;> (obtain rfl | rfl : i = 0 ∨ i = 1 := by omega) <;> (obtain rfl | rfl | rfl | rfl : j = 0 ∨ j = 1 ∨ j = 2 ∨ j = 3 := by omega) <;> first | exact Eqv.of rfl | omega) (.cons (by (first | refine Eqv.isl rfl fun i j hi hj => ?_ | refine Eqv.trans Eqv.islX (Eqv.isl rfl fun i j hi hj => ?_)) <;> (obtain rfl | rfl : i = 0 ∨ i = 1 := by omega) <;> (obtain rfl | rfl | rfl | rfl : j = 0 ∨ j = 1 ∨ j = 2 ∨ j = 3 := by omega) <;> first | exact Eqv.of rfl | omega) .nil)))))
  · refine PickE.callQ h3 (by cbv <;> rfl) (by cbv <;> rfl) ?_ ?_
    · exact (by repeat (first | exact trivial | refine And.intro (by first | exact lv_of hO (by cbv <;> rfl) (by trivial) | (cbv <;> rfl)) ?_))
    refine AnyE.run tok hO (by rfl) (by cbv <;> rfl) (by trivial) ?_
    refine AnyE.many [2, 5] (by cbv <;> rfl) (by rfl) ⟨?_, ?_, trivial⟩
    · refine PickE.eff tok hO (by cbv <;> rfl) (by cbv <;> rfl) (by trivial) ?_ ?_
      · exact (by repeat (first | exact trivial | refine And.intro (by first | exact lv_of hO (by cbv <;> rfl) (by trivial) | (cbv <;> rfl)) ?_))
      refine AnyE.run tok hO (by rfl) (by cbv <;> rfl) (by trivial) ?_
      refine AnyE.callP h5 (by cbv <;> rfl) (by cbv <;> rfl) ?_
      refine AnyE.run tok hO (by rfl) (by cbv <;> rfl) (by trivial) ?_
      refine AnyE.effK tok hO (by cbv <;> rfl) (by cbv <;> rfl) (by trivial) ?_ ?_
      · exact (by repeat (first | exact trivial | refine And.intro (by first | exact lv_of hO (by cbv <;> rfl) (by trivial) | (cbv <;> rfl)) ?_))
      refine AnyE.run tok hO (by rfl) (by cbv <;> rfl) (by trivial) ?_
      refine AnyE.effK tok hO (by cbv <;> rfl) (by cbv <;> rfl) (by trivial) ?_ ?_
      · exact (by repeat (first | exact trivial | refine And.intro (by first | exact lv_of hO (by cbv <;> rfl) (by trivial) | (cbv <;> rfl)) ?_))
      refine AnyE.run tok hO (by rfl) (by cbv <;> rfl) (by trivial) ?_
      refine SW.ret ⟨_, _, rfl, rfl, ?_⟩
      exact Eqv.agg (.cons (Eqv.of rfl) (.cons (Eqv.of rfl) (.cons (by (first | refine Eqv.isl rfl fun i j hi hj => ?_ | refine Eqv.trans Eqv.islX (Eqv.isl rfl fun i j hi hj => ?_)) <;> (obtain rfl | rfl : i = 0 ∨ i = 1 := by omega) <;> (obtain rfl | rfl | rfl | rfl : j = 0 ∨ j = 1 ∨ j = 2 ∨ j = 3 := by omega) <;> first | exact Eqv.of rfl | omega) (.cons (by (first | refine Eqv.isl rfl fun i j hi hj => ?_ | refine Eqv.trans Eqv.islX (Eqv.isl rfl fun i j hi hj => ?_)) <;> (obtain rfl | rfl : i = 0 ∨ i = 1 := by omega) <;> (obtain rfl | rfl | rfl | rfl : j = 0 ∨ j = 1 ∨ j = 2 ∨ j = 3 := by omega) <;> first | exact Eqv.of rfl | omega) (.cons (by (first | refine Eqv.isl rfl fun i j hi hj => ?_ | refine Eqv.trans Eqv.islX (Eqv.isl rfl fun i j hi hj => ?_)) <;> (obtain rfl | rfl : i = 0 ∨ i = 1 := by omega) <;> (obtain rfl | rfl | rfl | rfl : j = 0 ∨ j = 1 ∨ j = 2 ∨ j = 3 := by omega) <;> first | exact Eqv.of rfl | omega) .nil)))))
    · refine PickE.callQ h5 (by cbv <;> rfl) (by cbv <;> rfl) ?_ ?_
      · exact (by repeat (first | exact trivial | refine And.intro (by first | exact lv_of hO (by cbv <;> rfl) (by trivial) | (cbv <;> rfl)) ?_))
      refine AnyE.run tok hO (by rfl) (by cbv <;> rfl) (by trivial) ?_
      refine AnyE.many [2, 7] (by cbv <;> rfl) (by rfl) ⟨?_, ?_, trivial⟩
      · refine PickE.eff tok hO (by cbv <;> rfl) (by cbv <;> rfl) (by trivial) ?_ ?_
        · exact (by repeat (first | exact trivial | refine And.intro (by first | exact lv_of hO (by cbv <;> rfl) (by trivial) | (cbv <;> rfl)) ?_))
        refine AnyE.run tok hO (by rfl) (by cbv <;> rfl) (by trivial) ?_
        refine AnyE.effK tok hO (by cbv <;> rfl) (by cbv <;> rfl) (by trivial) ?_ ?_
        · exact (by repeat (first | exact trivial | refine And.intro (by first | exact lv_of hO (by cbv <;> rfl) (by trivial) | (cbv <;> rfl)) ?_))
        refine AnyE.run tok hO (by rfl) (by cbv <;> rfl) (by trivial) ?_
        refine AnyE.effK tok hO (by cbv <;> rfl) (by cbv <;> rfl) (by trivial) ?_ ?_
        · exact (by repeat (first | exact trivial | refine And.intro (by first | exact lv_of hO (by cbv <;> rfl) (by trivial) | (cbv <;> rfl)) ?_))
        refine AnyE.run tok hO (by rfl) (by cbv <;> rfl) (by trivial) ?_
        refine SW.ret ⟨_, _, rfl, rfl, ?_⟩
        exact Eqv.agg (.cons (Eqv.of rfl) (.cons (Eqv.of rfl) (.cons (by (first | refine Eqv.isl rfl fun i j hi hj => ?_ | refine Eqv.trans Eqv.islX (Eqv.isl rfl fun i j hi hj => ?_)) <;> (obtain rfl | rfl : i = 0 ∨ i = 1 := by omega) <;> (obtain rfl | rfl | rfl | rfl : j = 0 ∨ j = 1 ∨ j = 2 ∨ j = 3 := by omega) <;> first | exact Eqv.of rfl | omega) (.cons (by (first | refine Eqv.isl rfl fun i j hi hj => ?_ | refine Eqv.trans Eqv.islX (Eqv.isl rfl fun i j hi hj => ?_)) <;> (obtain rfl | rfl : i = 0 ∨ i = 1 := by omega) <;> (obtain rfl | rfl | rfl | rfl : j = 0 ∨ j = 1 ∨ j = 2 ∨ j = 3 := by omega) <;> first | exact Eqv.of rfl | omega) (.cons (by (first | refine Eqv.isl rfl fun i j hi hj => ?_ | refine Eqv.trans Eqv.islX (Eqv.isl rfl fun i j hi hj => ?_)) <;> (obtain rfl | rfl : i = 0 ∨ i = 1 := by omega) <;> (obtain rfl | rfl | rfl | rfl : j = 0 ∨ j = 1 ∨ j = 2 ∨ j = 3 := by omega) <;> first | exact Eqv.of rfl | omega) .nil)))))
      · refine PickE.eff tok hO (by cbv <;> rfl) (by cbv <;> rfl) (by trivial) ?_ ?_
        · exact (by repeat (first | exact trivial | refine And.intro (by first | exact lv_of hO (by cbv <;> rfl) (by trivial) | (cbv <;> rfl)) ?_))
        refine AnyE.run tok hO (by rfl) (by cbv <;> rfl) (by trivial) ?_
        refine AnyE.effK tok hO (by cbv <;> rfl) (by cbv <;> rfl) (by trivial) ?_ ?_
        · exact (by repeat (first | exact trivial | refine And.intro (by first | exact lv_of hO (by cbv <;> rfl) (by trivial) | (cbv <;> rfl)) ?_))
        refine AnyE.run tok hO (by rfl) (by cbv <;> rfl) (by trivial) ?_
        refine AnyE.effK tok hO (by cbv <;> rfl) (by cbv <;> rfl) (by trivial) ?_ ?_
        · exact (by repeat (first | exact trivial | refine And.intro (by first | exact lv_of hO (by cbv <;> rfl) (by trivial) | (cbv <;> rfl)) ?_))
        refine AnyE.run tok hO (by rfl) (by cbv <;> rfl) (by trivial) ?_
        refine SW.ret ⟨_, _, rfl, rfl, ?_⟩
        exact Eqv.agg (.cons (Eqv.of rfl) (.cons (Eqv.of rfl) (.cons (by (first | refine Eqv.isl rfl fun i j hi hj => ?_ | refine Eqv.trans Eqv.islX (Eqv.isl rfl fun i j hi hj => ?_)) <;> (obtain rfl | rfl : i = 0 ∨ i = 1 := by omega) <;> (obtain rfl | rfl | rfl | rfl : j = 0 ∨ j = 1 ∨ j = 2 ∨ j = 3 := by omega) <;> first | exact Eqv.of rfl | omega) (.cons (by (first | refine Eqv.isl rfl fun i j hi hj => ?_ | refine Eqv.trans Eqv.islX (Eqv.isl rfl fun i j hi hj => ?_)) <;> (obtain rfl | rfl : i = 0 ∨ i = 1 := by omega) <;> (obtain rfl | rfl | rfl | rfl : j = 0 ∨ j = 1 ∨ j = 2 ∨ j = 3 := by omega) <;> first | exact Eqv.of rfl | omega) (.cons (by (first | refine Eqv.isl rfl fun i j hi hj => ?_ | refine Eqv.trans Eqv.islX (Eqv.isl rfl fun i j hi hj => ?_)) <;> (obtain rfl | rfl : i = 0 ∨ i = 1 := by omega) <;> (obtain rfl | rfl | rfl | rfl : j = 0 ∨ j = 1 ∨ j = 2 ∨ j = 3 := by omega) <;> first | exact Eqv.of rfl | omega) .nil)))))
set_option maxHeartbeats 16000000 in
theorem two_ok2 : Pure Try.prog 35 [iV 2] (dayV (twoD 2)) := by
  obtain ⟨O, hO⟩ : ∃ O : Ar, O = std := ⟨_, rfl⟩
  have ha := between_ok 2 2
  have hb := between_ok 5 9
  have h0 := between_ok 20 22
  have h1 := between_ok 25 25
  have h3 := between_ok 500 502
  have h5 := between_ok 610 610
  refine pure_of_body tok 4 Try.func35 en35 rfl ⟨Below.lit, trivial⟩ (dayV_below _) ?_
  refine SW.seqRun tok hO (by cbv <;> rfl) (by trivial) ?_
  refine SW.seqRun tok hO (by cbv <;> rfl) (by trivial) ?_
  refine OpsW.callP ha (by cbv <;> rfl) ?_
  refine OpsW.run tok hO (by cbv <;> rfl) (by trivial) ?_
  refine OpsW.callP hb (by cbv <;> rfl) ?_
  refine OpsW.run tok hO (by cbv <;> rfl) (by trivial) ?_
  refine SW.seqRunD tok mixed hO (by kernel_rfl) (by cbv <;> rfl) (by trivial) ?_
  refine AnyE.take (r := .sl 1 0 2 4 (Nat.beq 2 2)) (by kernel_rfl) tok 10 rfl (by cbv <;> rfl) (by cbv <;> rfl) ?_
  refine AnyE.run tok hO (by rfl) (by cbv <;> rfl) (by trivial) ?_
  refine AnyE.callP h0 (by cbv <;> rfl) (by cbv <;> rfl) ?_
  refine AnyE.run tok hO (by rfl) (by cbv <;> rfl) (by trivial) ?_
  refine AnyE.callP h1 (by cbv <;> rfl) (by cbv <;> rfl) ?_
  refine AnyE.run tok hO (by rfl) (by cbv <;> rfl) (by trivial) ?_
  refine AnyE.many [2, 3] (by cbv <;> rfl) (by rfl) ⟨?_, ?_, trivial⟩
  · refine PickE.eff tok hO (by cbv <;> rfl) (by cbv <;> rfl) (by trivial) ?_ ?_
    · exact (by repeat (first | exact trivial | refine And.intro (by first | exact lv_of hO (by cbv <;> rfl) (by trivial) | (cbv <;> rfl)) ?_))
    refine AnyE.run tok hO (by rfl) (by cbv <;> rfl) (by trivial) ?_
    refine AnyE.callP h3 (by cbv <;> rfl) (by cbv <;> rfl) ?_
    refine AnyE.run tok hO (by rfl) (by cbv <;> rfl) (by trivial) ?_
    refine AnyE.callP h5 (by cbv <;> rfl) (by cbv <;> rfl) ?_
    refine AnyE.run tok hO (by rfl) (by cbv <;> rfl) (by trivial) ?_
    refine AnyE.effK tok hO (by cbv <;> rfl) (by cbv <;> rfl) (by trivial) ?_ ?_
    · exact (by repeat (first | exact trivial | refine And.intro (by first | exact lv_of hO (by cbv <;> rfl) (by trivial) | (cbv <;> rfl)) ?_))
    refine AnyE.run tok hO (by rfl) (by cbv <;> rfl) (by trivial) ?_
    refine AnyE.effK tok hO (by cbv <;> rfl) (by cbv <;> rfl) (by trivial) ?_ ?_
    · exact (by repeat (first | exact trivial | refine And.intro (by first | exact lv_of hO (by cbv <;> rfl) (by trivial) | (cbv <;> rfl)) ?_))
    refine AnyE.run tok hO (by rfl) (by cbv <;> rfl) (by trivial) ?_
    refine SW.ret ⟨_, _, rfl, rfl, ?_⟩
    exact Eqv.agg (.cons (Eqv.of rfl) (.cons (Eqv.of rfl) (.cons (by (first | refine Eqv.isl rfl fun i j hi hj => ?_ | refine Eqv.trans Eqv.islX (Eqv.isl rfl fun i j hi hj => ?_)) <;> (obtain rfl | rfl : i = 0 ∨ i = 1 := by omega) <;> (obtain rfl | rfl | rfl | rfl : j = 0 ∨ j = 1 ∨ j = 2 ∨ j = 3 := by omega) <;> first | exact Eqv.of rfl | omega) (.cons (by (first | refine Eqv.isl rfl fun i j hi hj => ?_ | refine Eqv.trans Eqv.islX (Eqv.isl rfl fun i j hi hj => ?_)) <;> (obtain rfl | rfl : i = 0 ∨ i = 1 := by omega) <;> (obtain rfl | rfl | rfl | rfl : j = 0 ∨ j = 1 ∨ j = 2 ∨ j = 3 := by omega) <;> first | exact Eqv.of rfl | omega) (.cons (by (first | refine Eqv.isl rfl fun i j hi hj => ?_ | refine Eqv.trans Eqv.islX (Eqv.isl rfl fun i j hi hj => ?_)) <;> (obtain rfl | rfl : i = 0 ∨ i = 1 := by omega) <;> (obtain rfl | rfl | rfl | rfl : j = 0 ∨ j = 1 ∨ j = 2 ∨ j = 3 := by omega) <;> first | exact Eqv.of rfl | omega) .nil)))))
  · refine PickE.callQ h3 (by cbv <;> rfl) (by cbv <;> rfl) ?_ ?_
    · exact (by repeat (first | exact trivial | refine And.intro (by first | exact lv_of hO (by cbv <;> rfl) (by trivial) | (cbv <;> rfl)) ?_))
    refine AnyE.run tok hO (by rfl) (by cbv <;> rfl) (by trivial) ?_
    refine AnyE.many [2, 5] (by cbv <;> rfl) (by rfl) ⟨?_, ?_, trivial⟩
    · refine PickE.eff tok hO (by cbv <;> rfl) (by cbv <;> rfl) (by trivial) ?_ ?_
      · exact (by repeat (first | exact trivial | refine And.intro (by first | exact lv_of hO (by cbv <;> rfl) (by trivial) | (cbv <;> rfl)) ?_))
      refine AnyE.run tok hO (by rfl) (by cbv <;> rfl) (by trivial) ?_
      refine AnyE.callP h5 (by cbv <;> rfl) (by cbv <;> rfl) ?_
      refine AnyE.run tok hO (by rfl) (by cbv <;> rfl) (by trivial) ?_
      refine AnyE.effK tok hO (by cbv <;> rfl) (by cbv <;> rfl) (by trivial) ?_ ?_
      · exact (by repeat (first | exact trivial | refine And.intro (by first | exact lv_of hO (by cbv <;> rfl) (by trivial) | (cbv <;> rfl)) ?_))
      refine AnyE.run tok hO (by rfl) (by cbv <;> rfl) (by trivial) ?_
      refine AnyE.effK tok hO (by cbv <;> rfl) (by cbv <;> rfl) (by trivial) ?_ ?_
      · exact (by repeat (first | exact trivial | refine And.intro (by first | exact lv_of hO (by cbv <;> rfl) (by trivial) | (cbv <;> rfl)) ?_))
      refine AnyE.run tok hO (by rfl) (by cbv <;> rfl) (by trivial) ?_
      refine SW.ret ⟨_, _, rfl, rfl, ?_⟩
      exact Eqv.agg (.cons (Eqv.of rfl) (.cons (Eqv.of rfl) (.cons (by (first | refine Eqv.isl rfl fun i j hi hj => ?_ | refine Eqv.trans Eqv.islX (Eqv.isl rfl fun i j hi hj => ?_)) <;> (obtain rfl | rfl : i = 0 ∨ i = 1 := by omega) <;> (obtain rfl | rfl | rfl | rfl : j = 0 ∨ j = 1 ∨ j = 2 ∨ j = 3 := by omega) <;> first | exact Eqv.of rfl | omega) (.cons (by (first | refine Eqv.isl rfl fun i j hi hj => ?_ | refine Eqv.trans Eqv.islX (Eqv.isl rfl fun i j hi hj => ?_)) <;> (obtain rfl | rfl : i = 0 ∨ i = 1 := by omega) <;> (obtain rfl | rfl | rfl | rfl : j = 0 ∨ j = 1 ∨ j = 2 ∨ j = 3 := by omega) <;> first | exact Eqv.of rfl | omega) (.cons (by (first | refine Eqv.isl rfl fun i j hi hj => ?_ | refine Eqv.trans Eqv.islX (Eqv.isl rfl fun i j hi hj => ?_)) <;> (obtain rfl | rfl : i = 0 ∨ i = 1 := by omega) <;> (obtain rfl | rfl | rfl | rfl : j = 0 ∨ j = 1 ∨ j = 2 ∨ j = 3 := by omega) <;> first | exact Eqv.of rfl | omega) .nil)))))
    · refine PickE.callQ h5 (by cbv <;> rfl) (by cbv <;> rfl) ?_ ?_
      · exact (by repeat (first | exact trivial | refine And.intro (by first | exact lv_of hO (by cbv <;> rfl) (by trivial) | (cbv <;> rfl)) ?_))
      refine AnyE.run tok hO (by rfl) (by cbv <;> rfl) (by trivial) ?_
      refine AnyE.many [2, 7] (by cbv <;> rfl) (by rfl) ⟨?_, ?_, trivial⟩
      · refine PickE.eff tok hO (by cbv <;> rfl) (by cbv <;> rfl) (by trivial) ?_ ?_
        · exact (by repeat (first | exact trivial | refine And.intro (by first | exact lv_of hO (by cbv <;> rfl) (by trivial) | (cbv <;> rfl)) ?_))
        refine AnyE.run tok hO (by rfl) (by cbv <;> rfl) (by trivial) ?_
        refine AnyE.effK tok hO (by cbv <;> rfl) (by cbv <;> rfl) (by trivial) ?_ ?_
        · exact (by repeat (first | exact trivial | refine And.intro (by first | exact lv_of hO (by cbv <;> rfl) (by trivial) | (cbv <;> rfl)) ?_))
        refine AnyE.run tok hO (by rfl) (by cbv <;> rfl) (by trivial) ?_
        refine AnyE.effK tok hO (by cbv <;> rfl) (by cbv <;> rfl) (by trivial) ?_ ?_
        · exact (by repeat (first | exact trivial | refine And.intro (by first | exact lv_of hO (by cbv <;> rfl) (by trivial) | (cbv <;> rfl)) ?_))
        refine AnyE.run tok hO (by rfl) (by cbv <;> rfl) (by trivial) ?_
        refine SW.ret ⟨_, _, rfl, rfl, ?_⟩
        exact Eqv.agg (.cons (Eqv.of rfl) (.cons (Eqv.of rfl) (.cons (by (first | refine Eqv.isl rfl fun i j hi hj => ?_ | refine Eqv.trans Eqv.islX (Eqv.isl rfl fun i j hi hj => ?_)) <;> (obtain rfl | rfl : i = 0 ∨ i = 1 := by omega) <;> (obtain rfl | rfl | rfl | rfl : j = 0 ∨ j = 1 ∨ j = 2 ∨ j = 3 := by omega) <;> first | exact Eqv.of rfl | omega) (.cons (by (first | refine Eqv.isl rfl fun i j hi hj => ?_ | refine Eqv.trans Eqv.islX (Eqv.isl rfl fun i j hi hj => ?_)) <;> (obtain rfl | rfl : i = 0 ∨ i = 1 := by omega) <;> (obtain rfl | rfl | rfl | rfl : j = 0 ∨ j = 1 ∨ j = 2 ∨ j = 3 := by omega) <;> first | exact Eqv.of rfl | omega) (.cons (by (first | refine Eqv.isl rfl fun i j hi hj => ?_ | refine Eqv.trans Eqv.islX (Eqv.isl rfl fun i j hi hj => ?_)) <;> (obtain rfl | rfl : i = 0 ∨ i = 1 := by omega) <;> (obtain rfl | rfl | rfl | rfl : j = 0 ∨ j = 1 ∨ j = 2 ∨ j = 3 := by omega) <;> first | exact Eqv.of rfl | omega) .nil)))))
      · refine PickE.eff tok hO (by cbv <;> rfl) (by cbv <;> rfl) (by trivial) ?_ ?_
        · exact (by repeat (first | exact trivial | refine And.intro (by first | exact lv_of hO (by cbv <;> rfl) (by trivial) | (cbv <;> rfl)) ?_))
        refine AnyE.run tok hO (by rfl) (by cbv <;> rfl) (by trivial) ?_
        refine AnyE.effK tok hO (by cbv <;> rfl) (by cbv <;> rfl) (by trivial) ?_ ?_
        · exact (by repeat (first | exact trivial | refine And.intro (by first | exact lv_of hO (by cbv <;> rfl) (by trivial) | (cbv <;> rfl)) ?_))
        refine AnyE.run tok hO (by rfl) (by cbv <;> rfl) (by trivial) ?_
        refine AnyE.effK tok hO (by cbv <;> rfl) (by cbv <;> rfl) (by trivial) ?_ ?_
        · exact (by repeat (first | exact trivial | refine And.intro (by first | exact lv_of hO (by cbv <;> rfl) (by trivial) | (cbv <;> rfl)) ?_))
        refine AnyE.run tok hO (by rfl) (by cbv <;> rfl) (by trivial) ?_
        refine SW.ret ⟨_, _, rfl, rfl, ?_⟩
        exact Eqv.agg (.cons (Eqv.of rfl) (.cons (Eqv.of rfl) (.cons (by (first | refine Eqv.isl rfl fun i j hi hj => ?_ | refine Eqv.trans Eqv.islX (Eqv.isl rfl fun i j hi hj => ?_)) <;> (obtain rfl | rfl : i = 0 ∨ i = 1 := by omega) <;> (obtain rfl | rfl | rfl | rfl : j = 0 ∨ j = 1 ∨ j = 2 ∨ j = 3 := by omega) <;> first | exact Eqv.of rfl | omega) (.cons (by (first | refine Eqv.isl rfl fun i j hi hj => ?_ | refine Eqv.trans Eqv.islX (Eqv.isl rfl fun i j hi hj => ?_)) <;> (obtain rfl | rfl : i = 0 ∨ i = 1 := by omega) <;> (obtain rfl | rfl | rfl | rfl : j = 0 ∨ j = 1 ∨ j = 2 ∨ j = 3 := by omega) <;> first | exact Eqv.of rfl | omega) (.cons (by (first | refine Eqv.isl rfl fun i j hi hj => ?_ | refine Eqv.trans Eqv.islX (Eqv.isl rfl fun i j hi hj => ?_)) <;> (obtain rfl | rfl : i = 0 ∨ i = 1 := by omega) <;> (obtain rfl | rfl | rfl | rfl : j = 0 ∨ j = 1 ∨ j = 2 ∨ j = 3 := by omega) <;> first | exact Eqv.of rfl | omega) .nil)))))
end Go.Fz
