/- Own work of the verifier of watercress: FzNm1b. -/
import Derived.Test.YtpefamheopplnaaMm20
import Derived.Test.YtpefamheopplnaaMm16
import Derived.Test.YtpefamheopplnaaMm14
import Derived.Test.YtpefamheopplnaaMm21
set_option linter.unusedVariables false
set_option linter.unusedSimpArgs false
namespace Go.Fz
open Go.Proofs
set_option maxRecDepth 100000
set_option linter.unusedVariables false
set_option maxHeartbeats 16000000 in
theorem two_r1_33 (g : Nat → AV) (O : Ar) (hO : O = std) (h0 : Pure Try.prog 37 [iV 20, iV 22] (rangeV 20 22)) (h1 : Pure Try.prog 37 [iV 25, iV 25] (rangeV 25 25)) (h3 : Pure Try.prog 37 [iV 500, iV 502] (rangeV 500 502)) (h5 : Pure Try.prog 37 [iV 610, iV 610] (rangeV 610 610)) (g0 : g 0 = iV 1) (g2 : g 2 = .ptr 33 0) (g3 : g 3 = .sl 34 0 2 4 true) :
    SW Try.prog none (nthC 2 (bodyF Try.f35)) (midK 21 [(2, .ptr 33 0)] ⟨twH 1 33, 37⟩) ⟨⟨21, g⟩, []⟩ ⟨[(34, .cells none false twC), (33, .cells none false day0)], 35⟩ := by
  rw [← updT_self g0, ← updT_self g2, ← updT_self g3]
  refine SW.ren ?_
  refine SW.runD tok mixed hO (by kernel_rfl) (by cbv <;> rfl) (by trivial) ?_
  refine AnyE.take (r := .sl 34 0 1 4 (Nat.beq 1 2)) (by kernel_rfl) tok 10 rfl (by cbv <;> rfl) (by cbv <;> rfl) ?_
  refine AnyE.run tok hO (by rfl) (by cbv <;> rfl) (by trivial) ?_
  refine AnyE.callP h0 (by cbv <;> rfl) (by cbv <;> rfl) ?_
  refine AnyE.run tok hO (by rfl) (by cbv <;> rfl) (by trivial) ?_
  refine AnyE.callP h1 (by cbv <;> rfl) (by cbv <;> rfl) ?_
  refine AnyE.run tok hO (by rfl) (by cbv <;> rfl) (by trivial) ?_
  refine AnyE.many [2, 3] (by cbv <;> rfl) (by rfl) ⟨?_, ?_, trivial⟩
  · refine PickE.eff tok hO (by cbv <;> rfl) (by cbv <;> rfl) (by trivial) ?_ ?_
    · exact (by repeat (first | exact trivial | refine And.intro (by first | exact lv_of hO (by cbv <;> rfl) (by trivial) | (cbv <;> rfl)) ?_))
    refine AnyE.run tok hO (by rfl) (by cbv <;> rfl) (by trivial) ?_
    refine AnyE.callP h3 (by cbv <;> rfl) (by cbv <;> rfl) ?_
    refine AnyE.run tok hO (by rfl) (by cbv <;> rfl) (by trivial) ?_
    refine AnyE.callP h5 (by cbv <;> rfl) (by cbv <;> rfl) ?_
    refine AnyE.run tok hO (by rfl) (by cbv <;> rfl) (by trivial) ?_
    refine AnyE.effK tok hO (by cbv <;> rfl) (by cbv <;> rfl) (by trivial) ?_ ?_
    · exact (by repeat (first | exact trivial | refine And.intro (by first | exact lv_of hO (by cbv <;> rfl) (by trivial) | (cbv <;> rfl)) ?_))
    refine AnyE.run tok hO (by rfl) (by cbv <;> rfl) (by trivial) ?_
    refine AnyE.effK tok hO (by cbv <;> rfl) (by cbv <;> rfl) (by trivial) ?_ ?_
    · exact (by repeat (first | exact trivial | refine And.intro (by first | exact lv_of hO (by cbv <;> rfl) (by trivial) | (cbv <;> rfl)) ?_))
    refine AnyE.run tok hO (by rfl) (by cbv <;> rfl) (by trivial) ?_
    refine ⟨tabR [(35, 35)], ⟨⟨21, getT [(2, .ptr 33 0)]⟩, []⟩, ⟨twH 1 33, 37⟩, ?_, rfl, _, rfl, ⟨rfl, trivial⟩, rfl⟩
    exact WeakR.tab rfl rfl (by simp) (by rfl) (by show 35 ≤ 37; omega) (by rfl) ⟨RenV.ptr (by omega), trivial⟩ ⟨⟨by omega, _, rfl, .cells (RenVs.closed (AllB.ok ⟨Below.lit, Below.lit, Below.lit, Below.lit, Below.lit, Below.lit, trivial⟩)), rfl⟩, ⟨by omega, _, rfl, .cells (RenVs.closed (AllB.ok ⟨Below.lit, Below.lit, Below.lit, Below.lit, trivial⟩)), rfl⟩, ⟨by omega, _, rfl, .cells (RenVs.closed (AllB.ok ⟨Below.lit, Below.lit, Below.lit, Below.lit, Below.lit, Below.lit, Below.lit, Below.lit, trivial⟩)), rfl⟩, ⟨by omega, _, rfl, .cells (.cons (RenV.closed Below.lit) (.cons (RenV.closed Below.lit) (.cons (RenV.sl (by omega)) (.cons (RenV.sl (by omega)) (.cons (RenV.sl (by omega)) .nil))))), rfl⟩, trivial⟩
  · refine PickE.callQ h3 (by cbv <;> rfl) (by cbv <;> rfl) ?_ ?_
    · exact (by repeat (first | exact trivial | refine And.intro (by first | exact lv_of hO (by cbv <;> rfl) (by trivial) | (cbv <;> rfl)) ?_))
    refine AnyE.run tok hO (by rfl) (by cbv <;> rfl) (by trivial) ?_
    refine AnyE.many [2, 5] (by cbv <;> rfl) (by rfl) ⟨?_, ?_, trivial⟩
    · refine PickE.eff tok hO (by cbv <;> rfl) (by cbv <;> rfl) (by trivial) ?_ ?_
      · exact (by repeat (first | exact trivial | refine And.intro (by first | exact lv_of hO (by cbv <;> rfl) (by trivial) | (cbv <;> rfl)) ?_))
      refine AnyE.run tok hO (by rfl) (by cbv <;> rfl) (by trivial) ?_
      refine AnyE.callP h5 (by cbv <;> rfl) (by cbv <;> rfl) ?_
      refine AnyE.run tok hO (by rfl) (by cbv <;> rfl) (by trivial) ?_
      refine AnyE.effK tok hO (by cbv <;> rfl) (by cbv <;> rfl) (by trivial) ?_ ?_
      · exact (by repeat (first | exact trivial | refine And.intro (by first | exact lv_of hO (by cbv <;> rfl) (by trivial) | (cbv <;> rfl)) ?_))
      refine AnyE.run tok hO (by rfl) (by cbv <;> rfl) (by trivial) ?_
      refine AnyE.effK tok hO (by cbv <;> rfl) (by cbv <;> rfl) (by trivial) ?_ ?_
      · exact (by repeat (first | exact trivial | refine And.intro (by first | exact lv_of hO (by cbv <;> rfl) (by trivial) | (cbv <;> rfl)) ?_))
      refine AnyE.run tok hO (by rfl) (by cbv <;> rfl) (by trivial) ?_
      refine ⟨tabR [(35, 35)], ⟨⟨21, getT [(2, .ptr 33 0)]⟩, []⟩, ⟨twH 1 33, 37⟩, ?_, rfl, _, rfl, ⟨rfl, trivial⟩, rfl⟩
      exact WeakR.tab rfl rfl (by simp) (by rfl) (by show 35 ≤ 37; omega) (by rfl) ⟨RenV.ptr (by omega), trivial⟩ ⟨⟨by omega, _, rfl, .cells (RenVs.closed (AllB.ok ⟨Below.lit, Below.lit, Below.lit, Below.lit, Below.lit, Below.lit, trivial⟩)), rfl⟩, ⟨by omega, _, rfl, .cells (RenVs.closed (AllB.ok ⟨Below.lit, Below.lit, Below.lit, Below.lit, trivial⟩)), rfl⟩, ⟨by omega, _, rfl, .cells (RenVs.closed (AllB.ok ⟨Below.lit, Below.lit, Below.lit, Below.lit, Below.lit, Below.lit, Below.lit, Below.lit, trivial⟩)), rfl⟩, ⟨by omega, _, rfl, .cells (.cons (RenV.closed Below.lit) (.cons (RenV.closed Below.lit) (.cons (RenV.sl (by omega)) (.cons (RenV.sl (by omega)) (.cons (RenV.sl (by omega)) .nil))))), rfl⟩, trivial⟩
    · refine PickE.callQ h5 (by cbv <;> rfl) (by cbv <;> rfl) ?_ ?_
      · exact (by repeat (first | exact trivial | refine And.intro (by first | exact lv_of hO (by cbv <;> rfl) (by trivial) | (cbv <;> rfl)) ?_))
      refine AnyE.run tok hO (by rfl) (by cbv <;> rfl) (by trivial) ?_
      refine AnyE.many [2, 7] (by cbv <;> rfl) (by rfl) ⟨?_, ?_, trivial⟩
      · refine PickE.eff tok hO (by cbv <;> rfl) (by cbv <;> rfl) (by trivial) ?_ ?_
        · exact (by repeat (first | exact trivial | refine And.intro (by first | exact lv_of hO (by cbv <;> rfl) (by trivial) | (cbv <;> rfl)) ?_))
        refine AnyE.run tok hO (by rfl) (by cbv <;> rfl) (by trivial) ?_
        refine AnyE.effK tok hO (by cbv <;> rfl) (by cbv <;> rfl) (by trivial) ?_ ?_
        · exact (by repeat (first | exact trivial | refine And.intro (by first | exact lv_of hO (by cbv <;> rfl) (by trivial) | (cbv <;> rfl)) ?_))
        refine AnyE.run tok hO (by rfl) (by cbv <;> rfl) (by trivial) ?_
        refine AnyE.effK tok hO (by cbv <;> rfl) (by cbv <;> rfl) (by trivial) ?_ ?_
        · exact (by repeat (first | exact trivial | refine And.intro (by first | exact lv_of hO (by cbv <;> rfl) (by trivial) | (cbv <;> rfl)) ?_))
        refine AnyE.run tok hO (by rfl) (by cbv <;> rfl) (by trivial) ?_
        refine ⟨tabR [(35, 35)], ⟨⟨21, getT [(2, .ptr 33 0)]⟩, []⟩, ⟨twH 1 33, 37⟩, ?_, rfl, _, rfl, ⟨rfl, trivial⟩, rfl⟩
        exact WeakR.tab rfl rfl (by simp) (by rfl) (by show 35 ≤ 37; omega) (by rfl) ⟨RenV.ptr (by omega), trivial⟩ ⟨⟨by omega, _, rfl, .cells (RenVs.closed (AllB.ok ⟨Below.lit, Below.lit, Below.lit, Below.lit, Below.lit, Below.lit, trivial⟩)), rfl⟩, ⟨by omega, _, rfl, .cells (RenVs.closed (AllB.ok ⟨Below.lit, Below.lit, Below.lit, Below.lit, trivial⟩)), rfl⟩, ⟨by omega, _, rfl, .cells (RenVs.closed (AllB.ok ⟨Below.lit, Below.lit, Below.lit, Below.lit, Below.lit, Below.lit, Below.lit, Below.lit, trivial⟩)), rfl⟩, ⟨by omega, _, rfl, .cells (.cons (RenV.closed Below.lit) (.cons (RenV.closed Below.lit) (.cons (RenV.sl (by omega)) (.cons (RenV.sl (by omega)) (.cons (RenV.sl (by omega)) .nil))))), rfl⟩, trivial⟩
      · refine PickE.eff tok hO (by cbv <;> rfl) (by cbv <;> rfl) (by trivial) ?_ ?_
        · exact (by repeat (first | exact trivial | refine And.intro (by first | exact lv_of hO (by cbv <;> rfl) (by trivial) | (cbv <;> rfl)) ?_))
        refine AnyE.run tok hO (by rfl) (by cbv <;> rfl) (by trivial) ?_
        refine AnyE.effK tok hO (by cbv <;> rfl) (by cbv <;> rfl) (by trivial) ?_ ?_
        · exact (by repeat (first | exact trivial | refine And.intro (by first | exact lv_of hO (by cbv <;> rfl) (by trivial) | (cbv <;> rfl)) ?_))
        refine AnyE.run tok hO (by rfl) (by cbv <;> rfl) (by trivial) ?_
        refine AnyE.effK tok hO (by cbv <;> rfl) (by cbv <;> rfl) (by trivial) ?_ ?_
        · exact (by repeat (first | exact trivial | refine And.intro (by first | exact lv_of hO (by cbv <;> rfl) (by trivial) | (cbv <;> rfl)) ?_))
        refine AnyE.run tok hO (by rfl) (by cbv <;> rfl) (by trivial) ?_
        refine ⟨tabR [(35, 36), (36, 35)], ⟨⟨21, getT [(2, .ptr 33 0)]⟩, []⟩, ⟨twH 1 33, 37⟩, ?_, rfl, _, rfl, ⟨rfl, trivial⟩, rfl⟩
        exact WeakR.tab rfl rfl (by simp) (by rfl) (by show 35 ≤ 37; omega) (by rfl) ⟨RenV.ptr (by omega), trivial⟩ ⟨⟨by omega, _, rfl, .cells (RenVs.closed (AllB.ok ⟨Below.lit, Below.lit, Below.lit, Below.lit, Below.lit, Below.lit, trivial⟩)), rfl⟩, ⟨by omega, _, rfl, .cells (RenVs.closed (AllB.ok ⟨Below.lit, Below.lit, Below.lit, Below.lit, trivial⟩)), rfl⟩, ⟨by omega, _, rfl, .cells (RenVs.closed (AllB.ok ⟨Below.lit, Below.lit, Below.lit, Below.lit, Below.lit, Below.lit, Below.lit, Below.lit, trivial⟩)), rfl⟩, ⟨by omega, _, rfl, .cells (.cons (RenV.closed Below.lit) (.cons (RenV.closed Below.lit) (.cons (RenV.sl (by omega)) (.cons (RenV.sl (by omega)) (.cons (RenV.sl (by omega)) .nil))))), rfl⟩, trivial⟩
set_option maxHeartbeats 16000000 in
theorem two_o1_33 : CallW Try.prog 35 [iV 1] ⟨[], 33⟩ (fun v st' => v = .agg (twD 1 33) ∧ st' = ⟨twH 1 33, 37⟩) := by
  obtain ⟨O, hO⟩ : ∃ O : Ar, O = std := ⟨_, rfl⟩
  refine callW_of_body tok Try.func35 (show Try.f35.body = some _ from rfl) ?_
  refine SW.seqRun tok hO (by cbv <;> rfl) (by trivial) ?_
  refine SW.seqRun tok hO (by cbv <;> rfl) (by trivial) ?_
  refine OpsW.callP (between_ok 2 2) (by cbv <;> rfl) ?_
  refine OpsW.run tok hO (by cbv <;> rfl) (by trivial) ?_
  refine OpsW.callP (between_ok 5 9) (by cbv <;> rfl) ?_
  refine OpsW.run tok hO (by cbv <;> rfl) (by trivial) ?_
  refine SW.seq ((two_r1_33 _ O hO (between_ok 20 22) (between_ok 25 25) (between_ok 500 502) (between_ok 610 610) rfl rfl rfl).mono fun e f st hm => ?_)
  obtain ⟨rfl, g, rfl, ⟨g2, _⟩, rfl⟩ := hm
  simp only at g2
  rw [← updT_self g2]
  exact SW.ret ⟨_, _, rfl, rfl, rfl, rfl⟩
set_option maxHeartbeats 16000000 in
theorem two_r1_37 (g : Nat → AV) (O : Ar) (hO : O = std) (h0 : Pure Try.prog 37 [iV 20, iV 22] (rangeV 20 22)) (h1 : Pure Try.prog 37 [iV 25, iV 25] (rangeV 25 25)) (h3 : Pure Try.prog 37 [iV 500, iV 502] (rangeV 500 502)) (h5 : Pure Try.prog 37 [iV 610, iV 610] (rangeV 610 610)) (g0 : g 0 = iV 1) (g2 : g 2 = .ptr 37 0) (g3 : g 3 = .sl 38 0 2 4 true) :
    SW Try.prog none (nthC 2 (bodyF Try.f35)) (midK 21 [(2, .ptr 37 0)] ⟨twH 1 37, 41⟩) ⟨⟨21, g⟩, []⟩ ⟨[(38, .cells none false twC), (37, .cells none false day0)], 39⟩ := by
  rw [← updT_self g0, ← updT_self g2, ← updT_self g3]
  refine SW.ren ?_
  refine SW.runD tok mixed hO (by kernel_rfl) (by cbv <;> rfl) (by trivial) ?_
  refine AnyE.take (r := .sl 38 0 1 4 (Nat.beq 1 2)) (by kernel_rfl) tok 10 rfl (by cbv <;> rfl) (by cbv <;> rfl) ?_
  refine AnyE.run tok hO (by rfl) (by cbv <;> rfl) (by trivial) ?_
  refine AnyE.callP h0 (by cbv <;> rfl) (by cbv <;> rfl) ?_
  refine AnyE.run tok hO (by rfl) (by cbv <;> rfl) (by trivial) ?_
  refine AnyE.callP h1 (by cbv <;> rfl) (by cbv <;> rfl) ?_
  refine AnyE.run tok hO (by rfl) (by cbv <;> rfl) (by trivial) ?_
  refine AnyE.many [2, 3] (by cbv <;> rfl) (by rfl) ⟨?_, ?_, trivial⟩
  · refine PickE.eff tok hO (by cbv <;> rfl) (by cbv <;> rfl) (by trivial) ?_ ?_
    · exact (by repeat (first | exact trivial | refine And.intro (by first | exact lv_of hO (by cbv <;> rfl) (by trivial) | (cbv <;> rfl)) ?_))
    refine AnyE.run tok hO (by rfl) (by cbv <;> rfl) (by trivial) ?_
    refine AnyE.callP h3 (by cbv <;> rfl) (by cbv <;> rfl) ?_
    refine AnyE.run tok hO (by rfl) (by cbv <;> rfl) (by trivial) ?_
    refine AnyE.callP h5 (by cbv <;> rfl) (by cbv <;> rfl) ?_
    refine AnyE.run tok hO (by rfl) (by cbv <;> rfl) (by trivial) ?_
    refine AnyE.effK tok hO (by cbv <;> rfl) (by cbv <;> rfl) (by trivial) ?_ ?_
    · exact (by repeat (first | exact trivial | refine And.intro (by first | exact lv_of hO (by cbv <;> rfl) (by trivial) | (cbv <;> rfl)) ?_))
    refine AnyE.run tok hO (by rfl) (by cbv <;> rfl) (by trivial) ?_
    refine AnyE.effK tok hO (by cbv <;> rfl) (by cbv <;> rfl) (by trivial) ?_ ?_
    · exact (by repeat (first | exact trivial | refine And.intro (by first | exact lv_of hO (by cbv <;> rfl) (by trivial) | (cbv <;> rfl)) ?_))
    refine AnyE.run tok hO (by rfl) (by cbv <;> rfl) (by trivial) ?_
    refine ⟨tabR [(39, 39)], ⟨⟨21, getT [(2, .ptr 37 0)]⟩, []⟩, ⟨twH 1 37, 41⟩, ?_, rfl, _, rfl, ⟨rfl, trivial⟩, rfl⟩
    exact WeakR.tab rfl rfl (by simp) (by rfl) (by show 39 ≤ 41; omega) (by rfl) ⟨RenV.ptr (by omega), trivial⟩ ⟨⟨by omega, _, rfl, .cells (RenVs.closed (AllB.ok ⟨Below.lit, Below.lit, Below.lit, Below.lit, Below.lit, Below.lit, trivial⟩)), rfl⟩, ⟨by omega, _, rfl, .cells (RenVs.closed (AllB.ok ⟨Below.lit, Below.lit, Below.lit, Below.lit, trivial⟩)), rfl⟩, ⟨by omega, _, rfl, .cells (RenVs.closed (AllB.ok ⟨Below.lit, Below.lit, Below.lit, Below.lit, Below.lit, Below.lit, Below.lit, Below.lit, trivial⟩)), rfl⟩, ⟨by omega, _, rfl, .cells (.cons (RenV.closed Below.lit) (.cons (RenV.closed Below.lit) (.cons (RenV.sl (by omega)) (.cons (RenV.sl (by omega)) (.cons (RenV.sl (by omega)) .nil))))), rfl⟩, trivial⟩
  · refine PickE.callQ h3 (by cbv <;> rfl) (by cbv <;> rfl) ?_ ?_
    · exact (by repeat (first | exact trivial | refine And.intro (by first | exact lv_of hO (by cbv <;> rfl) (by trivial) | (cbv <;> rfl)) ?_))
    refine AnyE.run tok hO (by rfl) (by cbv <;> rfl) (by trivial) ?_
    refine AnyE.many [2, 5] (by cbv <;> rfl) (by rfl) ⟨?_, ?_, trivial⟩
    · refine PickE.eff tok hO (by cbv <;> rfl) (by cbv <;> rfl) (by trivial) ?_ ?_
      · exact (by repeat (first | exact trivial | refine And.intro (by first | exact lv_of hO (by cbv <;> rfl) (by trivial) | (cbv <;> rfl)) ?_))
      refine AnyE.run tok hO (by rfl) (by cbv <;> rfl) (by trivial) ?_
      refine AnyE.callP h5 (by cbv <;> rfl) (by cbv <;> rfl) ?_
      refine AnyE.run tok hO (by rfl) (by cbv <;> rfl) (by trivial) ?_
      refine AnyE.effK tok hO (by cbv <;> rfl) (by cbv <;> rfl) (by trivial) ?_ ?_
      · exact (by repeat (first | exact trivial | refine And.intro (by first | exact lv_of hO (by cbv <;> rfl) (by trivial) | (cbv <;> rfl)) ?_))
      refine AnyE.run tok hO (by rfl) (by cbv <;> rfl) (by trivial) ?_
      refine AnyE.effK tok hO (by cbv <;> rfl) (by cbv <;> rfl) (by trivial) ?_ ?_
      · exact (by repeat (first | exact trivial | refine And.intro (by first | exact lv_of hO (by cbv <;> rfl) (by trivial) | (cbv <;> rfl)) ?_))
      refine AnyE.run tok hO (by rfl) (by cbv <;> rfl) (by trivial) ?_
      refine ⟨tabR [(39, 39)], ⟨⟨21, getT [(2, .ptr 37 0)]⟩, []⟩, ⟨twH 1 37, 41⟩, ?_, rfl, _, rfl, ⟨rfl, trivial⟩, rfl⟩
      exact WeakR.tab rfl rfl (by simp) (by rfl) (by show 39 ≤ 41; omega) (by rfl) ⟨RenV.ptr (by omega), trivial⟩ ⟨⟨by omega, _, rfl, .cells (RenVs.closed (AllB.ok ⟨Below.lit, Below.lit, Below.lit, Below.lit, Below.lit, Below.lit, trivial⟩)), rfl⟩, ⟨by omega, _, rfl, .cells (RenVs.closed (AllB.ok ⟨Below.lit, Below.lit, Below.lit, Below.lit, trivial⟩)), rfl⟩, ⟨by omega, _, rfl, .cells (RenVs.closed (AllB.ok ⟨Below.lit, Below.lit, Below.lit, Below.lit, Below.lit, Below.lit, Below.lit, Below.lit, trivial⟩)), rfl⟩, ⟨by omega, _, rfl, .cells (.cons (RenV.closed Below.lit) (.cons (RenV.closed Below.lit) (.cons (RenV.sl (by omega)) (.cons (RenV.sl (by omega)) (.cons (RenV.sl (by omega)) .nil))))), rfl⟩, trivial⟩
    · refine PickE.callQ h5 (by cbv <;> rfl) (by cbv <;> rfl) ?_ ?_
      · exact (by repeat (first | exact trivial | refine And.intro (by first | exact lv_of hO (by cbv <;> rfl) (by trivial) | (cbv <;> rfl)) ?_))
      refine AnyE.run tok hO (by rfl) (by cbv <;> rfl) (by trivial) ?_
      refine AnyE.many [2, 7] (by cbv <;> rfl) (by rfl) ⟨?_, ?_, trivial⟩
      · refine PickE.eff tok hO (by cbv <;> rfl) (by cbv <;> rfl) (by trivial) ?_ ?_
        · exact (by repeat (first | exact trivial | refine And.intro (by first | exact lv_of hO (by cbv <;> rfl) (by trivial) | (cbv <;> rfl)) ?_))
        refine AnyE.run tok hO (by rfl) (by cbv <;> rfl) (by trivial) ?_
        refine AnyE.effK tok hO (by cbv <;> rfl) (by cbv <;> rfl) (by trivial) ?_ ?_
        · exact (by repeat (first | exact trivial | refine And.intro (by first | exact lv_of hO (by cbv <;> rfl) (by trivial) | (cbv <;> rfl)) ?_))
        refine AnyE.run tok hO (by rfl) (by cbv <;> rfl) (by trivial) ?_
        refine AnyE.effK tok hO (by cbv <;> rfl) (by cbv <;> rfl) (by trivial) ?_ ?_
        · exact (by repeat (first | exact trivial | refine And.intro (by first | exact lv_of hO (by cbv <;> rfl) (by trivial) | (cbv <;> rfl)) ?_))
        refine AnyE.run tok hO (by rfl) (by cbv <;> rfl) (by trivial) ?_
        refine ⟨tabR [(39, 39)], ⟨⟨21, getT [(2, .ptr 37 0)]⟩, []⟩, ⟨twH 1 37, 41⟩, ?_, rfl, _, rfl, ⟨rfl, trivial⟩, rfl⟩
        exact WeakR.tab rfl rfl (by simp) (by rfl) (by show 39 ≤ 41; omega) (by rfl) ⟨RenV.ptr (by omega), trivial⟩ ⟨⟨by omega, _, rfl, .cells (RenVs.closed (AllB.ok ⟨Below.lit, Below.lit, Below.lit, Below.lit, Below.lit, Below.lit, trivial⟩)), rfl⟩, ⟨by omega, _, rfl, .cells (RenVs.closed (AllB.ok ⟨Below.lit, Below.lit, Below.lit, Below.lit, trivial⟩)), rfl⟩, ⟨by omega, _, rfl, .cells (RenVs.closed (AllB.ok ⟨Below.lit, Below.lit, Below.lit, Below.lit, Below.lit, Below.lit, Below.lit, Below.lit, trivial⟩)), rfl⟩, ⟨by omega, _, rfl, .cells (.cons (RenV.closed Below.lit) (.cons (RenV.closed Below.lit) (.cons (RenV.sl (by omega)) (.cons (RenV.sl (by omega)) (.cons (RenV.sl (by omega)) .nil))))), rfl⟩, trivial⟩
      · refine PickE.eff tok hO (by cbv <;> rfl) (by cbv <;> rfl) (by trivial) ?_ ?_
        · exact (by repeat (first | exact trivial | refine And.intro (by first | exact lv_of hO (by cbv <;> rfl) (by trivial) | (cbv <;> rfl)) ?_))
        refine AnyE.run tok hO (by rfl) (by cbv <;> rfl) (by trivial) ?_
        refine AnyE.effK tok hO (by cbv <;> rfl) (by cbv <;> rfl) (by trivial) ?_ ?_
        · exact (by repeat (first | exact trivial | refine And.intro (by first | exact lv_of hO (by cbv <;> rfl) (by trivial) | (cbv <;> rfl)) ?_))
        refine AnyE.run tok hO (by rfl) (by cbv <;> rfl) (by trivial) ?_
        refine AnyE.effK tok hO (by cbv <;> rfl) (by cbv <;> rfl) (by trivial) ?_ ?_
        · exact (by repeat (first | exact trivial | refine And.intro (by first | exact lv_of hO (by cbv <;> rfl) (by trivial) | (cbv <;> rfl)) ?_))
        refine AnyE.run tok hO (by rfl) (by cbv <;> rfl) (by trivial) ?_
        refine ⟨tabR [(39, 40), (40, 39)], ⟨⟨21, getT [(2, .ptr 37 0)]⟩, []⟩, ⟨twH 1 37, 41⟩, ?_, rfl, _, rfl, ⟨rfl, trivial⟩, rfl⟩
        exact WeakR.tab rfl rfl (by simp) (by rfl) (by show 39 ≤ 41; omega) (by rfl) ⟨RenV.ptr (by omega), trivial⟩ ⟨⟨by omega, _, rfl, .cells (RenVs.closed (AllB.ok ⟨Below.lit, Below.lit, Below.lit, Below.lit, Below.lit, Below.lit, trivial⟩)), rfl⟩, ⟨by omega, _, rfl, .cells (RenVs.closed (AllB.ok ⟨Below.lit, Below.lit, Below.lit, Below.lit, trivial⟩)), rfl⟩, ⟨by omega, _, rfl, .cells (RenVs.closed (AllB.ok ⟨Below.lit, Below.lit, Below.lit, Below.lit, Below.lit, Below.lit, Below.lit, Below.lit, trivial⟩)), rfl⟩, ⟨by omega, _, rfl, .cells (.cons (RenV.closed Below.lit) (.cons (RenV.closed Below.lit) (.cons (RenV.sl (by omega)) (.cons (RenV.sl (by omega)) (.cons (RenV.sl (by omega)) .nil))))), rfl⟩, trivial⟩
set_option maxHeartbeats 16000000 in
theorem two_o1_37 : CallW Try.prog 35 [iV 1] ⟨[], 37⟩ (fun v st' => v = .agg (twD 1 37) ∧ st' = ⟨twH 1 37, 41⟩) := by
  obtain ⟨O, hO⟩ : ∃ O : Ar, O = std := ⟨_, rfl⟩
  refine callW_of_body tok Try.func35 (show Try.f35.body = some _ from rfl) ?_
  refine SW.seqRun tok hO (by cbv <;> rfl) (by trivial) ?_
  refine SW.seqRun tok hO (by cbv <;> rfl) (by trivial) ?_
  refine OpsW.callP (between_ok 2 2) (by cbv <;> rfl) ?_
  refine OpsW.run tok hO (by cbv <;> rfl) (by trivial) ?_
  refine OpsW.callP (between_ok 5 9) (by cbv <;> rfl) ?_
  refine OpsW.run tok hO (by cbv <;> rfl) (by trivial) ?_
  refine SW.seq ((two_r1_37 _ O hO (between_ok 20 22) (between_ok 25 25) (between_ok 500 502) (between_ok 610 610) rfl rfl rfl).mono fun e f st hm => ?_)
  obtain ⟨rfl, g, rfl, ⟨g2, _⟩, rfl⟩ := hm
  simp only at g2
  rw [← updT_self g2]
  exact SW.ret ⟨_, _, rfl, rfl, rfl, rfl⟩
set_option maxHeartbeats 16000000 in
theorem two_r1_41 (g : Nat → AV) (O : Ar) (hO : O = std) (h0 : Pure Try.prog 37 [iV 20, iV 22] (rangeV 20 22)) (h1 : Pure Try.prog 37 [iV 25, iV 25] (rangeV 25 25)) (h3 : Pure Try.prog 37 [iV 500, iV 502] (rangeV 500 502)) (h5 : Pure Try.prog 37 [iV 610, iV 610] (rangeV 610 610)) (g0 : g 0 = iV 1) (g2 : g 2 = .ptr 41 0) (g3 : g 3 = .sl 42 0 2 4 true) :
    SW Try.prog none (nthC 2 (bodyF Try.f35)) (midK 21 [(2, .ptr 41 0)] ⟨twH 1 41, 45⟩) ⟨⟨21, g⟩, []⟩ ⟨[(42, .cells none false twC), (41, .cells none false day0)], 43⟩ := by
  rw [← updT_self g0, ← updT_self g2, ← updT_self g3]
  refine SW.ren ?_
  refine SW.runD tok mixed hO (by kernel_rfl) (by cbv <;> rfl) (by trivial) ?_
  refine AnyE.take (r := .sl 42 0 1 4 (Nat.beq 1 2)) (by kernel_rfl) tok 10 rfl (by cbv <;> rfl) (by cbv <;> rfl) ?_
  refine AnyE.run tok hO (by rfl) (by cbv <;> rfl) (by trivial) ?_
  refine AnyE.callP h0 (by cbv <;> rfl) (by cbv <;> rfl) ?_
  refine AnyE.run tok hO (by rfl) (by cbv <;> rfl) (by trivial) ?_
  refine AnyE.callP h1 (by cbv <;> rfl) (by cbv <;> rfl) ?_
  refine AnyE.run tok hO (by rfl) (by cbv <;> rfl) (by trivial) ?_
  refine AnyE.many [2, 3] (by cbv <;> rfl) (by rfl) ⟨?_, ?_, trivial⟩
  · refine PickE.eff tok hO (by cbv <;> rfl) (by cbv <;> rfl) (by trivial) ?_ ?_
    · exact (by repeat (first | exact trivial | refine And.intro (by first | exact lv_of hO (by cbv <;> rfl) (by trivial) | (cbv <;> rfl)) ?_))
    refine AnyE.run tok hO (by rfl) (by cbv <;> rfl) (by trivial) ?_
    refine AnyE.callP h3 (by cbv <;> rfl) (by cbv <;> rfl) ?_
    refine AnyE.run tok hO (by rfl) (by cbv <;> rfl) (by trivial) ?_
    refine AnyE.callP h5 (by cbv <;> rfl) (by cbv <;> rfl) ?_
    refine AnyE.run tok hO (by rfl) (by cbv <;> rfl) (by trivial) ?_
    refine AnyE.effK tok hO (by cbv <;> rfl) (by cbv <;> rfl) (by trivial) ?_ ?_
    · exact (by repeat (first | exact trivial | refine And.intro (by first | exact lv_of hO (by cbv <;> rfl) (by trivial) | (cbv <;> rfl)) ?_))
    refine AnyE.run tok hO (by rfl) (by cbv <;> rfl) (by trivial) ?_
    refine AnyE.effK tok hO (by cbv <;> rfl) (by cbv <;> rfl) (by trivial) ?_ ?_
    · exact (by repeat (first | exact trivial | refine And.intro (by first | exact lv_of hO (by cbv <;> rfl) (by trivial) | (cbv <;> rfl)) ?_))
    refine AnyE.run tok hO (by rfl) (by cbv <;> rfl) (by trivial) ?_
    refine ⟨tabR [(43, 43)], ⟨⟨21, getT [(2, .ptr 41 0)]⟩, []⟩, ⟨twH 1 41, 45⟩, ?_, rfl, _, rfl, ⟨rfl, trivial⟩, rfl⟩
    exact WeakR.tab rfl rfl (by simp) (by rfl) (by show 43 ≤ 45; omega) (by rfl) ⟨RenV.ptr (by omega), trivial⟩ ⟨⟨by omega, _, rfl, .cells (RenVs.closed (AllB.ok ⟨Below.lit, Below.lit, Below.lit, Below.lit, Below.lit, Below.lit, trivial⟩)), rfl⟩, ⟨by omega, _, rfl, .cells (RenVs.closed (AllB.ok ⟨Below.lit, Below.lit, Below.lit, Below.lit, trivial⟩)), rfl⟩, ⟨by omega, _, rfl, .cells (RenVs.closed (AllB.ok ⟨Below.lit, Below.lit, Below.lit, Below.lit, Below.lit, Below.lit, Below.lit, Below.lit, trivial⟩)), rfl⟩, ⟨by omega, _, rfl, .cells (.cons (RenV.closed Below.lit) (.cons (RenV.closed Below.lit) (.cons (RenV.sl (by omega)) (.cons (RenV.sl (by omega)) (.cons (RenV.sl (by omega)) .nil))))), rfl⟩, trivial⟩
  · refine PickE.callQ h3 (by cbv <;> rfl) (by cbv <;> rfl) ?_ ?_
    · exact (by repeat (first | exact trivial | refine And.intro (by first | exact lv_of hO (by cbv <;> rfl) (by trivial) | (cbv <;> rfl)) ?_))
    refine AnyE.run tok hO (by rfl) (by cbv <;> rfl) (by trivial) ?_
    refine AnyE.many [2, 5] (by cbv <;> rfl) (by rfl) ⟨?_, ?_, trivial⟩
    · refine PickE.eff tok hO (by cbv <;> rfl) (by cbv <;> rfl) (by trivial) ?_ ?_
      · exact (by repeat (first | exact trivial | refine And.intro (by first | exact lv_of hO (by cbv <;> rfl) (by trivial) | (cbv <;> rfl)) ?_))
      refine AnyE.run tok hO (by rfl) (by cbv <;> rfl) (by trivial) ?_
      refine AnyE.callP h5 (by cbv <;> rfl) (by cbv <;> rfl) ?_
      refine AnyE.run tok hO (by rfl) (by cbv <;> rfl) (by trivial) ?_
      refine AnyE.effK tok hO (by cbv <;> rfl) (by cbv <;> rfl) (by trivial) ?_ ?_
      · exact (by repeat (first | exact trivial | refine And.intro (by first | exact lv_of hO (by cbv <;> rfl) (by trivial) | (cbv <;> rfl)) ?_))
      refine AnyE.run tok hO (by rfl) (by cbv <;> rfl) (by trivial) ?_
      refine AnyE.effK tok hO (by cbv <;> rfl) (by cbv <;> rfl) (by trivial) ?_ ?_
      · exact (by repeat (first | exact trivial | refine And.intro (by first | exact lv_of hO (by cbv <;> rfl) (by trivial) | (cbv <;> rfl)) ?_))
      refine AnyE.run tok hO (by rfl) (by cbv <;> rfl) (by trivial) ?_
      refine ⟨tabR [(43, 43)], ⟨⟨21, getT [(2, .ptr 41 0)]⟩, []⟩, ⟨twH 1 41, 45⟩, ?_, rfl, _, rfl, ⟨rfl, trivial⟩, rfl⟩
      exact WeakR.tab rfl rfl (by simp) (by rfl) (by show 43 ≤ 45; omega) (by rfl) ⟨RenV.ptr (by omega), trivial⟩ ⟨⟨by omega, _, rfl, .cells (RenVs.closed (AllB.ok ⟨Below.lit, Below.lit, Below.lit, Below.lit, Below.lit, Below.lit, trivial⟩)), rfl⟩, ⟨by omega, _, rfl, .cells (RenVs.closed (AllB.ok ⟨Below.lit, Below.lit, Below.lit, Below.lit, trivial⟩)), rfl⟩, ⟨by omega, _, rfl, .cells (RenVs.closed (AllB.ok ⟨Below.lit, Below.lit, Below.lit, Below.lit, Below.lit, Below.lit, Below.lit, Below.lit, trivial⟩)), rfl⟩, ⟨by omega, _, rfl, .cells (.cons (RenV.closed Below.lit) (.cons (RenV.closed Below.lit) (.cons (RenV.sl (by omega)) (.cons (RenV.sl (by omega)) (.cons (RenV.sl (by omega)) .nil))))), rfl⟩, trivial⟩
    · refine PickE.callQ h5 (by cbv <;> rfl) (by cbv <;> rfl) ?_ ?_
      · exact (by repeat (first | exact trivial | refine And.intro (by first | exact lv_of hO (by cbv <;> rfl) (by trivial) | (cbv <;> rfl)) ?_))
      refine AnyE.run tok hO (by rfl) (by cbv <;> rfl) (by trivial) ?_
      refine AnyE.many [2, 7] (by cbv <;> rfl) (by rfl) ⟨?_, ?_, trivial⟩
      · refine PickE.eff tok hO (by cbv <;> rfl) (by cbv <;> rfl) (by trivial) ?_ ?_
        · exact (by repeat (first | exact trivial | refine And.intro (by first | exact lv_of hO (by cbv <;> rfl) (by trivial) | (cbv <;> rfl)) ?_))
        refine AnyE.run tok hO (by rfl) (by cbv <;> rfl) (by trivial) ?_
        refine AnyE.effK tok hO (by cbv <;> rfl) (by cbv <;> rfl) (by trivial) ?_ ?_
        · exact (by repeat (first | exact trivial | refine And.intro (by first | exact lv_of hO (by cbv <;> rfl) (by trivial) | (cbv <;> rfl)) ?_))
        refine AnyE.run tok hO (by rfl) (by cbv <;> rfl) (by trivial) ?_
        refine AnyE.effK tok hO (by cbv <;> rfl) (by cbv <;> rfl) (by trivial) ?_ ?_
        · exact (by repeat (first | exact trivial | refine And.intro (by first | exact lv_of hO (by cbv <;> rfl) (by trivial) | (cbv <;> rfl)) ?_))
        refine AnyE.run tok hO (by rfl) (by cbv <;> rfl) (by trivial) ?_
        refine ⟨tabR [(43, 43)], ⟨⟨21, getT [(2, .ptr 41 0)]⟩, []⟩, ⟨twH 1 41, 45⟩, ?_, rfl, _, rfl, ⟨rfl, trivial⟩, rfl⟩
        exact WeakR.tab rfl rfl (by simp) (by rfl) (by show 43 ≤ 45; omega) (by rfl) ⟨RenV.ptr (by omega), trivial⟩ ⟨⟨by omega, _, rfl, .cells (RenVs.closed (AllB.ok ⟨Below.lit, Below.lit, Below.lit, Below.lit, Below.lit, Below.lit, trivial⟩)), rfl⟩, ⟨by omega, _, rfl, .cells (RenVs.closed (AllB.ok ⟨Below.lit, Below.lit, Below.lit, Below.lit, trivial⟩)), rfl⟩, ⟨by omega, _, rfl, .cells (RenVs.closed (AllB.ok ⟨Below.lit, Below.lit, Below.lit, Below.lit, Below.lit, Below.lit, Below.lit, Below.lit, trivial⟩)), rfl⟩, ⟨by omega, _, rfl, .cells (.cons (RenV.closed Below.lit) (.cons (RenV.closed Below.lit) (.cons (RenV.sl (by omega)) (.cons (RenV.sl (by omega)) (.cons (RenV.sl (by omega)) .nil))))), rfl⟩, trivial⟩
      · refine PickE.eff tok hO (by cbv <;> rfl) (by cbv <;> rfl) (by trivial) ?_ ?_
        · exact (by repeat (first | exact trivial | refine And.intro (by first | exact lv_of hO (by cbv <;> rfl) (by trivial) | (cbv <;> rfl)) ?_))
        refine AnyE.run tok hO (by rfl) (by cbv <;> rfl) (by trivial) ?_
        refine AnyE.effK tok hO (by cbv <;> rfl) (by cbv <;> rfl) (by trivial) ?_ ?_
        · exact (by repeat (first | exact trivial | refine And.intro (by first | exact lv_of hO (by cbv <;> rfl) (by trivial) | (cbv <;> rfl)) ?_))
        refine AnyE.run tok hO (by rfl) (by cbv <;> rfl) (by trivial) ?_
        refine AnyE.effK tok hO (by cbv <;> rfl) (by cbv <;> rfl) (by trivial) ?_ ?_
        · exact (by repeat (first | exact trivial | refine And.intro (by first | exact lv_of hO (by cbv <;> rfl) (by trivial) | (cbv <;> rfl)) ?_))
        refine AnyE.run tok hO (by rfl) (by cbv <;> rfl) (by trivial) ?_
        refine ⟨tabR [(43, 44), (44, 43)], ⟨⟨21, getT [(2, .ptr 41 0)]⟩, []⟩, ⟨twH 1 41, 45⟩, ?_, rfl, _, rfl, ⟨rfl, trivial⟩, rfl⟩
        exact WeakR.tab rfl rfl (by simp) (by rfl) (by show 43 ≤ 45; omega) (by rfl) ⟨RenV.ptr (by omega), trivial⟩ ⟨⟨by omega, _, rfl, .cells (RenVs.closed (AllB.ok ⟨Below.lit, Below.lit, Below.lit, Below.lit, Below.lit, Below.lit, trivial⟩)), rfl⟩, ⟨by omega, _, rfl, .cells (RenVs.closed (AllB.ok ⟨Below.lit, Below.lit, Below.lit, Below.lit, trivial⟩)), rfl⟩, ⟨by omega, _, rfl, .cells (RenVs.closed (AllB.ok ⟨Below.lit, Below.lit, Below.lit, Below.lit, Below.lit, Below.lit, Below.lit, Below.lit, trivial⟩)), rfl⟩, ⟨by omega, _, rfl, .cells (.cons (RenV.closed Below.lit) (.cons (RenV.closed Below.lit) (.cons (RenV.sl (by omega)) (.cons (RenV.sl (by omega)) (.cons (RenV.sl (by omega)) .nil))))), rfl⟩, trivial⟩
set_option maxHeartbeats 16000000 in
theorem two_o1_41 : CallW Try.prog 35 [iV 1] ⟨[], 41⟩ (fun v st' => v = .agg (twD 1 41) ∧ st' = ⟨twH 1 41, 45⟩) := by
  obtain ⟨O, hO⟩ : ∃ O : Ar, O = std := ⟨_, rfl⟩
  refine callW_of_body tok Try.func35 (show Try.f35.body = some _ from rfl) ?_
  refine SW.seqRun tok hO (by cbv <;> rfl) (by trivial) ?_
  refine SW.seqRun tok hO (by cbv <;> rfl) (by trivial) ?_
  refine OpsW.callP (between_ok 2 2) (by cbv <;> rfl) ?_
  refine OpsW.run tok hO (by cbv <;> rfl) (by trivial) ?_
  refine OpsW.callP (between_ok 5 9) (by cbv <;> rfl) ?_
  refine OpsW.run tok hO (by cbv <;> rfl) (by trivial) ?_
  refine SW.seq ((two_r1_41 _ O hO (between_ok 20 22) (between_ok 25 25) (between_ok 500 502) (between_ok 610 610) rfl rfl rfl).mono fun e f st hm => ?_)
  obtain ⟨rfl, g, rfl, ⟨g2, _⟩, rfl⟩ := hm
  simp only at g2
  rw [← updT_self g2]
  exact SW.ret ⟨_, _, rfl, rfl, rfl, rfl⟩
set_option maxHeartbeats 16000000 in
theorem two_r1_45 (g : Nat → AV) (O : Ar) (hO : O = std) (h0 : Pure Try.prog 37 [iV 20, iV 22] (rangeV 20 22)) (h1 : Pure Try.prog 37 [iV 25, iV 25] (rangeV 25 25)) (h3 : Pure Try.prog 37 [iV 500, iV 502] (rangeV 500 502)) (h5 : Pure Try.prog 37 [iV 610, iV 610] (rangeV 610 610)) (g0 : g 0 = iV 1) (g2 : g 2 = .ptr 45 0) (g3 : g 3 = .sl 46 0 2 4 true) :
    SW Try.prog none (nthC 2 (bodyF Try.f35)) (midK 21 [(2, .ptr 45 0)] ⟨twH 1 45, 49⟩) ⟨⟨21, g⟩, []⟩ ⟨[(46, .cells none false twC), (45, .cells none false day0)], 47⟩ := by
  rw [← updT_self g0, ← updT_self g2, ← updT_self g3]
  refine SW.ren ?_
  refine SW.runD tok mixed hO (by kernel_rfl) (by cbv <;> rfl) (by trivial) ?_
  refine AnyE.take (r := .sl 46 0 1 4 (Nat.beq 1 2)) (by kernel_rfl) tok 10 rfl (by cbv <;> rfl) (by cbv <;> rfl) ?_
  refine AnyE.run tok hO (by rfl) (by cbv <;> rfl) (by trivial) ?_
  refine AnyE.callP h0 (by cbv <;> rfl) (by cbv <;> rfl) ?_
  refine AnyE.run tok hO (by rfl) (by cbv <;> rfl) (by trivial) ?_
  refine AnyE.callP h1 (by cbv <;> rfl) (by cbv <;> rfl) ?_
  refine AnyE.run tok hO (by rfl) (by cbv <;> rfl) (by trivial) ?_
  refine AnyE.many [2, 3] (by cbv <;> rfl) (by rfl) ⟨?_, ?_, trivial⟩
  · refine PickE.eff tok hO (by cbv <;> rfl) (by cbv <;> rfl) (by trivial) ?_ ?_
    · exact (by repeat (first | exact trivial | refine And.intro (by first | exact lv_of hO (by cbv <;> rfl) (by trivial) | (cbv <;> rfl)) ?_))
    refine AnyE.run tok hO (by rfl) (by cbv <;> rfl) (by trivial) ?_
    refine AnyE.callP h3 (by cbv <;> rfl) (by cbv <;> rfl) ?_
    refine AnyE.run tok hO (by rfl) (by cbv <;> rfl) (by trivial) ?_
    refine AnyE.callP h5 (by cbv <;> rfl) (by cbv <;> rfl) ?_
    refine AnyE.run tok hO (by rfl) (by cbv <;> rfl) (by trivial) ?_
    refine AnyE.effK tok hO (by cbv <;> rfl) (by cbv <;> rfl) (by trivial) ?_ ?_
    · exact (by repeat (first | exact trivial | refine And.intro (by first | exact lv_of hO (by cbv <;> rfl) (by trivial) | (cbv <;> rfl)) ?_))
    refine AnyE.run tok hO (by rfl) (by cbv <;> rfl) (by trivial) ?_
    refine AnyE.effK tok hO (by cbv <;> rfl) (by cbv <;> rfl) (by trivial) ?_ ?_
    · exact (by repeat (first | exact trivial | refine And.intro (by first | exact lv_of hO (by cbv <;> rfl) (by trivial) | (cbv <;> rfl)) ?_))
    refine AnyE.run tok hO (by rfl) (by cbv <;> rfl) (by trivial) ?_
    refine ⟨tabR [(47, 47)], ⟨⟨21, getT [(2, .ptr 45 0)]⟩, []⟩, ⟨twH 1 45, 49⟩, ?_, rfl, _, rfl, ⟨rfl, trivial⟩, rfl⟩
    exact WeakR.tab rfl rfl (by simp) (by rfl) (by show 47 ≤ 49; omega) (by rfl) ⟨RenV.ptr (by omega), trivial⟩ ⟨⟨by omega, _, rfl, .cells (RenVs.closed (AllB.ok ⟨Below.lit, Below.lit, Below.lit, Below.lit, Below.lit, Below.lit, trivial⟩)), rfl⟩, ⟨by omega, _, rfl, .cells (RenVs.closed (AllB.ok ⟨Below.lit, Below.lit, Below.lit, Below.lit, trivial⟩)), rfl⟩, ⟨by omega, _, rfl, .cells (RenVs.closed (AllB.ok ⟨Below.lit, Below.lit, Below.lit, Below.lit, Below.lit, Below.lit, Below.lit, Below.lit, trivial⟩)), rfl⟩, ⟨by omega, _, rfl, .cells (.cons (RenV.closed Below.lit) (.cons (RenV.closed Below.lit) (.cons (RenV.sl (by omega)) (.cons (RenV.sl (by omega)) (.cons (RenV.sl (by omega)) .nil))))), rfl⟩, trivial⟩
  · refine PickE.callQ h3 (by cbv <;> rfl) (by cbv <;> rfl) ?_ ?_
    · exact (by repeat (first | exact trivial | refine And.intro (by first | exact lv_of hO (by cbv <;> rfl) (by trivial) | (cbv <;> rfl)) ?_))
    refine AnyE.run tok hO (by rfl) (by cbv <;> rfl) (by trivial) ?_
    refine AnyE.many [2, 5] (by cbv <;> rfl) (by rfl) ⟨?_, ?_, trivial⟩
    · refine PickE.eff tok hO (by cbv <;> rfl) (by cbv <;> rfl) (by trivial) ?_ ?_
      · exact (by repeat (first | exact trivial | refine And.intro (by first | exact lv_of hO (by cbv <;> rfl) (by trivial) | (cbv <;> rfl)) ?_))
      refine AnyE.run tok hO (by rfl) (by cbv <;> rfl) (by trivial) ?_
      refine AnyE.callP h5 (by cbv <;> rfl) (by cbv <;> rfl) ?_
      refine AnyE.run tok hO (by rfl) (by cbv <;> rfl) (by trivial) ?_
      refine AnyE.effK tok hO (by cbv <;> rfl) (by cbv <;> rfl) (by trivial) ?_ ?_
      · exact (by repeat (first | exact trivial | refine And.intro (by first | exact lv_of hO (by cbv <;> rfl) (by trivial) | (cbv <;> rfl)) ?_))
      refine AnyE.run tok hO (by rfl) (by cbv <;> rfl) (by trivial) ?_
      refine AnyE.effK tok hO (by cbv <;> rfl) (by cbv <;> rfl) (by trivial) ?_ ?_
      · exact (by repeat (first | exact trivial | refine And.intro (by first | exact lv_of hO (by cbv <;> rfl) (by trivial) | (cbv <;> rfl)) ?_))
      refine AnyE.run tok hO (by rfl) (by cbv <;> rfl) (by trivial) ?_
      refine ⟨tabR [(47, 47)], ⟨⟨21, getT [(2, .ptr 45 0)]⟩, []⟩, ⟨twH 1 45, 49⟩, ?_, rfl, _, rfl, ⟨rfl, trivial⟩, rfl⟩
      exact WeakR.tab rfl rfl (by simp) (by rfl) (by show 47 ≤ 49; omega) (by rfl) ⟨RenV.ptr (by omega), trivial⟩ ⟨⟨by omega, _, rfl, .cells (RenVs.closed (AllB.ok ⟨Below.lit, Below.lit, Below.lit, Below.lit, Below.lit, Below.lit, trivial⟩)), rfl⟩, ⟨by omega, _, rfl, .cells (RenVs.closed (AllB.ok ⟨Below.lit, Below.lit, Below.lit, Below.lit, trivial⟩)), rfl⟩, ⟨by omega, _, rfl, .cells (RenVs.closed (AllB.ok ⟨Below.lit, Below.lit, Below.lit, Below.lit, Below.lit, Below.lit, Below.lit, Below.lit, trivial⟩)), rfl⟩, ⟨by omega, _, rfl, .cells (.cons (RenV.closed Below.lit) (.cons (RenV.closed Below.lit) (.cons (RenV.sl (by omega)) (.cons (RenV.sl (by omega)) (.cons (RenV.sl (by omega)) .nil))))), rfl⟩, trivial⟩
    · refine PickE.callQ h5 (by cbv <;> rfl) (by cbv <;> rfl) ?_ ?_
      · exact (by repeat (first | exact trivial | refine And.intro (by first | exact lv_of hO (by cbv <;> rfl) (by trivial) | (cbv <;> rfl)) ?_))
      refine AnyE.run tok hO (by rfl) (by cbv <;> rfl) (by trivial) ?_
      refine AnyE.many [2, 7] (by cbv <;> rfl) (by rfl) ⟨?_, ?_, trivial⟩
      · refine PickE.eff tok hO (by cbv <;> rfl) (by cbv <;> rfl) (by trivial) ?_ ?_
        · exact (by repeat (first | exact trivial | refine And.intro (by first | exact lv_of hO (by cbv <;> rfl) (by trivial) | (cbv <;> rfl)) ?_))
        refine AnyE.run tok hO (by rfl) (by cbv <;> rfl) (by trivial) ?_
        refine AnyE.effK tok hO (by cbv <;> rfl) (by cbv <;> rfl) (by trivial) ?_ ?_
        · exact (by repeat (first | exact trivial | refine And.intro (by first | exact lv_of hO (by cbv <;> rfl) (by trivial) | (cbv <;> rfl)) ?_))
        refine AnyE.run tok hO (by rfl) (by cbv <;> rfl) (by trivial) ?_
        refine AnyE.effK tok hO (by cbv <;> rfl) (by cbv <;> rfl) (by trivial) ?_ ?_
        · exact (by repeat (first | exact trivial | refine And.intro (by first | exact lv_of hO (by cbv <;> rfl) (by trivial) | (cbv <;> rfl)) ?_))
        refine AnyE.run tok hO (by rfl) (by cbv <;> rfl) (by trivial) ?_
        refine ⟨tabR [(47, 47)], ⟨⟨21, getT [(2, .ptr 45 0)]⟩, []⟩, ⟨twH 1 45, 49⟩, ?_, rfl, _, rfl, ⟨rfl, trivial⟩, rfl⟩
        exact WeakR.tab rfl rfl (by simp) (by rfl) (by show 47 ≤ 49; omega) (by rfl) ⟨RenV.ptr (by omega), trivial⟩ ⟨⟨by omega, _, rfl, .cells (RenVs.closed (AllB.ok ⟨Below.lit, Below.lit, Below.lit, Below.lit, Below.lit, Below.lit, trivial⟩)), rfl⟩, ⟨by omega, _, rfl, .cells (RenVs.closed (AllB.ok ⟨Below.lit, Below.lit, Below.lit, Below.lit, trivial⟩)), rfl⟩, ⟨by omega, _, rfl, .cells (RenVs.closed (AllB.ok ⟨Below.lit, Below.lit, Below.lit, Below.lit, Below.lit, Below.lit, Below.lit, Below.lit, trivial⟩)), rfl⟩, ⟨by omega, _, rfl, .cells (.cons (RenV.closed Below.lit) (.cons (RenV.closed Below.lit) (.cons (RenV.sl (by omega)) (.cons (RenV.sl (by omega)) (.cons (RenV.sl (by omega)) .nil))))), rfl⟩, trivial⟩
      · refine PickE.eff tok hO (by cbv <;> rfl) (by cbv <;> rfl) (by trivial) ?_ ?_
        · exact (by repeat (first | exact trivial | refine And.intro (by first | exact lv_of hO (by cbv <;> rfl) (by trivial) | (cbv <;> rfl)) ?_))
        refine AnyE.run tok hO (by rfl) (by cbv <;> rfl) (by trivial) ?_
        refine AnyE.effK tok hO (by cbv <;> rfl) (by cbv <;> rfl) (by trivial) ?_ ?_
        · exact (by repeat (first | exact trivial | refine And.intro (by first | exact lv_of hO (by cbv <;> rfl) (by trivial) | (cbv <;> rfl)) ?_))
        refine AnyE.run tok hO (by rfl) (by cbv <;> rfl) (by trivial) ?_
        refine AnyE.effK tok hO (by cbv <;> rfl) (by cbv <;> rfl) (by trivial) ?_ ?_
        · exact (by repeat (first | exact trivial | refine And.intro (by first | exact lv_of hO (by cbv <;> rfl) (by trivial) | (cbv <;> rfl)) ?_))
        refine AnyE.run tok hO (by rfl) (by cbv <;> rfl) (by trivial) ?_
        refine ⟨tabR [(47, 48), (48, 47)], ⟨⟨21, getT [(2, .ptr 45 0)]⟩, []⟩, ⟨twH 1 45, 49⟩, ?_, rfl, _, rfl, ⟨rfl, trivial⟩, rfl⟩
        exact WeakR.tab rfl rfl (by simp) (by rfl) (by show 47 ≤ 49; omega) (by rfl) ⟨RenV.ptr (by omega), trivial⟩ ⟨⟨by omega, _, rfl, .cells (RenVs.closed (AllB.ok ⟨Below.lit, Below.lit, Below.lit, Below.lit, Below.lit, Below.lit, trivial⟩)), rfl⟩, ⟨by omega, _, rfl, .cells (RenVs.closed (AllB.ok ⟨Below.lit, Below.lit, Below.lit, Below.lit, trivial⟩)), rfl⟩, ⟨by omega, _, rfl, .cells (RenVs.closed (AllB.ok ⟨Below.lit, Below.lit, Below.lit, Below.lit, Below.lit, Below.lit, Below.lit, Below.lit, trivial⟩)), rfl⟩, ⟨by omega, _, rfl, .cells (.cons (RenV.closed Below.lit) (.cons (RenV.closed Below.lit) (.cons (RenV.sl (by omega)) (.cons (RenV.sl (by omega)) (.cons (RenV.sl (by omega)) .nil))))), rfl⟩, trivial⟩
set_option maxHeartbeats 16000000 in
theorem two_o1_45 : CallW Try.prog 35 [iV 1] ⟨[], 45⟩ (fun v st' => v = .agg (twD 1 45) ∧ st' = ⟨twH 1 45, 49⟩) := by
  obtain ⟨O, hO⟩ : ∃ O : Ar, O = std := ⟨_, rfl⟩
  refine callW_of_body tok Try.func35 (show Try.f35.body = some _ from rfl) ?_
  refine SW.seqRun tok hO (by cbv <;> rfl) (by trivial) ?_
  refine SW.seqRun tok hO (by cbv <;> rfl) (by trivial) ?_
  refine OpsW.callP (between_ok 2 2) (by cbv <;> rfl) ?_
  refine OpsW.run tok hO (by cbv <;> rfl) (by trivial) ?_
  refine OpsW.callP (between_ok 5 9) (by cbv <;> rfl) ?_
  refine OpsW.run tok hO (by cbv <;> rfl) (by trivial) ?_
  refine SW.seq ((two_r1_45 _ O hO (between_ok 20 22) (between_ok 25 25) (between_ok 500 502) (between_ok 610 610) rfl rfl rfl).mono fun e f st hm => ?_)
  obtain ⟨rfl, g, rfl, ⟨g2, _⟩, rfl⟩ := hm
  simp only at g2
  rw [← updT_self g2]
  exact SW.ret ⟨_, _, rfl, rfl, rfl, rfl⟩
end Go.Fz
