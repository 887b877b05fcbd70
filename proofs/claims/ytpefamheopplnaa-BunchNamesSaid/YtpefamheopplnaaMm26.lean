/- Own work of the verifier of watercress: FzT11, FzFe1, FzBo1. -/
import Derived.Test.YtpefamheopplnaaMm16
import Derived.Test.YtpefamheopplnaaMm23
import Derived.Test.YtpefamheopplnaaMm11
set_option linter.unusedVariables false
set_option linter.unusedSimpArgs false
namespace Go.Fz
open Go.Proofs
set_option maxRecDepth 100000
set_option linter.unusedVariables false
theorem open_range (d : DayD) (e1 : Pure Try.prog 40 [dayV d] (iV 0)) : Pure Try.prog 57 [dayV d, .lit (.bool false)] (.tup [.agg stZ, iV 2]) := by
  obtain ⟨O, hO⟩ : ∃ O : Ar, O = std := ⟨_, rfl⟩
  have hz : O.cmp .neq 0 0 = false := by subst hO; rfl
  refine pure_of_body tok 3 Try.func57 en57 rfl ⟨dayV_below d, Below.lit, trivial⟩ (Below.tup (AllB.ok ⟨Below.agg (AllB.ok ⟨Below.lit, Below.lit, Below.lit, Below.lit, Below.lit, Below.lit, Below.lit, trivial⟩), Below.lit, trivial⟩)) ?_
  refine SW.seqRun tok hO (by cbv <;> rfl) (by trivial) ?_
  refine SW.seq ?_
  refine SW.seqRun tok hO (by cbv <;> rfl) (by trivial) ?_
  refine OpsW.callP e1 (by cbv <;> rfl) ?_
  refine OpsW.run tok hO (by cbv <;> rfl) (by trivial) ?_
  refine SW.seqRun tok hO (by cbv <;> rfl) (by trivial) ?_
  refine SW.condS (by cbv <;> rfl) (fun h => absurd (show false = true from hz.symm.trans h) (by decide)) (fun h => SW.skip ?_)
  refine SW.seq ?_
  refine SW.seqRun tok hO (by cbv <;> rfl) (by trivial) ?_
  refine SW.condS (by cbv <;> rfl) (fun h => ?_) (fun h => absurd h (by decide))
  refine SW.seqRun tok hO (by cbv <;> rfl) (by trivial) ?_
  exact SW.ret ⟨_, _, rfl, rfl, Eqv.of rfl⟩
end Go.Fz
namespace Go.Fz
open Go.Proofs
set_option maxRecDepth 100000
set_option linter.unusedVariables false
def tkF (w n e : Int) : List (Nat × AV) := [(1, iV w), (2, iV n), (3, .ptr 0 0), (8, .ptr 1 0), (9, iV e)]
set_option maxHeartbeats 8000000 in
theorem tz_w (d : DayD) (w n e : Int)
    (e1 : Pure Try.prog 73 [dayV d, iV w] (.lit (.bool false)))
    (e2 : Pure Try.prog 57 [dayV d, .lit (.bool false)] (.tup [.agg stZ, iV e])) (g : Nat → AV) (h : AllP (fun p => g p.1 = p.2) [(1, iV w), (2, iV n), (3, .ptr 0 0)]) :
    SW Try.prog none (nthC 1 (bodyF Try.f23)) (midK 58 (tkF w n e) (tkZ d)) ⟨⟨58, g⟩, []⟩ ⟨[(0, .cells none false (dayC d))], 1⟩ := by
  obtain ⟨O, hO⟩ : ∃ O : Ar, O = std := ⟨_, rfl⟩
  obtain ⟨g1, g2, g3, _⟩ := h
  simp only at g1 g2 g3
  rw [← updT_self g1, ← updT_self g2, ← updT_self g3]
  refine SW.ren ?_
  refine SW.runD tok mixed hO (by rfl) (by cbv <;> rfl) (by trivial) ?_
  refine AnyE.many [3, 16] (by cbv <;> rfl) (by rfl) ⟨?_, ?_, trivial⟩
  · refine PickE.callQ e1 (by cbv <;> rfl) (by cbv <;> rfl) ?_ ?_
    · exact (by repeat (first | exact trivial | refine And.intro (by first | exact LV.of (lv_of hO (by cbv <;> rfl) (by trivial)) | exact lv_of hO (by cbv <;> rfl) (by trivial) | (cbv <;> rfl) | exact ⟨_, lv_of hO (by cbv <;> rfl) (by trivial), Eqv.lit h1⟩ | exact ⟨_, lv_of hO (by cbv <;> rfl) (by trivial), Eqv.lit h2⟩) ?_))
    refine AnyE.run tok hO (by rfl) (by cbv <;> rfl) (by trivial) ?_
    refine AnyE.many [12, 16] (by cbv <;> rfl) (by rfl) ⟨?_, ?_, trivial⟩
    · refine PickE.callQ e2 (by cbv <;> rfl) (by cbv <;> rfl) ?_ ?_
      · exact (by repeat (first | exact trivial | refine And.intro (by first | exact LV.of (lv_of hO (by cbv <;> rfl) (by trivial)) | exact lv_of hO (by cbv <;> rfl) (by trivial) | (cbv <;> rfl) | exact ⟨_, lv_of hO (by cbv <;> rfl) (by trivial), Eqv.lit h1⟩ | exact ⟨_, lv_of hO (by cbv <;> rfl) (by trivial), Eqv.lit h2⟩) ?_))
      refine AnyE.run tok hO (by rfl) (by cbv <;> rfl) (by trivial) ?_
      refine AnyE.effK tok hO (by cbv <;> rfl) (by cbv <;> rfl) (by trivial) ?_ ?_
      · exact (by repeat (first | exact trivial | refine And.intro (by first | exact LV.of (lv_of hO (by cbv <;> rfl) (by trivial)) | exact lv_of hO (by cbv <;> rfl) (by trivial) | (cbv <;> rfl) | exact ⟨_, lv_of hO (by cbv <;> rfl) (by trivial), Eqv.lit h1⟩ | exact ⟨_, lv_of hO (by cbv <;> rfl) (by trivial), Eqv.lit h2⟩) ?_))
      refine AnyE.run tok hO (by rfl) (by cbv <;> rfl) (by trivial) ?_
      refine AnyE.effK tok hO (by cbv <;> rfl) (by cbv <;> rfl) (by trivial) ?_ ?_
      · exact (by repeat (first | exact trivial | refine And.intro (by first | exact LV.of (lv_of hO (by cbv <;> rfl) (by trivial)) | exact lv_of hO (by cbv <;> rfl) (by trivial) | (cbv <;> rfl) | exact ⟨_, lv_of hO (by cbv <;> rfl) (by trivial), Eqv.lit h1⟩ | exact ⟨_, lv_of hO (by cbv <;> rfl) (by trivial), Eqv.lit h2⟩) ?_))
      refine AnyE.run tok hO (by rfl) (by cbv <;> rfl) (by trivial) ?_
      refine ⟨tabR [(1, 1)], ⟨⟨58, getT (tkF w n e)⟩, []⟩, tkZ d, ?_, rfl, _, rfl, ⟨rfl, rfl, rfl, rfl, rfl, trivial⟩, rfl⟩
      exact WeakR.tab rfl rfl (by simp) (by rfl) (by show 1 ≤ 2; omega) (by rfl) ⟨RenV.closed Below.lit, RenV.closed Below.lit, RenV.ptr (by omega), RenV.ptr (by omega), RenV.closed Below.lit, trivial⟩ ⟨⟨by omega, _, rfl, .cells (RenVs.closed (AllB.ok ⟨Below.lit, Below.lit, Below.lit, Below.lit, Below.lit, Below.lit, Below.lit, trivial⟩)), rfl⟩, ⟨by omega, _, rfl, .cells (RenVs.closed (dayC_below d)), rfl⟩, trivial⟩
    · refine PickE.effL tok hO (by cbv <;> rfl) (by cbv <;> rfl) (by trivial) ?_ ?_
      · exact (by repeat (first | exact trivial | refine And.intro (by first | exact LV.of (lv_of hO (by cbv <;> rfl) (by trivial)) | exact lv_of hO (by cbv <;> rfl) (by trivial) | (cbv <;> rfl) | exact ⟨_, lv_of hO (by cbv <;> rfl) (by trivial), Eqv.lit h1⟩ | exact ⟨_, lv_of hO (by cbv <;> rfl) (by trivial), Eqv.lit h2⟩) ?_))
      refine AnyE.run tok hO (by rfl) (by cbv <;> rfl) (by trivial) ?_
      refine AnyE.many [12] (by cbv <;> rfl) (by rfl) ⟨?_, trivial⟩
      refine PickE.callQ e2 (by cbv <;> rfl) (by cbv <;> rfl) ?_ ?_
      · exact (by repeat (first | exact trivial | refine And.intro (by first | exact LV.of (lv_of hO (by cbv <;> rfl) (by trivial)) | exact lv_of hO (by cbv <;> rfl) (by trivial) | (cbv <;> rfl) | exact ⟨_, lv_of hO (by cbv <;> rfl) (by trivial), Eqv.lit h1⟩ | exact ⟨_, lv_of hO (by cbv <;> rfl) (by trivial), Eqv.lit h2⟩) ?_))
      refine AnyE.run tok hO (by rfl) (by cbv <;> rfl) (by trivial) ?_
      refine AnyE.effK tok hO (by cbv <;> rfl) (by cbv <;> rfl) (by trivial) ?_ ?_
      · exact (by repeat (first | exact trivial | refine And.intro (by first | exact LV.of (lv_of hO (by cbv <;> rfl) (by trivial)) | exact lv_of hO (by cbv <;> rfl) (by trivial) | (cbv <;> rfl) | exact ⟨_, lv_of hO (by cbv <;> rfl) (by trivial), Eqv.lit h1⟩ | exact ⟨_, lv_of hO (by cbv <;> rfl) (by trivial), Eqv.lit h2⟩) ?_))
      refine AnyE.run tok hO (by rfl) (by cbv <;> rfl) (by trivial) ?_
      refine ⟨tabR [(1, 1)], ⟨⟨58, getT (tkF w n e)⟩, []⟩, tkZ d, ?_, rfl, _, rfl, ⟨rfl, rfl, rfl, rfl, rfl, trivial⟩, rfl⟩
      exact WeakR.tab rfl rfl (by simp) (by rfl) (by show 1 ≤ 2; omega) (by rfl) ⟨RenV.closed Below.lit, RenV.closed Below.lit, RenV.ptr (by omega), RenV.ptr (by omega), RenV.closed Below.lit, trivial⟩ ⟨⟨by omega, _, rfl, .cells (RenVs.closed (AllB.ok ⟨Below.lit, Below.lit, Below.lit, Below.lit, Below.lit, Below.lit, Below.lit, trivial⟩)), rfl⟩, ⟨by omega, _, rfl, .cells (RenVs.closed (dayC_below d)), rfl⟩, trivial⟩
  · refine PickE.eff tok hO (by cbv <;> rfl) (by cbv <;> rfl) (by trivial) ?_ ?_
    · exact (by repeat (first | exact trivial | refine And.intro (by first | exact LV.of (lv_of hO (by cbv <;> rfl) (by trivial)) | exact lv_of hO (by cbv <;> rfl) (by trivial) | (cbv <;> rfl) | exact ⟨_, lv_of hO (by cbv <;> rfl) (by trivial), Eqv.lit h1⟩ | exact ⟨_, lv_of hO (by cbv <;> rfl) (by trivial), Eqv.lit h2⟩) ?_))
    refine AnyE.run tok hO (by rfl) (by cbv <;> rfl) (by trivial) ?_
    refine AnyE.many [3] (by cbv <;> rfl) (by rfl) ⟨?_, trivial⟩
    refine PickE.callQ e1 (by cbv <;> rfl) (by cbv <;> rfl) ?_ ?_
    · exact (by repeat (first | exact trivial | refine And.intro (by first | exact LV.of (lv_of hO (by cbv <;> rfl) (by trivial)) | exact lv_of hO (by cbv <;> rfl) (by trivial) | (cbv <;> rfl) | exact ⟨_, lv_of hO (by cbv <;> rfl) (by trivial), Eqv.lit h1⟩ | exact ⟨_, lv_of hO (by cbv <;> rfl) (by trivial), Eqv.lit h2⟩) ?_))
    refine AnyE.run tok hO (by rfl) (by cbv <;> rfl) (by trivial) ?_
    refine AnyE.many [12] (by cbv <;> rfl) (by rfl) ⟨?_, trivial⟩
    refine PickE.callQ e2 (by cbv <;> rfl) (by cbv <;> rfl) ?_ ?_
    · exact (by repeat (first | exact trivial | refine And.intro (by first | exact LV.of (lv_of hO (by cbv <;> rfl) (by trivial)) | exact lv_of hO (by cbv <;> rfl) (by trivial) | (cbv <;> rfl) | exact ⟨_, lv_of hO (by cbv <;> rfl) (by trivial), Eqv.lit h1⟩ | exact ⟨_, lv_of hO (by cbv <;> rfl) (by trivial), Eqv.lit h2⟩) ?_))
    refine AnyE.run tok hO (by rfl) (by cbv <;> rfl) (by trivial) ?_
    refine AnyE.effK tok hO (by cbv <;> rfl) (by cbv <;> rfl) (by trivial) ?_ ?_
    · exact (by repeat (first | exact trivial | refine And.intro (by first | exact LV.of (lv_of hO (by cbv <;> rfl) (by trivial)) | exact lv_of hO (by cbv <;> rfl) (by trivial) | (cbv <;> rfl) | exact ⟨_, lv_of hO (by cbv <;> rfl) (by trivial), Eqv.lit h1⟩ | exact ⟨_, lv_of hO (by cbv <;> rfl) (by trivial), Eqv.lit h2⟩) ?_))
    refine AnyE.run tok hO (by rfl) (by cbv <;> rfl) (by trivial) ?_
    refine ⟨tabR [(1, 1)], ⟨⟨58, getT (tkF w n e)⟩, []⟩, tkZ d, ?_, rfl, _, rfl, ⟨rfl, rfl, rfl, rfl, rfl, trivial⟩, rfl⟩
    exact WeakR.tab rfl rfl (by simp) (by rfl) (by show 1 ≤ 2; omega) (by rfl) ⟨RenV.closed Below.lit, RenV.closed Below.lit, RenV.ptr (by omega), RenV.ptr (by omega), RenV.closed Below.lit, trivial⟩ ⟨⟨by omega, _, rfl, .cells (RenVs.closed (AllB.ok ⟨Below.lit, Below.lit, Below.lit, Below.lit, Below.lit, Below.lit, Below.lit, trivial⟩)), rfl⟩, ⟨by omega, _, rfl, .cells (RenVs.closed (dayC_below d)), rfl⟩, trivial⟩
set_option maxHeartbeats 8000000 in
theorem tz_0 (d : DayD) (w n e : Int) (k1 : n < 0)
    (e1 : Pure Try.prog 73 [dayV d, iV w] (.lit (.bool true)))
    (e2 : Pure Try.prog 57 [dayV d, .lit (.bool false)] (.tup [.agg stZ, iV e])) (g : Nat → AV) (h : AllP (fun p => g p.1 = p.2) [(1, iV w), (2, iV n), (3, .ptr 0 0)]) :
    SW Try.prog none (nthC 1 (bodyF Try.f23)) (midK 58 (tkF w n e) (tkZ d)) ⟨⟨58, g⟩, []⟩ ⟨[(0, .cells none false (dayC d))], 1⟩ := by
  obtain ⟨O, hO⟩ : ∃ O : Ar, O = std := ⟨_, rfl⟩
  obtain ⟨g1, g2, g3, _⟩ := h
  simp only at g1 g2 g3
  rw [← updT_self g1, ← updT_self g2, ← updT_self g3]
  refine SW.ren ?_
  refine SW.runD tok mixed hO (by rfl) (by cbv <;> rfl) (by trivial) ?_
  refine AnyE.many [3, 16] (by cbv <;> rfl) (by rfl) ⟨?_, ?_, trivial⟩
  · refine PickE.callQ e1 (by cbv <;> rfl) (by cbv <;> rfl) ?_ ?_
    · exact (by repeat (first | exact trivial | refine And.intro (by first | exact LV.of (lv_of hO (by cbv <;> rfl) (by trivial)) | exact lv_of hO (by cbv <;> rfl) (by trivial) | (cbv <;> rfl) | exact ⟨_, lv_of hO (by cbv <;> rfl) (by trivial), Eqv.lit h1⟩ | exact ⟨_, lv_of hO (by cbv <;> rfl) (by trivial), Eqv.lit h2⟩) ?_))
    refine AnyE.run tok hO (by rfl) (by cbv <;> rfl) (by trivial) ?_
    refine AnyE.dec tok hO (by rfl) (by cbv <;> rfl) (by trivial) (fun h1 => ?_) (fun h1 => ?_)
    · exfalso; subst hO; simp [std] at h1; omega
    refine AnyE.run tok hO (by rfl) (by cbv <;> rfl) (by trivial) ?_
    refine AnyE.many [12, 16] (by cbv <;> rfl) (by rfl) ⟨?_, ?_, trivial⟩
    · refine PickE.callQ e2 (by cbv <;> rfl) (by cbv <;> rfl) ?_ ?_
      · exact (by repeat (first | exact trivial | refine And.intro (by first | exact LV.of (lv_of hO (by cbv <;> rfl) (by trivial)) | exact lv_of hO (by cbv <;> rfl) (by trivial) | (cbv <;> rfl) | exact ⟨_, lv_of hO (by cbv <;> rfl) (by trivial), Eqv.lit h1⟩ | exact ⟨_, lv_of hO (by cbv <;> rfl) (by trivial), Eqv.lit h2⟩) ?_))
      refine AnyE.run tok hO (by rfl) (by cbv <;> rfl) (by trivial) ?_
      refine AnyE.effK tok hO (by cbv <;> rfl) (by cbv <;> rfl) (by trivial) ?_ ?_
      · exact (by repeat (first | exact trivial | refine And.intro (by first | exact LV.of (lv_of hO (by cbv <;> rfl) (by trivial)) | exact lv_of hO (by cbv <;> rfl) (by trivial) | (cbv <;> rfl) | exact ⟨_, lv_of hO (by cbv <;> rfl) (by trivial), Eqv.lit h1⟩ | exact ⟨_, lv_of hO (by cbv <;> rfl) (by trivial), Eqv.lit h2⟩) ?_))
      refine AnyE.run tok hO (by rfl) (by cbv <;> rfl) (by trivial) ?_
      refine AnyE.effK tok hO (by cbv <;> rfl) (by cbv <;> rfl) (by trivial) ?_ ?_
      · exact (by repeat (first | exact trivial | refine And.intro (by first | exact LV.of (lv_of hO (by cbv <;> rfl) (by trivial)) | exact lv_of hO (by cbv <;> rfl) (by trivial) | (cbv <;> rfl) | exact ⟨_, lv_of hO (by cbv <;> rfl) (by trivial), Eqv.lit h1⟩ | exact ⟨_, lv_of hO (by cbv <;> rfl) (by trivial), Eqv.lit h2⟩) ?_))
      refine AnyE.run tok hO (by rfl) (by cbv <;> rfl) (by trivial) ?_
      refine ⟨tabR [(1, 1)], ⟨⟨58, getT (tkF w n e)⟩, []⟩, tkZ d, ?_, rfl, _, rfl, ⟨rfl, rfl, rfl, rfl, rfl, trivial⟩, rfl⟩
      exact WeakR.tab rfl rfl (by simp) (by rfl) (by show 1 ≤ 2; omega) (by rfl) ⟨RenV.closed Below.lit, RenV.closed Below.lit, RenV.ptr (by omega), RenV.ptr (by omega), RenV.closed Below.lit, trivial⟩ ⟨⟨by omega, _, rfl, .cells (RenVs.closed (AllB.ok ⟨Below.lit, Below.lit, Below.lit, Below.lit, Below.lit, Below.lit, Below.lit, trivial⟩)), rfl⟩, ⟨by omega, _, rfl, .cells (RenVs.closed (dayC_below d)), rfl⟩, trivial⟩
    · refine PickE.effL tok hO (by cbv <;> rfl) (by cbv <;> rfl) (by trivial) ?_ ?_
      · exact (by repeat (first | exact trivial | refine And.intro (by first | exact LV.of (lv_of hO (by cbv <;> rfl) (by trivial)) | exact lv_of hO (by cbv <;> rfl) (by trivial) | (cbv <;> rfl) | exact ⟨_, lv_of hO (by cbv <;> rfl) (by trivial), Eqv.lit h1⟩ | exact ⟨_, lv_of hO (by cbv <;> rfl) (by trivial), Eqv.lit h2⟩) ?_))
      refine AnyE.run tok hO (by rfl) (by cbv <;> rfl) (by trivial) ?_
      refine AnyE.many [12] (by cbv <;> rfl) (by rfl) ⟨?_, trivial⟩
      refine PickE.callQ e2 (by cbv <;> rfl) (by cbv <;> rfl) ?_ ?_
      · exact (by repeat (first | exact trivial | refine And.intro (by first | exact LV.of (lv_of hO (by cbv <;> rfl) (by trivial)) | exact lv_of hO (by cbv <;> rfl) (by trivial) | (cbv <;> rfl) | exact ⟨_, lv_of hO (by cbv <;> rfl) (by trivial), Eqv.lit h1⟩ | exact ⟨_, lv_of hO (by cbv <;> rfl) (by trivial), Eqv.lit h2⟩) ?_))
      refine AnyE.run tok hO (by rfl) (by cbv <;> rfl) (by trivial) ?_
      refine AnyE.effK tok hO (by cbv <;> rfl) (by cbv <;> rfl) (by trivial) ?_ ?_
      · exact (by repeat (first | exact trivial | refine And.intro (by first | exact LV.of (lv_of hO (by cbv <;> rfl) (by trivial)) | exact lv_of hO (by cbv <;> rfl) (by trivial) | (cbv <;> rfl) | exact ⟨_, lv_of hO (by cbv <;> rfl) (by trivial), Eqv.lit h1⟩ | exact ⟨_, lv_of hO (by cbv <;> rfl) (by trivial), Eqv.lit h2⟩) ?_))
      refine AnyE.run tok hO (by rfl) (by cbv <;> rfl) (by trivial) ?_
      refine ⟨tabR [(1, 1)], ⟨⟨58, getT (tkF w n e)⟩, []⟩, tkZ d, ?_, rfl, _, rfl, ⟨rfl, rfl, rfl, rfl, rfl, trivial⟩, rfl⟩
      exact WeakR.tab rfl rfl (by simp) (by rfl) (by show 1 ≤ 2; omega) (by rfl) ⟨RenV.closed Below.lit, RenV.closed Below.lit, RenV.ptr (by omega), RenV.ptr (by omega), RenV.closed Below.lit, trivial⟩ ⟨⟨by omega, _, rfl, .cells (RenVs.closed (AllB.ok ⟨Below.lit, Below.lit, Below.lit, Below.lit, Below.lit, Below.lit, Below.lit, trivial⟩)), rfl⟩, ⟨by omega, _, rfl, .cells (RenVs.closed (dayC_below d)), rfl⟩, trivial⟩
  · refine PickE.eff tok hO (by cbv <;> rfl) (by cbv <;> rfl) (by trivial) ?_ ?_
    · exact (by repeat (first | exact trivial | refine And.intro (by first | exact LV.of (lv_of hO (by cbv <;> rfl) (by trivial)) | exact lv_of hO (by cbv <;> rfl) (by trivial) | (cbv <;> rfl) | exact ⟨_, lv_of hO (by cbv <;> rfl) (by trivial), Eqv.lit h1⟩ | exact ⟨_, lv_of hO (by cbv <;> rfl) (by trivial), Eqv.lit h2⟩) ?_))
    refine AnyE.run tok hO (by rfl) (by cbv <;> rfl) (by trivial) ?_
    refine AnyE.many [3] (by cbv <;> rfl) (by rfl) ⟨?_, trivial⟩
    refine PickE.callQ e1 (by cbv <;> rfl) (by cbv <;> rfl) ?_ ?_
    · exact (by repeat (first | exact trivial | refine And.intro (by first | exact LV.of (lv_of hO (by cbv <;> rfl) (by trivial)) | exact lv_of hO (by cbv <;> rfl) (by trivial) | (cbv <;> rfl) | exact ⟨_, lv_of hO (by cbv <;> rfl) (by trivial), Eqv.lit h1⟩ | exact ⟨_, lv_of hO (by cbv <;> rfl) (by trivial), Eqv.lit h2⟩) ?_))
    refine AnyE.run tok hO (by rfl) (by cbv <;> rfl) (by trivial) ?_
    refine AnyE.dec tok hO (by rfl) (by cbv <;> rfl) (by trivial) (fun h1 => ?_) (fun h1 => ?_)
    · exfalso; subst hO; simp [std] at h1; omega
    refine AnyE.run tok hO (by rfl) (by cbv <;> rfl) (by trivial) ?_
    refine AnyE.many [12] (by cbv <;> rfl) (by rfl) ⟨?_, trivial⟩
    refine PickE.callQ e2 (by cbv <;> rfl) (by cbv <;> rfl) ?_ ?_
    · exact (by repeat (first | exact trivial | refine And.intro (by first | exact LV.of (lv_of hO (by cbv <;> rfl) (by trivial)) | exact lv_of hO (by cbv <;> rfl) (by trivial) | (cbv <;> rfl) | exact ⟨_, lv_of hO (by cbv <;> rfl) (by trivial), Eqv.lit h1⟩ | exact ⟨_, lv_of hO (by cbv <;> rfl) (by trivial), Eqv.lit h2⟩) ?_))
    refine AnyE.run tok hO (by rfl) (by cbv <;> rfl) (by trivial) ?_
    refine AnyE.effK tok hO (by cbv <;> rfl) (by cbv <;> rfl) (by trivial) ?_ ?_
    · exact (by repeat (first | exact trivial | refine And.intro (by first | exact LV.of (lv_of hO (by cbv <;> rfl) (by trivial)) | exact lv_of hO (by cbv <;> rfl) (by trivial) | (cbv <;> rfl) | exact ⟨_, lv_of hO (by cbv <;> rfl) (by trivial), Eqv.lit h1⟩ | exact ⟨_, lv_of hO (by cbv <;> rfl) (by trivial), Eqv.lit h2⟩) ?_))
    refine AnyE.run tok hO (by rfl) (by cbv <;> rfl) (by trivial) ?_
    refine ⟨tabR [(1, 1)], ⟨⟨58, getT (tkF w n e)⟩, []⟩, tkZ d, ?_, rfl, _, rfl, ⟨rfl, rfl, rfl, rfl, rfl, trivial⟩, rfl⟩
    exact WeakR.tab rfl rfl (by simp) (by rfl) (by show 1 ≤ 2; omega) (by rfl) ⟨RenV.closed Below.lit, RenV.closed Below.lit, RenV.ptr (by omega), RenV.ptr (by omega), RenV.closed Below.lit, trivial⟩ ⟨⟨by omega, _, rfl, .cells (RenVs.closed (AllB.ok ⟨Below.lit, Below.lit, Below.lit, Below.lit, Below.lit, Below.lit, Below.lit, trivial⟩)), rfl⟩, ⟨by omega, _, rfl, .cells (RenVs.closed (dayC_below d)), rfl⟩, trivial⟩
set_option maxHeartbeats 8000000 in
theorem tz_60 (d : DayD) (w n e : Int) (k1 : 0 ≤ n) (k2 : 60 < n)
    (e1 : Pure Try.prog 73 [dayV d, iV w] (.lit (.bool true)))
    (e2 : Pure Try.prog 57 [dayV d, .lit (.bool false)] (.tup [.agg stZ, iV e])) (g : Nat → AV) (h : AllP (fun p => g p.1 = p.2) [(1, iV w), (2, iV n), (3, .ptr 0 0)]) :
    SW Try.prog none (nthC 1 (bodyF Try.f23)) (midK 58 (tkF w n e) (tkZ d)) ⟨⟨58, g⟩, []⟩ ⟨[(0, .cells none false (dayC d))], 1⟩ := by
  obtain ⟨O, hO⟩ : ∃ O : Ar, O = std := ⟨_, rfl⟩
  obtain ⟨g1, g2, g3, _⟩ := h
  simp only at g1 g2 g3
  rw [← updT_self g1, ← updT_self g2, ← updT_self g3]
  refine SW.ren ?_
  refine SW.runD tok mixed hO (by rfl) (by cbv <;> rfl) (by trivial) ?_
  refine AnyE.many [3, 16] (by cbv <;> rfl) (by rfl) ⟨?_, ?_, trivial⟩
  · refine PickE.callQ e1 (by cbv <;> rfl) (by cbv <;> rfl) ?_ ?_
    · exact (by repeat (first | exact trivial | refine And.intro (by first | exact LV.of (lv_of hO (by cbv <;> rfl) (by trivial)) | exact lv_of hO (by cbv <;> rfl) (by trivial) | (cbv <;> rfl) | exact ⟨_, lv_of hO (by cbv <;> rfl) (by trivial), Eqv.lit h1⟩ | exact ⟨_, lv_of hO (by cbv <;> rfl) (by trivial), Eqv.lit h2⟩) ?_))
    refine AnyE.run tok hO (by rfl) (by cbv <;> rfl) (by trivial) ?_
    refine AnyE.dec tok hO (by rfl) (by cbv <;> rfl) (by trivial) (fun h1 => ?_) (fun h1 => ?_)
    rotate_left
    · exfalso; subst hO; simp [std] at h1; omega
    refine AnyE.run tok hO (by rfl) (by cbv <;> rfl) (by trivial) ?_
    refine AnyE.dec tok hO (by rfl) (by cbv <;> rfl) (by trivial) (fun h2 => ?_) (fun h2 => ?_)
    · exfalso; subst hO; simp [std] at h2; omega
    refine AnyE.run tok hO (by rfl) (by cbv <;> rfl) (by trivial) ?_
    refine AnyE.many [12, 16] (by cbv <;> rfl) (by rfl) ⟨?_, ?_, trivial⟩
    · refine PickE.callQ e2 (by cbv <;> rfl) (by cbv <;> rfl) ?_ ?_
      · exact (by repeat (first | exact trivial | refine And.intro (by first | exact LV.of (lv_of hO (by cbv <;> rfl) (by trivial)) | exact lv_of hO (by cbv <;> rfl) (by trivial) | (cbv <;> rfl) | exact ⟨_, lv_of hO (by cbv <;> rfl) (by trivial), Eqv.lit h1⟩ | exact ⟨_, lv_of hO (by cbv <;> rfl) (by trivial), Eqv.lit h2⟩) ?_))
      refine AnyE.run tok hO (by rfl) (by cbv <;> rfl) (by trivial) ?_
      refine AnyE.effK tok hO (by cbv <;> rfl) (by cbv <;> rfl) (by trivial) ?_ ?_
      · exact (by repeat (first | exact trivial | refine And.intro (by first | exact LV.of (lv_of hO (by cbv <;> rfl) (by trivial)) | exact lv_of hO (by cbv <;> rfl) (by trivial) | (cbv <;> rfl) | exact ⟨_, lv_of hO (by cbv <;> rfl) (by trivial), Eqv.lit h1⟩ | exact ⟨_, lv_of hO (by cbv <;> rfl) (by trivial), Eqv.lit h2⟩) ?_))
      refine AnyE.run tok hO (by rfl) (by cbv <;> rfl) (by trivial) ?_
      refine AnyE.effK tok hO (by cbv <;> rfl) (by cbv <;> rfl) (by trivial) ?_ ?_
      · exact (by repeat (first | exact trivial | refine And.intro (by first | exact LV.of (lv_of hO (by cbv <;> rfl) (by trivial)) | exact lv_of hO (by cbv <;> rfl) (by trivial) | (cbv <;> rfl) | exact ⟨_, lv_of hO (by cbv <;> rfl) (by trivial), Eqv.lit h1⟩ | exact ⟨_, lv_of hO (by cbv <;> rfl) (by trivial), Eqv.lit h2⟩) ?_))
      refine AnyE.run tok hO (by rfl) (by cbv <;> rfl) (by trivial) ?_
      refine ⟨tabR [(1, 1)], ⟨⟨58, getT (tkF w n e)⟩, []⟩, tkZ d, ?_, rfl, _, rfl, ⟨rfl, rfl, rfl, rfl, rfl, trivial⟩, rfl⟩
      exact WeakR.tab rfl rfl (by simp) (by rfl) (by show 1 ≤ 2; omega) (by rfl) ⟨RenV.closed Below.lit, RenV.closed Below.lit, RenV.ptr (by omega), RenV.ptr (by omega), RenV.closed Below.lit, trivial⟩ ⟨⟨by omega, _, rfl, .cells (RenVs.closed (AllB.ok ⟨Below.lit, Below.lit, Below.lit, Below.lit, Below.lit, Below.lit, Below.lit, trivial⟩)), rfl⟩, ⟨by omega, _, rfl, .cells (RenVs.closed (dayC_below d)), rfl⟩, trivial⟩
    · refine PickE.effL tok hO (by cbv <;> rfl) (by cbv <;> rfl) (by trivial) ?_ ?_
      · exact (by repeat (first | exact trivial | refine And.intro (by first | exact LV.of (lv_of hO (by cbv <;> rfl) (by trivial)) | exact lv_of hO (by cbv <;> rfl) (by trivial) | (cbv <;> rfl) | exact ⟨_, lv_of hO (by cbv <;> rfl) (by trivial), Eqv.lit h1⟩ | exact ⟨_, lv_of hO (by cbv <;> rfl) (by trivial), Eqv.lit h2⟩) ?_))
      refine AnyE.run tok hO (by rfl) (by cbv <;> rfl) (by trivial) ?_
      refine AnyE.many [12] (by cbv <;> rfl) (by rfl) ⟨?_, trivial⟩
      refine PickE.callQ e2 (by cbv <;> rfl) (by cbv <;> rfl) ?_ ?_
      · exact (by repeat (first | exact trivial | refine And.intro (by first | exact LV.of (lv_of hO (by cbv <;> rfl) (by trivial)) | exact lv_of hO (by cbv <;> rfl) (by trivial) | (cbv <;> rfl) | exact ⟨_, lv_of hO (by cbv <;> rfl) (by trivial), Eqv.lit h1⟩ | exact ⟨_, lv_of hO (by cbv <;> rfl) (by trivial), Eqv.lit h2⟩) ?_))
      refine AnyE.run tok hO (by rfl) (by cbv <;> rfl) (by trivial) ?_
      refine AnyE.effK tok hO (by cbv <;> rfl) (by cbv <;> rfl) (by trivial) ?_ ?_
      · exact (by repeat (first | exact trivial | refine And.intro (by first | exact LV.of (lv_of hO (by cbv <;> rfl) (by trivial)) | exact lv_of hO (by cbv <;> rfl) (by trivial) | (cbv <;> rfl) | exact ⟨_, lv_of hO (by cbv <;> rfl) (by trivial), Eqv.lit h1⟩ | exact ⟨_, lv_of hO (by cbv <;> rfl) (by trivial), Eqv.lit h2⟩) ?_))
      refine AnyE.run tok hO (by rfl) (by cbv <;> rfl) (by trivial) ?_
      refine ⟨tabR [(1, 1)], ⟨⟨58, getT (tkF w n e)⟩, []⟩, tkZ d, ?_, rfl, _, rfl, ⟨rfl, rfl, rfl, rfl, rfl, trivial⟩, rfl⟩
      exact WeakR.tab rfl rfl (by simp) (by rfl) (by show 1 ≤ 2; omega) (by rfl) ⟨RenV.closed Below.lit, RenV.closed Below.lit, RenV.ptr (by omega), RenV.ptr (by omega), RenV.closed Below.lit, trivial⟩ ⟨⟨by omega, _, rfl, .cells (RenVs.closed (AllB.ok ⟨Below.lit, Below.lit, Below.lit, Below.lit, Below.lit, Below.lit, Below.lit, trivial⟩)), rfl⟩, ⟨by omega, _, rfl, .cells (RenVs.closed (dayC_below d)), rfl⟩, trivial⟩
  · refine PickE.eff tok hO (by cbv <;> rfl) (by cbv <;> rfl) (by trivial) ?_ ?_
    · exact (by repeat (first | exact trivial | refine And.intro (by first | exact LV.of (lv_of hO (by cbv <;> rfl) (by trivial)) | exact lv_of hO (by cbv <;> rfl) (by trivial) | (cbv <;> rfl) | exact ⟨_, lv_of hO (by cbv <;> rfl) (by trivial), Eqv.lit h1⟩ | exact ⟨_, lv_of hO (by cbv <;> rfl) (by trivial), Eqv.lit h2⟩) ?_))
    refine AnyE.run tok hO (by rfl) (by cbv <;> rfl) (by trivial) ?_
    refine AnyE.many [3] (by cbv <;> rfl) (by rfl) ⟨?_, trivial⟩
    refine PickE.callQ e1 (by cbv <;> rfl) (by cbv <;> rfl) ?_ ?_
    · exact (by repeat (first | exact trivial | refine And.intro (by first | exact LV.of (lv_of hO (by cbv <;> rfl) (by trivial)) | exact lv_of hO (by cbv <;> rfl) (by trivial) | (cbv <;> rfl) | exact ⟨_, lv_of hO (by cbv <;> rfl) (by trivial), Eqv.lit h1⟩ | exact ⟨_, lv_of hO (by cbv <;> rfl) (by trivial), Eqv.lit h2⟩) ?_))
    refine AnyE.run tok hO (by rfl) (by cbv <;> rfl) (by trivial) ?_
    refine AnyE.dec tok hO (by rfl) (by cbv <;> rfl) (by trivial) (fun h1 => ?_) (fun h1 => ?_)
    rotate_left
    · exfalso; subst hO; simp [std] at h1; omega
    refine AnyE.run tok hO (by rfl) (by cbv <;> rfl) (by trivial) ?_
    refine AnyE.dec tok hO (by rfl) (by cbv <;> rfl) (by trivial) (fun h2 => ?_) (fun h2 => ?_)
    · exfalso; subst hO; simp [std] at h2; omega
    refine AnyE.run tok hO (by rfl) (by cbv <;> rfl) (by trivial) ?_
    refine AnyE.many [12] (by cbv <;> rfl) (by rfl) ⟨?_, trivial⟩
    refine PickE.callQ e2 (by cbv <;> rfl) (by cbv <;> rfl) ?_ ?_
    · exact (by repeat (first | exact trivial | refine And.intro (by first | exact LV.of (lv_of hO (by cbv <;> rfl) (by trivial)) | exact lv_of hO (by cbv <;> rfl) (by trivial) | (cbv <;> rfl) | exact ⟨_, lv_of hO (by cbv <;> rfl) (by trivial), Eqv.lit h1⟩ | exact ⟨_, lv_of hO (by cbv <;> rfl) (by trivial), Eqv.lit h2⟩) ?_))
    refine AnyE.run tok hO (by rfl) (by cbv <;> rfl) (by trivial) ?_
    refine AnyE.effK tok hO (by cbv <;> rfl) (by cbv <;> rfl) (by trivial) ?_ ?_
    · exact (by repeat (first | exact trivial | refine And.intro (by first | exact LV.of (lv_of hO (by cbv <;> rfl) (by trivial)) | exact lv_of hO (by cbv <;> rfl) (by trivial) | (cbv <;> rfl) | exact ⟨_, lv_of hO (by cbv <;> rfl) (by trivial), Eqv.lit h1⟩ | exact ⟨_, lv_of hO (by cbv <;> rfl) (by trivial), Eqv.lit h2⟩) ?_))
    refine AnyE.run tok hO (by rfl) (by cbv <;> rfl) (by trivial) ?_
    refine ⟨tabR [(1, 1)], ⟨⟨58, getT (tkF w n e)⟩, []⟩, tkZ d, ?_, rfl, _, rfl, ⟨rfl, rfl, rfl, rfl, rfl, trivial⟩, rfl⟩
    exact WeakR.tab rfl rfl (by simp) (by rfl) (by show 1 ≤ 2; omega) (by rfl) ⟨RenV.closed Below.lit, RenV.closed Below.lit, RenV.ptr (by omega), RenV.ptr (by omega), RenV.closed Below.lit, trivial⟩ ⟨⟨by omega, _, rfl, .cells (RenVs.closed (AllB.ok ⟨Below.lit, Below.lit, Below.lit, Below.lit, Below.lit, Below.lit, Below.lit, trivial⟩)), rfl⟩, ⟨by omega, _, rfl, .cells (RenVs.closed (dayC_below d)), rfl⟩, trivial⟩
set_option maxHeartbeats 8000000 in
theorem tz_in (d : DayD) (w n e : Int) (k1 : 0 ≤ n) (k2 : n ≤ 60)
    (e1 : Pure Try.prog 73 [dayV d, iV w] (.lit (.bool true)))
    (e2 : Pure Try.prog 57 [dayV d, .lit (.bool true)] (.tup [.agg stZ, iV e])) (g : Nat → AV) (h : AllP (fun p => g p.1 = p.2) [(1, iV w), (2, iV n), (3, .ptr 0 0)]) :
    SW Try.prog none (nthC 1 (bodyF Try.f23)) (midK 58 (tkF w n e) (tkZ d)) ⟨⟨58, g⟩, []⟩ ⟨[(0, .cells none false (dayC d))], 1⟩ := by
  obtain ⟨O, hO⟩ : ∃ O : Ar, O = std := ⟨_, rfl⟩
  obtain ⟨g1, g2, g3, _⟩ := h
  simp only at g1 g2 g3
  rw [← updT_self g1, ← updT_self g2, ← updT_self g3]
  refine SW.ren ?_
  refine SW.runD tok mixed hO (by rfl) (by cbv <;> rfl) (by trivial) ?_
  refine AnyE.many [3, 16] (by cbv <;> rfl) (by rfl) ⟨?_, ?_, trivial⟩
  · refine PickE.callQ e1 (by cbv <;> rfl) (by cbv <;> rfl) ?_ ?_
    · exact (by repeat (first | exact trivial | refine And.intro (by first | exact LV.of (lv_of hO (by cbv <;> rfl) (by trivial)) | exact lv_of hO (by cbv <;> rfl) (by trivial) | (cbv <;> rfl) | exact ⟨_, lv_of hO (by cbv <;> rfl) (by trivial), Eqv.lit h1⟩ | exact ⟨_, lv_of hO (by cbv <;> rfl) (by trivial), Eqv.lit h2⟩) ?_))
    refine AnyE.run tok hO (by rfl) (by cbv <;> rfl) (by trivial) ?_
    refine AnyE.dec tok hO (by rfl) (by cbv <;> rfl) (by trivial) (fun h1 => ?_) (fun h1 => ?_)
    rotate_left
    · exfalso; subst hO; simp [std] at h1; omega
    refine AnyE.run tok hO (by rfl) (by cbv <;> rfl) (by trivial) ?_
    refine AnyE.dec tok hO (by rfl) (by cbv <;> rfl) (by trivial) (fun h2 => ?_) (fun h2 => ?_)
    rotate_left
    · exfalso; subst hO; simp [std] at h2; omega
    refine AnyE.run tok hO (by rfl) (by cbv <;> rfl) (by trivial) ?_
    refine AnyE.many [12, 16] (by cbv <;> rfl) (by rfl) ⟨?_, ?_, trivial⟩
    · refine PickE.callQ e2 (by cbv <;> rfl) (by cbv <;> rfl) ?_ ?_
      · exact (by repeat (first | exact trivial | refine And.intro (by first | exact LV.of (lv_of hO (by cbv <;> rfl) (by trivial)) | exact lv_of hO (by cbv <;> rfl) (by trivial) | (cbv <;> rfl) | exact ⟨_, lv_of hO (by cbv <;> rfl) (by trivial), Eqv.lit h1⟩ | exact ⟨_, lv_of hO (by cbv <;> rfl) (by trivial), Eqv.lit h2⟩) ?_))
      refine AnyE.run tok hO (by rfl) (by cbv <;> rfl) (by trivial) ?_
      refine AnyE.effK tok hO (by cbv <;> rfl) (by cbv <;> rfl) (by trivial) ?_ ?_
      · exact (by repeat (first | exact trivial | refine And.intro (by first | exact LV.of (lv_of hO (by cbv <;> rfl) (by trivial)) | exact lv_of hO (by cbv <;> rfl) (by trivial) | (cbv <;> rfl) | exact ⟨_, lv_of hO (by cbv <;> rfl) (by trivial), Eqv.lit h1⟩ | exact ⟨_, lv_of hO (by cbv <;> rfl) (by trivial), Eqv.lit h2⟩) ?_))
      refine AnyE.run tok hO (by rfl) (by cbv <;> rfl) (by trivial) ?_
      refine AnyE.effK tok hO (by cbv <;> rfl) (by cbv <;> rfl) (by trivial) ?_ ?_
      · exact (by repeat (first | exact trivial | refine And.intro (by first | exact LV.of (lv_of hO (by cbv <;> rfl) (by trivial)) | exact lv_of hO (by cbv <;> rfl) (by trivial) | (cbv <;> rfl) | exact ⟨_, lv_of hO (by cbv <;> rfl) (by trivial), Eqv.lit h1⟩ | exact ⟨_, lv_of hO (by cbv <;> rfl) (by trivial), Eqv.lit h2⟩) ?_))
      refine AnyE.run tok hO (by rfl) (by cbv <;> rfl) (by trivial) ?_
      refine ⟨tabR [(1, 1)], ⟨⟨58, getT (tkF w n e)⟩, []⟩, tkZ d, ?_, rfl, _, rfl, ⟨rfl, rfl, rfl, rfl, rfl, trivial⟩, rfl⟩
      exact WeakR.tab rfl rfl (by simp) (by rfl) (by show 1 ≤ 2; omega) (by rfl) ⟨RenV.closed Below.lit, RenV.closed Below.lit, RenV.ptr (by omega), RenV.ptr (by omega), RenV.closed Below.lit, trivial⟩ ⟨⟨by omega, _, rfl, .cells (RenVs.closed (AllB.ok ⟨Below.lit, Below.lit, Below.lit, Below.lit, Below.lit, Below.lit, Below.lit, trivial⟩)), rfl⟩, ⟨by omega, _, rfl, .cells (RenVs.closed (dayC_below d)), rfl⟩, trivial⟩
    · refine PickE.effL tok hO (by cbv <;> rfl) (by cbv <;> rfl) (by trivial) ?_ ?_
      · exact (by repeat (first | exact trivial | refine And.intro (by first | exact LV.of (lv_of hO (by cbv <;> rfl) (by trivial)) | exact lv_of hO (by cbv <;> rfl) (by trivial) | (cbv <;> rfl) | exact ⟨_, lv_of hO (by cbv <;> rfl) (by trivial), Eqv.lit h1⟩ | exact ⟨_, lv_of hO (by cbv <;> rfl) (by trivial), Eqv.lit h2⟩) ?_))
      refine AnyE.run tok hO (by rfl) (by cbv <;> rfl) (by trivial) ?_
      refine AnyE.many [12] (by cbv <;> rfl) (by rfl) ⟨?_, trivial⟩
      refine PickE.callQ e2 (by cbv <;> rfl) (by cbv <;> rfl) ?_ ?_
      · exact (by repeat (first | exact trivial | refine And.intro (by first | exact LV.of (lv_of hO (by cbv <;> rfl) (by trivial)) | exact lv_of hO (by cbv <;> rfl) (by trivial) | (cbv <;> rfl) | exact ⟨_, lv_of hO (by cbv <;> rfl) (by trivial), Eqv.lit h1⟩ | exact ⟨_, lv_of hO (by cbv <;> rfl) (by trivial), Eqv.lit h2⟩) ?_))
      refine AnyE.run tok hO (by rfl) (by cbv <;> rfl) (by trivial) ?_
      refine AnyE.effK tok hO (by cbv <;> rfl) (by cbv <;> rfl) (by trivial) ?_ ?_
      · exact (by repeat (first | exact trivial | refine And.intro (by first | exact LV.of (lv_of hO (by cbv <;> rfl) (by trivial)) | exact lv_of hO (by cbv <;> rfl) (by trivial) | (cbv <;> rfl) | exact ⟨_, lv_of hO (by cbv <;> rfl) (by trivial), Eqv.lit h1⟩ | exact ⟨_, lv_of hO (by cbv <;> rfl) (by trivial), Eqv.lit h2⟩) ?_))
      refine AnyE.run tok hO (by rfl) (by cbv <;> rfl) (by trivial) ?_
      refine ⟨tabR [(1, 1)], ⟨⟨58, getT (tkF w n e)⟩, []⟩, tkZ d, ?_, rfl, _, rfl, ⟨rfl, rfl, rfl, rfl, rfl, trivial⟩, rfl⟩
      exact WeakR.tab rfl rfl (by simp) (by rfl) (by show 1 ≤ 2; omega) (by rfl) ⟨RenV.closed Below.lit, RenV.closed Below.lit, RenV.ptr (by omega), RenV.ptr (by omega), RenV.closed Below.lit, trivial⟩ ⟨⟨by omega, _, rfl, .cells (RenVs.closed (AllB.ok ⟨Below.lit, Below.lit, Below.lit, Below.lit, Below.lit, Below.lit, Below.lit, trivial⟩)), rfl⟩, ⟨by omega, _, rfl, .cells (RenVs.closed (dayC_below d)), rfl⟩, trivial⟩
  · refine PickE.eff tok hO (by cbv <;> rfl) (by cbv <;> rfl) (by trivial) ?_ ?_
    · exact (by repeat (first | exact trivial | refine And.intro (by first | exact LV.of (lv_of hO (by cbv <;> rfl) (by trivial)) | exact lv_of hO (by cbv <;> rfl) (by trivial) | (cbv <;> rfl) | exact ⟨_, lv_of hO (by cbv <;> rfl) (by trivial), Eqv.lit h1⟩ | exact ⟨_, lv_of hO (by cbv <;> rfl) (by trivial), Eqv.lit h2⟩) ?_))
    refine AnyE.run tok hO (by rfl) (by cbv <;> rfl) (by trivial) ?_
    refine AnyE.many [3] (by cbv <;> rfl) (by rfl) ⟨?_, trivial⟩
    refine PickE.callQ e1 (by cbv <;> rfl) (by cbv <;> rfl) ?_ ?_
    · exact (by repeat (first | exact trivial | refine And.intro (by first | exact LV.of (lv_of hO (by cbv <;> rfl) (by trivial)) | exact lv_of hO (by cbv <;> rfl) (by trivial) | (cbv <;> rfl) | exact ⟨_, lv_of hO (by cbv <;> rfl) (by trivial), Eqv.lit h1⟩ | exact ⟨_, lv_of hO (by cbv <;> rfl) (by trivial), Eqv.lit h2⟩) ?_))
    refine AnyE.run tok hO (by rfl) (by cbv <;> rfl) (by trivial) ?_
    refine AnyE.dec tok hO (by rfl) (by cbv <;> rfl) (by trivial) (fun h1 => ?_) (fun h1 => ?_)
    rotate_left
    · exfalso; subst hO; simp [std] at h1; omega
    refine AnyE.run tok hO (by rfl) (by cbv <;> rfl) (by trivial) ?_
    refine AnyE.dec tok hO (by rfl) (by cbv <;> rfl) (by trivial) (fun h2 => ?_) (fun h2 => ?_)
    rotate_left
    · exfalso; subst hO; simp [std] at h2; omega
    refine AnyE.run tok hO (by rfl) (by cbv <;> rfl) (by trivial) ?_
    refine AnyE.many [12] (by cbv <;> rfl) (by rfl) ⟨?_, trivial⟩
    refine PickE.callQ e2 (by cbv <;> rfl) (by cbv <;> rfl) ?_ ?_
    · exact (by repeat (first | exact trivial | refine And.intro (by first | exact LV.of (lv_of hO (by cbv <;> rfl) (by trivial)) | exact lv_of hO (by cbv <;> rfl) (by trivial) | (cbv <;> rfl) | exact ⟨_, lv_of hO (by cbv <;> rfl) (by trivial), Eqv.lit h1⟩ | exact ⟨_, lv_of hO (by cbv <;> rfl) (by trivial), Eqv.lit h2⟩) ?_))
    refine AnyE.run tok hO (by rfl) (by cbv <;> rfl) (by trivial) ?_
    refine AnyE.effK tok hO (by cbv <;> rfl) (by cbv <;> rfl) (by trivial) ?_ ?_
    · exact (by repeat (first | exact trivial | refine And.intro (by first | exact LV.of (lv_of hO (by cbv <;> rfl) (by trivial)) | exact lv_of hO (by cbv <;> rfl) (by trivial) | (cbv <;> rfl) | exact ⟨_, lv_of hO (by cbv <;> rfl) (by trivial), Eqv.lit h1⟩ | exact ⟨_, lv_of hO (by cbv <;> rfl) (by trivial), Eqv.lit h2⟩) ?_))
    refine AnyE.run tok hO (by rfl) (by cbv <;> rfl) (by trivial) ?_
    refine ⟨tabR [(1, 1)], ⟨⟨58, getT (tkF w n e)⟩, []⟩, tkZ d, ?_, rfl, _, rfl, ⟨rfl, rfl, rfl, rfl, rfl, trivial⟩, rfl⟩
    exact WeakR.tab rfl rfl (by simp) (by rfl) (by show 1 ≤ 2; omega) (by rfl) ⟨RenV.closed Below.lit, RenV.closed Below.lit, RenV.ptr (by omega), RenV.ptr (by omega), RenV.closed Below.lit, trivial⟩ ⟨⟨by omega, _, rfl, .cells (RenVs.closed (AllB.ok ⟨Below.lit, Below.lit, Below.lit, Below.lit, Below.lit, Below.lit, Below.lit, trivial⟩)), rfl⟩, ⟨by omega, _, rfl, .cells (RenVs.closed (dayC_below d)), rfl⟩, trivial⟩
set_option maxHeartbeats 8000000 in
theorem thicker_bad (d : DayD) (w n e : Int) (he : e ≠ 0)
    (ha : ∀ g : Nat → AV, AllP (fun p => g p.1 = p.2) [(1, iV w), (2, iV n), (3, .ptr 0 0)] → SW Try.prog none (nthC 1 (bodyF Try.f23)) (midK 58 (tkF w n e) (tkZ d)) ⟨⟨58, g⟩, []⟩ ⟨[(0, .cells none false (dayC d))], 1⟩) :
    Pure Try.prog 23 [dayV d, iV w, iV n] (.tup [iV 0, iV e]) := by
  obtain ⟨O, hO⟩ : ∃ O : Ar, O = std := ⟨_, rfl⟩
  refine pure_of_body tok 3 Try.func23 en23 rfl ⟨dayV_below d, Below.lit, Below.lit, trivial⟩ (Below.tup (AllB.ok ⟨Below.lit, Below.lit, trivial⟩)) ?_
  refine SW.seqRun tok hO (by cbv <;> rfl) (by trivial) ?_
  refine SW.seq ((ha _ ⟨rfl, rfl, rfl, trivial⟩).mono fun e f st hm => ?_)
  obtain ⟨rfl, g, rfl, ⟨g1, g2, g3, g8, g9, _⟩, rfl⟩ := hm
  simp only at g1 g2 g3 g8 g9
  rw [← updT_self g1, ← updT_self g2, ← updT_self g8, ← updT_self g9]
  show SW _ _ _ _ _ _
  refine SW.seq ?_
  refine SW.seqRun tok hO (by cbv <;> rfl) (by trivial) ?_
  refine SW.condS (by cbv <;> rfl) (fun h1 => ?_) (fun h1 => ?_)
  · refine SW.seqRun tok hO (by cbv <;> rfl) (by trivial) ?_
    exact SW.ret ⟨_, _, rfl, rfl, Eqv.of rfl⟩
  · exfalso
    subst hO; simp [std] at h1; exact he h1
def DayD.askB (d : DayD) (w n : Int) : Bool := d.hasW w && decide (0 ≤ n) && decide (n ≤ 60)
theorem thicker_e (d : DayD) (w n e : Int) (he : e ≠ 0) (e2 : Pure Try.prog 57 [dayV d, .lit (.bool (d.askB w n))] (.tup [.agg stZ, iV e])) : Pure Try.prog 23 [dayV d, iV w, iV n] (.tup [iV 0, iV e]) := by
  refine thicker_bad d w n e he fun g hg => ?_
  have e1 := hasWoman_ok d w
  unfold DayD.askB at e2
  cases hW : d.hasW w with
  | false =>
    rw [hW, Bool.false_and, Bool.false_and] at e2
    exact tz_w d w n e (e1.res (Eqv.lit (by rw [hW]))) e2 g hg
  | true =>
    rw [hW, Bool.true_and] at e2
    have e1' : Pure Try.prog 73 [dayV d, iV w] (.lit (.bool true)) := e1.res (Eqv.lit (by rw [hW]))
    by_cases k1 : 0 ≤ n
    · rw [decide_eq_true k1, Bool.true_and] at e2
      by_cases k2 : n ≤ 60
      · rw [decide_eq_true k2] at e2
        exact tz_in d w n e k1 k2 e1' e2 g hg
      · rw [decide_eq_false k2] at e2
        exact tz_60 d w n e k1 (by omega) e1' e2 g hg
    · rw [decide_eq_false k1, Bool.false_and] at e2
      exact tz_0 d w n e (by omega) e1' e2 g hg
end Go.Fz
namespace Go.Fz
open Go.Proofs
set_option maxRecDepth 100000
set_option linter.unusedVariables false
theorem to70_ok (lo hi : Int) : Pure Try.prog 70 [rangeV lo hi] (rangeV lo hi) := by
  obtain ⟨O, hO⟩ : ∃ O : Ar, O = std := ⟨_, rfl⟩
  refine pure_of_body tok 3 Try.func70 en70 rfl ⟨rangeV_below, trivial⟩ rangeV_below ?_
  refine SW.seqRun tok hO (by cbv <;> rfl) (by trivial) ?_
  refine SW.seqRun tok hO (by cbv <;> rfl) (by trivial) ?_
  exact SW.ret ⟨_, _, rfl, rfl, Eqv.of rfl⟩
set_option maxHeartbeats 16000000 in
theorem ranges36_ok (n : Nat) (lo hi : Nat → Int) (hn : n < 1000) : Pure Try.prog 36 [.isl n 2 false (rngC lo hi), .isl n 2 false (rngC lo hi)] (.lit (.bool true)) := by
  obtain ⟨O, hO⟩ : ∃ O : Ar, O = std := ⟨_, rfl⟩
  have hnat : ∀ i : Nat, O.nat (Int.ofNat i) = i := fun i => by subst hO; rfl
  have hne : O.cmp .neq (Int.ofNat n) (Int.ofNat n) = false := by subst hO; simp [std]
  refine pure_of_body tok 3 Try.func36 en36 rfl ⟨Below.isl fun i j _ _ => rngC_below _ _ i j, Below.isl fun i j _ _ => rngC_below _ _ i j, trivial⟩ Below.lit ?_
  refine SW.seqRun tok hO (by cbv <;> rfl) (by trivial) ?_
  refine SW.seq ?_
  refine SW.seqRun tok hO (by cbv <;> rfl) (by trivial) ?_
  refine SW.condS (by cbv <;> rfl) (fun h => absurd (show false = true from hne.symm.trans h) (by decide)) (fun _ => SW.skip ?_)
  refine SW.seq ?_
  refine SW.seqRun tok hO (by cbv <;> rfl) (by trivial) ?_
  refine (SW.block (SW.loopF (fun i : Nat => ⟨⟨27, getT [(0, .isl n 2 false (rngC lo hi)), (1, .isl n 2 false (rngC lo hi)), (5, iV (Int.ofNat i))]⟩, []⟩) (fun _ => ⟨[], 0⟩) (fun i => n - i) (fun i => i ≤ n) 0
    (fun _ => rfl) (Nat.zero_le _) (Weak.by rfl rfl (by simp) (Nat.le_refl _) (Nat.le_refl _) ⟨⟨rfl, .inl rfl⟩, ⟨rfl, .inl rfl⟩, ⟨rfl, .inl rfl⟩, trivial⟩ trivial) fun i hle => ?_))
  refine SW.seq ?_
  refine SW.seqRun tok hO (by cbv <;> rfl) (by trivial) ?_
  refine SW.condS (by cbv <;> rfl) (fun h => SW.skip ?_) (fun h => SW.exit ?_)
  · have hlt : i < n := by
      have : (Int.ofNat i : Int) < Int.ofNat n := by subst hO; simpa [std] using h
      exact Int.ofNat_lt.1 this
    have hc : 0 ≤ Int.ofNat i ∧ Int.ofNat i < (n : Int) := ⟨Int.natCast_nonneg i, Int.ofNat_lt.2 hlt⟩
    have call := to70_ok (lo (O.nat (Int.ofNat i))) (hi (O.nat (Int.ofNat i)))
    refine SW.seq (SW.block ?_)
    refine SW.seqRunD tok mixed hO (by kernel_rfl) (by cbv <;> rfl) (by repeat (first | exact trivial | exact hc | refine ⟨?_, ?_⟩)) ?_
    refine AnyE.callP call (by cbv <;> rfl) (by cbv <;> rfl) ?_
    refine AnyE.run tok hO (by rfl) (by cbv <;> rfl) (by trivial) ?_
    first
      | (refine AnyE.dec tok hO (by rfl) (by cbv <;> rfl) (by trivial) (fun h2 => ?_) (fun h2 => ?_)
         · exfalso; subst hO; simp [std] at h2
         refine AnyE.run tok hO (by rfl) (by cbv <;> rfl) (by trivial) ?_
         refine SW.condS (by cbv <;> rfl) (fun h3 => absurd h3 (by decide)) (fun _ => SW.skip ?_))
      | (refine SW.condS (by cbv <;> rfl) (fun h3 => ?_) (fun _ => SW.skip ?_)
         · exfalso; subst hO; simp [std] at h3)
    refine SW.run tok hO (by cbv <;> rfl) (by trivial) ?_
    exact ⟨i + 1, by omega, hlt, Weak.by rfl rfl (by simp) (Nat.le_refl _) (Nat.le_refl _) ⟨⟨rfl, .inl rfl⟩, ⟨rfl, .inl rfl⟩, ⟨inc_ok hO (by omega), .inl rfl⟩, trivial⟩ trivial⟩
  · refine SW.seqRun tok hO (by cbv <;> rfl) (by trivial) ?_
    exact SW.ret ⟨_, _, rfl, rfl, Eqv.of rfl⟩
end Go.Fz
