/- Own work of the verifier of watercress: FzTr5. -/
import Derived.Test.YtpefamheopplnaaMl26
import Derived.Test.YtpefamheopplnaaMl15
import Derived.Test.YtpefamheopplnaaMl25
import Derived.Test.YtpefamheopplnaaMl21
set_option linter.unusedVariables false
set_option linter.unusedSimpArgs false
namespace Go.Fz
open Go.Proofs
set_option maxRecDepth 100000
set_option linter.unusedVariables false
set_option maxHeartbeats 16000000 in
theorem tr_3 (d x : DayD) (nw nl : Nat) (fe st bu le lo0 hi0 lo1 hi1 lo2 hi2 zf : Nat → Int) (q0 q1 q2 q3 p0 p1 p2 p3 p4 p5 p6 p7 : Int) (g : Nat → AV) (O : Ar) (hO : O = std) (hday : Pure Try.prog 19 [dayV x] (dayV x))(htru : Pure Try.prog 43 [.agg [intsV nw false fe, intsV nl false st]] (.agg [intsV nw false fe, intsV nl false st]))(hplay : Pure Try.prog 39 [dayV x, .agg [intsV nw false fe, intsV nl false st]] (.tup [.agg [intsV nw false bu, intsV nw false le, iV q0, iV q1, iV q2, iV q3], iV 0])) (h : AllP (fun p => g p.1 = p.2) [(7, .ptr 1 0), (8, .ptr 2 0)]) :
    SW Try.prog none (nthC 3 (bodyF Try.f8)) (midK 291 [(7, .ptr 1 0), (8, .ptr 2 0), (9, .ptr 3 0), (10, iV 0)] ⟨[(3, .cells none false [intsV nw false bu, intsV nw false le, iV q0, iV q1, iV q2, iV q3]), (2, .cells none false [intsV nw false fe, intsV nl false st]), (1, .cells none false (dayC x)), (0, .cells none false (dayC d))], 4⟩) ⟨⟨291, g⟩, []⟩ ⟨[(2, .cells none false [intsV nw false fe, intsV nl false st]), (1, .cells none false (dayC x)), (0, .cells none false (dayC d))], 3⟩ := by
  obtain ⟨g7, g8, _⟩ := h
  simp only at g7 g8
  rw [← updT_self g7, ← updT_self g8]
  refine SW.runD tok mixed hO (by rfl) (by cbv <;> rfl) (by trivial) ?_
  refine AnyE.many [1, 8] (by cbv <;> rfl) (by rfl) ⟨?_, ?_, trivial⟩
  · refine PickE.callQ hday (by cbv <;> rfl) (by cbv <;> rfl) ?_ ?_
    · exact (by repeat (first | exact trivial | refine And.intro (by first | exact lv_of hO (by cbv <;> rfl) (by trivial) | (cbv <;> rfl)) ?_))
    refine AnyE.run tok hO (by rfl) (by cbv <;> rfl) (by trivial) ?_
    refine AnyE.many [3, 8] (by cbv <;> rfl) (by rfl) ⟨?_, ?_, trivial⟩
    · refine PickE.callQ htru (by cbv <;> rfl) (by cbv <;> rfl) ?_ ?_
      · exact (by repeat (first | exact trivial | refine And.intro (by first | exact lv_of hO (by cbv <;> rfl) (by trivial) | (cbv <;> rfl)) ?_))
      refine AnyE.run tok hO (by rfl) (by cbv <;> rfl) (by trivial) ?_
      refine AnyE.many [4, 8] (by cbv <;> rfl) (by rfl) ⟨?_, ?_, trivial⟩
      · refine PickE.callQ hplay (by cbv <;> rfl) (by cbv <;> rfl) ?_ ?_
        · exact (by repeat (first | exact trivial | refine And.intro (by first | exact lv_of hO (by cbv <;> rfl) (by trivial) | (cbv <;> rfl)) ?_))
        refine AnyE.run tok hO (by rfl) (by cbv <;> rfl) (by trivial) ?_
        refine AnyE.effK tok hO (by cbv <;> rfl) (by cbv <;> rfl) (by trivial) ?_ ?_
        · exact (by repeat (first | exact trivial | refine And.intro (by first | exact lv_of hO (by cbv <;> rfl) (by trivial) | (cbv <;> rfl)) ?_))
        refine AnyE.run tok hO (by rfl) (by cbv <;> rfl) (by trivial) ?_
        refine AnyE.effK tok hO (by cbv <;> rfl) (by cbv <;> rfl) (by trivial) ?_ ?_
        · exact (by repeat (first | exact trivial | refine And.intro (by first | exact lv_of hO (by cbv <;> rfl) (by trivial) | (cbv <;> rfl)) ?_))
        refine AnyE.run tok hO (by rfl) (by cbv <;> rfl) (by trivial) ?_
        exact ⟨rfl, _, rfl, ⟨rfl, rfl, rfl, rfl, trivial⟩, rfl⟩
      · refine PickE.eff tok hO (by cbv <;> rfl) (by cbv <;> rfl) (by trivial) ?_ ?_
        · exact (by repeat (first | exact trivial | refine And.intro (by first | exact lv_of hO (by cbv <;> rfl) (by trivial) | (cbv <;> rfl)) ?_))
        refine AnyE.run tok hO (by rfl) (by cbv <;> rfl) (by trivial) ?_
        refine AnyE.callP hplay (by cbv <;> rfl) (by cbv <;> rfl) ?_
        refine AnyE.run tok hO (by rfl) (by cbv <;> rfl) (by trivial) ?_
        refine AnyE.effK tok hO (by cbv <;> rfl) (by cbv <;> rfl) (by trivial) ?_ ?_
        · exact (by repeat (first | exact trivial | refine And.intro (by first | exact lv_of hO (by cbv <;> rfl) (by trivial) | (cbv <;> rfl)) ?_))
        refine AnyE.run tok hO (by rfl) (by cbv <;> rfl) (by trivial) ?_
        exact ⟨rfl, _, rfl, ⟨rfl, rfl, rfl, rfl, trivial⟩, rfl⟩
    · refine PickE.eff tok hO (by cbv <;> rfl) (by cbv <;> rfl) (by trivial) ?_ ?_
      · exact (by repeat (first | exact trivial | refine And.intro (by first | exact lv_of hO (by cbv <;> rfl) (by trivial) | (cbv <;> rfl)) ?_))
      refine AnyE.run tok hO (by rfl) (by cbv <;> rfl) (by trivial) ?_
      refine AnyE.callP htru (by cbv <;> rfl) (by cbv <;> rfl) ?_
      refine AnyE.run tok hO (by rfl) (by cbv <;> rfl) (by trivial) ?_
      refine AnyE.callP hplay (by cbv <;> rfl) (by cbv <;> rfl) ?_
      refine AnyE.run tok hO (by rfl) (by cbv <;> rfl) (by trivial) ?_
      refine AnyE.effK tok hO (by cbv <;> rfl) (by cbv <;> rfl) (by trivial) ?_ ?_
      · exact (by repeat (first | exact trivial | refine And.intro (by first | exact lv_of hO (by cbv <;> rfl) (by trivial) | (cbv <;> rfl)) ?_))
      refine AnyE.run tok hO (by rfl) (by cbv <;> rfl) (by trivial) ?_
      exact ⟨rfl, _, rfl, ⟨rfl, rfl, rfl, rfl, trivial⟩, rfl⟩
  · refine PickE.eff tok hO (by cbv <;> rfl) (by cbv <;> rfl) (by trivial) ?_ ?_
    · exact (by repeat (first | exact trivial | refine And.intro (by first | exact lv_of hO (by cbv <;> rfl) (by trivial) | (cbv <;> rfl)) ?_))
    refine AnyE.run tok hO (by rfl) (by cbv <;> rfl) (by trivial) ?_
    refine AnyE.callP hday (by cbv <;> rfl) (by cbv <;> rfl) ?_
    refine AnyE.run tok hO (by rfl) (by cbv <;> rfl) (by trivial) ?_
    refine AnyE.callP htru (by cbv <;> rfl) (by cbv <;> rfl) ?_
    refine AnyE.run tok hO (by rfl) (by cbv <;> rfl) (by trivial) ?_
    refine AnyE.callP hplay (by cbv <;> rfl) (by cbv <;> rfl) ?_
    refine AnyE.run tok hO (by rfl) (by cbv <;> rfl) (by trivial) ?_
    refine AnyE.effK tok hO (by cbv <;> rfl) (by cbv <;> rfl) (by trivial) ?_ ?_
    · exact (by repeat (first | exact trivial | refine And.intro (by first | exact lv_of hO (by cbv <;> rfl) (by trivial) | (cbv <;> rfl)) ?_))
    refine AnyE.run tok hO (by rfl) (by cbv <;> rfl) (by trivial) ?_
    exact ⟨rfl, _, rfl, ⟨rfl, rfl, rfl, rfl, trivial⟩, rfl⟩
set_option maxHeartbeats 16000000 in
theorem tr_4 (d x : DayD) (nw nl : Nat) (fe st bu le lo0 hi0 lo1 hi1 lo2 hi2 zf : Nat → Int) (q0 q1 q2 q3 p0 p1 p2 p3 p4 p5 p6 p7 : Int) (g : Nat → AV) (O : Ar) (hO : O = std) (hday : Pure Try.prog 19 [dayV x] (dayV x)) (hbo : Pure Try.prog 18 [dayV x] (.tup [.agg (bndC nw lo0 hi0 lo1 hi1 lo2 hi2 p0 p1 p2 p3 p4 p5 p6 p7), iV 0])) (h : AllP (fun p => g p.1 = p.2) [(7, .ptr 1 0), (8, .ptr 2 0), (9, .ptr 3 0), (10, iV 0)]) :
    SW Try.prog none (nthC 4 (bodyF Try.f8)) (midK 291 [(7, .ptr 1 0), (8, .ptr 2 0), (9, .ptr 3 0), (10, iV 0), (11, .ptr 4 0), (12, iV 0)] ⟨[(4, .cells none false (bndC nw lo0 hi0 lo1 hi1 lo2 hi2 p0 p1 p2 p3 p4 p5 p6 p7)), (3, .cells none false [intsV nw false bu, intsV nw false le, iV q0, iV q1, iV q2, iV q3]), (2, .cells none false [intsV nw false fe, intsV nl false st]), (1, .cells none false (dayC x)), (0, .cells none false (dayC d))], 5⟩) ⟨⟨291, g⟩, []⟩ ⟨[(3, .cells none false [intsV nw false bu, intsV nw false le, iV q0, iV q1, iV q2, iV q3]), (2, .cells none false [intsV nw false fe, intsV nl false st]), (1, .cells none false (dayC x)), (0, .cells none false (dayC d))], 4⟩ := by
  obtain ⟨g7, g8, g9, g10, _⟩ := h
  simp only at g7 g8 g9 g10
  rw [← updT_self g7, ← updT_self g8, ← updT_self g9, ← updT_self g10]
  refine SW.run tok hO (by cbv <;> rfl) (by trivial) ?_
  refine OpsW.callP hday (by cbv <;> rfl) ?_
  refine OpsW.run tok hO (by cbv <;> rfl) (by trivial) ?_
  refine OpsW.callP hbo (by cbv <;> rfl) ?_
  refine OpsW.run tok hO (by cbv <;> rfl) (by trivial) ?_
  exact ⟨rfl, _, rfl, ⟨rfl, rfl, rfl, rfl, rfl, rfl, trivial⟩, rfl⟩
set_option maxHeartbeats 16000000 in
theorem tr_5 (d x : DayD) (nw nl : Nat) (fe st bu le lo0 hi0 lo1 hi1 lo2 hi2 zf : Nat → Int) (q0 q1 q2 q3 p0 p1 p2 p3 p4 p5 p6 p7 : Int) (g : Nat → AV) (O : Ar) (hO : O = std) (hday : Pure Try.prog 19 [dayV x] (dayV x)) (hle : Pure Try.prog 31 [dayV x] (.tup [intsV 0 false zf, iV 0])) (h : AllP (fun p => g p.1 = p.2) [(7, .ptr 1 0), (8, .ptr 2 0), (9, .ptr 3 0), (10, iV 0), (11, .ptr 4 0), (12, iV 0)]) :
    SW Try.prog none (nthC 5 (bodyF Try.f8)) (midK 291 [(7, .ptr 1 0), (8, .ptr 2 0), (9, .ptr 3 0), (10, iV 0), (11, .ptr 4 0), (12, iV 0), (13, intsV 0 false zf), (14, iV 0)] ⟨[(4, .cells none false (bndC nw lo0 hi0 lo1 hi1 lo2 hi2 p0 p1 p2 p3 p4 p5 p6 p7)), (3, .cells none false [intsV nw false bu, intsV nw false le, iV q0, iV q1, iV q2, iV q3]), (2, .cells none false [intsV nw false fe, intsV nl false st]), (1, .cells none false (dayC x)), (0, .cells none false (dayC d))], 5⟩) ⟨⟨291, g⟩, []⟩ ⟨[(4, .cells none false (bndC nw lo0 hi0 lo1 hi1 lo2 hi2 p0 p1 p2 p3 p4 p5 p6 p7)), (3, .cells none false [intsV nw false bu, intsV nw false le, iV q0, iV q1, iV q2, iV q3]), (2, .cells none false [intsV nw false fe, intsV nl false st]), (1, .cells none false (dayC x)), (0, .cells none false (dayC d))], 5⟩ := by
  obtain ⟨g7, g8, g9, g10, g11, g12, _⟩ := h
  simp only at g7 g8 g9 g10 g11 g12
  rw [← updT_self g7, ← updT_self g8, ← updT_self g9, ← updT_self g10, ← updT_self g11, ← updT_self g12]
  refine SW.run tok hO (by cbv <;> rfl) (by trivial) ?_
  refine OpsW.callP hday (by cbv <;> rfl) ?_
  refine OpsW.run tok hO (by cbv <;> rfl) (by trivial) ?_
  refine OpsW.callP hle (by cbv <;> rfl) ?_
  refine OpsW.run tok hO (by cbv <;> rfl) (by trivial) ?_
  exact ⟨rfl, _, rfl, ⟨rfl, rfl, rfl, rfl, rfl, rfl, rfl, rfl, trivial⟩, rfl⟩
set_option maxHeartbeats 16000000 in
theorem tr_6 (d x : DayD) (nw nl : Nat) (fe st bu le lo0 hi0 lo1 hi1 lo2 hi2 zf : Nat → Int) (q0 q1 q2 q3 p0 p1 p2 p3 p4 p5 p6 p7 : Int) (g : Nat → AV) (O : Ar) (hO : O = std) (hday : Pure Try.prog 19 [dayV x] (dayV x)) (hfi : Pure Try.prog 30 [dayV x] (.tup [iV 0, iV 7])) (h : AllP (fun p => g p.1 = p.2) [(7, .ptr 1 0), (8, .ptr 2 0), (9, .ptr 3 0), (10, iV 0), (11, .ptr 4 0), (12, iV 0), (13, intsV 0 false zf), (14, iV 0)]) :
    SW Try.prog none (nthC 6 (bodyF Try.f8)) (midK 291 [(7, .ptr 1 0), (8, .ptr 2 0), (9, .ptr 3 0), (10, iV 0), (11, .ptr 4 0), (12, iV 0), (13, intsV 0 false zf), (14, iV 0), (15, iV 0), (16, iV 7)] ⟨[(4, .cells none false (bndC nw lo0 hi0 lo1 hi1 lo2 hi2 p0 p1 p2 p3 p4 p5 p6 p7)), (3, .cells none false [intsV nw false bu, intsV nw false le, iV q0, iV q1, iV q2, iV q3]), (2, .cells none false [intsV nw false fe, intsV nl false st]), (1, .cells none false (dayC x)), (0, .cells none false (dayC d))], 5⟩) ⟨⟨291, g⟩, []⟩ ⟨[(4, .cells none false (bndC nw lo0 hi0 lo1 hi1 lo2 hi2 p0 p1 p2 p3 p4 p5 p6 p7)), (3, .cells none false [intsV nw false bu, intsV nw false le, iV q0, iV q1, iV q2, iV q3]), (2, .cells none false [intsV nw false fe, intsV nl false st]), (1, .cells none false (dayC x)), (0, .cells none false (dayC d))], 5⟩ := by
  obtain ⟨g7, g8, g9, g10, g11, g12, g13, g14, _⟩ := h
  simp only at g7 g8 g9 g10 g11 g12 g13 g14
  rw [← updT_self g7, ← updT_self g8, ← updT_self g9, ← updT_self g10, ← updT_self g11, ← updT_self g12, ← updT_self g13, ← updT_self g14]
  refine SW.run tok hO (by cbv <;> rfl) (by trivial) ?_
  refine OpsW.callP hday (by cbv <;> rfl) ?_
  refine OpsW.run tok hO (by cbv <;> rfl) (by trivial) ?_
  refine OpsW.callP hfi (by cbv <;> rfl) ?_
  refine OpsW.run tok hO (by cbv <;> rfl) (by trivial) ?_
  exact ⟨rfl, _, rfl, ⟨rfl, rfl, rfl, rfl, rfl, rfl, rfl, rfl, rfl, rfl, trivial⟩, rfl⟩
set_option maxHeartbeats 16000000 in
theorem tr_7 (d x : DayD) (nw nl : Nat) (fe st bu le lo0 hi0 lo1 hi1 lo2 hi2 zf : Nat → Int) (q0 q1 q2 q3 p0 p1 p2 p3 p4 p5 p6 p7 : Int) (g : Nat → AV) (O : Ar) (hO : O = std) (hxw : x.nw = nw) (h : AllP (fun p => g p.1 = p.2) [(7, .ptr 1 0), (8, .ptr 2 0), (9, .ptr 3 0), (10, iV 0), (11, .ptr 4 0), (12, iV 0), (13, intsV 0 false zf), (14, iV 0), (15, iV 0), (16, iV 7)]) :
    SW Try.prog none (nthC 7 (bodyF Try.f8)) (midK 291 [(7, .ptr 1 0), (8, .ptr 2 0), (9, .ptr 3 0), (10, iV 0), (11, .ptr 4 0), (12, iV 0), (13, intsV 0 false zf), (14, iV 0), (15, iV 0), (16, iV 7), (17, iV (Int.ofNat nw))] ⟨[(4, .cells none false (bndC nw lo0 hi0 lo1 hi1 lo2 hi2 p0 p1 p2 p3 p4 p5 p6 p7)), (3, .cells none false [intsV nw false bu, intsV nw false le, iV q0, iV q1, iV q2, iV q3]), (2, .cells none false [intsV nw false fe, intsV nl false st]), (1, .cells none false (dayC x)), (0, .cells none false (dayC d))], 5⟩) ⟨⟨291, g⟩, []⟩ ⟨[(4, .cells none false (bndC nw lo0 hi0 lo1 hi1 lo2 hi2 p0 p1 p2 p3 p4 p5 p6 p7)), (3, .cells none false [intsV nw false bu, intsV nw false le, iV q0, iV q1, iV q2, iV q3]), (2, .cells none false [intsV nw false fe, intsV nl false st]), (1, .cells none false (dayC x)), (0, .cells none false (dayC d))], 5⟩ := by
  obtain ⟨g7, g8, g9, g10, g11, g12, g13, g14, g15, g16, _⟩ := h
  simp only at g7 g8 g9 g10 g11 g12 g13 g14 g15 g16
  rw [← updT_self g7, ← updT_self g8, ← updT_self g9, ← updT_self g10, ← updT_self g11, ← updT_self g12, ← updT_self g13, ← updT_self g14, ← updT_self g15, ← updT_self g16]
  subst hxw
  refine SW.run tok hO (by cbv <;> rfl) (by trivial) ?_
  exact ⟨rfl, _, rfl, ⟨rfl, rfl, rfl, rfl, rfl, rfl, rfl, rfl, rfl, rfl, rfl, trivial⟩, rfl⟩
end Go.Fz
