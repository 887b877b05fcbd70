/- Own work of the verifier of watercress: FzNm4. -/
import Derived.Test.YtpefamheopplnaaMm30
set_option linter.unusedVariables false
set_option linter.unusedSimpArgs false
namespace Go.Fz
open Go.Proofs
set_option maxRecDepth 100000
set_option linter.unusedVariables false
set_option maxHeartbeats 32000000 in
theorem nm_1 (g : Nat → AV) (O : Ar) (hO : O = std) (X : Nat → Nat → AV) (xa xb xe xf : Int)(hbo : Pure Try.prog 18 [dayV (twoD 0)] (.tup [.agg [.isl 2 2 false (rngC (pick2 20 25) (pick2 22 25)), .isl 2 2 false (rngC (pick2 22 24) (pick2 25 24)), .isl 2 2 false X, iV xa, iV xb, iV 1, iV 5, iV xe, iV xf, iV 0, iV 3], iV 0])) (h : AllP (fun p => g p.1 = p.2) ([] : List (Nat × AV))) :
    SW Try.prog none (nthC 1 (bodyF Try.f7)) (midK 274 ([(1, .ptr 0 0), (2, iV 0)] : List (Nat × AV)) ⟨[(0, .cells none false [.isl 2 2 false (rngC (pick2 20 25) (pick2 22 25)), .isl 2 2 false (rngC (pick2 22 24) (pick2 25 24)), .isl 2 2 false X, iV xa, iV xb, iV 1, iV 5, iV xe, iV xf, iV 0, iV 3])], 1⟩) ⟨⟨274, g⟩, []⟩ ⟨[], 0⟩ := by
  have hd := two_ok0
  generalize dayV (twoD 0) = D at hd hbo
  refine SW.run tok hO (by cbv <;> rfl) (by trivial) ?_
  refine OpsW.callP hd (by cbv <;> rfl) ?_
  refine OpsW.run tok hO (by cbv <;> rfl) (by trivial) ?_
  refine OpsW.callP hbo (by cbv <;> rfl) ?_
  refine OpsW.run tok hO (by cbv <;> rfl) (by trivial) ?_
  exact ⟨rfl, _, rfl, ⟨rfl, rfl, trivial⟩, rfl⟩
set_option maxHeartbeats 32000000 in
theorem nm_2 (g : Nat → AV) (O : Ar) (hO : O = std) (X : Nat → Nat → AV) (xa xb xe xf : Int) (h : AllP (fun p => g p.1 = p.2) ([(1, .ptr 0 0), (2, iV 0)] : List (Nat × AV))) :
    SW Try.prog none (nthC 2 (bodyF Try.f7)) (midK 274 ([(1, .ptr 0 0), (2, iV 0), (3, iV 2), (4, iV 0)] : List (Nat × AV)) ⟨[(0, .cells none false [.isl 2 2 false (rngC (pick2 20 25) (pick2 22 25)), .isl 2 2 false (rngC (pick2 22 24) (pick2 25 24)), .isl 2 2 false X, iV xa, iV xb, iV 1, iV 5, iV xe, iV xf, iV 0, iV 3])], 1⟩) ⟨⟨274, g⟩, []⟩ ⟨[(0, .cells none false [.isl 2 2 false (rngC (pick2 20 25) (pick2 22 25)), .isl 2 2 false (rngC (pick2 22 24) (pick2 25 24)), .isl 2 2 false X, iV xa, iV xb, iV 1, iV 5, iV xe, iV xf, iV 0, iV 3])], 1⟩ := by
  obtain ⟨g1, g2, _⟩ := h
  simp only at g1 g2
  rw [← updT_self g1, ← updT_self g2]
  have hd := two_ok0
  have hf := nm_thick22
  generalize dayV (twoD 0) = D at hd hf
  refine SW.run tok hO (by cbv <;> rfl) (by trivial) ?_
  refine OpsW.callP hd (by cbv <;> rfl) ?_
  refine OpsW.run tok hO (by cbv <;> rfl) (by trivial) ?_
  refine OpsW.callP hf (by cbv <;> rfl) ?_
  refine OpsW.run tok hO (by cbv <;> rfl) (by trivial) ?_
  exact ⟨rfl, _, rfl, ⟨rfl, rfl, rfl, rfl, trivial⟩, rfl⟩
set_option maxHeartbeats 32000000 in
theorem nm_3 (g : Nat → AV) (O : Ar) (hO : O = std) (X : Nat → Nat → AV) (xa xb xe xf : Int) (h : AllP (fun p => g p.1 = p.2) ([(1, .ptr 0 0), (2, iV 0), (3, iV 2), (4, iV 0)] : List (Nat × AV))) :
    SW Try.prog none (nthC 3 (bodyF Try.f7)) (midK 274 ([(1, .ptr 0 0), (2, iV 0), (3, iV 2), (4, iV 0), (5, iV 1), (6, iV 0)] : List (Nat × AV)) ⟨[(0, .cells none false [.isl 2 2 false (rngC (pick2 20 25) (pick2 22 25)), .isl 2 2 false (rngC (pick2 22 24) (pick2 25 24)), .isl 2 2 false X, iV xa, iV xb, iV 1, iV 5, iV xe, iV xf, iV 0, iV 3])], 1⟩) ⟨⟨274, g⟩, []⟩ ⟨[(0, .cells none false [.isl 2 2 false (rngC (pick2 20 25) (pick2 22 25)), .isl 2 2 false (rngC (pick2 22 24) (pick2 25 24)), .isl 2 2 false X, iV xa, iV xb, iV 1, iV 5, iV xe, iV xf, iV 0, iV 3])], 1⟩ := by
  obtain ⟨g1, g2, g3, g4, _⟩ := h
  simp only at g1 g2 g3 g4
  rw [← updT_self g1, ← updT_self g2, ← updT_self g3, ← updT_self g4]
  have hd := two_ok0
  have hf := nm_thick19
  generalize dayV (twoD 0) = D at hd hf
  refine SW.run tok hO (by cbv <;> rfl) (by trivial) ?_
  refine OpsW.callP hd (by cbv <;> rfl) ?_
  refine OpsW.run tok hO (by cbv <;> rfl) (by trivial) ?_
  refine OpsW.callP hf (by cbv <;> rfl) ?_
  refine OpsW.run tok hO (by cbv <;> rfl) (by trivial) ?_
  exact ⟨rfl, _, rfl, ⟨rfl, rfl, rfl, rfl, rfl, rfl, trivial⟩, rfl⟩
set_option maxHeartbeats 32000000 in
theorem nm_4 (g : Nat → AV) (O : Ar) (hO : O = std) (X : Nat → Nat → AV) (xa xb xe xf : Int) (h : AllP (fun p => g p.1 = p.2) ([(1, .ptr 0 0), (2, iV 0), (3, iV 2), (4, iV 0), (5, iV 1), (6, iV 0)] : List (Nat × AV))) :
    SW Try.prog none (nthC 4 (bodyF Try.f7)) (midK 274 ([(1, .ptr 0 0), (2, iV 0), (3, iV 2), (4, iV 0), (5, iV 1), (6, iV 0), (7, .isl 0 1 false (intC (fun _ => 0))), (8, iV 0)] : List (Nat × AV)) ⟨[(0, .cells none false [.isl 2 2 false (rngC (pick2 20 25) (pick2 22 25)), .isl 2 2 false (rngC (pick2 22 24) (pick2 25 24)), .isl 2 2 false X, iV xa, iV xb, iV 1, iV 5, iV xe, iV xf, iV 0, iV 3])], 1⟩) ⟨⟨274, g⟩, []⟩ ⟨[(0, .cells none false [.isl 2 2 false (rngC (pick2 20 25) (pick2 22 25)), .isl 2 2 false (rngC (pick2 22 24) (pick2 25 24)), .isl 2 2 false X, iV xa, iV xb, iV 1, iV 5, iV xe, iV xf, iV 0, iV 3])], 1⟩ := by
  obtain ⟨g1, g2, g3, g4, g5, g6, _⟩ := h
  simp only at g1 g2 g3 g4 g5 g6
  rw [← updT_self g1, ← updT_self g2, ← updT_self g3, ← updT_self g4, ← updT_self g5, ← updT_self g6]
  have hd := two_ok1
  have hf := nm_leave
  generalize dayV (twoD 1) = D at hd hf
  refine SW.run tok hO (by cbv <;> rfl) (by trivial) ?_
  refine OpsW.callP hd (by cbv <;> rfl) ?_
  refine OpsW.run tok hO (by cbv <;> rfl) (by trivial) ?_
  refine OpsW.callP hf (by cbv <;> rfl) ?_
  refine OpsW.run tok hO (by cbv <;> rfl) (by trivial) ?_
  exact ⟨rfl, _, rfl, ⟨rfl, rfl, rfl, rfl, rfl, rfl, rfl, rfl, trivial⟩, rfl⟩
set_option maxHeartbeats 32000000 in
theorem nm_6 (g : Nat → AV) (O : Ar) (hO : O = std)  (h : AllP (fun p => g p.1 = p.2) ([] : List (Nat × AV))) :
    SW Try.prog none (nthC 6 (bodyF Try.f7)) (midK 274 ([(2, iV 2)] : List (Nat × AV)) ⟨[], 9⟩) ⟨⟨274, g⟩, []⟩ ⟨[], 7⟩ := by
  have hd := two_ok0
  have hf := nm_play23
  obtain ⟨wf, lf, cf, hD⟩ : ∃ wf lf cf, dayV (twoD 0) = .agg [iV 6, iV 4, .isl 2 2 false wf, .isl 2 3 false lf, .isl 0 4 false cf] := ⟨_, _, _, rfl⟩
  rw [hD] at hd hf
  clear hD
  refine SW.run tok hO (by cbv <;> rfl) (by trivial) ?_
  refine OpsW.callP hd (by cbv <;> rfl) ?_
  refine OpsW.run tok hO (by cbv <;> rfl) (by trivial) ?_
  refine OpsW.freeze (fun _ => true) 3 (by rfl) ?_
  refine OpsW.callP (Pure.eqv hf ?_) (by cbv <;> rfl) ?_
  · refine .cons (Eqv.of rfl) (.cons (Eqv.agg (.cons (Eqv.isl rfl fun i j hi hj => ?_) (.cons (Eqv.isl rfl fun i j hi hj => ?_) .nil))) .nil)
    · obtain rfl : j = 0 := by omega
      obtain rfl | rfl : i = 0 ∨ i = 1 := by omega
      all_goals exact Eqv.of rfl
    · obtain rfl : j = 0 := by omega
      obtain rfl | rfl : i = 0 ∨ i = 1 := by omega
      all_goals exact Eqv.of rfl
  refine OpsW.run tok hO (by cbv <;> rfl) (by trivial) ?_
  exact ⟨rfl, _, rfl, ⟨rfl, trivial⟩, rfl⟩
set_option maxHeartbeats 32000000 in
theorem nm_7 (g : Nat → AV) (O : Ar) (hO : O = std)  (h : AllP (fun p => g p.1 = p.2) ([(2, iV 2)] : List (Nat × AV))) :
    SW Try.prog none (nthC 7 (bodyF Try.f7)) (midK 274 ([(2, iV 2), (4, iV 2)] : List (Nat × AV)) ⟨[], 11⟩) ⟨⟨274, g⟩, []⟩ ⟨[], 9⟩ := by
  obtain ⟨g2, _⟩ := h
  simp only at g2
  rw [← updT_self g2]
  have hd := two_ok0
  have hf := nm_play20
  obtain ⟨wf, lf, cf, hD⟩ : ∃ wf lf cf, dayV (twoD 0) = .agg [iV 6, iV 4, .isl 2 2 false wf, .isl 2 3 false lf, .isl 0 4 false cf] := ⟨_, _, _, rfl⟩
  rw [hD] at hd hf
  clear hD
  refine SW.run tok hO (by cbv <;> rfl) (by trivial) ?_
  refine OpsW.callP hd (by cbv <;> rfl) ?_
  refine OpsW.run tok hO (by cbv <;> rfl) (by trivial) ?_
  refine OpsW.freeze (fun _ => true) 3 (by rfl) ?_
  refine OpsW.callP (Pure.eqv hf ?_) (by cbv <;> rfl) ?_
  · refine .cons (Eqv.of rfl) (.cons (Eqv.agg (.cons (Eqv.isl rfl fun i j hi hj => ?_) (.cons (Eqv.isl rfl fun i j hi hj => ?_) .nil))) .nil)
    · obtain rfl : j = 0 := by omega
      obtain rfl | rfl : i = 0 ∨ i = 1 := by omega
      all_goals exact Eqv.of rfl
    · obtain rfl : j = 0 := by omega
      obtain rfl : i = 0 := by omega
      exact Eqv.of rfl
  refine OpsW.run tok hO (by cbv <;> rfl) (by trivial) ?_
  exact ⟨rfl, _, rfl, ⟨rfl, rfl, trivial⟩, rfl⟩
set_option maxHeartbeats 32000000 in
theorem nm_8 (g : Nat → AV) (O : Ar) (hO : O = std)  (h : AllP (fun p => g p.1 = p.2) ([(2, iV 2), (4, iV 2)] : List (Nat × AV))) :
    SW Try.prog none (nthC 8 (bodyF Try.f7)) (midK 274 ([(2, iV 2), (4, iV 2), (6, iV 2)] : List (Nat × AV)) ⟨[], 11⟩) ⟨⟨274, g⟩, []⟩ ⟨[], 11⟩ := by
  obtain ⟨g2, g4, _⟩ := h
  simp only at g2 g4
  rw [← updT_self g2, ← updT_self g4]
  have hd := two_ok2
  have hf := nm_thick2
  generalize dayV (twoD 2) = D at hd hf
  refine SW.run tok hO (by cbv <;> rfl) (by trivial) ?_
  refine OpsW.callP hd (by cbv <;> rfl) ?_
  refine OpsW.run tok hO (by cbv <;> rfl) (by trivial) ?_
  refine OpsW.callP hf (by cbv <;> rfl) ?_
  refine OpsW.run tok hO (by cbv <;> rfl) (by trivial) ?_
  exact ⟨rfl, _, rfl, ⟨rfl, rfl, rfl, trivial⟩, rfl⟩
set_option maxHeartbeats 32000000 in
theorem nm_9 (g : Nat → AV) (O : Ar) (hO : O = std)  (h : AllP (fun p => g p.1 = p.2) ([(2, iV 2), (4, iV 2), (6, iV 2)] : List (Nat × AV))) :
    SW Try.prog none (nthC 9 (bodyF Try.f7)) (midK 274 ([(2, iV 2), (4, iV 2), (6, iV 2), (8, iV 2)] : List (Nat × AV)) ⟨[], 11⟩) ⟨⟨274, g⟩, []⟩ ⟨[], 11⟩ := by
  obtain ⟨g2, g4, g6, _⟩ := h
  simp only at g2 g4 g6
  rw [← updT_self g2, ← updT_self g4, ← updT_self g6]
  have hd := two_ok0
  have hf := nm_thick61
  generalize dayV (twoD 0) = D at hd hf
  refine SW.run tok hO (by cbv <;> rfl) (by trivial) ?_
  refine OpsW.callP hd (by cbv <;> rfl) ?_
  refine OpsW.run tok hO (by cbv <;> rfl) (by trivial) ?_
  refine OpsW.callP hf (by cbv <;> rfl) ?_
  refine OpsW.run tok hO (by cbv <;> rfl) (by trivial) ?_
  exact ⟨rfl, _, rfl, ⟨rfl, rfl, rfl, rfl, trivial⟩, rfl⟩
set_option maxHeartbeats 32000000 in
theorem nm_10 (g : Nat → AV) (O : Ar) (hO : O = std)  (h : AllP (fun p => g p.1 = p.2) ([(2, iV 2), (4, iV 2), (6, iV 2), (8, iV 2)] : List (Nat × AV))) :
    SW Try.prog none (nthC 10 (bodyF Try.f7)) (midK 274 ([(2, iV 2), (4, iV 2), (6, iV 2), (8, iV 2), (10, iV 11)] : List (Nat × AV)) ⟨[(11, .cells none false bnd0)], 12⟩) ⟨⟨274, g⟩, []⟩ ⟨[], 11⟩ := by
  obtain ⟨g2, g4, g6, g8, _⟩ := h
  simp only at g2 g4 g6 g8
  rw [← updT_self g2, ← updT_self g4, ← updT_self g6, ← updT_self g8]
  have hd := two_ok2
  have hf := nm_bounds2
  generalize dayV (twoD 2) = D at hd hf
  refine SW.run tok hO (by cbv <;> rfl) (by trivial) ?_
  refine OpsW.callP hd (by cbv <;> rfl) ?_
  refine OpsW.run tok hO (by cbv <;> rfl) (by trivial) ?_
  refine OpsW.callP hf (by cbv <;> rfl) ?_
  refine OpsW.run tok hO (by cbv <;> rfl) (by trivial) ?_
  exact ⟨rfl, _, rfl, ⟨rfl, rfl, rfl, rfl, rfl, trivial⟩, rfl⟩
set_option maxHeartbeats 32000000 in
theorem nm_11 (g : Nat → AV) (O : Ar) (hO : O = std)  (h : AllP (fun p => g p.1 = p.2) ([(2, iV 2), (4, iV 2), (6, iV 2), (8, iV 2), (10, iV 11)] : List (Nat × AV))) :
    SW Try.prog none (nthC 11 (bodyF Try.f7)) (midK 274 ([(2, iV 2), (4, iV 2), (6, iV 2), (8, iV 2), (10, iV 11), (12, iV 7)] : List (Nat × AV)) ⟨[(11, .cells none false bnd0)], 12⟩) ⟨⟨274, g⟩, []⟩ ⟨[(11, .cells none false bnd0)], 12⟩ := by
  obtain ⟨g2, g4, g6, g8, g10, _⟩ := h
  simp only at g2 g4 g6 g8 g10
  rw [← updT_self g2, ← updT_self g4, ← updT_self g6, ← updT_self g8, ← updT_self g10]
  have hd := two_ok1
  have hf := nm_first
  generalize dayV (twoD 1) = D at hd hf
  refine SW.run tok hO (by cbv <;> rfl) (by trivial) ?_
  refine OpsW.callP hd (by cbv <;> rfl) ?_
  refine OpsW.run tok hO (by cbv <;> rfl) (by trivial) ?_
  refine OpsW.callP hf (by cbv <;> rfl) ?_
  refine OpsW.run tok hO (by cbv <;> rfl) (by trivial) ?_
  exact ⟨rfl, _, rfl, ⟨rfl, rfl, rfl, rfl, rfl, rfl, trivial⟩, rfl⟩
set_option maxHeartbeats 32000000 in
theorem nm_12 (g : Nat → AV) (O : Ar) (hO : O = std)  (h : AllP (fun p => g p.1 = p.2) ([(2, iV 2), (4, iV 2), (6, iV 2), (8, iV 2), (10, iV 11), (12, iV 7)] : List (Nat × AV))) :
    SW Try.prog none (nthC 12 (bodyF Try.f7)) (midK 274 ([(2, iV 2), (4, iV 2), (6, iV 2), (8, iV 2), (10, iV 11), (12, iV 7), (13, .ptr 16 0)] : List (Nat × AV)) ⟨[(16, .cells none false (twD 0 12)), (11, .cells none false bnd0)] ++ twH 0 12, 17⟩) ⟨⟨274, g⟩, []⟩ ⟨[(11, .cells none false bnd0)], 12⟩ := by
  obtain ⟨g2, g4, g6, g8, g10, g12, _⟩ := h
  simp only at g2 g4 g6 g8 g10 g12
  rw [← updT_self g2, ← updT_self g4, ← updT_self g6, ← updT_self g8, ← updT_self g10, ← updT_self g12]
  refine SW.run tok hO (by cbv <;> rfl) (by trivial) ?_
  refine OpsW.apply (by cbv <;> rfl) (two_at (R := [(11, .cells none false bnd0)]) (by rfl) two_o0_12) fun v st' hk => ?_
  obtain ⟨rfl, rfl⟩ := hk
  refine OpsW.run tok hO (by cbv <;> rfl) (by trivial) ?_
  exact ⟨rfl, _, rfl, ⟨rfl, rfl, rfl, rfl, rfl, rfl, rfl, trivial⟩, rfl⟩
set_option maxHeartbeats 32000000 in
theorem nm_13 (g : Nat → AV) (O : Ar) (hO : O = std)  (h : AllP (fun p => g p.1 = p.2) ([(2, iV 2), (4, iV 2), (6, iV 2), (8, iV 2), (10, iV 11), (12, iV 7), (13, .ptr 16 0)] : List (Nat × AV))) :
    SW Try.prog none (nthC 13 (bodyF Try.f7)) (midK 274 ([(2, iV 2), (4, iV 2), (6, iV 2), (8, iV 2), (10, iV 11), (12, iV 7), (13, .ptr 16 0)] : List (Nat × AV)) ⟨[(16, .cells none false (twD 0 12)), (11, .cells none false bnd0)] ++ [(15, .cells none false [iV 0, iV 400, iV 500, iV 1, iV 610, iV 610]), (14, .cells none false [iV 20, iV 20, iV 25, iV 25]), (13, .cells none false twC), (12, .cells none false (twD 0 12))], 17⟩) ⟨⟨274, g⟩, []⟩ ⟨[(16, .cells none false (twD 0 12)), (11, .cells none false bnd0)] ++ twH 0 12, 17⟩ := by
  obtain ⟨g2, g4, g6, g8, g10, g12, g13, _⟩ := h
  simp only at g2 g4 g6 g8 g10 g12 g13
  rw [← updT_self g2, ← updT_self g4, ← updT_self g6, ← updT_self g8, ← updT_self g10, ← updT_self g12, ← updT_self g13]
  refine SW.runD tok mixed hO (by rfl) (by cbv <;> rfl) (by trivial) ?_
  refine AnyE.callP (between_ok 20 20) (by cbv <;> rfl) (by cbv <;> rfl) ?_
  refine AnyE.run tok hO (by rfl) (by cbv <;> rfl) (by trivial) ?_
  refine AnyE.callP (between_ok 400 500) (by cbv <;> rfl) (by cbv <;> rfl) ?_
  refine AnyE.run tok hO (by rfl) (by cbv <;> rfl) (by trivial) ?_
  refine AnyE.idxSl tok 6 (n := 0) (by rfl) (by cbv <;> rfl) (by kernel_rfl) (by decide) (by cbv <;> rfl) fun q hq => ?_
  subst hq
  refine AnyE.effK tok hO (by cbv <;> rfl) (by cbv <;> rfl) (by trivial) ?_ ?_
  · exact (by repeat (first | exact trivial | refine And.intro (by first | exact lv_of hO (by cbv <;> rfl) (by trivial) | (cbv <;> rfl)) ?_))
  refine AnyE.run tok hO (by rfl) (by cbv <;> rfl) (by trivial) ?_
  refine AnyE.idxSl tok 8 (n := 0) (by rfl) (by cbv <;> rfl) (by kernel_rfl) (by decide) (by cbv <;> rfl) fun q hq => ?_
  subst hq
  refine AnyE.run tok hO (by rfl) (by cbv <;> rfl) (by trivial) ?_
  refine AnyE.effK tok hO (by cbv <;> rfl) (by cbv <;> rfl) (by trivial) ?_ ?_
  · exact (by repeat (first | exact trivial | refine And.intro (by first | exact lv_of hO (by cbv <;> rfl) (by trivial) | (cbv <;> rfl)) ?_))
  refine AnyE.run tok hO (by rfl) (by cbv <;> rfl) (by trivial) ?_
  exact ⟨rfl, _, rfl, ⟨rfl, rfl, rfl, rfl, rfl, rfl, rfl, trivial⟩, rfl⟩
set_option maxHeartbeats 32000000 in
theorem nm_14 (g : Nat → AV) (O : Ar) (hO : O = std)  (h : AllP (fun p => g p.1 = p.2) ([(2, iV 2), (4, iV 2), (6, iV 2), (8, iV 2), (10, iV 11), (12, iV 7), (13, .ptr 16 0)] : List (Nat × AV))) :
    SW Try.prog none (nthC 14 (bodyF Try.f7)) (midK 274 ([(2, iV 2), (4, iV 2), (6, iV 2), (8, iV 2), (10, iV 11), (12, iV 7), (15, iV 10)] : List (Nat × AV)) ⟨[], 17⟩) ⟨⟨274, g⟩, []⟩ ⟨[(16, .cells none false (twD 0 12)), (11, .cells none false bnd0)] ++ [(15, .cells none false [iV 0, iV 400, iV 500, iV 1, iV 610, iV 610]), (14, .cells none false [iV 20, iV 20, iV 25, iV 25]), (13, .cells none false twC), (12, .cells none false (twD 0 12))], 17⟩ := by
  obtain ⟨g2, g4, g6, g8, g10, g12, g13, _⟩ := h
  simp only at g2 g4 g6 g8 g10 g12 g13
  rw [← updT_self g2, ← updT_self g4, ← updT_self g6, ← updT_self g8, ← updT_self g10, ← updT_self g12, ← updT_self g13]
  refine SW.run tok hO (by cbv <;> rfl) (by trivial) ?_
  refine OpsW.freeze (fun _ => true) 3 (by rfl) ?_
  refine OpsW.callP (Pure.eqv nm_fewest ?_) (by cbv <;> rfl) ?_
  · exact .cons (Eqv.agg (.cons (Eqv.of rfl) (.cons (Eqv.of rfl) (.cons (by (first | refine Eqv.isl rfl fun i j hi hj => ?_ | refine Eqv.trans Eqv.islX (Eqv.isl rfl fun i j hi hj => ?_)) <;> (obtain rfl | rfl : i = 0 ∨ i = 1 := by omega) <;> (obtain rfl | rfl : j = 0 ∨ j = 1 := by omega) <;> exact Eqv.of rfl) (.cons (by (first | refine Eqv.isl rfl fun i j hi hj => ?_ | refine Eqv.trans Eqv.islX (Eqv.isl rfl fun i j hi hj => ?_)) <;> (obtain rfl | rfl : i = 0 ∨ i = 1 := by omega) <;> (obtain rfl | rfl | rfl : j = 0 ∨ j = 1 ∨ j = 2 := by omega) <;> exact Eqv.of rfl) (.cons (by (first | refine Eqv.isl rfl fun i j hi hj => absurd hi (Nat.not_lt_zero i) | refine Eqv.trans Eqv.islX (Eqv.isl rfl fun i j hi hj => absurd hi (Nat.not_lt_zero i)) | exact Eqv.nil)) .nil)))))) .nil
  refine OpsW.run tok hO (by cbv <;> rfl) (by trivial) ?_
  exact ⟨rfl, _, rfl, ⟨rfl, rfl, rfl, rfl, rfl, rfl, rfl, trivial⟩, rfl⟩
end Go.Fz
