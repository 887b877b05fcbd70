/- Own work of the verifier of watercress: FzEn6. -/
import Derived.Test.YtpefamheopplnaaMf35
import Derived.Test.YtpefamheopplnaaMf11
import Derived.Test.YtpefamheopplnaaMf25
set_option linter.unusedVariables false
set_option linter.unusedSimpArgs false
namespace Go.Fz
open Go.Proofs
set_option maxRecDepth 100000
set_option linter.unusedVariables false
set_option maxHeartbeats 16000000 in
theorem en_3 (d : DayD) (k : Nat) (N : Int) (g : Nat → AV) (O : Ar) (hO : O = std) (lo0 hi0 lo1 hi1 lo2 hi2 : Nat → Int) (p q r s t u y z : Int) (e : Int) (hday : Pure Try.prog 19 [dayV d] (dayV d)) (hb : Pure Try.prog 18 [dayV d] (.tup [.agg (bndC d.nw lo0 hi0 lo1 hi1 lo2 hi2 p q r s t u y z), iV e])) (h : AllP (fun p => g p.1 = p.2) [(3, .ptr 0 0), (7, iV (Int.ofNat k)), (8, iV N)]) :
    SW Try.prog none (nthC 3 (bodyF Try.f9)) (midK 237 [(3, .ptr 0 0), (7, iV (Int.ofNat k)), (8, iV N), (9, .ptr 1 0), (10, iV e)] ⟨[(1, .cells none false (bndC d.nw lo0 hi0 lo1 hi1 lo2 hi2 p q r s t u y z)), (0, .cells none false (dayC d))], 2⟩) ⟨⟨237, g⟩, []⟩ ⟨[(0, .cells none false (dayC d))], 1⟩ := by
  obtain ⟨g3, g7, g8, _⟩ := h
  simp only at g3 g7 g8
  rw [← updT_self g3, ← updT_self g7, ← updT_self g8]
  refine SW.run tok hO (by cbv <;> rfl) (by trivial) ?_
  refine OpsW.callP hday (by cbv <;> rfl) ?_
  refine OpsW.run tok hO (by cbv <;> rfl) (by trivial) ?_
  refine OpsW.callP hb (by cbv <;> rfl) ?_
  refine OpsW.run tok hO (by cbv <;> rfl) (by trivial) ?_
  exact ⟨rfl, _, rfl, ⟨rfl, rfl, rfl, rfl, rfl, trivial⟩, rfl⟩
set_option maxHeartbeats 16000000 in
theorem en_4 (d : DayD) (k : Nat) (N : Int) (g : Nat → AV) (O : Ar) (hO : O = std) (lo0 hi0 lo1 hi1 lo2 hi2 : Nat → Int) (p q r s t u y z : Int) (e v e2 : Int) (hday : Pure Try.prog 19 [dayV d] (dayV d)) (ht : Pure Try.prog 23 [dayV d, iV (Int.ofNat k), iV N] (.tup [iV v, iV e2])) (h : AllP (fun p => g p.1 = p.2) [(3, .ptr 0 0), (7, iV (Int.ofNat k)), (8, iV N), (9, .ptr 1 0), (10, iV e)]) :
    SW Try.prog none (nthC 4 (bodyF Try.f9)) (midK 237 [(3, .ptr 0 0), (7, iV (Int.ofNat k)), (8, iV N), (9, .ptr 1 0), (10, iV e), (11, iV v), (12, iV e2)] ⟨[(1, .cells none false (bndC d.nw lo0 hi0 lo1 hi1 lo2 hi2 p q r s t u y z)), (0, .cells none false (dayC d))], 2⟩) ⟨⟨237, g⟩, []⟩ ⟨[(1, .cells none false (bndC d.nw lo0 hi0 lo1 hi1 lo2 hi2 p q r s t u y z)), (0, .cells none false (dayC d))], 2⟩ := by
  obtain ⟨g3, g7, g8, g9, g10, _⟩ := h
  simp only at g3 g7 g8 g9 g10
  rw [← updT_self g3, ← updT_self g7, ← updT_self g8, ← updT_self g9, ← updT_self g10]
  refine SW.run tok hO (by cbv <;> rfl) (by trivial) ?_
  refine OpsW.callP hday (by cbv <;> rfl) ?_
  refine OpsW.run tok hO (by cbv <;> rfl) (by trivial) ?_
  refine OpsW.callP ht (by cbv <;> rfl) ?_
  refine OpsW.run tok hO (by cbv <;> rfl) (by trivial) ?_
  exact ⟨rfl, _, rfl, ⟨rfl, rfl, rfl, rfl, rfl, rfl, rfl, trivial⟩, rfl⟩
set_option maxHeartbeats 16000000 in
theorem en_5 (d : DayD) (k : Nat) (N : Int) (g : Nat → AV) (O : Ar) (hO : O = std) (lo0 hi0 lo1 hi1 lo2 hi2 : Nat → Int) (p q r s t u y z : Int) (e v e2 : Int) (M : Nat) (F S : Nat → Nat → Int) (hl : Pure Try.prog 46 [dayV d] (trsV M d.nw d.nl F S)) (h : AllP (fun p => g p.1 = p.2) [(3, .ptr 0 0), (7, iV (Int.ofNat k)), (8, iV N), (9, .ptr 1 0), (10, iV e), (11, iV v), (12, iV e2)]) :
    SW Try.prog none (nthC 5 (bodyF Try.f9)) (midK 237 [(3, .ptr 0 0), (7, iV (Int.ofNat k)), (8, iV N), (9, .ptr 1 0), (10, iV e), (11, iV v), (12, iV e2), (13, trsV M d.nw d.nl F S)] ⟨[(1, .cells none false (bndC d.nw lo0 hi0 lo1 hi1 lo2 hi2 p q r s t u y z)), (0, .cells none false (dayC d))], 2⟩) ⟨⟨237, g⟩, []⟩ ⟨[(1, .cells none false (bndC d.nw lo0 hi0 lo1 hi1 lo2 hi2 p q r s t u y z)), (0, .cells none false (dayC d))], 2⟩ := by
  obtain ⟨g3, g7, g8, g9, g10, g11, g12, _⟩ := h
  simp only at g3 g7 g8 g9 g10 g11 g12
  rw [← updT_self g3, ← updT_self g7, ← updT_self g8, ← updT_self g9, ← updT_self g10, ← updT_self g11, ← updT_self g12]
  refine SW.run tok hO (by cbv <;> rfl) (by trivial) ?_
  refine OpsW.callP hl (by cbv <;> rfl) ?_
  refine OpsW.run tok hO (by cbv <;> rfl) (by trivial) ?_
  exact ⟨rfl, _, rfl, ⟨rfl, rfl, rfl, rfl, rfl, rfl, rfl, rfl, trivial⟩, rfl⟩
set_option maxHeartbeats 16000000 in
theorem en_3z (d : DayD) (k : Nat) (N : Int) (g : Nat → AV) (O : Ar) (hO : O = std)  (e : Int) (hday : Pure Try.prog 19 [dayV d] (dayV d)) (hb : Pure Try.prog 18 [dayV d] (.tup [.agg (bnd0), iV e])) (h : AllP (fun p => g p.1 = p.2) [(3, .ptr 0 0), (7, iV (Int.ofNat k)), (8, iV N)]) :
    SW Try.prog none (nthC 3 (bodyF Try.f9)) (midK 237 [(3, .ptr 0 0), (7, iV (Int.ofNat k)), (8, iV N), (9, .ptr 1 0), (10, iV e)] ⟨[(1, .cells none false (bnd0)), (0, .cells none false (dayC d))], 2⟩) ⟨⟨237, g⟩, []⟩ ⟨[(0, .cells none false (dayC d))], 1⟩ := by
  obtain ⟨g3, g7, g8, _⟩ := h
  simp only at g3 g7 g8
  rw [← updT_self g3, ← updT_self g7, ← updT_self g8]
  refine SW.run tok hO (by cbv <;> rfl) (by trivial) ?_
  refine OpsW.callP hday (by cbv <;> rfl) ?_
  refine OpsW.run tok hO (by cbv <;> rfl) (by trivial) ?_
  refine OpsW.callP hb (by cbv <;> rfl) ?_
  refine OpsW.run tok hO (by cbv <;> rfl) (by trivial) ?_
  exact ⟨rfl, _, rfl, ⟨rfl, rfl, rfl, rfl, rfl, trivial⟩, rfl⟩
set_option maxHeartbeats 16000000 in
theorem en_4z (d : DayD) (k : Nat) (N : Int) (g : Nat → AV) (O : Ar) (hO : O = std)  (e v e2 : Int) (hday : Pure Try.prog 19 [dayV d] (dayV d)) (ht : Pure Try.prog 23 [dayV d, iV (Int.ofNat k), iV N] (.tup [iV v, iV e2])) (h : AllP (fun p => g p.1 = p.2) [(3, .ptr 0 0), (7, iV (Int.ofNat k)), (8, iV N), (9, .ptr 1 0), (10, iV e)]) :
    SW Try.prog none (nthC 4 (bodyF Try.f9)) (midK 237 [(3, .ptr 0 0), (7, iV (Int.ofNat k)), (8, iV N), (9, .ptr 1 0), (10, iV e), (11, iV v), (12, iV e2)] ⟨[(1, .cells none false (bnd0)), (0, .cells none false (dayC d))], 2⟩) ⟨⟨237, g⟩, []⟩ ⟨[(1, .cells none false (bnd0)), (0, .cells none false (dayC d))], 2⟩ := by
  obtain ⟨g3, g7, g8, g9, g10, _⟩ := h
  simp only at g3 g7 g8 g9 g10
  rw [← updT_self g3, ← updT_self g7, ← updT_self g8, ← updT_self g9, ← updT_self g10]
  refine SW.run tok hO (by cbv <;> rfl) (by trivial) ?_
  refine OpsW.callP hday (by cbv <;> rfl) ?_
  refine OpsW.run tok hO (by cbv <;> rfl) (by trivial) ?_
  refine OpsW.callP ht (by cbv <;> rfl) ?_
  refine OpsW.run tok hO (by cbv <;> rfl) (by trivial) ?_
  exact ⟨rfl, _, rfl, ⟨rfl, rfl, rfl, rfl, rfl, rfl, rfl, trivial⟩, rfl⟩
set_option maxHeartbeats 16000000 in
theorem en_5z (d : DayD) (k : Nat) (N : Int) (g : Nat → AV) (O : Ar) (hO : O = std)  (e v e2 : Int) (M : Nat) (F S : Nat → Nat → Int) (hl : Pure Try.prog 46 [dayV d] (trsV M d.nw d.nl F S)) (h : AllP (fun p => g p.1 = p.2) [(3, .ptr 0 0), (7, iV (Int.ofNat k)), (8, iV N), (9, .ptr 1 0), (10, iV e), (11, iV v), (12, iV e2)]) :
    SW Try.prog none (nthC 5 (bodyF Try.f9)) (midK 237 [(3, .ptr 0 0), (7, iV (Int.ofNat k)), (8, iV N), (9, .ptr 1 0), (10, iV e), (11, iV v), (12, iV e2), (13, trsV M d.nw d.nl F S)] ⟨[(1, .cells none false (bnd0)), (0, .cells none false (dayC d))], 2⟩) ⟨⟨237, g⟩, []⟩ ⟨[(1, .cells none false (bnd0)), (0, .cells none false (dayC d))], 2⟩ := by
  obtain ⟨g3, g7, g8, g9, g10, g11, g12, _⟩ := h
  simp only at g3 g7 g8 g9 g10 g11 g12
  rw [← updT_self g3, ← updT_self g7, ← updT_self g8, ← updT_self g9, ← updT_self g10, ← updT_self g11, ← updT_self g12]
  refine SW.run tok hO (by cbv <;> rfl) (by trivial) ?_
  refine OpsW.callP hl (by cbv <;> rfl) ?_
  refine OpsW.run tok hO (by cbv <;> rfl) (by trivial) ?_
  exact ⟨rfl, _, rfl, ⟨rfl, rfl, rfl, rfl, rfl, rfl, rfl, rfl, trivial⟩, rfl⟩
set_option maxHeartbeats 16000000 in
theorem en_6z (d : DayD) (k : Nat) (N : Int) (g : Nat → AV) (O : Ar) (hO : O = std) (haw : Pure Try.prog 17 [] (.lit (.bool true))) (v : Int) (F S : Nat → Nat → Int) (h : AllP (fun p => g p.1 = p.2) [(3, .ptr 0 0), (7, iV (Int.ofNat k)), (8, iV N), (9, .ptr 1 0), (10, iV 11), (11, iV v), (12, iV 11), (13, trsV 0 d.nw d.nl F S)]) :
    SW Try.prog none (restC 6 (bodyF Try.f9)) (retQ T Try.f9 (fun v st' => Eqv (frz st'.h (fun _ => true) 3 v) (.lit (.bool true)))) ⟨⟨237, g⟩, []⟩ ⟨[(1, .cells none false (bnd0)), (0, .cells none false (dayC d))], 2⟩ := by
  have hp : O.cmp .neq 11 0 = true := by subst hO; rfl
  have hq : O.cmp .eql 11 11 = true := by subst hO; rfl
  have hl : O.cmp .eql (Int.ofNat 0) 0 = true := by subst hO; rfl
  obtain ⟨g3, g7, g8, g9, g10, g11, g12, g13, _⟩ := h
  simp only at g3 g7 g8 g9 g10 g11 g12 g13
  rw [← updT_self g3, ← updT_self g7, ← updT_self g8, ← updT_self g9, ← updT_self g10, ← updT_self g11, ← updT_self g12, ← updT_self g13]
  refine SW.seq ?_
  refine SW.seqRun tok hO (by cbv <;> rfl) (by trivial) ?_
  refine SW.condS (by cbv <;> rfl) (fun _ => ?_) (fun h => absurd (show true = false from hp.symm.trans h) (by decide))
  refine SW.seqRun tok hO (by cbv <;> rfl) (by trivial) ?_
  refine OpsW.splitG (by cbv <;> rfl) (fun _ => ?_) (fun h => absurd (show true = false from hq.symm.trans h) (by decide))
  refine OpsW.run tok hO (by cbv <;> rfl) (by trivial) ?_
  refine OpsW.splitG (by cbv <;> rfl) (fun _ => ?_) (fun h => absurd (show true = false from hq.symm.trans h) (by decide))
  refine OpsW.run tok hO (by cbv <;> rfl) (by trivial) ?_
  refine OpsW.splitG (by cbv <;> rfl) (fun _ => ?_) (fun h => absurd (show true = false from hl.symm.trans h) (by decide))
  refine OpsW.run tok hO (by cbv <;> rfl) (by trivial) ?_
  refine OpsW.callP haw (by cbv <;> rfl) ?_
  refine OpsW.run tok hO (by cbv <;> rfl) (by trivial) ?_
  exact SW.ret ⟨_, _, rfl, rfl, Eqv.refl _⟩
set_option maxHeartbeats 16000000 in
theorem en_6 (d : DayD) (k : Nat) (N : Int) (g : Nat → AV) (O : Ar) (hO : O = std) (lo0 hi0 lo1 hi1 lo2 hi2 : Nat → Int) (p q r s t u y z : Int) (v : Int) (M : Nat) (F S : Nat → Nat → Int) (h : AllP (fun p => g p.1 = p.2) [(3, .ptr 0 0), (7, iV (Int.ofNat k)), (8, iV N), (9, .ptr 1 0), (10, iV 0), (11, iV v), (12, iV 0), (13, trsV M d.nw d.nl F S)]) :
    SW Try.prog none (nthC 6 (bodyF Try.f9)) (midK 237 [(3, .ptr 0 0), (7, iV (Int.ofNat k)), (8, iV N), (9, .ptr 1 0), (11, iV v), (12, iV 0), (13, trsV M d.nw d.nl F S)] ⟨[(1, .cells none false (bndC d.nw lo0 hi0 lo1 hi1 lo2 hi2 p q r s t u y z)), (0, .cells none false (dayC d))], 2⟩) ⟨⟨237, g⟩, []⟩ ⟨[(1, .cells none false (bndC d.nw lo0 hi0 lo1 hi1 lo2 hi2 p q r s t u y z)), (0, .cells none false (dayC d))], 2⟩ := by
  have hz : O.cmp .neq 0 0 = false := by subst hO; rfl
  obtain ⟨g3, g7, g8, g9, g10, g11, g12, g13, _⟩ := h
  simp only at g3 g7 g8 g9 g10 g11 g12 g13
  rw [← updT_self g3, ← updT_self g7, ← updT_self g8, ← updT_self g9, ← updT_self g10, ← updT_self g11, ← updT_self g12, ← updT_self g13]
  refine SW.seqRun tok hO (by cbv <;> rfl) (by trivial) ?_
  refine SW.condS (by cbv <;> rfl) (fun h => absurd (show false = true from hz.symm.trans h) (by decide)) (fun _ => SW.skip ?_)
  exact ⟨rfl, _, rfl, ⟨rfl, rfl, rfl, rfl, rfl, rfl, rfl, trivial⟩, rfl⟩
set_option maxHeartbeats 16000000 in
theorem en_7 (d : DayD) (k : Nat) (N : Int) (g : Nat → AV) (O : Ar) (hO : O = std) (lo0 hi0 lo1 hi1 lo2 hi2 : Nat → Int) (p q r s t u y z : Int) (v : Int) (M : Nat) (F S : Nat → Nat → Int) (h : AllP (fun p => g p.1 = p.2) [(3, .ptr 0 0), (7, iV (Int.ofNat k)), (8, iV N), (9, .ptr 1 0), (11, iV v), (12, iV 0), (13, trsV M d.nw d.nl F S)]) :
    SW Try.prog none (nthC 7 (bodyF Try.f9)) (midK 237 [(3, .ptr 0 0), (7, iV (Int.ofNat k)), (8, iV N), (9, .ptr 1 0), (11, iV v), (13, trsV M d.nw d.nl F S)] ⟨[(1, .cells none false (bndC d.nw lo0 hi0 lo1 hi1 lo2 hi2 p q r s t u y z)), (0, .cells none false (dayC d))], 2⟩) ⟨⟨237, g⟩, []⟩ ⟨[(1, .cells none false (bndC d.nw lo0 hi0 lo1 hi1 lo2 hi2 p q r s t u y z)), (0, .cells none false (dayC d))], 2⟩ := by
  have hz : O.cmp .neq 0 0 = false := by subst hO; rfl
  have hn : O.cmp .neq (Int.ofNat d.nw) (Int.ofNat d.nw) = false := by subst hO; simp [std]
  obtain ⟨g3, g7, g8, g9, g11, g12, g13, _⟩ := h
  simp only at g3 g7 g8 g9 g11 g12 g13
  rw [← updT_self g3, ← updT_self g7, ← updT_self g8, ← updT_self g9, ← updT_self g11, ← updT_self g12, ← updT_self g13]
  refine SW.seqRun tok hO (by cbv <;> rfl) (by trivial) ?_
  refine OpsW.splitG (by cbv <;> rfl) (fun h => absurd (show false = true from hz.symm.trans h) (by decide)) (fun _ => ?_)
  refine OpsW.run tok hO (by cbv <;> rfl) (by trivial) ?_
  refine OpsW.splitG (by cbv <;> rfl) (fun h => absurd (show false = true from hn.symm.trans h) (by decide)) (fun _ => ?_)
  refine OpsW.run tok hO (by cbv <;> rfl) (by trivial) ?_
  refine OpsW.splitG (by cbv <;> rfl) (fun h => absurd (show false = true from hn.symm.trans h) (by decide)) (fun _ => ?_)
  refine OpsW.run tok hO (by cbv <;> rfl) (by trivial) ?_
  refine SW.condS (by cbv <;> rfl) (fun h => absurd (show false = true from hn.symm.trans h) (by decide)) (fun _ => SW.skip ?_)
  exact ⟨rfl, _, rfl, ⟨rfl, rfl, rfl, rfl, rfl, rfl, trivial⟩, rfl⟩
set_option maxHeartbeats 16000000 in
theorem en_8 (d : DayD) (k : Nat) (N : Int) (g : Nat → AV) (O : Ar) (hO : O = std) (lo0 hi0 lo1 hi1 lo2 hi2 : Nat → Int) (p q r s t u y z : Int) (v : Int) (M : Nat) (F S : Nat → Nat → Int) (h : AllP (fun p => g p.1 = p.2) [(3, .ptr 0 0), (7, iV (Int.ofNat k)), (8, iV N), (9, .ptr 1 0), (11, iV v), (13, trsV M d.nw d.nl F S)]) :
    SW Try.prog none (nthC 8 (bodyF Try.f9)) (midK 237 [(3, .ptr 0 0), (7, iV (Int.ofNat k)), (8, iV N), (9, .ptr 1 0), (11, iV v), (13, trsV M d.nw d.nl F S), (14, iV 0)] ⟨[(1, .cells none false (bndC d.nw lo0 hi0 lo1 hi1 lo2 hi2 p q r s t u y z)), (0, .cells none false (dayC d))], 2⟩) ⟨⟨237, g⟩, []⟩ ⟨[(1, .cells none false (bndC d.nw lo0 hi0 lo1 hi1 lo2 hi2 p q r s t u y z)), (0, .cells none false (dayC d))], 2⟩ := by
  obtain ⟨g3, g7, g8, g9, g11, g13, _⟩ := h
  simp only at g3 g7 g8 g9 g11 g13
  rw [← updT_self g3, ← updT_self g7, ← updT_self g8, ← updT_self g9, ← updT_self g11, ← updT_self g13]
  refine SW.run tok hO (by cbv <;> rfl) (by trivial) ?_
  exact ⟨rfl, _, rfl, ⟨rfl, rfl, rfl, rfl, rfl, rfl, rfl, trivial⟩, rfl⟩
set_option maxHeartbeats 16000000 in
theorem en_10 (d : DayD) (k : Nat) (N : Int) (g : Nat → AV) (O : Ar) (hO : O = std) (haw : Pure Try.prog 17 [] (.lit (.bool true))) (lo0 hi0 lo1 hi1 lo2 hi2 : Nat → Int) (p q r s t u y z : Int) (h : AllP (fun p => g p.1 = p.2) [(14, iV 1023)]) :
    SW Try.prog none (restC 10 (bodyF Try.f9)) (retQ T Try.f9 (fun v st' => Eqv (frz st'.h (fun _ => true) 3 v) (.lit (.bool true)))) ⟨⟨237, g⟩, []⟩ ⟨[(1, .cells none false (bndC d.nw lo0 hi0 lo1 hi1 lo2 hi2 p q r s t u y z)), (0, .cells none false (dayC d))], 2⟩ := by
  have hp : O.cmp .eql 1023 1023 = true := by subst hO; rfl
  obtain ⟨g14, _⟩ := h
  simp only at g14
  rw [← updT_self g14]
  refine SW.seqRun tok hO (by cbv <;> rfl) (by trivial) ?_
  refine OpsW.splitG (by cbv <;> rfl) (fun _ => ?_) (fun h => absurd (show true = false from hp.symm.trans h) (by decide))
  refine OpsW.run tok hO (by cbv <;> rfl) (by trivial) ?_
  refine OpsW.callP haw (by cbv <;> rfl) ?_
  refine OpsW.run tok hO (by cbv <;> rfl) (by trivial) ?_
  exact SW.ret ⟨_, _, rfl, rfl, Eqv.refl _⟩
set_option maxHeartbeats 32000000 in
theorem bunchEnds_ok (haw : Pure Try.prog 17 [] (.lit (.bool true))) (d : DayD) (a b : Int) (ha0 : 0 ≤ a) (ha1 : a ≤ 255) (hb0 : 0 ≤ b) (hb1 : b ≤ 255) :
    Pure Try.prog 9 [dayV d, .lit (.int .u8 a), .lit (.int .u8 b)] (.lit (.bool true)) := by
  obtain ⟨O, hO⟩ : ∃ O : Ar, O = std := ⟨_, rfl⟩
  refine pure_of_body tok 3 Try.func9 en9 rfl ⟨dayV_below d, Below.lit, Below.lit, trivial⟩ Below.lit ?_
  refine SW.seqRun tok hO (by cbv <;> rfl) (by trivial) ?_
  refine SW.seq ?_
  refine SW.seqRun tok hO (by cbv <;> rfl) (by trivial) ?_
  have call := ready_ok d
  generalize hR : d.readyB = r at call
  refine OpsW.callP call (by cbv <;> rfl) ?_
  have hnot : O.not r = !r := by subst hO; rfl
  refine OpsW.run tok hO (by cbv <;> rfl) (by trivial) ?_
  refine SW.condS (by cbv <;> rfl) (fun h1 => ?_) (fun h1 => SW.skip ?_)
  · refine SW.seqRun tok hO (by cbv <;> rfl) (by trivial) ?_
    refine OpsW.callP haw (by cbv <;> rfl) ?_
    refine OpsW.run tok hO (by cbv <;> rfl) (by trivial) ?_
    exact SW.ret ⟨_, _, rfl, rfl, Eqv.refl _⟩
  have hr : r = true := by have := hnot.symm.trans h1; simpa using this
  rw [hr] at hR
  obtain ⟨gd, _⟩ := ready_good hR
  have hF : d.faultN = 0 := by
    simp only [DayD.readyB, Bool.and_eq_true, decide_eq_true_eq] at hR; exact hR.2
  have hc : d.check = 0 := (check_eq d).trans hF
  have hnw := gd.nw
  have hnl := gd.nl
  have hncc := gd.nc
  have hpos := gd.pos
  have hsm : d.small := ⟨by omega, by omega, by omega⟩
  have hday := day_ok d (by omega) (by omega) (by omega)
  obtain ⟨k, hk, hK⟩ := pick_in hO ha0 ha1 hpos (by omega)
  obtain ⟨m1, m2⟩ := tmod_in (q := b) (z := 61) hb0 (by omega)
  have hN : O.bin .rem .i64 (O.conv .i64 b) 61 = b.tmod 61 := by
    subst hO
    show (wrp .i64 b).tmod 61 = _
    rw [wrp_in (by simp only [IntKind.lo]; omega) (by simp only [IntKind.hi]; omega)]
  generalize b.tmod 61 = N at hN m1 m2
  have ht := thicker_ok d hsm hc k hk N (by omega)
  have hl := truths_ok d gd (nT_in hc).1 (nT_in hc).2
  have hbo := boundsP_ok d hsm hc
  refine SW.seq ((show SW Try.prog none _ (midK 237 [(3, .ptr 0 0), (7, iV (Int.ofNat k)), (8, iV N)] ⟨[(0, .cells none false (dayC d))], 1⟩) _ _ from ?_).mono fun e f st hm => ?_)
  · refine SW.run tok hO (by cbv <;> rfl) ?_ ?_
    · have h9 : Int.ofNat d.nw ≠ 0 := by
        have : (d.nw : Int) ≠ 0 := by omega
        exact this
      first
        | exact ⟨h9, (by decide : (61 : Int) ≠ 0)⟩
        | exact h9
        | exact ⟨(by decide : (61 : Int) ≠ 0), h9⟩
        | exact ⟨h9, by decide, trivial⟩
    · exact ⟨rfl, _, rfl, ⟨rfl, congrArg (fun z => AV.lit (.int .i64 z)) hK, congrArg (fun z => AV.lit (.int .i64 z)) hN, trivial⟩, rfl⟩
  obtain ⟨rfl, g, rfl, h, rfl⟩ := hm
  clear call hnot h1 hK hN
  by_cases ho : d.seen.outs = []
  · have hM : (selT d.selB d.nT).length = 0 := (sel_nil hc).2 ho
    rw [hM] at hl
    rw [show d.thick k N = 0 from if_pos ho, show d.thickE = 11 from if_pos ho] at ht
    rw [show d.bndR = .agg bnd0 from if_pos ho, show d.bndE = 11 from if_pos ho] at hbo
    refine SW.seq ((en_3z d k N _ O hO 11 hday hbo h).mono fun e f st hm => ?_)
    clear h; obtain ⟨rfl, g, rfl, h, rfl⟩ := hm
    refine SW.seq ((en_4z d k N _ O hO 11 0 11 hday ht h).mono fun e f st hm => ?_)
    clear h; obtain ⟨rfl, g, rfl, h, rfl⟩ := hm
    refine SW.seq ((en_5z d k N _ O hO 11 0 11 0 _ _ hl h).mono fun e f st hm => ?_)
    clear h; obtain ⟨rfl, g, rfl, h, rfl⟩ := hm
    exact en_6z d k N _ O hO haw 0 _ _ h
  · have hV : ∀ V : TruD → Int, d.Val V → (∃ i, i < d.sN ∧ V (d.sT i) = mnF (fun i => V (d.tr i)) d.oN) ∧ ∃ i, i < d.sN ∧ V (d.sT i) = mxF (fun i => V (d.tr i)) d.oN := fun V h => ⟨end_lo hc ho h, end_hi hc ho h⟩
    have v0 := hV _ (val_fe d hk)
    have v1 := hV _ (val_bun d hk)
    have v2 := hV _ (val_lef d hk)
    have v3 := hV _ (val_hands d)
    have v4 := hV _ (val_flats d)
    have hth : ∀ i, i < d.sN → (d.thick k N = 1 → N < (d.sT i).fe k) ∧ (d.thick k N = 2 → ¬ N < (d.sT i).fe k) := fun i hi => thick_sel hc ho hk N hi
    have hpl : ∀ i, i < d.sN → Pure Try.prog 47 [dayV d, .agg [intsV d.nw false (d.sT i).fe, intsV d.nl false (d.sT i).st]] (.agg [intsV d.nw false (d.bun (d.sT i)), intsV d.nw false (d.lef (d.sT i)), iV (d.tally (d.sT i)).hands, iV (d.tally (d.sT i)).loose, iV (d.tally (d.sT i)).flats, iV (d.tally (d.sT i)).spare]) := fun i hi => playN_ok' gd (sel_fit hc hi)
    have hMs : d.sN < 100000 := by
      have h1 := sel_len d
      have h2 := nT_in hc
      have h3 : (d.nT : Int) = d.manyL d.nl := by
        show ((d.manyL d.nl).toNat : Int) = _
        omega
      omega
    have hl2 : Pure Try.prog 46 [dayV d] (trsV d.sN d.nw d.nl (fun i => (d.sT i).fe) (fun i => (d.sT i).st)) := hl
    rw [show d.thickE = 0 from if_neg ho] at ht
    rw [show d.bndR = d.bndV from if_neg ho, show d.bndE = 0 from if_neg ho] at hbo
    unfold DayD.bndV at hbo
    clear hl hV
    generalize d.thick k N = v at ht hth
    refine SW.seq ((en_3 d k N _ O hO _ _ _ _ _ _ _ _ _ _ _ _ _ _ 0 hday hbo h).mono fun e f st hm => ?_)
    clear h; obtain ⟨rfl, g, rfl, h, rfl⟩ := hm
    refine SW.seq ((en_4 d k N _ O hO _ _ _ _ _ _ _ _ _ _ _ _ _ _ 0 v 0 hday ht h).mono fun e f st hm => ?_)
    clear h; obtain ⟨rfl, g, rfl, h, rfl⟩ := hm
    refine SW.seq ((en_5 d k N _ O hO _ _ _ _ _ _ _ _ _ _ _ _ _ _ 0 v 0 _ _ _ hl2 h).mono fun e f st hm => ?_)
    clear h; obtain ⟨rfl, g, rfl, h, rfl⟩ := hm
    refine SW.seq ((en_6 d k N _ O hO _ _ _ _ _ _ _ _ _ _ _ _ _ _ v _ _ _ h).mono fun e f st hm => ?_)
    clear h; obtain ⟨rfl, g, rfl, h, rfl⟩ := hm
    refine SW.seq ((en_7 d k N _ O hO _ _ _ _ _ _ _ _ _ _ _ _ _ _ v _ _ _ h).mono fun e f st hm => ?_)
    clear h; obtain ⟨rfl, g, rfl, h, rfl⟩ := hm
    refine SW.seq ((en_8 d k N _ O hO _ _ _ _ _ _ _ _ _ _ _ _ _ _ v _ _ _ h).mono fun e f st hm => ?_)
    clear h; obtain ⟨rfl, g, rfl, h, rfl⟩ := hm
    refine SW.seq ((en_loop d k hk N v d.sN hMs _ _ _ _ _ _ _ _ _ _ _ _ _ _ _ _ _ O hO (fun i => d.bun (d.sT i)) (fun i => d.lef (d.sT i)) (fun i => (d.tally (d.sT i)).hands) (fun i => (d.tally (d.sT i)).loose) (fun i => (d.tally (d.sT i)).flats) (fun i => (d.tally (d.sT i)).spare) hpl (fun i hi => (hth i hi).1) (fun i hi => (hth i hi).2) h).mono fun e f st hm => ?_)
    clear h; obtain ⟨rfl, g, rfl, ⟨h14, _⟩, rfl⟩ := hm
    rw [metN_full _ _ fun j hj => ?_] at h14
    · exact en_10 d k N _ O hO haw _ _ _ _ _ _ _ _ _ _ _ _ _ _ ⟨h14, trivial⟩
    · obtain rfl | rfl | rfl | rfl | rfl | rfl | rfl | rfl | rfl | rfl : j = 0 ∨ j = 1 ∨ j = 2 ∨ j = 3 ∨ j = 4 ∨ j = 5 ∨ j = 6 ∨ j = 7 ∨ j = 8 ∨ j = 9 := by omega
      · obtain ⟨i, hi, e⟩ := v0.1; exact ⟨i, hi, decide_eq_true e⟩
      · obtain ⟨i, hi, e⟩ := v0.2; exact ⟨i, hi, decide_eq_true e⟩
      · obtain ⟨i, hi, e⟩ := v1.1; exact ⟨i, hi, decide_eq_true e⟩
      · obtain ⟨i, hi, e⟩ := v1.2; exact ⟨i, hi, decide_eq_true e⟩
      · obtain ⟨i, hi, e⟩ := v2.1; exact ⟨i, hi, decide_eq_true e⟩
      · obtain ⟨i, hi, e⟩ := v2.2; exact ⟨i, hi, decide_eq_true e⟩
      · obtain ⟨i, hi, e⟩ := v3.1; exact ⟨i, hi, decide_eq_true e⟩
      · obtain ⟨i, hi, e⟩ := v3.2; exact ⟨i, hi, decide_eq_true e⟩
      · obtain ⟨i, hi, e⟩ := v4.1; exact ⟨i, hi, decide_eq_true e⟩
      · obtain ⟨i, hi, e⟩ := v4.2; exact ⟨i, hi, decide_eq_true e⟩
end Go.Fz
