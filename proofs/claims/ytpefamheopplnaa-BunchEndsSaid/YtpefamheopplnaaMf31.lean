/- Own work of the verifier of watercress: FzEn2. -/
import Derived.Test.YtpefamheopplnaaMf25
import Derived.Test.YtpefamheopplnaaMf23
import Derived.Test.YtpefamheopplnaaMf28
import Derived.Test.YtpefamheopplnaaMf14
import Derived.Test.YtpefamheopplnaaMf16
import Derived.Test.YtpefamheopplnaaMf22
set_option linter.unusedVariables false
set_option linter.unusedSimpArgs false
namespace Go.Fz
open Go.Proofs
set_option maxRecDepth 100000
set_option linter.unusedVariables false
noncomputable def endL : Code := match nthC 9 (bodyF Try.f9) with
  | .seq _ (.block _ (.loop c)) => c
  | _ => .skip
noncomputable def endB : Code := match endL with
  | .seq _ (.seq (.block _ b) _) => b
  | _ => .skip
set_option maxHeartbeats 16000000 in
theorem en_a (d : DayD) (k : Nat) (hk : k < d.nw) (N v : Int) (M : Nat) (hM : M < 100000) (F S : Nat → Nat → Int) (lo0 hi0 lo1 hi1 lo2 hi2 : Nat → Int) (p q r s t u y z : Int) (g : Nat → AV) (O : Ar) (hO : O = std) (i : Nat) (hi : i < M) (m : Int) (bu le : Nat → Int) (hh ll ff sp : Int) (hplay : Pure Try.prog 47 [dayV d, .agg [intsV d.nw false (F i), intsV d.nl false (S i)]] (.agg [intsV d.nw false bu, intsV d.nw false le, iV hh, iV ll, iV ff, iV sp])) (h : AllP (fun p => g p.1 = p.2) [(3, .ptr 0 0), (7, iV (Int.ofNat k)), (8, iV N), (9, .ptr 1 0), (11, iV v), (13, trsV M d.nw d.nl F S), (14, iV m), (15, iV (Int.ofNat i))]) :
    SW Try.prog none (nthC 0 endB) (midK 237 [(3, .ptr 0 0), (7, iV (Int.ofNat k)), (8, iV N), (9, .ptr 1 0), (11, iV v), (13, trsV M d.nw d.nl F S), (14, iV m), (15, iV (Int.ofNat i)), (16, .ptr 2 0)] ⟨(2, .cells none false [intsV d.nw false bu, intsV d.nw false le, iV hh, iV ll, iV ff, iV sp]) :: [(1, .cells none false (bndC d.nw lo0 hi0 lo1 hi1 lo2 hi2 p q r s t u y z)), (0, .cells none false (dayC d))], 3⟩) ⟨⟨237, g⟩, []⟩ ⟨[(1, .cells none false (bndC d.nw lo0 hi0 lo1 hi1 lo2 hi2 p q r s t u y z)), (0, .cells none false (dayC d))], 2⟩ := by
  have hnat : ∀ i : Nat, O.nat (Int.ofNat i) = i := fun i => by subst hO; rfl
  have hc : 0 ≤ Int.ofNat i ∧ Int.ofNat i < (M : Int) := ⟨Int.natCast_nonneg i, Int.ofNat_lt.2 hi⟩
  have hpl : Pure Try.prog 47 [dayV d, .agg [intsV d.nw false (F (O.nat (Int.ofNat i))), intsV d.nl false (S (O.nat (Int.ofNat i)))]] (.agg [intsV d.nw false bu, intsV d.nw false le, iV hh, iV ll, iV ff, iV sp]) := by rw [hnat]; exact hplay
  obtain ⟨g3, g7, g8, g9, g11, g13, g14, g15, _⟩ := h
  simp only at g3 g7 g8 g9 g11 g13 g14 g15
  rw [← updT_self g3, ← updT_self g7, ← updT_self g8, ← updT_self g9, ← updT_self g11, ← updT_self g13, ← updT_self g14, ← updT_self g15]
  refine SW.runD tok mixed hO (by kernel_rfl) (by cbv <;> rfl) (by first | exact hc | exact ⟨hc, trivial⟩ | trivial) ?_
  refine AnyE.many [5, 6] (by cbv <;> rfl) (by rfl) ⟨?_, ?_, trivial⟩
  · refine PickE.callQ hpl (by cbv <;> rfl) (by cbv <;> rfl) ?_ ?_
    · exact (by repeat (first | exact trivial | refine And.intro (by first | exact lv_of hO (by cbv <;> rfl) (by first | trivial | exact hc | exact ⟨hc, trivial⟩) | (cbv <;> rfl)) ?_))
    refine AnyE.run tok hO (by rfl) (by cbv <;> rfl) (by trivial) ?_
    refine AnyE.effK tok hO (by cbv <;> rfl) (by cbv <;> rfl) (by trivial) ?_ ?_
    · exact (by repeat (first | exact trivial | refine And.intro (by first | exact lv_of hO (by cbv <;> rfl) (by trivial) | (cbv <;> rfl)) ?_))
    refine AnyE.run tok hO (by rfl) (by cbv <;> rfl) (by trivial) ?_
    refine AnyE.effK tok hO (by cbv <;> rfl) (by cbv <;> rfl) (by trivial) ?_ ?_
    · exact (by repeat (first | exact trivial | refine And.intro (by first | exact lv_of hO (by cbv <;> rfl) (by trivial) | (cbv <;> rfl)) ?_))
    refine AnyE.run tok hO (by rfl) (by cbv <;> rfl) (by trivial) ?_
    exact ⟨rfl, _, rfl, ⟨rfl, rfl, rfl, rfl, rfl, rfl, rfl, rfl, rfl, trivial⟩, rfl⟩
  · refine PickE.eff tok hO (by cbv <;> rfl) (by cbv <;> rfl) (by trivial) ?_ ?_
    · exact (by repeat (first | exact trivial | refine And.intro (by first | exact lv_of hO (by cbv <;> rfl) (by first | trivial | exact hc | exact ⟨hc, trivial⟩) | (cbv <;> rfl)) ?_))
    refine AnyE.run tok hO (by rfl) (by cbv <;> rfl) (by trivial) ?_
    refine AnyE.callP hpl (by cbv <;> rfl) (by cbv <;> rfl) ?_
    refine AnyE.run tok hO (by rfl) (by cbv <;> rfl) (by trivial) ?_
    refine AnyE.effK tok hO (by cbv <;> rfl) (by cbv <;> rfl) (by trivial) ?_ ?_
    · exact (by repeat (first | exact trivial | refine And.intro (by first | exact lv_of hO (by cbv <;> rfl) (by trivial) | (cbv <;> rfl)) ?_))
    refine AnyE.run tok hO (by rfl) (by cbv <;> rfl) (by trivial) ?_
    exact ⟨rfl, _, rfl, ⟨rfl, rfl, rfl, rfl, rfl, rfl, rfl, rfl, rfl, trivial⟩, rfl⟩
set_option maxHeartbeats 16000000 in
theorem en_b (d : DayD) (k : Nat) (hk : k < d.nw) (N v : Int) (M : Nat) (hM : M < 100000) (F S : Nat → Nat → Int) (lo0 hi0 lo1 hi1 lo2 hi2 : Nat → Int) (p q r s t u y z : Int) (g : Nat → AV) (O : Ar) (hO : O = std) (i : Nat) (hi : i < M) (m : Int) (bu le : Nat → Int) (hh ll ff sp : Int) (h : AllP (fun p => g p.1 = p.2) [(3, .ptr 0 0), (7, iV (Int.ofNat k)), (8, iV N), (9, .ptr 1 0), (11, iV v), (13, trsV M d.nw d.nl F S), (14, iV m), (15, iV (Int.ofNat i)), (16, .ptr 2 0)]) :
    SW Try.prog none (nthC 1 endB) (midK 237 [(3, .ptr 0 0), (7, iV (Int.ofNat k)), (8, iV N), (9, .ptr 1 0), (11, iV v), (13, trsV M d.nw d.nl F S), (14, iV m), (15, iV (Int.ofNat i)), (16, .ptr 2 0), (17, iV (F i k))] ⟨(2, .cells none false [intsV d.nw false bu, intsV d.nw false le, iV hh, iV ll, iV ff, iV sp]) :: [(1, .cells none false (bndC d.nw lo0 hi0 lo1 hi1 lo2 hi2 p q r s t u y z)), (0, .cells none false (dayC d))], 3⟩) ⟨⟨237, g⟩, []⟩ ⟨(2, .cells none false [intsV d.nw false bu, intsV d.nw false le, iV hh, iV ll, iV ff, iV sp]) :: [(1, .cells none false (bndC d.nw lo0 hi0 lo1 hi1 lo2 hi2 p q r s t u y z)), (0, .cells none false (dayC d))], 3⟩ := by
  have hnat : ∀ i : Nat, O.nat (Int.ofNat i) = i := fun i => by subst hO; rfl
  have hc : 0 ≤ Int.ofNat i ∧ Int.ofNat i < (M : Int) := ⟨Int.natCast_nonneg i, Int.ofNat_lt.2 hi⟩
  have hc2 : 0 ≤ Int.ofNat k ∧ Int.ofNat k < (d.nw : Int) := ⟨Int.natCast_nonneg k, Int.ofNat_lt.2 hk⟩
  obtain ⟨g3, g7, g8, g9, g11, g13, g14, g15, g16, _⟩ := h
  simp only at g3 g7 g8 g9 g11 g13 g14 g15 g16
  rw [← updT_self g3, ← updT_self g7, ← updT_self g8, ← updT_self g9, ← updT_self g11, ← updT_self g13, ← updT_self g14, ← updT_self g15, ← updT_self g16]
  refine SW.run tok hO (by cbv <;> rfl) (by first | exact ⟨hc2, hc⟩ | exact ⟨hc, hc2⟩ | exact ⟨hc2, hc, trivial⟩ | exact ⟨hc, hc2, trivial⟩) ?_
  exact ⟨rfl, _, rfl, ⟨rfl, rfl, rfl, rfl, rfl, rfl, rfl, rfl, rfl, (show iV (F (O.nat (Int.ofNat i)) (O.nat (Int.ofNat k))) = iV (F i k) by rw [hnat, hnat]), trivial⟩, rfl⟩
set_option maxHeartbeats 16000000 in
theorem en_c (d : DayD) (k : Nat) (hk : k < d.nw) (N v : Int) (M : Nat) (hM : M < 100000) (F S : Nat → Nat → Int) (lo0 hi0 lo1 hi1 lo2 hi2 : Nat → Int) (p q r s t u y z : Int) (g : Nat → AV) (O : Ar) (hO : O = std) (i : Nat) (m x : Int) (bu le : Nat → Int) (hh ll ff sp : Int) (h1 : v = 1 → N < x) (h2 : v = 2 → ¬ N < x) (h : AllP (fun p => g p.1 = p.2) [(3, .ptr 0 0), (7, iV (Int.ofNat k)), (8, iV N), (9, .ptr 1 0), (11, iV v), (13, trsV M d.nw d.nl F S), (14, iV m), (15, iV (Int.ofNat i)), (16, .ptr 2 0), (17, iV x)]) :
    SW Try.prog none (nthC 2 endB) (midK 237 [(3, .ptr 0 0), (7, iV (Int.ofNat k)), (8, iV N), (9, .ptr 1 0), (11, iV v), (13, trsV M d.nw d.nl F S), (14, iV m), (15, iV (Int.ofNat i)), (16, .ptr 2 0), (17, iV x)] ⟨(2, .cells none false [intsV d.nw false bu, intsV d.nw false le, iV hh, iV ll, iV ff, iV sp]) :: [(1, .cells none false (bndC d.nw lo0 hi0 lo1 hi1 lo2 hi2 p q r s t u y z)), (0, .cells none false (dayC d))], 3⟩) ⟨⟨237, g⟩, []⟩ ⟨(2, .cells none false [intsV d.nw false bu, intsV d.nw false le, iV hh, iV ll, iV ff, iV sp]) :: [(1, .cells none false (bndC d.nw lo0 hi0 lo1 hi1 lo2 hi2 p q r s t u y z)), (0, .cells none false (dayC d))], 3⟩ := by
  have a1 : ∀ b, O.cmp .eql v 1 = b → b = decide (v = 1) := fun b hb => by subst hO; rw [← hb]; rfl
  have a2 : ∀ b, O.cmp .eql v 2 = b → b = decide (v = 2) := fun b hb => by subst hO; rw [← hb]; rfl
  have a3 : ∀ b, O.cmp .leq x N = b → b = decide (x ≤ N) := fun b hb => by subst hO; rw [← hb]; rfl
  have a4 : ∀ b, O.cmp .gtr x N = b → b = decide (x > N) := fun b hb => by subst hO; rw [← hb]; rfl
  obtain ⟨g3, g7, g8, g9, g11, g13, g14, g15, g16, g17, _⟩ := h
  simp only at g3 g7 g8 g9 g11 g13 g14 g15 g16 g17
  rw [← updT_self g3, ← updT_self g7, ← updT_self g8, ← updT_self g9, ← updT_self g11, ← updT_self g13, ← updT_self g14, ← updT_self g15, ← updT_self g16, ← updT_self g17]
  refine SW.seqRun tok hO (by cbv <;> rfl) (by trivial) ?_
  by_cases e1 : v = 1
  · have c1 : O.cmp .eql v 1 = true := (a1 _ rfl).trans (decide_eq_true e1)
    have c2 : O.cmp .eql v 2 = false := (a2 _ rfl).trans (decide_eq_false (by omega))
    have c3 : O.cmp .leq x N = false := (a3 _ rfl).trans (decide_eq_false (by have := h1 e1; omega))
    refine OpsW.splitG (by cbv <;> rfl) (fun _ => ?_) (fun h => absurd (show true = false from c1.symm.trans h) (by decide))
    refine OpsW.run tok hO (by cbv <;> rfl) (by trivial) ?_
    refine OpsW.splitG (by cbv <;> rfl) (fun h => absurd (show false = true from c3.symm.trans h) (by decide)) (fun _ => ?_)
    refine OpsW.run tok hO (by cbv <;> rfl) (by trivial) ?_
    refine OpsW.splitG (by cbv <;> rfl) (fun h => absurd (show false = true from c2.symm.trans h) (by decide)) (fun _ => ?_)
    refine OpsW.run tok hO (by cbv <;> rfl) (by trivial) ?_
    refine SW.condS (by cbv <;> rfl) (fun h => absurd h (by decide)) (fun _ => SW.skip ?_)
    exact ⟨rfl, _, rfl, ⟨rfl, rfl, rfl, rfl, rfl, rfl, rfl, rfl, rfl, rfl, trivial⟩, rfl⟩
  · have c1 : O.cmp .eql v 1 = false := (a1 _ rfl).trans (decide_eq_false e1)
    by_cases e2 : v = 2
    · have c2 : O.cmp .eql v 2 = true := (a2 _ rfl).trans (decide_eq_true e2)
      have c4 : O.cmp .gtr x N = false := (a4 _ rfl).trans (decide_eq_false (by have := h2 e2; omega))
      refine OpsW.splitG (by cbv <;> rfl) (fun h => absurd (show false = true from c1.symm.trans h) (by decide)) (fun _ => ?_)
      refine OpsW.run tok hO (by cbv <;> rfl) (by trivial) ?_
      refine OpsW.splitG (by cbv <;> rfl) (fun _ => ?_) (fun h => absurd (show true = false from c2.symm.trans h) (by decide))
      refine OpsW.run tok hO (by cbv <;> rfl) (by trivial) ?_
      refine SW.condS (by cbv <;> rfl) (fun h => absurd (show false = true from c4.symm.trans h) (by decide)) (fun _ => SW.skip ?_)
      exact ⟨rfl, _, rfl, ⟨rfl, rfl, rfl, rfl, rfl, rfl, rfl, rfl, rfl, rfl, trivial⟩, rfl⟩
    · have c2 : O.cmp .eql v 2 = false := (a2 _ rfl).trans (decide_eq_false e2)
      refine OpsW.splitG (by cbv <;> rfl) (fun h => absurd (show false = true from c1.symm.trans h) (by decide)) (fun _ => ?_)
      refine OpsW.run tok hO (by cbv <;> rfl) (by trivial) ?_
      refine OpsW.splitG (by cbv <;> rfl) (fun h => absurd (show false = true from c2.symm.trans h) (by decide)) (fun _ => ?_)
      refine OpsW.run tok hO (by cbv <;> rfl) (by trivial) ?_
      refine SW.condS (by cbv <;> rfl) (fun h => absurd h (by decide)) (fun _ => SW.skip ?_)
      exact ⟨rfl, _, rfl, ⟨rfl, rfl, rfl, rfl, rfl, rfl, rfl, rfl, rfl, rfl, trivial⟩, rfl⟩
end Go.Fz
