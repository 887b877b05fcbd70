/- Own work of the verifier of watercress: FzTr6. -/
import Derived.Test.YtpefamheopplnaaMl28
import Derived.Test.YtpefamheopplnaaMl15
import Derived.Test.YtpefamheopplnaaMl25
import Derived.Test.YtpefamheopplnaaMl21
set_option linter.unusedVariables false
set_option linter.unusedSimpArgs false
namespace Go.Fz
open Go.Proofs
set_option maxRecDepth 100000
set_option linter.unusedVariables false
noncomputable def tr9P : {a : Array Oper // cL (cL (cR (cR (cR (cR (cR (cR (cR (cR (bodyF Try.f8)))))))))) = .region 9 a true} := ⟨_, by rfl⟩
noncomputable def tr9A : Array Oper := tr9P.1
def tr9M : List Nat := [0, 1, 3, 7, 15, 31, 63, 127, 255, 511, 1023, 2047, 4095, 8191, 16383, 32767, 65535, 131071, 262143, 524287, 1048575, 2097151, 4194303, 1048575, 16777215, 33554431, 67108863, 134217727, 268435455, 536870911, 134217727, 2147483647, 4294967295, 8589934591, 17179869183, 34359738367, 68719476735, 17179869183, 274877906943, 549755813887, 1099511627775, 2199023255551, 4398046511103, 8796093022207, 2199023255551, 35184372088831, 70368744177663, 140737488355327, 281474976710655, 562949953421311, 1125899906842623, 281474976710655, 4503599627370495, 9007199254740991, 18014398509481983, 36028797018963967, 72057594037927935, 36028797018963967, 288230376151711743, 576460752303423487, 1152921504606846975, 2305843009213693951]
theorem tr9_tidy : tidyB tr9A tr9M = true := by kernel_rfl
theorem tr9_size : tr9A.size = 62 := by kernel_rfl
set_option maxHeartbeats 16000000 in
theorem tr_8 (d x : DayD) (nw nl : Nat) (fe st bu le lo0 hi0 lo1 hi1 lo2 hi2 zf : Nat → Int) (q0 q1 q2 q3 p0 p1 p2 p3 p4 p5 p6 p7 : Int) (g : Nat → AV) (O : Ar) (hO : O = std) (hday : Pure Try.prog 19 [dayV x] (dayV x))(htru : Pure Try.prog 43 [.agg [intsV nw false fe, intsV nl false st]] (.agg [intsV nw false fe, intsV nl false st])) (hpr : Pure Try.prog 38 [dayV x, .agg [intsV nw false fe, intsV nl false st]] (.lit (.bool true))) (h : AllP (fun p => g p.1 = p.2) [(7, .ptr 1 0), (8, .ptr 2 0), (9, .ptr 3 0), (10, iV 0), (11, .ptr 4 0), (12, iV 0), (13, intsV 0 false zf), (14, iV 0), (15, iV 0), (16, iV 7), (17, iV (Int.ofNat nw))]) :
    SW Try.prog none (nthC 8 (bodyF Try.f8)) (midK 291 [(7, .ptr 1 0), (8, .ptr 2 0), (9, .ptr 3 0), (11, .ptr 4 0), (17, iV (Int.ofNat nw))] ⟨[(4, .cells none false (bndC nw lo0 hi0 lo1 hi1 lo2 hi2 p0 p1 p2 p3 p4 p5 p6 p7)), (3, .cells none false [intsV nw false bu, intsV nw false le, iV q0, iV q1, iV q2, iV q3]), (2, .cells none false [intsV nw false fe, intsV nl false st]), (1, .cells none false (dayC x)), (0, .cells none false (dayC d))], 5⟩) ⟨⟨291, g⟩, []⟩ ⟨[(4, .cells none false (bndC nw lo0 hi0 lo1 hi1 lo2 hi2 p0 p1 p2 p3 p4 p5 p6 p7)), (3, .cells none false [intsV nw false bu, intsV nw false le, iV q0, iV q1, iV q2, iV q3]), (2, .cells none false [intsV nw false fe, intsV nl false st]), (1, .cells none false (dayC x)), (0, .cells none false (dayC d))], 5⟩ := by
  obtain ⟨g7, g8, g9, g10, g11, g12, g13, g14, g15, g16, g17, _⟩ := h
  simp only at g7 g8 g9 g10 g11 g12 g13 g14 g15 g16 g17
  rw [← updT_self g7, ← updT_self g8, ← updT_self g9, ← updT_self g10, ← updT_self g11, ← updT_self g12, ← updT_self g13, ← updT_self g14, ← updT_self g15, ← updT_self g16, ← updT_self g17]
  refine SW.seq (show SW Try.prog none (.region 9 tr9A true) _ _ _ from ?_)
  refine SW.drawnB tok (M := tr9M) mixed 62 tr9_tidy tr9_size (by kernel_rfl) ?_
  refine AnyE.tkO tr9_tidy tok hO 0 60 1 (by kernel_rfl) (by kernel_rfl) (by cbv <;> rfl) (by trivial) (Eqv.refl _) ?_
  refine AnyE.tkO tr9_tidy tok hO 1 61 3 (r := .lit (.bool false)) (by kernel_rfl) (by kernel_rfl) (by cbv <;> rfl) (by trivial) (Eqv.lit (by subst hO; simp [std])) ?_
  refine AnyE.tkO tr9_tidy tok hO 2 62 7 (by kernel_rfl) (by kernel_rfl) (by cbv <;> rfl) (by trivial) (Eqv.refl _) ?_
  refine AnyE.tkO tr9_tidy tok hO 3 63 15 (by kernel_rfl) (by kernel_rfl) (by cbv <;> rfl) (by trivial) (Eqv.refl _) ?_
  refine AnyE.tkO tr9_tidy tok hO 4 64 31 (r := .lit (.bool false)) (by kernel_rfl) (by kernel_rfl) (by cbv <;> rfl) (by trivial) (Eqv.lit (by subst hO; simp [std])) ?_
  refine AnyE.tkO tr9_tidy tok hO 5 65 63 (by kernel_rfl) (by kernel_rfl) (by cbv <;> rfl) (by trivial) (Eqv.refl _) ?_
  refine AnyE.tkO tr9_tidy tok hO 6 66 127 (by kernel_rfl) (by kernel_rfl) (by cbv <;> rfl) (by trivial) (Eqv.refl _) ?_
  refine AnyE.tkO tr9_tidy tok hO 7 67 255 (by kernel_rfl) (by kernel_rfl) (by cbv <;> rfl) (by trivial) (Eqv.refl _) ?_
  refine AnyE.tkO tr9_tidy tok hO 8 68 511 (r := .lit (.bool false)) (by kernel_rfl) (by kernel_rfl) (by cbv <;> rfl) (by trivial) (Eqv.lit (by subst hO; simp [std])) ?_
  refine AnyE.tkO tr9_tidy tok hO 9 69 1023 (by kernel_rfl) (by kernel_rfl) (by cbv <;> rfl) (by trivial) (Eqv.refl _) ?_
  refine AnyE.tkO tr9_tidy tok hO 10 70 2047 (by kernel_rfl) (by kernel_rfl) (by cbv <;> rfl) (by trivial) (Eqv.refl _) ?_
  refine AnyE.tkO tr9_tidy tok hO 11 71 4095 (by kernel_rfl) (by kernel_rfl) (by cbv <;> rfl) (by trivial) (Eqv.refl _) ?_
  refine AnyE.tkO tr9_tidy tok hO 12 72 8191 (by kernel_rfl) (by kernel_rfl) (by cbv <;> rfl) (by trivial) (Eqv.refl _) ?_
  refine AnyE.tkO tr9_tidy tok hO 13 73 16383 (r := .lit (.bool false)) (by kernel_rfl) (by kernel_rfl) (by cbv <;> rfl) (by trivial) (Eqv.lit (by subst hO; simp [std])) ?_
  refine AnyE.tkO tr9_tidy tok hO 14 74 32767 (by kernel_rfl) (by kernel_rfl) (by cbv <;> rfl) (by trivial) (Eqv.refl _) ?_
  refine AnyE.tkO tr9_tidy tok hO 15 75 65535 (by kernel_rfl) (by kernel_rfl) (by cbv <;> rfl) (by trivial) (Eqv.refl _) ?_
  refine AnyE.tkO tr9_tidy tok hO 16 76 131071 (by kernel_rfl) (by kernel_rfl) (by cbv <;> rfl) (by trivial) (Eqv.refl _) ?_
  refine AnyE.tkO tr9_tidy tok hO 17 77 262143 (r := .lit (.bool false)) (by kernel_rfl) (by kernel_rfl) (by cbv <;> rfl) (by trivial) (Eqv.lit (by subst hO; simp [std])) ?_
  refine AnyE.tkO tr9_tidy tok hO 18 78 524287 (by kernel_rfl) (by kernel_rfl) (by cbv <;> rfl) (by trivial) (Eqv.refl _) ?_
  refine AnyE.tkO tr9_tidy tok hO 19 79 1048575 (by kernel_rfl) (by kernel_rfl) (by cbv <;> rfl) (by trivial) (Eqv.refl _) ?_
  refine AnyE.tkO tr9_tidy tok hO 20 80 2097151 (by kernel_rfl) (by kernel_rfl) (by cbv <;> rfl) (by trivial) (Eqv.refl _) ?_
  refine AnyE.tkO tr9_tidy tok hO 21 81 4194303 (by kernel_rfl) (by kernel_rfl) (by cbv <;> rfl) (by trivial) (Eqv.refl _) ?_
  refine AnyE.tkO tr9_tidy tok hO 22 82 8388607 (by kernel_rfl) (by kernel_rfl) (by cbv <;> rfl) (by trivial) (Eqv.refl _) ?_
  refine AnyE.tkO tr9_tidy tok hO 23 83 16777215 (by kernel_rfl) (by kernel_rfl) (by cbv <;> rfl) (by trivial) (Eqv.refl _) ?_
  refine AnyE.tkO tr9_tidy tok hO 24 84 33554431 (r := .lit (.bool false)) (by kernel_rfl) (by kernel_rfl) (by cbv <;> rfl) (by trivial) (Eqv.lit (by subst hO; simp [std])) ?_
  refine AnyE.tkO tr9_tidy tok hO 25 85 67108863 (by kernel_rfl) (by kernel_rfl) (by cbv <;> rfl) (by trivial) (Eqv.refl _) ?_
  refine AnyE.tkO tr9_tidy tok hO 26 86 134217727 (by kernel_rfl) (by kernel_rfl) (by cbv <;> rfl) (by trivial) (Eqv.refl _) ?_
  refine AnyE.tkO tr9_tidy tok hO 27 87 268435455 (by kernel_rfl) (by kernel_rfl) (by cbv <;> rfl) (by trivial) (Eqv.refl _) ?_
  refine AnyE.tkO tr9_tidy tok hO 28 88 536870911 (by kernel_rfl) (by kernel_rfl) (by cbv <;> rfl) (by trivial) (Eqv.refl _) ?_
  refine AnyE.tkO tr9_tidy tok hO 29 89 1073741823 (by kernel_rfl) (by kernel_rfl) (by cbv <;> rfl) (by trivial) (Eqv.refl _) ?_
  refine AnyE.tkO tr9_tidy tok hO 30 90 2147483647 (by kernel_rfl) (by kernel_rfl) (by cbv <;> rfl) (by trivial) (Eqv.refl _) ?_
  refine AnyE.tkO tr9_tidy tok hO 31 91 4294967295 (r := .lit (.bool false)) (by kernel_rfl) (by kernel_rfl) (by cbv <;> rfl) (by trivial) (Eqv.lit (by subst hO; simp [std])) ?_
  refine AnyE.tkO tr9_tidy tok hO 32 92 8589934591 (by kernel_rfl) (by kernel_rfl) (by cbv <;> rfl) (by trivial) (Eqv.refl _) ?_
  refine AnyE.tkO tr9_tidy tok hO 33 93 17179869183 (by kernel_rfl) (by kernel_rfl) (by cbv <;> rfl) (by trivial) (Eqv.refl _) ?_
  refine AnyE.tkO tr9_tidy tok hO 34 94 34359738367 (by kernel_rfl) (by kernel_rfl) (by cbv <;> rfl) (by trivial) (Eqv.refl _) ?_
  refine AnyE.tkO tr9_tidy tok hO 35 95 68719476735 (by kernel_rfl) (by kernel_rfl) (by cbv <;> rfl) (by trivial) (Eqv.refl _) ?_
  refine AnyE.tkO tr9_tidy tok hO 36 96 137438953471 (by kernel_rfl) (by kernel_rfl) (by cbv <;> rfl) (by trivial) (Eqv.refl _) ?_
  refine AnyE.tkO tr9_tidy tok hO 37 97 274877906943 (by kernel_rfl) (by kernel_rfl) (by cbv <;> rfl) (by trivial) (Eqv.refl _) ?_
  refine AnyE.tkO tr9_tidy tok hO 38 98 549755813887 (r := .lit (.bool false)) (by kernel_rfl) (by kernel_rfl) (by cbv <;> rfl) (by trivial) (Eqv.lit (by subst hO; simp [std])) ?_
  refine AnyE.tkO tr9_tidy tok hO 39 99 1099511627775 (by kernel_rfl) (by kernel_rfl) (by cbv <;> rfl) (by trivial) (Eqv.refl _) ?_
  refine AnyE.tkO tr9_tidy tok hO 40 100 2199023255551 (by kernel_rfl) (by kernel_rfl) (by cbv <;> rfl) (by trivial) (Eqv.refl _) ?_
  refine AnyE.tkO tr9_tidy tok hO 41 101 4398046511103 (by kernel_rfl) (by kernel_rfl) (by cbv <;> rfl) (by trivial) (Eqv.refl _) ?_
  refine AnyE.tkO tr9_tidy tok hO 42 102 8796093022207 (by kernel_rfl) (by kernel_rfl) (by cbv <;> rfl) (by trivial) (Eqv.refl _) ?_
  refine AnyE.tkO tr9_tidy tok hO 43 103 17592186044415 (by kernel_rfl) (by kernel_rfl) (by cbv <;> rfl) (by trivial) (Eqv.refl _) ?_
  refine AnyE.tkO tr9_tidy tok hO 44 104 35184372088831 (by kernel_rfl) (by kernel_rfl) (by cbv <;> rfl) (by trivial) (Eqv.refl _) ?_
  refine AnyE.tkO tr9_tidy tok hO 45 105 70368744177663 (r := .lit (.bool false)) (by kernel_rfl) (by kernel_rfl) (by cbv <;> rfl) (by trivial) (Eqv.lit (by subst hO; simp [std])) ?_
  refine AnyE.tkO tr9_tidy tok hO 46 106 140737488355327 (by kernel_rfl) (by kernel_rfl) (by cbv <;> rfl) (by trivial) (Eqv.refl _) ?_
  refine AnyE.tkO tr9_tidy tok hO 47 107 281474976710655 (by kernel_rfl) (by kernel_rfl) (by cbv <;> rfl) (by trivial) (Eqv.refl _) ?_
  refine AnyE.tkO tr9_tidy tok hO 48 108 562949953421311 (by kernel_rfl) (by kernel_rfl) (by cbv <;> rfl) (by trivial) (Eqv.refl _) ?_
  refine AnyE.tkO tr9_tidy tok hO 49 109 1125899906842623 (by kernel_rfl) (by kernel_rfl) (by cbv <;> rfl) (by trivial) (Eqv.refl _) ?_
  refine AnyE.tkO tr9_tidy tok hO 50 110 2251799813685247 (by kernel_rfl) (by kernel_rfl) (by cbv <;> rfl) (by trivial) (Eqv.refl _) ?_
  refine AnyE.tkO tr9_tidy tok hO 51 111 4503599627370495 (by kernel_rfl) (by kernel_rfl) (by cbv <;> rfl) (by trivial) (Eqv.refl _) ?_
  refine AnyE.tkO tr9_tidy tok hO 52 112 9007199254740991 (r := .lit (.bool false)) (by kernel_rfl) (by kernel_rfl) (by cbv <;> rfl) (by trivial) (Eqv.lit (by subst hO; simp [std])) ?_
  refine AnyE.tkO tr9_tidy tok hO 53 113 18014398509481983 (by kernel_rfl) (by kernel_rfl) (by cbv <;> rfl) (by trivial) (Eqv.refl _) ?_
  refine AnyE.tkO tr9_tidy tok hO 54 114 36028797018963967 (by kernel_rfl) (by kernel_rfl) (by cbv <;> rfl) (by trivial) (Eqv.refl _) ?_
  refine AnyE.tkO tr9_tidy tok hO 55 115 72057594037927935 (by kernel_rfl) (by kernel_rfl) (by cbv <;> rfl) (by trivial) (Eqv.refl _) ?_
  refine AnyE.tkO tr9_tidy tok hO 57 117 216172782113783807 (by kernel_rfl) (by kernel_rfl) (by cbv <;> rfl) (by trivial) (Eqv.refl _) ?_
  refine AnyE.cpN hday 56 116 288230376151711743 (by kernel_rfl) (by kernel_rfl) (by cbv <;> rfl) (by cbv <;> rfl) (by kernel_rfl) rfl ?_
  refine AnyE.cpN htru 58 118 576460752303423487 (by kernel_rfl) (by kernel_rfl) (by cbv <;> rfl) (by cbv <;> rfl) (by kernel_rfl) rfl ?_
  refine AnyE.cpN hpr 59 119 1152921504606846975 (by kernel_rfl) (by kernel_rfl) (by cbv <;> rfl) (by cbv <;> rfl) (by kernel_rfl) rfl ?_
  refine AnyE.tkO tr9_tidy tok hO 60 120 2305843009213693951 (by kernel_rfl) (by kernel_rfl) (by cbv <;> rfl) (by trivial) (Eqv.refl _) ?_
  refine AnyE.tkO tr9_tidy tok hO 61 121 4611686018427387903 (by kernel_rfl) (by kernel_rfl) (by cbv <;> rfl) (by trivial) (Eqv.refl _) ?_
  refine AnyE.done (by kernel_rfl) ?_
  refine SW.condS (t := false) (by kernel_rfl) (fun h => absurd h (by decide)) (fun _ => SW.skip ?_)
  exact midK.mk (by kernel_rfl) (by kernel_rfl) ⟨(by show _ = _; kernel_rfl), (by show _ = _; kernel_rfl), (by show _ = _; kernel_rfl), (by show _ = _; kernel_rfl), (by show _ = _; kernel_rfl), trivial⟩ (by kernel_rfl)
end Go.Fz
