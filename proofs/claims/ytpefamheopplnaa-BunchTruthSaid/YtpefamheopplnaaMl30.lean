/- Own work of the verifier of watercress: FzTr8. -/
import Derived.Test.YtpefamheopplnaaMl28
import Derived.Test.YtpefamheopplnaaMl15
import Derived.Test.YtpefamheopplnaaMl25
import Derived.Test.YtpefamheopplnaaMl21
set_option linter.unusedVariables false
set_option linter.unusedSimpArgs false
namespace Go.Fz
open Go.Proofs
set_option maxRecDepth 100000
set_option linter.unusedVariables false
set_option maxHeartbeats 16000000 in
theorem tr_18 (d x : DayD) (nw nl : Nat) (fe st bu le lo0 hi0 lo1 hi1 lo2 hi2 zf : Nat → Int) (q0 q1 q2 q3 p0 p1 p2 p3 p4 p5 p6 p7 : Int) (g : Nat → AV) (O : Ar) (hO : O = std) (al : Int) (haw : Pure Try.prog 17 [] (.lit (.bool true))) (h0 : O.cmp .eql (O.bin .add .i64 (O.bin .mul .i64 q0 x.hand) q1) al = true) (h1 : Pure Try.prog 25 [iV q1, iV 0, iV (O.bin .sub .i64 x.hand 1)] (.lit (.bool true)))
  (h2 : O.cmp .eql (O.bin .add .i64 (O.bin .mul .i64 q2 x.flat) q3) q0 = true) (h3 : Pure Try.prog 25 [iV q3, iV 0, iV (O.bin .sub .i64 x.flat 1)] (.lit (.bool true)))
  (h4 : Pure Try.prog 45 [iV q0, rangeV p0 p1] (.lit (.bool true))) (h5 : Pure Try.prog 45 [iV q1, rangeV p2 p3] (.lit (.bool true))) (h6 : Pure Try.prog 45 [iV q2, rangeV p4 p5] (.lit (.bool true))) (h7 : Pure Try.prog 45 [iV q3, rangeV p6 p7] (.lit (.bool true))) (h : AllP (fun p => g p.1 = p.2) [(7, .ptr 1 0), (8, .ptr 2 0), (9, .ptr 3 0), (11, .ptr 4 0), (17, iV (Int.ofNat nw)), (18, iV al)]) :
    SW Try.prog none (restC 11 (bodyF Try.f8)) (fun e f st => e = .ret ∧ f.dm = [] ∧ f.ts.get 6 = .lit (.bool true)) ⟨⟨291, g⟩, []⟩ ⟨[(4, .cells none false (bndC nw lo0 hi0 lo1 hi1 lo2 hi2 p0 p1 p2 p3 p4 p5 p6 p7)), (3, .cells none false [intsV nw false bu, intsV nw false le, iV q0, iV q1, iV q2, iV q3]), (2, .cells none false [intsV nw false fe, intsV nl false st]), (1, .cells none false (dayC x)), (0, .cells none false (dayC d))], 5⟩ := by
  obtain ⟨g7, g8, g9, g11, g17, g18, _⟩ := h
  simp only at g7 g8 g9 g11 g17 g18
  rw [← updT_self g7, ← updT_self g8, ← updT_self g9, ← updT_self g11, ← updT_self g17, ← updT_self g18]
  refine SW.seqRun tok hO (by cbv <;> rfl) (by trivial) ?_
  refine OpsW.splitG (by cbv <;> rfl) (fun _ => ?_) (fun h => absurd (show true = false from h0.symm.trans h) (by decide))
  refine OpsW.run tok hO (by cbv <;> rfl) (by trivial) ?_
  refine OpsW.callP h1 (by cbv <;> rfl) ?_
  refine OpsW.run tok hO (by cbv <;> rfl) (by trivial) ?_
  refine OpsW.splitG (by cbv <;> rfl) (fun _ => ?_) (fun h => absurd (show true = false from h2.symm.trans h) (by decide))
  refine OpsW.run tok hO (by cbv <;> rfl) (by trivial) ?_
  refine OpsW.callP h3 (by cbv <;> rfl) ?_
  refine OpsW.run tok hO (by cbv <;> rfl) (by trivial) ?_
  refine OpsW.callP h4 (by cbv <;> rfl) ?_
  refine OpsW.run tok hO (by cbv <;> rfl) (by trivial) ?_
  refine OpsW.callP h5 (by cbv <;> rfl) ?_
  refine OpsW.run tok hO (by cbv <;> rfl) (by trivial) ?_
  refine OpsW.callP h6 (by cbv <;> rfl) ?_
  refine OpsW.run tok hO (by cbv <;> rfl) (by trivial) ?_
  refine OpsW.callP h7 (by cbv <;> rfl) ?_
  refine OpsW.run tok hO (by cbv <;> rfl) (by trivial) ?_
  refine OpsW.callP haw (by cbv <;> rfl) ?_
  refine OpsW.run tok hO (by cbv <;> rfl) (by trivial) ?_
  exact SW.ret ⟨rfl, rfl, rfl⟩
end Go.Fz
