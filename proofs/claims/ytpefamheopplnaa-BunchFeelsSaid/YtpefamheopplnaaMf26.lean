/- Own work of the verifier of watercress: FzFe2. -/
import Derived.Test.YtpefamheopplnaaMf17
import Derived.Test.YtpefamheopplnaaMf25
import Derived.Test.YtpefamheopplnaaMf23
import Derived.Test.YtpefamheopplnaaMf22
import Derived.Test.YtpefamheopplnaaMf11
set_option linter.unusedVariables false
set_option linter.unusedSimpArgs false
namespace Go.Fz
open Go.Proofs
set_option maxRecDepth 100000
set_option linter.unusedVariables false
def fsS (d : DayD) : St := ⟨[(0, .cells none false (dayC d))], 1⟩
set_option maxHeartbeats 8000000 in
theorem fe_2 (d : DayD) (w n v e s : Int) (A : AV) (g : Nat → AV) (O : Ar) (hO : O = std) (hday : Pure Try.prog 19 [dayV d] (dayV d)) (ht : Pure Try.prog 23 [dayV d, iV w, iV n] (.tup [iV v, iV e])) (h : AllP (fun p => g p.1 = p.2) [(1, iV w), (2, iV n), (3, .ptr 0 0)]) :
    SW Try.prog none (nthC 2 (bodyF Try.f4)) (midK 70 [(1, iV w), (2, iV n), (3, .ptr 0 0), (7, iV v), (8, iV e)] (fsS d)) ⟨⟨70, g⟩, []⟩ (fsS d) := by
  obtain ⟨g1, g2, g3, _⟩ := h
  simp only at g1 g2 g3
  rw [← updT_self g1, ← updT_self g2, ← updT_self g3]
  refine SW.run tok hO (by cbv <;> rfl) (by trivial) ?_
  refine OpsW.callP hday (by cbv <;> rfl) ?_
  refine OpsW.run tok hO (by cbv <;> rfl) (by trivial) ?_
  refine OpsW.callP ht (by cbv <;> rfl) ?_
  refine OpsW.run tok hO (by cbv <;> rfl) (by trivial) ?_
  exact ⟨rfl, _, rfl, ⟨rfl, rfl, rfl, rfl, rfl, trivial⟩, rfl⟩
set_option maxHeartbeats 8000000 in
theorem fe_3 (d : DayD) (w n v e s : Int) (A : AV) (g : Nat → AV) (O : Ar) (hO : O = std) (hsu : Pure Try.prog 20 [dayV d] (.tup [A, iV s])) (h : AllP (fun p => g p.1 = p.2) [(1, iV w), (2, iV n), (3, .ptr 0 0), (7, iV v), (8, iV e)]) :
    SW Try.prog none (nthC 3 (bodyF Try.f4)) (midK 70 [(1, iV w), (2, iV n), (3, .ptr 0 0), (7, iV v), (8, iV e), (9, A), (10, iV s)] (fsS d)) ⟨⟨70, g⟩, []⟩ (fsS d) := by
  obtain ⟨g1, g2, g3, g7, g8, _⟩ := h
  simp only at g1 g2 g3 g7 g8
  rw [← updT_self g1, ← updT_self g2, ← updT_self g3, ← updT_self g7, ← updT_self g8]
  refine SW.run tok hO (by cbv <;> rfl) (by trivial) ?_
  refine OpsW.callP hsu (by cbv <;> rfl) ?_
  refine OpsW.run tok hO (by cbv <;> rfl) (by trivial) ?_
  exact ⟨rfl, _, rfl, ⟨rfl, rfl, rfl, rfl, rfl, rfl, rfl, trivial⟩, rfl⟩
set_option maxHeartbeats 8000000 in
theorem fe_4a (d : DayD) (w n v e s : Int) (A : AV) (g : Nat → AV) (O : Ar) (hO : O = std) (c : Int) (hf : Pure Try.prog 24 [dayV d] (iV c)) (hc : c ≠ 0) (h : AllP (fun p => g p.1 = p.2) [(1, iV w), (2, iV n), (3, .ptr 0 0), (7, iV v), (8, iV e), (9, A), (10, iV s)]) :
    SW Try.prog none (nthC 4 (bodyF Try.f4)) (midK 70 [(1, iV w), (2, iV n), (7, iV v), (8, iV e), (9, A), (10, iV s)] (fsS d)) ⟨⟨70, g⟩, []⟩ (fsS d) := by
  have hz : O.cmp .eql c 0 = false := by subst hO; simpa [std] using hc
  obtain ⟨g1, g2, g3, g7, g8, g9, g10, _⟩ := h
  simp only at g1 g2 g3 g7 g8 g9 g10
  rw [← updT_self g1, ← updT_self g2, ← updT_self g3, ← updT_self g7, ← updT_self g8, ← updT_self g9, ← updT_self g10]
  refine SW.seqRun tok hO (by cbv <;> rfl) (by trivial) ?_
  refine OpsW.callP hf (by cbv <;> rfl) ?_
  refine OpsW.run tok hO (by cbv <;> rfl) (by trivial) ?_
  refine OpsW.splitG (by cbv <;> rfl) (fun h => absurd (show false = true from hz.symm.trans h) (by decide)) (fun _ => ?_)
  refine OpsW.run tok hO (by cbv <;> rfl) (by trivial) ?_
  refine SW.condS (by cbv <;> rfl) (fun h => absurd h (by decide)) (fun _ => SW.skip ?_)
  exact ⟨rfl, _, rfl, ⟨rfl, rfl, rfl, rfl, rfl, rfl, trivial⟩, rfl⟩
set_option maxHeartbeats 8000000 in
theorem fe_4b (d : DayD) (w n v e s : Int) (A : AV) (g : Nat → AV) (O : Ar) (hO : O = std) (hf : Pure Try.prog 24 [dayV d] (iV 0)) (hw : Pure Try.prog 25 [iV w, iV 0, iV (std.bin .sub .i64 (Int.ofNat d.nw) 1)] (.lit (.bool false))) (h : AllP (fun p => g p.1 = p.2) [(1, iV w), (2, iV n), (3, .ptr 0 0), (7, iV v), (8, iV e), (9, A), (10, iV s)]) :
    SW Try.prog none (nthC 4 (bodyF Try.f4)) (midK 70 [(1, iV w), (2, iV n), (7, iV v), (8, iV e), (9, A), (10, iV 2)] (fsS d)) ⟨⟨70, g⟩, []⟩ (fsS d) := by
  have hz : O.cmp .eql 0 0 = true := by subst hO; rfl
  have nt : O.not true = false := by subst hO; rfl
  have nf : O.not false = true := by subst hO; rfl
  rw [show std = O from hO.symm] at hw
  obtain ⟨g1, g2, g3, g7, g8, g9, g10, _⟩ := h
  simp only at g1 g2 g3 g7 g8 g9 g10
  rw [← updT_self g1, ← updT_self g2, ← updT_self g3, ← updT_self g7, ← updT_self g8, ← updT_self g9, ← updT_self g10]
  refine SW.seqRun tok hO (by cbv <;> rfl) (by trivial) ?_
  refine OpsW.callP hf (by cbv <;> rfl) ?_
  refine OpsW.run tok hO (by cbv <;> rfl) (by trivial) ?_
  refine OpsW.splitG (by cbv <;> rfl) (fun _ => ?_) (fun h => absurd (show true = false from hz.symm.trans h) (by decide))
  refine OpsW.run tok hO (by cbv <;> rfl) (by trivial) ?_
  refine OpsW.callP hw (by cbv <;> rfl) ?_
  refine OpsW.run tok hO (by cbv <;> rfl) (by trivial) ?_
  refine SW.condS (by cbv <;> rfl) (fun _ => ?_) (fun h => absurd h (by decide))
  refine SW.run tok hO (by cbv <;> rfl) (by trivial) ?_
  exact ⟨rfl, _, rfl, ⟨rfl, rfl, rfl, rfl, rfl, rfl, trivial⟩, rfl⟩
set_option maxHeartbeats 8000000 in
theorem fe_4c (d : DayD) (w n v e s : Int) (A : AV) (g : Nat → AV) (O : Ar) (hO : O = std) (hf : Pure Try.prog 24 [dayV d] (iV 0)) (hw : Pure Try.prog 25 [iV w, iV 0, iV (std.bin .sub .i64 (Int.ofNat d.nw) 1)] (.lit (.bool true))) (hn : Pure Try.prog 25 [iV n, iV 0, iV 60] (.lit (.bool false))) (h : AllP (fun p => g p.1 = p.2) [(1, iV w), (2, iV n), (3, .ptr 0 0), (7, iV v), (8, iV e), (9, A), (10, iV s)]) :
    SW Try.prog none (nthC 4 (bodyF Try.f4)) (midK 70 [(1, iV w), (2, iV n), (7, iV v), (8, iV e), (9, A), (10, iV 2)] (fsS d)) ⟨⟨70, g⟩, []⟩ (fsS d) := by
  have hz : O.cmp .eql 0 0 = true := by subst hO; rfl
  have nt : O.not true = false := by subst hO; rfl
  have nf : O.not false = true := by subst hO; rfl
  rw [show std = O from hO.symm] at hw
  obtain ⟨g1, g2, g3, g7, g8, g9, g10, _⟩ := h
  simp only at g1 g2 g3 g7 g8 g9 g10
  rw [← updT_self g1, ← updT_self g2, ← updT_self g3, ← updT_self g7, ← updT_self g8, ← updT_self g9, ← updT_self g10]
  refine SW.seqRun tok hO (by cbv <;> rfl) (by trivial) ?_
  refine OpsW.callP hf (by cbv <;> rfl) ?_
  refine OpsW.run tok hO (by cbv <;> rfl) (by trivial) ?_
  refine OpsW.splitG (by cbv <;> rfl) (fun _ => ?_) (fun h => absurd (show true = false from hz.symm.trans h) (by decide))
  refine OpsW.run tok hO (by cbv <;> rfl) (by trivial) ?_
  refine OpsW.callP hw (by cbv <;> rfl) ?_
  refine OpsW.run tok hO (by cbv <;> rfl) (by trivial) ?_
  refine OpsW.callP hn (by cbv <;> rfl) ?_
  refine OpsW.run tok hO (by cbv <;> rfl) (by trivial) ?_
  refine SW.condS (by cbv <;> rfl) (fun _ => ?_) (fun h => absurd h (by decide))
  refine SW.run tok hO (by cbv <;> rfl) (by trivial) ?_
  exact ⟨rfl, _, rfl, ⟨rfl, rfl, rfl, rfl, rfl, rfl, trivial⟩, rfl⟩
set_option maxHeartbeats 8000000 in
theorem fe_4d (d : DayD) (w n v e s : Int) (A : AV) (g : Nat → AV) (O : Ar) (hO : O = std) (hf : Pure Try.prog 24 [dayV d] (iV 0)) (hw : Pure Try.prog 25 [iV w, iV 0, iV (std.bin .sub .i64 (Int.ofNat d.nw) 1)] (.lit (.bool true))) (hn : Pure Try.prog 25 [iV n, iV 0, iV 60] (.lit (.bool true))) (h : AllP (fun p => g p.1 = p.2) [(1, iV w), (2, iV n), (3, .ptr 0 0), (7, iV v), (8, iV e), (9, A), (10, iV s)]) :
    SW Try.prog none (nthC 4 (bodyF Try.f4)) (midK 70 [(1, iV w), (2, iV n), (7, iV v), (8, iV e), (9, A), (10, iV s)] (fsS d)) ⟨⟨70, g⟩, []⟩ (fsS d) := by
  have hz : O.cmp .eql 0 0 = true := by subst hO; rfl
  have nt : O.not true = false := by subst hO; rfl
  have nf : O.not false = true := by subst hO; rfl
  rw [show std = O from hO.symm] at hw
  obtain ⟨g1, g2, g3, g7, g8, g9, g10, _⟩ := h
  simp only at g1 g2 g3 g7 g8 g9 g10
  rw [← updT_self g1, ← updT_self g2, ← updT_self g3, ← updT_self g7, ← updT_self g8, ← updT_self g9, ← updT_self g10]
  refine SW.seqRun tok hO (by cbv <;> rfl) (by trivial) ?_
  refine OpsW.callP hf (by cbv <;> rfl) ?_
  refine OpsW.run tok hO (by cbv <;> rfl) (by trivial) ?_
  refine OpsW.splitG (by cbv <;> rfl) (fun _ => ?_) (fun h => absurd (show true = false from hz.symm.trans h) (by decide))
  refine OpsW.run tok hO (by cbv <;> rfl) (by trivial) ?_
  refine OpsW.callP hw (by cbv <;> rfl) ?_
  refine OpsW.run tok hO (by cbv <;> rfl) (by trivial) ?_
  refine OpsW.callP hn (by cbv <;> rfl) ?_
  refine OpsW.run tok hO (by cbv <;> rfl) (by trivial) ?_
  refine SW.condS (by cbv <;> rfl) (fun h => absurd h (by decide)) (fun _ => SW.skip ?_)
  exact ⟨rfl, _, rfl, ⟨rfl, rfl, rfl, rfl, rfl, rfl, trivial⟩, rfl⟩
set_option maxHeartbeats 8000000 in
theorem fe_5a (d : DayD) (w n v e s : Int) (A : AV) (g : Nat → AV) (O : Ar) (hO : O = std) (haw : Pure Try.prog 17 [] (.lit (.bool true))) (hs : s ≠ 0) (h : AllP (fun p => g p.1 = p.2) [(1, iV w), (2, iV n), (7, iV 0), (8, iV s), (9, A), (10, iV s)]) :
    SW Try.prog none (restC 5 (bodyF Try.f4)) (retQ T Try.f4 (fun v st' => Eqv (frz st'.h (fun _ => true) 3 v) (.lit (.bool true)))) ⟨⟨70, g⟩, []⟩ (fsS d) := by
  have hp : O.cmp .neq s 0 = true := by subst hO; simpa [std] using hs
  have hq : O.cmp .eql s s = true := by subst hO; simp [std]
  have hz : O.cmp .eql 0 0 = true := by subst hO; rfl
  obtain ⟨g1, g2, g7, g8, g9, g10, _⟩ := h
  simp only at g1 g2 g7 g8 g9 g10
  rw [← updT_self g1, ← updT_self g2, ← updT_self g7, ← updT_self g8, ← updT_self g9, ← updT_self g10]
  refine SW.seq ?_
  refine SW.seqRun tok hO (by cbv <;> rfl) (by trivial) ?_
  refine SW.condS (by cbv <;> rfl) (fun _ => ?_) (fun h => absurd (show true = false from hp.symm.trans h) (by decide))
  refine SW.seqRun tok hO (by cbv <;> rfl) (by trivial) ?_
  refine OpsW.splitG (by cbv <;> rfl) (fun _ => ?_) (fun h => absurd (show true = false from hq.symm.trans h) (by decide))
  refine OpsW.run tok hO (by cbv <;> rfl) (by trivial) ?_
  refine OpsW.splitG (by cbv <;> rfl) (fun _ => ?_) (fun h => absurd (show true = false from hz.symm.trans h) (by decide))
  refine OpsW.run tok hO (by cbv <;> rfl) (by trivial) ?_
  refine OpsW.callP haw (by cbv <;> rfl) ?_
  refine OpsW.run tok hO (by cbv <;> rfl) (by trivial) ?_
  exact SW.ret ⟨_, _, rfl, rfl, Eqv.refl _⟩
set_option maxHeartbeats 8000000 in
theorem fe_5b (d : DayD) (w n v e s : Int) (A : AV) (g : Nat → AV) (O : Ar) (hO : O = std) (haw : Pure Try.prog 17 [] (.lit (.bool true))) (hr : Pure Try.prog 26 [A, iV w, iV n] (iV v)) (h : AllP (fun p => g p.1 = p.2) [(1, iV w), (2, iV n), (7, iV v), (8, iV 0), (9, A), (10, iV 0)]) :
    SW Try.prog none (restC 5 (bodyF Try.f4)) (retQ T Try.f4 (fun v st' => Eqv (frz st'.h (fun _ => true) 3 v) (.lit (.bool true)))) ⟨⟨70, g⟩, []⟩ (fsS d) := by
  have hz : O.cmp .neq 0 0 = false := by subst hO; rfl
  have hy : O.cmp .eql 0 0 = true := by subst hO; rfl
  have hv : O.cmp .eql v v = true := by subst hO; simp [std]
  obtain ⟨g1, g2, g7, g8, g9, g10, _⟩ := h
  simp only at g1 g2 g7 g8 g9 g10
  rw [← updT_self g1, ← updT_self g2, ← updT_self g7, ← updT_self g8, ← updT_self g9, ← updT_self g10]
  refine SW.seq ?_
  refine SW.seqRun tok hO (by cbv <;> rfl) (by trivial) ?_
  refine SW.condS (by cbv <;> rfl) (fun h => absurd (show false = true from hz.symm.trans h) (by decide)) (fun _ => SW.skip ?_)
  refine SW.seqRun tok hO (by cbv <;> rfl) (by trivial) ?_
  refine OpsW.splitG (by cbv <;> rfl) (fun _ => ?_) (fun h => absurd (show true = false from hy.symm.trans h) (by decide))
  refine OpsW.run tok hO (by cbv <;> rfl) (by trivial) ?_
  refine OpsW.callP hr (by cbv <;> rfl) ?_
  refine OpsW.run tok hO (by cbv <;> rfl) (by trivial) ?_
  refine OpsW.splitG (by cbv <;> rfl) (fun _ => ?_) (fun h => absurd (show true = false from hv.symm.trans h) (by decide))
  refine OpsW.run tok hO (by cbv <;> rfl) (by trivial) ?_
  refine OpsW.callP haw (by cbv <;> rfl) ?_
  refine OpsW.run tok hO (by cbv <;> rfl) (by trivial) ?_
  exact SW.ret ⟨_, _, rfl, rfl, Eqv.refl _⟩
end Go.Fz
