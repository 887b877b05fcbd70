/- Own work of the verifier of watercress: FzO5a, FzF1, FzO5. -/
import Derived.Test.YtpefamheopplnaaMd27
import Derived.Test.YtpefamheopplnaaMd25
import Derived.Test.YtpefamheopplnaaMd20
set_option linter.unusedVariables false
set_option linter.unusedSimpArgs false
namespace Go.Fz
open Go.Proofs
set_option maxRecDepth 100000
set_option linter.unusedVariables false
set_option maxHeartbeats 8000000 in
theorem mo_5 (d : DayD) (k w lo hi : Int) (len sz : Nat) (hC : Nat → Nat → AV) (k0 N : Int) (g : Nat → AV) (O : Ar) (hO : O = std) (VD : AV) (hday : Pure Try.prog 19 [dayV d] VD)(LL : Nat) (fl : Nat → Int) (hl : Pure Try.prog 31 [VD] (.tup [intsV LL false fl, iV 0])) (h : AllP (fun p => g p.1 = p.2) [(4, .ptr 0 0), (9, .ptr 2 0), (10, iV k0), (11, iV N)]) :
    SW Try.prog none (nthC 5 (bodyF Try.f10)) (midK 195 [(4, .ptr 0 0), (9, .ptr 2 0), (10, iV k0), (11, iV N), (12, intsV LL false fl), (13, iV 0)] (moS d [iV k, iV w, iV lo, iV hi] [] (.isl len sz false hC) 4)) ⟨⟨195, g⟩, []⟩ (moS d [iV k, iV w, iV lo, iV hi] [] (.isl len sz false hC) 4) := by
  obtain ⟨g4, g9, g10, g11, _⟩ := h
  simp only at g4 g9 g10 g11
  rw [← updT_self g4, ← updT_self g9, ← updT_self g10, ← updT_self g11]
  refine SW.run tok hO (by cbv <;> rfl) (by trivial) ?_
  refine OpsW.callP hday (by cbv <;> rfl) ?_
  refine OpsW.run tok hO (by cbv <;> rfl) (by trivial) ?_
  refine OpsW.callP hl (by cbv <;> rfl) ?_
  refine OpsW.run tok hO (by cbv <;> rfl) (by trivial) ?_
  exact ⟨rfl, _, rfl, ⟨rfl, rfl, rfl, rfl, rfl, rfl, trivial⟩, rfl⟩
set_option maxHeartbeats 8000000 in
theorem mo_6 (d : DayD) (k w lo hi : Int) (len sz : Nat) (hC : Nat → Nat → AV) (k0 N : Int) (g : Nat → AV) (O : Ar) (hO : O = std) (VX : AV) (hdayx : Pure Try.prog 19 [(.agg [iV d.hand, iV d.flat, womsV d, lotsV d, .isl len sz false hC])] VX)(LL : Nat) (fl : Nat → Int)(LM : Nat) (fm : Nat → Int) (hl : Pure Try.prog 31 [VX] (.tup [intsV LM false fm, iV 0])) (h : AllP (fun p => g p.1 = p.2) [(4, .ptr 0 0), (9, .ptr 2 0), (10, iV k0), (11, iV N), (12, intsV LL false fl), (13, iV 0)]) :
    SW Try.prog none (nthC 6 (bodyF Try.f10)) (midK 195 [(4, .ptr 0 0), (9, .ptr 2 0), (10, iV k0), (11, iV N), (12, intsV LL false fl), (13, iV 0), (14, intsV LM false fm), (15, iV 0)] (moS d [iV k, iV w, iV lo, iV hi] [] (.isl len sz false hC) 4)) ⟨⟨195, g⟩, []⟩ (moS d [iV k, iV w, iV lo, iV hi] [] (.isl len sz false hC) 4) := by
  obtain ⟨g4, g9, g10, g11, g12, g13, _⟩ := h
  simp only at g4 g9 g10 g11 g12 g13
  rw [← updT_self g4, ← updT_self g9, ← updT_self g10, ← updT_self g11, ← updT_self g12, ← updT_self g13]
  refine SW.run tok hO (by cbv <;> rfl) (by trivial) ?_
  refine OpsW.callP hdayx (by cbv <;> rfl) ?_
  refine OpsW.run tok hO (by cbv <;> rfl) (by trivial) ?_
  refine OpsW.callP hl (by cbv <;> rfl) ?_
  refine OpsW.run tok hO (by cbv <;> rfl) (by trivial) ?_
  exact ⟨rfl, _, rfl, ⟨rfl, rfl, rfl, rfl, rfl, rfl, rfl, rfl, trivial⟩, rfl⟩
set_option maxHeartbeats 8000000 in
theorem mo_7 (d : DayD) (k w lo hi : Int) (len sz : Nat) (hC : Nat → Nat → AV) (k0 N : Int) (g : Nat → AV) (O : Ar) (hO : O = std) (VD : AV) (hday : Pure Try.prog 19 [dayV d] VD)(LL : Nat) (fl : Nat → Int)(LM : Nat) (fm : Nat → Int)(n1 : Nat) (X Y Z : Nat → Nat → AV) (p q r s t u v w' e : Int) (hb : Pure Try.prog 18 [VD] (.tup [.agg [.isl n1 2 false X, .isl n1 2 false Y, .isl n1 2 false Z, iV p, iV q, iV r, iV s, iV t, iV u, iV v, iV w'], iV e])) (h : AllP (fun p => g p.1 = p.2) [(4, .ptr 0 0), (9, .ptr 2 0), (10, iV k0), (11, iV N), (12, intsV LL false fl), (13, iV 0), (14, intsV LM false fm), (15, iV 0)]) :
    SW Try.prog none (nthC 7 (bodyF Try.f10)) (midK 195 [(4, .ptr 0 0), (9, .ptr 2 0), (10, iV k0), (11, iV N), (12, intsV LL false fl), (13, iV 0), (14, intsV LM false fm), (15, iV 0), (16, .ptr 4 0), (17, iV e)] (moS d [iV k, iV w, iV lo, iV hi] [(4, .cells none false [.isl n1 2 false X, .isl n1 2 false Y, .isl n1 2 false Z, iV p, iV q, iV r, iV s, iV t, iV u, iV v, iV w'])] (.isl len sz false hC) 5)) ⟨⟨195, g⟩, []⟩ (moS d [iV k, iV w, iV lo, iV hi] [] (.isl len sz false hC) 4) := by
  obtain ⟨g4, g9, g10, g11, g12, g13, g14, g15, _⟩ := h
  simp only at g4 g9 g10 g11 g12 g13 g14 g15
  rw [← updT_self g4, ← updT_self g9, ← updT_self g10, ← updT_self g11, ← updT_self g12, ← updT_self g13, ← updT_self g14, ← updT_self g15]
  refine SW.run tok hO (by cbv <;> rfl) (by trivial) ?_
  refine OpsW.callP hday (by cbv <;> rfl) ?_
  refine OpsW.run tok hO (by cbv <;> rfl) (by trivial) ?_
  refine OpsW.callP hb (by cbv <;> rfl) ?_
  refine OpsW.run tok hO (by cbv <;> rfl) (by trivial) ?_
  exact ⟨rfl, _, rfl, ⟨rfl, rfl, rfl, rfl, rfl, rfl, rfl, rfl, rfl, rfl, trivial⟩, rfl⟩
set_option maxHeartbeats 8000000 in
theorem mo_8 (d : DayD) (k w lo hi : Int) (len sz : Nat) (hC : Nat → Nat → AV) (k0 N : Int) (g : Nat → AV) (O : Ar) (hO : O = std) (VX : AV) (hdayx : Pure Try.prog 19 [(.agg [iV d.hand, iV d.flat, womsV d, lotsV d, .isl len sz false hC])] VX)(LL : Nat) (fl : Nat → Int)(LM : Nat) (fm : Nat → Int)(n1 : Nat) (X Y Z : Nat → Nat → AV) (p q r s t u v w' e : Int)(n2 : Nat) (X2 Y2 Z2 : Nat → Nat → AV) (p2 q2 r2 s2 t2 u2 v2 w2 e2 : Int) (hb : Pure Try.prog 18 [VX] (.tup [.agg [.isl n2 2 false X2, .isl n2 2 false Y2, .isl n2 2 false Z2, iV p2, iV q2, iV r2, iV s2, iV t2, iV u2, iV v2, iV w2], iV e2])) (h : AllP (fun p => g p.1 = p.2) [(4, .ptr 0 0), (9, .ptr 2 0), (10, iV k0), (11, iV N), (12, intsV LL false fl), (13, iV 0), (14, intsV LM false fm), (15, iV 0), (16, .ptr 4 0), (17, iV e)]) :
    SW Try.prog none (nthC 8 (bodyF Try.f10)) (midK 195 [(4, .ptr 0 0), (9, .ptr 2 0), (10, iV k0), (11, iV N), (12, intsV LL false fl), (13, iV 0), (14, intsV LM false fm), (15, iV 0), (16, .ptr 4 0), (17, iV e), (18, .ptr 5 0), (19, iV e2)] (moS d [iV k, iV w, iV lo, iV hi] [(5, .cells none false [.isl n2 2 false X2, .isl n2 2 false Y2, .isl n2 2 false Z2, iV p2, iV q2, iV r2, iV s2, iV t2, iV u2, iV v2, iV w2]), (4, .cells none false [.isl n1 2 false X, .isl n1 2 false Y, .isl n1 2 false Z, iV p, iV q, iV r, iV s, iV t, iV u, iV v, iV w'])] (.isl len sz false hC) 6)) ⟨⟨195, g⟩, []⟩ (moS d [iV k, iV w, iV lo, iV hi] [(4, .cells none false [.isl n1 2 false X, .isl n1 2 false Y, .isl n1 2 false Z, iV p, iV q, iV r, iV s, iV t, iV u, iV v, iV w'])] (.isl len sz false hC) 5) := by
  obtain ⟨g4, g9, g10, g11, g12, g13, g14, g15, g16, g17, _⟩ := h
  simp only at g4 g9 g10 g11 g12 g13 g14 g15 g16 g17
  rw [← updT_self g4, ← updT_self g9, ← updT_self g10, ← updT_self g11, ← updT_self g12, ← updT_self g13, ← updT_self g14, ← updT_self g15, ← updT_self g16, ← updT_self g17]
  refine SW.run tok hO (by cbv <;> rfl) (by trivial) ?_
  refine OpsW.callP hdayx (by cbv <;> rfl) ?_
  refine OpsW.run tok hO (by cbv <;> rfl) (by trivial) ?_
  refine OpsW.callP hb (by cbv <;> rfl) ?_
  refine OpsW.run tok hO (by cbv <;> rfl) (by trivial) ?_
  exact ⟨rfl, _, rfl, ⟨rfl, rfl, rfl, rfl, rfl, rfl, rfl, rfl, rfl, rfl, rfl, rfl, trivial⟩, rfl⟩
set_option maxHeartbeats 8000000 in
theorem mo_9a (d : DayD) (k w lo hi : Int) (len sz : Nat) (hC : Nat → Nat → AV) (k0 N : Int) (g : Nat → AV) (O : Ar) (hO : O = std) (LL : Nat) (fl : Nat → Int) (LM : Nat) (fm : Nat → Int) (n1 : Nat) (X Y Z : Nat → Nat → AV) (p q r s t u v w' : Int) (n2 : Nat) (X2 Y2 Z2 : Nat → Nat → AV) (p2 q2 r2 s2 t2 u2 v2 w2 e2 : Int) (hLM : LL ≤ LM ∧ LM ≤ LL + 1) (hL5 : LL < 1000) (h : AllP (fun p => g p.1 = p.2) [(4, .ptr 0 0), (9, .ptr 2 0), (10, iV k0), (11, iV N), (12, intsV LL false fl), (13, iV 0), (14, intsV LM false fm), (15, iV 0), (16, .ptr 4 0), (17, iV 0), (18, .ptr 5 0), (19, iV e2)]) :
    SW Try.prog none (nthC 9 (bodyF Try.f10)) (midK 195 [(4, .ptr 0 0), (9, .ptr 2 0), (10, iV k0), (11, iV N), (16, .ptr 4 0), (17, iV 0), (18, .ptr 5 0), (19, iV e2)] (moS d [iV k, iV w, iV lo, iV hi] [(5, .cells none false [.isl n2 2 false X2, .isl n2 2 false Y2, .isl n2 2 false Z2, iV p2, iV q2, iV r2, iV s2, iV t2, iV u2, iV v2, iV w2]), (4, .cells none false [.isl n1 2 false X, .isl n1 2 false Y, .isl n1 2 false Z, iV p, iV q, iV r, iV s, iV t, iV u, iV v, iV w'])] (.isl len sz false hC) 6)) ⟨⟨195, g⟩, []⟩ (moS d [iV k, iV w, iV lo, iV hi] [(5, .cells none false [.isl n2 2 false X2, .isl n2 2 false Y2, .isl n2 2 false Z2, iV p2, iV q2, iV r2, iV s2, iV t2, iV u2, iV v2, iV w2]), (4, .cells none false [.isl n1 2 false X, .isl n1 2 false Y, .isl n1 2 false Z, iV p, iV q, iV r, iV s, iV t, iV u, iV v, iV w'])] (.isl len sz false hC) 6) := by
  have hz : O.cmp .neq 0 0 = false := by subst hO; rfl
  have hlt : O.cmp .lss (Int.ofNat LM) (Int.ofNat LL) = false := by subst hO; simp [std]; omega
  have hgt : O.cmp .gtr (Int.ofNat LM) (O.bin .add .i64 (Int.ofNat LL) 1) = false := by
    subst hO
    have hw : wrp .i64 ((LL : Int) + 1) = (LL : Int) + 1 := wrp_in (by simp only [IntKind.lo]; omega) (by simp only [IntKind.hi]; omega)
    simp [std, hw]; omega
  obtain ⟨g4, g9, g10, g11, g12, g13, g14, g15, g16, g17, g18, g19, _⟩ := h
  simp only at g4 g9 g10 g11 g12 g13 g14 g15 g16 g17 g18 g19
  rw [← updT_self g4, ← updT_self g9, ← updT_self g10, ← updT_self g11, ← updT_self g12, ← updT_self g13, ← updT_self g14, ← updT_self g15, ← updT_self g16, ← updT_self g17, ← updT_self g18, ← updT_self g19]
  refine SW.seqRun tok hO (by cbv <;> rfl) (by trivial) ?_
  refine OpsW.splitG (by cbv <;> rfl) (fun h => absurd (show false = true from hz.symm.trans h) (by decide)) (fun _ => ?_)
  refine OpsW.run tok hO (by cbv <;> rfl) (by trivial) ?_
  refine OpsW.splitG (by cbv <;> rfl) (fun h => absurd (show false = true from hz.symm.trans h) (by decide)) (fun _ => ?_)
  refine OpsW.run tok hO (by cbv <;> rfl) (by trivial) ?_
  refine OpsW.splitG (by cbv <;> rfl) (fun h => absurd (show false = true from hlt.symm.trans h) (by decide)) (fun _ => ?_)
  refine OpsW.run tok hO (by cbv <;> rfl) (by trivial) ?_
  refine OpsW.splitG (by cbv <;> rfl) (fun h => absurd (show false = true from hgt.symm.trans h) (by decide)) (fun _ => ?_)
  refine OpsW.run tok hO (by cbv <;> rfl) (by trivial) ?_
  refine OpsW.splitG (by cbv <;> rfl) (fun h => absurd (show false = true from hz.symm.trans h) (by decide)) (fun _ => ?_)
  refine OpsW.run tok hO (by cbv <;> rfl) (by trivial) ?_
  refine SW.condS (by cbv <;> rfl) (fun h => ?_) (fun _ => SW.skip ?_)
  · first | exact absurd h (by decide) | exact absurd (show false = true from hz.symm.trans h) (by decide)
  exact ⟨rfl, _, rfl, ⟨rfl, rfl, rfl, rfl, rfl, rfl, rfl, rfl, trivial⟩, rfl⟩
set_option maxHeartbeats 8000000 in
theorem mo_9b (d : DayD) (k w lo hi : Int) (len sz : Nat) (hC : Nat → Nat → AV) (k0 N : Int) (g : Nat → AV) (O : Ar) (hO : O = std) (LL : Nat) (fl : Nat → Int) (LM : Nat) (fm : Nat → Int) (n1 : Nat) (X Y Z : Nat → Nat → AV) (p q r s t u v w' : Int) (n2 : Nat) (X2 Y2 Z2 : Nat → Nat → AV) (p2 q2 r2 s2 t2 u2 v2 w2 e2 : Int) (hLM : LL ≤ LM ∧ LM ≤ LL + 1) (hL5 : LL < 1000) (h : AllP (fun p => g p.1 = p.2) [(4, .ptr 0 0), (9, .ptr 2 0), (10, iV k0), (11, iV N), (12, intsV LL false fl), (13, iV 0), (14, intsV LM false fm), (15, iV 0), (16, .ptr 4 0), (17, iV 11), (18, .ptr 5 0), (19, iV e2)]) :
    SW Try.prog none (nthC 9 (bodyF Try.f10)) (midK 195 [(4, .ptr 0 0), (9, .ptr 2 0), (10, iV k0), (11, iV N), (16, .ptr 4 0), (17, iV 11), (18, .ptr 5 0), (19, iV e2)] (moS d [iV k, iV w, iV lo, iV hi] [(5, .cells none false [.isl n2 2 false X2, .isl n2 2 false Y2, .isl n2 2 false Z2, iV p2, iV q2, iV r2, iV s2, iV t2, iV u2, iV v2, iV w2]), (4, .cells none false [.isl n1 2 false X, .isl n1 2 false Y, .isl n1 2 false Z, iV p, iV q, iV r, iV s, iV t, iV u, iV v, iV w'])] (.isl len sz false hC) 6)) ⟨⟨195, g⟩, []⟩ (moS d [iV k, iV w, iV lo, iV hi] [(5, .cells none false [.isl n2 2 false X2, .isl n2 2 false Y2, .isl n2 2 false Z2, iV p2, iV q2, iV r2, iV s2, iV t2, iV u2, iV v2, iV w2]), (4, .cells none false [.isl n1 2 false X, .isl n1 2 false Y, .isl n1 2 false Z, iV p, iV q, iV r, iV s, iV t, iV u, iV v, iV w'])] (.isl len sz false hC) 6) := by
  have hz : O.cmp .neq 0 0 = false := by subst hO; rfl
  have hlt : O.cmp .lss (Int.ofNat LM) (Int.ofNat LL) = false := by subst hO; simp [std]; omega
  have hgt : O.cmp .gtr (Int.ofNat LM) (O.bin .add .i64 (Int.ofNat LL) 1) = false := by
    subst hO
    have hw : wrp .i64 ((LL : Int) + 1) = (LL : Int) + 1 := wrp_in (by simp only [IntKind.lo]; omega) (by simp only [IntKind.hi]; omega)
    simp [std, hw]; omega
  obtain ⟨g4, g9, g10, g11, g12, g13, g14, g15, g16, g17, g18, g19, _⟩ := h
  simp only at g4 g9 g10 g11 g12 g13 g14 g15 g16 g17 g18 g19
  rw [← updT_self g4, ← updT_self g9, ← updT_self g10, ← updT_self g11, ← updT_self g12, ← updT_self g13, ← updT_self g14, ← updT_self g15, ← updT_self g16, ← updT_self g17, ← updT_self g18, ← updT_self g19]
  refine SW.seqRun tok hO (by cbv <;> rfl) (by trivial) ?_
  refine OpsW.splitG (by cbv <;> rfl) (fun h => absurd (show false = true from hz.symm.trans h) (by decide)) (fun _ => ?_)
  refine OpsW.run tok hO (by cbv <;> rfl) (by trivial) ?_
  refine OpsW.splitG (by cbv <;> rfl) (fun h => absurd (show false = true from hz.symm.trans h) (by decide)) (fun _ => ?_)
  refine OpsW.run tok hO (by cbv <;> rfl) (by trivial) ?_
  refine OpsW.splitG (by cbv <;> rfl) (fun h => absurd (show false = true from hlt.symm.trans h) (by decide)) (fun _ => ?_)
  refine OpsW.run tok hO (by cbv <;> rfl) (by trivial) ?_
  refine OpsW.splitG (by cbv <;> rfl) (fun h => absurd (show false = true from hgt.symm.trans h) (by decide)) (fun _ => ?_)
  refine OpsW.run tok hO (by cbv <;> rfl) (by trivial) ?_
  have hp : O.cmp .neq 11 0 = true := by subst hO; rfl
  have hq : O.cmp .neq 11 11 = false := by subst hO; rfl
  refine OpsW.splitG (by cbv <;> rfl) (fun _ => ?_) (fun h => absurd (show true = false from hp.symm.trans h) (by decide))
  refine OpsW.run tok hO (by cbv <;> rfl) (by trivial) ?_
  refine SW.condS (by cbv <;> rfl) (fun h => absurd (show false = true from hq.symm.trans h) (by decide)) (fun _ => SW.skip ?_)
  exact ⟨rfl, _, rfl, ⟨rfl, rfl, rfl, rfl, rfl, rfl, rfl, rfl, trivial⟩, rfl⟩
set_option maxHeartbeats 8000000 in
theorem mo_10 (d : DayD) (k w lo hi : Int) (len sz : Nat) (hC : Nat → Nat → AV) (k0 N : Int) (g : Nat → AV) (O : Ar) (hO : O = std) (n1 : Nat) (X Y Z : Nat → Nat → AV) (p q r s t u v w' e : Int) (n2 : Nat) (X2 Y2 Z2 : Nat → Nat → AV) (p2 q2 r2 s2 t2 u2 v2 w2 : Int) (h : AllP (fun p => g p.1 = p.2) [(4, .ptr 0 0), (9, .ptr 2 0), (10, iV k0), (11, iV N), (16, .ptr 4 0), (17, iV e), (18, .ptr 5 0), (19, iV 0)]) :
    SW Try.prog none (nthC 10 (bodyF Try.f10)) (midK 195 [(4, .ptr 0 0), (9, .ptr 2 0), (10, iV k0), (11, iV N), (16, .ptr 4 0), (17, iV e), (18, .ptr 5 0)] (moS d [iV k, iV w, iV lo, iV hi] [(5, .cells none false [.isl n2 2 false X2, .isl n2 2 false Y2, .isl n2 2 false Z2, iV p2, iV q2, iV r2, iV s2, iV t2, iV u2, iV v2, iV w2]), (4, .cells none false [.isl n1 2 false X, .isl n1 2 false Y, .isl n1 2 false Z, iV p, iV q, iV r, iV s, iV t, iV u, iV v, iV w'])] (.isl len sz false hC) 6)) ⟨⟨195, g⟩, []⟩ (moS d [iV k, iV w, iV lo, iV hi] [(5, .cells none false [.isl n2 2 false X2, .isl n2 2 false Y2, .isl n2 2 false Z2, iV p2, iV q2, iV r2, iV s2, iV t2, iV u2, iV v2, iV w2]), (4, .cells none false [.isl n1 2 false X, .isl n1 2 false Y, .isl n1 2 false Z, iV p, iV q, iV r, iV s, iV t, iV u, iV v, iV w'])] (.isl len sz false hC) 6) := by
  have hz : O.cmp .neq 0 0 = false := by subst hO; rfl
  obtain ⟨g4, g9, g10, g11, g16, g17, g18, g19, _⟩ := h
  simp only at g4 g9 g10 g11 g16 g17 g18 g19
  rw [← updT_self g4, ← updT_self g9, ← updT_self g10, ← updT_self g11, ← updT_self g16, ← updT_self g17, ← updT_self g18, ← updT_self g19]
  refine SW.seqRun tok hO (by cbv <;> rfl) (by trivial) ?_
  refine SW.condS (by cbv <;> rfl) (fun h => absurd (show false = true from hz.symm.trans h) (by decide)) (fun _ => SW.skip ?_)
  exact ⟨rfl, _, rfl, ⟨rfl, rfl, rfl, rfl, rfl, rfl, rfl, trivial⟩, rfl⟩
set_option maxHeartbeats 8000000 in
theorem mo_10e (haw : Pure Try.prog 17 [] (.lit (.bool true))) (d : DayD) (k w lo hi : Int) (len sz : Nat) (hC : Nat → Nat → AV) (k0 N : Int) (g : Nat → AV) (O : Ar) (hO : O = std) (n1 : Nat) (X Y Z : Nat → Nat → AV) (p q r s t u v w' e : Int) (n2 : Nat) (X2 Y2 Z2 : Nat → Nat → AV) (p2 q2 r2 s2 t2 u2 v2 w2 : Int) (h : AllP (fun p => g p.1 = p.2) [(4, .ptr 0 0), (9, .ptr 2 0), (10, iV k0), (11, iV N), (16, .ptr 4 0), (17, iV e), (18, .ptr 5 0), (19, iV 11)]) :
    SW Try.prog none (restC 10 (bodyF Try.f10)) (retQ T Try.f10 (fun v st' => Eqv (frz st'.h (fun _ => true) 3 v) (.lit (.bool true)))) ⟨⟨195, g⟩, []⟩ (moS d [iV k, iV w, iV lo, iV hi] [(5, .cells none false [.isl n2 2 false X2, .isl n2 2 false Y2, .isl n2 2 false Z2, iV p2, iV q2, iV r2, iV s2, iV t2, iV u2, iV v2, iV w2]), (4, .cells none false [.isl n1 2 false X, .isl n1 2 false Y, .isl n1 2 false Z, iV p, iV q, iV r, iV s, iV t, iV u, iV v, iV w'])] (.isl len sz false hC) 6) := by
  have hp : O.cmp .neq 11 0 = true := by subst hO; rfl
  have hq : O.cmp .eql 11 11 = true := by subst hO; rfl
  obtain ⟨g4, g9, g10, g11, g16, g17, g18, g19, _⟩ := h
  simp only at g4 g9 g10 g11 g16 g17 g18 g19
  rw [← updT_self g4, ← updT_self g9, ← updT_self g10, ← updT_self g11, ← updT_self g16, ← updT_self g17, ← updT_self g18, ← updT_self g19]
  refine SW.seq ?_
  refine SW.seqRun tok hO (by cbv <;> rfl) (by trivial) ?_
  refine SW.condS (by cbv <;> rfl) (fun _ => ?_) (fun h => absurd (show true = false from hp.symm.trans h) (by decide))
  refine SW.seqRun tok hO (by cbv <;> rfl) (by trivial) ?_
  refine OpsW.splitG (by cbv <;> rfl) (fun _ => ?_) (fun h => absurd (show true = false from hq.symm.trans h) (by decide))
  refine OpsW.run tok hO (by cbv <;> rfl) (by trivial) ?_
  refine OpsW.callP haw (by cbv <;> rfl) ?_
  refine OpsW.run tok hO (by cbv <;> rfl) (by trivial) ?_
  exact SW.ret ⟨_, _, rfl, rfl, Eqv.refl _⟩
set_option maxHeartbeats 8000000 in
theorem mo_11 (d : DayD) (k w lo hi : Int) (len sz : Nat) (hC : Nat → Nat → AV) (k0 N : Int) (g : Nat → AV) (O : Ar) (hO : O = std) (VD : AV) (hday : Pure Try.prog 19 [dayV d] VD)(n1 : Nat) (X Y Z : Nat → Nat → AV) (p q r s t u v w' e : Int)(n2 : Nat) (X2 Y2 Z2 : Nat → Nat → AV) (p2 q2 r2 s2 t2 u2 v2 w2 : Int) (tu : Int) (ht : Pure Try.prog 23 [VD, iV k0, iV N] (.tup [iV tu, iV 0])) (h : AllP (fun p => g p.1 = p.2) [(4, .ptr 0 0), (9, .ptr 2 0), (10, iV k0), (11, iV N), (16, .ptr 4 0), (17, iV e), (18, .ptr 5 0)]) :
    SW Try.prog none (nthC 11 (bodyF Try.f10)) (midK 195 [(4, .ptr 0 0), (9, .ptr 2 0), (10, iV k0), (11, iV N), (16, .ptr 4 0), (17, iV e), (18, .ptr 5 0), (20, iV tu), (21, iV 0)] (moS d [iV k, iV w, iV lo, iV hi] [(5, .cells none false [.isl n2 2 false X2, .isl n2 2 false Y2, .isl n2 2 false Z2, iV p2, iV q2, iV r2, iV s2, iV t2, iV u2, iV v2, iV w2]), (4, .cells none false [.isl n1 2 false X, .isl n1 2 false Y, .isl n1 2 false Z, iV p, iV q, iV r, iV s, iV t, iV u, iV v, iV w'])] (.isl len sz false hC) 6)) ⟨⟨195, g⟩, []⟩ (moS d [iV k, iV w, iV lo, iV hi] [(5, .cells none false [.isl n2 2 false X2, .isl n2 2 false Y2, .isl n2 2 false Z2, iV p2, iV q2, iV r2, iV s2, iV t2, iV u2, iV v2, iV w2]), (4, .cells none false [.isl n1 2 false X, .isl n1 2 false Y, .isl n1 2 false Z, iV p, iV q, iV r, iV s, iV t, iV u, iV v, iV w'])] (.isl len sz false hC) 6) := by
  obtain ⟨g4, g9, g10, g11, g16, g17, g18, _⟩ := h
  simp only at g4 g9 g10 g11 g16 g17 g18
  rw [← updT_self g4, ← updT_self g9, ← updT_self g10, ← updT_self g11, ← updT_self g16, ← updT_self g17, ← updT_self g18]
  refine SW.run tok hO (by cbv <;> rfl) (by trivial) ?_
  refine OpsW.callP hday (by cbv <;> rfl) ?_
  refine OpsW.run tok hO (by cbv <;> rfl) (by trivial) ?_
  refine OpsW.callP ht (by cbv <;> rfl) ?_
  refine OpsW.run tok hO (by cbv <;> rfl) (by trivial) ?_
  exact ⟨rfl, _, rfl, ⟨rfl, rfl, rfl, rfl, rfl, rfl, rfl, rfl, rfl, trivial⟩, rfl⟩
set_option maxHeartbeats 8000000 in
theorem mo_12 (d : DayD) (k w lo hi : Int) (len sz : Nat) (hC : Nat → Nat → AV) (k0 N : Int) (g : Nat → AV) (O : Ar) (hO : O = std) (VX : AV) (hdayx : Pure Try.prog 19 [(.agg [iV d.hand, iV d.flat, womsV d, lotsV d, .isl len sz false hC])] VX)(n1 : Nat) (X Y Z : Nat → Nat → AV) (p q r s t u v w' e : Int)(n2 : Nat) (X2 Y2 Z2 : Nat → Nat → AV) (p2 q2 r2 s2 t2 u2 v2 w2 : Int) (tu tv : Int) (ht : Pure Try.prog 23 [VX, iV k0, iV N] (.tup [iV tv, iV 0])) (h : AllP (fun p => g p.1 = p.2) [(4, .ptr 0 0), (9, .ptr 2 0), (10, iV k0), (11, iV N), (16, .ptr 4 0), (17, iV e), (18, .ptr 5 0), (20, iV tu), (21, iV 0)]) :
    SW Try.prog none (nthC 12 (bodyF Try.f10)) (midK 195 [(4, .ptr 0 0), (9, .ptr 2 0), (10, iV k0), (11, iV N), (16, .ptr 4 0), (17, iV e), (18, .ptr 5 0), (20, iV tu), (21, iV 0), (22, iV tv), (23, iV 0)] (moS d [iV k, iV w, iV lo, iV hi] [(5, .cells none false [.isl n2 2 false X2, .isl n2 2 false Y2, .isl n2 2 false Z2, iV p2, iV q2, iV r2, iV s2, iV t2, iV u2, iV v2, iV w2]), (4, .cells none false [.isl n1 2 false X, .isl n1 2 false Y, .isl n1 2 false Z, iV p, iV q, iV r, iV s, iV t, iV u, iV v, iV w'])] (.isl len sz false hC) 6)) ⟨⟨195, g⟩, []⟩ (moS d [iV k, iV w, iV lo, iV hi] [(5, .cells none false [.isl n2 2 false X2, .isl n2 2 false Y2, .isl n2 2 false Z2, iV p2, iV q2, iV r2, iV s2, iV t2, iV u2, iV v2, iV w2]), (4, .cells none false [.isl n1 2 false X, .isl n1 2 false Y, .isl n1 2 false Z, iV p, iV q, iV r, iV s, iV t, iV u, iV v, iV w'])] (.isl len sz false hC) 6) := by
  obtain ⟨g4, g9, g10, g11, g16, g17, g18, g20, g21, _⟩ := h
  simp only at g4 g9 g10 g11 g16 g17 g18 g20 g21
  rw [← updT_self g4, ← updT_self g9, ← updT_self g10, ← updT_self g11, ← updT_self g16, ← updT_self g17, ← updT_self g18, ← updT_self g20, ← updT_self g21]
  refine SW.run tok hO (by cbv <;> rfl) (by trivial) ?_
  refine OpsW.callP hdayx (by cbv <;> rfl) ?_
  refine OpsW.run tok hO (by cbv <;> rfl) (by trivial) ?_
  refine OpsW.callP ht (by cbv <;> rfl) ?_
  refine OpsW.run tok hO (by cbv <;> rfl) (by trivial) ?_
  exact ⟨rfl, _, rfl, ⟨rfl, rfl, rfl, rfl, rfl, rfl, rfl, rfl, rfl, rfl, rfl, trivial⟩, rfl⟩
set_option maxHeartbeats 8000000 in
theorem mo_13 (d : DayD) (k w lo hi : Int) (len sz : Nat) (hC : Nat → Nat → AV) (k0 N : Int) (g : Nat → AV) (O : Ar) (hO : O = std) (VD : AV) (hday : Pure Try.prog 19 [dayV d] VD)(n1 : Nat) (X Y Z : Nat → Nat → AV) (p q r s t u v w' e : Int)(n2 : Nat) (X2 Y2 Z2 : Nat → Nat → AV) (p2 q2 r2 s2 t2 u2 v2 w2 : Int) (tu tv : Int) (a1 : AV) (e3 : Int) (hf : Pure Try.prog 27 [VD] (.tup [a1, iV e3])) (h : AllP (fun p => g p.1 = p.2) [(4, .ptr 0 0), (9, .ptr 2 0), (16, .ptr 4 0), (17, iV e), (18, .ptr 5 0), (20, iV tu), (21, iV 0), (22, iV tv), (23, iV 0)]) :
    SW Try.prog none (nthC 13 (bodyF Try.f10)) (midK 195 [(4, .ptr 0 0), (9, .ptr 2 0), (16, .ptr 4 0), (17, iV e), (18, .ptr 5 0), (20, iV tu), (21, iV 0), (22, iV tv), (23, iV 0), (24, a1), (25, iV e3)] (moS d [iV k, iV w, iV lo, iV hi] [(5, .cells none false [.isl n2 2 false X2, .isl n2 2 false Y2, .isl n2 2 false Z2, iV p2, iV q2, iV r2, iV s2, iV t2, iV u2, iV v2, iV w2]), (4, .cells none false [.isl n1 2 false X, .isl n1 2 false Y, .isl n1 2 false Z, iV p, iV q, iV r, iV s, iV t, iV u, iV v, iV w'])] (.isl len sz false hC) 6)) ⟨⟨195, g⟩, []⟩ (moS d [iV k, iV w, iV lo, iV hi] [(5, .cells none false [.isl n2 2 false X2, .isl n2 2 false Y2, .isl n2 2 false Z2, iV p2, iV q2, iV r2, iV s2, iV t2, iV u2, iV v2, iV w2]), (4, .cells none false [.isl n1 2 false X, .isl n1 2 false Y, .isl n1 2 false Z, iV p, iV q, iV r, iV s, iV t, iV u, iV v, iV w'])] (.isl len sz false hC) 6) := by
  obtain ⟨g4, g9, g16, g17, g18, g20, g21, g22, g23, _⟩ := h
  simp only at g4 g9 g16 g17 g18 g20 g21 g22 g23
  rw [← updT_self g4, ← updT_self g9, ← updT_self g16, ← updT_self g17, ← updT_self g18, ← updT_self g20, ← updT_self g21, ← updT_self g22, ← updT_self g23]
  refine SW.run tok hO (by cbv <;> rfl) (by trivial) ?_
  refine OpsW.callP hday (by cbv <;> rfl) ?_
  refine OpsW.run tok hO (by cbv <;> rfl) (by trivial) ?_
  refine OpsW.callP hf (by cbv <;> rfl) ?_
  refine OpsW.run tok hO (by cbv <;> rfl) (by trivial) ?_
  exact ⟨rfl, _, rfl, ⟨rfl, rfl, rfl, rfl, rfl, rfl, rfl, rfl, rfl, rfl, rfl, trivial⟩, rfl⟩
set_option maxHeartbeats 8000000 in
theorem mo_14 (d : DayD) (k w lo hi : Int) (len sz : Nat) (hC : Nat → Nat → AV) (k0 N : Int) (g : Nat → AV) (O : Ar) (hO : O = std) (VX : AV) (hdayx : Pure Try.prog 19 [(.agg [iV d.hand, iV d.flat, womsV d, lotsV d, .isl len sz false hC])] VX)(n1 : Nat) (X Y Z : Nat → Nat → AV) (p q r s t u v w' e : Int)(n2 : Nat) (X2 Y2 Z2 : Nat → Nat → AV) (p2 q2 r2 s2 t2 u2 v2 w2 : Int) (tu tv : Int) (a1 : AV) (e3 : Int) (a2 : AV) (e4 : Int) (hf : Pure Try.prog 27 [VX] (.tup [a2, iV e4])) (h : AllP (fun p => g p.1 = p.2) [(4, .ptr 0 0), (9, .ptr 2 0), (16, .ptr 4 0), (17, iV e), (18, .ptr 5 0), (20, iV tu), (21, iV 0), (22, iV tv), (23, iV 0), (24, a1), (25, iV e3)]) :
    SW Try.prog none (nthC 14 (bodyF Try.f10)) (midK 195 [(4, .ptr 0 0), (9, .ptr 2 0), (16, .ptr 4 0), (17, iV e), (18, .ptr 5 0), (20, iV tu), (21, iV 0), (22, iV tv), (23, iV 0), (24, a1), (25, iV e3), (26, a2), (27, iV e4)] (moS d [iV k, iV w, iV lo, iV hi] [(5, .cells none false [.isl n2 2 false X2, .isl n2 2 false Y2, .isl n2 2 false Z2, iV p2, iV q2, iV r2, iV s2, iV t2, iV u2, iV v2, iV w2]), (4, .cells none false [.isl n1 2 false X, .isl n1 2 false Y, .isl n1 2 false Z, iV p, iV q, iV r, iV s, iV t, iV u, iV v, iV w'])] (.isl len sz false hC) 6)) ⟨⟨195, g⟩, []⟩ (moS d [iV k, iV w, iV lo, iV hi] [(5, .cells none false [.isl n2 2 false X2, .isl n2 2 false Y2, .isl n2 2 false Z2, iV p2, iV q2, iV r2, iV s2, iV t2, iV u2, iV v2, iV w2]), (4, .cells none false [.isl n1 2 false X, .isl n1 2 false Y, .isl n1 2 false Z, iV p, iV q, iV r, iV s, iV t, iV u, iV v, iV w'])] (.isl len sz false hC) 6) := by
  obtain ⟨g4, g9, g16, g17, g18, g20, g21, g22, g23, g24, g25, _⟩ := h
  simp only at g4 g9 g16 g17 g18 g20 g21 g22 g23 g24 g25
  rw [← updT_self g4, ← updT_self g9, ← updT_self g16, ← updT_self g17, ← updT_self g18, ← updT_self g20, ← updT_self g21, ← updT_self g22, ← updT_self g23, ← updT_self g24, ← updT_self g25]
  refine SW.run tok hO (by cbv <;> rfl) (by trivial) ?_
  refine OpsW.callP hdayx (by cbv <;> rfl) ?_
  refine OpsW.run tok hO (by cbv <;> rfl) (by trivial) ?_
  refine OpsW.callP hf (by cbv <;> rfl) ?_
  refine OpsW.run tok hO (by cbv <;> rfl) (by trivial) ?_
  exact ⟨rfl, _, rfl, ⟨rfl, rfl, rfl, rfl, rfl, rfl, rfl, rfl, rfl, rfl, rfl, rfl, rfl, trivial⟩, rfl⟩
set_option maxHeartbeats 8000000 in
theorem mo_15 (d : DayD) (k w lo hi : Int) (len sz : Nat) (hC : Nat → Nat → AV) (k0 N : Int) (g : Nat → AV) (O : Ar) (hO : O = std) (n1 : Nat) (X Y Z : Nat → Nat → AV) (p q r s t u v w' : Int)(n2 : Nat) (X2 Y2 Z2 : Nat → Nat → AV) (p2 q2 r2 s2 t2 u2 v2 w2 : Int) (tu tv : Int) (huv : tu = 3 ∨ tu = tv) (a1 : AV) (e3 : Int) (a2 : AV) (e4 : Int) (hn : Pure Try.prog 48 [.agg [.isl n2 2 false X2, .isl n2 2 false Y2, .isl n2 2 false Z2, iV p2, iV q2, iV r2, iV s2, iV t2, iV u2, iV v2, iV w2], .agg [.isl n1 2 false X, .isl n1 2 false Y, .isl n1 2 false Z, iV p, iV q, iV r, iV s, iV t, iV u, iV v, iV w']] (.lit (.bool true))) (h : AllP (fun p => g p.1 = p.2) [(16, .ptr 4 0), (17, iV 0), (18, .ptr 5 0), (20, iV tu), (21, iV 0), (22, iV tv), (23, iV 0), (24, a1), (25, iV e3), (26, a2), (27, iV e4)]) :
    SW Try.prog none (nthC 15 (bodyF Try.f10)) (midK 195 [(24, a1), (25, iV e3), (26, a2), (27, iV e4)] (moS d [iV k, iV w, iV lo, iV hi] [(5, .cells none false [.isl n2 2 false X2, .isl n2 2 false Y2, .isl n2 2 false Z2, iV p2, iV q2, iV r2, iV s2, iV t2, iV u2, iV v2, iV w2]), (4, .cells none false [.isl n1 2 false X, .isl n1 2 false Y, .isl n1 2 false Z, iV p, iV q, iV r, iV s, iV t, iV u, iV v, iV w'])] (.isl len sz false hC) 6)) ⟨⟨195, g⟩, []⟩ (moS d [iV k, iV w, iV lo, iV hi] [(5, .cells none false [.isl n2 2 false X2, .isl n2 2 false Y2, .isl n2 2 false Z2, iV p2, iV q2, iV r2, iV s2, iV t2, iV u2, iV v2, iV w2]), (4, .cells none false [.isl n1 2 false X, .isl n1 2 false Y, .isl n1 2 false Z, iV p, iV q, iV r, iV s, iV t, iV u, iV v, iV w'])] (.isl len sz false hC) 6) := by
  have hz : O.cmp .neq 0 0 = false := by subst hO; rfl
  have ht : O.not true = false := by subst hO; rfl
  obtain ⟨g16, g17, g18, g20, g21, g22, g23, g24, g25, g26, g27, _⟩ := h
  simp only at g16 g17 g18 g20 g21 g22 g23 g24 g25 g26 g27
  rw [← updT_self g16, ← updT_self g17, ← updT_self g18, ← updT_self g20, ← updT_self g21, ← updT_self g22, ← updT_self g23, ← updT_self g24, ← updT_self g25, ← updT_self g26, ← updT_self g27]
  refine SW.seqRun tok hO (by cbv <;> rfl) (by trivial) ?_
  refine OpsW.splitG (by cbv <;> rfl) (fun h => absurd (show false = true from hz.symm.trans h) (by decide)) (fun _ => ?_)
  refine OpsW.run tok hO (by cbv <;> rfl) (by trivial) ?_
  refine OpsW.callP hn (by cbv <;> rfl) ?_
  refine OpsW.run tok hO (by cbv <;> rfl) (by trivial) ?_
  refine OpsW.splitG (by cbv <;> rfl) (fun h => absurd (show false = true from hz.symm.trans h) (by decide)) (fun _ => ?_)
  refine OpsW.run tok hO (by cbv <;> rfl) (by trivial) ?_
  refine OpsW.splitG (by cbv <;> rfl) (fun h => absurd (show false = true from hz.symm.trans h) (by decide)) (fun _ => ?_)
  refine OpsW.run tok hO (by cbv <;> rfl) (by trivial) ?_
  by_cases h3 : tu = 3
  · have hu : O.cmp .neq tu 3 = false := by subst hO; simp [std, h3]
    refine OpsW.splitG (by cbv <;> rfl) (fun h => absurd (show false = true from hu.symm.trans h) (by decide)) (fun _ => ?_)
    refine OpsW.run tok hO (by cbv <;> rfl) (by trivial) ?_
    refine SW.condS (by cbv <;> rfl) (fun h => ?_) (fun _ => SW.skip ?_)
    · first | exact absurd h (by decide) | exact absurd (show false = true from hu.symm.trans h) (by decide)
    exact ⟨rfl, _, rfl, ⟨rfl, rfl, rfl, rfl, trivial⟩, rfl⟩
  · have hu : O.cmp .neq tu 3 = true := by subst hO; simp [std, h3]
    have hv : O.cmp .neq tu tv = false := by subst hO; simp [std]; omega
    refine OpsW.splitG (by cbv <;> rfl) (fun _ => ?_) (fun h => absurd (show true = false from hu.symm.trans h) (by decide))
    refine OpsW.run tok hO (by cbv <;> rfl) (by trivial) ?_
    refine SW.condS (by cbv <;> rfl) (fun h => absurd (show false = true from hv.symm.trans h) (by decide)) (fun _ => SW.skip ?_)
    exact ⟨rfl, _, rfl, ⟨rfl, rfl, rfl, rfl, trivial⟩, rfl⟩
set_option maxHeartbeats 8000000 in
theorem mo_16a (haw : Pure Try.prog 17 [] (.lit (.bool true))) (d : DayD) (k w lo hi : Int) (len sz : Nat) (hC : Nat → Nat → AV) (k0 N : Int) (g : Nat → AV) (O : Ar) (hO : O = std) (n1 : Nat) (X Y Z : Nat → Nat → AV) (p q r s t u v w' : Int)(n2 : Nat) (X2 Y2 Z2 : Nat → Nat → AV) (p2 q2 r2 s2 t2 u2 v2 w2 : Int) (n m : Nat) (f1 f2 : Nat → Int) (hmn : m ≤ n) (h : AllP (fun p => g p.1 = p.2) [(24, intsV n false f1), (25, iV 0), (26, intsV m false f2), (27, iV 0)]) :
    SW Try.prog none (restC 16 (bodyF Try.f10)) (retQ T Try.f10 (fun v st' => Eqv (frz st'.h (fun _ => true) 3 v) (.lit (.bool true)))) ⟨⟨195, g⟩, []⟩ (moS d [iV k, iV w, iV lo, iV hi] [(5, .cells none false [.isl n2 2 false X2, .isl n2 2 false Y2, .isl n2 2 false Z2, iV p2, iV q2, iV r2, iV s2, iV t2, iV u2, iV v2, iV w2]), (4, .cells none false [.isl n1 2 false X, .isl n1 2 false Y, .isl n1 2 false Z, iV p, iV q, iV r, iV s, iV t, iV u, iV v, iV w'])] (.isl len sz false hC) 6) := by
  obtain ⟨g24, g25, g26, g27, _⟩ := h
  simp only at g24 g25 g26 g27
  rw [← updT_self g24, ← updT_self g25, ← updT_self g26, ← updT_self g27]
  have hz : O.cmp .neq 0 0 = false := by subst hO; rfl
  have hy : O.cmp .eql 0 0 = true := by subst hO; rfl
  have hm : O.cmp .leq (Int.ofNat m) (Int.ofNat n) = true := by subst hO; simp [std]; omega
  refine SW.seq ?_
  refine SW.seqRun tok hO (by cbv <;> rfl) (by trivial) ?_
  refine SW.condS (by cbv <;> rfl) (fun h => absurd (show false = true from hz.symm.trans h) (by decide)) (fun _ => SW.skip ?_)
  refine SW.seqRun tok hO (by cbv <;> rfl) (by trivial) ?_
  refine OpsW.splitG (by cbv <;> rfl) (fun _ => ?_) (fun h => absurd (show true = false from hy.symm.trans h) (by decide))
  refine OpsW.run tok hO (by cbv <;> rfl) (by trivial) ?_
  refine OpsW.splitG (by cbv <;> rfl) (fun _ => ?_) (fun h => absurd (show true = false from hm.symm.trans h) (by decide))
  refine OpsW.run tok hO (by cbv <;> rfl) (by trivial) ?_
  refine OpsW.callP haw (by cbv <;> rfl) ?_
  refine OpsW.run tok hO (by cbv <;> rfl) (by trivial) ?_
  exact SW.ret ⟨_, _, rfl, rfl, Eqv.refl _⟩
set_option maxHeartbeats 8000000 in
theorem mo_16b (haw : Pure Try.prog 17 [] (.lit (.bool true))) (d : DayD) (k w lo hi : Int) (len sz : Nat) (hC : Nat → Nat → AV) (k0 N : Int) (g : Nat → AV) (O : Ar) (hO : O = std) (n1 : Nat) (X Y Z : Nat → Nat → AV) (p q r s t u v w' : Int)(n2 : Nat) (X2 Y2 Z2 : Nat → Nat → AV) (p2 q2 r2 s2 t2 u2 v2 w2 : Int) (a2 : AV) (h : AllP (fun p => g p.1 = p.2) [(24, nl3), (25, iV 10), (26, a2), (27, iV 0)]) :
    SW Try.prog none (restC 16 (bodyF Try.f10)) (retQ T Try.f10 (fun v st' => Eqv (frz st'.h (fun _ => true) 3 v) (.lit (.bool true)))) ⟨⟨195, g⟩, []⟩ (moS d [iV k, iV w, iV lo, iV hi] [(5, .cells none false [.isl n2 2 false X2, .isl n2 2 false Y2, .isl n2 2 false Z2, iV p2, iV q2, iV r2, iV s2, iV t2, iV u2, iV v2, iV w2]), (4, .cells none false [.isl n1 2 false X, .isl n1 2 false Y, .isl n1 2 false Z, iV p, iV q, iV r, iV s, iV t, iV u, iV v, iV w'])] (.isl len sz false hC) 6) := by
  obtain ⟨g24, g25, g26, g27, _⟩ := h
  simp only at g24 g25 g26 g27
  rw [← updT_self g24, ← updT_self g25, ← updT_self g26, ← updT_self g27]
  have hz : O.cmp .neq 10 0 = true := by subst hO; rfl
  have hy : O.cmp .eql 10 10 = true := by subst hO; rfl
  have hw : O.cmp .eql 0 0 = true := by subst hO; rfl
  refine SW.seq ?_
  refine SW.seqRun tok hO (by cbv <;> rfl) (by trivial) ?_
  refine SW.condS (by cbv <;> rfl) (fun _ => ?_) (fun h => absurd (show true = false from hz.symm.trans h) (by decide))
  refine SW.seqRun tok hO (by cbv <;> rfl) (by trivial) ?_
  refine OpsW.splitG (by cbv <;> rfl) (fun _ => ?_) (fun h => absurd (show true = false from hy.symm.trans h) (by decide))
  refine OpsW.run tok hO (by cbv <;> rfl) (by trivial) ?_
  refine OpsW.splitG (by cbv <;> rfl) (fun _ => ?_) (fun h => absurd (show true = false from hw.symm.trans h) (by decide))
  refine OpsW.run tok hO (by cbv <;> rfl) (by trivial) ?_
  refine OpsW.callP haw (by cbv <;> rfl) ?_
  refine OpsW.run tok hO (by cbv <;> rfl) (by trivial) ?_
  exact SW.ret ⟨_, _, rfl, rfl, Eqv.refl _⟩
set_option maxHeartbeats 8000000 in
theorem mo_16c (haw : Pure Try.prog 17 [] (.lit (.bool true))) (d : DayD) (k w lo hi : Int) (len sz : Nat) (hC : Nat → Nat → AV) (k0 N : Int) (g : Nat → AV) (O : Ar) (hO : O = std) (n1 : Nat) (X Y Z : Nat → Nat → AV) (p q r s t u v w' : Int)(n2 : Nat) (X2 Y2 Z2 : Nat → Nat → AV) (p2 q2 r2 s2 t2 u2 v2 w2 : Int) (a2 : AV) (h : AllP (fun p => g p.1 = p.2) [(24, nl3), (25, iV 10), (26, a2), (27, iV 10)]) :
    SW Try.prog none (restC 16 (bodyF Try.f10)) (retQ T Try.f10 (fun v st' => Eqv (frz st'.h (fun _ => true) 3 v) (.lit (.bool true)))) ⟨⟨195, g⟩, []⟩ (moS d [iV k, iV w, iV lo, iV hi] [(5, .cells none false [.isl n2 2 false X2, .isl n2 2 false Y2, .isl n2 2 false Z2, iV p2, iV q2, iV r2, iV s2, iV t2, iV u2, iV v2, iV w2]), (4, .cells none false [.isl n1 2 false X, .isl n1 2 false Y, .isl n1 2 false Z, iV p, iV q, iV r, iV s, iV t, iV u, iV v, iV w'])] (.isl len sz false hC) 6) := by
  obtain ⟨g24, g25, g26, g27, _⟩ := h
  simp only at g24 g25 g26 g27
  rw [← updT_self g24, ← updT_self g25, ← updT_self g26, ← updT_self g27]
  have hz : O.cmp .neq 10 0 = true := by subst hO; rfl
  have hy : O.cmp .eql 10 10 = true := by subst hO; rfl
  have hw : O.cmp .eql 10 0 = false := by subst hO; rfl
  have hv : O.cmp .eql 10 10 = true := hy
  refine SW.seq ?_
  refine SW.seqRun tok hO (by cbv <;> rfl) (by trivial) ?_
  refine SW.condS (by cbv <;> rfl) (fun _ => ?_) (fun h => absurd (show true = false from hz.symm.trans h) (by decide))
  refine SW.seqRun tok hO (by cbv <;> rfl) (by trivial) ?_
  refine OpsW.splitG (by cbv <;> rfl) (fun _ => ?_) (fun h => absurd (show true = false from hy.symm.trans h) (by decide))
  refine OpsW.run tok hO (by cbv <;> rfl) (by trivial) ?_
  refine OpsW.splitG (by cbv <;> rfl) (fun h => absurd (show false = true from hw.symm.trans h) (by decide)) (fun _ => ?_)
  refine OpsW.run tok hO (by cbv <;> rfl) (by trivial) ?_
  refine OpsW.splitG (by cbv <;> rfl) (fun _ => ?_) (fun h => absurd (show true = false from hv.symm.trans h) (by decide))
  refine OpsW.run tok hO (by cbv <;> rfl) (by trivial) ?_
  refine OpsW.callP haw (by cbv <;> rfl) ?_
  refine OpsW.run tok hO (by cbv <;> rfl) (by trivial) ?_
  exact SW.ret ⟨_, _, rfl, rfl, Eqv.refl _⟩
end Go.Fz
namespace Go.Fz
open Go.Proofs
set_option maxRecDepth 100000
end Go.Fz
namespace Go.Fz
open Go.Proofs
set_option maxRecDepth 100000
theorem bounds_two {A B : DayD} (hl : Alike A B) (sA : A.small) (sB : B.small) (cA : A.check = 0) (cB : B.check = 0) (hn : A.nw < 1000) (hsub : ∀ f, f ∈ A.seen.outs → f ∈ B.seen.outs) (hA : A.seen.outs ≠ []) (hB : B.seen.outs ≠ []) :
    ∃ (X Y Z : Nat → Nat → AV) (p q r s t u v w : Int) (X2 Y2 Z2 : Nat → Nat → AV) (p2 q2 r2 s2 t2 u2 v2 w2 : Int), Pure Try.prog 18 [dayV A] (.tup [.agg [.isl A.nw 2 false X, .isl A.nw 2 false Y, .isl A.nw 2 false Z, iV p, iV q, iV r, iV s, iV t, iV u, iV v, iV w], iV 0]) ∧
      Pure Try.prog 18 [dayV B] (.tup [.agg [.isl B.nw 2 false X2, .isl B.nw 2 false Y2, .isl B.nw 2 false Z2, iV p2, iV q2, iV r2, iV s2, iV t2, iV u2, iV v2, iV w2], iV 0]) ∧
      Pure Try.prog 48 [.agg [.isl A.nw 2 false X, .isl A.nw 2 false Y, .isl A.nw 2 false Z, iV p, iV q, iV r, iV s, iV t, iV u, iV v, iV w], .agg [.isl B.nw 2 false X2, .isl B.nw 2 false Y2, .isl B.nw 2 false Z2, iV p2, iV q2, iV r2, iV s2, iV t2, iV u2, iV v2, iV w2]] (.lit (.bool true)) :=
  ⟨_, _, _, _, _, _, _, _, _, _, _, _, _, _, _, _, _, _, _, _, _, _, boundsV_ok A sA cA hA, boundsV_ok B sB cB hB, narrow_ok hl hn hsub hA⟩
theorem fewest_more {A B : DayD} (hl : Alike A B) (sA : A.small) (sB : B.small) (cA : A.check = 0) (cB : B.check = 0) (hn : A.nw ≤ 5) (hsub : ∀ f, f ∈ A.seen.outs → f ∈ B.seen.outs) (hA : A.seen.outs ≠ []) (hB : B.seen.outs ≠ []) :
    (∃ n m f f', m ≤ n ∧ n < 1000 ∧ Pure Try.prog 27 [dayV B] (.tup [intsV n false f, iV 0]) ∧ Pure Try.prog 27 [dayV A] (.tup [intsV m false f', iV 0])) ∨
    (∃ e a, (e = 0 ∨ e = 10) ∧ Below 0 a ∧ Pure Try.prog 27 [dayV B] (.tup [nl3, iV 10]) ∧ Pure Try.prog 27 [dayV A] (.tup [a, iV e])) := by
  have eB := fewestP_ok B sB cB hB
  have eA := fewestP_ok A sA cA hA
  have hbel := fewV_below (A.setQ A.seen.outs) A.nw
  have hE : fewE (A.setQ A.seen.outs) A.nw = 0 ∨ fewE (A.setQ A.seen.outs) A.nw = 10 := by
    unfold fewE; split
    · exact .inl rfl
    · exact .inr rfl
  cases hf : (risL B.nw).find? (B.setQ B.seen.outs) with
  | none =>
    have h1 : fewV (B.setQ B.seen.outs) B.nw = nl3 := by unfold fewV; rw [hf]
    have h2 : fewE (B.setQ B.seen.outs) B.nw = 10 := by unfold fewE; rw [hf]
    rw [h1, h2] at eB
    exact .inr ⟨_, _, hE, hbel, eB, eA⟩
  | some l =>
    have h1 : fewV (B.setQ B.seen.outs) B.nw = lsV l := by unfold fewV; rw [hf]
    have h2 : fewE (B.setQ B.seen.outs) B.nw = 0 := by unfold fewE; rw [hf]
    rw [h1, h2] at eB
    obtain ⟨il, ql⟩ := find_in hf
    rw [← hl.nw] at il
    have qA := set_sub hl hsub l ql
    obtain ⟨m, hm⟩ := find_ex il qA
    have h3 : fewV (A.setQ A.seen.outs) A.nw = lsV m := by unfold fewV; rw [hm]
    have h4 : fewE (A.setQ A.seen.outs) A.nw = 0 := by unfold fewE; rw [hm]
    rw [h3, h4] at eA
    exact .inl ⟨l.length, m.length, _, _, find_short hn hm il qA, by have := risL_len il; omega, eB, eA⟩
theorem bounds_none {d : DayD} (hs : d.small) (hc : d.check = 0) (ho : d.seen.outs = []) : ∃ (n : Nat) (X Y Z : Nat → Nat → AV) (p q r s t u v w : Int), Pure Try.prog 18 [dayV d] (.tup [.agg [.isl n 2 false X, .isl n 2 false Y, .isl n 2 false Z, iV p, iV q, iV r, iV s, iV t, iV u, iV v, iV w], iV 11]) := by
  have h := boundsP_ok d hs hc
  rw [show d.bndR = .agg bnd0 from if_pos ho, show d.bndE = 11 from if_pos ho] at h
  have hg : ∀ i k : Nat, (fun _ _ : Nat => iV 0) i k = iV 0 := fun _ _ => rfl
  exact ⟨0, fun _ _ => iV 0, fun _ _ => iV 0, fun _ _ => iV 0, _, _, _, _, _, _, _, _, h.res (Eqv.tup (.cons (Eqv.agg (.cons Eqv.nil (.cons Eqv.nil (.cons Eqv.nil (.cons (Eqv.refl _) (.cons (Eqv.refl _) (.cons (Eqv.refl _) (.cons (Eqv.refl _) (.cons (Eqv.refl _) (.cons (Eqv.refl _) (.cons (Eqv.refl _) (.cons (Eqv.refl _) .nil)))))))))))) (.cons (Eqv.refl _) .nil)))⟩
theorem bounds_any {d : DayD} (hs : d.small) (hc : d.check = 0) : ∃ (n : Nat) (X Y Z : Nat → Nat → AV) (p q r s t u v w e : Int), (e = 0 ∨ e = 11) ∧ Pure Try.prog 18 [dayV d] (.tup [.agg [.isl n 2 false X, .isl n 2 false Y, .isl n 2 false Z, iV p, iV q, iV r, iV s, iV t, iV u, iV v, iV w], iV e]) := by
  by_cases ho : d.seen.outs = []
  · obtain ⟨n, X, Y, Z, p, q, r, s, t, u, v, w, h⟩ := bounds_none hs hc ho
    exact ⟨n, X, Y, Z, p, q, r, s, t, u, v, w, 11, .inr rfl, h⟩
  · obtain ⟨X, Y, Z, p, q, r, s, t, u, v, w, h⟩ := bounds_some d hs hc ho
    exact ⟨_, X, Y, Z, p, q, r, s, t, u, v, w, 0, .inl rfl, h⟩
def moD (j : Nat) : Bool := Nat.beq j 3
set_option maxHeartbeats 64000000 in
theorem bunchMore_ok (haw : Pure Try.prog 17 [] (.lit (.bool true))) (d : DayD) (k w lo hi x0 x1 : Int) (h00 : 0 ≤ x0) (h01 : x0 ≤ 255) (h10 : 0 ≤ x1) (h11 : x1 ≤ 255) (hnc : d.nc < 1048576) : Pure Try.prog 10 [dayV d, .agg [iV k, iV w, iV lo, iV hi], .lit (.int .u8 x0), .lit (.int .u8 x1)] (.lit (.bool true)) := by
  obtain ⟨O, hO⟩ : ∃ O : Ar, O = std := ⟨_, rfl⟩
  refine pure_of_body tok 3 Try.func10 en10 rfl ⟨dayV_below d, Below.agg (AllB.ok ⟨Below.lit, Below.lit, Below.lit, Below.lit, trivial⟩), Below.lit, Below.lit, trivial⟩ Below.lit ?_
  refine SW.seqRun tok hO (by cbv <;> rfl) (by trivial) ?_
  refine SW.seqRun tok hO (by cbv <;> rfl) (by trivial) ?_
  refine SW.seq ((show SW Try.prog none (nthC 2 (bodyF Try.f10)) (midK 195 (moL x0 x1) (moS d [iV k, iV w, iV lo, iV hi] [(3, .cells none false (flatG 4 (cntC (d.plus k w lo hi)) (d.nc + 1)))] (.sl 3 0 (d.nc + 1) 4 false) 4)) _ _ from ?_).mono fun e f st hm => ?_)
  · rcases Nat.eq_zero_or_pos d.nc with h0 | h0
    · have hG1 := (more_flat d k w lo hi).symm
      have hf0 : flatG 4 (cntC d) d.nc = [] := by rw [h0]; rfl
      rw [hf0, List.nil_append] at hG1
      rw [hG1, show d.nc + 1 = 1 by omega]
      exact more_s2z d k w lo hi x0 x1 h0 _ ⟨rfl, rfl, rfl, rfl, rfl, trivial⟩
    · exact more_s2 d k w lo hi x0 x1 h0 hnc _ ⟨rfl, rfl, rfl, rfl, rfl, trivial⟩
  obtain ⟨rfl, g, rfl, ⟨g2, g3, g4, g5, g9, _⟩, rfl⟩ := hm
  simp only at g2 g3 g4 g5 g9
  obtain ⟨GX, hGX⟩ : ∃ G, G = flatG 4 (cntC (d.plus k w lo hi)) (d.nc + 1) := ⟨_, rfl⟩
  rw [← hGX]
  refine SW.freezeZ moD 3 (by rfl) ?_
  have hlX : (d.nc + 1) * 4 ≤ GX.length := by rw [hGX, flatG_length]; omega
  obtain ⟨H, hH⟩ : ∃ H, H = (moS d [iV k, iV w, iV lo, iV hi] [(3, .cells none false GX)] (.sl 3 0 (d.nc + 1) 4 false) 4).h := ⟨_, rfl⟩
  have hH3 : H.get 3 = some (.cells none false GX) := by rw [hH]; rfl
  obtain ⟨XC, hX, hXe, hXf⟩ : ∃ X, frz H moD 3 (.sl 3 0 (d.nc + 1) 4 false) = X ∧ Eqv X (cntsV (d.plus k w lo hi)) ∧ ∃ len sz h, X = .isl len sz false h :=
    ⟨_, rfl, by
      rw [frz_slE (fm := none) (G := GX) rfl hH3 hlX, hGX]
      exact Eqv.isl rfl fun i j hi hj => Eqv.of (frz_flat hi hj (by unfold cntC; split <;> rfl)), _, _, _, frz_slE (fm := none) (G := GX) rfl hH3 hlX⟩
  show SW _ _ _ _ ⟨⟨195, fun i => frz (moS d [iV k, iV w, iV lo, iV hi] [(3, .cells none false GX)] (.sl 3 0 (d.nc + 1) 4 false) 4).h moD 3 (g i)⟩, []⟩ (moS d [iV k, iV w, iV lo, iV hi] [] (frz (moS d [iV k, iV w, iV lo, iV hi] [(3, .cells none false GX)] (.sl 3 0 (d.nc + 1) 4 false) 4).h moD 3 (.sl 3 0 (d.nc + 1) 4 false)) 4)
  rw [← hH, hX]
  obtain ⟨len, sz, hC, rfl⟩ := hXf
  clear hX
  have f2 : frz H moD 3 (g 2) = .lit (.int .u8 x0) := by rw [g2]; rfl
  have f3 : frz H moD 3 (g 3) = .lit (.int .u8 x1) := by rw [g3]; rfl
  have f4 : frz H moD 3 (g 4) = .ptr 0 0 := by rw [g4]; rfl
  have f5 : frz H moD 3 (g 5) = .ptr 1 0 := by rw [g5]; rfl
  have f9 : frz H moD 3 (g 9) = .ptr 2 0 := by rw [g9]; rfl
  clear g2 g3 g4 g5 g9
  obtain ⟨g', hg'⟩ : ∃ g' : Nat → AV, g' = fun i => frz H moD 3 (g i) := ⟨_, rfl⟩
  have g2 : g' 2 = .lit (.int .u8 x0) := by rw [hg']; exact f2
  have g3 : g' 3 = .lit (.int .u8 x1) := by rw [hg']; exact f3
  have g4 : g' 4 = .ptr 0 0 := by rw [hg']; exact f4
  have g5 : g' 5 = .ptr 1 0 := by rw [hg']; exact f5
  have g9 : g' 9 = .ptr 2 0 := by rw [hg']; exact f9
  rw [← hg']
  clear hg' f2 f3 f4 f5 f9
  rw [← updT_self g2, ← updT_self g3, ← updT_self g4, ← updT_self g5, ← updT_self g9]
  show SW _ _ _ _ _ _
  have hV : Eqvs [.agg [iV d.hand, iV d.flat, womsV d, lotsV d, .isl len sz false hC]] [dayV (d.plus k w lo hi)] := .cons (Eqv.agg (.cons (Eqv.refl _) (.cons (Eqv.refl _) (.cons (Eqv.refl _) (.cons (Eqv.refl _) (.cons hXe .nil)))))) .nil
  have hrd := ready_ok d
  have hrx := Pure.eqv (ready_ok (d.plus k w lo hi)) hV
  generalize hRd : d.readyB = rd at hrd
  generalize hRx : (d.plus k w lo hi).readyB = rx at hrx
  refine SW.seq ?_
  refine SW.seqRun tok hO (by cbv <;> rfl) (by trivial) ?_
  refine OpsW.callP hrd (by cbv <;> rfl) ?_
  have hnd : O.not rd = !rd := by subst hO; rfl
  have hnx : O.not rx = !rx := by subst hO; rfl
  refine OpsW.run tok hO (by cbv <;> rfl) (by trivial) ?_
  refine OpsW.splitG (by cbv <;> rfl) (fun h1 => ?_) (fun h1 => ?_) <;> refine OpsW.run tok hO (by cbv <;> rfl) (by trivial) ?_
  · refine SW.condS (by cbv <;> rfl) (fun h2 => ?_) (fun h2 => absurd h2 (by decide))
    refine SW.seqRun tok hO (by cbv <;> rfl) (by trivial) ?_
    refine OpsW.callP haw (by cbv <;> rfl) ?_
    refine OpsW.run tok hO (by cbv <;> rfl) (by trivial) ?_
    exact SW.ret ⟨_, _, rfl, rfl, Eqv.refl _⟩
  refine OpsW.callP hrx (by cbv <;> rfl) ?_
  refine OpsW.run tok hO (by cbv <;> rfl) (by trivial) ?_
  refine SW.condS (by cbv <;> rfl) (fun h2 => ?_) (fun h2 => SW.skip ?_)
  · skip
    refine SW.seqRun tok hO (by cbv <;> rfl) (by trivial) ?_
    refine OpsW.callP haw (by cbv <;> rfl) ?_
    refine OpsW.run tok hO (by cbv <;> rfl) (by trivial) ?_
    exact SW.ret ⟨_, _, rfl, rfl, Eqv.refl _⟩
  have hR1 : rd = true := by have := hnd.symm.trans h1; simpa using this
  have hR2 : rx = true := by have := hnx.symm.trans h2; simpa using this
  rw [hR1] at hRd
  rw [hR2] at hRx
  obtain ⟨gd, _⟩ := ready_good hRd
  obtain ⟨gx, _⟩ := ready_good hRx
  have hc : d.check = 0 := (check_eq d).trans (by simp only [DayD.readyB, Bool.and_eq_true, decide_eq_true_eq] at hRd; exact hRd.2)
  have hcx : (d.plus k w lo hi).check = 0 := (check_eq _).trans (by simp only [DayD.readyB, Bool.and_eq_true, decide_eq_true_eq] at hRx; exact hRx.2)
  have hnw := gd.nw
  have hnl := gd.nl
  have hn1 : d.nc + 1 ≤ 5 := gx.nc
  have hpos := gd.pos
  have hsm : d.small := ⟨by omega, by omega, by omega⟩
  have hsx : (d.plus k w lo hi).small := ⟨by show d.nw < _; omega, by show d.nl < _; omega, by show d.nc + 1 < _; omega⟩
  have hday := day_ok d (by omega) (by omega) (by omega)
  have hdayx := Pure.eqv (day_ok (d.plus k w lo hi) (by show d.nw ≤ 6; omega) (by show d.nl ≤ 6; omega) (by show d.nc + 1 ≤ 7; omega)) hV
  have hsub := plus_sub d k w lo hi hn1
  have hlv := leaveA_ok d hsm hc
  have hlvx := leaveA_ok _ hsx hcx
  obtain ⟨l, hl, hlV⟩ := leave_find hc (by omega)
  obtain ⟨m, hm, hmV⟩ := leave_find hcx hn1
  have hLM := plus_leave d k w lo hi hn1 hl hm
  have hm5 := risL_len (find_in hm).1
  rw [hlV] at hlv
  rw [hmV] at hlvx
  have hm5' : m.length ≤ d.nc + 1 := hm5
  rw [show lsV l = intsV l.length false (lI l) from rfl] at hlv
  rw [show lsV m = intsV m.length false (lI m) from rfl] at hlvx
  clear hl hm hlV hmV hm5
  generalize lI l = fl at hlv
  generalize lI m = fm at hlvx
  generalize l.length = LL at hlv hLM
  generalize m.length = LM at hlvx hLM hm5'
  obtain ⟨k0, hk0, hK⟩ := pick_in hO h00 h01 hpos (by omega)
  obtain ⟨m1, m2⟩ := tmod_in (q := x1) (z := 61) h10 (by omega)
  have hN : O.bin .rem .i64 (O.conv .i64 x1) 61 = x1.tmod 61 := by
    subst hO
    show (wrp .i64 x1).tmod 61 = _
    rw [wrp_in (by simp only [IntKind.lo]; omega) (by simp only [IntKind.hi]; omega)]
  generalize x1.tmod 61 = N at hN m1 m2
  have hw : wrp .i64 ((LL : Int) + 1) = (LL : Int) + 1 := wrp_in (by simp only [IntKind.lo]; omega) (by simp only [IntKind.hi]; omega)
  refine SW.seq ((show SW Try.prog none _ (midK 195 [(4, .ptr 0 0), (9, .ptr 2 0), (10, iV k0), (11, iV N)] (moS d [iV k, iV w, iV lo, iV hi] [] (.isl len sz false hC) 4)) _ _ from ?_).mono fun e f st hm => ?_)
  · refine SW.run tok hO (by cbv <;> rfl) ?_ ?_
    · have h9 : Int.ofNat d.nw ≠ 0 := by
        have : (d.nw : Int) ≠ 0 := by omega
        exact this
      first
        | exact ⟨h9, (by decide : (61 : Int) ≠ 0)⟩
        | exact h9
        | exact ⟨(by decide : (61 : Int) ≠ 0), h9⟩
        | exact ⟨h9, by decide, trivial⟩
    · exact ⟨rfl, _, rfl, ⟨rfl, rfl, congrArg (fun z => AV.lit (.int .i64 z)) hK, congrArg (fun z => AV.lit (.int .i64 z)) hN, trivial⟩, rfl⟩
  clear g2 g3 g4 g5 g9
  obtain ⟨rfl, g, rfl, hh, rfl⟩ := hm
  show SW _ _ _ _ _ _
  refine SW.seq ((mo_5 d k w lo hi len sz hC k0 N _ O hO _ hday _ _ hlv hh).mono fun e f st hm => ?_)
  clear hh
  obtain ⟨rfl, g, rfl, hh, rfl⟩ := hm
  show SW _ _ _ _ _ _
  refine SW.seq ((mo_6 d k w lo hi len sz hC k0 N _ O hO _ hdayx _ _ _ _ hlvx hh).mono fun e f st hm => ?_)
  clear hh
  obtain ⟨rfl, g, rfl, hh, rfl⟩ := hm
  show SW _ _ _ _ _ _
  by_cases hox : (d.plus k w lo hi).seen.outs = []
  · obtain ⟨n2, X2, Y2, Z2, p2, q2, r2, s2, t2, u2, v2, w2, hbdx⟩ := bounds_none hsx hcx hox
    obtain ⟨n1, X, Y, Z, p, q, r, s, t, u, v, w', e1, he1, hbd⟩ := bounds_any hsm hc
    refine SW.seq ((mo_7 d k w lo hi len sz hC k0 N _ O hO _ hday _ _ _ _ _ _ _ _ _ _ _ _ _ _ _ _ _ hbd hh).mono fun e f st hm => ?_)
    clear hh
    obtain ⟨rfl, g, rfl, hh, rfl⟩ := hm
    show SW _ _ _ _ _ _
    refine SW.seq ((mo_8 d k w lo hi len sz hC k0 N _ O hO _ hdayx _ _ _ _ _ _ _ _ _ _ _ _ _ _ _ _ _ _ _ _ _ _ _ _ _ _ _ _ _ _ hbdx hh).mono fun e f st hm => ?_)
    clear hh
    obtain ⟨rfl, g, rfl, hh, rfl⟩ := hm
    show SW _ _ _ _ _ _
    rcases he1 with rfl | rfl
    · refine SW.seq ((mo_9a d k w lo hi len sz hC k0 N _ O hO _ _ _ _ _ _ _ _ _ _ _ _ _ _ _ _ _ _ _ _ _ _ _ _ _ _ _ _ _ hLM (Nat.lt_of_le_of_lt (Nat.le_trans hLM.1 (Nat.le_trans hm5' hn1)) (by decide)) hh).mono fun e f st hm => ?_)
      clear hh
      obtain ⟨rfl, g, rfl, hh, rfl⟩ := hm
      show SW _ _ _ _ _ _
      exact mo_10e haw d k w lo hi len sz hC k0 N _ O hO _ _ _ _ _ _ _ _ _ _ _ _ _ _ _ _ _ _ _ _ _ _ _ _ _ hh
    · refine SW.seq ((mo_9b d k w lo hi len sz hC k0 N _ O hO _ _ _ _ _ _ _ _ _ _ _ _ _ _ _ _ _ _ _ _ _ _ _ _ _ _ _ _ _ hLM (Nat.lt_of_le_of_lt (Nat.le_trans hLM.1 (Nat.le_trans hm5' hn1)) (by decide)) hh).mono fun e f st hm => ?_)
      clear hh
      obtain ⟨rfl, g, rfl, hh, rfl⟩ := hm
      show SW _ _ _ _ _ _
      exact mo_10e haw d k w lo hi len sz hC k0 N _ O hO _ _ _ _ _ _ _ _ _ _ _ _ _ _ _ _ _ _ _ _ _ _ _ _ _ hh
  have hod : d.seen.outs ≠ [] := fun e => by
    obtain ⟨f, hf⟩ := List.exists_mem_of_ne_nil _ hox
    have := hsub f hf
    rw [e] at this; cases this
  obtain ⟨X, Y, Z, p, q, r1, s, t, u, v, w', X2, Y2, Z2, p2, q2, r2, s2, t2, u2, v2, w2, hbdx, hbd, hnar⟩ := bounds_two (plus_alike d k w lo hi) hsx hsm hcx hc (by show d.nw < 1000; omega) hsub hox hod
  have hth := thicker_ok d hsm hc k0 hk0 N (by omega)
  have hthx := thicker_ok _ hsx hcx k0 hk0 N (by omega)
  rw [show d.thickE = 0 from if_neg hod] at hth
  rw [show (d.plus k w lo hi).thickE = 0 from if_neg hox] at hthx
  have huv := thick_sub hsub hox k0 N
  have hfew := fewest_more (plus_alike d k w lo hi) hsx hsm hcx hc (by show d.nw ≤ 5; omega) hsub hox hod
  refine SW.seq ((mo_7 d k w lo hi len sz hC k0 N _ O hO _ hday _ _ _ _ _ _ _ _ _ _ _ _ _ _ _ _ _ hbd hh).mono fun e f st hm => ?_)
  clear hh
  obtain ⟨rfl, g, rfl, hh, rfl⟩ := hm
  show SW _ _ _ _ _ _
  refine SW.seq ((mo_8 d k w lo hi len sz hC k0 N _ O hO _ hdayx _ _ _ _ _ _ _ _ _ _ _ _ _ _ _ _ _ _ _ _ _ _ _ _ _ _ _ _ _ _ hbdx hh).mono fun e f st hm => ?_)
  clear hh
  obtain ⟨rfl, g, rfl, hh, rfl⟩ := hm
  show SW _ _ _ _ _ _
  refine SW.seq ((mo_9a d k w lo hi len sz hC k0 N _ O hO _ _ _ _ _ _ _ _ _ _ _ _ _ _ _ _ _ _ _ _ _ _ _ _ _ _ _ _ _ hLM (Nat.lt_of_le_of_lt (Nat.le_trans hLM.1 (Nat.le_trans hm5' hn1)) (by decide)) hh).mono fun e f st hm => ?_)
  clear hh
  obtain ⟨rfl, g, rfl, hh, rfl⟩ := hm
  show SW _ _ _ _ _ _
  refine SW.seq ((mo_10 d k w lo hi len sz hC k0 N _ O hO _ _ _ _ _ _ _ _ _ _ _ _ _ _ _ _ _ _ _ _ _ _ _ _ _ hh).mono fun e f st hm => ?_)
  clear hh
  obtain ⟨rfl, g, rfl, hh, rfl⟩ := hm
  show SW _ _ _ _ _ _
  refine SW.seq ((mo_11 d k w lo hi len sz hC k0 N _ O hO _ hday _ _ _ _ _ _ _ _ _ _ _ _ _ _ _ _ _ _ _ _ _ _ _ _ _ _ hth hh).mono fun e f st hm => ?_)
  clear hh
  obtain ⟨rfl, g, rfl, hh, rfl⟩ := hm
  show SW _ _ _ _ _ _
  refine SW.seq ((mo_12 d k w lo hi len sz hC k0 N _ O hO _ hdayx _ _ _ _ _ _ _ _ _ _ _ _ _ _ _ _ _ _ _ _ _ _ _ _ _ _ _ hthx hh).mono fun e f st hm => ?_)
  clear hh
  obtain ⟨rfl, g, rfl, hh, rfl⟩ := hm
  show SW _ _ _ _ _ _
  rcases hfew with ⟨n, m, f1, f2, hmn, hn, hfe, hfex⟩ | ⟨e, a, rfl | rfl, ha, hfe, hfex⟩
  · refine SW.seq ((mo_13 d k w lo hi len sz hC k0 N _ O hO _ hday _ _ _ _ _ _ _ _ _ _ _ _ _ _ _ _ _ _ _ _ _ _ _ _ _ _ _ _ _ hfe ⟨hh.1, hh.2.1, hh.2.2.2.2.1, hh.2.2.2.2.2.1, hh.2.2.2.2.2.2.1, hh.2.2.2.2.2.2.2⟩).mono fun e f st hm => ?_)
    clear hh
    obtain ⟨rfl, g, rfl, hh, rfl⟩ := hm
    show SW _ _ _ _ _ _
    refine SW.seq ((mo_14 d k w lo hi len sz hC k0 N _ O hO _ hdayx _ _ _ _ _ _ _ _ _ _ _ _ _ _ _ _ _ _ _ _ _ _ _ _ _ _ _ _ _ _ _ hfex hh).mono fun e f st hm => ?_)
    clear hh
    obtain ⟨rfl, g, rfl, hh, rfl⟩ := hm
    show SW _ _ _ _ _ _
    refine SW.seq ((mo_15 d k w lo hi len sz hC k0 N _ O hO _ _ _ _ _ _ _ _ _ _ _ _ _ _ _ _ _ _ _ _ _ _ _ _ _ _ huv _ _ _ _ hnar hh.2.2).mono fun e f st hm => ?_)
    clear hh
    obtain ⟨rfl, g, rfl, hh, rfl⟩ := hm
    show SW _ _ _ _ _ _
    exact mo_16a haw d k w lo hi len sz hC k0 N _ O hO _ _ _ _ _ _ _ _ _ _ _ _ _ _ _ _ _ _ _ _ _ _ _ _ n m f1 f2 hmn hh
  · refine SW.seq ((mo_13 d k w lo hi len sz hC k0 N _ O hO _ hday _ _ _ _ _ _ _ _ _ _ _ _ _ _ _ _ _ _ _ _ _ _ _ _ _ _ _ _ _ hfe ⟨hh.1, hh.2.1, hh.2.2.2.2.1, hh.2.2.2.2.2.1, hh.2.2.2.2.2.2.1, hh.2.2.2.2.2.2.2⟩).mono fun e f st hm => ?_)
    clear hh
    obtain ⟨rfl, g, rfl, hh, rfl⟩ := hm
    show SW _ _ _ _ _ _
    refine SW.seq ((mo_14 d k w lo hi len sz hC k0 N _ O hO _ hdayx _ _ _ _ _ _ _ _ _ _ _ _ _ _ _ _ _ _ _ _ _ _ _ _ _ _ _ _ _ _ _ hfex hh).mono fun e f st hm => ?_)
    clear hh
    obtain ⟨rfl, g, rfl, hh, rfl⟩ := hm
    show SW _ _ _ _ _ _
    refine SW.seq ((mo_15 d k w lo hi len sz hC k0 N _ O hO _ _ _ _ _ _ _ _ _ _ _ _ _ _ _ _ _ _ _ _ _ _ _ _ _ _ huv _ _ _ _ hnar hh.2.2).mono fun e f st hm => ?_)
    clear hh
    obtain ⟨rfl, g, rfl, hh, rfl⟩ := hm
    show SW _ _ _ _ _ _
    exact mo_16b haw d k w lo hi len sz hC k0 N _ O hO _ _ _ _ _ _ _ _ _ _ _ _ _ _ _ _ _ _ _ _ _ _ _ _ a hh
  · refine SW.seq ((mo_13 d k w lo hi len sz hC k0 N _ O hO _ hday _ _ _ _ _ _ _ _ _ _ _ _ _ _ _ _ _ _ _ _ _ _ _ _ _ _ _ _ _ hfe ⟨hh.1, hh.2.1, hh.2.2.2.2.1, hh.2.2.2.2.2.1, hh.2.2.2.2.2.2.1, hh.2.2.2.2.2.2.2⟩).mono fun e f st hm => ?_)
    clear hh
    obtain ⟨rfl, g, rfl, hh, rfl⟩ := hm
    show SW _ _ _ _ _ _
    refine SW.seq ((mo_14 d k w lo hi len sz hC k0 N _ O hO _ hdayx _ _ _ _ _ _ _ _ _ _ _ _ _ _ _ _ _ _ _ _ _ _ _ _ _ _ _ _ _ _ _ hfex hh).mono fun e f st hm => ?_)
    clear hh
    obtain ⟨rfl, g, rfl, hh, rfl⟩ := hm
    show SW _ _ _ _ _ _
    refine SW.seq ((mo_15 d k w lo hi len sz hC k0 N _ O hO _ _ _ _ _ _ _ _ _ _ _ _ _ _ _ _ _ _ _ _ _ _ _ _ _ _ huv _ _ _ _ hnar hh.2.2).mono fun e f st hm => ?_)
    clear hh
    obtain ⟨rfl, g, rfl, hh, rfl⟩ := hm
    show SW _ _ _ _ _ _
    exact mo_16c haw d k w lo hi len sz hC k0 N _ O hO _ _ _ _ _ _ _ _ _ _ _ _ _ _ _ _ _ _ _ _ _ _ _ _ a hh
end Go.Fz
