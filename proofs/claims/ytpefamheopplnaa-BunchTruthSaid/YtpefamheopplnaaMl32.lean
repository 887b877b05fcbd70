/- Own work of the verifier of watercress: FzTr9. -/
import Derived.Test.YtpefamheopplnaaMl31
import Derived.Test.YtpefamheopplnaaMl15
import Derived.Test.YtpefamheopplnaaMl25
import Derived.Test.YtpefamheopplnaaMl21
set_option linter.unusedVariables false
set_option linter.unusedSimpArgs false
namespace Go.Fz
open Go.Proofs
set_option maxRecDepth 100000
set_option linter.unusedVariables false
set_option maxHeartbeats 16000000 in
theorem tr_10 (d x : DayD) (nw nl : Nat) (fe st bu le lo0 hi0 lo1 hi1 lo2 hi2 zf : Nat → Int) (q0 q1 q2 q3 p0 p1 p2 p3 p4 p5 p6 p7 : Int) (g : Nat → AV) (O : Ar) (hO : O = std) (hnw : nw ≤ 4) (ST : Nat → Int) (hr : ∀ w : Nat, w < nw → O.cmp .lss (bu (O.nat (Int.ofNat w))) 0 = false ∧ Pure Try.prog 44 [dayV x, .agg [intsV nw false fe, intsV nl false st], iV (Int.ofNat w)] (iV (ST w)) ∧ O.cmp .neq (O.bin .add .i64 (O.bin .mul .i64 (bu (O.nat (Int.ofNat w))) (fe (O.nat (Int.ofNat w)))) (le (O.nat (Int.ofNat w)))) (ST w) = false ∧
  Pure Try.prog 25 [iV (le (O.nat (Int.ofNat w))), iV 0, iV (O.bin .sub .i64 (fe (O.nat (Int.ofNat w))) 1)] (.lit (.bool true)) ∧ Pure Try.prog 45 [iV (fe (O.nat (Int.ofNat w))), rangeV (lo0 (O.nat (Int.ofNat w))) (hi0 (O.nat (Int.ofNat w)))] (.lit (.bool true)) ∧
  Pure Try.prog 45 [iV (bu (O.nat (Int.ofNat w))), rangeV (lo1 (O.nat (Int.ofNat w))) (hi1 (O.nat (Int.ofNat w)))] (.lit (.bool true)) ∧ Pure Try.prog 45 [iV (le (O.nat (Int.ofNat w))), rangeV (lo2 (O.nat (Int.ofNat w))) (hi2 (O.nat (Int.ofNat w)))] (.lit (.bool true))) (h : AllP (fun p => g p.1 = p.2) [(7, .ptr 1 0), (8, .ptr 2 0), (9, .ptr 3 0), (11, .ptr 4 0), (17, iV (Int.ofNat nw)), (18, iV 0)]) :
    SW Try.prog none (nthC 10 (bodyF Try.f8)) (midK 291 [(7, .ptr 1 0), (8, .ptr 2 0), (9, .ptr 3 0), (11, .ptr 4 0), (17, iV (Int.ofNat nw)), (18, iV (sumN bu nw))] ⟨[(4, .cells none false (bndC nw lo0 hi0 lo1 hi1 lo2 hi2 p0 p1 p2 p3 p4 p5 p6 p7)), (3, .cells none false [intsV nw false bu, intsV nw false le, iV q0, iV q1, iV q2, iV q3]), (2, .cells none false [intsV nw false fe, intsV nl false st]), (1, .cells none false (dayC x)), (0, .cells none false (dayC d))], 5⟩) ⟨⟨291, g⟩, []⟩ ⟨[(4, .cells none false (bndC nw lo0 hi0 lo1 hi1 lo2 hi2 p0 p1 p2 p3 p4 p5 p6 p7)), (3, .cells none false [intsV nw false bu, intsV nw false le, iV q0, iV q1, iV q2, iV q3]), (2, .cells none false [intsV nw false fe, intsV nl false st]), (1, .cells none false (dayC x)), (0, .cells none false (dayC d))], 5⟩ := by
  obtain ⟨g7, g8, g9, g11, g17, g18, _⟩ := h
  simp only at g7 g8 g9 g11 g17 g18
  rw [← updT_self g7, ← updT_self g8, ← updT_self g9, ← updT_self g11, ← updT_self g17, ← updT_self g18]
  refine SW.seqRun tok hO (by cbv <;> rfl) (by trivial) ?_
  refine (SW.block (SW.loopF (fun i : Nat => ⟨⟨291, getT [(7, .ptr 1 0), (8, .ptr 2 0), (9, .ptr 3 0), (11, .ptr 4 0), (17, iV (Int.ofNat nw)), (18, iV (sumN bu i)), (19, iV (Int.ofNat i))]⟩, []⟩) (fun _ => ⟨[(4, .cells none false (bndC nw lo0 hi0 lo1 hi1 lo2 hi2 p0 p1 p2 p3 p4 p5 p6 p7)), (3, .cells none false [intsV nw false bu, intsV nw false le, iV q0, iV q1, iV q2, iV q3]), (2, .cells none false [intsV nw false fe, intsV nl false st]), (1, .cells none false (dayC x)), (0, .cells none false (dayC d))], 5⟩) (fun i => nw - i) (fun i => i ≤ nw) 0 (fun _ => rfl) (Nat.zero_le _) (Weak.by rfl rfl (by simp) (Nat.le_refl _) (Nat.le_refl _) ⟨⟨rfl, .inl rfl⟩, ⟨rfl, .inl rfl⟩, ⟨rfl, .inl rfl⟩, ⟨rfl, .inl rfl⟩, ⟨rfl, .inl rfl⟩, ⟨rfl, .inl rfl⟩, ⟨rfl, .inl rfl⟩, trivial⟩ ⟨⟨rfl, by omega, .inl rfl⟩, ⟨rfl, by omega, .inl rfl⟩, ⟨rfl, by omega, .inl rfl⟩, ⟨rfl, by omega, .inl rfl⟩, ⟨rfl, by omega, .inl rfl⟩, trivial⟩) fun i hi => ?_))
  generalize hacc : sumN bu i = acc
  refine SW.seq ?_
  refine SW.seqRun tok hO (by cbv <;> rfl) (by trivial) ?_
  refine SW.condS (by cbv <;> rfl) (fun h => SW.skip ?_) (fun h => SW.exit ?_)
  · have hlt : i < nw := by subst hO; simpa [std] using h
    have hcj : 0 ≤ Int.ofNat i ∧ Int.ofNat i < (nw : Int) := ⟨Int.natCast_nonneg i, Int.ofNat_lt.2 hlt⟩
    obtain ⟨h0, hst, h1, h2, h3, h4, h5⟩ := hr i hlt
    refine SW.seq (SW.block ?_)
    refine SW.seq ((tr_15 d x nw nl fe st bu le lo0 hi0 lo1 hi1 lo2 hi2 zf q0 q1 q2 q3 p0 p1 p2 p3 p4 p5 p6 p7 _ O hO (ST i) acc i hcj h0 hst h1 h2 h3 h4 h5 ⟨rfl, rfl, rfl, rfl, rfl, rfl, rfl, trivial⟩).mono fun e f st hm => ?_)
    obtain ⟨rfl, g, rfl, ⟨g7, g8, g9, g11, g17, g18, g19, _⟩, rfl⟩ := hm
    simp only at g7 g8 g9 g11 g17 g18 g19
    rw [← updT_self g7, ← updT_self g8, ← updT_self g9, ← updT_self g11, ← updT_self g17, ← updT_self g18, ← updT_self g19]
    refine SW.run tok hO (by cbv <;> rfl) (by repeat (first | exact trivial | exact hcj | refine ⟨?_, ?_⟩)) ?_
    refine SW.run tok hO (by cbv <;> rfl) (by trivial) ?_
    have e : sumN bu (i + 1) = add64 acc (bu i) := by rw [← hacc]; rfl
    refine ⟨i + 1, by omega, by omega, Weak.by rfl rfl (by simp) (Nat.le_refl _) (Nat.le_refl _) ⟨⟨rfl, .inl rfl⟩, ⟨rfl, .inl rfl⟩, ⟨rfl, .inl rfl⟩, ⟨rfl, .inl rfl⟩, ⟨rfl, .inl rfl⟩, ⟨?_, .inl rfl⟩, ⟨inc_ok hO (by omega), .inl rfl⟩, trivial⟩ ⟨⟨rfl, by omega, .inl rfl⟩, ⟨rfl, by omega, .inl rfl⟩, ⟨rfl, by omega, .inl rfl⟩, ⟨rfl, by omega, .inl rfl⟩, ⟨rfl, by omega, .inl rfl⟩, trivial⟩⟩
    rw [e]; subst hO; rfl
  · have hz : i = nw := by
      have : nw ≤ i := by subst hO; simpa [std] using h
      omega
    rw [← hacc, hz]
    exact ⟨rfl, _, rfl, ⟨rfl, rfl, rfl, rfl, rfl, rfl, trivial⟩, rfl⟩
set_option maxHeartbeats 16000000 in
theorem tr_9 (d x : DayD) (nw nl : Nat) (fe st bu le lo0 hi0 lo1 hi1 lo2 hi2 zf : Nat → Int) (q0 q1 q2 q3 p0 p1 p2 p3 p4 p5 p6 p7 : Int) (g : Nat → AV) (O : Ar) (hO : O = std)  (h : AllP (fun p => g p.1 = p.2) [(7, .ptr 1 0), (8, .ptr 2 0), (9, .ptr 3 0), (11, .ptr 4 0), (17, iV (Int.ofNat nw))]) :
    SW Try.prog none (nthC 9 (bodyF Try.f8)) (midK 291 [(7, .ptr 1 0), (8, .ptr 2 0), (9, .ptr 3 0), (11, .ptr 4 0), (17, iV (Int.ofNat nw)), (18, iV 0)] ⟨[(4, .cells none false (bndC nw lo0 hi0 lo1 hi1 lo2 hi2 p0 p1 p2 p3 p4 p5 p6 p7)), (3, .cells none false [intsV nw false bu, intsV nw false le, iV q0, iV q1, iV q2, iV q3]), (2, .cells none false [intsV nw false fe, intsV nl false st]), (1, .cells none false (dayC x)), (0, .cells none false (dayC d))], 5⟩) ⟨⟨291, g⟩, []⟩ ⟨[(4, .cells none false (bndC nw lo0 hi0 lo1 hi1 lo2 hi2 p0 p1 p2 p3 p4 p5 p6 p7)), (3, .cells none false [intsV nw false bu, intsV nw false le, iV q0, iV q1, iV q2, iV q3]), (2, .cells none false [intsV nw false fe, intsV nl false st]), (1, .cells none false (dayC x)), (0, .cells none false (dayC d))], 5⟩ := by
  obtain ⟨g7, g8, g9, g11, g17, _⟩ := h
  simp only at g7 g8 g9 g11 g17
  rw [← updT_self g7, ← updT_self g8, ← updT_self g9, ← updT_self g11, ← updT_self g17]
  refine SW.run tok hO (by cbv <;> rfl) (by trivial) ?_
  exact ⟨rfl, _, rfl, ⟨rfl, rfl, rfl, rfl, rfl, rfl, trivial⟩, rfl⟩
end Go.Fz
