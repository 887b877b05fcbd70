/- Own work of the verifier of watercress: FzB31. -/
import Derived.Test.YtkomalgeigefjaaMb15
set_option linter.unusedVariables false
set_option linter.unusedSimpArgs false
namespace Go.Fz
open Go.Proofs
set_option maxRecDepth 100000
set_option maxHeartbeats 8000000 in
theorem thin_s10 (d : DayD) (t : TruD) (k : Nat) (g : Nat → AV) (O : Ar) (hO : O = std) (XA XB : AV) (bA lA : Nat → Int) (hA oA fA sA : Int) (bB lB : Nat → Int) (hB oB fB sB : Int) (bC lC : Nat → Int) (hC oC fC sC : Int) (h : AllP (fun p => g p.1 = p.2) [(4, .ptr 0 0), (10, .lit (.int .i64 (Int.ofNat k))), (15, .ptr 6 0), (16, iV 0), (17, .ptr 7 0), (18, iV 0), (19, .ptr 8 0), (20, iV 0)]) :
    SW Try.prog none (nthC 10 (bodyF Try.f5)) (midT [(4, .ptr 0 0), (10, .lit (.int .i64 (Int.ofNat k))), (15, .ptr 6 0), (17, .ptr 7 0), (19, .ptr 8 0)] ⟨(8, .cells none false (talL d.nw bC lC hC oC fC sC)) :: (7, .cells none false (talL d.nw bB lB hB oB fB sB)) :: (6, .cells none false (talL d.nw bA lA hA oA fA sA)) :: thB d t XA XB, 9⟩) ⟨⟨240, g⟩, []⟩ ⟨(8, .cells none false (talL d.nw bC lC hC oC fC sC)) :: (7, .cells none false (talL d.nw bB lB hB oB fB sB)) :: (6, .cells none false (talL d.nw bA lA hA oA fA sA)) :: thB d t XA XB, 9⟩ := by
  obtain ⟨g4, g10, g15, g16, g17, g18, g19, g20, _⟩ := h
  simp only at g4 g10 g15 g16 g17 g18 g19 g20
  rw [← updT_self g4, ← updT_self g10, ← updT_self g15, ← updT_self g16, ← updT_self g17, ← updT_self g18, ← updT_self g19, ← updT_self g20]
  refine SW.seqRun tok hO (by cbv <;> rfl) (by trivial) ?_
  refine OpsW.splitG (by cbv <;> rfl) (fun h1 => ?_) (fun h1 => ?_)
  · exfalso; subst hO; simp [std] at h1
  refine OpsW.run tok hO (by cbv <;> rfl) (by trivial) ?_
  refine OpsW.splitG (by cbv <;> rfl) (fun h1 => ?_) (fun h1 => ?_)
  · exfalso; subst hO; simp [std] at h1
  refine OpsW.run tok hO (by cbv <;> rfl) (by trivial) ?_
  refine OpsW.splitG (by cbv <;> rfl) (fun h1 => ?_) (fun h1 => ?_)
  · exfalso; subst hO; simp [std] at h1
  refine OpsW.run tok hO (by cbv <;> rfl) (by trivial) ?_
  refine OpsW.splitG (by cbv <;> rfl) (fun h1 => ?_) (fun h1 => ?_)
  · exfalso; subst hO; simp [std] at h1
  refine OpsW.run tok hO (by cbv <;> rfl) (by trivial) ?_
  refine OpsW.splitG (by cbv <;> rfl) (fun h1 => ?_) (fun h1 => ?_)
  · exfalso; subst hO; simp [std] at h1
  refine OpsW.run tok hO (by cbv <;> rfl) (by trivial) ?_
  refine SW.condS (by cbv <;> rfl) (fun h1 => ?_) (fun h1 => SW.skip ?_)
  · exfalso; subst hO; simp [std] at h1
  exact ⟨rfl, _, rfl, ⟨rfl, rfl, rfl, rfl, rfl, trivial⟩, rfl⟩
set_option maxHeartbeats 16000000 in
theorem thin_s11 (d : DayD) (t : TruD) (k : Nat) (g : Nat → AV) (O : Ar) (hO : O = std) (XA XB : AV) (bA lA : Nat → Int) (hA oA fA sA : Int) (bB lB : Nat → Int) (hB oB fB sB : Int) (bC lC : Nat → Int) (hC oC fC sC : Int) (hn : d.nw < 1000)
    (hsame : ∀ i, i < d.nw → i ≠ k → bA i = bB i) (hless : ∀ i, i < d.nw → bB i ≤ bA i) (hmore : ∀ i, i < d.nw → bA i ≤ bC i) (h : AllP (fun p => g p.1 = p.2) [(4, .ptr 0 0), (10, .lit (.int .i64 (Int.ofNat k))), (15, .ptr 6 0), (17, .ptr 7 0), (19, .ptr 8 0)]) :
    SW Try.prog none (nthC 11 (bodyF Try.f5)) (midT [(15, .ptr 6 0), (17, .ptr 7 0), (19, .ptr 8 0)] ⟨[(8, .cells none false (talL d.nw bC lC hC oC fC sC)), (7, .cells none false (talL d.nw bB lB hB oB fB sB)), (6, .cells none false (talL d.nw bA lA hA oA fA sA)), (0, .cells none false (dayC d))], 9⟩) ⟨⟨240, g⟩, []⟩ ⟨(8, .cells none false (talL d.nw bC lC hC oC fC sC)) :: (7, .cells none false (talL d.nw bB lB hB oB fB sB)) :: (6, .cells none false (talL d.nw bA lA hA oA fA sA)) :: thB d t XA XB, 9⟩ := by
  obtain ⟨g4, g10, g15, g17, g19, _⟩ := h
  simp only at g4 g10 g15 g17 g19
  rw [← updT_self g4, ← updT_self g10, ← updT_self g15, ← updT_self g17, ← updT_self g19]
  refine SW.seqRun tok hO (by cbv <;> rfl) (by trivial) ?_
  refine (SW.block (SW.loopF (fun i : Nat => ⟨⟨240, getT [(4, .ptr 0 0), (10, .lit (.int .i64 (Int.ofNat k))), (15, .ptr 6 0), (17, .ptr 7 0), (19, .ptr 8 0), (21, iV i)]⟩, []⟩) (fun _ => ⟨[(8, .cells none false (talL d.nw bC lC hC oC fC sC)), (7, .cells none false (talL d.nw bB lB hB oB fB sB)), (6, .cells none false (talL d.nw bA lA hA oA fA sA)), (0, .cells none false (dayC d))], 9⟩) (fun i => d.nw - i) (fun i => i ≤ d.nw) 0
    (fun _ => rfl) (Nat.zero_le _) (Weak.by rfl rfl (by simp) (Nat.le_refl _) (Nat.le_refl _) ⟨⟨rfl, .inl rfl⟩, ⟨rfl, .inl rfl⟩, ⟨rfl, .inl rfl⟩, ⟨rfl, .inl rfl⟩, ⟨rfl, .inl rfl⟩, ⟨rfl, .inl rfl⟩, trivial⟩ ⟨⟨rfl, by omega, .inl rfl⟩, ⟨rfl, by omega, .inl rfl⟩, ⟨rfl, by omega, .inl rfl⟩, ⟨rfl, by omega, .inl rfl⟩, trivial⟩) fun i hi => ?_))
  refine SW.seq ?_
  refine SW.seqRun tok hO (by cbv <;> rfl) (by trivial) ?_
  refine SW.condS (by cbv <;> rfl) (fun h11 => SW.skip ?_) (fun h11 => SW.exit ?_)
  · have hlt : i < d.nw := by subst hO; simpa [std] using h11
    have hi0 : (0 : Int) ≤ Int.ofNat i := Int.natCast_nonneg i
    have hii : 0 ≤ Int.ofNat i ∧ Int.ofNat i < (d.nw : Int) := ⟨hi0, Int.ofNat_lt.2 hlt⟩
    have k1 := hsame i hlt
    have k2 := hless i hlt
    have k3 := hmore i hlt
    refine SW.seq (SW.block ?_)
    refine SW.seqRunD tok mixed hO (by kernel_rfl) (by cbv <;> rfl) (by trivial) ?_
    refine AnyE.dec tok hO (by kernel_rfl) (by cbv <;> rfl) (by trivial) (fun c1 => ?_) (fun c1 => ?_)
    · have hik : i ≠ k := by
        have h3 : ¬ (i : Int) = k := (by subst hO; simpa [std] using c1)
        omega
      have k4 := k1 hik
      refine AnyE.runN tok hO 4 (by kernel_rfl) (by cbv <;> rfl) (by first | trivial | exact hii) ?_
      refine AnyE.runN tok hO 4 (by kernel_rfl) (by cbv <;> rfl) (by first | trivial | exact hii) ?_
      refine AnyE.runN tok hO 4 (by kernel_rfl) (by cbv <;> rfl) (by first | trivial | exact hii) ?_
      refine AnyE.dec tok hO (by kernel_rfl) (by cbv <;> rfl) (by trivial) (fun c2 => ?_) (fun c2 => ?_)
      · exfalso
        have : ¬ bA i = bB i := by subst hO; simpa [std] using c2
        exact this k4
      refine AnyE.runN tok hO 4 (by kernel_rfl) (by cbv <;> rfl) (by first | trivial | exact hii) ?_
      refine AnyE.runN tok hO 4 (by kernel_rfl) (by cbv <;> rfl) (by first | trivial | exact hii) ?_
      refine AnyE.runN tok hO 4 (by kernel_rfl) (by cbv <;> rfl) (by first | trivial | exact hii) ?_
      refine AnyE.dec tok hO (by kernel_rfl) (by cbv <;> rfl) (by trivial) (fun c3 => ?_) (fun c3 => ?_)
      · exfalso
        have : bA i < bB i := by subst hO; simpa [std] using c3
        omega
      refine AnyE.runN tok hO 4 (by kernel_rfl) (by cbv <;> rfl) (by first | trivial | exact hii) ?_
      refine AnyE.runN tok hO 4 (by kernel_rfl) (by cbv <;> rfl) (by first | trivial | exact hii) ?_
      refine AnyE.runN tok hO 4 (by kernel_rfl) (by cbv <;> rfl) (by first | trivial | exact hii) ?_
      refine AnyE.dec tok hO (by kernel_rfl) (by cbv <;> rfl) (by trivial) (fun c4 => ?_) (fun c4 => ?_)
      · exfalso
        have : bC i < bA i := by subst hO; simpa [std] using c4
        omega
      refine AnyE.run tok hO (by kernel_rfl) (by cbv <;> rfl) (by trivial) ?_
      refine SW.cond (t := false) (by cbv <;> rfl) (SW.skip ?_)
      refine SW.run tok hO (by cbv <;> rfl) (by trivial) ?_
      exact ⟨i + 1, by omega, by omega, Weak.by rfl rfl (by simp) (Nat.le_refl _) (Nat.le_refl _) ⟨⟨rfl, .inl rfl⟩, ⟨rfl, .inl rfl⟩, ⟨rfl, .inl rfl⟩, ⟨rfl, .inl rfl⟩, ⟨rfl, .inl rfl⟩, ⟨inc_ok hO (by omega), .inl rfl⟩, trivial⟩ ⟨⟨rfl, by omega, .inl rfl⟩, ⟨rfl, by omega, .inl rfl⟩, ⟨rfl, by omega, .inl rfl⟩, ⟨rfl, by omega, .inl rfl⟩, trivial⟩⟩
    · refine AnyE.runN tok hO 4 (by kernel_rfl) (by cbv <;> rfl) (by first | trivial | exact hii) ?_
      refine AnyE.runN tok hO 4 (by kernel_rfl) (by cbv <;> rfl) (by first | trivial | exact hii) ?_
      refine AnyE.runN tok hO 4 (by kernel_rfl) (by cbv <;> rfl) (by first | trivial | exact hii) ?_
      refine AnyE.runN tok hO 4 (by kernel_rfl) (by cbv <;> rfl) (by first | trivial | exact hii) ?_
      refine AnyE.runN tok hO 4 (by kernel_rfl) (by cbv <;> rfl) (by first | trivial | exact hii) ?_
      refine AnyE.runN tok hO 4 (by kernel_rfl) (by cbv <;> rfl) (by first | trivial | exact hii) ?_
      refine AnyE.dec tok hO (by kernel_rfl) (by cbv <;> rfl) (by trivial) (fun c3 => ?_) (fun c3 => ?_)
      · exfalso
        have : bA i < bB i := by subst hO; simpa [std] using c3
        omega
      refine AnyE.runN tok hO 4 (by kernel_rfl) (by cbv <;> rfl) (by first | trivial | exact hii) ?_
      refine AnyE.runN tok hO 4 (by kernel_rfl) (by cbv <;> rfl) (by first | trivial | exact hii) ?_
      refine AnyE.runN tok hO 4 (by kernel_rfl) (by cbv <;> rfl) (by first | trivial | exact hii) ?_
      refine AnyE.dec tok hO (by kernel_rfl) (by cbv <;> rfl) (by trivial) (fun c4 => ?_) (fun c4 => ?_)
      · exfalso
        have : bC i < bA i := by subst hO; simpa [std] using c4
        omega
      refine AnyE.run tok hO (by kernel_rfl) (by cbv <;> rfl) (by trivial) ?_
      refine SW.cond (t := false) (by cbv <;> rfl) (SW.skip ?_)
      refine SW.run tok hO (by cbv <;> rfl) (by trivial) ?_
      exact ⟨i + 1, by omega, by omega, Weak.by rfl rfl (by simp) (Nat.le_refl _) (Nat.le_refl _) ⟨⟨rfl, .inl rfl⟩, ⟨rfl, .inl rfl⟩, ⟨rfl, .inl rfl⟩, ⟨rfl, .inl rfl⟩, ⟨rfl, .inl rfl⟩, ⟨inc_ok hO (by omega), .inl rfl⟩, trivial⟩ ⟨⟨rfl, by omega, .inl rfl⟩, ⟨rfl, by omega, .inl rfl⟩, ⟨rfl, by omega, .inl rfl⟩, ⟨rfl, by omega, .inl rfl⟩, trivial⟩⟩
  · exact ⟨rfl, _, rfl, ⟨rfl, rfl, rfl, trivial⟩, rfl⟩
set_option maxHeartbeats 8000000 in
theorem thin_s12 (haw : Pure Try.prog 8 [] (.lit (.bool true))) (d : DayD) (g : Nat → AV) (O : Ar) (hO : O = std) (bA lA : Nat → Int) (hA oA fA sA : Int) (bB lB : Nat → Int) (hB oB fB sB : Int) (bC lC : Nat → Int) (hC oC fC sC : Int)
    (e1 : hB ≤ hA) (e2 : fB ≤ fA) (e3 : hA ≤ hC) (e4 : fA ≤ fC) (h : AllP (fun p => g p.1 = p.2) [(15, .ptr 6 0), (17, .ptr 7 0), (19, .ptr 8 0)]) :
    SW Try.prog none (restC 12 (bodyF Try.f5)) (retQ T Try.f5 (fun v st' => Eqv (frz st'.h (fun _ => true) 3 v) (.lit (.bool true)))) ⟨⟨240, g⟩, []⟩ ⟨[(8, .cells none false (talL d.nw bC lC hC oC fC sC)), (7, .cells none false (talL d.nw bB lB hB oB fB sB)), (6, .cells none false (talL d.nw bA lA hA oA fA sA)), (0, .cells none false (dayC d))], 9⟩ := by
  obtain ⟨g15, g17, g19, _⟩ := h
  simp only at g15 g17 g19
  rw [← updT_self g15, ← updT_self g17, ← updT_self g19]
  refine SW.seqRun tok hO (by cbv <;> rfl) (by trivial) ?_
  refine OpsW.splitG (by cbv <;> rfl) (fun h1 => ?_) (fun h1 => ?_)
  rotate_left
  · exfalso
    have : hA < hB := by subst hO; simpa [std] using h1
    omega
  refine OpsW.run tok hO (by cbv <;> rfl) (by trivial) ?_
  refine OpsW.splitG (by cbv <;> rfl) (fun h1 => ?_) (fun h1 => ?_)
  rotate_left
  · exfalso
    have : fA < fB := by subst hO; simpa [std] using h1
    omega
  refine OpsW.run tok hO (by cbv <;> rfl) (by trivial) ?_
  refine OpsW.splitG (by cbv <;> rfl) (fun h1 => ?_) (fun h1 => ?_)
  rotate_left
  · exfalso
    have : hC < hA := by subst hO; simpa [std] using h1
    omega
  refine OpsW.run tok hO (by cbv <;> rfl) (by trivial) ?_
  refine OpsW.splitG (by cbv <;> rfl) (fun h1 => ?_) (fun h1 => ?_)
  rotate_left
  · exfalso
    have : fC < fA := by subst hO; simpa [std] using h1
    omega
  refine OpsW.run tok hO (by cbv <;> rfl) (by trivial) ?_
  refine OpsW.callP haw (by cbv <;> rfl) ?_
  refine OpsW.run tok hO (by cbv <;> rfl) (by trivial) ?_
  exact SW.ret ⟨_, _, rfl, rfl, Eqv.refl _⟩
end Go.Fz
