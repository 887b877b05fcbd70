/- Own work of the verifier of watercress: FzB7. -/
import Derived.Test.YtpefamheopplnaaMe12
set_option linter.unusedVariables false
set_option linter.unusedSimpArgs false
namespace Go.Fz
open Go.Proofs
set_option maxRecDepth 100000
theorem m98_ok (y : TalD) (w : Nat) (hw : w < y.n) : Pure Try.prog 129 [talV y, iV w] (iV (y.bun w)) := by
  obtain ⟨O, hO⟩ : ∃ O : Ar, O = std := ⟨_, rfl⟩
  have hw0 : (0 : Int) ≤ Int.ofNat w := Int.natCast_nonneg w
  refine pure_of_body tok 3 Try.func129 en129 rfl ⟨talV_below y, Below.lit, trivial⟩ Below.lit ?_
  refine SW.seqRun tok hO (by cbv <;> rfl) (by trivial) ?_
  refine SW.seqRun tok hO (by cbv <;> rfl) ?_ ?_
  · exact ⟨hw0, Int.ofNat_lt.2 hw⟩
  exact SW.ret ⟨_, _, rfl, rfl, Eqv.int (by subst hO; rfl)⟩
theorem m99_ok (y : TalD) (w : Nat) (hw : w < y.n) : Pure Try.prog 130 [talV y, iV w] (iV (y.lef w)) := by
  obtain ⟨O, hO⟩ : ∃ O : Ar, O = std := ⟨_, rfl⟩
  have hw0 : (0 : Int) ≤ Int.ofNat w := Int.natCast_nonneg w
  refine pure_of_body tok 3 Try.func130 en130 rfl ⟨talV_below y, Below.lit, trivial⟩ Below.lit ?_
  refine SW.seqRun tok hO (by cbv <;> rfl) (by trivial) ?_
  refine SW.seqRun tok hO (by cbv <;> rfl) ?_ ?_
  · exact ⟨hw0, Int.ofNat_lt.2 hw⟩
  exact SW.ret ⟨_, _, rfl, rfl, Eqv.int (by subst hO; rfl)⟩
theorem m100_ok (y : TalD) (w : Int) : Pure Try.prog 131 [talV y, iV w] (iV y.hands) := by
  obtain ⟨O, hO⟩ : ∃ O : Ar, O = std := ⟨_, rfl⟩
  refine pure_of_body tok 3 Try.func131 en131 rfl ⟨talV_below y, Below.lit, trivial⟩ Below.lit ?_
  refine SW.seqRun tok hO (by cbv <;> rfl) (by trivial) ?_
  refine SW.seqRun tok hO (by cbv <;> rfl) (by trivial) ?_
  exact SW.ret ⟨_, _, rfl, rfl, Eqv.refl _⟩
theorem m101_ok (y : TalD) (w : Int) : Pure Try.prog 132 [talV y, iV w] (iV y.loose) := by
  obtain ⟨O, hO⟩ : ∃ O : Ar, O = std := ⟨_, rfl⟩
  refine pure_of_body tok 3 Try.func132 en132 rfl ⟨talV_below y, Below.lit, trivial⟩ Below.lit ?_
  refine SW.seqRun tok hO (by cbv <;> rfl) (by trivial) ?_
  refine SW.seqRun tok hO (by cbv <;> rfl) (by trivial) ?_
  exact SW.ret ⟨_, _, rfl, rfl, Eqv.refl _⟩
theorem m102_ok (y : TalD) (w : Int) : Pure Try.prog 133 [talV y, iV w] (iV y.flats) := by
  obtain ⟨O, hO⟩ : ∃ O : Ar, O = std := ⟨_, rfl⟩
  refine pure_of_body tok 3 Try.func133 en133 rfl ⟨talV_below y, Below.lit, trivial⟩ Below.lit ?_
  refine SW.seqRun tok hO (by cbv <;> rfl) (by trivial) ?_
  refine SW.seqRun tok hO (by cbv <;> rfl) (by trivial) ?_
  exact SW.ret ⟨_, _, rfl, rfl, Eqv.refl _⟩
theorem m103_ok (y : TalD) (w : Int) : Pure Try.prog 134 [talV y, iV w] (iV y.spare) := by
  obtain ⟨O, hO⟩ : ∃ O : Ar, O = std := ⟨_, rfl⟩
  refine pure_of_body tok 3 Try.func134 en134 rfl ⟨talV_below y, Below.lit, trivial⟩ Below.lit ?_
  refine SW.seqRun tok hO (by cbv <;> rfl) (by trivial) ?_
  refine SW.seqRun tok hO (by cbv <;> rfl) (by trivial) ?_
  exact SW.ret ⟨_, _, rfl, rfl, Eqv.refl _⟩
theorem right0_ok (y : TalD) (w : Nat) (hw : w < y.n) (lo hi : Int) : Pure Try.prog 113 [.agg [iV 0, iV w, iV lo, iV hi], talV y] (.sb (inB (y.bun w) lo hi)) := by
  obtain ⟨O, hO⟩ : ∃ O : Ar, O = std := ⟨_, rfl⟩
  refine pure_of_body tok 3 Try.func113 en113 rfl ⟨Below.agg (AllB.ok ⟨Below.lit, Below.lit, Below.lit, Below.lit, trivial⟩), talV_below y, trivial⟩ Below.sb ?_
  refine SW.seqRun tok hO (by cbv <;> rfl) (by trivial) ?_
  refine SW.seqRunD tok mixed hO (by rfl) (by cbv <;> rfl) (by trivial) ?_
  refine AnyE.callP (kind0_ok w lo hi) (by cbv <;> rfl) (by cbv <;> rfl) ?_
  refine AnyE.run tok hO (by rfl) (by cbv <;> rfl) (by trivial) ?_
  refine AnyE.callP (m98_ok y w hw) (by cbv <;> rfl) (by cbv <;> rfl) ?_
  refine AnyE.run tok hO (by rfl) (by cbv <;> rfl) (by trivial) ?_
  have hc := has_ok lo hi (y.bun w)
  generalize inB (y.bun w) lo hi = b at hc
  refine AnyE.callP hc (by cbv <;> rfl) (by cbv <;> rfl) ?_
  refine AnyE.run tok hO (by rfl) (by cbv <;> rfl) (by trivial) ?_
  exact SW.ret ⟨_, _, rfl, rfl, Eqv.refl _⟩
theorem right1_ok (y : TalD) (w : Nat) (hw : w < y.n) (lo hi : Int) : Pure Try.prog 113 [.agg [iV 1, iV w, iV lo, iV hi], talV y] (.sb (inB (y.lef w) lo hi)) := by
  obtain ⟨O, hO⟩ : ∃ O : Ar, O = std := ⟨_, rfl⟩
  refine pure_of_body tok 3 Try.func113 en113 rfl ⟨Below.agg (AllB.ok ⟨Below.lit, Below.lit, Below.lit, Below.lit, trivial⟩), talV_below y, trivial⟩ Below.sb ?_
  refine SW.seqRun tok hO (by cbv <;> rfl) (by trivial) ?_
  refine SW.seqRunD tok mixed hO (by rfl) (by cbv <;> rfl) (by trivial) ?_
  refine AnyE.callP (kind1_ok w lo hi) (by cbv <;> rfl) (by cbv <;> rfl) ?_
  refine AnyE.run tok hO (by rfl) (by cbv <;> rfl) (by trivial) ?_
  refine AnyE.callP (m99_ok y w hw) (by cbv <;> rfl) (by cbv <;> rfl) ?_
  refine AnyE.run tok hO (by rfl) (by cbv <;> rfl) (by trivial) ?_
  have hc := has_ok lo hi (y.lef w)
  generalize inB (y.lef w) lo hi = b at hc
  refine AnyE.callP hc (by cbv <;> rfl) (by cbv <;> rfl) ?_
  refine AnyE.run tok hO (by rfl) (by cbv <;> rfl) (by trivial) ?_
  exact SW.ret ⟨_, _, rfl, rfl, Eqv.refl _⟩
theorem right2_ok (y : TalD) (w : Int) (lo hi : Int) : Pure Try.prog 113 [.agg [iV 2, iV w, iV lo, iV hi], talV y] (.sb (inB (y.hands) lo hi)) := by
  obtain ⟨O, hO⟩ : ∃ O : Ar, O = std := ⟨_, rfl⟩
  refine pure_of_body tok 3 Try.func113 en113 rfl ⟨Below.agg (AllB.ok ⟨Below.lit, Below.lit, Below.lit, Below.lit, trivial⟩), talV_below y, trivial⟩ Below.sb ?_
  refine SW.seqRun tok hO (by cbv <;> rfl) (by trivial) ?_
  refine SW.seqRunD tok mixed hO (by rfl) (by cbv <;> rfl) (by trivial) ?_
  refine AnyE.callP (kind2_ok w lo hi) (by cbv <;> rfl) (by cbv <;> rfl) ?_
  refine AnyE.run tok hO (by rfl) (by cbv <;> rfl) (by trivial) ?_
  refine AnyE.callP (m100_ok y w) (by cbv <;> rfl) (by cbv <;> rfl) ?_
  refine AnyE.run tok hO (by rfl) (by cbv <;> rfl) (by trivial) ?_
  have hc := has_ok lo hi (y.hands)
  generalize inB (y.hands) lo hi = b at hc
  refine AnyE.callP hc (by cbv <;> rfl) (by cbv <;> rfl) ?_
  refine AnyE.run tok hO (by rfl) (by cbv <;> rfl) (by trivial) ?_
  exact SW.ret ⟨_, _, rfl, rfl, Eqv.refl _⟩
theorem right3_ok (y : TalD) (w : Int) (lo hi : Int) : Pure Try.prog 113 [.agg [iV 3, iV w, iV lo, iV hi], talV y] (.sb (inB (y.loose) lo hi)) := by
  obtain ⟨O, hO⟩ : ∃ O : Ar, O = std := ⟨_, rfl⟩
  refine pure_of_body tok 3 Try.func113 en113 rfl ⟨Below.agg (AllB.ok ⟨Below.lit, Below.lit, Below.lit, Below.lit, trivial⟩), talV_below y, trivial⟩ Below.sb ?_
  refine SW.seqRun tok hO (by cbv <;> rfl) (by trivial) ?_
  refine SW.seqRunD tok mixed hO (by rfl) (by cbv <;> rfl) (by trivial) ?_
  refine AnyE.callP (kind3_ok w lo hi) (by cbv <;> rfl) (by cbv <;> rfl) ?_
  refine AnyE.run tok hO (by rfl) (by cbv <;> rfl) (by trivial) ?_
  refine AnyE.callP (m101_ok y w) (by cbv <;> rfl) (by cbv <;> rfl) ?_
  refine AnyE.run tok hO (by rfl) (by cbv <;> rfl) (by trivial) ?_
  have hc := has_ok lo hi (y.loose)
  generalize inB (y.loose) lo hi = b at hc
  refine AnyE.callP hc (by cbv <;> rfl) (by cbv <;> rfl) ?_
  refine AnyE.run tok hO (by rfl) (by cbv <;> rfl) (by trivial) ?_
  exact SW.ret ⟨_, _, rfl, rfl, Eqv.refl _⟩
theorem right4_ok (y : TalD) (w : Int) (lo hi : Int) : Pure Try.prog 113 [.agg [iV 4, iV w, iV lo, iV hi], talV y] (.sb (inB (y.flats) lo hi)) := by
  obtain ⟨O, hO⟩ : ∃ O : Ar, O = std := ⟨_, rfl⟩
  refine pure_of_body tok 3 Try.func113 en113 rfl ⟨Below.agg (AllB.ok ⟨Below.lit, Below.lit, Below.lit, Below.lit, trivial⟩), talV_below y, trivial⟩ Below.sb ?_
  refine SW.seqRun tok hO (by cbv <;> rfl) (by trivial) ?_
  refine SW.seqRunD tok mixed hO (by rfl) (by cbv <;> rfl) (by trivial) ?_
  refine AnyE.callP (kind4_ok w lo hi) (by cbv <;> rfl) (by cbv <;> rfl) ?_
  refine AnyE.run tok hO (by rfl) (by cbv <;> rfl) (by trivial) ?_
  refine AnyE.callP (m102_ok y w) (by cbv <;> rfl) (by cbv <;> rfl) ?_
  refine AnyE.run tok hO (by rfl) (by cbv <;> rfl) (by trivial) ?_
  have hc := has_ok lo hi (y.flats)
  generalize inB (y.flats) lo hi = b at hc
  refine AnyE.callP hc (by cbv <;> rfl) (by cbv <;> rfl) ?_
  refine AnyE.run tok hO (by rfl) (by cbv <;> rfl) (by trivial) ?_
  exact SW.ret ⟨_, _, rfl, rfl, Eqv.refl _⟩
theorem right5_ok (y : TalD) (w : Int) (lo hi : Int) : Pure Try.prog 113 [.agg [iV 5, iV w, iV lo, iV hi], talV y] (.sb (inB (y.spare) lo hi)) := by
  obtain ⟨O, hO⟩ : ∃ O : Ar, O = std := ⟨_, rfl⟩
  refine pure_of_body tok 3 Try.func113 en113 rfl ⟨Below.agg (AllB.ok ⟨Below.lit, Below.lit, Below.lit, Below.lit, trivial⟩), talV_below y, trivial⟩ Below.sb ?_
  refine SW.seqRun tok hO (by cbv <;> rfl) (by trivial) ?_
  refine SW.seqRunD tok mixed hO (by rfl) (by cbv <;> rfl) (by trivial) ?_
  refine AnyE.callP (kind5_ok w lo hi) (by cbv <;> rfl) (by cbv <;> rfl) ?_
  refine AnyE.run tok hO (by rfl) (by cbv <;> rfl) (by trivial) ?_
  refine AnyE.callP (m103_ok y w) (by cbv <;> rfl) (by cbv <;> rfl) ?_
  refine AnyE.run tok hO (by rfl) (by cbv <;> rfl) (by trivial) ?_
  have hc := has_ok lo hi (y.spare)
  generalize inB (y.spare) lo hi = b at hc
  refine AnyE.callP hc (by cbv <;> rfl) (by cbv <;> rfl) ?_
  refine AnyE.run tok hO (by rfl) (by cbv <;> rfl) (by trivial) ?_
  exact SW.ret ⟨_, _, rfl, rfl, Eqv.refl _⟩
def TalD.cnt (y : TalD) (k w : Int) : Int := if k = 0 then y.bun w.toNat else if k = 1 then y.lef w.toNat else if k = 2 then y.hands else if k = 3 then y.loose else if k = 4 then y.flats else y.spare
def DayD.rightB (d : DayD) (y : TalD) (i : Nat) : Bool := inB (y.cnt (d.ck i) (d.cw i)) (d.clo i) (d.chi i)
theorem right_ok (d : DayD) (y : TalD) (i : Nat) (h0 : 0 ≤ d.ck i) (h6 : d.ck i < 6) (hw0 : 0 ≤ d.cw i) (hw : d.cw i < y.n) : Pure Try.prog 113 [cntV d i, talV y] (.sb (d.rightB y i)) := by
  have hc : d.ck i = 0 ∨ d.ck i = 1 ∨ d.ck i = 2 ∨ d.ck i = 3 ∨ d.ck i = 4 ∨ d.ck i = 5 := by omega
  obtain ⟨w, hwn⟩ := Int.eq_ofNat_of_zero_le hw0
  unfold cntV DayD.rightB
  rcases hc with h | h | h | h | h | h <;> rw [h]
  · rw [hwn]; exact right0_ok y w (by omega) _ _
  · rw [hwn]; exact right1_ok y w (by omega) _ _
  · exact right2_ok y _ _ _
  · exact right3_ok y _ _ _
  · exact right4_ok y _ _ _
  · exact right5_ok y _ _ _
def cells5B (M : Nat → Bool) : List AV := [.sb (M 0), .sb (M 1), .sb (M 2), .sb (M 3), .sb (M 4)]
theorem cells5B_below (n : Nat) (M : Nat → Bool) : ∀ a ∈ cells5B M, Below n a := AllB.ok ⟨Below.sb, Below.sb, Below.sb, Below.sb, Below.sb, trivial⟩
def wrM (r : Nat → Bool) (i j : Nat) : Bool := decide (j < i) && !(r j)
theorem wrongIn_ok (d : DayD) (y : TalD) (hn : d.nc ≤ 5) (hok : ∀ i, i < d.nc → 0 ≤ d.ck i ∧ d.ck i < 6 ∧ 0 ≤ d.cw i ∧ d.cw i < y.n) : Pure Try.prog 83 [dayV d, talV y] (.agg (cells5B (wrM (d.rightB y) d.nc))) := by
  obtain ⟨O, hO⟩ : ∃ O : Ar, O = std := ⟨_, rfl⟩
  have hnat : ∀ i : Nat, O.nat (Int.ofNat i) = i := fun i => by subst hO; rfl
  have hr := fun i (h : i < d.nc) => right_ok d y i (hok i h).1 (hok i h).2.1 (hok i h).2.2.1 (hok i h).2.2.2
  generalize d.rightB y = R at hr
  refine pure_of_body tok 3 Try.func83 en83 rfl ⟨dayV_below d, talV_below y, trivial⟩ (Below.agg (cells5B_below 0 _)) ?_
  refine SW.seqRun tok hO (by cbv <;> rfl) (by trivial) ?_
  refine SW.seqRun tok hO (by cbv <;> rfl) (by trivial) ?_
  refine SW.seq ?_
  refine SW.seqRun tok hO (by cbv <;> rfl) (by trivial) ?_
  refine (SW.block (SW.loopF (fun i : Nat => ⟨⟨24, getT [(3, .ptr 1 0), (4, .ptr 2 0), (5, .ptr 3 0), (9, cntsV d), (10, iV d.nc), (11, iV i)]⟩, []⟩)
    (fun i => ⟨[(3, .cells none false (cells5B (wrM R i))), (2, .cells none false (cells5B fun _ => false)), (1, .cells none false (talC y))], 4⟩) (fun i => d.nc - i) (fun i => i ≤ d.nc) 0
    (fun _ => rfl) (Nat.zero_le _) (Weak.by rfl rfl (by simp) (Nat.le_refl _) (Nat.le_refl _) ⟨⟨rfl, .inl rfl⟩, ⟨rfl, .inl rfl⟩, ⟨rfl, .inl rfl⟩, ⟨rfl, .inl rfl⟩, ⟨rfl, .inl rfl⟩, ⟨rfl, .inl rfl⟩, trivial⟩ ⟨⟨rfl, by omega, .inl rfl⟩, ⟨rfl, by omega, .inl rfl⟩, ⟨rfl, by omega, .inl rfl⟩, trivial⟩) fun i hi => ?_))
  generalize hM : wrM R i = M
  refine SW.seqRun tok hO (by cbv <;> rfl) (by trivial) ?_
  refine SW.seq (SW.condS (by cbv <;> rfl) (fun h => SW.skip ?_) (fun h => SW.exit ?_))
  · have hlt : i < d.nc := by subst hO; simpa [std] using h
    have hi0 : (0 : Int) ≤ Int.ofNat i := Int.natCast_nonneg i
    refine SW.seq (SW.block ?_)
    refine SW.seqRun tok hO (by cbv <;> rfl) ?_ ?_
    · exact ⟨hi0, Int.ofNat_lt.2 hlt⟩
    refine SW.run tok hO (by cbv <;> rfl) (by trivial) ?_
    have hri := hr i hlt
    rw [← hnat i] at hri
    unfold cntV at hri
    refine OpsW.callP hri (by cbv <;> rfl) ?_
    rw [hnat i]
    generalize hb : R i = b
    refine OpsW.run tok hO (by cbv <;> rfl) ?_ ?_
    · exact ⟨by show O.nat (Int.ofNat i) < 5; rw [hnat]; omega, hi0, Int.ofNat_lt.2 (show i < 5 by omega)⟩
    refine SW.run tok hO (by cbv <;> rfl) (by trivial) ?_
    have hk : ∀ j, O.upsB j (O.nat (Int.ofNat i)) (O.not b) (M j) = wrM R (i + 1) j := fun j => by
      rw [hnat, ← hM, ← hb]; subst hO
      simp only [std, wrM]
      by_cases e : i = j
      · subst e; simp
      · rw [if_neg e]
        by_cases e2 : j < i
        · simp [e2, show j < i + 1 by omega]
        · simp [e2, show ¬ j < i + 1 by omega]
    refine ⟨i + 1, by omega, by omega, Weak.by rfl rfl (by simp) (Nat.le_refl _) (by show 4 ≤ 5; omega) ⟨⟨rfl, .inr (Below.ptr (by omega))⟩, ⟨rfl, .inr (Below.ptr (by omega))⟩, ⟨rfl, .inr (Below.ptr (by omega))⟩, ⟨rfl, .inr (Below.up (m := 0) (cntsV_below d))⟩, ⟨rfl, .inr Below.lit⟩, ⟨inc_ok hO (by omega), .inr Below.lit⟩, trivial⟩
      ⟨⟨congrArg (fun l => some (AObj.cells none false l)) ?_, by omega, .inr ⟨cells5B_below 4 _, fun _ h => by cases h⟩⟩, ⟨rfl, by omega, .inr ⟨cells5B_below 4 _, fun _ h => by cases h⟩⟩, ⟨rfl, by omega, .inr ⟨fun a ha => Below.up (m := 0) (talC_below y a ha), fun _ h => by cases h⟩⟩, trivial⟩⟩
    simp only [cells5B, ← hk]
  · refine SW.seqRun tok hO (by cbv <;> rfl) (by trivial) ?_
    have hge : d.nc ≤ i := by subst hO; simpa [std] using h
    have : i = d.nc := by omega
    subst hM
    rw [← this]
    refine SW.ret ⟨_, _, rfl, rfl, Eqv.of rfl⟩
end Go.Fz
