/- Own work of the verifier of watercress: FzU10, FzV1, FzV2, FzV3, FzV4, FzV5, FzV6, FzV7, FzV8. -/
import Derived.Test.YtpaifaemkoblcaaNa11
set_option linter.unusedVariables false
set_option linter.unusedSimpArgs false
namespace Go.Fz
open Go.Proofs
set_option maxRecDepth 100000
def FarmD.balS (f : FarmD) (M : Nat → Bool) (fl : Nat → Int) : Nat → Int
  | 0 => 0
  | s + 1 => if M (f.sb s).toNat then add64 (f.balS M fl s) (fl s) else f.balS M fl s
def FarmD.balB (f : FarmD) (M : Nat → Bool) (fl : Nat → Int) : Nat → Int
  | 0 => f.balS M fl f.ns
  | i + 1 => if M i then sub64 (f.balB M fl i) (f.need i) else f.balB M fl i
def FarmD.cutB (f : FarmD) (bed : Nat) (fl : Nat → Int) : Bool := decide (f.balB (f.marks bed) fl f.nb < 0)
theorem isCut_ok (f : FarmD) (bed n : Nat) (ex : Bool) (fl : Nat → Int) (hb : bed < f.nb) (hnb : f.nb ≤ 8) (hns : f.ns ≤ n) (hn : n < 1000) (hsb : ∀ s, s < f.ns → 0 ≤ f.sb s ∧ f.sb s < 8) (hdn : ∀ i, i < f.nb → f.down i < 8) :
    Pure Try.prog 88 [farmV f, iV bed, intsV n ex fl] (.sb (f.cutB bed fl)) := by
  obtain ⟨O, hO⟩ : ∃ O : Ar, O = std := ⟨_, rfl⟩
  refine pure_of_body tok 3 Try.func88 en88 rfl ⟨farmV_below f, Below.lit, intsV_below n ex fl, trivial⟩ Below.sb ?_
  refine SW.seqRun tok hO (by cbv <;> rfl) (by trivial) ?_
  refine SW.seqRun tok hO (by cbv <;> rfl) (by trivial) ?_
  refine OpsW.callP (andAbove_ok f bed hb hnb hdn) (by cbv <;> rfl) ?_
  generalize hM : f.marks bed = M
  refine OpsW.run tok hO (by cbv <;> rfl) (by trivial) ?_
  refine SW.seqRun tok hO (by cbv <;> rfl) (by trivial) ?_
  refine SW.seq ?_
  refine SW.seqRun tok hO (by cbv <;> rfl) (by trivial) ?_
  refine (SW.block (SW.loopF (fun s : Nat => ⟨⟨53, getT [(2, intsV n ex fl), (3, .ptr 0 0), (7, .ptr 1 0), (8, iV (f.balS M fl s)), (17, springsV f), (18, iV f.ns), (19, iV s)]⟩, []⟩)
    (fun _ => ⟨[(1, .cells none false (cells8B M)), (0, .cells none false [springsV f, bedsV f, looksV f])], 2⟩) (fun s => f.ns - s) (fun s => s ≤ f.ns) 0
    (fun _ => rfl) (Nat.zero_le _) (Weak.by rfl rfl (by simp) (Nat.le_refl _) (Nat.le_refl _) ⟨⟨rfl, .inl rfl⟩, ⟨rfl, .inl rfl⟩, ⟨rfl, .inl rfl⟩, ⟨rfl, .inl rfl⟩, ⟨rfl, .inl rfl⟩, ⟨rfl, .inl rfl⟩, ⟨rfl, .inl rfl⟩, trivial⟩ ⟨⟨rfl, by omega, .inl rfl⟩, ⟨rfl, by omega, .inl rfl⟩, trivial⟩) fun s hs => ?_))
  generalize hB : f.balS M fl s = B
  refine SW.seqRun tok hO (by cbv <;> rfl) (by trivial) ?_
  refine SW.seq (SW.condS (by cbv <;> rfl) (fun h => SW.skip ?_) (fun h => SW.exit ?_))
  · have hlt : s < f.ns := by subst hO; simpa [std] using h
    have h0 : (0 : Int) ≤ Int.ofNat s := Int.natCast_nonneg s
    obtain ⟨hs0, hs1⟩ := hsb s hlt
    have hq : (f.sb s).toNat < 8 := by omega
    have hsel : O.selB [M 0, M 1, M 2, M 3, M 4, M 5, M 6, M 7] (O.nat (f.sb (O.nat (Int.ofNat s)))) = M (f.sb s).toNat := by
      subst hO; exact selB8 M _ hq
    refine SW.seq (SW.block ?_)
    refine SW.seqRun tok hO (by cbv <;> rfl) ?_ ?_
    · exact ⟨h0, Int.ofNat_lt.2 hlt⟩
    refine SW.seqRun tok hO (by cbv <;> rfl) ?_ ?_
    · subst hO; exact ⟨hq, ⟨hs0, hs1⟩⟩
    refine SW.condS (by cbv <;> rfl) (fun h' => ?_) (fun h' => SW.skip ?_)
    · refine SW.run tok hO (by cbv <;> rfl) ?_ ?_
      · exact ⟨h0, Int.ofNat_lt.2 (by omega)⟩
      refine SW.run tok hO (by cbv <;> rfl) (by trivial) ?_
      refine ⟨s + 1, by omega, by omega, Weak.by rfl rfl (by simp) (Nat.le_refl _) (by show 2 ≤ 3; omega) ⟨⟨rfl, .inr (Below.up (m := 0) (intsV_below n ex fl))⟩, ⟨rfl, .inr (Below.ptr (by omega))⟩, ⟨rfl, .inr (Below.ptr (by omega))⟩, ⟨?_, .inr Below.lit⟩, ⟨rfl, .inr (Below.up (m := 0) (springsV_below f))⟩, ⟨rfl, .inr Below.lit⟩, ⟨inc_ok hO (by omega), .inr Below.lit⟩, trivial⟩
        ⟨⟨rfl, by omega, .inr ⟨cells8B_below 2 M, fun _ h => by cases h⟩⟩, ⟨rfl, by omega, .inr ⟨AllB.ok ⟨Below.up (m := 0) (springsV_below f), Below.up (m := 0) (bedsV_below f), Below.up (m := 0) (looksV_below f), trivial⟩, fun _ h => by cases h⟩⟩, trivial⟩⟩
      have hm : M (f.sb s).toNat = true := by rw [← hsel]; exact h'
      have e : f.balS M fl (s + 1) = add64 B (fl s) := by simp only [FarmD.balS, hm, if_true, hB]
      rw [e]; subst hO; rfl
    · refine SW.run tok hO (by cbv <;> rfl) (by trivial) ?_
      refine ⟨s + 1, by omega, by omega, Weak.by rfl rfl (by simp) (Nat.le_refl _) (by show 2 ≤ 3; omega) ⟨⟨rfl, .inr (Below.up (m := 0) (intsV_below n ex fl))⟩, ⟨rfl, .inr (Below.ptr (by omega))⟩, ⟨rfl, .inr (Below.ptr (by omega))⟩, ⟨?_, .inr Below.lit⟩, ⟨rfl, .inr (Below.up (m := 0) (springsV_below f))⟩, ⟨rfl, .inr Below.lit⟩, ⟨inc_ok hO (by omega), .inr Below.lit⟩, trivial⟩
        ⟨⟨rfl, by omega, .inr ⟨cells8B_below 2 M, fun _ h => by cases h⟩⟩, ⟨rfl, by omega, .inr ⟨AllB.ok ⟨Below.up (m := 0) (springsV_below f), Below.up (m := 0) (bedsV_below f), Below.up (m := 0) (looksV_below f), trivial⟩, fun _ h => by cases h⟩⟩, trivial⟩⟩
      have hm : M (f.sb s).toNat = false := by rw [← hsel]; exact h'
      have e : f.balS M fl (s + 1) = B := by simp only [FarmD.balS, hm, hB]; rfl
      rw [e]; rfl
  · have hge : f.ns ≤ s := by subst hO; simpa [std] using h
    have hsn : s = f.ns := by omega
    refine SW.seq ?_
    refine SW.seqRun tok hO (by cbv <;> rfl) (by trivial) ?_
    refine (SW.block (SW.loopF (fun i : Nat => ⟨⟨53, getT [(7, .ptr 1 0), (8, iV (f.balB M fl i)), (36, bedsV f), (37, iV f.nb), (38, iV i)]⟩, []⟩)
      (fun _ => ⟨[(1, .cells none false (cells8B M))], 2⟩) (fun i => f.nb - i) (fun i => i ≤ f.nb) 0
      (fun _ => rfl) (Nat.zero_le _) (Weak.by rfl rfl (by simp) (Nat.le_refl _) (Nat.le_refl _) ⟨⟨rfl, .inl rfl⟩, ⟨?_, .inl rfl⟩, ⟨rfl, .inl rfl⟩, ⟨rfl, .inl rfl⟩, ⟨rfl, .inl rfl⟩, trivial⟩ ⟨⟨rfl, by omega, .inl rfl⟩, trivial⟩) fun i hi => ?_))
    · rw [← hB, hsn]; rfl
    clear hB
    generalize hB : f.balB M fl i = B
    refine SW.seqRun tok hO (by cbv <;> rfl) (by trivial) ?_
    refine SW.seq (SW.condS (by cbv <;> rfl) (fun h => SW.skip ?_) (fun h => SW.exit ?_))
    · have hlt : i < f.nb := by subst hO; simpa [std] using h
      have h0 : (0 : Int) ≤ Int.ofNat i := Int.natCast_nonneg i
      have h8 : i < 8 := by omega
      have hsel : O.selB [M 0, M 1, M 2, M 3, M 4, M 5, M 6, M 7] (O.nat (Int.ofNat i)) = M i := by
        subst hO; exact selB8 M _ h8
      refine SW.seq (SW.block ?_)
      refine SW.seqRun tok hO (by cbv <;> rfl) ?_ ?_
      · exact ⟨h0, Int.ofNat_lt.2 hlt⟩
      refine SW.seqRun tok hO (by cbv <;> rfl) ?_ ?_
      · subst hO; exact ⟨h8, ⟨h0, Int.ofNat_lt.2 h8⟩⟩
      refine SW.condS (by cbv <;> rfl) (fun h' => ?_) (fun h' => SW.skip ?_)
      · refine SW.run tok hO (by cbv <;> rfl) (by trivial) ?_
        refine SW.run tok hO (by cbv <;> rfl) (by trivial) ?_
        refine ⟨i + 1, by omega, by omega, Weak.by rfl rfl (by simp) (Nat.le_refl _) (by show 2 ≤ 3; omega) ⟨⟨rfl, .inr (Below.ptr (by omega))⟩, ⟨?_, .inr Below.lit⟩, ⟨rfl, .inr (Below.up (m := 0) (bedsV_below f))⟩, ⟨rfl, .inr Below.lit⟩, ⟨inc_ok hO (by omega), .inr Below.lit⟩, trivial⟩
          ⟨⟨rfl, by omega, .inr ⟨cells8B_below 2 M, fun _ h => by cases h⟩⟩, trivial⟩⟩
        have hm : M i = true := by rw [← hsel]; exact h'
        have e : f.balB M fl (i + 1) = sub64 B (f.need i) := by simp only [FarmD.balB, hm, if_true, hB]
        rw [e]; subst hO; rfl
      · refine SW.run tok hO (by cbv <;> rfl) (by trivial) ?_
        refine ⟨i + 1, by omega, by omega, Weak.by rfl rfl (by simp) (Nat.le_refl _) (by show 2 ≤ 3; omega) ⟨⟨rfl, .inr (Below.ptr (by omega))⟩, ⟨?_, .inr Below.lit⟩, ⟨rfl, .inr (Below.up (m := 0) (bedsV_below f))⟩, ⟨rfl, .inr Below.lit⟩, ⟨inc_ok hO (by omega), .inr Below.lit⟩, trivial⟩
          ⟨⟨rfl, by omega, .inr ⟨cells8B_below 2 M, fun _ h => by cases h⟩⟩, trivial⟩⟩
        have hm : M i = false := by rw [← hsel]; exact h'
        have e : f.balB M fl (i + 1) = B := by simp only [FarmD.balB, hm, hB]; rfl
        rw [e]; rfl
    · have hge : f.nb ≤ i := by subst hO; simpa [std] using h
      have hin : i = f.nb := by omega
      refine SW.seqRun tok hO (by cbv <;> rfl) (by trivial) ?_
      refine SW.ret ⟨_, _, rfl, rfl, Eqv.sb ?_⟩
      subst hO
      unfold FarmD.cutB
      rw [hM, ← hin, hB]
      simp [std]
def FarmD.proveC (f : FarmD) (bed : Int) (n : Nat) (fl : Nat → Int) : Bool := f.proveT n fl && f.hasB bed && f.cutB bed.toNat fl
theorem proveCut_ok (f : FarmD) (hs : f.small) (bed : Int) (n : Nat) (ex : Bool) (fl : Nat → Int) (hn : n < 1000) : Pure Try.prog 38 [farmV f, iV bed, intsV n ex fl] (.sb (f.proveC bed n fl)) := by
  obtain ⟨O, hO⟩ : ∃ O : Ar, O = std := ⟨_, rfl⟩
  refine pure_of_body tok 3 Try.func38 en38 rfl ⟨farmV_below f, Below.lit, intsV_below n ex fl, trivial⟩ Below.sb ?_
  refine SW.seqRun tok hO (by cbv <;> rfl) (by trivial) ?_
  refine SW.seqRun tok hO (by cbv <;> rfl) (by trivial) ?_
  refine OpsW.callB (proveTruth_ok f hs n ex fl hn) (by cbv <;> rfl) fun b1 hb1 => ?_
  refine OpsW.run tok hO (by cbv <;> rfl) (by trivial) ?_
  refine OpsW.splitG (by cbv <;> rfl) (fun h1 => ?_) (fun h1 => ?_) <;> refine OpsW.run tok hO (by cbv <;> rfl) (by trivial) ?_
  · have hT : f.proveT n fl = true := by rw [← hb1]; exact h1
    have hc : f.check = 0 ∧ n = f.ns := by
      simp only [FarmD.proveT, FarmD.fits, Bool.and_eq_true, decide_eq_true_eq] at hT
      exact ⟨hT.1.1, hT.1.2.1⟩
    have hg := good_of_check hc.1
    refine OpsW.callB (hasBed_ok f bed) (by cbv <;> rfl) fun b2 hb2 => ?_
    refine OpsW.run tok hO (by cbv <;> rfl) (by trivial) ?_
    refine OpsW.splitG (by cbv <;> rfl) (fun h2 => ?_) (fun h2 => ?_) <;> refine OpsW.run tok hO (by cbv <;> rfl) (by trivial) ?_
    · have hH : f.hasB bed = true := by unfold FarmD.hasB; rw [← hb2]; exact h2
      have hbb : 0 ≤ bed ∧ bed < f.nb := by simpa [FarmD.hasB] using hH
      obtain ⟨k, rfl⟩ := Int.eq_ofNat_of_zero_le hbb.1
      refine OpsW.callB (isCut_ok f k n ex fl (by omega) hg.nb (by omega) hn (fun s hs => ⟨(hg.spring s hs).1.1, by have := (hg.spring s hs).1.2; have := hg.nb; omega⟩) (fun i hi => by have := (hg.bed i hi).2.2; have := hg.nb; omega)) (by cbv <;> rfl) fun b3 hb3 => ?_
      refine OpsW.run tok hO (by cbv <;> rfl) (by trivial) ?_
      refine SW.ret ⟨_, _, rfl, rfl, Eqv.sb ?_⟩
      rw [hb3]
      simp only [FarmD.proveC, hT, hH, Bool.true_and, Int.toNat_natCast]
    · refine SW.ret ⟨_, _, rfl, rfl, Eqv.bool ?_⟩
      have hH : f.hasB bed = false := by unfold FarmD.hasB; rw [← hb2]; exact h2
      simp only [FarmD.proveC, hH, Bool.and_false, Bool.false_and]
  · refine SW.ret ⟨_, _, rfl, rfl, Eqv.bool ?_⟩
    have hT : f.proveT n fl = false := by rw [← hb1]; exact h1
    simp only [FarmD.proveC, hT, Bool.false_and]
end Go.Fz
namespace Go.Fz
open Go.Proofs
set_option maxRecDepth 100000
theorem in_ok (n a b : Int) : Pure Try.prog 40 [iV n, iV a, iV b] (.sb (inB n a b)) := by
  obtain ⟨O, hO⟩ : ∃ O : Ar, O = std := ⟨_, rfl⟩
  refine pure_of_body tok 3 Try.func40 en40 rfl ⟨iV_below, iV_below, iV_below, trivial⟩ Below.sb ?_
  refine SW.seqRun tok hO (by cbv <;> rfl) (by trivial) ?_
  refine SW.seqRun tok hO (by cbv <;> rfl) (by trivial) ?_
  refine OpsW.splitG (by cbv <;> rfl) (fun h => ?_) (fun h => ?_) <;> refine OpsW.run tok hO (by cbv <;> rfl) (by trivial) ?_
  · refine SW.ret ⟨_, _, rfl, rfl, Eqv.sb (Bool.eq_iff_iff.2 ?_)⟩
    subst hO; simp [std] at h; simp [std, inB]; omega
  · refine SW.ret ⟨_, _, rfl, rfl, Eqv.bool (Bool.eq_iff_iff.2 ?_)⟩
    subst hO; simp [std] at h; simp [inB]; omega
theorem within1_ok (lo hi a b : Int) : Pure Try.prog 87 [rangeV lo hi, iV a, iV b] (.sb (withinB lo hi a b)) := by
  obtain ⟨O, hO⟩ : ∃ O : Ar, O = std := ⟨_, rfl⟩
  refine pure_of_body tok 3 Try.func87 en87 rfl ⟨rangeV_below, iV_below, iV_below, trivial⟩ Below.sb ?_
  refine SW.seqRun tok hO (by cbv <;> rfl) (by trivial) ?_
  refine SW.seqRun tok hO (by cbv <;> rfl) (by trivial) ?_
  repeat' (refine OpsW.splitG (by cbv <;> rfl) (fun h => ?_) (fun h => ?_) <;> refine OpsW.run tok hO (by cbv <;> rfl) (by trivial) ?_)
  all_goals first
    | refine SW.ret ⟨_, _, rfl, rfl, Eqv.bool (Bool.eq_iff_iff.2 ?_)⟩
    | refine SW.ret ⟨_, _, rfl, rfl, Eqv.sb (Bool.eq_iff_iff.2 ?_)⟩
  all_goals subst hO; simp_all [std, withinB]
  all_goals (intros; omega)
theorem count_ok (lo hi : Int) : Pure Try.prog 105 [rangeV lo hi] (iV (size64 lo hi)) := by
  obtain ⟨O, hO⟩ : ∃ O : Ar, O = std := ⟨_, rfl⟩
  refine pure_of_body tok 3 Try.func105 en105 rfl ⟨rangeV_below, trivial⟩ Below.lit ?_
  refine SW.seqRun tok hO (by cbv <;> rfl) (by trivial) ?_
  refine SW.seqRun tok hO (by cbv <;> rfl) (by trivial) ?_
  refine SW.ret ⟨_, _, rfl, rfl, Eqv.int ?_⟩
  subst hO; rfl
def FarmD.manyN (f : FarmD) : Nat → Int
  | 0 => 1
  | s + 1 => minI 3000 (mul64 (f.manyN s) (size64 (f.slo s) (f.shi s)))
theorem many_ok (f : FarmD) (hs : f.small) : Pure Try.prog 61 [farmV f] (iV (f.manyN f.ns)) := by
  obtain ⟨O, hO⟩ : ∃ O : Ar, O = std := ⟨_, rfl⟩
  have hns := hs.2.1
  refine pure_of_body tok 3 Try.func61 en61 rfl ⟨farmV_below f, trivial⟩ Below.lit ?_
  refine SW.seqRun tok hO (by cbv <;> rfl) (by trivial) ?_
  refine SW.seqRun tok hO (by cbv <;> rfl) (by trivial) ?_
  refine SW.seq ?_
  refine SW.seqRun tok hO (by cbv <;> rfl) (by trivial) ?_
  refine (SW.block (SW.loopF (fun i : Nat => ⟨⟨23, getT [(1, .ptr 0 0), (3, iV (f.manyN i)), (4, iV i)]⟩, []⟩) (fun _ => ⟨[(0, .cells none false [springsV f, bedsV f, looksV f])], 1⟩) (fun i => f.ns - i) (fun i => i ≤ f.ns) 0
    (fun _ => rfl) (Nat.zero_le _) (Weak.by rfl rfl (by simp) (Nat.le_refl _) (Nat.le_refl _) ⟨⟨rfl, .inl rfl⟩, ⟨rfl, .inl rfl⟩, ⟨rfl, .inl rfl⟩, trivial⟩ ⟨⟨rfl, by omega, .inl rfl⟩, trivial⟩) fun i hi => ?_))
  generalize hacc : f.manyN i = acc
  refine SW.seq ?_
  refine SW.seqRun tok hO (by cbv <;> rfl) (by trivial) ?_
  refine SW.condS (by cbv <;> rfl) (fun h => SW.skip ?_) (fun h => SW.exit ?_)
  · have hlt : i < f.ns := by subst hO; simpa [std] using h
    have h0 : (0 : Int) ≤ Int.ofNat i := Int.natCast_nonneg i
    refine SW.seq (SW.block ?_)
    refine SW.run tok hO (by cbv <;> rfl) ?_ ?_
    · exact ⟨h0, Int.ofNat_lt.2 hlt⟩
    refine OpsW.callI (count_ok (f.slo (O.nat (Int.ofNat i))) (f.shi (O.nat (Int.ofNat i)))) (by cbv <;> rfl) fun v hv => ?_
    refine OpsW.run tok hO (by cbv <;> rfl) (by trivial) ?_
    refine SW.run tok hO (by cbv <;> rfl) (by trivial) ?_
    refine ⟨i + 1, by omega, by omega, Weak.by rfl rfl (by simp) (Nat.le_refl _) (Nat.le_refl _) ⟨⟨rfl, .inl rfl⟩, ⟨?_, .inl rfl⟩, ⟨inc_ok hO (by omega), .inl rfl⟩, trivial⟩ ⟨⟨rfl, by omega, .inl rfl⟩, trivial⟩⟩
    subst hO; subst hv; subst hacc; rfl
  · refine SW.seqRun tok hO (by cbv <;> rfl) (by trivial) ?_
    have hge : f.ns ≤ i := by subst hO; simpa [std] using h
    have hin : i = f.ns := by omega
    subst hin; subst hacc
    refine SW.ret ⟨_, _, rfl, rfl, Eqv.of rfl⟩
end Go.Fz
namespace Go.Fz
open Go.Proofs
set_option maxRecDepth 100000
def FarmD.faultN (f : FarmD) : Int := if f.long then 3 else if f.validB then (if 2000 < f.manyN f.ns then 3 else 0) else 1
theorem add1_ok {O : Ar} (hO : O = std) {n : Nat} (h : n < 4611686018427387904) : O.bin .add .i64 (Int.ofNat n) 1 = (n : Int) + 1 := by
  have h1 : O.bin .add .i64 (Int.ofNat n) 1 = add64 (Int.ofNat n) 1 := by rw [hO]; exact add64_eq _ _
  have h2 : add64 (Int.ofNat n) 1 = (n : Int) + 1 := add64_in (n : Int) 1 (by omega) (by omega)
  rw [h1, h2]
set_option maxHeartbeats 4000000 in
theorem fault_ok (f : FarmD) (hs : f.small) : Pure Try.prog 36 [farmV f] (iV f.faultN) := by
  obtain ⟨O, hO⟩ : ∃ O : Ar, O = std := ⟨_, rfl⟩
  obtain ⟨hsb, hss, hsl⟩ := hs
  have hnot : ∀ b, O.not b = !b := fun b => by subst hO; rfl
  refine pure_of_body tok 3 Try.func36 en36 rfl ⟨farmV_below f, trivial⟩ Below.lit ?_
  refine SW.seqRun tok hO (by cbv <;> rfl) (by trivial) ?_
  refine SW.seq ?_
  have long : f.long = true → ∀ (v : AV) (h : Hp), v = iV 3 → Eqv (frz h (fun _ => true) 3 v) (iV f.faultN) := fun hl v h hv => by
    subst hv; unfold FarmD.faultN; rw [if_pos hl]; exact Eqv.refl _
  have bad : f.long = false → f.validB = false → ∀ (v : AV) (h : Hp), v = iV 1 → Eqv (frz h (fun _ => true) 3 v) (iV f.faultN) := fun hl hv v h he => by
    subst he; unfold FarmD.faultN; rw [if_neg (by rw [hl]; simp), if_neg (by rw [hv]; simp)]; exact Eqv.refl _
  refine SW.seqRun tok hO (by cbv <;> rfl) (by trivial) ?_
  have hlong : (8 < f.nb ∨ 4 < f.ns ∨ 5 < f.nl) → f.long = true := fun h => by
    simp only [FarmD.long, Bool.or_eq_true, decide_eq_true_eq]; omega
  refine OpsW.splitG (by cbv <;> rfl) (fun h1 => ?_) (fun h1 => ?_) <;> refine OpsW.run tok hO (by cbv <;> rfl) (by trivial) ?_
  · refine SW.cond (t := true) (by cbv <;> rfl) ?_
    refine SW.seqRun tok hO (by cbv <;> rfl) (by trivial) ?_
    refine SW.ret ⟨_, _, rfl, rfl, long (hlong (.inl ?_)) _ _ rfl⟩
    have : (8 : Int) < f.nb := by subst hO; simpa [std] using h1
    omega
  have k1' : (f.nb : Int) ≤ 8 := by subst hO; simpa [std] using h1
  have k1 : f.nb ≤ 8 := by omega
  refine OpsW.splitG (by cbv <;> rfl) (fun h2 => ?_) (fun h2 => ?_) <;> refine OpsW.run tok hO (by cbv <;> rfl) (by trivial) ?_
  · refine SW.cond (t := true) (by cbv <;> rfl) ?_
    refine SW.seqRun tok hO (by cbv <;> rfl) (by trivial) ?_
    refine SW.ret ⟨_, _, rfl, rfl, long (hlong (.inr (.inl ?_))) _ _ rfl⟩
    have : (4 : Int) < f.ns := by subst hO; simpa [std] using h2
    omega
  have k2' : (f.ns : Int) ≤ 4 := by subst hO; simpa [std] using h2
  have k2 : f.ns ≤ 4 := by omega
  refine SW.condS (by cbv <;> rfl) (fun h3 => ?_) (fun h3 => SW.skip ?_)
  · refine SW.seqRun tok hO (by cbv <;> rfl) (by trivial) ?_
    refine SW.ret ⟨_, _, rfl, rfl, long (hlong (.inr (.inr ?_))) _ _ rfl⟩
    have : (5 : Int) < f.nl := by subst hO; simpa [std] using h3
    omega
  have k3' : (f.nl : Int) ≤ 5 := by subst hO; simpa [std] using h3
  have k3 : f.nl ≤ 5 := by omega
  have hl : f.long = false := by
    simp only [FarmD.long, Bool.or_eq_false_iff, decide_eq_false_iff_not]; omega
  clear h1 h2 h3
  refine SW.seq ?_
  refine SW.seqRun tok hO (by cbv <;> rfl) (by trivial) ?_
  refine SW.condS (by cbv <;> rfl) (fun h1 => ?_) (fun h1 => SW.skip ?_)
  · refine SW.seqRun tok hO (by cbv <;> rfl) (by trivial) ?_
    refine SW.ret ⟨_, _, rfl, rfl, bad hl ?_ _ _ rfl⟩
    have : f.nb = 0 := by
      have : (f.nb : Int) = 0 := by subst hO; simpa [std] using h1
      omega
    simp [FarmD.validB, this]
  have hpos : 0 < f.nb := by
    have : ¬ (f.nb : Int) = 0 := by subst hO; simpa [std] using h1
    omega
  refine SW.seq ?_
  refine SW.seqRun tok hO (by cbv <;> rfl) (by trivial) ?_
  refine (SW.block (SW.loopF (fun i : Nat => ⟨⟨127, getT [(1, .ptr 0 0), (3, iV i)]⟩, []⟩) (fun _ => ⟨[(0, .cells none false [springsV f, bedsV f, looksV f])], 1⟩) (fun i => f.nb - i) (fun i => i ≤ f.nb ∧ ∀ j, j < i → f.bedOk j = true) 0
    (fun _ => rfl) ⟨Nat.zero_le _, fun j hj => absurd hj (Nat.not_lt_zero j)⟩ (Weak.by rfl rfl (by simp) (Nat.le_refl _) (Nat.le_refl _) ⟨⟨rfl, .inl rfl⟩, ⟨rfl, .inl rfl⟩, trivial⟩ ⟨⟨rfl, by omega, .inl rfl⟩, trivial⟩) fun i ⟨hi, hall⟩ => ?_))
  refine SW.seq ?_
  refine SW.seqRun tok hO (by cbv <;> rfl) (by trivial) ?_
  refine SW.condS (by cbv <;> rfl) (fun h => SW.skip ?_) (fun h => SW.exit ?_)
  · have hlt : i < f.nb := by subst hO; simpa [std] using h
    have h0 : (0 : Int) ≤ Int.ofNat i := Int.natCast_nonneg i
    have hnat : O.nat (Int.ofNat i) = i := by subst hO; rfl
    have badb : f.bedOk i = false → f.validB = false := fun hb => by
      simp [FarmD.validB, allN_false hlt hb]
    have nextb : f.bedOk i = true → ∀ j, j < i + 1 → f.bedOk j = true := fun hb j hj => by
      rcases Nat.lt_succ_iff_lt_or_eq.1 hj with hj | rfl
      · exact hall j hj
      · exact hb
    refine SW.seq (SW.block ?_)
    refine SW.seqRun tok hO (by cbv <;> rfl) ?_ ?_
    · exact ⟨h0, Int.ofNat_lt.2 hlt⟩
    refine SW.seqRun tok hO (by cbv <;> rfl) (by trivial) ?_
    refine OpsW.callB (in_ok (f.need (O.nat (Int.ofNat i))) 0 9) (by cbv <;> rfl) fun b1 hb1 => ?_
    rw [hnat] at hb1
    refine OpsW.run tok hO (by cbv <;> rfl) (by trivial) ?_
    refine OpsW.splitG (by cbv <;> rfl) (fun h1 => ?_) (fun h1 => ?_) <;> refine OpsW.run tok hO (by cbv <;> rfl) (by trivial) ?_
    · have hbb : f.bedOk i = false := by
        rw [show b1 = false by simpa using (hnot b1).symm.trans h1] at hb1
        simp only [FarmD.bedOk, notchB]; rw [show (decide (0 ≤ f.need i) && decide (f.need i ≤ 9)) = false from hb1.symm]; simp
      refine SW.cond (t := true) (by cbv <;> rfl) ?_
      refine SW.seqRun tok hO (by cbv <;> rfl) (by trivial) ?_
      exact SW.ret ⟨_, _, rfl, rfl, bad hl (badb hbb) _ _ rfl⟩
    rw [show b1 = true by simpa using (hnot b1).symm.trans h1] at hb1
    refine OpsW.callB (in_ok (f.notch (O.nat (Int.ofNat i))) 0 9) (by cbv <;> rfl) fun b2 hb2 => ?_
    rw [hnat] at hb2
    refine OpsW.run tok hO (by cbv <;> rfl) (by trivial) ?_
    refine OpsW.splitG (by cbv <;> rfl) (fun h2 => ?_) (fun h2 => ?_) <;> refine OpsW.run tok hO (by cbv <;> rfl) (by trivial) ?_
    · have hbb : f.bedOk i = false := by
        rw [show b2 = false by simpa using (hnot b2).symm.trans h2] at hb2
        simp only [FarmD.bedOk, notchB]; rw [show (decide (0 ≤ f.notch i) && decide (f.notch i ≤ 9)) = false from hb2.symm]; simp
      refine SW.cond (t := true) (by cbv <;> rfl) ?_
      refine SW.seqRun tok hO (by cbv <;> rfl) (by trivial) ?_
      exact SW.ret ⟨_, _, rfl, rfl, bad hl (badb hbb) _ _ rfl⟩
    rw [show b2 = true by simpa using (hnot b2).symm.trans h2] at hb2
    have e1 : notchB (f.need i) = true := hb1.symm
    have e2 : notchB (f.notch i) = true := hb2.symm
    have inv : ∀ (x' : Nat), x' = i + 1 → f.bedOk i = true → f.nb - x' < f.nb - i ∧ x' ≤ f.nb ∧ ∀ j, j < x' → f.bedOk j = true := fun x' hx hb => by
      subst hx; exact ⟨by omega, by omega, nextb hb⟩
    refine OpsW.splitG (by cbv <;> rfl) (fun h3 => ?_) (fun h3 => ?_) <;> refine OpsW.run tok hO (by cbv <;> rfl) (by trivial) ?_
    · have hd : ¬ f.down i = -1 := by subst hO; simpa [std] using h3
      refine OpsW.callB (in_ok (f.down (O.nat (Int.ofNat i))) (O.bin .add .i64 (Int.ofNat i) 1) (O.bin .sub .i64 (Int.ofNat f.nb) 1)) (by cbv <;> rfl) fun b3 hb3 => ?_
      rw [hnat, add1_ok hO (by omega), sub1_ok hO hsb] at hb3
      refine OpsW.run tok hO (by cbv <;> rfl) (by trivial) ?_
      have hiff : f.bedOk i = b3 := by
        rw [Bool.eq_iff_iff, hb3]
        simp only [FarmD.bedOk, e1, e2, inB, FarmD.hasB, Bool.and_eq_true, Bool.or_eq_true, decide_eq_true_eq, Bool.true_and]
        omega
      refine SW.condS (by cbv <;> rfl) (fun h4 => ?_) (fun h4 => SW.skip ?_)
      · refine SW.seqRun tok hO (by cbv <;> rfl) (by trivial) ?_
        exact SW.ret ⟨_, _, rfl, rfl, bad hl (badb (by rw [hiff]; simpa using (hnot b3).symm.trans h4)) _ _ rfl⟩
      · refine SW.run tok hO (by cbv <;> rfl) (by trivial) ?_
        obtain ⟨p1, p2, p3⟩ := inv _ rfl (by rw [hiff]; simpa using (hnot b3).symm.trans h4)
        exact ⟨i + 1, p1, ⟨p2, p3⟩, Weak.by rfl rfl (by simp) (Nat.le_refl _) (by show 1 ≤ 2; omega) ⟨⟨rfl, .inr (Below.ptr (by omega))⟩, ⟨inc_ok hO (by omega), .inr Below.lit⟩, trivial⟩ ⟨⟨rfl, by omega, .inr ⟨AllB.ok ⟨Below.up (m := 0) (springsV_below f), Below.up (m := 0) (bedsV_below f), Below.up (m := 0) (looksV_below f), trivial⟩, fun _ h => by cases h⟩⟩, trivial⟩⟩
    · have hd : f.down i = -1 := by subst hO; simpa [std] using h3
      refine SW.cond (t := false) (by cbv <;> rfl) (SW.skip ?_)
      refine SW.run tok hO (by cbv <;> rfl) (by trivial) ?_
      obtain ⟨p1, p2, p3⟩ := inv _ rfl (by simp [FarmD.bedOk, e1, e2, hd])
      exact ⟨i + 1, p1, ⟨p2, p3⟩, Weak.by rfl rfl (by simp) (Nat.le_refl _) (by show 1 ≤ 2; omega) ⟨⟨rfl, .inr (Below.ptr (by omega))⟩, ⟨inc_ok hO (by omega), .inr Below.lit⟩, trivial⟩ ⟨⟨rfl, by omega, .inr ⟨AllB.ok ⟨Below.up (m := 0) (springsV_below f), Below.up (m := 0) (bedsV_below f), Below.up (m := 0) (looksV_below f), trivial⟩, fun _ h => by cases h⟩⟩, trivial⟩⟩
  have hge : f.nb ≤ i := by subst hO; simpa [std] using h
  have hbeds : allN f.nb f.bedOk = true := allN_true fun j hj => hall j (by omega)
  refine SW.seq ?_
  refine SW.seqRun tok hO (by cbv <;> rfl) (by trivial) ?_
  refine (SW.block (SW.loopF (fun i : Nat => ⟨⟨127, getT [(1, .ptr 0 0), (5, iV i)]⟩, []⟩) (fun _ => ⟨[(0, .cells none false [springsV f, bedsV f, looksV f])], 1⟩) (fun i => f.ns - i) (fun i => i ≤ f.ns ∧ ∀ j, j < i → f.springOk j = true) 0
    (fun _ => rfl) ⟨Nat.zero_le _, fun j hj => absurd hj (Nat.not_lt_zero j)⟩ (Weak.by rfl rfl (by simp) (Nat.le_refl _) (Nat.le_refl _) ⟨⟨rfl, .inl rfl⟩, ⟨rfl, .inl rfl⟩, trivial⟩ ⟨⟨rfl, by omega, .inl rfl⟩, trivial⟩) fun i ⟨hi, hall⟩ => ?_))
  refine SW.seq ?_
  refine SW.seqRun tok hO (by cbv <;> rfl) (by trivial) ?_
  refine SW.condS (by cbv <;> rfl) (fun h => SW.skip ?_) (fun h => SW.exit ?_)
  · have hlt : i < f.ns := by subst hO; simpa [std] using h
    have h0 : (0 : Int) ≤ Int.ofNat i := Int.natCast_nonneg i
    have hnat : O.nat (Int.ofNat i) = i := by subst hO; rfl
    have badb : f.springOk i = false → f.validB = false := fun hb => by
      simp [FarmD.validB, allN_false hlt hb]
    have nextb : f.springOk i = true → ∀ j, j < i + 1 → f.springOk j = true := fun hb j hj => by
      rcases Nat.lt_succ_iff_lt_or_eq.1 hj with hj | rfl
      · exact hall j hj
      · exact hb
    refine SW.seq (SW.block ?_)
    refine SW.seqRunD tok mixed hO (by rfl) (by cbv <;> rfl) ?_ ?_
    · exact ⟨h0, Int.ofNat_lt.2 hlt⟩
    refine AnyE.callD (in_ok (f.sb (O.nat (Int.ofNat i))) 0 (O.bin .sub .i64 (Int.ofNat f.nb) 1)) (by cbv <;> rfl) (by cbv <;> rfl) (fun h1 => ?_) (fun h1 => ?_)
    · rw [hnat, sub1_ok hO hsb] at h1
      have e1 : f.hasB (f.sb i) = true := by
        simp only [inB, Bool.and_eq_true, decide_eq_true_eq] at h1
        simp only [FarmD.hasB, Bool.and_eq_true, decide_eq_true_eq]; omega
      refine AnyE.run tok hO (by rfl) (by cbv <;> rfl) ?_ ?_
      · exact ⟨h0, Int.ofNat_lt.2 hlt⟩
      refine AnyE.callD (within1_ok (f.slo (O.nat (Int.ofNat i))) (f.shi (O.nat (Int.ofNat i))) 0 30) (by cbv <;> rfl) (by cbv <;> rfl) (fun h2 => ?_) (fun h2 => ?_)
      · rw [hnat] at h2
        have hb : f.springOk i = true := by simp only [FarmD.springOk, e1, h2, Bool.and_self]
        refine AnyE.run tok hO (by rfl) (by cbv <;> rfl) (by trivial) ?_
        refine SW.cond (t := false) (by cbv <;> rfl) (SW.skip ?_)
        refine SW.run tok hO (by cbv <;> rfl) (by trivial) ?_
        exact ⟨i + 1, by omega, ⟨by omega, nextb hb⟩, Weak.by rfl rfl (by simp) (Nat.le_refl _) (Nat.le_refl _) ⟨⟨rfl, .inl rfl⟩, ⟨inc_ok hO (by omega), .inl rfl⟩, trivial⟩ ⟨⟨rfl, by omega, .inl rfl⟩, trivial⟩⟩
      · rw [hnat] at h2
        have hb : f.springOk i = false := by simp only [FarmD.springOk, h2, Bool.and_false]
        refine AnyE.run tok hO (by rfl) (by cbv <;> rfl) (by trivial) ?_
        refine SW.cond (t := true) (by cbv <;> rfl) ?_
        refine SW.seqRun tok hO (by cbv <;> rfl) (by trivial) ?_
        exact SW.ret ⟨_, _, rfl, rfl, bad hl (badb hb) _ _ rfl⟩
    · rw [hnat, sub1_ok hO hsb] at h1
      have e1 : f.hasB (f.sb i) = false := by
        rw [← Bool.not_eq_true] at h1 ⊢
        simp only [inB, Bool.and_eq_true, decide_eq_true_eq] at h1
        simp only [FarmD.hasB, Bool.and_eq_true, decide_eq_true_eq]; omega
      have hb : f.springOk i = false := by simp only [FarmD.springOk, e1, Bool.false_and]
      refine AnyE.run tok hO (by rfl) (by cbv <;> rfl) (by trivial) ?_
      refine SW.cond (t := true) (by cbv <;> rfl) ?_
      refine SW.seqRun tok hO (by cbv <;> rfl) (by trivial) ?_
      exact SW.ret ⟨_, _, rfl, rfl, bad hl (badb hb) _ _ rfl⟩
  have hge : f.ns ≤ i := by subst hO; simpa [std] using h
  have hsprings : allN f.ns f.springOk = true := allN_true fun j hj => hall j (by omega)
  refine SW.seq ?_
  refine SW.seqRun tok hO (by cbv <;> rfl) (by trivial) ?_
  refine (SW.block (SW.loopF (fun i : Nat => ⟨⟨127, getT [(1, .ptr 0 0), (6, iV i)]⟩, []⟩) (fun _ => ⟨[(0, .cells none false [springsV f, bedsV f, looksV f])], 1⟩) (fun i => f.nl - i) (fun i => i ≤ f.nl ∧ ∀ j, j < i → f.lookOk j = true) 0
    (fun _ => rfl) ⟨Nat.zero_le _, fun j hj => absurd hj (Nat.not_lt_zero j)⟩ (Weak.by rfl rfl (by simp) (Nat.le_refl _) (Nat.le_refl _) ⟨⟨rfl, .inl rfl⟩, ⟨rfl, .inl rfl⟩, trivial⟩ ⟨⟨rfl, by omega, .inl rfl⟩, trivial⟩) fun i ⟨hi, hall⟩ => ?_))
  refine SW.seq ?_
  refine SW.seqRun tok hO (by cbv <;> rfl) (by trivial) ?_
  refine SW.condS (by cbv <;> rfl) (fun h => SW.skip ?_) (fun h => SW.exit ?_)
  · have hlt : i < f.nl := by subst hO; simpa [std] using h
    have h0 : (0 : Int) ≤ Int.ofNat i := Int.natCast_nonneg i
    have hnat : O.nat (Int.ofNat i) = i := by subst hO; rfl
    have badb : f.lookOk i = false → f.validB = false := fun hb => by
      simp [FarmD.validB, allN_false hlt hb]
    have nextb : f.lookOk i = true → ∀ j, j < i + 1 → f.lookOk j = true := fun hb j hj => by
      rcases Nat.lt_succ_iff_lt_or_eq.1 hj with hj | rfl
      · exact hall j hj
      · exact hb
    refine SW.seq (SW.block ?_)
    refine SW.seqRunD tok mixed hO (by rfl) (by cbv <;> rfl) ?_ ?_
    · exact ⟨h0, Int.ofNat_lt.2 hlt⟩
    refine AnyE.callD (in_ok (f.lb (O.nat (Int.ofNat i))) 0 (O.bin .sub .i64 (Int.ofNat f.nb) 1)) (by cbv <;> rfl) (by cbv <;> rfl) (fun h1 => ?_) (fun h1 => ?_)
    · rw [hnat, sub1_ok hO hsb] at h1
      have e1 : f.hasB (f.lb i) = true := by
        simp only [inB, Bool.and_eq_true, decide_eq_true_eq] at h1
        simp only [FarmD.hasB, Bool.and_eq_true, decide_eq_true_eq]; omega
      refine AnyE.run tok hO (by rfl) (by cbv <;> rfl) ?_ ?_
      · exact ⟨h0, Int.ofNat_lt.2 hlt⟩
      refine AnyE.callD (within1_ok (f.llo (O.nat (Int.ofNat i))) (f.lhi (O.nat (Int.ofNat i))) 0 120) (by cbv <;> rfl) (by cbv <;> rfl) (fun h2 => ?_) (fun h2 => ?_)
      · rw [hnat] at h2
        have hb : f.lookOk i = true := by simp only [FarmD.lookOk, e1, h2, Bool.and_self]
        refine AnyE.run tok hO (by rfl) (by cbv <;> rfl) (by trivial) ?_
        refine SW.cond (t := false) (by cbv <;> rfl) (SW.skip ?_)
        refine SW.run tok hO (by cbv <;> rfl) (by trivial) ?_
        exact ⟨i + 1, by omega, ⟨by omega, nextb hb⟩, Weak.by rfl rfl (by simp) (Nat.le_refl _) (Nat.le_refl _) ⟨⟨rfl, .inl rfl⟩, ⟨inc_ok hO (by omega), .inl rfl⟩, trivial⟩ ⟨⟨rfl, by omega, .inl rfl⟩, trivial⟩⟩
      · rw [hnat] at h2
        have hb : f.lookOk i = false := by simp only [FarmD.lookOk, h2, Bool.and_false]
        refine AnyE.run tok hO (by rfl) (by cbv <;> rfl) (by trivial) ?_
        refine SW.cond (t := true) (by cbv <;> rfl) ?_
        refine SW.seqRun tok hO (by cbv <;> rfl) (by trivial) ?_
        exact SW.ret ⟨_, _, rfl, rfl, bad hl (badb hb) _ _ rfl⟩
    · rw [hnat, sub1_ok hO hsb] at h1
      have e1 : f.hasB (f.lb i) = false := by
        rw [← Bool.not_eq_true] at h1 ⊢
        simp only [inB, Bool.and_eq_true, decide_eq_true_eq] at h1
        simp only [FarmD.hasB, Bool.and_eq_true, decide_eq_true_eq]; omega
      have hb : f.lookOk i = false := by simp only [FarmD.lookOk, e1, Bool.false_and]
      refine AnyE.run tok hO (by rfl) (by cbv <;> rfl) (by trivial) ?_
      refine SW.cond (t := true) (by cbv <;> rfl) ?_
      refine SW.seqRun tok hO (by cbv <;> rfl) (by trivial) ?_
      exact SW.ret ⟨_, _, rfl, rfl, bad hl (badb hb) _ _ rfl⟩
  have hge : f.nl ≤ i := by subst hO; simpa [std] using h
  have hlooks : allN f.nl f.lookOk = true := allN_true fun j hj => hall j (by omega)
  have hv : f.validB = true := by simp [FarmD.validB, hpos, hbeds, hsprings, hlooks]
  refine SW.seq ?_
  refine SW.seqRun tok hO (by cbv <;> rfl) (by trivial) ?_
  refine OpsW.callI (many_ok f ⟨hsb, hss, hsl⟩) (by cbv <;> rfl) fun n hn => ?_
  refine OpsW.run tok hO (by cbv <;> rfl) (by trivial) ?_
  refine SW.condS (by cbv <;> rfl) (fun h3 => ?_) (fun h3 => SW.skip ?_)
  · refine SW.seqRun tok hO (by cbv <;> rfl) (by trivial) ?_
    have : 2000 < f.manyN f.ns := by subst hO; simpa [std, hn] using h3
    refine SW.ret ⟨_, _, rfl, rfl, Eqv.int ?_⟩
    simp [FarmD.faultN, hl, hv, this]
  · have : ¬ 2000 < f.manyN f.ns := by subst hO; simpa [std, hn] using h3
    refine SW.seqRun tok hO (by cbv <;> rfl) (by trivial) ?_
    refine SW.ret ⟨_, _, rfl, rfl, Eqv.int ?_⟩
    simp [FarmD.faultN, hl, hv, this]
end Go.Fz
namespace Go.Fz
open Go.Proofs
set_option maxRecDepth 100000
def FarmD.thinB (f : FarmD) : Bool := decide (f.nb ≤ 10) && decide (f.ns ≤ 6) && decide (f.nl ≤ 7) && (decide (f.faultN ≠ 0) || decide (f.manyN f.ns ≤ 150))
set_option maxHeartbeats 4000000 in
theorem thin_ok (f : FarmD) : Pure Try.prog 18 [farmV f] (.sb f.thinB) := by
  obtain ⟨O, hO⟩ : ∃ O : Ar, O = std := ⟨_, rfl⟩
  refine pure_of_body tok 3 Try.func18 en18 rfl ⟨farmV_below f, trivial⟩ Below.sb ?_
  refine SW.seqRun tok hO (by cbv <;> rfl) (by trivial) ?_
  refine SW.seqRun tok hO (by cbv <;> rfl) (by trivial) ?_
  refine OpsW.splitG (by cbv <;> rfl) (fun h1 => ?_) (fun h1 => ?_) <;> refine OpsW.run tok hO (by cbv <;> rfl) (by trivial) ?_
  rotate_left
  · have : ¬ (f.nb : Int) ≤ 10 := by subst hO; simpa [std] using h1
    refine SW.ret ⟨_, _, rfl, rfl, Eqv.bool ?_⟩
    have : ¬ f.nb ≤ 10 := by omega
    simp [FarmD.thinB, this]
  have k1' : (f.nb : Int) ≤ 10 := by subst hO; simpa [std] using h1
  have k1 : f.nb ≤ 10 := by omega
  refine OpsW.splitG (by cbv <;> rfl) (fun h2 => ?_) (fun h2 => ?_) <;> refine OpsW.run tok hO (by cbv <;> rfl) (by trivial) ?_
  rotate_left
  · have : ¬ (f.ns : Int) ≤ 6 := by subst hO; simpa [std] using h2
    refine SW.ret ⟨_, _, rfl, rfl, Eqv.bool ?_⟩
    have : ¬ f.ns ≤ 6 := by omega
    simp [FarmD.thinB, this]
  have k2' : (f.ns : Int) ≤ 6 := by subst hO; simpa [std] using h2
  have k2 : f.ns ≤ 6 := by omega
  refine OpsW.splitG (by cbv <;> rfl) (fun h3 => ?_) (fun h3 => ?_) <;> refine OpsW.run tok hO (by cbv <;> rfl) (by trivial) ?_
  rotate_left
  · have : ¬ (f.nl : Int) ≤ 7 := by subst hO; simpa [std] using h3
    refine SW.ret ⟨_, _, rfl, rfl, Eqv.bool ?_⟩
    have : ¬ f.nl ≤ 7 := by omega
    simp [FarmD.thinB, this]
  have k3' : (f.nl : Int) ≤ 7 := by subst hO; simpa [std] using h3
  have k3 : f.nl ≤ 7 := by omega
  have hs : f.small := ⟨by omega, by omega, by omega⟩
  refine OpsW.callI (fault_ok f hs) (by cbv <;> rfl) fun e he => ?_
  refine OpsW.run tok hO (by cbv <;> rfl) (by trivial) ?_
  refine OpsW.splitG (by cbv <;> rfl) (fun h4 => ?_) (fun h4 => ?_) <;> refine OpsW.run tok hO (by cbv <;> rfl) (by trivial) ?_
  · have : f.faultN ≠ 0 := by subst hO; rw [← he]; simpa [std] using h4
    refine SW.ret ⟨_, _, rfl, rfl, Eqv.bool ?_⟩
    simp [FarmD.thinB, this, k1, k2, k3]
  · have h5 : ¬ f.faultN ≠ 0 := by subst hO; rw [← he]; simpa [std] using h4
    refine OpsW.callI (many_ok f hs) (by cbv <;> rfl) fun m hm => ?_
    refine OpsW.run tok hO (by cbv <;> rfl) (by trivial) ?_
    refine SW.ret ⟨_, _, rfl, rfl, Eqv.sb ?_⟩
    subst hO
    simp [FarmD.thinB, k1, k2, k3, h5, std, ← hm]
end Go.Fz
namespace Go.Fz
open Go.Proofs
set_option maxRecDepth 100000
end Go.Fz
namespace Go.Fz
open Go.Proofs
set_option maxRecDepth 100000
def maxI (a b : Int) : Int := if a < b then b else a
def FarmD.inS (f : FarmD) (fl : Nat → Int) (bed : Nat) : Nat → Int
  | 0 => 0
  | s + 1 => if f.sb s = (bed : Int) then add64 (f.inS fl bed s) (fl s) else f.inS fl bed s
def FarmD.inB (f : FarmD) (fl : Nat → Int) (W : Nat → Int) (bed : Nat) : Nat → Int
  | 0 => f.inS fl bed f.ns
  | i + 1 => if f.down i = (bed : Int) then add64 (f.inB fl W bed i) (maxI 0 (sub64 (W i) (f.notch i))) else f.inB fl W bed i
def FarmD.waT (f : FarmD) (fl : Nat → Int) : Nat → Nat → Int
  | 0, _ => 0
  | k + 1, b => if b = k then f.inB fl (f.waT fl k) k k else f.waT fl k b
def FarmD.waN (f : FarmD) (fl : Nat → Int) (b : Nat) : Int := f.waT fl (b + 1) b
theorem FarmD.waT_eq (f : FarmD) (fl : Nat → Int) : ∀ (k b : Nat), b < k → f.waT fl k b = f.waN fl b
  | k + 1, b, h => by
    by_cases hb : b = k
    · subst hb; rfl
    · show (if b = k then _ else _) = _
      rw [if_neg hb]; exact f.waT_eq fl k b (by omega)
theorem FarmD.inB_eq (f : FarmD) (fl : Nat → Int) (V W : Nat → Int) (bed : Nat) : ∀ i, (∀ j, j < i → V j = W j) → f.inB fl V bed i = f.inB fl W bed i
  | 0, _ => rfl
  | i + 1, h => by
    simp only [FarmD.inB]
    rw [f.inB_eq fl V W bed i fun j hj => h j (by omega), h i (by omega)]
theorem FarmD.waN_eq (f : FarmD) (fl : Nat → Int) (b : Nat) : f.waN fl b = f.inB fl (f.waN fl) b b := by
  show (if b = b then _ else _) = _
  rw [if_pos rfl]; exact f.inB_eq fl _ _ b b fun j hj => f.waT_eq fl b j hj
end Go.Fz
namespace Go.Fz
open Go.Proofs
set_option maxRecDepth 100000
end Go.Fz
namespace Go.Fz
open Go.Proofs
set_option maxRecDepth 100000
def FarmD.downN (f : FarmD) (fl : Nat → Int) (b : Nat) : Int := minI (f.waN fl b) (f.notch b)
end Go.Fz
namespace Go.Fz
open Go.Proofs
set_option maxRecDepth 100000
end Go.Fz
