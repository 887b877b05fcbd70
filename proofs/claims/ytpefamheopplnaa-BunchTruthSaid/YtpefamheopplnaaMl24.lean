/- Own work of the verifier of watercress: FzB17. -/
import Derived.Test.YtpefamheopplnaaMl15
set_option linter.unusedVariables false
set_option linter.unusedSimpArgs false
namespace Go.Fz
open Go.Proofs
set_option maxRecDepth 100000
def plS (d : DayD) (t : TruD) (A B : AV) (x y z u : Int) (H : Hp) (n : Nat) : St := ⟨H ++ [(3, .cells none false [A, B, iV x, iV y, iV z, iV u]), (2, .cells none false tal0), (1, .cells none false (truC t)), (0, .cells none false (dayC d))], n⟩
set_option maxHeartbeats 16000000 in
theorem playN_ok (d : DayD) (t : TruD) (hf : t.nf = d.nw) (hs : t.ns = d.nl) (hw : d.nw ≤ 4) (hl : d.nl ≤ 4) (hfe : ∀ w, w < d.nw → 1 ≤ t.fe w) (hh : 1 ≤ d.hand) (hfl : 1 ≤ d.flat)
    (hst : ∀ w, w < d.nw → 0 ≤ stemN d t.st w d.nl ∧ stemN d t.st w d.nl ≤ 1000000000) (ha0 : 0 ≤ d.all t) (ha1 : d.all t ≤ 1000000000) : Pure Try.prog 47 [dayV d, truV t] (talV (d.tally t)) := by
  obtain ⟨O, hO⟩ : ∃ O : Ar, O = std := ⟨_, rfl⟩
  have hnat : ∀ i : Nat, O.nat (Int.ofNat i) = i := fun i => by subst hO; rfl
  refine pure_of_body tok 3 Try.func47 en47 rfl ⟨dayV_below d, truV_below t, trivial⟩ (talV_below _) ?_
  refine SW.seqRun tok hO (by cbv <;> rfl) (by trivial) ?_
  refine SW.seqRun tok hO (by cbv <;> rfl) (by trivial) ?_
  refine SW.seqRun tok hO (by cbv <;> rfl) (by trivial) ?_
  obtain ⟨BU, hBU⟩ : ∃ b, b = d.bun t := ⟨_, rfl⟩
  obtain ⟨LE, hLE⟩ : ∃ b, b = d.lef t := ⟨_, rfl⟩
  have hsum : ∀ i v, v = BU i → O.bin .add .i64 (sumN BU i) v = sumN BU (i + 1) := fun i v hv => by subst hv; subst hO; rfl
  have hbu : ∀ i : Nat, O.bin .quo .i64 (stemN d t.st i d.nl) (t.fe i) = BU i := fun i => by subst hO; subst hBU; show quo64 _ _ = quo64 (stemN d t.st i t.ns) (t.fe i); rw [hs]
  have hle : ∀ i : Nat, i < d.nw → O.bin .sub .i64 (stemN d t.st i d.nl) (O.bin .mul .i64 (BU i) (t.fe i)) = LE i := fun i hi => by
    rw [← hbu i]; subst hO; subst hLE
    show sub64 _ (mul64 (quo64 _ _) _) = (stemN d t.st i t.ns).tmod (t.fe i)
    rw [hs]; exact made_eq (hst i hi).1 (hst i hi).2 (hfe i hi)
  refine SW.seq (SW.mono (Q := fun e fm st => e = .normal ∧ ∃ g A B, fm = ⟨⟨106, g⟩, []⟩ ∧ g 2 = .ptr 0 0 ∧ g 4 = .ptr 2 0 ∧ g 5 = .ptr 3 0 ∧ g 6 = iV (sumN BU d.nw) ∧ Eqv A (intsV d.nw false BU) ∧ Eqv B (intsV d.nw false LE) ∧ (A = nl3 ∨ ∃ len sz h, A = .isl len sz false h) ∧ (B = nl3 ∨ ∃ len sz h, B = .isl len sz false h) ∧ st = plS d t A B 0 0 0 0 [] 6) ?_ ?_)
  · refine SW.seqRun tok hO (by cbv <;> rfl) (by trivial) ?_
    refine (SW.block (SW.loopR (fun i : Nat => ⟨⟨106, getT [(2, .ptr 0 0), (3, .ptr 1 0), (4, .ptr 2 0), (5, .ptr 3 0), (6, iV (sumN BU i)), (7, iV i)]⟩, []⟩) (fun i => plS d t (slG 4 1 i) (slG 5 1 i) 0 0 0 0 (objs2 BU LE i) 6) (fun i => d.nw - i) (fun i => i ≤ d.nw) 0 (Nat.zero_le _) (ren2 4 4 5 5) ?_ fun i hi => ?_))
    · refine WeakR.up2 (fun _ => none) (fun _ _ _ h => by cases h) rfl rfl (by simp) (by show 4 ≤ 4; omega) (by show 4 ≤ 5; omega) (inj_of (by rfl)) (by show 4 ≤ 6; omega) ⟨RenV.ptr (by omega), RenV.ptr (by omega), RenV.ptr (by omega), RenV.ptr (by omega), RenV.closed Below.lit, RenV.closed Below.lit, trivial⟩
        ⟨⟨by omega, _, rfl, .cells (RenVs.closed tal0_below), rfl⟩, ⟨by omega, _, rfl, .cells (RenVs.closed tal0_below), rfl⟩, ⟨by omega, _, rfl, .cells (RenVs.closed (truC_below t)), rfl⟩, ⟨by omega, _, rfl, .cells (RenVs.closed (dayC_below d)), rfl⟩, trivial⟩
    have hsum := hsum i
    obtain ⟨acc, hacc⟩ : ∃ acc, acc = sumN BU i := ⟨_, rfl⟩
    rw [← hacc] at hsum ⊢
    cases i with
    | zero =>
      refine SW.seq ?_
      refine SW.seqRun tok hO (by cbv <;> rfl) (by trivial) ?_
      refine SW.condS (by cbv <;> rfl) (fun h => SW.skip ?_) (fun h => ?_)
      · have hlt : 0 < d.nw := by subst hO; simpa [std] using h
        have hlt' : 0 < t.nf := by omega
        have hi0 : (0 : Int) ≤ Int.ofNat 0 := Int.natCast_nonneg 0
        refine SW.seq (SW.block ?_)
        refine SW.seqRun tok hO (by cbv <;> rfl) (by trivial) ?_
        refine SW.seq ?_
        refine SW.seqRun tok hO (by cbv <;> rfl) (by trivial) ?_
        refine (SW.block (SW.loopF (fun j : Nat => ⟨⟨106, getT [(2, .ptr 0 0), (3, .ptr 1 0), (4, .ptr 2 0), (5, .ptr 3 0), (6, iV acc), (7, iV ((0 : Nat) : Int)), (8, iV (stemN d t.st (0) j)), (9, iV j)]⟩, []⟩)
          (fun _ => plS d t (nl3) (nl3) 0 0 0 0 [] 6) (fun j => d.nl - j) (fun j => j ≤ d.nl) 0
          (fun _ => rfl) (Nat.zero_le _) (Weak.by rfl rfl (by simp) (Nat.le_refl _) (Nat.le_refl _) ⟨⟨rfl, .inl rfl⟩, ⟨rfl, .inl rfl⟩, ⟨rfl, .inl rfl⟩, ⟨rfl, .inl rfl⟩, ⟨rfl, .inl rfl⟩, ⟨rfl, .inl rfl⟩, ⟨rfl, .inl rfl⟩, ⟨rfl, .inl rfl⟩, trivial⟩ ⟨⟨rfl, by omega, .inl rfl⟩, ⟨rfl, by omega, .inl rfl⟩, ⟨rfl, by omega, .inl rfl⟩, ⟨rfl, by omega, .inl rfl⟩, trivial⟩) fun j hj => ?_))
        obtain ⟨sm, hsm⟩ : ∃ sm, sm = stemN d t.st (0) j := ⟨_, rfl⟩
        rw [← hsm]
        refine SW.seq ?_
        refine SW.seqRun tok hO (by cbv <;> rfl) (by trivial) ?_
        refine SW.condS (by cbv <;> rfl) (fun h => SW.skip ?_) (fun h => SW.exit ?_)
        · have hltj : j < d.nl := by subst hO; simpa [std] using h
          have hltj' : j < t.ns := by omega
          have hj0 : (0 : Int) ≤ Int.ofNat j := Int.natCast_nonneg j
          refine SW.seq (SW.block ?_)
          refine SW.seqRun tok hO (by cbv <;> rfl) ?_ ?_
          · exact ⟨hj0, Int.ofNat_lt.2 hltj⟩
          refine SW.condS (by cbv <;> rfl) (fun h2 => ?_) (fun h2 => SW.skip ?_)
          · refine SW.run tok hO (by cbv <;> rfl) ?_ ?_
            · exact ⟨hj0, Int.ofNat_lt.2 hltj'⟩
            refine SW.run tok hO (by cbv <;> rfl) (by trivial) ?_
            have hwl : d.lw j = ((0 : Nat) : Int) := by subst hO; simpa [std] using h2
            have e : stemN d t.st (0) (j + 1) = O.bin .add .i64 sm (t.st (O.nat (Int.ofNat j))) := by
              subst hO; subst hsm; show (if d.lw j = ((0 : Nat) : Int) then add64 (stemN d t.st (0) j) (t.st j) else _) = _; rw [if_pos hwl]; rfl
            refine ⟨j + 1, by omega, by omega, Weak.by rfl rfl (by simp) (Nat.le_refl _) (Nat.le_refl _) ⟨⟨rfl, .inl rfl⟩, ⟨rfl, .inl rfl⟩, ⟨rfl, .inl rfl⟩, ⟨rfl, .inl rfl⟩, ⟨rfl, .inl rfl⟩, ⟨rfl, .inl rfl⟩, ⟨?_, .inl rfl⟩, ⟨inc_ok hO (by omega), .inl rfl⟩, trivial⟩ ⟨⟨rfl, by omega, .inl rfl⟩, ⟨rfl, by omega, .inl rfl⟩, ⟨rfl, by omega, .inl rfl⟩, ⟨rfl, by omega, .inl rfl⟩, trivial⟩⟩
            rw [e]; rfl
          · refine SW.run tok hO (by cbv <;> rfl) (by trivial) ?_
            have hwl : ¬ d.lw j = ((0 : Nat) : Int) := by subst hO; simpa [std] using h2
            have e : stemN d t.st (0) (j + 1) = sm := by
              subst hsm; show (if d.lw j = ((0 : Nat) : Int) then add64 (stemN d t.st (0) j) (t.st j) else _) = _; rw [if_neg hwl]
            refine ⟨j + 1, by omega, by omega, Weak.by rfl rfl (by simp) (Nat.le_refl _) (Nat.le_refl _) ⟨⟨rfl, .inl rfl⟩, ⟨rfl, .inl rfl⟩, ⟨rfl, .inl rfl⟩, ⟨rfl, .inl rfl⟩, ⟨rfl, .inl rfl⟩, ⟨rfl, .inl rfl⟩, ⟨?_, .inl rfl⟩, ⟨inc_ok hO (by omega), .inl rfl⟩, trivial⟩ ⟨⟨rfl, by omega, .inl rfl⟩, ⟨rfl, by omega, .inl rfl⟩, ⟨rfl, by omega, .inl rfl⟩, ⟨rfl, by omega, .inl rfl⟩, trivial⟩⟩
            rw [e]; rfl
        have hjn : j = d.nl := by
          have : d.nl ≤ j := by subst hO; simpa [std] using h
          omega
        have hbui : O.bin .quo .i64 sm (t.fe (O.nat (Int.ofNat (0)))) = BU (0) := by rw [hnat, hsm, hjn]; exact hbu (0)
        have hlei : O.bin .sub .i64 sm (O.bin .mul .i64 (O.bin .quo .i64 sm (t.fe (O.nat (Int.ofNat (0))))) (t.fe (O.nat (Int.ofNat (0))))) = LE (0) := by rw [hbui, hnat, hsm, hjn]; exact hle (0) hlt
        have hF0 : t.fe (O.nat (Int.ofNat (0))) ≠ 0 := by rw [hnat]; have := hfe (0) hlt; omega
        refine SW.seqRun tok hO (by cbv <;> rfl) ?_ ?_
        · exact ⟨hF0, hi0, Int.ofNat_lt.2 hlt'⟩
        refine SW.seqRunD tok mixed hO (by rfl) (by cbv <;> rfl) ?_ ?_
        · exact ⟨hi0, Int.ofNat_lt.2 hlt'⟩
        refine AnyE.two 3 16 (by cbv <;> rfl) ?_ ?_
        · refine PickE.eff tok hO (by cbv <;> rfl) (by cbv <;> rfl) (by trivial) ?_ ?_
          · exact (by repeat (first | exact trivial | refine And.intro (by first | exact lv_of hO (by cbv <;> rfl) (by trivial) | (refine lv_of hO (by cbv <;> rfl) ?_; exact ⟨hi0, Int.ofNat_lt.2 hlt'⟩)) ?_))
          refine AnyE.two 4 16 (by cbv <;> rfl) ?_ ?_
          · refine PickE.appNil tok (by cbv <;> rfl) (by cbv <;> rfl) (by rfl) (by kernel_rfl) (by rfl) (by rfl) ?_ ?_
            · exact (by repeat (first | exact trivial | refine And.intro (by first | exact lv_of hO (by cbv <;> rfl) (by trivial) | (refine lv_of hO (by cbv <;> rfl) ?_; exact ⟨hi0, Int.ofNat_lt.2 hlt'⟩)) ?_))
            refine AnyE.run tok hO (by rfl) (by cbv <;> rfl) (by trivial) ?_
            refine AnyE.effK tok hO (by cbv <;> rfl) (by cbv <;> rfl) (by trivial) ?_ ?_
            · exact (by repeat (first | exact trivial | refine And.intro (by first | exact lv_of hO (by cbv <;> rfl) (by trivial) | (refine lv_of hO (by cbv <;> rfl) ?_; exact ⟨hi0, Int.ofNat_lt.2 hlt'⟩)) ?_))
            refine AnyE.appNilK tok (by cbv <;> rfl) (by cbv <;> rfl) (by rfl) (by kernel_rfl) (by rfl) (by rfl) ?_ ?_
            · exact (by repeat (first | exact trivial | refine And.intro (by first | exact lv_of hO (by cbv <;> rfl) (by trivial) | (refine lv_of hO (by cbv <;> rfl) ?_; exact ⟨hi0, Int.ofNat_lt.2 hlt'⟩)) ?_))
            refine AnyE.effK tok hO (by cbv <;> rfl) (by cbv <;> rfl) (by trivial) ?_ ?_
            · exact (by repeat (first | exact trivial | refine And.intro (by first | exact lv_of hO (by cbv <;> rfl) (by trivial) | (refine lv_of hO (by cbv <;> rfl) ?_; exact ⟨hi0, Int.ofNat_lt.2 hlt'⟩)) ?_))
            refine AnyE.run tok hO (by rfl) (by cbv <;> rfl) (by trivial) ?_
            refine AnyE.effK tok hO (by cbv <;> rfl) (by cbv <;> rfl) (by trivial) ?_ ?_
            · exact (by repeat (first | exact trivial | refine And.intro (by first | exact lv_of hO (by cbv <;> rfl) (by trivial) | (refine lv_of hO (by cbv <;> rfl) ?_; exact ⟨hi0, Int.ofNat_lt.2 hlt'⟩)) ?_))
            refine AnyE.done (by rfl) ?_
            refine SW.run tok hO (by cbv <;> rfl) (by trivial) ?_
            refine SW.run tok hO (by cbv <;> rfl) (by trivial) ?_
            refine ⟨1, by omega, by omega, ren2 4 7 5 9, ?_⟩
            refine WeakR.up2 (fun _ => none) (fun _ _ _ h => by cases h) rfl rfl (by simp) (by show 4 ≤ 4; omega) (by show 4 ≤ 5; omega) (inj_of (by rfl)) (by show 4 ≤ 6; omega) ⟨RenV.ptr (by omega), RenV.ptr (by omega), RenV.ptr (by omega), RenV.ptr (by omega), ?_, RenV.inc hO (by omega), trivial⟩
              ⟨⟨by omega, _, rfl, .cells (RenVs.of_eq (congrArg (fun v => [iV v]) hbui) (flatG_below (intC_below BU) 1)), rfl⟩, ⟨by omega, _, rfl, .cells (RenVs.of_eq (congrArg (fun v => [iV v]) hlei) (flatG_below (intC_below LE) 1)), rfl⟩,
               ⟨by omega, _, rfl, .cells (.cons (RenV.sl (by omega)) (.cons (RenV.sl (by omega)) (RenVs.closed (AllB.ok ⟨Below.lit, Below.lit, Below.lit, Below.lit, trivial⟩)))), rfl⟩, ⟨by omega, _, rfl, .cells (RenVs.closed tal0_below), rfl⟩, ⟨by omega, _, rfl, .cells (RenVs.closed (truC_below t)), rfl⟩, ⟨by omega, _, rfl, .cells (RenVs.closed (dayC_below d)), rfl⟩, trivial⟩
            show RenV _ _ (iV (sumN BU (1))) (.lit (.int .i64 (O.bin .add .i64 acc (O.bin .quo .i64 sm (t.fe (O.nat (Int.ofNat (0))))))))
            rw [hsum _ hbui]
            exact RenV.closed Below.lit
          · refine PickE.eff tok hO (by cbv <;> rfl) (by cbv <;> rfl) (by trivial) ?_ ?_
            · exact (by repeat (first | exact trivial | refine And.intro (by first | exact lv_of hO (by cbv <;> rfl) (by trivial) | (refine lv_of hO (by cbv <;> rfl) ?_; exact ⟨hi0, Int.ofNat_lt.2 hlt'⟩)) ?_))
            refine AnyE.appNilK tok (by cbv <;> rfl) (by cbv <;> rfl) (by rfl) (by kernel_rfl) (by rfl) (by rfl) ?_ ?_
            · exact (by repeat (first | exact trivial | refine And.intro (by first | exact lv_of hO (by cbv <;> rfl) (by trivial) | (refine lv_of hO (by cbv <;> rfl) ?_; exact ⟨hi0, Int.ofNat_lt.2 hlt'⟩)) ?_))
            refine AnyE.run tok hO (by rfl) (by cbv <;> rfl) (by trivial) ?_
            refine AnyE.appNilK tok (by cbv <;> rfl) (by cbv <;> rfl) (by rfl) (by kernel_rfl) (by rfl) (by rfl) ?_ ?_
            · exact (by repeat (first | exact trivial | refine And.intro (by first | exact lv_of hO (by cbv <;> rfl) (by trivial) | (refine lv_of hO (by cbv <;> rfl) ?_; exact ⟨hi0, Int.ofNat_lt.2 hlt'⟩)) ?_))
            refine AnyE.effK tok hO (by cbv <;> rfl) (by cbv <;> rfl) (by trivial) ?_ ?_
            · exact (by repeat (first | exact trivial | refine And.intro (by first | exact lv_of hO (by cbv <;> rfl) (by trivial) | (refine lv_of hO (by cbv <;> rfl) ?_; exact ⟨hi0, Int.ofNat_lt.2 hlt'⟩)) ?_))
            refine AnyE.run tok hO (by rfl) (by cbv <;> rfl) (by trivial) ?_
            refine AnyE.effK tok hO (by cbv <;> rfl) (by cbv <;> rfl) (by trivial) ?_ ?_
            · exact (by repeat (first | exact trivial | refine And.intro (by first | exact lv_of hO (by cbv <;> rfl) (by trivial) | (refine lv_of hO (by cbv <;> rfl) ?_; exact ⟨hi0, Int.ofNat_lt.2 hlt'⟩)) ?_))
            refine AnyE.done (by rfl) ?_
            refine SW.run tok hO (by cbv <;> rfl) (by trivial) ?_
            refine SW.run tok hO (by cbv <;> rfl) (by trivial) ?_
            refine ⟨1, by omega, by omega, ren2 4 8 5 9, ?_⟩
            refine WeakR.up2 (fun _ => none) (fun _ _ _ h => by cases h) rfl rfl (by simp) (by show 4 ≤ 4; omega) (by show 4 ≤ 5; omega) (inj_of (by rfl)) (by show 4 ≤ 6; omega) ⟨RenV.ptr (by omega), RenV.ptr (by omega), RenV.ptr (by omega), RenV.ptr (by omega), ?_, RenV.inc hO (by omega), trivial⟩
              ⟨⟨by omega, _, rfl, .cells (RenVs.of_eq (congrArg (fun v => [iV v]) hbui) (flatG_below (intC_below BU) 1)), rfl⟩, ⟨by omega, _, rfl, .cells (RenVs.of_eq (congrArg (fun v => [iV v]) hlei) (flatG_below (intC_below LE) 1)), rfl⟩,
               ⟨by omega, _, rfl, .cells (.cons (RenV.sl (by omega)) (.cons (RenV.sl (by omega)) (RenVs.closed (AllB.ok ⟨Below.lit, Below.lit, Below.lit, Below.lit, trivial⟩)))), rfl⟩, ⟨by omega, _, rfl, .cells (RenVs.closed tal0_below), rfl⟩, ⟨by omega, _, rfl, .cells (RenVs.closed (truC_below t)), rfl⟩, ⟨by omega, _, rfl, .cells (RenVs.closed (dayC_below d)), rfl⟩, trivial⟩
            show RenV _ _ (iV (sumN BU (1))) (.lit (.int .i64 (O.bin .add .i64 acc (O.bin .quo .i64 sm (t.fe (O.nat (Int.ofNat (0))))))))
            rw [hsum _ hbui]
            exact RenV.closed Below.lit
        · refine PickE.eff tok hO (by cbv <;> rfl) (by cbv <;> rfl) (by trivial) ?_ ?_
          · exact (by repeat (first | exact trivial | refine And.intro (by first | exact lv_of hO (by cbv <;> rfl) (by trivial) | (refine lv_of hO (by cbv <;> rfl) ?_; exact ⟨hi0, Int.ofNat_lt.2 hlt'⟩)) ?_))
          refine AnyE.effK tok hO (by cbv <;> rfl) (by cbv <;> rfl) (by trivial) ?_ ?_
          · exact (by repeat (first | exact trivial | refine And.intro (by first | exact lv_of hO (by cbv <;> rfl) (by trivial) | (refine lv_of hO (by cbv <;> rfl) ?_; exact ⟨hi0, Int.ofNat_lt.2 hlt'⟩)) ?_))
          refine AnyE.appNilK tok (by cbv <;> rfl) (by cbv <;> rfl) (by rfl) (by kernel_rfl) (by rfl) (by rfl) ?_ ?_
          · exact (by repeat (first | exact trivial | refine And.intro (by first | exact lv_of hO (by cbv <;> rfl) (by trivial) | (refine lv_of hO (by cbv <;> rfl) ?_; exact ⟨hi0, Int.ofNat_lt.2 hlt'⟩)) ?_))
          refine AnyE.run tok hO (by rfl) (by cbv <;> rfl) (by trivial) ?_
          refine AnyE.appNilK tok (by cbv <;> rfl) (by cbv <;> rfl) (by rfl) (by kernel_rfl) (by rfl) (by rfl) ?_ ?_
          · exact (by repeat (first | exact trivial | refine And.intro (by first | exact lv_of hO (by cbv <;> rfl) (by trivial) | (refine lv_of hO (by cbv <;> rfl) ?_; exact ⟨hi0, Int.ofNat_lt.2 hlt'⟩)) ?_))
          refine AnyE.effK tok hO (by cbv <;> rfl) (by cbv <;> rfl) (by trivial) ?_ ?_
          · exact (by repeat (first | exact trivial | refine And.intro (by first | exact lv_of hO (by cbv <;> rfl) (by trivial) | (refine lv_of hO (by cbv <;> rfl) ?_; exact ⟨hi0, Int.ofNat_lt.2 hlt'⟩)) ?_))
          refine AnyE.run tok hO (by rfl) (by cbv <;> rfl) (by trivial) ?_
          refine AnyE.effK tok hO (by cbv <;> rfl) (by cbv <;> rfl) (by trivial) ?_ ?_
          · exact (by repeat (first | exact trivial | refine And.intro (by first | exact lv_of hO (by cbv <;> rfl) (by trivial) | (refine lv_of hO (by cbv <;> rfl) ?_; exact ⟨hi0, Int.ofNat_lt.2 hlt'⟩)) ?_))
          refine AnyE.done (by rfl) ?_
          refine SW.run tok hO (by cbv <;> rfl) (by trivial) ?_
          refine SW.run tok hO (by cbv <;> rfl) (by trivial) ?_
          refine ⟨1, by omega, by omega, ren2 4 8 5 9, ?_⟩
          refine WeakR.up2 (fun _ => none) (fun _ _ _ h => by cases h) rfl rfl (by simp) (by show 4 ≤ 4; omega) (by show 4 ≤ 5; omega) (inj_of (by rfl)) (by show 4 ≤ 6; omega) ⟨RenV.ptr (by omega), RenV.ptr (by omega), RenV.ptr (by omega), RenV.ptr (by omega), ?_, RenV.inc hO (by omega), trivial⟩
            ⟨⟨by omega, _, rfl, .cells (RenVs.of_eq (congrArg (fun v => [iV v]) hbui) (flatG_below (intC_below BU) 1)), rfl⟩, ⟨by omega, _, rfl, .cells (RenVs.of_eq (congrArg (fun v => [iV v]) hlei) (flatG_below (intC_below LE) 1)), rfl⟩,
             ⟨by omega, _, rfl, .cells (.cons (RenV.sl (by omega)) (.cons (RenV.sl (by omega)) (RenVs.closed (AllB.ok ⟨Below.lit, Below.lit, Below.lit, Below.lit, trivial⟩)))), rfl⟩, ⟨by omega, _, rfl, .cells (RenVs.closed tal0_below), rfl⟩, ⟨by omega, _, rfl, .cells (RenVs.closed (truC_below t)), rfl⟩, ⟨by omega, _, rfl, .cells (RenVs.closed (dayC_below d)), rfl⟩, trivial⟩
          show RenV _ _ (iV (sumN BU (1))) (.lit (.int .i64 (O.bin .add .i64 acc (O.bin .quo .i64 sm (t.fe (O.nat (Int.ofNat (0))))))))
          rw [hsum _ hbui]
          exact RenV.closed Below.lit
      · have hz : d.nw = 0 := by
          have : d.nw ≤ 0 := by subst hO; simpa [std] using h
          omega
        refine SW.exit ⟨rfl, _, nl3, nl3, rfl, rfl, rfl, rfl, ?_, ?_, ?_, .inl rfl, .inl rfl, rfl⟩
        · rw [hz, ← hacc]; rfl
        · rw [hz]; exact Eqv.nil
        · rw [hz]; exact Eqv.nil
    | succ i =>
      obtain ⟨GA, hGA⟩ : ∃ G, G = flatG 1 (intC BU) (i + 1) := ⟨_, rfl⟩
      obtain ⟨GB, hGB⟩ : ∃ G, G = flatG 1 (intC LE) (i + 1) := ⟨_, rfl⟩
      have hobj : objs2 BU LE (i + 1) = [(4, .cells none false GA), (5, .cells none false GB)] := by rw [hGA, hGB]; rfl
      show SW _ _ _ _ _ (plS d t (.sl 4 0 (i + 1) 1 false) (.sl 5 0 (i + 1) 1 false) 0 0 0 0 (objs2 BU LE (i + 1)) 6)
      rw [hobj]
      refine SW.seq ?_
      refine SW.seqRun tok hO (by cbv <;> rfl) (by trivial) ?_
      refine SW.condS (by cbv <;> rfl) (fun h => SW.skip ?_) (fun h => ?_)
      · have hlt : i + 1 < d.nw := by
          have : ((i + 1 : Nat) : Int) < (d.nw : Int) := by subst hO; simpa [std] using h
          omega
        have hlt' : i + 1 < t.nf := by omega
        have hi0 : (0 : Int) ≤ Int.ofNat (i + 1) := Int.natCast_nonneg (i + 1)
        refine SW.seq (SW.block ?_)
        refine SW.seqRun tok hO (by cbv <;> rfl) (by trivial) ?_
        refine SW.seq ?_
        refine SW.seqRun tok hO (by cbv <;> rfl) (by trivial) ?_
        refine (SW.block (SW.loopF (fun j : Nat => ⟨⟨106, getT [(2, .ptr 0 0), (3, .ptr 1 0), (4, .ptr 2 0), (5, .ptr 3 0), (6, iV acc), (7, iV ((i + 1 : Nat) : Int)), (8, iV (stemN d t.st (i + 1) j)), (9, iV j)]⟩, []⟩)
          (fun _ => plS d t (.sl 4 0 (i + 1) 1 false) (.sl 5 0 (i + 1) 1 false) 0 0 0 0 [(4, .cells none false GA), (5, .cells none false GB)] 6) (fun j => d.nl - j) (fun j => j ≤ d.nl) 0
          (fun _ => rfl) (Nat.zero_le _) (Weak.by rfl rfl (by simp) (Nat.le_refl _) (Nat.le_refl _) ⟨⟨rfl, .inl rfl⟩, ⟨rfl, .inl rfl⟩, ⟨rfl, .inl rfl⟩, ⟨rfl, .inl rfl⟩, ⟨rfl, .inl rfl⟩, ⟨rfl, .inl rfl⟩, ⟨rfl, .inl rfl⟩, ⟨rfl, .inl rfl⟩, trivial⟩ ⟨⟨rfl, by omega, .inl rfl⟩, ⟨rfl, by omega, .inl rfl⟩, ⟨rfl, by omega, .inl rfl⟩, ⟨rfl, by omega, .inl rfl⟩, ⟨rfl, by omega, .inl rfl⟩, ⟨rfl, by omega, .inl rfl⟩, trivial⟩) fun j hj => ?_))
        obtain ⟨sm, hsm⟩ : ∃ sm, sm = stemN d t.st (i + 1) j := ⟨_, rfl⟩
        rw [← hsm]
        refine SW.seq ?_
        refine SW.seqRun tok hO (by cbv <;> rfl) (by trivial) ?_
        refine SW.condS (by cbv <;> rfl) (fun h => SW.skip ?_) (fun h => SW.exit ?_)
        · have hltj : j < d.nl := by subst hO; simpa [std] using h
          have hltj' : j < t.ns := by omega
          have hj0 : (0 : Int) ≤ Int.ofNat j := Int.natCast_nonneg j
          refine SW.seq (SW.block ?_)
          refine SW.seqRun tok hO (by cbv <;> rfl) ?_ ?_
          · exact ⟨hj0, Int.ofNat_lt.2 hltj⟩
          refine SW.condS (by cbv <;> rfl) (fun h2 => ?_) (fun h2 => SW.skip ?_)
          · refine SW.run tok hO (by cbv <;> rfl) ?_ ?_
            · exact ⟨hj0, Int.ofNat_lt.2 hltj'⟩
            refine SW.run tok hO (by cbv <;> rfl) (by trivial) ?_
            have hwl : d.lw j = ((i + 1 : Nat) : Int) := by subst hO; simpa [std] using h2
            have e : stemN d t.st (i + 1) (j + 1) = O.bin .add .i64 sm (t.st (O.nat (Int.ofNat j))) := by
              subst hO; subst hsm; show (if d.lw j = ((i + 1 : Nat) : Int) then add64 (stemN d t.st (i + 1) j) (t.st j) else _) = _; rw [if_pos hwl]; rfl
            refine ⟨j + 1, by omega, by omega, Weak.by rfl rfl (by simp) (Nat.le_refl _) (Nat.le_refl _) ⟨⟨rfl, .inl rfl⟩, ⟨rfl, .inl rfl⟩, ⟨rfl, .inl rfl⟩, ⟨rfl, .inl rfl⟩, ⟨rfl, .inl rfl⟩, ⟨rfl, .inl rfl⟩, ⟨?_, .inl rfl⟩, ⟨inc_ok hO (by omega), .inl rfl⟩, trivial⟩ ⟨⟨rfl, by omega, .inl rfl⟩, ⟨rfl, by omega, .inl rfl⟩, ⟨rfl, by omega, .inl rfl⟩, ⟨rfl, by omega, .inl rfl⟩, ⟨rfl, by omega, .inl rfl⟩, ⟨rfl, by omega, .inl rfl⟩, trivial⟩⟩
            rw [e]; rfl
          · refine SW.run tok hO (by cbv <;> rfl) (by trivial) ?_
            have hwl : ¬ d.lw j = ((i + 1 : Nat) : Int) := by subst hO; simpa [std] using h2
            have e : stemN d t.st (i + 1) (j + 1) = sm := by
              subst hsm; show (if d.lw j = ((i + 1 : Nat) : Int) then add64 (stemN d t.st (i + 1) j) (t.st j) else _) = _; rw [if_neg hwl]
            refine ⟨j + 1, by omega, by omega, Weak.by rfl rfl (by simp) (Nat.le_refl _) (Nat.le_refl _) ⟨⟨rfl, .inl rfl⟩, ⟨rfl, .inl rfl⟩, ⟨rfl, .inl rfl⟩, ⟨rfl, .inl rfl⟩, ⟨rfl, .inl rfl⟩, ⟨rfl, .inl rfl⟩, ⟨?_, .inl rfl⟩, ⟨inc_ok hO (by omega), .inl rfl⟩, trivial⟩ ⟨⟨rfl, by omega, .inl rfl⟩, ⟨rfl, by omega, .inl rfl⟩, ⟨rfl, by omega, .inl rfl⟩, ⟨rfl, by omega, .inl rfl⟩, ⟨rfl, by omega, .inl rfl⟩, ⟨rfl, by omega, .inl rfl⟩, trivial⟩⟩
            rw [e]; rfl
        have hjn : j = d.nl := by
          have : d.nl ≤ j := by subst hO; simpa [std] using h
          omega
        have hbui : O.bin .quo .i64 sm (t.fe (O.nat (Int.ofNat (i + 1)))) = BU (i + 1) := by rw [hnat, hsm, hjn]; exact hbu (i + 1)
        have hlei : O.bin .sub .i64 sm (O.bin .mul .i64 (O.bin .quo .i64 sm (t.fe (O.nat (Int.ofNat (i + 1))))) (t.fe (O.nat (Int.ofNat (i + 1))))) = LE (i + 1) := by rw [hbui, hnat, hsm, hjn]; exact hle (i + 1) hlt
        have hF0 : t.fe (O.nat (Int.ofNat (i + 1))) ≠ 0 := by rw [hnat]; have := hfe (i + 1) hlt; omega
        refine SW.seqRun tok hO (by cbv <;> rfl) ?_ ?_
        · exact ⟨hF0, hi0, Int.ofNat_lt.2 hlt'⟩
        refine SW.seqRunD tok mixed hO (by rfl) (by cbv <;> rfl) ?_ ?_
        · exact ⟨hi0, Int.ofNat_lt.2 hlt'⟩
        refine AnyE.two 3 16 (by cbv <;> rfl) ?_ ?_
        · refine PickE.eff tok hO (by cbv <;> rfl) (by cbv <;> rfl) (by trivial) ?_ ?_
          · exact (by repeat (first | exact trivial | refine And.intro (by first | exact lv_of hO (by cbv <;> rfl) (by trivial) | (refine lv_of hO (by cbv <;> rfl) ?_; exact ⟨hi0, Int.ofNat_lt.2 hlt'⟩)) ?_))
          refine AnyE.two 4 16 (by cbv <;> rfl) ?_ ?_
          · refine PickE.appOne (g := intC BU) tok (by cbv <;> rfl) (by cbv <;> rfl) (by rfl) (by rfl) hGA (by kernel_rfl) (by rfl) (by rfl) (by omega) fun GA' hGA' => ⟨?_, ?_⟩
            · exact (by repeat (first | exact trivial | refine And.intro (by first | exact lv_of hO (by cbv <;> rfl) (by trivial) | (refine lv_of hO (by cbv <;> rfl) ?_; exact ⟨hi0, Int.ofNat_lt.2 hlt'⟩)) ?_))
            refine AnyE.run tok hO (by rfl) (by cbv <;> rfl) (by trivial) ?_
            refine AnyE.effK tok hO (by cbv <;> rfl) (by cbv <;> rfl) (by trivial) ?_ ?_
            · exact (by repeat (first | exact trivial | refine And.intro (by first | exact lv_of hO (by cbv <;> rfl) (by trivial) | (refine lv_of hO (by cbv <;> rfl) ?_; exact ⟨hi0, Int.ofNat_lt.2 hlt'⟩)) ?_))
            refine AnyE.appOneK (g := intC LE) tok (by cbv <;> rfl) (by cbv <;> rfl) (by rfl) (by rfl) hGB (by kernel_rfl) (by rfl) (by rfl) (by omega) fun GB' hGB' => ⟨?_, ?_⟩
            · exact (by repeat (first | exact trivial | refine And.intro (by first | exact lv_of hO (by cbv <;> rfl) (by trivial) | (refine lv_of hO (by cbv <;> rfl) ?_; exact ⟨hi0, Int.ofNat_lt.2 hlt'⟩)) ?_))
            refine AnyE.effK tok hO (by cbv <;> rfl) (by cbv <;> rfl) (by trivial) ?_ ?_
            · exact (by repeat (first | exact trivial | refine And.intro (by first | exact lv_of hO (by cbv <;> rfl) (by trivial) | (refine lv_of hO (by cbv <;> rfl) ?_; exact ⟨hi0, Int.ofNat_lt.2 hlt'⟩)) ?_))
            refine AnyE.run tok hO (by rfl) (by cbv <;> rfl) (by trivial) ?_
            refine AnyE.effK tok hO (by cbv <;> rfl) (by cbv <;> rfl) (by trivial) ?_ ?_
            · exact (by repeat (first | exact trivial | refine And.intro (by first | exact lv_of hO (by cbv <;> rfl) (by trivial) | (refine lv_of hO (by cbv <;> rfl) ?_; exact ⟨hi0, Int.ofNat_lt.2 hlt'⟩)) ?_))
            refine AnyE.done (by rfl) ?_
            refine SW.run tok hO (by cbv <;> rfl) (by trivial) ?_
            refine SW.run tok hO (by cbv <;> rfl) (by trivial) ?_
            refine ⟨i + 1 + 1, by omega, by omega, ren2 4 7 5 9, ?_⟩
            refine WeakR.up2 (fam2 4 5) (fam2_inj 4 5) rfl rfl (by simp) (by show 4 ≤ 4; omega) (by show 4 ≤ 5; omega) (inj_of (by rfl)) (by show 4 ≤ 6; omega) ⟨RenV.ptr (by omega), RenV.ptr (by omega), RenV.ptr (by omega), RenV.ptr (by omega), ?_, RenV.inc hO (by omega), trivial⟩
              ⟨⟨by omega, _, rfl, .cells (RenVs.of_eq (hGA'.trans (flatG_snoc BU (i + 1) _ hbui)) (flatG_below (intC_below _) _)), rfl⟩, ⟨by omega, _, rfl, .cells (RenVs.of_eq (hGB'.trans (flatG_snoc LE (i + 1) _ hlei)) (flatG_below (intC_below _) _)), rfl⟩,
               ⟨by omega, _, rfl, .cells (.cons (RenV.sl (by omega)) (.cons (RenV.sl (by omega)) (RenVs.closed (AllB.ok ⟨Below.lit, Below.lit, Below.lit, Below.lit, trivial⟩)))), rfl⟩, ⟨by omega, _, rfl, .cells (RenVs.closed tal0_below), rfl⟩, ⟨by omega, _, rfl, .cells (RenVs.closed (truC_below t)), rfl⟩, ⟨by omega, _, rfl, .cells (RenVs.closed (dayC_below d)), rfl⟩, trivial⟩
            show RenV _ _ (iV (sumN BU (i + 1 + 1))) (.lit (.int .i64 (O.bin .add .i64 acc (O.bin .quo .i64 sm (t.fe (O.nat (Int.ofNat (i + 1))))))))
            rw [hsum _ hbui]
            exact RenV.closed Below.lit
          · refine PickE.eff tok hO (by cbv <;> rfl) (by cbv <;> rfl) (by trivial) ?_ ?_
            · exact (by repeat (first | exact trivial | refine And.intro (by first | exact lv_of hO (by cbv <;> rfl) (by trivial) | (refine lv_of hO (by cbv <;> rfl) ?_; exact ⟨hi0, Int.ofNat_lt.2 hlt'⟩)) ?_))
            refine AnyE.appOneK (g := intC BU) tok (by cbv <;> rfl) (by cbv <;> rfl) (by rfl) (by rfl) hGA (by kernel_rfl) (by rfl) (by rfl) (by omega) fun GA' hGA' => ⟨?_, ?_⟩
            · exact (by repeat (first | exact trivial | refine And.intro (by first | exact lv_of hO (by cbv <;> rfl) (by trivial) | (refine lv_of hO (by cbv <;> rfl) ?_; exact ⟨hi0, Int.ofNat_lt.2 hlt'⟩)) ?_))
            refine AnyE.run tok hO (by rfl) (by cbv <;> rfl) (by trivial) ?_
            refine AnyE.appOneK (g := intC LE) tok (by cbv <;> rfl) (by cbv <;> rfl) (by rfl) (by rfl) hGB (by kernel_rfl) (by rfl) (by rfl) (by omega) fun GB' hGB' => ⟨?_, ?_⟩
            · exact (by repeat (first | exact trivial | refine And.intro (by first | exact lv_of hO (by cbv <;> rfl) (by trivial) | (refine lv_of hO (by cbv <;> rfl) ?_; exact ⟨hi0, Int.ofNat_lt.2 hlt'⟩)) ?_))
            refine AnyE.effK tok hO (by cbv <;> rfl) (by cbv <;> rfl) (by trivial) ?_ ?_
            · exact (by repeat (first | exact trivial | refine And.intro (by first | exact lv_of hO (by cbv <;> rfl) (by trivial) | (refine lv_of hO (by cbv <;> rfl) ?_; exact ⟨hi0, Int.ofNat_lt.2 hlt'⟩)) ?_))
            refine AnyE.run tok hO (by rfl) (by cbv <;> rfl) (by trivial) ?_
            refine AnyE.effK tok hO (by cbv <;> rfl) (by cbv <;> rfl) (by trivial) ?_ ?_
            · exact (by repeat (first | exact trivial | refine And.intro (by first | exact lv_of hO (by cbv <;> rfl) (by trivial) | (refine lv_of hO (by cbv <;> rfl) ?_; exact ⟨hi0, Int.ofNat_lt.2 hlt'⟩)) ?_))
            refine AnyE.done (by rfl) ?_
            refine SW.run tok hO (by cbv <;> rfl) (by trivial) ?_
            refine SW.run tok hO (by cbv <;> rfl) (by trivial) ?_
            refine ⟨i + 1 + 1, by omega, by omega, ren2 4 8 5 9, ?_⟩
            refine WeakR.up2 (fam2 4 5) (fam2_inj 4 5) rfl rfl (by simp) (by show 4 ≤ 4; omega) (by show 4 ≤ 5; omega) (inj_of (by rfl)) (by show 4 ≤ 6; omega) ⟨RenV.ptr (by omega), RenV.ptr (by omega), RenV.ptr (by omega), RenV.ptr (by omega), ?_, RenV.inc hO (by omega), trivial⟩
              ⟨⟨by omega, _, rfl, .cells (RenVs.of_eq (hGA'.trans (flatG_snoc BU (i + 1) _ hbui)) (flatG_below (intC_below _) _)), rfl⟩, ⟨by omega, _, rfl, .cells (RenVs.of_eq (hGB'.trans (flatG_snoc LE (i + 1) _ hlei)) (flatG_below (intC_below _) _)), rfl⟩,
               ⟨by omega, _, rfl, .cells (.cons (RenV.sl (by omega)) (.cons (RenV.sl (by omega)) (RenVs.closed (AllB.ok ⟨Below.lit, Below.lit, Below.lit, Below.lit, trivial⟩)))), rfl⟩, ⟨by omega, _, rfl, .cells (RenVs.closed tal0_below), rfl⟩, ⟨by omega, _, rfl, .cells (RenVs.closed (truC_below t)), rfl⟩, ⟨by omega, _, rfl, .cells (RenVs.closed (dayC_below d)), rfl⟩, trivial⟩
            show RenV _ _ (iV (sumN BU (i + 1 + 1))) (.lit (.int .i64 (O.bin .add .i64 acc (O.bin .quo .i64 sm (t.fe (O.nat (Int.ofNat (i + 1))))))))
            rw [hsum _ hbui]
            exact RenV.closed Below.lit
        · refine PickE.eff tok hO (by cbv <;> rfl) (by cbv <;> rfl) (by trivial) ?_ ?_
          · exact (by repeat (first | exact trivial | refine And.intro (by first | exact lv_of hO (by cbv <;> rfl) (by trivial) | (refine lv_of hO (by cbv <;> rfl) ?_; exact ⟨hi0, Int.ofNat_lt.2 hlt'⟩)) ?_))
          refine AnyE.effK tok hO (by cbv <;> rfl) (by cbv <;> rfl) (by trivial) ?_ ?_
          · exact (by repeat (first | exact trivial | refine And.intro (by first | exact lv_of hO (by cbv <;> rfl) (by trivial) | (refine lv_of hO (by cbv <;> rfl) ?_; exact ⟨hi0, Int.ofNat_lt.2 hlt'⟩)) ?_))
          refine AnyE.appOneK (g := intC BU) tok (by cbv <;> rfl) (by cbv <;> rfl) (by rfl) (by rfl) hGA (by kernel_rfl) (by rfl) (by rfl) (by omega) fun GA' hGA' => ⟨?_, ?_⟩
          · exact (by repeat (first | exact trivial | refine And.intro (by first | exact lv_of hO (by cbv <;> rfl) (by trivial) | (refine lv_of hO (by cbv <;> rfl) ?_; exact ⟨hi0, Int.ofNat_lt.2 hlt'⟩)) ?_))
          refine AnyE.run tok hO (by rfl) (by cbv <;> rfl) (by trivial) ?_
          refine AnyE.appOneK (g := intC LE) tok (by cbv <;> rfl) (by cbv <;> rfl) (by rfl) (by rfl) hGB (by kernel_rfl) (by rfl) (by rfl) (by omega) fun GB' hGB' => ⟨?_, ?_⟩
          · exact (by repeat (first | exact trivial | refine And.intro (by first | exact lv_of hO (by cbv <;> rfl) (by trivial) | (refine lv_of hO (by cbv <;> rfl) ?_; exact ⟨hi0, Int.ofNat_lt.2 hlt'⟩)) ?_))
          refine AnyE.effK tok hO (by cbv <;> rfl) (by cbv <;> rfl) (by trivial) ?_ ?_
          · exact (by repeat (first | exact trivial | refine And.intro (by first | exact lv_of hO (by cbv <;> rfl) (by trivial) | (refine lv_of hO (by cbv <;> rfl) ?_; exact ⟨hi0, Int.ofNat_lt.2 hlt'⟩)) ?_))
          refine AnyE.run tok hO (by rfl) (by cbv <;> rfl) (by trivial) ?_
          refine AnyE.effK tok hO (by cbv <;> rfl) (by cbv <;> rfl) (by trivial) ?_ ?_
          · exact (by repeat (first | exact trivial | refine And.intro (by first | exact lv_of hO (by cbv <;> rfl) (by trivial) | (refine lv_of hO (by cbv <;> rfl) ?_; exact ⟨hi0, Int.ofNat_lt.2 hlt'⟩)) ?_))
          refine AnyE.done (by rfl) ?_
          refine SW.run tok hO (by cbv <;> rfl) (by trivial) ?_
          refine SW.run tok hO (by cbv <;> rfl) (by trivial) ?_
          refine ⟨i + 1 + 1, by omega, by omega, ren2 4 8 5 9, ?_⟩
          refine WeakR.up2 (fam2 4 5) (fam2_inj 4 5) rfl rfl (by simp) (by show 4 ≤ 4; omega) (by show 4 ≤ 5; omega) (inj_of (by rfl)) (by show 4 ≤ 6; omega) ⟨RenV.ptr (by omega), RenV.ptr (by omega), RenV.ptr (by omega), RenV.ptr (by omega), ?_, RenV.inc hO (by omega), trivial⟩
            ⟨⟨by omega, _, rfl, .cells (RenVs.of_eq (hGA'.trans (flatG_snoc BU (i + 1) _ hbui)) (flatG_below (intC_below _) _)), rfl⟩, ⟨by omega, _, rfl, .cells (RenVs.of_eq (hGB'.trans (flatG_snoc LE (i + 1) _ hlei)) (flatG_below (intC_below _) _)), rfl⟩,
             ⟨by omega, _, rfl, .cells (.cons (RenV.sl (by omega)) (.cons (RenV.sl (by omega)) (RenVs.closed (AllB.ok ⟨Below.lit, Below.lit, Below.lit, Below.lit, trivial⟩)))), rfl⟩, ⟨by omega, _, rfl, .cells (RenVs.closed tal0_below), rfl⟩, ⟨by omega, _, rfl, .cells (RenVs.closed (truC_below t)), rfl⟩, ⟨by omega, _, rfl, .cells (RenVs.closed (dayC_below d)), rfl⟩, trivial⟩
          show RenV _ _ (iV (sumN BU (i + 1 + 1))) (.lit (.int .i64 (O.bin .add .i64 acc (O.bin .quo .i64 sm (t.fe (O.nat (Int.ofNat (i + 1))))))))
          rw [hsum _ hbui]
          exact RenV.closed Below.lit
      · have hz : d.nw = i + 1 := by
          have : (d.nw : Int) ≤ ((i + 1 : Nat) : Int) := by subst hO; simpa [std] using h
          omega
        have hlA : (i + 1) * 1 ≤ GA.length := by rw [hGA, flatG_length]; omega
        have hlB : (i + 1) * 1 ≤ GB.length := by rw [hGB, flatG_length]; omega
        refine SW.freezeZ (fun j => Nat.beq j 4 || Nat.beq j 5) 3 (by rfl) (SW.exit ⟨rfl, _, _, _, rfl, rfl, rfl, rfl, ?_, ?_, ?_, ?_, ?_, rfl⟩)
        · rw [hz, ← hacc]; rfl
        · show Eqv (frz _ _ 3 (.sl 4 0 (i + 1) 1 false)) _
          rw [hz, frz_slE (fm := none) (G := GA) rfl rfl hlA, hGA]
          exact Eqv.isl rfl fun i' k hi' hk => Eqv.of (frz_flat hi' hk rfl)
        · show Eqv (frz _ _ 3 (.sl 5 0 (i + 1) 1 false)) _
          rw [hz, frz_slE (fm := none) (G := GB) rfl rfl hlB, hGB]
          exact Eqv.isl rfl fun i' k hi' hk => Eqv.of (frz_flat hi' hk rfl)
        · exact .inr ⟨_, _, _, frz_slE (fm := none) (G := GA) rfl rfl hlA⟩
        · exact .inr ⟨_, _, _, frz_slE (fm := none) (G := GB) rfl rfl hlB⟩
  · rintro e fm st ⟨rfl, g, A, B, rfl, g2, g4, g5, g6, hA, hB', fA, fB, rfl⟩
    have hall : d.all t = sumN BU d.nw := by rw [hBU]; rfl
    rw [hall] at ha0 ha1
    have hres : ∀ x y z u : Int, x = quo64 (sumN BU d.nw) d.hand → y = (sumN BU d.nw).tmod d.hand → z = quo64 (quo64 (sumN BU d.nw) d.hand) d.flat → u = (quo64 (sumN BU d.nw) d.hand).tmod d.flat → Eqv (.agg [A, B, iV x, iV y, iV z, iV u]) (talV (d.tally t)) := fun x y z u hx hy hz hu => by
      subst hx; subst hy; subst hz; subst hu
      unfold talV talC DayD.tally
      rw [hall, ← hBU, ← hLE]
      exact Eqv.agg (.cons hA (.cons hB' (.cons (Eqv.refl _) (.cons (Eqv.refl _) (.cons (Eqv.refl _) (.cons (Eqv.refl _) .nil))))))
    generalize sumN BU d.nw = al at g6 hres ha0 ha1
    obtain ⟨qn, qa, _, _, _⟩ := tdiv_nn ha0 hh
    obtain ⟨q, hq⟩ := Int.eq_ofNat_of_zero_le qn
    rw [quo64_nn ha0 ha1 hh, hq] at hres
    have q0 : (0 : Int) ≤ Int.ofNat q := Int.natCast_nonneg q
    have q1 : Int.ofNat q ≤ 1000000000 := by have : (Int.ofNat q) = al.tdiv d.hand := hq.symm; omega
    obtain ⟨fn, fa, _, _, _⟩ := tdiv_nn q0 hfl
    obtain ⟨q', hq'⟩ := Int.eq_ofNat_of_zero_le fn
    rw [show ((q : Nat) : Int) = Int.ofNat q from rfl, quo64_nn q0 q1 hfl, hq'] at hres
    rw [← updT_self g2, ← updT_self g4, ← updT_self g5, ← updT_self g6]
    rcases fA with rfl | ⟨la, sa, ha, rfl⟩ <;> rcases fB with rfl | ⟨lb, sb, hb2, rfl⟩
    · refine SW.seqRun tok hO (by cbv <;> rfl) (by trivial) ?_
      refine SW.seq (SW.block (SW.loopF (fun _ : Nat => ⟨⟨106, getT [(2, .ptr 0 0), (4, .ptr 2 0), (5, .ptr 3 0)]⟩, []⟩) (fun k => plS d t nl3 nl3 k (al - k * d.hand) 0 0 [] 6) (fun k => q - k) (fun k => k ≤ q) 0
        (fun _ => rfl) (Nat.zero_le _) (Weak.by rfl rfl (by simp) (Nat.le_refl _) (Nat.le_refl _) ⟨⟨rfl, .inl rfl⟩, ⟨rfl, .inl rfl⟩, ⟨rfl, .inl rfl⟩, trivial⟩ ⟨⟨congrArg (fun l => some (AObj.cells none false l)) ?_, by omega, .inl rfl⟩, ⟨rfl, by omega, .inl rfl⟩, ⟨rfl, by omega, .inl rfl⟩, ⟨rfl, by omega, .inl rfl⟩, trivial⟩) fun k hk => ?_))
      · have e : al - ((0 : Nat) : Int) * d.hand = al := by simp
        rw [e]; rfl
      have hkq : (k : Int) ≤ al.tdiv d.hand := by rw [hq]; exact Int.ofNat_le.2 hk
      have rin := round_in (k := k) ha0 ha1 hh
      have rout := round_out (k := k) ha0 hh hkq
      obtain ⟨L, hL⟩ : ∃ L, L = al - k * d.hand := ⟨_, rfl⟩
      rw [← hL] at rin rout ⊢
      refine SW.seq ?_
      refine SW.seqRun tok hO (by cbv <;> rfl) (by trivial) ?_
      refine SW.condS (by cbv <;> rfl) (fun h => SW.skip ?_) (fun h => SW.exit ?_)
      · have hge : d.hand ≤ L := by subst hO; simpa [std] using h
        obtain ⟨r1, r2⟩ := rin hge
        first | refine SW.block ?_ | refine SW.seq (SW.block ?_)
        refine SW.seqRun tok hO (by cbv <;> rfl) (by trivial) ?_
        refine SW.run tok hO (by cbv <;> rfl) (by trivial) ?_
        have hk1 : k + 1 ≤ q := by rw [hq] at r1; have : ((k : Int) + 1) ≤ (q : Int) := r1; omega
        refine ⟨k + 1, by omega, hk1, Weak.by rfl rfl (by simp) (Nat.le_refl _) (Nat.le_refl _) ⟨⟨rfl, .inl rfl⟩, ⟨rfl, .inl rfl⟩, ⟨rfl, .inl rfl⟩, trivial⟩ ⟨⟨congrArg (fun l => some (AObj.cells none false l)) ?_, by omega, .inl rfl⟩, ⟨rfl, by omega, .inl rfl⟩, ⟨rfl, by omega, .inl rfl⟩, ⟨rfl, by omega, .inl rfl⟩, trivial⟩⟩
        have e1 : AV.lit (.int .i64 (O.bin .sub .i64 L d.hand)) = iV (al - ((k + 1 : Nat) : Int) * d.hand) := by rw [← r2]; subst hO; rfl
        have e2 := inc_ok hO (i := k) (by omega)
        show [nl3, nl3, AV.lit (.int .i64 (O.bin .add .i64 (Int.ofNat k) 1)), AV.lit (.int .i64 (O.bin .sub .i64 L d.hand)), iV 0, iV 0] = [nl3, nl3, iV ((k + 1 : Nat) : Int), iV (al - ((k + 1 : Nat) : Int) * d.hand), iV 0, iV 0]
        rw [e1, e2]
      have hlt : L < d.hand := by subst hO; simpa [std] using h
      obtain ⟨o1, o2⟩ := rout hlt
      have hkq2 : k = q := by rw [hq] at o1; have : (k : Int) = (q : Int) := o1; omega
      subst hkq2
      clear rin rout hL hkq hk
      refine SW.seqRun tok hO (by cbv <;> rfl) (by trivial) ?_
      refine SW.seq (SW.block (SW.loopF (fun _ : Nat => ⟨⟨106, getT [(2, .ptr 0 0), (4, .ptr 2 0), (5, .ptr 3 0)]⟩, []⟩) (fun m => plS d t nl3 nl3 k L m (Int.ofNat k - m * d.flat) [] 6) (fun m => q' - m) (fun m => m ≤ q') 0
        (fun _ => rfl) (Nat.zero_le _) (Weak.by rfl rfl (by simp) (Nat.le_refl _) (Nat.le_refl _) ⟨⟨rfl, .inl rfl⟩, ⟨rfl, .inl rfl⟩, ⟨rfl, .inl rfl⟩, trivial⟩ ⟨⟨congrArg (fun l => some (AObj.cells none false l)) ?_, by omega, .inl rfl⟩, ⟨rfl, by omega, .inl rfl⟩, ⟨rfl, by omega, .inl rfl⟩, ⟨rfl, by omega, .inl rfl⟩, trivial⟩) fun m hm => ?_))
      · have e : Int.ofNat k - ((0 : Nat) : Int) * d.flat = Int.ofNat k := by simp
        rw [e]; rfl
      have hkq : (m : Int) ≤ (Int.ofNat k).tdiv d.flat := by rw [hq']; exact Int.ofNat_le.2 hm
      have rin := round_in (k := m) q0 q1 hfl
      have rout := round_out (k := m) q0 hfl hkq
      obtain ⟨M, hM⟩ : ∃ M, M = Int.ofNat k - m * d.flat := ⟨_, rfl⟩
      rw [← hM] at rin rout ⊢
      refine SW.seq ?_
      refine SW.seqRun tok hO (by cbv <;> rfl) (by trivial) ?_
      refine SW.condS (by cbv <;> rfl) (fun h => SW.skip ?_) (fun h => SW.exit ?_)
      · have hge : d.flat ≤ M := by subst hO; simpa [std] using h
        obtain ⟨r1, r2⟩ := rin hge
        first | refine SW.block ?_ | refine SW.seq (SW.block ?_)
        refine SW.seqRun tok hO (by cbv <;> rfl) (by trivial) ?_
        refine SW.run tok hO (by cbv <;> rfl) (by trivial) ?_
        have hk1 : m + 1 ≤ q' := by rw [hq'] at r1; have : ((m : Int) + 1) ≤ (q' : Int) := r1; omega
        refine ⟨m + 1, by omega, hk1, Weak.by rfl rfl (by simp) (Nat.le_refl _) (Nat.le_refl _) ⟨⟨rfl, .inl rfl⟩, ⟨rfl, .inl rfl⟩, ⟨rfl, .inl rfl⟩, trivial⟩ ⟨⟨congrArg (fun l => some (AObj.cells none false l)) ?_, by omega, .inl rfl⟩, ⟨rfl, by omega, .inl rfl⟩, ⟨rfl, by omega, .inl rfl⟩, ⟨rfl, by omega, .inl rfl⟩, trivial⟩⟩
        have e1 : AV.lit (.int .i64 (O.bin .sub .i64 M d.flat)) = iV (Int.ofNat k - ((m + 1 : Nat) : Int) * d.flat) := by rw [← r2]; subst hO; rfl
        have e2 := inc_ok hO (i := m) (by omega)
        show [nl3, nl3, iV k, iV L, AV.lit (.int .i64 (O.bin .add .i64 (Int.ofNat m) 1)), AV.lit (.int .i64 (O.bin .sub .i64 M d.flat))] = [nl3, nl3, iV k, iV L, iV ((m + 1 : Nat) : Int), iV (Int.ofNat k - ((m + 1 : Nat) : Int) * d.flat)]
        rw [e1, e2]
      have hlt2 : M < d.flat := by subst hO; simpa [std] using h
      obtain ⟨p1, p2⟩ := rout hlt2
      have hmq : m = q' := by rw [hq'] at p1; have : (m : Int) = (q' : Int) := p1; omega
      subst hmq
      refine SW.seqRun tok hO (by cbv <;> rfl) (by trivial) ?_
      refine SW.ret ⟨_, _, rfl, rfl, ?_⟩
      exact hres _ _ _ _ rfl o2 rfl p2
    · refine SW.seqRun tok hO (by cbv <;> rfl) (by trivial) ?_
      refine SW.seq (SW.block (SW.loopF (fun _ : Nat => ⟨⟨106, getT [(2, .ptr 0 0), (4, .ptr 2 0), (5, .ptr 3 0)]⟩, []⟩) (fun k => plS d t nl3 (.isl lb sb false hb2) k (al - k * d.hand) 0 0 [] 6) (fun k => q - k) (fun k => k ≤ q) 0
        (fun _ => rfl) (Nat.zero_le _) (Weak.by rfl rfl (by simp) (Nat.le_refl _) (Nat.le_refl _) ⟨⟨rfl, .inl rfl⟩, ⟨rfl, .inl rfl⟩, ⟨rfl, .inl rfl⟩, trivial⟩ ⟨⟨congrArg (fun l => some (AObj.cells none false l)) ?_, by omega, .inl rfl⟩, ⟨rfl, by omega, .inl rfl⟩, ⟨rfl, by omega, .inl rfl⟩, ⟨rfl, by omega, .inl rfl⟩, trivial⟩) fun k hk => ?_))
      · have e : al - ((0 : Nat) : Int) * d.hand = al := by simp
        rw [e]; rfl
      have hkq : (k : Int) ≤ al.tdiv d.hand := by rw [hq]; exact Int.ofNat_le.2 hk
      have rin := round_in (k := k) ha0 ha1 hh
      have rout := round_out (k := k) ha0 hh hkq
      obtain ⟨L, hL⟩ : ∃ L, L = al - k * d.hand := ⟨_, rfl⟩
      rw [← hL] at rin rout ⊢
      refine SW.seq ?_
      refine SW.seqRun tok hO (by cbv <;> rfl) (by trivial) ?_
      refine SW.condS (by cbv <;> rfl) (fun h => SW.skip ?_) (fun h => SW.exit ?_)
      · have hge : d.hand ≤ L := by subst hO; simpa [std] using h
        obtain ⟨r1, r2⟩ := rin hge
        first | refine SW.block ?_ | refine SW.seq (SW.block ?_)
        refine SW.seqRun tok hO (by cbv <;> rfl) (by trivial) ?_
        refine SW.run tok hO (by cbv <;> rfl) (by trivial) ?_
        have hk1 : k + 1 ≤ q := by rw [hq] at r1; have : ((k : Int) + 1) ≤ (q : Int) := r1; omega
        refine ⟨k + 1, by omega, hk1, Weak.by rfl rfl (by simp) (Nat.le_refl _) (Nat.le_refl _) ⟨⟨rfl, .inl rfl⟩, ⟨rfl, .inl rfl⟩, ⟨rfl, .inl rfl⟩, trivial⟩ ⟨⟨congrArg (fun l => some (AObj.cells none false l)) ?_, by omega, .inl rfl⟩, ⟨rfl, by omega, .inl rfl⟩, ⟨rfl, by omega, .inl rfl⟩, ⟨rfl, by omega, .inl rfl⟩, trivial⟩⟩
        have e1 : AV.lit (.int .i64 (O.bin .sub .i64 L d.hand)) = iV (al - ((k + 1 : Nat) : Int) * d.hand) := by rw [← r2]; subst hO; rfl
        have e2 := inc_ok hO (i := k) (by omega)
        show [nl3, (.isl lb sb false hb2), AV.lit (.int .i64 (O.bin .add .i64 (Int.ofNat k) 1)), AV.lit (.int .i64 (O.bin .sub .i64 L d.hand)), iV 0, iV 0] = [nl3, (.isl lb sb false hb2), iV ((k + 1 : Nat) : Int), iV (al - ((k + 1 : Nat) : Int) * d.hand), iV 0, iV 0]
        rw [e1, e2]
      have hlt : L < d.hand := by subst hO; simpa [std] using h
      obtain ⟨o1, o2⟩ := rout hlt
      have hkq2 : k = q := by rw [hq] at o1; have : (k : Int) = (q : Int) := o1; omega
      subst hkq2
      clear rin rout hL hkq hk
      refine SW.seqRun tok hO (by cbv <;> rfl) (by trivial) ?_
      refine SW.seq (SW.block (SW.loopF (fun _ : Nat => ⟨⟨106, getT [(2, .ptr 0 0), (4, .ptr 2 0), (5, .ptr 3 0)]⟩, []⟩) (fun m => plS d t nl3 (.isl lb sb false hb2) k L m (Int.ofNat k - m * d.flat) [] 6) (fun m => q' - m) (fun m => m ≤ q') 0
        (fun _ => rfl) (Nat.zero_le _) (Weak.by rfl rfl (by simp) (Nat.le_refl _) (Nat.le_refl _) ⟨⟨rfl, .inl rfl⟩, ⟨rfl, .inl rfl⟩, ⟨rfl, .inl rfl⟩, trivial⟩ ⟨⟨congrArg (fun l => some (AObj.cells none false l)) ?_, by omega, .inl rfl⟩, ⟨rfl, by omega, .inl rfl⟩, ⟨rfl, by omega, .inl rfl⟩, ⟨rfl, by omega, .inl rfl⟩, trivial⟩) fun m hm => ?_))
      · have e : Int.ofNat k - ((0 : Nat) : Int) * d.flat = Int.ofNat k := by simp
        rw [e]; rfl
      have hkq : (m : Int) ≤ (Int.ofNat k).tdiv d.flat := by rw [hq']; exact Int.ofNat_le.2 hm
      have rin := round_in (k := m) q0 q1 hfl
      have rout := round_out (k := m) q0 hfl hkq
      obtain ⟨M, hM⟩ : ∃ M, M = Int.ofNat k - m * d.flat := ⟨_, rfl⟩
      rw [← hM] at rin rout ⊢
      refine SW.seq ?_
      refine SW.seqRun tok hO (by cbv <;> rfl) (by trivial) ?_
      refine SW.condS (by cbv <;> rfl) (fun h => SW.skip ?_) (fun h => SW.exit ?_)
      · have hge : d.flat ≤ M := by subst hO; simpa [std] using h
        obtain ⟨r1, r2⟩ := rin hge
        first | refine SW.block ?_ | refine SW.seq (SW.block ?_)
        refine SW.seqRun tok hO (by cbv <;> rfl) (by trivial) ?_
        refine SW.run tok hO (by cbv <;> rfl) (by trivial) ?_
        have hk1 : m + 1 ≤ q' := by rw [hq'] at r1; have : ((m : Int) + 1) ≤ (q' : Int) := r1; omega
        refine ⟨m + 1, by omega, hk1, Weak.by rfl rfl (by simp) (Nat.le_refl _) (Nat.le_refl _) ⟨⟨rfl, .inl rfl⟩, ⟨rfl, .inl rfl⟩, ⟨rfl, .inl rfl⟩, trivial⟩ ⟨⟨congrArg (fun l => some (AObj.cells none false l)) ?_, by omega, .inl rfl⟩, ⟨rfl, by omega, .inl rfl⟩, ⟨rfl, by omega, .inl rfl⟩, ⟨rfl, by omega, .inl rfl⟩, trivial⟩⟩
        have e1 : AV.lit (.int .i64 (O.bin .sub .i64 M d.flat)) = iV (Int.ofNat k - ((m + 1 : Nat) : Int) * d.flat) := by rw [← r2]; subst hO; rfl
        have e2 := inc_ok hO (i := m) (by omega)
        show [nl3, (.isl lb sb false hb2), iV k, iV L, AV.lit (.int .i64 (O.bin .add .i64 (Int.ofNat m) 1)), AV.lit (.int .i64 (O.bin .sub .i64 M d.flat))] = [nl3, (.isl lb sb false hb2), iV k, iV L, iV ((m + 1 : Nat) : Int), iV (Int.ofNat k - ((m + 1 : Nat) : Int) * d.flat)]
        rw [e1, e2]
      have hlt2 : M < d.flat := by subst hO; simpa [std] using h
      obtain ⟨p1, p2⟩ := rout hlt2
      have hmq : m = q' := by rw [hq'] at p1; have : (m : Int) = (q' : Int) := p1; omega
      subst hmq
      refine SW.seqRun tok hO (by cbv <;> rfl) (by trivial) ?_
      refine SW.ret ⟨_, _, rfl, rfl, ?_⟩
      exact hres _ _ _ _ rfl o2 rfl p2
    · refine SW.seqRun tok hO (by cbv <;> rfl) (by trivial) ?_
      refine SW.seq (SW.block (SW.loopF (fun _ : Nat => ⟨⟨106, getT [(2, .ptr 0 0), (4, .ptr 2 0), (5, .ptr 3 0)]⟩, []⟩) (fun k => plS d t (.isl la sa false ha) nl3 k (al - k * d.hand) 0 0 [] 6) (fun k => q - k) (fun k => k ≤ q) 0
        (fun _ => rfl) (Nat.zero_le _) (Weak.by rfl rfl (by simp) (Nat.le_refl _) (Nat.le_refl _) ⟨⟨rfl, .inl rfl⟩, ⟨rfl, .inl rfl⟩, ⟨rfl, .inl rfl⟩, trivial⟩ ⟨⟨congrArg (fun l => some (AObj.cells none false l)) ?_, by omega, .inl rfl⟩, ⟨rfl, by omega, .inl rfl⟩, ⟨rfl, by omega, .inl rfl⟩, ⟨rfl, by omega, .inl rfl⟩, trivial⟩) fun k hk => ?_))
      · have e : al - ((0 : Nat) : Int) * d.hand = al := by simp
        rw [e]; rfl
      have hkq : (k : Int) ≤ al.tdiv d.hand := by rw [hq]; exact Int.ofNat_le.2 hk
      have rin := round_in (k := k) ha0 ha1 hh
      have rout := round_out (k := k) ha0 hh hkq
      obtain ⟨L, hL⟩ : ∃ L, L = al - k * d.hand := ⟨_, rfl⟩
      rw [← hL] at rin rout ⊢
      refine SW.seq ?_
      refine SW.seqRun tok hO (by cbv <;> rfl) (by trivial) ?_
      refine SW.condS (by cbv <;> rfl) (fun h => SW.skip ?_) (fun h => SW.exit ?_)
      · have hge : d.hand ≤ L := by subst hO; simpa [std] using h
        obtain ⟨r1, r2⟩ := rin hge
        first | refine SW.block ?_ | refine SW.seq (SW.block ?_)
        refine SW.seqRun tok hO (by cbv <;> rfl) (by trivial) ?_
        refine SW.run tok hO (by cbv <;> rfl) (by trivial) ?_
        have hk1 : k + 1 ≤ q := by rw [hq] at r1; have : ((k : Int) + 1) ≤ (q : Int) := r1; omega
        refine ⟨k + 1, by omega, hk1, Weak.by rfl rfl (by simp) (Nat.le_refl _) (Nat.le_refl _) ⟨⟨rfl, .inl rfl⟩, ⟨rfl, .inl rfl⟩, ⟨rfl, .inl rfl⟩, trivial⟩ ⟨⟨congrArg (fun l => some (AObj.cells none false l)) ?_, by omega, .inl rfl⟩, ⟨rfl, by omega, .inl rfl⟩, ⟨rfl, by omega, .inl rfl⟩, ⟨rfl, by omega, .inl rfl⟩, trivial⟩⟩
        have e1 : AV.lit (.int .i64 (O.bin .sub .i64 L d.hand)) = iV (al - ((k + 1 : Nat) : Int) * d.hand) := by rw [← r2]; subst hO; rfl
        have e2 := inc_ok hO (i := k) (by omega)
        show [(.isl la sa false ha), nl3, AV.lit (.int .i64 (O.bin .add .i64 (Int.ofNat k) 1)), AV.lit (.int .i64 (O.bin .sub .i64 L d.hand)), iV 0, iV 0] = [(.isl la sa false ha), nl3, iV ((k + 1 : Nat) : Int), iV (al - ((k + 1 : Nat) : Int) * d.hand), iV 0, iV 0]
        rw [e1, e2]
      have hlt : L < d.hand := by subst hO; simpa [std] using h
      obtain ⟨o1, o2⟩ := rout hlt
      have hkq2 : k = q := by rw [hq] at o1; have : (k : Int) = (q : Int) := o1; omega
      subst hkq2
      clear rin rout hL hkq hk
      refine SW.seqRun tok hO (by cbv <;> rfl) (by trivial) ?_
      refine SW.seq (SW.block (SW.loopF (fun _ : Nat => ⟨⟨106, getT [(2, .ptr 0 0), (4, .ptr 2 0), (5, .ptr 3 0)]⟩, []⟩) (fun m => plS d t (.isl la sa false ha) nl3 k L m (Int.ofNat k - m * d.flat) [] 6) (fun m => q' - m) (fun m => m ≤ q') 0
        (fun _ => rfl) (Nat.zero_le _) (Weak.by rfl rfl (by simp) (Nat.le_refl _) (Nat.le_refl _) ⟨⟨rfl, .inl rfl⟩, ⟨rfl, .inl rfl⟩, ⟨rfl, .inl rfl⟩, trivial⟩ ⟨⟨congrArg (fun l => some (AObj.cells none false l)) ?_, by omega, .inl rfl⟩, ⟨rfl, by omega, .inl rfl⟩, ⟨rfl, by omega, .inl rfl⟩, ⟨rfl, by omega, .inl rfl⟩, trivial⟩) fun m hm => ?_))
      · have e : Int.ofNat k - ((0 : Nat) : Int) * d.flat = Int.ofNat k := by simp
        rw [e]; rfl
      have hkq : (m : Int) ≤ (Int.ofNat k).tdiv d.flat := by rw [hq']; exact Int.ofNat_le.2 hm
      have rin := round_in (k := m) q0 q1 hfl
      have rout := round_out (k := m) q0 hfl hkq
      obtain ⟨M, hM⟩ : ∃ M, M = Int.ofNat k - m * d.flat := ⟨_, rfl⟩
      rw [← hM] at rin rout ⊢
      refine SW.seq ?_
      refine SW.seqRun tok hO (by cbv <;> rfl) (by trivial) ?_
      refine SW.condS (by cbv <;> rfl) (fun h => SW.skip ?_) (fun h => SW.exit ?_)
      · have hge : d.flat ≤ M := by subst hO; simpa [std] using h
        obtain ⟨r1, r2⟩ := rin hge
        first | refine SW.block ?_ | refine SW.seq (SW.block ?_)
        refine SW.seqRun tok hO (by cbv <;> rfl) (by trivial) ?_
        refine SW.run tok hO (by cbv <;> rfl) (by trivial) ?_
        have hk1 : m + 1 ≤ q' := by rw [hq'] at r1; have : ((m : Int) + 1) ≤ (q' : Int) := r1; omega
        refine ⟨m + 1, by omega, hk1, Weak.by rfl rfl (by simp) (Nat.le_refl _) (Nat.le_refl _) ⟨⟨rfl, .inl rfl⟩, ⟨rfl, .inl rfl⟩, ⟨rfl, .inl rfl⟩, trivial⟩ ⟨⟨congrArg (fun l => some (AObj.cells none false l)) ?_, by omega, .inl rfl⟩, ⟨rfl, by omega, .inl rfl⟩, ⟨rfl, by omega, .inl rfl⟩, ⟨rfl, by omega, .inl rfl⟩, trivial⟩⟩
        have e1 : AV.lit (.int .i64 (O.bin .sub .i64 M d.flat)) = iV (Int.ofNat k - ((m + 1 : Nat) : Int) * d.flat) := by rw [← r2]; subst hO; rfl
        have e2 := inc_ok hO (i := m) (by omega)
        show [(.isl la sa false ha), nl3, iV k, iV L, AV.lit (.int .i64 (O.bin .add .i64 (Int.ofNat m) 1)), AV.lit (.int .i64 (O.bin .sub .i64 M d.flat))] = [(.isl la sa false ha), nl3, iV k, iV L, iV ((m + 1 : Nat) : Int), iV (Int.ofNat k - ((m + 1 : Nat) : Int) * d.flat)]
        rw [e1, e2]
      have hlt2 : M < d.flat := by subst hO; simpa [std] using h
      obtain ⟨p1, p2⟩ := rout hlt2
      have hmq : m = q' := by rw [hq'] at p1; have : (m : Int) = (q' : Int) := p1; omega
      subst hmq
      refine SW.seqRun tok hO (by cbv <;> rfl) (by trivial) ?_
      refine SW.ret ⟨_, _, rfl, rfl, ?_⟩
      exact hres _ _ _ _ rfl o2 rfl p2
    · refine SW.seqRun tok hO (by cbv <;> rfl) (by trivial) ?_
      refine SW.seq (SW.block (SW.loopF (fun _ : Nat => ⟨⟨106, getT [(2, .ptr 0 0), (4, .ptr 2 0), (5, .ptr 3 0)]⟩, []⟩) (fun k => plS d t (.isl la sa false ha) (.isl lb sb false hb2) k (al - k * d.hand) 0 0 [] 6) (fun k => q - k) (fun k => k ≤ q) 0
        (fun _ => rfl) (Nat.zero_le _) (Weak.by rfl rfl (by simp) (Nat.le_refl _) (Nat.le_refl _) ⟨⟨rfl, .inl rfl⟩, ⟨rfl, .inl rfl⟩, ⟨rfl, .inl rfl⟩, trivial⟩ ⟨⟨congrArg (fun l => some (AObj.cells none false l)) ?_, by omega, .inl rfl⟩, ⟨rfl, by omega, .inl rfl⟩, ⟨rfl, by omega, .inl rfl⟩, ⟨rfl, by omega, .inl rfl⟩, trivial⟩) fun k hk => ?_))
      · have e : al - ((0 : Nat) : Int) * d.hand = al := by simp
        rw [e]; rfl
      have hkq : (k : Int) ≤ al.tdiv d.hand := by rw [hq]; exact Int.ofNat_le.2 hk
      have rin := round_in (k := k) ha0 ha1 hh
      have rout := round_out (k := k) ha0 hh hkq
      obtain ⟨L, hL⟩ : ∃ L, L = al - k * d.hand := ⟨_, rfl⟩
      rw [← hL] at rin rout ⊢
      refine SW.seq ?_
      refine SW.seqRun tok hO (by cbv <;> rfl) (by trivial) ?_
      refine SW.condS (by cbv <;> rfl) (fun h => SW.skip ?_) (fun h => SW.exit ?_)
      · have hge : d.hand ≤ L := by subst hO; simpa [std] using h
        obtain ⟨r1, r2⟩ := rin hge
        first | refine SW.block ?_ | refine SW.seq (SW.block ?_)
        refine SW.seqRun tok hO (by cbv <;> rfl) (by trivial) ?_
        refine SW.run tok hO (by cbv <;> rfl) (by trivial) ?_
        have hk1 : k + 1 ≤ q := by rw [hq] at r1; have : ((k : Int) + 1) ≤ (q : Int) := r1; omega
        refine ⟨k + 1, by omega, hk1, Weak.by rfl rfl (by simp) (Nat.le_refl _) (Nat.le_refl _) ⟨⟨rfl, .inl rfl⟩, ⟨rfl, .inl rfl⟩, ⟨rfl, .inl rfl⟩, trivial⟩ ⟨⟨congrArg (fun l => some (AObj.cells none false l)) ?_, by omega, .inl rfl⟩, ⟨rfl, by omega, .inl rfl⟩, ⟨rfl, by omega, .inl rfl⟩, ⟨rfl, by omega, .inl rfl⟩, trivial⟩⟩
        have e1 : AV.lit (.int .i64 (O.bin .sub .i64 L d.hand)) = iV (al - ((k + 1 : Nat) : Int) * d.hand) := by rw [← r2]; subst hO; rfl
        have e2 := inc_ok hO (i := k) (by omega)
        show [(.isl la sa false ha), (.isl lb sb false hb2), AV.lit (.int .i64 (O.bin .add .i64 (Int.ofNat k) 1)), AV.lit (.int .i64 (O.bin .sub .i64 L d.hand)), iV 0, iV 0] = [(.isl la sa false ha), (.isl lb sb false hb2), iV ((k + 1 : Nat) : Int), iV (al - ((k + 1 : Nat) : Int) * d.hand), iV 0, iV 0]
        rw [e1, e2]
      have hlt : L < d.hand := by subst hO; simpa [std] using h
      obtain ⟨o1, o2⟩ := rout hlt
      have hkq2 : k = q := by rw [hq] at o1; have : (k : Int) = (q : Int) := o1; omega
      subst hkq2
      clear rin rout hL hkq hk
      refine SW.seqRun tok hO (by cbv <;> rfl) (by trivial) ?_
      refine SW.seq (SW.block (SW.loopF (fun _ : Nat => ⟨⟨106, getT [(2, .ptr 0 0), (4, .ptr 2 0), (5, .ptr 3 0)]⟩, []⟩) (fun m => plS d t (.isl la sa false ha) (.isl lb sb false hb2) k L m (Int.ofNat k - m * d.flat) [] 6) (fun m => q' - m) (fun m => m ≤ q') 0
        (fun _ => rfl) (Nat.zero_le _) (Weak.by rfl rfl (by simp) (Nat.le_refl _) (Nat.le_refl _) ⟨⟨rfl, .inl rfl⟩, ⟨rfl, .inl rfl⟩, ⟨rfl, .inl rfl⟩, trivial⟩ ⟨⟨congrArg (fun l => some (AObj.cells none false l)) ?_, by omega, .inl rfl⟩, ⟨rfl, by omega, .inl rfl⟩, ⟨rfl, by omega, .inl rfl⟩, ⟨rfl, by omega, .inl rfl⟩, trivial⟩) fun m hm => ?_))
      · have e : Int.ofNat k - ((0 : Nat) : Int) * d.flat = Int.ofNat k := by simp
        rw [e]; rfl
      have hkq : (m : Int) ≤ (Int.ofNat k).tdiv d.flat := by rw [hq']; exact Int.ofNat_le.2 hm
      have rin := round_in (k := m) q0 q1 hfl
      have rout := round_out (k := m) q0 hfl hkq
      obtain ⟨M, hM⟩ : ∃ M, M = Int.ofNat k - m * d.flat := ⟨_, rfl⟩
      rw [← hM] at rin rout ⊢
      refine SW.seq ?_
      refine SW.seqRun tok hO (by cbv <;> rfl) (by trivial) ?_
      refine SW.condS (by cbv <;> rfl) (fun h => SW.skip ?_) (fun h => SW.exit ?_)
      · have hge : d.flat ≤ M := by subst hO; simpa [std] using h
        obtain ⟨r1, r2⟩ := rin hge
        first | refine SW.block ?_ | refine SW.seq (SW.block ?_)
        refine SW.seqRun tok hO (by cbv <;> rfl) (by trivial) ?_
        refine SW.run tok hO (by cbv <;> rfl) (by trivial) ?_
        have hk1 : m + 1 ≤ q' := by rw [hq'] at r1; have : ((m : Int) + 1) ≤ (q' : Int) := r1; omega
        refine ⟨m + 1, by omega, hk1, Weak.by rfl rfl (by simp) (Nat.le_refl _) (Nat.le_refl _) ⟨⟨rfl, .inl rfl⟩, ⟨rfl, .inl rfl⟩, ⟨rfl, .inl rfl⟩, trivial⟩ ⟨⟨congrArg (fun l => some (AObj.cells none false l)) ?_, by omega, .inl rfl⟩, ⟨rfl, by omega, .inl rfl⟩, ⟨rfl, by omega, .inl rfl⟩, ⟨rfl, by omega, .inl rfl⟩, trivial⟩⟩
        have e1 : AV.lit (.int .i64 (O.bin .sub .i64 M d.flat)) = iV (Int.ofNat k - ((m + 1 : Nat) : Int) * d.flat) := by rw [← r2]; subst hO; rfl
        have e2 := inc_ok hO (i := m) (by omega)
        show [(.isl la sa false ha), (.isl lb sb false hb2), iV k, iV L, AV.lit (.int .i64 (O.bin .add .i64 (Int.ofNat m) 1)), AV.lit (.int .i64 (O.bin .sub .i64 M d.flat))] = [(.isl la sa false ha), (.isl lb sb false hb2), iV k, iV L, iV ((m + 1 : Nat) : Int), iV (Int.ofNat k - ((m + 1 : Nat) : Int) * d.flat)]
        rw [e1, e2]
      have hlt2 : M < d.flat := by subst hO; simpa [std] using h
      obtain ⟨p1, p2⟩ := rout hlt2
      have hmq : m = q' := by rw [hq'] at p1; have : (m : Int) = (q' : Int) := p1; omega
      subst hmq
      refine SW.seqRun tok hO (by cbv <;> rfl) (by trivial) ?_
      refine SW.ret ⟨_, _, rfl, rfl, ?_⟩
      exact hres _ _ _ _ rfl o2 rfl p2
end Go.Fz
