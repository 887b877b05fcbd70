/- Own work of the verifier of watercress: FzB22n, FzB23n, FzB24n. -/
import Derived.Test.YtpefamheopplnaaMl21
set_option linter.unusedVariables false
set_option linter.unusedSimpArgs false
namespace Go.Fz
open Go.Proofs
set_option maxRecDepth 100000
def DayD.qW (d : DayD) (N : Int) : Nat → Int
  | 0 => N
  | s + 1 => quo64 (d.qW N s) (size64 (d.wlo s) (d.whi s))
def DayD.qL (d : DayD) (N : Int) : Nat → Int
  | 0 => d.qW N d.nw
  | s + 1 => quo64 (d.qL N s) (size64 (d.llo s) (d.lhi s))
def DayD.feN (d : DayD) (N : Int) (s : Nat) : Int := add64 (d.wlo s) ((d.qW N s).tmod (size64 (d.wlo s) (d.whi s)))
def DayD.stN (d : DayD) (N : Int) (s : Nat) : Int := add64 (d.llo s) ((d.qL N s).tmod (size64 (d.llo s) (d.lhi s)))
def DayD.nthT (d : DayD) (N : Int) : TruD := ⟨d.nw, false, d.feN N, d.nl, false, d.stN N⟩
def tru0 : List AV := [nl3, nl3]
theorem tru0_below : ∀ a ∈ tru0, Below 0 a := AllB.ok ⟨Below.lit, Below.lit, trivial⟩
def nthS (d : DayD) (A B : AV) (H : Hp) (n : Nat) : St := ⟨[(2, .cells none false [A, B]), (1, .cells none false tru0), (0, .cells none false (dayC d))] ++ H, n⟩
def midN (mk : AV → St) (a : AV) (q : Int) (e : Exit) (fm : Fm) (st : St) : Prop :=
  e = .normal ∧ ∃ g X, fm = ⟨⟨68, g⟩, []⟩ ∧ g 1 = iV q ∧ g 2 = .ptr 0 0 ∧ g 4 = .ptr 1 0 ∧ g 5 = .ptr 2 0 ∧ Eqv X a ∧ (X = nl3 ∨ ∃ len sz h, X = .isl len sz false h) ∧ st = mk X
set_option maxHeartbeats 8000000 in
theorem nth_ok (d : DayD) (g0 : d.Good) (N : Int) : Pure Try.prog 79 [dayV d, iV N] (truV (d.nthT N)) := by
  obtain ⟨O, hO⟩ : ∃ O : Ar, O = std := ⟨_, rfl⟩
  have hnat : ∀ i : Nat, O.nat (Int.ofNat i) = i := fun i => by subst hO; rfl
  have hnw := g0.nw
  have hnl := g0.nl
  refine pure_of_body tok 3 Try.func79 en79 rfl ⟨dayV_below d, iV_below, trivial⟩ (truV_below _) ?_
  refine SW.seqRun tok hO (by cbv <;> rfl) (by trivial) ?_
  refine SW.seqRun tok hO (by cbv <;> rfl) (by trivial) ?_
  refine SW.seq (SW.mono (Q := midN (fun X => nthS d (X) nl3 [] 4) (intsV d.nw false (d.feN N)) (d.qW N d.nw)) ?_ ?_)
  · refine SW.seqRun tok hO (by cbv <;> rfl) (by trivial) ?_
    refine (SW.block (SW.loopR (fun i : Nat => ⟨⟨68, getT [(1, iV (d.qW N i)), (2, .ptr 0 0), (4, .ptr 1 0), (5, .ptr 2 0), (6, iV i)]⟩, []⟩) (fun i => nthS d (slG 3 1 i) nl3 (objG 3 1 (intC (d.feN N)) i) 4) (fun i => d.nw - i) (fun i => i ≤ d.nw) 0 (Nat.zero_le _) (ren1 3 3) ?_ fun i hi => ?_))
    · exact WeakR.up rfl rfl (by simp) (Nat.le_refl _) (.inl rfl) (by show 3 ≤ 4; omega) ⟨RenV.closed Below.lit, RenV.ptr (by omega), RenV.ptr (by omega), RenV.ptr (by omega), RenV.closed Below.lit, trivial⟩ ⟨⟨by omega, _, rfl, .cells (.cons (RenV.closed Below.lit) (.cons (RenV.closed Below.lit) .nil)), .inr rfl⟩, ⟨by omega, _, rfl, .cells (RenVs.closed tru0_below), .inr rfl⟩, ⟨by omega, _, rfl, .cells (RenVs.closed (dayC_below d)), .inr rfl⟩, trivial⟩ (fun p hp => by cases hp)
    generalize hQ : d.qW N i = q
    cases i with
    | zero =>
      refine SW.seq ?_
      refine SW.seqRun tok hO (by cbv <;> rfl) (by trivial) ?_
      refine SW.condS (by cbv <;> rfl) (fun h => SW.skip ?_) (fun h => ?_)
      · have hlt : 0 < d.nw := by subst hO; simpa [std] using h
        have h0 : (0 : Int) ≤ Int.ofNat (0) := Int.natCast_nonneg _
        obtain ⟨hs0, hs1, hs2⟩ := g0.wom (0) hlt
        have hsz := size64_in (lo := d.wlo (0)) (hi := d.whi (0)) (by omega) hs1 (by omega)
        have hne : size64 (d.wlo (0)) (d.whi (0)) ≠ 0 := by rw [hsz]; omega
        have call := size61_ok (d.wlo (0)) (d.whi (0))
        have e1 : quo64 q (size64 (d.wlo (0)) (d.whi (0))) = d.qW N (1) := by rw [← hQ]; rfl
        have e2 : add64 (d.wlo (0)) (q.tmod (size64 (d.wlo (0)) (d.whi (0)))) = d.feN N (0) := by rw [← hQ]; rfl
        generalize size64 (d.wlo (0)) (d.whi (0)) = z at call hne e1 e2
        rw [← hnat (0)] at call
        refine SW.seq (SW.block ?_)
        refine SW.seqRun tok hO (by cbv <;> rfl) ?_ ?_
        · exact ⟨h0, Int.ofNat_lt.2 hlt⟩
        refine SW.runD tok mixed hO (by rfl) (by cbv <;> rfl) (by trivial) ?_
        refine AnyE.callP call (by cbv <;> rfl) (by cbv <;> rfl) ?_
        refine AnyE.run tok hO (by rfl) (by cbv <;> rfl) ?_ ?_
        · exact hne
        refine AnyE.effK tok hO (by cbv <;> rfl) (by cbv <;> rfl) (by trivial) ?_ ?_
        · exact (by repeat (first | exact trivial | refine And.intro (by first | exact lv_of hO (by cbv <;> rfl) (by trivial) | (refine lv_of hO (by cbv <;> rfl) ?_; exact hne)) ?_))
        refine AnyE.appNilK tok (by cbv <;> rfl) (by cbv <;> rfl) (by rfl) (by kernel_rfl) (by rfl) (by rfl) ?_ ?_
        · exact (by repeat (first | exact trivial | refine And.intro (by first | exact lv_of hO (by cbv <;> rfl) (by trivial) | (refine lv_of hO (by cbv <;> rfl) ?_; exact hne)) ?_))
        refine AnyE.run tok hO (by rfl) (by cbv <;> rfl) (by trivial) ?_
        refine AnyE.callP call (by cbv <;> rfl) (by cbv <;> rfl) ?_
        refine AnyE.run tok hO (by rfl) (by cbv <;> rfl) ?_ ?_
        · exact hne
        refine AnyE.effK tok hO (by cbv <;> rfl) (by cbv <;> rfl) (by trivial) ?_ ?_
        · exact (by repeat (first | exact trivial | refine And.intro (by first | exact lv_of hO (by cbv <;> rfl) (by trivial) | (refine lv_of hO (by cbv <;> rfl) ?_; exact hne)) ?_))
        refine AnyE.run tok hO (by rfl) (by cbv <;> rfl) (by trivial) ?_
        first
          | refine AnyE.done (by rfl) ?_
          | (refine AnyE.effK tok hO (by cbv <;> rfl) (by cbv <;> rfl) (by trivial) ?_ ?_
             · exact (by repeat (first | exact trivial | refine And.intro (by first | exact lv_of hO (by cbv <;> rfl) (by trivial) | (refine lv_of hO (by cbv <;> rfl) ?_; exact hne)) ?_))
             refine AnyE.done (by rfl) ?_)
        refine SW.run tok hO (by cbv <;> rfl) (by trivial) ?_
        refine ⟨1, by omega, by omega, ren1 3 6, ?_⟩
        have e3 : O.bin .quo .i64 q z = d.qW N (1) := by rw [← e1]; subst hO; rfl
        have e4 : O.bin .add .i64 (d.wlo (O.nat (Int.ofNat (0)))) (O.bin .rem .i64 q z) = d.feN N (0) := by rw [← e2, hnat]; subst hO; rfl
        refine WeakR.up rfl rfl (by simp) (Nat.le_refl _) (.inr (by omega)) (by show 3 ≤ 4; omega) ⟨?_, RenV.ptr (by omega), RenV.ptr (by omega), RenV.ptr (by omega), RenV.inc hO (by omega), trivial⟩ ⟨⟨by omega, _, rfl, .cells (.cons (RenV.sl (by omega)) (.cons (RenV.closed Below.lit) .nil)), .inr rfl⟩, ⟨by omega, _, rfl, .cells (RenVs.closed tru0_below), .inr rfl⟩, ⟨by omega, _, rfl, .cells (RenVs.closed (dayC_below d)), .inr rfl⟩, trivial⟩ (fun p hp => ?_)
        · show RenV _ _ (iV (d.qW N (1))) (iV (O.bin .quo .i64 q z))
          rw [e3]; exact RenV.closed Below.lit
        obtain rfl := objG_mem hp
        exact ⟨by omega, _, rfl, .cells (RenVs.of_eq (congrArg (fun v => [iV v]) e4) (flatG_below (intC_below (d.feN N)) 1)), .inl rfl⟩
      · have hz : d.nw = 0 := by
          have : d.nw ≤ 0 := by subst hO; simpa [std] using h
          omega
        refine SW.exit ⟨rfl, _, nl3, rfl, by show iV q = _; rw [hz, ← hQ], rfl, rfl, rfl, ?_, .inl rfl, rfl⟩
        show Eqv nl3 (.isl d.nw 1 false (intC (d.feN N)))
        rw [hz]; exact Eqv.nil
    | succ i =>
      obtain ⟨G, hG⟩ : ∃ G, G = flatG 1 (intC (d.feN N)) (i + 1) := ⟨_, rfl⟩
      have hGo : objG 3 1 (intC (d.feN N)) (i + 1) = [(3, .cells none false G)] := by rw [hG]; rfl
      show SW _ _ _ _ _ (nthS d (.sl 3 0 (i + 1) 1 false) nl3 (objG 3 1 (intC (d.feN N)) (i + 1)) 4)
      rw [hGo]
      refine SW.seq ?_
      refine SW.seqRun tok hO (by cbv <;> rfl) (by trivial) ?_
      refine SW.condS (by cbv <;> rfl) (fun h => SW.skip ?_) (fun h => ?_)
      · have hlt : i + 1 < d.nw := by
          have : ((i + 1 : Nat) : Int) < (d.nw : Int) := by subst hO; simpa [std] using h
          omega
        have h0 : (0 : Int) ≤ Int.ofNat (i + 1) := Int.natCast_nonneg _
        obtain ⟨hs0, hs1, hs2⟩ := g0.wom (i + 1) hlt
        have hsz := size64_in (lo := d.wlo (i + 1)) (hi := d.whi (i + 1)) (by omega) hs1 (by omega)
        have hne : size64 (d.wlo (i + 1)) (d.whi (i + 1)) ≠ 0 := by rw [hsz]; omega
        have call := size61_ok (d.wlo (i + 1)) (d.whi (i + 1))
        have e1 : quo64 q (size64 (d.wlo (i + 1)) (d.whi (i + 1))) = d.qW N (i + 1 + 1) := by rw [← hQ]; rfl
        have e2 : add64 (d.wlo (i + 1)) (q.tmod (size64 (d.wlo (i + 1)) (d.whi (i + 1)))) = d.feN N (i + 1) := by rw [← hQ]; rfl
        generalize size64 (d.wlo (i + 1)) (d.whi (i + 1)) = z at call hne e1 e2
        rw [← hnat (i + 1)] at call
        refine SW.seq (SW.block ?_)
        refine SW.seqRun tok hO (by cbv <;> rfl) ?_ ?_
        · exact ⟨h0, Int.ofNat_lt.2 hlt⟩
        refine SW.runD tok mixed hO (by rfl) (by cbv <;> rfl) (by trivial) ?_
        refine AnyE.callP call (by cbv <;> rfl) (by cbv <;> rfl) ?_
        refine AnyE.run tok hO (by rfl) (by cbv <;> rfl) ?_ ?_
        · exact hne
        refine AnyE.effK tok hO (by cbv <;> rfl) (by cbv <;> rfl) (by trivial) ?_ ?_
        · exact (by repeat (first | exact trivial | refine And.intro (by first | exact lv_of hO (by cbv <;> rfl) (by trivial) | (refine lv_of hO (by cbv <;> rfl) ?_; exact hne)) ?_))
        refine AnyE.appOneK (g := intC (d.feN N)) tok (by cbv <;> rfl) (by cbv <;> rfl) (by rfl) (by rfl) hG (by kernel_rfl) (by rfl) (by rfl) (by omega) fun G' hG' => ⟨?_, ?_⟩
        · exact (by repeat (first | exact trivial | refine And.intro (by first | exact lv_of hO (by cbv <;> rfl) (by trivial) | (refine lv_of hO (by cbv <;> rfl) ?_; exact hne)) ?_))
        refine AnyE.run tok hO (by rfl) (by cbv <;> rfl) (by trivial) ?_
        refine AnyE.callP call (by cbv <;> rfl) (by cbv <;> rfl) ?_
        refine AnyE.run tok hO (by rfl) (by cbv <;> rfl) ?_ ?_
        · exact hne
        refine AnyE.effK tok hO (by cbv <;> rfl) (by cbv <;> rfl) (by trivial) ?_ ?_
        · exact (by repeat (first | exact trivial | refine And.intro (by first | exact lv_of hO (by cbv <;> rfl) (by trivial) | (refine lv_of hO (by cbv <;> rfl) ?_; exact hne)) ?_))
        refine AnyE.run tok hO (by rfl) (by cbv <;> rfl) (by trivial) ?_
        first
          | refine AnyE.done (by rfl) ?_
          | (refine AnyE.effK tok hO (by cbv <;> rfl) (by cbv <;> rfl) (by trivial) ?_ ?_
             · exact (by repeat (first | exact trivial | refine And.intro (by first | exact lv_of hO (by cbv <;> rfl) (by trivial) | (refine lv_of hO (by cbv <;> rfl) ?_; exact hne)) ?_))
             refine AnyE.done (by rfl) ?_)
        refine SW.run tok hO (by cbv <;> rfl) (by trivial) ?_
        refine ⟨i + 1 + 1, by omega, by omega, ren1 3 6, ?_⟩
        have e3 : O.bin .quo .i64 q z = d.qW N (i + 1 + 1) := by rw [← e1]; subst hO; rfl
        have e4 : O.bin .add .i64 (d.wlo (O.nat (Int.ofNat (i + 1)))) (O.bin .rem .i64 q z) = d.feN N (i + 1) := by rw [← e2, hnat]; subst hO; rfl
        refine WeakR.up rfl rfl (by simp) (Nat.le_refl _) (.inr (by omega)) (by show 3 ≤ 4; omega) ⟨?_, RenV.ptr (by omega), RenV.ptr (by omega), RenV.ptr (by omega), RenV.inc hO (by omega), trivial⟩ ⟨⟨by omega, _, rfl, .cells (.cons (RenV.sl (by omega)) (.cons (RenV.closed Below.lit) .nil)), .inr rfl⟩, ⟨by omega, _, rfl, .cells (RenVs.closed tru0_below), .inr rfl⟩, ⟨by omega, _, rfl, .cells (RenVs.closed (dayC_below d)), .inr rfl⟩, trivial⟩ (fun p hp => ?_)
        · show RenV _ _ (iV (d.qW N (i + 1 + 1))) (iV (O.bin .quo .i64 q z))
          rw [e3]; exact RenV.closed Below.lit
        obtain rfl := objG_mem hp
        exact ⟨by omega, _, rfl, .cells (RenVs.of_eq (hG'.trans (flatG_snoc (d.feN N) (i + 1) _ e4)) (flatG_below (intC_below (d.feN N)) (i + 1 + 1))), .inl rfl⟩
      · have hz : d.nw = i + 1 := by
          have : (d.nw : Int) ≤ ((i + 1 : Nat) : Int) := by subst hO; simpa [std] using h
          omega
        have hlG : (i + 1) * 1 ≤ G.length := by rw [hG, flatG_length]; omega
        refine SW.freezeZ (fun j => Nat.beq j 3) 3 (by rfl) (SW.exit ⟨rfl, _, _, rfl, by show iV q = _; rw [hz, ← hQ], rfl, rfl, rfl, ?_, ?_, rfl⟩)
        rotate_left
        · exact .inr ⟨_, _, _, frz_slE (fm := none) (G := G) rfl rfl hlG⟩
        show Eqv (frz _ _ 3 (.sl 3 0 (i + 1) 1 false)) (.isl d.nw 1 false (intC (d.feN N)))
        rw [hz, frz_slE (fm := none) (G := G) rfl rfl hlG, hG]
        exact Eqv.isl rfl fun i' k hi' hk => Eqv.of (frz_flat hi' hk rfl)
  rintro e fm st ⟨rfl, g, A, rfl, g1, g2, g4, g5, hA, _, rfl⟩
  refine SW.seq (SW.mono (Q := midN (fun X => nthS d (intsV d.nw false (d.feN N)) (X) [] 5) (intsV d.nl false (d.stN N)) (d.qL N d.nl)) ?_ ?_)
  · refine SW.seqRun tok hO (by cbv <;> rfl) (by trivial) ?_
    refine (SW.block (SW.loopR (fun i : Nat => ⟨⟨68, getT [(1, iV (d.qL N i)), (2, .ptr 0 0), (4, .ptr 1 0), (5, .ptr 2 0), (8, iV i)]⟩, []⟩) (fun i => nthS d (intsV d.nw false (d.feN N)) (slG 4 1 i) (objG 4 1 (intC (d.stN N)) i) 5) (fun i => d.nl - i) (fun i => i ≤ d.nl) 0 (Nat.zero_le _) (ren1 4 4) ?_ fun i hi => ?_))
    · refine WeakR.up rfl rfl (by simp) (Nat.le_refl _) (.inl rfl) (by show 4 ≤ 5; omega) ⟨?_, ?_, ?_, ?_, RenV.closed Below.lit, trivial⟩ ⟨⟨by omega, _, rfl, .cells (.cons (RenV.eqv (RenV.closed (intsV_below _ _ _)) hA) (.cons (RenV.closed Below.lit) .nil)), .inr rfl⟩, ⟨by omega, _, rfl, .cells (RenVs.closed tru0_below), .inr rfl⟩, ⟨by omega, _, rfl, .cells (RenVs.closed (dayC_below d)), .inr rfl⟩, trivial⟩ (fun p hp => by cases hp)
      · show RenV _ _ _ (g 1); rw [g1]; exact RenV.closed Below.lit
      · show RenV _ _ _ (g 2); rw [g2]; exact RenV.ptr (by omega)
      · show RenV _ _ _ (g 4); rw [g4]; exact RenV.ptr (by omega)
      · show RenV _ _ _ (g 5); rw [g5]; exact RenV.ptr (by omega)
    generalize hQ : d.qL N i = q
    cases i with
    | zero =>
      refine SW.seq ?_
      refine SW.seqRun tok hO (by cbv <;> rfl) (by trivial) ?_
      refine SW.condS (by cbv <;> rfl) (fun h => SW.skip ?_) (fun h => ?_)
      · have hlt : 0 < d.nl := by subst hO; simpa [std] using h
        have h0 : (0 : Int) ≤ Int.ofNat (0) := Int.natCast_nonneg _
        obtain ⟨hs0, hs1, hs2⟩ := (fun i hi => (g0.lot i hi).2) (0) hlt
        have hsz := size64_in (lo := d.llo (0)) (hi := d.lhi (0)) (by omega) hs1 (by omega)
        have hne : size64 (d.llo (0)) (d.lhi (0)) ≠ 0 := by rw [hsz]; omega
        have call := size61_ok (d.llo (0)) (d.lhi (0))
        have e1 : quo64 q (size64 (d.llo (0)) (d.lhi (0))) = d.qL N (1) := by rw [← hQ]; rfl
        have e2 : add64 (d.llo (0)) (q.tmod (size64 (d.llo (0)) (d.lhi (0)))) = d.stN N (0) := by rw [← hQ]; rfl
        generalize size64 (d.llo (0)) (d.lhi (0)) = z at call hne e1 e2
        rw [← hnat (0)] at call
        refine SW.seq (SW.block ?_)
        refine SW.seqRun tok hO (by cbv <;> rfl) ?_ ?_
        · exact ⟨h0, Int.ofNat_lt.2 hlt⟩
        refine SW.runD tok mixed hO (by rfl) (by cbv <;> rfl) (by trivial) ?_
        refine AnyE.callP call (by cbv <;> rfl) (by cbv <;> rfl) ?_
        refine AnyE.run tok hO (by rfl) (by cbv <;> rfl) ?_ ?_
        · exact hne
        refine AnyE.effK tok hO (by cbv <;> rfl) (by cbv <;> rfl) (by trivial) ?_ ?_
        · exact (by repeat (first | exact trivial | refine And.intro (by first | exact lv_of hO (by cbv <;> rfl) (by trivial) | (refine lv_of hO (by cbv <;> rfl) ?_; exact hne)) ?_))
        refine AnyE.appNilK tok (by cbv <;> rfl) (by cbv <;> rfl) (by rfl) (by kernel_rfl) (by rfl) (by rfl) ?_ ?_
        · exact (by repeat (first | exact trivial | refine And.intro (by first | exact lv_of hO (by cbv <;> rfl) (by trivial) | (refine lv_of hO (by cbv <;> rfl) ?_; exact hne)) ?_))
        refine AnyE.run tok hO (by rfl) (by cbv <;> rfl) (by trivial) ?_
        refine AnyE.callP call (by cbv <;> rfl) (by cbv <;> rfl) ?_
        refine AnyE.run tok hO (by rfl) (by cbv <;> rfl) ?_ ?_
        · exact hne
        refine AnyE.effK tok hO (by cbv <;> rfl) (by cbv <;> rfl) (by trivial) ?_ ?_
        · exact (by repeat (first | exact trivial | refine And.intro (by first | exact lv_of hO (by cbv <;> rfl) (by trivial) | (refine lv_of hO (by cbv <;> rfl) ?_; exact hne)) ?_))
        refine AnyE.run tok hO (by rfl) (by cbv <;> rfl) (by trivial) ?_
        first
          | refine AnyE.done (by rfl) ?_
          | (refine AnyE.effK tok hO (by cbv <;> rfl) (by cbv <;> rfl) (by trivial) ?_ ?_
             · exact (by repeat (first | exact trivial | refine And.intro (by first | exact lv_of hO (by cbv <;> rfl) (by trivial) | (refine lv_of hO (by cbv <;> rfl) ?_; exact hne)) ?_))
             refine AnyE.done (by rfl) ?_)
        refine SW.run tok hO (by cbv <;> rfl) (by trivial) ?_
        refine ⟨1, by omega, by omega, ren1 4 7, ?_⟩
        have e3 : O.bin .quo .i64 q z = d.qL N (1) := by rw [← e1]; subst hO; rfl
        have e4 : O.bin .add .i64 (d.llo (O.nat (Int.ofNat (0)))) (O.bin .rem .i64 q z) = d.stN N (0) := by rw [← e2, hnat]; subst hO; rfl
        refine WeakR.up rfl rfl (by simp) (Nat.le_refl _) (.inr (by omega)) (by show 4 ≤ 5; omega) ⟨?_, RenV.ptr (by omega), RenV.ptr (by omega), RenV.ptr (by omega), RenV.inc hO (by omega), trivial⟩ ⟨⟨by omega, _, rfl, .cells (.cons (RenV.closed (intsV_below _ _ _)) (.cons (RenV.sl (by omega)) .nil)), .inr rfl⟩, ⟨by omega, _, rfl, .cells (RenVs.closed tru0_below), .inr rfl⟩, ⟨by omega, _, rfl, .cells (RenVs.closed (dayC_below d)), .inr rfl⟩, trivial⟩ (fun p hp => ?_)
        · show RenV _ _ (iV (d.qL N (1))) (iV (O.bin .quo .i64 q z))
          rw [e3]; exact RenV.closed Below.lit
        obtain rfl := objG_mem hp
        exact ⟨by omega, _, rfl, .cells (RenVs.of_eq (congrArg (fun v => [iV v]) e4) (flatG_below (intC_below (d.stN N)) 1)), .inl rfl⟩
      · have hz : d.nl = 0 := by
          have : d.nl ≤ 0 := by subst hO; simpa [std] using h
          omega
        refine SW.exit ⟨rfl, _, nl3, rfl, by show iV q = _; rw [hz, ← hQ], rfl, rfl, rfl, ?_, .inl rfl, rfl⟩
        show Eqv nl3 (.isl d.nl 1 false (intC (d.stN N)))
        rw [hz]; exact Eqv.nil
    | succ i =>
      obtain ⟨G, hG⟩ : ∃ G, G = flatG 1 (intC (d.stN N)) (i + 1) := ⟨_, rfl⟩
      have hGo : objG 4 1 (intC (d.stN N)) (i + 1) = [(4, .cells none false G)] := by rw [hG]; rfl
      show SW _ _ _ _ _ (nthS d (intsV d.nw false (d.feN N)) (.sl 4 0 (i + 1) 1 false) (objG 4 1 (intC (d.stN N)) (i + 1)) 5)
      rw [hGo]
      refine SW.seq ?_
      refine SW.seqRun tok hO (by cbv <;> rfl) (by trivial) ?_
      refine SW.condS (by cbv <;> rfl) (fun h => SW.skip ?_) (fun h => ?_)
      · have hlt : i + 1 < d.nl := by
          have : ((i + 1 : Nat) : Int) < (d.nl : Int) := by subst hO; simpa [std] using h
          omega
        have h0 : (0 : Int) ≤ Int.ofNat (i + 1) := Int.natCast_nonneg _
        obtain ⟨hs0, hs1, hs2⟩ := (fun i hi => (g0.lot i hi).2) (i + 1) hlt
        have hsz := size64_in (lo := d.llo (i + 1)) (hi := d.lhi (i + 1)) (by omega) hs1 (by omega)
        have hne : size64 (d.llo (i + 1)) (d.lhi (i + 1)) ≠ 0 := by rw [hsz]; omega
        have call := size61_ok (d.llo (i + 1)) (d.lhi (i + 1))
        have e1 : quo64 q (size64 (d.llo (i + 1)) (d.lhi (i + 1))) = d.qL N (i + 1 + 1) := by rw [← hQ]; rfl
        have e2 : add64 (d.llo (i + 1)) (q.tmod (size64 (d.llo (i + 1)) (d.lhi (i + 1)))) = d.stN N (i + 1) := by rw [← hQ]; rfl
        generalize size64 (d.llo (i + 1)) (d.lhi (i + 1)) = z at call hne e1 e2
        rw [← hnat (i + 1)] at call
        refine SW.seq (SW.block ?_)
        refine SW.seqRun tok hO (by cbv <;> rfl) ?_ ?_
        · exact ⟨h0, Int.ofNat_lt.2 hlt⟩
        refine SW.runD tok mixed hO (by rfl) (by cbv <;> rfl) (by trivial) ?_
        refine AnyE.callP call (by cbv <;> rfl) (by cbv <;> rfl) ?_
        refine AnyE.run tok hO (by rfl) (by cbv <;> rfl) ?_ ?_
        · exact hne
        refine AnyE.effK tok hO (by cbv <;> rfl) (by cbv <;> rfl) (by trivial) ?_ ?_
        · exact (by repeat (first | exact trivial | refine And.intro (by first | exact lv_of hO (by cbv <;> rfl) (by trivial) | (refine lv_of hO (by cbv <;> rfl) ?_; exact hne)) ?_))
        refine AnyE.appOneK (g := intC (d.stN N)) tok (by cbv <;> rfl) (by cbv <;> rfl) (by rfl) (by rfl) hG (by kernel_rfl) (by rfl) (by rfl) (by omega) fun G' hG' => ⟨?_, ?_⟩
        · exact (by repeat (first | exact trivial | refine And.intro (by first | exact lv_of hO (by cbv <;> rfl) (by trivial) | (refine lv_of hO (by cbv <;> rfl) ?_; exact hne)) ?_))
        refine AnyE.run tok hO (by rfl) (by cbv <;> rfl) (by trivial) ?_
        refine AnyE.callP call (by cbv <;> rfl) (by cbv <;> rfl) ?_
        refine AnyE.run tok hO (by rfl) (by cbv <;> rfl) ?_ ?_
        · exact hne
        refine AnyE.effK tok hO (by cbv <;> rfl) (by cbv <;> rfl) (by trivial) ?_ ?_
        · exact (by repeat (first | exact trivial | refine And.intro (by first | exact lv_of hO (by cbv <;> rfl) (by trivial) | (refine lv_of hO (by cbv <;> rfl) ?_; exact hne)) ?_))
        refine AnyE.run tok hO (by rfl) (by cbv <;> rfl) (by trivial) ?_
        first
          | refine AnyE.done (by rfl) ?_
          | (refine AnyE.effK tok hO (by cbv <;> rfl) (by cbv <;> rfl) (by trivial) ?_ ?_
             · exact (by repeat (first | exact trivial | refine And.intro (by first | exact lv_of hO (by cbv <;> rfl) (by trivial) | (refine lv_of hO (by cbv <;> rfl) ?_; exact hne)) ?_))
             refine AnyE.done (by rfl) ?_)
        refine SW.run tok hO (by cbv <;> rfl) (by trivial) ?_
        refine ⟨i + 1 + 1, by omega, by omega, ren1 4 7, ?_⟩
        have e3 : O.bin .quo .i64 q z = d.qL N (i + 1 + 1) := by rw [← e1]; subst hO; rfl
        have e4 : O.bin .add .i64 (d.llo (O.nat (Int.ofNat (i + 1)))) (O.bin .rem .i64 q z) = d.stN N (i + 1) := by rw [← e2, hnat]; subst hO; rfl
        refine WeakR.up rfl rfl (by simp) (Nat.le_refl _) (.inr (by omega)) (by show 4 ≤ 5; omega) ⟨?_, RenV.ptr (by omega), RenV.ptr (by omega), RenV.ptr (by omega), RenV.inc hO (by omega), trivial⟩ ⟨⟨by omega, _, rfl, .cells (.cons (RenV.closed (intsV_below _ _ _)) (.cons (RenV.sl (by omega)) .nil)), .inr rfl⟩, ⟨by omega, _, rfl, .cells (RenVs.closed tru0_below), .inr rfl⟩, ⟨by omega, _, rfl, .cells (RenVs.closed (dayC_below d)), .inr rfl⟩, trivial⟩ (fun p hp => ?_)
        · show RenV _ _ (iV (d.qL N (i + 1 + 1))) (iV (O.bin .quo .i64 q z))
          rw [e3]; exact RenV.closed Below.lit
        obtain rfl := objG_mem hp
        exact ⟨by omega, _, rfl, .cells (RenVs.of_eq (hG'.trans (flatG_snoc (d.stN N) (i + 1) _ e4)) (flatG_below (intC_below (d.stN N)) (i + 1 + 1))), .inl rfl⟩
      · have hz : d.nl = i + 1 := by
          have : (d.nl : Int) ≤ ((i + 1 : Nat) : Int) := by subst hO; simpa [std] using h
          omega
        have hlG : (i + 1) * 1 ≤ G.length := by rw [hG, flatG_length]; omega
        refine SW.freezeZ (fun j => Nat.beq j 4) 3 (by rfl) (SW.exit ⟨rfl, _, _, rfl, by show iV q = _; rw [hz, ← hQ], rfl, rfl, rfl, ?_, ?_, rfl⟩)
        rotate_left
        · exact .inr ⟨_, _, _, frz_slE (fm := none) (G := G) rfl rfl hlG⟩
        show Eqv (frz _ _ 3 (.sl 4 0 (i + 1) 1 false)) (.isl d.nl 1 false (intC (d.stN N)))
        rw [hz, frz_slE (fm := none) (G := G) rfl rfl hlG, hG]
        exact Eqv.isl rfl fun i' k hi' hk => Eqv.of (frz_flat hi' hk rfl)
  rintro e fm st ⟨rfl, g, A, rfl, g1, g2, g4, g5, hA, hform, rfl⟩
  rw [← updT_self g4, ← updT_self g5]
  rcases hform with rfl | ⟨len, sz, h, rfl⟩
  · refine SW.seqRun tok hO (by cbv <;> rfl) (by trivial) ?_
    exact SW.ret ⟨_, _, rfl, rfl, Eqv.agg (.cons (Eqv.refl _) (.cons hA .nil))⟩
  · refine SW.seqRun tok hO (by cbv <;> rfl) (by trivial) ?_
    exact SW.ret ⟨_, _, rfl, rfl, Eqv.agg (.cons (Eqv.refl _) (.cons hA .nil))⟩
end Go.Fz
namespace Go.Fz
open Go.Proofs
set_option maxRecDepth 100000
theorem sumN_mono {b c : Nat → Int} {M : Nat} (h : ∀ i, i < M → 0 ≤ b i ∧ b i ≤ c i ∧ c i ≤ 20000) : ∀ i, i ≤ M → i ≤ 4 → 0 ≤ sumN b i ∧ sumN b i ≤ sumN c i ∧ sumN c i ≤ 20000 * i
  | 0, _, _ => by simp [sumN]
  | i + 1, hi, h4 => by
    obtain ⟨h1, h2, h3⟩ := sumN_mono h i (by omega) (by omega)
    have := h i (by omega)
    show 0 ≤ add64 (sumN b i) (b i) ∧ add64 (sumN b i) (b i) ≤ add64 (sumN c i) (c i) ∧ add64 (sumN c i) (c i) ≤ 20000 * ((i + 1 : Nat) : Int)
    rw [add64_in _ _ (by omega) (by omega), add64_in _ _ (by omega) (by omega)]; omega
end Go.Fz
namespace Go.Fz
open Go.Proofs
set_option maxRecDepth 100000
theorem mod_in {lo hi q : Int} (h0 : 0 ≤ lo) (h1 : lo ≤ hi) (h2 : hi ≤ 5000) (hq : 0 ≤ q) : lo ≤ add64 lo (q.tmod (size64 lo hi)) ∧ add64 lo (q.tmod (size64 lo hi)) ≤ hi := by
  have hs := size64_in h0 h1 h2
  obtain ⟨_, _, _, h4, h5⟩ := tdiv_nn hq (show 1 ≤ size64 lo hi by omega)
  rw [add64_in _ _ (by omega) (by omega)]
  omega
theorem quo_nn {a b : Int} (ha : 0 ≤ a) (ha2 : a ≤ 1000000000) (hb : 1 ≤ b) : 0 ≤ quo64 a b ∧ quo64 a b ≤ 1000000000 := by
  obtain ⟨h1, h2, _⟩ := tdiv_nn ha hb
  rw [quo64_nn ha ha2 hb]; omega
theorem qW_nn {d : DayD} (g : d.Good) {N : Int} (h0 : 0 ≤ N) (h1 : N ≤ 1000000000) : ∀ i, i ≤ d.nw → 0 ≤ d.qW N i ∧ d.qW N i ≤ 1000000000
  | 0, _ => ⟨h0, h1⟩
  | i + 1, h => by
    obtain ⟨a, b⟩ := qW_nn g h0 h1 i (by omega)
    have hw := g.wom i (by omega)
    have hs := size64_in (lo := d.wlo i) (hi := d.whi i) (by omega) (by omega) (by omega)
    exact quo_nn a b (by omega)
theorem qL_nn {d : DayD} (g : d.Good) {N : Int} (h0 : 0 ≤ N) (h1 : N ≤ 1000000000) : ∀ i, i ≤ d.nl → 0 ≤ d.qL N i ∧ d.qL N i ≤ 1000000000
  | 0, _ => qW_nn g h0 h1 d.nw (Nat.le_refl _)
  | i + 1, h => by
    obtain ⟨a, b⟩ := qL_nn g h0 h1 i (by omega)
    have hw := (g.lot i (by omega)).2
    have hs := size64_in (lo := d.llo i) (hi := d.lhi i) (by omega) (by omega) (by omega)
    exact quo_nn a b (by omega)
theorem nth_fits {d : DayD} (g : d.Good) {N : Int} (h0 : 0 ≤ N) (h1 : N ≤ 1000000000) : d.fits (d.nthT N) = true := by
  have e1 : ∀ i, i < d.nw → inB (d.feN N i) (d.wlo i) (d.whi i) = true := fun i hi => by
    have hw := g.wom i hi
    obtain ⟨a, b⟩ := mod_in (lo := d.wlo i) (hi := d.whi i) (by omega) (by omega) (by omega) (qW_nn g h0 h1 i (by omega)).1
    simp only [inB, Bool.and_eq_true, decide_eq_true_eq]
    exact ⟨a, b⟩
  have e2 : ∀ i, i < d.nl → inB (d.stN N i) (d.llo i) (d.lhi i) = true := fun i hi => by
    have hw := (g.lot i hi).2
    obtain ⟨a, b⟩ := mod_in (lo := d.llo i) (hi := d.lhi i) (by omega) (by omega) (by omega) (qL_nn g h0 h1 i (by omega)).1
    simp only [inB, Bool.and_eq_true, decide_eq_true_eq]
    exact ⟨a, b⟩
  show (decide (d.nw = d.nw) && decide (d.nl = d.nl) && allN d.nw (fun i => inB (d.feN N i) (d.wlo i) (d.whi i)) && allN d.nl (fun i => inB (d.stN N i) (d.llo i) (d.lhi i))) = true
  rw [allN_true e1, allN_true e2]; simp
end Go.Fz
