/- Own work of the verifier of watercress: FzCl3. -/
import Derived.Test.YtcjekdfncnmbfaaNa14
set_option linter.unusedVariables false
set_option linter.unusedSimpArgs false
namespace Go.Fz
open Go.Proofs
set_option maxRecDepth 100000
set_option linter.unusedVariables false
def yard0 : List AV := [iV 0, iV 0, nl3, nl3]
theorem yard0_below : ∀ a ∈ yard0, Below 0 a := AllB.ok ⟨Below.lit, Below.lit, Below.lit, Below.lit, trivial⟩
def yardS (y : YardD) (A B : AV) (H : Hp) (n : Nat) : St := ⟨[(2, .cells none false [iV y.last, iV y.hands, A, B]), (1, .cells none false yard0), (0, .cells none false (yardC y))] ++ H, n⟩
def midY (mk : AV → St) (a : AV) (e : Exit) (fm : Fm) (st : St) : Prop :=
  e = .normal ∧ ∃ g X, fm = ⟨⟨64, g⟩, []⟩ ∧ g 1 = .ptr 0 0 ∧ g 2 = .ptr 1 0 ∧ g 3 = .ptr 2 0 ∧ Eqv X a ∧ (X = nl3 ∨ ∃ len sz h, X = .isl len sz false h) ∧ st = mk X
theorem bedC_below (y : YardD) (i k : Nat) : Below 0 (bedC y i k) := by unfold bedC; split <;> exact Below.lit
theorem clmC_below (y : YardD) (i k : Nat) : Below 0 (clmC y i k) := by unfold clmC; split <;> exact Below.lit
set_option maxHeartbeats 8000000 in
theorem yard_ok (y : YardD) (hb : y.nb ≤ 1000) (hc : y.nc ≤ 1000) : Pure Try.prog 20 [yardV y] (yardV y) := by
  obtain ⟨O, hO⟩ : ∃ O : Ar, O = std := ⟨_, rfl⟩
  have hnat : ∀ i : Nat, O.nat (Int.ofNat i) = i := fun i => by subst hO; rfl
  refine pure_of_body tok 3 Try.func20 en20 rfl ⟨yardV_below y, trivial⟩ (yardV_below y) ?_
  refine SW.seqRun tok hO (by cbv <;> rfl) (by trivial) ?_
  refine SW.seqRun tok hO (by cbv <;> rfl) (by trivial) ?_
  refine SW.seq (SW.mono (Q := midY (fun X => yardS y (X) (nl3) [] 4) (bedsV y)) ?_ ?_)
  · refine SW.seqRun tok hO (by cbv <;> rfl) (by trivial) ?_
    refine (SW.block (SW.loopR (fun i : Nat => ⟨⟨64, getT [(1, .ptr 0 0), (2, .ptr 1 0), (3, .ptr 2 0), (4, iV i)]⟩, []⟩) (fun i => yardS y (slG 3 3 i) (nl3) (objG 3 3 (bedC y) i) 4) (fun i => y.nb - i) (fun i => i ≤ y.nb) 0 (Nat.zero_le _) (ren1 3 3) ?_ fun i hi => ?_))
    · exact WeakR.up rfl rfl (by simp) (Nat.le_refl _) (.inl rfl) (by show 3 ≤ 4; omega) ⟨RenV.ptr (by omega), RenV.ptr (by omega), RenV.ptr (by omega), RenV.closed Below.lit, trivial⟩ ⟨⟨by omega, _, rfl, .cells (.cons (RenV.closed Below.lit) (.cons (RenV.closed Below.lit) (.cons (RenV.closed Below.lit) (.cons (RenV.closed Below.lit) .nil)))), .inr rfl⟩, ⟨by omega, _, rfl, .cells (RenVs.closed yard0_below), .inr rfl⟩, ⟨by omega, _, rfl, .cells (RenVs.closed (yardC_below y)), .inr rfl⟩, trivial⟩ (fun p hp => by cases hp)
    cases i with
    | zero =>
      refine SW.seq ?_
      refine SW.seqRun tok hO (by cbv <;> rfl) (by trivial) ?_
      refine SW.condS (by cbv <;> rfl) (fun h => SW.skip ?_) (fun h => ?_)
      · have hlt : 0 < y.nb := by subst hO; simpa [std] using h
        have h0 : (0 : Int) ≤ Int.ofNat 0 := Int.natCast_nonneg 0
        refine SW.seq (SW.block ?_)
        have call := to_ok (y.blo 0) (y.bhi 0)
        rw [← hnat 0] at call
        refine SW.runD tok mixed hO (by rfl) (by cbv <;> rfl) ?_ ?_
        · first | exact ⟨⟨h0, Int.ofNat_lt.2 hlt⟩, h0, Int.ofNat_lt.2 hlt⟩ | exact ⟨h0, Int.ofNat_lt.2 hlt⟩
        refine AnyE.callP call (by cbv <;> rfl) (by cbv <;> rfl) ?_
        refine AnyE.run tok hO (by rfl) (by cbv <;> rfl) (by trivial) ?_
        refine AnyE.effK tok hO (by cbv <;> rfl) (by cbv <;> rfl) (by trivial) ?_ ?_
        · exact ⟨by cbv <;> rfl, by cbv <;> rfl, trivial⟩
        refine AnyE.appNil tok (by cbv <;> rfl) (by cbv <;> rfl) (by rfl) (by kernel_rfl) (by rfl) (by rfl) ?_
        refine AnyE.run tok hO (by rfl) (by cbv <;> rfl) (by trivial) ?_
        refine AnyE.eff tok hO (by cbv <;> rfl) (by cbv <;> rfl) (by trivial) ?_
        refine AnyE.done (by rfl) ?_
        refine SW.run tok hO (by cbv <;> rfl) (by trivial) ?_
        refine ⟨1, by omega, by omega, ren1 3 5, ?_⟩
        refine WeakR.up rfl rfl (by simp) (Nat.le_refl _) (.inr (by omega)) (by show 3 ≤ 4; omega) ⟨RenV.ptr (by omega), RenV.ptr (by omega), RenV.ptr (by omega), RenV.inc hO (by omega), trivial⟩
          ⟨⟨by omega, _, rfl, .cells (.cons (RenV.closed Below.lit) (.cons (RenV.closed Below.lit) (.cons (RenV.sl (by omega)) (.cons (RenV.closed Below.lit) .nil)))), .inr rfl⟩, ⟨by omega, _, rfl, .cells (RenVs.closed yard0_below), .inr rfl⟩, ⟨by omega, _, rfl, .cells (RenVs.closed (yardC_below y)), .inr rfl⟩, trivial⟩ (fun p hp => ?_)
        obtain rfl := objG_mem hp
        exact ⟨by omega, _, rfl, .cells (RenVs.of_eq (by subst hO; rfl) (flatG_below (bedC_below y) 1)), .inl rfl⟩
      · have hz : y.nb = 0 := by
          have : y.nb ≤ 0 := by subst hO; simpa [std] using h
          omega
        refine SW.exit ⟨rfl, _, nl3, rfl, rfl, rfl, rfl, ?_, .inl rfl, rfl⟩
        show Eqv nl3 (.isl y.nb 3 false (bedC y))
        rw [hz]; exact Eqv.nil
    | succ i =>
      obtain ⟨G, hG⟩ : ∃ G, G = flatG 3 (bedC y) (i + 1) := ⟨_, rfl⟩
      have hGo : objG 3 3 (bedC y) (i + 1) = [(3, .cells none false G)] := by rw [hG]; rfl
      show SW _ _ _ _ _ (yardS y (.sl 3 0 (i + 1) 3 false) (nl3) (objG 3 3 (bedC y) (i + 1)) 4)
      rw [hGo]
      refine SW.seq ?_
      refine SW.seqRun tok hO (by cbv <;> rfl) (by trivial) ?_
      refine SW.condS (by cbv <;> rfl) (fun h => SW.skip ?_) (fun h => ?_)
      · have hlt : i + 1 < y.nb := by
          have : ((i + 1 : Nat) : Int) < (y.nb : Int) := by subst hO; simpa [std] using h
          omega
        have h0 : (0 : Int) ≤ Int.ofNat (i + 1) := Int.natCast_nonneg (i + 1)
        refine SW.seq (SW.block ?_)
        have call := to_ok (y.blo (i + 1)) (y.bhi (i + 1))
        rw [← hnat (i + 1)] at call
        refine SW.runD tok mixed hO (by rfl) (by cbv <;> rfl) ?_ ?_
        · first | exact ⟨⟨h0, Int.ofNat_lt.2 hlt⟩, h0, Int.ofNat_lt.2 hlt⟩ | exact ⟨h0, Int.ofNat_lt.2 hlt⟩
        refine AnyE.callP call (by cbv <;> rfl) (by cbv <;> rfl) ?_
        refine AnyE.run tok hO (by rfl) (by cbv <;> rfl) (by trivial) ?_
        refine AnyE.effK tok hO (by cbv <;> rfl) (by cbv <;> rfl) (by trivial) ?_ ?_
        · exact ⟨by cbv <;> rfl, by cbv <;> rfl, trivial⟩
        refine AnyE.appOne (g := bedC y) tok (by cbv <;> rfl) (by cbv <;> rfl) (by rfl) (by rfl) hG (by kernel_rfl) (by rfl) (by rfl) (by omega) fun G' hG' => ?_
        refine AnyE.run tok hO (by rfl) (by cbv <;> rfl) (by trivial) ?_
        refine AnyE.eff tok hO (by cbv <;> rfl) (by cbv <;> rfl) (by trivial) ?_
        refine AnyE.done (by rfl) ?_
        refine SW.run tok hO (by cbv <;> rfl) (by trivial) ?_
        refine ⟨i + 1 + 1, by omega, by omega, ren1 3 5, ?_⟩
        refine WeakR.up rfl rfl (by simp) (Nat.le_refl _) (.inr (by omega)) (by show 3 ≤ 4; omega) ⟨RenV.ptr (by omega), RenV.ptr (by omega), RenV.ptr (by omega), RenV.inc hO (by omega), trivial⟩
          ⟨⟨by omega, _, rfl, .cells (.cons (RenV.closed Below.lit) (.cons (RenV.closed Below.lit) (.cons (RenV.sl (by omega)) (.cons (RenV.closed Below.lit) .nil)))), .inr rfl⟩, ⟨by omega, _, rfl, .cells (RenVs.closed yard0_below), .inr rfl⟩, ⟨by omega, _, rfl, .cells (RenVs.closed (yardC_below y)), .inr rfl⟩, trivial⟩ (fun p hp => ?_)
        obtain rfl := objG_mem hp
        exact ⟨by omega, _, rfl, .cells (RenVs.of_eq (hG'.trans (by subst hO; rfl)) (flatG_below (bedC_below y) (i + 1 + 1))), .inl rfl⟩
      · have hz : y.nb = i + 1 := by
          have : (y.nb : Int) ≤ ((i + 1 : Nat) : Int) := by subst hO; simpa [std] using h
          omega
        have hlG : (i + 1) * 3 ≤ G.length := by rw [hG, flatG_length]; omega
        refine SW.freezeZ (fun j => Nat.beq j 3) 3 (by rfl) (SW.exit ⟨rfl, _, _, rfl, rfl, rfl, rfl, ?_, ?_, rfl⟩)
        rotate_left
        · exact .inr ⟨_, _, _, frz_slE (fm := none) (G := G) rfl rfl hlG⟩
        show Eqv (frz _ _ 3 (.sl 3 0 (i + 1) 3 false)) (.isl y.nb 3 false (bedC y))
        rw [hz, frz_slE (fm := none) (G := G) rfl rfl hlG, hG]
        exact Eqv.isl rfl fun i' k hi' hk => Eqv.of (frz_flat hi' hk (by unfold bedC; split <;> rfl))
  rintro e fm st ⟨rfl, g, A, rfl, g1, g2, g3, hA, _, rfl⟩
  refine SW.seq (SW.mono (Q := midY (fun X => yardS y (bedsV y) (X) [] 5) (clmsV y)) ?_ ?_)
  · refine SW.seqRun tok hO (by cbv <;> rfl) (by trivial) ?_
    refine (SW.block (SW.loopR (fun i : Nat => ⟨⟨64, getT [(1, .ptr 0 0), (2, .ptr 1 0), (3, .ptr 2 0), (5, iV i)]⟩, []⟩) (fun i => yardS y (bedsV y) (slG 4 3 i) (objG 4 3 (clmC y) i) 5) (fun i => y.nc - i) (fun i => i ≤ y.nc) 0 (Nat.zero_le _) (ren1 4 4) ?_ fun i hi => ?_))
    · refine WeakR.up rfl rfl (by simp) (Nat.le_refl _) (.inl rfl) (by show 4 ≤ 5; omega) ⟨?_, ?_, ?_, RenV.closed Below.lit, trivial⟩ ⟨⟨by omega, _, rfl, .cells (.cons (RenV.closed Below.lit) (.cons (RenV.closed Below.lit) (.cons (RenV.eqv (RenV.closed (bedsV_below y)) hA) (.cons (RenV.closed Below.lit) .nil)))), .inr rfl⟩, ⟨by omega, _, rfl, .cells (RenVs.closed yard0_below), .inr rfl⟩, ⟨by omega, _, rfl, .cells (RenVs.closed (yardC_below y)), .inr rfl⟩, trivial⟩ (fun p hp => by cases hp)
      · show RenV _ _ _ (g 1); rw [g1]; exact RenV.ptr (by omega)
      · show RenV _ _ _ (g 2); rw [g2]; exact RenV.ptr (by omega)
      · show RenV _ _ _ (g 3); rw [g3]; exact RenV.ptr (by omega)
    cases i with
    | zero =>
      refine SW.seq ?_
      refine SW.seqRun tok hO (by cbv <;> rfl) (by trivial) ?_
      refine SW.condS (by cbv <;> rfl) (fun h => SW.skip ?_) (fun h => ?_)
      · have hlt : 0 < y.nc := by subst hO; simpa [std] using h
        have h0 : (0 : Int) ≤ Int.ofNat 0 := Int.natCast_nonneg 0
        refine SW.seq (SW.block ?_)
        have call := to_ok (y.clo 0) (y.chi 0)
        rw [← hnat 0] at call
        refine SW.runD tok mixed hO (by rfl) (by cbv <;> rfl) ?_ ?_
        · first | exact ⟨⟨h0, Int.ofNat_lt.2 hlt⟩, h0, Int.ofNat_lt.2 hlt⟩ | exact ⟨h0, Int.ofNat_lt.2 hlt⟩
        refine AnyE.callP call (by cbv <;> rfl) (by cbv <;> rfl) ?_
        refine AnyE.run tok hO (by rfl) (by cbv <;> rfl) (by trivial) ?_
        refine AnyE.effK tok hO (by cbv <;> rfl) (by cbv <;> rfl) (by trivial) ?_ ?_
        · exact ⟨by cbv <;> rfl, by cbv <;> rfl, trivial⟩
        refine AnyE.appNil tok (by cbv <;> rfl) (by cbv <;> rfl) (by rfl) (by kernel_rfl) (by rfl) (by rfl) ?_
        refine AnyE.run tok hO (by rfl) (by cbv <;> rfl) (by trivial) ?_
        refine AnyE.eff tok hO (by cbv <;> rfl) (by cbv <;> rfl) (by trivial) ?_
        refine AnyE.done (by rfl) ?_
        refine SW.run tok hO (by cbv <;> rfl) (by trivial) ?_
        refine ⟨1, by omega, by omega, ren1 4 6, ?_⟩
        refine WeakR.up rfl rfl (by simp) (Nat.le_refl _) (.inr (by omega)) (by show 4 ≤ 5; omega) ⟨RenV.ptr (by omega), RenV.ptr (by omega), RenV.ptr (by omega), RenV.inc hO (by omega), trivial⟩
          ⟨⟨by omega, _, rfl, .cells (.cons (RenV.closed Below.lit) (.cons (RenV.closed Below.lit) (.cons (RenV.closed (bedsV_below y)) (.cons (RenV.sl (by omega)) .nil)))), .inr rfl⟩, ⟨by omega, _, rfl, .cells (RenVs.closed yard0_below), .inr rfl⟩, ⟨by omega, _, rfl, .cells (RenVs.closed (yardC_below y)), .inr rfl⟩, trivial⟩ (fun p hp => ?_)
        obtain rfl := objG_mem hp
        exact ⟨by omega, _, rfl, .cells (RenVs.of_eq (by subst hO; rfl) (flatG_below (clmC_below y) 1)), .inl rfl⟩
      · have hz : y.nc = 0 := by
          have : y.nc ≤ 0 := by subst hO; simpa [std] using h
          omega
        refine SW.exit ⟨rfl, _, nl3, rfl, rfl, rfl, rfl, ?_, .inl rfl, rfl⟩
        show Eqv nl3 (.isl y.nc 3 false (clmC y))
        rw [hz]; exact Eqv.nil
    | succ i =>
      obtain ⟨G, hG⟩ : ∃ G, G = flatG 3 (clmC y) (i + 1) := ⟨_, rfl⟩
      have hGo : objG 4 3 (clmC y) (i + 1) = [(4, .cells none false G)] := by rw [hG]; rfl
      show SW _ _ _ _ _ (yardS y (bedsV y) (.sl 4 0 (i + 1) 3 false) (objG 4 3 (clmC y) (i + 1)) 5)
      rw [hGo]
      refine SW.seq ?_
      refine SW.seqRun tok hO (by cbv <;> rfl) (by trivial) ?_
      refine SW.condS (by cbv <;> rfl) (fun h => SW.skip ?_) (fun h => ?_)
      · have hlt : i + 1 < y.nc := by
          have : ((i + 1 : Nat) : Int) < (y.nc : Int) := by subst hO; simpa [std] using h
          omega
        have h0 : (0 : Int) ≤ Int.ofNat (i + 1) := Int.natCast_nonneg (i + 1)
        refine SW.seq (SW.block ?_)
        have call := to_ok (y.clo (i + 1)) (y.chi (i + 1))
        rw [← hnat (i + 1)] at call
        refine SW.runD tok mixed hO (by rfl) (by cbv <;> rfl) ?_ ?_
        · first | exact ⟨⟨h0, Int.ofNat_lt.2 hlt⟩, h0, Int.ofNat_lt.2 hlt⟩ | exact ⟨h0, Int.ofNat_lt.2 hlt⟩
        refine AnyE.callP call (by cbv <;> rfl) (by cbv <;> rfl) ?_
        refine AnyE.run tok hO (by rfl) (by cbv <;> rfl) (by trivial) ?_
        refine AnyE.effK tok hO (by cbv <;> rfl) (by cbv <;> rfl) (by trivial) ?_ ?_
        · exact ⟨by cbv <;> rfl, by cbv <;> rfl, trivial⟩
        refine AnyE.appOne (g := clmC y) tok (by cbv <;> rfl) (by cbv <;> rfl) (by rfl) (by rfl) hG (by kernel_rfl) (by rfl) (by rfl) (by omega) fun G' hG' => ?_
        refine AnyE.run tok hO (by rfl) (by cbv <;> rfl) (by trivial) ?_
        refine AnyE.eff tok hO (by cbv <;> rfl) (by cbv <;> rfl) (by trivial) ?_
        refine AnyE.done (by rfl) ?_
        refine SW.run tok hO (by cbv <;> rfl) (by trivial) ?_
        refine ⟨i + 1 + 1, by omega, by omega, ren1 4 6, ?_⟩
        refine WeakR.up rfl rfl (by simp) (Nat.le_refl _) (.inr (by omega)) (by show 4 ≤ 5; omega) ⟨RenV.ptr (by omega), RenV.ptr (by omega), RenV.ptr (by omega), RenV.inc hO (by omega), trivial⟩
          ⟨⟨by omega, _, rfl, .cells (.cons (RenV.closed Below.lit) (.cons (RenV.closed Below.lit) (.cons (RenV.closed (bedsV_below y)) (.cons (RenV.sl (by omega)) .nil)))), .inr rfl⟩, ⟨by omega, _, rfl, .cells (RenVs.closed yard0_below), .inr rfl⟩, ⟨by omega, _, rfl, .cells (RenVs.closed (yardC_below y)), .inr rfl⟩, trivial⟩ (fun p hp => ?_)
        obtain rfl := objG_mem hp
        exact ⟨by omega, _, rfl, .cells (RenVs.of_eq (hG'.trans (by subst hO; rfl)) (flatG_below (clmC_below y) (i + 1 + 1))), .inl rfl⟩
      · have hz : y.nc = i + 1 := by
          have : (y.nc : Int) ≤ ((i + 1 : Nat) : Int) := by subst hO; simpa [std] using h
          omega
        have hlG : (i + 1) * 3 ≤ G.length := by rw [hG, flatG_length]; omega
        refine SW.freezeZ (fun j => Nat.beq j 4) 3 (by rfl) (SW.exit ⟨rfl, _, _, rfl, rfl, rfl, rfl, ?_, ?_, rfl⟩)
        rotate_left
        · exact .inr ⟨_, _, _, frz_slE (fm := none) (G := G) rfl rfl hlG⟩
        show Eqv (frz _ _ 3 (.sl 4 0 (i + 1) 3 false)) (.isl y.nc 3 false (clmC y))
        rw [hz, frz_slE (fm := none) (G := G) rfl rfl hlG, hG]
        exact Eqv.isl rfl fun i' k hi' hk => Eqv.of (frz_flat hi' hk (by unfold clmC; split <;> rfl))
  rintro e fm st ⟨rfl, g, A, rfl, g1, g2, g3, hA, hform, rfl⟩
  rw [← updT_self g1, ← updT_self g2, ← updT_self g3]
  rcases hform with rfl | ⟨len, sz, h, rfl⟩
  · refine SW.seqRun tok hO (by cbv <;> rfl) (by trivial) ?_
    exact SW.ret ⟨_, _, rfl, rfl, Eqv.agg (.cons (Eqv.refl _) (.cons (Eqv.refl _) (.cons (Eqv.refl _) (.cons hA .nil))))⟩
  · refine SW.seqRun tok hO (by cbv <;> rfl) (by trivial) ?_
    exact SW.ret ⟨_, _, rfl, rfl, Eqv.agg (.cons (Eqv.refl _) (.cons (Eqv.refl _) (.cons (Eqv.refl _) (.cons hA .nil))))⟩
end Go.Fz
