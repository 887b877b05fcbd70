/- Own work of the verifier of watercress: FzX2, FzX3, FzZ2, FzZ3, FzZ4, FzX4, FzX5. -/
import Derived.Test.YtpaifaemkoblcaaNa13
import Derived.Test.YtpaifaemkoblcaaNa9
set_option linter.unusedVariables false
set_option linter.unusedSimpArgs false
namespace Go.Fz
open Go.Proofs
set_option maxRecDepth 100000
theorem to_ok (lo hi : Int) : Pure Try.prog 70 [rangeV lo hi] (rangeV lo hi) := by
  obtain ⟨O, hO⟩ : ∃ O : Ar, O = std := ⟨_, rfl⟩
  refine pure_of_body tok 3 Try.func70 en70 rfl ⟨rangeV_below, trivial⟩ rangeV_below ?_
  refine SW.seqRun tok hO (by cbv <;> rfl) (by trivial) ?_
  refine SW.seqRun tok hO (by cbv <;> rfl) (by trivial) ?_
  refine SW.ret ⟨_, _, rfl, rfl, Eqv.of ?_⟩
  rfl
end Go.Fz
namespace Go.Fz
open Go.Proofs
set_option maxRecDepth 100000
set_option maxHeartbeats 16000000
theorem springC_one (f : FarmD) (i k : Nat) : Below 0 (springC f i k) ∧ (springC f i k).one = true := by
  unfold springC; split <;> exact ⟨Below.lit, rfl⟩
theorem bedC_one (f : FarmD) (i k : Nat) : Below 0 (bedC f i k) ∧ (bedC f i k).one = true := by
  unfold bedC; split <;> exact ⟨Below.lit, rfl⟩
theorem lookC_one (f : FarmD) (i k : Nat) : Below 0 (lookC f i k) ∧ (lookC f i k).one = true := by
  unfold lookC; split <;> first | exact ⟨Below.lit, rfl⟩ | exact ⟨Below.sb, rfl⟩
theorem frz_slEx {h : Hp} {D : Nat → Bool} {id sz n : Nat} {fm : Option Nat} {g : Nat → Nat → AV} (hd : D id = true) (hg : h.get id = some (.cells fm false (flatG sz g (n + 1)))) :
    frz h D 3 (.sl id 0 (n + 1) sz false) = .isl (n + 1) sz false (fun i k => frz h D 2 ((flatG sz g (n + 1)).getD (0 + i * sz + k) .any)) := by
  show (if D id = true then (match h.get id with | some (.cells _ false cs) => if 0 + (n + 1) * sz ≤ cs.length then AV.isl (n + 1) sz false (fun i k => frz h D 2 (cs.getD (0 + i * sz + k) .any)) else .any | _ => .any) else _) = _
  rw [if_pos hd, hg]
  exact if_pos (by rw [flatG_length]; omega)
theorem frz_slG {h : Hp} {D : Nat → Bool} {id sz n : Nat} {fm : Option Nat} {g : Nat → Nat → AV} (hd : D id = true) (hg : h.get id = some (.cells fm false (flatG sz g (n + 1)))) (hz : ∀ i k, frz h D 2 (g i k) = g i k) :
    Eqv (frz h D 3 (.sl id 0 (n + 1) sz false)) (.isl (n + 1) sz false g) := by
  rw [frz_slEx hd hg]
  refine Eqv.isl rfl fun i k hi hk => ?_
  have : (flatG sz g (n + 1)).getD (0 + i * sz + k) .any = g i k := by
    rw [List.getD_eq_getElem?_getD, show 0 + i * sz + k = i * sz + k by omega, flatG_get sz g (n + 1) i k hi hk]; rfl
  rw [this, hz]; exact Eqv.refl _
def farmS (f : FarmD) (A B C : AV) (H : Hp) (n : Nat) : St := ⟨[(2, .cells none false [A, B, C]), (1, .cells none false [nl3, nl3, nl3]), (0, .cells none false [springsV f, bedsV f, looksV f])] ++ H, n⟩
theorem nl3_below : ∀ a ∈ [nl3, nl3, nl3], Below 0 a := AllB.ok ⟨Below.lit, Below.lit, Below.lit, trivial⟩
theorem farmC_below (f : FarmD) : ∀ a ∈ [springsV f, bedsV f, looksV f], Below 0 a := AllB.ok ⟨springsV_below f, bedsV_below f, looksV_below f, trivial⟩
set_option maxHeartbeats 4000000 in
def midFx (mk : AV → St) (a : AV) (e : Exit) (fm : Fm) (st : St) : Prop :=
  e = .normal ∧ ∃ g X, fm = ⟨⟨85, g⟩, []⟩ ∧ g 1 = .ptr 0 0 ∧ g 2 = .ptr 1 0 ∧ g 3 = .ptr 2 0 ∧ Eqv X a ∧ (X = nl3 ∨ ∃ len sz h, X = .isl len sz false h) ∧ st = mk X
theorem farm_ok (f : FarmD) (hnb : f.nb ≤ 10) (hns : f.ns ≤ 6) (hnl : f.nl ≤ 7) : Pure Try.prog 21 [farmV f] (farmV f) := by
  obtain ⟨O, hO⟩ : ∃ O : Ar, O = std := ⟨_, rfl⟩
  have hnat : ∀ i : Nat, O.nat (Int.ofNat i) = i := fun i => by subst hO; rfl
  refine pure_of_body tok 3 Try.func21 en21 rfl ⟨farmV_below f, trivial⟩ (farmV_below f) ?_
  refine SW.seqRun tok hO (by cbv <;> rfl) (by trivial) ?_
  refine SW.seqRun tok hO (by cbv <;> rfl) (by trivial) ?_
  refine SW.seq (SW.mono (Q := midFx (fun X => farmS f X nl3 nl3 [] 4) (springsV f)) ?_ ?_)
  · refine SW.seqRun tok hO (by cbv <;> rfl) (by trivial) ?_
    refine (SW.block (SW.loopR (fun i : Nat => ⟨⟨85, getT [(1, .ptr 0 0), (2, .ptr 1 0), (3, .ptr 2 0), (4, iV i)]⟩, []⟩) (fun i => farmS f (slG 3 3 i) nl3 nl3 (objG 3 3 (springC f) i) 4) (fun i => f.ns - i) (fun i => i ≤ f.ns) 0 (Nat.zero_le _) (ren1 3 3) ?_ fun i hi => ?_))
    · exact WeakR.up rfl rfl (by simp) (Nat.le_refl _) (.inl rfl) (by show 3 ≤ 4; omega) ⟨RenV.ptr (by omega), RenV.ptr (by omega), RenV.ptr (by omega), RenV.closed Below.lit, trivial⟩ ⟨⟨by omega, _, rfl, .cells (RenVs.closed nl3_below), .inr rfl⟩, ⟨by omega, _, rfl, .cells (RenVs.closed nl3_below), .inr rfl⟩, ⟨by omega, _, rfl, .cells (RenVs.closed (farmC_below f)), .inr rfl⟩, trivial⟩ (fun p hp => by cases hp)
    cases i with
    | zero =>
      refine SW.seq ?_
      refine SW.seqRun tok hO (by cbv <;> rfl) (by trivial) ?_
      refine SW.condS (by cbv <;> rfl) (fun h => SW.skip ?_) (fun h => ?_)
      · have hlt : 0 < f.ns := by subst hO; simpa [std] using h
        have h0 : (0 : Int) ≤ Int.ofNat 0 := Int.natCast_nonneg 0
        refine SW.seq (SW.block ?_)
        have call := to_ok (f.slo 0) (f.shi 0)
        rw [← hnat 0] at call
        refine SW.runD tok mixed hO (by rfl) (by cbv <;> rfl) ?_ ?_
        · exact ⟨⟨h0, Int.ofNat_lt.2 hlt⟩, ⟨h0, Int.ofNat_lt.2 hlt⟩⟩
        refine AnyE.callP call (by cbv <;> rfl) (by cbv <;> rfl) ?_
        refine AnyE.run tok hO (by rfl) (by cbv <;> rfl) (by trivial) ?_
        refine AnyE.effK tok hO (by cbv <;> rfl) (by cbv <;> rfl) (by trivial) ?_ ?_
        · exact ⟨by cbv <;> rfl, by cbv <;> rfl, trivial⟩
        refine AnyE.appNil tok (by cbv <;> rfl) (by cbv <;> rfl) (by rfl) (by kernel_rfl) (by rfl) (by rfl) ?_
        refine AnyE.run tok hO (by rfl) (by cbv <;> rfl) (by trivial) ?_
        refine AnyE.eff tok hO (by cbv <;> rfl) (by cbv <;> rfl) (by trivial) ?_
        refine AnyE.done (by rfl) ?_
        refine SW.run tok hO (by cbv <;> rfl) (by trivial) ?_
        refine ⟨1, by omega, by omega, ren1 3 5, ?_⟩
        refine WeakR.up rfl rfl (by simp) (Nat.le_refl _) (.inr (by omega)) (by show 3 ≤ 4; omega) ⟨RenV.ptr (by omega), RenV.ptr (by omega), RenV.ptr (by omega), RenV.inc hO (by omega), trivial⟩
          ⟨⟨by omega, _, rfl, .cells (.cons (RenV.sl (by omega)) (.cons (RenV.closed Below.lit) (.cons (RenV.closed Below.lit) .nil))), .inr rfl⟩, ⟨by omega, _, rfl, .cells (RenVs.closed nl3_below), .inr rfl⟩, ⟨by omega, _, rfl, .cells (RenVs.closed (farmC_below f)), .inr rfl⟩, trivial⟩ (fun p hp => ?_)
        obtain rfl := objG_mem hp
        exact ⟨by omega, _, rfl, .cells (RenVs.of_eq (by subst hO; rfl) (flatG_below (fun i k => (springC_one f i k).1) 1)), .inl rfl⟩
      · have hz : f.ns = 0 := by
          have : f.ns ≤ 0 := by subst hO; simpa [std] using h
          omega
        refine SW.exit ⟨rfl, _, nl3, rfl, rfl, rfl, rfl, ?_, .inl rfl, rfl⟩
        show Eqv nl3 (.isl f.ns 3 false (springC f))
        rw [hz]; exact Eqv.nil
    | succ i =>
      obtain ⟨G, hG⟩ : ∃ G, G = flatG 3 (springC f) (i + 1) := ⟨_, rfl⟩
      have hGo : objG 3 3 (springC f) (i + 1) = [(3, .cells none false G)] := by rw [hG]; rfl
      show SW _ _ _ _ _ (farmS f (.sl 3 0 (i + 1) 3 false) nl3 nl3 (objG 3 3 (springC f) (i + 1)) 4)
      rw [hGo]
      refine SW.seq ?_
      refine SW.seqRun tok hO (by cbv <;> rfl) (by trivial) ?_
      refine SW.condS (by cbv <;> rfl) (fun h => SW.skip ?_) (fun h => ?_)
      · have hlt : i + 1 < f.ns := by
          have : ((i + 1 : Nat) : Int) < (f.ns : Int) := by subst hO; simpa [std] using h
          omega
        have h0 : (0 : Int) ≤ Int.ofNat (i + 1) := Int.natCast_nonneg (i + 1)
        refine SW.seq (SW.block ?_)
        have call := to_ok (f.slo (i + 1)) (f.shi (i + 1))
        rw [← hnat (i + 1)] at call
        refine SW.runD tok mixed hO (by rfl) (by cbv <;> rfl) ?_ ?_
        · exact ⟨⟨h0, Int.ofNat_lt.2 hlt⟩, ⟨h0, Int.ofNat_lt.2 hlt⟩⟩
        refine AnyE.callP call (by cbv <;> rfl) (by cbv <;> rfl) ?_
        refine AnyE.run tok hO (by rfl) (by cbv <;> rfl) (by trivial) ?_
        refine AnyE.effK tok hO (by cbv <;> rfl) (by cbv <;> rfl) (by trivial) ?_ ?_
        · exact ⟨by cbv <;> rfl, by cbv <;> rfl, trivial⟩
        refine AnyE.appOne (g := springC f) tok (by cbv <;> rfl) (by cbv <;> rfl) (by rfl) (by rfl) hG (by kernel_rfl) (by rfl) (by rfl) (by omega) fun G' hG' => ?_
        refine AnyE.run tok hO (by rfl) (by cbv <;> rfl) (by trivial) ?_
        refine AnyE.eff tok hO (by cbv <;> rfl) (by cbv <;> rfl) (by trivial) ?_
        refine AnyE.done (by rfl) ?_
        refine SW.run tok hO (by cbv <;> rfl) (by trivial) ?_
        refine ⟨i + 1 + 1, by omega, by omega, ren1 3 5, ?_⟩
        refine WeakR.up rfl rfl (by simp) (Nat.le_refl _) (.inr (by omega)) (by show 3 ≤ 4; omega) ⟨RenV.ptr (by omega), RenV.ptr (by omega), RenV.ptr (by omega), RenV.inc hO (by omega), trivial⟩
          ⟨⟨by omega, _, rfl, .cells (.cons (RenV.sl (by omega)) (.cons (RenV.closed Below.lit) (.cons (RenV.closed Below.lit) .nil))), .inr rfl⟩, ⟨by omega, _, rfl, .cells (RenVs.closed nl3_below), .inr rfl⟩, ⟨by omega, _, rfl, .cells (RenVs.closed (farmC_below f)), .inr rfl⟩, trivial⟩ (fun p hp => ?_)
        obtain rfl := objG_mem hp
        exact ⟨by omega, _, rfl, .cells (RenVs.of_eq (hG'.trans (by subst hO; rfl)) (flatG_below (fun i k => (springC_one f i k).1) (i + 1 + 1))), .inl rfl⟩
      · have hz : f.ns = i + 1 := by
          have : (f.ns : Int) ≤ ((i + 1 : Nat) : Int) := by subst hO; simpa [std] using h
          omega
        refine SW.freezeZ (fun j => Nat.beq j 3) 3 (by rfl) (SW.exit ⟨rfl, _, _, rfl, rfl, rfl, rfl, ?_, ?_, rfl⟩)
        rotate_left
        · exact .inr ⟨_, _, _, frz_slEx (fm := none) rfl (by rw [← hG]; rfl)⟩
        show Eqv (frz _ _ 3 (.sl 3 0 (i + 1) 3 false)) (.isl f.ns 3 false (springC f))
        rw [hz]
        exact frz_slG (fm := none) rfl (by rw [← hG]; rfl) fun i k => by unfold springC; split <;> rfl
  rintro e fm st ⟨rfl, g, A, rfl, g1, g2, g3, hA, _, rfl⟩
  refine SW.seq (SW.mono (Q := midFx (fun X => farmS f (springsV f) X nl3 [] 5) (bedsV f)) ?_ ?_)
  · refine SW.seqRun tok hO (by cbv <;> rfl) (by trivial) ?_
    refine (SW.block (SW.loopR (fun i : Nat => ⟨⟨85, getT [(1, .ptr 0 0), (2, .ptr 1 0), (3, .ptr 2 0), (5, iV i)]⟩, []⟩) (fun i => farmS f (springsV f) (slG 4 3 i) nl3 (objG 4 3 (bedC f) i) 5) (fun i => f.nb - i) (fun i => i ≤ f.nb) 0 (Nat.zero_le _) (ren1 4 4) ?_ fun i hi => ?_))
    · refine WeakR.up rfl rfl (by simp) (Nat.le_refl _) (.inl rfl) (by show 4 ≤ 5; omega) ⟨?_, ?_, ?_, RenV.closed Below.lit, trivial⟩ ⟨⟨by omega, _, rfl, .cells (.cons (RenV.eqv (RenV.closed (springsV_below f)) hA) (.cons (RenV.closed Below.lit) (.cons (RenV.closed Below.lit) .nil))), .inr rfl⟩, ⟨by omega, _, rfl, .cells (RenVs.closed nl3_below), .inr rfl⟩, ⟨by omega, _, rfl, .cells (RenVs.closed (farmC_below f)), .inr rfl⟩, trivial⟩ (fun p hp => by cases hp)
      · show RenV _ _ _ (g 1); rw [g1]; exact RenV.ptr (by omega)
      · show RenV _ _ _ (g 2); rw [g2]; exact RenV.ptr (by omega)
      · show RenV _ _ _ (g 3); rw [g3]; exact RenV.ptr (by omega)
    cases i with
    | zero =>
      refine SW.seq ?_
      refine SW.seqRun tok hO (by cbv <;> rfl) (by trivial) ?_
      refine SW.condS (by cbv <;> rfl) (fun h => SW.skip ?_) (fun h => ?_)
      · have hlt : 0 < f.nb := by subst hO; simpa [std] using h
        have h0 : (0 : Int) ≤ Int.ofNat 0 := Int.natCast_nonneg 0
        refine SW.seq (SW.block ?_)
        refine SW.seqRun tok hO (by cbv <;> rfl) ?_ ?_
        · exact ⟨h0, Int.ofNat_lt.2 hlt⟩
        refine SW.runN tok hO 10 (by cbv <;> rfl) (by trivial) ?_
        refine OpsW.appNil tok (by cbv <;> rfl) (by rfl) (by kernel_rfl) (by rfl) (by rfl) ?_
        refine OpsW.run tok hO (by cbv <;> rfl) (by trivial) ?_
        refine SW.run tok hO (by cbv <;> rfl) (by trivial) ?_
        refine ⟨1, by omega, by omega, ren1 4 7, ?_⟩
        refine WeakR.up rfl rfl (by simp) (Nat.le_refl _) (.inr (by omega)) (by show 4 ≤ 5; omega) ⟨RenV.ptr (by omega), RenV.ptr (by omega), RenV.ptr (by omega), RenV.inc hO (by omega), trivial⟩
          ⟨⟨by omega, _, rfl, .cells (.cons (RenV.closed (springsV_below f)) (.cons (RenV.sl (by omega)) (.cons (RenV.closed Below.lit) .nil))), .inr rfl⟩, ⟨by omega, _, rfl, .cells (RenVs.closed nl3_below), .inr rfl⟩, ⟨by omega, _, rfl, .cells (RenVs.closed (farmC_below f)), .inr rfl⟩, trivial⟩ (fun p hp => ?_)
        obtain rfl := objG_mem hp
        exact ⟨by omega, _, rfl, .cells (RenVs.of_eq (by subst hO; rfl) (flatG_below (fun i k => (bedC_one f i k).1) 1)), .inl rfl⟩
      · have hz : f.nb = 0 := by
          have : f.nb ≤ 0 := by subst hO; simpa [std] using h
          omega
        refine SW.exit ⟨rfl, _, nl3, rfl, rfl, rfl, rfl, ?_, .inl rfl, rfl⟩
        show Eqv nl3 (.isl f.nb 3 false (bedC f))
        rw [hz]; exact Eqv.nil
    | succ i =>
      obtain ⟨G, hG⟩ : ∃ G, G = flatG 3 (bedC f) (i + 1) := ⟨_, rfl⟩
      have hGo : objG 4 3 (bedC f) (i + 1) = [(4, .cells none false G)] := by rw [hG]; rfl
      show SW _ _ _ _ _ (farmS f (springsV f) (.sl 4 0 (i + 1) 3 false) nl3 (objG 4 3 (bedC f) (i + 1)) 5)
      rw [hGo]
      refine SW.seq ?_
      refine SW.seqRun tok hO (by cbv <;> rfl) (by trivial) ?_
      refine SW.condS (by cbv <;> rfl) (fun h => SW.skip ?_) (fun h => ?_)
      · have hlt : i + 1 < f.nb := by
          have : ((i + 1 : Nat) : Int) < (f.nb : Int) := by subst hO; simpa [std] using h
          omega
        have h0 : (0 : Int) ≤ Int.ofNat (i + 1) := Int.natCast_nonneg (i + 1)
        refine SW.seq (SW.block ?_)
        refine SW.seqRun tok hO (by cbv <;> rfl) ?_ ?_
        · exact ⟨h0, Int.ofNat_lt.2 hlt⟩
        refine SW.runN tok hO 10 (by cbv <;> rfl) (by trivial) ?_
        refine OpsW.appOne (g := bedC f) tok (by cbv <;> rfl) (by rfl) (by rfl) hG (by kernel_rfl) (by rfl) (by rfl) (by omega) fun G' hG' => ?_
        refine OpsW.run tok hO (by cbv <;> rfl) (by trivial) ?_
        refine SW.run tok hO (by cbv <;> rfl) (by trivial) ?_
        refine ⟨i + 1 + 1, by omega, by omega, ren1 4 7, ?_⟩
        refine WeakR.up rfl rfl (by simp) (Nat.le_refl _) (.inr (by omega)) (by show 4 ≤ 5; omega) ⟨RenV.ptr (by omega), RenV.ptr (by omega), RenV.ptr (by omega), RenV.inc hO (by omega), trivial⟩
          ⟨⟨by omega, _, rfl, .cells (.cons (RenV.closed (springsV_below f)) (.cons (RenV.sl (by omega)) (.cons (RenV.closed Below.lit) .nil))), .inr rfl⟩, ⟨by omega, _, rfl, .cells (RenVs.closed nl3_below), .inr rfl⟩, ⟨by omega, _, rfl, .cells (RenVs.closed (farmC_below f)), .inr rfl⟩, trivial⟩ (fun p hp => ?_)
        obtain rfl := objG_mem hp
        exact ⟨by omega, _, rfl, .cells (RenVs.of_eq (hG'.trans (by subst hO; rfl)) (flatG_below (fun i k => (bedC_one f i k).1) (i + 1 + 1))), .inl rfl⟩
      · have hz : f.nb = i + 1 := by
          have : (f.nb : Int) ≤ ((i + 1 : Nat) : Int) := by subst hO; simpa [std] using h
          omega
        refine SW.freezeZ (fun j => Nat.beq j 4) 3 (by rfl) (SW.exit ⟨rfl, _, _, rfl, rfl, rfl, rfl, ?_, ?_, rfl⟩)
        rotate_left
        · exact .inr ⟨_, _, _, frz_slEx (fm := none) rfl (by rw [← hG]; rfl)⟩
        show Eqv (frz _ _ 3 (.sl 4 0 (i + 1) 3 false)) (.isl f.nb 3 false (bedC f))
        rw [hz]
        exact frz_slG (fm := none) rfl (by rw [← hG]; rfl) fun i k => by unfold bedC; split <;> rfl
  rintro e fm st ⟨rfl, g, A, rfl, g1, g2, g3, hA, _, rfl⟩
  refine SW.seq (SW.mono (Q := midFx (fun X => farmS f (springsV f) (bedsV f) X [] 6) (looksV f)) ?_ ?_)
  · refine SW.seqRun tok hO (by cbv <;> rfl) (by trivial) ?_
    refine (SW.block (SW.loopR (fun i : Nat => ⟨⟨85, getT [(1, .ptr 0 0), (2, .ptr 1 0), (3, .ptr 2 0), (7, iV i)]⟩, []⟩) (fun i => farmS f (springsV f) (bedsV f) (slG 5 4 i) (objG 5 4 (lookC f) i) 6) (fun i => f.nl - i) (fun i => i ≤ f.nl) 0 (Nat.zero_le _) (ren1 5 5) ?_ fun i hi => ?_))
    · refine WeakR.up rfl rfl (by simp) (Nat.le_refl _) (.inl rfl) (by show 5 ≤ 6; omega) ⟨?_, ?_, ?_, RenV.closed Below.lit, trivial⟩ ⟨⟨by omega, _, rfl, .cells (.cons (RenV.closed (springsV_below f)) (.cons (RenV.eqv (RenV.closed (bedsV_below f)) hA) (.cons (RenV.closed Below.lit) .nil))), .inr rfl⟩, ⟨by omega, _, rfl, .cells (RenVs.closed nl3_below), .inr rfl⟩, ⟨by omega, _, rfl, .cells (RenVs.closed (farmC_below f)), .inr rfl⟩, trivial⟩ (fun p hp => by cases hp)
      · show RenV _ _ _ (g 1); rw [g1]; exact RenV.ptr (by omega)
      · show RenV _ _ _ (g 2); rw [g2]; exact RenV.ptr (by omega)
      · show RenV _ _ _ (g 3); rw [g3]; exact RenV.ptr (by omega)
    cases i with
    | zero =>
      refine SW.seq ?_
      refine SW.seqRun tok hO (by cbv <;> rfl) (by trivial) ?_
      refine SW.condS (by cbv <;> rfl) (fun h => SW.skip ?_) (fun h => ?_)
      · have hlt : 0 < f.nl := by subst hO; simpa [std] using h
        have h0 : (0 : Int) ≤ Int.ofNat 0 := Int.natCast_nonneg 0
        refine SW.seq (SW.block ?_)
        have call := to_ok (f.llo 0) (f.lhi 0)
        rw [← hnat 0] at call
        refine SW.seqRun tok hO (by cbv <;> rfl) ?_ ?_
        · exact ⟨h0, Int.ofNat_lt.2 hlt⟩
        refine SW.runD tok mixed hO (by rfl) (by cbv <;> rfl) (by trivial) ?_
        refine AnyE.callP call (by cbv <;> rfl) (by cbv <;> rfl) ?_
        refine AnyE.run tok hO (by rfl) (by cbv <;> rfl) (by trivial) ?_
        refine AnyE.effK tok hO (by cbv <;> rfl) (by cbv <;> rfl) (by trivial) ?_ ?_
        · exact ⟨by cbv <;> rfl, by cbv <;> rfl, trivial⟩
        refine AnyE.appNil tok (by cbv <;> rfl) (by cbv <;> rfl) (by rfl) (by kernel_rfl) (by rfl) (by rfl) ?_
        refine AnyE.run tok hO (by rfl) (by cbv <;> rfl) (by trivial) ?_
        refine AnyE.eff tok hO (by cbv <;> rfl) (by cbv <;> rfl) (by trivial) ?_
        refine AnyE.done (by rfl) ?_
        refine SW.run tok hO (by cbv <;> rfl) (by trivial) ?_
        refine ⟨1, by omega, by omega, ren1 5 8, ?_⟩
        refine WeakR.up rfl rfl (by simp) (Nat.le_refl _) (.inr (by omega)) (by show 5 ≤ 6; omega) ⟨RenV.ptr (by omega), RenV.ptr (by omega), RenV.ptr (by omega), RenV.inc hO (by omega), trivial⟩
          ⟨⟨by omega, _, rfl, .cells (.cons (RenV.closed (springsV_below f)) (.cons (RenV.closed (bedsV_below f)) (.cons (RenV.sl (by omega)) .nil))), .inr rfl⟩, ⟨by omega, _, rfl, .cells (RenVs.closed nl3_below), .inr rfl⟩, ⟨by omega, _, rfl, .cells (RenVs.closed (farmC_below f)), .inr rfl⟩, trivial⟩ (fun p hp => ?_)
        obtain rfl := objG_mem hp
        exact ⟨by omega, _, rfl, .cells (RenVs.of_eq (by subst hO; rfl) (flatG_below (fun i k => (lookC_one f i k).1) 1)), .inl rfl⟩
      · have hz : f.nl = 0 := by
          have : f.nl ≤ 0 := by subst hO; simpa [std] using h
          omega
        refine SW.exit ⟨rfl, _, nl3, rfl, rfl, rfl, rfl, ?_, .inl rfl, rfl⟩
        show Eqv nl3 (.isl f.nl 4 false (lookC f))
        rw [hz]; exact Eqv.nil
    | succ i =>
      obtain ⟨G, hG⟩ : ∃ G, G = flatG 4 (lookC f) (i + 1) := ⟨_, rfl⟩
      have hGo : objG 5 4 (lookC f) (i + 1) = [(5, .cells none false G)] := by rw [hG]; rfl
      show SW _ _ _ _ _ (farmS f (springsV f) (bedsV f) (.sl 5 0 (i + 1) 4 false) (objG 5 4 (lookC f) (i + 1)) 6)
      rw [hGo]
      refine SW.seq ?_
      refine SW.seqRun tok hO (by cbv <;> rfl) (by trivial) ?_
      refine SW.condS (by cbv <;> rfl) (fun h => SW.skip ?_) (fun h => ?_)
      · have hlt : i + 1 < f.nl := by
          have : ((i + 1 : Nat) : Int) < (f.nl : Int) := by subst hO; simpa [std] using h
          omega
        have h0 : (0 : Int) ≤ Int.ofNat (i + 1) := Int.natCast_nonneg (i + 1)
        refine SW.seq (SW.block ?_)
        have call := to_ok (f.llo (i + 1)) (f.lhi (i + 1))
        rw [← hnat (i + 1)] at call
        refine SW.seqRun tok hO (by cbv <;> rfl) ?_ ?_
        · exact ⟨h0, Int.ofNat_lt.2 hlt⟩
        refine SW.runD tok mixed hO (by rfl) (by cbv <;> rfl) (by trivial) ?_
        refine AnyE.callP call (by cbv <;> rfl) (by cbv <;> rfl) ?_
        refine AnyE.run tok hO (by rfl) (by cbv <;> rfl) (by trivial) ?_
        refine AnyE.effK tok hO (by cbv <;> rfl) (by cbv <;> rfl) (by trivial) ?_ ?_
        · exact ⟨by cbv <;> rfl, by cbv <;> rfl, trivial⟩
        refine AnyE.appOne (g := lookC f) tok (by cbv <;> rfl) (by cbv <;> rfl) (by rfl) (by rfl) hG (by kernel_rfl) (by rfl) (by rfl) (by omega) fun G' hG' => ?_
        refine AnyE.run tok hO (by rfl) (by cbv <;> rfl) (by trivial) ?_
        refine AnyE.eff tok hO (by cbv <;> rfl) (by cbv <;> rfl) (by trivial) ?_
        refine AnyE.done (by rfl) ?_
        refine SW.run tok hO (by cbv <;> rfl) (by trivial) ?_
        refine ⟨i + 1 + 1, by omega, by omega, ren1 5 8, ?_⟩
        refine WeakR.up rfl rfl (by simp) (Nat.le_refl _) (.inr (by omega)) (by show 5 ≤ 6; omega) ⟨RenV.ptr (by omega), RenV.ptr (by omega), RenV.ptr (by omega), RenV.inc hO (by omega), trivial⟩
          ⟨⟨by omega, _, rfl, .cells (.cons (RenV.closed (springsV_below f)) (.cons (RenV.closed (bedsV_below f)) (.cons (RenV.sl (by omega)) .nil))), .inr rfl⟩, ⟨by omega, _, rfl, .cells (RenVs.closed nl3_below), .inr rfl⟩, ⟨by omega, _, rfl, .cells (RenVs.closed (farmC_below f)), .inr rfl⟩, trivial⟩ (fun p hp => ?_)
        obtain rfl := objG_mem hp
        exact ⟨by omega, _, rfl, .cells (RenVs.of_eq (hG'.trans (by subst hO; rfl)) (flatG_below (fun i k => (lookC_one f i k).1) (i + 1 + 1))), .inl rfl⟩
      · have hz : f.nl = i + 1 := by
          have : (f.nl : Int) ≤ ((i + 1 : Nat) : Int) := by subst hO; simpa [std] using h
          omega
        refine SW.freezeZ (fun j => Nat.beq j 5) 3 (by rfl) (SW.exit ⟨rfl, _, _, rfl, rfl, rfl, rfl, ?_, ?_, rfl⟩)
        rotate_left
        · exact .inr ⟨_, _, _, frz_slEx (fm := none) rfl (by rw [← hG]; rfl)⟩
        show Eqv (frz _ _ 3 (.sl 5 0 (i + 1) 4 false)) (.isl f.nl 4 false (lookC f))
        rw [hz]
        exact frz_slG (fm := none) rfl (by rw [← hG]; rfl) fun i k => by unfold lookC; split <;> rfl
  rintro e fm st ⟨rfl, g, A, rfl, g1, g2, g3, hA, hform, rfl⟩
  rw [← updT_self g1, ← updT_self g2, ← updT_self g3]
  rcases hform with rfl | ⟨len, sz, h, rfl⟩
  · refine SW.seqRun tok hO (by cbv <;> rfl) (by trivial) ?_
    exact SW.ret ⟨_, _, rfl, rfl, Eqv.agg (.cons (Eqv.refl _) (.cons (Eqv.refl _) (.cons hA .nil)))⟩
  · refine SW.seqRun tok hO (by cbv <;> rfl) (by trivial) ?_
    exact SW.ret ⟨_, _, rfl, rfl, Eqv.agg (.cons (Eqv.refl _) (.cons (Eqv.refl _) (.cons hA .nil)))⟩
end Go.Fz
namespace Go.Fz
open Go.Proofs
set_option maxRecDepth 100000
def flowC (W : Wat) (i k : Nat) : AV := iV (W i k)
theorem frz_flatI {h : Hp} {D : Nat → Bool} {id sz n : Nat} {fm : Option Nat} {ex : Bool} {z : Nat → Nat → Int} (hd : D id = true) (hg : h.get id = some (.cells fm false (flatG sz (fun i k => iV (z i k)) n))) :
    Eqv (frz h D 3 (.sl id 0 n sz ex)) (.isl n sz ex fun i k => iV (z i k)) := by
  have e : frz h D 3 (.sl id 0 n sz ex) = .isl n sz ex (fun i k => frz h D 2 ((flatG sz (fun i k => iV (z i k)) n).getD (0 + i * sz + k) .any)) := by
    show (if D id = true then (match h.get id with | some (.cells _ false cs) => if 0 + n * sz ≤ cs.length then AV.isl n sz ex (fun i k => frz h D 2 (cs.getD (0 + i * sz + k) .any)) else .any | _ => .any) else _) = _
    rw [if_pos hd, hg]
    exact if_pos (by rw [flatG_length]; omega)
  rw [e]
  refine Eqv.isl rfl fun i k hi hk => ?_
  have : (flatG sz (fun i k => iV (z i k)) n).getD (0 + i * sz + k) .any = iV (z i k) := by
    rw [List.getD_eq_getElem?_getD, show 0 + i * sz + k = i * sz + k by omega, flatG_get sz _ n i k hi hk]; rfl
  rw [this]; exact Eqv.refl _
theorem Eqv.isl_ex {n sz : Nat} {ex : Bool} {g : Nat → Nat → AV} : Eqv (.isl n sz ex g) (.isl n sz false g) := fun φ _ hv => by
  cases hv with
  | isl _ _ _ _ b o cap c us hz hc hus hcap hex => exact .isl n sz false g b o cap c us hz hc hus hcap (fun h => by cases h)
  | isl0 => exact .isl0 _ _ _
set_option maxHeartbeats 4000000 in
theorem clone69_ok (n : Nat) (ex : Bool) (W : Wat) (hn : n < 1000) : Pure Try.prog 69 [.isl n 3 ex (flowC W)] (.isl n 3 false (flowC W)) := by
  obtain ⟨O, hO⟩ : ∃ O : Ar, O = std := ⟨_, rfl⟩
  have hb : ∀ {m : Nat} {e : Bool}, Below 0 (.isl m 3 e (flowC W)) := Below.isl fun _ _ _ _ => Below.lit
  refine pure_of_body tok 3 Try.func69 en69 rfl ⟨hb, trivial⟩ hb ?_
  refine SW.seqRun tok hO (by cbv <;> rfl) (by trivial) ?_
  refine SW.seq ?_
  refine SW.seq (SW.runN tok hO 1 (by cbv <;> rfl) (by trivial) ?_)
  refine OpsW.nilIsl tok (by cbv <;> rfl) (fun hz => ?_) ?_
  · refine OpsW.nil ?_
    refine SW.cond (t := true) (by cbv <;> rfl) ?_
    refine SW.seqRun tok hO (by cbv <;> rfl) (by trivial) ?_
    refine SW.ret ⟨_, _, rfl, rfl, ?_⟩
    subst hz
    exact Eqv.nil
  · refine OpsW.nil ?_
    refine SW.cond (t := false) (by cbv <;> rfl) (SW.skip ?_)
    refine SW.seq (SW.runN tok hO 2 (by cbv <;> rfl) (by trivial) ?_)
    rcases Nat.eq_zero_or_pos n with hz | hz
    · subst hz
      refine OpsW.appA tok (by cbv <;> rfl) (by exact append_none (by kernel_rfl) (by rfl)) ?_
      refine OpsW.run tok hO (by cbv <;> rfl) (by trivial) ?_
      refine SW.ret ⟨_, _, rfl, rfl, ?_⟩
      exact fun φ u hv => Eqv.isl_ex φ u (frz_flatI (z := W) (n := 0) (fm := none) rfl rfl φ u hv)
    · refine OpsW.appA tok (by cbv <;> rfl) (by exact append_empty (by kernel_rfl) (by rfl) (by omega) hz fun _ _ => rfl) ?_
      generalize hG : flatG 3 (flowC W) n = G
      refine OpsW.run tok hO (by cbv <;> rfl) (by trivial) ?_
      refine SW.ret ⟨_, _, rfl, rfl, ?_⟩
      subst hG
      exact frz_flatI (z := W) (fm := none) rfl rfl
theorem slice_arr {i j : TI} {h : Hp} {t e id off n : Nat} {fm : Option Nat} {cs : List AV} {k : IntKind} {u : Nat} (ht : T t = some i) (hd : i.desc = .array n e) (he : T e = some j) (hx : h.get id = some (.cells fm false cs)) (hu : u ≤ n) (hl : off + n * j.size ≤ cs.length) :
    sliceA T h t (.ptr id off) none (some (.lit (.int k (u : Int)))) none = some (.sl id (off + 0 * j.size) (u - 0) j.size (u == n)) := by
  unfold sliceA
  simp only [ht, hd, he, hx, natOr, natOf]
  rw [if_pos (Int.natCast_nonneg u)]
  simp only [Int.toNat_natCast]
  rw [if_pos ⟨Nat.zero_le _, hu, by simp, hl⟩]
def cutAt (ops : Array Oper) (i : Nat) (f : Fm) : Option (TypeId × AV × AV) := match ops[i]? with
  | none => none
  | some o => match wantA ops f.ts o with
    | some true => match o.op with
      | .slice t x none (some hi) none => some (t, Operand.av f.ts x, Operand.av f.ts hi)
      | _ => none
    | _ => none
def arrB (T : Ti) (t n sz : Nat) : Bool := match T t with
  | some i => match i.desc with
    | .array m e => match T e with
      | some j => Nat.beq m n && Nat.beq j.size sz
      | none => false
    | _ => false
  | none => false
theorem OpsW.cutArr {P : Program} (hT : TOk P T) {rd : Option Nat} {ops : Array Oper} {l : List Nat} {K : Fm → St → Prop} {f : Fm} {st : St} {j t id off n sz u : Nat} {fm : Option Nat} {cs : List AV} {k : IntKind}
    (hc : cutAt ops j f = some (t, .ptr id off, .lit (.int k (Int.ofNat u)))) (hb : arrB T t n sz = true) (hx : st.h.get id = some (.cells fm false cs)) (hu : u ≤ n) (hl : off + n * sz ≤ cs.length)
    (h : OpsW P rd ops l K (putAt ops j f (.sl id off u sz (u == n))) st) : OpsW P rd ops (j :: l) K f st := by
  unfold cutAt at hc
  split at hc
  · cases hc
  · rename_i o ho
    split at hc
    · rename_i hw
      split at hc
      · rename_i t' x hi hop
        simp only [Option.some.injEq, Prod.mk.injEq] at hc
        obtain ⟨rfl, h2, h3⟩ := hc
        unfold arrB at hb
        split at hb
        · rename_i i hi1
          split at hb
          · rename_i m e hd
            split at hb
            · rename_i jj hj
              simp only [Bool.and_eq_true] at hb
              obtain rfl := Nat.eq_of_beq_eq_true hb.1
              obtain rfl := Nat.eq_of_beq_eq_true hb.2
              have hput : ∀ v, putAt ops j f v = f.put o.dst v := fun v => by simp [putAt, ho]
              rw [hput] at h
              refine OpsW.light hT ho hw (r := .sl id off u jj.size (u == m)) ?_ h
              have hs := slice_arr (k := k) hi1 hd hj hx hu hl
              rw [Nat.zero_mul, Nat.add_zero, Nat.sub_zero] at hs
              simp only [evG, hop, h2, h3, Option.map_none, Option.map_some]
              exact hs
            · cases hb
          · cases hb
        · cases hb
      · cases hc
    · cases hc
theorem cells24_get (W : Wat) (i k : Nat) (hi : i < 8) (hk : k < 3) : (cells24 W).getD (0 + i * 3 + k) .any = flowC W i k := by
  have h1 : i = 0 ∨ i = 1 ∨ i = 2 ∨ i = 3 ∨ i = 4 ∨ i = 5 ∨ i = 6 ∨ i = 7 := by omega
  have h2 : k = 0 ∨ k = 1 ∨ k = 2 := by omega
  rcases h1 with h | h | h | h | h | h | h | h <;> subst h <;> rcases h2 with h | h | h <;> subst h <;> rfl
theorem frz_24 {h : Hp} {D : Nat → Bool} {id n : Nat} {fm : Option Nat} {ex : Bool} {W : Wat} (hn : n ≤ 8) (hd : D id = true) (hg : h.get id = some (.cells fm false (cells24 W))) :
    Eqv (frz h D 3 (.sl id 0 n 3 ex)) (.isl n 3 ex (flowC W)) := by
  have e : frz h D 3 (.sl id 0 n 3 ex) = .isl n 3 ex (fun i k => frz h D 2 ((cells24 W).getD (0 + i * 3 + k) .any)) := by
    show (if D id = true then (match h.get id with | some (.cells _ false cs) => if 0 + n * 3 ≤ cs.length then AV.isl n 3 ex (fun i k => frz h D 2 (cs.getD (0 + i * 3 + k) .any)) else .any | _ => .any) else _) = _
    rw [if_pos hd, hg]
    exact if_pos (by show 0 + n * 3 ≤ 24; omega)
  rw [e]
  refine Eqv.isl rfl fun i k hi hk => ?_
  rw [cells24_get W i k (by omega) hk]; exact Eqv.refl _
def FarmD.playE (f : FarmD) (n : Nat) (fl : Nat → Int) : Int := if f.check = 0 then (if f.fits n fl then 0 else 2) else f.check
def FarmD.playL (f : FarmD) (n : Nat) (fl : Nat → Int) : AV := if f.check = 0 ∧ f.fits n fl = true then .isl f.nb 3 false (flowC (f.water fl)) else nl3
theorem FarmD.playL_below (f : FarmD) (n : Nat) (fl : Nat → Int) : Below 0 (f.playL n fl) := by
  unfold FarmD.playL
  split
  · exact Below.isl fun _ _ _ _ => Below.lit
  · exact Below.lit
set_option maxHeartbeats 4000000 in
theorem play20_ok (f : FarmD) (hs : f.small) (n : Nat) (ex : Bool) (fl : Nat → Int) (hn : n < 1000) : Pure Try.prog 20 [farmV f, intsV n ex fl] (.tup [f.playL n fl, iV (f.playE n fl)]) := by
  obtain ⟨O, hO⟩ : ∃ O : Ar, O = std := ⟨_, rfl⟩
  refine pure_of_body tok 3 Try.func20 en20 rfl ⟨farmV_below f, intsV_below n ex fl, trivial⟩ (Below.tup (AllB.ok ⟨f.playL_below n fl, Below.lit, trivial⟩)) ?_
  refine SW.seqRun tok hO (by cbv <;> rfl) (by trivial) ?_
  refine SW.seq ?_
  refine SW.seqRun tok hO (by cbv <;> rfl) (by trivial) ?_
  refine OpsW.callI (checkFarm_ok f hs) (by cbv <;> rfl) fun c hc => ?_
  refine OpsW.run tok hO (by cbv <;> rfl) (by trivial) ?_
  refine SW.seqRun tok hO (by cbv <;> rfl) (by trivial) ?_
  refine SW.condS (by cbv <;> rfl) (fun h => ?_) (fun h => SW.skip ?_)
  · have hcn : ¬ f.check = 0 := by subst hO; rw [← hc]; simpa [std] using h
    refine SW.seqRun tok hO (by cbv <;> rfl) (by trivial) ?_
    refine SW.ret ⟨_, _, rfl, rfl, ?_⟩
    unfold FarmD.playL FarmD.playE
    rw [if_neg (fun h => hcn h.1), if_neg hcn, ← hc]
    exact Eqv.refl _
  have hc0 : f.check = 0 := by subst hO; rw [← hc]; simpa [std] using h
  have hg := good_of_check hc0
  refine SW.seq ?_
  refine SW.seqRun tok hO (by cbv <;> rfl) (by trivial) ?_
  have call := fits_ok f n ex fl hn
  generalize hF : f.fits n fl = F at call
  refine OpsW.callP call (by cbv <;> rfl) ?_
  have hnot : O.not F = !F := by subst hO; rfl
  refine OpsW.run tok hO (by cbv <;> rfl) (by trivial) ?_
  refine SW.condS (by cbv <;> rfl) (fun h2 => ?_) (fun h2 => SW.skip ?_)
  · have hf : F = false := by have := hnot.symm.trans h2; simpa using this
    refine SW.seqRun tok hO (by cbv <;> rfl) (by trivial) ?_
    refine SW.ret ⟨_, _, rfl, rfl, ?_⟩
    unfold FarmD.playL FarmD.playE
    rw [if_neg (fun h => by rw [hF, hf] at h; exact absurd h.2 (by decide)), if_pos hc0, if_neg (by rw [hF, hf]; decide)]
    exact Eqv.refl _
  have hf : F = true := by have := hnot.symm.trans h2; simpa using this
  have hns : n = f.ns := by
    rw [hf] at hF
    simp only [FarmD.fits, Bool.and_eq_true, decide_eq_true_eq] at hF; exact hF.1
  refine SW.seqRun tok hO (by cbv <;> rfl) (by trivial) ?_
  refine OpsW.callP ((start_ok f hg.nb).res (r' := workV f (truthsV 0 true fun _ _ => .any) (f.k0 f.nb)) ?_) (by cbv <;> rfl) ?_
  · exact Eqv.agg (.cons (Eqv.refl _) (.cons (Eqv.refl _) (.cons (Eqv.refl _) (.cons Eqv.nil (.cons (Eqv.refl _) (.cons (Eqv.refl _) (.cons (Eqv.refl _) (.cons (Eqv.refl _) (.cons (Eqv.refl _) (.cons (Eqv.refl _) (.cons (Eqv.refl _) (.cons (Eqv.refl _) .nil))))))))))))
  generalize hK : f.k0 f.nb = K
  refine OpsW.run tok hO (by cbv <;> rfl) (by trivial) ?_
  refine OpsW.callP (play_ok f 0 true (fun _ _ => .any) K n ex fl (Below.isl fun _ _ h => absurd h (Nat.not_lt_zero _)) hg.nb (by omega) hn (fun s hs => ⟨(hg.spring s hs).1.1, by have := (hg.spring s hs).1.2; have := hg.nb; omega⟩) (fun i hi => by have := (hg.bed i hi).2.2; have := hg.nb; omega)) (by cbv <;> rfl) ?_
  generalize hW : playF f K fl = W
  refine OpsW.run tok hO (by cbv <;> rfl) (by trivial) ?_
  refine SW.seq (SW.runN tok hO 3 (by cbv <;> rfl) (by trivial) ?_)
  refine OpsW.cutArr tok (n := 8) (sz := 3) (u := f.nb) (by cbv <;> rfl) (by kernel_rfl) (by rfl) hg.nb (by show 0 + 8 * 3 ≤ 24; omega) ?_
  refine OpsW.freeze (fun _ => true) 3 (by rfl) ?_
  have hcl : ∀ h : Hp, h.get 1 = some (.cells none false (cells24 W)) → Pure Try.prog 69 [frz h (fun _ => true) 3 (.sl 1 0 f.nb 3 (f.nb == 8))] (.isl f.nb 3 false (flowC W)) := fun h hh =>
    Pure.eqv (clone69_ok f.nb (f.nb == 8) W (by have := hg.nb; omega)) (.cons (frz_24 (fm := none) hg.nb rfl hh) .nil)
  refine OpsW.callP (hcl [(1, .cells none false (cells24 W)), (0, .cells none false [springsV f, bedsV f, looksV f])] rfl) (by rfl) ?_
  refine OpsW.run tok hO (by cbv <;> rfl) (by trivial) ?_
  refine SW.ret ⟨_, _, rfl, rfl, ?_⟩
  unfold FarmD.playL FarmD.playE
  rw [if_pos ⟨hc0, by rw [hF, hf]⟩, if_pos hc0, if_pos (by rw [hF, hf])]
  rw [show f.water fl = W from by rw [← hW, ← hK]; rfl]
  exact Eqv.refl _
end Go.Fz
namespace Go.Fz
open Go.Proofs
set_option maxRecDepth 100000
end Go.Fz
namespace Go.Fz
open Go.Proofs
set_option maxRecDepth 100000
end Go.Fz
namespace Go.Fz
section
variable (f : FarmD) (g : f.Good) (k : Nat) (hk : k < f.nb) (v : Int) (hv0 : 0 ≤ v) (hv1 : v ≤ f.notch k)
include g hv0 hv1 hk
end
end Go.Fz
namespace Go.Fz
end Go.Fz
