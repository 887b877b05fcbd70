/-
  The statements' own functions of layer 1: Farm, which copies a farm. Own work of the verifier of watercress.
-/
import Derived.Test.YtgfahkehkpjabaaFze
namespace Go.Fz
open Go.Proofs
set_option maxRecDepth 100000

theorem springC_one (f : FarmD) (i k : Nat) : Below 0 (springC f i k) ∧ (springC f i k).one = true := by
  unfold springC; split <;> exact ⟨Below.lit, rfl⟩
theorem bedC_one (f : FarmD) (i k : Nat) : Below 0 (bedC f i k) ∧ (bedC f i k).one = true := by
  unfold bedC; split <;> exact ⟨Below.lit, rfl⟩
theorem lookC_one (f : FarmD) (i k : Nat) : Below 0 (lookC f i k) ∧ (lookC f i k).one = true := by
  unfold lookC; split <;> first | exact ⟨Below.lit, rfl⟩ | exact ⟨Below.sb, rfl⟩
theorem flatG_below {sz : Nat} {g : Nat → Nat → AV} (h : ∀ i k, Below 0 (g i k)) : ∀ n, ∀ a ∈ flatG sz g n, Below 0 a
  | 0, a, ha => by cases ha
  | n + 1, a, ha => by
    simp only [flatG, List.mem_append] at ha
    rcases ha with ha | ha
    · exact flatG_below h n a ha
    · obtain ⟨i, hi⟩ := List.mem_iff_getElem?.1 ha
      rw [cellsFrom_get] at hi
      split at hi
      · cases hi; exact h n _
      · cases hi

/-- A slice that grew from nothing: its value, and its object, if there is one. -/
def slG (id sz : Nat) : Nat → AV
  | 0 => .lit (.slice none 0 0)
  | n + 1 => .sl id 0 (n + 1) sz false
def objG (id sz : Nat) (g : Nat → Nat → AV) : Nat → Hp
  | 0 => []
  | n + 1 => [(id, .cells none false (flatG sz g (n + 1)))]
theorem objG_mem {id sz : Nat} {g : Nat → Nat → AV} : ∀ {n : Nat} {p : Nat × AObj}, p ∈ objG id sz g n → p = (id, .cells none false (flatG sz g n))
  | 0, p, h => by cases h
  | n + 1, p, h => by simpa [objG] using h

theorem frz_slE {h : Hp} {D : Nat → Bool} {id sz n : Nat} {fm : Option Nat} {g : Nat → Nat → AV} (hd : D id = true) (hg : h.get id = some (.cells fm false (flatG sz g (n + 1)))) :
    frz h D 3 (.sl id 0 (n + 1) sz false) = .isl (n + 1) sz false (fun i k => frz h D 2 ((flatG sz g (n + 1)).getD (0 + i * sz + k) .any)) := by
  show (if D id = true then (match h.get id with | some (.cells _ false cs) => if 0 + (n + 1) * sz ≤ cs.length then AV.isl (n + 1) sz false (fun i k => frz h D 2 (cs.getD (0 + i * sz + k) .any)) else .any | _ => .any) else _) = _
  rw [if_pos hd, hg]
  exact if_pos (by rw [flatG_length]; omega)
theorem frz_slG {h : Hp} {D : Nat → Bool} {id sz n : Nat} {fm : Option Nat} {g : Nat → Nat → AV} (hd : D id = true) (hg : h.get id = some (.cells fm false (flatG sz g (n + 1)))) (hz : ∀ i k, frz h D 2 (g i k) = g i k) :
    Eqv (frz h D 3 (.sl id 0 (n + 1) sz false)) (.isl (n + 1) sz false g) := by
  rw [frz_slE hd hg]
  refine Eqv.isl rfl fun i k hi hk => ?_
  have : (flatG sz g (n + 1)).getD (0 + i * sz + k) .any = g i k := by
    rw [List.getD_eq_getElem?_getD, show 0 + i * sz + k = i * sz + k by omega, flatG_get sz g (n + 1) i k hi hk]; rfl
  rw [this, hz]; exact Eqv.refl _

abbrev nl3 : AV := .lit (.slice none 0 0)
def farmS (f : FarmD) (A B C : AV) (H : Hp) (n : Nat) : St := ⟨[(2, .cells none false [A, B, C]), (1, .cells none false [nl3, nl3, nl3]), (0, .cells none false [springsV f, bedsV f, looksV f])] ++ H, n⟩
/-- Between the loops. -/
def midF (mk : AV → St) (a : AV) (e : Exit) (fm : Fm) (st : St) : Prop :=
  e = .normal ∧ ∃ g X, fm = ⟨⟨85, g⟩, []⟩ ∧ g 1 = .ptr 0 0 ∧ g 2 = .ptr 1 0 ∧ g 3 = .ptr 2 0 ∧ Eqv X a ∧ (X = nl3 ∨ ∃ len sz h, X = .isl len sz false h) ∧ st = mk X

theorem RenV.inc {O : Ar} (hO : O = std) {ρ : Nat → Nat} {n i : Nat} (h : i < 4611686018427387904) : RenV ρ n (iV ((i + 1 : Nat) : Int)) (.lit (.int .i64 (O.bin .add .i64 (Int.ofNat i) 1))) := by
  rw [inc_ok hO h]; exact RenV.closed Below.lit
theorem nl3_below : ∀ a ∈ [nl3, nl3, nl3], Below 0 a := AllB.ok ⟨Below.lit, Below.lit, Below.lit, trivial⟩
theorem farmC_below (f : FarmD) : ∀ a ∈ [springsV f, bedsV f, looksV f], Below 0 a := AllB.ok ⟨springsV_below f, bedsV_below f, looksV_below f, trivial⟩

set_option maxHeartbeats 4000000 in
theorem farm_ok (f : FarmD) (hnb : f.nb ≤ 10) (hns : f.ns ≤ 6) (hnl : f.nl ≤ 7) : Pure Try.prog 21 [farmV f] (farmV f) := by
  obtain ⟨O, hO⟩ : ∃ O : Ar, O = std := ⟨_, rfl⟩
  have hnat : ∀ i : Nat, O.nat (Int.ofNat i) = i := fun i => by subst hO; rfl
  refine pure_of_body tok 3 Try.func21 en21 rfl ⟨farmV_below f, trivial⟩ (farmV_below f) ?_
  refine SW.seqRun tok hO (by cbv <;> rfl) (by trivial) ?_
  refine SW.seqRun tok hO (by cbv <;> rfl) (by trivial) ?_
  refine SW.seq (SW.mono (Q := midF (fun X => farmS f X nl3 nl3 [] 4) (springsV f)) ?_ ?_)
  · refine SW.seqRun tok hO (by cbv <;> rfl) (by trivial) ?_
    refine (SW.block (SW.loopR (fun i : Nat => ⟨⟨85, getT [(1, .ptr 0 0), (2, .ptr 1 0), (3, .ptr 2 0), (4, iV i)]⟩, []⟩) (fun i => farmS f (slG 3 3 i) nl3 nl3 (objG 3 3 (springC f) i) 4) (fun i => f.ns - i) (fun i => i ≤ f.ns) 0 (Nat.zero_le _) (ren1 3 3) ?_ fun i hi => ?_))
    · exact WeakR.up rfl rfl (by simp) (Nat.le_refl _) (.inl rfl) (by show 3 ≤ 4; omega) ⟨RenV.ptr (by omega), RenV.ptr (by omega), RenV.ptr (by omega), RenV.closed Below.lit, trivial⟩ ⟨⟨by omega, _, rfl, .cells (RenVs.closed nl3_below), .inr rfl⟩, ⟨by omega, _, rfl, .cells (RenVs.closed nl3_below), .inr rfl⟩, ⟨by omega, _, rfl, .cells (RenVs.closed (farmC_below f)), .inr rfl⟩, trivial⟩ (fun p hp => by cases hp)
    cases i with
    | zero =>
      refine SW.seq ?_
      refine SW.seqRun tok hO (by cbv <;> rfl) (by trivial) ?_
      refine SW.condS (by cbv <;> rfl) (fun h => SW.skip ?_) (fun h => ?_)
      · have hlt : 0 < f.ns := by subst hO; simpa [std] using h
        have h0 : (0 : Int) ≤ Int.ofNat 0 := Int.natCast_nonneg 0
        refine SW.seq (SW.block ?_)
        have call := to_ok (f.slo 0) (f.shi 0)
        rw [← hnat 0] at call
        refine SW.runD tok mixed hO (by rfl) (by cbv <;> rfl) ?_ ?_
        · exact ⟨⟨h0, Int.ofNat_lt.2 hlt⟩, ⟨h0, Int.ofNat_lt.2 hlt⟩⟩
        refine AnyE.callP call (by cbv <;> rfl) (by cbv <;> rfl) ?_
        refine AnyE.run tok hO (by rfl) (by cbv <;> rfl) (by trivial) ?_
        refine AnyE.effK tok hO (by cbv <;> rfl) (by cbv <;> rfl) (by trivial) ?_ ?_
        · exact ⟨by cbv <;> rfl, by cbv <;> rfl, trivial⟩
        refine AnyE.appNil tok (by cbv <;> rfl) (by cbv <;> rfl) (by rfl) (by kernel_rfl) (by rfl) (by rfl) ?_
        refine AnyE.run tok hO (by rfl) (by cbv <;> rfl) (by trivial) ?_
        refine AnyE.eff tok hO (by cbv <;> rfl) (by cbv <;> rfl) (by trivial) ?_
        refine AnyE.done (by rfl) ?_
        refine SW.run tok hO (by cbv <;> rfl) (by trivial) ?_
        refine ⟨1, by omega, by omega, ren1 3 5, ?_⟩
        refine WeakR.up rfl rfl (by simp) (Nat.le_refl _) (.inr (by omega)) (by show 3 ≤ 4; omega) ⟨RenV.ptr (by omega), RenV.ptr (by omega), RenV.ptr (by omega), RenV.inc hO (by omega), trivial⟩
          ⟨⟨by omega, _, rfl, .cells (.cons (RenV.sl (by omega)) (.cons (RenV.closed Below.lit) (.cons (RenV.closed Below.lit) .nil))), .inr rfl⟩, ⟨by omega, _, rfl, .cells (RenVs.closed nl3_below), .inr rfl⟩, ⟨by omega, _, rfl, .cells (RenVs.closed (farmC_below f)), .inr rfl⟩, trivial⟩ (fun p hp => ?_)
        obtain rfl := objG_mem hp
        exact ⟨by omega, _, rfl, .cells (RenVs.of_eq (by subst hO; rfl) (flatG_below (fun i k => (springC_one f i k).1) 1)), .inl rfl⟩
      · have hz : f.ns = 0 := by
          have : f.ns ≤ 0 := by subst hO; simpa [std] using h
          omega
        refine SW.exit ⟨rfl, _, nl3, rfl, rfl, rfl, rfl, ?_, .inl rfl, rfl⟩
        show Eqv nl3 (.isl f.ns 3 false (springC f))
        rw [hz]; exact Eqv.nil
    | succ i =>
      obtain ⟨G, hG⟩ : ∃ G, G = flatG 3 (springC f) (i + 1) := ⟨_, rfl⟩
      have hGo : objG 3 3 (springC f) (i + 1) = [(3, .cells none false G)] := by rw [hG]; rfl
      show SW _ _ _ _ _ (farmS f (.sl 3 0 (i + 1) 3 false) nl3 nl3 (objG 3 3 (springC f) (i + 1)) 4)
      rw [hGo]
      refine SW.seq ?_
      refine SW.seqRun tok hO (by cbv <;> rfl) (by trivial) ?_
      refine SW.condS (by cbv <;> rfl) (fun h => SW.skip ?_) (fun h => ?_)
      · have hlt : i + 1 < f.ns := by
          have : ((i + 1 : Nat) : Int) < (f.ns : Int) := by subst hO; simpa [std] using h
          omega
        have h0 : (0 : Int) ≤ Int.ofNat (i + 1) := Int.natCast_nonneg (i + 1)
        refine SW.seq (SW.block ?_)
        have call := to_ok (f.slo (i + 1)) (f.shi (i + 1))
        rw [← hnat (i + 1)] at call
        refine SW.runD tok mixed hO (by rfl) (by cbv <;> rfl) ?_ ?_
        · exact ⟨⟨h0, Int.ofNat_lt.2 hlt⟩, ⟨h0, Int.ofNat_lt.2 hlt⟩⟩
        refine AnyE.callP call (by cbv <;> rfl) (by cbv <;> rfl) ?_
        refine AnyE.run tok hO (by rfl) (by cbv <;> rfl) (by trivial) ?_
        refine AnyE.effK tok hO (by cbv <;> rfl) (by cbv <;> rfl) (by trivial) ?_ ?_
        · exact ⟨by cbv <;> rfl, by cbv <;> rfl, trivial⟩
        refine AnyE.appOne (g := springC f) tok (by cbv <;> rfl) (by cbv <;> rfl) (by rfl) (by rfl) hG (by kernel_rfl) (by rfl) (by rfl) (by omega) fun G' hG' => ?_
        refine AnyE.run tok hO (by rfl) (by cbv <;> rfl) (by trivial) ?_
        refine AnyE.eff tok hO (by cbv <;> rfl) (by cbv <;> rfl) (by trivial) ?_
        refine AnyE.done (by rfl) ?_
        refine SW.run tok hO (by cbv <;> rfl) (by trivial) ?_
        refine ⟨i + 1 + 1, by omega, by omega, ren1 3 5, ?_⟩
        refine WeakR.up rfl rfl (by simp) (Nat.le_refl _) (.inr (by omega)) (by show 3 ≤ 4; omega) ⟨RenV.ptr (by omega), RenV.ptr (by omega), RenV.ptr (by omega), RenV.inc hO (by omega), trivial⟩
          ⟨⟨by omega, _, rfl, .cells (.cons (RenV.sl (by omega)) (.cons (RenV.closed Below.lit) (.cons (RenV.closed Below.lit) .nil))), .inr rfl⟩, ⟨by omega, _, rfl, .cells (RenVs.closed nl3_below), .inr rfl⟩, ⟨by omega, _, rfl, .cells (RenVs.closed (farmC_below f)), .inr rfl⟩, trivial⟩ (fun p hp => ?_)
        obtain rfl := objG_mem hp
        exact ⟨by omega, _, rfl, .cells (RenVs.of_eq (hG'.trans (by subst hO; rfl)) (flatG_below (fun i k => (springC_one f i k).1) (i + 1 + 1))), .inl rfl⟩
      · have hz : f.ns = i + 1 := by
          have : (f.ns : Int) ≤ ((i + 1 : Nat) : Int) := by subst hO; simpa [std] using h
          omega
        refine SW.freezeZ (fun j => Nat.beq j 3) 3 (by rfl) (SW.exit ⟨rfl, _, _, rfl, rfl, rfl, rfl, ?_, ?_, rfl⟩)
        rotate_left
        · exact .inr ⟨_, _, _, frz_slE (fm := none) rfl (by rw [← hG]; rfl)⟩
        show Eqv (frz _ _ 3 (.sl 3 0 (i + 1) 3 false)) (.isl f.ns 3 false (springC f))
        rw [hz]
        exact frz_slG (fm := none) rfl (by rw [← hG]; rfl) fun i k => by unfold springC; split <;> rfl
  rintro e fm st ⟨rfl, g, A, rfl, g1, g2, g3, hA, _, rfl⟩
  refine SW.seq (SW.mono (Q := midF (fun X => farmS f (springsV f) X nl3 [] 5) (bedsV f)) ?_ ?_)
  · refine SW.seqRun tok hO (by cbv <;> rfl) (by trivial) ?_
    refine (SW.block (SW.loopR (fun i : Nat => ⟨⟨85, getT [(1, .ptr 0 0), (2, .ptr 1 0), (3, .ptr 2 0), (5, iV i)]⟩, []⟩) (fun i => farmS f (springsV f) (slG 4 3 i) nl3 (objG 4 3 (bedC f) i) 5) (fun i => f.nb - i) (fun i => i ≤ f.nb) 0 (Nat.zero_le _) (ren1 4 4) ?_ fun i hi => ?_))
    · refine WeakR.up rfl rfl (by simp) (Nat.le_refl _) (.inl rfl) (by show 4 ≤ 5; omega) ⟨?_, ?_, ?_, RenV.closed Below.lit, trivial⟩ ⟨⟨by omega, _, rfl, .cells (.cons (RenV.eqv (RenV.closed (springsV_below f)) hA) (.cons (RenV.closed Below.lit) (.cons (RenV.closed Below.lit) .nil))), .inr rfl⟩, ⟨by omega, _, rfl, .cells (RenVs.closed nl3_below), .inr rfl⟩, ⟨by omega, _, rfl, .cells (RenVs.closed (farmC_below f)), .inr rfl⟩, trivial⟩ (fun p hp => by cases hp)
      · show RenV _ _ _ (g 1); rw [g1]; exact RenV.ptr (by omega)
      · show RenV _ _ _ (g 2); rw [g2]; exact RenV.ptr (by omega)
      · show RenV _ _ _ (g 3); rw [g3]; exact RenV.ptr (by omega)
    cases i with
    | zero =>
      refine SW.seq ?_
      refine SW.seqRun tok hO (by cbv <;> rfl) (by trivial) ?_
      refine SW.condS (by cbv <;> rfl) (fun h => SW.skip ?_) (fun h => ?_)
      · have hlt : 0 < f.nb := by subst hO; simpa [std] using h
        have h0 : (0 : Int) ≤ Int.ofNat 0 := Int.natCast_nonneg 0
        refine SW.seq (SW.block ?_)
        refine SW.seqRun tok hO (by cbv <;> rfl) ?_ ?_
        · exact ⟨h0, Int.ofNat_lt.2 hlt⟩
        refine SW.runN tok hO 10 (by cbv <;> rfl) (by trivial) ?_
        refine OpsW.appNil tok (by cbv <;> rfl) (by rfl) (by kernel_rfl) (by rfl) (by rfl) ?_
        refine OpsW.run tok hO (by cbv <;> rfl) (by trivial) ?_
        refine SW.run tok hO (by cbv <;> rfl) (by trivial) ?_
        refine ⟨1, by omega, by omega, ren1 4 7, ?_⟩
        refine WeakR.up rfl rfl (by simp) (Nat.le_refl _) (.inr (by omega)) (by show 4 ≤ 5; omega) ⟨RenV.ptr (by omega), RenV.ptr (by omega), RenV.ptr (by omega), RenV.inc hO (by omega), trivial⟩
          ⟨⟨by omega, _, rfl, .cells (.cons (RenV.closed (springsV_below f)) (.cons (RenV.sl (by omega)) (.cons (RenV.closed Below.lit) .nil))), .inr rfl⟩, ⟨by omega, _, rfl, .cells (RenVs.closed nl3_below), .inr rfl⟩, ⟨by omega, _, rfl, .cells (RenVs.closed (farmC_below f)), .inr rfl⟩, trivial⟩ (fun p hp => ?_)
        obtain rfl := objG_mem hp
        exact ⟨by omega, _, rfl, .cells (RenVs.of_eq (by subst hO; rfl) (flatG_below (fun i k => (bedC_one f i k).1) 1)), .inl rfl⟩
      · have hz : f.nb = 0 := by
          have : f.nb ≤ 0 := by subst hO; simpa [std] using h
          omega
        refine SW.exit ⟨rfl, _, nl3, rfl, rfl, rfl, rfl, ?_, .inl rfl, rfl⟩
        show Eqv nl3 (.isl f.nb 3 false (bedC f))
        rw [hz]; exact Eqv.nil
    | succ i =>
      obtain ⟨G, hG⟩ : ∃ G, G = flatG 3 (bedC f) (i + 1) := ⟨_, rfl⟩
      have hGo : objG 4 3 (bedC f) (i + 1) = [(4, .cells none false G)] := by rw [hG]; rfl
      show SW _ _ _ _ _ (farmS f (springsV f) (.sl 4 0 (i + 1) 3 false) nl3 (objG 4 3 (bedC f) (i + 1)) 5)
      rw [hGo]
      refine SW.seq ?_
      refine SW.seqRun tok hO (by cbv <;> rfl) (by trivial) ?_
      refine SW.condS (by cbv <;> rfl) (fun h => SW.skip ?_) (fun h => ?_)
      · have hlt : i + 1 < f.nb := by
          have : ((i + 1 : Nat) : Int) < (f.nb : Int) := by subst hO; simpa [std] using h
          omega
        have h0 : (0 : Int) ≤ Int.ofNat (i + 1) := Int.natCast_nonneg (i + 1)
        refine SW.seq (SW.block ?_)
        refine SW.seqRun tok hO (by cbv <;> rfl) ?_ ?_
        · exact ⟨h0, Int.ofNat_lt.2 hlt⟩
        refine SW.runN tok hO 10 (by cbv <;> rfl) (by trivial) ?_
        refine OpsW.appOne (g := bedC f) tok (by cbv <;> rfl) (by rfl) (by rfl) hG (by kernel_rfl) (by rfl) (by rfl) (by omega) fun G' hG' => ?_
        refine OpsW.run tok hO (by cbv <;> rfl) (by trivial) ?_
        refine SW.run tok hO (by cbv <;> rfl) (by trivial) ?_
        refine ⟨i + 1 + 1, by omega, by omega, ren1 4 7, ?_⟩
        refine WeakR.up rfl rfl (by simp) (Nat.le_refl _) (.inr (by omega)) (by show 4 ≤ 5; omega) ⟨RenV.ptr (by omega), RenV.ptr (by omega), RenV.ptr (by omega), RenV.inc hO (by omega), trivial⟩
          ⟨⟨by omega, _, rfl, .cells (.cons (RenV.closed (springsV_below f)) (.cons (RenV.sl (by omega)) (.cons (RenV.closed Below.lit) .nil))), .inr rfl⟩, ⟨by omega, _, rfl, .cells (RenVs.closed nl3_below), .inr rfl⟩, ⟨by omega, _, rfl, .cells (RenVs.closed (farmC_below f)), .inr rfl⟩, trivial⟩ (fun p hp => ?_)
        obtain rfl := objG_mem hp
        exact ⟨by omega, _, rfl, .cells (RenVs.of_eq (hG'.trans (by subst hO; rfl)) (flatG_below (fun i k => (bedC_one f i k).1) (i + 1 + 1))), .inl rfl⟩
      · have hz : f.nb = i + 1 := by
          have : (f.nb : Int) ≤ ((i + 1 : Nat) : Int) := by subst hO; simpa [std] using h
          omega
        refine SW.freezeZ (fun j => Nat.beq j 4) 3 (by rfl) (SW.exit ⟨rfl, _, _, rfl, rfl, rfl, rfl, ?_, ?_, rfl⟩)
        rotate_left
        · exact .inr ⟨_, _, _, frz_slE (fm := none) rfl (by rw [← hG]; rfl)⟩
        show Eqv (frz _ _ 3 (.sl 4 0 (i + 1) 3 false)) (.isl f.nb 3 false (bedC f))
        rw [hz]
        exact frz_slG (fm := none) rfl (by rw [← hG]; rfl) fun i k => by unfold bedC; split <;> rfl
  rintro e fm st ⟨rfl, g, A, rfl, g1, g2, g3, hA, _, rfl⟩
  refine SW.seq (SW.mono (Q := midF (fun X => farmS f (springsV f) (bedsV f) X [] 6) (looksV f)) ?_ ?_)
  · refine SW.seqRun tok hO (by cbv <;> rfl) (by trivial) ?_
    refine (SW.block (SW.loopR (fun i : Nat => ⟨⟨85, getT [(1, .ptr 0 0), (2, .ptr 1 0), (3, .ptr 2 0), (7, iV i)]⟩, []⟩) (fun i => farmS f (springsV f) (bedsV f) (slG 5 4 i) (objG 5 4 (lookC f) i) 6) (fun i => f.nl - i) (fun i => i ≤ f.nl) 0 (Nat.zero_le _) (ren1 5 5) ?_ fun i hi => ?_))
    · refine WeakR.up rfl rfl (by simp) (Nat.le_refl _) (.inl rfl) (by show 5 ≤ 6; omega) ⟨?_, ?_, ?_, RenV.closed Below.lit, trivial⟩ ⟨⟨by omega, _, rfl, .cells (.cons (RenV.closed (springsV_below f)) (.cons (RenV.eqv (RenV.closed (bedsV_below f)) hA) (.cons (RenV.closed Below.lit) .nil))), .inr rfl⟩, ⟨by omega, _, rfl, .cells (RenVs.closed nl3_below), .inr rfl⟩, ⟨by omega, _, rfl, .cells (RenVs.closed (farmC_below f)), .inr rfl⟩, trivial⟩ (fun p hp => by cases hp)
      · show RenV _ _ _ (g 1); rw [g1]; exact RenV.ptr (by omega)
      · show RenV _ _ _ (g 2); rw [g2]; exact RenV.ptr (by omega)
      · show RenV _ _ _ (g 3); rw [g3]; exact RenV.ptr (by omega)
    cases i with
    | zero =>
      refine SW.seq ?_
      refine SW.seqRun tok hO (by cbv <;> rfl) (by trivial) ?_
      refine SW.condS (by cbv <;> rfl) (fun h => SW.skip ?_) (fun h => ?_)
      · have hlt : 0 < f.nl := by subst hO; simpa [std] using h
        have h0 : (0 : Int) ≤ Int.ofNat 0 := Int.natCast_nonneg 0
        refine SW.seq (SW.block ?_)
        have call := to_ok (f.llo 0) (f.lhi 0)
        rw [← hnat 0] at call
        refine SW.seqRun tok hO (by cbv <;> rfl) ?_ ?_
        · exact ⟨h0, Int.ofNat_lt.2 hlt⟩
        refine SW.runD tok mixed hO (by rfl) (by cbv <;> rfl) (by trivial) ?_
        refine AnyE.callP call (by cbv <;> rfl) (by cbv <;> rfl) ?_
        refine AnyE.run tok hO (by rfl) (by cbv <;> rfl) (by trivial) ?_
        refine AnyE.effK tok hO (by cbv <;> rfl) (by cbv <;> rfl) (by trivial) ?_ ?_
        · exact ⟨by cbv <;> rfl, by cbv <;> rfl, trivial⟩
        refine AnyE.appNil tok (by cbv <;> rfl) (by cbv <;> rfl) (by rfl) (by kernel_rfl) (by rfl) (by rfl) ?_
        refine AnyE.run tok hO (by rfl) (by cbv <;> rfl) (by trivial) ?_
        refine AnyE.eff tok hO (by cbv <;> rfl) (by cbv <;> rfl) (by trivial) ?_
        refine AnyE.done (by rfl) ?_
        refine SW.run tok hO (by cbv <;> rfl) (by trivial) ?_
        refine ⟨1, by omega, by omega, ren1 5 8, ?_⟩
        refine WeakR.up rfl rfl (by simp) (Nat.le_refl _) (.inr (by omega)) (by show 5 ≤ 6; omega) ⟨RenV.ptr (by omega), RenV.ptr (by omega), RenV.ptr (by omega), RenV.inc hO (by omega), trivial⟩
          ⟨⟨by omega, _, rfl, .cells (.cons (RenV.closed (springsV_below f)) (.cons (RenV.closed (bedsV_below f)) (.cons (RenV.sl (by omega)) .nil))), .inr rfl⟩, ⟨by omega, _, rfl, .cells (RenVs.closed nl3_below), .inr rfl⟩, ⟨by omega, _, rfl, .cells (RenVs.closed (farmC_below f)), .inr rfl⟩, trivial⟩ (fun p hp => ?_)
        obtain rfl := objG_mem hp
        exact ⟨by omega, _, rfl, .cells (RenVs.of_eq (by subst hO; rfl) (flatG_below (fun i k => (lookC_one f i k).1) 1)), .inl rfl⟩
      · have hz : f.nl = 0 := by
          have : f.nl ≤ 0 := by subst hO; simpa [std] using h
          omega
        refine SW.exit ⟨rfl, _, nl3, rfl, rfl, rfl, rfl, ?_, .inl rfl, rfl⟩
        show Eqv nl3 (.isl f.nl 4 false (lookC f))
        rw [hz]; exact Eqv.nil
    | succ i =>
      obtain ⟨G, hG⟩ : ∃ G, G = flatG 4 (lookC f) (i + 1) := ⟨_, rfl⟩
      have hGo : objG 5 4 (lookC f) (i + 1) = [(5, .cells none false G)] := by rw [hG]; rfl
      show SW _ _ _ _ _ (farmS f (springsV f) (bedsV f) (.sl 5 0 (i + 1) 4 false) (objG 5 4 (lookC f) (i + 1)) 6)
      rw [hGo]
      refine SW.seq ?_
      refine SW.seqRun tok hO (by cbv <;> rfl) (by trivial) ?_
      refine SW.condS (by cbv <;> rfl) (fun h => SW.skip ?_) (fun h => ?_)
      · have hlt : i + 1 < f.nl := by
          have : ((i + 1 : Nat) : Int) < (f.nl : Int) := by subst hO; simpa [std] using h
          omega
        have h0 : (0 : Int) ≤ Int.ofNat (i + 1) := Int.natCast_nonneg (i + 1)
        refine SW.seq (SW.block ?_)
        have call := to_ok (f.llo (i + 1)) (f.lhi (i + 1))
        rw [← hnat (i + 1)] at call
        refine SW.seqRun tok hO (by cbv <;> rfl) ?_ ?_
        · exact ⟨h0, Int.ofNat_lt.2 hlt⟩
        refine SW.runD tok mixed hO (by rfl) (by cbv <;> rfl) (by trivial) ?_
        refine AnyE.callP call (by cbv <;> rfl) (by cbv <;> rfl) ?_
        refine AnyE.run tok hO (by rfl) (by cbv <;> rfl) (by trivial) ?_
        refine AnyE.effK tok hO (by cbv <;> rfl) (by cbv <;> rfl) (by trivial) ?_ ?_
        · exact ⟨by cbv <;> rfl, by cbv <;> rfl, trivial⟩
        refine AnyE.appOne (g := lookC f) tok (by cbv <;> rfl) (by cbv <;> rfl) (by rfl) (by rfl) hG (by kernel_rfl) (by rfl) (by rfl) (by omega) fun G' hG' => ?_
        refine AnyE.run tok hO (by rfl) (by cbv <;> rfl) (by trivial) ?_
        refine AnyE.eff tok hO (by cbv <;> rfl) (by cbv <;> rfl) (by trivial) ?_
        refine AnyE.done (by rfl) ?_
        refine SW.run tok hO (by cbv <;> rfl) (by trivial) ?_
        refine ⟨i + 1 + 1, by omega, by omega, ren1 5 8, ?_⟩
        refine WeakR.up rfl rfl (by simp) (Nat.le_refl _) (.inr (by omega)) (by show 5 ≤ 6; omega) ⟨RenV.ptr (by omega), RenV.ptr (by omega), RenV.ptr (by omega), RenV.inc hO (by omega), trivial⟩
          ⟨⟨by omega, _, rfl, .cells (.cons (RenV.closed (springsV_below f)) (.cons (RenV.closed (bedsV_below f)) (.cons (RenV.sl (by omega)) .nil))), .inr rfl⟩, ⟨by omega, _, rfl, .cells (RenVs.closed nl3_below), .inr rfl⟩, ⟨by omega, _, rfl, .cells (RenVs.closed (farmC_below f)), .inr rfl⟩, trivial⟩ (fun p hp => ?_)
        obtain rfl := objG_mem hp
        exact ⟨by omega, _, rfl, .cells (RenVs.of_eq (hG'.trans (by subst hO; rfl)) (flatG_below (fun i k => (lookC_one f i k).1) (i + 1 + 1))), .inl rfl⟩
      · have hz : f.nl = i + 1 := by
          have : (f.nl : Int) ≤ ((i + 1 : Nat) : Int) := by subst hO; simpa [std] using h
          omega
        refine SW.freezeZ (fun j => Nat.beq j 5) 3 (by rfl) (SW.exit ⟨rfl, _, _, rfl, rfl, rfl, rfl, ?_, ?_, rfl⟩)
        rotate_left
        · exact .inr ⟨_, _, _, frz_slE (fm := none) rfl (by rw [← hG]; rfl)⟩
        show Eqv (frz _ _ 3 (.sl 5 0 (i + 1) 4 false)) (.isl f.nl 4 false (lookC f))
        rw [hz]
        exact frz_slG (fm := none) rfl (by rw [← hG]; rfl) fun i k => by unfold lookC; split <;> rfl
  rintro e fm st ⟨rfl, g, A, rfl, g1, g2, g3, hA, hform, rfl⟩
  rw [← updT_self g1, ← updT_self g2, ← updT_self g3]
  rcases hform with rfl | ⟨len, sz, h, rfl⟩
  · refine SW.seqRun tok hO (by cbv <;> rfl) (by trivial) ?_
    exact SW.ret ⟨_, _, rfl, rfl, Eqv.agg (.cons (Eqv.refl _) (.cons (Eqv.refl _) (.cons hA .nil)))⟩
  · refine SW.seqRun tok hO (by cbv <;> rfl) (by trivial) ?_
    exact SW.ret ⟨_, _, rfl, rfl, Eqv.agg (.cons (Eqv.refl _) (.cons (Eqv.refl _) (.cons hA .nil)))⟩
end Go.Fz
