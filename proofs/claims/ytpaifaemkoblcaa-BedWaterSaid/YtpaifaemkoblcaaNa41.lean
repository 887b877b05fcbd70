/- Own work of the verifier of watercress: FzD7, FzD8, FzR1, FzD9. -/
import Derived.Test.YtpaifaemkoblcaaNa40
import Derived.Test.YtpaifaemkoblcaaNa14
set_option linter.unusedVariables false
set_option linter.unusedSimpArgs false
set_option linter.unusedVariables false
namespace Go.Fz
open Go.Proofs
set_option maxRecDepth 100000
def smH (f : FarmD) (X : AV) (E : Hp) : Hp := [(2, .cells none false [springsV f, bedsV f, X]), (1, .cells none false [nl3, nl3, nl3]), (0, .cells none false (farmL f))] ++ E
theorem conv_nn {O : Ar} (hO : O = std) {i : Nat} (h : i < 1000000) : 0 ≤ O.conv .u64 (Int.ofNat i) := by
  subst hO
  show 0 ≤ wrp .u64 (Int.ofNat i)
  rw [wrp_in (by simp only [IntKind.lo]; exact Int.natCast_nonneg i) (by simp only [IntKind.hi]; have : (i : Int) ≤ 1000000 := by omega
                                                                         show (i : Int) ≤ _; omega)]
  exact Int.natCast_nonneg i
set_option maxHeartbeats 16000000 in
theorem some_ok (f : FarmD) (n : Nat) (hn : n ≤ f.nl) (hnl : f.nl < 1000) (bits : Int) (hb : ∀ i, i < f.nl → bitB bits i = decide (i < n)) : Pure Try.prog 64 [farmV f, iV bits] (farmV (f.wl n)) := by
  obtain ⟨O, hO⟩ : ∃ O : Ar, O = std := ⟨_, rfl⟩
  have hnat : ∀ i : Nat, O.nat (Int.ofNat i) = i := fun i => by subst hO; rfl
  have hfb := farmL_below f
  have n3b : ∀ a ∈ [nl3, nl3, nl3], Below 0 a := AllB.ok ⟨Below.lit, Below.lit, Below.lit, trivial⟩
  have hcv : ∀ i : Nat, i < 1000000 → 0 ≤ O.conv .u64 (Int.ofNat i) := fun i h => conv_nn hO h
  refine pure_of_body tok 4 Try.func64 en64 rfl ⟨farmV_below f, Below.lit, trivial⟩ (farmV_below (f.wl n)) ?_
  refine SW.seqRun tok hO (by cbv <;> rfl) (by trivial) ?_
  refine SW.seqRun tok hO (by cbv <;> rfl) (by trivial) ?_
  refine SW.seqRun tok hO (by cbv <;> rfl) (by trivial) ?_
  refine SW.seq ?_
  refine SW.seqRun tok hO (by cbv <;> rfl) (by trivial) ?_
  refine (SW.block (SW.loopR (fun i : Nat => ⟨⟨33, getT [(1, iV bits), (2, .ptr 0 0), (4, .ptr 1 0), (5, .ptr 2 0), (6, iV i)]⟩, []⟩) (fun i => ⟨smH f (slG 3 4 (min i n)) (objG 3 4 (lookC f) (min i n)), 4⟩) (fun i => f.nl - i) (fun i => i ≤ f.nl) 0 (Nat.zero_le _) (ren1 3 3) ?_ fun i hi => ?_))
  · refine WeakR.up rfl rfl (by simp) (Nat.le_refl _) (.inl rfl) (by show 3 ≤ 4; omega) ⟨RenV.closed Below.lit, RenV.ptr (by omega), RenV.ptr (by omega), RenV.ptr (by omega), RenV.closed Below.lit, trivial⟩ ⟨⟨by omega, _, rfl, .cells (.cons (RenV.closed (springsV_below f)) (.cons (RenV.closed (bedsV_below f)) (.cons (by rw [Nat.zero_min]; exact RenV.closed Below.lit) .nil))), .inr rfl⟩, ⟨by omega, _, rfl, .cells (RenVs.closed n3b), .inr rfl⟩, ⟨by omega, _, rfl, .cells (RenVs.closed hfb), .inr rfl⟩, trivial⟩ (fun p hp => by rw [Nat.zero_min] at hp; cases hp)
  show SW _ _ _ _ _ ⟨smH f (slG 3 4 (min i n)) (objG 3 4 (lookC f) (min i n)), 4⟩
  by_cases hin : i < n
  · have hm : min i n = i := by omega
    have hbi := hb i (by omega)
    rw [show decide (i < n) = true from decide_eq_true hin] at hbi
    have hnx : ∀ (f' : Fm) (st' : St) (ρ : Nat → Nat), WeakR 3 ρ f' st' ⟨⟨33, getT [(1, iV bits), (2, .ptr 0 0), (4, .ptr 1 0), (5, .ptr 2 0), (6, iV ((i + 1 : Nat) : Int))]⟩, []⟩ ⟨smH f (slG 3 4 (i + 1)) (objG 3 4 (lookC f) (i + 1)), 4⟩ →
        ∃ x', f.nl - x' < f.nl - i ∧ x' ≤ f.nl ∧ ∃ ρ, WeakR 3 ρ f' st' ⟨⟨33, getT [(1, iV bits), (2, .ptr 0 0), (4, .ptr 1 0), (5, .ptr 2 0), (6, iV (x' : Int))]⟩, []⟩ ⟨smH f (slG 3 4 (min x' n)) (objG 3 4 (lookC f) (min x' n)), 4⟩ := fun f' st' ρ h => ⟨i + 1, by omega, by omega, ρ, by rw [show min (i + 1) n = i + 1 by omega]; exact h⟩
    rw [hm]
    have hll : ∀ i k, lookC f i k = lookC f i k := fun _ _ => rfl
    cases i with
    | zero =>
      refine SW.seq ?_
      refine SW.seqRun tok hO (by cbv <;> rfl) (by trivial) ?_
      refine SW.condS (by cbv <;> rfl) (fun h => SW.skip ?_) (fun h => ?_)
      · refine (show SW _ _ _ _ _ _ from ?_)
        refine SW.seq (SW.block ?_)
        refine SW.seqRun tok hO (by cbv <;> rfl) ?_ ?_
        · exact ⟨show (2 : Int) ≠ 0 by decide, hcv _ (by omega)⟩
        refine SW.condS (by cbv <;> rfl) (fun h2 => ?_) (fun h2 => ?_)
        · refine SW.runD tok mixed hO (by rfl) (by cbv <;> rfl) ?_ ?_
          · exact ⟨Int.natCast_nonneg 0, by show ((0 : Nat) : Int) < (f.nl : Int); omega⟩
          refine AnyE.effK tok hO (by cbv <;> rfl) (by cbv <;> rfl) (by trivial) ?_ ?_
          · exact (by repeat (first | exact trivial | refine And.intro (by first | exact lv_of hO (by cbv <;> rfl) (by trivial) | (cbv <;> rfl)) ?_))
          refine AnyE.appNil tok (by cbv <;> rfl) (by cbv <;> rfl) (by rfl) (by kernel_rfl) (by rfl) (by rfl) ?_
          refine AnyE.run tok hO (by rfl) (by cbv <;> rfl) (by trivial) ?_
          refine AnyE.eff tok hO (by cbv <;> rfl) (by cbv <;> rfl) (by trivial) ?_
          refine AnyE.done (by rfl) ?_
          refine SW.run tok hO (by cbv <;> rfl) (by trivial) ?_
          refine hnx _ _ (ren1 3 5) ?_
          refine WeakR.up rfl rfl (by simp) (Nat.le_refl _) (.inr (by omega)) (by show 3 ≤ 4; omega) ⟨RenV.closed Below.lit, RenV.ptr (by omega), RenV.ptr (by omega), RenV.ptr (by omega), RenV.inc hO (by omega), trivial⟩
            ⟨⟨by omega, _, rfl, .cells (.cons (RenV.closed (springsV_below f)) (.cons (RenV.closed (bedsV_below f)) (.cons (RenV.sl (by omega)) .nil))), .inr rfl⟩, ⟨by omega, _, rfl, .cells (RenVs.closed n3b), .inr rfl⟩, ⟨by omega, _, rfl, .cells (RenVs.closed hfb), .inr rfl⟩, trivial⟩ (fun p hp => ?_)
          obtain rfl := objG_mem hp
          exact ⟨by omega, _, rfl, .cells (RenVs.of_eq (by subst hO; rfl) (flatG_below (fun i k => (lookC_one f i k).1) 1)), .inl rfl⟩
        · exfalso
          have h3 : bitB bits 0 = false := by subst hO; exact h2
          rw [hbi] at h3; cases h3
      · exfalso
        have : (f.nl : Int) ≤ ((0 : Nat) : Int) := by subst hO; simpa [std] using h
        omega
    | succ i =>
      obtain ⟨G, hG⟩ : ∃ G, G = flatG 4 (lookC f) (i + 1) := ⟨_, rfl⟩
      have hGo : objG 3 4 (lookC f) (i + 1) = [(3, .cells none false G)] := by rw [hG]; rfl
      rw [hGo]
      show SW _ _ _ _ _ ⟨smH f (.sl 3 0 (i + 1) 4 false) [(3, .cells none false G)], 4⟩
      refine SW.seq ?_
      refine SW.seqRun tok hO (by cbv <;> rfl) (by trivial) ?_
      refine SW.condS (by cbv <;> rfl) (fun h => SW.skip ?_) (fun h => ?_)
      · refine (show SW _ _ _ _ _ _ from ?_)
        refine SW.seq (SW.block ?_)
        refine SW.seqRun tok hO (by cbv <;> rfl) ?_ ?_
        · exact ⟨show (2 : Int) ≠ 0 by decide, hcv _ (by omega)⟩
        refine SW.condS (by cbv <;> rfl) (fun h2 => ?_) (fun h2 => ?_)
        · refine SW.runD tok mixed hO (by rfl) (by cbv <;> rfl) ?_ ?_
          · exact ⟨Int.natCast_nonneg (i + 1), by show ((i + 1 : Nat) : Int) < (f.nl : Int); omega⟩
          refine AnyE.effK tok hO (by cbv <;> rfl) (by cbv <;> rfl) (by trivial) ?_ ?_
          · exact (by repeat (first | exact trivial | refine And.intro (by first | exact lv_of hO (by cbv <;> rfl) (by trivial) | (cbv <;> rfl)) ?_))
          refine AnyE.appOne (g := lookC f) tok (by cbv <;> rfl) (by cbv <;> rfl) (by rfl) (by rfl) hG (by kernel_rfl) (by rfl) (by rfl) (by omega) fun G' hG' => ?_
          have hG2 : G' = flatG 4 (lookC f) (i + 1 + 1) := by
            rw [hG']
            show _ = flatG 4 (lookC f) (i + 1) ++ [lookC f (i + 1) 0, lookC f (i + 1) 1, lookC f (i + 1) 2, lookC f (i + 1) 3]
            congr 1
            have e := hnat (i + 1)
            simp only [show Int.ofNat i.succ = Int.ofNat (i + 1) from rfl, e]
            rfl
          refine AnyE.run tok hO (by rfl) (by cbv <;> rfl) (by trivial) ?_
          refine AnyE.eff tok hO (by cbv <;> rfl) (by cbv <;> rfl) (by trivial) ?_
          refine AnyE.done (by rfl) ?_
          refine SW.run tok hO (by cbv <;> rfl) (by trivial) ?_
          refine hnx _ _ (ren1 3 5) ?_
          refine WeakR.up rfl rfl (by simp) (Nat.le_refl _) (.inr (by omega)) (by show 3 ≤ 4; omega) ⟨RenV.closed Below.lit, RenV.ptr (by omega), RenV.ptr (by omega), RenV.ptr (by omega), RenV.inc hO (by omega), trivial⟩
            ⟨⟨by omega, _, rfl, .cells (.cons (RenV.closed (springsV_below f)) (.cons (RenV.closed (bedsV_below f)) (.cons (RenV.sl (by omega)) .nil))), .inr rfl⟩, ⟨by omega, _, rfl, .cells (RenVs.closed n3b), .inr rfl⟩, ⟨by omega, _, rfl, .cells (RenVs.closed hfb), .inr rfl⟩, trivial⟩ (fun p hp => ?_)
          obtain rfl := objG_mem hp
          have hb2 : ∀ a ∈ flatG 4 (lookC f) (i + 1 + 1), Below 0 a := flatG_below (fun i k => (lookC_one f i k).1) _
          generalize flatG 4 (lookC f) (i + 1 + 1) = G2 at hG2 hb2 ⊢
          subst hG2
          exact ⟨by omega, _, rfl, .cells (RenVs.closed hb2), .inl rfl⟩
        · exfalso
          have h3 : O.cmp .eql (O.bin .rem .i64 (O.bin .shr .i64 bits (O.conv .u64 (Int.ofNat (i + 1)))) 2) 1 = false := h2
          rw [hO] at h3
          have h4 : bitB bits (i + 1) = std.cmp .eql (std.bin .rem .i64 (std.bin .shr .i64 bits (std.conv .u64 (Int.ofNat (i + 1)))) 2) 1 := rfl
          rw [← h4, hbi] at h3; cases h3
      · exfalso
        have : (f.nl : Int) ≤ ((i + 1 : Nat) : Int) := by subst hO; simpa [std] using h
        omega
  · have hm : min i n = n := by omega
    rw [hm]
    have hnx : ∀ (f' : Fm) (st' : St) (ρ : Nat → Nat), i < f.nl → WeakR 3 ρ f' st' ⟨⟨33, getT [(1, iV bits), (2, .ptr 0 0), (4, .ptr 1 0), (5, .ptr 2 0), (6, iV ((i + 1 : Nat) : Int))]⟩, []⟩ ⟨smH f (slG 3 4 n) (objG 3 4 (lookC f) n), 4⟩ →
        ∃ x', f.nl - x' < f.nl - i ∧ x' ≤ f.nl ∧ ∃ ρ, WeakR 3 ρ f' st' ⟨⟨33, getT [(1, iV bits), (2, .ptr 0 0), (4, .ptr 1 0), (5, .ptr 2 0), (6, iV (x' : Int))]⟩, []⟩ ⟨smH f (slG 3 4 (min x' n)) (objG 3 4 (lookC f) (min x' n)), 4⟩ := fun f' st' ρ hl h => ⟨i + 1, by omega, by omega, ρ, by rw [show min (i + 1) n = n by omega]; exact h⟩
    obtain ⟨X, hX⟩ : ∃ X, slG 3 4 n = X := ⟨_, rfl⟩
    obtain ⟨E, hE⟩ : ∃ E, objG 3 4 (lookC f) n = E := ⟨_, rfl⟩
    rw [hX, hE] at hnx ⊢
    refine SW.seq ?_
    refine SW.seqRun tok hO (by cbv <;> rfl) (by trivial) ?_
    refine SW.condS (by cbv <;> rfl) (fun h => SW.skip ?_) (fun h => SW.exit ?_)
    · have hlt : i < f.nl := by
        have : (i : Int) < (f.nl : Int) := by subst hO; simpa [std] using h
        omega
      have hbi := hb i hlt
      rw [show decide (i < n) = false from decide_eq_false hin] at hbi
      refine (show SW _ _ _ _ _ _ from ?_)
      refine SW.seq (SW.block ?_)
      refine SW.seqRun tok hO (by cbv <;> rfl) ?_ ?_
      · exact ⟨show (2 : Int) ≠ 0 by decide, hcv _ (by omega)⟩
      refine SW.condS (by cbv <;> rfl) (fun h2 => ?_) (fun h2 => SW.skip ?_)
      · exfalso
        have h3 : bitB bits i = true := by subst hO; exact h2
        rw [hbi] at h3; cases h3
      refine SW.run tok hO (by cbv <;> rfl) (by trivial) ?_
      refine hnx _ _ (ren1 3 3) hlt ?_
      have hXr : RenV (ren1 3 3) 4 X X := by
        rw [← hX]
        cases n with
        | zero => exact RenV.closed Below.lit
        | succ L => exact RenV.sl (by omega)
      refine WeakR.up rfl rfl (by simp) (Nat.le_refl _) (.inl rfl) (by show 3 ≤ 4; omega) ⟨RenV.closed Below.lit, RenV.ptr (by omega), RenV.ptr (by omega), RenV.ptr (by omega), RenV.inc hO (by omega), trivial⟩
        ⟨⟨by omega, _, rfl, .cells (.cons (RenV.closed (springsV_below f)) (.cons (RenV.closed (bedsV_below f)) (.cons hXr .nil))), .inr rfl⟩, ⟨by omega, _, rfl, .cells (RenVs.closed n3b), .inr rfl⟩, ⟨by omega, _, rfl, .cells (RenVs.closed hfb), .inr rfl⟩, trivial⟩ (fun p hp => ?_)
      rw [← hE] at hp ⊢
      have := objG_mem hp
      cases n with
      | zero => cases hp
      | succ L =>
        subst this
        exact ⟨by omega, _, rfl, .cells (RenVs.closed (flatG_below (fun i k => (lookC_one f i k).1) _)), .inl rfl⟩
    · refine (show SW _ _ _ _ _ _ from ?_)
      subst hX hE
      cases n with
      | zero =>
        refine SW.seqRun tok hO (by cbv <;> rfl) (by trivial) ?_
        refine SW.ret ⟨_, _, rfl, rfl, ?_⟩
        exact Eqv.agg (.cons (Eqv.refl _) (.cons (Eqv.refl _) (.cons Eqv.nil .nil)))
      | succ L =>
        obtain ⟨G, hG⟩ : ∃ G, G = flatG 4 (lookC f) (L + 1) := ⟨_, rfl⟩
        have hGo : objG 3 4 (lookC f) (L + 1) = [(3, .cells none false G)] := by rw [hG]; rfl
        rw [hGo]
        refine (show SW _ _ _ _ _ ⟨smH f (.sl 3 0 (L + 1) 4 false) [(3, .cells none false G)], 4⟩ from ?_)
        refine SW.seqRun tok hO (by cbv <;> rfl) (by trivial) ?_
        refine SW.ret ⟨_, _, rfl, rfl, ?_⟩
        refine Eqv.agg (.cons (Eqv.refl _) (.cons (Eqv.refl _) (.cons ?_ .nil)))
        show Eqv (frz _ _ 3 (.sl 3 0 (L + 1) 4 false)) (.isl (L + 1) 4 false (lookC f))
        exact frz_slG (fm := none) rfl (by rw [← hG]; rfl) fun i k => by unfold lookC; split <;> rfl
end Go.Fz
set_option linter.unusedVariables false
namespace Go.Fz
open Go.Proofs
set_option maxRecDepth 100000
def pw1 (n : Nat) : Int := std.bin .sub .i64 (std.bin .shl .i64 1 (std.conv .u64 (Int.ofNat n))) 1
def pw2 (n : Nat) : Int := std.bin .sub .i64 (std.bin .shl .i64 2 (std.conv .u64 (Int.ofNat n))) 1
theorem pw_bits : ∀ n : Fin 6, ∀ i : Fin 6, bitB (pw1 n.1) i.1 = decide (i.1 < n.1) ∧ bitB (pw2 n.1) i.1 = decide (i.1 < n.1 + 1) := by decide +kernel
theorem chL_ne {f : FarmD} (g : f.Good) : f.chL ≠ [] := fun h => by
  have : (List.range f.ns).map f.slo ∈ f.chL := (f.mem_chL _).2 ⟨by simp, fun i hi => by
    have e : zL ((List.range f.ns).map f.slo) i = f.slo i := by
      unfold zL; rw [List.getD_eq_getElem?_getD, List.getElem?_map, List.getElem?_range hi]; rfl
    rw [e]
    have := (g.spring i hi).2
    omega⟩
  rw [h] at this; cases this
theorem wl0_trs (f : FarmD) : (f.wl 0).trs = f.chL := by
  unfold FarmD.trs
  show (f.chL).filter (f.wl 0).rgt = f.chL
  rw [List.filter_eq_self.2]
  intro l _
  show allN 0 _ = true
  simp [allN]
theorem wl_sizes (f : FarmD) (n : Nat) : ∀ k, (f.wl n).sizesN k = f.sizesN k
  | 0 => rfl
  | k + 1 => by
    have ih := wl_sizes f n k
    simp only [FarmD.sizesN, ih]
    rfl
theorem wl_check {f : FarmD} (h : f.check = 0) {n : Nat} (hn : n ≤ f.nl) : (f.wl n).check = 0 := by
  have h2 := wl_sizes f n f.ns
  unfold FarmD.check at h ⊢
  split at h
  · cases h
  · rename_i hl
    split at h
    · rename_i hv
      split at h
      · cases h
      · rename_i hz
        have h3 : (f.wl n).long = false := by
          simp only [FarmD.long, Bool.not_eq_true, Bool.or_eq_false_iff, decide_eq_false_iff_not, Nat.not_lt] at hl ⊢
          exact ⟨hl.1, Nat.le_trans hn hl.2⟩
        have h4 : (f.wl n).validB = true := by
          simp only [FarmD.validB, Bool.and_eq_true, decide_eq_true_eq, allN] at hv ⊢
          exact ⟨hv.1, fun i hi => hv.2 i (Nat.lt_of_lt_of_le hi hn)⟩
        rw [if_neg (by rw [h3]; simp), if_pos h4, show (f.wl n).ns = f.ns from rfl, h2, if_neg hz]
    · cases h
theorem bndE_of {f : FarmD} (h : f.check = 0) : (f.trs ≠ [] → f.bndE = 0) ∧ (f.trs = [] → f.bndE = 11) := by
  constructor
  · intro h2
    unfold FarmD.bndE FarmD.opnE
    rw [if_neg (by simp [h]), if_neg (by simp), if_neg h2]
  · intro h2
    unfold FarmD.bndE FarmD.opnE
    rw [if_neg (by simp [h]), if_neg (by simp), if_pos h2]
theorem fst_none {f : FarmD} (h : f.check = 0) (hf : f.fstO = none) : f.bndE = 0 := by
  refine (bndE_of h).1 ?_
  have hall := List.find?_eq_none.1 hf
  cases hk : f.nl with
  | zero =>
    have e : f.wl 0 = f := by rw [← hk]; rfl
    rw [← e, wl0_trs]
    exact chL_ne (good_of_check h)
  | succ k =>
    have e : f.wl (k + 1) = f := by rw [← hk]; rfl
    have := hall k (List.mem_range.2 (by omega))
    rw [e] at this
    simpa using this
theorem fst_some {f : FarmD} (h : f.check = 0) {n : Nat} (hf : f.fstO = some n) : n < f.nl ∧ (f.wl n).bndE = 0 ∧ (f.wl (n + 1)).bndE = 11 := by
  have hm := List.mem_range.1 (List.mem_of_find?_eq_some hf)
  have hp : (f.wl (n + 1)).trs = [] := by simpa using List.find?_some hf
  obtain ⟨_, l1, l2, e1, e2⟩ := List.find?_eq_some_iff_append.1 hf
  refine ⟨hm, (bndE_of (wl_check h (by omega))).1 ?_, (bndE_of (wl_check h (by omega))).2 hp⟩
  cases n with
  | zero => rw [wl0_trs]; exact chL_ne (good_of_check h)
  | succ j =>
    have hj : j ∈ List.range f.nl := List.mem_range.2 (by omega)
    rw [e1] at hj
    have hpw : List.Pairwise (· < ·) (List.range f.nl) := List.pairwise_lt_range
    rw [e1] at hpw
    rcases List.mem_append.1 hj with hj | hj
    · simpa using e2 j hj
    · exfalso
      rcases List.mem_cons.1 hj with hj | hj
      · omega
      · have := List.rel_of_pairwise_cons (List.pairwise_append.1 hpw).2.1 hj
        omega
end Go.Fz
namespace Go.Fz
open Go.Proofs
set_option maxRecDepth 100000
def FarmD.readyB (f : FarmD) : Bool := f.thinB && decide (f.faultN = 0)
theorem ready_ok (f : FarmD) : Pure Try.prog 52 [farmV f] (.sb f.readyB) := by
  obtain ⟨O, hO⟩ : ∃ O : Ar, O = std := ⟨_, rfl⟩
  refine pure_of_body tok 3 Try.func52 en52 rfl ⟨farmV_below f, trivial⟩ Below.sb ?_
  refine SW.seqRun tok hO (by cbv <;> rfl) (by trivial) ?_
  refine SW.seqRun tok hO (by cbv <;> rfl) (by trivial) ?_
  refine OpsW.callB (thin_ok f) (by cbv <;> rfl) fun b hb => ?_
  refine OpsW.run tok hO (by cbv <;> rfl) (by trivial) ?_
  refine OpsW.splitG (by cbv <;> rfl) (fun h => ?_) (fun h => ?_) <;> refine OpsW.run tok hO (by cbv <;> rfl) (by trivial) ?_
  · have hT : f.thinB = true := hb.symm.trans h
    have hs : f.small := by
      simp only [FarmD.thinB, Bool.and_eq_true, decide_eq_true_eq] at hT
      exact ⟨by omega, by omega, by omega⟩
    refine OpsW.callI (fault_ok f hs) (by cbv <;> rfl) fun e he => ?_
    refine OpsW.run tok hO (by cbv <;> rfl) (by trivial) ?_
    refine SW.ret ⟨_, _, rfl, rfl, Eqv.sb ?_⟩
    subst hO; subst he
    simp [FarmD.readyB, hT, std]
    rfl
  · refine SW.ret ⟨_, _, rfl, rfl, Eqv.bool ?_⟩
    simp [FarmD.readyB, ← hb, h]
end Go.Fz
set_option linter.unusedVariables false
namespace Go.Fz
open Go.Proofs
set_option maxRecDepth 100000
set_option maxHeartbeats 16000000 in
theorem bedFirst_ok (haw : Pure Try.prog 19 [] (.lit (.bool true))) (f : FarmD) : Pure Try.prog 15 [farmV f] (.lit (.bool true)) := by
  obtain ⟨O, hO⟩ : ∃ O : Ar, O = std := ⟨_, rfl⟩
  refine pure_of_body tok 3 Try.func15 en15 rfl ⟨farmV_below f, trivial⟩ Below.lit ?_
  refine SW.seqRun tok hO (by cbv <;> rfl) (by trivial) ?_
  refine SW.seq ?_
  refine SW.seqRun tok hO (by cbv <;> rfl) (by trivial) ?_
  have call := ready_ok f
  generalize hR : f.readyB = t at call
  refine OpsW.callP call (by cbv <;> rfl) ?_
  have hnot : O.not t = !t := by subst hO; rfl
  refine OpsW.run tok hO (by cbv <;> rfl) (by trivial) ?_
  refine SW.condS (by cbv <;> rfl) (fun h1 => ?_) (fun h1 => SW.skip ?_)
  · refine SW.seqRun tok hO (by cbv <;> rfl) (by trivial) ?_
    refine OpsW.callP haw (by cbv <;> rfl) ?_
    refine OpsW.run tok hO (by cbv <;> rfl) (by trivial) ?_
    exact SW.ret ⟨_, _, rfl, rfl, Eqv.refl _⟩
  have ht : t = true := by have := hnot.symm.trans h1; simpa using this
  rw [ht] at hR
  have hck : f.check = 0 := by
    simp only [FarmD.readyB, Bool.and_eq_true, decide_eq_true_eq] at hR
    rw [f.check_eq]; exact hR.2
  have g := good_of_check hck
  have hsm := good_small g
  have hnl := g.nl
  have hns := g.ns
  have hnb := g.nb
  have e21 := farm_ok f (by omega) (by omega) (by omega)
  have e43 := first_ok f hsm
  refine (show SW _ _ _ _ _ _ from ?_)
  cases hf : f.fstO with
  | none =>
    have hV : f.fstV = 0 := by unfold FarmD.fstV; rw [if_pos hck, hf]
    have hE : f.fstE = 7 := by unfold FarmD.fstE; rw [if_pos hck, hf]
    rw [hV, hE] at e43
    have e29 := bounds29 hsm
    rw [fst_none hck hf] at e29
    obtain ⟨BL, hBL⟩ : ∃ v, f.bndL = v := ⟨_, rfl⟩
    rw [hBL] at e29
    refine SW.seqRun tok hO (by cbv <;> rfl) (by trivial) ?_
    refine OpsW.callP e21 (by cbv <;> rfl) ?_
    refine OpsW.run tok hO (by cbv <;> rfl) (by trivial) ?_
    refine OpsW.callP e43 (by cbv <;> rfl) ?_
    refine OpsW.run tok hO (by cbv <;> rfl) (by trivial) ?_
    refine SW.seq ?_
    refine SW.seqRun tok hO (by cbv <;> rfl) (by trivial) ?_
    refine SW.condS (by cbv <;> rfl) (fun h2 => ?_) (fun h2 => ?_)
    rotate_left
    · exfalso; subst hO; simp [std] at h2
    refine SW.seqRun tok hO (by cbv <;> rfl) (by trivial) ?_
    refine OpsW.callP e21 (by cbv <;> rfl) ?_
    refine OpsW.run tok hO (by cbv <;> rfl) (by trivial) ?_
    refine OpsW.callP e29 (by cbv <;> rfl) ?_
    refine OpsW.run tok hO (by cbv <;> rfl) (by trivial) ?_
    refine SW.seqRun tok hO (by cbv <;> rfl) (by trivial) ?_
    refine OpsW.splitG (by cbv <;> rfl) (fun h3 => ?_) (fun h3 => ?_)
    rotate_left
    · exfalso; subst hO; simp [std] at h3
    refine OpsW.run tok hO (by cbv <;> rfl) (by trivial) ?_
    refine OpsW.splitG (by cbv <;> rfl) (fun h4 => ?_) (fun h4 => ?_)
    rotate_left
    · exfalso; subst hO; simp [std] at h4
    refine OpsW.run tok hO (by cbv <;> rfl) (by trivial) ?_
    refine OpsW.callP haw (by cbv <;> rfl) ?_
    refine OpsW.run tok hO (by cbv <;> rfl) (by trivial) ?_
    exact SW.ret ⟨_, _, rfl, rfl, Eqv.of rfl⟩
  | some n =>
    have hV : f.fstV = (n : Int) := by unfold FarmD.fstV; rw [if_pos hck, hf]
    have hE : f.fstE = 0 := by unfold FarmD.fstE; rw [if_pos hck, hf]
    rw [hV, hE] at e43
    obtain ⟨h5, h6, h7⟩ := fst_some hck hf
    have hb1 : ∀ i, i < f.nl → bitB (O.bin .sub .i64 (O.bin .shl .i64 1 (O.conv .u64 (Int.ofNat n))) 1) i = decide (i < n) := fun i hi => by
      subst hO; exact (pw_bits ⟨n, by omega⟩ ⟨i, by omega⟩).1
    have hb2 : ∀ i, i < f.nl → bitB (O.bin .sub .i64 (O.bin .shl .i64 2 (O.conv .u64 (Int.ofNat n))) 1) i = decide (i < n + 1) := fun i hi => by
      subst hO; exact (pw_bits ⟨n, by omega⟩ ⟨i, by omega⟩).2
    have s1 := some_ok f n (by omega) (by omega) _ hb1
    have s2 := some_ok f (n + 1) (by omega) (by omega) _ hb2
    have c1 := farm_ok (f.wl n) (by show f.nb ≤ 10; omega) (by show f.ns ≤ 6; omega) (by show n ≤ 7; omega)
    have c2 := farm_ok (f.wl (n + 1)) (by show f.nb ≤ 10; omega) (by show f.ns ≤ 6; omega) (by show n + 1 ≤ 7; omega)
    have d1 := bounds29 (good_small (FarmD.wl_good g (show n ≤ f.nl by omega)))
    have d2 := bounds29 (good_small (FarmD.wl_good g (show n + 1 ≤ f.nl by omega)))
    rw [h6] at d1
    rw [h7] at d2
    obtain ⟨X1, hX1⟩ : ∃ v, (f.wl n).bndL = v := ⟨_, rfl⟩
    obtain ⟨X2, hX2⟩ : ∃ v, (f.wl (n + 1)).bndL = v := ⟨_, rfl⟩
    obtain ⟨F1, hF1⟩ : ∃ v, farmV (f.wl n) = v := ⟨_, rfl⟩
    obtain ⟨F2, hF2⟩ : ∃ v, farmV (f.wl (n + 1)) = v := ⟨_, rfl⟩
    rw [hX1, hF1] at d1
    rw [hX2, hF2] at d2
    rw [hF1] at s1 c1
    rw [hF2] at s2 c2
    have hin : inB (n : Int) 0 (O.bin .sub .i64 (Int.ofNat f.nl) 1) = true := by
      have : O.bin .sub .i64 (Int.ofNat f.nl) 1 = (f.nl : Int) - 1 := by
        rw [show O.bin .sub .i64 (Int.ofNat f.nl) 1 = sub64 (f.nl : Int) 1 by subst hO; exact sub64_eq _ _]
        exact sub64_in _ _ (by omega) (by omega)
      rw [this]
      simp [inB]; omega
    have ein := in_ok (n : Int) 0 (O.bin .sub .i64 (Int.ofNat f.nl) 1)
    rw [hin] at ein
    have hcn : 0 ≤ O.conv .u64 (Int.ofNat n) := conv_nn hO (by omega)
    refine SW.seqRun tok hO (by cbv <;> rfl) (by trivial) ?_
    refine OpsW.callP e21 (by cbv <;> rfl) ?_
    refine OpsW.run tok hO (by cbv <;> rfl) (by trivial) ?_
    refine OpsW.callP e43 (by cbv <;> rfl) ?_
    refine OpsW.run tok hO (by cbv <;> rfl) (by trivial) ?_
    refine SW.seq ?_
    refine SW.seqRun tok hO (by cbv <;> rfl) (by trivial) ?_
    refine SW.condS (by cbv <;> rfl) (fun h2 => ?_) (fun h2 => SW.skip ?_)
    · exfalso; subst hO; simp [std] at h2
    refine (show SW _ _ _ _ _ _ from ?_)
    refine SW.seq ?_
    refine SW.seqRun tok hO (by cbv <;> rfl) (by trivial) ?_
    refine OpsW.callP ein (by cbv <;> rfl) ?_
    refine OpsW.run tok hO (by cbv <;> rfl) (by trivial) ?_
    refine SW.condS (by cbv <;> rfl) (fun h2 => ?_) (fun h2 => SW.skip ?_)
    · exfalso; subst hO; simp [std] at h2
    refine (show SW _ _ _ _ _ _ from ?_)
    refine SW.seqRun tok hO (by cbv <;> rfl) ?_ ?_
    · exact hcn
    refine OpsW.callP s1 (by cbv <;> rfl) ?_
    refine OpsW.run tok hO (by cbv <;> rfl) (by trivial) ?_
    refine OpsW.callP c1 (by cbv <;> rfl) ?_
    refine OpsW.run tok hO (by cbv <;> rfl) (by trivial) ?_
    refine OpsW.callP d1 (by cbv <;> rfl) ?_
    refine OpsW.run tok hO (by cbv <;> rfl) (by trivial) ?_
    refine SW.seqRun tok hO (by cbv <;> rfl) ?_ ?_
    · exact hcn
    refine OpsW.callP s2 (by cbv <;> rfl) ?_
    refine OpsW.run tok hO (by cbv <;> rfl) (by trivial) ?_
    refine OpsW.callP c2 (by cbv <;> rfl) ?_
    refine OpsW.run tok hO (by cbv <;> rfl) (by trivial) ?_
    refine OpsW.callP d2 (by cbv <;> rfl) ?_
    refine OpsW.run tok hO (by cbv <;> rfl) (by trivial) ?_
    refine SW.seqRun tok hO (by cbv <;> rfl) (by trivial) ?_
    refine OpsW.splitG (by cbv <;> rfl) (fun h3 => ?_) (fun h3 => ?_)
    rotate_left
    · exfalso; subst hO; simp [std] at h3
    refine OpsW.run tok hO (by cbv <;> rfl) (by trivial) ?_
    refine OpsW.splitG (by cbv <;> rfl) (fun h4 => ?_) (fun h4 => ?_)
    rotate_left
    · exfalso; subst hO; simp [std] at h4
    refine OpsW.run tok hO (by cbv <;> rfl) (by trivial) ?_
    refine OpsW.callP haw (by cbv <;> rfl) ?_
    refine OpsW.run tok hO (by cbv <;> rfl) (by trivial) ?_
    exact SW.ret ⟨_, _, rfl, rfl, Eqv.of rfl⟩
end Go.Fz
