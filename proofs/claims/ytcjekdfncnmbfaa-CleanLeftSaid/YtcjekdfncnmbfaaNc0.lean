/- Own work of the verifier of watercress: Lb4, FzCn1, FzCn2, FzCn4, FzCn5, FzCn6. -/
import Derived.ChangeKeysEq
import Derived.Laws.AppendOwn
import Derived.Laws.Cells
import Derived.Laws.CopyRow
import Derived.Laws.Entries
import Derived.Laws.NewFold
import Derived.Laws.Sem
import Derived.Laws.Small
import Derived.Laws.StructEq
import Derived.Laws.Tables
import Derived.Laws.World
import Derived.OrdersHeld
import Derived.OrdersIn
import Derived.RangeFuncLeaves
import Derived.RangeFuncRecord
import Derived.Shelf.Abstract
import Derived.Test.YtcjekdfncnmbfaaNa0
import Derived.Test.YtcjekdfncnmbfaaNa1
import Derived.Test.YtcjekdfncnmbfaaNa2
import Derived.Test.YtcjekdfncnmbfaaNa3
import Derived.Test.YtcjekdfncnmbfaaProg
import Derived.Test.YtcjekdfncnmbfaaNa4
import Derived.Below
import Derived.CallsIn
import Derived.Carry
import Derived.ChangeSame
import Derived.Deep.Slices
import Derived.DeepKeys4
import Derived.JoinedCond
import Derived.Laws.Cover3
import Derived.Lib.SmallJoins
import Derived.Maps.Keyed
import Derived.Maps.RangeRun
import Derived.OpenShut
import Derived.ProofKit
import Derived.WalkKit
import Derived.WideKeyArgs
import Derived.Test.YtcjekdfncnmbfaaNa10
import Derived.Test.YtcjekdfncnmbfaaNa11
import Derived.Test.YtcjekdfncnmbfaaNa13
import Derived.Test.YtcjekdfncnmbfaaNa16
import Derived.Test.YtcjekdfncnmbfaaNa14
import Derived.Test.YtcjekdfncnmbfaaNa18
import Derived.Test.YtcjekdfncnmbfaaNa15
import Derived.Test.YtcjekdfncnmbfaaNa19
import Derived.Test.YtcjekdfncnmbfaaNa20
import Derived.Test.YtcjekdfncnmbfaaNa21
import Derived.Test.YtcjekdfncnmbfaaNa22
import Derived.Test.YtcjekdfncnmbfaaNa12
import Derived.Test.YtcjekdfncnmbfaaNa17
import Derived.Test.YtcjekdfncnmbfaaNa5
import Derived.Test.YtcjekdfncnmbfaaNa6
import Derived.Test.YtcjekdfncnmbfaaNa7
import Derived.Test.YtcjekdfncnmbfaaNa8
import Derived.Test.YtcjekdfncnmbfaaNa9
import Derived.Test.YtcjekdfncnmbfaaRows
set_option linter.unusedVariables false
set_option linter.unusedSimpArgs false
namespace Go.Fz
open Go.Proofs
theorem en14 : Enters Try.prog 14 := fun args w => Go.Proofs.enters_of Try.func14 (by kernel_rfl) rfl args w
theorem en54 : Enters Try.prog 54 := fun args w => Go.Proofs.enters_of Try.func54 (by kernel_rfl) rfl args w
theorem en55 : Enters Try.prog 55 := fun args w => Go.Proofs.enters_of Try.func55 (by kernel_rfl) rfl args w
end Go.Fz
set_option linter.unusedVariables false
namespace Go.Fz
open Go.Proofs
set_option maxRecDepth 100000
def YardD.someL (y : YardD) (l : List Nat) : YardD := { y with nc := l.length, cb := fun i => y.cb (l.getD i 0), clo := fun i => y.clo (l.getD i 0), chi := fun i => y.chi (l.getD i 0) }
def smC (y : YardD) (l : List Nat) : Nat → Nat → AV := fun i k => clmC y (l.getD i 0) k
theorem smC_below (y : YardD) (l : List Nat) (i k : Nat) : Below 0 (smC y l i k) := clmC_below y _ k
theorem smC_snoc (y : YardD) (l : List Nat) (i : Nat) : flatG 3 (smC y l) l.length ++ [iV (y.cb i), iV (y.clo i), iV (y.chi i)] = flatG 3 (smC y (l ++ [i])) (l.length + 1) := by
  have h1 : flatG 3 (smC y (l ++ [i])) l.length = flatG 3 (smC y l) l.length := flatG_congr fun j k hj => by
    show clmC y ((l ++ [i]).getD j 0) k = clmC y (l.getD j 0) k
    rw [List.getD_eq_getElem?_getD, List.getElem?_append_left hj, ← List.getD_eq_getElem?_getD]
  have h2 : (l ++ [i]).getD l.length 0 = i := by simp
  show _ = flatG 3 (smC y (l ++ [i])) l.length ++ [iV (y.cb ((l ++ [i]).getD l.length 0)), iV (y.clo ((l ++ [i]).getD l.length 0)), iV (y.chi ((l ++ [i]).getD l.length 0))]
  rw [h1, h2]
theorem conv0 {O : Ar} (hO : O = std) {i : Nat} (hi : i < 1000) : 0 ≤ O.conv .u64 (Int.ofNat i) := by
  subst hO
  show 0 ≤ wrp .u64 ((i : Nat) : Int)
  rw [wrp_in (by simp only [IntKind.lo]; omega) (by simp only [IntKind.hi]; omega)]
  omega
set_option maxHeartbeats 8000000 in
theorem some_ok (y : YardD) (o : Int) (hc : y.nc < 1000) : Pure Try.prog 54 [yardV y, iV o] (yardV (y.someL (selL o y.nc))) := by
  obtain ⟨O, hO⟩ : ∃ O : Ar, O = std := ⟨_, rfl⟩
  have hnat : ∀ i : Nat, O.nat (Int.ofNat i) = i := fun i => by subst hO; rfl
  refine pure_of_body tok 4 Try.func54 en54 rfl ⟨yardV_below y, Below.lit, trivial⟩ (yardV_below _) ?_
  refine SW.seqRun tok hO (by cbv <;> rfl) (by trivial) ?_
  refine SW.seqRun tok hO (by cbv <;> rfl) (by trivial) ?_
  refine SW.seqRun tok hO (by cbv <;> rfl) (by trivial) ?_
  refine SW.seq ?_
  refine SW.seqRun tok hO (by cbv <;> rfl) (by trivial) ?_
  refine (SW.block (SW.loopR (fun i : Nat => ⟨⟨33, getT [(1, iV o), (2, .ptr 0 0), (4, .ptr 1 0), (5, .ptr 2 0), (6, iV i)]⟩, []⟩) (fun i => yardS y (bedsV y) (slG 3 3 (selL o i).length) (objG 3 3 (smC y (selL o i)) (selL o i).length) 4) (fun i => y.nc - i) (fun i => i ≤ y.nc) 0 (Nat.zero_le _) (ren1 3 3) ?_ fun i hi => ?_))
  · exact WeakR.up rfl rfl (by simp) (Nat.le_refl _) (.inl rfl) (by show 3 ≤ 4; omega) ⟨RenV.closed Below.lit, RenV.ptr (by omega), RenV.ptr (by omega), RenV.ptr (by omega), RenV.closed Below.lit, trivial⟩ ⟨⟨by omega, _, rfl, .cells (RenVs.closed (AllB.ok ⟨Below.lit, Below.lit, bedsV_below y, Below.lit, trivial⟩)), .inr rfl⟩, ⟨by omega, _, rfl, .cells (RenVs.closed yard0_below), .inr rfl⟩, ⟨by omega, _, rfl, .cells (RenVs.closed (yardC_below y)), .inr rfl⟩, trivial⟩ (fun p hp => by cases hp)
  have hlen := selL_len o i
  have hsn := smC_snoc y (selL o i) i
  have hsu : selL o (i + 1) = if bitB o i then selL o i ++ [i] else selL o i := rfl
  have hc0 := conv0 hO (Nat.lt_of_le_of_lt hi hc)
  have k0 : (0 : Int) ≤ Int.ofNat i := Int.natCast_nonneg i
  have hni := hnat i
  cases hm : (selL o i).length with
  | zero =>
    have hl0 : selL o i = [] := List.length_eq_zero_iff.1 hm
    show SW _ _ _ _ _ (yardS y (bedsV y) nl3 [] 4)
    refine SW.seq ?_
    refine SW.seqRun tok hO (by cbv <;> rfl) (by trivial) ?_
    refine SW.condS (by cbv <;> rfl) (fun h => SW.skip ?_) (fun h => SW.exit ?_)
    · have hlt : i < y.nc := by
        have : (i : Int) < (y.nc : Int) := by subst hO; simpa [std] using h
        omega
      have kN : Int.ofNat i < Int.ofNat y.nc := Int.ofNat_lt.2 hlt
      refine SW.seq (SW.block ?_)
      refine SW.seqRun tok hO (by cbv <;> rfl) (by first | exact ⟨hc0, (by decide : (2 : Int) ≠ 0)⟩ | exact ⟨(by decide : (2 : Int) ≠ 0), hc0⟩) ?_
      refine SW.condS (by cbv <;> rfl) (fun h2 => ?_) (fun h2 => SW.skip ?_)
      · have hb : bitB o i = true := by subst hO; exact h2
        rw [if_pos hb] at hsu
        rw [hl0] at hsn hsu
        refine SW.runD tok mixed hO (by rfl) (by cbv <;> rfl) ?_ ?_
        · exact ⟨k0, kN⟩
        refine AnyE.effK tok hO (by cbv <;> rfl) (by cbv <;> rfl) (by trivial) ?_ ?_
        · exact ⟨by cbv <;> rfl, by cbv <;> rfl, trivial⟩
        refine AnyE.appNil tok (by cbv <;> rfl) (by cbv <;> rfl) (by rfl) (by kernel_rfl) (by rfl) (by rfl) ?_
        refine AnyE.run tok hO (by rfl) (by cbv <;> rfl) (by trivial) ?_
        refine AnyE.eff tok hO (by cbv <;> rfl) (by cbv <;> rfl) (by trivial) ?_
        refine AnyE.done (by rfl) ?_
        refine SW.run tok hO (by cbv <;> rfl) (by trivial) ?_
        refine ⟨i + 1, by omega, by omega, ren1 3 5, ?_⟩
        rw [hsu]
        refine WeakR.up rfl rfl (by simp) (Nat.le_refl _) (.inr (by omega)) (by show 3 ≤ 4; omega) ⟨RenV.closed Below.lit, RenV.ptr (by omega), RenV.ptr (by omega), RenV.ptr (by omega), RenV.inc hO (by omega), trivial⟩ ⟨⟨by omega, _, rfl, .cells (.cons (RenV.closed Below.lit) (.cons (RenV.closed Below.lit) (.cons (RenV.closed (bedsV_below y)) (.cons (RenV.sl (by omega)) .nil)))), .inr rfl⟩, ⟨by omega, _, rfl, .cells (RenVs.closed yard0_below), .inr rfl⟩, ⟨by omega, _, rfl, .cells (RenVs.closed (yardC_below y)), .inr rfl⟩, trivial⟩ (fun p hp => ?_)
        obtain rfl := objG_mem hp
        refine ⟨by omega, _, rfl, .cells (RenVs.of_eq ?_ (flatG_below (smC_below y _) _)), .inl rfl⟩
        refine Eq.trans ?_ hsn
        show [iV (y.cb (O.nat (Int.ofNat i))), iV (y.clo (O.nat (Int.ofNat i))), iV (y.chi (O.nat (Int.ofNat i)))] = [] ++ _
        rw [hni]; rfl
      · have hb : bitB o i = false := by subst hO; exact h2
        rw [if_neg (by rw [hb]; decide)] at hsu
        refine SW.run tok hO (by cbv <;> rfl) (by trivial) ?_
        refine ⟨i + 1, by omega, by omega, ren1 3 3, ?_⟩
        rw [hsu, hl0]
        exact WeakR.up rfl rfl (by simp) (Nat.le_refl _) (.inl rfl) (by show 3 ≤ 4; omega) ⟨RenV.closed Below.lit, RenV.ptr (by omega), RenV.ptr (by omega), RenV.ptr (by omega), RenV.inc hO (by omega), trivial⟩ ⟨⟨by omega, _, rfl, .cells (RenVs.closed (AllB.ok ⟨Below.lit, Below.lit, bedsV_below y, Below.lit, trivial⟩)), .inr rfl⟩, ⟨by omega, _, rfl, .cells (RenVs.closed yard0_below), .inr rfl⟩, ⟨by omega, _, rfl, .cells (RenVs.closed (yardC_below y)), .inr rfl⟩, trivial⟩ (fun p hp => by cases hp)
    · have hz : i = y.nc := by
        have : (y.nc : Int) ≤ (i : Int) := by subst hO; simpa [std] using h
        omega
      refine SW.seqRun tok hO (by cbv <;> rfl) (by trivial) ?_
      refine SW.ret ⟨_, _, rfl, rfl, ?_⟩
      rw [hz] at hl0
      rw [hl0]
      exact Eqv.agg (.cons (Eqv.refl _) (.cons (Eqv.refl _) (.cons (Eqv.refl _) (.cons Eqv.nil .nil))))
  | succ m =>
    obtain ⟨G, hG⟩ : ∃ G, G = flatG 3 (smC y (selL o i)) (m + 1) := ⟨_, rfl⟩
    show SW _ _ _ _ _ (yardS y (bedsV y) (.sl 3 0 (m + 1) 3 false) [(3, .cells none false (flatG 3 (smC y (selL o i)) (m + 1)))] 4)
    rw [← hG]
    refine SW.seq ?_
    refine SW.seqRun tok hO (by cbv <;> rfl) (by trivial) ?_
    refine SW.condS (by cbv <;> rfl) (fun h => SW.skip ?_) (fun h => SW.exit ?_)
    · have hlt : i < y.nc := by
        have : (i : Int) < (y.nc : Int) := by subst hO; simpa [std] using h
        omega
      have kN : Int.ofNat i < Int.ofNat y.nc := Int.ofNat_lt.2 hlt
      refine SW.seq (SW.block ?_)
      refine SW.seqRun tok hO (by cbv <;> rfl) (by first | exact ⟨hc0, (by decide : (2 : Int) ≠ 0)⟩ | exact ⟨(by decide : (2 : Int) ≠ 0), hc0⟩) ?_
      refine SW.condS (by cbv <;> rfl) (fun h2 => ?_) (fun h2 => SW.skip ?_)
      · have hb : bitB o i = true := by subst hO; exact h2
        rw [if_pos hb] at hsu
        rw [hm, ← hG] at hsn
        refine SW.runD tok mixed hO (by rfl) (by cbv <;> rfl) ?_ ?_
        · exact ⟨k0, kN⟩
        refine AnyE.effK tok hO (by cbv <;> rfl) (by cbv <;> rfl) (by trivial) ?_ ?_
        · exact ⟨by cbv <;> rfl, by cbv <;> rfl, trivial⟩
        refine AnyE.appOne (g := smC y (selL o i)) tok (by cbv <;> rfl) (by cbv <;> rfl) (by rfl) (by rfl) hG (by kernel_rfl) (by rfl) (by rfl) (by omega) fun G' hG' => ?_
        refine AnyE.run tok hO (by rfl) (by cbv <;> rfl) (by trivial) ?_
        refine AnyE.eff tok hO (by cbv <;> rfl) (by cbv <;> rfl) (by trivial) ?_
        refine AnyE.done (by rfl) ?_
        refine SW.run tok hO (by cbv <;> rfl) (by trivial) ?_
        refine ⟨i + 1, by omega, by omega, ren1 3 5, ?_⟩
        rw [hsu, List.length_append, List.length_singleton, hm]
        refine WeakR.up rfl rfl (by simp) (Nat.le_refl _) (.inr (by omega)) (by show 3 ≤ 4; omega) ⟨RenV.closed Below.lit, RenV.ptr (by omega), RenV.ptr (by omega), RenV.ptr (by omega), RenV.inc hO (by omega), trivial⟩ ⟨⟨by omega, _, rfl, .cells (.cons (RenV.closed Below.lit) (.cons (RenV.closed Below.lit) (.cons (RenV.closed (bedsV_below y)) (.cons (RenV.sl (by omega)) .nil)))), .inr rfl⟩, ⟨by omega, _, rfl, .cells (RenVs.closed yard0_below), .inr rfl⟩, ⟨by omega, _, rfl, .cells (RenVs.closed (yardC_below y)), .inr rfl⟩, trivial⟩ (fun p hp => ?_)
        obtain rfl := objG_mem hp
        refine ⟨by omega, _, rfl, .cells (RenVs.of_eq ?_ (flatG_below (smC_below y _) _)), .inl rfl⟩
        refine Eq.trans ?_ hsn
        refine hG'.trans ?_
        rw [← hG]
        show G ++ [iV (y.cb (O.nat (Int.ofNat i))), iV (y.clo (O.nat (Int.ofNat i))), iV (y.chi (O.nat (Int.ofNat i)))] = _
        rw [hni]
      · have hb : bitB o i = false := by subst hO; exact h2
        rw [if_neg (by rw [hb]; decide)] at hsu
        refine SW.run tok hO (by cbv <;> rfl) (by trivial) ?_
        refine ⟨i + 1, by omega, by omega, ren1 3 3, ?_⟩
        rw [hsu, hm]
        refine WeakR.up rfl rfl (by simp) (Nat.le_refl _) (.inl rfl) (by show 3 ≤ 4; omega) ⟨RenV.closed Below.lit, RenV.ptr (by omega), RenV.ptr (by omega), RenV.ptr (by omega), RenV.inc hO (by omega), trivial⟩ ⟨⟨by omega, _, rfl, .cells (.cons (RenV.closed Below.lit) (.cons (RenV.closed Below.lit) (.cons (RenV.closed (bedsV_below y)) (.cons (RenV.sl (by omega)) .nil)))), .inr rfl⟩, ⟨by omega, _, rfl, .cells (RenVs.closed yard0_below), .inr rfl⟩, ⟨by omega, _, rfl, .cells (RenVs.closed (yardC_below y)), .inr rfl⟩, trivial⟩ (fun p hp => ?_)
        obtain rfl := objG_mem hp
        exact ⟨by omega, _, rfl, .cells (RenVs.of_eq hG (flatG_below (smC_below y _) _)), .inl rfl⟩
    · have hz : i = y.nc := by
        have : (y.nc : Int) ≤ (i : Int) := by subst hO; simpa [std] using h
        omega
      refine SW.seqRun tok hO (by cbv <;> rfl) (by trivial) ?_
      have hlG : (m + 1) * 3 ≤ G.length := by rw [hG, flatG_length]; omega
      refine SW.ret ⟨_, _, rfl, rfl, ?_⟩
      rw [hz] at hm hG
      refine Eqv.agg (.cons (Eqv.refl _) (.cons (Eqv.refl _) (.cons (Eqv.refl _) (.cons ?_ .nil))))
      show Eqv (frz _ _ _ (.sl 3 0 (m + 1) 3 false)) (.isl (selL o y.nc).length 3 false _)
      rw [frz_slE (fm := none) (G := G) rfl rfl hlG, hm]
      refine Eqv.isl rfl fun j k hj hk => Eqv.of ?_
      rw [hG, frz_flat hj hk (by unfold smC clmC; split <;> rfl)]
      rfl
end Go.Fz
set_option linter.unusedVariables false
namespace Go.Fz
open Go.Proofs
set_option maxRecDepth 100000
theorem foldS_someL {α : Type} (y : YardD) (l : List Nat) (next : α → (Nat → Int) → α) : ∀ (L P : List Nat) (f : Nat → Int) (a : α), foldS (y.someL l) next L P f a = foldS y next L P f a
  | [], _, _, _ => rfl
  | b :: L, P, f, a => by
    show foldV (fun v a => if y.okAt P f b v = true then foldS (y.someL l) next L (P ++ [b]) (setI f b v) a else a) (y.blo b) (y.bhi b - y.blo b + 1).toNat a = foldV (fun v a => if y.okAt P f b v = true then foldS y next L (P ++ [b]) (setI f b v) a else a) (y.blo b) (y.bhi b - y.blo b + 1).toNat a
    have : (fun v a => if y.okAt P f b v = true then foldS (y.someL l) next L (P ++ [b]) (setI f b v) a else a) = (fun v a => if y.okAt P f b v = true then foldS y next L (P ++ [b]) (setI f b v) a else a) := by
      funext v a
      rw [foldS_someL y l next L]
    rw [this]
theorem someL_allS (y : YardD) (l : List Nat) : (y.someL l).allS = y.allS := foldS_someL y l _ _ _ _ _
theorem someL_check {y : YardD} (hc : y.check = 0) {l : List Nat} (hl : ∀ p ∈ l, p < y.nc) (h5 : l.length ≤ 5) : (y.someL l).check = 0 := by
  unfold YardD.check at hc
  split at hc
  · omega
  · rename_i h1
    split at hc
    · rename_i h2
      split at hc
      · omega
      · rename_i h3
        have k1 : (y.someL l).long = false := by
          simp only [YardD.long, Bool.or_eq_true, decide_eq_true_eq, not_or] at h1
          obtain ⟨⟨⟨a1, a2⟩, a3⟩, a4⟩ := h1
          show (decide (9 < y.last) || decide (3 < y.hands) || decide (6 < y.nb) || decide (5 < l.length)) = false
          rw [decide_eq_false a1, decide_eq_false a2, decide_eq_false a3, decide_eq_false (by omega)]; rfl
        have k2 : (y.someL l).validB = true := by
          simp only [YardD.validB, Bool.and_eq_true] at h2
          obtain ⟨⟨⟨a1, a2⟩, a3⟩, a4⟩ := h2
          show (decide (0 ≤ y.last) && decide (1 ≤ y.hands) && allN y.nb y.bedOk && allN l.length (fun i => y.clmOk (l.getD i 0))) = true
          have a5 : allN l.length (fun i => y.clmOk (l.getD i 0)) = true := decide_eq_true fun i hi => by
            have e : l.getD i 0 = l[i] := by rw [List.getD_eq_getElem?_getD, List.getElem?_eq_getElem hi]; rfl
            show y.clmOk (l.getD i 0) = true
            rw [e]
            exact of_decide_eq_true a4 _ (hl _ (List.getElem_mem hi))
          rw [a1, a2, a3, a5]; rfl
        unfold YardD.check
        rw [k1, k2, if_neg (by simp), if_pos rfl]
        exact if_neg h3
    · omega
theorem not_bad {y : YardD} {f : Nat → Int} : y.badB f = false ↔ ∀ p, p < y.nc → y.rgt f p = true := by
  unfold YardD.badB
  rw [decide_eq_false_iff_not, Nat.not_lt, Nat.le_zero, List.length_eq_zero_iff]
  unfold YardD.wrN
  rw [List.filter_eq_nil_iff]
  constructor
  · intro h p hp
    have := h p (List.mem_range.2 hp)
    simpa using this
  · intro h p hp
    have := h p (List.mem_range.1 hp)
    simp [this]
theorem someL_kept {y : YardD} {l : List Nat} : (y.someL l).kept ≠ [] ↔ ∃ f ∈ y.allS, ∀ p ∈ l, y.rgt f p = true := by
  unfold YardD.kept kpS
  rw [someL_allS, Ne, List.filter_eq_nil_iff]
  constructor
  · intro h
    apply Classical.byContradiction
    intro hn
    apply h
    intro f hf hb
    apply hn
    have hb : (y.someL l).badB f = false := by simpa using hb
    refine ⟨f, hf, fun p hp => ?_⟩
    obtain ⟨i, hi, rfl⟩ := List.getElem_of_mem hp
    have := not_bad.1 hb i hi
    have e : l.getD i 0 = l[i] := by rw [List.getD_eq_getElem?_getD, List.getElem?_eq_getElem hi]; rfl
    rw [← e]
    exact this
  · rintro ⟨f, hf, hp⟩ h
    have := h f hf
    have hb : (y.someL l).badB f = false := not_bad.2 fun i hi => by
      have hi' : i < l.length := hi
      have e : l.getD i 0 = l[i] := by rw [List.getD_eq_getElem?_getD, List.getElem?_eq_getElem hi']; rfl
      show y.rgt f (l.getD i 0) = true
      rw [e]
      exact hp _ (List.getElem_mem hi')
    rw [hb] at this
    simp at this
theorem someL_show {y : YardD} (hc : y.check = 0) (hs : y.allS ≠ []) {l : List Nat} (hl : ∀ p ∈ l, p < y.nc) (h5 : l.length ≤ 5) : ((∃ f ∈ y.allS, ∀ p ∈ l, y.rgt f p = true) → (y.someL l).ownE true = 0) ∧ ((¬ ∃ f ∈ y.allS, ∀ p ∈ l, y.rgt f p = true) → (y.someL l).ownE true = 9) := by
  have ha : (y.someL l).anyE true = 0 := by
    unfold YardD.anyE
    rw [if_neg (by simp [someL_check hc hl h5]), if_neg (by simp), if_neg (by rw [someL_allS]; exact hs)]
  refine ⟨fun h => ?_, fun h => ?_⟩
  · have := someL_kept.2 h
    unfold YardD.ownE
    rw [if_neg (by simp [ha]), if_neg this]
  · have := mt someL_kept.1 h
    unfold YardD.ownE
    rw [if_neg (by simp [ha]), if_pos (Classical.not_not.1 this)]
theorem mem_wrN {y : YardD} {f : Nat → Int} {n p : Nat} : p ∈ y.wrN f n ↔ p < n ∧ y.rgt f p = false := by
  unfold YardD.wrN
  rw [List.mem_filter, List.mem_range]
  simp
end Go.Fz
set_option linter.unusedVariables false
namespace Go.Fz
open Go.Proofs
set_option maxRecDepth 100000
theorem full55_ok (y : YardD) (hn : y.nc < 1000000) : Pure Try.prog 55 [yardV y] (iV (allI y.nc)) := by
  obtain ⟨O, hO⟩ : ∃ O : Ar, O = std := ⟨_, rfl⟩
  refine pure_of_body tok 3 Try.func55 en55 rfl ⟨yardV_below y, trivial⟩ Below.lit ?_
  refine SW.seqRun tok hO (by cbv <;> rfl) (by trivial) ?_
  refine SW.seqRun tok hO (by cbv <;> rfl) (by exact conv_nn hO hn) ?_
  refine SW.ret ⟨_, _, rfl, rfl, Eqv.int ?_⟩
  subst hO; rfl
theorem memGetD {l : List Nat} {p : Nat} : p ∈ l ↔ ∃ j, j < l.length ∧ l.getD j 0 = p := by
  constructor
  · intro h
    obtain ⟨j, hj, rfl⟩ := List.getElem_of_mem h
    exact ⟨j, hj, by rw [List.getD_eq_getElem?_getD, List.getElem?_eq_getElem hj]; rfl⟩
  · rintro ⟨j, hj, rfl⟩
    rw [List.getD_eq_getElem?_getD, List.getElem?_eq_getElem hj]
    exact List.getElem_mem hj
theorem hasN_iff {l : List Nat} {p : Nat} : hasN l.length (fun j => ((l.getD j 0 : Nat) : Int)) (p : Int) = true ↔ p ∈ l := by
  unfold hasN
  rw [decide_eq_true_eq, memGetD]
  constructor
  · rintro ⟨j, hj, h⟩
    exact ⟨j, hj, Int.ofNat_inj.1 h⟩
  · rintro ⟨j, hj, h⟩
    exact ⟨j, hj, congrArg Int.ofNat h⟩
theorem wrB_iff {y : YardD} {f : Nat → Int} {l : List Nat} : y.wrB f l = true ↔ ∀ p, p < y.nc → y.rgt f p = false → p ∈ l := by
  unfold YardD.wrB subB allN
  rw [decide_eq_true_eq]
  constructor
  · intro h p hp hr
    obtain ⟨j, hj, e⟩ := memGetD.1 (mem_wrN.2 ⟨hp, hr⟩)
    have := h j hj
    simp only [e] at this
    exact hasN_iff.1 this
  · intro h j hj
    have hm : (y.wrN f y.nc).getD j 0 ∈ y.wrN f y.nc := memGetD.2 ⟨j, hj, rfl⟩
    have := mem_wrN.1 hm
    exact hasN_iff.2 (h _ this.1 this.2)
def coL (nc : Nat) (l : List Nat) : List Nat := (List.range nc).filter fun p => !l.contains p
theorem mem_coL {nc : Nat} {l : List Nat} {p : Nat} : p ∈ coL nc l ↔ p < nc ∧ p ∉ l := by
  unfold coL
  rw [List.mem_filter, List.mem_range]
  simp
theorem coL_small {y : YardD} (h5 : y.nc ≤ 5) (l : List Nat) : (∀ p ∈ coL y.nc l, p < y.nc) ∧ (coL y.nc l).length ≤ 5 := by
  refine ⟨fun p hp => (mem_coL.1 hp).1, ?_⟩
  have : (coL y.nc l).length ≤ (List.range y.nc).length := List.length_filter_le _ _
  rw [List.length_range] at this
  omega
theorem co_wr {y : YardD} {f : Nat → Int} {l : List Nat} : (∀ p ∈ coL y.nc l, y.rgt f p = true) ↔ y.wrB f l = true := by
  rw [wrB_iff]
  constructor
  · intro h p hp hr
    apply Classical.byContradiction
    intro hn
    rw [h p (mem_coL.2 ⟨hp, hn⟩)] at hr
    cases hr
  · intro h p hp
    obtain ⟨h1, h2⟩ := mem_coL.1 hp
    cases hr : y.rgt f p with
    | true => rfl
    | false => exact absurd (h p h1 hr) h2
theorem lvB_iff {y : YardD} {S : List (Nat → Int)} {l : List Nat} : y.lvB S l = true ↔ ∃ f ∈ S, ∀ p ∈ coL y.nc l, y.rgt f p = true := by
  unfold YardD.lvB
  rw [List.any_eq_true]
  constructor
  · rintro ⟨f, hf, h⟩; exact ⟨f, hf, co_wr.2 h⟩
  · rintro ⟨f, hf, h⟩; exact ⟨f, hf, co_wr.1 h⟩
theorem co_fin5 : ∀ nc : Fin 6, ∀ l ∈ risL nc.1, selL (std.bin .sub .i64 (allI nc.1) (mskL l)) nc.1 = coL nc.1 l := by decide +kernel
theorem cob_fin5 : ∀ (nc : Fin 6) (o : Fin 64), o.1 < 2 ^ nc.1 → selL (std.bin .sub .i64 (allI nc.1) (o.1 : Int)) nc.1 = coL nc.1 (selL (o.1 : Int) 6) := by decide +kernel
theorem rng_ris5 : ∀ nc : Fin 6, List.range nc.1 ∈ risL nc.1 := by decide +kernel
theorem left_sees {y : YardD} (hc : y.check = 0) {t : Int} (t0 : 0 ≤ t) (t1 : t < 2 ^ y.nc) : y.anyE true = 10 ∨ ∃ l, y.anyE true = 0 ∧ y.nc ≤ 5 ∧ l ∈ risL y.nc ∧ y.lveV = lsV l ∧
    (y.someL (selL (std.bin .sub .i64 (allI y.nc) (mskL l)) y.nc)).ownE true = 0 ∧
    ((y.someL (selL (std.bin .sub .i64 (allI y.nc) t) y.nc)).ownE true = 9 ∨ ((y.someL (selL (std.bin .sub .i64 (allI y.nc) t) y.nc)).ownE true = 0 ∧ shL (selL t 6) l = false)) := by
  have h5 := (y.fit_of_check hc).2.2.2.2.2.1
  by_cases hs : y.allS = []
  · refine .inl ?_
    unfold YardD.anyE
    rw [if_neg (by simp [hc]), if_neg (by simp), if_pos hs]
  · have ha : y.anyE true = 0 := by
      unfold YardD.anyE
      rw [if_neg (by simp [hc]), if_neg (by simp), if_neg hs]
    refine .inr ?_
    cases hf : (risL y.nc).find? (fun l => y.lvB y.allS l) with
    | none =>
      exfalso
      have h1 := List.find?_eq_none.1 hf _ (rng_ris5 ⟨y.nc, by omega⟩)
      apply h1
      simp only
      obtain ⟨f, hf⟩ := List.exists_mem_of_ne_nil _ hs
      refine lvB_iff.2 ⟨f, hf, fun p hp => ?_⟩
      obtain ⟨h2, h3⟩ := mem_coL.1 hp
      exact absurd (List.mem_range.2 h2) h3
    | some l =>
      obtain ⟨h1, pre, post, h2, h3⟩ := List.find?_eq_some_iff_append.1 hf
      have hl : l ∈ risL y.nc := by rw [h2]; simp
      refine ⟨l, ha, h5, hl, ?_, ?_, ?_⟩
      · unfold YardD.lveV
        rw [if_pos ha, hf]
      · rw [co_fin5 ⟨y.nc, by omega⟩ l hl]
        exact (someL_show hc hs (coL_small h5 l).1 (coL_small h5 l).2).1 (lvB_iff.1 h1)
      · have h64 := pow_le6 (show y.nc ≤ 6 by omega)
        have et : ((t.toNat : Nat) : Int) = t := by omega
        have hlt : t.toNat < 2 ^ y.nc := by
          have : ((t.toNat : Nat) : Int) < ((2 ^ y.nc : Nat) : Int) := by rw [et]; exact_mod_cast t1
          exact_mod_cast this
        have hco := cob_fin5 ⟨y.nc, by omega⟩ ⟨t.toNat, by omega⟩ hlt
        have hri := oth_fin6 ⟨y.nc, by omega⟩ ⟨t.toNat, by omega⟩ hlt
        simp only [et] at hco hri
        rw [hco]
        obtain ⟨s1, s2⟩ := someL_show hc hs (coL_small h5 (selL t 6)).1 (coL_small h5 (selL t 6)).2
        by_cases hx : ∃ f ∈ y.allS, ∀ p ∈ coL y.nc (selL t 6), y.rgt f p = true
        · refine .inr ⟨s1 hx, ?_⟩
          cases hh : shL (selL t 6) l with
          | false => rfl
          | true =>
            have := h3 _ (ris_before6 (by omega) h2 hri hh)
            rw [lvB_iff.2 hx] at this
            cases this
        · exact .inl (s2 hx)
end Go.Fz
set_option linter.unusedVariables false
namespace Go.Fz
open Go.Proofs
set_option maxRecDepth 100000
def trueQ2 (fn : Func) : Exit → Fm → St → Prop := retQ T fn (fun v st' => Eqv (frz st'.h (fun _ => true) 3 v) (.lit (.bool true)))
set_option maxHeartbeats 8000000 in
theorem cl_tail (haw : Pure Try.prog 18 [] (.lit (.bool true))) (y : YardD) (b M A : Int) (N : Nat) (FL : Nat → Int) (G : Int) (n1 n2 : Nat) (f1 f2 : Nat → Int) (Y1 Y2 LT : AV) (e55 : Pure Try.prog 55 [yardV y] (iV A))
    (a54 : Pure Try.prog 54 [yardV y, iV (std.bin .sub .i64 A M)] Y1) (a20 : Pure Try.prog 20 [Y1] Y1) (a19 : Pure Try.prog 19 [Y1] (.tup [intsV n1 false f1, iV 0]))
    (b54 : Pure Try.prog 54 [yardV y, iV (std.bin .sub .i64 A (std.bin .and .i64 (std.conv .i64 b) A))] Y2) (b20 : Pure Try.prog 20 [Y2] Y2) (b19 : Pure Try.prog 19 [Y2] (.tup [intsV n2 false f2, iV G]))
    (e52 : Pure Try.prog 52 [iV (std.bin .and .i64 (std.conv .i64 b) A)] LT) (hG : G = 9 ∨ (G = 0 ∧ Pure Try.prog 53 [LT, intsV N false FL] (.sb false)))
    (gg : Nat → AV) (h : AllP (fun p => gg p.1 = p.2) [(1, .lit (.int .u8 b)), (2, .ptr 0 0), (5, intsV N false FL), (7, iV M)]) :
    SW Try.prog none (restC 6 (bodyF Try.f14)) (trueQ2 Try.f14) ⟨⟨118, gg⟩, []⟩ ⟨[(0, .cells none false (yardC y))], 1⟩ := by
  obtain ⟨O, hO⟩ : ∃ O : Ar, O = std := ⟨_, rfl⟩
  obtain ⟨g1, g2, g3, g4, _⟩ := h
  simp only at g1 g2 g3 g4
  rw [← updT_self g1, ← updT_self g2, ← updT_self g3, ← updT_self g4]
  rw [← hO] at a54 b54 e52
  refine (show SW Try.prog none (.seq (.region _ _ _) _) _ _ _ from ?_)
  refine SW.seqRun tok hO (by cbv <;> rfl) (by trivial) ?_
  refine OpsW.callP e55 (by cbv <;> rfl) ?_
  refine OpsW.run tok hO (by cbv <;> rfl) (by trivial) ?_
  refine SW.seqRunD tok mixed hO (by kernel_rfl) (by cbv <;> rfl) (by trivial) ?_
  refine AnyE.callP e55 (by cbv <;> rfl) (by cbv <;> rfl) ?_
  refine AnyE.run tok hO (by kernel_rfl) (by cbv <;> rfl) (by trivial) ?_
  refine AnyE.callP a54 (by cbv <;> rfl) (by cbv <;> rfl) ?_
  refine AnyE.run tok hO (by kernel_rfl) (by cbv <;> rfl) (by trivial) ?_
  refine AnyE.callP a20 (by cbv <;> rfl) (by cbv <;> rfl) ?_
  refine AnyE.run tok hO (by kernel_rfl) (by cbv <;> rfl) (by trivial) ?_
  refine AnyE.callP a19 (by cbv <;> rfl) (by cbv <;> rfl) ?_
  refine AnyE.run tok hO (by kernel_rfl) (by cbv <;> rfl) (by trivial) ?_
  refine SW.seqRunD tok mixed hO (by kernel_rfl) (by cbv <;> rfl) (by trivial) ?_
  refine AnyE.callP e55 (by cbv <;> rfl) (by cbv <;> rfl) ?_
  refine AnyE.run tok hO (by kernel_rfl) (by cbv <;> rfl) (by trivial) ?_
  refine AnyE.callP b54 (by cbv <;> rfl) (by cbv <;> rfl) ?_
  refine AnyE.run tok hO (by kernel_rfl) (by cbv <;> rfl) (by trivial) ?_
  refine AnyE.callP b20 (by cbv <;> rfl) (by cbv <;> rfl) ?_
  refine AnyE.run tok hO (by kernel_rfl) (by cbv <;> rfl) (by trivial) ?_
  refine AnyE.callP b19 (by cbv <;> rfl) (by cbv <;> rfl) ?_
  refine AnyE.run tok hO (by kernel_rfl) (by cbv <;> rfl) (by trivial) ?_
  refine SW.seqRun tok hO (by cbv <;> rfl) (by trivial) ?_
  refine OpsW.splitG (by cbv <;> rfl) (fun h => ?_) (fun h => by subst hO; simp [std] at h)
  refine OpsW.run tok hO (by cbv <;> rfl) (by trivial) ?_
  rcases hG with hG | ⟨hG, e53⟩
  · refine OpsW.splitG (by cbv <;> rfl) (fun h => ?_) (fun h => by subst hO; simp [std, hG] at h)
    refine OpsW.run tok hO (by cbv <;> rfl) (by trivial) ?_
    refine OpsW.callP haw (by cbv <;> rfl) ?_
    refine OpsW.run tok hO (by cbv <;> rfl) (by trivial) ?_
    exact SW.ret ⟨_, _, rfl, rfl, Eqv.of rfl⟩
  · refine OpsW.splitG (by cbv <;> rfl) (fun h => by subst hO; simp [std, hG] at h) (fun h => ?_)
    refine OpsW.run tok hO (by cbv <;> rfl) (by trivial) ?_
    refine OpsW.splitG (by cbv <;> rfl) (fun h => ?_) (fun h => by subst hO; simp [std, hG] at h)
    refine OpsW.run tok hO (by cbv <;> rfl) (by trivial) ?_
    refine OpsW.callP e52 (by cbv <;> rfl) ?_
    refine OpsW.run tok hO (by cbv <;> rfl) (by trivial) ?_
    refine OpsW.callP e53 (by cbv <;> rfl) ?_
    refine OpsW.run tok hO (by cbv <;> rfl) (by trivial) ?_
    refine OpsW.splitG (by cbv <;> rfl) (fun h => ?_) (fun h => nomatch (show true = false from (by rw [hO] at h; exact h)))
    refine OpsW.run tok hO (by cbv <;> rfl) (by trivial) ?_
    refine OpsW.callP haw (by cbv <;> rfl) ?_
    refine OpsW.run tok hO (by cbv <;> rfl) (by trivial) ?_
    exact SW.ret ⟨_, _, rfl, rfl, Eqv.of rfl⟩
end Go.Fz
set_option linter.unusedVariables false
namespace Go.Fz
open Go.Proofs
set_option maxRecDepth 100000
set_option maxHeartbeats 8000000 in
theorem cl_loop (y : YardD) (hnc : y.nc ≤ 5) (b : Int) (M : Nat → Int) (N : Nat) (FL : Nat → Int) (hN : N < 1000) (hM0 : M 0 = 0) (hMs : ∀ i, i < N → M (i + 1) = std.bin .or .i64 (M i) (std.bin .shl .i64 1 (std.conv .u64 (FL i))))
    (hlI : ∀ i, i < N → 0 ≤ FL i ∧ FL i < y.nc ∧ (0 < i → FL (i - 1) < FL i))
    (htail : ∀ (gg : Nat → AV), AllP (fun p => gg p.1 = p.2) [(1, .lit (.int .u8 b)), (2, .ptr 0 0), (5, intsV N false FL), (7, iV (M N))] → SW Try.prog none (restC 6 (bodyF Try.f14)) (trueQ2 Try.f14) ⟨⟨118, gg⟩, []⟩ ⟨[(0, .cells none false (yardC y))], 1⟩)
    (gg : Nat → AV) (h : AllP (fun p => gg p.1 = p.2) [(1, .lit (.int .u8 b)), (2, .ptr 0 0), (5, intsV N false FL), (7, iV 0)]) :
    SW Try.prog none (restC 5 (bodyF Try.f14)) (trueQ2 Try.f14) ⟨⟨118, gg⟩, []⟩ ⟨[(0, .cells none false (yardC y))], 1⟩ := by
  obtain ⟨O, hO⟩ : ∃ O : Ar, O = std := ⟨_, rfl⟩
  obtain ⟨g1, g2, g3, g4, _⟩ := h
  simp only at g1 g2 g3 g4
  rw [← updT_self g1, ← updT_self g2, ← updT_self g3, ← updT_self g4]
  have hnat : ∀ i : Nat, O.nat (Int.ofNat i) = i := fun i => by subst hO; rfl
  rw [← hO] at hMs
  have hconv : ∀ i, i < N → 0 ≤ O.conv .u64 (FL i) := fun i hi => by
    have := hlI i hi
    subst hO
    show 0 ≤ wrp .u64 (FL i)
    rw [wrp_in (by simp only [IntKind.lo]; omega) (by simp only [IntKind.hi]; omega)]
    omega
  have hsub : O.bin .sub .i64 (Int.ofNat y.nc) 1 = (y.nc : Int) - 1 := sub1N hO (by omega)
  refine (show SW Try.prog none (.seq (.seq (.region _ _ _) _) _) _ _ _ from ?_)
  refine SW.seq ?_
  refine SW.seqRun tok hO (by cbv <;> rfl) (by trivial) ?_
  refine (SW.block (SW.loopF (fun i : Nat => ⟨⟨118, getT [(1, .lit (.int .u8 b)), (2, .ptr 0 0), (5, intsV N false FL), (7, iV (M i)), (8, iV i)]⟩, []⟩) (fun _ => ⟨[(0, .cells none false (yardC y))], 1⟩) (fun i => N - i) (fun i => i ≤ N) 0
    (fun _ => rfl) (Nat.zero_le _) (Weak.by rfl rfl (by simp) (Nat.le_refl _) (Nat.le_refl _) ⟨⟨rfl, .inl rfl⟩, ⟨rfl, .inl rfl⟩, ⟨rfl, .inl rfl⟩, ⟨by show iV 0 = iV (M 0); rw [hM0], .inl rfl⟩, ⟨rfl, .inl rfl⟩, trivial⟩ ⟨⟨rfl, by omega, .inl rfl⟩, trivial⟩) fun i hi => ?_))
  have hMi := hMs i
  obtain ⟨m, hm⟩ : ∃ m, M i = m := ⟨_, rfl⟩
  rw [hm] at hMi
  show SW _ _ _ _ ⟨⟨118, getT [(1, .lit (.int .u8 b)), (2, .ptr 0 0), (5, intsV N false FL), (7, iV (M i)), (8, iV i)]⟩, []⟩ _
  rw [hm]
  have hni : O.nat (Int.ofNat i) = i := hnat i
  refine SW.seq ?_
  refine SW.seqRun tok hO (by cbv <;> rfl) (by trivial) ?_
  refine SW.condS (by cbv <;> rfl) (fun h => SW.skip ?_) (fun h => SW.exit ?_)
  · have hlt : i < N := by
      have : (i : Int) < (N : Int) := by subst hO; simpa [std] using h
      omega
    obtain ⟨k1, k2, k3⟩ := hlI i hlt
    have k0 : (0 : Int) ≤ Int.ofNat i := Int.natCast_nonneg i
    have kN : Int.ofNat i < Int.ofNat N := Int.ofNat_lt.2 hlt
    refine SW.seq (SW.block ?_)
    refine SW.seq ?_
    refine SW.seqRunD tok mixed hO (by kernel_rfl) (by cbv <;> rfl) ?_ ?_
    · exact ⟨k0, kN⟩
    refine AnyE.callD (in_ok (FL (O.nat (Int.ofNat i))) 0 (O.bin .sub .i64 (Int.ofNat y.nc) 1)) (by cbv <;> rfl) (by cbv <;> rfl) (fun h3 => ?_) (fun h3 => ?_)
    rotate_left
    · exfalso
      rw [hni, hsub] at h3
      unfold inB at h3
      rw [Bool.and_eq_false_iff, decide_eq_false_iff_not, decide_eq_false_iff_not] at h3
      omega
    refine AnyE.run tok hO (by kernel_rfl) (by cbv <;> rfl) (by trivial) ?_
    have hbig : i < 4611686018427387904 := Nat.lt_trans hlt (Nat.lt_trans hN (by decide))
    have hcv : 0 ≤ O.conv .u64 (FL (O.nat (Int.ofNat i))) := by rw [hni]; exact hconv i hlt
    have hnext : ∀ (f' : Fm) (st' : St), Weak 1 f' st' ⟨⟨118, getT [(1, .lit (.int .u8 b)), (2, .ptr 0 0), (5, intsV N false FL), (7, iV (M (i + 1))), (8, iV ((i + 1 : Nat) : Int))]⟩, []⟩ ⟨[(0, .cells none false (yardC y))], 1⟩ → ∃ x', N - x' < N - i ∧ x' ≤ N ∧ Weak 1 f' st' ⟨⟨118, getT [(1, .lit (.int .u8 b)), (2, .ptr 0 0), (5, intsV N false FL), (7, iV (M x')), (8, iV (x' : Nat))]⟩, []⟩ ⟨[(0, .cells none false (yardC y))], 1⟩ := fun f' st' h => ⟨i + 1, by omega, by omega, h⟩
    have hMi2 : M (i + 1) = O.bin .or .i64 m (O.bin .shl .i64 1 (O.conv .u64 (FL (O.nat (Int.ofNat i))))) := by rw [hni]; exact hMi hlt
    refine AnyE.dec tok hO (by kernel_rfl) (by cbv <;> rfl) (by trivial) (fun h4 => ?_) (fun h4 => ?_)
    · have hi0 : 0 < i := gtr0 hO h4
      have hq := sub1_rng hO (Nat.lt_trans hlt hN) hi0 hlt
      have hns := natsub1 hO (Nat.lt_trans hlt hN) hi0
      have k3 := k3 hi0
      refine AnyE.run tok hO (by kernel_rfl) (by cbv <;> rfl) ?_ ?_
      · exact ⟨hq, ⟨k0, kN⟩⟩
      refine AnyE.dec tok hO (by kernel_rfl) (by cbv <;> rfl) (by trivial) (fun h5 => ?_) (fun h5 => ?_)
      · exfalso
        have h6 : O.cmp .leq (FL (O.nat (Int.ofNat i))) (FL (O.nat (O.bin .sub .i64 (Int.ofNat i) 1))) = true := h5
        rw [hni, hns] at h6
        exact leq_no hO h6 k3
      · refine AnyE.run tok hO (by kernel_rfl) (by cbv <;> rfl) (by trivial) ?_
        refine SW.cond (t := false) (by cbv <;> rfl) (SW.skip ?_)
        refine SW.run tok hO (by cbv <;> rfl) ?_ ?_
        · exact ⟨hcv, ⟨k0, kN⟩⟩
        refine SW.run tok hO (by cbv <;> rfl) (by trivial) ?_
        refine hnext _ _ ?_
        rw [hMi2]
        exact Weak.by rfl rfl (by simp) (Nat.le_refl _) (Nat.le_refl _) ⟨⟨rfl, .inl rfl⟩, ⟨rfl, .inl rfl⟩, ⟨rfl, .inl rfl⟩, ⟨rfl, .inl rfl⟩, ⟨inc_ok hO hbig, .inl rfl⟩, trivial⟩ ⟨⟨rfl, Nat.zero_lt_one, .inl rfl⟩, trivial⟩
    · refine AnyE.run tok hO (by kernel_rfl) (by cbv <;> rfl) (by trivial) ?_
      refine SW.cond (t := false) (by cbv <;> rfl) (SW.skip ?_)
      refine SW.run tok hO (by cbv <;> rfl) ?_ ?_
      · exact ⟨hcv, ⟨k0, kN⟩⟩
      refine SW.run tok hO (by cbv <;> rfl) (by trivial) ?_
      refine hnext _ _ ?_
      rw [hMi2]
      exact Weak.by rfl rfl (by simp) (Nat.le_refl _) (Nat.le_refl _) ⟨⟨rfl, .inl rfl⟩, ⟨rfl, .inl rfl⟩, ⟨rfl, .inl rfl⟩, ⟨rfl, .inl rfl⟩, ⟨inc_ok hO hbig, .inl rfl⟩, trivial⟩ ⟨⟨rfl, Nat.zero_lt_one, .inl rfl⟩, trivial⟩
  · have hz : i = N := by
      have : (N : Int) ≤ (i : Int) := by subst hO; simpa [std] using h
      omega
    subst hz
    rw [← hm]
    exact htail _ ⟨rfl, rfl, rfl, rfl, trivial⟩
set_option maxHeartbeats 8000000 in
theorem cl_not (haw : Pure Try.prog 18 [] (.lit (.bool true))) (y : YardD) (b : Int) (e45 : Pure Try.prog 45 [yardV y] (.sb false)) : Pure Try.prog 14 [yardV y, .lit (.int .u8 b)] (.lit (.bool true)) := by
  obtain ⟨O, hO⟩ : ∃ O : Ar, O = std := ⟨_, rfl⟩
  refine pure_of_body tok 3 Try.func14 en14 rfl ⟨yardV_below y, Below.lit, trivial⟩ Below.lit ?_
  refine SW.seqRun tok hO (by cbv <;> rfl) (by trivial) ?_
  refine SW.seq ?_
  refine SW.seqRun tok hO (by cbv <;> rfl) (by trivial) ?_
  refine OpsW.callP e45 (by cbv <;> rfl) ?_
  refine OpsW.run tok hO (by cbv <;> rfl) (by trivial) ?_
  refine SW.condS (by cbv <;> rfl) (fun h => ?_) (fun h => by subst hO; cases h)
  refine SW.seqRun tok hO (by cbv <;> rfl) (by trivial) ?_
  refine OpsW.callP haw (by cbv <;> rfl) ?_
  refine OpsW.run tok hO (by cbv <;> rfl) (by trivial) ?_
  exact SW.ret ⟨_, _, rfl, rfl, Eqv.of rfl⟩
set_option maxHeartbeats 8000000 in
theorem cl_err (haw : Pure Try.prog 18 [] (.lit (.bool true))) (y : YardD) (b : Int) (LV : AV) (e45 : Pure Try.prog 45 [yardV y] (.sb true)) (e20 : Pure Try.prog 20 [yardV y] (yardV y)) (e41 : Pure Try.prog 41 [yardV y] (.tup [LV, iV 10])) : Pure Try.prog 14 [yardV y, .lit (.int .u8 b)] (.lit (.bool true)) := by
  obtain ⟨O, hO⟩ : ∃ O : Ar, O = std := ⟨_, rfl⟩
  refine pure_of_body tok 3 Try.func14 en14 rfl ⟨yardV_below y, Below.lit, trivial⟩ Below.lit ?_
  refine SW.seqRun tok hO (by cbv <;> rfl) (by trivial) ?_
  refine SW.seq ?_
  refine SW.seqRun tok hO (by cbv <;> rfl) (by trivial) ?_
  refine OpsW.callP e45 (by cbv <;> rfl) ?_
  refine OpsW.run tok hO (by cbv <;> rfl) (by trivial) ?_
  refine SW.condS (by cbv <;> rfl) (fun h => nomatch (show false = true from (by rw [hO] at h; exact h))) (fun h => SW.skip ?_)
  refine SW.seqRun tok hO (by cbv <;> rfl) (by trivial) ?_
  refine OpsW.callP e20 (by cbv <;> rfl) ?_
  refine OpsW.run tok hO (by cbv <;> rfl) (by trivial) ?_
  refine OpsW.callP e41 (by cbv <;> rfl) ?_
  refine OpsW.run tok hO (by cbv <;> rfl) (by trivial) ?_
  refine SW.seq ?_
  refine SW.seqRun tok hO (by cbv <;> rfl) (by trivial) ?_
  refine SW.condS (by cbv <;> rfl) (fun h => ?_) (fun h => by subst hO; simp [std] at h)
  refine SW.seqRun tok hO (by cbv <;> rfl) (by trivial) ?_
  refine OpsW.splitG (by cbv <;> rfl) (fun h => ?_) (fun h => by subst hO; simp [std] at h)
  refine OpsW.run tok hO (by cbv <;> rfl) (by trivial) ?_
  refine OpsW.callP haw (by cbv <;> rfl) ?_
  refine OpsW.run tok hO (by cbv <;> rfl) (by trivial) ?_
  exact SW.ret ⟨_, _, rfl, rfl, Eqv.of rfl⟩
set_option maxHeartbeats 8000000 in
theorem cl_pre (y : YardD) (b : Int) (LV : AV) (e45 : Pure Try.prog 45 [yardV y] (.sb true)) (e20 : Pure Try.prog 20 [yardV y] (yardV y)) (e41 : Pure Try.prog 41 [yardV y] (.tup [LV, iV 0]))
    (hloop : ∀ (gg : Nat → AV), AllP (fun p => gg p.1 = p.2) [(1, .lit (.int .u8 b)), (2, .ptr 0 0), (5, LV), (7, iV 0)] → SW Try.prog none (restC 5 (bodyF Try.f14)) (trueQ2 Try.f14) ⟨⟨118, gg⟩, []⟩ ⟨[(0, .cells none false (yardC y))], 1⟩) : Pure Try.prog 14 [yardV y, .lit (.int .u8 b)] (.lit (.bool true)) := by
  obtain ⟨O, hO⟩ : ∃ O : Ar, O = std := ⟨_, rfl⟩
  refine pure_of_body tok 3 Try.func14 en14 rfl ⟨yardV_below y, Below.lit, trivial⟩ Below.lit ?_
  refine SW.seqRun tok hO (by cbv <;> rfl) (by trivial) ?_
  refine SW.seq ?_
  refine SW.seqRun tok hO (by cbv <;> rfl) (by trivial) ?_
  refine OpsW.callP e45 (by cbv <;> rfl) ?_
  refine OpsW.run tok hO (by cbv <;> rfl) (by trivial) ?_
  refine SW.condS (by cbv <;> rfl) (fun h => nomatch (show false = true from (by rw [hO] at h; exact h))) (fun h => SW.skip ?_)
  refine SW.seqRun tok hO (by cbv <;> rfl) (by trivial) ?_
  refine OpsW.callP e20 (by cbv <;> rfl) ?_
  refine OpsW.run tok hO (by cbv <;> rfl) (by trivial) ?_
  refine OpsW.callP e41 (by cbv <;> rfl) ?_
  refine OpsW.run tok hO (by cbv <;> rfl) (by trivial) ?_
  refine SW.seq ?_
  refine SW.seqRun tok hO (by cbv <;> rfl) (by trivial) ?_
  refine SW.condS (by cbv <;> rfl) (fun h => by subst hO; simp [std] at h) (fun h => SW.skip ?_)
  refine SW.seqRun tok hO (by cbv <;> rfl) (by trivial) ?_
  exact hloop _ ⟨rfl, rfl, rfl, rfl, trivial⟩
theorem showV_isl (y : YardD) : ∃ n f, Eqv y.showV (intsV n false f) := by
  unfold YardD.showV
  split
  · exact ⟨_, _, Eqv.refl _⟩
  · exact ⟨0, fun _ => 0, Eqv.nil⟩
theorem show_isl (y : YardD) (hb : y.nb < 1000000) (hc : y.nc < 1000000) {E : Int} (h : y.ownE true = E) : ∃ n f, Pure Try.prog 19 [yardV y] (.tup [intsV n false f, iV E]) := by
  obtain ⟨n, f, hf⟩ := showV_isl y
  have := show_ok y hb hc
  rw [h] at this
  exact ⟨n, f, this.res (Eqv.tup (.cons hf (.cons (Eqv.refl _) .nil)))⟩
theorem cleanLeft_ok (haw : Pure Try.prog 18 [] (.lit (.bool true))) (y : YardD) (b : Int) (b0 : 0 ≤ b) (b1 : b ≤ 255) : Pure Try.prog 14 [yardV y, .lit (.int .u8 b)] (.lit (.bool true)) := by
  have e45 := ready_any y
  cases hR : y.readyB with
  | false =>
    rw [hR] at e45
    exact cl_not haw y b e45
  | true =>
    rw [hR] at e45
    have hc := ready_check hR
    have hsm := ready_small hR
    have h5 := (y.fit_of_check hc).2.2.2.2.2.1
    have e20 := yard_ok y (by omega) (by omega)
    have e41 := leave_ok y (by omega) (by omega)
    have rT := byI_rng b0 b1 (show y.nc ≤ 6 by omega)
    have h64 := pow_le6 (show y.nc ≤ 6 by omega)
    rcases left_sees hc rT.1 rT.2 with ha | ⟨l, ha, _, hl, hv, s1, s2⟩
    · rw [ha] at e41
      exact cl_err haw y b _ e45 e20 e41
    · rw [ha, hv] at e41
      obtain ⟨r1, r2⟩ := ris_ok (show y.nc ≤ 6 by omega) hl
      obtain ⟨q1, q2, q3⟩ := msk_fin6 ⟨y.nc, by omega⟩ l hl
      have la : ∀ o : Int, (selL o y.nc).length ≤ y.nc := fun o => selL_len o _
      have hs : ∀ (o E : Int), (y.someL (selL o y.nc)).ownE true = E → ∃ n f, Pure Try.prog 19 [yardV (y.someL (selL o y.nc))] (.tup [intsV n false f, iV E]) := fun o E h => show_isl (y.someL (selL o y.nc)) (show y.nb < 1000000 by omega) (Nat.lt_of_le_of_lt (la o) (by omega)) h
      have hy : ∀ o : Int, Pure Try.prog 20 [yardV (y.someL (selL o y.nc))] (yardV (y.someL (selL o y.nc))) := fun o => yard_ok _ (show y.nb ≤ _ by omega) (Nat.le_trans (la _) (by omega))
      obtain ⟨n1, f1, a19⟩ := hs _ _ s1
      have hlen := selL_len (byI b y.nc) 6
      have e52 := bits64_ok (byI b y.nc) rT.1 (by omega)
      have e53 := shorter_ok (selL (byI b y.nc) 6).length l.length false false (lI (selL (byI b y.nc) 6)) (lI l) (by omega) (by omega)
      have key : ∃ G n2 f2, Pure Try.prog 19 [yardV (y.someL (selL (std.bin .sub .i64 (allI y.nc) (byI b y.nc)) y.nc))] (.tup [intsV n2 false f2, iV G]) ∧ (G = 9 ∨ (G = 0 ∧ Pure Try.prog 53 [lsV (selL (byI b y.nc) 6), intsV l.length false (lI l)] (.sb false))) := by
        rcases s2 with s2 | ⟨s2, s3⟩
        · obtain ⟨n2, f2, b19⟩ := hs _ _ s2
          exact ⟨9, n2, f2, b19, .inl rfl⟩
        · obtain ⟨n2, f2, b19⟩ := hs _ _ s2
          refine ⟨0, n2, f2, b19, .inr ⟨rfl, ?_⟩⟩
          have hq : shortB (selL (byI b y.nc) 6).length l.length (lI (selL (byI b y.nc) 6)) (lI l) = false := s3
          rw [hq] at e53
          exact e53
      obtain ⟨G, n2, f2, b19, hG⟩ := key
      have hg : ∀ j, (hj : j < l.length) → l.getD j 0 = l[j] := fun j hj => by rw [List.getD_eq_getElem?_getD, List.getElem?_eq_getElem hj]; rfl
      refine cl_pre y b (lsV l) e45 e20 e41 fun gg h => ?_
      refine cl_loop y h5 b (fun i => mskL (l.take i)) l.length (lI l) (by omega) rfl (fun i hi => mskL_snoc l i hi) (fun i hi => ?_) (fun gg h => ?_) gg h
      · unfold lI
        refine ⟨Int.natCast_nonneg _, ?_, fun h0 => ?_⟩
        · rw [hg i hi]; exact Int.ofNat_lt.2 (r2 _ (List.getElem_mem hi))
        · rw [hg i hi, hg (i - 1) (by omega)]
          exact Int.ofNat_lt.2 (List.pairwise_iff_getElem.1 r1 (i - 1) i (by omega) hi (by omega))
      · simp only [List.take_length] at h
        exact cl_tail haw y b (mskL l) (allI y.nc) l.length (lI l) G n1 n2 f1 f2 _ _ _ (full55_ok y (by omega)) (some_ok y _ (by omega)) (hy _) a19 (some_ok y _ (by omega)) (hy _) b19 e52 hG gg h
end Go.Fz
