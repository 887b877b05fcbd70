/- Own work of the verifier of watercress: Lb4, Lb8, FzDe1, FzB1, FzD10, FzD11, FzD12, FzD13, FzD14. -/
import Derived.ChangeKeysEq
import Derived.Laws.AppendOwn
import Derived.Laws.Cells
import Derived.Laws.CopyRow
import Derived.Laws.Entries
import Derived.Laws.NewFold
import Derived.Laws.Sem
import Derived.Laws.Small
import Derived.Laws.StructEq
import Derived.Laws.Tables
import Derived.Laws.World
import Derived.OrdersHeld
import Derived.OrdersIn
import Derived.RangeFuncLeaves
import Derived.RangeFuncRecord
import Derived.Shelf.Abstract
import Derived.Test.YtpaifaemkoblcaaNa0
import Derived.Test.YtpaifaemkoblcaaNa1
import Derived.Test.YtpaifaemkoblcaaNa2
import Derived.Test.YtpaifaemkoblcaaNa3
import Derived.Test.YtpaifaemkoblcaaProg
import Derived.Test.YtpaifaemkoblcaaNa4
import Derived.Below
import Derived.CallsIn
import Derived.Carry
import Derived.ChangeSame
import Derived.Deep.Slices
import Derived.DeepKeys4
import Derived.JoinedCond
import Derived.Laws.Cover3
import Derived.Lib.SmallJoins
import Derived.Maps.Keyed
import Derived.Maps.RangeRun
import Derived.OpenShut
import Derived.ProofKit
import Derived.WalkKit
import Derived.WideKeyArgs
import Derived.Test.YtpaifaemkoblcaaNa5
import Derived.Test.YtpaifaemkoblcaaNa6
import Derived.Test.YtpaifaemkoblcaaNa7
import Derived.Test.YtpaifaemkoblcaaRows
import Derived.Test.YtpaifaemkoblcaaNa8
import Derived.Test.YtpaifaemkoblcaaNa10
import Derived.Test.YtpaifaemkoblcaaNa12
import Derived.Test.YtpaifaemkoblcaaNa11
import Derived.Test.YtpaifaemkoblcaaNa13
import Derived.Test.YtpaifaemkoblcaaNa14
import Derived.Test.YtpaifaemkoblcaaNa9
import Derived.Test.YtpaifaemkoblcaaNa15
import Derived.Test.YtpaifaemkoblcaaNa16
import Derived.Test.YtpaifaemkoblcaaNa24
import Derived.Test.YtpaifaemkoblcaaNa25
import Derived.Test.YtpaifaemkoblcaaNa26
import Derived.Test.YtpaifaemkoblcaaNa19
import Derived.Test.YtpaifaemkoblcaaNa20
import Derived.Test.YtpaifaemkoblcaaNa21
import Derived.Test.YtpaifaemkoblcaaNa22
import Derived.Test.YtpaifaemkoblcaaNa23
import Derived.Test.YtpaifaemkoblcaaNa17
import Derived.Test.YtpaifaemkoblcaaNa18
import Derived.Test.YtpaifaemkoblcaaNa27
import Derived.Test.YtpaifaemkoblcaaNa32
import Derived.Test.YtpaifaemkoblcaaNa35
import Derived.Test.YtpaifaemkoblcaaNa33
import Derived.Test.YtpaifaemkoblcaaNa34
import Derived.Test.YtpaifaemkoblcaaNa28
import Derived.Test.YtpaifaemkoblcaaNa29
import Derived.Test.YtpaifaemkoblcaaNa30
import Derived.Test.YtpaifaemkoblcaaNa31
import Derived.Test.YtpaifaemkoblcaaNa36
import Derived.Test.YtpaifaemkoblcaaNa37
import Derived.Test.YtpaifaemkoblcaaNa38
import Derived.Test.YtpaifaemkoblcaaNa40
import Derived.Test.YtpaifaemkoblcaaNa39
import Derived.Test.YtpaifaemkoblcaaNa41
set_option linter.unusedVariables false
set_option linter.unusedSimpArgs false
namespace Go.Fz
open Go.Proofs
theorem en16 : Enters Try.prog 16 := fun args w => Go.Proofs.enters_of Try.func16 (by kernel_rfl) rfl args w
theorem en57 : Enters Try.prog 57 := fun args w => Go.Proofs.enters_of Try.func57 (by kernel_rfl) rfl args w
theorem en58 : Enters Try.prog 58 := fun args w => Go.Proofs.enters_of Try.func58 (by kernel_rfl) rfl args w
theorem en59 : Enters Try.prog 59 := fun args w => Go.Proofs.enters_of Try.func59 (by kernel_rfl) rfl args w
theorem en65 : Enters Try.prog 65 := fun args w => Go.Proofs.enters_of Try.func65 (by kernel_rfl) rfl args w
theorem en104 : Enters Try.prog 104 := fun args w => Go.Proofs.enters_of Try.func104 (by kernel_rfl) rfl args w
end Go.Fz
set_option linter.unusedVariables false
set_option linter.unusedSimpArgs false
namespace Go.Fz
open Go.Proofs
set_option maxRecDepth 100000
section
variable {P : Program} {T : Ti}
end
def lsV (p : List Nat) : AV := intsV p.length false fun i => ((p.getD i 0 : Nat) : Int)
theorem lsV_below (p : List Nat) : Below 0 (lsV p) := intsV_below _ _ _
end Go.Fz
namespace Go.Fz
open Go.Proofs
set_option maxRecDepth 100000
section
variable (K : List (List Nat) → Hp → Nat → Prop) (stop : List (List Nat) → List Nat → Hp → Nat → Prop) (ok : List Nat → Prop) (mc y many : Nat) (ex : Bool)
variable {K stop ok mc y many ex}
end
end Go.Fz
namespace Go.Fz
open Go.Proofs
set_option maxRecDepth 100000
section
variable {K : List (List Nat) → Hp → Nat → Prop} {stop : List (List Nat) → List Nat → Hp → Nat → Prop} {ok : List Nat → Prop} {mc y many : Nat}
end
end Go.Fz
namespace Go.Fz
open Go.Proofs
set_option maxRecDepth 100000
section
variable {K : List (List Nat) → Hp → Nat → Prop} {stop : List (List Nat) → List Nat → Hp → Nat → Prop} {ok : List Nat → Prop} {mc y many : Nat}
end
end Go.Fz
namespace Go.Fz
open Go.Proofs
set_option maxRecDepth 100000
section
variable (d : DayD) (XO : AV) (hX : Below 0 XO) (E : List (Mk × Nat)) (cl : Nat) (hb : Born E cl)
end
end Go.Fz
namespace Go.Fz
open Go.Proofs
set_option maxRecDepth 100000
section
variable (d : DayD) (XO : AV) (E : List (Mk × Nat)) (cl : Nat)
end
end Go.Fz
namespace Go.Fz
open Go.Proofs
set_option maxRecDepth 100000
section
variable (d : DayD) (L : Nat) (G : Nat → Nat → AV) (ME : List (AV × AV × Nat)) (cl : Nat)
end
end Go.Fz
namespace Go.Fz
open Go.Proofs
set_option maxRecDepth 100000
section
variable (d : DayD) (L : Nat) (G : Nat → Nat → AV) (ME : List (AV × AV × Nat)) (cl : Nat) (Q : List Nat → Bool)
variable {d L G ME cl}
end
end Go.Fz
namespace Go.Fz
open Go.Proofs
set_option maxRecDepth 100000
end Go.Fz
namespace Go.Fz
open Go.Proofs
set_option maxRecDepth 100000
set_option linter.unusedVariables false
end Go.Fz
namespace Go.Fz
open Go.Proofs
set_option maxRecDepth 100000
set_option linter.unusedVariables false
end Go.Fz
namespace Go.Fz
open Go.Proofs
set_option maxRecDepth 100000
end Go.Fz
namespace Go.Fz
open Go.Proofs
set_option maxRecDepth 100000
section
variable (nw nl : Nat) (f0 f1 f2 f3 : Nat → Int) (z4 z5 z6 z7 : Int)
end
end Go.Fz
namespace Go.Fz
open Go.Proofs
set_option maxRecDepth 100000
section
end
end Go.Fz
namespace Go.Fz
open Go.Proofs
set_option maxRecDepth 100000
def mnN (lo hi : Nat → Int) : Nat → Int
  | 0 => 1
  | i + 1 => minI 3000 (mul64 (mnN lo hi i) (size64 (lo i) (hi i)))
end Go.Fz
namespace Go.Fz
open Go.Proofs
set_option maxRecDepth 100000
end Go.Fz
namespace Go.Fz
open Go.Proofs
set_option maxRecDepth 100000
end Go.Fz
namespace Go.Fz
open Go.Proofs
set_option maxRecDepth 100000
def selL (bits : Int) : Nat → List Nat
  | 0 => []
  | i + 1 => if bitB bits i then selL bits i ++ [i] else selL bits i
theorem selL_len (bits : Int) : ∀ i, (selL bits i).length ≤ i
  | 0 => Nat.le_refl _
  | i + 1 => by
    have := selL_len bits i
    show (if bitB bits i then selL bits i ++ [i] else selL bits i).length ≤ i + 1
    split
    · rw [List.length_append, List.length_singleton]; omega
    · omega
end Go.Fz
namespace Go.Fz
open Go.Proofs
set_option maxRecDepth 100000
end Go.Fz
namespace Go.Fz
open Go.Proofs
set_option maxRecDepth 100000
end Go.Fz
namespace Go.Fz
open Go.Proofs
set_option maxRecDepth 100000
end Go.Fz
namespace Go.Fz
open Go.Proofs
set_option maxRecDepth 100000
end Go.Fz
namespace Go.Fz
open Go.Proofs
set_option maxRecDepth 100000
end Go.Fz
namespace Go.Fz
variable {P : Program}
end Go.Fz
namespace Go.Fz
open Go.Proofs
set_option maxRecDepth 100000
section
variable {P : Program} {T : Ti}
end
end Go.Fz
namespace Go.Fz
open Go.Proofs
set_option maxRecDepth 100000
end Go.Fz
namespace Go.Fz
open Go.Proofs
set_option maxRecDepth 100000
set_option linter.unusedVariables false
end Go.Fz
namespace Go.Fz
open Go.Proofs
set_option maxRecDepth 100000
set_option linter.unusedVariables false
end Go.Fz
namespace Go.Fz
open Go.Proofs
set_option maxRecDepth 100000
set_option linter.unusedVariables false
end Go.Fz
namespace Go.Fz
open Go.Proofs
set_option maxRecDepth 100000
set_option linter.unusedVariables false
end Go.Fz
namespace Go.Fz
open Go.Proofs
set_option maxRecDepth 100000
end Go.Fz
namespace Go.Fz
open Go.Proofs
set_option maxRecDepth 100000
def befF (fa fb : Nat → Int) (na nb : Nat) : Nat → Nat → Bool
  | _, 0 => decide ((na : Int) < nb)
  | i, k + 1 => if i < na ∧ i < nb then (if fa i = fb i then befF fa fb na nb (i + 1) k else decide (fa i < fb i)) else decide ((na : Int) < nb)
set_option pp.deepTerms false
set_option pp.deepTerms.threshold 5
def shortB (na nb : Nat) (fa fb : Nat → Int) : Bool := decide ((na : Int) < nb) || (decide ((na : Int) = nb) && befF fa fb na nb 0 (na + 1))
end Go.Fz
namespace Go.Fz
open Go.Proofs
set_option maxRecDepth 100000
def lI (l : List Nat) (i : Nat) : Int := ((l.getD i 0 : Nat) : Int)
theorem lI_snoc (l : List Nat) (i : Nat) : flatG 1 (intC (lI l)) l.length ++ [iV (i : Int)] = flatG 1 (intC (lI (l ++ [i]))) (l.length + 1) := by
  have h1 : flatG 1 (intC (lI (l ++ [i]))) l.length = flatG 1 (intC (lI l)) l.length := flatG_congr fun j k hj => by
    show iV (lI (l ++ [i]) j) = iV (lI l j)
    unfold lI
    rw [List.getD_eq_getElem?_getD, List.getElem?_append_left hj, ← List.getD_eq_getElem?_getD]
  have h2 : lI (l ++ [i]) l.length = (i : Int) := by unfold lI; simp
  show _ = flatG 1 (intC (lI (l ++ [i]))) l.length ++ [iV (lI (l ++ [i]) l.length)]
  rw [h1, h2]
theorem bits_fin : ∀ (n : Fin 32) (i : Fin 6), (std.cmp .gtr (std.bin .shr .i64 (n.1 : Int) (std.conv .u64 (i.1 : Int))) 0 = true → i.1 < 5) ∧ (std.cmp .gtr (std.bin .shr .i64 (n.1 : Int) (std.conv .u64 (i.1 : Int))) 0 = false → selL (n.1 : Int) i.1 = selL (n.1 : Int) 5) := by
  decide +kernel
end Go.Fz
namespace Go.Fz
open Go.Proofs
set_option maxRecDepth 100000
def mskL (l : List Nat) : Int := l.foldl (fun (m : Int) (x : Nat) => std.bin .or .i64 m (std.bin .shl .i64 1 (std.conv .u64 (x : Int)))) 0
def shL (a b : List Nat) : Bool := shortB a.length b.length (lI a) (lI b)
theorem ord_fin : ∀ many : Fin 6, (risL many.1).Pairwise (fun x y => shL y x = false) ∧ (∀ l ∈ risL many.1, shL l l = false) ∧ List.range many.1 ∈ risL many.1 := by
  decide +kernel
theorem ris_before {many : Nat} (hm : many ≤ 5) {pre post : List (List Nat)} {l a : List Nat} (hE : risL many = pre ++ l :: post) (ha : a ∈ risL many) (hs : shL a l = true) : a ∈ pre := by
  obtain ⟨h1, h2, _⟩ := ord_fin ⟨many, by omega⟩
  simp only at h1 h2
  have hl := h2 l (by rw [hE]; simp)
  rw [hE] at h1 ha
  rcases List.mem_append.1 ha with ha | ha
  · exact ha
  · rcases List.mem_cons.1 ha with rfl | ha
    · rw [hl] at hs; cases hs
    · have := (List.pairwise_append.1 h1).2.1
      have := (List.pairwise_cons.1 this).1 a ha
      rw [this] at hs; cases hs
end Go.Fz
namespace Go.Fz
open Go.Proofs
set_option maxRecDepth 100000
section
variable (d : DayD) (k w lo hi : Int)
end
end Go.Fz
namespace Go.Fz
open Go.Proofs
set_option maxRecDepth 100000
section
variable {T : Ti}
end
end Go.Fz
namespace Go.Fz
open Go.Proofs
set_option maxRecDepth 100000
section
variable {P : Program} {T : Ti}
end
end Go.Fz
namespace Go.Fz
open Go.Proofs
set_option maxRecDepth 100000
end Go.Fz
namespace Go.Fz
open Go.Proofs
set_option maxRecDepth 100000
set_option linter.unusedVariables false
end Go.Fz
namespace Go.Fz
open Go.Proofs
set_option maxRecDepth 100000
set_option linter.unusedVariables false
end Go.Fz
namespace Go.Fz
open Go.Proofs
set_option maxRecDepth 100000
set_option linter.unusedVariables false
end Go.Fz
namespace Go.Fz
open Go.Proofs
set_option maxRecDepth 100000
end Go.Fz
namespace Go.Fz
open Go.Proofs
set_option maxRecDepth 100000
set_option linter.unusedVariables false
section
variable {P : Program}
end
end Go.Fz
namespace Go.Fz
open Go.Proofs
set_option maxRecDepth 100000
set_option linter.unusedVariables false
end Go.Fz
namespace Go.Fz
open Go.Proofs
set_option maxRecDepth 100000
set_option linter.unusedVariables false
end Go.Fz
namespace Go.Fz
open Go.Proofs
set_option maxRecDepth 100000
set_option linter.unusedVariables false
end Go.Fz
namespace Go.Proofs.Ytpaifaemkoblcaa
open Go.ChangeShapes Go.WideShapes Go.ChangeAt Go.RowKit Go.Joins
set_option linter.unusedVariables false
set_option maxRecDepth 100000
theorem u8_in {n : Int} (h : (Lit.int .u8 n).wf = true) : 0 ≤ n ∧ n ≤ 255 := by
  simp [Lit.wf, IntKind.min, IntKind.max, IntKind.signed, IntKind.bits] at h
  omega
end Go.Proofs.Ytpaifaemkoblcaa
set_option linter.unusedVariables false
namespace Go.Fz
open Go.Proofs
set_option maxRecDepth 100000
theorem nI_val (p : List Nat) : zV (nI p) = lsV p := by
  unfold zV lsV
  rw [nI_len]
  congr 1
  funext i
  unfold zL nI
  rw [List.getD_eq_getElem?_getD, List.getD_eq_getElem?_getD, List.getElem?_map]
  cases p[i]? <;> rfl
section
variable (K : List (List Nat) → Hp → Prop) (stop : List (List Nat) → List Nat → Hp → Prop) (y many : Nat) (E : List (List Nat))
variable {K stop y many E}
end
end Go.Fz
set_option linter.unusedVariables false
namespace Go.Fz
open Go.Proofs
set_option maxRecDepth 100000
def FarmD.someL (y : FarmD) (l : List Nat) : FarmD := { y with nl := l.length, lb := fun i => y.lb (l.getD i 0), lov := fun i => y.lov (l.getD i 0), llo := fun i => y.llo (l.getD i 0), lhi := fun i => y.lhi (l.getD i 0) }
def smK (y : FarmD) (l : List Nat) : Nat → Nat → AV := fun i k => lookC y (l.getD i 0) k
theorem smK_below (y : FarmD) (l : List Nat) (i k : Nat) : Below 0 (smK y l i k) := (lookC_one y _ k).1
theorem smK_snoc (y : FarmD) (l : List Nat) (i : Nat) : flatG 4 (smK y l) l.length ++ [iV (y.lb i), .sb (y.lov i), iV (y.llo i), iV (y.lhi i)] = flatG 4 (smK y (l ++ [i])) (l.length + 1) := by
  have h1 : flatG 4 (smK y (l ++ [i])) l.length = flatG 4 (smK y l) l.length := flatG_congr fun j k hj => by
    show lookC y ((l ++ [i]).getD j 0) k = lookC y (l.getD j 0) k
    rw [List.getD_eq_getElem?_getD, List.getElem?_append_left hj, ← List.getD_eq_getElem?_getD]
  have h2 : (l ++ [i]).getD l.length 0 = i := by simp
  show _ = flatG 4 (smK y (l ++ [i])) l.length ++ [iV (y.lb ((l ++ [i]).getD l.length 0)), .sb (y.lov ((l ++ [i]).getD l.length 0)), iV (y.llo ((l ++ [i]).getD l.length 0)), iV (y.lhi ((l ++ [i]).getD l.length 0))]
  rw [h1, h2]
set_option maxHeartbeats 8000000 in
theorem someL_ok (y : FarmD) (o : Int) (hc : y.nl < 1000) : Pure Try.prog 64 [farmV y, iV o] (farmV (y.someL (selL o y.nl))) := by
  obtain ⟨O, hO⟩ : ∃ O : Ar, O = std := ⟨_, rfl⟩
  have hnat : ∀ i : Nat, O.nat (Int.ofNat i) = i := fun i => by subst hO; rfl
  refine pure_of_body tok 4 Try.func64 en64 rfl ⟨farmV_below y, Below.lit, trivial⟩ (farmV_below _) ?_
  refine SW.seqRun tok hO (by cbv <;> rfl) (by trivial) ?_
  refine SW.seqRun tok hO (by cbv <;> rfl) (by trivial) ?_
  refine SW.seqRun tok hO (by cbv <;> rfl) (by trivial) ?_
  refine SW.seq ?_
  refine SW.seqRun tok hO (by cbv <;> rfl) (by trivial) ?_
  refine (SW.block (SW.loopR (fun i : Nat => ⟨⟨33, getT [(1, iV o), (2, .ptr 0 0), (4, .ptr 1 0), (5, .ptr 2 0), (6, iV i)]⟩, []⟩) (fun i => ⟨smH y (slG 3 4 (selL o i).length) (objG 3 4 (smK y (selL o i)) (selL o i).length), 4⟩) (fun i => y.nl - i) (fun i => i ≤ y.nl) 0 (Nat.zero_le _) (ren1 3 3) ?_ fun i hi => ?_))
  · exact WeakR.up rfl rfl (by simp) (Nat.le_refl _) (.inl rfl) (by show 3 ≤ 4; omega) ⟨RenV.closed Below.lit, RenV.ptr (by omega), RenV.ptr (by omega), RenV.ptr (by omega), RenV.closed Below.lit, trivial⟩ ⟨⟨by omega, _, rfl, .cells (RenVs.closed (AllB.ok ⟨springsV_below y, bedsV_below y, Below.lit, trivial⟩)), .inr rfl⟩, ⟨by omega, _, rfl, .cells (RenVs.closed nl3_below), .inr rfl⟩, ⟨by omega, _, rfl, .cells (RenVs.closed (farmL_below y)), .inr rfl⟩, trivial⟩ (fun p hp => by cases hp)
  have hlen := selL_len o i
  have hsn := smK_snoc y (selL o i) i
  have hsu : selL o (i + 1) = if bitB o i then selL o i ++ [i] else selL o i := rfl
  have hc0 := conv_nn hO (by omega : i < 1000000)
  have k0 : (0 : Int) ≤ Int.ofNat i := Int.natCast_nonneg i
  have hni := hnat i
  cases hm : (selL o i).length with
  | zero =>
    have hl0 : selL o i = [] := List.length_eq_zero_iff.1 hm
    show SW _ _ _ _ _ (⟨smH y nl3 [], 4⟩)
    refine SW.seq ?_
    refine SW.seqRun tok hO (by cbv <;> rfl) (by trivial) ?_
    refine SW.condS (by cbv <;> rfl) (fun h => SW.skip ?_) (fun h => SW.exit ?_)
    · have hlt : i < y.nl := by
        have : (i : Int) < (y.nl : Int) := by subst hO; simpa [std] using h
        omega
      have kN : Int.ofNat i < Int.ofNat y.nl := Int.ofNat_lt.2 hlt
      refine SW.seq (SW.block ?_)
      refine SW.seqRun tok hO (by cbv <;> rfl) (by first | exact ⟨hc0, (by decide : (2 : Int) ≠ 0)⟩ | exact ⟨(by decide : (2 : Int) ≠ 0), hc0⟩) ?_
      refine SW.condS (by cbv <;> rfl) (fun h2 => ?_) (fun h2 => SW.skip ?_)
      · have hb : bitB o i = true := by subst hO; exact h2
        rw [if_pos hb] at hsu
        rw [hl0] at hsn hsu
        refine SW.runD tok mixed hO (by rfl) (by cbv <;> rfl) ?_ ?_
        · exact ⟨k0, kN⟩
        refine AnyE.effK tok hO (by cbv <;> rfl) (by cbv <;> rfl) (by trivial) ?_ ?_
        · exact ⟨by cbv <;> rfl, by cbv <;> rfl, trivial⟩
        refine AnyE.appNil tok (by cbv <;> rfl) (by cbv <;> rfl) (by rfl) (by kernel_rfl) (by rfl) (by rfl) ?_
        refine AnyE.run tok hO (by rfl) (by cbv <;> rfl) (by trivial) ?_
        refine AnyE.eff tok hO (by cbv <;> rfl) (by cbv <;> rfl) (by trivial) ?_
        refine AnyE.done (by rfl) ?_
        refine SW.run tok hO (by cbv <;> rfl) (by trivial) ?_
        refine ⟨i + 1, by omega, by omega, ren1 3 5, ?_⟩
        rw [hsu]
        refine WeakR.up rfl rfl (by simp) (Nat.le_refl _) (.inr (by omega)) (by show 3 ≤ 4; omega) ⟨RenV.closed Below.lit, RenV.ptr (by omega), RenV.ptr (by omega), RenV.ptr (by omega), RenV.inc hO (by omega), trivial⟩ ⟨⟨by omega, _, rfl, .cells (.cons (RenV.closed (springsV_below y)) (.cons (RenV.closed (bedsV_below y)) (.cons (RenV.sl (by omega)) .nil))), .inr rfl⟩, ⟨by omega, _, rfl, .cells (RenVs.closed nl3_below), .inr rfl⟩, ⟨by omega, _, rfl, .cells (RenVs.closed (farmL_below y)), .inr rfl⟩, trivial⟩ (fun p hp => ?_)
        obtain rfl := objG_mem hp
        refine ⟨by omega, _, rfl, .cells (RenVs.of_eq ?_ (flatG_below (smK_below y _) _)), .inl rfl⟩
        refine Eq.trans ?_ hsn
        show [iV (y.lb (O.nat (Int.ofNat i))), .sb (y.lov (O.nat (Int.ofNat i))), iV (y.llo (O.nat (Int.ofNat i))), iV (y.lhi (O.nat (Int.ofNat i)))] = [] ++ _
        rw [hni]; rfl
      · have hb : bitB o i = false := by subst hO; exact h2
        rw [if_neg (by rw [hb]; decide)] at hsu
        refine SW.run tok hO (by cbv <;> rfl) (by trivial) ?_
        refine ⟨i + 1, by omega, by omega, ren1 3 3, ?_⟩
        rw [hsu, hl0]
        exact WeakR.up rfl rfl (by simp) (Nat.le_refl _) (.inl rfl) (by show 3 ≤ 4; omega) ⟨RenV.closed Below.lit, RenV.ptr (by omega), RenV.ptr (by omega), RenV.ptr (by omega), RenV.inc hO (by omega), trivial⟩ ⟨⟨by omega, _, rfl, .cells (RenVs.closed (AllB.ok ⟨springsV_below y, bedsV_below y, Below.lit, trivial⟩)), .inr rfl⟩, ⟨by omega, _, rfl, .cells (RenVs.closed nl3_below), .inr rfl⟩, ⟨by omega, _, rfl, .cells (RenVs.closed (farmL_below y)), .inr rfl⟩, trivial⟩ (fun p hp => by cases hp)
    · have hz : i = y.nl := by
        have : (y.nl : Int) ≤ (i : Int) := by subst hO; simpa [std] using h
        omega
      refine SW.seqRun tok hO (by cbv <;> rfl) (by trivial) ?_
      refine SW.ret ⟨_, _, rfl, rfl, ?_⟩
      rw [hz] at hl0
      rw [hl0]
      exact Eqv.agg (.cons (Eqv.refl _) (.cons (Eqv.refl _) (.cons Eqv.nil .nil)))
  | succ m =>
    obtain ⟨G, hG⟩ : ∃ G, G = flatG 4 (smK y (selL o i)) (m + 1) := ⟨_, rfl⟩
    show SW _ _ _ _ _ (⟨smH y (.sl 3 0 (m + 1) 4 false) [(3, .cells none false (flatG 4 (smK y (selL o i)) (m + 1)))], 4⟩)
    rw [← hG]
    refine SW.seq ?_
    refine SW.seqRun tok hO (by cbv <;> rfl) (by trivial) ?_
    refine SW.condS (by cbv <;> rfl) (fun h => SW.skip ?_) (fun h => SW.exit ?_)
    · have hlt : i < y.nl := by
        have : (i : Int) < (y.nl : Int) := by subst hO; simpa [std] using h
        omega
      have kN : Int.ofNat i < Int.ofNat y.nl := Int.ofNat_lt.2 hlt
      refine SW.seq (SW.block ?_)
      refine SW.seqRun tok hO (by cbv <;> rfl) (by first | exact ⟨hc0, (by decide : (2 : Int) ≠ 0)⟩ | exact ⟨(by decide : (2 : Int) ≠ 0), hc0⟩) ?_
      refine SW.condS (by cbv <;> rfl) (fun h2 => ?_) (fun h2 => SW.skip ?_)
      · have hb : bitB o i = true := by subst hO; exact h2
        rw [if_pos hb] at hsu
        rw [hm, ← hG] at hsn
        refine SW.runD tok mixed hO (by rfl) (by cbv <;> rfl) ?_ ?_
        · exact ⟨k0, kN⟩
        refine AnyE.effK tok hO (by cbv <;> rfl) (by cbv <;> rfl) (by trivial) ?_ ?_
        · exact ⟨by cbv <;> rfl, by cbv <;> rfl, trivial⟩
        refine AnyE.appOne (g := smK y (selL o i)) tok (by cbv <;> rfl) (by cbv <;> rfl) (by rfl) (by rfl) hG (by kernel_rfl) (by rfl) (by rfl) (by omega) fun G' hG' => ?_
        refine AnyE.run tok hO (by rfl) (by cbv <;> rfl) (by trivial) ?_
        refine AnyE.eff tok hO (by cbv <;> rfl) (by cbv <;> rfl) (by trivial) ?_
        refine AnyE.done (by rfl) ?_
        refine SW.run tok hO (by cbv <;> rfl) (by trivial) ?_
        refine ⟨i + 1, by omega, by omega, ren1 3 5, ?_⟩
        rw [hsu, List.length_append, List.length_singleton, hm]
        refine WeakR.up rfl rfl (by simp) (Nat.le_refl _) (.inr (by omega)) (by show 3 ≤ 4; omega) ⟨RenV.closed Below.lit, RenV.ptr (by omega), RenV.ptr (by omega), RenV.ptr (by omega), RenV.inc hO (by omega), trivial⟩ ⟨⟨by omega, _, rfl, .cells (.cons (RenV.closed (springsV_below y)) (.cons (RenV.closed (bedsV_below y)) (.cons (RenV.sl (by omega)) .nil))), .inr rfl⟩, ⟨by omega, _, rfl, .cells (RenVs.closed nl3_below), .inr rfl⟩, ⟨by omega, _, rfl, .cells (RenVs.closed (farmL_below y)), .inr rfl⟩, trivial⟩ (fun p hp => ?_)
        obtain rfl := objG_mem hp
        refine ⟨by omega, _, rfl, .cells (RenVs.of_eq ?_ (flatG_below (smK_below y _) _)), .inl rfl⟩
        refine Eq.trans ?_ hsn
        refine hG'.trans ?_
        rw [← hG]
        show G ++ [iV (y.lb (O.nat (Int.ofNat i))), .sb (y.lov (O.nat (Int.ofNat i))), iV (y.llo (O.nat (Int.ofNat i))), iV (y.lhi (O.nat (Int.ofNat i)))] = _
        rw [hni]
      · have hb : bitB o i = false := by subst hO; exact h2
        rw [if_neg (by rw [hb]; decide)] at hsu
        refine SW.run tok hO (by cbv <;> rfl) (by trivial) ?_
        refine ⟨i + 1, by omega, by omega, ren1 3 3, ?_⟩
        rw [hsu, hm]
        refine WeakR.up rfl rfl (by simp) (Nat.le_refl _) (.inl rfl) (by show 3 ≤ 4; omega) ⟨RenV.closed Below.lit, RenV.ptr (by omega), RenV.ptr (by omega), RenV.ptr (by omega), RenV.inc hO (by omega), trivial⟩ ⟨⟨by omega, _, rfl, .cells (.cons (RenV.closed (springsV_below y)) (.cons (RenV.closed (bedsV_below y)) (.cons (RenV.sl (by omega)) .nil))), .inr rfl⟩, ⟨by omega, _, rfl, .cells (RenVs.closed nl3_below), .inr rfl⟩, ⟨by omega, _, rfl, .cells (RenVs.closed (farmL_below y)), .inr rfl⟩, trivial⟩ (fun p hp => ?_)
        obtain rfl := objG_mem hp
        exact ⟨by omega, _, rfl, .cells (RenVs.of_eq hG (flatG_below (smK_below y _) _)), .inl rfl⟩
    · have hz : i = y.nl := by
        have : (y.nl : Int) ≤ (i : Int) := by subst hO; simpa [std] using h
        omega
      refine SW.seqRun tok hO (by cbv <;> rfl) (by trivial) ?_
      have hlG : (m + 1) * 4 ≤ G.length := by rw [hG, flatG_length]; omega
      refine SW.ret ⟨_, _, rfl, rfl, ?_⟩
      rw [hz] at hm hG
      refine Eqv.agg (.cons (Eqv.refl _) (.cons (Eqv.refl _) (.cons ?_ .nil)))
      show Eqv (frz _ _ _ (.sl 3 0 (m + 1) 4 false)) (.isl (selL o y.nl).length 4 false _)
      rw [frz_slE (fm := none) (G := G) rfl rfl hlG, hm]
      refine Eqv.isl rfl fun j k hj hk => Eqv.of ?_
      rw [hG, frz_flat hj hk (by unfold smK lookC; split <;> rfl)]
      rfl
end Go.Fz
set_option linter.unusedVariables false
namespace Go.Fz
open Go.Proofs
set_option maxRecDepth 100000
set_option maxHeartbeats 8000000 in
theorem before104_ok (na nb : Nat) (ea eb : Bool) (fa fb : Nat → Int) (hna : na < 1000) (hnb : nb < 1000) : Pure Try.prog 104 [intsV na ea fa, intsV nb eb fb] (.sb (befF fa fb na nb 0 (na + 1))) := by
  obtain ⟨O, hO⟩ : ∃ O : Ar, O = std := ⟨_, rfl⟩
  have hnat : ∀ i : Nat, O.nat (Int.ofNat i) = i := fun i => by subst hO; rfl
  refine pure_of_body tok 3 Try.func104 en104 rfl ⟨intsV_below _ _ _, intsV_below _ _ _, trivial⟩ Below.sb ?_
  refine SW.seqRun tok hO (by cbv <;> rfl) (by trivial) ?_
  refine SW.seq ?_
  refine SW.seqRun tok hO (by cbv <;> rfl) (by trivial) ?_
  refine (SW.block (SW.loopF (fun i : Nat => ⟨⟨41, getT [(0, intsV na ea fa), (1, intsV nb eb fb), (5, iV i)]⟩, []⟩) (fun _ => ⟨[], 0⟩) (fun i => na + 1 - i) (fun i => i ≤ na ∧ befF fa fb na nb 0 (na + 1) = befF fa fb na nb i (na + 1 - i)) 0
    (fun _ => rfl) ⟨Nat.zero_le _, rfl⟩ (Weak.by rfl rfl (by simp) (Nat.le_refl _) (Nat.le_refl _) ⟨⟨rfl, .inl rfl⟩, ⟨rfl, .inl rfl⟩, ⟨rfl, .inl rfl⟩, trivial⟩ trivial) fun i ⟨hi, hB⟩ => ?_))
  have hun : befF fa fb na nb i (na + 1 - i) = if i < na ∧ i < nb then (if fa i = fb i then befF fa fb na nb (i + 1) (na - i) else decide (fa i < fb i)) else decide ((na : Int) < nb) := by
    rw [show na + 1 - i = (na - i) + 1 by omega]; rfl
  rw [hun] at hB
  have h0 : (0 : Int) ≤ Int.ofNat i := Int.natCast_nonneg i
  generalize befF fa fb na nb 0 (na + 1) = B at hB ⊢
  refine SW.seq ?_
  refine SW.seqRun tok hO (by cbv <;> rfl) (by trivial) ?_
  have hend : ¬ (i < na ∧ i < nb) → B = decide ((na : Int) < nb) := fun h => by rw [hB, if_neg h]
  refine OpsW.splitG (by cbv <;> rfl) (fun h => ?_) (fun h => ?_)
  · have hlt : i < na := by subst hO; simpa [std] using h
    refine OpsW.run tok hO (by cbv <;> rfl) (by trivial) ?_
    refine SW.condS (by cbv <;> rfl) (fun h3 => SW.skip ?_) (fun h3 => SW.exit ?_)
    · have hlt2 : i < nb := by subst hO; simpa [std] using h3
      rw [if_pos ⟨hlt, hlt2⟩] at hB
      refine SW.seq (SW.block ?_)
      refine SW.seqRunD tok mixed hO (by rfl) (by cbv <;> rfl) ?_ ?_
      · exact ⟨⟨h0, Int.ofNat_lt.2 hlt2⟩, ⟨h0, Int.ofNat_lt.2 hlt⟩⟩
      refine AnyE.dec tok hO (by rfl) (by cbv <;> rfl) (by trivial) (fun h4 => ?_) (fun h4 => ?_) <;> refine AnyE.run tok hO (by rfl) (by cbv <;> rfl) (by trivial) ?_
      · have hne : fa i ≠ fb i := by subst hO; simpa [std] using h4
        rw [if_neg hne] at hB
        refine SW.cond (t := true) (by cbv <;> rfl) ?_
        refine SW.seqRunD tok mixed hO (by rfl) (by cbv <;> rfl) ?_ ?_
        · exact ⟨⟨h0, Int.ofNat_lt.2 hlt2⟩, ⟨h0, Int.ofNat_lt.2 hlt⟩⟩
        refine AnyE.dec tok hO (by rfl) (by cbv <;> rfl) (by trivial) (fun h5 => ?_) (fun h5 => ?_) <;> refine AnyE.run tok hO (by rfl) (by cbv <;> rfl) (by trivial) ?_
        · have h6 : fa i < fb i := by subst hO; simpa [std] using h5
          refine SW.ret ⟨_, _, rfl, rfl, Eqv.bool ?_⟩
          rw [hB, decide_eq_true h6]
        · have h6 : ¬ fa i < fb i := by subst hO; simpa [std] using h5
          refine SW.ret ⟨_, _, rfl, rfl, Eqv.bool ?_⟩
          rw [hB, decide_eq_false h6]
      · have he : fa i = fb i := by subst hO; simpa [std] using h4
        rw [if_pos he] at hB
        refine SW.cond (t := false) (by cbv <;> rfl) (SW.skip ?_)
        refine SW.run tok hO (by cbv <;> rfl) (by trivial) ?_
        exact ⟨i + 1, by omega, ⟨by omega, by rw [hB]; congr 1; omega⟩, Weak.by rfl rfl (by simp) (Nat.le_refl _) (Nat.zero_le _) ⟨⟨rfl, .inr (intsV_below _ _ _)⟩, ⟨rfl, .inr (intsV_below _ _ _)⟩, ⟨inc_ok hO (by omega), .inr Below.lit⟩, trivial⟩ trivial⟩
    · have hge : ¬ i < nb := by subst hO; simpa [std] using h3
      refine SW.seqRun tok hO (by cbv <;> rfl) (by trivial) ?_
      refine SW.ret ⟨_, _, rfl, rfl, Eqv.sb ?_⟩
      rw [hend (fun h => hge h.2)]; subst hO; rfl
  · have hge : ¬ i < na := by subst hO; simpa [std] using h
    refine OpsW.run tok hO (by cbv <;> rfl) (by trivial) ?_
    refine SW.cond (t := false) (by cbv <;> rfl) (SW.exit ?_)
    refine SW.seqRun tok hO (by cbv <;> rfl) (by trivial) ?_
    refine SW.ret ⟨_, _, rfl, rfl, Eqv.sb ?_⟩
    rw [hend (fun h => hge h.1)]; subst hO; rfl
set_option maxHeartbeats 8000000 in
theorem shorter_ok (na nb : Nat) (ea eb : Bool) (fa fb : Nat → Int) (hna : na < 1000) (hnb : nb < 1000) : Pure Try.prog 58 [intsV na ea fa, intsV nb eb fb] (.sb (shortB na nb fa fb)) := by
  obtain ⟨O, hO⟩ : ∃ O : Ar, O = std := ⟨_, rfl⟩
  have hbef := before104_ok na nb ea eb fa fb hna hnb
  obtain ⟨S, hS⟩ : ∃ S, shortB na nb fa fb = S := ⟨_, rfl⟩
  unfold shortB at hS
  rw [show shortB na nb fa fb = S from hS]
  generalize befF fa fb na nb 0 (na + 1) = B at hbef hS
  refine pure_of_body tok 3 Try.func58 en58 rfl ⟨intsV_below _ _ _, intsV_below _ _ _, trivial⟩ Below.sb ?_
  refine SW.seqRun tok hO (by cbv <;> rfl) (by trivial) ?_
  refine SW.seqRun tok hO (by cbv <;> rfl) (by trivial) ?_
  refine OpsW.splitG (by cbv <;> rfl) (fun h => ?_) (fun h => ?_)
  · have hlt : (na : Int) < nb := by subst hO; simpa [std] using h
    refine OpsW.run tok hO (by cbv <;> rfl) (by trivial) ?_
    refine SW.ret ⟨_, _, rfl, rfl, Eqv.bool ?_⟩
    rw [← hS, decide_eq_true hlt]; rfl
  · have hlt : ¬ (na : Int) < nb := by subst hO; simpa [std] using h
    refine OpsW.run tok hO (by cbv <;> rfl) (by trivial) ?_
    refine OpsW.splitG (by cbv <;> rfl) (fun h2 => ?_) (fun h2 => ?_)
    · have he : (na : Int) = nb := by subst hO; simpa [std] using h2
      refine OpsW.run tok hO (by cbv <;> rfl) (by trivial) ?_
      refine OpsW.callP hbef (by cbv <;> rfl) ?_
      refine OpsW.run tok hO (by cbv <;> rfl) (by trivial) ?_
      refine SW.ret ⟨_, _, rfl, rfl, Eqv.sb ?_⟩
      rw [← hS, decide_eq_false hlt, decide_eq_true he]; rfl
    · have he : ¬ (na : Int) = nb := by subst hO; simpa [std] using h2
      refine OpsW.run tok hO (by cbv <;> rfl) (by trivial) ?_
      refine SW.ret ⟨_, _, rfl, rfl, Eqv.bool ?_⟩
      rw [← hS, decide_eq_false hlt, decide_eq_false he]; rfl
set_option maxHeartbeats 16000000 in
theorem bits59_ok (o : Int) (o0 : 0 ≤ o) (o32 : o < 32) : Pure Try.prog 59 [iV o] (lsV (selL o 5)) := by
  obtain ⟨O, hO⟩ : ∃ O : Ar, O = std := ⟨_, rfl⟩
  have hfin : ∀ i : Nat, i ≤ 5 → (std.cmp .gtr (std.bin .shr .i64 o (std.conv .u64 (i : Int))) 0 = true → i < 5) ∧ (std.cmp .gtr (std.bin .shr .i64 o (std.conv .u64 (i : Int))) 0 = false → selL o i = selL o 5) := fun i hi => by
    have h1 := bits_fin ⟨o.toNat, by omega⟩ ⟨i, by omega⟩
    have h2 : ((o.toNat : Nat) : Int) = o := by omega
    rw [h2] at h1
    exact h1
  refine pure_of_body tok 3 Try.func59 en59 rfl ⟨Below.lit, trivial⟩ (lsV_below _) ?_
  refine SW.seqRun tok hO (by cbv <;> rfl) (by trivial) ?_
  refine SW.seqRun tok hO (by cbv <;> rfl) (by trivial) ?_
  refine SW.seq ?_
  refine SW.seqRun tok hO (by cbv <;> rfl) (by trivial) ?_
  refine (SW.block (SW.loopR (fun i : Nat => ⟨⟨23, getT [(0, iV o), (3, slG 0 1 (selL o i).length), (4, iV i)]⟩, []⟩) (fun i => ⟨[] ++ objG 0 1 (intC (lI (selL o i))) (selL o i).length, 1⟩) (fun i => 5 - i) (fun i => i ≤ 5) 0 (Nat.zero_le _) (ren1 0 0) ?_ fun i hi => ?_))
  · exact WeakR.up rfl rfl (by simp) (Nat.le_refl _) (.inl rfl) (by show 0 ≤ 1; omega) ⟨RenV.closed Below.lit, RenV.closed Below.lit, RenV.closed Below.lit, trivial⟩ trivial (fun p hp => by cases hp)
  have hlen := selL_len o i
  have hsn := lI_snoc (selL o i) i
  have hsu : selL o (i + 1) = if bitB o i then selL o i ++ [i] else selL o i := rfl
  obtain ⟨f1, f2⟩ := hfin i hi
  have hc0 : 0 ≤ O.conv .u64 (Int.ofNat i) := by
    subst hO
    show 0 ≤ wrp .u64 ((i : Nat) : Int)
    rw [wrp_in (by simp only [IntKind.lo]; omega) (by simp only [IntKind.hi]; omega)]
    omega
  cases hm : (selL o i).length with
  | zero =>
    have hl0 : selL o i = [] := List.length_eq_zero_iff.1 hm
    show SW _ _ _ _ ⟨⟨23, getT [(0, iV o), (3, nl3), (4, iV i)]⟩, []⟩ ⟨[], 1⟩
    refine SW.seq ?_
    refine SW.seqRun tok hO (by cbv <;> rfl) (by first | exact hc0 | exact ⟨hc0, trivial⟩) ?_
    refine SW.condS (by cbv <;> rfl) (fun h => SW.skip ?_) (fun h => SW.exit ?_)
    · have hlt : i < 5 := f1 (by subst hO; exact h)
      refine SW.seq (SW.block ?_)
      refine SW.seqRun tok hO (by cbv <;> rfl) (by first | exact ⟨hc0, (by decide : (2 : Int) ≠ 0)⟩ | exact ⟨(by decide : (2 : Int) ≠ 0), hc0⟩) ?_
      refine SW.condS (by cbv <;> rfl) (fun h2 => ?_) (fun h2 => SW.skip ?_)
      · have hb : bitB o i = true := by subst hO; exact h2
        rw [if_pos hb] at hsu
        rw [hl0] at hsn hsu
        refine SW.runN tok hO 3 (by cbv <;> rfl) (by trivial) ?_
        refine OpsW.appNil tok (by cbv <;> rfl) (by rfl) (by kernel_rfl) (by rfl) (by rfl) ?_
        refine OpsW.run tok hO (by cbv <;> rfl) (by trivial) ?_
        refine SW.run tok hO (by cbv <;> rfl) (by trivial) ?_
        refine ⟨i + 1, by omega, by omega, ren1 0 2, ?_⟩
        rw [hsu]
        refine WeakR.up rfl rfl (by simp) (Nat.le_refl _) (.inr (by omega)) (by show 0 ≤ 1; omega) ⟨RenV.closed Below.lit, RenV.sl (by omega), RenV.inc hO (by omega), trivial⟩ trivial (fun p hp => ?_)
        obtain rfl := objG_mem hp
        exact ⟨by omega, _, rfl, .cells (RenVs.of_eq hsn (flatG_below (fun _ _ => Below.lit) _)), .inl rfl⟩
      · have hb : bitB o i = false := by subst hO; exact h2
        rw [if_neg (by rw [hb]; decide)] at hsu
        refine SW.run tok hO (by cbv <;> rfl) (by trivial) ?_
        refine ⟨i + 1, by omega, by omega, ren1 0 0, ?_⟩
        rw [hsu, hm]
        exact WeakR.up rfl rfl (by simp) (Nat.le_refl _) (.inl rfl) (by show 0 ≤ 1; omega) ⟨RenV.closed Below.lit, RenV.closed Below.lit, RenV.inc hO (by omega), trivial⟩ trivial (fun p hp => by cases hp)
    · have he := f2 (by subst hO; exact h)
      refine SW.seqRun tok hO (by cbv <;> rfl) (by trivial) ?_
      refine SW.ret ⟨_, _, rfl, rfl, ?_⟩
      rw [← he, hl0]
      exact Eqv.nil
  | succ m =>
    obtain ⟨G, hG⟩ : ∃ G, G = flatG 1 (intC (lI (selL o i))) (m + 1) := ⟨_, rfl⟩
    show SW _ _ _ _ ⟨⟨23, getT [(0, iV o), (3, .sl 0 0 (m + 1) 1 false), (4, iV i)]⟩, []⟩ ⟨[(0, .cells none false (flatG 1 (intC (lI (selL o i))) (m + 1)))], 1⟩
    rw [← hG]
    refine SW.seq ?_
    refine SW.seqRun tok hO (by cbv <;> rfl) (by first | exact hc0 | exact ⟨hc0, trivial⟩) ?_
    refine SW.condS (by cbv <;> rfl) (fun h => SW.skip ?_) (fun h => SW.exit ?_)
    · have hlt : i < 5 := f1 (by subst hO; exact h)
      refine SW.seq (SW.block ?_)
      refine SW.seqRun tok hO (by cbv <;> rfl) (by first | exact ⟨hc0, (by decide : (2 : Int) ≠ 0)⟩ | exact ⟨(by decide : (2 : Int) ≠ 0), hc0⟩) ?_
      refine SW.condS (by cbv <;> rfl) (fun h2 => ?_) (fun h2 => SW.skip ?_)
      · have hb : bitB o i = true := by subst hO; exact h2
        rw [if_pos hb] at hsu
        rw [hm, ← hG] at hsn
        refine SW.runN tok hO 3 (by cbv <;> rfl) (by trivial) ?_
        refine OpsW.appOne (g := intC (lI (selL o i))) (len := m + 1) tok (by cbv <;> rfl) (by rfl) (by rfl) hG (by kernel_rfl) (by rfl) (by rfl) (by omega) fun G' hG' => ?_
        refine OpsW.run tok hO (by cbv <;> rfl) (by trivial) ?_
        refine SW.run tok hO (by cbv <;> rfl) (by trivial) ?_
        refine ⟨i + 1, by omega, by omega, ren1 0 2, ?_⟩
        rw [hsu, List.length_append, List.length_singleton, hm]
        refine WeakR.up rfl rfl (by simp) (Nat.le_refl _) (.inr (by omega)) (by show 0 ≤ 1; omega) ⟨RenV.closed Below.lit, RenV.sl (by omega), RenV.inc hO (by omega), trivial⟩ trivial (fun p hp => ?_)
        obtain rfl := objG_mem hp
        exact ⟨by omega, _, rfl, .cells (RenVs.of_eq (by rw [hG', ← hG]; exact hsn) (flatG_below (fun _ _ => Below.lit) _)), .inl rfl⟩
      · have hb : bitB o i = false := by subst hO; exact h2
        rw [if_neg (by rw [hb]; decide)] at hsu
        refine SW.run tok hO (by cbv <;> rfl) (by trivial) ?_
        refine ⟨i + 1, by omega, by omega, ren1 0 0, ?_⟩
        rw [hsu, hm]
        refine WeakR.up rfl rfl (by simp) (Nat.le_refl _) (.inl rfl) (by show 0 ≤ 1; omega) ⟨RenV.closed Below.lit, RenV.sl (by omega), RenV.inc hO (by omega), trivial⟩ trivial (fun p hp => ?_)
        obtain rfl := objG_mem hp
        exact ⟨by omega, _, rfl, .cells (RenVs.of_eq hG (flatG_below (fun _ _ => Below.lit) _)), .inl rfl⟩
    · have he := f2 (by subst hO; exact h)
      refine SW.seqRun tok hO (by cbv <;> rfl) (by trivial) ?_
      refine SW.ret ⟨_, _, rfl, rfl, ?_⟩
      rw [← he]
      show Eqv (frz _ _ 3 (.sl 0 0 (m + 1) 1 false)) (.isl (selL o i).length 1 false _)
      rw [frz_slE (fm := none) (G := G) rfl rfl (by rw [hG, flatG_length]; omega), hm]
      refine Eqv.isl rfl fun j k hj hk => Eqv.of ?_
      rw [hG, frz_flat hj hk rfl]
      rfl
end Go.Fz
set_option linter.unusedVariables false
namespace Go.Fz
open Go.Proofs
set_option maxRecDepth 100000
theorem mskL_snoc (l : List Nat) (i : Nat) (hi : i < l.length) : mskL (l.take (i + 1)) = std.bin .or .i64 (mskL (l.take i)) (std.bin .shl .i64 1 (std.conv .u64 (lI l i))) := by
  unfold mskL
  rw [List.take_add_one, List.getElem?_eq_getElem hi]
  simp only [Option.toList_some, List.foldl_append, List.foldl_cons, List.foldl_nil]
  unfold lI
  rw [List.getD_eq_getElem?_getD, List.getElem?_eq_getElem hi]
  rfl
theorem sub1N {O : Ar} (hO : O = std) {i : Nat} (h : i < 1000) : O.bin .sub .i64 (Int.ofNat i) 1 = (i : Int) - 1 := by
  subst hO
  show sub64 ((i : Nat) : Int) 1 = _
  rw [sub64_in _ _ (by omega) (by omega)]
theorem natsub1 {O : Ar} (hO : O = std) {i : Nat} (h : i < 1000) (h0 : 0 < i) : O.nat (O.bin .sub .i64 (Int.ofNat i) 1) = i - 1 := by
  rw [sub1N hO h]; subst hO
  show ((i : Int) - 1).toNat = i - 1
  omega
theorem sub1_rng {O : Ar} (hO : O = std) {i N : Nat} (h : i < 1000) (h0 : 0 < i) (hN : i < N) : 0 ≤ O.bin .sub .i64 (Int.ofNat i) 1 ∧ O.bin .sub .i64 (Int.ofNat i) 1 < (N : Int) := by
  rw [sub1N hO h]; omega
theorem gtr0 {O : Ar} (hO : O = std) {i : Nat} (h : O.cmp .gtr (Int.ofNat i) 0 = true) : 0 < i := by
  have : (i : Int) > 0 := by subst hO; simpa [std] using h
  omega
theorem leq_no {O : Ar} (hO : O = std) {a b : Int} (h : O.cmp .leq a b = true) (hab : b < a) : False := by
  have : a ≤ b := by subst hO; simpa [std] using h
  omega
set_option maxHeartbeats 8000000 in
theorem bitsOf_ok (nb : Nat) (hn : nb ≤ 6) (l : List Nat) (h1 : l.Pairwise (· < ·)) (h2 : ∀ p ∈ l, p < nb) (hl : l.length < 1000) : Pure Try.prog 57 [lsV l, iV (nb : Int)] (.tup [iV (mskL l), .lit (.bool true)]) := by
  obtain ⟨O, hO⟩ : ∃ O : Ar, O = std := ⟨_, rfl⟩
  have hnat : ∀ i : Nat, O.nat (Int.ofNat i) = i := fun i => by subst hO; rfl
  have hlI : ∀ i, i < l.length → 0 ≤ lI l i ∧ lI l i < nb ∧ (0 < i → lI l (i - 1) < lI l i) := fun i hi => by
    have hg : ∀ j, (hj : j < l.length) → l.getD j 0 = l[j] := fun j hj => by rw [List.getD_eq_getElem?_getD, List.getElem?_eq_getElem hj]; rfl
    unfold lI
    refine ⟨Int.natCast_nonneg _, ?_, fun h0 => ?_⟩
    · rw [hg i hi]; exact Int.ofNat_lt.2 (h2 _ (List.getElem_mem hi))
    · rw [hg i hi, hg (i - 1) (by omega)]
      exact Int.ofNat_lt.2 (List.pairwise_iff_getElem.1 h1 (i - 1) i (by omega) hi (by omega))
  have hm0 : mskL (l.take 0) = 0 := rfl
  have hms := fun i (hi : i < l.length) => mskL_snoc l i hi
  have hmL : mskL (l.take l.length) = mskL l := by rw [List.take_length]
  obtain ⟨M, hM⟩ : ∃ M : Nat → Int, M = fun i => mskL (l.take i) := ⟨_, rfl⟩
  have hM0 : M 0 = 0 := by rw [hM]; exact hm0
  have hMs : ∀ i, i < l.length → M (i + 1) = O.bin .or .i64 (M i) (O.bin .shl .i64 1 (O.conv .u64 (lI l i))) := fun i hi => by rw [hM, hO]; exact hms i hi
  have hML : M l.length = mskL l := by rw [hM]; exact hmL
  rw [← hML]
  have hlv : lsV l = intsV l.length false (lI l) := rfl
  rw [hlv]
  clear hM hm0 hms hmL hML hlv h1 h2
  obtain ⟨FL, hFL⟩ : ∃ f, lI l = f := ⟨_, rfl⟩
  obtain ⟨N, hN⟩ : ∃ n, l.length = n := ⟨_, rfl⟩
  rw [hFL, hN] at hlI hMs
  rw [hN] at hl
  rw [hFL, hN]
  have hconv : ∀ i, i < N → 0 ≤ O.conv .u64 (FL i) := fun i hi => by
    have := hlI i hi
    subst hO
    show 0 ≤ wrp .u64 (FL i)
    rw [wrp_in (by simp only [IntKind.lo]; omega) (by simp only [IntKind.hi]; omega)]
    omega
  refine pure_of_body tok 3 Try.func57 en57 rfl ⟨intsV_below _ _ _, Below.lit, trivial⟩ (Below.tup (AllB.ok ⟨Below.lit, Below.lit, trivial⟩)) ?_
  refine SW.seqRun tok hO (by cbv <;> rfl) (by trivial) ?_
  refine SW.seqRun tok hO (by cbv <;> rfl) (by trivial) ?_
  refine SW.seq ?_
  refine SW.seqRun tok hO (by cbv <;> rfl) (by trivial) ?_
  refine (SW.block (SW.loopF (fun i : Nat => ⟨⟨52, getT [(0, intsV N false FL), (1, iV (nb : Int)), (6, iV (M i)), (7, iV i)]⟩, []⟩) (fun _ => ⟨[], 0⟩) (fun i => N - i) (fun i => i ≤ N) 0
    (fun _ => rfl) (Nat.zero_le _) (Weak.by rfl rfl (by simp) (Nat.le_refl _) (Nat.le_refl _) ⟨⟨rfl, .inl rfl⟩, ⟨rfl, .inl rfl⟩, ⟨by show iV 0 = iV (M 0); rw [hM0], .inl rfl⟩, ⟨rfl, .inl rfl⟩, trivial⟩ trivial) fun i hi => ?_))
  have hMi := hMs i
  obtain ⟨m, hm⟩ : ∃ m, M i = m := ⟨_, rfl⟩
  rw [hm] at hMi
  show SW _ _ _ _ ⟨⟨52, getT [(0, intsV N false FL), (1, iV (nb : Int)), (6, iV (M i)), (7, iV i)]⟩, []⟩ _
  rw [hm]
  have hni : O.nat (Int.ofNat i) = i := hnat i
  refine SW.seq ?_
  refine SW.seqRun tok hO (by cbv <;> rfl) (by trivial) ?_
  refine SW.condS (by cbv <;> rfl) (fun h => SW.skip ?_) (fun h => SW.exit ?_)
  · have hlt : i < N := by
      have : (i : Int) < (N : Int) := by subst hO; simpa [std] using h
      omega
    obtain ⟨k1, k2, k3⟩ := hlI i hlt
    have k0 : (0 : Int) ≤ Int.ofNat i := Int.natCast_nonneg i
    have kN : Int.ofNat i < Int.ofNat N := Int.ofNat_lt.2 hlt
    refine SW.seq (SW.block ?_)
    refine SW.seq ?_
    refine SW.seqRunD tok mixed hO (by kernel_rfl) (by cbv <;> rfl) ?_ ?_
    · exact ⟨k0, kN⟩
    refine AnyE.dec tok hO (by kernel_rfl) (by cbv <;> rfl) (by trivial) (fun h3 => ?_) (fun h3 => ?_)
    · exfalso
      have h6 : O.cmp .lss (FL (O.nat (Int.ofNat i))) 0 = true := h3
      rw [hni] at h6
      have : FL i < 0 := by subst hO; simpa [std] using h6
      omega
    refine AnyE.run tok hO (by kernel_rfl) (by cbv <;> rfl) ?_ ?_
    · exact ⟨k0, kN⟩
    refine AnyE.dec tok hO (by kernel_rfl) (by cbv <;> rfl) (by trivial) (fun h3 => ?_) (fun h3 => ?_)
    · exfalso
      have h6 : O.cmp .geq (FL (O.nat (Int.ofNat i))) (nb : Int) = true := h3
      rw [hni] at h6
      have : FL i ≥ (nb : Int) := by subst hO; simpa [std] using h6
      omega
    refine AnyE.run tok hO (by kernel_rfl) (by cbv <;> rfl) (by trivial) ?_
    have hbig : i < 4611686018427387904 := Nat.lt_trans hlt (Nat.lt_trans hl (by decide))
    have hcv : 0 ≤ O.conv .u64 (FL (O.nat (Int.ofNat i))) := by rw [hni]; exact hconv i hlt
    have hnext : ∀ (f' : Fm) (st' : St), Weak 0 f' st' ⟨⟨52, getT [(0, intsV N false FL), (1, iV (nb : Int)), (6, iV (M (i + 1))), (7, iV ((i + 1 : Nat) : Int))]⟩, []⟩ ⟨[], 0⟩ → ∃ x', N - x' < N - i ∧ x' ≤ N ∧ Weak 0 f' st' ⟨⟨52, getT [(0, intsV N false FL), (1, iV (nb : Int)), (6, iV (M x')), (7, iV (x' : Nat))]⟩, []⟩ ⟨[], 0⟩ := fun f' st' h => ⟨i + 1, by omega, by omega, h⟩
    have hMi2 : M (i + 1) = O.bin .or .i64 m (O.bin .shl .i64 1 (O.conv .u64 (FL (O.nat (Int.ofNat i))))) := by rw [hni]; exact hMi hlt
    refine AnyE.dec tok hO (by kernel_rfl) (by cbv <;> rfl) (by trivial) (fun h4 => ?_) (fun h4 => ?_)
    · have hi0 : 0 < i := gtr0 hO h4
      have hq := sub1_rng hO (Nat.lt_trans hlt hl) hi0 hlt
      have hns := natsub1 hO (Nat.lt_trans hlt hl) hi0
      have k3 := k3 hi0
      refine AnyE.run tok hO (by kernel_rfl) (by cbv <;> rfl) ?_ ?_
      · exact ⟨hq, ⟨k0, kN⟩⟩
      refine AnyE.dec tok hO (by kernel_rfl) (by cbv <;> rfl) (by trivial) (fun h5 => ?_) (fun h5 => ?_)
      · exfalso
        have h6 : O.cmp .leq (FL (O.nat (Int.ofNat i))) (FL (O.nat (O.bin .sub .i64 (Int.ofNat i) 1))) = true := h5
        rw [hni, hns] at h6
        exact leq_no hO h6 k3
      · refine AnyE.run tok hO (by kernel_rfl) (by cbv <;> rfl) (by trivial) ?_
        refine SW.cond (t := false) (by cbv <;> rfl) (SW.skip ?_)
        refine SW.run tok hO (by cbv <;> rfl) ?_ ?_
        · exact ⟨hcv, ⟨k0, kN⟩⟩
        refine SW.run tok hO (by cbv <;> rfl) (by trivial) ?_
        refine hnext _ _ ?_
        rw [hMi2]
        exact Weak.by rfl rfl (by simp) (Nat.le_refl _) (Nat.le_refl _) ⟨⟨rfl, .inl rfl⟩, ⟨rfl, .inl rfl⟩, ⟨rfl, .inl rfl⟩, ⟨inc_ok hO hbig, .inl rfl⟩, trivial⟩ trivial
    · refine AnyE.run tok hO (by kernel_rfl) (by cbv <;> rfl) (by trivial) ?_
      refine SW.cond (t := false) (by cbv <;> rfl) (SW.skip ?_)
      refine SW.run tok hO (by cbv <;> rfl) ?_ ?_
      · exact ⟨hcv, ⟨k0, kN⟩⟩
      refine SW.run tok hO (by cbv <;> rfl) (by trivial) ?_
      refine hnext _ _ ?_
      rw [hMi2]
      exact Weak.by rfl rfl (by simp) (Nat.le_refl _) (Nat.le_refl _) ⟨⟨rfl, .inl rfl⟩, ⟨rfl, .inl rfl⟩, ⟨rfl, .inl rfl⟩, ⟨inc_ok hO hbig, .inl rfl⟩, trivial⟩ trivial
  · have hz : i = N := by
      have : (N : Int) ≤ (i : Int) := by subst hO; simpa [std] using h
      omega
    subst hz
    rw [hm]
    refine SW.seqRun tok hO (by cbv <;> rfl) (by trivial) ?_
    exact SW.ret ⟨_, _, rfl, rfl, Eqv.of rfl⟩
theorem full65_ok (y : FarmD) (hn : y.nl < 1000000) : Pure Try.prog 65 [farmV y] (iV (pw1 y.nl)) := by
  obtain ⟨O, hO⟩ : ∃ O : Ar, O = std := ⟨_, rfl⟩
  refine pure_of_body tok 3 Try.func65 en65 rfl ⟨farmV_below y, trivial⟩ Below.lit ?_
  refine SW.seqRun tok hO (by cbv <;> rfl) (by trivial) ?_
  refine SW.seqRun tok hO (by cbv <;> rfl) (by exact conv_nn hO hn) ?_
  refine SW.ret ⟨_, _, rfl, rfl, Eqv.int ?_⟩
  subst hO; rfl
end Go.Fz
set_option linter.unusedVariables false
namespace Go.Fz
open Go.Proofs
set_option maxRecDepth 100000
theorem some_playS (f : FarmD) (p : List Nat) (fl : Nat → Int) : ∀ s, playS (f.someL p) fl s = playS f fl s
  | 0 => rfl
  | s + 1 => by
    show stepS (f.someL p) fl s (playS (f.someL p) fl s) = stepS f fl s (playS f fl s)
    rw [some_playS f p fl s]; rfl
theorem some_playB (f : FarmD) (p : List Nat) (K fl : Nat → Int) : ∀ i, playB (f.someL p) K fl i = playB f K fl i
  | 0 => some_playS f p fl f.ns
  | i + 1 => by
    show stepB (f.someL p) K i (playB (f.someL p) K fl i) = stepB f K i (playB f K fl i)
    rw [some_playB f p K fl i]; rfl
theorem some_water (f : FarmD) (p : List Nat) (fl : Nat → Int) : (f.someL p).water fl = f.water fl := by
  show playB (f.someL p) ((f.someL p).k0 f.nb) fl f.nb = playB f (f.k0 f.nb) fl f.nb
  rw [some_playB]; rfl
theorem memGetD {l : List Nat} {p : Nat} : p ∈ l ↔ ∃ j, j < l.length ∧ l.getD j 0 = p := by
  constructor
  · intro h
    obtain ⟨j, hj, rfl⟩ := List.getElem_of_mem h
    exact ⟨j, hj, by rw [List.getD_eq_getElem?_getD, List.getElem?_eq_getElem hj]; rfl⟩
  · rintro ⟨j, hj, rfl⟩
    rw [List.getD_eq_getElem?_getD, List.getElem?_eq_getElem hj]
    exact List.getElem_mem hj
theorem some_rgt {f : FarmD} {p : List Nat} {c : List Int} : (f.someL p).rgt c = true ↔ ∀ j ∈ p, f.rightB (f.water (zL c)) j = true := by
  unfold FarmD.rgt
  rw [some_water]
  unfold allN
  rw [decide_eq_true_eq]
  constructor
  · intro h j hj
    obtain ⟨i, hi, e⟩ := memGetD.1 hj
    have := h i hi
    rw [← e]; exact this
  · intro h i hi
    exact h (p.getD i 0) (memGetD.2 ⟨i, hi, rfl⟩)
theorem some_trs {f : FarmD} {p : List Nat} : (f.someL p).trs ≠ [] ↔ ∃ c ∈ f.chL, ∀ j ∈ p, f.rightB (f.water (zL c)) j = true := by
  unfold FarmD.trs
  show (f.chL).filter (f.someL p).rgt ≠ [] ↔ _
  constructor
  · intro h
    obtain ⟨c, hc⟩ := List.exists_mem_of_ne_nil _ h
    exact ⟨c, (List.mem_filter.1 hc).1, some_rgt.1 (List.mem_filter.1 hc).2⟩
  · rintro ⟨c, hc, h⟩ e
    have : c ∈ (f.chL).filter (f.someL p).rgt := List.mem_filter.2 ⟨hc, some_rgt.2 h⟩
    rw [e] at this; cases this
def coL (nc : Nat) (l : List Nat) : List Nat := (List.range nc).filter fun p => !l.contains p
theorem mem_coL {nc : Nat} {l : List Nat} {p : Nat} : p ∈ coL nc l ↔ p < nc ∧ p ∉ l := by
  unfold coL
  rw [List.mem_filter, List.mem_range]
  simp
theorem hasI_iff {l : List Nat} {p : Nat} : hasN (nI l).length (zL (nI l)) (p : Int) = true ↔ p ∈ l := by
  have hz : ∀ j, j < l.length → zL (nI l) j = ((l.getD j 0 : Nat) : Int) := fun j hj => by
    unfold zL nI
    rw [List.getD_eq_getElem?_getD, List.getD_eq_getElem?_getD, List.getElem?_map, List.getElem?_eq_getElem hj]; rfl
  unfold hasN
  rw [decide_eq_true_eq, memGetD, nI_len]
  constructor
  · rintro ⟨j, hj, h⟩
    rw [hz j hj] at h
    exact ⟨j, hj, Int.ofNat_inj.1 h⟩
  · rintro ⟨j, hj, h⟩
    exact ⟨j, hj, by rw [hz j hj]; exact congrArg Int.ofNat h⟩
theorem lvs_iff {f : FarmD} {l : List Nat} : f.lvs l = true ↔ ∃ c ∈ f.chL, ∀ j ∈ coL f.nl l, f.rightB (f.water (zL c)) j = true := by
  unfold FarmD.lvs
  rw [List.any_eq_true]
  have hc : ∀ c, f.lvC l c = true ↔ ∀ j ∈ coL f.nl l, f.rightB (f.water (zL c)) j = true := fun c => by
    unfold FarmD.lvC allN FarmD.butB
    rw [decide_eq_true_eq]
    constructor
    · intro h j hj
      obtain ⟨h1, h2⟩ := mem_coL.1 hj
      rcases Bool.or_eq_true_iff.1 (h j h1) with h3 | h3
      · exact absurd (hasI_iff.1 h3) h2
      · exact h3
    · intro h i hi
      rw [Bool.or_eq_true]
      by_cases hm : i ∈ l
      · exact .inl (hasI_iff.2 hm)
      · exact .inr (h i (mem_coL.2 ⟨hi, hm⟩))
  constructor
  · rintro ⟨c, h1, h2⟩; exact ⟨c, h1, (hc c).1 h2⟩
  · rintro ⟨c, h1, h2⟩; exact ⟨c, h1, (hc c).2 h2⟩
theorem some_sizes (f : FarmD) (p : List Nat) : ∀ k, (f.someL p).sizesN k = f.sizesN k
  | 0 => rfl
  | k + 1 => by
    have ih := some_sizes f p k
    simp only [FarmD.sizesN, ih]
    rfl
theorem some_check {f : FarmD} (h : f.check = 0) {p : List Nat} (hp : ∀ j ∈ p, j < f.nl) (hl : p.length ≤ 5) : (f.someL p).check = 0 := by
  have h2 := some_sizes f p f.ns
  unfold FarmD.check at h ⊢
  split at h
  · cases h
  · rename_i hlo
    split at h
    · rename_i hv
      split at h
      · cases h
      · rename_i hz
        have h3 : (f.someL p).long = false := by
          simp only [FarmD.long, Bool.not_eq_true, Bool.or_eq_false_iff, decide_eq_false_iff_not, Nat.not_lt] at hlo ⊢
          exact ⟨hlo.1, hl⟩
        have h4 : (f.someL p).validB = true := by
          simp only [FarmD.validB, Bool.and_eq_true, decide_eq_true_eq, allN] at hv ⊢
          exact ⟨hv.1, fun i hi => hv.2 (p.getD i 0) (hp _ (memGetD.2 ⟨i, hi, rfl⟩))⟩
        rw [if_neg (by rw [h3]; simp), if_pos h4, show (f.someL p).ns = f.ns from rfl, h2, if_neg hz]
    · cases h
theorem co_fin5 : ∀ nc : Fin 6, ∀ l ∈ risL nc.1, selL (std.bin .andNot .i64 (pw1 nc.1) (mskL l)) nc.1 = coL nc.1 l := by decide +kernel
theorem cob_fin5 : ∀ (nc : Fin 6) (o : Fin 32), o.1 < 2 ^ nc.1 → selL (std.bin .andNot .i64 (pw1 nc.1) (o.1 : Int)) nc.1 = coL nc.1 (selL (o.1 : Int) 5) ∧ selL (o.1 : Int) 5 ∈ risL nc.1 := by decide +kernel
theorem rng_ris5 : ∀ nc : Fin 6, List.range nc.1 ∈ risL nc.1 := by decide +kernel
theorem pow_le5 {n : Nat} (hn : n ≤ 5) : 2 ^ n ≤ 32 := by
  rcases (by omega : n = 0 ∨ n = 1 ∨ n = 2 ∨ n = 3 ∨ n = 4 ∨ n = 5) with rfl | rfl | rfl | rfl | rfl | rfl <;> decide
theorem left_sees {f : FarmD} (hc : f.check = 0) {t : Nat} (t1 : t < 2 ^ f.nl) : ∃ l, l ∈ risL f.nl ∧ f.lveL = zV (nI l) ∧
    (f.someL (selL (std.bin .andNot .i64 (pw1 f.nl) (mskL l)) f.nl)).bndE = 0 ∧
    ((f.someL (selL (std.bin .andNot .i64 (pw1 f.nl) (t : Int)) f.nl)).bndE = 11 ∨ ((f.someL (selL (std.bin .andNot .i64 (pw1 f.nl) (t : Int)) f.nl)).bndE = 0 ∧ shL (selL (t : Int) 5) l = false)) := by
  have g := good_of_check hc
  have h5 := g.nl
  have hco : ∀ l, (f.someL (coL f.nl l)).check = 0 := fun l => some_check hc (fun j hj => (mem_coL.1 hj).1) (by
    have : (coL f.nl l).length ≤ (List.range f.nl).length := List.length_filter_le _ _
    rw [List.length_range] at this; omega)
  cases hf : (risL f.nl).find? f.lvs with
  | none =>
    exfalso
    have h1 := List.find?_eq_none.1 hf _ (rng_ris5 ⟨f.nl, by omega⟩)
    apply h1
    obtain ⟨c, hcc⟩ := List.exists_mem_of_ne_nil _ (chL_ne g)
    refine lvs_iff.2 ⟨c, hcc, fun j hj => ?_⟩
    obtain ⟨h2, h3⟩ := mem_coL.1 hj
    exact absurd (List.mem_range.2 h2) h3
  | some l =>
    obtain ⟨h1, pre, post, h2, h3⟩ := List.find?_eq_some_iff_append.1 hf
    have hl : l ∈ risL f.nl := by rw [h2]; simp
    refine ⟨l, hl, ?_, ?_, ?_⟩
    · unfold FarmD.lveL
      rw [if_pos hc, hf]
    · rw [co_fin5 ⟨f.nl, by omega⟩ l hl]
      exact (bndE_of (hco l)).1 (some_trs.2 (lvs_iff.1 h1))
    · have h32 := pow_le5 h5
      obtain ⟨k1, k2⟩ := cob_fin5 ⟨f.nl, by omega⟩ ⟨t, by omega⟩ t1
      rw [k1]
      by_cases hx : (f.someL (coL f.nl (selL (t : Int) 5))).trs = []
      · exact .inl ((bndE_of (hco _)).2 hx)
      · refine .inr ⟨(bndE_of (hco _)).1 hx, ?_⟩
        cases hh : shL (selL (t : Int) 5) l with
        | false => rfl
        | true =>
          have := h3 _ (ris_before h5 h2 k2 hh)
          rw [lvs_iff.2 (some_trs.1 hx)] at this
          cases this
end Go.Fz
set_option linter.unusedVariables false
namespace Go.Fz
open Go.Proofs
set_option maxRecDepth 100000
theorem and_fin : ∀ (n : Fin 6) (b : Fin 256), 0 ≤ std.bin .and .i64 (std.conv .i64 (b.1 : Int)) (pw1 n.1) ∧ std.bin .and .i64 (std.conv .i64 (b.1 : Int)) (pw1 n.1) < 2 ^ n.1 := by decide +kernel
theorem bnd_shape {f : FarmD} (hs : f.small) : ∃ N G, Pure Try.prog 29 [farmV f] (.tup [.isl N 6 false G, iV f.bndE]) := by
  have h := bounds29 hs
  by_cases h0 : f.bndE = 0
  · rw [show f.bndL = .isl f.nb 6 false f.bnC from if_pos h0] at h
    exact ⟨_, _, h⟩
  · rw [show f.bndL = nl3 from if_neg h0] at h
    exact ⟨0, fun _ _ => iV 0, h.res (Eqv.tup (.cons Eqv.nil (.cons (Eqv.refl _) .nil)))⟩
theorem ris_sort : ∀ nc : Fin 6, ∀ l ∈ risL nc.1, l.Pairwise (· < ·) := by decide +kernel
set_option maxHeartbeats 16000000 in
theorem bedLeft_ok (haw : Pure Try.prog 19 [] (.lit (.bool true))) (f : FarmD) (b : Int) (b0 : 0 ≤ b) (b1 : b ≤ 255) : Pure Try.prog 16 [farmV f, .lit (.int .u8 b)] (.lit (.bool true)) := by
  obtain ⟨O, hO⟩ : ∃ O : Ar, O = std := ⟨_, rfl⟩
  refine pure_of_body tok 3 Try.func16 en16 rfl ⟨farmV_below f, Below.lit, trivial⟩ Below.lit ?_
  refine SW.seqRun tok hO (by cbv <;> rfl) (by trivial) ?_
  refine SW.seq ?_
  refine SW.seqRun tok hO (by cbv <;> rfl) (by trivial) ?_
  have call := ready_ok f
  generalize hR : f.readyB = t at call
  refine OpsW.callP call (by cbv <;> rfl) ?_
  have hnot : O.not t = !t := by subst hO; rfl
  refine OpsW.run tok hO (by cbv <;> rfl) (by trivial) ?_
  refine SW.condS (by cbv <;> rfl) (fun h1 => ?_) (fun h1 => SW.skip ?_)
  · refine SW.seqRun tok hO (by cbv <;> rfl) (by trivial) ?_
    refine OpsW.callP haw (by cbv <;> rfl) ?_
    refine OpsW.run tok hO (by cbv <;> rfl) (by trivial) ?_
    exact SW.ret ⟨_, _, rfl, rfl, Eqv.refl _⟩
  have ht : t = true := by have := hnot.symm.trans h1; simpa using this
  rw [ht] at hR
  have hck : f.check = 0 := by
    simp only [FarmD.readyB, Bool.and_eq_true, decide_eq_true_eq] at hR
    rw [f.check_eq]; exact hR.2
  have g := good_of_check hck
  have hsm := good_small g
  have hnl := g.nl
  have hns := g.ns
  have hnb := g.nb
  have e21 := farm_ok f (by omega) (by omega) (by omega)
  have e44 := leave44 hsm
  rw [hck] at e44
  have e65 := full65_ok f (by omega)
  obtain ⟨bn, hbn⟩ : ∃ n : Nat, b = (n : Int) := ⟨b.toNat, by omega⟩
  obtain ⟨q1, q2⟩ := and_fin ⟨f.nl, by omega⟩ ⟨bn, by omega⟩
  simp only [← hbn] at q1 q2
  obtain ⟨tn, htn⟩ : ∃ n : Nat, std.bin .and .i64 (std.conv .i64 b) (pw1 f.nl) = (n : Int) := ⟨(std.bin .and .i64 (std.conv .i64 b) (pw1 f.nl)).toNat, by omega⟩
  have ht1 : tn < 2 ^ f.nl := by
    rw [htn] at q2
    exact_mod_cast q2
  obtain ⟨l, hl, hlv, hb1, hb2⟩ := left_sees hck ht1
  rw [hlv, nI_val] at e44
  have hll := risL_len hl
  have hlt := risL_lt hl
  have e57 := bitsOf_ok f.nl (by omega) l (ris_sort ⟨f.nl, by omega⟩ l hl) hlt (by omega)
  have hs5 : ∀ o, (selL o f.nl).length ≤ 7 := fun o => Nat.le_trans (selL_len o f.nl) (by omega)
  have s1 := someL_ok f (std.bin .andNot .i64 (pw1 f.nl) (mskL l)) (by omega)
  have s2 := someL_ok f (std.bin .andNot .i64 (pw1 f.nl) (tn : Int)) (by omega)
  have c1 := farm_ok (f.someL (selL (std.bin .andNot .i64 (pw1 f.nl) (mskL l)) f.nl)) (by show f.nb ≤ 10; omega) (by show f.ns ≤ 6; omega) (hs5 _)
  have c2 := farm_ok (f.someL (selL (std.bin .andNot .i64 (pw1 f.nl) (tn : Int)) f.nl)) (by show f.nb ≤ 10; omega) (by show f.ns ≤ 6; omega) (hs5 _)
  have hsmL : ∀ p : List Nat, p.length ≤ 7 → (f.someL p).small := fun p hp => ⟨by show f.nb < _; omega, by show f.ns < _; omega, by show p.length < _; omega⟩
  obtain ⟨N1, G1, d1⟩ := bnd_shape (hsmL _ (hs5 (std.bin .andNot .i64 (pw1 f.nl) (mskL l))))
  obtain ⟨N2, G2, d2⟩ := bnd_shape (hsmL _ (hs5 (std.bin .andNot .i64 (pw1 f.nl) (tn : Int))))
  have e59 := bits59_ok (tn : Int) (by omega) (by have := pow_le5 hnl; omega)
  have hs5' : (selL (tn : Int) 5).length < 1000 := Nat.lt_of_le_of_lt (selL_len _ _) (by omega)
  have e58 : shL (selL (tn : Int) 5) l = false → Pure Try.prog 58 [lsV (selL (tn : Int) 5), lsV l] (.lit (.bool false)) := fun h => by
    have := shorter_ok (selL (tn : Int) 5).length l.length false false (lI (selL (tn : Int) 5)) (lI l) hs5' (by omega)
    rw [show shortB (selL (tn : Int) 5).length l.length (lI (selL (tn : Int) 5)) (lI l) = false from h] at this
    exact this.res (Eqv.litS false)
  rw [hb1] at d1
  obtain ⟨E2, hE2⟩ : ∃ v, (f.someL (selL (std.bin .andNot .i64 (pw1 f.nl) (tn : Int)) f.nl)).bndE = v := ⟨_, rfl⟩
  rw [hE2] at d2 hb2
  obtain ⟨F1, hF1⟩ : ∃ v, farmV (f.someL (selL (std.bin .andNot .i64 (pw1 f.nl) (mskL l)) f.nl)) = v := ⟨_, rfl⟩
  obtain ⟨F2, hF2⟩ : ∃ v, farmV (f.someL (selL (std.bin .andNot .i64 (pw1 f.nl) (tn : Int)) f.nl)) = v := ⟨_, rfl⟩
  rw [hF1] at d1
  rw [hF2] at d2
  rw [hF1] at s1 c1
  rw [hF2] at s2 c2
  obtain ⟨LT, hLT⟩ : ∃ v, lsV (selL (tn : Int) 5) = v := ⟨_, rfl⟩
  rw [hLT] at e58 e59
  obtain ⟨N, FL, hN⟩ : ∃ N FL, lsV l = intsV N false FL := ⟨_, _, rfl⟩
  rw [hN] at e44 e57 e58
  obtain ⟨MK, hMK⟩ : ∃ v, mskL l = v := ⟨_, rfl⟩
  obtain ⟨PW, hPW⟩ : ∃ v, pw1 f.nl = v := ⟨_, rfl⟩
  rw [hMK] at e57 s1
  rw [hPW] at e65 s1 s2 htn
  rw [← htn] at s2 e59
  rw [← hO] at s1 s2 e59
  clear hb1 hlv hF1 hF2 hLT hMK hPW hE2 htn q1 q2
  refine (show SW _ _ _ _ _ _ from ?_)
  refine SW.seqRun tok hO (by cbv <;> rfl) (by trivial) ?_
  refine OpsW.callP e21 (by cbv <;> rfl) ?_
  refine OpsW.run tok hO (by cbv <;> rfl) (by trivial) ?_
  refine OpsW.callP e44 (by cbv <;> rfl) ?_
  refine OpsW.run tok hO (by cbv <;> rfl) (by trivial) ?_
  refine SW.seqRun tok hO (by cbv <;> rfl) (by trivial) ?_
  refine OpsW.callP e57 (by cbv <;> rfl) ?_
  refine OpsW.run tok hO (by cbv <;> rfl) (by trivial) ?_
  refine SW.seq ?_
  refine SW.seqRun tok hO (by cbv <;> rfl) (by trivial) ?_
  refine OpsW.splitG (by cbv <;> rfl) (fun h => by subst hO; simp [std] at h) (fun h => ?_)
  refine OpsW.run tok hO (by cbv <;> rfl) (by trivial) ?_
  refine SW.condS (by cbv <;> rfl) (fun h2 => ?_) (fun h2 => SW.skip ?_)
  · exfalso; subst hO; simp [std] at h2
  refine (show SW _ _ _ _ _ _ from ?_)
  refine SW.seqRun tok hO (by cbv <;> rfl) (by trivial) ?_
  refine OpsW.callP e65 (by cbv <;> rfl) ?_
  refine OpsW.run tok hO (by cbv <;> rfl) (by trivial) ?_
  refine SW.seqRunD tok mixed hO (by kernel_rfl) (by cbv <;> rfl) (by trivial) ?_
  refine AnyE.callP e65 (by cbv <;> rfl) (by cbv <;> rfl) ?_
  refine AnyE.run tok hO (by kernel_rfl) (by cbv <;> rfl) (by trivial) ?_
  refine AnyE.callP s1 (by cbv <;> rfl) (by cbv <;> rfl) ?_
  refine AnyE.run tok hO (by kernel_rfl) (by cbv <;> rfl) (by trivial) ?_
  refine AnyE.callP c1 (by cbv <;> rfl) (by cbv <;> rfl) ?_
  refine AnyE.run tok hO (by kernel_rfl) (by cbv <;> rfl) (by trivial) ?_
  refine AnyE.callP d1 (by cbv <;> rfl) (by cbv <;> rfl) ?_
  refine AnyE.run tok hO (by kernel_rfl) (by cbv <;> rfl) (by trivial) ?_
  refine SW.seqRunD tok mixed hO (by kernel_rfl) (by cbv <;> rfl) (by trivial) ?_
  refine AnyE.callP e65 (by cbv <;> rfl) (by cbv <;> rfl) ?_
  refine AnyE.run tok hO (by kernel_rfl) (by cbv <;> rfl) (by trivial) ?_
  refine AnyE.callP s2 (by cbv <;> rfl) (by cbv <;> rfl) ?_
  refine AnyE.run tok hO (by kernel_rfl) (by cbv <;> rfl) (by trivial) ?_
  refine AnyE.callP c2 (by cbv <;> rfl) (by cbv <;> rfl) ?_
  refine AnyE.run tok hO (by kernel_rfl) (by cbv <;> rfl) (by trivial) ?_
  refine AnyE.callP d2 (by cbv <;> rfl) (by cbv <;> rfl) ?_
  refine AnyE.run tok hO (by kernel_rfl) (by cbv <;> rfl) (by trivial) ?_
  refine SW.seqRun tok hO (by cbv <;> rfl) (by trivial) ?_
  refine OpsW.splitG (by cbv <;> rfl) (fun h => ?_) (fun h => by subst hO; simp [std] at h)
  refine OpsW.run tok hO (by cbv <;> rfl) (by trivial) ?_
  rcases hb2 with hG | ⟨hG, hsh⟩
  · refine OpsW.splitG (by cbv <;> rfl) (fun h => ?_) (fun h => by subst hO; simp [std, hG] at h)
    refine OpsW.run tok hO (by cbv <;> rfl) (by trivial) ?_
    refine OpsW.callP haw (by cbv <;> rfl) ?_
    refine OpsW.run tok hO (by cbv <;> rfl) (by trivial) ?_
    exact SW.ret ⟨_, _, rfl, rfl, Eqv.of rfl⟩
  · have e58 := e58 hsh
    refine OpsW.splitG (by cbv <;> rfl) (fun h => by subst hO; simp [std, hG] at h) (fun h => ?_)
    refine OpsW.run tok hO (by cbv <;> rfl) (by trivial) ?_
    refine OpsW.splitG (by cbv <;> rfl) (fun h => ?_) (fun h => by subst hO; simp [std, hG] at h)
    refine OpsW.run tok hO (by cbv <;> rfl) (by trivial) ?_
    refine OpsW.callP e59 (by cbv <;> rfl) ?_
    refine OpsW.run tok hO (by cbv <;> rfl) (by trivial) ?_
    refine OpsW.callP e58 (by cbv <;> rfl) ?_
    refine OpsW.run tok hO (by cbv <;> rfl) (by trivial) ?_
    first
      | (refine OpsW.callP haw (by cbv <;> rfl) ?_
         refine OpsW.run tok hO (by cbv <;> rfl) (by trivial) ?_
         exact SW.ret ⟨_, _, rfl, rfl, Eqv.of rfl⟩)
      | (refine OpsW.splitG (by cbv <;> rfl) (fun h => ?_) (fun h => by subst hO; simp [std] at h)
         refine OpsW.run tok hO (by cbv <;> rfl) (by trivial) ?_
         refine OpsW.callP haw (by cbv <;> rfl) ?_
         refine OpsW.run tok hO (by cbv <;> rfl) (by trivial) ?_
         exact SW.ret ⟨_, _, rfl, rfl, Eqv.of rfl⟩)
end Go.Fz
