/- Own work of the verifier of watercress: Lb4, Lb5, Lb8, Lb9, FzV5, FzV6, FzV7, FzX1, FzZ2, FzZ4, FzB1, FzD10, FzD11, FzD12, FzG0. -/
import Derived.ChangeKeysEq
import Derived.Laws.AppendOwn
import Derived.Laws.Cells
import Derived.Laws.CopyRow
import Derived.Laws.Entries
import Derived.Laws.NewFold
import Derived.Laws.Sem
import Derived.Laws.Small
import Derived.Laws.StructEq
import Derived.Laws.Tables
import Derived.Laws.World
import Derived.OrdersHeld
import Derived.OrdersIn
import Derived.RangeFuncLeaves
import Derived.RangeFuncRecord
import Derived.Shelf.Abstract
import Derived.Test.YtpaifaemkoblcaaNa0
import Derived.Test.YtpaifaemkoblcaaNa1
import Derived.Test.YtpaifaemkoblcaaNa2
import Derived.Test.YtpaifaemkoblcaaNa3
import Derived.Test.YtpaifaemkoblcaaProg
import Derived.Test.YtpaifaemkoblcaaNa4
import Derived.Below
import Derived.CallsIn
import Derived.Carry
import Derived.ChangeSame
import Derived.Deep.Slices
import Derived.JoinedCond
import Derived.Laws.Cover3
import Derived.Lib.SmallJoins
import Derived.OpenShut
import Derived.ProofKit
import Derived.WalkKit
import Derived.WideKeyArgs
import Derived.Test.YtpaifaemkoblcaaRows
import Derived.Test.YtpaifaemkoblcaaNa5
import Derived.DeepKeys4
import Derived.Maps.Keyed
import Derived.Maps.RangeRun
import Derived.Test.YtpaifaemkoblcaaNa6
import Derived.Test.YtpaifaemkoblcaaNa7
import Derived.Test.YtpaifaemkoblcaaNa8
import Derived.Test.YtpaifaemkoblcaaNa9
import Derived.Test.YtpaifaemkoblcaaNa10
import Derived.Test.YtpaifaemkoblcaaNa12
import Derived.Test.YtpaifaemkoblcaaNa11
import Derived.Test.YtpaifaemkoblcaaNa13
import Derived.Test.YtpaifaemkoblcaaNa14
import Derived.Test.YtpaifaemkoblcaaNa16
import Derived.Test.YtpaifaemkoblcaaNa24
import Derived.Test.YtpaifaemkoblcaaNa25
import Derived.Test.YtpaifaemkoblcaaNa26
import Derived.Test.YtpaifaemkoblcaaNa19
import Derived.Test.YtpaifaemkoblcaaNa20
import Derived.Test.YtpaifaemkoblcaaNa21
import Derived.Test.YtpaifaemkoblcaaNa22
import Derived.Test.YtpaifaemkoblcaaNa23
import Derived.Test.YtpaifaemkoblcaaNa17
import Derived.Test.YtpaifaemkoblcaaNa18
import Derived.Test.YtpaifaemkoblcaaNa27
import Derived.Test.YtpaifaemkoblcaaNa32
import Derived.Test.YtpaifaemkoblcaaNa35
import Derived.Test.YtpaifaemkoblcaaNa33
import Derived.Test.YtpaifaemkoblcaaNa34
import Derived.Test.YtpaifaemkoblcaaNa28
import Derived.Test.YtpaifaemkoblcaaNa29
import Derived.Test.YtpaifaemkoblcaaNa30
import Derived.Test.YtpaifaemkoblcaaNa31
import Derived.Test.YtpaifaemkoblcaaNa36
import Derived.Test.YtpaifaemkoblcaaNa37
import Derived.Test.YtpaifaemkoblcaaNa38
import Derived.Test.YtpaifaemkoblcaaNa40
import Derived.Test.YtpaifaemkoblcaaNa39
import Derived.Test.YtpaifaemkoblcaaNa41
set_option linter.unusedVariables false
set_option linter.unusedSimpArgs false
namespace Go.Fz
open Go.Proofs
theorem en7 : Enters Try.prog 7 := fun args w => Go.Proofs.enters_of Try.func7 (by kernel_rfl) rfl args w
theorem en24 : Enters Try.prog 24 := fun args w => Go.Proofs.enters_of Try.func24 (by kernel_rfl) rfl args w
theorem en28 : Enters Try.prog 28 := fun args w => Go.Proofs.enters_of Try.func28 (by kernel_rfl) rfl args w
theorem en45 : Enters Try.prog 45 := fun args w => Go.Proofs.enters_of Try.func45 (by kernel_rfl) rfl args w
theorem en46 : Enters Try.prog 46 := fun args w => Go.Proofs.enters_of Try.func46 (by kernel_rfl) rfl args w
theorem en47 : Enters Try.prog 47 := fun args w => Go.Proofs.enters_of Try.func47 (by kernel_rfl) rfl args w
theorem en58 : Enters Try.prog 58 := fun args w => Go.Proofs.enters_of Try.func58 (by kernel_rfl) rfl args w
theorem en59 : Enters Try.prog 59 := fun args w => Go.Proofs.enters_of Try.func59 (by kernel_rfl) rfl args w
theorem en60 : Enters Try.prog 60 := fun args w => Go.Proofs.enters_of Try.func60 (by kernel_rfl) rfl args w
theorem en65 : Enters Try.prog 65 := fun args w => Go.Proofs.enters_of Try.func65 (by kernel_rfl) rfl args w
theorem en75 : Enters Try.prog 75 := fun args w => Go.Proofs.enters_of Try.func75 (by kernel_rfl) rfl args w
theorem en76 : Enters Try.prog 76 := fun args w => Go.Proofs.enters_of Try.func76 (by kernel_rfl) rfl args w
theorem en97 : Enters Try.prog 97 := fun args w => Go.Proofs.enters_of Try.func97 (by kernel_rfl) rfl args w
theorem en104 : Enters Try.prog 104 := fun args w => Go.Proofs.enters_of Try.func104 (by kernel_rfl) rfl args w
end Go.Fz
set_option linter.unusedVariables false
set_option linter.unusedSimpArgs false
namespace Go.Fz
variable {P : Program} {T : Ti}
end Go.Fz
namespace Go.Fz
variable {P : Program} {T : Ti}
end Go.Fz
namespace Go.Fz
variable {P : Program} {T : Ti}
theorem AnyE.appNilK (hT : TOk P T) {rd : Option Nat} {ops : Array Oper} {M : List Nat} {K : Fm → St → Prop} {fuel : Nat} {pend pend' : List (Nat × AV)} {listed : Array Bool} {f : Fm} {st : St} {j t id sz : Nat} {ex : Bool} {cs : List AV}
    (hj : onlyD ops M pend listed = some (j, pend')) (ha : appAt ops j f = some (t, .lit (.slice none 0 0), .sl id 0 1 sz ex)) (hx : st.h.get id = some (.cells none false cs)) (hb : sliceB T t sz = true) (hl : cs.length = sz) (hone : cs.all AV.one = true)
    (hk : AllP (fun p => lightV T ops (st.push (.cells none false cs)).h (putAt ops j f (.sl st.n 0 1 sz false)) p.1 = some p.2) pend')
    (h : AnyE P T ops M rd K fuel pend' (listed.setIfInBounds j true) (putAt ops j f (.sl st.n 0 1 sz false)) (st.push (.cells none false cs))) : AnyE P T ops M rd K (fuel + 1) pend listed f st :=
  AnyE.appK hT hj ha (append_nilB hb hx hl hone) hk h
theorem AnyE.appOneK (hT : TOk P T) {rd : Option Nat} {ops : Array Oper} {M : List Nat} {K : Fm → St → Prop} {fuel : Nat} {pend pend' : List (Nat × AV)} {listed : Array Bool} {f : Fm} {st : St} {j t id id0 sz : Nat} {ex : Bool} {cs : List AV} {G : List AV} {g : Nat → Nat → AV} {len : Nat}
    (hj : onlyD ops M pend listed = some (j, pend')) (ha : appAt ops j f = some (t, .sl id0 0 len sz false, .sl id 0 1 sz ex)) (hx : st.h.get id = some (.cells none false cs)) (hs : st.h.get id0 = some (.cells none false G)) (hG : G = flatG sz g len) (hb : sliceB T t sz = true) (hl : cs.length = sz) (hone : cs.all AV.one = true) (hlen : len < 1048576)
    (h : ∀ G', G' = flatG sz g len ++ cs → AllP (fun p => lightV T ops (St.push ⟨truncH id0 (len * sz) id0 st.h, st.n⟩ (.cells (some id0) false G')).h (putAt ops j f (.sl st.n 0 (len + 1) sz false)) p.1 = some p.2) pend' ∧
      AnyE P T ops M rd K fuel pend' (listed.setIfInBounds j true) (putAt ops j f (.sl st.n 0 (len + 1) sz false)) (St.push ⟨truncH id0 (len * sz) id0 st.h, st.n⟩ (.cells (some id0) false G'))) : AnyE P T ops M rd K (fuel + 1) pend listed f st := by
  subst hG
  obtain ⟨h1, h2⟩ := h _ rfl
  exact AnyE.appK hT hj ha (append_oneB hb hx hl hone hs hlen) h1 h2
end Go.Fz
namespace Go.Fz
variable {P : Program} {T : Ti}
end Go.Fz
namespace Go.Fz
open Go.Proofs
set_option maxRecDepth 100000
theorem mul64_in (a b : Int) (h1 : -9223372036854775808 ≤ a * b) (h2 : a * b ≤ 9223372036854775807) : mul64 a b = a * b := wrp_in (by simpa only [IntKind.lo] using h1) (by simpa only [IntKind.hi] using h2)
end Go.Fz
namespace Go.Fz
open Go.ChangeShapes Go.WideShapes Go.Deep Go.Joins
section
variable {H : Type} {enc : TypeId × Value → H} {P : Program} {w : World} {base : Nat} {spare : Nat → Bool} {held : Bool}
end
end Go.Fz
namespace Go.Proofs.Ytpaifaemkoblcaa
open Go.ChangeShapes Go.WideShapes Go.ChangeAt Go.RowKit Go.Joins
set_option linter.unusedVariables false
set_option maxRecDepth 100000
end Go.Proofs.Ytpaifaemkoblcaa
namespace Go.Fz
open Go.Proofs
set_option maxRecDepth 100000
end Go.Fz
namespace Go.Fz
open Go.Proofs
set_option maxRecDepth 100000
end Go.Fz
namespace Go.Fz
open Go.Proofs
set_option maxRecDepth 100000
end Go.Fz
namespace Go.Fz
open Go.Proofs
set_option maxRecDepth 100000
def quo64 (a b : Int) : Int := wrp .i64 (a.tdiv b)
end Go.Fz
namespace Go.Fz
open Go.Proofs
set_option maxRecDepth 100000
theorem intC_below (fl : Nat → Int) (i k : Nat) : Below 0 (intC fl i k) := Below.lit
end Go.Fz
namespace Go.Fz
open Go.Proofs
set_option maxRecDepth 100000
end Go.Fz
namespace Go.Fz
open Go.Proofs
set_option maxRecDepth 100000
end Go.Fz
namespace Go.Fz
open Go.Proofs
set_option maxRecDepth 100000
end Go.Fz
namespace Go.Fz
open Go.Proofs
set_option maxRecDepth 100000
end Go.Fz
namespace Go.Fz
open Go.Proofs
set_option maxRecDepth 100000
end Go.Fz
namespace Go.Fz
open Go.Proofs
set_option maxRecDepth 100000
end Go.Fz
namespace Go.Fz
open Go.Proofs
set_option maxRecDepth 100000
end Go.Fz
set_option linter.unusedVariables false
set_option linter.unusedSimpArgs false
namespace Go.Fz
open Go.Proofs
set_option maxRecDepth 100000
section
variable {P : Program} {T : Ti}
end
def lsV (p : List Nat) : AV := intsV p.length false fun i => ((p.getD i 0 : Nat) : Int)
theorem lsV_below (p : List Nat) : Below 0 (lsV p) := intsV_below _ _ _
end Go.Fz
namespace Go.Fz
open Go.Proofs
set_option maxRecDepth 100000
section
variable (K : List (List Nat) → Hp → Nat → Prop) (stop : List (List Nat) → List Nat → Hp → Nat → Prop) (ok : List Nat → Prop) (mc y many : Nat) (ex : Bool)
variable {K stop ok mc y many ex}
end
end Go.Fz
namespace Go.Fz
open Go.Proofs
set_option maxRecDepth 100000
section
variable {K : List (List Nat) → Hp → Nat → Prop} {stop : List (List Nat) → List Nat → Hp → Nat → Prop} {ok : List Nat → Prop} {mc y many : Nat}
end
end Go.Fz
namespace Go.Fz
open Go.Proofs
set_option maxRecDepth 100000
section
variable {K : List (List Nat) → Hp → Nat → Prop} {stop : List (List Nat) → List Nat → Hp → Nat → Prop} {ok : List Nat → Prop} {mc y many : Nat}
end
end Go.Fz
namespace Go.Fz
open Go.Proofs
set_option maxRecDepth 100000
section
variable (d : DayD) (XO : AV) (hX : Below 0 XO) (E : List (Mk × Nat)) (cl : Nat) (hb : Born E cl)
end
end Go.Fz
namespace Go.Fz
open Go.Proofs
set_option maxRecDepth 100000
section
variable (d : DayD) (XO : AV) (E : List (Mk × Nat)) (cl : Nat)
end
end Go.Fz
namespace Go.Fz
open Go.Proofs
set_option maxRecDepth 100000
section
variable (d : DayD) (L : Nat) (G : Nat → Nat → AV) (ME : List (AV × AV × Nat)) (cl : Nat)
end
end Go.Fz
namespace Go.Fz
open Go.Proofs
set_option maxRecDepth 100000
section
variable (d : DayD) (L : Nat) (G : Nat → Nat → AV) (ME : List (AV × AV × Nat)) (cl : Nat) (Q : List Nat → Bool)
variable {d L G ME cl}
end
end Go.Fz
namespace Go.Fz
open Go.Proofs
set_option maxRecDepth 100000
end Go.Fz
namespace Go.Fz
open Go.Proofs
set_option maxRecDepth 100000
set_option linter.unusedVariables false
end Go.Fz
namespace Go.Fz
open Go.Proofs
set_option maxRecDepth 100000
set_option linter.unusedVariables false
end Go.Fz
namespace Go.Fz
open Go.Proofs
set_option maxRecDepth 100000
end Go.Fz
namespace Go.Fz
open Go.Proofs
set_option maxRecDepth 100000
section
variable (nw nl : Nat) (f0 f1 f2 f3 : Nat → Int) (z4 z5 z6 z7 : Int)
end
end Go.Fz
namespace Go.Fz
open Go.Proofs
set_option maxRecDepth 100000
section
end
end Go.Fz
namespace Go.Fz
open Go.Proofs
set_option maxRecDepth 100000
def mnN (lo hi : Nat → Int) : Nat → Int
  | 0 => 1
  | i + 1 => minI 3000 (mul64 (mnN lo hi i) (size64 (lo i) (hi i)))
theorem mn_pr (lo hi : Nat → Int) (M : Nat) (hr : ∀ i, i < M → 0 ≤ lo i ∧ lo i ≤ hi i ∧ hi i ≤ 5000) : ∀ i, i ≤ M → (1 ≤ mnN lo hi i ∧ mnN lo hi i ≤ 3000) ∧ ((∀ j, j < i → prN lo hi (j + 1) ≤ 2000) → prN lo hi i = mnN lo hi i ∧ mnN lo hi i ≤ 2000) ∧ ((∃ j, j < i ∧ 2000 < prN lo hi (j + 1)) → 2000 < mnN lo hi i)
  | 0, _ => ⟨⟨by simp [mnN], by simp [mnN]⟩, fun _ => ⟨rfl, by simp [mnN]⟩, fun ⟨j, hj, _⟩ => absurd hj (Nat.not_lt_zero j)⟩
  | i + 1, hi' => by
    obtain ⟨⟨a1, a2⟩, ih1, ih2⟩ := mn_pr lo hi M hr i (by omega)
    obtain ⟨r1, r2, r3⟩ := hr i (by omega)
    have hs := size64_in r1 r2 r3
    obtain ⟨s, hsd⟩ : ∃ s, s = size64 (lo i) (hi i) := ⟨_, rfl⟩
    have hs1 : 1 ≤ s := by omega
    have hs2 : s ≤ 5001 := by omega
    have em : mnN lo hi (i + 1) = minI 3000 (mul64 (mnN lo hi i) s) := by rw [hsd]; rfl
    have ep : prN lo hi (i + 1) = mul64 (prN lo hi i) s := by rw [hsd]; rfl
    have b1 : mnN lo hi i ≤ mnN lo hi i * s := by
      have := Int.mul_le_mul_of_nonneg_left hs1 (show 0 ≤ mnN lo hi i by omega)
      omega
    have b2 : mnN lo hi i * s ≤ 3000 * 5001 := Int.mul_le_mul a2 hs2 (by omega) (by omega)
    have em2 : mul64 (mnN lo hi i) s = mnN lo hi i * s := mul64_in _ _ (by omega) (by omega)
    have emin : mnN lo hi (i + 1) = if mnN lo hi i * s < 3000 then mnN lo hi i * s else 3000 := by rw [em, em2]; rfl
    refine ⟨by rw [emin]; split <;> omega, fun hall => ?_, fun ⟨j, hj, hjp⟩ => ?_⟩
    · obtain ⟨e1, e2⟩ := ih1 fun j hj => hall j (by omega)
      have hl := hall i (by omega)
      rw [ep, e1, em2] at hl
      rw [ep, e1, em2, emin]
      split <;> omega
    · by_cases hex : ∃ j, j < i ∧ 2000 < prN lo hi (j + 1)
      · have := ih2 hex
        rw [emin]; split <;> omega
      · have hall : ∀ j, j < i → prN lo hi (j + 1) ≤ 2000 := fun j hj => by
          rcases Int.lt_or_le 2000 (prN lo hi (j + 1)) with h | h
          · exact absurd ⟨j, hj, h⟩ hex
          · exact h
        obtain ⟨e1, e2⟩ := ih1 hall
        have : j = i := by
          rcases Nat.lt_succ_iff_lt_or_eq.1 hj with h | h
          · exact absurd ⟨j, h, hjp⟩ hex
          · exact h
        subst this
        rw [ep, e1, em2] at hjp
        rw [emin]; split <;> omega
end Go.Fz
namespace Go.Fz
open Go.Proofs
set_option maxRecDepth 100000
end Go.Fz
namespace Go.Fz
open Go.Proofs
set_option maxRecDepth 100000
end Go.Fz
namespace Go.Fz
open Go.Proofs
set_option maxRecDepth 100000
def selL (bits : Int) : Nat → List Nat
  | 0 => []
  | i + 1 => if bitB bits i then selL bits i ++ [i] else selL bits i
theorem selL_len (bits : Int) : ∀ i, (selL bits i).length ≤ i
  | 0 => Nat.le_refl _
  | i + 1 => by
    have := selL_len bits i
    show (if bitB bits i then selL bits i ++ [i] else selL bits i).length ≤ i + 1
    split
    · rw [List.length_append, List.length_singleton]; omega
    · omega
end Go.Fz
namespace Go.Fz
open Go.Proofs
set_option maxRecDepth 100000
end Go.Fz
namespace Go.Fz
open Go.Proofs
set_option maxRecDepth 100000
end Go.Fz
namespace Go.Fz
open Go.Proofs
set_option maxRecDepth 100000
end Go.Fz
namespace Go.Fz
open Go.Proofs
set_option maxRecDepth 100000
end Go.Fz
namespace Go.Fz
open Go.Proofs
set_option maxRecDepth 100000
end Go.Fz
namespace Go.Fz
variable {P : Program}
end Go.Fz
namespace Go.Fz
open Go.Proofs
set_option maxRecDepth 100000
section
variable {P : Program} {T : Ti}
end
end Go.Fz
namespace Go.Fz
open Go.Proofs
set_option maxRecDepth 100000
end Go.Fz
namespace Go.Fz
open Go.Proofs
set_option maxRecDepth 100000
set_option linter.unusedVariables false
end Go.Fz
namespace Go.Fz
open Go.Proofs
set_option maxRecDepth 100000
set_option linter.unusedVariables false
end Go.Fz
namespace Go.Fz
open Go.Proofs
set_option maxRecDepth 100000
set_option linter.unusedVariables false
end Go.Fz
namespace Go.Fz
open Go.Proofs
set_option maxRecDepth 100000
set_option linter.unusedVariables false
end Go.Fz
namespace Go.Fz
open Go.Proofs
set_option maxRecDepth 100000
end Go.Fz
namespace Go.Fz
open Go.Proofs
set_option maxRecDepth 100000
def fullI (n : Nat) : Int := std.bin .sub .i64 (std.bin .shl .i64 1 (std.conv .u64 (n : Int))) 1
def befF (fa fb : Nat → Int) (na nb : Nat) : Nat → Nat → Bool
  | _, 0 => decide ((na : Int) < nb)
  | i, k + 1 => if i < na ∧ i < nb then (if fa i = fb i then befF fa fb na nb (i + 1) k else decide (fa i < fb i)) else decide ((na : Int) < nb)
set_option pp.deepTerms false
set_option pp.deepTerms.threshold 5
def shortB (na nb : Nat) (fa fb : Nat → Int) : Bool := decide ((na : Int) < nb) || (decide ((na : Int) = nb) && befF fa fb na nb 0 (na + 1))
end Go.Fz
namespace Go.Fz
open Go.Proofs
set_option maxRecDepth 100000
def lI (l : List Nat) (i : Nat) : Int := ((l.getD i 0 : Nat) : Int)
theorem lI_snoc (l : List Nat) (i : Nat) : flatG 1 (intC (lI l)) l.length ++ [iV (i : Int)] = flatG 1 (intC (lI (l ++ [i]))) (l.length + 1) := by
  have h1 : flatG 1 (intC (lI (l ++ [i]))) l.length = flatG 1 (intC (lI l)) l.length := flatG_congr fun j k hj => by
    show iV (lI (l ++ [i]) j) = iV (lI l j)
    unfold lI
    rw [List.getD_eq_getElem?_getD, List.getElem?_append_left hj, ← List.getD_eq_getElem?_getD]
  have h2 : lI (l ++ [i]) l.length = (i : Int) := by unfold lI; simp
  show _ = flatG 1 (intC (lI (l ++ [i]))) l.length ++ [iV (lI (l ++ [i]) l.length)]
  rw [h1, h2]
theorem bits_fin : ∀ (n : Fin 32) (i : Fin 6), (std.cmp .gtr (std.bin .shr .i64 (n.1 : Int) (std.conv .u64 (i.1 : Int))) 0 = true → i.1 < 5) ∧ (std.cmp .gtr (std.bin .shr .i64 (n.1 : Int) (std.conv .u64 (i.1 : Int))) 0 = false → selL (n.1 : Int) i.1 = selL (n.1 : Int) 5) := by
  decide +kernel
end Go.Fz
namespace Go.Fz
open Go.Proofs
set_option maxRecDepth 100000
theorem oth_fin : ∀ (many : Fin 6) (o : Fin 32), o.1 < 2 ^ many.1 → (selL (o.1 : Int) 5 ∈ risL many.1) ∧ (∀ j : Fin 5, bitB (std.bin .andNot .i64 (fullI many.1) (o.1 : Int)) j.1 = (decide (j.1 < many.1) && !bitB (o.1 : Int) j.1)) := by
  decide +kernel
def shL (a b : List Nat) : Bool := shortB a.length b.length (lI a) (lI b)
theorem ord_fin : ∀ many : Fin 6, (risL many.1).Pairwise (fun x y => shL y x = false) ∧ (∀ l ∈ risL many.1, shL l l = false) ∧ List.range many.1 ∈ risL many.1 := by
  decide +kernel
theorem ris_before {many : Nat} (hm : many ≤ 5) {pre post : List (List Nat)} {l a : List Nat} (hE : risL many = pre ++ l :: post) (ha : a ∈ risL many) (hs : shL a l = true) : a ∈ pre := by
  obtain ⟨h1, h2, _⟩ := ord_fin ⟨many, by omega⟩
  simp only at h1 h2
  have hl := h2 l (by rw [hE]; simp)
  rw [hE] at h1 ha
  rcases List.mem_append.1 ha with ha | ha
  · exact ha
  · rcases List.mem_cons.1 ha with rfl | ha
    · rw [hl] at hs; cases hs
    · have := (List.pairwise_append.1 h1).2.1
      have := (List.pairwise_cons.1 this).1 a ha
      rw [this] at hs; cases hs
end Go.Fz
namespace Go.Fz
open Go.Proofs
set_option maxRecDepth 100000
theorem find_split {α : Type} {p : α → Bool} : ∀ {l : List α} {a : α}, l.find? p = some a → ∃ pre post, l = pre ++ a :: post ∧ (∀ b ∈ pre, p b = false) ∧ p a = true
  | [], _, h => by cases h
  | x :: l, a, h => by
    rw [List.find?_cons] at h
    split at h
    · rename_i hx
      cases h
      exact ⟨[], l, rfl, (fun b hb => by cases hb), hx⟩
    · rename_i hx
      obtain ⟨pre, post, h1, h2, h3⟩ := find_split h
      refine ⟨x :: pre, post, by rw [h1]; rfl, fun b hb => ?_, h3⟩
      rcases List.mem_cons.1 hb with rfl | hb
      · simpa using hx
      · exact h2 b hb
theorem find_in {many : Nat} {p : List Nat → Bool} {l : List Nat} (h : (risL many).find? p = some l) : l ∈ risL many ∧ p l = true := by
  obtain ⟨pre, post, h1, _, h3⟩ := find_split h
  exact ⟨by rw [h1]; simp, h3⟩
theorem find_ex {many : Nat} {p : List Nat → Bool} {a : List Nat} (ha : a ∈ risL many) (hp : p a = true) : ∃ l, (risL many).find? p = some l := by
  cases h : (risL many).find? p with
  | some l => exact ⟨l, rfl⟩
  | none =>
    have := List.find?_eq_none.1 h a ha
    rw [hp] at this; exact absurd rfl this
section
variable (d : DayD) (k w lo hi : Int)
end
end Go.Fz
namespace Go.Fz
open Go.Proofs
set_option maxRecDepth 100000
section
variable {T : Ti}
end
end Go.Fz
namespace Go.Fz
open Go.Proofs
set_option maxRecDepth 100000
section
variable {P : Program} {T : Ti}
end
end Go.Fz
namespace Go.Fz
open Go.Proofs
set_option maxRecDepth 100000
end Go.Fz
namespace Go.Fz
open Go.Proofs
set_option maxRecDepth 100000
set_option linter.unusedVariables false
def bitsN (b : Nat → Bool) : Nat → Int
  | 0 => 0
  | i + 1 => if b i then std.bin .or .i64 (bitsN b i) (std.bin .shl .i64 1 (std.conv .u64 (Int.ofNat i))) else bitsN b i
end Go.Fz
namespace Go.Fz
open Go.Proofs
set_option maxRecDepth 100000
set_option linter.unusedVariables false
end Go.Fz
namespace Go.Fz
open Go.Proofs
set_option maxRecDepth 100000
set_option linter.unusedVariables false
end Go.Fz
namespace Go.Fz
open Go.Proofs
set_option maxRecDepth 100000
end Go.Fz
namespace Go.Fz
open Go.Proofs
set_option maxRecDepth 100000
set_option linter.unusedVariables false
section
variable {P : Program}
end
end Go.Fz
namespace Go.Fz
open Go.Proofs
set_option maxRecDepth 100000
set_option linter.unusedVariables false
end Go.Fz
namespace Go.Fz
open Go.Proofs
set_option maxRecDepth 100000
set_option linter.unusedVariables false
end Go.Fz
namespace Go.Fz
open Go.Proofs
set_option maxRecDepth 100000
set_option linter.unusedVariables false
def rkL (b : Nat) : Nat := (risL 5).idxOf (selL (b : Int) 5)
theorem rk_fin : ∀ a b : Fin 32, shL (selL (a.1 : Int) 5) (selL (b.1 : Int) 5) = decide (rkL a.1 < rkL b.1) ∧ (rkL a.1 = rkL b.1 → a = b) := by decide +kernel
theorem onto_fin : ∀ n : Fin 6, ∀ l ∈ risL n.1, ∃ b : Fin 32, b.1 < 2 ^ n.1 ∧ selL (b.1 : Int) 5 = l := by decide +kernel
theorem pow_le32 {n : Nat} (hn : n ≤ 5) : 2 ^ n ≤ 32 := Nat.pow_le_pow_right (n := 2) (by decide) hn
theorem rk_lt {a b : Nat} (ha : a < 32) (hb : b < 32) : shL (selL (a : Int) 5) (selL (b : Int) 5) = decide (rkL a < rkL b) := (rk_fin ⟨a, ha⟩ ⟨b, hb⟩).1
theorem rk_inj {a b : Nat} (ha : a < 32) (hb : b < 32) (h : rkL a = rkL b) : a = b := congrArg Fin.val ((rk_fin ⟨a, ha⟩ ⟨b, hb⟩).2 h)
def minB (P : Nat → Bool) (m b : Nat) : Prop := b < 32 ∧ P b = true ∧ ∀ b', b' < m → P b' = true → rkL b ≤ rkL b'
theorem min_find {n : Nat} (hn : n ≤ 5) {P : Nat → Bool} {Q : List Nat → Bool} (h : ∀ b : Nat, b < 2 ^ n → Q (selL (b : Int) 5) = P b) {b : Nat} (hb : b < 2 ^ n) (hm : minB P (2 ^ n) b) : (risL n).find? Q = some (selL (b : Int) 5) := by
  obtain ⟨m1, m2, m3⟩ := hm
  have h32 := pow_le32 hn
  have hin : selL (b : Int) 5 ∈ risL n := (oth_fin ⟨n, by omega⟩ ⟨b, m1⟩ hb).1
  obtain ⟨l, hl⟩ := find_ex hin (by rw [h b hb]; exact m2 : Q (selL (b : Int) 5) = true)
  rw [hl]
  obtain ⟨pre, post, hE, hpre, hq⟩ := find_split hl
  have hlin := (find_in hl).1
  obtain ⟨c, hc, hc2⟩ := onto_fin ⟨n, by omega⟩ l hlin
  have hc3 : c.1 < 2 ^ n := hc
  have hPc : P c.1 = true := by rw [← h c.1 hc3, hc2]; exact hq
  have h1 := m3 c.1 hc3 hPc
  have h2 : ¬ rkL b < rkL c.1 := fun hlt => by
    have hs : shL (selL (b : Int) 5) l = true := by rw [← hc2, rk_lt m1 c.2]; exact decide_eq_true hlt
    have := hpre _ (ris_before hn hE hin hs)
    rw [h b hb, m2] at this; cases this
  have h3 : b = c.1 := rk_inj m1 c.2 (by omega)
  rw [← hc2, h3]
def lvS (P : Nat → Bool) (l0 : List Nat) : Nat → List Nat
  | 0 => l0
  | m + 1 => if shL (selL (m : Int) 5) (lvS P l0 m) && P m then selL (m : Int) 5 else lvS P l0 m
theorem leS_min {P : Nat → Bool} {b0 N : Nat} (hb0 : b0 < N) (hN : N ≤ 32) (hP0 : P b0 = true) : ∀ m, m ≤ N → ∃ b, b < N ∧ lvS P (selL (b0 : Int) 5) m = selL (b : Int) 5 ∧ minB P m b
  | 0, _ => ⟨b0, hb0, rfl, by omega, hP0, fun b' h => absurd h (Nat.not_lt_zero b')⟩
  | m + 1, hm => by
    obtain ⟨b, h0, h1, h2, h3, h4⟩ := leS_min hb0 hN hP0 m (by omega)
    unfold lvS
    rw [h1, rk_lt (by omega) h2]
    by_cases hlt : rkL m < rkL b ∧ P m = true
    · rw [decide_eq_true hlt.1, hlt.2]
      refine ⟨m, by omega, rfl, by omega, hlt.2, fun b' hb' hp' => ?_⟩
      rcases Nat.lt_succ_iff_lt_or_eq.1 hb' with h | rfl
      · exact Nat.le_trans (Nat.le_of_lt hlt.1) (h4 b' h hp')
      · exact Nat.le_refl _
    · have hf : (decide (rkL m < rkL b) && P m) = false := by
        cases hb : (decide (rkL m < rkL b) && P m) with
        | false => rfl
        | true =>
          rw [Bool.and_eq_true, decide_eq_true_eq] at hb
          exact absurd hb hlt
      rw [hf]
      refine ⟨b, h0, rfl, h2, h3, fun b' hb' hp' => ?_⟩
      rcases Nat.lt_succ_iff_lt_or_eq.1 hb' with h | rfl
      · exact h4 b' h hp'
      · by_cases h5 : rkL b' < rkL b
        · exact absurd ⟨h5, hp'⟩ hlt
        · omega
theorem leS_find {n : Nat} (hn : n ≤ 5) {P : Nat → Bool} {Q : List Nat → Bool} (h : ∀ b : Nat, b < 2 ^ n → Q (selL (b : Int) 5) = P b) {b0 : Nat} (hb0 : b0 < 2 ^ n) (hP0 : P b0 = true) : (risL n).find? Q = some (lvS P (selL (b0 : Int) 5) (2 ^ n)) := by
  obtain ⟨b, hb, h1, hm⟩ := leS_min hb0 (pow_le32 hn) hP0 (2 ^ n) (Nat.le_refl _)
  rw [h1, min_find hn h hb hm]
end Go.Fz
set_option linter.unusedVariables false
set_option linter.unusedSimpArgs false
namespace Go.Fz
open Go.Proofs
set_option maxRecDepth 100000
set_option linter.unusedVariables false
end Go.Fz
namespace Go.Fz
open Go.Proofs
set_option maxRecDepth 100000
set_option linter.unusedVariables false
end Go.Fz
namespace Go.Fz
open Go.Proofs
set_option maxRecDepth 100000
end Go.Fz
namespace Go.Fz
open Go.Proofs
set_option maxRecDepth 100000
end Go.Fz
namespace Go.Fz
open Go.Proofs
set_option maxRecDepth 100000
end Go.Fz
namespace Go.Fz
open Go.Proofs
set_option maxRecDepth 100000
end Go.Fz
namespace Go.Fz
open Go.Proofs
set_option maxRecDepth 100000
set_option linter.unusedVariables false
end Go.Fz
namespace Go.Fz
open Go.Proofs
set_option maxRecDepth 100000
set_option linter.unusedVariables false
section
variable {n : Nat} {lo hi t : Nat → Int}
end
end Go.Fz
namespace Go.Fz
open Go.Proofs
set_option maxRecDepth 100000
set_option linter.unusedVariables false
end Go.Fz
namespace Go.Fz
open Go.Proofs
set_option maxRecDepth 100000
set_option linter.unusedVariables false
end Go.Fz
namespace Go.Fz
open Go.Proofs
set_option maxRecDepth 100000
set_option linter.unusedVariables false
end Go.Fz
namespace Go.Fz
open Go.Proofs
set_option maxRecDepth 100000
set_option linter.unusedVariables false
end Go.Fz
namespace Go.Fz
open Go.Proofs
set_option maxRecDepth 100000
variable {d x : DayD}
end Go.Fz
namespace Go.Fz
open Go.Proofs
set_option maxRecDepth 100000
set_option linter.unusedVariables false
end Go.Fz
namespace Go.Fz
open Go.Proofs
set_option maxRecDepth 100000
set_option linter.unusedVariables false
section
variable {d : DayD} {x : List Nat} {fe : Nat → Int}
end
end Go.Fz
namespace Go.Fz
open Go.Proofs
set_option maxRecDepth 100000
set_option linter.unusedVariables false
section
variable {P : Program} {T : Ti}
end
end Go.Fz
namespace Go.Fz
open Go.Proofs
set_option maxRecDepth 100000
set_option linter.unusedVariables false
section
variable {P : Program} {T : Ti}
end
end Go.Fz
namespace Go.Fz
open Go.Proofs
set_option maxRecDepth 100000
set_option linter.unusedVariables false
end Go.Fz
namespace Go.Fz
open Go.Proofs
set_option maxRecDepth 100000
set_option linter.unusedVariables false
end Go.Fz
namespace Go.Fz
open Go.Proofs
set_option maxRecDepth 100000
set_option linter.unusedVariables false
end Go.Fz
namespace Go.Fz
open Go.Proofs
set_option maxRecDepth 100000
set_option linter.unusedVariables false
end Go.Fz
namespace Go.Fz
open Go.Proofs
set_option maxRecDepth 100000
set_option linter.unusedVariables false
end Go.Fz
namespace Go.Fz
open Go.Proofs
set_option maxRecDepth 100000
set_option linter.unusedVariables false
end Go.Fz
namespace Go.Fz
open Go.Proofs
set_option maxRecDepth 100000
set_option linter.unusedVariables false
end Go.Fz
namespace Go.Proofs.Ytpaifaemkoblcaa
open Go.ChangeShapes Go.WideShapes Go.ChangeAt Go.RowKit Go.Joins
set_option linter.unusedVariables false
set_option maxRecDepth 100000
end Go.Proofs.Ytpaifaemkoblcaa
namespace Go.Fz
open Go.Proofs
set_option maxRecDepth 100000
set_option linter.unusedVariables false
def canB (A : Nat → Int) (c : Int) (N : Nat) : Bool := decide (∃ i, i < N ∧ std.cmp .eql (std.bin .and .i64 (A i) c) c = true)
def upTo (k : Nat) : Int := std.bin .sub .i64 (std.bin .shl .i64 2 (std.conv .u64 (Int.ofNat k))) 1
theorem full_fin2 : ∀ n : Fin 6, fullI n.1 = Int.ofNat (2 ^ n.1 - 1) := by decide +kernel
end Go.Fz
namespace Go.Fz
open Go.Proofs
set_option maxRecDepth 100000
set_option linter.unusedVariables false
end Go.Fz
namespace Go.Fz
open Go.Proofs
set_option maxRecDepth 100000
set_option linter.unusedVariables false
end Go.Fz
namespace Go.Fz
open Go.Proofs
set_option maxRecDepth 100000
set_option linter.unusedVariables false
end Go.Fz
namespace Go.Fz
open Go.Proofs
set_option maxRecDepth 100000
set_option linter.unusedVariables false
end Go.Fz
namespace Go.Fz
open Go.Proofs
set_option maxRecDepth 100000
set_option linter.unusedVariables false
end Go.Fz
namespace Go.Fz
open Go.Proofs
set_option maxRecDepth 100000
set_option linter.unusedVariables false
end Go.Fz
namespace Go.Fz
open Go.Proofs
set_option maxRecDepth 100000
set_option linter.unusedVariables false
section
variable {P : Program} {T : Ti}
end
end Go.Fz
namespace Go.Fz
open Go.Proofs
set_option maxRecDepth 100000
set_option linter.unusedVariables false
end Go.Fz
namespace Go.Fz
open Go.Proofs
set_option maxRecDepth 100000
set_option linter.unusedVariables false
end Go.Fz
namespace Go.Fz
open Go.Proofs
set_option maxRecDepth 100000
set_option linter.unusedVariables false
end Go.Fz
namespace Go.Fz
open Go.Proofs
set_option maxRecDepth 100000
set_option linter.unusedVariables false
end Go.Fz
namespace Go.Fz
open Go.Proofs
set_option maxRecDepth 100000
set_option linter.unusedVariables false
end Go.Fz
namespace Go.Fz
open Go.Proofs
set_option maxRecDepth 100000
set_option linter.unusedVariables false
end Go.Fz
namespace Go.Fz
open Go.Proofs
set_option maxRecDepth 100000
set_option linter.unusedVariables false
end Go.Fz
namespace Go.Fz
open Go.Proofs
set_option maxRecDepth 100000
set_option linter.unusedVariables false
end Go.Fz
namespace Go.Fz
open Go.Proofs
set_option maxRecDepth 100000
set_option linter.unusedVariables false
end Go.Fz
namespace Go.Fz
open Go.Proofs
set_option maxRecDepth 100000
set_option linter.unusedVariables false
end Go.Fz
namespace Go.Fz
open Go.Proofs
set_option maxRecDepth 100000
set_option linter.unusedVariables false
end Go.Fz
namespace Go.Fz
open Go.Proofs
set_option maxRecDepth 100000
set_option linter.unusedVariables false
end Go.Fz
namespace Go.Fz
open Go.Proofs
set_option maxRecDepth 100000
set_option linter.unusedVariables false
end Go.Fz
namespace Go.Fz
open Go.Proofs
set_option maxRecDepth 100000
set_option linter.unusedVariables false
end Go.Fz
namespace Go.Fz
open Go.Proofs
set_option maxRecDepth 100000
set_option linter.unusedVariables false
end Go.Fz
namespace Go.Fz
open Go.Proofs
set_option maxRecDepth 100000
set_option linter.unusedVariables false
section
variable (d : DayD) (m : Nat) (k w lo hi : Nat → Int)
end
end Go.Fz
namespace Go.Proofs.Ytpaifaemkoblcaa
open Go.ChangeShapes Go.WideShapes Go.ChangeAt Go.RowKit Go.Joins
set_option linter.unusedVariables false
set_option maxRecDepth 100000
end Go.Proofs.Ytpaifaemkoblcaa
namespace Go.Fz
open Go.Proofs
set_option maxRecDepth 100000
set_option linter.unusedVariables false
section
variable {P : Program} {T : Ti} {β γ : Type}
variable [DecidableEq β]
end
end Go.Fz
namespace Go.Fz
set_option maxRecDepth 100000
set_option linter.unusedVariables false
section
variable {α : Type}
end
end Go.Fz
namespace Go.Fz
open Go.Proofs
set_option maxRecDepth 100000
set_option maxHeartbeats 4000000 in
theorem water_ok (f : FarmD) (hs : f.small) (n : Nat) (ex : Bool) (fl : Nat → Int) (hn : n < 1000) (hns : f.ns ≤ n) (bed : Nat) : bed < f.nb → Pure Try.prog 76 [farmV f, intsV n ex fl, iV bed] (iV (f.waN fl bed)) := by
  induction bed using Nat.strongRecOn with
  | _ bed ih =>
  intro hbed
  obtain ⟨O, hO⟩ : ∃ O : Ar, O = std := ⟨_, rfl⟩
  have hnb := hs.1
  refine pure_of_body tok 3 Try.func76 en76 rfl ⟨farmV_below f, intsV_below n ex fl, iV_below, trivial⟩ Below.lit ?_
  refine SW.seqRun tok hO (by cbv <;> rfl) (by trivial) ?_
  refine SW.seqRun tok hO (by cbv <;> rfl) (by trivial) ?_
  refine SW.seq ?_
  refine SW.seqRun tok hO (by cbv <;> rfl) (by trivial) ?_
  refine (SW.block (SW.loopF (fun i : Nat => ⟨⟨59, getT [(1, intsV n ex fl), (2, iV bed), (3, .ptr 0 0), (6, iV 0), (7, iV (f.inS fl bed i)), (8, iV i)]⟩, []⟩) (fun _ => ⟨[(0, .cells none false [springsV f, bedsV f, looksV f])], 1⟩) (fun i => f.ns - i) (fun i => i ≤ f.ns) 0
    (fun _ => rfl) (Nat.zero_le _) (Weak.by rfl rfl (by simp) (Nat.le_refl _) (Nat.le_refl _) ⟨⟨rfl, .inl rfl⟩, ⟨rfl, .inl rfl⟩, ⟨rfl, .inl rfl⟩, ⟨rfl, .inl rfl⟩, ⟨rfl, .inl rfl⟩, ⟨rfl, .inl rfl⟩, trivial⟩ ⟨⟨rfl, by omega, .inl rfl⟩, trivial⟩) fun i hi => ?_))
  generalize hB : f.inS fl bed i = B
  refine SW.seq ?_
  refine SW.seqRun tok hO (by cbv <;> rfl) (by trivial) ?_
  refine SW.condS (by cbv <;> rfl) (fun h => SW.skip ?_) (fun h => SW.exit ?_)
  · have hlt : i < f.ns := by subst hO; simpa [std] using h
    have h0 : (0 : Int) ≤ Int.ofNat i := Int.natCast_nonneg i
    refine SW.seq (SW.block ?_)
    refine SW.seqRun tok hO (by cbv <;> rfl) ?_ ?_
    · exact ⟨h0, Int.ofNat_lt.2 hlt⟩
    refine SW.condS (by cbv <;> rfl) (fun h' => ?_) (fun h' => SW.skip ?_)
    · refine SW.run tok hO (by cbv <;> rfl) ?_ ?_
      · exact ⟨h0, Int.ofNat_lt.2 (by omega)⟩
      refine SW.run tok hO (by cbv <;> rfl) (by trivial) ?_
      refine ⟨i + 1, by omega, by omega, Weak.by rfl rfl (by simp) (Nat.le_refl _) (Nat.le_refl _) ⟨⟨rfl, .inl rfl⟩, ⟨rfl, .inl rfl⟩, ⟨rfl, .inl rfl⟩, ⟨rfl, .inl rfl⟩, ⟨?_, .inl rfl⟩, ⟨inc_ok hO (by omega), .inl rfl⟩, trivial⟩ ⟨⟨rfl, by omega, .inl rfl⟩, trivial⟩⟩
      have hm : f.sb i = (bed : Int) := by subst hO; simpa [std] using h'
      have e : f.inS fl bed (i + 1) = add64 B (fl i) := by simp only [FarmD.inS, hm, if_true, hB]
      rw [e]; subst hO; rfl
    · refine SW.run tok hO (by cbv <;> rfl) (by trivial) ?_
      refine ⟨i + 1, by omega, by omega, Weak.by rfl rfl (by simp) (Nat.le_refl _) (Nat.le_refl _) ⟨⟨rfl, .inl rfl⟩, ⟨rfl, .inl rfl⟩, ⟨rfl, .inl rfl⟩, ⟨rfl, .inl rfl⟩, ⟨?_, .inl rfl⟩, ⟨inc_ok hO (by omega), .inl rfl⟩, trivial⟩ ⟨⟨rfl, by omega, .inl rfl⟩, trivial⟩⟩
      have hm : ¬ f.sb i = (bed : Int) := by subst hO; simpa [std] using h'
      have e : f.inS fl bed (i + 1) = B := by simp only [FarmD.inS, hm, if_false, hB]
      rw [e]; rfl
  have hin : i = f.ns := by
    have : f.ns ≤ i := by subst hO; simpa [std] using h
    omega
  refine SW.seq ?_
  refine SW.seqRun tok hO (by cbv <;> rfl) (by trivial) ?_
  refine (SW.block (SW.loopF (fun i : Nat => ⟨⟨59, getT [(1, intsV n ex fl), (2, iV bed), (3, .ptr 0 0), (6, iV 0), (7, iV (f.inB fl (f.waN fl) bed i)), (9, iV i)]⟩, []⟩) (fun _ => ⟨[(0, .cells none false [springsV f, bedsV f, looksV f])], 1⟩) (fun i => bed - i) (fun i => i ≤ bed) 0
    (fun _ => rfl) (Nat.zero_le _) (Weak.by rfl rfl (by simp) (Nat.le_refl _) (Nat.le_refl _) ⟨⟨rfl, .inl rfl⟩, ⟨rfl, .inl rfl⟩, ⟨rfl, .inl rfl⟩, ⟨rfl, .inl rfl⟩, ⟨?_, .inl rfl⟩, ⟨rfl, .inl rfl⟩, trivial⟩ ⟨⟨rfl, by omega, .inl rfl⟩, trivial⟩) fun i hi => ?_))
  · rw [← hB, hin]; rfl
  clear hB h hin
  generalize hB : f.inB fl (f.waN fl) bed i = B
  refine SW.seq ?_
  refine SW.seqRun tok hO (by cbv <;> rfl) (by trivial) ?_
  refine SW.condS (by cbv <;> rfl) (fun h => SW.skip ?_) (fun h => SW.exit ?_)
  · have hlt : i < bed := by subst hO; simpa [std] using h
    have h0 : (0 : Int) ≤ Int.ofNat i := Int.natCast_nonneg i
    have hnat : O.nat (Int.ofNat i) = i := by subst hO; rfl
    have call := ih i hlt (by omega)
    generalize hW : f.waN fl i = W at call
    refine SW.seq (SW.block ?_)
    refine SW.seqRun tok hO (by cbv <;> rfl) ?_ ?_
    · exact ⟨h0, Int.ofNat_lt.2 (show i < f.nb by omega)⟩
    refine SW.condS (by cbv <;> rfl) (fun h' => ?_) (fun h' => SW.skip ?_)
    · refine SW.runD tok mixed hO (by rfl) (by cbv <;> rfl) ?_ ?_
      · exact ⟨h0, Int.ofNat_lt.2 (show i < f.nb by omega)⟩
      refine AnyE.callI call (by cbv <;> rfl) (by cbv <;> rfl) fun v hv => ?_
      refine AnyE.run tok hO (by rfl) (by cbv <;> rfl) (by trivial) ?_
      refine AnyE.eff tok hO (by cbv <;> rfl) (by cbv <;> rfl) (by trivial) ?_
      refine AnyE.done (by rfl) ?_
      refine SW.run tok hO (by cbv <;> rfl) (by trivial) ?_
      refine ⟨i + 1, by omega, by omega, Weak.by rfl rfl (by simp) (Nat.le_refl _) (Nat.le_refl _) ⟨⟨rfl, .inl rfl⟩, ⟨rfl, .inl rfl⟩, ⟨rfl, .inl rfl⟩, ⟨rfl, .inl rfl⟩, ⟨?_, .inl rfl⟩, ⟨inc_ok hO (by omega), .inl rfl⟩, trivial⟩ ⟨⟨rfl, by omega, .inl rfl⟩, trivial⟩⟩
      have hm : f.down i = (bed : Int) := by subst hO; simpa [std] using h'
      have e : f.inB fl (f.waN fl) bed (i + 1) = add64 B (maxI 0 (sub64 W (f.notch i))) := by simp only [FarmD.inB, hm, if_true, hB, hW]
      rw [e]; subst hO; subst hv; rfl
    · refine SW.run tok hO (by cbv <;> rfl) (by trivial) ?_
      refine ⟨i + 1, by omega, by omega, Weak.by rfl rfl (by simp) (Nat.le_refl _) (Nat.le_refl _) ⟨⟨rfl, .inl rfl⟩, ⟨rfl, .inl rfl⟩, ⟨rfl, .inl rfl⟩, ⟨rfl, .inl rfl⟩, ⟨?_, .inl rfl⟩, ⟨inc_ok hO (by omega), .inl rfl⟩, trivial⟩ ⟨⟨rfl, by omega, .inl rfl⟩, trivial⟩⟩
      have hm : ¬ f.down i = (bed : Int) := by subst hO; simpa [std] using h'
      have e : f.inB fl (f.waN fl) bed (i + 1) = B := by simp only [FarmD.inB, hm, if_false, hB]
      rw [e]; rfl
  · refine SW.seqRun tok hO (by cbv <;> rfl) (by trivial) ?_
    have hge : bed ≤ i := by subst hO; simpa [std] using h
    have hib : i = bed := by omega
    refine SW.ret ⟨_, _, rfl, rfl, Eqv.int ?_⟩
    rw [← hB, hib]; exact (f.waN_eq fl bed).symm
end Go.Fz
namespace Go.Fz
open Go.Proofs
set_option maxRecDepth 100000
def atV (w d : Int) : AV := .agg [iV w, iV d, iV (sub64 w d)]
set_option maxHeartbeats 4000000 in
theorem at_ok (f : FarmD) (hs : f.small) (n : Nat) (ex : Bool) (fl : Nat → Int) (hn : n < 1000) (hns : f.ns ≤ n) (bed : Nat) (hb : bed < f.nb) :
    Pure Try.prog 28 [farmV f, intsV n ex fl, iV bed] (atV (f.waN fl bed) (minI (f.waN fl bed) (f.notch bed))) := by
  obtain ⟨O, hO⟩ : ∃ O : Ar, O = std := ⟨_, rfl⟩
  have call := water_ok f hs n ex fl hn hns bed hb
  generalize f.waN fl bed = w at call ⊢
  have h0 : (0 : Int) ≤ Int.ofNat bed := Int.natCast_nonneg bed
  refine pure_of_body tok 3 Try.func28 en28 rfl ⟨farmV_below f, intsV_below n ex fl, iV_below, trivial⟩ (Below.agg (AllB.ok ⟨Below.lit, Below.lit, Below.lit, trivial⟩)) ?_
  refine SW.seqRun tok hO (by cbv <;> rfl) (by trivial) ?_
  refine SW.seqRun tok hO (by cbv <;> rfl) (by trivial) ?_
  refine OpsW.callI call (by cbv <;> rfl) fun v hv => ?_
  refine OpsW.run tok hO (by cbv <;> rfl) (by trivial) ?_
  refine SW.seqRun tok hO (by cbv <;> rfl) ?_ ?_
  · exact ⟨h0, Int.ofNat_lt.2 hb⟩
  refine SW.seqRun tok hO (by cbv <;> rfl) (by trivial) ?_
  refine SW.ret ⟨_, _, rfl, rfl, Eqv.of ?_⟩
  subst hO; subst hv; rfl
end Go.Fz
namespace Go.Fz
open Go.Proofs
set_option maxRecDepth 100000
def FarmD.rightN (f : FarmD) (fl : Nat → Int) (i : Nat) : Bool :=
  if f.lov i then Go.Fz.inB (sub64 (f.waN fl (f.lb i).toNat) (f.downN fl (f.lb i).toNat)) (f.llo i) (f.lhi i) else Go.Fz.inB (f.downN fl (f.lb i).toNat) (f.llo i) (f.lhi i)
set_option maxHeartbeats 4000000 in
theorem rightN_ok (f : FarmD) (hs : f.small) (n : Nat) (ex : Bool) (fl : Nat → Int) (hn : n < 1000) (hns : f.ns ≤ n) (i : Nat) (h0 : 0 ≤ f.lb i) (h1 : f.lb i < f.nb) :
    Pure Try.prog 75 [farmV f, intsV n ex fl, lookV f i] (.sb (f.rightN fl i)) := by
  obtain ⟨O, hO⟩ : ∃ O : Ar, O = std := ⟨_, rfl⟩
  have call := at_ok f hs n ex fl hn hns (f.lb i).toNat (by omega)
  rw [show (((f.lb i).toNat : Nat) : Int) = f.lb i by omega] at call
  have hr : f.rightN fl i = if f.lov i then inB (sub64 (f.waN fl (f.lb i).toNat) (f.downN fl (f.lb i).toNat)) (f.llo i) (f.lhi i) else inB (f.downN fl (f.lb i).toNat) (f.llo i) (f.lhi i) := rfl
  rw [show minI (f.waN fl (f.lb i).toNat) (f.notch (f.lb i).toNat) = f.downN fl (f.lb i).toNat from rfl] at call
  generalize f.waN fl (f.lb i).toNat = w at call hr
  generalize f.downN fl (f.lb i).toNat = d at call hr
  unfold atV at call
  generalize sub64 w d = u at call hr
  rw [hr]
  refine pure_of_body tok 3 Try.func75 en75 rfl ⟨farmV_below f, intsV_below n ex fl, Below.agg (AllB.ok ⟨Below.lit, Below.sb, Below.lit, Below.lit, trivial⟩), trivial⟩ Below.sb ?_
  refine SW.seqRun tok hO (by cbv <;> rfl) (by trivial) ?_
  refine SW.seqRun tok hO (by cbv <;> rfl) (by trivial) ?_
  refine OpsW.callP call (by cbv <;> rfl) ?_
  refine OpsW.run tok hO (by cbv <;> rfl) (by trivial) ?_
  refine SW.seq ?_
  refine SW.seqRun tok hO (by cbv <;> rfl) (by trivial) ?_
  refine SW.condS (by cbv <;> rfl) (fun h => ?_) (fun h => SW.skip ?_)
  · refine SW.seqRun tok hO (by cbv <;> rfl) (by trivial) ?_
    refine OpsW.callB (in_ok u (f.llo i) (f.lhi i)) (by cbv <;> rfl) fun b hb => ?_
    refine OpsW.run tok hO (by cbv <;> rfl) (by trivial) ?_
    refine SW.ret ⟨_, _, rfl, rfl, Eqv.sb ?_⟩
    rw [if_pos h]; exact hb
  · refine SW.seqRun tok hO (by cbv <;> rfl) (by trivial) ?_
    refine OpsW.callB (in_ok d (f.llo i) (f.lhi i)) (by cbv <;> rfl) fun b hb => ?_
    refine OpsW.run tok hO (by cbv <;> rfl) (by trivial) ?_
    refine SW.ret ⟨_, _, rfl, rfl, Eqv.sb ?_⟩
    rw [if_neg (by rw [show f.lov i = false from h]; simp)]; exact hb
end Go.Fz
namespace Go.Fz
theorem FarmD.right_eq (f : FarmD) (g : f.Good) (fl : Nat → Int) (hfl : ∀ s, s < f.ns → 0 ≤ fl s ∧ fl s ≤ 30) (i : Nat) (hi : i < f.nl) : f.rightB (f.water fl) i = f.rightN fl i := by
  obtain ⟨h0, h1⟩ := (g.look i hi).1
  obtain ⟨_, h2, h3⟩ := f.water_eq g fl hfl (f.lb i).toNat (by omega)
  unfold FarmD.rightB FarmD.rightN Go.Fz.inB
  rw [h2, h3]
end Go.Fz
namespace Go.Fz
open Go.Proofs
set_option maxRecDepth 100000
theorem fault24_ok (f : FarmD) (hs : f.small) : Pure Try.prog 24 [farmV f] (iV f.faultN) := by
  obtain ⟨O, hO⟩ : ∃ O : Ar, O = std := ⟨_, rfl⟩
  refine pure_of_body tok 3 Try.func24 en24 rfl ⟨farmV_below f, trivial⟩ Below.lit ?_
  refine SW.seqRun tok hO (by cbv <;> rfl) (by trivial) ?_
  refine SW.seqRun tok hO (by cbv <;> rfl) (by trivial) ?_
  refine OpsW.callI (fault_ok f hs) (by cbv <;> rfl) fun e he => ?_
  refine OpsW.run tok hO (by cbv <;> rfl) (by trivial) ?_
  exact SW.ret ⟨_, _, rfl, rfl, Eqv.int he⟩
end Go.Fz
namespace Go.Fz
open Go.Proofs
set_option maxRecDepth 100000
def FarmD.qN (f : FarmD) (N : Int) : Nat → Int
  | 0 => N
  | s + 1 => quo64 (f.qN N s) (size64 (f.slo s) (f.shi s))
def FarmD.nthN (f : FarmD) (N : Int) (s : Nat) : Int := add64 (f.slo s) ((f.qN N s).tmod (size64 (f.slo s) (f.shi s)))
set_option maxHeartbeats 4000000 in
theorem nth_ok (f : FarmD) (g : f.Good) (N : Int) : Pure Try.prog 60 [farmV f, iV N] (intsV f.ns false (f.nthN N)) := by
  obtain ⟨O, hO⟩ : ∃ O : Ar, O = std := ⟨_, rfl⟩
  have hnat : ∀ i : Nat, O.nat (Int.ofNat i) = i := fun i => by subst hO; rfl
  have hns := g.ns
  refine pure_of_body tok 3 Try.func60 en60 rfl ⟨farmV_below f, iV_below, trivial⟩ (intsV_below _ _ _) ?_
  refine SW.seqRun tok hO (by cbv <;> rfl) (by trivial) ?_
  refine SW.seqRun tok hO (by cbv <;> rfl) (by trivial) ?_
  refine SW.seq ?_
  refine SW.seqRun tok hO (by cbv <;> rfl) (by trivial) ?_
  refine (SW.block (SW.loopR (fun i : Nat => ⟨⟨36, getT [(1, iV (f.qN N i)), (2, .ptr 0 0), (5, slG 1 1 i), (6, iV i)]⟩, []⟩) (fun i => ⟨[(0, .cells none false [springsV f, bedsV f, looksV f])] ++ objG 1 1 (intC (f.nthN N)) i, 2⟩) (fun i => f.ns - i) (fun i => i ≤ f.ns) 0 (Nat.zero_le _) (ren1 1 1) ?_ fun i hi => ?_))
  · exact WeakR.up rfl rfl (by simp) (Nat.le_refl _) (.inl rfl) (by show 1 ≤ 2; omega) ⟨RenV.closed Below.lit, RenV.ptr (by omega), RenV.closed Below.lit, RenV.closed Below.lit, trivial⟩ ⟨⟨by omega, _, rfl, .cells (RenVs.closed (farmC_below f)), .inr rfl⟩, trivial⟩ (fun p hp => by cases hp)
  generalize hQ : f.qN N i = q
  cases i with
  | zero =>
    refine SW.seq ?_
    refine SW.seqRun tok hO (by cbv <;> rfl) (by trivial) ?_
    refine SW.condS (by cbv <;> rfl) (fun h => SW.skip ?_) (fun h => SW.exit ?_)
    · have hlt : 0 < f.ns := by subst hO; simpa [std] using h
      have h0 : (0 : Int) ≤ Int.ofNat 0 := Int.natCast_nonneg 0
      obtain ⟨_, hs0, hs1, hs2⟩ := g.spring 0 hlt
      have hsz := size64_in hs0 hs1 (by omega)
      have hne : size64 (f.slo 0) (f.shi 0) ≠ 0 := by rw [hsz]; omega
      have call := count_ok (f.slo 0) (f.shi 0)
      have e1 : quo64 q (size64 (f.slo 0) (f.shi 0)) = f.qN N 1 := by rw [← hQ]; rfl
      have e2 : add64 (f.slo 0) (q.tmod (size64 (f.slo 0) (f.shi 0))) = f.nthN N 0 := by rw [← hQ]; rfl
      generalize size64 (f.slo 0) (f.shi 0) = z at call hne e1 e2
      rw [← hnat 0] at call
      refine SW.seq (SW.block ?_)
      refine SW.seqRun tok hO (by cbv <;> rfl) ?_ ?_
      · exact ⟨h0, Int.ofNat_lt.2 hlt⟩
      refine SW.runD tok mixed hO (by rfl) (by cbv <;> rfl) (by trivial) ?_
      refine AnyE.callP call (by cbv <;> rfl) (by cbv <;> rfl) ?_
      refine AnyE.run tok hO (by rfl) (by cbv <;> rfl) ?_ ?_
      · exact hne
      refine AnyE.effK tok hO (by cbv <;> rfl) (by cbv <;> rfl) (by trivial) ?_ ?_
      · repeat (first | exact trivial | refine ⟨by (cbv <;> rfl), ?_⟩)
      refine AnyE.appNilK tok (by cbv <;> rfl) (by cbv <;> rfl) (by rfl) (by kernel_rfl) (by rfl) (by rfl) ?_ ?_
      · repeat (first | exact trivial | refine ⟨by (cbv <;> rfl), ?_⟩)
      refine AnyE.run tok hO (by rfl) (by cbv <;> rfl) (by trivial) ?_
      refine AnyE.callP call (by cbv <;> rfl) (by cbv <;> rfl) ?_
      refine AnyE.run tok hO (by rfl) (by cbv <;> rfl) ?_ ?_
      · exact hne
      refine AnyE.eff tok hO (by cbv <;> rfl) (by cbv <;> rfl) (by trivial) ?_
      refine AnyE.done (by rfl) ?_
      refine SW.run tok hO (by cbv <;> rfl) (by trivial) ?_
      refine ⟨1, by omega, by omega, ren1 1 4, ?_⟩
      have e3 : O.bin .quo .i64 q z = f.qN N 1 := by rw [← e1]; subst hO; rfl
      have e4 : O.bin .add .i64 (f.slo (O.nat (Int.ofNat 0))) (O.bin .rem .i64 q z) = f.nthN N 0 := by rw [← e2, hnat]; subst hO; rfl
      refine WeakR.up rfl rfl (by simp) (Nat.le_refl _) (.inr (by omega)) (by show 1 ≤ 2; omega) ⟨?_, RenV.ptr (by omega), RenV.sl (by omega), RenV.inc hO (by omega), trivial⟩ ⟨⟨by omega, _, rfl, .cells (RenVs.closed (farmC_below f)), .inr rfl⟩, trivial⟩ (fun p hp => ?_)
      · show RenV _ _ (iV (f.qN N 1)) (iV (O.bin .quo .i64 q z))
        rw [e3]; exact RenV.closed Below.lit
      obtain rfl := objG_mem hp
      refine ⟨by omega, _, rfl, .cells (RenVs.of_eq ?_ (flatG_below (fun i k => Below.lit) 1)), .inl rfl⟩
      show [iV (O.bin .add .i64 (f.slo (O.nat (Int.ofNat 0))) (O.bin .rem .i64 q z))] = [iV (f.nthN N 0)]
      rw [e4]
    · have hz : f.ns = 0 := by
        have : f.ns ≤ 0 := by subst hO; simpa [std] using h
        omega
      refine SW.seqRun tok hO (by cbv <;> rfl) (by trivial) ?_
      refine SW.ret ⟨_, _, rfl, rfl, ?_⟩
      rw [hz]; exact Eqv.nil
  | succ i =>
    obtain ⟨G, hG⟩ : ∃ G, G = flatG 1 (intC (f.nthN N)) (i + 1) := ⟨_, rfl⟩
    have hGo : objG 1 1 (intC (f.nthN N)) (i + 1) = [(1, .cells none false G)] := by rw [hG]; rfl
    show SW _ _ _ _ ⟨⟨36, getT [(1, iV q), (2, .ptr 0 0), (5, .sl 1 0 (i + 1) 1 false), (6, iV (i + 1 : Nat))]⟩, []⟩ ⟨[(0, .cells none false [springsV f, bedsV f, looksV f])] ++ objG 1 1 (intC (f.nthN N)) (i + 1), 2⟩
    rw [hGo]
    refine SW.seq ?_
    refine SW.seqRun tok hO (by cbv <;> rfl) (by trivial) ?_
    refine SW.condS (by cbv <;> rfl) (fun h => SW.skip ?_) (fun h => SW.exit ?_)
    · have hlt : i + 1 < f.ns := by
        have : ((i + 1 : Nat) : Int) < (f.ns : Int) := by subst hO; simpa [std] using h
        omega
      have h0 : (0 : Int) ≤ Int.ofNat (i + 1) := Int.natCast_nonneg (i + 1)
      obtain ⟨_, hs0, hs1, hs2⟩ := g.spring (i + 1) hlt
      have hsz := size64_in hs0 hs1 (by omega)
      have hne : size64 (f.slo (i + 1)) (f.shi (i + 1)) ≠ 0 := by rw [hsz]; omega
      have call := count_ok (f.slo (i + 1)) (f.shi (i + 1))
      have e1 : quo64 q (size64 (f.slo (i + 1)) (f.shi (i + 1))) = f.qN N (i + 1 + 1) := by rw [← hQ]; rfl
      have e2 : add64 (f.slo (i + 1)) (q.tmod (size64 (f.slo (i + 1)) (f.shi (i + 1)))) = f.nthN N (i + 1) := by rw [← hQ]; rfl
      generalize size64 (f.slo (i + 1)) (f.shi (i + 1)) = z at call hne e1 e2
      rw [← hnat (i + 1)] at call
      refine SW.seq (SW.block ?_)
      refine SW.seqRun tok hO (by cbv <;> rfl) ?_ ?_
      · exact ⟨h0, Int.ofNat_lt.2 hlt⟩
      refine SW.runD tok mixed hO (by rfl) (by cbv <;> rfl) (by trivial) ?_
      refine AnyE.callP call (by cbv <;> rfl) (by cbv <;> rfl) ?_
      refine AnyE.run tok hO (by rfl) (by cbv <;> rfl) ?_ ?_
      · exact hne
      refine AnyE.effK tok hO (by cbv <;> rfl) (by cbv <;> rfl) (by trivial) ?_ ?_
      · repeat (first | exact trivial | refine ⟨by (cbv <;> rfl), ?_⟩)
      refine AnyE.appOneK (g := intC (f.nthN N)) tok (by cbv <;> rfl) (by cbv <;> rfl) (by rfl) (by rfl) hG (by kernel_rfl) (by rfl) (by rfl) (by omega) fun G' hG' => ⟨?_, ?_⟩
      · repeat (first | exact trivial | refine ⟨by (cbv <;> rfl), ?_⟩)
      refine AnyE.run tok hO (by rfl) (by cbv <;> rfl) (by trivial) ?_
      refine AnyE.callP call (by cbv <;> rfl) (by cbv <;> rfl) ?_
      refine AnyE.run tok hO (by rfl) (by cbv <;> rfl) ?_ ?_
      · exact hne
      refine AnyE.eff tok hO (by cbv <;> rfl) (by cbv <;> rfl) (by trivial) ?_
      refine AnyE.done (by rfl) ?_
      refine SW.run tok hO (by cbv <;> rfl) (by trivial) ?_
      refine ⟨i + 1 + 1, by omega, by omega, ren1 1 4, ?_⟩
      have e3 : O.bin .quo .i64 q z = f.qN N (i + 1 + 1) := by rw [← e1]; subst hO; rfl
      have e4 : O.bin .add .i64 (f.slo (O.nat (Int.ofNat (i + 1)))) (O.bin .rem .i64 q z) = f.nthN N (i + 1) := by rw [← e2, hnat]; subst hO; rfl
      refine WeakR.up rfl rfl (by simp) (Nat.le_refl _) (.inr (by omega)) (by show 1 ≤ 2; omega) ⟨?_, RenV.ptr (by omega), RenV.sl (by omega), RenV.inc hO (by omega), trivial⟩ ⟨⟨by omega, _, rfl, .cells (RenVs.closed (farmC_below f)), .inr rfl⟩, trivial⟩ (fun p hp => ?_)
      · show RenV _ _ (iV (f.qN N (i + 1 + 1))) (iV (O.bin .quo .i64 q z))
        rw [e3]; exact RenV.closed Below.lit
      obtain rfl := objG_mem hp
      refine ⟨by omega, _, rfl, .cells (RenVs.of_eq (hG'.trans ?_) (flatG_below (fun i k => Below.lit) (i + 1 + 1))), .inl rfl⟩
      show _ ++ [iV (O.bin .add .i64 (f.slo (O.nat (Int.ofNat (i + 1)))) (O.bin .rem .i64 q z))] = _ ++ [iV (f.nthN N (i + 1))]
      rw [e4]
    · have hz : f.ns = i + 1 := by
        have : (f.ns : Int) ≤ ((i + 1 : Nat) : Int) := by subst hO; simpa [std] using h
        omega
      refine SW.seqRun tok hO (by cbv <;> rfl) (by trivial) ?_
      refine SW.ret ⟨_, _, rfl, rfl, ?_⟩
      rw [hz]
      exact frz_flatI (z := fun i _ => f.nthN N i) (fm := none) rfl (by rw [hG]; rfl)
end Go.Fz
set_option linter.unusedVariables false
namespace Go.Fz
open Go.Proofs
set_option maxRecDepth 100000
theorem nI_val (p : List Nat) : zV (nI p) = lsV p := by
  unfold zV lsV
  rw [nI_len]
  congr 1
  funext i
  unfold zL nI
  rw [List.getD_eq_getElem?_getD, List.getD_eq_getElem?_getD, List.getElem?_map]
  cases p[i]? <;> rfl
section
variable (K : List (List Nat) → Hp → Prop) (stop : List (List Nat) → List Nat → Hp → Prop) (y many : Nat) (E : List (List Nat))
variable {K stop y many E}
end
end Go.Fz
set_option linter.unusedVariables false
namespace Go.Fz
open Go.Proofs
set_option maxRecDepth 100000
end Go.Fz
set_option linter.unusedVariables false
namespace Go.Fz
open Go.Proofs
set_option maxRecDepth 100000
set_option maxHeartbeats 8000000 in
theorem before104_ok (na nb : Nat) (ea eb : Bool) (fa fb : Nat → Int) (hna : na < 1000) (hnb : nb < 1000) : Pure Try.prog 104 [intsV na ea fa, intsV nb eb fb] (.sb (befF fa fb na nb 0 (na + 1))) := by
  obtain ⟨O, hO⟩ : ∃ O : Ar, O = std := ⟨_, rfl⟩
  have hnat : ∀ i : Nat, O.nat (Int.ofNat i) = i := fun i => by subst hO; rfl
  refine pure_of_body tok 3 Try.func104 en104 rfl ⟨intsV_below _ _ _, intsV_below _ _ _, trivial⟩ Below.sb ?_
  refine SW.seqRun tok hO (by cbv <;> rfl) (by trivial) ?_
  refine SW.seq ?_
  refine SW.seqRun tok hO (by cbv <;> rfl) (by trivial) ?_
  refine (SW.block (SW.loopF (fun i : Nat => ⟨⟨41, getT [(0, intsV na ea fa), (1, intsV nb eb fb), (5, iV i)]⟩, []⟩) (fun _ => ⟨[], 0⟩) (fun i => na + 1 - i) (fun i => i ≤ na ∧ befF fa fb na nb 0 (na + 1) = befF fa fb na nb i (na + 1 - i)) 0
    (fun _ => rfl) ⟨Nat.zero_le _, rfl⟩ (Weak.by rfl rfl (by simp) (Nat.le_refl _) (Nat.le_refl _) ⟨⟨rfl, .inl rfl⟩, ⟨rfl, .inl rfl⟩, ⟨rfl, .inl rfl⟩, trivial⟩ trivial) fun i ⟨hi, hB⟩ => ?_))
  have hun : befF fa fb na nb i (na + 1 - i) = if i < na ∧ i < nb then (if fa i = fb i then befF fa fb na nb (i + 1) (na - i) else decide (fa i < fb i)) else decide ((na : Int) < nb) := by
    rw [show na + 1 - i = (na - i) + 1 by omega]; rfl
  rw [hun] at hB
  have h0 : (0 : Int) ≤ Int.ofNat i := Int.natCast_nonneg i
  generalize befF fa fb na nb 0 (na + 1) = B at hB ⊢
  refine SW.seq ?_
  refine SW.seqRun tok hO (by cbv <;> rfl) (by trivial) ?_
  have hend : ¬ (i < na ∧ i < nb) → B = decide ((na : Int) < nb) := fun h => by rw [hB, if_neg h]
  refine OpsW.splitG (by cbv <;> rfl) (fun h => ?_) (fun h => ?_)
  · have hlt : i < na := by subst hO; simpa [std] using h
    refine OpsW.run tok hO (by cbv <;> rfl) (by trivial) ?_
    refine SW.condS (by cbv <;> rfl) (fun h3 => SW.skip ?_) (fun h3 => SW.exit ?_)
    · have hlt2 : i < nb := by subst hO; simpa [std] using h3
      rw [if_pos ⟨hlt, hlt2⟩] at hB
      refine SW.seq (SW.block ?_)
      refine SW.seqRunD tok mixed hO (by rfl) (by cbv <;> rfl) ?_ ?_
      · exact ⟨⟨h0, Int.ofNat_lt.2 hlt2⟩, ⟨h0, Int.ofNat_lt.2 hlt⟩⟩
      refine AnyE.dec tok hO (by rfl) (by cbv <;> rfl) (by trivial) (fun h4 => ?_) (fun h4 => ?_) <;> refine AnyE.run tok hO (by rfl) (by cbv <;> rfl) (by trivial) ?_
      · have hne : fa i ≠ fb i := by subst hO; simpa [std] using h4
        rw [if_neg hne] at hB
        refine SW.cond (t := true) (by cbv <;> rfl) ?_
        refine SW.seqRunD tok mixed hO (by rfl) (by cbv <;> rfl) ?_ ?_
        · exact ⟨⟨h0, Int.ofNat_lt.2 hlt2⟩, ⟨h0, Int.ofNat_lt.2 hlt⟩⟩
        refine AnyE.dec tok hO (by rfl) (by cbv <;> rfl) (by trivial) (fun h5 => ?_) (fun h5 => ?_) <;> refine AnyE.run tok hO (by rfl) (by cbv <;> rfl) (by trivial) ?_
        · have h6 : fa i < fb i := by subst hO; simpa [std] using h5
          refine SW.ret ⟨_, _, rfl, rfl, Eqv.bool ?_⟩
          rw [hB, decide_eq_true h6]
        · have h6 : ¬ fa i < fb i := by subst hO; simpa [std] using h5
          refine SW.ret ⟨_, _, rfl, rfl, Eqv.bool ?_⟩
          rw [hB, decide_eq_false h6]
      · have he : fa i = fb i := by subst hO; simpa [std] using h4
        rw [if_pos he] at hB
        refine SW.cond (t := false) (by cbv <;> rfl) (SW.skip ?_)
        refine SW.run tok hO (by cbv <;> rfl) (by trivial) ?_
        exact ⟨i + 1, by omega, ⟨by omega, by rw [hB]; congr 1; omega⟩, Weak.by rfl rfl (by simp) (Nat.le_refl _) (Nat.zero_le _) ⟨⟨rfl, .inr (intsV_below _ _ _)⟩, ⟨rfl, .inr (intsV_below _ _ _)⟩, ⟨inc_ok hO (by omega), .inr Below.lit⟩, trivial⟩ trivial⟩
    · have hge : ¬ i < nb := by subst hO; simpa [std] using h3
      refine SW.seqRun tok hO (by cbv <;> rfl) (by trivial) ?_
      refine SW.ret ⟨_, _, rfl, rfl, Eqv.sb ?_⟩
      rw [hend (fun h => hge h.2)]; subst hO; rfl
  · have hge : ¬ i < na := by subst hO; simpa [std] using h
    refine OpsW.run tok hO (by cbv <;> rfl) (by trivial) ?_
    refine SW.cond (t := false) (by cbv <;> rfl) (SW.exit ?_)
    refine SW.seqRun tok hO (by cbv <;> rfl) (by trivial) ?_
    refine SW.ret ⟨_, _, rfl, rfl, Eqv.sb ?_⟩
    rw [hend (fun h => hge h.1)]; subst hO; rfl
set_option maxHeartbeats 8000000 in
theorem shorter_ok (na nb : Nat) (ea eb : Bool) (fa fb : Nat → Int) (hna : na < 1000) (hnb : nb < 1000) : Pure Try.prog 58 [intsV na ea fa, intsV nb eb fb] (.sb (shortB na nb fa fb)) := by
  obtain ⟨O, hO⟩ : ∃ O : Ar, O = std := ⟨_, rfl⟩
  have hbef := before104_ok na nb ea eb fa fb hna hnb
  obtain ⟨S, hS⟩ : ∃ S, shortB na nb fa fb = S := ⟨_, rfl⟩
  unfold shortB at hS
  rw [show shortB na nb fa fb = S from hS]
  generalize befF fa fb na nb 0 (na + 1) = B at hbef hS
  refine pure_of_body tok 3 Try.func58 en58 rfl ⟨intsV_below _ _ _, intsV_below _ _ _, trivial⟩ Below.sb ?_
  refine SW.seqRun tok hO (by cbv <;> rfl) (by trivial) ?_
  refine SW.seqRun tok hO (by cbv <;> rfl) (by trivial) ?_
  refine OpsW.splitG (by cbv <;> rfl) (fun h => ?_) (fun h => ?_)
  · have hlt : (na : Int) < nb := by subst hO; simpa [std] using h
    refine OpsW.run tok hO (by cbv <;> rfl) (by trivial) ?_
    refine SW.ret ⟨_, _, rfl, rfl, Eqv.bool ?_⟩
    rw [← hS, decide_eq_true hlt]; rfl
  · have hlt : ¬ (na : Int) < nb := by subst hO; simpa [std] using h
    refine OpsW.run tok hO (by cbv <;> rfl) (by trivial) ?_
    refine OpsW.splitG (by cbv <;> rfl) (fun h2 => ?_) (fun h2 => ?_)
    · have he : (na : Int) = nb := by subst hO; simpa [std] using h2
      refine OpsW.run tok hO (by cbv <;> rfl) (by trivial) ?_
      refine OpsW.callP hbef (by cbv <;> rfl) ?_
      refine OpsW.run tok hO (by cbv <;> rfl) (by trivial) ?_
      refine SW.ret ⟨_, _, rfl, rfl, Eqv.sb ?_⟩
      rw [← hS, decide_eq_false hlt, decide_eq_true he]; rfl
    · have he : ¬ (na : Int) = nb := by subst hO; simpa [std] using h2
      refine OpsW.run tok hO (by cbv <;> rfl) (by trivial) ?_
      refine SW.ret ⟨_, _, rfl, rfl, Eqv.bool ?_⟩
      rw [← hS, decide_eq_false hlt, decide_eq_false he]; rfl
set_option maxHeartbeats 16000000 in
theorem bits59_ok (o : Int) (o0 : 0 ≤ o) (o32 : o < 32) : Pure Try.prog 59 [iV o] (lsV (selL o 5)) := by
  obtain ⟨O, hO⟩ : ∃ O : Ar, O = std := ⟨_, rfl⟩
  have hfin : ∀ i : Nat, i ≤ 5 → (std.cmp .gtr (std.bin .shr .i64 o (std.conv .u64 (i : Int))) 0 = true → i < 5) ∧ (std.cmp .gtr (std.bin .shr .i64 o (std.conv .u64 (i : Int))) 0 = false → selL o i = selL o 5) := fun i hi => by
    have h1 := bits_fin ⟨o.toNat, by omega⟩ ⟨i, by omega⟩
    have h2 : ((o.toNat : Nat) : Int) = o := by omega
    rw [h2] at h1
    exact h1
  refine pure_of_body tok 3 Try.func59 en59 rfl ⟨Below.lit, trivial⟩ (lsV_below _) ?_
  refine SW.seqRun tok hO (by cbv <;> rfl) (by trivial) ?_
  refine SW.seqRun tok hO (by cbv <;> rfl) (by trivial) ?_
  refine SW.seq ?_
  refine SW.seqRun tok hO (by cbv <;> rfl) (by trivial) ?_
  refine (SW.block (SW.loopR (fun i : Nat => ⟨⟨23, getT [(0, iV o), (3, slG 0 1 (selL o i).length), (4, iV i)]⟩, []⟩) (fun i => ⟨[] ++ objG 0 1 (intC (lI (selL o i))) (selL o i).length, 1⟩) (fun i => 5 - i) (fun i => i ≤ 5) 0 (Nat.zero_le _) (ren1 0 0) ?_ fun i hi => ?_))
  · exact WeakR.up rfl rfl (by simp) (Nat.le_refl _) (.inl rfl) (by show 0 ≤ 1; omega) ⟨RenV.closed Below.lit, RenV.closed Below.lit, RenV.closed Below.lit, trivial⟩ trivial (fun p hp => by cases hp)
  have hlen := selL_len o i
  have hsn := lI_snoc (selL o i) i
  have hsu : selL o (i + 1) = if bitB o i then selL o i ++ [i] else selL o i := rfl
  obtain ⟨f1, f2⟩ := hfin i hi
  have hc0 : 0 ≤ O.conv .u64 (Int.ofNat i) := by
    subst hO
    show 0 ≤ wrp .u64 ((i : Nat) : Int)
    rw [wrp_in (by simp only [IntKind.lo]; omega) (by simp only [IntKind.hi]; omega)]
    omega
  cases hm : (selL o i).length with
  | zero =>
    have hl0 : selL o i = [] := List.length_eq_zero_iff.1 hm
    show SW _ _ _ _ ⟨⟨23, getT [(0, iV o), (3, nl3), (4, iV i)]⟩, []⟩ ⟨[], 1⟩
    refine SW.seq ?_
    refine SW.seqRun tok hO (by cbv <;> rfl) (by first | exact hc0 | exact ⟨hc0, trivial⟩) ?_
    refine SW.condS (by cbv <;> rfl) (fun h => SW.skip ?_) (fun h => SW.exit ?_)
    · have hlt : i < 5 := f1 (by subst hO; exact h)
      refine SW.seq (SW.block ?_)
      refine SW.seqRun tok hO (by cbv <;> rfl) (by first | exact ⟨hc0, (by decide : (2 : Int) ≠ 0)⟩ | exact ⟨(by decide : (2 : Int) ≠ 0), hc0⟩) ?_
      refine SW.condS (by cbv <;> rfl) (fun h2 => ?_) (fun h2 => SW.skip ?_)
      · have hb : bitB o i = true := by subst hO; exact h2
        rw [if_pos hb] at hsu
        rw [hl0] at hsn hsu
        refine SW.runN tok hO 3 (by cbv <;> rfl) (by trivial) ?_
        refine OpsW.appNil tok (by cbv <;> rfl) (by rfl) (by kernel_rfl) (by rfl) (by rfl) ?_
        refine OpsW.run tok hO (by cbv <;> rfl) (by trivial) ?_
        refine SW.run tok hO (by cbv <;> rfl) (by trivial) ?_
        refine ⟨i + 1, by omega, by omega, ren1 0 2, ?_⟩
        rw [hsu]
        refine WeakR.up rfl rfl (by simp) (Nat.le_refl _) (.inr (by omega)) (by show 0 ≤ 1; omega) ⟨RenV.closed Below.lit, RenV.sl (by omega), RenV.inc hO (by omega), trivial⟩ trivial (fun p hp => ?_)
        obtain rfl := objG_mem hp
        exact ⟨by omega, _, rfl, .cells (RenVs.of_eq hsn (flatG_below (fun _ _ => Below.lit) _)), .inl rfl⟩
      · have hb : bitB o i = false := by subst hO; exact h2
        rw [if_neg (by rw [hb]; decide)] at hsu
        refine SW.run tok hO (by cbv <;> rfl) (by trivial) ?_
        refine ⟨i + 1, by omega, by omega, ren1 0 0, ?_⟩
        rw [hsu, hm]
        exact WeakR.up rfl rfl (by simp) (Nat.le_refl _) (.inl rfl) (by show 0 ≤ 1; omega) ⟨RenV.closed Below.lit, RenV.closed Below.lit, RenV.inc hO (by omega), trivial⟩ trivial (fun p hp => by cases hp)
    · have he := f2 (by subst hO; exact h)
      refine SW.seqRun tok hO (by cbv <;> rfl) (by trivial) ?_
      refine SW.ret ⟨_, _, rfl, rfl, ?_⟩
      rw [← he, hl0]
      exact Eqv.nil
  | succ m =>
    obtain ⟨G, hG⟩ : ∃ G, G = flatG 1 (intC (lI (selL o i))) (m + 1) := ⟨_, rfl⟩
    show SW _ _ _ _ ⟨⟨23, getT [(0, iV o), (3, .sl 0 0 (m + 1) 1 false), (4, iV i)]⟩, []⟩ ⟨[(0, .cells none false (flatG 1 (intC (lI (selL o i))) (m + 1)))], 1⟩
    rw [← hG]
    refine SW.seq ?_
    refine SW.seqRun tok hO (by cbv <;> rfl) (by first | exact hc0 | exact ⟨hc0, trivial⟩) ?_
    refine SW.condS (by cbv <;> rfl) (fun h => SW.skip ?_) (fun h => SW.exit ?_)
    · have hlt : i < 5 := f1 (by subst hO; exact h)
      refine SW.seq (SW.block ?_)
      refine SW.seqRun tok hO (by cbv <;> rfl) (by first | exact ⟨hc0, (by decide : (2 : Int) ≠ 0)⟩ | exact ⟨(by decide : (2 : Int) ≠ 0), hc0⟩) ?_
      refine SW.condS (by cbv <;> rfl) (fun h2 => ?_) (fun h2 => SW.skip ?_)
      · have hb : bitB o i = true := by subst hO; exact h2
        rw [if_pos hb] at hsu
        rw [hm, ← hG] at hsn
        refine SW.runN tok hO 3 (by cbv <;> rfl) (by trivial) ?_
        refine OpsW.appOne (g := intC (lI (selL o i))) (len := m + 1) tok (by cbv <;> rfl) (by rfl) (by rfl) hG (by kernel_rfl) (by rfl) (by rfl) (by omega) fun G' hG' => ?_
        refine OpsW.run tok hO (by cbv <;> rfl) (by trivial) ?_
        refine SW.run tok hO (by cbv <;> rfl) (by trivial) ?_
        refine ⟨i + 1, by omega, by omega, ren1 0 2, ?_⟩
        rw [hsu, List.length_append, List.length_singleton, hm]
        refine WeakR.up rfl rfl (by simp) (Nat.le_refl _) (.inr (by omega)) (by show 0 ≤ 1; omega) ⟨RenV.closed Below.lit, RenV.sl (by omega), RenV.inc hO (by omega), trivial⟩ trivial (fun p hp => ?_)
        obtain rfl := objG_mem hp
        exact ⟨by omega, _, rfl, .cells (RenVs.of_eq (by rw [hG', ← hG]; exact hsn) (flatG_below (fun _ _ => Below.lit) _)), .inl rfl⟩
      · have hb : bitB o i = false := by subst hO; exact h2
        rw [if_neg (by rw [hb]; decide)] at hsu
        refine SW.run tok hO (by cbv <;> rfl) (by trivial) ?_
        refine ⟨i + 1, by omega, by omega, ren1 0 0, ?_⟩
        rw [hsu, hm]
        refine WeakR.up rfl rfl (by simp) (Nat.le_refl _) (.inl rfl) (by show 0 ≤ 1; omega) ⟨RenV.closed Below.lit, RenV.sl (by omega), RenV.inc hO (by omega), trivial⟩ trivial (fun p hp => ?_)
        obtain rfl := objG_mem hp
        exact ⟨by omega, _, rfl, .cells (RenVs.of_eq hG (flatG_below (fun _ _ => Below.lit) _)), .inl rfl⟩
    · have he := f2 (by subst hO; exact h)
      refine SW.seqRun tok hO (by cbv <;> rfl) (by trivial) ?_
      refine SW.ret ⟨_, _, rfl, rfl, ?_⟩
      rw [← he]
      show Eqv (frz _ _ 3 (.sl 0 0 (m + 1) 1 false)) (.isl (selL o i).length 1 false _)
      rw [frz_slE (fm := none) (G := G) rfl rfl (by rw [hG, flatG_length]; omega), hm]
      refine Eqv.isl rfl fun j k hj hk => Eqv.of ?_
      rw [hG, frz_flat hj hk rfl]
      rfl
end Go.Fz
set_option linter.unusedVariables false
namespace Go.Fz
open Go.Proofs
set_option maxRecDepth 100000
theorem full65_ok (y : FarmD) (hn : y.nl < 1000000) : Pure Try.prog 65 [farmV y] (iV (pw1 y.nl)) := by
  obtain ⟨O, hO⟩ : ∃ O : Ar, O = std := ⟨_, rfl⟩
  refine pure_of_body tok 3 Try.func65 en65 rfl ⟨farmV_below y, trivial⟩ Below.lit ?_
  refine SW.seqRun tok hO (by cbv <;> rfl) (by trivial) ?_
  refine SW.seqRun tok hO (by cbv <;> rfl) (by exact conv_nn hO hn) ?_
  refine SW.ret ⟨_, _, rfl, rfl, Eqv.int ?_⟩
  subst hO; rfl
end Go.Fz
set_option linter.unusedVariables false
namespace Go.Fz
open Go.Proofs
set_option maxRecDepth 100000
theorem eqL_self {n : Nat} {f g : Nat → Int} (h : ∀ i, i < n → f i = g i) : (decide (n = n) && allN n fun i => decide (f i = g i)) = true := by
  rw [Bool.and_eq_true]
  exact ⟨by simp, allN_true fun i hi => decide_eq_true (h i hi)⟩
end Go.Fz
