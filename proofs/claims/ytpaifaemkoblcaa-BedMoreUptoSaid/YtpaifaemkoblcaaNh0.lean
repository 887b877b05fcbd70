/- Own work of the verifier of watercress: Lb4, Lb5, Lb6, Lb8, FzDe1, FzB1, FzD10, FzD11, FzD12, FzD13, FzG2, FzG0, FzH1. -/
import Derived.ChangeKeysEq
import Derived.Laws.AppendOwn
import Derived.Laws.Cells
import Derived.Laws.CopyRow
import Derived.Laws.Entries
import Derived.Laws.NewFold
import Derived.Laws.Sem
import Derived.Laws.Small
import Derived.Laws.StructEq
import Derived.Laws.Tables
import Derived.Laws.World
import Derived.OrdersHeld
import Derived.OrdersIn
import Derived.RangeFuncLeaves
import Derived.RangeFuncRecord
import Derived.Shelf.Abstract
import Derived.Test.YtpaifaemkoblcaaNa0
import Derived.Test.YtpaifaemkoblcaaNa1
import Derived.Test.YtpaifaemkoblcaaNa2
import Derived.Test.YtpaifaemkoblcaaNa3
import Derived.Test.YtpaifaemkoblcaaProg
import Derived.Test.YtpaifaemkoblcaaNa4
import Derived.Below
import Derived.CallsIn
import Derived.Carry
import Derived.ChangeSame
import Derived.Deep.Slices
import Derived.JoinedCond
import Derived.Laws.Cover3
import Derived.Lib.SmallJoins
import Derived.OpenShut
import Derived.ProofKit
import Derived.WalkKit
import Derived.WideKeyArgs
import Derived.Test.YtpaifaemkoblcaaRows
import Derived.Test.YtpaifaemkoblcaaNa5
import Derived.DeepKeys4
import Derived.Maps.Keyed
import Derived.Maps.RangeRun
import Derived.Test.YtpaifaemkoblcaaNa6
import Derived.Test.YtpaifaemkoblcaaNa7
import Derived.Test.YtpaifaemkoblcaaNa8
import Derived.Test.YtpaifaemkoblcaaNa10
import Derived.Test.YtpaifaemkoblcaaNa12
import Derived.Test.YtpaifaemkoblcaaNa11
import Derived.Test.YtpaifaemkoblcaaNa13
import Derived.Test.YtpaifaemkoblcaaNa14
import Derived.Test.YtpaifaemkoblcaaNa9
import Derived.Test.YtpaifaemkoblcaaNa15
import Derived.Test.YtpaifaemkoblcaaNa16
import Derived.Test.YtpaifaemkoblcaaNa24
import Derived.Test.YtpaifaemkoblcaaNa25
import Derived.Test.YtpaifaemkoblcaaNa26
import Derived.Test.YtpaifaemkoblcaaNa19
import Derived.Test.YtpaifaemkoblcaaNa20
import Derived.Test.YtpaifaemkoblcaaNa21
import Derived.Test.YtpaifaemkoblcaaNa22
import Derived.Test.YtpaifaemkoblcaaNa23
import Derived.Test.YtpaifaemkoblcaaNa17
import Derived.Test.YtpaifaemkoblcaaNa18
import Derived.Test.YtpaifaemkoblcaaNa27
import Derived.Test.YtpaifaemkoblcaaNa32
import Derived.Test.YtpaifaemkoblcaaNa35
import Derived.Test.YtpaifaemkoblcaaNa33
import Derived.Test.YtpaifaemkoblcaaNa34
import Derived.Test.YtpaifaemkoblcaaNa28
import Derived.Test.YtpaifaemkoblcaaNa29
import Derived.Test.YtpaifaemkoblcaaNa30
import Derived.Test.YtpaifaemkoblcaaNa31
import Derived.Test.YtpaifaemkoblcaaNa36
import Derived.Test.YtpaifaemkoblcaaNa37
import Derived.Test.YtpaifaemkoblcaaNa38
import Derived.Test.YtpaifaemkoblcaaNa40
import Derived.Test.YtpaifaemkoblcaaNa39
import Derived.Test.YtpaifaemkoblcaaNa41
set_option linter.unusedVariables false
set_option linter.unusedSimpArgs false
namespace Go.Fz
open Go.Proofs
theorem en14 : Enters Try.prog 14 := fun args w => Go.Proofs.enters_of Try.func14 (by kernel_rfl) rfl args w
theorem en62 : Enters Try.prog 62 := fun args w => Go.Proofs.enters_of Try.func62 (by kernel_rfl) rfl args w
theorem en106 : Enters Try.prog 106 := fun args w => Go.Proofs.enters_of Try.func106 (by kernel_rfl) rfl args w
end Go.Fz
set_option linter.unusedVariables false
set_option linter.unusedSimpArgs false
namespace Go.Fz
variable {P : Program} {T : Ti}
end Go.Fz
namespace Go.Fz
variable {P : Program} {T : Ti}
end Go.Fz
namespace Go.Fz
variable {P : Program} {T : Ti}
theorem AnyE.appOneK (hT : TOk P T) {rd : Option Nat} {ops : Array Oper} {M : List Nat} {K : Fm → St → Prop} {fuel : Nat} {pend pend' : List (Nat × AV)} {listed : Array Bool} {f : Fm} {st : St} {j t id id0 sz : Nat} {ex : Bool} {cs : List AV} {G : List AV} {g : Nat → Nat → AV} {len : Nat}
    (hj : onlyD ops M pend listed = some (j, pend')) (ha : appAt ops j f = some (t, .sl id0 0 len sz false, .sl id 0 1 sz ex)) (hx : st.h.get id = some (.cells none false cs)) (hs : st.h.get id0 = some (.cells none false G)) (hG : G = flatG sz g len) (hb : sliceB T t sz = true) (hl : cs.length = sz) (hone : cs.all AV.one = true) (hlen : len < 1048576)
    (h : ∀ G', G' = flatG sz g len ++ cs → AllP (fun p => lightV T ops (St.push ⟨truncH id0 (len * sz) id0 st.h, st.n⟩ (.cells (some id0) false G')).h (putAt ops j f (.sl st.n 0 (len + 1) sz false)) p.1 = some p.2) pend' ∧
      AnyE P T ops M rd K fuel pend' (listed.setIfInBounds j true) (putAt ops j f (.sl st.n 0 (len + 1) sz false)) (St.push ⟨truncH id0 (len * sz) id0 st.h, st.n⟩ (.cells (some id0) false G'))) : AnyE P T ops M rd K (fuel + 1) pend listed f st := by
  subst hG
  obtain ⟨h1, h2⟩ := h _ rfl
  exact AnyE.appK hT hj ha (append_oneB hb hx hl hone hs hlen) h1 h2
end Go.Fz
namespace Go.Fz
variable {P : Program} {T : Ti}
def runDN (O : Ar) (T : Ti) (ops : Array Oper) : Nat → Nat → List (Nat × AV) → Array Bool → List Cond → Fm → St → DOut
  | 0, fuel, pend, listed, cs, f, st => .stop cs fuel pend listed f st
  | _ + 1, 0, pend, listed, cs, f, st => .stop cs 0 pend listed f st
  | k + 1, fuel + 1, pend, listed, cs, f, st => match Region.ready .any ops listed with
    | [] => .done cs f st
    | rs => match pickD O T ops pend st.h f rs with
      | some (i, o, c, .sb b) => match isCmp o with
        | true => .stop cs (fuel + 1) pend listed f st
        | false => runDN O T ops k fuel ((i, .sb b) :: pend) (listed.setIfInBounds i true) (c ++ cs) (f.put o.dst (.sb b)) st
      | some (i, o, c, r) => runDN O T ops k fuel ((i, r) :: pend) (listed.setIfInBounds i true) (c ++ cs) (f.put o.dst r) st
      | none => .stop cs (fuel + 1) pend listed f st
theorem runDN_cs {O : Ar} {ops : Array Oper} : ∀ (k fuel : Nat) (pend : List (Nat × AV)) (listed : Array Bool) (cs : List Cond) (f : Fm) (st : St), ∀ c ∈ cs, c ∈ (runDN O T ops k fuel pend listed cs f st).cs
  | 0, _, _, _, _, _, _, c, h => h
  | _ + 1, 0, _, _, _, _, _, c, h => h
  | k + 1, fuel + 1, pend, listed, cs, f, st, c, h => by
    unfold runDN
    split
    · exact h
    · split
      · split
        · exact h
        · exact runDN_cs k fuel _ _ _ _ _ c (List.mem_append_right _ h)
      · exact runDN_cs k fuel _ _ _ _ _ c (List.mem_append_right _ h)
      · exact h
theorem runDN_ok (hT : TOk P T) {O : Ar} (hO : O = std) {rd : Option Nat} {ops : Array Oper} {K : Fm → St → Prop} (hM : tidyB ops (masks ops) = true) : ∀ (k fuel : Nat) (pend : List (Nat × AV)) (listed : Array Bool) (cs : List Cond) (f : Fm) (st : St),
    (∀ c ∈ (runDN O T ops k fuel pend listed cs f st).cs, c.holds) → (runDN O T ops k fuel pend listed cs f st).post P T rd ops K → AnyE P T ops (masks ops) rd K fuel pend listed f st
  | 0, _, _, _, _, _, _, _, h => h
  | _ + 1, 0, _, _, _, _, _, _, h => h
  | k + 1, fuel + 1, pend, listed, cs, f, st, hc, h => by
    unfold runDN at hc h
    split at h
    · rename_i hr
      exact .done (by rw [hr]; rfl) h
    · rename_i hr
      split at h
      · rename_i i o c b hp
        obtain ⟨h1, h2, h3, h4⟩ := pickD_ok hO hp
        simp only [hp] at hc
        split at h
        · exact h
        · rename_i hcmp
          simp only [hcmp] at hc
          have hl := h4 fun x hx => hc x (runDN_cs k fuel _ _ _ _ _ x (List.mem_append_left _ hx))
          refine .take hM hT i h2 ?_ hl (runDN_ok hT hO hM k fuel _ _ _ _ _ hc h)
          rw [h3, Bool.and_true]
          exact List.contains_iff_mem.2 h1
      · rename_i i o c r hnsb hp
        obtain ⟨h1, h2, h3, h4⟩ := pickD_ok hO hp
        simp only [hp] at hc
        have hl := h4 fun x hx => hc x (runDN_cs k fuel _ _ _ _ _ x (List.mem_append_left _ hx))
        refine .take hM hT i h2 ?_ hl (runDN_ok hT hO hM k fuel _ _ _ _ _ hc h)
        rw [h3, Bool.and_true]
        exact List.contains_iff_mem.2 h1
      · exact h
theorem SW.seqRunDN (hT : TOk P T) (hm : P.follows .mixedOrders = true) {O : Ar} (hO : O = std) (k : Nat) {rd : Option Nat} {id : Nat} {ops : Array Oper} {y : Code} {Q : Exit → Fm → St → Prop} {f : Fm} {st : St} {R : DOut} (hM : tidyB ops (masks ops) = true)
    (hR : Fz.runDN O T ops k ops.size [] (Array.replicate ops.size false) [] f st = R) (hc : allC R.cs) (h : R.postS P T rd ops y Q) : SW P rd (.seq (.region id ops true) y) Q f st := by
  subst hR
  refine SW.seq (SW.drawnE hm hM (runDN_ok hT hO hM _ _ _ _ _ _ _ (allC_ok hc) ?_))
  generalize Fz.runDN O T ops k ops.size [] (Array.replicate ops.size false) [] f st = R at h
  cases R <;> exact h
theorem AnyE.runN (hT : TOk P T) {O : Ar} (hO : O = std) (k : Nat) {rd : Option Nat} {ops : Array Oper} {K : Fm → St → Prop} {fuel : Nat} {pend : List (Nat × AV)} {listed : Array Bool} {f : Fm} {st : St} {R : DOut} (hM : tidyB ops (masks ops) = true)
    (hR : Fz.runDN O T ops k fuel pend listed [] f st = R) (hc : allC R.cs) (h : R.post P T rd ops K) : AnyE P T ops (masks ops) rd K fuel pend listed f st := by
  subst hR
  exact runDN_ok hT hO hM _ _ _ _ _ _ _ (allC_ok hc) h
end Go.Fz
namespace Go.Fz
open Go.Proofs
set_option maxRecDepth 100000
end Go.Fz
namespace Go.Fz
open Go.ChangeShapes Go.WideShapes Go.Deep Go.Joins
section
variable {H : Type} {enc : TypeId × Value → H} {P : Program} {w : World} {base : Nat} {spare : Nat → Bool} {held : Bool}
end
end Go.Fz
namespace Go.Proofs.Ytpaifaemkoblcaa
open Go.ChangeShapes Go.WideShapes Go.ChangeAt Go.RowKit Go.Joins
set_option linter.unusedVariables false
set_option maxRecDepth 100000
end Go.Proofs.Ytpaifaemkoblcaa
namespace Go.Fz
open Go.Proofs
set_option maxRecDepth 100000
end Go.Fz
namespace Go.Fz
open Go.Proofs
set_option maxRecDepth 100000
end Go.Fz
namespace Go.Fz
open Go.Proofs
set_option maxRecDepth 100000
end Go.Fz
namespace Go.Fz
open Go.Proofs
set_option maxRecDepth 100000
end Go.Fz
namespace Go.Fz
open Go.Proofs
set_option maxRecDepth 100000
end Go.Fz
namespace Go.Fz
open Go.Proofs
set_option maxRecDepth 100000
end Go.Fz
namespace Go.Fz
open Go.Proofs
set_option maxRecDepth 100000
end Go.Fz
namespace Go.Fz
open Go.Proofs
set_option maxRecDepth 100000
end Go.Fz
namespace Go.Fz
open Go.Proofs
set_option maxRecDepth 100000
end Go.Fz
namespace Go.Fz
open Go.Proofs
set_option maxRecDepth 100000
end Go.Fz
namespace Go.Fz
open Go.Proofs
set_option maxRecDepth 100000
end Go.Fz
namespace Go.Fz
open Go.Proofs
set_option maxRecDepth 100000
end Go.Fz
set_option linter.unusedVariables false
set_option linter.unusedSimpArgs false
namespace Go.Fz
open Go.Proofs
set_option maxRecDepth 100000
variable {P : Program} {T : Ti}
theorem PickE.app (hT : TOk P T) {rd : Option Nat} {ops : Array Oper} {M : List Nat} {K : Fm → St → Prop} {fuel : Nat} {pend pend' : List (Nat × AV)} {listed : Array Bool} {f : Fm} {st st' : St} {j t : Nat} {s x r : AV}
    (hd : dropP M j pend = pend') (ha : appAt ops j f = some (t, s, x)) (hr : appendA T st t t s x = some (r, st')) (hk : AllP (fun p => lightV T ops st'.h (putAt ops j f r) p.1 = some p.2) pend')
    (h : AnyE P T ops M rd K fuel pend' (listed.setIfInBounds j true) (putAt ops j f r) st') : PickE P T ops M rd K fuel pend listed f st j := by
  obtain ⟨o, h1, h2, h3, h4⟩ := appAt_ok ha
  rw [h4] at hk h
  exact ⟨o, pend', h1, hd, OpsW.append hT h1 h2 (by rw [h3]; exact hr) (.nil ⟨⟨r, rfl⟩, (show PendOk T ops pend' (f.put o.dst r) st'.h from fun p hp => LV.of (hk.ok p hp)), h⟩)⟩
end Go.Fz
namespace Go.Fz
end Go.Fz
namespace Go.Fz
variable {P : Program} {T : Ti}
end Go.Fz
namespace Go.Fz
variable {P : Program} {T : Ti}
end Go.Fz
namespace Go.Fz
set_option maxRecDepth 100000
section
variable {P : Program} {T : Ti}
end
end Go.Fz
namespace Go.Fz
open Go.Proofs
set_option maxRecDepth 100000
section
variable {P : Program} {T : Ti}
end
end Go.Fz
namespace Go.Fz
open Go.Proofs
set_option maxRecDepth 100000
section
variable {α : Type}
end
end Go.Fz
namespace Go.Fz
open Go.Proofs
set_option maxRecDepth 100000
section
variable {α : Type}
end
end Go.Fz
namespace Go.Fz
set_option maxRecDepth 100000
section
variable {P : Program} {T : Ti}
end
end Go.Fz
namespace Go.Fz
variable {P : Program} {T : Ti}
end Go.Fz
namespace Go.Fz
open Go.Proofs
set_option maxRecDepth 100000
section
variable {P : Program} {T : Ti}
end
section
variable {α : Type}
end
end Go.Fz
namespace Go.Fz
variable {P : Program} {T : Ti}
end Go.Fz
namespace Go.Fz
open Go.Proofs
set_option maxRecDepth 100000
end Go.Fz
namespace Go.Fz
open Go.Proofs
set_option maxRecDepth 100000
end Go.Fz
namespace Go.Fz
open Go.Proofs
set_option maxRecDepth 100000
end Go.Fz
namespace Go.Fz
open Go.Proofs
set_option maxRecDepth 100000
section
variable {α : Type} (next : α → (Nat → Int) → α) (len : α → Nat) (N : Nat) (lo hi : Nat → Int)
end
end Go.Fz
namespace Go.Fz
open Go.Proofs
set_option maxRecDepth 100000
section
variable {P : Program} {T : Ti}
end
section
variable {P : Program}
end
end Go.Fz
namespace Go.Fz
variable {P : Program} {T : Ti}
end Go.Fz
namespace Go.Fz
open Go.Proofs
set_option maxRecDepth 100000
end Go.Fz
namespace Go.Fz
open Go.Proofs
set_option maxRecDepth 100000
end Go.Fz
namespace Go.Fz
open Go.Proofs
set_option maxRecDepth 100000
section
variable {P : Program} {T : Ti}
end
end Go.Fz
namespace Go.Fz
open Go.Proofs
set_option maxRecDepth 100000
end Go.Fz
set_option linter.unusedVariables false
set_option linter.unusedSimpArgs false
namespace Go.Fz
open Go.Proofs
set_option maxRecDepth 100000
section
variable {P : Program} {T : Ti}
end
def lsV (p : List Nat) : AV := intsV p.length false fun i => ((p.getD i 0 : Nat) : Int)
end Go.Fz
namespace Go.Fz
open Go.Proofs
set_option maxRecDepth 100000
section
variable (K : List (List Nat) → Hp → Nat → Prop) (stop : List (List Nat) → List Nat → Hp → Nat → Prop) (ok : List Nat → Prop) (mc y many : Nat) (ex : Bool)
variable {K stop ok mc y many ex}
end
end Go.Fz
namespace Go.Fz
open Go.Proofs
set_option maxRecDepth 100000
section
variable {K : List (List Nat) → Hp → Nat → Prop} {stop : List (List Nat) → List Nat → Hp → Nat → Prop} {ok : List Nat → Prop} {mc y many : Nat}
end
end Go.Fz
namespace Go.Fz
open Go.Proofs
set_option maxRecDepth 100000
section
variable {K : List (List Nat) → Hp → Nat → Prop} {stop : List (List Nat) → List Nat → Hp → Nat → Prop} {ok : List Nat → Prop} {mc y many : Nat}
end
end Go.Fz
namespace Go.Fz
open Go.Proofs
set_option maxRecDepth 100000
section
variable (d : DayD) (XO : AV) (hX : Below 0 XO) (E : List (Mk × Nat)) (cl : Nat) (hb : Born E cl)
end
end Go.Fz
namespace Go.Fz
open Go.Proofs
set_option maxRecDepth 100000
section
variable (d : DayD) (XO : AV) (E : List (Mk × Nat)) (cl : Nat)
end
end Go.Fz
namespace Go.Fz
open Go.Proofs
set_option maxRecDepth 100000
section
variable (d : DayD) (L : Nat) (G : Nat → Nat → AV) (ME : List (AV × AV × Nat)) (cl : Nat)
end
end Go.Fz
namespace Go.Fz
open Go.Proofs
set_option maxRecDepth 100000
section
variable (d : DayD) (L : Nat) (G : Nat → Nat → AV) (ME : List (AV × AV × Nat)) (cl : Nat) (Q : List Nat → Bool)
variable {d L G ME cl}
end
end Go.Fz
namespace Go.Fz
open Go.Proofs
set_option maxRecDepth 100000
end Go.Fz
namespace Go.Fz
open Go.Proofs
set_option maxRecDepth 100000
set_option linter.unusedVariables false
end Go.Fz
namespace Go.Fz
open Go.Proofs
set_option maxRecDepth 100000
set_option linter.unusedVariables false
end Go.Fz
namespace Go.Fz
open Go.Proofs
set_option maxRecDepth 100000
end Go.Fz
namespace Go.Fz
open Go.Proofs
set_option maxRecDepth 100000
section
variable (nw nl : Nat) (f0 f1 f2 f3 : Nat → Int) (z4 z5 z6 z7 : Int)
end
end Go.Fz
namespace Go.Fz
open Go.Proofs
set_option maxRecDepth 100000
section
end
end Go.Fz
namespace Go.Fz
open Go.Proofs
set_option maxRecDepth 100000
end Go.Fz
namespace Go.Fz
open Go.Proofs
set_option maxRecDepth 100000
end Go.Fz
namespace Go.Fz
open Go.Proofs
set_option maxRecDepth 100000
end Go.Fz
namespace Go.Fz
open Go.Proofs
set_option maxRecDepth 100000
end Go.Fz
namespace Go.Fz
open Go.Proofs
set_option maxRecDepth 100000
end Go.Fz
namespace Go.Fz
open Go.Proofs
set_option maxRecDepth 100000
end Go.Fz
namespace Go.Fz
open Go.Proofs
set_option maxRecDepth 100000
end Go.Fz
namespace Go.Fz
open Go.Proofs
set_option maxRecDepth 100000
end Go.Fz
namespace Go.Fz
open Go.Proofs
set_option maxRecDepth 100000
end Go.Fz
namespace Go.Fz
variable {P : Program}
end Go.Fz
namespace Go.Fz
open Go.Proofs
set_option maxRecDepth 100000
section
variable {P : Program} {T : Ti}
end
end Go.Fz
namespace Go.Fz
open Go.Proofs
set_option maxRecDepth 100000
end Go.Fz
namespace Go.Fz
open Go.Proofs
set_option maxRecDepth 100000
set_option linter.unusedVariables false
end Go.Fz
namespace Go.Fz
open Go.Proofs
set_option maxRecDepth 100000
set_option linter.unusedVariables false
end Go.Fz
namespace Go.Fz
open Go.Proofs
set_option maxRecDepth 100000
set_option linter.unusedVariables false
end Go.Fz
namespace Go.Fz
open Go.Proofs
set_option maxRecDepth 100000
set_option linter.unusedVariables false
end Go.Fz
namespace Go.Fz
open Go.Proofs
set_option maxRecDepth 100000
end Go.Fz
namespace Go.Fz
open Go.Proofs
set_option maxRecDepth 100000
def befF (fa fb : Nat → Int) (na nb : Nat) : Nat → Nat → Bool
  | _, 0 => decide ((na : Int) < nb)
  | i, k + 1 => if i < na ∧ i < nb then (if fa i = fb i then befF fa fb na nb (i + 1) k else decide (fa i < fb i)) else decide ((na : Int) < nb)
set_option pp.deepTerms false
set_option pp.deepTerms.threshold 5
def shortB (na nb : Nat) (fa fb : Nat → Int) : Bool := decide ((na : Int) < nb) || (decide ((na : Int) = nb) && befF fa fb na nb 0 (na + 1))
end Go.Fz
namespace Go.Fz
open Go.Proofs
set_option maxRecDepth 100000
def lI (l : List Nat) (i : Nat) : Int := ((l.getD i 0 : Nat) : Int)
end Go.Fz
namespace Go.Fz
open Go.Proofs
set_option maxRecDepth 100000
def shL (a b : List Nat) : Bool := shortB a.length b.length (lI a) (lI b)
theorem ord_fin : ∀ many : Fin 6, (risL many.1).Pairwise (fun x y => shL y x = false) ∧ (∀ l ∈ risL many.1, shL l l = false) ∧ List.range many.1 ∈ risL many.1 := by
  decide +kernel
theorem ris_before {many : Nat} (hm : many ≤ 5) {pre post : List (List Nat)} {l a : List Nat} (hE : risL many = pre ++ l :: post) (ha : a ∈ risL many) (hs : shL a l = true) : a ∈ pre := by
  obtain ⟨h1, h2, _⟩ := ord_fin ⟨many, by omega⟩
  simp only at h1 h2
  have hl := h2 l (by rw [hE]; simp)
  rw [hE] at h1 ha
  rcases List.mem_append.1 ha with ha | ha
  · exact ha
  · rcases List.mem_cons.1 ha with rfl | ha
    · rw [hl] at hs; cases hs
    · have := (List.pairwise_append.1 h1).2.1
      have := (List.pairwise_cons.1 this).1 a ha
      rw [this] at hs; cases hs
end Go.Fz
namespace Go.Fz
open Go.Proofs
set_option maxRecDepth 100000
theorem ris_len {many : Nat} (hm : many ≤ 5) {pre post : List (List Nat)} {l a : List Nat} (hE : risL many = pre ++ l :: post) (ha : a ∈ risL many) (hp : a ∉ pre) : l.length ≤ a.length := by
  rcases Nat.lt_or_ge a.length l.length with h | h
  · refine absurd (ris_before hm hE ha ?_) hp
    unfold shL shortB
    have : (a.length : Int) < l.length := by omega
    rw [decide_eq_true this]; rfl
  · exact h
theorem find_split {α : Type} {p : α → Bool} : ∀ {l : List α} {a : α}, l.find? p = some a → ∃ pre post, l = pre ++ a :: post ∧ (∀ b ∈ pre, p b = false) ∧ p a = true
  | [], _, h => by cases h
  | x :: l, a, h => by
    rw [List.find?_cons] at h
    split at h
    · rename_i hx
      cases h
      exact ⟨[], l, rfl, (fun b hb => by cases hb), hx⟩
    · rename_i hx
      obtain ⟨pre, post, h1, h2, h3⟩ := find_split h
      refine ⟨x :: pre, post, by rw [h1]; rfl, fun b hb => ?_, h3⟩
      rcases List.mem_cons.1 hb with rfl | hb
      · simpa using hx
      · exact h2 b hb
theorem find_short {many : Nat} (hm : many ≤ 5) {p : List Nat → Bool} {l a : List Nat} (h : (risL many).find? p = some l) (ha : a ∈ risL many) (hp : p a = true) : l.length ≤ a.length := by
  obtain ⟨pre, post, h1, h2, _⟩ := find_split h
  refine ris_len hm h1 ha fun hin => ?_
  rw [h2 a hin] at hp; cases hp
theorem find_in {many : Nat} {p : List Nat → Bool} {l : List Nat} (h : (risL many).find? p = some l) : l ∈ risL many ∧ p l = true := by
  obtain ⟨pre, post, h1, _, h3⟩ := find_split h
  exact ⟨by rw [h1]; simp, h3⟩
theorem find_ex {many : Nat} {p : List Nat → Bool} {a : List Nat} (ha : a ∈ risL many) (hp : p a = true) : ∃ l, (risL many).find? p = some l := by
  cases h : (risL many).find? p with
  | some l => exact ⟨l, rfl⟩
  | none =>
    have := List.find?_eq_none.1 h a ha
    rw [hp] at this; exact absurd rfl this
section
variable (d : DayD) (k w lo hi : Int)
theorem ris_plus : ∀ n : Fin 5, (∀ l ∈ risL (n.1 + 1), l.filter (· < n.1) ∈ risL n.1 ∧ (l.filter (· < n.1)).length ≤ l.length) ∧ ∀ l ∈ risL n.1, l ++ [n.1] ∈ risL (n.1 + 1) := by decide +kernel
end
end Go.Fz
namespace Go.Fz
open Go.Proofs
set_option maxRecDepth 100000
theorem append_noneZ {T : Ti} {t id sz n : Nat} {ex : Bool} {g : Nat → Nat → AV} {st : St} (hz : n = 0) (h : sliceB T t sz = true) (hx : st.h.get id = some (.cells none false [])) :
    appendA T st t t (.sl id 0 0 sz true) (.isl n sz ex g) = some (.sl id 0 0 sz true, st) := by
  subst hz
  exact append_none h hx
theorem append_emptyG {T : Ti} {t id sz n : Nat} {ex : Bool} {g : Nat → Nat → AV} {st : St} {G : List AV} (h : sliceB T t sz = true) (hx : st.h.get id = some (.cells none false [])) (hn : n < 1048576) (h0 : 0 < n) (hone : ∀ i k, (g i k).one = true) (hG : G = flatG sz g n) :
    appendA T st t t (.sl id 0 0 sz true) (.isl n sz ex g) = some (.sl st.n 0 n sz false, st.push (.cells none false G)) := by
  subst hG
  exact append_empty h hx hn h0 hone
section
variable {T : Ti}
theorem append_emptyM {t id id2 sz n : Nat} {ex : Bool} {g : Nat → Nat → AV} {G : List AV} {st : St} {fm : Option Nat} {ro : Bool} (h : sliceB T t sz = true) (hx : st.h.get id = some (.cells none false [])) (hy : st.h.get id2 = some (.cells fm ro G)) (hG : G = flatG sz g n)
    (hn : n < 1048576) (h0 : 0 < n) (hone : ∀ i k, (g i k).one = true) :
    appendA T st t t (.sl id 0 0 sz true) (.sl id2 0 n sz ex) = some (.sl st.n 0 n sz false, st.push (.cells none false G)) := by
  have hc : slCells st.h sz (.sl id2 0 n sz ex) = slCells st.h sz (.isl n sz ex g) := by
    obtain ⟨i, j, e, h1, h2, h3, h4, h5, h6, h7, h8⟩ := sliceB_ok h
    subst h4
    simp only [slCells, cellsAt, hy, hG]
    rw [if_pos ⟨trivial, by rw [flatG_length]; omega⟩, if_pos ⟨trivial, h5⟩, List.drop_zero, List.take_of_length_le (by rw [flatG_length]; omega)]
  rw [hG]
  have := append_empty (ex := ex) h hx hn h0 hone
  unfold appendA at this ⊢
  obtain ⟨i, j, e, h1, h2, h3, h4, h5, h6, h7, h8⟩ := sliceB_ok h
  subst h4
  simp only [h1, h2, h3, slLen] at this ⊢
  rw [hc]
  exact this
end
theorem WeakR.tabM {n0 m : Nat} {tb : List (Nat × Nat)} {f1 : Fm} {st1 : St} {l : List (Nat × AV)} {len : Nat} {dm : List Nat} {h2 : Hp} {n2 : Nat} (e1 : len = f1.ts.len) (e2 : dm = f1.dm) (e3 : ∀ id ∈ dm, id < n0) (hid : (tb.all fun p => Nat.ble n0 p.1) = true) (lo : n0 ≤ n2)
    (hinj : (h2.all fun p => h2.all fun q => !(Nat.beq (tabR tb p.1) (tabR tb q.1)) || Nat.beq p.1 q.1) = true)
    (get : AllP (fun p => RenV (tabR tb) n2 p.2 (f1.ts.get p.1)) l) (obj : AllP (fun p => p.1 < n2 ∧ ∃ o1, st1.h.get (tabR tb p.1) = some o1 ∧ RenO (tabR tb) n2 p.2 o1 ∧ (p.1 = m ∨ o1.fam = none)) h2) : WeakR n0 (tabR tb) f1 st1 ⟨⟨len, getT l⟩, dm⟩ ⟨h2, n2⟩ := by
  refine WeakR.of (m := m) e1 e2 e3 (tabR_id hid) lo (fun p hp => get.ok p hp) (fun p hp => ?_) (inj_of hinj)
  obtain ⟨h1, o1, h3, h4, h5⟩ := obj.ok p hp
  exact ⟨h1, o1, h3, h4, h5⟩
end Go.Fz
namespace Go.Fz
open Go.Proofs
set_option maxRecDepth 100000
section
variable {P : Program} {T : Ti}
end
end Go.Fz
namespace Go.Fz
open Go.Proofs
set_option maxRecDepth 100000
end Go.Fz
namespace Go.Fz
open Go.Proofs
set_option maxRecDepth 100000
set_option linter.unusedVariables false
end Go.Fz
namespace Go.Fz
open Go.Proofs
set_option maxRecDepth 100000
set_option linter.unusedVariables false
end Go.Fz
namespace Go.Fz
open Go.Proofs
set_option maxRecDepth 100000
set_option linter.unusedVariables false
end Go.Fz
namespace Go.Fz
open Go.Proofs
set_option maxRecDepth 100000
end Go.Fz
namespace Go.Fz
open Go.Proofs
set_option maxRecDepth 100000
set_option linter.unusedVariables false
section
variable {P : Program}
end
end Go.Fz
namespace Go.Fz
open Go.Proofs
set_option maxRecDepth 100000
set_option linter.unusedVariables false
end Go.Fz
namespace Go.Fz
open Go.Proofs
set_option maxRecDepth 100000
set_option linter.unusedVariables false
end Go.Fz
namespace Go.Fz
open Go.Proofs
set_option maxRecDepth 100000
set_option linter.unusedVariables false
end Go.Fz
namespace Go.Proofs.Ytpaifaemkoblcaa
open Go.ChangeShapes Go.WideShapes Go.ChangeAt Go.RowKit Go.Joins
set_option linter.unusedVariables false
set_option maxRecDepth 100000
theorem u8_in {n : Int} (h : (Lit.int .u8 n).wf = true) : 0 ≤ n ∧ n ≤ 255 := by
  simp [Lit.wf, IntKind.min, IntKind.max, IntKind.signed, IntKind.bits] at h
  omega
end Go.Proofs.Ytpaifaemkoblcaa
set_option linter.unusedVariables false
namespace Go.Fz
open Go.Proofs
set_option maxRecDepth 100000
theorem nI_val (p : List Nat) : zV (nI p) = lsV p := by
  unfold zV lsV
  rw [nI_len]
  congr 1
  funext i
  unfold zL nI
  rw [List.getD_eq_getElem?_getD, List.getD_eq_getElem?_getD, List.getElem?_map]
  cases p[i]? <;> rfl
section
variable (K : List (List Nat) → Hp → Prop) (stop : List (List Nat) → List Nat → Hp → Prop) (y many : Nat) (E : List (List Nat))
variable {K stop y many E}
end
end Go.Fz
set_option linter.unusedVariables false
namespace Go.Fz
open Go.Proofs
set_option maxRecDepth 100000
end Go.Fz
set_option linter.unusedVariables false
namespace Go.Fz
open Go.Proofs
set_option maxRecDepth 100000
end Go.Fz
set_option linter.unusedVariables false
namespace Go.Fz
open Go.Proofs
set_option maxRecDepth 100000
end Go.Fz
set_option linter.unusedVariables false
namespace Go.Fz
open Go.Proofs
set_option maxRecDepth 100000
theorem memGetD {l : List Nat} {p : Nat} : p ∈ l ↔ ∃ j, j < l.length ∧ l.getD j 0 = p := by
  constructor
  · intro h
    obtain ⟨j, hj, rfl⟩ := List.getElem_of_mem h
    exact ⟨j, hj, by rw [List.getD_eq_getElem?_getD, List.getElem?_eq_getElem hj]; rfl⟩
  · rintro ⟨j, hj, rfl⟩
    rw [List.getD_eq_getElem?_getD, List.getElem?_eq_getElem hj]
    exact List.getElem_mem hj
def coL (nc : Nat) (l : List Nat) : List Nat := (List.range nc).filter fun p => !l.contains p
theorem mem_coL {nc : Nat} {l : List Nat} {p : Nat} : p ∈ coL nc l ↔ p < nc ∧ p ∉ l := by
  unfold coL
  rw [List.mem_filter, List.mem_range]
  simp
theorem hasI_iff {l : List Nat} {p : Nat} : hasN (nI l).length (zL (nI l)) (p : Int) = true ↔ p ∈ l := by
  have hz : ∀ j, j < l.length → zL (nI l) j = ((l.getD j 0 : Nat) : Int) := fun j hj => by
    unfold zL nI
    rw [List.getD_eq_getElem?_getD, List.getD_eq_getElem?_getD, List.getElem?_map, List.getElem?_eq_getElem hj]; rfl
  unfold hasN
  rw [decide_eq_true_eq, memGetD, nI_len]
  constructor
  · rintro ⟨j, hj, h⟩
    rw [hz j hj] at h
    exact ⟨j, hj, Int.ofNat_inj.1 h⟩
  · rintro ⟨j, hj, h⟩
    exact ⟨j, hj, by rw [hz j hj]; exact congrArg Int.ofNat h⟩
theorem lvs_iff {f : FarmD} {l : List Nat} : f.lvs l = true ↔ ∃ c ∈ f.chL, ∀ j ∈ coL f.nl l, f.rightB (f.water (zL c)) j = true := by
  unfold FarmD.lvs
  rw [List.any_eq_true]
  have hc : ∀ c, f.lvC l c = true ↔ ∀ j ∈ coL f.nl l, f.rightB (f.water (zL c)) j = true := fun c => by
    unfold FarmD.lvC allN FarmD.butB
    rw [decide_eq_true_eq]
    constructor
    · intro h j hj
      obtain ⟨h1, h2⟩ := mem_coL.1 hj
      rcases Bool.or_eq_true_iff.1 (h j h1) with h3 | h3
      · exact absurd (hasI_iff.1 h3) h2
      · exact h3
    · intro h i hi
      rw [Bool.or_eq_true]
      by_cases hm : i ∈ l
      · exact .inl (hasI_iff.2 hm)
      · exact .inr (h i (mem_coL.2 ⟨hi, hm⟩))
  constructor
  · rintro ⟨c, h1, h2⟩; exact ⟨c, h1, (hc c).1 h2⟩
  · rintro ⟨c, h1, h2⟩; exact ⟨c, h1, (hc c).2 h2⟩
theorem rng_ris5 : ∀ nc : Fin 6, List.range nc.1 ∈ risL nc.1 := by decide +kernel
end Go.Fz
set_option linter.unusedVariables false
namespace Go.Fz
open Go.Proofs
set_option maxRecDepth 100000
def FarmD.plusL (f : FarmD) (b : Int) (ov : Bool) (lo hi : Int) : FarmD := { f with nl := f.nl + 1, lb := fun i => if i < f.nl then f.lb i else b, lov := fun i => if i < f.nl then f.lov i else ov, llo := fun i => if i < f.nl then f.llo i else lo, lhi := fun i => if i < f.nl then f.lhi i else hi }
section
variable (f : FarmD) (b : Int) (ov : Bool) (lo hi : Int)
theorem plus_playS (fl : Nat → Int) : ∀ s, playS (f.plusL b ov lo hi) fl s = playS f fl s
  | 0 => rfl
  | s + 1 => by
    show stepS (f.plusL b ov lo hi) fl s (playS (f.plusL b ov lo hi) fl s) = stepS f fl s (playS f fl s)
    rw [plus_playS fl s]; rfl
theorem plus_playB (K fl : Nat → Int) : ∀ i, playB (f.plusL b ov lo hi) K fl i = playB f K fl i
  | 0 => plus_playS f b ov lo hi fl f.ns
  | i + 1 => by
    show stepB (f.plusL b ov lo hi) K i (playB (f.plusL b ov lo hi) K fl i) = stepB f K i (playB f K fl i)
    rw [plus_playB K fl i]; rfl
theorem plus_playF (K fl : Nat → Int) : playF (f.plusL b ov lo hi) K fl = playF f K fl := plus_playB f b ov lo hi K fl f.nb
theorem plus_water (fl : Nat → Int) : (f.plusL b ov lo hi).water fl = f.water fl := plus_playB f b ov lo hi (f.k0 f.nb) fl f.nb
theorem plus_right (W : Wat) {i : Nat} (hi' : i < f.nl) : (f.plusL b ov lo hi).rightB W i = f.rightB W i := by
  have h1 : (f.plusL b ov lo hi).lb i = f.lb i := if_pos hi'
  have h2 : (f.plusL b ov lo hi).lov i = f.lov i := if_pos hi'
  have h3 : (f.plusL b ov lo hi).llo i = f.llo i := if_pos hi'
  have h4 : (f.plusL b ov lo hi).lhi i = f.lhi i := if_pos hi'
  unfold FarmD.rightB
  rw [h1, h2, h3, h4]
end
section
variable {f : FarmD} {b : Int} {ov : Bool} {lo hi : Int}
theorem plus_rgt {l : List Int} (h : (f.plusL b ov lo hi).rgt l = true) : f.rgt l = true := by
  unfold FarmD.rgt allN at h ⊢
  rw [decide_eq_true_eq] at h ⊢
  intro i hi
  have := h i (show i < f.nl + 1 by omega)
  rw [plus_water, plus_right f b ov lo _ _ hi] at this
  exact this
theorem plus_trs {l : List Int} (h : l ∈ (f.plusL b ov lo hi).trs) : l ∈ f.trs := by
  obtain ⟨h1, h2⟩ := List.mem_filter.1 h
  exact List.mem_filter.2 ⟨h1, plus_rgt h2⟩
end
theorem plus_ne {f : FarmD} {b : Int} {ov : Bool} {lo hi : Int} (h : (f.plusL b ov lo hi).trs ≠ []) : f.trs ≠ [] := fun e => by
  obtain ⟨l, hl⟩ := List.exists_mem_of_ne_nil _ h
  have := plus_trs hl
  rw [e] at this; cases this
theorem lve_first {f : FarmD} (hc : f.check = 0) : ∃ l, (risL f.nl).find? f.lvs = some l ∧ f.lveL = zV (nI l) := by
  have g := good_of_check hc
  have h5 := g.nl
  have hv : f.lvs (List.range f.nl) = true := by
    obtain ⟨c, hcc⟩ := List.exists_mem_of_ne_nil _ (chL_ne g)
    refine lvs_iff.2 ⟨c, hcc, fun j hj => ?_⟩
    obtain ⟨h2, h3⟩ := mem_coL.1 hj
    exact absurd (List.mem_range.2 h2) h3
  obtain ⟨l, hl⟩ := find_ex (rng_ris5 ⟨f.nl, by omega⟩) hv
  refine ⟨l, hl, ?_⟩
  unfold FarmD.lveL
  rw [if_pos hc, hl]
theorem plus_lens {f : FarmD} {b : Int} {ov : Bool} {lo hi : Int} (h5 : f.nl + 1 ≤ 5) {l m : List Nat} (hl : (risL f.nl).find? f.lvs = some l) (hm : (risL (f.nl + 1)).find? (f.plusL b ov lo hi).lvs = some m) : l.length ≤ m.length ∧ m.length ≤ l.length + 1 := by
  have h4 : f.nl ≤ 5 := by omega
  obtain ⟨l1, l2⟩ := find_in hl
  obtain ⟨m1, m2⟩ := find_in hm
  obtain ⟨r1, r2⟩ := ris_plus ⟨f.nl, by omega⟩
  have r1 := r1 m m1
  have r2 := r2 l l1
  constructor
  · refine Nat.le_trans (find_short h4 hl r1.1 ?_) r1.2
    obtain ⟨c, hc, hp⟩ := lvs_iff.1 m2
    refine lvs_iff.2 ⟨c, hc, fun j hj => ?_⟩
    obtain ⟨j1, j2⟩ := mem_coL.1 hj
    have := hp j (mem_coL.2 ⟨show j < f.nl + 1 by omega, fun h => j2 (List.mem_filter.2 ⟨h, decide_eq_true j1⟩)⟩)
    rw [plus_water, plus_right f b ov lo hi _ j1] at this
    exact this
  · have := find_short (show f.nl + 1 ≤ 5 by omega) hm r2 (by
      obtain ⟨c, hc, hp⟩ := lvs_iff.1 l2
      refine lvs_iff.2 ⟨c, hc, fun j hj => ?_⟩
      obtain ⟨j1, j2⟩ := mem_coL.1 hj
      have j1 : j < f.nl + 1 := j1
      have j3 : j < f.nl := by
        have : j ≠ f.nl := fun e => j2 (by rw [e]; simp)
        omega
      rw [plus_water, plus_right f b ov lo hi _ j3]
      exact hp j (mem_coL.2 ⟨j3, fun h => j2 (List.mem_append.2 (.inl h))⟩))
    rw [List.length_append] at this
    exact this
theorem ris_lens (n : Nat) : (risL n).Pairwise fun x y => x.length ≤ y.length := by
  unfold risL
  rw [List.pairwise_flatMap]
  refine ⟨fun m hm => ?_, ?_⟩
  · rw [List.pairwise_iff_forall_sublist]
    intro x y hxy
    have h1 := risE_len _ _ _ x (hxy.subset (by simp))
    have h2 := risE_len _ _ _ y (hxy.subset (by simp))
    omega
  · refine List.Pairwise.imp_of_mem (R := (· < ·)) ?_ List.pairwise_lt_range
    intro m m' _ _ hlt x hx y hy
    have h1 := risE_len _ _ _ x hx
    have h2 := risE_len _ _ _ y hy
    omega
theorem find_len {n : Nat} {p : List Nat → Bool} {l a : List Nat} (h : (risL n).find? p = some l) (ha : a ∈ risL n) (hp : p a = true) : l.length ≤ a.length := by
  obtain ⟨h1, pre, post, h2, h3⟩ := List.find?_eq_some_iff_append.1 h
  have hs := ris_lens n
  rw [h2] at ha hs
  rcases List.mem_append.1 ha with h4 | h4
  · have := h3 a h4
    rw [hp] at this; cases this
  · rcases List.mem_cons.1 h4 with rfl | h4
    · exact Nat.le_refl _
    · exact (List.pairwise_cons.1 (List.pairwise_append.1 hs).2.1).1 a h4
theorem plus_suff {f : FarmD} {b : Int} {ov : Bool} {lo hi : Int} {l : List Nat} (h : f.suff l = true) : (f.plusL b ov lo hi).suff l = true := by
  unfold FarmD.suff at h ⊢
  rw [List.all_eq_true] at h ⊢
  intro c hc
  have h1 := h c (plus_trs hc)
  unfold FarmD.allFed at h1 ⊢
  have h2 : ∀ K i, playF (f.plusL b ov lo hi) K (zL c) i 1 = playF f K (zL c) i 1 := fun K i => by rw [plus_playF]
  simp only [h2]
  exact h1
theorem plus_few {f : FarmD} {b : Int} {ov : Bool} {lo hi : Int} {l : List Nat} (h : f.fewO = some l) : ∃ m, (f.plusL b ov lo hi).fewO = some m ∧ m.length ≤ l.length := by
  obtain ⟨h1, h2⟩ := find_in h
  obtain ⟨m, hm⟩ := find_ex (p := (f.plusL b ov lo hi).suff) h1 (plus_suff h2)
  exact ⟨m, hm, find_len hm h1 (plus_suff h2)⟩
theorem plus_bounds {f : FarmD} {b : Int} {ov : Bool} {lo hi : Int} (h : (f.plusL b ov lo hi).trs ≠ []) (k c : Nat) : f.bLo k c ≤ (f.plusL b ov lo hi).bLo k c ∧ (f.plusL b ov lo hi).bHi k c ≤ f.bHi k c := by
  have hw : ∀ l, (f.plusL b ov lo hi).wtr k c l = f.wtr k c l := fun l => by unfold FarmD.wtr; rw [plus_water]
  obtain ⟨l, h1, h2⟩ := FarmD.bLo_mem (b := k) (c := c) h
  obtain ⟨m, h3, h4⟩ := FarmD.bHi_mem (b := k) (c := c) h
  rw [← h2, ← h4, hw, hw]
  exact ⟨FarmD.bLo_le (plus_trs h1), FarmD.bHi_ge (plus_trs h3)⟩
theorem plus_vrd {f : FarmD} {b : Int} {ov : Bool} {lo hi : Int} (h : (f.plusL b ov lo hi).trs ≠ []) (k : Nat) (hv : f.vrd k ≠ 3) : (f.plusL b ov lo hi).vrd k = f.vrd k := by
  have hw : ∀ l, (f.plusL b ov lo hi).fedOk k l = f.fedOk k l := fun l => by unfold FarmD.fedOk; rw [plus_water]; rfl
  obtain ⟨l, hl⟩ := List.exists_mem_of_ne_nil _ h
  have hw2 : (f.plusL b ov lo hi).fedOk k = f.fedOk k := funext hw
  unfold FarmD.vrd at hv ⊢
  rw [hw2]
  by_cases h1 : f.trs.any (fun l => !f.fedOk k l) = false
  · have : (f.plusL b ov lo hi).trs.any (fun l => !f.fedOk k l) = false := by
      rw [List.any_eq_false] at h1 ⊢
      exact fun x hx => h1 x (plus_trs hx)
    rw [if_pos h1, if_pos this]
  · rw [if_neg h1] at hv ⊢
    by_cases h2 : f.trs.any (f.fedOk k) = false
    · have h3 : (f.plusL b ov lo hi).trs.any (f.fedOk k) = false := by
        rw [List.any_eq_false] at h2 ⊢
        exact fun x hx => h2 x (plus_trs hx)
      have h4 : ¬ (f.plusL b ov lo hi).trs.any (fun l => !f.fedOk k l) = false := by
        rw [List.any_eq_false]
        intro h5
        have h6 := h5 l hl
        have h7 := (List.any_eq_false.1 h3) l hl
        cases hh : f.fedOk k l with
        | true => exact h7 hh
        | false => rw [hh] at h6; exact h6 rfl
      rw [if_neg h4, if_pos h3, if_pos h2]
    · rw [if_neg h2] at hv
      exact absurd rfl hv
end Go.Fz
set_option linter.unusedVariables false
namespace Go.Fz
open Go.Proofs
set_option maxRecDepth 100000
def trueQ3 (fn : Func) : Exit → Fm → St → Prop := retQ T fn (fun v st' => Eqv (frz st'.h (fun _ => true) 3 v) (.lit (.bool true)))
theorem check_of_ready {f : FarmD} (h : f.readyB = true) : f.check = 0 := by
  simp only [FarmD.readyB, Bool.and_eq_true, decide_eq_true_eq] at h
  rw [f.check_eq]; exact h.2
theorem ready_sb (f : FarmD) {t : Bool} (h : f.readyB = t) : Pure Try.prog 52 [farmV f] (.sb t) := by
  have := ready_ok f
  rw [h] at this; exact this
theorem modN {nb : Nat} (h0 : 0 < nb) (h1 : nb < 1000) {a : Int} (a0 : 0 ≤ a) (a1 : a ≤ 65535) : ∃ k : Nat, k < nb ∧ std.bin .rem .i64 (std.conv .i64 a) (Int.ofNat nb) = Int.ofNat k := by
  have e1 : std.conv .i64 a = a := wrp_in (by simp only [IntKind.lo]; omega) (by simp only [IntKind.hi]; omega)
  rw [e1]
  have e2 : std.bin .rem .i64 a (Int.ofNat nb) = a.tmod (nb : Int) := rfl
  have h2 := Int.tmod_nonneg (nb : Int) a0
  have h3 := Int.tmod_lt_of_pos a (show (0 : Int) < nb by omega)
  refine ⟨(a.tmod (nb : Int)).toNat, by omega, ?_⟩
  rw [e2]
  show _ = (((a.tmod (nb : Int)).toNat : Nat) : Int)
  omega
end Go.Fz
set_option linter.unusedVariables false
namespace Go.Fz
open Go.Proofs
set_option maxRecDepth 100000
def lok1 (k : Int) (ov : Bool) (lo hi : Int) (j : Nat) : AV := match j with
  | 0 => iV k
  | 1 => .sb ov
  | 2 => iV lo
  | _ => iV hi
theorem lok1_one (k : Int) (ov : Bool) (lo hi : Int) (j : Nat) : (lok1 k ov lo hi j).one = true := by unfold lok1; split <;> rfl
theorem plus_flat (d : FarmD) (k : Int) (ov : Bool) (lo hi : Int) : flatG 4 (lookC d) d.nl ++ [iV k, .sb ov, iV lo, iV hi] = flatG 4 (lookC (d.plusL k ov lo hi)) (d.nl + 1) := by
  have h1 : flatG 4 (lookC (d.plusL k ov lo hi)) d.nl = flatG 4 (lookC d) d.nl := flatG_congr fun i j hi' => by
    have e1 : (d.plusL k ov lo hi).lb i = d.lb i := if_pos hi'
    have e2 : (d.plusL k ov lo hi).lov i = d.lov i := if_pos hi'
    have e3 : (d.plusL k ov lo hi).llo i = d.llo i := if_pos hi'
    have e4 : (d.plusL k ov lo hi).lhi i = d.lhi i := if_pos hi'
    unfold lookC
    rw [e1, e2, e3, e4]
  have hn : ¬ d.nl < d.nl := Nat.lt_irrefl _
  have f1 : (d.plusL k ov lo hi).lb d.nl = k := if_neg hn
  have f2 : (d.plusL k ov lo hi).lov d.nl = ov := if_neg hn
  have f3 : (d.plusL k ov lo hi).llo d.nl = lo := if_neg hn
  have f4 : (d.plusL k ov lo hi).lhi d.nl = hi := if_neg hn
  show _ = flatG 4 (lookC (d.plusL k ov lo hi)) d.nl ++ [iV ((d.plusL k ov lo hi).lb d.nl), .sb ((d.plusL k ov lo hi).lov d.nl), iV ((d.plusL k ov lo hi).llo d.nl), iV ((d.plusL k ov lo hi).lhi d.nl)]
  rw [h1, f1, f2, f3, f4]
def cmS (d : FarmD) (cl : List AV) (h : Hp) (XC : AV) (n : Nat) : St := ⟨h ++ [(2, .cells none false [springsV d, bedsV d, XC]), (1, .cells none false cl), (0, .cells none false (farmL d))], n⟩
def cmL (x0 : Int) : List (Nat × AV) := [(2, .lit (.int .u8 x0)), (3, .ptr 0 0), (4, .ptr 1 0), (7, .ptr 2 0)]
set_option maxHeartbeats 16000000 in
theorem bmore_s2z (d : FarmD) (k : Int) (ov : Bool) (lo hi x0 : Int) (h0 : d.nl = 0) (g : Nat → AV) (h : AllP (fun p => g p.1 = p.2) (cmL x0)) :
    SW Try.prog none (nthC 2 (bodyF Try.f14)) (midK 187 (cmL x0) (cmS d [iV k, .sb ov, iV lo, iV hi] [(3, .cells none false [iV k, .sb ov, iV lo, iV hi])] (.sl 3 0 1 4 false) 4))
      ⟨⟨187, g⟩, []⟩ (cmS d [iV k, .sb ov, iV lo, iV hi] [] (looksV d) 3) := by
  obtain ⟨O, hO⟩ : ∃ O : Ar, O = std := ⟨_, rfl⟩
  obtain ⟨g2, g3, g4, g7, _⟩ := h
  simp only at g2 g3 g4 g7
  rw [← updT_self g2, ← updT_self g3, ← updT_self g4, ← updT_self g7]
  have hGb : ∀ a ∈ [iV k, .sb ov, iV lo, iV hi], Below 0 a := AllB.ok ⟨Below.lit, Below.sb, Below.lit, Below.lit, trivial⟩
  refine SW.ren ?_
  refine SW.runD tok mixed hO (by kernel_rfl) (by cbv <;> rfl) (by trivial) ?_
  refine AnyE.many [0, 5] (by cbv <;> rfl) (by rfl) ⟨?_, ?_, trivial⟩
  · refine PickE.eff tok hO (by cbv <;> rfl) (by cbv <;> rfl) (by trivial) ?_ ?_
    · exact (by repeat (first | exact trivial | refine And.intro (by first | exact lv_of hO (by cbv <;> rfl) (by trivial) | (cbv <;> rfl)) ?_))
    refine AnyE.run tok hO (by rfl) (by cbv <;> rfl) (by trivial) ?_
    refine AnyE.many [3, 5] (by cbv <;> rfl) (by rfl) ⟨?_, ?_, trivial⟩
    · refine PickE.app tok (by cbv <;> rfl) (by cbv <;> rfl) (append_noneZ h0 (by kernel_rfl) (by rfl)) ?_ ?_
      · exact (by repeat (first | exact trivial | refine And.intro (by first | exact lv_of hO (by cbv <;> rfl) (by trivial) | (cbv <;> rfl)) ?_))
      refine AnyE.run tok hO (by rfl) (by cbv <;> rfl) (by trivial) ?_
      refine AnyE.effK tok hO (by cbv <;> rfl) (by cbv <;> rfl) (by trivial) ?_ ?_
      · exact (by repeat (first | exact trivial | refine And.intro (by first | exact lv_of hO (by cbv <;> rfl) (by trivial) | (cbv <;> rfl)) ?_))
      refine AnyE.run tok hO (by rfl) (by cbv <;> rfl) (by trivial) ?_
      refine AnyE.appK tok (by cbv <;> rfl) (by cbv <;> rfl) (append_emptyM (G := [iV k, .sb ov, iV lo, iV hi]) (g := fun _ => lok1 k ov lo hi) (by kernel_rfl) (by rfl) (by rfl) (by rfl) (by omega) (by omega) (fun i j => lok1_one k ov lo hi j)) ?_ ?_
      · exact (by repeat (first | exact trivial | refine And.intro (by first | exact lv_of hO (by cbv <;> rfl) (by trivial) | (cbv <;> rfl)) ?_))
      refine AnyE.run tok hO (by rfl) (by cbv <;> rfl) (by trivial) ?_
      refine AnyE.effK tok hO (by cbv <;> rfl) (by cbv <;> rfl) (by trivial) ?_ ?_
      · exact (by repeat (first | exact trivial | refine And.intro (by first | exact lv_of hO (by cbv <;> rfl) (by trivial) | (cbv <;> rfl)) ?_))
      refine AnyE.run tok hO (by rfl) (by cbv <;> rfl) (by trivial) ?_
      refine ⟨tabR [(3, 5)], ⟨⟨187, getT (cmL x0)⟩, []⟩, cmS d [iV k, .sb ov, iV lo, iV hi] [(3, .cells none false [iV k, .sb ov, iV lo, iV hi])] (.sl 3 0 1 4 false) 4, ?_, rfl, _, rfl, ⟨rfl, rfl, rfl, rfl, trivial⟩, rfl⟩
      refine WeakR.tabM (m := 3) rfl rfl (by simp) (by rfl) (by show 3 ≤ 4; omega) (by rfl) ⟨RenV.closed Below.lit, RenV.ptr (by omega), RenV.ptr (by omega), RenV.ptr (by omega), trivial⟩ ⟨⟨by omega, _, rfl, .cells (RenVs.of_eq rfl hGb), .inl rfl⟩, ⟨by omega, _, rfl, .cells (.cons (RenV.closed (springsV_below d)) (.cons (RenV.closed (bedsV_below d)) (.cons (RenV.sl (by omega)) .nil))), .inr rfl⟩, ⟨by omega, _, rfl, .cells (RenVs.closed (AllB.ok ⟨Below.lit, Below.sb, Below.lit, Below.lit, trivial⟩)), .inr rfl⟩, ⟨by omega, _, rfl, .cells (RenVs.closed (farmL_below d)), .inr rfl⟩, trivial⟩
    · refine PickE.eff tok hO (by cbv <;> rfl) (by cbv <;> rfl) (by trivial) ?_ ?_
      · exact (by repeat (first | exact trivial | refine And.intro (by first | exact lv_of hO (by cbv <;> rfl) (by trivial) | (cbv <;> rfl)) ?_))
      refine AnyE.run tok hO (by rfl) (by cbv <;> rfl) (by trivial) ?_
      refine AnyE.appK tok (by cbv <;> rfl) (by cbv <;> rfl) (append_noneZ h0 (by kernel_rfl) (by rfl)) ?_ ?_
      · exact (by repeat (first | exact trivial | refine And.intro (by first | exact lv_of hO (by cbv <;> rfl) (by trivial) | (cbv <;> rfl)) ?_))
      refine AnyE.run tok hO (by rfl) (by cbv <;> rfl) (by trivial) ?_
      refine AnyE.appK tok (by cbv <;> rfl) (by cbv <;> rfl) (append_emptyM (G := [iV k, .sb ov, iV lo, iV hi]) (g := fun _ => lok1 k ov lo hi) (by kernel_rfl) (by rfl) (by rfl) (by rfl) (by omega) (by omega) (fun i j => lok1_one k ov lo hi j)) ?_ ?_
      · exact (by repeat (first | exact trivial | refine And.intro (by first | exact lv_of hO (by cbv <;> rfl) (by trivial) | (cbv <;> rfl)) ?_))
      refine AnyE.run tok hO (by rfl) (by cbv <;> rfl) (by trivial) ?_
      refine AnyE.effK tok hO (by cbv <;> rfl) (by cbv <;> rfl) (by trivial) ?_ ?_
      · exact (by repeat (first | exact trivial | refine And.intro (by first | exact lv_of hO (by cbv <;> rfl) (by trivial) | (cbv <;> rfl)) ?_))
      refine AnyE.run tok hO (by rfl) (by cbv <;> rfl) (by trivial) ?_
      refine ⟨tabR [(3, 5)], ⟨⟨187, getT (cmL x0)⟩, []⟩, cmS d [iV k, .sb ov, iV lo, iV hi] [(3, .cells none false [iV k, .sb ov, iV lo, iV hi])] (.sl 3 0 1 4 false) 4, ?_, rfl, _, rfl, ⟨rfl, rfl, rfl, rfl, trivial⟩, rfl⟩
      refine WeakR.tabM (m := 3) rfl rfl (by simp) (by rfl) (by show 3 ≤ 4; omega) (by rfl) ⟨RenV.closed Below.lit, RenV.ptr (by omega), RenV.ptr (by omega), RenV.ptr (by omega), trivial⟩ ⟨⟨by omega, _, rfl, .cells (RenVs.of_eq rfl hGb), .inl rfl⟩, ⟨by omega, _, rfl, .cells (.cons (RenV.closed (springsV_below d)) (.cons (RenV.closed (bedsV_below d)) (.cons (RenV.sl (by omega)) .nil))), .inr rfl⟩, ⟨by omega, _, rfl, .cells (RenVs.closed (AllB.ok ⟨Below.lit, Below.sb, Below.lit, Below.lit, trivial⟩)), .inr rfl⟩, ⟨by omega, _, rfl, .cells (RenVs.closed (farmL_below d)), .inr rfl⟩, trivial⟩
  · refine PickE.eff tok hO (by cbv <;> rfl) (by cbv <;> rfl) (by trivial) ?_ ?_
    · exact (by repeat (first | exact trivial | refine And.intro (by first | exact lv_of hO (by cbv <;> rfl) (by trivial) | (cbv <;> rfl)) ?_))
    refine AnyE.run tok hO (by rfl) (by cbv <;> rfl) (by trivial) ?_
    refine AnyE.effK tok hO (by cbv <;> rfl) (by cbv <;> rfl) (by trivial) ?_ ?_
    · exact (by repeat (first | exact trivial | refine And.intro (by first | exact lv_of hO (by cbv <;> rfl) (by trivial) | (cbv <;> rfl)) ?_))
    refine AnyE.run tok hO (by rfl) (by cbv <;> rfl) (by trivial) ?_
    refine AnyE.appK tok (by cbv <;> rfl) (by cbv <;> rfl) (append_noneZ h0 (by kernel_rfl) (by rfl)) ?_ ?_
    · exact (by repeat (first | exact trivial | refine And.intro (by first | exact lv_of hO (by cbv <;> rfl) (by trivial) | (cbv <;> rfl)) ?_))
    refine AnyE.run tok hO (by rfl) (by cbv <;> rfl) (by trivial) ?_
    refine AnyE.appK tok (by cbv <;> rfl) (by cbv <;> rfl) (append_emptyM (G := [iV k, .sb ov, iV lo, iV hi]) (g := fun _ => lok1 k ov lo hi) (by kernel_rfl) (by rfl) (by rfl) (by rfl) (by omega) (by omega) (fun i j => lok1_one k ov lo hi j)) ?_ ?_
    · exact (by repeat (first | exact trivial | refine And.intro (by first | exact lv_of hO (by cbv <;> rfl) (by trivial) | (cbv <;> rfl)) ?_))
    refine AnyE.run tok hO (by rfl) (by cbv <;> rfl) (by trivial) ?_
    refine AnyE.effK tok hO (by cbv <;> rfl) (by cbv <;> rfl) (by trivial) ?_ ?_
    · exact (by repeat (first | exact trivial | refine And.intro (by first | exact lv_of hO (by cbv <;> rfl) (by trivial) | (cbv <;> rfl)) ?_))
    refine AnyE.run tok hO (by rfl) (by cbv <;> rfl) (by trivial) ?_
    refine ⟨tabR [(3, 5)], ⟨⟨187, getT (cmL x0)⟩, []⟩, cmS d [iV k, .sb ov, iV lo, iV hi] [(3, .cells none false [iV k, .sb ov, iV lo, iV hi])] (.sl 3 0 1 4 false) 4, ?_, rfl, _, rfl, ⟨rfl, rfl, rfl, rfl, trivial⟩, rfl⟩
    refine WeakR.tabM (m := 3) rfl rfl (by simp) (by rfl) (by show 3 ≤ 4; omega) (by rfl) ⟨RenV.closed Below.lit, RenV.ptr (by omega), RenV.ptr (by omega), RenV.ptr (by omega), trivial⟩ ⟨⟨by omega, _, rfl, .cells (RenVs.of_eq rfl hGb), .inl rfl⟩, ⟨by omega, _, rfl, .cells (.cons (RenV.closed (springsV_below d)) (.cons (RenV.closed (bedsV_below d)) (.cons (RenV.sl (by omega)) .nil))), .inr rfl⟩, ⟨by omega, _, rfl, .cells (RenVs.closed (AllB.ok ⟨Below.lit, Below.sb, Below.lit, Below.lit, trivial⟩)), .inr rfl⟩, ⟨by omega, _, rfl, .cells (RenVs.closed (farmL_below d)), .inr rfl⟩, trivial⟩
set_option maxHeartbeats 16000000 in
theorem bmore_s2 (d : FarmD) (k : Int) (ov : Bool) (lo hi x0 : Int) (h0 : 0 < d.nl) (hnl : d.nl < 1048576) (g : Nat → AV) (h : AllP (fun p => g p.1 = p.2) (cmL x0)) :
    SW Try.prog none (nthC 2 (bodyF Try.f14)) (midK 187 (cmL x0) (cmS d [iV k, .sb ov, iV lo, iV hi] [(3, .cells none false (flatG 4 (lookC (d.plusL k ov lo hi)) (d.nl + 1)))] (.sl 3 0 (d.nl + 1) 4 false) 4))
      ⟨⟨187, g⟩, []⟩ (cmS d [iV k, .sb ov, iV lo, iV hi] [] (looksV d) 3) := by
  obtain ⟨O, hO⟩ : ∃ O : Ar, O = std := ⟨_, rfl⟩
  obtain ⟨g2, g3, g4, g7, _⟩ := h
  simp only at g2 g3 g4 g7
  rw [← updT_self g2, ← updT_self g3, ← updT_self g4, ← updT_self g7]
  obtain ⟨GC, hGC⟩ : ∃ G, G = flatG 4 (lookC d) d.nl := ⟨_, rfl⟩
  refine SW.ren ?_
  refine SW.runD tok mixed hO (by kernel_rfl) (by cbv <;> rfl) (by trivial) ?_
  refine AnyE.many [0, 5] (by cbv <;> rfl) (by rfl) ⟨?_, ?_, trivial⟩
  · refine PickE.eff tok hO (by cbv <;> rfl) (by cbv <;> rfl) (by trivial) ?_ ?_
    · exact (by repeat (first | exact trivial | refine And.intro (by first | exact lv_of hO (by cbv <;> rfl) (by trivial) | (cbv <;> rfl)) ?_))
    refine AnyE.run tok hO (by rfl) (by cbv <;> rfl) (by trivial) ?_
    refine AnyE.many [3, 5] (by cbv <;> rfl) (by rfl) ⟨?_, ?_, trivial⟩
    · refine PickE.app tok (by cbv <;> rfl) (by cbv <;> rfl) (append_emptyG (by kernel_rfl) (by rfl) hnl h0 (fun i k => (lookC_one d i k).2) hGC) ?_ ?_
      · exact (by repeat (first | exact trivial | refine And.intro (by first | exact lv_of hO (by cbv <;> rfl) (by trivial) | (cbv <;> rfl)) ?_))
      refine AnyE.run tok hO (by rfl) (by cbv <;> rfl) (by trivial) ?_
      refine AnyE.effK tok hO (by cbv <;> rfl) (by cbv <;> rfl) (by trivial) ?_ ?_
      · exact (by repeat (first | exact trivial | refine And.intro (by first | exact lv_of hO (by cbv <;> rfl) (by trivial) | (cbv <;> rfl)) ?_))
      refine AnyE.run tok hO (by rfl) (by cbv <;> rfl) (by trivial) ?_
      refine AnyE.appOneK tok (by cbv <;> rfl) (by cbv <;> rfl) (by rfl) (by rfl) hGC (by kernel_rfl) (by rfl) (by rfl) hnl (fun G' hG' => ⟨?_, ?_⟩)
      · exact (by repeat (first | exact trivial | refine And.intro (by first | exact lv_of hO (by cbv <;> rfl) (by trivial) | (cbv <;> rfl)) ?_))
      refine AnyE.run tok hO (by rfl) (by cbv <;> rfl) (by trivial) ?_
      have hG' := hG'.trans (plus_flat d k ov lo hi)
      refine AnyE.effK tok hO (by cbv <;> rfl) (by cbv <;> rfl) (by trivial) ?_ ?_
      · exact (by repeat (first | exact trivial | refine And.intro (by first | exact lv_of hO (by cbv <;> rfl) (by trivial) | (cbv <;> rfl)) ?_))
      refine AnyE.run tok hO (by rfl) (by cbv <;> rfl) (by trivial) ?_
      rw [← hG']
      have hGb : ∀ a ∈ G', Below 0 a := by rw [hG']; exact flatG_below (fun i j => (lookC_one _ i j).1) _
      refine ⟨tabR [(3, 6)], ⟨⟨187, getT (cmL x0)⟩, []⟩, cmS d [iV k, .sb ov, iV lo, iV hi] [(3, .cells none false G')] (.sl 3 0 (d.nl + 1) 4 false) 4, ?_, rfl, _, rfl, ⟨rfl, rfl, rfl, rfl, trivial⟩, rfl⟩
      refine WeakR.tabM (m := 3) rfl rfl (by simp) (by rfl) (by show 3 ≤ 4; omega) (by rfl) ⟨RenV.closed Below.lit, RenV.ptr (by omega), RenV.ptr (by omega), RenV.ptr (by omega), trivial⟩ ⟨⟨by omega, _, rfl, .cells (RenVs.of_eq rfl hGb), .inl rfl⟩, ⟨by omega, _, rfl, .cells (.cons (RenV.closed (springsV_below d)) (.cons (RenV.closed (bedsV_below d)) (.cons (RenV.sl (by omega)) .nil))), .inr rfl⟩, ⟨by omega, _, rfl, .cells (RenVs.closed (AllB.ok ⟨Below.lit, Below.sb, Below.lit, Below.lit, trivial⟩)), .inr rfl⟩, ⟨by omega, _, rfl, .cells (RenVs.closed (farmL_below d)), .inr rfl⟩, trivial⟩
    · refine PickE.eff tok hO (by cbv <;> rfl) (by cbv <;> rfl) (by trivial) ?_ ?_
      · exact (by repeat (first | exact trivial | refine And.intro (by first | exact lv_of hO (by cbv <;> rfl) (by trivial) | (cbv <;> rfl)) ?_))
      refine AnyE.run tok hO (by rfl) (by cbv <;> rfl) (by trivial) ?_
      refine AnyE.appK tok (by cbv <;> rfl) (by cbv <;> rfl) (append_emptyG (by kernel_rfl) (by rfl) hnl h0 (fun i k => (lookC_one d i k).2) hGC) ?_ ?_
      · exact (by repeat (first | exact trivial | refine And.intro (by first | exact lv_of hO (by cbv <;> rfl) (by trivial) | (cbv <;> rfl)) ?_))
      refine AnyE.run tok hO (by rfl) (by cbv <;> rfl) (by trivial) ?_
      refine AnyE.appOneK tok (by cbv <;> rfl) (by cbv <;> rfl) (by rfl) (by rfl) hGC (by kernel_rfl) (by rfl) (by rfl) hnl (fun G' hG' => ⟨?_, ?_⟩)
      · exact (by repeat (first | exact trivial | refine And.intro (by first | exact lv_of hO (by cbv <;> rfl) (by trivial) | (cbv <;> rfl)) ?_))
      refine AnyE.run tok hO (by rfl) (by cbv <;> rfl) (by trivial) ?_
      have hG' := hG'.trans (plus_flat d k ov lo hi)
      refine AnyE.effK tok hO (by cbv <;> rfl) (by cbv <;> rfl) (by trivial) ?_ ?_
      · exact (by repeat (first | exact trivial | refine And.intro (by first | exact lv_of hO (by cbv <;> rfl) (by trivial) | (cbv <;> rfl)) ?_))
      refine AnyE.run tok hO (by rfl) (by cbv <;> rfl) (by trivial) ?_
      rw [← hG']
      have hGb : ∀ a ∈ G', Below 0 a := by rw [hG']; exact flatG_below (fun i j => (lookC_one _ i j).1) _
      refine ⟨tabR [(3, 6)], ⟨⟨187, getT (cmL x0)⟩, []⟩, cmS d [iV k, .sb ov, iV lo, iV hi] [(3, .cells none false G')] (.sl 3 0 (d.nl + 1) 4 false) 4, ?_, rfl, _, rfl, ⟨rfl, rfl, rfl, rfl, trivial⟩, rfl⟩
      refine WeakR.tabM (m := 3) rfl rfl (by simp) (by rfl) (by show 3 ≤ 4; omega) (by rfl) ⟨RenV.closed Below.lit, RenV.ptr (by omega), RenV.ptr (by omega), RenV.ptr (by omega), trivial⟩ ⟨⟨by omega, _, rfl, .cells (RenVs.of_eq rfl hGb), .inl rfl⟩, ⟨by omega, _, rfl, .cells (.cons (RenV.closed (springsV_below d)) (.cons (RenV.closed (bedsV_below d)) (.cons (RenV.sl (by omega)) .nil))), .inr rfl⟩, ⟨by omega, _, rfl, .cells (RenVs.closed (AllB.ok ⟨Below.lit, Below.sb, Below.lit, Below.lit, trivial⟩)), .inr rfl⟩, ⟨by omega, _, rfl, .cells (RenVs.closed (farmL_below d)), .inr rfl⟩, trivial⟩
  · refine PickE.eff tok hO (by cbv <;> rfl) (by cbv <;> rfl) (by trivial) ?_ ?_
    · exact (by repeat (first | exact trivial | refine And.intro (by first | exact lv_of hO (by cbv <;> rfl) (by trivial) | (cbv <;> rfl)) ?_))
    refine AnyE.run tok hO (by rfl) (by cbv <;> rfl) (by trivial) ?_
    refine AnyE.effK tok hO (by cbv <;> rfl) (by cbv <;> rfl) (by trivial) ?_ ?_
    · exact (by repeat (first | exact trivial | refine And.intro (by first | exact lv_of hO (by cbv <;> rfl) (by trivial) | (cbv <;> rfl)) ?_))
    refine AnyE.run tok hO (by rfl) (by cbv <;> rfl) (by trivial) ?_
    refine AnyE.appK tok (by cbv <;> rfl) (by cbv <;> rfl) (append_emptyG (by kernel_rfl) (by rfl) hnl h0 (fun i k => (lookC_one d i k).2) hGC) ?_ ?_
    · exact (by repeat (first | exact trivial | refine And.intro (by first | exact lv_of hO (by cbv <;> rfl) (by trivial) | (cbv <;> rfl)) ?_))
    refine AnyE.run tok hO (by rfl) (by cbv <;> rfl) (by trivial) ?_
    refine AnyE.appOneK tok (by cbv <;> rfl) (by cbv <;> rfl) (by rfl) (by rfl) hGC (by kernel_rfl) (by rfl) (by rfl) hnl (fun G' hG' => ⟨?_, ?_⟩)
    · exact (by repeat (first | exact trivial | refine And.intro (by first | exact lv_of hO (by cbv <;> rfl) (by trivial) | (cbv <;> rfl)) ?_))
    refine AnyE.run tok hO (by rfl) (by cbv <;> rfl) (by trivial) ?_
    have hG' := hG'.trans (plus_flat d k ov lo hi)
    refine AnyE.effK tok hO (by cbv <;> rfl) (by cbv <;> rfl) (by trivial) ?_ ?_
    · exact (by repeat (first | exact trivial | refine And.intro (by first | exact lv_of hO (by cbv <;> rfl) (by trivial) | (cbv <;> rfl)) ?_))
    refine AnyE.run tok hO (by rfl) (by cbv <;> rfl) (by trivial) ?_
    rw [← hG']
    have hGb : ∀ a ∈ G', Below 0 a := by rw [hG']; exact flatG_below (fun i j => (lookC_one _ i j).1) _
    refine ⟨tabR [(3, 6)], ⟨⟨187, getT (cmL x0)⟩, []⟩, cmS d [iV k, .sb ov, iV lo, iV hi] [(3, .cells none false G')] (.sl 3 0 (d.nl + 1) 4 false) 4, ?_, rfl, _, rfl, ⟨rfl, rfl, rfl, rfl, trivial⟩, rfl⟩
    refine WeakR.tabM (m := 3) rfl rfl (by simp) (by rfl) (by show 3 ≤ 4; omega) (by rfl) ⟨RenV.closed Below.lit, RenV.ptr (by omega), RenV.ptr (by omega), RenV.ptr (by omega), trivial⟩ ⟨⟨by omega, _, rfl, .cells (RenVs.of_eq rfl hGb), .inl rfl⟩, ⟨by omega, _, rfl, .cells (.cons (RenV.closed (springsV_below d)) (.cons (RenV.closed (bedsV_below d)) (.cons (RenV.sl (by omega)) .nil))), .inr rfl⟩, ⟨by omega, _, rfl, .cells (RenVs.closed (AllB.ok ⟨Below.lit, Below.sb, Below.lit, Below.lit, trivial⟩)), .inr rfl⟩, ⟨by omega, _, rfl, .cells (RenVs.closed (farmL_below d)), .inr rfl⟩, trivial⟩
end Go.Fz
