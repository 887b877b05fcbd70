/- Own work of the verifier of watercress: Lb3, Lb4, Lb5, Lb6, Lb8, FzV3, FzV4, FzX1, FzZ3, FzZ4, FzX4, FzDe1, FzD10, FzD11, FzD12, FzG0, FzE1, FzE2, FzL1. -/
import Derived.ChangeKeysEq
import Derived.Laws.AppendOwn
import Derived.Laws.Cells
import Derived.Laws.CopyRow
import Derived.Laws.Entries
import Derived.Laws.NewFold
import Derived.Laws.Sem
import Derived.Laws.Small
import Derived.Laws.StructEq
import Derived.Laws.Tables
import Derived.Laws.World
import Derived.OrdersHeld
import Derived.OrdersIn
import Derived.RangeFuncLeaves
import Derived.RangeFuncRecord
import Derived.Test.YtpaifaemkoblcaaNa0
import Derived.Test.YtpaifaemkoblcaaNa1
import Derived.Test.YtpaifaemkoblcaaNa2
import Derived.Test.YtpaifaemkoblcaaNa3
import Derived.Shelf.Abstract
import Derived.Test.YtpaifaemkoblcaaProg
import Derived.Test.YtpaifaemkoblcaaNa4
import Derived.Below
import Derived.CallsIn
import Derived.Carry
import Derived.ChangeSame
import Derived.Deep.Slices
import Derived.JoinedCond
import Derived.Laws.Cover3
import Derived.Lib.SmallJoins
import Derived.OpenShut
import Derived.ProofKit
import Derived.WalkKit
import Derived.WideKeyArgs
import Derived.Test.YtpaifaemkoblcaaRows
import Derived.Test.YtpaifaemkoblcaaNa5
import Derived.DeepKeys4
import Derived.Maps.Keyed
import Derived.Maps.RangeRun
import Derived.Test.YtpaifaemkoblcaaNa6
import Derived.Test.YtpaifaemkoblcaaNa7
import Derived.Test.YtpaifaemkoblcaaNa8
import Derived.Test.YtpaifaemkoblcaaNa10
import Derived.Test.YtpaifaemkoblcaaNa12
import Derived.Test.YtpaifaemkoblcaaNa11
import Derived.Test.YtpaifaemkoblcaaNa9
import Derived.Test.YtpaifaemkoblcaaNa13
import Derived.Test.YtpaifaemkoblcaaNa14
import Derived.Test.YtpaifaemkoblcaaNa15
import Derived.Test.YtpaifaemkoblcaaNa16
import Derived.Test.YtpaifaemkoblcaaNa24
import Derived.Test.YtpaifaemkoblcaaNa25
import Derived.Test.YtpaifaemkoblcaaNa26
import Derived.Test.YtpaifaemkoblcaaNa19
import Derived.Test.YtpaifaemkoblcaaNa20
import Derived.Test.YtpaifaemkoblcaaNa21
import Derived.Test.YtpaifaemkoblcaaNa22
import Derived.Test.YtpaifaemkoblcaaNa23
import Derived.Test.YtpaifaemkoblcaaNa27
import Derived.Test.YtpaifaemkoblcaaNa32
import Derived.Test.YtpaifaemkoblcaaNa35
import Derived.Test.YtpaifaemkoblcaaNa33
import Derived.Test.YtpaifaemkoblcaaNa34
import Derived.Test.YtpaifaemkoblcaaNa28
import Derived.Test.YtpaifaemkoblcaaNa29
import Derived.Test.YtpaifaemkoblcaaNa30
import Derived.Test.YtpaifaemkoblcaaNa31
import Derived.Test.YtpaifaemkoblcaaNa36
import Derived.Test.YtpaifaemkoblcaaNa37
import Derived.Test.YtpaifaemkoblcaaNa38
import Derived.Test.YtpaifaemkoblcaaNa40
import Derived.Test.YtpaifaemkoblcaaNa39
import Derived.Test.YtpaifaemkoblcaaNa41
import Derived.Test.YtpaifaemkoblcaaNa17
import Derived.Test.YtpaifaemkoblcaaNa18
set_option linter.unusedVariables false
set_option linter.unusedSimpArgs false
set_option linter.unusedVariables false
set_option linter.unusedSimpArgs false
namespace Go.Fz
variable {P : Program} {T : Ti}
theorem SW.regionL {rd : Option Nat} {id : Nat} {ops : Array Oper} {l : List Nat} {Q : Exit → Fm → St → Prop} {f : Fm} {st : St} (hl : List.range ops.size = l) (h : OpsW P rd ops l (fun f st => Q .normal f st) f st) : SW P rd (.region id ops false) Q f st :=
  SW.region (by rw [hl]; exact h)
variable {ops : Array Oper}
end Go.Fz
namespace Go.Fz
end Go.Fz
namespace Go.Fz
end Go.Fz
namespace Go.Fz
variable {P : Program} {T : Ti}
end Go.Fz
namespace Go.Fz
open Go.Proofs
theorem en12 : Enters Try.prog 12 := fun args w => Go.Proofs.enters_of Try.func12 (by kernel_rfl) rfl args w
theorem en22 : Enters Try.prog 22 := fun args w => Go.Proofs.enters_of Try.func22 (by kernel_rfl) rfl args w
theorem en60 : Enters Try.prog 60 := fun args w => Go.Proofs.enters_of Try.func60 (by kernel_rfl) rfl args w
theorem en62 : Enters Try.prog 62 := fun args w => Go.Proofs.enters_of Try.func62 (by kernel_rfl) rfl args w
theorem en106 : Enters Try.prog 106 := fun args w => Go.Proofs.enters_of Try.func106 (by kernel_rfl) rfl args w
end Go.Fz
set_option linter.unusedVariables false
set_option linter.unusedSimpArgs false
namespace Go.Fz
variable {P : Program} {T : Ti}
end Go.Fz
namespace Go.Fz
variable {P : Program} {T : Ti}
end Go.Fz
namespace Go.Fz
variable {P : Program} {T : Ti}
theorem AnyE.appNilK (hT : TOk P T) {rd : Option Nat} {ops : Array Oper} {M : List Nat} {K : Fm → St → Prop} {fuel : Nat} {pend pend' : List (Nat × AV)} {listed : Array Bool} {f : Fm} {st : St} {j t id sz : Nat} {ex : Bool} {cs : List AV}
    (hj : onlyD ops M pend listed = some (j, pend')) (ha : appAt ops j f = some (t, .lit (.slice none 0 0), .sl id 0 1 sz ex)) (hx : st.h.get id = some (.cells none false cs)) (hb : sliceB T t sz = true) (hl : cs.length = sz) (hone : cs.all AV.one = true)
    (hk : AllP (fun p => lightV T ops (st.push (.cells none false cs)).h (putAt ops j f (.sl st.n 0 1 sz false)) p.1 = some p.2) pend')
    (h : AnyE P T ops M rd K fuel pend' (listed.setIfInBounds j true) (putAt ops j f (.sl st.n 0 1 sz false)) (st.push (.cells none false cs))) : AnyE P T ops M rd K (fuel + 1) pend listed f st :=
  AnyE.appK hT hj ha (append_nilB hb hx hl hone) hk h
theorem AnyE.appOneK (hT : TOk P T) {rd : Option Nat} {ops : Array Oper} {M : List Nat} {K : Fm → St → Prop} {fuel : Nat} {pend pend' : List (Nat × AV)} {listed : Array Bool} {f : Fm} {st : St} {j t id id0 sz : Nat} {ex : Bool} {cs : List AV} {G : List AV} {g : Nat → Nat → AV} {len : Nat}
    (hj : onlyD ops M pend listed = some (j, pend')) (ha : appAt ops j f = some (t, .sl id0 0 len sz false, .sl id 0 1 sz ex)) (hx : st.h.get id = some (.cells none false cs)) (hs : st.h.get id0 = some (.cells none false G)) (hG : G = flatG sz g len) (hb : sliceB T t sz = true) (hl : cs.length = sz) (hone : cs.all AV.one = true) (hlen : len < 1048576)
    (h : ∀ G', G' = flatG sz g len ++ cs → AllP (fun p => lightV T ops (St.push ⟨truncH id0 (len * sz) id0 st.h, st.n⟩ (.cells (some id0) false G')).h (putAt ops j f (.sl st.n 0 (len + 1) sz false)) p.1 = some p.2) pend' ∧
      AnyE P T ops M rd K fuel pend' (listed.setIfInBounds j true) (putAt ops j f (.sl st.n 0 (len + 1) sz false)) (St.push ⟨truncH id0 (len * sz) id0 st.h, st.n⟩ (.cells (some id0) false G'))) : AnyE P T ops M rd K (fuel + 1) pend listed f st := by
  subst hG
  obtain ⟨h1, h2⟩ := h _ rfl
  exact AnyE.appK hT hj ha (append_oneB hb hx hl hone hs hlen) h1 h2
end Go.Fz
namespace Go.Fz
variable {P : Program} {T : Ti}
def runDN (O : Ar) (T : Ti) (ops : Array Oper) : Nat → Nat → List (Nat × AV) → Array Bool → List Cond → Fm → St → DOut
  | 0, fuel, pend, listed, cs, f, st => .stop cs fuel pend listed f st
  | _ + 1, 0, pend, listed, cs, f, st => .stop cs 0 pend listed f st
  | k + 1, fuel + 1, pend, listed, cs, f, st => match Region.ready .any ops listed with
    | [] => .done cs f st
    | rs => match pickD O T ops pend st.h f rs with
      | some (i, o, c, .sb b) => match isCmp o with
        | true => .stop cs (fuel + 1) pend listed f st
        | false => runDN O T ops k fuel ((i, .sb b) :: pend) (listed.setIfInBounds i true) (c ++ cs) (f.put o.dst (.sb b)) st
      | some (i, o, c, r) => runDN O T ops k fuel ((i, r) :: pend) (listed.setIfInBounds i true) (c ++ cs) (f.put o.dst r) st
      | none => .stop cs (fuel + 1) pend listed f st
theorem runDN_cs {O : Ar} {ops : Array Oper} : ∀ (k fuel : Nat) (pend : List (Nat × AV)) (listed : Array Bool) (cs : List Cond) (f : Fm) (st : St), ∀ c ∈ cs, c ∈ (runDN O T ops k fuel pend listed cs f st).cs
  | 0, _, _, _, _, _, _, c, h => h
  | _ + 1, 0, _, _, _, _, _, c, h => h
  | k + 1, fuel + 1, pend, listed, cs, f, st, c, h => by
    unfold runDN
    split
    · exact h
    · split
      · split
        · exact h
        · exact runDN_cs k fuel _ _ _ _ _ c (List.mem_append_right _ h)
      · exact runDN_cs k fuel _ _ _ _ _ c (List.mem_append_right _ h)
      · exact h
theorem runDN_ok (hT : TOk P T) {O : Ar} (hO : O = std) {rd : Option Nat} {ops : Array Oper} {K : Fm → St → Prop} (hM : tidyB ops (masks ops) = true) : ∀ (k fuel : Nat) (pend : List (Nat × AV)) (listed : Array Bool) (cs : List Cond) (f : Fm) (st : St),
    (∀ c ∈ (runDN O T ops k fuel pend listed cs f st).cs, c.holds) → (runDN O T ops k fuel pend listed cs f st).post P T rd ops K → AnyE P T ops (masks ops) rd K fuel pend listed f st
  | 0, _, _, _, _, _, _, _, h => h
  | _ + 1, 0, _, _, _, _, _, _, h => h
  | k + 1, fuel + 1, pend, listed, cs, f, st, hc, h => by
    unfold runDN at hc h
    split at h
    · rename_i hr
      exact .done (by rw [hr]; rfl) h
    · rename_i hr
      split at h
      · rename_i i o c b hp
        obtain ⟨h1, h2, h3, h4⟩ := pickD_ok hO hp
        simp only [hp] at hc
        split at h
        · exact h
        · rename_i hcmp
          simp only [hcmp] at hc
          have hl := h4 fun x hx => hc x (runDN_cs k fuel _ _ _ _ _ x (List.mem_append_left _ hx))
          refine .take hM hT i h2 ?_ hl (runDN_ok hT hO hM k fuel _ _ _ _ _ hc h)
          rw [h3, Bool.and_true]
          exact List.contains_iff_mem.2 h1
      · rename_i i o c r hnsb hp
        obtain ⟨h1, h2, h3, h4⟩ := pickD_ok hO hp
        simp only [hp] at hc
        have hl := h4 fun x hx => hc x (runDN_cs k fuel _ _ _ _ _ x (List.mem_append_left _ hx))
        refine .take hM hT i h2 ?_ hl (runDN_ok hT hO hM k fuel _ _ _ _ _ hc h)
        rw [h3, Bool.and_true]
        exact List.contains_iff_mem.2 h1
      · exact h
theorem SW.seqRunDN (hT : TOk P T) (hm : P.follows .mixedOrders = true) {O : Ar} (hO : O = std) (k : Nat) {rd : Option Nat} {id : Nat} {ops : Array Oper} {y : Code} {Q : Exit → Fm → St → Prop} {f : Fm} {st : St} {R : DOut} (hM : tidyB ops (masks ops) = true)
    (hR : Fz.runDN O T ops k ops.size [] (Array.replicate ops.size false) [] f st = R) (hc : allC R.cs) (h : R.postS P T rd ops y Q) : SW P rd (.seq (.region id ops true) y) Q f st := by
  subst hR
  refine SW.seq (SW.drawnE hm hM (runDN_ok hT hO hM _ _ _ _ _ _ _ (allC_ok hc) ?_))
  generalize Fz.runDN O T ops k ops.size [] (Array.replicate ops.size false) [] f st = R at h
  cases R <;> exact h
theorem AnyE.runN (hT : TOk P T) {O : Ar} (hO : O = std) (k : Nat) {rd : Option Nat} {ops : Array Oper} {K : Fm → St → Prop} {fuel : Nat} {pend : List (Nat × AV)} {listed : Array Bool} {f : Fm} {st : St} {R : DOut} (hM : tidyB ops (masks ops) = true)
    (hR : Fz.runDN O T ops k fuel pend listed [] f st = R) (hc : allC R.cs) (h : R.post P T rd ops K) : AnyE P T ops (masks ops) rd K fuel pend listed f st := by
  subst hR
  exact runDN_ok hT hO hM _ _ _ _ _ _ _ (allC_ok hc) h
def idxAt (ops : Array Oper) (i : Nat) (f : Fm) : Option (TypeId × AV × AV) := match ops[i]? with
  | none => none
  | some o => match wantA ops f.ts o with
    | some true => match o.op with
      | .indexAddr t x ix => some (t, Operand.av f.ts x, Operand.av f.ts ix)
      | _ => none
    | _ => none
theorem AnyE.idxSl (hT : TOk P T) {rd : Option Nat} {ops : Array Oper} {K : Fm → St → Prop} {fuel : Nat} {pend : List (Nat × AV)} {listed : Array Bool} {f : Fm} {st : St} (i : Nat) {t id off len sz n : Nat} {ex : Bool} {k : IntKind} (hM : tidyB ops (masks ops) = true)
    (hx : idxAt ops i f = some (t, .sl id off len sz ex, .lit (.int k (Int.ofNat n)))) (hb : sliceB T t sz = true) (hn : n < len)
    (hr : (match ops[i]? with | some o => (Region.ready .any ops listed).contains i && noLookB ops pend o | none => false) = true)
    (h : ∀ q, q = off + n * sz → AnyE P T ops (masks ops) rd K fuel ((i, .ptr id q) :: pend) (listed.setIfInBounds i true) (putAt ops i f (.ptr id q)) st) : AnyE P T ops (masks ops) rd K (fuel + 1) pend listed f st := by
  have h := h _ rfl
  obtain ⟨ti, tj, e, h1, h2, h3, h4, h5, h6, h7, h8⟩ := sliceB_ok hb
  unfold idxAt at hx
  split at hx
  · cases hx
  · rename_i o ho
    split at hx
    · rename_i hw
      split at hx
      · rename_i t' x ix hop
        simp only [Option.some.injEq, Prod.mk.injEq] at hx
        obtain ⟨rfl, k2, k3⟩ := hx
        have hput : ∀ v, putAt ops i f v = f.put o.dst v := fun v => by simp [putAt, ho]
        rw [hput] at h
        simp only [ho] at hr
        refine AnyE.take hM hT i ho hr ?_ h
        simp only [Fz.lightV, ho, hw, evG, evL, hop, k2, k3, h1, h2, h3]
        rw [if_pos ⟨Int.natCast_nonneg n, Int.ofNat_lt.2 hn, h4⟩]
        rfl
      · cases hx
    · cases hx
def stoAt (ops : Array Oper) (i : Nat) (f : Fm) : Option (TypeId × AV × AV) := match ops[i]? with
  | none => none
  | some o => match wantA ops f.ts o with
    | some true => match o.op with
      | .store t p x => some (t, Operand.av f.ts p, Operand.av f.ts x)
      | _ => none
    | _ => none
def sizeB (T : Ti) (t n : Nat) : Bool := match T t with
  | some i => Nat.beq i.size n
  | none => false
theorem AnyE.sto (hT : TOk P T) {rd : Option Nat} {ops : Array Oper} {M : List Nat} {K : Fm → St → Prop} {fuel : Nat} {pend : List (Nat × AV)} {listed : Array Bool} {f : Fm} {st : St} {j t id off : Nat} {v : Int} {k : IntKind} {G : List AV}
    (hj : onlyD ops M pend listed = some (j, [])) (ha : stoAt ops j f = some (t, .ptr id off, .lit (.int k v))) (hb : sizeB T t 1 = true) (hx : st.h.get id = some (.cells none false G)) (hl : off < G.length)
    (h : ∀ G', G' = G.set off (.lit (.int k v)) → AnyE P T ops M rd K fuel [] (listed.setIfInBounds j true) (putAt ops j f undA) ⟨st.h.set id (.cells none false G'), st.n⟩) : AnyE P T ops M rd K (fuel + 1) pend listed f st := fun k1 k2 k3 => by
  have h := h _ rfl
  unfold stoAt at ha
  split at ha
  · cases ha
  · rename_i o ho
    split at ha
    · rename_i hw
      split at ha
      · rename_i t' p x hop
        simp only [Option.some.injEq, Prod.mk.injEq] at ha
        obtain ⟨rfl, e2, e3⟩ := ha
        have hput : ∀ v, putAt ops j f v = f.put o.dst v := fun v => by simp [putAt, ho]
        rw [hput] at h
        have hst : storeO T st (Operand.av f.ts) o = some ⟨st.h.set id (.cells none false (G.set off (.lit (.int k v)))), st.n⟩ := by
          unfold sizeB at hb
          split at hb
          · rename_i ti hti
            have hsz := Nat.eq_of_beq_eq_true hb
            have h1 : (AV.lit (.int k v)).cells = [.lit (.int k v)] := rfl
            have h2 : (AV.lit (.int k v)).one = true := rfl
            have h3 : (AV.lit (.int k v)).norm = .lit (.int k v) := rfl
            simp only [storeO, hop, storeA, e2, e3, ptrOf, hti, hx, h1, hsz, List.length_singleton, List.map_cons, List.map_nil, h3, setsL_one, List.all_cons, h2, List.all_nil]
            rw [if_pos ⟨trivial, by omega, by simp, by omega⟩]
          · cases hb
        unfold onlyD at hj
        split at hj
        · rename_i j' hrd
          split at hj
          · rename_i o1 ho1
            split at hj
            · rename_i hnl
              simp only [Option.some.injEq, Prod.mk.injEq] at hj
              obtain ⟨rfl, hd⟩ := hj
              refine AnyE.one j' ho (by rw [hrd]; exact Nat.beq_refl j') [] hd (OpsW.store hT ho hw hst (.nil ⟨⟨undA, rfl⟩, (show PendOk T ops [] (f.put o.dst undA) _ from fun p hp => absurd hp List.not_mem_nil), h⟩)) k1 k2 k3
            · cases hj
          · cases hj
        · cases hj
      · cases ha
    · cases ha
theorem flatG_set {sz n i k : Nat} {g g' : Nat → Nat → AV} {v : AV} (hi : i < n) (hk : k < sz) (h1 : g' i k = v) (h2 : ∀ a b, a < n → b < sz → ¬ (a = i ∧ b = k) → g' a b = g a b) : (flatG sz g n).set (i * sz + k) v = flatG sz g' n := by
  have hpos : 0 < sz := by omega
  apply List.ext_getElem?
  intro q
  by_cases hq : q < n * sz
  · have hd : q / sz < n := by rw [Nat.div_lt_iff_lt_mul hpos]; exact hq
    have hm : q % sz < sz := Nat.mod_lt _ hpos
    have he : q = q / sz * sz + q % sz := by rw [Nat.mul_comm]; exact (Nat.div_add_mod q sz).symm
    have h3 := flatG_get sz g' n (q / sz) (q % sz) hd hm
    have h4 := flatG_get sz g n (q / sz) (q % sz) hd hm
    rw [← he] at h3 h4
    rw [h3]
    by_cases hs : i * sz + k = q
    · have hi' : q / sz = i := by
        rw [← hs, Nat.mul_comm, Nat.mul_add_div hpos, Nat.div_eq_of_lt hk, Nat.add_zero]
      have hk' : q % sz = k := by
        rw [← hs, Nat.mul_comm, Nat.mul_add_mod, Nat.mod_eq_of_lt hk]
      rw [hi', hk', h1, hs, List.getElem?_set_self (by rw [flatG_length]; exact hq)]
    · rw [List.getElem?_set_ne hs, h4, h2 _ _ hd hm (fun ⟨ha, hb⟩ => hs (by rw [← ha, ← hb]; exact he.symm))]
  · rw [List.getElem?_eq_none (by rw [List.length_set, flatG_length]; omega), List.getElem?_eq_none (by rw [flatG_length]; omega)]
end Go.Fz
namespace Go.Fz
open Go.Proofs
set_option maxRecDepth 100000
end Go.Fz
namespace Go.Fz
open Go.ChangeShapes Go.WideShapes Go.Deep Go.Joins
section
variable {H : Type} {enc : TypeId × Value → H} {P : Program} {w : World} {base : Nat} {spare : Nat → Bool} {held : Bool}
end
end Go.Fz
namespace Go.Proofs.Ytpaifaemkoblcaa
open Go.ChangeShapes Go.WideShapes Go.ChangeAt Go.RowKit Go.Joins
set_option linter.unusedVariables false
set_option maxRecDepth 100000
end Go.Proofs.Ytpaifaemkoblcaa
namespace Go.Fz
open Go.Proofs
set_option maxRecDepth 100000
end Go.Fz
namespace Go.Fz
open Go.Proofs
set_option maxRecDepth 100000
end Go.Fz
namespace Go.Fz
open Go.Proofs
set_option maxRecDepth 100000
end Go.Fz
namespace Go.Fz
open Go.Proofs
set_option maxRecDepth 100000
def quo64 (a b : Int) : Int := wrp .i64 (a.tdiv b)
end Go.Fz
namespace Go.Fz
open Go.Proofs
set_option maxRecDepth 100000
end Go.Fz
namespace Go.Fz
open Go.Proofs
set_option maxRecDepth 100000
end Go.Fz
namespace Go.Fz
open Go.Proofs
set_option maxRecDepth 100000
end Go.Fz
namespace Go.Fz
open Go.Proofs
set_option maxRecDepth 100000
theorem list_app (n : Nat) (ex : Bool) (fl : Nat → Int) (h0 : 0 < n) (hn : n < 1000) (st : St) :
    appendA T st 27 27 (.lit (.slice none 0 0)) (intsV n ex fl) = some (.sl st.n 0 n 1 false, st.push (.cells none false (flatG 1 (intC fl) n))) := by
  obtain ⟨b1, e1⟩ : ∃ b, T 27 = some { desc := .slice 3, size := 1, bytes := 24, zero := [.slice none 0 0], flat := b } := ⟨_, rfl⟩
  obtain ⟨b2, e2⟩ : ∃ b, T 3 = some { desc := .int .i64, size := 1, bytes := 8, zero := [.int .i64 0], flat := b } := ⟨_, rfl⟩
  have hall := flatG_one (sz := 1) (intC_one fl) n
  unfold appendA
  simp only [e1, e2, slCells, intsV, slLen]
  rw [if_pos ⟨trivial, by decide⟩]
  simp only [Nat.zero_add]
  rw [if_neg (by rw [hall]; simp; omega)]
  exact if_neg (by omega)
theorem list_app0 (ex : Bool) (fl : Nat → Int) (st : St) : appendA T st 27 27 (.lit (.slice none 0 0)) (intsV 0 ex fl) = some (.lit (.slice none 0 0), st) := by
  obtain ⟨b1, e1⟩ : ∃ b, T 27 = some { desc := .slice 3, size := 1, bytes := 24, zero := [.slice none 0 0], flat := b } := ⟨_, rfl⟩
  obtain ⟨b2, e2⟩ : ∃ b, T 3 = some { desc := .int .i64, size := 1, bytes := 8, zero := [.int .i64 0], flat := b } := ⟨_, rfl⟩
  unfold appendA
  simp only [e1, e2, slCells, intsV, slLen]
  rfl
end Go.Fz
namespace Go.Fz
open Go.Proofs
set_option maxRecDepth 100000
end Go.Fz
namespace Go.Fz
open Go.Proofs
set_option maxRecDepth 100000
end Go.Fz
namespace Go.Fz
open Go.Proofs
set_option maxRecDepth 100000
end Go.Fz
namespace Go.Fz
open Go.Proofs
set_option maxRecDepth 100000
end Go.Fz
set_option linter.unusedVariables false
set_option linter.unusedSimpArgs false
namespace Go.Fz
open Go.Proofs
set_option maxRecDepth 100000
variable {P : Program} {T : Ti}
end Go.Fz
namespace Go.Fz
end Go.Fz
namespace Go.Fz
variable {P : Program} {T : Ti}
end Go.Fz
namespace Go.Fz
variable {P : Program} {T : Ti}
end Go.Fz
namespace Go.Fz
set_option maxRecDepth 100000
section
variable {P : Program} {T : Ti}
end
end Go.Fz
namespace Go.Fz
open Go.Proofs
set_option maxRecDepth 100000
section
variable {P : Program} {T : Ti}
theorem OpsW.idxSl (hT : TOk P T) {rd : Option Nat} {ops : Array Oper} {K : Fm → St → Prop} {f : Fm} {st : St} {i : Nat} {l : List Nat} {t id off len sz n : Nat} {ex : Bool} {k : IntKind}
    (hx : idxAt ops i f = some (t, .sl id off len sz ex, .lit (.int k (Int.ofNat n)))) (hb : sliceB T t sz = true) (hn : n < len) (h : ∀ q, q = off + n * sz → OpsW P rd ops l K (putAt ops i f (.ptr id q)) st) : OpsW P rd ops (i :: l) K f st := by
  have h := h _ rfl
  obtain ⟨ti, tj, e, h1, h2, h3, h4, h5, h6, h7, h8⟩ := sliceB_ok hb
  unfold idxAt at hx
  split at hx
  · cases hx
  · rename_i o ho
    split at hx
    · rename_i hw
      split at hx
      · rename_i t' x ix hop
        simp only [Option.some.injEq, Prod.mk.injEq] at hx
        obtain ⟨rfl, k2, k3⟩ := hx
        have hput : ∀ v, putAt ops i f v = f.put o.dst v := fun v => by simp [putAt, ho]
        rw [hput] at h
        refine OpsW.light hT ho hw ?_ h
        simp only [evG, evL, hop, k2, k3, h1, h2, h3]
        rw [if_pos ⟨Int.natCast_nonneg n, Int.ofNat_lt.2 hn, h4⟩]
        rfl
      · cases hx
    · cases hx
end
end Go.Fz
namespace Go.Fz
open Go.Proofs
set_option maxRecDepth 100000
section
variable {α : Type}
end
end Go.Fz
namespace Go.Fz
open Go.Proofs
set_option maxRecDepth 100000
section
variable {α : Type}
end
end Go.Fz
namespace Go.Fz
set_option maxRecDepth 100000
section
variable {P : Program} {T : Ti}
end
end Go.Fz
namespace Go.Fz
variable {P : Program} {T : Ti}
end Go.Fz
namespace Go.Fz
open Go.Proofs
set_option maxRecDepth 100000
section
variable {P : Program} {T : Ti}
end
section
variable {α : Type}
end
end Go.Fz
namespace Go.Fz
variable {P : Program} {T : Ti}
end Go.Fz
namespace Go.Fz
open Go.Proofs
set_option maxRecDepth 100000
end Go.Fz
namespace Go.Fz
open Go.Proofs
set_option maxRecDepth 100000
end Go.Fz
namespace Go.Fz
open Go.Proofs
set_option maxRecDepth 100000
end Go.Fz
namespace Go.Fz
open Go.Proofs
set_option maxRecDepth 100000
section
variable {α : Type} (next : α → (Nat → Int) → α) (len : α → Nat) (N : Nat) (lo hi : Nat → Int)
end
end Go.Fz
namespace Go.Fz
open Go.Proofs
set_option maxRecDepth 100000
section
variable {P : Program} {T : Ti}
end
section
variable {P : Program}
end
end Go.Fz
namespace Go.Fz
variable {P : Program} {T : Ti}
end Go.Fz
namespace Go.Fz
open Go.Proofs
set_option maxRecDepth 100000
end Go.Fz
namespace Go.Fz
open Go.Proofs
set_option maxRecDepth 100000
end Go.Fz
namespace Go.Fz
open Go.Proofs
set_option maxRecDepth 100000
section
variable {P : Program} {T : Ti}
end
end Go.Fz
namespace Go.Fz
open Go.Proofs
set_option maxRecDepth 100000
end Go.Fz
set_option linter.unusedVariables false
set_option linter.unusedSimpArgs false
namespace Go.Fz
open Go.Proofs
set_option maxRecDepth 100000
section
variable {P : Program} {T : Ti}
end
end Go.Fz
namespace Go.Fz
open Go.Proofs
set_option maxRecDepth 100000
section
variable (K : List (List Nat) → Hp → Nat → Prop) (stop : List (List Nat) → List Nat → Hp → Nat → Prop) (ok : List Nat → Prop) (mc y many : Nat) (ex : Bool)
variable {K stop ok mc y many ex}
end
end Go.Fz
namespace Go.Fz
open Go.Proofs
set_option maxRecDepth 100000
section
variable {K : List (List Nat) → Hp → Nat → Prop} {stop : List (List Nat) → List Nat → Hp → Nat → Prop} {ok : List Nat → Prop} {mc y many : Nat}
end
end Go.Fz
namespace Go.Fz
open Go.Proofs
set_option maxRecDepth 100000
section
variable {K : List (List Nat) → Hp → Nat → Prop} {stop : List (List Nat) → List Nat → Hp → Nat → Prop} {ok : List Nat → Prop} {mc y many : Nat}
end
end Go.Fz
namespace Go.Fz
open Go.Proofs
set_option maxRecDepth 100000
section
variable (d : DayD) (XO : AV) (hX : Below 0 XO) (E : List (Mk × Nat)) (cl : Nat) (hb : Born E cl)
end
end Go.Fz
namespace Go.Fz
open Go.Proofs
set_option maxRecDepth 100000
section
variable (d : DayD) (XO : AV) (E : List (Mk × Nat)) (cl : Nat)
end
end Go.Fz
namespace Go.Fz
open Go.Proofs
set_option maxRecDepth 100000
section
variable (d : DayD) (L : Nat) (G : Nat → Nat → AV) (ME : List (AV × AV × Nat)) (cl : Nat)
end
end Go.Fz
namespace Go.Fz
open Go.Proofs
set_option maxRecDepth 100000
section
variable (d : DayD) (L : Nat) (G : Nat → Nat → AV) (ME : List (AV × AV × Nat)) (cl : Nat) (Q : List Nat → Bool)
variable {d L G ME cl}
end
end Go.Fz
namespace Go.Fz
open Go.Proofs
set_option maxRecDepth 100000
end Go.Fz
namespace Go.Fz
open Go.Proofs
set_option maxRecDepth 100000
set_option linter.unusedVariables false
end Go.Fz
namespace Go.Fz
open Go.Proofs
set_option maxRecDepth 100000
set_option linter.unusedVariables false
end Go.Fz
namespace Go.Fz
open Go.Proofs
set_option maxRecDepth 100000
end Go.Fz
namespace Go.Fz
open Go.Proofs
set_option maxRecDepth 100000
section
variable (nw nl : Nat) (f0 f1 f2 f3 : Nat → Int) (z4 z5 z6 z7 : Int)
end
end Go.Fz
namespace Go.Fz
open Go.Proofs
set_option maxRecDepth 100000
section
end
end Go.Fz
namespace Go.Fz
open Go.Proofs
set_option maxRecDepth 100000
end Go.Fz
namespace Go.Fz
open Go.Proofs
set_option maxRecDepth 100000
end Go.Fz
namespace Go.Fz
open Go.Proofs
set_option maxRecDepth 100000
end Go.Fz
namespace Go.Fz
open Go.Proofs
set_option maxRecDepth 100000
end Go.Fz
namespace Go.Fz
open Go.Proofs
set_option maxRecDepth 100000
end Go.Fz
namespace Go.Fz
open Go.Proofs
set_option maxRecDepth 100000
end Go.Fz
namespace Go.Fz
open Go.Proofs
set_option maxRecDepth 100000
end Go.Fz
namespace Go.Fz
open Go.Proofs
set_option maxRecDepth 100000
end Go.Fz
namespace Go.Fz
open Go.Proofs
set_option maxRecDepth 100000
end Go.Fz
namespace Go.Fz
variable {P : Program}
end Go.Fz
namespace Go.Fz
open Go.Proofs
set_option maxRecDepth 100000
section
variable {P : Program} {T : Ti}
end
end Go.Fz
namespace Go.Fz
open Go.Proofs
set_option maxRecDepth 100000
end Go.Fz
namespace Go.Fz
open Go.Proofs
set_option maxRecDepth 100000
set_option linter.unusedVariables false
end Go.Fz
namespace Go.Fz
open Go.Proofs
set_option maxRecDepth 100000
set_option linter.unusedVariables false
end Go.Fz
namespace Go.Fz
open Go.Proofs
set_option maxRecDepth 100000
set_option linter.unusedVariables false
end Go.Fz
namespace Go.Fz
open Go.Proofs
set_option maxRecDepth 100000
set_option linter.unusedVariables false
end Go.Fz
namespace Go.Fz
open Go.Proofs
set_option maxRecDepth 100000
end Go.Fz
namespace Go.Fz
open Go.Proofs
set_option maxRecDepth 100000
set_option pp.deepTerms false
set_option pp.deepTerms.threshold 5
end Go.Fz
namespace Go.Fz
open Go.Proofs
set_option maxRecDepth 100000
end Go.Fz
namespace Go.Fz
open Go.Proofs
set_option maxRecDepth 100000
end Go.Fz
namespace Go.Fz
open Go.Proofs
set_option maxRecDepth 100000
section
variable (d : DayD) (k w lo hi : Int)
end
end Go.Fz
namespace Go.Fz
open Go.Proofs
set_option maxRecDepth 100000
theorem append_emptyG {T : Ti} {t id sz n : Nat} {ex : Bool} {g : Nat → Nat → AV} {st : St} {G : List AV} (h : sliceB T t sz = true) (hx : st.h.get id = some (.cells none false [])) (hn : n < 1048576) (h0 : 0 < n) (hone : ∀ i k, (g i k).one = true) (hG : G = flatG sz g n) :
    appendA T st t t (.sl id 0 0 sz true) (.isl n sz ex g) = some (.sl st.n 0 n sz false, st.push (.cells none false G)) := by
  subst hG
  exact append_empty h hx hn h0 hone
section
variable {T : Ti}
end
end Go.Fz
namespace Go.Fz
open Go.Proofs
set_option maxRecDepth 100000
section
variable {P : Program} {T : Ti}
def scalB (T : Ti) (t : TypeId) : Bool := match T t with
  | some i => !(aggD i.desc)
  | none => false
theorem load_at {t : TypeId} {h : Hp} {id off : Nat} {fm : Option Nat} {ro : Bool} {cs : List AV} {v : AV} (hs : scalB T t = true) (hg : h.get id = some (.cells fm ro cs)) (hc : cs[off]? = some v) : loadA T h t (.ptr id off) = some v := by
  unfold scalB at hs
  split at hs
  · rename_i i hi
    simp only [loadA, ptrOf, cellsAt, hg, partA, hi]
    rw [if_neg (by simpa using hs)]
    exact hc
  · cases hs
def rdyB (ops : Array Oper) (pend : List (Nat × AV)) (listed : Array Bool) (i : Nat) : Bool := match ops[i]? with
  | some o => (Region.ready .any ops listed).contains i && noLookB ops pend o
  | none => false
theorem AnyE.ldD (hT : TOk P T) {rd : Option Nat} {ops : Array Oper} {M : List Nat} {K : Fm → St → Prop} {fuel : Nat} {pend : List (Nat × AV)} {listed : Array Bool} {f : Fm} {st : St} (hM : tidyB ops M = true) (i : Nat) {t : TypeId} {p r : AV}
    (hx : ldAt ops i f = some (t, p)) (hr : loadA T st.h t p = some r) (hb : rdyB ops pend listed i = true)
    (h : AnyE P T ops M rd K fuel ((i, r) :: pend) (listed.setIfInBounds i true) (putAt ops i f r) st) : AnyE P T ops M rd K (fuel + 1) pend listed f st := by
  unfold rdyB at hb
  unfold ldAt at hx
  split at hx
  · cases hx
  · rename_i o ho
    split at hx
    · rename_i hw
      split at hx
      · rename_i t' p' hop
        simp only [Option.some.injEq, Prod.mk.injEq] at hx
        obtain ⟨rfl, rfl⟩ := hx
        have hput : ∀ v, putAt ops i f v = f.put o.dst v := fun v => by simp [putAt, ho]
        rw [hput] at h
        simp only [ho] at hb
        refine AnyE.take hM hT i ho hb ?_ h
        simp only [Fz.lightV, ho, hw, evG, evL, hop, hr]
      · cases hx
    · cases hx
theorem AnyE.stoK (hT : TOk P T) {rd : Option Nat} {ops : Array Oper} {M : List Nat} {K : Fm → St → Prop} {fuel : Nat} {pend pend' : List (Nat × AV)} {listed : Array Bool} {f : Fm} {st : St} {j t id off : Nat} {v : Int} {k : IntKind} {G : List AV}
    (hj : onlyD ops M pend listed = some (j, pend')) (ha : stoAt ops j f = some (t, .ptr id off, .lit (.int k v))) (hb : sizeB T t 1 = true) (hx : st.h.get id = some (.cells none false G)) (hl : off < G.length)
    (h : ∀ G', G' = G.set off (.lit (.int k v)) → AllP (fun p => lightV T ops (st.h.set id (.cells none false G')) (putAt ops j f undA) p.1 = some p.2) pend' ∧ AnyE P T ops M rd K fuel pend' (listed.setIfInBounds j true) (putAt ops j f undA) ⟨st.h.set id (.cells none false G'), st.n⟩) : AnyE P T ops M rd K (fuel + 1) pend listed f st := fun k1 k2 k3 => by
  obtain ⟨hk, h⟩ := h _ rfl
  unfold stoAt at ha
  split at ha
  · cases ha
  · rename_i o ho
    split at ha
    · rename_i hw
      split at ha
      · rename_i t' p x hop
        simp only [Option.some.injEq, Prod.mk.injEq] at ha
        obtain ⟨rfl, e2, e3⟩ := ha
        have hput : ∀ v, putAt ops j f v = f.put o.dst v := fun v => by simp [putAt, ho]
        rw [hput] at h hk
        have hst : storeO T st (Operand.av f.ts) o = some ⟨st.h.set id (.cells none false (G.set off (.lit (.int k v)))), st.n⟩ := by
          unfold sizeB at hb
          split at hb
          · rename_i ti hti
            have hsz := Nat.eq_of_beq_eq_true hb
            have h1 : (AV.lit (.int k v)).cells = [.lit (.int k v)] := rfl
            have h2 : (AV.lit (.int k v)).one = true := rfl
            have h3 : (AV.lit (.int k v)).norm = .lit (.int k v) := rfl
            simp only [storeO, hop, storeA, e2, e3, ptrOf, hti, hx, h1, hsz, List.length_singleton, List.map_cons, List.map_nil, h3, setsL_one, List.all_cons, h2, List.all_nil]
            rw [if_pos ⟨trivial, by omega, by simp, by omega⟩]
          · cases hb
        unfold onlyD at hj
        split at hj
        · rename_i j' hrd
          split at hj
          · rename_i o1 ho1
            split at hj
            · rename_i hnl
              simp only [Option.some.injEq, Prod.mk.injEq] at hj
              obtain ⟨rfl, hd⟩ := hj
              refine AnyE.one j' ho (by rw [hrd]; exact Nat.beq_refl j') pend' hd (OpsW.store hT ho hw hst (.nil ⟨⟨undA, rfl⟩, (show PendOk T ops pend' (f.put o.dst undA) _ from fun p hp => LV.of (hk.ok p hp)), h⟩)) k1 k2 k3
            · cases hj
          · cases hj
        · cases hj
      · cases ha
    · cases ha
def nilCAt (ops : Array Oper) (i : Nat) (f : Fm) : Option AV := match ops[i]? with
  | none => none
  | some o => match wantA ops f.ts o with
    | some true => match o.op with
      | .nilCheck x => some (Operand.av f.ts x)
      | _ => none
    | _ => none
theorem OpsW.nilC {rd : Option Nat} {ops : Array Oper} {i : Nat} {l : List Nat} {K : Fm → St → Prop} {f : Fm} {st : St} {id off : Nat} (hn : nilCAt ops i f = some (.ptr id off))
    (h0 : OpsW P rd ops l K (putAt ops i f (.ptr id off)) st) : OpsW P rd ops (i :: l) K f st := by
  unfold nilCAt at hn
  split at hn
  · cases hn
  · rename_i o ho
    split at hn
    · rename_i hw
      split at hn
      · rename_i x hx
        simp only [Option.some.injEq] at hn
        have hput : ∀ v, putAt ops i f v = f.put o.dst v := fun v => by simp [putAt, ho]
        rw [hput] at h0
        intro φ w a n Q k1 k2 k3 hQ
        have hxx := opR_of k3.ts x
        rw [hn] at hxx
        simp only [wpOpsIn, ho]
        rw [wanted_eq k3 ops hw]
        simp only [if_true]
        refine ⟨fun _ _ => trivial, ?_⟩
        rw [semAt_eq (fun c hc => by rw [hx] at hc; cases hc)]
        have hp := hxx.ptr_inv.1
        have key : (execOp a.eval o).run P w = .ok (.value (a.eval x)) w := by
          simp only [execOp, hx, hp]
          rfl
        rw [key]
        exact h0 φ w _ n Q k1 k2 (k3.put o.dst hxx) hQ
      · cases hn
    · cases hn
theorem PickE.nilC {ops : Array Oper} {M : List Nat} {rd : Option Nat} {K : Fm → St → Prop} {fuel : Nat} {pend pend' : List (Nat × AV)} {listed : Array Bool} {f : Fm} {st : St} {j id off : Nat} (hd : dropP M j pend = pend') (hx : nilCAt ops j f = some (.ptr id off))
    (hk : AllP (fun p => lightV T ops st.h (putAt ops j f (.ptr id off)) p.1 = some p.2) pend') (h : AnyE P T ops M rd K fuel pend' (listed.setIfInBounds j true) (putAt ops j f (.ptr id off)) st) : PickE P T ops M rd K fuel pend listed f st j := by
  have hx' := hx
  unfold nilCAt at hx
  split at hx
  · cases hx
  · rename_i o ho
    have hput : ∀ v, putAt ops j f v = f.put o.dst v := fun v => by simp [putAt, ho]
    exact ⟨o, pend', ho, hd, OpsW.nilC hx' (.nil ⟨⟨_, hput _⟩, (show PendOk T ops pend' (putAt ops j f (.ptr id off)) st.h from fun p hpm => LV.of (hk.ok p hpm)), h⟩)⟩
theorem AnyE.nilC {ops : Array Oper} {M : List Nat} {rd : Option Nat} {K : Fm → St → Prop} {fuel : Nat} {pend pend' : List (Nat × AV)} {listed : Array Bool} {f : Fm} {st : St} {j id off : Nat} (hj : onlyD ops M pend listed = some (j, pend')) (hx : nilCAt ops j f = some (.ptr id off))
    (h : AnyE P T ops M rd K fuel pend' (listed.setIfInBounds j true) (putAt ops j f (.ptr id off)) st) : AnyE P T ops M rd K (fuel + 1) pend listed f st := fun k1 k2 k3 => by
  unfold onlyD at hj
  split at hj
  · rename_i j' hr
    split at hj
    · rename_i o ho
      split at hj
      · rename_i hnl
        cases hj
        have hput : ∀ v, putAt ops j f v = f.put o.dst v := fun v => by simp [putAt, ho]
        refine AnyE.one j ho (by rw [hr]; exact Nat.beq_refl j) _ rfl (OpsW.nilC hx (.nil ⟨⟨_, hput _⟩, fun p hpm => ?_, h⟩)) k1 k2 k3
        show LV T ops st.h (putAt ops j f (.ptr id off)) p.1 p.2
        rw [hput, LV_put (fun q hq d hd => noLookB_ok hnl p hpm q hq d hd)]
        exact k3 p (List.mem_filter.1 hpm).1
      · cases hj
    · cases hj
  · cases hj
end
end Go.Fz
namespace Go.Fz
open Go.Proofs
set_option maxRecDepth 100000
end Go.Fz
namespace Go.Fz
open Go.Proofs
set_option maxRecDepth 100000
set_option linter.unusedVariables false
end Go.Fz
namespace Go.Fz
open Go.Proofs
set_option maxRecDepth 100000
set_option linter.unusedVariables false
end Go.Fz
namespace Go.Fz
open Go.Proofs
set_option maxRecDepth 100000
set_option linter.unusedVariables false
end Go.Fz
namespace Go.Fz
open Go.Proofs
set_option maxRecDepth 100000
end Go.Fz
namespace Go.Fz
open Go.Proofs
set_option maxRecDepth 100000
set_option linter.unusedVariables false
section
variable {P : Program}
end
end Go.Fz
namespace Go.Fz
open Go.Proofs
set_option maxRecDepth 100000
set_option linter.unusedVariables false
end Go.Fz
namespace Go.Fz
open Go.Proofs
set_option maxRecDepth 100000
set_option linter.unusedVariables false
end Go.Fz
namespace Go.Fz
open Go.Proofs
set_option maxRecDepth 100000
set_option linter.unusedVariables false
end Go.Fz
namespace Go.Fz
open Go.Proofs
set_option maxRecDepth 100000
theorem list_ok (n : Nat) (ex : Bool) (fl : Nat → Int) (hn : n < 1000) : Pure Try.prog 22 [intsV n ex fl] (intsV n false fl) := by
  refine pure_of_body tok 3 Try.func22 en22 rfl ⟨intsV_below n ex fl, trivial⟩ (intsV_below n false fl) ?_
  obtain ⟨O, hO⟩ : ∃ O : Ar, O = std := ⟨_, rfl⟩
  refine SW.seqRun tok hO (by cbv <;> rfl) (by trivial) ?_
  refine SW.seq (SW.regionL (l := [0, 1, 2]) rfl ?_)
  refine OpsW.light tok rfl rfl (r := intsV n ex fl) (by rfl) ?_
  rcases Nat.eq_zero_or_pos n with hz | hz
  · subst hz
    refine OpsW.append tok rfl rfl (r := .lit (.slice none 0 0)) (st' := ⟨[], 0⟩) (by exact list_app0 ex fl _) ?_
    refine OpsW.light tok rfl rfl (r := .lit (.slice none 0 0)) (by rfl) ?_
    refine OpsW.nil ?_
    exact SW.ret ⟨_, _, rfl, rfl, Eqv.nil⟩
  · refine OpsW.append tok rfl rfl (r := .sl 0 0 n 1 false) (st' := ⟨[(0, .cells none false (flatG 1 (intC fl) n))], 1⟩) (by exact list_app n ex fl hz hn _) ?_
    refine OpsW.light tok rfl rfl (r := .sl 0 0 n 1 false) (by rfl) ?_
    refine OpsW.nil ?_
    refine SW.ret ⟨_, _, rfl, rfl, ?_⟩
    show Eqv (if 0 + n * 1 ≤ (flatG 1 (intC fl) n).length then _ else _) _
    rw [if_pos (by rw [flatG_length]; omega)]
    refine Eqv.isl rfl fun i k hi hk => ?_
    obtain rfl : k = 0 := by omega
    have hget := flatG_get 1 (intC fl) n i 0 hi (by omega)
    refine Eqv.of ?_
    have : (flatG 1 (intC fl) n).getD (0 + i * 1 + 0) .any = iV (fl i) := by
      rw [List.getD_eq_getElem?_getD, show 0 + i * 1 + 0 = i * 1 + 0 by omega, hget]; rfl
    rw [this]; rfl
end Go.Fz
namespace Go.Fz
open Go.Proofs
set_option maxRecDepth 100000
def FarmD.listedB (f : FarmD) (n : Nat) (fl : Nat → Int) : Bool := decide (n = f.ns) && allN f.ns fun i => Go.Fz.inB (fl i) (f.slo i) (f.shi i)
end Go.Fz
namespace Go.Fz
theorem FarmD.fits_eq (f : FarmD) (n : Nat) (fl : Nat → Int) : f.fits n fl = f.listedB n fl := by
  unfold FarmD.fits FarmD.listedB
  by_cases h : n = f.ns
  · subst h; rfl
  · simp [h]
end Go.Fz
namespace Go.Fz
open Go.Proofs
set_option maxRecDepth 100000
theorem FarmD.play_good (f : FarmD) (n : Nat) (fl : Nat → Int) (h : f.faultN = 0) (hl : f.listedB n fl = true) : f.playL n fl = .isl f.nb 3 false (flowC (f.water fl)) ∧ f.playE n fl = 0 := by
  refine ⟨?_, ?_⟩
  · unfold FarmD.playL; rw [f.fits_eq, hl, f.check_eq, if_pos ⟨h, rfl⟩]
  · unfold FarmD.playE; rw [f.check_eq, if_pos h, f.fits_eq, hl]; rfl
end Go.Fz
namespace Go.Fz
open Go.Proofs
set_option maxRecDepth 100000
def FarmD.qN (f : FarmD) (N : Int) : Nat → Int
  | 0 => N
  | s + 1 => quo64 (f.qN N s) (size64 (f.slo s) (f.shi s))
def FarmD.nthN (f : FarmD) (N : Int) (s : Nat) : Int := add64 (f.slo s) ((f.qN N s).tmod (size64 (f.slo s) (f.shi s)))
set_option maxHeartbeats 4000000 in
theorem nth_ok (f : FarmD) (g : f.Good) (N : Int) : Pure Try.prog 60 [farmV f, iV N] (intsV f.ns false (f.nthN N)) := by
  obtain ⟨O, hO⟩ : ∃ O : Ar, O = std := ⟨_, rfl⟩
  have hnat : ∀ i : Nat, O.nat (Int.ofNat i) = i := fun i => by subst hO; rfl
  have hns := g.ns
  refine pure_of_body tok 3 Try.func60 en60 rfl ⟨farmV_below f, iV_below, trivial⟩ (intsV_below _ _ _) ?_
  refine SW.seqRun tok hO (by cbv <;> rfl) (by trivial) ?_
  refine SW.seqRun tok hO (by cbv <;> rfl) (by trivial) ?_
  refine SW.seq ?_
  refine SW.seqRun tok hO (by cbv <;> rfl) (by trivial) ?_
  refine (SW.block (SW.loopR (fun i : Nat => ⟨⟨36, getT [(1, iV (f.qN N i)), (2, .ptr 0 0), (5, slG 1 1 i), (6, iV i)]⟩, []⟩) (fun i => ⟨[(0, .cells none false [springsV f, bedsV f, looksV f])] ++ objG 1 1 (intC (f.nthN N)) i, 2⟩) (fun i => f.ns - i) (fun i => i ≤ f.ns) 0 (Nat.zero_le _) (ren1 1 1) ?_ fun i hi => ?_))
  · exact WeakR.up rfl rfl (by simp) (Nat.le_refl _) (.inl rfl) (by show 1 ≤ 2; omega) ⟨RenV.closed Below.lit, RenV.ptr (by omega), RenV.closed Below.lit, RenV.closed Below.lit, trivial⟩ ⟨⟨by omega, _, rfl, .cells (RenVs.closed (farmC_below f)), .inr rfl⟩, trivial⟩ (fun p hp => by cases hp)
  generalize hQ : f.qN N i = q
  cases i with
  | zero =>
    refine SW.seq ?_
    refine SW.seqRun tok hO (by cbv <;> rfl) (by trivial) ?_
    refine SW.condS (by cbv <;> rfl) (fun h => SW.skip ?_) (fun h => SW.exit ?_)
    · have hlt : 0 < f.ns := by subst hO; simpa [std] using h
      have h0 : (0 : Int) ≤ Int.ofNat 0 := Int.natCast_nonneg 0
      obtain ⟨_, hs0, hs1, hs2⟩ := g.spring 0 hlt
      have hsz := size64_in hs0 hs1 (by omega)
      have hne : size64 (f.slo 0) (f.shi 0) ≠ 0 := by rw [hsz]; omega
      have call := count_ok (f.slo 0) (f.shi 0)
      have e1 : quo64 q (size64 (f.slo 0) (f.shi 0)) = f.qN N 1 := by rw [← hQ]; rfl
      have e2 : add64 (f.slo 0) (q.tmod (size64 (f.slo 0) (f.shi 0))) = f.nthN N 0 := by rw [← hQ]; rfl
      generalize size64 (f.slo 0) (f.shi 0) = z at call hne e1 e2
      rw [← hnat 0] at call
      refine SW.seq (SW.block ?_)
      refine SW.seqRun tok hO (by cbv <;> rfl) ?_ ?_
      · exact ⟨h0, Int.ofNat_lt.2 hlt⟩
      refine SW.runD tok mixed hO (by rfl) (by cbv <;> rfl) (by trivial) ?_
      refine AnyE.callP call (by cbv <;> rfl) (by cbv <;> rfl) ?_
      refine AnyE.run tok hO (by rfl) (by cbv <;> rfl) ?_ ?_
      · exact hne
      refine AnyE.effK tok hO (by cbv <;> rfl) (by cbv <;> rfl) (by trivial) ?_ ?_
      · repeat (first | exact trivial | refine ⟨by (cbv <;> rfl), ?_⟩)
      refine AnyE.appNilK tok (by cbv <;> rfl) (by cbv <;> rfl) (by rfl) (by kernel_rfl) (by rfl) (by rfl) ?_ ?_
      · repeat (first | exact trivial | refine ⟨by (cbv <;> rfl), ?_⟩)
      refine AnyE.run tok hO (by rfl) (by cbv <;> rfl) (by trivial) ?_
      refine AnyE.callP call (by cbv <;> rfl) (by cbv <;> rfl) ?_
      refine AnyE.run tok hO (by rfl) (by cbv <;> rfl) ?_ ?_
      · exact hne
      refine AnyE.eff tok hO (by cbv <;> rfl) (by cbv <;> rfl) (by trivial) ?_
      refine AnyE.done (by rfl) ?_
      refine SW.run tok hO (by cbv <;> rfl) (by trivial) ?_
      refine ⟨1, by omega, by omega, ren1 1 4, ?_⟩
      have e3 : O.bin .quo .i64 q z = f.qN N 1 := by rw [← e1]; subst hO; rfl
      have e4 : O.bin .add .i64 (f.slo (O.nat (Int.ofNat 0))) (O.bin .rem .i64 q z) = f.nthN N 0 := by rw [← e2, hnat]; subst hO; rfl
      refine WeakR.up rfl rfl (by simp) (Nat.le_refl _) (.inr (by omega)) (by show 1 ≤ 2; omega) ⟨?_, RenV.ptr (by omega), RenV.sl (by omega), RenV.inc hO (by omega), trivial⟩ ⟨⟨by omega, _, rfl, .cells (RenVs.closed (farmC_below f)), .inr rfl⟩, trivial⟩ (fun p hp => ?_)
      · show RenV _ _ (iV (f.qN N 1)) (iV (O.bin .quo .i64 q z))
        rw [e3]; exact RenV.closed Below.lit
      obtain rfl := objG_mem hp
      refine ⟨by omega, _, rfl, .cells (RenVs.of_eq ?_ (flatG_below (fun i k => Below.lit) 1)), .inl rfl⟩
      show [iV (O.bin .add .i64 (f.slo (O.nat (Int.ofNat 0))) (O.bin .rem .i64 q z))] = [iV (f.nthN N 0)]
      rw [e4]
    · have hz : f.ns = 0 := by
        have : f.ns ≤ 0 := by subst hO; simpa [std] using h
        omega
      refine SW.seqRun tok hO (by cbv <;> rfl) (by trivial) ?_
      refine SW.ret ⟨_, _, rfl, rfl, ?_⟩
      rw [hz]; exact Eqv.nil
  | succ i =>
    obtain ⟨G, hG⟩ : ∃ G, G = flatG 1 (intC (f.nthN N)) (i + 1) := ⟨_, rfl⟩
    have hGo : objG 1 1 (intC (f.nthN N)) (i + 1) = [(1, .cells none false G)] := by rw [hG]; rfl
    show SW _ _ _ _ ⟨⟨36, getT [(1, iV q), (2, .ptr 0 0), (5, .sl 1 0 (i + 1) 1 false), (6, iV (i + 1 : Nat))]⟩, []⟩ ⟨[(0, .cells none false [springsV f, bedsV f, looksV f])] ++ objG 1 1 (intC (f.nthN N)) (i + 1), 2⟩
    rw [hGo]
    refine SW.seq ?_
    refine SW.seqRun tok hO (by cbv <;> rfl) (by trivial) ?_
    refine SW.condS (by cbv <;> rfl) (fun h => SW.skip ?_) (fun h => SW.exit ?_)
    · have hlt : i + 1 < f.ns := by
        have : ((i + 1 : Nat) : Int) < (f.ns : Int) := by subst hO; simpa [std] using h
        omega
      have h0 : (0 : Int) ≤ Int.ofNat (i + 1) := Int.natCast_nonneg (i + 1)
      obtain ⟨_, hs0, hs1, hs2⟩ := g.spring (i + 1) hlt
      have hsz := size64_in hs0 hs1 (by omega)
      have hne : size64 (f.slo (i + 1)) (f.shi (i + 1)) ≠ 0 := by rw [hsz]; omega
      have call := count_ok (f.slo (i + 1)) (f.shi (i + 1))
      have e1 : quo64 q (size64 (f.slo (i + 1)) (f.shi (i + 1))) = f.qN N (i + 1 + 1) := by rw [← hQ]; rfl
      have e2 : add64 (f.slo (i + 1)) (q.tmod (size64 (f.slo (i + 1)) (f.shi (i + 1)))) = f.nthN N (i + 1) := by rw [← hQ]; rfl
      generalize size64 (f.slo (i + 1)) (f.shi (i + 1)) = z at call hne e1 e2
      rw [← hnat (i + 1)] at call
      refine SW.seq (SW.block ?_)
      refine SW.seqRun tok hO (by cbv <;> rfl) ?_ ?_
      · exact ⟨h0, Int.ofNat_lt.2 hlt⟩
      refine SW.runD tok mixed hO (by rfl) (by cbv <;> rfl) (by trivial) ?_
      refine AnyE.callP call (by cbv <;> rfl) (by cbv <;> rfl) ?_
      refine AnyE.run tok hO (by rfl) (by cbv <;> rfl) ?_ ?_
      · exact hne
      refine AnyE.effK tok hO (by cbv <;> rfl) (by cbv <;> rfl) (by trivial) ?_ ?_
      · repeat (first | exact trivial | refine ⟨by (cbv <;> rfl), ?_⟩)
      refine AnyE.appOneK (g := intC (f.nthN N)) tok (by cbv <;> rfl) (by cbv <;> rfl) (by rfl) (by rfl) hG (by kernel_rfl) (by rfl) (by rfl) (by omega) fun G' hG' => ⟨?_, ?_⟩
      · repeat (first | exact trivial | refine ⟨by (cbv <;> rfl), ?_⟩)
      refine AnyE.run tok hO (by rfl) (by cbv <;> rfl) (by trivial) ?_
      refine AnyE.callP call (by cbv <;> rfl) (by cbv <;> rfl) ?_
      refine AnyE.run tok hO (by rfl) (by cbv <;> rfl) ?_ ?_
      · exact hne
      refine AnyE.eff tok hO (by cbv <;> rfl) (by cbv <;> rfl) (by trivial) ?_
      refine AnyE.done (by rfl) ?_
      refine SW.run tok hO (by cbv <;> rfl) (by trivial) ?_
      refine ⟨i + 1 + 1, by omega, by omega, ren1 1 4, ?_⟩
      have e3 : O.bin .quo .i64 q z = f.qN N (i + 1 + 1) := by rw [← e1]; subst hO; rfl
      have e4 : O.bin .add .i64 (f.slo (O.nat (Int.ofNat (i + 1)))) (O.bin .rem .i64 q z) = f.nthN N (i + 1) := by rw [← e2, hnat]; subst hO; rfl
      refine WeakR.up rfl rfl (by simp) (Nat.le_refl _) (.inr (by omega)) (by show 1 ≤ 2; omega) ⟨?_, RenV.ptr (by omega), RenV.sl (by omega), RenV.inc hO (by omega), trivial⟩ ⟨⟨by omega, _, rfl, .cells (RenVs.closed (farmC_below f)), .inr rfl⟩, trivial⟩ (fun p hp => ?_)
      · show RenV _ _ (iV (f.qN N (i + 1 + 1))) (iV (O.bin .quo .i64 q z))
        rw [e3]; exact RenV.closed Below.lit
      obtain rfl := objG_mem hp
      refine ⟨by omega, _, rfl, .cells (RenVs.of_eq (hG'.trans ?_) (flatG_below (fun i k => Below.lit) (i + 1 + 1))), .inl rfl⟩
      show _ ++ [iV (O.bin .add .i64 (f.slo (O.nat (Int.ofNat (i + 1)))) (O.bin .rem .i64 q z))] = _ ++ [iV (f.nthN N (i + 1))]
      rw [e4]
    · have hz : f.ns = i + 1 := by
        have : (f.ns : Int) ≤ ((i + 1 : Nat) : Int) := by subst hO; simpa [std] using h
        omega
      refine SW.seqRun tok hO (by cbv <;> rfl) (by trivial) ?_
      refine SW.ret ⟨_, _, rfl, rfl, ?_⟩
      rw [hz]
      exact frz_flatI (z := fun i _ => f.nthN N i) (fm := none) rfl (by rw [hG]; rfl)
end Go.Fz
namespace Go.Fz
theorem tmod_bound {q z : Int} (hq : 0 ≤ q) (hz : 0 < z) : 0 ≤ q.tmod z ∧ q.tmod z < z := ⟨Int.tmod_nonneg z hq, Int.tmod_lt_of_pos q hz⟩
theorem FarmD.qN_nonneg (f : FarmD) (g : f.Good) (N : Int) (h0 : 0 ≤ N) (h1 : N ≤ 9223372036854775807) : ∀ s, s ≤ f.ns → 0 ≤ f.qN N s ∧ f.qN N s ≤ 9223372036854775807
  | 0, _ => ⟨h0, h1⟩
  | s + 1, h => by
    obtain ⟨k0, k1⟩ := f.qN_nonneg g N h0 h1 s (by omega)
    obtain ⟨_, hs0, hs1, hs2⟩ := g.spring s (by omega)
    have hsz := size64_in hs0 hs1 (by omega)
    show 0 ≤ quo64 (f.qN N s) (size64 (f.slo s) (f.shi s)) ∧ quo64 (f.qN N s) (size64 (f.slo s) (f.shi s)) ≤ _
    rw [hsz]
    have hz : 1 ≤ f.shi s - f.slo s + 1 := by omega
    generalize f.shi s - f.slo s + 1 = z at hz
    have h2 : 0 ≤ (f.qN N s).tdiv z := Int.tdiv_nonneg k0 (by omega)
    have h3 : (f.qN N s).tdiv z ≤ f.qN N s := by
      have := Int.tdiv_mul_add_tmod (f.qN N s) z
      have h4 := Int.tmod_nonneg z k0
      have h5 : (f.qN N s).tdiv z * 1 ≤ (f.qN N s).tdiv z * z := Int.mul_le_mul_of_nonneg_left hz h2
      omega
    unfold quo64
    rw [wrp_in (by simp only [IntKind.lo]; omega) (by simp only [IntKind.hi]; omega)]
    omega
theorem FarmD.nth_listed (f : FarmD) (g : f.Good) (N : Int) (h0 : 0 ≤ N) (h1 : N ≤ 9223372036854775807) : f.listedB f.ns (f.nthN N) = true := by
  unfold FarmD.listedB
  rw [Bool.and_eq_true]
  refine ⟨by simp, allN_true fun s hs => ?_⟩
  obtain ⟨k0, k1⟩ := f.qN_nonneg g N h0 h1 s (by omega)
  obtain ⟨_, hs0, hs1, hs2⟩ := g.spring s hs
  have hsz := size64_in hs0 hs1 (by omega)
  have hb := tmod_bound (z := f.shi s - f.slo s + 1) k0 (by omega)
  have : f.nthN N s = f.slo s + (f.qN N s).tmod (f.shi s - f.slo s + 1) := by
    unfold FarmD.nthN
    rw [hsz, add64_in _ _ (by omega) (by omega)]
  unfold Go.Fz.inB
  rw [this, Bool.and_eq_true, decide_eq_true_eq, decide_eq_true_eq]
  omega
section
variable (f : FarmD) (g : f.Good) (k : Nat) (hk : k < f.nb) (v : Int) (hv0 : 0 ≤ v) (hv1 : v ≤ f.notch k)
include g hv0 hv1 hk
end
end Go.Fz
namespace Go.Proofs.Ytpaifaemkoblcaa
open Go.ChangeShapes Go.WideShapes Go.ChangeAt Go.RowKit Go.Joins
set_option linter.unusedVariables false
set_option maxRecDepth 100000
theorem u16_in {n : Int} (h : (Lit.int .u16 n).wf = true) : 0 ≤ n ∧ n ≤ 65535 := by
  simp [Lit.wf, IntKind.min, IntKind.max, IntKind.signed, IntKind.bits] at h
  omega
theorem u8_in {n : Int} (h : (Lit.int .u8 n).wf = true) : 0 ≤ n ∧ n ≤ 255 := by
  simp [Lit.wf, IntKind.min, IntKind.max, IntKind.signed, IntKind.bits] at h
  omega
end Go.Proofs.Ytpaifaemkoblcaa
set_option linter.unusedVariables false
namespace Go.Fz
open Go.Proofs
set_option maxRecDepth 100000
end Go.Fz
set_option linter.unusedVariables false
namespace Go.Fz
open Go.Proofs
set_option maxRecDepth 100000
end Go.Fz
set_option linter.unusedVariables false
namespace Go.Fz
open Go.Proofs
set_option maxRecDepth 100000
end Go.Fz
set_option linter.unusedVariables false
namespace Go.Fz
open Go.Proofs
set_option maxRecDepth 100000
def trueQ3 (fn : Func) : Exit → Fm → St → Prop := retQ T fn (fun v st' => Eqv (frz st'.h (fun _ => true) 3 v) (.lit (.bool true)))
theorem check_of_ready {f : FarmD} (h : f.readyB = true) : f.check = 0 := by
  simp only [FarmD.readyB, Bool.and_eq_true, decide_eq_true_eq] at h
  rw [f.check_eq]; exact h.2
theorem ready_sb (f : FarmD) {t : Bool} (h : f.readyB = t) : Pure Try.prog 52 [farmV f] (.sb t) := by
  have := ready_ok f
  rw [h] at this; exact this
theorem modN {nb : Nat} (h0 : 0 < nb) (h1 : nb < 1000) {a : Int} (a0 : 0 ≤ a) (a1 : a ≤ 65535) : ∃ k : Nat, k < nb ∧ std.bin .rem .i64 (std.conv .i64 a) (Int.ofNat nb) = Int.ofNat k := by
  have e1 : std.conv .i64 a = a := wrp_in (by simp only [IntKind.lo]; omega) (by simp only [IntKind.hi]; omega)
  rw [e1]
  have e2 : std.bin .rem .i64 a (Int.ofNat nb) = a.tmod (nb : Int) := rfl
  have h2 := Int.tmod_nonneg (nb : Int) a0
  have h3 := Int.tmod_lt_of_pos a (show (0 : Int) < nb by omega)
  refine ⟨(a.tmod (nb : Int)).toNat, by omega, ?_⟩
  rw [e2]
  show _ = (((a.tmod (nb : Int)).toNat : Nat) : Int)
  omega
end Go.Fz
set_option linter.unusedVariables false
namespace Go.Fz
open Go.Proofs
set_option maxRecDepth 100000
def qZ (s : Nat → Int) (n : Int) : Nat → Int
  | 0 => n
  | i + 1 => qZ s n i / s i
def pZ (s : Nat → Int) : Nat → Int
  | 0 => 1
  | i + 1 => pZ s i * s i
def FarmD.szS (f : FarmD) (i : Nat) : Int := f.shi i - f.slo i + 1
theorem FarmD.prod_pZ (f : FarmD) : ∀ s, f.prodN s = pZ f.szS s
  | 0 => rfl
  | s + 1 => by
    show f.prodN s * _ = pZ f.szS s * _
    rw [f.prod_pZ s]; rfl
theorem FarmD.many_eq {f : FarmD} (hc : f.check = 0) : f.manyN f.ns = pZ f.szS f.ns ∧ 1 ≤ f.manyN f.ns ∧ f.manyN f.ns ≤ 2000 := by
  have g := good_of_check hc
  have hsp : ∀ s, s < f.ns → 0 ≤ f.slo s ∧ f.slo s ≤ f.shi s ∧ f.shi s ≤ 30 := fun s hs => (g.spring s hs).2
  obtain ⟨h1, h2⟩ := f.sizes_eq g.ns hsp f.ns (Nat.le_refl _)
  have h3 := (f.prod_le hsp f.ns (Nat.le_refl _)).1
  have h4 : f.sizesN f.ns ≤ 2000 := by
    unfold FarmD.check at hc
    split at hc
    · cases hc
    · split at hc
      · split at hc
        · cases hc
        · rename_i h; omega
      · cases hc
  rw [h1] at h4
  rw [h2, ← f.prod_pZ]
  unfold minI
  split <;> omega
end Go.Fz
set_option linter.unusedVariables false
set_option linter.unusedSimpArgs false
namespace Go.Fz
open Go.Proofs
set_option maxRecDepth 100000
end Go.Fz
set_option linter.unusedVariables false
set_option linter.unusedSimpArgs false
namespace Go.Fz
open Go.Proofs
set_option maxRecDepth 100000
theorem listO_ok (n : Nat) (ex : Bool) (fl : Nat → Int) (h0 : 0 < n) (hn : n < 1000) (h : Hp) (q : Nat) : CallW Try.prog 22 [intsV n ex fl] ⟨h, q⟩ (fun v st' => v = .sl q 0 n 1 false ∧ st' = ⟨(q, .cells none false (flatG 1 (intC fl) n)) :: h, q + 1⟩) := by
  refine callW_of_body tok Try.func22 rfl ?_
  obtain ⟨O, hO⟩ : ∃ O : Ar, O = std := ⟨_, rfl⟩
  refine SW.seqRun tok hO (by cbv <;> rfl) (by trivial) ?_
  refine SW.seq (SW.regionL (l := [0, 1, 2]) rfl ?_)
  refine OpsW.light tok rfl rfl (r := intsV n ex fl) (by rfl) ?_
  refine OpsW.append tok rfl rfl (r := .sl q 0 n 1 false) (st' := ⟨(q, .cells none false (flatG 1 (intC fl) n)) :: h, q + 1⟩) (by exact list_app n ex fl h0 hn _) ?_
  refine OpsW.light tok rfl rfl (r := .sl q 0 n 1 false) (by rfl) ?_
  refine OpsW.nil ?_
  exact SW.ret ⟨_, _, rfl, rfl, rfl, rfl⟩
set_option maxHeartbeats 8000000 in
theorem wt_not1 (haw : Pure Try.prog 19 [] (.lit (.bool true))) (f : FarmD) (w a b : Int) (e52 : Pure Try.prog 52 [farmV f] (.sb false)) : Pure Try.prog 12 [farmV f, .lit (.int .u16 w), .lit (.int .u8 a), .lit (.int .u8 b)] (.lit (.bool true)) := by
  obtain ⟨O, hO⟩ : ∃ O : Ar, O = std := ⟨_, rfl⟩
  refine pure_of_body tok 3 Try.func12 en12 rfl ⟨farmV_below f, Below.lit, Below.lit, Below.lit, trivial⟩ Below.lit ?_
  refine SW.seqRun tok hO (by cbv <;> rfl) (by trivial) ?_
  refine SW.seq ?_
  refine SW.seqRun tok hO (by cbv <;> rfl) (by trivial) ?_
  refine OpsW.callP e52 (by cbv <;> rfl) ?_
  refine OpsW.run tok hO (by cbv <;> rfl) (by trivial) ?_
  refine OpsW.splitG (by cbv <;> rfl) (fun hw1 => ?_) (fun hw1 => by first | (cases hw1; done) | (subst hO; simp [std] at hw1; done) | (subst hO; simp [std] at hw1; omega))
  refine OpsW.run tok hO (by cbv <;> rfl) (by trivial) ?_
  refine SW.cond (t := true) (by cbv <;> rfl) ?_
  refine SW.seqRun tok hO (by cbv <;> rfl) (by trivial) ?_
  refine OpsW.callP haw (by cbv <;> rfl) ?_
  refine OpsW.run tok hO (by cbv <;> rfl) (by trivial) ?_
  exact SW.ret ⟨_, _, rfl, rfl, Eqv.of rfl⟩
set_option maxHeartbeats 8000000 in
theorem wt_not2 (haw : Pure Try.prog 19 [] (.lit (.bool true))) (f : FarmD) (w a b : Int) (hz : f.ns = 0) (e52 : Pure Try.prog 52 [farmV f] (.sb true)) : Pure Try.prog 12 [farmV f, .lit (.int .u16 w), .lit (.int .u8 a), .lit (.int .u8 b)] (.lit (.bool true)) := by
  obtain ⟨O, hO⟩ : ∃ O : Ar, O = std := ⟨_, rfl⟩
  refine pure_of_body tok 3 Try.func12 en12 rfl ⟨farmV_below f, Below.lit, Below.lit, Below.lit, trivial⟩ Below.lit ?_
  refine SW.seqRun tok hO (by cbv <;> rfl) (by trivial) ?_
  refine SW.seq ?_
  refine SW.seqRun tok hO (by cbv <;> rfl) (by trivial) ?_
  refine OpsW.callP e52 (by cbv <;> rfl) ?_
  refine OpsW.run tok hO (by cbv <;> rfl) (by trivial) ?_
  refine OpsW.splitG (by cbv <;> rfl) (fun hw1 => by first | (cases hw1; done) | (subst hO; simp [std, hz] at hw1; done) | (subst hO; simp [std, hz] at hw1; omega)) (fun hw1 => ?_)
  refine OpsW.run tok hO (by cbv <;> rfl) (by trivial) ?_
  refine SW.condS (by cbv <;> rfl) (fun hw2 => ?_) (fun hw2 => by first | (cases hw2; done) | (subst hO; simp [std, hz] at hw2; done) | (subst hO; simp [std, hz] at hw2; omega))
  refine SW.seqRun tok hO (by cbv <;> rfl) (by trivial) ?_
  refine OpsW.callP haw (by cbv <;> rfl) ?_
  refine OpsW.run tok hO (by cbv <;> rfl) (by trivial) ?_
  exact SW.ret ⟨_, _, rfl, rfl, Eqv.of rfl⟩
set_option maxHeartbeats 8000000 in
theorem wt_pre (f : FarmD) (w a b : Int) (t : Nat → Int) (M : Int) (hz : ¬ f.ns = 0) (hM : M ≠ 0) (e52 : Pure Try.prog 52 [farmV f] (.sb true)) (e61 : Pure Try.prog 61 [farmV f] (iV M)) (e60 : Pure Try.prog 60 [farmV f, iV (std.bin .rem .i64 (std.conv .i64 w) M)] (intsV f.ns false t))
    (htail : ∀ (gg : Nat → AV), AllP (fun p => gg p.1 = p.2) [(2, .lit (.int .u8 a)), (3, .lit (.int .u8 b)), (4, .ptr 0 0), (9, intsV f.ns false t)] → SW Try.prog none (restC 3 (bodyF Try.f12)) (trueQ3 Try.f12) ⟨⟨225, gg⟩, []⟩ ⟨[(0, .cells none false (farmL f))], 1⟩) : Pure Try.prog 12 [farmV f, .lit (.int .u16 w), .lit (.int .u8 a), .lit (.int .u8 b)] (.lit (.bool true)) := by
  obtain ⟨O, hO⟩ : ∃ O : Ar, O = std := ⟨_, rfl⟩
  rw [← hO] at e60
  refine pure_of_body tok 3 Try.func12 en12 rfl ⟨farmV_below f, Below.lit, Below.lit, Below.lit, trivial⟩ Below.lit ?_
  refine SW.seqRun tok hO (by cbv <;> rfl) (by repeat (first | exact trivial | exact hM | refine ⟨?_, ?_⟩)) ?_
  refine SW.seq ?_
  refine SW.seqRun tok hO (by cbv <;> rfl) (by repeat (first | exact trivial | exact hM | refine ⟨?_, ?_⟩)) ?_
  refine OpsW.callP e52 (by cbv <;> rfl) ?_
  refine OpsW.run tok hO (by cbv <;> rfl) (by repeat (first | exact trivial | exact hM | refine ⟨?_, ?_⟩)) ?_
  refine OpsW.splitG (by cbv <;> rfl) (fun hw1 => by first | (cases hw1; done) | (subst hO; simp [std, hz] at hw1; done) | (subst hO; simp [std, hz] at hw1; omega)) (fun hw1 => ?_)
  refine OpsW.run tok hO (by cbv <;> rfl) (by repeat (first | exact trivial | exact hM | refine ⟨?_, ?_⟩)) ?_
  refine SW.condS (by cbv <;> rfl) (fun hw2 => by first | (cases hw2; done) | (subst hO; simp [std, hz] at hw2; done) | (subst hO; simp [std, hz] at hw2; omega)) (fun hw2 => SW.skip ?_)
  refine SW.seqRunD tok mixed hO (by kernel_rfl) (by cbv <;> rfl) (by repeat (first | exact trivial | exact hM | refine ⟨?_, ?_⟩)) ?_
  refine AnyE.callP e61 (by cbv <;> rfl) (by cbv <;> rfl) ?_
  refine AnyE.run tok hO (by kernel_rfl) (by cbv <;> rfl) (by repeat (first | exact trivial | exact hM | refine ⟨?_, ?_⟩)) ?_
  refine AnyE.callP e60 (by cbv <;> rfl) (by cbv <;> rfl) ?_
  refine AnyE.run tok hO (by kernel_rfl) (by cbv <;> rfl) (by repeat (first | exact trivial | exact hM | refine ⟨?_, ?_⟩)) ?_
  exact htail _ ⟨rfl, rfl, rfl, rfl, trivial⟩
set_option maxHeartbeats 8000000 in
theorem wt_k (f : FarmD) (a b : Int) (t : Nat → Int) (k : Nat) (hnz : Int.ofNat f.ns ≠ 0) (hk : std.bin .rem .i64 (std.conv .i64 a) (Int.ofNat f.ns) = Int.ofNat k)
    (htail : ∀ (gg : Nat → AV), AllP (fun p => gg p.1 = p.2) [(3, .lit (.int .u8 b)), (4, .ptr 0 0), (9, intsV f.ns false t), (10, iV (Int.ofNat k))] → SW Try.prog none (restC 4 (bodyF Try.f12)) (trueQ3 Try.f12) ⟨⟨225, gg⟩, []⟩ ⟨[(0, .cells none false (farmL f))], 1⟩)
    (gg : Nat → AV) (h : AllP (fun p => gg p.1 = p.2) [(2, .lit (.int .u8 a)), (3, .lit (.int .u8 b)), (4, .ptr 0 0), (9, intsV f.ns false t)]) :
    SW Try.prog none (restC 3 (bodyF Try.f12)) (trueQ3 Try.f12) ⟨⟨225, gg⟩, []⟩ ⟨[(0, .cells none false (farmL f))], 1⟩ := by
  obtain ⟨O, hO⟩ : ∃ O : Ar, O = std := ⟨_, rfl⟩
  obtain ⟨g1, g2, g3, g4, _⟩ := h
  simp only at g1 g2 g3 g4
  rw [← updT_self g1, ← updT_self g2, ← updT_self g3, ← updT_self g4]
  rw [← hO] at hk
  refine (show SW Try.prog none (.seq (.region _ _ _) _) _ _ _ from ?_)
  refine SW.seqRun tok hO (by cbv <;> rfl) (by repeat (first | exact trivial | exact hnz | refine ⟨?_, ?_⟩)) ?_
  exact htail _ ⟨rfl, rfl, rfl, (by rw [← hk]; rfl), trivial⟩
def wtD (j : Nat) : Bool := Nat.beq j 1
set_option maxHeartbeats 32000000 in
theorem wt_u (f : FarmD) (hns : f.ns ≤ 4) (b : Int) (t : Nat → Int) (k : Nat) (hk : k < f.ns) (v : Int) (hv : std.mn (f.shi k) (std.bin .add .i64 (t k) (std.bin .rem .i64 (std.conv .i64 b) 5)) = v)
    (htail : ∀ (hU : Nat → Nat → AV), Below 0 (.isl f.ns 1 false hU) → Eqv (.isl f.ns 1 false hU) (intsV f.ns false (setI t k v)) → ∀ (gg : Nat → AV), AllP (fun p => gg p.1 = p.2) [(3, .lit (.int .u8 b)), (4, .ptr 0 0), (9, intsV f.ns false t), (10, iV (Int.ofNat k)), (11, .isl f.ns 1 false hU)] → SW Try.prog none (restC 6 (bodyF Try.f12)) (trueQ3 Try.f12) ⟨⟨225, gg⟩, []⟩ ⟨[(0, .cells none false (farmL f))], 2⟩)
    (gg : Nat → AV) (h : AllP (fun p => gg p.1 = p.2) [(3, .lit (.int .u8 b)), (4, .ptr 0 0), (9, intsV f.ns false t), (10, iV (Int.ofNat k))]) :
    SW Try.prog none (restC 4 (bodyF Try.f12)) (trueQ3 Try.f12) ⟨⟨225, gg⟩, []⟩ ⟨[(0, .cells none false (farmL f))], 1⟩ := by
  obtain ⟨O, hO⟩ : ∃ O : Ar, O = std := ⟨_, rfl⟩
  rw [← hO] at hv
  have hnat : ∀ i : Nat, O.nat (Int.ofNat i) = i := fun i => by subst hO; rfl
  obtain ⟨g3, g4, g9, g10, _⟩ := h
  simp only at g3 g4 g9 g10
  rw [← updT_self g3, ← updT_self g4, ← updT_self g9, ← updT_self g10]
  obtain ⟨GC, hGC⟩ : ∃ G, flatG 1 (intC t) f.ns = G := ⟨_, rfl⟩
  have call := listO_ok f.ns false t (by omega) (by omega) [(0, .cells none false (farmL f))] 1
  rw [hGC] at call
  have hik : 0 ≤ Int.ofNat k ∧ Int.ofNat k < Int.ofNat f.ns := ⟨Int.natCast_nonneg k, Int.ofNat_lt.2 hk⟩
  refine (show SW Try.prog none (.seq (.region _ _ _) _) _ _ _ from ?_)
  refine SW.seqRun tok hO (by cbv <;> rfl) (by trivial) ?_
  refine OpsW.callS en22 call (by cbv <;> rfl) fun r st' hk' => ?_
  obtain ⟨rfl, rfl⟩ := hk'
  refine OpsW.run tok hO (by cbv <;> rfl) (by trivial) ?_
  refine SW.seqRunDN tok mixed hO 18 (by kernel_rfl) (by cbv <;> rfl) (by repeat (first | exact trivial | exact hik | exact hik.1 | exact hik.2 | (show (_ : Int) ≠ 0; decide) | refine ⟨?_, ?_⟩)) ?_
  refine AnyE.idxSl tok 18 (n := k) (by kernel_rfl) (by cbv <;> rfl) (by kernel_rfl) hk (by cbv <;> rfl) fun q hq => ?_
  refine AnyE.sto (id := 1) (G := GC) tok (by cbv <;> rfl) (by cbv <;> rfl) (by kernel_rfl) (by rfl) (by rw [hq, ← hGC, flatG_length]; omega) fun G' hG' => ?_
  have hGe : G' = flatG 1 (intC (setI t k v)) f.ns := by
    rw [hG', ← hGC, hq, show 0 + k * 1 = k * 1 + 0 by omega]
    refine flatG_set hk (by omega) ?_ fun i j _ hj hne => ?_
    · show iV (setI t k v k) = iV (O.mn (f.shi (O.nat (Int.ofNat k))) (O.bin .add .i64 (t (O.nat (Int.ofNat k))) (O.bin .rem .i64 (O.conv .i64 b) 5)))
      rw [hnat, hv]
      unfold setI
      rw [if_pos rfl]
    · have : i ≠ k := fun e => hne ⟨e, by omega⟩
      show iV (setI t k v i) = iV (t i)
      unfold setI
      rw [if_neg this]
  have hlX : f.ns * 1 ≤ G'.length := by rw [hGe, flatG_length]; exact Nat.le_refl _
  clear hG' hGC hq
  refine AnyE.done (by kernel_rfl) ?_
  refine SW.freezeZ wtD 3 (by rfl) ?_
  obtain ⟨H, hH⟩ : ∃ H : Hp, H = [(1, .cells none false G'), (0, .cells none false (farmL f))] := ⟨_, rfl⟩
  have hH1 : H.get 1 = some (.cells none false G') := by rw [hH]; rfl
  have hX := frz_slE (D := wtD) (n := f.ns) (sz := 1) (fm := none) (G := G') (h := H) rfl hH1 hlX
  have hcell : ∀ i c, i < f.ns → c < 1 → frz H wtD 2 (G'.getD (0 + i * 1 + c) .any) = intC (setI t k v) i c := fun i c hi hc => by
    rw [hGe]
    exact frz_flat hi hc rfl
  have hCe : Eqv (.isl f.ns 1 false (fun i c => frz H wtD 2 (G'.getD (0 + i * 1 + c) .any))) (intsV f.ns false (setI t k v)) := Eqv.isl rfl fun i c hi hc => Eqv.of (hcell i c hi hc)
  have hCb : Below 0 (.isl f.ns 1 false (fun i c => frz H wtD 2 (G'.getD (0 + i * 1 + c) .any))) := Below.isl fun i c hi hc => by rw [hcell i c hi hc]; exact Below.lit
  show SW _ _ _ _ ⟨⟨225, fun i => frz [(1, .cells none false G'), (0, .cells none false (farmL f))] wtD 3 (_ : AV)⟩, []⟩ ⟨[(0, .cells none false (farmL f))], 2⟩
  rw [← hH]
  refine htail _ hCb hCe _ ⟨rfl, rfl, rfl, rfl, hX, trivial⟩
set_option maxHeartbeats 8000000 in
theorem wt_play (f : FarmD) (b : Int) (t : Nat → Int) (k : Nat) (hU : Nat → Nat → AV) (TV UV : AV) (A B : Nat → Nat → Int) (e21 : Pure Try.prog 21 [farmV f] (farmV f)) (e22 : Pure Try.prog 22 [intsV f.ns false t] TV) (e22u : Pure Try.prog 22 [.isl f.ns 1 false hU] UV) (e20 : Pure Try.prog 20 [farmV f, TV] (.tup [.isl f.nb 3 false (fun i k => iV (A i k)), iV 0])) (e20u : Pure Try.prog 20 [farmV f, UV] (.tup [.isl f.nb 3 false (fun i k => iV (B i k)), iV 0]))
    (htail : ∀ (gg : Nat → AV), AllP (fun p => gg p.1 = p.2) [(3, .lit (.int .u8 b)), (4, .ptr 0 0), (10, iV (Int.ofNat k)), (12, .isl f.nb 3 false (fun i k => iV (A i k))), (14, .isl f.nb 3 false (fun i k => iV (B i k)))] → SW Try.prog none (restC 9 (bodyF Try.f12)) (trueQ3 Try.f12) ⟨⟨225, gg⟩, []⟩ ⟨[(0, .cells none false (farmL f))], 2⟩)
    (gg : Nat → AV) (h : AllP (fun p => gg p.1 = p.2) [(3, .lit (.int .u8 b)), (4, .ptr 0 0), (9, intsV f.ns false t), (10, iV (Int.ofNat k)), (11, .isl f.ns 1 false hU)]) :
    SW Try.prog none (restC 6 (bodyF Try.f12)) (trueQ3 Try.f12) ⟨⟨225, gg⟩, []⟩ ⟨[(0, .cells none false (farmL f))], 2⟩ := by
  obtain ⟨O, hO⟩ : ∃ O : Ar, O = std := ⟨_, rfl⟩
  obtain ⟨g1, g2, g3, g4, g5, _⟩ := h
  simp only at g1 g2 g3 g4 g5
  rw [← updT_self g1, ← updT_self g2, ← updT_self g3, ← updT_self g4, ← updT_self g5]
  refine (show SW Try.prog none (.seq (.region _ _ _) _) _ _ _ from ?_)
  refine SW.seqRun tok hO (by cbv <;> rfl) (by trivial) ?_
  refine OpsW.callP e21 (by cbv <;> rfl) ?_
  refine OpsW.run tok hO (by cbv <;> rfl) (by trivial) ?_
  refine OpsW.callP e22 (by cbv <;> rfl) ?_
  refine OpsW.run tok hO (by cbv <;> rfl) (by trivial) ?_
  refine OpsW.callP e20 (by cbv <;> rfl) ?_
  refine OpsW.run tok hO (by cbv <;> rfl) (by trivial) ?_
  refine SW.seqRun tok hO (by cbv <;> rfl) (by trivial) ?_
  refine OpsW.callP e21 (by cbv <;> rfl) ?_
  refine OpsW.run tok hO (by cbv <;> rfl) (by trivial) ?_
  refine OpsW.callP e22u (by cbv <;> rfl) ?_
  refine OpsW.run tok hO (by cbv <;> rfl) (by trivial) ?_
  refine OpsW.callP e20u (by cbv <;> rfl) ?_
  refine OpsW.run tok hO (by cbv <;> rfl) (by trivial) ?_
  refine SW.seq ?_
  refine SW.seqRun tok hO (by cbv <;> rfl) (by trivial) ?_
  refine OpsW.splitG (by cbv <;> rfl) (fun hw1 => by first | (cases hw1; done) | (subst hO; simp [std] at hw1; done) | (subst hO; simp [std] at hw1; omega)) (fun hw1 => ?_)
  refine OpsW.run tok hO (by cbv <;> rfl) (by trivial) ?_
  refine OpsW.splitG (by cbv <;> rfl) (fun hw2 => by first | (cases hw2; done) | (subst hO; simp [std] at hw2; done) | (subst hO; simp [std] at hw2; omega)) (fun hw2 => ?_)
  refine OpsW.run tok hO (by cbv <;> rfl) (by trivial) ?_
  refine OpsW.splitG (by cbv <;> rfl) (fun hw3 => by first | (cases hw3; done) | (subst hO; simp [std] at hw3; done) | (subst hO; simp [std] at hw3; omega)) (fun hw3 => ?_)
  refine OpsW.run tok hO (by cbv <;> rfl) (by trivial) ?_
  refine SW.condS (by cbv <;> rfl) (fun hw4 => by first | (cases hw4; done) | (subst hO; simp [std] at hw4; done) | (subst hO; simp [std] at hw4; omega)) (fun hw4 => SW.skip ?_)
  exact htail _ ⟨rfl, rfl, rfl, rfl, rfl, trivial⟩
end Go.Fz
