/- Own work of the verifier of watercress: Lb2, Lb4, Lb5, Lb8, FzV5, FzV6, FzV7, FzX1, FzX2, FzZ4, FzX4, FzDe1, FzB1, FzD10, FzD11, FzD12, FzG0. -/
import Derived.ChangeKeysEq
import Derived.Laws.AppendOwn
import Derived.Laws.Cells
import Derived.Laws.CopyRow
import Derived.Laws.Entries
import Derived.Laws.NewFold
import Derived.Laws.Sem
import Derived.Laws.Small
import Derived.Laws.StructEq
import Derived.Laws.Tables
import Derived.Laws.World
import Derived.OrdersHeld
import Derived.OrdersIn
import Derived.RangeFuncLeaves
import Derived.RangeFuncRecord
import Derived.Test.YtpaifaemkoblcaaNa0
import Derived.Test.YtpaifaemkoblcaaNa1
import Derived.Test.YtpaifaemkoblcaaNa2
import Derived.Shelf.Abstract
import Derived.Test.YtpaifaemkoblcaaNa3
import Derived.Test.YtpaifaemkoblcaaProg
import Derived.Test.YtpaifaemkoblcaaNa4
import Derived.Below
import Derived.CallsIn
import Derived.Carry
import Derived.ChangeSame
import Derived.Deep.Slices
import Derived.JoinedCond
import Derived.Laws.Cover3
import Derived.Lib.SmallJoins
import Derived.OpenShut
import Derived.ProofKit
import Derived.WalkKit
import Derived.WideKeyArgs
import Derived.Test.YtpaifaemkoblcaaRows
import Derived.Test.YtpaifaemkoblcaaNa5
import Derived.DeepKeys4
import Derived.Maps.Keyed
import Derived.Maps.RangeRun
import Derived.Test.YtpaifaemkoblcaaNa6
import Derived.Test.YtpaifaemkoblcaaNa7
import Derived.Test.YtpaifaemkoblcaaNa8
import Derived.Test.YtpaifaemkoblcaaNa10
import Derived.Test.YtpaifaemkoblcaaNa12
import Derived.Test.YtpaifaemkoblcaaNa11
import Derived.Test.YtpaifaemkoblcaaNa9
import Derived.Test.YtpaifaemkoblcaaNa13
import Derived.Test.YtpaifaemkoblcaaNa14
import Derived.Test.YtpaifaemkoblcaaNa15
import Derived.Test.YtpaifaemkoblcaaNa16
import Derived.Test.YtpaifaemkoblcaaNa24
import Derived.Test.YtpaifaemkoblcaaNa25
import Derived.Test.YtpaifaemkoblcaaNa26
import Derived.Test.YtpaifaemkoblcaaNa19
import Derived.Test.YtpaifaemkoblcaaNa20
import Derived.Test.YtpaifaemkoblcaaNa21
import Derived.Test.YtpaifaemkoblcaaNa22
import Derived.Test.YtpaifaemkoblcaaNa23
import Derived.Test.YtpaifaemkoblcaaNa17
import Derived.Test.YtpaifaemkoblcaaNa18
import Derived.Test.YtpaifaemkoblcaaNa27
import Derived.Test.YtpaifaemkoblcaaNa32
import Derived.Test.YtpaifaemkoblcaaNa35
import Derived.Test.YtpaifaemkoblcaaNa33
import Derived.Test.YtpaifaemkoblcaaNa34
import Derived.Test.YtpaifaemkoblcaaNa28
import Derived.Test.YtpaifaemkoblcaaNa29
import Derived.Test.YtpaifaemkoblcaaNa30
import Derived.Test.YtpaifaemkoblcaaNa31
import Derived.Test.YtpaifaemkoblcaaNa36
import Derived.Test.YtpaifaemkoblcaaNa37
import Derived.Test.YtpaifaemkoblcaaNa38
import Derived.Test.YtpaifaemkoblcaaNa40
import Derived.Test.YtpaifaemkoblcaaNa39
set_option linter.unusedVariables false
set_option linter.unusedSimpArgs false
set_option linter.unusedVariables false
set_option linter.unusedSimpArgs false
namespace Go.Fz
variable (P : Program) (T : Ti)
variable {P T}
end Go.Fz
namespace Go.Fz
variable {P : Program} {T : Ti}
end Go.Fz
namespace Go.Fz
section
variable {P : Program} {T : Ti} {ops : Array Oper}
end
end Go.Fz
namespace Go.Fz
open Go.Proofs
set_option maxRecDepth 100000
theorem conv_nn {O : Ar} (hO : O = std) {i : Nat} (h : i < 1000000) : 0 ≤ O.conv .u64 (Int.ofNat i) := by
  subst hO
  show 0 ≤ wrp .u64 (Int.ofNat i)
  rw [wrp_in (by simp only [IntKind.lo]; exact Int.natCast_nonneg i) (by simp only [IntKind.hi]; have : (i : Int) ≤ 1000000 := by omega
                                                                         show (i : Int) ≤ _; omega)]
  exact Int.natCast_nonneg i
def pw1 (n : Nat) : Int := std.bin .sub .i64 (std.bin .shl .i64 1 (std.conv .u64 (Int.ofNat n))) 1
theorem bndE_of {f : FarmD} (h : f.check = 0) : (f.trs ≠ [] → f.bndE = 0) ∧ (f.trs = [] → f.bndE = 11) := by
  constructor
  · intro h2
    unfold FarmD.bndE FarmD.opnE
    rw [if_neg (by simp [h]), if_neg (by simp), if_neg h2]
  · intro h2
    unfold FarmD.bndE FarmD.opnE
    rw [if_neg (by simp [h]), if_neg (by simp), if_pos h2]
def FarmD.readyB (f : FarmD) : Bool := f.thinB && decide (f.faultN = 0)
theorem ready_ok (f : FarmD) : Pure Try.prog 52 [farmV f] (.sb f.readyB) := by
  obtain ⟨O, hO⟩ : ∃ O : Ar, O = std := ⟨_, rfl⟩
  refine pure_of_body tok 3 Try.func52 en52 rfl ⟨farmV_below f, trivial⟩ Below.sb ?_
  refine SW.seqRun tok hO (by cbv <;> rfl) (by trivial) ?_
  refine SW.seqRun tok hO (by cbv <;> rfl) (by trivial) ?_
  refine OpsW.callB (thin_ok f) (by cbv <;> rfl) fun b hb => ?_
  refine OpsW.run tok hO (by cbv <;> rfl) (by trivial) ?_
  refine OpsW.splitG (by cbv <;> rfl) (fun h => ?_) (fun h => ?_) <;> refine OpsW.run tok hO (by cbv <;> rfl) (by trivial) ?_
  · have hT : f.thinB = true := hb.symm.trans h
    have hs : f.small := by
      simp only [FarmD.thinB, Bool.and_eq_true, decide_eq_true_eq] at hT
      exact ⟨by omega, by omega, by omega⟩
    refine OpsW.callI (fault_ok f hs) (by cbv <;> rfl) fun e he => ?_
    refine OpsW.run tok hO (by cbv <;> rfl) (by trivial) ?_
    refine SW.ret ⟨_, _, rfl, rfl, Eqv.sb ?_⟩
    subst hO; subst he
    simp [FarmD.readyB, hT, std]
    rfl
  · refine SW.ret ⟨_, _, rfl, rfl, Eqv.bool ?_⟩
    simp [FarmD.readyB, ← hb, h]
theorem Below.sl {n id off len sz : Nat} {ex : Bool} (h : id < n) : Below n (.sl id off len sz ex) := fun φ _ hv => by
  cases hv with
  | sl _ _ _ _ _ cap h1 h2 h3 h4 => exact .sl (φ := ⟨φ.f, n, φ.z⟩) id off len sz ex cap h h2 h3 h4
variable {P : Program} {T : Ti}
end Go.Fz
namespace Go.Fz
section
variable {P : Program} {b : Frame} {a : Act} {k : List Item} {cs : List Frame} {w : World}
end
end Go.Fz
namespace Go.Fz
open Go.Proofs
theorem en11 : Enters Try.prog 11 := fun args w => Go.Proofs.enters_of Try.func11 (by kernel_rfl) rfl args w
theorem en28 : Enters Try.prog 28 := fun args w => Go.Proofs.enters_of Try.func28 (by kernel_rfl) rfl args w
theorem en45 : Enters Try.prog 45 := fun args w => Go.Proofs.enters_of Try.func45 (by kernel_rfl) rfl args w
theorem en55 : Enters Try.prog 55 := fun args w => Go.Proofs.enters_of Try.func55 (by kernel_rfl) rfl args w
theorem en56 : Enters Try.prog 56 := fun args w => Go.Proofs.enters_of Try.func56 (by kernel_rfl) rfl args w
theorem en57 : Enters Try.prog 57 := fun args w => Go.Proofs.enters_of Try.func57 (by kernel_rfl) rfl args w
theorem en58 : Enters Try.prog 58 := fun args w => Go.Proofs.enters_of Try.func58 (by kernel_rfl) rfl args w
theorem en59 : Enters Try.prog 59 := fun args w => Go.Proofs.enters_of Try.func59 (by kernel_rfl) rfl args w
theorem en60 : Enters Try.prog 60 := fun args w => Go.Proofs.enters_of Try.func60 (by kernel_rfl) rfl args w
theorem en65 : Enters Try.prog 65 := fun args w => Go.Proofs.enters_of Try.func65 (by kernel_rfl) rfl args w
theorem en75 : Enters Try.prog 75 := fun args w => Go.Proofs.enters_of Try.func75 (by kernel_rfl) rfl args w
theorem en76 : Enters Try.prog 76 := fun args w => Go.Proofs.enters_of Try.func76 (by kernel_rfl) rfl args w
theorem en84 : Enters Try.prog 84 := fun args w => Go.Proofs.enters_of Try.func84 (by kernel_rfl) rfl args w
theorem en103 : Enters Try.prog 103 := fun args w => Go.Proofs.enters_of Try.func103 (by kernel_rfl) rfl args w
theorem en104 : Enters Try.prog 104 := fun args w => Go.Proofs.enters_of Try.func104 (by kernel_rfl) rfl args w
end Go.Fz
set_option linter.unusedVariables false
set_option linter.unusedSimpArgs false
namespace Go.Fz
variable {P : Program} {T : Ti}
end Go.Fz
namespace Go.Fz
variable {P : Program} {T : Ti}
end Go.Fz
namespace Go.Fz
variable {P : Program} {T : Ti}
theorem AnyE.appNilK (hT : TOk P T) {rd : Option Nat} {ops : Array Oper} {M : List Nat} {K : Fm → St → Prop} {fuel : Nat} {pend pend' : List (Nat × AV)} {listed : Array Bool} {f : Fm} {st : St} {j t id sz : Nat} {ex : Bool} {cs : List AV}
    (hj : onlyD ops M pend listed = some (j, pend')) (ha : appAt ops j f = some (t, .lit (.slice none 0 0), .sl id 0 1 sz ex)) (hx : st.h.get id = some (.cells none false cs)) (hb : sliceB T t sz = true) (hl : cs.length = sz) (hone : cs.all AV.one = true)
    (hk : AllP (fun p => lightV T ops (st.push (.cells none false cs)).h (putAt ops j f (.sl st.n 0 1 sz false)) p.1 = some p.2) pend')
    (h : AnyE P T ops M rd K fuel pend' (listed.setIfInBounds j true) (putAt ops j f (.sl st.n 0 1 sz false)) (st.push (.cells none false cs))) : AnyE P T ops M rd K (fuel + 1) pend listed f st :=
  AnyE.appK hT hj ha (append_nilB hb hx hl hone) hk h
theorem AnyE.appOneK (hT : TOk P T) {rd : Option Nat} {ops : Array Oper} {M : List Nat} {K : Fm → St → Prop} {fuel : Nat} {pend pend' : List (Nat × AV)} {listed : Array Bool} {f : Fm} {st : St} {j t id id0 sz : Nat} {ex : Bool} {cs : List AV} {G : List AV} {g : Nat → Nat → AV} {len : Nat}
    (hj : onlyD ops M pend listed = some (j, pend')) (ha : appAt ops j f = some (t, .sl id0 0 len sz false, .sl id 0 1 sz ex)) (hx : st.h.get id = some (.cells none false cs)) (hs : st.h.get id0 = some (.cells none false G)) (hG : G = flatG sz g len) (hb : sliceB T t sz = true) (hl : cs.length = sz) (hone : cs.all AV.one = true) (hlen : len < 1048576)
    (h : ∀ G', G' = flatG sz g len ++ cs → AllP (fun p => lightV T ops (St.push ⟨truncH id0 (len * sz) id0 st.h, st.n⟩ (.cells (some id0) false G')).h (putAt ops j f (.sl st.n 0 (len + 1) sz false)) p.1 = some p.2) pend' ∧
      AnyE P T ops M rd K fuel pend' (listed.setIfInBounds j true) (putAt ops j f (.sl st.n 0 (len + 1) sz false)) (St.push ⟨truncH id0 (len * sz) id0 st.h, st.n⟩ (.cells (some id0) false G'))) : AnyE P T ops M rd K (fuel + 1) pend listed f st := by
  subst hG
  obtain ⟨h1, h2⟩ := h _ rfl
  exact AnyE.appK hT hj ha (append_oneB hb hx hl hone hs hlen) h1 h2
end Go.Fz
namespace Go.Fz
variable {P : Program} {T : Ti}
def runDN (O : Ar) (T : Ti) (ops : Array Oper) : Nat → Nat → List (Nat × AV) → Array Bool → List Cond → Fm → St → DOut
  | 0, fuel, pend, listed, cs, f, st => .stop cs fuel pend listed f st
  | _ + 1, 0, pend, listed, cs, f, st => .stop cs 0 pend listed f st
  | k + 1, fuel + 1, pend, listed, cs, f, st => match Region.ready .any ops listed with
    | [] => .done cs f st
    | rs => match pickD O T ops pend st.h f rs with
      | some (i, o, c, .sb b) => match isCmp o with
        | true => .stop cs (fuel + 1) pend listed f st
        | false => runDN O T ops k fuel ((i, .sb b) :: pend) (listed.setIfInBounds i true) (c ++ cs) (f.put o.dst (.sb b)) st
      | some (i, o, c, r) => runDN O T ops k fuel ((i, r) :: pend) (listed.setIfInBounds i true) (c ++ cs) (f.put o.dst r) st
      | none => .stop cs (fuel + 1) pend listed f st
theorem runDN_cs {O : Ar} {ops : Array Oper} : ∀ (k fuel : Nat) (pend : List (Nat × AV)) (listed : Array Bool) (cs : List Cond) (f : Fm) (st : St), ∀ c ∈ cs, c ∈ (runDN O T ops k fuel pend listed cs f st).cs
  | 0, _, _, _, _, _, _, c, h => h
  | _ + 1, 0, _, _, _, _, _, c, h => h
  | k + 1, fuel + 1, pend, listed, cs, f, st, c, h => by
    unfold runDN
    split
    · exact h
    · split
      · split
        · exact h
        · exact runDN_cs k fuel _ _ _ _ _ c (List.mem_append_right _ h)
      · exact runDN_cs k fuel _ _ _ _ _ c (List.mem_append_right _ h)
      · exact h
theorem runDN_ok (hT : TOk P T) {O : Ar} (hO : O = std) {rd : Option Nat} {ops : Array Oper} {K : Fm → St → Prop} (hM : tidyB ops (masks ops) = true) : ∀ (k fuel : Nat) (pend : List (Nat × AV)) (listed : Array Bool) (cs : List Cond) (f : Fm) (st : St),
    (∀ c ∈ (runDN O T ops k fuel pend listed cs f st).cs, c.holds) → (runDN O T ops k fuel pend listed cs f st).post P T rd ops K → AnyE P T ops (masks ops) rd K fuel pend listed f st
  | 0, _, _, _, _, _, _, _, h => h
  | _ + 1, 0, _, _, _, _, _, _, h => h
  | k + 1, fuel + 1, pend, listed, cs, f, st, hc, h => by
    unfold runDN at hc h
    split at h
    · rename_i hr
      exact .done (by rw [hr]; rfl) h
    · rename_i hr
      split at h
      · rename_i i o c b hp
        obtain ⟨h1, h2, h3, h4⟩ := pickD_ok hO hp
        simp only [hp] at hc
        split at h
        · exact h
        · rename_i hcmp
          simp only [hcmp] at hc
          have hl := h4 fun x hx => hc x (runDN_cs k fuel _ _ _ _ _ x (List.mem_append_left _ hx))
          refine .take hM hT i h2 ?_ hl (runDN_ok hT hO hM k fuel _ _ _ _ _ hc h)
          rw [h3, Bool.and_true]
          exact List.contains_iff_mem.2 h1
      · rename_i i o c r hnsb hp
        obtain ⟨h1, h2, h3, h4⟩ := pickD_ok hO hp
        simp only [hp] at hc
        have hl := h4 fun x hx => hc x (runDN_cs k fuel _ _ _ _ _ x (List.mem_append_left _ hx))
        refine .take hM hT i h2 ?_ hl (runDN_ok hT hO hM k fuel _ _ _ _ _ hc h)
        rw [h3, Bool.and_true]
        exact List.contains_iff_mem.2 h1
      · exact h
theorem SW.runDN (hT : TOk P T) (hm : P.follows .mixedOrders = true) {O : Ar} (hO : O = std) (k : Nat) {rd : Option Nat} {id : Nat} {ops : Array Oper} {Q : Exit → Fm → St → Prop} {f : Fm} {st : St} {R : DOut} (hM : tidyB ops (masks ops) = true)
    (hR : Fz.runDN O T ops k ops.size [] (Array.replicate ops.size false) [] f st = R) (hc : allC R.cs) (h : R.post P T rd ops (fun f st => Q .normal f st)) : SW P rd (.region id ops true) Q f st := by
  subst hR
  exact SW.drawnE hm hM (runDN_ok hT hO hM _ _ _ _ _ _ _ (allC_ok hc) h)
theorem AnyE.runN (hT : TOk P T) {O : Ar} (hO : O = std) (k : Nat) {rd : Option Nat} {ops : Array Oper} {K : Fm → St → Prop} {fuel : Nat} {pend : List (Nat × AV)} {listed : Array Bool} {f : Fm} {st : St} {R : DOut} (hM : tidyB ops (masks ops) = true)
    (hR : Fz.runDN O T ops k fuel pend listed [] f st = R) (hc : allC R.cs) (h : R.post P T rd ops K) : AnyE P T ops (masks ops) rd K fuel pend listed f st := by
  subst hR
  exact runDN_ok hT hO hM _ _ _ _ _ _ _ (allC_ok hc) h
def idxAt (ops : Array Oper) (i : Nat) (f : Fm) : Option (TypeId × AV × AV) := match ops[i]? with
  | none => none
  | some o => match wantA ops f.ts o with
    | some true => match o.op with
      | .indexAddr t x ix => some (t, Operand.av f.ts x, Operand.av f.ts ix)
      | _ => none
    | _ => none
theorem AnyE.idxSl (hT : TOk P T) {rd : Option Nat} {ops : Array Oper} {K : Fm → St → Prop} {fuel : Nat} {pend : List (Nat × AV)} {listed : Array Bool} {f : Fm} {st : St} (i : Nat) {t id off len sz n : Nat} {ex : Bool} {k : IntKind} (hM : tidyB ops (masks ops) = true)
    (hx : idxAt ops i f = some (t, .sl id off len sz ex, .lit (.int k (Int.ofNat n)))) (hb : sliceB T t sz = true) (hn : n < len)
    (hr : (match ops[i]? with | some o => (Region.ready .any ops listed).contains i && noLookB ops pend o | none => false) = true)
    (h : ∀ q, q = off + n * sz → AnyE P T ops (masks ops) rd K fuel ((i, .ptr id q) :: pend) (listed.setIfInBounds i true) (putAt ops i f (.ptr id q)) st) : AnyE P T ops (masks ops) rd K (fuel + 1) pend listed f st := by
  have h := h _ rfl
  obtain ⟨ti, tj, e, h1, h2, h3, h4, h5, h6, h7, h8⟩ := sliceB_ok hb
  unfold idxAt at hx
  split at hx
  · cases hx
  · rename_i o ho
    split at hx
    · rename_i hw
      split at hx
      · rename_i t' x ix hop
        simp only [Option.some.injEq, Prod.mk.injEq] at hx
        obtain ⟨rfl, k2, k3⟩ := hx
        have hput : ∀ v, putAt ops i f v = f.put o.dst v := fun v => by simp [putAt, ho]
        rw [hput] at h
        simp only [ho] at hr
        refine AnyE.take hM hT i ho hr ?_ h
        simp only [Fz.lightV, ho, hw, evG, evL, hop, k2, k3, h1, h2, h3]
        rw [if_pos ⟨Int.natCast_nonneg n, Int.ofNat_lt.2 hn, h4⟩]
        rfl
      · cases hx
    · cases hx
def stoAt (ops : Array Oper) (i : Nat) (f : Fm) : Option (TypeId × AV × AV) := match ops[i]? with
  | none => none
  | some o => match wantA ops f.ts o with
    | some true => match o.op with
      | .store t p x => some (t, Operand.av f.ts p, Operand.av f.ts x)
      | _ => none
    | _ => none
def sizeB (T : Ti) (t n : Nat) : Bool := match T t with
  | some i => Nat.beq i.size n
  | none => false
theorem AnyE.sto (hT : TOk P T) {rd : Option Nat} {ops : Array Oper} {M : List Nat} {K : Fm → St → Prop} {fuel : Nat} {pend : List (Nat × AV)} {listed : Array Bool} {f : Fm} {st : St} {j t id off : Nat} {v : Int} {k : IntKind} {G : List AV}
    (hj : onlyD ops M pend listed = some (j, [])) (ha : stoAt ops j f = some (t, .ptr id off, .lit (.int k v))) (hb : sizeB T t 1 = true) (hx : st.h.get id = some (.cells none false G)) (hl : off < G.length)
    (h : ∀ G', G' = G.set off (.lit (.int k v)) → AnyE P T ops M rd K fuel [] (listed.setIfInBounds j true) (putAt ops j f undA) ⟨st.h.set id (.cells none false G'), st.n⟩) : AnyE P T ops M rd K (fuel + 1) pend listed f st := fun k1 k2 k3 => by
  have h := h _ rfl
  unfold stoAt at ha
  split at ha
  · cases ha
  · rename_i o ho
    split at ha
    · rename_i hw
      split at ha
      · rename_i t' p x hop
        simp only [Option.some.injEq, Prod.mk.injEq] at ha
        obtain ⟨rfl, e2, e3⟩ := ha
        have hput : ∀ v, putAt ops j f v = f.put o.dst v := fun v => by simp [putAt, ho]
        rw [hput] at h
        have hst : storeO T st (Operand.av f.ts) o = some ⟨st.h.set id (.cells none false (G.set off (.lit (.int k v)))), st.n⟩ := by
          unfold sizeB at hb
          split at hb
          · rename_i ti hti
            have hsz := Nat.eq_of_beq_eq_true hb
            have h1 : (AV.lit (.int k v)).cells = [.lit (.int k v)] := rfl
            have h2 : (AV.lit (.int k v)).one = true := rfl
            have h3 : (AV.lit (.int k v)).norm = .lit (.int k v) := rfl
            simp only [storeO, hop, storeA, e2, e3, ptrOf, hti, hx, h1, hsz, List.length_singleton, List.map_cons, List.map_nil, h3, setsL_one, List.all_cons, h2, List.all_nil]
            rw [if_pos ⟨trivial, by omega, by simp, by omega⟩]
          · cases hb
        unfold onlyD at hj
        split at hj
        · rename_i j' hrd
          split at hj
          · rename_i o1 ho1
            split at hj
            · rename_i hnl
              simp only [Option.some.injEq, Prod.mk.injEq] at hj
              obtain ⟨rfl, hd⟩ := hj
              refine AnyE.one j' ho (by rw [hrd]; exact Nat.beq_refl j') [] hd (OpsW.store hT ho hw hst (.nil ⟨⟨undA, rfl⟩, (show PendOk T ops [] (f.put o.dst undA) _ from fun p hp => absurd hp List.not_mem_nil), h⟩)) k1 k2 k3
            · cases hj
          · cases hj
        · cases hj
      · cases ha
    · cases ha
theorem flatG_set {sz n i k : Nat} {g g' : Nat → Nat → AV} {v : AV} (hi : i < n) (hk : k < sz) (h1 : g' i k = v) (h2 : ∀ a b, a < n → b < sz → ¬ (a = i ∧ b = k) → g' a b = g a b) : (flatG sz g n).set (i * sz + k) v = flatG sz g' n := by
  have hpos : 0 < sz := by omega
  apply List.ext_getElem?
  intro q
  by_cases hq : q < n * sz
  · have hd : q / sz < n := by rw [Nat.div_lt_iff_lt_mul hpos]; exact hq
    have hm : q % sz < sz := Nat.mod_lt _ hpos
    have he : q = q / sz * sz + q % sz := by rw [Nat.mul_comm]; exact (Nat.div_add_mod q sz).symm
    have h3 := flatG_get sz g' n (q / sz) (q % sz) hd hm
    have h4 := flatG_get sz g n (q / sz) (q % sz) hd hm
    rw [← he] at h3 h4
    rw [h3]
    by_cases hs : i * sz + k = q
    · have hi' : q / sz = i := by
        rw [← hs, Nat.mul_comm, Nat.mul_add_div hpos, Nat.div_eq_of_lt hk, Nat.add_zero]
      have hk' : q % sz = k := by
        rw [← hs, Nat.mul_comm, Nat.mul_add_mod, Nat.mod_eq_of_lt hk]
      rw [hi', hk', h1, hs, List.getElem?_set_self (by rw [flatG_length]; exact hq)]
    · rw [List.getElem?_set_ne hs, h4, h2 _ _ hd hm (fun ⟨ha, hb⟩ => hs (by rw [← ha, ← hb]; exact he.symm))]
  · rw [List.getElem?_eq_none (by rw [List.length_set, flatG_length]; omega), List.getElem?_eq_none (by rw [flatG_length]; omega)]
end Go.Fz
namespace Go.Fz
open Go.Proofs
set_option maxRecDepth 100000
end Go.Fz
namespace Go.Fz
open Go.ChangeShapes Go.WideShapes Go.Deep Go.Joins
section
variable {H : Type} {enc : TypeId × Value → H} {P : Program} {w : World} {base : Nat} {spare : Nat → Bool} {held : Bool}
end
end Go.Fz
namespace Go.Proofs.Ytpaifaemkoblcaa
open Go.ChangeShapes Go.WideShapes Go.ChangeAt Go.RowKit Go.Joins
set_option linter.unusedVariables false
set_option maxRecDepth 100000
end Go.Proofs.Ytpaifaemkoblcaa
namespace Go.Fz
open Go.Proofs
set_option maxRecDepth 100000
end Go.Fz
namespace Go.Fz
open Go.Proofs
set_option maxRecDepth 100000
end Go.Fz
namespace Go.Fz
open Go.Proofs
set_option maxRecDepth 100000
end Go.Fz
namespace Go.Fz
open Go.Proofs
set_option maxRecDepth 100000
def quo64 (a b : Int) : Int := wrp .i64 (a.tdiv b)
end Go.Fz
namespace Go.Fz
open Go.Proofs
set_option maxRecDepth 100000
theorem intC_below (fl : Nat → Int) (i k : Nat) : Below 0 (intC fl i k) := Below.lit
end Go.Fz
namespace Go.Fz
open Go.Proofs
set_option maxRecDepth 100000
end Go.Fz
namespace Go.Fz
open Go.Proofs
set_option maxRecDepth 100000
end Go.Fz
namespace Go.Fz
open Go.Proofs
set_option maxRecDepth 100000
end Go.Fz
namespace Go.Fz
open Go.Proofs
set_option maxRecDepth 100000
end Go.Fz
namespace Go.Fz
open Go.Proofs
set_option maxRecDepth 100000
end Go.Fz
namespace Go.Fz
open Go.Proofs
set_option maxRecDepth 100000
end Go.Fz
namespace Go.Fz
open Go.Proofs
set_option maxRecDepth 100000
end Go.Fz
set_option linter.unusedVariables false
set_option linter.unusedSimpArgs false
namespace Go.Fz
open Go.Proofs
set_option maxRecDepth 100000
section
variable {P : Program} {T : Ti}
end
def lsV (p : List Nat) : AV := intsV p.length false fun i => ((p.getD i 0 : Nat) : Int)
theorem lsV_below (p : List Nat) : Below 0 (lsV p) := intsV_below _ _ _
end Go.Fz
namespace Go.Fz
open Go.Proofs
set_option maxRecDepth 100000
section
variable (K : List (List Nat) → Hp → Nat → Prop) (stop : List (List Nat) → List Nat → Hp → Nat → Prop) (ok : List Nat → Prop) (mc y many : Nat) (ex : Bool)
variable {K stop ok mc y many ex}
end
end Go.Fz
namespace Go.Fz
open Go.Proofs
set_option maxRecDepth 100000
section
variable {K : List (List Nat) → Hp → Nat → Prop} {stop : List (List Nat) → List Nat → Hp → Nat → Prop} {ok : List Nat → Prop} {mc y many : Nat}
end
end Go.Fz
namespace Go.Fz
open Go.Proofs
set_option maxRecDepth 100000
section
variable {K : List (List Nat) → Hp → Nat → Prop} {stop : List (List Nat) → List Nat → Hp → Nat → Prop} {ok : List Nat → Prop} {mc y many : Nat}
end
end Go.Fz
namespace Go.Fz
open Go.Proofs
set_option maxRecDepth 100000
section
variable (d : DayD) (XO : AV) (hX : Below 0 XO) (E : List (Mk × Nat)) (cl : Nat) (hb : Born E cl)
end
end Go.Fz
namespace Go.Fz
open Go.Proofs
set_option maxRecDepth 100000
section
variable (d : DayD) (XO : AV) (E : List (Mk × Nat)) (cl : Nat)
end
end Go.Fz
namespace Go.Fz
open Go.Proofs
set_option maxRecDepth 100000
section
variable (d : DayD) (L : Nat) (G : Nat → Nat → AV) (ME : List (AV × AV × Nat)) (cl : Nat)
end
end Go.Fz
namespace Go.Fz
open Go.Proofs
set_option maxRecDepth 100000
section
variable (d : DayD) (L : Nat) (G : Nat → Nat → AV) (ME : List (AV × AV × Nat)) (cl : Nat) (Q : List Nat → Bool)
variable {d L G ME cl}
end
end Go.Fz
namespace Go.Fz
open Go.Proofs
set_option maxRecDepth 100000
end Go.Fz
namespace Go.Fz
open Go.Proofs
set_option maxRecDepth 100000
set_option linter.unusedVariables false
end Go.Fz
namespace Go.Fz
open Go.Proofs
set_option maxRecDepth 100000
set_option linter.unusedVariables false
end Go.Fz
namespace Go.Fz
open Go.Proofs
set_option maxRecDepth 100000
end Go.Fz
namespace Go.Fz
open Go.Proofs
set_option maxRecDepth 100000
section
variable (nw nl : Nat) (f0 f1 f2 f3 : Nat → Int) (z4 z5 z6 z7 : Int)
end
end Go.Fz
namespace Go.Fz
open Go.Proofs
set_option maxRecDepth 100000
section
end
end Go.Fz
namespace Go.Fz
open Go.Proofs
set_option maxRecDepth 100000
def mnN (lo hi : Nat → Int) : Nat → Int
  | 0 => 1
  | i + 1 => minI 3000 (mul64 (mnN lo hi i) (size64 (lo i) (hi i)))
end Go.Fz
namespace Go.Fz
open Go.Proofs
set_option maxRecDepth 100000
end Go.Fz
namespace Go.Fz
open Go.Proofs
set_option maxRecDepth 100000
end Go.Fz
namespace Go.Fz
open Go.Proofs
set_option maxRecDepth 100000
def selL (bits : Int) : Nat → List Nat
  | 0 => []
  | i + 1 => if bitB bits i then selL bits i ++ [i] else selL bits i
theorem selL_len (bits : Int) : ∀ i, (selL bits i).length ≤ i
  | 0 => Nat.le_refl _
  | i + 1 => by
    have := selL_len bits i
    show (if bitB bits i then selL bits i ++ [i] else selL bits i).length ≤ i + 1
    split
    · rw [List.length_append, List.length_singleton]; omega
    · omega
end Go.Fz
namespace Go.Fz
open Go.Proofs
set_option maxRecDepth 100000
end Go.Fz
namespace Go.Fz
open Go.Proofs
set_option maxRecDepth 100000
end Go.Fz
namespace Go.Fz
open Go.Proofs
set_option maxRecDepth 100000
end Go.Fz
namespace Go.Fz
open Go.Proofs
set_option maxRecDepth 100000
end Go.Fz
namespace Go.Fz
open Go.Proofs
set_option maxRecDepth 100000
end Go.Fz
namespace Go.Fz
variable {P : Program}
end Go.Fz
namespace Go.Fz
open Go.Proofs
set_option maxRecDepth 100000
section
variable {P : Program} {T : Ti}
end
end Go.Fz
namespace Go.Fz
open Go.Proofs
set_option maxRecDepth 100000
end Go.Fz
namespace Go.Fz
open Go.Proofs
set_option maxRecDepth 100000
set_option linter.unusedVariables false
end Go.Fz
namespace Go.Fz
open Go.Proofs
set_option maxRecDepth 100000
set_option linter.unusedVariables false
end Go.Fz
namespace Go.Fz
open Go.Proofs
set_option maxRecDepth 100000
set_option linter.unusedVariables false
end Go.Fz
namespace Go.Fz
open Go.Proofs
set_option maxRecDepth 100000
set_option linter.unusedVariables false
end Go.Fz
namespace Go.Fz
open Go.Proofs
set_option maxRecDepth 100000
end Go.Fz
namespace Go.Fz
open Go.Proofs
set_option maxRecDepth 100000
def befF (fa fb : Nat → Int) (na nb : Nat) : Nat → Nat → Bool
  | _, 0 => decide ((na : Int) < nb)
  | i, k + 1 => if i < na ∧ i < nb then (if fa i = fb i then befF fa fb na nb (i + 1) k else decide (fa i < fb i)) else decide ((na : Int) < nb)
set_option pp.deepTerms false
set_option pp.deepTerms.threshold 5
def shortB (na nb : Nat) (fa fb : Nat → Int) : Bool := decide ((na : Int) < nb) || (decide ((na : Int) = nb) && befF fa fb na nb 0 (na + 1))
end Go.Fz
namespace Go.Fz
open Go.Proofs
set_option maxRecDepth 100000
def lI (l : List Nat) (i : Nat) : Int := ((l.getD i 0 : Nat) : Int)
theorem lI_snoc (l : List Nat) (i : Nat) : flatG 1 (intC (lI l)) l.length ++ [iV (i : Int)] = flatG 1 (intC (lI (l ++ [i]))) (l.length + 1) := by
  have h1 : flatG 1 (intC (lI (l ++ [i]))) l.length = flatG 1 (intC (lI l)) l.length := flatG_congr fun j k hj => by
    show iV (lI (l ++ [i]) j) = iV (lI l j)
    unfold lI
    rw [List.getD_eq_getElem?_getD, List.getElem?_append_left hj, ← List.getD_eq_getElem?_getD]
  have h2 : lI (l ++ [i]) l.length = (i : Int) := by unfold lI; simp
  show _ = flatG 1 (intC (lI (l ++ [i]))) l.length ++ [iV (lI (l ++ [i]) l.length)]
  rw [h1, h2]
end Go.Fz
namespace Go.Fz
open Go.Proofs
set_option maxRecDepth 100000
def mskL (l : List Nat) : Int := l.foldl (fun (m : Int) (x : Nat) => std.bin .or .i64 m (std.bin .shl .i64 1 (std.conv .u64 (x : Int)))) 0
def shL (a b : List Nat) : Bool := shortB a.length b.length (lI a) (lI b)
end Go.Fz
namespace Go.Fz
open Go.Proofs
set_option maxRecDepth 100000
theorem find_split {α : Type} {p : α → Bool} : ∀ {l : List α} {a : α}, l.find? p = some a → ∃ pre post, l = pre ++ a :: post ∧ (∀ b ∈ pre, p b = false) ∧ p a = true
  | [], _, h => by cases h
  | x :: l, a, h => by
    rw [List.find?_cons] at h
    split at h
    · rename_i hx
      cases h
      exact ⟨[], l, rfl, (fun b hb => by cases hb), hx⟩
    · rename_i hx
      obtain ⟨pre, post, h1, h2, h3⟩ := find_split h
      refine ⟨x :: pre, post, by rw [h1]; rfl, fun b hb => ?_, h3⟩
      rcases List.mem_cons.1 hb with rfl | hb
      · simpa using hx
      · exact h2 b hb
theorem find_in {many : Nat} {p : List Nat → Bool} {l : List Nat} (h : (risL many).find? p = some l) : l ∈ risL many ∧ p l = true := by
  obtain ⟨pre, post, h1, _, h3⟩ := find_split h
  exact ⟨by rw [h1]; simp, h3⟩
section
variable (d : DayD) (k w lo hi : Int)
end
end Go.Fz
namespace Go.Fz
open Go.Proofs
set_option maxRecDepth 100000
theorem append_emptyG {T : Ti} {t id sz n : Nat} {ex : Bool} {g : Nat → Nat → AV} {st : St} {G : List AV} (h : sliceB T t sz = true) (hx : st.h.get id = some (.cells none false [])) (hn : n < 1048576) (h0 : 0 < n) (hone : ∀ i k, (g i k).one = true) (hG : G = flatG sz g n) :
    appendA T st t t (.sl id 0 0 sz true) (.isl n sz ex g) = some (.sl st.n 0 n sz false, st.push (.cells none false G)) := by
  subst hG
  exact append_empty h hx hn h0 hone
section
variable {T : Ti}
end
end Go.Fz
namespace Go.Fz
open Go.Proofs
set_option maxRecDepth 100000
section
variable {P : Program} {T : Ti}
def scalB (T : Ti) (t : TypeId) : Bool := match T t with
  | some i => !(aggD i.desc)
  | none => false
theorem load_at {t : TypeId} {h : Hp} {id off : Nat} {fm : Option Nat} {ro : Bool} {cs : List AV} {v : AV} (hs : scalB T t = true) (hg : h.get id = some (.cells fm ro cs)) (hc : cs[off]? = some v) : loadA T h t (.ptr id off) = some v := by
  unfold scalB at hs
  split at hs
  · rename_i i hi
    simp only [loadA, ptrOf, cellsAt, hg, partA, hi]
    rw [if_neg (by simpa using hs)]
    exact hc
  · cases hs
def rdyB (ops : Array Oper) (pend : List (Nat × AV)) (listed : Array Bool) (i : Nat) : Bool := match ops[i]? with
  | some o => (Region.ready .any ops listed).contains i && noLookB ops pend o
  | none => false
theorem AnyE.ldD (hT : TOk P T) {rd : Option Nat} {ops : Array Oper} {M : List Nat} {K : Fm → St → Prop} {fuel : Nat} {pend : List (Nat × AV)} {listed : Array Bool} {f : Fm} {st : St} (hM : tidyB ops M = true) (i : Nat) {t : TypeId} {p r : AV}
    (hx : ldAt ops i f = some (t, p)) (hr : loadA T st.h t p = some r) (hb : rdyB ops pend listed i = true)
    (h : AnyE P T ops M rd K fuel ((i, r) :: pend) (listed.setIfInBounds i true) (putAt ops i f r) st) : AnyE P T ops M rd K (fuel + 1) pend listed f st := by
  unfold rdyB at hb
  unfold ldAt at hx
  split at hx
  · cases hx
  · rename_i o ho
    split at hx
    · rename_i hw
      split at hx
      · rename_i t' p' hop
        simp only [Option.some.injEq, Prod.mk.injEq] at hx
        obtain ⟨rfl, rfl⟩ := hx
        have hput : ∀ v, putAt ops i f v = f.put o.dst v := fun v => by simp [putAt, ho]
        rw [hput] at h
        simp only [ho] at hb
        refine AnyE.take hM hT i ho hb ?_ h
        simp only [Fz.lightV, ho, hw, evG, evL, hop, hr]
      · cases hx
    · cases hx
end
end Go.Fz
namespace Go.Fz
open Go.Proofs
set_option maxRecDepth 100000
end Go.Fz
namespace Go.Fz
open Go.Proofs
set_option maxRecDepth 100000
set_option linter.unusedVariables false
def bitsN (b : Nat → Bool) : Nat → Int
  | 0 => 0
  | i + 1 => if b i then std.bin .or .i64 (bitsN b i) (std.bin .shl .i64 1 (std.conv .u64 (Int.ofNat i))) else bitsN b i
end Go.Fz
namespace Go.Fz
open Go.Proofs
set_option maxRecDepth 100000
set_option linter.unusedVariables false
end Go.Fz
namespace Go.Fz
open Go.Proofs
set_option maxRecDepth 100000
set_option linter.unusedVariables false
end Go.Fz
namespace Go.Fz
open Go.Proofs
set_option maxRecDepth 100000
end Go.Fz
namespace Go.Fz
open Go.Proofs
set_option maxRecDepth 100000
set_option linter.unusedVariables false
section
variable {P : Program}
end
end Go.Fz
namespace Go.Fz
open Go.Proofs
set_option maxRecDepth 100000
set_option linter.unusedVariables false
end Go.Fz
namespace Go.Fz
open Go.Proofs
set_option maxRecDepth 100000
set_option linter.unusedVariables false
end Go.Fz
namespace Go.Fz
open Go.Proofs
set_option maxRecDepth 100000
set_option linter.unusedVariables false
end Go.Fz
namespace Go.Fz
open Go.Proofs
set_option maxRecDepth 100000
set_option maxHeartbeats 4000000 in
theorem water_ok (f : FarmD) (hs : f.small) (n : Nat) (ex : Bool) (fl : Nat → Int) (hn : n < 1000) (hns : f.ns ≤ n) (bed : Nat) : bed < f.nb → Pure Try.prog 76 [farmV f, intsV n ex fl, iV bed] (iV (f.waN fl bed)) := by
  induction bed using Nat.strongRecOn with
  | _ bed ih =>
  intro hbed
  obtain ⟨O, hO⟩ : ∃ O : Ar, O = std := ⟨_, rfl⟩
  have hnb := hs.1
  refine pure_of_body tok 3 Try.func76 en76 rfl ⟨farmV_below f, intsV_below n ex fl, iV_below, trivial⟩ Below.lit ?_
  refine SW.seqRun tok hO (by cbv <;> rfl) (by trivial) ?_
  refine SW.seqRun tok hO (by cbv <;> rfl) (by trivial) ?_
  refine SW.seq ?_
  refine SW.seqRun tok hO (by cbv <;> rfl) (by trivial) ?_
  refine (SW.block (SW.loopF (fun i : Nat => ⟨⟨59, getT [(1, intsV n ex fl), (2, iV bed), (3, .ptr 0 0), (6, iV 0), (7, iV (f.inS fl bed i)), (8, iV i)]⟩, []⟩) (fun _ => ⟨[(0, .cells none false [springsV f, bedsV f, looksV f])], 1⟩) (fun i => f.ns - i) (fun i => i ≤ f.ns) 0
    (fun _ => rfl) (Nat.zero_le _) (Weak.by rfl rfl (by simp) (Nat.le_refl _) (Nat.le_refl _) ⟨⟨rfl, .inl rfl⟩, ⟨rfl, .inl rfl⟩, ⟨rfl, .inl rfl⟩, ⟨rfl, .inl rfl⟩, ⟨rfl, .inl rfl⟩, ⟨rfl, .inl rfl⟩, trivial⟩ ⟨⟨rfl, by omega, .inl rfl⟩, trivial⟩) fun i hi => ?_))
  generalize hB : f.inS fl bed i = B
  refine SW.seq ?_
  refine SW.seqRun tok hO (by cbv <;> rfl) (by trivial) ?_
  refine SW.condS (by cbv <;> rfl) (fun h => SW.skip ?_) (fun h => SW.exit ?_)
  · have hlt : i < f.ns := by subst hO; simpa [std] using h
    have h0 : (0 : Int) ≤ Int.ofNat i := Int.natCast_nonneg i
    refine SW.seq (SW.block ?_)
    refine SW.seqRun tok hO (by cbv <;> rfl) ?_ ?_
    · exact ⟨h0, Int.ofNat_lt.2 hlt⟩
    refine SW.condS (by cbv <;> rfl) (fun h' => ?_) (fun h' => SW.skip ?_)
    · refine SW.run tok hO (by cbv <;> rfl) ?_ ?_
      · exact ⟨h0, Int.ofNat_lt.2 (by omega)⟩
      refine SW.run tok hO (by cbv <;> rfl) (by trivial) ?_
      refine ⟨i + 1, by omega, by omega, Weak.by rfl rfl (by simp) (Nat.le_refl _) (Nat.le_refl _) ⟨⟨rfl, .inl rfl⟩, ⟨rfl, .inl rfl⟩, ⟨rfl, .inl rfl⟩, ⟨rfl, .inl rfl⟩, ⟨?_, .inl rfl⟩, ⟨inc_ok hO (by omega), .inl rfl⟩, trivial⟩ ⟨⟨rfl, by omega, .inl rfl⟩, trivial⟩⟩
      have hm : f.sb i = (bed : Int) := by subst hO; simpa [std] using h'
      have e : f.inS fl bed (i + 1) = add64 B (fl i) := by simp only [FarmD.inS, hm, if_true, hB]
      rw [e]; subst hO; rfl
    · refine SW.run tok hO (by cbv <;> rfl) (by trivial) ?_
      refine ⟨i + 1, by omega, by omega, Weak.by rfl rfl (by simp) (Nat.le_refl _) (Nat.le_refl _) ⟨⟨rfl, .inl rfl⟩, ⟨rfl, .inl rfl⟩, ⟨rfl, .inl rfl⟩, ⟨rfl, .inl rfl⟩, ⟨?_, .inl rfl⟩, ⟨inc_ok hO (by omega), .inl rfl⟩, trivial⟩ ⟨⟨rfl, by omega, .inl rfl⟩, trivial⟩⟩
      have hm : ¬ f.sb i = (bed : Int) := by subst hO; simpa [std] using h'
      have e : f.inS fl bed (i + 1) = B := by simp only [FarmD.inS, hm, if_false, hB]
      rw [e]; rfl
  have hin : i = f.ns := by
    have : f.ns ≤ i := by subst hO; simpa [std] using h
    omega
  refine SW.seq ?_
  refine SW.seqRun tok hO (by cbv <;> rfl) (by trivial) ?_
  refine (SW.block (SW.loopF (fun i : Nat => ⟨⟨59, getT [(1, intsV n ex fl), (2, iV bed), (3, .ptr 0 0), (6, iV 0), (7, iV (f.inB fl (f.waN fl) bed i)), (9, iV i)]⟩, []⟩) (fun _ => ⟨[(0, .cells none false [springsV f, bedsV f, looksV f])], 1⟩) (fun i => bed - i) (fun i => i ≤ bed) 0
    (fun _ => rfl) (Nat.zero_le _) (Weak.by rfl rfl (by simp) (Nat.le_refl _) (Nat.le_refl _) ⟨⟨rfl, .inl rfl⟩, ⟨rfl, .inl rfl⟩, ⟨rfl, .inl rfl⟩, ⟨rfl, .inl rfl⟩, ⟨?_, .inl rfl⟩, ⟨rfl, .inl rfl⟩, trivial⟩ ⟨⟨rfl, by omega, .inl rfl⟩, trivial⟩) fun i hi => ?_))
  · rw [← hB, hin]; rfl
  clear hB h hin
  generalize hB : f.inB fl (f.waN fl) bed i = B
  refine SW.seq ?_
  refine SW.seqRun tok hO (by cbv <;> rfl) (by trivial) ?_
  refine SW.condS (by cbv <;> rfl) (fun h => SW.skip ?_) (fun h => SW.exit ?_)
  · have hlt : i < bed := by subst hO; simpa [std] using h
    have h0 : (0 : Int) ≤ Int.ofNat i := Int.natCast_nonneg i
    have hnat : O.nat (Int.ofNat i) = i := by subst hO; rfl
    have call := ih i hlt (by omega)
    generalize hW : f.waN fl i = W at call
    refine SW.seq (SW.block ?_)
    refine SW.seqRun tok hO (by cbv <;> rfl) ?_ ?_
    · exact ⟨h0, Int.ofNat_lt.2 (show i < f.nb by omega)⟩
    refine SW.condS (by cbv <;> rfl) (fun h' => ?_) (fun h' => SW.skip ?_)
    · refine SW.runD tok mixed hO (by rfl) (by cbv <;> rfl) ?_ ?_
      · exact ⟨h0, Int.ofNat_lt.2 (show i < f.nb by omega)⟩
      refine AnyE.callI call (by cbv <;> rfl) (by cbv <;> rfl) fun v hv => ?_
      refine AnyE.run tok hO (by rfl) (by cbv <;> rfl) (by trivial) ?_
      refine AnyE.eff tok hO (by cbv <;> rfl) (by cbv <;> rfl) (by trivial) ?_
      refine AnyE.done (by rfl) ?_
      refine SW.run tok hO (by cbv <;> rfl) (by trivial) ?_
      refine ⟨i + 1, by omega, by omega, Weak.by rfl rfl (by simp) (Nat.le_refl _) (Nat.le_refl _) ⟨⟨rfl, .inl rfl⟩, ⟨rfl, .inl rfl⟩, ⟨rfl, .inl rfl⟩, ⟨rfl, .inl rfl⟩, ⟨?_, .inl rfl⟩, ⟨inc_ok hO (by omega), .inl rfl⟩, trivial⟩ ⟨⟨rfl, by omega, .inl rfl⟩, trivial⟩⟩
      have hm : f.down i = (bed : Int) := by subst hO; simpa [std] using h'
      have e : f.inB fl (f.waN fl) bed (i + 1) = add64 B (maxI 0 (sub64 W (f.notch i))) := by simp only [FarmD.inB, hm, if_true, hB, hW]
      rw [e]; subst hO; subst hv; rfl
    · refine SW.run tok hO (by cbv <;> rfl) (by trivial) ?_
      refine ⟨i + 1, by omega, by omega, Weak.by rfl rfl (by simp) (Nat.le_refl _) (Nat.le_refl _) ⟨⟨rfl, .inl rfl⟩, ⟨rfl, .inl rfl⟩, ⟨rfl, .inl rfl⟩, ⟨rfl, .inl rfl⟩, ⟨?_, .inl rfl⟩, ⟨inc_ok hO (by omega), .inl rfl⟩, trivial⟩ ⟨⟨rfl, by omega, .inl rfl⟩, trivial⟩⟩
      have hm : ¬ f.down i = (bed : Int) := by subst hO; simpa [std] using h'
      have e : f.inB fl (f.waN fl) bed (i + 1) = B := by simp only [FarmD.inB, hm, if_false, hB]
      rw [e]; rfl
  · refine SW.seqRun tok hO (by cbv <;> rfl) (by trivial) ?_
    have hge : bed ≤ i := by subst hO; simpa [std] using h
    have hib : i = bed := by omega
    refine SW.ret ⟨_, _, rfl, rfl, Eqv.int ?_⟩
    rw [← hB, hib]; exact (f.waN_eq fl bed).symm
end Go.Fz
namespace Go.Fz
open Go.Proofs
set_option maxRecDepth 100000
def atV (w d : Int) : AV := .agg [iV w, iV d, iV (sub64 w d)]
set_option maxHeartbeats 4000000 in
theorem at_ok (f : FarmD) (hs : f.small) (n : Nat) (ex : Bool) (fl : Nat → Int) (hn : n < 1000) (hns : f.ns ≤ n) (bed : Nat) (hb : bed < f.nb) :
    Pure Try.prog 28 [farmV f, intsV n ex fl, iV bed] (atV (f.waN fl bed) (minI (f.waN fl bed) (f.notch bed))) := by
  obtain ⟨O, hO⟩ : ∃ O : Ar, O = std := ⟨_, rfl⟩
  have call := water_ok f hs n ex fl hn hns bed hb
  generalize f.waN fl bed = w at call ⊢
  have h0 : (0 : Int) ≤ Int.ofNat bed := Int.natCast_nonneg bed
  refine pure_of_body tok 3 Try.func28 en28 rfl ⟨farmV_below f, intsV_below n ex fl, iV_below, trivial⟩ (Below.agg (AllB.ok ⟨Below.lit, Below.lit, Below.lit, trivial⟩)) ?_
  refine SW.seqRun tok hO (by cbv <;> rfl) (by trivial) ?_
  refine SW.seqRun tok hO (by cbv <;> rfl) (by trivial) ?_
  refine OpsW.callI call (by cbv <;> rfl) fun v hv => ?_
  refine OpsW.run tok hO (by cbv <;> rfl) (by trivial) ?_
  refine SW.seqRun tok hO (by cbv <;> rfl) ?_ ?_
  · exact ⟨h0, Int.ofNat_lt.2 hb⟩
  refine SW.seqRun tok hO (by cbv <;> rfl) (by trivial) ?_
  refine SW.ret ⟨_, _, rfl, rfl, Eqv.of ?_⟩
  subst hO; subst hv; rfl
end Go.Fz
namespace Go.Fz
open Go.Proofs
set_option maxRecDepth 100000
def FarmD.rightN (f : FarmD) (fl : Nat → Int) (i : Nat) : Bool :=
  if f.lov i then Go.Fz.inB (sub64 (f.waN fl (f.lb i).toNat) (f.downN fl (f.lb i).toNat)) (f.llo i) (f.lhi i) else Go.Fz.inB (f.downN fl (f.lb i).toNat) (f.llo i) (f.lhi i)
set_option maxHeartbeats 4000000 in
theorem rightN_ok (f : FarmD) (hs : f.small) (n : Nat) (ex : Bool) (fl : Nat → Int) (hn : n < 1000) (hns : f.ns ≤ n) (i : Nat) (h0 : 0 ≤ f.lb i) (h1 : f.lb i < f.nb) :
    Pure Try.prog 75 [farmV f, intsV n ex fl, lookV f i] (.sb (f.rightN fl i)) := by
  obtain ⟨O, hO⟩ : ∃ O : Ar, O = std := ⟨_, rfl⟩
  have call := at_ok f hs n ex fl hn hns (f.lb i).toNat (by omega)
  rw [show (((f.lb i).toNat : Nat) : Int) = f.lb i by omega] at call
  have hr : f.rightN fl i = if f.lov i then inB (sub64 (f.waN fl (f.lb i).toNat) (f.downN fl (f.lb i).toNat)) (f.llo i) (f.lhi i) else inB (f.downN fl (f.lb i).toNat) (f.llo i) (f.lhi i) := rfl
  rw [show minI (f.waN fl (f.lb i).toNat) (f.notch (f.lb i).toNat) = f.downN fl (f.lb i).toNat from rfl] at call
  generalize f.waN fl (f.lb i).toNat = w at call hr
  generalize f.downN fl (f.lb i).toNat = d at call hr
  unfold atV at call
  generalize sub64 w d = u at call hr
  rw [hr]
  refine pure_of_body tok 3 Try.func75 en75 rfl ⟨farmV_below f, intsV_below n ex fl, Below.agg (AllB.ok ⟨Below.lit, Below.sb, Below.lit, Below.lit, trivial⟩), trivial⟩ Below.sb ?_
  refine SW.seqRun tok hO (by cbv <;> rfl) (by trivial) ?_
  refine SW.seqRun tok hO (by cbv <;> rfl) (by trivial) ?_
  refine OpsW.callP call (by cbv <;> rfl) ?_
  refine OpsW.run tok hO (by cbv <;> rfl) (by trivial) ?_
  refine SW.seq ?_
  refine SW.seqRun tok hO (by cbv <;> rfl) (by trivial) ?_
  refine SW.condS (by cbv <;> rfl) (fun h => ?_) (fun h => SW.skip ?_)
  · refine SW.seqRun tok hO (by cbv <;> rfl) (by trivial) ?_
    refine OpsW.callB (in_ok u (f.llo i) (f.lhi i)) (by cbv <;> rfl) fun b hb => ?_
    refine OpsW.run tok hO (by cbv <;> rfl) (by trivial) ?_
    refine SW.ret ⟨_, _, rfl, rfl, Eqv.sb ?_⟩
    rw [if_pos h]; exact hb
  · refine SW.seqRun tok hO (by cbv <;> rfl) (by trivial) ?_
    refine OpsW.callB (in_ok d (f.llo i) (f.lhi i)) (by cbv <;> rfl) fun b hb => ?_
    refine OpsW.run tok hO (by cbv <;> rfl) (by trivial) ?_
    refine SW.ret ⟨_, _, rfl, rfl, Eqv.sb ?_⟩
    rw [if_neg (by rw [show f.lov i = false from h]; simp)]; exact hb
end Go.Fz
namespace Go.Fz
theorem FarmD.right_eq (f : FarmD) (g : f.Good) (fl : Nat → Int) (hfl : ∀ s, s < f.ns → 0 ≤ fl s ∧ fl s ≤ 30) (i : Nat) (hi : i < f.nl) : f.rightB (f.water fl) i = f.rightN fl i := by
  obtain ⟨h0, h1⟩ := (g.look i hi).1
  obtain ⟨_, h2, h3⟩ := f.water_eq g fl hfl (f.lb i).toNat (by omega)
  unfold FarmD.rightB FarmD.rightN Go.Fz.inB
  rw [h2, h3]
def FarmD.abT (f : FarmD) (below : Nat) : Nat → Int → Bool
  | 0, _ => false
  | k + 1, n => if n < 0 then false else if n = (below : Int) then true else f.abT below k (f.down n.toNat)
def FarmD.aboveN (f : FarmD) (b below : Nat) : Bool := f.abT below f.nb (f.down b)
def FarmD.topN (f : FarmD) (bed j : Nat) : Bool := decide (j = bed) || f.aboveN j bed
theorem FarmD.abT_neg (f : FarmD) (below : Nat) (n : Int) (h : n < 0) : ∀ k, f.abT below k n = false
  | 0 => rfl
  | k + 1 => by unfold FarmD.abT; rw [if_pos h]
theorem FarmD.abT_past (f : FarmD) (g : f.Good) (below : Nat) : ∀ (k : Nat) (n : Int), n < f.nb → (below : Int) < n → f.abT below k n = false
  | 0, _, _, _ => rfl
  | k + 1, n, h1, h2 => by
    unfold FarmD.abT
    rw [if_neg (by omega), if_neg (by omega)]
    rcases (g.bed n.toNat (by omega)).2.2 with h | ⟨h3, h4⟩
    · rw [h]; exact f.abT_neg below _ (by omega) k
    · exact f.abT_past g below k _ h4 (by omega)
theorem FarmD.abT_fuel (f : FarmD) (g : f.Good) (below : Nat) : ∀ (k k' : Nat) (n : Int), -1 ≤ n → n < f.nb → (f.nb : Int) ≤ n + k → (f.nb : Int) ≤ n + k' → f.abT below k n = f.abT below k' n
  | 0, _, n, h0, h1, h2, _ => by omega
  | _ + 1, 0, n, h0, h1, _, h3 => by omega
  | k + 1, k' + 1, n, h0, h1, h2, h3 => by
    unfold FarmD.abT
    by_cases hn : n < 0
    · rw [if_pos hn, if_pos hn]
    · rw [if_neg hn, if_neg hn]
      by_cases hb : n = (below : Int)
      · rw [if_pos hb, if_pos hb]
      · rw [if_neg hb, if_neg hb]
        rcases (g.bed n.toNat (by omega)).2.2 with h | ⟨h4, h5⟩
        · rw [h, f.abT_neg below _ (by omega) k, f.abT_neg below _ (by omega) k']
        · exact f.abT_fuel g below k k' _ (by omega) h5 (by omega) (by omega)
theorem FarmD.mkN_eq (f : FarmD) (g : f.Good) (bed : Nat) (hb : bed < f.nb) : ∀ (k : Nat), k ≤ bed → ∀ j, j < f.nb → bed - k ≤ j → f.mkN bed k j = f.topN bed j
  | 0, _, j, hj, hk => by
    show decide (bed = j) = (decide (j = bed) || _)
    have : f.aboveN j bed = false := by
      unfold FarmD.aboveN
      rcases (g.bed j hj).2.2 with h | ⟨h1, h2⟩
      · rw [h]; exact f.abT_neg bed _ (by omega) _
      · exact f.abT_past g bed _ _ h2 (by omega)
    rw [this, Bool.or_false]
    exact decide_eq_decide.2 ⟨fun h => h.symm, fun h => h.symm⟩
  | k + 1, hk, j, hj, hkj => by
    show (if bed - 1 - k = j then _ else _) = _
    by_cases he : bed - 1 - k = j
    · rw [if_pos he]
      have hjb : ¬ j = bed := by omega
      unfold FarmD.topN
      rw [decide_eq_false hjb, Bool.false_or]
      unfold FarmD.aboveN
      rcases (g.bed j hj).2.2 with h | ⟨h1, h2⟩
      · rw [h, f.abT_neg bed _ (by omega)]; rfl
      · rw [decide_eq_true (show 0 ≤ f.down j by omega), Bool.true_and, f.mkN_eq g bed hb k (by omega) _ (by omega) (by omega)]
        unfold FarmD.topN FarmD.aboveN
        generalize hd : f.down j = d at *
        obtain ⟨m, hm⟩ : ∃ m, f.nb = m + 1 := ⟨f.nb - 1, by have := g.pos; omega⟩
        have e1 : f.abT bed f.nb d = if d < 0 then false else if d = (bed : Int) then true else f.abT bed m (f.down d.toNat) := by rw [hm]; rfl
        rw [e1, if_neg (by omega)]
        by_cases hdb : d = (bed : Int)
        · rw [if_pos hdb, decide_eq_true (show d.toNat = bed by omega)]; rfl
        · rw [if_neg hdb, decide_eq_false (show ¬ d.toNat = bed by omega), Bool.false_or]
          rcases (g.bed d.toNat (by omega)).2.2 with h | ⟨h3, h4⟩
          · rw [h, f.abT_neg bed _ (by omega), f.abT_neg bed _ (by omega)]
          · exact f.abT_fuel g bed _ _ _ (by omega) h4 (by omega) (by omega)
    · rw [if_neg he]
      exact f.mkN_eq g bed hb k (by omega) j hj (by omega)
theorem FarmD.marks_eq (f : FarmD) (g : f.Good) (bed : Nat) (hb : bed < f.nb) (j : Nat) (hj : j < f.nb) : f.marks bed j = f.topN bed j :=
  f.mkN_eq g bed hb bed (Nat.le_refl _) j hj (by omega)
def FarmD.flowN (f : FarmD) (bed : Nat) (fl : Nat → Int) : Nat → Int
  | 0 => 0
  | s + 1 => if f.topN bed (f.sb s).toNat then add64 (f.flowN bed fl s) (fl s) else f.flowN bed fl s
def FarmD.needN (f : FarmD) (bed : Nat) : Nat → Int
  | 0 => 0
  | i + 1 => if f.topN bed i then add64 (f.needN bed i) (f.need i) else f.needN bed i
def FarmD.cutN (f : FarmD) (bed : Nat) (fl : Nat → Int) : Bool := decide (f.flowN bed fl f.ns < f.needN bed f.nb)
theorem FarmD.balS_eq (f : FarmD) (g : f.Good) (bed : Nat) (hb : bed < f.nb) (fl : Nat → Int) : ∀ s, s ≤ f.ns → f.balS (f.marks bed) fl s = f.flowN bed fl s
  | 0, _ => rfl
  | s + 1, h => by
    have ih := f.balS_eq g bed hb fl s (by omega)
    obtain ⟨⟨h0, h1⟩, _⟩ := g.spring s (by omega)
    show (if f.marks bed (f.sb s).toNat then _ else _) = (if f.topN bed (f.sb s).toNat then _ else _)
    rw [f.marks_eq g bed hb _ (by omega), ih]
theorem FarmD.flowN_bound (f : FarmD) (bed : Nat) (fl : Nat → Int) (hns : f.ns ≤ 4) (hfl : ∀ s, s < f.ns → 0 ≤ fl s ∧ fl s ≤ 30) : ∀ s, s ≤ f.ns → 0 ≤ f.flowN bed fl s ∧ f.flowN bed fl s ≤ 30 * s
  | 0, _ => ⟨Int.le_refl _, Int.le_refl _⟩
  | s + 1, h => by
    obtain ⟨h1, h2⟩ := f.flowN_bound bed fl hns hfl s (by omega)
    obtain ⟨h3, h4⟩ := hfl s (by omega)
    show 0 ≤ (if f.topN bed (f.sb s).toNat then _ else _) ∧ (if f.topN bed (f.sb s).toNat then _ else _) ≤ _
    split
    · rw [add64_in _ _ (by omega) (by omega)]; omega
    · omega
theorem FarmD.balB_eq (f : FarmD) (g : f.Good) (bed : Nat) (hb : bed < f.nb) (fl : Nat → Int) (hfl : ∀ s, s < f.ns → 0 ≤ fl s ∧ fl s ≤ 30) : ∀ i, i ≤ f.nb →
    f.balB (f.marks bed) fl i = f.flowN bed fl f.ns - f.needN bed i ∧ 0 ≤ f.needN bed i ∧ f.needN bed i ≤ 9 * i
  | 0, _ => ⟨by show f.balS (f.marks bed) fl f.ns = _ - 0; rw [f.balS_eq g bed hb fl _ (Nat.le_refl _)]; omega, Int.le_refl _, Int.le_refl _⟩
  | i + 1, h => by
    obtain ⟨h1, h2, h3⟩ := f.balB_eq g bed hb fl hfl i (by omega)
    obtain ⟨⟨h4, h5⟩, _⟩ := g.bed i (by omega)
    obtain ⟨h6, h7⟩ := f.flowN_bound bed fl g.ns hfl f.ns (Nat.le_refl _)
    have hns := g.ns
    have hnb := g.nb
    have e1 : f.balB (f.marks bed) fl (i + 1) = if f.topN bed i then sub64 (f.balB (f.marks bed) fl i) (f.need i) else f.balB (f.marks bed) fl i := by
      show (if f.marks bed i then _ else _) = _
      rw [f.marks_eq g bed hb i (by omega)]
    have e2 : f.needN bed (i + 1) = if f.topN bed i then add64 (f.needN bed i) (f.need i) else f.needN bed i := rfl
    rw [e1, e2, h1]
    cases f.topN bed i with
    | true =>
      simp only [↓reduceIte]
      rw [sub64_in _ _ (by omega) (by omega), add64_in _ _ (by omega) (by omega)]
      omega
    | false =>
      simp only [Bool.false_eq_true, ↓reduceIte]
      refine ⟨trivial, ?_, ?_⟩ <;> omega
theorem FarmD.cut_eq (f : FarmD) (g : f.Good) (bed : Nat) (hb : bed < f.nb) (fl : Nat → Int) (hfl : ∀ s, s < f.ns → 0 ≤ fl s ∧ fl s ≤ 30) : f.cutB bed fl = f.cutN bed fl := by
  unfold FarmD.cutB FarmD.cutN
  rw [(f.balB_eq g bed hb fl hfl f.nb (Nat.le_refl _)).1]
  exact decide_eq_decide.2 (by omega)
end Go.Fz
namespace Go.Fz
open Go.Proofs
set_option maxRecDepth 100000
theorem FarmD.abv_step (f : FarmD) (g : f.Good) (below : Nat) (n : Int) (h0 : 0 ≤ n) (h1 : n < f.nb) : f.abT below f.nb n = if n = (below : Int) then true else f.abT below f.nb (f.down n.toNat) := by
  obtain ⟨m, hm⟩ : ∃ m, f.nb = m + 1 := ⟨f.nb - 1, by omega⟩
  have e1 : f.abT below f.nb n = if n < 0 then false else if n = (below : Int) then true else f.abT below m (f.down n.toNat) := by rw [hm]; rfl
  rw [e1, if_neg (by omega)]
  by_cases hb : n = (below : Int)
  · rw [if_pos hb, if_pos hb]
  · rw [if_neg hb, if_neg hb]
    rcases (g.bed n.toNat (by omega)).2.2 with h | ⟨h3, h4⟩
    · rw [h, f.abT_neg below _ (by omega), f.abT_neg below _ (by omega)]
    · exact f.abT_fuel g below _ _ _ (by omega) h4 (by omega) (by omega)
end Go.Fz
namespace Go.Fz
open Go.Proofs
set_option maxRecDepth 100000
def FarmD.qN (f : FarmD) (N : Int) : Nat → Int
  | 0 => N
  | s + 1 => quo64 (f.qN N s) (size64 (f.slo s) (f.shi s))
def FarmD.nthN (f : FarmD) (N : Int) (s : Nat) : Int := add64 (f.slo s) ((f.qN N s).tmod (size64 (f.slo s) (f.shi s)))
set_option maxHeartbeats 4000000 in
theorem nth_ok (f : FarmD) (g : f.Good) (N : Int) : Pure Try.prog 60 [farmV f, iV N] (intsV f.ns false (f.nthN N)) := by
  obtain ⟨O, hO⟩ : ∃ O : Ar, O = std := ⟨_, rfl⟩
  have hnat : ∀ i : Nat, O.nat (Int.ofNat i) = i := fun i => by subst hO; rfl
  have hns := g.ns
  refine pure_of_body tok 3 Try.func60 en60 rfl ⟨farmV_below f, iV_below, trivial⟩ (intsV_below _ _ _) ?_
  refine SW.seqRun tok hO (by cbv <;> rfl) (by trivial) ?_
  refine SW.seqRun tok hO (by cbv <;> rfl) (by trivial) ?_
  refine SW.seq ?_
  refine SW.seqRun tok hO (by cbv <;> rfl) (by trivial) ?_
  refine (SW.block (SW.loopR (fun i : Nat => ⟨⟨36, getT [(1, iV (f.qN N i)), (2, .ptr 0 0), (5, slG 1 1 i), (6, iV i)]⟩, []⟩) (fun i => ⟨[(0, .cells none false [springsV f, bedsV f, looksV f])] ++ objG 1 1 (intC (f.nthN N)) i, 2⟩) (fun i => f.ns - i) (fun i => i ≤ f.ns) 0 (Nat.zero_le _) (ren1 1 1) ?_ fun i hi => ?_))
  · exact WeakR.up rfl rfl (by simp) (Nat.le_refl _) (.inl rfl) (by show 1 ≤ 2; omega) ⟨RenV.closed Below.lit, RenV.ptr (by omega), RenV.closed Below.lit, RenV.closed Below.lit, trivial⟩ ⟨⟨by omega, _, rfl, .cells (RenVs.closed (farmC_below f)), .inr rfl⟩, trivial⟩ (fun p hp => by cases hp)
  generalize hQ : f.qN N i = q
  cases i with
  | zero =>
    refine SW.seq ?_
    refine SW.seqRun tok hO (by cbv <;> rfl) (by trivial) ?_
    refine SW.condS (by cbv <;> rfl) (fun h => SW.skip ?_) (fun h => SW.exit ?_)
    · have hlt : 0 < f.ns := by subst hO; simpa [std] using h
      have h0 : (0 : Int) ≤ Int.ofNat 0 := Int.natCast_nonneg 0
      obtain ⟨_, hs0, hs1, hs2⟩ := g.spring 0 hlt
      have hsz := size64_in hs0 hs1 (by omega)
      have hne : size64 (f.slo 0) (f.shi 0) ≠ 0 := by rw [hsz]; omega
      have call := count_ok (f.slo 0) (f.shi 0)
      have e1 : quo64 q (size64 (f.slo 0) (f.shi 0)) = f.qN N 1 := by rw [← hQ]; rfl
      have e2 : add64 (f.slo 0) (q.tmod (size64 (f.slo 0) (f.shi 0))) = f.nthN N 0 := by rw [← hQ]; rfl
      generalize size64 (f.slo 0) (f.shi 0) = z at call hne e1 e2
      rw [← hnat 0] at call
      refine SW.seq (SW.block ?_)
      refine SW.seqRun tok hO (by cbv <;> rfl) ?_ ?_
      · exact ⟨h0, Int.ofNat_lt.2 hlt⟩
      refine SW.runD tok mixed hO (by rfl) (by cbv <;> rfl) (by trivial) ?_
      refine AnyE.callP call (by cbv <;> rfl) (by cbv <;> rfl) ?_
      refine AnyE.run tok hO (by rfl) (by cbv <;> rfl) ?_ ?_
      · exact hne
      refine AnyE.effK tok hO (by cbv <;> rfl) (by cbv <;> rfl) (by trivial) ?_ ?_
      · repeat (first | exact trivial | refine ⟨by (cbv <;> rfl), ?_⟩)
      refine AnyE.appNilK tok (by cbv <;> rfl) (by cbv <;> rfl) (by rfl) (by kernel_rfl) (by rfl) (by rfl) ?_ ?_
      · repeat (first | exact trivial | refine ⟨by (cbv <;> rfl), ?_⟩)
      refine AnyE.run tok hO (by rfl) (by cbv <;> rfl) (by trivial) ?_
      refine AnyE.callP call (by cbv <;> rfl) (by cbv <;> rfl) ?_
      refine AnyE.run tok hO (by rfl) (by cbv <;> rfl) ?_ ?_
      · exact hne
      refine AnyE.eff tok hO (by cbv <;> rfl) (by cbv <;> rfl) (by trivial) ?_
      refine AnyE.done (by rfl) ?_
      refine SW.run tok hO (by cbv <;> rfl) (by trivial) ?_
      refine ⟨1, by omega, by omega, ren1 1 4, ?_⟩
      have e3 : O.bin .quo .i64 q z = f.qN N 1 := by rw [← e1]; subst hO; rfl
      have e4 : O.bin .add .i64 (f.slo (O.nat (Int.ofNat 0))) (O.bin .rem .i64 q z) = f.nthN N 0 := by rw [← e2, hnat]; subst hO; rfl
      refine WeakR.up rfl rfl (by simp) (Nat.le_refl _) (.inr (by omega)) (by show 1 ≤ 2; omega) ⟨?_, RenV.ptr (by omega), RenV.sl (by omega), RenV.inc hO (by omega), trivial⟩ ⟨⟨by omega, _, rfl, .cells (RenVs.closed (farmC_below f)), .inr rfl⟩, trivial⟩ (fun p hp => ?_)
      · show RenV _ _ (iV (f.qN N 1)) (iV (O.bin .quo .i64 q z))
        rw [e3]; exact RenV.closed Below.lit
      obtain rfl := objG_mem hp
      refine ⟨by omega, _, rfl, .cells (RenVs.of_eq ?_ (flatG_below (fun i k => Below.lit) 1)), .inl rfl⟩
      show [iV (O.bin .add .i64 (f.slo (O.nat (Int.ofNat 0))) (O.bin .rem .i64 q z))] = [iV (f.nthN N 0)]
      rw [e4]
    · have hz : f.ns = 0 := by
        have : f.ns ≤ 0 := by subst hO; simpa [std] using h
        omega
      refine SW.seqRun tok hO (by cbv <;> rfl) (by trivial) ?_
      refine SW.ret ⟨_, _, rfl, rfl, ?_⟩
      rw [hz]; exact Eqv.nil
  | succ i =>
    obtain ⟨G, hG⟩ : ∃ G, G = flatG 1 (intC (f.nthN N)) (i + 1) := ⟨_, rfl⟩
    have hGo : objG 1 1 (intC (f.nthN N)) (i + 1) = [(1, .cells none false G)] := by rw [hG]; rfl
    show SW _ _ _ _ ⟨⟨36, getT [(1, iV q), (2, .ptr 0 0), (5, .sl 1 0 (i + 1) 1 false), (6, iV (i + 1 : Nat))]⟩, []⟩ ⟨[(0, .cells none false [springsV f, bedsV f, looksV f])] ++ objG 1 1 (intC (f.nthN N)) (i + 1), 2⟩
    rw [hGo]
    refine SW.seq ?_
    refine SW.seqRun tok hO (by cbv <;> rfl) (by trivial) ?_
    refine SW.condS (by cbv <;> rfl) (fun h => SW.skip ?_) (fun h => SW.exit ?_)
    · have hlt : i + 1 < f.ns := by
        have : ((i + 1 : Nat) : Int) < (f.ns : Int) := by subst hO; simpa [std] using h
        omega
      have h0 : (0 : Int) ≤ Int.ofNat (i + 1) := Int.natCast_nonneg (i + 1)
      obtain ⟨_, hs0, hs1, hs2⟩ := g.spring (i + 1) hlt
      have hsz := size64_in hs0 hs1 (by omega)
      have hne : size64 (f.slo (i + 1)) (f.shi (i + 1)) ≠ 0 := by rw [hsz]; omega
      have call := count_ok (f.slo (i + 1)) (f.shi (i + 1))
      have e1 : quo64 q (size64 (f.slo (i + 1)) (f.shi (i + 1))) = f.qN N (i + 1 + 1) := by rw [← hQ]; rfl
      have e2 : add64 (f.slo (i + 1)) (q.tmod (size64 (f.slo (i + 1)) (f.shi (i + 1)))) = f.nthN N (i + 1) := by rw [← hQ]; rfl
      generalize size64 (f.slo (i + 1)) (f.shi (i + 1)) = z at call hne e1 e2
      rw [← hnat (i + 1)] at call
      refine SW.seq (SW.block ?_)
      refine SW.seqRun tok hO (by cbv <;> rfl) ?_ ?_
      · exact ⟨h0, Int.ofNat_lt.2 hlt⟩
      refine SW.runD tok mixed hO (by rfl) (by cbv <;> rfl) (by trivial) ?_
      refine AnyE.callP call (by cbv <;> rfl) (by cbv <;> rfl) ?_
      refine AnyE.run tok hO (by rfl) (by cbv <;> rfl) ?_ ?_
      · exact hne
      refine AnyE.effK tok hO (by cbv <;> rfl) (by cbv <;> rfl) (by trivial) ?_ ?_
      · repeat (first | exact trivial | refine ⟨by (cbv <;> rfl), ?_⟩)
      refine AnyE.appOneK (g := intC (f.nthN N)) tok (by cbv <;> rfl) (by cbv <;> rfl) (by rfl) (by rfl) hG (by kernel_rfl) (by rfl) (by rfl) (by omega) fun G' hG' => ⟨?_, ?_⟩
      · repeat (first | exact trivial | refine ⟨by (cbv <;> rfl), ?_⟩)
      refine AnyE.run tok hO (by rfl) (by cbv <;> rfl) (by trivial) ?_
      refine AnyE.callP call (by cbv <;> rfl) (by cbv <;> rfl) ?_
      refine AnyE.run tok hO (by rfl) (by cbv <;> rfl) ?_ ?_
      · exact hne
      refine AnyE.eff tok hO (by cbv <;> rfl) (by cbv <;> rfl) (by trivial) ?_
      refine AnyE.done (by rfl) ?_
      refine SW.run tok hO (by cbv <;> rfl) (by trivial) ?_
      refine ⟨i + 1 + 1, by omega, by omega, ren1 1 4, ?_⟩
      have e3 : O.bin .quo .i64 q z = f.qN N (i + 1 + 1) := by rw [← e1]; subst hO; rfl
      have e4 : O.bin .add .i64 (f.slo (O.nat (Int.ofNat (i + 1)))) (O.bin .rem .i64 q z) = f.nthN N (i + 1) := by rw [← e2, hnat]; subst hO; rfl
      refine WeakR.up rfl rfl (by simp) (Nat.le_refl _) (.inr (by omega)) (by show 1 ≤ 2; omega) ⟨?_, RenV.ptr (by omega), RenV.sl (by omega), RenV.inc hO (by omega), trivial⟩ ⟨⟨by omega, _, rfl, .cells (RenVs.closed (farmC_below f)), .inr rfl⟩, trivial⟩ (fun p hp => ?_)
      · show RenV _ _ (iV (f.qN N (i + 1 + 1))) (iV (O.bin .quo .i64 q z))
        rw [e3]; exact RenV.closed Below.lit
      obtain rfl := objG_mem hp
      refine ⟨by omega, _, rfl, .cells (RenVs.of_eq (hG'.trans ?_) (flatG_below (fun i k => Below.lit) (i + 1 + 1))), .inl rfl⟩
      show _ ++ [iV (O.bin .add .i64 (f.slo (O.nat (Int.ofNat (i + 1)))) (O.bin .rem .i64 q z))] = _ ++ [iV (f.nthN N (i + 1))]
      rw [e4]
    · have hz : f.ns = i + 1 := by
        have : (f.ns : Int) ≤ ((i + 1 : Nat) : Int) := by subst hO; simpa [std] using h
        omega
      refine SW.seqRun tok hO (by cbv <;> rfl) (by trivial) ?_
      refine SW.ret ⟨_, _, rfl, rfl, ?_⟩
      rw [hz]
      exact frz_flatI (z := fun i _ => f.nthN N i) (fm := none) rfl (by rw [hG]; rfl)
end Go.Fz
namespace Go.Fz
section
variable (f : FarmD) (g : f.Good) (k : Nat) (hk : k < f.nb) (v : Int) (hv0 : 0 ≤ v) (hv1 : v ≤ f.notch k)
include g hv0 hv1 hk
end
theorem FarmD.abN_step (f : FarmD) (g : f.Good) (b below : Nat) (hb : b < f.nb) : f.aboveN b below = (decide (f.down b = (below : Int)) || (decide (0 ≤ f.down b) && f.aboveN (f.down b).toNat below)) := by
  unfold FarmD.aboveN
  rcases (g.bed b hb).2.2 with h | ⟨h1, h2⟩
  · rw [h, f.abT_neg below _ (by omega)]
    simp
  · rw [f.abv_step g below _ (by omega) h2]
    by_cases hd : f.down b = (below : Int)
    · rw [if_pos hd, decide_eq_true hd]; rfl
    · rw [if_neg hd, decide_eq_false hd, decide_eq_true (show 0 ≤ f.down b by omega)]
      simp
theorem FarmD.abN_gt (f : FarmD) (g : f.Good) (b below : Nat) (hb : b < f.nb) (h : f.aboveN b below = true) : b < below := by
  unfold FarmD.aboveN at h
  rcases (g.bed b hb).2.2 with h' | ⟨h1, h2⟩
  · rw [h', f.abT_neg below _ (by omega)] at h; cases h
  · rcases Nat.lt_or_ge b below with hlt | hge
    · exact hlt
    · rw [f.abT_past g below _ _ h2 (by omega)] at h; cases h
end Go.Fz
namespace Go.Proofs.Ytpaifaemkoblcaa
open Go.ChangeShapes Go.WideShapes Go.ChangeAt Go.RowKit Go.Joins
set_option linter.unusedVariables false
set_option maxRecDepth 100000
theorem u8_in {n : Int} (h : (Lit.int .u8 n).wf = true) : 0 ≤ n ∧ n ≤ 255 := by
  simp [Lit.wf, IntKind.min, IntKind.max, IntKind.signed, IntKind.bits] at h
  omega
end Go.Proofs.Ytpaifaemkoblcaa
set_option linter.unusedVariables false
namespace Go.Fz
open Go.Proofs
set_option maxRecDepth 100000
theorem nI_val (p : List Nat) : zV (nI p) = lsV p := by
  unfold zV lsV
  rw [nI_len]
  congr 1
  funext i
  unfold zL nI
  rw [List.getD_eq_getElem?_getD, List.getD_eq_getElem?_getD, List.getElem?_map]
  cases p[i]? <;> rfl
section
variable (K : List (List Nat) → Hp → Prop) (stop : List (List Nat) → List Nat → Hp → Prop) (y many : Nat) (E : List (List Nat))
variable {K stop y many E}
end
end Go.Fz
set_option linter.unusedVariables false
namespace Go.Fz
open Go.Proofs
set_option maxRecDepth 100000
end Go.Fz
set_option linter.unusedVariables false
namespace Go.Fz
open Go.Proofs
set_option maxRecDepth 100000
set_option maxHeartbeats 8000000 in
theorem before104_ok (na nb : Nat) (ea eb : Bool) (fa fb : Nat → Int) (hna : na < 1000) (hnb : nb < 1000) : Pure Try.prog 104 [intsV na ea fa, intsV nb eb fb] (.sb (befF fa fb na nb 0 (na + 1))) := by
  obtain ⟨O, hO⟩ : ∃ O : Ar, O = std := ⟨_, rfl⟩
  have hnat : ∀ i : Nat, O.nat (Int.ofNat i) = i := fun i => by subst hO; rfl
  refine pure_of_body tok 3 Try.func104 en104 rfl ⟨intsV_below _ _ _, intsV_below _ _ _, trivial⟩ Below.sb ?_
  refine SW.seqRun tok hO (by cbv <;> rfl) (by trivial) ?_
  refine SW.seq ?_
  refine SW.seqRun tok hO (by cbv <;> rfl) (by trivial) ?_
  refine (SW.block (SW.loopF (fun i : Nat => ⟨⟨41, getT [(0, intsV na ea fa), (1, intsV nb eb fb), (5, iV i)]⟩, []⟩) (fun _ => ⟨[], 0⟩) (fun i => na + 1 - i) (fun i => i ≤ na ∧ befF fa fb na nb 0 (na + 1) = befF fa fb na nb i (na + 1 - i)) 0
    (fun _ => rfl) ⟨Nat.zero_le _, rfl⟩ (Weak.by rfl rfl (by simp) (Nat.le_refl _) (Nat.le_refl _) ⟨⟨rfl, .inl rfl⟩, ⟨rfl, .inl rfl⟩, ⟨rfl, .inl rfl⟩, trivial⟩ trivial) fun i ⟨hi, hB⟩ => ?_))
  have hun : befF fa fb na nb i (na + 1 - i) = if i < na ∧ i < nb then (if fa i = fb i then befF fa fb na nb (i + 1) (na - i) else decide (fa i < fb i)) else decide ((na : Int) < nb) := by
    rw [show na + 1 - i = (na - i) + 1 by omega]; rfl
  rw [hun] at hB
  have h0 : (0 : Int) ≤ Int.ofNat i := Int.natCast_nonneg i
  generalize befF fa fb na nb 0 (na + 1) = B at hB ⊢
  refine SW.seq ?_
  refine SW.seqRun tok hO (by cbv <;> rfl) (by trivial) ?_
  have hend : ¬ (i < na ∧ i < nb) → B = decide ((na : Int) < nb) := fun h => by rw [hB, if_neg h]
  refine OpsW.splitG (by cbv <;> rfl) (fun h => ?_) (fun h => ?_)
  · have hlt : i < na := by subst hO; simpa [std] using h
    refine OpsW.run tok hO (by cbv <;> rfl) (by trivial) ?_
    refine SW.condS (by cbv <;> rfl) (fun h3 => SW.skip ?_) (fun h3 => SW.exit ?_)
    · have hlt2 : i < nb := by subst hO; simpa [std] using h3
      rw [if_pos ⟨hlt, hlt2⟩] at hB
      refine SW.seq (SW.block ?_)
      refine SW.seqRunD tok mixed hO (by rfl) (by cbv <;> rfl) ?_ ?_
      · exact ⟨⟨h0, Int.ofNat_lt.2 hlt2⟩, ⟨h0, Int.ofNat_lt.2 hlt⟩⟩
      refine AnyE.dec tok hO (by rfl) (by cbv <;> rfl) (by trivial) (fun h4 => ?_) (fun h4 => ?_) <;> refine AnyE.run tok hO (by rfl) (by cbv <;> rfl) (by trivial) ?_
      · have hne : fa i ≠ fb i := by subst hO; simpa [std] using h4
        rw [if_neg hne] at hB
        refine SW.cond (t := true) (by cbv <;> rfl) ?_
        refine SW.seqRunD tok mixed hO (by rfl) (by cbv <;> rfl) ?_ ?_
        · exact ⟨⟨h0, Int.ofNat_lt.2 hlt2⟩, ⟨h0, Int.ofNat_lt.2 hlt⟩⟩
        refine AnyE.dec tok hO (by rfl) (by cbv <;> rfl) (by trivial) (fun h5 => ?_) (fun h5 => ?_) <;> refine AnyE.run tok hO (by rfl) (by cbv <;> rfl) (by trivial) ?_
        · have h6 : fa i < fb i := by subst hO; simpa [std] using h5
          refine SW.ret ⟨_, _, rfl, rfl, Eqv.bool ?_⟩
          rw [hB, decide_eq_true h6]
        · have h6 : ¬ fa i < fb i := by subst hO; simpa [std] using h5
          refine SW.ret ⟨_, _, rfl, rfl, Eqv.bool ?_⟩
          rw [hB, decide_eq_false h6]
      · have he : fa i = fb i := by subst hO; simpa [std] using h4
        rw [if_pos he] at hB
        refine SW.cond (t := false) (by cbv <;> rfl) (SW.skip ?_)
        refine SW.run tok hO (by cbv <;> rfl) (by trivial) ?_
        exact ⟨i + 1, by omega, ⟨by omega, by rw [hB]; congr 1; omega⟩, Weak.by rfl rfl (by simp) (Nat.le_refl _) (Nat.zero_le _) ⟨⟨rfl, .inr (intsV_below _ _ _)⟩, ⟨rfl, .inr (intsV_below _ _ _)⟩, ⟨inc_ok hO (by omega), .inr Below.lit⟩, trivial⟩ trivial⟩
    · have hge : ¬ i < nb := by subst hO; simpa [std] using h3
      refine SW.seqRun tok hO (by cbv <;> rfl) (by trivial) ?_
      refine SW.ret ⟨_, _, rfl, rfl, Eqv.sb ?_⟩
      rw [hend (fun h => hge h.2)]; subst hO; rfl
  · have hge : ¬ i < na := by subst hO; simpa [std] using h
    refine OpsW.run tok hO (by cbv <;> rfl) (by trivial) ?_
    refine SW.cond (t := false) (by cbv <;> rfl) (SW.exit ?_)
    refine SW.seqRun tok hO (by cbv <;> rfl) (by trivial) ?_
    refine SW.ret ⟨_, _, rfl, rfl, Eqv.sb ?_⟩
    rw [hend (fun h => hge h.1)]; subst hO; rfl
set_option maxHeartbeats 8000000 in
theorem shorter_ok (na nb : Nat) (ea eb : Bool) (fa fb : Nat → Int) (hna : na < 1000) (hnb : nb < 1000) : Pure Try.prog 58 [intsV na ea fa, intsV nb eb fb] (.sb (shortB na nb fa fb)) := by
  obtain ⟨O, hO⟩ : ∃ O : Ar, O = std := ⟨_, rfl⟩
  have hbef := before104_ok na nb ea eb fa fb hna hnb
  obtain ⟨S, hS⟩ : ∃ S, shortB na nb fa fb = S := ⟨_, rfl⟩
  unfold shortB at hS
  rw [show shortB na nb fa fb = S from hS]
  generalize befF fa fb na nb 0 (na + 1) = B at hbef hS
  refine pure_of_body tok 3 Try.func58 en58 rfl ⟨intsV_below _ _ _, intsV_below _ _ _, trivial⟩ Below.sb ?_
  refine SW.seqRun tok hO (by cbv <;> rfl) (by trivial) ?_
  refine SW.seqRun tok hO (by cbv <;> rfl) (by trivial) ?_
  refine OpsW.splitG (by cbv <;> rfl) (fun h => ?_) (fun h => ?_)
  · have hlt : (na : Int) < nb := by subst hO; simpa [std] using h
    refine OpsW.run tok hO (by cbv <;> rfl) (by trivial) ?_
    refine SW.ret ⟨_, _, rfl, rfl, Eqv.bool ?_⟩
    rw [← hS, decide_eq_true hlt]; rfl
  · have hlt : ¬ (na : Int) < nb := by subst hO; simpa [std] using h
    refine OpsW.run tok hO (by cbv <;> rfl) (by trivial) ?_
    refine OpsW.splitG (by cbv <;> rfl) (fun h2 => ?_) (fun h2 => ?_)
    · have he : (na : Int) = nb := by subst hO; simpa [std] using h2
      refine OpsW.run tok hO (by cbv <;> rfl) (by trivial) ?_
      refine OpsW.callP hbef (by cbv <;> rfl) ?_
      refine OpsW.run tok hO (by cbv <;> rfl) (by trivial) ?_
      refine SW.ret ⟨_, _, rfl, rfl, Eqv.sb ?_⟩
      rw [← hS, decide_eq_false hlt, decide_eq_true he]; rfl
    · have he : ¬ (na : Int) = nb := by subst hO; simpa [std] using h2
      refine OpsW.run tok hO (by cbv <;> rfl) (by trivial) ?_
      refine SW.ret ⟨_, _, rfl, rfl, Eqv.bool ?_⟩
      rw [← hS, decide_eq_false hlt, decide_eq_false he]; rfl
end Go.Fz
set_option linter.unusedVariables false
namespace Go.Fz
open Go.Proofs
set_option maxRecDepth 100000
theorem mskL_snoc (l : List Nat) (i : Nat) (hi : i < l.length) : mskL (l.take (i + 1)) = std.bin .or .i64 (mskL (l.take i)) (std.bin .shl .i64 1 (std.conv .u64 (lI l i))) := by
  unfold mskL
  rw [List.take_add_one, List.getElem?_eq_getElem hi]
  simp only [Option.toList_some, List.foldl_append, List.foldl_cons, List.foldl_nil]
  unfold lI
  rw [List.getD_eq_getElem?_getD, List.getElem?_eq_getElem hi]
  rfl
theorem sub1N {O : Ar} (hO : O = std) {i : Nat} (h : i < 1000) : O.bin .sub .i64 (Int.ofNat i) 1 = (i : Int) - 1 := by
  subst hO
  show sub64 ((i : Nat) : Int) 1 = _
  rw [sub64_in _ _ (by omega) (by omega)]
theorem natsub1 {O : Ar} (hO : O = std) {i : Nat} (h : i < 1000) (h0 : 0 < i) : O.nat (O.bin .sub .i64 (Int.ofNat i) 1) = i - 1 := by
  rw [sub1N hO h]; subst hO
  show ((i : Int) - 1).toNat = i - 1
  omega
theorem sub1_rng {O : Ar} (hO : O = std) {i N : Nat} (h : i < 1000) (h0 : 0 < i) (hN : i < N) : 0 ≤ O.bin .sub .i64 (Int.ofNat i) 1 ∧ O.bin .sub .i64 (Int.ofNat i) 1 < (N : Int) := by
  rw [sub1N hO h]; omega
theorem gtr0 {O : Ar} (hO : O = std) {i : Nat} (h : O.cmp .gtr (Int.ofNat i) 0 = true) : 0 < i := by
  have : (i : Int) > 0 := by subst hO; simpa [std] using h
  omega
theorem leq_no {O : Ar} (hO : O = std) {a b : Int} (h : O.cmp .leq a b = true) (hab : b < a) : False := by
  have : a ≤ b := by subst hO; simpa [std] using h
  omega
theorem full65_ok (y : FarmD) (hn : y.nl < 1000000) : Pure Try.prog 65 [farmV y] (iV (pw1 y.nl)) := by
  obtain ⟨O, hO⟩ : ∃ O : Ar, O = std := ⟨_, rfl⟩
  refine pure_of_body tok 3 Try.func65 en65 rfl ⟨farmV_below y, trivial⟩ Below.lit ?_
  refine SW.seqRun tok hO (by cbv <;> rfl) (by trivial) ?_
  refine SW.seqRun tok hO (by cbv <;> rfl) (by exact conv_nn hO hn) ?_
  refine SW.ret ⟨_, _, rfl, rfl, Eqv.int ?_⟩
  subst hO; rfl
end Go.Fz
set_option linter.unusedVariables false
namespace Go.Fz
open Go.Proofs
set_option maxRecDepth 100000
def trueQ3 (fn : Func) : Exit → Fm → St → Prop := retQ T fn (fun v st' => Eqv (frz st'.h (fun _ => true) 3 v) (.lit (.bool true)))
theorem check_of_ready {f : FarmD} (h : f.readyB = true) : f.check = 0 := by
  simp only [FarmD.readyB, Bool.and_eq_true, decide_eq_true_eq] at h
  rw [f.check_eq]; exact h.2
theorem ready_sb (f : FarmD) {t : Bool} (h : f.readyB = t) : Pure Try.prog 52 [farmV f] (.sb t) := by
  have := ready_ok f
  rw [h] at this; exact this
end Go.Fz
