/- Own work of the verifier of watercress: Lb4, Lb5, Lb6, Lb8, Lb9, FzCn1, FzCn2, FzCn4, FzCh1, FzCh2, FzCh3, FzCh4, FzCh5, FzEs1, FzCp, FzEs2, FzCm2, FzCm3, FzCm4, FzCm5, FzOn1, FzOn2, FzEa1, FzEa2, FzEa3, FzCn5, FzCn6, FzEa4, FzWd1, FzTd1, FzTd2, FzTd3, FzTd4, FzTd5, FzTd6, FzTd7. -/
import Derived.ChangeKeysEq
import Derived.Laws.AppendOwn
import Derived.Laws.Cells
import Derived.Laws.CopyRow
import Derived.Laws.Entries
import Derived.Laws.NewFold
import Derived.Laws.Sem
import Derived.Laws.Small
import Derived.Laws.StructEq
import Derived.Laws.Tables
import Derived.Laws.World
import Derived.OrdersHeld
import Derived.OrdersIn
import Derived.RangeFuncLeaves
import Derived.RangeFuncRecord
import Derived.Shelf.Abstract
import Derived.Test.YtcjekdfncnmbfaaNa0
import Derived.Test.YtcjekdfncnmbfaaNa1
import Derived.Test.YtcjekdfncnmbfaaNa2
import Derived.Test.YtcjekdfncnmbfaaNa3
import Derived.Test.YtcjekdfncnmbfaaProg
import Derived.Test.YtcjekdfncnmbfaaNa4
import Derived.Below
import Derived.CallsIn
import Derived.Carry
import Derived.ChangeSame
import Derived.Deep.Slices
import Derived.JoinedCond
import Derived.Laws.Cover3
import Derived.Lib.SmallJoins
import Derived.OpenShut
import Derived.ProofKit
import Derived.WalkKit
import Derived.WideKeyArgs
import Derived.Test.YtcjekdfncnmbfaaRows
import Derived.Test.YtcjekdfncnmbfaaNa5
import Derived.DeepKeys4
import Derived.Maps.Keyed
import Derived.Maps.RangeRun
import Derived.Test.YtcjekdfncnmbfaaNa6
import Derived.Test.YtcjekdfncnmbfaaNa7
import Derived.Test.YtcjekdfncnmbfaaNa8
import Derived.Test.YtcjekdfncnmbfaaNa9
import Derived.Test.YtcjekdfncnmbfaaNa10
import Derived.Test.YtcjekdfncnmbfaaNa11
import Derived.Test.YtcjekdfncnmbfaaNa13
import Derived.Test.YtcjekdfncnmbfaaNa16
import Derived.Test.YtcjekdfncnmbfaaNa14
import Derived.Test.YtcjekdfncnmbfaaNa18
import Derived.Test.YtcjekdfncnmbfaaNa15
import Derived.Test.YtcjekdfncnmbfaaNa19
import Derived.Test.YtcjekdfncnmbfaaNa20
import Derived.Test.YtcjekdfncnmbfaaNa21
import Derived.Test.YtcjekdfncnmbfaaNa22
import Derived.Test.YtcjekdfncnmbfaaNa12
import Derived.Test.YtcjekdfncnmbfaaNa17
set_option linter.unusedVariables false
set_option linter.unusedSimpArgs false
namespace Go.Fz
open Go.Proofs
theorem en12 : Enters Try.prog 12 := fun args w => Go.Proofs.enters_of Try.func12 (by kernel_rfl) rfl args w
theorem en50 : Enters Try.prog 50 := fun args w => Go.Proofs.enters_of Try.func50 (by kernel_rfl) rfl args w
theorem en51 : Enters Try.prog 51 := fun args w => Go.Proofs.enters_of Try.func51 (by kernel_rfl) rfl args w
end Go.Fz
set_option linter.unusedVariables false
set_option linter.unusedSimpArgs false
namespace Go.Fz
variable {P : Program} {T : Ti}
end Go.Fz
namespace Go.Fz
variable {P : Program} {T : Ti}
end Go.Fz
namespace Go.Fz
variable {P : Program} {T : Ti}
theorem AnyE.appK (hT : TOk P T) {rd : Option Nat} {ops : Array Oper} {M : List Nat} {K : Fm → St → Prop} {fuel : Nat} {pend pend' : List (Nat × AV)} {listed : Array Bool} {f : Fm} {st st' : St} {j t : Nat} {s x r : AV}
    (hj : onlyD ops M pend listed = some (j, pend')) (ha : appAt ops j f = some (t, s, x)) (hr : appendA T st t t s x = some (r, st')) (hk : AllP (fun p => lightV T ops st'.h (putAt ops j f r) p.1 = some p.2) pend')
    (h : AnyE P T ops M rd K fuel pend' (listed.setIfInBounds j true) (putAt ops j f r) st') : AnyE P T ops M rd K (fuel + 1) pend listed f st := fun k1 k2 k3 => by
  obtain ⟨o, h1, h2, h3, h4⟩ := appAt_ok ha
  unfold onlyD at hj
  split at hj
  · rename_i j' hrd
    split at hj
    · rename_i o1 ho1
      split at hj
      · rename_i hnl
        simp only [Option.some.injEq, Prod.mk.injEq] at hj
        obtain ⟨rfl, hd⟩ := hj
        rw [h4] at hk h
        refine AnyE.one j' h1 (by rw [hrd]; exact Nat.beq_refl j') pend' hd (OpsW.append hT h1 h2 (by rw [h3]; exact hr) (.nil ⟨⟨r, rfl⟩, (show PendOk T ops pend' (f.put o.dst r) st'.h from fun p hp => LV.of (hk.ok p hp)), h⟩)) k1 k2 k3
      · cases hj
    · cases hj
  · cases hj
end Go.Fz
namespace Go.Fz
variable {P : Program} {T : Ti}
def runDN (O : Ar) (T : Ti) (ops : Array Oper) : Nat → Nat → List (Nat × AV) → Array Bool → List Cond → Fm → St → DOut
  | 0, fuel, pend, listed, cs, f, st => .stop cs fuel pend listed f st
  | _ + 1, 0, pend, listed, cs, f, st => .stop cs 0 pend listed f st
  | k + 1, fuel + 1, pend, listed, cs, f, st => match Region.ready .any ops listed with
    | [] => .done cs f st
    | rs => match pickD O T ops pend st.h f rs with
      | some (i, o, c, .sb b) => match isCmp o with
        | true => .stop cs (fuel + 1) pend listed f st
        | false => runDN O T ops k fuel ((i, .sb b) :: pend) (listed.setIfInBounds i true) (c ++ cs) (f.put o.dst (.sb b)) st
      | some (i, o, c, r) => runDN O T ops k fuel ((i, r) :: pend) (listed.setIfInBounds i true) (c ++ cs) (f.put o.dst r) st
      | none => .stop cs (fuel + 1) pend listed f st
theorem runDN_cs {O : Ar} {ops : Array Oper} : ∀ (k fuel : Nat) (pend : List (Nat × AV)) (listed : Array Bool) (cs : List Cond) (f : Fm) (st : St), ∀ c ∈ cs, c ∈ (runDN O T ops k fuel pend listed cs f st).cs
  | 0, _, _, _, _, _, _, c, h => h
  | _ + 1, 0, _, _, _, _, _, c, h => h
  | k + 1, fuel + 1, pend, listed, cs, f, st, c, h => by
    unfold runDN
    split
    · exact h
    · split
      · split
        · exact h
        · exact runDN_cs k fuel _ _ _ _ _ c (List.mem_append_right _ h)
      · exact runDN_cs k fuel _ _ _ _ _ c (List.mem_append_right _ h)
      · exact h
theorem runDN_ok (hT : TOk P T) {O : Ar} (hO : O = std) {rd : Option Nat} {ops : Array Oper} {K : Fm → St → Prop} (hM : tidyB ops (masks ops) = true) : ∀ (k fuel : Nat) (pend : List (Nat × AV)) (listed : Array Bool) (cs : List Cond) (f : Fm) (st : St),
    (∀ c ∈ (runDN O T ops k fuel pend listed cs f st).cs, c.holds) → (runDN O T ops k fuel pend listed cs f st).post P T rd ops K → AnyE P T ops (masks ops) rd K fuel pend listed f st
  | 0, _, _, _, _, _, _, _, h => h
  | _ + 1, 0, _, _, _, _, _, _, h => h
  | k + 1, fuel + 1, pend, listed, cs, f, st, hc, h => by
    unfold runDN at hc h
    split at h
    · rename_i hr
      exact .done (by rw [hr]; rfl) h
    · rename_i hr
      split at h
      · rename_i i o c b hp
        obtain ⟨h1, h2, h3, h4⟩ := pickD_ok hO hp
        simp only [hp] at hc
        split at h
        · exact h
        · rename_i hcmp
          simp only [hcmp] at hc
          have hl := h4 fun x hx => hc x (runDN_cs k fuel _ _ _ _ _ x (List.mem_append_left _ hx))
          refine .take hM hT i h2 ?_ hl (runDN_ok hT hO hM k fuel _ _ _ _ _ hc h)
          rw [h3, Bool.and_true]
          exact List.contains_iff_mem.2 h1
      · rename_i i o c r hnsb hp
        obtain ⟨h1, h2, h3, h4⟩ := pickD_ok hO hp
        simp only [hp] at hc
        have hl := h4 fun x hx => hc x (runDN_cs k fuel _ _ _ _ _ x (List.mem_append_left _ hx))
        refine .take hM hT i h2 ?_ hl (runDN_ok hT hO hM k fuel _ _ _ _ _ hc h)
        rw [h3, Bool.and_true]
        exact List.contains_iff_mem.2 h1
      · exact h
theorem AnyE.runN (hT : TOk P T) {O : Ar} (hO : O = std) (k : Nat) {rd : Option Nat} {ops : Array Oper} {K : Fm → St → Prop} {fuel : Nat} {pend : List (Nat × AV)} {listed : Array Bool} {f : Fm} {st : St} {R : DOut} (hM : tidyB ops (masks ops) = true)
    (hR : Fz.runDN O T ops k fuel pend listed [] f st = R) (hc : allC R.cs) (h : R.post P T rd ops K) : AnyE P T ops (masks ops) rd K fuel pend listed f st := by
  subst hR
  exact runDN_ok hT hO hM _ _ _ _ _ _ _ (allC_ok hc) h
theorem AnyE.idxSl (hT : TOk P T) {rd : Option Nat} {ops : Array Oper} {K : Fm → St → Prop} {fuel : Nat} {pend : List (Nat × AV)} {listed : Array Bool} {f : Fm} {st : St} (i : Nat) {t id off len sz n : Nat} {ex : Bool} {k : IntKind} (hM : tidyB ops (masks ops) = true)
    (hx : idxAt ops i f = some (t, .sl id off len sz ex, .lit (.int k (Int.ofNat n)))) (hb : sliceB T t sz = true) (hn : n < len)
    (hr : (match ops[i]? with | some o => (Region.ready .any ops listed).contains i && noLookB ops pend o | none => false) = true)
    (h : ∀ q, q = off + n * sz → AnyE P T ops (masks ops) rd K fuel ((i, .ptr id q) :: pend) (listed.setIfInBounds i true) (putAt ops i f (.ptr id q)) st) : AnyE P T ops (masks ops) rd K (fuel + 1) pend listed f st := by
  have h := h _ rfl
  obtain ⟨ti, tj, e, h1, h2, h3, h4, h5, h6, h7, h8⟩ := sliceB_ok hb
  unfold idxAt at hx
  split at hx
  · cases hx
  · rename_i o ho
    split at hx
    · rename_i hw
      split at hx
      · rename_i t' x ix hop
        simp only [Option.some.injEq, Prod.mk.injEq] at hx
        obtain ⟨rfl, k2, k3⟩ := hx
        have hput : ∀ v, putAt ops i f v = f.put o.dst v := fun v => by simp [putAt, ho]
        rw [hput] at h
        simp only [ho] at hr
        refine AnyE.take hM hT i ho hr ?_ h
        simp only [Fz.lightV, ho, hw, evG, evL, hop, k2, k3, h1, h2, h3]
        rw [if_pos ⟨Int.natCast_nonneg n, Int.ofNat_lt.2 hn, h4⟩]
        rfl
      · cases hx
    · cases hx
theorem AnyE.sto (hT : TOk P T) {rd : Option Nat} {ops : Array Oper} {M : List Nat} {K : Fm → St → Prop} {fuel : Nat} {pend : List (Nat × AV)} {listed : Array Bool} {f : Fm} {st : St} {j t id off : Nat} {v : Int} {k : IntKind} {G : List AV}
    (hj : onlyD ops M pend listed = some (j, [])) (ha : stoAt ops j f = some (t, .ptr id off, .lit (.int k v))) (hb : sizeB T t 1 = true) (hx : st.h.get id = some (.cells none false G)) (hl : off < G.length)
    (h : ∀ G', G' = G.set off (.lit (.int k v)) → AnyE P T ops M rd K fuel [] (listed.setIfInBounds j true) (putAt ops j f undA) ⟨st.h.set id (.cells none false G'), st.n⟩) : AnyE P T ops M rd K (fuel + 1) pend listed f st := fun k1 k2 k3 => by
  have h := h _ rfl
  unfold stoAt at ha
  split at ha
  · cases ha
  · rename_i o ho
    split at ha
    · rename_i hw
      split at ha
      · rename_i t' p x hop
        simp only [Option.some.injEq, Prod.mk.injEq] at ha
        obtain ⟨rfl, e2, e3⟩ := ha
        have hput : ∀ v, putAt ops j f v = f.put o.dst v := fun v => by simp [putAt, ho]
        rw [hput] at h
        have hst : storeO T st (Operand.av f.ts) o = some ⟨st.h.set id (.cells none false (G.set off (.lit (.int k v)))), st.n⟩ := by
          unfold sizeB at hb
          split at hb
          · rename_i ti hti
            have hsz := Nat.eq_of_beq_eq_true hb
            have h1 : (AV.lit (.int k v)).cells = [.lit (.int k v)] := rfl
            have h2 : (AV.lit (.int k v)).one = true := rfl
            have h3 : (AV.lit (.int k v)).norm = .lit (.int k v) := rfl
            simp only [storeO, hop, storeA, e2, e3, ptrOf, hti, hx, h1, hsz, List.length_singleton, List.map_cons, List.map_nil, h3, setsL_one, List.all_cons, h2, List.all_nil]
            rw [if_pos ⟨trivial, by omega, by simp, by omega⟩]
          · cases hb
        unfold onlyD at hj
        split at hj
        · rename_i j' hrd
          split at hj
          · rename_i o1 ho1
            split at hj
            · rename_i hnl
              simp only [Option.some.injEq, Prod.mk.injEq] at hj
              obtain ⟨rfl, hd⟩ := hj
              refine AnyE.one j' ho (by rw [hrd]; exact Nat.beq_refl j') [] hd (OpsW.store hT ho hw hst (.nil ⟨⟨undA, rfl⟩, (show PendOk T ops [] (f.put o.dst undA) _ from fun p hp => absurd hp List.not_mem_nil), h⟩)) k1 k2 k3
            · cases hj
          · cases hj
        · cases hj
      · cases ha
    · cases ha
end Go.Fz
namespace Go.Fz
open Go.Proofs
set_option maxRecDepth 100000
end Go.Fz
namespace Go.Fz
open Go.ChangeShapes Go.WideShapes Go.Deep Go.Joins
section
variable {H : Type} {enc : TypeId × Value → H} {P : Program} {w : World} {base : Nat} {spare : Nat → Bool} {held : Bool}
end
end Go.Fz
namespace Go.Proofs.Ytcjekdfncnmbfaa
open Go.ChangeShapes Go.WideShapes Go.ChangeAt Go.RowKit Go.Joins
set_option linter.unusedVariables false
set_option maxRecDepth 100000
end Go.Proofs.Ytcjekdfncnmbfaa
namespace Go.Fz
open Go.Proofs
set_option maxRecDepth 100000
end Go.Fz
namespace Go.Fz
open Go.Proofs
set_option maxRecDepth 100000
end Go.Fz
namespace Go.Fz
open Go.Proofs
set_option maxRecDepth 100000
end Go.Fz
namespace Go.Fz
open Go.Proofs
set_option maxRecDepth 100000
end Go.Fz
namespace Go.Fz
open Go.Proofs
set_option maxRecDepth 100000
theorem inj_of {l : Hp} {ρ : Nat → Nat} (h : (l.all fun p => l.all fun q => !(Nat.beq (ρ p.1) (ρ q.1)) || Nat.beq p.1 q.1) = true) : ∀ p ∈ l, ∀ q ∈ l, ρ p.1 = ρ q.1 → p.1 = q.1 := fun p hp q hq he => by
  have h1 := List.all_eq_true.1 (List.all_eq_true.1 h p hp) q hq
  rw [he, Nat.beq_refl] at h1
  exact Nat.eq_of_beq_eq_true (by simpa using h1)
end Go.Fz
namespace Go.Fz
open Go.Proofs
set_option maxRecDepth 100000
end Go.Fz
namespace Go.Fz
open Go.Proofs
set_option maxRecDepth 100000
end Go.Fz
namespace Go.Fz
open Go.Proofs
set_option maxRecDepth 100000
end Go.Fz
namespace Go.Fz
open Go.Proofs
set_option maxRecDepth 100000
end Go.Fz
namespace Go.Fz
open Go.Proofs
set_option maxRecDepth 100000
end Go.Fz
namespace Go.Fz
open Go.Proofs
set_option maxRecDepth 100000
end Go.Fz
namespace Go.Fz
open Go.Proofs
set_option maxRecDepth 100000
end Go.Fz
set_option linter.unusedVariables false
set_option linter.unusedSimpArgs false
namespace Go.Fz
open Go.Proofs
set_option maxRecDepth 100000
variable {P : Program} {T : Ti}
theorem PickE.app (hT : TOk P T) {rd : Option Nat} {ops : Array Oper} {M : List Nat} {K : Fm → St → Prop} {fuel : Nat} {pend pend' : List (Nat × AV)} {listed : Array Bool} {f : Fm} {st st' : St} {j t : Nat} {s x r : AV}
    (hd : dropP M j pend = pend') (ha : appAt ops j f = some (t, s, x)) (hr : appendA T st t t s x = some (r, st')) (hk : AllP (fun p => lightV T ops st'.h (putAt ops j f r) p.1 = some p.2) pend')
    (h : AnyE P T ops M rd K fuel pend' (listed.setIfInBounds j true) (putAt ops j f r) st') : PickE P T ops M rd K fuel pend listed f st j := by
  obtain ⟨o, h1, h2, h3, h4⟩ := appAt_ok ha
  rw [h4] at hk h
  exact ⟨o, pend', h1, hd, OpsW.append hT h1 h2 (by rw [h3]; exact hr) (.nil ⟨⟨r, rfl⟩, (show PendOk T ops pend' (f.put o.dst r) st'.h from fun p hp => LV.of (hk.ok p hp)), h⟩)⟩
end Go.Fz
namespace Go.Fz
end Go.Fz
namespace Go.Fz
variable {P : Program} {T : Ti}
end Go.Fz
namespace Go.Fz
variable {P : Program} {T : Ti}
end Go.Fz
namespace Go.Fz
set_option maxRecDepth 100000
section
variable {P : Program} {T : Ti}
end
end Go.Fz
namespace Go.Fz
open Go.Proofs
set_option maxRecDepth 100000
section
variable {P : Program} {T : Ti}
end
end Go.Fz
namespace Go.Fz
open Go.Proofs
set_option maxRecDepth 100000
section
variable {α : Type}
end
end Go.Fz
namespace Go.Fz
open Go.Proofs
set_option maxRecDepth 100000
section
variable {α : Type}
end
end Go.Fz
namespace Go.Fz
set_option maxRecDepth 100000
section
variable {P : Program} {T : Ti}
theorem SW.ren {rd : Option Nat} {c : Code} {Q : Exit → Fm → St → Prop} {f : Fm} {st : St} (h : SW P rd c (fun e f1 st1 => ∃ ρ f2 st2, WeakR st.n ρ f1 st1 f2 st2 ∧ Q e f2 st2) f st) : SW P rd c Q f st := by
  intro φ w a n h1 h2 h3
  refine wpIn_mono (h φ w a n h1 h2 h3) fun e a' w' hl => ?_
  obtain ⟨f1, st1, φ1, ⟨ρ, f2, st2, hw, hq⟩, he, hr, ha, hf⟩ := hl
  obtain ⟨k1, k2, k3⟩ := hw.ok hr ha
  refine ⟨f2, st2, renF φ1 ρ st2.n, hq, ⟨?_, fun id hid => ?_, he.z⟩, k1, k2, hf.trans k3⟩
  · rw [h2.n]; exact hw.lo
  · show φ1.f (ρ id) = _
    rw [hw.idn id (by rw [← h2.n]; exact hid)]
    exact he.f id hid
def tabR : List (Nat × Nat) → Nat → Nat
  | [], j => j
  | (a, b) :: r, j => match Nat.beq a j with
    | true => b
    | false => tabR r j
theorem tabR_id {n : Nat} : ∀ {l : List (Nat × Nat)}, (l.all fun p => Nat.ble n p.1) = true → ∀ j, j < n → tabR l j = j
  | [], _, _, _ => rfl
  | (a, b) :: r, h, j, hj => by
    simp only [List.all_cons, Bool.and_eq_true] at h
    have : n ≤ a := Nat.le_of_ble_eq_true h.1
    unfold tabR
    cases hb : Nat.beq a j with
    | true => have := Nat.eq_of_beq_eq_true hb; omega
    | false => exact tabR_id h.2 j hj
theorem WeakR.tab {n0 : Nat} {tb : List (Nat × Nat)} {f1 : Fm} {st1 : St} {l : List (Nat × AV)} {len : Nat} {dm : List Nat} {h2 : Hp} {n2 : Nat} (e1 : len = f1.ts.len) (e2 : dm = f1.dm) (e3 : ∀ id ∈ dm, id < n0) (hid : (tb.all fun p => Nat.ble n0 p.1) = true) (lo : n0 ≤ n2)
    (hinj : (h2.all fun p => h2.all fun q => !(Nat.beq (tabR tb p.1) (tabR tb q.1)) || Nat.beq p.1 q.1) = true)
    (get : AllP (fun p => RenV (tabR tb) n2 p.2 (f1.ts.get p.1)) l) (obj : AllP (fun p => p.1 < n2 ∧ ∃ o1, st1.h.get (tabR tb p.1) = some o1 ∧ RenO (tabR tb) n2 p.2 o1 ∧ o1.fam = none) h2) : WeakR n0 (tabR tb) f1 st1 ⟨⟨len, getT l⟩, dm⟩ ⟨h2, n2⟩ := by
  refine WeakR.of (m := n2) e1 e2 e3 (tabR_id hid) lo (fun p hp => get.ok p hp) (fun p hp => ?_) (inj_of hinj)
  obtain ⟨h1, o1, h3, h4, h5⟩ := obj.ok p hp
  exact ⟨h1, o1, h3, h4, .inr h5⟩
end
end Go.Fz
namespace Go.Fz
variable {P : Program} {T : Ti}
end Go.Fz
namespace Go.Fz
open Go.Proofs
set_option maxRecDepth 100000
section
variable {P : Program} {T : Ti}
end
section
variable {α : Type}
end
end Go.Fz
namespace Go.Fz
variable {P : Program} {T : Ti}
end Go.Fz
namespace Go.Fz
open Go.Proofs
set_option maxRecDepth 100000
end Go.Fz
namespace Go.Fz
open Go.Proofs
set_option maxRecDepth 100000
end Go.Fz
namespace Go.Fz
open Go.Proofs
set_option maxRecDepth 100000
end Go.Fz
namespace Go.Fz
open Go.Proofs
set_option maxRecDepth 100000
section
variable {α : Type} (next : α → (Nat → Int) → α) (len : α → Nat) (N : Nat) (lo hi : Nat → Int)
end
end Go.Fz
namespace Go.Fz
open Go.Proofs
set_option maxRecDepth 100000
section
variable {P : Program} {T : Ti}
end
section
variable {P : Program}
end
end Go.Fz
namespace Go.Fz
variable {P : Program} {T : Ti}
end Go.Fz
namespace Go.Fz
open Go.Proofs
set_option maxRecDepth 100000
end Go.Fz
namespace Go.Fz
open Go.Proofs
set_option maxRecDepth 100000
end Go.Fz
namespace Go.Fz
open Go.Proofs
set_option maxRecDepth 100000
section
variable {P : Program} {T : Ti}
end
end Go.Fz
namespace Go.Fz
open Go.Proofs
set_option maxRecDepth 100000
end Go.Fz
set_option linter.unusedVariables false
set_option linter.unusedSimpArgs false
namespace Go.Fz
open Go.Proofs
set_option maxRecDepth 100000
section
variable {P : Program} {T : Ti}
end
end Go.Fz
namespace Go.Fz
open Go.Proofs
set_option maxRecDepth 100000
section
variable (K : List (List Nat) → Hp → Nat → Prop) (stop : List (List Nat) → List Nat → Hp → Nat → Prop) (ok : List Nat → Prop) (mc y many : Nat) (ex : Bool)
variable {K stop ok mc y many ex}
end
end Go.Fz
namespace Go.Fz
open Go.Proofs
set_option maxRecDepth 100000
section
variable {K : List (List Nat) → Hp → Nat → Prop} {stop : List (List Nat) → List Nat → Hp → Nat → Prop} {ok : List Nat → Prop} {mc y many : Nat}
end
end Go.Fz
namespace Go.Fz
open Go.Proofs
set_option maxRecDepth 100000
section
variable {K : List (List Nat) → Hp → Nat → Prop} {stop : List (List Nat) → List Nat → Hp → Nat → Prop} {ok : List Nat → Prop} {mc y many : Nat}
end
end Go.Fz
namespace Go.Fz
open Go.Proofs
set_option maxRecDepth 100000
section
variable (d : DayD) (XO : AV) (hX : Below 0 XO) (E : List (Mk × Nat)) (cl : Nat) (hb : Born E cl)
end
end Go.Fz
namespace Go.Fz
open Go.Proofs
set_option maxRecDepth 100000
section
variable (d : DayD) (XO : AV) (E : List (Mk × Nat)) (cl : Nat)
end
end Go.Fz
namespace Go.Fz
open Go.Proofs
set_option maxRecDepth 100000
section
variable (d : DayD) (L : Nat) (G : Nat → Nat → AV) (ME : List (AV × AV × Nat)) (cl : Nat)
end
end Go.Fz
namespace Go.Fz
open Go.Proofs
set_option maxRecDepth 100000
section
variable (d : DayD) (L : Nat) (G : Nat → Nat → AV) (ME : List (AV × AV × Nat)) (cl : Nat) (Q : List Nat → Bool)
variable {d L G ME cl}
end
end Go.Fz
namespace Go.Fz
open Go.Proofs
set_option maxRecDepth 100000
end Go.Fz
namespace Go.Fz
open Go.Proofs
set_option maxRecDepth 100000
set_option linter.unusedVariables false
end Go.Fz
namespace Go.Fz
open Go.Proofs
set_option maxRecDepth 100000
set_option linter.unusedVariables false
end Go.Fz
namespace Go.Fz
open Go.Proofs
set_option maxRecDepth 100000
end Go.Fz
namespace Go.Fz
open Go.Proofs
set_option maxRecDepth 100000
section
variable (nw nl : Nat) (f0 f1 f2 f3 : Nat → Int) (z4 z5 z6 z7 : Int)
end
end Go.Fz
namespace Go.Fz
open Go.Proofs
set_option maxRecDepth 100000
section
end
end Go.Fz
namespace Go.Fz
open Go.Proofs
set_option maxRecDepth 100000
end Go.Fz
namespace Go.Fz
open Go.Proofs
set_option maxRecDepth 100000
end Go.Fz
namespace Go.Fz
open Go.Proofs
set_option maxRecDepth 100000
end Go.Fz
namespace Go.Fz
open Go.Proofs
set_option maxRecDepth 100000
end Go.Fz
namespace Go.Fz
open Go.Proofs
set_option maxRecDepth 100000
end Go.Fz
namespace Go.Fz
open Go.Proofs
set_option maxRecDepth 100000
end Go.Fz
namespace Go.Fz
open Go.Proofs
set_option maxRecDepth 100000
end Go.Fz
namespace Go.Fz
open Go.Proofs
set_option maxRecDepth 100000
end Go.Fz
namespace Go.Fz
open Go.Proofs
set_option maxRecDepth 100000
end Go.Fz
namespace Go.Fz
variable {P : Program}
end Go.Fz
namespace Go.Fz
open Go.Proofs
set_option maxRecDepth 100000
section
variable {P : Program} {T : Ti}
def tkB (ops : Array Oper) (pend : List (Nat × AV)) (listed : Array Bool) (i d : Nat) : Bool := match ops[i]? with
  | some o => (match o.dst with | some x => Nat.beq x d | none => false) && ((Region.ready .any ops listed).contains i && noLookB ops pend o)
  | none => false
end
end Go.Fz
namespace Go.Fz
open Go.Proofs
set_option maxRecDepth 100000
end Go.Fz
namespace Go.Fz
open Go.Proofs
set_option maxRecDepth 100000
set_option linter.unusedVariables false
end Go.Fz
namespace Go.Fz
open Go.Proofs
set_option maxRecDepth 100000
set_option linter.unusedVariables false
end Go.Fz
namespace Go.Fz
open Go.Proofs
set_option maxRecDepth 100000
set_option linter.unusedVariables false
end Go.Fz
namespace Go.Fz
open Go.Proofs
set_option maxRecDepth 100000
set_option linter.unusedVariables false
end Go.Fz
namespace Go.Fz
open Go.Proofs
set_option maxRecDepth 100000
end Go.Fz
namespace Go.Fz
open Go.Proofs
set_option maxRecDepth 100000
set_option pp.deepTerms false
set_option pp.deepTerms.threshold 5
end Go.Fz
namespace Go.Fz
open Go.Proofs
set_option maxRecDepth 100000
end Go.Fz
namespace Go.Fz
open Go.Proofs
set_option maxRecDepth 100000
end Go.Fz
namespace Go.Fz
open Go.Proofs
set_option maxRecDepth 100000
section
variable (d : DayD) (k w lo hi : Int)
end
end Go.Fz
namespace Go.Fz
open Go.Proofs
set_option maxRecDepth 100000
theorem append_noneZ {T : Ti} {t id sz n : Nat} {ex : Bool} {g : Nat → Nat → AV} {st : St} (hz : n = 0) (h : sliceB T t sz = true) (hx : st.h.get id = some (.cells none false [])) :
    appendA T st t t (.sl id 0 0 sz true) (.isl n sz ex g) = some (.sl id 0 0 sz true, st) := by
  subst hz
  exact append_none h hx
theorem append_emptyG {T : Ti} {t id sz n : Nat} {ex : Bool} {g : Nat → Nat → AV} {st : St} {G : List AV} (h : sliceB T t sz = true) (hx : st.h.get id = some (.cells none false [])) (hn : n < 1048576) (h0 : 0 < n) (hone : ∀ i k, (g i k).one = true) (hG : G = flatG sz g n) :
    appendA T st t t (.sl id 0 0 sz true) (.isl n sz ex g) = some (.sl st.n 0 n sz false, st.push (.cells none false G)) := by
  subst hG
  exact append_empty h hx hn h0 hone
section
variable {T : Ti}
end
end Go.Fz
namespace Go.Fz
open Go.Proofs
set_option maxRecDepth 100000
section
variable {P : Program} {T : Ti}
def rdyB (ops : Array Oper) (pend : List (Nat × AV)) (listed : Array Bool) (i : Nat) : Bool := match ops[i]? with
  | some o => (Region.ready .any ops listed).contains i && noLookB ops pend o
  | none => false
theorem AnyE.ldD (hT : TOk P T) {rd : Option Nat} {ops : Array Oper} {M : List Nat} {K : Fm → St → Prop} {fuel : Nat} {pend : List (Nat × AV)} {listed : Array Bool} {f : Fm} {st : St} (hM : tidyB ops M = true) (i : Nat) {t : TypeId} {p r : AV}
    (hx : ldAt ops i f = some (t, p)) (hr : loadA T st.h t p = some r) (hb : rdyB ops pend listed i = true)
    (h : AnyE P T ops M rd K fuel ((i, r) :: pend) (listed.setIfInBounds i true) (putAt ops i f r) st) : AnyE P T ops M rd K (fuel + 1) pend listed f st := by
  unfold rdyB at hb
  unfold ldAt at hx
  split at hx
  · cases hx
  · rename_i o ho
    split at hx
    · rename_i hw
      split at hx
      · rename_i t' p' hop
        simp only [Option.some.injEq, Prod.mk.injEq] at hx
        obtain ⟨rfl, rfl⟩ := hx
        have hput : ∀ v, putAt ops i f v = f.put o.dst v := fun v => by simp [putAt, ho]
        rw [hput] at h
        simp only [ho] at hb
        refine AnyE.take hM hT i ho hb ?_ h
        simp only [Fz.lightV, ho, hw, evG, evL, hop, hr]
      · cases hx
    · cases hx
theorem AnyE.stoK (hT : TOk P T) {rd : Option Nat} {ops : Array Oper} {M : List Nat} {K : Fm → St → Prop} {fuel : Nat} {pend pend' : List (Nat × AV)} {listed : Array Bool} {f : Fm} {st : St} {j t id off : Nat} {v : Int} {k : IntKind} {G : List AV}
    (hj : onlyD ops M pend listed = some (j, pend')) (ha : stoAt ops j f = some (t, .ptr id off, .lit (.int k v))) (hb : sizeB T t 1 = true) (hx : st.h.get id = some (.cells none false G)) (hl : off < G.length)
    (h : ∀ G', G' = G.set off (.lit (.int k v)) → AllP (fun p => lightV T ops (st.h.set id (.cells none false G')) (putAt ops j f undA) p.1 = some p.2) pend' ∧ AnyE P T ops M rd K fuel pend' (listed.setIfInBounds j true) (putAt ops j f undA) ⟨st.h.set id (.cells none false G'), st.n⟩) : AnyE P T ops M rd K (fuel + 1) pend listed f st := fun k1 k2 k3 => by
  obtain ⟨hk, h⟩ := h _ rfl
  unfold stoAt at ha
  split at ha
  · cases ha
  · rename_i o ho
    split at ha
    · rename_i hw
      split at ha
      · rename_i t' p x hop
        simp only [Option.some.injEq, Prod.mk.injEq] at ha
        obtain ⟨rfl, e2, e3⟩ := ha
        have hput : ∀ v, putAt ops j f v = f.put o.dst v := fun v => by simp [putAt, ho]
        rw [hput] at h hk
        have hst : storeO T st (Operand.av f.ts) o = some ⟨st.h.set id (.cells none false (G.set off (.lit (.int k v)))), st.n⟩ := by
          unfold sizeB at hb
          split at hb
          · rename_i ti hti
            have hsz := Nat.eq_of_beq_eq_true hb
            have h1 : (AV.lit (.int k v)).cells = [.lit (.int k v)] := rfl
            have h2 : (AV.lit (.int k v)).one = true := rfl
            have h3 : (AV.lit (.int k v)).norm = .lit (.int k v) := rfl
            simp only [storeO, hop, storeA, e2, e3, ptrOf, hti, hx, h1, hsz, List.length_singleton, List.map_cons, List.map_nil, h3, setsL_one, List.all_cons, h2, List.all_nil]
            rw [if_pos ⟨trivial, by omega, by simp, by omega⟩]
          · cases hb
        unfold onlyD at hj
        split at hj
        · rename_i j' hrd
          split at hj
          · rename_i o1 ho1
            split at hj
            · rename_i hnl
              simp only [Option.some.injEq, Prod.mk.injEq] at hj
              obtain ⟨rfl, hd⟩ := hj
              refine AnyE.one j' ho (by rw [hrd]; exact Nat.beq_refl j') pend' hd (OpsW.store hT ho hw hst (.nil ⟨⟨undA, rfl⟩, (show PendOk T ops pend' (f.put o.dst undA) _ from fun p hp => LV.of (hk.ok p hp)), h⟩)) k1 k2 k3
            · cases hj
          · cases hj
        · cases hj
      · cases ha
    · cases ha
def nilCAt (ops : Array Oper) (i : Nat) (f : Fm) : Option AV := match ops[i]? with
  | none => none
  | some o => match wantA ops f.ts o with
    | some true => match o.op with
      | .nilCheck x => some (Operand.av f.ts x)
      | _ => none
    | _ => none
theorem OpsW.nilC {rd : Option Nat} {ops : Array Oper} {i : Nat} {l : List Nat} {K : Fm → St → Prop} {f : Fm} {st : St} {id off : Nat} (hn : nilCAt ops i f = some (.ptr id off))
    (h0 : OpsW P rd ops l K (putAt ops i f (.ptr id off)) st) : OpsW P rd ops (i :: l) K f st := by
  unfold nilCAt at hn
  split at hn
  · cases hn
  · rename_i o ho
    split at hn
    · rename_i hw
      split at hn
      · rename_i x hx
        simp only [Option.some.injEq] at hn
        have hput : ∀ v, putAt ops i f v = f.put o.dst v := fun v => by simp [putAt, ho]
        rw [hput] at h0
        intro φ w a n Q k1 k2 k3 hQ
        have hxx := opR_of k3.ts x
        rw [hn] at hxx
        simp only [wpOpsIn, ho]
        rw [wanted_eq k3 ops hw]
        simp only [if_true]
        refine ⟨fun _ _ => trivial, ?_⟩
        rw [semAt_eq (fun c hc => by rw [hx] at hc; cases hc)]
        have hp := hxx.ptr_inv.1
        have key : (execOp a.eval o).run P w = .ok (.value (a.eval x)) w := by
          simp only [execOp, hx, hp]
          rfl
        rw [key]
        exact h0 φ w _ n Q k1 k2 (k3.put o.dst hxx) hQ
      · cases hn
    · cases hn
theorem PickE.nilC {ops : Array Oper} {M : List Nat} {rd : Option Nat} {K : Fm → St → Prop} {fuel : Nat} {pend pend' : List (Nat × AV)} {listed : Array Bool} {f : Fm} {st : St} {j id off : Nat} (hd : dropP M j pend = pend') (hx : nilCAt ops j f = some (.ptr id off))
    (hk : AllP (fun p => lightV T ops st.h (putAt ops j f (.ptr id off)) p.1 = some p.2) pend') (h : AnyE P T ops M rd K fuel pend' (listed.setIfInBounds j true) (putAt ops j f (.ptr id off)) st) : PickE P T ops M rd K fuel pend listed f st j := by
  have hx' := hx
  unfold nilCAt at hx
  split at hx
  · cases hx
  · rename_i o ho
    have hput : ∀ v, putAt ops j f v = f.put o.dst v := fun v => by simp [putAt, ho]
    exact ⟨o, pend', ho, hd, OpsW.nilC hx' (.nil ⟨⟨_, hput _⟩, (show PendOk T ops pend' (putAt ops j f (.ptr id off)) st.h from fun p hpm => LV.of (hk.ok p hpm)), h⟩)⟩
theorem AnyE.nilC {ops : Array Oper} {M : List Nat} {rd : Option Nat} {K : Fm → St → Prop} {fuel : Nat} {pend pend' : List (Nat × AV)} {listed : Array Bool} {f : Fm} {st : St} {j id off : Nat} (hj : onlyD ops M pend listed = some (j, pend')) (hx : nilCAt ops j f = some (.ptr id off))
    (h : AnyE P T ops M rd K fuel pend' (listed.setIfInBounds j true) (putAt ops j f (.ptr id off)) st) : AnyE P T ops M rd K (fuel + 1) pend listed f st := fun k1 k2 k3 => by
  unfold onlyD at hj
  split at hj
  · rename_i j' hr
    split at hj
    · rename_i o ho
      split at hj
      · rename_i hnl
        cases hj
        have hput : ∀ v, putAt ops j f v = f.put o.dst v := fun v => by simp [putAt, ho]
        refine AnyE.one j ho (by rw [hr]; exact Nat.beq_refl j) _ rfl (OpsW.nilC hx (.nil ⟨⟨_, hput _⟩, fun p hpm => ?_, h⟩)) k1 k2 k3
        show LV T ops st.h (putAt ops j f (.ptr id off)) p.1 p.2
        rw [hput, LV_put (fun q hq d hd => noLookB_ok hnl p hpm q hq d hd)]
        exact k3 p (List.mem_filter.1 hpm).1
      · cases hj
    · cases hj
  · cases hj
theorem Eqv.room {len sz : Nat} {g : Nat → Nat → AV} : Eqv (.isl len sz true g) (.isl len sz false g) := fun φ u hv => by
  rcases hv.isl_inv with ⟨rfl, rfl⟩ | ⟨b, o, cap, c, us, rfl, hz, hcc, hus, hcap, _⟩
  · exact .isl0 _ _ _
  · exact .isl _ _ _ _ b o cap c us hz hcc hus hcap (fun h => by cases h)
end
theorem frz_slX {h : Hp} {D : Nat → Bool} {id sz n : Nat} {ex : Bool} {fm : Option Nat} {G : List AV} (hd : D id = true) (hg : h.get id = some (.cells fm false G)) (hl : n * sz ≤ G.length) :
    frz h D 3 (.sl id 0 n sz ex) = .isl n sz ex (fun i k => frz h D 2 (G.getD (0 + i * sz + k) .any)) := by
  show (if D id = true then (match h.get id with | some (.cells _ false cs) => if 0 + n * sz ≤ cs.length then AV.isl n sz ex (fun i k => frz h D 2 (cs.getD (0 + i * sz + k) .any)) else .any | _ => .any) else _) = _
  rw [if_pos hd, hg]
  exact if_pos (by omega)
end Go.Fz
namespace Go.Fz
open Go.Proofs
set_option maxRecDepth 100000
end Go.Fz
namespace Go.Fz
open Go.Proofs
set_option maxRecDepth 100000
set_option linter.unusedVariables false
end Go.Fz
namespace Go.Fz
open Go.Proofs
set_option maxRecDepth 100000
set_option linter.unusedVariables false
end Go.Fz
namespace Go.Fz
open Go.Proofs
set_option maxRecDepth 100000
set_option linter.unusedVariables false
end Go.Fz
namespace Go.Fz
open Go.Proofs
set_option maxRecDepth 100000
end Go.Fz
namespace Go.Fz
open Go.Proofs
set_option maxRecDepth 100000
set_option linter.unusedVariables false
section
variable {P : Program}
end
end Go.Fz
namespace Go.Fz
open Go.Proofs
set_option maxRecDepth 100000
set_option linter.unusedVariables false
end Go.Fz
namespace Go.Fz
open Go.Proofs
set_option maxRecDepth 100000
set_option linter.unusedVariables false
end Go.Fz
namespace Go.Fz
open Go.Proofs
set_option maxRecDepth 100000
set_option linter.unusedVariables false
end Go.Fz
set_option linter.unusedVariables false
set_option linter.unusedSimpArgs false
namespace Go.Fz
open Go.Proofs
set_option maxRecDepth 100000
set_option linter.unusedVariables false
end Go.Fz
namespace Go.Fz
open Go.Proofs
set_option maxRecDepth 100000
set_option linter.unusedVariables false
end Go.Fz
namespace Go.Fz
open Go.Proofs
set_option maxRecDepth 100000
end Go.Fz
namespace Go.Fz
open Go.Proofs
set_option maxRecDepth 100000
end Go.Fz
namespace Go.Fz
open Go.Proofs
set_option maxRecDepth 100000
end Go.Fz
namespace Go.Fz
open Go.Proofs
set_option maxRecDepth 100000
end Go.Fz
namespace Go.Fz
open Go.Proofs
set_option maxRecDepth 100000
set_option linter.unusedVariables false
end Go.Fz
namespace Go.Fz
open Go.Proofs
set_option maxRecDepth 100000
set_option linter.unusedVariables false
section
variable {n : Nat} {lo hi t : Nat → Int}
end
end Go.Fz
namespace Go.Fz
open Go.Proofs
set_option maxRecDepth 100000
set_option linter.unusedVariables false
end Go.Fz
namespace Go.Fz
open Go.Proofs
set_option maxRecDepth 100000
set_option linter.unusedVariables false
end Go.Fz
namespace Go.Fz
open Go.Proofs
set_option maxRecDepth 100000
set_option linter.unusedVariables false
end Go.Fz
namespace Go.Fz
open Go.Proofs
set_option maxRecDepth 100000
set_option linter.unusedVariables false
end Go.Fz
namespace Go.Fz
open Go.Proofs
set_option maxRecDepth 100000
variable {d x : DayD}
end Go.Fz
namespace Go.Fz
open Go.Proofs
set_option maxRecDepth 100000
set_option linter.unusedVariables false
end Go.Fz
namespace Go.Fz
open Go.Proofs
set_option maxRecDepth 100000
set_option linter.unusedVariables false
section
variable {d : DayD} {x : List Nat} {fe : Nat → Int}
end
end Go.Fz
namespace Go.Fz
open Go.Proofs
set_option maxRecDepth 100000
set_option linter.unusedVariables false
section
variable {P : Program} {T : Ti}
theorem AnyE.sto2 (hT : TOk P T) {rd : Option Nat} {ops : Array Oper} {M : List Nat} {K : Fm → St → Prop} {fuel : Nat} {pend : List (Nat × AV)} {listed : Array Bool} {f : Fm} {st : St} {j t id off : Nat} {u v : Int} {G : List AV}
    (hj : onlyD ops M pend listed = some (j, [])) (ha : stoAt ops j f = some (t, .ptr id off, .agg [iV u, iV v])) (hb : sizeB T t 2 = true) (hx : st.h.get id = some (.cells none false G)) (hl : off + 2 ≤ G.length)
    (h : ∀ G', G' = (G.set off (iV u)).set (off + 1) (iV v) → AnyE P T ops M rd K fuel [] (listed.setIfInBounds j true) (putAt ops j f undA) ⟨st.h.set id (.cells none false G'), st.n⟩) : AnyE P T ops M rd K (fuel + 1) pend listed f st := fun k1 k2 k3 => by
  have h := h _ rfl
  unfold stoAt at ha
  split at ha
  · cases ha
  · rename_i o ho
    split at ha
    · rename_i hw
      split at ha
      · rename_i t' p x hop
        simp only [Option.some.injEq, Prod.mk.injEq] at ha
        obtain ⟨rfl, e2, e3⟩ := ha
        have hput : ∀ v, putAt ops j f v = f.put o.dst v := fun v => by simp [putAt, ho]
        rw [hput] at h
        have hst : storeO T st (Operand.av f.ts) o = some ⟨st.h.set id (.cells none false ((G.set off (iV u)).set (off + 1) (iV v))), st.n⟩ := by
          unfold sizeB at hb
          split at hb
          · rename_i ti hti
            have hsz := Nat.eq_of_beq_eq_true hb
            have h1 : (AV.agg [iV u, iV v]).cells = [iV u, iV v] := rfl
            have h2 : ∀ z : Int, (iV z).one = true := fun _ => rfl
            have h3 : ∀ z : Int, (iV z).norm = iV z := fun _ => rfl
            simp only [storeO, hop, storeA, e2, e3, ptrOf, hti, hx, h1, hsz, List.length_cons, List.length_nil, List.map_cons, List.map_nil, h3, List.all_cons, h2, List.all_nil]
            rw [if_pos ⟨trivial, by omega, by simp, by omega⟩]
            rfl
          · cases hb
        unfold onlyD at hj
        split at hj
        · rename_i j' hrd
          split at hj
          · rename_i o1 ho1
            split at hj
            · rename_i hnl
              simp only [Option.some.injEq, Prod.mk.injEq] at hj
              obtain ⟨rfl, hd⟩ := hj
              refine AnyE.one j' ho (by rw [hrd]; exact Nat.beq_refl j') [] hd (OpsW.store hT ho hw hst (.nil ⟨⟨undA, rfl⟩, (show PendOk T ops [] (f.put o.dst undA) _ from fun p hp => absurd hp List.not_mem_nil), h⟩)) k1 k2 k3
            · cases hj
          · cases hj
        · cases hj
      · cases ha
    · cases ha
end
end Go.Fz
namespace Go.Fz
open Go.Proofs
set_option maxRecDepth 100000
set_option linter.unusedVariables false
section
variable {P : Program} {T : Ti}
end
end Go.Fz
namespace Go.Fz
open Go.Proofs
set_option maxRecDepth 100000
set_option linter.unusedVariables false
def cB : Code → Code
  | .block _ c => c
  | c => c
end Go.Fz
namespace Go.Fz
open Go.Proofs
set_option maxRecDepth 100000
set_option linter.unusedVariables false
end Go.Fz
namespace Go.Fz
open Go.Proofs
set_option maxRecDepth 100000
set_option linter.unusedVariables false
end Go.Fz
namespace Go.Fz
open Go.Proofs
set_option maxRecDepth 100000
set_option linter.unusedVariables false
end Go.Fz
namespace Go.Fz
open Go.Proofs
set_option maxRecDepth 100000
set_option linter.unusedVariables false
end Go.Fz
namespace Go.Fz
open Go.Proofs
set_option maxRecDepth 100000
set_option linter.unusedVariables false
end Go.Fz
namespace Go.Fz
open Go.Proofs
set_option maxRecDepth 100000
set_option linter.unusedVariables false
end Go.Fz
namespace Go.Proofs.Ytcjekdfncnmbfaa
open Go.ChangeShapes Go.WideShapes Go.ChangeAt Go.RowKit Go.Joins
set_option linter.unusedVariables false
set_option maxRecDepth 100000
end Go.Proofs.Ytcjekdfncnmbfaa
namespace Go.Fz
open Go.Proofs
set_option maxRecDepth 100000
set_option linter.unusedVariables false
end Go.Fz
namespace Go.Fz
open Go.Proofs
set_option maxRecDepth 100000
set_option linter.unusedVariables false
end Go.Fz
namespace Go.Fz
open Go.Proofs
set_option maxRecDepth 100000
set_option linter.unusedVariables false
end Go.Fz
namespace Go.Fz
open Go.Proofs
set_option maxRecDepth 100000
set_option linter.unusedVariables false
end Go.Fz
namespace Go.Fz
open Go.Proofs
set_option maxRecDepth 100000
set_option linter.unusedVariables false
end Go.Fz
namespace Go.Fz
open Go.Proofs
set_option maxRecDepth 100000
set_option linter.unusedVariables false
end Go.Fz
namespace Go.Fz
open Go.Proofs
set_option maxRecDepth 100000
set_option linter.unusedVariables false
end Go.Fz
namespace Go.Fz
open Go.Proofs
set_option maxRecDepth 100000
set_option linter.unusedVariables false
section
variable {P : Program} {T : Ti}
end
end Go.Fz
namespace Go.Fz
open Go.Proofs
set_option maxRecDepth 100000
set_option linter.unusedVariables false
end Go.Fz
namespace Go.Fz
open Go.Proofs
set_option maxRecDepth 100000
set_option linter.unusedVariables false
end Go.Fz
namespace Go.Fz
open Go.Proofs
set_option maxRecDepth 100000
set_option linter.unusedVariables false
end Go.Fz
namespace Go.Fz
open Go.Proofs
set_option maxRecDepth 100000
set_option linter.unusedVariables false
end Go.Fz
namespace Go.Fz
open Go.Proofs
set_option maxRecDepth 100000
set_option linter.unusedVariables false
end Go.Fz
namespace Go.Fz
open Go.Proofs
set_option maxRecDepth 100000
set_option linter.unusedVariables false
end Go.Fz
namespace Go.Fz
open Go.Proofs
set_option maxRecDepth 100000
set_option linter.unusedVariables false
end Go.Fz
namespace Go.Fz
open Go.Proofs
set_option maxRecDepth 100000
set_option linter.unusedVariables false
end Go.Fz
namespace Go.Fz
open Go.Proofs
set_option maxRecDepth 100000
set_option linter.unusedVariables false
end Go.Fz
namespace Go.Fz
open Go.Proofs
set_option maxRecDepth 100000
set_option linter.unusedVariables false
end Go.Fz
namespace Go.Fz
open Go.Proofs
set_option maxRecDepth 100000
set_option linter.unusedVariables false
end Go.Fz
namespace Go.Fz
open Go.Proofs
set_option maxRecDepth 100000
set_option linter.unusedVariables false
end Go.Fz
namespace Go.Fz
open Go.Proofs
set_option maxRecDepth 100000
set_option linter.unusedVariables false
end Go.Fz
namespace Go.Fz
open Go.Proofs
set_option maxRecDepth 100000
set_option linter.unusedVariables false
end Go.Fz
namespace Go.Fz
open Go.Proofs
set_option maxRecDepth 100000
set_option linter.unusedVariables false
end Go.Fz
namespace Go.Fz
open Go.Proofs
set_option maxRecDepth 100000
set_option linter.unusedVariables false
section
variable (d : DayD) (m : Nat) (k w lo hi : Nat → Int)
end
end Go.Fz
namespace Go.Proofs.Ytcjekdfncnmbfaa
open Go.ChangeShapes Go.WideShapes Go.ChangeAt Go.RowKit Go.Joins
set_option linter.unusedVariables false
set_option maxRecDepth 100000
end Go.Proofs.Ytcjekdfncnmbfaa
namespace Go.Fz
open Go.Proofs
set_option maxRecDepth 100000
set_option linter.unusedVariables false
section
variable {P : Program} {T : Ti} {β γ : Type}
variable [DecidableEq β]
end
end Go.Fz
namespace Go.Fz
set_option maxRecDepth 100000
set_option linter.unusedVariables false
section
variable {α : Type}
end
end Go.Fz
set_option linter.unusedVariables false
namespace Go.Fz
open Go.Proofs
set_option maxRecDepth 100000
end Go.Fz
set_option linter.unusedVariables false
namespace Go.Fz
open Go.Proofs
set_option maxRecDepth 100000
theorem not_bad {y : YardD} {f : Nat → Int} : y.badB f = false ↔ ∀ p, p < y.nc → y.rgt f p = true := by
  unfold YardD.badB
  rw [decide_eq_false_iff_not, Nat.not_lt, Nat.le_zero, List.length_eq_zero_iff]
  unfold YardD.wrN
  rw [List.filter_eq_nil_iff]
  constructor
  · intro h p hp
    have := h p (List.mem_range.2 hp)
    simpa using this
  · intro h p hp
    have := h p (List.mem_range.1 hp)
    simp [this]
theorem mem_wrN {y : YardD} {f : Nat → Int} {n p : Nat} : p ∈ y.wrN f n ↔ p < n ∧ y.rgt f p = false := by
  unfold YardD.wrN
  rw [List.mem_filter, List.mem_range]
  simp
end Go.Fz
set_option linter.unusedVariables false
namespace Go.Fz
open Go.Proofs
set_option maxRecDepth 100000
theorem memGetD {l : List Nat} {p : Nat} : p ∈ l ↔ ∃ j, j < l.length ∧ l.getD j 0 = p := by
  constructor
  · intro h
    obtain ⟨j, hj, rfl⟩ := List.getElem_of_mem h
    exact ⟨j, hj, by rw [List.getD_eq_getElem?_getD, List.getElem?_eq_getElem hj]; rfl⟩
  · rintro ⟨j, hj, rfl⟩
    rw [List.getD_eq_getElem?_getD, List.getElem?_eq_getElem hj]
    exact List.getElem_mem hj
theorem hasN_iff {l : List Nat} {p : Nat} : hasN l.length (fun j => ((l.getD j 0 : Nat) : Int)) (p : Int) = true ↔ p ∈ l := by
  unfold hasN
  rw [decide_eq_true_eq, memGetD]
  constructor
  · rintro ⟨j, hj, h⟩
    exact ⟨j, hj, Int.ofNat_inj.1 h⟩
  · rintro ⟨j, hj, h⟩
    exact ⟨j, hj, congrArg Int.ofNat h⟩
theorem wrB_iff {y : YardD} {f : Nat → Int} {l : List Nat} : y.wrB f l = true ↔ ∀ p, p < y.nc → y.rgt f p = false → p ∈ l := by
  unfold YardD.wrB subB allN
  rw [decide_eq_true_eq]
  constructor
  · intro h p hp hr
    obtain ⟨j, hj, e⟩ := memGetD.1 (mem_wrN.2 ⟨hp, hr⟩)
    have := h j hj
    simp only [e] at this
    exact hasN_iff.1 this
  · intro h j hj
    have hm : (y.wrN f y.nc).getD j 0 ∈ y.wrN f y.nc := memGetD.2 ⟨j, hj, rfl⟩
    have := mem_wrN.1 hm
    exact hasN_iff.2 (h _ this.1 this.2)
def coL (nc : Nat) (l : List Nat) : List Nat := (List.range nc).filter fun p => !l.contains p
theorem mem_coL {nc : Nat} {l : List Nat} {p : Nat} : p ∈ coL nc l ↔ p < nc ∧ p ∉ l := by
  unfold coL
  rw [List.mem_filter, List.mem_range]
  simp
theorem co_wr {y : YardD} {f : Nat → Int} {l : List Nat} : (∀ p ∈ coL y.nc l, y.rgt f p = true) ↔ y.wrB f l = true := by
  rw [wrB_iff]
  constructor
  · intro h p hp hr
    apply Classical.byContradiction
    intro hn
    rw [h p (mem_coL.2 ⟨hp, hn⟩)] at hr
    cases hr
  · intro h p hp
    obtain ⟨h1, h2⟩ := mem_coL.1 hp
    cases hr : y.rgt f p with
    | true => rfl
    | false => exact absurd (h p h1 hr) h2
theorem lvB_iff {y : YardD} {S : List (Nat → Int)} {l : List Nat} : y.lvB S l = true ↔ ∃ f ∈ S, ∀ p ∈ coL y.nc l, y.rgt f p = true := by
  unfold YardD.lvB
  rw [List.any_eq_true]
  constructor
  · rintro ⟨f, hf, h⟩; exact ⟨f, hf, co_wr.2 h⟩
  · rintro ⟨f, hf, h⟩; exact ⟨f, hf, co_wr.1 h⟩
theorem rng_ris5 : ∀ nc : Fin 6, List.range nc.1 ∈ risL nc.1 := by decide +kernel
end Go.Fz
set_option linter.unusedVariables false
namespace Go.Fz
open Go.Proofs
set_option maxRecDepth 100000
theorem mem_allS {y : YardD} {f : Nat → Int} : f ∈ y.allS ↔ (∀ b, b ∉ List.range y.nb → f b = 0) ∧ y.Sch (List.range y.nb) f := by
  have h := foldS_all (y := y) (next := appS) (S := fun s => f ∈ s) (G := fun g => f = g) (fun s g => by unfold appS; rw [List.mem_append, List.mem_singleton]) (L := List.range y.nb) List.pairwise_lt_range []
  refine Iff.trans h ?_
  constructor
  · rintro (h | ⟨g, h1, h2, rfl⟩)
    · cases h
    · exact ⟨h1, h2⟩
  · rintro ⟨h1, h2⟩
    exact .inr ⟨f, h1, h2, rfl⟩
theorem mem_kept {y : YardD} {f : Nat → Int} : f ∈ y.kept ↔ f ∈ y.allS ∧ ∀ p, p < y.nc → y.rgt f p = true := by
  unfold YardD.kept kpS
  rw [List.mem_filter]
  constructor
  · rintro ⟨h1, h2⟩
    exact ⟨h1, not_bad.1 (by simpa using h2)⟩
  · rintro ⟨h1, h2⟩
    exact ⟨h1, by rw [not_bad.2 h2]; rfl⟩
theorem anyW_iff {S : List (Nat → Int)} {b w : Int} : anyW S b w = true ↔ ∃ f ∈ S, f b.toNat = w := by
  unfold anyW
  rw [decide_eq_true_eq]
  have hg : ∀ j, (hj : j < S.length) → S.getD j f0 = S[j] := fun j hj => by rw [List.getD_eq_getElem?_getD, List.getElem?_eq_getElem hj]; rfl
  constructor
  · rintro ⟨i, hi, h⟩
    rw [hg i hi] at h
    exact ⟨_, List.getElem_mem hi, of_decide_eq_true h⟩
  · rintro ⟨f, hf, h⟩
    obtain ⟨i, hi, rfl⟩ := List.getElem_of_mem hf
    exact ⟨i, hi, by rw [hg i hi]; exact decide_eq_true h⟩
theorem mem_wkN {S : List (Nat → Int)} {b lo w : Int} : ∀ n, w ∈ wkN S b lo n ↔ (lo ≤ w ∧ w < lo + (n : Nat)) ∧ anyW S b w = true
  | 0 => by
    constructor
    · intro h; cases h
    · rintro ⟨h, _⟩; omega
  | n + 1 => by
    have ih := mem_wkN (S := S) (b := b) (lo := lo) (w := w) n
    show w ∈ nxW S b (wkN S b lo n) (lo + (n : Nat)) ↔ _
    unfold nxW
    constructor
    · intro h
      split at h
      · rename_i ha
        rcases List.mem_append.1 h with h | h
        · have := ih.1 h
          exact ⟨by omega, this.2⟩
        · rw [List.mem_singleton.1 h]
          exact ⟨by omega, ha⟩
      · have := ih.1 h
        exact ⟨by omega, this.2⟩
    · rintro ⟨h1, h2⟩
      by_cases e : w = lo + (n : Nat)
      · subst e
        rw [if_pos h2]
        exact List.mem_append.2 (.inr (List.mem_singleton.2 rfl))
      · have := ih.2 ⟨by omega, h2⟩
        split
        · exact List.mem_append.2 (.inl this)
        · exact this
theorem len_fin5 : ∀ nc : Fin 6, (risL nc.1).Pairwise (fun a b => a.length ≤ b.length) := by decide +kernel
end Go.Fz
set_option linter.unusedVariables false
namespace Go.Fz
open Go.Proofs
set_option maxRecDepth 100000
set_option maxHeartbeats 8000000 in
theorem has50_ok (n : Nat) (ex : Bool) (fl : Nat → Int) (x : Int) (hn : n < 1000) : Pure Try.prog 50 [intsV n ex fl, iV x] (.sb (hasN n fl x)) := by
  obtain ⟨O, hO⟩ : ∃ O : Ar, O = std := ⟨_, rfl⟩
  have hnat : ∀ i : Nat, O.nat (Int.ofNat i) = i := fun i => by subst hO; rfl
  refine pure_of_body tok 3 Try.func50 en50 rfl ⟨intsV_below _ _ _, Below.lit, trivial⟩ Below.sb ?_
  refine SW.seqRun tok hO (by cbv <;> rfl) (by trivial) ?_
  refine SW.seq ?_
  refine SW.seqRun tok hO (by cbv <;> rfl) (by trivial) ?_
  refine (SW.block (SW.loopF (fun i : Nat => ⟨⟨18, getT [(0, intsV n ex fl), (1, iV x), (5, iV i)]⟩, []⟩) (fun _ => ⟨[], 0⟩) (fun i => n - i) (fun i => i ≤ n ∧ ∀ j, j < i → fl j ≠ x) 0
    (fun _ => rfl) ⟨Nat.zero_le _, fun j hj => absurd hj (Nat.not_lt_zero _)⟩ (Weak.by rfl rfl (by simp) (Nat.le_refl _) (Nat.le_refl _) ⟨⟨rfl, .inl rfl⟩, ⟨rfl, .inl rfl⟩, ⟨rfl, .inl rfl⟩, trivial⟩ trivial) fun i hi => ?_))
  obtain ⟨hi, hbefore⟩ := hi
  have hni := hnat i
  show SW _ _ _ _ ⟨⟨18, getT [(0, intsV n ex fl), (1, iV x), (5, iV i)]⟩, []⟩ _
  refine SW.seq ?_
  refine SW.seqRun tok hO (by cbv <;> rfl) (by trivial) ?_
  refine SW.condS (by cbv <;> rfl) (fun h => SW.skip ?_) (fun h => SW.exit ?_)
  · have hlt : i < n := by
      have : (i : Int) < (n : Int) := by subst hO; simpa [std] using h
      omega
    have k0 : (0 : Int) ≤ Int.ofNat i := Int.natCast_nonneg i
    have kN : Int.ofNat i < Int.ofNat n := Int.ofNat_lt.2 hlt
    have hbig : i < 4611686018427387904 := Nat.lt_trans hlt (Nat.lt_trans hn (by decide))
    refine SW.seq (SW.block ?_)
    refine SW.seqRun tok hO (by cbv <;> rfl) ?_ ?_
    · exact ⟨k0, kN⟩
    refine SW.condS (by cbv <;> rfl) (fun h2 => ?_) (fun h2 => SW.skip ?_)
    · have he : fl i = x := by
        have h3 : O.cmp .eql (fl (O.nat (Int.ofNat i))) x = true := h2
        rw [hni] at h3
        subst hO; simpa [std] using h3
      refine SW.seqRun tok hO (by cbv <;> rfl) (by trivial) ?_
      refine SW.ret ⟨_, _, rfl, rfl, Eqv.bool ?_⟩
      unfold hasN
      exact (decide_eq_true ⟨i, hlt, he⟩).symm
    · have he : fl i ≠ x := by
        have h3 : O.cmp .eql (fl (O.nat (Int.ofNat i))) x = false := h2
        rw [hni] at h3
        subst hO; simpa [std] using h3
      refine SW.run tok hO (by cbv <;> rfl) (by trivial) ?_
      refine ⟨i + 1, by omega, ⟨by omega, fun j hj => ?_⟩, Weak.by rfl rfl (by simp) (Nat.le_refl _) (Nat.le_refl _) ⟨⟨rfl, .inl rfl⟩, ⟨rfl, .inl rfl⟩, ⟨inc_ok hO hbig, .inl rfl⟩, trivial⟩ trivial⟩
      by_cases e : j = i
      · subst e; exact he
      · exact hbefore j (by omega)
  · have hz : i = n := by
      have : (n : Int) ≤ (i : Int) := by subst hO; simpa [std] using h
      omega
    subst hz
    refine SW.seqRun tok hO (by cbv <;> rfl) (by trivial) ?_
    refine SW.ret ⟨_, _, rfl, rfl, Eqv.bool ?_⟩
    unfold hasN
    exact (decide_eq_false fun ⟨j, hj, h⟩ => hbefore j hj h).symm
def conB (na nb : Nat) (fa fb : Nat → Int) : Bool := allN nb fun i => hasN na fa (fb i)
set_option maxHeartbeats 8000000 in
theorem contains51_ok (na nb : Nat) (ea eb : Bool) (fa fb : Nat → Int) (hna : na < 1000) (hnb : nb < 1000) : Pure Try.prog 51 [intsV na ea fa, intsV nb eb fb] (.sb (conB na nb fa fb)) := by
  obtain ⟨O, hO⟩ : ∃ O : Ar, O = std := ⟨_, rfl⟩
  have hnat : ∀ i : Nat, O.nat (Int.ofNat i) = i := fun i => by subst hO; rfl
  refine pure_of_body tok 3 Try.func51 en51 rfl ⟨intsV_below _ _ _, intsV_below _ _ _, trivial⟩ Below.sb ?_
  refine SW.seqRun tok hO (by cbv <;> rfl) (by trivial) ?_
  refine SW.seq ?_
  refine SW.seqRun tok hO (by cbv <;> rfl) (by trivial) ?_
  refine (SW.block (SW.loopF (fun i : Nat => ⟨⟨19, getT [(0, intsV na ea fa), (1, intsV nb eb fb), (5, iV i)]⟩, []⟩) (fun _ => ⟨[], 0⟩) (fun i => nb - i) (fun i => i ≤ nb ∧ ∀ j, j < i → hasN na fa (fb j) = true) 0
    (fun _ => rfl) ⟨Nat.zero_le _, fun j hj => absurd hj (Nat.not_lt_zero _)⟩ (Weak.by rfl rfl (by simp) (Nat.le_refl _) (Nat.le_refl _) ⟨⟨rfl, .inl rfl⟩, ⟨rfl, .inl rfl⟩, ⟨rfl, .inl rfl⟩, trivial⟩ trivial) fun i hi => ?_))
  obtain ⟨hi, hbefore⟩ := hi
  have hni := hnat i
  show SW _ _ _ _ ⟨⟨19, getT [(0, intsV na ea fa), (1, intsV nb eb fb), (5, iV i)]⟩, []⟩ _
  refine SW.seq ?_
  refine SW.seqRun tok hO (by cbv <;> rfl) (by trivial) ?_
  refine SW.condS (by cbv <;> rfl) (fun h => SW.skip ?_) (fun h => SW.exit ?_)
  · have hlt : i < nb := by
      have : (i : Int) < (nb : Int) := by subst hO; simpa [std] using h
      omega
    have k0 : (0 : Int) ≤ Int.ofNat i := Int.natCast_nonneg i
    have kN : Int.ofNat i < Int.ofNat nb := Int.ofNat_lt.2 hlt
    have hbig : i < 4611686018427387904 := Nat.lt_trans hlt (Nat.lt_trans hnb (by decide))
    have e50 := has50_ok na ea fa (fb i) hna
    obtain ⟨H, hH⟩ : ∃ H, hasN na fa (fb i) = H := ⟨_, rfl⟩
    rw [hH] at e50
    rw [← hni] at e50
    refine SW.seq (SW.block ?_)
    refine SW.seqRun tok hO (by cbv <;> rfl) ?_ ?_
    · exact ⟨k0, kN⟩
    refine OpsW.callP e50 (by cbv <;> rfl) ?_
    refine OpsW.run tok hO (by cbv <;> rfl) (by trivial) ?_
    refine SW.condS (by cbv <;> rfl) (fun h2 => ?_) (fun h2 => SW.skip ?_)
    · have he : H = false := by
        have h3 : O.not H = true := h2
        subst hO
        cases H with
        | true => cases h3
        | false => rfl
      refine SW.seqRun tok hO (by cbv <;> rfl) (by trivial) ?_
      refine SW.ret ⟨_, _, rfl, rfl, Eqv.bool ?_⟩
      unfold conB allN
      refine (decide_eq_false fun h => ?_).symm
      have this : hasN na fa (fb i) = true := h i hlt
      rw [hH, he] at this
      cases this
    · have he : H = true := by
        have h3 : O.not H = false := h2
        subst hO
        cases H with
        | true => rfl
        | false => cases h3
      refine SW.run tok hO (by cbv <;> rfl) (by trivial) ?_
      refine ⟨i + 1, by omega, ⟨by omega, fun j hj => ?_⟩, Weak.by rfl rfl (by simp) (Nat.le_refl _) (Nat.le_refl _) ⟨⟨rfl, .inl rfl⟩, ⟨rfl, .inl rfl⟩, ⟨inc_ok hO hbig, .inl rfl⟩, trivial⟩ trivial⟩
      by_cases e : j = i
      · subst e; rw [hH, he]
      · exact hbefore j (by omega)
  · have hz : i = nb := by
      have : (nb : Int) ≤ (i : Int) := by subst hO; simpa [std] using h
      omega
    subst hz
    refine SW.seqRun tok hO (by cbv <;> rfl) (by trivial) ?_
    refine SW.ret ⟨_, _, rfl, rfl, Eqv.bool ?_⟩
    unfold conB allN
    exact (decide_eq_true hbefore).symm
end Go.Fz
set_option linter.unusedVariables false
namespace Go.Fz
open Go.Proofs
set_option maxRecDepth 100000
def trueQ3 (fn : Func) : Exit → Fm → St → Prop := retQ T fn (fun v st' => Eqv (frz st'.h (fun _ => true) 3 v) (.lit (.bool true)))
end Go.Fz
set_option linter.unusedVariables false
namespace Go.Fz
open Go.Proofs
set_option maxRecDepth 100000
end Go.Fz
set_option linter.unusedVariables false
namespace Go.Fz
open Go.Proofs
set_option maxRecDepth 100000
theorem any_sees {y : YardD} (hc : y.check = 0) : (y.allS = [] → y.anyE true = 10) ∧ (y.allS ≠ [] → y.anyE true = 0) := by
  refine ⟨fun hs => ?_, fun hs => ?_⟩
  · unfold YardD.anyE
    rw [if_neg (by simp [hc]), if_neg (by simp), if_pos hs]
  · unfold YardD.anyE
    rw [if_neg (by simp [hc]), if_neg (by simp), if_neg hs]
theorem own_sees {y : YardD} (hc : y.check = 0) (hk : y.kept ≠ []) : y.ownE true = 0 := by
  have hs : y.allS ≠ [] := fun h => hk (by unfold YardD.kept kpS; rw [h]; rfl)
  unfold YardD.ownE
  rw [if_neg (by simp [(any_sees hc).2 hs]), if_neg hk]
theorem lve_sees {y : YardD} (hc : y.check = 0) (hs : y.allS ≠ []) : ∃ pre l post, y.lveV = lsV l ∧ risL y.nc = pre ++ l :: post ∧ (∀ l' ∈ pre, y.lvB y.allS l' = false) ∧ y.lvB y.allS l = true := by
  have h5 := (y.fit_of_check hc).2.2.2.2.2.1
  have ha := (any_sees hc).2 hs
  cases hf : (risL y.nc).find? (fun l => y.lvB y.allS l) with
  | none =>
    exfalso
    have h1 := List.find?_eq_none.1 hf _ (rng_ris5 ⟨y.nc, by omega⟩)
    apply h1
    simp only
    obtain ⟨f, hf⟩ := List.exists_mem_of_ne_nil _ hs
    refine lvB_iff.2 ⟨f, hf, fun p hp => ?_⟩
    obtain ⟨h2, h3⟩ := mem_coL.1 hp
    exact absurd (List.mem_range.2 h2) h3
  | some l =>
    obtain ⟨h1, pre, post, h2, h3⟩ := List.find?_eq_some_iff_append.1 hf
    refine ⟨pre, l, post, ?_, h2, fun l' hl' => by simpa using h3 l' hl', h1⟩
    unfold YardD.lveV
    rw [if_pos ha, hf]
theorem ris_short {n : Nat} (hn : n ≤ 5) {pre post : List (List Nat)} {m l : List Nat} (hE : risL n = pre ++ m :: post) (hl : l ∈ risL n) (hp : l ∉ pre) : m.length ≤ l.length := by
  have h := len_fin5 ⟨n, by omega⟩
  simp only at h
  rw [hE] at h hl
  rcases List.mem_append.1 hl with hl | hl
  · exact absurd hl hp
  · rcases List.mem_cons.1 hl with rfl | hl
    · exact Nat.le_refl _
    · exact (List.pairwise_cons.1 (List.pairwise_append.1 h).2.1).1 _ hl
theorem rem_fin : ∀ (b : Fin 256) (n : Fin 7), 0 < n.1 → 0 ≤ std.bin .rem .i64 (std.conv .i64 (b.1 : Int)) (n.1 : Int) ∧ std.bin .rem .i64 (std.conv .i64 (b.1 : Int)) (n.1 : Int) < (n.1 : Int) := by decide +kernel
theorem rem_rng {b : Int} (b0 : 0 ≤ b) (b1 : b ≤ 255) {n : Nat} (h0 : 0 < n) (h6 : n ≤ 6) : 0 ≤ std.bin .rem .i64 (std.conv .i64 b) (n : Int) ∧ std.bin .rem .i64 (std.conv .i64 b) (n : Int) < (n : Int) := by
  have h := rem_fin ⟨b.toNat, by omega⟩ ⟨n, by omega⟩ h0
  have e : ((b.toNat : Nat) : Int) = b := by omega
  simp only [e] at h
  exact h
theorem con_sub {a b : List Int} (h : ∀ x ∈ a, x ∈ b) : conB b.length a.length (fun j => b.getD j 0) (fun j => a.getD j 0) = true := by
  unfold conB allN hasN
  refine decide_eq_true fun i hi => ?_
  have hg : ∀ (l : List Int) j, (hj : j < l.length) → l.getD j 0 = l[j] := fun l j hj => by rw [List.getD_eq_getElem?_getD, List.getElem?_eq_getElem hj]; rfl
  obtain ⟨k, hk, e⟩ := List.getElem_of_mem (h _ (List.getElem_mem hi))
  refine decide_eq_true ⟨k, hk, ?_⟩
  show b.getD k 0 = a.getD i 0
  rw [hg b k hk, hg a i hi, e]
theorem wk_small {y : YardD} (hf : y.Fit) {K : Int} (k0 : 0 ≤ K) (k1 : K < y.nb) : (y.wkL K).length < 1000 := by
  have h1 := wkN_len (y.ownL (y.hasB K)) K (y.blo K.toNat) (y.bhi K.toNat - y.blo K.toNat + 1).toNat
  have h2 := hf.beg K.toNat (by omega)
  have h3 : (y.wkL K).length ≤ (y.bhi K.toNat - y.blo K.toNat + 1).toNat := h1
  omega
theorem weeks_sees {y : YardD} (hc : y.check = 0) (hk : y.kept ≠ []) {K : Int} (k0 : 0 ≤ K) (k1 : K < y.nb) : Pure Try.prog 27 [yardV y, iV K] (.tup [zV (y.wkL K), iV 0]) ∧ y.wkL K = wkN y.kept K (y.blo K.toNat) (y.bhi K.toNat - y.blo K.toNat + 1).toNat := by
  have hn := (y.fit_of_check hc).1.nb
  have h5 := (y.fit_of_check hc).2.2.2.2.2.1
  have hb : y.hasB K = true := by
    unfold YardD.hasB
    rw [decide_eq_true k0, decide_eq_true k1]; rfl
  have ho := own_sees hc hk
  have e := weeks_ok y (by omega) (by omega) K
  have e2 : y.wkV K = zV (y.wkL K) := by
    unfold YardD.wkV
    rw [hb, if_pos ho]
  rw [e2, hb, ho] at e
  refine ⟨e, ?_⟩
  unfold YardD.wkL
  rw [hb, (YardD.own_some ho).1]
end Go.Fz
set_option linter.unusedVariables false
namespace Go.Fz
open Go.Proofs
set_option maxRecDepth 100000
end Go.Fz
set_option linter.unusedVariables false
namespace Go.Fz
open Go.Proofs
set_option maxRecDepth 100000
section
variable {P : Program} {T : Ti}
end
end Go.Fz
set_option linter.unusedVariables false
namespace Go.Fz
open Go.Proofs
set_option maxRecDepth 100000
end Go.Fz
set_option linter.unusedVariables false
namespace Go.Fz
open Go.Proofs
set_option maxRecDepth 100000
theorem clmC_one (d : YardD) (i k : Nat) : (clmC d i k).one = true := by unfold clmC; split <;> rfl
end Go.Fz
set_option linter.unusedVariables false
namespace Go.Fz
open Go.Proofs
set_option maxRecDepth 100000
end Go.Fz
set_option linter.unusedVariables false
namespace Go.Fz
open Go.Proofs
set_option maxRecDepth 100000
end Go.Fz
set_option linter.unusedVariables false
namespace Go.Fz
open Go.Proofs
set_option maxRecDepth 100000
end Go.Fz
set_option linter.unusedVariables false
namespace Go.Fz
open Go.Proofs
set_option maxRecDepth 100000
theorem bedC_one (d : YardD) (i k : Nat) : (bedC d i k).one = true := by unfold bedC; split <;> rfl
end Go.Fz
set_option linter.unusedVariables false
namespace Go.Fz
open Go.Proofs
set_option maxRecDepth 100000
theorem own_range {y : YardD} (hc : y.check = 0) : (y.ownE true = 0 ∧ y.kept ≠ []) ∨ y.ownE true = 9 ∨ y.ownE true = 10 := by
  by_cases hs : y.allS = []
  · refine .inr (.inr ?_)
    unfold YardD.ownE
    rw [if_pos (by rw [(any_sees hc).1 hs]; decide), (any_sees hc).1 hs]
  · by_cases hk : y.kept = []
    · refine .inr (.inl ?_)
      unfold YardD.ownE
      rw [if_neg (by simp [(any_sees hc).2 hs]), if_pos hk]
    · exact .inl ⟨own_sees hc hk, hk⟩
end Go.Fz
set_option linter.unusedVariables false
namespace Go.Fz
open Go.Proofs
set_option maxRecDepth 100000
end Go.Fz
set_option linter.unusedVariables false
namespace Go.Fz
open Go.Proofs
set_option maxRecDepth 100000
end Go.Fz
set_option linter.unusedVariables false
namespace Go.Fz
open Go.Proofs
set_option maxRecDepth 100000
end Go.Fz
set_option linter.unusedVariables false
namespace Go.Fz
open Go.Proofs
set_option maxRecDepth 100000
end Go.Fz
set_option linter.unusedVariables false
namespace Go.Fz
open Go.Proofs
set_option maxRecDepth 100000
end Go.Fz
set_option linter.unusedVariables false
namespace Go.Fz
open Go.Proofs
set_option maxRecDepth 100000
end Go.Fz
set_option linter.unusedVariables false
namespace Go.Fz
open Go.Proofs
set_option maxRecDepth 100000
structure Wide (y x : YardD) : Prop where
  nb : x.nb = y.nb
  last : x.last = y.last
  hands : x.hands = y.hands
  lng : ∀ i, i < y.nb → x.lng i ≤ y.lng i
  blo : ∀ i, i < y.nb → x.blo i ≤ y.blo i
  bhi : ∀ i, i < y.nb → y.bhi i ≤ x.bhi i
  nc : x.nc = y.nc
  cb : ∀ i, i < y.nc → x.cb i = y.cb i
  clo : ∀ i, i < y.nc → x.clo i ≤ y.clo i
  chi : ∀ i, i < y.nc → y.chi i ≤ x.chi i
theorem wide_mt {y x : YardD} (h : Wide y x) {f : Nat → Int} {b : Nat} (hb : b < y.nb) {w : Int} (hm : x.mt f b w = true) : y.mt f b w = true := by
  unfold YardD.mt at hm ⊢
  rw [Bool.and_eq_true, decide_eq_true_eq, decide_eq_true_eq] at hm ⊢
  have := h.lng b hb
  omega
theorem filter_le {α : Type} {p q : α → Bool} : ∀ {l : List α}, (∀ a ∈ l, p a = true → q a = true) → (l.filter p).length ≤ (l.filter q).length
  | [], _ => Nat.le_refl _
  | a :: l, h => by
    have ih := filter_le (l := l) (p := p) (q := q) fun b hb => h b (List.mem_cons_of_mem _ hb)
    have ha := h a List.mem_cons_self
    rw [List.filter_cons, List.filter_cons]
    cases hp : p a with
    | true =>
      rw [if_pos rfl, if_pos (ha hp)]
      exact Nat.succ_le_succ ih
    | false =>
      rw [if_neg (by simp)]
      split
      · exact Nat.le_succ_of_le ih
      · exact ih
theorem wide_busy {y x : YardD} (h : Wide y x) (f : Nat → Int) (w : Int) : x.busyP (List.range y.nb) f w ≤ y.busyP (List.range y.nb) f w := by
  unfold YardD.busyP
  exact filter_le fun b hb hm => wide_mt h (List.mem_range.1 hb) hm
theorem wide_allS {y x : YardD} (h : Wide y x) {f : Nat → Int} (hf : f ∈ y.allS) : f ∈ x.allS := by
  obtain ⟨h0, hs⟩ := mem_allS.1 hf
  rw [mem_allS, h.nb]
  refine ⟨h0, ⟨fun b hb => ?_, fun b hb => ?_, fun w hw => ?_, fun b hb hz hb1 w hm => ?_⟩⟩
  · have hl := List.mem_range.1 hb
    have h1 := hs.rng b hb
    have h2 := h.blo b hl
    have h3 := h.bhi b hl
    omega
  · have hl := List.mem_range.1 hb
    have h1 := hs.fin b hb
    have h2 := h.lng b hl
    rw [h.last]; omega
  · obtain ⟨b, hb, hm⟩ := hw
    have h1 := hs.few w ⟨b, hb, wide_mt h (List.mem_range.1 hb) hm⟩
    have h2 := wide_busy h f w
    rw [h.hands]; omega
  · intro hm2
    exact hs.apt b hb hz hb1 w (wide_mt h (List.mem_range.1 hb) hm) (wide_mt h (List.mem_range.1 hb1) hm2)
theorem wide_rgt {y x : YardD} (h : Wide y x) {f : Nat → Int} {p : Nat} (hp : p < y.nc) (hr : y.rgt f p = true) : x.rgt f p = true := by
  unfold YardD.rgt inB at hr ⊢
  rw [h.cb p hp]
  rw [Bool.and_eq_true, decide_eq_true_eq, decide_eq_true_eq] at hr ⊢
  have h1 := h.clo p hp
  have h2 := h.chi p hp
  omega
theorem wide_kept {y x : YardD} (h : Wide y x) {f : Nat → Int} (hf : f ∈ y.kept) : f ∈ x.kept := by
  obtain ⟨h1, h2⟩ := mem_kept.1 hf
  refine mem_kept.2 ⟨wide_allS h h1, fun p hp => ?_⟩
  rw [h.nc] at hp
  exact wide_rgt h hp (h2 p hp)
theorem wide_lvB {y x : YardD} (h : Wide y x) {l : List Nat} (hl : y.lvB y.allS l = true) : x.lvB x.allS l = true := by
  obtain ⟨f, hf, hp⟩ := lvB_iff.1 hl
  refine lvB_iff.2 ⟨_, wide_allS h hf, fun p hq => ?_⟩
  rw [h.nc] at hq
  exact wide_rgt h (mem_coL.1 hq).1 (hp p hq)
theorem wide_wk {y x : YardD} (h : Wide y x) {K : Nat} (hK : K < y.nb) {w : Int} (hw : w ∈ wkN y.kept (K : Int) (y.blo K) (y.bhi K - y.blo K + 1).toNat) : w ∈ wkN x.kept (K : Int) (x.blo K) (x.bhi K - x.blo K + 1).toNat := by
  obtain ⟨a1, a2⟩ := (mem_wkN _).1 hw
  have h2 := h.blo K hK
  have h3 := h.bhi K hK
  refine (mem_wkN _).2 ⟨by omega, ?_⟩
  obtain ⟨f, a3, a4⟩ := anyW_iff.1 a2
  exact anyW_iff.2 ⟨f, wide_kept h a3, a4⟩
theorem wide_sees {y x : YardD} (h : Wide y x) (hc : y.check = 0) (hx : x.check = 0) {K : Nat} (hK : K < y.nb) :
    (y.anyE true = 10 ∧ (x.anyE true = 0 ∨ x.anyE true = 10)) ∨ (y.anyE true = 0 ∧ x.anyE true = 0 ∧ ∃ l m : List Nat, y.lveV = lsV l ∧ x.lveV = lsV m ∧ m.length ≤ l.length ∧ l.length < 1000 ∧
      (y.ownE true = 9 ∨ (y.ownE true = 0 ∧ ∃ a c : List Int, Pure Try.prog 27 [yardV y, iV (K : Int)] (.tup [zV a, iV 0]) ∧ Pure Try.prog 27 [yardV x, iV (K : Int)] (.tup [zV c, iV 0]) ∧ a.length < 1000 ∧ c.length < 1000 ∧ ∀ w ∈ a, w ∈ c))) := by
  have h5 := (y.fit_of_check hc).2.2.2.2.2.1
  by_cases hs : y.allS = []
  · refine .inl ⟨(any_sees hc).1 hs, ?_⟩
    by_cases hsx : x.allS = []
    · exact .inr ((any_sees hx).1 hsx)
    · exact .inl ((any_sees hx).2 hsx)
  · have hsx : x.allS ≠ [] := fun he => by
      obtain ⟨f, hf⟩ := List.exists_mem_of_ne_nil _ hs
      have := wide_allS h hf
      rw [he] at this; cases this
    obtain ⟨pre, l, post, q1, q2, q3, q4⟩ := lve_sees hc hs
    obtain ⟨prx, m, pox, r1, r2, r3, r4⟩ := lve_sees hx hsx
    have hlx := wide_lvB h q4
    rw [h.nc] at r2
    have hlen : m.length ≤ l.length := ris_short (n := y.nc) h5 r2 (by rw [q2]; simp) (fun hq => by
      have := r3 l hq
      rw [hlx] at this
      cases this)
    have hl5 : l.length < 1000 := by
      have h1 := (msk_fin6 ⟨y.nc, by omega⟩ l (by rw [q2]; simp)).2.2
      omega
    refine .inr ⟨(any_sees hc).2 hs, (any_sees hx).2 hsx, l, m, q1, r1, hlen, hl5, ?_⟩
    rcases own_range hc with ⟨ho, hk⟩ | ho | ho
    · have hkx : x.kept ≠ [] := fun he => by
        obtain ⟨f, hf⟩ := List.exists_mem_of_ne_nil _ hk
        have := wide_kept h hf
        rw [he] at this; cases this
      have k0 : (0 : Int) ≤ (K : Int) := Int.natCast_nonneg K
      have k1 : (K : Int) < y.nb := Int.ofNat_lt.2 hK
      have k1x : (K : Int) < x.nb := by rw [h.nb]; exact k1
      obtain ⟨e27, w1⟩ := weeks_sees hc hk k0 k1
      obtain ⟨x27, w2⟩ := weeks_sees hx hkx k0 k1x
      refine .inr ⟨ho, _, _, e27, x27, wk_small (y.fit_of_check hc).1 k0 k1, wk_small (x.fit_of_check hx).1 k0 k1x, fun w hw => ?_⟩
      rw [w1] at hw
      rw [w2]
      exact wide_wk h hK hw
    · exact .inl ho
    · exfalso
      unfold YardD.ownE at ho
      rw [if_neg (by simp [(any_sees hc).2 hs])] at ho
      split at ho <;> omega
end Go.Fz
set_option linter.unusedVariables false
namespace Go.Fz
open Go.Proofs
set_option maxRecDepth 100000
theorem check_zero {y : YardD} : y.check = 0 ↔ y.long = false ∧ y.validB = true ∧ prN y.blo y.bhi y.nb ≤ 2000 := by
  unfold YardD.check
  constructor
  · intro h
    split at h
    · omega
    · rename_i a1
      split at h
      · rename_i a2
        split at h
        · omega
        · exact ⟨by simpa using a1, a2, by omega⟩
      · omega
  · rintro ⟨h1, h2, h3⟩
    rw [if_neg (by rw [h1]; simp), if_pos h2, if_neg (by omega)]
theorem valid_iff {y : YardD} : y.validB = true ↔ 0 ≤ y.last ∧ 1 ≤ y.hands ∧ (∀ i, i < y.nb → (1 ≤ y.lng i ∧ y.lng i ≤ 3) ∧ 0 ≤ y.blo i ∧ y.blo i ≤ y.bhi i ∧ y.bhi i ≤ y.last) ∧ ∀ i, i < y.nc → (0 ≤ y.cb i ∧ y.cb i < y.nb) ∧ 0 ≤ y.clo i ∧ y.clo i ≤ y.chi i ∧ y.chi i ≤ y.last := by
  unfold YardD.validB allN
  simp only [Bool.and_eq_true, decide_eq_true_eq, YardD.bedOk, YardD.clmOk, withinB, inB, YardD.hasB, and_assoc]
end Go.Fz
set_option linter.unusedVariables false
set_option linter.unusedSimpArgs false
namespace Go.Fz
open Go.Proofs
set_option maxRecDepth 100000
end Go.Fz
set_option linter.unusedVariables false
set_option linter.unusedSimpArgs false
namespace Go.Fz
open Go.Proofs
set_option maxRecDepth 100000
end Go.Fz
set_option linter.unusedVariables false
set_option linter.unusedSimpArgs false
namespace Go.Fz
open Go.Proofs
set_option maxRecDepth 100000
end Go.Fz
set_option linter.unusedVariables false
set_option linter.unusedSimpArgs false
namespace Go.Fz
open Go.Proofs
set_option maxRecDepth 100000
end Go.Fz
set_option linter.unusedVariables false
set_option linter.unusedSimpArgs false
namespace Go.Fz
open Go.Proofs
set_option maxRecDepth 100000
end Go.Fz
set_option linter.unusedVariables false
namespace Go.Fz
open Go.Proofs
set_option maxRecDepth 100000
end Go.Fz
