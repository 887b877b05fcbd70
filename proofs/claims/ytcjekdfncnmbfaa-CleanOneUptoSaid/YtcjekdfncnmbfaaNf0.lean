/- Own work of the verifier of watercress: Lb4, Lb5, Lb6, Lb8, FzCn1, FzCn2, FzCn4, FzCh1, FzCh2, FzCh3, FzCh4, FzCh5, FzCm2, FzCm3, FzCm4, FzCm5, FzCm6, FzOn1, FzOn2. -/
import Derived.ChangeKeysEq
import Derived.Laws.AppendOwn
import Derived.Laws.Cells
import Derived.Laws.CopyRow
import Derived.Laws.Entries
import Derived.Laws.NewFold
import Derived.Laws.Sem
import Derived.Laws.Small
import Derived.Laws.StructEq
import Derived.Laws.Tables
import Derived.Laws.World
import Derived.OrdersHeld
import Derived.OrdersIn
import Derived.RangeFuncLeaves
import Derived.RangeFuncRecord
import Derived.Shelf.Abstract
import Derived.Test.YtcjekdfncnmbfaaNa0
import Derived.Test.YtcjekdfncnmbfaaNa1
import Derived.Test.YtcjekdfncnmbfaaNa2
import Derived.Test.YtcjekdfncnmbfaaNa3
import Derived.Test.YtcjekdfncnmbfaaProg
import Derived.Test.YtcjekdfncnmbfaaNa4
import Derived.Below
import Derived.CallsIn
import Derived.Carry
import Derived.ChangeSame
import Derived.Deep.Slices
import Derived.JoinedCond
import Derived.Laws.Cover3
import Derived.Lib.SmallJoins
import Derived.OpenShut
import Derived.ProofKit
import Derived.WalkKit
import Derived.WideKeyArgs
import Derived.Test.YtcjekdfncnmbfaaRows
import Derived.Test.YtcjekdfncnmbfaaNa5
import Derived.DeepKeys4
import Derived.Maps.Keyed
import Derived.Maps.RangeRun
import Derived.Test.YtcjekdfncnmbfaaNa6
import Derived.Test.YtcjekdfncnmbfaaNa7
import Derived.Test.YtcjekdfncnmbfaaNa8
import Derived.Test.YtcjekdfncnmbfaaNa10
import Derived.Test.YtcjekdfncnmbfaaNa11
import Derived.Test.YtcjekdfncnmbfaaNa13
import Derived.Test.YtcjekdfncnmbfaaNa16
import Derived.Test.YtcjekdfncnmbfaaNa14
import Derived.Test.YtcjekdfncnmbfaaNa18
import Derived.Test.YtcjekdfncnmbfaaNa15
import Derived.Test.YtcjekdfncnmbfaaNa19
import Derived.Test.YtcjekdfncnmbfaaNa20
import Derived.Test.YtcjekdfncnmbfaaNa22
import Derived.Test.YtcjekdfncnmbfaaNa12
import Derived.Test.YtcjekdfncnmbfaaNa17
import Derived.Test.YtcjekdfncnmbfaaNa9
import Derived.Test.YtcjekdfncnmbfaaNa23
set_option linter.unusedVariables false
set_option linter.unusedSimpArgs false
namespace Go.Fz
open Go.Proofs
theorem en16 : Enters Try.prog 16 := fun args w => Go.Proofs.enters_of Try.func16 (by kernel_rfl) rfl args w
theorem en50 : Enters Try.prog 50 := fun args w => Go.Proofs.enters_of Try.func50 (by kernel_rfl) rfl args w
theorem en51 : Enters Try.prog 51 := fun args w => Go.Proofs.enters_of Try.func51 (by kernel_rfl) rfl args w
end Go.Fz
set_option linter.unusedVariables false
set_option linter.unusedSimpArgs false
namespace Go.Fz
variable {P : Program} {T : Ti}
end Go.Fz
namespace Go.Fz
variable {P : Program} {T : Ti}
end Go.Fz
namespace Go.Fz
variable {P : Program} {T : Ti}
theorem AnyE.appK (hT : TOk P T) {rd : Option Nat} {ops : Array Oper} {M : List Nat} {K : Fm → St → Prop} {fuel : Nat} {pend pend' : List (Nat × AV)} {listed : Array Bool} {f : Fm} {st st' : St} {j t : Nat} {s x r : AV}
    (hj : onlyD ops M pend listed = some (j, pend')) (ha : appAt ops j f = some (t, s, x)) (hr : appendA T st t t s x = some (r, st')) (hk : AllP (fun p => lightV T ops st'.h (putAt ops j f r) p.1 = some p.2) pend')
    (h : AnyE P T ops M rd K fuel pend' (listed.setIfInBounds j true) (putAt ops j f r) st') : AnyE P T ops M rd K (fuel + 1) pend listed f st := fun k1 k2 k3 => by
  obtain ⟨o, h1, h2, h3, h4⟩ := appAt_ok ha
  unfold onlyD at hj
  split at hj
  · rename_i j' hrd
    split at hj
    · rename_i o1 ho1
      split at hj
      · rename_i hnl
        simp only [Option.some.injEq, Prod.mk.injEq] at hj
        obtain ⟨rfl, hd⟩ := hj
        rw [h4] at hk h
        refine AnyE.one j' h1 (by rw [hrd]; exact Nat.beq_refl j') pend' hd (OpsW.append hT h1 h2 (by rw [h3]; exact hr) (.nil ⟨⟨r, rfl⟩, (show PendOk T ops pend' (f.put o.dst r) st'.h from fun p hp => LV.of (hk.ok p hp)), h⟩)) k1 k2 k3
      · cases hj
    · cases hj
  · cases hj
theorem AnyE.appOneK (hT : TOk P T) {rd : Option Nat} {ops : Array Oper} {M : List Nat} {K : Fm → St → Prop} {fuel : Nat} {pend pend' : List (Nat × AV)} {listed : Array Bool} {f : Fm} {st : St} {j t id id0 sz : Nat} {ex : Bool} {cs : List AV} {G : List AV} {g : Nat → Nat → AV} {len : Nat}
    (hj : onlyD ops M pend listed = some (j, pend')) (ha : appAt ops j f = some (t, .sl id0 0 len sz false, .sl id 0 1 sz ex)) (hx : st.h.get id = some (.cells none false cs)) (hs : st.h.get id0 = some (.cells none false G)) (hG : G = flatG sz g len) (hb : sliceB T t sz = true) (hl : cs.length = sz) (hone : cs.all AV.one = true) (hlen : len < 1048576)
    (h : ∀ G', G' = flatG sz g len ++ cs → AllP (fun p => lightV T ops (St.push ⟨truncH id0 (len * sz) id0 st.h, st.n⟩ (.cells (some id0) false G')).h (putAt ops j f (.sl st.n 0 (len + 1) sz false)) p.1 = some p.2) pend' ∧
      AnyE P T ops M rd K fuel pend' (listed.setIfInBounds j true) (putAt ops j f (.sl st.n 0 (len + 1) sz false)) (St.push ⟨truncH id0 (len * sz) id0 st.h, st.n⟩ (.cells (some id0) false G'))) : AnyE P T ops M rd K (fuel + 1) pend listed f st := by
  subst hG
  obtain ⟨h1, h2⟩ := h _ rfl
  exact AnyE.appK hT hj ha (append_oneB hb hx hl hone hs hlen) h1 h2
end Go.Fz
namespace Go.Fz
variable {P : Program} {T : Ti}
end Go.Fz
namespace Go.Fz
open Go.Proofs
set_option maxRecDepth 100000
end Go.Fz
namespace Go.Fz
open Go.ChangeShapes Go.WideShapes Go.Deep Go.Joins
section
variable {H : Type} {enc : TypeId × Value → H} {P : Program} {w : World} {base : Nat} {spare : Nat → Bool} {held : Bool}
end
end Go.Fz
namespace Go.Proofs.Ytcjekdfncnmbfaa
open Go.ChangeShapes Go.WideShapes Go.ChangeAt Go.RowKit Go.Joins
set_option linter.unusedVariables false
set_option maxRecDepth 100000
end Go.Proofs.Ytcjekdfncnmbfaa
namespace Go.Fz
open Go.Proofs
set_option maxRecDepth 100000
end Go.Fz
namespace Go.Fz
open Go.Proofs
set_option maxRecDepth 100000
end Go.Fz
namespace Go.Fz
open Go.Proofs
set_option maxRecDepth 100000
end Go.Fz
namespace Go.Fz
open Go.Proofs
set_option maxRecDepth 100000
end Go.Fz
namespace Go.Fz
open Go.Proofs
set_option maxRecDepth 100000
theorem inj_of {l : Hp} {ρ : Nat → Nat} (h : (l.all fun p => l.all fun q => !(Nat.beq (ρ p.1) (ρ q.1)) || Nat.beq p.1 q.1) = true) : ∀ p ∈ l, ∀ q ∈ l, ρ p.1 = ρ q.1 → p.1 = q.1 := fun p hp q hq he => by
  have h1 := List.all_eq_true.1 (List.all_eq_true.1 h p hp) q hq
  rw [he, Nat.beq_refl] at h1
  exact Nat.eq_of_beq_eq_true (by simpa using h1)
end Go.Fz
namespace Go.Fz
open Go.Proofs
set_option maxRecDepth 100000
end Go.Fz
namespace Go.Fz
open Go.Proofs
set_option maxRecDepth 100000
end Go.Fz
namespace Go.Fz
open Go.Proofs
set_option maxRecDepth 100000
end Go.Fz
namespace Go.Fz
open Go.Proofs
set_option maxRecDepth 100000
end Go.Fz
namespace Go.Fz
open Go.Proofs
set_option maxRecDepth 100000
end Go.Fz
namespace Go.Fz
open Go.Proofs
set_option maxRecDepth 100000
end Go.Fz
namespace Go.Fz
open Go.Proofs
set_option maxRecDepth 100000
end Go.Fz
set_option linter.unusedVariables false
set_option linter.unusedSimpArgs false
namespace Go.Fz
open Go.Proofs
set_option maxRecDepth 100000
variable {P : Program} {T : Ti}
theorem PickE.app (hT : TOk P T) {rd : Option Nat} {ops : Array Oper} {M : List Nat} {K : Fm → St → Prop} {fuel : Nat} {pend pend' : List (Nat × AV)} {listed : Array Bool} {f : Fm} {st st' : St} {j t : Nat} {s x r : AV}
    (hd : dropP M j pend = pend') (ha : appAt ops j f = some (t, s, x)) (hr : appendA T st t t s x = some (r, st')) (hk : AllP (fun p => lightV T ops st'.h (putAt ops j f r) p.1 = some p.2) pend')
    (h : AnyE P T ops M rd K fuel pend' (listed.setIfInBounds j true) (putAt ops j f r) st') : PickE P T ops M rd K fuel pend listed f st j := by
  obtain ⟨o, h1, h2, h3, h4⟩ := appAt_ok ha
  rw [h4] at hk h
  exact ⟨o, pend', h1, hd, OpsW.append hT h1 h2 (by rw [h3]; exact hr) (.nil ⟨⟨r, rfl⟩, (show PendOk T ops pend' (f.put o.dst r) st'.h from fun p hp => LV.of (hk.ok p hp)), h⟩)⟩
end Go.Fz
namespace Go.Fz
end Go.Fz
namespace Go.Fz
variable {P : Program} {T : Ti}
end Go.Fz
namespace Go.Fz
variable {P : Program} {T : Ti}
end Go.Fz
namespace Go.Fz
set_option maxRecDepth 100000
section
variable {P : Program} {T : Ti}
end
end Go.Fz
namespace Go.Fz
open Go.Proofs
set_option maxRecDepth 100000
section
variable {P : Program} {T : Ti}
end
end Go.Fz
namespace Go.Fz
open Go.Proofs
set_option maxRecDepth 100000
section
variable {α : Type}
end
end Go.Fz
namespace Go.Fz
open Go.Proofs
set_option maxRecDepth 100000
section
variable {α : Type}
end
end Go.Fz
namespace Go.Fz
set_option maxRecDepth 100000
section
variable {P : Program} {T : Ti}
theorem SW.ren {rd : Option Nat} {c : Code} {Q : Exit → Fm → St → Prop} {f : Fm} {st : St} (h : SW P rd c (fun e f1 st1 => ∃ ρ f2 st2, WeakR st.n ρ f1 st1 f2 st2 ∧ Q e f2 st2) f st) : SW P rd c Q f st := by
  intro φ w a n h1 h2 h3
  refine wpIn_mono (h φ w a n h1 h2 h3) fun e a' w' hl => ?_
  obtain ⟨f1, st1, φ1, ⟨ρ, f2, st2, hw, hq⟩, he, hr, ha, hf⟩ := hl
  obtain ⟨k1, k2, k3⟩ := hw.ok hr ha
  refine ⟨f2, st2, renF φ1 ρ st2.n, hq, ⟨?_, fun id hid => ?_, he.z⟩, k1, k2, hf.trans k3⟩
  · rw [h2.n]; exact hw.lo
  · show φ1.f (ρ id) = _
    rw [hw.idn id (by rw [← h2.n]; exact hid)]
    exact he.f id hid
def tabR : List (Nat × Nat) → Nat → Nat
  | [], j => j
  | (a, b) :: r, j => match Nat.beq a j with
    | true => b
    | false => tabR r j
theorem tabR_id {n : Nat} : ∀ {l : List (Nat × Nat)}, (l.all fun p => Nat.ble n p.1) = true → ∀ j, j < n → tabR l j = j
  | [], _, _, _ => rfl
  | (a, b) :: r, h, j, hj => by
    simp only [List.all_cons, Bool.and_eq_true] at h
    have : n ≤ a := Nat.le_of_ble_eq_true h.1
    unfold tabR
    cases hb : Nat.beq a j with
    | true => have := Nat.eq_of_beq_eq_true hb; omega
    | false => exact tabR_id h.2 j hj
end
end Go.Fz
namespace Go.Fz
variable {P : Program} {T : Ti}
end Go.Fz
namespace Go.Fz
open Go.Proofs
set_option maxRecDepth 100000
section
variable {P : Program} {T : Ti}
end
section
variable {α : Type}
end
end Go.Fz
namespace Go.Fz
variable {P : Program} {T : Ti}
end Go.Fz
namespace Go.Fz
open Go.Proofs
set_option maxRecDepth 100000
end Go.Fz
namespace Go.Fz
open Go.Proofs
set_option maxRecDepth 100000
end Go.Fz
namespace Go.Fz
open Go.Proofs
set_option maxRecDepth 100000
end Go.Fz
namespace Go.Fz
open Go.Proofs
set_option maxRecDepth 100000
section
variable {α : Type} (next : α → (Nat → Int) → α) (len : α → Nat) (N : Nat) (lo hi : Nat → Int)
end
end Go.Fz
namespace Go.Fz
open Go.Proofs
set_option maxRecDepth 100000
section
variable {P : Program} {T : Ti}
end
section
variable {P : Program}
end
end Go.Fz
namespace Go.Fz
variable {P : Program} {T : Ti}
end Go.Fz
namespace Go.Fz
open Go.Proofs
set_option maxRecDepth 100000
end Go.Fz
namespace Go.Fz
open Go.Proofs
set_option maxRecDepth 100000
end Go.Fz
namespace Go.Fz
open Go.Proofs
set_option maxRecDepth 100000
section
variable {P : Program} {T : Ti}
end
end Go.Fz
namespace Go.Fz
open Go.Proofs
set_option maxRecDepth 100000
end Go.Fz
set_option linter.unusedVariables false
set_option linter.unusedSimpArgs false
namespace Go.Fz
open Go.Proofs
set_option maxRecDepth 100000
section
variable {P : Program} {T : Ti}
end
end Go.Fz
namespace Go.Fz
open Go.Proofs
set_option maxRecDepth 100000
section
variable (K : List (List Nat) → Hp → Nat → Prop) (stop : List (List Nat) → List Nat → Hp → Nat → Prop) (ok : List Nat → Prop) (mc y many : Nat) (ex : Bool)
variable {K stop ok mc y many ex}
end
end Go.Fz
namespace Go.Fz
open Go.Proofs
set_option maxRecDepth 100000
section
variable {K : List (List Nat) → Hp → Nat → Prop} {stop : List (List Nat) → List Nat → Hp → Nat → Prop} {ok : List Nat → Prop} {mc y many : Nat}
end
end Go.Fz
namespace Go.Fz
open Go.Proofs
set_option maxRecDepth 100000
section
variable {K : List (List Nat) → Hp → Nat → Prop} {stop : List (List Nat) → List Nat → Hp → Nat → Prop} {ok : List Nat → Prop} {mc y many : Nat}
end
end Go.Fz
namespace Go.Fz
open Go.Proofs
set_option maxRecDepth 100000
section
variable (d : DayD) (XO : AV) (hX : Below 0 XO) (E : List (Mk × Nat)) (cl : Nat) (hb : Born E cl)
end
end Go.Fz
namespace Go.Fz
open Go.Proofs
set_option maxRecDepth 100000
section
variable (d : DayD) (XO : AV) (E : List (Mk × Nat)) (cl : Nat)
end
end Go.Fz
namespace Go.Fz
open Go.Proofs
set_option maxRecDepth 100000
section
variable (d : DayD) (L : Nat) (G : Nat → Nat → AV) (ME : List (AV × AV × Nat)) (cl : Nat)
end
end Go.Fz
namespace Go.Fz
open Go.Proofs
set_option maxRecDepth 100000
section
variable (d : DayD) (L : Nat) (G : Nat → Nat → AV) (ME : List (AV × AV × Nat)) (cl : Nat) (Q : List Nat → Bool)
variable {d L G ME cl}
end
end Go.Fz
namespace Go.Fz
open Go.Proofs
set_option maxRecDepth 100000
end Go.Fz
namespace Go.Fz
open Go.Proofs
set_option maxRecDepth 100000
set_option linter.unusedVariables false
end Go.Fz
namespace Go.Fz
open Go.Proofs
set_option maxRecDepth 100000
set_option linter.unusedVariables false
end Go.Fz
namespace Go.Fz
open Go.Proofs
set_option maxRecDepth 100000
end Go.Fz
namespace Go.Fz
open Go.Proofs
set_option maxRecDepth 100000
section
variable (nw nl : Nat) (f0 f1 f2 f3 : Nat → Int) (z4 z5 z6 z7 : Int)
end
end Go.Fz
namespace Go.Fz
open Go.Proofs
set_option maxRecDepth 100000
section
end
end Go.Fz
namespace Go.Fz
open Go.Proofs
set_option maxRecDepth 100000
end Go.Fz
namespace Go.Fz
open Go.Proofs
set_option maxRecDepth 100000
end Go.Fz
namespace Go.Fz
open Go.Proofs
set_option maxRecDepth 100000
end Go.Fz
namespace Go.Fz
open Go.Proofs
set_option maxRecDepth 100000
end Go.Fz
namespace Go.Fz
open Go.Proofs
set_option maxRecDepth 100000
end Go.Fz
namespace Go.Fz
open Go.Proofs
set_option maxRecDepth 100000
end Go.Fz
namespace Go.Fz
open Go.Proofs
set_option maxRecDepth 100000
end Go.Fz
namespace Go.Fz
open Go.Proofs
set_option maxRecDepth 100000
end Go.Fz
namespace Go.Fz
open Go.Proofs
set_option maxRecDepth 100000
end Go.Fz
namespace Go.Fz
variable {P : Program}
end Go.Fz
namespace Go.Fz
open Go.Proofs
set_option maxRecDepth 100000
section
variable {P : Program} {T : Ti}
end
end Go.Fz
namespace Go.Fz
open Go.Proofs
set_option maxRecDepth 100000
end Go.Fz
namespace Go.Fz
open Go.Proofs
set_option maxRecDepth 100000
set_option linter.unusedVariables false
end Go.Fz
namespace Go.Fz
open Go.Proofs
set_option maxRecDepth 100000
set_option linter.unusedVariables false
end Go.Fz
namespace Go.Fz
open Go.Proofs
set_option maxRecDepth 100000
set_option linter.unusedVariables false
end Go.Fz
namespace Go.Fz
open Go.Proofs
set_option maxRecDepth 100000
set_option linter.unusedVariables false
end Go.Fz
namespace Go.Fz
open Go.Proofs
set_option maxRecDepth 100000
end Go.Fz
namespace Go.Fz
open Go.Proofs
set_option maxRecDepth 100000
set_option pp.deepTerms false
set_option pp.deepTerms.threshold 5
end Go.Fz
namespace Go.Fz
open Go.Proofs
set_option maxRecDepth 100000
end Go.Fz
namespace Go.Fz
open Go.Proofs
set_option maxRecDepth 100000
end Go.Fz
namespace Go.Fz
open Go.Proofs
set_option maxRecDepth 100000
section
variable (d : DayD) (k w lo hi : Int)
end
end Go.Fz
namespace Go.Fz
open Go.Proofs
set_option maxRecDepth 100000
theorem append_noneZ {T : Ti} {t id sz n : Nat} {ex : Bool} {g : Nat → Nat → AV} {st : St} (hz : n = 0) (h : sliceB T t sz = true) (hx : st.h.get id = some (.cells none false [])) :
    appendA T st t t (.sl id 0 0 sz true) (.isl n sz ex g) = some (.sl id 0 0 sz true, st) := by
  subst hz
  exact append_none h hx
theorem append_emptyG {T : Ti} {t id sz n : Nat} {ex : Bool} {g : Nat → Nat → AV} {st : St} {G : List AV} (h : sliceB T t sz = true) (hx : st.h.get id = some (.cells none false [])) (hn : n < 1048576) (h0 : 0 < n) (hone : ∀ i k, (g i k).one = true) (hG : G = flatG sz g n) :
    appendA T st t t (.sl id 0 0 sz true) (.isl n sz ex g) = some (.sl st.n 0 n sz false, st.push (.cells none false G)) := by
  subst hG
  exact append_empty h hx hn h0 hone
section
variable {T : Ti}
theorem append_emptyM {t id id2 sz n : Nat} {ex : Bool} {g : Nat → Nat → AV} {G : List AV} {st : St} {fm : Option Nat} {ro : Bool} (h : sliceB T t sz = true) (hx : st.h.get id = some (.cells none false [])) (hy : st.h.get id2 = some (.cells fm ro G)) (hG : G = flatG sz g n)
    (hn : n < 1048576) (h0 : 0 < n) (hone : ∀ i k, (g i k).one = true) :
    appendA T st t t (.sl id 0 0 sz true) (.sl id2 0 n sz ex) = some (.sl st.n 0 n sz false, st.push (.cells none false G)) := by
  have hc : slCells st.h sz (.sl id2 0 n sz ex) = slCells st.h sz (.isl n sz ex g) := by
    obtain ⟨i, j, e, h1, h2, h3, h4, h5, h6, h7, h8⟩ := sliceB_ok h
    subst h4
    simp only [slCells, cellsAt, hy, hG]
    rw [if_pos ⟨trivial, by rw [flatG_length]; omega⟩, if_pos ⟨trivial, h5⟩, List.drop_zero, List.take_of_length_le (by rw [flatG_length]; omega)]
  rw [hG]
  have := append_empty (ex := ex) h hx hn h0 hone
  unfold appendA at this ⊢
  obtain ⟨i, j, e, h1, h2, h3, h4, h5, h6, h7, h8⟩ := sliceB_ok h
  subst h4
  simp only [h1, h2, h3, slLen] at this ⊢
  rw [hc]
  exact this
end
theorem WeakR.tabM {n0 m : Nat} {tb : List (Nat × Nat)} {f1 : Fm} {st1 : St} {l : List (Nat × AV)} {len : Nat} {dm : List Nat} {h2 : Hp} {n2 : Nat} (e1 : len = f1.ts.len) (e2 : dm = f1.dm) (e3 : ∀ id ∈ dm, id < n0) (hid : (tb.all fun p => Nat.ble n0 p.1) = true) (lo : n0 ≤ n2)
    (hinj : (h2.all fun p => h2.all fun q => !(Nat.beq (tabR tb p.1) (tabR tb q.1)) || Nat.beq p.1 q.1) = true)
    (get : AllP (fun p => RenV (tabR tb) n2 p.2 (f1.ts.get p.1)) l) (obj : AllP (fun p => p.1 < n2 ∧ ∃ o1, st1.h.get (tabR tb p.1) = some o1 ∧ RenO (tabR tb) n2 p.2 o1 ∧ (p.1 = m ∨ o1.fam = none)) h2) : WeakR n0 (tabR tb) f1 st1 ⟨⟨len, getT l⟩, dm⟩ ⟨h2, n2⟩ := by
  refine WeakR.of (m := m) e1 e2 e3 (tabR_id hid) lo (fun p hp => get.ok p hp) (fun p hp => ?_) (inj_of hinj)
  obtain ⟨h1, o1, h3, h4, h5⟩ := obj.ok p hp
  exact ⟨h1, o1, h3, h4, h5⟩
end Go.Fz
namespace Go.Fz
open Go.Proofs
set_option maxRecDepth 100000
section
variable {P : Program} {T : Ti}
end
end Go.Fz
namespace Go.Fz
open Go.Proofs
set_option maxRecDepth 100000
end Go.Fz
namespace Go.Fz
open Go.Proofs
set_option maxRecDepth 100000
set_option linter.unusedVariables false
end Go.Fz
namespace Go.Fz
open Go.Proofs
set_option maxRecDepth 100000
set_option linter.unusedVariables false
end Go.Fz
namespace Go.Fz
open Go.Proofs
set_option maxRecDepth 100000
set_option linter.unusedVariables false
end Go.Fz
namespace Go.Fz
open Go.Proofs
set_option maxRecDepth 100000
end Go.Fz
namespace Go.Fz
open Go.Proofs
set_option maxRecDepth 100000
set_option linter.unusedVariables false
section
variable {P : Program}
end
end Go.Fz
namespace Go.Fz
open Go.Proofs
set_option maxRecDepth 100000
set_option linter.unusedVariables false
end Go.Fz
namespace Go.Fz
open Go.Proofs
set_option maxRecDepth 100000
set_option linter.unusedVariables false
end Go.Fz
namespace Go.Fz
open Go.Proofs
set_option maxRecDepth 100000
set_option linter.unusedVariables false
end Go.Fz
set_option linter.unusedVariables false
namespace Go.Fz
open Go.Proofs
set_option maxRecDepth 100000
end Go.Fz
set_option linter.unusedVariables false
namespace Go.Fz
open Go.Proofs
set_option maxRecDepth 100000
theorem not_bad {y : YardD} {f : Nat → Int} : y.badB f = false ↔ ∀ p, p < y.nc → y.rgt f p = true := by
  unfold YardD.badB
  rw [decide_eq_false_iff_not, Nat.not_lt, Nat.le_zero, List.length_eq_zero_iff]
  unfold YardD.wrN
  rw [List.filter_eq_nil_iff]
  constructor
  · intro h p hp
    have := h p (List.mem_range.2 hp)
    simpa using this
  · intro h p hp
    have := h p (List.mem_range.1 hp)
    simp [this]
end Go.Fz
set_option linter.unusedVariables false
namespace Go.Fz
open Go.Proofs
set_option maxRecDepth 100000
end Go.Fz
set_option linter.unusedVariables false
namespace Go.Fz
open Go.Proofs
set_option maxRecDepth 100000
theorem mem_allS {y : YardD} {f : Nat → Int} : f ∈ y.allS ↔ (∀ b, b ∉ List.range y.nb → f b = 0) ∧ y.Sch (List.range y.nb) f := by
  have h := foldS_all (y := y) (next := appS) (S := fun s => f ∈ s) (G := fun g => f = g) (fun s g => by unfold appS; rw [List.mem_append, List.mem_singleton]) (L := List.range y.nb) List.pairwise_lt_range []
  refine Iff.trans h ?_
  constructor
  · rintro (h | ⟨g, h1, h2, rfl⟩)
    · cases h
    · exact ⟨h1, h2⟩
  · rintro ⟨h1, h2⟩
    exact .inr ⟨f, h1, h2, rfl⟩
theorem allS_can {y : YardD} : y.canL (List.range y.nb) = true ↔ y.allS ≠ [] := by
  rw [y.canL_iff List.pairwise_lt_range]
  constructor
  · rintro ⟨g, h1, h2⟩ h
    have := mem_allS.2 ⟨h1, h2⟩
    rw [h] at this
    cases this
  · intro h
    obtain ⟨f, hf⟩ := List.exists_mem_of_ne_nil _ h
    exact ⟨f, mem_allS.1 hf⟩
theorem mem_kept {y : YardD} {f : Nat → Int} : f ∈ y.kept ↔ f ∈ y.allS ∧ ∀ p, p < y.nc → y.rgt f p = true := by
  unfold YardD.kept kpS
  rw [List.mem_filter]
  constructor
  · rintro ⟨h1, h2⟩
    exact ⟨h1, not_bad.1 (by simpa using h2)⟩
  · rintro ⟨h1, h2⟩
    exact ⟨h1, by rw [not_bad.2 h2]; rfl⟩
theorem anyW_iff {S : List (Nat → Int)} {b w : Int} : anyW S b w = true ↔ ∃ f ∈ S, f b.toNat = w := by
  unfold anyW
  rw [decide_eq_true_eq]
  have hg : ∀ j, (hj : j < S.length) → S.getD j f0 = S[j] := fun j hj => by rw [List.getD_eq_getElem?_getD, List.getElem?_eq_getElem hj]; rfl
  constructor
  · rintro ⟨i, hi, h⟩
    rw [hg i hi] at h
    exact ⟨_, List.getElem_mem hi, of_decide_eq_true h⟩
  · rintro ⟨f, hf, h⟩
    obtain ⟨i, hi, rfl⟩ := List.getElem_of_mem hf
    exact ⟨i, hi, by rw [hg i hi]; exact decide_eq_true h⟩
theorem mem_wkN {S : List (Nat → Int)} {b lo w : Int} : ∀ n, w ∈ wkN S b lo n ↔ (lo ≤ w ∧ w < lo + (n : Nat)) ∧ anyW S b w = true
  | 0 => by
    constructor
    · intro h; cases h
    · rintro ⟨h, _⟩; omega
  | n + 1 => by
    have ih := mem_wkN (S := S) (b := b) (lo := lo) (w := w) n
    show w ∈ nxW S b (wkN S b lo n) (lo + (n : Nat)) ↔ _
    unfold nxW
    constructor
    · intro h
      split at h
      · rename_i ha
        rcases List.mem_append.1 h with h | h
        · have := ih.1 h
          exact ⟨by omega, this.2⟩
        · rw [List.mem_singleton.1 h]
          exact ⟨by omega, ha⟩
      · have := ih.1 h
        exact ⟨by omega, this.2⟩
    · rintro ⟨h1, h2⟩
      by_cases e : w = lo + (n : Nat)
      · subst e
        rw [if_pos h2]
        exact List.mem_append.2 (.inr (List.mem_singleton.2 rfl))
      · have := ih.2 ⟨by omega, h2⟩
        split
        · exact List.mem_append.2 (.inl this)
        · exact this
theorem more_allS {y : YardD} {k : Int} (hk : y.hands ≤ k) {f : Nat → Int} (hf : f ∈ y.allS) : f ∈ (y.withH k).allS := by
  obtain ⟨h1, h2⟩ := mem_allS.1 hf
  refine mem_allS.2 ⟨h1, ⟨h2.rng, h2.fin, fun w hw => Int.le_trans (h2.few w hw) hk, h2.apt⟩⟩
theorem canH_iff {y : YardD} {k : Int} : y.canH k = true ↔ (y.withH k).allS ≠ [] := allS_can (y := y.withH k)
theorem canH_mono {y : YardD} {k l : Int} (h : k ≤ l) (hk : y.canH k = true) : y.canH l = true := by
  rw [canH_iff] at hk ⊢
  obtain ⟨f, hf⟩ := List.exists_mem_of_ne_nil _ hk
  have := more_allS (y := y.withH k) (k := l) h hf
  intro h'
  rw [show ((y.withH k).withH l).allS = (y.withH l).allS from rfl, h'] at this
  cases this
theorem few_sees {y : YardD} (hc : y.check = 0) : (∃ n : Nat, 1 ≤ n ∧ n ≤ 3 ∧ y.fewN = ((n : Int), 0) ∧ ∀ k : Nat, 1 ≤ k → k ≤ 3 → (y.canH k = true ↔ n ≤ k)) ∨ (y.fewN = (0, 10) ∧ ∀ k : Nat, 1 ≤ k → k ≤ 3 → y.canH k = false) := by
  have hq : y.fewN = if y.check = 0 then (if y.canH 1 then (1, 0) else if y.canH 2 then (2, 0) else if y.canH 3 then (3, 0) else (0, 10)) else (0, y.check) := rfl
  rw [if_pos hc] at hq
  have m12 := canH_mono (y := y) (k := 1) (l := 2) (by decide)
  have m23 := canH_mono (y := y) (k := 2) (l := 3) (by decide)
  have hk3 : ∀ k : Nat, 1 ≤ k → k ≤ 3 → k = 1 ∨ k = 2 ∨ k = 3 := fun k _ _ => by omega
  cases c1 : y.canH 1 with
  | true =>
    have c2 := m12 c1
    have c3 := m23 c2
    rw [c1] at hq
    refine .inl ⟨1, by omega, by omega, hq, fun k k1 k3 => ⟨fun _ => k1, fun _ => ?_⟩⟩
    rcases hk3 k k1 k3 with rfl | rfl | rfl
    · exact c1
    · exact c2
    · exact c3
  | false =>
    rw [c1] at hq
    cases c2 : y.canH 2 with
    | true =>
      have c3 := m23 c2
      rw [c2] at hq
      refine .inl ⟨2, by omega, by omega, hq, fun k k1 k3 => ?_⟩
      rcases hk3 k k1 k3 with rfl | rfl | rfl
      · exact ⟨fun h => (by rw [show y.canH ((1 : Nat) : Int) = y.canH 1 from rfl, c1] at h; cases h), fun h => (by omega)⟩
      · exact ⟨fun _ => by omega, fun _ => c2⟩
      · exact ⟨fun _ => by omega, fun _ => c3⟩
    | false =>
      rw [c2] at hq
      cases c3 : y.canH 3 with
      | true =>
        rw [c3] at hq
        refine .inl ⟨3, by omega, by omega, hq, fun k k1 k3 => ?_⟩
        rcases hk3 k k1 k3 with rfl | rfl | rfl
        · exact ⟨fun h => (by rw [show y.canH ((1 : Nat) : Int) = y.canH 1 from rfl, c1] at h; cases h), fun h => (by omega)⟩
        · exact ⟨fun h => (by rw [show y.canH ((2 : Nat) : Int) = y.canH 2 from rfl, c2] at h; cases h), fun h => (by omega)⟩
        · exact ⟨fun _ => by omega, fun _ => c3⟩
      | false =>
        rw [c3] at hq
        refine .inr ⟨hq, fun k k1 k3 => ?_⟩
        rcases hk3 k k1 k3 with rfl | rfl | rfl
        · exact c1
        · exact c2
        · exact c3
end Go.Fz
set_option linter.unusedVariables false
namespace Go.Fz
open Go.Proofs
set_option maxRecDepth 100000
set_option maxHeartbeats 8000000 in
theorem has50_ok (n : Nat) (ex : Bool) (fl : Nat → Int) (x : Int) (hn : n < 1000) : Pure Try.prog 50 [intsV n ex fl, iV x] (.sb (hasN n fl x)) := by
  obtain ⟨O, hO⟩ : ∃ O : Ar, O = std := ⟨_, rfl⟩
  have hnat : ∀ i : Nat, O.nat (Int.ofNat i) = i := fun i => by subst hO; rfl
  refine pure_of_body tok 3 Try.func50 en50 rfl ⟨intsV_below _ _ _, Below.lit, trivial⟩ Below.sb ?_
  refine SW.seqRun tok hO (by cbv <;> rfl) (by trivial) ?_
  refine SW.seq ?_
  refine SW.seqRun tok hO (by cbv <;> rfl) (by trivial) ?_
  refine (SW.block (SW.loopF (fun i : Nat => ⟨⟨18, getT [(0, intsV n ex fl), (1, iV x), (5, iV i)]⟩, []⟩) (fun _ => ⟨[], 0⟩) (fun i => n - i) (fun i => i ≤ n ∧ ∀ j, j < i → fl j ≠ x) 0
    (fun _ => rfl) ⟨Nat.zero_le _, fun j hj => absurd hj (Nat.not_lt_zero _)⟩ (Weak.by rfl rfl (by simp) (Nat.le_refl _) (Nat.le_refl _) ⟨⟨rfl, .inl rfl⟩, ⟨rfl, .inl rfl⟩, ⟨rfl, .inl rfl⟩, trivial⟩ trivial) fun i hi => ?_))
  obtain ⟨hi, hbefore⟩ := hi
  have hni := hnat i
  show SW _ _ _ _ ⟨⟨18, getT [(0, intsV n ex fl), (1, iV x), (5, iV i)]⟩, []⟩ _
  refine SW.seq ?_
  refine SW.seqRun tok hO (by cbv <;> rfl) (by trivial) ?_
  refine SW.condS (by cbv <;> rfl) (fun h => SW.skip ?_) (fun h => SW.exit ?_)
  · have hlt : i < n := by
      have : (i : Int) < (n : Int) := by subst hO; simpa [std] using h
      omega
    have k0 : (0 : Int) ≤ Int.ofNat i := Int.natCast_nonneg i
    have kN : Int.ofNat i < Int.ofNat n := Int.ofNat_lt.2 hlt
    have hbig : i < 4611686018427387904 := Nat.lt_trans hlt (Nat.lt_trans hn (by decide))
    refine SW.seq (SW.block ?_)
    refine SW.seqRun tok hO (by cbv <;> rfl) ?_ ?_
    · exact ⟨k0, kN⟩
    refine SW.condS (by cbv <;> rfl) (fun h2 => ?_) (fun h2 => SW.skip ?_)
    · have he : fl i = x := by
        have h3 : O.cmp .eql (fl (O.nat (Int.ofNat i))) x = true := h2
        rw [hni] at h3
        subst hO; simpa [std] using h3
      refine SW.seqRun tok hO (by cbv <;> rfl) (by trivial) ?_
      refine SW.ret ⟨_, _, rfl, rfl, Eqv.bool ?_⟩
      unfold hasN
      exact (decide_eq_true ⟨i, hlt, he⟩).symm
    · have he : fl i ≠ x := by
        have h3 : O.cmp .eql (fl (O.nat (Int.ofNat i))) x = false := h2
        rw [hni] at h3
        subst hO; simpa [std] using h3
      refine SW.run tok hO (by cbv <;> rfl) (by trivial) ?_
      refine ⟨i + 1, by omega, ⟨by omega, fun j hj => ?_⟩, Weak.by rfl rfl (by simp) (Nat.le_refl _) (Nat.le_refl _) ⟨⟨rfl, .inl rfl⟩, ⟨rfl, .inl rfl⟩, ⟨inc_ok hO hbig, .inl rfl⟩, trivial⟩ trivial⟩
      by_cases e : j = i
      · subst e; exact he
      · exact hbefore j (by omega)
  · have hz : i = n := by
      have : (n : Int) ≤ (i : Int) := by subst hO; simpa [std] using h
      omega
    subst hz
    refine SW.seqRun tok hO (by cbv <;> rfl) (by trivial) ?_
    refine SW.ret ⟨_, _, rfl, rfl, Eqv.bool ?_⟩
    unfold hasN
    exact (decide_eq_false fun ⟨j, hj, h⟩ => hbefore j hj h).symm
def conB (na nb : Nat) (fa fb : Nat → Int) : Bool := allN nb fun i => hasN na fa (fb i)
set_option maxHeartbeats 8000000 in
theorem contains51_ok (na nb : Nat) (ea eb : Bool) (fa fb : Nat → Int) (hna : na < 1000) (hnb : nb < 1000) : Pure Try.prog 51 [intsV na ea fa, intsV nb eb fb] (.sb (conB na nb fa fb)) := by
  obtain ⟨O, hO⟩ : ∃ O : Ar, O = std := ⟨_, rfl⟩
  have hnat : ∀ i : Nat, O.nat (Int.ofNat i) = i := fun i => by subst hO; rfl
  refine pure_of_body tok 3 Try.func51 en51 rfl ⟨intsV_below _ _ _, intsV_below _ _ _, trivial⟩ Below.sb ?_
  refine SW.seqRun tok hO (by cbv <;> rfl) (by trivial) ?_
  refine SW.seq ?_
  refine SW.seqRun tok hO (by cbv <;> rfl) (by trivial) ?_
  refine (SW.block (SW.loopF (fun i : Nat => ⟨⟨19, getT [(0, intsV na ea fa), (1, intsV nb eb fb), (5, iV i)]⟩, []⟩) (fun _ => ⟨[], 0⟩) (fun i => nb - i) (fun i => i ≤ nb ∧ ∀ j, j < i → hasN na fa (fb j) = true) 0
    (fun _ => rfl) ⟨Nat.zero_le _, fun j hj => absurd hj (Nat.not_lt_zero _)⟩ (Weak.by rfl rfl (by simp) (Nat.le_refl _) (Nat.le_refl _) ⟨⟨rfl, .inl rfl⟩, ⟨rfl, .inl rfl⟩, ⟨rfl, .inl rfl⟩, trivial⟩ trivial) fun i hi => ?_))
  obtain ⟨hi, hbefore⟩ := hi
  have hni := hnat i
  show SW _ _ _ _ ⟨⟨19, getT [(0, intsV na ea fa), (1, intsV nb eb fb), (5, iV i)]⟩, []⟩ _
  refine SW.seq ?_
  refine SW.seqRun tok hO (by cbv <;> rfl) (by trivial) ?_
  refine SW.condS (by cbv <;> rfl) (fun h => SW.skip ?_) (fun h => SW.exit ?_)
  · have hlt : i < nb := by
      have : (i : Int) < (nb : Int) := by subst hO; simpa [std] using h
      omega
    have k0 : (0 : Int) ≤ Int.ofNat i := Int.natCast_nonneg i
    have kN : Int.ofNat i < Int.ofNat nb := Int.ofNat_lt.2 hlt
    have hbig : i < 4611686018427387904 := Nat.lt_trans hlt (Nat.lt_trans hnb (by decide))
    have e50 := has50_ok na ea fa (fb i) hna
    obtain ⟨H, hH⟩ : ∃ H, hasN na fa (fb i) = H := ⟨_, rfl⟩
    rw [hH] at e50
    rw [← hni] at e50
    refine SW.seq (SW.block ?_)
    refine SW.seqRun tok hO (by cbv <;> rfl) ?_ ?_
    · exact ⟨k0, kN⟩
    refine OpsW.callP e50 (by cbv <;> rfl) ?_
    refine OpsW.run tok hO (by cbv <;> rfl) (by trivial) ?_
    refine SW.condS (by cbv <;> rfl) (fun h2 => ?_) (fun h2 => SW.skip ?_)
    · have he : H = false := by
        have h3 : O.not H = true := h2
        subst hO
        cases H with
        | true => cases h3
        | false => rfl
      refine SW.seqRun tok hO (by cbv <;> rfl) (by trivial) ?_
      refine SW.ret ⟨_, _, rfl, rfl, Eqv.bool ?_⟩
      unfold conB allN
      refine (decide_eq_false fun h => ?_).symm
      have this : hasN na fa (fb i) = true := h i hlt
      rw [hH, he] at this
      cases this
    · have he : H = true := by
        have h3 : O.not H = false := h2
        subst hO
        cases H with
        | true => rfl
        | false => cases h3
      refine SW.run tok hO (by cbv <;> rfl) (by trivial) ?_
      refine ⟨i + 1, by omega, ⟨by omega, fun j hj => ?_⟩, Weak.by rfl rfl (by simp) (Nat.le_refl _) (Nat.le_refl _) ⟨⟨rfl, .inl rfl⟩, ⟨rfl, .inl rfl⟩, ⟨inc_ok hO hbig, .inl rfl⟩, trivial⟩ trivial⟩
      by_cases e : j = i
      · subst e; rw [hH, he]
      · exact hbefore j (by omega)
  · have hz : i = nb := by
      have : (nb : Int) ≤ (i : Int) := by subst hO; simpa [std] using h
      omega
    subst hz
    refine SW.seqRun tok hO (by cbv <;> rfl) (by trivial) ?_
    refine SW.ret ⟨_, _, rfl, rfl, Eqv.bool ?_⟩
    unfold conB allN
    exact (decide_eq_true hbefore).symm
end Go.Fz
set_option linter.unusedVariables false
namespace Go.Fz
open Go.Proofs
set_option maxRecDepth 100000
def trueQ3 (fn : Func) : Exit → Fm → St → Prop := retQ T fn (fun v st' => Eqv (frz st'.h (fun _ => true) 3 v) (.lit (.bool true)))
end Go.Fz
set_option linter.unusedVariables false
namespace Go.Fz
open Go.Proofs
set_option maxRecDepth 100000
end Go.Fz
set_option linter.unusedVariables false
namespace Go.Fz
open Go.Proofs
set_option maxRecDepth 100000
theorem any_sees {y : YardD} (hc : y.check = 0) : (y.allS = [] → y.anyE true = 10) ∧ (y.allS ≠ [] → y.anyE true = 0) := by
  refine ⟨fun hs => ?_, fun hs => ?_⟩
  · unfold YardD.anyE
    rw [if_neg (by simp [hc]), if_neg (by simp), if_pos hs]
  · unfold YardD.anyE
    rw [if_neg (by simp [hc]), if_neg (by simp), if_neg hs]
theorem own_sees {y : YardD} (hc : y.check = 0) (hk : y.kept ≠ []) : y.ownE true = 0 := by
  have hs : y.allS ≠ [] := fun h => hk (by unfold YardD.kept kpS; rw [h]; rfl)
  unfold YardD.ownE
  rw [if_neg (by simp [(any_sees hc).2 hs]), if_neg hk]
theorem rem_fin : ∀ (b : Fin 256) (n : Fin 7), 0 < n.1 → 0 ≤ std.bin .rem .i64 (std.conv .i64 (b.1 : Int)) (n.1 : Int) ∧ std.bin .rem .i64 (std.conv .i64 (b.1 : Int)) (n.1 : Int) < (n.1 : Int) := by decide +kernel
theorem rem_rng {b : Int} (b0 : 0 ≤ b) (b1 : b ≤ 255) {n : Nat} (h0 : 0 < n) (h6 : n ≤ 6) : 0 ≤ std.bin .rem .i64 (std.conv .i64 b) (n : Int) ∧ std.bin .rem .i64 (std.conv .i64 b) (n : Int) < (n : Int) := by
  have h := rem_fin ⟨b.toNat, by omega⟩ ⟨n, by omega⟩ h0
  have e : ((b.toNat : Nat) : Int) = b := by omega
  simp only [e] at h
  exact h
theorem con_sub {a b : List Int} (h : ∀ x ∈ a, x ∈ b) : conB b.length a.length (fun j => b.getD j 0) (fun j => a.getD j 0) = true := by
  unfold conB allN hasN
  refine decide_eq_true fun i hi => ?_
  have hg : ∀ (l : List Int) j, (hj : j < l.length) → l.getD j 0 = l[j] := fun l j hj => by rw [List.getD_eq_getElem?_getD, List.getElem?_eq_getElem hj]; rfl
  obtain ⟨k, hk, e⟩ := List.getElem_of_mem (h _ (List.getElem_mem hi))
  refine decide_eq_true ⟨k, hk, ?_⟩
  show b.getD k 0 = a.getD i 0
  rw [hg b k hk, hg a i hi, e]
theorem wk_small {y : YardD} (hf : y.Fit) {K : Int} (k0 : 0 ≤ K) (k1 : K < y.nb) : (y.wkL K).length < 1000 := by
  have h1 := wkN_len (y.ownL (y.hasB K)) K (y.blo K.toNat) (y.bhi K.toNat - y.blo K.toNat + 1).toNat
  have h2 := hf.beg K.toNat (by omega)
  have h3 : (y.wkL K).length ≤ (y.bhi K.toNat - y.blo K.toNat + 1).toNat := h1
  omega
theorem weeks_sees {y : YardD} (hc : y.check = 0) (hk : y.kept ≠ []) {K : Int} (k0 : 0 ≤ K) (k1 : K < y.nb) : Pure Try.prog 27 [yardV y, iV K] (.tup [zV (y.wkL K), iV 0]) ∧ y.wkL K = wkN y.kept K (y.blo K.toNat) (y.bhi K.toNat - y.blo K.toNat + 1).toNat := by
  have hn := (y.fit_of_check hc).1.nb
  have h5 := (y.fit_of_check hc).2.2.2.2.2.1
  have hb : y.hasB K = true := by
    unfold YardD.hasB
    rw [decide_eq_true k0, decide_eq_true k1]; rfl
  have ho := own_sees hc hk
  have e := weeks_ok y (by omega) (by omega) K
  have e2 : y.wkV K = zV (y.wkL K) := by
    unfold YardD.wkV
    rw [hb, if_pos ho]
  rw [e2, hb, ho] at e
  refine ⟨e, ?_⟩
  unfold YardD.wkL
  rw [hb, (YardD.own_some ho).1]
end Go.Fz
set_option linter.unusedVariables false
namespace Go.Fz
open Go.Proofs
set_option maxRecDepth 100000
def clm1 (k lo hi : Int) (j : Nat) : AV := match j with
  | 0 => iV k
  | 1 => iV lo
  | _ => iV hi
theorem clm1_one (k lo hi : Int) (j : Nat) : (clm1 k lo hi j).one = true := by unfold clm1; split <;> rfl
end Go.Fz
set_option linter.unusedVariables false
namespace Go.Fz
open Go.Proofs
set_option maxRecDepth 100000
end Go.Fz
set_option linter.unusedVariables false
namespace Go.Fz
open Go.Proofs
set_option maxRecDepth 100000
end Go.Fz
set_option linter.unusedVariables false
namespace Go.Fz
open Go.Proofs
set_option maxRecDepth 100000
def cmD (j : Nat) : Bool := Nat.beq j 3
end Go.Fz
namespace Go.Proofs.Ytcjekdfncnmbfaa
open Go.ChangeShapes Go.WideShapes Go.ChangeAt Go.RowKit Go.Joins
set_option linter.unusedVariables false
set_option maxRecDepth 100000
theorem bulk_one {H : Type} (d : DataW H) : 1 ≤ Rows.uptoBulk d := by
  cases d with
  | lit l => cases l <;> simp [Rows.uptoBulk]
  | nil => simp [Rows.uptoBulk]
  | ptr d => simp [Rows.uptoBulk]
  | slice elems spare => simp [Rows.uptoBulk]
  | agg parts => simp [Rows.uptoBulk]
  | iface t d => simp [Rows.uptoBulk]
  | map entries => simp [Rows.uptoBulk]
  | held h => simp [Rows.uptoBulk]
theorem bulk_part {H : Type} {d : DataW H} {l : List (DataW H)} (h : d ∈ l) : Rows.uptoBulk d ≤ Rows.uptoBulkAll l := by
  induction l with
  | nil => cases h
  | cons x r ih =>
    simp only [Rows.uptoBulkAll]
    cases List.mem_cons.1 h with
    | inl e => subst e; omega
    | inr e => have := ih e; omega
theorem bulk_len {H : Type} (l : List (DataW H)) : l.length ≤ Rows.uptoBulkAll l := by
  induction l with
  | nil => simp [Rows.uptoBulkAll]
  | cons x r ih => have := bulk_one x; simp only [Rows.uptoBulkAll, List.length_cons]; omega
theorem yard_bulk {H : Type} {enc : TypeId × Value → H} {W : World} {base b0 : Nat} {spare : Nat → Bool} {held : Bool} {v : Value} {d : DataW H} {p : List MemPlace}
    (hv : Value.okWide Try.prog W .any b0 25 v) (h : DataW.Trod enc Try.prog W base spare held 25 v d p) : ∃ f : Fz.YardD, Fz.VR (Fz.fiW W) (Fz.yardV f) v ∧ f.nb ≤ Rows.uptoBulk d ∧ f.nc ≤ Rows.uptoBulk d := by
  obtain ⟨cs, rfl, hsz⟩ := okWide_struct Try.underlying25 hv
  have hC : Try.prog.cellsOf 25 = 4 := by kernel_rfl
  have c3 : Try.prog.cellsOf 3 = 1 := by kernel_rfl
  have c22 : Try.prog.cellsOf 22 = 1 := by kernel_rfl
  have c23 : Try.prog.cellsOf 23 = 1 := by kernel_rfl
  rw [hC] at hsz
  obtain ⟨l⟩ := cs
  match l, hsz with
  | [u0, u1, u2, u3], _ =>
    have h' := h
    obtain ⟨fuel, hf⟩ := h
    obtain ⟨xs, n, _, hx0, _, hlen, hx⟩ := DataW.trod_struct Try.underlying25 hf
    match xs, hlen with
    | [y0, y1, y2, y3], _ =>
      have h0 : DataW.trod enc Try.prog W base spare held n 3 [u0] = some y0 := by simpa [Value.cells, c3] using hx 0 _ rfl
      have h1 : DataW.trod enc Try.prog W base spare held n 3 [u1] = some y1 := by simpa [Value.cells, c3] using hx 1 _ rfl
      have h2 : DataW.trod enc Try.prog W base spare held n 22 [u2] = some y2 := by simpa [Value.cells, c22] using hx 2 _ rfl
      have h3 : DataW.trod enc Try.prog W base spare held n 23 [u3] = some y3 := by simpa [Value.cells, c23] using hx 3 _ rfl
      obtain ⟨z0, e0, _, _⟩ := DataW.trod_int Try.underlying3 h0
      obtain ⟨z1, e1, _, _⟩ := DataW.trod_int Try.underlying3 h1
      obtain rfl : u0 = .int .i64 z0 := by simpa using e0
      obtain rfl : u1 = .int .i64 z1 := by simpa using e1
      obtain rfl : d = .agg ([y0, y1, y2, y3].map (·.1)) := by
        have := congrArg Prod.fst hx0
        simpa using this
      refine ⟨yardOf W z0 z1 u2 u3, yard_of_parts hv h', ?_, ?_⟩
      · show Fz.slCount u2 ≤ _
        have hb : Rows.uptoBulk y2.1 ≤ Rows.uptoBulk (DataW.agg ([y0, y1, y2, y3].map (·.1))) := by
          have := bulk_part (l := [y0, y1, y2, y3].map (·.1)) (d := y2.1) (by simp)
          simp only [Rows.uptoBulk]
          omega
        refine Nat.le_trans ?_ hb
        rcases DataW.trod_slice Try.underlying22 h2 with ⟨e, _⟩ | ⟨a, len, cap, elems, rest, m, _, e, rfl, _, _, _, hlen, _⟩
        · obtain rfl : u2 = .slice none 0 0 := by simpa using e
          exact Nat.zero_le _
        · obtain rfl : u2 = .slice (some a) len cap := by simpa using e
          have := bulk_len (elems.map (·.1))
          have hl : (elems.map (·.1)).length = len := by rw [List.length_map]; exact hlen
          show len ≤ _
          simp only [Rows.uptoBulk]
          omega
      · show Fz.slCount u3 ≤ _
        have hb : Rows.uptoBulk y3.1 ≤ Rows.uptoBulk (DataW.agg ([y0, y1, y2, y3].map (·.1))) := by
          have := bulk_part (l := [y0, y1, y2, y3].map (·.1)) (d := y3.1) (by simp)
          simp only [Rows.uptoBulk]
          omega
        refine Nat.le_trans ?_ hb
        rcases DataW.trod_slice Try.underlying23 h3 with ⟨e, _⟩ | ⟨a, len, cap, elems, rest, m, _, e, rfl, _, _, _, hlen, _⟩
        · obtain rfl : u3 = .slice none 0 0 := by simpa using e
          exact Nat.zero_le _
        · obtain rfl : u3 = .slice (some a) len cap := by simpa using e
          have := bulk_len (elems.map (·.1))
          have hl : (elems.map (·.1)).length = len := by rw [List.length_map]; exact hlen
          show len ≤ _
          simp only [Rows.uptoBulk]
          omega
end Go.Proofs.Ytcjekdfncnmbfaa
set_option linter.unusedVariables false
namespace Go.Fz
open Go.Proofs
set_option maxRecDepth 100000
theorem bedC_one (d : YardD) (i k : Nat) : (bedC d i k).one = true := by unfold bedC; split <;> rfl
def YardD.plusB (y : YardD) (k lo hi : Int) : YardD := { y with nb := y.nb + 1, lng := fun i => if i < y.nb then y.lng i else k, blo := fun i => if i < y.nb then y.blo i else lo, bhi := fun i => if i < y.nb then y.bhi i else hi }
theorem plusB_flat (d : YardD) (k lo hi : Int) : flatG 3 (bedC d) d.nb ++ [iV k, iV lo, iV hi] = flatG 3 (bedC (d.plusB k lo hi)) (d.nb + 1) := by
  have h1 : flatG 3 (bedC (d.plusB k lo hi)) d.nb = flatG 3 (bedC d) d.nb := flatG_congr fun i j hi => by
    show (match j with | 0 => iV (if i < d.nb then d.lng i else _) | 1 => iV (if i < d.nb then d.blo i else _) | _ => iV (if i < d.nb then d.bhi i else _)) = bedC d i j
    rw [if_pos hi, if_pos hi, if_pos hi]; rfl
  show _ = flatG 3 (bedC (d.plusB k lo hi)) d.nb ++ [iV (if d.nb < d.nb then _ else k), iV (if d.nb < d.nb then _ else lo), iV (if d.nb < d.nb then _ else hi)]
  have hn : ¬ d.nb < d.nb := Nat.lt_irrefl _
  rw [h1, if_neg hn, if_neg hn, if_neg hn]
def ooS (d : YardD) (cl : List AV) (h : Hp) (XC : AV) (n : Nat) : St := ⟨h ++ [(2, .cells none false [iV d.last, iV d.hands, XC, clmsV d]), (1, .cells none false cl), (0, .cells none false (yardC d))], n⟩
def ooL (x0 : Int) : List (Nat × AV) := [(2, .lit (.int .u8 x0)), (3, .ptr 0 0), (4, .ptr 1 0), (7, .ptr 2 0)]
set_option maxHeartbeats 16000000 in
theorem oone_s2z (d : YardD) (k lo hi x0 : Int) (h0 : d.nb = 0) (g : Nat → AV) (h : AllP (fun p => g p.1 = p.2) (ooL x0)) :
    SW Try.prog none (nthC 2 (bodyF Try.f16)) (midK 133 (ooL x0) (ooS d [iV k, iV lo, iV hi] [(3, .cells none false [iV k, iV lo, iV hi])] (.sl 3 0 1 3 false) 4))
      ⟨⟨133, g⟩, []⟩ (ooS d [iV k, iV lo, iV hi] [] (bedsV d) 3) := by
  obtain ⟨O, hO⟩ : ∃ O : Ar, O = std := ⟨_, rfl⟩
  obtain ⟨g2, g3, g4, g7, _⟩ := h
  simp only at g2 g3 g4 g7
  rw [← updT_self g2, ← updT_self g3, ← updT_self g4, ← updT_self g7]
  have hGb : ∀ a ∈ [iV k, iV lo, iV hi], Below 0 a := AllB.ok ⟨Below.lit, Below.lit, Below.lit, trivial⟩
  refine SW.ren ?_
  refine SW.runD tok mixed hO (by kernel_rfl) (by cbv <;> rfl) (by trivial) ?_
  refine AnyE.many [0, 5] (by cbv <;> rfl) (by rfl) ⟨?_, ?_, trivial⟩
  · refine PickE.eff tok hO (by cbv <;> rfl) (by cbv <;> rfl) (by trivial) ?_ ?_
    · exact (by repeat (first | exact trivial | refine And.intro (by first | exact lv_of hO (by cbv <;> rfl) (by trivial) | (cbv <;> rfl)) ?_))
    refine AnyE.run tok hO (by rfl) (by cbv <;> rfl) (by trivial) ?_
    refine AnyE.many [3, 5] (by cbv <;> rfl) (by rfl) ⟨?_, ?_, trivial⟩
    · refine PickE.app tok (by cbv <;> rfl) (by cbv <;> rfl) (append_noneZ h0 (by kernel_rfl) (by rfl)) ?_ ?_
      · exact (by repeat (first | exact trivial | refine And.intro (by first | exact lv_of hO (by cbv <;> rfl) (by trivial) | (cbv <;> rfl)) ?_))
      refine AnyE.run tok hO (by rfl) (by cbv <;> rfl) (by trivial) ?_
      refine AnyE.effK tok hO (by cbv <;> rfl) (by cbv <;> rfl) (by trivial) ?_ ?_
      · exact (by repeat (first | exact trivial | refine And.intro (by first | exact lv_of hO (by cbv <;> rfl) (by trivial) | (cbv <;> rfl)) ?_))
      refine AnyE.run tok hO (by rfl) (by cbv <;> rfl) (by trivial) ?_
      refine AnyE.appK tok (by cbv <;> rfl) (by cbv <;> rfl) (append_emptyM (G := [iV k, iV lo, iV hi]) (g := fun _ => clm1 k lo hi) (by kernel_rfl) (by rfl) (by rfl) (by rfl) (by omega) (by omega) (fun i j => clm1_one k lo hi j)) ?_ ?_
      · exact (by repeat (first | exact trivial | refine And.intro (by first | exact lv_of hO (by cbv <;> rfl) (by trivial) | (cbv <;> rfl)) ?_))
      refine AnyE.run tok hO (by rfl) (by cbv <;> rfl) (by trivial) ?_
      refine AnyE.effK tok hO (by cbv <;> rfl) (by cbv <;> rfl) (by trivial) ?_ ?_
      · exact (by repeat (first | exact trivial | refine And.intro (by first | exact lv_of hO (by cbv <;> rfl) (by trivial) | (cbv <;> rfl)) ?_))
      refine AnyE.run tok hO (by rfl) (by cbv <;> rfl) (by trivial) ?_
      refine ⟨tabR [(3, 5)], ⟨⟨133, getT (ooL x0)⟩, []⟩, ooS d [iV k, iV lo, iV hi] [(3, .cells none false [iV k, iV lo, iV hi])] (.sl 3 0 1 3 false) 4, ?_, rfl, _, rfl, ⟨rfl, rfl, rfl, rfl, trivial⟩, rfl⟩
      refine WeakR.tabM (m := 3) rfl rfl (by simp) (by rfl) (by show 3 ≤ 4; omega) (by rfl) ⟨RenV.closed Below.lit, RenV.ptr (by omega), RenV.ptr (by omega), RenV.ptr (by omega), trivial⟩ ⟨⟨by omega, _, rfl, .cells (RenVs.of_eq rfl hGb), .inl rfl⟩, ⟨by omega, _, rfl, .cells (.cons (RenV.closed Below.lit) (.cons (RenV.closed Below.lit) (.cons (RenV.sl (by omega)) (.cons (RenV.closed (clmsV_below d)) .nil)))), .inr rfl⟩, ⟨by omega, _, rfl, .cells (RenVs.closed (AllB.ok ⟨Below.lit, Below.lit, Below.lit, trivial⟩)), .inr rfl⟩, ⟨by omega, _, rfl, .cells (RenVs.closed (yardC_below d)), .inr rfl⟩, trivial⟩
    · refine PickE.eff tok hO (by cbv <;> rfl) (by cbv <;> rfl) (by trivial) ?_ ?_
      · exact (by repeat (first | exact trivial | refine And.intro (by first | exact lv_of hO (by cbv <;> rfl) (by trivial) | (cbv <;> rfl)) ?_))
      refine AnyE.run tok hO (by rfl) (by cbv <;> rfl) (by trivial) ?_
      refine AnyE.appK tok (by cbv <;> rfl) (by cbv <;> rfl) (append_noneZ h0 (by kernel_rfl) (by rfl)) ?_ ?_
      · exact (by repeat (first | exact trivial | refine And.intro (by first | exact lv_of hO (by cbv <;> rfl) (by trivial) | (cbv <;> rfl)) ?_))
      refine AnyE.run tok hO (by rfl) (by cbv <;> rfl) (by trivial) ?_
      refine AnyE.appK tok (by cbv <;> rfl) (by cbv <;> rfl) (append_emptyM (G := [iV k, iV lo, iV hi]) (g := fun _ => clm1 k lo hi) (by kernel_rfl) (by rfl) (by rfl) (by rfl) (by omega) (by omega) (fun i j => clm1_one k lo hi j)) ?_ ?_
      · exact (by repeat (first | exact trivial | refine And.intro (by first | exact lv_of hO (by cbv <;> rfl) (by trivial) | (cbv <;> rfl)) ?_))
      refine AnyE.run tok hO (by rfl) (by cbv <;> rfl) (by trivial) ?_
      refine AnyE.effK tok hO (by cbv <;> rfl) (by cbv <;> rfl) (by trivial) ?_ ?_
      · exact (by repeat (first | exact trivial | refine And.intro (by first | exact lv_of hO (by cbv <;> rfl) (by trivial) | (cbv <;> rfl)) ?_))
      refine AnyE.run tok hO (by rfl) (by cbv <;> rfl) (by trivial) ?_
      refine ⟨tabR [(3, 5)], ⟨⟨133, getT (ooL x0)⟩, []⟩, ooS d [iV k, iV lo, iV hi] [(3, .cells none false [iV k, iV lo, iV hi])] (.sl 3 0 1 3 false) 4, ?_, rfl, _, rfl, ⟨rfl, rfl, rfl, rfl, trivial⟩, rfl⟩
      refine WeakR.tabM (m := 3) rfl rfl (by simp) (by rfl) (by show 3 ≤ 4; omega) (by rfl) ⟨RenV.closed Below.lit, RenV.ptr (by omega), RenV.ptr (by omega), RenV.ptr (by omega), trivial⟩ ⟨⟨by omega, _, rfl, .cells (RenVs.of_eq rfl hGb), .inl rfl⟩, ⟨by omega, _, rfl, .cells (.cons (RenV.closed Below.lit) (.cons (RenV.closed Below.lit) (.cons (RenV.sl (by omega)) (.cons (RenV.closed (clmsV_below d)) .nil)))), .inr rfl⟩, ⟨by omega, _, rfl, .cells (RenVs.closed (AllB.ok ⟨Below.lit, Below.lit, Below.lit, trivial⟩)), .inr rfl⟩, ⟨by omega, _, rfl, .cells (RenVs.closed (yardC_below d)), .inr rfl⟩, trivial⟩
  · refine PickE.eff tok hO (by cbv <;> rfl) (by cbv <;> rfl) (by trivial) ?_ ?_
    · exact (by repeat (first | exact trivial | refine And.intro (by first | exact lv_of hO (by cbv <;> rfl) (by trivial) | (cbv <;> rfl)) ?_))
    refine AnyE.run tok hO (by rfl) (by cbv <;> rfl) (by trivial) ?_
    refine AnyE.effK tok hO (by cbv <;> rfl) (by cbv <;> rfl) (by trivial) ?_ ?_
    · exact (by repeat (first | exact trivial | refine And.intro (by first | exact lv_of hO (by cbv <;> rfl) (by trivial) | (cbv <;> rfl)) ?_))
    refine AnyE.run tok hO (by rfl) (by cbv <;> rfl) (by trivial) ?_
    refine AnyE.appK tok (by cbv <;> rfl) (by cbv <;> rfl) (append_noneZ h0 (by kernel_rfl) (by rfl)) ?_ ?_
    · exact (by repeat (first | exact trivial | refine And.intro (by first | exact lv_of hO (by cbv <;> rfl) (by trivial) | (cbv <;> rfl)) ?_))
    refine AnyE.run tok hO (by rfl) (by cbv <;> rfl) (by trivial) ?_
    refine AnyE.appK tok (by cbv <;> rfl) (by cbv <;> rfl) (append_emptyM (G := [iV k, iV lo, iV hi]) (g := fun _ => clm1 k lo hi) (by kernel_rfl) (by rfl) (by rfl) (by rfl) (by omega) (by omega) (fun i j => clm1_one k lo hi j)) ?_ ?_
    · exact (by repeat (first | exact trivial | refine And.intro (by first | exact lv_of hO (by cbv <;> rfl) (by trivial) | (cbv <;> rfl)) ?_))
    refine AnyE.run tok hO (by rfl) (by cbv <;> rfl) (by trivial) ?_
    refine AnyE.effK tok hO (by cbv <;> rfl) (by cbv <;> rfl) (by trivial) ?_ ?_
    · exact (by repeat (first | exact trivial | refine And.intro (by first | exact lv_of hO (by cbv <;> rfl) (by trivial) | (cbv <;> rfl)) ?_))
    refine AnyE.run tok hO (by rfl) (by cbv <;> rfl) (by trivial) ?_
    refine ⟨tabR [(3, 5)], ⟨⟨133, getT (ooL x0)⟩, []⟩, ooS d [iV k, iV lo, iV hi] [(3, .cells none false [iV k, iV lo, iV hi])] (.sl 3 0 1 3 false) 4, ?_, rfl, _, rfl, ⟨rfl, rfl, rfl, rfl, trivial⟩, rfl⟩
    refine WeakR.tabM (m := 3) rfl rfl (by simp) (by rfl) (by show 3 ≤ 4; omega) (by rfl) ⟨RenV.closed Below.lit, RenV.ptr (by omega), RenV.ptr (by omega), RenV.ptr (by omega), trivial⟩ ⟨⟨by omega, _, rfl, .cells (RenVs.of_eq rfl hGb), .inl rfl⟩, ⟨by omega, _, rfl, .cells (.cons (RenV.closed Below.lit) (.cons (RenV.closed Below.lit) (.cons (RenV.sl (by omega)) (.cons (RenV.closed (clmsV_below d)) .nil)))), .inr rfl⟩, ⟨by omega, _, rfl, .cells (RenVs.closed (AllB.ok ⟨Below.lit, Below.lit, Below.lit, trivial⟩)), .inr rfl⟩, ⟨by omega, _, rfl, .cells (RenVs.closed (yardC_below d)), .inr rfl⟩, trivial⟩
set_option maxHeartbeats 16000000 in
theorem oone_s2 (d : YardD) (k lo hi x0 : Int) (h0 : 0 < d.nb) (hnb : d.nb < 1048576) (g : Nat → AV) (h : AllP (fun p => g p.1 = p.2) (ooL x0)) :
    SW Try.prog none (nthC 2 (bodyF Try.f16)) (midK 133 (ooL x0) (ooS d [iV k, iV lo, iV hi] [(3, .cells none false (flatG 3 (bedC (d.plusB k lo hi)) (d.nb + 1)))] (.sl 3 0 (d.nb + 1) 3 false) 4))
      ⟨⟨133, g⟩, []⟩ (ooS d [iV k, iV lo, iV hi] [] (bedsV d) 3) := by
  obtain ⟨O, hO⟩ : ∃ O : Ar, O = std := ⟨_, rfl⟩
  obtain ⟨g2, g3, g4, g7, _⟩ := h
  simp only at g2 g3 g4 g7
  rw [← updT_self g2, ← updT_self g3, ← updT_self g4, ← updT_self g7]
  obtain ⟨GC, hGC⟩ : ∃ G, G = flatG 3 (bedC d) d.nb := ⟨_, rfl⟩
  refine SW.ren ?_
  refine SW.runD tok mixed hO (by kernel_rfl) (by cbv <;> rfl) (by trivial) ?_
  refine AnyE.many [0, 5] (by cbv <;> rfl) (by rfl) ⟨?_, ?_, trivial⟩
  · refine PickE.eff tok hO (by cbv <;> rfl) (by cbv <;> rfl) (by trivial) ?_ ?_
    · exact (by repeat (first | exact trivial | refine And.intro (by first | exact lv_of hO (by cbv <;> rfl) (by trivial) | (cbv <;> rfl)) ?_))
    refine AnyE.run tok hO (by rfl) (by cbv <;> rfl) (by trivial) ?_
    refine AnyE.many [3, 5] (by cbv <;> rfl) (by rfl) ⟨?_, ?_, trivial⟩
    · refine PickE.app tok (by cbv <;> rfl) (by cbv <;> rfl) (append_emptyG (by kernel_rfl) (by rfl) hnb h0 (fun i k => bedC_one d i k) hGC) ?_ ?_
      · exact (by repeat (first | exact trivial | refine And.intro (by first | exact lv_of hO (by cbv <;> rfl) (by trivial) | (cbv <;> rfl)) ?_))
      refine AnyE.run tok hO (by rfl) (by cbv <;> rfl) (by trivial) ?_
      refine AnyE.effK tok hO (by cbv <;> rfl) (by cbv <;> rfl) (by trivial) ?_ ?_
      · exact (by repeat (first | exact trivial | refine And.intro (by first | exact lv_of hO (by cbv <;> rfl) (by trivial) | (cbv <;> rfl)) ?_))
      refine AnyE.run tok hO (by rfl) (by cbv <;> rfl) (by trivial) ?_
      refine AnyE.appOneK tok (by cbv <;> rfl) (by cbv <;> rfl) (by rfl) (by rfl) hGC (by kernel_rfl) (by rfl) (by rfl) hnb (fun G' hG' => ⟨?_, ?_⟩)
      · exact (by repeat (first | exact trivial | refine And.intro (by first | exact lv_of hO (by cbv <;> rfl) (by trivial) | (cbv <;> rfl)) ?_))
      refine AnyE.run tok hO (by rfl) (by cbv <;> rfl) (by trivial) ?_
      have hG' := hG'.trans (plusB_flat d k lo hi)
      refine AnyE.effK tok hO (by cbv <;> rfl) (by cbv <;> rfl) (by trivial) ?_ ?_
      · exact (by repeat (first | exact trivial | refine And.intro (by first | exact lv_of hO (by cbv <;> rfl) (by trivial) | (cbv <;> rfl)) ?_))
      refine AnyE.run tok hO (by rfl) (by cbv <;> rfl) (by trivial) ?_
      rw [← hG']
      have hGb : ∀ a ∈ G', Below 0 a := by rw [hG']; exact flatG_below (fun i j => by unfold bedC; split <;> exact Below.lit) _
      refine ⟨tabR [(3, 6)], ⟨⟨133, getT (ooL x0)⟩, []⟩, ooS d [iV k, iV lo, iV hi] [(3, .cells none false G')] (.sl 3 0 (d.nb + 1) 3 false) 4, ?_, rfl, _, rfl, ⟨rfl, rfl, rfl, rfl, trivial⟩, rfl⟩
      refine WeakR.tabM (m := 3) rfl rfl (by simp) (by rfl) (by show 3 ≤ 4; omega) (by rfl) ⟨RenV.closed Below.lit, RenV.ptr (by omega), RenV.ptr (by omega), RenV.ptr (by omega), trivial⟩ ⟨⟨by omega, _, rfl, .cells (RenVs.of_eq rfl hGb), .inl rfl⟩, ⟨by omega, _, rfl, .cells (.cons (RenV.closed Below.lit) (.cons (RenV.closed Below.lit) (.cons (RenV.sl (by omega)) (.cons (RenV.closed (clmsV_below d)) .nil)))), .inr rfl⟩, ⟨by omega, _, rfl, .cells (RenVs.closed (AllB.ok ⟨Below.lit, Below.lit, Below.lit, trivial⟩)), .inr rfl⟩, ⟨by omega, _, rfl, .cells (RenVs.closed (yardC_below d)), .inr rfl⟩, trivial⟩
    · refine PickE.eff tok hO (by cbv <;> rfl) (by cbv <;> rfl) (by trivial) ?_ ?_
      · exact (by repeat (first | exact trivial | refine And.intro (by first | exact lv_of hO (by cbv <;> rfl) (by trivial) | (cbv <;> rfl)) ?_))
      refine AnyE.run tok hO (by rfl) (by cbv <;> rfl) (by trivial) ?_
      refine AnyE.appK tok (by cbv <;> rfl) (by cbv <;> rfl) (append_emptyG (by kernel_rfl) (by rfl) hnb h0 (fun i k => bedC_one d i k) hGC) ?_ ?_
      · exact (by repeat (first | exact trivial | refine And.intro (by first | exact lv_of hO (by cbv <;> rfl) (by trivial) | (cbv <;> rfl)) ?_))
      refine AnyE.run tok hO (by rfl) (by cbv <;> rfl) (by trivial) ?_
      refine AnyE.appOneK tok (by cbv <;> rfl) (by cbv <;> rfl) (by rfl) (by rfl) hGC (by kernel_rfl) (by rfl) (by rfl) hnb (fun G' hG' => ⟨?_, ?_⟩)
      · exact (by repeat (first | exact trivial | refine And.intro (by first | exact lv_of hO (by cbv <;> rfl) (by trivial) | (cbv <;> rfl)) ?_))
      refine AnyE.run tok hO (by rfl) (by cbv <;> rfl) (by trivial) ?_
      have hG' := hG'.trans (plusB_flat d k lo hi)
      refine AnyE.effK tok hO (by cbv <;> rfl) (by cbv <;> rfl) (by trivial) ?_ ?_
      · exact (by repeat (first | exact trivial | refine And.intro (by first | exact lv_of hO (by cbv <;> rfl) (by trivial) | (cbv <;> rfl)) ?_))
      refine AnyE.run tok hO (by rfl) (by cbv <;> rfl) (by trivial) ?_
      rw [← hG']
      have hGb : ∀ a ∈ G', Below 0 a := by rw [hG']; exact flatG_below (fun i j => by unfold bedC; split <;> exact Below.lit) _
      refine ⟨tabR [(3, 6)], ⟨⟨133, getT (ooL x0)⟩, []⟩, ooS d [iV k, iV lo, iV hi] [(3, .cells none false G')] (.sl 3 0 (d.nb + 1) 3 false) 4, ?_, rfl, _, rfl, ⟨rfl, rfl, rfl, rfl, trivial⟩, rfl⟩
      refine WeakR.tabM (m := 3) rfl rfl (by simp) (by rfl) (by show 3 ≤ 4; omega) (by rfl) ⟨RenV.closed Below.lit, RenV.ptr (by omega), RenV.ptr (by omega), RenV.ptr (by omega), trivial⟩ ⟨⟨by omega, _, rfl, .cells (RenVs.of_eq rfl hGb), .inl rfl⟩, ⟨by omega, _, rfl, .cells (.cons (RenV.closed Below.lit) (.cons (RenV.closed Below.lit) (.cons (RenV.sl (by omega)) (.cons (RenV.closed (clmsV_below d)) .nil)))), .inr rfl⟩, ⟨by omega, _, rfl, .cells (RenVs.closed (AllB.ok ⟨Below.lit, Below.lit, Below.lit, trivial⟩)), .inr rfl⟩, ⟨by omega, _, rfl, .cells (RenVs.closed (yardC_below d)), .inr rfl⟩, trivial⟩
  · refine PickE.eff tok hO (by cbv <;> rfl) (by cbv <;> rfl) (by trivial) ?_ ?_
    · exact (by repeat (first | exact trivial | refine And.intro (by first | exact lv_of hO (by cbv <;> rfl) (by trivial) | (cbv <;> rfl)) ?_))
    refine AnyE.run tok hO (by rfl) (by cbv <;> rfl) (by trivial) ?_
    refine AnyE.effK tok hO (by cbv <;> rfl) (by cbv <;> rfl) (by trivial) ?_ ?_
    · exact (by repeat (first | exact trivial | refine And.intro (by first | exact lv_of hO (by cbv <;> rfl) (by trivial) | (cbv <;> rfl)) ?_))
    refine AnyE.run tok hO (by rfl) (by cbv <;> rfl) (by trivial) ?_
    refine AnyE.appK tok (by cbv <;> rfl) (by cbv <;> rfl) (append_emptyG (by kernel_rfl) (by rfl) hnb h0 (fun i k => bedC_one d i k) hGC) ?_ ?_
    · exact (by repeat (first | exact trivial | refine And.intro (by first | exact lv_of hO (by cbv <;> rfl) (by trivial) | (cbv <;> rfl)) ?_))
    refine AnyE.run tok hO (by rfl) (by cbv <;> rfl) (by trivial) ?_
    refine AnyE.appOneK tok (by cbv <;> rfl) (by cbv <;> rfl) (by rfl) (by rfl) hGC (by kernel_rfl) (by rfl) (by rfl) hnb (fun G' hG' => ⟨?_, ?_⟩)
    · exact (by repeat (first | exact trivial | refine And.intro (by first | exact lv_of hO (by cbv <;> rfl) (by trivial) | (cbv <;> rfl)) ?_))
    refine AnyE.run tok hO (by rfl) (by cbv <;> rfl) (by trivial) ?_
    have hG' := hG'.trans (plusB_flat d k lo hi)
    refine AnyE.effK tok hO (by cbv <;> rfl) (by cbv <;> rfl) (by trivial) ?_ ?_
    · exact (by repeat (first | exact trivial | refine And.intro (by first | exact lv_of hO (by cbv <;> rfl) (by trivial) | (cbv <;> rfl)) ?_))
    refine AnyE.run tok hO (by rfl) (by cbv <;> rfl) (by trivial) ?_
    rw [← hG']
    have hGb : ∀ a ∈ G', Below 0 a := by rw [hG']; exact flatG_below (fun i j => by unfold bedC; split <;> exact Below.lit) _
    refine ⟨tabR [(3, 6)], ⟨⟨133, getT (ooL x0)⟩, []⟩, ooS d [iV k, iV lo, iV hi] [(3, .cells none false G')] (.sl 3 0 (d.nb + 1) 3 false) 4, ?_, rfl, _, rfl, ⟨rfl, rfl, rfl, rfl, trivial⟩, rfl⟩
    refine WeakR.tabM (m := 3) rfl rfl (by simp) (by rfl) (by show 3 ≤ 4; omega) (by rfl) ⟨RenV.closed Below.lit, RenV.ptr (by omega), RenV.ptr (by omega), RenV.ptr (by omega), trivial⟩ ⟨⟨by omega, _, rfl, .cells (RenVs.of_eq rfl hGb), .inl rfl⟩, ⟨by omega, _, rfl, .cells (.cons (RenV.closed Below.lit) (.cons (RenV.closed Below.lit) (.cons (RenV.sl (by omega)) (.cons (RenV.closed (clmsV_below d)) .nil)))), .inr rfl⟩, ⟨by omega, _, rfl, .cells (RenVs.closed (AllB.ok ⟨Below.lit, Below.lit, Below.lit, trivial⟩)), .inr rfl⟩, ⟨by omega, _, rfl, .cells (RenVs.closed (yardC_below d)), .inr rfl⟩, trivial⟩
end Go.Fz
set_option linter.unusedVariables false
namespace Go.Fz
open Go.Proofs
set_option maxRecDepth 100000
def lessF (n : Nat) (f : Nat → Int) : Nat → Int := fun b => if b < n then f b else 0
theorem lessF_lt {n b : Nat} {f : Nat → Int} (h : b < n) : lessF n f b = f b := if_pos h
theorem plusB_mt (y : YardD) (k lo hi : Int) (f : Nat → Int) {b : Nat} (hb : b < y.nb) (w : Int) : y.mt (lessF y.nb f) b w = (y.plusB k lo hi).mt f b w := by
  show (decide (lessF y.nb f b ≤ w) && decide (w ≤ lessF y.nb f b + y.lng b - 1)) = (decide (f b ≤ w) && decide (w ≤ f b + (if b < y.nb then y.lng b else k) - 1))
  rw [lessF_lt hb, if_pos hb]
theorem plusB_busy (y : YardD) (k lo hi : Int) (f : Nat → Int) (w : Int) : y.busyP (List.range y.nb) (lessF y.nb f) w ≤ (y.plusB k lo hi).busyP (List.range (y.nb + 1)) f w := by
  have h1 : y.busyP (List.range y.nb) (lessF y.nb f) w = (y.plusB k lo hi).busyP (List.range y.nb) f w := by
    unfold YardD.busyP
    rw [List.filter_congr fun b hb => plusB_mt y k lo hi f (List.mem_range.1 hb) w]
  rw [h1]
  refine busy_sub _ ?_ f w
  rw [List.range_succ]
  exact List.sublist_append_left _ _
theorem plusB_allS {y : YardD} {k lo hi : Int} {f : Nat → Int} (h : f ∈ (y.plusB k lo hi).allS) : lessF y.nb f ∈ y.allS := by
  obtain ⟨_, hs⟩ := mem_allS.1 h
  have hin : ∀ b, b ∈ List.range y.nb → b ∈ List.range (y.nb + 1) := fun b hb => List.mem_range.2 (Nat.lt_succ_of_lt (List.mem_range.1 hb))
  refine mem_allS.2 ⟨fun b hb => if_neg fun h => hb (List.mem_range.2 h), ⟨fun b hb => ?_, fun b hb => ?_, fun w hw => ?_, fun b hb h0 hb1 w hm => ?_⟩⟩
  · have h2 := hs.rng b (hin b hb)
    have hl := List.mem_range.1 hb
    rw [lessF_lt hl]
    have e1 : (y.plusB k lo hi).blo b = y.blo b := if_pos hl
    have e2 : (y.plusB k lo hi).bhi b = y.bhi b := if_pos hl
    rw [e1, e2] at h2
    exact h2
  · have h2 := hs.fin b (hin b hb)
    have hl := List.mem_range.1 hb
    rw [lessF_lt hl]
    have e1 : (y.plusB k lo hi).lng b = y.lng b := if_pos hl
    rw [e1] at h2
    exact h2
  · obtain ⟨b, hb, hm⟩ := hw
    rw [plusB_mt y k lo hi f (List.mem_range.1 hb)] at hm
    have h2 := hs.few w ⟨b, hin b hb, hm⟩
    have h3 := plusB_busy y k lo hi f w
    exact Int.le_trans (Int.ofNat_le.2 h3) h2
  · rw [plusB_mt y k lo hi f (List.mem_range.1 hb)] at hm
    rw [plusB_mt y k lo hi f (List.mem_range.1 hb1)]
    exact hs.apt b (hin b hb) h0 (hin _ hb1) w hm
theorem plusB_kept {y : YardD} {k lo hi : Int} (hcb : ∀ i, i < y.nc → 0 ≤ y.cb i ∧ y.cb i < y.nb) {f : Nat → Int} (h : f ∈ (y.plusB k lo hi).kept) : lessF y.nb f ∈ y.kept := by
  obtain ⟨h1, h2⟩ := mem_kept.1 h
  refine mem_kept.2 ⟨plusB_allS h1, fun p hp => ?_⟩
  have h3 := hcb p hp
  have h4 := h2 p hp
  show inB (lessF y.nb f (y.cb p).toNat) (y.clo p) (y.chi p) = true
  rw [lessF_lt (by omega)]
  exact h4
theorem plusB_can {y : YardD} {k lo hi : Int} {c : Int} (h : (y.plusB k lo hi).canH c = true) : y.canH c = true := by
  rw [canH_iff] at h ⊢
  obtain ⟨f, hf⟩ := List.exists_mem_of_ne_nil _ h
  have := plusB_allS (y := y.withH c) (k := k) (lo := lo) (hi := hi) hf
  intro h'
  rw [h'] at this
  cases this
theorem plusB_few {y : YardD} {k lo hi : Int} (hc : y.check = 0) (hcx : (y.plusB k lo hi).check = 0) : (y.fewN = (0, 10) ∧ (y.plusB k lo hi).fewN = (0, 10)) ∨ ∃ (n m F : Int), y.fewN = (n, 0) ∧ (y.plusB k lo hi).fewN = (m, F) ∧ ((F = 0 ∧ n ≤ m) ∨ F = 10) := by
  rcases few_sees hc with ⟨n, n1, n3, hq, hk⟩ | ⟨hq, hk⟩
  · rcases few_sees hcx with ⟨m, m1, m3, hqx, hkx⟩ | ⟨hqx, hkx⟩
    · exact .inr ⟨n, m, 0, hq, hqx, .inl ⟨rfl, Int.ofNat_le.2 ((hk m m1 m3).1 (plusB_can ((hkx m m1 m3).2 (Nat.le_refl _))))⟩⟩
    · exact .inr ⟨n, 0, 10, hq, hqx, .inr rfl⟩
  · rcases few_sees hcx with ⟨m, m1, m3, hqx, hkx⟩ | ⟨hqx, hkx⟩
    · have := plusB_can ((hkx m m1 m3).2 (Nat.le_refl _))
      rw [hk m m1 m3] at this
      cases this
    · exact .inl ⟨hq, hqx⟩
theorem own_range {y : YardD} (hc : y.check = 0) : (y.ownE true = 0 ∧ y.kept ≠ []) ∨ y.ownE true = 9 ∨ y.ownE true = 10 := by
  by_cases hs : y.allS = []
  · refine .inr (.inr ?_)
    unfold YardD.ownE
    rw [if_pos (by rw [(any_sees hc).1 hs]; decide), (any_sees hc).1 hs]
  · by_cases hk : y.kept = []
    · refine .inr (.inl ?_)
      unfold YardD.ownE
      rw [if_neg (by simp [(any_sees hc).2 hs]), if_pos hk]
    · exact .inl ⟨own_sees hc hk, hk⟩
theorem plusB_weeks {y : YardD} {k lo hi : Int} (hcb : ∀ i, i < y.nc → 0 ≤ y.cb i ∧ y.cb i < y.nb) {K : Int} (k0 : 0 ≤ K) (k1 : K < y.nb) {w : Int}
    (hw : w ∈ wkN (y.plusB k lo hi).kept K ((y.plusB k lo hi).blo K.toNat) ((y.plusB k lo hi).bhi K.toNat - (y.plusB k lo hi).blo K.toNat + 1).toNat) : w ∈ wkN y.kept K (y.blo K.toNat) (y.bhi K.toNat - y.blo K.toNat + 1).toNat := by
  have hl : K.toNat < y.nb := by omega
  have e1 : (y.plusB k lo hi).blo K.toNat = y.blo K.toNat := if_pos hl
  have e2 : (y.plusB k lo hi).bhi K.toNat = y.bhi K.toNat := if_pos hl
  rw [e1, e2] at hw
  obtain ⟨a1, a2⟩ := (mem_wkN _).1 hw
  refine (mem_wkN _).2 ⟨a1, ?_⟩
  obtain ⟨f, a3, a4⟩ := anyW_iff.1 a2
  exact anyW_iff.2 ⟨_, plusB_kept hcb a3, by rw [lessF_lt hl]; exact a4⟩
theorem weeks_any {y : YardD} (hc : y.check = 0) {K : Int} (k0 : 0 ≤ K) (k1 : K < y.nb) : ∃ (n : Nat) (g : Nat → Int), Pure Try.prog 27 [yardV y, iV K] (.tup [intsV n false g, iV (y.ownE true)]) := by
  have hn := (y.fit_of_check hc).1.nb
  have h5 := (y.fit_of_check hc).2.2.2.2.2.1
  have hb : y.hasB K = true := by
    unfold YardD.hasB
    rw [decide_eq_true k0, decide_eq_true k1]; rfl
  have e := weeks_ok y (by omega) (by omega) K
  rw [hb] at e
  have hv : ∃ n g, Eqv (y.wkV K) (intsV n false g) := by
    unfold YardD.wkV
    split
    · exact ⟨_, _, Eqv.refl _⟩
    · exact ⟨0, fun _ => 0, Eqv.nil⟩
  obtain ⟨n, g, hv⟩ := hv
  exact ⟨n, g, e.res (Eqv.tup (.cons hv (.cons (Eqv.refl _) .nil)))⟩
end Go.Fz
