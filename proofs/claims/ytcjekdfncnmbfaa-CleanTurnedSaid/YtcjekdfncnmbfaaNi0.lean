/- Own work of the verifier of watercress: Lb4, Lb5, Lb6, Lb7, Lb8, FzKo, FzCn1, FzCn2, FzCn4, FzCh1, FzCh2, FzCh3, FzCh4, FzCh5, FzEs1, FzCp, FzEs2, FzCm2, FzCm3, FzCm4, FzCm5, FzOn1, FzOn2, FzEa1, FzEa2, FzEa3, FzCn5, FzCn6, FzEa4, FzTd1. -/
import Derived.ChangeKeysEq
import Derived.Laws.AppendOwn
import Derived.Laws.Cells
import Derived.Laws.CopyRow
import Derived.Laws.Entries
import Derived.Laws.NewFold
import Derived.Laws.Sem
import Derived.Laws.Small
import Derived.Laws.StructEq
import Derived.Laws.Tables
import Derived.Laws.World
import Derived.OrdersHeld
import Derived.OrdersIn
import Derived.RangeFuncLeaves
import Derived.RangeFuncRecord
import Derived.Shelf.Abstract
import Derived.Test.YtcjekdfncnmbfaaNa0
import Derived.Test.YtcjekdfncnmbfaaNa1
import Derived.Test.YtcjekdfncnmbfaaNa2
import Derived.Test.YtcjekdfncnmbfaaNa3
import Derived.Test.YtcjekdfncnmbfaaProg
import Derived.Test.YtcjekdfncnmbfaaNa4
import Derived.Below
import Derived.CallsIn
import Derived.Carry
import Derived.ChangeSame
import Derived.Deep.Slices
import Derived.JoinedCond
import Derived.Laws.Cover3
import Derived.Lib.SmallJoins
import Derived.OpenShut
import Derived.ProofKit
import Derived.WalkKit
import Derived.WideKeyArgs
import Derived.Test.YtcjekdfncnmbfaaRows
import Derived.Test.YtcjekdfncnmbfaaNa5
import Derived.DeepKeys4
import Derived.Maps.Keyed
import Derived.Maps.RangeRun
import Derived.Test.YtcjekdfncnmbfaaNa6
import Derived.Test.YtcjekdfncnmbfaaNa7
import Derived.Test.YtcjekdfncnmbfaaNa8
import Derived.Test.YtcjekdfncnmbfaaNa9
import Derived.Test.YtcjekdfncnmbfaaNa18
import Derived.Test.YtcjekdfncnmbfaaNa10
import Derived.Test.YtcjekdfncnmbfaaNa11
import Derived.Test.YtcjekdfncnmbfaaNa13
import Derived.Test.YtcjekdfncnmbfaaNa16
import Derived.Test.YtcjekdfncnmbfaaNa14
import Derived.Test.YtcjekdfncnmbfaaNa15
import Derived.Test.YtcjekdfncnmbfaaNa19
import Derived.Test.YtcjekdfncnmbfaaNa20
import Derived.Test.YtcjekdfncnmbfaaNa21
import Derived.Test.YtcjekdfncnmbfaaNa22
import Derived.Test.YtcjekdfncnmbfaaNa12
import Derived.Test.YtcjekdfncnmbfaaNa17
set_option linter.unusedVariables false
set_option linter.unusedSimpArgs false
namespace Go.Fz
open Go.Proofs
theorem en15 : Enters Try.prog 15 := fun args w => Go.Proofs.enters_of Try.func15 (by kernel_rfl) rfl args w
theorem en21 : Enters Try.prog 21 := fun args w => Go.Proofs.enters_of Try.func21 (by kernel_rfl) rfl args w
theorem en63 : Enters Try.prog 63 := fun args w => Go.Proofs.enters_of Try.func63 (by kernel_rfl) rfl args w
theorem en91 : Enters Try.prog 91 := fun args w => Go.Proofs.enters_of Try.func91 (by kernel_rfl) rfl args w
end Go.Fz
set_option linter.unusedVariables false
set_option linter.unusedSimpArgs false
namespace Go.Fz
variable {P : Program} {T : Ti}
end Go.Fz
namespace Go.Fz
variable {P : Program} {T : Ti}
end Go.Fz
namespace Go.Fz
variable {P : Program} {T : Ti}
end Go.Fz
namespace Go.Fz
variable {P : Program} {T : Ti}
end Go.Fz
namespace Go.Fz
open Go.Proofs
set_option maxRecDepth 100000
end Go.Fz
namespace Go.Fz
open Go.ChangeShapes Go.WideShapes Go.Deep Go.Joins
section
variable {H : Type} {enc : TypeId × Value → H} {P : Program} {w : World} {base : Nat} {spare : Nat → Bool} {held : Bool}
end
end Go.Fz
namespace Go.Proofs.Ytcjekdfncnmbfaa
open Go.ChangeShapes Go.WideShapes Go.ChangeAt Go.RowKit Go.Joins
set_option linter.unusedVariables false
set_option maxRecDepth 100000
end Go.Proofs.Ytcjekdfncnmbfaa
namespace Go.Fz
open Go.Proofs
set_option maxRecDepth 100000
end Go.Fz
namespace Go.Fz
open Go.Proofs
set_option maxRecDepth 100000
end Go.Fz
namespace Go.Fz
open Go.Proofs
set_option maxRecDepth 100000
end Go.Fz
namespace Go.Fz
open Go.Proofs
set_option maxRecDepth 100000
end Go.Fz
namespace Go.Fz
open Go.Proofs
set_option maxRecDepth 100000
theorem inj_of {l : Hp} {ρ : Nat → Nat} (h : (l.all fun p => l.all fun q => !(Nat.beq (ρ p.1) (ρ q.1)) || Nat.beq p.1 q.1) = true) : ∀ p ∈ l, ∀ q ∈ l, ρ p.1 = ρ q.1 → p.1 = q.1 := fun p hp q hq he => by
  have h1 := List.all_eq_true.1 (List.all_eq_true.1 h p hp) q hq
  rw [he, Nat.beq_refl] at h1
  exact Nat.eq_of_beq_eq_true (by simpa using h1)
theorem intC_below (fl : Nat → Int) (i k : Nat) : Below 0 (intC fl i k) := Below.lit
theorem flatG_snoc (fl : Nat → Int) (n : Nat) (v : Int) (h : v = fl n) : flatG 1 (intC fl) n ++ [iV v] = flatG 1 (intC fl) (n + 1) := by
  rw [h]; rfl
end Go.Fz
namespace Go.Fz
open Go.Proofs
set_option maxRecDepth 100000
end Go.Fz
namespace Go.Fz
open Go.Proofs
set_option maxRecDepth 100000
end Go.Fz
namespace Go.Fz
open Go.Proofs
set_option maxRecDepth 100000
end Go.Fz
namespace Go.Fz
open Go.Proofs
set_option maxRecDepth 100000
end Go.Fz
namespace Go.Fz
open Go.Proofs
set_option maxRecDepth 100000
end Go.Fz
namespace Go.Fz
open Go.Proofs
set_option maxRecDepth 100000
end Go.Fz
namespace Go.Fz
open Go.Proofs
set_option maxRecDepth 100000
end Go.Fz
set_option linter.unusedVariables false
set_option linter.unusedSimpArgs false
namespace Go.Fz
open Go.Proofs
set_option maxRecDepth 100000
variable {P : Program} {T : Ti}
end Go.Fz
namespace Go.Fz
end Go.Fz
namespace Go.Fz
variable {P : Program} {T : Ti}
end Go.Fz
namespace Go.Fz
variable {P : Program} {T : Ti}
end Go.Fz
namespace Go.Fz
set_option maxRecDepth 100000
section
variable {P : Program} {T : Ti}
end
end Go.Fz
namespace Go.Fz
open Go.Proofs
set_option maxRecDepth 100000
section
variable {P : Program} {T : Ti}
end
end Go.Fz
namespace Go.Fz
open Go.Proofs
set_option maxRecDepth 100000
section
variable {α : Type}
end
end Go.Fz
namespace Go.Fz
open Go.Proofs
set_option maxRecDepth 100000
section
variable {α : Type}
end
end Go.Fz
namespace Go.Fz
set_option maxRecDepth 100000
section
variable {P : Program} {T : Ti}
theorem SW.ren {rd : Option Nat} {c : Code} {Q : Exit → Fm → St → Prop} {f : Fm} {st : St} (h : SW P rd c (fun e f1 st1 => ∃ ρ f2 st2, WeakR st.n ρ f1 st1 f2 st2 ∧ Q e f2 st2) f st) : SW P rd c Q f st := by
  intro φ w a n h1 h2 h3
  refine wpIn_mono (h φ w a n h1 h2 h3) fun e a' w' hl => ?_
  obtain ⟨f1, st1, φ1, ⟨ρ, f2, st2, hw, hq⟩, he, hr, ha, hf⟩ := hl
  obtain ⟨k1, k2, k3⟩ := hw.ok hr ha
  refine ⟨f2, st2, renF φ1 ρ st2.n, hq, ⟨?_, fun id hid => ?_, he.z⟩, k1, k2, hf.trans k3⟩
  · rw [h2.n]; exact hw.lo
  · show φ1.f (ρ id) = _
    rw [hw.idn id (by rw [← h2.n]; exact hid)]
    exact he.f id hid
def tabR : List (Nat × Nat) → Nat → Nat
  | [], j => j
  | (a, b) :: r, j => match Nat.beq a j with
    | true => b
    | false => tabR r j
theorem tabR_id {n : Nat} : ∀ {l : List (Nat × Nat)}, (l.all fun p => Nat.ble n p.1) = true → ∀ j, j < n → tabR l j = j
  | [], _, _, _ => rfl
  | (a, b) :: r, h, j, hj => by
    simp only [List.all_cons, Bool.and_eq_true] at h
    have : n ≤ a := Nat.le_of_ble_eq_true h.1
    unfold tabR
    cases hb : Nat.beq a j with
    | true => have := Nat.eq_of_beq_eq_true hb; omega
    | false => exact tabR_id h.2 j hj
theorem WeakR.tab {n0 : Nat} {tb : List (Nat × Nat)} {f1 : Fm} {st1 : St} {l : List (Nat × AV)} {len : Nat} {dm : List Nat} {h2 : Hp} {n2 : Nat} (e1 : len = f1.ts.len) (e2 : dm = f1.dm) (e3 : ∀ id ∈ dm, id < n0) (hid : (tb.all fun p => Nat.ble n0 p.1) = true) (lo : n0 ≤ n2)
    (hinj : (h2.all fun p => h2.all fun q => !(Nat.beq (tabR tb p.1) (tabR tb q.1)) || Nat.beq p.1 q.1) = true)
    (get : AllP (fun p => RenV (tabR tb) n2 p.2 (f1.ts.get p.1)) l) (obj : AllP (fun p => p.1 < n2 ∧ ∃ o1, st1.h.get (tabR tb p.1) = some o1 ∧ RenO (tabR tb) n2 p.2 o1 ∧ o1.fam = none) h2) : WeakR n0 (tabR tb) f1 st1 ⟨⟨len, getT l⟩, dm⟩ ⟨h2, n2⟩ := by
  refine WeakR.of (m := n2) e1 e2 e3 (tabR_id hid) lo (fun p hp => get.ok p hp) (fun p hp => ?_) (inj_of hinj)
  obtain ⟨h1, o1, h3, h4, h5⟩ := obj.ok p hp
  exact ⟨h1, o1, h3, h4, .inr h5⟩
end
end Go.Fz
namespace Go.Fz
variable {P : Program} {T : Ti}
end Go.Fz
namespace Go.Fz
open Go.Proofs
set_option maxRecDepth 100000
section
variable {P : Program} {T : Ti}
end
section
variable {α : Type}
end
end Go.Fz
namespace Go.Fz
variable {P : Program} {T : Ti}
end Go.Fz
namespace Go.Fz
open Go.Proofs
set_option maxRecDepth 100000
end Go.Fz
namespace Go.Fz
open Go.Proofs
set_option maxRecDepth 100000
end Go.Fz
namespace Go.Fz
open Go.Proofs
set_option maxRecDepth 100000
end Go.Fz
namespace Go.Fz
open Go.Proofs
set_option maxRecDepth 100000
section
variable {α : Type} (next : α → (Nat → Int) → α) (len : α → Nat) (N : Nat) (lo hi : Nat → Int)
end
end Go.Fz
namespace Go.Fz
open Go.Proofs
set_option maxRecDepth 100000
section
variable {P : Program} {T : Ti}
end
section
variable {P : Program}
end
end Go.Fz
namespace Go.Fz
variable {P : Program} {T : Ti}
end Go.Fz
namespace Go.Fz
open Go.Proofs
set_option maxRecDepth 100000
end Go.Fz
namespace Go.Fz
open Go.Proofs
set_option maxRecDepth 100000
end Go.Fz
namespace Go.Fz
open Go.Proofs
set_option maxRecDepth 100000
section
variable {P : Program} {T : Ti}
end
end Go.Fz
namespace Go.Fz
open Go.Proofs
set_option maxRecDepth 100000
end Go.Fz
set_option linter.unusedVariables false
set_option linter.unusedSimpArgs false
namespace Go.Fz
variable {P : Program} {T : Ti}
end Go.Fz
namespace Go.Fz
open Go.Proofs
set_option maxRecDepth 100000
end Go.Fz
namespace Go.Fz
open Go.Proofs
set_option maxRecDepth 100000
end Go.Fz
namespace Go.Fz
section
variable {P : Program} {T : Ti}
def esOf (st : St) (a : AV) : Option (Nat × List (AV × AV × Nat) × Nat) := match a with
  | .mp id => match st.h.get id with
    | some (.map es clock) => some (id, es, clock)
    | _ => none
  | _ => none
def rngAt (ops : Array Oper) (i : Nat) (f : Fm) : Option (TypeId × AV) := match ops[i]? with
  | none => none
  | some o => match wantA ops f.ts o with
    | some true => match o.op with
      | .range t x => some (t, Operand.av f.ts x)
      | _ => none
    | _ => none
end
end Go.Fz
namespace Go.Fz
open Go.Proofs
set_option maxRecDepth 100000
section
variable {α : Type} {next : α → (Nat → Int) → α} {N : Nat} {lo hi : Nat → Int}
end
end Go.Fz
namespace Go.Fz
open Go.Proofs
set_option maxRecDepth 100000
section
variable {P : Program} {T : Ti}
end
end Go.Fz
namespace Go.Fz
open Go.Proofs
set_option maxRecDepth 100000
end Go.Fz
namespace Go.Fz
open Go.Proofs
set_option maxRecDepth 100000
end Go.Fz
namespace Go.Fz
open Go.Proofs
set_option maxRecDepth 100000
def wholeAt (ops : Array Oper) (i : Nat) (f : Fm) : Option (TypeId × AV) := match ops[i]? with
  | none => none
  | some o => match wantA ops f.ts o with
    | some true => match o.op with
      | .slice t x none none none => some (t, Operand.av f.ts x)
      | _ => none
    | _ => none
theorem OpsW.wholeArr {P : Program} {T : Ti} (hT : TOk P T) {rd : Option Nat} {ops : Array Oper} {l : List Nat} {K : Fm → St → Prop} {f : Fm} {st : St} {j t id off n sz : Nat} {fm : Option Nat} {cs : List AV}
    (hc : wholeAt ops j f = some (t, .ptr id off)) (hb : arrW T t n sz = true) (hx : st.h.get id = some (.cells fm false cs)) (hl : off + n * sz ≤ cs.length)
    (h : OpsW P rd ops l K (putAt ops j f (.sl id off n sz true)) st) : OpsW P rd ops (j :: l) K f st := by
  unfold wholeAt at hc
  split at hc
  · cases hc
  · rename_i o ho
    split at hc
    · rename_i hw
      split at hc
      · rename_i t' x hop
        simp only [Option.some.injEq, Prod.mk.injEq] at hc
        obtain ⟨rfl, h2⟩ := hc
        unfold arrW at hb
        split at hb
        · rename_i i hi1
          split at hb
          · rename_i m e hd
            split at hb
            · rename_i jj hj
              simp only [Bool.and_eq_true] at hb
              obtain rfl := Nat.eq_of_beq_eq_true hb.1
              obtain rfl := Nat.eq_of_beq_eq_true hb.2
              have hput : ∀ v, putAt ops j f v = f.put o.dst v := fun v => by simp [putAt, ho]
              rw [hput] at h
              refine OpsW.light hT ho hw (r := .sl id off m jj.size true) ?_ h
              simp only [evG, hop, h2, Option.map_none]
              unfold sliceA
              simp only [hi1, hd, hj, hx, natOr]
              rw [if_pos ⟨Nat.zero_le _, Nat.le_refl _, by simp, hl⟩]
              simp
            · cases hb
          · cases hb
        · cases hb
      · cases hc
    · cases hc
end Go.Fz
namespace Go.Fz
variable {P : Program} {T : Ti}
end Go.Fz
namespace Go.Fz
open Go.Proofs
set_option maxRecDepth 100000
section
variable {P : Program}
end
section
variable {β : Type} [DecidableEq β]
end
end Go.Fz
namespace Go.Fz
open Go.Proofs
set_option maxRecDepth 100000
end Go.Fz
namespace Go.Fz
open Go.Proofs
set_option maxRecDepth 100000
section
variable {P : Program} {T : Ti} {β : Type}
end
end Go.Fz
namespace Go.Fz
open Go.Proofs
set_option maxRecDepth 100000
section
variable {P : Program} {T : Ti} {β : Type} [DecidableEq β]
end
end Go.Fz
namespace Go.Fz
open Go.Proofs
set_option maxRecDepth 100000
end Go.Fz
namespace Go.Fz
open Go.Proofs
set_option maxRecDepth 100000
end Go.Fz
namespace Go.Fz
open Go.Proofs
set_option maxRecDepth 100000
end Go.Fz
namespace Go.Fz
open Go.Proofs
set_option maxRecDepth 100000
section
variable (nw nl : Nat) (A B C D : Nat → Nat → Int) (a b c e : Nat → Int)
end
end Go.Fz
set_option linter.unusedVariables false
set_option linter.unusedSimpArgs false
namespace Go.Fz
open Go.Proofs
set_option maxRecDepth 100000
section
variable {P : Program} {T : Ti}
end
end Go.Fz
namespace Go.Fz
open Go.Proofs
set_option maxRecDepth 100000
section
variable (K : List (List Nat) → Hp → Nat → Prop) (stop : List (List Nat) → List Nat → Hp → Nat → Prop) (ok : List Nat → Prop) (mc y many : Nat) (ex : Bool)
variable {K stop ok mc y many ex}
end
end Go.Fz
namespace Go.Fz
open Go.Proofs
set_option maxRecDepth 100000
section
variable {K : List (List Nat) → Hp → Nat → Prop} {stop : List (List Nat) → List Nat → Hp → Nat → Prop} {ok : List Nat → Prop} {mc y many : Nat}
end
end Go.Fz
namespace Go.Fz
open Go.Proofs
set_option maxRecDepth 100000
section
variable {K : List (List Nat) → Hp → Nat → Prop} {stop : List (List Nat) → List Nat → Hp → Nat → Prop} {ok : List Nat → Prop} {mc y many : Nat}
end
end Go.Fz
namespace Go.Fz
open Go.Proofs
set_option maxRecDepth 100000
section
variable (d : DayD) (XO : AV) (hX : Below 0 XO) (E : List (Mk × Nat)) (cl : Nat) (hb : Born E cl)
end
end Go.Fz
namespace Go.Fz
open Go.Proofs
set_option maxRecDepth 100000
section
variable (d : DayD) (XO : AV) (E : List (Mk × Nat)) (cl : Nat)
end
end Go.Fz
namespace Go.Fz
open Go.Proofs
set_option maxRecDepth 100000
section
variable (d : DayD) (L : Nat) (G : Nat → Nat → AV) (ME : List (AV × AV × Nat)) (cl : Nat)
end
end Go.Fz
namespace Go.Fz
open Go.Proofs
set_option maxRecDepth 100000
section
variable (d : DayD) (L : Nat) (G : Nat → Nat → AV) (ME : List (AV × AV × Nat)) (cl : Nat) (Q : List Nat → Bool)
variable {d L G ME cl}
end
end Go.Fz
namespace Go.Fz
open Go.Proofs
set_option maxRecDepth 100000
end Go.Fz
namespace Go.Fz
open Go.Proofs
set_option maxRecDepth 100000
set_option linter.unusedVariables false
end Go.Fz
namespace Go.Fz
open Go.Proofs
set_option maxRecDepth 100000
set_option linter.unusedVariables false
end Go.Fz
namespace Go.Fz
open Go.Proofs
set_option maxRecDepth 100000
end Go.Fz
namespace Go.Fz
open Go.Proofs
set_option maxRecDepth 100000
section
variable (nw nl : Nat) (f0 f1 f2 f3 : Nat → Int) (z4 z5 z6 z7 : Int)
end
end Go.Fz
namespace Go.Fz
open Go.Proofs
set_option maxRecDepth 100000
section
theorem WeakR.tabG {n0 : Nat} {tb : List (Nat × Nat)} {f1 : Fm} {st1 : St} {l : List (Nat × AV)} {len : Nat} {dm : List Nat} {h2 : Hp} {n2 : Nat} (F : Nat → Option Nat) (hF : ∀ i j f, F i = some f → F j = some f → i = j) (e1 : len = f1.ts.len) (e2 : dm = f1.dm) (e3 : ∀ id ∈ dm, id < n0) (hid : (tb.all fun p => Nat.ble n0 p.1) = true) (lo : n0 ≤ n2)
    (hinj : (h2.all fun p => h2.all fun q => !(Nat.beq (tabR tb p.1) (tabR tb q.1)) || Nat.beq p.1 q.1) = true)
    (get : AllP (fun p => RenV (tabR tb) n2 p.2 (f1.ts.get p.1)) l) (obj : AllP (fun p => p.1 < n2 ∧ ∃ o1, st1.h.get (tabR tb p.1) = some o1 ∧ RenO (tabR tb) n2 p.2 o1 ∧ o1.fam = F p.1) h2) : WeakR n0 (tabR tb) f1 st1 ⟨⟨len, getT l⟩, dm⟩ ⟨h2, n2⟩ := by
  have ho := obj.ok
  have hj := inj_of hinj
  refine ⟨e1, e2, e3, tabR_id hid, fun i => ?_, lo, fun id o h => ?_, fun i j oi oj hi hj' hij pi pj h1 h2 => ⟨fun h => hij ?_, fun ⟨f, k1, k2⟩ => ?_⟩⟩
  · show RenV _ n2 (getT l i) _
    have hg := get.ok
    clear get obj ho hj hinj
    induction l with
    | nil => exact RenV.any
    | cons p r ih =>
      obtain ⟨j, a⟩ := p
      simp only [getT]
      cases hb : Nat.beq j i with
      | true =>
        obtain rfl := Nat.eq_of_beq_eq_true hb
        exact hg _ List.mem_cons_self
      | false => exact ih fun q hq => hg q (List.mem_cons_of_mem _ hq)
  · obtain ⟨h3, o1, h4, h5, _⟩ := ho _ (Hp.mem_of_get h)
    exact ⟨h3, o1, h4, h5⟩
  · exact hj _ (Hp.mem_of_get hi) _ (Hp.mem_of_get hj') h
  · obtain ⟨_, o1, h3, _, h4⟩ := ho _ (Hp.mem_of_get hi)
    obtain ⟨_, o2, h5, _, h6⟩ := ho _ (Hp.mem_of_get hj')
    rw [show tabR tb (i, oi).1 = tabR tb i from rfl, h1] at h3
    rw [show tabR tb (j, oj).1 = tabR tb j from rfl, h2] at h5
    cases h3; cases h5
    exact hij (hF i j f (h4.symm.trans k1) (h6.symm.trans k2))
end
end Go.Fz
namespace Go.Fz
open Go.Proofs
set_option maxRecDepth 100000
end Go.Fz
namespace Go.Fz
open Go.Proofs
set_option maxRecDepth 100000
end Go.Fz
namespace Go.Fz
open Go.Proofs
set_option maxRecDepth 100000
end Go.Fz
namespace Go.Fz
open Go.Proofs
set_option maxRecDepth 100000
end Go.Fz
namespace Go.Fz
open Go.Proofs
set_option maxRecDepth 100000
end Go.Fz
namespace Go.Fz
open Go.Proofs
set_option maxRecDepth 100000
end Go.Fz
namespace Go.Fz
open Go.Proofs
set_option maxRecDepth 100000
end Go.Fz
namespace Go.Fz
open Go.Proofs
set_option maxRecDepth 100000
end Go.Fz
namespace Go.Fz
open Go.Proofs
set_option maxRecDepth 100000
end Go.Fz
namespace Go.Fz
variable {P : Program}
end Go.Fz
namespace Go.Fz
open Go.Proofs
set_option maxRecDepth 100000
section
variable {P : Program} {T : Ti}
end
end Go.Fz
namespace Go.Fz
open Go.Proofs
set_option maxRecDepth 100000
end Go.Fz
namespace Go.Fz
open Go.Proofs
set_option maxRecDepth 100000
set_option linter.unusedVariables false
end Go.Fz
namespace Go.Fz
open Go.Proofs
set_option maxRecDepth 100000
set_option linter.unusedVariables false
end Go.Fz
namespace Go.Fz
open Go.Proofs
set_option maxRecDepth 100000
set_option linter.unusedVariables false
end Go.Fz
namespace Go.Fz
open Go.Proofs
set_option maxRecDepth 100000
set_option linter.unusedVariables false
end Go.Fz
namespace Go.Fz
open Go.Proofs
set_option maxRecDepth 100000
end Go.Fz
namespace Go.Fz
open Go.Proofs
set_option maxRecDepth 100000
set_option pp.deepTerms false
set_option pp.deepTerms.threshold 5
end Go.Fz
namespace Go.Fz
open Go.Proofs
set_option maxRecDepth 100000
end Go.Fz
namespace Go.Fz
open Go.Proofs
set_option maxRecDepth 100000
end Go.Fz
namespace Go.Fz
open Go.Proofs
set_option maxRecDepth 100000
section
variable (d : DayD) (k w lo hi : Int)
end
end Go.Fz
namespace Go.Fz
open Go.Proofs
set_option maxRecDepth 100000
section
variable {T : Ti}
end
end Go.Fz
namespace Go.Fz
open Go.Proofs
set_option maxRecDepth 100000
section
variable {P : Program} {T : Ti}
end
end Go.Fz
namespace Go.Fz
open Go.Proofs
set_option maxRecDepth 100000
end Go.Fz
namespace Go.Fz
open Go.Proofs
set_option maxRecDepth 100000
set_option linter.unusedVariables false
end Go.Fz
namespace Go.Fz
open Go.Proofs
set_option maxRecDepth 100000
set_option linter.unusedVariables false
end Go.Fz
namespace Go.Fz
open Go.Proofs
set_option maxRecDepth 100000
set_option linter.unusedVariables false
end Go.Fz
namespace Go.Fz
open Go.Proofs
set_option maxRecDepth 100000
end Go.Fz
namespace Go.Fz
open Go.Proofs
set_option maxRecDepth 100000
set_option linter.unusedVariables false
section
variable {P : Program}
end
end Go.Fz
namespace Go.Fz
open Go.Proofs
set_option maxRecDepth 100000
set_option linter.unusedVariables false
end Go.Fz
namespace Go.Fz
open Go.Proofs
set_option maxRecDepth 100000
set_option linter.unusedVariables false
end Go.Fz
namespace Go.Fz
open Go.Proofs
set_option maxRecDepth 100000
set_option linter.unusedVariables false
end Go.Fz
set_option linter.unusedVariables false
namespace Go.Fz
open Go.Proofs
section
variable {P : Program} {T : Ti}
def cpyAt (ops : Array Oper) (j : Nat) (f : Fm) : Option (TypeId × AV × AV) := match ops[j]? with
  | none => none
  | some o => match wantA ops f.ts o with
    | some true => match o.op with
      | .call c => match c.callee, c.args.toList, c.argTypes.toList with
        | .builtin .copy, [d, s], [dt, _] => some (dt, Operand.av f.ts d, Operand.av f.ts s)
        | _, _, _ => none
      | _ => none
    | _ => none
end
end Go.Fz
set_option linter.unusedVariables false
namespace Go.Fz
open Go.Proofs
set_option maxRecDepth 100000
end Go.Fz
set_option linter.unusedVariables false
namespace Go.Fz
open Go.Proofs
set_option maxRecDepth 100000
theorem not_bad {y : YardD} {f : Nat → Int} : y.badB f = false ↔ ∀ p, p < y.nc → y.rgt f p = true := by
  unfold YardD.badB
  rw [decide_eq_false_iff_not, Nat.not_lt, Nat.le_zero, List.length_eq_zero_iff]
  unfold YardD.wrN
  rw [List.filter_eq_nil_iff]
  constructor
  · intro h p hp
    have := h p (List.mem_range.2 hp)
    simpa using this
  · intro h p hp
    have := h p (List.mem_range.1 hp)
    simp [this]
theorem mem_wrN {y : YardD} {f : Nat → Int} {n p : Nat} : p ∈ y.wrN f n ↔ p < n ∧ y.rgt f p = false := by
  unfold YardD.wrN
  rw [List.mem_filter, List.mem_range]
  simp
end Go.Fz
set_option linter.unusedVariables false
namespace Go.Fz
open Go.Proofs
set_option maxRecDepth 100000
theorem memGetD {l : List Nat} {p : Nat} : p ∈ l ↔ ∃ j, j < l.length ∧ l.getD j 0 = p := by
  constructor
  · intro h
    obtain ⟨j, hj, rfl⟩ := List.getElem_of_mem h
    exact ⟨j, hj, by rw [List.getD_eq_getElem?_getD, List.getElem?_eq_getElem hj]; rfl⟩
  · rintro ⟨j, hj, rfl⟩
    rw [List.getD_eq_getElem?_getD, List.getElem?_eq_getElem hj]
    exact List.getElem_mem hj
theorem hasN_iff {l : List Nat} {p : Nat} : hasN l.length (fun j => ((l.getD j 0 : Nat) : Int)) (p : Int) = true ↔ p ∈ l := by
  unfold hasN
  rw [decide_eq_true_eq, memGetD]
  constructor
  · rintro ⟨j, hj, h⟩
    exact ⟨j, hj, Int.ofNat_inj.1 h⟩
  · rintro ⟨j, hj, h⟩
    exact ⟨j, hj, congrArg Int.ofNat h⟩
theorem wrB_iff {y : YardD} {f : Nat → Int} {l : List Nat} : y.wrB f l = true ↔ ∀ p, p < y.nc → y.rgt f p = false → p ∈ l := by
  unfold YardD.wrB subB allN
  rw [decide_eq_true_eq]
  constructor
  · intro h p hp hr
    obtain ⟨j, hj, e⟩ := memGetD.1 (mem_wrN.2 ⟨hp, hr⟩)
    have := h j hj
    simp only [e] at this
    exact hasN_iff.1 this
  · intro h j hj
    have hm : (y.wrN f y.nc).getD j 0 ∈ y.wrN f y.nc := memGetD.2 ⟨j, hj, rfl⟩
    have := mem_wrN.1 hm
    exact hasN_iff.2 (h _ this.1 this.2)
def coL (nc : Nat) (l : List Nat) : List Nat := (List.range nc).filter fun p => !l.contains p
theorem mem_coL {nc : Nat} {l : List Nat} {p : Nat} : p ∈ coL nc l ↔ p < nc ∧ p ∉ l := by
  unfold coL
  rw [List.mem_filter, List.mem_range]
  simp
theorem co_wr {y : YardD} {f : Nat → Int} {l : List Nat} : (∀ p ∈ coL y.nc l, y.rgt f p = true) ↔ y.wrB f l = true := by
  rw [wrB_iff]
  constructor
  · intro h p hp hr
    apply Classical.byContradiction
    intro hn
    rw [h p (mem_coL.2 ⟨hp, hn⟩)] at hr
    cases hr
  · intro h p hp
    obtain ⟨h1, h2⟩ := mem_coL.1 hp
    cases hr : y.rgt f p with
    | true => rfl
    | false => exact absurd (h p h1 hr) h2
theorem lvB_iff {y : YardD} {S : List (Nat → Int)} {l : List Nat} : y.lvB S l = true ↔ ∃ f ∈ S, ∀ p ∈ coL y.nc l, y.rgt f p = true := by
  unfold YardD.lvB
  rw [List.any_eq_true]
  constructor
  · rintro ⟨f, hf, h⟩; exact ⟨f, hf, co_wr.2 h⟩
  · rintro ⟨f, hf, h⟩; exact ⟨f, hf, co_wr.1 h⟩
theorem rng_ris5 : ∀ nc : Fin 6, List.range nc.1 ∈ risL nc.1 := by decide +kernel
end Go.Fz
set_option linter.unusedVariables false
namespace Go.Fz
open Go.Proofs
set_option maxRecDepth 100000
theorem mem_allS {y : YardD} {f : Nat → Int} : f ∈ y.allS ↔ (∀ b, b ∉ List.range y.nb → f b = 0) ∧ y.Sch (List.range y.nb) f := by
  have h := foldS_all (y := y) (next := appS) (S := fun s => f ∈ s) (G := fun g => f = g) (fun s g => by unfold appS; rw [List.mem_append, List.mem_singleton]) (L := List.range y.nb) List.pairwise_lt_range []
  refine Iff.trans h ?_
  constructor
  · rintro (h | ⟨g, h1, h2, rfl⟩)
    · cases h
    · exact ⟨h1, h2⟩
  · rintro ⟨h1, h2⟩
    exact .inr ⟨f, h1, h2, rfl⟩
theorem mem_kept {y : YardD} {f : Nat → Int} : f ∈ y.kept ↔ f ∈ y.allS ∧ ∀ p, p < y.nc → y.rgt f p = true := by
  unfold YardD.kept kpS
  rw [List.mem_filter]
  constructor
  · rintro ⟨h1, h2⟩
    exact ⟨h1, not_bad.1 (by simpa using h2)⟩
  · rintro ⟨h1, h2⟩
    exact ⟨h1, by rw [not_bad.2 h2]; rfl⟩
theorem anyW_iff {S : List (Nat → Int)} {b w : Int} : anyW S b w = true ↔ ∃ f ∈ S, f b.toNat = w := by
  unfold anyW
  rw [decide_eq_true_eq]
  have hg : ∀ j, (hj : j < S.length) → S.getD j f0 = S[j] := fun j hj => by rw [List.getD_eq_getElem?_getD, List.getElem?_eq_getElem hj]; rfl
  constructor
  · rintro ⟨i, hi, h⟩
    rw [hg i hi] at h
    exact ⟨_, List.getElem_mem hi, of_decide_eq_true h⟩
  · rintro ⟨f, hf, h⟩
    obtain ⟨i, hi, rfl⟩ := List.getElem_of_mem hf
    exact ⟨i, hi, by rw [hg i hi]; exact decide_eq_true h⟩
end Go.Fz
set_option linter.unusedVariables false
namespace Go.Fz
open Go.Proofs
set_option maxRecDepth 100000
end Go.Fz
set_option linter.unusedVariables false
namespace Go.Fz
open Go.Proofs
set_option maxRecDepth 100000
def trueQ3 (fn : Func) : Exit → Fm → St → Prop := retQ T fn (fun v st' => Eqv (frz st'.h (fun _ => true) 3 v) (.lit (.bool true)))
end Go.Fz
set_option linter.unusedVariables false
namespace Go.Fz
open Go.Proofs
set_option maxRecDepth 100000
end Go.Fz
set_option linter.unusedVariables false
namespace Go.Fz
open Go.Proofs
set_option maxRecDepth 100000
theorem any_sees {y : YardD} (hc : y.check = 0) : (y.allS = [] → y.anyE true = 10) ∧ (y.allS ≠ [] → y.anyE true = 0) := by
  refine ⟨fun hs => ?_, fun hs => ?_⟩
  · unfold YardD.anyE
    rw [if_neg (by simp [hc]), if_neg (by simp), if_pos hs]
  · unfold YardD.anyE
    rw [if_neg (by simp [hc]), if_neg (by simp), if_neg hs]
theorem own_sees {y : YardD} (hc : y.check = 0) (hk : y.kept ≠ []) : y.ownE true = 0 := by
  have hs : y.allS ≠ [] := fun h => hk (by unfold YardD.kept kpS; rw [h]; rfl)
  unfold YardD.ownE
  rw [if_neg (by simp [(any_sees hc).2 hs]), if_neg hk]
theorem lve_sees {y : YardD} (hc : y.check = 0) (hs : y.allS ≠ []) : ∃ pre l post, y.lveV = lsV l ∧ risL y.nc = pre ++ l :: post ∧ (∀ l' ∈ pre, y.lvB y.allS l' = false) ∧ y.lvB y.allS l = true := by
  have h5 := (y.fit_of_check hc).2.2.2.2.2.1
  have ha := (any_sees hc).2 hs
  cases hf : (risL y.nc).find? (fun l => y.lvB y.allS l) with
  | none =>
    exfalso
    have h1 := List.find?_eq_none.1 hf _ (rng_ris5 ⟨y.nc, by omega⟩)
    apply h1
    simp only
    obtain ⟨f, hf⟩ := List.exists_mem_of_ne_nil _ hs
    refine lvB_iff.2 ⟨f, hf, fun p hp => ?_⟩
    obtain ⟨h2, h3⟩ := mem_coL.1 hp
    exact absurd (List.mem_range.2 h2) h3
  | some l =>
    obtain ⟨h1, pre, post, h2, h3⟩ := List.find?_eq_some_iff_append.1 hf
    refine ⟨pre, l, post, ?_, h2, fun l' hl' => by simpa using h3 l' hl', h1⟩
    unfold YardD.lveV
    rw [if_pos ha, hf]
theorem rem_fin : ∀ (b : Fin 256) (n : Fin 7), 0 < n.1 → 0 ≤ std.bin .rem .i64 (std.conv .i64 (b.1 : Int)) (n.1 : Int) ∧ std.bin .rem .i64 (std.conv .i64 (b.1 : Int)) (n.1 : Int) < (n.1 : Int) := by decide +kernel
theorem rem_rng {b : Int} (b0 : 0 ≤ b) (b1 : b ≤ 255) {n : Nat} (h0 : 0 < n) (h6 : n ≤ 6) : 0 ≤ std.bin .rem .i64 (std.conv .i64 b) (n : Int) ∧ std.bin .rem .i64 (std.conv .i64 b) (n : Int) < (n : Int) := by
  have h := rem_fin ⟨b.toNat, by omega⟩ ⟨n, by omega⟩ h0
  have e : ((b.toNat : Nat) : Int) = b := by omega
  simp only [e] at h
  exact h
theorem befF_self (f : Nat → Int) (n : Nat) : ∀ k i, befF f f n n i k = false
  | 0, i => by
    show decide ((n : Int) < n) = false
    exact decide_eq_false (by omega)
  | k + 1, i => by
    show (if i < n ∧ i < n then (if f i = f i then befF f f n n (i + 1) k else decide (f i < f i)) else decide ((n : Int) < n)) = false
    split
    · rw [if_pos rfl]
      exact befF_self f n k (i + 1)
    · exact decide_eq_false (by omega)
theorem same_self (f : Nat → Int) (n : Nat) : sameB n n f f = true := by
  unfold sameB
  rw [befF_self, decide_eq_true rfl]
  rfl
theorem wk_small {y : YardD} (hf : y.Fit) {K : Int} (k0 : 0 ≤ K) (k1 : K < y.nb) : (y.wkL K).length < 1000 := by
  have h1 := wkN_len (y.ownL (y.hasB K)) K (y.blo K.toNat) (y.bhi K.toNat - y.blo K.toNat + 1).toNat
  have h2 := hf.beg K.toNat (by omega)
  have h3 : (y.wkL K).length ≤ (y.bhi K.toNat - y.blo K.toNat + 1).toNat := h1
  omega
theorem weeks_sees {y : YardD} (hc : y.check = 0) (hk : y.kept ≠ []) {K : Int} (k0 : 0 ≤ K) (k1 : K < y.nb) : Pure Try.prog 27 [yardV y, iV K] (.tup [zV (y.wkL K), iV 0]) ∧ y.wkL K = wkN y.kept K (y.blo K.toNat) (y.bhi K.toNat - y.blo K.toNat + 1).toNat := by
  have hn := (y.fit_of_check hc).1.nb
  have h5 := (y.fit_of_check hc).2.2.2.2.2.1
  have hb : y.hasB K = true := by
    unfold YardD.hasB
    rw [decide_eq_true k0, decide_eq_true k1]; rfl
  have ho := own_sees hc hk
  have e := weeks_ok y (by omega) (by omega) K
  have e2 : y.wkV K = zV (y.wkL K) := by
    unfold YardD.wkV
    rw [hb, if_pos ho]
  rw [e2, hb, ho] at e
  refine ⟨e, ?_⟩
  unfold YardD.wkL
  rw [hb, (YardD.own_some ho).1]
end Go.Fz
set_option linter.unusedVariables false
namespace Go.Fz
open Go.Proofs
set_option maxRecDepth 100000
def eq6 (f g : Nat → Int) : Bool := decide (f 0 = g 0) && (decide (f 1 = g 1) && (decide (f 2 = g 2) && (decide (f 3 = g 3) && (decide (f 4 = g 4) && decide (f 5 = g 5)))))
set_option maxHeartbeats 8000000 in
theorem index91_ok (S : List (Nat → Int)) (f : Nat → Int) (hn : S.length < 2000000) : Pure Try.prog 91 [lsV6 S, .agg (arrC f)] (iV (fstT (fun i => eq6 f (S.getD i f0)) S.length)) := by
  obtain ⟨O, hO⟩ : ∃ O : Ar, O = std := ⟨_, rfl⟩
  have hnat : ∀ i : Nat, O.nat (Int.ofNat i) = i := fun i => by subst hO; rfl
  unfold lsV6
  obtain ⟨gg, hg⟩ : ∃ g : Nat → Nat → Int, g = fun i k => (S.getD i f0) k := ⟨_, rfl⟩
  rw [show gS S = fun i k => iV (gg i k) by rw [hg]; rfl]
  obtain ⟨p, hp⟩ : ∃ p : Nat → Bool, p = fun i => eq6 f (S.getD i f0) := ⟨_, rfl⟩
  have hpg : ∀ i, p i = eq6 f (gg i) := fun i => by rw [hp, hg]
  rw [← hp]
  obtain ⟨L, hL⟩ : ∃ L, S.length = L := ⟨_, rfl⟩
  rw [hL] at hn ⊢
  refine pure_of_body tok 3 Try.func91 en91 rfl ⟨Below.isl fun i k _ _ => Below.lit, Below.agg (arrC_below f), trivial⟩ Below.lit ?_
  refine SW.seqRun tok hO (by cbv <;> rfl) (by trivial) ?_
  refine SW.seq ?_
  refine SW.seqRun tok hO (by cbv <;> rfl) (by trivial) ?_
  refine (SW.block (SW.loop (fun k f' st' => ∃ (g : Nat → AV) (c : Nat), f' = ⟨⟨19, g⟩, []⟩ ∧ AllP (fun p => g p.1 = p.2) [(0, .isl L 6 false fun i k => iV (gg i k)), (3, .ptr 0 0), (7, iV L), (8, iV c)] ∧ st' = ⟨[(0, .cells none false (arrC f))], 1⟩ ∧ (∀ j, j < c → p j = false) ∧ c ≤ L ∧ k = L - c) (L - 0) ?_ ?_))
  · exact ⟨_, 0, rfl, ⟨rfl, rfl, rfl, rfl, trivial⟩, rfl, (fun j hj => absurd hj (Nat.not_lt_zero j)), Nat.zero_le _, rfl⟩
  · rintro k f' st' ⟨g, c, rfl, ⟨g0', g1, g7, g8, _⟩, rfl, hall, hle, rfl⟩
    simp only at g0' g1 g7 g8
    rw [← updT_self g0', ← updT_self g1, ← updT_self g7, ← updT_self g8]
    refine SW.seqRun tok hO (by cbv <;> rfl) (by trivial) ?_
    refine SW.seq (SW.condS (by cbv <;> rfl) (fun h3 => SW.skip ?_) (fun h3 => SW.exit ?_))
    · have hlt : c < L := by subst hO; simpa [std] using h3
      have hnc : O.nat (Int.ofNat c) = c := hnat c
      have k0 : (0 : Int) ≤ Int.ofNat c := Int.natCast_nonneg c
      have kN : Int.ofNat c < Int.ofNat L := Int.ofNat_lt.2 hlt
      refine SW.seq (SW.block ?_)
      refine SW.seqRun tok hO (by cbv <;> rfl) (by trivial) ?_
      refine SW.seqRunD tok mixed hO (by kernel_rfl) (by cbv <;> rfl) ?_ ?_
      · exact ⟨k0, kN⟩
      refine AnyE.dec tok hO (by kernel_rfl) (by cbv <;> rfl) (by trivial) (fun h4 => ?_) (fun h4 => ?_)
      · have hpc : p c = true := by
          rw [hnc] at h4
          rw [hpg c, ← h4, hO]
          rfl
        refine AnyE.run tok hO (by kernel_rfl) (by cbv <;> rfl) (by trivial) ?_
        refine SW.cond (t := true) (by cbv <;> rfl) ?_
        refine SW.seqRun tok hO (by cbv <;> rfl) (by trivial) ?_
        exact SW.ret ⟨_, _, rfl, rfl, by rw [fstT_hit hlt hpc hall]; exact Eqv.of rfl⟩
      · have hpc : p c = false := by
          rw [hnc] at h4
          rw [hpg c, ← h4, hO]
          rfl
        refine AnyE.run tok hO (by kernel_rfl) (by cbv <;> rfl) (by trivial) ?_
        refine SW.cond (t := false) (by cbv <;> rfl) (SW.skip ?_)
        refine SW.run tok hO (by cbv <;> rfl) (by trivial) ?_
        refine ⟨L - (c + 1), by omega, _, c + 1, rfl, ⟨rfl, rfl, rfl, inc_ok hO (by omega), trivial⟩, rfl, fun j hj => ?_, by omega, rfl⟩
        rcases Nat.lt_succ_iff_lt_or_eq.1 hj with hj | rfl
        · exact hall j hj
        · exact hpc
    · have hge : L ≤ c := by subst hO; simpa [std] using h3
      refine SW.seqRun tok hO (by cbv <;> rfl) (by trivial) ?_
      exact SW.ret ⟨_, _, rfl, rfl, by rw [fstT_none fun j hj => hall j (by omega)]; exact Eqv.of rfl⟩
def hasS (S : List (Nat → Int)) (f : Nat → Int) : Bool := decide (∃ i, i < S.length ∧ eq6 f (S.getD i f0) = true)
theorem contains63_ok (S : List (Nat → Int)) (f : Nat → Int) (hn : S.length < 2000000) : Pure Try.prog 63 [lsV6 S, .agg (arrC f)] (.sb (hasS S f)) := by
  obtain ⟨O, hO⟩ : ∃ O : Ar, O = std := ⟨_, rfl⟩
  have e1 := index91_ok S f hn
  have hq : decide (0 ≤ fstT (fun i => eq6 f (S.getD i f0)) S.length) = hasS S f := fstT_any _ _
  rw [← hq]
  obtain ⟨r, hr⟩ : ∃ r, fstT (fun i => eq6 f (S.getD i f0)) S.length = r := ⟨_, rfl⟩
  rw [hr] at e1 ⊢
  unfold lsV6 at e1 ⊢
  refine pure_of_body tok 3 Try.func63 en63 rfl ⟨Below.isl fun i k _ _ => gS_below S i k, Below.agg (arrC_below f), trivial⟩ Below.sb ?_
  refine SW.seqRun tok hO (by cbv <;> rfl) (by trivial) ?_
  refine SW.seqRun tok hO (by cbv <;> rfl) (by trivial) ?_
  refine OpsW.callP e1 (by cbv <;> rfl) ?_
  refine OpsW.run tok hO (by cbv <;> rfl) (by trivial) ?_
  refine SW.ret ⟨_, _, rfl, rfl, Eqv.sb ?_⟩
  subst hO; rfl
end Go.Fz
set_option linter.unusedVariables false
namespace Go.Fz
open Go.Proofs
set_option maxRecDepth 100000
section
variable {P : Program} {T : Ti}
theorem cut_isl {φ : Fi} {n m sz : Nat} {ex : Bool} {g : Nat → Nat → AV} {v : Value} (h : VR φ (.isl n sz ex g) v) (hm : m ≤ n) : ∃ (a : Option Addr) (cap : Nat) (v' : Value), v = .slice a n cap ∧ v' = .slice a m cap ∧ VR φ (.isl m sz false g) v' := by
  rcases h.isl_inv with ⟨rfl, rfl⟩ | ⟨b, o, cap, c, us, rfl, hz, hcc, hus, hcap, _⟩
  · obtain rfl : m = 0 := by omega
    exact ⟨none, 0, _, rfl, rfl, .isl0 _ _ _⟩
  · exact ⟨_, cap, _, rfl, rfl, .isl m sz false g b o cap c us hz (fun i k hi hk => hcc i k (by omega) hk) (fun i k hi hk => hus i k (by omega) hk) (by omega) (fun h => by cases h)⟩
theorem OpsW.copyG (hT : TOk P T) {rd : Option Nat} {ops : Array Oper} {K : Fm → St → Prop} {f : Fm} {st : St} {j : Nat} {l : List Nat} {t id off len sz n : Nat} {ex ex' : Bool} {g : Nat → Nat → AV} {G : List AV}
    (ha : cpyAt ops j f = some (t, .sl id off len sz ex, .isl n sz ex' g)) (hb : sliceB T t sz = true) (hx : st.h.get id = some (.cells none false G)) (hl : off + len * sz ≤ G.length) (hone : (flatG sz g (Nat.min n len)).all AV.one = true)
    (h : OpsW P rd ops l K (putAt ops j f (.lit (goInt (Nat.min n len)))) ⟨st.h.set id (.cells none false (setsL G off (flatG sz g (Nat.min n len)))), st.n⟩) : OpsW P rd ops (j :: l) K f st := by
  obtain ⟨ti, tj, e, h1, h2, h3, h4, h5, h6, h7, h8⟩ := sliceB_ok hb
  unfold cpyAt at ha
  split at ha
  · cases ha
  · rename_i o ho
    split at ha
    · rename_i hw
      split at ha
      · rename_i c hop
        split at ha
        · rename_i d s t' t'' hc hargs htys
          simp only [Option.some.injEq, Prod.mk.injEq] at ha
          obtain ⟨rfl, hd, hs⟩ := ha
          have ha' : c.args = #[d, s] := by cases hq : c.args; simp_all
          have ht' : c.argTypes = #[t', t''] := by cases hq : c.argTypes; simp_all
          have hput : ∀ v, putAt ops j f v = f.put o.dst v := fun v => by simp [putAt, ho]
          rw [hput] at h
          have hmin : Nat.min n len ≤ n := Nat.min_le_left _ _
          have hmin2 : Nat.min n len ≤ len := Nat.min_le_right _ _
          refine OpsW.value ho hw (fun c hc => by rw [hop] at hc; cases hc) (fun φ w a k2 k3 => ?_) h
          have hdd := opR_of k3.ts d
          have hss := opR_of k3.ts s
          rw [hd] at hdd
          rw [hs] at hss
          obtain ⟨cap', hv', _, _, _, _⟩ := hdd.sl_inv
          obtain ⟨ad, cap, v', e1, e2, e3⟩ := cut_isl hss hmin
          obtain ⟨a3, cap3, us, e4, _, e5, e6, e7⟩ := slCells_ok (P := P) (st := st) (w := w) k2 (sz := sz) (cs := flatG sz g (Nat.min n len)) e3 (by
            show (if sz = sz ∧ sz ≠ 0 then some (flatG sz g (Nat.min n len)) else none) = _
            rw [if_pos ⟨rfl, h5⟩])
          have hfc := e7 _ rfl w (Same.refl _ _ _)
          have hlen : (flatG sz g (Nat.min n len)).length ≤ len * sz := by
            rw [flatG_length]; exact Nat.mul_le_mul_right _ hmin2
          obtain ⟨w', q1, q2, q3⟩ := sets_ok (P := P) (off := off) k2 hx e5 hone (Nat.le_trans (Nat.add_le_add_left hlen off) hl)
          refine ⟨φ, w', goInt (Nat.min n len), .inl ?_, .lit _, q2, Ext.refl _, q3⟩
          have hsl : slLen (AV.isl (Nat.min n len) sz false g) = Nat.min n len := rfl
          rw [hsl] at hfc
          have hfc2 : (Builtin.firstCells sz (Nat.min n len) (.slice ad n cap)).run P w = .ok us.toArray w := by
            rw [← hfc, e2]
            cases ad <;> rfl
          have hcp : (Builtin.copy_ #[t', t''] o.type #[a.eval d, a.eval s]).run P w = .ok (goInt (Nat.min n len)) w' := by
            rw [hv', e1]
            simp only [Builtin.copy_, List.getElem?_toArray, List.getElem?_cons_zero, List.getElem?_cons_succ, Sem.run_bind, run_und hT h1, h2, Result.andThen, Sem.run_pure, Builtin.lenOf, run_size hT h3, h4, hfc2, q1]
          simp [execOp, hop, resolve, hc, ha', ht', invoke, builtin, hcp, Result.andThen]
        · cases ha
      · cases ha
    · cases ha
theorem OpsW.copyE (hT : TOk P T) {rd : Option Nat} {ops : Array Oper} {K : Fm → St → Prop} {f : Fm} {st : St} {j : Nat} {l : List Nat} {t id off len sz n : Nat} {ex ex' : Bool} {g : Nat → Nat → AV} {G : List AV}
    (ha : cpyAt ops j f = some (t, .sl id off len sz ex, .isl n sz ex' g)) (hb : sliceB T t sz = true) (hx : st.h.get id = some (.cells none false G)) (hl : off + len * sz ≤ G.length) (hone : (flatG sz g (Nat.min n len)).all AV.one = true)
    (h : ∀ G', G' = setsL G off (flatG sz g (Nat.min n len)) → OpsW P rd ops l K (putAt ops j f (.lit (goInt (Nat.min n len)))) ⟨st.h.set id (.cells none false G'), st.n⟩) : OpsW P rd ops (j :: l) K f st :=
  OpsW.copyG hT ha hb hx hl hone (h _ rfl)
end
end Go.Fz
set_option linter.unusedVariables false
namespace Go.Fz
open Go.Proofs
set_option maxRecDepth 100000
def keyF (n : Nat) (fl : Nat → Int) : Nat → Int := fun j => if j < Nat.min n 6 then fl j else 0
theorem key_sets (n : Nat) (fl : Nat → Int) : setsL [iV 0, iV 0, iV 0, iV 0, iV 0, iV 0] 0 (flatG 1 (intC fl) (Nat.min n 6)) = arrC (keyF n fl) := by
  unfold arrC keyF
  have h : Nat.min n 6 ≤ 6 := Nat.min_le_right _ _
  generalize Nat.min n 6 = m at h
  match m, h with
  | 0, _ => rfl
  | 1, _ => rfl
  | 2, _ => rfl
  | 3, _ => rfl
  | 4, _ => rfl
  | 5, _ => rfl
  | 6, _ => rfl
theorem flat_one (fl : Nat → Int) : ∀ m, (flatG 1 (intC fl) m).all AV.one = true
  | 0 => rfl
  | m + 1 => by
    show (flatG 1 (intC fl) m ++ [iV (fl m)]).all AV.one = true
    rw [List.all_append, flat_one fl m]
    rfl
def YardD.psB (y : YardD) (n : Nat) (fl : Nat → Int) : Bool := decide (y.ownE (decide (n = y.nb)) = 0) && hasS (y.ownL (decide (n = y.nb))) (keyF n fl)
set_option maxHeartbeats 8000000 in
theorem proveSch_ok (y : YardD) (hb : y.nb < 1000000) (hc : y.nc < 1000000) (n : Nat) (ex : Bool) (fl : Nat → Int) (hn : n < 1000) : Pure Try.prog 21 [yardV y, intsV n ex fl] (.sb (y.psB n fl)) := by
  obtain ⟨O, hO⟩ : ∃ O : Ar, O = std := ⟨_, rfl⟩
  have hB : O.cmp .eql (Int.ofNat n) (Int.ofNat y.nb) = decide (n = y.nb) := by
    rw [hO]
    show decide ((n : Int) = (y.nb : Int)) = decide (n = y.nb)
    exact decide_eq_decide.2 Int.ofNat_inj
  have hq : y.psB n fl = (decide (y.ownE (decide (n = y.nb)) = 0) && hasS (y.ownL (decide (n = y.nb))) (keyF n fl)) := rfl
  rw [← hB] at hq
  have hlen : ∀ B, y.ownE B = 0 → (y.ownL B).length < 2000000 := fun B h => by
    obtain ⟨k1, _, k3⟩ := YardD.own_some h
    rw [k1]
    have k4 := YardD.any_len k3
    have k5 : y.kept.length ≤ y.allS.length := List.length_filter_le _ _
    omega
  have e60 := own_ok y hb hc (O.cmp .eql (Int.ofNat n) (Int.ofNat y.nb))
  have e63 := fun h => contains63_ok (y.ownL (O.cmp .eql (Int.ofNat n) (Int.ofNat y.nb))) (keyF n fl) (hlen (O.cmp .eql (Int.ofNat n) (Int.ofNat y.nb)) h)
  have hkey := key_sets n fl
  generalize y.psB n fl = Q at hq ⊢
  clear hlen hB
  obtain ⟨KF, hKF⟩ : ∃ f, keyF n fl = f := ⟨_, rfl⟩
  rw [hKF] at hq e63 hkey
  obtain ⟨S, hS⟩ : ∃ S, y.ownL (O.cmp .eql (Int.ofNat n) (Int.ofNat y.nb)) = S := ⟨_, rfl⟩
  rw [hS] at hq e60 e63
  obtain ⟨E, hE⟩ : ∃ E, y.ownE (O.cmp .eql (Int.ofNat n) (Int.ofNat y.nb)) = E := ⟨_, rfl⟩
  rw [hE] at hq e60 e63
  obtain ⟨H, hH⟩ : ∃ H, hasS S KF = H := ⟨_, rfl⟩
  rw [hH] at hq e63
  unfold lsV6 at e60 e63
  refine pure_of_body tok 3 Try.func21 en21 rfl ⟨yardV_below y, intsV_below _ _ _, trivial⟩ Below.sb ?_
  refine SW.seqRun tok hO (by cbv <;> rfl) (by trivial) ?_
  refine SW.seqRun tok hO (by cbv <;> rfl) (by trivial) ?_
  refine OpsW.callP e60 (by cbv <;> rfl) ?_
  refine OpsW.run tok hO (by cbv <;> rfl) (by trivial) ?_
  refine SW.seqRun tok hO (by cbv <;> rfl) (by trivial) ?_
  refine SW.seqRun tok hO (by cbv <;> rfl) (by trivial) ?_
  refine OpsW.wholeArr (n := 6) (sz := 1) tok (by rfl) (by kernel_rfl) (by rfl) (by simp) ?_
  refine OpsW.run tok hO (by cbv <;> rfl) (by trivial) ?_
  refine OpsW.copyE tok (by rfl) (by kernel_rfl) (by rfl) (by simp) (flat_one fl _) fun G' hG' => ?_
  have hG := hG'.trans hkey
  subst hG
  refine OpsW.run tok hO (by cbv <;> rfl) (by trivial) ?_
  refine SW.seqRun tok hO (by cbv <;> rfl) (by trivial) ?_
  refine OpsW.splitG (by cbv <;> rfl) (fun h => ?_) (fun h => ?_)
  · have hz : E = 0 := by subst hO; simpa [std] using h
    have e63 := e63 hz
    refine OpsW.run tok hO (by cbv <;> rfl) (by trivial) ?_
    refine OpsW.callP e63 (by cbv <;> rfl) ?_
    refine OpsW.run tok hO (by cbv <;> rfl) (by trivial) ?_
    refine SW.ret ⟨_, _, rfl, rfl, Eqv.sb ?_⟩
    rw [hq, decide_eq_true hz]
    rfl
  · have hz : ¬ E = 0 := by subst hO; simpa [std] using h
    refine OpsW.run tok hO (by cbv <;> rfl) (by trivial) ?_
    refine SW.ret ⟨_, _, rfl, rfl, Eqv.bool ?_⟩
    rw [hq, decide_eq_false hz]
    rfl
end Go.Fz
set_option linter.unusedVariables false
namespace Go.Fz
open Go.Proofs
set_option maxRecDepth 100000
end Go.Fz
set_option linter.unusedVariables false
namespace Go.Fz
open Go.Proofs
set_option maxRecDepth 100000
end Go.Fz
set_option linter.unusedVariables false
namespace Go.Fz
open Go.Proofs
set_option maxRecDepth 100000
end Go.Fz
set_option linter.unusedVariables false
namespace Go.Fz
open Go.Proofs
set_option maxRecDepth 100000
end Go.Fz
set_option linter.unusedVariables false
namespace Go.Fz
open Go.Proofs
set_option maxRecDepth 100000
end Go.Fz
set_option linter.unusedVariables false
namespace Go.Fz
open Go.Proofs
set_option maxRecDepth 100000
theorem own_range {y : YardD} (hc : y.check = 0) : (y.ownE true = 0 ∧ y.kept ≠ []) ∨ y.ownE true = 9 ∨ y.ownE true = 10 := by
  by_cases hs : y.allS = []
  · refine .inr (.inr ?_)
    unfold YardD.ownE
    rw [if_pos (by rw [(any_sees hc).1 hs]; decide), (any_sees hc).1 hs]
  · by_cases hk : y.kept = []
    · refine .inr (.inl ?_)
      unfold YardD.ownE
      rw [if_neg (by simp [(any_sees hc).2 hs]), if_pos hk]
    · exact .inl ⟨own_sees hc hk, hk⟩
end Go.Fz
set_option linter.unusedVariables false
namespace Go.Fz
open Go.Proofs
set_option maxRecDepth 100000
theorem size_in {lo hi : Int} (h : 0 ≤ lo ∧ lo ≤ hi ∧ hi ≤ 9) : size64 lo hi = hi - lo + 1 := by
  unfold size64
  rw [sub64_in _ _ (by omega) (by omega), add64_in _ _ (by omega) (by omega)]
theorem prN_le {lo hi lo' hi' : Nat → Int} {n : Nat} (hn : n ≤ 6) (hr : ∀ i, i < n → 0 ≤ lo i ∧ lo i ≤ hi i ∧ hi i ≤ 9) (hr' : ∀ i, i < n → 0 ≤ lo' i ∧ lo' i ≤ hi' i ∧ hi' i ≤ 9) (hle : ∀ i, i < n → hi' i - lo' i ≤ hi i - lo i) : ∀ i, i ≤ n → 1 ≤ prN lo' hi' i ∧ prN lo' hi' i ≤ prN lo hi i ∧ prN lo hi i ≤ 10 ^ i
  | 0, _ => ⟨Int.le_refl _, Int.le_refl _, Int.le_refl _⟩
  | i + 1, hi' => by
    obtain ⟨a1, a2, a3⟩ := prN_le hn hr hr' hle i (by omega)
    have hp : (10 : Int) ^ i ≤ 1000000 ∧ 1 ≤ (10 : Int) ^ i := ten_pow ⟨i, by omega⟩
    have r1 := hr i (by omega)
    have r2 := hr' i (by omega)
    have r3 := hle i (by omega)
    have e1 : prN lo hi (i + 1) = mul64 (prN lo hi i) (size64 (lo i) (hi i)) := rfl
    have e2 : ∀ a b : Nat → Int, prN a b (i + 1) = mul64 (prN a b i) (size64 (a i) (b i)) := fun _ _ => rfl
    rw [e2, e2, size_in r1, size_in r2]
    rename_i hi2
    obtain ⟨s, hs⟩ : ∃ s, hi i - lo i + 1 = s := ⟨_, rfl⟩
    obtain ⟨s', hs'⟩ : ∃ s', hi2 i - lo' i + 1 = s' := ⟨_, rfl⟩
    rw [hs, hs']
    obtain ⟨p, hpp⟩ : ∃ p, prN lo hi i = p := ⟨_, rfl⟩
    obtain ⟨p', hpp'⟩ : ∃ p', prN lo' hi2 i = p' := ⟨_, rfl⟩
    rw [hpp] at a2 a3
    rw [hpp'] at a1 a2
    rw [hpp, hpp']
    have hs1 : 1 ≤ s ∧ s ≤ 10 := by omega
    have hs2 : 1 ≤ s' ∧ s' ≤ s := by omega
    have b1 : p' * s' ≤ p * s := Int.mul_le_mul a2 hs2.2 (by omega) (by omega)
    have b2 : p * s ≤ 10 ^ i * 10 := Int.mul_le_mul a3 hs1.2 (by omega) (by omega)
    have b3 : 1 * 1 ≤ p' * s' := Int.mul_le_mul a1 hs2.1 (by omega) (by omega)
    have b4 : (10 : Int) ^ i * 10 ≤ 10000000 := by omega
    rw [mul64_in _ _ (by omega) (by omega), mul64_in _ _ (by omega) (by omega), Int.pow_succ]
    exact ⟨by omega, b1, b2⟩
theorem eq6_refl (f : Nat → Int) : eq6 f f = true := by
  unfold eq6
  simp
theorem key_self {n : Nat} (hn : n ≤ 6) {f : Nat → Int} (hf : ∀ b, b ∉ List.range n → f b = 0) {S : List (Nat → Int)} (hS : f ∈ S) : hasS S (keyF n f) = true := by
  obtain ⟨i, hi, e⟩ := List.getElem_of_mem hS
  refine decide_eq_true ⟨i, hi, ?_⟩
  have hg : S.getD i f0 = f := by rw [List.getD_eq_getElem?_getD, List.getElem?_eq_getElem hi]; exact e
  rw [hg]
  have hk : ∀ j, keyF n f j = f j := fun j => by
    unfold keyF
    have : Nat.min n 6 = n := Nat.min_eq_left hn
    rw [this]
    split
    · rfl
    · rename_i h
      exact (hf j fun hm => h (List.mem_range.1 hm)).symm
  rw [show keyF n f = f from funext hk]
  exact eq6_refl f
theorem first_mem {y : YardD} (h : y.ownE true = 0) : y.firstS true ∈ y.kept := by
  unfold YardD.firstS
  obtain ⟨h1, h2, _⟩ := YardD.own_some h
  rw [h1]
  have hp := List.length_pos_iff.2 h2
  rw [List.getD_eq_getElem?_getD, List.getElem?_eq_getElem hp]
  exact List.getElem_mem hp
end Go.Fz
set_option linter.unusedVariables false
namespace Go.Fz
open Go.Proofs
set_option maxRecDepth 100000
end Go.Fz
set_option linter.unusedVariables false
namespace Go.Fz
open Go.Proofs
set_option maxRecDepth 100000
end Go.Fz
set_option linter.unusedVariables false
namespace Go.Fz
open Go.Proofs
set_option maxRecDepth 100000
end Go.Fz
set_option linter.unusedVariables false
namespace Go.Fz
open Go.Proofs
set_option maxRecDepth 100000
end Go.Fz
set_option linter.unusedVariables false
namespace Go.Fz
open Go.Proofs
set_option maxRecDepth 100000
end Go.Fz
set_option linter.unusedVariables false
namespace Go.Fz
open Go.Proofs
set_option maxRecDepth 100000
structure Turn (y x : YardD) : Prop where
  nb : x.nb = y.nb
  last : x.last = y.last
  hands : x.hands = y.hands
  lng : ∀ i, i < y.nb → x.lng i = y.lng (y.nb - 1 - i)
  blo : ∀ i, i < y.nb → x.blo i = y.blo (y.nb - 1 - i)
  bhi : ∀ i, i < y.nb → x.bhi i = y.bhi (y.nb - 1 - i)
  nc : x.nc = y.nc
  cin : ∀ i, i < y.nc → 0 ≤ y.cb i ∧ y.cb i < y.nb
  cb : ∀ i, i < y.nc → x.cb i = (y.nb : Int) - 1 - y.cb i
  clo : ∀ i, i < y.nc → x.clo i = y.clo i
  chi : ∀ i, i < y.nc → x.chi i = y.chi i
theorem back_back {n i : Nat} (h : i < n) : n - 1 - (n - 1 - i) = i := by omega
theorem Turn.symm {y x : YardD} (h : Turn y x) : Turn x y := by
  have hb : ∀ i, i < x.nb → x.nb - 1 - i < y.nb := fun i hi => by rw [h.nb] at hi ⊢; omega
  refine ⟨h.nb.symm, h.last.symm, h.hands.symm, fun i hi => ?_, fun i hi => ?_, fun i hi => ?_, h.nc.symm, fun i hi => ?_, fun i hi => ?_, fun i hi => ?_, fun i hi => ?_⟩
  · rw [h.lng _ (hb i hi), h.nb, back_back (h.nb ▸ hi)]
  · rw [h.blo _ (hb i hi), h.nb, back_back (h.nb ▸ hi)]
  · rw [h.bhi _ (hb i hi), h.nb, back_back (h.nb ▸ hi)]
  · rw [h.nc] at hi
    have := h.cin i hi
    rw [h.cb i hi, h.nb]; omega
  · rw [h.nc] at hi
    rw [h.cb i hi, h.nb]; omega
  · rw [h.nc] at hi; exact (h.clo i hi).symm
  · rw [h.nc] at hi; exact (h.chi i hi).symm
def revF (n : Nat) (f : Nat → Int) : Nat → Int := fun b => if b < n then f (n - 1 - b) else 0
theorem revF_lt {n b : Nat} {f : Nat → Int} (h : b < n) : revF n f b = f (n - 1 - b) := if_pos h
theorem range_rev : ∀ n : Fin 7, (List.range n.1).map (fun b => n.1 - 1 - b) = (List.range n.1).reverse := by decide
theorem turn_mt {y x : YardD} (h : Turn y x) (f : Nat → Int) {b : Nat} (hb : b < y.nb) (w : Int) : x.mt (revF y.nb f) b w = y.mt f (y.nb - 1 - b) w := by
  unfold YardD.mt
  rw [revF_lt hb, h.lng b hb]
theorem turn_busy {y x : YardD} (h : Turn y x) (hn : y.nb ≤ 6) (f : Nat → Int) (w : Int) : x.busyP (List.range y.nb) (revF y.nb f) w = y.busyP (List.range y.nb) f w := by
  unfold YardD.busyP
  rw [List.filter_congr (q := (fun b => y.mt f b w) ∘ fun b => y.nb - 1 - b) fun b hb => turn_mt h f (List.mem_range.1 hb) w]
  have h1 := congrArg List.length (List.filter_map (p := fun b => y.mt f b w) (f := fun b => y.nb - 1 - b) (l := List.range y.nb))
  rw [List.length_map, range_rev ⟨y.nb, by omega⟩, List.filter_reverse, List.length_reverse] at h1
  exact h1.symm
theorem turn_allS {y x : YardD} (h : Turn y x) (hn : y.nb ≤ 6) {f : Nat → Int} (hf : f ∈ y.allS) : revF y.nb f ∈ x.allS := by
  obtain ⟨_, hs⟩ := mem_allS.1 hf
  rw [mem_allS, h.nb]
  have hin : ∀ b, b ∈ List.range y.nb → y.nb - 1 - b ∈ List.range y.nb := fun b hb => by
    have := List.mem_range.1 hb
    exact List.mem_range.2 (by omega)
  refine ⟨fun b hb => if_neg fun hl => hb (List.mem_range.2 hl), ⟨fun b hb => ?_, fun b hb => ?_, fun w hw => ?_, fun b hb h0 hb1 w hm => ?_⟩⟩
  · have hl := List.mem_range.1 hb
    rw [revF_lt hl, h.blo b hl, h.bhi b hl]
    exact hs.rng _ (hin b hb)
  · have hl := List.mem_range.1 hb
    rw [revF_lt hl, h.lng b hl, h.last]
    exact hs.fin _ (hin b hb)
  · obtain ⟨b, hb, hm⟩ := hw
    rw [turn_mt h f (List.mem_range.1 hb)] at hm
    rw [turn_busy h hn, h.hands]
    exact hs.few w ⟨_, hin b hb, hm⟩
  · have hl := List.mem_range.1 hb
    have hl1 := List.mem_range.1 hb1
    rw [turn_mt h f hl] at hm
    rw [turn_mt h f hl1]
    intro hm2
    have e : y.nb - 1 - b = (y.nb - 1 - (b - 1)) - 1 := by omega
    have := hs.apt _ (hin _ hb1) (by omega) (by rw [← e]; exact hin b hb) w hm2
    rw [← e] at this
    exact this hm
theorem turn_rgt {y x : YardD} (h : Turn y x) {f : Nat → Int} {p : Nat} (hp : p < y.nc) : x.rgt (revF y.nb f) p = y.rgt f p := by
  have hc := h.cin p hp
  have e : (x.cb p).toNat = y.nb - 1 - (y.cb p).toNat := by rw [h.cb p hp]; omega
  unfold YardD.rgt
  rw [h.clo p hp, h.chi p hp, e, revF_lt (by omega), back_back (by omega)]
theorem turn_kept {y x : YardD} (h : Turn y x) (hn : y.nb ≤ 6) {f : Nat → Int} (hf : f ∈ y.kept) : revF y.nb f ∈ x.kept := by
  obtain ⟨h1, h2⟩ := mem_kept.1 hf
  refine mem_kept.2 ⟨turn_allS h hn h1, fun p hp => ?_⟩
  rw [h.nc] at hp
  rw [turn_rgt h hp]
  exact h2 p hp
theorem turn_lvB {y x : YardD} (h : Turn y x) (hn : y.nb ≤ 6) {l : List Nat} (hl : y.lvB y.allS l = true) : x.lvB x.allS l = true := by
  obtain ⟨f, hf, hp⟩ := lvB_iff.1 hl
  refine lvB_iff.2 ⟨_, turn_allS h hn hf, fun p hq => ?_⟩
  rw [h.nc] at hq
  rw [turn_rgt h (mem_coL.1 hq).1]
  exact hp p hq
def prodZ (s : Nat → Int) : Nat → Int
  | 0 => 1
  | i + 1 => prodZ s i * s i
theorem prodZ_congr {s t : Nat → Int} : ∀ n, (∀ i, i < n → s i = t i) → prodZ s n = prodZ t n
  | 0, _ => rfl
  | n + 1, h => by
    show prodZ s n * s n = prodZ t n * t n
    rw [prodZ_congr n fun i hi => h i (by omega), h n (by omega)]
theorem prodZ_rev (s : Nat → Int) : ∀ n, n ≤ 6 → prodZ (fun i => s (n - 1 - i)) n = prodZ s n
  | 0, _ => rfl
  | 1, _ => rfl
  | 2, _ => by show 1 * s 1 * s 0 = 1 * s 0 * s 1; ac_rfl
  | 3, _ => by show 1 * s 2 * s 1 * s 0 = 1 * s 0 * s 1 * s 2; ac_rfl
  | 4, _ => by show 1 * s 3 * s 2 * s 1 * s 0 = 1 * s 0 * s 1 * s 2 * s 3; ac_rfl
  | 5, _ => by show 1 * s 4 * s 3 * s 2 * s 1 * s 0 = 1 * s 0 * s 1 * s 2 * s 3 * s 4; ac_rfl
  | 6, _ => by show 1 * s 5 * s 4 * s 3 * s 2 * s 1 * s 0 = 1 * s 0 * s 1 * s 2 * s 3 * s 4 * s 5; ac_rfl
theorem prN_prod {lo hi : Nat → Int} {n : Nat} (hn : n ≤ 6) (hr : ∀ i, i < n → 0 ≤ lo i ∧ lo i ≤ hi i ∧ hi i ≤ 9) : ∀ i, i ≤ n → prN lo hi i = prodZ (fun i => hi i - lo i + 1) i ∧ 1 ≤ prN lo hi i ∧ prN lo hi i ≤ 10 ^ i
  | 0, _ => ⟨rfl, Int.le_refl _, Int.le_refl _⟩
  | i + 1, h => by
    obtain ⟨a1, a2, a3⟩ := prN_prod hn hr i (by omega)
    have r := prN_le hn hr hr (fun i hi => Int.le_refl _) (i + 1) h
    have hp : (10 : Int) ^ i ≤ 1000000 ∧ 1 ≤ (10 : Int) ^ i := ten_pow ⟨i, by omega⟩
    have r1 := hr i (by omega)
    refine ⟨?_, r.1, r.2.2⟩
    show mul64 (prN lo hi i) (size64 (lo i) (hi i)) = prodZ (fun i => hi i - lo i + 1) i * (hi i - lo i + 1)
    rw [← a1, size_in r1]
    have b1 : prN lo hi i * (hi i - lo i + 1) ≤ 10 ^ i * 10 := Int.mul_le_mul a3 (by omega) (by omega) (by omega)
    have b2 : 1 * 1 ≤ prN lo hi i * (hi i - lo i + 1) := Int.mul_le_mul a2 (by omega) (by omega) (by omega)
    have b4 : (10 : Int) ^ i * 10 ≤ 10000000 := by omega
    exact mul64_in _ _ (by omega) (by omega)
theorem check_zero {y : YardD} : y.check = 0 ↔ y.long = false ∧ y.validB = true ∧ prN y.blo y.bhi y.nb ≤ 2000 := by
  unfold YardD.check
  constructor
  · intro h
    split at h
    · omega
    · rename_i a1
      split at h
      · rename_i a2
        split at h
        · omega
        · exact ⟨by simpa using a1, a2, by omega⟩
      · omega
  · rintro ⟨h1, h2, h3⟩
    rw [if_neg (by rw [h1]; simp), if_pos h2, if_neg (by omega)]
theorem valid_iff {y : YardD} : y.validB = true ↔ 0 ≤ y.last ∧ 1 ≤ y.hands ∧ (∀ i, i < y.nb → (1 ≤ y.lng i ∧ y.lng i ≤ 3) ∧ 0 ≤ y.blo i ∧ y.blo i ≤ y.bhi i ∧ y.bhi i ≤ y.last) ∧ ∀ i, i < y.nc → (0 ≤ y.cb i ∧ y.cb i < y.nb) ∧ 0 ≤ y.clo i ∧ y.clo i ≤ y.chi i ∧ y.chi i ≤ y.last := by
  unfold YardD.validB allN
  simp only [Bool.and_eq_true, decide_eq_true_eq, YardD.bedOk, YardD.clmOk, withinB, inB, YardD.hasB, and_assoc]
theorem turn_check {y x : YardD} (h : Turn y x) (hc : y.check = 0) : x.check = 0 := by
  have hfit := (y.fit_of_check hc).1
  obtain ⟨h1, h2, h3⟩ := check_zero.1 hc
  obtain ⟨v1, v2, v3, v4⟩ := valid_iff.1 h2
  refine check_zero.2 ⟨?_, valid_iff.2 ⟨by rw [h.last]; exact v1, by rw [h.hands]; exact v2, fun i hi => ?_, fun i hi => ?_⟩, ?_⟩
  · have : x.long = y.long := by unfold YardD.long; rw [h.last, h.hands, h.nb, h.nc]
    rw [this]; exact h1
  · rw [h.nb] at hi
    rw [h.lng i hi, h.blo i hi, h.bhi i hi, h.last]
    exact v3 _ (by omega)
  · rw [h.nc] at hi
    have := v4 i hi
    rw [h.cb i hi, h.clo i hi, h.chi i hi, h.last, h.nb]
    exact ⟨by omega, this.2⟩
  · have hx : ∀ i, i < y.nb → 0 ≤ x.blo i ∧ x.blo i ≤ x.bhi i ∧ x.bhi i ≤ 9 := fun i hi => by
      rw [h.blo i hi, h.bhi i hi]; exact hfit.beg _ (by omega)
    rw [(prN_prod hfit.nb hfit.beg y.nb (Nat.le_refl _)).1] at h3
    rw [h.nb, (prN_prod hfit.nb hx y.nb (Nat.le_refl _)).1]
    rw [prodZ_congr (t := fun i => (fun j => y.bhi j - y.blo j + 1) (y.nb - 1 - i)) y.nb fun i hi => by rw [h.blo i hi, h.bhi i hi], prodZ_rev (fun j => y.bhi j - y.blo j + 1) y.nb hfit.nb]
    exact h3
theorem turn_own {y x : YardD} (h : Turn y x) (hc : y.check = 0) : y.ownE true = x.ownE true ∧ y.anyE true = x.anyE true := by
  have hn := (y.fit_of_check hc).1.nb
  have hx := turn_check h hc
  have hnx : x.nb ≤ 6 := by rw [h.nb]; exact hn
  have ha : y.allS = [] ↔ x.allS = [] := by
    constructor
    · intro he
      refine Classical.not_not.1 fun hq => ?_
      obtain ⟨f, hf⟩ := List.exists_mem_of_ne_nil _ hq
      have := turn_allS h.symm hnx hf
      rw [he] at this; cases this
    · intro he
      refine Classical.not_not.1 fun hq => ?_
      obtain ⟨f, hf⟩ := List.exists_mem_of_ne_nil _ hq
      have := turn_allS h hn hf
      rw [he] at this; cases this
  have hk : y.kept = [] ↔ x.kept = [] := by
    constructor
    · intro he
      refine Classical.not_not.1 fun hq => ?_
      obtain ⟨f, hf⟩ := List.exists_mem_of_ne_nil _ hq
      have := turn_kept h.symm hnx hf
      rw [he] at this; cases this
    · intro he
      refine Classical.not_not.1 fun hq => ?_
      obtain ⟨f, hf⟩ := List.exists_mem_of_ne_nil _ hq
      have := turn_kept h hn hf
      rw [he] at this; cases this
  have hany : y.anyE true = x.anyE true := by
    by_cases hs : y.allS = []
    · rw [(any_sees hc).1 hs, (any_sees hx).1 (ha.1 hs)]
    · rw [(any_sees hc).2 hs, (any_sees hx).2 fun hq => hs (ha.2 hq)]
  refine ⟨?_, hany⟩
  unfold YardD.ownE
  rw [hany]
  by_cases hkk : y.kept = []
  · rw [if_pos hkk, if_pos (hk.1 hkk)]
  · rw [if_neg hkk, if_neg fun hq => hkk (hk.2 hq)]
theorem turn_lve {y x : YardD} (h : Turn y x) (hc : y.check = 0) : x.lveV = y.lveV := by
  have hn := (y.fit_of_check hc).1.nb
  have hnx : x.nb ≤ 6 := by rw [h.nb]; exact hn
  unfold YardD.lveV
  rw [(turn_own h hc).2, h.nc]
  have : (fun l => x.lvB x.allS l) = fun l => y.lvB y.allS l := by
    funext l
    exact Bool.eq_iff_iff.2 ⟨turn_lvB h.symm hnx, turn_lvB h hn⟩
  rw [this]
theorem wkN_turn {S S' : List (Nat → Int)} {b b' lo : Int} (h : ∀ w, anyW S b w = anyW S' b' w) : ∀ n, wkN S b lo n = wkN S' b' lo n
  | 0 => rfl
  | n + 1 => by
    show nxW S b (wkN S b lo n) _ = nxW S' b' (wkN S' b' lo n) _
    rw [wkN_turn h n]
    unfold nxW
    rw [h]
theorem turn_wk {y x : YardD} (h : Turn y x) (hc : y.check = 0) {K : Nat} (hK : K < y.nb) : wkN x.kept ((y.nb - 1 - K : Nat) : Int) (x.blo (y.nb - 1 - K)) (x.bhi (y.nb - 1 - K) - x.blo (y.nb - 1 - K) + 1).toNat = wkN y.kept (K : Int) (y.blo K) (y.bhi K - y.blo K + 1).toNat := by
  have hn := (y.fit_of_check hc).1.nb
  have hnx : x.nb ≤ 6 := by rw [h.nb]; exact hn
  rw [h.blo _ (by omega), h.bhi _ (by omega), back_back hK]
  refine wkN_turn (fun w => ?_) _
  have e1 : ((y.nb - 1 - K : Nat) : Int).toNat = y.nb - 1 - K := rfl
  have e2 : (K : Int).toNat = K := rfl
  refine Bool.eq_iff_iff.2 ⟨fun ha => ?_, fun ha => ?_⟩
  · obtain ⟨f, hf, e⟩ := anyW_iff.1 ha
    refine anyW_iff.2 ⟨_, turn_kept h.symm hnx hf, ?_⟩
    rw [e1] at e
    rw [e2, h.nb, revF_lt hK]
    exact e
  · obtain ⟨f, hf, e⟩ := anyW_iff.1 ha
    refine anyW_iff.2 ⟨_, turn_kept h hn hf, ?_⟩
    rw [e2] at e
    rw [e1, revF_lt (by omega), back_back hK]
    exact e
structure BackY (y z : YardD) : Prop where
  nb : z.nb = y.nb
  last : z.last = y.last
  hands : z.hands = y.hands
  lng : ∀ i, i < y.nb → z.lng i = y.lng i
  blo : ∀ i, i < y.nb → z.blo i ≤ max 0 (y.last + 1 - y.lng i - y.bhi i)
  bhi : ∀ i, i < y.nb → z.bhi i = y.last + 1 - y.lng i - y.blo i
  nc : z.nc = 0
def backF (y : YardD) (f : Nat → Int) : Nat → Int := fun b => if b < y.nb then y.last + 1 - f b - y.lng b else 0
theorem back_mt {y z : YardD} (h : BackY y z) (f : Nat → Int) {b : Nat} (hb : b < y.nb) (w : Int) : z.mt (backF y f) b w = y.mt f b (y.last - w) := by
  unfold YardD.mt backF
  rw [if_pos hb, h.lng b hb]
  refine Bool.eq_iff_iff.2 ?_
  rw [Bool.and_eq_true, Bool.and_eq_true, decide_eq_true_eq, decide_eq_true_eq, decide_eq_true_eq, decide_eq_true_eq]
  constructor <;> (rintro ⟨h1, h2⟩; constructor <;> omega)
theorem back_allS {y z : YardD} (h : BackY y z) (hc : y.check = 0) {f : Nat → Int} (hf : f ∈ y.allS) : backF y f ∈ z.allS := by
  have hfit := (y.fit_of_check hc).1
  obtain ⟨_, hs⟩ := mem_allS.1 hf
  rw [mem_allS, h.nb]
  refine ⟨fun b hb => if_neg fun hl => hb (List.mem_range.2 hl), ⟨fun b hb => ?_, fun b hb => ?_, fun w hw => ?_, fun b hb h0 hb1 w hm => ?_⟩⟩
  · have hl := List.mem_range.1 hb
    have e : backF y f b = y.last + 1 - f b - y.lng b := if_pos hl
    have h1 := hs.rng b hb
    have h2 := hs.fin b hb
    have h3 := h.blo b hl
    rw [e, h.bhi b hl]
    omega
  · have hl := List.mem_range.1 hb
    have e : backF y f b = y.last + 1 - f b - y.lng b := if_pos hl
    have h1 := hs.rng b hb
    have h2 := hfit.beg b hl
    rw [e, h.lng b hl, h.last]
    omega
  · obtain ⟨b, hb, hm⟩ := hw
    rw [back_mt h f (List.mem_range.1 hb)] at hm
    have e : z.busyP (List.range y.nb) (backF y f) w = y.busyP (List.range y.nb) f (y.last - w) := by
      unfold YardD.busyP
      rw [List.filter_congr fun b hb => back_mt h f (List.mem_range.1 hb) w]
    rw [e, h.hands]
    exact hs.few _ ⟨b, hb, hm⟩
  · rw [back_mt h f (List.mem_range.1 hb)] at hm
    rw [back_mt h f (List.mem_range.1 hb1)]
    exact hs.apt b hb h0 hb1 _ hm
theorem back_proves {y z : YardD} (h : BackY y z) (hc : y.check = 0) (hz : z.check = 0) {f : Nat → Int} (hf : f ∈ y.kept) {fl : Nat → Int} (hfl : ∀ j, j < y.nb → fl j = y.last + 1 - f j - y.lng j) : z.psB y.nb fl = true := by
  have hn := (y.fit_of_check hc).1.nb
  have hm := back_allS h hc (mem_kept.1 hf).1
  have hk : backF y f ∈ z.kept := mem_kept.2 ⟨hm, fun p hp => by rw [h.nc] at hp; omega⟩
  have ho := own_sees hz fun he => by rw [he] at hk; cases hk
  unfold YardD.psB
  rw [h.nb, decide_eq_true rfl, ho, (YardD.own_some ho).1]
  have hkf : keyF y.nb fl = backF y f := by
    funext j
    unfold keyF backF
    have : Nat.min y.nb 6 = y.nb := Nat.min_eq_left hn
    rw [this]
    split
    · rename_i hj; exact hfl j hj
    · rfl
  have hkk : keyF y.nb (backF y f) = backF y f := by
    funext j
    unfold keyF
    have : Nat.min y.nb 6 = y.nb := Nat.min_eq_left hn
    rw [this]
    split
    · rfl
    · rename_i hj; exact (if_neg hj).symm
  have hks := key_self hn (f := backF y f) (fun b hb => if_neg fun hl => hb (List.mem_range.2 hl)) hk
  rw [hkf]
  rw [hkk] at hks
  rw [hks]
  rfl
end Go.Fz
