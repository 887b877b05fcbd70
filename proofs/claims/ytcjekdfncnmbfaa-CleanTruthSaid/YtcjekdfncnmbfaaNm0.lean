/- Own work of the verifier of watercress: Lb4, Lb5, Lb6, Lb7, Lb8, FzKo, FzCe1, FzCn1, FzCn2, FzCn4, FzCh1, FzCh2, FzCh3, FzCh4, FzCh5, FzEs1, FzCp, FzEs2, FzCm2, FzCm3, FzCm4, FzCm5, FzOn1, FzOn2, FzEa1, FzEa2, FzEa3, FzCn5, FzCn6, FzEa4, FzRf1. -/
import Derived.ChangeKeysEq
import Derived.Laws.AppendOwn
import Derived.Laws.Cells
import Derived.Laws.CopyRow
import Derived.Laws.Entries
import Derived.Laws.NewFold
import Derived.Laws.Sem
import Derived.Laws.Small
import Derived.Laws.StructEq
import Derived.Laws.Tables
import Derived.Laws.World
import Derived.OrdersHeld
import Derived.OrdersIn
import Derived.RangeFuncLeaves
import Derived.RangeFuncRecord
import Derived.Shelf.Abstract
import Derived.Test.YtcjekdfncnmbfaaNa0
import Derived.Test.YtcjekdfncnmbfaaNa1
import Derived.Test.YtcjekdfncnmbfaaNa2
import Derived.Test.YtcjekdfncnmbfaaNa3
import Derived.Test.YtcjekdfncnmbfaaProg
import Derived.Test.YtcjekdfncnmbfaaNa4
import Derived.Below
import Derived.CallsIn
import Derived.Carry
import Derived.ChangeSame
import Derived.Deep.Slices
import Derived.JoinedCond
import Derived.Laws.Cover3
import Derived.Lib.SmallJoins
import Derived.OpenShut
import Derived.ProofKit
import Derived.WalkKit
import Derived.WideKeyArgs
import Derived.Test.YtcjekdfncnmbfaaRows
import Derived.Test.YtcjekdfncnmbfaaNa5
import Derived.DeepKeys4
import Derived.Maps.Keyed
import Derived.Maps.RangeRun
import Derived.Test.YtcjekdfncnmbfaaNa6
import Derived.Test.YtcjekdfncnmbfaaNa7
import Derived.Test.YtcjekdfncnmbfaaNa8
import Derived.Test.YtcjekdfncnmbfaaNa9
import Derived.Test.YtcjekdfncnmbfaaNa18
import Derived.Test.YtcjekdfncnmbfaaNa10
import Derived.Test.YtcjekdfncnmbfaaNa11
import Derived.Test.YtcjekdfncnmbfaaNa13
import Derived.Test.YtcjekdfncnmbfaaNa16
import Derived.Test.YtcjekdfncnmbfaaNa14
import Derived.Test.YtcjekdfncnmbfaaNa15
import Derived.Test.YtcjekdfncnmbfaaNa19
import Derived.Test.YtcjekdfncnmbfaaNa20
import Derived.Test.YtcjekdfncnmbfaaNa21
import Derived.Test.YtcjekdfncnmbfaaNa22
import Derived.Test.YtcjekdfncnmbfaaNa12
import Derived.Test.YtcjekdfncnmbfaaNa17
import Derived.Test.YtcjekdfncnmbfaaNa23
set_option linter.unusedVariables false
set_option linter.unusedSimpArgs false
namespace Go.Fz
open Go.Proofs
theorem en7 : Enters Try.prog 7 := fun args w => Go.Proofs.enters_of Try.func7 (by kernel_rfl) rfl args w
theorem en21 : Enters Try.prog 21 := fun args w => Go.Proofs.enters_of Try.func21 (by kernel_rfl) rfl args w
theorem en25 : Enters Try.prog 25 := fun args w => Go.Proofs.enters_of Try.func25 (by kernel_rfl) rfl args w
theorem en46 : Enters Try.prog 46 := fun args w => Go.Proofs.enters_of Try.func46 (by kernel_rfl) rfl args w
theorem en49 : Enters Try.prog 49 := fun args w => Go.Proofs.enters_of Try.func49 (by kernel_rfl) rfl args w
theorem en50 : Enters Try.prog 50 := fun args w => Go.Proofs.enters_of Try.func50 (by kernel_rfl) rfl args w
theorem en55 : Enters Try.prog 55 := fun args w => Go.Proofs.enters_of Try.func55 (by kernel_rfl) rfl args w
theorem en63 : Enters Try.prog 63 := fun args w => Go.Proofs.enters_of Try.func63 (by kernel_rfl) rfl args w
theorem en67 : Enters Try.prog 67 := fun args w => Go.Proofs.enters_of Try.func67 (by kernel_rfl) rfl args w
theorem en68 : Enters Try.prog 68 := fun args w => Go.Proofs.enters_of Try.func68 (by kernel_rfl) rfl args w
theorem en91 : Enters Try.prog 91 := fun args w => Go.Proofs.enters_of Try.func91 (by kernel_rfl) rfl args w
end Go.Fz
set_option linter.unusedVariables false
set_option linter.unusedSimpArgs false
namespace Go.Fz
variable {P : Program} {T : Ti}
end Go.Fz
namespace Go.Fz
variable {P : Program} {T : Ti}
end Go.Fz
namespace Go.Fz
variable {P : Program} {T : Ti}
end Go.Fz
namespace Go.Fz
variable {P : Program} {T : Ti}
def runDN (O : Ar) (T : Ti) (ops : Array Oper) : Nat → Nat → List (Nat × AV) → Array Bool → List Cond → Fm → St → DOut
  | 0, fuel, pend, listed, cs, f, st => .stop cs fuel pend listed f st
  | _ + 1, 0, pend, listed, cs, f, st => .stop cs 0 pend listed f st
  | k + 1, fuel + 1, pend, listed, cs, f, st => match Region.ready .any ops listed with
    | [] => .done cs f st
    | rs => match pickD O T ops pend st.h f rs with
      | some (i, o, c, .sb b) => match isCmp o with
        | true => .stop cs (fuel + 1) pend listed f st
        | false => runDN O T ops k fuel ((i, .sb b) :: pend) (listed.setIfInBounds i true) (c ++ cs) (f.put o.dst (.sb b)) st
      | some (i, o, c, r) => runDN O T ops k fuel ((i, r) :: pend) (listed.setIfInBounds i true) (c ++ cs) (f.put o.dst r) st
      | none => .stop cs (fuel + 1) pend listed f st
theorem runDN_cs {O : Ar} {ops : Array Oper} : ∀ (k fuel : Nat) (pend : List (Nat × AV)) (listed : Array Bool) (cs : List Cond) (f : Fm) (st : St), ∀ c ∈ cs, c ∈ (runDN O T ops k fuel pend listed cs f st).cs
  | 0, _, _, _, _, _, _, c, h => h
  | _ + 1, 0, _, _, _, _, _, c, h => h
  | k + 1, fuel + 1, pend, listed, cs, f, st, c, h => by
    unfold runDN
    split
    · exact h
    · split
      · split
        · exact h
        · exact runDN_cs k fuel _ _ _ _ _ c (List.mem_append_right _ h)
      · exact runDN_cs k fuel _ _ _ _ _ c (List.mem_append_right _ h)
      · exact h
theorem runDN_ok (hT : TOk P T) {O : Ar} (hO : O = std) {rd : Option Nat} {ops : Array Oper} {K : Fm → St → Prop} (hM : tidyB ops (masks ops) = true) : ∀ (k fuel : Nat) (pend : List (Nat × AV)) (listed : Array Bool) (cs : List Cond) (f : Fm) (st : St),
    (∀ c ∈ (runDN O T ops k fuel pend listed cs f st).cs, c.holds) → (runDN O T ops k fuel pend listed cs f st).post P T rd ops K → AnyE P T ops (masks ops) rd K fuel pend listed f st
  | 0, _, _, _, _, _, _, _, h => h
  | _ + 1, 0, _, _, _, _, _, _, h => h
  | k + 1, fuel + 1, pend, listed, cs, f, st, hc, h => by
    unfold runDN at hc h
    split at h
    · rename_i hr
      exact .done (by rw [hr]; rfl) h
    · rename_i hr
      split at h
      · rename_i i o c b hp
        obtain ⟨h1, h2, h3, h4⟩ := pickD_ok hO hp
        simp only [hp] at hc
        split at h
        · exact h
        · rename_i hcmp
          simp only [hcmp] at hc
          have hl := h4 fun x hx => hc x (runDN_cs k fuel _ _ _ _ _ x (List.mem_append_left _ hx))
          refine .take hM hT i h2 ?_ hl (runDN_ok hT hO hM k fuel _ _ _ _ _ hc h)
          rw [h3, Bool.and_true]
          exact List.contains_iff_mem.2 h1
      · rename_i i o c r hnsb hp
        obtain ⟨h1, h2, h3, h4⟩ := pickD_ok hO hp
        simp only [hp] at hc
        have hl := h4 fun x hx => hc x (runDN_cs k fuel _ _ _ _ _ x (List.mem_append_left _ hx))
        refine .take hM hT i h2 ?_ hl (runDN_ok hT hO hM k fuel _ _ _ _ _ hc h)
        rw [h3, Bool.and_true]
        exact List.contains_iff_mem.2 h1
      · exact h
theorem AnyE.runN (hT : TOk P T) {O : Ar} (hO : O = std) (k : Nat) {rd : Option Nat} {ops : Array Oper} {K : Fm → St → Prop} {fuel : Nat} {pend : List (Nat × AV)} {listed : Array Bool} {f : Fm} {st : St} {R : DOut} (hM : tidyB ops (masks ops) = true)
    (hR : Fz.runDN O T ops k fuel pend listed [] f st = R) (hc : allC R.cs) (h : R.post P T rd ops K) : AnyE P T ops (masks ops) rd K fuel pend listed f st := by
  subst hR
  exact runDN_ok hT hO hM _ _ _ _ _ _ _ (allC_ok hc) h
end Go.Fz
namespace Go.Fz
open Go.Proofs
set_option maxRecDepth 100000
end Go.Fz
namespace Go.Fz
open Go.ChangeShapes Go.WideShapes Go.Deep Go.Joins
section
variable {H : Type} {enc : TypeId × Value → H} {P : Program} {w : World} {base : Nat} {spare : Nat → Bool} {held : Bool}
end
end Go.Fz
namespace Go.Proofs.Ytcjekdfncnmbfaa
open Go.ChangeShapes Go.WideShapes Go.ChangeAt Go.RowKit Go.Joins
set_option linter.unusedVariables false
set_option maxRecDepth 100000
end Go.Proofs.Ytcjekdfncnmbfaa
namespace Go.Fz
open Go.Proofs
set_option maxRecDepth 100000
end Go.Fz
namespace Go.Fz
open Go.Proofs
set_option maxRecDepth 100000
end Go.Fz
namespace Go.Fz
open Go.Proofs
set_option maxRecDepth 100000
end Go.Fz
namespace Go.Fz
open Go.Proofs
set_option maxRecDepth 100000
def quo64 (a b : Int) : Int := wrp .i64 (a.tdiv b)
end Go.Fz
namespace Go.Fz
open Go.Proofs
set_option maxRecDepth 100000
theorem intC_below (fl : Nat → Int) (i k : Nat) : Below 0 (intC fl i k) := Below.lit
theorem flatG_snoc (fl : Nat → Int) (n : Nat) (v : Int) (h : v = fl n) : flatG 1 (intC fl) n ++ [iV v] = flatG 1 (intC fl) (n + 1) := by
  rw [h]; rfl
end Go.Fz
namespace Go.Fz
open Go.Proofs
set_option maxRecDepth 100000
end Go.Fz
namespace Go.Fz
open Go.Proofs
set_option maxRecDepth 100000
end Go.Fz
namespace Go.Fz
open Go.Proofs
set_option maxRecDepth 100000
end Go.Fz
namespace Go.Fz
open Go.Proofs
set_option maxRecDepth 100000
end Go.Fz
namespace Go.Fz
open Go.Proofs
set_option maxRecDepth 100000
end Go.Fz
namespace Go.Fz
open Go.Proofs
set_option maxRecDepth 100000
end Go.Fz
namespace Go.Fz
open Go.Proofs
set_option maxRecDepth 100000
end Go.Fz
set_option linter.unusedVariables false
set_option linter.unusedSimpArgs false
namespace Go.Fz
open Go.Proofs
set_option maxRecDepth 100000
variable {P : Program} {T : Ti}
theorem tdiv_nn {a b : Int} (ha : 0 ≤ a) (hb : 1 ≤ b) : 0 ≤ a.tdiv b ∧ a.tdiv b ≤ a ∧ a.tdiv b * b + a.tmod b = a ∧ 0 ≤ a.tmod b ∧ a.tmod b < b := by
  rw [Int.tdiv_eq_ediv_of_nonneg ha, Int.tmod_eq_emod_of_nonneg ha]
  refine ⟨Int.ediv_nonneg ha (by omega), Int.ediv_le_self b ha, ?_, Int.emod_nonneg a (by omega), Int.emod_lt_of_pos a (by omega)⟩
  rw [Int.mul_comm]; exact Int.mul_ediv_add_emod a b
theorem quo64_nn {a b : Int} (ha : 0 ≤ a) (ha2 : a ≤ 1000000000) (hb : 1 ≤ b) : quo64 a b = a.tdiv b := by
  obtain ⟨h1, h2, _⟩ := tdiv_nn ha hb
  exact wrp_in (by simp only [IntKind.lo]; omega) (by simp only [IntKind.hi]; omega)
end Go.Fz
namespace Go.Fz
end Go.Fz
namespace Go.Fz
variable {P : Program} {T : Ti}
end Go.Fz
namespace Go.Fz
variable {P : Program} {T : Ti}
end Go.Fz
namespace Go.Fz
set_option maxRecDepth 100000
section
variable {P : Program} {T : Ti}
end
end Go.Fz
namespace Go.Fz
open Go.Proofs
set_option maxRecDepth 100000
section
variable {P : Program} {T : Ti}
end
end Go.Fz
namespace Go.Fz
open Go.Proofs
set_option maxRecDepth 100000
section
variable {α : Type}
end
end Go.Fz
namespace Go.Fz
open Go.Proofs
set_option maxRecDepth 100000
section
variable {α : Type}
end
end Go.Fz
namespace Go.Fz
set_option maxRecDepth 100000
section
variable {P : Program} {T : Ti}
end
end Go.Fz
namespace Go.Fz
variable {P : Program} {T : Ti}
end Go.Fz
namespace Go.Fz
open Go.Proofs
set_option maxRecDepth 100000
section
variable {P : Program} {T : Ti}
end
section
variable {α : Type}
end
end Go.Fz
namespace Go.Fz
variable {P : Program} {T : Ti}
end Go.Fz
namespace Go.Fz
open Go.Proofs
set_option maxRecDepth 100000
end Go.Fz
namespace Go.Fz
open Go.Proofs
set_option maxRecDepth 100000
end Go.Fz
namespace Go.Fz
open Go.Proofs
set_option maxRecDepth 100000
end Go.Fz
namespace Go.Fz
open Go.Proofs
set_option maxRecDepth 100000
section
variable {α : Type} (next : α → (Nat → Int) → α) (len : α → Nat) (N : Nat) (lo hi : Nat → Int)
end
end Go.Fz
namespace Go.Fz
open Go.Proofs
set_option maxRecDepth 100000
section
variable {P : Program} {T : Ti}
end
section
variable {P : Program}
end
end Go.Fz
namespace Go.Fz
variable {P : Program} {T : Ti}
end Go.Fz
namespace Go.Fz
open Go.Proofs
set_option maxRecDepth 100000
end Go.Fz
namespace Go.Fz
open Go.Proofs
set_option maxRecDepth 100000
end Go.Fz
namespace Go.Fz
open Go.Proofs
set_option maxRecDepth 100000
section
variable {P : Program} {T : Ti}
end
end Go.Fz
namespace Go.Fz
open Go.Proofs
set_option maxRecDepth 100000
end Go.Fz
set_option linter.unusedVariables false
set_option linter.unusedSimpArgs false
namespace Go.Fz
variable {P : Program} {T : Ti}
end Go.Fz
namespace Go.Fz
open Go.Proofs
set_option maxRecDepth 100000
theorem updE_mem {β : Type} [DecidableEq β] {E : List (β × Nat)} {x b : β} {c : Nat} : x ∈ (updE E b c).map (·.1) ↔ x ∈ E.map (·.1) ∨ x = b := by
  unfold updE
  split
  · rename_i h
    exact ⟨.inl, fun h2 => h2.elim id fun e => by rw [e]; exact h⟩
  · simp
theorem bmP_mem (b : Nat → Bool) (x : Bool) : ∀ i, x ∈ (bmP b i).1.map (·.1) ↔ ∃ j, j < i ∧ b j = x
  | 0 => by
    show x ∈ [] ↔ _
    exact ⟨fun h => (by cases h), fun ⟨_, h, _⟩ => absurd h (Nat.not_lt_zero _)⟩
  | i + 1 => by
    show x ∈ (updE _ _ _).map (·.1) ↔ _
    rw [updE_mem, bmP_mem b x i]
    constructor
    · rintro (⟨j, h1, h2⟩ | h)
      · exact ⟨j, by omega, h2⟩
      · exact ⟨i, by omega, h.symm⟩
    · rintro ⟨j, h1, h2⟩
      by_cases e : j = i
      · exact .inr (by rw [← e]; exact h2.symm)
      · exact .inl ⟨j, by omega, h2⟩
end Go.Fz
namespace Go.Fz
open Go.Proofs
set_option maxRecDepth 100000
theorem verdict_always {b : Nat → Bool} {n : Nat} : verdict b n = 1 ↔ someB b false n = false := by
  unfold verdict
  cases someB b false n <;> cases someB b true n <;> simp
theorem verdict_never {b : Nat → Bool} {n : Nat} (h0 : 0 < n) : verdict b n = 2 ↔ someB b true n = false := by
  have h : someB b false n = false → someB b true n = true := fun h => by
    cases hb : b 0 with
    | true => unfold someB; rw [decide_eq_true_eq, bmP_mem]; exact ⟨0, h0, hb⟩
    | false =>
      have : someB b false n = true := by unfold someB; rw [decide_eq_true_eq, bmP_mem]; exact ⟨0, h0, hb⟩
      rw [this] at h; cases h
  unfold verdict
  cases h1 : someB b false n <;> cases h2 : someB b true n <;> simp_all
end Go.Fz
namespace Go.Fz
section
variable {P : Program} {T : Ti}
def esOf (st : St) (a : AV) : Option (Nat × List (AV × AV × Nat) × Nat) := match a with
  | .mp id => match st.h.get id with
    | some (.map es clock) => some (id, es, clock)
    | _ => none
  | _ => none
def rngAt (ops : Array Oper) (i : Nat) (f : Fm) : Option (TypeId × AV) := match ops[i]? with
  | none => none
  | some o => match wantA ops f.ts o with
    | some true => match o.op with
      | .range t x => some (t, Operand.av f.ts x)
      | _ => none
    | _ => none
end
end Go.Fz
namespace Go.Fz
open Go.Proofs
set_option maxRecDepth 100000
section
variable {α : Type} {next : α → (Nat → Int) → α} {N : Nat} {lo hi : Nat → Int}
end
end Go.Fz
namespace Go.Fz
open Go.Proofs
set_option maxRecDepth 100000
section
variable {P : Program} {T : Ti}
end
end Go.Fz
namespace Go.Fz
open Go.Proofs
set_option maxRecDepth 100000
end Go.Fz
namespace Go.Fz
open Go.Proofs
set_option maxRecDepth 100000
end Go.Fz
namespace Go.Fz
open Go.Proofs
set_option maxRecDepth 100000
def wholeAt (ops : Array Oper) (i : Nat) (f : Fm) : Option (TypeId × AV) := match ops[i]? with
  | none => none
  | some o => match wantA ops f.ts o with
    | some true => match o.op with
      | .slice t x none none none => some (t, Operand.av f.ts x)
      | _ => none
    | _ => none
theorem OpsW.wholeArr {P : Program} {T : Ti} (hT : TOk P T) {rd : Option Nat} {ops : Array Oper} {l : List Nat} {K : Fm → St → Prop} {f : Fm} {st : St} {j t id off n sz : Nat} {fm : Option Nat} {cs : List AV}
    (hc : wholeAt ops j f = some (t, .ptr id off)) (hb : arrW T t n sz = true) (hx : st.h.get id = some (.cells fm false cs)) (hl : off + n * sz ≤ cs.length)
    (h : OpsW P rd ops l K (putAt ops j f (.sl id off n sz true)) st) : OpsW P rd ops (j :: l) K f st := by
  unfold wholeAt at hc
  split at hc
  · cases hc
  · rename_i o ho
    split at hc
    · rename_i hw
      split at hc
      · rename_i t' x hop
        simp only [Option.some.injEq, Prod.mk.injEq] at hc
        obtain ⟨rfl, h2⟩ := hc
        unfold arrW at hb
        split at hb
        · rename_i i hi1
          split at hb
          · rename_i m e hd
            split at hb
            · rename_i jj hj
              simp only [Bool.and_eq_true] at hb
              obtain rfl := Nat.eq_of_beq_eq_true hb.1
              obtain rfl := Nat.eq_of_beq_eq_true hb.2
              have hput : ∀ v, putAt ops j f v = f.put o.dst v := fun v => by simp [putAt, ho]
              rw [hput] at h
              refine OpsW.light hT ho hw (r := .sl id off m jj.size true) ?_ h
              simp only [evG, hop, h2, Option.map_none]
              unfold sliceA
              simp only [hi1, hd, hj, hx, natOr]
              rw [if_pos ⟨Nat.zero_le _, Nat.le_refl _, by simp, hl⟩]
              simp
            · cases hb
          · cases hb
        · cases hb
      · cases hc
    · cases hc
end Go.Fz
namespace Go.Fz
variable {P : Program} {T : Ti}
end Go.Fz
namespace Go.Fz
open Go.Proofs
set_option maxRecDepth 100000
section
variable {P : Program}
end
section
variable {β : Type} [DecidableEq β]
end
end Go.Fz
namespace Go.Fz
open Go.Proofs
set_option maxRecDepth 100000
end Go.Fz
namespace Go.Fz
open Go.Proofs
set_option maxRecDepth 100000
section
variable {P : Program} {T : Ti} {β : Type}
end
end Go.Fz
namespace Go.Fz
open Go.Proofs
set_option maxRecDepth 100000
section
variable {P : Program} {T : Ti} {β : Type} [DecidableEq β]
end
end Go.Fz
namespace Go.Fz
open Go.Proofs
set_option maxRecDepth 100000
end Go.Fz
namespace Go.Fz
open Go.Proofs
set_option maxRecDepth 100000
end Go.Fz
namespace Go.Fz
open Go.Proofs
set_option maxRecDepth 100000
end Go.Fz
namespace Go.Fz
open Go.Proofs
set_option maxRecDepth 100000
section
variable (nw nl : Nat) (A B C D : Nat → Nat → Int) (a b c e : Nat → Int)
end
end Go.Fz
set_option linter.unusedVariables false
set_option linter.unusedSimpArgs false
namespace Go.Fz
open Go.Proofs
set_option maxRecDepth 100000
section
variable {P : Program} {T : Ti}
end
end Go.Fz
namespace Go.Fz
open Go.Proofs
set_option maxRecDepth 100000
section
variable (K : List (List Nat) → Hp → Nat → Prop) (stop : List (List Nat) → List Nat → Hp → Nat → Prop) (ok : List Nat → Prop) (mc y many : Nat) (ex : Bool)
variable {K stop ok mc y many ex}
end
end Go.Fz
namespace Go.Fz
open Go.Proofs
set_option maxRecDepth 100000
section
variable {K : List (List Nat) → Hp → Nat → Prop} {stop : List (List Nat) → List Nat → Hp → Nat → Prop} {ok : List Nat → Prop} {mc y many : Nat}
end
end Go.Fz
namespace Go.Fz
open Go.Proofs
set_option maxRecDepth 100000
section
variable {K : List (List Nat) → Hp → Nat → Prop} {stop : List (List Nat) → List Nat → Hp → Nat → Prop} {ok : List Nat → Prop} {mc y many : Nat}
end
end Go.Fz
namespace Go.Fz
open Go.Proofs
set_option maxRecDepth 100000
section
variable (d : DayD) (XO : AV) (hX : Below 0 XO) (E : List (Mk × Nat)) (cl : Nat) (hb : Born E cl)
end
end Go.Fz
namespace Go.Fz
open Go.Proofs
set_option maxRecDepth 100000
section
variable (d : DayD) (XO : AV) (E : List (Mk × Nat)) (cl : Nat)
end
end Go.Fz
namespace Go.Fz
open Go.Proofs
set_option maxRecDepth 100000
section
variable (d : DayD) (L : Nat) (G : Nat → Nat → AV) (ME : List (AV × AV × Nat)) (cl : Nat)
end
end Go.Fz
namespace Go.Fz
open Go.Proofs
set_option maxRecDepth 100000
section
variable (d : DayD) (L : Nat) (G : Nat → Nat → AV) (ME : List (AV × AV × Nat)) (cl : Nat) (Q : List Nat → Bool)
variable {d L G ME cl}
end
end Go.Fz
namespace Go.Fz
open Go.Proofs
set_option maxRecDepth 100000
end Go.Fz
namespace Go.Fz
open Go.Proofs
set_option maxRecDepth 100000
set_option linter.unusedVariables false
end Go.Fz
namespace Go.Fz
open Go.Proofs
set_option maxRecDepth 100000
set_option linter.unusedVariables false
end Go.Fz
namespace Go.Fz
open Go.Proofs
set_option maxRecDepth 100000
end Go.Fz
namespace Go.Fz
open Go.Proofs
set_option maxRecDepth 100000
section
variable (nw nl : Nat) (f0 f1 f2 f3 : Nat → Int) (z4 z5 z6 z7 : Int)
end
end Go.Fz
namespace Go.Fz
open Go.Proofs
set_option maxRecDepth 100000
section
end
end Go.Fz
namespace Go.Fz
open Go.Proofs
set_option maxRecDepth 100000
end Go.Fz
namespace Go.Fz
open Go.Proofs
set_option maxRecDepth 100000
theorem tmod_in {q z : Int} (hq : 0 ≤ q) (hz : 1 ≤ z) : 0 ≤ q.tmod z ∧ q.tmod z < z := by
  obtain ⟨_, _, _, h4, h5⟩ := tdiv_nn hq hz
  exact ⟨h4, h5⟩
end Go.Fz
namespace Go.Fz
open Go.Proofs
set_option maxRecDepth 100000
end Go.Fz
namespace Go.Fz
open Go.Proofs
set_option maxRecDepth 100000
end Go.Fz
namespace Go.Fz
open Go.Proofs
set_option maxRecDepth 100000
end Go.Fz
namespace Go.Fz
open Go.Proofs
set_option maxRecDepth 100000
end Go.Fz
namespace Go.Fz
open Go.Proofs
set_option maxRecDepth 100000
end Go.Fz
namespace Go.Fz
open Go.Proofs
set_option maxRecDepth 100000
end Go.Fz
namespace Go.Fz
open Go.Proofs
set_option maxRecDepth 100000
end Go.Fz
namespace Go.Fz
variable {P : Program}
end Go.Fz
namespace Go.Fz
open Go.Proofs
set_option maxRecDepth 100000
section
variable {P : Program} {T : Ti}
end
end Go.Fz
namespace Go.Fz
open Go.Proofs
set_option maxRecDepth 100000
end Go.Fz
namespace Go.Fz
open Go.Proofs
set_option maxRecDepth 100000
set_option linter.unusedVariables false
end Go.Fz
namespace Go.Fz
open Go.Proofs
set_option maxRecDepth 100000
set_option linter.unusedVariables false
end Go.Fz
namespace Go.Fz
open Go.Proofs
set_option maxRecDepth 100000
set_option linter.unusedVariables false
end Go.Fz
namespace Go.Fz
open Go.Proofs
set_option maxRecDepth 100000
set_option linter.unusedVariables false
end Go.Fz
namespace Go.Fz
open Go.Proofs
set_option maxRecDepth 100000
end Go.Fz
namespace Go.Fz
open Go.Proofs
set_option maxRecDepth 100000
set_option pp.deepTerms false
set_option pp.deepTerms.threshold 5
end Go.Fz
namespace Go.Fz
open Go.Proofs
set_option maxRecDepth 100000
end Go.Fz
namespace Go.Fz
open Go.Proofs
set_option maxRecDepth 100000
end Go.Fz
namespace Go.Fz
open Go.Proofs
set_option maxRecDepth 100000
section
variable (d : DayD) (k w lo hi : Int)
end
end Go.Fz
namespace Go.Fz
open Go.Proofs
set_option maxRecDepth 100000
section
variable {T : Ti}
end
end Go.Fz
namespace Go.Fz
open Go.Proofs
set_option maxRecDepth 100000
section
variable {P : Program} {T : Ti}
end
end Go.Fz
namespace Go.Fz
open Go.Proofs
set_option maxRecDepth 100000
end Go.Fz
namespace Go.Fz
open Go.Proofs
set_option maxRecDepth 100000
set_option linter.unusedVariables false
end Go.Fz
namespace Go.Fz
open Go.Proofs
set_option maxRecDepth 100000
set_option linter.unusedVariables false
end Go.Fz
namespace Go.Fz
open Go.Proofs
set_option maxRecDepth 100000
set_option linter.unusedVariables false
end Go.Fz
namespace Go.Fz
open Go.Proofs
set_option maxRecDepth 100000
end Go.Fz
namespace Go.Fz
open Go.Proofs
set_option maxRecDepth 100000
set_option linter.unusedVariables false
section
variable {P : Program}
end
end Go.Fz
namespace Go.Fz
open Go.Proofs
set_option maxRecDepth 100000
set_option linter.unusedVariables false
end Go.Fz
namespace Go.Fz
open Go.Proofs
set_option maxRecDepth 100000
set_option linter.unusedVariables false
end Go.Fz
namespace Go.Fz
open Go.Proofs
set_option maxRecDepth 100000
set_option linter.unusedVariables false
end Go.Fz
set_option linter.unusedVariables false
namespace Go.Fz
open Go.Proofs
section
variable {P : Program} {T : Ti}
def cpyAt (ops : Array Oper) (j : Nat) (f : Fm) : Option (TypeId × AV × AV) := match ops[j]? with
  | none => none
  | some o => match wantA ops f.ts o with
    | some true => match o.op with
      | .call c => match c.callee, c.args.toList, c.argTypes.toList with
        | .builtin .copy, [d, s], [dt, _] => some (dt, Operand.av f.ts d, Operand.av f.ts s)
        | _, _, _ => none
      | _ => none
    | _ => none
end
end Go.Fz
namespace Go.Proofs.Ytcjekdfncnmbfaa
open Go.ChangeShapes Go.WideShapes Go.ChangeAt Go.RowKit Go.Joins
set_option linter.unusedVariables false
set_option maxRecDepth 100000
theorem u16_in {n : Int} (h : (Lit.int .u16 n).wf = true) : 0 ≤ n ∧ n ≤ 65535 := by
  simp [Lit.wf, IntKind.min, IntKind.max, IntKind.signed, IntKind.bits] at h
  omega
end Go.Proofs.Ytcjekdfncnmbfaa
set_option linter.unusedVariables false
namespace Go.Fz
open Go.Proofs
set_option maxRecDepth 100000
theorem conv0 {O : Ar} (hO : O = std) {i : Nat} (hi : i < 1000) : 0 ≤ O.conv .u64 (Int.ofNat i) := by
  subst hO
  show 0 ≤ wrp .u64 ((i : Nat) : Int)
  rw [wrp_in (by simp only [IntKind.lo]; omega) (by simp only [IntKind.hi]; omega)]
  omega
end Go.Fz
set_option linter.unusedVariables false
namespace Go.Fz
open Go.Proofs
set_option maxRecDepth 100000
theorem not_bad {y : YardD} {f : Nat → Int} : y.badB f = false ↔ ∀ p, p < y.nc → y.rgt f p = true := by
  unfold YardD.badB
  rw [decide_eq_false_iff_not, Nat.not_lt, Nat.le_zero, List.length_eq_zero_iff]
  unfold YardD.wrN
  rw [List.filter_eq_nil_iff]
  constructor
  · intro h p hp
    have := h p (List.mem_range.2 hp)
    simpa using this
  · intro h p hp
    have := h p (List.mem_range.1 hp)
    simp [this]
theorem mem_wrN {y : YardD} {f : Nat → Int} {n p : Nat} : p ∈ y.wrN f n ↔ p < n ∧ y.rgt f p = false := by
  unfold YardD.wrN
  rw [List.mem_filter, List.mem_range]
  simp
end Go.Fz
set_option linter.unusedVariables false
namespace Go.Fz
open Go.Proofs
set_option maxRecDepth 100000
theorem full55_ok (y : YardD) (hn : y.nc < 1000000) : Pure Try.prog 55 [yardV y] (iV (allI y.nc)) := by
  obtain ⟨O, hO⟩ : ∃ O : Ar, O = std := ⟨_, rfl⟩
  refine pure_of_body tok 3 Try.func55 en55 rfl ⟨yardV_below y, trivial⟩ Below.lit ?_
  refine SW.seqRun tok hO (by cbv <;> rfl) (by trivial) ?_
  refine SW.seqRun tok hO (by cbv <;> rfl) (by exact conv_nn hO hn) ?_
  refine SW.ret ⟨_, _, rfl, rfl, Eqv.int ?_⟩
  subst hO; rfl
theorem memGetD {l : List Nat} {p : Nat} : p ∈ l ↔ ∃ j, j < l.length ∧ l.getD j 0 = p := by
  constructor
  · intro h
    obtain ⟨j, hj, rfl⟩ := List.getElem_of_mem h
    exact ⟨j, hj, by rw [List.getD_eq_getElem?_getD, List.getElem?_eq_getElem hj]; rfl⟩
  · rintro ⟨j, hj, rfl⟩
    rw [List.getD_eq_getElem?_getD, List.getElem?_eq_getElem hj]
    exact List.getElem_mem hj
theorem hasN_iff {l : List Nat} {p : Nat} : hasN l.length (fun j => ((l.getD j 0 : Nat) : Int)) (p : Int) = true ↔ p ∈ l := by
  unfold hasN
  rw [decide_eq_true_eq, memGetD]
  constructor
  · rintro ⟨j, hj, h⟩
    exact ⟨j, hj, Int.ofNat_inj.1 h⟩
  · rintro ⟨j, hj, h⟩
    exact ⟨j, hj, congrArg Int.ofNat h⟩
theorem wrB_iff {y : YardD} {f : Nat → Int} {l : List Nat} : y.wrB f l = true ↔ ∀ p, p < y.nc → y.rgt f p = false → p ∈ l := by
  unfold YardD.wrB subB allN
  rw [decide_eq_true_eq]
  constructor
  · intro h p hp hr
    obtain ⟨j, hj, e⟩ := memGetD.1 (mem_wrN.2 ⟨hp, hr⟩)
    have := h j hj
    simp only [e] at this
    exact hasN_iff.1 this
  · intro h j hj
    have hm : (y.wrN f y.nc).getD j 0 ∈ y.wrN f y.nc := memGetD.2 ⟨j, hj, rfl⟩
    have := mem_wrN.1 hm
    exact hasN_iff.2 (h _ this.1 this.2)
def coL (nc : Nat) (l : List Nat) : List Nat := (List.range nc).filter fun p => !l.contains p
theorem mem_coL {nc : Nat} {l : List Nat} {p : Nat} : p ∈ coL nc l ↔ p < nc ∧ p ∉ l := by
  unfold coL
  rw [List.mem_filter, List.mem_range]
  simp
theorem co_wr {y : YardD} {f : Nat → Int} {l : List Nat} : (∀ p ∈ coL y.nc l, y.rgt f p = true) ↔ y.wrB f l = true := by
  rw [wrB_iff]
  constructor
  · intro h p hp hr
    apply Classical.byContradiction
    intro hn
    rw [h p (mem_coL.2 ⟨hp, hn⟩)] at hr
    cases hr
  · intro h p hp
    obtain ⟨h1, h2⟩ := mem_coL.1 hp
    cases hr : y.rgt f p with
    | true => rfl
    | false => exact absurd (h p h1 hr) h2
theorem lvB_iff {y : YardD} {S : List (Nat → Int)} {l : List Nat} : y.lvB S l = true ↔ ∃ f ∈ S, ∀ p ∈ coL y.nc l, y.rgt f p = true := by
  unfold YardD.lvB
  rw [List.any_eq_true]
  constructor
  · rintro ⟨f, hf, h⟩; exact ⟨f, hf, co_wr.2 h⟩
  · rintro ⟨f, hf, h⟩; exact ⟨f, hf, co_wr.1 h⟩
end Go.Fz
set_option linter.unusedVariables false
namespace Go.Fz
open Go.Proofs
set_option maxRecDepth 100000
theorem mem_allS {y : YardD} {f : Nat → Int} : f ∈ y.allS ↔ (∀ b, b ∉ List.range y.nb → f b = 0) ∧ y.Sch (List.range y.nb) f := by
  have h := foldS_all (y := y) (next := appS) (S := fun s => f ∈ s) (G := fun g => f = g) (fun s g => by unfold appS; rw [List.mem_append, List.mem_singleton]) (L := List.range y.nb) List.pairwise_lt_range []
  refine Iff.trans h ?_
  constructor
  · rintro (h | ⟨g, h1, h2, rfl⟩)
    · cases h
    · exact ⟨h1, h2⟩
  · rintro ⟨h1, h2⟩
    exact .inr ⟨f, h1, h2, rfl⟩
theorem allS_can {y : YardD} : y.canL (List.range y.nb) = true ↔ y.allS ≠ [] := by
  rw [y.canL_iff List.pairwise_lt_range]
  constructor
  · rintro ⟨g, h1, h2⟩ h
    have := mem_allS.2 ⟨h1, h2⟩
    rw [h] at this
    cases this
  · intro h
    obtain ⟨f, hf⟩ := List.exists_mem_of_ne_nil _ h
    exact ⟨f, mem_allS.1 hf⟩
theorem mem_kept {y : YardD} {f : Nat → Int} : f ∈ y.kept ↔ f ∈ y.allS ∧ ∀ p, p < y.nc → y.rgt f p = true := by
  unfold YardD.kept kpS
  rw [List.mem_filter]
  constructor
  · rintro ⟨h1, h2⟩
    exact ⟨h1, not_bad.1 (by simpa using h2)⟩
  · rintro ⟨h1, h2⟩
    exact ⟨h1, by rw [not_bad.2 h2]; rfl⟩
theorem anyW_iff {S : List (Nat → Int)} {b w : Int} : anyW S b w = true ↔ ∃ f ∈ S, f b.toNat = w := by
  unfold anyW
  rw [decide_eq_true_eq]
  have hg : ∀ j, (hj : j < S.length) → S.getD j f0 = S[j] := fun j hj => by rw [List.getD_eq_getElem?_getD, List.getElem?_eq_getElem hj]; rfl
  constructor
  · rintro ⟨i, hi, h⟩
    rw [hg i hi] at h
    exact ⟨_, List.getElem_mem hi, of_decide_eq_true h⟩
  · rintro ⟨f, hf, h⟩
    obtain ⟨i, hi, rfl⟩ := List.getElem_of_mem hf
    exact ⟨i, hi, by rw [hg i hi]; exact decide_eq_true h⟩
theorem mem_wkN {S : List (Nat → Int)} {b lo w : Int} : ∀ n, w ∈ wkN S b lo n ↔ (lo ≤ w ∧ w < lo + (n : Nat)) ∧ anyW S b w = true
  | 0 => by
    constructor
    · intro h; cases h
    · rintro ⟨h, _⟩; omega
  | n + 1 => by
    have ih := mem_wkN (S := S) (b := b) (lo := lo) (w := w) n
    show w ∈ nxW S b (wkN S b lo n) (lo + (n : Nat)) ↔ _
    unfold nxW
    constructor
    · intro h
      split at h
      · rename_i ha
        rcases List.mem_append.1 h with h | h
        · have := ih.1 h
          exact ⟨by omega, this.2⟩
        · rw [List.mem_singleton.1 h]
          exact ⟨by omega, ha⟩
      · have := ih.1 h
        exact ⟨by omega, this.2⟩
    · rintro ⟨h1, h2⟩
      by_cases e : w = lo + (n : Nat)
      · subst e
        rw [if_pos h2]
        exact List.mem_append.2 (.inr (List.mem_singleton.2 rfl))
      · have := ih.2 ⟨by omega, h2⟩
        split
        · exact List.mem_append.2 (.inl this)
        · exact this
end Go.Fz
set_option linter.unusedVariables false
namespace Go.Fz
open Go.Proofs
set_option maxRecDepth 100000
set_option maxHeartbeats 8000000 in
theorem has50_ok (n : Nat) (ex : Bool) (fl : Nat → Int) (x : Int) (hn : n < 1000) : Pure Try.prog 50 [intsV n ex fl, iV x] (.sb (hasN n fl x)) := by
  obtain ⟨O, hO⟩ : ∃ O : Ar, O = std := ⟨_, rfl⟩
  have hnat : ∀ i : Nat, O.nat (Int.ofNat i) = i := fun i => by subst hO; rfl
  refine pure_of_body tok 3 Try.func50 en50 rfl ⟨intsV_below _ _ _, Below.lit, trivial⟩ Below.sb ?_
  refine SW.seqRun tok hO (by cbv <;> rfl) (by trivial) ?_
  refine SW.seq ?_
  refine SW.seqRun tok hO (by cbv <;> rfl) (by trivial) ?_
  refine (SW.block (SW.loopF (fun i : Nat => ⟨⟨18, getT [(0, intsV n ex fl), (1, iV x), (5, iV i)]⟩, []⟩) (fun _ => ⟨[], 0⟩) (fun i => n - i) (fun i => i ≤ n ∧ ∀ j, j < i → fl j ≠ x) 0
    (fun _ => rfl) ⟨Nat.zero_le _, fun j hj => absurd hj (Nat.not_lt_zero _)⟩ (Weak.by rfl rfl (by simp) (Nat.le_refl _) (Nat.le_refl _) ⟨⟨rfl, .inl rfl⟩, ⟨rfl, .inl rfl⟩, ⟨rfl, .inl rfl⟩, trivial⟩ trivial) fun i hi => ?_))
  obtain ⟨hi, hbefore⟩ := hi
  have hni := hnat i
  show SW _ _ _ _ ⟨⟨18, getT [(0, intsV n ex fl), (1, iV x), (5, iV i)]⟩, []⟩ _
  refine SW.seq ?_
  refine SW.seqRun tok hO (by cbv <;> rfl) (by trivial) ?_
  refine SW.condS (by cbv <;> rfl) (fun h => SW.skip ?_) (fun h => SW.exit ?_)
  · have hlt : i < n := by
      have : (i : Int) < (n : Int) := by subst hO; simpa [std] using h
      omega
    have k0 : (0 : Int) ≤ Int.ofNat i := Int.natCast_nonneg i
    have kN : Int.ofNat i < Int.ofNat n := Int.ofNat_lt.2 hlt
    have hbig : i < 4611686018427387904 := Nat.lt_trans hlt (Nat.lt_trans hn (by decide))
    refine SW.seq (SW.block ?_)
    refine SW.seqRun tok hO (by cbv <;> rfl) ?_ ?_
    · exact ⟨k0, kN⟩
    refine SW.condS (by cbv <;> rfl) (fun h2 => ?_) (fun h2 => SW.skip ?_)
    · have he : fl i = x := by
        have h3 : O.cmp .eql (fl (O.nat (Int.ofNat i))) x = true := h2
        rw [hni] at h3
        subst hO; simpa [std] using h3
      refine SW.seqRun tok hO (by cbv <;> rfl) (by trivial) ?_
      refine SW.ret ⟨_, _, rfl, rfl, Eqv.bool ?_⟩
      unfold hasN
      exact (decide_eq_true ⟨i, hlt, he⟩).symm
    · have he : fl i ≠ x := by
        have h3 : O.cmp .eql (fl (O.nat (Int.ofNat i))) x = false := h2
        rw [hni] at h3
        subst hO; simpa [std] using h3
      refine SW.run tok hO (by cbv <;> rfl) (by trivial) ?_
      refine ⟨i + 1, by omega, ⟨by omega, fun j hj => ?_⟩, Weak.by rfl rfl (by simp) (Nat.le_refl _) (Nat.le_refl _) ⟨⟨rfl, .inl rfl⟩, ⟨rfl, .inl rfl⟩, ⟨inc_ok hO hbig, .inl rfl⟩, trivial⟩ trivial⟩
      by_cases e : j = i
      · subst e; exact he
      · exact hbefore j (by omega)
  · have hz : i = n := by
      have : (n : Int) ≤ (i : Int) := by subst hO; simpa [std] using h
      omega
    subst hz
    refine SW.seqRun tok hO (by cbv <;> rfl) (by trivial) ?_
    refine SW.ret ⟨_, _, rfl, rfl, Eqv.bool ?_⟩
    unfold hasN
    exact (decide_eq_false fun ⟨j, hj, h⟩ => hbefore j hj h).symm
end Go.Fz
set_option linter.unusedVariables false
namespace Go.Fz
open Go.Proofs
set_option maxRecDepth 100000
def trueQ3 (fn : Func) : Exit → Fm → St → Prop := retQ T fn (fun v st' => Eqv (frz st'.h (fun _ => true) 3 v) (.lit (.bool true)))
end Go.Fz
set_option linter.unusedVariables false
namespace Go.Fz
open Go.Proofs
set_option maxRecDepth 100000
end Go.Fz
set_option linter.unusedVariables false
namespace Go.Fz
open Go.Proofs
set_option maxRecDepth 100000
theorem any_sees {y : YardD} (hc : y.check = 0) : (y.allS = [] → y.anyE true = 10) ∧ (y.allS ≠ [] → y.anyE true = 0) := by
  refine ⟨fun hs => ?_, fun hs => ?_⟩
  · unfold YardD.anyE
    rw [if_neg (by simp [hc]), if_neg (by simp), if_pos hs]
  · unfold YardD.anyE
    rw [if_neg (by simp [hc]), if_neg (by simp), if_neg hs]
theorem own_sees {y : YardD} (hc : y.check = 0) (hk : y.kept ≠ []) : y.ownE true = 0 := by
  have hs : y.allS ≠ [] := fun h => hk (by unfold YardD.kept kpS; rw [h]; rfl)
  unfold YardD.ownE
  rw [if_neg (by simp [(any_sees hc).2 hs]), if_neg hk]
theorem rem_fin : ∀ (b : Fin 256) (n : Fin 7), 0 < n.1 → 0 ≤ std.bin .rem .i64 (std.conv .i64 (b.1 : Int)) (n.1 : Int) ∧ std.bin .rem .i64 (std.conv .i64 (b.1 : Int)) (n.1 : Int) < (n.1 : Int) := by decide +kernel
theorem rem_rng {b : Int} (b0 : 0 ≤ b) (b1 : b ≤ 255) {n : Nat} (h0 : 0 < n) (h6 : n ≤ 6) : 0 ≤ std.bin .rem .i64 (std.conv .i64 b) (n : Int) ∧ std.bin .rem .i64 (std.conv .i64 b) (n : Int) < (n : Int) := by
  have h := rem_fin ⟨b.toNat, by omega⟩ ⟨n, by omega⟩ h0
  have e : ((b.toNat : Nat) : Int) = b := by omega
  simp only [e] at h
  exact h
theorem wk_small {y : YardD} (hf : y.Fit) {K : Int} (k0 : 0 ≤ K) (k1 : K < y.nb) : (y.wkL K).length < 1000 := by
  have h1 := wkN_len (y.ownL (y.hasB K)) K (y.blo K.toNat) (y.bhi K.toNat - y.blo K.toNat + 1).toNat
  have h2 := hf.beg K.toNat (by omega)
  have h3 : (y.wkL K).length ≤ (y.bhi K.toNat - y.blo K.toNat + 1).toNat := h1
  omega
theorem weeks_sees {y : YardD} (hc : y.check = 0) (hk : y.kept ≠ []) {K : Int} (k0 : 0 ≤ K) (k1 : K < y.nb) : Pure Try.prog 27 [yardV y, iV K] (.tup [zV (y.wkL K), iV 0]) ∧ y.wkL K = wkN y.kept K (y.blo K.toNat) (y.bhi K.toNat - y.blo K.toNat + 1).toNat := by
  have hn := (y.fit_of_check hc).1.nb
  have h5 := (y.fit_of_check hc).2.2.2.2.2.1
  have hb : y.hasB K = true := by
    unfold YardD.hasB
    rw [decide_eq_true k0, decide_eq_true k1]; rfl
  have ho := own_sees hc hk
  have e := weeks_ok y (by omega) (by omega) K
  have e2 : y.wkV K = zV (y.wkL K) := by
    unfold YardD.wkV
    rw [hb, if_pos ho]
  rw [e2, hb, ho] at e
  refine ⟨e, ?_⟩
  unfold YardD.wkL
  rw [hb, (YardD.own_some ho).1]
end Go.Fz
set_option linter.unusedVariables false
namespace Go.Fz
open Go.Proofs
set_option maxRecDepth 100000
def eq6 (f g : Nat → Int) : Bool := decide (f 0 = g 0) && (decide (f 1 = g 1) && (decide (f 2 = g 2) && (decide (f 3 = g 3) && (decide (f 4 = g 4) && decide (f 5 = g 5)))))
set_option maxHeartbeats 8000000 in
theorem index91_ok (S : List (Nat → Int)) (f : Nat → Int) (hn : S.length < 2000000) : Pure Try.prog 91 [lsV6 S, .agg (arrC f)] (iV (fstT (fun i => eq6 f (S.getD i f0)) S.length)) := by
  obtain ⟨O, hO⟩ : ∃ O : Ar, O = std := ⟨_, rfl⟩
  have hnat : ∀ i : Nat, O.nat (Int.ofNat i) = i := fun i => by subst hO; rfl
  unfold lsV6
  obtain ⟨gg, hg⟩ : ∃ g : Nat → Nat → Int, g = fun i k => (S.getD i f0) k := ⟨_, rfl⟩
  rw [show gS S = fun i k => iV (gg i k) by rw [hg]; rfl]
  obtain ⟨p, hp⟩ : ∃ p : Nat → Bool, p = fun i => eq6 f (S.getD i f0) := ⟨_, rfl⟩
  have hpg : ∀ i, p i = eq6 f (gg i) := fun i => by rw [hp, hg]
  rw [← hp]
  obtain ⟨L, hL⟩ : ∃ L, S.length = L := ⟨_, rfl⟩
  rw [hL] at hn ⊢
  refine pure_of_body tok 3 Try.func91 en91 rfl ⟨Below.isl fun i k _ _ => Below.lit, Below.agg (arrC_below f), trivial⟩ Below.lit ?_
  refine SW.seqRun tok hO (by cbv <;> rfl) (by trivial) ?_
  refine SW.seq ?_
  refine SW.seqRun tok hO (by cbv <;> rfl) (by trivial) ?_
  refine (SW.block (SW.loop (fun k f' st' => ∃ (g : Nat → AV) (c : Nat), f' = ⟨⟨19, g⟩, []⟩ ∧ AllP (fun p => g p.1 = p.2) [(0, .isl L 6 false fun i k => iV (gg i k)), (3, .ptr 0 0), (7, iV L), (8, iV c)] ∧ st' = ⟨[(0, .cells none false (arrC f))], 1⟩ ∧ (∀ j, j < c → p j = false) ∧ c ≤ L ∧ k = L - c) (L - 0) ?_ ?_))
  · exact ⟨_, 0, rfl, ⟨rfl, rfl, rfl, rfl, trivial⟩, rfl, (fun j hj => absurd hj (Nat.not_lt_zero j)), Nat.zero_le _, rfl⟩
  · rintro k f' st' ⟨g, c, rfl, ⟨g0', g1, g7, g8, _⟩, rfl, hall, hle, rfl⟩
    simp only at g0' g1 g7 g8
    rw [← updT_self g0', ← updT_self g1, ← updT_self g7, ← updT_self g8]
    refine SW.seqRun tok hO (by cbv <;> rfl) (by trivial) ?_
    refine SW.seq (SW.condS (by cbv <;> rfl) (fun h3 => SW.skip ?_) (fun h3 => SW.exit ?_))
    · have hlt : c < L := by subst hO; simpa [std] using h3
      have hnc : O.nat (Int.ofNat c) = c := hnat c
      have k0 : (0 : Int) ≤ Int.ofNat c := Int.natCast_nonneg c
      have kN : Int.ofNat c < Int.ofNat L := Int.ofNat_lt.2 hlt
      refine SW.seq (SW.block ?_)
      refine SW.seqRun tok hO (by cbv <;> rfl) (by trivial) ?_
      refine SW.seqRunD tok mixed hO (by kernel_rfl) (by cbv <;> rfl) ?_ ?_
      · exact ⟨k0, kN⟩
      refine AnyE.dec tok hO (by kernel_rfl) (by cbv <;> rfl) (by trivial) (fun h4 => ?_) (fun h4 => ?_)
      · have hpc : p c = true := by
          rw [hnc] at h4
          rw [hpg c, ← h4, hO]
          rfl
        refine AnyE.run tok hO (by kernel_rfl) (by cbv <;> rfl) (by trivial) ?_
        refine SW.cond (t := true) (by cbv <;> rfl) ?_
        refine SW.seqRun tok hO (by cbv <;> rfl) (by trivial) ?_
        exact SW.ret ⟨_, _, rfl, rfl, by rw [fstT_hit hlt hpc hall]; exact Eqv.of rfl⟩
      · have hpc : p c = false := by
          rw [hnc] at h4
          rw [hpg c, ← h4, hO]
          rfl
        refine AnyE.run tok hO (by kernel_rfl) (by cbv <;> rfl) (by trivial) ?_
        refine SW.cond (t := false) (by cbv <;> rfl) (SW.skip ?_)
        refine SW.run tok hO (by cbv <;> rfl) (by trivial) ?_
        refine ⟨L - (c + 1), by omega, _, c + 1, rfl, ⟨rfl, rfl, rfl, inc_ok hO (by omega), trivial⟩, rfl, fun j hj => ?_, by omega, rfl⟩
        rcases Nat.lt_succ_iff_lt_or_eq.1 hj with hj | rfl
        · exact hall j hj
        · exact hpc
    · have hge : L ≤ c := by subst hO; simpa [std] using h3
      refine SW.seqRun tok hO (by cbv <;> rfl) (by trivial) ?_
      exact SW.ret ⟨_, _, rfl, rfl, by rw [fstT_none fun j hj => hall j (by omega)]; exact Eqv.of rfl⟩
def hasS (S : List (Nat → Int)) (f : Nat → Int) : Bool := decide (∃ i, i < S.length ∧ eq6 f (S.getD i f0) = true)
theorem contains63_ok (S : List (Nat → Int)) (f : Nat → Int) (hn : S.length < 2000000) : Pure Try.prog 63 [lsV6 S, .agg (arrC f)] (.sb (hasS S f)) := by
  obtain ⟨O, hO⟩ : ∃ O : Ar, O = std := ⟨_, rfl⟩
  have e1 := index91_ok S f hn
  have hq : decide (0 ≤ fstT (fun i => eq6 f (S.getD i f0)) S.length) = hasS S f := fstT_any _ _
  rw [← hq]
  obtain ⟨r, hr⟩ : ∃ r, fstT (fun i => eq6 f (S.getD i f0)) S.length = r := ⟨_, rfl⟩
  rw [hr] at e1 ⊢
  unfold lsV6 at e1 ⊢
  refine pure_of_body tok 3 Try.func63 en63 rfl ⟨Below.isl fun i k _ _ => gS_below S i k, Below.agg (arrC_below f), trivial⟩ Below.sb ?_
  refine SW.seqRun tok hO (by cbv <;> rfl) (by trivial) ?_
  refine SW.seqRun tok hO (by cbv <;> rfl) (by trivial) ?_
  refine OpsW.callP e1 (by cbv <;> rfl) ?_
  refine OpsW.run tok hO (by cbv <;> rfl) (by trivial) ?_
  refine SW.ret ⟨_, _, rfl, rfl, Eqv.sb ?_⟩
  subst hO; rfl
end Go.Fz
set_option linter.unusedVariables false
namespace Go.Fz
open Go.Proofs
set_option maxRecDepth 100000
section
variable {P : Program} {T : Ti}
theorem cut_isl {φ : Fi} {n m sz : Nat} {ex : Bool} {g : Nat → Nat → AV} {v : Value} (h : VR φ (.isl n sz ex g) v) (hm : m ≤ n) : ∃ (a : Option Addr) (cap : Nat) (v' : Value), v = .slice a n cap ∧ v' = .slice a m cap ∧ VR φ (.isl m sz false g) v' := by
  rcases h.isl_inv with ⟨rfl, rfl⟩ | ⟨b, o, cap, c, us, rfl, hz, hcc, hus, hcap, _⟩
  · obtain rfl : m = 0 := by omega
    exact ⟨none, 0, _, rfl, rfl, .isl0 _ _ _⟩
  · exact ⟨_, cap, _, rfl, rfl, .isl m sz false g b o cap c us hz (fun i k hi hk => hcc i k (by omega) hk) (fun i k hi hk => hus i k (by omega) hk) (by omega) (fun h => by cases h)⟩
theorem OpsW.copyG (hT : TOk P T) {rd : Option Nat} {ops : Array Oper} {K : Fm → St → Prop} {f : Fm} {st : St} {j : Nat} {l : List Nat} {t id off len sz n : Nat} {ex ex' : Bool} {g : Nat → Nat → AV} {G : List AV}
    (ha : cpyAt ops j f = some (t, .sl id off len sz ex, .isl n sz ex' g)) (hb : sliceB T t sz = true) (hx : st.h.get id = some (.cells none false G)) (hl : off + len * sz ≤ G.length) (hone : (flatG sz g (Nat.min n len)).all AV.one = true)
    (h : OpsW P rd ops l K (putAt ops j f (.lit (goInt (Nat.min n len)))) ⟨st.h.set id (.cells none false (setsL G off (flatG sz g (Nat.min n len)))), st.n⟩) : OpsW P rd ops (j :: l) K f st := by
  obtain ⟨ti, tj, e, h1, h2, h3, h4, h5, h6, h7, h8⟩ := sliceB_ok hb
  unfold cpyAt at ha
  split at ha
  · cases ha
  · rename_i o ho
    split at ha
    · rename_i hw
      split at ha
      · rename_i c hop
        split at ha
        · rename_i d s t' t'' hc hargs htys
          simp only [Option.some.injEq, Prod.mk.injEq] at ha
          obtain ⟨rfl, hd, hs⟩ := ha
          have ha' : c.args = #[d, s] := by cases hq : c.args; simp_all
          have ht' : c.argTypes = #[t', t''] := by cases hq : c.argTypes; simp_all
          have hput : ∀ v, putAt ops j f v = f.put o.dst v := fun v => by simp [putAt, ho]
          rw [hput] at h
          have hmin : Nat.min n len ≤ n := Nat.min_le_left _ _
          have hmin2 : Nat.min n len ≤ len := Nat.min_le_right _ _
          refine OpsW.value ho hw (fun c hc => by rw [hop] at hc; cases hc) (fun φ w a k2 k3 => ?_) h
          have hdd := opR_of k3.ts d
          have hss := opR_of k3.ts s
          rw [hd] at hdd
          rw [hs] at hss
          obtain ⟨cap', hv', _, _, _, _⟩ := hdd.sl_inv
          obtain ⟨ad, cap, v', e1, e2, e3⟩ := cut_isl hss hmin
          obtain ⟨a3, cap3, us, e4, _, e5, e6, e7⟩ := slCells_ok (P := P) (st := st) (w := w) k2 (sz := sz) (cs := flatG sz g (Nat.min n len)) e3 (by
            show (if sz = sz ∧ sz ≠ 0 then some (flatG sz g (Nat.min n len)) else none) = _
            rw [if_pos ⟨rfl, h5⟩])
          have hfc := e7 _ rfl w (Same.refl _ _ _)
          have hlen : (flatG sz g (Nat.min n len)).length ≤ len * sz := by
            rw [flatG_length]; exact Nat.mul_le_mul_right _ hmin2
          obtain ⟨w', q1, q2, q3⟩ := sets_ok (P := P) (off := off) k2 hx e5 hone (Nat.le_trans (Nat.add_le_add_left hlen off) hl)
          refine ⟨φ, w', goInt (Nat.min n len), .inl ?_, .lit _, q2, Ext.refl _, q3⟩
          have hsl : slLen (AV.isl (Nat.min n len) sz false g) = Nat.min n len := rfl
          rw [hsl] at hfc
          have hfc2 : (Builtin.firstCells sz (Nat.min n len) (.slice ad n cap)).run P w = .ok us.toArray w := by
            rw [← hfc, e2]
            cases ad <;> rfl
          have hcp : (Builtin.copy_ #[t', t''] o.type #[a.eval d, a.eval s]).run P w = .ok (goInt (Nat.min n len)) w' := by
            rw [hv', e1]
            simp only [Builtin.copy_, List.getElem?_toArray, List.getElem?_cons_zero, List.getElem?_cons_succ, Sem.run_bind, run_und hT h1, h2, Result.andThen, Sem.run_pure, Builtin.lenOf, run_size hT h3, h4, hfc2, q1]
          simp [execOp, hop, resolve, hc, ha', ht', invoke, builtin, hcp, Result.andThen]
        · cases ha
      · cases ha
    · cases ha
theorem OpsW.copyE (hT : TOk P T) {rd : Option Nat} {ops : Array Oper} {K : Fm → St → Prop} {f : Fm} {st : St} {j : Nat} {l : List Nat} {t id off len sz n : Nat} {ex ex' : Bool} {g : Nat → Nat → AV} {G : List AV}
    (ha : cpyAt ops j f = some (t, .sl id off len sz ex, .isl n sz ex' g)) (hb : sliceB T t sz = true) (hx : st.h.get id = some (.cells none false G)) (hl : off + len * sz ≤ G.length) (hone : (flatG sz g (Nat.min n len)).all AV.one = true)
    (h : ∀ G', G' = setsL G off (flatG sz g (Nat.min n len)) → OpsW P rd ops l K (putAt ops j f (.lit (goInt (Nat.min n len)))) ⟨st.h.set id (.cells none false G'), st.n⟩) : OpsW P rd ops (j :: l) K f st :=
  OpsW.copyG hT ha hb hx hl hone (h _ rfl)
end
end Go.Fz
set_option linter.unusedVariables false
namespace Go.Fz
open Go.Proofs
set_option maxRecDepth 100000
def keyF (n : Nat) (fl : Nat → Int) : Nat → Int := fun j => if j < Nat.min n 6 then fl j else 0
theorem key_sets (n : Nat) (fl : Nat → Int) : setsL [iV 0, iV 0, iV 0, iV 0, iV 0, iV 0] 0 (flatG 1 (intC fl) (Nat.min n 6)) = arrC (keyF n fl) := by
  unfold arrC keyF
  have h : Nat.min n 6 ≤ 6 := Nat.min_le_right _ _
  generalize Nat.min n 6 = m at h
  match m, h with
  | 0, _ => rfl
  | 1, _ => rfl
  | 2, _ => rfl
  | 3, _ => rfl
  | 4, _ => rfl
  | 5, _ => rfl
  | 6, _ => rfl
theorem flat_one (fl : Nat → Int) : ∀ m, (flatG 1 (intC fl) m).all AV.one = true
  | 0 => rfl
  | m + 1 => by
    show (flatG 1 (intC fl) m ++ [iV (fl m)]).all AV.one = true
    rw [List.all_append, flat_one fl m]
    rfl
def YardD.psB (y : YardD) (n : Nat) (fl : Nat → Int) : Bool := decide (y.ownE (decide (n = y.nb)) = 0) && hasS (y.ownL (decide (n = y.nb))) (keyF n fl)
set_option maxHeartbeats 8000000 in
theorem proveSch_ok (y : YardD) (hb : y.nb < 1000000) (hc : y.nc < 1000000) (n : Nat) (ex : Bool) (fl : Nat → Int) (hn : n < 1000) : Pure Try.prog 21 [yardV y, intsV n ex fl] (.sb (y.psB n fl)) := by
  obtain ⟨O, hO⟩ : ∃ O : Ar, O = std := ⟨_, rfl⟩
  have hB : O.cmp .eql (Int.ofNat n) (Int.ofNat y.nb) = decide (n = y.nb) := by
    rw [hO]
    show decide ((n : Int) = (y.nb : Int)) = decide (n = y.nb)
    exact decide_eq_decide.2 Int.ofNat_inj
  have hq : y.psB n fl = (decide (y.ownE (decide (n = y.nb)) = 0) && hasS (y.ownL (decide (n = y.nb))) (keyF n fl)) := rfl
  rw [← hB] at hq
  have hlen : ∀ B, y.ownE B = 0 → (y.ownL B).length < 2000000 := fun B h => by
    obtain ⟨k1, _, k3⟩ := YardD.own_some h
    rw [k1]
    have k4 := YardD.any_len k3
    have k5 : y.kept.length ≤ y.allS.length := List.length_filter_le _ _
    omega
  have e60 := own_ok y hb hc (O.cmp .eql (Int.ofNat n) (Int.ofNat y.nb))
  have e63 := fun h => contains63_ok (y.ownL (O.cmp .eql (Int.ofNat n) (Int.ofNat y.nb))) (keyF n fl) (hlen (O.cmp .eql (Int.ofNat n) (Int.ofNat y.nb)) h)
  have hkey := key_sets n fl
  generalize y.psB n fl = Q at hq ⊢
  clear hlen hB
  obtain ⟨KF, hKF⟩ : ∃ f, keyF n fl = f := ⟨_, rfl⟩
  rw [hKF] at hq e63 hkey
  obtain ⟨S, hS⟩ : ∃ S, y.ownL (O.cmp .eql (Int.ofNat n) (Int.ofNat y.nb)) = S := ⟨_, rfl⟩
  rw [hS] at hq e60 e63
  obtain ⟨E, hE⟩ : ∃ E, y.ownE (O.cmp .eql (Int.ofNat n) (Int.ofNat y.nb)) = E := ⟨_, rfl⟩
  rw [hE] at hq e60 e63
  obtain ⟨H, hH⟩ : ∃ H, hasS S KF = H := ⟨_, rfl⟩
  rw [hH] at hq e63
  unfold lsV6 at e60 e63
  refine pure_of_body tok 3 Try.func21 en21 rfl ⟨yardV_below y, intsV_below _ _ _, trivial⟩ Below.sb ?_
  refine SW.seqRun tok hO (by cbv <;> rfl) (by trivial) ?_
  refine SW.seqRun tok hO (by cbv <;> rfl) (by trivial) ?_
  refine OpsW.callP e60 (by cbv <;> rfl) ?_
  refine OpsW.run tok hO (by cbv <;> rfl) (by trivial) ?_
  refine SW.seqRun tok hO (by cbv <;> rfl) (by trivial) ?_
  refine SW.seqRun tok hO (by cbv <;> rfl) (by trivial) ?_
  refine OpsW.wholeArr (n := 6) (sz := 1) tok (by rfl) (by kernel_rfl) (by rfl) (by simp) ?_
  refine OpsW.run tok hO (by cbv <;> rfl) (by trivial) ?_
  refine OpsW.copyE tok (by rfl) (by kernel_rfl) (by rfl) (by simp) (flat_one fl _) fun G' hG' => ?_
  have hG := hG'.trans hkey
  subst hG
  refine OpsW.run tok hO (by cbv <;> rfl) (by trivial) ?_
  refine SW.seqRun tok hO (by cbv <;> rfl) (by trivial) ?_
  refine OpsW.splitG (by cbv <;> rfl) (fun h => ?_) (fun h => ?_)
  · have hz : E = 0 := by subst hO; simpa [std] using h
    have e63 := e63 hz
    refine OpsW.run tok hO (by cbv <;> rfl) (by trivial) ?_
    refine OpsW.callP e63 (by cbv <;> rfl) ?_
    refine OpsW.run tok hO (by cbv <;> rfl) (by trivial) ?_
    refine SW.ret ⟨_, _, rfl, rfl, Eqv.sb ?_⟩
    rw [hq, decide_eq_true hz]
    rfl
  · have hz : ¬ E = 0 := by subst hO; simpa [std] using h
    refine OpsW.run tok hO (by cbv <;> rfl) (by trivial) ?_
    refine SW.ret ⟨_, _, rfl, rfl, Eqv.bool ?_⟩
    rw [hq, decide_eq_false hz]
    rfl
end Go.Fz
set_option linter.unusedVariables false
namespace Go.Fz
open Go.Proofs
set_option maxRecDepth 100000
end Go.Fz
set_option linter.unusedVariables false
namespace Go.Fz
open Go.Proofs
set_option maxRecDepth 100000
theorem someB_iff {b : Nat → Bool} {x : Bool} {n : Nat} : someB b x n = true ↔ ∃ i, i < n ∧ b i = x := by
  unfold someB
  rw [decide_eq_true_eq, bmP_mem]
theorem vd_range (b : Nat → Bool) (n : Nat) : verdict b n = 1 ∨ verdict b n = 2 ∨ verdict b n = 3 := by
  unfold verdict
  split
  · exact .inl rfl
  · split
    · exact .inr (.inl rfl)
    · exact .inr (.inr rfl)
theorem empty_sees {y : YardD} (hc : y.check = 0) (hk : y.kept ≠ []) {K w : Int} (k0 : 0 ≤ K) (k1 : K < y.nb) (w0 : 0 ≤ w) (w1 : w ≤ y.last) : Pure Try.prog 28 [yardV y, iV K, iV w] (.tup [iV (verdict (fun i => y.emB K.toNat w (y.kept.getD i f0)) y.kept.length), iV 0]) := by
  have hn := (y.fit_of_check hc).1.nb
  have h5 := (y.fit_of_check hc).2.2.2.2.2.1
  have hb : y.emR K w = true := by
    unfold YardD.emR YardD.hasB YardD.hasWk
    rw [decide_eq_true k0, decide_eq_true k1, decide_eq_true w0, decide_eq_true w1]; rfl
  have ho := own_sees hc hk
  have e := empty_ok y (by omega) (by omega) K w
  have e2 : y.emV K w = verdict (fun i => y.emB K.toNat w (y.kept.getD i f0)) y.kept.length := by
    unfold YardD.emV
    rw [hb, if_pos ho, (YardD.own_some ho).1]
  rw [e2, hb, ho] at e
  exact e
theorem week_fin : ∀ (b : Fin 256) (n : Fin 10), 0 ≤ std.bin .rem .i64 (std.conv .i64 (b.1 : Int)) (std.bin .add .i64 (n.1 : Int) 1) ∧ std.bin .rem .i64 (std.conv .i64 (b.1 : Int)) (std.bin .add .i64 (n.1 : Int) 1) ≤ (n.1 : Int) := by decide +kernel
theorem week_rng {b n : Int} (b0 : 0 ≤ b) (b1 : b ≤ 255) (n0 : 0 ≤ n) (n9 : n ≤ 9) : 0 ≤ std.bin .rem .i64 (std.conv .i64 b) (std.bin .add .i64 n 1) ∧ std.bin .rem .i64 (std.conv .i64 b) (std.bin .add .i64 n 1) ≤ n := by
  have h := week_fin ⟨b.toNat, by omega⟩ ⟨n.toNat, by omega⟩
  have e : ((b.toNat : Nat) : Int) = b := by omega
  have e2 : ((n.toNat : Nat) : Int) = n := by omega
  simp only [e, e2] at h
  exact h
end Go.Fz
set_option linter.unusedVariables false
namespace Go.Fz
open Go.Proofs
set_option maxRecDepth 100000
theorem add1I {O : Ar} (hO : O = std) {i : Int} (h0 : 0 ≤ i) (h : i < 1000) : O.bin .add .i64 i 1 = i + 1 := by
  subst hO
  show add64 i 1 = _
  exact add64_in _ _ (by omega) (by omega)
theorem add1Z {O : Ar} (hO : O = std) {i : Int} (h0 : 0 ≤ i) (h : i ≤ 9) : O.bin .add .i64 i 1 ≠ 0 := by
  rw [add1I hO h0 (by omega)]
  omega
end Go.Fz
set_option linter.unusedVariables false
namespace Go.Fz
open Go.Proofs
set_option maxRecDepth 100000
end Go.Fz
set_option linter.unusedVariables false
namespace Go.Fz
open Go.Proofs
set_option maxRecDepth 100000
end Go.Fz
set_option linter.unusedVariables false
namespace Go.Fz
open Go.Proofs
set_option maxRecDepth 100000
def lessF (n : Nat) (f : Nat → Int) : Nat → Int := fun b => if b < n then f b else 0
theorem lessF_lt {n b : Nat} {f : Nat → Int} (h : b < n) : lessF n f b = f b := if_pos h
theorem own_range {y : YardD} (hc : y.check = 0) : (y.ownE true = 0 ∧ y.kept ≠ []) ∨ y.ownE true = 9 ∨ y.ownE true = 10 := by
  by_cases hs : y.allS = []
  · refine .inr (.inr ?_)
    unfold YardD.ownE
    rw [if_pos (by rw [(any_sees hc).1 hs]; decide), (any_sees hc).1 hs]
  · by_cases hk : y.kept = []
    · refine .inr (.inl ?_)
      unfold YardD.ownE
      rw [if_neg (by simp [(any_sees hc).2 hs]), if_pos hk]
    · exact .inl ⟨own_sees hc hk, hk⟩
end Go.Fz
set_option linter.unusedVariables false
namespace Go.Fz
open Go.Proofs
set_option maxRecDepth 100000
theorem size_in {lo hi : Int} (h : 0 ≤ lo ∧ lo ≤ hi ∧ hi ≤ 9) : size64 lo hi = hi - lo + 1 := by
  unfold size64
  rw [sub64_in _ _ (by omega) (by omega), add64_in _ _ (by omega) (by omega)]
theorem prN_le {lo hi lo' hi' : Nat → Int} {n : Nat} (hn : n ≤ 6) (hr : ∀ i, i < n → 0 ≤ lo i ∧ lo i ≤ hi i ∧ hi i ≤ 9) (hr' : ∀ i, i < n → 0 ≤ lo' i ∧ lo' i ≤ hi' i ∧ hi' i ≤ 9) (hle : ∀ i, i < n → hi' i - lo' i ≤ hi i - lo i) : ∀ i, i ≤ n → 1 ≤ prN lo' hi' i ∧ prN lo' hi' i ≤ prN lo hi i ∧ prN lo hi i ≤ 10 ^ i
  | 0, _ => ⟨Int.le_refl _, Int.le_refl _, Int.le_refl _⟩
  | i + 1, hi' => by
    obtain ⟨a1, a2, a3⟩ := prN_le hn hr hr' hle i (by omega)
    have hp : (10 : Int) ^ i ≤ 1000000 ∧ 1 ≤ (10 : Int) ^ i := ten_pow ⟨i, by omega⟩
    have r1 := hr i (by omega)
    have r2 := hr' i (by omega)
    have r3 := hle i (by omega)
    have e1 : prN lo hi (i + 1) = mul64 (prN lo hi i) (size64 (lo i) (hi i)) := rfl
    have e2 : ∀ a b : Nat → Int, prN a b (i + 1) = mul64 (prN a b i) (size64 (a i) (b i)) := fun _ _ => rfl
    rw [e2, e2, size_in r1, size_in r2]
    rename_i hi2
    obtain ⟨s, hs⟩ : ∃ s, hi i - lo i + 1 = s := ⟨_, rfl⟩
    obtain ⟨s', hs'⟩ : ∃ s', hi2 i - lo' i + 1 = s' := ⟨_, rfl⟩
    rw [hs, hs']
    obtain ⟨p, hpp⟩ : ∃ p, prN lo hi i = p := ⟨_, rfl⟩
    obtain ⟨p', hpp'⟩ : ∃ p', prN lo' hi2 i = p' := ⟨_, rfl⟩
    rw [hpp] at a2 a3
    rw [hpp'] at a1 a2
    rw [hpp, hpp']
    have hs1 : 1 ≤ s ∧ s ≤ 10 := by omega
    have hs2 : 1 ≤ s' ∧ s' ≤ s := by omega
    have b1 : p' * s' ≤ p * s := Int.mul_le_mul a2 hs2.2 (by omega) (by omega)
    have b2 : p * s ≤ 10 ^ i * 10 := Int.mul_le_mul a3 hs1.2 (by omega) (by omega)
    have b3 : 1 * 1 ≤ p' * s' := Int.mul_le_mul a1 hs2.1 (by omega) (by omega)
    have b4 : (10 : Int) ^ i * 10 ≤ 10000000 := by omega
    rw [mul64_in _ _ (by omega) (by omega), mul64_in _ _ (by omega) (by omega), Int.pow_succ]
    exact ⟨by omega, b1, b2⟩
theorem eq6_refl (f : Nat → Int) : eq6 f f = true := by
  unfold eq6
  simp
theorem key_self {n : Nat} (hn : n ≤ 6) {f : Nat → Int} (hf : ∀ b, b ∉ List.range n → f b = 0) {S : List (Nat → Int)} (hS : f ∈ S) : hasS S (keyF n f) = true := by
  obtain ⟨i, hi, e⟩ := List.getElem_of_mem hS
  refine decide_eq_true ⟨i, hi, ?_⟩
  have hg : S.getD i f0 = f := by rw [List.getD_eq_getElem?_getD, List.getElem?_eq_getElem hi]; exact e
  rw [hg]
  have hk : ∀ j, keyF n f j = f j := fun j => by
    unfold keyF
    have : Nat.min n 6 = n := Nat.min_eq_left hn
    rw [this]
    split
    · rfl
    · rename_i h
      exact (hf j fun hm => h (List.mem_range.1 hm)).symm
  rw [show keyF n f = f from funext hk]
  exact eq6_refl f
theorem first_mem {y : YardD} (h : y.ownE true = 0) : y.firstS true ∈ y.kept := by
  unfold YardD.firstS
  obtain ⟨h1, h2, _⟩ := YardD.own_some h
  rw [h1]
  have hp := List.length_pos_iff.2 h2
  rw [List.getD_eq_getElem?_getD, List.getElem?_eq_getElem hp]
  exact List.getElem_mem hp
end Go.Fz
set_option linter.unusedVariables false
namespace Go.Fz
open Go.Proofs
set_option maxRecDepth 100000
end Go.Fz
set_option linter.unusedVariables false
namespace Go.Fz
open Go.Proofs
set_option maxRecDepth 100000
end Go.Fz
set_option linter.unusedVariables false
namespace Go.Fz
open Go.Proofs
set_option maxRecDepth 100000
end Go.Fz
set_option linter.unusedVariables false
namespace Go.Fz
open Go.Proofs
set_option maxRecDepth 100000
end Go.Fz
set_option linter.unusedVariables false
namespace Go.Fz
open Go.Proofs
set_option maxRecDepth 100000
theorem kept_none {y : YardD} (h : y.ownE true = 9 ∨ y.ownE true = 10) (hc : y.check = 0) : y.kept = [] := by
  by_cases hk : y.kept = []
  · exact hk
  · have := own_sees hc hk
    omega
theorem kept_rng {y : YardD} {f : Nat → Int} (hf : f ∈ y.kept) {k : Nat} (hk : k < y.nb) : y.blo k ≤ f k ∧ f k ≤ y.bhi k :=
  (mem_allS.1 (mem_kept.1 hf).1).2.rng k (List.mem_range.2 hk)
theorem wk_has {y : YardD} (hc : y.check = 0) {k : Nat} (hk : k < y.nb) : ∃ (na : Nat) (fa : Nat → Int), na < 1000 ∧ Pure Try.prog 27 [yardV y, iV (k : Int)] (.tup [intsV na false fa, iV (y.ownE true)]) ∧ ∀ w, hasN na fa w = true ↔ ∃ f ∈ y.kept, f k = w := by
  have hfit := (y.fit_of_check hc).1
  have hn := hfit.nb
  have h5 := (y.fit_of_check hc).2.2.2.2.2.1
  have hkn : ((k : Int)).toNat = k := rfl
  rcases own_range hc with ⟨ho, hky⟩ | ho
  · obtain ⟨e, w1⟩ := weeks_sees hc hky (K := (k : Int)) (Int.natCast_nonneg k) (Int.ofNat_lt.2 hk)
    have hs := wk_small hfit (K := (k : Int)) (Int.natCast_nonneg k) (Int.ofNat_lt.2 hk)
    refine ⟨(y.wkL k).length, fun j => (y.wkL k).getD j 0, hs, by rw [ho]; exact e, fun w => ?_⟩
    have hg : ∀ j, (hj : j < (y.wkL k).length) → (y.wkL k).getD j 0 = (y.wkL k)[j] := fun j hj => by rw [List.getD_eq_getElem?_getD, List.getElem?_eq_getElem hj]; rfl
    have hm : hasN (y.wkL k).length (fun j => (y.wkL k).getD j 0) w = true ↔ w ∈ y.wkL k := by
      unfold hasN
      rw [decide_eq_true_eq]
      constructor
      · rintro ⟨i, hi, e⟩
        have e : (y.wkL k).getD i 0 = w := e
        rw [hg i hi] at e
        rw [← e]
        exact List.getElem_mem hi
      · intro h
        obtain ⟨i, hi, e⟩ := List.getElem_of_mem h
        exact ⟨i, hi, (hg i hi).trans e⟩
    rw [hm, w1, mem_wkN, anyW_iff, hkn]
    constructor
    · rintro ⟨_, h⟩; exact h
    · rintro ⟨f, hf, e⟩
      have hr := kept_rng hf hk
      refine ⟨?_, f, hf, e⟩
      have hp := hfit.beg k hk
      omega
  · have hke := kept_none ho hc
    have e := weeks_ok y (by omega) (by omega) (k : Int)
    have hb : y.hasB (k : Int) = true := by
      unfold YardD.hasB
      rw [decide_eq_true (Int.natCast_nonneg k), decide_eq_true (Int.ofNat_lt.2 hk)]; rfl
    have hv : y.wkV (k : Int) = nl3 := by
      unfold YardD.wkV
      rw [hb, if_neg (by omega)]
    rw [hv, hb] at e
    refine ⟨0, fun _ => 0, by omega, e.res (Eqv.tup (.cons Eqv.nil (.cons (Eqv.refl _) .nil))), fun w => ?_⟩
    rw [hke]
    unfold hasN
    rw [decide_eq_true_eq]
    constructor
    · rintro ⟨i, hi, _⟩; omega
    · rintro ⟨f, hf, _⟩; cases hf
end Go.Fz
set_option linter.unusedVariables false
namespace Go.Fz
open Go.Proofs
set_option maxRecDepth 100000
def YardD.eR (y : YardD) (f : Nat → Int) (i : Nat) (w : Int) : Bool := decide (0 ≤ f i) && inB w (f i) (sub64 (add64 (f i) (y.lng i)) 1)
set_option maxHeartbeats 8000000 in
theorem isEmpty_ok (y : YardD) (n : Nat) (ex : Bool) (f : Nat → Int) (K w : Int) (k0 : 0 ≤ K) (k1 : K < (n : Int)) (k2 : K < (y.nb : Int)) : Pure Try.prog 49 [yardV y, intsV n ex f, iV K, iV w] (.sb (y.eR f K.toNat w)) := by
  obtain ⟨O, hO⟩ : ∃ O : Ar, O = std := ⟨_, rfl⟩
  have hnk : O.nat K = K.toNat := by subst hO; rfl
  have hin : 0 ≤ K ∧ K < Int.ofNat n := ⟨k0, k1⟩
  have hib : 0 ≤ K ∧ K < Int.ofNat y.nb := ⟨k0, k2⟩
  have he : y.eR f K.toNat w = (decide (0 ≤ f (O.nat K)) && inB w (f (O.nat K)) (O.bin .sub .i64 (O.bin .add .i64 (f (O.nat K)) (y.lng (O.nat K))) 1)) := by rw [hnk]; subst hO; rfl
  have e29 := in_ok w (f (O.nat K)) (O.bin .sub .i64 (O.bin .add .i64 (f (O.nat K)) (y.lng (O.nat K))) 1)
  obtain ⟨B, hB⟩ : ∃ B, inB w (f (O.nat K)) (O.bin .sub .i64 (O.bin .add .i64 (f (O.nat K)) (y.lng (O.nat K))) 1) = B := ⟨_, rfl⟩
  rw [hB] at he e29
  clear hB
  generalize y.eR f K.toNat w = Q at he ⊢
  refine pure_of_body tok 3 Try.func49 en49 rfl ⟨yardV_below y, intsV_below _ _ _, Below.lit, Below.lit, trivial⟩ Below.sb ?_
  refine SW.seqRun tok hO (by cbv <;> rfl) (by trivial) ?_
  refine SW.seqRunD tok mixed hO (by kernel_rfl) (by cbv <;> rfl) (by repeat (first | exact trivial | exact hin | exact hib | refine ⟨?_, ?_⟩)) ?_
  refine AnyE.dec tok hO (by kernel_rfl) (by cbv <;> rfl) (by trivial) (fun h2 => ?_) (fun h2 => ?_)
  · have hp : 0 ≤ f (O.nat K) := by subst hO; simpa [std] using h2
    rw [decide_eq_true hp, Bool.true_and] at he
    refine AnyE.runN tok hO 6 (by kernel_rfl) (by cbv <;> rfl) (by repeat (first | exact trivial | exact hin | exact hib | refine ⟨?_, ?_⟩)) ?_
    refine AnyE.runN tok hO 6 (by kernel_rfl) (by cbv <;> rfl) (by repeat (first | exact trivial | exact hin | exact hib | refine ⟨?_, ?_⟩)) ?_
    refine AnyE.run tok hO (by kernel_rfl) (by cbv <;> rfl) (by repeat (first | exact trivial | exact hin | exact hib | refine ⟨?_, ?_⟩)) ?_
    refine AnyE.callP e29 (by cbv <;> rfl) (by cbv <;> rfl) ?_
    refine AnyE.run tok hO (by kernel_rfl) (by cbv <;> rfl) (by trivial) ?_
    exact SW.ret ⟨_, _, rfl, rfl, Eqv.sb he.symm⟩
  · have hp : ¬ 0 ≤ f (O.nat K) := by subst hO; simpa [std] using h2
    rw [decide_eq_false hp, Bool.false_and] at he
    refine AnyE.runN tok hO 6 (by kernel_rfl) (by cbv <;> rfl) (by trivial) ?_
    refine AnyE.runN tok hO 6 (by kernel_rfl) (by cbv <;> rfl) (by trivial) ?_
    refine AnyE.run tok hO (by kernel_rfl) (by cbv <;> rfl) (by trivial) ?_
    exact SW.ret ⟨_, _, rfl, rfl, Eqv.bool he.symm⟩
end Go.Fz
