/- Own work of the verifier of watercress: Lb4, Lb5, Lb6, Lb7, Lb8, FzCn1, FzCn2, FzCn4, FzCh1, FzCh2, FzCh3, FzCh4, FzCh5, FzEs1, FzCp, FzEs2, FzCm2, FzCm3, FzCm4, FzCm5, FzOn1, FzOn2, FzEa1, FzEa2, FzEa3, FzCn5, FzCn6, FzEa4, FzRf1, FzRf2, FzRf3, FzTd1. -/
import Derived.ChangeKeysEq
import Derived.Laws.AppendOwn
import Derived.Laws.Cells
import Derived.Laws.CopyRow
import Derived.Laws.Entries
import Derived.Laws.NewFold
import Derived.Laws.Sem
import Derived.Laws.Small
import Derived.Laws.StructEq
import Derived.Laws.Tables
import Derived.Laws.World
import Derived.OrdersHeld
import Derived.OrdersIn
import Derived.RangeFuncLeaves
import Derived.RangeFuncRecord
import Derived.Shelf.Abstract
import Derived.Test.YtcjekdfncnmbfaaNa0
import Derived.Test.YtcjekdfncnmbfaaNa1
import Derived.Test.YtcjekdfncnmbfaaNa2
import Derived.Test.YtcjekdfncnmbfaaNa3
import Derived.Test.YtcjekdfncnmbfaaProg
import Derived.Test.YtcjekdfncnmbfaaNa4
import Derived.Below
import Derived.CallsIn
import Derived.Carry
import Derived.ChangeSame
import Derived.Deep.Slices
import Derived.JoinedCond
import Derived.Laws.Cover3
import Derived.Lib.SmallJoins
import Derived.OpenShut
import Derived.ProofKit
import Derived.WalkKit
import Derived.WideKeyArgs
import Derived.Test.YtcjekdfncnmbfaaRows
import Derived.Test.YtcjekdfncnmbfaaNa5
import Derived.DeepKeys4
import Derived.Maps.Keyed
import Derived.Maps.RangeRun
import Derived.Test.YtcjekdfncnmbfaaNa6
import Derived.Test.YtcjekdfncnmbfaaNa7
import Derived.Test.YtcjekdfncnmbfaaNa8
import Derived.Test.YtcjekdfncnmbfaaNa10
import Derived.Test.YtcjekdfncnmbfaaNa11
import Derived.Test.YtcjekdfncnmbfaaNa13
import Derived.Test.YtcjekdfncnmbfaaNa16
import Derived.Test.YtcjekdfncnmbfaaNa14
import Derived.Test.YtcjekdfncnmbfaaNa18
import Derived.Test.YtcjekdfncnmbfaaNa15
import Derived.Test.YtcjekdfncnmbfaaNa19
import Derived.Test.YtcjekdfncnmbfaaNa20
import Derived.Test.YtcjekdfncnmbfaaNa22
import Derived.Test.YtcjekdfncnmbfaaNa12
import Derived.Test.YtcjekdfncnmbfaaNa17
import Derived.Test.YtcjekdfncnmbfaaNa9
set_option linter.unusedVariables false
set_option linter.unusedSimpArgs false
namespace Go.Fz
open Go.Proofs
theorem en4 : Enters Try.prog 4 := fun args w => Go.Proofs.enters_of Try.func4 (by kernel_rfl) rfl args w
theorem en26 : Enters Try.prog 26 := fun args w => Go.Proofs.enters_of Try.func26 (by kernel_rfl) rfl args w
theorem en31 : Enters Try.prog 31 := fun args w => Go.Proofs.enters_of Try.func31 (by kernel_rfl) rfl args w
theorem en32 : Enters Try.prog 32 := fun args w => Go.Proofs.enters_of Try.func32 (by kernel_rfl) rfl args w
theorem en42 : Enters Try.prog 42 := fun args w => Go.Proofs.enters_of Try.func42 (by kernel_rfl) rfl args w
theorem en46 : Enters Try.prog 46 := fun args w => Go.Proofs.enters_of Try.func46 (by kernel_rfl) rfl args w
theorem en49 : Enters Try.prog 49 := fun args w => Go.Proofs.enters_of Try.func49 (by kernel_rfl) rfl args w
theorem en55 : Enters Try.prog 55 := fun args w => Go.Proofs.enters_of Try.func55 (by kernel_rfl) rfl args w
theorem en67 : Enters Try.prog 67 := fun args w => Go.Proofs.enters_of Try.func67 (by kernel_rfl) rfl args w
theorem en68 : Enters Try.prog 68 := fun args w => Go.Proofs.enters_of Try.func68 (by kernel_rfl) rfl args w
theorem en69 : Enters Try.prog 69 := fun args w => Go.Proofs.enters_of Try.func69 (by kernel_rfl) rfl args w
theorem en86 : Enters Try.prog 86 := fun args w => Go.Proofs.enters_of Try.func86 (by kernel_rfl) rfl args w
end Go.Fz
set_option linter.unusedVariables false
set_option linter.unusedSimpArgs false
namespace Go.Fz
variable {P : Program} {T : Ti}
end Go.Fz
namespace Go.Fz
variable {P : Program} {T : Ti}
end Go.Fz
namespace Go.Fz
variable {P : Program} {T : Ti}
end Go.Fz
namespace Go.Fz
variable {P : Program} {T : Ti}
def runDN (O : Ar) (T : Ti) (ops : Array Oper) : Nat → Nat → List (Nat × AV) → Array Bool → List Cond → Fm → St → DOut
  | 0, fuel, pend, listed, cs, f, st => .stop cs fuel pend listed f st
  | _ + 1, 0, pend, listed, cs, f, st => .stop cs 0 pend listed f st
  | k + 1, fuel + 1, pend, listed, cs, f, st => match Region.ready .any ops listed with
    | [] => .done cs f st
    | rs => match pickD O T ops pend st.h f rs with
      | some (i, o, c, .sb b) => match isCmp o with
        | true => .stop cs (fuel + 1) pend listed f st
        | false => runDN O T ops k fuel ((i, .sb b) :: pend) (listed.setIfInBounds i true) (c ++ cs) (f.put o.dst (.sb b)) st
      | some (i, o, c, r) => runDN O T ops k fuel ((i, r) :: pend) (listed.setIfInBounds i true) (c ++ cs) (f.put o.dst r) st
      | none => .stop cs (fuel + 1) pend listed f st
theorem runDN_cs {O : Ar} {ops : Array Oper} : ∀ (k fuel : Nat) (pend : List (Nat × AV)) (listed : Array Bool) (cs : List Cond) (f : Fm) (st : St), ∀ c ∈ cs, c ∈ (runDN O T ops k fuel pend listed cs f st).cs
  | 0, _, _, _, _, _, _, c, h => h
  | _ + 1, 0, _, _, _, _, _, c, h => h
  | k + 1, fuel + 1, pend, listed, cs, f, st, c, h => by
    unfold runDN
    split
    · exact h
    · split
      · split
        · exact h
        · exact runDN_cs k fuel _ _ _ _ _ c (List.mem_append_right _ h)
      · exact runDN_cs k fuel _ _ _ _ _ c (List.mem_append_right _ h)
      · exact h
theorem runDN_ok (hT : TOk P T) {O : Ar} (hO : O = std) {rd : Option Nat} {ops : Array Oper} {K : Fm → St → Prop} (hM : tidyB ops (masks ops) = true) : ∀ (k fuel : Nat) (pend : List (Nat × AV)) (listed : Array Bool) (cs : List Cond) (f : Fm) (st : St),
    (∀ c ∈ (runDN O T ops k fuel pend listed cs f st).cs, c.holds) → (runDN O T ops k fuel pend listed cs f st).post P T rd ops K → AnyE P T ops (masks ops) rd K fuel pend listed f st
  | 0, _, _, _, _, _, _, _, h => h
  | _ + 1, 0, _, _, _, _, _, _, h => h
  | k + 1, fuel + 1, pend, listed, cs, f, st, hc, h => by
    unfold runDN at hc h
    split at h
    · rename_i hr
      exact .done (by rw [hr]; rfl) h
    · rename_i hr
      split at h
      · rename_i i o c b hp
        obtain ⟨h1, h2, h3, h4⟩ := pickD_ok hO hp
        simp only [hp] at hc
        split at h
        · exact h
        · rename_i hcmp
          simp only [hcmp] at hc
          have hl := h4 fun x hx => hc x (runDN_cs k fuel _ _ _ _ _ x (List.mem_append_left _ hx))
          refine .take hM hT i h2 ?_ hl (runDN_ok hT hO hM k fuel _ _ _ _ _ hc h)
          rw [h3, Bool.and_true]
          exact List.contains_iff_mem.2 h1
      · rename_i i o c r hnsb hp
        obtain ⟨h1, h2, h3, h4⟩ := pickD_ok hO hp
        simp only [hp] at hc
        have hl := h4 fun x hx => hc x (runDN_cs k fuel _ _ _ _ _ x (List.mem_append_left _ hx))
        refine .take hM hT i h2 ?_ hl (runDN_ok hT hO hM k fuel _ _ _ _ _ hc h)
        rw [h3, Bool.and_true]
        exact List.contains_iff_mem.2 h1
      · exact h
theorem AnyE.runN (hT : TOk P T) {O : Ar} (hO : O = std) (k : Nat) {rd : Option Nat} {ops : Array Oper} {K : Fm → St → Prop} {fuel : Nat} {pend : List (Nat × AV)} {listed : Array Bool} {f : Fm} {st : St} {R : DOut} (hM : tidyB ops (masks ops) = true)
    (hR : Fz.runDN O T ops k fuel pend listed [] f st = R) (hc : allC R.cs) (h : R.post P T rd ops K) : AnyE P T ops (masks ops) rd K fuel pend listed f st := by
  subst hR
  exact runDN_ok hT hO hM _ _ _ _ _ _ _ (allC_ok hc) h
end Go.Fz
namespace Go.Fz
open Go.Proofs
set_option maxRecDepth 100000
end Go.Fz
namespace Go.Fz
open Go.ChangeShapes Go.WideShapes Go.Deep Go.Joins
section
variable {H : Type} {enc : TypeId × Value → H} {P : Program} {w : World} {base : Nat} {spare : Nat → Bool} {held : Bool}
end
end Go.Fz
namespace Go.Proofs.Ytcjekdfncnmbfaa
open Go.ChangeShapes Go.WideShapes Go.ChangeAt Go.RowKit Go.Joins
set_option linter.unusedVariables false
set_option maxRecDepth 100000
end Go.Proofs.Ytcjekdfncnmbfaa
namespace Go.Fz
open Go.Proofs
set_option maxRecDepth 100000
end Go.Fz
namespace Go.Fz
open Go.Proofs
set_option maxRecDepth 100000
end Go.Fz
namespace Go.Fz
open Go.Proofs
set_option maxRecDepth 100000
end Go.Fz
namespace Go.Fz
open Go.Proofs
set_option maxRecDepth 100000
def quo64 (a b : Int) : Int := wrp .i64 (a.tdiv b)
end Go.Fz
namespace Go.Fz
open Go.Proofs
set_option maxRecDepth 100000
theorem intC_below (fl : Nat → Int) (i k : Nat) : Below 0 (intC fl i k) := Below.lit
theorem flatG_snoc (fl : Nat → Int) (n : Nat) (v : Int) (h : v = fl n) : flatG 1 (intC fl) n ++ [iV v] = flatG 1 (intC fl) (n + 1) := by
  rw [h]; rfl
end Go.Fz
namespace Go.Fz
open Go.Proofs
set_option maxRecDepth 100000
end Go.Fz
namespace Go.Fz
open Go.Proofs
set_option maxRecDepth 100000
end Go.Fz
namespace Go.Fz
open Go.Proofs
set_option maxRecDepth 100000
end Go.Fz
namespace Go.Fz
open Go.Proofs
set_option maxRecDepth 100000
end Go.Fz
namespace Go.Fz
open Go.Proofs
set_option maxRecDepth 100000
end Go.Fz
namespace Go.Fz
open Go.Proofs
set_option maxRecDepth 100000
end Go.Fz
namespace Go.Fz
open Go.Proofs
set_option maxRecDepth 100000
end Go.Fz
set_option linter.unusedVariables false
set_option linter.unusedSimpArgs false
namespace Go.Fz
open Go.Proofs
set_option maxRecDepth 100000
variable {P : Program} {T : Ti}
theorem tdiv_nn {a b : Int} (ha : 0 ≤ a) (hb : 1 ≤ b) : 0 ≤ a.tdiv b ∧ a.tdiv b ≤ a ∧ a.tdiv b * b + a.tmod b = a ∧ 0 ≤ a.tmod b ∧ a.tmod b < b := by
  rw [Int.tdiv_eq_ediv_of_nonneg ha, Int.tmod_eq_emod_of_nonneg ha]
  refine ⟨Int.ediv_nonneg ha (by omega), Int.ediv_le_self b ha, ?_, Int.emod_nonneg a (by omega), Int.emod_lt_of_pos a (by omega)⟩
  rw [Int.mul_comm]; exact Int.mul_ediv_add_emod a b
theorem quo64_nn {a b : Int} (ha : 0 ≤ a) (ha2 : a ≤ 1000000000) (hb : 1 ≤ b) : quo64 a b = a.tdiv b := by
  obtain ⟨h1, h2, _⟩ := tdiv_nn ha hb
  exact wrp_in (by simp only [IntKind.lo]; omega) (by simp only [IntKind.hi]; omega)
end Go.Fz
namespace Go.Fz
end Go.Fz
namespace Go.Fz
variable {P : Program} {T : Ti}
end Go.Fz
namespace Go.Fz
variable {P : Program} {T : Ti}
end Go.Fz
namespace Go.Fz
set_option maxRecDepth 100000
section
variable {P : Program} {T : Ti}
end
end Go.Fz
namespace Go.Fz
open Go.Proofs
set_option maxRecDepth 100000
section
variable {P : Program} {T : Ti}
end
end Go.Fz
namespace Go.Fz
open Go.Proofs
set_option maxRecDepth 100000
section
variable {α : Type}
end
end Go.Fz
namespace Go.Fz
open Go.Proofs
set_option maxRecDepth 100000
section
variable {α : Type}
end
end Go.Fz
namespace Go.Fz
set_option maxRecDepth 100000
section
variable {P : Program} {T : Ti}
end
end Go.Fz
namespace Go.Fz
variable {P : Program} {T : Ti}
end Go.Fz
namespace Go.Fz
open Go.Proofs
set_option maxRecDepth 100000
section
variable {P : Program} {T : Ti}
end
section
variable {α : Type}
end
end Go.Fz
namespace Go.Fz
variable {P : Program} {T : Ti}
end Go.Fz
namespace Go.Fz
open Go.Proofs
set_option maxRecDepth 100000
end Go.Fz
namespace Go.Fz
open Go.Proofs
set_option maxRecDepth 100000
end Go.Fz
namespace Go.Fz
open Go.Proofs
set_option maxRecDepth 100000
end Go.Fz
namespace Go.Fz
open Go.Proofs
set_option maxRecDepth 100000
section
variable {α : Type} (next : α → (Nat → Int) → α) (len : α → Nat) (N : Nat) (lo hi : Nat → Int)
end
end Go.Fz
namespace Go.Fz
open Go.Proofs
set_option maxRecDepth 100000
section
variable {P : Program} {T : Ti}
end
section
variable {P : Program}
end
end Go.Fz
namespace Go.Fz
variable {P : Program} {T : Ti}
end Go.Fz
namespace Go.Fz
open Go.Proofs
set_option maxRecDepth 100000
end Go.Fz
namespace Go.Fz
open Go.Proofs
set_option maxRecDepth 100000
end Go.Fz
namespace Go.Fz
open Go.Proofs
set_option maxRecDepth 100000
section
variable {P : Program} {T : Ti}
end
end Go.Fz
namespace Go.Fz
open Go.Proofs
set_option maxRecDepth 100000
end Go.Fz
set_option linter.unusedVariables false
set_option linter.unusedSimpArgs false
namespace Go.Fz
variable {P : Program} {T : Ti}
end Go.Fz
namespace Go.Fz
open Go.Proofs
set_option maxRecDepth 100000
theorem updE_mem {β : Type} [DecidableEq β] {E : List (β × Nat)} {x b : β} {c : Nat} : x ∈ (updE E b c).map (·.1) ↔ x ∈ E.map (·.1) ∨ x = b := by
  unfold updE
  split
  · rename_i h
    exact ⟨.inl, fun h2 => h2.elim id fun e => by rw [e]; exact h⟩
  · simp
theorem bmP_mem (b : Nat → Bool) (x : Bool) : ∀ i, x ∈ (bmP b i).1.map (·.1) ↔ ∃ j, j < i ∧ b j = x
  | 0 => by
    show x ∈ [] ↔ _
    exact ⟨fun h => (by cases h), fun ⟨_, h, _⟩ => absurd h (Nat.not_lt_zero _)⟩
  | i + 1 => by
    show x ∈ (updE _ _ _).map (·.1) ↔ _
    rw [updE_mem, bmP_mem b x i]
    constructor
    · rintro (⟨j, h1, h2⟩ | h)
      · exact ⟨j, by omega, h2⟩
      · exact ⟨i, by omega, h.symm⟩
    · rintro ⟨j, h1, h2⟩
      by_cases e : j = i
      · exact .inr (by rw [← e]; exact h2.symm)
      · exact .inl ⟨j, by omega, h2⟩
end Go.Fz
namespace Go.Fz
open Go.Proofs
set_option maxRecDepth 100000
theorem verdict_always {b : Nat → Bool} {n : Nat} : verdict b n = 1 ↔ someB b false n = false := by
  unfold verdict
  cases someB b false n <;> cases someB b true n <;> simp
theorem verdict_never {b : Nat → Bool} {n : Nat} (h0 : 0 < n) : verdict b n = 2 ↔ someB b true n = false := by
  have h : someB b false n = false → someB b true n = true := fun h => by
    cases hb : b 0 with
    | true => unfold someB; rw [decide_eq_true_eq, bmP_mem]; exact ⟨0, h0, hb⟩
    | false =>
      have : someB b false n = true := by unfold someB; rw [decide_eq_true_eq, bmP_mem]; exact ⟨0, h0, hb⟩
      rw [this] at h; cases h
  unfold verdict
  cases h1 : someB b false n <;> cases h2 : someB b true n <;> simp_all
end Go.Fz
namespace Go.Fz
section
variable {P : Program} {T : Ti}
end
end Go.Fz
namespace Go.Fz
open Go.Proofs
set_option maxRecDepth 100000
section
variable {α : Type} {next : α → (Nat → Int) → α} {N : Nat} {lo hi : Nat → Int}
end
end Go.Fz
namespace Go.Fz
open Go.Proofs
set_option maxRecDepth 100000
section
variable {P : Program} {T : Ti}
end
end Go.Fz
namespace Go.Fz
open Go.Proofs
set_option maxRecDepth 100000
end Go.Fz
namespace Go.Fz
open Go.Proofs
set_option maxRecDepth 100000
end Go.Fz
namespace Go.Fz
open Go.Proofs
set_option maxRecDepth 100000
end Go.Fz
namespace Go.Fz
variable {P : Program} {T : Ti}
end Go.Fz
namespace Go.Fz
open Go.Proofs
set_option maxRecDepth 100000
section
variable {P : Program}
end
section
variable {β : Type} [DecidableEq β]
end
end Go.Fz
namespace Go.Fz
open Go.Proofs
set_option maxRecDepth 100000
end Go.Fz
namespace Go.Fz
open Go.Proofs
set_option maxRecDepth 100000
section
variable {P : Program} {T : Ti} {β : Type}
end
end Go.Fz
namespace Go.Fz
open Go.Proofs
set_option maxRecDepth 100000
section
variable {P : Program} {T : Ti} {β : Type} [DecidableEq β]
end
end Go.Fz
namespace Go.Fz
open Go.Proofs
set_option maxRecDepth 100000
end Go.Fz
namespace Go.Fz
open Go.Proofs
set_option maxRecDepth 100000
end Go.Fz
namespace Go.Fz
open Go.Proofs
set_option maxRecDepth 100000
end Go.Fz
namespace Go.Fz
open Go.Proofs
set_option maxRecDepth 100000
section
variable (nw nl : Nat) (A B C D : Nat → Nat → Int) (a b c e : Nat → Int)
end
end Go.Fz
set_option linter.unusedVariables false
set_option linter.unusedSimpArgs false
namespace Go.Fz
open Go.Proofs
set_option maxRecDepth 100000
section
variable {P : Program} {T : Ti}
end
end Go.Fz
namespace Go.Fz
open Go.Proofs
set_option maxRecDepth 100000
section
variable (K : List (List Nat) → Hp → Nat → Prop) (stop : List (List Nat) → List Nat → Hp → Nat → Prop) (ok : List Nat → Prop) (mc y many : Nat) (ex : Bool)
variable {K stop ok mc y many ex}
end
end Go.Fz
namespace Go.Fz
open Go.Proofs
set_option maxRecDepth 100000
section
variable {K : List (List Nat) → Hp → Nat → Prop} {stop : List (List Nat) → List Nat → Hp → Nat → Prop} {ok : List Nat → Prop} {mc y many : Nat}
end
end Go.Fz
namespace Go.Fz
open Go.Proofs
set_option maxRecDepth 100000
section
variable {K : List (List Nat) → Hp → Nat → Prop} {stop : List (List Nat) → List Nat → Hp → Nat → Prop} {ok : List Nat → Prop} {mc y many : Nat}
end
end Go.Fz
namespace Go.Fz
open Go.Proofs
set_option maxRecDepth 100000
section
variable (d : DayD) (XO : AV) (hX : Below 0 XO) (E : List (Mk × Nat)) (cl : Nat) (hb : Born E cl)
end
end Go.Fz
namespace Go.Fz
open Go.Proofs
set_option maxRecDepth 100000
section
variable (d : DayD) (XO : AV) (E : List (Mk × Nat)) (cl : Nat)
end
end Go.Fz
namespace Go.Fz
open Go.Proofs
set_option maxRecDepth 100000
section
variable (d : DayD) (L : Nat) (G : Nat → Nat → AV) (ME : List (AV × AV × Nat)) (cl : Nat)
end
end Go.Fz
namespace Go.Fz
open Go.Proofs
set_option maxRecDepth 100000
section
variable (d : DayD) (L : Nat) (G : Nat → Nat → AV) (ME : List (AV × AV × Nat)) (cl : Nat) (Q : List Nat → Bool)
variable {d L G ME cl}
end
end Go.Fz
namespace Go.Fz
open Go.Proofs
set_option maxRecDepth 100000
end Go.Fz
namespace Go.Fz
open Go.Proofs
set_option maxRecDepth 100000
set_option linter.unusedVariables false
end Go.Fz
namespace Go.Fz
open Go.Proofs
set_option maxRecDepth 100000
set_option linter.unusedVariables false
end Go.Fz
namespace Go.Fz
open Go.Proofs
set_option maxRecDepth 100000
end Go.Fz
namespace Go.Fz
open Go.Proofs
set_option maxRecDepth 100000
section
variable (nw nl : Nat) (f0 f1 f2 f3 : Nat → Int) (z4 z5 z6 z7 : Int)
end
end Go.Fz
namespace Go.Fz
open Go.Proofs
set_option maxRecDepth 100000
section
end
end Go.Fz
namespace Go.Fz
open Go.Proofs
set_option maxRecDepth 100000
end Go.Fz
namespace Go.Fz
open Go.Proofs
set_option maxRecDepth 100000
end Go.Fz
namespace Go.Fz
open Go.Proofs
set_option maxRecDepth 100000
end Go.Fz
namespace Go.Fz
open Go.Proofs
set_option maxRecDepth 100000
end Go.Fz
namespace Go.Fz
open Go.Proofs
set_option maxRecDepth 100000
end Go.Fz
namespace Go.Fz
open Go.Proofs
set_option maxRecDepth 100000
end Go.Fz
namespace Go.Fz
open Go.Proofs
set_option maxRecDepth 100000
end Go.Fz
namespace Go.Fz
open Go.Proofs
set_option maxRecDepth 100000
end Go.Fz
namespace Go.Fz
open Go.Proofs
set_option maxRecDepth 100000
end Go.Fz
namespace Go.Fz
variable {P : Program}
end Go.Fz
namespace Go.Fz
open Go.Proofs
set_option maxRecDepth 100000
section
variable {P : Program} {T : Ti}
end
end Go.Fz
namespace Go.Fz
open Go.Proofs
set_option maxRecDepth 100000
end Go.Fz
namespace Go.Fz
open Go.Proofs
set_option maxRecDepth 100000
set_option linter.unusedVariables false
end Go.Fz
namespace Go.Fz
open Go.Proofs
set_option maxRecDepth 100000
set_option linter.unusedVariables false
end Go.Fz
namespace Go.Fz
open Go.Proofs
set_option maxRecDepth 100000
set_option linter.unusedVariables false
end Go.Fz
namespace Go.Fz
open Go.Proofs
set_option maxRecDepth 100000
set_option linter.unusedVariables false
end Go.Fz
namespace Go.Fz
open Go.Proofs
set_option maxRecDepth 100000
end Go.Fz
namespace Go.Fz
open Go.Proofs
set_option maxRecDepth 100000
set_option pp.deepTerms false
set_option pp.deepTerms.threshold 5
end Go.Fz
namespace Go.Fz
open Go.Proofs
set_option maxRecDepth 100000
end Go.Fz
namespace Go.Fz
open Go.Proofs
set_option maxRecDepth 100000
end Go.Fz
namespace Go.Fz
open Go.Proofs
set_option maxRecDepth 100000
section
variable (d : DayD) (k w lo hi : Int)
end
end Go.Fz
namespace Go.Fz
open Go.Proofs
set_option maxRecDepth 100000
section
variable {T : Ti}
end
end Go.Fz
namespace Go.Fz
open Go.Proofs
set_option maxRecDepth 100000
section
variable {P : Program} {T : Ti}
end
end Go.Fz
namespace Go.Fz
open Go.Proofs
set_option maxRecDepth 100000
end Go.Fz
namespace Go.Fz
open Go.Proofs
set_option maxRecDepth 100000
set_option linter.unusedVariables false
end Go.Fz
namespace Go.Fz
open Go.Proofs
set_option maxRecDepth 100000
set_option linter.unusedVariables false
end Go.Fz
namespace Go.Fz
open Go.Proofs
set_option maxRecDepth 100000
set_option linter.unusedVariables false
end Go.Fz
namespace Go.Fz
open Go.Proofs
set_option maxRecDepth 100000
end Go.Fz
namespace Go.Fz
open Go.Proofs
set_option maxRecDepth 100000
set_option linter.unusedVariables false
section
variable {P : Program}
theorem SW.eqvF {rd : Option Nat} {c : Code} {Q : Exit → Fm → St → Prop} {len : Nat} {g g' : Nat → AV} {dm : List Nat} {S : St} (h : ∀ i, Eqv (g i) (g' i)) (H : SW P rd c Q ⟨⟨len, g'⟩, dm⟩ S) : SW P rd c Q ⟨⟨len, g⟩, dm⟩ S := by
  intro φ w a n h1 h2 h3
  exact H φ w a n h1 h2 ⟨⟨h3.ts.size, fun i => h i φ _ (h3.ts.get i)⟩, h3.dm, h3.lt⟩
theorem updT_eqv {g : Nat → AV} {k : Nat} {v v' : AV} (hk : g k = v) (he : Eqv v v') (i : Nat) : Eqv (g i) (updT g k v' i) := by
  unfold updT
  split
  · rename_i h
    rw [← Nat.eq_of_beq_eq_true h, hk]; exact he
  · exact Eqv.refl _
theorem SW.slot {rd : Option Nat} {c : Code} {Q : Exit → Fm → St → Prop} {len : Nat} {g : Nat → AV} {dm : List Nat} {S : St} (k : Nat) (v v' : AV) (hk : g k = v) (he : Eqv v v') (H : SW P rd c Q ⟨⟨len, updT g k v'⟩, dm⟩ S) : SW P rd c Q ⟨⟨len, g⟩, dm⟩ S :=
  SW.eqvF (updT_eqv hk he) H
end
end Go.Fz
namespace Go.Fz
open Go.Proofs
set_option maxRecDepth 100000
set_option linter.unusedVariables false
end Go.Fz
namespace Go.Fz
open Go.Proofs
set_option maxRecDepth 100000
set_option linter.unusedVariables false
end Go.Fz
namespace Go.Fz
open Go.Proofs
set_option maxRecDepth 100000
set_option linter.unusedVariables false
end Go.Fz
set_option linter.unusedVariables false
namespace Go.Fz
open Go.Proofs
set_option maxRecDepth 100000
theorem conv0 {O : Ar} (hO : O = std) {i : Nat} (hi : i < 1000) : 0 ≤ O.conv .u64 (Int.ofNat i) := by
  subst hO
  show 0 ≤ wrp .u64 ((i : Nat) : Int)
  rw [wrp_in (by simp only [IntKind.lo]; omega) (by simp only [IntKind.hi]; omega)]
  omega
end Go.Fz
set_option linter.unusedVariables false
namespace Go.Fz
open Go.Proofs
set_option maxRecDepth 100000
theorem not_bad {y : YardD} {f : Nat → Int} : y.badB f = false ↔ ∀ p, p < y.nc → y.rgt f p = true := by
  unfold YardD.badB
  rw [decide_eq_false_iff_not, Nat.not_lt, Nat.le_zero, List.length_eq_zero_iff]
  unfold YardD.wrN
  rw [List.filter_eq_nil_iff]
  constructor
  · intro h p hp
    have := h p (List.mem_range.2 hp)
    simpa using this
  · intro h p hp
    have := h p (List.mem_range.1 hp)
    simp [this]
end Go.Fz
set_option linter.unusedVariables false
namespace Go.Fz
open Go.Proofs
set_option maxRecDepth 100000
theorem full55_ok (y : YardD) (hn : y.nc < 1000000) : Pure Try.prog 55 [yardV y] (iV (allI y.nc)) := by
  obtain ⟨O, hO⟩ : ∃ O : Ar, O = std := ⟨_, rfl⟩
  refine pure_of_body tok 3 Try.func55 en55 rfl ⟨yardV_below y, trivial⟩ Below.lit ?_
  refine SW.seqRun tok hO (by cbv <;> rfl) (by trivial) ?_
  refine SW.seqRun tok hO (by cbv <;> rfl) (by exact conv_nn hO hn) ?_
  refine SW.ret ⟨_, _, rfl, rfl, Eqv.int ?_⟩
  subst hO; rfl
end Go.Fz
set_option linter.unusedVariables false
namespace Go.Fz
open Go.Proofs
set_option maxRecDepth 100000
theorem mem_allS {y : YardD} {f : Nat → Int} : f ∈ y.allS ↔ (∀ b, b ∉ List.range y.nb → f b = 0) ∧ y.Sch (List.range y.nb) f := by
  have h := foldS_all (y := y) (next := appS) (S := fun s => f ∈ s) (G := fun g => f = g) (fun s g => by unfold appS; rw [List.mem_append, List.mem_singleton]) (L := List.range y.nb) List.pairwise_lt_range []
  refine Iff.trans h ?_
  constructor
  · rintro (h | ⟨g, h1, h2, rfl⟩)
    · cases h
    · exact ⟨h1, h2⟩
  · rintro ⟨h1, h2⟩
    exact .inr ⟨f, h1, h2, rfl⟩
theorem mem_kept {y : YardD} {f : Nat → Int} : f ∈ y.kept ↔ f ∈ y.allS ∧ ∀ p, p < y.nc → y.rgt f p = true := by
  unfold YardD.kept kpS
  rw [List.mem_filter]
  constructor
  · rintro ⟨h1, h2⟩
    exact ⟨h1, not_bad.1 (by simpa using h2)⟩
  · rintro ⟨h1, h2⟩
    exact ⟨h1, by rw [not_bad.2 h2]; rfl⟩
theorem anyW_iff {S : List (Nat → Int)} {b w : Int} : anyW S b w = true ↔ ∃ f ∈ S, f b.toNat = w := by
  unfold anyW
  rw [decide_eq_true_eq]
  have hg : ∀ j, (hj : j < S.length) → S.getD j f0 = S[j] := fun j hj => by rw [List.getD_eq_getElem?_getD, List.getElem?_eq_getElem hj]; rfl
  constructor
  · rintro ⟨i, hi, h⟩
    rw [hg i hi] at h
    exact ⟨_, List.getElem_mem hi, of_decide_eq_true h⟩
  · rintro ⟨f, hf, h⟩
    obtain ⟨i, hi, rfl⟩ := List.getElem_of_mem hf
    exact ⟨i, hi, by rw [hg i hi]; exact decide_eq_true h⟩
theorem mem_wkN {S : List (Nat → Int)} {b lo w : Int} : ∀ n, w ∈ wkN S b lo n ↔ (lo ≤ w ∧ w < lo + (n : Nat)) ∧ anyW S b w = true
  | 0 => by
    constructor
    · intro h; cases h
    · rintro ⟨h, _⟩; omega
  | n + 1 => by
    have ih := mem_wkN (S := S) (b := b) (lo := lo) (w := w) n
    show w ∈ nxW S b (wkN S b lo n) (lo + (n : Nat)) ↔ _
    unfold nxW
    constructor
    · intro h
      split at h
      · rename_i ha
        rcases List.mem_append.1 h with h | h
        · have := ih.1 h
          exact ⟨by omega, this.2⟩
        · rw [List.mem_singleton.1 h]
          exact ⟨by omega, ha⟩
      · have := ih.1 h
        exact ⟨by omega, this.2⟩
    · rintro ⟨h1, h2⟩
      by_cases e : w = lo + (n : Nat)
      · subst e
        rw [if_pos h2]
        exact List.mem_append.2 (.inr (List.mem_singleton.2 rfl))
      · have := ih.2 ⟨by omega, h2⟩
        split
        · exact List.mem_append.2 (.inl this)
        · exact this
theorem wkN_congr {S S' : List (Nat → Int)} {b lo : Int} (h : ∀ w, anyW S b w = anyW S' b w) : ∀ n, wkN S b lo n = wkN S' b lo n
  | 0 => rfl
  | n + 1 => by
    show nxW S b (wkN S b lo n) _ = nxW S' b (wkN S' b lo n) _
    rw [wkN_congr h n]
    unfold nxW
    rw [h]
end Go.Fz
set_option linter.unusedVariables false
namespace Go.Fz
open Go.Proofs
set_option maxRecDepth 100000
end Go.Fz
set_option linter.unusedVariables false
namespace Go.Fz
open Go.Proofs
set_option maxRecDepth 100000
end Go.Fz
set_option linter.unusedVariables false
namespace Go.Fz
open Go.Proofs
set_option maxRecDepth 100000
end Go.Fz
set_option linter.unusedVariables false
namespace Go.Fz
open Go.Proofs
set_option maxRecDepth 100000
theorem any_sees {y : YardD} (hc : y.check = 0) : (y.allS = [] → y.anyE true = 10) ∧ (y.allS ≠ [] → y.anyE true = 0) := by
  refine ⟨fun hs => ?_, fun hs => ?_⟩
  · unfold YardD.anyE
    rw [if_neg (by simp [hc]), if_neg (by simp), if_pos hs]
  · unfold YardD.anyE
    rw [if_neg (by simp [hc]), if_neg (by simp), if_neg hs]
theorem befF_self (f : Nat → Int) (n : Nat) : ∀ k i, befF f f n n i k = false
  | 0, i => by
    show decide ((n : Int) < n) = false
    exact decide_eq_false (by omega)
  | k + 1, i => by
    show (if i < n ∧ i < n then (if f i = f i then befF f f n n (i + 1) k else decide (f i < f i)) else decide ((n : Int) < n)) = false
    split
    · rw [if_pos rfl]
      exact befF_self f n k (i + 1)
    · exact decide_eq_false (by omega)
theorem same_self (f : Nat → Int) (n : Nat) : sameB n n f f = true := by
  unfold sameB
  rw [befF_self, decide_eq_true rfl]
  rfl
theorem wk_small {y : YardD} (hf : y.Fit) {K : Int} (k0 : 0 ≤ K) (k1 : K < y.nb) : (y.wkL K).length < 1000 := by
  have h1 := wkN_len (y.ownL (y.hasB K)) K (y.blo K.toNat) (y.bhi K.toNat - y.blo K.toNat + 1).toNat
  have h2 := hf.beg K.toNat (by omega)
  have h3 : (y.wkL K).length ≤ (y.bhi K.toNat - y.blo K.toNat + 1).toNat := h1
  omega
end Go.Fz
set_option linter.unusedVariables false
namespace Go.Fz
open Go.Proofs
set_option maxRecDepth 100000
end Go.Fz
set_option linter.unusedVariables false
namespace Go.Fz
open Go.Proofs
set_option maxRecDepth 100000
section
variable {P : Program} {T : Ti}
end
end Go.Fz
set_option linter.unusedVariables false
namespace Go.Fz
open Go.Proofs
set_option maxRecDepth 100000
end Go.Fz
set_option linter.unusedVariables false
namespace Go.Fz
open Go.Proofs
set_option maxRecDepth 100000
end Go.Fz
set_option linter.unusedVariables false
namespace Go.Fz
open Go.Proofs
set_option maxRecDepth 100000
theorem someB_iff {b : Nat → Bool} {x : Bool} {n : Nat} : someB b x n = true ↔ ∃ i, i < n ∧ b i = x := by
  unfold someB
  rw [decide_eq_true_eq, bmP_mem]
theorem vd_range (b : Nat → Bool) (n : Nat) : verdict b n = 1 ∨ verdict b n = 2 ∨ verdict b n = 3 := by
  unfold verdict
  split
  · exact .inl rfl
  · split
    · exact .inr (.inl rfl)
    · exact .inr (.inr rfl)
end Go.Fz
set_option linter.unusedVariables false
namespace Go.Fz
open Go.Proofs
set_option maxRecDepth 100000
end Go.Fz
set_option linter.unusedVariables false
namespace Go.Fz
open Go.Proofs
set_option maxRecDepth 100000
end Go.Fz
set_option linter.unusedVariables false
namespace Go.Fz
open Go.Proofs
set_option maxRecDepth 100000
end Go.Fz
set_option linter.unusedVariables false
namespace Go.Fz
open Go.Proofs
set_option maxRecDepth 100000
def lessF (n : Nat) (f : Nat → Int) : Nat → Int := fun b => if b < n then f b else 0
theorem lessF_lt {n b : Nat} {f : Nat → Int} (h : b < n) : lessF n f b = f b := if_pos h
end Go.Fz
set_option linter.unusedVariables false
namespace Go.Fz
open Go.Proofs
set_option maxRecDepth 100000
theorem size_in {lo hi : Int} (h : 0 ≤ lo ∧ lo ≤ hi ∧ hi ≤ 9) : size64 lo hi = hi - lo + 1 := by
  unfold size64
  rw [sub64_in _ _ (by omega) (by omega), add64_in _ _ (by omega) (by omega)]
theorem prN_le {lo hi lo' hi' : Nat → Int} {n : Nat} (hn : n ≤ 6) (hr : ∀ i, i < n → 0 ≤ lo i ∧ lo i ≤ hi i ∧ hi i ≤ 9) (hr' : ∀ i, i < n → 0 ≤ lo' i ∧ lo' i ≤ hi' i ∧ hi' i ≤ 9) (hle : ∀ i, i < n → hi' i - lo' i ≤ hi i - lo i) : ∀ i, i ≤ n → 1 ≤ prN lo' hi' i ∧ prN lo' hi' i ≤ prN lo hi i ∧ prN lo hi i ≤ 10 ^ i
  | 0, _ => ⟨Int.le_refl _, Int.le_refl _, Int.le_refl _⟩
  | i + 1, hi' => by
    obtain ⟨a1, a2, a3⟩ := prN_le hn hr hr' hle i (by omega)
    have hp : (10 : Int) ^ i ≤ 1000000 ∧ 1 ≤ (10 : Int) ^ i := ten_pow ⟨i, by omega⟩
    have r1 := hr i (by omega)
    have r2 := hr' i (by omega)
    have r3 := hle i (by omega)
    have e1 : prN lo hi (i + 1) = mul64 (prN lo hi i) (size64 (lo i) (hi i)) := rfl
    have e2 : ∀ a b : Nat → Int, prN a b (i + 1) = mul64 (prN a b i) (size64 (a i) (b i)) := fun _ _ => rfl
    rw [e2, e2, size_in r1, size_in r2]
    rename_i hi2
    obtain ⟨s, hs⟩ : ∃ s, hi i - lo i + 1 = s := ⟨_, rfl⟩
    obtain ⟨s', hs'⟩ : ∃ s', hi2 i - lo' i + 1 = s' := ⟨_, rfl⟩
    rw [hs, hs']
    obtain ⟨p, hpp⟩ : ∃ p, prN lo hi i = p := ⟨_, rfl⟩
    obtain ⟨p', hpp'⟩ : ∃ p', prN lo' hi2 i = p' := ⟨_, rfl⟩
    rw [hpp] at a2 a3
    rw [hpp'] at a1 a2
    rw [hpp, hpp']
    have hs1 : 1 ≤ s ∧ s ≤ 10 := by omega
    have hs2 : 1 ≤ s' ∧ s' ≤ s := by omega
    have b1 : p' * s' ≤ p * s := Int.mul_le_mul a2 hs2.2 (by omega) (by omega)
    have b2 : p * s ≤ 10 ^ i * 10 := Int.mul_le_mul a3 hs1.2 (by omega) (by omega)
    have b3 : 1 * 1 ≤ p' * s' := Int.mul_le_mul a1 hs2.1 (by omega) (by omega)
    have b4 : (10 : Int) ^ i * 10 ≤ 10000000 := by omega
    rw [mul64_in _ _ (by omega) (by omega), mul64_in _ _ (by omega) (by omega), Int.pow_succ]
    exact ⟨by omega, b1, b2⟩
end Go.Fz
set_option linter.unusedVariables false
namespace Go.Fz
open Go.Proofs
set_option maxRecDepth 100000
end Go.Fz
set_option linter.unusedVariables false
namespace Go.Fz
open Go.Proofs
set_option maxRecDepth 100000
end Go.Fz
set_option linter.unusedVariables false
namespace Go.Fz
open Go.Proofs
set_option maxRecDepth 100000
end Go.Fz
set_option linter.unusedVariables false
namespace Go.Fz
open Go.Proofs
set_option maxRecDepth 100000
end Go.Fz
set_option linter.unusedVariables false
namespace Go.Fz
open Go.Proofs
set_option maxRecDepth 100000
end Go.Fz
set_option linter.unusedVariables false
namespace Go.Fz
open Go.Proofs
set_option maxRecDepth 100000
def YardD.eR (y : YardD) (f : Nat → Int) (i : Nat) (w : Int) : Bool := decide (0 ≤ f i) && inB w (f i) (sub64 (add64 (f i) (y.lng i)) 1)
set_option maxHeartbeats 8000000 in
theorem isEmpty_ok (y : YardD) (n : Nat) (ex : Bool) (f : Nat → Int) (K w : Int) (k0 : 0 ≤ K) (k1 : K < (n : Int)) (k2 : K < (y.nb : Int)) : Pure Try.prog 49 [yardV y, intsV n ex f, iV K, iV w] (.sb (y.eR f K.toNat w)) := by
  obtain ⟨O, hO⟩ : ∃ O : Ar, O = std := ⟨_, rfl⟩
  have hnk : O.nat K = K.toNat := by subst hO; rfl
  have hin : 0 ≤ K ∧ K < Int.ofNat n := ⟨k0, k1⟩
  have hib : 0 ≤ K ∧ K < Int.ofNat y.nb := ⟨k0, k2⟩
  have he : y.eR f K.toNat w = (decide (0 ≤ f (O.nat K)) && inB w (f (O.nat K)) (O.bin .sub .i64 (O.bin .add .i64 (f (O.nat K)) (y.lng (O.nat K))) 1)) := by rw [hnk]; subst hO; rfl
  have e29 := in_ok w (f (O.nat K)) (O.bin .sub .i64 (O.bin .add .i64 (f (O.nat K)) (y.lng (O.nat K))) 1)
  obtain ⟨B, hB⟩ : ∃ B, inB w (f (O.nat K)) (O.bin .sub .i64 (O.bin .add .i64 (f (O.nat K)) (y.lng (O.nat K))) 1) = B := ⟨_, rfl⟩
  rw [hB] at he e29
  clear hB
  generalize y.eR f K.toNat w = Q at he ⊢
  refine pure_of_body tok 3 Try.func49 en49 rfl ⟨yardV_below y, intsV_below _ _ _, Below.lit, Below.lit, trivial⟩ Below.sb ?_
  refine SW.seqRun tok hO (by cbv <;> rfl) (by trivial) ?_
  refine SW.seqRunD tok mixed hO (by kernel_rfl) (by cbv <;> rfl) (by repeat (first | exact trivial | exact hin | exact hib | refine ⟨?_, ?_⟩)) ?_
  refine AnyE.dec tok hO (by kernel_rfl) (by cbv <;> rfl) (by trivial) (fun h2 => ?_) (fun h2 => ?_)
  · have hp : 0 ≤ f (O.nat K) := by subst hO; simpa [std] using h2
    rw [decide_eq_true hp, Bool.true_and] at he
    refine AnyE.runN tok hO 6 (by kernel_rfl) (by cbv <;> rfl) (by repeat (first | exact trivial | exact hin | exact hib | refine ⟨?_, ?_⟩)) ?_
    refine AnyE.runN tok hO 6 (by kernel_rfl) (by cbv <;> rfl) (by repeat (first | exact trivial | exact hin | exact hib | refine ⟨?_, ?_⟩)) ?_
    refine AnyE.run tok hO (by kernel_rfl) (by cbv <;> rfl) (by repeat (first | exact trivial | exact hin | exact hib | refine ⟨?_, ?_⟩)) ?_
    refine AnyE.callP e29 (by cbv <;> rfl) (by cbv <;> rfl) ?_
    refine AnyE.run tok hO (by kernel_rfl) (by cbv <;> rfl) (by trivial) ?_
    exact SW.ret ⟨_, _, rfl, rfl, Eqv.sb he.symm⟩
  · have hp : ¬ 0 ≤ f (O.nat K) := by subst hO; simpa [std] using h2
    rw [decide_eq_false hp, Bool.false_and] at he
    refine AnyE.runN tok hO 6 (by kernel_rfl) (by cbv <;> rfl) (by trivial) ?_
    refine AnyE.runN tok hO 6 (by kernel_rfl) (by cbv <;> rfl) (by trivial) ?_
    refine AnyE.run tok hO (by kernel_rfl) (by cbv <;> rfl) (by trivial) ?_
    exact SW.ret ⟨_, _, rfl, rfl, Eqv.bool he.symm⟩
end Go.Fz
set_option linter.unusedVariables false
namespace Go.Fz
open Go.Proofs
set_option maxRecDepth 100000
def YardD.endR (y : YardD) (f : Nat → Int) (i : Nat) : Bool := decide (0 ≤ f i) && decide (y.last < sub64 (add64 (f i) (y.lng i)) 1)
def YardD.cntR (y : YardD) (f : Nat → Int) (w : Int) : Nat → Nat
  | 0 => 0
  | i + 1 => if y.eR f i w = true then y.cntR f w i + 1 else y.cntR f w i
def YardD.adjR (y : YardD) (f : Nat → Int) (w : Int) (i : Nat) : Bool := y.eR f i w && (decide (0 < i) && y.eR f (i - 1) w)
def YardD.fitB (y : YardD) (f : Nat → Int) : Bool := decide ((∀ i, i < y.nb → y.endR f i = false) ∧ ∀ w : Nat, w < (y.last + 1).toNat → (∀ i, i < y.nb → y.adjR f w i = false) ∧ (y.cntR f w y.nb : Int) ≤ y.hands)
theorem fitB_iff {y : YardD} {f : Nat → Int} : y.fitB f = true ↔ (∀ i, i < y.nb → y.endR f i = false) ∧ ∀ w : Nat, (w : Int) ≤ y.last → (∀ i, i < y.nb → y.adjR f w i = false) ∧ (y.cntR f w y.nb : Int) ≤ y.hands := by
  unfold YardD.fitB
  rw [decide_eq_true_eq]
  exact ⟨fun h => ⟨h.1, fun w hw => h.2 w (by omega)⟩, fun h => ⟨h.1, fun w hw => h.2 w (by omega)⟩⟩
theorem fitB_no {y : YardD} {f : Nat → Int} (h : y.fitB f = true → False) : y.fitB f = false := by
  cases hq : y.fitB f with
  | false => rfl
  | true => exact absurd (h hq) id
theorem cntR_le (y : YardD) (f : Nat → Int) (w : Int) : ∀ n, y.cntR f w n ≤ n
  | 0 => Nat.le_refl _
  | n + 1 => by
    have := cntR_le y f w n
    unfold YardD.cntR
    split <;> omega
set_option maxHeartbeats 16000000 in
theorem fits_ok (y : YardD) (hl : y.last ≤ 9) (hn : y.nb < 1000) (ex : Bool) (f : Nat → Int) : Pure Try.prog 67 [yardV y, intsV y.nb ex f] (.sb (y.fitB f)) := by
  obtain ⟨O, hO⟩ : ∃ O : Ar, O = std := ⟨_, rfl⟩
  have hnat : ∀ i : Nat, O.nat (Int.ofNat i) = i := fun i => by subst hO; rfl
  have e49 := fun (i : Nat) (hi : i < y.nb) (w : Int) => isEmpty_ok y y.nb ex f (Int.ofNat i) w (Int.natCast_nonneg i) (Int.ofNat_lt.2 hi) (Int.ofNat_lt.2 hi)
  have e49b := fun (i : Nat) (hi : i < y.nb) (h0 : 0 < i) (w : Int) => isEmpty_ok y y.nb ex f (O.bin .sub .i64 (Int.ofNat i) 1) w (sub1_rng hO (Nat.lt_trans hi hn) h0 hi).1 (sub1_rng hO (Nat.lt_trans hi hn) h0 hi).2 (sub1_rng hO (Nat.lt_trans hi hn) h0 hi).2
  have htn : ∀ i : Nat, i < y.nb → 0 < i → (O.bin .sub .i64 (Int.ofNat i) 1).toNat = i - 1 := fun i hi h0 => by
    have := natsub1 hO (Nat.lt_trans hi hn) h0
    subst hO; exact this
  have hbad1 : ∀ i, i < y.nb → y.endR f i = true → y.fitB f = false := fun i hi h => fitB_no fun hq => by
    have := (fitB_iff.1 hq).1 i hi
    rw [h] at this; cases this
  have hbad2 : ∀ (w : Nat) (i : Nat), (w : Int) ≤ y.last → i < y.nb → y.eR f i w = true → 0 < i → y.eR f (i - 1) w = true → y.fitB f = false := fun w i hw hi h1 h2 h3 => fitB_no fun hq => by
    have := ((fitB_iff.1 hq).2 w hw).1 i hi
    unfold YardD.adjR at this
    rw [h1, h3, decide_eq_true h2] at this; cases this
  have hbad3 : ∀ (w : Nat), (w : Int) ≤ y.last → ¬ (y.cntR f w y.nb : Int) ≤ y.hands → y.fitB f = false := fun w hw h => fitB_no fun hq => h ((fitB_iff.1 hq).2 w hw).2
  have hgood : (∀ i, i < y.nb → y.endR f i = false) → (∀ w : Nat, (w : Int) ≤ y.last → (∀ i, i < y.nb → y.adjR f w i = false) ∧ (y.cntR f w y.nb : Int) ≤ y.hands) → y.fitB f = true := fun h1 h2 => fitB_iff.2 ⟨h1, h2⟩
  have hend : ∀ i : Nat, y.endR f i = (decide (0 ≤ f (O.nat (Int.ofNat i))) && O.cmp .gtr (O.bin .sub .i64 (O.bin .add .i64 (f (O.nat (Int.ofNat i))) (y.lng (O.nat (Int.ofNat i)))) 1) y.last) := fun i => by rw [hnat]; subst hO; rfl
  have hcl := fun w => cntR_le y f w
  have hcs : ∀ w i, y.cntR f w (i + 1) = if y.eR f i w = true then y.cntR f w i + 1 else y.cntR f w i := fun w i => rfl
  have hc0 : ∀ w, y.cntR f w 0 = 0 := fun w => rfl
  have hadj : ∀ w i, y.adjR f w i = (y.eR f i w && (decide (0 < i) && y.eR f (i - 1) w)) := fun w i => rfl
  generalize y.fitB f = Q at hbad1 hbad2 hbad3 hgood ⊢
  generalize y.cntR f = C at hcl hcs hc0 hbad3 hgood
  generalize y.adjR f = A at hadj hgood
  generalize y.eR f = E at e49 e49b hcs hadj hbad2
  refine pure_of_body tok 3 Try.func67 en67 rfl ⟨yardV_below y, intsV_below _ _ _, trivial⟩ Below.sb ?_
  refine SW.seqRun tok hO (by cbv <;> rfl) (by trivial) ?_
  refine SW.seq ?_
  refine SW.seqRun tok hO (by cbv <;> rfl) (by trivial) ?_
  refine (SW.block (SW.loopF (fun i : Nat => ⟨⟨71, getT [(1, intsV y.nb ex f), (2, .ptr 0 0), (5, iV i)]⟩, []⟩) (fun _ => ⟨[(0, .cells none false (yardC y))], 1⟩) (fun i => y.nb - i) (fun i => i ≤ y.nb ∧ ∀ j, j < i → y.endR f j = false) 0
    (fun _ => rfl) ⟨Nat.zero_le _, fun j hj => absurd hj (Nat.not_lt_zero _)⟩ (Weak.by rfl rfl (by simp) (Nat.le_refl _) (Nat.le_refl _) ⟨⟨rfl, .inl rfl⟩, ⟨rfl, .inl rfl⟩, ⟨rfl, .inl rfl⟩, trivial⟩ ⟨⟨rfl, by omega, .inl rfl⟩, trivial⟩) fun i hi => ?_))
  obtain ⟨hi, hall⟩ := hi
  refine SW.seq ?_
  refine SW.seqRun tok hO (by cbv <;> rfl) (by trivial) ?_
  refine SW.condS (by cbv <;> rfl) (fun h => SW.skip ?_) (fun h => SW.exit ?_)
  · have hlt : i < y.nb := by
      have : (i : Int) < (y.nb : Int) := by subst hO; simpa [std] using h
      omega
    have hin : (0 : Int) ≤ Int.ofNat i ∧ Int.ofNat i < Int.ofNat y.nb := ⟨Int.natCast_nonneg i, Int.ofNat_lt.2 hlt⟩
    have hei := hend i
    have hnext : y.endR f i = false → ∀ j, j < i + 1 → y.endR f j = false := fun h j hj => by
      by_cases e : j = i
      · rw [e]; exact h
      · exact hall j (by omega)
    refine SW.seq (SW.block ?_)
    refine SW.seqRunD tok mixed hO (by kernel_rfl) (by cbv <;> rfl) (by repeat (first | exact trivial | exact hin | refine ⟨?_, ?_⟩)) ?_
    refine AnyE.dec tok hO (by kernel_rfl) (by cbv <;> rfl) (by trivial) (fun h2 => ?_) (fun h2 => ?_)
    · have hp : 0 ≤ f (O.nat (Int.ofNat i)) := by subst hO; simpa [std] using h2
      rw [decide_eq_true hp, Bool.true_and] at hei
      refine AnyE.run tok hO (by kernel_rfl) (by cbv <;> rfl) (by repeat (first | exact trivial | exact hin | refine ⟨?_, ?_⟩)) ?_
      refine AnyE.dec tok hO (by kernel_rfl) (by cbv <;> rfl) (by trivial) (fun h3 => ?_) (fun h3 => ?_)
      · refine AnyE.run tok hO (by kernel_rfl) (by cbv <;> rfl) (by trivial) ?_
        refine SW.cond (t := true) (by cbv <;> rfl) ?_
        refine SW.seqRun tok hO (by cbv <;> rfl) (by trivial) ?_
        refine SW.ret ⟨_, _, rfl, rfl, Eqv.bool (Eq.symm ?_)⟩
        exact hbad1 i hlt (hei.trans h3)
      · refine AnyE.run tok hO (by kernel_rfl) (by cbv <;> rfl) (by trivial) ?_
        refine SW.cond (t := false) (by cbv <;> rfl) (SW.skip ?_)
        refine SW.run tok hO (by cbv <;> rfl) (by trivial) ?_
        exact ⟨i + 1, by omega, ⟨by omega, hnext (hei.trans h3)⟩, Weak.by rfl rfl (by simp) (Nat.le_refl _) (Nat.le_refl _) ⟨⟨rfl, .inl rfl⟩, ⟨rfl, .inl rfl⟩, ⟨inc_ok hO (by omega), .inl rfl⟩, trivial⟩ ⟨⟨rfl, by omega, .inl rfl⟩, trivial⟩⟩
    · have hp : ¬ 0 ≤ f (O.nat (Int.ofNat i)) := by subst hO; simpa [std] using h2
      rw [decide_eq_false hp, Bool.false_and] at hei
      refine AnyE.run tok hO (by kernel_rfl) (by cbv <;> rfl) (by trivial) ?_
      refine SW.cond (t := false) (by cbv <;> rfl) (SW.skip ?_)
      refine SW.run tok hO (by cbv <;> rfl) (by trivial) ?_
      exact ⟨i + 1, by omega, ⟨by omega, hnext hei⟩, Weak.by rfl rfl (by simp) (Nat.le_refl _) (Nat.le_refl _) ⟨⟨rfl, .inl rfl⟩, ⟨rfl, .inl rfl⟩, ⟨inc_ok hO (by omega), .inl rfl⟩, trivial⟩ ⟨⟨rfl, by omega, .inl rfl⟩, trivial⟩⟩
  have hie : i = y.nb := by
    have : (y.nb : Int) ≤ (i : Int) := by subst hO; simpa [std] using h
    omega
  rw [hie] at hall
  have hgood := hgood hall
  clear hbad1 hend hall
  refine SW.seq ?_
  refine SW.seqRun tok hO (by cbv <;> rfl) (by trivial) ?_
  refine (SW.block (SW.loopF (fun w : Nat => ⟨⟨71, getT [(1, intsV y.nb ex f), (2, .ptr 0 0), (6, iV w)]⟩, []⟩) (fun _ => ⟨[(0, .cells none false (yardC y))], 1⟩) (fun w => (y.last + 1 - w).toNat) (fun w => ∀ v : Nat, v < w → (v : Int) ≤ y.last → (∀ i, i < y.nb → A v i = false) ∧ (C v y.nb : Int) ≤ y.hands) 0
    (fun _ => rfl) (fun v hv => absurd hv (Nat.not_lt_zero _)) (Weak.by rfl rfl (by simp) (Nat.le_refl _) (Nat.le_refl _) ⟨⟨rfl, .inl rfl⟩, ⟨rfl, .inl rfl⟩, ⟨rfl, .inl rfl⟩, trivial⟩ ⟨⟨rfl, by omega, .inl rfl⟩, trivial⟩) fun w hw => ?_))
  refine SW.seq ?_
  refine SW.seqRun tok hO (by cbv <;> rfl) (by trivial) ?_
  refine SW.condS (by cbv <;> rfl) (fun h => SW.skip ?_) (fun h => SW.exit ?_)
  rotate_left
  · have hwl : ¬ (w : Int) ≤ y.last := by
      have : y.last < (w : Int) := by subst hO; simpa [std] using h
      omega
    refine SW.seqRun tok hO (by cbv <;> rfl) (by trivial) ?_
    refine SW.ret ⟨_, _, rfl, rfl, Eqv.bool (Eq.symm ?_)⟩
    exact hgood fun v hv => hw v (by omega) hv
  have hwl : (w : Int) ≤ y.last := by subst hO; simpa [std] using h
  refine SW.seq (SW.block ?_)
  refine SW.seqRun tok hO (by cbv <;> rfl) (by trivial) ?_
  refine SW.seq ?_
  refine SW.seqRun tok hO (by cbv <;> rfl) (by trivial) ?_
  refine (SW.block (SW.loopF (fun i : Nat => ⟨⟨71, getT [(1, intsV y.nb ex f), (2, .ptr 0 0), (6, iV w), (7, iV (Int.ofNat (C w i))), (8, iV i)]⟩, []⟩) (fun _ => ⟨[(0, .cells none false (yardC y))], 1⟩) (fun i => y.nb - i) (fun i => i ≤ y.nb ∧ ∀ j, j < i → A w j = false) 0
    (fun _ => rfl) ⟨Nat.zero_le _, fun j hj => absurd hj (Nat.not_lt_zero _)⟩ (Weak.by rfl rfl (by simp) (Nat.le_refl _) (Nat.le_refl _) ⟨⟨rfl, .inl rfl⟩, ⟨rfl, .inl rfl⟩, ⟨rfl, .inl rfl⟩, ⟨by rw [hc0]; rfl, .inl rfl⟩, ⟨rfl, .inl rfl⟩, trivial⟩ ⟨⟨rfl, by omega, .inl rfl⟩, trivial⟩) fun i hi => ?_))
  obtain ⟨hi, hall⟩ := hi
  refine SW.seq ?_
  refine SW.seqRun tok hO (by cbv <;> rfl) (by trivial) ?_
  refine SW.condS (by cbv <;> rfl) (fun h => SW.skip ?_) (fun h => SW.exit ?_)
  · have hlt : i < y.nb := by
      have : (i : Int) < (y.nb : Int) := by subst hO; simpa [std] using h
      omega
    have hcw := hcs w i
    have had := hadj w i
    have hci := hcl w i
    have hcb : C w i < 4611686018427387904 := Nat.lt_of_le_of_lt hci (by omega)
    have e49 := e49 i hlt w
    have e49b := e49b i hlt
    have htn := htn i hlt
    have hti : (Int.ofNat i).toNat = i := rfl
    rw [hti] at e49
    obtain ⟨B, hB⟩ : ∃ B, E i w = B := ⟨_, rfl⟩
    rw [hB] at e49 hcw had
    have hnext : A w i = false → ∀ j, j < i + 1 → A w j = false := fun h j hj => by
      by_cases e : j = i
      · rw [e]; exact h
      · exact hall j (by omega)
    refine SW.seq (SW.block ?_)
    refine SW.seq ?_
    refine SW.seqRun tok hO (by cbv <;> rfl) (by trivial) ?_
    refine OpsW.callP e49 (by cbv <;> rfl) ?_
    refine OpsW.run tok hO (by cbv <;> rfl) (by trivial) ?_
    refine SW.condS (by cbv <;> rfl) (fun h2 => ?_) (fun h2 => SW.skip ?_)
    · have hBf : B = false := by subst hO; simpa [std] using h2
      rw [hBf, if_neg (by decide)] at hcw
      rw [hBf, Bool.false_and] at had
      refine SW.exit ?_
      refine SW.run tok hO (by cbv <;> rfl) (by trivial) ?_
      exact ⟨i + 1, by omega, ⟨by omega, hnext had⟩, Weak.by rfl rfl (by simp) (Nat.le_refl _) (Nat.le_refl _) ⟨⟨rfl, .inl rfl⟩, ⟨rfl, .inl rfl⟩, ⟨rfl, .inl rfl⟩, ⟨by rw [hcw]; rfl, .inl rfl⟩, ⟨inc_ok hO (by omega), .inl rfl⟩, trivial⟩ ⟨⟨rfl, by omega, .inl rfl⟩, trivial⟩⟩
    · have hBt : B = true := by subst hO; simpa [std] using h2
      rw [hBt, if_pos rfl] at hcw
      rw [hBt, Bool.true_and] at had
      refine SW.seqRun tok hO (by cbv <;> rfl) (by trivial) ?_
      refine SW.seqRun tok hO (by cbv <;> rfl) (by trivial) ?_
      refine OpsW.splitG (by cbv <;> rfl) (fun h3 => ?_) (fun h3 => ?_)
      · have hi0 : 0 < i := gtr0 hO h3
        rw [decide_eq_true hi0, Bool.true_and] at had
        have e49b := e49b hi0 w
        rw [htn hi0] at e49b
        obtain ⟨B2, hB2⟩ : ∃ B, E (i - 1) w = B := ⟨_, rfl⟩
        rw [hB2] at e49b had
        refine OpsW.run tok hO (by cbv <;> rfl) (by trivial) ?_
        refine OpsW.callP e49b (by cbv <;> rfl) ?_
        refine OpsW.run tok hO (by cbv <;> rfl) (by trivial) ?_
        refine SW.condS (by cbv <;> rfl) (fun h4 => ?_) (fun h4 => SW.skip ?_)
        · have hB2t : B2 = true := h4
          refine SW.seqRun tok hO (by cbv <;> rfl) (by trivial) ?_
          refine SW.ret ⟨_, _, rfl, rfl, Eqv.bool (Eq.symm ?_)⟩
          exact hbad2 w i hwl hlt (hB.trans hBt) hi0 (hB2.trans hB2t)
        · have hB2f : B2 = false := h4
          rw [hB2f] at had
          refine SW.run tok hO (by cbv <;> rfl) (by trivial) ?_
          exact ⟨i + 1, by omega, ⟨by omega, hnext had⟩, Weak.by rfl rfl (by simp) (Nat.le_refl _) (Nat.le_refl _) ⟨⟨rfl, .inl rfl⟩, ⟨rfl, .inl rfl⟩, ⟨rfl, .inl rfl⟩, ⟨by rw [hcw]; exact inc_ok hO hcb, .inl rfl⟩, ⟨inc_ok hO (by omega), .inl rfl⟩, trivial⟩ ⟨⟨rfl, by omega, .inl rfl⟩, trivial⟩⟩
      · have hi0 : ¬ 0 < i := fun h0 => by
          have : ¬ (i : Int) > 0 := by subst hO; simpa [std] using h3
          omega
        rw [decide_eq_false hi0, Bool.false_and] at had
        refine OpsW.run tok hO (by cbv <;> rfl) (by trivial) ?_
        refine SW.cond (t := false) (by cbv <;> rfl) (SW.skip ?_)
        refine SW.run tok hO (by cbv <;> rfl) (by trivial) ?_
        exact ⟨i + 1, by omega, ⟨by omega, hnext had⟩, Weak.by rfl rfl (by simp) (Nat.le_refl _) (Nat.le_refl _) ⟨⟨rfl, .inl rfl⟩, ⟨rfl, .inl rfl⟩, ⟨rfl, .inl rfl⟩, ⟨by rw [hcw]; exact inc_ok hO hcb, .inl rfl⟩, ⟨inc_ok hO (by omega), .inl rfl⟩, trivial⟩ ⟨⟨rfl, by omega, .inl rfl⟩, trivial⟩⟩
  have hie : i = y.nb := by
    have : (y.nb : Int) ≤ (i : Int) := by subst hO; simpa [std] using h
    omega
  subst hie
  refine SW.seqRun tok hO (by cbv <;> rfl) (by trivial) ?_
  refine SW.condS (by cbv <;> rfl) (fun h2 => ?_) (fun h2 => SW.skip ?_)
  · have hm : ¬ (C w y.nb : Int) ≤ y.hands := by
      have : y.hands < (C w y.nb : Int) := by subst hO; simpa [std] using h2
      omega
    refine SW.seqRun tok hO (by cbv <;> rfl) (by trivial) ?_
    refine SW.ret ⟨_, _, rfl, rfl, Eqv.bool (Eq.symm ?_)⟩
    exact hbad3 w hwl hm
  · have hm : (C w y.nb : Int) ≤ y.hands := by subst hO; simpa [std] using h2
    refine SW.run tok hO (by cbv <;> rfl) (by trivial) ?_
    refine ⟨w + 1, by omega, fun v hv hvl => ?_, Weak.by rfl rfl (by simp) (Nat.le_refl _) (Nat.le_refl _) ⟨⟨rfl, .inl rfl⟩, ⟨rfl, .inl rfl⟩, ⟨inc_ok hO (by omega), .inl rfl⟩, trivial⟩ ⟨⟨rfl, by omega, .inl rfl⟩, trivial⟩⟩
    by_cases e : v = w
    · rw [e]; exact ⟨hall, hm⟩
    · exact hw v (by omega) hvl
end Go.Fz
set_option linter.unusedVariables false
namespace Go.Fz
open Go.Proofs
set_option maxRecDepth 100000
def YardD.nR (y : YardD) (b n : Int) : Nat → Int
  | 0 => n
  | i + 1 => if bitB b i = true then std.bin .quo .i64 (y.nR b n i) (size64 (y.blo i) (y.bhi i)) else y.nR b n i
def YardD.nF (y : YardD) (b n : Int) (i : Nat) : Int := if bitB b i = true then std.bin .add .i64 (y.blo i) (std.bin .rem .i64 (y.nR b n i) (size64 (y.blo i) (y.bhi i))) else -1
theorem zero_fin6 : ∀ (o : Fin 64) (i : Fin 6), std.cmp .eql (std.bin .rem .i64 (std.bin .shr .i64 (o.1 : Int) (std.conv .u64 (i.1 : Int))) 2) 0 = !bitB (o.1 : Int) i.1 := by decide +kernel
theorem bit_zero {b : Int} (b0 : 0 ≤ b) (b1 : b < 64) {i : Nat} (hi : i < 6) : std.cmp .eql (std.bin .rem .i64 (std.bin .shr .i64 b (std.conv .u64 (i : Int))) 2) 0 = !bitB b i := by
  have h := zero_fin6 ⟨b.toNat, by omega⟩ ⟨i, hi⟩
  have e : ((b.toNat : Nat) : Int) = b := by omega
  simp only [e] at h
  exact h
set_option maxHeartbeats 16000000 in
theorem nth_ok (y : YardD) (hfit : y.Fit) (b n : Int) (b0 : 0 ≤ b) (b1 : b < 64) : Pure Try.prog 46 [yardV y, iV b, iV n] (intsV y.nb false (y.nF b n)) := by
  obtain ⟨O, hO⟩ : ∃ O : Ar, O = std := ⟨_, rfl⟩
  have hnat : ∀ i : Nat, O.nat (Int.ofNat i) = i := fun i => by subst hO; rfl
  have hn := hfit.nb
  have hbz : ∀ i, i < 6 → O.cmp .eql (O.bin .rem .i64 (O.bin .shr .i64 b (O.conv .u64 (Int.ofNat i))) 2) 0 = !bitB b i := fun i hi => by subst hO; exact bit_zero b0 b1 hi
  have hRs : ∀ i, y.nR b n (i + 1) = if bitB b i = true then O.bin .quo .i64 (y.nR b n i) (O.bin .add .i64 (O.bin .sub .i64 (y.bhi i) (y.blo i)) 1) else y.nR b n i := fun i => by subst hO; rfl
  have hFv : ∀ i, y.nF b n i = if bitB b i = true then O.bin .add .i64 (y.blo i) (O.bin .rem .i64 (y.nR b n i) (O.bin .add .i64 (O.bin .sub .i64 (y.bhi i) (y.blo i)) 1)) else -1 := fun i => by subst hO; rfl
  have hsz : ∀ i, i < y.nb → O.bin .add .i64 (O.bin .sub .i64 (y.bhi i) (y.blo i)) 1 ≠ 0 := fun i hi => by
    have hr := hfit.beg i hi
    subst hO
    show size64 (y.blo i) (y.bhi i) ≠ 0
    rw [size_in hr]; omega
  have hR0 : y.nR b n 0 = n := rfl
  generalize y.nF b n = F at hFv ⊢
  generalize y.nR b n = R at hRs hFv hR0
  generalize bitB b = T at hbz hRs hFv
  refine pure_of_body tok 3 Try.func46 en46 rfl ⟨yardV_below y, Below.lit, Below.lit, trivial⟩ (intsV_below _ _ _) ?_
  refine SW.seqRun tok hO (by cbv <;> rfl) (by trivial) ?_
  refine SW.seqRun tok hO (by cbv <;> rfl) (by trivial) ?_
  refine SW.seq ?_
  refine SW.seqRun tok hO (by cbv <;> rfl) (by trivial) ?_
  refine (SW.block (SW.loopR (fun i : Nat => ⟨⟨55, getT [(1, iV b), (2, iV (R i)), (3, .ptr 0 0), (7, slG 1 1 i), (8, iV i)]⟩, []⟩) (fun i => ⟨[(0, .cells none false (yardC y))] ++ objG 1 1 (intC F) i, 2⟩) (fun i => y.nb - i) (fun i => i ≤ y.nb) 0 (Nat.zero_le _) (ren1 1 1) ?_ fun i hi => ?_))
  · rw [hR0]
    exact WeakR.up rfl rfl (by simp) (Nat.le_refl _) (.inl rfl) (by show 1 ≤ 2; omega) ⟨RenV.closed Below.lit, RenV.closed Below.lit, RenV.ptr (by omega), RenV.closed Below.lit, RenV.closed Below.lit, trivial⟩ ⟨⟨by omega, _, rfl, .cells (RenVs.closed (yardC_below y)), .inr rfl⟩, trivial⟩ (fun p hp => by cases hp)
  have hRi := hRs i
  have hFi := hFv i
  obtain ⟨r, hr⟩ : ∃ r, R i = r := ⟨_, rfl⟩
  rw [hr] at hRi hFi
  show SW _ _ _ _ ⟨⟨55, getT [(1, iV b), (2, iV (R i)), (3, .ptr 0 0), (7, slG 1 1 i), (8, iV i)]⟩, []⟩ _
  rw [hr]
  cases i with
  | zero =>
    refine SW.seq ?_
    refine SW.seqRun tok hO (by cbv <;> rfl) (by trivial) ?_
    refine SW.condS (by cbv <;> rfl) (fun h => SW.skip ?_) (fun h => ?_)
    · have hlt : 0 < y.nb := by subst hO; simpa [std] using h
      have h0 : (0 : Int) ≤ Int.ofNat (0) := Int.natCast_nonneg _
      have hin : (0 : Int) ≤ Int.ofNat (0) ∧ Int.ofNat (0) < Int.ofNat y.nb := ⟨h0, Int.ofNat_lt.2 hlt⟩
      have hc0 : 0 ≤ O.conv .u64 (Int.ofNat (0)) := conv0 hO (by omega)
      have hbz := hbz (0) (by omega)
      have hsz := hsz (0) hlt
      have hni : O.nat (Int.ofNat (0)) = 0 := hnat _
      rw [← hni] at hsz
      refine SW.seq (SW.block ?_)
      refine SW.seq ?_
      refine SW.seqRun tok hO (by cbv <;> rfl) (by first | exact ⟨hc0, (by decide : (2 : Int) ≠ 0)⟩ | exact ⟨(by decide : (2 : Int) ≠ 0), hc0⟩) ?_
      refine SW.condS (by cbv <;> rfl) (fun h1 => ?_) (fun h1 => SW.skip ?_)
      · have hT : T (0) = false := by
          have h2 : (!T (0)) = true := hbz.symm.trans h1
          simpa using h2
        rw [hT, if_neg (by decide)] at hRi hFi
        refine SW.seq (SW.runN tok hO 2 (by cbv <;> rfl) (by trivial) ?_)
        refine OpsW.appNil tok (by cbv <;> rfl) (by rfl) (by kernel_rfl) (by rfl) (by rfl) ?_
        refine OpsW.run tok hO (by cbv <;> rfl) (by trivial) ?_
        refine SW.exit ?_
        refine SW.run tok hO (by cbv <;> rfl) (by trivial) ?_
        refine ⟨1, by omega, by omega, ren1 1 3, ?_⟩
        rw [show R (1) = _ from hRi]
        refine WeakR.up rfl rfl (by simp) (Nat.le_refl _) (.inr (by omega)) (by show 1 ≤ 2; omega) ⟨RenV.closed Below.lit, RenV.closed Below.lit, RenV.ptr (by omega), RenV.sl (by omega), RenV.inc hO (by omega), trivial⟩ ⟨⟨by omega, _, rfl, .cells (RenVs.closed (yardC_below y)), .inr rfl⟩, trivial⟩ (fun p hp => ?_)
        obtain rfl := objG_mem hp
        exact ⟨by omega, _, rfl, .cells (RenVs.of_eq (congrArg (fun v => [iV v]) hFi.symm) (flatG_below (intC_below F) 1)), .inl rfl⟩
      · have hT : T (0) = true := by
          have h2 : (!T (0)) = false := hbz.symm.trans h1
          simpa using h2
        rw [hT, if_pos rfl] at hRi hFi
        have hRi : R (1) = O.bin .quo .i64 r (O.bin .add .i64 (O.bin .sub .i64 (y.bhi (O.nat (Int.ofNat (0)))) (y.blo (O.nat (Int.ofNat (0))))) 1) := by rw [hni]; exact hRi
        have hFi : F (0) = O.bin .add .i64 (y.blo (O.nat (Int.ofNat (0)))) (O.bin .rem .i64 r (O.bin .add .i64 (O.bin .sub .i64 (y.bhi (O.nat (Int.ofNat (0)))) (y.blo (O.nat (Int.ofNat (0))))) 1)) := by rw [hni]; exact hFi
        refine SW.seqRun tok hO (by cbv <;> rfl) (by repeat (first | exact trivial | exact hin | refine ⟨?_, ?_⟩)) ?_
        refine SW.seqRunD tok mixed hO (by kernel_rfl) (by cbv <;> rfl) (by repeat (first | exact trivial | exact hsz | refine ⟨?_, ?_⟩)) ?_
        refine AnyE.effK tok hO (by cbv <;> rfl) (by cbv <;> rfl) (by trivial) ?_ ?_
        · exact ⟨by cbv <;> rfl, trivial⟩
        refine AnyE.appNil tok (by cbv <;> rfl) (by cbv <;> rfl) (by rfl) (by kernel_rfl) (by rfl) (by rfl) ?_
        refine AnyE.run tok hO (by rfl) (by cbv <;> rfl) (by trivial) ?_
        refine SW.run tok hO (by cbv <;> rfl) (by repeat (first | exact trivial | exact hsz | refine ⟨?_, ?_⟩)) ?_
        refine SW.run tok hO (by cbv <;> rfl) (by trivial) ?_
        refine ⟨1, by omega, by omega, ren1 1 4, ?_⟩
        rw [show R (1) = _ from hRi]
        refine WeakR.up rfl rfl (by simp) (Nat.le_refl _) (.inr (by omega)) (by show 1 ≤ 2; omega) ⟨RenV.closed Below.lit, RenV.closed Below.lit, RenV.ptr (by omega), RenV.sl (by omega), RenV.inc hO (by omega), trivial⟩ ⟨⟨by omega, _, rfl, .cells (RenVs.closed (yardC_below y)), .inr rfl⟩, trivial⟩ (fun p hp => ?_)
        obtain rfl := objG_mem hp
        exact ⟨by omega, _, rfl, .cells (RenVs.of_eq (congrArg (fun v => [iV v]) hFi.symm) (flatG_below (intC_below F) 1)), .inl rfl⟩
    · have hz : y.nb = 0 := by
        have : y.nb ≤ 0 := by subst hO; simpa [std] using h
        omega
      refine SW.exit ?_
      refine SW.seqRun tok hO (by cbv <;> rfl) (by trivial) ?_
      refine SW.ret ⟨_, _, rfl, rfl, ?_⟩
      rw [hz]; exact Eqv.nil
  | succ i =>
    obtain ⟨G, hG⟩ : ∃ G, G = flatG 1 (intC F) (i + 1) := ⟨_, rfl⟩
    have hGo : objG 1 1 (intC F) (i + 1) = [(1, .cells none false G)] := by rw [hG]; rfl
    show SW _ _ _ _ _ ⟨[(0, .cells none false (yardC y))] ++ objG 1 1 (intC F) (i + 1), 2⟩
    rw [hGo]
    refine SW.seq ?_
    refine SW.seqRun tok hO (by cbv <;> rfl) (by trivial) ?_
    refine SW.condS (by cbv <;> rfl) (fun h => SW.skip ?_) (fun h => ?_)
    · have hlt : i + 1 < y.nb := by
        have : ((i + 1 : Nat) : Int) < (y.nb : Int) := by subst hO; simpa [std] using h
        omega
      have h0 : (0 : Int) ≤ Int.ofNat (i + 1) := Int.natCast_nonneg _
      have hin : (0 : Int) ≤ Int.ofNat (i + 1) ∧ Int.ofNat (i + 1) < Int.ofNat y.nb := ⟨h0, Int.ofNat_lt.2 hlt⟩
      have hc0 : 0 ≤ O.conv .u64 (Int.ofNat (i + 1)) := conv0 hO (by omega)
      have hbz := hbz (i + 1) (by omega)
      have hsz := hsz (i + 1) hlt
      have hni : O.nat (Int.ofNat (i + 1)) = i + 1 := hnat _
      rw [← hni] at hsz
      refine SW.seq (SW.block ?_)
      refine SW.seq ?_
      refine SW.seqRun tok hO (by cbv <;> rfl) (by first | exact ⟨hc0, (by decide : (2 : Int) ≠ 0)⟩ | exact ⟨(by decide : (2 : Int) ≠ 0), hc0⟩) ?_
      refine SW.condS (by cbv <;> rfl) (fun h1 => ?_) (fun h1 => SW.skip ?_)
      · have hT : T (i + 1) = false := by
          have h2 : (!T (i + 1)) = true := hbz.symm.trans h1
          simpa using h2
        rw [hT, if_neg (by decide)] at hRi hFi
        refine SW.seq (SW.runN tok hO 2 (by cbv <;> rfl) (by trivial) ?_)
        refine OpsW.appOne (g := intC F) tok (by cbv <;> rfl) (by rfl) (by rfl) hG (by kernel_rfl) (by rfl) (by rfl) (by omega) fun G' hG' => ?_
        refine OpsW.run tok hO (by cbv <;> rfl) (by trivial) ?_
        refine SW.exit ?_
        refine SW.run tok hO (by cbv <;> rfl) (by trivial) ?_
        refine ⟨i + 1 + 1, by omega, by omega, ren1 1 3, ?_⟩
        rw [show R (i + 1 + 1) = _ from hRi]
        refine WeakR.up rfl rfl (by simp) (Nat.le_refl _) (.inr (by omega)) (by show 1 ≤ 2; omega) ⟨RenV.closed Below.lit, RenV.closed Below.lit, RenV.ptr (by omega), RenV.sl (by omega), RenV.inc hO (by omega), trivial⟩ ⟨⟨by omega, _, rfl, .cells (RenVs.closed (yardC_below y)), .inr rfl⟩, trivial⟩ (fun p hp => ?_)
        obtain rfl := objG_mem hp
        exact ⟨by omega, _, rfl, .cells (RenVs.of_eq (hG'.trans (flatG_snoc F (i + 1) _ hFi.symm)) (flatG_below (intC_below F) (i + 1 + 1))), .inl rfl⟩
      · have hT : T (i + 1) = true := by
          have h2 : (!T (i + 1)) = false := hbz.symm.trans h1
          simpa using h2
        rw [hT, if_pos rfl] at hRi hFi
        have hRi : R (i + 1 + 1) = O.bin .quo .i64 r (O.bin .add .i64 (O.bin .sub .i64 (y.bhi (O.nat (Int.ofNat (i + 1)))) (y.blo (O.nat (Int.ofNat (i + 1))))) 1) := by rw [hni]; exact hRi
        have hFi : F (i + 1) = O.bin .add .i64 (y.blo (O.nat (Int.ofNat (i + 1)))) (O.bin .rem .i64 r (O.bin .add .i64 (O.bin .sub .i64 (y.bhi (O.nat (Int.ofNat (i + 1)))) (y.blo (O.nat (Int.ofNat (i + 1))))) 1)) := by rw [hni]; exact hFi
        refine SW.seqRun tok hO (by cbv <;> rfl) (by repeat (first | exact trivial | exact hin | refine ⟨?_, ?_⟩)) ?_
        refine SW.seqRunD tok mixed hO (by kernel_rfl) (by cbv <;> rfl) (by repeat (first | exact trivial | exact hsz | refine ⟨?_, ?_⟩)) ?_
        refine AnyE.effK tok hO (by cbv <;> rfl) (by cbv <;> rfl) (by trivial) ?_ ?_
        · exact ⟨by cbv <;> rfl, trivial⟩
        refine AnyE.appOne (g := intC F) tok (by cbv <;> rfl) (by cbv <;> rfl) (by rfl) (by rfl) hG (by kernel_rfl) (by rfl) (by rfl) (by omega) fun G' hG' => ?_
        refine AnyE.run tok hO (by rfl) (by cbv <;> rfl) (by trivial) ?_
        refine SW.run tok hO (by cbv <;> rfl) (by repeat (first | exact trivial | exact hsz | refine ⟨?_, ?_⟩)) ?_
        refine SW.run tok hO (by cbv <;> rfl) (by trivial) ?_
        refine ⟨i + 1 + 1, by omega, by omega, ren1 1 4, ?_⟩
        rw [show R (i + 1 + 1) = _ from hRi]
        refine WeakR.up rfl rfl (by simp) (Nat.le_refl _) (.inr (by omega)) (by show 1 ≤ 2; omega) ⟨RenV.closed Below.lit, RenV.closed Below.lit, RenV.ptr (by omega), RenV.sl (by omega), RenV.inc hO (by omega), trivial⟩ ⟨⟨by omega, _, rfl, .cells (RenVs.closed (yardC_below y)), .inr rfl⟩, trivial⟩ (fun p hp => ?_)
        obtain rfl := objG_mem hp
        exact ⟨by omega, _, rfl, .cells (RenVs.of_eq (hG'.trans (flatG_snoc F (i + 1) _ hFi.symm)) (flatG_below (intC_below F) (i + 1 + 1))), .inl rfl⟩
    · have hz : y.nb = i + 1 := by
        have : (y.nb : Int) ≤ ((i + 1 : Nat) : Int) := by subst hO; simpa [std] using h
        omega
      have hlG : (i + 1) * 1 ≤ G.length := by rw [hG, flatG_length]; omega
      refine SW.exit ?_
      refine SW.seqRun tok hO (by cbv <;> rfl) (by trivial) ?_
      refine SW.ret ⟨_, _, rfl, rfl, ?_⟩
      show Eqv (frz _ _ 3 (.sl 1 0 (i + 1) 1 false)) (.isl y.nb 1 false (intC F))
      rw [hz, frz_slE (fm := none) (G := G) rfl rfl hlG, hG]
      exact Eqv.isl rfl fun i' k hi' hk => Eqv.of (frz_flat hi' hk rfl)
end Go.Fz
set_option linter.unusedVariables false
namespace Go.Fz
open Go.Proofs
set_option maxRecDepth 100000
def prodZ (s : Nat → Int) : Nat → Int
  | 0 => 1
  | i + 1 => prodZ s i * s i
theorem prN_prod {lo hi : Nat → Int} {n : Nat} (hn : n ≤ 6) (hr : ∀ i, i < n → 0 ≤ lo i ∧ lo i ≤ hi i ∧ hi i ≤ 9) : ∀ i, i ≤ n → prN lo hi i = prodZ (fun i => hi i - lo i + 1) i ∧ 1 ≤ prN lo hi i ∧ prN lo hi i ≤ 10 ^ i
  | 0, _ => ⟨rfl, Int.le_refl _, Int.le_refl _⟩
  | i + 1, h => by
    obtain ⟨a1, a2, a3⟩ := prN_prod hn hr i (by omega)
    have r := prN_le hn hr hr (fun i hi => Int.le_refl _) (i + 1) h
    have hp : (10 : Int) ^ i ≤ 1000000 ∧ 1 ≤ (10 : Int) ^ i := ten_pow ⟨i, by omega⟩
    have r1 := hr i (by omega)
    refine ⟨?_, r.1, r.2.2⟩
    show mul64 (prN lo hi i) (size64 (lo i) (hi i)) = prodZ (fun i => hi i - lo i + 1) i * (hi i - lo i + 1)
    rw [← a1, size_in r1]
    have b1 : prN lo hi i * (hi i - lo i + 1) ≤ 10 ^ i * 10 := Int.mul_le_mul a3 (by omega) (by omega) (by omega)
    have b2 : 1 * 1 ≤ prN lo hi i * (hi i - lo i + 1) := Int.mul_le_mul a2 (by omega) (by omega) (by omega)
    have b4 : (10 : Int) ^ i * 10 ≤ 10000000 := by omega
    exact mul64_in _ _ (by omega) (by omega)
theorem check_zero {y : YardD} : y.check = 0 ↔ y.long = false ∧ y.validB = true ∧ prN y.blo y.bhi y.nb ≤ 2000 := by
  unfold YardD.check
  constructor
  · intro h
    split at h
    · omega
    · rename_i a1
      split at h
      · rename_i a2
        split at h
        · omega
        · exact ⟨by simpa using a1, a2, by omega⟩
      · omega
  · rintro ⟨h1, h2, h3⟩
    rw [if_neg (by rw [h1]; simp), if_pos h2, if_neg (by omega)]
theorem valid_iff {y : YardD} : y.validB = true ↔ 0 ≤ y.last ∧ 1 ≤ y.hands ∧ (∀ i, i < y.nb → (1 ≤ y.lng i ∧ y.lng i ≤ 3) ∧ 0 ≤ y.blo i ∧ y.blo i ≤ y.bhi i ∧ y.bhi i ≤ y.last) ∧ ∀ i, i < y.nc → (0 ≤ y.cb i ∧ y.cb i < y.nb) ∧ 0 ≤ y.clo i ∧ y.clo i ≤ y.chi i ∧ y.chi i ≤ y.last := by
  unfold YardD.validB allN
  simp only [Bool.and_eq_true, decide_eq_true_eq, YardD.bedOk, YardD.clmOk, withinB, inB, YardD.hasB, and_assoc]
end Go.Fz
