/- Own work of the verifier of watercress: Lb4, Lb5, Lb6, Lb7, FzCl36, FzCn1, FzCn2, FzCn4, FzCh1, FzCh2, FzCh3, FzCh4, FzCh5, FzEs1, FzCp, FzEs2, FzCm2, FzCm3, FzCm4, FzCm5, FzOn1, FzOn2, FzEa1, FzEa2, FzEa3, FzCn5, FzCn6, FzEa4, FzRf1, FzRf2, FzRf3. -/
import Derived.ChangeKeysEq
import Derived.Laws.AppendOwn
import Derived.Laws.Cells
import Derived.Laws.CopyRow
import Derived.Laws.Entries
import Derived.Laws.NewFold
import Derived.Laws.Sem
import Derived.Laws.Small
import Derived.Laws.StructEq
import Derived.Laws.Tables
import Derived.Laws.World
import Derived.OrdersHeld
import Derived.OrdersIn
import Derived.RangeFuncLeaves
import Derived.RangeFuncRecord
import Derived.Shelf.Abstract
import Derived.Test.YtcjekdfncnmbfaaNa0
import Derived.Test.YtcjekdfncnmbfaaNa1
import Derived.Test.YtcjekdfncnmbfaaNa2
import Derived.Test.YtcjekdfncnmbfaaNa3
import Derived.Test.YtcjekdfncnmbfaaProg
import Derived.Test.YtcjekdfncnmbfaaNa4
import Derived.Below
import Derived.CallsIn
import Derived.Carry
import Derived.ChangeSame
import Derived.Deep.Slices
import Derived.JoinedCond
import Derived.Laws.Cover3
import Derived.Lib.SmallJoins
import Derived.OpenShut
import Derived.ProofKit
import Derived.WalkKit
import Derived.WideKeyArgs
import Derived.Test.YtcjekdfncnmbfaaRows
import Derived.Test.YtcjekdfncnmbfaaNa5
import Derived.DeepKeys4
import Derived.Maps.Keyed
import Derived.Maps.RangeRun
import Derived.Test.YtcjekdfncnmbfaaNa6
import Derived.Test.YtcjekdfncnmbfaaNa7
import Derived.Test.YtcjekdfncnmbfaaNa10
import Derived.Test.YtcjekdfncnmbfaaNa11
import Derived.Test.YtcjekdfncnmbfaaNa13
import Derived.Test.YtcjekdfncnmbfaaNa16
import Derived.Test.YtcjekdfncnmbfaaNa14
import Derived.Test.YtcjekdfncnmbfaaNa18
import Derived.Test.YtcjekdfncnmbfaaNa15
import Derived.Test.YtcjekdfncnmbfaaNa19
import Derived.Test.YtcjekdfncnmbfaaNa12
import Derived.Test.YtcjekdfncnmbfaaNa17
import Derived.Test.YtcjekdfncnmbfaaNa8
import Derived.Test.YtcjekdfncnmbfaaNa9
import Derived.Test.YtcjekdfncnmbfaaNa20
import Derived.Test.YtcjekdfncnmbfaaNa21
import Derived.Test.YtcjekdfncnmbfaaNa22
set_option linter.unusedVariables false
set_option linter.unusedSimpArgs false
namespace Go.Fz
open Go.Proofs
theorem en6 : Enters Try.prog 6 := fun args w => Go.Proofs.enters_of Try.func6 (by kernel_rfl) rfl args w
theorem en40 : Enters Try.prog 40 := fun args w => Go.Proofs.enters_of Try.func40 (by kernel_rfl) rfl args w
theorem en42 : Enters Try.prog 42 := fun args w => Go.Proofs.enters_of Try.func42 (by kernel_rfl) rfl args w
theorem en43 : Enters Try.prog 43 := fun args w => Go.Proofs.enters_of Try.func43 (by kernel_rfl) rfl args w
theorem en44 : Enters Try.prog 44 := fun args w => Go.Proofs.enters_of Try.func44 (by kernel_rfl) rfl args w
theorem en46 : Enters Try.prog 46 := fun args w => Go.Proofs.enters_of Try.func46 (by kernel_rfl) rfl args w
theorem en49 : Enters Try.prog 49 := fun args w => Go.Proofs.enters_of Try.func49 (by kernel_rfl) rfl args w
theorem en55 : Enters Try.prog 55 := fun args w => Go.Proofs.enters_of Try.func55 (by kernel_rfl) rfl args w
theorem en67 : Enters Try.prog 67 := fun args w => Go.Proofs.enters_of Try.func67 (by kernel_rfl) rfl args w
theorem en68 : Enters Try.prog 68 := fun args w => Go.Proofs.enters_of Try.func68 (by kernel_rfl) rfl args w
theorem en69 : Enters Try.prog 69 := fun args w => Go.Proofs.enters_of Try.func69 (by kernel_rfl) rfl args w
theorem en83 : Enters Try.prog 83 := fun args w => Go.Proofs.enters_of Try.func83 (by kernel_rfl) rfl args w
theorem en86 : Enters Try.prog 86 := fun args w => Go.Proofs.enters_of Try.func86 (by kernel_rfl) rfl args w
theorem en105 : Enters Try.prog 105 := fun args w => Go.Proofs.enters_of Try.func105 (by kernel_rfl) rfl args w
end Go.Fz
set_option linter.unusedVariables false
set_option linter.unusedSimpArgs false
namespace Go.Fz
variable {P : Program} {T : Ti}
end Go.Fz
namespace Go.Fz
variable {P : Program} {T : Ti}
end Go.Fz
namespace Go.Fz
variable {P : Program} {T : Ti}
end Go.Fz
namespace Go.Fz
variable {P : Program} {T : Ti}
def runDN (O : Ar) (T : Ti) (ops : Array Oper) : Nat → Nat → List (Nat × AV) → Array Bool → List Cond → Fm → St → DOut
  | 0, fuel, pend, listed, cs, f, st => .stop cs fuel pend listed f st
  | _ + 1, 0, pend, listed, cs, f, st => .stop cs 0 pend listed f st
  | k + 1, fuel + 1, pend, listed, cs, f, st => match Region.ready .any ops listed with
    | [] => .done cs f st
    | rs => match pickD O T ops pend st.h f rs with
      | some (i, o, c, .sb b) => match isCmp o with
        | true => .stop cs (fuel + 1) pend listed f st
        | false => runDN O T ops k fuel ((i, .sb b) :: pend) (listed.setIfInBounds i true) (c ++ cs) (f.put o.dst (.sb b)) st
      | some (i, o, c, r) => runDN O T ops k fuel ((i, r) :: pend) (listed.setIfInBounds i true) (c ++ cs) (f.put o.dst r) st
      | none => .stop cs (fuel + 1) pend listed f st
theorem runDN_cs {O : Ar} {ops : Array Oper} : ∀ (k fuel : Nat) (pend : List (Nat × AV)) (listed : Array Bool) (cs : List Cond) (f : Fm) (st : St), ∀ c ∈ cs, c ∈ (runDN O T ops k fuel pend listed cs f st).cs
  | 0, _, _, _, _, _, _, c, h => h
  | _ + 1, 0, _, _, _, _, _, c, h => h
  | k + 1, fuel + 1, pend, listed, cs, f, st, c, h => by
    unfold runDN
    split
    · exact h
    · split
      · split
        · exact h
        · exact runDN_cs k fuel _ _ _ _ _ c (List.mem_append_right _ h)
      · exact runDN_cs k fuel _ _ _ _ _ c (List.mem_append_right _ h)
      · exact h
theorem runDN_ok (hT : TOk P T) {O : Ar} (hO : O = std) {rd : Option Nat} {ops : Array Oper} {K : Fm → St → Prop} (hM : tidyB ops (masks ops) = true) : ∀ (k fuel : Nat) (pend : List (Nat × AV)) (listed : Array Bool) (cs : List Cond) (f : Fm) (st : St),
    (∀ c ∈ (runDN O T ops k fuel pend listed cs f st).cs, c.holds) → (runDN O T ops k fuel pend listed cs f st).post P T rd ops K → AnyE P T ops (masks ops) rd K fuel pend listed f st
  | 0, _, _, _, _, _, _, _, h => h
  | _ + 1, 0, _, _, _, _, _, _, h => h
  | k + 1, fuel + 1, pend, listed, cs, f, st, hc, h => by
    unfold runDN at hc h
    split at h
    · rename_i hr
      exact .done (by rw [hr]; rfl) h
    · rename_i hr
      split at h
      · rename_i i o c b hp
        obtain ⟨h1, h2, h3, h4⟩ := pickD_ok hO hp
        simp only [hp] at hc
        split at h
        · exact h
        · rename_i hcmp
          simp only [hcmp] at hc
          have hl := h4 fun x hx => hc x (runDN_cs k fuel _ _ _ _ _ x (List.mem_append_left _ hx))
          refine .take hM hT i h2 ?_ hl (runDN_ok hT hO hM k fuel _ _ _ _ _ hc h)
          rw [h3, Bool.and_true]
          exact List.contains_iff_mem.2 h1
      · rename_i i o c r hnsb hp
        obtain ⟨h1, h2, h3, h4⟩ := pickD_ok hO hp
        simp only [hp] at hc
        have hl := h4 fun x hx => hc x (runDN_cs k fuel _ _ _ _ _ x (List.mem_append_left _ hx))
        refine .take hM hT i h2 ?_ hl (runDN_ok hT hO hM k fuel _ _ _ _ _ hc h)
        rw [h3, Bool.and_true]
        exact List.contains_iff_mem.2 h1
      · exact h
theorem AnyE.runN (hT : TOk P T) {O : Ar} (hO : O = std) (k : Nat) {rd : Option Nat} {ops : Array Oper} {K : Fm → St → Prop} {fuel : Nat} {pend : List (Nat × AV)} {listed : Array Bool} {f : Fm} {st : St} {R : DOut} (hM : tidyB ops (masks ops) = true)
    (hR : Fz.runDN O T ops k fuel pend listed [] f st = R) (hc : allC R.cs) (h : R.post P T rd ops K) : AnyE P T ops (masks ops) rd K fuel pend listed f st := by
  subst hR
  exact runDN_ok hT hO hM _ _ _ _ _ _ _ (allC_ok hc) h
end Go.Fz
namespace Go.Fz
open Go.Proofs
set_option maxRecDepth 100000
end Go.Fz
namespace Go.Fz
open Go.ChangeShapes Go.WideShapes Go.Deep Go.Joins
section
variable {H : Type} {enc : TypeId × Value → H} {P : Program} {w : World} {base : Nat} {spare : Nat → Bool} {held : Bool}
end
end Go.Fz
namespace Go.Proofs.Ytcjekdfncnmbfaa
open Go.ChangeShapes Go.WideShapes Go.ChangeAt Go.RowKit Go.Joins
set_option linter.unusedVariables false
set_option maxRecDepth 100000
end Go.Proofs.Ytcjekdfncnmbfaa
namespace Go.Fz
open Go.Proofs
set_option maxRecDepth 100000
end Go.Fz
namespace Go.Fz
open Go.Proofs
set_option maxRecDepth 100000
end Go.Fz
namespace Go.Fz
open Go.Proofs
set_option maxRecDepth 100000
end Go.Fz
namespace Go.Fz
open Go.Proofs
set_option maxRecDepth 100000
def quo64 (a b : Int) : Int := wrp .i64 (a.tdiv b)
end Go.Fz
namespace Go.Fz
open Go.Proofs
set_option maxRecDepth 100000
theorem intC_below (fl : Nat → Int) (i k : Nat) : Below 0 (intC fl i k) := Below.lit
theorem flatG_snoc (fl : Nat → Int) (n : Nat) (v : Int) (h : v = fl n) : flatG 1 (intC fl) n ++ [iV v] = flatG 1 (intC fl) (n + 1) := by
  rw [h]; rfl
end Go.Fz
namespace Go.Fz
open Go.Proofs
set_option maxRecDepth 100000
end Go.Fz
namespace Go.Fz
open Go.Proofs
set_option maxRecDepth 100000
end Go.Fz
namespace Go.Fz
open Go.Proofs
set_option maxRecDepth 100000
end Go.Fz
namespace Go.Fz
open Go.Proofs
set_option maxRecDepth 100000
end Go.Fz
namespace Go.Fz
open Go.Proofs
set_option maxRecDepth 100000
end Go.Fz
namespace Go.Fz
open Go.Proofs
set_option maxRecDepth 100000
end Go.Fz
namespace Go.Fz
open Go.Proofs
set_option maxRecDepth 100000
end Go.Fz
set_option linter.unusedVariables false
set_option linter.unusedSimpArgs false
namespace Go.Fz
open Go.Proofs
set_option maxRecDepth 100000
variable {P : Program} {T : Ti}
theorem tdiv_nn {a b : Int} (ha : 0 ≤ a) (hb : 1 ≤ b) : 0 ≤ a.tdiv b ∧ a.tdiv b ≤ a ∧ a.tdiv b * b + a.tmod b = a ∧ 0 ≤ a.tmod b ∧ a.tmod b < b := by
  rw [Int.tdiv_eq_ediv_of_nonneg ha, Int.tmod_eq_emod_of_nonneg ha]
  refine ⟨Int.ediv_nonneg ha (by omega), Int.ediv_le_self b ha, ?_, Int.emod_nonneg a (by omega), Int.emod_lt_of_pos a (by omega)⟩
  rw [Int.mul_comm]; exact Int.mul_ediv_add_emod a b
theorem quo64_nn {a b : Int} (ha : 0 ≤ a) (ha2 : a ≤ 1000000000) (hb : 1 ≤ b) : quo64 a b = a.tdiv b := by
  obtain ⟨h1, h2, _⟩ := tdiv_nn ha hb
  exact wrp_in (by simp only [IntKind.lo]; omega) (by simp only [IntKind.hi]; omega)
end Go.Fz
namespace Go.Fz
end Go.Fz
namespace Go.Fz
variable {P : Program} {T : Ti}
end Go.Fz
namespace Go.Fz
variable {P : Program} {T : Ti}
end Go.Fz
namespace Go.Fz
set_option maxRecDepth 100000
section
variable {P : Program} {T : Ti}
end
end Go.Fz
namespace Go.Fz
open Go.Proofs
set_option maxRecDepth 100000
section
variable {P : Program} {T : Ti}
end
end Go.Fz
namespace Go.Fz
open Go.Proofs
set_option maxRecDepth 100000
section
variable {α : Type}
end
end Go.Fz
namespace Go.Fz
open Go.Proofs
set_option maxRecDepth 100000
section
variable {α : Type}
end
end Go.Fz
namespace Go.Fz
set_option maxRecDepth 100000
section
variable {P : Program} {T : Ti}
end
end Go.Fz
namespace Go.Fz
variable {P : Program} {T : Ti}
end Go.Fz
namespace Go.Fz
open Go.Proofs
set_option maxRecDepth 100000
section
variable {P : Program} {T : Ti}
end
section
variable {α : Type}
end
end Go.Fz
namespace Go.Fz
variable {P : Program} {T : Ti}
end Go.Fz
namespace Go.Fz
open Go.Proofs
set_option maxRecDepth 100000
end Go.Fz
namespace Go.Fz
open Go.Proofs
set_option maxRecDepth 100000
end Go.Fz
namespace Go.Fz
open Go.Proofs
set_option maxRecDepth 100000
end Go.Fz
namespace Go.Fz
open Go.Proofs
set_option maxRecDepth 100000
section
variable {α : Type} (next : α → (Nat → Int) → α) (len : α → Nat) (N : Nat) (lo hi : Nat → Int)
end
end Go.Fz
namespace Go.Fz
open Go.Proofs
set_option maxRecDepth 100000
section
variable {P : Program} {T : Ti}
end
section
variable {P : Program}
end
end Go.Fz
namespace Go.Fz
variable {P : Program} {T : Ti}
end Go.Fz
namespace Go.Fz
open Go.Proofs
set_option maxRecDepth 100000
end Go.Fz
namespace Go.Fz
open Go.Proofs
set_option maxRecDepth 100000
end Go.Fz
namespace Go.Fz
open Go.Proofs
set_option maxRecDepth 100000
section
variable {P : Program} {T : Ti}
end
end Go.Fz
namespace Go.Fz
open Go.Proofs
set_option maxRecDepth 100000
end Go.Fz
set_option linter.unusedVariables false
set_option linter.unusedSimpArgs false
namespace Go.Fz
variable {P : Program} {T : Ti}
end Go.Fz
namespace Go.Fz
open Go.Proofs
set_option maxRecDepth 100000
theorem updE_mem {β : Type} [DecidableEq β] {E : List (β × Nat)} {x b : β} {c : Nat} : x ∈ (updE E b c).map (·.1) ↔ x ∈ E.map (·.1) ∨ x = b := by
  unfold updE
  split
  · rename_i h
    exact ⟨.inl, fun h2 => h2.elim id fun e => by rw [e]; exact h⟩
  · simp
theorem bmP_mem (b : Nat → Bool) (x : Bool) : ∀ i, x ∈ (bmP b i).1.map (·.1) ↔ ∃ j, j < i ∧ b j = x
  | 0 => by
    show x ∈ [] ↔ _
    exact ⟨fun h => (by cases h), fun ⟨_, h, _⟩ => absurd h (Nat.not_lt_zero _)⟩
  | i + 1 => by
    show x ∈ (updE _ _ _).map (·.1) ↔ _
    rw [updE_mem, bmP_mem b x i]
    constructor
    · rintro (⟨j, h1, h2⟩ | h)
      · exact ⟨j, by omega, h2⟩
      · exact ⟨i, by omega, h.symm⟩
    · rintro ⟨j, h1, h2⟩
      by_cases e : j = i
      · exact .inr (by rw [← e]; exact h2.symm)
      · exact .inl ⟨j, by omega, h2⟩
end Go.Fz
namespace Go.Fz
open Go.Proofs
set_option maxRecDepth 100000
end Go.Fz
namespace Go.Fz
section
variable {P : Program} {T : Ti}
end
end Go.Fz
namespace Go.Fz
open Go.Proofs
set_option maxRecDepth 100000
section
variable {α : Type} {next : α → (Nat → Int) → α} {N : Nat} {lo hi : Nat → Int}
end
end Go.Fz
namespace Go.Fz
open Go.Proofs
set_option maxRecDepth 100000
section
variable {P : Program} {T : Ti}
end
end Go.Fz
namespace Go.Fz
open Go.Proofs
set_option maxRecDepth 100000
end Go.Fz
namespace Go.Fz
open Go.Proofs
set_option maxRecDepth 100000
set_option maxHeartbeats 8000000 in
theorem least_ok (a : Int) (n : Nat) (ex : Bool) (fl : Nat → Int) (hn : n < 100000) : Pure Try.prog 105 [iV a, intsV n ex fl] (iV (leN a fl n)) := by
  obtain ⟨O, hO⟩ : ∃ O : Ar, O = std := ⟨_, rfl⟩
  have hnat : ∀ i : Nat, O.nat (Int.ofNat i) = i := fun i => by subst hO; rfl
  refine pure_of_body tok 3 Try.func105 en105 rfl ⟨Below.lit, intsV_below _ _ _, trivial⟩ Below.lit ?_
  refine SW.seqRun tok hO (by cbv <;> rfl) (by trivial) ?_
  refine SW.seq ?_
  refine SW.seqRun tok hO (by cbv <;> rfl) (by trivial) ?_
  refine (SW.block (SW.loopF (fun i : Nat => ⟨⟨18, getT [(0, iV (leN a fl i)), (7, intsV n ex fl), (8, iV n), (9, iV i)]⟩, []⟩) (fun _ => ⟨[], 0⟩) (fun i => n - i) (fun i => i ≤ n) 0
    (fun _ => rfl) (Nat.zero_le _) (Weak.by rfl rfl (by simp) (Nat.le_refl _) (Nat.le_refl _) ⟨⟨rfl, .inl rfl⟩, ⟨rfl, .inl rfl⟩, ⟨rfl, .inl rfl⟩, ⟨rfl, .inl rfl⟩, trivial⟩ trivial) fun i hi => ?_))
  obtain ⟨v, hv⟩ : ∃ v, leN a fl i = v := ⟨_, rfl⟩
  rw [hv]
  refine SW.seqRun tok hO (by cbv <;> rfl) (by trivial) ?_
  refine SW.seq (SW.condS (by cbv <;> rfl) (fun h => SW.skip ?_) (fun h => SW.exit ?_))
  · have hlt : i < n := by subst hO; simpa [std] using h
    have hi0 : (0 : Int) ≤ Int.ofNat i := Int.natCast_nonneg i
    refine SW.seq (SW.block ?_)
    refine SW.seqRun tok hO (by cbv <;> rfl) ?_ ?_
    · exact ⟨hi0, Int.ofNat_lt.2 hlt⟩
    refine SW.run tok hO (by cbv <;> rfl) (by trivial) ?_
    refine SW.run tok hO (by cbv <;> rfl) (by trivial) ?_
    have hm : O.mn v (fl (O.nat (Int.ofNat i))) = leN a fl (i + 1) := by
      rw [hnat]
      show _ = if fl i < leN a fl i then fl i else leN a fl i
      rw [hv]; subst hO; rfl
    exact ⟨i + 1, by omega, hlt, Weak.by rfl rfl (fun _ h => nomatch h) (Nat.le_refl _) (Nat.le_refl _) ⟨⟨congrArg (fun z => AV.lit (.int .i64 z)) hm, .inl rfl⟩, ⟨rfl, .inl rfl⟩, ⟨rfl, .inl rfl⟩, ⟨inc_ok hO (by omega), .inl rfl⟩, trivial⟩ trivial⟩
  · have hge : i = n := by
      have : n ≤ i := by subst hO; simpa [std] using h
      omega
    subst hge
    rw [hv]
    refine SW.seqRun tok hO (by cbv <;> rfl) (by trivial) ?_
    exact SW.ret ⟨_, _, rfl, rfl, Eqv.of rfl⟩
theorem leN_le (a : Int) (fl : Nat → Int) : ∀ n, (leN a fl n ≤ a ∧ ∀ i, i < n → leN a fl n ≤ fl i) ∧ (leN a fl n = a ∨ ∃ i, i < n ∧ leN a fl n = fl i)
  | 0 => ⟨⟨Int.le_refl _, fun i h => by omega⟩, .inl rfl⟩
  | n + 1 => by
    obtain ⟨⟨h1, h2⟩, h3⟩ := leN_le a fl n
    show (_ ≤ a ∧ _) ∧ _
    have e : leN a fl (n + 1) = if fl n < leN a fl n then fl n else leN a fl n := rfl
    rw [e]
    split
    · refine ⟨⟨by omega, fun i hi => ?_⟩, .inr ⟨n, by omega, rfl⟩⟩
      by_cases hin : i = n
      · subst hin; omega
      · have := h2 i (by omega); omega
    · refine ⟨⟨h1, fun i hi => ?_⟩, h3.imp id fun ⟨i, h4, h5⟩ => ⟨i, by omega, h5⟩⟩
      by_cases hin : i = n
      · subst hin; omega
      · exact h2 i (by omega)
end Go.Fz
namespace Go.Fz
open Go.Proofs
set_option maxRecDepth 100000
end Go.Fz
namespace Go.Fz
variable {P : Program} {T : Ti}
end Go.Fz
namespace Go.Fz
open Go.Proofs
set_option maxRecDepth 100000
section
variable {P : Program}
end
section
variable {β : Type} [DecidableEq β]
end
end Go.Fz
namespace Go.Fz
open Go.Proofs
set_option maxRecDepth 100000
end Go.Fz
namespace Go.Fz
open Go.Proofs
set_option maxRecDepth 100000
section
variable {P : Program} {T : Ti} {β : Type}
end
end Go.Fz
namespace Go.Fz
open Go.Proofs
set_option maxRecDepth 100000
section
variable {P : Program} {T : Ti} {β : Type} [DecidableEq β]
end
end Go.Fz
namespace Go.Fz
open Go.Proofs
set_option maxRecDepth 100000
end Go.Fz
namespace Go.Fz
open Go.Proofs
set_option maxRecDepth 100000
end Go.Fz
namespace Go.Fz
open Go.Proofs
set_option maxRecDepth 100000
end Go.Fz
namespace Go.Fz
open Go.Proofs
set_option maxRecDepth 100000
section
variable (nw nl : Nat) (A B C D : Nat → Nat → Int) (a b c e : Nat → Int)
end
end Go.Fz
set_option linter.unusedVariables false
namespace Go.Fz
open Go.Proofs
set_option maxRecDepth 100000
def YardD.fwI (y : YardD) (f : Nat → Int) : Int := leN (y.nc : Nat) (fun j => (((y.wrN f y.nc).getD j 0 : Nat) : Int)) (y.wrN f y.nc).length
set_option maxHeartbeats 4000000 in
theorem firstWrong_ok (y : YardD) (f : Nat → Int) (hc : y.nc < 1000) (hcb : ∀ i, i < y.nc → 0 ≤ y.cb i ∧ y.cb i < 6) : Pure Try.prog 83 [yardV y, .agg (arrC f)] (iV (y.fwI f)) := by
  obtain ⟨O, hO⟩ : ∃ O : Ar, O = std := ⟨_, rfl⟩
  have e1 := wrongIn_ok y f hc hcb
  have hlen : (y.wrN f y.nc).length ≤ y.nc := Nat.le_trans (List.length_filter_le _ _) (by rw [List.length_range]; exact Nat.le_refl _)
  have e2 := least_ok (y.nc : Nat) (y.wrN f y.nc).length false (fun j => (((y.wrN f y.nc).getD j 0 : Nat) : Int)) (by omega)
  have hq : y.fwI f = leN (y.nc : Nat) (fun j => (((y.wrN f y.nc).getD j 0 : Nat) : Int)) (y.wrN f y.nc).length := rfl
  rw [← hq] at e2
  generalize y.fwI f = Q at e2 ⊢
  unfold lsV at e1
  generalize (fun j => (((y.wrN f y.nc).getD j 0 : Nat) : Int)) = FL at e1 e2
  generalize (y.wrN f y.nc).length = L at e1 e2
  refine pure_of_body tok 3 Try.func83 en83 rfl ⟨yardV_below y, Below.agg (arrC_below f), trivial⟩ Below.lit ?_
  refine SW.seqRun tok hO (by cbv <;> rfl) (by trivial) ?_
  refine SW.seqRunD tok mixed hO (by kernel_rfl) (by cbv <;> rfl) (by trivial) ?_
  refine AnyE.callP e1 (by cbv <;> rfl) (by cbv <;> rfl) ?_
  refine AnyE.run tok hO (by kernel_rfl) (by cbv <;> rfl) (by trivial) ?_
  refine AnyE.callP e2 (by cbv <;> rfl) (by cbv <;> rfl) ?_
  refine AnyE.run tok hO (by kernel_rfl) (by cbv <;> rfl) (by trivial) ?_
  exact SW.ret ⟨_, _, rfl, rfl, Eqv.of rfl⟩
def YardD.fur (y : YardD) (S : List (Nat → Int)) : Nat → Int
  | 0 => 0
  | i + 1 => std.mx (y.fur S i) (y.fwI (S.getD i f0))
def YardD.fstE (y : YardD) : Int := if y.anyE true ≠ 0 then y.anyE true else if y.fur y.allS y.allS.length = (y.nc : Nat) then 7 else 0
def YardD.fstV (y : YardD) : Int := if y.fstE = 0 then y.fur y.allS y.allS.length else 0
set_option maxHeartbeats 8000000 in
theorem first_ok (y : YardD) (hb : y.nb < 1000000) (hc : y.nc < 1000000) : Pure Try.prog 40 [yardV y] (.tup [iV y.fstV, iV y.fstE]) := by
  obtain ⟨O, hO⟩ : ∃ O : Ar, O = std := ⟨_, rfl⟩
  have hnat : ∀ i : Nat, O.nat (Int.ofNat i) = i := fun i => by subst hO; rfl
  have e1 := (any_ok y hb hc true).eqv (args := [yardV y, .lit (.bool true)]) (.cons (Eqv.refl _) (.cons (Eqv.litB true) .nil))
  have hE1 : y.anyE true ≠ 0 → y.fstE = y.anyE true ∧ y.fstV = 0 := fun h => by
    have e : y.fstE = y.anyE true := if_pos h
    exact ⟨e, if_neg (by rw [e]; exact h)⟩
  have hE2 : y.anyE true = 0 → y.fur y.allS y.allS.length = (y.nc : Nat) → y.fstE = 7 ∧ y.fstV = 0 := fun h h2 => by
    have e : y.fstE = 7 := by unfold YardD.fstE; rw [if_neg (by simp [h]), if_pos h2]
    exact ⟨e, if_neg (by rw [e]; omega)⟩
  have hE3 : y.anyE true = 0 → y.fur y.allS y.allS.length ≠ (y.nc : Nat) → y.fstE = 0 ∧ y.fstV = y.fur y.allS y.allS.length := fun h h2 => by
    have e : y.fstE = 0 := by unfold YardD.fstE; rw [if_neg (by simp [h]), if_neg h2]
    exact ⟨e, if_pos e⟩
  have hL := fun h : y.anyE true = 0 => YardD.any_some (y := y) (B := true) h
  have hlen := fun h : y.anyE true = 0 => YardD.any_len (y := y) (B := true) h
  have hfw := fun (h : y.anyE true = 0) (f : Nat → Int) => firstWrong_ok y f (YardD.any_cl h).1 (YardD.any_cl h).2
  generalize y.fstV = FV at hE1 hE2 hE3 ⊢
  generalize y.fstE = FE at hE1 hE2 hE3 ⊢
  unfold lsV6 at e1
  obtain ⟨E, hE⟩ : ∃ E, y.anyE true = E := ⟨_, rfl⟩
  obtain ⟨AL, hAL⟩ : ∃ l, y.anyL true = l := ⟨_, rfl⟩
  rw [hE] at e1 hE1 hE2 hE3 hL hlen hfw
  rw [hAL] at e1 hL
  obtain ⟨g, hg⟩ : ∃ g : Nat → Nat → Int, g = fun i k => (AL.getD i f0) k := ⟨_, rfl⟩
  rw [show gS AL = fun i k => iV (g i k) by rw [hg]; rfl] at e1
  obtain ⟨N, hN⟩ : ∃ N, AL.length = N := ⟨_, rfl⟩
  rw [hN] at e1
  refine pure_of_body tok 4 Try.func40 en40 rfl ⟨yardV_below y, trivial⟩ (Below.tup (AllB.ok ⟨Below.lit, Below.lit, trivial⟩)) ?_
  refine SW.seqRun tok hO (by cbv <;> rfl) (by trivial) ?_
  refine SW.seqRun tok hO (by cbv <;> rfl) (by trivial) ?_
  refine OpsW.callP e1 (by cbv <;> rfl) ?_
  refine OpsW.run tok hO (by cbv <;> rfl) (by trivial) ?_
  refine SW.seq ?_
  refine SW.seqRun tok hO (by cbv <;> rfl) (by trivial) ?_
  refine SW.condS (by cbv <;> rfl) (fun h1 => ?_) (fun h1 => SW.skip ?_)
  · have h0 : E ≠ 0 := by subst hO; simpa [std] using h1
    obtain ⟨rfl, rfl⟩ := hE1 h0
    refine SW.seqRun tok hO (by cbv <;> rfl) (by trivial) ?_
    exact SW.ret ⟨_, _, rfl, rfl, Eqv.of rfl⟩
  have h0 : E = 0 := by subst hO; simpa [std] using h1
  replace hE2 := hE2 h0
  replace hE3 := hE3 h0
  replace hlen := hlen h0
  replace hfw := hfw h0
  rw [← hL h0] at hE2 hE3 hlen
  rw [hN] at hE2 hE3 hlen
  clear hL hE1
  obtain ⟨FU, hFU⟩ : ∃ F : Nat → Int, F = y.fur AL := ⟨_, rfl⟩
  rw [← hFU] at hE2 hE3
  have hF0 : FU 0 = 0 := by rw [hFU]; rfl
  have hFs : ∀ i, FU (i + 1) = O.mx (FU i) (y.fwI (AL.getD i f0)) := fun i => by rw [hFU, hO]; rfl
  have hgi : ∀ i, AV.agg [iV (g i 0), iV (g i 1), iV (g i 2), iV (g i 3), iV (g i 4), iV (g i 5)] = .agg (arrC (AL.getD i f0)) := fun i => by rw [hg]; rfl
  refine (show SW _ _ _ _ _ _ from ?_)
  refine SW.seqRun tok hO (by cbv <;> rfl) (by trivial) ?_
  refine SW.seq ?_
  refine SW.seqRun tok hO (by cbv <;> rfl) (by trivial) ?_
  refine (SW.block (SW.loopR (fun i : Nat => ⟨⟨35, getT [(1, .ptr 0 0), (6, iV (FU i)), (17, .isl N 6 false (fun i k => iV (g i k))), (18, iV N), (19, iV (i : Nat))]⟩, []⟩) (fun i => ⟨[(0, .cells none false (yardC y))] ++ [], 1⟩) (fun i => N - i) (fun i => i ≤ N) 0 (Nat.zero_le _) (ren1 1 1) ?_ fun i hi => ?_))
  · refine WeakR.up rfl rfl (by simp) (Nat.le_refl _) (.inl rfl) (by show 1 ≤ 1; omega) ⟨RenV.ptr (by omega), ?_, RenV.closed (Below.isl fun i k _ _ => Below.lit), RenV.closed Below.lit, RenV.closed Below.lit, trivial⟩ ⟨⟨by omega, _, rfl, .cells (RenVs.closed (yardC_below y)), .inr rfl⟩, trivial⟩ (fun p hp => by cases hp)
    show RenV _ _ (iV (FU 0)) _
    rw [hF0]; exact RenV.closed Below.lit
  have hFi := hFs i
  obtain ⟨u, hu⟩ : ∃ u, FU i = u := ⟨_, rfl⟩
  show SW _ _ _ _ ⟨⟨35, getT [(1, .ptr 0 0), (6, iV (FU i)), (17, .isl N 6 false (fun i k => iV (g i k))), (18, iV N), (19, iV (i : Nat))]⟩, []⟩ ⟨[(0, .cells none false (yardC y))], 1⟩
  rw [hu]
  rw [hu] at hFi
  have hfi := hfw (AL.getD i f0)
  rw [← hgi i] at hfi
  obtain ⟨x, hx⟩ : ∃ x, y.fwI (AL.getD i f0) = x := ⟨_, rfl⟩
  rw [hx] at hfi hFi
  have hni : O.nat (Int.ofNat i) = i := hnat i
  rw [show i = O.nat (Int.ofNat i) from hni.symm] at hfi
  refine SW.seqRun tok hO (by cbv <;> rfl) (by trivial) ?_
  refine SW.seq (SW.condS (by cbv <;> rfl) (fun h => SW.skip ?_) (fun h => SW.exit ?_))
  · have hlt : i < N := by
      have : (i : Int) < (N : Int) := by subst hO; simpa [std] using h
      omega
    refine SW.seq (SW.block ?_)
    refine SW.seqRun tok hO (by cbv <;> rfl) ?_ ?_
    · exact ⟨by show (0 : Int) ≤ (i : Int); omega, by show (i : Int) < (N : Int); omega⟩
    refine SW.runN tok hO 3 (by cbv <;> rfl) (by trivial) ?_
    refine OpsW.callP hfi (by cbv <;> rfl) ?_
    refine OpsW.run tok hO (by cbv <;> rfl) (by trivial) ?_
    refine SW.run tok hO (by cbv <;> rfl) (by trivial) ?_
    refine ⟨i + 1, by omega, by omega, ren1 1 1, ?_⟩
    refine WeakR.up rfl rfl (by simp) (Nat.le_refl _) (.inl rfl) (by show 1 ≤ 1; omega) ⟨RenV.ptr (by omega), ?_, RenV.closed (Below.isl fun i k _ _ => Below.lit), RenV.closed Below.lit, RenV.inc hO (by omega), trivial⟩ ⟨⟨by omega, _, rfl, .cells (RenVs.closed (yardC_below y)), .inr rfl⟩, trivial⟩ (fun p hp => by cases hp)
    show RenV _ _ (iV (FU (i + 1))) _
    rw [hFi]; exact RenV.closed Below.lit
  · have hz : i = N := by
      have : (N : Int) ≤ (i : Int) := by subst hO; simpa [std] using h
      omega
    subst hz
    rw [hu] at hE2 hE3
    refine SW.seq ?_
    refine SW.seqRun tok hO (by cbv <;> rfl) (by trivial) ?_
    refine SW.condS (by cbv <;> rfl) (fun h2 => ?_) (fun h2 => SW.skip ?_)
    · have : u = (y.nc : Nat) := by subst hO; simpa [std] using h2
      obtain ⟨rfl, rfl⟩ := hE2 this
      refine SW.seqRun tok hO (by cbv <;> rfl) (by trivial) ?_
      exact SW.ret ⟨_, _, rfl, rfl, Eqv.of rfl⟩
    · have : u ≠ (y.nc : Nat) := by subst hO; simpa [std] using h2
      obtain ⟨rfl, rfl⟩ := hE3 this
      refine (show SW _ _ _ _ _ _ from ?_)
      refine SW.seqRun tok hO (by cbv <;> rfl) (by trivial) ?_
      exact SW.ret ⟨_, _, rfl, rfl, Eqv.of rfl⟩
end Go.Fz
set_option linter.unusedVariables false
namespace Go.Fz
open Go.Proofs
set_option maxRecDepth 100000
theorem conv0 {O : Ar} (hO : O = std) {i : Nat} (hi : i < 1000) : 0 ≤ O.conv .u64 (Int.ofNat i) := by
  subst hO
  show 0 ≤ wrp .u64 ((i : Nat) : Int)
  rw [wrp_in (by simp only [IntKind.lo]; omega) (by simp only [IntKind.hi]; omega)]
  omega
end Go.Fz
set_option linter.unusedVariables false
namespace Go.Fz
open Go.Proofs
set_option maxRecDepth 100000
theorem mem_wrN {y : YardD} {f : Nat → Int} {n p : Nat} : p ∈ y.wrN f n ↔ p < n ∧ y.rgt f p = false := by
  unfold YardD.wrN
  rw [List.mem_filter, List.mem_range]
  simp
theorem fwI_le (y : YardD) (f : Nat → Int) : y.fwI f ≤ y.nc := (leN_le _ _ _).1.1
theorem fwI_ge {y : YardD} {f : Nat → Int} {k : Nat} (hk : k ≤ y.nc) : (k : Int) ≤ y.fwI f ↔ ∀ p, p < k → y.rgt f p = true := by
  obtain ⟨⟨h1, h2⟩, h3⟩ := leN_le (y.nc : Nat) (fun j => (((y.wrN f y.nc).getD j 0 : Nat) : Int)) (y.wrN f y.nc).length
  have hg : ∀ j, (hj : j < (y.wrN f y.nc).length) → (y.wrN f y.nc).getD j 0 = (y.wrN f y.nc)[j] := fun j hj => by rw [List.getD_eq_getElem?_getD, List.getElem?_eq_getElem hj]; rfl
  constructor
  · intro h p hp
    cases hr : y.rgt f p with
    | true => rfl
    | false =>
      obtain ⟨i, hi, he⟩ := List.getElem_of_mem (mem_wrN.2 ⟨(Nat.lt_of_lt_of_le hp hk : p < y.nc), hr⟩)
      have h4 := h2 i hi
      simp only [hg i hi, he] at h4
      have h5 : (k : Int) ≤ p := Int.le_trans h h4
      omega
  · intro h
    show (k : Int) ≤ leN _ _ _
    rcases h3 with h3 | ⟨i, hi, h3⟩
    · rw [h3]; exact Int.ofNat_le.2 hk
    · rw [h3]
      simp only [hg i hi]
      have hm := mem_wrN.1 (List.getElem_mem hi)
      refine Int.ofNat_le.2 (Nat.le_of_not_lt fun hlt => ?_)
      rw [h _ hlt] at hm
      cases hm.2
theorem fur_all (y : YardD) (S : List (Nat → Int)) : ∀ n, 0 ≤ y.fur S n ∧ (∀ k : Int, k ≤ 0 ∨ (k ≤ y.fur S n ↔ ∃ i, i < n ∧ k ≤ y.fwI (S.getD i f0)))
  | 0 => ⟨Int.le_refl _, fun k => by
    by_cases h : k ≤ 0
    · exact .inl h
    · refine .inr ⟨fun h2 => absurd h2 h, fun ⟨i, hi, _⟩ => absurd hi (Nat.not_lt_zero _)⟩⟩
  | n + 1 => by
    obtain ⟨h1, h2⟩ := fur_all y S n
    have e : y.fur S (n + 1) = std.mx (y.fur S n) (y.fwI (S.getD n f0)) := rfl
    have hmx : ∀ a b : Int, std.mx a b = max a b := fun a b => by
      show (if a < b then b else a) = max a b
      omega
    rw [e, hmx]
    refine ⟨by omega, fun k => ?_⟩
    rcases h2 k with h3 | h3
    · exact .inl h3
    · refine .inr ⟨fun h => ?_, fun ⟨i, hi, h⟩ => ?_⟩
      · by_cases h4 : k ≤ y.fur S n
        · obtain ⟨i, hi, h5⟩ := h3.1 h4
          exact ⟨i, by omega, h5⟩
        · exact ⟨n, by omega, by omega⟩
      · by_cases h4 : i = n
        · subst h4; omega
        · have := h3.2 ⟨i, by omega, h⟩
          omega
theorem fur_ge {y : YardD} (hs : y.allS ≠ []) {k : Nat} (hk : k ≤ y.nc) : (k : Int) ≤ y.fur y.allS y.allS.length ↔ ∃ f ∈ y.allS, ∀ p, p < k → y.rgt f p = true := by
  obtain ⟨h1, h2⟩ := fur_all y y.allS y.allS.length
  have hg : ∀ j, (hj : j < y.allS.length) → y.allS.getD j f0 = y.allS[j] := fun j hj => by rw [List.getD_eq_getElem?_getD, List.getElem?_eq_getElem hj]; rfl
  rcases h2 k with h3 | h3
  · have hz : k = 0 := by omega
    subst hz
    refine ⟨fun _ => ?_, fun _ => h1⟩
    have hp := List.length_pos_iff.2 hs
    exact ⟨_, List.getElem_mem hp, fun p hp => absurd hp (Nat.not_lt_zero _)⟩
  · rw [h3]
    constructor
    · rintro ⟨i, hi, h⟩
      rw [hg i hi] at h
      exact ⟨_, List.getElem_mem hi, (fwI_ge hk).1 h⟩
    · rintro ⟨f, hf, h⟩
      obtain ⟨i, hi, rfl⟩ := List.getElem_of_mem hf
      exact ⟨i, hi, by rw [hg i hi]; exact (fwI_ge hk).2 h⟩
theorem fur_le {y : YardD} : y.fur y.allS y.allS.length ≤ y.nc := by
  obtain ⟨h1, h2⟩ := fur_all y y.allS y.allS.length
  rcases h2 (y.fur y.allS y.allS.length) with h3 | h3
  · omega
  · obtain ⟨i, _, h⟩ := h3.1 (Int.le_refl _)
    exact Int.le_trans h (fwI_le _ _)
end Go.Fz
set_option linter.unusedVariables false
namespace Go.Fz
open Go.Proofs
set_option maxRecDepth 100000
theorem full55_ok (y : YardD) (hn : y.nc < 1000000) : Pure Try.prog 55 [yardV y] (iV (allI y.nc)) := by
  obtain ⟨O, hO⟩ : ∃ O : Ar, O = std := ⟨_, rfl⟩
  refine pure_of_body tok 3 Try.func55 en55 rfl ⟨yardV_below y, trivial⟩ Below.lit ?_
  refine SW.seqRun tok hO (by cbv <;> rfl) (by trivial) ?_
  refine SW.seqRun tok hO (by cbv <;> rfl) (by exact conv_nn hO hn) ?_
  refine SW.ret ⟨_, _, rfl, rfl, Eqv.int ?_⟩
  subst hO; rfl
theorem memGetD {l : List Nat} {p : Nat} : p ∈ l ↔ ∃ j, j < l.length ∧ l.getD j 0 = p := by
  constructor
  · intro h
    obtain ⟨j, hj, rfl⟩ := List.getElem_of_mem h
    exact ⟨j, hj, by rw [List.getD_eq_getElem?_getD, List.getElem?_eq_getElem hj]; rfl⟩
  · rintro ⟨j, hj, rfl⟩
    rw [List.getD_eq_getElem?_getD, List.getElem?_eq_getElem hj]
    exact List.getElem_mem hj
theorem hasN_iff {l : List Nat} {p : Nat} : hasN l.length (fun j => ((l.getD j 0 : Nat) : Int)) (p : Int) = true ↔ p ∈ l := by
  unfold hasN
  rw [decide_eq_true_eq, memGetD]
  constructor
  · rintro ⟨j, hj, h⟩
    exact ⟨j, hj, Int.ofNat_inj.1 h⟩
  · rintro ⟨j, hj, h⟩
    exact ⟨j, hj, congrArg Int.ofNat h⟩
theorem wrB_iff {y : YardD} {f : Nat → Int} {l : List Nat} : y.wrB f l = true ↔ ∀ p, p < y.nc → y.rgt f p = false → p ∈ l := by
  unfold YardD.wrB subB allN
  rw [decide_eq_true_eq]
  constructor
  · intro h p hp hr
    obtain ⟨j, hj, e⟩ := memGetD.1 (mem_wrN.2 ⟨hp, hr⟩)
    have := h j hj
    simp only [e] at this
    exact hasN_iff.1 this
  · intro h j hj
    have hm : (y.wrN f y.nc).getD j 0 ∈ y.wrN f y.nc := memGetD.2 ⟨j, hj, rfl⟩
    have := mem_wrN.1 hm
    exact hasN_iff.2 (h _ this.1 this.2)
def coL (nc : Nat) (l : List Nat) : List Nat := (List.range nc).filter fun p => !l.contains p
theorem mem_coL {nc : Nat} {l : List Nat} {p : Nat} : p ∈ coL nc l ↔ p < nc ∧ p ∉ l := by
  unfold coL
  rw [List.mem_filter, List.mem_range]
  simp
theorem co_wr {y : YardD} {f : Nat → Int} {l : List Nat} : (∀ p ∈ coL y.nc l, y.rgt f p = true) ↔ y.wrB f l = true := by
  rw [wrB_iff]
  constructor
  · intro h p hp hr
    apply Classical.byContradiction
    intro hn
    rw [h p (mem_coL.2 ⟨hp, hn⟩)] at hr
    cases hr
  · intro h p hp
    obtain ⟨h1, h2⟩ := mem_coL.1 hp
    cases hr : y.rgt f p with
    | true => rfl
    | false => exact absurd (h p h1 hr) h2
theorem lvB_iff {y : YardD} {S : List (Nat → Int)} {l : List Nat} : y.lvB S l = true ↔ ∃ f ∈ S, ∀ p ∈ coL y.nc l, y.rgt f p = true := by
  unfold YardD.lvB
  rw [List.any_eq_true]
  constructor
  · rintro ⟨f, hf, h⟩; exact ⟨f, hf, co_wr.2 h⟩
  · rintro ⟨f, hf, h⟩; exact ⟨f, hf, co_wr.1 h⟩
theorem rng_ris5 : ∀ nc : Fin 6, List.range nc.1 ∈ risL nc.1 := by decide +kernel
end Go.Fz
set_option linter.unusedVariables false
namespace Go.Fz
open Go.Proofs
set_option maxRecDepth 100000
theorem mem_allS {y : YardD} {f : Nat → Int} : f ∈ y.allS ↔ (∀ b, b ∉ List.range y.nb → f b = 0) ∧ y.Sch (List.range y.nb) f := by
  have h := foldS_all (y := y) (next := appS) (S := fun s => f ∈ s) (G := fun g => f = g) (fun s g => by unfold appS; rw [List.mem_append, List.mem_singleton]) (L := List.range y.nb) List.pairwise_lt_range []
  refine Iff.trans h ?_
  constructor
  · rintro (h | ⟨g, h1, h2, rfl⟩)
    · cases h
    · exact ⟨h1, h2⟩
  · rintro ⟨h1, h2⟩
    exact .inr ⟨f, h1, h2, rfl⟩
end Go.Fz
set_option linter.unusedVariables false
namespace Go.Fz
open Go.Proofs
set_option maxRecDepth 100000
end Go.Fz
set_option linter.unusedVariables false
namespace Go.Fz
open Go.Proofs
set_option maxRecDepth 100000
end Go.Fz
set_option linter.unusedVariables false
namespace Go.Fz
open Go.Proofs
set_option maxRecDepth 100000
end Go.Fz
set_option linter.unusedVariables false
namespace Go.Fz
open Go.Proofs
set_option maxRecDepth 100000
theorem any_sees {y : YardD} (hc : y.check = 0) : (y.allS = [] → y.anyE true = 10) ∧ (y.allS ≠ [] → y.anyE true = 0) := by
  refine ⟨fun hs => ?_, fun hs => ?_⟩
  · unfold YardD.anyE
    rw [if_neg (by simp [hc]), if_neg (by simp), if_pos hs]
  · unfold YardD.anyE
    rw [if_neg (by simp [hc]), if_neg (by simp), if_neg hs]
theorem lve_sees {y : YardD} (hc : y.check = 0) (hs : y.allS ≠ []) : ∃ pre l post, y.lveV = lsV l ∧ risL y.nc = pre ++ l :: post ∧ (∀ l' ∈ pre, y.lvB y.allS l' = false) ∧ y.lvB y.allS l = true := by
  have h5 := (y.fit_of_check hc).2.2.2.2.2.1
  have ha := (any_sees hc).2 hs
  cases hf : (risL y.nc).find? (fun l => y.lvB y.allS l) with
  | none =>
    exfalso
    have h1 := List.find?_eq_none.1 hf _ (rng_ris5 ⟨y.nc, by omega⟩)
    apply h1
    simp only
    obtain ⟨f, hf⟩ := List.exists_mem_of_ne_nil _ hs
    refine lvB_iff.2 ⟨f, hf, fun p hp => ?_⟩
    obtain ⟨h2, h3⟩ := mem_coL.1 hp
    exact absurd (List.mem_range.2 h2) h3
  | some l =>
    obtain ⟨h1, pre, post, h2, h3⟩ := List.find?_eq_some_iff_append.1 hf
    refine ⟨pre, l, post, ?_, h2, fun l' hl' => by simpa using h3 l' hl', h1⟩
    unfold YardD.lveV
    rw [if_pos ha, hf]
theorem befF_self (f : Nat → Int) (n : Nat) : ∀ k i, befF f f n n i k = false
  | 0, i => by
    show decide ((n : Int) < n) = false
    exact decide_eq_false (by omega)
  | k + 1, i => by
    show (if i < n ∧ i < n then (if f i = f i then befF f f n n (i + 1) k else decide (f i < f i)) else decide ((n : Int) < n)) = false
    split
    · rw [if_pos rfl]
      exact befF_self f n k (i + 1)
    · exact decide_eq_false (by omega)
theorem same_self (f : Nat → Int) (n : Nat) : sameB n n f f = true := by
  unfold sameB
  rw [befF_self, decide_eq_true rfl]
  rfl
end Go.Fz
set_option linter.unusedVariables false
namespace Go.Fz
open Go.Proofs
set_option maxRecDepth 100000
end Go.Fz
set_option linter.unusedVariables false
namespace Go.Fz
open Go.Proofs
set_option maxRecDepth 100000
section
variable {P : Program} {T : Ti}
end
end Go.Fz
set_option linter.unusedVariables false
namespace Go.Fz
open Go.Proofs
set_option maxRecDepth 100000
end Go.Fz
set_option linter.unusedVariables false
namespace Go.Fz
open Go.Proofs
set_option maxRecDepth 100000
end Go.Fz
set_option linter.unusedVariables false
namespace Go.Fz
open Go.Proofs
set_option maxRecDepth 100000
end Go.Fz
set_option linter.unusedVariables false
namespace Go.Fz
open Go.Proofs
set_option maxRecDepth 100000
end Go.Fz
set_option linter.unusedVariables false
namespace Go.Fz
open Go.Proofs
set_option maxRecDepth 100000
end Go.Fz
set_option linter.unusedVariables false
namespace Go.Fz
open Go.Proofs
set_option maxRecDepth 100000
end Go.Fz
set_option linter.unusedVariables false
namespace Go.Fz
open Go.Proofs
set_option maxRecDepth 100000
def lessF (n : Nat) (f : Nat → Int) : Nat → Int := fun b => if b < n then f b else 0
theorem lessF_lt {n b : Nat} {f : Nat → Int} (h : b < n) : lessF n f b = f b := if_pos h
end Go.Fz
set_option linter.unusedVariables false
namespace Go.Fz
open Go.Proofs
set_option maxRecDepth 100000
theorem size_in {lo hi : Int} (h : 0 ≤ lo ∧ lo ≤ hi ∧ hi ≤ 9) : size64 lo hi = hi - lo + 1 := by
  unfold size64
  rw [sub64_in _ _ (by omega) (by omega), add64_in _ _ (by omega) (by omega)]
theorem prN_le {lo hi lo' hi' : Nat → Int} {n : Nat} (hn : n ≤ 6) (hr : ∀ i, i < n → 0 ≤ lo i ∧ lo i ≤ hi i ∧ hi i ≤ 9) (hr' : ∀ i, i < n → 0 ≤ lo' i ∧ lo' i ≤ hi' i ∧ hi' i ≤ 9) (hle : ∀ i, i < n → hi' i - lo' i ≤ hi i - lo i) : ∀ i, i ≤ n → 1 ≤ prN lo' hi' i ∧ prN lo' hi' i ≤ prN lo hi i ∧ prN lo hi i ≤ 10 ^ i
  | 0, _ => ⟨Int.le_refl _, Int.le_refl _, Int.le_refl _⟩
  | i + 1, hi' => by
    obtain ⟨a1, a2, a3⟩ := prN_le hn hr hr' hle i (by omega)
    have hp : (10 : Int) ^ i ≤ 1000000 ∧ 1 ≤ (10 : Int) ^ i := ten_pow ⟨i, by omega⟩
    have r1 := hr i (by omega)
    have r2 := hr' i (by omega)
    have r3 := hle i (by omega)
    have e1 : prN lo hi (i + 1) = mul64 (prN lo hi i) (size64 (lo i) (hi i)) := rfl
    have e2 : ∀ a b : Nat → Int, prN a b (i + 1) = mul64 (prN a b i) (size64 (a i) (b i)) := fun _ _ => rfl
    rw [e2, e2, size_in r1, size_in r2]
    rename_i hi2
    obtain ⟨s, hs⟩ : ∃ s, hi i - lo i + 1 = s := ⟨_, rfl⟩
    obtain ⟨s', hs'⟩ : ∃ s', hi2 i - lo' i + 1 = s' := ⟨_, rfl⟩
    rw [hs, hs']
    obtain ⟨p, hpp⟩ : ∃ p, prN lo hi i = p := ⟨_, rfl⟩
    obtain ⟨p', hpp'⟩ : ∃ p', prN lo' hi2 i = p' := ⟨_, rfl⟩
    rw [hpp] at a2 a3
    rw [hpp'] at a1 a2
    rw [hpp, hpp']
    have hs1 : 1 ≤ s ∧ s ≤ 10 := by omega
    have hs2 : 1 ≤ s' ∧ s' ≤ s := by omega
    have b1 : p' * s' ≤ p * s := Int.mul_le_mul a2 hs2.2 (by omega) (by omega)
    have b2 : p * s ≤ 10 ^ i * 10 := Int.mul_le_mul a3 hs1.2 (by omega) (by omega)
    have b3 : 1 * 1 ≤ p' * s' := Int.mul_le_mul a1 hs2.1 (by omega) (by omega)
    have b4 : (10 : Int) ^ i * 10 ≤ 10000000 := by omega
    rw [mul64_in _ _ (by omega) (by omega), mul64_in _ _ (by omega) (by omega), Int.pow_succ]
    exact ⟨by omega, b1, b2⟩
end Go.Fz
set_option linter.unusedVariables false
namespace Go.Fz
open Go.Proofs
set_option maxRecDepth 100000
end Go.Fz
set_option linter.unusedVariables false
namespace Go.Fz
open Go.Proofs
set_option maxRecDepth 100000
end Go.Fz
set_option linter.unusedVariables false
namespace Go.Fz
open Go.Proofs
set_option maxRecDepth 100000
end Go.Fz
set_option linter.unusedVariables false
namespace Go.Fz
open Go.Proofs
set_option maxRecDepth 100000
end Go.Fz
set_option linter.unusedVariables false
namespace Go.Fz
open Go.Proofs
set_option maxRecDepth 100000
end Go.Fz
set_option linter.unusedVariables false
namespace Go.Fz
open Go.Proofs
set_option maxRecDepth 100000
def YardD.eR (y : YardD) (f : Nat → Int) (i : Nat) (w : Int) : Bool := decide (0 ≤ f i) && inB w (f i) (sub64 (add64 (f i) (y.lng i)) 1)
set_option maxHeartbeats 8000000 in
theorem isEmpty_ok (y : YardD) (n : Nat) (ex : Bool) (f : Nat → Int) (K w : Int) (k0 : 0 ≤ K) (k1 : K < (n : Int)) (k2 : K < (y.nb : Int)) : Pure Try.prog 49 [yardV y, intsV n ex f, iV K, iV w] (.sb (y.eR f K.toNat w)) := by
  obtain ⟨O, hO⟩ : ∃ O : Ar, O = std := ⟨_, rfl⟩
  have hnk : O.nat K = K.toNat := by subst hO; rfl
  have hin : 0 ≤ K ∧ K < Int.ofNat n := ⟨k0, k1⟩
  have hib : 0 ≤ K ∧ K < Int.ofNat y.nb := ⟨k0, k2⟩
  have he : y.eR f K.toNat w = (decide (0 ≤ f (O.nat K)) && inB w (f (O.nat K)) (O.bin .sub .i64 (O.bin .add .i64 (f (O.nat K)) (y.lng (O.nat K))) 1)) := by rw [hnk]; subst hO; rfl
  have e29 := in_ok w (f (O.nat K)) (O.bin .sub .i64 (O.bin .add .i64 (f (O.nat K)) (y.lng (O.nat K))) 1)
  obtain ⟨B, hB⟩ : ∃ B, inB w (f (O.nat K)) (O.bin .sub .i64 (O.bin .add .i64 (f (O.nat K)) (y.lng (O.nat K))) 1) = B := ⟨_, rfl⟩
  rw [hB] at he e29
  clear hB
  generalize y.eR f K.toNat w = Q at he ⊢
  refine pure_of_body tok 3 Try.func49 en49 rfl ⟨yardV_below y, intsV_below _ _ _, Below.lit, Below.lit, trivial⟩ Below.sb ?_
  refine SW.seqRun tok hO (by cbv <;> rfl) (by trivial) ?_
  refine SW.seqRunD tok mixed hO (by kernel_rfl) (by cbv <;> rfl) (by repeat (first | exact trivial | exact hin | exact hib | refine ⟨?_, ?_⟩)) ?_
  refine AnyE.dec tok hO (by kernel_rfl) (by cbv <;> rfl) (by trivial) (fun h2 => ?_) (fun h2 => ?_)
  · have hp : 0 ≤ f (O.nat K) := by subst hO; simpa [std] using h2
    rw [decide_eq_true hp, Bool.true_and] at he
    refine AnyE.runN tok hO 6 (by kernel_rfl) (by cbv <;> rfl) (by repeat (first | exact trivial | exact hin | exact hib | refine ⟨?_, ?_⟩)) ?_
    refine AnyE.runN tok hO 6 (by kernel_rfl) (by cbv <;> rfl) (by repeat (first | exact trivial | exact hin | exact hib | refine ⟨?_, ?_⟩)) ?_
    refine AnyE.run tok hO (by kernel_rfl) (by cbv <;> rfl) (by repeat (first | exact trivial | exact hin | exact hib | refine ⟨?_, ?_⟩)) ?_
    refine AnyE.callP e29 (by cbv <;> rfl) (by cbv <;> rfl) ?_
    refine AnyE.run tok hO (by kernel_rfl) (by cbv <;> rfl) (by trivial) ?_
    exact SW.ret ⟨_, _, rfl, rfl, Eqv.sb he.symm⟩
  · have hp : ¬ 0 ≤ f (O.nat K) := by subst hO; simpa [std] using h2
    rw [decide_eq_false hp, Bool.false_and] at he
    refine AnyE.runN tok hO 6 (by kernel_rfl) (by cbv <;> rfl) (by trivial) ?_
    refine AnyE.runN tok hO 6 (by kernel_rfl) (by cbv <;> rfl) (by trivial) ?_
    refine AnyE.run tok hO (by kernel_rfl) (by cbv <;> rfl) (by trivial) ?_
    exact SW.ret ⟨_, _, rfl, rfl, Eqv.bool he.symm⟩
end Go.Fz
set_option linter.unusedVariables false
namespace Go.Fz
open Go.Proofs
set_option maxRecDepth 100000
def YardD.endR (y : YardD) (f : Nat → Int) (i : Nat) : Bool := decide (0 ≤ f i) && decide (y.last < sub64 (add64 (f i) (y.lng i)) 1)
def YardD.cntR (y : YardD) (f : Nat → Int) (w : Int) : Nat → Nat
  | 0 => 0
  | i + 1 => if y.eR f i w = true then y.cntR f w i + 1 else y.cntR f w i
def YardD.adjR (y : YardD) (f : Nat → Int) (w : Int) (i : Nat) : Bool := y.eR f i w && (decide (0 < i) && y.eR f (i - 1) w)
def YardD.fitB (y : YardD) (f : Nat → Int) : Bool := decide ((∀ i, i < y.nb → y.endR f i = false) ∧ ∀ w : Nat, w < (y.last + 1).toNat → (∀ i, i < y.nb → y.adjR f w i = false) ∧ (y.cntR f w y.nb : Int) ≤ y.hands)
theorem fitB_iff {y : YardD} {f : Nat → Int} : y.fitB f = true ↔ (∀ i, i < y.nb → y.endR f i = false) ∧ ∀ w : Nat, (w : Int) ≤ y.last → (∀ i, i < y.nb → y.adjR f w i = false) ∧ (y.cntR f w y.nb : Int) ≤ y.hands := by
  unfold YardD.fitB
  rw [decide_eq_true_eq]
  exact ⟨fun h => ⟨h.1, fun w hw => h.2 w (by omega)⟩, fun h => ⟨h.1, fun w hw => h.2 w (by omega)⟩⟩
theorem fitB_no {y : YardD} {f : Nat → Int} (h : y.fitB f = true → False) : y.fitB f = false := by
  cases hq : y.fitB f with
  | false => rfl
  | true => exact absurd (h hq) id
theorem cntR_le (y : YardD) (f : Nat → Int) (w : Int) : ∀ n, y.cntR f w n ≤ n
  | 0 => Nat.le_refl _
  | n + 1 => by
    have := cntR_le y f w n
    unfold YardD.cntR
    split <;> omega
set_option maxHeartbeats 16000000 in
theorem fits_ok (y : YardD) (hl : y.last ≤ 9) (hn : y.nb < 1000) (ex : Bool) (f : Nat → Int) : Pure Try.prog 67 [yardV y, intsV y.nb ex f] (.sb (y.fitB f)) := by
  obtain ⟨O, hO⟩ : ∃ O : Ar, O = std := ⟨_, rfl⟩
  have hnat : ∀ i : Nat, O.nat (Int.ofNat i) = i := fun i => by subst hO; rfl
  have e49 := fun (i : Nat) (hi : i < y.nb) (w : Int) => isEmpty_ok y y.nb ex f (Int.ofNat i) w (Int.natCast_nonneg i) (Int.ofNat_lt.2 hi) (Int.ofNat_lt.2 hi)
  have e49b := fun (i : Nat) (hi : i < y.nb) (h0 : 0 < i) (w : Int) => isEmpty_ok y y.nb ex f (O.bin .sub .i64 (Int.ofNat i) 1) w (sub1_rng hO (Nat.lt_trans hi hn) h0 hi).1 (sub1_rng hO (Nat.lt_trans hi hn) h0 hi).2 (sub1_rng hO (Nat.lt_trans hi hn) h0 hi).2
  have htn : ∀ i : Nat, i < y.nb → 0 < i → (O.bin .sub .i64 (Int.ofNat i) 1).toNat = i - 1 := fun i hi h0 => by
    have := natsub1 hO (Nat.lt_trans hi hn) h0
    subst hO; exact this
  have hbad1 : ∀ i, i < y.nb → y.endR f i = true → y.fitB f = false := fun i hi h => fitB_no fun hq => by
    have := (fitB_iff.1 hq).1 i hi
    rw [h] at this; cases this
  have hbad2 : ∀ (w : Nat) (i : Nat), (w : Int) ≤ y.last → i < y.nb → y.eR f i w = true → 0 < i → y.eR f (i - 1) w = true → y.fitB f = false := fun w i hw hi h1 h2 h3 => fitB_no fun hq => by
    have := ((fitB_iff.1 hq).2 w hw).1 i hi
    unfold YardD.adjR at this
    rw [h1, h3, decide_eq_true h2] at this; cases this
  have hbad3 : ∀ (w : Nat), (w : Int) ≤ y.last → ¬ (y.cntR f w y.nb : Int) ≤ y.hands → y.fitB f = false := fun w hw h => fitB_no fun hq => h ((fitB_iff.1 hq).2 w hw).2
  have hgood : (∀ i, i < y.nb → y.endR f i = false) → (∀ w : Nat, (w : Int) ≤ y.last → (∀ i, i < y.nb → y.adjR f w i = false) ∧ (y.cntR f w y.nb : Int) ≤ y.hands) → y.fitB f = true := fun h1 h2 => fitB_iff.2 ⟨h1, h2⟩
  have hend : ∀ i : Nat, y.endR f i = (decide (0 ≤ f (O.nat (Int.ofNat i))) && O.cmp .gtr (O.bin .sub .i64 (O.bin .add .i64 (f (O.nat (Int.ofNat i))) (y.lng (O.nat (Int.ofNat i)))) 1) y.last) := fun i => by rw [hnat]; subst hO; rfl
  have hcl := fun w => cntR_le y f w
  have hcs : ∀ w i, y.cntR f w (i + 1) = if y.eR f i w = true then y.cntR f w i + 1 else y.cntR f w i := fun w i => rfl
  have hc0 : ∀ w, y.cntR f w 0 = 0 := fun w => rfl
  have hadj : ∀ w i, y.adjR f w i = (y.eR f i w && (decide (0 < i) && y.eR f (i - 1) w)) := fun w i => rfl
  generalize y.fitB f = Q at hbad1 hbad2 hbad3 hgood ⊢
  generalize y.cntR f = C at hcl hcs hc0 hbad3 hgood
  generalize y.adjR f = A at hadj hgood
  generalize y.eR f = E at e49 e49b hcs hadj hbad2
  refine pure_of_body tok 3 Try.func67 en67 rfl ⟨yardV_below y, intsV_below _ _ _, trivial⟩ Below.sb ?_
  refine SW.seqRun tok hO (by cbv <;> rfl) (by trivial) ?_
  refine SW.seq ?_
  refine SW.seqRun tok hO (by cbv <;> rfl) (by trivial) ?_
  refine (SW.block (SW.loopF (fun i : Nat => ⟨⟨71, getT [(1, intsV y.nb ex f), (2, .ptr 0 0), (5, iV i)]⟩, []⟩) (fun _ => ⟨[(0, .cells none false (yardC y))], 1⟩) (fun i => y.nb - i) (fun i => i ≤ y.nb ∧ ∀ j, j < i → y.endR f j = false) 0
    (fun _ => rfl) ⟨Nat.zero_le _, fun j hj => absurd hj (Nat.not_lt_zero _)⟩ (Weak.by rfl rfl (by simp) (Nat.le_refl _) (Nat.le_refl _) ⟨⟨rfl, .inl rfl⟩, ⟨rfl, .inl rfl⟩, ⟨rfl, .inl rfl⟩, trivial⟩ ⟨⟨rfl, by omega, .inl rfl⟩, trivial⟩) fun i hi => ?_))
  obtain ⟨hi, hall⟩ := hi
  refine SW.seq ?_
  refine SW.seqRun tok hO (by cbv <;> rfl) (by trivial) ?_
  refine SW.condS (by cbv <;> rfl) (fun h => SW.skip ?_) (fun h => SW.exit ?_)
  · have hlt : i < y.nb := by
      have : (i : Int) < (y.nb : Int) := by subst hO; simpa [std] using h
      omega
    have hin : (0 : Int) ≤ Int.ofNat i ∧ Int.ofNat i < Int.ofNat y.nb := ⟨Int.natCast_nonneg i, Int.ofNat_lt.2 hlt⟩
    have hei := hend i
    have hnext : y.endR f i = false → ∀ j, j < i + 1 → y.endR f j = false := fun h j hj => by
      by_cases e : j = i
      · rw [e]; exact h
      · exact hall j (by omega)
    refine SW.seq (SW.block ?_)
    refine SW.seqRunD tok mixed hO (by kernel_rfl) (by cbv <;> rfl) (by repeat (first | exact trivial | exact hin | refine ⟨?_, ?_⟩)) ?_
    refine AnyE.dec tok hO (by kernel_rfl) (by cbv <;> rfl) (by trivial) (fun h2 => ?_) (fun h2 => ?_)
    · have hp : 0 ≤ f (O.nat (Int.ofNat i)) := by subst hO; simpa [std] using h2
      rw [decide_eq_true hp, Bool.true_and] at hei
      refine AnyE.run tok hO (by kernel_rfl) (by cbv <;> rfl) (by repeat (first | exact trivial | exact hin | refine ⟨?_, ?_⟩)) ?_
      refine AnyE.dec tok hO (by kernel_rfl) (by cbv <;> rfl) (by trivial) (fun h3 => ?_) (fun h3 => ?_)
      · refine AnyE.run tok hO (by kernel_rfl) (by cbv <;> rfl) (by trivial) ?_
        refine SW.cond (t := true) (by cbv <;> rfl) ?_
        refine SW.seqRun tok hO (by cbv <;> rfl) (by trivial) ?_
        refine SW.ret ⟨_, _, rfl, rfl, Eqv.bool (Eq.symm ?_)⟩
        exact hbad1 i hlt (hei.trans h3)
      · refine AnyE.run tok hO (by kernel_rfl) (by cbv <;> rfl) (by trivial) ?_
        refine SW.cond (t := false) (by cbv <;> rfl) (SW.skip ?_)
        refine SW.run tok hO (by cbv <;> rfl) (by trivial) ?_
        exact ⟨i + 1, by omega, ⟨by omega, hnext (hei.trans h3)⟩, Weak.by rfl rfl (by simp) (Nat.le_refl _) (Nat.le_refl _) ⟨⟨rfl, .inl rfl⟩, ⟨rfl, .inl rfl⟩, ⟨inc_ok hO (by omega), .inl rfl⟩, trivial⟩ ⟨⟨rfl, by omega, .inl rfl⟩, trivial⟩⟩
    · have hp : ¬ 0 ≤ f (O.nat (Int.ofNat i)) := by subst hO; simpa [std] using h2
      rw [decide_eq_false hp, Bool.false_and] at hei
      refine AnyE.run tok hO (by kernel_rfl) (by cbv <;> rfl) (by trivial) ?_
      refine SW.cond (t := false) (by cbv <;> rfl) (SW.skip ?_)
      refine SW.run tok hO (by cbv <;> rfl) (by trivial) ?_
      exact ⟨i + 1, by omega, ⟨by omega, hnext hei⟩, Weak.by rfl rfl (by simp) (Nat.le_refl _) (Nat.le_refl _) ⟨⟨rfl, .inl rfl⟩, ⟨rfl, .inl rfl⟩, ⟨inc_ok hO (by omega), .inl rfl⟩, trivial⟩ ⟨⟨rfl, by omega, .inl rfl⟩, trivial⟩⟩
  have hie : i = y.nb := by
    have : (y.nb : Int) ≤ (i : Int) := by subst hO; simpa [std] using h
    omega
  rw [hie] at hall
  have hgood := hgood hall
  clear hbad1 hend hall
  refine SW.seq ?_
  refine SW.seqRun tok hO (by cbv <;> rfl) (by trivial) ?_
  refine (SW.block (SW.loopF (fun w : Nat => ⟨⟨71, getT [(1, intsV y.nb ex f), (2, .ptr 0 0), (6, iV w)]⟩, []⟩) (fun _ => ⟨[(0, .cells none false (yardC y))], 1⟩) (fun w => (y.last + 1 - w).toNat) (fun w => ∀ v : Nat, v < w → (v : Int) ≤ y.last → (∀ i, i < y.nb → A v i = false) ∧ (C v y.nb : Int) ≤ y.hands) 0
    (fun _ => rfl) (fun v hv => absurd hv (Nat.not_lt_zero _)) (Weak.by rfl rfl (by simp) (Nat.le_refl _) (Nat.le_refl _) ⟨⟨rfl, .inl rfl⟩, ⟨rfl, .inl rfl⟩, ⟨rfl, .inl rfl⟩, trivial⟩ ⟨⟨rfl, by omega, .inl rfl⟩, trivial⟩) fun w hw => ?_))
  refine SW.seq ?_
  refine SW.seqRun tok hO (by cbv <;> rfl) (by trivial) ?_
  refine SW.condS (by cbv <;> rfl) (fun h => SW.skip ?_) (fun h => SW.exit ?_)
  rotate_left
  · have hwl : ¬ (w : Int) ≤ y.last := by
      have : y.last < (w : Int) := by subst hO; simpa [std] using h
      omega
    refine SW.seqRun tok hO (by cbv <;> rfl) (by trivial) ?_
    refine SW.ret ⟨_, _, rfl, rfl, Eqv.bool (Eq.symm ?_)⟩
    exact hgood fun v hv => hw v (by omega) hv
  have hwl : (w : Int) ≤ y.last := by subst hO; simpa [std] using h
  refine SW.seq (SW.block ?_)
  refine SW.seqRun tok hO (by cbv <;> rfl) (by trivial) ?_
  refine SW.seq ?_
  refine SW.seqRun tok hO (by cbv <;> rfl) (by trivial) ?_
  refine (SW.block (SW.loopF (fun i : Nat => ⟨⟨71, getT [(1, intsV y.nb ex f), (2, .ptr 0 0), (6, iV w), (7, iV (Int.ofNat (C w i))), (8, iV i)]⟩, []⟩) (fun _ => ⟨[(0, .cells none false (yardC y))], 1⟩) (fun i => y.nb - i) (fun i => i ≤ y.nb ∧ ∀ j, j < i → A w j = false) 0
    (fun _ => rfl) ⟨Nat.zero_le _, fun j hj => absurd hj (Nat.not_lt_zero _)⟩ (Weak.by rfl rfl (by simp) (Nat.le_refl _) (Nat.le_refl _) ⟨⟨rfl, .inl rfl⟩, ⟨rfl, .inl rfl⟩, ⟨rfl, .inl rfl⟩, ⟨by rw [hc0]; rfl, .inl rfl⟩, ⟨rfl, .inl rfl⟩, trivial⟩ ⟨⟨rfl, by omega, .inl rfl⟩, trivial⟩) fun i hi => ?_))
  obtain ⟨hi, hall⟩ := hi
  refine SW.seq ?_
  refine SW.seqRun tok hO (by cbv <;> rfl) (by trivial) ?_
  refine SW.condS (by cbv <;> rfl) (fun h => SW.skip ?_) (fun h => SW.exit ?_)
  · have hlt : i < y.nb := by
      have : (i : Int) < (y.nb : Int) := by subst hO; simpa [std] using h
      omega
    have hcw := hcs w i
    have had := hadj w i
    have hci := hcl w i
    have hcb : C w i < 4611686018427387904 := Nat.lt_of_le_of_lt hci (by omega)
    have e49 := e49 i hlt w
    have e49b := e49b i hlt
    have htn := htn i hlt
    have hti : (Int.ofNat i).toNat = i := rfl
    rw [hti] at e49
    obtain ⟨B, hB⟩ : ∃ B, E i w = B := ⟨_, rfl⟩
    rw [hB] at e49 hcw had
    have hnext : A w i = false → ∀ j, j < i + 1 → A w j = false := fun h j hj => by
      by_cases e : j = i
      · rw [e]; exact h
      · exact hall j (by omega)
    refine SW.seq (SW.block ?_)
    refine SW.seq ?_
    refine SW.seqRun tok hO (by cbv <;> rfl) (by trivial) ?_
    refine OpsW.callP e49 (by cbv <;> rfl) ?_
    refine OpsW.run tok hO (by cbv <;> rfl) (by trivial) ?_
    refine SW.condS (by cbv <;> rfl) (fun h2 => ?_) (fun h2 => SW.skip ?_)
    · have hBf : B = false := by subst hO; simpa [std] using h2
      rw [hBf, if_neg (by decide)] at hcw
      rw [hBf, Bool.false_and] at had
      refine SW.exit ?_
      refine SW.run tok hO (by cbv <;> rfl) (by trivial) ?_
      exact ⟨i + 1, by omega, ⟨by omega, hnext had⟩, Weak.by rfl rfl (by simp) (Nat.le_refl _) (Nat.le_refl _) ⟨⟨rfl, .inl rfl⟩, ⟨rfl, .inl rfl⟩, ⟨rfl, .inl rfl⟩, ⟨by rw [hcw]; rfl, .inl rfl⟩, ⟨inc_ok hO (by omega), .inl rfl⟩, trivial⟩ ⟨⟨rfl, by omega, .inl rfl⟩, trivial⟩⟩
    · have hBt : B = true := by subst hO; simpa [std] using h2
      rw [hBt, if_pos rfl] at hcw
      rw [hBt, Bool.true_and] at had
      refine SW.seqRun tok hO (by cbv <;> rfl) (by trivial) ?_
      refine SW.seqRun tok hO (by cbv <;> rfl) (by trivial) ?_
      refine OpsW.splitG (by cbv <;> rfl) (fun h3 => ?_) (fun h3 => ?_)
      · have hi0 : 0 < i := gtr0 hO h3
        rw [decide_eq_true hi0, Bool.true_and] at had
        have e49b := e49b hi0 w
        rw [htn hi0] at e49b
        obtain ⟨B2, hB2⟩ : ∃ B, E (i - 1) w = B := ⟨_, rfl⟩
        rw [hB2] at e49b had
        refine OpsW.run tok hO (by cbv <;> rfl) (by trivial) ?_
        refine OpsW.callP e49b (by cbv <;> rfl) ?_
        refine OpsW.run tok hO (by cbv <;> rfl) (by trivial) ?_
        refine SW.condS (by cbv <;> rfl) (fun h4 => ?_) (fun h4 => SW.skip ?_)
        · have hB2t : B2 = true := h4
          refine SW.seqRun tok hO (by cbv <;> rfl) (by trivial) ?_
          refine SW.ret ⟨_, _, rfl, rfl, Eqv.bool (Eq.symm ?_)⟩
          exact hbad2 w i hwl hlt (hB.trans hBt) hi0 (hB2.trans hB2t)
        · have hB2f : B2 = false := h4
          rw [hB2f] at had
          refine SW.run tok hO (by cbv <;> rfl) (by trivial) ?_
          exact ⟨i + 1, by omega, ⟨by omega, hnext had⟩, Weak.by rfl rfl (by simp) (Nat.le_refl _) (Nat.le_refl _) ⟨⟨rfl, .inl rfl⟩, ⟨rfl, .inl rfl⟩, ⟨rfl, .inl rfl⟩, ⟨by rw [hcw]; exact inc_ok hO hcb, .inl rfl⟩, ⟨inc_ok hO (by omega), .inl rfl⟩, trivial⟩ ⟨⟨rfl, by omega, .inl rfl⟩, trivial⟩⟩
      · have hi0 : ¬ 0 < i := fun h0 => by
          have : ¬ (i : Int) > 0 := by subst hO; simpa [std] using h3
          omega
        rw [decide_eq_false hi0, Bool.false_and] at had
        refine OpsW.run tok hO (by cbv <;> rfl) (by trivial) ?_
        refine SW.cond (t := false) (by cbv <;> rfl) (SW.skip ?_)
        refine SW.run tok hO (by cbv <;> rfl) (by trivial) ?_
        exact ⟨i + 1, by omega, ⟨by omega, hnext had⟩, Weak.by rfl rfl (by simp) (Nat.le_refl _) (Nat.le_refl _) ⟨⟨rfl, .inl rfl⟩, ⟨rfl, .inl rfl⟩, ⟨rfl, .inl rfl⟩, ⟨by rw [hcw]; exact inc_ok hO hcb, .inl rfl⟩, ⟨inc_ok hO (by omega), .inl rfl⟩, trivial⟩ ⟨⟨rfl, by omega, .inl rfl⟩, trivial⟩⟩
  have hie : i = y.nb := by
    have : (y.nb : Int) ≤ (i : Int) := by subst hO; simpa [std] using h
    omega
  subst hie
  refine SW.seqRun tok hO (by cbv <;> rfl) (by trivial) ?_
  refine SW.condS (by cbv <;> rfl) (fun h2 => ?_) (fun h2 => SW.skip ?_)
  · have hm : ¬ (C w y.nb : Int) ≤ y.hands := by
      have : y.hands < (C w y.nb : Int) := by subst hO; simpa [std] using h2
      omega
    refine SW.seqRun tok hO (by cbv <;> rfl) (by trivial) ?_
    refine SW.ret ⟨_, _, rfl, rfl, Eqv.bool (Eq.symm ?_)⟩
    exact hbad3 w hwl hm
  · have hm : (C w y.nb : Int) ≤ y.hands := by subst hO; simpa [std] using h2
    refine SW.run tok hO (by cbv <;> rfl) (by trivial) ?_
    refine ⟨w + 1, by omega, fun v hv hvl => ?_, Weak.by rfl rfl (by simp) (Nat.le_refl _) (Nat.le_refl _) ⟨⟨rfl, .inl rfl⟩, ⟨rfl, .inl rfl⟩, ⟨inc_ok hO (by omega), .inl rfl⟩, trivial⟩ ⟨⟨rfl, by omega, .inl rfl⟩, trivial⟩⟩
    by_cases e : v = w
    · rw [e]; exact ⟨hall, hm⟩
    · exact hw v (by omega) hvl
end Go.Fz
set_option linter.unusedVariables false
namespace Go.Fz
open Go.Proofs
set_option maxRecDepth 100000
def YardD.nR (y : YardD) (b n : Int) : Nat → Int
  | 0 => n
  | i + 1 => if bitB b i = true then std.bin .quo .i64 (y.nR b n i) (size64 (y.blo i) (y.bhi i)) else y.nR b n i
def YardD.nF (y : YardD) (b n : Int) (i : Nat) : Int := if bitB b i = true then std.bin .add .i64 (y.blo i) (std.bin .rem .i64 (y.nR b n i) (size64 (y.blo i) (y.bhi i))) else -1
theorem zero_fin6 : ∀ (o : Fin 64) (i : Fin 6), std.cmp .eql (std.bin .rem .i64 (std.bin .shr .i64 (o.1 : Int) (std.conv .u64 (i.1 : Int))) 2) 0 = !bitB (o.1 : Int) i.1 := by decide +kernel
theorem bit_zero {b : Int} (b0 : 0 ≤ b) (b1 : b < 64) {i : Nat} (hi : i < 6) : std.cmp .eql (std.bin .rem .i64 (std.bin .shr .i64 b (std.conv .u64 (i : Int))) 2) 0 = !bitB b i := by
  have h := zero_fin6 ⟨b.toNat, by omega⟩ ⟨i, hi⟩
  have e : ((b.toNat : Nat) : Int) = b := by omega
  simp only [e] at h
  exact h
set_option maxHeartbeats 16000000 in
theorem nth_ok (y : YardD) (hfit : y.Fit) (b n : Int) (b0 : 0 ≤ b) (b1 : b < 64) : Pure Try.prog 46 [yardV y, iV b, iV n] (intsV y.nb false (y.nF b n)) := by
  obtain ⟨O, hO⟩ : ∃ O : Ar, O = std := ⟨_, rfl⟩
  have hnat : ∀ i : Nat, O.nat (Int.ofNat i) = i := fun i => by subst hO; rfl
  have hn := hfit.nb
  have hbz : ∀ i, i < 6 → O.cmp .eql (O.bin .rem .i64 (O.bin .shr .i64 b (O.conv .u64 (Int.ofNat i))) 2) 0 = !bitB b i := fun i hi => by subst hO; exact bit_zero b0 b1 hi
  have hRs : ∀ i, y.nR b n (i + 1) = if bitB b i = true then O.bin .quo .i64 (y.nR b n i) (O.bin .add .i64 (O.bin .sub .i64 (y.bhi i) (y.blo i)) 1) else y.nR b n i := fun i => by subst hO; rfl
  have hFv : ∀ i, y.nF b n i = if bitB b i = true then O.bin .add .i64 (y.blo i) (O.bin .rem .i64 (y.nR b n i) (O.bin .add .i64 (O.bin .sub .i64 (y.bhi i) (y.blo i)) 1)) else -1 := fun i => by subst hO; rfl
  have hsz : ∀ i, i < y.nb → O.bin .add .i64 (O.bin .sub .i64 (y.bhi i) (y.blo i)) 1 ≠ 0 := fun i hi => by
    have hr := hfit.beg i hi
    subst hO
    show size64 (y.blo i) (y.bhi i) ≠ 0
    rw [size_in hr]; omega
  have hR0 : y.nR b n 0 = n := rfl
  generalize y.nF b n = F at hFv ⊢
  generalize y.nR b n = R at hRs hFv hR0
  generalize bitB b = T at hbz hRs hFv
  refine pure_of_body tok 3 Try.func46 en46 rfl ⟨yardV_below y, Below.lit, Below.lit, trivial⟩ (intsV_below _ _ _) ?_
  refine SW.seqRun tok hO (by cbv <;> rfl) (by trivial) ?_
  refine SW.seqRun tok hO (by cbv <;> rfl) (by trivial) ?_
  refine SW.seq ?_
  refine SW.seqRun tok hO (by cbv <;> rfl) (by trivial) ?_
  refine (SW.block (SW.loopR (fun i : Nat => ⟨⟨55, getT [(1, iV b), (2, iV (R i)), (3, .ptr 0 0), (7, slG 1 1 i), (8, iV i)]⟩, []⟩) (fun i => ⟨[(0, .cells none false (yardC y))] ++ objG 1 1 (intC F) i, 2⟩) (fun i => y.nb - i) (fun i => i ≤ y.nb) 0 (Nat.zero_le _) (ren1 1 1) ?_ fun i hi => ?_))
  · rw [hR0]
    exact WeakR.up rfl rfl (by simp) (Nat.le_refl _) (.inl rfl) (by show 1 ≤ 2; omega) ⟨RenV.closed Below.lit, RenV.closed Below.lit, RenV.ptr (by omega), RenV.closed Below.lit, RenV.closed Below.lit, trivial⟩ ⟨⟨by omega, _, rfl, .cells (RenVs.closed (yardC_below y)), .inr rfl⟩, trivial⟩ (fun p hp => by cases hp)
  have hRi := hRs i
  have hFi := hFv i
  obtain ⟨r, hr⟩ : ∃ r, R i = r := ⟨_, rfl⟩
  rw [hr] at hRi hFi
  show SW _ _ _ _ ⟨⟨55, getT [(1, iV b), (2, iV (R i)), (3, .ptr 0 0), (7, slG 1 1 i), (8, iV i)]⟩, []⟩ _
  rw [hr]
  cases i with
  | zero =>
    refine SW.seq ?_
    refine SW.seqRun tok hO (by cbv <;> rfl) (by trivial) ?_
    refine SW.condS (by cbv <;> rfl) (fun h => SW.skip ?_) (fun h => ?_)
    · have hlt : 0 < y.nb := by subst hO; simpa [std] using h
      have h0 : (0 : Int) ≤ Int.ofNat (0) := Int.natCast_nonneg _
      have hin : (0 : Int) ≤ Int.ofNat (0) ∧ Int.ofNat (0) < Int.ofNat y.nb := ⟨h0, Int.ofNat_lt.2 hlt⟩
      have hc0 : 0 ≤ O.conv .u64 (Int.ofNat (0)) := conv0 hO (by omega)
      have hbz := hbz (0) (by omega)
      have hsz := hsz (0) hlt
      have hni : O.nat (Int.ofNat (0)) = 0 := hnat _
      rw [← hni] at hsz
      refine SW.seq (SW.block ?_)
      refine SW.seq ?_
      refine SW.seqRun tok hO (by cbv <;> rfl) (by first | exact ⟨hc0, (by decide : (2 : Int) ≠ 0)⟩ | exact ⟨(by decide : (2 : Int) ≠ 0), hc0⟩) ?_
      refine SW.condS (by cbv <;> rfl) (fun h1 => ?_) (fun h1 => SW.skip ?_)
      · have hT : T (0) = false := by
          have h2 : (!T (0)) = true := hbz.symm.trans h1
          simpa using h2
        rw [hT, if_neg (by decide)] at hRi hFi
        refine SW.seq (SW.runN tok hO 2 (by cbv <;> rfl) (by trivial) ?_)
        refine OpsW.appNil tok (by cbv <;> rfl) (by rfl) (by kernel_rfl) (by rfl) (by rfl) ?_
        refine OpsW.run tok hO (by cbv <;> rfl) (by trivial) ?_
        refine SW.exit ?_
        refine SW.run tok hO (by cbv <;> rfl) (by trivial) ?_
        refine ⟨1, by omega, by omega, ren1 1 3, ?_⟩
        rw [show R (1) = _ from hRi]
        refine WeakR.up rfl rfl (by simp) (Nat.le_refl _) (.inr (by omega)) (by show 1 ≤ 2; omega) ⟨RenV.closed Below.lit, RenV.closed Below.lit, RenV.ptr (by omega), RenV.sl (by omega), RenV.inc hO (by omega), trivial⟩ ⟨⟨by omega, _, rfl, .cells (RenVs.closed (yardC_below y)), .inr rfl⟩, trivial⟩ (fun p hp => ?_)
        obtain rfl := objG_mem hp
        exact ⟨by omega, _, rfl, .cells (RenVs.of_eq (congrArg (fun v => [iV v]) hFi.symm) (flatG_below (intC_below F) 1)), .inl rfl⟩
      · have hT : T (0) = true := by
          have h2 : (!T (0)) = false := hbz.symm.trans h1
          simpa using h2
        rw [hT, if_pos rfl] at hRi hFi
        have hRi : R (1) = O.bin .quo .i64 r (O.bin .add .i64 (O.bin .sub .i64 (y.bhi (O.nat (Int.ofNat (0)))) (y.blo (O.nat (Int.ofNat (0))))) 1) := by rw [hni]; exact hRi
        have hFi : F (0) = O.bin .add .i64 (y.blo (O.nat (Int.ofNat (0)))) (O.bin .rem .i64 r (O.bin .add .i64 (O.bin .sub .i64 (y.bhi (O.nat (Int.ofNat (0)))) (y.blo (O.nat (Int.ofNat (0))))) 1)) := by rw [hni]; exact hFi
        refine SW.seqRun tok hO (by cbv <;> rfl) (by repeat (first | exact trivial | exact hin | refine ⟨?_, ?_⟩)) ?_
        refine SW.seqRunD tok mixed hO (by kernel_rfl) (by cbv <;> rfl) (by repeat (first | exact trivial | exact hsz | refine ⟨?_, ?_⟩)) ?_
        refine AnyE.effK tok hO (by cbv <;> rfl) (by cbv <;> rfl) (by trivial) ?_ ?_
        · exact ⟨by cbv <;> rfl, trivial⟩
        refine AnyE.appNil tok (by cbv <;> rfl) (by cbv <;> rfl) (by rfl) (by kernel_rfl) (by rfl) (by rfl) ?_
        refine AnyE.run tok hO (by rfl) (by cbv <;> rfl) (by trivial) ?_
        refine SW.run tok hO (by cbv <;> rfl) (by repeat (first | exact trivial | exact hsz | refine ⟨?_, ?_⟩)) ?_
        refine SW.run tok hO (by cbv <;> rfl) (by trivial) ?_
        refine ⟨1, by omega, by omega, ren1 1 4, ?_⟩
        rw [show R (1) = _ from hRi]
        refine WeakR.up rfl rfl (by simp) (Nat.le_refl _) (.inr (by omega)) (by show 1 ≤ 2; omega) ⟨RenV.closed Below.lit, RenV.closed Below.lit, RenV.ptr (by omega), RenV.sl (by omega), RenV.inc hO (by omega), trivial⟩ ⟨⟨by omega, _, rfl, .cells (RenVs.closed (yardC_below y)), .inr rfl⟩, trivial⟩ (fun p hp => ?_)
        obtain rfl := objG_mem hp
        exact ⟨by omega, _, rfl, .cells (RenVs.of_eq (congrArg (fun v => [iV v]) hFi.symm) (flatG_below (intC_below F) 1)), .inl rfl⟩
    · have hz : y.nb = 0 := by
        have : y.nb ≤ 0 := by subst hO; simpa [std] using h
        omega
      refine SW.exit ?_
      refine SW.seqRun tok hO (by cbv <;> rfl) (by trivial) ?_
      refine SW.ret ⟨_, _, rfl, rfl, ?_⟩
      rw [hz]; exact Eqv.nil
  | succ i =>
    obtain ⟨G, hG⟩ : ∃ G, G = flatG 1 (intC F) (i + 1) := ⟨_, rfl⟩
    have hGo : objG 1 1 (intC F) (i + 1) = [(1, .cells none false G)] := by rw [hG]; rfl
    show SW _ _ _ _ _ ⟨[(0, .cells none false (yardC y))] ++ objG 1 1 (intC F) (i + 1), 2⟩
    rw [hGo]
    refine SW.seq ?_
    refine SW.seqRun tok hO (by cbv <;> rfl) (by trivial) ?_
    refine SW.condS (by cbv <;> rfl) (fun h => SW.skip ?_) (fun h => ?_)
    · have hlt : i + 1 < y.nb := by
        have : ((i + 1 : Nat) : Int) < (y.nb : Int) := by subst hO; simpa [std] using h
        omega
      have h0 : (0 : Int) ≤ Int.ofNat (i + 1) := Int.natCast_nonneg _
      have hin : (0 : Int) ≤ Int.ofNat (i + 1) ∧ Int.ofNat (i + 1) < Int.ofNat y.nb := ⟨h0, Int.ofNat_lt.2 hlt⟩
      have hc0 : 0 ≤ O.conv .u64 (Int.ofNat (i + 1)) := conv0 hO (by omega)
      have hbz := hbz (i + 1) (by omega)
      have hsz := hsz (i + 1) hlt
      have hni : O.nat (Int.ofNat (i + 1)) = i + 1 := hnat _
      rw [← hni] at hsz
      refine SW.seq (SW.block ?_)
      refine SW.seq ?_
      refine SW.seqRun tok hO (by cbv <;> rfl) (by first | exact ⟨hc0, (by decide : (2 : Int) ≠ 0)⟩ | exact ⟨(by decide : (2 : Int) ≠ 0), hc0⟩) ?_
      refine SW.condS (by cbv <;> rfl) (fun h1 => ?_) (fun h1 => SW.skip ?_)
      · have hT : T (i + 1) = false := by
          have h2 : (!T (i + 1)) = true := hbz.symm.trans h1
          simpa using h2
        rw [hT, if_neg (by decide)] at hRi hFi
        refine SW.seq (SW.runN tok hO 2 (by cbv <;> rfl) (by trivial) ?_)
        refine OpsW.appOne (g := intC F) tok (by cbv <;> rfl) (by rfl) (by rfl) hG (by kernel_rfl) (by rfl) (by rfl) (by omega) fun G' hG' => ?_
        refine OpsW.run tok hO (by cbv <;> rfl) (by trivial) ?_
        refine SW.exit ?_
        refine SW.run tok hO (by cbv <;> rfl) (by trivial) ?_
        refine ⟨i + 1 + 1, by omega, by omega, ren1 1 3, ?_⟩
        rw [show R (i + 1 + 1) = _ from hRi]
        refine WeakR.up rfl rfl (by simp) (Nat.le_refl _) (.inr (by omega)) (by show 1 ≤ 2; omega) ⟨RenV.closed Below.lit, RenV.closed Below.lit, RenV.ptr (by omega), RenV.sl (by omega), RenV.inc hO (by omega), trivial⟩ ⟨⟨by omega, _, rfl, .cells (RenVs.closed (yardC_below y)), .inr rfl⟩, trivial⟩ (fun p hp => ?_)
        obtain rfl := objG_mem hp
        exact ⟨by omega, _, rfl, .cells (RenVs.of_eq (hG'.trans (flatG_snoc F (i + 1) _ hFi.symm)) (flatG_below (intC_below F) (i + 1 + 1))), .inl rfl⟩
      · have hT : T (i + 1) = true := by
          have h2 : (!T (i + 1)) = false := hbz.symm.trans h1
          simpa using h2
        rw [hT, if_pos rfl] at hRi hFi
        have hRi : R (i + 1 + 1) = O.bin .quo .i64 r (O.bin .add .i64 (O.bin .sub .i64 (y.bhi (O.nat (Int.ofNat (i + 1)))) (y.blo (O.nat (Int.ofNat (i + 1))))) 1) := by rw [hni]; exact hRi
        have hFi : F (i + 1) = O.bin .add .i64 (y.blo (O.nat (Int.ofNat (i + 1)))) (O.bin .rem .i64 r (O.bin .add .i64 (O.bin .sub .i64 (y.bhi (O.nat (Int.ofNat (i + 1)))) (y.blo (O.nat (Int.ofNat (i + 1))))) 1)) := by rw [hni]; exact hFi
        refine SW.seqRun tok hO (by cbv <;> rfl) (by repeat (first | exact trivial | exact hin | refine ⟨?_, ?_⟩)) ?_
        refine SW.seqRunD tok mixed hO (by kernel_rfl) (by cbv <;> rfl) (by repeat (first | exact trivial | exact hsz | refine ⟨?_, ?_⟩)) ?_
        refine AnyE.effK tok hO (by cbv <;> rfl) (by cbv <;> rfl) (by trivial) ?_ ?_
        · exact ⟨by cbv <;> rfl, trivial⟩
        refine AnyE.appOne (g := intC F) tok (by cbv <;> rfl) (by cbv <;> rfl) (by rfl) (by rfl) hG (by kernel_rfl) (by rfl) (by rfl) (by omega) fun G' hG' => ?_
        refine AnyE.run tok hO (by rfl) (by cbv <;> rfl) (by trivial) ?_
        refine SW.run tok hO (by cbv <;> rfl) (by repeat (first | exact trivial | exact hsz | refine ⟨?_, ?_⟩)) ?_
        refine SW.run tok hO (by cbv <;> rfl) (by trivial) ?_
        refine ⟨i + 1 + 1, by omega, by omega, ren1 1 4, ?_⟩
        rw [show R (i + 1 + 1) = _ from hRi]
        refine WeakR.up rfl rfl (by simp) (Nat.le_refl _) (.inr (by omega)) (by show 1 ≤ 2; omega) ⟨RenV.closed Below.lit, RenV.closed Below.lit, RenV.ptr (by omega), RenV.sl (by omega), RenV.inc hO (by omega), trivial⟩ ⟨⟨by omega, _, rfl, .cells (RenVs.closed (yardC_below y)), .inr rfl⟩, trivial⟩ (fun p hp => ?_)
        obtain rfl := objG_mem hp
        exact ⟨by omega, _, rfl, .cells (RenVs.of_eq (hG'.trans (flatG_snoc F (i + 1) _ hFi.symm)) (flatG_below (intC_below F) (i + 1 + 1))), .inl rfl⟩
    · have hz : y.nb = i + 1 := by
        have : (y.nb : Int) ≤ ((i + 1 : Nat) : Int) := by subst hO; simpa [std] using h
        omega
      have hlG : (i + 1) * 1 ≤ G.length := by rw [hG, flatG_length]; omega
      refine SW.exit ?_
      refine SW.seqRun tok hO (by cbv <;> rfl) (by trivial) ?_
      refine SW.ret ⟨_, _, rfl, rfl, ?_⟩
      show Eqv (frz _ _ 3 (.sl 1 0 (i + 1) 1 false)) (.isl y.nb 1 false (intC F))
      rw [hz, frz_slE (fm := none) (G := G) rfl rfl hlG, hG]
      exact Eqv.isl rfl fun i' k hi' hk => Eqv.of (frz_flat hi' hk rfl)
end Go.Fz
