/- Own work of the verifier of watercress: Lb4, Lb5, Lb8, FzX1, FzX2, FzX4, FzX5, FzDe1, FzB1, FzD10, FzD11, FzD12, FzG0, FzG4, FzD13, FzG1, FzG7. -/
import Derived.ChangeKeysEq
import Derived.Laws.AppendOwn
import Derived.Laws.Cells
import Derived.Laws.CopyRow
import Derived.Laws.Entries
import Derived.Laws.NewFold
import Derived.Laws.Sem
import Derived.Laws.Small
import Derived.Laws.StructEq
import Derived.Laws.Tables
import Derived.Laws.World
import Derived.OrdersHeld
import Derived.OrdersIn
import Derived.RangeFuncLeaves
import Derived.RangeFuncRecord
import Derived.Shelf.Abstract
import Derived.Test.YtpaifaemkoblcaaNa0
import Derived.Test.YtpaifaemkoblcaaNa1
import Derived.Test.YtpaifaemkoblcaaNa2
import Derived.Test.YtpaifaemkoblcaaNa3
import Derived.Test.YtpaifaemkoblcaaProg
import Derived.Test.YtpaifaemkoblcaaNa4
import Derived.Below
import Derived.CallsIn
import Derived.Carry
import Derived.ChangeSame
import Derived.Deep.Slices
import Derived.JoinedCond
import Derived.Laws.Cover3
import Derived.Lib.SmallJoins
import Derived.OpenShut
import Derived.ProofKit
import Derived.WalkKit
import Derived.WideKeyArgs
import Derived.Test.YtpaifaemkoblcaaRows
import Derived.Test.YtpaifaemkoblcaaNa5
import Derived.DeepKeys4
import Derived.Maps.Keyed
import Derived.Maps.RangeRun
import Derived.Test.YtpaifaemkoblcaaNa6
import Derived.Test.YtpaifaemkoblcaaNa7
import Derived.Test.YtpaifaemkoblcaaNa8
import Derived.Test.YtpaifaemkoblcaaNa10
import Derived.Test.YtpaifaemkoblcaaNa12
import Derived.Test.YtpaifaemkoblcaaNa11
import Derived.Test.YtpaifaemkoblcaaNa9
import Derived.Test.YtpaifaemkoblcaaNa13
import Derived.Test.YtpaifaemkoblcaaNa14
import Derived.Test.YtpaifaemkoblcaaNa15
import Derived.Test.YtpaifaemkoblcaaNa16
import Derived.Test.YtpaifaemkoblcaaNa24
import Derived.Test.YtpaifaemkoblcaaNa25
import Derived.Test.YtpaifaemkoblcaaNa26
import Derived.Test.YtpaifaemkoblcaaNa19
import Derived.Test.YtpaifaemkoblcaaNa20
import Derived.Test.YtpaifaemkoblcaaNa21
import Derived.Test.YtpaifaemkoblcaaNa22
import Derived.Test.YtpaifaemkoblcaaNa23
import Derived.Test.YtpaifaemkoblcaaNa17
import Derived.Test.YtpaifaemkoblcaaNa18
import Derived.Test.YtpaifaemkoblcaaNa27
import Derived.Test.YtpaifaemkoblcaaNa32
import Derived.Test.YtpaifaemkoblcaaNa35
import Derived.Test.YtpaifaemkoblcaaNa33
import Derived.Test.YtpaifaemkoblcaaNa34
import Derived.Test.YtpaifaemkoblcaaNa28
import Derived.Test.YtpaifaemkoblcaaNa29
import Derived.Test.YtpaifaemkoblcaaNa30
import Derived.Test.YtpaifaemkoblcaaNa31
import Derived.Test.YtpaifaemkoblcaaNa36
import Derived.Test.YtpaifaemkoblcaaNa37
import Derived.Test.YtpaifaemkoblcaaNa38
import Derived.Test.YtpaifaemkoblcaaNa40
import Derived.Test.YtpaifaemkoblcaaNa39
import Derived.Test.YtpaifaemkoblcaaNa41
set_option linter.unusedVariables false
set_option linter.unusedSimpArgs false
namespace Go.Fz
open Go.Proofs
theorem en17 : Enters Try.prog 17 := fun args w => Go.Proofs.enters_of Try.func17 (by kernel_rfl) rfl args w
theorem en63 : Enters Try.prog 63 := fun args w => Go.Proofs.enters_of Try.func63 (by kernel_rfl) rfl args w
end Go.Fz
set_option linter.unusedVariables false
set_option linter.unusedSimpArgs false
namespace Go.Fz
variable {P : Program} {T : Ti}
end Go.Fz
namespace Go.Fz
variable {P : Program} {T : Ti}
end Go.Fz
namespace Go.Fz
variable {P : Program} {T : Ti}
end Go.Fz
namespace Go.Fz
variable {P : Program} {T : Ti}
def runDN (O : Ar) (T : Ti) (ops : Array Oper) : Nat → Nat → List (Nat × AV) → Array Bool → List Cond → Fm → St → DOut
  | 0, fuel, pend, listed, cs, f, st => .stop cs fuel pend listed f st
  | _ + 1, 0, pend, listed, cs, f, st => .stop cs 0 pend listed f st
  | k + 1, fuel + 1, pend, listed, cs, f, st => match Region.ready .any ops listed with
    | [] => .done cs f st
    | rs => match pickD O T ops pend st.h f rs with
      | some (i, o, c, .sb b) => match isCmp o with
        | true => .stop cs (fuel + 1) pend listed f st
        | false => runDN O T ops k fuel ((i, .sb b) :: pend) (listed.setIfInBounds i true) (c ++ cs) (f.put o.dst (.sb b)) st
      | some (i, o, c, r) => runDN O T ops k fuel ((i, r) :: pend) (listed.setIfInBounds i true) (c ++ cs) (f.put o.dst r) st
      | none => .stop cs (fuel + 1) pend listed f st
theorem runDN_cs {O : Ar} {ops : Array Oper} : ∀ (k fuel : Nat) (pend : List (Nat × AV)) (listed : Array Bool) (cs : List Cond) (f : Fm) (st : St), ∀ c ∈ cs, c ∈ (runDN O T ops k fuel pend listed cs f st).cs
  | 0, _, _, _, _, _, _, c, h => h
  | _ + 1, 0, _, _, _, _, _, c, h => h
  | k + 1, fuel + 1, pend, listed, cs, f, st, c, h => by
    unfold runDN
    split
    · exact h
    · split
      · split
        · exact h
        · exact runDN_cs k fuel _ _ _ _ _ c (List.mem_append_right _ h)
      · exact runDN_cs k fuel _ _ _ _ _ c (List.mem_append_right _ h)
      · exact h
theorem runDN_ok (hT : TOk P T) {O : Ar} (hO : O = std) {rd : Option Nat} {ops : Array Oper} {K : Fm → St → Prop} (hM : tidyB ops (masks ops) = true) : ∀ (k fuel : Nat) (pend : List (Nat × AV)) (listed : Array Bool) (cs : List Cond) (f : Fm) (st : St),
    (∀ c ∈ (runDN O T ops k fuel pend listed cs f st).cs, c.holds) → (runDN O T ops k fuel pend listed cs f st).post P T rd ops K → AnyE P T ops (masks ops) rd K fuel pend listed f st
  | 0, _, _, _, _, _, _, _, h => h
  | _ + 1, 0, _, _, _, _, _, _, h => h
  | k + 1, fuel + 1, pend, listed, cs, f, st, hc, h => by
    unfold runDN at hc h
    split at h
    · rename_i hr
      exact .done (by rw [hr]; rfl) h
    · rename_i hr
      split at h
      · rename_i i o c b hp
        obtain ⟨h1, h2, h3, h4⟩ := pickD_ok hO hp
        simp only [hp] at hc
        split at h
        · exact h
        · rename_i hcmp
          simp only [hcmp] at hc
          have hl := h4 fun x hx => hc x (runDN_cs k fuel _ _ _ _ _ x (List.mem_append_left _ hx))
          refine .take hM hT i h2 ?_ hl (runDN_ok hT hO hM k fuel _ _ _ _ _ hc h)
          rw [h3, Bool.and_true]
          exact List.contains_iff_mem.2 h1
      · rename_i i o c r hnsb hp
        obtain ⟨h1, h2, h3, h4⟩ := pickD_ok hO hp
        simp only [hp] at hc
        have hl := h4 fun x hx => hc x (runDN_cs k fuel _ _ _ _ _ x (List.mem_append_left _ hx))
        refine .take hM hT i h2 ?_ hl (runDN_ok hT hO hM k fuel _ _ _ _ _ hc h)
        rw [h3, Bool.and_true]
        exact List.contains_iff_mem.2 h1
      · exact h
theorem SW.seqRunDN (hT : TOk P T) (hm : P.follows .mixedOrders = true) {O : Ar} (hO : O = std) (k : Nat) {rd : Option Nat} {id : Nat} {ops : Array Oper} {y : Code} {Q : Exit → Fm → St → Prop} {f : Fm} {st : St} {R : DOut} (hM : tidyB ops (masks ops) = true)
    (hR : Fz.runDN O T ops k ops.size [] (Array.replicate ops.size false) [] f st = R) (hc : allC R.cs) (h : R.postS P T rd ops y Q) : SW P rd (.seq (.region id ops true) y) Q f st := by
  subst hR
  refine SW.seq (SW.drawnE hm hM (runDN_ok hT hO hM _ _ _ _ _ _ _ (allC_ok hc) ?_))
  generalize Fz.runDN O T ops k ops.size [] (Array.replicate ops.size false) [] f st = R at h
  cases R <;> exact h
theorem AnyE.runN (hT : TOk P T) {O : Ar} (hO : O = std) (k : Nat) {rd : Option Nat} {ops : Array Oper} {K : Fm → St → Prop} {fuel : Nat} {pend : List (Nat × AV)} {listed : Array Bool} {f : Fm} {st : St} {R : DOut} (hM : tidyB ops (masks ops) = true)
    (hR : Fz.runDN O T ops k fuel pend listed [] f st = R) (hc : allC R.cs) (h : R.post P T rd ops K) : AnyE P T ops (masks ops) rd K fuel pend listed f st := by
  subst hR
  exact runDN_ok hT hO hM _ _ _ _ _ _ _ (allC_ok hc) h
end Go.Fz
namespace Go.Fz
open Go.Proofs
set_option maxRecDepth 100000
end Go.Fz
namespace Go.Fz
open Go.ChangeShapes Go.WideShapes Go.Deep Go.Joins
section
variable {H : Type} {enc : TypeId × Value → H} {P : Program} {w : World} {base : Nat} {spare : Nat → Bool} {held : Bool}
end
end Go.Fz
namespace Go.Proofs.Ytpaifaemkoblcaa
open Go.ChangeShapes Go.WideShapes Go.ChangeAt Go.RowKit Go.Joins
set_option linter.unusedVariables false
set_option maxRecDepth 100000
end Go.Proofs.Ytpaifaemkoblcaa
namespace Go.Fz
open Go.Proofs
set_option maxRecDepth 100000
end Go.Fz
namespace Go.Fz
open Go.Proofs
set_option maxRecDepth 100000
end Go.Fz
namespace Go.Fz
open Go.Proofs
set_option maxRecDepth 100000
end Go.Fz
namespace Go.Fz
open Go.Proofs
set_option maxRecDepth 100000
end Go.Fz
namespace Go.Fz
open Go.Proofs
set_option maxRecDepth 100000
end Go.Fz
namespace Go.Fz
open Go.Proofs
set_option maxRecDepth 100000
end Go.Fz
namespace Go.Fz
open Go.Proofs
set_option maxRecDepth 100000
end Go.Fz
namespace Go.Fz
open Go.Proofs
set_option maxRecDepth 100000
end Go.Fz
namespace Go.Fz
open Go.Proofs
set_option maxRecDepth 100000
end Go.Fz
namespace Go.Fz
open Go.Proofs
set_option maxRecDepth 100000
end Go.Fz
namespace Go.Fz
open Go.Proofs
set_option maxRecDepth 100000
end Go.Fz
namespace Go.Fz
open Go.Proofs
set_option maxRecDepth 100000
end Go.Fz
set_option linter.unusedVariables false
set_option linter.unusedSimpArgs false
namespace Go.Fz
open Go.Proofs
set_option maxRecDepth 100000
section
variable {P : Program} {T : Ti}
end
def lsV (p : List Nat) : AV := intsV p.length false fun i => ((p.getD i 0 : Nat) : Int)
end Go.Fz
namespace Go.Fz
open Go.Proofs
set_option maxRecDepth 100000
section
variable (K : List (List Nat) → Hp → Nat → Prop) (stop : List (List Nat) → List Nat → Hp → Nat → Prop) (ok : List Nat → Prop) (mc y many : Nat) (ex : Bool)
variable {K stop ok mc y many ex}
end
end Go.Fz
namespace Go.Fz
open Go.Proofs
set_option maxRecDepth 100000
section
variable {K : List (List Nat) → Hp → Nat → Prop} {stop : List (List Nat) → List Nat → Hp → Nat → Prop} {ok : List Nat → Prop} {mc y many : Nat}
end
end Go.Fz
namespace Go.Fz
open Go.Proofs
set_option maxRecDepth 100000
section
variable {K : List (List Nat) → Hp → Nat → Prop} {stop : List (List Nat) → List Nat → Hp → Nat → Prop} {ok : List Nat → Prop} {mc y many : Nat}
end
end Go.Fz
namespace Go.Fz
open Go.Proofs
set_option maxRecDepth 100000
section
variable (d : DayD) (XO : AV) (hX : Below 0 XO) (E : List (Mk × Nat)) (cl : Nat) (hb : Born E cl)
end
end Go.Fz
namespace Go.Fz
open Go.Proofs
set_option maxRecDepth 100000
section
variable (d : DayD) (XO : AV) (E : List (Mk × Nat)) (cl : Nat)
end
end Go.Fz
namespace Go.Fz
open Go.Proofs
set_option maxRecDepth 100000
section
variable (d : DayD) (L : Nat) (G : Nat → Nat → AV) (ME : List (AV × AV × Nat)) (cl : Nat)
end
end Go.Fz
namespace Go.Fz
open Go.Proofs
set_option maxRecDepth 100000
section
variable (d : DayD) (L : Nat) (G : Nat → Nat → AV) (ME : List (AV × AV × Nat)) (cl : Nat) (Q : List Nat → Bool)
variable {d L G ME cl}
end
end Go.Fz
namespace Go.Fz
open Go.Proofs
set_option maxRecDepth 100000
end Go.Fz
namespace Go.Fz
open Go.Proofs
set_option maxRecDepth 100000
set_option linter.unusedVariables false
end Go.Fz
namespace Go.Fz
open Go.Proofs
set_option maxRecDepth 100000
set_option linter.unusedVariables false
end Go.Fz
namespace Go.Fz
open Go.Proofs
set_option maxRecDepth 100000
end Go.Fz
namespace Go.Fz
open Go.Proofs
set_option maxRecDepth 100000
section
variable (nw nl : Nat) (f0 f1 f2 f3 : Nat → Int) (z4 z5 z6 z7 : Int)
end
end Go.Fz
namespace Go.Fz
open Go.Proofs
set_option maxRecDepth 100000
section
end
end Go.Fz
namespace Go.Fz
open Go.Proofs
set_option maxRecDepth 100000
end Go.Fz
namespace Go.Fz
open Go.Proofs
set_option maxRecDepth 100000
end Go.Fz
namespace Go.Fz
open Go.Proofs
set_option maxRecDepth 100000
end Go.Fz
namespace Go.Fz
open Go.Proofs
set_option maxRecDepth 100000
end Go.Fz
namespace Go.Fz
open Go.Proofs
set_option maxRecDepth 100000
end Go.Fz
namespace Go.Fz
open Go.Proofs
set_option maxRecDepth 100000
end Go.Fz
namespace Go.Fz
open Go.Proofs
set_option maxRecDepth 100000
end Go.Fz
namespace Go.Fz
open Go.Proofs
set_option maxRecDepth 100000
end Go.Fz
namespace Go.Fz
open Go.Proofs
set_option maxRecDepth 100000
end Go.Fz
namespace Go.Fz
variable {P : Program}
end Go.Fz
namespace Go.Fz
open Go.Proofs
set_option maxRecDepth 100000
section
variable {P : Program} {T : Ti}
end
end Go.Fz
namespace Go.Fz
open Go.Proofs
set_option maxRecDepth 100000
end Go.Fz
namespace Go.Fz
open Go.Proofs
set_option maxRecDepth 100000
set_option linter.unusedVariables false
end Go.Fz
namespace Go.Fz
open Go.Proofs
set_option maxRecDepth 100000
set_option linter.unusedVariables false
end Go.Fz
namespace Go.Fz
open Go.Proofs
set_option maxRecDepth 100000
set_option linter.unusedVariables false
end Go.Fz
namespace Go.Fz
open Go.Proofs
set_option maxRecDepth 100000
set_option linter.unusedVariables false
end Go.Fz
namespace Go.Fz
open Go.Proofs
set_option maxRecDepth 100000
end Go.Fz
namespace Go.Fz
open Go.Proofs
set_option maxRecDepth 100000
set_option pp.deepTerms false
set_option pp.deepTerms.threshold 5
end Go.Fz
namespace Go.Fz
open Go.Proofs
set_option maxRecDepth 100000
def lI (l : List Nat) (i : Nat) : Int := ((l.getD i 0 : Nat) : Int)
end Go.Fz
namespace Go.Fz
open Go.Proofs
set_option maxRecDepth 100000
end Go.Fz
namespace Go.Fz
open Go.Proofs
set_option maxRecDepth 100000
section
variable (d : DayD) (k w lo hi : Int)
end
end Go.Fz
namespace Go.Fz
open Go.Proofs
set_option maxRecDepth 100000
section
variable {T : Ti}
end
end Go.Fz
namespace Go.Fz
open Go.Proofs
set_option maxRecDepth 100000
section
variable {P : Program} {T : Ti}
end
end Go.Fz
namespace Go.Fz
open Go.Proofs
set_option maxRecDepth 100000
end Go.Fz
namespace Go.Fz
open Go.Proofs
set_option maxRecDepth 100000
set_option linter.unusedVariables false
end Go.Fz
namespace Go.Fz
open Go.Proofs
set_option maxRecDepth 100000
set_option linter.unusedVariables false
end Go.Fz
namespace Go.Fz
open Go.Proofs
set_option maxRecDepth 100000
set_option linter.unusedVariables false
end Go.Fz
namespace Go.Fz
open Go.Proofs
set_option maxRecDepth 100000
end Go.Fz
namespace Go.Fz
open Go.Proofs
set_option maxRecDepth 100000
set_option linter.unusedVariables false
section
variable {P : Program}
end
end Go.Fz
namespace Go.Fz
open Go.Proofs
set_option maxRecDepth 100000
set_option linter.unusedVariables false
end Go.Fz
namespace Go.Fz
open Go.Proofs
set_option maxRecDepth 100000
set_option linter.unusedVariables false
end Go.Fz
namespace Go.Fz
open Go.Proofs
set_option maxRecDepth 100000
set_option linter.unusedVariables false
end Go.Fz
namespace Go.Fz
def FarmD.abT (f : FarmD) (below : Nat) : Nat → Int → Bool
  | 0, _ => false
  | k + 1, n => if n < 0 then false else if n = (below : Int) then true else f.abT below k (f.down n.toNat)
def FarmD.aboveN (f : FarmD) (b below : Nat) : Bool := f.abT below f.nb (f.down b)
theorem FarmD.abT_neg (f : FarmD) (below : Nat) (n : Int) (h : n < 0) : ∀ k, f.abT below k n = false
  | 0 => rfl
  | k + 1 => by unfold FarmD.abT; rw [if_pos h]
theorem FarmD.abT_past (f : FarmD) (g : f.Good) (below : Nat) : ∀ (k : Nat) (n : Int), n < f.nb → (below : Int) < n → f.abT below k n = false
  | 0, _, _, _ => rfl
  | k + 1, n, h1, h2 => by
    unfold FarmD.abT
    rw [if_neg (by omega), if_neg (by omega)]
    rcases (g.bed n.toNat (by omega)).2.2 with h | ⟨h3, h4⟩
    · rw [h]; exact f.abT_neg below _ (by omega) k
    · exact f.abT_past g below k _ h4 (by omega)
theorem FarmD.abT_fuel (f : FarmD) (g : f.Good) (below : Nat) : ∀ (k k' : Nat) (n : Int), -1 ≤ n → n < f.nb → (f.nb : Int) ≤ n + k → (f.nb : Int) ≤ n + k' → f.abT below k n = f.abT below k' n
  | 0, _, n, h0, h1, h2, _ => by omega
  | _ + 1, 0, n, h0, h1, _, h3 => by omega
  | k + 1, k' + 1, n, h0, h1, h2, h3 => by
    unfold FarmD.abT
    by_cases hn : n < 0
    · rw [if_pos hn, if_pos hn]
    · rw [if_neg hn, if_neg hn]
      by_cases hb : n = (below : Int)
      · rw [if_pos hb, if_pos hb]
      · rw [if_neg hb, if_neg hb]
        rcases (g.bed n.toNat (by omega)).2.2 with h | ⟨h4, h5⟩
        · rw [h, f.abT_neg below _ (by omega) k, f.abT_neg below _ (by omega) k']
        · exact f.abT_fuel g below k k' _ (by omega) h5 (by omega) (by omega)
end Go.Fz
namespace Go.Fz
open Go.Proofs
set_option maxRecDepth 100000
theorem FarmD.abv_step (f : FarmD) (g : f.Good) (below : Nat) (n : Int) (h0 : 0 ≤ n) (h1 : n < f.nb) : f.abT below f.nb n = if n = (below : Int) then true else f.abT below f.nb (f.down n.toNat) := by
  obtain ⟨m, hm⟩ : ∃ m, f.nb = m + 1 := ⟨f.nb - 1, by omega⟩
  have e1 : f.abT below f.nb n = if n < 0 then false else if n = (below : Int) then true else f.abT below m (f.down n.toNat) := by rw [hm]; rfl
  rw [e1, if_neg (by omega)]
  by_cases hb : n = (below : Int)
  · rw [if_pos hb, if_pos hb]
  · rw [if_neg hb, if_neg hb]
    rcases (g.bed n.toNat (by omega)).2.2 with h | ⟨h3, h4⟩
    · rw [h, f.abT_neg below _ (by omega), f.abT_neg below _ (by omega)]
    · exact f.abT_fuel g below _ _ _ (by omega) h4 (by omega) (by omega)
set_option maxHeartbeats 4000000 in
theorem above_ok (f : FarmD) (g : f.Good) (b below : Nat) (hb : b < f.nb) : Pure Try.prog 63 [farmV f, iV b, iV below] (.sb (f.aboveN b below)) := by
  obtain ⟨O, hO⟩ : ∃ O : Ar, O = std := ⟨_, rfl⟩
  have hnat : ∀ i : Nat, O.nat (Int.ofNat i) = i := fun i => by subst hO; rfl
  have hN : ∀ n : Int, O.nat n = n.toNat := fun n => by subst hO; rfl
  have h0 : (0 : Int) ≤ Int.ofNat b := Int.natCast_nonneg b
  have hnb := g.nb
  refine pure_of_body tok 3 Try.func63 en63 rfl ⟨farmV_below f, iV_below, iV_below, trivial⟩ Below.sb ?_
  refine SW.seqRun tok hO (by cbv <;> rfl) (by trivial) ?_
  refine SW.seq ?_
  refine SW.seqRun tok hO (by cbv <;> rfl) ?_ ?_
  · exact ⟨h0, Int.ofNat_lt.2 hb⟩
  refine (SW.block (SW.loopF (fun n : Int => ⟨⟨25, getT [(2, iV below), (3, .ptr 0 0), (6, .lit (.bool false)), (7, iV n)]⟩, []⟩) (fun _ => ⟨[(0, .cells none false [springsV f, bedsV f, looksV f])], 1⟩) (fun n => if n < 0 then 0 else (f.nb - n).toNat)
    (fun n => -1 ≤ n ∧ n < f.nb ∧ f.abT below f.nb n = f.aboveN b below) (f.down b)
    (fun _ => rfl) ⟨?_, ?_, rfl⟩ (Weak.by rfl rfl (by simp) (Nat.le_refl _) (Nat.le_refl _) ⟨⟨rfl, .inl rfl⟩, ⟨rfl, .inl rfl⟩, ⟨rfl, .inl rfl⟩, ⟨?_, .inl rfl⟩, trivial⟩ ⟨⟨rfl, by omega, .inl rfl⟩, trivial⟩) fun n ⟨hn1, hn2, hn3⟩ => ?_))
  · have := (g.bed b hb).2.2; omega
  · have := (g.bed b hb).2.2; omega
  · show iV (f.down (O.nat (Int.ofNat b))) = iV (f.down b)
    rw [hnat]
  refine SW.seq ?_
  refine SW.seqRun tok hO (by cbv <;> rfl) (by trivial) ?_
  refine SW.condS (by cbv <;> rfl) (fun h => SW.skip ?_) (fun h => SW.exit ?_)
  · have hge : 0 ≤ n := by subst hO; simpa [std] using h
    have hstep := f.abv_step g below n hge hn2
    refine SW.seq (SW.block ?_)
    refine SW.seqRun tok hO (by cbv <;> rfl) (by trivial) ?_
    refine SW.condS (by cbv <;> rfl) (fun h' => ?_) (fun h' => SW.skip ?_)
    · have he : n = (below : Int) := by subst hO; simpa [std] using h'
      refine SW.seqRun tok hO (by cbv <;> rfl) (by trivial) ?_
      refine SW.ret ⟨_, _, rfl, rfl, Eqv.bool ?_⟩
      rw [← hn3, hstep, if_pos he]
    · have he : ¬ n = (below : Int) := by subst hO; simpa [std] using h'
      have hd := (g.bed n.toNat (by omega)).2.2
      refine SW.run tok hO (by cbv <;> rfl) ?_ ?_
      · exact ⟨hge, hn2⟩
      refine ⟨f.down n.toNat, by (rw [if_neg (show ¬ n < 0 by omega)]; split <;> omega), ⟨by omega, by omega, ?_⟩, Weak.by rfl rfl (by simp) (Nat.le_refl _) (Nat.le_refl _) ⟨⟨rfl, .inl rfl⟩, ⟨rfl, .inl rfl⟩, ⟨rfl, .inl rfl⟩, ⟨?_, .inl rfl⟩, trivial⟩ ⟨⟨rfl, by omega, .inl rfl⟩, trivial⟩⟩
      · rw [← hn3, hstep, if_neg he]
      · show iV (f.down (O.nat n)) = iV (f.down n.toNat)
        rw [hN]
  · have hlt : n < 0 := by subst hO; simpa [std] using h
    refine SW.seqRun tok hO (by cbv <;> rfl) (by trivial) ?_
    refine SW.ret ⟨_, _, rfl, rfl, Eqv.bool ?_⟩
    rw [← hn3, f.abT_neg below n hlt]
end Go.Fz
namespace Go.Fz
def FarmD.setN (f : FarmD) (k : Nat) (v : Int) : FarmD := { f with notch := fun i => if i = k then v else f.notch i }
section
variable (f : FarmD) (g : f.Good) (k : Nat) (hk : k < f.nb) (v : Int) (hv0 : 0 ≤ v) (hv1 : v ≤ f.notch k)
include g hv0 hv1 hk
theorem FarmD.setN_good : (f.setN k v).Good := by
  have hb := g.bed k hk
  refine ⟨g.nb, g.ns, g.nl, g.pos, fun i hi => ?_, g.spring, g.look⟩
  obtain ⟨h1, h2, h3⟩ := g.bed i hi
  refine ⟨h1, ?_, h3⟩
  show 0 ≤ (if i = k then v else f.notch i) ∧ (if i = k then v else f.notch i) ≤ 9
  split <;> omega
end
theorem FarmD.abN_step (f : FarmD) (g : f.Good) (b below : Nat) (hb : b < f.nb) : f.aboveN b below = (decide (f.down b = (below : Int)) || (decide (0 ≤ f.down b) && f.aboveN (f.down b).toNat below)) := by
  unfold FarmD.aboveN
  rcases (g.bed b hb).2.2 with h | ⟨h1, h2⟩
  · rw [h, f.abT_neg below _ (by omega)]
    simp
  · rw [f.abv_step g below _ (by omega) h2]
    by_cases hd : f.down b = (below : Int)
    · rw [if_pos hd, decide_eq_true hd]; rfl
    · rw [if_neg hd, decide_eq_false hd, decide_eq_true (show 0 ≤ f.down b by omega)]
      simp
theorem FarmD.abN_gt (f : FarmD) (g : f.Good) (b below : Nat) (hb : b < f.nb) (h : f.aboveN b below = true) : b < below := by
  unfold FarmD.aboveN at h
  rcases (g.bed b hb).2.2 with h' | ⟨h1, h2⟩
  · rw [h', f.abT_neg below _ (by omega)] at h; cases h
  · rcases Nat.lt_or_ge b below with hlt | hge
    · exact hlt
    · rw [f.abT_past g below _ _ h2 (by omega)] at h; cases h
theorem FarmD.abN_trans (f : FarmD) (g : f.Good) (k : Nat) : ∀ (m j i : Nat), f.nb - j ≤ m → j < f.nb → i < f.nb → f.down j = (i : Int) → ∀ a, a < f.nb → f.aboveN a j = true → f.aboveN a i = true := by
  intro m j i _ hj hi hd a
  induction hq : f.nb - a using Nat.strongRecOn generalizing a with
  | _ q ih =>
    intro ha h
    rw [f.abN_step g a j ha] at h
    rw [f.abN_step g a i ha]
    rcases (g.bed a ha).2.2 with h' | ⟨h1, h2⟩
    · rw [h'] at h
      simp at h
    · have ht : (f.down a).toNat < f.nb := by omega
      by_cases hdj : f.down a = (j : Int)
      · have : (f.down a).toNat = j := by omega
        have h3 : f.aboveN j i = true := by
          rw [f.abN_step g j i hj, hd]; simp
        rw [this, h3, decide_eq_true (show 0 ≤ f.down a by omega)]
        simp
      · rw [decide_eq_false hdj, Bool.false_or, Bool.and_eq_true] at h
        have h3 := ih (f.nb - (f.down a).toNat) (by omega) (f.down a).toNat rfl ht h.2
        rw [h3, decide_eq_true (show 0 ≤ f.down a by omega)]
        simp
theorem FarmD.lower (f : FarmD) (g : f.Good) (k : Nat) (hk : k < f.nb) (v : Int) (hv0 : 0 ≤ v) (hv1 : v ≤ f.notch k) (fl : Nat → Int) (hfl : ∀ s, s < f.ns → 0 ≤ fl s ∧ fl s ≤ 30) (i : Nat) : i < f.nb →
    (f.aboveN k i = true → f.waN fl i ≤ (f.setN k v).waN fl i) ∧ (f.aboveN k i = false → (f.setN k v).waN fl i = f.waN fl i) := by
  have g2 := f.setN_good g k hk v hv0 hv1
  induction i using Nat.strongRecOn with
  | _ i ih =>
    intro hi
    have hnb := g.nb
    rw [(f.setN k v).waN_eq, f.waN_eq]
    have wb : ∀ j, j < f.nb → 0 ≤ f.waN fl j ∧ f.waN fl j ≤ 15360 := fun j hj => by
      obtain ⟨h1, h2⟩ := f.waN_bound g fl hfl j hj
      have := pow2_le (b := j) (by omega)
      omega
    have wb2 : ∀ j, j < f.nb → 0 ≤ (f.setN k v).waN fl j ∧ (f.setN k v).waN fl j ≤ 15360 := fun j hj => by
      obtain ⟨h1, h2⟩ := (f.setN k v).waN_bound g2 fl hfl j hj
      have := pow2_le (b := j) (by omega)
      omega
    have ov : ∀ j, j < i → f.down j = (i : Int) →
        (maxI 0 (sub64 (f.waN fl j) (f.notch j)) ≤ maxI 0 (sub64 ((f.setN k v).waN fl j) ((f.setN k v).notch j))) ∧
        (f.aboveN k i = false → maxI 0 (sub64 ((f.setN k v).waN fl j) ((f.setN k v).notch j)) = maxI 0 (sub64 (f.waN fl j) (f.notch j))) := fun j hji hd => by
      have hj : j < f.nb := by omega
      obtain ⟨h1, h2⟩ := ih j hji hj
      obtain ⟨_, ⟨n0, n1⟩, _⟩ := g.bed j hj
      obtain ⟨_, ⟨m0, m1⟩, _⟩ := g2.bed j hj
      obtain ⟨w0, w1⟩ := wb j hj
      obtain ⟨u0, u1⟩ := wb2 j hj
      have hn : (f.setN k v).notch j = if j = k then v else f.notch j := rfl
      rw [sub64_in _ _ (by omega) (by omega), sub64_in _ _ (by omega) (by omega)]
      refine ⟨?_, fun hab => ?_⟩
      · have hw : f.waN fl j ≤ (f.setN k v).waN fl j := by
          cases hb : f.aboveN k j with
          | true => exact h1 hb
          | false => rw [h2 hb]; exact Int.le_refl _
        have hnn : (f.setN k v).notch j ≤ f.notch j := by
          rw [hn]; split
          · rename_i e; subst e; exact hv1
          · exact Int.le_refl _
        unfold maxI
        split <;> split <;> omega
      · have hjk : j ≠ k := fun e => by
          subst e
          rw [f.abN_step g j i hj, hd] at hab
          simp at hab
        have hb : f.aboveN k j = false := by
          cases hb : f.aboveN k j with
          | false => rfl
          | true => rw [f.abN_trans g k _ j i (Nat.le_refl _) hj hi hd k hk hb] at hab; cases hab
        rw [h2 hb, hn, if_neg hjk]
    have key : ∀ m, m ≤ i → (f.inB fl (f.waN fl) i m ≤ (f.setN k v).inB fl ((f.setN k v).waN fl) i m) ∧ (f.aboveN k i = false → (f.setN k v).inB fl ((f.setN k v).waN fl) i m = f.inB fl (f.waN fl) i m) ∧
        (0 ≤ f.inB fl (f.waN fl) i m ∧ f.inB fl (f.waN fl) i m ≤ 120 + 15360 * m) ∧ (0 ≤ (f.setN k v).inB fl ((f.setN k v).waN fl) i m ∧ (f.setN k v).inB fl ((f.setN k v).waN fl) i m ≤ 120 + 15360 * m) := by
      intro m
      induction m with
      | zero =>
        intro _
        have he : (f.setN k v).inB fl ((f.setN k v).waN fl) i 0 = f.inB fl (f.waN fl) i 0 := by
          show (f.setN k v).inS fl i f.ns = f.inS fl i f.ns
          have : ∀ s, (f.setN k v).inS fl i s = f.inS fl i s := fun s => by
            induction s with
            | zero => rfl
            | succ s ihs => simp only [FarmD.inS, ihs]; rfl
          exact this _
        obtain ⟨h1, h2⟩ := f.inS_bound fl g.ns hfl i f.ns (Nat.le_refl _)
        have hns := g.ns
        have hb : 0 ≤ f.inB fl (f.waN fl) i 0 ∧ f.inB fl (f.waN fl) i 0 ≤ 120 := ⟨h1, by show f.inS fl i f.ns ≤ 120; omega⟩
        rw [he]
        exact ⟨Int.le_refl _, fun _ => rfl, ⟨hb.1, by omega⟩, ⟨hb.1, by omega⟩⟩
      | succ m ihm =>
        intro hm
        obtain ⟨h1, h2, ⟨h3, h4⟩, ⟨h5, h6⟩⟩ := ihm (by omega)
        obtain ⟨w0, w1⟩ := wb m (by omega)
        obtain ⟨u0, u1⟩ := wb2 m (by omega)
        obtain ⟨_, ⟨n0, n1⟩, _⟩ := g.bed m (by omega)
        obtain ⟨_, ⟨m0, m1⟩, _⟩ := g2.bed m (show m < f.nb by omega)
        have e1 : f.inB fl (f.waN fl) i (m + 1) = if f.down m = (i : Int) then add64 (f.inB fl (f.waN fl) i m) (maxI 0 (sub64 (f.waN fl m) (f.notch m))) else f.inB fl (f.waN fl) i m := rfl
        have e2 : (f.setN k v).inB fl ((f.setN k v).waN fl) i (m + 1) = if f.down m = (i : Int) then add64 ((f.setN k v).inB fl ((f.setN k v).waN fl) i m) (maxI 0 (sub64 ((f.setN k v).waN fl m) ((f.setN k v).notch m))) else (f.setN k v).inB fl ((f.setN k v).waN fl) i m := rfl
        rw [e1, e2]
        by_cases hd : f.down m = (i : Int)
        · obtain ⟨o1, o2⟩ := ov m (by omega) hd
          have b1 : 0 ≤ maxI 0 (sub64 (f.waN fl m) (f.notch m)) ∧ maxI 0 (sub64 (f.waN fl m) (f.notch m)) ≤ 15360 := by
            rw [sub64_in _ _ (by omega) (by omega)]; unfold maxI; split <;> omega
          have b2 : 0 ≤ maxI 0 (sub64 ((f.setN k v).waN fl m) ((f.setN k v).notch m)) ∧ maxI 0 (sub64 ((f.setN k v).waN fl m) ((f.setN k v).notch m)) ≤ 15360 := by
            rw [sub64_in _ _ (by omega) (by omega)]; unfold maxI; split <;> omega
          rw [if_pos hd, if_pos hd, add64_in _ _ (by omega) (by omega), add64_in _ _ (by omega) (by omega)]
          refine ⟨by omega, fun hab => by rw [h2 hab, o2 hab], ⟨by omega, by omega⟩, ⟨by omega, by omega⟩⟩
        · rw [if_neg hd, if_neg hd]
          exact ⟨h1, h2, ⟨h3, by omega⟩, ⟨h5, by omega⟩⟩
    obtain ⟨h1, h2, _⟩ := key i (Nat.le_refl _)
    exact ⟨fun _ => h1, h2⟩
end Go.Fz
namespace Go.Fz
theorem FarmD.lower_water (f : FarmD) (g : f.Good) (k : Nat) (hk : k < f.nb) (v : Int) (hv0 : 0 ≤ v) (hv1 : v ≤ f.notch k) (fl : Nat → Int) (hfl : ∀ s, s < f.ns → 0 ≤ fl s ∧ fl s ≤ 30) :
    ((f.setN k v).water fl k 0 = f.water fl k 0 ∧ (f.setN k v).water fl k 1 ≤ f.water fl k 1) ∧
    ∀ i, i < f.nb → i ≠ k → (f.aboveN k i = true → f.water fl i 0 ≤ (f.setN k v).water fl i 0) ∧ (f.aboveN k i = false → (f.setN k v).water fl i 0 = f.water fl i 0 ∧ (f.setN k v).water fl i 1 = f.water fl i 1 ∧ (f.setN k v).water fl i 2 = f.water fl i 2) := by
  have g2 := f.setN_good g k hk v hv0 hv1
  have hW1 := f.water_eq g fl hfl
  have hW2 := (f.setN k v).water_eq g2 fl hfl
  have hlow := f.lower g k hk v hv0 hv1 fl hfl
  have hn : ∀ i, (f.setN k v).notch i = if i = k then v else f.notch i := fun i => rfl
  have hab : f.aboveN k k = false := by
    cases h : f.aboveN k k with
    | false => rfl
    | true => exact absurd (f.abN_gt g k k hk h) (Nat.lt_irrefl _)
  refine ⟨?_, fun i hi hik => ⟨fun h => ?_, fun h => ?_⟩⟩
  · obtain ⟨a1, a2, _⟩ := hW1 k hk
    obtain ⟨b1, b2, _⟩ := hW2 k hk
    have hw := (hlow k hk).2 hab
    rw [a1, b1, a2, b2]
    unfold FarmD.downN
    rw [hw, hn, if_pos rfl]
    refine ⟨rfl, ?_⟩
    unfold minI
    split <;> split <;> omega
  · rw [(hW1 i hi).1, (hW2 i hi).1]
    exact (hlow i hi).1 h
  · obtain ⟨a1, a2, a3⟩ := hW1 i hi
    obtain ⟨b1, b2, b3⟩ := hW2 i hi
    have hw := (hlow i hi).2 h
    have hd : (f.setN k v).downN fl i = f.downN fl i := by
      unfold FarmD.downN; rw [hw, hn, if_neg hik]
    exact ⟨by rw [a1, b1, hw], by rw [a2, b2, hd], by rw [a3, b3, hw, hd]⟩
end Go.Fz
namespace Go.Proofs.Ytpaifaemkoblcaa
open Go.ChangeShapes Go.WideShapes Go.ChangeAt Go.RowKit Go.Joins
set_option linter.unusedVariables false
set_option maxRecDepth 100000
theorem u8_in {n : Int} (h : (Lit.int .u8 n).wf = true) : 0 ≤ n ∧ n ≤ 255 := by
  simp [Lit.wf, IntKind.min, IntKind.max, IntKind.signed, IntKind.bits] at h
  omega
end Go.Proofs.Ytpaifaemkoblcaa
set_option linter.unusedVariables false
namespace Go.Fz
open Go.Proofs
set_option maxRecDepth 100000
theorem nI_val (p : List Nat) : zV (nI p) = lsV p := by
  unfold zV lsV
  rw [nI_len]
  congr 1
  funext i
  unfold zL nI
  rw [List.getD_eq_getElem?_getD, List.getD_eq_getElem?_getD, List.getElem?_map]
  cases p[i]? <;> rfl
section
variable (K : List (List Nat) → Hp → Prop) (stop : List (List Nat) → List Nat → Hp → Prop) (y many : Nat) (E : List (List Nat))
variable {K stop y many E}
end
end Go.Fz
set_option linter.unusedVariables false
namespace Go.Fz
open Go.Proofs
set_option maxRecDepth 100000
end Go.Fz
set_option linter.unusedVariables false
namespace Go.Fz
open Go.Proofs
set_option maxRecDepth 100000
end Go.Fz
set_option linter.unusedVariables false
namespace Go.Fz
open Go.Proofs
set_option maxRecDepth 100000
theorem sub1N {O : Ar} (hO : O = std) {i : Nat} (h : i < 1000) : O.bin .sub .i64 (Int.ofNat i) 1 = (i : Int) - 1 := by
  subst hO
  show sub64 ((i : Nat) : Int) 1 = _
  rw [sub64_in _ _ (by omega) (by omega)]
theorem natsub1 {O : Ar} (hO : O = std) {i : Nat} (h : i < 1000) (h0 : 0 < i) : O.nat (O.bin .sub .i64 (Int.ofNat i) 1) = i - 1 := by
  rw [sub1N hO h]; subst hO
  show ((i : Int) - 1).toNat = i - 1
  omega
theorem sub1_rng {O : Ar} (hO : O = std) {i N : Nat} (h : i < 1000) (h0 : 0 < i) (hN : i < N) : 0 ≤ O.bin .sub .i64 (Int.ofNat i) 1 ∧ O.bin .sub .i64 (Int.ofNat i) 1 < (N : Int) := by
  rw [sub1N hO h]; omega
theorem gtr0 {O : Ar} (hO : O = std) {i : Nat} (h : O.cmp .gtr (Int.ofNat i) 0 = true) : 0 < i := by
  have : (i : Int) > 0 := by subst hO; simpa [std] using h
  omega
theorem leq_no {O : Ar} (hO : O = std) {a b : Int} (h : O.cmp .leq a b = true) (hab : b < a) : False := by
  have : a ≤ b := by subst hO; simpa [std] using h
  omega
end Go.Fz
set_option linter.unusedVariables false
namespace Go.Fz
open Go.Proofs
set_option maxRecDepth 100000
def trueQ3 (fn : Func) : Exit → Fm → St → Prop := retQ T fn (fun v st' => Eqv (frz st'.h (fun _ => true) 3 v) (.lit (.bool true)))
theorem check_of_ready {f : FarmD} (h : f.readyB = true) : f.check = 0 := by
  simp only [FarmD.readyB, Bool.and_eq_true, decide_eq_true_eq] at h
  rw [f.check_eq]; exact h.2
theorem ready_sb (f : FarmD) {t : Bool} (h : f.readyB = t) : Pure Try.prog 52 [farmV f] (.sb t) := by
  have := ready_ok f
  rw [h] at this; exact this
theorem modN {nb : Nat} (h0 : 0 < nb) (h1 : nb < 1000) {a : Int} (a0 : 0 ≤ a) (a1 : a ≤ 65535) : ∃ k : Nat, k < nb ∧ std.bin .rem .i64 (std.conv .i64 a) (Int.ofNat nb) = Int.ofNat k := by
  have e1 : std.conv .i64 a = a := wrp_in (by simp only [IntKind.lo]; omega) (by simp only [IntKind.hi]; omega)
  rw [e1]
  have e2 : std.bin .rem .i64 a (Int.ofNat nb) = a.tmod (nb : Int) := rfl
  have h2 := Int.tmod_nonneg (nb : Int) a0
  have h3 := Int.tmod_lt_of_pos a (show (0 : Int) < nb by omega)
  refine ⟨(a.tmod (nb : Int)).toNat, by omega, ?_⟩
  rw [e2]
  show _ = (((a.tmod (nb : Int)).toNat : Nat) : Int)
  omega
theorem neq_ne {O : Ar} (hO : O = std) {a b : Int} (h : O.cmp .neq a b = true) : ¬ a = b := by
  subst hO
  have h2 : (a != b) = true := h
  simpa using h2
end Go.Fz
set_option linter.unusedVariables false
set_option linter.unusedSimpArgs false
namespace Go.Fz
open Go.Proofs
set_option maxRecDepth 100000
set_option maxHeartbeats 8000000 in
theorem dr_not (haw : Pure Try.prog 19 [] (.lit (.bool true))) (f : FarmD) (a b : Int) (e52 : Pure Try.prog 52 [farmV f] (.sb false)) : Pure Try.prog 17 [farmV f, .lit (.int .u8 a), .lit (.int .u8 b)] (.lit (.bool true)) := by
  obtain ⟨O, hO⟩ : ∃ O : Ar, O = std := ⟨_, rfl⟩
  refine pure_of_body tok 3 Try.func17 en17 rfl ⟨farmV_below f, Below.lit, Below.lit, trivial⟩ Below.lit ?_
  refine SW.seqRun tok hO (by cbv <;> rfl) (by trivial) ?_
  refine SW.seq ?_
  refine SW.seqRun tok hO (by cbv <;> rfl) (by trivial) ?_
  refine OpsW.callP e52 (by cbv <;> rfl) ?_
  refine OpsW.run tok hO (by cbv <;> rfl) (by trivial) ?_
  refine SW.condS (by cbv <;> rfl) (fun hw1 => ?_) (fun hw1 => by first | (cases hw1; done) | (subst hO; simp [std] at hw1; done) | (subst hO; simp [std] at hw1; omega))
  refine SW.seqRun tok hO (by cbv <;> rfl) (by trivial) ?_
  refine OpsW.callP haw (by cbv <;> rfl) ?_
  refine OpsW.run tok hO (by cbv <;> rfl) (by trivial) ?_
  exact SW.ret ⟨_, _, rfl, rfl, Eqv.of rfl⟩
set_option maxHeartbeats 8000000 in
theorem dr_pre (f : FarmD) (a b : Int) (k : Nat) (hnz : Int.ofNat f.nb ≠ 0) (hk : std.bin .rem .i64 (std.conv .i64 a) (Int.ofNat f.nb) = Int.ofNat k) (e52 : Pure Try.prog 52 [farmV f] (.sb true))
    (htail : ∀ (gg : Nat → AV), AllP (fun p => gg p.1 = p.2) [(2, .lit (.int .u8 b)), (3, .ptr 0 0), (7, iV (Int.ofNat k))] → SW Try.prog none (restC 3 (bodyF Try.f17)) (trueQ3 Try.f17) ⟨⟨134, gg⟩, []⟩ ⟨[(0, .cells none false (farmL f))], 1⟩) : Pure Try.prog 17 [farmV f, .lit (.int .u8 a), .lit (.int .u8 b)] (.lit (.bool true)) := by
  obtain ⟨O, hO⟩ : ∃ O : Ar, O = std := ⟨_, rfl⟩
  rw [← hO] at hk
  refine pure_of_body tok 3 Try.func17 en17 rfl ⟨farmV_below f, Below.lit, Below.lit, trivial⟩ Below.lit ?_
  refine SW.seqRun tok hO (by cbv <;> rfl) (by repeat (first | exact trivial | exact hnz | refine ⟨?_, ?_⟩)) ?_
  refine SW.seq ?_
  refine SW.seqRun tok hO (by cbv <;> rfl) (by repeat (first | exact trivial | exact hnz | refine ⟨?_, ?_⟩)) ?_
  refine OpsW.callP e52 (by cbv <;> rfl) ?_
  refine OpsW.run tok hO (by cbv <;> rfl) (by repeat (first | exact trivial | exact hnz | refine ⟨?_, ?_⟩)) ?_
  refine SW.condS (by cbv <;> rfl) (fun hw1 => by first | (cases hw1; done) | (subst hO; simp [std] at hw1; done) | (subst hO; simp [std] at hw1; omega)) (fun hw1 => SW.skip ?_)
  refine SW.seqRun tok hO (by cbv <;> rfl) (by repeat (first | exact trivial | exact hnz | refine ⟨?_, ?_⟩)) ?_
  exact htail _ ⟨rfl, rfl, (by rw [← hk]; rfl), trivial⟩
set_option maxHeartbeats 8000000 in
theorem dr_false (haw : Pure Try.prog 19 [] (.lit (.bool true))) (f : FarmD) (b : Int) (k : Nat) (hin : 0 ≤ Int.ofNat k ∧ Int.ofNat k < Int.ofNat f.nb) (e21 : Pure Try.prog 21 [farmV f] (farmV f)) (e39a : ∀ n, n = k → Pure Try.prog 39 [farmV f, iV (Int.ofNat k), iV (f.notch n)] (.tup [nl3, iV 11])) (e39b : Pure Try.prog 39 [farmV f, iV (Int.ofNat k), iV (std.bin .rem .i64 (std.conv .i64 b) 10)] (.tup [nl3, iV 11]))
    (gg : Nat → AV) (h : AllP (fun p => gg p.1 = p.2) [(2, .lit (.int .u8 b)), (3, .ptr 0 0), (7, iV (Int.ofNat k))]) :
    SW Try.prog none (restC 3 (bodyF Try.f17)) (trueQ3 Try.f17) ⟨⟨134, gg⟩, []⟩ ⟨[(0, .cells none false (farmL f))], 1⟩ := by
  obtain ⟨O, hO⟩ : ∃ O : Ar, O = std := ⟨_, rfl⟩
  obtain ⟨g1, g2, g3, _⟩ := h
  simp only at g1 g2 g3
  rw [← updT_self g1, ← updT_self g2, ← updT_self g3]
  have e39a := e39a (O.nat (Int.ofNat k)) (by subst hO; rfl)
  rw [← hO] at e39b
  have h10 : (10 : Int) ≠ 0 := by decide
  refine (show SW Try.prog none (.seq (.region _ _ _) _) _ _ _ from ?_)
  refine SW.seqRunD tok mixed hO (by kernel_rfl) (by cbv <;> rfl) (by repeat (first | exact trivial | exact hin | exact h10 | refine ⟨?_, ?_⟩)) ?_
  refine AnyE.callP e21 (by cbv <;> rfl) (by cbv <;> rfl) ?_
  refine AnyE.run tok hO (by kernel_rfl) (by cbv <;> rfl) (by repeat (first | exact trivial | exact hin | exact h10 | refine ⟨?_, ?_⟩)) ?_
  refine AnyE.callP e39a (by cbv <;> rfl) (by cbv <;> rfl) ?_
  refine AnyE.run tok hO (by kernel_rfl) (by cbv <;> rfl) (by repeat (first | exact trivial | exact hin | exact h10 | refine ⟨?_, ?_⟩)) ?_
  refine SW.seqRun tok hO (by cbv <;> rfl) (by repeat (first | exact trivial | exact hin | exact h10 | refine ⟨?_, ?_⟩)) ?_
  refine OpsW.callP e21 (by cbv <;> rfl) ?_
  refine OpsW.run tok hO (by cbv <;> rfl) (by repeat (first | exact trivial | exact hin | exact h10 | refine ⟨?_, ?_⟩)) ?_
  refine OpsW.callP e39b (by cbv <;> rfl) ?_
  refine OpsW.run tok hO (by cbv <;> rfl) (by repeat (first | exact trivial | exact hin | exact h10 | refine ⟨?_, ?_⟩)) ?_
  refine SW.seq ?_
  refine SW.seqRun tok hO (by cbv <;> rfl) (by repeat (first | exact trivial | exact hin | exact h10 | refine ⟨?_, ?_⟩)) ?_
  refine SW.condS (by cbv <;> rfl) (fun hw1 => ?_) (fun hw1 => by first | (cases hw1; done) | (subst hO; simp [std] at hw1; done) | (subst hO; simp [std] at hw1; omega))
  refine SW.seqRun tok hO (by cbv <;> rfl) (by repeat (first | exact trivial | exact hin | exact h10 | refine ⟨?_, ?_⟩)) ?_
  refine OpsW.splitG (by cbv <;> rfl) (fun hw2 => ?_) (fun hw2 => by first | (cases hw2; done) | (subst hO; simp [std] at hw2; done) | (subst hO; simp [std] at hw2; omega))
  refine OpsW.run tok hO (by cbv <;> rfl) (by repeat (first | exact trivial | exact hin | exact h10 | refine ⟨?_, ?_⟩)) ?_
  refine OpsW.splitG (by cbv <;> rfl) (fun hw3 => ?_) (fun hw3 => by first | (cases hw3; done) | (subst hO; simp [std] at hw3; done) | (subst hO; simp [std] at hw3; omega))
  refine OpsW.run tok hO (by cbv <;> rfl) (by repeat (first | exact trivial | exact hin | exact h10 | refine ⟨?_, ?_⟩)) ?_
  refine OpsW.callP haw (by cbv <;> rfl) ?_
  refine OpsW.run tok hO (by cbv <;> rfl) (by repeat (first | exact trivial | exact hin | exact h10 | refine ⟨?_, ?_⟩)) ?_
  exact SW.ret ⟨_, _, rfl, rfl, Eqv.of rfl⟩
set_option maxHeartbeats 8000000 in
theorem dr_two (f : FarmD) (b : Int) (k : Nat) (N : Nat) (F : Nat → Int) (Z : Nat → Int) (hin : 0 ≤ Int.ofNat k ∧ Int.ofNat k < Int.ofNat f.nb) (e21 : Pure Try.prog 21 [farmV f] (farmV f)) (e39a : ∀ n, n = k → Pure Try.prog 39 [farmV f, iV (Int.ofNat k), iV (f.notch n)] (.tup [intsV 0 false Z, iV 0])) (e39b : Pure Try.prog 39 [farmV f, iV (Int.ofNat k), iV (std.bin .rem .i64 (std.conv .i64 b) 10)] (.tup [intsV N false F, iV 0]))
    (htail : ∀ (gg : Nat → AV), AllP (fun p => gg p.1 = p.2) [(3, .ptr 0 0), (7, iV (Int.ofNat k)), (10, intsV N false F)] → SW Try.prog none (restC 7 (bodyF Try.f17)) (trueQ3 Try.f17) ⟨⟨134, gg⟩, []⟩ ⟨[(0, .cells none false (farmL f))], 1⟩)
    (gg : Nat → AV) (h : AllP (fun p => gg p.1 = p.2) [(2, .lit (.int .u8 b)), (3, .ptr 0 0), (7, iV (Int.ofNat k))]) :
    SW Try.prog none (restC 3 (bodyF Try.f17)) (trueQ3 Try.f17) ⟨⟨134, gg⟩, []⟩ ⟨[(0, .cells none false (farmL f))], 1⟩ := by
  obtain ⟨O, hO⟩ : ∃ O : Ar, O = std := ⟨_, rfl⟩
  obtain ⟨g1, g2, g3, _⟩ := h
  simp only at g1 g2 g3
  rw [← updT_self g1, ← updT_self g2, ← updT_self g3]
  have e39a := e39a (O.nat (Int.ofNat k)) (by subst hO; rfl)
  rw [← hO] at e39b
  have h10 : (10 : Int) ≠ 0 := by decide
  refine (show SW Try.prog none (.seq (.region _ _ _) _) _ _ _ from ?_)
  refine SW.seqRunD tok mixed hO (by kernel_rfl) (by cbv <;> rfl) (by repeat (first | exact trivial | exact hin | exact h10 | refine ⟨?_, ?_⟩)) ?_
  refine AnyE.callP e21 (by cbv <;> rfl) (by cbv <;> rfl) ?_
  refine AnyE.run tok hO (by kernel_rfl) (by cbv <;> rfl) (by repeat (first | exact trivial | exact hin | exact h10 | refine ⟨?_, ?_⟩)) ?_
  refine AnyE.callP e39a (by cbv <;> rfl) (by cbv <;> rfl) ?_
  refine AnyE.run tok hO (by kernel_rfl) (by cbv <;> rfl) (by repeat (first | exact trivial | exact hin | exact h10 | refine ⟨?_, ?_⟩)) ?_
  refine SW.seqRun tok hO (by cbv <;> rfl) (by repeat (first | exact trivial | exact hin | exact h10 | refine ⟨?_, ?_⟩)) ?_
  refine OpsW.callP e21 (by cbv <;> rfl) ?_
  refine OpsW.run tok hO (by cbv <;> rfl) (by repeat (first | exact trivial | exact hin | exact h10 | refine ⟨?_, ?_⟩)) ?_
  refine OpsW.callP e39b (by cbv <;> rfl) ?_
  refine OpsW.run tok hO (by cbv <;> rfl) (by repeat (first | exact trivial | exact hin | exact h10 | refine ⟨?_, ?_⟩)) ?_
  refine SW.seq ?_
  refine SW.seqRun tok hO (by cbv <;> rfl) (by repeat (first | exact trivial | exact hin | exact h10 | refine ⟨?_, ?_⟩)) ?_
  refine SW.condS (by cbv <;> rfl) (fun hw1 => by first | (cases hw1; done) | (subst hO; simp [std] at hw1; done) | (subst hO; simp [std] at hw1; omega)) (fun hw1 => SW.skip ?_)
  refine SW.seq ?_
  refine SW.seqRun tok hO (by cbv <;> rfl) (by repeat (first | exact trivial | exact hin | exact h10 | refine ⟨?_, ?_⟩)) ?_
  refine OpsW.splitG (by cbv <;> rfl) (fun hw2 => by first | (cases hw2; done) | (subst hO; simp [std] at hw2; done) | (subst hO; simp [std] at hw2; omega)) (fun hw2 => ?_)
  refine OpsW.run tok hO (by cbv <;> rfl) (by repeat (first | exact trivial | exact hin | exact h10 | refine ⟨?_, ?_⟩)) ?_
  refine SW.condS (by cbv <;> rfl) (fun hw3 => by first | (cases hw3; done) | (subst hO; simp [std] at hw3; done) | (subst hO; simp [std] at hw3; omega)) (fun hw3 => SW.skip ?_)
  exact htail _ ⟨rfl, rfl, rfl, trivial⟩
set_option maxHeartbeats 16000000 in
theorem dr_loop (haw : Pure Try.prog 19 [] (.lit (.bool true))) (f : FarmD) (k N : Nat) (F : Nat → Int) (hN : N < 1000) (e21 : Pure Try.prog 21 [farmV f] (farmV f)) (hsort : ∀ p q, p < q → q < N → F p < F q)
    (h40 : ∀ i, i < N → Pure Try.prog 40 [iV (F i), iV 0, iV (std.bin .sub .i64 (Int.ofNat f.nb) 1)] (.lit (.bool true))) (h63 : ∀ i, i < N → ¬ F i = Int.ofNat k → Pure Try.prog 63 [farmV f, iV (Int.ofNat k), iV (F i)] (.lit (.bool true)))
    (h30 : ∀ i, i < N → Pure Try.prog 30 [farmV f, iV (F i)] (.tup [iV 1, iV 0]))
    (gg : Nat → AV) (h : AllP (fun p => gg p.1 = p.2) [(3, .ptr 0 0), (7, iV (Int.ofNat k)), (10, intsV N false F)]) :
    SW Try.prog none (restC 7 (bodyF Try.f17)) (trueQ3 Try.f17) ⟨⟨134, gg⟩, []⟩ ⟨[(0, .cells none false (farmL f))], 1⟩ := by
  obtain ⟨O, hO⟩ : ∃ O : Ar, O = std := ⟨_, rfl⟩
  obtain ⟨g1, g2, g3, _⟩ := h
  simp only at g1 g2 g3
  rw [← updT_self g1, ← updT_self g2, ← updT_self g3]
  have hb0 : ∀ {n}, ObjBelow n (.cells none false (farmL f)) := ⟨fun x hx => Below.up (m := 0) (farmL_below f x hx), fun f h => by cases h⟩
  refine (show SW _ _ _ _ _ _ from ?_)
  refine SW.seq ?_
  refine SW.seqRun tok hO (by cbv <;> rfl) (by trivial) ?_
  refine (SW.block (SW.loopF (fun i : Nat => ⟨⟨134, getT [(3, .ptr 0 0), (7, iV (Int.ofNat k)), (10, intsV N false F), (12, iV (Int.ofNat i))]⟩, []⟩) (fun _ => ⟨[(0, .cells none false (farmL f))], 1⟩) (fun i => N - i) (fun i => i ≤ N) 0
    (fun _ => rfl) (Nat.zero_le _) (Weak.by rfl rfl (by simp) (Nat.le_refl _) (Nat.le_refl _) ⟨⟨rfl, .inl rfl⟩, ⟨rfl, .inl rfl⟩, ⟨rfl, .inl rfl⟩, ⟨rfl, .inl rfl⟩, trivial⟩ ⟨⟨rfl, by omega, .inl rfl⟩, trivial⟩) fun i hi => ?_))
  refine SW.seq ?_
  refine SW.seqRun tok hO (by cbv <;> rfl) (by trivial) ?_
  refine SW.condS (by cbv <;> rfl) (fun h => SW.skip ?_) (fun h => SW.exit ?_)
  · have hlt : i < N := by
      have : Int.ofNat i < Int.ofNat N := by subst hO; simpa [std] using h
      exact Int.ofNat_lt.1 this
    have hin : 0 ≤ Int.ofNat i ∧ Int.ofNat i < Int.ofNat N := ⟨Int.natCast_nonneg i, Int.ofNat_lt.2 hlt⟩
    have hni : O.nat (Int.ofNat i) = i := by subst hO; rfl
    have e40 := h40 (O.nat (Int.ofNat i)) (by rw [hni]; exact hlt)
    rw [← hO] at e40
    have e63 := h63 (O.nat (Int.ofNat i)) (by rw [hni]; exact hlt)
    have e30 := h30 (O.nat (Int.ofNat i)) (by rw [hni]; exact hlt)
    refine SW.seq (SW.block ?_)
    refine SW.seq ?_
    refine SW.seqRunDN tok mixed hO 4 (by kernel_rfl) (by cbv <;> rfl) (by repeat (first | exact trivial | exact hin | exact hsr | exact hin.1 | exact hin.2 | exact hsr.1 | exact hsr.2 | refine ⟨?_, ?_⟩)) ?_
    refine AnyE.run tok hO (by kernel_rfl) (by cbv <;> rfl) (by repeat (first | exact trivial | exact hin | exact hsr | exact hin.1 | exact hin.2 | exact hsr.1 | exact hsr.2 | refine ⟨?_, ?_⟩)) ?_
    refine AnyE.callP e40 (by cbv <;> rfl) (by cbv <;> rfl) ?_
    refine AnyE.run tok hO (by kernel_rfl) (by cbv <;> rfl) (by repeat (first | exact trivial | exact hin | exact hsr | exact hin.1 | exact hin.2 | exact hsr.1 | exact hsr.2 | refine ⟨?_, ?_⟩)) ?_
    refine AnyE.dec tok hO (by kernel_rfl) (by cbv <;> rfl) (by trivial) (fun hw1 => ?_) (fun hw1 => ?_)
    · have h0 := gtr0 hO hw1
      have hsr := sub1_rng hO (show i < 1000 by omega) h0 hlt
      refine AnyE.runN tok hO 4 (by kernel_rfl) (by cbv <;> rfl) (by repeat (first | exact trivial | exact hin | exact hsr | exact hin.1 | exact hin.2 | exact hsr.1 | exact hsr.2 | refine ⟨?_, ?_⟩)) ?_
      refine AnyE.runN tok hO 4 (by kernel_rfl) (by cbv <;> rfl) (by repeat (first | exact trivial | exact hin | exact hsr | exact hin.1 | exact hin.2 | exact hsr.1 | exact hsr.2 | refine ⟨?_, ?_⟩)) ?_
      refine AnyE.run tok hO (by kernel_rfl) (by cbv <;> rfl) (by repeat (first | exact trivial | exact hin | exact hsr | exact hin.1 | exact hin.2 | exact hsr.1 | exact hsr.2 | refine ⟨?_, ?_⟩)) ?_
      refine AnyE.dec tok hO (by kernel_rfl) (by cbv <;> rfl) (by trivial) (fun h => (leq_no hO h (by rw [natsub1 hO (show i < 1000 by omega) h0, hni]; exact hsort (i - 1) i (by omega) hlt)).elim) (fun hw2 => ?_)
      refine AnyE.runN tok hO 4 (by kernel_rfl) (by cbv <;> rfl) (by repeat (first | exact trivial | exact hin | exact hsr | exact hin.1 | exact hin.2 | exact hsr.1 | exact hsr.2 | refine ⟨?_, ?_⟩)) ?_
      refine AnyE.run tok hO (by kernel_rfl) (by cbv <;> rfl) (by repeat (first | exact trivial | exact hin | exact hsr | exact hin.1 | exact hin.2 | exact hsr.1 | exact hsr.2 | refine ⟨?_, ?_⟩)) ?_
      refine AnyE.dec tok hO (by kernel_rfl) (by cbv <;> rfl) (by trivial) (fun hw3 => ?_) (fun hw3 => ?_)
      · have e63 := e63 (neq_ne hO hw3)
        refine AnyE.runN tok hO 4 (by kernel_rfl) (by cbv <;> rfl) (by repeat (first | exact trivial | exact hin | exact hsr | exact hin.1 | exact hin.2 | exact hsr.1 | exact hsr.2 | refine ⟨?_, ?_⟩)) ?_
        refine AnyE.run tok hO (by kernel_rfl) (by cbv <;> rfl) (by repeat (first | exact trivial | exact hin | exact hsr | exact hin.1 | exact hin.2 | exact hsr.1 | exact hsr.2 | refine ⟨?_, ?_⟩)) ?_
        refine AnyE.callP e63 (by cbv <;> rfl) (by cbv <;> rfl) ?_
        refine AnyE.run tok hO (by kernel_rfl) (by cbv <;> rfl) (by repeat (first | exact trivial | exact hin | exact hsr | exact hin.1 | exact hin.2 | exact hsr.1 | exact hsr.2 | refine ⟨?_, ?_⟩)) ?_
        refine SW.cond (t := false) (by cbv <;> rfl) (SW.skip ?_)
        refine SW.seqRunD tok mixed hO (by kernel_rfl) (by cbv <;> rfl) (by repeat (first | exact trivial | exact hin | exact hsr | exact hin.1 | exact hin.2 | exact hsr.1 | exact hsr.2 | refine ⟨?_, ?_⟩)) ?_
        refine AnyE.callP e21 (by cbv <;> rfl) (by cbv <;> rfl) ?_
        refine AnyE.run tok hO (by kernel_rfl) (by cbv <;> rfl) (by repeat (first | exact trivial | exact hin | exact hsr | exact hin.1 | exact hin.2 | exact hsr.1 | exact hsr.2 | refine ⟨?_, ?_⟩)) ?_
        refine AnyE.callP e30 (by cbv <;> rfl) (by cbv <;> rfl) ?_
        refine AnyE.run tok hO (by kernel_rfl) (by cbv <;> rfl) (by repeat (first | exact trivial | exact hin | exact hsr | exact hin.1 | exact hin.2 | exact hsr.1 | exact hsr.2 | refine ⟨?_, ?_⟩)) ?_
        refine SW.seqRun tok hO (by cbv <;> rfl) (by repeat (first | exact trivial | exact hin | exact hsr | exact hin.1 | exact hin.2 | exact hsr.1 | exact hsr.2 | refine ⟨?_, ?_⟩)) ?_
        refine OpsW.splitG (by cbv <;> rfl) (fun hw4 => by first | (cases hw4; done) | (subst hO; simp [std] at hw4; done) | (subst hO; simp [std] at hw4; omega)) (fun hw4 => ?_)
        refine OpsW.run tok hO (by cbv <;> rfl) (by repeat (first | exact trivial | exact hin | exact hsr | exact hin.1 | exact hin.2 | exact hsr.1 | exact hsr.2 | refine ⟨?_, ?_⟩)) ?_
        refine SW.condS (by cbv <;> rfl) (fun hw5 => by first | (cases hw5; done) | (subst hO; simp [std] at hw5; done) | (subst hO; simp [std] at hw5; omega)) (fun hw5 => SW.skip ?_)
        refine SW.run tok hO (by cbv <;> rfl) (by trivial) ?_
        exact ⟨i + 1, by omega, hlt, Weak.by rfl rfl (by simp) (Nat.le_refl _) (by first | exact Nat.le_refl _ | exact Nat.le_succ _ | exact Nat.le_of_ble_eq_true rfl) ⟨⟨rfl, .inr (Below.ptr (by omega))⟩, ⟨rfl, .inr Below.lit⟩, ⟨rfl, .inr (Below.up (m := 0) (intsV_below _ _ _))⟩, ⟨inc_ok hO (by omega), .inr Below.lit⟩, trivial⟩ ⟨⟨rfl, by omega, .inr hb0⟩, trivial⟩⟩
      · refine AnyE.runN tok hO 4 (by kernel_rfl) (by cbv <;> rfl) (by repeat (first | exact trivial | exact hin | exact hsr | exact hin.1 | exact hin.2 | exact hsr.1 | exact hsr.2 | refine ⟨?_, ?_⟩)) ?_
        refine AnyE.runN tok hO 4 (by kernel_rfl) (by cbv <;> rfl) (by repeat (first | exact trivial | exact hin | exact hsr | exact hin.1 | exact hin.2 | exact hsr.1 | exact hsr.2 | refine ⟨?_, ?_⟩)) ?_
        refine AnyE.run tok hO (by kernel_rfl) (by cbv <;> rfl) (by repeat (first | exact trivial | exact hin | exact hsr | exact hin.1 | exact hin.2 | exact hsr.1 | exact hsr.2 | refine ⟨?_, ?_⟩)) ?_
        refine SW.cond (t := false) (by cbv <;> rfl) (SW.skip ?_)
        refine SW.seqRunD tok mixed hO (by kernel_rfl) (by cbv <;> rfl) (by repeat (first | exact trivial | exact hin | exact hsr | exact hin.1 | exact hin.2 | exact hsr.1 | exact hsr.2 | refine ⟨?_, ?_⟩)) ?_
        refine AnyE.callP e21 (by cbv <;> rfl) (by cbv <;> rfl) ?_
        refine AnyE.run tok hO (by kernel_rfl) (by cbv <;> rfl) (by repeat (first | exact trivial | exact hin | exact hsr | exact hin.1 | exact hin.2 | exact hsr.1 | exact hsr.2 | refine ⟨?_, ?_⟩)) ?_
        refine AnyE.callP e30 (by cbv <;> rfl) (by cbv <;> rfl) ?_
        refine AnyE.run tok hO (by kernel_rfl) (by cbv <;> rfl) (by repeat (first | exact trivial | exact hin | exact hsr | exact hin.1 | exact hin.2 | exact hsr.1 | exact hsr.2 | refine ⟨?_, ?_⟩)) ?_
        refine SW.seqRun tok hO (by cbv <;> rfl) (by repeat (first | exact trivial | exact hin | exact hsr | exact hin.1 | exact hin.2 | exact hsr.1 | exact hsr.2 | refine ⟨?_, ?_⟩)) ?_
        refine OpsW.splitG (by cbv <;> rfl) (fun hw6 => by first | (cases hw6; done) | (subst hO; simp [std] at hw6; done) | (subst hO; simp [std] at hw6; omega)) (fun hw6 => ?_)
        refine OpsW.run tok hO (by cbv <;> rfl) (by repeat (first | exact trivial | exact hin | exact hsr | exact hin.1 | exact hin.2 | exact hsr.1 | exact hsr.2 | refine ⟨?_, ?_⟩)) ?_
        refine SW.condS (by cbv <;> rfl) (fun hw7 => by first | (cases hw7; done) | (subst hO; simp [std] at hw7; done) | (subst hO; simp [std] at hw7; omega)) (fun hw7 => SW.skip ?_)
        refine SW.run tok hO (by cbv <;> rfl) (by trivial) ?_
        exact ⟨i + 1, by omega, hlt, Weak.by rfl rfl (by simp) (Nat.le_refl _) (by first | exact Nat.le_refl _ | exact Nat.le_succ _ | exact Nat.le_of_ble_eq_true rfl) ⟨⟨rfl, .inr (Below.ptr (by omega))⟩, ⟨rfl, .inr Below.lit⟩, ⟨rfl, .inr (Below.up (m := 0) (intsV_below _ _ _))⟩, ⟨inc_ok hO (by omega), .inr Below.lit⟩, trivial⟩ ⟨⟨rfl, by omega, .inr hb0⟩, trivial⟩⟩
    · refine AnyE.runN tok hO 4 (by kernel_rfl) (by cbv <;> rfl) (by repeat (first | exact trivial | exact hin | exact hsr | exact hin.1 | exact hin.2 | exact hsr.1 | exact hsr.2 | refine ⟨?_, ?_⟩)) ?_
      refine AnyE.runN tok hO 4 (by kernel_rfl) (by cbv <;> rfl) (by repeat (first | exact trivial | exact hin | exact hsr | exact hin.1 | exact hin.2 | exact hsr.1 | exact hsr.2 | refine ⟨?_, ?_⟩)) ?_
      refine AnyE.runN tok hO 4 (by kernel_rfl) (by cbv <;> rfl) (by repeat (first | exact trivial | exact hin | exact hsr | exact hin.1 | exact hin.2 | exact hsr.1 | exact hsr.2 | refine ⟨?_, ?_⟩)) ?_
      refine AnyE.runN tok hO 4 (by kernel_rfl) (by cbv <;> rfl) (by repeat (first | exact trivial | exact hin | exact hsr | exact hin.1 | exact hin.2 | exact hsr.1 | exact hsr.2 | refine ⟨?_, ?_⟩)) ?_
      refine AnyE.run tok hO (by kernel_rfl) (by cbv <;> rfl) (by repeat (first | exact trivial | exact hin | exact hsr | exact hin.1 | exact hin.2 | exact hsr.1 | exact hsr.2 | refine ⟨?_, ?_⟩)) ?_
      refine AnyE.dec tok hO (by kernel_rfl) (by cbv <;> rfl) (by trivial) (fun hw8 => ?_) (fun hw8 => ?_)
      · have e63 := e63 (neq_ne hO hw8)
        refine AnyE.runN tok hO 4 (by kernel_rfl) (by cbv <;> rfl) (by repeat (first | exact trivial | exact hin | exact hsr | exact hin.1 | exact hin.2 | exact hsr.1 | exact hsr.2 | refine ⟨?_, ?_⟩)) ?_
        refine AnyE.run tok hO (by kernel_rfl) (by cbv <;> rfl) (by repeat (first | exact trivial | exact hin | exact hsr | exact hin.1 | exact hin.2 | exact hsr.1 | exact hsr.2 | refine ⟨?_, ?_⟩)) ?_
        refine AnyE.callP e63 (by cbv <;> rfl) (by cbv <;> rfl) ?_
        refine AnyE.run tok hO (by kernel_rfl) (by cbv <;> rfl) (by repeat (first | exact trivial | exact hin | exact hsr | exact hin.1 | exact hin.2 | exact hsr.1 | exact hsr.2 | refine ⟨?_, ?_⟩)) ?_
        refine SW.cond (t := false) (by cbv <;> rfl) (SW.skip ?_)
        refine SW.seqRunD tok mixed hO (by kernel_rfl) (by cbv <;> rfl) (by repeat (first | exact trivial | exact hin | exact hsr | exact hin.1 | exact hin.2 | exact hsr.1 | exact hsr.2 | refine ⟨?_, ?_⟩)) ?_
        refine AnyE.callP e21 (by cbv <;> rfl) (by cbv <;> rfl) ?_
        refine AnyE.run tok hO (by kernel_rfl) (by cbv <;> rfl) (by repeat (first | exact trivial | exact hin | exact hsr | exact hin.1 | exact hin.2 | exact hsr.1 | exact hsr.2 | refine ⟨?_, ?_⟩)) ?_
        refine AnyE.callP e30 (by cbv <;> rfl) (by cbv <;> rfl) ?_
        refine AnyE.run tok hO (by kernel_rfl) (by cbv <;> rfl) (by repeat (first | exact trivial | exact hin | exact hsr | exact hin.1 | exact hin.2 | exact hsr.1 | exact hsr.2 | refine ⟨?_, ?_⟩)) ?_
        refine SW.seqRun tok hO (by cbv <;> rfl) (by repeat (first | exact trivial | exact hin | exact hsr | exact hin.1 | exact hin.2 | exact hsr.1 | exact hsr.2 | refine ⟨?_, ?_⟩)) ?_
        refine OpsW.splitG (by cbv <;> rfl) (fun hw9 => by first | (cases hw9; done) | (subst hO; simp [std] at hw9; done) | (subst hO; simp [std] at hw9; omega)) (fun hw9 => ?_)
        refine OpsW.run tok hO (by cbv <;> rfl) (by repeat (first | exact trivial | exact hin | exact hsr | exact hin.1 | exact hin.2 | exact hsr.1 | exact hsr.2 | refine ⟨?_, ?_⟩)) ?_
        refine SW.condS (by cbv <;> rfl) (fun hw10 => by first | (cases hw10; done) | (subst hO; simp [std] at hw10; done) | (subst hO; simp [std] at hw10; omega)) (fun hw10 => SW.skip ?_)
        refine SW.run tok hO (by cbv <;> rfl) (by trivial) ?_
        exact ⟨i + 1, by omega, hlt, Weak.by rfl rfl (by simp) (Nat.le_refl _) (by first | exact Nat.le_refl _ | exact Nat.le_succ _ | exact Nat.le_of_ble_eq_true rfl) ⟨⟨rfl, .inr (Below.ptr (by omega))⟩, ⟨rfl, .inr Below.lit⟩, ⟨rfl, .inr (Below.up (m := 0) (intsV_below _ _ _))⟩, ⟨inc_ok hO (by omega), .inr Below.lit⟩, trivial⟩ ⟨⟨rfl, by omega, .inr hb0⟩, trivial⟩⟩
      · refine AnyE.runN tok hO 4 (by kernel_rfl) (by cbv <;> rfl) (by repeat (first | exact trivial | exact hin | exact hsr | exact hin.1 | exact hin.2 | exact hsr.1 | exact hsr.2 | refine ⟨?_, ?_⟩)) ?_
        refine AnyE.runN tok hO 4 (by kernel_rfl) (by cbv <;> rfl) (by repeat (first | exact trivial | exact hin | exact hsr | exact hin.1 | exact hin.2 | exact hsr.1 | exact hsr.2 | refine ⟨?_, ?_⟩)) ?_
        refine AnyE.run tok hO (by kernel_rfl) (by cbv <;> rfl) (by repeat (first | exact trivial | exact hin | exact hsr | exact hin.1 | exact hin.2 | exact hsr.1 | exact hsr.2 | refine ⟨?_, ?_⟩)) ?_
        refine SW.cond (t := false) (by cbv <;> rfl) (SW.skip ?_)
        refine SW.seqRunD tok mixed hO (by kernel_rfl) (by cbv <;> rfl) (by repeat (first | exact trivial | exact hin | exact hsr | exact hin.1 | exact hin.2 | exact hsr.1 | exact hsr.2 | refine ⟨?_, ?_⟩)) ?_
        refine AnyE.callP e21 (by cbv <;> rfl) (by cbv <;> rfl) ?_
        refine AnyE.run tok hO (by kernel_rfl) (by cbv <;> rfl) (by repeat (first | exact trivial | exact hin | exact hsr | exact hin.1 | exact hin.2 | exact hsr.1 | exact hsr.2 | refine ⟨?_, ?_⟩)) ?_
        refine AnyE.callP e30 (by cbv <;> rfl) (by cbv <;> rfl) ?_
        refine AnyE.run tok hO (by kernel_rfl) (by cbv <;> rfl) (by repeat (first | exact trivial | exact hin | exact hsr | exact hin.1 | exact hin.2 | exact hsr.1 | exact hsr.2 | refine ⟨?_, ?_⟩)) ?_
        refine SW.seqRun tok hO (by cbv <;> rfl) (by repeat (first | exact trivial | exact hin | exact hsr | exact hin.1 | exact hin.2 | exact hsr.1 | exact hsr.2 | refine ⟨?_, ?_⟩)) ?_
        refine OpsW.splitG (by cbv <;> rfl) (fun hw11 => by first | (cases hw11; done) | (subst hO; simp [std] at hw11; done) | (subst hO; simp [std] at hw11; omega)) (fun hw11 => ?_)
        refine OpsW.run tok hO (by cbv <;> rfl) (by repeat (first | exact trivial | exact hin | exact hsr | exact hin.1 | exact hin.2 | exact hsr.1 | exact hsr.2 | refine ⟨?_, ?_⟩)) ?_
        refine SW.condS (by cbv <;> rfl) (fun hw12 => by first | (cases hw12; done) | (subst hO; simp [std] at hw12; done) | (subst hO; simp [std] at hw12; omega)) (fun hw12 => SW.skip ?_)
        refine SW.run tok hO (by cbv <;> rfl) (by trivial) ?_
        exact ⟨i + 1, by omega, hlt, Weak.by rfl rfl (by simp) (Nat.le_refl _) (by first | exact Nat.le_refl _ | exact Nat.le_succ _ | exact Nat.le_of_ble_eq_true rfl) ⟨⟨rfl, .inr (Below.ptr (by omega))⟩, ⟨rfl, .inr Below.lit⟩, ⟨rfl, .inr (Below.up (m := 0) (intsV_below _ _ _))⟩, ⟨inc_ok hO (by omega), .inr Below.lit⟩, trivial⟩ ⟨⟨rfl, by omega, .inr hb0⟩, trivial⟩⟩
  · refine SW.seqRun tok hO (by cbv <;> rfl) (by trivial) ?_
    refine OpsW.callP haw (by cbv <;> rfl) ?_
    refine OpsW.run tok hO (by cbv <;> rfl) (by trivial) ?_
    exact SW.ret ⟨_, _, rfl, rfl, Eqv.of rfl⟩
end Go.Fz
set_option linter.unusedVariables false
namespace Go.Fz
open Go.Proofs
set_option maxRecDepth 100000
end Go.Fz
set_option linter.unusedVariables false
namespace Go.Fz
open Go.Proofs
set_option maxRecDepth 100000
theorem setN_playS (f : FarmD) (k : Nat) (v : Int) (fl : Nat → Int) : ∀ s, playS (f.setN k v) fl s = playS f fl s
  | 0 => rfl
  | s + 1 => by
    show stepS (f.setN k v) fl s (playS (f.setN k v) fl s) = stepS f fl s (playS f fl s)
    rw [setN_playS f k v fl s]; rfl
theorem setN_playB (f : FarmD) (k : Nat) (v : Int) (K fl : Nat → Int) : ∀ i, playB (f.setN k v) K fl i = playB f K fl i
  | 0 => setN_playS f k v fl f.ns
  | i + 1 => by
    show stepB (f.setN k v) K i (playB (f.setN k v) K fl i) = stepB f K i (playB f K fl i)
    rw [setN_playB f k v K fl i]; rfl
theorem setN_k0 (f : FarmD) (k : Nat) (hk : k < f.nb) (v : Int) : setK (f.k0 f.nb) k v = (f.setN k v).k0 (f.setN k v).nb := by
  funext i
  show (if i = k then v else if i < f.nb then f.notch i else 0) = (if i < f.nb then (if i = k then v else f.notch i) else 0)
  by_cases h : i = k
  · rw [if_pos h, if_pos (by omega), if_pos h]
  · rw [if_neg h, if_neg h]
theorem setN_play (f : FarmD) (k : Nat) (hk : k < f.nb) (v : Int) (fl : Nat → Int) : playF f (setK (f.k0 f.nb) k v) fl = (f.setN k v).water fl := by
  rw [setN_k0 f k hk v]
  exact (setN_playB f k v _ fl f.nb).symm
theorem setK_self (f : FarmD) (k : Nat) (hk : k < f.nb) : setK (f.k0 f.nb) k (f.notch k) = f.k0 f.nb := by
  funext i
  show (if i = k then f.notch k else f.k0 f.nb i) = f.k0 f.nb i
  by_cases h : i = k
  · subst h
    rw [if_pos rfl]
    show f.notch i = if i < f.nb then f.notch i else 0
    rw [if_pos hk]
  · rw [if_neg h]
theorem setN_back (f : FarmD) (k : Nat) (v : Int) : (f.setN k v).setN k (f.notch k) = f := by
  have h : (fun i => if i = k then f.notch k else if i = k then v else f.notch i) = f.notch := by
    funext i
    by_cases e : i = k
    · rw [if_pos e, e]
    · rw [if_neg e, if_neg e]
  show ({ f with notch := fun i => if i = k then f.notch k else if i = k then v else f.notch i } : FarmD) = f
  rw [h]
theorem setN_goodR {f : FarmD} (g : f.Good) (k : Nat) {v : Int} (hv0 : 0 ≤ v) (hv1 : v ≤ 9) : (f.setN k v).Good := by
  refine ⟨g.nb, g.ns, g.nl, g.pos, fun i hi => ?_, g.spring, g.look⟩
  obtain ⟨h1, h2, h3⟩ := g.bed i hi
  refine ⟨h1, ?_, h3⟩
  show 0 ≤ (if i = k then v else f.notch i) ∧ (if i = k then v else f.notch i) ≤ 9
  split <;> omega
theorem setN_abT (f : FarmD) (k : Nat) (v : Int) (below : Nat) : ∀ (m : Nat) (n : Int), (f.setN k v).abT below m n = f.abT below m n
  | 0, _ => rfl
  | m + 1, n => by
    simp only [FarmD.abT]
    rw [show (f.setN k v).down = f.down from rfl]
    simp only [setN_abT f k v below m]
theorem setN_above (f : FarmD) (k : Nat) (v : Int) (b below : Nat) : (f.setN k v).aboveN b below = f.aboveN b below := setN_abT f k v below f.nb (f.down b)
theorem other_water {f : FarmD} (g : f.Good) {k : Nat} (hk : k < f.nb) {v : Int} (hv0 : 0 ≤ v) (hv1 : v ≤ 9) {fl : Nat → Int} (hfl : ∀ s, s < f.ns → 0 ≤ fl s ∧ fl s ≤ 30) {i : Nat} (hi : i < f.nb) (hik : i ≠ k) (ha : f.aboveN k i = false) : (f.setN k v).water fl i 1 = f.water fl i 1 := by
  rcases Int.le_total v (f.notch k) with h | h
  · exact (((f.lower_water g k hk v hv0 h fl hfl).2 i hi hik).2 ha).2.1
  · have g2 := setN_goodR g k hv0 hv1
    obtain ⟨n0, n1⟩ := (g.bed k hk).2.1
    have hn : f.notch k ≤ (f.setN k v).notch k := by
      show f.notch k ≤ if k = k then v else f.notch k
      rw [if_pos rfl]; exact h
    have := (((f.setN k v).lower_water g2 k hk (f.notch k) n0 hn fl hfl).2 i hi hik).2 (by rw [setN_above]; exact ha)
    rw [setN_back] at this
    exact this.2.1.symm
theorem dry_same {f : FarmD} {k : Nat} (hk : k < f.nb) : f.fgN (setK (f.k0 f.nb) k (f.notch k)) f.nb = [] := by
  rw [setK_self f k hk]
  unfold FarmD.fgN
  rw [List.filter_eq_nil_iff]
  intro b hb
  have hd : ∀ l j, f.dr (f.k0 f.nb) l j = false := fun l j => by
    unfold FarmD.dr
    have : eqW (playF f (f.k0 f.nb) (zL l)) (playF f (f.k0 f.nb) (zL l)) = true := (eqW_iff _ _).2 fun _ _ _ _ => rfl
    rw [this]; rfl
  unfold FarmD.fgP FarmD.dryN
  simp [hd]
theorem fedOk_play (f : FarmD) (b : Nat) (l : List Int) : decide (f.need b ≤ playF f (f.k0 f.nb) (zL l) b 1) = f.fedOk b l := rfl
theorem dry_mem {f : FarmD} (g : f.Good) {k : Nat} (hk : k < f.nb) {v : Int} (hv0 : 0 ≤ v) (hv1 : v ≤ 9) {j : Nat} (hj : j ∈ f.fgN (setK (f.k0 f.nb) k v) f.nb) : j < f.nb ∧ (j = k ∨ f.aboveN k j = true) ∧ f.vrd j = 1 := by
  obtain ⟨h1, h2⟩ := List.mem_filter.1 hj
  have hjn := List.mem_range.1 h1
  unfold FarmD.fgP at h2
  rw [Bool.and_eq_true] at h2
  obtain ⟨h3, h4⟩ := h2
  refine ⟨hjn, ?_, ?_⟩
  · by_cases e : j = k
    · exact .inl e
    · cases ha : f.aboveN k j with
      | true => exact .inr rfl
      | false =>
        exfalso
        unfold FarmD.dryN at h3
        rw [Bool.and_eq_true, List.any_eq_true] at h3
        obtain ⟨_, i, hi, hd⟩ := h3
        have hl := getD_mem (List.mem_range.1 hi)
        generalize f.trs.getD i [] = l at hl hd
        have hfl := f.ch_fl g (f.trs_ch hl)
        unfold FarmD.dr at hd
        rw [Bool.and_eq_true] at hd
        have h5 := hd.2
        rw [setN_play f k hk v, other_water g hk hv0 hv1 hfl hjn e ha] at h5
        have h6 := List.all_eq_true.1 h4 l hl
        have h6 : decide (f.need j ≤ f.water (zL l) j 1) = true := h6
        rw [h6] at h5
        cases h5
  · unfold FarmD.vrd
    have : f.trs.any (fun l => !f.fedOk j l) = false := by
      rw [List.any_eq_false]
      intro l hl
      have h6 := List.all_eq_true.1 h4 l hl
      rw [fedOk_play] at h6
      rw [h6]; decide
    rw [this, if_pos rfl]
theorem dry_sorted (f : FarmD) (K : Nat → Int) (n : Nat) : (f.fgN K n).Pairwise (· < ·) := List.Pairwise.filter _ List.pairwise_lt_range
theorem dry_len (f : FarmD) (K : Nat → Int) (n : Nat) : (f.fgN K n).length ≤ n := by
  have : (f.fgN K n).length ≤ (List.range n).length := List.length_filter_le _ _
  rwa [List.length_range] at this
end Go.Fz
set_option linter.unusedVariables false
namespace Go.Fz
open Go.Proofs
set_option maxRecDepth 100000
theorem rem10_fin : ∀ b : Fin 256, 0 ≤ std.bin .rem .i64 (std.conv .i64 (b.1 : Int)) 10 ∧ std.bin .rem .i64 (std.conv .i64 (b.1 : Int)) 10 ≤ 9 := by decide +kernel
theorem rem10 {b : Int} (b0 : 0 ≤ b) (b1 : b ≤ 255) : 0 ≤ std.bin .rem .i64 (std.conv .i64 b) 10 ∧ std.bin .rem .i64 (std.conv .i64 b) 10 ≤ 9 := by
  obtain ⟨n, rfl⟩ := Int.eq_ofNat_of_zero_le b0
  exact rem10_fin ⟨n, by omega⟩
theorem in_nb {f : FarmD} (h1 : f.nb < 1000) {j : Nat} (hj : j < f.nb) : Pure Try.prog 40 [iV (j : Int), iV 0, iV (std.bin .sub .i64 (Int.ofNat f.nb) 1)] (.lit (.bool true)) := by
  have h := in_ok (j : Int) 0 (std.bin .sub .i64 (Int.ofNat f.nb) 1)
  have e : std.bin .sub .i64 (Int.ofNat f.nb) 1 = (f.nb : Int) - 1 := by
    rw [show std.bin .sub .i64 (Int.ofNat f.nb) 1 = sub64 (f.nb : Int) 1 from sub64_eq _ _]
    exact sub64_in _ _ (by omega) (by omega)
  have hb : inB (j : Int) 0 (std.bin .sub .i64 (Int.ofNat f.nb) 1) = true := by
    rw [e]; simp [inB]; omega
  rw [hb] at h
  exact h.res (Eqv.litS true)
theorem bndE_ready {f : FarmD} (hc : f.check = 0) : (f.trs ≠ [] → f.opnE true = 0) ∧ (f.trs = [] → f.opnE true = 11) := bndE_of hc
theorem bedDry_ok (haw : Pure Try.prog 19 [] (.lit (.bool true))) (f : FarmD) (a b : Int) (a0 : 0 ≤ a) (a1 : a ≤ 255) (b0 : 0 ≤ b) (b1 : b ≤ 255) : Pure Try.prog 17 [farmV f, .lit (.int .u8 a), .lit (.int .u8 b)] (.lit (.bool true)) := by
  cases hR : f.readyB with
  | false => exact dr_not haw f a b (ready_sb f hR)
  | true =>
    have hc := check_of_ready hR
    have g := good_of_check hc
    have hs := good_small g
    have hnb := g.nb
    have hns := g.ns
    have hnl := g.nl
    obtain ⟨k, hk, hm⟩ := modN g.pos (by omega) a0 (by omega)
    have hin : 0 ≤ Int.ofNat k ∧ Int.ofNat k < Int.ofNat f.nb := ⟨Int.natCast_nonneg k, Int.ofNat_lt.2 hk⟩
    have hnz : Int.ofNat f.nb ≠ 0 := by
      have := g.pos
      show (f.nb : Int) ≠ 0
      omega
    have e21 := farm_ok f (by omega) (by omega) (by omega)
    obtain ⟨v0, v1⟩ := rem10 b0 b1
    refine dr_pre f a b k hnz hm (ready_sb f hR) fun gg h => ?_
    have e39a := forgotten39 hs (k : Int) (f.notch k)
    have e39b := forgotten39 hs (k : Int) (std.bin .rem .i64 (std.conv .i64 b) 10)
    obtain ⟨n0, n1⟩ := (g.bed k hk).2.1
    have hE : ∀ v, 0 ≤ v → v ≤ 9 → f.fgE (k : Int) v = f.opnE true := fun v h1 h2 => by
      unfold FarmD.fgE
      have : (f.hasB (k : Int) && ntchB v) = true := by
        simp only [FarmD.hasB, ntchB, Bool.and_eq_true, decide_eq_true_eq]
        omega
      rw [this]
    have hE1 := hE _ n0 n1
    have hE2 := hE _ v0 v1
    unfold FarmD.fgV at e39a e39b
    rw [hE1] at e39a
    rw [hE2] at e39b
    obtain ⟨NV, hNV⟩ : ∃ v, std.bin .rem .i64 (std.conv .i64 b) 10 = v := ⟨_, rfl⟩
    by_cases ht : f.trs = []
    · rw [(bndE_ready hc).2 ht, if_neg (by decide)] at e39a e39b
      exact dr_false haw f b k hin e21 (fun n hn => by subst hn; exact e39a) e39b gg h
    · rw [(bndE_ready hc).1 ht, if_pos rfl] at e39a e39b
      have hsame := dry_same (f := f) hk
      have hmem : ∀ j ∈ f.fgN (setK (f.k0 f.nb) k NV) f.nb, j < f.nb ∧ (j = k ∨ f.aboveN k j = true) ∧ f.vrd j = 1 := fun j hj => dry_mem g hk (by rw [← hNV]; exact v0) (by rw [← hNV]; exact v1) hj
      have hsrt := dry_sorted f (setK (f.k0 f.nb) k NV) f.nb
      have hlen := dry_len f (setK (f.k0 f.nb) k NV) f.nb
      rw [show ((k : Nat) : Int).toNat = k from rfl] at e39a e39b
      rw [hsame] at e39a
      rw [hNV] at e39b
      rw [← hNV] at e39b
      have e39b : Pure Try.prog 39 [farmV f, iV (Int.ofNat k), iV (std.bin .rem .i64 (std.conv .i64 b) 10)] (.tup [zV (nI (f.fgN (setK (f.k0 f.nb) k NV) f.nb)), iV 0]) := by
        rw [← hNV]; exact e39b
      generalize f.fgN (setK (f.k0 f.nb) k NV) f.nb = L at e39b hmem hsrt hlen
      rw [nI_val] at e39b
      have hF : ∀ i, i < L.length → lI L i = ((L.getD i 0 : Nat) : Int) ∧ L.getD i 0 ∈ L := fun i hi => by
        refine ⟨rfl, ?_⟩
        rw [List.getD_eq_getElem?_getD, List.getElem?_eq_getElem hi]
        exact List.getElem_mem hi
      refine dr_two f b k L.length (lI L) (zL (nI [])) hin e21 (fun n hn => by subst hn; exact e39a) e39b (fun gg h => ?_) gg h
      refine dr_loop haw f k L.length (lI L) (by omega) e21 (fun p q hpq hq => ?_) (fun i hi => ?_) (fun i hi hne => ?_) (fun i hi => ?_) gg h
      · show ((L.getD p 0 : Nat) : Int) < ((L.getD q 0 : Nat) : Int)
        have := List.pairwise_iff_getElem.1 hsrt p q (by omega) hq hpq
        rw [List.getD_eq_getElem?_getD, List.getD_eq_getElem?_getD, List.getElem?_eq_getElem (by omega), List.getElem?_eq_getElem hq]
        exact Int.ofNat_lt.2 this
      · obtain ⟨h1, h2⟩ := hF i hi
        rw [h1]
        exact in_nb (by omega) (hmem _ h2).1
      · obtain ⟨h1, h2⟩ := hF i hi
        rw [h1] at hne ⊢
        obtain ⟨h3, h4, _⟩ := hmem _ h2
        have h5 := above_ok f g k (L.getD i 0) hk
        have h6 : f.aboveN k (L.getD i 0) = true := by
          rcases h4 with h4 | h4
          · exact absurd (congrArg Int.ofNat h4) hne
          · exact h4
        rw [h6] at h5
        exact h5.res (Eqv.litS true)
      · obtain ⟨h1, h2⟩ := hF i hi
        rw [h1]
        obtain ⟨h3, _, h5⟩ := hmem _ h2
        have h6 := fed_ok hs ((L.getD i 0 : Nat) : Int)
        have h7 : f.fedE ((L.getD i 0 : Nat) : Int) = 0 := by
          unfold FarmD.fedE
          have : f.hasB ((L.getD i 0 : Nat) : Int) = true := by
            simp only [FarmD.hasB, Bool.and_eq_true, decide_eq_true_eq]
            omega
          rw [this]
          exact (bndE_ready hc).1 ht
        unfold FarmD.fedV at h6
        rw [h7, if_pos rfl, show ((L.getD i 0 : Nat) : Int).toNat = L.getD i 0 from rfl, h5] at h6
        exact h6
end Go.Fz
