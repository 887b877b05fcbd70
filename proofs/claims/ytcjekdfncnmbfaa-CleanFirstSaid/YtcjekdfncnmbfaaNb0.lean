/- Own work of the verifier of watercress: Lb4, Lb7, FzCl36, FzCn1, FzCn2, FzCn3. -/
import Derived.ChangeKeysEq
import Derived.Laws.AppendOwn
import Derived.Laws.Cells
import Derived.Laws.CopyRow
import Derived.Laws.Entries
import Derived.Laws.NewFold
import Derived.Laws.Sem
import Derived.Laws.Small
import Derived.Laws.StructEq
import Derived.Laws.Tables
import Derived.Laws.World
import Derived.OrdersHeld
import Derived.OrdersIn
import Derived.RangeFuncLeaves
import Derived.RangeFuncRecord
import Derived.Shelf.Abstract
import Derived.Test.YtcjekdfncnmbfaaNa0
import Derived.Test.YtcjekdfncnmbfaaNa1
import Derived.Test.YtcjekdfncnmbfaaNa2
import Derived.Test.YtcjekdfncnmbfaaNa3
import Derived.Test.YtcjekdfncnmbfaaProg
import Derived.Test.YtcjekdfncnmbfaaNa4
import Derived.Below
import Derived.CallsIn
import Derived.Carry
import Derived.ChangeSame
import Derived.Deep.Slices
import Derived.DeepKeys4
import Derived.JoinedCond
import Derived.Laws.Cover3
import Derived.Lib.SmallJoins
import Derived.Maps.Keyed
import Derived.Maps.RangeRun
import Derived.OpenShut
import Derived.ProofKit
import Derived.WalkKit
import Derived.WideKeyArgs
import Derived.Test.YtcjekdfncnmbfaaNa5
import Derived.Test.YtcjekdfncnmbfaaNa6
import Derived.Test.YtcjekdfncnmbfaaRows
import Derived.Test.YtcjekdfncnmbfaaNa7
import Derived.Test.YtcjekdfncnmbfaaNa10
import Derived.Test.YtcjekdfncnmbfaaNa11
import Derived.Test.YtcjekdfncnmbfaaNa13
import Derived.Test.YtcjekdfncnmbfaaNa16
import Derived.Test.YtcjekdfncnmbfaaNa14
import Derived.Test.YtcjekdfncnmbfaaNa18
import Derived.Test.YtcjekdfncnmbfaaNa15
import Derived.Test.YtcjekdfncnmbfaaNa19
import Derived.Test.YtcjekdfncnmbfaaNa12
import Derived.Test.YtcjekdfncnmbfaaNa17
import Derived.Test.YtcjekdfncnmbfaaNa8
import Derived.Test.YtcjekdfncnmbfaaNa9
import Derived.Test.YtcjekdfncnmbfaaNa20
import Derived.Test.YtcjekdfncnmbfaaNa22
set_option linter.unusedVariables false
set_option linter.unusedSimpArgs false
namespace Go.Fz
open Go.Proofs
theorem en13 : Enters Try.prog 13 := fun args w => Go.Proofs.enters_of Try.func13 (by kernel_rfl) rfl args w
theorem en40 : Enters Try.prog 40 := fun args w => Go.Proofs.enters_of Try.func40 (by kernel_rfl) rfl args w
theorem en54 : Enters Try.prog 54 := fun args w => Go.Proofs.enters_of Try.func54 (by kernel_rfl) rfl args w
theorem en83 : Enters Try.prog 83 := fun args w => Go.Proofs.enters_of Try.func83 (by kernel_rfl) rfl args w
theorem en105 : Enters Try.prog 105 := fun args w => Go.Proofs.enters_of Try.func105 (by kernel_rfl) rfl args w
end Go.Fz
set_option linter.unusedVariables false
set_option linter.unusedSimpArgs false
namespace Go.Fz
variable {P : Program} {T : Ti}
end Go.Fz
namespace Go.Fz
open Go.Proofs
set_option maxRecDepth 100000
theorem updE_mem {β : Type} [DecidableEq β] {E : List (β × Nat)} {x b : β} {c : Nat} : x ∈ (updE E b c).map (·.1) ↔ x ∈ E.map (·.1) ∨ x = b := by
  unfold updE
  split
  · rename_i h
    exact ⟨.inl, fun h2 => h2.elim id fun e => by rw [e]; exact h⟩
  · simp
theorem bmP_mem (b : Nat → Bool) (x : Bool) : ∀ i, x ∈ (bmP b i).1.map (·.1) ↔ ∃ j, j < i ∧ b j = x
  | 0 => by
    show x ∈ [] ↔ _
    exact ⟨fun h => (by cases h), fun ⟨_, h, _⟩ => absurd h (Nat.not_lt_zero _)⟩
  | i + 1 => by
    show x ∈ (updE _ _ _).map (·.1) ↔ _
    rw [updE_mem, bmP_mem b x i]
    constructor
    · rintro (⟨j, h1, h2⟩ | h)
      · exact ⟨j, by omega, h2⟩
      · exact ⟨i, by omega, h.symm⟩
    · rintro ⟨j, h1, h2⟩
      by_cases e : j = i
      · exact .inr (by rw [← e]; exact h2.symm)
      · exact .inl ⟨j, by omega, h2⟩
end Go.Fz
namespace Go.Fz
open Go.Proofs
set_option maxRecDepth 100000
end Go.Fz
namespace Go.Fz
section
variable {P : Program} {T : Ti}
end
end Go.Fz
namespace Go.Fz
open Go.Proofs
set_option maxRecDepth 100000
section
variable {α : Type} {next : α → (Nat → Int) → α} {N : Nat} {lo hi : Nat → Int}
end
end Go.Fz
namespace Go.Fz
open Go.Proofs
set_option maxRecDepth 100000
section
variable {P : Program} {T : Ti}
end
end Go.Fz
namespace Go.Fz
open Go.Proofs
set_option maxRecDepth 100000
end Go.Fz
namespace Go.Fz
open Go.Proofs
set_option maxRecDepth 100000
set_option maxHeartbeats 8000000 in
theorem least_ok (a : Int) (n : Nat) (ex : Bool) (fl : Nat → Int) (hn : n < 100000) : Pure Try.prog 105 [iV a, intsV n ex fl] (iV (leN a fl n)) := by
  obtain ⟨O, hO⟩ : ∃ O : Ar, O = std := ⟨_, rfl⟩
  have hnat : ∀ i : Nat, O.nat (Int.ofNat i) = i := fun i => by subst hO; rfl
  refine pure_of_body tok 3 Try.func105 en105 rfl ⟨Below.lit, intsV_below _ _ _, trivial⟩ Below.lit ?_
  refine SW.seqRun tok hO (by cbv <;> rfl) (by trivial) ?_
  refine SW.seq ?_
  refine SW.seqRun tok hO (by cbv <;> rfl) (by trivial) ?_
  refine (SW.block (SW.loopF (fun i : Nat => ⟨⟨18, getT [(0, iV (leN a fl i)), (7, intsV n ex fl), (8, iV n), (9, iV i)]⟩, []⟩) (fun _ => ⟨[], 0⟩) (fun i => n - i) (fun i => i ≤ n) 0
    (fun _ => rfl) (Nat.zero_le _) (Weak.by rfl rfl (by simp) (Nat.le_refl _) (Nat.le_refl _) ⟨⟨rfl, .inl rfl⟩, ⟨rfl, .inl rfl⟩, ⟨rfl, .inl rfl⟩, ⟨rfl, .inl rfl⟩, trivial⟩ trivial) fun i hi => ?_))
  obtain ⟨v, hv⟩ : ∃ v, leN a fl i = v := ⟨_, rfl⟩
  rw [hv]
  refine SW.seqRun tok hO (by cbv <;> rfl) (by trivial) ?_
  refine SW.seq (SW.condS (by cbv <;> rfl) (fun h => SW.skip ?_) (fun h => SW.exit ?_))
  · have hlt : i < n := by subst hO; simpa [std] using h
    have hi0 : (0 : Int) ≤ Int.ofNat i := Int.natCast_nonneg i
    refine SW.seq (SW.block ?_)
    refine SW.seqRun tok hO (by cbv <;> rfl) ?_ ?_
    · exact ⟨hi0, Int.ofNat_lt.2 hlt⟩
    refine SW.run tok hO (by cbv <;> rfl) (by trivial) ?_
    refine SW.run tok hO (by cbv <;> rfl) (by trivial) ?_
    have hm : O.mn v (fl (O.nat (Int.ofNat i))) = leN a fl (i + 1) := by
      rw [hnat]
      show _ = if fl i < leN a fl i then fl i else leN a fl i
      rw [hv]; subst hO; rfl
    exact ⟨i + 1, by omega, hlt, Weak.by rfl rfl (fun _ h => nomatch h) (Nat.le_refl _) (Nat.le_refl _) ⟨⟨congrArg (fun z => AV.lit (.int .i64 z)) hm, .inl rfl⟩, ⟨rfl, .inl rfl⟩, ⟨rfl, .inl rfl⟩, ⟨inc_ok hO (by omega), .inl rfl⟩, trivial⟩ trivial⟩
  · have hge : i = n := by
      have : n ≤ i := by subst hO; simpa [std] using h
      omega
    subst hge
    rw [hv]
    refine SW.seqRun tok hO (by cbv <;> rfl) (by trivial) ?_
    exact SW.ret ⟨_, _, rfl, rfl, Eqv.of rfl⟩
theorem leN_le (a : Int) (fl : Nat → Int) : ∀ n, (leN a fl n ≤ a ∧ ∀ i, i < n → leN a fl n ≤ fl i) ∧ (leN a fl n = a ∨ ∃ i, i < n ∧ leN a fl n = fl i)
  | 0 => ⟨⟨Int.le_refl _, fun i h => by omega⟩, .inl rfl⟩
  | n + 1 => by
    obtain ⟨⟨h1, h2⟩, h3⟩ := leN_le a fl n
    show (_ ≤ a ∧ _) ∧ _
    have e : leN a fl (n + 1) = if fl n < leN a fl n then fl n else leN a fl n := rfl
    rw [e]
    split
    · refine ⟨⟨by omega, fun i hi => ?_⟩, .inr ⟨n, by omega, rfl⟩⟩
      by_cases hin : i = n
      · subst hin; omega
      · have := h2 i (by omega); omega
    · refine ⟨⟨h1, fun i hi => ?_⟩, h3.imp id fun ⟨i, h4, h5⟩ => ⟨i, by omega, h5⟩⟩
      by_cases hin : i = n
      · subst hin; omega
      · exact h2 i (by omega)
end Go.Fz
namespace Go.Fz
open Go.Proofs
set_option maxRecDepth 100000
end Go.Fz
namespace Go.Fz
variable {P : Program} {T : Ti}
end Go.Fz
namespace Go.Fz
open Go.Proofs
set_option maxRecDepth 100000
section
variable {P : Program}
end
section
variable {β : Type} [DecidableEq β]
end
end Go.Fz
namespace Go.Fz
open Go.Proofs
set_option maxRecDepth 100000
end Go.Fz
namespace Go.Fz
open Go.Proofs
set_option maxRecDepth 100000
section
variable {P : Program} {T : Ti} {β : Type}
end
end Go.Fz
namespace Go.Fz
open Go.Proofs
set_option maxRecDepth 100000
section
variable {P : Program} {T : Ti} {β : Type} [DecidableEq β]
end
end Go.Fz
namespace Go.Fz
open Go.Proofs
set_option maxRecDepth 100000
end Go.Fz
namespace Go.Fz
open Go.Proofs
set_option maxRecDepth 100000
end Go.Fz
namespace Go.Fz
open Go.Proofs
set_option maxRecDepth 100000
end Go.Fz
namespace Go.Fz
open Go.Proofs
set_option maxRecDepth 100000
section
variable (nw nl : Nat) (A B C D : Nat → Nat → Int) (a b c e : Nat → Int)
end
end Go.Fz
set_option linter.unusedVariables false
namespace Go.Fz
open Go.Proofs
set_option maxRecDepth 100000
def YardD.fwI (y : YardD) (f : Nat → Int) : Int := leN (y.nc : Nat) (fun j => (((y.wrN f y.nc).getD j 0 : Nat) : Int)) (y.wrN f y.nc).length
set_option maxHeartbeats 4000000 in
theorem firstWrong_ok (y : YardD) (f : Nat → Int) (hc : y.nc < 1000) (hcb : ∀ i, i < y.nc → 0 ≤ y.cb i ∧ y.cb i < 6) : Pure Try.prog 83 [yardV y, .agg (arrC f)] (iV (y.fwI f)) := by
  obtain ⟨O, hO⟩ : ∃ O : Ar, O = std := ⟨_, rfl⟩
  have e1 := wrongIn_ok y f hc hcb
  have hlen : (y.wrN f y.nc).length ≤ y.nc := Nat.le_trans (List.length_filter_le _ _) (by rw [List.length_range]; exact Nat.le_refl _)
  have e2 := least_ok (y.nc : Nat) (y.wrN f y.nc).length false (fun j => (((y.wrN f y.nc).getD j 0 : Nat) : Int)) (by omega)
  have hq : y.fwI f = leN (y.nc : Nat) (fun j => (((y.wrN f y.nc).getD j 0 : Nat) : Int)) (y.wrN f y.nc).length := rfl
  rw [← hq] at e2
  generalize y.fwI f = Q at e2 ⊢
  unfold lsV at e1
  generalize (fun j => (((y.wrN f y.nc).getD j 0 : Nat) : Int)) = FL at e1 e2
  generalize (y.wrN f y.nc).length = L at e1 e2
  refine pure_of_body tok 3 Try.func83 en83 rfl ⟨yardV_below y, Below.agg (arrC_below f), trivial⟩ Below.lit ?_
  refine SW.seqRun tok hO (by cbv <;> rfl) (by trivial) ?_
  refine SW.seqRunD tok mixed hO (by kernel_rfl) (by cbv <;> rfl) (by trivial) ?_
  refine AnyE.callP e1 (by cbv <;> rfl) (by cbv <;> rfl) ?_
  refine AnyE.run tok hO (by kernel_rfl) (by cbv <;> rfl) (by trivial) ?_
  refine AnyE.callP e2 (by cbv <;> rfl) (by cbv <;> rfl) ?_
  refine AnyE.run tok hO (by kernel_rfl) (by cbv <;> rfl) (by trivial) ?_
  exact SW.ret ⟨_, _, rfl, rfl, Eqv.of rfl⟩
def YardD.fur (y : YardD) (S : List (Nat → Int)) : Nat → Int
  | 0 => 0
  | i + 1 => std.mx (y.fur S i) (y.fwI (S.getD i f0))
def YardD.fstE (y : YardD) : Int := if y.anyE true ≠ 0 then y.anyE true else if y.fur y.allS y.allS.length = (y.nc : Nat) then 7 else 0
def YardD.fstV (y : YardD) : Int := if y.fstE = 0 then y.fur y.allS y.allS.length else 0
set_option maxHeartbeats 8000000 in
theorem first_ok (y : YardD) (hb : y.nb < 1000000) (hc : y.nc < 1000000) : Pure Try.prog 40 [yardV y] (.tup [iV y.fstV, iV y.fstE]) := by
  obtain ⟨O, hO⟩ : ∃ O : Ar, O = std := ⟨_, rfl⟩
  have hnat : ∀ i : Nat, O.nat (Int.ofNat i) = i := fun i => by subst hO; rfl
  have e1 := (any_ok y hb hc true).eqv (args := [yardV y, .lit (.bool true)]) (.cons (Eqv.refl _) (.cons (Eqv.litB true) .nil))
  have hE1 : y.anyE true ≠ 0 → y.fstE = y.anyE true ∧ y.fstV = 0 := fun h => by
    have e : y.fstE = y.anyE true := if_pos h
    exact ⟨e, if_neg (by rw [e]; exact h)⟩
  have hE2 : y.anyE true = 0 → y.fur y.allS y.allS.length = (y.nc : Nat) → y.fstE = 7 ∧ y.fstV = 0 := fun h h2 => by
    have e : y.fstE = 7 := by unfold YardD.fstE; rw [if_neg (by simp [h]), if_pos h2]
    exact ⟨e, if_neg (by rw [e]; omega)⟩
  have hE3 : y.anyE true = 0 → y.fur y.allS y.allS.length ≠ (y.nc : Nat) → y.fstE = 0 ∧ y.fstV = y.fur y.allS y.allS.length := fun h h2 => by
    have e : y.fstE = 0 := by unfold YardD.fstE; rw [if_neg (by simp [h]), if_neg h2]
    exact ⟨e, if_pos e⟩
  have hL := fun h : y.anyE true = 0 => YardD.any_some (y := y) (B := true) h
  have hlen := fun h : y.anyE true = 0 => YardD.any_len (y := y) (B := true) h
  have hfw := fun (h : y.anyE true = 0) (f : Nat → Int) => firstWrong_ok y f (YardD.any_cl h).1 (YardD.any_cl h).2
  generalize y.fstV = FV at hE1 hE2 hE3 ⊢
  generalize y.fstE = FE at hE1 hE2 hE3 ⊢
  unfold lsV6 at e1
  obtain ⟨E, hE⟩ : ∃ E, y.anyE true = E := ⟨_, rfl⟩
  obtain ⟨AL, hAL⟩ : ∃ l, y.anyL true = l := ⟨_, rfl⟩
  rw [hE] at e1 hE1 hE2 hE3 hL hlen hfw
  rw [hAL] at e1 hL
  obtain ⟨g, hg⟩ : ∃ g : Nat → Nat → Int, g = fun i k => (AL.getD i f0) k := ⟨_, rfl⟩
  rw [show gS AL = fun i k => iV (g i k) by rw [hg]; rfl] at e1
  obtain ⟨N, hN⟩ : ∃ N, AL.length = N := ⟨_, rfl⟩
  rw [hN] at e1
  refine pure_of_body tok 4 Try.func40 en40 rfl ⟨yardV_below y, trivial⟩ (Below.tup (AllB.ok ⟨Below.lit, Below.lit, trivial⟩)) ?_
  refine SW.seqRun tok hO (by cbv <;> rfl) (by trivial) ?_
  refine SW.seqRun tok hO (by cbv <;> rfl) (by trivial) ?_
  refine OpsW.callP e1 (by cbv <;> rfl) ?_
  refine OpsW.run tok hO (by cbv <;> rfl) (by trivial) ?_
  refine SW.seq ?_
  refine SW.seqRun tok hO (by cbv <;> rfl) (by trivial) ?_
  refine SW.condS (by cbv <;> rfl) (fun h1 => ?_) (fun h1 => SW.skip ?_)
  · have h0 : E ≠ 0 := by subst hO; simpa [std] using h1
    obtain ⟨rfl, rfl⟩ := hE1 h0
    refine SW.seqRun tok hO (by cbv <;> rfl) (by trivial) ?_
    exact SW.ret ⟨_, _, rfl, rfl, Eqv.of rfl⟩
  have h0 : E = 0 := by subst hO; simpa [std] using h1
  replace hE2 := hE2 h0
  replace hE3 := hE3 h0
  replace hlen := hlen h0
  replace hfw := hfw h0
  rw [← hL h0] at hE2 hE3 hlen
  rw [hN] at hE2 hE3 hlen
  clear hL hE1
  obtain ⟨FU, hFU⟩ : ∃ F : Nat → Int, F = y.fur AL := ⟨_, rfl⟩
  rw [← hFU] at hE2 hE3
  have hF0 : FU 0 = 0 := by rw [hFU]; rfl
  have hFs : ∀ i, FU (i + 1) = O.mx (FU i) (y.fwI (AL.getD i f0)) := fun i => by rw [hFU, hO]; rfl
  have hgi : ∀ i, AV.agg [iV (g i 0), iV (g i 1), iV (g i 2), iV (g i 3), iV (g i 4), iV (g i 5)] = .agg (arrC (AL.getD i f0)) := fun i => by rw [hg]; rfl
  refine (show SW _ _ _ _ _ _ from ?_)
  refine SW.seqRun tok hO (by cbv <;> rfl) (by trivial) ?_
  refine SW.seq ?_
  refine SW.seqRun tok hO (by cbv <;> rfl) (by trivial) ?_
  refine (SW.block (SW.loopR (fun i : Nat => ⟨⟨35, getT [(1, .ptr 0 0), (6, iV (FU i)), (17, .isl N 6 false (fun i k => iV (g i k))), (18, iV N), (19, iV (i : Nat))]⟩, []⟩) (fun i => ⟨[(0, .cells none false (yardC y))] ++ [], 1⟩) (fun i => N - i) (fun i => i ≤ N) 0 (Nat.zero_le _) (ren1 1 1) ?_ fun i hi => ?_))
  · refine WeakR.up rfl rfl (by simp) (Nat.le_refl _) (.inl rfl) (by show 1 ≤ 1; omega) ⟨RenV.ptr (by omega), ?_, RenV.closed (Below.isl fun i k _ _ => Below.lit), RenV.closed Below.lit, RenV.closed Below.lit, trivial⟩ ⟨⟨by omega, _, rfl, .cells (RenVs.closed (yardC_below y)), .inr rfl⟩, trivial⟩ (fun p hp => by cases hp)
    show RenV _ _ (iV (FU 0)) _
    rw [hF0]; exact RenV.closed Below.lit
  have hFi := hFs i
  obtain ⟨u, hu⟩ : ∃ u, FU i = u := ⟨_, rfl⟩
  show SW _ _ _ _ ⟨⟨35, getT [(1, .ptr 0 0), (6, iV (FU i)), (17, .isl N 6 false (fun i k => iV (g i k))), (18, iV N), (19, iV (i : Nat))]⟩, []⟩ ⟨[(0, .cells none false (yardC y))], 1⟩
  rw [hu]
  rw [hu] at hFi
  have hfi := hfw (AL.getD i f0)
  rw [← hgi i] at hfi
  obtain ⟨x, hx⟩ : ∃ x, y.fwI (AL.getD i f0) = x := ⟨_, rfl⟩
  rw [hx] at hfi hFi
  have hni : O.nat (Int.ofNat i) = i := hnat i
  rw [show i = O.nat (Int.ofNat i) from hni.symm] at hfi
  refine SW.seqRun tok hO (by cbv <;> rfl) (by trivial) ?_
  refine SW.seq (SW.condS (by cbv <;> rfl) (fun h => SW.skip ?_) (fun h => SW.exit ?_))
  · have hlt : i < N := by
      have : (i : Int) < (N : Int) := by subst hO; simpa [std] using h
      omega
    refine SW.seq (SW.block ?_)
    refine SW.seqRun tok hO (by cbv <;> rfl) ?_ ?_
    · exact ⟨by show (0 : Int) ≤ (i : Int); omega, by show (i : Int) < (N : Int); omega⟩
    refine SW.runN tok hO 3 (by cbv <;> rfl) (by trivial) ?_
    refine OpsW.callP hfi (by cbv <;> rfl) ?_
    refine OpsW.run tok hO (by cbv <;> rfl) (by trivial) ?_
    refine SW.run tok hO (by cbv <;> rfl) (by trivial) ?_
    refine ⟨i + 1, by omega, by omega, ren1 1 1, ?_⟩
    refine WeakR.up rfl rfl (by simp) (Nat.le_refl _) (.inl rfl) (by show 1 ≤ 1; omega) ⟨RenV.ptr (by omega), ?_, RenV.closed (Below.isl fun i k _ _ => Below.lit), RenV.closed Below.lit, RenV.inc hO (by omega), trivial⟩ ⟨⟨by omega, _, rfl, .cells (RenVs.closed (yardC_below y)), .inr rfl⟩, trivial⟩ (fun p hp => by cases hp)
    show RenV _ _ (iV (FU (i + 1))) _
    rw [hFi]; exact RenV.closed Below.lit
  · have hz : i = N := by
      have : (N : Int) ≤ (i : Int) := by subst hO; simpa [std] using h
      omega
    subst hz
    rw [hu] at hE2 hE3
    refine SW.seq ?_
    refine SW.seqRun tok hO (by cbv <;> rfl) (by trivial) ?_
    refine SW.condS (by cbv <;> rfl) (fun h2 => ?_) (fun h2 => SW.skip ?_)
    · have : u = (y.nc : Nat) := by subst hO; simpa [std] using h2
      obtain ⟨rfl, rfl⟩ := hE2 this
      refine SW.seqRun tok hO (by cbv <;> rfl) (by trivial) ?_
      exact SW.ret ⟨_, _, rfl, rfl, Eqv.of rfl⟩
    · have : u ≠ (y.nc : Nat) := by subst hO; simpa [std] using h2
      obtain ⟨rfl, rfl⟩ := hE3 this
      refine (show SW _ _ _ _ _ _ from ?_)
      refine SW.seqRun tok hO (by cbv <;> rfl) (by trivial) ?_
      exact SW.ret ⟨_, _, rfl, rfl, Eqv.of rfl⟩
end Go.Fz
set_option linter.unusedVariables false
namespace Go.Fz
open Go.Proofs
set_option maxRecDepth 100000
def YardD.someL (y : YardD) (l : List Nat) : YardD := { y with nc := l.length, cb := fun i => y.cb (l.getD i 0), clo := fun i => y.clo (l.getD i 0), chi := fun i => y.chi (l.getD i 0) }
def smC (y : YardD) (l : List Nat) : Nat → Nat → AV := fun i k => clmC y (l.getD i 0) k
theorem smC_below (y : YardD) (l : List Nat) (i k : Nat) : Below 0 (smC y l i k) := clmC_below y _ k
theorem smC_snoc (y : YardD) (l : List Nat) (i : Nat) : flatG 3 (smC y l) l.length ++ [iV (y.cb i), iV (y.clo i), iV (y.chi i)] = flatG 3 (smC y (l ++ [i])) (l.length + 1) := by
  have h1 : flatG 3 (smC y (l ++ [i])) l.length = flatG 3 (smC y l) l.length := flatG_congr fun j k hj => by
    show clmC y ((l ++ [i]).getD j 0) k = clmC y (l.getD j 0) k
    rw [List.getD_eq_getElem?_getD, List.getElem?_append_left hj, ← List.getD_eq_getElem?_getD]
  have h2 : (l ++ [i]).getD l.length 0 = i := by simp
  show _ = flatG 3 (smC y (l ++ [i])) l.length ++ [iV (y.cb ((l ++ [i]).getD l.length 0)), iV (y.clo ((l ++ [i]).getD l.length 0)), iV (y.chi ((l ++ [i]).getD l.length 0))]
  rw [h1, h2]
theorem conv0 {O : Ar} (hO : O = std) {i : Nat} (hi : i < 1000) : 0 ≤ O.conv .u64 (Int.ofNat i) := by
  subst hO
  show 0 ≤ wrp .u64 ((i : Nat) : Int)
  rw [wrp_in (by simp only [IntKind.lo]; omega) (by simp only [IntKind.hi]; omega)]
  omega
set_option maxHeartbeats 8000000 in
theorem some_ok (y : YardD) (o : Int) (hc : y.nc < 1000) : Pure Try.prog 54 [yardV y, iV o] (yardV (y.someL (selL o y.nc))) := by
  obtain ⟨O, hO⟩ : ∃ O : Ar, O = std := ⟨_, rfl⟩
  have hnat : ∀ i : Nat, O.nat (Int.ofNat i) = i := fun i => by subst hO; rfl
  refine pure_of_body tok 4 Try.func54 en54 rfl ⟨yardV_below y, Below.lit, trivial⟩ (yardV_below _) ?_
  refine SW.seqRun tok hO (by cbv <;> rfl) (by trivial) ?_
  refine SW.seqRun tok hO (by cbv <;> rfl) (by trivial) ?_
  refine SW.seqRun tok hO (by cbv <;> rfl) (by trivial) ?_
  refine SW.seq ?_
  refine SW.seqRun tok hO (by cbv <;> rfl) (by trivial) ?_
  refine (SW.block (SW.loopR (fun i : Nat => ⟨⟨33, getT [(1, iV o), (2, .ptr 0 0), (4, .ptr 1 0), (5, .ptr 2 0), (6, iV i)]⟩, []⟩) (fun i => yardS y (bedsV y) (slG 3 3 (selL o i).length) (objG 3 3 (smC y (selL o i)) (selL o i).length) 4) (fun i => y.nc - i) (fun i => i ≤ y.nc) 0 (Nat.zero_le _) (ren1 3 3) ?_ fun i hi => ?_))
  · exact WeakR.up rfl rfl (by simp) (Nat.le_refl _) (.inl rfl) (by show 3 ≤ 4; omega) ⟨RenV.closed Below.lit, RenV.ptr (by omega), RenV.ptr (by omega), RenV.ptr (by omega), RenV.closed Below.lit, trivial⟩ ⟨⟨by omega, _, rfl, .cells (RenVs.closed (AllB.ok ⟨Below.lit, Below.lit, bedsV_below y, Below.lit, trivial⟩)), .inr rfl⟩, ⟨by omega, _, rfl, .cells (RenVs.closed yard0_below), .inr rfl⟩, ⟨by omega, _, rfl, .cells (RenVs.closed (yardC_below y)), .inr rfl⟩, trivial⟩ (fun p hp => by cases hp)
  have hlen := selL_len o i
  have hsn := smC_snoc y (selL o i) i
  have hsu : selL o (i + 1) = if bitB o i then selL o i ++ [i] else selL o i := rfl
  have hc0 := conv0 hO (Nat.lt_of_le_of_lt hi hc)
  have k0 : (0 : Int) ≤ Int.ofNat i := Int.natCast_nonneg i
  have hni := hnat i
  cases hm : (selL o i).length with
  | zero =>
    have hl0 : selL o i = [] := List.length_eq_zero_iff.1 hm
    show SW _ _ _ _ _ (yardS y (bedsV y) nl3 [] 4)
    refine SW.seq ?_
    refine SW.seqRun tok hO (by cbv <;> rfl) (by trivial) ?_
    refine SW.condS (by cbv <;> rfl) (fun h => SW.skip ?_) (fun h => SW.exit ?_)
    · have hlt : i < y.nc := by
        have : (i : Int) < (y.nc : Int) := by subst hO; simpa [std] using h
        omega
      have kN : Int.ofNat i < Int.ofNat y.nc := Int.ofNat_lt.2 hlt
      refine SW.seq (SW.block ?_)
      refine SW.seqRun tok hO (by cbv <;> rfl) (by first | exact ⟨hc0, (by decide : (2 : Int) ≠ 0)⟩ | exact ⟨(by decide : (2 : Int) ≠ 0), hc0⟩) ?_
      refine SW.condS (by cbv <;> rfl) (fun h2 => ?_) (fun h2 => SW.skip ?_)
      · have hb : bitB o i = true := by subst hO; exact h2
        rw [if_pos hb] at hsu
        rw [hl0] at hsn hsu
        refine SW.runD tok mixed hO (by rfl) (by cbv <;> rfl) ?_ ?_
        · exact ⟨k0, kN⟩
        refine AnyE.effK tok hO (by cbv <;> rfl) (by cbv <;> rfl) (by trivial) ?_ ?_
        · exact ⟨by cbv <;> rfl, by cbv <;> rfl, trivial⟩
        refine AnyE.appNil tok (by cbv <;> rfl) (by cbv <;> rfl) (by rfl) (by kernel_rfl) (by rfl) (by rfl) ?_
        refine AnyE.run tok hO (by rfl) (by cbv <;> rfl) (by trivial) ?_
        refine AnyE.eff tok hO (by cbv <;> rfl) (by cbv <;> rfl) (by trivial) ?_
        refine AnyE.done (by rfl) ?_
        refine SW.run tok hO (by cbv <;> rfl) (by trivial) ?_
        refine ⟨i + 1, by omega, by omega, ren1 3 5, ?_⟩
        rw [hsu]
        refine WeakR.up rfl rfl (by simp) (Nat.le_refl _) (.inr (by omega)) (by show 3 ≤ 4; omega) ⟨RenV.closed Below.lit, RenV.ptr (by omega), RenV.ptr (by omega), RenV.ptr (by omega), RenV.inc hO (by omega), trivial⟩ ⟨⟨by omega, _, rfl, .cells (.cons (RenV.closed Below.lit) (.cons (RenV.closed Below.lit) (.cons (RenV.closed (bedsV_below y)) (.cons (RenV.sl (by omega)) .nil)))), .inr rfl⟩, ⟨by omega, _, rfl, .cells (RenVs.closed yard0_below), .inr rfl⟩, ⟨by omega, _, rfl, .cells (RenVs.closed (yardC_below y)), .inr rfl⟩, trivial⟩ (fun p hp => ?_)
        obtain rfl := objG_mem hp
        refine ⟨by omega, _, rfl, .cells (RenVs.of_eq ?_ (flatG_below (smC_below y _) _)), .inl rfl⟩
        refine Eq.trans ?_ hsn
        show [iV (y.cb (O.nat (Int.ofNat i))), iV (y.clo (O.nat (Int.ofNat i))), iV (y.chi (O.nat (Int.ofNat i)))] = [] ++ _
        rw [hni]; rfl
      · have hb : bitB o i = false := by subst hO; exact h2
        rw [if_neg (by rw [hb]; decide)] at hsu
        refine SW.run tok hO (by cbv <;> rfl) (by trivial) ?_
        refine ⟨i + 1, by omega, by omega, ren1 3 3, ?_⟩
        rw [hsu, hl0]
        exact WeakR.up rfl rfl (by simp) (Nat.le_refl _) (.inl rfl) (by show 3 ≤ 4; omega) ⟨RenV.closed Below.lit, RenV.ptr (by omega), RenV.ptr (by omega), RenV.ptr (by omega), RenV.inc hO (by omega), trivial⟩ ⟨⟨by omega, _, rfl, .cells (RenVs.closed (AllB.ok ⟨Below.lit, Below.lit, bedsV_below y, Below.lit, trivial⟩)), .inr rfl⟩, ⟨by omega, _, rfl, .cells (RenVs.closed yard0_below), .inr rfl⟩, ⟨by omega, _, rfl, .cells (RenVs.closed (yardC_below y)), .inr rfl⟩, trivial⟩ (fun p hp => by cases hp)
    · have hz : i = y.nc := by
        have : (y.nc : Int) ≤ (i : Int) := by subst hO; simpa [std] using h
        omega
      refine SW.seqRun tok hO (by cbv <;> rfl) (by trivial) ?_
      refine SW.ret ⟨_, _, rfl, rfl, ?_⟩
      rw [hz] at hl0
      rw [hl0]
      exact Eqv.agg (.cons (Eqv.refl _) (.cons (Eqv.refl _) (.cons (Eqv.refl _) (.cons Eqv.nil .nil))))
  | succ m =>
    obtain ⟨G, hG⟩ : ∃ G, G = flatG 3 (smC y (selL o i)) (m + 1) := ⟨_, rfl⟩
    show SW _ _ _ _ _ (yardS y (bedsV y) (.sl 3 0 (m + 1) 3 false) [(3, .cells none false (flatG 3 (smC y (selL o i)) (m + 1)))] 4)
    rw [← hG]
    refine SW.seq ?_
    refine SW.seqRun tok hO (by cbv <;> rfl) (by trivial) ?_
    refine SW.condS (by cbv <;> rfl) (fun h => SW.skip ?_) (fun h => SW.exit ?_)
    · have hlt : i < y.nc := by
        have : (i : Int) < (y.nc : Int) := by subst hO; simpa [std] using h
        omega
      have kN : Int.ofNat i < Int.ofNat y.nc := Int.ofNat_lt.2 hlt
      refine SW.seq (SW.block ?_)
      refine SW.seqRun tok hO (by cbv <;> rfl) (by first | exact ⟨hc0, (by decide : (2 : Int) ≠ 0)⟩ | exact ⟨(by decide : (2 : Int) ≠ 0), hc0⟩) ?_
      refine SW.condS (by cbv <;> rfl) (fun h2 => ?_) (fun h2 => SW.skip ?_)
      · have hb : bitB o i = true := by subst hO; exact h2
        rw [if_pos hb] at hsu
        rw [hm, ← hG] at hsn
        refine SW.runD tok mixed hO (by rfl) (by cbv <;> rfl) ?_ ?_
        · exact ⟨k0, kN⟩
        refine AnyE.effK tok hO (by cbv <;> rfl) (by cbv <;> rfl) (by trivial) ?_ ?_
        · exact ⟨by cbv <;> rfl, by cbv <;> rfl, trivial⟩
        refine AnyE.appOne (g := smC y (selL o i)) tok (by cbv <;> rfl) (by cbv <;> rfl) (by rfl) (by rfl) hG (by kernel_rfl) (by rfl) (by rfl) (by omega) fun G' hG' => ?_
        refine AnyE.run tok hO (by rfl) (by cbv <;> rfl) (by trivial) ?_
        refine AnyE.eff tok hO (by cbv <;> rfl) (by cbv <;> rfl) (by trivial) ?_
        refine AnyE.done (by rfl) ?_
        refine SW.run tok hO (by cbv <;> rfl) (by trivial) ?_
        refine ⟨i + 1, by omega, by omega, ren1 3 5, ?_⟩
        rw [hsu, List.length_append, List.length_singleton, hm]
        refine WeakR.up rfl rfl (by simp) (Nat.le_refl _) (.inr (by omega)) (by show 3 ≤ 4; omega) ⟨RenV.closed Below.lit, RenV.ptr (by omega), RenV.ptr (by omega), RenV.ptr (by omega), RenV.inc hO (by omega), trivial⟩ ⟨⟨by omega, _, rfl, .cells (.cons (RenV.closed Below.lit) (.cons (RenV.closed Below.lit) (.cons (RenV.closed (bedsV_below y)) (.cons (RenV.sl (by omega)) .nil)))), .inr rfl⟩, ⟨by omega, _, rfl, .cells (RenVs.closed yard0_below), .inr rfl⟩, ⟨by omega, _, rfl, .cells (RenVs.closed (yardC_below y)), .inr rfl⟩, trivial⟩ (fun p hp => ?_)
        obtain rfl := objG_mem hp
        refine ⟨by omega, _, rfl, .cells (RenVs.of_eq ?_ (flatG_below (smC_below y _) _)), .inl rfl⟩
        refine Eq.trans ?_ hsn
        refine hG'.trans ?_
        rw [← hG]
        show G ++ [iV (y.cb (O.nat (Int.ofNat i))), iV (y.clo (O.nat (Int.ofNat i))), iV (y.chi (O.nat (Int.ofNat i)))] = _
        rw [hni]
      · have hb : bitB o i = false := by subst hO; exact h2
        rw [if_neg (by rw [hb]; decide)] at hsu
        refine SW.run tok hO (by cbv <;> rfl) (by trivial) ?_
        refine ⟨i + 1, by omega, by omega, ren1 3 3, ?_⟩
        rw [hsu, hm]
        refine WeakR.up rfl rfl (by simp) (Nat.le_refl _) (.inl rfl) (by show 3 ≤ 4; omega) ⟨RenV.closed Below.lit, RenV.ptr (by omega), RenV.ptr (by omega), RenV.ptr (by omega), RenV.inc hO (by omega), trivial⟩ ⟨⟨by omega, _, rfl, .cells (.cons (RenV.closed Below.lit) (.cons (RenV.closed Below.lit) (.cons (RenV.closed (bedsV_below y)) (.cons (RenV.sl (by omega)) .nil)))), .inr rfl⟩, ⟨by omega, _, rfl, .cells (RenVs.closed yard0_below), .inr rfl⟩, ⟨by omega, _, rfl, .cells (RenVs.closed (yardC_below y)), .inr rfl⟩, trivial⟩ (fun p hp => ?_)
        obtain rfl := objG_mem hp
        exact ⟨by omega, _, rfl, .cells (RenVs.of_eq hG (flatG_below (smC_below y _) _)), .inl rfl⟩
    · have hz : i = y.nc := by
        have : (y.nc : Int) ≤ (i : Int) := by subst hO; simpa [std] using h
        omega
      refine SW.seqRun tok hO (by cbv <;> rfl) (by trivial) ?_
      have hlG : (m + 1) * 3 ≤ G.length := by rw [hG, flatG_length]; omega
      refine SW.ret ⟨_, _, rfl, rfl, ?_⟩
      rw [hz] at hm hG
      refine Eqv.agg (.cons (Eqv.refl _) (.cons (Eqv.refl _) (.cons (Eqv.refl _) (.cons ?_ .nil))))
      show Eqv (frz _ _ _ (.sl 3 0 (m + 1) 3 false)) (.isl (selL o y.nc).length 3 false _)
      rw [frz_slE (fm := none) (G := G) rfl rfl hlG, hm]
      refine Eqv.isl rfl fun j k hj hk => Eqv.of ?_
      rw [hG, frz_flat hj hk (by unfold smC clmC; split <;> rfl)]
      rfl
end Go.Fz
set_option linter.unusedVariables false
namespace Go.Fz
open Go.Proofs
set_option maxRecDepth 100000
theorem foldS_someL {α : Type} (y : YardD) (l : List Nat) (next : α → (Nat → Int) → α) : ∀ (L P : List Nat) (f : Nat → Int) (a : α), foldS (y.someL l) next L P f a = foldS y next L P f a
  | [], _, _, _ => rfl
  | b :: L, P, f, a => by
    show foldV (fun v a => if y.okAt P f b v = true then foldS (y.someL l) next L (P ++ [b]) (setI f b v) a else a) (y.blo b) (y.bhi b - y.blo b + 1).toNat a = foldV (fun v a => if y.okAt P f b v = true then foldS y next L (P ++ [b]) (setI f b v) a else a) (y.blo b) (y.bhi b - y.blo b + 1).toNat a
    have : (fun v a => if y.okAt P f b v = true then foldS (y.someL l) next L (P ++ [b]) (setI f b v) a else a) = (fun v a => if y.okAt P f b v = true then foldS y next L (P ++ [b]) (setI f b v) a else a) := by
      funext v a
      rw [foldS_someL y l next L]
    rw [this]
theorem someL_allS (y : YardD) (l : List Nat) : (y.someL l).allS = y.allS := foldS_someL y l _ _ _ _ _
theorem someL_check {y : YardD} (hc : y.check = 0) {l : List Nat} (hl : ∀ p ∈ l, p < y.nc) (h5 : l.length ≤ 5) : (y.someL l).check = 0 := by
  unfold YardD.check at hc
  split at hc
  · omega
  · rename_i h1
    split at hc
    · rename_i h2
      split at hc
      · omega
      · rename_i h3
        have k1 : (y.someL l).long = false := by
          simp only [YardD.long, Bool.or_eq_true, decide_eq_true_eq, not_or] at h1
          obtain ⟨⟨⟨a1, a2⟩, a3⟩, a4⟩ := h1
          show (decide (9 < y.last) || decide (3 < y.hands) || decide (6 < y.nb) || decide (5 < l.length)) = false
          rw [decide_eq_false a1, decide_eq_false a2, decide_eq_false a3, decide_eq_false (by omega)]; rfl
        have k2 : (y.someL l).validB = true := by
          simp only [YardD.validB, Bool.and_eq_true] at h2
          obtain ⟨⟨⟨a1, a2⟩, a3⟩, a4⟩ := h2
          show (decide (0 ≤ y.last) && decide (1 ≤ y.hands) && allN y.nb y.bedOk && allN l.length (fun i => y.clmOk (l.getD i 0))) = true
          have a5 : allN l.length (fun i => y.clmOk (l.getD i 0)) = true := decide_eq_true fun i hi => by
            have e : l.getD i 0 = l[i] := by rw [List.getD_eq_getElem?_getD, List.getElem?_eq_getElem hi]; rfl
            show y.clmOk (l.getD i 0) = true
            rw [e]
            exact of_decide_eq_true a4 _ (hl _ (List.getElem_mem hi))
          rw [a1, a2, a3, a5]; rfl
        unfold YardD.check
        rw [k1, k2, if_neg (by simp), if_pos rfl]
        exact if_neg h3
    · omega
theorem not_bad {y : YardD} {f : Nat → Int} : y.badB f = false ↔ ∀ p, p < y.nc → y.rgt f p = true := by
  unfold YardD.badB
  rw [decide_eq_false_iff_not, Nat.not_lt, Nat.le_zero, List.length_eq_zero_iff]
  unfold YardD.wrN
  rw [List.filter_eq_nil_iff]
  constructor
  · intro h p hp
    have := h p (List.mem_range.2 hp)
    simpa using this
  · intro h p hp
    have := h p (List.mem_range.1 hp)
    simp [this]
theorem someL_kept {y : YardD} {l : List Nat} : (y.someL l).kept ≠ [] ↔ ∃ f ∈ y.allS, ∀ p ∈ l, y.rgt f p = true := by
  unfold YardD.kept kpS
  rw [someL_allS, Ne, List.filter_eq_nil_iff]
  constructor
  · intro h
    apply Classical.byContradiction
    intro hn
    apply h
    intro f hf hb
    apply hn
    have hb : (y.someL l).badB f = false := by simpa using hb
    refine ⟨f, hf, fun p hp => ?_⟩
    obtain ⟨i, hi, rfl⟩ := List.getElem_of_mem hp
    have := not_bad.1 hb i hi
    have e : l.getD i 0 = l[i] := by rw [List.getD_eq_getElem?_getD, List.getElem?_eq_getElem hi]; rfl
    rw [← e]
    exact this
  · rintro ⟨f, hf, hp⟩ h
    have := h f hf
    have hb : (y.someL l).badB f = false := not_bad.2 fun i hi => by
      have hi' : i < l.length := hi
      have e : l.getD i 0 = l[i] := by rw [List.getD_eq_getElem?_getD, List.getElem?_eq_getElem hi']; rfl
      show y.rgt f (l.getD i 0) = true
      rw [e]
      exact hp _ (List.getElem_mem hi')
    rw [hb] at this
    simp at this
theorem kept_iff {y : YardD} : y.kept ≠ [] ↔ ∃ f ∈ y.allS, ∀ p, p < y.nc → y.rgt f p = true := by
  unfold YardD.kept kpS
  rw [Ne, List.filter_eq_nil_iff]
  constructor
  · intro h
    apply Classical.byContradiction
    intro hn
    apply h
    intro f hf hb
    apply hn
    have hb : y.badB f = false := by simpa using hb
    exact ⟨f, hf, not_bad.1 hb⟩
  · rintro ⟨f, hf, hp⟩ h
    have := h f hf
    rw [not_bad.2 hp] at this
    simp at this
theorem someL_show {y : YardD} (hc : y.check = 0) (hs : y.allS ≠ []) {l : List Nat} (hl : ∀ p ∈ l, p < y.nc) (h5 : l.length ≤ 5) : ((∃ f ∈ y.allS, ∀ p ∈ l, y.rgt f p = true) → (y.someL l).ownE true = 0) ∧ ((¬ ∃ f ∈ y.allS, ∀ p ∈ l, y.rgt f p = true) → (y.someL l).ownE true = 9) := by
  have ha : (y.someL l).anyE true = 0 := by
    unfold YardD.anyE
    rw [if_neg (by simp [someL_check hc hl h5]), if_neg (by simp), if_neg (by rw [someL_allS]; exact hs)]
  refine ⟨fun h => ?_, fun h => ?_⟩
  · have := someL_kept.2 h
    unfold YardD.ownE
    rw [if_neg (by simp [ha]), if_neg this]
  · have := mt someL_kept.1 h
    unfold YardD.ownE
    rw [if_neg (by simp [ha]), if_pos (Classical.not_not.1 this)]
theorem mem_wrN {y : YardD} {f : Nat → Int} {n p : Nat} : p ∈ y.wrN f n ↔ p < n ∧ y.rgt f p = false := by
  unfold YardD.wrN
  rw [List.mem_filter, List.mem_range]
  simp
theorem fwI_le (y : YardD) (f : Nat → Int) : y.fwI f ≤ y.nc := (leN_le _ _ _).1.1
theorem fwI_ge {y : YardD} {f : Nat → Int} {k : Nat} (hk : k ≤ y.nc) : (k : Int) ≤ y.fwI f ↔ ∀ p, p < k → y.rgt f p = true := by
  obtain ⟨⟨h1, h2⟩, h3⟩ := leN_le (y.nc : Nat) (fun j => (((y.wrN f y.nc).getD j 0 : Nat) : Int)) (y.wrN f y.nc).length
  have hg : ∀ j, (hj : j < (y.wrN f y.nc).length) → (y.wrN f y.nc).getD j 0 = (y.wrN f y.nc)[j] := fun j hj => by rw [List.getD_eq_getElem?_getD, List.getElem?_eq_getElem hj]; rfl
  constructor
  · intro h p hp
    cases hr : y.rgt f p with
    | true => rfl
    | false =>
      obtain ⟨i, hi, he⟩ := List.getElem_of_mem (mem_wrN.2 ⟨(Nat.lt_of_lt_of_le hp hk : p < y.nc), hr⟩)
      have h4 := h2 i hi
      simp only [hg i hi, he] at h4
      have h5 : (k : Int) ≤ p := Int.le_trans h h4
      omega
  · intro h
    show (k : Int) ≤ leN _ _ _
    rcases h3 with h3 | ⟨i, hi, h3⟩
    · rw [h3]; exact Int.ofNat_le.2 hk
    · rw [h3]
      simp only [hg i hi]
      have hm := mem_wrN.1 (List.getElem_mem hi)
      refine Int.ofNat_le.2 (Nat.le_of_not_lt fun hlt => ?_)
      rw [h _ hlt] at hm
      cases hm.2
theorem fur_all (y : YardD) (S : List (Nat → Int)) : ∀ n, 0 ≤ y.fur S n ∧ (∀ k : Int, k ≤ 0 ∨ (k ≤ y.fur S n ↔ ∃ i, i < n ∧ k ≤ y.fwI (S.getD i f0)))
  | 0 => ⟨Int.le_refl _, fun k => by
    by_cases h : k ≤ 0
    · exact .inl h
    · refine .inr ⟨fun h2 => absurd h2 h, fun ⟨i, hi, _⟩ => absurd hi (Nat.not_lt_zero _)⟩⟩
  | n + 1 => by
    obtain ⟨h1, h2⟩ := fur_all y S n
    have e : y.fur S (n + 1) = std.mx (y.fur S n) (y.fwI (S.getD n f0)) := rfl
    have hmx : ∀ a b : Int, std.mx a b = max a b := fun a b => by
      show (if a < b then b else a) = max a b
      omega
    rw [e, hmx]
    refine ⟨by omega, fun k => ?_⟩
    rcases h2 k with h3 | h3
    · exact .inl h3
    · refine .inr ⟨fun h => ?_, fun ⟨i, hi, h⟩ => ?_⟩
      · by_cases h4 : k ≤ y.fur S n
        · obtain ⟨i, hi, h5⟩ := h3.1 h4
          exact ⟨i, by omega, h5⟩
        · exact ⟨n, by omega, by omega⟩
      · by_cases h4 : i = n
        · subst h4; omega
        · have := h3.2 ⟨i, by omega, h⟩
          omega
theorem fur_ge {y : YardD} (hs : y.allS ≠ []) {k : Nat} (hk : k ≤ y.nc) : (k : Int) ≤ y.fur y.allS y.allS.length ↔ ∃ f ∈ y.allS, ∀ p, p < k → y.rgt f p = true := by
  obtain ⟨h1, h2⟩ := fur_all y y.allS y.allS.length
  have hg : ∀ j, (hj : j < y.allS.length) → y.allS.getD j f0 = y.allS[j] := fun j hj => by rw [List.getD_eq_getElem?_getD, List.getElem?_eq_getElem hj]; rfl
  rcases h2 k with h3 | h3
  · have hz : k = 0 := by omega
    subst hz
    refine ⟨fun _ => ?_, fun _ => h1⟩
    have hp := List.length_pos_iff.2 hs
    exact ⟨_, List.getElem_mem hp, fun p hp => absurd hp (Nat.not_lt_zero _)⟩
  · rw [h3]
    constructor
    · rintro ⟨i, hi, h⟩
      rw [hg i hi] at h
      exact ⟨_, List.getElem_mem hi, (fwI_ge hk).1 h⟩
    · rintro ⟨f, hf, h⟩
      obtain ⟨i, hi, rfl⟩ := List.getElem_of_mem hf
      exact ⟨i, hi, by rw [hg i hi]; exact (fwI_ge hk).2 h⟩
theorem fur_le {y : YardD} : y.fur y.allS y.allS.length ≤ y.nc := by
  obtain ⟨h1, h2⟩ := fur_all y y.allS y.allS.length
  rcases h2 (y.fur y.allS y.allS.length) with h3 | h3
  · omega
  · obtain ⟨i, _, h⟩ := h3.1 (Int.le_refl _)
    exact Int.le_trans h (fwI_le _ _)
theorem low_fin6 : ∀ (nc n : Fin 6), (n.1 ≤ nc.1 → selL (std.bin .sub .i64 (std.bin .shl .i64 1 (std.conv .u64 (n.1 : Int))) 1) nc.1 = List.range n.1) ∧ (n.1 < nc.1 → selL (std.bin .sub .i64 (std.bin .shl .i64 2 (std.conv .u64 (n.1 : Int))) 1) nc.1 = List.range (n.1 + 1)) := by decide +kernel
theorem first_sees {y : YardD} (hc : y.check = 0) : (y.fstE = 10 ∧ y.ownE true = 10) ∨ (y.fstE = 7 ∧ y.ownE true = 0) ∨ ∃ n : Nat, n < y.nc ∧ y.nc ≤ 5 ∧ y.fstE = 0 ∧ y.fstV = n ∧
    (y.someL (selL (std.bin .sub .i64 (std.bin .shl .i64 1 (std.conv .u64 (n : Int))) 1) y.nc)).ownE true = 0 ∧ (y.someL (selL (std.bin .sub .i64 (std.bin .shl .i64 2 (std.conv .u64 (n : Int))) 1) y.nc)).ownE true = 9 := by
  have h5 := (y.fit_of_check hc).2.2.2.2.2.1
  by_cases hs : y.allS = []
  · refine .inl ?_
    have ha : y.anyE true = 10 := by
      unfold YardD.anyE
      rw [if_neg (by simp [hc]), if_neg (by simp), if_pos hs]
    refine ⟨?_, ?_⟩
    · unfold YardD.fstE
      rw [if_pos (by rw [ha]; decide), ha]
    · unfold YardD.ownE
      rw [if_pos (by rw [ha]; decide), ha]
  · have ha : y.anyE true = 0 := by
      unfold YardD.anyE
      rw [if_neg (by simp [hc]), if_neg (by simp), if_neg hs]
    by_cases hf : y.fur y.allS y.allS.length = (y.nc : Nat)
    · refine .inr (.inl ⟨?_, ?_⟩)
      · unfold YardD.fstE
        rw [if_neg (by simp [ha]), if_pos hf]
      · have hk := kept_iff.2 ((fur_ge hs (Nat.le_refl _)).1 (Int.le_of_eq hf.symm))
        unfold YardD.ownE
        rw [if_neg (by simp [ha]), if_neg hk]
    · have h0 := (fur_all y y.allS y.allS.length).1
      have h1 := fur_le (y := y)
      obtain ⟨n, hn⟩ : ∃ n : Nat, y.fur y.allS y.allS.length = n := ⟨_, (Int.toNat_of_nonneg h0).symm⟩
      have hlt : n < y.nc := by omega
      have e1 : y.fstE = 0 := by unfold YardD.fstE; rw [if_neg (by simp [ha]), if_neg hf]
      have e2 : y.fstV = n := by unfold YardD.fstV; rw [if_pos e1, hn]
      obtain ⟨l1, l2⟩ := low_fin6 ⟨y.nc, by omega⟩ ⟨n, by omega⟩
      simp only at l1 l2
      refine .inr (.inr ⟨n, hlt, h5, e1, e2, ?_, ?_⟩)
      · rw [l1 (by omega)]
        refine (someL_show hc hs (fun p hp => by have := List.mem_range.1 hp; omega) (by rw [List.length_range]; omega)).1 ?_
        obtain ⟨f, hf1, hf2⟩ := (fur_ge hs (by omega : n ≤ y.nc)).1 (by rw [hn]; exact Int.le_refl _)
        exact ⟨f, hf1, fun p hp => hf2 p (List.mem_range.1 hp)⟩
      · rw [l2 hlt]
        refine (someL_show hc hs (fun p hp => by have := List.mem_range.1 hp; omega) (by rw [List.length_range]; omega)).2 fun ⟨f, hf1, hf2⟩ => ?_
        have := (fur_ge hs (by omega : n + 1 ≤ y.nc)).2 ⟨f, hf1, fun p hp => hf2 p (List.mem_range.2 hp)⟩
        rw [hn] at this
        omega
end Go.Fz
set_option linter.unusedVariables false
namespace Go.Fz
open Go.Proofs
set_option maxRecDepth 100000
set_option maxHeartbeats 8000000 in
theorem cf_not (haw : Pure Try.prog 18 [] (.lit (.bool true))) (y : YardD) (e45 : Pure Try.prog 45 [yardV y] (.sb false)) : Pure Try.prog 13 [yardV y] (.lit (.bool true)) := by
  obtain ⟨O, hO⟩ : ∃ O : Ar, O = std := ⟨_, rfl⟩
  refine pure_of_body tok 3 Try.func13 en13 rfl ⟨yardV_below y, trivial⟩ Below.lit ?_
  refine SW.seqRun tok hO (by cbv <;> rfl) (by trivial) ?_
  refine SW.seq ?_
  refine SW.seqRun tok hO (by cbv <;> rfl) (by trivial) ?_
  refine OpsW.callP e45 (by cbv <;> rfl) ?_
  refine OpsW.run tok hO (by cbv <;> rfl) (by trivial) ?_
  refine SW.condS (by cbv <;> rfl) (fun h => ?_) (fun h => by subst hO; cases h)
  refine SW.seqRun tok hO (by cbv <;> rfl) (by trivial) ?_
  refine OpsW.callP haw (by cbv <;> rfl) ?_
  refine OpsW.run tok hO (by cbv <;> rfl) (by trivial) ?_
  exact SW.ret ⟨_, _, rfl, rfl, Eqv.of rfl⟩
set_option maxHeartbeats 8000000 in
theorem cf_err (haw : Pure Try.prog 18 [] (.lit (.bool true))) (y : YardD) (V E F : Int) (SV : AV) (e45 : Pure Try.prog 45 [yardV y] (.sb true)) (e20 : Pure Try.prog 20 [yardV y] (yardV y)) (e40 : Pure Try.prog 40 [yardV y] (.tup [iV V, iV E])) (e19 : Pure Try.prog 19 [yardV y] (.tup [SV, iV F]))
    (hEF : (E = 10 ∧ F = 10) ∨ (E = 7 ∧ F = 0)) : Pure Try.prog 13 [yardV y] (.lit (.bool true)) := by
  obtain ⟨O, hO⟩ : ∃ O : Ar, O = std := ⟨_, rfl⟩
  refine pure_of_body tok 3 Try.func13 en13 rfl ⟨yardV_below y, trivial⟩ Below.lit ?_
  refine SW.seqRun tok hO (by cbv <;> rfl) (by trivial) ?_
  refine SW.seq ?_
  refine SW.seqRun tok hO (by cbv <;> rfl) (by trivial) ?_
  refine OpsW.callP e45 (by cbv <;> rfl) ?_
  refine OpsW.run tok hO (by cbv <;> rfl) (by trivial) ?_
  refine SW.condS (by cbv <;> rfl) (fun h => nomatch (show false = true from (by rw [hO] at h; exact h))) (fun h => SW.skip ?_)
  refine SW.seqRun tok hO (by cbv <;> rfl) (by trivial) ?_
  refine OpsW.callP e20 (by cbv <;> rfl) ?_
  refine OpsW.run tok hO (by cbv <;> rfl) (by trivial) ?_
  refine OpsW.callP e40 (by cbv <;> rfl) ?_
  refine OpsW.run tok hO (by cbv <;> rfl) (by trivial) ?_
  refine SW.seq ?_
  refine SW.seqRun tok hO (by cbv <;> rfl) (by trivial) ?_
  have hE : E ≠ 0 := by rcases hEF with ⟨h, _⟩ | ⟨h, _⟩ <;> rw [h] <;> decide
  refine SW.condS (by cbv <;> rfl) (fun h => ?_) (fun h => by subst hO; simp [std] at h; exact absurd h hE)
  refine SW.seqRun tok hO (by cbv <;> rfl) (by trivial) ?_
  refine OpsW.callP e20 (by cbv <;> rfl) ?_
  refine OpsW.run tok hO (by cbv <;> rfl) (by trivial) ?_
  refine OpsW.callP e19 (by cbv <;> rfl) ?_
  refine OpsW.run tok hO (by cbv <;> rfl) (by trivial) ?_
  refine SW.seqRun tok hO (by cbv <;> rfl) (by trivial) ?_
  rcases hEF with ⟨h1, h2⟩ | ⟨h1, h2⟩
  · refine OpsW.splitG (by cbv <;> rfl) (fun h => by subst hO; simp [std, h1] at h) (fun h => ?_)
    refine OpsW.run tok hO (by cbv <;> rfl) (by trivial) ?_
    refine OpsW.splitG (by cbv <;> rfl) (fun h => ?_) (fun h => by subst hO; simp [std, h1] at h)
    refine OpsW.run tok hO (by cbv <;> rfl) (by trivial) ?_
    refine OpsW.splitG (by cbv <;> rfl) (fun h => ?_) (fun h => by subst hO; simp [std, h1, h2] at h)
    refine OpsW.run tok hO (by cbv <;> rfl) (by trivial) ?_
    refine OpsW.callP haw (by cbv <;> rfl) ?_
    refine OpsW.run tok hO (by cbv <;> rfl) (by trivial) ?_
    exact SW.ret ⟨_, _, rfl, rfl, Eqv.of rfl⟩
  · refine OpsW.splitG (by cbv <;> rfl) (fun h => ?_) (fun h => by subst hO; simp [std, h1] at h)
    refine OpsW.run tok hO (by cbv <;> rfl) (by trivial) ?_
    refine OpsW.splitG (by cbv <;> rfl) (fun h => ?_) (fun h => by subst hO; simp [std, h2] at h)
    refine OpsW.run tok hO (by cbv <;> rfl) (by trivial) ?_
    refine OpsW.callP haw (by cbv <;> rfl) ?_
    refine OpsW.run tok hO (by cbv <;> rfl) (by trivial) ?_
    exact SW.ret ⟨_, _, rfl, rfl, Eqv.of rfl⟩
set_option maxHeartbeats 8000000 in
theorem cf_one (haw : Pure Try.prog 18 [] (.lit (.bool true))) (y : YardD) (n : Nat) (hn : n < y.nc) (hc : y.nc ≤ 5) (A B S1 S2 : AV) (e45 : Pure Try.prog 45 [yardV y] (.sb true)) (e20 : Pure Try.prog 20 [yardV y] (yardV y)) (e40 : Pure Try.prog 40 [yardV y] (.tup [iV (Int.ofNat n), iV 0]))
    (a54 : Pure Try.prog 54 [yardV y, iV (std.bin .sub .i64 (std.bin .shl .i64 1 (std.conv .u64 (Int.ofNat n))) 1)] A) (a20 : Pure Try.prog 20 [A] A) (a19 : Pure Try.prog 19 [A] (.tup [S1, iV 0]))
    (b54 : Pure Try.prog 54 [yardV y, iV (std.bin .sub .i64 (std.bin .shl .i64 2 (std.conv .u64 (Int.ofNat n))) 1)] B) (b20 : Pure Try.prog 20 [B] B) (b19 : Pure Try.prog 19 [B] (.tup [S2, iV 9])) : Pure Try.prog 13 [yardV y] (.lit (.bool true)) := by
  obtain ⟨O, hO⟩ : ∃ O : Ar, O = std := ⟨_, rfl⟩
  rw [← hO] at a54 b54
  have hcv := conv0 hO (show n < 1000 by omega)
  have e29 : Pure Try.prog 29 [iV (Int.ofNat n), iV 0, iV (O.bin .sub .i64 (Int.ofNat y.nc) 1)] (.sb true) := by
    have := in_ok (Int.ofNat n) 0 (O.bin .sub .i64 (Int.ofNat y.nc) 1)
    have hb : inB (Int.ofNat n) 0 (O.bin .sub .i64 (Int.ofNat y.nc) 1) = true := by
      rw [sub1N hO (by omega)]
      unfold inB
      rw [Bool.and_eq_true, decide_eq_true_eq, decide_eq_true_eq]
      refine ⟨Int.natCast_nonneg n, ?_⟩
      show (n : Int) ≤ _
      omega
    rw [hb] at this
    exact this
  refine pure_of_body tok 3 Try.func13 en13 rfl ⟨yardV_below y, trivial⟩ Below.lit ?_
  refine SW.seqRun tok hO (by cbv <;> rfl) (by trivial) ?_
  refine SW.seq ?_
  refine SW.seqRun tok hO (by cbv <;> rfl) (by trivial) ?_
  refine OpsW.callP e45 (by cbv <;> rfl) ?_
  refine OpsW.run tok hO (by cbv <;> rfl) (by trivial) ?_
  refine SW.condS (by cbv <;> rfl) (fun h => nomatch (show false = true from (by rw [hO] at h; exact h))) (fun h => SW.skip ?_)
  refine SW.seqRun tok hO (by cbv <;> rfl) (by trivial) ?_
  refine OpsW.callP e20 (by cbv <;> rfl) ?_
  refine OpsW.run tok hO (by cbv <;> rfl) (by trivial) ?_
  refine OpsW.callP e40 (by cbv <;> rfl) ?_
  refine OpsW.run tok hO (by cbv <;> rfl) (by trivial) ?_
  refine SW.seq ?_
  refine SW.seqRun tok hO (by cbv <;> rfl) (by trivial) ?_
  refine SW.condS (by cbv <;> rfl) (fun h => by subst hO; simp [std] at h) (fun h => SW.skip ?_)
  refine SW.seq ?_
  refine SW.seqRun tok hO (by cbv <;> rfl) (by trivial) ?_
  refine OpsW.callP e29 (by cbv <;> rfl) ?_
  refine OpsW.run tok hO (by cbv <;> rfl) (by trivial) ?_
  refine SW.condS (by cbv <;> rfl) (fun h => nomatch (show false = true from (by rw [hO] at h; exact h))) (fun h => SW.skip ?_)
  refine SW.seqRun tok hO (by cbv <;> rfl) (by trivial) ?_
  refine OpsW.callP a54 (by cbv <;> rfl) ?_
  refine OpsW.run tok hO (by cbv <;> rfl) (by trivial) ?_
  refine OpsW.callP a20 (by cbv <;> rfl) ?_
  refine OpsW.run tok hO (by cbv <;> rfl) (by trivial) ?_
  refine OpsW.callP a19 (by cbv <;> rfl) ?_
  refine OpsW.run tok hO (by cbv <;> rfl) (by trivial) ?_
  refine SW.seqRun tok hO (by cbv <;> rfl) (by trivial) ?_
  refine OpsW.callP b54 (by cbv <;> rfl) ?_
  refine OpsW.run tok hO (by cbv <;> rfl) (by trivial) ?_
  refine OpsW.callP b20 (by cbv <;> rfl) ?_
  refine OpsW.run tok hO (by cbv <;> rfl) (by trivial) ?_
  refine OpsW.callP b19 (by cbv <;> rfl) ?_
  refine OpsW.run tok hO (by cbv <;> rfl) (by trivial) ?_
  refine SW.seqRun tok hO (by cbv <;> rfl) (by trivial) ?_
  refine OpsW.splitG (by cbv <;> rfl) (fun h => ?_) (fun h => by subst hO; simp [std] at h)
  refine OpsW.run tok hO (by cbv <;> rfl) (by trivial) ?_
  refine OpsW.splitG (by cbv <;> rfl) (fun h => ?_) (fun h => by subst hO; simp [std] at h)
  refine OpsW.run tok hO (by cbv <;> rfl) (by trivial) ?_
  refine OpsW.callP haw (by cbv <;> rfl) ?_
  refine OpsW.run tok hO (by cbv <;> rfl) (by trivial) ?_
  exact SW.ret ⟨_, _, rfl, rfl, Eqv.of rfl⟩
theorem cleanFirst_ok (haw : Pure Try.prog 18 [] (.lit (.bool true))) (y : YardD) : Pure Try.prog 13 [yardV y] (.lit (.bool true)) := by
  have e45 := ready_any y
  cases hR : y.readyB with
  | false =>
    rw [hR] at e45
    exact cf_not haw y e45
  | true =>
    rw [hR] at e45
    have hc := ready_check hR
    have hsm := ready_small hR
    have e20 := yard_ok y (by omega) (by omega)
    have e40 := first_ok y (by omega) (by omega)
    have e19 := show_ok y (by omega) (by omega)
    rcases first_sees hc with ⟨h1, h2⟩ | ⟨h1, h2⟩ | ⟨n, h1, h2, h3, h4, h5, h6⟩
    · exact cf_err haw y _ _ _ _ e45 e20 e40 e19 (.inl ⟨h1, h2⟩)
    · exact cf_err haw y _ _ _ _ e45 e20 e40 e19 (.inr ⟨h1, h2⟩)
    · rw [h3, h4] at e40
      have la : ∀ o : Int, (selL o y.nc).length ≤ y.nc := fun o => selL_len o _
      have a19 := show_ok (y.someL (selL (std.bin .sub .i64 (std.bin .shl .i64 1 (std.conv .u64 (n : Int))) 1) y.nc)) (show y.nb < _ by omega) (Nat.lt_of_le_of_lt (la _) (by omega))
      have b19 := show_ok (y.someL (selL (std.bin .sub .i64 (std.bin .shl .i64 2 (std.conv .u64 (n : Int))) 1) y.nc)) (show y.nb < _ by omega) (Nat.lt_of_le_of_lt (la _) (by omega))
      rw [h5] at a19
      rw [h6] at b19
      exact cf_one haw y n h1 h2 _ _ _ _ e45 e20 e40 (some_ok y _ (by omega)) (yard_ok _ (show y.nb ≤ _ by omega) (Nat.le_trans (la _) (by omega))) a19 (some_ok y _ (by omega)) (yard_ok _ (show y.nb ≤ _ by omega) (Nat.le_trans (la _) (by omega))) b19
end Go.Fz
