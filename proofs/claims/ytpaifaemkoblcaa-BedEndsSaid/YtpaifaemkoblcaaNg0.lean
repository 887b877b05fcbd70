/- Own work of the verifier of watercress: Lb4, Lb5, Lb8, FzV5, FzV6, FzV7, FzX1, FzZ4, FzDe1, FzE1, FzD10, FzD11, FzD12. -/
import Derived.ChangeKeysEq
import Derived.Laws.AppendOwn
import Derived.Laws.Cells
import Derived.Laws.CopyRow
import Derived.Laws.Entries
import Derived.Laws.NewFold
import Derived.Laws.Sem
import Derived.Laws.Small
import Derived.Laws.StructEq
import Derived.Laws.Tables
import Derived.Laws.World
import Derived.OrdersHeld
import Derived.OrdersIn
import Derived.RangeFuncLeaves
import Derived.RangeFuncRecord
import Derived.Shelf.Abstract
import Derived.Test.YtpaifaemkoblcaaNa0
import Derived.Test.YtpaifaemkoblcaaNa1
import Derived.Test.YtpaifaemkoblcaaNa2
import Derived.Test.YtpaifaemkoblcaaNa3
import Derived.Test.YtpaifaemkoblcaaProg
import Derived.Test.YtpaifaemkoblcaaNa4
import Derived.Below
import Derived.CallsIn
import Derived.Carry
import Derived.ChangeSame
import Derived.Deep.Slices
import Derived.JoinedCond
import Derived.Laws.Cover3
import Derived.Lib.SmallJoins
import Derived.OpenShut
import Derived.ProofKit
import Derived.WalkKit
import Derived.WideKeyArgs
import Derived.Test.YtpaifaemkoblcaaRows
import Derived.Test.YtpaifaemkoblcaaNa5
import Derived.DeepKeys4
import Derived.Maps.Keyed
import Derived.Maps.RangeRun
import Derived.Test.YtpaifaemkoblcaaNa6
import Derived.Test.YtpaifaemkoblcaaNa7
import Derived.Test.YtpaifaemkoblcaaNa8
import Derived.Test.YtpaifaemkoblcaaNa10
import Derived.Test.YtpaifaemkoblcaaNa12
import Derived.Test.YtpaifaemkoblcaaNa11
import Derived.Test.YtpaifaemkoblcaaNa9
import Derived.Test.YtpaifaemkoblcaaNa13
import Derived.Test.YtpaifaemkoblcaaNa14
import Derived.Test.YtpaifaemkoblcaaNa15
import Derived.Test.YtpaifaemkoblcaaNa16
import Derived.Test.YtpaifaemkoblcaaNa24
import Derived.Test.YtpaifaemkoblcaaNa25
import Derived.Test.YtpaifaemkoblcaaNa26
import Derived.Test.YtpaifaemkoblcaaNa19
import Derived.Test.YtpaifaemkoblcaaNa20
import Derived.Test.YtpaifaemkoblcaaNa21
import Derived.Test.YtpaifaemkoblcaaNa22
import Derived.Test.YtpaifaemkoblcaaNa23
import Derived.Test.YtpaifaemkoblcaaNa27
import Derived.Test.YtpaifaemkoblcaaNa32
import Derived.Test.YtpaifaemkoblcaaNa35
import Derived.Test.YtpaifaemkoblcaaNa33
import Derived.Test.YtpaifaemkoblcaaNa34
import Derived.Test.YtpaifaemkoblcaaNa28
import Derived.Test.YtpaifaemkoblcaaNa29
import Derived.Test.YtpaifaemkoblcaaNa30
import Derived.Test.YtpaifaemkoblcaaNa31
import Derived.Test.YtpaifaemkoblcaaNa36
import Derived.Test.YtpaifaemkoblcaaNa37
import Derived.Test.YtpaifaemkoblcaaNa38
import Derived.Test.YtpaifaemkoblcaaNa40
import Derived.Test.YtpaifaemkoblcaaNa39
import Derived.Test.YtpaifaemkoblcaaNa41
import Derived.Test.YtpaifaemkoblcaaNa17
import Derived.Test.YtpaifaemkoblcaaNa18
set_option linter.unusedVariables false
set_option linter.unusedSimpArgs false
namespace Go.Fz
open Go.Proofs
theorem en10 : Enters Try.prog 10 := fun args w => Go.Proofs.enters_of Try.func10 (by kernel_rfl) rfl args w
theorem en28 : Enters Try.prog 28 := fun args w => Go.Proofs.enters_of Try.func28 (by kernel_rfl) rfl args w
theorem en45 : Enters Try.prog 45 := fun args w => Go.Proofs.enters_of Try.func45 (by kernel_rfl) rfl args w
theorem en55 : Enters Try.prog 55 := fun args w => Go.Proofs.enters_of Try.func55 (by kernel_rfl) rfl args w
theorem en60 : Enters Try.prog 60 := fun args w => Go.Proofs.enters_of Try.func60 (by kernel_rfl) rfl args w
theorem en65 : Enters Try.prog 65 := fun args w => Go.Proofs.enters_of Try.func65 (by kernel_rfl) rfl args w
theorem en75 : Enters Try.prog 75 := fun args w => Go.Proofs.enters_of Try.func75 (by kernel_rfl) rfl args w
theorem en76 : Enters Try.prog 76 := fun args w => Go.Proofs.enters_of Try.func76 (by kernel_rfl) rfl args w
end Go.Fz
set_option linter.unusedVariables false
set_option linter.unusedSimpArgs false
namespace Go.Fz
variable {P : Program} {T : Ti}
end Go.Fz
namespace Go.Fz
variable {P : Program} {T : Ti}
end Go.Fz
namespace Go.Fz
variable {P : Program} {T : Ti}
theorem AnyE.appNilK (hT : TOk P T) {rd : Option Nat} {ops : Array Oper} {M : List Nat} {K : Fm → St → Prop} {fuel : Nat} {pend pend' : List (Nat × AV)} {listed : Array Bool} {f : Fm} {st : St} {j t id sz : Nat} {ex : Bool} {cs : List AV}
    (hj : onlyD ops M pend listed = some (j, pend')) (ha : appAt ops j f = some (t, .lit (.slice none 0 0), .sl id 0 1 sz ex)) (hx : st.h.get id = some (.cells none false cs)) (hb : sliceB T t sz = true) (hl : cs.length = sz) (hone : cs.all AV.one = true)
    (hk : AllP (fun p => lightV T ops (st.push (.cells none false cs)).h (putAt ops j f (.sl st.n 0 1 sz false)) p.1 = some p.2) pend')
    (h : AnyE P T ops M rd K fuel pend' (listed.setIfInBounds j true) (putAt ops j f (.sl st.n 0 1 sz false)) (st.push (.cells none false cs))) : AnyE P T ops M rd K (fuel + 1) pend listed f st :=
  AnyE.appK hT hj ha (append_nilB hb hx hl hone) hk h
theorem AnyE.appOneK (hT : TOk P T) {rd : Option Nat} {ops : Array Oper} {M : List Nat} {K : Fm → St → Prop} {fuel : Nat} {pend pend' : List (Nat × AV)} {listed : Array Bool} {f : Fm} {st : St} {j t id id0 sz : Nat} {ex : Bool} {cs : List AV} {G : List AV} {g : Nat → Nat → AV} {len : Nat}
    (hj : onlyD ops M pend listed = some (j, pend')) (ha : appAt ops j f = some (t, .sl id0 0 len sz false, .sl id 0 1 sz ex)) (hx : st.h.get id = some (.cells none false cs)) (hs : st.h.get id0 = some (.cells none false G)) (hG : G = flatG sz g len) (hb : sliceB T t sz = true) (hl : cs.length = sz) (hone : cs.all AV.one = true) (hlen : len < 1048576)
    (h : ∀ G', G' = flatG sz g len ++ cs → AllP (fun p => lightV T ops (St.push ⟨truncH id0 (len * sz) id0 st.h, st.n⟩ (.cells (some id0) false G')).h (putAt ops j f (.sl st.n 0 (len + 1) sz false)) p.1 = some p.2) pend' ∧
      AnyE P T ops M rd K fuel pend' (listed.setIfInBounds j true) (putAt ops j f (.sl st.n 0 (len + 1) sz false)) (St.push ⟨truncH id0 (len * sz) id0 st.h, st.n⟩ (.cells (some id0) false G'))) : AnyE P T ops M rd K (fuel + 1) pend listed f st := by
  subst hG
  obtain ⟨h1, h2⟩ := h _ rfl
  exact AnyE.appK hT hj ha (append_oneB hb hx hl hone hs hlen) h1 h2
end Go.Fz
namespace Go.Fz
variable {P : Program} {T : Ti}
end Go.Fz
namespace Go.Fz
open Go.Proofs
set_option maxRecDepth 100000
end Go.Fz
namespace Go.Fz
open Go.ChangeShapes Go.WideShapes Go.Deep Go.Joins
section
variable {H : Type} {enc : TypeId × Value → H} {P : Program} {w : World} {base : Nat} {spare : Nat → Bool} {held : Bool}
end
end Go.Fz
namespace Go.Proofs.Ytpaifaemkoblcaa
open Go.ChangeShapes Go.WideShapes Go.ChangeAt Go.RowKit Go.Joins
set_option linter.unusedVariables false
set_option maxRecDepth 100000
end Go.Proofs.Ytpaifaemkoblcaa
namespace Go.Fz
open Go.Proofs
set_option maxRecDepth 100000
end Go.Fz
namespace Go.Fz
open Go.Proofs
set_option maxRecDepth 100000
end Go.Fz
namespace Go.Fz
open Go.Proofs
set_option maxRecDepth 100000
end Go.Fz
namespace Go.Fz
open Go.Proofs
set_option maxRecDepth 100000
def quo64 (a b : Int) : Int := wrp .i64 (a.tdiv b)
end Go.Fz
namespace Go.Fz
open Go.Proofs
set_option maxRecDepth 100000
theorem intC_below (fl : Nat → Int) (i k : Nat) : Below 0 (intC fl i k) := Below.lit
end Go.Fz
namespace Go.Fz
open Go.Proofs
set_option maxRecDepth 100000
end Go.Fz
namespace Go.Fz
open Go.Proofs
set_option maxRecDepth 100000
end Go.Fz
namespace Go.Fz
open Go.Proofs
set_option maxRecDepth 100000
end Go.Fz
namespace Go.Fz
open Go.Proofs
set_option maxRecDepth 100000
end Go.Fz
namespace Go.Fz
open Go.Proofs
set_option maxRecDepth 100000
end Go.Fz
namespace Go.Fz
open Go.Proofs
set_option maxRecDepth 100000
end Go.Fz
namespace Go.Fz
open Go.Proofs
set_option maxRecDepth 100000
end Go.Fz
set_option linter.unusedVariables false
set_option linter.unusedSimpArgs false
namespace Go.Fz
open Go.Proofs
set_option maxRecDepth 100000
section
variable {P : Program} {T : Ti}
end
end Go.Fz
namespace Go.Fz
open Go.Proofs
set_option maxRecDepth 100000
section
variable (K : List (List Nat) → Hp → Nat → Prop) (stop : List (List Nat) → List Nat → Hp → Nat → Prop) (ok : List Nat → Prop) (mc y many : Nat) (ex : Bool)
variable {K stop ok mc y many ex}
end
end Go.Fz
namespace Go.Fz
open Go.Proofs
set_option maxRecDepth 100000
section
variable {K : List (List Nat) → Hp → Nat → Prop} {stop : List (List Nat) → List Nat → Hp → Nat → Prop} {ok : List Nat → Prop} {mc y many : Nat}
end
end Go.Fz
namespace Go.Fz
open Go.Proofs
set_option maxRecDepth 100000
section
variable {K : List (List Nat) → Hp → Nat → Prop} {stop : List (List Nat) → List Nat → Hp → Nat → Prop} {ok : List Nat → Prop} {mc y many : Nat}
end
end Go.Fz
namespace Go.Fz
open Go.Proofs
set_option maxRecDepth 100000
section
variable (d : DayD) (XO : AV) (hX : Below 0 XO) (E : List (Mk × Nat)) (cl : Nat) (hb : Born E cl)
end
end Go.Fz
namespace Go.Fz
open Go.Proofs
set_option maxRecDepth 100000
section
variable (d : DayD) (XO : AV) (E : List (Mk × Nat)) (cl : Nat)
end
end Go.Fz
namespace Go.Fz
open Go.Proofs
set_option maxRecDepth 100000
section
variable (d : DayD) (L : Nat) (G : Nat → Nat → AV) (ME : List (AV × AV × Nat)) (cl : Nat)
end
end Go.Fz
namespace Go.Fz
open Go.Proofs
set_option maxRecDepth 100000
section
variable (d : DayD) (L : Nat) (G : Nat → Nat → AV) (ME : List (AV × AV × Nat)) (cl : Nat) (Q : List Nat → Bool)
variable {d L G ME cl}
end
end Go.Fz
namespace Go.Fz
open Go.Proofs
set_option maxRecDepth 100000
end Go.Fz
namespace Go.Fz
open Go.Proofs
set_option maxRecDepth 100000
set_option linter.unusedVariables false
end Go.Fz
namespace Go.Fz
open Go.Proofs
set_option maxRecDepth 100000
set_option linter.unusedVariables false
end Go.Fz
namespace Go.Fz
open Go.Proofs
set_option maxRecDepth 100000
end Go.Fz
namespace Go.Fz
open Go.Proofs
set_option maxRecDepth 100000
section
variable (nw nl : Nat) (f0 f1 f2 f3 : Nat → Int) (z4 z5 z6 z7 : Int)
end
end Go.Fz
namespace Go.Fz
open Go.Proofs
set_option maxRecDepth 100000
section
end
end Go.Fz
namespace Go.Fz
open Go.Proofs
set_option maxRecDepth 100000
def mnN (lo hi : Nat → Int) : Nat → Int
  | 0 => 1
  | i + 1 => minI 3000 (mul64 (mnN lo hi i) (size64 (lo i) (hi i)))
end Go.Fz
namespace Go.Fz
open Go.Proofs
set_option maxRecDepth 100000
end Go.Fz
namespace Go.Fz
open Go.Proofs
set_option maxRecDepth 100000
end Go.Fz
namespace Go.Fz
open Go.Proofs
set_option maxRecDepth 100000
end Go.Fz
namespace Go.Fz
open Go.Proofs
set_option maxRecDepth 100000
end Go.Fz
namespace Go.Fz
open Go.Proofs
set_option maxRecDepth 100000
end Go.Fz
namespace Go.Fz
open Go.Proofs
set_option maxRecDepth 100000
end Go.Fz
namespace Go.Fz
open Go.Proofs
set_option maxRecDepth 100000
end Go.Fz
namespace Go.Fz
open Go.Proofs
set_option maxRecDepth 100000
end Go.Fz
namespace Go.Fz
variable {P : Program}
end Go.Fz
namespace Go.Fz
open Go.Proofs
set_option maxRecDepth 100000
section
variable {P : Program} {T : Ti}
end
end Go.Fz
namespace Go.Fz
open Go.Proofs
set_option maxRecDepth 100000
end Go.Fz
namespace Go.Fz
open Go.Proofs
set_option maxRecDepth 100000
set_option linter.unusedVariables false
end Go.Fz
namespace Go.Fz
open Go.Proofs
set_option maxRecDepth 100000
set_option linter.unusedVariables false
end Go.Fz
namespace Go.Fz
open Go.Proofs
set_option maxRecDepth 100000
set_option linter.unusedVariables false
end Go.Fz
namespace Go.Fz
open Go.Proofs
set_option maxRecDepth 100000
set_option linter.unusedVariables false
end Go.Fz
namespace Go.Fz
open Go.Proofs
set_option maxRecDepth 100000
end Go.Fz
namespace Go.Fz
open Go.Proofs
set_option maxRecDepth 100000
set_option pp.deepTerms false
set_option pp.deepTerms.threshold 5
end Go.Fz
namespace Go.Fz
open Go.Proofs
set_option maxRecDepth 100000
end Go.Fz
namespace Go.Fz
open Go.Proofs
set_option maxRecDepth 100000
end Go.Fz
namespace Go.Fz
open Go.Proofs
set_option maxRecDepth 100000
section
variable (d : DayD) (k w lo hi : Int)
end
end Go.Fz
namespace Go.Fz
open Go.Proofs
set_option maxRecDepth 100000
section
variable {T : Ti}
end
end Go.Fz
namespace Go.Fz
open Go.Proofs
set_option maxRecDepth 100000
section
variable {P : Program} {T : Ti}
end
end Go.Fz
namespace Go.Fz
open Go.Proofs
set_option maxRecDepth 100000
end Go.Fz
namespace Go.Fz
open Go.Proofs
set_option maxRecDepth 100000
set_option linter.unusedVariables false
def bitsN (b : Nat → Bool) : Nat → Int
  | 0 => 0
  | i + 1 => if b i then std.bin .or .i64 (bitsN b i) (std.bin .shl .i64 1 (std.conv .u64 (Int.ofNat i))) else bitsN b i
end Go.Fz
namespace Go.Fz
open Go.Proofs
set_option maxRecDepth 100000
set_option linter.unusedVariables false
end Go.Fz
namespace Go.Fz
open Go.Proofs
set_option maxRecDepth 100000
set_option linter.unusedVariables false
end Go.Fz
namespace Go.Fz
open Go.Proofs
set_option maxRecDepth 100000
end Go.Fz
namespace Go.Fz
open Go.Proofs
set_option maxRecDepth 100000
set_option linter.unusedVariables false
section
variable {P : Program}
end
end Go.Fz
namespace Go.Fz
open Go.Proofs
set_option maxRecDepth 100000
set_option linter.unusedVariables false
end Go.Fz
namespace Go.Fz
open Go.Proofs
set_option maxRecDepth 100000
set_option linter.unusedVariables false
end Go.Fz
namespace Go.Fz
open Go.Proofs
set_option maxRecDepth 100000
set_option linter.unusedVariables false
end Go.Fz
namespace Go.Fz
open Go.Proofs
set_option maxRecDepth 100000
set_option maxHeartbeats 4000000 in
theorem water_ok (f : FarmD) (hs : f.small) (n : Nat) (ex : Bool) (fl : Nat → Int) (hn : n < 1000) (hns : f.ns ≤ n) (bed : Nat) : bed < f.nb → Pure Try.prog 76 [farmV f, intsV n ex fl, iV bed] (iV (f.waN fl bed)) := by
  induction bed using Nat.strongRecOn with
  | _ bed ih =>
  intro hbed
  obtain ⟨O, hO⟩ : ∃ O : Ar, O = std := ⟨_, rfl⟩
  have hnb := hs.1
  refine pure_of_body tok 3 Try.func76 en76 rfl ⟨farmV_below f, intsV_below n ex fl, iV_below, trivial⟩ Below.lit ?_
  refine SW.seqRun tok hO (by cbv <;> rfl) (by trivial) ?_
  refine SW.seqRun tok hO (by cbv <;> rfl) (by trivial) ?_
  refine SW.seq ?_
  refine SW.seqRun tok hO (by cbv <;> rfl) (by trivial) ?_
  refine (SW.block (SW.loopF (fun i : Nat => ⟨⟨59, getT [(1, intsV n ex fl), (2, iV bed), (3, .ptr 0 0), (6, iV 0), (7, iV (f.inS fl bed i)), (8, iV i)]⟩, []⟩) (fun _ => ⟨[(0, .cells none false [springsV f, bedsV f, looksV f])], 1⟩) (fun i => f.ns - i) (fun i => i ≤ f.ns) 0
    (fun _ => rfl) (Nat.zero_le _) (Weak.by rfl rfl (by simp) (Nat.le_refl _) (Nat.le_refl _) ⟨⟨rfl, .inl rfl⟩, ⟨rfl, .inl rfl⟩, ⟨rfl, .inl rfl⟩, ⟨rfl, .inl rfl⟩, ⟨rfl, .inl rfl⟩, ⟨rfl, .inl rfl⟩, trivial⟩ ⟨⟨rfl, by omega, .inl rfl⟩, trivial⟩) fun i hi => ?_))
  generalize hB : f.inS fl bed i = B
  refine SW.seq ?_
  refine SW.seqRun tok hO (by cbv <;> rfl) (by trivial) ?_
  refine SW.condS (by cbv <;> rfl) (fun h => SW.skip ?_) (fun h => SW.exit ?_)
  · have hlt : i < f.ns := by subst hO; simpa [std] using h
    have h0 : (0 : Int) ≤ Int.ofNat i := Int.natCast_nonneg i
    refine SW.seq (SW.block ?_)
    refine SW.seqRun tok hO (by cbv <;> rfl) ?_ ?_
    · exact ⟨h0, Int.ofNat_lt.2 hlt⟩
    refine SW.condS (by cbv <;> rfl) (fun h' => ?_) (fun h' => SW.skip ?_)
    · refine SW.run tok hO (by cbv <;> rfl) ?_ ?_
      · exact ⟨h0, Int.ofNat_lt.2 (by omega)⟩
      refine SW.run tok hO (by cbv <;> rfl) (by trivial) ?_
      refine ⟨i + 1, by omega, by omega, Weak.by rfl rfl (by simp) (Nat.le_refl _) (Nat.le_refl _) ⟨⟨rfl, .inl rfl⟩, ⟨rfl, .inl rfl⟩, ⟨rfl, .inl rfl⟩, ⟨rfl, .inl rfl⟩, ⟨?_, .inl rfl⟩, ⟨inc_ok hO (by omega), .inl rfl⟩, trivial⟩ ⟨⟨rfl, by omega, .inl rfl⟩, trivial⟩⟩
      have hm : f.sb i = (bed : Int) := by subst hO; simpa [std] using h'
      have e : f.inS fl bed (i + 1) = add64 B (fl i) := by simp only [FarmD.inS, hm, if_true, hB]
      rw [e]; subst hO; rfl
    · refine SW.run tok hO (by cbv <;> rfl) (by trivial) ?_
      refine ⟨i + 1, by omega, by omega, Weak.by rfl rfl (by simp) (Nat.le_refl _) (Nat.le_refl _) ⟨⟨rfl, .inl rfl⟩, ⟨rfl, .inl rfl⟩, ⟨rfl, .inl rfl⟩, ⟨rfl, .inl rfl⟩, ⟨?_, .inl rfl⟩, ⟨inc_ok hO (by omega), .inl rfl⟩, trivial⟩ ⟨⟨rfl, by omega, .inl rfl⟩, trivial⟩⟩
      have hm : ¬ f.sb i = (bed : Int) := by subst hO; simpa [std] using h'
      have e : f.inS fl bed (i + 1) = B := by simp only [FarmD.inS, hm, if_false, hB]
      rw [e]; rfl
  have hin : i = f.ns := by
    have : f.ns ≤ i := by subst hO; simpa [std] using h
    omega
  refine SW.seq ?_
  refine SW.seqRun tok hO (by cbv <;> rfl) (by trivial) ?_
  refine (SW.block (SW.loopF (fun i : Nat => ⟨⟨59, getT [(1, intsV n ex fl), (2, iV bed), (3, .ptr 0 0), (6, iV 0), (7, iV (f.inB fl (f.waN fl) bed i)), (9, iV i)]⟩, []⟩) (fun _ => ⟨[(0, .cells none false [springsV f, bedsV f, looksV f])], 1⟩) (fun i => bed - i) (fun i => i ≤ bed) 0
    (fun _ => rfl) (Nat.zero_le _) (Weak.by rfl rfl (by simp) (Nat.le_refl _) (Nat.le_refl _) ⟨⟨rfl, .inl rfl⟩, ⟨rfl, .inl rfl⟩, ⟨rfl, .inl rfl⟩, ⟨rfl, .inl rfl⟩, ⟨?_, .inl rfl⟩, ⟨rfl, .inl rfl⟩, trivial⟩ ⟨⟨rfl, by omega, .inl rfl⟩, trivial⟩) fun i hi => ?_))
  · rw [← hB, hin]; rfl
  clear hB h hin
  generalize hB : f.inB fl (f.waN fl) bed i = B
  refine SW.seq ?_
  refine SW.seqRun tok hO (by cbv <;> rfl) (by trivial) ?_
  refine SW.condS (by cbv <;> rfl) (fun h => SW.skip ?_) (fun h => SW.exit ?_)
  · have hlt : i < bed := by subst hO; simpa [std] using h
    have h0 : (0 : Int) ≤ Int.ofNat i := Int.natCast_nonneg i
    have hnat : O.nat (Int.ofNat i) = i := by subst hO; rfl
    have call := ih i hlt (by omega)
    generalize hW : f.waN fl i = W at call
    refine SW.seq (SW.block ?_)
    refine SW.seqRun tok hO (by cbv <;> rfl) ?_ ?_
    · exact ⟨h0, Int.ofNat_lt.2 (show i < f.nb by omega)⟩
    refine SW.condS (by cbv <;> rfl) (fun h' => ?_) (fun h' => SW.skip ?_)
    · refine SW.runD tok mixed hO (by rfl) (by cbv <;> rfl) ?_ ?_
      · exact ⟨h0, Int.ofNat_lt.2 (show i < f.nb by omega)⟩
      refine AnyE.callI call (by cbv <;> rfl) (by cbv <;> rfl) fun v hv => ?_
      refine AnyE.run tok hO (by rfl) (by cbv <;> rfl) (by trivial) ?_
      refine AnyE.eff tok hO (by cbv <;> rfl) (by cbv <;> rfl) (by trivial) ?_
      refine AnyE.done (by rfl) ?_
      refine SW.run tok hO (by cbv <;> rfl) (by trivial) ?_
      refine ⟨i + 1, by omega, by omega, Weak.by rfl rfl (by simp) (Nat.le_refl _) (Nat.le_refl _) ⟨⟨rfl, .inl rfl⟩, ⟨rfl, .inl rfl⟩, ⟨rfl, .inl rfl⟩, ⟨rfl, .inl rfl⟩, ⟨?_, .inl rfl⟩, ⟨inc_ok hO (by omega), .inl rfl⟩, trivial⟩ ⟨⟨rfl, by omega, .inl rfl⟩, trivial⟩⟩
      have hm : f.down i = (bed : Int) := by subst hO; simpa [std] using h'
      have e : f.inB fl (f.waN fl) bed (i + 1) = add64 B (maxI 0 (sub64 W (f.notch i))) := by simp only [FarmD.inB, hm, if_true, hB, hW]
      rw [e]; subst hO; subst hv; rfl
    · refine SW.run tok hO (by cbv <;> rfl) (by trivial) ?_
      refine ⟨i + 1, by omega, by omega, Weak.by rfl rfl (by simp) (Nat.le_refl _) (Nat.le_refl _) ⟨⟨rfl, .inl rfl⟩, ⟨rfl, .inl rfl⟩, ⟨rfl, .inl rfl⟩, ⟨rfl, .inl rfl⟩, ⟨?_, .inl rfl⟩, ⟨inc_ok hO (by omega), .inl rfl⟩, trivial⟩ ⟨⟨rfl, by omega, .inl rfl⟩, trivial⟩⟩
      have hm : ¬ f.down i = (bed : Int) := by subst hO; simpa [std] using h'
      have e : f.inB fl (f.waN fl) bed (i + 1) = B := by simp only [FarmD.inB, hm, if_false, hB]
      rw [e]; rfl
  · refine SW.seqRun tok hO (by cbv <;> rfl) (by trivial) ?_
    have hge : bed ≤ i := by subst hO; simpa [std] using h
    have hib : i = bed := by omega
    refine SW.ret ⟨_, _, rfl, rfl, Eqv.int ?_⟩
    rw [← hB, hib]; exact (f.waN_eq fl bed).symm
end Go.Fz
namespace Go.Fz
open Go.Proofs
set_option maxRecDepth 100000
def atV (w d : Int) : AV := .agg [iV w, iV d, iV (sub64 w d)]
set_option maxHeartbeats 4000000 in
theorem at_ok (f : FarmD) (hs : f.small) (n : Nat) (ex : Bool) (fl : Nat → Int) (hn : n < 1000) (hns : f.ns ≤ n) (bed : Nat) (hb : bed < f.nb) :
    Pure Try.prog 28 [farmV f, intsV n ex fl, iV bed] (atV (f.waN fl bed) (minI (f.waN fl bed) (f.notch bed))) := by
  obtain ⟨O, hO⟩ : ∃ O : Ar, O = std := ⟨_, rfl⟩
  have call := water_ok f hs n ex fl hn hns bed hb
  generalize f.waN fl bed = w at call ⊢
  have h0 : (0 : Int) ≤ Int.ofNat bed := Int.natCast_nonneg bed
  refine pure_of_body tok 3 Try.func28 en28 rfl ⟨farmV_below f, intsV_below n ex fl, iV_below, trivial⟩ (Below.agg (AllB.ok ⟨Below.lit, Below.lit, Below.lit, trivial⟩)) ?_
  refine SW.seqRun tok hO (by cbv <;> rfl) (by trivial) ?_
  refine SW.seqRun tok hO (by cbv <;> rfl) (by trivial) ?_
  refine OpsW.callI call (by cbv <;> rfl) fun v hv => ?_
  refine OpsW.run tok hO (by cbv <;> rfl) (by trivial) ?_
  refine SW.seqRun tok hO (by cbv <;> rfl) ?_ ?_
  · exact ⟨h0, Int.ofNat_lt.2 hb⟩
  refine SW.seqRun tok hO (by cbv <;> rfl) (by trivial) ?_
  refine SW.ret ⟨_, _, rfl, rfl, Eqv.of ?_⟩
  subst hO; subst hv; rfl
end Go.Fz
namespace Go.Fz
open Go.Proofs
set_option maxRecDepth 100000
def FarmD.rightN (f : FarmD) (fl : Nat → Int) (i : Nat) : Bool :=
  if f.lov i then Go.Fz.inB (sub64 (f.waN fl (f.lb i).toNat) (f.downN fl (f.lb i).toNat)) (f.llo i) (f.lhi i) else Go.Fz.inB (f.downN fl (f.lb i).toNat) (f.llo i) (f.lhi i)
set_option maxHeartbeats 4000000 in
theorem rightN_ok (f : FarmD) (hs : f.small) (n : Nat) (ex : Bool) (fl : Nat → Int) (hn : n < 1000) (hns : f.ns ≤ n) (i : Nat) (h0 : 0 ≤ f.lb i) (h1 : f.lb i < f.nb) :
    Pure Try.prog 75 [farmV f, intsV n ex fl, lookV f i] (.sb (f.rightN fl i)) := by
  obtain ⟨O, hO⟩ : ∃ O : Ar, O = std := ⟨_, rfl⟩
  have call := at_ok f hs n ex fl hn hns (f.lb i).toNat (by omega)
  rw [show (((f.lb i).toNat : Nat) : Int) = f.lb i by omega] at call
  have hr : f.rightN fl i = if f.lov i then inB (sub64 (f.waN fl (f.lb i).toNat) (f.downN fl (f.lb i).toNat)) (f.llo i) (f.lhi i) else inB (f.downN fl (f.lb i).toNat) (f.llo i) (f.lhi i) := rfl
  rw [show minI (f.waN fl (f.lb i).toNat) (f.notch (f.lb i).toNat) = f.downN fl (f.lb i).toNat from rfl] at call
  generalize f.waN fl (f.lb i).toNat = w at call hr
  generalize f.downN fl (f.lb i).toNat = d at call hr
  unfold atV at call
  generalize sub64 w d = u at call hr
  rw [hr]
  refine pure_of_body tok 3 Try.func75 en75 rfl ⟨farmV_below f, intsV_below n ex fl, Below.agg (AllB.ok ⟨Below.lit, Below.sb, Below.lit, Below.lit, trivial⟩), trivial⟩ Below.sb ?_
  refine SW.seqRun tok hO (by cbv <;> rfl) (by trivial) ?_
  refine SW.seqRun tok hO (by cbv <;> rfl) (by trivial) ?_
  refine OpsW.callP call (by cbv <;> rfl) ?_
  refine OpsW.run tok hO (by cbv <;> rfl) (by trivial) ?_
  refine SW.seq ?_
  refine SW.seqRun tok hO (by cbv <;> rfl) (by trivial) ?_
  refine SW.condS (by cbv <;> rfl) (fun h => ?_) (fun h => SW.skip ?_)
  · refine SW.seqRun tok hO (by cbv <;> rfl) (by trivial) ?_
    refine OpsW.callB (in_ok u (f.llo i) (f.lhi i)) (by cbv <;> rfl) fun b hb => ?_
    refine OpsW.run tok hO (by cbv <;> rfl) (by trivial) ?_
    refine SW.ret ⟨_, _, rfl, rfl, Eqv.sb ?_⟩
    rw [if_pos h]; exact hb
  · refine SW.seqRun tok hO (by cbv <;> rfl) (by trivial) ?_
    refine OpsW.callB (in_ok d (f.llo i) (f.lhi i)) (by cbv <;> rfl) fun b hb => ?_
    refine OpsW.run tok hO (by cbv <;> rfl) (by trivial) ?_
    refine SW.ret ⟨_, _, rfl, rfl, Eqv.sb ?_⟩
    rw [if_neg (by rw [show f.lov i = false from h]; simp)]; exact hb
end Go.Fz
namespace Go.Fz
theorem FarmD.right_eq (f : FarmD) (g : f.Good) (fl : Nat → Int) (hfl : ∀ s, s < f.ns → 0 ≤ fl s ∧ fl s ≤ 30) (i : Nat) (hi : i < f.nl) : f.rightB (f.water fl) i = f.rightN fl i := by
  obtain ⟨h0, h1⟩ := (g.look i hi).1
  obtain ⟨_, h2, h3⟩ := f.water_eq g fl hfl (f.lb i).toNat (by omega)
  unfold FarmD.rightB FarmD.rightN Go.Fz.inB
  rw [h2, h3]
end Go.Fz
namespace Go.Fz
open Go.Proofs
set_option maxRecDepth 100000
def FarmD.qN (f : FarmD) (N : Int) : Nat → Int
  | 0 => N
  | s + 1 => quo64 (f.qN N s) (size64 (f.slo s) (f.shi s))
def FarmD.nthN (f : FarmD) (N : Int) (s : Nat) : Int := add64 (f.slo s) ((f.qN N s).tmod (size64 (f.slo s) (f.shi s)))
set_option maxHeartbeats 4000000 in
theorem nth_ok (f : FarmD) (g : f.Good) (N : Int) : Pure Try.prog 60 [farmV f, iV N] (intsV f.ns false (f.nthN N)) := by
  obtain ⟨O, hO⟩ : ∃ O : Ar, O = std := ⟨_, rfl⟩
  have hnat : ∀ i : Nat, O.nat (Int.ofNat i) = i := fun i => by subst hO; rfl
  have hns := g.ns
  refine pure_of_body tok 3 Try.func60 en60 rfl ⟨farmV_below f, iV_below, trivial⟩ (intsV_below _ _ _) ?_
  refine SW.seqRun tok hO (by cbv <;> rfl) (by trivial) ?_
  refine SW.seqRun tok hO (by cbv <;> rfl) (by trivial) ?_
  refine SW.seq ?_
  refine SW.seqRun tok hO (by cbv <;> rfl) (by trivial) ?_
  refine (SW.block (SW.loopR (fun i : Nat => ⟨⟨36, getT [(1, iV (f.qN N i)), (2, .ptr 0 0), (5, slG 1 1 i), (6, iV i)]⟩, []⟩) (fun i => ⟨[(0, .cells none false [springsV f, bedsV f, looksV f])] ++ objG 1 1 (intC (f.nthN N)) i, 2⟩) (fun i => f.ns - i) (fun i => i ≤ f.ns) 0 (Nat.zero_le _) (ren1 1 1) ?_ fun i hi => ?_))
  · exact WeakR.up rfl rfl (by simp) (Nat.le_refl _) (.inl rfl) (by show 1 ≤ 2; omega) ⟨RenV.closed Below.lit, RenV.ptr (by omega), RenV.closed Below.lit, RenV.closed Below.lit, trivial⟩ ⟨⟨by omega, _, rfl, .cells (RenVs.closed (farmC_below f)), .inr rfl⟩, trivial⟩ (fun p hp => by cases hp)
  generalize hQ : f.qN N i = q
  cases i with
  | zero =>
    refine SW.seq ?_
    refine SW.seqRun tok hO (by cbv <;> rfl) (by trivial) ?_
    refine SW.condS (by cbv <;> rfl) (fun h => SW.skip ?_) (fun h => SW.exit ?_)
    · have hlt : 0 < f.ns := by subst hO; simpa [std] using h
      have h0 : (0 : Int) ≤ Int.ofNat 0 := Int.natCast_nonneg 0
      obtain ⟨_, hs0, hs1, hs2⟩ := g.spring 0 hlt
      have hsz := size64_in hs0 hs1 (by omega)
      have hne : size64 (f.slo 0) (f.shi 0) ≠ 0 := by rw [hsz]; omega
      have call := count_ok (f.slo 0) (f.shi 0)
      have e1 : quo64 q (size64 (f.slo 0) (f.shi 0)) = f.qN N 1 := by rw [← hQ]; rfl
      have e2 : add64 (f.slo 0) (q.tmod (size64 (f.slo 0) (f.shi 0))) = f.nthN N 0 := by rw [← hQ]; rfl
      generalize size64 (f.slo 0) (f.shi 0) = z at call hne e1 e2
      rw [← hnat 0] at call
      refine SW.seq (SW.block ?_)
      refine SW.seqRun tok hO (by cbv <;> rfl) ?_ ?_
      · exact ⟨h0, Int.ofNat_lt.2 hlt⟩
      refine SW.runD tok mixed hO (by rfl) (by cbv <;> rfl) (by trivial) ?_
      refine AnyE.callP call (by cbv <;> rfl) (by cbv <;> rfl) ?_
      refine AnyE.run tok hO (by rfl) (by cbv <;> rfl) ?_ ?_
      · exact hne
      refine AnyE.effK tok hO (by cbv <;> rfl) (by cbv <;> rfl) (by trivial) ?_ ?_
      · repeat (first | exact trivial | refine ⟨by (cbv <;> rfl), ?_⟩)
      refine AnyE.appNilK tok (by cbv <;> rfl) (by cbv <;> rfl) (by rfl) (by kernel_rfl) (by rfl) (by rfl) ?_ ?_
      · repeat (first | exact trivial | refine ⟨by (cbv <;> rfl), ?_⟩)
      refine AnyE.run tok hO (by rfl) (by cbv <;> rfl) (by trivial) ?_
      refine AnyE.callP call (by cbv <;> rfl) (by cbv <;> rfl) ?_
      refine AnyE.run tok hO (by rfl) (by cbv <;> rfl) ?_ ?_
      · exact hne
      refine AnyE.eff tok hO (by cbv <;> rfl) (by cbv <;> rfl) (by trivial) ?_
      refine AnyE.done (by rfl) ?_
      refine SW.run tok hO (by cbv <;> rfl) (by trivial) ?_
      refine ⟨1, by omega, by omega, ren1 1 4, ?_⟩
      have e3 : O.bin .quo .i64 q z = f.qN N 1 := by rw [← e1]; subst hO; rfl
      have e4 : O.bin .add .i64 (f.slo (O.nat (Int.ofNat 0))) (O.bin .rem .i64 q z) = f.nthN N 0 := by rw [← e2, hnat]; subst hO; rfl
      refine WeakR.up rfl rfl (by simp) (Nat.le_refl _) (.inr (by omega)) (by show 1 ≤ 2; omega) ⟨?_, RenV.ptr (by omega), RenV.sl (by omega), RenV.inc hO (by omega), trivial⟩ ⟨⟨by omega, _, rfl, .cells (RenVs.closed (farmC_below f)), .inr rfl⟩, trivial⟩ (fun p hp => ?_)
      · show RenV _ _ (iV (f.qN N 1)) (iV (O.bin .quo .i64 q z))
        rw [e3]; exact RenV.closed Below.lit
      obtain rfl := objG_mem hp
      refine ⟨by omega, _, rfl, .cells (RenVs.of_eq ?_ (flatG_below (fun i k => Below.lit) 1)), .inl rfl⟩
      show [iV (O.bin .add .i64 (f.slo (O.nat (Int.ofNat 0))) (O.bin .rem .i64 q z))] = [iV (f.nthN N 0)]
      rw [e4]
    · have hz : f.ns = 0 := by
        have : f.ns ≤ 0 := by subst hO; simpa [std] using h
        omega
      refine SW.seqRun tok hO (by cbv <;> rfl) (by trivial) ?_
      refine SW.ret ⟨_, _, rfl, rfl, ?_⟩
      rw [hz]; exact Eqv.nil
  | succ i =>
    obtain ⟨G, hG⟩ : ∃ G, G = flatG 1 (intC (f.nthN N)) (i + 1) := ⟨_, rfl⟩
    have hGo : objG 1 1 (intC (f.nthN N)) (i + 1) = [(1, .cells none false G)] := by rw [hG]; rfl
    show SW _ _ _ _ ⟨⟨36, getT [(1, iV q), (2, .ptr 0 0), (5, .sl 1 0 (i + 1) 1 false), (6, iV (i + 1 : Nat))]⟩, []⟩ ⟨[(0, .cells none false [springsV f, bedsV f, looksV f])] ++ objG 1 1 (intC (f.nthN N)) (i + 1), 2⟩
    rw [hGo]
    refine SW.seq ?_
    refine SW.seqRun tok hO (by cbv <;> rfl) (by trivial) ?_
    refine SW.condS (by cbv <;> rfl) (fun h => SW.skip ?_) (fun h => SW.exit ?_)
    · have hlt : i + 1 < f.ns := by
        have : ((i + 1 : Nat) : Int) < (f.ns : Int) := by subst hO; simpa [std] using h
        omega
      have h0 : (0 : Int) ≤ Int.ofNat (i + 1) := Int.natCast_nonneg (i + 1)
      obtain ⟨_, hs0, hs1, hs2⟩ := g.spring (i + 1) hlt
      have hsz := size64_in hs0 hs1 (by omega)
      have hne : size64 (f.slo (i + 1)) (f.shi (i + 1)) ≠ 0 := by rw [hsz]; omega
      have call := count_ok (f.slo (i + 1)) (f.shi (i + 1))
      have e1 : quo64 q (size64 (f.slo (i + 1)) (f.shi (i + 1))) = f.qN N (i + 1 + 1) := by rw [← hQ]; rfl
      have e2 : add64 (f.slo (i + 1)) (q.tmod (size64 (f.slo (i + 1)) (f.shi (i + 1)))) = f.nthN N (i + 1) := by rw [← hQ]; rfl
      generalize size64 (f.slo (i + 1)) (f.shi (i + 1)) = z at call hne e1 e2
      rw [← hnat (i + 1)] at call
      refine SW.seq (SW.block ?_)
      refine SW.seqRun tok hO (by cbv <;> rfl) ?_ ?_
      · exact ⟨h0, Int.ofNat_lt.2 hlt⟩
      refine SW.runD tok mixed hO (by rfl) (by cbv <;> rfl) (by trivial) ?_
      refine AnyE.callP call (by cbv <;> rfl) (by cbv <;> rfl) ?_
      refine AnyE.run tok hO (by rfl) (by cbv <;> rfl) ?_ ?_
      · exact hne
      refine AnyE.effK tok hO (by cbv <;> rfl) (by cbv <;> rfl) (by trivial) ?_ ?_
      · repeat (first | exact trivial | refine ⟨by (cbv <;> rfl), ?_⟩)
      refine AnyE.appOneK (g := intC (f.nthN N)) tok (by cbv <;> rfl) (by cbv <;> rfl) (by rfl) (by rfl) hG (by kernel_rfl) (by rfl) (by rfl) (by omega) fun G' hG' => ⟨?_, ?_⟩
      · repeat (first | exact trivial | refine ⟨by (cbv <;> rfl), ?_⟩)
      refine AnyE.run tok hO (by rfl) (by cbv <;> rfl) (by trivial) ?_
      refine AnyE.callP call (by cbv <;> rfl) (by cbv <;> rfl) ?_
      refine AnyE.run tok hO (by rfl) (by cbv <;> rfl) ?_ ?_
      · exact hne
      refine AnyE.eff tok hO (by cbv <;> rfl) (by cbv <;> rfl) (by trivial) ?_
      refine AnyE.done (by rfl) ?_
      refine SW.run tok hO (by cbv <;> rfl) (by trivial) ?_
      refine ⟨i + 1 + 1, by omega, by omega, ren1 1 4, ?_⟩
      have e3 : O.bin .quo .i64 q z = f.qN N (i + 1 + 1) := by rw [← e1]; subst hO; rfl
      have e4 : O.bin .add .i64 (f.slo (O.nat (Int.ofNat (i + 1)))) (O.bin .rem .i64 q z) = f.nthN N (i + 1) := by rw [← e2, hnat]; subst hO; rfl
      refine WeakR.up rfl rfl (by simp) (Nat.le_refl _) (.inr (by omega)) (by show 1 ≤ 2; omega) ⟨?_, RenV.ptr (by omega), RenV.sl (by omega), RenV.inc hO (by omega), trivial⟩ ⟨⟨by omega, _, rfl, .cells (RenVs.closed (farmC_below f)), .inr rfl⟩, trivial⟩ (fun p hp => ?_)
      · show RenV _ _ (iV (f.qN N (i + 1 + 1))) (iV (O.bin .quo .i64 q z))
        rw [e3]; exact RenV.closed Below.lit
      obtain rfl := objG_mem hp
      refine ⟨by omega, _, rfl, .cells (RenVs.of_eq (hG'.trans ?_) (flatG_below (fun i k => Below.lit) (i + 1 + 1))), .inl rfl⟩
      show _ ++ [iV (O.bin .add .i64 (f.slo (O.nat (Int.ofNat (i + 1)))) (O.bin .rem .i64 q z))] = _ ++ [iV (f.nthN N (i + 1))]
      rw [e4]
    · have hz : f.ns = i + 1 := by
        have : (f.ns : Int) ≤ ((i + 1 : Nat) : Int) := by subst hO; simpa [std] using h
        omega
      refine SW.seqRun tok hO (by cbv <;> rfl) (by trivial) ?_
      refine SW.ret ⟨_, _, rfl, rfl, ?_⟩
      rw [hz]
      exact frz_flatI (z := fun i _ => f.nthN N i) (fm := none) rfl (by rw [hG]; rfl)
end Go.Fz
namespace Go.Proofs.Ytpaifaemkoblcaa
open Go.ChangeShapes Go.WideShapes Go.ChangeAt Go.RowKit Go.Joins
set_option linter.unusedVariables false
set_option maxRecDepth 100000
theorem u8_in {n : Int} (h : (Lit.int .u8 n).wf = true) : 0 ≤ n ∧ n ≤ 255 := by
  simp [Lit.wf, IntKind.min, IntKind.max, IntKind.signed, IntKind.bits] at h
  omega
end Go.Proofs.Ytpaifaemkoblcaa
set_option linter.unusedVariables false
namespace Go.Fz
open Go.Proofs
set_option maxRecDepth 100000
def qZ (s : Nat → Int) (n : Int) : Nat → Int
  | 0 => n
  | i + 1 => qZ s n i / s i
def pZ (s : Nat → Int) : Nat → Int
  | 0 => 1
  | i + 1 => pZ s i * s i
theorem radixZ_onto {s : Nat → Int} {k : Nat} (hs : ∀ i, i < k → 1 ≤ s i) {d : Nat → Int} (hd : ∀ i, i < k → 0 ≤ d i ∧ d i < s i) : ∀ j, j ≤ k → ∀ m : Int, 0 ≤ m → ∃ n : Int, 0 ≤ n ∧ n < pZ s j * (m + 1) ∧ qZ s n j = m ∧ ∀ i, i < j → qZ s n i % s i = d i
  | 0, _, m, hm => ⟨m, hm, by show m < 1 * (m + 1); omega, rfl, fun i hi => absurd hi (Nat.not_lt_zero _)⟩
  | j + 1, h, m, hm => by
    have h3 := hs j (by omega)
    obtain ⟨d0, d1⟩ := hd j (by omega)
    have hp : ∀ i, i ≤ j → 1 ≤ pZ s i := fun i => by
      induction i with
      | zero => intro _; exact Int.le_refl _
      | succ i ih =>
        intro hi
        have h1 := ih (by omega)
        have h2 := hs i (by omega)
        have h4 : pZ s i * 1 ≤ pZ s i * s i := Int.mul_le_mul_of_nonneg_left h2 (by omega)
        show 1 ≤ pZ s i * s i
        omega
    have hp := hp j (Nat.le_refl _)
    have hms : 0 ≤ m * s j := Int.mul_nonneg hm (by omega)
    obtain ⟨n, n0, n1, n2, n3⟩ := radixZ_onto hs hd j (by omega) (m * s j + d j) (by omega)
    have hq : (m * s j + d j) / s j = m := by
      rw [Int.add_comm, Int.add_mul_ediv_right _ _ (by omega), Int.ediv_eq_zero_of_lt d0 d1]; omega
    have hr : (m * s j + d j) % s j = d j := by
      rw [Int.add_comm, Int.add_mul_emod_self_right, Int.emod_eq_of_lt d0 d1]
    refine ⟨n, n0, ?_, ?_, fun i hi => ?_⟩
    · show n < pZ s j * s j * (m + 1)
      rw [Int.mul_assoc]
      refine Int.lt_of_lt_of_le n1 (Int.mul_le_mul_of_nonneg_left ?_ (by omega))
      rw [Int.mul_add, Int.mul_one, Int.mul_comm (s j) m]; omega
    · show qZ s n j / s j = m
      rw [n2]; exact hq
    · by_cases e : i = j
      · rw [e, n2]; exact hr
      · exact n3 i (by omega)
theorem qZ_rng {s : Nat → Int} {k : Nat} (hs : ∀ i, i < k → 1 ≤ s i) {n : Int} (n0 : 0 ≤ n) : ∀ j, j ≤ k → 0 ≤ qZ s n j ∧ qZ s n j ≤ n
  | 0, _ => ⟨n0, Int.le_refl _⟩
  | j + 1, h => by
    obtain ⟨h1, h2⟩ := qZ_rng hs n0 j (by omega)
    have h3 := hs j (by omega)
    have h4 : 0 ≤ qZ s n j / s j := Int.ediv_nonneg h1 (by omega)
    have h5 : qZ s n j / s j ≤ qZ s n j := Int.ediv_le_self _ h1
    show 0 ≤ qZ s n j / s j ∧ qZ s n j / s j ≤ n
    omega
def FarmD.szS (f : FarmD) (i : Nat) : Int := f.shi i - f.slo i + 1
theorem FarmD.prod_pZ (f : FarmD) : ∀ s, f.prodN s = pZ f.szS s
  | 0 => rfl
  | s + 1 => by
    show f.prodN s * _ = pZ f.szS s * _
    rw [f.prod_pZ s]; rfl
theorem FarmD.szS_pos {f : FarmD} (g : f.Good) : ∀ i, i < f.ns → 1 ≤ f.szS i := fun i hi => by
  have := g.spring i hi
  unfold FarmD.szS; omega
theorem FarmD.many_eq {f : FarmD} (hc : f.check = 0) : f.manyN f.ns = pZ f.szS f.ns ∧ 1 ≤ f.manyN f.ns ∧ f.manyN f.ns ≤ 2000 := by
  have g := good_of_check hc
  have hsp : ∀ s, s < f.ns → 0 ≤ f.slo s ∧ f.slo s ≤ f.shi s ∧ f.shi s ≤ 30 := fun s hs => (g.spring s hs).2
  obtain ⟨h1, h2⟩ := f.sizes_eq g.ns hsp f.ns (Nat.le_refl _)
  have h3 := (f.prod_le hsp f.ns (Nat.le_refl _)).1
  have h4 : f.sizesN f.ns ≤ 2000 := by
    unfold FarmD.check at hc
    split at hc
    · cases hc
    · split at hc
      · split at hc
        · cases hc
        · rename_i h; omega
      · cases hc
  rw [h1] at h4
  rw [h2, ← f.prod_pZ]
  unfold minI
  split <;> omega
theorem FarmD.qN_q {f : FarmD} (g : f.Good) {n : Int} (n0 : 0 ≤ n) (n1 : n ≤ 70000) : ∀ i, i ≤ f.ns → f.qN n i = qZ f.szS n i
  | 0, _ => rfl
  | i + 1, h => by
    have h1 := FarmD.qN_q g n0 n1 i (by omega)
    have h2 := qZ_rng (FarmD.szS_pos g) n0 i (by omega)
    have hs := FarmD.szS_pos g i (by omega)
    obtain ⟨_, r0, r1, r2⟩ := g.spring i (by omega)
    show quo64 (f.qN n i) (size64 (f.slo i) (f.shi i)) = qZ f.szS n i / f.szS i
    rw [h1, size64_in r0 r1 (by omega), show f.shi i - f.slo i + 1 = f.szS i from rfl]
    have h3 : 0 ≤ (qZ f.szS n i).tdiv (f.szS i) := Int.tdiv_nonneg h2.1 (by omega)
    have h4 : (qZ f.szS n i).tdiv (f.szS i) ≤ qZ f.szS n i := by
      rw [Int.tdiv_eq_ediv_of_nonneg h2.1]; exact Int.ediv_le_self _ h2.1
    unfold quo64
    rw [wrp_in (by simp only [IntKind.lo]; omega) (by simp only [IntKind.hi]; omega), Int.tdiv_eq_ediv_of_nonneg h2.1]
theorem FarmD.nthN_q {f : FarmD} (g : f.Good) {n : Int} (n0 : 0 ≤ n) (n1 : n ≤ 70000) {i : Nat} (hi : i < f.ns) : f.nthN n i = f.slo i + qZ f.szS n i % f.szS i := by
  have h2 := qZ_rng (FarmD.szS_pos g) n0 i (by omega)
  have hs := FarmD.szS_pos g i hi
  obtain ⟨_, r0, r1, r2⟩ := g.spring i hi
  have h3 := Int.emod_nonneg (qZ f.szS n i) (show f.szS i ≠ 0 by omega)
  have h4 := Int.emod_lt_of_pos (qZ f.szS n i) (show 0 < f.szS i by omega)
  have h5 : f.szS i ≤ 31 := by unfold FarmD.szS; omega
  unfold FarmD.nthN
  rw [FarmD.qN_q g n0 n1 i (by omega), size64_in r0 r1 (by omega), show f.shi i - f.slo i + 1 = f.szS i from rfl, Int.tmod_eq_emod_of_nonneg h2.1, add64_in _ _ (by omega) (by omega)]
def FarmD.nthL (f : FarmD) (n : Int) : List Int := (List.range f.ns).map (f.nthN n)
theorem FarmD.nthL_len (f : FarmD) (n : Int) : (f.nthL n).length = f.ns := by simp [FarmD.nthL]
theorem FarmD.nthL_at (f : FarmD) (n : Int) {i : Nat} (hi : i < f.ns) : zL (f.nthL n) i = f.nthN n i := by
  unfold zL FarmD.nthL
  rw [List.getD_eq_getElem?_getD, List.getElem?_map, List.getElem?_range hi]; rfl
theorem FarmD.nthL_ch {f : FarmD} (g : f.Good) {n : Int} (n0 : 0 ≤ n) (n1 : n ≤ 70000) : f.isCh (f.nthL n) := by
  refine ⟨f.nthL_len n, fun i hi => ?_⟩
  have hs := FarmD.szS_pos g i hi
  rw [f.nthL_at n hi, FarmD.nthN_q g n0 n1 hi]
  have h3 := Int.emod_nonneg (qZ f.szS n i) (show f.szS i ≠ 0 by omega)
  have h4 := Int.emod_lt_of_pos (qZ f.szS n i) (show 0 < f.szS i by omega)
  have h5 : f.szS i = f.shi i - f.slo i + 1 := rfl
  omega
theorem zL_ext {p q : List Int} (h : p.length = q.length) (hz : ∀ i, i < p.length → zL p i = zL q i) : p = q := by
  refine List.ext_getElem h fun i k1 k2 => ?_
  have := hz i k1
  unfold zL at this
  simpa [List.getD_eq_getElem?_getD, List.getElem?_eq_getElem k1, List.getElem?_eq_getElem k2] using this
theorem FarmD.nthL_onto {f : FarmD} (hc : f.check = 0) {l : List Int} (hl : f.isCh l) : ∃ n : Nat, (n : Int) < f.manyN f.ns ∧ f.nthL n = l := by
  have g := good_of_check hc
  obtain ⟨h1, _, h2⟩ := FarmD.many_eq hc
  obtain ⟨n, n0, n1, _, n3⟩ := radixZ_onto (s := f.szS) (k := f.ns) (FarmD.szS_pos g) (d := fun i => zL l i - f.slo i) (fun i hi => by
    have := hl.2 i hi
    show 0 ≤ zL l i - f.slo i ∧ zL l i - f.slo i < f.shi i - f.slo i + 1
    omega) f.ns (Nat.le_refl _) 0 (Int.le_refl _)
  have n1 : n < pZ f.szS f.ns := by
    have : n < pZ f.szS f.ns * 1 := n1
    omega
  obtain ⟨N, rfl⟩ := Int.eq_ofNat_of_zero_le n0
  refine ⟨N, by rw [h1]; exact n1, zL_ext (by rw [f.nthL_len, hl.1]) fun i hi => ?_⟩
  rw [f.nthL_len] at hi
  rw [f.nthL_at _ hi, FarmD.nthN_q g n0 (by omega) hi, n3 i hi]
  show f.slo i + (zL l i - f.slo i) = zL l i
  omega
def pickL (p : Nat → Bool) (g : Nat → List Int) : Nat → List (List Int)
  | 0 => []
  | i + 1 => if p i = true then pickL p g i ++ [g i] else pickL p g i
theorem pickL_len (p : Nat → Bool) (g : Nat → List Int) : ∀ i, (pickL p g i).length ≤ i
  | 0 => Nat.le_refl _
  | i + 1 => by
    have := pickL_len p g i
    unfold pickL
    split
    · rw [List.length_append, List.length_singleton]; omega
    · omega
theorem mem_pickL {p : Nat → Bool} {g : Nat → List Int} {f : List Int} : ∀ {n}, f ∈ pickL p g n ↔ ∃ i, i < n ∧ p i = true ∧ g i = f
  | 0 => ⟨fun h => (by cases h), fun ⟨i, h1, _⟩ => absurd h1 (Nat.not_lt_zero _)⟩
  | n + 1 => by
    have ih := mem_pickL (p := p) (g := g) (f := f) (n := n)
    unfold pickL
    split
    · rename_i hp
      rw [List.mem_append, List.mem_singleton, ih]
      constructor
      · rintro (⟨i, h1, h2, h3⟩ | h)
        · exact ⟨i, by omega, h2, h3⟩
        · exact ⟨n, by omega, hp, h.symm⟩
      · rintro ⟨i, h1, h2, h3⟩
        by_cases e : i = n
        · subst e; exact .inr h3.symm
        · exact .inl ⟨i, by omega, h2, h3⟩
    · rename_i hp
      rw [ih]
      constructor
      · rintro ⟨i, h1, h2, h3⟩; exact ⟨i, by omega, h2, h3⟩
      · rintro ⟨i, h1, h2, h3⟩
        by_cases e : i = n
        · subst e; exact absurd h2 hp
        · exact ⟨i, by omega, h2, h3⟩
theorem bitsN_congr {b c : Nat → Bool} : ∀ {n : Nat}, (∀ j, j < n → b j = c j) → bitsN b n = bitsN c n
  | 0, _ => rfl
  | n + 1, h => by
    unfold bitsN
    rw [bitsN_congr fun j hj => h j (by omega), h n (by omega)]
def mk5 (b : Bool × Bool × Bool × Bool × Bool) (j : Nat) : Bool := match j with
  | 0 => b.1
  | 1 => b.2.1
  | 2 => b.2.2.1
  | 3 => b.2.2.2.1
  | _ => b.2.2.2.2
theorem mk5_eq (b : Nat → Bool) : ∀ j, j < 5 → mk5 (b 0, b 1, b 2, b 3, b 4) j = b j := fun j hj => by
  match j, hj with
  | 0, _ => rfl
  | 1, _ => rfl
  | 2, _ => rfl
  | 3, _ => rfl
  | 4, _ => rfl
theorem full_fin : ∀ (b0 b1 b2 b3 b4 : Bool) (n : Fin 6), bitsN (mk5 (b0, b1, b2, b3, b4)) n.1 = pw1 n.1 ↔ ∀ j : Fin 5, j.1 < n.1 → mk5 (b0, b1, b2, b3, b4) j.1 = true := by decide +kernel
theorem bits_full (b : Nat → Bool) {n : Nat} (hn : n ≤ 5) : bitsN b n = pw1 n ↔ ∀ j, j < n → b j = true := by
  have h5 := mk5_eq b
  have h := full_fin (b 0) (b 1) (b 2) (b 3) (b 4) ⟨n, by omega⟩
  rw [bitsN_congr (n := n) fun j hj => h5 j (by omega)] at h
  rw [h]
  constructor
  · intro k j hj
    have := k ⟨j, by omega⟩ hj
    rw [h5 j (by omega)] at this; exact this
  · intro k j hj
    rw [h5 j.1 j.2]; exact k j.1 hj
def FarmD.bitT (f : FarmD) (n : Nat) : Int := bitsN (f.rightN (f.nthN n)) f.nl
def FarmD.mN (f : FarmD) : Nat := (f.manyN f.ns).toNat
def FarmD.refL (f : FarmD) : List (List Int) := pickL (fun n => decide (f.bitT n = pw1 f.nl)) (fun n => f.nthL n) f.mN
theorem FarmD.rightN_congr {f : FarmD} {fl fl' : Nat → Int} (h : ∀ i, i < f.ns → fl i = fl' i) (g : f.Good) {i : Nat} (hi : i < f.nl) (hfl : ∀ s, s < f.ns → 0 ≤ fl s ∧ fl s ≤ 30) : f.rightN fl i = f.rightN fl' i := by
  have hS : ∀ b s, s ≤ f.ns → f.inS fl b s = f.inS fl' b s := fun b s => by
    induction s with
    | zero => intro _; rfl
    | succ s ih =>
      intro hs
      simp only [FarmD.inS]
      rw [ih (by omega), h s (by omega)]
  have hB : ∀ (V : Nat → Int) b m, f.inB fl V b m = f.inB fl' V b m := fun V b m => by
    induction m with
    | zero => exact hS b f.ns (Nat.le_refl _)
    | succ m ih => simp only [FarmD.inB, ih]
  have hW : ∀ b, f.waN fl b = f.waN fl' b := fun b => by
    induction b using Nat.strongRecOn with
    | _ b ih =>
      rw [f.waN_eq, f.waN_eq, hB, f.inB_eq fl' (f.waN fl) (f.waN fl') b b ih]
  unfold FarmD.rightN FarmD.downN
  simp only [hW]
theorem FarmD.bit_full {f : FarmD} (g : f.Good) {n : Nat} (hn : n ≤ 70000) : f.bitT n = pw1 f.nl ↔ f.rgt (f.nthL n) = true := by
  have hch := FarmD.nthL_ch g (n := (n : Int)) (by omega) (by omega)
  have hfl : ∀ s, s < f.ns → 0 ≤ zL (f.nthL n) s ∧ zL (f.nthL n) s ≤ 30 := fun s hs => by
    have h1 := hch.2 s hs
    have h2 := (g.spring s hs).2
    omega
  unfold FarmD.bitT FarmD.rgt allN
  rw [bits_full _ g.nl, decide_eq_true_eq]
  have hk : ∀ j, j < f.nl → f.rightN (f.nthN n) j = f.rightB (f.water (zL (f.nthL n))) j := fun j hj => by
    rw [f.right_eq g _ hfl j hj]
    exact (FarmD.rightN_congr (fun i hi => f.nthL_at n hi) g hj hfl).symm
  exact ⟨fun h j hj => by rw [← hk j hj]; exact h j hj, fun h j hj => by rw [hk j hj]; exact h j hj⟩
theorem FarmD.mem_refL {f : FarmD} (hc : f.check = 0) {l : List Int} : l ∈ f.refL ↔ l ∈ f.trs := by
  have g := good_of_check hc
  obtain ⟨_, h1, h2⟩ := FarmD.many_eq hc
  unfold FarmD.refL FarmD.trs FarmD.mN
  rw [mem_pickL, List.mem_filter, f.mem_chL]
  constructor
  · rintro ⟨i, hi, hp, rfl⟩
    exact ⟨FarmD.nthL_ch g (by omega) (by omega), (FarmD.bit_full g (by omega)).1 (of_decide_eq_true hp)⟩
  · rintro ⟨hch, hr⟩
    obtain ⟨n, hn, rfl⟩ := FarmD.nthL_onto hc hch
    exact ⟨n, by omega, decide_eq_true ((FarmD.bit_full g (by omega)).2 hr), rfl⟩
theorem FarmD.refL_nil {f : FarmD} (hc : f.check = 0) : f.refL = [] ↔ f.trs = [] := by
  constructor
  · intro h
    cases ht : f.trs with
    | nil => rfl
    | cons a l =>
      have : a ∈ f.refL := (FarmD.mem_refL hc).2 (by rw [ht]; simp)
      rw [h] at this; cases this
  · intro h
    cases ht : f.refL with
    | nil => rfl
    | cons a l =>
      have : a ∈ f.trs := (FarmD.mem_refL hc).1 (by rw [ht]; simp)
      rw [h] at this; cases this
theorem FarmD.refL_len {f : FarmD} (hc : f.check = 0) : f.refL.length ≤ 2000 := by
  obtain ⟨_, h1, h2⟩ := FarmD.many_eq hc
  have := pickL_len (fun n => decide (f.bitT n = pw1 f.nl)) (fun n => f.nthL n) f.mN
  unfold FarmD.mN at this
  unfold FarmD.refL FarmD.mN
  omega
end Go.Fz
set_option linter.unusedVariables false
namespace Go.Fz
open Go.Proofs
set_option maxRecDepth 100000
end Go.Fz
set_option linter.unusedVariables false
namespace Go.Fz
open Go.Proofs
set_option maxRecDepth 100000
end Go.Fz
set_option linter.unusedVariables false
namespace Go.Fz
open Go.Proofs
set_option maxRecDepth 100000
theorem full65_ok (y : FarmD) (hn : y.nl < 1000000) : Pure Try.prog 65 [farmV y] (iV (pw1 y.nl)) := by
  obtain ⟨O, hO⟩ : ∃ O : Ar, O = std := ⟨_, rfl⟩
  refine pure_of_body tok 3 Try.func65 en65 rfl ⟨farmV_below y, trivial⟩ Below.lit ?_
  refine SW.seqRun tok hO (by cbv <;> rfl) (by trivial) ?_
  refine SW.seqRun tok hO (by cbv <;> rfl) (by exact conv_nn hO hn) ?_
  refine SW.ret ⟨_, _, rfl, rfl, Eqv.int ?_⟩
  subst hO; rfl
end Go.Fz
