/- Own work of the verifier of watercress: Lb4, Lb7, Lb8, FzKo, FzCn1, FzCn2, FzCn4, FzCh1, FzCh2, FzCh3, FzCh4, FzCh5, FzEs1, FzCp, FzEs2, FzCm2, FzCm3, FzCm4, FzCm5, FzOn1, FzOn2, FzEa1, FzEa2, FzEa3, FzCn5, FzCn6, FzEa4. -/
import Derived.ChangeKeysEq
import Derived.Laws.AppendOwn
import Derived.Laws.Cells
import Derived.Laws.CopyRow
import Derived.Laws.Entries
import Derived.Laws.NewFold
import Derived.Laws.Sem
import Derived.Laws.Small
import Derived.Laws.StructEq
import Derived.Laws.Tables
import Derived.Laws.World
import Derived.OrdersHeld
import Derived.OrdersIn
import Derived.RangeFuncLeaves
import Derived.RangeFuncRecord
import Derived.Shelf.Abstract
import Derived.Test.YtcjekdfncnmbfaaNa0
import Derived.Test.YtcjekdfncnmbfaaNa1
import Derived.Test.YtcjekdfncnmbfaaNa2
import Derived.Test.YtcjekdfncnmbfaaNa3
import Derived.Test.YtcjekdfncnmbfaaProg
import Derived.Test.YtcjekdfncnmbfaaNa4
import Derived.Below
import Derived.CallsIn
import Derived.Carry
import Derived.ChangeSame
import Derived.Deep.Slices
import Derived.DeepKeys4
import Derived.JoinedCond
import Derived.Laws.Cover3
import Derived.Lib.SmallJoins
import Derived.Maps.Keyed
import Derived.Maps.RangeRun
import Derived.OpenShut
import Derived.ProofKit
import Derived.WalkKit
import Derived.WideKeyArgs
import Derived.Test.YtcjekdfncnmbfaaNa5
import Derived.Test.YtcjekdfncnmbfaaNa6
import Derived.Test.YtcjekdfncnmbfaaRows
import Derived.Test.YtcjekdfncnmbfaaNa7
import Derived.Test.YtcjekdfncnmbfaaNa8
import Derived.Test.YtcjekdfncnmbfaaNa9
import Derived.Test.YtcjekdfncnmbfaaNa18
import Derived.Test.YtcjekdfncnmbfaaNa10
import Derived.Test.YtcjekdfncnmbfaaNa11
import Derived.Test.YtcjekdfncnmbfaaNa13
import Derived.Test.YtcjekdfncnmbfaaNa16
import Derived.Test.YtcjekdfncnmbfaaNa14
import Derived.Test.YtcjekdfncnmbfaaNa15
import Derived.Test.YtcjekdfncnmbfaaNa19
import Derived.Test.YtcjekdfncnmbfaaNa20
import Derived.Test.YtcjekdfncnmbfaaNa22
import Derived.Test.YtcjekdfncnmbfaaNa12
import Derived.Test.YtcjekdfncnmbfaaNa17
set_option linter.unusedVariables false
set_option linter.unusedSimpArgs false
namespace Go.Fz
open Go.Proofs
theorem en8 : Enters Try.prog 8 := fun args w => Go.Proofs.enters_of Try.func8 (by kernel_rfl) rfl args w
theorem en21 : Enters Try.prog 21 := fun args w => Go.Proofs.enters_of Try.func21 (by kernel_rfl) rfl args w
theorem en50 : Enters Try.prog 50 := fun args w => Go.Proofs.enters_of Try.func50 (by kernel_rfl) rfl args w
theorem en63 : Enters Try.prog 63 := fun args w => Go.Proofs.enters_of Try.func63 (by kernel_rfl) rfl args w
theorem en91 : Enters Try.prog 91 := fun args w => Go.Proofs.enters_of Try.func91 (by kernel_rfl) rfl args w
end Go.Fz
set_option linter.unusedVariables false
set_option linter.unusedSimpArgs false
namespace Go.Fz
variable {P : Program} {T : Ti}
end Go.Fz
namespace Go.Fz
open Go.Proofs
set_option maxRecDepth 100000
end Go.Fz
namespace Go.Fz
open Go.Proofs
set_option maxRecDepth 100000
end Go.Fz
namespace Go.Fz
section
variable {P : Program} {T : Ti}
def esOf (st : St) (a : AV) : Option (Nat × List (AV × AV × Nat) × Nat) := match a with
  | .mp id => match st.h.get id with
    | some (.map es clock) => some (id, es, clock)
    | _ => none
  | _ => none
def rngAt (ops : Array Oper) (i : Nat) (f : Fm) : Option (TypeId × AV) := match ops[i]? with
  | none => none
  | some o => match wantA ops f.ts o with
    | some true => match o.op with
      | .range t x => some (t, Operand.av f.ts x)
      | _ => none
    | _ => none
end
end Go.Fz
namespace Go.Fz
open Go.Proofs
set_option maxRecDepth 100000
section
variable {α : Type} {next : α → (Nat → Int) → α} {N : Nat} {lo hi : Nat → Int}
end
end Go.Fz
namespace Go.Fz
open Go.Proofs
set_option maxRecDepth 100000
section
variable {P : Program} {T : Ti}
end
end Go.Fz
namespace Go.Fz
open Go.Proofs
set_option maxRecDepth 100000
end Go.Fz
namespace Go.Fz
open Go.Proofs
set_option maxRecDepth 100000
end Go.Fz
namespace Go.Fz
open Go.Proofs
set_option maxRecDepth 100000
def wholeAt (ops : Array Oper) (i : Nat) (f : Fm) : Option (TypeId × AV) := match ops[i]? with
  | none => none
  | some o => match wantA ops f.ts o with
    | some true => match o.op with
      | .slice t x none none none => some (t, Operand.av f.ts x)
      | _ => none
    | _ => none
theorem OpsW.wholeArr {P : Program} {T : Ti} (hT : TOk P T) {rd : Option Nat} {ops : Array Oper} {l : List Nat} {K : Fm → St → Prop} {f : Fm} {st : St} {j t id off n sz : Nat} {fm : Option Nat} {cs : List AV}
    (hc : wholeAt ops j f = some (t, .ptr id off)) (hb : arrW T t n sz = true) (hx : st.h.get id = some (.cells fm false cs)) (hl : off + n * sz ≤ cs.length)
    (h : OpsW P rd ops l K (putAt ops j f (.sl id off n sz true)) st) : OpsW P rd ops (j :: l) K f st := by
  unfold wholeAt at hc
  split at hc
  · cases hc
  · rename_i o ho
    split at hc
    · rename_i hw
      split at hc
      · rename_i t' x hop
        simp only [Option.some.injEq, Prod.mk.injEq] at hc
        obtain ⟨rfl, h2⟩ := hc
        unfold arrW at hb
        split at hb
        · rename_i i hi1
          split at hb
          · rename_i m e hd
            split at hb
            · rename_i jj hj
              simp only [Bool.and_eq_true] at hb
              obtain rfl := Nat.eq_of_beq_eq_true hb.1
              obtain rfl := Nat.eq_of_beq_eq_true hb.2
              have hput : ∀ v, putAt ops j f v = f.put o.dst v := fun v => by simp [putAt, ho]
              rw [hput] at h
              refine OpsW.light hT ho hw (r := .sl id off m jj.size true) ?_ h
              simp only [evG, hop, h2, Option.map_none]
              unfold sliceA
              simp only [hi1, hd, hj, hx, natOr]
              rw [if_pos ⟨Nat.zero_le _, Nat.le_refl _, by simp, hl⟩]
              simp
            · cases hb
          · cases hb
        · cases hb
      · cases hc
    · cases hc
end Go.Fz
namespace Go.Fz
variable {P : Program} {T : Ti}
end Go.Fz
namespace Go.Fz
open Go.Proofs
set_option maxRecDepth 100000
section
variable {P : Program}
end
section
variable {β : Type} [DecidableEq β]
end
end Go.Fz
namespace Go.Fz
open Go.Proofs
set_option maxRecDepth 100000
end Go.Fz
namespace Go.Fz
open Go.Proofs
set_option maxRecDepth 100000
section
variable {P : Program} {T : Ti} {β : Type}
end
end Go.Fz
namespace Go.Fz
open Go.Proofs
set_option maxRecDepth 100000
section
variable {P : Program} {T : Ti} {β : Type} [DecidableEq β]
end
end Go.Fz
namespace Go.Fz
open Go.Proofs
set_option maxRecDepth 100000
end Go.Fz
namespace Go.Fz
open Go.Proofs
set_option maxRecDepth 100000
end Go.Fz
namespace Go.Fz
open Go.Proofs
set_option maxRecDepth 100000
end Go.Fz
namespace Go.Fz
open Go.Proofs
set_option maxRecDepth 100000
section
variable (nw nl : Nat) (A B C D : Nat → Nat → Int) (a b c e : Nat → Int)
end
end Go.Fz
set_option linter.unusedVariables false
set_option linter.unusedSimpArgs false
namespace Go.Fz
open Go.Proofs
set_option maxRecDepth 100000
section
variable {P : Program} {T : Ti}
end
end Go.Fz
namespace Go.Fz
open Go.Proofs
set_option maxRecDepth 100000
section
variable (K : List (List Nat) → Hp → Nat → Prop) (stop : List (List Nat) → List Nat → Hp → Nat → Prop) (ok : List Nat → Prop) (mc y many : Nat) (ex : Bool)
variable {K stop ok mc y many ex}
end
end Go.Fz
namespace Go.Fz
open Go.Proofs
set_option maxRecDepth 100000
section
variable {K : List (List Nat) → Hp → Nat → Prop} {stop : List (List Nat) → List Nat → Hp → Nat → Prop} {ok : List Nat → Prop} {mc y many : Nat}
end
end Go.Fz
namespace Go.Fz
open Go.Proofs
set_option maxRecDepth 100000
section
variable {K : List (List Nat) → Hp → Nat → Prop} {stop : List (List Nat) → List Nat → Hp → Nat → Prop} {ok : List Nat → Prop} {mc y many : Nat}
end
end Go.Fz
namespace Go.Fz
open Go.Proofs
set_option maxRecDepth 100000
section
variable (d : DayD) (XO : AV) (hX : Below 0 XO) (E : List (Mk × Nat)) (cl : Nat) (hb : Born E cl)
end
end Go.Fz
namespace Go.Fz
open Go.Proofs
set_option maxRecDepth 100000
section
variable (d : DayD) (XO : AV) (E : List (Mk × Nat)) (cl : Nat)
end
end Go.Fz
namespace Go.Fz
open Go.Proofs
set_option maxRecDepth 100000
section
variable (d : DayD) (L : Nat) (G : Nat → Nat → AV) (ME : List (AV × AV × Nat)) (cl : Nat)
end
end Go.Fz
namespace Go.Fz
open Go.Proofs
set_option maxRecDepth 100000
section
variable (d : DayD) (L : Nat) (G : Nat → Nat → AV) (ME : List (AV × AV × Nat)) (cl : Nat) (Q : List Nat → Bool)
variable {d L G ME cl}
end
end Go.Fz
namespace Go.Fz
open Go.Proofs
set_option maxRecDepth 100000
end Go.Fz
namespace Go.Fz
open Go.Proofs
set_option maxRecDepth 100000
set_option linter.unusedVariables false
end Go.Fz
namespace Go.Fz
open Go.Proofs
set_option maxRecDepth 100000
set_option linter.unusedVariables false
end Go.Fz
namespace Go.Fz
open Go.Proofs
set_option maxRecDepth 100000
end Go.Fz
namespace Go.Fz
open Go.Proofs
set_option maxRecDepth 100000
section
variable (nw nl : Nat) (f0 f1 f2 f3 : Nat → Int) (z4 z5 z6 z7 : Int)
end
end Go.Fz
namespace Go.Fz
open Go.Proofs
set_option maxRecDepth 100000
section
end
end Go.Fz
namespace Go.Fz
open Go.Proofs
set_option maxRecDepth 100000
end Go.Fz
namespace Go.Fz
open Go.Proofs
set_option maxRecDepth 100000
end Go.Fz
namespace Go.Fz
open Go.Proofs
set_option maxRecDepth 100000
end Go.Fz
namespace Go.Fz
open Go.Proofs
set_option maxRecDepth 100000
end Go.Fz
namespace Go.Fz
open Go.Proofs
set_option maxRecDepth 100000
end Go.Fz
namespace Go.Fz
open Go.Proofs
set_option maxRecDepth 100000
end Go.Fz
namespace Go.Fz
open Go.Proofs
set_option maxRecDepth 100000
end Go.Fz
namespace Go.Fz
open Go.Proofs
set_option maxRecDepth 100000
end Go.Fz
namespace Go.Fz
open Go.Proofs
set_option maxRecDepth 100000
end Go.Fz
namespace Go.Fz
variable {P : Program}
end Go.Fz
namespace Go.Fz
open Go.Proofs
set_option maxRecDepth 100000
section
variable {P : Program} {T : Ti}
end
end Go.Fz
namespace Go.Fz
open Go.Proofs
set_option maxRecDepth 100000
end Go.Fz
namespace Go.Fz
open Go.Proofs
set_option maxRecDepth 100000
set_option linter.unusedVariables false
end Go.Fz
namespace Go.Fz
open Go.Proofs
set_option maxRecDepth 100000
set_option linter.unusedVariables false
end Go.Fz
namespace Go.Fz
open Go.Proofs
set_option maxRecDepth 100000
set_option linter.unusedVariables false
end Go.Fz
namespace Go.Fz
open Go.Proofs
set_option maxRecDepth 100000
set_option linter.unusedVariables false
end Go.Fz
namespace Go.Fz
open Go.Proofs
set_option maxRecDepth 100000
end Go.Fz
namespace Go.Fz
open Go.Proofs
set_option maxRecDepth 100000
set_option pp.deepTerms false
set_option pp.deepTerms.threshold 5
end Go.Fz
namespace Go.Fz
open Go.Proofs
set_option maxRecDepth 100000
end Go.Fz
namespace Go.Fz
open Go.Proofs
set_option maxRecDepth 100000
end Go.Fz
namespace Go.Fz
open Go.Proofs
set_option maxRecDepth 100000
section
variable (d : DayD) (k w lo hi : Int)
end
end Go.Fz
namespace Go.Fz
open Go.Proofs
set_option maxRecDepth 100000
theorem append_emptyG {T : Ti} {t id sz n : Nat} {ex : Bool} {g : Nat → Nat → AV} {st : St} {G : List AV} (h : sliceB T t sz = true) (hx : st.h.get id = some (.cells none false [])) (hn : n < 1048576) (h0 : 0 < n) (hone : ∀ i k, (g i k).one = true) (hG : G = flatG sz g n) :
    appendA T st t t (.sl id 0 0 sz true) (.isl n sz ex g) = some (.sl st.n 0 n sz false, st.push (.cells none false G)) := by
  subst hG
  exact append_empty h hx hn h0 hone
section
variable {T : Ti}
end
end Go.Fz
namespace Go.Fz
open Go.Proofs
set_option maxRecDepth 100000
section
variable {P : Program} {T : Ti}
end
end Go.Fz
namespace Go.Fz
open Go.Proofs
set_option maxRecDepth 100000
end Go.Fz
namespace Go.Fz
open Go.Proofs
set_option maxRecDepth 100000
set_option linter.unusedVariables false
end Go.Fz
namespace Go.Fz
open Go.Proofs
set_option maxRecDepth 100000
set_option linter.unusedVariables false
end Go.Fz
namespace Go.Fz
open Go.Proofs
set_option maxRecDepth 100000
set_option linter.unusedVariables false
end Go.Fz
namespace Go.Fz
open Go.Proofs
set_option maxRecDepth 100000
end Go.Fz
namespace Go.Fz
open Go.Proofs
set_option maxRecDepth 100000
set_option linter.unusedVariables false
section
variable {P : Program}
end
end Go.Fz
namespace Go.Fz
open Go.Proofs
set_option maxRecDepth 100000
set_option linter.unusedVariables false
end Go.Fz
namespace Go.Fz
open Go.Proofs
set_option maxRecDepth 100000
set_option linter.unusedVariables false
end Go.Fz
namespace Go.Fz
open Go.Proofs
set_option maxRecDepth 100000
set_option linter.unusedVariables false
end Go.Fz
set_option linter.unusedVariables false
namespace Go.Fz
open Go.Proofs
section
variable {P : Program} {T : Ti}
def cpyAt (ops : Array Oper) (j : Nat) (f : Fm) : Option (TypeId × AV × AV) := match ops[j]? with
  | none => none
  | some o => match wantA ops f.ts o with
    | some true => match o.op with
      | .call c => match c.callee, c.args.toList, c.argTypes.toList with
        | .builtin .copy, [d, s], [dt, _] => some (dt, Operand.av f.ts d, Operand.av f.ts s)
        | _, _, _ => none
      | _ => none
    | _ => none
end
end Go.Fz
set_option linter.unusedVariables false
namespace Go.Fz
open Go.Proofs
set_option maxRecDepth 100000
end Go.Fz
set_option linter.unusedVariables false
namespace Go.Fz
open Go.Proofs
set_option maxRecDepth 100000
theorem not_bad {y : YardD} {f : Nat → Int} : y.badB f = false ↔ ∀ p, p < y.nc → y.rgt f p = true := by
  unfold YardD.badB
  rw [decide_eq_false_iff_not, Nat.not_lt, Nat.le_zero, List.length_eq_zero_iff]
  unfold YardD.wrN
  rw [List.filter_eq_nil_iff]
  constructor
  · intro h p hp
    have := h p (List.mem_range.2 hp)
    simpa using this
  · intro h p hp
    have := h p (List.mem_range.1 hp)
    simp [this]
end Go.Fz
set_option linter.unusedVariables false
namespace Go.Fz
open Go.Proofs
set_option maxRecDepth 100000
end Go.Fz
set_option linter.unusedVariables false
namespace Go.Fz
open Go.Proofs
set_option maxRecDepth 100000
theorem mem_allS {y : YardD} {f : Nat → Int} : f ∈ y.allS ↔ (∀ b, b ∉ List.range y.nb → f b = 0) ∧ y.Sch (List.range y.nb) f := by
  have h := foldS_all (y := y) (next := appS) (S := fun s => f ∈ s) (G := fun g => f = g) (fun s g => by unfold appS; rw [List.mem_append, List.mem_singleton]) (L := List.range y.nb) List.pairwise_lt_range []
  refine Iff.trans h ?_
  constructor
  · rintro (h | ⟨g, h1, h2, rfl⟩)
    · cases h
    · exact ⟨h1, h2⟩
  · rintro ⟨h1, h2⟩
    exact .inr ⟨f, h1, h2, rfl⟩
theorem mem_kept {y : YardD} {f : Nat → Int} : f ∈ y.kept ↔ f ∈ y.allS ∧ ∀ p, p < y.nc → y.rgt f p = true := by
  unfold YardD.kept kpS
  rw [List.mem_filter]
  constructor
  · rintro ⟨h1, h2⟩
    exact ⟨h1, not_bad.1 (by simpa using h2)⟩
  · rintro ⟨h1, h2⟩
    exact ⟨h1, by rw [not_bad.2 h2]; rfl⟩
theorem anyW_iff {S : List (Nat → Int)} {b w : Int} : anyW S b w = true ↔ ∃ f ∈ S, f b.toNat = w := by
  unfold anyW
  rw [decide_eq_true_eq]
  have hg : ∀ j, (hj : j < S.length) → S.getD j f0 = S[j] := fun j hj => by rw [List.getD_eq_getElem?_getD, List.getElem?_eq_getElem hj]; rfl
  constructor
  · rintro ⟨i, hi, h⟩
    rw [hg i hi] at h
    exact ⟨_, List.getElem_mem hi, of_decide_eq_true h⟩
  · rintro ⟨f, hf, h⟩
    obtain ⟨i, hi, rfl⟩ := List.getElem_of_mem hf
    exact ⟨i, hi, by rw [hg i hi]; exact decide_eq_true h⟩
theorem mem_wkN {S : List (Nat → Int)} {b lo w : Int} : ∀ n, w ∈ wkN S b lo n ↔ (lo ≤ w ∧ w < lo + (n : Nat)) ∧ anyW S b w = true
  | 0 => by
    constructor
    · intro h; cases h
    · rintro ⟨h, _⟩; omega
  | n + 1 => by
    have ih := mem_wkN (S := S) (b := b) (lo := lo) (w := w) n
    show w ∈ nxW S b (wkN S b lo n) (lo + (n : Nat)) ↔ _
    unfold nxW
    constructor
    · intro h
      split at h
      · rename_i ha
        rcases List.mem_append.1 h with h | h
        · have := ih.1 h
          exact ⟨by omega, this.2⟩
        · rw [List.mem_singleton.1 h]
          exact ⟨by omega, ha⟩
      · have := ih.1 h
        exact ⟨by omega, this.2⟩
    · rintro ⟨h1, h2⟩
      by_cases e : w = lo + (n : Nat)
      · subst e
        rw [if_pos h2]
        exact List.mem_append.2 (.inr (List.mem_singleton.2 rfl))
      · have := ih.2 ⟨by omega, h2⟩
        split
        · exact List.mem_append.2 (.inl this)
        · exact this
end Go.Fz
set_option linter.unusedVariables false
namespace Go.Fz
open Go.Proofs
set_option maxRecDepth 100000
set_option maxHeartbeats 8000000 in
theorem has50_ok (n : Nat) (ex : Bool) (fl : Nat → Int) (x : Int) (hn : n < 1000) : Pure Try.prog 50 [intsV n ex fl, iV x] (.sb (hasN n fl x)) := by
  obtain ⟨O, hO⟩ : ∃ O : Ar, O = std := ⟨_, rfl⟩
  have hnat : ∀ i : Nat, O.nat (Int.ofNat i) = i := fun i => by subst hO; rfl
  refine pure_of_body tok 3 Try.func50 en50 rfl ⟨intsV_below _ _ _, Below.lit, trivial⟩ Below.sb ?_
  refine SW.seqRun tok hO (by cbv <;> rfl) (by trivial) ?_
  refine SW.seq ?_
  refine SW.seqRun tok hO (by cbv <;> rfl) (by trivial) ?_
  refine (SW.block (SW.loopF (fun i : Nat => ⟨⟨18, getT [(0, intsV n ex fl), (1, iV x), (5, iV i)]⟩, []⟩) (fun _ => ⟨[], 0⟩) (fun i => n - i) (fun i => i ≤ n ∧ ∀ j, j < i → fl j ≠ x) 0
    (fun _ => rfl) ⟨Nat.zero_le _, fun j hj => absurd hj (Nat.not_lt_zero _)⟩ (Weak.by rfl rfl (by simp) (Nat.le_refl _) (Nat.le_refl _) ⟨⟨rfl, .inl rfl⟩, ⟨rfl, .inl rfl⟩, ⟨rfl, .inl rfl⟩, trivial⟩ trivial) fun i hi => ?_))
  obtain ⟨hi, hbefore⟩ := hi
  have hni := hnat i
  show SW _ _ _ _ ⟨⟨18, getT [(0, intsV n ex fl), (1, iV x), (5, iV i)]⟩, []⟩ _
  refine SW.seq ?_
  refine SW.seqRun tok hO (by cbv <;> rfl) (by trivial) ?_
  refine SW.condS (by cbv <;> rfl) (fun h => SW.skip ?_) (fun h => SW.exit ?_)
  · have hlt : i < n := by
      have : (i : Int) < (n : Int) := by subst hO; simpa [std] using h
      omega
    have k0 : (0 : Int) ≤ Int.ofNat i := Int.natCast_nonneg i
    have kN : Int.ofNat i < Int.ofNat n := Int.ofNat_lt.2 hlt
    have hbig : i < 4611686018427387904 := Nat.lt_trans hlt (Nat.lt_trans hn (by decide))
    refine SW.seq (SW.block ?_)
    refine SW.seqRun tok hO (by cbv <;> rfl) ?_ ?_
    · exact ⟨k0, kN⟩
    refine SW.condS (by cbv <;> rfl) (fun h2 => ?_) (fun h2 => SW.skip ?_)
    · have he : fl i = x := by
        have h3 : O.cmp .eql (fl (O.nat (Int.ofNat i))) x = true := h2
        rw [hni] at h3
        subst hO; simpa [std] using h3
      refine SW.seqRun tok hO (by cbv <;> rfl) (by trivial) ?_
      refine SW.ret ⟨_, _, rfl, rfl, Eqv.bool ?_⟩
      unfold hasN
      exact (decide_eq_true ⟨i, hlt, he⟩).symm
    · have he : fl i ≠ x := by
        have h3 : O.cmp .eql (fl (O.nat (Int.ofNat i))) x = false := h2
        rw [hni] at h3
        subst hO; simpa [std] using h3
      refine SW.run tok hO (by cbv <;> rfl) (by trivial) ?_
      refine ⟨i + 1, by omega, ⟨by omega, fun j hj => ?_⟩, Weak.by rfl rfl (by simp) (Nat.le_refl _) (Nat.le_refl _) ⟨⟨rfl, .inl rfl⟩, ⟨rfl, .inl rfl⟩, ⟨inc_ok hO hbig, .inl rfl⟩, trivial⟩ trivial⟩
      by_cases e : j = i
      · subst e; exact he
      · exact hbefore j (by omega)
  · have hz : i = n := by
      have : (n : Int) ≤ (i : Int) := by subst hO; simpa [std] using h
      omega
    subst hz
    refine SW.seqRun tok hO (by cbv <;> rfl) (by trivial) ?_
    refine SW.ret ⟨_, _, rfl, rfl, Eqv.bool ?_⟩
    unfold hasN
    exact (decide_eq_false fun ⟨j, hj, h⟩ => hbefore j hj h).symm
end Go.Fz
set_option linter.unusedVariables false
namespace Go.Fz
open Go.Proofs
set_option maxRecDepth 100000
def trueQ3 (fn : Func) : Exit → Fm → St → Prop := retQ T fn (fun v st' => Eqv (frz st'.h (fun _ => true) 3 v) (.lit (.bool true)))
end Go.Fz
set_option linter.unusedVariables false
namespace Go.Fz
open Go.Proofs
set_option maxRecDepth 100000
end Go.Fz
set_option linter.unusedVariables false
namespace Go.Fz
open Go.Proofs
set_option maxRecDepth 100000
theorem any_sees {y : YardD} (hc : y.check = 0) : (y.allS = [] → y.anyE true = 10) ∧ (y.allS ≠ [] → y.anyE true = 0) := by
  refine ⟨fun hs => ?_, fun hs => ?_⟩
  · unfold YardD.anyE
    rw [if_neg (by simp [hc]), if_neg (by simp), if_pos hs]
  · unfold YardD.anyE
    rw [if_neg (by simp [hc]), if_neg (by simp), if_neg hs]
theorem own_sees {y : YardD} (hc : y.check = 0) (hk : y.kept ≠ []) : y.ownE true = 0 := by
  have hs : y.allS ≠ [] := fun h => hk (by unfold YardD.kept kpS; rw [h]; rfl)
  unfold YardD.ownE
  rw [if_neg (by simp [(any_sees hc).2 hs]), if_neg hk]
theorem rem_fin : ∀ (b : Fin 256) (n : Fin 7), 0 < n.1 → 0 ≤ std.bin .rem .i64 (std.conv .i64 (b.1 : Int)) (n.1 : Int) ∧ std.bin .rem .i64 (std.conv .i64 (b.1 : Int)) (n.1 : Int) < (n.1 : Int) := by decide +kernel
theorem rem_rng {b : Int} (b0 : 0 ≤ b) (b1 : b ≤ 255) {n : Nat} (h0 : 0 < n) (h6 : n ≤ 6) : 0 ≤ std.bin .rem .i64 (std.conv .i64 b) (n : Int) ∧ std.bin .rem .i64 (std.conv .i64 b) (n : Int) < (n : Int) := by
  have h := rem_fin ⟨b.toNat, by omega⟩ ⟨n, by omega⟩ h0
  have e : ((b.toNat : Nat) : Int) = b := by omega
  simp only [e] at h
  exact h
theorem wk_small {y : YardD} (hf : y.Fit) {K : Int} (k0 : 0 ≤ K) (k1 : K < y.nb) : (y.wkL K).length < 1000 := by
  have h1 := wkN_len (y.ownL (y.hasB K)) K (y.blo K.toNat) (y.bhi K.toNat - y.blo K.toNat + 1).toNat
  have h2 := hf.beg K.toNat (by omega)
  have h3 : (y.wkL K).length ≤ (y.bhi K.toNat - y.blo K.toNat + 1).toNat := h1
  omega
theorem weeks_sees {y : YardD} (hc : y.check = 0) (hk : y.kept ≠ []) {K : Int} (k0 : 0 ≤ K) (k1 : K < y.nb) : Pure Try.prog 27 [yardV y, iV K] (.tup [zV (y.wkL K), iV 0]) ∧ y.wkL K = wkN y.kept K (y.blo K.toNat) (y.bhi K.toNat - y.blo K.toNat + 1).toNat := by
  have hn := (y.fit_of_check hc).1.nb
  have h5 := (y.fit_of_check hc).2.2.2.2.2.1
  have hb : y.hasB K = true := by
    unfold YardD.hasB
    rw [decide_eq_true k0, decide_eq_true k1]; rfl
  have ho := own_sees hc hk
  have e := weeks_ok y (by omega) (by omega) K
  have e2 : y.wkV K = zV (y.wkL K) := by
    unfold YardD.wkV
    rw [hb, if_pos ho]
  rw [e2, hb, ho] at e
  refine ⟨e, ?_⟩
  unfold YardD.wkL
  rw [hb, (YardD.own_some ho).1]
end Go.Fz
set_option linter.unusedVariables false
namespace Go.Fz
open Go.Proofs
set_option maxRecDepth 100000
def eq6 (f g : Nat → Int) : Bool := decide (f 0 = g 0) && (decide (f 1 = g 1) && (decide (f 2 = g 2) && (decide (f 3 = g 3) && (decide (f 4 = g 4) && decide (f 5 = g 5)))))
set_option maxHeartbeats 8000000 in
theorem index91_ok (S : List (Nat → Int)) (f : Nat → Int) (hn : S.length < 2000000) : Pure Try.prog 91 [lsV6 S, .agg (arrC f)] (iV (fstT (fun i => eq6 f (S.getD i f0)) S.length)) := by
  obtain ⟨O, hO⟩ : ∃ O : Ar, O = std := ⟨_, rfl⟩
  have hnat : ∀ i : Nat, O.nat (Int.ofNat i) = i := fun i => by subst hO; rfl
  unfold lsV6
  obtain ⟨gg, hg⟩ : ∃ g : Nat → Nat → Int, g = fun i k => (S.getD i f0) k := ⟨_, rfl⟩
  rw [show gS S = fun i k => iV (gg i k) by rw [hg]; rfl]
  obtain ⟨p, hp⟩ : ∃ p : Nat → Bool, p = fun i => eq6 f (S.getD i f0) := ⟨_, rfl⟩
  have hpg : ∀ i, p i = eq6 f (gg i) := fun i => by rw [hp, hg]
  rw [← hp]
  obtain ⟨L, hL⟩ : ∃ L, S.length = L := ⟨_, rfl⟩
  rw [hL] at hn ⊢
  refine pure_of_body tok 3 Try.func91 en91 rfl ⟨Below.isl fun i k _ _ => Below.lit, Below.agg (arrC_below f), trivial⟩ Below.lit ?_
  refine SW.seqRun tok hO (by cbv <;> rfl) (by trivial) ?_
  refine SW.seq ?_
  refine SW.seqRun tok hO (by cbv <;> rfl) (by trivial) ?_
  refine (SW.block (SW.loop (fun k f' st' => ∃ (g : Nat → AV) (c : Nat), f' = ⟨⟨19, g⟩, []⟩ ∧ AllP (fun p => g p.1 = p.2) [(0, .isl L 6 false fun i k => iV (gg i k)), (3, .ptr 0 0), (7, iV L), (8, iV c)] ∧ st' = ⟨[(0, .cells none false (arrC f))], 1⟩ ∧ (∀ j, j < c → p j = false) ∧ c ≤ L ∧ k = L - c) (L - 0) ?_ ?_))
  · exact ⟨_, 0, rfl, ⟨rfl, rfl, rfl, rfl, trivial⟩, rfl, (fun j hj => absurd hj (Nat.not_lt_zero j)), Nat.zero_le _, rfl⟩
  · rintro k f' st' ⟨g, c, rfl, ⟨g0', g1, g7, g8, _⟩, rfl, hall, hle, rfl⟩
    simp only at g0' g1 g7 g8
    rw [← updT_self g0', ← updT_self g1, ← updT_self g7, ← updT_self g8]
    refine SW.seqRun tok hO (by cbv <;> rfl) (by trivial) ?_
    refine SW.seq (SW.condS (by cbv <;> rfl) (fun h3 => SW.skip ?_) (fun h3 => SW.exit ?_))
    · have hlt : c < L := by subst hO; simpa [std] using h3
      have hnc : O.nat (Int.ofNat c) = c := hnat c
      have k0 : (0 : Int) ≤ Int.ofNat c := Int.natCast_nonneg c
      have kN : Int.ofNat c < Int.ofNat L := Int.ofNat_lt.2 hlt
      refine SW.seq (SW.block ?_)
      refine SW.seqRun tok hO (by cbv <;> rfl) (by trivial) ?_
      refine SW.seqRunD tok mixed hO (by kernel_rfl) (by cbv <;> rfl) ?_ ?_
      · exact ⟨k0, kN⟩
      refine AnyE.dec tok hO (by kernel_rfl) (by cbv <;> rfl) (by trivial) (fun h4 => ?_) (fun h4 => ?_)
      · have hpc : p c = true := by
          rw [hnc] at h4
          rw [hpg c, ← h4, hO]
          rfl
        refine AnyE.run tok hO (by kernel_rfl) (by cbv <;> rfl) (by trivial) ?_
        refine SW.cond (t := true) (by cbv <;> rfl) ?_
        refine SW.seqRun tok hO (by cbv <;> rfl) (by trivial) ?_
        exact SW.ret ⟨_, _, rfl, rfl, by rw [fstT_hit hlt hpc hall]; exact Eqv.of rfl⟩
      · have hpc : p c = false := by
          rw [hnc] at h4
          rw [hpg c, ← h4, hO]
          rfl
        refine AnyE.run tok hO (by kernel_rfl) (by cbv <;> rfl) (by trivial) ?_
        refine SW.cond (t := false) (by cbv <;> rfl) (SW.skip ?_)
        refine SW.run tok hO (by cbv <;> rfl) (by trivial) ?_
        refine ⟨L - (c + 1), by omega, _, c + 1, rfl, ⟨rfl, rfl, rfl, inc_ok hO (by omega), trivial⟩, rfl, fun j hj => ?_, by omega, rfl⟩
        rcases Nat.lt_succ_iff_lt_or_eq.1 hj with hj | rfl
        · exact hall j hj
        · exact hpc
    · have hge : L ≤ c := by subst hO; simpa [std] using h3
      refine SW.seqRun tok hO (by cbv <;> rfl) (by trivial) ?_
      exact SW.ret ⟨_, _, rfl, rfl, by rw [fstT_none fun j hj => hall j (by omega)]; exact Eqv.of rfl⟩
def hasS (S : List (Nat → Int)) (f : Nat → Int) : Bool := decide (∃ i, i < S.length ∧ eq6 f (S.getD i f0) = true)
theorem contains63_ok (S : List (Nat → Int)) (f : Nat → Int) (hn : S.length < 2000000) : Pure Try.prog 63 [lsV6 S, .agg (arrC f)] (.sb (hasS S f)) := by
  obtain ⟨O, hO⟩ : ∃ O : Ar, O = std := ⟨_, rfl⟩
  have e1 := index91_ok S f hn
  have hq : decide (0 ≤ fstT (fun i => eq6 f (S.getD i f0)) S.length) = hasS S f := fstT_any _ _
  rw [← hq]
  obtain ⟨r, hr⟩ : ∃ r, fstT (fun i => eq6 f (S.getD i f0)) S.length = r := ⟨_, rfl⟩
  rw [hr] at e1 ⊢
  unfold lsV6 at e1 ⊢
  refine pure_of_body tok 3 Try.func63 en63 rfl ⟨Below.isl fun i k _ _ => gS_below S i k, Below.agg (arrC_below f), trivial⟩ Below.sb ?_
  refine SW.seqRun tok hO (by cbv <;> rfl) (by trivial) ?_
  refine SW.seqRun tok hO (by cbv <;> rfl) (by trivial) ?_
  refine OpsW.callP e1 (by cbv <;> rfl) ?_
  refine OpsW.run tok hO (by cbv <;> rfl) (by trivial) ?_
  refine SW.ret ⟨_, _, rfl, rfl, Eqv.sb ?_⟩
  subst hO; rfl
end Go.Fz
set_option linter.unusedVariables false
namespace Go.Fz
open Go.Proofs
set_option maxRecDepth 100000
section
variable {P : Program} {T : Ti}
theorem cut_isl {φ : Fi} {n m sz : Nat} {ex : Bool} {g : Nat → Nat → AV} {v : Value} (h : VR φ (.isl n sz ex g) v) (hm : m ≤ n) : ∃ (a : Option Addr) (cap : Nat) (v' : Value), v = .slice a n cap ∧ v' = .slice a m cap ∧ VR φ (.isl m sz false g) v' := by
  rcases h.isl_inv with ⟨rfl, rfl⟩ | ⟨b, o, cap, c, us, rfl, hz, hcc, hus, hcap, _⟩
  · obtain rfl : m = 0 := by omega
    exact ⟨none, 0, _, rfl, rfl, .isl0 _ _ _⟩
  · exact ⟨_, cap, _, rfl, rfl, .isl m sz false g b o cap c us hz (fun i k hi hk => hcc i k (by omega) hk) (fun i k hi hk => hus i k (by omega) hk) (by omega) (fun h => by cases h)⟩
theorem OpsW.copyG (hT : TOk P T) {rd : Option Nat} {ops : Array Oper} {K : Fm → St → Prop} {f : Fm} {st : St} {j : Nat} {l : List Nat} {t id off len sz n : Nat} {ex ex' : Bool} {g : Nat → Nat → AV} {G : List AV}
    (ha : cpyAt ops j f = some (t, .sl id off len sz ex, .isl n sz ex' g)) (hb : sliceB T t sz = true) (hx : st.h.get id = some (.cells none false G)) (hl : off + len * sz ≤ G.length) (hone : (flatG sz g (Nat.min n len)).all AV.one = true)
    (h : OpsW P rd ops l K (putAt ops j f (.lit (goInt (Nat.min n len)))) ⟨st.h.set id (.cells none false (setsL G off (flatG sz g (Nat.min n len)))), st.n⟩) : OpsW P rd ops (j :: l) K f st := by
  obtain ⟨ti, tj, e, h1, h2, h3, h4, h5, h6, h7, h8⟩ := sliceB_ok hb
  unfold cpyAt at ha
  split at ha
  · cases ha
  · rename_i o ho
    split at ha
    · rename_i hw
      split at ha
      · rename_i c hop
        split at ha
        · rename_i d s t' t'' hc hargs htys
          simp only [Option.some.injEq, Prod.mk.injEq] at ha
          obtain ⟨rfl, hd, hs⟩ := ha
          have ha' : c.args = #[d, s] := by cases hq : c.args; simp_all
          have ht' : c.argTypes = #[t', t''] := by cases hq : c.argTypes; simp_all
          have hput : ∀ v, putAt ops j f v = f.put o.dst v := fun v => by simp [putAt, ho]
          rw [hput] at h
          have hmin : Nat.min n len ≤ n := Nat.min_le_left _ _
          have hmin2 : Nat.min n len ≤ len := Nat.min_le_right _ _
          refine OpsW.value ho hw (fun c hc => by rw [hop] at hc; cases hc) (fun φ w a k2 k3 => ?_) h
          have hdd := opR_of k3.ts d
          have hss := opR_of k3.ts s
          rw [hd] at hdd
          rw [hs] at hss
          obtain ⟨cap', hv', _, _, _, _⟩ := hdd.sl_inv
          obtain ⟨ad, cap, v', e1, e2, e3⟩ := cut_isl hss hmin
          obtain ⟨a3, cap3, us, e4, _, e5, e6, e7⟩ := slCells_ok (P := P) (st := st) (w := w) k2 (sz := sz) (cs := flatG sz g (Nat.min n len)) e3 (by
            show (if sz = sz ∧ sz ≠ 0 then some (flatG sz g (Nat.min n len)) else none) = _
            rw [if_pos ⟨rfl, h5⟩])
          have hfc := e7 _ rfl w (Same.refl _ _ _)
          have hlen : (flatG sz g (Nat.min n len)).length ≤ len * sz := by
            rw [flatG_length]; exact Nat.mul_le_mul_right _ hmin2
          obtain ⟨w', q1, q2, q3⟩ := sets_ok (P := P) (off := off) k2 hx e5 hone (Nat.le_trans (Nat.add_le_add_left hlen off) hl)
          refine ⟨φ, w', goInt (Nat.min n len), .inl ?_, .lit _, q2, Ext.refl _, q3⟩
          have hsl : slLen (AV.isl (Nat.min n len) sz false g) = Nat.min n len := rfl
          rw [hsl] at hfc
          have hfc2 : (Builtin.firstCells sz (Nat.min n len) (.slice ad n cap)).run P w = .ok us.toArray w := by
            rw [← hfc, e2]
            cases ad <;> rfl
          have hcp : (Builtin.copy_ #[t', t''] o.type #[a.eval d, a.eval s]).run P w = .ok (goInt (Nat.min n len)) w' := by
            rw [hv', e1]
            simp only [Builtin.copy_, List.getElem?_toArray, List.getElem?_cons_zero, List.getElem?_cons_succ, Sem.run_bind, run_und hT h1, h2, Result.andThen, Sem.run_pure, Builtin.lenOf, run_size hT h3, h4, hfc2, q1]
          simp [execOp, hop, resolve, hc, ha', ht', invoke, builtin, hcp, Result.andThen]
        · cases ha
      · cases ha
    · cases ha
theorem OpsW.copyE (hT : TOk P T) {rd : Option Nat} {ops : Array Oper} {K : Fm → St → Prop} {f : Fm} {st : St} {j : Nat} {l : List Nat} {t id off len sz n : Nat} {ex ex' : Bool} {g : Nat → Nat → AV} {G : List AV}
    (ha : cpyAt ops j f = some (t, .sl id off len sz ex, .isl n sz ex' g)) (hb : sliceB T t sz = true) (hx : st.h.get id = some (.cells none false G)) (hl : off + len * sz ≤ G.length) (hone : (flatG sz g (Nat.min n len)).all AV.one = true)
    (h : ∀ G', G' = setsL G off (flatG sz g (Nat.min n len)) → OpsW P rd ops l K (putAt ops j f (.lit (goInt (Nat.min n len)))) ⟨st.h.set id (.cells none false G'), st.n⟩) : OpsW P rd ops (j :: l) K f st :=
  OpsW.copyG hT ha hb hx hl hone (h _ rfl)
end
end Go.Fz
set_option linter.unusedVariables false
namespace Go.Fz
open Go.Proofs
set_option maxRecDepth 100000
def keyF (n : Nat) (fl : Nat → Int) : Nat → Int := fun j => if j < Nat.min n 6 then fl j else 0
theorem key_sets (n : Nat) (fl : Nat → Int) : setsL [iV 0, iV 0, iV 0, iV 0, iV 0, iV 0] 0 (flatG 1 (intC fl) (Nat.min n 6)) = arrC (keyF n fl) := by
  unfold arrC keyF
  have h : Nat.min n 6 ≤ 6 := Nat.min_le_right _ _
  generalize Nat.min n 6 = m at h
  match m, h with
  | 0, _ => rfl
  | 1, _ => rfl
  | 2, _ => rfl
  | 3, _ => rfl
  | 4, _ => rfl
  | 5, _ => rfl
  | 6, _ => rfl
theorem flat_one (fl : Nat → Int) : ∀ m, (flatG 1 (intC fl) m).all AV.one = true
  | 0 => rfl
  | m + 1 => by
    show (flatG 1 (intC fl) m ++ [iV (fl m)]).all AV.one = true
    rw [List.all_append, flat_one fl m]
    rfl
def YardD.psB (y : YardD) (n : Nat) (fl : Nat → Int) : Bool := decide (y.ownE (decide (n = y.nb)) = 0) && hasS (y.ownL (decide (n = y.nb))) (keyF n fl)
set_option maxHeartbeats 8000000 in
theorem proveSch_ok (y : YardD) (hb : y.nb < 1000000) (hc : y.nc < 1000000) (n : Nat) (ex : Bool) (fl : Nat → Int) (hn : n < 1000) : Pure Try.prog 21 [yardV y, intsV n ex fl] (.sb (y.psB n fl)) := by
  obtain ⟨O, hO⟩ : ∃ O : Ar, O = std := ⟨_, rfl⟩
  have hB : O.cmp .eql (Int.ofNat n) (Int.ofNat y.nb) = decide (n = y.nb) := by
    rw [hO]
    show decide ((n : Int) = (y.nb : Int)) = decide (n = y.nb)
    exact decide_eq_decide.2 Int.ofNat_inj
  have hq : y.psB n fl = (decide (y.ownE (decide (n = y.nb)) = 0) && hasS (y.ownL (decide (n = y.nb))) (keyF n fl)) := rfl
  rw [← hB] at hq
  have hlen : ∀ B, y.ownE B = 0 → (y.ownL B).length < 2000000 := fun B h => by
    obtain ⟨k1, _, k3⟩ := YardD.own_some h
    rw [k1]
    have k4 := YardD.any_len k3
    have k5 : y.kept.length ≤ y.allS.length := List.length_filter_le _ _
    omega
  have e60 := own_ok y hb hc (O.cmp .eql (Int.ofNat n) (Int.ofNat y.nb))
  have e63 := fun h => contains63_ok (y.ownL (O.cmp .eql (Int.ofNat n) (Int.ofNat y.nb))) (keyF n fl) (hlen (O.cmp .eql (Int.ofNat n) (Int.ofNat y.nb)) h)
  have hkey := key_sets n fl
  generalize y.psB n fl = Q at hq ⊢
  clear hlen hB
  obtain ⟨KF, hKF⟩ : ∃ f, keyF n fl = f := ⟨_, rfl⟩
  rw [hKF] at hq e63 hkey
  obtain ⟨S, hS⟩ : ∃ S, y.ownL (O.cmp .eql (Int.ofNat n) (Int.ofNat y.nb)) = S := ⟨_, rfl⟩
  rw [hS] at hq e60 e63
  obtain ⟨E, hE⟩ : ∃ E, y.ownE (O.cmp .eql (Int.ofNat n) (Int.ofNat y.nb)) = E := ⟨_, rfl⟩
  rw [hE] at hq e60 e63
  obtain ⟨H, hH⟩ : ∃ H, hasS S KF = H := ⟨_, rfl⟩
  rw [hH] at hq e63
  unfold lsV6 at e60 e63
  refine pure_of_body tok 3 Try.func21 en21 rfl ⟨yardV_below y, intsV_below _ _ _, trivial⟩ Below.sb ?_
  refine SW.seqRun tok hO (by cbv <;> rfl) (by trivial) ?_
  refine SW.seqRun tok hO (by cbv <;> rfl) (by trivial) ?_
  refine OpsW.callP e60 (by cbv <;> rfl) ?_
  refine OpsW.run tok hO (by cbv <;> rfl) (by trivial) ?_
  refine SW.seqRun tok hO (by cbv <;> rfl) (by trivial) ?_
  refine SW.seqRun tok hO (by cbv <;> rfl) (by trivial) ?_
  refine OpsW.wholeArr (n := 6) (sz := 1) tok (by rfl) (by kernel_rfl) (by rfl) (by simp) ?_
  refine OpsW.run tok hO (by cbv <;> rfl) (by trivial) ?_
  refine OpsW.copyE tok (by rfl) (by kernel_rfl) (by rfl) (by simp) (flat_one fl _) fun G' hG' => ?_
  have hG := hG'.trans hkey
  subst hG
  refine OpsW.run tok hO (by cbv <;> rfl) (by trivial) ?_
  refine SW.seqRun tok hO (by cbv <;> rfl) (by trivial) ?_
  refine OpsW.splitG (by cbv <;> rfl) (fun h => ?_) (fun h => ?_)
  · have hz : E = 0 := by subst hO; simpa [std] using h
    have e63 := e63 hz
    refine OpsW.run tok hO (by cbv <;> rfl) (by trivial) ?_
    refine OpsW.callP e63 (by cbv <;> rfl) ?_
    refine OpsW.run tok hO (by cbv <;> rfl) (by trivial) ?_
    refine SW.ret ⟨_, _, rfl, rfl, Eqv.sb ?_⟩
    rw [hq, decide_eq_true hz]
    rfl
  · have hz : ¬ E = 0 := by subst hO; simpa [std] using h
    refine OpsW.run tok hO (by cbv <;> rfl) (by trivial) ?_
    refine SW.ret ⟨_, _, rfl, rfl, Eqv.bool ?_⟩
    rw [hq, decide_eq_false hz]
    rfl
end Go.Fz
set_option linter.unusedVariables false
namespace Go.Fz
open Go.Proofs
set_option maxRecDepth 100000
end Go.Fz
set_option linter.unusedVariables false
namespace Go.Fz
open Go.Proofs
set_option maxRecDepth 100000
end Go.Fz
set_option linter.unusedVariables false
namespace Go.Fz
open Go.Proofs
set_option maxRecDepth 100000
theorem add1I {O : Ar} (hO : O = std) {i : Int} (h0 : 0 ≤ i) (h : i < 1000) : O.bin .add .i64 i 1 = i + 1 := by
  subst hO
  show add64 i 1 = _
  exact add64_in _ _ (by omega) (by omega)
theorem add1Z {O : Ar} (hO : O = std) {i : Int} (h0 : 0 ≤ i) (h : i ≤ 9) : O.bin .add .i64 i 1 ≠ 0 := by
  rw [add1I hO h0 (by omega)]
  omega
end Go.Fz
set_option linter.unusedVariables false
namespace Go.Fz
open Go.Proofs
set_option maxRecDepth 100000
end Go.Fz
set_option linter.unusedVariables false
namespace Go.Fz
open Go.Proofs
set_option maxRecDepth 100000
theorem bedC_one (d : YardD) (i k : Nat) : (bedC d i k).one = true := by unfold bedC; split <;> rfl
end Go.Fz
set_option linter.unusedVariables false
namespace Go.Fz
open Go.Proofs
set_option maxRecDepth 100000
theorem own_range {y : YardD} (hc : y.check = 0) : (y.ownE true = 0 ∧ y.kept ≠ []) ∨ y.ownE true = 9 ∨ y.ownE true = 10 := by
  by_cases hs : y.allS = []
  · refine .inr (.inr ?_)
    unfold YardD.ownE
    rw [if_pos (by rw [(any_sees hc).1 hs]; decide), (any_sees hc).1 hs]
  · by_cases hk : y.kept = []
    · refine .inr (.inl ?_)
      unfold YardD.ownE
      rw [if_neg (by simp [(any_sees hc).2 hs]), if_pos hk]
    · exact .inl ⟨own_sees hc hk, hk⟩
end Go.Fz
set_option linter.unusedVariables false
namespace Go.Fz
open Go.Proofs
set_option maxRecDepth 100000
theorem size_in {lo hi : Int} (h : 0 ≤ lo ∧ lo ≤ hi ∧ hi ≤ 9) : size64 lo hi = hi - lo + 1 := by
  unfold size64
  rw [sub64_in _ _ (by omega) (by omega), add64_in _ _ (by omega) (by omega)]
theorem prN_le {lo hi lo' hi' : Nat → Int} {n : Nat} (hn : n ≤ 6) (hr : ∀ i, i < n → 0 ≤ lo i ∧ lo i ≤ hi i ∧ hi i ≤ 9) (hr' : ∀ i, i < n → 0 ≤ lo' i ∧ lo' i ≤ hi' i ∧ hi' i ≤ 9) (hle : ∀ i, i < n → hi' i - lo' i ≤ hi i - lo i) : ∀ i, i ≤ n → 1 ≤ prN lo' hi' i ∧ prN lo' hi' i ≤ prN lo hi i ∧ prN lo hi i ≤ 10 ^ i
  | 0, _ => ⟨Int.le_refl _, Int.le_refl _, Int.le_refl _⟩
  | i + 1, hi' => by
    obtain ⟨a1, a2, a3⟩ := prN_le hn hr hr' hle i (by omega)
    have hp : (10 : Int) ^ i ≤ 1000000 ∧ 1 ≤ (10 : Int) ^ i := ten_pow ⟨i, by omega⟩
    have r1 := hr i (by omega)
    have r2 := hr' i (by omega)
    have r3 := hle i (by omega)
    have e1 : prN lo hi (i + 1) = mul64 (prN lo hi i) (size64 (lo i) (hi i)) := rfl
    have e2 : ∀ a b : Nat → Int, prN a b (i + 1) = mul64 (prN a b i) (size64 (a i) (b i)) := fun _ _ => rfl
    rw [e2, e2, size_in r1, size_in r2]
    rename_i hi2
    obtain ⟨s, hs⟩ : ∃ s, hi i - lo i + 1 = s := ⟨_, rfl⟩
    obtain ⟨s', hs'⟩ : ∃ s', hi2 i - lo' i + 1 = s' := ⟨_, rfl⟩
    rw [hs, hs']
    obtain ⟨p, hpp⟩ : ∃ p, prN lo hi i = p := ⟨_, rfl⟩
    obtain ⟨p', hpp'⟩ : ∃ p', prN lo' hi2 i = p' := ⟨_, rfl⟩
    rw [hpp] at a2 a3
    rw [hpp'] at a1 a2
    rw [hpp, hpp']
    have hs1 : 1 ≤ s ∧ s ≤ 10 := by omega
    have hs2 : 1 ≤ s' ∧ s' ≤ s := by omega
    have b1 : p' * s' ≤ p * s := Int.mul_le_mul a2 hs2.2 (by omega) (by omega)
    have b2 : p * s ≤ 10 ^ i * 10 := Int.mul_le_mul a3 hs1.2 (by omega) (by omega)
    have b3 : 1 * 1 ≤ p' * s' := Int.mul_le_mul a1 hs2.1 (by omega) (by omega)
    have b4 : (10 : Int) ^ i * 10 ≤ 10000000 := by omega
    rw [mul64_in _ _ (by omega) (by omega), mul64_in _ _ (by omega) (by omega), Int.pow_succ]
    exact ⟨by omega, b1, b2⟩
def YardD.setB (y : YardD) (K : Nat) (w : Int) : YardD := { y with blo := fun i => if i = K then w else y.blo i, bhi := fun i => if i = K then w else y.bhi i }
theorem setB_allS {y : YardD} {K : Nat} {w : Int} (hK : K < y.nb) (hw : y.blo K ≤ w ∧ w ≤ y.bhi K) {f : Nat → Int} : f ∈ (y.setB K w).allS ↔ f ∈ y.allS ∧ f K = w := by
  rw [mem_allS, mem_allS]
  constructor
  · rintro ⟨h1, h2⟩
    have hr := h2.rng K (List.mem_range.2 hK)
    have e1 : (y.setB K w).blo K = w := if_pos rfl
    have e2 : (y.setB K w).bhi K = w := if_pos rfl
    rw [e1, e2] at hr
    have hf : f K = w := by omega
    refine ⟨⟨h1, ⟨fun b hb => ?_, h2.fin, h2.few, h2.apt⟩⟩, hf⟩
    by_cases e : b = K
    · rw [e, hf]; exact hw
    · have := h2.rng b hb
      have e3 : (y.setB K w).blo b = y.blo b := if_neg e
      have e4 : (y.setB K w).bhi b = y.bhi b := if_neg e
      rw [e3, e4] at this
      exact this
  · rintro ⟨⟨h1, h2⟩, hf⟩
    refine ⟨h1, ⟨fun b hb => ?_, h2.fin, h2.few, h2.apt⟩⟩
    by_cases e : b = K
    · subst e
      have e1 : (y.setB b w).blo b = w := if_pos rfl
      have e2 : (y.setB b w).bhi b = w := if_pos rfl
      rw [e1, e2, hf]
      exact ⟨Int.le_refl _, Int.le_refl _⟩
    · have e3 : (y.setB K w).blo b = y.blo b := if_neg e
      have e4 : (y.setB K w).bhi b = y.bhi b := if_neg e
      rw [e3, e4]
      exact h2.rng b hb
theorem setB_kept {y : YardD} {K : Nat} {w : Int} (hK : K < y.nb) (hw : y.blo K ≤ w ∧ w ≤ y.bhi K) {f : Nat → Int} : f ∈ (y.setB K w).kept ↔ f ∈ y.kept ∧ f K = w := by
  rw [mem_kept, mem_kept, setB_allS hK hw]
  constructor
  · rintro ⟨⟨h1, h2⟩, h3⟩; exact ⟨⟨h1, h3⟩, h2⟩
  · rintro ⟨⟨h1, h3⟩, h2⟩; exact ⟨⟨h1, h2⟩, h3⟩
theorem setB_check {y : YardD} (hc : y.check = 0) {K : Nat} {w : Int} (hK : K < y.nb) (hw : y.blo K ≤ w ∧ w ≤ y.bhi K) : (y.setB K w).check = 0 := by
  have hfit := (y.fit_of_check hc).1
  unfold YardD.check at hc
  split at hc
  · omega
  · rename_i a1
    split at hc
    · rename_i a2
      split at hc
      · omega
      · rename_i a3
        have k1 : (y.setB K w).long = false := by
          have : y.long = false := by simpa using a1
          exact this
        simp only [YardD.validB, Bool.and_eq_true] at a2
        obtain ⟨⟨⟨b1, b2⟩, b3⟩, b4⟩ := a2
        have hbed : ∀ i, i < y.nb → (y.setB K w).bedOk i = true := fun i hi => by
          have h := of_decide_eq_true b3 i hi
          by_cases e : i = K
          · subst e
            simp only [YardD.bedOk, withinB, Bool.and_eq_true, decide_eq_true_eq] at h
            show (inB (y.lng i) 1 3 && withinB (if i = i then w else y.blo i) (if i = i then w else y.bhi i) 0 y.last) = true
            rw [if_pos rfl, if_pos rfl, h.1]
            unfold withinB
            rw [decide_eq_true (by omega : (0 : Int) ≤ w), decide_eq_true (Int.le_refl w), decide_eq_true (by omega : w ≤ y.last)]
            rfl
          · show (inB (y.lng i) 1 3 && withinB (if i = K then w else y.blo i) (if i = K then w else y.bhi i) 0 y.last) = true
            rw [if_neg e, if_neg e]
            exact h
        have k2 : (y.setB K w).validB = true := by
          show (decide (0 ≤ y.last) && decide (1 ≤ y.hands) && allN y.nb (y.setB K w).bedOk && allN y.nc y.clmOk) = true
          rw [b1, b2, b4, show allN y.nb (y.setB K w).bedOk = true from decide_eq_true hbed]; rfl
        have hr : ∀ i, i < y.nb → 0 ≤ y.blo i ∧ y.blo i ≤ y.bhi i ∧ y.bhi i ≤ 9 := fun i hi => hfit.beg i hi
        have hp := (prN_le (lo := y.blo) (hi := y.bhi) (lo' := (y.setB K w).blo) (hi' := (y.setB K w).bhi) hfit.nb hr (fun i hi => by
          have := hr i hi
          show 0 ≤ (if i = K then w else y.blo i) ∧ (if i = K then w else y.blo i) ≤ (if i = K then w else y.bhi i) ∧ (if i = K then w else y.bhi i) ≤ 9
          split
          · rename_i e; subst e; omega
          · exact this) (fun i hi => by
          have := hr i hi
          show (if i = K then w else y.bhi i) - (if i = K then w else y.blo i) ≤ y.bhi i - y.blo i
          split
          · omega
          · exact Int.le_refl _) y.nb (Nat.le_refl _)).2.1
        unfold YardD.check
        rw [k1, k2, if_neg (by simp), if_pos rfl]
        refine if_neg fun h => a3 ?_
        have h : 2000 < prN (y.setB K w).blo (y.setB K w).bhi y.nb := h
        omega
    · omega
theorem eq6_refl (f : Nat → Int) : eq6 f f = true := by
  unfold eq6
  simp
theorem key_self {n : Nat} (hn : n ≤ 6) {f : Nat → Int} (hf : ∀ b, b ∉ List.range n → f b = 0) {S : List (Nat → Int)} (hS : f ∈ S) : hasS S (keyF n f) = true := by
  obtain ⟨i, hi, e⟩ := List.getElem_of_mem hS
  refine decide_eq_true ⟨i, hi, ?_⟩
  have hg : S.getD i f0 = f := by rw [List.getD_eq_getElem?_getD, List.getElem?_eq_getElem hi]; exact e
  rw [hg]
  have hk : ∀ j, keyF n f j = f j := fun j => by
    unfold keyF
    have : Nat.min n 6 = n := Nat.min_eq_left hn
    rw [this]
    split
    · rfl
    · rename_i h
      exact (hf j fun hm => h (List.mem_range.1 hm)).symm
  rw [show keyF n f = f from funext hk]
  exact eq6_refl f
theorem first_mem {y : YardD} (h : y.ownE true = 0) : y.firstS true ∈ y.kept := by
  unfold YardD.firstS
  obtain ⟨h1, h2, _⟩ := YardD.own_some h
  rw [h1]
  have hp := List.length_pos_iff.2 h2
  rw [List.getD_eq_getElem?_getD, List.getElem?_eq_getElem hp]
  exact List.getElem_mem hp
end Go.Fz
set_option linter.unusedVariables false
namespace Go.Fz
open Go.Proofs
set_option maxRecDepth 100000
theorem setB_cell (y : YardD) {k : Nat} (hk : k < y.nb) (w : Int) {G : List AV} (hG : G = setsL (flatG 3 (bedC y) y.nb) (k * 3 + 1) [iV w, iV w]) {i c : Nat} (hi : i < y.nb) (hc : c < 3) : G.getD (0 + i * 3 + c) .any = bedC (y.setB k w) i c := by
  have hl : (flatG 3 (bedC y) y.nb).length = y.nb * 3 := flatG_length _ _ _
  rw [List.getD_eq_getElem?_getD, hG, setsL_get _ _ _ _ (by rw [hl]; show k * 3 + 1 + 2 ≤ _; omega)]
  have e0 : 0 + i * 3 + c = i * 3 + c := by omega
  rw [e0, flatG_get 3 (bedC y) y.nb i c hi hc]
  have hlen : [iV w, iV w].length = 2 := rfl
  rw [hlen]
  by_cases e : i = k
  · subst e
    match c, hc with
    | 0, _ =>
      rw [if_neg (by omega)]; rfl
    | 1, _ =>
      rw [if_pos (by omega), show i * 3 + 1 - (i * 3 + 1) = 0 by omega]
      show iV w = iV (if i = i then w else y.blo i)
      rw [if_pos rfl]
    | 2, _ =>
      rw [if_pos (by omega), show i * 3 + 2 - (i * 3 + 1) = 1 by omega]
      show iV w = iV (if i = i then w else y.bhi i)
      rw [if_pos rfl]
  · rw [if_neg (by omega)]
    match c, hc with
    | 0, _ => rfl
    | 1, _ =>
      show iV (y.blo i) = iV (if i = k then w else y.blo i)
      rw [if_neg e]
    | 2, _ =>
      show iV (y.bhi i) = iV (if i = k then w else y.bhi i)
      rw [if_neg e]
def eaX (y : YardD) (hC : Nat → Nat → AV) : List AV := [iV y.last, iV y.hands, .isl y.nb 3 false hC, clmsV y]
def eaT (y : YardD) (hC : Nat → Nat → AV) : St := ⟨[(2, .cells none false []), (1, .cells none false (eaX y hC)), (0, .cells none false (yardC y))], 4⟩
def eaD (j : Nat) : Bool := Nat.beq j 3
set_option maxHeartbeats 8000000 in
theorem ea_mid (y : YardD) (hnb : y.nb ≤ 6) (k : Nat) (hk : k < y.nb) (w : Int) (na : Nat) (fa : Nat → Int) (E : Int)
    (htail : ∀ (hC : Nat → Nat → AV), Eqv (.isl y.nb 3 false hC) (bedsV (y.setB k w)) → ∀ (gg : Nat → AV), AllP (fun p => gg p.1 = p.2) [(3, .ptr 0 0), (7, iV (Int.ofNat k)), (8, iV w), (9, intsV na false fa), (10, iV E), (11, .ptr 1 0)] →
      SW Try.prog none (restC 9 (bodyF Try.f8)) (trueQ3 Try.f8) ⟨⟨146, gg⟩, []⟩ (eaT y hC))
    (gg : Nat → AV) (h : AllP (fun p => gg p.1 = p.2) [(3, .ptr 0 0), (7, iV (Int.ofNat k)), (8, iV w), (9, intsV na false fa), (10, iV E)]) :
    SW Try.prog none (restC 6 (bodyF Try.f8)) (trueQ3 Try.f8) ⟨⟨146, gg⟩, []⟩ ⟨[(0, .cells none false (yardC y))], 1⟩ := by
  obtain ⟨O, hO⟩ : ∃ O : Ar, O = std := ⟨_, rfl⟩
  obtain ⟨g1, g2, g3, g4, g5, _⟩ := h
  simp only at g1 g2 g3 g4 g5
  rw [← updT_self g1, ← updT_self g2, ← updT_self g3, ← updT_self g4, ← updT_self g5]
  obtain ⟨GC, hGC⟩ : ∃ G, G = flatG 3 (bedC y) y.nb := ⟨_, rfl⟩
  refine (show SW Try.prog none (.seq (.region _ _ _) _) _ _ _ from ?_)
  refine SW.seqRun tok hO (by cbv <;> rfl) (by trivial) ?_
  refine SW.seq (SW.runN tok hO 3 (by cbv <;> rfl) (by trivial) ?_)
  refine OpsW.appA tok (by cbv <;> rfl) (append_emptyG (by kernel_rfl) (by rfl) (by omega) (by omega) (fun i k => bedC_one y i k) hGC) ?_
  refine OpsW.run tok hO (by cbv <;> rfl) (by trivial) ?_
  refine SW.seq (SW.runN tok hO 6 (by cbv <;> rfl) (by trivial) ?_)
  refine OpsW.idxSl tok (by cbv <;> rfl) (by kernel_rfl) hk fun q hq => ?_
  refine OpsW.runN tok hO 1 (by cbv <;> rfl) (by trivial) ?_
  refine OpsW.stoG (n := 2) (cs := [iV w, iV w]) tok (by cbv <;> rfl) (by kernel_rfl) (by rfl) (by rfl) (by omega) (by rfl) (by rfl) (by rfl) (by rw [hq, hGC, flatG_length]; omega) fun G' hG' => ?_
  have hGe : G' = setsL (flatG 3 (bedC y) y.nb) (k * 3 + 1) [iV w, iV w] := by
    rw [hG', hGC, hq, Nat.zero_add]
  have hlX : y.nb * 3 ≤ G'.length := by rw [hG', setsL_length, hGC, flatG_length]; exact Nat.le_refl _
  clear hG' hGC hq
  refine OpsW.run tok hO (by cbv <;> rfl) (by trivial) ?_
  refine SW.freezeZ eaD 3 (by rfl) ?_
  obtain ⟨H, hH⟩ : ∃ H : Hp, H = [(3, .cells none false G'), (2, .cells none false []), (1, .cells none false [iV y.last, iV y.hands, .sl 3 0 y.nb 3 false, clmsV y]), (0, .cells none false (yardC y))] := ⟨_, rfl⟩
  have hH3 : H.get 3 = some (.cells none false G') := by rw [hH]; rfl
  have hX := frz_slE (D := eaD) (n := y.nb) (sz := 3) (fm := none) (G := G') (h := H) rfl hH3 hlX
  have hCe : Eqv (.isl y.nb 3 false (fun i c => frz H eaD 2 (G'.getD (0 + i * 3 + c) .any))) (bedsV (y.setB k w)) := Eqv.isl rfl fun i c hi hc => Eqv.of (by
    rw [setB_cell y hk w hGe hi hc]
    unfold bedC
    split <;> rfl)
  show SW _ _ _ _ ⟨⟨146, fun i => frz [(3, .cells none false G'), (2, .cells none false []), (1, .cells none false [iV y.last, iV y.hands, .sl 3 0 y.nb 3 false, clmsV y]), (0, .cells none false (yardC y))] eaD 3 (_ : AV)⟩, []⟩ ⟨[(2, .cells none false []), (1, .cells none false [iV y.last, iV y.hands, frz [(3, .cells none false G'), (2, .cells none false []), (1, .cells none false [iV y.last, iV y.hands, .sl 3 0 y.nb 3 false, clmsV y]), (0, .cells none false (yardC y))] eaD 3 (.sl 3 0 y.nb 3 false), clmsV y]), (0, .cells none false (yardC y))], 4⟩
  rw [← hH, hX]
  exact htail _ hCe _ ⟨rfl, rfl, rfl, rfl, rfl, rfl, trivial⟩
end Go.Fz
set_option linter.unusedVariables false
namespace Go.Fz
open Go.Proofs
set_option maxRecDepth 100000
set_option maxHeartbeats 8000000 in
theorem ea_not (haw : Pure Try.prog 18 [] (.lit (.bool true))) (y : YardD) (b w : Int) (rd : Bool) (e45 : Pure Try.prog 45 [yardV y] (.sb rd)) (hno : rd = false ∨ y.nb = 0) : Pure Try.prog 8 [yardV y, .lit (.int .u8 b), .lit (.int .u8 w)] (.lit (.bool true)) := by
  obtain ⟨O, hO⟩ : ∃ O : Ar, O = std := ⟨_, rfl⟩
  refine pure_of_body tok 3 Try.func8 en8 rfl ⟨yardV_below y, Below.lit, Below.lit, trivial⟩ Below.lit ?_
  refine SW.seqRun tok hO (by cbv <;> rfl) (by trivial) ?_
  refine SW.seq ?_
  refine SW.seqRun tok hO (by cbv <;> rfl) (by trivial) ?_
  refine OpsW.callP e45 (by cbv <;> rfl) ?_
  refine OpsW.run tok hO (by cbv <;> rfl) (by trivial) ?_
  refine OpsW.splitG (by cbv <;> rfl) (fun h1 => ?_) (fun h1 => ?_)
  · refine OpsW.run tok hO (by cbv <;> rfl) (by trivial) ?_
    refine SW.cond (t := true) (by cbv <;> rfl) ?_
    refine SW.seqRun tok hO (by cbv <;> rfl) (by trivial) ?_
    refine OpsW.callP haw (by cbv <;> rfl) ?_
    refine OpsW.run tok hO (by cbv <;> rfl) (by trivial) ?_
    exact SW.ret ⟨_, _, rfl, rfl, Eqv.of rfl⟩
  have hrd : rd = true := by
    subst hO
    cases rd with
    | true => rfl
    | false => cases h1
  refine OpsW.run tok hO (by cbv <;> rfl) (by trivial) ?_
  refine SW.condS (by cbv <;> rfl) (fun h3 => ?_) (fun h3 => ?_)
  · refine SW.seqRun tok hO (by cbv <;> rfl) (by trivial) ?_
    refine OpsW.callP haw (by cbv <;> rfl) ?_
    refine OpsW.run tok hO (by cbv <;> rfl) (by trivial) ?_
    exact SW.ret ⟨_, _, rfl, rfl, Eqv.of rfl⟩
  · exfalso
    have h4 : ¬ (Int.ofNat y.nb = 0) := by subst hO; simpa [std] using h3
    rcases hno with h | h
    · rw [hrd] at h; cases h
    · exact h4 (by rw [h]; rfl)
set_option maxHeartbeats 8000000 in
theorem ea_pre (y : YardD) (b v : Int) (hz : 0 < y.nb) (h9 : 0 ≤ y.last ∧ y.last ≤ 9) (e45 : Pure Try.prog 45 [yardV y] (.sb true))
    (htail : ∀ (gg : Nat → AV), AllP (fun p => gg p.1 = p.2) [(3, .ptr 0 0), (7, iV (std.bin .rem .i64 (std.conv .i64 b) (Int.ofNat y.nb))), (8, iV (std.bin .rem .i64 (std.conv .i64 v) (std.bin .add .i64 y.last 1)))] → SW Try.prog none (restC 3 (bodyF Try.f8)) (trueQ3 Try.f8) ⟨⟨146, gg⟩, []⟩ ⟨[(0, .cells none false (yardC y))], 1⟩) :
    Pure Try.prog 8 [yardV y, .lit (.int .u8 b), .lit (.int .u8 v)] (.lit (.bool true)) := by
  obtain ⟨O, hO⟩ : ∃ O : Ar, O = std := ⟨_, rfl⟩
  rw [← hO] at htail
  have hnz : Int.ofNat y.nb ≠ 0 := by
    show (y.nb : Int) ≠ 0
    omega
  have hlz : O.bin .add .i64 y.last 1 ≠ 0 := add1Z hO h9.1 h9.2
  refine pure_of_body tok 3 Try.func8 en8 rfl ⟨yardV_below y, Below.lit, Below.lit, trivial⟩ Below.lit ?_
  refine SW.seqRun tok hO (by cbv <;> rfl) (by trivial) ?_
  refine SW.seq ?_
  refine SW.seqRun tok hO (by cbv <;> rfl) (by trivial) ?_
  refine OpsW.callP e45 (by cbv <;> rfl) ?_
  refine OpsW.run tok hO (by cbv <;> rfl) (by trivial) ?_
  refine OpsW.splitG (by cbv <;> rfl) (fun h => nomatch (show false = true from (by rw [hO] at h; exact h))) (fun h1 => ?_)
  refine OpsW.run tok hO (by cbv <;> rfl) (by trivial) ?_
  refine SW.condS (by cbv <;> rfl) (fun h3 => absurd (show Int.ofNat y.nb = 0 by subst hO; simpa [std] using h3) hnz) (fun h3 => SW.skip ?_)
  refine SW.seqRunD tok mixed hO (by kernel_rfl) (by cbv <;> rfl) (by first | exact ⟨hlz, hnz⟩ | exact ⟨hnz, hlz⟩) ?_
  exact htail _ ⟨rfl, rfl, rfl, trivial⟩
set_option maxHeartbeats 8000000 in
theorem ea_wk (haw : Pure Try.prog 18 [] (.lit (.bool true))) (y : YardD) (k : Nat) (hk : k < y.nb) (w : Int) (na : Nat) (fa : Nat → Int) (E : Int) (hE : E = 0 ∨ E = 9 ∨ E = 10) (e20 : Pure Try.prog 20 [yardV y] (yardV y)) (e27 : Pure Try.prog 27 [yardV y, iV (Int.ofNat k)] (.tup [intsV na false fa, iV E]))
    (hout : inB w (y.blo k) (y.bhi k) = false → Pure Try.prog 50 [intsV na false fa, iV w] (.sb false))
    (htail : inB w (y.blo k) (y.bhi k) = true → ∀ (gg : Nat → AV), AllP (fun p => gg p.1 = p.2) [(3, .ptr 0 0), (7, iV (Int.ofNat k)), (8, iV w), (9, intsV na false fa), (10, iV E)] → SW Try.prog none (restC 6 (bodyF Try.f8)) (trueQ3 Try.f8) ⟨⟨146, gg⟩, []⟩ ⟨[(0, .cells none false (yardC y))], 1⟩)
    (gg : Nat → AV) (h : AllP (fun p => gg p.1 = p.2) [(3, .ptr 0 0), (7, iV (Int.ofNat k)), (8, iV w)]) :
    SW Try.prog none (restC 3 (bodyF Try.f8)) (trueQ3 Try.f8) ⟨⟨146, gg⟩, []⟩ ⟨[(0, .cells none false (yardC y))], 1⟩ := by
  obtain ⟨O, hO⟩ : ∃ O : Ar, O = std := ⟨_, rfl⟩
  have hnk : O.nat (Int.ofNat k) = k := by subst hO; rfl
  obtain ⟨g1, g2, g3, _⟩ := h
  simp only at g1 g2 g3
  rw [← updT_self g1, ← updT_self g2, ← updT_self g3]
  have k0 : (0 : Int) ≤ Int.ofNat k := Int.natCast_nonneg k
  have kN : Int.ofNat k < Int.ofNat y.nb := Int.ofNat_lt.2 hk
  refine (show SW Try.prog none (.seq (.region _ _ _) _) _ _ _ from ?_)
  refine SW.seqRun tok hO (by cbv <;> rfl) (by trivial) ?_
  refine OpsW.callP e20 (by cbv <;> rfl) ?_
  refine OpsW.run tok hO (by cbv <;> rfl) (by trivial) ?_
  refine OpsW.callP e27 (by cbv <;> rfl) ?_
  refine OpsW.run tok hO (by cbv <;> rfl) (by trivial) ?_
  refine SW.seq ?_
  refine SW.seqRun tok hO (by cbv <;> rfl) (by trivial) ?_
  have main : ∀ (gg : Nat → AV), AllP (fun p => gg p.1 = p.2) [(3, .ptr 0 0), (7, iV (Int.ofNat k)), (8, iV w), (9, intsV na false fa), (10, iV E)] → SW Try.prog none (restC 5 (bodyF Try.f8)) (trueQ3 Try.f8) ⟨⟨146, gg⟩, []⟩ ⟨[(0, .cells none false (yardC y))], 1⟩ := fun gg h => by
    obtain ⟨g1, g2, g3, g4, g5, _⟩ := h
    simp only at g1 g2 g3 g4 g5
    rw [← updT_self g1, ← updT_self g2, ← updT_self g3, ← updT_self g4, ← updT_self g5]
    refine (show SW Try.prog none (.seq (.seq (.region _ _ _) _) _) _ _ _ from ?_)
    refine SW.seq ?_
    refine SW.seqRunD tok mixed hO (by kernel_rfl) (by cbv <;> rfl) (by first | exact ⟨⟨k0, kN⟩, k0, kN⟩ | exact ⟨k0, kN⟩) ?_
    refine AnyE.callD (in_ok w (y.blo (O.nat (Int.ofNat k))) (y.bhi (O.nat (Int.ofNat k)))) (by cbv <;> rfl) (by cbv <;> rfl) (fun h3 => ?_) (fun h3 => ?_)
    · rw [hnk] at h3
      refine AnyE.run tok hO (by kernel_rfl) (by cbv <;> rfl) (by trivial) ?_
      refine SW.cond (t := false) (by cbv <;> rfl) (SW.skip ?_)
      exact htail h3 _ ⟨rfl, rfl, rfl, rfl, rfl, trivial⟩
    · rw [hnk] at h3
      have e50 := hout h3
      refine AnyE.run tok hO (by kernel_rfl) (by cbv <;> rfl) (by trivial) ?_
      refine SW.cond (t := true) (by cbv <;> rfl) ?_
      refine SW.seqRun tok hO (by cbv <;> rfl) (by trivial) ?_
      refine OpsW.callP e50 (by cbv <;> rfl) ?_
      refine OpsW.run tok hO (by cbv <;> rfl) (by trivial) ?_
      refine OpsW.splitG (by cbv <;> rfl) (fun h => ?_) (fun h => nomatch (show true = false from (by rw [hO] at h; exact h)))
      refine OpsW.run tok hO (by cbv <;> rfl) (by trivial) ?_
      refine OpsW.callP haw (by cbv <;> rfl) ?_
      refine OpsW.run tok hO (by cbv <;> rfl) (by trivial) ?_
      exact SW.ret ⟨_, _, rfl, rfl, Eqv.of rfl⟩
  rcases hE with hE | hE | hE
  · skip
    refine OpsW.splitG (by cbv <;> rfl) (fun h => by subst hO; simp [std, hE] at h) (fun h => ?_)
    refine OpsW.run tok hO (by cbv <;> rfl) (by trivial) ?_
    refine SW.cond (t := false) (by cbv <;> rfl) (SW.skip ?_)
    exact main _ ⟨rfl, rfl, rfl, rfl, rfl, trivial⟩
  · skip
    refine OpsW.splitG (by cbv <;> rfl) (fun h => ?_) (fun h => by subst hO; simp [std, hE] at h)
    refine OpsW.run tok hO (by cbv <;> rfl) (by trivial) ?_
    refine OpsW.splitG (by cbv <;> rfl) (fun h => ?_) (fun h => by subst hO; simp [std, hE] at h)
    refine OpsW.run tok hO (by cbv <;> rfl) (by trivial) ?_
    refine SW.condS (by cbv <;> rfl) (fun h => by subst hO; simp [std, hE] at h) (fun h => SW.skip ?_)
    exact main _ ⟨rfl, rfl, rfl, rfl, rfl, trivial⟩
  · skip
    refine OpsW.splitG (by cbv <;> rfl) (fun h => ?_) (fun h => by subst hO; simp [std, hE] at h)
    refine OpsW.run tok hO (by cbv <;> rfl) (by trivial) ?_
    refine OpsW.splitG (by cbv <;> rfl) (fun h => by subst hO; simp [std, hE] at h) (fun h => ?_)
    refine OpsW.run tok hO (by cbv <;> rfl) (by trivial) ?_
    refine SW.cond (t := false) (by cbv <;> rfl) (SW.skip ?_)
    exact main _ ⟨rfl, rfl, rfl, rfl, rfl, trivial⟩
set_option maxHeartbeats 8000000 in
theorem ea_tail (haw : Pure Try.prog 18 [] (.lit (.bool true))) (y : YardD) (k : Nat) (hk : k < y.nb) (w : Int) (na : Nat) (fa : Nat → Int) (E F : Int) (nf : Nat) (ff : Nat → Int) (hC : Nat → Nat → AV) (e20 : Pure Try.prog 20 [yardV y] (yardV y)) (XV : AV) (x20 : Pure Try.prog 20 [.agg (eaX y hC)] XV) (x19 : Pure Try.prog 19 [XV] (.tup [intsV nf false ff, iV F]))
    (hF : ((F = 9 ∨ F = 10) ∧ Pure Try.prog 50 [intsV na false fa, iV w] (.sb false)) ∨ (F = 0 ∧ E = 0 ∧ nf = y.nb ∧ ff k = w ∧ Pure Try.prog 50 [intsV na false fa, iV w] (.sb true) ∧ Pure Try.prog 21 [yardV y, intsV nf false ff] (.sb true)))
    (gg : Nat → AV) (h : AllP (fun p => gg p.1 = p.2) [(3, .ptr 0 0), (7, iV (Int.ofNat k)), (8, iV w), (9, intsV na false fa), (10, iV E), (11, .ptr 1 0)]) :
    SW Try.prog none (restC 9 (bodyF Try.f8)) (trueQ3 Try.f8) ⟨⟨146, gg⟩, []⟩ (eaT y hC) := by
  obtain ⟨O, hO⟩ : ∃ O : Ar, O = std := ⟨_, rfl⟩
  have hnk : O.nat (Int.ofNat k) = k := by subst hO; rfl
  obtain ⟨g1, g2, g3, g4, g5, g6, _⟩ := h
  simp only at g1 g2 g3 g4 g5 g6
  rw [← updT_self g1, ← updT_self g2, ← updT_self g3, ← updT_self g4, ← updT_self g5, ← updT_self g6]
  refine (show SW Try.prog none (.seq (.region _ _ _) _) _ _ _ from ?_)
  refine SW.seqRun tok hO (by cbv <;> rfl) (by trivial) ?_
  refine OpsW.callP x20 (by cbv <;> rfl) ?_
  refine OpsW.run tok hO (by cbv <;> rfl) (by trivial) ?_
  refine OpsW.callP x19 (by cbv <;> rfl) ?_
  refine OpsW.run tok hO (by cbv <;> rfl) (by trivial) ?_
  refine SW.seq ?_
  refine SW.seqRun tok hO (by cbv <;> rfl) (by trivial) ?_
  rcases hF with ⟨hF, e50⟩ | ⟨hF, hE, hn, hw, e50, e21⟩
  · refine SW.condS (by cbv <;> rfl) (fun h => ?_) (fun h => by subst hO; rcases hF with hF | hF <;> simp [std, hF] at h)
    refine SW.seqRun tok hO (by cbv <;> rfl) (by trivial) ?_
    rcases hF with hF | hF
    · skip
      refine OpsW.splitG (by cbv <;> rfl) (fun h => by subst hO; simp [std, hF] at h) (fun h => ?_)
      refine OpsW.run tok hO (by cbv <;> rfl) (by trivial) ?_
      refine OpsW.splitG (by cbv <;> rfl) (fun h => ?_) (fun h => by subst hO; simp [std, hF] at h)
      refine OpsW.run tok hO (by cbv <;> rfl) (by trivial) ?_
      refine OpsW.callP e50 (by cbv <;> rfl) ?_
      refine OpsW.run tok hO (by cbv <;> rfl) (by trivial) ?_
      refine OpsW.splitG (by cbv <;> rfl) (fun h => ?_) (fun h => nomatch (show true = false from (by rw [hO] at h; exact h)))
      refine OpsW.run tok hO (by cbv <;> rfl) (by trivial) ?_
      refine OpsW.callP haw (by cbv <;> rfl) ?_
      refine OpsW.run tok hO (by cbv <;> rfl) (by trivial) ?_
      exact SW.ret ⟨_, _, rfl, rfl, Eqv.of rfl⟩
    · skip
      refine OpsW.splitG (by cbv <;> rfl) (fun h => ?_) (fun h => by subst hO; simp [std, hF] at h)
      refine OpsW.run tok hO (by cbv <;> rfl) (by trivial) ?_
      refine OpsW.callP e50 (by cbv <;> rfl) ?_
      refine OpsW.run tok hO (by cbv <;> rfl) (by trivial) ?_
      refine OpsW.splitG (by cbv <;> rfl) (fun h => ?_) (fun h => nomatch (show true = false from (by rw [hO] at h; exact h)))
      refine OpsW.run tok hO (by cbv <;> rfl) (by trivial) ?_
      refine OpsW.callP haw (by cbv <;> rfl) ?_
      refine OpsW.run tok hO (by cbv <;> rfl) (by trivial) ?_
      exact SW.ret ⟨_, _, rfl, rfl, Eqv.of rfl⟩
  · have k0 : (0 : Int) ≤ Int.ofNat k := Int.natCast_nonneg k
    have kN : Int.ofNat k < Int.ofNat nf := by rw [hn]; exact Int.ofNat_lt.2 hk
    refine SW.condS (by cbv <;> rfl) (fun h => by subst hO; simp [std, hF] at h) (fun h => SW.skip ?_)
    refine SW.seqRun tok hO (by cbv <;> rfl) (by trivial) ?_
    refine OpsW.splitG (by cbv <;> rfl) (fun h => ?_) (fun h => by subst hO; simp [std, hE] at h)
    refine OpsW.run tok hO (by cbv <;> rfl) (by trivial) ?_
    refine OpsW.callP e50 (by cbv <;> rfl) ?_
    refine OpsW.run tok hO (by cbv <;> rfl) (by trivial) ?_
    refine OpsW.splitG (by cbv <;> rfl) (fun h => ?_) (fun h => by cases h)
    refine OpsW.run tok hO (by cbv <;> rfl) (by trivial) ?_
    refine OpsW.splitG (by cbv <;> rfl) (fun h => ?_) (fun h => by subst hO; simp [std, hn] at h)
    refine OpsW.run tok hO (by cbv <;> rfl) (by exact ⟨k0, kN⟩) ?_
    refine OpsW.splitG (by cbv <;> rfl) (fun h => ?_) (fun h => ?_)
    rotate_left
    · exfalso
      have h2 : O.cmp .eql (ff (O.nat (Int.ofNat k))) w = false := h
      rw [hnk, hw] at h2
      subst hO; simp [std] at h2
    refine OpsW.run tok hO (by cbv <;> rfl) (by trivial) ?_
    refine OpsW.callP e20 (by cbv <;> rfl) ?_
    refine OpsW.run tok hO (by cbv <;> rfl) (by trivial) ?_
    refine OpsW.callP e21 (by cbv <;> rfl) ?_
    refine OpsW.run tok hO (by cbv <;> rfl) (by trivial) ?_
    refine OpsW.splitG (by cbv <;> rfl) (fun h => ?_) (fun h => by cases h)
    refine OpsW.run tok hO (by cbv <;> rfl) (by trivial) ?_
    refine OpsW.callP haw (by cbv <;> rfl) ?_
    refine OpsW.run tok hO (by cbv <;> rfl) (by trivial) ?_
    exact SW.ret ⟨_, _, rfl, rfl, Eqv.of rfl⟩
end Go.Fz
set_option linter.unusedVariables false
namespace Go.Fz
open Go.Proofs
set_option maxRecDepth 100000
end Go.Fz
set_option linter.unusedVariables false
namespace Go.Fz
open Go.Proofs
set_option maxRecDepth 100000
theorem showV_isl (y : YardD) : ∃ n f, Eqv y.showV (intsV n false f) := by
  unfold YardD.showV
  split
  · exact ⟨_, _, Eqv.refl _⟩
  · exact ⟨0, fun _ => 0, Eqv.nil⟩
theorem show_isl (y : YardD) (hb : y.nb < 1000000) (hc : y.nc < 1000000) {E : Int} (h : y.ownE true = E) : ∃ n f, Pure Try.prog 19 [yardV y] (.tup [intsV n false f, iV E]) := by
  obtain ⟨n, f, hf⟩ := showV_isl y
  have := show_ok y hb hc
  rw [h] at this
  exact ⟨n, f, this.res (Eqv.tup (.cons hf (.cons (Eqv.refl _) .nil)))⟩
end Go.Fz
set_option linter.unusedVariables false
namespace Go.Fz
open Go.Proofs
set_option maxRecDepth 100000
theorem kept_none {y : YardD} (h : y.ownE true = 9 ∨ y.ownE true = 10) (hc : y.check = 0) : y.kept = [] := by
  by_cases hk : y.kept = []
  · exact hk
  · have := own_sees hc hk
    omega
theorem kept_rng {y : YardD} {f : Nat → Int} (hf : f ∈ y.kept) {k : Nat} (hk : k < y.nb) : y.blo k ≤ f k ∧ f k ≤ y.bhi k :=
  (mem_allS.1 (mem_kept.1 hf).1).2.rng k (List.mem_range.2 hk)
theorem wk_has {y : YardD} (hc : y.check = 0) {k : Nat} (hk : k < y.nb) : ∃ (na : Nat) (fa : Nat → Int), na < 1000 ∧ Pure Try.prog 27 [yardV y, iV (k : Int)] (.tup [intsV na false fa, iV (y.ownE true)]) ∧ ∀ w, hasN na fa w = true ↔ ∃ f ∈ y.kept, f k = w := by
  have hfit := (y.fit_of_check hc).1
  have hn := hfit.nb
  have h5 := (y.fit_of_check hc).2.2.2.2.2.1
  have hkn : ((k : Int)).toNat = k := rfl
  rcases own_range hc with ⟨ho, hky⟩ | ho
  · obtain ⟨e, w1⟩ := weeks_sees hc hky (K := (k : Int)) (Int.natCast_nonneg k) (Int.ofNat_lt.2 hk)
    have hs := wk_small hfit (K := (k : Int)) (Int.natCast_nonneg k) (Int.ofNat_lt.2 hk)
    refine ⟨(y.wkL k).length, fun j => (y.wkL k).getD j 0, hs, by rw [ho]; exact e, fun w => ?_⟩
    have hg : ∀ j, (hj : j < (y.wkL k).length) → (y.wkL k).getD j 0 = (y.wkL k)[j] := fun j hj => by rw [List.getD_eq_getElem?_getD, List.getElem?_eq_getElem hj]; rfl
    have hm : hasN (y.wkL k).length (fun j => (y.wkL k).getD j 0) w = true ↔ w ∈ y.wkL k := by
      unfold hasN
      rw [decide_eq_true_eq]
      constructor
      · rintro ⟨i, hi, e⟩
        have e : (y.wkL k).getD i 0 = w := e
        rw [hg i hi] at e
        rw [← e]
        exact List.getElem_mem hi
      · intro h
        obtain ⟨i, hi, e⟩ := List.getElem_of_mem h
        exact ⟨i, hi, (hg i hi).trans e⟩
    rw [hm, w1, mem_wkN, anyW_iff, hkn]
    constructor
    · rintro ⟨_, h⟩; exact h
    · rintro ⟨f, hf, e⟩
      have hr := kept_rng hf hk
      refine ⟨?_, f, hf, e⟩
      have hp := hfit.beg k hk
      omega
  · have hke := kept_none ho hc
    have e := weeks_ok y (by omega) (by omega) (k : Int)
    have hb : y.hasB (k : Int) = true := by
      unfold YardD.hasB
      rw [decide_eq_true (Int.natCast_nonneg k), decide_eq_true (Int.ofNat_lt.2 hk)]; rfl
    have hv : y.wkV (k : Int) = nl3 := by
      unfold YardD.wkV
      rw [hb, if_neg (by omega)]
    rw [hv, hb] at e
    refine ⟨0, fun _ => 0, by omega, e.res (Eqv.tup (.cons Eqv.nil (.cons (Eqv.refl _) .nil))), fun w => ?_⟩
    rw [hke]
    unfold hasN
    rw [decide_eq_true_eq]
    constructor
    · rintro ⟨i, hi, _⟩; omega
    · rintro ⟨f, hf, _⟩; cases hf
theorem has_not {na : Nat} {fa : Nat → Int} {w : Int} {p : Prop} (h : hasN na fa w = true ↔ p) (hp : ¬ p) : hasN na fa w = false := by
  cases hh : hasN na fa w with
  | false => rfl
  | true => exact absurd (h.1 hh) hp
theorem cleanEach_ok (haw : Pure Try.prog 18 [] (.lit (.bool true))) (y : YardD) (b v : Int) (b0 : 0 ≤ b) (b1 : b ≤ 255) (v0 : 0 ≤ v) (v1 : v ≤ 255) : Pure Try.prog 8 [yardV y, .lit (.int .u8 b), .lit (.int .u8 v)] (.lit (.bool true)) := by
  have e45 := ready_any y
  by_cases hno : y.readyB = false ∨ y.nb = 0
  · exact ea_not haw y b v _ e45 hno
  have hR : y.readyB = true := by
    cases hr : y.readyB with
    | true => rfl
    | false => exact absurd (.inl hr) hno
  have hz : 0 < y.nb := Nat.pos_of_ne_zero fun hz => hno (.inr hz)
  rw [hR] at e45
  have hc := ready_check hR
  obtain ⟨hfit, l0, l9, _, _, h5, _⟩ := y.fit_of_check hc
  have hn := hfit.nb
  have e20 := yard_ok y (by omega) (by omega)
  have hK := rem_rng b0 b1 hz hn
  obtain ⟨k, hk⟩ : ∃ k : Nat, std.bin .rem .i64 (std.conv .i64 b) (y.nb : Int) = (k : Int) := ⟨_, (Int.toNat_of_nonneg hK.1).symm⟩
  have hkn : k < y.nb := by
    have := hK.2
    rw [hk] at this
    exact Int.ofNat_lt.1 this
  obtain ⟨w, hw⟩ : ∃ w, std.bin .rem .i64 (std.conv .i64 v) (std.bin .add .i64 y.last 1) = w := ⟨_, rfl⟩
  obtain ⟨na, fa, hna, e27, hhas⟩ := wk_has hc hkn
  have hhw := hhas w
  refine ea_pre y b v hz ⟨l0, l9⟩ e45 fun gg h => ?_
  have h : AllP (fun p => gg p.1 = p.2) [(3, .ptr 0 0), (7, iV (Int.ofNat k)), (8, iV w)] := by
    obtain ⟨a1, a2, a3, _⟩ := h
    refine ⟨a1, ?_, ?_, trivial⟩
    · exact a2.trans (congrArg iV hk)
    · exact a3.trans (congrArg iV hw)
  refine ea_wk haw y k hkn w na fa _ ?_ e20 e27 (fun hout => ?_) (fun hin gg h => ?_) gg h
  · rcases own_range hc with ⟨o, _⟩ | o | o
    · exact .inl o
    · exact .inr (.inl o)
    · exact .inr (.inr o)
  · have e50 := has50_ok na false fa w hna
    rw [has_not hhw (fun ⟨f, hf, e⟩ => by
      have hr := kept_rng hf hkn
      rw [e] at hr
      unfold inB at hout
      rw [Bool.and_eq_false_iff, decide_eq_false_iff_not, decide_eq_false_iff_not] at hout
      omega)] at e50
    exact e50
  · have hin : y.blo k ≤ w ∧ w ≤ y.bhi k := by
      unfold inB at hin
      rw [Bool.and_eq_true, decide_eq_true_eq, decide_eq_true_eq] at hin
      exact hin
    refine ea_mid y hn k hkn w na fa _ (fun hC hCe gg h => ?_) gg h
    have hV : Eqvs [.agg (eaX y hC)] [yardV (y.setB k w)] := .cons (Eqv.agg (.cons (Eqv.refl _) (.cons (Eqv.refl _) (.cons hCe (.cons (Eqv.refl _) .nil))))) .nil
    have hcx := setB_check hc hkn hin
    have x20 := Pure.eqv (yard_ok (y.setB k w) (show y.nb ≤ 1000 by omega) (show y.nc ≤ 1000 by omega)) hV
    have x19 := show_ok (y.setB k w) (show y.nb < 1000000 by omega) (show y.nc < 1000000 by omega)
    have e50 := has50_ok na false fa w hna
    rcases own_range hcx with ⟨ox, hkx⟩ | ox
    · have hf := first_mem ox
      obtain ⟨hfy, hfk⟩ := (setB_kept hkn hin).1 hf
      have hky : y.kept ≠ [] := fun h => by rw [h] at hfy; cases hfy
      have oy := own_sees hc hky
      have ev : (y.setB k w).showV = intsV y.nb false ((y.setB k w).firstS true) := if_pos ox
      rw [ev, ox] at x19
      rw [hhw.2 ⟨_, hfy, hfk⟩] at e50
      have e21 := proveSch_ok y (by omega) (by omega) y.nb false ((y.setB k w).firstS true) (by omega)
      have hps : y.psB y.nb ((y.setB k w).firstS true) = true := by
        unfold YardD.psB
        rw [decide_eq_true rfl, oy, (YardD.own_some oy).1, key_self hn (mem_allS.1 (mem_kept.1 hfy).1).1 hfy]
        rfl
      rw [hps] at e21
      exact ea_tail haw y k hkn w na fa _ _ _ _ hC e20 _ x20 x19 (.inr ⟨rfl, oy, rfl, hfk, e50, e21⟩) gg h
    · have hke := kept_none ox hcx
      rw [has_not hhw (fun ⟨f, hf, e⟩ => by
        have := (setB_kept hkn hin).2 ⟨hf, e⟩
        rw [hke] at this
        cases this)] at e50
      obtain ⟨nf, ff, x19⟩ := show_isl (y.setB k w) (show y.nb < 1000000 by omega) (show y.nc < 1000000 by omega) rfl
      exact ea_tail haw y k hkn w na fa _ _ nf ff hC e20 _ x20 x19 (.inl ⟨ox, e50⟩) gg h
end Go.Fz
