/- Own work of the verifier of watercress: FzU1. -/
import Derived.Test.YtpaifaemkoblcaaNa9
set_option linter.unusedVariables false
set_option linter.unusedSimpArgs false
namespace Go.Fz
open Go.Proofs
set_option maxRecDepth 100000
structure FarmD where
  ns : Nat
  sb : Nat → Int
  slo : Nat → Int
  shi : Nat → Int
  nb : Nat
  need : Nat → Int
  notch : Nat → Int
  down : Nat → Int
  nl : Nat
  lb : Nat → Int
  lov : Nat → Bool
  llo : Nat → Int
  lhi : Nat → Int
def springC (f : FarmD) (i k : Nat) : AV := match k with
  | 0 => iV (f.sb i)
  | 1 => iV (f.slo i)
  | _ => iV (f.shi i)
def bedC (f : FarmD) (i k : Nat) : AV := match k with
  | 0 => iV (f.need i)
  | 1 => iV (f.notch i)
  | _ => iV (f.down i)
def lookC (f : FarmD) (i k : Nat) : AV := match k with
  | 0 => iV (f.lb i)
  | 1 => .sb (f.lov i)
  | 2 => iV (f.llo i)
  | _ => iV (f.lhi i)
def farmV (f : FarmD) : AV := .agg [.isl f.ns 3 false (springC f), .isl f.nb 3 false (bedC f), .isl f.nl 4 false (lookC f)]
theorem farmV_below (f : FarmD) : Below 0 (farmV f) := by
  refine Below.agg (AllB.ok ⟨Below.isl fun i k _ _ => ?_, Below.isl fun i k _ _ => ?_, Below.isl fun i k _ _ => ?_, trivial⟩)
  · unfold springC; split <;> exact Below.lit
  · unfold bedC; split <;> exact Below.lit
  · unfold lookC; split <;> first | exact Below.lit | exact Below.sb
theorem has_ok (lo hi n : Int) : Pure Try.prog 109 [rangeV lo hi, iV n] (.sb (decide (lo ≤ n) && decide (n ≤ hi))) := by
  obtain ⟨O, hO⟩ : ∃ O : Ar, O = std := ⟨_, rfl⟩
  refine pure_of_body tok 3 Try.func109 en109 rfl ⟨rangeV_below, iV_below, trivial⟩ Below.sb ?_
  refine SW.seqRun tok hO (by cbv <;> rfl) (by trivial) ?_
  refine SW.seqRun tok hO (by cbv <;> rfl) (by trivial) ?_
  repeat' (refine OpsW.splitG (by cbv <;> rfl) (fun h => ?_) (fun h => ?_) <;> refine OpsW.run tok hO (by cbv <;> rfl) (by trivial) ?_)
  all_goals first
    | refine SW.ret ⟨_, _, rfl, rfl, Eqv.bool (Bool.eq_iff_iff.2 ?_)⟩
    | refine SW.ret ⟨_, _, rfl, rfl, Eqv.sb (Bool.eq_iff_iff.2 ?_)⟩
  all_goals subst hO; simp_all [std]
  all_goals (intros; omega)
theorem isNotch_ok (n : Int) : Pure Try.prog 89 [iV n] (.sb (decide (0 ≤ n) && decide (n ≤ 9))) := by
  obtain ⟨O, hO⟩ : ∃ O : Ar, O = std := ⟨_, rfl⟩
  refine pure_of_body tok 3 Try.func89 en89 rfl ⟨iV_below, trivial⟩ Below.sb ?_
  refine SW.seqRun tok hO (by cbv <;> rfl) (by trivial) ?_
  refine SW.seqRun tok hO (by cbv <;> rfl) (by trivial) ?_
  repeat' (refine OpsW.splitG (by cbv <;> rfl) (fun h => ?_) (fun h => ?_) <;> refine OpsW.run tok hO (by cbv <;> rfl) (by trivial) ?_)
  all_goals first
    | refine SW.ret ⟨_, _, rfl, rfl, Eqv.bool (Bool.eq_iff_iff.2 ?_)⟩
    | refine SW.ret ⟨_, _, rfl, rfl, Eqv.sb (Bool.eq_iff_iff.2 ?_)⟩
  all_goals subst hO; simp_all [std]
  all_goals (intros; omega)
theorem hasBed_ok (f : FarmD) (n : Int) : Pure Try.prog 83 [farmV f, iV n] (.sb (decide (0 ≤ n) && decide (n < f.nb))) := by
  obtain ⟨O, hO⟩ : ∃ O : Ar, O = std := ⟨_, rfl⟩
  refine pure_of_body tok 3 Try.func83 en83 rfl ⟨farmV_below f, iV_below, trivial⟩ Below.sb ?_
  refine SW.seqRun tok hO (by cbv <;> rfl) (by trivial) ?_
  refine SW.seqRun tok hO (by cbv <;> rfl) (by trivial) ?_
  repeat' (refine OpsW.splitG (by cbv <;> rfl) (fun h => ?_) (fun h => ?_) <;> refine OpsW.run tok hO (by cbv <;> rfl) (by trivial) ?_)
  all_goals first
    | refine SW.ret ⟨_, _, rfl, rfl, Eqv.bool (Bool.eq_iff_iff.2 ?_)⟩
    | refine SW.ret ⟨_, _, rfl, rfl, Eqv.sb (Bool.eq_iff_iff.2 ?_)⟩
  all_goals subst hO; cases f; simp_all [std]
  all_goals (intros; omega)
theorem within_ok (lo hi a b : Int) : Pure Try.prog 135 [rangeV lo hi, iV a, iV b] (.sb (decide (a ≤ lo) && decide (lo ≤ hi) && decide (hi ≤ b))) := by
  obtain ⟨O, hO⟩ : ∃ O : Ar, O = std := ⟨_, rfl⟩
  refine pure_of_body tok 3 Try.func135 en135 rfl ⟨rangeV_below, iV_below, iV_below, trivial⟩ Below.sb ?_
  refine SW.seqRun tok hO (by cbv <;> rfl) (by trivial) ?_
  refine SW.seqRun tok hO (by cbv <;> rfl) (by trivial) ?_
  repeat' (refine OpsW.splitG (by cbv <;> rfl) (fun h => ?_) (fun h => ?_) <;> refine OpsW.run tok hO (by cbv <;> rfl) (by trivial) ?_)
  all_goals first
    | refine SW.ret ⟨_, _, rfl, rfl, Eqv.bool (Bool.eq_iff_iff.2 ?_)⟩
    | refine SW.ret ⟨_, _, rfl, rfl, Eqv.sb (Bool.eq_iff_iff.2 ?_)⟩
  all_goals subst hO; simp_all [std]
  all_goals (intros; omega)
theorem tooLong_ok (f : FarmD) : Pure Try.prog 72 [farmV f] (.sb (decide (8 < f.nb) || decide (4 < f.ns) || decide (5 < f.nl))) := by
  obtain ⟨O, hO⟩ : ∃ O : Ar, O = std := ⟨_, rfl⟩
  refine pure_of_body tok 3 Try.func72 en72 rfl ⟨farmV_below f, trivial⟩ Below.sb ?_
  refine SW.seqRun tok hO (by cbv <;> rfl) (by trivial) ?_
  refine SW.seqRun tok hO (by cbv <;> rfl) (by trivial) ?_
  repeat' (refine OpsW.splitG (by cbv <;> rfl) (fun h => ?_) (fun h => ?_) <;> refine OpsW.run tok hO (by cbv <;> rfl) (by trivial) ?_)
  all_goals first
    | refine SW.ret ⟨_, _, rfl, rfl, Eqv.bool (Bool.eq_iff_iff.2 ?_)⟩
    | refine SW.ret ⟨_, _, rfl, rfl, Eqv.sb (Bool.eq_iff_iff.2 ?_)⟩
  all_goals subst hO; cases f; simp_all [std]
  all_goals (intros; omega)
theorem validSpring_ok (f : FarmD) (i sb lo hi : Int) : Pure Try.prog 118 [farmV f, iV i, .agg [iV sb, iV lo, iV hi]] (.sb (decide (0 ≤ sb) && decide (sb < f.nb) && (decide (0 ≤ lo) && decide (lo ≤ hi) && decide (hi ≤ 30)))) := by
  obtain ⟨O, hO⟩ : ∃ O : Ar, O = std := ⟨_, rfl⟩
  refine pure_of_body tok 3 Try.func118 en118 rfl ⟨farmV_below f, iV_below, Below.agg (AllB.ok ⟨Below.lit, Below.lit, Below.lit, trivial⟩), trivial⟩ Below.sb ?_
  refine SW.seqRun tok hO (by cbv <;> rfl) (by trivial) ?_
  refine SW.seqRun tok hO (by cbv <;> rfl) (by trivial) ?_
  refine OpsW.callB (hasBed_ok f sb) (by cbv <;> rfl) fun b hb => ?_
  refine OpsW.run tok hO (by cbv <;> rfl) (by trivial) ?_
  refine OpsW.splitG (by cbv <;> rfl) (fun h => ?_) (fun h => ?_) <;> refine OpsW.run tok hO (by cbv <;> rfl) (by trivial) ?_
  · refine OpsW.callB (within_ok lo hi 0 30) (by cbv <;> rfl) fun b' hb' => ?_
    refine OpsW.run tok hO (by cbv <;> rfl) (by trivial) ?_
    refine SW.ret ⟨_, _, rfl, rfl, Eqv.sb ?_⟩
    subst hO; simp_all [std]
  · refine SW.ret ⟨_, _, rfl, rfl, Eqv.bool ?_⟩
    subst hO; simp_all [std]
    all_goals (intros; omega)
end Go.Fz
