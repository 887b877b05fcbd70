/- Own work of the verifier of watercress: FzB3. -/
import Derived.Test.YtpefamheopplnaaMe9
set_option linter.unusedVariables false
set_option linter.unusedSimpArgs false
namespace Go.Fz
open Go.Proofs
set_option maxRecDepth 100000
def kindF (i : Nat) : AV := match i with
  | 0 => .fn (.func 129) [] []
  | 1 => .fn (.func 130) [] []
  | 2 => .fn (.func 131) [] []
  | 3 => .fn (.func 132) [] []
  | 4 => .fn (.func 133) [] []
  | _ => .fn (.func 134) [] []
def kindB (i : Nat) : Bool := match i with
  | 0 => true
  | 1 => true
  | _ => false
def kindC (i k : Nat) : AV := match k with
  | 0 => kindF i
  | _ => .sb (kindB i)
theorem kindF_below (i : Nat) : Below 0 (kindF i) := by unfold kindF; split <;> exact Below.fn (AllB.ok trivial) (AllB.ok trivial)
theorem kindC_below : Below 0 (.isl 6 2 true kindC) := Below.isl fun i k _ _ => by
  unfold kindC; split
  · exact kindF_below i
  · exact Below.sb
theorem kinds_ok : Pure Try.prog 128 [] (.isl 6 2 true kindC) := by
  obtain ⟨O, hO⟩ : ∃ O : Ar, O = std := ⟨_, rfl⟩
  refine pure_of_body tok 3 Try.func128 en128 rfl trivial kindC_below ?_
  refine SW.seqRun tok hO (by cbv <;> rfl) (by trivial) ?_
  refine SW.seqRun tok hO (by cbv <;> rfl) (by trivial) ?_
  refine SW.ret ⟨_, _, rfl, rfl, ?_⟩
  refine Eqv.isl rfl fun i k hi hk => ?_
  match i, k, hi, hk with
  | 0, 0, _, _ => exact Eqv.of rfl
  | 1, 0, _, _ => exact Eqv.of rfl
  | 2, 0, _, _ => exact Eqv.of rfl
  | 3, 0, _, _ => exact Eqv.of rfl
  | 4, 0, _, _ => exact Eqv.of rfl
  | 5, 0, _, _ => exact Eqv.of rfl
  | 0, 1, _, _ => exact Eqv.bool rfl
  | 1, 1, _, _ => exact Eqv.bool rfl
  | 2, 1, _, _ => exact Eqv.bool rfl
  | 3, 1, _, _ => exact Eqv.bool rfl
  | 4, 1, _, _ => exact Eqv.bool rfl
  | 5, 1, _, _ => exact Eqv.bool rfl
theorem hasKind_ok (c w lo hi : Int) : Pure Try.prog 127 [.agg [iV c, iV w, iV lo, iV hi]] (.sb (decide (0 ≤ c) && decide (c < 6))) := by
  obtain ⟨O, hO⟩ : ∃ O : Ar, O = std := ⟨_, rfl⟩
  obtain ⟨G, hG⟩ : ∃ G, G = kindC := ⟨_, rfl⟩
  have hk := kinds_ok
  rw [← hG] at hk
  refine pure_of_body tok 3 Try.func127 en127 rfl ⟨Below.agg (AllB.ok ⟨Below.lit, Below.lit, Below.lit, Below.lit, trivial⟩), trivial⟩ Below.sb ?_
  refine SW.seqRun tok hO (by cbv <;> rfl) (by trivial) ?_
  refine SW.seqRunD tok mixed hO (by rfl) (by cbv <;> rfl) (by trivial) ?_
  refine AnyE.dec tok hO (by rfl) (by cbv <;> rfl) (by trivial) (fun h1 => ?_) (fun h1 => ?_)
  · refine AnyE.run tok hO (by rfl) (by cbv <;> rfl) (by trivial) ?_
    refine AnyE.callP hk (by cbv <;> rfl) (by cbv <;> rfl) ?_
    refine AnyE.run tok hO (by rfl) (by cbv <;> rfl) (by trivial) ?_
    refine AnyE.dec tok hO (by rfl) (by cbv <;> rfl) (by trivial) (fun h2 => ?_) (fun h2 => ?_)
    all_goals
      refine AnyE.run tok hO (by rfl) (by cbv <;> rfl) (by trivial) ?_
      refine SW.ret ⟨_, _, rfl, rfl, Eqv.bool ?_⟩
      subst hO; simp [std] at h1 h2; simp [h1, h2]
  · refine AnyE.run tok hO (by rfl) (by cbv <;> rfl) (by trivial) ?_
    refine SW.ret ⟨_, _, rfl, rfl, Eqv.bool ?_⟩
    subst hO; simp [std] at h1 ⊢; omega
theorem kind0_ok (w lo hi : Int) : Pure Try.prog 125 [.agg [iV 0, iV w, iV lo, iV hi]] (.agg [.fn (.func 129) [] [], .sb true]) := by
  obtain ⟨O, hO⟩ : ∃ O : Ar, O = std := ⟨_, rfl⟩
  refine pure_of_body tok 3 Try.func125 en125 rfl ⟨Below.agg (AllB.ok ⟨Below.lit, Below.lit, Below.lit, Below.lit, trivial⟩), trivial⟩ (Below.agg (AllB.ok ⟨Below.fn (AllB.ok trivial) (AllB.ok trivial), Below.sb, trivial⟩)) ?_
  refine SW.seqRun tok hO (by cbv <;> rfl) (by trivial) ?_
  refine SW.seqRunD tok mixed hO (by rfl) (by cbv <;> rfl) (by trivial) ?_
  refine AnyE.callP kinds_ok (by cbv <;> rfl) (by cbv <;> rfl) ?_
  subst hO
  refine AnyE.run tok rfl (by rfl) (by cbv <;> rfl) ?_ ?_
  · exact ⟨by show (0 : Int) ≤ 0; decide, by show (0 : Int) < 6; decide⟩
  refine AnyE.eff tok rfl (by cbv <;> rfl) (by cbv <;> rfl) (by trivial) ?_
  refine AnyE.done (by rfl) ?_
  exact SW.ret ⟨_, _, rfl, rfl, Eqv.agg (.cons (Eqv.of rfl) (.cons (Eqv.of rfl) .nil))⟩
theorem kind1_ok (w lo hi : Int) : Pure Try.prog 125 [.agg [iV 1, iV w, iV lo, iV hi]] (.agg [.fn (.func 130) [] [], .sb true]) := by
  obtain ⟨O, hO⟩ : ∃ O : Ar, O = std := ⟨_, rfl⟩
  refine pure_of_body tok 3 Try.func125 en125 rfl ⟨Below.agg (AllB.ok ⟨Below.lit, Below.lit, Below.lit, Below.lit, trivial⟩), trivial⟩ (Below.agg (AllB.ok ⟨Below.fn (AllB.ok trivial) (AllB.ok trivial), Below.sb, trivial⟩)) ?_
  refine SW.seqRun tok hO (by cbv <;> rfl) (by trivial) ?_
  refine SW.seqRunD tok mixed hO (by rfl) (by cbv <;> rfl) (by trivial) ?_
  refine AnyE.callP kinds_ok (by cbv <;> rfl) (by cbv <;> rfl) ?_
  subst hO
  refine AnyE.run tok rfl (by rfl) (by cbv <;> rfl) ?_ ?_
  · exact ⟨by show (0 : Int) ≤ 1; decide, by show (1 : Int) < 6; decide⟩
  refine AnyE.eff tok rfl (by cbv <;> rfl) (by cbv <;> rfl) (by trivial) ?_
  refine AnyE.done (by rfl) ?_
  exact SW.ret ⟨_, _, rfl, rfl, Eqv.agg (.cons (Eqv.of rfl) (.cons (Eqv.of rfl) .nil))⟩
theorem kind2_ok (w lo hi : Int) : Pure Try.prog 125 [.agg [iV 2, iV w, iV lo, iV hi]] (.agg [.fn (.func 131) [] [], .sb false]) := by
  obtain ⟨O, hO⟩ : ∃ O : Ar, O = std := ⟨_, rfl⟩
  refine pure_of_body tok 3 Try.func125 en125 rfl ⟨Below.agg (AllB.ok ⟨Below.lit, Below.lit, Below.lit, Below.lit, trivial⟩), trivial⟩ (Below.agg (AllB.ok ⟨Below.fn (AllB.ok trivial) (AllB.ok trivial), Below.sb, trivial⟩)) ?_
  refine SW.seqRun tok hO (by cbv <;> rfl) (by trivial) ?_
  refine SW.seqRunD tok mixed hO (by rfl) (by cbv <;> rfl) (by trivial) ?_
  refine AnyE.callP kinds_ok (by cbv <;> rfl) (by cbv <;> rfl) ?_
  subst hO
  refine AnyE.run tok rfl (by rfl) (by cbv <;> rfl) ?_ ?_
  · exact ⟨by show (0 : Int) ≤ 2; decide, by show (2 : Int) < 6; decide⟩
  refine AnyE.eff tok rfl (by cbv <;> rfl) (by cbv <;> rfl) (by trivial) ?_
  refine AnyE.done (by rfl) ?_
  exact SW.ret ⟨_, _, rfl, rfl, Eqv.agg (.cons (Eqv.of rfl) (.cons (Eqv.of rfl) .nil))⟩
theorem kind3_ok (w lo hi : Int) : Pure Try.prog 125 [.agg [iV 3, iV w, iV lo, iV hi]] (.agg [.fn (.func 132) [] [], .sb false]) := by
  obtain ⟨O, hO⟩ : ∃ O : Ar, O = std := ⟨_, rfl⟩
  refine pure_of_body tok 3 Try.func125 en125 rfl ⟨Below.agg (AllB.ok ⟨Below.lit, Below.lit, Below.lit, Below.lit, trivial⟩), trivial⟩ (Below.agg (AllB.ok ⟨Below.fn (AllB.ok trivial) (AllB.ok trivial), Below.sb, trivial⟩)) ?_
  refine SW.seqRun tok hO (by cbv <;> rfl) (by trivial) ?_
  refine SW.seqRunD tok mixed hO (by rfl) (by cbv <;> rfl) (by trivial) ?_
  refine AnyE.callP kinds_ok (by cbv <;> rfl) (by cbv <;> rfl) ?_
  subst hO
  refine AnyE.run tok rfl (by rfl) (by cbv <;> rfl) ?_ ?_
  · exact ⟨by show (0 : Int) ≤ 3; decide, by show (3 : Int) < 6; decide⟩
  refine AnyE.eff tok rfl (by cbv <;> rfl) (by cbv <;> rfl) (by trivial) ?_
  refine AnyE.done (by rfl) ?_
  exact SW.ret ⟨_, _, rfl, rfl, Eqv.agg (.cons (Eqv.of rfl) (.cons (Eqv.of rfl) .nil))⟩
theorem kind4_ok (w lo hi : Int) : Pure Try.prog 125 [.agg [iV 4, iV w, iV lo, iV hi]] (.agg [.fn (.func 133) [] [], .sb false]) := by
  obtain ⟨O, hO⟩ : ∃ O : Ar, O = std := ⟨_, rfl⟩
  refine pure_of_body tok 3 Try.func125 en125 rfl ⟨Below.agg (AllB.ok ⟨Below.lit, Below.lit, Below.lit, Below.lit, trivial⟩), trivial⟩ (Below.agg (AllB.ok ⟨Below.fn (AllB.ok trivial) (AllB.ok trivial), Below.sb, trivial⟩)) ?_
  refine SW.seqRun tok hO (by cbv <;> rfl) (by trivial) ?_
  refine SW.seqRunD tok mixed hO (by rfl) (by cbv <;> rfl) (by trivial) ?_
  refine AnyE.callP kinds_ok (by cbv <;> rfl) (by cbv <;> rfl) ?_
  subst hO
  refine AnyE.run tok rfl (by rfl) (by cbv <;> rfl) ?_ ?_
  · exact ⟨by show (0 : Int) ≤ 4; decide, by show (4 : Int) < 6; decide⟩
  refine AnyE.eff tok rfl (by cbv <;> rfl) (by cbv <;> rfl) (by trivial) ?_
  refine AnyE.done (by rfl) ?_
  exact SW.ret ⟨_, _, rfl, rfl, Eqv.agg (.cons (Eqv.of rfl) (.cons (Eqv.of rfl) .nil))⟩
theorem kind5_ok (w lo hi : Int) : Pure Try.prog 125 [.agg [iV 5, iV w, iV lo, iV hi]] (.agg [.fn (.func 134) [] [], .sb false]) := by
  obtain ⟨O, hO⟩ : ∃ O : Ar, O = std := ⟨_, rfl⟩
  refine pure_of_body tok 3 Try.func125 en125 rfl ⟨Below.agg (AllB.ok ⟨Below.lit, Below.lit, Below.lit, Below.lit, trivial⟩), trivial⟩ (Below.agg (AllB.ok ⟨Below.fn (AllB.ok trivial) (AllB.ok trivial), Below.sb, trivial⟩)) ?_
  refine SW.seqRun tok hO (by cbv <;> rfl) (by trivial) ?_
  refine SW.seqRunD tok mixed hO (by rfl) (by cbv <;> rfl) (by trivial) ?_
  refine AnyE.callP kinds_ok (by cbv <;> rfl) (by cbv <;> rfl) ?_
  subst hO
  refine AnyE.run tok rfl (by rfl) (by cbv <;> rfl) ?_ ?_
  · exact ⟨by show (0 : Int) ≤ 5; decide, by show (5 : Int) < 6; decide⟩
  refine AnyE.eff tok rfl (by cbv <;> rfl) (by cbv <;> rfl) (by trivial) ?_
  refine AnyE.done (by rfl) ?_
  exact SW.ret ⟨_, _, rfl, rfl, Eqv.agg (.cons (Eqv.of rfl) (.cons (Eqv.of rfl) .nil))⟩
def DayD.cntOk (d : DayD) (i : Nat) : Bool := (decide (0 ≤ d.ck i) && decide (d.ck i < 6)) && d.hasW (d.cw i) && (decide (d.cw i = 0) || decide (d.ck i < 2)) && withinB (d.clo i) (d.chi i) 0 20000
theorem isCount0_ok (d : DayD) (j w lo hi : Int) : Pure Try.prog 119 [dayV d, iV j, .agg [iV 0, iV w, iV lo, iV hi]] (.sb (d.hasW w && (decide (w = 0) || true) && withinB lo hi 0 20000)) := by
  obtain ⟨O, hO⟩ : ∃ O : Ar, O = std := ⟨_, rfl⟩
  refine pure_of_body tok 3 Try.func119 en119 rfl ⟨dayV_below d, iV_below, Below.agg (AllB.ok ⟨Below.lit, Below.lit, Below.lit, Below.lit, trivial⟩), trivial⟩ Below.sb ?_
  refine SW.seqRun tok hO (by cbv <;> rfl) (by trivial) ?_
  refine SW.seqRun tok hO (by cbv <;> rfl) (by trivial) ?_
  refine OpsW.callP ((hasKind_ok 0 w lo hi).res (Eqv.lit (c := true) (by decide))) (by cbv <;> rfl) ?_
  refine OpsW.run tok hO (by cbv <;> rfl) (by trivial) ?_
  refine OpsW.callB (hasWoman_ok d w) (by cbv <;> rfl) fun b1 hb1 => ?_
  rw [← hb1]
  refine OpsW.run tok hO (by cbv <;> rfl) (by trivial) ?_
  refine OpsW.splitG (by cbv <;> rfl) (fun h1 => ?_) (fun h1 => ?_) <;> refine OpsW.run tok hO (by cbv <;> rfl) (by trivial) ?_
  · subst h1
    refine OpsW.splitG (by cbv <;> rfl) (fun h2 => ?_) (fun h2 => ?_) <;> refine OpsW.run tok hO (by cbv <;> rfl) (by trivial) ?_
    · refine OpsW.callB (within_ok lo hi 0 20000) (by cbv <;> rfl) fun b2 hb2 => ?_
      refine OpsW.run tok hO (by cbv <;> rfl) (by trivial) ?_
      refine SW.ret ⟨_, _, rfl, rfl, Eqv.sb ?_⟩
      subst hO; simp [std] at h2; simp [h2, hb2]
    · refine OpsW.callP ((kind0_ok w lo hi).res (Eqv.agg (.cons (Eqv.refl _) (.cons (Eqv.lit (c := true) rfl) .nil)))) (by cbv <;> rfl) ?_
      refine OpsW.run tok hO (by cbv <;> rfl) (by trivial) ?_
      refine OpsW.callB (within_ok lo hi 0 20000) (by cbv <;> rfl) fun b2 hb2 => ?_
      refine OpsW.run tok hO (by cbv <;> rfl) (by trivial) ?_
      refine SW.ret ⟨_, _, rfl, rfl, Eqv.sb ?_⟩
      simp [hb2]
  · refine SW.ret ⟨_, _, rfl, rfl, Eqv.bool ?_⟩
    rw [h1]; rfl
theorem isCount1_ok (d : DayD) (j w lo hi : Int) : Pure Try.prog 119 [dayV d, iV j, .agg [iV 1, iV w, iV lo, iV hi]] (.sb (d.hasW w && (decide (w = 0) || true) && withinB lo hi 0 20000)) := by
  obtain ⟨O, hO⟩ : ∃ O : Ar, O = std := ⟨_, rfl⟩
  refine pure_of_body tok 3 Try.func119 en119 rfl ⟨dayV_below d, iV_below, Below.agg (AllB.ok ⟨Below.lit, Below.lit, Below.lit, Below.lit, trivial⟩), trivial⟩ Below.sb ?_
  refine SW.seqRun tok hO (by cbv <;> rfl) (by trivial) ?_
  refine SW.seqRun tok hO (by cbv <;> rfl) (by trivial) ?_
  refine OpsW.callP ((hasKind_ok 1 w lo hi).res (Eqv.lit (c := true) (by decide))) (by cbv <;> rfl) ?_
  refine OpsW.run tok hO (by cbv <;> rfl) (by trivial) ?_
  refine OpsW.callB (hasWoman_ok d w) (by cbv <;> rfl) fun b1 hb1 => ?_
  rw [← hb1]
  refine OpsW.run tok hO (by cbv <;> rfl) (by trivial) ?_
  refine OpsW.splitG (by cbv <;> rfl) (fun h1 => ?_) (fun h1 => ?_) <;> refine OpsW.run tok hO (by cbv <;> rfl) (by trivial) ?_
  · subst h1
    refine OpsW.splitG (by cbv <;> rfl) (fun h2 => ?_) (fun h2 => ?_) <;> refine OpsW.run tok hO (by cbv <;> rfl) (by trivial) ?_
    · refine OpsW.callB (within_ok lo hi 0 20000) (by cbv <;> rfl) fun b2 hb2 => ?_
      refine OpsW.run tok hO (by cbv <;> rfl) (by trivial) ?_
      refine SW.ret ⟨_, _, rfl, rfl, Eqv.sb ?_⟩
      subst hO; simp [std] at h2; simp [h2, hb2]
    · refine OpsW.callP ((kind1_ok w lo hi).res (Eqv.agg (.cons (Eqv.refl _) (.cons (Eqv.lit (c := true) rfl) .nil)))) (by cbv <;> rfl) ?_
      refine OpsW.run tok hO (by cbv <;> rfl) (by trivial) ?_
      refine OpsW.callB (within_ok lo hi 0 20000) (by cbv <;> rfl) fun b2 hb2 => ?_
      refine OpsW.run tok hO (by cbv <;> rfl) (by trivial) ?_
      refine SW.ret ⟨_, _, rfl, rfl, Eqv.sb ?_⟩
      simp [hb2]
  · refine SW.ret ⟨_, _, rfl, rfl, Eqv.bool ?_⟩
    rw [h1]; rfl
theorem isCount2_ok (d : DayD) (j w lo hi : Int) : Pure Try.prog 119 [dayV d, iV j, .agg [iV 2, iV w, iV lo, iV hi]] (.sb (d.hasW w && (decide (w = 0) || false) && withinB lo hi 0 20000)) := by
  obtain ⟨O, hO⟩ : ∃ O : Ar, O = std := ⟨_, rfl⟩
  refine pure_of_body tok 3 Try.func119 en119 rfl ⟨dayV_below d, iV_below, Below.agg (AllB.ok ⟨Below.lit, Below.lit, Below.lit, Below.lit, trivial⟩), trivial⟩ Below.sb ?_
  refine SW.seqRun tok hO (by cbv <;> rfl) (by trivial) ?_
  refine SW.seqRun tok hO (by cbv <;> rfl) (by trivial) ?_
  refine OpsW.callP ((hasKind_ok 2 w lo hi).res (Eqv.lit (c := true) (by decide))) (by cbv <;> rfl) ?_
  refine OpsW.run tok hO (by cbv <;> rfl) (by trivial) ?_
  refine OpsW.callB (hasWoman_ok d w) (by cbv <;> rfl) fun b1 hb1 => ?_
  rw [← hb1]
  refine OpsW.run tok hO (by cbv <;> rfl) (by trivial) ?_
  refine OpsW.splitG (by cbv <;> rfl) (fun h1 => ?_) (fun h1 => ?_) <;> refine OpsW.run tok hO (by cbv <;> rfl) (by trivial) ?_
  · subst h1
    refine OpsW.splitG (by cbv <;> rfl) (fun h2 => ?_) (fun h2 => ?_) <;> refine OpsW.run tok hO (by cbv <;> rfl) (by trivial) ?_
    · refine OpsW.callB (within_ok lo hi 0 20000) (by cbv <;> rfl) fun b2 hb2 => ?_
      refine OpsW.run tok hO (by cbv <;> rfl) (by trivial) ?_
      refine SW.ret ⟨_, _, rfl, rfl, Eqv.sb ?_⟩
      subst hO; simp [std] at h2; simp [h2, hb2]
    · refine OpsW.callP ((kind2_ok w lo hi).res (Eqv.agg (.cons (Eqv.refl _) (.cons (Eqv.lit (c := false) rfl) .nil)))) (by cbv <;> rfl) ?_
      refine OpsW.run tok hO (by cbv <;> rfl) (by trivial) ?_
      refine SW.ret ⟨_, _, rfl, rfl, Eqv.bool ?_⟩
      subst hO; simp [std] at h2; simp [h2]
  · refine SW.ret ⟨_, _, rfl, rfl, Eqv.bool ?_⟩
    rw [h1]; rfl
theorem isCount3_ok (d : DayD) (j w lo hi : Int) : Pure Try.prog 119 [dayV d, iV j, .agg [iV 3, iV w, iV lo, iV hi]] (.sb (d.hasW w && (decide (w = 0) || false) && withinB lo hi 0 20000)) := by
  obtain ⟨O, hO⟩ : ∃ O : Ar, O = std := ⟨_, rfl⟩
  refine pure_of_body tok 3 Try.func119 en119 rfl ⟨dayV_below d, iV_below, Below.agg (AllB.ok ⟨Below.lit, Below.lit, Below.lit, Below.lit, trivial⟩), trivial⟩ Below.sb ?_
  refine SW.seqRun tok hO (by cbv <;> rfl) (by trivial) ?_
  refine SW.seqRun tok hO (by cbv <;> rfl) (by trivial) ?_
  refine OpsW.callP ((hasKind_ok 3 w lo hi).res (Eqv.lit (c := true) (by decide))) (by cbv <;> rfl) ?_
  refine OpsW.run tok hO (by cbv <;> rfl) (by trivial) ?_
  refine OpsW.callB (hasWoman_ok d w) (by cbv <;> rfl) fun b1 hb1 => ?_
  rw [← hb1]
  refine OpsW.run tok hO (by cbv <;> rfl) (by trivial) ?_
  refine OpsW.splitG (by cbv <;> rfl) (fun h1 => ?_) (fun h1 => ?_) <;> refine OpsW.run tok hO (by cbv <;> rfl) (by trivial) ?_
  · subst h1
    refine OpsW.splitG (by cbv <;> rfl) (fun h2 => ?_) (fun h2 => ?_) <;> refine OpsW.run tok hO (by cbv <;> rfl) (by trivial) ?_
    · refine OpsW.callB (within_ok lo hi 0 20000) (by cbv <;> rfl) fun b2 hb2 => ?_
      refine OpsW.run tok hO (by cbv <;> rfl) (by trivial) ?_
      refine SW.ret ⟨_, _, rfl, rfl, Eqv.sb ?_⟩
      subst hO; simp [std] at h2; simp [h2, hb2]
    · refine OpsW.callP ((kind3_ok w lo hi).res (Eqv.agg (.cons (Eqv.refl _) (.cons (Eqv.lit (c := false) rfl) .nil)))) (by cbv <;> rfl) ?_
      refine OpsW.run tok hO (by cbv <;> rfl) (by trivial) ?_
      refine SW.ret ⟨_, _, rfl, rfl, Eqv.bool ?_⟩
      subst hO; simp [std] at h2; simp [h2]
  · refine SW.ret ⟨_, _, rfl, rfl, Eqv.bool ?_⟩
    rw [h1]; rfl
theorem isCount4_ok (d : DayD) (j w lo hi : Int) : Pure Try.prog 119 [dayV d, iV j, .agg [iV 4, iV w, iV lo, iV hi]] (.sb (d.hasW w && (decide (w = 0) || false) && withinB lo hi 0 20000)) := by
  obtain ⟨O, hO⟩ : ∃ O : Ar, O = std := ⟨_, rfl⟩
  refine pure_of_body tok 3 Try.func119 en119 rfl ⟨dayV_below d, iV_below, Below.agg (AllB.ok ⟨Below.lit, Below.lit, Below.lit, Below.lit, trivial⟩), trivial⟩ Below.sb ?_
  refine SW.seqRun tok hO (by cbv <;> rfl) (by trivial) ?_
  refine SW.seqRun tok hO (by cbv <;> rfl) (by trivial) ?_
  refine OpsW.callP ((hasKind_ok 4 w lo hi).res (Eqv.lit (c := true) (by decide))) (by cbv <;> rfl) ?_
  refine OpsW.run tok hO (by cbv <;> rfl) (by trivial) ?_
  refine OpsW.callB (hasWoman_ok d w) (by cbv <;> rfl) fun b1 hb1 => ?_
  rw [← hb1]
  refine OpsW.run tok hO (by cbv <;> rfl) (by trivial) ?_
  refine OpsW.splitG (by cbv <;> rfl) (fun h1 => ?_) (fun h1 => ?_) <;> refine OpsW.run tok hO (by cbv <;> rfl) (by trivial) ?_
  · subst h1
    refine OpsW.splitG (by cbv <;> rfl) (fun h2 => ?_) (fun h2 => ?_) <;> refine OpsW.run tok hO (by cbv <;> rfl) (by trivial) ?_
    · refine OpsW.callB (within_ok lo hi 0 20000) (by cbv <;> rfl) fun b2 hb2 => ?_
      refine OpsW.run tok hO (by cbv <;> rfl) (by trivial) ?_
      refine SW.ret ⟨_, _, rfl, rfl, Eqv.sb ?_⟩
      subst hO; simp [std] at h2; simp [h2, hb2]
    · refine OpsW.callP ((kind4_ok w lo hi).res (Eqv.agg (.cons (Eqv.refl _) (.cons (Eqv.lit (c := false) rfl) .nil)))) (by cbv <;> rfl) ?_
      refine OpsW.run tok hO (by cbv <;> rfl) (by trivial) ?_
      refine SW.ret ⟨_, _, rfl, rfl, Eqv.bool ?_⟩
      subst hO; simp [std] at h2; simp [h2]
  · refine SW.ret ⟨_, _, rfl, rfl, Eqv.bool ?_⟩
    rw [h1]; rfl
theorem isCount5_ok (d : DayD) (j w lo hi : Int) : Pure Try.prog 119 [dayV d, iV j, .agg [iV 5, iV w, iV lo, iV hi]] (.sb (d.hasW w && (decide (w = 0) || false) && withinB lo hi 0 20000)) := by
  obtain ⟨O, hO⟩ : ∃ O : Ar, O = std := ⟨_, rfl⟩
  refine pure_of_body tok 3 Try.func119 en119 rfl ⟨dayV_below d, iV_below, Below.agg (AllB.ok ⟨Below.lit, Below.lit, Below.lit, Below.lit, trivial⟩), trivial⟩ Below.sb ?_
  refine SW.seqRun tok hO (by cbv <;> rfl) (by trivial) ?_
  refine SW.seqRun tok hO (by cbv <;> rfl) (by trivial) ?_
  refine OpsW.callP ((hasKind_ok 5 w lo hi).res (Eqv.lit (c := true) (by decide))) (by cbv <;> rfl) ?_
  refine OpsW.run tok hO (by cbv <;> rfl) (by trivial) ?_
  refine OpsW.callB (hasWoman_ok d w) (by cbv <;> rfl) fun b1 hb1 => ?_
  rw [← hb1]
  refine OpsW.run tok hO (by cbv <;> rfl) (by trivial) ?_
  refine OpsW.splitG (by cbv <;> rfl) (fun h1 => ?_) (fun h1 => ?_) <;> refine OpsW.run tok hO (by cbv <;> rfl) (by trivial) ?_
  · subst h1
    refine OpsW.splitG (by cbv <;> rfl) (fun h2 => ?_) (fun h2 => ?_) <;> refine OpsW.run tok hO (by cbv <;> rfl) (by trivial) ?_
    · refine OpsW.callB (within_ok lo hi 0 20000) (by cbv <;> rfl) fun b2 hb2 => ?_
      refine OpsW.run tok hO (by cbv <;> rfl) (by trivial) ?_
      refine SW.ret ⟨_, _, rfl, rfl, Eqv.sb ?_⟩
      subst hO; simp [std] at h2; simp [h2, hb2]
    · refine OpsW.callP ((kind5_ok w lo hi).res (Eqv.agg (.cons (Eqv.refl _) (.cons (Eqv.lit (c := false) rfl) .nil)))) (by cbv <;> rfl) ?_
      refine OpsW.run tok hO (by cbv <;> rfl) (by trivial) ?_
      refine SW.ret ⟨_, _, rfl, rfl, Eqv.bool ?_⟩
      subst hO; simp [std] at h2; simp [h2]
  · refine SW.ret ⟨_, _, rfl, rfl, Eqv.bool ?_⟩
    rw [h1]; rfl
theorem isCount_ok (d : DayD) (i : Nat) (j : Int) : Pure Try.prog 119 [dayV d, iV j, cntV d i] (.sb (d.cntOk i)) := by
  by_cases h : 0 ≤ d.ck i ∧ d.ck i < 6
  · have hc : d.ck i = 0 ∨ d.ck i = 1 ∨ d.ck i = 2 ∨ d.ck i = 3 ∨ d.ck i = 4 ∨ d.ck i = 5 := by omega
    unfold cntV DayD.cntOk
    rcases hc with h | h | h | h | h | h <;> rw [h]
    · exact (isCount0_ok d j _ _ _).res (Eqv.sb (by simp))
    · exact (isCount1_ok d j _ _ _).res (Eqv.sb (by simp))
    · exact (isCount2_ok d j _ _ _).res (Eqv.sb (by simp))
    · exact (isCount3_ok d j _ _ _).res (Eqv.sb (by simp))
    · exact (isCount4_ok d j _ _ _).res (Eqv.sb (by simp))
    · exact (isCount5_ok d j _ _ _).res (Eqv.sb (by simp))
  · have hk : (decide (0 ≤ d.ck i) && decide (d.ck i < 6)) = false := by
      rw [Bool.eq_false_iff]; intro h1; simp at h1; exact h h1
    have hcall := hasKind_ok (d.ck i) (d.cw i) (d.clo i) (d.chi i)
    rw [hk] at hcall
    refine (?_ : Pure Try.prog 119 [dayV d, iV j, cntV d i] (.sb false)).res (Eqv.sb (by simp [DayD.cntOk, hk]))
    obtain ⟨O, hO⟩ : ∃ O : Ar, O = std := ⟨_, rfl⟩
    refine pure_of_body tok 3 Try.func119 en119 rfl ⟨dayV_below d, iV_below, cntV_below d i, trivial⟩ Below.sb ?_
    refine SW.seqRun tok hO (by cbv <;> rfl) (by trivial) ?_
    refine SW.seqRun tok hO (by cbv <;> rfl) (by trivial) ?_
    refine OpsW.callP (hcall.res (Eqv.lit (c := false) rfl)) (by cbv <;> rfl) ?_
    refine OpsW.run tok hO (by cbv <;> rfl) (by trivial) ?_
    exact SW.ret ⟨_, _, rfl, rfl, Eqv.bool rfl⟩
def bet (n a b : Int) : Bool := decide (a ≤ n) && decide (n ≤ b)
def DayD.validB (d : DayD) : Bool := bet d.hand 1 20 && bet d.flat 1 20 && decide (0 < d.nw) && allN d.nw (fun i => withinB (d.wlo i) (d.whi i) 1 60) && allN d.nl d.lotOk && allN d.nc d.cntOk
def DayD.small (d : DayD) : Prop := d.nw < 4611686018427387904 ∧ d.nl < 4611686018427387904 ∧ d.nc < 4611686018427387904
theorem valid_ok (d : DayD) (hs : d.small) : Pure Try.prog 86 [dayV d] (.sb d.validB) := by
  obtain ⟨O, hO⟩ : ∃ O : Ar, O = std := ⟨_, rfl⟩
  have e1 := each70_ok d 115 [] [] (fun i => withinB (d.wlo i) (d.whi i) 1 60) (Below.fn (AllB.ok trivial) (AllB.ok trivial)) hs.1 (fun i hi => isWoman_ok i (d.wlo i) (d.whi i))
  have e2 := each72_ok d 117 [dayV d] [] d.lotOk (Below.fn (AllB.ok ⟨dayV_below d, trivial⟩) (AllB.ok trivial)) hs.2.1 (fun i hi => isLot_ok d i i)
  have e3 := each74_ok d 119 [dayV d] [] d.cntOk (Below.fn (AllB.ok ⟨dayV_below d, trivial⟩) (AllB.ok trivial)) hs.2.2 (fun i hi => isCount_ok d i i)
  generalize hp1 : allN d.nw (fun i => withinB (d.wlo i) (d.whi i) 1 60) = p1 at e1
  generalize hp2 : allN d.nl d.lotOk = p2 at e2
  generalize hp3 : allN d.nc d.cntOk = p3 at e3
  have hv : d.validB = (bet d.hand 1 20 && bet d.flat 1 20 && decide (0 < d.nw) && p1 && p2 && p3) := by rw [← hp1, ← hp2, ← hp3]; rfl
  rw [hv]
  refine pure_of_body tok 3 Try.func86 en86 rfl ⟨dayV_below d, trivial⟩ Below.sb ?_
  refine SW.seqRun tok hO (by cbv <;> rfl) (by trivial) ?_
  refine SW.seqRun tok hO (by cbv <;> rfl) (by trivial) ?_
  refine OpsW.splitG (by cbv <;> rfl) (fun a1 => ?_) (fun a1 => ?_) <;> refine OpsW.run tok hO (by cbv <;> rfl) (by trivial) ?_
  · refine OpsW.splitG (by cbv <;> rfl) (fun a2 => ?_) (fun a2 => ?_) <;> refine OpsW.run tok hO (by cbv <;> rfl) (by trivial) ?_
    · refine OpsW.splitG (by cbv <;> rfl) (fun a3 => ?_) (fun a3 => ?_) <;> refine OpsW.run tok hO (by cbv <;> rfl) (by trivial) ?_
      · refine OpsW.splitG (by cbv <;> rfl) (fun a4 => ?_) (fun a4 => ?_) <;> refine OpsW.run tok hO (by cbv <;> rfl) (by trivial) ?_
        · refine OpsW.splitG (by cbv <;> rfl) (fun a5 => ?_) (fun a5 => ?_) <;> refine OpsW.run tok hO (by cbv <;> rfl) (by trivial) ?_
          · have hpre : (bet d.hand 1 20 && bet d.flat 1 20 && decide (0 < d.nw)) = true := by
              subst hO; cases d; simp [std] at a1 a2 a3 a4 a5; simp [bet]; omega
            rw [hpre]
            refine OpsW.callB e1 (by cbv <;> rfl) fun b1 hb1 => ?_
            refine OpsW.run tok hO (by cbv <;> rfl) (by trivial) ?_
            refine OpsW.splitG (by cbv <;> rfl) (fun h2 => ?_) (fun h2 => ?_) <;> refine OpsW.run tok hO (by cbv <;> rfl) (by trivial) ?_
            · refine OpsW.callB e2 (by cbv <;> rfl) fun b2 hb2 => ?_
              refine OpsW.run tok hO (by cbv <;> rfl) (by trivial) ?_
              refine OpsW.splitG (by cbv <;> rfl) (fun h3 => ?_) (fun h3 => ?_) <;> refine OpsW.run tok hO (by cbv <;> rfl) (by trivial) ?_
              · refine OpsW.callB e3 (by cbv <;> rfl) fun b3 hb3 => ?_
                refine OpsW.run tok hO (by cbv <;> rfl) (by trivial) ?_
                refine SW.ret ⟨_, _, rfl, rfl, Eqv.sb ?_⟩
                rw [← hb1, ← hb2, ← hb3, h2, h3]; rfl
              · refine SW.ret ⟨_, _, rfl, rfl, Eqv.bool ?_⟩
                rw [← hb1, ← hb2, h3]; simp
            · refine SW.ret ⟨_, _, rfl, rfl, Eqv.bool ?_⟩
              rw [← hb1, h2]; simp
          all_goals (refine SW.ret ⟨_, _, rfl, rfl, Eqv.bool ?_⟩; subst hO; cases d; simp [std] at a1 a2 a3 a4 a5; simp [bet]; intros; omega)
        all_goals (refine SW.ret ⟨_, _, rfl, rfl, Eqv.bool ?_⟩; subst hO; cases d; simp [std] at a1 a2 a3 a4; simp [bet]; intros; omega)
      all_goals (refine SW.ret ⟨_, _, rfl, rfl, Eqv.bool ?_⟩; subst hO; cases d; simp [std] at a1 a2 a3; simp [bet]; intros; omega)
    all_goals (refine SW.ret ⟨_, _, rfl, rfl, Eqv.bool ?_⟩; subst hO; cases d; simp [std] at a1 a2; simp [bet]; intros; omega)
  all_goals (refine SW.ret ⟨_, _, rfl, rfl, Eqv.bool ?_⟩; subst hO; cases d; simp [std] at a1; simp [bet]; intros; omega)
end Go.Fz
