/- Own work of the verifier of watercress: FzB1. -/
import Derived.Test.YtpefamheopplnaaMm6
import Derived.Test.YtpefamheopplnaaMm7
set_option linter.unusedVariables false
set_option linter.unusedSimpArgs false
namespace Go.Fz
open Go.Proofs
set_option maxRecDepth 100000
structure DayD where
  hand : Int
  flat : Int
  nw : Nat
  wlo : Nat → Int
  whi : Nat → Int
  nl : Nat
  lw : Nat → Int
  llo : Nat → Int
  lhi : Nat → Int
  nc : Nat
  ck : Nat → Int
  cw : Nat → Int
  clo : Nat → Int
  chi : Nat → Int
def iV (n : Int) : AV := .lit (.int .i64 n)
abbrev nl3 : AV := .lit (.slice none 0 0)
def rangeV (lo hi : Int) : AV := .agg [iV lo, iV hi]
def womC (d : DayD) (i k : Nat) : AV := match k with
  | 0 => iV (d.wlo i)
  | _ => iV (d.whi i)
def lotC (d : DayD) (i k : Nat) : AV := match k with
  | 0 => iV (d.lw i)
  | 1 => iV (d.llo i)
  | _ => iV (d.lhi i)
def cntC (d : DayD) (i k : Nat) : AV := match k with
  | 0 => iV (d.ck i)
  | 1 => iV (d.cw i)
  | 2 => iV (d.clo i)
  | _ => iV (d.chi i)
def womsV (d : DayD) : AV := .isl d.nw 2 false (womC d)
def lotsV (d : DayD) : AV := .isl d.nl 3 false (lotC d)
def cntsV (d : DayD) : AV := .isl d.nc 4 false (cntC d)
def dayC (d : DayD) : List AV := [iV d.hand, iV d.flat, womsV d, lotsV d, cntsV d]
def dayV (d : DayD) : AV := .agg (dayC d)
def intC (fl : Nat → Int) (i _ : Nat) : AV := iV (fl i)
def intsV (n : Nat) (ex : Bool) (fl : Nat → Int) : AV := .isl n 1 ex (intC fl)
structure TruD where
  nf : Nat
  ef : Bool
  fe : Nat → Int
  ns : Nat
  es : Bool
  st : Nat → Int
def truC (t : TruD) : List AV := [intsV t.nf t.ef t.fe, intsV t.ns t.es t.st]
def truV (t : TruD) : AV := .agg (truC t)
def womV (d : DayD) (i : Nat) : AV := .agg [iV (d.wlo i), iV (d.whi i)]
def lotV (d : DayD) (i : Nat) : AV := .agg [iV (d.lw i), iV (d.llo i), iV (d.lhi i)]
def cntV (d : DayD) (i : Nat) : AV := .agg [iV (d.ck i), iV (d.cw i), iV (d.clo i), iV (d.chi i)]
theorem iV_below {n : Int} : Below 0 (iV n) := Below.lit
theorem rangeV_below {lo hi : Int} : Below 0 (rangeV lo hi) := Below.agg (AllB.ok ⟨Below.lit, Below.lit, trivial⟩)
theorem womsV_below (d : DayD) : Below 0 (womsV d) := Below.isl fun i k _ _ => by unfold womC; split <;> exact Below.lit
theorem lotsV_below (d : DayD) : Below 0 (lotsV d) := Below.isl fun i k _ _ => by unfold lotC; split <;> exact Below.lit
theorem cntsV_below (d : DayD) : Below 0 (cntsV d) := Below.isl fun i k _ _ => by unfold cntC; split <;> exact Below.lit
theorem dayC_below (d : DayD) : ∀ a ∈ dayC d, Below 0 a := AllB.ok ⟨Below.lit, Below.lit, womsV_below d, lotsV_below d, cntsV_below d, trivial⟩
theorem dayV_below (d : DayD) : Below 0 (dayV d) := Below.agg (dayC_below d)
theorem intsV_below (n : Nat) (ex : Bool) (fl : Nat → Int) : Below 0 (intsV n ex fl) := Below.isl fun i k _ _ => Below.lit
theorem truC_below (t : TruD) : ∀ a ∈ truC t, Below 0 a := AllB.ok ⟨intsV_below _ _ _, intsV_below _ _ _, trivial⟩
theorem truV_below (t : TruD) : Below 0 (truV t) := Below.agg (truC_below t)
theorem cntV_below (d : DayD) (i : Nat) : Below 0 (cntV d i) := Below.agg (AllB.ok ⟨Below.lit, Below.lit, Below.lit, Below.lit, trivial⟩)
theorem Below.up {n m : Nat} {a : AV} (h : Below 0 a) : Below n a := fun φ u hv => by
  have h1 := h φ u hv
  exact VR.mono (φ := ⟨φ.f, 0, φ.z⟩) (φ' := ⟨φ.f, n, φ.z⟩) ⟨Nat.zero_le _, fun id hid => absurd hid (Nat.not_lt_zero id), fun b c hb => hb⟩ h1
def add64 (a b : Int) : Int := wrp .i64 (a + b)
def sub64 (a b : Int) : Int := wrp .i64 (a - b)
def mul64 (a b : Int) : Int := wrp .i64 (a * b)
def size64 (lo hi : Int) : Int := add64 (sub64 hi lo) 1
theorem add64_eq (a b : Int) : std.bin .add .i64 a b = add64 a b := rfl
theorem add64_in (a b : Int) (h1 : -9223372036854775808 ≤ a + b) (h2 : a + b ≤ 9223372036854775807) : add64 a b = a + b := wrp_in (by simpa only [IntKind.lo] using h1) (by simpa only [IntKind.hi] using h2)
theorem sub64_in (a b : Int) (h1 : -9223372036854775808 ≤ a - b) (h2 : a - b ≤ 9223372036854775807) : sub64 a b = a - b := wrp_in (by simpa only [IntKind.lo] using h1) (by simpa only [IntKind.hi] using h2)
theorem mul64_in (a b : Int) (h1 : -9223372036854775808 ≤ a * b) (h2 : a * b ≤ 9223372036854775807) : mul64 a b = a * b := wrp_in (by simpa only [IntKind.lo] using h1) (by simpa only [IntKind.hi] using h2)
theorem inc_ok {O : Ar} (hO : O = std) {i : Nat} (h : i < 4611686018427387904) : AV.lit (.int .i64 (O.bin .add .i64 (Int.ofNat i) 1)) = iV ((i + 1 : Nat) : Int) := by
  have h1 : O.bin .add .i64 (Int.ofNat i) 1 = add64 (Int.ofNat i) 1 := by rw [hO]; exact add64_eq _ _
  have h2 : add64 (Int.ofNat i) 1 = Int.ofNat i + 1 := add64_in (i : Int) 1 (by omega) (by omega)
  rw [h1, h2]; rfl
def allN (n : Nat) (p : Nat → Bool) : Bool := decide (∀ i, i < n → p i = true)
def withinB (lo hi a b : Int) : Bool := decide (a ≤ lo) && decide (lo ≤ hi) && decide (hi ≤ b)
def inB (n a b : Int) : Bool := decide (a ≤ n) && decide (n ≤ b)
theorem has_ok (lo hi n : Int) : Pure Try.prog 111 [rangeV lo hi, iV n] (.sb (inB n lo hi)) := by
  obtain ⟨O, hO⟩ : ∃ O : Ar, O = std := ⟨_, rfl⟩
  refine pure_of_body tok 3 Try.func111 en111 rfl ⟨rangeV_below, iV_below, trivial⟩ Below.sb ?_
  refine SW.seqRun tok hO (by cbv <;> rfl) (by trivial) ?_
  refine SW.seqRun tok hO (by cbv <;> rfl) (by trivial) ?_
  repeat' (refine OpsW.splitG (by cbv <;> rfl) (fun h => ?_) (fun h => ?_) <;> refine OpsW.run tok hO (by cbv <;> rfl) (by trivial) ?_)
  all_goals first
    | refine SW.ret ⟨_, _, rfl, rfl, Eqv.bool (Bool.eq_iff_iff.2 ?_)⟩
    | refine SW.ret ⟨_, _, rfl, rfl, Eqv.sb (Bool.eq_iff_iff.2 ?_)⟩
  all_goals subst hO; simp_all [std, inB]
  all_goals (intros; omega)
theorem in_ok (n a b : Int) : Pure Try.prog 25 [iV n, iV a, iV b] (.sb (inB n a b)) := by
  obtain ⟨O, hO⟩ : ∃ O : Ar, O = std := ⟨_, rfl⟩
  refine pure_of_body tok 3 Try.func25 en25 rfl ⟨iV_below, iV_below, iV_below, trivial⟩ Below.sb ?_
  refine SW.seqRun tok hO (by cbv <;> rfl) (by trivial) ?_
  refine SW.seqRun tok hO (by cbv <;> rfl) (by trivial) ?_
  refine OpsW.splitG (by cbv <;> rfl) (fun h => ?_) (fun h => ?_) <;> refine OpsW.run tok hO (by cbv <;> rfl) (by trivial) ?_
  · refine SW.ret ⟨_, _, rfl, rfl, Eqv.sb (Bool.eq_iff_iff.2 ?_)⟩
    subst hO; simp [std] at h; simp [std, inB]; omega
  · refine SW.ret ⟨_, _, rfl, rfl, Eqv.bool (Bool.eq_iff_iff.2 ?_)⟩
    subst hO; simp [std] at h; simp [inB]; omega
theorem within_ok (lo hi a b : Int) : Pure Try.prog 126 [rangeV lo hi, iV a, iV b] (.sb (withinB lo hi a b)) := by
  obtain ⟨O, hO⟩ : ∃ O : Ar, O = std := ⟨_, rfl⟩
  refine pure_of_body tok 3 Try.func126 en126 rfl ⟨rangeV_below, iV_below, iV_below, trivial⟩ Below.sb ?_
  refine SW.seqRun tok hO (by cbv <;> rfl) (by trivial) ?_
  refine SW.seqRun tok hO (by cbv <;> rfl) (by trivial) ?_
  repeat' (refine OpsW.splitG (by cbv <;> rfl) (fun h => ?_) (fun h => ?_) <;> refine OpsW.run tok hO (by cbv <;> rfl) (by trivial) ?_)
  all_goals first
    | refine SW.ret ⟨_, _, rfl, rfl, Eqv.bool (Bool.eq_iff_iff.2 ?_)⟩
    | refine SW.ret ⟨_, _, rfl, rfl, Eqv.sb (Bool.eq_iff_iff.2 ?_)⟩
  all_goals subst hO; simp_all [std, withinB]
  all_goals (intros; omega)
theorem size_ok (lo hi : Int) : Pure Try.prog 121 [rangeV lo hi] (iV (size64 lo hi)) := by
  obtain ⟨O, hO⟩ : ∃ O : Ar, O = std := ⟨_, rfl⟩
  refine pure_of_body tok 3 Try.func121 en121 rfl ⟨rangeV_below, trivial⟩ Below.lit ?_
  refine SW.seqRun tok hO (by cbv <;> rfl) (by trivial) ?_
  refine SW.seqRun tok hO (by cbv <;> rfl) (by trivial) ?_
  refine SW.ret ⟨_, _, rfl, rfl, Eqv.int ?_⟩
  subst hO; rfl
def DayD.hasW (d : DayD) (n : Int) : Bool := decide (0 ≤ n) && decide (n < d.nw)
theorem hasWoman_ok (d : DayD) (n : Int) : Pure Try.prog 73 [dayV d, iV n] (.sb (d.hasW n)) := by
  obtain ⟨O, hO⟩ : ∃ O : Ar, O = std := ⟨_, rfl⟩
  refine pure_of_body tok 3 Try.func73 en73 rfl ⟨dayV_below d, iV_below, trivial⟩ Below.sb ?_
  refine SW.seqRun tok hO (by cbv <;> rfl) (by trivial) ?_
  refine SW.seqRun tok hO (by cbv <;> rfl) (by trivial) ?_
  repeat' (refine OpsW.splitG (by cbv <;> rfl) (fun h => ?_) (fun h => ?_) <;> refine OpsW.run tok hO (by cbv <;> rfl) (by trivial) ?_)
  all_goals first
    | refine SW.ret ⟨_, _, rfl, rfl, Eqv.bool (Bool.eq_iff_iff.2 ?_)⟩
    | refine SW.ret ⟨_, _, rfl, rfl, Eqv.sb (Bool.eq_iff_iff.2 ?_)⟩
  all_goals subst hO; cases d; simp_all [std, DayD.hasW]
  all_goals (intros; omega)
def DayD.long (d : DayD) : Bool := decide (4 < d.nw) || decide (4 < d.nl) || decide (5 < d.nc)
theorem tooLong_ok (d : DayD) : Pure Try.prog 85 [dayV d] (.sb d.long) := by
  obtain ⟨O, hO⟩ : ∃ O : Ar, O = std := ⟨_, rfl⟩
  refine pure_of_body tok 3 Try.func85 en85 rfl ⟨dayV_below d, trivial⟩ Below.sb ?_
  refine SW.seqRun tok hO (by cbv <;> rfl) (by trivial) ?_
  refine SW.seqRun tok hO (by cbv <;> rfl) (by trivial) ?_
  repeat' (refine OpsW.splitG (by cbv <;> rfl) (fun h => ?_) (fun h => ?_) <;> refine OpsW.run tok hO (by cbv <;> rfl) (by trivial) ?_)
  all_goals first
    | refine SW.ret ⟨_, _, rfl, rfl, Eqv.bool (Bool.eq_iff_iff.2 ?_)⟩
    | refine SW.ret ⟨_, _, rfl, rfl, Eqv.sb (Bool.eq_iff_iff.2 ?_)⟩
  all_goals subst hO; cases d; simp_all [std, DayD.long]
  all_goals (intros; omega)
theorem isWoman_ok (i : Int) (lo hi : Int) : Pure Try.prog 115 [iV i, rangeV lo hi] (.sb (withinB lo hi 1 60)) := by
  obtain ⟨O, hO⟩ : ∃ O : Ar, O = std := ⟨_, rfl⟩
  refine pure_of_body tok 3 Try.func115 en115 rfl ⟨iV_below, rangeV_below, trivial⟩ Below.sb ?_
  refine SW.seqRun tok hO (by cbv <;> rfl) (by trivial) ?_
  refine SW.seqRun tok hO (by cbv <;> rfl) (by trivial) ?_
  refine OpsW.callB (within_ok lo hi 1 60) (by cbv <;> rfl) fun b hb => ?_
  refine OpsW.run tok hO (by cbv <;> rfl) (by trivial) ?_
  exact SW.ret ⟨_, _, rfl, rfl, Eqv.sb hb⟩
def DayD.lotOk (d : DayD) (i : Nat) : Bool := d.hasW (d.lw i) && withinB (d.llo i) (d.lhi i) 0 5000
theorem isLot_ok (d : DayD) (i : Nat) (j : Int) : Pure Try.prog 117 [dayV d, iV j, lotV d i] (.sb (d.lotOk i)) := by
  obtain ⟨O, hO⟩ : ∃ O : Ar, O = std := ⟨_, rfl⟩
  refine pure_of_body tok 3 Try.func117 en117 rfl ⟨dayV_below d, iV_below, Below.agg (AllB.ok ⟨Below.lit, Below.lit, Below.lit, trivial⟩), trivial⟩ Below.sb ?_
  refine SW.seqRun tok hO (by cbv <;> rfl) (by trivial) ?_
  refine SW.seqRun tok hO (by cbv <;> rfl) (by trivial) ?_
  refine OpsW.callB (hasWoman_ok d (d.lw i)) (by cbv <;> rfl) fun b hb => ?_
  refine OpsW.run tok hO (by cbv <;> rfl) (by trivial) ?_
  refine OpsW.splitG (by cbv <;> rfl) (fun h => ?_) (fun h => ?_) <;> refine OpsW.run tok hO (by cbv <;> rfl) (by trivial) ?_
  · refine OpsW.callB (within_ok (d.llo i) (d.lhi i) 0 5000) (by cbv <;> rfl) fun b' hb' => ?_
    refine OpsW.run tok hO (by cbv <;> rfl) (by trivial) ?_
    refine SW.ret ⟨_, _, rfl, rfl, Eqv.sb ?_⟩
    rw [hb', DayD.lotOk, ← hb, h]; rfl
  · refine SW.ret ⟨_, _, rfl, rfl, Eqv.bool ?_⟩
    rw [DayD.lotOk, ← hb, h]; rfl
end Go.Fz
