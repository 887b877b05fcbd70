/- Own work of the verifier of watercress: FzC18, FzF1. -/
import Derived.Test.YtpefamheopplnaaMa15
import Derived.Test.YtpefamheopplnaaMa13
set_option linter.unusedVariables false
set_option linter.unusedSimpArgs false
namespace Go.Fz
open Go.Proofs
set_option maxRecDepth 100000
def tkZ (d : DayD) : St := ⟨[(1, .cells none false stZ), (0, .cells none false (dayC d))], 2⟩
set_option maxHeartbeats 8000000 in
theorem thicker_z (d : DayD) (w n : Int) (hn : 0 ≤ n ∧ n ≤ 60)
    (e1 : Pure Try.prog 73 [dayV d, iV w] (.lit (.bool true)))
    (e2 : Pure Try.prog 57 [dayV d, .lit (.bool true)] (.tup [.agg stZ, iV 11])) (g : Nat → AV) (h : AllP (fun p => g p.1 = p.2) [(1, iV w), (2, iV n), (3, .ptr 0 0)]) :
    SW Try.prog none (nthC 1 (bodyF Try.f23)) (midK 58 [(1, iV w), (2, iV n), (3, .ptr 0 0), (8, .ptr 1 0), (9, iV 11)] (tkZ d)) ⟨⟨58, g⟩, []⟩ ⟨[(0, .cells none false (dayC d))], 1⟩ := by
  obtain ⟨O, hO⟩ : ∃ O : Ar, O = std := ⟨_, rfl⟩
  obtain ⟨g1, g2, g3, _⟩ := h
  simp only at g1 g2 g3
  rw [← updT_self g1, ← updT_self g2, ← updT_self g3]
  refine SW.ren ?_
  refine SW.runD tok mixed hO (by rfl) (by cbv <;> rfl) (by trivial) ?_
  refine AnyE.many [3, 16] (by cbv <;> rfl) (by rfl) ⟨?_, ?_, trivial⟩
  · refine PickE.callQ e1 (by cbv <;> rfl) (by cbv <;> rfl) ?_ ?_
    · exact (by repeat (first | exact trivial | refine And.intro (by first | exact lv_of hO (by cbv <;> rfl) (by trivial) | (cbv <;> rfl)) ?_))
    refine AnyE.run tok hO (by rfl) (by cbv <;> rfl) (by trivial) ?_
    refine AnyE.dec tok hO (by rfl) (by cbv <;> rfl) (by trivial) (fun h1 => ?_) (fun h1 => ?_)
    rotate_left
    · exfalso; subst hO; simp [std] at h1; omega
    refine AnyE.run tok hO (by rfl) (by cbv <;> rfl) (by trivial) ?_
    refine AnyE.dec tok hO (by rfl) (by cbv <;> rfl) (by trivial) (fun h2 => ?_) (fun h2 => ?_)
    rotate_left
    · exfalso; subst hO; simp [std] at h2; omega
    refine AnyE.run tok hO (by rfl) (by cbv <;> rfl) (by trivial) ?_
    refine AnyE.many [12, 16] (by cbv <;> rfl) (by rfl) ⟨?_, ?_, trivial⟩
    · skip
      refine PickE.callQ e2 (by cbv <;> rfl) (by cbv <;> rfl) ?_ ?_
      · exact (by repeat (first | exact trivial | refine And.intro (by first | exact lv_of hO (by cbv <;> rfl) (by trivial) | (cbv <;> rfl)) ?_))
      refine AnyE.run tok hO (by rfl) (by cbv <;> rfl) (by trivial) ?_
      refine AnyE.effK tok hO (by cbv <;> rfl) (by cbv <;> rfl) (by trivial) ?_ ?_
      · exact (by repeat (first | exact trivial | refine And.intro (by first | exact lv_of hO (by cbv <;> rfl) (by trivial) | (cbv <;> rfl)) ?_))
      refine AnyE.run tok hO (by rfl) (by cbv <;> rfl) (by trivial) ?_
      refine AnyE.effK tok hO (by cbv <;> rfl) (by cbv <;> rfl) (by trivial) ?_ ?_
      · exact (by repeat (first | exact trivial | refine And.intro (by first | exact lv_of hO (by cbv <;> rfl) (by trivial) | (cbv <;> rfl)) ?_))
      refine AnyE.run tok hO (by rfl) (by cbv <;> rfl) (by trivial) ?_
      refine ⟨tabR [(1, 1)], ⟨⟨58, getT [(1, iV w), (2, iV n), (3, .ptr 0 0), (8, .ptr 1 0), (9, iV 11)]⟩, []⟩, tkZ d, ?_, rfl, _, rfl, ⟨rfl, rfl, rfl, rfl, rfl, trivial⟩, rfl⟩
      exact WeakR.tab rfl rfl (by simp) (by rfl) (by show 1 ≤ 2; omega) (by rfl) ⟨RenV.closed Below.lit, RenV.closed Below.lit, RenV.ptr (by omega), RenV.ptr (by omega), RenV.closed Below.lit, trivial⟩ ⟨⟨by omega, _, rfl, .cells (RenVs.closed (AllB.ok ⟨Below.lit, Below.lit, Below.lit, Below.lit, Below.lit, Below.lit, Below.lit, trivial⟩)), rfl⟩, ⟨by omega, _, rfl, .cells (RenVs.closed (dayC_below d)), rfl⟩, trivial⟩
    · refine PickE.effL tok hO (by cbv <;> rfl) (by cbv <;> rfl) (by trivial) ?_ ?_
      · exact (by repeat (first | exact trivial | refine And.intro (by first | exact LV.of (lv_of hO (by cbv <;> rfl) (by trivial)) | exact ⟨_, lv_of hO (by cbv <;> rfl) (by trivial), Eqv.lit h1⟩ | exact ⟨_, lv_of hO (by cbv <;> rfl) (by trivial), Eqv.lit h2⟩) ?_))
      refine AnyE.run tok hO (by rfl) (by cbv <;> rfl) (by trivial) ?_
      refine AnyE.many [12] (by cbv <;> rfl) (by rfl) ⟨?_, trivial⟩
      refine PickE.callQ e2 (by cbv <;> rfl) (by cbv <;> rfl) ?_ ?_
      · exact (by repeat (first | exact trivial | refine And.intro (by first | exact lv_of hO (by cbv <;> rfl) (by trivial) | (cbv <;> rfl)) ?_))
      refine AnyE.run tok hO (by rfl) (by cbv <;> rfl) (by trivial) ?_
      refine AnyE.effK tok hO (by cbv <;> rfl) (by cbv <;> rfl) (by trivial) ?_ ?_
      · exact (by repeat (first | exact trivial | refine And.intro (by first | exact lv_of hO (by cbv <;> rfl) (by trivial) | (cbv <;> rfl)) ?_))
      refine AnyE.run tok hO (by rfl) (by cbv <;> rfl) (by trivial) ?_
      refine ⟨tabR [(1, 1)], ⟨⟨58, getT [(1, iV w), (2, iV n), (3, .ptr 0 0), (8, .ptr 1 0), (9, iV 11)]⟩, []⟩, tkZ d, ?_, rfl, _, rfl, ⟨rfl, rfl, rfl, rfl, rfl, trivial⟩, rfl⟩
      exact WeakR.tab rfl rfl (by simp) (by rfl) (by show 1 ≤ 2; omega) (by rfl) ⟨RenV.closed Below.lit, RenV.closed Below.lit, RenV.ptr (by omega), RenV.ptr (by omega), RenV.closed Below.lit, trivial⟩ ⟨⟨by omega, _, rfl, .cells (RenVs.closed (AllB.ok ⟨Below.lit, Below.lit, Below.lit, Below.lit, Below.lit, Below.lit, Below.lit, trivial⟩)), rfl⟩, ⟨by omega, _, rfl, .cells (RenVs.closed (dayC_below d)), rfl⟩, trivial⟩
  · refine PickE.eff tok hO (by cbv <;> rfl) (by cbv <;> rfl) (by trivial) ?_ ?_
    · exact (by repeat (first | exact trivial | refine And.intro (by first | exact lv_of hO (by cbv <;> rfl) (by trivial) | (cbv <;> rfl)) ?_))
    refine AnyE.run tok hO (by rfl) (by cbv <;> rfl) (by trivial) ?_
    refine AnyE.many [3] (by cbv <;> rfl) (by rfl) ⟨?_, trivial⟩
    refine PickE.callQ e1 (by cbv <;> rfl) (by cbv <;> rfl) ?_ ?_
    · exact (by repeat (first | exact trivial | refine And.intro (by first | exact lv_of hO (by cbv <;> rfl) (by trivial) | (cbv <;> rfl)) ?_))
    refine AnyE.run tok hO (by rfl) (by cbv <;> rfl) (by trivial) ?_
    refine AnyE.dec tok hO (by rfl) (by cbv <;> rfl) (by trivial) (fun h1 => ?_) (fun h1 => ?_)
    rotate_left
    · exfalso; subst hO; simp [std] at h1; omega
    refine AnyE.run tok hO (by rfl) (by cbv <;> rfl) (by trivial) ?_
    refine AnyE.dec tok hO (by rfl) (by cbv <;> rfl) (by trivial) (fun h2 => ?_) (fun h2 => ?_)
    rotate_left
    · exfalso; subst hO; simp [std] at h2; omega
    refine AnyE.run tok hO (by rfl) (by cbv <;> rfl) (by trivial) ?_
    refine AnyE.many [12] (by cbv <;> rfl) (by rfl) ⟨?_, trivial⟩
    refine PickE.callQ e2 (by cbv <;> rfl) (by cbv <;> rfl) ?_ ?_
    · exact (by repeat (first | exact trivial | refine And.intro (by first | exact lv_of hO (by cbv <;> rfl) (by trivial) | (cbv <;> rfl)) ?_))
    refine AnyE.run tok hO (by rfl) (by cbv <;> rfl) (by trivial) ?_
    refine AnyE.effK tok hO (by cbv <;> rfl) (by cbv <;> rfl) (by trivial) ?_ ?_
    · exact (by repeat (first | exact trivial | refine And.intro (by first | exact lv_of hO (by cbv <;> rfl) (by trivial) | (cbv <;> rfl)) ?_))
    refine AnyE.run tok hO (by rfl) (by cbv <;> rfl) (by trivial) ?_
    refine ⟨tabR [(1, 1)], ⟨⟨58, getT [(1, iV w), (2, iV n), (3, .ptr 0 0), (8, .ptr 1 0), (9, iV 11)]⟩, []⟩, tkZ d, ?_, rfl, _, rfl, ⟨rfl, rfl, rfl, rfl, rfl, trivial⟩, rfl⟩
    exact WeakR.tab rfl rfl (by simp) (by rfl) (by show 1 ≤ 2; omega) (by rfl) ⟨RenV.closed Below.lit, RenV.closed Below.lit, RenV.ptr (by omega), RenV.ptr (by omega), RenV.closed Below.lit, trivial⟩ ⟨⟨by omega, _, rfl, .cells (RenVs.closed (AllB.ok ⟨Below.lit, Below.lit, Below.lit, Below.lit, Below.lit, Below.lit, Below.lit, trivial⟩)), rfl⟩, ⟨by omega, _, rfl, .cells (RenVs.closed (dayC_below d)), rfl⟩, trivial⟩
set_option maxHeartbeats 8000000 in
theorem thicker_none (d : DayD) (w : Nat) (n : Int) (hn : 0 ≤ n ∧ n ≤ 60)
    (e1 : Pure Try.prog 73 [dayV d, iV w] (.lit (.bool true))) (e2 : Pure Try.prog 57 [dayV d, .lit (.bool true)] (.tup [.agg stZ, iV 11])) :
    Pure Try.prog 23 [dayV d, iV w, iV n] (.tup [iV 0, iV 11]) := by
  obtain ⟨O, hO⟩ : ∃ O : Ar, O = std := ⟨_, rfl⟩
  refine pure_of_body tok 3 Try.func23 en23 rfl ⟨dayV_below d, Below.lit, Below.lit, trivial⟩ (Below.tup (AllB.ok ⟨Below.lit, Below.lit, trivial⟩)) ?_
  refine SW.seqRun tok hO (by cbv <;> rfl) (by trivial) ?_
  refine SW.seq ((thicker_z d w n hn e1 e2 _ ⟨rfl, rfl, rfl, trivial⟩).mono fun e f st hm => ?_)
  obtain ⟨rfl, g, rfl, ⟨g1, g2, g3, g8, g9, _⟩, rfl⟩ := hm
  simp only at g1 g2 g3 g8 g9
  rw [← updT_self g1, ← updT_self g2, ← updT_self g8, ← updT_self g9]
  show SW _ _ _ _ _ _
  refine SW.seq ?_
  refine SW.seqRun tok hO (by cbv <;> rfl) (by trivial) ?_
  refine SW.condS (by cbv <;> rfl) (fun h1 => ?_) (fun h1 => ?_)
  · refine SW.seqRun tok hO (by cbv <;> rfl) (by trivial) ?_
    exact SW.ret ⟨_, _, rfl, rfl, Eqv.of rfl⟩
  · exfalso
    subst hO; simp [std] at h1
def DayD.thick (d : DayD) (w : Nat) (n : Int) : Int := if d.seen.outs = [] then 0 else verdict (fun i => decide (n < nthF d.seen.outs i w)) d.seen.outs.length
def DayD.thickE (d : DayD) : Int := if d.seen.outs = [] then 11 else 0
theorem foldE_outs (d : DayD) (hc : d.check = 0) : d.seen.outs.length ≤ 2000 := by
  have h1 := foldE_len (stNx d) (fun a => a.outs.length) (d.nw + d.nl) d.ulo d.uhi (fun a f => next_len d a f) (d.nw + d.nl) 0 (fun _ => 0) pr0
  have h2 := cnt_small hc
  have h3 : pr0.outs.length = 0 := rfl
  have h4 : d.seen.outs.length ≤ pr0.outs.length + cntE d.ulo d.uhi (d.nw + d.nl) 0 := h1
  omega
theorem thicker_ok (d : DayD) (hs : d.small) (hc : d.check = 0) (w : Nat) (hw : w < d.nw) (n : Int) (hn : 0 ≤ n ∧ n ≤ 60) : Pure Try.prog 23 [dayV d, iV w, iV n] (.tup [iV (d.thick w n), iV d.thickE]) := by
  have e1 : Pure Try.prog 73 [dayV d, iV w] (.lit (.bool true)) := (hasWoman_ok d w).res (Eqv.lit (by
    simp only [DayD.hasW, Bool.and_eq_true, decide_eq_true_eq]
    omega))
  cases ho : d.seen.outs with
  | nil =>
    have h1 : d.thick w n = 0 := if_pos ho
    have h2 : d.thickE = 11 := if_pos ho
    rw [h1, h2]
    exact thicker_none d w n hn e1 (open_none d hs hc ho)
  | cons f l =>
    have hlen := foldE_outs d hc
    rw [ho] at hlen
    have hne : d.seen.outs ≠ [] := fun e => by rw [ho] at e; cases e
    have h1 : d.thick w n = verdict (fun i => decide (n < nthF (f :: l) i w)) (l.length + 1) := by
      unfold DayD.thick
      rw [if_neg hne, ho]; rfl
    have h2 : d.thickE = 0 := if_neg hne
    rw [h1, h2]
    have e2 := open_ok d hs hc f l ho
    have hW : workM d (f :: l) = fun k => .agg [iV d.hand, iV d.flat, womsV d, lotsV d, cntsV d, .isl (l.length + 1) 8 false (outG d (f :: l)), .mp k] := rfl
    rw [hW, outG_X] at e2
    exact thicker_core d w n hw hn (l.length + 1) _ _ _ _ _ _ _ _ _ _ (by have : (f :: l).length = l.length + 1 := rfl; omega) e1 e2
theorem someB_mono {b c : Nat → Bool} {x : Bool} {n : Nat} (h : ∀ j, j < n → b j = x → c j = x) (hb : someB b x n = true) : someB c x n = true := by
  unfold someB at *
  rw [decide_eq_true_eq, bmP_mem] at *
  obtain ⟨j, h1, h2⟩ := hb
  exact ⟨j, h1, h j h1 h2⟩
theorem verdict_always {b : Nat → Bool} {n : Nat} : verdict b n = 1 ↔ someB b false n = false := by
  unfold verdict
  cases someB b false n <;> cases someB b true n <;> simp
theorem verdict_never {b : Nat → Bool} {n : Nat} (h0 : 0 < n) : verdict b n = 2 ↔ someB b true n = false := by
  have h : someB b false n = false → someB b true n = true := fun h => by
    cases hb : b 0 with
    | true => unfold someB; rw [decide_eq_true_eq, bmP_mem]; exact ⟨0, h0, hb⟩
    | false =>
      have : someB b false n = true := by unfold someB; rw [decide_eq_true_eq, bmP_mem]; exact ⟨0, h0, hb⟩
      rw [this] at h; cases h
  unfold verdict
  cases h1 : someB b false n <;> cases h2 : someB b true n <;> simp_all
theorem thick_always {d : DayD} {w : Nat} {m n : Int} (h : n ≤ m) (hm : d.thick w m = 1) : d.thick w n = 1 := by
  unfold DayD.thick at *
  split at hm
  · omega
  · rename_i hne
    rw [if_neg hne]
    rw [verdict_always] at *
    cases hb : someB (fun i => decide (n < nthF d.seen.outs i w)) false d.seen.outs.length with
    | false => rfl
    | true =>
      have := someB_mono (c := fun i => decide (m < nthF d.seen.outs i w)) (fun j _ hj => by simp at *; omega) hb
      rw [this] at hm; cases hm
theorem thick_never {d : DayD} {w : Nat} {m n : Int} (h : n ≤ m) (hn : d.thick w n = 2) : d.thick w m = 2 := by
  unfold DayD.thick at *
  split at hn
  · omega
  · rename_i hne
    rw [if_neg hne]
    have h0 : 0 < d.seen.outs.length := by
      cases ho : d.seen.outs with
      | nil => exact absurd ho hne
      | cons f l => simp
    rw [verdict_never h0] at *
    cases hb : someB (fun i => decide (m < nthF d.seen.outs i w)) true d.seen.outs.length with
    | false => rfl
    | true =>
      have := someB_mono (c := fun i => decide (n < nthF d.seen.outs i w)) (fun j _ hj => by simp at *; omega) hb
      rw [this] at hn; cases hn
end Go.Fz
namespace Go.Fz
open Go.Proofs
set_option maxRecDepth 100000
set_option maxHeartbeats 16000000 in
theorem bunchNumber_ok (haw : Pure Try.prog 17 [] (.lit (.bool true))) (d : DayD) (a b c : Int) (ha0 : 0 ≤ a) (ha1 : a ≤ 255) (hb0 : 0 ≤ b) (hb1 : b ≤ 255) (hc0 : 0 ≤ c) (hc1 : c ≤ 255) :
    Pure Try.prog 15 [dayV d, .lit (.int .u8 a), .lit (.int .u8 b), .lit (.int .u8 c)] (.lit (.bool true)) := by
  obtain ⟨O, hO⟩ : ∃ O : Ar, O = std := ⟨_, rfl⟩
  refine pure_of_body tok 3 Try.func15 en15 rfl ⟨dayV_below d, Below.lit, Below.lit, Below.lit, trivial⟩ Below.lit ?_
  refine SW.seqRun tok hO (by cbv <;> rfl) (by trivial) ?_
  refine SW.seq ?_
  refine SW.seqRun tok hO (by cbv <;> rfl) (by trivial) ?_
  have call := ready_ok d
  generalize hR : d.readyB = r at call
  refine OpsW.callP call (by cbv <;> rfl) ?_
  have hnot : O.not r = !r := by subst hO; rfl
  refine OpsW.run tok hO (by cbv <;> rfl) (by trivial) ?_
  refine SW.condS (by cbv <;> rfl) (fun h1 => ?_) (fun h1 => SW.skip ?_)
  · refine SW.seqRun tok hO (by cbv <;> rfl) (by trivial) ?_
    refine OpsW.callP haw (by cbv <;> rfl) ?_
    refine OpsW.run tok hO (by cbv <;> rfl) (by trivial) ?_
    exact SW.ret ⟨_, _, rfl, rfl, Eqv.refl _⟩
  have hr : r = true := by have := hnot.symm.trans h1; simpa using this
  rw [hr] at hR
  obtain ⟨gd, _⟩ := ready_good hR
  have hF : d.faultN = 0 := by
    simp only [DayD.readyB, Bool.and_eq_true, decide_eq_true_eq] at hR; exact hR.2
  have hc : d.check = 0 := (check_eq d).trans hF
  have hnw := gd.nw
  have hnl := gd.nl
  have hncc := gd.nc
  have hpos := gd.pos
  have hsm : d.small := ⟨by omega, by omega, by omega⟩
  have hday := day_ok d (by omega) (by omega) (by omega)
  obtain ⟨k, hk, hK⟩ := pick_in hO ha0 ha1 hpos (by omega)
  obtain ⟨m1, m2⟩ := tmod_in (q := b) (z := 61) hb0 (by omega)
  obtain ⟨c1, c2⟩ := tmod_in (q := c) (z := 9) hc0 (by omega)
  have hN : O.bin .rem .i64 (O.conv .i64 b) 61 = b.tmod 61 := by
    subst hO
    show (wrp .i64 b).tmod 61 = _
    rw [wrp_in (by simp only [IntKind.lo]; omega) (by simp only [IntKind.hi]; omega)]
  obtain ⟨M, hM⟩ : ∃ M, O.mn 60 (O.bin .add .i64 (b.tmod 61) (O.bin .rem .i64 (O.conv .i64 c) 9)) = M := ⟨_, rfl⟩
  have hMb : b.tmod 61 ≤ M ∧ M ≤ 60 := by
    rw [← hM]
    subst hO
    show _ ≤ (if wrp .i64 (b.tmod 61 + (wrp .i64 c).tmod 9) < 60 then wrp .i64 (b.tmod 61 + (wrp .i64 c).tmod 9) else 60) ∧ (if wrp .i64 (b.tmod 61 + (wrp .i64 c).tmod 9) < 60 then wrp .i64 (b.tmod 61 + (wrp .i64 c).tmod 9) else 60) ≤ 60
    rw [wrp_in (n := c) (by simp only [IntKind.lo]; omega) (by simp only [IntKind.hi]; omega), wrp_in (by simp only [IntKind.lo]; omega) (by simp only [IntKind.hi]; omega)]
    split <;> omega
  generalize b.tmod 61 = N at hN hM hMb m1 m2
  have e1 := thicker_ok d hsm hc k hk N (by omega)
  have e2 := thicker_ok d hsm hc k hk M (by omega)
  have k1 := thick_always (d := d) (w := k) hMb.1
  have k2 := thick_never (d := d) (w := k) hMb.1
  refine SW.seq ((show SW Try.prog none _ (midK 84 [(3, .lit (.int .u8 c)), (4, .ptr 0 0), (9, iV k), (10, iV N)] ⟨[(0, .cells none false (dayC d))], 1⟩) _ _ from ?_).mono fun e f st hm => ?_)
  · refine SW.run tok hO (by cbv <;> rfl) ?_ ?_
    · have h9 : Int.ofNat d.nw ≠ 0 := by
        have : (d.nw : Int) ≠ 0 := by omega
        exact this
      first
        | exact ⟨h9, (by decide : (61 : Int) ≠ 0)⟩
        | exact h9
        | exact ⟨(by decide : (61 : Int) ≠ 0), h9⟩
        | exact ⟨h9, by decide, trivial⟩
    · exact ⟨rfl, _, rfl, ⟨rfl, rfl, congrArg (fun z => AV.lit (.int .i64 z)) hK, congrArg (fun z => AV.lit (.int .i64 z)) hN, trivial⟩, rfl⟩
  obtain ⟨rfl, g, rfl, ⟨g3, g4, g9, g10, _⟩, rfl⟩ := hm
  simp only at g3 g4 g9 g10
  rw [← updT_self g3, ← updT_self g4, ← updT_self g9, ← updT_self g10]
  show SW _ _ _ _ _ _
  refine SW.seq ((show SW Try.prog none _ (midK 84 [(4, .ptr 0 0), (9, iV k), (10, iV N), (11, iV M)] ⟨[(0, .cells none false (dayC d))], 1⟩) _ _ from ?_).mono fun e f st hm => ?_)
  · refine SW.run tok hO (by cbv <;> rfl) (by first | exact (by decide : (9 : Int) ≠ 0) | exact ⟨(by decide : (9 : Int) ≠ 0), trivial⟩) ?_
    exact ⟨rfl, _, rfl, ⟨rfl, rfl, rfl, congrArg (fun z => AV.lit (.int .i64 z)) hM, trivial⟩, rfl⟩
  clear g3 g4 g9 g10
  obtain ⟨rfl, g, rfl, ⟨g4, g9, g10, g11, _⟩, rfl⟩ := hm
  simp only at g4 g9 g10 g11
  rw [← updT_self g4, ← updT_self g9, ← updT_self g10, ← updT_self g11]
  have hE : d.thickE = 11 ∨ d.thickE = 0 := by
    unfold DayD.thickE; split
    · exact .inl rfl
    · exact .inr rfl
  generalize d.thickE = E at hE e1 e2
  generalize d.thick k N = u at e1 k1 k2
  generalize d.thick k M = v at e2 k1 k2
  show SW _ _ _ _ _ _
  refine SW.seqRun tok hO (by cbv <;> rfl) (by trivial) ?_
  refine OpsW.callP hday (by cbv <;> rfl) ?_
  refine OpsW.run tok hO (by cbv <;> rfl) (by trivial) ?_
  refine OpsW.callP e1 (by cbv <;> rfl) ?_
  refine OpsW.run tok hO (by cbv <;> rfl) (by trivial) ?_
  refine SW.seqRun tok hO (by cbv <;> rfl) (by trivial) ?_
  refine OpsW.callP hday (by cbv <;> rfl) ?_
  refine OpsW.run tok hO (by cbv <;> rfl) (by trivial) ?_
  refine OpsW.callP e2 (by cbv <;> rfl) ?_
  refine OpsW.run tok hO (by cbv <;> rfl) (by trivial) ?_
  refine SW.seq ?_
  refine SW.seqRun tok hO (by cbv <;> rfl) (by trivial) ?_
  refine SW.condS (by cbv <;> rfl) (fun h2 => ?_) (fun h2 => SW.skip ?_)
  · have hE0 : E ≠ 0 := by subst hO; simpa [std] using h2
    have hE1 : E = 11 := by omega
    subst hE1
    refine SW.seqRun tok hO (by cbv <;> rfl) (by trivial) ?_
    repeat' first
      | (refine OpsW.splitG (by cbv <;> rfl) (fun h => ?_) (fun h => ?_) <;> refine OpsW.run tok hO (by cbv <;> rfl) (by trivial) ?_)
      | (refine OpsW.callP haw (by cbv <;> rfl) ?_; refine OpsW.run tok hO (by cbv <;> rfl) (by trivial) ?_)
    all_goals first
      | exact SW.ret ⟨_, _, rfl, rfl, Eqv.refl _⟩
      | (exfalso; subst hO; simp_all [std]; done)
  · have hE1 : E = 0 := by subst hO; simpa [std] using h2
    subst hE1
    refine SW.seqRun tok hO (by cbv <;> rfl) (by trivial) ?_
    repeat' first
      | (refine OpsW.splitG (by cbv <;> rfl) (fun h => ?_) (fun h => ?_) <;> refine OpsW.run tok hO (by cbv <;> rfl) (by trivial) ?_)
      | (refine OpsW.callP haw (by cbv <;> rfl) ?_; refine OpsW.run tok hO (by cbv <;> rfl) (by trivial) ?_)
    all_goals first
      | exact SW.ret ⟨_, _, rfl, rfl, Eqv.refl _⟩
      | (exfalso; subst hO; simp_all [std]; done)
end Go.Fz
