/- Own work of the verifier of watercress: FzNm2. -/
import Derived.Test.YtpefamheopplnaaMm24
import Derived.Test.YtpefamheopplnaaMm25
import Derived.Test.YtpefamheopplnaaMm26
set_option linter.unusedVariables false
set_option linter.unusedSimpArgs false
namespace Go.Fz
open Go.Proofs
set_option maxRecDepth 100000
set_option linter.unusedVariables false
theorem rng_pick (F G : Nat → Int) {a b c d : Int} (h1 : F 0 = a) (h2 : F 1 = b) (h3 : G 0 = c) (h4 : G 1 = d) : Eqv (.isl 2 2 false (rngC F G)) (.isl 2 2 false (rngC (pick2 a b) (pick2 c d))) := by
  subst h1 h2 h3 h4
  refine Eqv.isl rfl fun i k hi hk => ?_
  obtain rfl | rfl : i = 0 ∨ i = 1 := by omega
  · obtain rfl | rfl : k = 0 ∨ k = 1 := by omega
    · exact Eqv.of rfl
    · exact Eqv.of rfl
  · obtain rfl | rfl : k = 0 ∨ k = 1 := by omega
    · exact Eqv.of rfl
    · exact Eqv.of rfl
theorem nm_shape {D : AV} {n : Nat} {F0 G0 F1 G1 F2 G2 : Nat → Int} {a b c d e f g h : Int} (P : Pure Try.prog 18 [D] (.tup [.agg (bndC n F0 G0 F1 G1 F2 G2 a b c d e f g h), iV 0])) (hn : n = 2)
    (h1 : F0 0 = 20) (h2 : F0 1 = 25) (h3 : G0 0 = 22) (h4 : G0 1 = 25) (h5 : F1 0 = 22) (h6 : F1 1 = 24) (h7 : G1 0 = 25) (h8 : G1 1 = 24) (hc : c = 1) (hd : d = 5) (hg : g = 0) (hh : h = 3) :
    ∃ (X : Nat → Nat → AV) (a b e f : Int), Pure Try.prog 18 [D] (.tup [.agg [.isl 2 2 false (rngC (pick2 20 25) (pick2 22 25)), .isl 2 2 false (rngC (pick2 22 24) (pick2 25 24)), .isl 2 2 false X, iV a, iV b, iV 1, iV 5, iV e, iV f, iV 0, iV 3], iV 0]) := by
  subst hn hc hd hg hh
  exact ⟨_, _, _, _, _, P.res (Eqv.tup (.cons (Eqv.agg (.cons (rng_pick F0 G0 h1 h2 h3 h4) (.cons (rng_pick F1 G1 h5 h6 h7 h8) (.cons (Eqv.refl _) (.cons (Eqv.refl _) (.cons (Eqv.refl _) (.cons (Eqv.refl _) (.cons (Eqv.refl _) (.cons (Eqv.refl _) (.cons (Eqv.refl _) (.cons (Eqv.refl _) (.cons (Eqv.refl _) .nil)))))))))))) (.cons (Eqv.refl _) .nil)))⟩
theorem nm_bounds : ∃ (X : Nat → Nat → AV) (a b e f : Int), Pure Try.prog 18 [dayV (twoD 0)] (.tup [.agg [.isl 2 2 false (rngC (pick2 20 25) (pick2 22 25)), .isl 2 2 false (rngC (pick2 22 24) (pick2 25 24)), .isl 2 2 false X, iV a, iV b, iV 1, iV 5, iV e, iV f, iV 0, iV 3], iV 0]) := by
  have h := aw_bounds
  unfold DayD.bndV at h
  exact nm_shape h rfl (by decide +kernel) (by decide +kernel) (by decide +kernel) (by decide +kernel) (by decide +kernel) (by decide +kernel) (by decide +kernel) (by decide +kernel) (by decide +kernel) (by decide +kernel) (by decide +kernel) (by decide +kernel)
theorem nm_thick (n v : Int) (hn : 0 ≤ n ∧ n ≤ 60) (h1 : (twoD 0).thick 0 n = v) : Pure Try.prog 23 [dayV (twoD 0), iV 0, iV n] (.tup [iV v, iV 0]) := by
  have h := thicker_ok (twoD 0) (two_small 0 (by omega)) two_check0 0 (by decide) n hn
  rw [h1, show (twoD 0).thickE = 0 by decide +kernel] at h
  exact h
theorem nm_thick22 : Pure Try.prog 23 [dayV (twoD 0), iV 0, iV 22] (.tup [iV 2, iV 0]) := nm_thick 22 2 (by omega) (by decide +kernel)
theorem nm_thick19 : Pure Try.prog 23 [dayV (twoD 0), iV 0, iV 19] (.tup [iV 1, iV 0]) := nm_thick 19 1 (by omega) (by decide +kernel)
theorem nm_leave : Pure Try.prog 31 [dayV (twoD 1)] (.tup [.isl 0 1 false (intC (fun _ => 0)), iV 0]) := by
  have h := leaveA_ok (twoD 1) (two_small 1 (by omega)) two_check1
  have hf : (risL (twoD 1).nc).find? (leaveQ (twoD 1).seen.E) = some [] := by decide +kernel
  unfold leaveV at h
  rw [hf] at h
  exact h.res (Eqv.tup (.cons (Eqv.isl rfl fun i k hi _ => absurd hi (Nat.not_lt_zero i)) (.cons (Eqv.refl _) .nil)))
theorem nm_tru (a b c e : Int) (h : (twoD 1).proveT ⟨2, true, pick2 a b, 2, true, pick2 c e⟩ = true) : Pure Try.prog 38 [dayV (twoD 1), .agg [intsV 2 true (pick2 a b), intsV 2 true (pick2 c e)]] (.lit (.bool true)) :=
  (proveTruth_ok (twoD 1) (two_small 1 (by omega)) ⟨2, true, pick2 a b, 2, true, pick2 c e⟩ (show 2 < 1000 by omega) (show 2 < 1000 by omega)).res (Eqv.lit (by rw [h]))
theorem nm_fal (a b c e : Int) (h : (twoD 1).proveT ⟨2, true, pick2 a b, 2, true, pick2 c e⟩ = false) : Pure Try.prog 38 [dayV (twoD 1), .agg [intsV 2 true (pick2 a b), intsV 2 true (pick2 c e)]] (.lit (.bool false)) :=
  (proveTruth_ok (twoD 1) (two_small 1 (by omega)) ⟨2, true, pick2 a b, 2, true, pick2 c e⟩ (show 2 < 1000 by omega) (show 2 < 1000 by omega)).res (Eqv.lit (by rw [h]))
theorem nm_prove20 : Pure Try.prog 38 [dayV (twoD 1), .agg [intsV 2 true (pick2 20 25), intsV 2 true (pick2 501 610)]] (.lit (.bool true)) := nm_tru _ _ _ _ (by decide +kernel)
theorem nm_prove21 : Pure Try.prog 38 [dayV (twoD 1), .agg [intsV 2 true (pick2 21 25), intsV 2 true (pick2 501 610)]] (.lit (.bool false)) := nm_fal _ _ _ _ (by decide +kernel)
theorem nm_play (t : TruD) (h1 : t.nf < 1000) (h2 : t.ns < 1000) (h3 : (twoD 0).fits t = false) : Pure Try.prog 39 [dayV (twoD 0), truV t] (.tup [.agg [nl3, nl3, iV 0, iV 0, iV 0, iV 0], iV 2]) := by
  have h := play_ok (twoD 0) (two_small 0 (by omega)) t h1 h2
  have e : (twoD 0).playE t = 2 := by unfold DayD.playE; rw [if_pos two_check0, h3]; rfl
  have e2 : (twoD 0).playT t = .agg [nl3, nl3, iV 0, iV 0, iV 0, iV 0] := if_neg (by rw [h3]; simp)
  rw [e, e2] at h
  exact h
theorem nm_play23 : Pure Try.prog 39 [dayV (twoD 0), .agg [intsV 2 true (pick2 23 25), intsV 2 true (pick2 500 610)]] (.tup [.agg [nl3, nl3, iV 0, iV 0, iV 0, iV 0], iV 2]) := nm_play ⟨2, true, pick2 23 25, 2, true, pick2 500 610⟩ (by decide) (by decide) (by decide +kernel)
theorem nm_play20 : Pure Try.prog 39 [dayV (twoD 0), .agg [intsV 2 true (pick2 20 25), intsV 1 true (fun _ => 500)]] (.tup [.agg [nl3, nl3, iV 0, iV 0, iV 0, iV 0], iV 2]) := nm_play ⟨2, true, pick2 20 25, 1, true, fun _ => 500⟩ (by decide) (by decide) (by decide +kernel)
theorem nm_thickE (k : Nat) (hk : k ≤ 2) (hc : (twoD k).check = 0) (w n : Int) (h : (twoD k).askB w n = false) : Pure Try.prog 23 [dayV (twoD k), iV w, iV n] (.tup [iV 0, iV 2]) := by
  have hce := checkDay_ok (twoD k) (two_small k hk)
  rw [hc] at hce
  exact thicker_e (twoD k) w n 2 (by decide) (by rw [h]; exact open_range (twoD k) hce)
theorem nm_thick2 : Pure Try.prog 23 [dayV (twoD 2), iV 2, iV 20] (.tup [iV 0, iV 2]) := nm_thickE 2 (by omega) two_check2 2 20 (by decide)
theorem nm_thick61 : Pure Try.prog 23 [dayV (twoD 0), iV 0, iV 61] (.tup [iV 0, iV 2]) := nm_thickE 0 (by omega) two_check0 0 61 (by decide)
theorem two_outs2 : (twoD 2).seen.outs = [] := by
  have : (twoD 2).seen.outs.length = 0 := by decide +kernel
  exact List.eq_nil_of_length_eq_zero this
theorem nm_bounds2 : Pure Try.prog 18 [dayV (twoD 2)] (.tup [.agg bnd0, iV 11]) := by
  have h := boundsP_ok (twoD 2) (two_small 2 (by omega)) two_check2
  rw [show (twoD 2).bndR = .agg bnd0 from if_pos two_outs2, show (twoD 2).bndE = 11 from if_pos two_outs2] at h
  exact h
theorem nm_first : Pure Try.prog 30 [dayV (twoD 1)] (.tup [iV 0, iV 7]) := by
  have h := firstP_ok (twoD 1) (two_small 1 (by omega)) two_check1
  have hv : ((twoD 1).nc : Int) ≤ (twoD 1).firstV := by decide +kernel
  rw [show (twoD 1).firstE = 7 from if_pos hv, if_pos hv] at h
  exact h
def unD : DayD := { twoD 0 with wlo := pick2 20 25, whi := pick2 20 25, llo := pick2 400 610, lhi := pick2 500 610 }
theorem un_small : unD.small := ⟨by show 2 < 4611686018427387904; omega, by show 2 < 4611686018427387904; omega, by show 0 < 4611686018427387904; omega⟩
theorem un_check : unD.check = 0 := by decide +kernel
theorem un_len : unD.seen.outs.length = 101 := by decide +kernel
theorem un_ne : unD.seen.outs ≠ [] := fun h => by
  have := un_len
  rw [h] at this; cases this
theorem un_find : (risL unD.nw).find? (unD.setQ unD.seen.outs) = none := by decide +kernel
theorem nm_fewest : Pure Try.prog 27 [dayV unD] (.tup [nl3, iV 10]) := by
  have h := fewestA_ok unD un_small un_check
  rw [show unD.fewL = fewV (unD.setQ unD.seen.outs) unD.nw from if_neg un_ne, show unD.fewN = fewE (unD.setQ unD.seen.outs) unD.nw from if_neg un_ne] at h
  unfold fewV fewE at h
  rw [un_find] at h
  exact h
theorem nm_check (d : DayD) (hs : d.small) (c : Int) (h : d.check = c) : Pure Try.prog 40 [dayV d] (.lit (.int .i64 c)) := by
  have := checkDay_ok d hs
  rw [h] at this; exact this
theorem small_of {d : DayD} (h1 : d.nw < 1000) (h2 : d.nl < 1000) (h3 : d.nc < 1000) : d.small := ⟨by omega, by omega, by omega⟩
def zeroD : DayD := { hand := 0, flat := 0, nw := 0, wlo := fun _ => 0, whi := fun _ => 0, nl := 0, lw := fun _ => 0, llo := fun _ => 0, lhi := fun _ => 0, nc := 0, ck := fun _ => 0, cw := fun _ => 0, clo := fun _ => 0, chi := fun _ => 0 }
def nmD0 : DayD := { twoD 1 with hand := 0 }
def nmD1 : DayD := { twoD 1 with flat := 21 }
def nmD2 : DayD := { twoD 1 with wlo := pick2 20 0, whi := pick2 22 25 }
def nmD3 : DayD := { twoD 1 with lw := pick2 2 1 }
def nmD4 : DayD := { twoD 1 with ck := pick2 6 1 }
def nmD5 : DayD := { twoD 1 with cw := pick2 1 0 }
def nmD6 : DayD := { twoD 1 with nc := 6, ck := fun _ => 0, cw := fun _ => 0, clo := fun _ => 0, chi := fun _ => 0 }
def nmD7 : DayD := { twoD 1 with llo := pick2 0 610, lhi := pick2 700 610 }
theorem nm_c0 : Pure Try.prog 40 [dayV nmD0] (.lit (.int .i64 1)) := nm_check _ (small_of (by decide) (by decide) (by decide)) 1 (by decide +kernel)
theorem nm_c1 : Pure Try.prog 40 [dayV nmD1] (.lit (.int .i64 1)) := nm_check _ (small_of (by decide) (by decide) (by decide)) 1 (by decide +kernel)
theorem nm_c2 : Pure Try.prog 40 [dayV nmD2] (.lit (.int .i64 1)) := nm_check _ (small_of (by decide) (by decide) (by decide)) 1 (by decide +kernel)
theorem nm_c3 : Pure Try.prog 40 [dayV nmD3] (.lit (.int .i64 1)) := nm_check _ (small_of (by decide) (by decide) (by decide)) 1 (by decide +kernel)
theorem nm_c4 : Pure Try.prog 40 [dayV nmD4] (.lit (.int .i64 1)) := nm_check _ (small_of (by decide) (by decide) (by decide)) 1 (by decide +kernel)
theorem nm_c5 : Pure Try.prog 40 [dayV nmD5] (.lit (.int .i64 1)) := nm_check _ (small_of (by decide) (by decide) (by decide)) 1 (by decide +kernel)
theorem nm_c6 : Pure Try.prog 40 [dayV nmD6] (.lit (.int .i64 3)) := nm_check _ (small_of (by decide) (by decide) (by decide)) 3 (by decide +kernel)
theorem nm_c7 : Pure Try.prog 40 [dayV nmD7] (.lit (.int .i64 3)) := nm_check _ (small_of (by decide) (by decide) (by decide)) 3 (by decide +kernel)
theorem nm_cz : Pure Try.prog 40 [dayV zeroD] (.lit (.int .i64 1)) := nm_check _ (small_of (by decide) (by decide) (by decide)) 1 (by decide +kernel)
theorem nm_rng (a b c e : Int) : Pure Try.prog 36 [.isl 2 2 false (rngC (pick2 a b) (pick2 c e)), .isl 2 2 true (rngC (pick2 a b) (pick2 c e))] (.lit (.bool true)) :=
  Pure.eqv (ranges36_ok 2 (pick2 a b) (pick2 c e) (by omega)) (.cons (Eqv.refl _) (.cons Eqv.islX .nil))
end Go.Fz
