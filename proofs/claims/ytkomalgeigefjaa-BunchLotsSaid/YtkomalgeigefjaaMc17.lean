/- Own work of the verifier of watercress: FzB40. -/
import Derived.Test.YtkomalgeigefjaaMc16
set_option linter.unusedVariables false
set_option linter.unusedSimpArgs false
namespace Go.Fz
open Go.Proofs
set_option maxRecDepth 100000
theorem tmod_in {q z : Int} (hq : 0 ≤ q) (hz : 1 ≤ z) : 0 ≤ q.tmod z ∧ q.tmod z < z := by
  obtain ⟨_, _, _, h4, h5⟩ := tdiv_nn hq hz
  exact ⟨h4, h5⟩
theorem pick_in {O : Ar} (hO : O = std) {a : Int} {n : Nat} (h0 : 0 ≤ a) (h1 : a ≤ 255) (hn : 0 < n) (hn2 : n < 1000) : ∃ k : Nat, k < n ∧ O.bin .rem .i64 (O.conv .i64 a) (Int.ofNat n) = Int.ofNat k := by
  obtain ⟨r1, r2⟩ := tmod_in (q := a) (z := n) h0 (by omega)
  refine ⟨(a.tmod n).toNat, by omega, ?_⟩
  subst hO
  show (wrp .i64 a).tmod n = ((a.tmod n).toNat : Int)
  rw [wrp_in (by simp only [IntKind.lo]; omega) (by simp only [IntKind.hi]; omega)]
  omega
theorem manyL_in {d : DayD} (g : d.Good) : 1 ≤ d.manyL d.nl ∧ d.manyL d.nl ≤ 3000 := by
  have hr : ∀ i, i < d.nw + d.nl → 0 ≤ d.ulo i ∧ d.ulo i ≤ d.uhi i ∧ d.uhi i ≤ 5000 := fun i hi => by
    unfold DayD.ulo DayD.uhi
    by_cases hc : i < d.nw
    · have := g.wom i hc
      simp only [hc, if_true]; omega
    · have := g.lot (i - d.nw) (by omega)
      simp only [hc, if_false]; omega
  rw [manyL_mn]
  exact (mn_pr d.ulo d.uhi (d.nw + d.nl) hr (d.nw + d.nl) (Nat.le_refl _)).1
theorem play_of {d : DayD} (g : d.Good) (hc : d.check = 0) {t : TruD} (hf : d.fits t = true) :
    Pure Try.prog 9 [dayV d, truV t.copy] (.tup [.agg (talL d.nw (d.bun t) (d.lef t) (d.tally t).hands (d.tally t).loose (d.tally t).flats (d.tally t).spare), iV 0]) := by
  obtain ⟨h1, h2, _, _⟩ := fits_true hf
  have hnw := g.nw
  have hnl := g.nl
  have hnc := g.nc
  have hp := play_ok d ⟨by omega, by omega, by omega⟩ t.copy (by show t.nf < 1000; omega) (by show t.ns < 1000; omega)
  have hf2 : d.fits t.copy = true := hf
  have e1 : d.playT t.copy = talV (d.tally t.copy) := by unfold DayD.playT; rw [if_pos ⟨hc, hf2⟩]
  have e2 : d.playE t.copy = 0 := by unfold DayD.playE; rw [if_pos hc, hf2]; rfl
  rw [e1, e2] at hp
  exact hp
theorem rev_len {nl k m : Nat} (hk : k < nl) (hm : m < nl) (h : m ≠ k) : lenF nl k (m + 1) ≠ nl - 1 - k ∧ lenF nl k (m + 1) ≠ nl - k ∧ revI nl k (lenF nl k (m + 1)) = m := by
  unfold lenF revI
  by_cases h1 : m + 1 ≤ k
  · rw [if_pos h1]
    refine ⟨by omega, by omega, ?_⟩
    rw [if_neg (by omega)]; omega
  · rw [if_neg h1]
    refine ⟨by omega, by omega, ?_⟩
    rw [if_pos (by omega)]; omega
theorem rev_k {nl k : Nat} (hk : k < nl) : lenF nl k (k + 1) = nl - 1 - k ∧ lenF nl k (k + 1) + 1 = nl - k ∧ revI nl k (nl - 1 - k) = k ∧ revI nl k (nl - k) = k := by
  unfold lenF revI
  rw [if_neg (by omega), if_pos (Nat.le_refl _), if_neg (by omega)]
  omega
theorem partF_a {nl k : Nat} {f : Nat → Int} {n m : Int} : partF nl k f n m (nl - 1 - k) = n := if_pos rfl
theorem partF_b {nl k : Nat} (hk : k < nl) {f : Nat → Int} {n m : Int} : partF nl k f n m (nl - k) = m := by
  unfold partF; rw [if_neg (by omega), if_pos rfl]
theorem partF_c {nl k p : Nat} {f : Nat → Int} {n m : Int} (h1 : p ≠ nl - 1 - k) (h2 : p ≠ nl - k) : partF nl k f n m p = f (revI nl k p) := by
  unfold partF; rw [if_neg h1, if_neg h2]
set_option maxHeartbeats 8000000 in
theorem bunchLots_ok (haw : Pure Try.prog 8 [] (.lit (.bool true))) (d : DayD) (w a b : Int) (hw0 : 0 ≤ w) (hw1 : w ≤ 65535) (ha0 : 0 ≤ a) (ha1 : a ≤ 255) (hb0 : 0 ≤ b) (hb1 : b ≤ 255) :
    Pure Try.prog 6 [dayV d, .lit (.int .u16 w), .lit (.int .u8 a), .lit (.int .u8 b)] (.lit (.bool true)) := by
  obtain ⟨O, hO⟩ : ∃ O : Ar, O = std := ⟨_, rfl⟩
  refine pure_of_body tok 3 Try.func6 en6 rfl ⟨dayV_below d, Below.lit, Below.lit, Below.lit, trivial⟩ Below.lit ?_
  refine SW.seqRun tok hO (by cbv <;> rfl) (by trivial) ?_
  refine SW.seq ?_
  refine SW.seqRun tok hO (by cbv <;> rfl) (by trivial) ?_
  have call := ready_ok d
  generalize hR : d.readyB = r at call
  refine OpsW.callP call (by cbv <;> rfl) ?_
  have hnot : O.not r = !r := by subst hO; rfl
  refine OpsW.run tok hO (by cbv <;> rfl) (by trivial) ?_
  refine OpsW.splitG (by cbv <;> rfl) (fun h1 => ?_) (fun h1 => ?_) <;> refine OpsW.run tok hO (by cbv <;> rfl) (by trivial) ?_
  · refine SW.cond (t := true) (by cbv <;> rfl) ?_
    refine SW.seqRun tok hO (by cbv <;> rfl) (by trivial) ?_
    refine OpsW.callP haw (by cbv <;> rfl) ?_
    refine OpsW.run tok hO (by cbv <;> rfl) (by trivial) ?_
    exact SW.ret ⟨_, _, rfl, rfl, Eqv.refl _⟩
  have hr : r = true := by have := hnot.symm.trans h1; simpa using this
  refine OpsW.splitG (by cbv <;> rfl) (fun h2 => ?_) (fun h2 => ?_) <;> refine OpsW.run tok hO (by cbv <;> rfl) (by trivial) ?_
  · refine SW.cond (t := true) (by cbv <;> rfl) ?_
    refine SW.seqRun tok hO (by cbv <;> rfl) (by trivial) ?_
    refine OpsW.callP haw (by cbv <;> rfl) ?_
    refine OpsW.run tok hO (by cbv <;> rfl) (by trivial) ?_
    exact SW.ret ⟨_, _, rfl, rfl, Eqv.refl _⟩
  have hl0 : 0 < d.nl := by
    have : ¬ (d.nl : Int) = 0 := by subst hO; simpa [std] using h2
    omega
  refine SW.condS (by cbv <;> rfl) (fun h3 => ?_) (fun h3 => SW.skip ?_)
  · refine SW.seqRun tok hO (by cbv <;> rfl) (by trivial) ?_
    refine OpsW.callP haw (by cbv <;> rfl) ?_
    refine OpsW.run tok hO (by cbv <;> rfl) (by trivial) ?_
    exact SW.ret ⟨_, _, rfl, rfl, Eqv.refl _⟩
  have hl3 : d.nl ≤ 3 := by
    have : ¬ (3 : Int) < (d.nl : Int) := by subst hO; simpa [std] using h3
    omega
  rw [hr] at hR
  obtain ⟨gd, _⟩ := ready_good hR
  have hF : d.faultN = 0 := by
    simp only [DayD.readyB, Bool.and_eq_true, decide_eq_true_eq] at hR; exact hR.2
  have hc : d.check = 0 := (check_eq d).trans hF
  have hnw := gd.nw
  have hncc := gd.nc
  have hmany := many_ok d ⟨by omega, by omega, by omega⟩
  obtain ⟨hm0, hm1⟩ := manyL_in gd
  generalize d.manyL d.nl = M at hmany hm0 hm1
  have hN : O.bin .rem .i64 (O.conv .i64 w) M = w.tmod M := by
    subst hO
    show (wrp .i64 w).tmod M = _
    rw [wrp_in (by simp only [IntKind.lo]; omega) (by simp only [IntKind.hi]; omega)]
  have hNb := tmod_in (q := w) (z := M) hw0 (by omega)
  have ht := nth_fits gd (N := w.tmod M) hNb.1 (by omega)
  have hnth := nth_ok d gd (w.tmod M)
  generalize d.nthT (w.tmod M) = t at ht hnth
  obtain ⟨f1, f2, f3, f4⟩ := fits_true ht
  refine SW.seq (SW.mono (lots_s2 d t w a b M (w.tmod M) _ O hO hmany (by omega) hN hnth rfl rfl rfl rfl) ?_)
  rintro e fm st ⟨rfl, g2, rfl, h2', rfl⟩
  obtain ⟨k, hk, hK⟩ := pick_in hO ha0 ha1 hl0 (by omega)
  refine SW.seq (SW.mono (lots_s3 d t a b k g2 O hO hl0 hK h2') ?_)
  rintro e fm st ⟨rfl, g3, rfl, h3', rfl⟩
  have hnat : ∀ i : Nat, O.nat (Int.ofNat i) = i := fun i => by subst hO; rfl
  have hkb : 0 ≤ t.st k ∧ t.st k ≤ 5000 := by have := f4 k hk; have := (gd.lot k hk).2; omega
  have hadd : O.bin .add .i64 (t.st (O.nat (Int.ofNat k))) 1 = t.st k + 1 := by
    rw [hnat]; subst hO
    exact add64_in _ _ (by omega) (by omega)
  obtain ⟨n, hn⟩ : ∃ n, O.bin .rem .i64 (O.conv .i64 b) (O.bin .add .i64 (t.st (O.nat (Int.ofNat k))) 1) = n := ⟨_, rfl⟩
  have hnb : 0 ≤ n ∧ n ≤ t.st k := by
    rw [hadd] at hn
    obtain ⟨r1, r2⟩ := tmod_in (q := b) (z := t.st k + 1) hb0 (by omega)
    have : n = b.tmod (t.st k + 1) := by
      rw [← hn]; subst hO
      show (wrp .i64 b).tmod (t.st k + 1) = _
      rw [wrp_in (by simp only [IntKind.lo]; omega) (by simp only [IntKind.hi]; omega)]
    omega
  refine SW.seq (SW.mono (lots_s4 d t b n k g3 O hO (by omega) (by rw [hadd]; omega) hn h3') ?_)
  rintro e fm st ⟨rfl, g4, rfl, h4', rfl⟩
  refine SW.seq (SW.mono (lots_s5 d t n k g4 O hO h4') ?_)
  rintro e fm st ⟨rfl, g5, rfl, h5', rfl⟩
  refine SW.seq (SW.mono (lots_s6 d t n k g5 O hO h5') ?_)
  rintro e fm st ⟨rfl, g6, rfl, h6', rfl⟩
  refine SW.seq (SW.mono (lots_s7 d t n k g6 O hO h6') ?_)
  rintro e fm st ⟨rfl, g7, rfl, h7', rfl⟩
  have hs : O.bin .sub .i64 (t.st (O.nat (Int.ofNat k))) n = t.st k - n := by
    rw [hnat]; subst hO
    exact sub64_in _ _ (by omega) (by omega)
  obtain ⟨rk1, rk2, rk3, rk4⟩ := rev_k hk
  refine SW.seq (SW.mono (lots_s8 d t (d.lotX k n (t.st k - n)) (t.lotX d.nl k n).st k n (t.st k - n) g7 O hO (by omega) f2 hk hs (fun m hm hmk => ?_) ?_ h7') ?_)
  · obtain ⟨p1, p2, p3⟩ := rev_len hk hm hmk
    show d.lw (revI d.nl k (lenF d.nl k (m + 1))) = d.lw m ∧ partF d.nl k d.llo n (t.st k - n) (lenF d.nl k (m + 1)) = d.llo m ∧ partF d.nl k d.lhi n (t.st k - n) (lenF d.nl k (m + 1)) = d.lhi m ∧ partF d.nl k t.st n (t.st k - n) (lenF d.nl k (m + 1)) = t.st m
    rw [partF_c p1 p2, partF_c p1 p2, partF_c p1 p2, p3]
    exact ⟨rfl, rfl, rfl, rfl⟩
  · rw [rk2, rk1]
    show d.lw (revI d.nl k (d.nl - 1 - k)) = d.lw k ∧ partF d.nl k d.llo n (t.st k - n) (d.nl - 1 - k) = n ∧ partF d.nl k d.lhi n (t.st k - n) (d.nl - 1 - k) = n ∧ partF d.nl k t.st n (t.st k - n) (d.nl - 1 - k) = n ∧
      d.lw (revI d.nl k (d.nl - k)) = d.lw k ∧ partF d.nl k d.llo n (t.st k - n) (d.nl - k) = t.st k - n ∧ partF d.nl k d.lhi n (t.st k - n) (d.nl - k) = t.st k - n ∧ partF d.nl k t.st n (t.st k - n) (d.nl - k) = t.st k - n
    rw [partF_a, partF_a, partF_a, partF_b hk, partF_b hk, partF_b hk, rk3, rk4]
    exact ⟨rfl, rfl, rfl, rfl, rfl, rfl, rfl, rfl⟩
  rintro e fm st ⟨rfl, g8, XL, XS, rfl, h8, hXL, hXLf, hXS, hXSf, rfl⟩
  have hFx := lotX_good gd hF hl3 hk (n := n) (m := t.st k - n) (by omega) (by omega)
  have hcx : (d.lotX k n (t.st k - n)).check = 0 := (check_eq _).trans hFx
  have gx := good_of_check hcx
  have hfx := lotX_fits ht hk (n := n)
  have hT := lotX_tally gd ht hl3 hk hnb
  have pt := play_of gd hc ht
  have px := play_of gx hcx hfx
  have hb : (d.lotX k n (t.st k - n)).bun (t.lotX d.nl k n) = d.bun t := congrArg TalD.bun hT
  have hlf : (d.lotX k n (t.st k - n)).lef (t.lotX d.nl k n) = d.lef t := congrArg TalD.lef hT
  rw [hT, hb, hlf] at px
  have px' : Pure Try.prog 9 [dayV (d.lotX k n (t.st k - n)), truV (t.lotX d.nl k n).copy] (.tup [.agg (talL d.nw (d.bun t) (d.lef t) (d.tally t).hands (d.tally t).loose (d.tally t).flats (d.tally t).spare), iV 0]) := px
  have hday := day_ok d (by omega) (by omega) (by omega)
  have htt := truth_ok t (by omega) (by omega)
  have hdx : Pure Try.prog 10 [.agg (loX d XL)] (dayV (d.lotX k n (t.st k - n))) :=
    Pure.eqv (day_ok (d.lotX k n (t.st k - n)) (by show d.nw ≤ 6; omega) (by show d.nl + 1 ≤ 6; omega) (by show 0 ≤ 7; omega)) (.cons (Eqv.agg (.cons (Eqv.refl _) (.cons (Eqv.refl _) (.cons (Eqv.refl _) (.cons hXL (.cons Eqv.nil .nil)))))) .nil)
  have htx : Pure Try.prog 11 [.agg [intsV t.nf t.ef t.fe, XS]] (truV (t.lotX d.nl k n).copy) :=
    Pure.eqv (truth_ok (t.lotX d.nl k n) (by show t.nf < 1000; omega) (by show d.nl + 1 < 1000; omega)) (.cons (Eqv.agg (.cons (Eqv.refl _) (.cons hXS .nil))) .nil)
  generalize (t.lotX d.nl k n).copy = uc at px' htx
  generalize d.lotX k n (t.st k - n) = xd at px' hdx
  generalize d.bun t = bA at pt px'
  generalize d.lef t = lA at pt px'
  generalize (d.tally t).hands = hA at pt px'
  generalize (d.tally t).flats = fA at pt px'
  generalize (d.tally t).loose = oA at pt px'
  generalize (d.tally t).spare = sA at pt px'
  refine SW.seq (SW.mono (lots_s9 d t g8 O hO XL XS hXLf hXSf _ _ d.nw bA lA hA oA fA sA hday htt pt _ rfl h8) ?_)
  rintro e fm st ⟨rfl, g9, rfl, h9, rfl⟩
  refine SW.seq (SW.mono (lots_s10 d t g9 O hO XL XS hXLf hXSf _ _ _ d.nw bA lA hA oA fA sA hdx htx px' _ rfl h9) ?_)
  rintro e fm st ⟨rfl, g10, rfl, ⟨_, _, _, _, q16, q17, q18, q19, _⟩, rfl⟩
  exact lots_s11 haw g10 O hO d.nw bA lA hA oA fA sA (by omega) ⟨q16, q17, q18, q19, trivial⟩ _
end Go.Fz
