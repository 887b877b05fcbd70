/- Own work of the verifier of watercress: FzB32. -/
import Derived.Test.YtkomalgeigefjaaMb16
set_option linter.unusedVariables false
set_option linter.unusedSimpArgs false
namespace Go.Fz
open Go.Proofs
set_option maxRecDepth 100000
theorem play_of {d : DayD} (g : d.Good) (hc : d.check = 0) {t : TruD} (hf : d.fits t = true) :
    Pure Try.prog 9 [dayV d, truV t.copy] (.tup [.agg (talL d.nw (d.bun t) (d.lef t) (d.tally t).hands (d.tally t).loose (d.tally t).flats (d.tally t).spare), iV 0]) := by
  obtain ⟨h1, h2, _, _⟩ := fits_true hf
  have hnw := g.nw
  have hnl := g.nl
  have hnc := g.nc
  have hp := play_ok d ⟨by omega, by omega, by omega⟩ t.copy (by show t.nf < 1000; omega) (by show t.ns < 1000; omega)
  have hf2 : d.fits t.copy = true := hf
  have e1 : d.playT t.copy = talV (d.tally t.copy) := by unfold DayD.playT; rw [if_pos ⟨hc, hf2⟩]
  have e2 : d.playE t.copy = 0 := by unfold DayD.playE; rw [if_pos hc, hf2]; rfl
  rw [e1, e2] at hp
  exact hp
theorem thin_tail (haw : Pure Try.prog 8 [] (.lit (.bool true))) {d : DayD} (gd : d.Good) (hc : d.check = 0) {t u v : TruD} (k : Nat) (g : Nat → AV) (O : Ar) (hO : O = std) (ht : d.fits t = true) (hu : d.fits u = true) (hv : d.fits v = true)
    (hsame : ∀ i, i < d.nw → i ≠ k → d.bun t i = d.bun u i) (hless : ∀ i, i < d.nw → d.bun u i ≤ d.bun t i) (hmore : ∀ i, i < d.nw → d.bun t i ≤ d.bun v i)
    (e1 : (d.tally u).hands ≤ (d.tally t).hands) (e2 : (d.tally u).flats ≤ (d.tally t).flats) (e3 : (d.tally t).hands ≤ (d.tally v).hands) (e4 : (d.tally t).flats ≤ (d.tally v).flats)
    (XA XB : AV) (hXA : ∃ len sz h, XA = .isl len sz false h) (hXB : XB = nl3 ∨ ∃ len sz h, XB = .isl len sz false h)
    (htu : Pure Try.prog 11 [.agg [XA, intsV t.ns t.es t.st]] (truV u.copy)) (htv : Pure Try.prog 11 [.agg [intsV t.nf t.ef t.fe, XB]] (truV v.copy))
    (h : AllP (fun p => g p.1 = p.2) [(4, .ptr 0 0), (9, .ptr 1 0), (10, .lit (.int .i64 (Int.ofNat k))), (11, .ptr 4 0), (12, .ptr 5 0)]) :
    SW Try.prog none (restC 7 (bodyF Try.f5)) (retQ T Try.f5 (fun v st' => Eqv (frz st'.h (fun _ => true) 3 v) (.lit (.bool true)))) ⟨⟨240, g⟩, []⟩ ⟨thB d t XA XB, 6⟩ := by
  have hnw := gd.nw
  have hnl := gd.nl
  have hncc := gd.nc
  obtain ⟨f1, f2, _, _⟩ := fits_true ht
  have hday := day_ok d (by omega) (by omega) (by omega)
  have htt := truth_ok t (by omega) (by omega)
  have pt := play_of gd hc ht
  have pu := play_of gd hc hu
  have pv := play_of gd hc hv
  generalize d.bun t = bA at pt hsame hless hmore
  generalize d.bun u = bB at pu hsame hless
  generalize d.bun v = bC at pv hmore
  generalize d.lef t = lA at pt
  generalize d.lef u = lB at pu
  generalize d.lef v = lC at pv
  generalize (d.tally t).hands = hA at pt e1 e3
  generalize (d.tally t).flats = fA at pt e2 e4
  generalize (d.tally t).loose = oA at pt
  generalize (d.tally t).spare = sA at pt
  generalize (d.tally u).hands = hB at pu e1
  generalize (d.tally u).flats = fB at pu e2
  generalize (d.tally u).loose = oB at pu
  generalize (d.tally u).spare = sB at pu
  generalize (d.tally v).hands = hC at pv e3
  generalize (d.tally v).flats = fC at pv e4
  generalize (d.tally v).loose = oC at pv
  generalize (d.tally v).spare = sC at pv
  refine SW.seq (SW.mono (thin_s7 d t k g O hO XA XB hXA hXB _ d.nw bA lA hA oA fA sA hday htt pt _ rfl h) ?_)
  rintro e fm st ⟨rfl, g7, rfl, h7, rfl⟩
  refine SW.seq (SW.mono (thin_s8 d t k g7 O hO XA XB hXA hXB _ _ d.nw bB lB hB oB fB sB hday htu pu _ rfl h7) ?_)
  rintro e fm st ⟨rfl, g8, rfl, h8, rfl⟩
  refine SW.seq (SW.mono (thin_s9 d t k g8 O hO XA XB hXA hXB _ _ _ d.nw bC lC hC oC fC sC hday htv pv _ rfl h8) ?_)
  rintro e fm st ⟨rfl, g9, rfl, h9, rfl⟩
  obtain ⟨q4, _, q10, _, _, q15, q16, q17, q18, q19, q20, _⟩ := h9
  refine SW.seq (SW.mono (thin_s10 d t k g9 O hO XA XB bA lA hA oA fA sA bB lB hB oB fB sB bC lC hC oC fC sC ⟨q4, q10, q15, q16, q17, q18, q19, q20, trivial⟩) ?_)
  rintro e fm st ⟨rfl, g10, rfl, h10, rfl⟩
  refine SW.seq (SW.mono (thin_s11 d t k g10 O hO XA XB bA lA hA oA fA sA bB lB hB oB fB sB bC lC hC oC fC sC (by omega) hsame hless hmore h10) ?_)
  rintro e fm st ⟨rfl, g11, rfl, h11, rfl⟩
  exact thin_s12 haw d g11 O hO bA lA hA oA fA sA bB lB hB oB fB sB bC lC hC oC fC sC e1 e2 e3 e4 h11
def thD (j : Nat) : Bool := Nat.beq j 2 || Nat.beq j 3
theorem tmod_in {q z : Int} (hq : 0 ≤ q) (hz : 1 ≤ z) : 0 ≤ q.tmod z ∧ q.tmod z < z := by
  obtain ⟨_, _, _, h4, h5⟩ := tdiv_nn hq hz
  exact ⟨h4, h5⟩
theorem minN_in {O : Ar} (hO : O = std) {hi v b m : Int} (h1 : v ≤ hi) (h2 : 0 ≤ v) (h3 : hi ≤ 5000) (hb0 : 0 ≤ b) (hb1 : b ≤ 255) (hm : 1 ≤ m) (hm2 : m ≤ 100) : v ≤ O.mn hi (O.bin .add .i64 v (O.bin .rem .i64 (O.conv .i64 b) m)) ∧ O.mn hi (O.bin .add .i64 v (O.bin .rem .i64 (O.conv .i64 b) m)) ≤ hi := by
  subst hO
  obtain ⟨r1, r2⟩ := tmod_in hb0 hm
  show v ≤ (if wrp .i64 (v + (wrp .i64 b).tmod m) < hi then wrp .i64 (v + (wrp .i64 b).tmod m) else hi) ∧ (if wrp .i64 (v + (wrp .i64 b).tmod m) < hi then wrp .i64 (v + (wrp .i64 b).tmod m) else hi) ≤ hi
  rw [wrp_in (n := b) (by simp only [IntKind.lo]; omega) (by simp only [IntKind.hi]; omega), wrp_in (by simp only [IntKind.lo]; omega) (by simp only [IntKind.hi]; omega)]
  split <;> omega
theorem pick_in {O : Ar} (hO : O = std) {a : Int} {n : Nat} (h0 : 0 ≤ a) (h1 : a ≤ 255) (hn : 0 < n) (hn2 : n < 1000) : ∃ k : Nat, k < n ∧ O.bin .rem .i64 (O.conv .i64 a) (Int.ofNat n) = Int.ofNat k := by
  obtain ⟨r1, r2⟩ := tmod_in (q := a) (z := n) h0 (by omega)
  refine ⟨(a.tmod n).toNat, by omega, ?_⟩
  subst hO
  show (wrp .i64 a).tmod n = ((a.tmod n).toNat : Int)
  rw [wrp_in (by simp only [IntKind.lo]; omega) (by simp only [IntKind.hi]; omega)]
  omega
theorem manyL_in {d : DayD} (g : d.Good) : 1 ≤ d.manyL d.nl ∧ d.manyL d.nl ≤ 3000 := by
  have hr : ∀ i, i < d.nw + d.nl → 0 ≤ d.ulo i ∧ d.ulo i ≤ d.uhi i ∧ d.uhi i ≤ 5000 := fun i hi => by
    unfold DayD.ulo DayD.uhi
    by_cases hc : i < d.nw
    · have := g.wom i hc
      simp only [hc, if_true]; omega
    · have := g.lot (i - d.nw) (by omega)
      simp only [hc, if_false]; omega
  rw [manyL_mn]
  exact (mn_pr d.ulo d.uhi (d.nw + d.nl) hr (d.nw + d.nl) (Nat.le_refl _)).1
set_option maxHeartbeats 8000000 in
theorem bunchThin_ok (haw : Pure Try.prog 8 [] (.lit (.bool true))) (d : DayD) (w a b : Int) (hw0 : 0 ≤ w) (hw1 : w ≤ 65535) (ha0 : 0 ≤ a) (ha1 : a ≤ 255) (hb0 : 0 ≤ b) (hb1 : b ≤ 255) :
    Pure Try.prog 5 [dayV d, .lit (.int .u16 w), .lit (.int .u8 a), .lit (.int .u8 b)] (.lit (.bool true)) := by
  obtain ⟨O, hO⟩ : ∃ O : Ar, O = std := ⟨_, rfl⟩
  refine pure_of_body tok 3 Try.func5 en5 rfl ⟨dayV_below d, Below.lit, Below.lit, Below.lit, trivial⟩ Below.lit ?_
  refine SW.seqRun tok hO (by cbv <;> rfl) (by trivial) ?_
  refine SW.seq ?_
  refine SW.seqRun tok hO (by cbv <;> rfl) (by trivial) ?_
  have call := ready_ok d
  generalize hR : d.readyB = r at call
  refine OpsW.callP call (by cbv <;> rfl) ?_
  have hnot : O.not r = !r := by subst hO; rfl
  refine OpsW.run tok hO (by cbv <;> rfl) (by trivial) ?_
  refine SW.condS (by cbv <;> rfl) (fun h1 => ?_) (fun h1 => SW.skip ?_)
  · refine SW.seqRun tok hO (by cbv <;> rfl) (by trivial) ?_
    refine OpsW.callP haw (by cbv <;> rfl) ?_
    refine OpsW.run tok hO (by cbv <;> rfl) (by trivial) ?_
    exact SW.ret ⟨_, _, rfl, rfl, Eqv.refl _⟩
  have hr : r = true := by have := hnot.symm.trans h1; simpa using this
  rw [hr] at hR
  obtain ⟨gd, _⟩ := ready_good hR
  have hF : d.faultN = 0 := by
    simp only [DayD.readyB, Bool.and_eq_true, decide_eq_true_eq] at hR; exact hR.2
  have hc : d.check = 0 := (check_eq d).trans hF
  have hnw := gd.nw
  have hnl := gd.nl
  have hncc := gd.nc
  have hpos := gd.pos
  have hmany := many_ok d ⟨by omega, by omega, by omega⟩
  obtain ⟨hm0, hm1⟩ := manyL_in gd
  generalize d.manyL d.nl = M at hmany hm0 hm1
  have hN : O.bin .rem .i64 (O.conv .i64 w) M = w.tmod M := by
    subst hO
    show (wrp .i64 w).tmod M = _
    rw [wrp_in (by simp only [IntKind.lo]; omega) (by simp only [IntKind.hi]; omega)]
  have hNb := tmod_in (q := w) (z := M) hw0 (by omega)
  have ht := nth_fits gd (N := w.tmod M) hNb.1 (by omega)
  have hnth := nth_ok d gd (w.tmod M)
  generalize d.nthT (w.tmod M) = t at ht hnth
  obtain ⟨f1, f2, f3, f4⟩ := fits_true ht
  refine SW.seq (SW.mono (thin_s2 d t w a b M (w.tmod M) _ O hO hmany (by omega) hN hnth rfl rfl rfl rfl) ?_)
  rintro e fm st ⟨rfl, g2, rfl, h2, rfl⟩
  obtain ⟨k, hk, hK⟩ := pick_in hO ha0 ha1 hpos (by omega)
  refine SW.seq (SW.mono (thin_s3 d t a b k g2 O hO hpos hK h2) ?_)
  rintro e fm st ⟨rfl, g3, rfl, h3, rfl⟩
  obtain ⟨GA, hGA⟩ : ∃ G, flatG 1 (intC t.fe) t.nf = G := ⟨_, rfl⟩
  have hGAb : ∀ a ∈ GA, Below 0 a := by rw [← hGA]; exact flatG_below (intC_below _) _
  obtain ⟨x, hx⟩ : ∃ x, O.mn (d.whi (O.nat (Int.ofNat k))) (O.bin .add .i64 (t.fe (O.nat (Int.ofNat k))) (O.bin .rem .i64 (O.conv .i64 b) 5)) = x := ⟨_, rfl⟩
  have hnat : ∀ i : Nat, O.nat (Int.ofNat i) = i := fun i => by subst hO; rfl
  have hwk := gd.wom k hk
  have hfk := f3 k hk
  have hxb : t.fe k ≤ x ∧ x ≤ d.whi k := by
    rw [← hx, hnat]
    exact minN_in hO hfk.2 (by omega) (by omega) hb0 hb1 (by omega) (by omega)
  obtain ⟨GA', hGA'⟩ : ∃ G, flatG 1 (intC (setI t.fe k x)) t.nf = G := ⟨_, rfl⟩
  have hu := setF_fits ht hxb
  have hub := setF_bun gd ht hxb
  obtain ⟨e1, e2⟩ := setF_thin gd ht hxb
  have hlA : t.nf * 1 ≤ GA'.length := by rw [← hGA', flatG_length]; omega
  have hu' : Pure Try.prog 11 [.agg [intsV t.nf false (setI t.fe k x), intsV t.ns t.es t.st]] (truV (t.setF k x).copy) := truth_ok ⟨t.nf, false, setI t.fe k x, t.ns, t.es, t.st⟩ (by show t.nf < 1000; omega) (by show t.ns < 1000; omega)
  by_cases hnz : t.ns = 0
  · have hl0 : d.nl = 0 := by omega
    refine SW.seq (SW.mono (thin_s4z d t a b k g3 O hO (by omega) (by omega) (by omega) GA hGA hGAb hnz h3) ?_)
    rintro e fm st ⟨rfl, g4, rfl, h4, rfl⟩
    refine SW.seq (SW.mono (thin_s5 d t a b k g4 O hO hk (by omega) GA GA' hGA x hx hGA' _ _ h4) ?_)
    rintro e fm st ⟨rfl, g5, rfl, h5, rfl⟩
    refine SW.seq (SW.mono (thin_s6z d t a b k g5 O hO hl0 GA' h5) ?_)
    rintro e fm st ⟨rfl, g6, rfl, ⟨q4, q9, q10, q11, q12, _⟩, rfl⟩
    simp only at q4 q9 q10 q11 q12
    refine SW.freezeZ thD 3 (by rfl) ?_
    obtain ⟨XA, hX, hXe, hXf⟩ : ∃ X, frz (thS4 d t GA' nl3 []).h thD 3 (.sl 2 0 t.nf 1 false) = X ∧ Eqv X (intsV t.nf false (setI t.fe k x)) ∧ ∃ len sz h, X = .isl len sz false h :=
      ⟨_, rfl, by
        rw [frz_slE (fm := none) (G := GA') rfl rfl hlA, ← hGA']
        exact Eqv.isl rfl fun i j hi hj => Eqv.of (frz_flat hi hj rfl), _, _, _, frz_slE (fm := none) (G := GA') rfl rfl hlA⟩
    show SW _ _ _ _ ⟨⟨240, fun i => frz (thS4 d t GA' nl3 []).h thD 3 (g6 i)⟩, []⟩ ⟨thB d t (frz (thS4 d t GA' nl3 []).h thD 3 (.sl 2 0 t.nf 1 false)) nl3, 6⟩
    rw [hX]
    refine thin_tail haw gd hc k _ O hO ht hu ht (fun i hi hik => (hub i hi).1 hik) (fun i hi => (hub i hi).2) (fun i hi => by omega) e1 e2 (by omega) (by omega) XA nl3 hXf (.inl rfl)
      (Pure.eqv hu' (.cons (Eqv.agg (.cons hXe (.cons (Eqv.refl _) .nil))) .nil))
      (Pure.eqv (truth_ok t (by omega) (by omega)) (.cons (Eqv.agg (.cons (Eqv.refl _) (.cons (by show Eqv nl3 (.isl t.ns 1 t.es (intC t.st)); rw [hnz]; exact Eqv.nil) .nil))) .nil))
      ⟨?_, ?_, ?_, ?_, ?_, trivial⟩
    · show frz _ _ 3 (g6 4) = _; rw [q4]; rfl
    · show frz _ _ 3 (g6 9) = _; rw [q9]; rfl
    · show frz _ _ 3 (g6 10) = _; rw [q10]; rfl
    · show frz _ _ 3 (g6 11) = _; rw [q11]; rfl
    · show frz _ _ 3 (g6 12) = _; rw [q12]; rfl
  · have hlp : 0 < d.nl := by omega
    obtain ⟨GB, hGB⟩ : ∃ G, flatG 1 (intC t.st) t.ns = G := ⟨_, rfl⟩
    have hGBb : ∀ a ∈ GB, Below 0 a := by rw [← hGB]; exact flatG_below (intC_below _) _
    refine SW.seq (SW.mono (thin_s4 d t a b k g3 O hO (by omega) (by omega) (by omega) GA hGA hGAb (by omega) GB hGB hGBb h3) ?_)
    rintro e fm st ⟨rfl, g4, rfl, h4, rfl⟩
    refine SW.seq (SW.mono (thin_s5 d t a b k g4 O hO hk (by omega) GA GA' hGA x hx hGA' _ _ h4) ?_)
    rintro e fm st ⟨rfl, g5, rfl, h5, rfl⟩
    obtain ⟨i, hi, hI⟩ := pick_in hO ha0 ha1 hlp (by omega)
    obtain ⟨y, hy⟩ : ∃ y, O.mn (d.lhi (O.nat (Int.ofNat i))) (O.bin .add .i64 (t.st (O.nat (Int.ofNat i))) (O.bin .rem .i64 (O.conv .i64 b) 9)) = y := ⟨_, rfl⟩
    have hwi := (gd.lot i hi).2
    have hfi := f4 i hi
    have hyb : t.st i ≤ y ∧ y ≤ d.lhi i := by
      rw [← hy, hnat]
      exact minN_in hO hfi.2 (by omega) (by omega) hb0 hb1 (by omega) (by omega)
    obtain ⟨GB', hGB'⟩ : ∃ G, flatG 1 (intC (setI t.st i y)) t.ns = G := ⟨_, rfl⟩
    have hv := setS_fits ht hyb
    obtain ⟨e3, e4⟩ := setS_more gd ht hyb
    have hlB : t.ns * 1 ≤ GB'.length := by rw [← hGB', flatG_length]; omega
    have hv' : Pure Try.prog 11 [.agg [intsV t.nf t.ef t.fe, intsV t.ns false (setI t.st i y)]] (truV (t.setS i y).copy) := truth_ok ⟨t.nf, t.ef, t.fe, t.ns, false, setI t.st i y⟩ (by show t.nf < 1000; omega) (by show t.ns < 1000; omega)
    refine SW.seq (SW.mono (thin_s6 d t a b k i g5 O hO hi (by omega) hI GA' GB GB' hGB y hy hGB' h5) ?_)
    rintro e fm st ⟨rfl, g6, rfl, ⟨q4, q9, q10, q11, q12, _⟩, rfl⟩
    simp only at q4 q9 q10 q11 q12
    refine SW.freezeZ thD 3 (by rfl) ?_
    obtain ⟨H, hH⟩ : ∃ H, H = (thS4 d t GA' (.sl 3 0 t.ns 1 false) [(3, .cells none false GB')]).h := ⟨_, rfl⟩
    have hH2 : H.get 2 = some (.cells none false GA') := by rw [hH]; rfl
    have hH3 : H.get 3 = some (.cells none false GB') := by rw [hH]; rfl
    obtain ⟨XA, hX, hXe, hXf⟩ : ∃ X, frz H thD 3 (.sl 2 0 t.nf 1 false) = X ∧ Eqv X (intsV t.nf false (setI t.fe k x)) ∧ ∃ len sz h, X = .isl len sz false h :=
      ⟨_, rfl, by
        rw [frz_slE (fm := none) (G := GA') rfl hH2 hlA, ← hGA']
        exact Eqv.isl rfl fun i j hi hj => Eqv.of (frz_flat hi hj rfl), _, _, _, frz_slE (fm := none) (G := GA') rfl hH2 hlA⟩
    obtain ⟨XB, hY, hYe, hYf⟩ : ∃ X, frz H thD 3 (.sl 3 0 t.ns 1 false) = X ∧ Eqv X (intsV t.ns false (setI t.st i y)) ∧ ∃ len sz h, X = .isl len sz false h :=
      ⟨_, rfl, by
        rw [frz_slE (fm := none) (G := GB') rfl hH3 hlB, ← hGB']
        exact Eqv.isl rfl fun i j hi hj => Eqv.of (frz_flat hi hj rfl), _, _, _, frz_slE (fm := none) (G := GB') rfl hH3 hlB⟩
    have hS : SW Try.prog none (restC 7 (bodyF Try.f5)) (retQ T Try.f5 (fun v st' => Eqv (frz st'.h (fun _ => true) 3 v) (.lit (.bool true)))) ⟨⟨240, fun i => frz H thD 3 (g6 i)⟩, []⟩ ⟨thB d t (frz H thD 3 (.sl 2 0 t.nf 1 false)) (frz H thD 3 (.sl 3 0 t.ns 1 false)), 6⟩ := by
      rw [hX, hY]
      refine thin_tail haw gd hc k _ O hO ht hu hv (fun i hi hik => (hub i hi).1 hik) (fun i hi => (hub i hi).2) (fun i hi => setS_bun gd ht hyb i hi) e1 e2 e3 e4 XA XB hXf (.inr hYf)
        (Pure.eqv hu' (.cons (Eqv.agg (.cons hXe (.cons (Eqv.refl _) .nil))) .nil))
        (Pure.eqv hv' (.cons (Eqv.agg (.cons (Eqv.refl _) (.cons hYe .nil))) .nil))
        ⟨?_, ?_, ?_, ?_, ?_, trivial⟩
      · show frz _ _ 3 (g6 4) = _; rw [q4]; rfl
      · show frz _ _ 3 (g6 9) = _; rw [q9]; rfl
      · show frz _ _ 3 (g6 10) = _; rw [q10]; rfl
      · show frz _ _ 3 (g6 11) = _; rw [q11]; rfl
      · show frz _ _ 3 (g6 12) = _; rw [q12]; rfl
    rw [hH] at hS
    exact hS
end Go.Fz
