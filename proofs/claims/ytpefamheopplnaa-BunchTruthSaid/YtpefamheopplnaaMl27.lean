/- Own work of the verifier of watercress: FzTr4. -/
import Derived.Test.YtpefamheopplnaaMl26
import Derived.Test.YtpefamheopplnaaMl15
set_option linter.unusedVariables false
set_option linter.unusedSimpArgs false
namespace Go.Fz
open Go.Proofs
set_option maxRecDepth 100000
set_option linter.unusedVariables false
def cdS2 (d : DayD) : St := ⟨[(2, .cells none false tru0), (1, .cells none false day0), (0, .cells none false (dayC d))], 3⟩
def cdS3 (d : DayD) (t : TruD) : St := ⟨[(3, .cells none false (truC t)), (2, .cells none false tru0), (1, .cells none false day0), (0, .cells none false (dayC d))], 4⟩
set_option maxHeartbeats 8000000 in
theorem cd_1 (d : DayD) (t : TruD) (a M N : Int) (U : AV) (g : Nat → AV) (O : Ar) (hO : O = std) (hmany : Pure Try.prog 55 [dayV d] (iV M)) (hM : M ≠ 0) (hN : O.bin .rem .i64 (O.conv .i64 a) M = N) (hnth : Pure Try.prog 79 [dayV d, iV N] (truV t))
    (g1 : g 1 = .lit (.int .u16 a)) (g2 : g 2 = U) (g3 : g 3 = .ptr 0 0) (g6 : g 6 = .ptr 1 0) (g7 : g 7 = .ptr 2 0) :
    SW Try.prog none (nthC 1 (bodyF Try.f42)) (midK 76 [(1, .lit (.int .u16 a)), (2, U), (3, .ptr 0 0), (6, .ptr 1 0), (7, .ptr 2 0), (8, .ptr 3 0)] (cdS3 d t)) ⟨⟨76, g⟩, []⟩ (cdS2 d) := by
  subst hN
  rw [← updT_self g1, ← updT_self g2, ← updT_self g3, ← updT_self g6, ← updT_self g7]
  refine SW.runD tok mixed hO (by rfl) (by cbv <;> rfl) (by trivial) ?_
  refine AnyE.many [4, 7] (by cbv <;> rfl) (by rfl) ⟨?_, ?_, trivial⟩
  · refine PickE.callQ hmany (by cbv <;> rfl) (by cbv <;> rfl) ?_ ?_
    · exact (by repeat (first | exact trivial | refine And.intro (by first | exact lv_of hO (by cbv <;> rfl) (by trivial) | (cbv <;> rfl)) ?_))
    refine AnyE.run tok hO (by rfl) (by cbv <;> rfl) ?_ ?_
    · exact hM
    refine AnyE.many [6, 7] (by cbv <;> rfl) (by rfl) ⟨?_, ?_, trivial⟩
    · refine PickE.callQ hnth (by cbv <;> rfl) (by cbv <;> rfl) ?_ ?_
      · exact (by repeat (first | exact trivial | refine And.intro (by first | exact lv_of hO (by cbv <;> rfl) (by trivial) | (cbv <;> rfl)) ?_))
      refine AnyE.run tok hO (by rfl) (by cbv <;> rfl) (by trivial) ?_
      refine AnyE.effK tok hO (by cbv <;> rfl) (by cbv <;> rfl) (by trivial) ?_ ?_
      · exact (by repeat (first | exact trivial | refine And.intro (by first | exact lv_of hO (by cbv <;> rfl) (by trivial) | (cbv <;> rfl)) ?_))
      refine AnyE.run tok hO (by rfl) (by cbv <;> rfl) (by trivial) ?_
      refine AnyE.effK tok hO (by cbv <;> rfl) (by cbv <;> rfl) (by trivial) ?_ ?_
      · exact (by repeat (first | exact trivial | refine And.intro (by first | exact lv_of hO (by cbv <;> rfl) (by trivial) | (cbv <;> rfl)) ?_))
      refine AnyE.run tok hO (by rfl) (by cbv <;> rfl) (by trivial) ?_
      exact ⟨rfl, _, rfl, ⟨rfl, rfl, rfl, rfl, rfl, rfl, trivial⟩, rfl⟩
    · refine PickE.eff tok hO (by cbv <;> rfl) (by cbv <;> rfl) (by trivial) ?_ ?_
      · exact (by repeat (first | exact trivial | refine And.intro (by first | exact lv_of hO (by cbv <;> rfl) (by trivial) | (cbv <;> rfl)) ?_))
      refine AnyE.run tok hO (by rfl) (by cbv <;> rfl) (by trivial) ?_
      refine AnyE.callP hnth (by cbv <;> rfl) (by cbv <;> rfl) ?_
      refine AnyE.run tok hO (by rfl) (by cbv <;> rfl) (by trivial) ?_
      refine AnyE.effK tok hO (by cbv <;> rfl) (by cbv <;> rfl) (by trivial) ?_ ?_
      · exact (by repeat (first | exact trivial | refine And.intro (by first | exact lv_of hO (by cbv <;> rfl) (by trivial) | (cbv <;> rfl)) ?_))
      refine AnyE.run tok hO (by rfl) (by cbv <;> rfl) (by trivial) ?_
      exact ⟨rfl, _, rfl, ⟨rfl, rfl, rfl, rfl, rfl, rfl, trivial⟩, rfl⟩
  · refine PickE.eff tok hO (by cbv <;> rfl) (by cbv <;> rfl) (by trivial) ?_ ?_
    · exact (by repeat (first | exact trivial | refine And.intro (by first | exact lv_of hO (by cbv <;> rfl) (by trivial) | (cbv <;> rfl)) ?_))
    refine AnyE.run tok hO (by rfl) (by cbv <;> rfl) (by trivial) ?_
    refine AnyE.callP hmany (by cbv <;> rfl) (by cbv <;> rfl) ?_
    refine AnyE.run tok hO (by rfl) (by cbv <;> rfl) ?_ ?_
    · exact hM
    refine AnyE.callP hnth (by cbv <;> rfl) (by cbv <;> rfl) ?_
    refine AnyE.run tok hO (by rfl) (by cbv <;> rfl) (by trivial) ?_
    refine AnyE.effK tok hO (by cbv <;> rfl) (by cbv <;> rfl) (by trivial) ?_ ?_
    · exact (by repeat (first | exact trivial | refine And.intro (by first | exact lv_of hO (by cbv <;> rfl) (by trivial) | (cbv <;> rfl)) ?_))
    refine AnyE.run tok hO (by rfl) (by cbv <;> rfl) (by trivial) ?_
    exact ⟨rfl, _, rfl, ⟨rfl, rfl, rfl, rfl, rfl, rfl, trivial⟩, rfl⟩
theorem cntS (x : DayD) (i : Nat) : flatG 4 (cntC x) i ++ [iV (x.ck i), iV (x.cw i), iV (x.clo i), iV (x.chi i)] = flatG 4 (cntC x) (i + 1) := rfl
theorem cdM_lt (n : Nat) (wf : Nat → Int) (h : ∀ i, i < n → 0 ≤ wf i ∧ wf i ≤ 65535) : cdM n wf ≤ 5 ∧ std.bin .rem .i64 (wrdI n wf 0) 6 = Int.ofNat (cdM n wf) := by
  obtain ⟨A, hA⟩ := Int.eq_ofNat_of_zero_le (wrdI_in h 0).1
  unfold cdM
  rw [hA]
  constructor
  · omega
  · show ((A : Int).tmod 6) = _
    rw [show (A : Int).tmod 6 = ((A % 6 : Nat) : Int) from rfl]
    show ((A % 6 : Nat) : Int) = (((A : Int) % 6).toNat : Int)
    omega
theorem cntC_below' (x : DayD) (i k : Nat) : Below 0 (cntC x i k) := by unfold cntC; split <;> exact Below.lit
set_option maxHeartbeats 64000000 in
theorem counted42_ok (d : DayD) (hc : d.check = 0) (a : Int) (ha0 : 0 ≤ a) (ha1 : a ≤ 65535) (n : Nat) (wf : Nat → Int) (hwf : ∀ i, i < n → 0 ≤ wf i ∧ wf i ≤ 65535) : ∃ N, N < d.nT ∧ Pure Try.prog 42 [dayV d, .lit (.int .u16 a), u16V n wf] (.tup [dayV (d.cdX (d.tally (d.nthI N)) n wf), truV (d.nthI N)]) := by
  obtain ⟨O, hO⟩ : ∃ O : Ar, O = std := ⟨_, rfl⟩
  have gd := good_of_check hc
  have hnw := gd.nw
  have hnl := gd.nl
  have hnc := gd.nc
  have hsm : d.small := ⟨by omega, by omega, by omega⟩
  have hpos := gd.pos
  obtain ⟨hn1, hn2⟩ := nT_in hc
  have hT : Int.ofNat d.nT = d.manyL d.nl := by
    show ((d.manyL d.nl).toNat : Int) = _
    omega
  have hT0 : 0 < d.nT := by
    obtain ⟨t, ht, _⟩ := firstV_mem d hc
    obtain ⟨N, hN, _⟩ := nth_onto hc ht
    omega
  have hT1 : (1 : Int) ≤ Int.ofNat d.nT := by
    have : (1 : Int) ≤ (d.nT : Int) := by omega
    exact this
  obtain ⟨N, hN, hr0⟩ : ∃ k : Nat, k < d.nT ∧ O.bin .rem .i64 (O.conv .i64 a) (Int.ofNat d.nT) = Int.ofNat k := by
    obtain ⟨m1, m2⟩ := tmod_in (q := a) (z := Int.ofNat d.nT) ha0 hT1
    obtain ⟨k, hk⟩ := Int.eq_ofNat_of_zero_le m1
    refine ⟨k, ?_, ?_⟩
    · rw [hk] at m2; exact Int.ofNat_lt.1 m2
    · subst hO
      show (wrp .i64 a).tmod (Int.ofNat d.nT) = _
      rw [wrp_in (by simp only [IntKind.lo]; omega) (by simp only [IntKind.hi]; omega)]; exact hk
  refine ⟨N, hN, ?_⟩
  have hmany : Pure Try.prog 55 [dayV d] (iV (Int.ofNat d.nT)) := by rw [hT]; exact many_ok d hsm
  have hnth : Pure Try.prog 79 [dayV d, iV (Int.ofNat N)] (truV (d.nthI N)) := nth_ok d gd (Int.ofNat N)
  have hplay := playN_ok' gd (nth_fit hc hN)
  generalize d.nthI N = t at hnth hplay
  have hyn : (d.tally t).n = d.nw := rfl
  generalize d.tally t = y at hplay hyn
  have hcnt : ∀ (K : Int) (w : Nat), w < y.n → Pure Try.prog 89 [talV y, .agg [iV K, iV (Int.ofNat w), iV 0, iV 0]] (iV (y.cnt K (Int.ofNat w))) := fun K w hw => counted_ok y K w hw 0 0
  have hword0 : Pure Try.prog 88 [u16V n wf, iV 0] (iV (wrdI n wf 0)) := word88_ok n wf hwf 0
  obtain ⟨U, hU⟩ : ∃ U, U = u16V n wf := ⟨_, rfl⟩
  have hUb : Below 0 U := by rw [hU]; exact u16V_below n wf
  rw [← hU] at hword0 ⊢
  obtain ⟨hm5, hm0⟩ := cdM_lt n wf hwf
  have hm0 : O.bin .rem .i64 (wrdI n wf 0) 6 = Int.ofNat (cdM n wf) := by subst hO; exact hm0
  have n6 : (6 : Int) ≠ 0 := by decide
  generalize wrdI n wf 0 = W0 at hword0 hm0
  refine pure_of_body tok 5 Try.func42 en42 rfl ⟨dayV_below d, Below.lit, hUb, trivial⟩ (Below.tup (AllB.ok ⟨dayV_below _, truV_below _, trivial⟩)) ?_
  refine SW.seqRun tok hO (by cbv <;> rfl) (by trivial) ?_
  refine SW.seq ((cd_1 d t a (Int.ofNat d.nT) (Int.ofNat N) U _ O hO hmany (by omega) hr0 hnth rfl rfl rfl rfl rfl).mono fun e f st hm => ?_)
  obtain ⟨rfl, g, rfl, ⟨g1, g2, g3, g6, g7, g8, _⟩, rfl⟩ := hm
  simp only at g1 g2 g3 g6 g7 g8
  rw [← updT_self g1, ← updT_self g2, ← updT_self g3, ← updT_self g6, ← updT_self g7, ← updT_self g8]
  refine SW.seqRun tok hO (by cbv <;> rfl) (by trivial) ?_
  refine OpsW.callP hplay (by cbv <;> rfl) ?_
  refine OpsW.run tok hO (by cbv <;> rfl) (by trivial) ?_
  refine SW.seqRun tok hO (by cbv <;> rfl) (by trivial) ?_
  refine SW.seqRun tok hO (by cbv <;> rfl) (by trivial) ?_
  refine SW.seq ?_
  refine SW.seqRun tok hO (by cbv <;> rfl) (by trivial) ?_
  refine (SW.block (SW.loopR (fun i : Nat => ⟨⟨76, getT (cdF a U (Int.ofNat i))⟩, []⟩) (fun i => ⟨cdH d t y (slG 6 4 i) ++ objG 6 4 (cntC (d.cdX y n wf)) i, 7⟩) (fun i => cdM n wf - i) (fun i => i ≤ cdM n wf) 0 (Nat.zero_le _) (ren1 6 6) ?_ fun i hi => ?_))
  · exact WeakR.up rfl rfl (by simp) (Nat.le_refl _) (.inl rfl) (by show 6 ≤ 7; omega) ⟨RenV.closed Below.lit, RenV.closed hUb, RenV.ptr (by omega), RenV.ptr (by omega), RenV.ptr (by omega), RenV.ptr (by omega), RenV.ptr (by omega), RenV.ptr (by omega), RenV.closed Below.lit, trivial⟩
      ⟨⟨by omega, _, rfl, .cells (.cons (RenV.closed Below.lit) (.cons (RenV.closed Below.lit) (.cons (RenV.closed (womsV_below d)) (.cons (RenV.closed (lotsV_below d)) (.cons (RenV.closed Below.lit) .nil))))), .inr rfl⟩, ⟨by omega, _, rfl, .cells (RenVs.closed (talC_below y)), .inr rfl⟩, ⟨by omega, _, rfl, .cells (RenVs.closed (truC_below t)), .inr rfl⟩, ⟨by omega, _, rfl, .cells (RenVs.closed tru0_below), .inr rfl⟩, ⟨by omega, _, rfl, .cells (RenVs.closed day0_below), .inr rfl⟩, ⟨by omega, _, rfl, .cells (RenVs.closed (dayC_below d)), .inr rfl⟩, trivial⟩ (fun p hp => by cases hp)
  cases i with
  | zero =>
    show SW _ _ _ _ _ ⟨cdH d t y nl3 ++ [], 7⟩
    refine SW.seq ?_
    refine SW.seqRun tok hO (by cbv <;> rfl) (by trivial) ?_
    refine OpsW.callP hword0 (by cbv <;> rfl) ?_
    refine OpsW.run tok hO (by cbv <;> rfl) (by exact n6) ?_
    refine SW.condS (by cbv <;> rfl) (fun h => SW.skip ?_) (fun h => SW.exit ?_)
    · have hlt : 0 < cdM n wf := by
        have h2 : O.cmp .lss (Int.ofNat 0) (O.bin .rem .i64 W0 6) = true := h
        rw [hm0] at h2
        subst hO; simpa [std] using h2
      refine SW.seq (SW.block ?_)
      refine cd_a d t y a n wf U hU 0 nl3 [] hyn hpos hwf hcnt O hO _ ⟨rfl, rfl, rfl, rfl, rfl, rfl, rfl, rfl, rfl, trivial⟩ (by omega) fun g' hg' => ?_
      obtain ⟨g1, g2, g3, g6, g7, g8, g9, g10, g11, g13, _⟩ := hg'
      simp only at g1 g2 g3 g6 g7 g8 g9 g10 g11 g13
      rw [← updT_self g1, ← updT_self g2, ← updT_self g3, ← updT_self g6, ← updT_self g7, ← updT_self g8, ← updT_self g9, ← updT_self g10, ← updT_self g11, ← updT_self g13]
      have hsn := cntS (d.cdX y n wf) 0
      generalize hc1 : cdK n wf 0 = c1
      generalize hc2 : cdW d n wf 0 = c2
      generalize hc3 : cdLo d y n wf 0 = c3
      generalize hc4 : cdHi d y n wf 0 = c4
      show SW Try.prog none (.region 14 _ false) _ _ _
      refine SW.runN tok hO 4 (by cbv <;> rfl) (by trivial) ?_
      refine OpsW.appNil tok (by cbv <;> rfl) (by cbv <;> rfl) (by kernel_rfl) (by rfl) (by rfl) ?_
      refine OpsW.run tok hO (by cbv <;> rfl) (by trivial) ?_
      refine SW.run tok hO (by cbv <;> rfl) (by trivial) ?_
      refine ⟨0 + 1, by omega, by omega, ren1 6 9, ?_⟩
      refine WeakR.up rfl rfl (by simp) (Nat.le_refl _) (.inr (by omega)) (by show 6 ≤ 7; omega) ⟨RenV.closed Below.lit, RenV.closed hUb, RenV.ptr (by omega), RenV.ptr (by omega), RenV.ptr (by omega), RenV.ptr (by omega), RenV.ptr (by omega), RenV.ptr (by omega), RenV.inc hO (by omega), trivial⟩
        ⟨⟨by omega, _, rfl, .cells (.cons (RenV.closed Below.lit) (.cons (RenV.closed Below.lit) (.cons (RenV.closed (womsV_below d)) (.cons (RenV.closed (lotsV_below d)) (.cons (RenV.sl (by omega)) .nil))))), .inr rfl⟩, ⟨by omega, _, rfl, .cells (RenVs.closed (talC_below y)), .inr rfl⟩, ⟨by omega, _, rfl, .cells (RenVs.closed (truC_below t)), .inr rfl⟩, ⟨by omega, _, rfl, .cells (RenVs.closed tru0_below), .inr rfl⟩, ⟨by omega, _, rfl, .cells (RenVs.closed day0_below), .inr rfl⟩, ⟨by omega, _, rfl, .cells (RenVs.closed (dayC_below d)), .inr rfl⟩, trivial⟩ (fun p hp => ?_)
      obtain rfl := objG_mem hp
      exact ⟨by omega, _, rfl, .cells (RenVs.of_eq (by rw [← hc1, ← hc2, ← hc3, ← hc4]; exact hsn) (flatG_below (cntC_below' _) _)), .inl rfl⟩
    · have hge : 0 = cdM n wf := by
        have h2 : O.cmp .lss (Int.ofNat 0) (O.bin .rem .i64 W0 6) = false := h
        rw [hm0] at h2
        have : cdM n wf ≤ 0 := by subst hO; simpa [std] using h2
        omega
      refine SW.seq (SW.runD tok mixed hO (by rfl) (by cbv <;> rfl) (by trivial) ?_)
      refine AnyE.effK tok hO (by cbv <;> rfl) (by cbv <;> rfl) (by trivial) ?_ ?_
      · exact (by repeat (first | exact trivial | refine And.intro (by first | exact lv_of hO (by cbv <;> rfl) (by trivial) | (cbv <;> rfl)) ?_))
      refine AnyE.run tok hO (by rfl) (by cbv <;> rfl) (by trivial) ?_
      refine AnyE.effK tok hO (by cbv <;> rfl) (by cbv <;> rfl) (by trivial) ?_ ?_
      · exact (by repeat (first | exact trivial | refine And.intro (by first | exact lv_of hO (by cbv <;> rfl) (by trivial) | (cbv <;> rfl)) ?_))
      refine AnyE.run tok hO (by rfl) (by cbv <;> rfl) (by trivial) ?_
      refine SW.ret ⟨_, _, rfl, rfl, Eqv.tup (.cons (Eqv.agg (.cons (Eqv.of rfl) (.cons (Eqv.of rfl) (.cons (Eqv.of rfl) (.cons (Eqv.of rfl) (.cons ?_ .nil)))))) (.cons (Eqv.of rfl) .nil))⟩
      show Eqv nl3 (.isl (cdM n wf) 4 false _)
      rw [← hge]
      exact Eqv.nil
  | succ m =>
    obtain ⟨G, hG⟩ : ∃ G, G = flatG 4 (cntC (d.cdX y n wf)) (m + 1) := ⟨_, rfl⟩
    show SW _ _ _ _ _ ⟨cdH d t y (.sl 6 0 (m + 1) 4 false) ++ [(6, .cells none false (flatG 4 (cntC (d.cdX y n wf)) (m + 1)))], 7⟩
    rw [← hG]
    refine SW.seq ?_
    refine SW.seqRun tok hO (by cbv <;> rfl) (by trivial) ?_
    refine OpsW.callP hword0 (by cbv <;> rfl) ?_
    refine OpsW.run tok hO (by cbv <;> rfl) (by exact n6) ?_
    refine SW.condS (by cbv <;> rfl) (fun h => SW.skip ?_) (fun h => SW.exit ?_)
    · have hlt : (m + 1) < cdM n wf := by
        have h2 : O.cmp .lss (Int.ofNat (m + 1)) (O.bin .rem .i64 W0 6) = true := h
        rw [hm0] at h2
        have h3 : ((m + 1 : Nat) : Int) < (cdM n wf : Int) := by subst hO; simpa [std] using h2
        omega
      refine SW.seq (SW.block ?_)
      refine cd_a d t y a n wf U hU (m + 1) (.sl 6 0 (m + 1) 4 false) [(6, .cells none false G)] hyn hpos hwf hcnt O hO _ ⟨rfl, rfl, rfl, rfl, rfl, rfl, rfl, rfl, rfl, trivial⟩ (by omega) fun g' hg' => ?_
      obtain ⟨g1, g2, g3, g6, g7, g8, g9, g10, g11, g13, _⟩ := hg'
      simp only at g1 g2 g3 g6 g7 g8 g9 g10 g11 g13
      rw [← updT_self g1, ← updT_self g2, ← updT_self g3, ← updT_self g6, ← updT_self g7, ← updT_self g8, ← updT_self g9, ← updT_self g10, ← updT_self g11, ← updT_self g13]
      have hsn := cntS (d.cdX y n wf) (m + 1)
      generalize hc1 : cdK n wf (m + 1) = c1
      generalize hc2 : cdW d n wf (m + 1) = c2
      generalize hc3 : cdLo d y n wf (m + 1) = c3
      generalize hc4 : cdHi d y n wf (m + 1) = c4
      show SW Try.prog none (.region 14 _ false) _ _ _
      refine SW.runN tok hO 4 (by cbv <;> rfl) (by trivial) ?_
      refine OpsW.appOne (g := cntC (d.cdX y n wf)) (len := m + 1) tok (by cbv <;> rfl) (by cbv <;> rfl) (by rfl) hG (by kernel_rfl) (by rfl) (by rfl) (by omega) fun G' hG' => ?_
      refine OpsW.run tok hO (by cbv <;> rfl) (by trivial) ?_
      refine SW.run tok hO (by cbv <;> rfl) (by trivial) ?_
      refine ⟨(m + 1) + 1, by omega, by omega, ren1 6 9, ?_⟩
      refine WeakR.up rfl rfl (by simp) (Nat.le_refl _) (.inr (by omega)) (by show 6 ≤ 7; omega) ⟨RenV.closed Below.lit, RenV.closed hUb, RenV.ptr (by omega), RenV.ptr (by omega), RenV.ptr (by omega), RenV.ptr (by omega), RenV.ptr (by omega), RenV.ptr (by omega), RenV.inc hO (by omega), trivial⟩
        ⟨⟨by omega, _, rfl, .cells (.cons (RenV.closed Below.lit) (.cons (RenV.closed Below.lit) (.cons (RenV.closed (womsV_below d)) (.cons (RenV.closed (lotsV_below d)) (.cons (RenV.sl (by omega)) .nil))))), .inr rfl⟩, ⟨by omega, _, rfl, .cells (RenVs.closed (talC_below y)), .inr rfl⟩, ⟨by omega, _, rfl, .cells (RenVs.closed (truC_below t)), .inr rfl⟩, ⟨by omega, _, rfl, .cells (RenVs.closed tru0_below), .inr rfl⟩, ⟨by omega, _, rfl, .cells (RenVs.closed day0_below), .inr rfl⟩, ⟨by omega, _, rfl, .cells (RenVs.closed (dayC_below d)), .inr rfl⟩, trivial⟩ (fun p hp => ?_)
      obtain rfl := objG_mem hp
      exact ⟨by omega, _, rfl, .cells (RenVs.of_eq (by rw [hG', ← hc1, ← hc2, ← hc3, ← hc4]; exact hsn) (flatG_below (cntC_below' _) _)), .inl rfl⟩
    · have hge : (m + 1) = cdM n wf := by
        have h2 : O.cmp .lss (Int.ofNat (m + 1)) (O.bin .rem .i64 W0 6) = false := h
        rw [hm0] at h2
        have : (cdM n wf : Int) ≤ ((m + 1 : Nat) : Int) := by subst hO; simpa [std] using h2
        omega
      refine SW.seq (SW.runD tok mixed hO (by rfl) (by cbv <;> rfl) (by trivial) ?_)
      refine AnyE.effK tok hO (by cbv <;> rfl) (by cbv <;> rfl) (by trivial) ?_ ?_
      · exact (by repeat (first | exact trivial | refine And.intro (by first | exact lv_of hO (by cbv <;> rfl) (by trivial) | (cbv <;> rfl)) ?_))
      refine AnyE.run tok hO (by rfl) (by cbv <;> rfl) (by trivial) ?_
      refine AnyE.effK tok hO (by cbv <;> rfl) (by cbv <;> rfl) (by trivial) ?_ ?_
      · exact (by repeat (first | exact trivial | refine And.intro (by first | exact lv_of hO (by cbv <;> rfl) (by trivial) | (cbv <;> rfl)) ?_))
      refine AnyE.run tok hO (by rfl) (by cbv <;> rfl) (by trivial) ?_
      refine SW.ret ⟨_, _, rfl, rfl, Eqv.tup (.cons (Eqv.agg (.cons (Eqv.of rfl) (.cons (Eqv.of rfl) (.cons (Eqv.of rfl) (.cons (Eqv.of rfl) (.cons ?_ .nil)))))) (.cons (Eqv.of rfl) .nil))⟩
      show Eqv (frz _ _ 3 (.sl 6 0 (m + 1) 4 false)) (.isl (cdM n wf) 4 false (cntC (d.cdX y n wf)))
      rw [frz_slE (fm := none) (G := G) rfl rfl (by rw [hG, flatG_length]; omega), ← hge]
      refine Eqv.isl rfl fun j k hj hk => Eqv.of ?_
      rw [hG, frz_flat hj hk (by unfold cntC; split <;> rfl)]
end Go.Fz
