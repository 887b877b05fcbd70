/- Own work of the verifier of watercress: FzTrA. -/
import Derived.Test.YtpefamheopplnaaMl27
import Derived.Test.YtpefamheopplnaaMl29
import Derived.Test.YtpefamheopplnaaMl30
import Derived.Test.YtpefamheopplnaaMl32
import Derived.Test.YtpefamheopplnaaMl22
set_option linter.unusedVariables false
set_option linter.unusedSimpArgs false
namespace Go.Fz
open Go.Proofs
set_option maxRecDepth 100000
set_option linter.unusedVariables false
theorem cd_in {d : DayD} (hc : d.check = 0) {t : TruD} (hf : d.fits t = true) {n : Nat} {wf : Nat → Int} (hwf : ∀ i, i < n → 0 ≤ wf i ∧ wf i ≤ 65535) (j : Nat) :
    (0 ≤ cdK n wf j ∧ cdK n wf j < 6) ∧ (0 ≤ cdW d n wf j ∧ cdW d n wf j < d.nw) ∧ (cdW d n wf j = 0 ∨ cdK n wf j < 2) ∧ 0 ≤ cdLo d (d.tally t) n wf j ∧ cdHi d (d.tally t) n wf j ≤ 20000 ∧
    cdLo d (d.tally t) n wf j ≤ cdN d (d.tally t) n wf j ∧ cdN d (d.tally t) n wf j ≤ cdHi d (d.tally t) n wf j := by
  have g := good_of_check hc
  have hpos := g.pos
  obtain ⟨A, hA⟩ := Int.eq_ofNat_of_zero_le (wrdI_in hwf (j + 1)).1
  have hA2 := (wrdI_in hwf (j + 1)).2
  have hK : cdK n wf j = ((A % 6 : Nat) : Int) := by unfold cdK; rw [hA]; rfl
  have q : ∀ c : Nat, 0 < c → std.bin .quo .i64 (wrdI n wf (j + 1)) (Int.ofNat c) = ((A / c : Nat) : Int) := fun c hc0 => by
    rw [hA]
    show wrp .i64 ((A : Int).tdiv (c : Int)) = _
    rw [show (A : Int).tdiv (c : Int) = ((A / c : Nat) : Int) from rfl]
    have h1 : A / c ≤ A := Nat.div_le_self A c
    have h2 : A ≤ 65535 := by
      rw [hA] at hA2
      exact Int.ofNat_le.1 hA2
    generalize A / c = z at h1
    exact wrp_in (by simp only [IntKind.lo]; omega) (by simp only [IntKind.hi]; omega)
  have hW : (0 ≤ cdW d n wf j ∧ cdW d n wf j < d.nw) ∧ (cdW d n wf j = 0 ∨ cdK n wf j < 2) := by
    unfold cdW
    split
    · rename_i h2
      have h3 : cdK n wf j < 2 := by simpa [std] using h2
      have h8 := q 8 (by omega)
      rw [show (8 : Int) = Int.ofNat 8 from rfl, h8]
      have hm : std.bin .rem .i64 ((A / 8 : Nat) : Int) (Int.ofNat d.nw) = ((A / 8 % d.nw : Nat) : Int) := rfl
      rw [hm]
      have := Nat.mod_lt (A / 8) hpos
      exact ⟨⟨by omega, by omega⟩, .inr h3⟩
    · exact ⟨⟨by omega, by omega⟩, .inl rfl⟩
  have hN := cnt_in g hf (cdK n wf j) (cdW d n wf j) hW.1.1 hW.1.2
  have hN2 : cdN d (d.tally t) n wf j = (d.tally t).cnt (cdK n wf j) (cdW d n wf j) := rfl
  rw [← hN2] at hN
  have r4 : ∀ c : Nat, std.bin .rem .i64 ((A / c : Nat) : Int) 4 = ((A / c % 4 : Nat) : Int) := fun c => rfl
  have hLo : cdLo d (d.tally t) n wf j = std.mx 0 (cdN d (d.tally t) n wf j - ((A / 64 % 4 : Nat) : Int)) := by
    unfold cdLo
    rw [show (64 : Int) = Int.ofNat 64 from rfl, q 64 (by omega), r4]
    congr 1
    have : A / 64 % 4 < 4 := Nat.mod_lt _ (by omega)
    exact wrp_in (by simp only [IntKind.lo]; omega) (by simp only [IntKind.hi]; omega)
  have hHi : cdHi d (d.tally t) n wf j = std.mn 20000 (cdN d (d.tally t) n wf j + ((A / 256 % 4 : Nat) : Int)) := by
    unfold cdHi
    rw [show (256 : Int) = Int.ofNat 256 from rfl, q 256 (by omega), r4]
    congr 1
    have : A / 256 % 4 < 4 := Nat.mod_lt _ (by omega)
    exact wrp_in (by simp only [IntKind.lo]; omega) (by simp only [IntKind.hi]; omega)
  have h6 : A % 6 < 6 := Nat.mod_lt _ (by omega)
  generalize cdN d (d.tally t) n wf j = c at *
  refine ⟨⟨by omega, by omega⟩, hW.1, hW.2, ?_, ?_, ?_, ?_⟩
  · rw [hLo]; show 0 ≤ (if c - ((A / 64 % 4 : Nat) : Int) > 0 then c - ((A / 64 % 4 : Nat) : Int) else 0); split <;> omega
  · rw [hHi]; show (if c + ((A / 256 % 4 : Nat) : Int) < 20000 then c + ((A / 256 % 4 : Nat) : Int) else 20000) ≤ 20000; split <;> omega
  · rw [hLo]; show (if c - ((A / 64 % 4 : Nat) : Int) > 0 then c - ((A / 64 % 4 : Nat) : Int) else 0) ≤ c; split <;> omega
  · rw [hHi]; show c ≤ (if c + ((A / 256 % 4 : Nat) : Int) < 20000 then c + ((A / 256 % 4 : Nat) : Int) else 20000); split <;> omega
theorem made {s f : Int} (hs : 0 ≤ s) (hs2 : s ≤ 1000000000) (hf : 1 ≤ f) : std.bin .add .i64 (std.bin .mul .i64 (quo64 s f) f) (s.tmod f) = s ∧ 0 ≤ s.tmod f ∧ s.tmod f < f := by
  obtain ⟨h1, h2, h3, h4, h5⟩ := tdiv_nn hs hf
  rw [quo64_nn hs hs2 hf]
  have h7 : 0 ≤ s.tdiv f * f := Int.mul_nonneg h1 (by omega)
  have h6 : std.bin .mul .i64 (s.tdiv f) f = s.tdiv f * f := wrp_in (by simp only [IntKind.lo]; omega) (by simp only [IntKind.hi]; omega)
  rw [h6]
  refine ⟨?_, h4, h5⟩
  show wrp .i64 (s.tdiv f * f + s.tmod f) = s
  rw [h3]
  exact wrp_in (by simp only [IntKind.lo]; omega) (by simp only [IntKind.hi]; omega)
section
variable (d : DayD) (m : Nat) (k w lo hi : Nat → Int)
theorem with_manyW : ∀ n, (d.withC m k w lo hi).manyW n = d.manyW n
  | 0 => rfl
  | n + 1 => by unfold DayD.manyW; rw [with_manyW n]; rfl
theorem with_manyL : ∀ n, (d.withC m k w lo hi).manyL n = d.manyL n
  | 0 => with_manyW d m k w lo hi d.nw
  | n + 1 => by unfold DayD.manyL; rw [with_manyL n]; rfl
theorem with_nT : (d.withC m k w lo hi).nT = d.nT := by unfold DayD.nT; rw [with_manyL]; rfl
theorem with_qW (N : Int) : ∀ n, (d.withC m k w lo hi).qW N n = d.qW N n
  | 0 => rfl
  | n + 1 => by unfold DayD.qW; rw [with_qW N n]; rfl
theorem with_qL (N : Int) : ∀ n, (d.withC m k w lo hi).qL N n = d.qL N n
  | 0 => with_qW d m k w lo hi N d.nw
  | n + 1 => by unfold DayD.qL; rw [with_qL N n]; rfl
theorem with_nth (N : Nat) : (d.withC m k w lo hi).nthI N = d.nthI N := by
  have h1 : (d.withC m k w lo hi).feN (Int.ofNat N) = d.feN (Int.ofNat N) := funext fun s => by unfold DayD.feN; rw [with_qW]; rfl
  have h2 : (d.withC m k w lo hi).stN (Int.ofNat N) = d.stN (Int.ofNat N) := funext fun s => by unfold DayD.stN; rw [with_qL]; rfl
  show (⟨d.nw, false, (d.withC m k w lo hi).feN (Int.ofNat N), d.nl, false, (d.withC m k w lo hi).stN (Int.ofNat N)⟩ : TruD) = ⟨d.nw, false, d.feN (Int.ofNat N), d.nl, false, d.stN (Int.ofNat N)⟩
  rw [h1, h2]
end
theorem sub1 {f : Int} (h0 : 0 ≤ f) (h : f ≤ 1000) : std.bin .sub .i64 f 1 = f - 1 := wrp_in (by simp only [IntKind.lo]; omega) (by simp only [IntKind.hi]; omega)
theorem inB_t {n a b : Int} (h1 : a ≤ n) (h2 : n ≤ b) : inB n a b = true := by simp only [inB, Bool.and_eq_true, decide_eq_true_eq]; exact ⟨h1, h2⟩
set_option maxHeartbeats 64000000 in
theorem bunchTruth_ok (haw : Pure Try.prog 17 [] (.lit (.bool true))) (d : DayD) (a : Int) (ha0 : 0 ≤ a) (ha1 : a ≤ 65535) (n : Nat) (wf : Nat → Int) (hwf : ∀ i, i < n → 0 ≤ wf i ∧ wf i ≤ 65535) :
    Pure Try.prog 8 [dayV d, .lit (.int .u16 a), u16V n wf] (.lit (.bool true)) := by
  obtain ⟨O, hO⟩ : ∃ O : Ar, O = std := ⟨_, rfl⟩
  obtain ⟨U, hU⟩ : ∃ U, U = u16V n wf := ⟨_, rfl⟩
  have hUb : Below 0 U := by rw [hU]; exact u16V_below n wf
  rw [← hU]
  refine pure_of_body tok 3 Try.func8 en8 rfl ⟨dayV_below d, Below.lit, hUb, trivial⟩ Below.lit ?_
  refine SW.seqRun tok hO (by cbv <;> rfl) (by trivial) ?_
  refine SW.seq ?_
  refine SW.seqRun tok hO (by cbv <;> rfl) (by trivial) ?_
  have call := ready_ok d
  generalize hR : d.readyB = r at call
  refine OpsW.callP call (by cbv <;> rfl) ?_
  have hnot : O.not r = !r := by subst hO; rfl
  refine OpsW.run tok hO (by cbv <;> rfl) (by trivial) ?_
  refine SW.condS (by cbv <;> rfl) (fun h1 => ?_) (fun h1 => SW.skip ?_)
  · refine SW.seqRun tok hO (by cbv <;> rfl) (by trivial) ?_
    refine OpsW.callP haw (by cbv <;> rfl) ?_
    refine OpsW.run tok hO (by cbv <;> rfl) (by trivial) ?_
    exact SW.ret ⟨_, _, rfl, rfl, Eqv.refl _⟩
  have hr : r = true := by have := hnot.symm.trans h1; simpa using this
  rw [hr] at hR
  obtain ⟨gd, _⟩ := ready_good hR
  have hF : d.faultN = 0 := by
    simp only [DayD.readyB, Bool.and_eq_true, decide_eq_true_eq] at hR; exact hR.2
  have hc : d.check = 0 := (check_eq d).trans hF
  clear call hnot h1 hr hR
  obtain ⟨N, hN, hco⟩ := counted42_ok d hc a ha0 ha1 n wf hwf
  rw [← hU] at hco
  have hfit := nth_fit hc hN
  obtain ⟨x, hx⟩ : ∃ x, x = d.cdX (d.tally (d.nthI N)) n wf := ⟨_, rfl⟩
  have hin := fun j => cd_in hc hfit hwf j
  have hxc : x.check = 0 := by
    rw [hx]
    exact with_check hc (cdM_lt n wf hwf).1 fun j hj => by
      obtain ⟨k1, k2, k3, k4, k5, k6, k7⟩ := hin j
      exact ⟨k1, k2, k3, k4, by omega, k5⟩
  have hxN : N < x.nT := by rw [hx]; show N < (d.withC _ _ _ _ _).nT; rw [with_nT]; exact hN
  have htal : x.tally (d.nthI N) = d.tally (d.nthI N) := by rw [hx]; exact (with_alike d _ _ _ _ _).tally _
  have hxn : x.nthI N = d.nthI N := by rw [hx]; exact with_nth d _ _ _ _ _ N
  have hxr : ∀ j, j < x.nc → x.okB N j = true := fun j hj => by
    unfold DayD.okB
    rw [hxn, htal]
    obtain ⟨k1, k2, k3, k4, k5, k6, k7⟩ := hin j
    have e : x.rightB (d.tally (d.nthI N)) j = inB (cdN d (d.tally (d.nthI N)) n wf j) (cdLo d (d.tally (d.nthI N)) n wf j) (cdHi d (d.tally (d.nthI N)) n wf j) := by rw [hx]; rfl
    rw [e]; exact inB_t k6 k7
  obtain ⟨hne, hpr, hfv, hlv, hV⟩ := truth_has hxc hxN hxr
  have gx := good_of_check hxc
  have hxw : x.nw = d.nw := by rw [hx]; rfl
  have hxl : x.nl = d.nl := by rw [hx]; rfl
  have hnw := gx.nw
  have hnl := gx.nl
  have hnc := gx.nc
  have hsx : x.small := ⟨by omega, by omega, by omega⟩
  have hday := day_ok x (by omega) (by omega) (by omega)
  have hxf : x.fits (x.nthI N) = true := nth_fit hxc hxN
  rw [← hx, ← hxn] at hco
  obtain ⟨t, ht⟩ : ∃ t, t = x.nthI N := ⟨_, rfl⟩
  rw [← ht] at hco hpr hV hxf
  have htf : t.nf = x.nw := by rw [ht]; rfl
  have hts : t.ns = x.nl := by rw [ht]; rfl
  have htV : truV t = .agg [intsV x.nw false t.fe, intsV x.nl false t.st] := by rw [ht]; rfl
  have htc : t.copy = t := by rw [ht]; rfl
  have htru := truth_ok t (by omega) (by omega)
  rw [htc] at htru
  have hplay := play_ok x hsx t (by omega) (by omega)
  rw [show x.playT t = talV (x.tally t) from if_pos ⟨hxc, hxf⟩, show x.playE t = 0 from by unfold DayD.playE; rw [if_pos hxc, if_pos hxf]] at hplay
  have hbo := boundsP_ok x hsx hxc
  rw [show x.bndR = x.bndV from if_neg hne, show x.bndE = 0 from if_neg hne] at hbo
  have hle := leaveA_ok x hsx hxc
  rw [hlv] at hle
  have hfi := firstP_ok x hsx hxc
  rw [show x.firstE = 7 from if_pos hfv, if_pos hfv] at hfi
  have hpt : Pure Try.prog 38 [dayV x, truV t] (.lit (.bool true)) := (proveTruth_ok x hsx t (by omega) (by omega)).res (Eqv.lit (by rw [hpr]))
  have hst := fun w : Nat => stems44_ok x t (w : Int) hts (by omega)
  rw [htV] at hco htru hplay hpt
  have hst : ∀ w : Nat, Pure Try.prog 44 [dayV x, .agg [intsV x.nw false t.fe, intsV x.nl false t.st], iV (Int.ofNat w)] (iV (stemN x t.st (w : Int) x.nl)) := fun w => by rw [← htV]; exact hst w
  have hall := all_le gx hxf
  obtain ⟨tb1, tb2, tb3, tb4⟩ := tally_bounds gx hxf
  have hh := gx.hand
  have hfl := gx.flat
  have hnat : ∀ i : Nat, O.nat (Int.ofNat i) = i := fun i => by subst hO; rfl
  have hbun : ∀ w, x.bun t w = quo64 (stemN x t.st (w : Int) x.nl) (t.fe w) := fun w => by unfold DayD.bun; rw [hts]
  have hlef : ∀ w, x.lef t w = (stemN x t.st (w : Int) x.nl).tmod (t.fe w) := fun w => by unfold DayD.lef; rw [hts]
  have hround : ∀ w : Nat, w < x.nw → O.cmp .lss (x.bun t (O.nat (Int.ofNat w))) 0 = false ∧ Pure Try.prog 44 [dayV x, .agg [intsV x.nw false t.fe, intsV x.nl false t.st], iV (Int.ofNat w)] (iV (stemN x t.st (w : Int) x.nl)) ∧
      O.cmp .neq (O.bin .add .i64 (O.bin .mul .i64 (x.bun t (O.nat (Int.ofNat w))) (t.fe (O.nat (Int.ofNat w)))) (x.lef t (O.nat (Int.ofNat w)))) (stemN x t.st (w : Int) x.nl) = false ∧
      Pure Try.prog 25 [iV (x.lef t (O.nat (Int.ofNat w))), iV 0, iV (O.bin .sub .i64 (t.fe (O.nat (Int.ofNat w))) 1)] (.lit (.bool true)) ∧
      Pure Try.prog 45 [iV (t.fe (O.nat (Int.ofNat w))), rangeV (mnF (fun i => (x.tr i).fe (O.nat (Int.ofNat w))) x.oN) (mxF (fun i => (x.tr i).fe (O.nat (Int.ofNat w))) x.oN)] (.lit (.bool true)) ∧
      Pure Try.prog 45 [iV (x.bun t (O.nat (Int.ofNat w))), rangeV (mnF (fun i => x.bun (x.tr i) (O.nat (Int.ofNat w))) x.oN) (mxF (fun i => x.bun (x.tr i) (O.nat (Int.ofNat w))) x.oN)] (.lit (.bool true)) ∧
      Pure Try.prog 45 [iV (x.lef t (O.nat (Int.ofNat w))), rangeV (mnF (fun i => x.lef (x.tr i) (O.nat (Int.ofNat w))) x.oN) (mxF (fun i => x.lef (x.tr i) (O.nat (Int.ofNat w))) x.oN)] (.lit (.bool true)) := fun w hw => by
    rw [hnat]
    have hs := tb2 w hw
    have hf1 := tb1 w hw
    have hf2 := (tr_feel gx hxf hw).2
    obtain ⟨m1, m2, m3⟩ := made hs.1 hs.2 hf1
    have hb := bun_small gx hxf hw
    have v1 := hV _ (val_fe x hw)
    have v2 := hV _ (val_bun x hw)
    have v3 := hV _ (val_lef x hw)
    refine ⟨?_, hst w, ?_, ?_, ?_, ?_, ?_⟩
    · subst hO; simp only [std, decide_eq_false_iff_not]; omega
    · rw [hbun, hlef]; subst hO; rw [m1]; simp [std]
    · refine (in_ok _ _ _).res (Eqv.lit ?_)
      rw [hlef]; subst hO; rw [sub1 (by omega) (by omega)]; exact inB_t m2 (by omega)
    · exact (in45_ok _ _ _).res (Eqv.lit (inB_t v1.1 v1.2))
    · exact (in45_ok _ _ _).res (Eqv.lit (inB_t v2.1 v2.2))
    · exact (in45_ok _ _ _).res (Eqv.lit (inB_t v3.1 v3.2))
  have w1 := hV _ (val_hands x)
  have w2 := hV _ (val_loose x)
  have w3 := hV _ (val_flats x)
  have w4 := hV _ (val_spare x)
  obtain ⟨n1, n2, n3⟩ := made tb3 tb4 hh.1
  have hq : 0 ≤ quo64 (x.all t) x.hand ∧ quo64 (x.all t) x.hand ≤ 1000000000 := by
    have := quo_le tb3 tb4 hh.1
    omega
  obtain ⟨n4, n5, n6⟩ := made hq.1 hq.2 hfl.1
  have f0 : O.cmp .eql (O.bin .add .i64 (O.bin .mul .i64 (x.tally t).hands x.hand) (x.tally t).loose) (sumN (x.bun t) x.nw) = true := by
    show O.cmp .eql (O.bin .add .i64 (O.bin .mul .i64 (quo64 (x.all t) x.hand) x.hand) ((x.all t).tmod x.hand)) (x.all t) = true
    subst hO; rw [n1]; simp [std]
  have f1 : Pure Try.prog 25 [iV (x.tally t).loose, iV 0, iV (O.bin .sub .i64 x.hand 1)] (.lit (.bool true)) := by
    refine (in_ok _ _ _).res (Eqv.lit ?_)
    subst hO; rw [sub1 (by omega) (by omega)]; exact inB_t n2 (by show (x.all t).tmod x.hand ≤ _; omega)
  have f2 : O.cmp .eql (O.bin .add .i64 (O.bin .mul .i64 (x.tally t).flats x.flat) (x.tally t).spare) (x.tally t).hands = true := by
    show O.cmp .eql (O.bin .add .i64 (O.bin .mul .i64 (quo64 (quo64 (x.all t) x.hand) x.flat) x.flat) ((quo64 (x.all t) x.hand).tmod x.flat)) (quo64 (x.all t) x.hand) = true
    subst hO; rw [n4]; simp [std]
  have f3 : Pure Try.prog 25 [iV (x.tally t).spare, iV 0, iV (O.bin .sub .i64 x.flat 1)] (.lit (.bool true)) := by
    refine (in_ok _ _ _).res (Eqv.lit ?_)
    subst hO; rw [sub1 (by omega) (by omega)]; exact inB_t n5 (by show (quo64 (x.all t) x.hand).tmod x.flat ≤ _; omega)
  have f4 := (in45_ok (x.tally t).hands _ _).res (Eqv.lit (inB_t w1.1 w1.2))
  have f5 := (in45_ok (x.tally t).loose _ _).res (Eqv.lit (inB_t w2.1 w2.2))
  have f6 := (in45_ok (x.tally t).flats _ _).res (Eqv.lit (inB_t w3.1 w3.2))
  have f7 := (in45_ok (x.tally t).spare _ _).res (Eqv.lit (inB_t w4.1 w4.2))
  clear hV w1 w2 w3 w4 hall hst
  refine SW.seqRun tok hO (by cbv <;> rfl) (by trivial) ?_
  refine OpsW.callP hco (by cbv <;> rfl) ?_
  refine OpsW.run tok hO (by cbv <;> rfl) (by trivial) ?_
  refine SW.seq ((tr_3 d x x.nw x.nl t.fe t.st (x.bun t) (x.lef t) (fun _ => 0) (fun _ => 0) (fun _ => 0) (fun _ => 0) (fun _ => 0) (fun _ => 0) (fun _ => 0) (x.tally t).hands (x.tally t).loose (x.tally t).flats (x.tally t).spare 0 0 0 0 0 0 0 0 _ O hO hday htru hplay ⟨rfl, rfl, trivial⟩).mono fun e f st hm => ?_)
  obtain ⟨rfl, g, rfl, h, rfl⟩ := hm
  refine SW.seq ((tr_4 d x x.nw x.nl t.fe t.st (x.bun t) (x.lef t) _ _ _ _ _ _ (fun i => lI [] i) _ _ _ _ _ _ _ _ _ _ _ _ _ O hO hday hbo h).mono fun e f st hm => ?_)
  clear h; obtain ⟨rfl, g, rfl, h, rfl⟩ := hm
  refine SW.seq ((tr_5 d x x.nw x.nl t.fe t.st (x.bun t) (x.lef t) _ _ _ _ _ _ _ _ _ _ _ _ _ _ _ _ _ _ _ _ O hO hday hle h).mono fun e f st hm => ?_)
  clear h; obtain ⟨rfl, g, rfl, h, rfl⟩ := hm
  refine SW.seq ((tr_6 d x x.nw x.nl t.fe t.st (x.bun t) (x.lef t) _ _ _ _ _ _ _ _ _ _ _ _ _ _ _ _ _ _ _ _ O hO hday hfi h).mono fun e f st hm => ?_)
  clear h; obtain ⟨rfl, g, rfl, h, rfl⟩ := hm
  refine SW.seq ((tr_7 d x x.nw x.nl t.fe t.st (x.bun t) (x.lef t) _ _ _ _ _ _ _ _ _ _ _ _ _ _ _ _ _ _ _ _ O hO rfl h).mono fun e f st hm => ?_)
  clear h; obtain ⟨rfl, g, rfl, h, rfl⟩ := hm
  refine SW.seq ((tr_8 d x x.nw x.nl t.fe t.st (x.bun t) (x.lef t) _ _ _ _ _ _ _ _ _ _ _ _ _ _ _ _ _ _ _ _ O hO hday htru hpt h).mono fun e f st hm => ?_)
  clear h; obtain ⟨rfl, g, rfl, h, rfl⟩ := hm
  refine SW.seq ((tr_9 d x x.nw x.nl t.fe t.st (x.bun t) (x.lef t) _ _ _ _ _ _ (fun _ => 0) _ _ _ _ _ _ _ _ _ _ _ _ _ O hO h).mono fun e f st hm => ?_)
  clear h; obtain ⟨rfl, g, rfl, h, rfl⟩ := hm
  refine SW.seq ((tr_10 d x x.nw x.nl t.fe t.st (x.bun t) (x.lef t) _ _ _ _ _ _ (fun _ => 0) _ _ _ _ _ _ _ _ _ _ _ _ _ O hO hnw (fun w => stemN x t.st (w : Int) x.nl) hround h).mono fun e f st hm => ?_)
  clear h; obtain ⟨rfl, g, rfl, h, rfl⟩ := hm
  exact (tr_18 d x x.nw x.nl t.fe t.st (x.bun t) (x.lef t) _ _ _ _ _ _ (fun _ => 0) _ _ _ _ _ _ _ _ _ _ _ _ _ O hO _ haw f0 f1 f2 f3 f4 f5 f6 f7 h).mono fun e f st hm => by obtain ⟨rfl, h3, h2⟩ := hm; exact ⟨_, _, by rw [h3]; rfl, rfl, by show Eqv (frz _ _ 3 (f.ts.get 6)) _; rw [h2]; exact Eqv.of rfl⟩
end Go.Fz
