/- Own work of the verifier of watercress: FzB19n, FzT7, FzLe1, FzT8, FzT9, FzT10, FzEn1, FzLe2, FzBo1, FzL3a, FzW1, FzSe1, FzSe2, FzSe3, FzSe5, FzSe6, FzO2, FzW3, FzSt1, FzL1, FzSt2, FzRg, FzBo3, FzBo4, FzBo5, FzBo6, FzBo7, FzBo8, FzBo9, FzBo10, FzBo2, FzBo11, FzT11, FzFe1, FzFe2, FzFe3, FzBo12. -/
import Derived.Test.YtpefamheopplnaaMl24
import Derived.Test.YtpefamheopplnaaMl21
import Derived.Test.YtpefamheopplnaaMl22
import Derived.Test.YtpefamheopplnaaMl23
import Derived.Test.YtpefamheopplnaaMl18
import Derived.Test.YtpefamheopplnaaMl19
import Derived.Test.YtpefamheopplnaaMl12
import Derived.Test.YtpefamheopplnaaMl15
import Derived.Test.YtpefamheopplnaaMl17
set_option linter.unusedVariables false
set_option linter.unusedSimpArgs false
namespace Go.Fz
open Go.Proofs
set_option maxRecDepth 100000
theorem playN_ok' {d : DayD} {t : TruD} (g : d.Good) (h : d.fits t = true) : Pure Try.prog 47 [dayV d, truV t] (talV (d.tally t)) := by
  obtain ⟨h1, h2, h3, h4⟩ := fits_true h
  obtain ⟨b1, b2, b3, b4⟩ := tally_bounds g h
  exact playN_ok d t h1 h2 g.nw g.nl b1 g.hand.1 g.flat.1 b2 b3 b4
end Go.Fz
namespace Go.Fz
open Go.Proofs
set_option maxRecDepth 100000
set_option linter.unusedVariables false
def DayD.nT (d : DayD) : Nat := (d.manyL d.nl).toNat
def DayD.nthI (d : DayD) (i : Nat) : TruD := d.nthT (Int.ofNat i)
def DayD.okB (d : DayD) (i j : Nat) : Bool := d.rightB (d.tally (d.nthI i)) j
def DayD.selB (d : DayD) (i : Nat) : Bool := decide (bitsN (d.okB i) d.nc = fullI d.nc)
end Go.Fz
namespace Go.Fz
open Go.Proofs
set_option maxRecDepth 100000
set_option linter.unusedVariables false
end Go.Fz
namespace Go.Fz
open Go.Proofs
set_option maxRecDepth 100000
set_option linter.unusedVariables false
def encR (n : Nat) (lo hi t : Nat → Int) : Nat → Int
  | 0 => 0
  | r + 1 => (t (n - (r + 1)) - lo (n - (r + 1))) + (hi (n - (r + 1)) - lo (n - (r + 1)) + 1) * encR n lo hi t r
theorem enc_step {n : Nat} {lo hi t : Nat → Int} {i : Nat} (h : i < n) : encR n lo hi t (n - i) = (t i - lo i) + (hi i - lo i + 1) * encR n lo hi t (n - (i + 1)) := by
  have h1 : n - i = n - (i + 1) + 1 := by omega
  have h2 : n - (n - (i + 1) + 1) = i := by omega
  rw [h1]
  show (t (n - (n - (i + 1) + 1)) - lo (n - (n - (i + 1) + 1))) + (hi (n - (n - (i + 1) + 1)) - lo (n - (n - (i + 1) + 1)) + 1) * encR n lo hi t (n - (i + 1)) = _
  rw [h2]
theorem dm_in {a s b : Int} (h0 : 0 ≤ a) (h1 : a < s) : (a + s * b) / s = b ∧ (a + s * b) % s = a := by
  have hs : s ≠ 0 := by omega
  rw [Int.add_mul_ediv_left a b hs, Int.ediv_eq_zero_of_lt h0 h1, Int.add_mul_emod_self_left, Int.emod_eq_of_lt h0 h1]
  exact ⟨by omega, rfl⟩
section
variable {n : Nat} {lo hi t : Nat → Int}
theorem enc_nn (ht : ∀ m, m < n → lo m ≤ t m ∧ t m ≤ hi m) : ∀ r, r ≤ n → 0 ≤ encR n lo hi t r
  | 0, _ => Int.le_refl _
  | r + 1, h => by
    have ih := enc_nn ht r (by omega)
    have hm := ht (n - (r + 1)) (by omega)
    show 0 ≤ (t (n - (r + 1)) - lo (n - (r + 1))) + (hi (n - (r + 1)) - lo (n - (r + 1)) + 1) * encR n lo hi t r
    have := Int.mul_nonneg (show 0 ≤ hi (n - (r + 1)) - lo (n - (r + 1)) + 1 by omega) ih
    omega
theorem enc_lt (P : Nat → Int) (hP : ∀ i, i ≤ n → 1 ≤ P i) (hs : ∀ i, i < n → P (i + 1) = P i * (hi i - lo i + 1)) (ht : ∀ m, m < n → lo m ≤ t m ∧ t m ≤ hi m) : ∀ r, r ≤ n → P (n - r) * (encR n lo hi t r + 1) ≤ P n
  | 0, _ => by show P n * (0 + 1) ≤ P n; omega
  | r + 1, h => by
    have ih := enc_lt P hP hs ht r (by omega)
    have hnn := enc_nn ht r (by omega)
    obtain ⟨i, hi'⟩ : ∃ i, i = n - (r + 1) := ⟨_, rfl⟩
    have hin : i < n := by omega
    have h1 : n - r = i + 1 := by omega
    have hm := ht i hin
    rw [h1, hs i hin] at ih
    show P (n - (r + 1)) * ((t (n - (r + 1)) - lo (n - (r + 1))) + (hi (n - (r + 1)) - lo (n - (r + 1)) + 1) * encR n lo hi t r + 1) ≤ P n
    rw [← hi']
    refine Int.le_trans ?_ ih
    rw [Int.mul_assoc]
    refine Int.mul_le_mul_of_nonneg_left ?_ (by have := hP i (by omega); omega)
    rw [Int.mul_add, Int.mul_one]
    omega
end
theorem nth_onto {d : DayD} (hc : d.check = 0) {t : Nat → Int} (ht : d.inR t) : ∃ N : Nat, N < d.nT ∧ (∀ i, i < d.nw → (d.nthI N).fe i = t i) ∧ ∀ i, i < d.nl → (d.nthI N).st i = t (d.nw + i) := by
  have gd := good_of_check hc
  have hu := unk_in gd
  have hb := check_many hc
  have hpr := prN_all d.ulo d.uhi (d.nw + d.nl) hu hb
  have hP : ∀ i, i ≤ d.nw + d.nl → 1 ≤ prN d.ulo d.uhi i := fun i hi => (hpr i hi).1
  have hS : ∀ i, i < d.nw + d.nl → prN d.ulo d.uhi (i + 1) = prN d.ulo d.uhi i * (d.uhi i - d.ulo i + 1) := fun i hi => (hpr (i + 1) hi).2.2 i rfl
  have hmany : d.manyL d.nl = prN d.ulo d.uhi (d.nw + d.nl) := by
    rw [manyL_mn]
    obtain ⟨_, m1, _⟩ := mn_pr d.ulo d.uhi (d.nw + d.nl) hu (d.nw + d.nl) (Nat.le_refl _)
    exact ((m1 fun j hj => (hpr (j + 1) hj).2.1).1).symm
  have hle : prN d.ulo d.uhi (d.nw + d.nl) ≤ 2000 := (hpr _ (Nat.le_refl _)).2.1
  have hlt := enc_lt (prN d.ulo d.uhi) hP hS ht (d.nw + d.nl) (Nat.le_refl _)
  have h0 : prN d.ulo d.uhi (d.nw + d.nl - (d.nw + d.nl)) = 1 := by rw [Nat.sub_self]; rfl
  rw [h0, Int.one_mul] at hlt
  have hnn := fun r h => enc_nn (n := d.nw + d.nl) ht r h
  obtain ⟨N, hN⟩ := Int.eq_ofNat_of_zero_le (hnn (d.nw + d.nl) (Nat.le_refl _))
  obtain ⟨q, hq⟩ : ∃ q : Nat → Int, q = fun i => encR (d.nw + d.nl) d.ulo d.uhi t (d.nw + d.nl - i) := ⟨_, rfl⟩
  have hq0 : q 0 = (N : Int) := by rw [hq]; exact hN
  have hqb : ∀ i, 0 ≤ q i ∧ q i ≤ 2000 := fun i => by
    rw [hq]
    have h1 := hnn (d.nw + d.nl - i) (Nat.sub_le _ _)
    have h2 := enc_lt (prN d.ulo d.uhi) hP hS ht (d.nw + d.nl - i) (Nat.sub_le _ _)
    have h3 := hP (d.nw + d.nl - (d.nw + d.nl - i)) (Nat.sub_le _ _)
    have h4 := Int.mul_le_mul_of_nonneg_right h3 (show 0 ≤ encR (d.nw + d.nl) d.ulo d.uhi t (d.nw + d.nl - i) + 1 by omega)
    exact ⟨h1, by show encR (d.nw + d.nl) d.ulo d.uhi t (d.nw + d.nl - i) ≤ 2000; omega⟩
  have hst : ∀ i, i < d.nw + d.nl → quo64 (q i) (size64 (d.ulo i) (d.uhi i)) = q (i + 1) ∧ add64 (d.ulo i) ((q i).tmod (size64 (d.ulo i) (d.uhi i))) = t i := fun i hi => by
    obtain ⟨u0, u1, u2⟩ := hu i hi
    obtain ⟨t0, t1⟩ := ht i hi
    have hs := size64_in u0 u1 u2
    have he : q i = (t i - d.ulo i) + (d.uhi i - d.ulo i + 1) * q (i + 1) := by rw [hq]; exact enc_step hi
    obtain ⟨m1, m2⟩ := dm_in (a := t i - d.ulo i) (s := d.uhi i - d.ulo i + 1) (b := q (i + 1)) (by omega) (by omega)
    rw [← he] at m1 m2
    have hb1 := hqb (i + 1)
    have hb0 := hqb i
    rw [hs]
    constructor
    · unfold quo64
      rw [Int.tdiv_eq_ediv_of_nonneg hb0.1, m1]
      exact wrp_in (by simp only [IntKind.lo]; omega) (by simp only [IntKind.hi]; omega)
    · rw [Int.tmod_eq_emod_of_nonneg hb0.1, m2, add64_in _ _ (by omega) (by omega)]
      omega
  have hw : ∀ i, i < d.nw → d.ulo i = d.wlo i ∧ d.uhi i = d.whi i := fun i hi => by
    unfold DayD.ulo DayD.uhi
    rw [if_pos hi, if_pos hi]; exact ⟨rfl, rfl⟩
  have hl : ∀ i, d.ulo (d.nw + i) = d.llo i ∧ d.uhi (d.nw + i) = d.lhi i := fun i => by
    unfold DayD.ulo DayD.uhi
    rw [if_neg (by omega), if_neg (by omega), Nat.add_sub_cancel_left]; exact ⟨rfl, rfl⟩
  have hW : ∀ i, i ≤ d.nw → d.qW (Int.ofNat N) i = q i := fun i => by
    induction i with
    | zero => intro _; exact hq0.symm
    | succ i ih =>
      intro hi
      have h1 := (hst i (by omega)).1
      rw [(hw i hi).1, (hw i hi).2] at h1
      show quo64 (d.qW (Int.ofNat N) i) (size64 (d.wlo i) (d.whi i)) = _
      rw [ih (by omega)]; exact h1
  have hL : ∀ i, i ≤ d.nl → d.qL (Int.ofNat N) i = q (d.nw + i) := fun i => by
    induction i with
    | zero => intro _; exact hW d.nw (Nat.le_refl _)
    | succ i ih =>
      intro hi
      have h1 := (hst (d.nw + i) (by omega)).1
      rw [(hl i).1, (hl i).2] at h1
      show quo64 (d.qL (Int.ofNat N) i) (size64 (d.llo i) (d.lhi i)) = _
      rw [ih (by omega)]; exact h1
  refine ⟨N, ?_, fun i hi => ?_, fun i hi => ?_⟩
  · have h1 : ((d.nT : Nat) : Int) = d.manyL d.nl := by
      show ((d.manyL d.nl).toNat : Int) = _
      rw [hmany]; have := hP _ (Nat.le_refl _); omega
    have h2 : (N : Int) < (d.nT : Int) := by
      rw [h1, hmany]
      have h3 : encR (d.nw + d.nl) d.ulo d.uhi t (d.nw + d.nl) = (N : Int) := hN
      omega
    exact Int.ofNat_lt.1 h2
  · have h1 := (hst i (by omega)).2
    rw [(hw i hi).1, (hw i hi).2] at h1
    show add64 (d.wlo i) ((d.qW (Int.ofNat N) i).tmod (size64 (d.wlo i) (d.whi i))) = t i
    rw [hW i (by omega)]; exact h1
  · have h1 := (hst (d.nw + i) (by omega)).2
    rw [(hl i).1, (hl i).2] at h1
    show add64 (d.llo i) ((d.qL (Int.ofNat N) i).tmod (size64 (d.llo i) (d.lhi i))) = t (d.nw + i)
    rw [hL i (by omega)]; exact h1
end Go.Fz
namespace Go.Fz
open Go.Proofs
set_option maxRecDepth 100000
set_option linter.unusedVariables false
theorem bits_congr {b c : Nat → Bool} : ∀ {n : Nat}, (∀ j, j < n → b j = c j) → bitsN b n = bitsN c n
  | 0, _ => rfl
  | n + 1, h => by
    unfold bitsN
    rw [bits_congr fun j hj => h j (by omega), h n (by omega)]
theorem full_fin : ∀ (b0 b1 b2 b3 b4 : Bool) (n : Fin 6), bitsN (mkB (b0, b1, b2, b3, b4)) n.1 = fullI n.1 ↔ ∀ j : Fin 5, j.1 < n.1 → mkB (b0, b1, b2, b3, b4) j.1 = true := by decide +kernel
theorem bits_full (b : Nat → Bool) {n : Nat} (hn : n ≤ 5) : bitsN b n = fullI n ↔ ∀ j, j < n → b j = true := by
  have h5 : ∀ j, j < 5 → mkB (b 0, b 1, b 2, b 3, b 4) j = b j := fun j hj => by
    match j, hj with
    | 0, _ => rfl
    | 1, _ => rfl
    | 2, _ => rfl
    | 3, _ => rfl
    | 4, _ => rfl
  have h := full_fin (b 0) (b 1) (b 2) (b 3) (b 4) ⟨n, by omega⟩
  rw [bits_congr (n := n) fun j hj => h5 j (by omega)] at h
  rw [h]
  constructor
  · intro k j hj
    have := k ⟨j, by omega⟩ hj
    rw [h5 j (by omega)] at this; exact this
  · intro k j hj
    rw [h5 j.1 j.2]; exact k j.1 hj
theorem stemN_congr (d : DayD) {s s' : Nat → Int} (w : Int) : ∀ {n : Nat}, (∀ i, i < n → s i = s' i) → stemN d s w n = stemN d s' w n
  | 0, _ => rfl
  | n + 1, h => by
    show (if d.lw n = w then add64 (stemN d s w n) (s n) else stemN d s w n) = (if d.lw n = w then add64 (stemN d s' w n) (s' n) else stemN d s' w n)
    rw [stemN_congr d w fun i hi => h i (by omega), h n (by omega)]
theorem sumN_congr {b c : Nat → Int} : ∀ {n : Nat}, (∀ i, i < n → b i = c i) → sumN b n = sumN c n
  | 0, _ => rfl
  | n + 1, h => by
    show add64 (sumN b n) (b n) = add64 (sumN c n) (c n)
    rw [sumN_congr fun i hi => h i (by omega), h n (by omega)]
theorem right_congr {d : DayD} (gd : d.Good) {t u : TruD} (h1 : t.ns = d.nl) (h2 : u.ns = d.nl) (hf : ∀ w, w < d.nw → t.fe w = u.fe w) (hs : ∀ i, i < d.nl → t.st i = u.st i) {j : Nat} (hj : j < d.nc) : d.rightB (d.tally t) j = d.rightB (d.tally u) j := by
  have hst : ∀ w : Int, stemN d t.st w t.ns = stemN d u.st w u.ns := fun w => by rw [h1, h2]; exact stemN_congr d w hs
  have hb : ∀ w, w < d.nw → d.bun t w = d.bun u w := fun w hw => by unfold DayD.bun; rw [hst, hf w hw]
  have hl : ∀ w, w < d.nw → d.lef t w = d.lef u w := fun w hw => by unfold DayD.lef; rw [hst, hf w hw]
  have ha : d.all t = d.all u := by unfold DayD.all; exact sumN_congr hb
  have hc := (gd.cnt j hj).2.1
  have hw : (d.cw j).toNat < d.nw := by omega
  unfold DayD.rightB TalD.cnt
  show inB (if d.ck j = 0 then d.bun t (d.cw j).toNat else if d.ck j = 1 then d.lef t (d.cw j).toNat else if d.ck j = 2 then (d.tally t).hands else if d.ck j = 3 then (d.tally t).loose else if d.ck j = 4 then (d.tally t).flats else (d.tally t).spare) _ _ = inB (if d.ck j = 0 then d.bun u (d.cw j).toNat else if d.ck j = 1 then d.lef u (d.cw j).toNat else if d.ck j = 2 then (d.tally u).hands else if d.ck j = 3 then (d.tally u).loose else if d.ck j = 4 then (d.tally u).flats else (d.tally u).spare) _ _
  have e2 : (d.tally t).hands = (d.tally u).hands := by unfold DayD.tally; simp only [ha]
  have e3 : (d.tally t).loose = (d.tally u).loose := by unfold DayD.tally; simp only [ha]
  have e4 : (d.tally t).flats = (d.tally u).flats := by unfold DayD.tally; simp only [ha]
  have e5 : (d.tally t).spare = (d.tally u).spare := by unfold DayD.tally; simp only [ha]
  rw [hb _ hw, hl _ hw, e2, e3, e4, e5]
def numT (d : DayD) (t : TruD) (m : Nat) : Int := if m < d.nw then t.fe m else t.st (m - d.nw)
theorem selT_mem (p : Nat → Bool) (x : Nat) : ∀ n, x ∈ selT p n ↔ x < n ∧ p x = true
  | 0 => by simp [selT]
  | n + 1 => by
    unfold selT
    have ih := selT_mem p x n
    split
    · rename_i hp
      rw [List.mem_append, ih, List.mem_singleton]
      constructor
      · rintro (⟨h1, h2⟩ | rfl)
        · exact ⟨by omega, h2⟩
        · exact ⟨by omega, hp⟩
      · rintro ⟨h1, h2⟩
        by_cases e : x = n
        · exact .inr e
        · exact .inl ⟨by omega, h2⟩
    · rename_i hp
      rw [ih]
      constructor
      · rintro ⟨h1, h2⟩; exact ⟨by omega, h2⟩
      · rintro ⟨h1, h2⟩
        refine ⟨?_, h2⟩
        rcases Nat.lt_succ_iff_lt_or_eq.1 h1 with h | h
        · exact h
        · subst h; exact absurd h2 hp
theorem sel_outs {d : DayD} (hc : d.check = 0) (c : (Nat → Int) → Prop) : (∃ f, f ∈ d.seen.outs ∧ c f) ↔ ∃ n, n ∈ selT d.selB d.nT ∧ c (cutF (d.nw + d.nl) (numT d (d.nthI n))) := by
  have gd := good_of_check hc
  have hn5 := gd.nc
  have hsel : ∀ n, d.selB n = true ↔ ∀ j, j < d.nc → d.rightB (d.tally (d.nthI n)) j = true := fun n => by
    unfold DayD.selB
    rw [decide_eq_true_eq]
    exact bits_full (d.okB n) hn5
  have hcut : ∀ (t : Nat → Int) (m : Nat), m < d.nw + d.nl → cutF (d.nw + d.nl) t m = t m := fun t m hm => if_pos hm
  have hnum1 : ∀ n w, w < d.nw → numT d (d.nthI n) w = (d.nthI n).fe w := fun n w hw => if_pos hw
  have hnum2 : ∀ n i, numT d (d.nthI n) (d.nw + i) = (d.nthI n).st i := fun n i => by
    unfold numT
    rw [if_neg (by omega), Nat.add_sub_cancel_left]
  have hsame : ∀ n j, j < d.nc → d.rightB (d.tally (truF d (cutF (d.nw + d.nl) (numT d (d.nthI n))))) j = d.rightB (d.tally (d.nthI n)) j := fun n j hj =>
    right_congr gd rfl rfl (fun w hw => by
      show cutF (d.nw + d.nl) (numT d (d.nthI n)) w = _
      rw [hcut _ w (by omega), hnum1 n w hw]) (fun i hi => by
      show cutF (d.nw + d.nl) (numT d (d.nthI n)) (d.nw + i) = _
      rw [hcut _ (d.nw + i) (by omega), hnum2 n i]) hj
  have hT : (d.nT : Int) ≤ 2000 := by
    have hu := unk_in gd
    have hpr := prN_all d.ulo d.uhi (d.nw + d.nl) hu (check_many hc)
    obtain ⟨_, m1, _⟩ := mn_pr d.ulo d.uhi (d.nw + d.nl) hu (d.nw + d.nl) (Nat.le_refl _)
    have h1 := (m1 fun j hj => (hpr (j + 1) hj).2.1).1
    have h2 := (hpr _ (Nat.le_refl _)).2.1
    rw [h1, ← manyL_mn] at h2
    show ((d.manyL d.nl).toNat : Int) ≤ 2000
    omega
  constructor
  · rintro ⟨f, hf, hcf⟩
    obtain ⟨t, ht, rfl, hw⟩ := (seen_out d f).1 hf
    rw [wrong_no hn5] at hw
    obtain ⟨N, hN, h1, h2⟩ := nth_onto hc ht
    have he : cutF (d.nw + d.nl) (numT d (d.nthI N)) = cutF (d.nw + d.nl) t := cutF_congr fun m hm => by
      unfold numT
      by_cases hmw : m < d.nw
      · rw [if_pos hmw]; exact h1 m hmw
      · rw [if_neg hmw, h2 (m - d.nw) (by omega)]
        congr 1; omega
    refine ⟨N, (selT_mem _ _ _).2 ⟨hN, (hsel N).2 fun j hj => ?_⟩, by rw [he]; exact hcf⟩
    rw [← hsame N j hj, he]
    exact hw j hj
  · rintro ⟨N, hN, hcN⟩
    obtain ⟨hN1, hN2⟩ := (selT_mem _ _ _).1 hN
    refine ⟨_, (seen_out d _).2 ⟨numT d (d.nthI N), fun m hm => ?_, rfl, (wrong_no hn5 _).2 fun j hj => ?_⟩, hcN⟩
    · have hfit := nth_fits gd (N := Int.ofNat N) (Int.natCast_nonneg N) (by
        have : (N : Int) < (d.nT : Int) := Int.ofNat_lt.2 hN1
        show (N : Int) ≤ 1000000000
        omega)
      obtain ⟨_, _, k1, k2⟩ := fits_true hfit
      unfold numT DayD.ulo DayD.uhi
      by_cases hmw : m < d.nw
      · rw [if_pos hmw, if_pos hmw, if_pos hmw]; exact k1 m hmw
      · rw [if_neg hmw, if_neg hmw, if_neg hmw]; exact k2 (m - d.nw) (by omega)
    · show d.rightB (d.tally (truF d _)) j = true
      rw [hsame N j hj]
      exact (hsel N).1 hN2 j hj
end Go.Fz
namespace Go.Fz
open Go.Proofs
set_option maxRecDepth 100000
set_option linter.unusedVariables false
end Go.Fz
namespace Go.Fz
open Go.Proofs
set_option maxRecDepth 100000
set_option linter.unusedVariables false
theorem nT_in {d : DayD} (hc : d.check = 0) : 0 ≤ d.manyL d.nl ∧ d.manyL d.nl ≤ 2000 := by
  have gd := good_of_check hc
  have hu := unk_in gd
  have hpr := prN_all d.ulo d.uhi (d.nw + d.nl) hu (check_many hc)
  obtain ⟨_, m1, _⟩ := mn_pr d.ulo d.uhi (d.nw + d.nl) hu (d.nw + d.nl) (Nat.le_refl _)
  have h1 := (m1 fun j hj => (hpr (j + 1) hj).2.1).1
  have h0 := (hpr _ (Nat.le_refl _)).1
  have h2 := (hpr _ (Nat.le_refl _)).2.1
  rw [h1, ← manyL_mn] at h2 h0
  exact ⟨by omega, h2⟩
def DayD.sel (d : DayD) : List Nat := selT d.selB d.nT
def DayD.sN (d : DayD) : Nat := d.sel.length
def DayD.sT (d : DayD) (k : Nat) : TruD := d.nthI (d.sel.getD k 0)
theorem sel_nil {d : DayD} (hc : d.check = 0) : d.sN = 0 ↔ d.seen.outs = [] := by
  have h := sel_outs hc (fun _ => True)
  constructor
  · intro h0
    have h1 : selT d.selB d.nT = [] := List.length_eq_zero_iff.1 h0
    cases ho : d.seen.outs with
    | nil => rfl
    | cons f l =>
      obtain ⟨n, hn, _⟩ := h.1 ⟨f, by rw [ho]; exact List.mem_cons_self, trivial⟩
      rw [h1] at hn; cases hn
  · intro h0
    show (selT d.selB d.nT).length = 0
    cases hs : selT d.selB d.nT with
    | nil => rfl
    | cons n l =>
      obtain ⟨f, hf, _⟩ := h.2 ⟨n, by rw [hs]; exact List.mem_cons_self, trivial⟩
      rw [h0] at hf; cases hf
theorem nth_fit {d : DayD} (hc : d.check = 0) {N : Nat} (hN : N < d.nT) : d.fits (d.nthI N) = true :=
  nth_fits (good_of_check hc) (N := Int.ofNat N) (Int.natCast_nonneg N) (by
    have h1 := nT_in hc
    have h2 : (N : Int) < (d.nT : Int) := Int.ofNat_lt.2 hN
    have h3 : (d.nT : Int) = d.manyL d.nl := by
      show ((d.manyL d.nl).toNat : Int) = _
      omega
    show (N : Int) ≤ 1000000000
    omega)
def DayD.Val (d : DayD) (V : TruD → Int) : Prop := ∀ t u : TruD, t.ns = d.nl → u.ns = d.nl → (∀ w, w < d.nw → t.fe w = u.fe w) → (∀ i, i < d.nl → t.st i = u.st i) → V t = V u
theorem val_fe (d : DayD) {w : Nat} (hw : w < d.nw) : d.Val (fun t => t.fe w) := fun t u _ _ hf _ => hf w hw
theorem bun_same {d : DayD} {t u : TruD} (h1 : t.ns = d.nl) (h2 : u.ns = d.nl) (hf : ∀ w, w < d.nw → t.fe w = u.fe w) (hs : ∀ i, i < d.nl → t.st i = u.st i) {w : Nat} (hw : w < d.nw) : d.bun t w = d.bun u w := by
  unfold DayD.bun; rw [h1, h2, stemN_congr d w hs, hf w hw]
theorem val_bun (d : DayD) {w : Nat} (hw : w < d.nw) : d.Val (fun t => d.bun t w) := fun t u h1 h2 hf hs => bun_same h1 h2 hf hs hw
theorem val_lef (d : DayD) {w : Nat} (hw : w < d.nw) : d.Val (fun t => d.lef t w) := fun t u h1 h2 hf hs => by
  show d.lef t w = d.lef u w
  unfold DayD.lef; rw [h1, h2, stemN_congr d w hs, hf w hw]
theorem all_same {d : DayD} {t u : TruD} (h1 : t.ns = d.nl) (h2 : u.ns = d.nl) (hf : ∀ w, w < d.nw → t.fe w = u.fe w) (hs : ∀ i, i < d.nl → t.st i = u.st i) : d.all t = d.all u := by
  unfold DayD.all; exact sumN_congr fun w hw => bun_same h1 h2 hf hs hw
theorem val_hands (d : DayD) : d.Val (fun t => (d.tally t).hands) := fun t u h1 h2 hf hs => by show (d.tally t).hands = (d.tally u).hands; unfold DayD.tally; simp only [all_same h1 h2 hf hs]
theorem val_loose (d : DayD) : d.Val (fun t => (d.tally t).loose) := fun t u h1 h2 hf hs => by show (d.tally t).loose = (d.tally u).loose; unfold DayD.tally; simp only [all_same h1 h2 hf hs]
theorem val_flats (d : DayD) : d.Val (fun t => (d.tally t).flats) := fun t u h1 h2 hf hs => by show (d.tally t).flats = (d.tally u).flats; unfold DayD.tally; simp only [all_same h1 h2 hf hs]
theorem val_spare (d : DayD) : d.Val (fun t => (d.tally t).spare) := fun t u h1 h2 hf hs => by show (d.tally t).spare = (d.tally u).spare; unfold DayD.tally; simp only [all_same h1 h2 hf hs]
theorem val_nth {d : DayD} {V : TruD → Int} (hV : d.Val V) (N : Nat) : V (truF d (cutF (d.nw + d.nl) (numT d (d.nthI N)))) = V (d.nthI N) :=
  hV _ _ rfl rfl (fun w hw => by
    show cutF (d.nw + d.nl) (numT d (d.nthI N)) w = _
    unfold cutF numT; rw [if_pos (by omega), if_pos hw]) (fun i hi => by
    show cutF (d.nw + d.nl) (numT d (d.nthI N)) (d.nw + i) = _
    unfold cutF numT; rw [if_pos (by omega), if_neg (by omega), Nat.add_sub_cancel_left])
theorem val_sel {d : DayD} (hc : d.check = 0) {V : TruD → Int} (hV : d.Val V) (x : Int) : (∃ i, i < d.oN ∧ V (d.tr i) = x) ↔ ∃ k, k < d.sN ∧ V (d.sT k) = x := by
  have h := sel_outs hc (fun f => V (truF d f) = x)
  constructor
  · rintro ⟨i, hi, e⟩
    obtain ⟨N, hN, e2⟩ := h.1 ⟨_, nth_mem hi, e⟩
    rw [val_nth hV] at e2
    obtain ⟨k, hk, e3⟩ := List.getElem_of_mem hN
    refine ⟨k, hk, ?_⟩
    show V (d.nthI ((selT d.selB d.nT).getD k 0)) = x
    rw [List.getD_eq_getElem?_getD, List.getElem?_eq_getElem hk, Option.getD_some, e3]; exact e2
  · rintro ⟨k, hk, e⟩
    have e2 : V (d.nthI ((selT d.selB d.nT).getD k 0)) = x := e
    have hk2 : k < (selT d.selB d.nT).length := hk
    rw [List.getD_eq_getElem?_getD, List.getElem?_eq_getElem hk2, Option.getD_some] at e2
    obtain ⟨f, hf, e3⟩ := h.2 ⟨_, List.getElem_mem hk2, by rw [val_nth hV]; exact e2⟩
    obtain ⟨i, hi, rfl⟩ := mem_nth hf
    exact ⟨i, hi, e3⟩
theorem sel_in {d : DayD} (hc : d.check = 0) {V : TruD → Int} (hV : d.Val V) {k : Nat} (hk : k < d.sN) : mnF (fun i => V (d.tr i)) d.oN ≤ V (d.sT k) ∧ V (d.sT k) ≤ mxF (fun i => V (d.tr i)) d.oN := by
  obtain ⟨i, hi, e⟩ := (val_sel hc hV _).2 ⟨k, hk, rfl⟩
  rw [← e]
  exact ⟨mnF_le (V := fun i => V (d.tr i)) hi, mxF_ge (V := fun i => V (d.tr i)) hi⟩
end Go.Fz
namespace Go.Fz
open Go.Proofs
set_option maxRecDepth 100000
set_option linter.unusedVariables false
theorem inR_nth {d : DayD} (hc : d.check = 0) {N : Nat} (hN : N < d.nT) : d.inR (numT d (d.nthI N)) := fun m hm => by
  obtain ⟨_, _, k1, k2⟩ := fits_true (nth_fit hc hN)
  unfold numT DayD.ulo DayD.uhi
  by_cases hmw : m < d.nw
  · rw [if_pos hmw, if_pos hmw, if_pos hmw]; exact k1 m hmw
  · rw [if_neg hmw, if_neg hmw, if_neg hmw]; exact k2 (m - d.nw) (by omega)
theorem okC_nth {d : DayD} (hc : d.check = 0) (N : Nat) {j : Nat} (hj : j < d.nc) : d.okC (cutF (d.nw + d.nl) (numT d (d.nthI N))) j = d.okB N j :=
  right_congr (good_of_check hc) rfl rfl (fun w hw => by
    show cutF (d.nw + d.nl) (numT d (d.nthI N)) w = _
    unfold cutF numT; rw [if_pos (by omega), if_pos hw]) (fun i hi => by
    show cutF (d.nw + d.nl) (numT d (d.nthI N)) (d.nw + i) = _
    unfold cutF numT; rw [if_pos (by omega), if_neg (by omega), Nat.add_sub_cancel_left]) hj
end Go.Fz
namespace Go.Fz
open Go.Proofs
set_option maxRecDepth 100000
set_option linter.unusedVariables false
end Go.Fz
namespace Go.Fz
open Go.Proofs
set_option maxRecDepth 100000
section
variable {P : Program} {T : Ti}
def lsB (n m : Nat) : Array Bool := ((List.range n).map fun i => m.testBit i).toArray
def tkB (ops : Array Oper) (pend : List (Nat × AV)) (listed : Array Bool) (i d : Nat) : Bool := match ops[i]? with
  | some o => (match o.dst with | some x => Nat.beq x d | none => false) && ((Region.ready .any ops listed).contains i && noLookB ops pend o)
  | none => false
theorem AnyE.tk {ops : Array Oper} {M : List Nat} {rd : Option Nat} {K : Fm → St → Prop} {fuel : Nat} {pend : List (Nat × AV)} {f : Fm} {st : St} (hM : tidyB ops M = true) (hT : TOk P T) {n m : Nat} (i d m' : Nat) {r0 r : AV}
    (hb : tkB ops pend (lsB n m) i d = true) (hs : (lsB n m).setIfInBounds i true = lsB n m') (hl : lightV T ops st.h f i = some r0) (he : Eqv r0 r)
    (H : AnyE P T ops M rd K fuel ((i, r) :: pend) (lsB n m') (f.put (some d) r) st) : AnyE P T ops M rd K (fuel + 1) pend (lsB n m) f st := by
  unfold tkB at hb
  split at hb
  · rename_i o ho
    rw [Bool.and_eq_true] at hb
    obtain ⟨h1, h2⟩ := hb
    have hd : o.dst = some d := by
      split at h1
      · rename_i x hx; rw [hx, Nat.eq_of_beq_eq_true h1]
      · cases h1
    refine AnyE.takeE hM hT i ho h2 ⟨r0, hl, he⟩ ?_
    rw [hs, hd]
    exact H
  · cases hb
theorem AnyE.ls {ops : Array Oper} {M : List Nat} {rd : Option Nat} {K : Fm → St → Prop} {fuel : Nat} {pend : List (Nat × AV)} {f f' : Fm} {st : St} {listed : Array Bool} {n : Nat} (m' : Nat) (hs : listed = lsB n m') (hf : f' = f) (h : AnyE P T ops M rd K fuel pend (lsB n m') f st) : AnyE P T ops M rd K fuel pend listed f' st := by
  rw [hs, hf]; exact h
theorem SW.drawnB (_hT : TOk P T) {ops : Array Oper} {M : List Nat} (hm : P.follows .mixedOrders = true) {rd : Option Nat} {id : Nat} {Q : Exit → Fm → St → Prop} {f : Fm} {st : St} (n : Nat) (hM : tidyB ops M = true) (hn : ops.size = n) (h0 : Array.replicate n false = lsB n 0)
    (h : AnyE P T ops M rd (fun f' st' => Q .normal f' st') n [] (lsB n 0) f st) : SW P rd (.region id ops true) Q f st := by
  refine SW.drawnE (T := T) hm hM ?_
  rw [hn, h0]; exact h
end
end Go.Fz
namespace Go.Fz
open Go.Proofs
set_option maxRecDepth 100000
section
variable {P : Program} {T : Ti}
end
end Go.Fz
namespace Go.Fz
open Go.Proofs
set_option maxRecDepth 100000
set_option linter.unusedVariables false
section
variable {P : Program}
end
end Go.Fz
namespace Go.Fz
open Go.Proofs
set_option maxRecDepth 100000
set_option linter.unusedVariables false
end Go.Fz
namespace Go.Fz
open Go.Proofs
set_option maxRecDepth 100000
set_option linter.unusedVariables false
end Go.Fz
namespace Go.Fz
open Go.Proofs
set_option maxRecDepth 100000
set_option linter.unusedVariables false
end Go.Fz
namespace Go.Fz
open Go.Proofs
set_option maxRecDepth 100000
set_option linter.unusedVariables false
end Go.Fz
namespace Go.Fz
open Go.Proofs
set_option maxRecDepth 100000
variable {d x : DayD}
end Go.Fz
namespace Go.Fz
open Go.Proofs
set_option maxRecDepth 100000
set_option linter.unusedVariables false
end Go.Fz
namespace Go.Fz
open Go.Proofs
set_option maxRecDepth 100000
set_option linter.unusedVariables false
section
variable {d : DayD} {x : List Nat} {fe : Nat → Int}
end
end Go.Fz
namespace Go.Fz
open Go.Proofs
set_option maxRecDepth 100000
theorem between_ok (a b : Int) : Pure Try.prog 37 [iV a, iV b] (rangeV a b) := by
  obtain ⟨O, hO⟩ : ∃ O : Ar, O = std := ⟨_, rfl⟩
  refine pure_of_body tok 3 Try.func37 en37 rfl ⟨Below.lit, Below.lit, trivial⟩ rangeV_below ?_
  refine SW.seqRun tok hO (by cbv <;> rfl) (by trivial) ?_
  refine SW.seqRun tok hO (by cbv <;> rfl) (by trivial) ?_
  exact SW.ret ⟨_, _, rfl, rfl, Eqv.of rfl⟩
def pick2 (a b : Int) (i : Nat) : Int := if i = 0 then a else b
def twoD (k : Nat) : DayD := { hand := 6, flat := 4, nw := 2, wlo := pick2 20 25, whi := pick2 22 25, nl := 2, lw := pick2 0 1, llo := pick2 500 610, lhi := pick2 502 610, nc := k, ck := pick2 4 1, cw := pick2 0 0, clo := pick2 2 5, chi := pick2 2 9 }
set_option maxHeartbeats 16000000 in
theorem two_ok0 : Pure Try.prog 35 [iV 0] (dayV (twoD 0)) := by
  obtain ⟨O, hO⟩ : ∃ O : Ar, O = std := ⟨_, rfl⟩
  have ha := between_ok 2 2
  have hb := between_ok 5 9
  have h0 := between_ok 20 22
  have h1 := between_ok 25 25
  have h3 := between_ok 500 502
  have h5 := between_ok 610 610
  refine pure_of_body tok 4 Try.func35 en35 rfl ⟨Below.lit, trivial⟩ (dayV_below _) ?_
  refine SW.seqRun tok hO (by cbv <;> rfl) (by trivial) ?_
  refine SW.seqRun tok hO (by cbv <;> rfl) (by trivial) ?_
  refine OpsW.callP ha (by cbv <;> rfl) ?_
  refine OpsW.run tok hO (by cbv <;> rfl) (by trivial) ?_
  refine OpsW.callP hb (by cbv <;> rfl) ?_
  refine OpsW.run tok hO (by cbv <;> rfl) (by trivial) ?_
  refine SW.seqRunD tok mixed hO (by kernel_rfl) (by cbv <;> rfl) (by trivial) ?_
  refine AnyE.take (r := .sl 1 0 0 4 (Nat.beq 0 2)) (by kernel_rfl) tok 10 rfl (by cbv <;> rfl) (by cbv <;> rfl) ?_
  refine AnyE.run tok hO (by rfl) (by cbv <;> rfl) (by trivial) ?_
  refine AnyE.callP h0 (by cbv <;> rfl) (by cbv <;> rfl) ?_
  refine AnyE.run tok hO (by rfl) (by cbv <;> rfl) (by trivial) ?_
  refine AnyE.callP h1 (by cbv <;> rfl) (by cbv <;> rfl) ?_
  refine AnyE.run tok hO (by rfl) (by cbv <;> rfl) (by trivial) ?_
  refine AnyE.many [2, 3] (by cbv <;> rfl) (by rfl) ⟨?_, ?_, trivial⟩
  · refine PickE.eff tok hO (by cbv <;> rfl) (by cbv <;> rfl) (by trivial) ?_ ?_
    · exact (by repeat (first | exact trivial | refine And.intro (by first | exact lv_of hO (by cbv <;> rfl) (by trivial) | (cbv <;> rfl)) ?_))
    refine AnyE.run tok hO (by rfl) (by cbv <;> rfl) (by trivial) ?_
    refine AnyE.callP h3 (by cbv <;> rfl) (by cbv <;> rfl) ?_
    refine AnyE.run tok hO (by rfl) (by cbv <;> rfl) (by trivial) ?_
    refine AnyE.callP h5 (by cbv <;> rfl) (by cbv <;> rfl) ?_
    refine AnyE.run tok hO (by rfl) (by cbv <;> rfl) (by trivial) ?_
    refine AnyE.effK tok hO (by cbv <;> rfl) (by cbv <;> rfl) (by trivial) ?_ ?_
    · exact (by repeat (first | exact trivial | refine And.intro (by first | exact lv_of hO (by cbv <;> rfl) (by trivial) | (cbv <;> rfl)) ?_))
    refine AnyE.run tok hO (by rfl) (by cbv <;> rfl) (by trivial) ?_
    refine AnyE.effK tok hO (by cbv <;> rfl) (by cbv <;> rfl) (by trivial) ?_ ?_
    · exact (by repeat (first | exact trivial | refine And.intro (by first | exact lv_of hO (by cbv <;> rfl) (by trivial) | (cbv <;> rfl)) ?_))
    refine AnyE.run tok hO (by rfl) (by cbv <;> rfl) (by trivial) ?_
    refine SW.ret ⟨_, _, rfl, rfl, ?_⟩
    exact Eqv.agg (.cons (Eqv.of rfl) (.cons (Eqv.of rfl) (.cons (by (first | refine Eqv.isl rfl fun i j hi hj => ?_ | refine Eqv.trans Eqv.islX (Eqv.isl rfl fun i j hi hj => ?_)) <;> (obtain rfl | rfl : i = 0 ∨ i = 1 := by omega) <;> (obtain rfl | rfl | rfl | rfl : j = 0 ∨ j = 1 ∨ j = 2 ∨ j = 3 := by omega) <;> first | exact Eqv.of rfl | omega) (.cons (by (first | refine Eqv.isl rfl fun i j hi hj => ?_ | refine Eqv.trans Eqv.islX (Eqv.isl rfl fun i j hi hj => ?_)) <;> (obtain rfl | rfl : i = 0 ∨ i = 1 := by omega) <;> (obtain rfl | rfl | rfl | rfl : j = 0 ∨ j = 1 ∨ j = 2 ∨ j = 3 := by omega) <;> first | exact Eqv.of rfl | omega) (.cons (by (first | refine Eqv.isl rfl fun i j hi hj => ?_ | refine Eqv.trans Eqv.islX (Eqv.isl rfl fun i j hi hj => ?_)) <;> (obtain rfl | rfl : i = 0 ∨ i = 1 := by omega) <;> (obtain rfl | rfl | rfl | rfl : j = 0 ∨ j = 1 ∨ j = 2 ∨ j = 3 := by omega) <;> first | exact Eqv.of rfl | omega) .nil)))))
  · refine PickE.callQ h3 (by cbv <;> rfl) (by cbv <;> rfl) ?_ ?_
    · exact (by repeat (first | exact trivial | refine And.intro (by first | exact lv_of hO (by cbv <;> rfl) (by trivial) | (cbv <;> rfl)) ?_))
    refine AnyE.run tok hO (by rfl) (by cbv <;> rfl) (by trivial) ?_
    refine AnyE.many [2, 5] (by cbv <;> rfl) (by rfl) ⟨?_, ?_, trivial⟩
    · refine PickE.eff tok hO (by cbv <;> rfl) (by cbv <;> rfl) (by trivial) ?_ ?_
      · exact (by repeat (first | exact trivial | refine And.intro (by first | exact lv_of hO (by cbv <;> rfl) (by trivial) | (cbv <;> rfl)) ?_))
      refine AnyE.run tok hO (by rfl) (by cbv <;> rfl) (by trivial) ?_
      refine AnyE.callP h5 (by cbv <;> rfl) (by cbv <;> rfl) ?_
      refine AnyE.run tok hO (by rfl) (by cbv <;> rfl) (by trivial) ?_
      refine AnyE.effK tok hO (by cbv <;> rfl) (by cbv <;> rfl) (by trivial) ?_ ?_
      · exact (by repeat (first | exact trivial | refine And.intro (by first | exact lv_of hO (by cbv <;> rfl) (by trivial) | (cbv <;> rfl)) ?_))
      refine AnyE.run tok hO (by rfl) (by cbv <;> rfl) (by trivial) ?_
      refine AnyE.effK tok hO (by cbv <;> rfl) (by cbv <;> rfl) (by trivial) ?_ ?_
      · exact (by repeat (first | exact trivial | refine And.intro (by first | exact lv_of hO (by cbv <;> rfl) (by trivial) | (cbv <;> rfl)) ?_))
      refine AnyE.run tok hO (by rfl) (by cbv <;> rfl) (by trivial) ?_
      refine SW.ret ⟨_, _, rfl, rfl, ?_⟩
      exact Eqv.agg (.cons (Eqv.of rfl) (.cons (Eqv.of rfl) (.cons (by (first | refine Eqv.isl rfl fun i j hi hj => ?_ | refine Eqv.trans Eqv.islX (Eqv.isl rfl fun i j hi hj => ?_)) <;> (obtain rfl | rfl : i = 0 ∨ i = 1 := by omega) <;> (obtain rfl | rfl | rfl | rfl : j = 0 ∨ j = 1 ∨ j = 2 ∨ j = 3 := by omega) <;> first | exact Eqv.of rfl | omega) (.cons (by (first | refine Eqv.isl rfl fun i j hi hj => ?_ | refine Eqv.trans Eqv.islX (Eqv.isl rfl fun i j hi hj => ?_)) <;> (obtain rfl | rfl : i = 0 ∨ i = 1 := by omega) <;> (obtain rfl | rfl | rfl | rfl : j = 0 ∨ j = 1 ∨ j = 2 ∨ j = 3 := by omega) <;> first | exact Eqv.of rfl | omega) (.cons (by (first | refine Eqv.isl rfl fun i j hi hj => ?_ | refine Eqv.trans Eqv.islX (Eqv.isl rfl fun i j hi hj => ?_)) <;> (obtain rfl | rfl : i = 0 ∨ i = 1 := by omega) <;> (obtain rfl | rfl | rfl | rfl : j = 0 ∨ j = 1 ∨ j = 2 ∨ j = 3 := by omega) <;> first | exact Eqv.of rfl | omega) .nil)))))
    · refine PickE.callQ h5 (by cbv <;> rfl) (by cbv <;> rfl) ?_ ?_
      · exact (by repeat (first | exact trivial | refine And.intro (by first | exact lv_of hO (by cbv <;> rfl) (by trivial) | (cbv <;> rfl)) ?_))
      refine AnyE.run tok hO (by rfl) (by cbv <;> rfl) (by trivial) ?_
      refine AnyE.many [2, 7] (by cbv <;> rfl) (by rfl) ⟨?_, ?_, trivial⟩
      · refine PickE.eff tok hO (by cbv <;> rfl) (by cbv <;> rfl) (by trivial) ?_ ?_
        · exact (by repeat (first | exact trivial | refine And.intro (by first | exact lv_of hO (by cbv <;> rfl) (by trivial) | (cbv <;> rfl)) ?_))
        refine AnyE.run tok hO (by rfl) (by cbv <;> rfl) (by trivial) ?_
        refine AnyE.effK tok hO (by cbv <;> rfl) (by cbv <;> rfl) (by trivial) ?_ ?_
        · exact (by repeat (first | exact trivial | refine And.intro (by first | exact lv_of hO (by cbv <;> rfl) (by trivial) | (cbv <;> rfl)) ?_))
        refine AnyE.run tok hO (by rfl) (by cbv <;> rfl) (by trivial) ?_
        refine AnyE.effK tok hO (by cbv <;> rfl) (by cbv <;> rfl) (by trivial) ?_ ?_
        · exact (by repeat (first | exact trivial | refine And.intro (by first | exact lv_of hO (by cbv <;> rfl) (by trivial) | (cbv <;> rfl)) ?_))
        refine AnyE.run tok hO (by rfl) (by cbv <;> rfl) (by trivial) ?_
        refine SW.ret ⟨_, _, rfl, rfl, ?_⟩
        exact Eqv.agg (.cons (Eqv.of rfl) (.cons (Eqv.of rfl) (.cons (by (first | refine Eqv.isl rfl fun i j hi hj => ?_ | refine Eqv.trans Eqv.islX (Eqv.isl rfl fun i j hi hj => ?_)) <;> (obtain rfl | rfl : i = 0 ∨ i = 1 := by omega) <;> (obtain rfl | rfl | rfl | rfl : j = 0 ∨ j = 1 ∨ j = 2 ∨ j = 3 := by omega) <;> first | exact Eqv.of rfl | omega) (.cons (by (first | refine Eqv.isl rfl fun i j hi hj => ?_ | refine Eqv.trans Eqv.islX (Eqv.isl rfl fun i j hi hj => ?_)) <;> (obtain rfl | rfl : i = 0 ∨ i = 1 := by omega) <;> (obtain rfl | rfl | rfl | rfl : j = 0 ∨ j = 1 ∨ j = 2 ∨ j = 3 := by omega) <;> first | exact Eqv.of rfl | omega) (.cons (by (first | refine Eqv.isl rfl fun i j hi hj => ?_ | refine Eqv.trans Eqv.islX (Eqv.isl rfl fun i j hi hj => ?_)) <;> (obtain rfl | rfl : i = 0 ∨ i = 1 := by omega) <;> (obtain rfl | rfl | rfl | rfl : j = 0 ∨ j = 1 ∨ j = 2 ∨ j = 3 := by omega) <;> first | exact Eqv.of rfl | omega) .nil)))))
      · refine PickE.eff tok hO (by cbv <;> rfl) (by cbv <;> rfl) (by trivial) ?_ ?_
        · exact (by repeat (first | exact trivial | refine And.intro (by first | exact lv_of hO (by cbv <;> rfl) (by trivial) | (cbv <;> rfl)) ?_))
        refine AnyE.run tok hO (by rfl) (by cbv <;> rfl) (by trivial) ?_
        refine AnyE.effK tok hO (by cbv <;> rfl) (by cbv <;> rfl) (by trivial) ?_ ?_
        · exact (by repeat (first | exact trivial | refine And.intro (by first | exact lv_of hO (by cbv <;> rfl) (by trivial) | (cbv <;> rfl)) ?_))
        refine AnyE.run tok hO (by rfl) (by cbv <;> rfl) (by trivial) ?_
        refine AnyE.effK tok hO (by cbv <;> rfl) (by cbv <;> rfl) (by trivial) ?_ ?_
        · exact (by repeat (first | exact trivial | refine And.intro (by first | exact lv_of hO (by cbv <;> rfl) (by trivial) | (cbv <;> rfl)) ?_))
        refine AnyE.run tok hO (by rfl) (by cbv <;> rfl) (by trivial) ?_
        refine SW.ret ⟨_, _, rfl, rfl, ?_⟩
        exact Eqv.agg (.cons (Eqv.of rfl) (.cons (Eqv.of rfl) (.cons (by (first | refine Eqv.isl rfl fun i j hi hj => ?_ | refine Eqv.trans Eqv.islX (Eqv.isl rfl fun i j hi hj => ?_)) <;> (obtain rfl | rfl : i = 0 ∨ i = 1 := by omega) <;> (obtain rfl | rfl | rfl | rfl : j = 0 ∨ j = 1 ∨ j = 2 ∨ j = 3 := by omega) <;> first | exact Eqv.of rfl | omega) (.cons (by (first | refine Eqv.isl rfl fun i j hi hj => ?_ | refine Eqv.trans Eqv.islX (Eqv.isl rfl fun i j hi hj => ?_)) <;> (obtain rfl | rfl : i = 0 ∨ i = 1 := by omega) <;> (obtain rfl | rfl | rfl | rfl : j = 0 ∨ j = 1 ∨ j = 2 ∨ j = 3 := by omega) <;> first | exact Eqv.of rfl | omega) (.cons (by (first | refine Eqv.isl rfl fun i j hi hj => ?_ | refine Eqv.trans Eqv.islX (Eqv.isl rfl fun i j hi hj => ?_)) <;> (obtain rfl | rfl : i = 0 ∨ i = 1 := by omega) <;> (obtain rfl | rfl | rfl | rfl : j = 0 ∨ j = 1 ∨ j = 2 ∨ j = 3 := by omega) <;> first | exact Eqv.of rfl | omega) .nil)))))
set_option maxHeartbeats 16000000 in
theorem two_ok1 : Pure Try.prog 35 [iV 1] (dayV (twoD 1)) := by
  obtain ⟨O, hO⟩ : ∃ O : Ar, O = std := ⟨_, rfl⟩
  have ha := between_ok 2 2
  have hb := between_ok 5 9
  have h0 := between_ok 20 22
  have h1 := between_ok 25 25
  have h3 := between_ok 500 502
  have h5 := between_ok 610 610
  refine pure_of_body tok 4 Try.func35 en35 rfl ⟨Below.lit, trivial⟩ (dayV_below _) ?_
  refine SW.seqRun tok hO (by cbv <;> rfl) (by trivial) ?_
  refine SW.seqRun tok hO (by cbv <;> rfl) (by trivial) ?_
  refine OpsW.callP ha (by cbv <;> rfl) ?_
  refine OpsW.run tok hO (by cbv <;> rfl) (by trivial) ?_
  refine OpsW.callP hb (by cbv <;> rfl) ?_
  refine OpsW.run tok hO (by cbv <;> rfl) (by trivial) ?_
  refine SW.seqRunD tok mixed hO (by kernel_rfl) (by cbv <;> rfl) (by trivial) ?_
  refine AnyE.take (r := .sl 1 0 1 4 (Nat.beq 1 2)) (by kernel_rfl) tok 10 rfl (by cbv <;> rfl) (by cbv <;> rfl) ?_
  refine AnyE.run tok hO (by rfl) (by cbv <;> rfl) (by trivial) ?_
  refine AnyE.callP h0 (by cbv <;> rfl) (by cbv <;> rfl) ?_
  refine AnyE.run tok hO (by rfl) (by cbv <;> rfl) (by trivial) ?_
  refine AnyE.callP h1 (by cbv <;> rfl) (by cbv <;> rfl) ?_
  refine AnyE.run tok hO (by rfl) (by cbv <;> rfl) (by trivial) ?_
  refine AnyE.many [2, 3] (by cbv <;> rfl) (by rfl) ⟨?_, ?_, trivial⟩
  · refine PickE.eff tok hO (by cbv <;> rfl) (by cbv <;> rfl) (by trivial) ?_ ?_
    · exact (by repeat (first | exact trivial | refine And.intro (by first | exact lv_of hO (by cbv <;> rfl) (by trivial) | (cbv <;> rfl)) ?_))
    refine AnyE.run tok hO (by rfl) (by cbv <;> rfl) (by trivial) ?_
    refine AnyE.callP h3 (by cbv <;> rfl) (by cbv <;> rfl) ?_
    refine AnyE.run tok hO (by rfl) (by cbv <;> rfl) (by trivial) ?_
    refine AnyE.callP h5 (by cbv <;> rfl) (by cbv <;> rfl) ?_
    refine AnyE.run tok hO (by rfl) (by cbv <;> rfl) (by trivial) ?_
    refine AnyE.effK tok hO (by cbv <;> rfl) (by cbv <;> rfl) (by trivial) ?_ ?_
    · exact (by repeat (first | exact trivial | refine And.intro (by first | exact lv_of hO (by cbv <;> rfl) (by trivial) | (cbv <;> rfl)) ?_))
    refine AnyE.run tok hO (by rfl) (by cbv <;> rfl) (by trivial) ?_
    refine AnyE.effK tok hO (by cbv <;> rfl) (by cbv <;> rfl) (by trivial) ?_ ?_
    · exact (by repeat (first | exact trivial | refine And.intro (by first | exact lv_of hO (by cbv <;> rfl) (by trivial) | (cbv <;> rfl)) ?_))
    refine AnyE.run tok hO (by rfl) (by cbv <;> rfl) (by trivial) ?_
    refine SW.ret ⟨_, _, rfl, rfl, ?_⟩
    exact Eqv.agg (.cons (Eqv.of rfl) (.cons (Eqv.of rfl) (.cons (by (first | refine Eqv.isl rfl fun i j hi hj => ?_ | refine Eqv.trans Eqv.islX (Eqv.isl rfl fun i j hi hj => ?_)) <;> (obtain rfl | rfl : i = 0 ∨ i = 1 := by omega) <;> (obtain rfl | rfl | rfl | rfl : j = 0 ∨ j = 1 ∨ j = 2 ∨ j = 3 := by omega) <;> first | exact Eqv.of rfl | omega) (.cons (by (first | refine Eqv.isl rfl fun i j hi hj => ?_ | refine Eqv.trans Eqv.islX (Eqv.isl rfl fun i j hi hj => ?_)) <;> (obtain rfl | rfl : i = 0 ∨ i = 1 := by omega) <;> (obtain rfl | rfl | rfl | rfl : j = 0 ∨ j = 1 ∨ j = 2 ∨ j = 3 := by omega) <;> first | exact Eqv.of rfl | omega) (.cons (by (first | refine Eqv.isl rfl fun i j hi hj => ?_ | refine Eqv.trans Eqv.islX (Eqv.isl rfl fun i j hi hj => ?_)) <;> (obtain rfl | rfl : i = 0 ∨ i = 1 := by omega) <;> (obtain rfl | rfl | rfl | rfl : j = 0 ∨ j = 1 ∨ j = 2 ∨ j = 3 := by omega) <;> first | exact Eqv.of rfl | omega) .nil)))))
  · refine PickE.callQ h3 (by cbv <;> rfl) (by cbv <;> rfl) ?_ ?_
    · exact (by repeat (first | exact trivial | refine And.intro (by first | exact lv_of hO (by cbv <;> rfl) (by trivial) | (cbv <;> rfl)) ?_))
    refine AnyE.run tok hO (by rfl) (by cbv <;> rfl) (by trivial) ?_
    refine AnyE.many [2, 5] (by cbv <;> rfl) (by rfl) ⟨?_, ?_, trivial⟩
    · refine PickE.eff tok hO (by cbv <;> rfl) (by cbv <;> rfl) (by trivial) ?_ ?_
      · exact (by repeat (first | exact trivial | refine And.intro (by first | exact lv_of hO (by cbv <;> rfl) (by trivial) | (cbv <;> rfl)) ?_))
      refine AnyE.run tok hO (by rfl) (by cbv <;> rfl) (by trivial) ?_
      refine AnyE.callP h5 (by cbv <;> rfl) (by cbv <;> rfl) ?_
      refine AnyE.run tok hO (by rfl) (by cbv <;> rfl) (by trivial) ?_
      refine AnyE.effK tok hO (by cbv <;> rfl) (by cbv <;> rfl) (by trivial) ?_ ?_
      · exact (by repeat (first | exact trivial | refine And.intro (by first | exact lv_of hO (by cbv <;> rfl) (by trivial) | (cbv <;> rfl)) ?_))
      refine AnyE.run tok hO (by rfl) (by cbv <;> rfl) (by trivial) ?_
      refine AnyE.effK tok hO (by cbv <;> rfl) (by cbv <;> rfl) (by trivial) ?_ ?_
      · exact (by repeat (first | exact trivial | refine And.intro (by first | exact lv_of hO (by cbv <;> rfl) (by trivial) | (cbv <;> rfl)) ?_))
      refine AnyE.run tok hO (by rfl) (by cbv <;> rfl) (by trivial) ?_
      refine SW.ret ⟨_, _, rfl, rfl, ?_⟩
      exact Eqv.agg (.cons (Eqv.of rfl) (.cons (Eqv.of rfl) (.cons (by (first | refine Eqv.isl rfl fun i j hi hj => ?_ | refine Eqv.trans Eqv.islX (Eqv.isl rfl fun i j hi hj => ?_)) <;> (obtain rfl | rfl : i = 0 ∨ i = 1 := by omega) <;> (obtain rfl | rfl | rfl | rfl : j = 0 ∨ j = 1 ∨ j = 2 ∨ j = 3 := by omega) <;> first | exact Eqv.of rfl | omega) (.cons (by (first | refine Eqv.isl rfl fun i j hi hj => ?_ | refine Eqv.trans Eqv.islX (Eqv.isl rfl fun i j hi hj => ?_)) <;> (obtain rfl | rfl : i = 0 ∨ i = 1 := by omega) <;> (obtain rfl | rfl | rfl | rfl : j = 0 ∨ j = 1 ∨ j = 2 ∨ j = 3 := by omega) <;> first | exact Eqv.of rfl | omega) (.cons (by (first | refine Eqv.isl rfl fun i j hi hj => ?_ | refine Eqv.trans Eqv.islX (Eqv.isl rfl fun i j hi hj => ?_)) <;> (obtain rfl | rfl : i = 0 ∨ i = 1 := by omega) <;> (obtain rfl | rfl | rfl | rfl : j = 0 ∨ j = 1 ∨ j = 2 ∨ j = 3 := by omega) <;> first | exact Eqv.of rfl | omega) .nil)))))
    · refine PickE.callQ h5 (by cbv <;> rfl) (by cbv <;> rfl) ?_ ?_
      · exact (by repeat (first | exact trivial | refine And.intro (by first | exact lv_of hO (by cbv <;> rfl) (by trivial) | (cbv <;> rfl)) ?_))
      refine AnyE.run tok hO (by rfl) (by cbv <;> rfl) (by trivial) ?_
      refine AnyE.many [2, 7] (by cbv <;> rfl) (by rfl) ⟨?_, ?_, trivial⟩
      · refine PickE.eff tok hO (by cbv <;> rfl) (by cbv <;> rfl) (by trivial) ?_ ?_
        · exact (by repeat (first | exact trivial | refine And.intro (by first | exact lv_of hO (by cbv <;> rfl) (by trivial) | (cbv <;> rfl)) ?_))
        refine AnyE.run tok hO (by rfl) (by cbv <;> rfl) (by trivial) ?_
        refine AnyE.effK tok hO (by cbv <;> rfl) (by cbv <;> rfl) (by trivial) ?_ ?_
        · exact (by repeat (first | exact trivial | refine And.intro (by first | exact lv_of hO (by cbv <;> rfl) (by trivial) | (cbv <;> rfl)) ?_))
        refine AnyE.run tok hO (by rfl) (by cbv <;> rfl) (by trivial) ?_
        refine AnyE.effK tok hO (by cbv <;> rfl) (by cbv <;> rfl) (by trivial) ?_ ?_
        · exact (by repeat (first | exact trivial | refine And.intro (by first | exact lv_of hO (by cbv <;> rfl) (by trivial) | (cbv <;> rfl)) ?_))
        refine AnyE.run tok hO (by rfl) (by cbv <;> rfl) (by trivial) ?_
        refine SW.ret ⟨_, _, rfl, rfl, ?_⟩
        exact Eqv.agg (.cons (Eqv.of rfl) (.cons (Eqv.of rfl) (.cons (by (first | refine Eqv.isl rfl fun i j hi hj => ?_ | refine Eqv.trans Eqv.islX (Eqv.isl rfl fun i j hi hj => ?_)) <;> (obtain rfl | rfl : i = 0 ∨ i = 1 := by omega) <;> (obtain rfl | rfl | rfl | rfl : j = 0 ∨ j = 1 ∨ j = 2 ∨ j = 3 := by omega) <;> first | exact Eqv.of rfl | omega) (.cons (by (first | refine Eqv.isl rfl fun i j hi hj => ?_ | refine Eqv.trans Eqv.islX (Eqv.isl rfl fun i j hi hj => ?_)) <;> (obtain rfl | rfl : i = 0 ∨ i = 1 := by omega) <;> (obtain rfl | rfl | rfl | rfl : j = 0 ∨ j = 1 ∨ j = 2 ∨ j = 3 := by omega) <;> first | exact Eqv.of rfl | omega) (.cons (by (first | refine Eqv.isl rfl fun i j hi hj => ?_ | refine Eqv.trans Eqv.islX (Eqv.isl rfl fun i j hi hj => ?_)) <;> (obtain rfl | rfl : i = 0 ∨ i = 1 := by omega) <;> (obtain rfl | rfl | rfl | rfl : j = 0 ∨ j = 1 ∨ j = 2 ∨ j = 3 := by omega) <;> first | exact Eqv.of rfl | omega) .nil)))))
      · refine PickE.eff tok hO (by cbv <;> rfl) (by cbv <;> rfl) (by trivial) ?_ ?_
        · exact (by repeat (first | exact trivial | refine And.intro (by first | exact lv_of hO (by cbv <;> rfl) (by trivial) | (cbv <;> rfl)) ?_))
        refine AnyE.run tok hO (by rfl) (by cbv <;> rfl) (by trivial) ?_
        refine AnyE.effK tok hO (by cbv <;> rfl) (by cbv <;> rfl) (by trivial) ?_ ?_
        · exact (by repeat (first | exact trivial | refine And.intro (by first | exact lv_of hO (by cbv <;> rfl) (by trivial) | (cbv <;> rfl)) ?_))
        refine AnyE.run tok hO (by rfl) (by cbv <;> rfl) (by trivial) ?_
        refine AnyE.effK tok hO (by cbv <;> rfl) (by cbv <;> rfl) (by trivial) ?_ ?_
        · exact (by repeat (first | exact trivial | refine And.intro (by first | exact lv_of hO (by cbv <;> rfl) (by trivial) | (cbv <;> rfl)) ?_))
        refine AnyE.run tok hO (by rfl) (by cbv <;> rfl) (by trivial) ?_
        refine SW.ret ⟨_, _, rfl, rfl, ?_⟩
        exact Eqv.agg (.cons (Eqv.of rfl) (.cons (Eqv.of rfl) (.cons (by (first | refine Eqv.isl rfl fun i j hi hj => ?_ | refine Eqv.trans Eqv.islX (Eqv.isl rfl fun i j hi hj => ?_)) <;> (obtain rfl | rfl : i = 0 ∨ i = 1 := by omega) <;> (obtain rfl | rfl | rfl | rfl : j = 0 ∨ j = 1 ∨ j = 2 ∨ j = 3 := by omega) <;> first | exact Eqv.of rfl | omega) (.cons (by (first | refine Eqv.isl rfl fun i j hi hj => ?_ | refine Eqv.trans Eqv.islX (Eqv.isl rfl fun i j hi hj => ?_)) <;> (obtain rfl | rfl : i = 0 ∨ i = 1 := by omega) <;> (obtain rfl | rfl | rfl | rfl : j = 0 ∨ j = 1 ∨ j = 2 ∨ j = 3 := by omega) <;> first | exact Eqv.of rfl | omega) (.cons (by (first | refine Eqv.isl rfl fun i j hi hj => ?_ | refine Eqv.trans Eqv.islX (Eqv.isl rfl fun i j hi hj => ?_)) <;> (obtain rfl | rfl : i = 0 ∨ i = 1 := by omega) <;> (obtain rfl | rfl | rfl | rfl : j = 0 ∨ j = 1 ∨ j = 2 ∨ j = 3 := by omega) <;> first | exact Eqv.of rfl | omega) .nil)))))
set_option maxHeartbeats 16000000 in
theorem two_ok2 : Pure Try.prog 35 [iV 2] (dayV (twoD 2)) := by
  obtain ⟨O, hO⟩ : ∃ O : Ar, O = std := ⟨_, rfl⟩
  have ha := between_ok 2 2
  have hb := between_ok 5 9
  have h0 := between_ok 20 22
  have h1 := between_ok 25 25
  have h3 := between_ok 500 502
  have h5 := between_ok 610 610
  refine pure_of_body tok 4 Try.func35 en35 rfl ⟨Below.lit, trivial⟩ (dayV_below _) ?_
  refine SW.seqRun tok hO (by cbv <;> rfl) (by trivial) ?_
  refine SW.seqRun tok hO (by cbv <;> rfl) (by trivial) ?_
  refine OpsW.callP ha (by cbv <;> rfl) ?_
  refine OpsW.run tok hO (by cbv <;> rfl) (by trivial) ?_
  refine OpsW.callP hb (by cbv <;> rfl) ?_
  refine OpsW.run tok hO (by cbv <;> rfl) (by trivial) ?_
  refine SW.seqRunD tok mixed hO (by kernel_rfl) (by cbv <;> rfl) (by trivial) ?_
  refine AnyE.take (r := .sl 1 0 2 4 (Nat.beq 2 2)) (by kernel_rfl) tok 10 rfl (by cbv <;> rfl) (by cbv <;> rfl) ?_
  refine AnyE.run tok hO (by rfl) (by cbv <;> rfl) (by trivial) ?_
  refine AnyE.callP h0 (by cbv <;> rfl) (by cbv <;> rfl) ?_
  refine AnyE.run tok hO (by rfl) (by cbv <;> rfl) (by trivial) ?_
  refine AnyE.callP h1 (by cbv <;> rfl) (by cbv <;> rfl) ?_
  refine AnyE.run tok hO (by rfl) (by cbv <;> rfl) (by trivial) ?_
  refine AnyE.many [2, 3] (by cbv <;> rfl) (by rfl) ⟨?_, ?_, trivial⟩
  · refine PickE.eff tok hO (by cbv <;> rfl) (by cbv <;> rfl) (by trivial) ?_ ?_
    · exact (by repeat (first | exact trivial | refine And.intro (by first | exact lv_of hO (by cbv <;> rfl) (by trivial) | (cbv <;> rfl)) ?_))
    refine AnyE.run tok hO (by rfl) (by cbv <;> rfl) (by trivial) ?_
    refine AnyE.callP h3 (by cbv <;> rfl) (by cbv <;> rfl) ?_
    refine AnyE.run tok hO (by rfl) (by cbv <;> rfl) (by trivial) ?_
    refine AnyE.callP h5 (by cbv <;> rfl) (by cbv <;> rfl) ?_
    refine AnyE.run tok hO (by rfl) (by cbv <;> rfl) (by trivial) ?_
    refine AnyE.effK tok hO (by cbv <;> rfl) (by cbv <;> rfl) (by trivial) ?_ ?_
    · exact (by repeat (first | exact trivial | refine And.intro (by first | exact lv_of hO (by cbv <;> rfl) (by trivial) | (cbv <;> rfl)) ?_))
    refine AnyE.run tok hO (by rfl) (by cbv <;> rfl) (by trivial) ?_
    refine AnyE.effK tok hO (by cbv <;> rfl) (by cbv <;> rfl) (by trivial) ?_ ?_
    · exact (by repeat (first | exact trivial | refine And.intro (by first | exact lv_of hO (by cbv <;> rfl) (by trivial) | (cbv <;> rfl)) ?_))
    refine AnyE.run tok hO (by rfl) (by cbv <;> rfl) (by trivial) ?_
    refine SW.ret ⟨_, _, rfl, rfl, ?_⟩
    exact Eqv.agg (.cons (Eqv.of rfl) (.cons (Eqv.of rfl) (.cons (by (first | refine Eqv.isl rfl fun i j hi hj => ?_ | refine Eqv.trans Eqv.islX (Eqv.isl rfl fun i j hi hj => ?_)) <;> (obtain rfl | rfl : i = 0 ∨ i = 1 := by omega) <;> (obtain rfl | rfl | rfl | rfl : j = 0 ∨ j = 1 ∨ j = 2 ∨ j = 3 := by omega) <;> first | exact Eqv.of rfl | omega) (.cons (by (first | refine Eqv.isl rfl fun i j hi hj => ?_ | refine Eqv.trans Eqv.islX (Eqv.isl rfl fun i j hi hj => ?_)) <;> (obtain rfl | rfl : i = 0 ∨ i = 1 := by omega) <;> (obtain rfl | rfl | rfl | rfl : j = 0 ∨ j = 1 ∨ j = 2 ∨ j = 3 := by omega) <;> first | exact Eqv.of rfl | omega) (.cons (by (first | refine Eqv.isl rfl fun i j hi hj => ?_ | refine Eqv.trans Eqv.islX (Eqv.isl rfl fun i j hi hj => ?_)) <;> (obtain rfl | rfl : i = 0 ∨ i = 1 := by omega) <;> (obtain rfl | rfl | rfl | rfl : j = 0 ∨ j = 1 ∨ j = 2 ∨ j = 3 := by omega) <;> first | exact Eqv.of rfl | omega) .nil)))))
  · refine PickE.callQ h3 (by cbv <;> rfl) (by cbv <;> rfl) ?_ ?_
    · exact (by repeat (first | exact trivial | refine And.intro (by first | exact lv_of hO (by cbv <;> rfl) (by trivial) | (cbv <;> rfl)) ?_))
    refine AnyE.run tok hO (by rfl) (by cbv <;> rfl) (by trivial) ?_
    refine AnyE.many [2, 5] (by cbv <;> rfl) (by rfl) ⟨?_, ?_, trivial⟩
    · refine PickE.eff tok hO (by cbv <;> rfl) (by cbv <;> rfl) (by trivial) ?_ ?_
      · exact (by repeat (first | exact trivial | refine And.intro (by first | exact lv_of hO (by cbv <;> rfl) (by trivial) | (cbv <;> rfl)) ?_))
      refine AnyE.run tok hO (by rfl) (by cbv <;> rfl) (by trivial) ?_
      refine AnyE.callP h5 (by cbv <;> rfl) (by cbv <;> rfl) ?_
      refine AnyE.run tok hO (by rfl) (by cbv <;> rfl) (by trivial) ?_
      refine AnyE.effK tok hO (by cbv <;> rfl) (by cbv <;> rfl) (by trivial) ?_ ?_
      · exact (by repeat (first | exact trivial | refine And.intro (by first | exact lv_of hO (by cbv <;> rfl) (by trivial) | (cbv <;> rfl)) ?_))
      refine AnyE.run tok hO (by rfl) (by cbv <;> rfl) (by trivial) ?_
      refine AnyE.effK tok hO (by cbv <;> rfl) (by cbv <;> rfl) (by trivial) ?_ ?_
      · exact (by repeat (first | exact trivial | refine And.intro (by first | exact lv_of hO (by cbv <;> rfl) (by trivial) | (cbv <;> rfl)) ?_))
      refine AnyE.run tok hO (by rfl) (by cbv <;> rfl) (by trivial) ?_
      refine SW.ret ⟨_, _, rfl, rfl, ?_⟩
      exact Eqv.agg (.cons (Eqv.of rfl) (.cons (Eqv.of rfl) (.cons (by (first | refine Eqv.isl rfl fun i j hi hj => ?_ | refine Eqv.trans Eqv.islX (Eqv.isl rfl fun i j hi hj => ?_)) <;> (obtain rfl | rfl : i = 0 ∨ i = 1 := by omega) <;> (obtain rfl | rfl | rfl | rfl : j = 0 ∨ j = 1 ∨ j = 2 ∨ j = 3 := by omega) <;> first | exact Eqv.of rfl | omega) (.cons (by (first | refine Eqv.isl rfl fun i j hi hj => ?_ | refine Eqv.trans Eqv.islX (Eqv.isl rfl fun i j hi hj => ?_)) <;> (obtain rfl | rfl : i = 0 ∨ i = 1 := by omega) <;> (obtain rfl | rfl | rfl | rfl : j = 0 ∨ j = 1 ∨ j = 2 ∨ j = 3 := by omega) <;> first | exact Eqv.of rfl | omega) (.cons (by (first | refine Eqv.isl rfl fun i j hi hj => ?_ | refine Eqv.trans Eqv.islX (Eqv.isl rfl fun i j hi hj => ?_)) <;> (obtain rfl | rfl : i = 0 ∨ i = 1 := by omega) <;> (obtain rfl | rfl | rfl | rfl : j = 0 ∨ j = 1 ∨ j = 2 ∨ j = 3 := by omega) <;> first | exact Eqv.of rfl | omega) .nil)))))
    · refine PickE.callQ h5 (by cbv <;> rfl) (by cbv <;> rfl) ?_ ?_
      · exact (by repeat (first | exact trivial | refine And.intro (by first | exact lv_of hO (by cbv <;> rfl) (by trivial) | (cbv <;> rfl)) ?_))
      refine AnyE.run tok hO (by rfl) (by cbv <;> rfl) (by trivial) ?_
      refine AnyE.many [2, 7] (by cbv <;> rfl) (by rfl) ⟨?_, ?_, trivial⟩
      · refine PickE.eff tok hO (by cbv <;> rfl) (by cbv <;> rfl) (by trivial) ?_ ?_
        · exact (by repeat (first | exact trivial | refine And.intro (by first | exact lv_of hO (by cbv <;> rfl) (by trivial) | (cbv <;> rfl)) ?_))
        refine AnyE.run tok hO (by rfl) (by cbv <;> rfl) (by trivial) ?_
        refine AnyE.effK tok hO (by cbv <;> rfl) (by cbv <;> rfl) (by trivial) ?_ ?_
        · exact (by repeat (first | exact trivial | refine And.intro (by first | exact lv_of hO (by cbv <;> rfl) (by trivial) | (cbv <;> rfl)) ?_))
        refine AnyE.run tok hO (by rfl) (by cbv <;> rfl) (by trivial) ?_
        refine AnyE.effK tok hO (by cbv <;> rfl) (by cbv <;> rfl) (by trivial) ?_ ?_
        · exact (by repeat (first | exact trivial | refine And.intro (by first | exact lv_of hO (by cbv <;> rfl) (by trivial) | (cbv <;> rfl)) ?_))
        refine AnyE.run tok hO (by rfl) (by cbv <;> rfl) (by trivial) ?_
        refine SW.ret ⟨_, _, rfl, rfl, ?_⟩
        exact Eqv.agg (.cons (Eqv.of rfl) (.cons (Eqv.of rfl) (.cons (by (first | refine Eqv.isl rfl fun i j hi hj => ?_ | refine Eqv.trans Eqv.islX (Eqv.isl rfl fun i j hi hj => ?_)) <;> (obtain rfl | rfl : i = 0 ∨ i = 1 := by omega) <;> (obtain rfl | rfl | rfl | rfl : j = 0 ∨ j = 1 ∨ j = 2 ∨ j = 3 := by omega) <;> first | exact Eqv.of rfl | omega) (.cons (by (first | refine Eqv.isl rfl fun i j hi hj => ?_ | refine Eqv.trans Eqv.islX (Eqv.isl rfl fun i j hi hj => ?_)) <;> (obtain rfl | rfl : i = 0 ∨ i = 1 := by omega) <;> (obtain rfl | rfl | rfl | rfl : j = 0 ∨ j = 1 ∨ j = 2 ∨ j = 3 := by omega) <;> first | exact Eqv.of rfl | omega) (.cons (by (first | refine Eqv.isl rfl fun i j hi hj => ?_ | refine Eqv.trans Eqv.islX (Eqv.isl rfl fun i j hi hj => ?_)) <;> (obtain rfl | rfl : i = 0 ∨ i = 1 := by omega) <;> (obtain rfl | rfl | rfl | rfl : j = 0 ∨ j = 1 ∨ j = 2 ∨ j = 3 := by omega) <;> first | exact Eqv.of rfl | omega) .nil)))))
      · refine PickE.eff tok hO (by cbv <;> rfl) (by cbv <;> rfl) (by trivial) ?_ ?_
        · exact (by repeat (first | exact trivial | refine And.intro (by first | exact lv_of hO (by cbv <;> rfl) (by trivial) | (cbv <;> rfl)) ?_))
        refine AnyE.run tok hO (by rfl) (by cbv <;> rfl) (by trivial) ?_
        refine AnyE.effK tok hO (by cbv <;> rfl) (by cbv <;> rfl) (by trivial) ?_ ?_
        · exact (by repeat (first | exact trivial | refine And.intro (by first | exact lv_of hO (by cbv <;> rfl) (by trivial) | (cbv <;> rfl)) ?_))
        refine AnyE.run tok hO (by rfl) (by cbv <;> rfl) (by trivial) ?_
        refine AnyE.effK tok hO (by cbv <;> rfl) (by cbv <;> rfl) (by trivial) ?_ ?_
        · exact (by repeat (first | exact trivial | refine And.intro (by first | exact lv_of hO (by cbv <;> rfl) (by trivial) | (cbv <;> rfl)) ?_))
        refine AnyE.run tok hO (by rfl) (by cbv <;> rfl) (by trivial) ?_
        refine SW.ret ⟨_, _, rfl, rfl, ?_⟩
        exact Eqv.agg (.cons (Eqv.of rfl) (.cons (Eqv.of rfl) (.cons (by (first | refine Eqv.isl rfl fun i j hi hj => ?_ | refine Eqv.trans Eqv.islX (Eqv.isl rfl fun i j hi hj => ?_)) <;> (obtain rfl | rfl : i = 0 ∨ i = 1 := by omega) <;> (obtain rfl | rfl | rfl | rfl : j = 0 ∨ j = 1 ∨ j = 2 ∨ j = 3 := by omega) <;> first | exact Eqv.of rfl | omega) (.cons (by (first | refine Eqv.isl rfl fun i j hi hj => ?_ | refine Eqv.trans Eqv.islX (Eqv.isl rfl fun i j hi hj => ?_)) <;> (obtain rfl | rfl : i = 0 ∨ i = 1 := by omega) <;> (obtain rfl | rfl | rfl | rfl : j = 0 ∨ j = 1 ∨ j = 2 ∨ j = 3 := by omega) <;> first | exact Eqv.of rfl | omega) (.cons (by (first | refine Eqv.isl rfl fun i j hi hj => ?_ | refine Eqv.trans Eqv.islX (Eqv.isl rfl fun i j hi hj => ?_)) <;> (obtain rfl | rfl : i = 0 ∨ i = 1 := by omega) <;> (obtain rfl | rfl | rfl | rfl : j = 0 ∨ j = 1 ∨ j = 2 ∨ j = 3 := by omega) <;> first | exact Eqv.of rfl | omega) .nil)))))
end Go.Fz
namespace Go.Fz
open Go.Proofs
set_option maxRecDepth 100000
set_option linter.unusedVariables false
section
variable {P : Program} {T : Ti}
end
end Go.Fz
namespace Go.Fz
open Go.Proofs
set_option maxRecDepth 100000
set_option linter.unusedVariables false
section
variable {P : Program} {T : Ti}
def stAt (O : Ar) (T : Ti) (ops : Array Oper) (h : Hp) (f : Fm) (i : Nat) : Option (List Cond × AV) := match ops[i]? with
  | some o => match wantA ops f.ts o with
    | some true => stE O T h (Operand.av f.ts) o
    | some false => some ([], undA)
    | none => none
  | none => none
theorem stAt_light {O : Ar} (hO : O = std) {ops : Array Oper} {h : Hp} {f : Fm} {i : Nat} {cs : List Cond} {r : AV} (hs : stAt O T ops h f i = some (cs, r)) (hc : allC cs) : lightV T ops h f i = some r := by
  subst hO
  unfold stAt at hs
  unfold lightV
  split at hs
  · rename_i o ho
    rw [ho]
    simp only
    split at hs
    · rename_i hw; rw [hw]; exact stE_ok hs (allC_ok hc)
    · rename_i hw; rw [hw]; cases hs; rfl
    · cases hs
  · cases hs
theorem AnyE.tkO {ops : Array Oper} {M : List Nat} {rd : Option Nat} {K : Fm → St → Prop} {fuel : Nat} {pend : List (Nat × AV)} {f : Fm} {st : St} (hM : tidyB ops M = true) (hT : TOk P T) {O : Ar} (hO : O = std) {n m : Nat} (i d m' : Nat) {cs : List Cond} {r0 r : AV}
    (hb : tkB ops pend (lsB n m) i d = true) (hs : (lsB n m).setIfInBounds i true = lsB n m') (hl : stAt O T ops st.h f i = some (cs, r0)) (hc : allC cs) (he : Eqv r0 r)
    (H : AnyE P T ops M rd K fuel ((i, r) :: pend) (lsB n m') (f.put (some d) r) st) : AnyE P T ops M rd K (fuel + 1) pend (lsB n m) f st :=
  AnyE.tk hM hT i d m' hb hs (stAt_light hO hl hc) he H
def nlB (ops : Array Oper) (M : List Nat) (pend : List (Nat × AV)) (j : Nat) : Bool := match ops[j]? with
  | some o => noLookB ops (dropP M j pend) o
  | none => false
theorem AnyE.cpN {rd : Option Nat} {ops : Array Oper} {M : List Nat} {K : Fm → St → Prop} {fuel : Nat} {pend pend' : List (Nat × AV)} {f : Fm} {st : St} {n m : Nat} {g : FuncId} {args : List AV} {r : AV} (hp : Pure P g args r) (j d m' : Nat)
    (hq : Region.ready .any ops (lsB n m) = [j]) (hn : nlB ops M pend j = true) (hd : dropP M j pend = pend') (hc : callAt ops j f = some (g, args)) (hs : (lsB n m).setIfInBounds j true = lsB n m') (hf : putAt ops j f r = f.put (some d) r)
    (h : AnyE P T ops M rd K fuel pend' (lsB n m') (f.put (some d) r) st) : AnyE P T ops M rd K (fuel + 1) pend (lsB n m) f st := by
  refine AnyE.callP hp ?_ hc (by rw [hs, hf]; exact h)
  unfold nlB at hn
  unfold onlyD
  rw [hq]
  simp only
  split at hn
  · rename_i o ho
    subst hd
    simp only [ho, hn]
  · cases hn
end
end Go.Fz
namespace Go.Fz
open Go.Proofs
set_option maxRecDepth 100000
set_option linter.unusedVariables false
def cL : Code → Code
  | .seq a _ => a
  | c => c
def cR : Code → Code
  | .seq _ b => b
  | c => c
def cB : Code → Code
  | .block _ c => c
  | c => c
def cP : Code → Code
  | .loop c => c
  | c => c
noncomputable def bL1 : Code := cP (cB (cR (cL (cR (cR (bodyF Try.f22))))))
theorem midK.mk {len : Nat} {l : List (Nat × AV)} {S st : St} {f : Fm} (h1 : f.ts.len = len) (h2 : f.dm = []) (h3 : AllP (fun p => f.ts.get p.1 = p.2) l) (h4 : st = S) : midK len l S .normal f st := by
  obtain ⟨⟨n, g⟩, dm⟩ := f
  simp only at h1 h2
  subst h1; subst h2
  exact ⟨rfl, g, rfl, h3, h4⟩
end Go.Fz
namespace Go.Fz
open Go.Proofs
set_option maxRecDepth 100000
set_option linter.unusedVariables false
end Go.Fz
namespace Go.Fz
open Go.Proofs
set_option maxRecDepth 100000
set_option linter.unusedVariables false
end Go.Fz
namespace Go.Fz
open Go.Proofs
set_option maxRecDepth 100000
set_option linter.unusedVariables false
end Go.Fz
namespace Go.Fz
open Go.Proofs
set_option maxRecDepth 100000
set_option linter.unusedVariables false
end Go.Fz
namespace Go.Fz
open Go.Proofs
set_option maxRecDepth 100000
set_option linter.unusedVariables false
end Go.Fz
namespace Go.Fz
open Go.Proofs
set_option maxRecDepth 100000
set_option linter.unusedVariables false
section
variable {P : Program} {T : Ti}
end
noncomputable def b5P : {a : Array Oper // cB (cL (cR bL1)) = .region 5 a true} := ⟨_, by rfl⟩
noncomputable def b5 : Array Oper := b5P.1
end Go.Fz
namespace Go.Fz
open Go.Proofs
set_option maxRecDepth 100000
set_option linter.unusedVariables false
end Go.Fz
namespace Go.Fz
open Go.Proofs
set_option maxRecDepth 100000
set_option linter.unusedVariables false
end Go.Fz
namespace Go.Fz
open Go.Proofs
set_option maxRecDepth 100000
set_option linter.unusedVariables false
end Go.Fz
namespace Go.Fz
open Go.Proofs
set_option maxRecDepth 100000
set_option linter.unusedVariables false
end Go.Fz
namespace Go.Fz
open Go.Proofs
set_option maxRecDepth 100000
set_option linter.unusedVariables false
end Go.Fz
namespace Go.Fz
open Go.Proofs
set_option maxRecDepth 100000
set_option linter.unusedVariables false
end Go.Fz
namespace Go.Fz
open Go.Proofs
set_option maxRecDepth 100000
set_option linter.unusedVariables false
end Go.Fz
namespace Go.Fz
open Go.Proofs
set_option maxRecDepth 100000
set_option linter.unusedVariables false
theorem tmod_le {a b : Int} (ha : 0 ≤ a) (hb : 1 ≤ b) : 0 ≤ a.tmod b ∧ a.tmod b ≤ a := by
  obtain ⟨h1, h2, h3, h4, h5⟩ := tdiv_nn ha hb
  have h6 : 0 ≤ a.tdiv b * b := Int.mul_nonneg h1 (by omega)
  omega
theorem quo_le {a b : Int} (ha : 0 ≤ a) (ha2 : a ≤ 1000000000) (hb : 1 ≤ b) : 0 ≤ quo64 a b ∧ quo64 a b ≤ a := by
  rw [quo64_nn ha ha2 hb]
  obtain ⟨h1, h2, _⟩ := tdiv_nn ha hb
  exact ⟨h1, h2⟩
theorem bun_small {d : DayD} {t : TruD} (g : d.Good) (h : d.fits t = true) {w : Nat} (hw : w < d.nw) : 0 ≤ d.bun t w ∧ d.bun t w ≤ 1000000000 := by
  obtain ⟨b1, b2, b3, b4⟩ := tally_bounds g h
  obtain ⟨_, h2, _, _⟩ := fits_true h
  have h3 := b2 w hw
  have h4 := quo_le h3.1 h3.2 (b1 w hw)
  unfold DayD.bun
  rw [h2]; omega
end Go.Fz
