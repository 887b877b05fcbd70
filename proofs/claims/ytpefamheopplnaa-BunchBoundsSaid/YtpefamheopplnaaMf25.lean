/- Own work of the verifier of watercress: FzB19n, FzT7, FzT8, FzT9, FzT10, FzEn1. -/
import Derived.Test.YtpefamheopplnaaMf24
import Derived.Test.YtpefamheopplnaaMf22
import Derived.Test.YtpefamheopplnaaMf23
import Derived.Test.YtpefamheopplnaaMf18
set_option linter.unusedVariables false
set_option linter.unusedSimpArgs false
namespace Go.Fz
open Go.Proofs
set_option maxRecDepth 100000
theorem fault13_ok (d : DayD) (hs : d.small) : Pure Try.prog 24 [dayV d] (iV d.faultN) := by
  obtain ⟨O, hO⟩ : ∃ O : Ar, O = std := ⟨_, rfl⟩
  refine pure_of_body tok 3 Try.func24 en24 rfl ⟨dayV_below d, trivial⟩ Below.lit ?_
  refine SW.seqRun tok hO (by cbv <;> rfl) (by trivial) ?_
  refine SW.seqRun tok hO (by cbv <;> rfl) (by trivial) ?_
  refine OpsW.callI (fault_ok d hs) (by cbv <;> rfl) fun e he => ?_
  refine OpsW.run tok hO (by cbv <;> rfl) (by trivial) ?_
  exact SW.ret ⟨_, _, rfl, rfl, Eqv.int he⟩
theorem playN_ok' {d : DayD} {t : TruD} (g : d.Good) (h : d.fits t = true) : Pure Try.prog 47 [dayV d, truV t] (talV (d.tally t)) := by
  obtain ⟨h1, h2, h3, h4⟩ := fits_true h
  obtain ⟨b1, b2, b3, b4⟩ := tally_bounds g h
  exact playN_ok d t h1 h2 g.nw g.nl b1 g.hand.1 g.flat.1 b2 b3 b4
end Go.Fz
namespace Go.Fz
open Go.Proofs
set_option maxRecDepth 100000
set_option linter.unusedVariables false
def DayD.nT (d : DayD) : Nat := (d.manyL d.nl).toNat
def DayD.nthI (d : DayD) (i : Nat) : TruD := d.nthT (Int.ofNat i)
def DayD.okB (d : DayD) (i j : Nat) : Bool := d.rightB (d.tally (d.nthI i)) j
def DayD.selB (d : DayD) (i : Nat) : Bool := decide (bitsN (d.okB i) d.nc = fullI d.nc)
theorem all_ok (d : DayD) (gd : d.Good) (hm0 : 0 ≤ d.manyL d.nl) (hm : d.manyL d.nl ≤ 2000) : Pure Try.prog 32 [dayV d] (intsV d.nT false (fun i => bitsN (d.okB i) d.nc)) := by
  have hN : Int.ofNat d.nT = d.manyL d.nl := by
    show ((d.manyL d.nl).toNat : Int) = _
    omega
  have hN2 : d.nT ≤ 2000 := by
    have : (d.nT : Int) = d.manyL d.nl := hN
    omega
  have hsm : d.small := ⟨Nat.lt_of_le_of_lt gd.nw (by decide), Nat.lt_of_le_of_lt gd.nl (by decide), Nat.lt_of_le_of_lt gd.nc (by decide)⟩
  have hmany := many_ok d hsm
  rw [← hN] at hmany
  have hfit : ∀ i, i < d.nT → d.fits (d.nthI i) = true := fun i hi => nth_fits gd (Int.natCast_nonneg i) (by
    have : (i : Int) < 2000 := by omega
    show (i : Int) ≤ 1000000000
    omega)
  exact refAll_ok d (Nat.le_trans gd.nc (by decide)) d.nT (Nat.lt_of_le_of_lt hN2 (by decide)) hmany d.nthI (fun i => d.tally (d.nthI i)) d.okB (fun i hi => nth_ok d gd (Int.ofNat i)) (fun i hi => playN_ok' gd (hfit i hi))
    (fun i hi j hj => rightN_ok d _ j (gd.cnt j hj).2.1.1 (by show d.cw j < (d.nw : Int); exact (gd.cnt j hj).2.1.2))
theorem truths_ok (d : DayD) (gd : d.Good) (hm0 : 0 ≤ d.manyL d.nl) (hm : d.manyL d.nl ≤ 2000) : Pure Try.prog 46 [dayV d] (trsV (selT d.selB d.nT).length d.nw d.nl (fun k => (d.nthI ((selT d.selB d.nT).getD k 0)).fe) (fun k => (d.nthI ((selT d.selB d.nT).getD k 0)).st)) :=
  refTruths_ok d d.nT (by
    have : (d.nT : Int) ≤ 2000 := by
      show ((d.manyL d.nl).toNat : Int) ≤ 2000
      omega
    omega) (fun i => bitsN (d.okB i) d.nc) (fullI d.nc) (fun i => (d.nthI i).fe) (fun i => (d.nthI i).st) (all_ok d gd hm0 hm) (full_ok d (Nat.le_trans gd.nc (by decide))) (fun i hi => nth_ok d gd (Int.ofNat i))
end Go.Fz
namespace Go.Fz
open Go.Proofs
set_option maxRecDepth 100000
set_option linter.unusedVariables false
def encR (n : Nat) (lo hi t : Nat → Int) : Nat → Int
  | 0 => 0
  | r + 1 => (t (n - (r + 1)) - lo (n - (r + 1))) + (hi (n - (r + 1)) - lo (n - (r + 1)) + 1) * encR n lo hi t r
theorem enc_step {n : Nat} {lo hi t : Nat → Int} {i : Nat} (h : i < n) : encR n lo hi t (n - i) = (t i - lo i) + (hi i - lo i + 1) * encR n lo hi t (n - (i + 1)) := by
  have h1 : n - i = n - (i + 1) + 1 := by omega
  have h2 : n - (n - (i + 1) + 1) = i := by omega
  rw [h1]
  show (t (n - (n - (i + 1) + 1)) - lo (n - (n - (i + 1) + 1))) + (hi (n - (n - (i + 1) + 1)) - lo (n - (n - (i + 1) + 1)) + 1) * encR n lo hi t (n - (i + 1)) = _
  rw [h2]
theorem dm_in {a s b : Int} (h0 : 0 ≤ a) (h1 : a < s) : (a + s * b) / s = b ∧ (a + s * b) % s = a := by
  have hs : s ≠ 0 := by omega
  rw [Int.add_mul_ediv_left a b hs, Int.ediv_eq_zero_of_lt h0 h1, Int.add_mul_emod_self_left, Int.emod_eq_of_lt h0 h1]
  exact ⟨by omega, rfl⟩
section
variable {n : Nat} {lo hi t : Nat → Int}
theorem enc_nn (ht : ∀ m, m < n → lo m ≤ t m ∧ t m ≤ hi m) : ∀ r, r ≤ n → 0 ≤ encR n lo hi t r
  | 0, _ => Int.le_refl _
  | r + 1, h => by
    have ih := enc_nn ht r (by omega)
    have hm := ht (n - (r + 1)) (by omega)
    show 0 ≤ (t (n - (r + 1)) - lo (n - (r + 1))) + (hi (n - (r + 1)) - lo (n - (r + 1)) + 1) * encR n lo hi t r
    have := Int.mul_nonneg (show 0 ≤ hi (n - (r + 1)) - lo (n - (r + 1)) + 1 by omega) ih
    omega
theorem enc_lt (P : Nat → Int) (hP : ∀ i, i ≤ n → 1 ≤ P i) (hs : ∀ i, i < n → P (i + 1) = P i * (hi i - lo i + 1)) (ht : ∀ m, m < n → lo m ≤ t m ∧ t m ≤ hi m) : ∀ r, r ≤ n → P (n - r) * (encR n lo hi t r + 1) ≤ P n
  | 0, _ => by show P n * (0 + 1) ≤ P n; omega
  | r + 1, h => by
    have ih := enc_lt P hP hs ht r (by omega)
    have hnn := enc_nn ht r (by omega)
    obtain ⟨i, hi'⟩ : ∃ i, i = n - (r + 1) := ⟨_, rfl⟩
    have hin : i < n := by omega
    have h1 : n - r = i + 1 := by omega
    have hm := ht i hin
    rw [h1, hs i hin] at ih
    show P (n - (r + 1)) * ((t (n - (r + 1)) - lo (n - (r + 1))) + (hi (n - (r + 1)) - lo (n - (r + 1)) + 1) * encR n lo hi t r + 1) ≤ P n
    rw [← hi']
    refine Int.le_trans ?_ ih
    rw [Int.mul_assoc]
    refine Int.mul_le_mul_of_nonneg_left ?_ (by have := hP i (by omega); omega)
    rw [Int.mul_add, Int.mul_one]
    omega
end
theorem nth_onto {d : DayD} (hc : d.check = 0) {t : Nat → Int} (ht : d.inR t) : ∃ N : Nat, N < d.nT ∧ (∀ i, i < d.nw → (d.nthI N).fe i = t i) ∧ ∀ i, i < d.nl → (d.nthI N).st i = t (d.nw + i) := by
  have gd := good_of_check hc
  have hu := unk_in gd
  have hb := check_many hc
  have hpr := prN_all d.ulo d.uhi (d.nw + d.nl) hu hb
  have hP : ∀ i, i ≤ d.nw + d.nl → 1 ≤ prN d.ulo d.uhi i := fun i hi => (hpr i hi).1
  have hS : ∀ i, i < d.nw + d.nl → prN d.ulo d.uhi (i + 1) = prN d.ulo d.uhi i * (d.uhi i - d.ulo i + 1) := fun i hi => (hpr (i + 1) hi).2.2 i rfl
  have hmany : d.manyL d.nl = prN d.ulo d.uhi (d.nw + d.nl) := by
    rw [manyL_mn]
    obtain ⟨_, m1, _⟩ := mn_pr d.ulo d.uhi (d.nw + d.nl) hu (d.nw + d.nl) (Nat.le_refl _)
    exact ((m1 fun j hj => (hpr (j + 1) hj).2.1).1).symm
  have hle : prN d.ulo d.uhi (d.nw + d.nl) ≤ 2000 := (hpr _ (Nat.le_refl _)).2.1
  have hlt := enc_lt (prN d.ulo d.uhi) hP hS ht (d.nw + d.nl) (Nat.le_refl _)
  have h0 : prN d.ulo d.uhi (d.nw + d.nl - (d.nw + d.nl)) = 1 := by rw [Nat.sub_self]; rfl
  rw [h0, Int.one_mul] at hlt
  have hnn := fun r h => enc_nn (n := d.nw + d.nl) ht r h
  obtain ⟨N, hN⟩ := Int.eq_ofNat_of_zero_le (hnn (d.nw + d.nl) (Nat.le_refl _))
  obtain ⟨q, hq⟩ : ∃ q : Nat → Int, q = fun i => encR (d.nw + d.nl) d.ulo d.uhi t (d.nw + d.nl - i) := ⟨_, rfl⟩
  have hq0 : q 0 = (N : Int) := by rw [hq]; exact hN
  have hqb : ∀ i, 0 ≤ q i ∧ q i ≤ 2000 := fun i => by
    rw [hq]
    have h1 := hnn (d.nw + d.nl - i) (Nat.sub_le _ _)
    have h2 := enc_lt (prN d.ulo d.uhi) hP hS ht (d.nw + d.nl - i) (Nat.sub_le _ _)
    have h3 := hP (d.nw + d.nl - (d.nw + d.nl - i)) (Nat.sub_le _ _)
    have h4 := Int.mul_le_mul_of_nonneg_right h3 (show 0 ≤ encR (d.nw + d.nl) d.ulo d.uhi t (d.nw + d.nl - i) + 1 by omega)
    exact ⟨h1, by show encR (d.nw + d.nl) d.ulo d.uhi t (d.nw + d.nl - i) ≤ 2000; omega⟩
  have hst : ∀ i, i < d.nw + d.nl → quo64 (q i) (size64 (d.ulo i) (d.uhi i)) = q (i + 1) ∧ add64 (d.ulo i) ((q i).tmod (size64 (d.ulo i) (d.uhi i))) = t i := fun i hi => by
    obtain ⟨u0, u1, u2⟩ := hu i hi
    obtain ⟨t0, t1⟩ := ht i hi
    have hs := size64_in u0 u1 u2
    have he : q i = (t i - d.ulo i) + (d.uhi i - d.ulo i + 1) * q (i + 1) := by rw [hq]; exact enc_step hi
    obtain ⟨m1, m2⟩ := dm_in (a := t i - d.ulo i) (s := d.uhi i - d.ulo i + 1) (b := q (i + 1)) (by omega) (by omega)
    rw [← he] at m1 m2
    have hb1 := hqb (i + 1)
    have hb0 := hqb i
    rw [hs]
    constructor
    · unfold quo64
      rw [Int.tdiv_eq_ediv_of_nonneg hb0.1, m1]
      exact wrp_in (by simp only [IntKind.lo]; omega) (by simp only [IntKind.hi]; omega)
    · rw [Int.tmod_eq_emod_of_nonneg hb0.1, m2, add64_in _ _ (by omega) (by omega)]
      omega
  have hw : ∀ i, i < d.nw → d.ulo i = d.wlo i ∧ d.uhi i = d.whi i := fun i hi => by
    unfold DayD.ulo DayD.uhi
    rw [if_pos hi, if_pos hi]; exact ⟨rfl, rfl⟩
  have hl : ∀ i, d.ulo (d.nw + i) = d.llo i ∧ d.uhi (d.nw + i) = d.lhi i := fun i => by
    unfold DayD.ulo DayD.uhi
    rw [if_neg (by omega), if_neg (by omega), Nat.add_sub_cancel_left]; exact ⟨rfl, rfl⟩
  have hW : ∀ i, i ≤ d.nw → d.qW (Int.ofNat N) i = q i := fun i => by
    induction i with
    | zero => intro _; exact hq0.symm
    | succ i ih =>
      intro hi
      have h1 := (hst i (by omega)).1
      rw [(hw i hi).1, (hw i hi).2] at h1
      show quo64 (d.qW (Int.ofNat N) i) (size64 (d.wlo i) (d.whi i)) = _
      rw [ih (by omega)]; exact h1
  have hL : ∀ i, i ≤ d.nl → d.qL (Int.ofNat N) i = q (d.nw + i) := fun i => by
    induction i with
    | zero => intro _; exact hW d.nw (Nat.le_refl _)
    | succ i ih =>
      intro hi
      have h1 := (hst (d.nw + i) (by omega)).1
      rw [(hl i).1, (hl i).2] at h1
      show quo64 (d.qL (Int.ofNat N) i) (size64 (d.llo i) (d.lhi i)) = _
      rw [ih (by omega)]; exact h1
  refine ⟨N, ?_, fun i hi => ?_, fun i hi => ?_⟩
  · have h1 : ((d.nT : Nat) : Int) = d.manyL d.nl := by
      show ((d.manyL d.nl).toNat : Int) = _
      rw [hmany]; have := hP _ (Nat.le_refl _); omega
    have h2 : (N : Int) < (d.nT : Int) := by
      rw [h1, hmany]
      have h3 : encR (d.nw + d.nl) d.ulo d.uhi t (d.nw + d.nl) = (N : Int) := hN
      omega
    exact Int.ofNat_lt.1 h2
  · have h1 := (hst i (by omega)).2
    rw [(hw i hi).1, (hw i hi).2] at h1
    show add64 (d.wlo i) ((d.qW (Int.ofNat N) i).tmod (size64 (d.wlo i) (d.whi i))) = t i
    rw [hW i (by omega)]; exact h1
  · have h1 := (hst (d.nw + i) (by omega)).2
    rw [(hl i).1, (hl i).2] at h1
    show add64 (d.llo i) ((d.qL (Int.ofNat N) i).tmod (size64 (d.llo i) (d.lhi i))) = t (d.nw + i)
    rw [hL i (by omega)]; exact h1
end Go.Fz
namespace Go.Fz
open Go.Proofs
set_option maxRecDepth 100000
set_option linter.unusedVariables false
theorem bits_congr {b c : Nat → Bool} : ∀ {n : Nat}, (∀ j, j < n → b j = c j) → bitsN b n = bitsN c n
  | 0, _ => rfl
  | n + 1, h => by
    unfold bitsN
    rw [bits_congr fun j hj => h j (by omega), h n (by omega)]
theorem full_fin : ∀ (b0 b1 b2 b3 b4 : Bool) (n : Fin 6), bitsN (mkB (b0, b1, b2, b3, b4)) n.1 = fullI n.1 ↔ ∀ j : Fin 5, j.1 < n.1 → mkB (b0, b1, b2, b3, b4) j.1 = true := by decide +kernel
theorem bits_full (b : Nat → Bool) {n : Nat} (hn : n ≤ 5) : bitsN b n = fullI n ↔ ∀ j, j < n → b j = true := by
  have h5 : ∀ j, j < 5 → mkB (b 0, b 1, b 2, b 3, b 4) j = b j := fun j hj => by
    match j, hj with
    | 0, _ => rfl
    | 1, _ => rfl
    | 2, _ => rfl
    | 3, _ => rfl
    | 4, _ => rfl
  have h := full_fin (b 0) (b 1) (b 2) (b 3) (b 4) ⟨n, by omega⟩
  rw [bits_congr (n := n) fun j hj => h5 j (by omega)] at h
  rw [h]
  constructor
  · intro k j hj
    have := k ⟨j, by omega⟩ hj
    rw [h5 j (by omega)] at this; exact this
  · intro k j hj
    rw [h5 j.1 j.2]; exact k j.1 hj
theorem stemN_congr (d : DayD) {s s' : Nat → Int} (w : Int) : ∀ {n : Nat}, (∀ i, i < n → s i = s' i) → stemN d s w n = stemN d s' w n
  | 0, _ => rfl
  | n + 1, h => by
    show (if d.lw n = w then add64 (stemN d s w n) (s n) else stemN d s w n) = (if d.lw n = w then add64 (stemN d s' w n) (s' n) else stemN d s' w n)
    rw [stemN_congr d w fun i hi => h i (by omega), h n (by omega)]
theorem sumN_congr {b c : Nat → Int} : ∀ {n : Nat}, (∀ i, i < n → b i = c i) → sumN b n = sumN c n
  | 0, _ => rfl
  | n + 1, h => by
    show add64 (sumN b n) (b n) = add64 (sumN c n) (c n)
    rw [sumN_congr fun i hi => h i (by omega), h n (by omega)]
theorem right_congr {d : DayD} (gd : d.Good) {t u : TruD} (h1 : t.ns = d.nl) (h2 : u.ns = d.nl) (hf : ∀ w, w < d.nw → t.fe w = u.fe w) (hs : ∀ i, i < d.nl → t.st i = u.st i) {j : Nat} (hj : j < d.nc) : d.rightB (d.tally t) j = d.rightB (d.tally u) j := by
  have hst : ∀ w : Int, stemN d t.st w t.ns = stemN d u.st w u.ns := fun w => by rw [h1, h2]; exact stemN_congr d w hs
  have hb : ∀ w, w < d.nw → d.bun t w = d.bun u w := fun w hw => by unfold DayD.bun; rw [hst, hf w hw]
  have hl : ∀ w, w < d.nw → d.lef t w = d.lef u w := fun w hw => by unfold DayD.lef; rw [hst, hf w hw]
  have ha : d.all t = d.all u := by unfold DayD.all; exact sumN_congr hb
  have hc := (gd.cnt j hj).2.1
  have hw : (d.cw j).toNat < d.nw := by omega
  unfold DayD.rightB TalD.cnt
  show inB (if d.ck j = 0 then d.bun t (d.cw j).toNat else if d.ck j = 1 then d.lef t (d.cw j).toNat else if d.ck j = 2 then (d.tally t).hands else if d.ck j = 3 then (d.tally t).loose else if d.ck j = 4 then (d.tally t).flats else (d.tally t).spare) _ _ = inB (if d.ck j = 0 then d.bun u (d.cw j).toNat else if d.ck j = 1 then d.lef u (d.cw j).toNat else if d.ck j = 2 then (d.tally u).hands else if d.ck j = 3 then (d.tally u).loose else if d.ck j = 4 then (d.tally u).flats else (d.tally u).spare) _ _
  have e2 : (d.tally t).hands = (d.tally u).hands := by unfold DayD.tally; simp only [ha]
  have e3 : (d.tally t).loose = (d.tally u).loose := by unfold DayD.tally; simp only [ha]
  have e4 : (d.tally t).flats = (d.tally u).flats := by unfold DayD.tally; simp only [ha]
  have e5 : (d.tally t).spare = (d.tally u).spare := by unfold DayD.tally; simp only [ha]
  rw [hb _ hw, hl _ hw, e2, e3, e4, e5]
def numT (d : DayD) (t : TruD) (m : Nat) : Int := if m < d.nw then t.fe m else t.st (m - d.nw)
theorem selT_mem (p : Nat → Bool) (x : Nat) : ∀ n, x ∈ selT p n ↔ x < n ∧ p x = true
  | 0 => by simp [selT]
  | n + 1 => by
    unfold selT
    have ih := selT_mem p x n
    split
    · rename_i hp
      rw [List.mem_append, ih, List.mem_singleton]
      constructor
      · rintro (⟨h1, h2⟩ | rfl)
        · exact ⟨by omega, h2⟩
        · exact ⟨by omega, hp⟩
      · rintro ⟨h1, h2⟩
        by_cases e : x = n
        · exact .inr e
        · exact .inl ⟨by omega, h2⟩
    · rename_i hp
      rw [ih]
      constructor
      · rintro ⟨h1, h2⟩; exact ⟨by omega, h2⟩
      · rintro ⟨h1, h2⟩
        refine ⟨?_, h2⟩
        rcases Nat.lt_succ_iff_lt_or_eq.1 h1 with h | h
        · exact h
        · subst h; exact absurd h2 hp
theorem sel_outs {d : DayD} (hc : d.check = 0) (c : (Nat → Int) → Prop) : (∃ f, f ∈ d.seen.outs ∧ c f) ↔ ∃ n, n ∈ selT d.selB d.nT ∧ c (cutF (d.nw + d.nl) (numT d (d.nthI n))) := by
  have gd := good_of_check hc
  have hn5 := gd.nc
  have hsel : ∀ n, d.selB n = true ↔ ∀ j, j < d.nc → d.rightB (d.tally (d.nthI n)) j = true := fun n => by
    unfold DayD.selB
    rw [decide_eq_true_eq]
    exact bits_full (d.okB n) hn5
  have hcut : ∀ (t : Nat → Int) (m : Nat), m < d.nw + d.nl → cutF (d.nw + d.nl) t m = t m := fun t m hm => if_pos hm
  have hnum1 : ∀ n w, w < d.nw → numT d (d.nthI n) w = (d.nthI n).fe w := fun n w hw => if_pos hw
  have hnum2 : ∀ n i, numT d (d.nthI n) (d.nw + i) = (d.nthI n).st i := fun n i => by
    unfold numT
    rw [if_neg (by omega), Nat.add_sub_cancel_left]
  have hsame : ∀ n j, j < d.nc → d.rightB (d.tally (truF d (cutF (d.nw + d.nl) (numT d (d.nthI n))))) j = d.rightB (d.tally (d.nthI n)) j := fun n j hj =>
    right_congr gd rfl rfl (fun w hw => by
      show cutF (d.nw + d.nl) (numT d (d.nthI n)) w = _
      rw [hcut _ w (by omega), hnum1 n w hw]) (fun i hi => by
      show cutF (d.nw + d.nl) (numT d (d.nthI n)) (d.nw + i) = _
      rw [hcut _ (d.nw + i) (by omega), hnum2 n i]) hj
  have hT : (d.nT : Int) ≤ 2000 := by
    have hu := unk_in gd
    have hpr := prN_all d.ulo d.uhi (d.nw + d.nl) hu (check_many hc)
    obtain ⟨_, m1, _⟩ := mn_pr d.ulo d.uhi (d.nw + d.nl) hu (d.nw + d.nl) (Nat.le_refl _)
    have h1 := (m1 fun j hj => (hpr (j + 1) hj).2.1).1
    have h2 := (hpr _ (Nat.le_refl _)).2.1
    rw [h1, ← manyL_mn] at h2
    show ((d.manyL d.nl).toNat : Int) ≤ 2000
    omega
  constructor
  · rintro ⟨f, hf, hcf⟩
    obtain ⟨t, ht, rfl, hw⟩ := (seen_out d f).1 hf
    rw [wrong_no hn5] at hw
    obtain ⟨N, hN, h1, h2⟩ := nth_onto hc ht
    have he : cutF (d.nw + d.nl) (numT d (d.nthI N)) = cutF (d.nw + d.nl) t := cutF_congr fun m hm => by
      unfold numT
      by_cases hmw : m < d.nw
      · rw [if_pos hmw]; exact h1 m hmw
      · rw [if_neg hmw, h2 (m - d.nw) (by omega)]
        congr 1; omega
    refine ⟨N, (selT_mem _ _ _).2 ⟨hN, (hsel N).2 fun j hj => ?_⟩, by rw [he]; exact hcf⟩
    rw [← hsame N j hj, he]
    exact hw j hj
  · rintro ⟨N, hN, hcN⟩
    obtain ⟨hN1, hN2⟩ := (selT_mem _ _ _).1 hN
    refine ⟨_, (seen_out d _).2 ⟨numT d (d.nthI N), fun m hm => ?_, rfl, (wrong_no hn5 _).2 fun j hj => ?_⟩, hcN⟩
    · have hfit := nth_fits gd (N := Int.ofNat N) (Int.natCast_nonneg N) (by
        have : (N : Int) < (d.nT : Int) := Int.ofNat_lt.2 hN1
        show (N : Int) ≤ 1000000000
        omega)
      obtain ⟨_, _, k1, k2⟩ := fits_true hfit
      unfold numT DayD.ulo DayD.uhi
      by_cases hmw : m < d.nw
      · rw [if_pos hmw, if_pos hmw, if_pos hmw]; exact k1 m hmw
      · rw [if_neg hmw, if_neg hmw, if_neg hmw]; exact k2 (m - d.nw) (by omega)
    · show d.rightB (d.tally (truF d _)) j = true
      rw [hsame N j hj]
      exact (hsel N).1 hN2 j hj
end Go.Fz
namespace Go.Fz
open Go.Proofs
set_option maxRecDepth 100000
set_option linter.unusedVariables false
theorem cnt_all (b : Nat → Bool) : ∀ n, cntB b n = n ↔ ∀ i, i < n → b i = true
  | 0 => ⟨fun _ i hi => absurd hi (Nat.not_lt_zero i), fun _ => rfl⟩
  | n + 1 => by
    have ih := cnt_all b n
    have hle := cntB_le b n
    unfold cntB
    cases hb : b n with
    | true =>
      rw [if_pos rfl]
      constructor
      · intro h i hi
        rcases Nat.lt_succ_iff_lt_or_eq.1 hi with h1 | rfl
        · exact ih.1 (by omega) i h1
        · exact hb
      · intro h
        have := ih.2 fun i hi => h i (by omega)
        omega
    | false =>
      rw [if_neg (by simp)]
      constructor
      · intro h; omega
      · intro h
        have := h n (Nat.lt_succ_self n)
        rw [hb] at this; cases this
theorem cnt_none (b : Nat → Bool) : ∀ n, cntB b n = 0 ↔ ∀ i, i < n → b i = false
  | 0 => ⟨fun _ i hi => absurd hi (Nat.not_lt_zero i), fun _ => rfl⟩
  | n + 1 => by
    have ih := cnt_none b n
    unfold cntB
    cases hb : b n with
    | true =>
      rw [if_pos rfl]
      constructor
      · intro h; omega
      · intro h
        have := h n (Nat.lt_succ_self n)
        rw [hb] at this; cases this
    | false =>
      rw [if_neg (by simp)]
      constructor
      · intro h i hi
        rcases Nat.lt_succ_iff_lt_or_eq.1 hi with h1 | rfl
        · exact ih.1 h i h1
        · exact hb
      · intro h
        exact ih.2 fun i hi => h i (by omega)
theorem some_mem (l : List (Nat → Int)) (c : (Nat → Int) → Bool) (x : Bool) : someB (fun i => c (nthF l i)) x l.length = true ↔ ∃ f, f ∈ l ∧ c f = x := by
  unfold someB
  rw [decide_eq_true_eq, bmP_mem]
  constructor
  · rintro ⟨i, hi, h⟩; exact ⟨_, nth_mem hi, h⟩
  · rintro ⟨f, hf, h⟩
    obtain ⟨i, hi, rfl⟩ := mem_nth hf
    exact ⟨i, hi, h⟩
theorem thick_ref {d : DayD} (hc : d.check = 0) (hne : d.seen.outs ≠ []) {w : Nat} (hw : w < d.nw) (n : Int) : d.thick w n = verdR (fun k => decide (n < (d.nthI ((selT d.selB d.nT).getD k 0)).fe w)) (selT d.selB d.nT).length := by
  obtain ⟨b, hbd⟩ : ∃ b : Nat → Bool, b = fun k => decide (n < (d.nthI ((selT d.selB d.nT).getD k 0)).fe w) := ⟨_, rfl⟩
  rw [← hbd]
  have key : ∀ x : Bool, someB (fun i => decide (n < nthF d.seen.outs i w)) x d.seen.outs.length = true ↔ ∃ k, k < (selT d.selB d.nT).length ∧ b k = x := fun x => by
    rw [hbd]
    show _ ↔ ∃ k, k < (selT d.selB d.nT).length ∧ decide (n < (d.nthI ((selT d.selB d.nT).getD k 0)).fe w) = x
    rw [some_mem d.seen.outs (fun f => decide (n < f w)) x, sel_outs hc (fun f => decide (n < f w) = x)]
    have hf : ∀ N, cutF (d.nw + d.nl) (numT d (d.nthI N)) w = (d.nthI N).fe w := fun N => by
      unfold cutF numT
      rw [if_pos (by omega), if_pos hw]
    constructor
    · rintro ⟨N, hN, h⟩
      obtain ⟨k, hk, e⟩ := List.getElem_of_mem hN
      refine ⟨k, hk, ?_⟩
      rw [List.getD_eq_getElem?_getD, List.getElem?_eq_getElem hk, Option.getD_some, e, ← hf N]
      exact h
    · rintro ⟨k, hk, h⟩
      rw [List.getD_eq_getElem?_getD, List.getElem?_eq_getElem hk, Option.getD_some] at h
      exact ⟨_, List.getElem_mem hk, by rw [hf]; exact h⟩
  have hpos : 0 < (selT d.selB d.nT).length := by
    obtain ⟨f, hf⟩ := List.exists_mem_of_ne_nil _ hne
    obtain ⟨N, hN, _⟩ := (sel_outs hc (fun _ => True)).1 ⟨f, hf, trivial⟩
    exact List.length_pos_of_mem hN
  have k0 := key false
  have k1 := key true
  unfold DayD.thick verdict verdR
  rw [if_neg hne]
  clear key hbd
  generalize (selT d.selB d.nT).length = L at *
  have hA : someB (fun i => decide (n < nthF d.seen.outs i w)) false d.seen.outs.length = false ↔ cntB b L = L := by
    rw [cnt_all]
    constructor
    · intro h i hi
      cases hb : b i with
      | true => rfl
      | false => rw [k0.2 ⟨i, hi, hb⟩] at h; cases h
    · intro h
      cases hs : someB (fun i => decide (n < nthF d.seen.outs i w)) false d.seen.outs.length with
      | false => rfl
      | true =>
        obtain ⟨i, hi, hb⟩ := k0.1 hs
        have hbi : b i = false := hb
        rw [h i hi] at hbi; cases hbi
  have hB : someB (fun i => decide (n < nthF d.seen.outs i w)) true d.seen.outs.length = false ↔ cntB b L = 0 := by
    rw [cnt_none]
    constructor
    · intro h i hi
      cases hb : b i with
      | false => rfl
      | true => rw [k1.2 ⟨i, hi, hb⟩] at h; cases h
    · intro h
      cases hs : someB (fun i => decide (n < nthF d.seen.outs i w)) true d.seen.outs.length with
      | false => rfl
      | true =>
        obtain ⟨i, hi, hb⟩ := k1.1 hs
        have hbi : b i = true := hb
        rw [h i hi] at hbi; cases hbi
  by_cases h1 : cntB b L = L
  · rw [if_pos (hA.2 h1), if_pos h1]
  · rw [if_neg (fun h => h1 (hA.1 h)), if_neg h1]
    by_cases h2 : cntB b L = 0
    · rw [if_pos (hB.2 h2), if_pos h2]
    · rw [if_neg (fun h => h2 (hB.1 h)), if_neg h2]
end Go.Fz
namespace Go.Fz
open Go.Proofs
set_option maxRecDepth 100000
set_option linter.unusedVariables false
theorem nT_in {d : DayD} (hc : d.check = 0) : 0 ≤ d.manyL d.nl ∧ d.manyL d.nl ≤ 2000 := by
  have gd := good_of_check hc
  have hu := unk_in gd
  have hpr := prN_all d.ulo d.uhi (d.nw + d.nl) hu (check_many hc)
  obtain ⟨_, m1, _⟩ := mn_pr d.ulo d.uhi (d.nw + d.nl) hu (d.nw + d.nl) (Nat.le_refl _)
  have h1 := (m1 fun j hj => (hpr (j + 1) hj).2.1).1
  have h0 := (hpr _ (Nat.le_refl _)).1
  have h2 := (hpr _ (Nat.le_refl _)).2.1
  rw [h1, ← manyL_mn] at h2 h0
  exact ⟨by omega, h2⟩
def DayD.sel (d : DayD) : List Nat := selT d.selB d.nT
def DayD.sN (d : DayD) : Nat := d.sel.length
def DayD.sT (d : DayD) (k : Nat) : TruD := d.nthI (d.sel.getD k 0)
theorem sel_nil {d : DayD} (hc : d.check = 0) : d.sN = 0 ↔ d.seen.outs = [] := by
  have h := sel_outs hc (fun _ => True)
  constructor
  · intro h0
    have h1 : selT d.selB d.nT = [] := List.length_eq_zero_iff.1 h0
    cases ho : d.seen.outs with
    | nil => rfl
    | cons f l =>
      obtain ⟨n, hn, _⟩ := h.1 ⟨f, by rw [ho]; exact List.mem_cons_self, trivial⟩
      rw [h1] at hn; cases hn
  · intro h0
    show (selT d.selB d.nT).length = 0
    cases hs : selT d.selB d.nT with
    | nil => rfl
    | cons n l =>
      obtain ⟨f, hf, _⟩ := h.2 ⟨n, by rw [hs]; exact List.mem_cons_self, trivial⟩
      rw [h0] at hf; cases hf
theorem sel_len (d : DayD) : d.sN ≤ d.nT := by
  show (selT d.selB d.nT).length ≤ _
  have : ∀ (p : Nat → Bool) n, (selT p n).length ≤ n := fun p n => by
    induction n with
    | zero => exact Nat.le_refl _
    | succ n ih =>
      unfold selT
      split
      · rw [List.length_append]; show _ + 1 ≤ _; omega
      · omega
  exact this _ _
theorem sel_lt {d : DayD} {k : Nat} (hk : k < d.sN) : d.sel.getD k 0 < d.nT := by
  have h1 : d.sel.getD k 0 ∈ d.sel := by
    rw [List.getD_eq_getElem?_getD, List.getElem?_eq_getElem hk, Option.getD_some]; exact List.getElem_mem hk
  exact ((selT_mem _ _ _).1 h1).1
theorem nth_fit {d : DayD} (hc : d.check = 0) {N : Nat} (hN : N < d.nT) : d.fits (d.nthI N) = true :=
  nth_fits (good_of_check hc) (N := Int.ofNat N) (Int.natCast_nonneg N) (by
    have h1 := nT_in hc
    have h2 : (N : Int) < (d.nT : Int) := Int.ofNat_lt.2 hN
    have h3 : (d.nT : Int) = d.manyL d.nl := by
      show ((d.manyL d.nl).toNat : Int) = _
      omega
    show (N : Int) ≤ 1000000000
    omega)
theorem sel_fit {d : DayD} (hc : d.check = 0) {k : Nat} (hk : k < d.sN) : d.fits (d.sT k) = true := nth_fit hc (sel_lt hk)
def DayD.Val (d : DayD) (V : TruD → Int) : Prop := ∀ t u : TruD, t.ns = d.nl → u.ns = d.nl → (∀ w, w < d.nw → t.fe w = u.fe w) → (∀ i, i < d.nl → t.st i = u.st i) → V t = V u
theorem val_fe (d : DayD) {w : Nat} (hw : w < d.nw) : d.Val (fun t => t.fe w) := fun t u _ _ hf _ => hf w hw
theorem bun_same {d : DayD} {t u : TruD} (h1 : t.ns = d.nl) (h2 : u.ns = d.nl) (hf : ∀ w, w < d.nw → t.fe w = u.fe w) (hs : ∀ i, i < d.nl → t.st i = u.st i) {w : Nat} (hw : w < d.nw) : d.bun t w = d.bun u w := by
  unfold DayD.bun; rw [h1, h2, stemN_congr d w hs, hf w hw]
theorem val_bun (d : DayD) {w : Nat} (hw : w < d.nw) : d.Val (fun t => d.bun t w) := fun t u h1 h2 hf hs => bun_same h1 h2 hf hs hw
theorem val_lef (d : DayD) {w : Nat} (hw : w < d.nw) : d.Val (fun t => d.lef t w) := fun t u h1 h2 hf hs => by
  show d.lef t w = d.lef u w
  unfold DayD.lef; rw [h1, h2, stemN_congr d w hs, hf w hw]
theorem all_same {d : DayD} {t u : TruD} (h1 : t.ns = d.nl) (h2 : u.ns = d.nl) (hf : ∀ w, w < d.nw → t.fe w = u.fe w) (hs : ∀ i, i < d.nl → t.st i = u.st i) : d.all t = d.all u := by
  unfold DayD.all; exact sumN_congr fun w hw => bun_same h1 h2 hf hs hw
theorem val_hands (d : DayD) : d.Val (fun t => (d.tally t).hands) := fun t u h1 h2 hf hs => by show (d.tally t).hands = (d.tally u).hands; unfold DayD.tally; simp only [all_same h1 h2 hf hs]
theorem val_flats (d : DayD) : d.Val (fun t => (d.tally t).flats) := fun t u h1 h2 hf hs => by show (d.tally t).flats = (d.tally u).flats; unfold DayD.tally; simp only [all_same h1 h2 hf hs]
theorem val_nth {d : DayD} {V : TruD → Int} (hV : d.Val V) (N : Nat) : V (truF d (cutF (d.nw + d.nl) (numT d (d.nthI N)))) = V (d.nthI N) :=
  hV _ _ rfl rfl (fun w hw => by
    show cutF (d.nw + d.nl) (numT d (d.nthI N)) w = _
    unfold cutF numT; rw [if_pos (by omega), if_pos hw]) (fun i hi => by
    show cutF (d.nw + d.nl) (numT d (d.nthI N)) (d.nw + i) = _
    unfold cutF numT; rw [if_pos (by omega), if_neg (by omega), Nat.add_sub_cancel_left])
theorem val_sel {d : DayD} (hc : d.check = 0) {V : TruD → Int} (hV : d.Val V) (x : Int) : (∃ i, i < d.oN ∧ V (d.tr i) = x) ↔ ∃ k, k < d.sN ∧ V (d.sT k) = x := by
  have h := sel_outs hc (fun f => V (truF d f) = x)
  constructor
  · rintro ⟨i, hi, e⟩
    obtain ⟨N, hN, e2⟩ := h.1 ⟨_, nth_mem hi, e⟩
    rw [val_nth hV] at e2
    obtain ⟨k, hk, e3⟩ := List.getElem_of_mem hN
    refine ⟨k, hk, ?_⟩
    show V (d.nthI ((selT d.selB d.nT).getD k 0)) = x
    rw [List.getD_eq_getElem?_getD, List.getElem?_eq_getElem hk, Option.getD_some, e3]; exact e2
  · rintro ⟨k, hk, e⟩
    have e2 : V (d.nthI ((selT d.selB d.nT).getD k 0)) = x := e
    have hk2 : k < (selT d.selB d.nT).length := hk
    rw [List.getD_eq_getElem?_getD, List.getElem?_eq_getElem hk2, Option.getD_some] at e2
    obtain ⟨f, hf, e3⟩ := h.2 ⟨_, List.getElem_mem hk2, by rw [val_nth hV]; exact e2⟩
    obtain ⟨i, hi, rfl⟩ := mem_nth hf
    exact ⟨i, hi, e3⟩
theorem end_lo {d : DayD} (hc : d.check = 0) (hne : d.seen.outs ≠ []) {V : TruD → Int} (hV : d.Val V) : ∃ k, k < d.sN ∧ V (d.sT k) = mnF (fun i => V (d.tr i)) d.oN :=
  (val_sel hc hV _).1 (mnF_mem (V := fun i => V (d.tr i)) (List.length_pos_iff.2 hne))
theorem end_hi {d : DayD} (hc : d.check = 0) (hne : d.seen.outs ≠ []) {V : TruD → Int} (hV : d.Val V) : ∃ k, k < d.sN ∧ V (d.sT k) = mxF (fun i => V (d.tr i)) d.oN :=
  (val_sel hc hV _).1 (mxF_mem (V := fun i => V (d.tr i)) (List.length_pos_iff.2 hne))
theorem thick_sel {d : DayD} (hc : d.check = 0) (hne : d.seen.outs ≠ []) {w : Nat} (hw : w < d.nw) (n : Int) {k : Nat} (hk : k < d.sN) : (d.thick w n = 1 → n < (d.sT k).fe w) ∧ (d.thick w n = 2 → ¬ n < (d.sT k).fe w) := by
  rw [thick_ref hc hne hw n]
  unfold verdR
  constructor
  · intro h
    split at h
    · rename_i h1
      have := (cnt_all _ _).1 h1 k hk
      have h2 : decide (n < (d.nthI ((selT d.selB d.nT).getD k 0)).fe w) = true := this
      exact of_decide_eq_true h2
    · split at h <;> omega
  · intro h
    split at h
    · omega
    · split at h
      · rename_i h1
        have := (cnt_none _ _).1 h1 k hk
        have h2 : decide (n < (d.nthI ((selT d.selB d.nT).getD k 0)).fe w) = false := this
        exact of_decide_eq_false h2
      · omega
end Go.Fz
