/- Own work of the verifier of watercress: FzB15, FzB17, FzB18, FzB19, FzB21, FzB22, FzB23, FzB24, FzB25, FzN1, FzB26, FzB27. -/
import Derived.Test.YtkomalgeigefjaaMb11
import Derived.Test.YtkomalgeigefjaaMb12
import Derived.Test.YtkomalgeigefjaaMb9
import Derived.Test.YtkomalgeigefjaaMb6
set_option linter.unusedVariables false
set_option linter.unusedSimpArgs false
namespace Go.Fz
open Go.Proofs
set_option maxRecDepth 100000
variable {P : Program} {T : Ti}
def PickE (P : Program) (T : Ti) (ops : Array Oper) (M : List Nat) (rd : Option Nat) (K : Fm → St → Prop) (fuel : Nat) (pend : List (Nat × AV)) (listed : Array Bool) (f : Fm) (st : St) (j : Nat) : Prop :=
  ∃ o pend', ops[j]? = some o ∧ dropP M j pend = pend' ∧ OpsW P rd ops [j] (fun f' st' => (∃ v, f' = f.put o.dst v) ∧ PendOk T ops pend' f' st'.h ∧ AnyE P T ops M rd K fuel pend' (listed.setIfInBounds j true) f' st') f st
theorem PickE.eff (hT : TOk P T) {O : Ar} (hO : O = std) {rd : Option Nat} {ops : Array Oper} {M : List Nat} {K : Fm → St → Prop} {fuel : Nat} {pend pend' : List (Nat × AV)} {listed : Array Bool} {f f' : Fm} {st st' : St} {j : Nat} {cs : List Cond}
    (hd : dropP M j pend = pend') (hR : runO O T ops [j] [] f st = .done cs f' st') (hc : allC cs) (hk : AllP (fun p => lightV T ops st'.h f' p.1 = some p.2) pend') (h : AnyE P T ops M rd K fuel pend' (listed.setIfInBounds j true) f' st') : PickE P T ops M rd K fuel pend listed f st j := by
  obtain ⟨o', v, ho', rfl⟩ := runO_one hR
  exact ⟨o', pend', ho', hd, OpsW.run hT hO (R := .done cs (f.put o'.dst v) st') hR hc ⟨⟨v, rfl⟩, (show PendOk T ops pend' (f.put o'.dst v) st'.h from fun p hp => LV.of (hk.ok p hp)), h⟩⟩
theorem tdiv_nn {a b : Int} (ha : 0 ≤ a) (hb : 1 ≤ b) : 0 ≤ a.tdiv b ∧ a.tdiv b ≤ a ∧ a.tdiv b * b + a.tmod b = a ∧ 0 ≤ a.tmod b ∧ a.tmod b < b := by
  rw [Int.tdiv_eq_ediv_of_nonneg ha, Int.tmod_eq_emod_of_nonneg ha]
  refine ⟨Int.ediv_nonneg ha (by omega), Int.ediv_le_self b ha, ?_, Int.emod_nonneg a (by omega), Int.emod_lt_of_pos a (by omega)⟩
  rw [Int.mul_comm]; exact Int.mul_ediv_add_emod a b
theorem quo64_nn {a b : Int} (ha : 0 ≤ a) (ha2 : a ≤ 1000000000) (hb : 1 ≤ b) : quo64 a b = a.tdiv b := by
  obtain ⟨h1, h2, _⟩ := tdiv_nn ha hb
  exact wrp_in (by simp only [IntKind.lo]; omega) (by simp only [IntKind.hi]; omega)
end Go.Fz
namespace Go.Fz
open Go.Proofs
set_option maxRecDepth 100000
end Go.Fz
namespace Go.Fz
open Go.Proofs
set_option maxRecDepth 100000
def mnN (lo hi : Nat → Int) : Nat → Int
  | 0 => 1
  | i + 1 => minI 3000 (mul64 (mnN lo hi i) (size64 (lo i) (hi i)))
theorem size64_in {lo hi : Int} (h1 : 0 ≤ lo) (h2 : lo ≤ hi) (h3 : hi ≤ 5000) : size64 lo hi = hi - lo + 1 := by
  unfold size64
  rw [sub64_in _ _ (by omega) (by omega), add64_in _ _ (by omega) (by omega)]
theorem mn_pr (lo hi : Nat → Int) (M : Nat) (hr : ∀ i, i < M → 0 ≤ lo i ∧ lo i ≤ hi i ∧ hi i ≤ 5000) : ∀ i, i ≤ M → (1 ≤ mnN lo hi i ∧ mnN lo hi i ≤ 3000) ∧ ((∀ j, j < i → prN lo hi (j + 1) ≤ 2000) → prN lo hi i = mnN lo hi i ∧ mnN lo hi i ≤ 2000) ∧ ((∃ j, j < i ∧ 2000 < prN lo hi (j + 1)) → 2000 < mnN lo hi i)
  | 0, _ => ⟨⟨by simp [mnN], by simp [mnN]⟩, fun _ => ⟨rfl, by simp [mnN]⟩, fun ⟨j, hj, _⟩ => absurd hj (Nat.not_lt_zero j)⟩
  | i + 1, hi' => by
    obtain ⟨⟨a1, a2⟩, ih1, ih2⟩ := mn_pr lo hi M hr i (by omega)
    obtain ⟨r1, r2, r3⟩ := hr i (by omega)
    have hs := size64_in r1 r2 r3
    obtain ⟨s, hsd⟩ : ∃ s, s = size64 (lo i) (hi i) := ⟨_, rfl⟩
    have hs1 : 1 ≤ s := by omega
    have hs2 : s ≤ 5001 := by omega
    have em : mnN lo hi (i + 1) = minI 3000 (mul64 (mnN lo hi i) s) := by rw [hsd]; rfl
    have ep : prN lo hi (i + 1) = mul64 (prN lo hi i) s := by rw [hsd]; rfl
    have b1 : mnN lo hi i ≤ mnN lo hi i * s := by
      have := Int.mul_le_mul_of_nonneg_left hs1 (show 0 ≤ mnN lo hi i by omega)
      omega
    have b2 : mnN lo hi i * s ≤ 3000 * 5001 := Int.mul_le_mul a2 hs2 (by omega) (by omega)
    have em2 : mul64 (mnN lo hi i) s = mnN lo hi i * s := mul64_in _ _ (by omega) (by omega)
    have emin : mnN lo hi (i + 1) = if mnN lo hi i * s < 3000 then mnN lo hi i * s else 3000 := by rw [em, em2]; rfl
    refine ⟨by rw [emin]; split <;> omega, fun hall => ?_, fun ⟨j, hj, hjp⟩ => ?_⟩
    · obtain ⟨e1, e2⟩ := ih1 fun j hj => hall j (by omega)
      have hl := hall i (by omega)
      rw [ep, e1, em2] at hl
      rw [ep, e1, em2, emin]
      split <;> omega
    · by_cases hex : ∃ j, j < i ∧ 2000 < prN lo hi (j + 1)
      · have := ih2 hex
        rw [emin]; split <;> omega
      · have hall : ∀ j, j < i → prN lo hi (j + 1) ≤ 2000 := fun j hj => by
          rcases Int.lt_or_le 2000 (prN lo hi (j + 1)) with h | h
          · exact absurd ⟨j, hj, h⟩ hex
          · exact h
        obtain ⟨e1, e2⟩ := ih1 hall
        have : j = i := by
          rcases Nat.lt_succ_iff_lt_or_eq.1 hj with h | h
          · exact absurd ⟨j, h, hjp⟩ hex
          · exact h
        subst this
        rw [ep, e1, em2] at hjp
        rw [emin]; split <;> omega
theorem manyW_mn (d : DayD) : ∀ i, i ≤ d.nw → d.manyW i = mnN d.ulo d.uhi i
  | 0, _ => rfl
  | i + 1, h => by
    have : i < d.nw := by omega
    show minI 3000 (mul64 (d.manyW i) (size64 (d.wlo i) (d.whi i))) = minI 3000 (mul64 (mnN d.ulo d.uhi i) (size64 (d.ulo i) (d.uhi i)))
    rw [manyW_mn d i (by omega)]
    simp only [DayD.ulo, DayD.uhi, this, if_true]
theorem manyL_mn (d : DayD) : ∀ j, d.manyL j = mnN d.ulo d.uhi (d.nw + j)
  | 0 => manyW_mn d d.nw (Nat.le_refl _)
  | j + 1 => by
    have : ¬ d.nw + j < d.nw := by omega
    show minI 3000 (mul64 (d.manyL j) (size64 (d.llo j) (d.lhi j))) = minI 3000 (mul64 (mnN d.ulo d.uhi (d.nw + j)) (size64 (d.ulo (d.nw + j)) (d.uhi (d.nw + j))))
    rw [manyL_mn d j]
    simp only [DayD.ulo, DayD.uhi, this, if_false, Nat.add_sub_cancel_left]
theorem lot_eq (d : DayD) (i : Nat) : d.lotOk i = d.lotN i := by
  have : d.hasW (d.lw i) = inB (d.lw i) 0 ((d.nw : Int) - 1) := by
    rw [Bool.eq_iff_iff]; simp only [DayD.hasW, inB, Bool.and_eq_true, decide_eq_true_eq]; omega
  unfold DayD.lotOk DayD.lotN
  rw [this]
theorem cnt_eq (d : DayD) (h : 0 < d.nw) (i : Nat) : d.cntOk i = d.cntN i := by
  unfold DayD.cntOk DayD.cntN
  generalize withinB (d.clo i) (d.chi i) 0 20000 = w
  cases w
  · simp
  · rw [Bool.eq_iff_iff]
    simp only [DayD.hasW, inB, Bool.and_eq_true, Bool.or_eq_true, decide_eq_true_eq, Bool.and_true, Bool.true_and, and_true, true_and]
    by_cases hk : 1 < d.ck i
    · simp only [hk, if_true, decide_eq_true_eq]; omega
    · simp only [hk, if_false, Bool.and_eq_true, decide_eq_true_eq]; omega
theorem valid_eq (d : DayD) : d.validB = d.validN := by
  unfold DayD.validB DayD.validN
  by_cases h : 0 < d.nw
  · rw [show allN d.nl d.lotOk = allN d.nl d.lotN from allN_congr fun i _ => lot_eq d i, show allN d.nc d.cntOk = allN d.nc d.cntN from allN_congr fun i _ => cnt_eq d h i]
    rfl
  · simp [h]
theorem check_eq (d : DayD) : d.check = d.faultN := by
  unfold DayD.check DayD.faultN
  rw [← valid_eq]
  by_cases h1 : d.long = true
  · rw [if_pos h1, if_pos h1]
  · rw [if_neg h1, if_neg h1]
    by_cases h2 : d.validB = true
    · rw [if_pos h2, if_pos h2]
      have g := good_of_valid (by simpa using h1) h2
      have hr : ∀ i, i < d.nw + d.nl → 0 ≤ d.ulo i ∧ d.ulo i ≤ d.uhi i ∧ d.uhi i ≤ 5000 := fun i hi => by
        unfold DayD.ulo DayD.uhi
        by_cases hc : i < d.nw
        · have := g.wom i hc
          simp only [hc, if_true]; omega
        · have := g.lot (i - d.nw) (by omega)
          simp only [hc, if_false]; omega
      obtain ⟨_, m1, m2⟩ := mn_pr d.ulo d.uhi (d.nw + d.nl) hr (d.nw + d.nl) (Nat.le_refl _)
      rw [manyL_mn]
      by_cases hall : ∀ j, j < d.nw + d.nl → prN d.ulo d.uhi (j + 1) ≤ 2000
      · have hb : manyB d.ulo d.uhi (d.nw + d.nl) = false := by
          unfold manyB; rw [allN_true fun j hj => by simpa using hall j hj]; rfl
        obtain ⟨_, e2⟩ := m1 hall
        rw [hb, if_neg (by simp), if_neg (by omega)]
      · have hex : ∃ j, j < d.nw + d.nl ∧ 2000 < prN d.ulo d.uhi (j + 1) := by
          apply Classical.byContradiction
          intro hn
          refine hall fun j hj => ?_
          rcases Int.lt_or_le 2000 (prN d.ulo d.uhi (j + 1)) with h | h
          · exact absurd ⟨j, hj, h⟩ hn
          · exact h
        have hb : manyB d.ulo d.uhi (d.nw + d.nl) = true := by
          obtain ⟨j, hj, hp⟩ := hex
          unfold manyB; rw [allN_false (i := j) hj (by simpa using hp)]; rfl
        rw [hb, if_pos rfl, if_pos (m2 hex)]
    · rw [if_neg h2, if_neg h2]
theorem stemN_bound {d : DayD} {t : TruD} (hst : ∀ i, i < d.nl → 0 ≤ t.st i ∧ t.st i ≤ 5000) (w : Int) : ∀ j, j ≤ d.nl → j ≤ 4 → 0 ≤ stemN d t.st w j ∧ stemN d t.st w j ≤ 5000 * j
  | 0, _, _ => by simp [stemN]
  | j + 1, h, h4 => by
    obtain ⟨h1, h2⟩ := stemN_bound hst w j (by omega) (by omega)
    have := hst j (by omega)
    show 0 ≤ (if d.lw j = w then add64 (stemN d t.st w j) (t.st j) else stemN d t.st w j) ∧ (if d.lw j = w then add64 (stemN d t.st w j) (t.st j) else stemN d t.st w j) ≤ 5000 * ((j + 1 : Nat) : Int)
    split
    · rw [add64_in _ _ (by omega) (by omega)]; omega
    · omega
end Go.Fz
namespace Go.Fz
open Go.Proofs
set_option maxRecDepth 100000
def DayD.thinB (d : DayD) : Bool := decide (d.nw ≤ 6) && decide (d.nl ≤ 6) && decide (d.nc ≤ 7) && (decide (d.faultN ≠ 0) || decide (d.manyL d.nl ≤ 200))
set_option maxHeartbeats 4000000 in
theorem thin_ok (d : DayD) : Pure Try.prog 7 [dayV d] (.sb d.thinB) := by
  obtain ⟨O, hO⟩ : ∃ O : Ar, O = std := ⟨_, rfl⟩
  refine pure_of_body tok 3 Try.func7 en7 rfl ⟨dayV_below d, trivial⟩ Below.sb ?_
  refine SW.seqRun tok hO (by cbv <;> rfl) (by trivial) ?_
  refine SW.seqRun tok hO (by cbv <;> rfl) (by trivial) ?_
  refine OpsW.splitG (by cbv <;> rfl) (fun h1 => ?_) (fun h1 => ?_) <;> refine OpsW.run tok hO (by cbv <;> rfl) (by trivial) ?_
  rotate_left
  · have : ¬ (d.nw : Int) ≤ 6 := by subst hO; simpa [std] using h1
    refine SW.ret ⟨_, _, rfl, rfl, Eqv.bool ?_⟩
    have : ¬ d.nw ≤ 6 := by omega
    simp [DayD.thinB, this]
  have k1' : (d.nw : Int) ≤ 6 := by subst hO; simpa [std] using h1
  have k1 : d.nw ≤ 6 := by omega
  refine OpsW.splitG (by cbv <;> rfl) (fun h2 => ?_) (fun h2 => ?_) <;> refine OpsW.run tok hO (by cbv <;> rfl) (by trivial) ?_
  rotate_left
  · have : ¬ (d.nl : Int) ≤ 6 := by subst hO; simpa [std] using h2
    refine SW.ret ⟨_, _, rfl, rfl, Eqv.bool ?_⟩
    have : ¬ d.nl ≤ 6 := by omega
    simp [DayD.thinB, this]
  have k2' : (d.nl : Int) ≤ 6 := by subst hO; simpa [std] using h2
  have k2 : d.nl ≤ 6 := by omega
  refine OpsW.splitG (by cbv <;> rfl) (fun h3 => ?_) (fun h3 => ?_) <;> refine OpsW.run tok hO (by cbv <;> rfl) (by trivial) ?_
  rotate_left
  · have : ¬ (d.nc : Int) ≤ 7 := by subst hO; simpa [std] using h3
    refine SW.ret ⟨_, _, rfl, rfl, Eqv.bool ?_⟩
    have : ¬ d.nc ≤ 7 := by omega
    simp [DayD.thinB, this]
  have k3' : (d.nc : Int) ≤ 7 := by subst hO; simpa [std] using h3
  have k3 : d.nc ≤ 7 := by omega
  have hs : d.small := ⟨by omega, by omega, by omega⟩
  refine OpsW.callI (fault_ok d hs) (by cbv <;> rfl) fun e he => ?_
  refine OpsW.run tok hO (by cbv <;> rfl) (by trivial) ?_
  refine OpsW.splitG (by cbv <;> rfl) (fun h4 => ?_) (fun h4 => ?_) <;> refine OpsW.run tok hO (by cbv <;> rfl) (by trivial) ?_
  · have : d.faultN ≠ 0 := by subst hO; rw [← he]; simpa [std] using h4
    refine SW.ret ⟨_, _, rfl, rfl, Eqv.bool ?_⟩
    simp [DayD.thinB, this, k1, k2, k3]
  · have h5 : ¬ d.faultN ≠ 0 := by subst hO; rw [← he]; simpa [std] using h4
    refine OpsW.callI (many_ok d hs) (by cbv <;> rfl) fun m hm => ?_
    refine OpsW.run tok hO (by cbv <;> rfl) (by trivial) ?_
    refine SW.ret ⟨_, _, rfl, rfl, Eqv.sb ?_⟩
    subst hO
    simp [DayD.thinB, k1, k2, k3, h5, std, ← hm]
end Go.Fz
namespace Go.Fz
open Go.Proofs
set_option maxRecDepth 100000
def DayD.readyB (d : DayD) : Bool := d.thinB && decide (d.faultN = 0)
theorem thin_small {d : DayD} (h : d.thinB = true) : d.nw ≤ 6 ∧ d.nl ≤ 6 ∧ d.nc ≤ 7 := by
  simp only [DayD.thinB, Bool.and_eq_true, decide_eq_true_eq] at h; exact ⟨h.1.1.1, h.1.1.2, h.1.2⟩
theorem ready_ok (d : DayD) : Pure Try.prog 27 [dayV d] (.sb d.readyB) := by
  obtain ⟨O, hO⟩ : ∃ O : Ar, O = std := ⟨_, rfl⟩
  have call := thin_ok d
  have hr : d.readyB = (d.thinB && decide (d.faultN = 0)) := rfl
  have hsm : d.thinB = true → d.small := fun h => by have := thin_small h; exact ⟨by omega, by omega, by omega⟩
  generalize d.thinB = b at call hr hsm
  rw [hr]
  refine pure_of_body tok 3 Try.func27 en27 rfl ⟨dayV_below d, trivial⟩ Below.sb ?_
  refine SW.seqRun tok hO (by cbv <;> rfl) (by trivial) ?_
  refine SW.seqRun tok hO (by cbv <;> rfl) (by trivial) ?_
  refine OpsW.callP call (by cbv <;> rfl) ?_
  refine OpsW.run tok hO (by cbv <;> rfl) (by trivial) ?_
  refine OpsW.splitG (by cbv <;> rfl) (fun h1 => ?_) (fun h1 => ?_) <;> refine OpsW.run tok hO (by cbv <;> rfl) (by trivial) ?_
  · subst h1
    refine OpsW.callI (fault_ok d (hsm rfl)) (by cbv <;> rfl) fun e he => ?_
    refine OpsW.run tok hO (by cbv <;> rfl) (by trivial) ?_
    refine SW.ret ⟨_, _, rfl, rfl, Eqv.sb ?_⟩
    rw [← he]; subst hO; simp [std]; rfl
  · subst h1
    exact SW.ret ⟨_, _, rfl, rfl, Eqv.bool rfl⟩
theorem ready_good {d : DayD} (h : d.readyB = true) : d.Good ∧ d.manyL d.nl ≤ 200 := by
  simp only [DayD.readyB, Bool.and_eq_true, decide_eq_true_eq] at h
  obtain ⟨h1, h2⟩ := h
  refine ⟨good_of_check ((check_eq d).trans h2), ?_⟩
  simp only [DayD.thinB, Bool.and_eq_true, Bool.or_eq_true, decide_eq_true_eq] at h1
  rcases h1.2 with h | h
  · exact absurd h2 h
  · exact h
end Go.Fz
namespace Go.Fz
open Go.Proofs
set_option maxRecDepth 100000
def DayD.qW (d : DayD) (N : Int) : Nat → Int
  | 0 => N
  | s + 1 => quo64 (d.qW N s) (size64 (d.wlo s) (d.whi s))
def DayD.qL (d : DayD) (N : Int) : Nat → Int
  | 0 => d.qW N d.nw
  | s + 1 => quo64 (d.qL N s) (size64 (d.llo s) (d.lhi s))
def DayD.feN (d : DayD) (N : Int) (s : Nat) : Int := add64 (d.wlo s) ((d.qW N s).tmod (size64 (d.wlo s) (d.whi s)))
def DayD.stN (d : DayD) (N : Int) (s : Nat) : Int := add64 (d.llo s) ((d.qL N s).tmod (size64 (d.llo s) (d.lhi s)))
def DayD.nthT (d : DayD) (N : Int) : TruD := ⟨d.nw, false, d.feN N, d.nl, false, d.stN N⟩
def tru0 : List AV := [nl3, nl3]
theorem tru0_below : ∀ a ∈ tru0, Below 0 a := AllB.ok ⟨Below.lit, Below.lit, trivial⟩
def nthS (d : DayD) (A B : AV) (H : Hp) (n : Nat) : St := ⟨[(2, .cells none false [A, B]), (1, .cells none false tru0), (0, .cells none false (dayC d))] ++ H, n⟩
def midN (mk : AV → St) (a : AV) (q : Int) (e : Exit) (fm : Fm) (st : St) : Prop :=
  e = .normal ∧ ∃ g X, fm = ⟨⟨68, g⟩, []⟩ ∧ g 1 = iV q ∧ g 2 = .ptr 0 0 ∧ g 4 = .ptr 1 0 ∧ g 5 = .ptr 2 0 ∧ Eqv X a ∧ (X = nl3 ∨ ∃ len sz h, X = .isl len sz false h) ∧ st = mk X
set_option maxHeartbeats 8000000 in
theorem nth_ok (d : DayD) (g0 : d.Good) (N : Int) : Pure Try.prog 28 [dayV d, iV N] (truV (d.nthT N)) := by
  obtain ⟨O, hO⟩ : ∃ O : Ar, O = std := ⟨_, rfl⟩
  have hnat : ∀ i : Nat, O.nat (Int.ofNat i) = i := fun i => by subst hO; rfl
  have hnw := g0.nw
  have hnl := g0.nl
  refine pure_of_body tok 3 Try.func28 en28 rfl ⟨dayV_below d, iV_below, trivial⟩ (truV_below _) ?_
  refine SW.seqRun tok hO (by cbv <;> rfl) (by trivial) ?_
  refine SW.seqRun tok hO (by cbv <;> rfl) (by trivial) ?_
  refine SW.seq (SW.mono (Q := midN (fun X => nthS d (X) nl3 [] 4) (intsV d.nw false (d.feN N)) (d.qW N d.nw)) ?_ ?_)
  · refine SW.seqRun tok hO (by cbv <;> rfl) (by trivial) ?_
    refine (SW.block (SW.loopR (fun i : Nat => ⟨⟨68, getT [(1, iV (d.qW N i)), (2, .ptr 0 0), (4, .ptr 1 0), (5, .ptr 2 0), (6, iV i)]⟩, []⟩) (fun i => nthS d (slG 3 1 i) nl3 (objG 3 1 (intC (d.feN N)) i) 4) (fun i => d.nw - i) (fun i => i ≤ d.nw) 0 (Nat.zero_le _) (ren1 3 3) ?_ fun i hi => ?_))
    · exact WeakR.up rfl rfl (by simp) (Nat.le_refl _) (.inl rfl) (by show 3 ≤ 4; omega) ⟨RenV.closed Below.lit, RenV.ptr (by omega), RenV.ptr (by omega), RenV.ptr (by omega), RenV.closed Below.lit, trivial⟩ ⟨⟨by omega, _, rfl, .cells (.cons (RenV.closed Below.lit) (.cons (RenV.closed Below.lit) .nil)), .inr rfl⟩, ⟨by omega, _, rfl, .cells (RenVs.closed tru0_below), .inr rfl⟩, ⟨by omega, _, rfl, .cells (RenVs.closed (dayC_below d)), .inr rfl⟩, trivial⟩ (fun p hp => by cases hp)
    generalize hQ : d.qW N i = q
    cases i with
    | zero =>
      refine SW.seq ?_
      refine SW.seqRun tok hO (by cbv <;> rfl) (by trivial) ?_
      refine SW.condS (by cbv <;> rfl) (fun h => SW.skip ?_) (fun h => ?_)
      · have hlt : 0 < d.nw := by subst hO; simpa [std] using h
        have h0 : (0 : Int) ≤ Int.ofNat (0) := Int.natCast_nonneg _
        obtain ⟨hs0, hs1, hs2⟩ := g0.wom (0) hlt
        have hsz := size64_in (lo := d.wlo (0)) (hi := d.whi (0)) (by omega) hs1 (by omega)
        have hne : size64 (d.wlo (0)) (d.whi (0)) ≠ 0 := by rw [hsz]; omega
        have call := size61_ok (d.wlo (0)) (d.whi (0))
        have e1 : quo64 q (size64 (d.wlo (0)) (d.whi (0))) = d.qW N (1) := by rw [← hQ]; rfl
        have e2 : add64 (d.wlo (0)) (q.tmod (size64 (d.wlo (0)) (d.whi (0)))) = d.feN N (0) := by rw [← hQ]; rfl
        generalize size64 (d.wlo (0)) (d.whi (0)) = z at call hne e1 e2
        rw [← hnat (0)] at call
        refine SW.seq (SW.block ?_)
        refine SW.seqRun tok hO (by cbv <;> rfl) ?_ ?_
        · exact ⟨h0, Int.ofNat_lt.2 hlt⟩
        refine SW.runD tok mixed hO (by rfl) (by cbv <;> rfl) (by trivial) ?_
        refine AnyE.callP call (by cbv <;> rfl) (by cbv <;> rfl) ?_
        refine AnyE.run tok hO (by rfl) (by cbv <;> rfl) ?_ ?_
        · exact hne
        refine AnyE.effK tok hO (by cbv <;> rfl) (by cbv <;> rfl) (by trivial) ?_ ?_
        · exact (by repeat (first | exact trivial | refine And.intro (by first | exact lv_of hO (by cbv <;> rfl) (by trivial) | (refine lv_of hO (by cbv <;> rfl) ?_; exact hne)) ?_))
        refine AnyE.appNilK tok (by cbv <;> rfl) (by cbv <;> rfl) (by rfl) (by kernel_rfl) (by rfl) (by rfl) ?_ ?_
        · exact (by repeat (first | exact trivial | refine And.intro (by first | exact lv_of hO (by cbv <;> rfl) (by trivial) | (refine lv_of hO (by cbv <;> rfl) ?_; exact hne)) ?_))
        refine AnyE.run tok hO (by rfl) (by cbv <;> rfl) (by trivial) ?_
        refine AnyE.callP call (by cbv <;> rfl) (by cbv <;> rfl) ?_
        refine AnyE.run tok hO (by rfl) (by cbv <;> rfl) ?_ ?_
        · exact hne
        refine AnyE.effK tok hO (by cbv <;> rfl) (by cbv <;> rfl) (by trivial) ?_ ?_
        · exact (by repeat (first | exact trivial | refine And.intro (by first | exact lv_of hO (by cbv <;> rfl) (by trivial) | (refine lv_of hO (by cbv <;> rfl) ?_; exact hne)) ?_))
        refine AnyE.run tok hO (by rfl) (by cbv <;> rfl) (by trivial) ?_
        first
          | refine AnyE.done (by rfl) ?_
          | (refine AnyE.effK tok hO (by cbv <;> rfl) (by cbv <;> rfl) (by trivial) ?_ ?_
             · exact (by repeat (first | exact trivial | refine And.intro (by first | exact lv_of hO (by cbv <;> rfl) (by trivial) | (refine lv_of hO (by cbv <;> rfl) ?_; exact hne)) ?_))
             refine AnyE.done (by rfl) ?_)
        refine SW.run tok hO (by cbv <;> rfl) (by trivial) ?_
        refine ⟨1, by omega, by omega, ren1 3 6, ?_⟩
        have e3 : O.bin .quo .i64 q z = d.qW N (1) := by rw [← e1]; subst hO; rfl
        have e4 : O.bin .add .i64 (d.wlo (O.nat (Int.ofNat (0)))) (O.bin .rem .i64 q z) = d.feN N (0) := by rw [← e2, hnat]; subst hO; rfl
        refine WeakR.up rfl rfl (by simp) (Nat.le_refl _) (.inr (by omega)) (by show 3 ≤ 4; omega) ⟨?_, RenV.ptr (by omega), RenV.ptr (by omega), RenV.ptr (by omega), RenV.inc hO (by omega), trivial⟩ ⟨⟨by omega, _, rfl, .cells (.cons (RenV.sl (by omega)) (.cons (RenV.closed Below.lit) .nil)), .inr rfl⟩, ⟨by omega, _, rfl, .cells (RenVs.closed tru0_below), .inr rfl⟩, ⟨by omega, _, rfl, .cells (RenVs.closed (dayC_below d)), .inr rfl⟩, trivial⟩ (fun p hp => ?_)
        · show RenV _ _ (iV (d.qW N (1))) (iV (O.bin .quo .i64 q z))
          rw [e3]; exact RenV.closed Below.lit
        obtain rfl := objG_mem hp
        exact ⟨by omega, _, rfl, .cells (RenVs.of_eq (congrArg (fun v => [iV v]) e4) (flatG_below (intC_below (d.feN N)) 1)), .inl rfl⟩
      · have hz : d.nw = 0 := by
          have : d.nw ≤ 0 := by subst hO; simpa [std] using h
          omega
        refine SW.exit ⟨rfl, _, nl3, rfl, by show iV q = _; rw [hz, ← hQ], rfl, rfl, rfl, ?_, .inl rfl, rfl⟩
        show Eqv nl3 (.isl d.nw 1 false (intC (d.feN N)))
        rw [hz]; exact Eqv.nil
    | succ i =>
      obtain ⟨G, hG⟩ : ∃ G, G = flatG 1 (intC (d.feN N)) (i + 1) := ⟨_, rfl⟩
      have hGo : objG 3 1 (intC (d.feN N)) (i + 1) = [(3, .cells none false G)] := by rw [hG]; rfl
      show SW _ _ _ _ _ (nthS d (.sl 3 0 (i + 1) 1 false) nl3 (objG 3 1 (intC (d.feN N)) (i + 1)) 4)
      rw [hGo]
      refine SW.seq ?_
      refine SW.seqRun tok hO (by cbv <;> rfl) (by trivial) ?_
      refine SW.condS (by cbv <;> rfl) (fun h => SW.skip ?_) (fun h => ?_)
      · have hlt : i + 1 < d.nw := by
          have : ((i + 1 : Nat) : Int) < (d.nw : Int) := by subst hO; simpa [std] using h
          omega
        have h0 : (0 : Int) ≤ Int.ofNat (i + 1) := Int.natCast_nonneg _
        obtain ⟨hs0, hs1, hs2⟩ := g0.wom (i + 1) hlt
        have hsz := size64_in (lo := d.wlo (i + 1)) (hi := d.whi (i + 1)) (by omega) hs1 (by omega)
        have hne : size64 (d.wlo (i + 1)) (d.whi (i + 1)) ≠ 0 := by rw [hsz]; omega
        have call := size61_ok (d.wlo (i + 1)) (d.whi (i + 1))
        have e1 : quo64 q (size64 (d.wlo (i + 1)) (d.whi (i + 1))) = d.qW N (i + 1 + 1) := by rw [← hQ]; rfl
        have e2 : add64 (d.wlo (i + 1)) (q.tmod (size64 (d.wlo (i + 1)) (d.whi (i + 1)))) = d.feN N (i + 1) := by rw [← hQ]; rfl
        generalize size64 (d.wlo (i + 1)) (d.whi (i + 1)) = z at call hne e1 e2
        rw [← hnat (i + 1)] at call
        refine SW.seq (SW.block ?_)
        refine SW.seqRun tok hO (by cbv <;> rfl) ?_ ?_
        · exact ⟨h0, Int.ofNat_lt.2 hlt⟩
        refine SW.runD tok mixed hO (by rfl) (by cbv <;> rfl) (by trivial) ?_
        refine AnyE.callP call (by cbv <;> rfl) (by cbv <;> rfl) ?_
        refine AnyE.run tok hO (by rfl) (by cbv <;> rfl) ?_ ?_
        · exact hne
        refine AnyE.effK tok hO (by cbv <;> rfl) (by cbv <;> rfl) (by trivial) ?_ ?_
        · exact (by repeat (first | exact trivial | refine And.intro (by first | exact lv_of hO (by cbv <;> rfl) (by trivial) | (refine lv_of hO (by cbv <;> rfl) ?_; exact hne)) ?_))
        refine AnyE.appOneK (g := intC (d.feN N)) tok (by cbv <;> rfl) (by cbv <;> rfl) (by rfl) (by rfl) hG (by kernel_rfl) (by rfl) (by rfl) (by omega) fun G' hG' => ⟨?_, ?_⟩
        · exact (by repeat (first | exact trivial | refine And.intro (by first | exact lv_of hO (by cbv <;> rfl) (by trivial) | (refine lv_of hO (by cbv <;> rfl) ?_; exact hne)) ?_))
        refine AnyE.run tok hO (by rfl) (by cbv <;> rfl) (by trivial) ?_
        refine AnyE.callP call (by cbv <;> rfl) (by cbv <;> rfl) ?_
        refine AnyE.run tok hO (by rfl) (by cbv <;> rfl) ?_ ?_
        · exact hne
        refine AnyE.effK tok hO (by cbv <;> rfl) (by cbv <;> rfl) (by trivial) ?_ ?_
        · exact (by repeat (first | exact trivial | refine And.intro (by first | exact lv_of hO (by cbv <;> rfl) (by trivial) | (refine lv_of hO (by cbv <;> rfl) ?_; exact hne)) ?_))
        refine AnyE.run tok hO (by rfl) (by cbv <;> rfl) (by trivial) ?_
        first
          | refine AnyE.done (by rfl) ?_
          | (refine AnyE.effK tok hO (by cbv <;> rfl) (by cbv <;> rfl) (by trivial) ?_ ?_
             · exact (by repeat (first | exact trivial | refine And.intro (by first | exact lv_of hO (by cbv <;> rfl) (by trivial) | (refine lv_of hO (by cbv <;> rfl) ?_; exact hne)) ?_))
             refine AnyE.done (by rfl) ?_)
        refine SW.run tok hO (by cbv <;> rfl) (by trivial) ?_
        refine ⟨i + 1 + 1, by omega, by omega, ren1 3 6, ?_⟩
        have e3 : O.bin .quo .i64 q z = d.qW N (i + 1 + 1) := by rw [← e1]; subst hO; rfl
        have e4 : O.bin .add .i64 (d.wlo (O.nat (Int.ofNat (i + 1)))) (O.bin .rem .i64 q z) = d.feN N (i + 1) := by rw [← e2, hnat]; subst hO; rfl
        refine WeakR.up rfl rfl (by simp) (Nat.le_refl _) (.inr (by omega)) (by show 3 ≤ 4; omega) ⟨?_, RenV.ptr (by omega), RenV.ptr (by omega), RenV.ptr (by omega), RenV.inc hO (by omega), trivial⟩ ⟨⟨by omega, _, rfl, .cells (.cons (RenV.sl (by omega)) (.cons (RenV.closed Below.lit) .nil)), .inr rfl⟩, ⟨by omega, _, rfl, .cells (RenVs.closed tru0_below), .inr rfl⟩, ⟨by omega, _, rfl, .cells (RenVs.closed (dayC_below d)), .inr rfl⟩, trivial⟩ (fun p hp => ?_)
        · show RenV _ _ (iV (d.qW N (i + 1 + 1))) (iV (O.bin .quo .i64 q z))
          rw [e3]; exact RenV.closed Below.lit
        obtain rfl := objG_mem hp
        exact ⟨by omega, _, rfl, .cells (RenVs.of_eq (hG'.trans (flatG_snoc (d.feN N) (i + 1) _ e4)) (flatG_below (intC_below (d.feN N)) (i + 1 + 1))), .inl rfl⟩
      · have hz : d.nw = i + 1 := by
          have : (d.nw : Int) ≤ ((i + 1 : Nat) : Int) := by subst hO; simpa [std] using h
          omega
        have hlG : (i + 1) * 1 ≤ G.length := by rw [hG, flatG_length]; omega
        refine SW.freezeZ (fun j => Nat.beq j 3) 3 (by rfl) (SW.exit ⟨rfl, _, _, rfl, by show iV q = _; rw [hz, ← hQ], rfl, rfl, rfl, ?_, ?_, rfl⟩)
        rotate_left
        · exact .inr ⟨_, _, _, frz_slE (fm := none) (G := G) rfl rfl hlG⟩
        show Eqv (frz _ _ 3 (.sl 3 0 (i + 1) 1 false)) (.isl d.nw 1 false (intC (d.feN N)))
        rw [hz, frz_slE (fm := none) (G := G) rfl rfl hlG, hG]
        exact Eqv.isl rfl fun i' k hi' hk => Eqv.of (frz_flat hi' hk rfl)
  rintro e fm st ⟨rfl, g, A, rfl, g1, g2, g4, g5, hA, _, rfl⟩
  refine SW.seq (SW.mono (Q := midN (fun X => nthS d (intsV d.nw false (d.feN N)) (X) [] 5) (intsV d.nl false (d.stN N)) (d.qL N d.nl)) ?_ ?_)
  · refine SW.seqRun tok hO (by cbv <;> rfl) (by trivial) ?_
    refine (SW.block (SW.loopR (fun i : Nat => ⟨⟨68, getT [(1, iV (d.qL N i)), (2, .ptr 0 0), (4, .ptr 1 0), (5, .ptr 2 0), (8, iV i)]⟩, []⟩) (fun i => nthS d (intsV d.nw false (d.feN N)) (slG 4 1 i) (objG 4 1 (intC (d.stN N)) i) 5) (fun i => d.nl - i) (fun i => i ≤ d.nl) 0 (Nat.zero_le _) (ren1 4 4) ?_ fun i hi => ?_))
    · refine WeakR.up rfl rfl (by simp) (Nat.le_refl _) (.inl rfl) (by show 4 ≤ 5; omega) ⟨?_, ?_, ?_, ?_, RenV.closed Below.lit, trivial⟩ ⟨⟨by omega, _, rfl, .cells (.cons (RenV.eqv (RenV.closed (intsV_below _ _ _)) hA) (.cons (RenV.closed Below.lit) .nil)), .inr rfl⟩, ⟨by omega, _, rfl, .cells (RenVs.closed tru0_below), .inr rfl⟩, ⟨by omega, _, rfl, .cells (RenVs.closed (dayC_below d)), .inr rfl⟩, trivial⟩ (fun p hp => by cases hp)
      · show RenV _ _ _ (g 1); rw [g1]; exact RenV.closed Below.lit
      · show RenV _ _ _ (g 2); rw [g2]; exact RenV.ptr (by omega)
      · show RenV _ _ _ (g 4); rw [g4]; exact RenV.ptr (by omega)
      · show RenV _ _ _ (g 5); rw [g5]; exact RenV.ptr (by omega)
    generalize hQ : d.qL N i = q
    cases i with
    | zero =>
      refine SW.seq ?_
      refine SW.seqRun tok hO (by cbv <;> rfl) (by trivial) ?_
      refine SW.condS (by cbv <;> rfl) (fun h => SW.skip ?_) (fun h => ?_)
      · have hlt : 0 < d.nl := by subst hO; simpa [std] using h
        have h0 : (0 : Int) ≤ Int.ofNat (0) := Int.natCast_nonneg _
        obtain ⟨hs0, hs1, hs2⟩ := (fun i hi => (g0.lot i hi).2) (0) hlt
        have hsz := size64_in (lo := d.llo (0)) (hi := d.lhi (0)) (by omega) hs1 (by omega)
        have hne : size64 (d.llo (0)) (d.lhi (0)) ≠ 0 := by rw [hsz]; omega
        have call := size61_ok (d.llo (0)) (d.lhi (0))
        have e1 : quo64 q (size64 (d.llo (0)) (d.lhi (0))) = d.qL N (1) := by rw [← hQ]; rfl
        have e2 : add64 (d.llo (0)) (q.tmod (size64 (d.llo (0)) (d.lhi (0)))) = d.stN N (0) := by rw [← hQ]; rfl
        generalize size64 (d.llo (0)) (d.lhi (0)) = z at call hne e1 e2
        rw [← hnat (0)] at call
        refine SW.seq (SW.block ?_)
        refine SW.seqRun tok hO (by cbv <;> rfl) ?_ ?_
        · exact ⟨h0, Int.ofNat_lt.2 hlt⟩
        refine SW.runD tok mixed hO (by rfl) (by cbv <;> rfl) (by trivial) ?_
        refine AnyE.callP call (by cbv <;> rfl) (by cbv <;> rfl) ?_
        refine AnyE.run tok hO (by rfl) (by cbv <;> rfl) ?_ ?_
        · exact hne
        refine AnyE.effK tok hO (by cbv <;> rfl) (by cbv <;> rfl) (by trivial) ?_ ?_
        · exact (by repeat (first | exact trivial | refine And.intro (by first | exact lv_of hO (by cbv <;> rfl) (by trivial) | (refine lv_of hO (by cbv <;> rfl) ?_; exact hne)) ?_))
        refine AnyE.appNilK tok (by cbv <;> rfl) (by cbv <;> rfl) (by rfl) (by kernel_rfl) (by rfl) (by rfl) ?_ ?_
        · exact (by repeat (first | exact trivial | refine And.intro (by first | exact lv_of hO (by cbv <;> rfl) (by trivial) | (refine lv_of hO (by cbv <;> rfl) ?_; exact hne)) ?_))
        refine AnyE.run tok hO (by rfl) (by cbv <;> rfl) (by trivial) ?_
        refine AnyE.callP call (by cbv <;> rfl) (by cbv <;> rfl) ?_
        refine AnyE.run tok hO (by rfl) (by cbv <;> rfl) ?_ ?_
        · exact hne
        refine AnyE.effK tok hO (by cbv <;> rfl) (by cbv <;> rfl) (by trivial) ?_ ?_
        · exact (by repeat (first | exact trivial | refine And.intro (by first | exact lv_of hO (by cbv <;> rfl) (by trivial) | (refine lv_of hO (by cbv <;> rfl) ?_; exact hne)) ?_))
        refine AnyE.run tok hO (by rfl) (by cbv <;> rfl) (by trivial) ?_
        first
          | refine AnyE.done (by rfl) ?_
          | (refine AnyE.effK tok hO (by cbv <;> rfl) (by cbv <;> rfl) (by trivial) ?_ ?_
             · exact (by repeat (first | exact trivial | refine And.intro (by first | exact lv_of hO (by cbv <;> rfl) (by trivial) | (refine lv_of hO (by cbv <;> rfl) ?_; exact hne)) ?_))
             refine AnyE.done (by rfl) ?_)
        refine SW.run tok hO (by cbv <;> rfl) (by trivial) ?_
        refine ⟨1, by omega, by omega, ren1 4 7, ?_⟩
        have e3 : O.bin .quo .i64 q z = d.qL N (1) := by rw [← e1]; subst hO; rfl
        have e4 : O.bin .add .i64 (d.llo (O.nat (Int.ofNat (0)))) (O.bin .rem .i64 q z) = d.stN N (0) := by rw [← e2, hnat]; subst hO; rfl
        refine WeakR.up rfl rfl (by simp) (Nat.le_refl _) (.inr (by omega)) (by show 4 ≤ 5; omega) ⟨?_, RenV.ptr (by omega), RenV.ptr (by omega), RenV.ptr (by omega), RenV.inc hO (by omega), trivial⟩ ⟨⟨by omega, _, rfl, .cells (.cons (RenV.closed (intsV_below _ _ _)) (.cons (RenV.sl (by omega)) .nil)), .inr rfl⟩, ⟨by omega, _, rfl, .cells (RenVs.closed tru0_below), .inr rfl⟩, ⟨by omega, _, rfl, .cells (RenVs.closed (dayC_below d)), .inr rfl⟩, trivial⟩ (fun p hp => ?_)
        · show RenV _ _ (iV (d.qL N (1))) (iV (O.bin .quo .i64 q z))
          rw [e3]; exact RenV.closed Below.lit
        obtain rfl := objG_mem hp
        exact ⟨by omega, _, rfl, .cells (RenVs.of_eq (congrArg (fun v => [iV v]) e4) (flatG_below (intC_below (d.stN N)) 1)), .inl rfl⟩
      · have hz : d.nl = 0 := by
          have : d.nl ≤ 0 := by subst hO; simpa [std] using h
          omega
        refine SW.exit ⟨rfl, _, nl3, rfl, by show iV q = _; rw [hz, ← hQ], rfl, rfl, rfl, ?_, .inl rfl, rfl⟩
        show Eqv nl3 (.isl d.nl 1 false (intC (d.stN N)))
        rw [hz]; exact Eqv.nil
    | succ i =>
      obtain ⟨G, hG⟩ : ∃ G, G = flatG 1 (intC (d.stN N)) (i + 1) := ⟨_, rfl⟩
      have hGo : objG 4 1 (intC (d.stN N)) (i + 1) = [(4, .cells none false G)] := by rw [hG]; rfl
      show SW _ _ _ _ _ (nthS d (intsV d.nw false (d.feN N)) (.sl 4 0 (i + 1) 1 false) (objG 4 1 (intC (d.stN N)) (i + 1)) 5)
      rw [hGo]
      refine SW.seq ?_
      refine SW.seqRun tok hO (by cbv <;> rfl) (by trivial) ?_
      refine SW.condS (by cbv <;> rfl) (fun h => SW.skip ?_) (fun h => ?_)
      · have hlt : i + 1 < d.nl := by
          have : ((i + 1 : Nat) : Int) < (d.nl : Int) := by subst hO; simpa [std] using h
          omega
        have h0 : (0 : Int) ≤ Int.ofNat (i + 1) := Int.natCast_nonneg _
        obtain ⟨hs0, hs1, hs2⟩ := (fun i hi => (g0.lot i hi).2) (i + 1) hlt
        have hsz := size64_in (lo := d.llo (i + 1)) (hi := d.lhi (i + 1)) (by omega) hs1 (by omega)
        have hne : size64 (d.llo (i + 1)) (d.lhi (i + 1)) ≠ 0 := by rw [hsz]; omega
        have call := size61_ok (d.llo (i + 1)) (d.lhi (i + 1))
        have e1 : quo64 q (size64 (d.llo (i + 1)) (d.lhi (i + 1))) = d.qL N (i + 1 + 1) := by rw [← hQ]; rfl
        have e2 : add64 (d.llo (i + 1)) (q.tmod (size64 (d.llo (i + 1)) (d.lhi (i + 1)))) = d.stN N (i + 1) := by rw [← hQ]; rfl
        generalize size64 (d.llo (i + 1)) (d.lhi (i + 1)) = z at call hne e1 e2
        rw [← hnat (i + 1)] at call
        refine SW.seq (SW.block ?_)
        refine SW.seqRun tok hO (by cbv <;> rfl) ?_ ?_
        · exact ⟨h0, Int.ofNat_lt.2 hlt⟩
        refine SW.runD tok mixed hO (by rfl) (by cbv <;> rfl) (by trivial) ?_
        refine AnyE.callP call (by cbv <;> rfl) (by cbv <;> rfl) ?_
        refine AnyE.run tok hO (by rfl) (by cbv <;> rfl) ?_ ?_
        · exact hne
        refine AnyE.effK tok hO (by cbv <;> rfl) (by cbv <;> rfl) (by trivial) ?_ ?_
        · exact (by repeat (first | exact trivial | refine And.intro (by first | exact lv_of hO (by cbv <;> rfl) (by trivial) | (refine lv_of hO (by cbv <;> rfl) ?_; exact hne)) ?_))
        refine AnyE.appOneK (g := intC (d.stN N)) tok (by cbv <;> rfl) (by cbv <;> rfl) (by rfl) (by rfl) hG (by kernel_rfl) (by rfl) (by rfl) (by omega) fun G' hG' => ⟨?_, ?_⟩
        · exact (by repeat (first | exact trivial | refine And.intro (by first | exact lv_of hO (by cbv <;> rfl) (by trivial) | (refine lv_of hO (by cbv <;> rfl) ?_; exact hne)) ?_))
        refine AnyE.run tok hO (by rfl) (by cbv <;> rfl) (by trivial) ?_
        refine AnyE.callP call (by cbv <;> rfl) (by cbv <;> rfl) ?_
        refine AnyE.run tok hO (by rfl) (by cbv <;> rfl) ?_ ?_
        · exact hne
        refine AnyE.effK tok hO (by cbv <;> rfl) (by cbv <;> rfl) (by trivial) ?_ ?_
        · exact (by repeat (first | exact trivial | refine And.intro (by first | exact lv_of hO (by cbv <;> rfl) (by trivial) | (refine lv_of hO (by cbv <;> rfl) ?_; exact hne)) ?_))
        refine AnyE.run tok hO (by rfl) (by cbv <;> rfl) (by trivial) ?_
        first
          | refine AnyE.done (by rfl) ?_
          | (refine AnyE.effK tok hO (by cbv <;> rfl) (by cbv <;> rfl) (by trivial) ?_ ?_
             · exact (by repeat (first | exact trivial | refine And.intro (by first | exact lv_of hO (by cbv <;> rfl) (by trivial) | (refine lv_of hO (by cbv <;> rfl) ?_; exact hne)) ?_))
             refine AnyE.done (by rfl) ?_)
        refine SW.run tok hO (by cbv <;> rfl) (by trivial) ?_
        refine ⟨i + 1 + 1, by omega, by omega, ren1 4 7, ?_⟩
        have e3 : O.bin .quo .i64 q z = d.qL N (i + 1 + 1) := by rw [← e1]; subst hO; rfl
        have e4 : O.bin .add .i64 (d.llo (O.nat (Int.ofNat (i + 1)))) (O.bin .rem .i64 q z) = d.stN N (i + 1) := by rw [← e2, hnat]; subst hO; rfl
        refine WeakR.up rfl rfl (by simp) (Nat.le_refl _) (.inr (by omega)) (by show 4 ≤ 5; omega) ⟨?_, RenV.ptr (by omega), RenV.ptr (by omega), RenV.ptr (by omega), RenV.inc hO (by omega), trivial⟩ ⟨⟨by omega, _, rfl, .cells (.cons (RenV.closed (intsV_below _ _ _)) (.cons (RenV.sl (by omega)) .nil)), .inr rfl⟩, ⟨by omega, _, rfl, .cells (RenVs.closed tru0_below), .inr rfl⟩, ⟨by omega, _, rfl, .cells (RenVs.closed (dayC_below d)), .inr rfl⟩, trivial⟩ (fun p hp => ?_)
        · show RenV _ _ (iV (d.qL N (i + 1 + 1))) (iV (O.bin .quo .i64 q z))
          rw [e3]; exact RenV.closed Below.lit
        obtain rfl := objG_mem hp
        exact ⟨by omega, _, rfl, .cells (RenVs.of_eq (hG'.trans (flatG_snoc (d.stN N) (i + 1) _ e4)) (flatG_below (intC_below (d.stN N)) (i + 1 + 1))), .inl rfl⟩
      · have hz : d.nl = i + 1 := by
          have : (d.nl : Int) ≤ ((i + 1 : Nat) : Int) := by subst hO; simpa [std] using h
          omega
        have hlG : (i + 1) * 1 ≤ G.length := by rw [hG, flatG_length]; omega
        refine SW.freezeZ (fun j => Nat.beq j 4) 3 (by rfl) (SW.exit ⟨rfl, _, _, rfl, by show iV q = _; rw [hz, ← hQ], rfl, rfl, rfl, ?_, ?_, rfl⟩)
        rotate_left
        · exact .inr ⟨_, _, _, frz_slE (fm := none) (G := G) rfl rfl hlG⟩
        show Eqv (frz _ _ 3 (.sl 4 0 (i + 1) 1 false)) (.isl d.nl 1 false (intC (d.stN N)))
        rw [hz, frz_slE (fm := none) (G := G) rfl rfl hlG, hG]
        exact Eqv.isl rfl fun i' k hi' hk => Eqv.of (frz_flat hi' hk rfl)
  rintro e fm st ⟨rfl, g, A, rfl, g1, g2, g4, g5, hA, hform, rfl⟩
  rw [← updT_self g4, ← updT_self g5]
  rcases hform with rfl | ⟨len, sz, h, rfl⟩
  · refine SW.seqRun tok hO (by cbv <;> rfl) (by trivial) ?_
    exact SW.ret ⟨_, _, rfl, rfl, Eqv.agg (.cons (Eqv.refl _) (.cons hA .nil))⟩
  · refine SW.seqRun tok hO (by cbv <;> rfl) (by trivial) ?_
    exact SW.ret ⟨_, _, rfl, rfl, Eqv.agg (.cons (Eqv.refl _) (.cons hA .nil))⟩
end Go.Fz
namespace Go.Fz
open Go.Proofs
set_option maxRecDepth 100000
theorem ediv_anti {a b c : Int} (ha : 0 ≤ a) (hb : 1 ≤ b) (hbc : b ≤ c) : a.tdiv c ≤ a.tdiv b := by
  obtain ⟨h1, _, h3, h4, _⟩ := tdiv_nn ha (show 1 ≤ c by omega)
  rw [Int.tdiv_eq_ediv_of_nonneg ha (b := b)]
  refine Int.le_ediv_of_mul_le (by omega) ?_
  have : a.tdiv c * b ≤ a.tdiv c * c := Int.mul_le_mul_of_nonneg_left hbc h1
  omega
theorem ediv_mono {a b c : Int} (ha : 0 ≤ a) (hab : a ≤ b) (hc : 1 ≤ c) : a.tdiv c ≤ b.tdiv c := by
  obtain ⟨h1, _, h3, h4, _⟩ := tdiv_nn ha hc
  rw [Int.tdiv_eq_ediv_of_nonneg (show 0 ≤ b by omega)]
  exact Int.le_ediv_of_mul_le (by omega) (by omega)
theorem stemN_mono {d : DayD} {s r : Nat → Int} (hs : ∀ i, i < d.nl → 0 ≤ s i ∧ s i ≤ r i ∧ r i ≤ 5000) (w : Int) : ∀ j, j ≤ d.nl → j ≤ 4 → 0 ≤ stemN d s w j ∧ stemN d s w j ≤ stemN d r w j ∧ stemN d r w j ≤ 5000 * j
  | 0, _, _ => by simp [stemN]
  | j + 1, h, h4 => by
    obtain ⟨h1, h2, h3⟩ := stemN_mono hs w j (by omega) (by omega)
    have := hs j (by omega)
    show 0 ≤ (if d.lw j = w then add64 (stemN d s w j) (s j) else stemN d s w j) ∧ (if d.lw j = w then add64 (stemN d s w j) (s j) else stemN d s w j) ≤ (if d.lw j = w then add64 (stemN d r w j) (r j) else stemN d r w j) ∧ (if d.lw j = w then add64 (stemN d r w j) (r j) else stemN d r w j) ≤ 5000 * ((j + 1 : Nat) : Int)
    split
    · rw [add64_in _ _ (by omega) (by omega), add64_in _ _ (by omega) (by omega)]; omega
    · omega
theorem sumN_mono {b c : Nat → Int} {M : Nat} (h : ∀ i, i < M → 0 ≤ b i ∧ b i ≤ c i ∧ c i ≤ 20000) : ∀ i, i ≤ M → i ≤ 4 → 0 ≤ sumN b i ∧ sumN b i ≤ sumN c i ∧ sumN c i ≤ 20000 * i
  | 0, _, _ => by simp [sumN]
  | i + 1, hi, h4 => by
    obtain ⟨h1, h2, h3⟩ := sumN_mono h i (by omega) (by omega)
    have := h i (by omega)
    show 0 ≤ add64 (sumN b i) (b i) ∧ add64 (sumN b i) (b i) ≤ add64 (sumN c i) (c i) ∧ add64 (sumN c i) (c i) ≤ 20000 * ((i + 1 : Nat) : Int)
    rw [add64_in _ _ (by omega) (by omega), add64_in _ _ (by omega) (by omega)]; omega
theorem tally_mono {d : DayD} {t u : TruD} (g : d.Good) (h : ∀ i, i < d.nw → 0 ≤ d.bun t i ∧ d.bun t i ≤ d.bun u i ∧ d.bun u i ≤ 20000) : (d.tally t).hands ≤ (d.tally u).hands ∧ (d.tally t).flats ≤ (d.tally u).flats := by
  have hnw := g.nw
  obtain ⟨h1, h2, h3⟩ := sumN_mono h d.nw (Nat.le_refl _) hnw
  have hh := g.hand.1
  have hf := g.flat.1
  have e1 := ediv_mono h1 h2 hh
  obtain ⟨a1, a2, _⟩ := tdiv_nn h1 hh
  obtain ⟨b1, b2, _⟩ := tdiv_nn (show 0 ≤ sumN (d.bun u) d.nw by omega) hh
  have q1 : quo64 (sumN (d.bun t) d.nw) d.hand = (sumN (d.bun t) d.nw).tdiv d.hand := quo64_nn h1 (by omega) hh
  have q2 : quo64 (sumN (d.bun u) d.nw) d.hand = (sumN (d.bun u) d.nw).tdiv d.hand := quo64_nn (by omega) (by omega) hh
  show quo64 (sumN (d.bun t) d.nw) d.hand ≤ quo64 (sumN (d.bun u) d.nw) d.hand ∧ quo64 (quo64 (sumN (d.bun t) d.nw) d.hand) d.flat ≤ quo64 (quo64 (sumN (d.bun u) d.nw) d.hand) d.flat
  rw [q1, q2, quo64_nn a1 (by omega) hf, quo64_nn b1 (by omega) hf]
  exact ⟨e1, ediv_mono a1 e1 hf⟩
end Go.Fz
namespace Go.Fz
open Go.Proofs
set_option maxRecDepth 100000
theorem mod_in {lo hi q : Int} (h0 : 0 ≤ lo) (h1 : lo ≤ hi) (h2 : hi ≤ 5000) (hq : 0 ≤ q) : lo ≤ add64 lo (q.tmod (size64 lo hi)) ∧ add64 lo (q.tmod (size64 lo hi)) ≤ hi := by
  have hs := size64_in h0 h1 h2
  obtain ⟨_, _, _, h4, h5⟩ := tdiv_nn hq (show 1 ≤ size64 lo hi by omega)
  rw [add64_in _ _ (by omega) (by omega)]
  omega
theorem quo_nn {a b : Int} (ha : 0 ≤ a) (ha2 : a ≤ 1000000000) (hb : 1 ≤ b) : 0 ≤ quo64 a b ∧ quo64 a b ≤ 1000000000 := by
  obtain ⟨h1, h2, _⟩ := tdiv_nn ha hb
  rw [quo64_nn ha ha2 hb]; omega
theorem qW_nn {d : DayD} (g : d.Good) {N : Int} (h0 : 0 ≤ N) (h1 : N ≤ 1000000000) : ∀ i, i ≤ d.nw → 0 ≤ d.qW N i ∧ d.qW N i ≤ 1000000000
  | 0, _ => ⟨h0, h1⟩
  | i + 1, h => by
    obtain ⟨a, b⟩ := qW_nn g h0 h1 i (by omega)
    have hw := g.wom i (by omega)
    have hs := size64_in (lo := d.wlo i) (hi := d.whi i) (by omega) (by omega) (by omega)
    exact quo_nn a b (by omega)
theorem qL_nn {d : DayD} (g : d.Good) {N : Int} (h0 : 0 ≤ N) (h1 : N ≤ 1000000000) : ∀ i, i ≤ d.nl → 0 ≤ d.qL N i ∧ d.qL N i ≤ 1000000000
  | 0, _ => qW_nn g h0 h1 d.nw (Nat.le_refl _)
  | i + 1, h => by
    obtain ⟨a, b⟩ := qL_nn g h0 h1 i (by omega)
    have hw := (g.lot i (by omega)).2
    have hs := size64_in (lo := d.llo i) (hi := d.lhi i) (by omega) (by omega) (by omega)
    exact quo_nn a b (by omega)
theorem nth_fits {d : DayD} (g : d.Good) {N : Int} (h0 : 0 ≤ N) (h1 : N ≤ 1000000000) : d.fits (d.nthT N) = true := by
  have e1 : ∀ i, i < d.nw → inB (d.feN N i) (d.wlo i) (d.whi i) = true := fun i hi => by
    have hw := g.wom i hi
    obtain ⟨a, b⟩ := mod_in (lo := d.wlo i) (hi := d.whi i) (by omega) (by omega) (by omega) (qW_nn g h0 h1 i (by omega)).1
    simp only [inB, Bool.and_eq_true, decide_eq_true_eq]
    exact ⟨a, b⟩
  have e2 : ∀ i, i < d.nl → inB (d.stN N i) (d.llo i) (d.lhi i) = true := fun i hi => by
    have hw := (g.lot i hi).2
    obtain ⟨a, b⟩ := mod_in (lo := d.llo i) (hi := d.lhi i) (by omega) (by omega) (by omega) (qL_nn g h0 h1 i (by omega)).1
    simp only [inB, Bool.and_eq_true, decide_eq_true_eq]
    exact ⟨a, b⟩
  show (decide (d.nw = d.nw) && decide (d.nl = d.nl) && allN d.nw (fun i => inB (d.feN N i) (d.wlo i) (d.whi i)) && allN d.nl (fun i => inB (d.stN N i) (d.llo i) (d.lhi i))) = true
  rw [allN_true e1, allN_true e2]; simp
end Go.Fz
namespace Go.Fz
open Go.Proofs
set_option maxRecDepth 100000
def setI (f : Nat → Int) (w : Nat) (x : Int) (i : Nat) : Int := if i = w then x else f i
def TruD.setF (t : TruD) (w : Nat) (x : Int) : TruD := { t with fe := setI t.fe w x }
def TruD.setS (t : TruD) (k : Nat) (y : Int) : TruD := { t with st := setI t.st k y }
theorem setI_self (f : Nat → Int) (w : Nat) (x : Int) : setI f w x w = x := if_pos rfl
theorem setI_ne {f : Nat → Int} {w : Nat} {x : Int} {i : Nat} (h : i ≠ w) : setI f w x i = f i := if_neg h
theorem fits_of {d : DayD} {t : TruD} (h1 : t.nf = d.nw) (h2 : t.ns = d.nl) (h3 : ∀ i, i < d.nw → d.wlo i ≤ t.fe i ∧ t.fe i ≤ d.whi i) (h4 : ∀ i, i < d.nl → d.llo i ≤ t.st i ∧ t.st i ≤ d.lhi i) : d.fits t = true := by
  unfold DayD.fits
  rw [allN_true fun i hi => by have := h3 i (by omega); simp only [inB, Bool.and_eq_true, decide_eq_true_eq]; exact this, allN_true fun i hi => by have := h4 i (by omega); simp only [inB, Bool.and_eq_true, decide_eq_true_eq]; exact this]
  simp [h1, h2]
theorem setF_fits {d : DayD} {t : TruD} (h : d.fits t = true) {w : Nat} {x : Int} (hx : t.fe w ≤ x ∧ x ≤ d.whi w) : d.fits (t.setF w x) = true := by
  obtain ⟨h1, h2, h3, h4⟩ := fits_true h
  refine fits_of h1 h2 (fun i hi => ?_) h4
  show d.wlo i ≤ setI t.fe w x i ∧ setI t.fe w x i ≤ d.whi i
  have := h3 i hi
  by_cases e : i = w
  · subst e; rw [setI_self]; omega
  · rw [setI_ne e]; exact this
theorem setS_fits {d : DayD} {t : TruD} (h : d.fits t = true) {k : Nat} {y : Int} (hy : t.st k ≤ y ∧ y ≤ d.lhi k) : d.fits (t.setS k y) = true := by
  obtain ⟨h1, h2, h3, h4⟩ := fits_true h
  refine fits_of h1 h2 h3 (fun i hi => ?_)
  show d.llo i ≤ setI t.st k y i ∧ setI t.st k y i ≤ d.lhi i
  have := h4 i hi
  by_cases e : i = k
  · subst e; rw [setI_self]; omega
  · rw [setI_ne e]; exact this
theorem bun_bounds {d : DayD} {t : TruD} (g : d.Good) (h : d.fits t = true) (i : Nat) (hi : i < d.nw) : 0 ≤ d.bun t i ∧ d.bun t i ≤ 20000 := by
  obtain ⟨h1, h2, h3, h4⟩ := fits_true h
  have hnl := g.nl
  have f1 : 1 ≤ t.fe i := by have := h3 i hi; have := g.wom i hi; omega
  have s1 : ∀ i, i < d.nl → 0 ≤ t.st i ∧ t.st i ≤ 5000 := fun i hi => by have := h4 i hi; have := g.lot i hi; omega
  obtain ⟨a, b⟩ := stemN_bound s1 i d.nl (Nat.le_refl _) hnl
  unfold DayD.bun
  rw [h2]
  obtain ⟨k1, k2, _⟩ := tdiv_nn a f1
  rw [quo64_nn a (by omega) f1]; omega
theorem setF_bun {d : DayD} {t : TruD} (g : d.Good) (h : d.fits t = true) {w : Nat} {x : Int} (hx : t.fe w ≤ x ∧ x ≤ d.whi w) (i : Nat) (hi : i < d.nw) :
    (i ≠ w → d.bun t i = d.bun (t.setF w x) i) ∧ d.bun (t.setF w x) i ≤ d.bun t i := by
  by_cases e : i = w
  · subst e
    refine ⟨fun h => absurd rfl h, ?_⟩
    obtain ⟨h1, h2, h3, h4⟩ := fits_true h
    have hnl := g.nl
    have f1 : 1 ≤ t.fe i := by have := h3 i hi; have := g.wom i hi; omega
    have s1 : ∀ i, i < d.nl → 0 ≤ t.st i ∧ t.st i ≤ 5000 := fun i hi => by have := h4 i hi; have := g.lot i hi; omega
    obtain ⟨a, b⟩ := stemN_bound s1 i d.nl (Nat.le_refl _) hnl
    show quo64 (stemN d t.st i t.ns) (setI t.fe i x i) ≤ quo64 (stemN d t.st i t.ns) (t.fe i)
    rw [h2, setI_self, quo64_nn a (by omega) f1, quo64_nn a (by omega) (by omega)]
    exact ediv_anti a f1 hx.1
  · have : d.bun (t.setF w x) i = d.bun t i := by
      show quo64 (stemN d t.st i t.ns) (setI t.fe w x i) = quo64 (stemN d t.st i t.ns) (t.fe i)
      rw [setI_ne e]
    exact ⟨fun _ => this.symm, by omega⟩
theorem setS_bun {d : DayD} {t : TruD} (g : d.Good) (h : d.fits t = true) {k : Nat} {y : Int} (hy : t.st k ≤ y ∧ y ≤ d.lhi k) (i : Nat) (hi : i < d.nw) : d.bun t i ≤ d.bun (t.setS k y) i := by
  have hf2 := setS_fits h hy
  obtain ⟨h1, h2, h3, h4⟩ := fits_true h
  obtain ⟨_, _, _, k4⟩ := fits_true hf2
  have hnl := g.nl
  have f1 : 1 ≤ t.fe i := by have := h3 i hi; have := g.wom i hi; omega
  have s1 : ∀ i, i < d.nl → 0 ≤ t.st i ∧ t.st i ≤ (t.setS k y).st i ∧ (t.setS k y).st i ≤ 5000 := fun i hi => by
    have a1 := h4 i hi
    have a2 := k4 i hi
    have a3 := g.lot i hi
    refine ⟨by omega, ?_, by omega⟩
    show t.st i ≤ setI t.st k y i
    by_cases e : i = k
    · subst e; rw [setI_self]; omega
    · rw [setI_ne e]; omega
  obtain ⟨a, b, c⟩ := stemN_mono s1 i d.nl (Nat.le_refl _) hnl
  show quo64 (stemN d t.st i t.ns) (t.fe i) ≤ quo64 (stemN d (t.setS k y).st i t.ns) (t.fe i)
  rw [h2, quo64_nn a (by omega) f1, quo64_nn (by omega) (by omega) f1]
  exact ediv_mono a b f1
theorem setF_thin {d : DayD} {t : TruD} (g : d.Good) (h : d.fits t = true) {w : Nat} {x : Int} (hx : t.fe w ≤ x ∧ x ≤ d.whi w) :
    (d.tally (t.setF w x)).hands ≤ (d.tally t).hands ∧ (d.tally (t.setF w x)).flats ≤ (d.tally t).flats :=
  tally_mono g fun i hi => ⟨(bun_bounds g (setF_fits h hx) i hi).1, (setF_bun g h hx i hi).2, (bun_bounds g h i hi).2⟩
theorem setS_more {d : DayD} {t : TruD} (g : d.Good) (h : d.fits t = true) {k : Nat} {y : Int} (hy : t.st k ≤ y ∧ y ≤ d.lhi k) :
    (d.tally t).hands ≤ (d.tally (t.setS k y)).hands ∧ (d.tally t).flats ≤ (d.tally (t.setS k y)).flats :=
  tally_mono g fun i hi => ⟨(bun_bounds g h i hi).1, setS_bun g h hy i hi, (bun_bounds g (setS_fits h hy) i hi).2⟩
end Go.Fz
namespace Go.Fz
variable {P : Program} {T : Ti}
end Go.Fz
namespace Go.Fz
open Go.Proofs
set_option maxRecDepth 100000
section
variable {P : Program} {T : Ti}
def PickAll (P : Program) (T : Ti) (ops : Array Oper) (M : List Nat) (rd : Option Nat) (K : Fm → St → Prop) (fuel : Nat) (pend : List (Nat × AV)) (listed : Array Bool) (f : Fm) (st : St) : List Nat → Prop
  | [] => True
  | j :: r => PickE P T ops M rd K fuel pend listed f st j ∧ PickAll P T ops M rd K fuel pend listed f st r
theorem PickAll.ok {ops : Array Oper} {M : List Nat} {rd : Option Nat} {K : Fm → St → Prop} {fuel : Nat} {pend : List (Nat × AV)} {listed : Array Bool} {f : Fm} {st : St} : ∀ {l : List Nat}, PickAll P T ops M rd K fuel pend listed f st l → ∀ j ∈ l, PickE P T ops M rd K fuel pend listed f st j
  | [], _, j, h => by cases h
  | _ :: _, h, j, hj => by
    rcases List.mem_cons.1 hj with rfl | hj
    · exact h.1
    · exact h.2.ok j hj
theorem AnyE.many {ops : Array Oper} {M : List Nat} {rd : Option Nat} {K : Fm → St → Prop} {fuel : Nat} {pend : List (Nat × AV)} {listed : Array Bool} {f : Fm} {st : St} (rs : List Nat) (hr : Region.ready .any ops listed = rs) (hne : rs.isEmpty = false)
    (h : PickAll P T ops M rd K fuel pend listed f st rs) : AnyE P T ops M rd K (fuel + 1) pend listed f st := fun hc hpl hpo => by
  refine AnyD.all hpo hr (by intro e; rw [e] at hne; cases hne) fun k hk => ?_
  have hrm : k ∈ Region.ready .any ops listed := by rw [hr]; exact hk
  obtain ⟨o, pend', hj, hd, h⟩ := h.ok k hk
  refine ⟨o, hj, h.mono fun f' st' ⟨⟨v, hv⟩, hp, hE⟩ => ⟨v, hv, ?_⟩⟩
  rw [hd]
  exact hE (hc.set hrm) (fun p hp => by
    rw [← hd] at hp
    exact getD_set_true (hpl p (List.mem_filter.1 hp).1)) hp
theorem PickE.callQ {ops : Array Oper} {M : List Nat} {rd : Option Nat} {K : Fm → St → Prop} {fuel : Nat} {pend pend' : List (Nat × AV)} {listed : Array Bool} {f : Fm} {st : St} {j : Nat} {g : FuncId} {args : List AV} {r : AV} (hp : Pure P g args r)
    (hd : dropP M j pend = pend') (hc : callAt ops j f = some (g, args)) (hk : AllP (fun p => lightV T ops st.h (putAt ops j f r) p.1 = some p.2) pend') (h : AnyE P T ops M rd K fuel pend' (listed.setIfInBounds j true) (putAt ops j f r) st) : PickE P T ops M rd K fuel pend listed f st j := by
  obtain ⟨o', first, caps, az, ho', hw, hcc, ha, hput⟩ := callAt_ok hc
  subst ha
  rw [hput] at hk h
  exact ⟨o', pend', ho', hd, OpsW.pure hp ho' hw hcc (.nil ⟨⟨_, rfl⟩, (show PendOk T ops pend' (f.put o'.dst r) st.h from fun p hpm => LV.of (hk.ok p hpm)), h⟩)⟩
theorem PickE.callE {ops : Array Oper} {M : List Nat} {rd : Option Nat} {K : Fm → St → Prop} {fuel : Nat} {pend pend' : List (Nat × AV)} {listed : Array Bool} {f : Fm} {st : St} {j : Nat} {g : FuncId} {args : List AV} {k : AV → St → Prop} (he : Enters P g) (hp : CallW P g args st k)
    (hd : dropP M j pend = pend') (hc : callAt ops j f = some (g, args)) (h : ∀ r st', k r st' → AllP (fun p => lightV T ops st'.h (putAt ops j f r) p.1 = some p.2) pend' ∧ AnyE P T ops M rd K fuel pend' (listed.setIfInBounds j true) (putAt ops j f r) st') : PickE P T ops M rd K fuel pend listed f st j := by
  obtain ⟨o', first, caps, az, ho', hw, hcc, ha, hput⟩ := callAt_ok hc
  subst ha
  refine ⟨o', pend', ho', hd, OpsW.call ho' hw hcc (show ApplyW P (.fn (.func g) first caps) az st _ from ⟨he, hp.mono fun v st' hk => .nil ?_⟩)⟩
  obtain ⟨h1, h2⟩ := h v st' hk
  rw [hput] at h1 h2
  exact ⟨⟨_, rfl⟩, (show PendOk T ops pend' (f.put o'.dst v) st'.h from fun p hpm => LV.of (h1.ok p hpm)), h2⟩
theorem SW.ren {rd : Option Nat} {c : Code} {Q : Exit → Fm → St → Prop} {f : Fm} {st : St} (h : SW P rd c (fun e f1 st1 => ∃ ρ f2 st2, WeakR st.n ρ f1 st1 f2 st2 ∧ Q e f2 st2) f st) : SW P rd c Q f st := by
  intro φ w a n h1 h2 h3
  refine wpIn_mono (h φ w a n h1 h2 h3) fun e a' w' hl => ?_
  obtain ⟨f1, st1, φ1, ⟨ρ, f2, st2, hw, hq⟩, he, hr, ha, hf⟩ := hl
  obtain ⟨k1, k2, k3⟩ := hw.ok hr ha
  refine ⟨f2, st2, renF φ1 ρ st2.n, hq, ⟨?_, fun id hid => ?_, he.z⟩, k1, k2, hf.trans k3⟩
  · rw [h2.n]; exact hw.lo
  · show φ1.f (ρ id) = _
    rw [hw.idn id (by rw [← h2.n]; exact hid)]
    exact he.f id hid
def tabR : List (Nat × Nat) → Nat → Nat
  | [], j => j
  | (a, b) :: r, j => match Nat.beq a j with
    | true => b
    | false => tabR r j
theorem tabR_id {n : Nat} : ∀ {l : List (Nat × Nat)}, (l.all fun p => Nat.ble n p.1) = true → ∀ j, j < n → tabR l j = j
  | [], _, _, _ => rfl
  | (a, b) :: r, h, j, hj => by
    simp only [List.all_cons, Bool.and_eq_true] at h
    have : n ≤ a := Nat.le_of_ble_eq_true h.1
    unfold tabR
    cases hb : Nat.beq a j with
    | true => have := Nat.eq_of_beq_eq_true hb; omega
    | false => exact tabR_id h.2 j hj
theorem WeakR.tab {n0 : Nat} {tb : List (Nat × Nat)} {f1 : Fm} {st1 : St} {l : List (Nat × AV)} {len : Nat} {dm : List Nat} {h2 : Hp} {n2 : Nat} (e1 : len = f1.ts.len) (e2 : dm = f1.dm) (e3 : ∀ id ∈ dm, id < n0) (hid : (tb.all fun p => Nat.ble n0 p.1) = true) (lo : n0 ≤ n2)
    (hinj : (h2.all fun p => h2.all fun q => !(Nat.beq (tabR tb p.1) (tabR tb q.1)) || Nat.beq p.1 q.1) = true)
    (get : AllP (fun p => RenV (tabR tb) n2 p.2 (f1.ts.get p.1)) l) (obj : AllP (fun p => p.1 < n2 ∧ ∃ o1, st1.h.get (tabR tb p.1) = some o1 ∧ RenO (tabR tb) n2 p.2 o1 ∧ o1.fam = none) h2) : WeakR n0 (tabR tb) f1 st1 ⟨⟨len, getT l⟩, dm⟩ ⟨h2, n2⟩ := by
  refine WeakR.of (m := n2) e1 e2 e3 (tabR_id hid) lo (fun p hp => get.ok p hp) (fun p hp => ?_) (inj_of hinj)
  obtain ⟨h1, o1, h3, h4, h5⟩ := obj.ok p hp
  exact ⟨h1, o1, h3, h4, .inr h5⟩
end
def ListK (n : Nat) (fl : Nat → Int) (st : St) (v : AV) (st' : St) : Prop := (n = 0 ∧ v = nl3 ∧ st' = st) ∨ (0 < n ∧ v = .sl st.n 0 n 1 false ∧ st' = st.push (.cells none false (flatG 1 (intC fl) n)))
theorem list_call (n : Nat) (ex : Bool) (fl : Nat → Int) (hn : n < 1000) (st : St) : CallW Try.prog 30 [intsV n ex fl] st (ListK n fl st) := by
  obtain ⟨O, hO⟩ : ∃ O : Ar, O = std := ⟨_, rfl⟩
  refine callW_of_body tok Try.func30 rfl ?_
  refine SW.seqRun tok hO (by cbv <;> rfl) (by trivial) ?_
  refine SW.seq (SW.regionL (l := [0, 1, 2]) rfl ?_)
  refine OpsW.light tok rfl rfl (r := intsV n ex fl) (by rfl) ?_
  rcases Nat.eq_zero_or_pos n with hz | hz
  · subst hz
    refine OpsW.append tok rfl rfl (r := .lit (.slice none 0 0)) (st' := st) (by exact list_app0 ex fl _) ?_
    refine OpsW.light tok rfl rfl (r := .lit (.slice none 0 0)) (by rfl) ?_
    refine OpsW.nil ?_
    exact SW.ret ⟨_, _, rfl, rfl, .inl ⟨rfl, rfl, rfl⟩⟩
  · refine OpsW.append tok rfl rfl (r := .sl st.n 0 n 1 false) (st' := st.push (.cells none false (flatG 1 (intC fl) n))) (by exact list_app n ex fl hz hn _) ?_
    refine OpsW.light tok rfl rfl (r := .sl st.n 0 n 1 false) (by rfl) ?_
    refine OpsW.nil ?_
    exact SW.ret ⟨_, _, rfl, rfl, .inr ⟨hz, rfl, rfl⟩⟩
theorem list_callG (n : Nat) (ex : Bool) (fl : Nat → Int) (hn : n < 1000) (h0 : 0 < n) (G : List AV) (hG : flatG 1 (intC fl) n = G) (st : St) : CallW Try.prog 30 [intsV n ex fl] st (fun v st' => v = .sl st.n 0 n 1 false ∧ st' = st.push (.cells none false G)) :=
  (list_call n ex fl hn st).mono fun v st' h => by
    rcases h with ⟨h, _, _⟩ | ⟨_, h1, h2⟩
    · omega
    · rw [hG] at h2; exact ⟨h1, h2⟩
theorem list_nil (ex : Bool) (fl : Nat → Int) : Pure Try.prog 30 [intsV 0 ex fl] nl3 :=
  ⟨en30, fun st => (list_call 0 ex fl (by omega) st).mono fun v st' h => by
    rcases h with ⟨_, h1, h2⟩ | ⟨h, _, _⟩
    · exact ⟨h1, h2⟩
    · omega⟩
def bodyF (f : Func) : Code := match f.body with
  | some c => c
  | none => .skip
def restC : Nat → Code → Code
  | 0, c => c
  | k + 1, .seq _ y => restC k y
  | _ + 1, c => c
def nthC (k : Nat) (c : Code) : Code := match restC k c with
  | .seq x _ => x
  | c => c
end Go.Fz
namespace Go.Fz
open Go.Proofs
set_option maxRecDepth 100000
def midT (l : List (Nat × AV)) (S : St) (e : Exit) (fm : Fm) (st : St) : Prop := e = .normal ∧ ∃ g, fm = ⟨⟨240, g⟩, []⟩ ∧ AllP (fun p => g p.1 = p.2) l ∧ st = S
def thS2 (d : DayD) : St := ⟨[(0, .cells none false (dayC d))], 1⟩
def thS3 (d : DayD) (t : TruD) : St := ⟨[(1, .cells none false (truC t)), (0, .cells none false (dayC d))], 2⟩
set_option maxHeartbeats 4000000 in
theorem thin_s2 (d : DayD) (t : TruD) (w a b M N : Int) (g : Nat → AV) (O : Ar) (hO : O = std) (hmany : Pure Try.prog 29 [dayV d] (iV M)) (hM : M ≠ 0) (hN : O.bin .rem .i64 (O.conv .i64 w) M = N) (hnth : Pure Try.prog 28 [dayV d, iV N] (truV t))
    (g1 : g 1 = .lit (.int .u16 w)) (g2 : g 2 = .lit (.int .u8 a)) (g3 : g 3 = .lit (.int .u8 b)) (g4 : g 4 = .ptr 0 0) :
    SW Try.prog none (nthC 2 (bodyF Try.f5)) (midT [(2, .lit (.int .u8 a)), (3, .lit (.int .u8 b)), (4, .ptr 0 0), (9, .ptr 1 0)] (thS3 d t)) ⟨⟨240, g⟩, []⟩ (thS2 d) := by
  subst hN
  rw [← updT_self g1, ← updT_self g2, ← updT_self g3, ← updT_self g4]
  refine SW.runD tok mixed hO (by rfl) (by cbv <;> rfl) (by trivial) ?_
  refine AnyE.many [4, 7] (by cbv <;> rfl) (by rfl) ⟨?_, ?_, trivial⟩
  · refine PickE.callQ hmany (by cbv <;> rfl) (by cbv <;> rfl) ?_ ?_
    · exact (by repeat (first | exact trivial | refine And.intro (by first | exact lv_of hO (by cbv <;> rfl) (by trivial) | (cbv <;> rfl)) ?_))
    refine AnyE.run tok hO (by rfl) (by cbv <;> rfl) ?_ ?_
    · exact hM
    refine AnyE.many [6, 7] (by cbv <;> rfl) (by rfl) ⟨?_, ?_, trivial⟩
    · refine PickE.callQ hnth (by cbv <;> rfl) (by cbv <;> rfl) ?_ ?_
      · exact (by repeat (first | exact trivial | refine And.intro (by first | exact lv_of hO (by cbv <;> rfl) (by trivial) | (cbv <;> rfl)) ?_))
      refine AnyE.run tok hO (by rfl) (by cbv <;> rfl) (by trivial) ?_
      refine AnyE.effK tok hO (by cbv <;> rfl) (by cbv <;> rfl) (by trivial) ?_ ?_
      · exact (by repeat (first | exact trivial | refine And.intro (by first | exact lv_of hO (by cbv <;> rfl) (by trivial) | (cbv <;> rfl)) ?_))
      refine AnyE.run tok hO (by rfl) (by cbv <;> rfl) (by trivial) ?_
      refine AnyE.effK tok hO (by cbv <;> rfl) (by cbv <;> rfl) (by trivial) ?_ ?_
      · exact (by repeat (first | exact trivial | refine And.intro (by first | exact lv_of hO (by cbv <;> rfl) (by trivial) | (cbv <;> rfl)) ?_))
      refine AnyE.run tok hO (by rfl) (by cbv <;> rfl) (by trivial) ?_
      exact ⟨rfl, _, rfl, ⟨rfl, rfl, rfl, rfl, trivial⟩, rfl⟩
    · refine PickE.eff tok hO (by cbv <;> rfl) (by cbv <;> rfl) (by trivial) ?_ ?_
      · exact (by repeat (first | exact trivial | refine And.intro (by first | exact lv_of hO (by cbv <;> rfl) (by trivial) | (cbv <;> rfl)) ?_))
      refine AnyE.run tok hO (by rfl) (by cbv <;> rfl) (by trivial) ?_
      refine AnyE.callP hnth (by cbv <;> rfl) (by cbv <;> rfl) ?_
      refine AnyE.run tok hO (by rfl) (by cbv <;> rfl) (by trivial) ?_
      refine AnyE.effK tok hO (by cbv <;> rfl) (by cbv <;> rfl) (by trivial) ?_ ?_
      · exact (by repeat (first | exact trivial | refine And.intro (by first | exact lv_of hO (by cbv <;> rfl) (by trivial) | (cbv <;> rfl)) ?_))
      refine AnyE.run tok hO (by rfl) (by cbv <;> rfl) (by trivial) ?_
      exact ⟨rfl, _, rfl, ⟨rfl, rfl, rfl, rfl, trivial⟩, rfl⟩
  · refine PickE.eff tok hO (by cbv <;> rfl) (by cbv <;> rfl) (by trivial) ?_ ?_
    · exact (by repeat (first | exact trivial | refine And.intro (by first | exact lv_of hO (by cbv <;> rfl) (by trivial) | (cbv <;> rfl)) ?_))
    refine AnyE.run tok hO (by rfl) (by cbv <;> rfl) (by trivial) ?_
    refine AnyE.callP hmany (by cbv <;> rfl) (by cbv <;> rfl) ?_
    refine AnyE.run tok hO (by rfl) (by cbv <;> rfl) ?_ ?_
    · exact hM
    refine AnyE.callP hnth (by cbv <;> rfl) (by cbv <;> rfl) ?_
    refine AnyE.run tok hO (by rfl) (by cbv <;> rfl) (by trivial) ?_
    refine AnyE.effK tok hO (by cbv <;> rfl) (by cbv <;> rfl) (by trivial) ?_ ?_
    · exact (by repeat (first | exact trivial | refine And.intro (by first | exact lv_of hO (by cbv <;> rfl) (by trivial) | (cbv <;> rfl)) ?_))
    refine AnyE.run tok hO (by rfl) (by cbv <;> rfl) (by trivial) ?_
    exact ⟨rfl, _, rfl, ⟨rfl, rfl, rfl, rfl, trivial⟩, rfl⟩
end Go.Fz
