/- Own work of the verifier of watercress: FzB15, FzB17, FzB18, FzB19, FzB21, FzB22, FzB23, FzB24, FzB25, FzN1, FzB26, FzB33, FzB34. -/
import Derived.Test.YtkomalgeigefjaaMc11
import Derived.Test.YtkomalgeigefjaaMc12
import Derived.Test.YtkomalgeigefjaaMc9
import Derived.Test.YtkomalgeigefjaaMc6
set_option linter.unusedVariables false
set_option linter.unusedSimpArgs false
namespace Go.Fz
open Go.Proofs
set_option maxRecDepth 100000
variable {P : Program} {T : Ti}
def PickE (P : Program) (T : Ti) (ops : Array Oper) (M : List Nat) (rd : Option Nat) (K : Fm → St → Prop) (fuel : Nat) (pend : List (Nat × AV)) (listed : Array Bool) (f : Fm) (st : St) (j : Nat) : Prop :=
  ∃ o pend', ops[j]? = some o ∧ dropP M j pend = pend' ∧ OpsW P rd ops [j] (fun f' st' => (∃ v, f' = f.put o.dst v) ∧ PendOk T ops pend' f' st'.h ∧ AnyE P T ops M rd K fuel pend' (listed.setIfInBounds j true) f' st') f st
theorem PickE.eff (hT : TOk P T) {O : Ar} (hO : O = std) {rd : Option Nat} {ops : Array Oper} {M : List Nat} {K : Fm → St → Prop} {fuel : Nat} {pend pend' : List (Nat × AV)} {listed : Array Bool} {f f' : Fm} {st st' : St} {j : Nat} {cs : List Cond}
    (hd : dropP M j pend = pend') (hR : runO O T ops [j] [] f st = .done cs f' st') (hc : allC cs) (hk : AllP (fun p => lightV T ops st'.h f' p.1 = some p.2) pend') (h : AnyE P T ops M rd K fuel pend' (listed.setIfInBounds j true) f' st') : PickE P T ops M rd K fuel pend listed f st j := by
  obtain ⟨o', v, ho', rfl⟩ := runO_one hR
  exact ⟨o', pend', ho', hd, OpsW.run hT hO (R := .done cs (f.put o'.dst v) st') hR hc ⟨⟨v, rfl⟩, (show PendOk T ops pend' (f.put o'.dst v) st'.h from fun p hp => LV.of (hk.ok p hp)), h⟩⟩
theorem PickE.app (hT : TOk P T) {rd : Option Nat} {ops : Array Oper} {M : List Nat} {K : Fm → St → Prop} {fuel : Nat} {pend pend' : List (Nat × AV)} {listed : Array Bool} {f : Fm} {st st' : St} {j t : Nat} {s x r : AV}
    (hd : dropP M j pend = pend') (ha : appAt ops j f = some (t, s, x)) (hr : appendA T st t t s x = some (r, st')) (hk : AllP (fun p => lightV T ops st'.h (putAt ops j f r) p.1 = some p.2) pend')
    (h : AnyE P T ops M rd K fuel pend' (listed.setIfInBounds j true) (putAt ops j f r) st') : PickE P T ops M rd K fuel pend listed f st j := by
  obtain ⟨o, h1, h2, h3, h4⟩ := appAt_ok ha
  rw [h4] at hk h
  exact ⟨o, pend', h1, hd, OpsW.append hT h1 h2 (by rw [h3]; exact hr) (.nil ⟨⟨r, rfl⟩, (show PendOk T ops pend' (f.put o.dst r) st'.h from fun p hp => LV.of (hk.ok p hp)), h⟩)⟩
theorem tdiv_nn {a b : Int} (ha : 0 ≤ a) (hb : 1 ≤ b) : 0 ≤ a.tdiv b ∧ a.tdiv b ≤ a ∧ a.tdiv b * b + a.tmod b = a ∧ 0 ≤ a.tmod b ∧ a.tmod b < b := by
  rw [Int.tdiv_eq_ediv_of_nonneg ha, Int.tmod_eq_emod_of_nonneg ha]
  refine ⟨Int.ediv_nonneg ha (by omega), Int.ediv_le_self b ha, ?_, Int.emod_nonneg a (by omega), Int.emod_lt_of_pos a (by omega)⟩
  rw [Int.mul_comm]; exact Int.mul_ediv_add_emod a b
theorem quo64_nn {a b : Int} (ha : 0 ≤ a) (ha2 : a ≤ 1000000000) (hb : 1 ≤ b) : quo64 a b = a.tdiv b := by
  obtain ⟨h1, h2, _⟩ := tdiv_nn ha hb
  exact wrp_in (by simp only [IntKind.lo]; omega) (by simp only [IntKind.hi]; omega)
end Go.Fz
namespace Go.Fz
open Go.Proofs
set_option maxRecDepth 100000
end Go.Fz
namespace Go.Fz
open Go.Proofs
set_option maxRecDepth 100000
def mnN (lo hi : Nat → Int) : Nat → Int
  | 0 => 1
  | i + 1 => minI 3000 (mul64 (mnN lo hi i) (size64 (lo i) (hi i)))
theorem size64_in {lo hi : Int} (h1 : 0 ≤ lo) (h2 : lo ≤ hi) (h3 : hi ≤ 5000) : size64 lo hi = hi - lo + 1 := by
  unfold size64
  rw [sub64_in _ _ (by omega) (by omega), add64_in _ _ (by omega) (by omega)]
theorem mn_pr (lo hi : Nat → Int) (M : Nat) (hr : ∀ i, i < M → 0 ≤ lo i ∧ lo i ≤ hi i ∧ hi i ≤ 5000) : ∀ i, i ≤ M → (1 ≤ mnN lo hi i ∧ mnN lo hi i ≤ 3000) ∧ ((∀ j, j < i → prN lo hi (j + 1) ≤ 2000) → prN lo hi i = mnN lo hi i ∧ mnN lo hi i ≤ 2000) ∧ ((∃ j, j < i ∧ 2000 < prN lo hi (j + 1)) → 2000 < mnN lo hi i)
  | 0, _ => ⟨⟨by simp [mnN], by simp [mnN]⟩, fun _ => ⟨rfl, by simp [mnN]⟩, fun ⟨j, hj, _⟩ => absurd hj (Nat.not_lt_zero j)⟩
  | i + 1, hi' => by
    obtain ⟨⟨a1, a2⟩, ih1, ih2⟩ := mn_pr lo hi M hr i (by omega)
    obtain ⟨r1, r2, r3⟩ := hr i (by omega)
    have hs := size64_in r1 r2 r3
    obtain ⟨s, hsd⟩ : ∃ s, s = size64 (lo i) (hi i) := ⟨_, rfl⟩
    have hs1 : 1 ≤ s := by omega
    have hs2 : s ≤ 5001 := by omega
    have em : mnN lo hi (i + 1) = minI 3000 (mul64 (mnN lo hi i) s) := by rw [hsd]; rfl
    have ep : prN lo hi (i + 1) = mul64 (prN lo hi i) s := by rw [hsd]; rfl
    have b1 : mnN lo hi i ≤ mnN lo hi i * s := by
      have := Int.mul_le_mul_of_nonneg_left hs1 (show 0 ≤ mnN lo hi i by omega)
      omega
    have b2 : mnN lo hi i * s ≤ 3000 * 5001 := Int.mul_le_mul a2 hs2 (by omega) (by omega)
    have em2 : mul64 (mnN lo hi i) s = mnN lo hi i * s := mul64_in _ _ (by omega) (by omega)
    have emin : mnN lo hi (i + 1) = if mnN lo hi i * s < 3000 then mnN lo hi i * s else 3000 := by rw [em, em2]; rfl
    refine ⟨by rw [emin]; split <;> omega, fun hall => ?_, fun ⟨j, hj, hjp⟩ => ?_⟩
    · obtain ⟨e1, e2⟩ := ih1 fun j hj => hall j (by omega)
      have hl := hall i (by omega)
      rw [ep, e1, em2] at hl
      rw [ep, e1, em2, emin]
      split <;> omega
    · by_cases hex : ∃ j, j < i ∧ 2000 < prN lo hi (j + 1)
      · have := ih2 hex
        rw [emin]; split <;> omega
      · have hall : ∀ j, j < i → prN lo hi (j + 1) ≤ 2000 := fun j hj => by
          rcases Int.lt_or_le 2000 (prN lo hi (j + 1)) with h | h
          · exact absurd ⟨j, hj, h⟩ hex
          · exact h
        obtain ⟨e1, e2⟩ := ih1 hall
        have : j = i := by
          rcases Nat.lt_succ_iff_lt_or_eq.1 hj with h | h
          · exact absurd ⟨j, h, hjp⟩ hex
          · exact h
        subst this
        rw [ep, e1, em2] at hjp
        rw [emin]; split <;> omega
theorem manyW_mn (d : DayD) : ∀ i, i ≤ d.nw → d.manyW i = mnN d.ulo d.uhi i
  | 0, _ => rfl
  | i + 1, h => by
    have : i < d.nw := by omega
    show minI 3000 (mul64 (d.manyW i) (size64 (d.wlo i) (d.whi i))) = minI 3000 (mul64 (mnN d.ulo d.uhi i) (size64 (d.ulo i) (d.uhi i)))
    rw [manyW_mn d i (by omega)]
    simp only [DayD.ulo, DayD.uhi, this, if_true]
theorem manyL_mn (d : DayD) : ∀ j, d.manyL j = mnN d.ulo d.uhi (d.nw + j)
  | 0 => manyW_mn d d.nw (Nat.le_refl _)
  | j + 1 => by
    have : ¬ d.nw + j < d.nw := by omega
    show minI 3000 (mul64 (d.manyL j) (size64 (d.llo j) (d.lhi j))) = minI 3000 (mul64 (mnN d.ulo d.uhi (d.nw + j)) (size64 (d.ulo (d.nw + j)) (d.uhi (d.nw + j))))
    rw [manyL_mn d j]
    simp only [DayD.ulo, DayD.uhi, this, if_false, Nat.add_sub_cancel_left]
theorem lot_eq (d : DayD) (i : Nat) : d.lotOk i = d.lotN i := by
  have : d.hasW (d.lw i) = inB (d.lw i) 0 ((d.nw : Int) - 1) := by
    rw [Bool.eq_iff_iff]; simp only [DayD.hasW, inB, Bool.and_eq_true, decide_eq_true_eq]; omega
  unfold DayD.lotOk DayD.lotN
  rw [this]
theorem cnt_eq (d : DayD) (h : 0 < d.nw) (i : Nat) : d.cntOk i = d.cntN i := by
  unfold DayD.cntOk DayD.cntN
  generalize withinB (d.clo i) (d.chi i) 0 20000 = w
  cases w
  · simp
  · rw [Bool.eq_iff_iff]
    simp only [DayD.hasW, inB, Bool.and_eq_true, Bool.or_eq_true, decide_eq_true_eq, Bool.and_true, Bool.true_and, and_true, true_and]
    by_cases hk : 1 < d.ck i
    · simp only [hk, if_true, decide_eq_true_eq]; omega
    · simp only [hk, if_false, Bool.and_eq_true, decide_eq_true_eq]; omega
theorem valid_eq (d : DayD) : d.validB = d.validN := by
  unfold DayD.validB DayD.validN
  by_cases h : 0 < d.nw
  · rw [show allN d.nl d.lotOk = allN d.nl d.lotN from allN_congr fun i _ => lot_eq d i, show allN d.nc d.cntOk = allN d.nc d.cntN from allN_congr fun i _ => cnt_eq d h i]
    rfl
  · simp [h]
theorem check_eq (d : DayD) : d.check = d.faultN := by
  unfold DayD.check DayD.faultN
  rw [← valid_eq]
  by_cases h1 : d.long = true
  · rw [if_pos h1, if_pos h1]
  · rw [if_neg h1, if_neg h1]
    by_cases h2 : d.validB = true
    · rw [if_pos h2, if_pos h2]
      have g := good_of_valid (by simpa using h1) h2
      have hr : ∀ i, i < d.nw + d.nl → 0 ≤ d.ulo i ∧ d.ulo i ≤ d.uhi i ∧ d.uhi i ≤ 5000 := fun i hi => by
        unfold DayD.ulo DayD.uhi
        by_cases hc : i < d.nw
        · have := g.wom i hc
          simp only [hc, if_true]; omega
        · have := g.lot (i - d.nw) (by omega)
          simp only [hc, if_false]; omega
      obtain ⟨_, m1, m2⟩ := mn_pr d.ulo d.uhi (d.nw + d.nl) hr (d.nw + d.nl) (Nat.le_refl _)
      rw [manyL_mn]
      by_cases hall : ∀ j, j < d.nw + d.nl → prN d.ulo d.uhi (j + 1) ≤ 2000
      · have hb : manyB d.ulo d.uhi (d.nw + d.nl) = false := by
          unfold manyB; rw [allN_true fun j hj => by simpa using hall j hj]; rfl
        obtain ⟨_, e2⟩ := m1 hall
        rw [hb, if_neg (by simp), if_neg (by omega)]
      · have hex : ∃ j, j < d.nw + d.nl ∧ 2000 < prN d.ulo d.uhi (j + 1) := by
          apply Classical.byContradiction
          intro hn
          refine hall fun j hj => ?_
          rcases Int.lt_or_le 2000 (prN d.ulo d.uhi (j + 1)) with h | h
          · exact absurd ⟨j, hj, h⟩ hn
          · exact h
        have hb : manyB d.ulo d.uhi (d.nw + d.nl) = true := by
          obtain ⟨j, hj, hp⟩ := hex
          unfold manyB; rw [allN_false (i := j) hj (by simpa using hp)]; rfl
        rw [hb, if_pos rfl, if_pos (m2 hex)]
    · rw [if_neg h2, if_neg h2]
end Go.Fz
namespace Go.Fz
open Go.Proofs
set_option maxRecDepth 100000
def DayD.thinB (d : DayD) : Bool := decide (d.nw ≤ 6) && decide (d.nl ≤ 6) && decide (d.nc ≤ 7) && (decide (d.faultN ≠ 0) || decide (d.manyL d.nl ≤ 200))
set_option maxHeartbeats 4000000 in
theorem thin_ok (d : DayD) : Pure Try.prog 7 [dayV d] (.sb d.thinB) := by
  obtain ⟨O, hO⟩ : ∃ O : Ar, O = std := ⟨_, rfl⟩
  refine pure_of_body tok 3 Try.func7 en7 rfl ⟨dayV_below d, trivial⟩ Below.sb ?_
  refine SW.seqRun tok hO (by cbv <;> rfl) (by trivial) ?_
  refine SW.seqRun tok hO (by cbv <;> rfl) (by trivial) ?_
  refine OpsW.splitG (by cbv <;> rfl) (fun h1 => ?_) (fun h1 => ?_) <;> refine OpsW.run tok hO (by cbv <;> rfl) (by trivial) ?_
  rotate_left
  · have : ¬ (d.nw : Int) ≤ 6 := by subst hO; simpa [std] using h1
    refine SW.ret ⟨_, _, rfl, rfl, Eqv.bool ?_⟩
    have : ¬ d.nw ≤ 6 := by omega
    simp [DayD.thinB, this]
  have k1' : (d.nw : Int) ≤ 6 := by subst hO; simpa [std] using h1
  have k1 : d.nw ≤ 6 := by omega
  refine OpsW.splitG (by cbv <;> rfl) (fun h2 => ?_) (fun h2 => ?_) <;> refine OpsW.run tok hO (by cbv <;> rfl) (by trivial) ?_
  rotate_left
  · have : ¬ (d.nl : Int) ≤ 6 := by subst hO; simpa [std] using h2
    refine SW.ret ⟨_, _, rfl, rfl, Eqv.bool ?_⟩
    have : ¬ d.nl ≤ 6 := by omega
    simp [DayD.thinB, this]
  have k2' : (d.nl : Int) ≤ 6 := by subst hO; simpa [std] using h2
  have k2 : d.nl ≤ 6 := by omega
  refine OpsW.splitG (by cbv <;> rfl) (fun h3 => ?_) (fun h3 => ?_) <;> refine OpsW.run tok hO (by cbv <;> rfl) (by trivial) ?_
  rotate_left
  · have : ¬ (d.nc : Int) ≤ 7 := by subst hO; simpa [std] using h3
    refine SW.ret ⟨_, _, rfl, rfl, Eqv.bool ?_⟩
    have : ¬ d.nc ≤ 7 := by omega
    simp [DayD.thinB, this]
  have k3' : (d.nc : Int) ≤ 7 := by subst hO; simpa [std] using h3
  have k3 : d.nc ≤ 7 := by omega
  have hs : d.small := ⟨by omega, by omega, by omega⟩
  refine OpsW.callI (fault_ok d hs) (by cbv <;> rfl) fun e he => ?_
  refine OpsW.run tok hO (by cbv <;> rfl) (by trivial) ?_
  refine OpsW.splitG (by cbv <;> rfl) (fun h4 => ?_) (fun h4 => ?_) <;> refine OpsW.run tok hO (by cbv <;> rfl) (by trivial) ?_
  · have : d.faultN ≠ 0 := by subst hO; rw [← he]; simpa [std] using h4
    refine SW.ret ⟨_, _, rfl, rfl, Eqv.bool ?_⟩
    simp [DayD.thinB, this, k1, k2, k3]
  · have h5 : ¬ d.faultN ≠ 0 := by subst hO; rw [← he]; simpa [std] using h4
    refine OpsW.callI (many_ok d hs) (by cbv <;> rfl) fun m hm => ?_
    refine OpsW.run tok hO (by cbv <;> rfl) (by trivial) ?_
    refine SW.ret ⟨_, _, rfl, rfl, Eqv.sb ?_⟩
    subst hO
    simp [DayD.thinB, k1, k2, k3, h5, std, ← hm]
end Go.Fz
namespace Go.Fz
open Go.Proofs
set_option maxRecDepth 100000
def DayD.readyB (d : DayD) : Bool := d.thinB && decide (d.faultN = 0)
theorem thin_small {d : DayD} (h : d.thinB = true) : d.nw ≤ 6 ∧ d.nl ≤ 6 ∧ d.nc ≤ 7 := by
  simp only [DayD.thinB, Bool.and_eq_true, decide_eq_true_eq] at h; exact ⟨h.1.1.1, h.1.1.2, h.1.2⟩
theorem ready_ok (d : DayD) : Pure Try.prog 27 [dayV d] (.sb d.readyB) := by
  obtain ⟨O, hO⟩ : ∃ O : Ar, O = std := ⟨_, rfl⟩
  have call := thin_ok d
  have hr : d.readyB = (d.thinB && decide (d.faultN = 0)) := rfl
  have hsm : d.thinB = true → d.small := fun h => by have := thin_small h; exact ⟨by omega, by omega, by omega⟩
  generalize d.thinB = b at call hr hsm
  rw [hr]
  refine pure_of_body tok 3 Try.func27 en27 rfl ⟨dayV_below d, trivial⟩ Below.sb ?_
  refine SW.seqRun tok hO (by cbv <;> rfl) (by trivial) ?_
  refine SW.seqRun tok hO (by cbv <;> rfl) (by trivial) ?_
  refine OpsW.callP call (by cbv <;> rfl) ?_
  refine OpsW.run tok hO (by cbv <;> rfl) (by trivial) ?_
  refine OpsW.splitG (by cbv <;> rfl) (fun h1 => ?_) (fun h1 => ?_) <;> refine OpsW.run tok hO (by cbv <;> rfl) (by trivial) ?_
  · subst h1
    refine OpsW.callI (fault_ok d (hsm rfl)) (by cbv <;> rfl) fun e he => ?_
    refine OpsW.run tok hO (by cbv <;> rfl) (by trivial) ?_
    refine SW.ret ⟨_, _, rfl, rfl, Eqv.sb ?_⟩
    rw [← he]; subst hO; simp [std]; rfl
  · subst h1
    exact SW.ret ⟨_, _, rfl, rfl, Eqv.bool rfl⟩
theorem ready_good {d : DayD} (h : d.readyB = true) : d.Good ∧ d.manyL d.nl ≤ 200 := by
  simp only [DayD.readyB, Bool.and_eq_true, decide_eq_true_eq] at h
  obtain ⟨h1, h2⟩ := h
  refine ⟨good_of_check ((check_eq d).trans h2), ?_⟩
  simp only [DayD.thinB, Bool.and_eq_true, Bool.or_eq_true, decide_eq_true_eq] at h1
  rcases h1.2 with h | h
  · exact absurd h2 h
  · exact h
end Go.Fz
namespace Go.Fz
open Go.Proofs
set_option maxRecDepth 100000
def DayD.qW (d : DayD) (N : Int) : Nat → Int
  | 0 => N
  | s + 1 => quo64 (d.qW N s) (size64 (d.wlo s) (d.whi s))
def DayD.qL (d : DayD) (N : Int) : Nat → Int
  | 0 => d.qW N d.nw
  | s + 1 => quo64 (d.qL N s) (size64 (d.llo s) (d.lhi s))
def DayD.feN (d : DayD) (N : Int) (s : Nat) : Int := add64 (d.wlo s) ((d.qW N s).tmod (size64 (d.wlo s) (d.whi s)))
def DayD.stN (d : DayD) (N : Int) (s : Nat) : Int := add64 (d.llo s) ((d.qL N s).tmod (size64 (d.llo s) (d.lhi s)))
def DayD.nthT (d : DayD) (N : Int) : TruD := ⟨d.nw, false, d.feN N, d.nl, false, d.stN N⟩
def tru0 : List AV := [nl3, nl3]
theorem tru0_below : ∀ a ∈ tru0, Below 0 a := AllB.ok ⟨Below.lit, Below.lit, trivial⟩
def nthS (d : DayD) (A B : AV) (H : Hp) (n : Nat) : St := ⟨[(2, .cells none false [A, B]), (1, .cells none false tru0), (0, .cells none false (dayC d))] ++ H, n⟩
def midN (mk : AV → St) (a : AV) (q : Int) (e : Exit) (fm : Fm) (st : St) : Prop :=
  e = .normal ∧ ∃ g X, fm = ⟨⟨68, g⟩, []⟩ ∧ g 1 = iV q ∧ g 2 = .ptr 0 0 ∧ g 4 = .ptr 1 0 ∧ g 5 = .ptr 2 0 ∧ Eqv X a ∧ (X = nl3 ∨ ∃ len sz h, X = .isl len sz false h) ∧ st = mk X
set_option maxHeartbeats 8000000 in
theorem nth_ok (d : DayD) (g0 : d.Good) (N : Int) : Pure Try.prog 28 [dayV d, iV N] (truV (d.nthT N)) := by
  obtain ⟨O, hO⟩ : ∃ O : Ar, O = std := ⟨_, rfl⟩
  have hnat : ∀ i : Nat, O.nat (Int.ofNat i) = i := fun i => by subst hO; rfl
  have hnw := g0.nw
  have hnl := g0.nl
  refine pure_of_body tok 3 Try.func28 en28 rfl ⟨dayV_below d, iV_below, trivial⟩ (truV_below _) ?_
  refine SW.seqRun tok hO (by cbv <;> rfl) (by trivial) ?_
  refine SW.seqRun tok hO (by cbv <;> rfl) (by trivial) ?_
  refine SW.seq (SW.mono (Q := midN (fun X => nthS d (X) nl3 [] 4) (intsV d.nw false (d.feN N)) (d.qW N d.nw)) ?_ ?_)
  · refine SW.seqRun tok hO (by cbv <;> rfl) (by trivial) ?_
    refine (SW.block (SW.loopR (fun i : Nat => ⟨⟨68, getT [(1, iV (d.qW N i)), (2, .ptr 0 0), (4, .ptr 1 0), (5, .ptr 2 0), (6, iV i)]⟩, []⟩) (fun i => nthS d (slG 3 1 i) nl3 (objG 3 1 (intC (d.feN N)) i) 4) (fun i => d.nw - i) (fun i => i ≤ d.nw) 0 (Nat.zero_le _) (ren1 3 3) ?_ fun i hi => ?_))
    · exact WeakR.up rfl rfl (by simp) (Nat.le_refl _) (.inl rfl) (by show 3 ≤ 4; omega) ⟨RenV.closed Below.lit, RenV.ptr (by omega), RenV.ptr (by omega), RenV.ptr (by omega), RenV.closed Below.lit, trivial⟩ ⟨⟨by omega, _, rfl, .cells (.cons (RenV.closed Below.lit) (.cons (RenV.closed Below.lit) .nil)), .inr rfl⟩, ⟨by omega, _, rfl, .cells (RenVs.closed tru0_below), .inr rfl⟩, ⟨by omega, _, rfl, .cells (RenVs.closed (dayC_below d)), .inr rfl⟩, trivial⟩ (fun p hp => by cases hp)
    generalize hQ : d.qW N i = q
    cases i with
    | zero =>
      refine SW.seq ?_
      refine SW.seqRun tok hO (by cbv <;> rfl) (by trivial) ?_
      refine SW.condS (by cbv <;> rfl) (fun h => SW.skip ?_) (fun h => ?_)
      · have hlt : 0 < d.nw := by subst hO; simpa [std] using h
        have h0 : (0 : Int) ≤ Int.ofNat (0) := Int.natCast_nonneg _
        obtain ⟨hs0, hs1, hs2⟩ := g0.wom (0) hlt
        have hsz := size64_in (lo := d.wlo (0)) (hi := d.whi (0)) (by omega) hs1 (by omega)
        have hne : size64 (d.wlo (0)) (d.whi (0)) ≠ 0 := by rw [hsz]; omega
        have call := size61_ok (d.wlo (0)) (d.whi (0))
        have e1 : quo64 q (size64 (d.wlo (0)) (d.whi (0))) = d.qW N (1) := by rw [← hQ]; rfl
        have e2 : add64 (d.wlo (0)) (q.tmod (size64 (d.wlo (0)) (d.whi (0)))) = d.feN N (0) := by rw [← hQ]; rfl
        generalize size64 (d.wlo (0)) (d.whi (0)) = z at call hne e1 e2
        rw [← hnat (0)] at call
        refine SW.seq (SW.block ?_)
        refine SW.seqRun tok hO (by cbv <;> rfl) ?_ ?_
        · exact ⟨h0, Int.ofNat_lt.2 hlt⟩
        refine SW.runD tok mixed hO (by rfl) (by cbv <;> rfl) (by trivial) ?_
        refine AnyE.callP call (by cbv <;> rfl) (by cbv <;> rfl) ?_
        refine AnyE.run tok hO (by rfl) (by cbv <;> rfl) ?_ ?_
        · exact hne
        refine AnyE.effK tok hO (by cbv <;> rfl) (by cbv <;> rfl) (by trivial) ?_ ?_
        · exact (by repeat (first | exact trivial | refine And.intro (by first | exact lv_of hO (by cbv <;> rfl) (by trivial) | (refine lv_of hO (by cbv <;> rfl) ?_; exact hne)) ?_))
        refine AnyE.appNilK tok (by cbv <;> rfl) (by cbv <;> rfl) (by rfl) (by kernel_rfl) (by rfl) (by rfl) ?_ ?_
        · exact (by repeat (first | exact trivial | refine And.intro (by first | exact lv_of hO (by cbv <;> rfl) (by trivial) | (refine lv_of hO (by cbv <;> rfl) ?_; exact hne)) ?_))
        refine AnyE.run tok hO (by rfl) (by cbv <;> rfl) (by trivial) ?_
        refine AnyE.callP call (by cbv <;> rfl) (by cbv <;> rfl) ?_
        refine AnyE.run tok hO (by rfl) (by cbv <;> rfl) ?_ ?_
        · exact hne
        refine AnyE.effK tok hO (by cbv <;> rfl) (by cbv <;> rfl) (by trivial) ?_ ?_
        · exact (by repeat (first | exact trivial | refine And.intro (by first | exact lv_of hO (by cbv <;> rfl) (by trivial) | (refine lv_of hO (by cbv <;> rfl) ?_; exact hne)) ?_))
        refine AnyE.run tok hO (by rfl) (by cbv <;> rfl) (by trivial) ?_
        first
          | refine AnyE.done (by rfl) ?_
          | (refine AnyE.effK tok hO (by cbv <;> rfl) (by cbv <;> rfl) (by trivial) ?_ ?_
             · exact (by repeat (first | exact trivial | refine And.intro (by first | exact lv_of hO (by cbv <;> rfl) (by trivial) | (refine lv_of hO (by cbv <;> rfl) ?_; exact hne)) ?_))
             refine AnyE.done (by rfl) ?_)
        refine SW.run tok hO (by cbv <;> rfl) (by trivial) ?_
        refine ⟨1, by omega, by omega, ren1 3 6, ?_⟩
        have e3 : O.bin .quo .i64 q z = d.qW N (1) := by rw [← e1]; subst hO; rfl
        have e4 : O.bin .add .i64 (d.wlo (O.nat (Int.ofNat (0)))) (O.bin .rem .i64 q z) = d.feN N (0) := by rw [← e2, hnat]; subst hO; rfl
        refine WeakR.up rfl rfl (by simp) (Nat.le_refl _) (.inr (by omega)) (by show 3 ≤ 4; omega) ⟨?_, RenV.ptr (by omega), RenV.ptr (by omega), RenV.ptr (by omega), RenV.inc hO (by omega), trivial⟩ ⟨⟨by omega, _, rfl, .cells (.cons (RenV.sl (by omega)) (.cons (RenV.closed Below.lit) .nil)), .inr rfl⟩, ⟨by omega, _, rfl, .cells (RenVs.closed tru0_below), .inr rfl⟩, ⟨by omega, _, rfl, .cells (RenVs.closed (dayC_below d)), .inr rfl⟩, trivial⟩ (fun p hp => ?_)
        · show RenV _ _ (iV (d.qW N (1))) (iV (O.bin .quo .i64 q z))
          rw [e3]; exact RenV.closed Below.lit
        obtain rfl := objG_mem hp
        exact ⟨by omega, _, rfl, .cells (RenVs.of_eq (congrArg (fun v => [iV v]) e4) (flatG_below (intC_below (d.feN N)) 1)), .inl rfl⟩
      · have hz : d.nw = 0 := by
          have : d.nw ≤ 0 := by subst hO; simpa [std] using h
          omega
        refine SW.exit ⟨rfl, _, nl3, rfl, by show iV q = _; rw [hz, ← hQ], rfl, rfl, rfl, ?_, .inl rfl, rfl⟩
        show Eqv nl3 (.isl d.nw 1 false (intC (d.feN N)))
        rw [hz]; exact Eqv.nil
    | succ i =>
      obtain ⟨G, hG⟩ : ∃ G, G = flatG 1 (intC (d.feN N)) (i + 1) := ⟨_, rfl⟩
      have hGo : objG 3 1 (intC (d.feN N)) (i + 1) = [(3, .cells none false G)] := by rw [hG]; rfl
      show SW _ _ _ _ _ (nthS d (.sl 3 0 (i + 1) 1 false) nl3 (objG 3 1 (intC (d.feN N)) (i + 1)) 4)
      rw [hGo]
      refine SW.seq ?_
      refine SW.seqRun tok hO (by cbv <;> rfl) (by trivial) ?_
      refine SW.condS (by cbv <;> rfl) (fun h => SW.skip ?_) (fun h => ?_)
      · have hlt : i + 1 < d.nw := by
          have : ((i + 1 : Nat) : Int) < (d.nw : Int) := by subst hO; simpa [std] using h
          omega
        have h0 : (0 : Int) ≤ Int.ofNat (i + 1) := Int.natCast_nonneg _
        obtain ⟨hs0, hs1, hs2⟩ := g0.wom (i + 1) hlt
        have hsz := size64_in (lo := d.wlo (i + 1)) (hi := d.whi (i + 1)) (by omega) hs1 (by omega)
        have hne : size64 (d.wlo (i + 1)) (d.whi (i + 1)) ≠ 0 := by rw [hsz]; omega
        have call := size61_ok (d.wlo (i + 1)) (d.whi (i + 1))
        have e1 : quo64 q (size64 (d.wlo (i + 1)) (d.whi (i + 1))) = d.qW N (i + 1 + 1) := by rw [← hQ]; rfl
        have e2 : add64 (d.wlo (i + 1)) (q.tmod (size64 (d.wlo (i + 1)) (d.whi (i + 1)))) = d.feN N (i + 1) := by rw [← hQ]; rfl
        generalize size64 (d.wlo (i + 1)) (d.whi (i + 1)) = z at call hne e1 e2
        rw [← hnat (i + 1)] at call
        refine SW.seq (SW.block ?_)
        refine SW.seqRun tok hO (by cbv <;> rfl) ?_ ?_
        · exact ⟨h0, Int.ofNat_lt.2 hlt⟩
        refine SW.runD tok mixed hO (by rfl) (by cbv <;> rfl) (by trivial) ?_
        refine AnyE.callP call (by cbv <;> rfl) (by cbv <;> rfl) ?_
        refine AnyE.run tok hO (by rfl) (by cbv <;> rfl) ?_ ?_
        · exact hne
        refine AnyE.effK tok hO (by cbv <;> rfl) (by cbv <;> rfl) (by trivial) ?_ ?_
        · exact (by repeat (first | exact trivial | refine And.intro (by first | exact lv_of hO (by cbv <;> rfl) (by trivial) | (refine lv_of hO (by cbv <;> rfl) ?_; exact hne)) ?_))
        refine AnyE.appOneK (g := intC (d.feN N)) tok (by cbv <;> rfl) (by cbv <;> rfl) (by rfl) (by rfl) hG (by kernel_rfl) (by rfl) (by rfl) (by omega) fun G' hG' => ⟨?_, ?_⟩
        · exact (by repeat (first | exact trivial | refine And.intro (by first | exact lv_of hO (by cbv <;> rfl) (by trivial) | (refine lv_of hO (by cbv <;> rfl) ?_; exact hne)) ?_))
        refine AnyE.run tok hO (by rfl) (by cbv <;> rfl) (by trivial) ?_
        refine AnyE.callP call (by cbv <;> rfl) (by cbv <;> rfl) ?_
        refine AnyE.run tok hO (by rfl) (by cbv <;> rfl) ?_ ?_
        · exact hne
        refine AnyE.effK tok hO (by cbv <;> rfl) (by cbv <;> rfl) (by trivial) ?_ ?_
        · exact (by repeat (first | exact trivial | refine And.intro (by first | exact lv_of hO (by cbv <;> rfl) (by trivial) | (refine lv_of hO (by cbv <;> rfl) ?_; exact hne)) ?_))
        refine AnyE.run tok hO (by rfl) (by cbv <;> rfl) (by trivial) ?_
        first
          | refine AnyE.done (by rfl) ?_
          | (refine AnyE.effK tok hO (by cbv <;> rfl) (by cbv <;> rfl) (by trivial) ?_ ?_
             · exact (by repeat (first | exact trivial | refine And.intro (by first | exact lv_of hO (by cbv <;> rfl) (by trivial) | (refine lv_of hO (by cbv <;> rfl) ?_; exact hne)) ?_))
             refine AnyE.done (by rfl) ?_)
        refine SW.run tok hO (by cbv <;> rfl) (by trivial) ?_
        refine ⟨i + 1 + 1, by omega, by omega, ren1 3 6, ?_⟩
        have e3 : O.bin .quo .i64 q z = d.qW N (i + 1 + 1) := by rw [← e1]; subst hO; rfl
        have e4 : O.bin .add .i64 (d.wlo (O.nat (Int.ofNat (i + 1)))) (O.bin .rem .i64 q z) = d.feN N (i + 1) := by rw [← e2, hnat]; subst hO; rfl
        refine WeakR.up rfl rfl (by simp) (Nat.le_refl _) (.inr (by omega)) (by show 3 ≤ 4; omega) ⟨?_, RenV.ptr (by omega), RenV.ptr (by omega), RenV.ptr (by omega), RenV.inc hO (by omega), trivial⟩ ⟨⟨by omega, _, rfl, .cells (.cons (RenV.sl (by omega)) (.cons (RenV.closed Below.lit) .nil)), .inr rfl⟩, ⟨by omega, _, rfl, .cells (RenVs.closed tru0_below), .inr rfl⟩, ⟨by omega, _, rfl, .cells (RenVs.closed (dayC_below d)), .inr rfl⟩, trivial⟩ (fun p hp => ?_)
        · show RenV _ _ (iV (d.qW N (i + 1 + 1))) (iV (O.bin .quo .i64 q z))
          rw [e3]; exact RenV.closed Below.lit
        obtain rfl := objG_mem hp
        exact ⟨by omega, _, rfl, .cells (RenVs.of_eq (hG'.trans (flatG_snoc (d.feN N) (i + 1) _ e4)) (flatG_below (intC_below (d.feN N)) (i + 1 + 1))), .inl rfl⟩
      · have hz : d.nw = i + 1 := by
          have : (d.nw : Int) ≤ ((i + 1 : Nat) : Int) := by subst hO; simpa [std] using h
          omega
        have hlG : (i + 1) * 1 ≤ G.length := by rw [hG, flatG_length]; omega
        refine SW.freezeZ (fun j => Nat.beq j 3) 3 (by rfl) (SW.exit ⟨rfl, _, _, rfl, by show iV q = _; rw [hz, ← hQ], rfl, rfl, rfl, ?_, ?_, rfl⟩)
        rotate_left
        · exact .inr ⟨_, _, _, frz_slE (fm := none) (G := G) rfl rfl hlG⟩
        show Eqv (frz _ _ 3 (.sl 3 0 (i + 1) 1 false)) (.isl d.nw 1 false (intC (d.feN N)))
        rw [hz, frz_slE (fm := none) (G := G) rfl rfl hlG, hG]
        exact Eqv.isl rfl fun i' k hi' hk => Eqv.of (frz_flat hi' hk rfl)
  rintro e fm st ⟨rfl, g, A, rfl, g1, g2, g4, g5, hA, _, rfl⟩
  refine SW.seq (SW.mono (Q := midN (fun X => nthS d (intsV d.nw false (d.feN N)) (X) [] 5) (intsV d.nl false (d.stN N)) (d.qL N d.nl)) ?_ ?_)
  · refine SW.seqRun tok hO (by cbv <;> rfl) (by trivial) ?_
    refine (SW.block (SW.loopR (fun i : Nat => ⟨⟨68, getT [(1, iV (d.qL N i)), (2, .ptr 0 0), (4, .ptr 1 0), (5, .ptr 2 0), (8, iV i)]⟩, []⟩) (fun i => nthS d (intsV d.nw false (d.feN N)) (slG 4 1 i) (objG 4 1 (intC (d.stN N)) i) 5) (fun i => d.nl - i) (fun i => i ≤ d.nl) 0 (Nat.zero_le _) (ren1 4 4) ?_ fun i hi => ?_))
    · refine WeakR.up rfl rfl (by simp) (Nat.le_refl _) (.inl rfl) (by show 4 ≤ 5; omega) ⟨?_, ?_, ?_, ?_, RenV.closed Below.lit, trivial⟩ ⟨⟨by omega, _, rfl, .cells (.cons (RenV.eqv (RenV.closed (intsV_below _ _ _)) hA) (.cons (RenV.closed Below.lit) .nil)), .inr rfl⟩, ⟨by omega, _, rfl, .cells (RenVs.closed tru0_below), .inr rfl⟩, ⟨by omega, _, rfl, .cells (RenVs.closed (dayC_below d)), .inr rfl⟩, trivial⟩ (fun p hp => by cases hp)
      · show RenV _ _ _ (g 1); rw [g1]; exact RenV.closed Below.lit
      · show RenV _ _ _ (g 2); rw [g2]; exact RenV.ptr (by omega)
      · show RenV _ _ _ (g 4); rw [g4]; exact RenV.ptr (by omega)
      · show RenV _ _ _ (g 5); rw [g5]; exact RenV.ptr (by omega)
    generalize hQ : d.qL N i = q
    cases i with
    | zero =>
      refine SW.seq ?_
      refine SW.seqRun tok hO (by cbv <;> rfl) (by trivial) ?_
      refine SW.condS (by cbv <;> rfl) (fun h => SW.skip ?_) (fun h => ?_)
      · have hlt : 0 < d.nl := by subst hO; simpa [std] using h
        have h0 : (0 : Int) ≤ Int.ofNat (0) := Int.natCast_nonneg _
        obtain ⟨hs0, hs1, hs2⟩ := (fun i hi => (g0.lot i hi).2) (0) hlt
        have hsz := size64_in (lo := d.llo (0)) (hi := d.lhi (0)) (by omega) hs1 (by omega)
        have hne : size64 (d.llo (0)) (d.lhi (0)) ≠ 0 := by rw [hsz]; omega
        have call := size61_ok (d.llo (0)) (d.lhi (0))
        have e1 : quo64 q (size64 (d.llo (0)) (d.lhi (0))) = d.qL N (1) := by rw [← hQ]; rfl
        have e2 : add64 (d.llo (0)) (q.tmod (size64 (d.llo (0)) (d.lhi (0)))) = d.stN N (0) := by rw [← hQ]; rfl
        generalize size64 (d.llo (0)) (d.lhi (0)) = z at call hne e1 e2
        rw [← hnat (0)] at call
        refine SW.seq (SW.block ?_)
        refine SW.seqRun tok hO (by cbv <;> rfl) ?_ ?_
        · exact ⟨h0, Int.ofNat_lt.2 hlt⟩
        refine SW.runD tok mixed hO (by rfl) (by cbv <;> rfl) (by trivial) ?_
        refine AnyE.callP call (by cbv <;> rfl) (by cbv <;> rfl) ?_
        refine AnyE.run tok hO (by rfl) (by cbv <;> rfl) ?_ ?_
        · exact hne
        refine AnyE.effK tok hO (by cbv <;> rfl) (by cbv <;> rfl) (by trivial) ?_ ?_
        · exact (by repeat (first | exact trivial | refine And.intro (by first | exact lv_of hO (by cbv <;> rfl) (by trivial) | (refine lv_of hO (by cbv <;> rfl) ?_; exact hne)) ?_))
        refine AnyE.appNilK tok (by cbv <;> rfl) (by cbv <;> rfl) (by rfl) (by kernel_rfl) (by rfl) (by rfl) ?_ ?_
        · exact (by repeat (first | exact trivial | refine And.intro (by first | exact lv_of hO (by cbv <;> rfl) (by trivial) | (refine lv_of hO (by cbv <;> rfl) ?_; exact hne)) ?_))
        refine AnyE.run tok hO (by rfl) (by cbv <;> rfl) (by trivial) ?_
        refine AnyE.callP call (by cbv <;> rfl) (by cbv <;> rfl) ?_
        refine AnyE.run tok hO (by rfl) (by cbv <;> rfl) ?_ ?_
        · exact hne
        refine AnyE.effK tok hO (by cbv <;> rfl) (by cbv <;> rfl) (by trivial) ?_ ?_
        · exact (by repeat (first | exact trivial | refine And.intro (by first | exact lv_of hO (by cbv <;> rfl) (by trivial) | (refine lv_of hO (by cbv <;> rfl) ?_; exact hne)) ?_))
        refine AnyE.run tok hO (by rfl) (by cbv <;> rfl) (by trivial) ?_
        first
          | refine AnyE.done (by rfl) ?_
          | (refine AnyE.effK tok hO (by cbv <;> rfl) (by cbv <;> rfl) (by trivial) ?_ ?_
             · exact (by repeat (first | exact trivial | refine And.intro (by first | exact lv_of hO (by cbv <;> rfl) (by trivial) | (refine lv_of hO (by cbv <;> rfl) ?_; exact hne)) ?_))
             refine AnyE.done (by rfl) ?_)
        refine SW.run tok hO (by cbv <;> rfl) (by trivial) ?_
        refine ⟨1, by omega, by omega, ren1 4 7, ?_⟩
        have e3 : O.bin .quo .i64 q z = d.qL N (1) := by rw [← e1]; subst hO; rfl
        have e4 : O.bin .add .i64 (d.llo (O.nat (Int.ofNat (0)))) (O.bin .rem .i64 q z) = d.stN N (0) := by rw [← e2, hnat]; subst hO; rfl
        refine WeakR.up rfl rfl (by simp) (Nat.le_refl _) (.inr (by omega)) (by show 4 ≤ 5; omega) ⟨?_, RenV.ptr (by omega), RenV.ptr (by omega), RenV.ptr (by omega), RenV.inc hO (by omega), trivial⟩ ⟨⟨by omega, _, rfl, .cells (.cons (RenV.closed (intsV_below _ _ _)) (.cons (RenV.sl (by omega)) .nil)), .inr rfl⟩, ⟨by omega, _, rfl, .cells (RenVs.closed tru0_below), .inr rfl⟩, ⟨by omega, _, rfl, .cells (RenVs.closed (dayC_below d)), .inr rfl⟩, trivial⟩ (fun p hp => ?_)
        · show RenV _ _ (iV (d.qL N (1))) (iV (O.bin .quo .i64 q z))
          rw [e3]; exact RenV.closed Below.lit
        obtain rfl := objG_mem hp
        exact ⟨by omega, _, rfl, .cells (RenVs.of_eq (congrArg (fun v => [iV v]) e4) (flatG_below (intC_below (d.stN N)) 1)), .inl rfl⟩
      · have hz : d.nl = 0 := by
          have : d.nl ≤ 0 := by subst hO; simpa [std] using h
          omega
        refine SW.exit ⟨rfl, _, nl3, rfl, by show iV q = _; rw [hz, ← hQ], rfl, rfl, rfl, ?_, .inl rfl, rfl⟩
        show Eqv nl3 (.isl d.nl 1 false (intC (d.stN N)))
        rw [hz]; exact Eqv.nil
    | succ i =>
      obtain ⟨G, hG⟩ : ∃ G, G = flatG 1 (intC (d.stN N)) (i + 1) := ⟨_, rfl⟩
      have hGo : objG 4 1 (intC (d.stN N)) (i + 1) = [(4, .cells none false G)] := by rw [hG]; rfl
      show SW _ _ _ _ _ (nthS d (intsV d.nw false (d.feN N)) (.sl 4 0 (i + 1) 1 false) (objG 4 1 (intC (d.stN N)) (i + 1)) 5)
      rw [hGo]
      refine SW.seq ?_
      refine SW.seqRun tok hO (by cbv <;> rfl) (by trivial) ?_
      refine SW.condS (by cbv <;> rfl) (fun h => SW.skip ?_) (fun h => ?_)
      · have hlt : i + 1 < d.nl := by
          have : ((i + 1 : Nat) : Int) < (d.nl : Int) := by subst hO; simpa [std] using h
          omega
        have h0 : (0 : Int) ≤ Int.ofNat (i + 1) := Int.natCast_nonneg _
        obtain ⟨hs0, hs1, hs2⟩ := (fun i hi => (g0.lot i hi).2) (i + 1) hlt
        have hsz := size64_in (lo := d.llo (i + 1)) (hi := d.lhi (i + 1)) (by omega) hs1 (by omega)
        have hne : size64 (d.llo (i + 1)) (d.lhi (i + 1)) ≠ 0 := by rw [hsz]; omega
        have call := size61_ok (d.llo (i + 1)) (d.lhi (i + 1))
        have e1 : quo64 q (size64 (d.llo (i + 1)) (d.lhi (i + 1))) = d.qL N (i + 1 + 1) := by rw [← hQ]; rfl
        have e2 : add64 (d.llo (i + 1)) (q.tmod (size64 (d.llo (i + 1)) (d.lhi (i + 1)))) = d.stN N (i + 1) := by rw [← hQ]; rfl
        generalize size64 (d.llo (i + 1)) (d.lhi (i + 1)) = z at call hne e1 e2
        rw [← hnat (i + 1)] at call
        refine SW.seq (SW.block ?_)
        refine SW.seqRun tok hO (by cbv <;> rfl) ?_ ?_
        · exact ⟨h0, Int.ofNat_lt.2 hlt⟩
        refine SW.runD tok mixed hO (by rfl) (by cbv <;> rfl) (by trivial) ?_
        refine AnyE.callP call (by cbv <;> rfl) (by cbv <;> rfl) ?_
        refine AnyE.run tok hO (by rfl) (by cbv <;> rfl) ?_ ?_
        · exact hne
        refine AnyE.effK tok hO (by cbv <;> rfl) (by cbv <;> rfl) (by trivial) ?_ ?_
        · exact (by repeat (first | exact trivial | refine And.intro (by first | exact lv_of hO (by cbv <;> rfl) (by trivial) | (refine lv_of hO (by cbv <;> rfl) ?_; exact hne)) ?_))
        refine AnyE.appOneK (g := intC (d.stN N)) tok (by cbv <;> rfl) (by cbv <;> rfl) (by rfl) (by rfl) hG (by kernel_rfl) (by rfl) (by rfl) (by omega) fun G' hG' => ⟨?_, ?_⟩
        · exact (by repeat (first | exact trivial | refine And.intro (by first | exact lv_of hO (by cbv <;> rfl) (by trivial) | (refine lv_of hO (by cbv <;> rfl) ?_; exact hne)) ?_))
        refine AnyE.run tok hO (by rfl) (by cbv <;> rfl) (by trivial) ?_
        refine AnyE.callP call (by cbv <;> rfl) (by cbv <;> rfl) ?_
        refine AnyE.run tok hO (by rfl) (by cbv <;> rfl) ?_ ?_
        · exact hne
        refine AnyE.effK tok hO (by cbv <;> rfl) (by cbv <;> rfl) (by trivial) ?_ ?_
        · exact (by repeat (first | exact trivial | refine And.intro (by first | exact lv_of hO (by cbv <;> rfl) (by trivial) | (refine lv_of hO (by cbv <;> rfl) ?_; exact hne)) ?_))
        refine AnyE.run tok hO (by rfl) (by cbv <;> rfl) (by trivial) ?_
        first
          | refine AnyE.done (by rfl) ?_
          | (refine AnyE.effK tok hO (by cbv <;> rfl) (by cbv <;> rfl) (by trivial) ?_ ?_
             · exact (by repeat (first | exact trivial | refine And.intro (by first | exact lv_of hO (by cbv <;> rfl) (by trivial) | (refine lv_of hO (by cbv <;> rfl) ?_; exact hne)) ?_))
             refine AnyE.done (by rfl) ?_)
        refine SW.run tok hO (by cbv <;> rfl) (by trivial) ?_
        refine ⟨i + 1 + 1, by omega, by omega, ren1 4 7, ?_⟩
        have e3 : O.bin .quo .i64 q z = d.qL N (i + 1 + 1) := by rw [← e1]; subst hO; rfl
        have e4 : O.bin .add .i64 (d.llo (O.nat (Int.ofNat (i + 1)))) (O.bin .rem .i64 q z) = d.stN N (i + 1) := by rw [← e2, hnat]; subst hO; rfl
        refine WeakR.up rfl rfl (by simp) (Nat.le_refl _) (.inr (by omega)) (by show 4 ≤ 5; omega) ⟨?_, RenV.ptr (by omega), RenV.ptr (by omega), RenV.ptr (by omega), RenV.inc hO (by omega), trivial⟩ ⟨⟨by omega, _, rfl, .cells (.cons (RenV.closed (intsV_below _ _ _)) (.cons (RenV.sl (by omega)) .nil)), .inr rfl⟩, ⟨by omega, _, rfl, .cells (RenVs.closed tru0_below), .inr rfl⟩, ⟨by omega, _, rfl, .cells (RenVs.closed (dayC_below d)), .inr rfl⟩, trivial⟩ (fun p hp => ?_)
        · show RenV _ _ (iV (d.qL N (i + 1 + 1))) (iV (O.bin .quo .i64 q z))
          rw [e3]; exact RenV.closed Below.lit
        obtain rfl := objG_mem hp
        exact ⟨by omega, _, rfl, .cells (RenVs.of_eq (hG'.trans (flatG_snoc (d.stN N) (i + 1) _ e4)) (flatG_below (intC_below (d.stN N)) (i + 1 + 1))), .inl rfl⟩
      · have hz : d.nl = i + 1 := by
          have : (d.nl : Int) ≤ ((i + 1 : Nat) : Int) := by subst hO; simpa [std] using h
          omega
        have hlG : (i + 1) * 1 ≤ G.length := by rw [hG, flatG_length]; omega
        refine SW.freezeZ (fun j => Nat.beq j 4) 3 (by rfl) (SW.exit ⟨rfl, _, _, rfl, by show iV q = _; rw [hz, ← hQ], rfl, rfl, rfl, ?_, ?_, rfl⟩)
        rotate_left
        · exact .inr ⟨_, _, _, frz_slE (fm := none) (G := G) rfl rfl hlG⟩
        show Eqv (frz _ _ 3 (.sl 4 0 (i + 1) 1 false)) (.isl d.nl 1 false (intC (d.stN N)))
        rw [hz, frz_slE (fm := none) (G := G) rfl rfl hlG, hG]
        exact Eqv.isl rfl fun i' k hi' hk => Eqv.of (frz_flat hi' hk rfl)
  rintro e fm st ⟨rfl, g, A, rfl, g1, g2, g4, g5, hA, hform, rfl⟩
  rw [← updT_self g4, ← updT_self g5]
  rcases hform with rfl | ⟨len, sz, h, rfl⟩
  · refine SW.seqRun tok hO (by cbv <;> rfl) (by trivial) ?_
    exact SW.ret ⟨_, _, rfl, rfl, Eqv.agg (.cons (Eqv.refl _) (.cons hA .nil))⟩
  · refine SW.seqRun tok hO (by cbv <;> rfl) (by trivial) ?_
    exact SW.ret ⟨_, _, rfl, rfl, Eqv.agg (.cons (Eqv.refl _) (.cons hA .nil))⟩
end Go.Fz
namespace Go.Fz
open Go.Proofs
set_option maxRecDepth 100000
end Go.Fz
namespace Go.Fz
open Go.Proofs
set_option maxRecDepth 100000
theorem mod_in {lo hi q : Int} (h0 : 0 ≤ lo) (h1 : lo ≤ hi) (h2 : hi ≤ 5000) (hq : 0 ≤ q) : lo ≤ add64 lo (q.tmod (size64 lo hi)) ∧ add64 lo (q.tmod (size64 lo hi)) ≤ hi := by
  have hs := size64_in h0 h1 h2
  obtain ⟨_, _, _, h4, h5⟩ := tdiv_nn hq (show 1 ≤ size64 lo hi by omega)
  rw [add64_in _ _ (by omega) (by omega)]
  omega
theorem quo_nn {a b : Int} (ha : 0 ≤ a) (ha2 : a ≤ 1000000000) (hb : 1 ≤ b) : 0 ≤ quo64 a b ∧ quo64 a b ≤ 1000000000 := by
  obtain ⟨h1, h2, _⟩ := tdiv_nn ha hb
  rw [quo64_nn ha ha2 hb]; omega
theorem qW_nn {d : DayD} (g : d.Good) {N : Int} (h0 : 0 ≤ N) (h1 : N ≤ 1000000000) : ∀ i, i ≤ d.nw → 0 ≤ d.qW N i ∧ d.qW N i ≤ 1000000000
  | 0, _ => ⟨h0, h1⟩
  | i + 1, h => by
    obtain ⟨a, b⟩ := qW_nn g h0 h1 i (by omega)
    have hw := g.wom i (by omega)
    have hs := size64_in (lo := d.wlo i) (hi := d.whi i) (by omega) (by omega) (by omega)
    exact quo_nn a b (by omega)
theorem qL_nn {d : DayD} (g : d.Good) {N : Int} (h0 : 0 ≤ N) (h1 : N ≤ 1000000000) : ∀ i, i ≤ d.nl → 0 ≤ d.qL N i ∧ d.qL N i ≤ 1000000000
  | 0, _ => qW_nn g h0 h1 d.nw (Nat.le_refl _)
  | i + 1, h => by
    obtain ⟨a, b⟩ := qL_nn g h0 h1 i (by omega)
    have hw := (g.lot i (by omega)).2
    have hs := size64_in (lo := d.llo i) (hi := d.lhi i) (by omega) (by omega) (by omega)
    exact quo_nn a b (by omega)
theorem nth_fits {d : DayD} (g : d.Good) {N : Int} (h0 : 0 ≤ N) (h1 : N ≤ 1000000000) : d.fits (d.nthT N) = true := by
  have e1 : ∀ i, i < d.nw → inB (d.feN N i) (d.wlo i) (d.whi i) = true := fun i hi => by
    have hw := g.wom i hi
    obtain ⟨a, b⟩ := mod_in (lo := d.wlo i) (hi := d.whi i) (by omega) (by omega) (by omega) (qW_nn g h0 h1 i (by omega)).1
    simp only [inB, Bool.and_eq_true, decide_eq_true_eq]
    exact ⟨a, b⟩
  have e2 : ∀ i, i < d.nl → inB (d.stN N i) (d.llo i) (d.lhi i) = true := fun i hi => by
    have hw := (g.lot i hi).2
    obtain ⟨a, b⟩ := mod_in (lo := d.llo i) (hi := d.lhi i) (by omega) (by omega) (by omega) (qL_nn g h0 h1 i (by omega)).1
    simp only [inB, Bool.and_eq_true, decide_eq_true_eq]
    exact ⟨a, b⟩
  show (decide (d.nw = d.nw) && decide (d.nl = d.nl) && allN d.nw (fun i => inB (d.feN N i) (d.wlo i) (d.whi i)) && allN d.nl (fun i => inB (d.stN N i) (d.llo i) (d.lhi i))) = true
  rw [allN_true e1, allN_true e2]; simp
end Go.Fz
namespace Go.Fz
open Go.Proofs
set_option maxRecDepth 100000
end Go.Fz
namespace Go.Fz
variable {P : Program} {T : Ti}
end Go.Fz
namespace Go.Fz
open Go.Proofs
set_option maxRecDepth 100000
section
variable {P : Program} {T : Ti}
def PickAll (P : Program) (T : Ti) (ops : Array Oper) (M : List Nat) (rd : Option Nat) (K : Fm → St → Prop) (fuel : Nat) (pend : List (Nat × AV)) (listed : Array Bool) (f : Fm) (st : St) : List Nat → Prop
  | [] => True
  | j :: r => PickE P T ops M rd K fuel pend listed f st j ∧ PickAll P T ops M rd K fuel pend listed f st r
theorem PickAll.ok {ops : Array Oper} {M : List Nat} {rd : Option Nat} {K : Fm → St → Prop} {fuel : Nat} {pend : List (Nat × AV)} {listed : Array Bool} {f : Fm} {st : St} : ∀ {l : List Nat}, PickAll P T ops M rd K fuel pend listed f st l → ∀ j ∈ l, PickE P T ops M rd K fuel pend listed f st j
  | [], _, j, h => by cases h
  | _ :: _, h, j, hj => by
    rcases List.mem_cons.1 hj with rfl | hj
    · exact h.1
    · exact h.2.ok j hj
theorem AnyE.many {ops : Array Oper} {M : List Nat} {rd : Option Nat} {K : Fm → St → Prop} {fuel : Nat} {pend : List (Nat × AV)} {listed : Array Bool} {f : Fm} {st : St} (rs : List Nat) (hr : Region.ready .any ops listed = rs) (hne : rs.isEmpty = false)
    (h : PickAll P T ops M rd K fuel pend listed f st rs) : AnyE P T ops M rd K (fuel + 1) pend listed f st := fun hc hpl hpo => by
  refine AnyD.all hpo hr (by intro e; rw [e] at hne; cases hne) fun k hk => ?_
  have hrm : k ∈ Region.ready .any ops listed := by rw [hr]; exact hk
  obtain ⟨o, pend', hj, hd, h⟩ := h.ok k hk
  refine ⟨o, hj, h.mono fun f' st' ⟨⟨v, hv⟩, hp, hE⟩ => ⟨v, hv, ?_⟩⟩
  rw [hd]
  exact hE (hc.set hrm) (fun p hp => by
    rw [← hd] at hp
    exact getD_set_true (hpl p (List.mem_filter.1 hp).1)) hp
theorem PickE.callQ {ops : Array Oper} {M : List Nat} {rd : Option Nat} {K : Fm → St → Prop} {fuel : Nat} {pend pend' : List (Nat × AV)} {listed : Array Bool} {f : Fm} {st : St} {j : Nat} {g : FuncId} {args : List AV} {r : AV} (hp : Pure P g args r)
    (hd : dropP M j pend = pend') (hc : callAt ops j f = some (g, args)) (hk : AllP (fun p => lightV T ops st.h (putAt ops j f r) p.1 = some p.2) pend') (h : AnyE P T ops M rd K fuel pend' (listed.setIfInBounds j true) (putAt ops j f r) st) : PickE P T ops M rd K fuel pend listed f st j := by
  obtain ⟨o', first, caps, az, ho', hw, hcc, ha, hput⟩ := callAt_ok hc
  subst ha
  rw [hput] at hk h
  exact ⟨o', pend', ho', hd, OpsW.pure hp ho' hw hcc (.nil ⟨⟨_, rfl⟩, (show PendOk T ops pend' (f.put o'.dst r) st.h from fun p hpm => LV.of (hk.ok p hpm)), h⟩)⟩
def tabR : List (Nat × Nat) → Nat → Nat
  | [], j => j
  | (a, b) :: r, j => match Nat.beq a j with
    | true => b
    | false => tabR r j
theorem tabR_id {n : Nat} : ∀ {l : List (Nat × Nat)}, (l.all fun p => Nat.ble n p.1) = true → ∀ j, j < n → tabR l j = j
  | [], _, _, _ => rfl
  | (a, b) :: r, h, j, hj => by
    simp only [List.all_cons, Bool.and_eq_true] at h
    have : n ≤ a := Nat.le_of_ble_eq_true h.1
    unfold tabR
    cases hb : Nat.beq a j with
    | true => have := Nat.eq_of_beq_eq_true hb; omega
    | false => exact tabR_id h.2 j hj
theorem WeakR.tab {n0 : Nat} {tb : List (Nat × Nat)} {f1 : Fm} {st1 : St} {l : List (Nat × AV)} {len : Nat} {dm : List Nat} {h2 : Hp} {n2 : Nat} (e1 : len = f1.ts.len) (e2 : dm = f1.dm) (e3 : ∀ id ∈ dm, id < n0) (hid : (tb.all fun p => Nat.ble n0 p.1) = true) (lo : n0 ≤ n2)
    (hinj : (h2.all fun p => h2.all fun q => !(Nat.beq (tabR tb p.1) (tabR tb q.1)) || Nat.beq p.1 q.1) = true)
    (get : AllP (fun p => RenV (tabR tb) n2 p.2 (f1.ts.get p.1)) l) (obj : AllP (fun p => p.1 < n2 ∧ ∃ o1, st1.h.get (tabR tb p.1) = some o1 ∧ RenO (tabR tb) n2 p.2 o1 ∧ o1.fam = none) h2) : WeakR n0 (tabR tb) f1 st1 ⟨⟨len, getT l⟩, dm⟩ ⟨h2, n2⟩ := by
  refine WeakR.of (m := n2) e1 e2 e3 (tabR_id hid) lo (fun p hp => get.ok p hp) (fun p hp => ?_) (inj_of hinj)
  obtain ⟨h1, o1, h3, h4, h5⟩ := obj.ok p hp
  exact ⟨h1, o1, h3, h4, .inr h5⟩
end
def bodyF (f : Func) : Code := match f.body with
  | some c => c
  | none => .skip
def restC : Nat → Code → Code
  | 0, c => c
  | k + 1, .seq _ y => restC k y
  | _ + 1, c => c
def nthC (k : Nat) (c : Code) : Code := match restC k c with
  | .seq x _ => x
  | c => c
end Go.Fz
namespace Go.Fz
open Go.Proofs
set_option maxRecDepth 100000
def revI (nl k p : Nat) : Nat := if p ≤ nl - 1 - k then nl - 1 - p else nl - p
def partF (nl k : Nat) (f : Nat → Int) (n m : Int) (p : Nat) : Int := if p = nl - 1 - k then n else if p = nl - k then m else f (revI nl k p)
def DayD.lotX (d : DayD) (k : Nat) (n m : Int) : DayD := { d with nc := 0, nl := d.nl + 1, lw := fun p => d.lw (revI d.nl k p), llo := partF d.nl k d.llo n m, lhi := partF d.nl k d.lhi n m }
def TruD.lotX (t : TruD) (nl k : Nat) (n : Int) : TruD := { t with ns := nl + 1, es := false, st := partF nl k t.st n (t.st k - n) }
theorem revI_lt {nl k p : Nat} (hk : k < nl) (hp : p < nl + 1) : revI nl k p < nl := by
  unfold revI; split <;> omega
def stemZ (lw s : Nat → Int) (w : Int) : Nat → Int
  | 0 => 0
  | j + 1 => stemZ lw s w j + (if lw j = w then s j else 0)
theorem stemN_Z (d : DayD) (s : Nat → Int) (w : Int) (M : Nat) (hs : ∀ i, i < M → 0 ≤ s i ∧ s i ≤ 5000) : ∀ j, j ≤ M → j ≤ 4 → stemN d s w j = stemZ d.lw s w j ∧ 0 ≤ stemZ d.lw s w j ∧ stemZ d.lw s w j ≤ 5000 * j
  | 0, _, _ => by simp [stemN, stemZ]
  | j + 1, h, h4 => by
    obtain ⟨h1, h2, h3⟩ := stemN_Z d s w M hs j (by omega) (by omega)
    have := hs j (by omega)
    show (if d.lw j = w then add64 (stemN d s w j) (s j) else stemN d s w j) = stemZ d.lw s w j + (if d.lw j = w then s j else 0) ∧ 0 ≤ stemZ d.lw s w j + (if d.lw j = w then s j else 0) ∧ stemZ d.lw s w j + (if d.lw j = w then s j else 0) ≤ 5000 * ((j + 1 : Nat) : Int)
    split
    · rw [add64_in _ _ (by omega) (by omega)]; omega
    · omega
theorem lots_stemZ (lw s : Nat → Int) (n w : Int) (nl k : Nat) (hk : k < nl) (hnl : nl ≤ 3) : stemZ (fun p => lw (revI nl k p)) (partF nl k s n (s k - n)) w (nl + 1) = stemZ lw s w nl := by
  have : (nl = 1 ∧ k = 0) ∨ (nl = 2 ∧ k = 0) ∨ (nl = 2 ∧ k = 1) ∨ (nl = 3 ∧ k = 0) ∨ (nl = 3 ∧ k = 1) ∨ (nl = 3 ∧ k = 2) := by omega
  rcases this with ⟨rfl, rfl⟩ | ⟨rfl, rfl⟩ | ⟨rfl, rfl⟩ | ⟨rfl, rfl⟩ | ⟨rfl, rfl⟩ | ⟨rfl, rfl⟩ <;> simp only [stemZ, revI, partF] <;> simp <;> (repeat' split) <;> omega
def minZ (p : Int) : Int := if p < 3000 then p else 3000
theorem minZ_step {p s : Int} (hp : 1 ≤ p) (h1 : 1 ≤ s) (h2 : s ≤ 5001) : minI 3000 (mul64 (minZ p) s) = minZ (p * s) := by
  have b1 : p ≤ p * s := by
    have := Int.mul_le_mul_of_nonneg_left h1 (show 0 ≤ p by omega)
    omega
  unfold minZ
  by_cases h : p < 3000
  · rw [if_pos h]
    have b2 : p * s ≤ 3000 * 5001 := Int.mul_le_mul (by omega) h2 (by omega) (by omega)
    rw [mul64_in _ _ (by omega) (by omega)]
    rfl
  · rw [if_neg h, mul64_in _ _ (by omega) (by omega), if_neg (by omega)]
    show (if 3000 * s < 3000 then 3000 * s else 3000) = 3000
    rw [if_neg (by omega)]
def prodZ (z : Nat → Int) : Nat → Int
  | 0 => 1
  | j + 1 => prodZ z j * z j
theorem prodZ_pos {z : Nat → Int} {M : Nat} (hz : ∀ i, i < M → 1 ≤ z i) : ∀ j, j ≤ M → 1 ≤ prodZ z j
  | 0, _ => by simp [prodZ]
  | j + 1, h => by
    have h1 := prodZ_pos hz j (by omega)
    have h2 := hz j (by omega)
    have := Int.mul_le_mul_of_nonneg_left h2 (show 0 ≤ prodZ z j by omega)
    show 1 ≤ prodZ z j * z j
    omega
theorem minZ_mul {W : Int} (hW : 1 ≤ W) (hW2 : W ≤ 3000) : minZ W = W := by unfold minZ; split <;> omega
theorem manyW_in {d : DayD} (hw : ∀ i, i < d.nw → 1 ≤ d.wlo i ∧ d.wlo i ≤ d.whi i ∧ d.whi i ≤ 60) : ∀ i, i ≤ d.nw → 1 ≤ d.manyW i ∧ d.manyW i ≤ 3000
  | 0, _ => by simp [DayD.manyW]
  | i + 1, h => by
    obtain ⟨h1, h2⟩ := manyW_in hw i (by omega)
    have h3 := hw i (by omega)
    have hs := size64_in (lo := d.wlo i) (hi := d.whi i) (by omega) (by omega) (by omega)
    have h5 := minZ_step (p := d.manyW i) (s := size64 (d.wlo i) (d.whi i)) h1 (by omega) (by omega)
    rw [minZ_mul h1 h2] at h5
    show 1 ≤ minI 3000 (mul64 (d.manyW i) (size64 (d.wlo i) (d.whi i))) ∧ minI 3000 (mul64 (d.manyW i) (size64 (d.wlo i) (d.whi i))) ≤ 3000
    rw [h5]
    have b1 : d.manyW i ≤ d.manyW i * size64 (d.wlo i) (d.whi i) := by
      have := Int.mul_le_mul_of_nonneg_left (show 1 ≤ size64 (d.wlo i) (d.whi i) by omega) (show 0 ≤ d.manyW i by omega)
      omega
    unfold minZ; split <;> omega
theorem manyL_Z {d : DayD} (hw : ∀ i, i < d.nw → 1 ≤ d.wlo i ∧ d.wlo i ≤ d.whi i ∧ d.whi i ≤ 60) (hl : ∀ i, i < d.nl → 0 ≤ d.llo i ∧ d.llo i ≤ d.lhi i ∧ d.lhi i ≤ 5000) : ∀ j, j ≤ d.nl → d.manyL j = minZ (d.manyW d.nw * prodZ (fun i => size64 (d.llo i) (d.lhi i)) j)
  | 0, _ => by
    obtain ⟨h1, h2⟩ := manyW_in hw d.nw (Nat.le_refl _)
    show d.manyW d.nw = minZ (d.manyW d.nw * 1)
    rw [Int.mul_one, minZ_mul h1 h2]
  | j + 1, h => by
    have ih := manyL_Z hw hl j (by omega)
    obtain ⟨h1, h2⟩ := manyW_in hw d.nw (Nat.le_refl _)
    have h3 := hl j (by omega)
    have hs := size64_in (lo := d.llo j) (hi := d.lhi j) h3.1 h3.2.1 h3.2.2
    have hp := prodZ_pos (z := fun i => size64 (d.llo i) (d.lhi i)) (M := d.nl) (fun i hi => by
      have h3 := hl i hi
      have hs := size64_in (lo := d.llo i) (hi := d.lhi i) h3.1 h3.2.1 h3.2.2
      show 1 ≤ size64 (d.llo i) (d.lhi i); omega) j (by omega)
    have hpos : 1 ≤ d.manyW d.nw * prodZ (fun i => size64 (d.llo i) (d.lhi i)) j := by
      have := Int.mul_le_mul_of_nonneg_left hp (show 0 ≤ d.manyW d.nw by omega)
      omega
    show minI 3000 (mul64 (d.manyL j) (size64 (d.llo j) (d.lhi j))) = minZ (d.manyW d.nw * (prodZ (fun i => size64 (d.llo i) (d.lhi i)) j * size64 (d.llo j) (d.lhi j)))
    rw [ih, minZ_step hpos (by omega) (by omega), Int.mul_assoc]
theorem prod_part (z : Nat → Int) (nl k : Nat) (hk : k < nl) (hnl : nl ≤ 3) : prodZ (partF nl k z 1 1) (nl + 1) * z k = prodZ z nl := by
  have : (nl = 1 ∧ k = 0) ∨ (nl = 2 ∧ k = 0) ∨ (nl = 2 ∧ k = 1) ∨ (nl = 3 ∧ k = 0) ∨ (nl = 3 ∧ k = 1) ∨ (nl = 3 ∧ k = 2) := by omega
  rcases this with ⟨rfl, rfl⟩ | ⟨rfl, rfl⟩ | ⟨rfl, rfl⟩ | ⟨rfl, rfl⟩ | ⟨rfl, rfl⟩ | ⟨rfl, rfl⟩ <;> simp only [prodZ, revI, partF] <;> simp <;> ac_rfl
theorem lotX_lot {d : DayD} (g : d.Good) {k : Nat} (hk : k < d.nl) {n m : Int} (hn : 0 ≤ n ∧ n ≤ 5000) (hm : 0 ≤ m ∧ m ≤ 5000) (p : Nat) (hp : p < d.nl + 1) :
    (0 ≤ (d.lotX k n m).lw p ∧ (d.lotX k n m).lw p < d.nw) ∧ 0 ≤ (d.lotX k n m).llo p ∧ (d.lotX k n m).llo p ≤ (d.lotX k n m).lhi p ∧ (d.lotX k n m).lhi p ≤ 5000 := by
  have hr := revI_lt hk hp
  obtain ⟨h1, h2⟩ := g.lot (revI d.nl k p) hr
  refine ⟨h1, ?_⟩
  show 0 ≤ partF d.nl k d.llo n m p ∧ partF d.nl k d.llo n m p ≤ partF d.nl k d.lhi n m p ∧ partF d.nl k d.lhi n m p ≤ 5000
  unfold partF
  split
  · omega
  · split
    · omega
    · exact h2
theorem lotX_size {d : DayD} (g : d.Good) {k : Nat} (hk : k < d.nl) {n m : Int} (hn : 0 ≤ n ∧ n ≤ 5000) (hm : 0 ≤ m ∧ m ≤ 5000) (p : Nat) :
    size64 ((d.lotX k n m).llo p) ((d.lotX k n m).lhi p) = partF d.nl k (fun i => size64 (d.llo i) (d.lhi i)) 1 1 p := by
  show size64 (partF d.nl k d.llo n m p) (partF d.nl k d.lhi n m p) = _
  unfold partF
  split
  · rw [size64_in (by omega) (by omega) (by omega)]; omega
  · split
    · rw [size64_in (by omega) (by omega) (by omega)]; omega
    · rfl
theorem prodZ_congr {z y : Nat → Int} (h : ∀ i, z i = y i) : ∀ j, prodZ z j = prodZ y j
  | 0 => rfl
  | j + 1 => by show prodZ z j * z j = prodZ y j * y j; rw [prodZ_congr h j, h j]
theorem lotX_manyW (d : DayD) (k : Nat) (n m : Int) : ∀ i, (d.lotX k n m).manyW i = d.manyW i
  | 0 => rfl
  | i + 1 => by
    show minI 3000 (mul64 ((d.lotX k n m).manyW i) (size64 (d.wlo i) (d.whi i))) = minI 3000 (mul64 (d.manyW i) (size64 (d.wlo i) (d.whi i)))
    rw [lotX_manyW d k n m i]
theorem lotX_good {d : DayD} (g : d.Good) (hF : d.faultN = 0) (hnl : d.nl ≤ 3) {k : Nat} (hk : k < d.nl) {n m : Int} (hn : 0 ≤ n ∧ n ≤ 5000) (hm : 0 ≤ m ∧ m ≤ 5000) : (d.lotX k n m).faultN = 0 := by
  have hnw := g.nw
  have hlong : (d.lotX k n m).long = false := by
    have : ¬ 4 < d.nl + 1 := by omega
    have h2 : ¬ 4 < d.nw := by omega
    simp [DayD.long, DayD.lotX, this, h2]
  have hlots := lotX_lot g hk hn hm
  have hvd : d.validN = true ∧ d.manyL d.nl ≤ 2000 := by
    have h := hF
    unfold DayD.faultN at h
    split at h
    · omega
    · split at h
      · rename_i hv
        split at h
        · omega
        · exact ⟨hv, by omega⟩
      · omega
  obtain ⟨hv, hmany⟩ := hvd
  simp only [DayD.validN, Bool.and_eq_true] at hv
  obtain ⟨⟨⟨⟨⟨v1, v2⟩, v3⟩, v4⟩, _⟩, _⟩ := hv
  have v5 : allN (d.nl + 1) (d.lotX k n m).lotN = true := allN_true fun p hp => by
    obtain ⟨h1, h2⟩ := hlots p hp
    have e : ((d.lotX k n m).nw : Int) = d.nw := rfl
    simp only [DayD.lotN, inB, withinB, e, Bool.and_eq_true, decide_eq_true_eq]
    omega
  have v6 : allN 0 (d.lotX k n m).cntN = true := allN_true fun p hp => absurd hp (Nat.not_lt_zero p)
  have hvx : (d.lotX k n m).validN = true := by
    show (inB d.hand 1 20 && inB d.flat 1 20 && decide (0 < d.nw) && allN d.nw d.womN && allN (d.nl + 1) (d.lotX k n m).lotN && allN 0 (d.lotX k n m).cntN) = true
    rw [v1, v2, v3, v4, v5, v6]; rfl
  have e1 := manyL_Z (d := d) g.wom (fun i hi => (g.lot i hi).2) d.nl (Nat.le_refl _)
  have e2 := manyL_Z (d := d.lotX k n m) g.wom (fun i hi => (hlots i hi).2) (d.nl + 1) (Nat.le_refl _)
  have hW := manyW_in (d := d) g.wom d.nw (Nat.le_refl _)
  have hzk : 1 ≤ size64 (d.llo k) (d.lhi k) := by
    have h3 := (g.lot k hk).2
    rw [size64_in h3.1 h3.2.1 h3.2.2]; omega
  have hpp := prod_part (fun i => size64 (d.llo i) (d.lhi i)) d.nl k hk hnl
  have hpc := prodZ_congr (z := fun i => size64 ((d.lotX k n m).llo i) ((d.lotX k n m).lhi i)) (lotX_size g hk hn hm) (d.nl + 1)
  rw [hpc] at e2
  have hx1 : 1 ≤ prodZ (partF d.nl k (fun i => size64 (d.llo i) (d.lhi i)) 1 1) (d.nl + 1) := by
    rw [← hpc]
    refine prodZ_pos (M := d.nl + 1) (fun i hi => ?_) _ (Nat.le_refl _)
    have h3 := (hlots i hi).2
    have := size64_in h3.1 h3.2.1 h3.2.2
    show 1 ≤ size64 _ _
    omega
  have hmx : (d.lotX k n m).manyL (d.nl + 1) ≤ 2000 := by
    rw [e2, lotX_manyW]
    show minZ (d.manyW d.nw * prodZ (partF d.nl k (fun i => size64 (d.llo i) (d.lhi i)) 1 1) (d.nl + 1)) ≤ 2000
    rw [e1, ← hpp] at hmany
    generalize prodZ (partF d.nl k (fun i => size64 (d.llo i) (d.lhi i)) 1 1) (d.nl + 1) = X at hmany hx1
    generalize size64 (d.llo k) (d.lhi k) = z at hmany hzk
    generalize d.manyW d.nw = W at hmany hW
    have h0 : 0 ≤ W * X := Int.mul_nonneg (by omega) (by omega)
    have h1 : W * X ≤ W * X * z := by
      have := Int.mul_le_mul_of_nonneg_left hzk h0
      omega
    have h2 : W * (X * z) = W * X * z := by rw [Int.mul_assoc]
    simp only [h2] at hmany
    generalize W * X * z = A at hmany h1
    generalize W * X = B at h1
    unfold minZ at hmany ⊢
    split at hmany <;> split <;> omega
  unfold DayD.faultN
  rw [hlong, if_neg (by simp), if_pos hvx, if_neg (by show ¬ 2000 < (d.lotX k n m).manyL (d.nl + 1); omega)]
theorem lotX_fits {d : DayD} {t : TruD} (h : d.fits t = true) {k : Nat} (hk : k < d.nl) {n : Int} : (d.lotX k n (t.st k - n)).fits (t.lotX d.nl k n) = true := by
  obtain ⟨h1, h2, h3, h4⟩ := fits_true h
  have e : ∀ (D : DayD) (U : TruD), U.nf = D.nw → U.ns = D.nl → (∀ i, i < D.nw → D.wlo i ≤ U.fe i ∧ U.fe i ≤ D.whi i) → (∀ i, i < D.nl → D.llo i ≤ U.st i ∧ U.st i ≤ D.lhi i) → D.fits U = true := fun D U h1 h2 h3 h4 => by
    unfold DayD.fits
    rw [allN_true fun i hi => by have := h3 i (by omega); simp only [inB, Bool.and_eq_true, decide_eq_true_eq]; exact this, allN_true fun i hi => by have := h4 i (by omega); simp only [inB, Bool.and_eq_true, decide_eq_true_eq]; exact this]
    simp [h1, h2]
  refine e _ _ h1 rfl h3 fun p hp => ?_
  show partF d.nl k d.llo n (t.st k - n) p ≤ partF d.nl k t.st n (t.st k - n) p ∧ partF d.nl k t.st n (t.st k - n) p ≤ partF d.nl k d.lhi n (t.st k - n) p
  unfold partF
  split
  · omega
  · split
    · omega
    · exact h4 _ (revI_lt hk hp)
theorem lotX_stem {d : DayD} {t : TruD} (g : d.Good) (h : d.fits t = true) (hnl : d.nl ≤ 3) {k : Nat} (hk : k < d.nl) {n : Int} (hn : 0 ≤ n ∧ n ≤ t.st k) (w : Int) :
    stemN (d.lotX k n (t.st k - n)) (t.lotX d.nl k n).st w (d.nl + 1) = stemN d t.st w d.nl := by
  obtain ⟨h1, h2, h3, h4⟩ := fits_true h
  have b1 : ∀ i, i < d.nl → 0 ≤ t.st i ∧ t.st i ≤ 5000 := fun i hi => by have := h4 i hi; have := g.lot i hi; omega
  have hk1 := b1 k hk
  have b2 : ∀ i, i < d.nl + 1 → 0 ≤ (t.lotX d.nl k n).st i ∧ (t.lotX d.nl k n).st i ≤ 5000 := fun i hi => by
    show 0 ≤ partF d.nl k t.st n (t.st k - n) i ∧ partF d.nl k t.st n (t.st k - n) i ≤ 5000
    have h5 := b1 _ (revI_lt hk hi)
    unfold partF
    split
    · omega
    · split <;> omega
  rw [(stemN_Z _ _ w (d.nl + 1) b2 (d.nl + 1) (Nat.le_refl _) (by omega)).1, (stemN_Z d t.st w d.nl b1 d.nl (Nat.le_refl _) (by omega)).1]
  exact lots_stemZ d.lw t.st n w d.nl k hk hnl
theorem lotX_tally {d : DayD} {t : TruD} (g : d.Good) (h : d.fits t = true) (hnl : d.nl ≤ 3) {k : Nat} (hk : k < d.nl) {n : Int} (hn : 0 ≤ n ∧ n ≤ t.st k) :
    (d.lotX k n (t.st k - n)).tally (t.lotX d.nl k n) = d.tally t := by
  obtain ⟨h1, h2, h3, h4⟩ := fits_true h
  have hs := lotX_stem g h hnl hk hn
  have hbun : (d.lotX k n (t.st k - n)).bun (t.lotX d.nl k n) = d.bun t := funext fun w => by
    show quo64 (stemN (d.lotX k n (t.st k - n)) (t.lotX d.nl k n).st w (d.nl + 1)) (t.fe w) = quo64 (stemN d t.st w t.ns) (t.fe w)
    rw [hs, h2]
  have hlef : (d.lotX k n (t.st k - n)).lef (t.lotX d.nl k n) = d.lef t := funext fun w => by
    show (stemN (d.lotX k n (t.st k - n)) (t.lotX d.nl k n).st w (d.nl + 1)).tmod (t.fe w) = (stemN d t.st w t.ns).tmod (t.fe w)
    rw [hs, h2]
  have hall : (d.lotX k n (t.st k - n)).all (t.lotX d.nl k n) = d.all t := by
    show sumN ((d.lotX k n (t.st k - n)).bun (t.lotX d.nl k n)) d.nw = sumN (d.bun t) d.nw
    rw [hbun]
  unfold DayD.tally
  rw [hbun, hlef, hall]
  rfl
end Go.Fz
namespace Go.Fz
open Go.Proofs
set_option maxRecDepth 100000
section
variable {P : Program} {T : Ti}
theorem append_nilM {t id sz m : Nat} {ex : Bool} {cs : List AV} {st : St} (h : sliceB T t sz = true) (hx : st.h.get id = some (.cells none false cs)) (hl : cs.length = m * sz) (hm : 0 < m) (hm2 : m < 1000) (hone : cs.all AV.one = true) :
    appendA T st t t (.lit (.slice none 0 0)) (.sl id 0 m sz ex) = some (.sl st.n 0 m sz false, st.push (.cells none false cs)) := by
  obtain ⟨i, j, e, ht, hd, he, hz, h0, hb, hb0, hzl⟩ := sliceB_ok h
  subst hz
  unfold appendA
  simp only [ht, hd, he, slCells, cellsAt, hx, slLen]
  rw [if_pos ⟨trivial, by omega⟩]
  simp only [List.drop_zero]
  rw [List.take_of_length_le (by omega), if_neg (by rw [hone]; simp; omega), if_neg (by omega)]
theorem append_manyM {t id id0 len sz m : Nat} {ex : Bool} {g : Nat → Nat → AV} {cs : List AV} {st : St} (h : sliceB T t sz = true) (hx : st.h.get id = some (.cells none false cs)) (hl : cs.length = m * sz) (hm : 0 < m) (hm2 : m < 1000) (hone : cs.all AV.one = true)
    (hs : st.h.get id0 = some (.cells none false (flatG sz g len))) (hlen : len < 1000) :
    appendA T st t t (.sl id0 0 len sz false) (.sl id 0 m sz ex) = some (.sl st.n 0 (len + m) sz false, St.push ⟨truncH id0 (len * sz) id0 st.h, st.n⟩ (.cells (some id0) false (flatG sz g len ++ cs))) := by
  obtain ⟨i, j, e, ht, hd, he, hz, h0, hb, hb0, hzl⟩ := sliceB_ok h
  subst hz
  unfold appendA
  simp only [ht, hd, he, slCells, cellsAt, hx, hs, slLen]
  rw [if_pos ⟨trivial, by rw [flatG_length]; omega⟩, if_pos ⟨trivial, by omega⟩]
  simp only [List.drop_zero]
  rw [List.take_of_length_le (l := cs) (by omega), List.take_of_length_le (l := flatG j.size g len) (by rw [flatG_length]; omega), if_neg (by rw [hone]; simp; omega), if_neg (by omega)]
  simp
theorem PickE.appNilM (hT : TOk P T) {rd : Option Nat} {ops : Array Oper} {M : List Nat} {K : Fm → St → Prop} {fuel : Nat} {pend pend' : List (Nat × AV)} {listed : Array Bool} {f : Fm} {st : St} {j t id sz m : Nat} {ex : Bool} {cs : List AV}
    (hd : dropP M j pend = pend') (ha : appAt ops j f = some (t, .lit (.slice none 0 0), .sl id 0 m sz ex)) (hx : st.h.get id = some (.cells none false cs)) (hb : sliceB T t sz = true) (hl : cs.length = m * sz) (hm : (Nat.blt 0 m && Nat.blt m 1000) = true) (hone : cs.all AV.one = true)
    (hk : AllP (fun p => lightV T ops (st.push (.cells none false cs)).h (putAt ops j f (.sl st.n 0 m sz false)) p.1 = some p.2) pend')
    (h : AnyE P T ops M rd K fuel pend' (listed.setIfInBounds j true) (putAt ops j f (.sl st.n 0 m sz false)) (st.push (.cells none false cs))) : PickE P T ops M rd K fuel pend listed f st j := by
  simp only [Bool.and_eq_true, Nat.blt_eq] at hm
  exact PickE.app hT hd ha (append_nilM hb hx hl hm.1 hm.2 hone) hk h
theorem PickE.appM (hT : TOk P T) {rd : Option Nat} {ops : Array Oper} {M : List Nat} {K : Fm → St → Prop} {fuel : Nat} {pend pend' : List (Nat × AV)} {listed : Array Bool} {f : Fm} {st : St} {j t id id0 sz m : Nat} {ex : Bool} {cs : List AV} {G : List AV} {g : Nat → Nat → AV} {len : Nat}
    (hd : dropP M j pend = pend') (ha : appAt ops j f = some (t, .sl id0 0 len sz false, .sl id 0 m sz ex)) (hx : st.h.get id = some (.cells none false cs)) (hs : st.h.get id0 = some (.cells none false G)) (hG : G = flatG sz g len) (hb : sliceB T t sz = true) (hl : cs.length = m * sz) (hm : (Nat.blt 0 m && Nat.blt m 1000) = true) (hone : cs.all AV.one = true) (hlen : len < 1000)
    (h : ∀ G', G' = flatG sz g len ++ cs → AllP (fun p => lightV T ops (St.push ⟨truncH id0 (len * sz) id0 st.h, st.n⟩ (.cells (some id0) false G')).h (putAt ops j f (.sl st.n 0 (len + m) sz false)) p.1 = some p.2) pend' ∧
      AnyE P T ops M rd K fuel pend' (listed.setIfInBounds j true) (putAt ops j f (.sl st.n 0 (len + m) sz false)) (St.push ⟨truncH id0 (len * sz) id0 st.h, st.n⟩ (.cells (some id0) false G'))) : PickE P T ops M rd K fuel pend listed f st j := by
  subst hG
  simp only [Bool.and_eq_true, Nat.blt_eq] at hm
  obtain ⟨h1, h2⟩ := h _ rfl
  exact PickE.app hT hd ha (append_manyM hb hx hl hm.1 hm.2 hone hs hlen) h1 h2
theorem WeakR.tabF {n0 : Nat} {tb : List (Nat × Nat)} {f1 : Fm} {st1 : St} {l : List (Nat × AV)} {len : Nat} {dm : List Nat} {h2 : Hp} {n2 : Nat} (F : Nat → Option Nat) (hF : ∀ i j f, F i = some f → F j = some f → i = j) (e1 : len = f1.ts.len) (e2 : dm = f1.dm) (e3 : ∀ id ∈ dm, id < n0) (hid : (tb.all fun p => Nat.ble n0 p.1) = true) (lo : n0 ≤ n2)
    (hinj : (h2.all fun p => h2.all fun q => !(Nat.beq (tabR tb p.1) (tabR tb q.1)) || Nat.beq p.1 q.1) = true)
    (get : AllP (fun p => RenV (tabR tb) n2 p.2 (f1.ts.get p.1)) l) (obj : AllP (fun p => p.1 < n2 ∧ ∃ o1, st1.h.get (tabR tb p.1) = some o1 ∧ RenO (tabR tb) n2 p.2 o1 ∧ o1.fam = F p.1) h2) : WeakR n0 (tabR tb) f1 st1 ⟨⟨len, getT l⟩, dm⟩ ⟨h2, n2⟩ := by
  have ho := obj.ok
  have hj := inj_of hinj
  refine ⟨e1, e2, e3, tabR_id hid, fun i => ?_, lo, fun id o h => ?_, fun i j oi oj hi hj' hij pi pj h1 h2 => ⟨fun h => hij ?_, fun ⟨f, k1, k2⟩ => ?_⟩⟩
  · show RenV _ n2 (getT l i) _
    have hg := get.ok
    clear get obj ho hj hinj
    induction l with
    | nil => exact RenV.any
    | cons p r ih =>
      obtain ⟨j, a⟩ := p
      simp only [getT]
      cases hb : Nat.beq j i with
      | true =>
        obtain rfl := Nat.eq_of_beq_eq_true hb
        exact hg _ List.mem_cons_self
      | false => exact ih fun q hq => hg q (List.mem_cons_of_mem _ hq)
  · obtain ⟨h3, o1, h4, h5, _⟩ := ho _ (Hp.mem_of_get h)
    exact ⟨h3, o1, h4, h5⟩
  · exact hj _ (Hp.mem_of_get hi) _ (Hp.mem_of_get hj') h
  · obtain ⟨_, o1, h3, _, h4⟩ := ho _ (Hp.mem_of_get hi)
    obtain ⟨_, o2, h5, _, h6⟩ := ho _ (Hp.mem_of_get hj')
    rw [show tabR tb (i, oi).1 = tabR tb i from rfl, h1] at h3
    rw [show tabR tb (j, oj).1 = tabR tb j from rfl, h2] at h5
    cases h3; cases h5
    exact hij (hF i j f (h4.symm.trans k1) (h6.symm.trans k2))
end
end Go.Fz
