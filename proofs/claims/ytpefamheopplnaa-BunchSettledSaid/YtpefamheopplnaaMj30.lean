/- Own work of the verifier of watercress: FzSt1, FzL1. -/
import Derived.Test.YtpefamheopplnaaMj28
import Derived.Test.YtpefamheopplnaaMj29
import Derived.Test.YtpefamheopplnaaMj20
import Derived.Test.YtpefamheopplnaaMj14
set_option linter.unusedVariables false
set_option linter.unusedSimpArgs false
namespace Go.Fz
open Go.Proofs
set_option maxRecDepth 100000
set_option linter.unusedVariables false
def DayD.fixN (d : DayD) (x : List Nat) (fe : Nat → Int) (j : Nat) : DayD := { d with
  wlo := fun w => if ∃ k,k < j ∧ x.getD k 0 = w then fe w else d.wlo w
  whi := fun w => if ∃ k,k < j ∧ x.getD k 0 = w then fe w else d.whi w }
theorem fix_one (f fe : Nat → Int) (x : List Nat) (j : Nat) : setI (fun w => if ∃ k, k < j ∧ x.getD k 0 = w then fe w else f w) (x.getD j 0) (fe (x.getD j 0)) = fun w => if ∃ k, k < j + 1 ∧ x.getD k 0 = w then fe w else f w := by
  funext w
  by_cases h : w = x.getD j 0
  · subst h
    rw [setI_self,if_pos ⟨j,Nat.lt_succ_self j,rfl⟩]
  · rw [setI_ne h]
    by_cases h2 : ∃ k,k < j ∧ x.getD k 0 = w
    · obtain ⟨k, h3, h4⟩ := h2
      rw [if_pos ⟨k,h3,h4⟩,if_pos ⟨k,by omega,h4⟩]
    · rw [if_neg h2, if_neg]
      rintro ⟨k,h3,h4⟩
      rcases Nat.lt_succ_iff_lt_or_eq.1 h3 with h5 | rfl
      · exact h2 ⟨k,h5,h4⟩
      · exact h h4.symm
theorem fixN_succ (d : DayD) (x : List Nat) (fe : Nat → Int) (j : Nat) : (d.fixN x fe j).wW (x.getD j 0) (fe (x.getD j 0)) (fe (x.getD j 0)) = d.fixN x fe (j + 1) := by
  unfold DayD.wW DayD.fixN
  simp only [fix_one]
theorem fixN_nil (d : DayD) (x : List Nat) (fe : Nat → Int) (j : Nat) (hj : j = 0) : d.fixN x fe j = d := by
  unfold DayD.fixN
  have h : ∀ f : Nat → Int,(fun w => if ∃ k,k < j ∧ x.getD k 0 = w then fe w else f w) = f := fun f => funext fun w => if_neg fun ⟨k,h,_⟩ => by omega
  rw [h,h]
theorem fixN_zero (d : DayD) (x : List Nat) (fe : Nat → Int) : d.fixN x fe 0 = d := fixN_nil d x fe 0 rfl
theorem fixN_lo (d : DayD) (x : List Nat) (fe : Nat → Int) (w : Nat) : (d.fixN x fe x.length).wlo w = if w ∈ x then fe w else d.wlo w := by
  show (if ∃ k,k < x.length ∧ x.getD k 0 = w then fe w else d.wlo w) = _
  by_cases h : w ∈ x
  · rw [if_pos h,if_pos (mem_getD.2 h)]
  · rw [if_neg h,if_neg fun h2 => h (mem_getD.1 h2)]
theorem fixN_hi (d : DayD) (x : List Nat) (fe : Nat → Int) (w : Nat) : (d.fixN x fe x.length).whi w = if w ∈ x then fe w else d.whi w := by
  show (if ∃ k,k < x.length ∧ x.getD k 0 = w then fe w else d.whi w) = _
  by_cases h : w ∈ x
  · rw [if_pos h,if_pos (mem_getD.2 h)]
  · rw [if_neg h,if_neg fun h2 => h (mem_getD.1 h2)]
theorem pr_mono {lo hi lo' hi' : Nat → Int} {M : Nat} (hb : ∀ m, m < M → 0 ≤ lo m ∧ lo m ≤ hi m ∧ hi m ≤ 5000) (hn : ∀ m, m < M → lo m ≤ lo' m ∧ lo' m ≤ hi' m ∧ hi' m ≤ hi m) (h : manyB lo hi M = false) : ∀ i, i ≤ M → 1 ≤ prN lo' hi' i ∧ prN lo' hi' i ≤ prN lo hi i
  | 0,_ => ⟨Int.le_refl 1,Int.le_refl 1⟩
  | i + 1, hi2 => by
    obtain ⟨h1,h2⟩ := pr_mono hb hn h i (by omega)
    obtain ⟨a1,a2,_⟩ := prN_all lo hi M hb h i (by omega)
    obtain ⟨b1,b2,b3⟩ := prN_all lo hi M hb h (i + 1) hi2
    have b3 := b3 i rfl
    have h3 := hb i (by omega)
    have h4 := hn i (by omega)
    have hs : size64 (lo' i) (hi' i) = hi' i - lo' i + 1 := size64_in (by omega) (by omega) (by omega)
    have hm : mul64 (prN lo' hi' i) (hi' i - lo' i + 1) = prN lo' hi' i * (hi' i - lo' i + 1) := by
      have m1 : prN lo' hi' i * (hi' i - lo' i + 1) ≤ 2000 * 5001 := Int.mul_le_mul (by omega) (by omega) (by omega) (by omega)
      have m2 : 0 ≤ prN lo' hi' i * (hi' i - lo' i + 1) := Int.mul_nonneg (by omega) (by omega)
      exact mul64_in _ _ (by omega) (by omega)
    have e : prN lo' hi' (i + 1) = prN lo' hi' i * (hi' i - lo' i + 1) := by
      show mul64 (prN lo' hi' i) (size64 (lo' i) (hi' i)) = _
      rw [hs,hm]
    rw [e,b3]
    constructor
    · have : 1 * 1 ≤ prN lo' hi' i * (hi' i - lo' i + 1) := Int.mul_le_mul h1 (by omega) (by omega) (by omega)
      omega
    · exact Int.mul_le_mul h2 (by omega) (by omega) (by omega)
section
variable {d : DayD} {x : List Nat} {fe : Nat → Int}
theorem fix_check (hc : d.check = 0) (hx : ∀ w, w ∈ x → w < d.nw) (hfe : ∀ w, w < d.nw → d.wlo w ≤ fe w ∧ fe w ≤ d.whi w) : (d.fixN x fe x.length).check = 0 := by
  have gd := good_of_check hc
  have hu := unk_in gd
  have hmany := check_many hc
  have hv : d.validB = true ∧ d.long = false := by
    have hc2 := hc
    unfold DayD.check at hc2
    split at hc2
    · omega
    · rename_i h1
      split at hc2
      · rename_i h2
        exact ⟨h2,by simpa using h1⟩
      · omega
  have hr : ∀ w, w < d.nw → d.wlo w ≤ (d.fixN x fe x.length).wlo w ∧ (d.fixN x fe x.length).wlo w ≤ (d.fixN x fe x.length).whi w ∧ (d.fixN x fe x.length).whi w ≤ d.whi w := fun w hw => by
    have h1 := hfe w hw
    have h2 := gd.wom w hw
    rw [fixN_lo,fixN_hi]
    by_cases h : w ∈ x
    · rw [if_pos h,if_pos h]; omega
    · rw [if_neg h,if_neg h]; omega
  have hval : (d.fixN x fe x.length).validB = true := by
    have hv1 := hv.1
    simp only [DayD.validB,Bool.and_eq_true] at hv1 ⊢
    obtain ⟨⟨⟨⟨⟨v1,v2⟩,v3⟩,v4⟩,v5⟩,v6⟩ := hv1
    refine ⟨⟨⟨⟨⟨v1,v2⟩,v3⟩,allN_true fun w hw => ?_⟩,v5⟩,v6⟩
    have h1 := hr w hw
    have h2 := gd.wom w hw
    simp only [withinB,Bool.and_eq_true,decide_eq_true_eq]
    omega
  have hmy : manyB (d.fixN x fe x.length).ulo (d.fixN x fe x.length).uhi (d.nw + d.nl) = false := by
    have hm := pr_mono (lo' := (d.fixN x fe x.length).ulo) (hi' := (d.fixN x fe x.length).uhi) hu (fun m hm => by
      have hum := hu m hm
      unfold DayD.ulo DayD.uhi at *
      show (if m < d.nw then d.wlo m else d.llo (m - d.nw)) ≤ (if m < d.nw then (d.fixN x fe x.length).wlo m else d.llo (m - d.nw)) ∧ (if m < d.nw then (d.fixN x fe x.length).wlo m else d.llo (m - d.nw)) ≤ (if m < d.nw then (d.fixN x fe x.length).whi m else d.lhi (m - d.nw)) ∧ (if m < d.nw then (d.fixN x fe x.length).whi m else d.lhi (m - d.nw)) ≤ (if m < d.nw then d.whi m else d.lhi (m - d.nw))
      by_cases hmw : m < d.nw
      · rw [if_pos hmw,if_pos hmw,if_pos hmw,if_pos hmw]; exact hr m hmw
      · rw [if_neg hmw, if_neg hmw] at hum
        rw [if_neg hmw,if_neg hmw,if_neg hmw,if_neg hmw]; omega) hmany
    unfold manyB
    rw [allN_true fun i hi => ?_]
    · rfl
    · have h1 := (hm (i + 1) hi).2
      have h2 := (prN_all d.ulo d.uhi (d.nw + d.nl) hu hmany (i + 1) hi).2.1
      exact decide_eq_true (by omega)
  unfold DayD.check
  have hl : (d.fixN x fe x.length).long = false := hv.2
  rw [hl,hval]
  show (if false = true then (3 : Int) else if true = true then (if manyB (d.fixN x fe x.length).ulo (d.fixN x fe x.length).uhi (d.nw + d.nl) = true then 3 else 0) else 1) = 0
  rw [hmy]; rfl
theorem fix_wider (hfe : ∀ w, w < d.nw → d.wlo w ≤ fe w ∧ fe w ≤ d.whi w) : Wider (d.fixN x fe x.length) d where
  like := ⟨rfl,rfl,rfl,rfl,rfl⟩
  nc := rfl
  ck := rfl
  cw := rfl
  wom := fun w hw => by
    have h1 := hfe w hw
    rw [fixN_lo,fixN_hi]
    by_cases h : w ∈ x
    · rw [if_pos h,if_pos h]; omega
    · rw [if_neg h,if_neg h]; omega
  lot := fun i hi => ⟨Int.le_refl _,Int.le_refl _⟩
  cnt := fun i hi => ⟨Int.le_refl _,Int.le_refl _⟩
theorem fix_like : Alike (d.fixN x fe x.length) d := ⟨rfl,rfl,rfl,rfl,rfl⟩
theorem fix_okC (f : Nat → Int) (j : Nat) : (d.fixN x fe x.length).okC f j = d.okC f j := by
  unfold DayD.okC DayD.rightB
  rw [fix_like.tru,fix_like.tally]
  rfl
theorem fix_tally (t : TruD) : (d.fixN x fe x.length).tally t = d.tally t := fix_like.tally t
end
theorem fix_flats {d : DayD} (hc : d.check = 0) {x : List Nat} (hin : x ∈ risL d.nw) (hq : d.setQ d.seen.outs x = true) {k0 : Nat} (hk : k0 < d.sN) :
    (d.fixN x (d.sT k0).fe x.length).seen.outs ≠ [] ∧ ∀ f,f ∈ (d.fixN x (d.sT k0).fe x.length).seen.outs → (d.tally (truF d f)).flats = (d.tally (d.sT k0)).flats := by
  have gd := good_of_check hc
  have hnw := gd.nw
  have hx : ∀ w,w ∈ x → w < d.nw := risL_lt hin
  obtain ⟨_,_,k1,k2⟩ := fits_true (sel_fit hc hk)
  have hfe : ∀ w,w < d.nw → d.wlo w ≤ (d.sT k0).fe w ∧ (d.sT k0).fe w ≤ d.whi w := fun w hw => k1 w hw
  have hwid := fix_wider (d := d) (x := x) hfe
  have hcl := (setQ_clash (d := d) (l := x) fun w hw => by have := hx w hw; omega).1 hq
  obtain ⟨f0,hf0,e0⟩ := (ex_sel hc (fun f => f = d.sF k0)).2 ⟨k0,hk,rfl⟩
  subst e0
  obtain ⟨_,_,_,hw0⟩ := (seen_out d _).1 hf0
  constructor
  · intro he
    have : d.sF k0 ∈ (d.fixN x (d.sT k0).fe x.length).seen.outs := (seen_out _ _).2 ⟨numT d (d.sT k0), fun m hm => by
      have hm2 : m < d.nw + d.nl := hm
      unfold numT
      show (if m < d.nw then (d.fixN x (d.sT k0).fe x.length).wlo m else d.llo (m - d.nw)) ≤ (if m < d.nw then (d.sT k0).fe m else (d.sT k0).st (m - d.nw)) ∧ (if m < d.nw then (d.sT k0).fe m else (d.sT k0).st (m - d.nw)) ≤ (if m < d.nw then (d.fixN x (d.sT k0).fe x.length).whi m else d.lhi (m - d.nw))
      by_cases hmw : m < d.nw
      · rw [if_pos hmw, if_pos hmw, if_pos hmw, fixN_lo, fixN_hi]
        have := k1 m hmw
        by_cases h : m ∈ x
        · rw [if_pos h,if_pos h]; omega
        · rw [if_neg h,if_neg h]; exact this
      · rw [if_neg hmw,if_neg hmw,if_neg hmw]; exact k2 (m - d.nw) (by omega),rfl,(wrong_no (d := d.fixN x (d.sT k0).fe x.length) gd.nc _).2 fun j hj => by rw [fix_okC]; exact (wrong_no gd.nc _).1 hw0 j hj⟩
    rw [he] at this; cases this
  · intro f hf
    have hfd := hwid.outs gd.nc f hf
    obtain ⟨t,ht,hcut,_⟩ := (seen_out _ f).1 hf
    rw [← sF_flats d k0]
    by_cases e : (d.tally (truF d f)).flats = (d.tally (truF d (d.sF k0))).flats
    · exact e
    · refine absurd ⟨f, hfd, _, hf0, e, fun w hw => ?_⟩ hcl
      have hwn := hx w hw
      have h1 := ht w (by show w < d.nw + d.nl; omega)
      have h2 : (if w < d.nw then (d.fixN x (d.sT k0).fe x.length).wlo w else d.llo (w - d.nw)) ≤ t w ∧ t w ≤ (if w < d.nw then (d.fixN x (d.sT k0).fe x.length).whi w else d.lhi (w - d.nw)) := h1
      rw [if_pos hwn,if_pos hwn,fixN_lo,fixN_hi,if_pos hw,if_pos hw] at h2
      rw [sF_fe hwn,← hcut]
      show cutF (d.nw + d.nl) t w = _
      unfold cutF
      rw [if_pos (by omega)]; omega
theorem fix_ends {d : DayD} (hc : d.check = 0) {x : List Nat} (hin : x ∈ risL d.nw) (hq : d.setQ d.seen.outs x = true) {k0 : Nat} (hk : k0 < d.sN) :
    mnF (fun i => ((d.fixN x (d.sT k0).fe x.length).tally ((d.fixN x (d.sT k0).fe x.length).tr i)).flats) (d.fixN x (d.sT k0).fe x.length).oN = (d.tally (d.sT k0)).flats ∧ mxF (fun i => ((d.fixN x (d.sT k0).fe x.length).tally ((d.fixN x (d.sT k0).fe x.length).tr i)).flats) (d.fixN x (d.sT k0).fe x.length).oN = (d.tally (d.sT k0)).flats := by
  obtain ⟨hne,hall⟩ := fix_flats hc hin hq hk
  have hpos : 0 < (d.fixN x (d.sT k0).fe x.length).oN := List.length_pos_iff.2 hne
  have h1 : ∀ i,i < (d.fixN x (d.sT k0).fe x.length).oN → ((d.fixN x (d.sT k0).fe x.length).tally ((d.fixN x (d.sT k0).fe x.length).tr i)).flats = (d.tally (d.sT k0)).flats := fun i hi => by rw [fix_tally]; exact hall _ (nth_mem hi)
  obtain ⟨i,hi,e⟩ := mnF_mem (V := fun i => ((d.fixN x (d.sT k0).fe x.length).tally ((d.fixN x (d.sT k0).fe x.length).tr i)).flats) hpos
  obtain ⟨j,hj,e2⟩ := mxF_mem (V := fun i => ((d.fixN x (d.sT k0).fe x.length).tally ((d.fixN x (d.sT k0).fe x.length).tr i)).flats) hpos
  exact ⟨e.symm.trans (h1 i hi),e2.symm.trans (h1 j hj)⟩
theorem known_settle {d : DayD} (hc : d.check = 0) (hk : ∀ i, i < d.nl → d.llo i = d.lhi i) : ∃ l, (risL d.nw).find? (d.setQ d.seen.outs) = some l := by
  have gd := good_of_check hc
  have hnw := gd.nw
  have hin : List.range d.nw ∈ risL d.nw := (ord_fin ⟨d.nw,by omega⟩).2.2
  refine find_ex hin ((setQ_clash (d := d) (l := List.range d.nw) fun w hw => by have := List.mem_range.1 hw; omega).2 ?_)
  rintro ⟨f,hf,f',hf',hne,hs⟩
  refine hne ?_
  obtain ⟨t,ht,e,_⟩ := (seen_out d f).1 hf
  obtain ⟨t',ht',e',_⟩ := (seen_out d f').1 hf'
  have : f = f' := by
    rw [← e,← e']
    refine cutF_congr fun m hm => ?_
    by_cases hmw : m < d.nw
    · have := hs m (List.mem_range.2 hmw)
      rw [← e,← e'] at this
      unfold cutF at this
      rw [if_pos hm,if_pos hm] at this; exact this
    · have h1 := ht m hm
      have h2 := ht' m hm
      unfold DayD.ulo DayD.uhi at h1 h2
      rw [if_neg hmw,if_neg hmw] at h1 h2
      have := hk (m - d.nw) (by omega)
      omega
  rw [this]
end Go.Fz
namespace Go.Fz
open Go.Proofs
set_option maxRecDepth 100000
theorem between_ok (a b : Int) : Pure Try.prog 37 [iV a, iV b] (rangeV a b) := by
  obtain ⟨O,hO⟩ : ∃ O : Ar,O = std := ⟨_,rfl⟩
  refine pure_of_body tok 3 Try.func37 en37 rfl ⟨Below.lit,Below.lit,trivial⟩ rangeV_below ?_
  refine SW.seqRun tok hO (by cbv <;> rfl) (by trivial) ?_
  refine SW.seqRun tok hO (by cbv <;> rfl) (by trivial) ?_
  exact SW.ret ⟨_,_,rfl,rfl,Eqv.of rfl⟩
def pick2 (a b : Int) (i : Nat) : Int := if i = 0 then a else b
def twoD (k : Nat) : DayD := { hand := 6,flat := 4,nw := 2,wlo := pick2 20 25,whi := pick2 22 25,nl := 2,lw := pick2 0 1,llo := pick2 500 610,lhi := pick2 502 610,nc := k,ck := pick2 4 1,cw := pick2 0 0,clo := pick2 2 5,chi := pick2 2 9 }
set_option maxHeartbeats 16000000 in
theorem two_ok0 : Pure Try.prog 35 [iV 0] (dayV (twoD 0)) := by
  obtain ⟨O,hO⟩ : ∃ O : Ar,O = std := ⟨_,rfl⟩
  have ha := between_ok 2 2
  have hb := between_ok 5 9
  have h0 := between_ok 20 22
  have h1 := between_ok 25 25
  have h3 := between_ok 500 502
  have h5 := between_ok 610 610
  refine pure_of_body tok 4 Try.func35 en35 rfl ⟨Below.lit,trivial⟩ (dayV_below _) ?_
  refine SW.seqRun tok hO (by cbv <;> rfl) (by trivial) ?_
  refine SW.seqRun tok hO (by cbv <;> rfl) (by trivial) ?_
  refine OpsW.callP ha (by cbv <;> rfl) ?_
  refine OpsW.run tok hO (by cbv <;> rfl) (by trivial) ?_
  refine OpsW.callP hb (by cbv <;> rfl) ?_
  refine OpsW.run tok hO (by cbv <;> rfl) (by trivial) ?_
  refine SW.seqRunD tok mixed hO (by kernel_rfl) (by cbv <;> rfl) (by trivial) ?_
  refine AnyE.take (r := .sl 1 0 0 4 (Nat.beq 0 2)) (by kernel_rfl) tok 10 rfl (by cbv <;> rfl) (by cbv <;> rfl) ?_
  refine AnyE.run tok hO (by rfl) (by cbv <;> rfl) (by trivial) ?_
  refine AnyE.callP h0 (by cbv <;> rfl) (by cbv <;> rfl) ?_
  refine AnyE.run tok hO (by rfl) (by cbv <;> rfl) (by trivial) ?_
  refine AnyE.callP h1 (by cbv <;> rfl) (by cbv <;> rfl) ?_
  refine AnyE.run tok hO (by rfl) (by cbv <;> rfl) (by trivial) ?_
  refine AnyE.many [2,3] (by cbv <;> rfl) (by rfl) ⟨?_,?_,trivial⟩
  · refine PickE.eff tok hO (by cbv <;> rfl) (by cbv <;> rfl) (by trivial) ?_ ?_
    · exact (by repeat (first | exact trivial | refine And.intro (by first | exact lv_of hO (by cbv <;> rfl) (by trivial) | (cbv <;> rfl)) ?_))
    refine AnyE.run tok hO (by rfl) (by cbv <;> rfl) (by trivial) ?_
    refine AnyE.callP h3 (by cbv <;> rfl) (by cbv <;> rfl) ?_
    refine AnyE.run tok hO (by rfl) (by cbv <;> rfl) (by trivial) ?_
    refine AnyE.callP h5 (by cbv <;> rfl) (by cbv <;> rfl) ?_
    refine AnyE.run tok hO (by rfl) (by cbv <;> rfl) (by trivial) ?_
    refine AnyE.effK tok hO (by cbv <;> rfl) (by cbv <;> rfl) (by trivial) ?_ ?_
    · exact (by repeat (first | exact trivial | refine And.intro (by first | exact lv_of hO (by cbv <;> rfl) (by trivial) | (cbv <;> rfl)) ?_))
    refine AnyE.run tok hO (by rfl) (by cbv <;> rfl) (by trivial) ?_
    refine AnyE.effK tok hO (by cbv <;> rfl) (by cbv <;> rfl) (by trivial) ?_ ?_
    · exact (by repeat (first | exact trivial | refine And.intro (by first | exact lv_of hO (by cbv <;> rfl) (by trivial) | (cbv <;> rfl)) ?_))
    refine AnyE.run tok hO (by rfl) (by cbv <;> rfl) (by trivial) ?_
    refine SW.ret ⟨_,_,rfl,rfl,?_⟩
    exact Eqv.agg (.cons (Eqv.of rfl) (.cons (Eqv.of rfl) (.cons (by (first | refine Eqv.isl rfl fun i j hi hj => ?_ | refine Eqv.trans Eqv.islX (Eqv.isl rfl fun i j hi hj => ?_)) <;> (obtain rfl | rfl : i = 0 ∨ i = 1 := by omega) <;> (obtain rfl | rfl | rfl | rfl : j = 0 ∨ j = 1 ∨ j = 2 ∨ j = 3 := by omega) <;> first | exact Eqv.of rfl | omega) (.cons (by (first | refine Eqv.isl rfl fun i j hi hj => ?_ | refine Eqv.trans Eqv.islX (Eqv.isl rfl fun i j hi hj => ?_)) <;> (obtain rfl | rfl : i = 0 ∨ i = 1 := by omega) <;> (obtain rfl | rfl | rfl | rfl : j = 0 ∨ j = 1 ∨ j = 2 ∨ j = 3 := by omega) <;> first | exact Eqv.of rfl | omega) (.cons (by (first | refine Eqv.isl rfl fun i j hi hj => ?_ | refine Eqv.trans Eqv.islX (Eqv.isl rfl fun i j hi hj => ?_)) <;> (obtain rfl | rfl : i = 0 ∨ i = 1 := by omega) <;> (obtain rfl | rfl | rfl | rfl : j = 0 ∨ j = 1 ∨ j = 2 ∨ j = 3 := by omega) <;> first | exact Eqv.of rfl | omega) .nil)))))
  · refine PickE.callQ h3 (by cbv <;> rfl) (by cbv <;> rfl) ?_ ?_
    · exact (by repeat (first | exact trivial | refine And.intro (by first | exact lv_of hO (by cbv <;> rfl) (by trivial) | (cbv <;> rfl)) ?_))
    refine AnyE.run tok hO (by rfl) (by cbv <;> rfl) (by trivial) ?_
    refine AnyE.many [2,5] (by cbv <;> rfl) (by rfl) ⟨?_,?_,trivial⟩
    · refine PickE.eff tok hO (by cbv <;> rfl) (by cbv <;> rfl) (by trivial) ?_ ?_
      · exact (by repeat (first | exact trivial | refine And.intro (by first | exact lv_of hO (by cbv <;> rfl) (by trivial) | (cbv <;> rfl)) ?_))
      refine AnyE.run tok hO (by rfl) (by cbv <;> rfl) (by trivial) ?_
      refine AnyE.callP h5 (by cbv <;> rfl) (by cbv <;> rfl) ?_
      refine AnyE.run tok hO (by rfl) (by cbv <;> rfl) (by trivial) ?_
      refine AnyE.effK tok hO (by cbv <;> rfl) (by cbv <;> rfl) (by trivial) ?_ ?_
      · exact (by repeat (first | exact trivial | refine And.intro (by first | exact lv_of hO (by cbv <;> rfl) (by trivial) | (cbv <;> rfl)) ?_))
      refine AnyE.run tok hO (by rfl) (by cbv <;> rfl) (by trivial) ?_
      refine AnyE.effK tok hO (by cbv <;> rfl) (by cbv <;> rfl) (by trivial) ?_ ?_
      · exact (by repeat (first | exact trivial | refine And.intro (by first | exact lv_of hO (by cbv <;> rfl) (by trivial) | (cbv <;> rfl)) ?_))
      refine AnyE.run tok hO (by rfl) (by cbv <;> rfl) (by trivial) ?_
      refine SW.ret ⟨_,_,rfl,rfl,?_⟩
      exact Eqv.agg (.cons (Eqv.of rfl) (.cons (Eqv.of rfl) (.cons (by (first | refine Eqv.isl rfl fun i j hi hj => ?_ | refine Eqv.trans Eqv.islX (Eqv.isl rfl fun i j hi hj => ?_)) <;> (obtain rfl | rfl : i = 0 ∨ i = 1 := by omega) <;> (obtain rfl | rfl | rfl | rfl : j = 0 ∨ j = 1 ∨ j = 2 ∨ j = 3 := by omega) <;> first | exact Eqv.of rfl | omega) (.cons (by (first | refine Eqv.isl rfl fun i j hi hj => ?_ | refine Eqv.trans Eqv.islX (Eqv.isl rfl fun i j hi hj => ?_)) <;> (obtain rfl | rfl : i = 0 ∨ i = 1 := by omega) <;> (obtain rfl | rfl | rfl | rfl : j = 0 ∨ j = 1 ∨ j = 2 ∨ j = 3 := by omega) <;> first | exact Eqv.of rfl | omega) (.cons (by (first | refine Eqv.isl rfl fun i j hi hj => ?_ | refine Eqv.trans Eqv.islX (Eqv.isl rfl fun i j hi hj => ?_)) <;> (obtain rfl | rfl : i = 0 ∨ i = 1 := by omega) <;> (obtain rfl | rfl | rfl | rfl : j = 0 ∨ j = 1 ∨ j = 2 ∨ j = 3 := by omega) <;> first | exact Eqv.of rfl | omega) .nil)))))
    · refine PickE.callQ h5 (by cbv <;> rfl) (by cbv <;> rfl) ?_ ?_
      · exact (by repeat (first | exact trivial | refine And.intro (by first | exact lv_of hO (by cbv <;> rfl) (by trivial) | (cbv <;> rfl)) ?_))
      refine AnyE.run tok hO (by rfl) (by cbv <;> rfl) (by trivial) ?_
      refine AnyE.many [2,7] (by cbv <;> rfl) (by rfl) ⟨?_,?_,trivial⟩
      · refine PickE.eff tok hO (by cbv <;> rfl) (by cbv <;> rfl) (by trivial) ?_ ?_
        · exact (by repeat (first | exact trivial | refine And.intro (by first | exact lv_of hO (by cbv <;> rfl) (by trivial) | (cbv <;> rfl)) ?_))
        refine AnyE.run tok hO (by rfl) (by cbv <;> rfl) (by trivial) ?_
        refine AnyE.effK tok hO (by cbv <;> rfl) (by cbv <;> rfl) (by trivial) ?_ ?_
        · exact (by repeat (first | exact trivial | refine And.intro (by first | exact lv_of hO (by cbv <;> rfl) (by trivial) | (cbv <;> rfl)) ?_))
        refine AnyE.run tok hO (by rfl) (by cbv <;> rfl) (by trivial) ?_
        refine AnyE.effK tok hO (by cbv <;> rfl) (by cbv <;> rfl) (by trivial) ?_ ?_
        · exact (by repeat (first | exact trivial | refine And.intro (by first | exact lv_of hO (by cbv <;> rfl) (by trivial) | (cbv <;> rfl)) ?_))
        refine AnyE.run tok hO (by rfl) (by cbv <;> rfl) (by trivial) ?_
        refine SW.ret ⟨_,_,rfl,rfl,?_⟩
        exact Eqv.agg (.cons (Eqv.of rfl) (.cons (Eqv.of rfl) (.cons (by (first | refine Eqv.isl rfl fun i j hi hj => ?_ | refine Eqv.trans Eqv.islX (Eqv.isl rfl fun i j hi hj => ?_)) <;> (obtain rfl | rfl : i = 0 ∨ i = 1 := by omega) <;> (obtain rfl | rfl | rfl | rfl : j = 0 ∨ j = 1 ∨ j = 2 ∨ j = 3 := by omega) <;> first | exact Eqv.of rfl | omega) (.cons (by (first | refine Eqv.isl rfl fun i j hi hj => ?_ | refine Eqv.trans Eqv.islX (Eqv.isl rfl fun i j hi hj => ?_)) <;> (obtain rfl | rfl : i = 0 ∨ i = 1 := by omega) <;> (obtain rfl | rfl | rfl | rfl : j = 0 ∨ j = 1 ∨ j = 2 ∨ j = 3 := by omega) <;> first | exact Eqv.of rfl | omega) (.cons (by (first | refine Eqv.isl rfl fun i j hi hj => ?_ | refine Eqv.trans Eqv.islX (Eqv.isl rfl fun i j hi hj => ?_)) <;> (obtain rfl | rfl : i = 0 ∨ i = 1 := by omega) <;> (obtain rfl | rfl | rfl | rfl : j = 0 ∨ j = 1 ∨ j = 2 ∨ j = 3 := by omega) <;> first | exact Eqv.of rfl | omega) .nil)))))
      · refine PickE.eff tok hO (by cbv <;> rfl) (by cbv <;> rfl) (by trivial) ?_ ?_
        · exact (by repeat (first | exact trivial | refine And.intro (by first | exact lv_of hO (by cbv <;> rfl) (by trivial) | (cbv <;> rfl)) ?_))
        refine AnyE.run tok hO (by rfl) (by cbv <;> rfl) (by trivial) ?_
        refine AnyE.effK tok hO (by cbv <;> rfl) (by cbv <;> rfl) (by trivial) ?_ ?_
        · exact (by repeat (first | exact trivial | refine And.intro (by first | exact lv_of hO (by cbv <;> rfl) (by trivial) | (cbv <;> rfl)) ?_))
        refine AnyE.run tok hO (by rfl) (by cbv <;> rfl) (by trivial) ?_
        refine AnyE.effK tok hO (by cbv <;> rfl) (by cbv <;> rfl) (by trivial) ?_ ?_
        · exact (by repeat (first | exact trivial | refine And.intro (by first | exact lv_of hO (by cbv <;> rfl) (by trivial) | (cbv <;> rfl)) ?_))
        refine AnyE.run tok hO (by rfl) (by cbv <;> rfl) (by trivial) ?_
        refine SW.ret ⟨_,_,rfl,rfl,?_⟩
        exact Eqv.agg (.cons (Eqv.of rfl) (.cons (Eqv.of rfl) (.cons (by (first | refine Eqv.isl rfl fun i j hi hj => ?_ | refine Eqv.trans Eqv.islX (Eqv.isl rfl fun i j hi hj => ?_)) <;> (obtain rfl | rfl : i = 0 ∨ i = 1 := by omega) <;> (obtain rfl | rfl | rfl | rfl : j = 0 ∨ j = 1 ∨ j = 2 ∨ j = 3 := by omega) <;> first | exact Eqv.of rfl | omega) (.cons (by (first | refine Eqv.isl rfl fun i j hi hj => ?_ | refine Eqv.trans Eqv.islX (Eqv.isl rfl fun i j hi hj => ?_)) <;> (obtain rfl | rfl : i = 0 ∨ i = 1 := by omega) <;> (obtain rfl | rfl | rfl | rfl : j = 0 ∨ j = 1 ∨ j = 2 ∨ j = 3 := by omega) <;> first | exact Eqv.of rfl | omega) (.cons (by (first | refine Eqv.isl rfl fun i j hi hj => ?_ | refine Eqv.trans Eqv.islX (Eqv.isl rfl fun i j hi hj => ?_)) <;> (obtain rfl | rfl : i = 0 ∨ i = 1 := by omega) <;> (obtain rfl | rfl | rfl | rfl : j = 0 ∨ j = 1 ∨ j = 2 ∨ j = 3 := by omega) <;> first | exact Eqv.of rfl | omega) .nil)))))
set_option maxHeartbeats 16000000 in
theorem two_ok1 : Pure Try.prog 35 [iV 1] (dayV (twoD 1)) := by
  obtain ⟨O,hO⟩ : ∃ O : Ar,O = std := ⟨_,rfl⟩
  have ha := between_ok 2 2
  have hb := between_ok 5 9
  have h0 := between_ok 20 22
  have h1 := between_ok 25 25
  have h3 := between_ok 500 502
  have h5 := between_ok 610 610
  refine pure_of_body tok 4 Try.func35 en35 rfl ⟨Below.lit,trivial⟩ (dayV_below _) ?_
  refine SW.seqRun tok hO (by cbv <;> rfl) (by trivial) ?_
  refine SW.seqRun tok hO (by cbv <;> rfl) (by trivial) ?_
  refine OpsW.callP ha (by cbv <;> rfl) ?_
  refine OpsW.run tok hO (by cbv <;> rfl) (by trivial) ?_
  refine OpsW.callP hb (by cbv <;> rfl) ?_
  refine OpsW.run tok hO (by cbv <;> rfl) (by trivial) ?_
  refine SW.seqRunD tok mixed hO (by kernel_rfl) (by cbv <;> rfl) (by trivial) ?_
  refine AnyE.take (r := .sl 1 0 1 4 (Nat.beq 1 2)) (by kernel_rfl) tok 10 rfl (by cbv <;> rfl) (by cbv <;> rfl) ?_
  refine AnyE.run tok hO (by rfl) (by cbv <;> rfl) (by trivial) ?_
  refine AnyE.callP h0 (by cbv <;> rfl) (by cbv <;> rfl) ?_
  refine AnyE.run tok hO (by rfl) (by cbv <;> rfl) (by trivial) ?_
  refine AnyE.callP h1 (by cbv <;> rfl) (by cbv <;> rfl) ?_
  refine AnyE.run tok hO (by rfl) (by cbv <;> rfl) (by trivial) ?_
  refine AnyE.many [2,3] (by cbv <;> rfl) (by rfl) ⟨?_,?_,trivial⟩
  · refine PickE.eff tok hO (by cbv <;> rfl) (by cbv <;> rfl) (by trivial) ?_ ?_
    · exact (by repeat (first | exact trivial | refine And.intro (by first | exact lv_of hO (by cbv <;> rfl) (by trivial) | (cbv <;> rfl)) ?_))
    refine AnyE.run tok hO (by rfl) (by cbv <;> rfl) (by trivial) ?_
    refine AnyE.callP h3 (by cbv <;> rfl) (by cbv <;> rfl) ?_
    refine AnyE.run tok hO (by rfl) (by cbv <;> rfl) (by trivial) ?_
    refine AnyE.callP h5 (by cbv <;> rfl) (by cbv <;> rfl) ?_
    refine AnyE.run tok hO (by rfl) (by cbv <;> rfl) (by trivial) ?_
    refine AnyE.effK tok hO (by cbv <;> rfl) (by cbv <;> rfl) (by trivial) ?_ ?_
    · exact (by repeat (first | exact trivial | refine And.intro (by first | exact lv_of hO (by cbv <;> rfl) (by trivial) | (cbv <;> rfl)) ?_))
    refine AnyE.run tok hO (by rfl) (by cbv <;> rfl) (by trivial) ?_
    refine AnyE.effK tok hO (by cbv <;> rfl) (by cbv <;> rfl) (by trivial) ?_ ?_
    · exact (by repeat (first | exact trivial | refine And.intro (by first | exact lv_of hO (by cbv <;> rfl) (by trivial) | (cbv <;> rfl)) ?_))
    refine AnyE.run tok hO (by rfl) (by cbv <;> rfl) (by trivial) ?_
    refine SW.ret ⟨_,_,rfl,rfl,?_⟩
    exact Eqv.agg (.cons (Eqv.of rfl) (.cons (Eqv.of rfl) (.cons (by (first | refine Eqv.isl rfl fun i j hi hj => ?_ | refine Eqv.trans Eqv.islX (Eqv.isl rfl fun i j hi hj => ?_)) <;> (obtain rfl | rfl : i = 0 ∨ i = 1 := by omega) <;> (obtain rfl | rfl | rfl | rfl : j = 0 ∨ j = 1 ∨ j = 2 ∨ j = 3 := by omega) <;> first | exact Eqv.of rfl | omega) (.cons (by (first | refine Eqv.isl rfl fun i j hi hj => ?_ | refine Eqv.trans Eqv.islX (Eqv.isl rfl fun i j hi hj => ?_)) <;> (obtain rfl | rfl : i = 0 ∨ i = 1 := by omega) <;> (obtain rfl | rfl | rfl | rfl : j = 0 ∨ j = 1 ∨ j = 2 ∨ j = 3 := by omega) <;> first | exact Eqv.of rfl | omega) (.cons (by (first | refine Eqv.isl rfl fun i j hi hj => ?_ | refine Eqv.trans Eqv.islX (Eqv.isl rfl fun i j hi hj => ?_)) <;> (obtain rfl | rfl : i = 0 ∨ i = 1 := by omega) <;> (obtain rfl | rfl | rfl | rfl : j = 0 ∨ j = 1 ∨ j = 2 ∨ j = 3 := by omega) <;> first | exact Eqv.of rfl | omega) .nil)))))
  · refine PickE.callQ h3 (by cbv <;> rfl) (by cbv <;> rfl) ?_ ?_
    · exact (by repeat (first | exact trivial | refine And.intro (by first | exact lv_of hO (by cbv <;> rfl) (by trivial) | (cbv <;> rfl)) ?_))
    refine AnyE.run tok hO (by rfl) (by cbv <;> rfl) (by trivial) ?_
    refine AnyE.many [2,5] (by cbv <;> rfl) (by rfl) ⟨?_,?_,trivial⟩
    · refine PickE.eff tok hO (by cbv <;> rfl) (by cbv <;> rfl) (by trivial) ?_ ?_
      · exact (by repeat (first | exact trivial | refine And.intro (by first | exact lv_of hO (by cbv <;> rfl) (by trivial) | (cbv <;> rfl)) ?_))
      refine AnyE.run tok hO (by rfl) (by cbv <;> rfl) (by trivial) ?_
      refine AnyE.callP h5 (by cbv <;> rfl) (by cbv <;> rfl) ?_
      refine AnyE.run tok hO (by rfl) (by cbv <;> rfl) (by trivial) ?_
      refine AnyE.effK tok hO (by cbv <;> rfl) (by cbv <;> rfl) (by trivial) ?_ ?_
      · exact (by repeat (first | exact trivial | refine And.intro (by first | exact lv_of hO (by cbv <;> rfl) (by trivial) | (cbv <;> rfl)) ?_))
      refine AnyE.run tok hO (by rfl) (by cbv <;> rfl) (by trivial) ?_
      refine AnyE.effK tok hO (by cbv <;> rfl) (by cbv <;> rfl) (by trivial) ?_ ?_
      · exact (by repeat (first | exact trivial | refine And.intro (by first | exact lv_of hO (by cbv <;> rfl) (by trivial) | (cbv <;> rfl)) ?_))
      refine AnyE.run tok hO (by rfl) (by cbv <;> rfl) (by trivial) ?_
      refine SW.ret ⟨_,_,rfl,rfl,?_⟩
      exact Eqv.agg (.cons (Eqv.of rfl) (.cons (Eqv.of rfl) (.cons (by (first | refine Eqv.isl rfl fun i j hi hj => ?_ | refine Eqv.trans Eqv.islX (Eqv.isl rfl fun i j hi hj => ?_)) <;> (obtain rfl | rfl : i = 0 ∨ i = 1 := by omega) <;> (obtain rfl | rfl | rfl | rfl : j = 0 ∨ j = 1 ∨ j = 2 ∨ j = 3 := by omega) <;> first | exact Eqv.of rfl | omega) (.cons (by (first | refine Eqv.isl rfl fun i j hi hj => ?_ | refine Eqv.trans Eqv.islX (Eqv.isl rfl fun i j hi hj => ?_)) <;> (obtain rfl | rfl : i = 0 ∨ i = 1 := by omega) <;> (obtain rfl | rfl | rfl | rfl : j = 0 ∨ j = 1 ∨ j = 2 ∨ j = 3 := by omega) <;> first | exact Eqv.of rfl | omega) (.cons (by (first | refine Eqv.isl rfl fun i j hi hj => ?_ | refine Eqv.trans Eqv.islX (Eqv.isl rfl fun i j hi hj => ?_)) <;> (obtain rfl | rfl : i = 0 ∨ i = 1 := by omega) <;> (obtain rfl | rfl | rfl | rfl : j = 0 ∨ j = 1 ∨ j = 2 ∨ j = 3 := by omega) <;> first | exact Eqv.of rfl | omega) .nil)))))
    · refine PickE.callQ h5 (by cbv <;> rfl) (by cbv <;> rfl) ?_ ?_
      · exact (by repeat (first | exact trivial | refine And.intro (by first | exact lv_of hO (by cbv <;> rfl) (by trivial) | (cbv <;> rfl)) ?_))
      refine AnyE.run tok hO (by rfl) (by cbv <;> rfl) (by trivial) ?_
      refine AnyE.many [2,7] (by cbv <;> rfl) (by rfl) ⟨?_,?_,trivial⟩
      · refine PickE.eff tok hO (by cbv <;> rfl) (by cbv <;> rfl) (by trivial) ?_ ?_
        · exact (by repeat (first | exact trivial | refine And.intro (by first | exact lv_of hO (by cbv <;> rfl) (by trivial) | (cbv <;> rfl)) ?_))
        refine AnyE.run tok hO (by rfl) (by cbv <;> rfl) (by trivial) ?_
        refine AnyE.effK tok hO (by cbv <;> rfl) (by cbv <;> rfl) (by trivial) ?_ ?_
        · exact (by repeat (first | exact trivial | refine And.intro (by first | exact lv_of hO (by cbv <;> rfl) (by trivial) | (cbv <;> rfl)) ?_))
        refine AnyE.run tok hO (by rfl) (by cbv <;> rfl) (by trivial) ?_
        refine AnyE.effK tok hO (by cbv <;> rfl) (by cbv <;> rfl) (by trivial) ?_ ?_
        · exact (by repeat (first | exact trivial | refine And.intro (by first | exact lv_of hO (by cbv <;> rfl) (by trivial) | (cbv <;> rfl)) ?_))
        refine AnyE.run tok hO (by rfl) (by cbv <;> rfl) (by trivial) ?_
        refine SW.ret ⟨_,_,rfl,rfl,?_⟩
        exact Eqv.agg (.cons (Eqv.of rfl) (.cons (Eqv.of rfl) (.cons (by (first | refine Eqv.isl rfl fun i j hi hj => ?_ | refine Eqv.trans Eqv.islX (Eqv.isl rfl fun i j hi hj => ?_)) <;> (obtain rfl | rfl : i = 0 ∨ i = 1 := by omega) <;> (obtain rfl | rfl | rfl | rfl : j = 0 ∨ j = 1 ∨ j = 2 ∨ j = 3 := by omega) <;> first | exact Eqv.of rfl | omega) (.cons (by (first | refine Eqv.isl rfl fun i j hi hj => ?_ | refine Eqv.trans Eqv.islX (Eqv.isl rfl fun i j hi hj => ?_)) <;> (obtain rfl | rfl : i = 0 ∨ i = 1 := by omega) <;> (obtain rfl | rfl | rfl | rfl : j = 0 ∨ j = 1 ∨ j = 2 ∨ j = 3 := by omega) <;> first | exact Eqv.of rfl | omega) (.cons (by (first | refine Eqv.isl rfl fun i j hi hj => ?_ | refine Eqv.trans Eqv.islX (Eqv.isl rfl fun i j hi hj => ?_)) <;> (obtain rfl | rfl : i = 0 ∨ i = 1 := by omega) <;> (obtain rfl | rfl | rfl | rfl : j = 0 ∨ j = 1 ∨ j = 2 ∨ j = 3 := by omega) <;> first | exact Eqv.of rfl | omega) .nil)))))
      · refine PickE.eff tok hO (by cbv <;> rfl) (by cbv <;> rfl) (by trivial) ?_ ?_
        · exact (by repeat (first | exact trivial | refine And.intro (by first | exact lv_of hO (by cbv <;> rfl) (by trivial) | (cbv <;> rfl)) ?_))
        refine AnyE.run tok hO (by rfl) (by cbv <;> rfl) (by trivial) ?_
        refine AnyE.effK tok hO (by cbv <;> rfl) (by cbv <;> rfl) (by trivial) ?_ ?_
        · exact (by repeat (first | exact trivial | refine And.intro (by first | exact lv_of hO (by cbv <;> rfl) (by trivial) | (cbv <;> rfl)) ?_))
        refine AnyE.run tok hO (by rfl) (by cbv <;> rfl) (by trivial) ?_
        refine AnyE.effK tok hO (by cbv <;> rfl) (by cbv <;> rfl) (by trivial) ?_ ?_
        · exact (by repeat (first | exact trivial | refine And.intro (by first | exact lv_of hO (by cbv <;> rfl) (by trivial) | (cbv <;> rfl)) ?_))
        refine AnyE.run tok hO (by rfl) (by cbv <;> rfl) (by trivial) ?_
        refine SW.ret ⟨_,_,rfl,rfl,?_⟩
        exact Eqv.agg (.cons (Eqv.of rfl) (.cons (Eqv.of rfl) (.cons (by (first | refine Eqv.isl rfl fun i j hi hj => ?_ | refine Eqv.trans Eqv.islX (Eqv.isl rfl fun i j hi hj => ?_)) <;> (obtain rfl | rfl : i = 0 ∨ i = 1 := by omega) <;> (obtain rfl | rfl | rfl | rfl : j = 0 ∨ j = 1 ∨ j = 2 ∨ j = 3 := by omega) <;> first | exact Eqv.of rfl | omega) (.cons (by (first | refine Eqv.isl rfl fun i j hi hj => ?_ | refine Eqv.trans Eqv.islX (Eqv.isl rfl fun i j hi hj => ?_)) <;> (obtain rfl | rfl : i = 0 ∨ i = 1 := by omega) <;> (obtain rfl | rfl | rfl | rfl : j = 0 ∨ j = 1 ∨ j = 2 ∨ j = 3 := by omega) <;> first | exact Eqv.of rfl | omega) (.cons (by (first | refine Eqv.isl rfl fun i j hi hj => ?_ | refine Eqv.trans Eqv.islX (Eqv.isl rfl fun i j hi hj => ?_)) <;> (obtain rfl | rfl : i = 0 ∨ i = 1 := by omega) <;> (obtain rfl | rfl | rfl | rfl : j = 0 ∨ j = 1 ∨ j = 2 ∨ j = 3 := by omega) <;> first | exact Eqv.of rfl | omega) .nil)))))
set_option maxHeartbeats 16000000 in
theorem two_ok2 : Pure Try.prog 35 [iV 2] (dayV (twoD 2)) := by
  obtain ⟨O,hO⟩ : ∃ O : Ar,O = std := ⟨_,rfl⟩
  have ha := between_ok 2 2
  have hb := between_ok 5 9
  have h0 := between_ok 20 22
  have h1 := between_ok 25 25
  have h3 := between_ok 500 502
  have h5 := between_ok 610 610
  refine pure_of_body tok 4 Try.func35 en35 rfl ⟨Below.lit,trivial⟩ (dayV_below _) ?_
  refine SW.seqRun tok hO (by cbv <;> rfl) (by trivial) ?_
  refine SW.seqRun tok hO (by cbv <;> rfl) (by trivial) ?_
  refine OpsW.callP ha (by cbv <;> rfl) ?_
  refine OpsW.run tok hO (by cbv <;> rfl) (by trivial) ?_
  refine OpsW.callP hb (by cbv <;> rfl) ?_
  refine OpsW.run tok hO (by cbv <;> rfl) (by trivial) ?_
  refine SW.seqRunD tok mixed hO (by kernel_rfl) (by cbv <;> rfl) (by trivial) ?_
  refine AnyE.take (r := .sl 1 0 2 4 (Nat.beq 2 2)) (by kernel_rfl) tok 10 rfl (by cbv <;> rfl) (by cbv <;> rfl) ?_
  refine AnyE.run tok hO (by rfl) (by cbv <;> rfl) (by trivial) ?_
  refine AnyE.callP h0 (by cbv <;> rfl) (by cbv <;> rfl) ?_
  refine AnyE.run tok hO (by rfl) (by cbv <;> rfl) (by trivial) ?_
  refine AnyE.callP h1 (by cbv <;> rfl) (by cbv <;> rfl) ?_
  refine AnyE.run tok hO (by rfl) (by cbv <;> rfl) (by trivial) ?_
  refine AnyE.many [2,3] (by cbv <;> rfl) (by rfl) ⟨?_,?_,trivial⟩
  · refine PickE.eff tok hO (by cbv <;> rfl) (by cbv <;> rfl) (by trivial) ?_ ?_
    · exact (by repeat (first | exact trivial | refine And.intro (by first | exact lv_of hO (by cbv <;> rfl) (by trivial) | (cbv <;> rfl)) ?_))
    refine AnyE.run tok hO (by rfl) (by cbv <;> rfl) (by trivial) ?_
    refine AnyE.callP h3 (by cbv <;> rfl) (by cbv <;> rfl) ?_
    refine AnyE.run tok hO (by rfl) (by cbv <;> rfl) (by trivial) ?_
    refine AnyE.callP h5 (by cbv <;> rfl) (by cbv <;> rfl) ?_
    refine AnyE.run tok hO (by rfl) (by cbv <;> rfl) (by trivial) ?_
    refine AnyE.effK tok hO (by cbv <;> rfl) (by cbv <;> rfl) (by trivial) ?_ ?_
    · exact (by repeat (first | exact trivial | refine And.intro (by first | exact lv_of hO (by cbv <;> rfl) (by trivial) | (cbv <;> rfl)) ?_))
    refine AnyE.run tok hO (by rfl) (by cbv <;> rfl) (by trivial) ?_
    refine AnyE.effK tok hO (by cbv <;> rfl) (by cbv <;> rfl) (by trivial) ?_ ?_
    · exact (by repeat (first | exact trivial | refine And.intro (by first | exact lv_of hO (by cbv <;> rfl) (by trivial) | (cbv <;> rfl)) ?_))
    refine AnyE.run tok hO (by rfl) (by cbv <;> rfl) (by trivial) ?_
    refine SW.ret ⟨_,_,rfl,rfl,?_⟩
    exact Eqv.agg (.cons (Eqv.of rfl) (.cons (Eqv.of rfl) (.cons (by (first | refine Eqv.isl rfl fun i j hi hj => ?_ | refine Eqv.trans Eqv.islX (Eqv.isl rfl fun i j hi hj => ?_)) <;> (obtain rfl | rfl : i = 0 ∨ i = 1 := by omega) <;> (obtain rfl | rfl | rfl | rfl : j = 0 ∨ j = 1 ∨ j = 2 ∨ j = 3 := by omega) <;> first | exact Eqv.of rfl | omega) (.cons (by (first | refine Eqv.isl rfl fun i j hi hj => ?_ | refine Eqv.trans Eqv.islX (Eqv.isl rfl fun i j hi hj => ?_)) <;> (obtain rfl | rfl : i = 0 ∨ i = 1 := by omega) <;> (obtain rfl | rfl | rfl | rfl : j = 0 ∨ j = 1 ∨ j = 2 ∨ j = 3 := by omega) <;> first | exact Eqv.of rfl | omega) (.cons (by (first | refine Eqv.isl rfl fun i j hi hj => ?_ | refine Eqv.trans Eqv.islX (Eqv.isl rfl fun i j hi hj => ?_)) <;> (obtain rfl | rfl : i = 0 ∨ i = 1 := by omega) <;> (obtain rfl | rfl | rfl | rfl : j = 0 ∨ j = 1 ∨ j = 2 ∨ j = 3 := by omega) <;> first | exact Eqv.of rfl | omega) .nil)))))
  · refine PickE.callQ h3 (by cbv <;> rfl) (by cbv <;> rfl) ?_ ?_
    · exact (by repeat (first | exact trivial | refine And.intro (by first | exact lv_of hO (by cbv <;> rfl) (by trivial) | (cbv <;> rfl)) ?_))
    refine AnyE.run tok hO (by rfl) (by cbv <;> rfl) (by trivial) ?_
    refine AnyE.many [2,5] (by cbv <;> rfl) (by rfl) ⟨?_,?_,trivial⟩
    · refine PickE.eff tok hO (by cbv <;> rfl) (by cbv <;> rfl) (by trivial) ?_ ?_
      · exact (by repeat (first | exact trivial | refine And.intro (by first | exact lv_of hO (by cbv <;> rfl) (by trivial) | (cbv <;> rfl)) ?_))
      refine AnyE.run tok hO (by rfl) (by cbv <;> rfl) (by trivial) ?_
      refine AnyE.callP h5 (by cbv <;> rfl) (by cbv <;> rfl) ?_
      refine AnyE.run tok hO (by rfl) (by cbv <;> rfl) (by trivial) ?_
      refine AnyE.effK tok hO (by cbv <;> rfl) (by cbv <;> rfl) (by trivial) ?_ ?_
      · exact (by repeat (first | exact trivial | refine And.intro (by first | exact lv_of hO (by cbv <;> rfl) (by trivial) | (cbv <;> rfl)) ?_))
      refine AnyE.run tok hO (by rfl) (by cbv <;> rfl) (by trivial) ?_
      refine AnyE.effK tok hO (by cbv <;> rfl) (by cbv <;> rfl) (by trivial) ?_ ?_
      · exact (by repeat (first | exact trivial | refine And.intro (by first | exact lv_of hO (by cbv <;> rfl) (by trivial) | (cbv <;> rfl)) ?_))
      refine AnyE.run tok hO (by rfl) (by cbv <;> rfl) (by trivial) ?_
      refine SW.ret ⟨_,_,rfl,rfl,?_⟩
      exact Eqv.agg (.cons (Eqv.of rfl) (.cons (Eqv.of rfl) (.cons (by (first | refine Eqv.isl rfl fun i j hi hj => ?_ | refine Eqv.trans Eqv.islX (Eqv.isl rfl fun i j hi hj => ?_)) <;> (obtain rfl | rfl : i = 0 ∨ i = 1 := by omega) <;> (obtain rfl | rfl | rfl | rfl : j = 0 ∨ j = 1 ∨ j = 2 ∨ j = 3 := by omega) <;> first | exact Eqv.of rfl | omega) (.cons (by (first | refine Eqv.isl rfl fun i j hi hj => ?_ | refine Eqv.trans Eqv.islX (Eqv.isl rfl fun i j hi hj => ?_)) <;> (obtain rfl | rfl : i = 0 ∨ i = 1 := by omega) <;> (obtain rfl | rfl | rfl | rfl : j = 0 ∨ j = 1 ∨ j = 2 ∨ j = 3 := by omega) <;> first | exact Eqv.of rfl | omega) (.cons (by (first | refine Eqv.isl rfl fun i j hi hj => ?_ | refine Eqv.trans Eqv.islX (Eqv.isl rfl fun i j hi hj => ?_)) <;> (obtain rfl | rfl : i = 0 ∨ i = 1 := by omega) <;> (obtain rfl | rfl | rfl | rfl : j = 0 ∨ j = 1 ∨ j = 2 ∨ j = 3 := by omega) <;> first | exact Eqv.of rfl | omega) .nil)))))
    · refine PickE.callQ h5 (by cbv <;> rfl) (by cbv <;> rfl) ?_ ?_
      · exact (by repeat (first | exact trivial | refine And.intro (by first | exact lv_of hO (by cbv <;> rfl) (by trivial) | (cbv <;> rfl)) ?_))
      refine AnyE.run tok hO (by rfl) (by cbv <;> rfl) (by trivial) ?_
      refine AnyE.many [2,7] (by cbv <;> rfl) (by rfl) ⟨?_,?_,trivial⟩
      · refine PickE.eff tok hO (by cbv <;> rfl) (by cbv <;> rfl) (by trivial) ?_ ?_
        · exact (by repeat (first | exact trivial | refine And.intro (by first | exact lv_of hO (by cbv <;> rfl) (by trivial) | (cbv <;> rfl)) ?_))
        refine AnyE.run tok hO (by rfl) (by cbv <;> rfl) (by trivial) ?_
        refine AnyE.effK tok hO (by cbv <;> rfl) (by cbv <;> rfl) (by trivial) ?_ ?_
        · exact (by repeat (first | exact trivial | refine And.intro (by first | exact lv_of hO (by cbv <;> rfl) (by trivial) | (cbv <;> rfl)) ?_))
        refine AnyE.run tok hO (by rfl) (by cbv <;> rfl) (by trivial) ?_
        refine AnyE.effK tok hO (by cbv <;> rfl) (by cbv <;> rfl) (by trivial) ?_ ?_
        · exact (by repeat (first | exact trivial | refine And.intro (by first | exact lv_of hO (by cbv <;> rfl) (by trivial) | (cbv <;> rfl)) ?_))
        refine AnyE.run tok hO (by rfl) (by cbv <;> rfl) (by trivial) ?_
        refine SW.ret ⟨_,_,rfl,rfl,?_⟩
        exact Eqv.agg (.cons (Eqv.of rfl) (.cons (Eqv.of rfl) (.cons (by (first | refine Eqv.isl rfl fun i j hi hj => ?_ | refine Eqv.trans Eqv.islX (Eqv.isl rfl fun i j hi hj => ?_)) <;> (obtain rfl | rfl : i = 0 ∨ i = 1 := by omega) <;> (obtain rfl | rfl | rfl | rfl : j = 0 ∨ j = 1 ∨ j = 2 ∨ j = 3 := by omega) <;> first | exact Eqv.of rfl | omega) (.cons (by (first | refine Eqv.isl rfl fun i j hi hj => ?_ | refine Eqv.trans Eqv.islX (Eqv.isl rfl fun i j hi hj => ?_)) <;> (obtain rfl | rfl : i = 0 ∨ i = 1 := by omega) <;> (obtain rfl | rfl | rfl | rfl : j = 0 ∨ j = 1 ∨ j = 2 ∨ j = 3 := by omega) <;> first | exact Eqv.of rfl | omega) (.cons (by (first | refine Eqv.isl rfl fun i j hi hj => ?_ | refine Eqv.trans Eqv.islX (Eqv.isl rfl fun i j hi hj => ?_)) <;> (obtain rfl | rfl : i = 0 ∨ i = 1 := by omega) <;> (obtain rfl | rfl | rfl | rfl : j = 0 ∨ j = 1 ∨ j = 2 ∨ j = 3 := by omega) <;> first | exact Eqv.of rfl | omega) .nil)))))
      · refine PickE.eff tok hO (by cbv <;> rfl) (by cbv <;> rfl) (by trivial) ?_ ?_
        · exact (by repeat (first | exact trivial | refine And.intro (by first | exact lv_of hO (by cbv <;> rfl) (by trivial) | (cbv <;> rfl)) ?_))
        refine AnyE.run tok hO (by rfl) (by cbv <;> rfl) (by trivial) ?_
        refine AnyE.effK tok hO (by cbv <;> rfl) (by cbv <;> rfl) (by trivial) ?_ ?_
        · exact (by repeat (first | exact trivial | refine And.intro (by first | exact lv_of hO (by cbv <;> rfl) (by trivial) | (cbv <;> rfl)) ?_))
        refine AnyE.run tok hO (by rfl) (by cbv <;> rfl) (by trivial) ?_
        refine AnyE.effK tok hO (by cbv <;> rfl) (by cbv <;> rfl) (by trivial) ?_ ?_
        · exact (by repeat (first | exact trivial | refine And.intro (by first | exact lv_of hO (by cbv <;> rfl) (by trivial) | (cbv <;> rfl)) ?_))
        refine AnyE.run tok hO (by rfl) (by cbv <;> rfl) (by trivial) ?_
        refine SW.ret ⟨_,_,rfl,rfl,?_⟩
        exact Eqv.agg (.cons (Eqv.of rfl) (.cons (Eqv.of rfl) (.cons (by (first | refine Eqv.isl rfl fun i j hi hj => ?_ | refine Eqv.trans Eqv.islX (Eqv.isl rfl fun i j hi hj => ?_)) <;> (obtain rfl | rfl : i = 0 ∨ i = 1 := by omega) <;> (obtain rfl | rfl | rfl | rfl : j = 0 ∨ j = 1 ∨ j = 2 ∨ j = 3 := by omega) <;> first | exact Eqv.of rfl | omega) (.cons (by (first | refine Eqv.isl rfl fun i j hi hj => ?_ | refine Eqv.trans Eqv.islX (Eqv.isl rfl fun i j hi hj => ?_)) <;> (obtain rfl | rfl : i = 0 ∨ i = 1 := by omega) <;> (obtain rfl | rfl | rfl | rfl : j = 0 ∨ j = 1 ∨ j = 2 ∨ j = 3 := by omega) <;> first | exact Eqv.of rfl | omega) (.cons (by (first | refine Eqv.isl rfl fun i j hi hj => ?_ | refine Eqv.trans Eqv.islX (Eqv.isl rfl fun i j hi hj => ?_)) <;> (obtain rfl | rfl : i = 0 ∨ i = 1 := by omega) <;> (obtain rfl | rfl | rfl | rfl : j = 0 ∨ j = 1 ∨ j = 2 ∨ j = 3 := by omega) <;> first | exact Eqv.of rfl | omega) .nil)))))
end Go.Fz
