/- Own work of the verifier of watercress: FzB36. -/
import Derived.Test.YtkomalgeigefjaaMc14
set_option linter.unusedVariables false
set_option linter.unusedSimpArgs false
namespace Go.Fz
open Go.Proofs
set_option maxRecDepth 100000
def lenF (nl k m : Nat) : Nat := nl - m + (if m ≤ k then 1 else 0)
def imI : Nat → Int
  | 0 => -1
  | m + 1 => Int.ofNat m
def loH (x : DayD) (us : Nat → Int) : Nat → Hp
  | 0 => []
  | j + 1 => [(4, .cells none false (flatG 3 (lotC x) (j + 1))), (5, .cells none false (flatG 1 (intC us) (j + 1)))]
def loF (k : Nat) (n : Int) (m : Nat) : Fm := ⟨⟨205, getT [(4, .ptr 0 0), (9, .ptr 1 0), (10, .lit (.int .i64 (Int.ofNat k))), (11, iV n), (12, .ptr 2 0), (13, .ptr 3 0), (14, iV (imI m))]⟩, []⟩
def loSt (d : DayD) (t : TruD) (x : DayD) (us : Nat → Int) (len : Nat) : St := loS d t (slG 4 3 len) (slG 5 1 len) (loH x us len) 6
noncomputable def lotBody : Code := match nthC 8 (bodyF Try.f6) with
  | .seq _ (.block _ (.loop c)) => c
  | c => c
def loR (d : DayD) (t : TruD) (x : DayD) (us : Nat → Int) (k : Nat) (n : Int) (m : Nat) (Q : Exit → Fm → St → Prop) : Exit → Fm → St → Prop :=
  thenQ (fun f' st' => ∃ y : Nat × Nat, y.1 < m ∧ (y.1 ≤ d.nl ∧ y.2 = lenF d.nl k y.1) ∧ ∃ ρ, WeakR 4 ρ f' st' (loF k n y.1) (loSt d t x us y.2)) Q
theorem loX_below (d : DayD) {XL : AV} {ρ : Nat → Nat} {n : Nat} {XL1 : AV} (h : RenV ρ n XL XL1) : RenVs ρ n (loX d XL) (loX d XL1) :=
  .cons (RenV.closed Below.lit) (.cons (RenV.closed Below.lit) (.cons (RenV.closed (womsV_below d)) (.cons h (.cons (RenV.closed Below.lit) .nil))))
theorem loU_below (t : TruD) {XS : AV} {ρ : Nat → Nat} {n : Nat} {XS1 : AV} (h : RenV ρ n XS XS1) : RenVs ρ n [intsV t.nf t.ef t.fe, XS] [intsV t.nf t.ef t.fe, XS1] :=
  .cons (RenV.closed (intsV_below _ _ _)) (.cons h .nil)
theorem dec_ok {O : Ar} (hO : O = std) {m : Nat} (h : m < 1000) : O.bin .sub .i64 (Int.ofNat m) 1 = imI m := by
  subst hO
  show wrp .i64 ((m : Int) - 1) = imI m
  rw [wrp_in (by simp only [IntKind.lo]; omega) (by simp only [IntKind.hi]; omega)]
  cases m with
  | zero => rfl
  | succ m => show ((m + 1 : Nat) : Int) - 1 = Int.ofNat m; simp
set_option maxHeartbeats 16000000 in
theorem lots_r0 (d : DayD) (t : TruD) (x : DayD) (us : Nat → Int) (k : Nat) (n : Int) (m : Nat) (O : Ar) (hO : O = std) (hnl : d.nl < 1000) (hne : m ≠ k) (hm : m < d.nl) (hms : m < t.ns) (hlen : lenF d.nl k m = 0 + 1) (x1 : x.lw 0 = d.lw m) (x2 : x.llo 0 = d.llo m) (x3 : x.lhi 0 = d.lhi m) (x4 : us 0 = t.st m) (Q : Exit → Fm → St → Prop) :
    SW Try.prog none lotBody (loR d t x us k n (m + 1) Q) (loF k n (m + 1)) (loSt d t x us (0)) := by
  have hnat : ∀ i : Nat, O.nat (Int.ofNat i) = i := fun i => by subst hO; rfl
  have hdec := dec_ok hO (m := m) (by omega)
  have h0 : (0 : Int) ≤ Int.ofNat m := Int.natCast_nonneg m
  have hii : 0 ≤ Int.ofNat m ∧ Int.ofNat m < (d.nl : Int) := ⟨h0, Int.ofNat_lt.2 hm⟩
  have hss : 0 ≤ Int.ofNat m ∧ Int.ofNat m < (t.ns : Int) := ⟨h0, Int.ofNat_lt.2 hms⟩
  have eL : [iV (d.lw (O.nat (Int.ofNat m))), iV (d.llo (O.nat (Int.ofNat m))), iV (d.lhi (O.nat (Int.ofNat m)))] = flatG 3 (lotC x) 1 := by rw [hnat, ← x1, ← x2, ← x3]; rfl
  have eS : [iV (t.st (O.nat (Int.ofNat m)))] = flatG 1 (intC us) 1 := by rw [hnat, ← x4]; rfl
  show SW _ _ _ _ _ (loS d t nl3 nl3 [] 6)
  refine SW.seq ?_
  refine SW.seqRun tok hO (by cbv <;> rfl) (by trivial) ?_
  refine SW.condS (by cbv <;> rfl) (fun h1 => SW.skip ?_) (fun h1 => ?_)
  rotate_left
  · exfalso; subst hO; simp [std, imI] at h1
  refine SW.seq (SW.block ?_)
  refine SW.seqRun tok hO (by cbv <;> rfl) ?_ ?_
  · exact hii
  refine SW.seqRun tok hO (by cbv <;> rfl) (by trivial) ?_
  refine SW.condS (by cbv <;> rfl) (fun h2 => ?_) (fun h2 => ?_)
  · exfalso
    have : (m : Int) = k := by subst hO; simpa [std] using h2
    omega
  refine SW.runDN tok mixed hO 6 (by kernel_rfl) (by cbv <;> rfl) (by trivial) ?_
  refine AnyE.runN tok hO 8 (by kernel_rfl) (by cbv <;> rfl) (by first | trivial | exact hss) ?_
  refine AnyE.many [3, 12] (by cbv <;> rfl) (by rfl) ⟨?_, ?_, trivial⟩
  · refine PickE.eff tok hO (by cbv <;> rfl) (by cbv <;> rfl) (by trivial) ?_ ?_
    · exact (by repeat (first | exact trivial | refine And.intro (by first | exact lv_of hO (by cbv <;> rfl) (by trivial) | (cbv <;> rfl)) ?_))
    refine AnyE.run tok hO (by kernel_rfl) (by cbv <;> rfl) (by trivial) ?_
    refine AnyE.many [4, 12] (by cbv <;> rfl) (by rfl) ⟨?_, ?_, trivial⟩
    · refine PickE.appNilM tok (by cbv <;> rfl) (by cbv <;> rfl) (by rfl) (by kernel_rfl) (by rfl) (by rfl) (by rfl) ?_ ?_
      · exact (by repeat (first | exact trivial | refine And.intro (by first | exact lv_of hO (by cbv <;> rfl) (by trivial) | (cbv <;> rfl)) ?_))
      refine AnyE.run tok hO (by kernel_rfl) (by cbv <;> rfl) (by trivial) ?_
      refine AnyE.many [12] (by cbv <;> rfl) (by rfl) ⟨?_, trivial⟩
      · refine PickE.eff tok hO (by cbv <;> rfl) (by cbv <;> rfl) (by trivial) ?_ ?_
        · exact (by repeat (first | exact trivial | refine And.intro (by first | exact lv_of hO (by cbv <;> rfl) (by trivial) | (cbv <;> rfl)) ?_))
        refine AnyE.run tok hO (by kernel_rfl) (by cbv <;> rfl) (by trivial) ?_
        refine AnyE.many [13] (by cbv <;> rfl) (by rfl) ⟨?_, trivial⟩
        · refine PickE.appNilM tok (by cbv <;> rfl) (by cbv <;> rfl) (by rfl) (by kernel_rfl) (by rfl) (by rfl) (by rfl) ?_ ?_
          · exact (by repeat (first | exact trivial | refine And.intro (by first | exact lv_of hO (by cbv <;> rfl) (by trivial) | (cbv <;> rfl)) ?_))
          refine AnyE.run tok hO (by kernel_rfl) (by cbv <;> rfl) (by trivial) ?_
          refine AnyE.many [15] (by cbv <;> rfl) (by rfl) ⟨?_, trivial⟩
          · refine PickE.eff tok hO (by cbv <;> rfl) (by cbv <;> rfl) (by trivial) ?_ ?_
            · exact (by repeat (first | exact trivial | refine And.intro (by first | exact lv_of hO (by cbv <;> rfl) (by trivial) | (cbv <;> rfl)) ?_))
            refine AnyE.run tok hO (by kernel_rfl) (by cbv <;> rfl) (by trivial) ?_
            refine AnyE.many [17] (by cbv <;> rfl) (by rfl) ⟨?_, trivial⟩
            · refine PickE.eff tok hO (by cbv <;> rfl) (by cbv <;> rfl) (by trivial) ?_ ?_
              · exact (by repeat (first | exact trivial | refine And.intro (by first | exact lv_of hO (by cbv <;> rfl) (by trivial) | (cbv <;> rfl)) ?_))
              refine AnyE.run tok hO (by kernel_rfl) (by cbv <;> rfl) (by trivial) ?_
              refine SW.run tok hO (by cbv <;> rfl) (by trivial) ?_
              refine ⟨(m, 1), Nat.lt_succ_self m, ⟨by show m ≤ d.nl; omega, by show _ = lenF d.nl k m; omega⟩, tabR [(4, 8), (5, 10)], ?_⟩
              refine WeakR.tabF (fun _ => none) (fun _ _ _ h => by cases h) rfl rfl (by simp) (by rfl) (by show 4 ≤ 6; omega) (by rfl) ⟨RenV.ptr (by omega), RenV.ptr (by omega), RenV.closed Below.lit, RenV.closed Below.lit, RenV.ptr (by omega), RenV.ptr (by omega), ?_, trivial⟩ ⟨⟨by omega, _, rfl, .cells (loU_below t (RenV.sl (by omega))), rfl⟩, ⟨by omega, _, rfl, .cells (loX_below d (RenV.sl (by omega))), rfl⟩, ⟨by omega, _, rfl, .cells (RenVs.closed (truC_below t)), rfl⟩, ⟨by omega, _, rfl, .cells (RenVs.closed (dayC_below d)), rfl⟩, ⟨by omega, _, rfl, .cells (RenVs.of_eq ?_ (flatG_below (lotC_below x) _)), rfl⟩, ⟨by omega, _, rfl, .cells (RenVs.of_eq ?_ (flatG_below (intC_below us) _)), rfl⟩, trivial⟩
              · show RenV _ _ (iV (imI m)) (iV (O.bin .sub .i64 (Int.ofNat m) 1))
                rw [hdec]; exact RenV.closed Below.lit
              · exact eL
              · exact eS
    · refine PickE.eff tok hO (by cbv <;> rfl) (by cbv <;> rfl) (by trivial) ?_ ?_
      · exact (by repeat (first | exact trivial | refine And.intro (by first | exact lv_of hO (by cbv <;> rfl) (by trivial) | (cbv <;> rfl)) ?_))
      refine AnyE.run tok hO (by kernel_rfl) (by cbv <;> rfl) (by trivial) ?_
      refine AnyE.many [4] (by cbv <;> rfl) (by rfl) ⟨?_, trivial⟩
      · refine PickE.appNilM tok (by cbv <;> rfl) (by cbv <;> rfl) (by rfl) (by kernel_rfl) (by rfl) (by rfl) (by rfl) ?_ ?_
        · exact (by repeat (first | exact trivial | refine And.intro (by first | exact lv_of hO (by cbv <;> rfl) (by trivial) | (cbv <;> rfl)) ?_))
        refine AnyE.run tok hO (by kernel_rfl) (by cbv <;> rfl) (by trivial) ?_
        refine AnyE.many [13] (by cbv <;> rfl) (by rfl) ⟨?_, trivial⟩
        · refine PickE.appNilM tok (by cbv <;> rfl) (by cbv <;> rfl) (by rfl) (by kernel_rfl) (by rfl) (by rfl) (by rfl) ?_ ?_
          · exact (by repeat (first | exact trivial | refine And.intro (by first | exact lv_of hO (by cbv <;> rfl) (by trivial) | (cbv <;> rfl)) ?_))
          refine AnyE.run tok hO (by kernel_rfl) (by cbv <;> rfl) (by trivial) ?_
          refine AnyE.many [15] (by cbv <;> rfl) (by rfl) ⟨?_, trivial⟩
          · refine PickE.eff tok hO (by cbv <;> rfl) (by cbv <;> rfl) (by trivial) ?_ ?_
            · exact (by repeat (first | exact trivial | refine And.intro (by first | exact lv_of hO (by cbv <;> rfl) (by trivial) | (cbv <;> rfl)) ?_))
            refine AnyE.run tok hO (by kernel_rfl) (by cbv <;> rfl) (by trivial) ?_
            refine AnyE.many [17] (by cbv <;> rfl) (by rfl) ⟨?_, trivial⟩
            · refine PickE.eff tok hO (by cbv <;> rfl) (by cbv <;> rfl) (by trivial) ?_ ?_
              · exact (by repeat (first | exact trivial | refine And.intro (by first | exact lv_of hO (by cbv <;> rfl) (by trivial) | (cbv <;> rfl)) ?_))
              refine AnyE.run tok hO (by kernel_rfl) (by cbv <;> rfl) (by trivial) ?_
              refine SW.run tok hO (by cbv <;> rfl) (by trivial) ?_
              refine ⟨(m, 1), Nat.lt_succ_self m, ⟨by show m ≤ d.nl; omega, by show _ = lenF d.nl k m; omega⟩, tabR [(4, 9), (5, 10)], ?_⟩
              refine WeakR.tabF (fun _ => none) (fun _ _ _ h => by cases h) rfl rfl (by simp) (by rfl) (by show 4 ≤ 6; omega) (by rfl) ⟨RenV.ptr (by omega), RenV.ptr (by omega), RenV.closed Below.lit, RenV.closed Below.lit, RenV.ptr (by omega), RenV.ptr (by omega), ?_, trivial⟩ ⟨⟨by omega, _, rfl, .cells (loU_below t (RenV.sl (by omega))), rfl⟩, ⟨by omega, _, rfl, .cells (loX_below d (RenV.sl (by omega))), rfl⟩, ⟨by omega, _, rfl, .cells (RenVs.closed (truC_below t)), rfl⟩, ⟨by omega, _, rfl, .cells (RenVs.closed (dayC_below d)), rfl⟩, ⟨by omega, _, rfl, .cells (RenVs.of_eq ?_ (flatG_below (lotC_below x) _)), rfl⟩, ⟨by omega, _, rfl, .cells (RenVs.of_eq ?_ (flatG_below (intC_below us) _)), rfl⟩, trivial⟩
              · show RenV _ _ (iV (imI m)) (iV (O.bin .sub .i64 (Int.ofNat m) 1))
                rw [hdec]; exact RenV.closed Below.lit
              · exact eL
              · exact eS
  · refine PickE.eff tok hO (by cbv <;> rfl) (by cbv <;> rfl) (by trivial) ?_ ?_
    · exact (by repeat (first | exact trivial | refine And.intro (by first | exact lv_of hO (by cbv <;> rfl) (by trivial) | (cbv <;> rfl)) ?_))
    refine AnyE.run tok hO (by kernel_rfl) (by cbv <;> rfl) (by trivial) ?_
    refine AnyE.many [3] (by cbv <;> rfl) (by rfl) ⟨?_, trivial⟩
    · refine PickE.eff tok hO (by cbv <;> rfl) (by cbv <;> rfl) (by trivial) ?_ ?_
      · exact (by repeat (first | exact trivial | refine And.intro (by first | exact lv_of hO (by cbv <;> rfl) (by trivial) | (cbv <;> rfl)) ?_))
      refine AnyE.run tok hO (by kernel_rfl) (by cbv <;> rfl) (by trivial) ?_
      refine AnyE.many [4] (by cbv <;> rfl) (by rfl) ⟨?_, trivial⟩
      · refine PickE.appNilM tok (by cbv <;> rfl) (by cbv <;> rfl) (by rfl) (by kernel_rfl) (by rfl) (by rfl) (by rfl) ?_ ?_
        · exact (by repeat (first | exact trivial | refine And.intro (by first | exact lv_of hO (by cbv <;> rfl) (by trivial) | (cbv <;> rfl)) ?_))
        refine AnyE.run tok hO (by kernel_rfl) (by cbv <;> rfl) (by trivial) ?_
        refine AnyE.many [13] (by cbv <;> rfl) (by rfl) ⟨?_, trivial⟩
        · refine PickE.appNilM tok (by cbv <;> rfl) (by cbv <;> rfl) (by rfl) (by kernel_rfl) (by rfl) (by rfl) (by rfl) ?_ ?_
          · exact (by repeat (first | exact trivial | refine And.intro (by first | exact lv_of hO (by cbv <;> rfl) (by trivial) | (cbv <;> rfl)) ?_))
          refine AnyE.run tok hO (by kernel_rfl) (by cbv <;> rfl) (by trivial) ?_
          refine AnyE.many [15] (by cbv <;> rfl) (by rfl) ⟨?_, trivial⟩
          · refine PickE.eff tok hO (by cbv <;> rfl) (by cbv <;> rfl) (by trivial) ?_ ?_
            · exact (by repeat (first | exact trivial | refine And.intro (by first | exact lv_of hO (by cbv <;> rfl) (by trivial) | (cbv <;> rfl)) ?_))
            refine AnyE.run tok hO (by kernel_rfl) (by cbv <;> rfl) (by trivial) ?_
            refine AnyE.many [17] (by cbv <;> rfl) (by rfl) ⟨?_, trivial⟩
            · refine PickE.eff tok hO (by cbv <;> rfl) (by cbv <;> rfl) (by trivial) ?_ ?_
              · exact (by repeat (first | exact trivial | refine And.intro (by first | exact lv_of hO (by cbv <;> rfl) (by trivial) | (cbv <;> rfl)) ?_))
              refine AnyE.run tok hO (by kernel_rfl) (by cbv <;> rfl) (by trivial) ?_
              refine SW.run tok hO (by cbv <;> rfl) (by trivial) ?_
              refine ⟨(m, 1), Nat.lt_succ_self m, ⟨by show m ≤ d.nl; omega, by show _ = lenF d.nl k m; omega⟩, tabR [(4, 9), (5, 10)], ?_⟩
              refine WeakR.tabF (fun _ => none) (fun _ _ _ h => by cases h) rfl rfl (by simp) (by rfl) (by show 4 ≤ 6; omega) (by rfl) ⟨RenV.ptr (by omega), RenV.ptr (by omega), RenV.closed Below.lit, RenV.closed Below.lit, RenV.ptr (by omega), RenV.ptr (by omega), ?_, trivial⟩ ⟨⟨by omega, _, rfl, .cells (loU_below t (RenV.sl (by omega))), rfl⟩, ⟨by omega, _, rfl, .cells (loX_below d (RenV.sl (by omega))), rfl⟩, ⟨by omega, _, rfl, .cells (RenVs.closed (truC_below t)), rfl⟩, ⟨by omega, _, rfl, .cells (RenVs.closed (dayC_below d)), rfl⟩, ⟨by omega, _, rfl, .cells (RenVs.of_eq ?_ (flatG_below (lotC_below x) _)), rfl⟩, ⟨by omega, _, rfl, .cells (RenVs.of_eq ?_ (flatG_below (intC_below us) _)), rfl⟩, trivial⟩
              · show RenV _ _ (iV (imI m)) (iV (O.bin .sub .i64 (Int.ofNat m) 1))
                rw [hdec]; exact RenV.closed Below.lit
              · exact eL
              · exact eS
set_option maxHeartbeats 16000000 in
theorem lots_r0k (d : DayD) (t : TruD) (x : DayD) (us : Nat → Int) (k : Nat) (n : Int) (m : Nat) (s : Int) (O : Ar) (hO : O = std) (hnl : d.nl < 1000) (hmk : m = k) (hm : m < d.nl) (hms : m < t.ns) (hlen : lenF d.nl k m = 0 + 2) (x1 : x.lw 0 = d.lw m) (x2 : x.llo 0 = n) (x3 : x.lhi 0 = n) (x4 : us 0 = n) (y1 : x.lw 1 = d.lw m) (y2 : x.llo 1 = s) (y3 : x.lhi 1 = s) (y4 : us 1 = s) (hs : O.bin .sub .i64 (t.st (O.nat (Int.ofNat k))) n = s) (Q : Exit → Fm → St → Prop) :
    SW Try.prog none lotBody (loR d t x us k n (m + 1) Q) (loF k n (m + 1)) (loSt d t x us (0)) := by
  have hnat : ∀ i : Nat, O.nat (Int.ofNat i) = i := fun i => by subst hO; rfl
  have hdec := dec_ok hO (m := m) (by omega)
  have h0 : (0 : Int) ≤ Int.ofNat m := Int.natCast_nonneg m
  have hii : 0 ≤ Int.ofNat m ∧ Int.ofNat m < (d.nl : Int) := ⟨h0, Int.ofNat_lt.2 hm⟩
  have hss : 0 ≤ Int.ofNat m ∧ Int.ofNat m < (t.ns : Int) := ⟨h0, Int.ofNat_lt.2 hms⟩
  subst hmk
  have hkk := hss
  have eL : [iV (d.lw (O.nat (Int.ofNat m))), iV n, iV n, iV (d.lw (O.nat (Int.ofNat m))), iV (O.bin .sub .i64 (t.st (O.nat (Int.ofNat m))) n), iV (O.bin .sub .i64 (t.st (O.nat (Int.ofNat m))) n)] = flatG 3 (lotC x) 2 := by
    rw [hs, hnat]
    show _ = [iV (x.lw 0), iV (x.llo 0), iV (x.lhi 0), iV (x.lw 1), iV (x.llo 1), iV (x.lhi 1)]
    rw [x1, x2, x3, y1, y2, y3]
  have eS : [iV n, iV (O.bin .sub .i64 (t.st (O.nat (Int.ofNat m))) n)] = flatG 1 (intC us) 2 := by
    rw [hs]
    show _ = [iV (us 0), iV (us 1)]
    rw [x4, y4]
  show SW _ _ _ _ _ (loS d t nl3 nl3 [] 6)
  refine SW.seq ?_
  refine SW.seqRun tok hO (by cbv <;> rfl) (by trivial) ?_
  refine SW.condS (by cbv <;> rfl) (fun h1 => SW.skip ?_) (fun h1 => ?_)
  rotate_left
  · exfalso; subst hO; simp [std, imI] at h1
  refine SW.seq (SW.block ?_)
  refine SW.seqRun tok hO (by cbv <;> rfl) ?_ ?_
  · exact hii
  refine SW.seqRun tok hO (by cbv <;> rfl) (by trivial) ?_
  refine SW.condS (by cbv <;> rfl) (fun h2 => ?_) (fun h2 => ?_)
  rotate_left
  · exfalso; subst hO; simp [std] at h2
  refine SW.seq ?_
  refine SW.runDN tok mixed hO 8 (by kernel_rfl) (by cbv <;> rfl) (by trivial) ?_
  refine AnyE.runN tok hO 8 (by kernel_rfl) (by cbv <;> rfl) (by first | trivial | exact hkk) ?_
  refine AnyE.runN tok hO 8 (by kernel_rfl) (by cbv <;> rfl) (by first | trivial | exact hkk) ?_
  refine AnyE.runN tok hO 8 (by kernel_rfl) (by cbv <;> rfl) (by first | trivial | exact hkk) ?_
  refine AnyE.many [26] (by cbv <;> rfl) (by rfl) ⟨?_, trivial⟩
  · refine PickE.eff tok hO (by cbv <;> rfl) (by cbv <;> rfl) (by trivial) ?_ ?_
    · exact (by repeat (first | exact trivial | refine And.intro (by first | exact lv_of hO (by cbv <;> rfl) (by trivial) | (cbv <;> rfl)) ?_))
    refine AnyE.run tok hO (by kernel_rfl) (by cbv <;> rfl) (by trivial) ?_
    refine AnyE.many [27] (by cbv <;> rfl) (by rfl) ⟨?_, trivial⟩
    · refine PickE.appNilM tok (by cbv <;> rfl) (by cbv <;> rfl) (by rfl) (by kernel_rfl) (by rfl) (by rfl) (by rfl) ?_ ?_
      · exact (by repeat (first | exact trivial | refine And.intro (by first | exact lv_of hO (by cbv <;> rfl) (by trivial) | (cbv <;> rfl)) ?_))
      refine AnyE.run tok hO (by kernel_rfl) (by cbv <;> rfl) (by trivial) ?_
      refine AnyE.many [29] (by cbv <;> rfl) (by rfl) ⟨?_, trivial⟩
      · refine PickE.eff tok hO (by cbv <;> rfl) (by cbv <;> rfl) (by trivial) ?_ ?_
        · exact (by repeat (first | exact trivial | refine And.intro (by first | exact lv_of hO (by cbv <;> rfl) (by trivial) | (cbv <;> rfl)) ?_))
        refine AnyE.run tok hO (by kernel_rfl) (by cbv <;> rfl) (by trivial) ?_
        refine SW.runDN tok mixed hO 8 (by kernel_rfl) (by cbv <;> rfl) (by first | trivial | exact hkk) ?_
        refine AnyE.runN tok hO 8 (by kernel_rfl) (by cbv <;> rfl) (by first | trivial | exact hkk) ?_
        refine AnyE.many [10] (by cbv <;> rfl) (by rfl) ⟨?_, trivial⟩
        · refine PickE.eff tok hO (by cbv <;> rfl) (by cbv <;> rfl) (by trivial) ?_ ?_
          · exact (by repeat (first | exact trivial | refine And.intro (by first | exact lv_of hO (by cbv <;> rfl) (by trivial) | (cbv <;> rfl)) ?_))
          refine AnyE.run tok hO (by kernel_rfl) (by cbv <;> rfl) (by trivial) ?_
          refine AnyE.many [11] (by cbv <;> rfl) (by rfl) ⟨?_, trivial⟩
          · refine PickE.appNilM tok (by cbv <;> rfl) (by cbv <;> rfl) (by rfl) (by kernel_rfl) (by rfl) (by rfl) (by rfl) ?_ ?_
            · exact (by repeat (first | exact trivial | refine And.intro (by first | exact lv_of hO (by cbv <;> rfl) (by trivial) | (cbv <;> rfl)) ?_))
            refine AnyE.run tok hO (by kernel_rfl) (by cbv <;> rfl) (by trivial) ?_
            refine AnyE.many [13] (by cbv <;> rfl) (by rfl) ⟨?_, trivial⟩
            · refine PickE.eff tok hO (by cbv <;> rfl) (by cbv <;> rfl) (by trivial) ?_ ?_
              · exact (by repeat (first | exact trivial | refine And.intro (by first | exact lv_of hO (by cbv <;> rfl) (by trivial) | (cbv <;> rfl)) ?_))
              refine AnyE.run tok hO (by kernel_rfl) (by cbv <;> rfl) (by trivial) ?_
              refine SW.run tok hO (by cbv <;> rfl) (by trivial) ?_
              refine ⟨(m, 2), Nat.lt_succ_self m, ⟨by show m ≤ d.nl; omega, by show _ = lenF d.nl m m; omega⟩, tabR [(4, 8), (5, 10)], ?_⟩
              refine WeakR.tabF (fun _ => none) (fun _ _ _ h => by cases h) rfl rfl (by simp) (by rfl) (by show 4 ≤ 6; omega) (by rfl) ⟨RenV.ptr (by omega), RenV.ptr (by omega), RenV.closed Below.lit, RenV.closed Below.lit, RenV.ptr (by omega), RenV.ptr (by omega), ?_, trivial⟩ ⟨⟨by omega, _, rfl, .cells (loU_below t (RenV.sl (by omega))), rfl⟩, ⟨by omega, _, rfl, .cells (loX_below d (RenV.sl (by omega))), rfl⟩, ⟨by omega, _, rfl, .cells (RenVs.closed (truC_below t)), rfl⟩, ⟨by omega, _, rfl, .cells (RenVs.closed (dayC_below d)), rfl⟩, ⟨by omega, _, rfl, .cells (RenVs.of_eq ?_ (flatG_below (lotC_below x) _)), rfl⟩, ⟨by omega, _, rfl, .cells (RenVs.of_eq ?_ (flatG_below (intC_below us) _)), rfl⟩, trivial⟩
              · show RenV _ _ (iV (imI m)) (iV (O.bin .sub .i64 (Int.ofNat m) 1))
                rw [hdec]; exact RenV.closed Below.lit
              · exact eL
              · exact eS
set_option maxHeartbeats 16000000 in
theorem lots_rS (d : DayD) (t : TruD) (x : DayD) (us : Nat → Int) (k : Nat) (n : Int) (m : Nat) (j : Nat) (hj : j + 1 < 1000) (O : Ar) (hO : O = std) (hnl : d.nl < 1000) (hne : m ≠ k) (hm : m < d.nl) (hms : m < t.ns) (hlen : lenF d.nl k m = (j + 1) + 1) (x1 : x.lw (j + 1) = d.lw m) (x2 : x.llo (j + 1) = d.llo m) (x3 : x.lhi (j + 1) = d.lhi m) (x4 : us (j + 1) = t.st m) (Q : Exit → Fm → St → Prop) :
    SW Try.prog none lotBody (loR d t x us k n (m + 1) Q) (loF k n (m + 1)) (loSt d t x us (j + 1)) := by
  have hnat : ∀ i : Nat, O.nat (Int.ofNat i) = i := fun i => by subst hO; rfl
  have hdec := dec_ok hO (m := m) (by omega)
  have h0 : (0 : Int) ≤ Int.ofNat m := Int.natCast_nonneg m
  have hii : 0 ≤ Int.ofNat m ∧ Int.ofNat m < (d.nl : Int) := ⟨h0, Int.ofNat_lt.2 hm⟩
  have hss : 0 ≤ Int.ofNat m ∧ Int.ofNat m < (t.ns : Int) := ⟨h0, Int.ofNat_lt.2 hms⟩
  obtain ⟨GL, hGL⟩ : ∃ G, G = flatG 3 (lotC x) (j + 1) := ⟨_, rfl⟩
  obtain ⟨GS, hGS⟩ : ∃ G, G = flatG 1 (intC us) (j + 1) := ⟨_, rfl⟩
  have eL : flatG 3 (lotC x) (j + 1) ++ [iV (d.lw (O.nat (Int.ofNat m))), iV (d.llo (O.nat (Int.ofNat m))), iV (d.lhi (O.nat (Int.ofNat m)))] = flatG 3 (lotC x) (j + 1 + 1) := by rw [hnat, ← x1, ← x2, ← x3]; rfl
  have eS : flatG 1 (intC us) (j + 1) ++ [iV (t.st (O.nat (Int.ofNat m)))] = flatG 1 (intC us) (j + 1 + 1) := by rw [hnat, ← x4]; rfl
  have hS : loSt d t x us (j + 1) = loS d t (.sl 4 0 (j + 1) 3 false) (.sl 5 0 (j + 1) 1 false) [(4, .cells none false GL), (5, .cells none false GS)] 6 := by rw [hGL, hGS]; rfl
  rw [hS]
  refine SW.seq ?_
  refine SW.seqRun tok hO (by cbv <;> rfl) (by trivial) ?_
  refine SW.condS (by cbv <;> rfl) (fun h1 => SW.skip ?_) (fun h1 => ?_)
  rotate_left
  · exfalso; subst hO; simp [std, imI] at h1
  refine SW.seq (SW.block ?_)
  refine SW.seqRun tok hO (by cbv <;> rfl) ?_ ?_
  · exact hii
  refine SW.seqRun tok hO (by cbv <;> rfl) (by trivial) ?_
  refine SW.condS (by cbv <;> rfl) (fun h2 => ?_) (fun h2 => ?_)
  · exfalso
    have : (m : Int) = k := by subst hO; simpa [std] using h2
    omega
  refine SW.runDN tok mixed hO 6 (by kernel_rfl) (by cbv <;> rfl) (by trivial) ?_
  refine AnyE.runN tok hO 8 (by kernel_rfl) (by cbv <;> rfl) (by first | trivial | exact hss) ?_
  refine AnyE.many [3, 12] (by cbv <;> rfl) (by rfl) ⟨?_, ?_, trivial⟩
  · refine PickE.eff tok hO (by cbv <;> rfl) (by cbv <;> rfl) (by trivial) ?_ ?_
    · exact (by repeat (first | exact trivial | refine And.intro (by first | exact lv_of hO (by cbv <;> rfl) (by trivial) | (cbv <;> rfl)) ?_))
    refine AnyE.run tok hO (by kernel_rfl) (by cbv <;> rfl) (by trivial) ?_
    refine AnyE.many [4, 12] (by cbv <;> rfl) (by rfl) ⟨?_, ?_, trivial⟩
    · refine PickE.appM (g := lotC x) (len := j + 1) tok (by cbv <;> rfl) (by cbv <;> rfl) (by rfl) (by rfl) hGL (by kernel_rfl) (by rfl) (by rfl) (by rfl) (by omega) fun GL1 hGL1 => ⟨?_, ?_⟩
      · exact (by repeat (first | exact trivial | refine And.intro (by first | exact lv_of hO (by cbv <;> rfl) (by trivial) | (cbv <;> rfl)) ?_))
      refine AnyE.run tok hO (by kernel_rfl) (by cbv <;> rfl) (by trivial) ?_
      refine AnyE.many [12] (by cbv <;> rfl) (by rfl) ⟨?_, trivial⟩
      · refine PickE.eff tok hO (by cbv <;> rfl) (by cbv <;> rfl) (by trivial) ?_ ?_
        · exact (by repeat (first | exact trivial | refine And.intro (by first | exact lv_of hO (by cbv <;> rfl) (by trivial) | (cbv <;> rfl)) ?_))
        refine AnyE.run tok hO (by kernel_rfl) (by cbv <;> rfl) (by trivial) ?_
        refine AnyE.many [13] (by cbv <;> rfl) (by rfl) ⟨?_, trivial⟩
        · refine PickE.appM (g := intC us) (len := j + 1) tok (by cbv <;> rfl) (by cbv <;> rfl) (by rfl) (by rfl) hGS (by kernel_rfl) (by rfl) (by rfl) (by rfl) (by omega) fun GS1 hGS1 => ⟨?_, ?_⟩
          · exact (by repeat (first | exact trivial | refine And.intro (by first | exact lv_of hO (by cbv <;> rfl) (by trivial) | (cbv <;> rfl)) ?_))
          refine AnyE.run tok hO (by kernel_rfl) (by cbv <;> rfl) (by trivial) ?_
          refine AnyE.many [15] (by cbv <;> rfl) (by rfl) ⟨?_, trivial⟩
          · refine PickE.eff tok hO (by cbv <;> rfl) (by cbv <;> rfl) (by trivial) ?_ ?_
            · exact (by repeat (first | exact trivial | refine And.intro (by first | exact lv_of hO (by cbv <;> rfl) (by trivial) | (cbv <;> rfl)) ?_))
            refine AnyE.run tok hO (by kernel_rfl) (by cbv <;> rfl) (by trivial) ?_
            refine AnyE.many [17] (by cbv <;> rfl) (by rfl) ⟨?_, trivial⟩
            · refine PickE.eff tok hO (by cbv <;> rfl) (by cbv <;> rfl) (by trivial) ?_ ?_
              · exact (by repeat (first | exact trivial | refine And.intro (by first | exact lv_of hO (by cbv <;> rfl) (by trivial) | (cbv <;> rfl)) ?_))
              refine AnyE.run tok hO (by kernel_rfl) (by cbv <;> rfl) (by trivial) ?_
              refine SW.run tok hO (by cbv <;> rfl) (by trivial) ?_
              refine ⟨(m, j + 1 + 1), Nat.lt_succ_self m, ⟨by show m ≤ d.nl; omega, by show _ = lenF d.nl k m; omega⟩, tabR [(4, 8), (5, 10)], ?_⟩
              refine WeakR.tabF (fam2 4 5) (fam2_inj 4 5) rfl rfl (by simp) (by rfl) (by show 4 ≤ 6; omega) (by rfl) ⟨RenV.ptr (by omega), RenV.ptr (by omega), RenV.closed Below.lit, RenV.closed Below.lit, RenV.ptr (by omega), RenV.ptr (by omega), ?_, trivial⟩ ⟨⟨by omega, _, rfl, .cells (loU_below t (RenV.sl (by omega))), rfl⟩, ⟨by omega, _, rfl, .cells (loX_below d (RenV.sl (by omega))), rfl⟩, ⟨by omega, _, rfl, .cells (RenVs.closed (truC_below t)), rfl⟩, ⟨by omega, _, rfl, .cells (RenVs.closed (dayC_below d)), rfl⟩, ⟨by omega, _, rfl, .cells (RenVs.of_eq ?_ (flatG_below (lotC_below x) _)), rfl⟩, ⟨by omega, _, rfl, .cells (RenVs.of_eq ?_ (flatG_below (intC_below us) _)), rfl⟩, trivial⟩
              · show RenV _ _ (iV (imI m)) (iV (O.bin .sub .i64 (Int.ofNat m) 1))
                rw [hdec]; exact RenV.closed Below.lit
              · exact hGL1.trans eL
              · exact hGS1.trans eS
    · refine PickE.eff tok hO (by cbv <;> rfl) (by cbv <;> rfl) (by trivial) ?_ ?_
      · exact (by repeat (first | exact trivial | refine And.intro (by first | exact lv_of hO (by cbv <;> rfl) (by trivial) | (cbv <;> rfl)) ?_))
      refine AnyE.run tok hO (by kernel_rfl) (by cbv <;> rfl) (by trivial) ?_
      refine AnyE.many [4] (by cbv <;> rfl) (by rfl) ⟨?_, trivial⟩
      · refine PickE.appM (g := lotC x) (len := j + 1) tok (by cbv <;> rfl) (by cbv <;> rfl) (by rfl) (by rfl) hGL (by kernel_rfl) (by rfl) (by rfl) (by rfl) (by omega) fun GL1 hGL1 => ⟨?_, ?_⟩
        · exact (by repeat (first | exact trivial | refine And.intro (by first | exact lv_of hO (by cbv <;> rfl) (by trivial) | (cbv <;> rfl)) ?_))
        refine AnyE.run tok hO (by kernel_rfl) (by cbv <;> rfl) (by trivial) ?_
        refine AnyE.many [13] (by cbv <;> rfl) (by rfl) ⟨?_, trivial⟩
        · refine PickE.appM (g := intC us) (len := j + 1) tok (by cbv <;> rfl) (by cbv <;> rfl) (by rfl) (by rfl) hGS (by kernel_rfl) (by rfl) (by rfl) (by rfl) (by omega) fun GS1 hGS1 => ⟨?_, ?_⟩
          · exact (by repeat (first | exact trivial | refine And.intro (by first | exact lv_of hO (by cbv <;> rfl) (by trivial) | (cbv <;> rfl)) ?_))
          refine AnyE.run tok hO (by kernel_rfl) (by cbv <;> rfl) (by trivial) ?_
          refine AnyE.many [15] (by cbv <;> rfl) (by rfl) ⟨?_, trivial⟩
          · refine PickE.eff tok hO (by cbv <;> rfl) (by cbv <;> rfl) (by trivial) ?_ ?_
            · exact (by repeat (first | exact trivial | refine And.intro (by first | exact lv_of hO (by cbv <;> rfl) (by trivial) | (cbv <;> rfl)) ?_))
            refine AnyE.run tok hO (by kernel_rfl) (by cbv <;> rfl) (by trivial) ?_
            refine AnyE.many [17] (by cbv <;> rfl) (by rfl) ⟨?_, trivial⟩
            · refine PickE.eff tok hO (by cbv <;> rfl) (by cbv <;> rfl) (by trivial) ?_ ?_
              · exact (by repeat (first | exact trivial | refine And.intro (by first | exact lv_of hO (by cbv <;> rfl) (by trivial) | (cbv <;> rfl)) ?_))
              refine AnyE.run tok hO (by kernel_rfl) (by cbv <;> rfl) (by trivial) ?_
              refine SW.run tok hO (by cbv <;> rfl) (by trivial) ?_
              refine ⟨(m, j + 1 + 1), Nat.lt_succ_self m, ⟨by show m ≤ d.nl; omega, by show _ = lenF d.nl k m; omega⟩, tabR [(4, 9), (5, 10)], ?_⟩
              refine WeakR.tabF (fam2 4 5) (fam2_inj 4 5) rfl rfl (by simp) (by rfl) (by show 4 ≤ 6; omega) (by rfl) ⟨RenV.ptr (by omega), RenV.ptr (by omega), RenV.closed Below.lit, RenV.closed Below.lit, RenV.ptr (by omega), RenV.ptr (by omega), ?_, trivial⟩ ⟨⟨by omega, _, rfl, .cells (loU_below t (RenV.sl (by omega))), rfl⟩, ⟨by omega, _, rfl, .cells (loX_below d (RenV.sl (by omega))), rfl⟩, ⟨by omega, _, rfl, .cells (RenVs.closed (truC_below t)), rfl⟩, ⟨by omega, _, rfl, .cells (RenVs.closed (dayC_below d)), rfl⟩, ⟨by omega, _, rfl, .cells (RenVs.of_eq ?_ (flatG_below (lotC_below x) _)), rfl⟩, ⟨by omega, _, rfl, .cells (RenVs.of_eq ?_ (flatG_below (intC_below us) _)), rfl⟩, trivial⟩
              · show RenV _ _ (iV (imI m)) (iV (O.bin .sub .i64 (Int.ofNat m) 1))
                rw [hdec]; exact RenV.closed Below.lit
              · exact hGL1.trans eL
              · exact hGS1.trans eS
  · refine PickE.eff tok hO (by cbv <;> rfl) (by cbv <;> rfl) (by trivial) ?_ ?_
    · exact (by repeat (first | exact trivial | refine And.intro (by first | exact lv_of hO (by cbv <;> rfl) (by trivial) | (cbv <;> rfl)) ?_))
    refine AnyE.run tok hO (by kernel_rfl) (by cbv <;> rfl) (by trivial) ?_
    refine AnyE.many [3] (by cbv <;> rfl) (by rfl) ⟨?_, trivial⟩
    · refine PickE.eff tok hO (by cbv <;> rfl) (by cbv <;> rfl) (by trivial) ?_ ?_
      · exact (by repeat (first | exact trivial | refine And.intro (by first | exact lv_of hO (by cbv <;> rfl) (by trivial) | (cbv <;> rfl)) ?_))
      refine AnyE.run tok hO (by kernel_rfl) (by cbv <;> rfl) (by trivial) ?_
      refine AnyE.many [4] (by cbv <;> rfl) (by rfl) ⟨?_, trivial⟩
      · refine PickE.appM (g := lotC x) (len := j + 1) tok (by cbv <;> rfl) (by cbv <;> rfl) (by rfl) (by rfl) hGL (by kernel_rfl) (by rfl) (by rfl) (by rfl) (by omega) fun GL1 hGL1 => ⟨?_, ?_⟩
        · exact (by repeat (first | exact trivial | refine And.intro (by first | exact lv_of hO (by cbv <;> rfl) (by trivial) | (cbv <;> rfl)) ?_))
        refine AnyE.run tok hO (by kernel_rfl) (by cbv <;> rfl) (by trivial) ?_
        refine AnyE.many [13] (by cbv <;> rfl) (by rfl) ⟨?_, trivial⟩
        · refine PickE.appM (g := intC us) (len := j + 1) tok (by cbv <;> rfl) (by cbv <;> rfl) (by rfl) (by rfl) hGS (by kernel_rfl) (by rfl) (by rfl) (by rfl) (by omega) fun GS1 hGS1 => ⟨?_, ?_⟩
          · exact (by repeat (first | exact trivial | refine And.intro (by first | exact lv_of hO (by cbv <;> rfl) (by trivial) | (cbv <;> rfl)) ?_))
          refine AnyE.run tok hO (by kernel_rfl) (by cbv <;> rfl) (by trivial) ?_
          refine AnyE.many [15] (by cbv <;> rfl) (by rfl) ⟨?_, trivial⟩
          · refine PickE.eff tok hO (by cbv <;> rfl) (by cbv <;> rfl) (by trivial) ?_ ?_
            · exact (by repeat (first | exact trivial | refine And.intro (by first | exact lv_of hO (by cbv <;> rfl) (by trivial) | (cbv <;> rfl)) ?_))
            refine AnyE.run tok hO (by kernel_rfl) (by cbv <;> rfl) (by trivial) ?_
            refine AnyE.many [17] (by cbv <;> rfl) (by rfl) ⟨?_, trivial⟩
            · refine PickE.eff tok hO (by cbv <;> rfl) (by cbv <;> rfl) (by trivial) ?_ ?_
              · exact (by repeat (first | exact trivial | refine And.intro (by first | exact lv_of hO (by cbv <;> rfl) (by trivial) | (cbv <;> rfl)) ?_))
              refine AnyE.run tok hO (by kernel_rfl) (by cbv <;> rfl) (by trivial) ?_
              refine SW.run tok hO (by cbv <;> rfl) (by trivial) ?_
              refine ⟨(m, j + 1 + 1), Nat.lt_succ_self m, ⟨by show m ≤ d.nl; omega, by show _ = lenF d.nl k m; omega⟩, tabR [(4, 9), (5, 10)], ?_⟩
              refine WeakR.tabF (fam2 4 5) (fam2_inj 4 5) rfl rfl (by simp) (by rfl) (by show 4 ≤ 6; omega) (by rfl) ⟨RenV.ptr (by omega), RenV.ptr (by omega), RenV.closed Below.lit, RenV.closed Below.lit, RenV.ptr (by omega), RenV.ptr (by omega), ?_, trivial⟩ ⟨⟨by omega, _, rfl, .cells (loU_below t (RenV.sl (by omega))), rfl⟩, ⟨by omega, _, rfl, .cells (loX_below d (RenV.sl (by omega))), rfl⟩, ⟨by omega, _, rfl, .cells (RenVs.closed (truC_below t)), rfl⟩, ⟨by omega, _, rfl, .cells (RenVs.closed (dayC_below d)), rfl⟩, ⟨by omega, _, rfl, .cells (RenVs.of_eq ?_ (flatG_below (lotC_below x) _)), rfl⟩, ⟨by omega, _, rfl, .cells (RenVs.of_eq ?_ (flatG_below (intC_below us) _)), rfl⟩, trivial⟩
              · show RenV _ _ (iV (imI m)) (iV (O.bin .sub .i64 (Int.ofNat m) 1))
                rw [hdec]; exact RenV.closed Below.lit
              · exact hGL1.trans eL
              · exact hGS1.trans eS
set_option maxHeartbeats 16000000 in
theorem lots_rSk (d : DayD) (t : TruD) (x : DayD) (us : Nat → Int) (k : Nat) (n : Int) (m : Nat) (s : Int) (j : Nat) (hj : j + 1 < 1000) (O : Ar) (hO : O = std) (hnl : d.nl < 1000) (hmk : m = k) (hm : m < d.nl) (hms : m < t.ns) (hlen : lenF d.nl k m = (j + 1) + 2) (x1 : x.lw (j + 1) = d.lw m) (x2 : x.llo (j + 1) = n) (x3 : x.lhi (j + 1) = n) (x4 : us (j + 1) = n) (y1 : x.lw (j + 1 + 1) = d.lw m) (y2 : x.llo (j + 1 + 1) = s) (y3 : x.lhi (j + 1 + 1) = s) (y4 : us (j + 1 + 1) = s) (hs : O.bin .sub .i64 (t.st (O.nat (Int.ofNat k))) n = s) (Q : Exit → Fm → St → Prop) :
    SW Try.prog none lotBody (loR d t x us k n (m + 1) Q) (loF k n (m + 1)) (loSt d t x us (j + 1)) := by
  have hnat : ∀ i : Nat, O.nat (Int.ofNat i) = i := fun i => by subst hO; rfl
  have hdec := dec_ok hO (m := m) (by omega)
  have h0 : (0 : Int) ≤ Int.ofNat m := Int.natCast_nonneg m
  have hii : 0 ≤ Int.ofNat m ∧ Int.ofNat m < (d.nl : Int) := ⟨h0, Int.ofNat_lt.2 hm⟩
  have hss : 0 ≤ Int.ofNat m ∧ Int.ofNat m < (t.ns : Int) := ⟨h0, Int.ofNat_lt.2 hms⟩
  subst hmk
  have hkk := hss
  obtain ⟨GL, hGL⟩ : ∃ G, G = flatG 3 (lotC x) (j + 1) := ⟨_, rfl⟩
  obtain ⟨GS, hGS⟩ : ∃ G, G = flatG 1 (intC us) (j + 1) := ⟨_, rfl⟩
  have eL : flatG 3 (lotC x) (j + 1) ++ [iV (d.lw (O.nat (Int.ofNat m))), iV n, iV n, iV (d.lw (O.nat (Int.ofNat m))), iV (O.bin .sub .i64 (t.st (O.nat (Int.ofNat m))) n), iV (O.bin .sub .i64 (t.st (O.nat (Int.ofNat m))) n)] = flatG 3 (lotC x) (j + 1 + 2) := by
    rw [hs, hnat]
    show _ = (flatG 3 (lotC x) (j + 1) ++ [iV (x.lw (j + 1)), iV (x.llo (j + 1)), iV (x.lhi (j + 1))]) ++ [iV (x.lw (j + 1 + 1)), iV (x.llo (j + 1 + 1)), iV (x.lhi (j + 1 + 1))]
    rw [x1, x2, x3, y1, y2, y3, List.append_assoc]; rfl
  have eS : flatG 1 (intC us) (j + 1) ++ [iV n, iV (O.bin .sub .i64 (t.st (O.nat (Int.ofNat m))) n)] = flatG 1 (intC us) (j + 1 + 2) := by
    rw [hs]
    show _ = (flatG 1 (intC us) (j + 1) ++ [iV (us (j + 1))]) ++ [iV (us (j + 1 + 1))]
    rw [x4, y4, List.append_assoc]; rfl
  have hS : loSt d t x us (j + 1) = loS d t (.sl 4 0 (j + 1) 3 false) (.sl 5 0 (j + 1) 1 false) [(4, .cells none false GL), (5, .cells none false GS)] 6 := by rw [hGL, hGS]; rfl
  rw [hS]
  refine SW.seq ?_
  refine SW.seqRun tok hO (by cbv <;> rfl) (by trivial) ?_
  refine SW.condS (by cbv <;> rfl) (fun h1 => SW.skip ?_) (fun h1 => ?_)
  rotate_left
  · exfalso; subst hO; simp [std, imI] at h1
  refine SW.seq (SW.block ?_)
  refine SW.seqRun tok hO (by cbv <;> rfl) ?_ ?_
  · exact hii
  refine SW.seqRun tok hO (by cbv <;> rfl) (by trivial) ?_
  refine SW.condS (by cbv <;> rfl) (fun h2 => ?_) (fun h2 => ?_)
  rotate_left
  · exfalso; subst hO; simp [std] at h2
  refine SW.seq ?_
  refine SW.runDN tok mixed hO 8 (by kernel_rfl) (by cbv <;> rfl) (by trivial) ?_
  refine AnyE.runN tok hO 8 (by kernel_rfl) (by cbv <;> rfl) (by first | trivial | exact hkk) ?_
  refine AnyE.runN tok hO 8 (by kernel_rfl) (by cbv <;> rfl) (by first | trivial | exact hkk) ?_
  refine AnyE.runN tok hO 8 (by kernel_rfl) (by cbv <;> rfl) (by first | trivial | exact hkk) ?_
  refine AnyE.many [26] (by cbv <;> rfl) (by rfl) ⟨?_, trivial⟩
  · refine PickE.eff tok hO (by cbv <;> rfl) (by cbv <;> rfl) (by trivial) ?_ ?_
    · exact (by repeat (first | exact trivial | refine And.intro (by first | exact lv_of hO (by cbv <;> rfl) (by trivial) | (cbv <;> rfl)) ?_))
    refine AnyE.run tok hO (by kernel_rfl) (by cbv <;> rfl) (by trivial) ?_
    refine AnyE.many [27] (by cbv <;> rfl) (by rfl) ⟨?_, trivial⟩
    · refine PickE.appM (g := lotC x) (len := j + 1) tok (by cbv <;> rfl) (by cbv <;> rfl) (by rfl) (by rfl) hGL (by kernel_rfl) (by rfl) (by rfl) (by rfl) (by omega) fun GL1 hGL1 => ⟨?_, ?_⟩
      · exact (by repeat (first | exact trivial | refine And.intro (by first | exact lv_of hO (by cbv <;> rfl) (by trivial) | (cbv <;> rfl)) ?_))
      refine AnyE.run tok hO (by kernel_rfl) (by cbv <;> rfl) (by trivial) ?_
      refine AnyE.many [29] (by cbv <;> rfl) (by rfl) ⟨?_, trivial⟩
      · refine PickE.eff tok hO (by cbv <;> rfl) (by cbv <;> rfl) (by trivial) ?_ ?_
        · exact (by repeat (first | exact trivial | refine And.intro (by first | exact lv_of hO (by cbv <;> rfl) (by trivial) | (cbv <;> rfl)) ?_))
        refine AnyE.run tok hO (by kernel_rfl) (by cbv <;> rfl) (by trivial) ?_
        refine SW.runDN tok mixed hO 8 (by kernel_rfl) (by cbv <;> rfl) (by first | trivial | exact hkk) ?_
        refine AnyE.runN tok hO 8 (by kernel_rfl) (by cbv <;> rfl) (by first | trivial | exact hkk) ?_
        refine AnyE.many [10] (by cbv <;> rfl) (by rfl) ⟨?_, trivial⟩
        · refine PickE.eff tok hO (by cbv <;> rfl) (by cbv <;> rfl) (by trivial) ?_ ?_
          · exact (by repeat (first | exact trivial | refine And.intro (by first | exact lv_of hO (by cbv <;> rfl) (by trivial) | (cbv <;> rfl)) ?_))
          refine AnyE.run tok hO (by kernel_rfl) (by cbv <;> rfl) (by trivial) ?_
          refine AnyE.many [11] (by cbv <;> rfl) (by rfl) ⟨?_, trivial⟩
          · refine PickE.appM (g := intC us) (len := j + 1) tok (by cbv <;> rfl) (by cbv <;> rfl) (by rfl) (by rfl) hGS (by kernel_rfl) (by rfl) (by rfl) (by rfl) (by omega) fun GS1 hGS1 => ⟨?_, ?_⟩
            · exact (by repeat (first | exact trivial | refine And.intro (by first | exact lv_of hO (by cbv <;> rfl) (by trivial) | (cbv <;> rfl)) ?_))
            refine AnyE.run tok hO (by kernel_rfl) (by cbv <;> rfl) (by trivial) ?_
            refine AnyE.many [13] (by cbv <;> rfl) (by rfl) ⟨?_, trivial⟩
            · refine PickE.eff tok hO (by cbv <;> rfl) (by cbv <;> rfl) (by trivial) ?_ ?_
              · exact (by repeat (first | exact trivial | refine And.intro (by first | exact lv_of hO (by cbv <;> rfl) (by trivial) | (cbv <;> rfl)) ?_))
              refine AnyE.run tok hO (by kernel_rfl) (by cbv <;> rfl) (by trivial) ?_
              refine SW.run tok hO (by cbv <;> rfl) (by trivial) ?_
              refine ⟨(m, j + 1 + 2), Nat.lt_succ_self m, ⟨by show m ≤ d.nl; omega, by show _ = lenF d.nl m m; omega⟩, tabR [(4, 8), (5, 10)], ?_⟩
              refine WeakR.tabF (fam2 4 5) (fam2_inj 4 5) rfl rfl (by simp) (by rfl) (by show 4 ≤ 6; omega) (by rfl) ⟨RenV.ptr (by omega), RenV.ptr (by omega), RenV.closed Below.lit, RenV.closed Below.lit, RenV.ptr (by omega), RenV.ptr (by omega), ?_, trivial⟩ ⟨⟨by omega, _, rfl, .cells (loU_below t (RenV.sl (by omega))), rfl⟩, ⟨by omega, _, rfl, .cells (loX_below d (RenV.sl (by omega))), rfl⟩, ⟨by omega, _, rfl, .cells (RenVs.closed (truC_below t)), rfl⟩, ⟨by omega, _, rfl, .cells (RenVs.closed (dayC_below d)), rfl⟩, ⟨by omega, _, rfl, .cells (RenVs.of_eq ?_ (flatG_below (lotC_below x) _)), rfl⟩, ⟨by omega, _, rfl, .cells (RenVs.of_eq ?_ (flatG_below (intC_below us) _)), rfl⟩, trivial⟩
              · show RenV _ _ (iV (imI m)) (iV (O.bin .sub .i64 (Int.ofNat m) 1))
                rw [hdec]; exact RenV.closed Below.lit
              · exact hGL1.trans eL
              · exact hGS1.trans eS
end Go.Fz
