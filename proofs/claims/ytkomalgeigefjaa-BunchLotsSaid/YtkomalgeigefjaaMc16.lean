/- Own work of the verifier of watercress: FzB37. -/
import Derived.Test.YtkomalgeigefjaaMc15
set_option linter.unusedVariables false
set_option linter.unusedSimpArgs false
namespace Go.Fz
open Go.Proofs
set_option maxRecDepth 100000
theorem lenF_step {nl k m : Nat} (hm : m < nl) (h : m ≠ k) : lenF nl k m = lenF nl k (m + 1) + 1 := by
  unfold lenF
  by_cases h1 : m ≤ k
  · rw [if_pos h1, if_pos (by omega)]; omega
  · rw [if_neg h1, if_neg (by omega)]; omega
theorem lenF_k {nl k : Nat} (hk : k < nl) : lenF nl k k = lenF nl k (k + 1) + 2 := by
  unfold lenF
  rw [if_pos (Nat.le_refl k), if_neg (by omega)]; omega
def loD (j : Nat) : Bool := Nat.beq j 4 || Nat.beq j 5
def loQ (d : DayD) (t : TruD) (x : DayD) (us : Nat → Int) (e : Exit) (fm : Fm) (st : St) : Prop := e = .normal ∧ ∃ g XL XS, fm = ⟨⟨205, g⟩, []⟩ ∧ AllP (fun p => g p.1 = p.2) [(4, .ptr 0 0), (9, .ptr 1 0), (12, .ptr 2 0), (13, .ptr 3 0)] ∧
  Eqv XL (.isl (d.nl + 1) 3 false (lotC x)) ∧ (∃ len sz h, XL = .isl len sz false h) ∧ Eqv XS (intsV (d.nl + 1) false us) ∧ (∃ len sz h, XS = .isl len sz false h) ∧ st = loS d t XL XS [] 6
set_option maxHeartbeats 8000000 in
theorem lots_s8 (d : DayD) (t : TruD) (x : DayD) (us : Nat → Int) (k : Nat) (n s : Int) (g : Nat → AV) (O : Ar) (hO : O = std) (hnl : d.nl < 900) (hts : t.ns = d.nl) (hk : k < d.nl) (hs : O.bin .sub .i64 (t.st (O.nat (Int.ofNat k))) n = s)
    (hx : ∀ m, m < d.nl → m ≠ k → x.lw (lenF d.nl k (m + 1)) = d.lw m ∧ x.llo (lenF d.nl k (m + 1)) = d.llo m ∧ x.lhi (lenF d.nl k (m + 1)) = d.lhi m ∧ us (lenF d.nl k (m + 1)) = t.st m)
    (hy : x.lw (lenF d.nl k (k + 1)) = d.lw k ∧ x.llo (lenF d.nl k (k + 1)) = n ∧ x.lhi (lenF d.nl k (k + 1)) = n ∧ us (lenF d.nl k (k + 1)) = n ∧ x.lw (lenF d.nl k (k + 1) + 1) = d.lw k ∧ x.llo (lenF d.nl k (k + 1) + 1) = s ∧ x.lhi (lenF d.nl k (k + 1) + 1) = s ∧ us (lenF d.nl k (k + 1) + 1) = s)
    (h : AllP (fun p => g p.1 = p.2) [(4, .ptr 0 0), (9, .ptr 1 0), (10, .lit (.int .i64 (Int.ofNat k))), (11, iV n), (12, .ptr 2 0), (13, .ptr 3 0)]) :
    SW Try.prog none (nthC 8 (bodyF Try.f6)) (loQ d t x us) ⟨⟨205, g⟩, []⟩ (loS d t nl3 nl3 [] 4) := by
  obtain ⟨g4, g9, g10, g11, g12, g13, _⟩ := h
  simp only at g4 g9 g10 g11 g12 g13
  rw [← updT_self g4, ← updT_self g9, ← updT_self g10, ← updT_self g11, ← updT_self g12, ← updT_self g13]
  refine SW.seqRun tok hO (by cbv <;> rfl) (by trivial) ?_
  refine (SW.block (SW.loopR (fun y : Nat × Nat => loF k n y.1) (fun y => loSt d t x us y.2) (fun y => y.1) (fun y => y.1 ≤ d.nl ∧ y.2 = lenF d.nl k y.1) (d.nl, 0) ⟨Nat.le_refl _, by show 0 = lenF d.nl k d.nl; unfold lenF; rw [if_neg (by omega)]; omega⟩ (tabR []) ?_ fun y hin => ?_))
  · refine WeakR.tab rfl rfl (by simp) (by rfl) (by show 4 ≤ 6; omega) (by rfl) ⟨RenV.ptr (by omega), RenV.ptr (by omega), RenV.closed Below.lit, RenV.closed Below.lit, RenV.ptr (by omega), RenV.ptr (by omega), ?_, trivial⟩
      ⟨⟨by omega, _, rfl, .cells (loU_below t (RenV.closed Below.lit)), rfl⟩, ⟨by omega, _, rfl, .cells (loX_below d (RenV.closed Below.lit)), rfl⟩, ⟨by omega, _, rfl, .cells (RenVs.closed (truC_below t)), rfl⟩, ⟨by omega, _, rfl, .cells (RenVs.closed (dayC_below d)), rfl⟩, trivial⟩
    show RenV _ _ (iV (imI d.nl)) (iV (O.bin .sub .i64 (Int.ofNat d.nl) 1))
    rw [dec_ok hO (by omega)]; exact RenV.closed Below.lit
  obtain ⟨m, len⟩ := y
  obtain ⟨h1, h2⟩ := hin
  simp only at h1 h2
  cases m with
  | succ m =>
    by_cases hmk : m = k
    · subst hmk
      obtain ⟨x1, x2, x3, x4, y1, y2, y3, y4⟩ := hy
      have hl := lenF_k hk
      rw [← h2] at hl x1 x2 x3 x4 y1 y2 y3 y4
      cases len with
      | zero => exact lots_r0k d t x us m n m s O hO (by omega) rfl (by omega) (by omega) hl x1 x2 x3 x4 y1 y2 y3 y4 hs _
      | succ j =>
        have hj : j + 1 < 1000 := by rw [h2]; unfold lenF; split <;> omega
        exact lots_rSk d t x us m n m s j hj O hO (by omega) rfl (by omega) (by omega) hl x1 x2 x3 x4 y1 y2 y3 y4 hs _
    · obtain ⟨x1, x2, x3, x4⟩ := hx m (by omega) hmk
      have hl := lenF_step (nl := d.nl) (by omega) hmk
      rw [← h2] at hl x1 x2 x3 x4
      cases len with
      | zero => exact lots_r0 d t x us k n m O hO (by omega) hmk (by omega) (by omega) hl x1 x2 x3 x4 _
      | succ j =>
        have hj : j + 1 < 1000 := by rw [h2]; unfold lenF; split <;> omega
        exact lots_rS d t x us k n m j hj O hO (by omega) hmk (by omega) (by omega) hl x1 x2 x3 x4 _
  | zero =>
    have hl : len = d.nl + 1 := by rw [h2]; unfold lenF; rw [if_pos (Nat.zero_le k)]; omega
    subst hl
    obtain ⟨GL, hGL⟩ : ∃ G, G = flatG 3 (lotC x) (d.nl + 1) := ⟨_, rfl⟩
    obtain ⟨GS, hGS⟩ : ∃ G, G = flatG 1 (intC us) (d.nl + 1) := ⟨_, rfl⟩
    have hlL : (d.nl + 1) * 3 ≤ GL.length := by rw [hGL, flatG_length]; omega
    have hlS : (d.nl + 1) * 1 ≤ GS.length := by rw [hGS, flatG_length]; omega
    have hS : loSt d t x us (d.nl + 1) = loS d t (.sl 4 0 (d.nl + 1) 3 false) (.sl 5 0 (d.nl + 1) 1 false) [(4, .cells none false GL), (5, .cells none false GS)] 6 := by rw [hGL, hGS]; rfl
    rw [hS]
    refine SW.seq ?_
    refine SW.seqRun tok hO (by cbv <;> rfl) (by trivial) ?_
    refine SW.condS (by cbv <;> rfl) (fun h3 => ?_) (fun h3 => ?_)
    · exfalso; subst hO; simp [std] at h3
    obtain ⟨H, hH⟩ : ∃ H, H = (loS d t (.sl 4 0 (d.nl + 1) 3 false) (.sl 5 0 (d.nl + 1) 1 false) [(4, .cells none false GL), (5, .cells none false GS)] 6).h := ⟨_, rfl⟩
    have hH4 : H.get 4 = some (.cells none false GL) := by rw [hH]; rfl
    have hH5 : H.get 5 = some (.cells none false GS) := by rw [hH]; rfl
    have eL : frz H loD 3 (.sl 4 0 (d.nl + 1) 3 false) = _ := frz_slE (fm := none) (G := GL) rfl hH4 hlL
    have eS : frz H loD 3 (.sl 5 0 (d.nl + 1) 1 false) = _ := frz_slE (fm := none) (G := GS) rfl hH5 hlS
    refine SW.freezeZ loD 3 (by rfl) (SW.exit ⟨rfl, _, frz H loD 3 (.sl 4 0 (d.nl + 1) 3 false), frz H loD 3 (.sl 5 0 (d.nl + 1) 1 false), rfl, ⟨rfl, rfl, rfl, rfl, trivial⟩, ?_, ⟨_, _, _, eL⟩, ?_, ⟨_, _, _, eS⟩, by rw [hH]; rfl⟩)
    · rw [eL, hGL]
      exact Eqv.isl rfl fun i j hi hj => Eqv.of (frz_flat hi hj (by unfold lotC; split <;> rfl))
    · rw [eS, hGS]
      exact Eqv.isl rfl fun i j hi hj => Eqv.of (frz_flat hi hj rfl)
def talL (n : Nat) (b l : Nat → Int) (h o f s : Int) : List AV := [intsV n false b, intsV n false l, iV h, iV o, iV f, iV s]
set_option maxHeartbeats 8000000 in
theorem lots_s9 (d : DayD) (t : TruD) (g : Nat → AV) (O : Ar) (hO : O = std) (XL XS : AV) (hXL : ∃ len sz h, XL = .isl len sz false h) (hXS : ∃ len sz h, XS = .isl len sz false h) (cd cp : AV)  (n : Nat) (b l : Nat → Int) (h' o' f' s' : Int)
    (hday : Pure Try.prog 10 [dayV d] cd) (htru : Pure Try.prog 11 [truV t] cp) (hplay : Pure Try.prog 9 [cd, cp] (.tup [.agg (talL n b l h' o' f' s'), iV 0])) (TA : List AV) (hT : talL n b l h' o' f' s' = TA)
    (h : AllP (fun p => g p.1 = p.2) [(4, .ptr 0 0), (9, .ptr 1 0), (12, .ptr 2 0), (13, .ptr 3 0)]) :
    SW Try.prog none (nthC 9 (bodyF Try.f6)) (midL [(4, .ptr 0 0), (9, .ptr 1 0), (12, .ptr 2 0), (13, .ptr 3 0), (16, .ptr 6 0), (17, iV 0)] ⟨((6, .cells none false TA) :: (loS d t XL XS [] 6).h), 7⟩) ⟨⟨205, g⟩, []⟩ ⟨(loS d t XL XS [] 6).h, 6⟩ := by
  obtain ⟨g4, g9, g12, g13, _⟩ := h
  simp only at g4 g9 g12 g13
  rw [← updT_self g4, ← updT_self g9, ← updT_self g12, ← updT_self g13]
  obtain ⟨lA, zA, hA, rfl⟩ := hXL
  obtain ⟨lB, zB, hB, rfl⟩ := hXS
  subst hT
  refine SW.runD tok mixed hO (by rfl) (by cbv <;> rfl) (by trivial) ?_
  refine AnyE.many [1, 8] (by cbv <;> rfl) (by rfl) ⟨?_, ?_, trivial⟩
  · refine PickE.callQ hday (by cbv <;> rfl) (by cbv <;> rfl) ?_ ?_
    · exact (by repeat (first | exact trivial | refine And.intro (by first | exact lv_of hO (by cbv <;> rfl) (by trivial) | (cbv <;> rfl)) ?_))
    refine AnyE.run tok hO (by rfl) (by cbv <;> rfl) (by trivial) ?_
    refine AnyE.many [3, 8] (by cbv <;> rfl) (by rfl) ⟨?_, ?_, trivial⟩
    · refine PickE.callQ htru (by cbv <;> rfl) (by cbv <;> rfl) ?_ ?_
      · exact (by repeat (first | exact trivial | refine And.intro (by first | exact lv_of hO (by cbv <;> rfl) (by trivial) | (cbv <;> rfl)) ?_))
      refine AnyE.run tok hO (by rfl) (by cbv <;> rfl) (by trivial) ?_
      refine AnyE.many [4, 8] (by cbv <;> rfl) (by rfl) ⟨?_, ?_, trivial⟩
      · refine PickE.callQ hplay (by cbv <;> rfl) (by cbv <;> rfl) ?_ ?_
        · exact (by repeat (first | exact trivial | refine And.intro (by first | exact lv_of hO (by cbv <;> rfl) (by trivial) | (cbv <;> rfl)) ?_))
        refine AnyE.run tok hO (by rfl) (by cbv <;> rfl) (by trivial) ?_
        refine AnyE.effK tok hO (by cbv <;> rfl) (by cbv <;> rfl) (by trivial) ?_ ?_
        · exact (by repeat (first | exact trivial | refine And.intro (by first | exact lv_of hO (by cbv <;> rfl) (by trivial) | (cbv <;> rfl)) ?_))
        refine AnyE.run tok hO (by rfl) (by cbv <;> rfl) (by trivial) ?_
        refine AnyE.effK tok hO (by cbv <;> rfl) (by cbv <;> rfl) (by trivial) ?_ ?_
        · exact (by repeat (first | exact trivial | refine And.intro (by first | exact lv_of hO (by cbv <;> rfl) (by trivial) | (cbv <;> rfl)) ?_))
        refine AnyE.run tok hO (by rfl) (by cbv <;> rfl) (by trivial) ?_
        exact ⟨rfl, _, rfl, ⟨rfl, rfl, rfl, rfl, rfl, rfl, trivial⟩, rfl⟩
      · refine PickE.eff tok hO (by cbv <;> rfl) (by cbv <;> rfl) (by trivial) ?_ ?_
        · exact (by repeat (first | exact trivial | refine And.intro (by first | exact lv_of hO (by cbv <;> rfl) (by trivial) | (cbv <;> rfl)) ?_))
        refine AnyE.run tok hO (by rfl) (by cbv <;> rfl) (by trivial) ?_
        refine AnyE.callP hplay (by cbv <;> rfl) (by cbv <;> rfl) ?_
        refine AnyE.run tok hO (by rfl) (by cbv <;> rfl) (by trivial) ?_
        refine AnyE.effK tok hO (by cbv <;> rfl) (by cbv <;> rfl) (by trivial) ?_ ?_
        · exact (by repeat (first | exact trivial | refine And.intro (by first | exact lv_of hO (by cbv <;> rfl) (by trivial) | (cbv <;> rfl)) ?_))
        refine AnyE.run tok hO (by rfl) (by cbv <;> rfl) (by trivial) ?_
        exact ⟨rfl, _, rfl, ⟨rfl, rfl, rfl, rfl, rfl, rfl, trivial⟩, rfl⟩
    · refine PickE.eff tok hO (by cbv <;> rfl) (by cbv <;> rfl) (by trivial) ?_ ?_
      · exact (by repeat (first | exact trivial | refine And.intro (by first | exact lv_of hO (by cbv <;> rfl) (by trivial) | (cbv <;> rfl)) ?_))
      refine AnyE.run tok hO (by rfl) (by cbv <;> rfl) (by trivial) ?_
      refine AnyE.callP htru (by cbv <;> rfl) (by cbv <;> rfl) ?_
      refine AnyE.run tok hO (by rfl) (by cbv <;> rfl) (by trivial) ?_
      refine AnyE.callP hplay (by cbv <;> rfl) (by cbv <;> rfl) ?_
      refine AnyE.run tok hO (by rfl) (by cbv <;> rfl) (by trivial) ?_
      refine AnyE.effK tok hO (by cbv <;> rfl) (by cbv <;> rfl) (by trivial) ?_ ?_
      · exact (by repeat (first | exact trivial | refine And.intro (by first | exact lv_of hO (by cbv <;> rfl) (by trivial) | (cbv <;> rfl)) ?_))
      refine AnyE.run tok hO (by rfl) (by cbv <;> rfl) (by trivial) ?_
      exact ⟨rfl, _, rfl, ⟨rfl, rfl, rfl, rfl, rfl, rfl, trivial⟩, rfl⟩
  · refine PickE.eff tok hO (by cbv <;> rfl) (by cbv <;> rfl) (by trivial) ?_ ?_
    · exact (by repeat (first | exact trivial | refine And.intro (by first | exact lv_of hO (by cbv <;> rfl) (by trivial) | (cbv <;> rfl)) ?_))
    refine AnyE.run tok hO (by rfl) (by cbv <;> rfl) (by trivial) ?_
    refine AnyE.callP hday (by cbv <;> rfl) (by cbv <;> rfl) ?_
    refine AnyE.run tok hO (by rfl) (by cbv <;> rfl) (by trivial) ?_
    refine AnyE.callP htru (by cbv <;> rfl) (by cbv <;> rfl) ?_
    refine AnyE.run tok hO (by rfl) (by cbv <;> rfl) (by trivial) ?_
    refine AnyE.callP hplay (by cbv <;> rfl) (by cbv <;> rfl) ?_
    refine AnyE.run tok hO (by rfl) (by cbv <;> rfl) (by trivial) ?_
    refine AnyE.effK tok hO (by cbv <;> rfl) (by cbv <;> rfl) (by trivial) ?_ ?_
    · exact (by repeat (first | exact trivial | refine And.intro (by first | exact lv_of hO (by cbv <;> rfl) (by trivial) | (cbv <;> rfl)) ?_))
    refine AnyE.run tok hO (by rfl) (by cbv <;> rfl) (by trivial) ?_
    exact ⟨rfl, _, rfl, ⟨rfl, rfl, rfl, rfl, rfl, rfl, trivial⟩, rfl⟩
set_option maxHeartbeats 8000000 in
theorem lots_s10 (d : DayD) (t : TruD) (g : Nat → AV) (O : Ar) (hO : O = std) (XL XS : AV) (hXL : ∃ len sz h, XL = .isl len sz false h) (hXS : ∃ len sz h, XS = .isl len sz false h) (cd cp : AV) (TA : List AV) (n : Nat) (b l : Nat → Int) (h' o' f' s' : Int)
    (hday : Pure Try.prog 10 [.agg (loX d XL)] cd) (htru : Pure Try.prog 11 [.agg [intsV t.nf t.ef t.fe, XS]] cp) (hplay : Pure Try.prog 9 [cd, cp] (.tup [.agg (talL n b l h' o' f' s'), iV 0])) (TB : List AV) (hT : talL n b l h' o' f' s' = TB)
    (h : AllP (fun p => g p.1 = p.2) [(4, .ptr 0 0), (9, .ptr 1 0), (12, .ptr 2 0), (13, .ptr 3 0), (16, .ptr 6 0), (17, iV 0)]) :
    SW Try.prog none (nthC 10 (bodyF Try.f6)) (midL [(4, .ptr 0 0), (9, .ptr 1 0), (12, .ptr 2 0), (13, .ptr 3 0), (16, .ptr 6 0), (17, iV 0), (18, .ptr 7 0), (19, iV 0)] ⟨((7, .cells none false TB) :: ((6, .cells none false TA) :: (loS d t XL XS [] 6).h)), 8⟩) ⟨⟨205, g⟩, []⟩ ⟨((6, .cells none false TA) :: (loS d t XL XS [] 6).h), 7⟩ := by
  obtain ⟨g4, g9, g12, g13, g16, g17, _⟩ := h
  simp only at g4 g9 g12 g13 g16 g17
  rw [← updT_self g4, ← updT_self g9, ← updT_self g12, ← updT_self g13, ← updT_self g16, ← updT_self g17]
  obtain ⟨lA, zA, hA, rfl⟩ := hXL
  obtain ⟨lB, zB, hB, rfl⟩ := hXS
  subst hT
  refine SW.runD tok mixed hO (by rfl) (by cbv <;> rfl) (by trivial) ?_
  refine AnyE.many [1, 8] (by cbv <;> rfl) (by rfl) ⟨?_, ?_, trivial⟩
  · refine PickE.callQ hday (by cbv <;> rfl) (by cbv <;> rfl) ?_ ?_
    · exact (by repeat (first | exact trivial | refine And.intro (by first | exact lv_of hO (by cbv <;> rfl) (by trivial) | (cbv <;> rfl)) ?_))
    refine AnyE.run tok hO (by rfl) (by cbv <;> rfl) (by trivial) ?_
    refine AnyE.many [3, 8] (by cbv <;> rfl) (by rfl) ⟨?_, ?_, trivial⟩
    · refine PickE.callQ htru (by cbv <;> rfl) (by cbv <;> rfl) ?_ ?_
      · exact (by repeat (first | exact trivial | refine And.intro (by first | exact lv_of hO (by cbv <;> rfl) (by trivial) | (cbv <;> rfl)) ?_))
      refine AnyE.run tok hO (by rfl) (by cbv <;> rfl) (by trivial) ?_
      refine AnyE.many [4, 8] (by cbv <;> rfl) (by rfl) ⟨?_, ?_, trivial⟩
      · refine PickE.callQ hplay (by cbv <;> rfl) (by cbv <;> rfl) ?_ ?_
        · exact (by repeat (first | exact trivial | refine And.intro (by first | exact lv_of hO (by cbv <;> rfl) (by trivial) | (cbv <;> rfl)) ?_))
        refine AnyE.run tok hO (by rfl) (by cbv <;> rfl) (by trivial) ?_
        refine AnyE.effK tok hO (by cbv <;> rfl) (by cbv <;> rfl) (by trivial) ?_ ?_
        · exact (by repeat (first | exact trivial | refine And.intro (by first | exact lv_of hO (by cbv <;> rfl) (by trivial) | (cbv <;> rfl)) ?_))
        refine AnyE.run tok hO (by rfl) (by cbv <;> rfl) (by trivial) ?_
        refine AnyE.effK tok hO (by cbv <;> rfl) (by cbv <;> rfl) (by trivial) ?_ ?_
        · exact (by repeat (first | exact trivial | refine And.intro (by first | exact lv_of hO (by cbv <;> rfl) (by trivial) | (cbv <;> rfl)) ?_))
        refine AnyE.run tok hO (by rfl) (by cbv <;> rfl) (by trivial) ?_
        exact ⟨rfl, _, rfl, ⟨rfl, rfl, rfl, rfl, rfl, rfl, rfl, rfl, trivial⟩, rfl⟩
      · refine PickE.eff tok hO (by cbv <;> rfl) (by cbv <;> rfl) (by trivial) ?_ ?_
        · exact (by repeat (first | exact trivial | refine And.intro (by first | exact lv_of hO (by cbv <;> rfl) (by trivial) | (cbv <;> rfl)) ?_))
        refine AnyE.run tok hO (by rfl) (by cbv <;> rfl) (by trivial) ?_
        refine AnyE.callP hplay (by cbv <;> rfl) (by cbv <;> rfl) ?_
        refine AnyE.run tok hO (by rfl) (by cbv <;> rfl) (by trivial) ?_
        refine AnyE.effK tok hO (by cbv <;> rfl) (by cbv <;> rfl) (by trivial) ?_ ?_
        · exact (by repeat (first | exact trivial | refine And.intro (by first | exact lv_of hO (by cbv <;> rfl) (by trivial) | (cbv <;> rfl)) ?_))
        refine AnyE.run tok hO (by rfl) (by cbv <;> rfl) (by trivial) ?_
        exact ⟨rfl, _, rfl, ⟨rfl, rfl, rfl, rfl, rfl, rfl, rfl, rfl, trivial⟩, rfl⟩
    · refine PickE.eff tok hO (by cbv <;> rfl) (by cbv <;> rfl) (by trivial) ?_ ?_
      · exact (by repeat (first | exact trivial | refine And.intro (by first | exact lv_of hO (by cbv <;> rfl) (by trivial) | (cbv <;> rfl)) ?_))
      refine AnyE.run tok hO (by rfl) (by cbv <;> rfl) (by trivial) ?_
      refine AnyE.callP htru (by cbv <;> rfl) (by cbv <;> rfl) ?_
      refine AnyE.run tok hO (by rfl) (by cbv <;> rfl) (by trivial) ?_
      refine AnyE.callP hplay (by cbv <;> rfl) (by cbv <;> rfl) ?_
      refine AnyE.run tok hO (by rfl) (by cbv <;> rfl) (by trivial) ?_
      refine AnyE.effK tok hO (by cbv <;> rfl) (by cbv <;> rfl) (by trivial) ?_ ?_
      · exact (by repeat (first | exact trivial | refine And.intro (by first | exact lv_of hO (by cbv <;> rfl) (by trivial) | (cbv <;> rfl)) ?_))
      refine AnyE.run tok hO (by rfl) (by cbv <;> rfl) (by trivial) ?_
      exact ⟨rfl, _, rfl, ⟨rfl, rfl, rfl, rfl, rfl, rfl, rfl, rfl, trivial⟩, rfl⟩
  · refine PickE.eff tok hO (by cbv <;> rfl) (by cbv <;> rfl) (by trivial) ?_ ?_
    · exact (by repeat (first | exact trivial | refine And.intro (by first | exact lv_of hO (by cbv <;> rfl) (by trivial) | (cbv <;> rfl)) ?_))
    refine AnyE.run tok hO (by rfl) (by cbv <;> rfl) (by trivial) ?_
    refine AnyE.callP hday (by cbv <;> rfl) (by cbv <;> rfl) ?_
    refine AnyE.run tok hO (by rfl) (by cbv <;> rfl) (by trivial) ?_
    refine AnyE.callP htru (by cbv <;> rfl) (by cbv <;> rfl) ?_
    refine AnyE.run tok hO (by rfl) (by cbv <;> rfl) (by trivial) ?_
    refine AnyE.callP hplay (by cbv <;> rfl) (by cbv <;> rfl) ?_
    refine AnyE.run tok hO (by rfl) (by cbv <;> rfl) (by trivial) ?_
    refine AnyE.effK tok hO (by cbv <;> rfl) (by cbv <;> rfl) (by trivial) ?_ ?_
    · exact (by repeat (first | exact trivial | refine And.intro (by first | exact lv_of hO (by cbv <;> rfl) (by trivial) | (cbv <;> rfl)) ?_))
    refine AnyE.run tok hO (by rfl) (by cbv <;> rfl) (by trivial) ?_
    exact ⟨rfl, _, rfl, ⟨rfl, rfl, rfl, rfl, rfl, rfl, rfl, rfl, trivial⟩, rfl⟩
set_option maxHeartbeats 8000000 in
theorem lots_s11 (haw : Pure Try.prog 8 [] (.lit (.bool true))) (g : Nat → AV) (O : Ar) (hO : O = std) (n : Nat) (b l : Nat → Int) (h' o' f' s' : Int) (hn : n < 1000) (h : AllP (fun p => g p.1 = p.2) [(16, .ptr 6 0), (17, iV 0), (18, .ptr 7 0), (19, iV 0)]) (H : Hp) :
    SW Try.prog none (restC 11 (bodyF Try.f6)) (retQ T Try.f6 (fun v st' => Eqv (frz st'.h (fun _ => true) 3 v) (.lit (.bool true)))) ⟨⟨205, g⟩, []⟩ ⟨(7, .cells none false (talL n b l h' o' f' s')) :: (6, .cells none false (talL n b l h' o' f' s')) :: H, 8⟩ := by
  obtain ⟨g16, g17, g18, g19, _⟩ := h
  simp only at g16 g17 g18 g19
  rw [← updT_self g16, ← updT_self g17, ← updT_self g18, ← updT_self g19]
  have e1 : Pure Try.prog 31 [intsV n false b, intsV n false b] (.lit (.bool true)) := (ints_ok n false b n false b hn).res (Eqv.lit (by unfold intsEq; rw [allN_true fun _ _ => by simp]; simp))
  have e2 : Pure Try.prog 31 [intsV n false l, intsV n false l] (.lit (.bool true)) := (ints_ok n false l n false l hn).res (Eqv.lit (by unfold intsEq; rw [allN_true fun _ _ => by simp]; simp))
  refine SW.seqRun tok hO (by cbv <;> rfl) (by trivial) ?_
  refine OpsW.splitG (by cbv <;> rfl) (fun h1 => ?_) (fun h1 => ?_)
  rotate_left
  · exfalso; subst hO; simp [std] at h1
  refine OpsW.run tok hO (by cbv <;> rfl) (by trivial) ?_
  refine OpsW.splitG (by cbv <;> rfl) (fun h1 => ?_) (fun h1 => ?_)
  rotate_left
  · exfalso; subst hO; simp [std] at h1
  refine OpsW.run tok hO (by cbv <;> rfl) (by trivial) ?_
  refine OpsW.callP e1 (by cbv <;> rfl) ?_
  refine OpsW.run tok hO (by cbv <;> rfl) (by trivial) ?_
  refine OpsW.callP e2 (by cbv <;> rfl) ?_
  refine OpsW.run tok hO (by cbv <;> rfl) (by trivial) ?_
  refine OpsW.splitG (by cbv <;> rfl) (fun h1 => ?_) (fun h1 => ?_)
  rotate_left
  · exfalso; subst hO; simp [std] at h1
  refine OpsW.run tok hO (by cbv <;> rfl) (by trivial) ?_
  refine OpsW.splitG (by cbv <;> rfl) (fun h1 => ?_) (fun h1 => ?_)
  rotate_left
  · exfalso; subst hO; simp [std] at h1
  refine OpsW.run tok hO (by cbv <;> rfl) (by trivial) ?_
  refine OpsW.splitG (by cbv <;> rfl) (fun h1 => ?_) (fun h1 => ?_)
  rotate_left
  · exfalso; subst hO; simp [std] at h1
  refine OpsW.run tok hO (by cbv <;> rfl) (by trivial) ?_
  refine OpsW.splitG (by cbv <;> rfl) (fun h1 => ?_) (fun h1 => ?_)
  rotate_left
  · exfalso; subst hO; simp [std] at h1
  refine OpsW.run tok hO (by cbv <;> rfl) (by trivial) ?_
  refine OpsW.callP haw (by cbv <;> rfl) ?_
  refine OpsW.run tok hO (by cbv <;> rfl) (by trivial) ?_
  exact SW.ret ⟨_, _, rfl, rfl, Eqv.refl _⟩
end Go.Fz
