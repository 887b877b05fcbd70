/- Own work of the verifier of watercress: FzB29, FzB30. -/
import Derived.Test.YtkomalgeigefjaaMb14
set_option linter.unusedVariables false
set_option linter.unusedSimpArgs false
namespace Go.Fz
open Go.Proofs
set_option maxRecDepth 100000
theorem flatG_setI {n k : Nat} (fl : Nat → Int) (x : Int) (hk : k < n) : (flatG 1 (intC fl) n).set (k * 1 + 0) (iV x) = flatG 1 (intC (setI fl k x)) n :=
  flatG_set hk (by omega) (show iV (setI fl k x k) = _ by rw [setI_self]) fun a b _ hb hne => by
    have : a ≠ k := fun e => hne ⟨e, by omega⟩
    show iV (setI fl k x a) = iV (fl a)
    rw [setI_ne this]
set_option maxHeartbeats 8000000 in
theorem thin_s5 (d : DayD) (t : TruD) (a b : Int) (k : Nat) (g : Nat → AV) (O : Ar) (hO : O = std) (hk : k < d.nw) (hkf : k < t.nf) (GA GA' : List AV) (hGA : flatG 1 (intC t.fe) t.nf = GA) (x : Int)
    (hx : O.mn (d.whi (O.nat (Int.ofNat k))) (O.bin .add .i64 (t.fe (O.nat (Int.ofNat k))) (O.bin .rem .i64 (O.conv .i64 b) 5)) = x) (hGA' : flatG 1 (intC (setI t.fe k x)) t.nf = GA') (XB : AV) (HB : Hp)
    (h : AllP (fun p => g p.1 = p.2) [(2, .lit (.int .u8 a)), (3, .lit (.int .u8 b)), (4, .ptr 0 0), (9, .ptr 1 0), (10, .lit (.int .i64 (Int.ofNat k))), (11, .ptr 4 0), (12, .ptr 5 0)]) :
    SW Try.prog none (nthC 5 (bodyF Try.f5)) (midT [(2, .lit (.int .u8 a)), (3, .lit (.int .u8 b)), (4, .ptr 0 0), (9, .ptr 1 0), (10, .lit (.int .i64 (Int.ofNat k))), (11, .ptr 4 0), (12, .ptr 5 0)] (thS4 d t GA' XB HB)) ⟨⟨240, g⟩, []⟩ (thS4 d t GA XB HB) := by
  obtain ⟨g2, g3, g4, g9, g10, g11, g12, _⟩ := h
  simp only at g2 g3 g4 g9 g10 g11 g12
  rw [← updT_self g2, ← updT_self g3, ← updT_self g4, ← updT_self g9, ← updT_self g10, ← updT_self g11, ← updT_self g12]
  have h0 : (0 : Int) ≤ Int.ofNat k := Int.natCast_nonneg k
  have hlen : GA.length = t.nf * 1 := by rw [← hGA, flatG_length]
  refine SW.runDN tok mixed hO 19 (by rfl) (by cbv <;> rfl) ?_ ?_
  · exact ⟨by show (5 : Int) ≠ 0; decide, ⟨h0, Int.ofNat_lt.2 hkf⟩, h0, Int.ofNat_lt.2 hk⟩
  refine AnyE.idxSl tok 19 (n := k) (by rfl) (by cbv <;> rfl) (by kernel_rfl) hkf (by cbv <;> rfl) fun q hq => ?_
  refine AnyE.run tok hO (by rfl) (by cbv <;> rfl) (by trivial) ?_
  refine AnyE.sto (id := 2) (G := GA) tok (by cbv <;> rfl) (by cbv <;> rfl) (by kernel_rfl) (by rfl) ?_ fun B' hB' => ?_
  · show q + 0 < GA.length
    rw [hlen]; omega
  have hBB : B' = GA' := by
    rw [hB', ← hGA, ← hGA']
    show (flatG 1 (intC t.fe) t.nf).set q (iV (O.mn (d.whi (O.nat (Int.ofNat k))) (O.bin .add .i64 (t.fe (O.nat (Int.ofNat k))) (O.bin .rem .i64 (O.conv .i64 b) 5)))) = _
    rw [hx, hq, show 0 + k * 1 = k * 1 + 0 by omega]
    exact flatG_setI t.fe x hkf
  refine AnyE.done (by rfl) ?_
  refine ⟨rfl, _, rfl, ⟨rfl, rfl, rfl, rfl, rfl, rfl, rfl, trivial⟩, ?_⟩
  rw [← hBB]; rfl
set_option maxHeartbeats 8000000 in
theorem thin_s6 (d : DayD) (t : TruD) (a b : Int) (k : Nat) (i : Nat) (g : Nat → AV) (O : Ar) (hO : O = std) (hi : i < d.nl) (his : i < t.ns) (hI : O.bin .rem .i64 (O.conv .i64 a) (Int.ofNat d.nl) = Int.ofNat i) (GA GB GB' : List AV) (hGB : flatG 1 (intC t.st) t.ns = GB) (y : Int)
    (hy : O.mn (d.lhi (O.nat (Int.ofNat i))) (O.bin .add .i64 (t.st (O.nat (Int.ofNat i))) (O.bin .rem .i64 (O.conv .i64 b) 9)) = y) (hGB' : flatG 1 (intC (setI t.st i y)) t.ns = GB')
    (h : AllP (fun p => g p.1 = p.2) [(2, .lit (.int .u8 a)), (3, .lit (.int .u8 b)), (4, .ptr 0 0), (9, .ptr 1 0), (10, .lit (.int .i64 (Int.ofNat k))), (11, .ptr 4 0), (12, .ptr 5 0)]) :
    SW Try.prog none (nthC 6 (bodyF Try.f5)) (midT [(4, .ptr 0 0), (9, .ptr 1 0), (10, .lit (.int .i64 (Int.ofNat k))), (11, .ptr 4 0), (12, .ptr 5 0)] (thS4 d t GA (.sl 3 0 t.ns 1 false) [(3, .cells none false GB')])) ⟨⟨240, g⟩, []⟩ (thS4 d t GA (.sl 3 0 t.ns 1 false) [(3, .cells none false GB)]) := by
  obtain ⟨g2, g3, g4, g9, g10, g11, g12, _⟩ := h
  simp only at g2 g3 g4 g9 g10 g11 g12
  rw [← updT_self g2, ← updT_self g3, ← updT_self g4, ← updT_self g9, ← updT_self g10, ← updT_self g11, ← updT_self g12]
  have h0 : (0 : Int) ≤ Int.ofNat i := Int.natCast_nonneg i
  have hlen : GB.length = t.ns * 1 := by rw [← hGB, flatG_length]
  refine SW.seqRun tok hO (by cbv <;> rfl) (by trivial) ?_
  refine SW.seqRun tok hO (by cbv <;> rfl) (by trivial) ?_
  refine SW.condS (by cbv <;> rfl) (fun h1 => ?_) (fun h1 => ?_)
  rotate_left
  · exfalso
    have : (d.nl : Int) ≤ 0 := by subst hO; simpa [std] using h1
    omega
  refine SW.seq (SW.mono (Q := midT [(3, .lit (.int .u8 b)), (4, .ptr 0 0), (9, .ptr 1 0), (10, .lit (.int .i64 (Int.ofNat k))), (11, .ptr 4 0), (12, .ptr 5 0), (14, .lit (.int .i64 (Int.ofNat i)))] (thS4 d t GA (.sl 3 0 t.ns 1 false) [(3, .cells none false GB)])) ?_ ?_)
  · refine SW.run tok hO (by cbv <;> rfl) ?_ ?_
    · show (Int.ofNat d.nl : Int) ≠ 0
      exact fun h => by have : (d.nl : Int) = 0 := h; omega
    exact ⟨rfl, _, rfl, ⟨rfl, rfl, rfl, rfl, rfl, rfl, congrArg (fun z => AV.lit (.int .i64 z)) hI, trivial⟩, rfl⟩
  rintro e fm st ⟨rfl, g', rfl, ⟨g3, g4, g9, g10, g11, g12, g14, _⟩, rfl⟩
  simp only at g3 g4 g9 g10 g11 g12 g14
  rw [← updT_self g3, ← updT_self g4, ← updT_self g9, ← updT_self g10, ← updT_self g11, ← updT_self g12, ← updT_self g14]
  refine SW.runDN tok mixed hO 20 (by rfl) (by cbv <;> rfl) ?_ ?_
  · exact ⟨by show (9 : Int) ≠ 0; decide, ⟨h0, Int.ofNat_lt.2 his⟩, h0, Int.ofNat_lt.2 hi⟩
  refine AnyE.idxSl tok 20 (n := i) (by rfl) (by cbv <;> rfl) (by kernel_rfl) his (by cbv <;> rfl) fun q hq => ?_
  refine AnyE.run tok hO (by rfl) (by cbv <;> rfl) (by trivial) ?_
  refine AnyE.sto (id := 3) (G := GB) tok (by cbv <;> rfl) (by cbv <;> rfl) (by kernel_rfl) (by rfl) ?_ fun B' hB' => ?_
  · show q + 0 < GB.length
    rw [hlen]; omega
  have hBB : B' = GB' := by
    rw [hB', ← hGB, ← hGB']
    show (flatG 1 (intC t.st) t.ns).set q (iV (O.mn (d.lhi (O.nat (Int.ofNat i))) (O.bin .add .i64 (t.st (O.nat (Int.ofNat i))) (O.bin .rem .i64 (O.conv .i64 b) 9)))) = _
    rw [hy, hq, show 0 + i * 1 = i * 1 + 0 by omega]
    exact flatG_setI t.st y his
  refine AnyE.done (by rfl) ?_
  refine ⟨rfl, _, rfl, ⟨rfl, rfl, rfl, rfl, rfl, trivial⟩, ?_⟩
  rw [← hBB]; rfl
theorem thin_s6z (d : DayD) (t : TruD) (a b : Int) (k : Nat) (g : Nat → AV) (O : Ar) (hO : O = std) (hi : d.nl = 0) (GA : List AV)
    (h : AllP (fun p => g p.1 = p.2) [(2, .lit (.int .u8 a)), (3, .lit (.int .u8 b)), (4, .ptr 0 0), (9, .ptr 1 0), (10, .lit (.int .i64 (Int.ofNat k))), (11, .ptr 4 0), (12, .ptr 5 0)]) :
    SW Try.prog none (nthC 6 (bodyF Try.f5)) (midT [(4, .ptr 0 0), (9, .ptr 1 0), (10, .lit (.int .i64 (Int.ofNat k))), (11, .ptr 4 0), (12, .ptr 5 0)] (thS4 d t GA nl3 [])) ⟨⟨240, g⟩, []⟩ (thS4 d t GA nl3 []) := by
  obtain ⟨g2, g3, g4, g9, g10, g11, g12, _⟩ := h
  simp only at g2 g3 g4 g9 g10 g11 g12
  rw [← updT_self g2, ← updT_self g3, ← updT_self g4, ← updT_self g9, ← updT_self g10, ← updT_self g11, ← updT_self g12]
  refine SW.seqRun tok hO (by cbv <;> rfl) (by trivial) ?_
  refine SW.seqRun tok hO (by cbv <;> rfl) (by trivial) ?_
  refine SW.condS (by cbv <;> rfl) (fun h1 => ?_) (fun h1 => SW.skip ?_)
  · exfalso
    have : (0 : Int) < (d.nl : Int) := by subst hO; simpa [std] using h1
    omega
  exact ⟨rfl, _, rfl, ⟨rfl, rfl, rfl, rfl, rfl, trivial⟩, rfl⟩
end Go.Fz
namespace Go.Fz
open Go.Proofs
set_option maxRecDepth 100000
def talL (n : Nat) (b l : Nat → Int) (h o f s : Int) : List AV := [intsV n false b, intsV n false l, iV h, iV o, iV f, iV s]
def thB (d : DayD) (t : TruD) (XA XB : AV) : Hp := [(5, .cells none false [intsV t.nf t.ef t.fe, XB]), (4, .cells none false [XA, intsV t.ns t.es t.st]), (1, .cells none false (truC t)), (0, .cells none false (dayC d))]
set_option maxHeartbeats 8000000 in
theorem thin_s7 (d : DayD) (t : TruD) (k : Nat) (g : Nat → AV) (O : Ar) (hO : O = std) (XA XB : AV) (hXA : ∃ len sz h, XA = .isl len sz false h) (hXB : XB = nl3 ∨ ∃ len sz h, XB = .isl len sz false h) (cp : AV)  (n : Nat) (b l : Nat → Int) (h' o' f' s' : Int)
    (hday : Pure Try.prog 10 [dayV d] (dayV d)) (htru : Pure Try.prog 11 [truV t] cp) (hplay : Pure Try.prog 9 [dayV d, cp] (.tup [.agg (talL n b l h' o' f' s'), iV 0])) (TA : List AV) (hT : talL n b l h' o' f' s' = TA)
    (h : AllP (fun p => g p.1 = p.2) [(4, .ptr 0 0), (9, .ptr 1 0), (10, .lit (.int .i64 (Int.ofNat k))), (11, .ptr 4 0), (12, .ptr 5 0)]) :
    SW Try.prog none (nthC 7 (bodyF Try.f5)) (midT [(4, .ptr 0 0), (9, .ptr 1 0), (10, .lit (.int .i64 (Int.ofNat k))), (11, .ptr 4 0), (12, .ptr 5 0), (15, .ptr 6 0), (16, iV 0)] ⟨((6, .cells none false TA) :: thB d t XA XB), 7⟩) ⟨⟨240, g⟩, []⟩ ⟨thB d t XA XB, 6⟩ := by
  obtain ⟨g4, g9, g10, g11, g12, _⟩ := h
  simp only at g4 g9 g10 g11 g12
  rw [← updT_self g4, ← updT_self g9, ← updT_self g10, ← updT_self g11, ← updT_self g12]
  obtain ⟨lA, zA, hA, rfl⟩ := hXA
  subst hT
  rcases hXB with rfl | ⟨lB, zB, hB, rfl⟩
  · refine SW.runD tok mixed hO (by rfl) (by cbv <;> rfl) (by trivial) ?_
    refine AnyE.many [1, 8] (by cbv <;> rfl) (by rfl) ⟨?_, ?_, trivial⟩
    · refine PickE.callQ hday (by cbv <;> rfl) (by cbv <;> rfl) ?_ ?_
      · exact (by repeat (first | exact trivial | refine And.intro (by first | exact lv_of hO (by cbv <;> rfl) (by trivial) | (cbv <;> rfl)) ?_))
      refine AnyE.run tok hO (by rfl) (by cbv <;> rfl) (by trivial) ?_
      refine AnyE.many [3, 8] (by cbv <;> rfl) (by rfl) ⟨?_, ?_, trivial⟩
      · refine PickE.callQ htru (by cbv <;> rfl) (by cbv <;> rfl) ?_ ?_
        · exact (by repeat (first | exact trivial | refine And.intro (by first | exact lv_of hO (by cbv <;> rfl) (by trivial) | (cbv <;> rfl)) ?_))
        refine AnyE.run tok hO (by rfl) (by cbv <;> rfl) (by trivial) ?_
        refine AnyE.many [4, 8] (by cbv <;> rfl) (by rfl) ⟨?_, ?_, trivial⟩
        · refine PickE.callQ hplay (by cbv <;> rfl) (by cbv <;> rfl) ?_ ?_
          · exact (by repeat (first | exact trivial | refine And.intro (by first | exact lv_of hO (by cbv <;> rfl) (by trivial) | (cbv <;> rfl)) ?_))
          refine AnyE.run tok hO (by rfl) (by cbv <;> rfl) (by trivial) ?_
          refine AnyE.effK tok hO (by cbv <;> rfl) (by cbv <;> rfl) (by trivial) ?_ ?_
          · exact (by repeat (first | exact trivial | refine And.intro (by first | exact lv_of hO (by cbv <;> rfl) (by trivial) | (cbv <;> rfl)) ?_))
          refine AnyE.run tok hO (by rfl) (by cbv <;> rfl) (by trivial) ?_
          refine AnyE.effK tok hO (by cbv <;> rfl) (by cbv <;> rfl) (by trivial) ?_ ?_
          · exact (by repeat (first | exact trivial | refine And.intro (by first | exact lv_of hO (by cbv <;> rfl) (by trivial) | (cbv <;> rfl)) ?_))
          refine AnyE.run tok hO (by rfl) (by cbv <;> rfl) (by trivial) ?_
          exact ⟨rfl, _, rfl, ⟨rfl, rfl, rfl, rfl, rfl, rfl, rfl, trivial⟩, rfl⟩
        · refine PickE.eff tok hO (by cbv <;> rfl) (by cbv <;> rfl) (by trivial) ?_ ?_
          · exact (by repeat (first | exact trivial | refine And.intro (by first | exact lv_of hO (by cbv <;> rfl) (by trivial) | (cbv <;> rfl)) ?_))
          refine AnyE.run tok hO (by rfl) (by cbv <;> rfl) (by trivial) ?_
          refine AnyE.callP hplay (by cbv <;> rfl) (by cbv <;> rfl) ?_
          refine AnyE.run tok hO (by rfl) (by cbv <;> rfl) (by trivial) ?_
          refine AnyE.effK tok hO (by cbv <;> rfl) (by cbv <;> rfl) (by trivial) ?_ ?_
          · exact (by repeat (first | exact trivial | refine And.intro (by first | exact lv_of hO (by cbv <;> rfl) (by trivial) | (cbv <;> rfl)) ?_))
          refine AnyE.run tok hO (by rfl) (by cbv <;> rfl) (by trivial) ?_
          exact ⟨rfl, _, rfl, ⟨rfl, rfl, rfl, rfl, rfl, rfl, rfl, trivial⟩, rfl⟩
      · refine PickE.eff tok hO (by cbv <;> rfl) (by cbv <;> rfl) (by trivial) ?_ ?_
        · exact (by repeat (first | exact trivial | refine And.intro (by first | exact lv_of hO (by cbv <;> rfl) (by trivial) | (cbv <;> rfl)) ?_))
        refine AnyE.run tok hO (by rfl) (by cbv <;> rfl) (by trivial) ?_
        refine AnyE.callP htru (by cbv <;> rfl) (by cbv <;> rfl) ?_
        refine AnyE.run tok hO (by rfl) (by cbv <;> rfl) (by trivial) ?_
        refine AnyE.callP hplay (by cbv <;> rfl) (by cbv <;> rfl) ?_
        refine AnyE.run tok hO (by rfl) (by cbv <;> rfl) (by trivial) ?_
        refine AnyE.effK tok hO (by cbv <;> rfl) (by cbv <;> rfl) (by trivial) ?_ ?_
        · exact (by repeat (first | exact trivial | refine And.intro (by first | exact lv_of hO (by cbv <;> rfl) (by trivial) | (cbv <;> rfl)) ?_))
        refine AnyE.run tok hO (by rfl) (by cbv <;> rfl) (by trivial) ?_
        exact ⟨rfl, _, rfl, ⟨rfl, rfl, rfl, rfl, rfl, rfl, rfl, trivial⟩, rfl⟩
    · refine PickE.eff tok hO (by cbv <;> rfl) (by cbv <;> rfl) (by trivial) ?_ ?_
      · exact (by repeat (first | exact trivial | refine And.intro (by first | exact lv_of hO (by cbv <;> rfl) (by trivial) | (cbv <;> rfl)) ?_))
      refine AnyE.run tok hO (by rfl) (by cbv <;> rfl) (by trivial) ?_
      refine AnyE.callP hday (by cbv <;> rfl) (by cbv <;> rfl) ?_
      refine AnyE.run tok hO (by rfl) (by cbv <;> rfl) (by trivial) ?_
      refine AnyE.callP htru (by cbv <;> rfl) (by cbv <;> rfl) ?_
      refine AnyE.run tok hO (by rfl) (by cbv <;> rfl) (by trivial) ?_
      refine AnyE.callP hplay (by cbv <;> rfl) (by cbv <;> rfl) ?_
      refine AnyE.run tok hO (by rfl) (by cbv <;> rfl) (by trivial) ?_
      refine AnyE.effK tok hO (by cbv <;> rfl) (by cbv <;> rfl) (by trivial) ?_ ?_
      · exact (by repeat (first | exact trivial | refine And.intro (by first | exact lv_of hO (by cbv <;> rfl) (by trivial) | (cbv <;> rfl)) ?_))
      refine AnyE.run tok hO (by rfl) (by cbv <;> rfl) (by trivial) ?_
      exact ⟨rfl, _, rfl, ⟨rfl, rfl, rfl, rfl, rfl, rfl, rfl, trivial⟩, rfl⟩
  · refine SW.runD tok mixed hO (by rfl) (by cbv <;> rfl) (by trivial) ?_
    refine AnyE.many [1, 8] (by cbv <;> rfl) (by rfl) ⟨?_, ?_, trivial⟩
    · refine PickE.callQ hday (by cbv <;> rfl) (by cbv <;> rfl) ?_ ?_
      · exact (by repeat (first | exact trivial | refine And.intro (by first | exact lv_of hO (by cbv <;> rfl) (by trivial) | (cbv <;> rfl)) ?_))
      refine AnyE.run tok hO (by rfl) (by cbv <;> rfl) (by trivial) ?_
      refine AnyE.many [3, 8] (by cbv <;> rfl) (by rfl) ⟨?_, ?_, trivial⟩
      · refine PickE.callQ htru (by cbv <;> rfl) (by cbv <;> rfl) ?_ ?_
        · exact (by repeat (first | exact trivial | refine And.intro (by first | exact lv_of hO (by cbv <;> rfl) (by trivial) | (cbv <;> rfl)) ?_))
        refine AnyE.run tok hO (by rfl) (by cbv <;> rfl) (by trivial) ?_
        refine AnyE.many [4, 8] (by cbv <;> rfl) (by rfl) ⟨?_, ?_, trivial⟩
        · refine PickE.callQ hplay (by cbv <;> rfl) (by cbv <;> rfl) ?_ ?_
          · exact (by repeat (first | exact trivial | refine And.intro (by first | exact lv_of hO (by cbv <;> rfl) (by trivial) | (cbv <;> rfl)) ?_))
          refine AnyE.run tok hO (by rfl) (by cbv <;> rfl) (by trivial) ?_
          refine AnyE.effK tok hO (by cbv <;> rfl) (by cbv <;> rfl) (by trivial) ?_ ?_
          · exact (by repeat (first | exact trivial | refine And.intro (by first | exact lv_of hO (by cbv <;> rfl) (by trivial) | (cbv <;> rfl)) ?_))
          refine AnyE.run tok hO (by rfl) (by cbv <;> rfl) (by trivial) ?_
          refine AnyE.effK tok hO (by cbv <;> rfl) (by cbv <;> rfl) (by trivial) ?_ ?_
          · exact (by repeat (first | exact trivial | refine And.intro (by first | exact lv_of hO (by cbv <;> rfl) (by trivial) | (cbv <;> rfl)) ?_))
          refine AnyE.run tok hO (by rfl) (by cbv <;> rfl) (by trivial) ?_
          exact ⟨rfl, _, rfl, ⟨rfl, rfl, rfl, rfl, rfl, rfl, rfl, trivial⟩, rfl⟩
        · refine PickE.eff tok hO (by cbv <;> rfl) (by cbv <;> rfl) (by trivial) ?_ ?_
          · exact (by repeat (first | exact trivial | refine And.intro (by first | exact lv_of hO (by cbv <;> rfl) (by trivial) | (cbv <;> rfl)) ?_))
          refine AnyE.run tok hO (by rfl) (by cbv <;> rfl) (by trivial) ?_
          refine AnyE.callP hplay (by cbv <;> rfl) (by cbv <;> rfl) ?_
          refine AnyE.run tok hO (by rfl) (by cbv <;> rfl) (by trivial) ?_
          refine AnyE.effK tok hO (by cbv <;> rfl) (by cbv <;> rfl) (by trivial) ?_ ?_
          · exact (by repeat (first | exact trivial | refine And.intro (by first | exact lv_of hO (by cbv <;> rfl) (by trivial) | (cbv <;> rfl)) ?_))
          refine AnyE.run tok hO (by rfl) (by cbv <;> rfl) (by trivial) ?_
          exact ⟨rfl, _, rfl, ⟨rfl, rfl, rfl, rfl, rfl, rfl, rfl, trivial⟩, rfl⟩
      · refine PickE.eff tok hO (by cbv <;> rfl) (by cbv <;> rfl) (by trivial) ?_ ?_
        · exact (by repeat (first | exact trivial | refine And.intro (by first | exact lv_of hO (by cbv <;> rfl) (by trivial) | (cbv <;> rfl)) ?_))
        refine AnyE.run tok hO (by rfl) (by cbv <;> rfl) (by trivial) ?_
        refine AnyE.callP htru (by cbv <;> rfl) (by cbv <;> rfl) ?_
        refine AnyE.run tok hO (by rfl) (by cbv <;> rfl) (by trivial) ?_
        refine AnyE.callP hplay (by cbv <;> rfl) (by cbv <;> rfl) ?_
        refine AnyE.run tok hO (by rfl) (by cbv <;> rfl) (by trivial) ?_
        refine AnyE.effK tok hO (by cbv <;> rfl) (by cbv <;> rfl) (by trivial) ?_ ?_
        · exact (by repeat (first | exact trivial | refine And.intro (by first | exact lv_of hO (by cbv <;> rfl) (by trivial) | (cbv <;> rfl)) ?_))
        refine AnyE.run tok hO (by rfl) (by cbv <;> rfl) (by trivial) ?_
        exact ⟨rfl, _, rfl, ⟨rfl, rfl, rfl, rfl, rfl, rfl, rfl, trivial⟩, rfl⟩
    · refine PickE.eff tok hO (by cbv <;> rfl) (by cbv <;> rfl) (by trivial) ?_ ?_
      · exact (by repeat (first | exact trivial | refine And.intro (by first | exact lv_of hO (by cbv <;> rfl) (by trivial) | (cbv <;> rfl)) ?_))
      refine AnyE.run tok hO (by rfl) (by cbv <;> rfl) (by trivial) ?_
      refine AnyE.callP hday (by cbv <;> rfl) (by cbv <;> rfl) ?_
      refine AnyE.run tok hO (by rfl) (by cbv <;> rfl) (by trivial) ?_
      refine AnyE.callP htru (by cbv <;> rfl) (by cbv <;> rfl) ?_
      refine AnyE.run tok hO (by rfl) (by cbv <;> rfl) (by trivial) ?_
      refine AnyE.callP hplay (by cbv <;> rfl) (by cbv <;> rfl) ?_
      refine AnyE.run tok hO (by rfl) (by cbv <;> rfl) (by trivial) ?_
      refine AnyE.effK tok hO (by cbv <;> rfl) (by cbv <;> rfl) (by trivial) ?_ ?_
      · exact (by repeat (first | exact trivial | refine And.intro (by first | exact lv_of hO (by cbv <;> rfl) (by trivial) | (cbv <;> rfl)) ?_))
      refine AnyE.run tok hO (by rfl) (by cbv <;> rfl) (by trivial) ?_
      exact ⟨rfl, _, rfl, ⟨rfl, rfl, rfl, rfl, rfl, rfl, rfl, trivial⟩, rfl⟩
set_option maxHeartbeats 8000000 in
theorem thin_s8 (d : DayD) (t : TruD) (k : Nat) (g : Nat → AV) (O : Ar) (hO : O = std) (XA XB : AV) (hXA : ∃ len sz h, XA = .isl len sz false h) (hXB : XB = nl3 ∨ ∃ len sz h, XB = .isl len sz false h) (cp : AV) (TA : List AV) (n : Nat) (b l : Nat → Int) (h' o' f' s' : Int)
    (hday : Pure Try.prog 10 [dayV d] (dayV d)) (htru : Pure Try.prog 11 [.agg [XA, intsV t.ns t.es t.st]] cp) (hplay : Pure Try.prog 9 [dayV d, cp] (.tup [.agg (talL n b l h' o' f' s'), iV 0])) (TB : List AV) (hT : talL n b l h' o' f' s' = TB)
    (h : AllP (fun p => g p.1 = p.2) [(4, .ptr 0 0), (9, .ptr 1 0), (10, .lit (.int .i64 (Int.ofNat k))), (11, .ptr 4 0), (12, .ptr 5 0), (15, .ptr 6 0), (16, iV 0)]) :
    SW Try.prog none (nthC 8 (bodyF Try.f5)) (midT [(4, .ptr 0 0), (9, .ptr 1 0), (10, .lit (.int .i64 (Int.ofNat k))), (11, .ptr 4 0), (12, .ptr 5 0), (15, .ptr 6 0), (16, iV 0), (17, .ptr 7 0), (18, iV 0)] ⟨((7, .cells none false TB) :: ((6, .cells none false TA) :: thB d t XA XB)), 8⟩) ⟨⟨240, g⟩, []⟩ ⟨((6, .cells none false TA) :: thB d t XA XB), 7⟩ := by
  obtain ⟨g4, g9, g10, g11, g12, g15, g16, _⟩ := h
  simp only at g4 g9 g10 g11 g12 g15 g16
  rw [← updT_self g4, ← updT_self g9, ← updT_self g10, ← updT_self g11, ← updT_self g12, ← updT_self g15, ← updT_self g16]
  obtain ⟨lA, zA, hA, rfl⟩ := hXA
  subst hT
  rcases hXB with rfl | ⟨lB, zB, hB, rfl⟩
  · refine SW.runD tok mixed hO (by rfl) (by cbv <;> rfl) (by trivial) ?_
    refine AnyE.many [1, 8] (by cbv <;> rfl) (by rfl) ⟨?_, ?_, trivial⟩
    · refine PickE.callQ hday (by cbv <;> rfl) (by cbv <;> rfl) ?_ ?_
      · exact (by repeat (first | exact trivial | refine And.intro (by first | exact lv_of hO (by cbv <;> rfl) (by trivial) | (cbv <;> rfl)) ?_))
      refine AnyE.run tok hO (by rfl) (by cbv <;> rfl) (by trivial) ?_
      refine AnyE.many [3, 8] (by cbv <;> rfl) (by rfl) ⟨?_, ?_, trivial⟩
      · refine PickE.callQ htru (by cbv <;> rfl) (by cbv <;> rfl) ?_ ?_
        · exact (by repeat (first | exact trivial | refine And.intro (by first | exact lv_of hO (by cbv <;> rfl) (by trivial) | (cbv <;> rfl)) ?_))
        refine AnyE.run tok hO (by rfl) (by cbv <;> rfl) (by trivial) ?_
        refine AnyE.many [4, 8] (by cbv <;> rfl) (by rfl) ⟨?_, ?_, trivial⟩
        · refine PickE.callQ hplay (by cbv <;> rfl) (by cbv <;> rfl) ?_ ?_
          · exact (by repeat (first | exact trivial | refine And.intro (by first | exact lv_of hO (by cbv <;> rfl) (by trivial) | (cbv <;> rfl)) ?_))
          refine AnyE.run tok hO (by rfl) (by cbv <;> rfl) (by trivial) ?_
          refine AnyE.effK tok hO (by cbv <;> rfl) (by cbv <;> rfl) (by trivial) ?_ ?_
          · exact (by repeat (first | exact trivial | refine And.intro (by first | exact lv_of hO (by cbv <;> rfl) (by trivial) | (cbv <;> rfl)) ?_))
          refine AnyE.run tok hO (by rfl) (by cbv <;> rfl) (by trivial) ?_
          refine AnyE.effK tok hO (by cbv <;> rfl) (by cbv <;> rfl) (by trivial) ?_ ?_
          · exact (by repeat (first | exact trivial | refine And.intro (by first | exact lv_of hO (by cbv <;> rfl) (by trivial) | (cbv <;> rfl)) ?_))
          refine AnyE.run tok hO (by rfl) (by cbv <;> rfl) (by trivial) ?_
          exact ⟨rfl, _, rfl, ⟨rfl, rfl, rfl, rfl, rfl, rfl, rfl, rfl, rfl, trivial⟩, rfl⟩
        · refine PickE.eff tok hO (by cbv <;> rfl) (by cbv <;> rfl) (by trivial) ?_ ?_
          · exact (by repeat (first | exact trivial | refine And.intro (by first | exact lv_of hO (by cbv <;> rfl) (by trivial) | (cbv <;> rfl)) ?_))
          refine AnyE.run tok hO (by rfl) (by cbv <;> rfl) (by trivial) ?_
          refine AnyE.callP hplay (by cbv <;> rfl) (by cbv <;> rfl) ?_
          refine AnyE.run tok hO (by rfl) (by cbv <;> rfl) (by trivial) ?_
          refine AnyE.effK tok hO (by cbv <;> rfl) (by cbv <;> rfl) (by trivial) ?_ ?_
          · exact (by repeat (first | exact trivial | refine And.intro (by first | exact lv_of hO (by cbv <;> rfl) (by trivial) | (cbv <;> rfl)) ?_))
          refine AnyE.run tok hO (by rfl) (by cbv <;> rfl) (by trivial) ?_
          exact ⟨rfl, _, rfl, ⟨rfl, rfl, rfl, rfl, rfl, rfl, rfl, rfl, rfl, trivial⟩, rfl⟩
      · refine PickE.eff tok hO (by cbv <;> rfl) (by cbv <;> rfl) (by trivial) ?_ ?_
        · exact (by repeat (first | exact trivial | refine And.intro (by first | exact lv_of hO (by cbv <;> rfl) (by trivial) | (cbv <;> rfl)) ?_))
        refine AnyE.run tok hO (by rfl) (by cbv <;> rfl) (by trivial) ?_
        refine AnyE.callP htru (by cbv <;> rfl) (by cbv <;> rfl) ?_
        refine AnyE.run tok hO (by rfl) (by cbv <;> rfl) (by trivial) ?_
        refine AnyE.callP hplay (by cbv <;> rfl) (by cbv <;> rfl) ?_
        refine AnyE.run tok hO (by rfl) (by cbv <;> rfl) (by trivial) ?_
        refine AnyE.effK tok hO (by cbv <;> rfl) (by cbv <;> rfl) (by trivial) ?_ ?_
        · exact (by repeat (first | exact trivial | refine And.intro (by first | exact lv_of hO (by cbv <;> rfl) (by trivial) | (cbv <;> rfl)) ?_))
        refine AnyE.run tok hO (by rfl) (by cbv <;> rfl) (by trivial) ?_
        exact ⟨rfl, _, rfl, ⟨rfl, rfl, rfl, rfl, rfl, rfl, rfl, rfl, rfl, trivial⟩, rfl⟩
    · refine PickE.eff tok hO (by cbv <;> rfl) (by cbv <;> rfl) (by trivial) ?_ ?_
      · exact (by repeat (first | exact trivial | refine And.intro (by first | exact lv_of hO (by cbv <;> rfl) (by trivial) | (cbv <;> rfl)) ?_))
      refine AnyE.run tok hO (by rfl) (by cbv <;> rfl) (by trivial) ?_
      refine AnyE.callP hday (by cbv <;> rfl) (by cbv <;> rfl) ?_
      refine AnyE.run tok hO (by rfl) (by cbv <;> rfl) (by trivial) ?_
      refine AnyE.callP htru (by cbv <;> rfl) (by cbv <;> rfl) ?_
      refine AnyE.run tok hO (by rfl) (by cbv <;> rfl) (by trivial) ?_
      refine AnyE.callP hplay (by cbv <;> rfl) (by cbv <;> rfl) ?_
      refine AnyE.run tok hO (by rfl) (by cbv <;> rfl) (by trivial) ?_
      refine AnyE.effK tok hO (by cbv <;> rfl) (by cbv <;> rfl) (by trivial) ?_ ?_
      · exact (by repeat (first | exact trivial | refine And.intro (by first | exact lv_of hO (by cbv <;> rfl) (by trivial) | (cbv <;> rfl)) ?_))
      refine AnyE.run tok hO (by rfl) (by cbv <;> rfl) (by trivial) ?_
      exact ⟨rfl, _, rfl, ⟨rfl, rfl, rfl, rfl, rfl, rfl, rfl, rfl, rfl, trivial⟩, rfl⟩
  · refine SW.runD tok mixed hO (by rfl) (by cbv <;> rfl) (by trivial) ?_
    refine AnyE.many [1, 8] (by cbv <;> rfl) (by rfl) ⟨?_, ?_, trivial⟩
    · refine PickE.callQ hday (by cbv <;> rfl) (by cbv <;> rfl) ?_ ?_
      · exact (by repeat (first | exact trivial | refine And.intro (by first | exact lv_of hO (by cbv <;> rfl) (by trivial) | (cbv <;> rfl)) ?_))
      refine AnyE.run tok hO (by rfl) (by cbv <;> rfl) (by trivial) ?_
      refine AnyE.many [3, 8] (by cbv <;> rfl) (by rfl) ⟨?_, ?_, trivial⟩
      · refine PickE.callQ htru (by cbv <;> rfl) (by cbv <;> rfl) ?_ ?_
        · exact (by repeat (first | exact trivial | refine And.intro (by first | exact lv_of hO (by cbv <;> rfl) (by trivial) | (cbv <;> rfl)) ?_))
        refine AnyE.run tok hO (by rfl) (by cbv <;> rfl) (by trivial) ?_
        refine AnyE.many [4, 8] (by cbv <;> rfl) (by rfl) ⟨?_, ?_, trivial⟩
        · refine PickE.callQ hplay (by cbv <;> rfl) (by cbv <;> rfl) ?_ ?_
          · exact (by repeat (first | exact trivial | refine And.intro (by first | exact lv_of hO (by cbv <;> rfl) (by trivial) | (cbv <;> rfl)) ?_))
          refine AnyE.run tok hO (by rfl) (by cbv <;> rfl) (by trivial) ?_
          refine AnyE.effK tok hO (by cbv <;> rfl) (by cbv <;> rfl) (by trivial) ?_ ?_
          · exact (by repeat (first | exact trivial | refine And.intro (by first | exact lv_of hO (by cbv <;> rfl) (by trivial) | (cbv <;> rfl)) ?_))
          refine AnyE.run tok hO (by rfl) (by cbv <;> rfl) (by trivial) ?_
          refine AnyE.effK tok hO (by cbv <;> rfl) (by cbv <;> rfl) (by trivial) ?_ ?_
          · exact (by repeat (first | exact trivial | refine And.intro (by first | exact lv_of hO (by cbv <;> rfl) (by trivial) | (cbv <;> rfl)) ?_))
          refine AnyE.run tok hO (by rfl) (by cbv <;> rfl) (by trivial) ?_
          exact ⟨rfl, _, rfl, ⟨rfl, rfl, rfl, rfl, rfl, rfl, rfl, rfl, rfl, trivial⟩, rfl⟩
        · refine PickE.eff tok hO (by cbv <;> rfl) (by cbv <;> rfl) (by trivial) ?_ ?_
          · exact (by repeat (first | exact trivial | refine And.intro (by first | exact lv_of hO (by cbv <;> rfl) (by trivial) | (cbv <;> rfl)) ?_))
          refine AnyE.run tok hO (by rfl) (by cbv <;> rfl) (by trivial) ?_
          refine AnyE.callP hplay (by cbv <;> rfl) (by cbv <;> rfl) ?_
          refine AnyE.run tok hO (by rfl) (by cbv <;> rfl) (by trivial) ?_
          refine AnyE.effK tok hO (by cbv <;> rfl) (by cbv <;> rfl) (by trivial) ?_ ?_
          · exact (by repeat (first | exact trivial | refine And.intro (by first | exact lv_of hO (by cbv <;> rfl) (by trivial) | (cbv <;> rfl)) ?_))
          refine AnyE.run tok hO (by rfl) (by cbv <;> rfl) (by trivial) ?_
          exact ⟨rfl, _, rfl, ⟨rfl, rfl, rfl, rfl, rfl, rfl, rfl, rfl, rfl, trivial⟩, rfl⟩
      · refine PickE.eff tok hO (by cbv <;> rfl) (by cbv <;> rfl) (by trivial) ?_ ?_
        · exact (by repeat (first | exact trivial | refine And.intro (by first | exact lv_of hO (by cbv <;> rfl) (by trivial) | (cbv <;> rfl)) ?_))
        refine AnyE.run tok hO (by rfl) (by cbv <;> rfl) (by trivial) ?_
        refine AnyE.callP htru (by cbv <;> rfl) (by cbv <;> rfl) ?_
        refine AnyE.run tok hO (by rfl) (by cbv <;> rfl) (by trivial) ?_
        refine AnyE.callP hplay (by cbv <;> rfl) (by cbv <;> rfl) ?_
        refine AnyE.run tok hO (by rfl) (by cbv <;> rfl) (by trivial) ?_
        refine AnyE.effK tok hO (by cbv <;> rfl) (by cbv <;> rfl) (by trivial) ?_ ?_
        · exact (by repeat (first | exact trivial | refine And.intro (by first | exact lv_of hO (by cbv <;> rfl) (by trivial) | (cbv <;> rfl)) ?_))
        refine AnyE.run tok hO (by rfl) (by cbv <;> rfl) (by trivial) ?_
        exact ⟨rfl, _, rfl, ⟨rfl, rfl, rfl, rfl, rfl, rfl, rfl, rfl, rfl, trivial⟩, rfl⟩
    · refine PickE.eff tok hO (by cbv <;> rfl) (by cbv <;> rfl) (by trivial) ?_ ?_
      · exact (by repeat (first | exact trivial | refine And.intro (by first | exact lv_of hO (by cbv <;> rfl) (by trivial) | (cbv <;> rfl)) ?_))
      refine AnyE.run tok hO (by rfl) (by cbv <;> rfl) (by trivial) ?_
      refine AnyE.callP hday (by cbv <;> rfl) (by cbv <;> rfl) ?_
      refine AnyE.run tok hO (by rfl) (by cbv <;> rfl) (by trivial) ?_
      refine AnyE.callP htru (by cbv <;> rfl) (by cbv <;> rfl) ?_
      refine AnyE.run tok hO (by rfl) (by cbv <;> rfl) (by trivial) ?_
      refine AnyE.callP hplay (by cbv <;> rfl) (by cbv <;> rfl) ?_
      refine AnyE.run tok hO (by rfl) (by cbv <;> rfl) (by trivial) ?_
      refine AnyE.effK tok hO (by cbv <;> rfl) (by cbv <;> rfl) (by trivial) ?_ ?_
      · exact (by repeat (first | exact trivial | refine And.intro (by first | exact lv_of hO (by cbv <;> rfl) (by trivial) | (cbv <;> rfl)) ?_))
      refine AnyE.run tok hO (by rfl) (by cbv <;> rfl) (by trivial) ?_
      exact ⟨rfl, _, rfl, ⟨rfl, rfl, rfl, rfl, rfl, rfl, rfl, rfl, rfl, trivial⟩, rfl⟩
set_option maxHeartbeats 8000000 in
theorem thin_s9 (d : DayD) (t : TruD) (k : Nat) (g : Nat → AV) (O : Ar) (hO : O = std) (XA XB : AV) (hXA : ∃ len sz h, XA = .isl len sz false h) (hXB : XB = nl3 ∨ ∃ len sz h, XB = .isl len sz false h) (cp : AV) (TA : List AV) (TB : List AV) (n : Nat) (b l : Nat → Int) (h' o' f' s' : Int)
    (hday : Pure Try.prog 10 [dayV d] (dayV d)) (htru : Pure Try.prog 11 [.agg [intsV t.nf t.ef t.fe, XB]] cp) (hplay : Pure Try.prog 9 [dayV d, cp] (.tup [.agg (talL n b l h' o' f' s'), iV 0])) (TC : List AV) (hT : talL n b l h' o' f' s' = TC)
    (h : AllP (fun p => g p.1 = p.2) [(4, .ptr 0 0), (9, .ptr 1 0), (10, .lit (.int .i64 (Int.ofNat k))), (11, .ptr 4 0), (12, .ptr 5 0), (15, .ptr 6 0), (16, iV 0), (17, .ptr 7 0), (18, iV 0)]) :
    SW Try.prog none (nthC 9 (bodyF Try.f5)) (midT [(4, .ptr 0 0), (9, .ptr 1 0), (10, .lit (.int .i64 (Int.ofNat k))), (11, .ptr 4 0), (12, .ptr 5 0), (15, .ptr 6 0), (16, iV 0), (17, .ptr 7 0), (18, iV 0), (19, .ptr 8 0), (20, iV 0)] ⟨((8, .cells none false TC) :: ((7, .cells none false TB) :: ((6, .cells none false TA) :: thB d t XA XB))), 9⟩) ⟨⟨240, g⟩, []⟩ ⟨((7, .cells none false TB) :: ((6, .cells none false TA) :: thB d t XA XB)), 8⟩ := by
  obtain ⟨g4, g9, g10, g11, g12, g15, g16, g17, g18, _⟩ := h
  simp only at g4 g9 g10 g11 g12 g15 g16 g17 g18
  rw [← updT_self g4, ← updT_self g9, ← updT_self g10, ← updT_self g11, ← updT_self g12, ← updT_self g15, ← updT_self g16, ← updT_self g17, ← updT_self g18]
  obtain ⟨lA, zA, hA, rfl⟩ := hXA
  subst hT
  rcases hXB with rfl | ⟨lB, zB, hB, rfl⟩
  · refine SW.runD tok mixed hO (by rfl) (by cbv <;> rfl) (by trivial) ?_
    refine AnyE.many [1, 8] (by cbv <;> rfl) (by rfl) ⟨?_, ?_, trivial⟩
    · refine PickE.callQ hday (by cbv <;> rfl) (by cbv <;> rfl) ?_ ?_
      · exact (by repeat (first | exact trivial | refine And.intro (by first | exact lv_of hO (by cbv <;> rfl) (by trivial) | (cbv <;> rfl)) ?_))
      refine AnyE.run tok hO (by rfl) (by cbv <;> rfl) (by trivial) ?_
      refine AnyE.many [3, 8] (by cbv <;> rfl) (by rfl) ⟨?_, ?_, trivial⟩
      · refine PickE.callQ htru (by cbv <;> rfl) (by cbv <;> rfl) ?_ ?_
        · exact (by repeat (first | exact trivial | refine And.intro (by first | exact lv_of hO (by cbv <;> rfl) (by trivial) | (cbv <;> rfl)) ?_))
        refine AnyE.run tok hO (by rfl) (by cbv <;> rfl) (by trivial) ?_
        refine AnyE.many [4, 8] (by cbv <;> rfl) (by rfl) ⟨?_, ?_, trivial⟩
        · refine PickE.callQ hplay (by cbv <;> rfl) (by cbv <;> rfl) ?_ ?_
          · exact (by repeat (first | exact trivial | refine And.intro (by first | exact lv_of hO (by cbv <;> rfl) (by trivial) | (cbv <;> rfl)) ?_))
          refine AnyE.run tok hO (by rfl) (by cbv <;> rfl) (by trivial) ?_
          refine AnyE.effK tok hO (by cbv <;> rfl) (by cbv <;> rfl) (by trivial) ?_ ?_
          · exact (by repeat (first | exact trivial | refine And.intro (by first | exact lv_of hO (by cbv <;> rfl) (by trivial) | (cbv <;> rfl)) ?_))
          refine AnyE.run tok hO (by rfl) (by cbv <;> rfl) (by trivial) ?_
          refine AnyE.effK tok hO (by cbv <;> rfl) (by cbv <;> rfl) (by trivial) ?_ ?_
          · exact (by repeat (first | exact trivial | refine And.intro (by first | exact lv_of hO (by cbv <;> rfl) (by trivial) | (cbv <;> rfl)) ?_))
          refine AnyE.run tok hO (by rfl) (by cbv <;> rfl) (by trivial) ?_
          exact ⟨rfl, _, rfl, ⟨rfl, rfl, rfl, rfl, rfl, rfl, rfl, rfl, rfl, rfl, rfl, trivial⟩, rfl⟩
        · refine PickE.eff tok hO (by cbv <;> rfl) (by cbv <;> rfl) (by trivial) ?_ ?_
          · exact (by repeat (first | exact trivial | refine And.intro (by first | exact lv_of hO (by cbv <;> rfl) (by trivial) | (cbv <;> rfl)) ?_))
          refine AnyE.run tok hO (by rfl) (by cbv <;> rfl) (by trivial) ?_
          refine AnyE.callP hplay (by cbv <;> rfl) (by cbv <;> rfl) ?_
          refine AnyE.run tok hO (by rfl) (by cbv <;> rfl) (by trivial) ?_
          refine AnyE.effK tok hO (by cbv <;> rfl) (by cbv <;> rfl) (by trivial) ?_ ?_
          · exact (by repeat (first | exact trivial | refine And.intro (by first | exact lv_of hO (by cbv <;> rfl) (by trivial) | (cbv <;> rfl)) ?_))
          refine AnyE.run tok hO (by rfl) (by cbv <;> rfl) (by trivial) ?_
          exact ⟨rfl, _, rfl, ⟨rfl, rfl, rfl, rfl, rfl, rfl, rfl, rfl, rfl, rfl, rfl, trivial⟩, rfl⟩
      · refine PickE.eff tok hO (by cbv <;> rfl) (by cbv <;> rfl) (by trivial) ?_ ?_
        · exact (by repeat (first | exact trivial | refine And.intro (by first | exact lv_of hO (by cbv <;> rfl) (by trivial) | (cbv <;> rfl)) ?_))
        refine AnyE.run tok hO (by rfl) (by cbv <;> rfl) (by trivial) ?_
        refine AnyE.callP htru (by cbv <;> rfl) (by cbv <;> rfl) ?_
        refine AnyE.run tok hO (by rfl) (by cbv <;> rfl) (by trivial) ?_
        refine AnyE.callP hplay (by cbv <;> rfl) (by cbv <;> rfl) ?_
        refine AnyE.run tok hO (by rfl) (by cbv <;> rfl) (by trivial) ?_
        refine AnyE.effK tok hO (by cbv <;> rfl) (by cbv <;> rfl) (by trivial) ?_ ?_
        · exact (by repeat (first | exact trivial | refine And.intro (by first | exact lv_of hO (by cbv <;> rfl) (by trivial) | (cbv <;> rfl)) ?_))
        refine AnyE.run tok hO (by rfl) (by cbv <;> rfl) (by trivial) ?_
        exact ⟨rfl, _, rfl, ⟨rfl, rfl, rfl, rfl, rfl, rfl, rfl, rfl, rfl, rfl, rfl, trivial⟩, rfl⟩
    · refine PickE.eff tok hO (by cbv <;> rfl) (by cbv <;> rfl) (by trivial) ?_ ?_
      · exact (by repeat (first | exact trivial | refine And.intro (by first | exact lv_of hO (by cbv <;> rfl) (by trivial) | (cbv <;> rfl)) ?_))
      refine AnyE.run tok hO (by rfl) (by cbv <;> rfl) (by trivial) ?_
      refine AnyE.callP hday (by cbv <;> rfl) (by cbv <;> rfl) ?_
      refine AnyE.run tok hO (by rfl) (by cbv <;> rfl) (by trivial) ?_
      refine AnyE.callP htru (by cbv <;> rfl) (by cbv <;> rfl) ?_
      refine AnyE.run tok hO (by rfl) (by cbv <;> rfl) (by trivial) ?_
      refine AnyE.callP hplay (by cbv <;> rfl) (by cbv <;> rfl) ?_
      refine AnyE.run tok hO (by rfl) (by cbv <;> rfl) (by trivial) ?_
      refine AnyE.effK tok hO (by cbv <;> rfl) (by cbv <;> rfl) (by trivial) ?_ ?_
      · exact (by repeat (first | exact trivial | refine And.intro (by first | exact lv_of hO (by cbv <;> rfl) (by trivial) | (cbv <;> rfl)) ?_))
      refine AnyE.run tok hO (by rfl) (by cbv <;> rfl) (by trivial) ?_
      exact ⟨rfl, _, rfl, ⟨rfl, rfl, rfl, rfl, rfl, rfl, rfl, rfl, rfl, rfl, rfl, trivial⟩, rfl⟩
  · refine SW.runD tok mixed hO (by rfl) (by cbv <;> rfl) (by trivial) ?_
    refine AnyE.many [1, 8] (by cbv <;> rfl) (by rfl) ⟨?_, ?_, trivial⟩
    · refine PickE.callQ hday (by cbv <;> rfl) (by cbv <;> rfl) ?_ ?_
      · exact (by repeat (first | exact trivial | refine And.intro (by first | exact lv_of hO (by cbv <;> rfl) (by trivial) | (cbv <;> rfl)) ?_))
      refine AnyE.run tok hO (by rfl) (by cbv <;> rfl) (by trivial) ?_
      refine AnyE.many [3, 8] (by cbv <;> rfl) (by rfl) ⟨?_, ?_, trivial⟩
      · refine PickE.callQ htru (by cbv <;> rfl) (by cbv <;> rfl) ?_ ?_
        · exact (by repeat (first | exact trivial | refine And.intro (by first | exact lv_of hO (by cbv <;> rfl) (by trivial) | (cbv <;> rfl)) ?_))
        refine AnyE.run tok hO (by rfl) (by cbv <;> rfl) (by trivial) ?_
        refine AnyE.many [4, 8] (by cbv <;> rfl) (by rfl) ⟨?_, ?_, trivial⟩
        · refine PickE.callQ hplay (by cbv <;> rfl) (by cbv <;> rfl) ?_ ?_
          · exact (by repeat (first | exact trivial | refine And.intro (by first | exact lv_of hO (by cbv <;> rfl) (by trivial) | (cbv <;> rfl)) ?_))
          refine AnyE.run tok hO (by rfl) (by cbv <;> rfl) (by trivial) ?_
          refine AnyE.effK tok hO (by cbv <;> rfl) (by cbv <;> rfl) (by trivial) ?_ ?_
          · exact (by repeat (first | exact trivial | refine And.intro (by first | exact lv_of hO (by cbv <;> rfl) (by trivial) | (cbv <;> rfl)) ?_))
          refine AnyE.run tok hO (by rfl) (by cbv <;> rfl) (by trivial) ?_
          refine AnyE.effK tok hO (by cbv <;> rfl) (by cbv <;> rfl) (by trivial) ?_ ?_
          · exact (by repeat (first | exact trivial | refine And.intro (by first | exact lv_of hO (by cbv <;> rfl) (by trivial) | (cbv <;> rfl)) ?_))
          refine AnyE.run tok hO (by rfl) (by cbv <;> rfl) (by trivial) ?_
          exact ⟨rfl, _, rfl, ⟨rfl, rfl, rfl, rfl, rfl, rfl, rfl, rfl, rfl, rfl, rfl, trivial⟩, rfl⟩
        · refine PickE.eff tok hO (by cbv <;> rfl) (by cbv <;> rfl) (by trivial) ?_ ?_
          · exact (by repeat (first | exact trivial | refine And.intro (by first | exact lv_of hO (by cbv <;> rfl) (by trivial) | (cbv <;> rfl)) ?_))
          refine AnyE.run tok hO (by rfl) (by cbv <;> rfl) (by trivial) ?_
          refine AnyE.callP hplay (by cbv <;> rfl) (by cbv <;> rfl) ?_
          refine AnyE.run tok hO (by rfl) (by cbv <;> rfl) (by trivial) ?_
          refine AnyE.effK tok hO (by cbv <;> rfl) (by cbv <;> rfl) (by trivial) ?_ ?_
          · exact (by repeat (first | exact trivial | refine And.intro (by first | exact lv_of hO (by cbv <;> rfl) (by trivial) | (cbv <;> rfl)) ?_))
          refine AnyE.run tok hO (by rfl) (by cbv <;> rfl) (by trivial) ?_
          exact ⟨rfl, _, rfl, ⟨rfl, rfl, rfl, rfl, rfl, rfl, rfl, rfl, rfl, rfl, rfl, trivial⟩, rfl⟩
      · refine PickE.eff tok hO (by cbv <;> rfl) (by cbv <;> rfl) (by trivial) ?_ ?_
        · exact (by repeat (first | exact trivial | refine And.intro (by first | exact lv_of hO (by cbv <;> rfl) (by trivial) | (cbv <;> rfl)) ?_))
        refine AnyE.run tok hO (by rfl) (by cbv <;> rfl) (by trivial) ?_
        refine AnyE.callP htru (by cbv <;> rfl) (by cbv <;> rfl) ?_
        refine AnyE.run tok hO (by rfl) (by cbv <;> rfl) (by trivial) ?_
        refine AnyE.callP hplay (by cbv <;> rfl) (by cbv <;> rfl) ?_
        refine AnyE.run tok hO (by rfl) (by cbv <;> rfl) (by trivial) ?_
        refine AnyE.effK tok hO (by cbv <;> rfl) (by cbv <;> rfl) (by trivial) ?_ ?_
        · exact (by repeat (first | exact trivial | refine And.intro (by first | exact lv_of hO (by cbv <;> rfl) (by trivial) | (cbv <;> rfl)) ?_))
        refine AnyE.run tok hO (by rfl) (by cbv <;> rfl) (by trivial) ?_
        exact ⟨rfl, _, rfl, ⟨rfl, rfl, rfl, rfl, rfl, rfl, rfl, rfl, rfl, rfl, rfl, trivial⟩, rfl⟩
    · refine PickE.eff tok hO (by cbv <;> rfl) (by cbv <;> rfl) (by trivial) ?_ ?_
      · exact (by repeat (first | exact trivial | refine And.intro (by first | exact lv_of hO (by cbv <;> rfl) (by trivial) | (cbv <;> rfl)) ?_))
      refine AnyE.run tok hO (by rfl) (by cbv <;> rfl) (by trivial) ?_
      refine AnyE.callP hday (by cbv <;> rfl) (by cbv <;> rfl) ?_
      refine AnyE.run tok hO (by rfl) (by cbv <;> rfl) (by trivial) ?_
      refine AnyE.callP htru (by cbv <;> rfl) (by cbv <;> rfl) ?_
      refine AnyE.run tok hO (by rfl) (by cbv <;> rfl) (by trivial) ?_
      refine AnyE.callP hplay (by cbv <;> rfl) (by cbv <;> rfl) ?_
      refine AnyE.run tok hO (by rfl) (by cbv <;> rfl) (by trivial) ?_
      refine AnyE.effK tok hO (by cbv <;> rfl) (by cbv <;> rfl) (by trivial) ?_ ?_
      · exact (by repeat (first | exact trivial | refine And.intro (by first | exact lv_of hO (by cbv <;> rfl) (by trivial) | (cbv <;> rfl)) ?_))
      refine AnyE.run tok hO (by rfl) (by cbv <;> rfl) (by trivial) ?_
      exact ⟨rfl, _, rfl, ⟨rfl, rfl, rfl, rfl, rfl, rfl, rfl, rfl, rfl, rfl, rfl, trivial⟩, rfl⟩
end Go.Fz
