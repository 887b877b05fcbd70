/- Own work of the verifier of watercress: FzB35. -/
import Derived.Test.YtkomalgeigefjaaMc13
set_option linter.unusedVariables false
set_option linter.unusedSimpArgs false
namespace Go.Fz
open Go.Proofs
set_option maxRecDepth 100000
def midL (l : List (Nat × AV)) (S : St) (e : Exit) (fm : Fm) (st : St) : Prop := e = .normal ∧ ∃ g, fm = ⟨⟨205, g⟩, []⟩ ∧ AllP (fun p => g p.1 = p.2) l ∧ st = S
def loS2 (d : DayD) : St := ⟨[(0, .cells none false (dayC d))], 1⟩
def loS3 (d : DayD) (t : TruD) : St := ⟨[(1, .cells none false (truC t)), (0, .cells none false (dayC d))], 2⟩
set_option maxHeartbeats 4000000 in
theorem lots_s2 (d : DayD) (t : TruD) (w a b M N : Int) (g : Nat → AV) (O : Ar) (hO : O = std) (hmany : Pure Try.prog 29 [dayV d] (iV M)) (hM : M ≠ 0) (hN : O.bin .rem .i64 (O.conv .i64 w) M = N) (hnth : Pure Try.prog 28 [dayV d, iV N] (truV t))
    (g1 : g 1 = .lit (.int .u16 w)) (g2 : g 2 = .lit (.int .u8 a)) (g3 : g 3 = .lit (.int .u8 b)) (g4 : g 4 = .ptr 0 0) :
    SW Try.prog none (nthC 2 (bodyF Try.f6)) (midL [(2, .lit (.int .u8 a)), (3, .lit (.int .u8 b)), (4, .ptr 0 0), (9, .ptr 1 0)] (loS3 d t)) ⟨⟨205, g⟩, []⟩ (loS2 d) := by
  subst hN
  rw [← updT_self g1, ← updT_self g2, ← updT_self g3, ← updT_self g4]
  refine SW.runD tok mixed hO (by rfl) (by cbv <;> rfl) (by trivial) ?_
  refine AnyE.many [4, 7] (by cbv <;> rfl) (by rfl) ⟨?_, ?_, trivial⟩
  · refine PickE.callQ hmany (by cbv <;> rfl) (by cbv <;> rfl) ?_ ?_
    · exact (by repeat (first | exact trivial | refine And.intro (by first | exact lv_of hO (by cbv <;> rfl) (by trivial) | (cbv <;> rfl)) ?_))
    refine AnyE.run tok hO (by rfl) (by cbv <;> rfl) ?_ ?_
    · exact hM
    refine AnyE.many [6, 7] (by cbv <;> rfl) (by rfl) ⟨?_, ?_, trivial⟩
    · refine PickE.callQ hnth (by cbv <;> rfl) (by cbv <;> rfl) ?_ ?_
      · exact (by repeat (first | exact trivial | refine And.intro (by first | exact lv_of hO (by cbv <;> rfl) (by trivial) | (cbv <;> rfl)) ?_))
      refine AnyE.run tok hO (by rfl) (by cbv <;> rfl) (by trivial) ?_
      refine AnyE.effK tok hO (by cbv <;> rfl) (by cbv <;> rfl) (by trivial) ?_ ?_
      · exact (by repeat (first | exact trivial | refine And.intro (by first | exact lv_of hO (by cbv <;> rfl) (by trivial) | (cbv <;> rfl)) ?_))
      refine AnyE.run tok hO (by rfl) (by cbv <;> rfl) (by trivial) ?_
      refine AnyE.effK tok hO (by cbv <;> rfl) (by cbv <;> rfl) (by trivial) ?_ ?_
      · exact (by repeat (first | exact trivial | refine And.intro (by first | exact lv_of hO (by cbv <;> rfl) (by trivial) | (cbv <;> rfl)) ?_))
      refine AnyE.run tok hO (by rfl) (by cbv <;> rfl) (by trivial) ?_
      exact ⟨rfl, _, rfl, ⟨rfl, rfl, rfl, rfl, trivial⟩, rfl⟩
    · refine PickE.eff tok hO (by cbv <;> rfl) (by cbv <;> rfl) (by trivial) ?_ ?_
      · exact (by repeat (first | exact trivial | refine And.intro (by first | exact lv_of hO (by cbv <;> rfl) (by trivial) | (cbv <;> rfl)) ?_))
      refine AnyE.run tok hO (by rfl) (by cbv <;> rfl) (by trivial) ?_
      refine AnyE.callP hnth (by cbv <;> rfl) (by cbv <;> rfl) ?_
      refine AnyE.run tok hO (by rfl) (by cbv <;> rfl) (by trivial) ?_
      refine AnyE.effK tok hO (by cbv <;> rfl) (by cbv <;> rfl) (by trivial) ?_ ?_
      · exact (by repeat (first | exact trivial | refine And.intro (by first | exact lv_of hO (by cbv <;> rfl) (by trivial) | (cbv <;> rfl)) ?_))
      refine AnyE.run tok hO (by rfl) (by cbv <;> rfl) (by trivial) ?_
      exact ⟨rfl, _, rfl, ⟨rfl, rfl, rfl, rfl, trivial⟩, rfl⟩
  · refine PickE.eff tok hO (by cbv <;> rfl) (by cbv <;> rfl) (by trivial) ?_ ?_
    · exact (by repeat (first | exact trivial | refine And.intro (by first | exact lv_of hO (by cbv <;> rfl) (by trivial) | (cbv <;> rfl)) ?_))
    refine AnyE.run tok hO (by rfl) (by cbv <;> rfl) (by trivial) ?_
    refine AnyE.callP hmany (by cbv <;> rfl) (by cbv <;> rfl) ?_
    refine AnyE.run tok hO (by rfl) (by cbv <;> rfl) ?_ ?_
    · exact hM
    refine AnyE.callP hnth (by cbv <;> rfl) (by cbv <;> rfl) ?_
    refine AnyE.run tok hO (by rfl) (by cbv <;> rfl) (by trivial) ?_
    refine AnyE.effK tok hO (by cbv <;> rfl) (by cbv <;> rfl) (by trivial) ?_ ?_
    · exact (by repeat (first | exact trivial | refine And.intro (by first | exact lv_of hO (by cbv <;> rfl) (by trivial) | (cbv <;> rfl)) ?_))
    refine AnyE.run tok hO (by rfl) (by cbv <;> rfl) (by trivial) ?_
    exact ⟨rfl, _, rfl, ⟨rfl, rfl, rfl, rfl, trivial⟩, rfl⟩
theorem lots_s3 (d : DayD) (t : TruD) (a b : Int) (k : Nat) (g : Nat → AV) (O : Ar) (hO : O = std) (h0 : 0 < d.nl) (hK : O.bin .rem .i64 (O.conv .i64 a) (Int.ofNat d.nl) = Int.ofNat k) (h : AllP (fun p => g p.1 = p.2) [(2, .lit (.int .u8 a)), (3, .lit (.int .u8 b)), (4, .ptr 0 0), (9, .ptr 1 0)]) :
    SW Try.prog none (nthC 3 (bodyF Try.f6)) (midL [(3, .lit (.int .u8 b)), (4, .ptr 0 0), (9, .ptr 1 0), (10, .lit (.int .i64 (Int.ofNat k)))] (loS3 d t)) ⟨⟨205, g⟩, []⟩ (loS3 d t) := by
  obtain ⟨g2, g3, g4, g9, _⟩ := h
  simp only at g2 g3 g4 g9
  rw [← updT_self g2, ← updT_self g3, ← updT_self g4, ← updT_self g9]
  refine SW.run tok hO (by cbv <;> rfl) ?_ ?_
  · show (Int.ofNat d.nl : Int) ≠ 0
    exact fun h => by have : (d.nl : Int) = 0 := h; omega
  exact ⟨rfl, _, rfl, ⟨rfl, rfl, rfl, congrArg (fun z => AV.lit (.int .i64 z)) hK, trivial⟩, rfl⟩
theorem lots_s4 (d : DayD) (t : TruD) (b n : Int) (k : Nat) (g : Nat → AV) (O : Ar) (hO : O = std) (hk : k < t.ns) (hne : O.bin .add .i64 (t.st (O.nat (Int.ofNat k))) 1 ≠ 0) (hN : O.bin .rem .i64 (O.conv .i64 b) (O.bin .add .i64 (t.st (O.nat (Int.ofNat k))) 1) = n) (h : AllP (fun p => g p.1 = p.2) [(3, .lit (.int .u8 b)), (4, .ptr 0 0), (9, .ptr 1 0), (10, .lit (.int .i64 (Int.ofNat k)))]) :
    SW Try.prog none (nthC 4 (bodyF Try.f6)) (midL [(4, .ptr 0 0), (9, .ptr 1 0), (10, .lit (.int .i64 (Int.ofNat k))), (11, iV n)] (loS3 d t)) ⟨⟨205, g⟩, []⟩ (loS3 d t) := by
  obtain ⟨g3, g4, g9, g10, _⟩ := h
  simp only at g3 g4 g9 g10
  rw [← updT_self g3, ← updT_self g4, ← updT_self g9, ← updT_self g10]
  have h0 : (0 : Int) ≤ Int.ofNat k := Int.natCast_nonneg k
  refine SW.run tok hO (by cbv <;> rfl) ?_ ?_
  · exact ⟨hne, h0, Int.ofNat_lt.2 hk⟩
  exact ⟨rfl, _, rfl, ⟨rfl, rfl, rfl, congrArg (fun z => AV.lit (.int .i64 z)) hN, trivial⟩, rfl⟩
def loS5 (d : DayD) (t : TruD) : St := ⟨[(2, .cells none false (dayC d)), (1, .cells none false (truC t)), (0, .cells none false (dayC d))], 3⟩
def loX (d : DayD) (XL : AV) : List AV := [iV d.hand, iV d.flat, womsV d, XL, nl3]
def loS6 (d : DayD) (t : TruD) : St := ⟨[(2, .cells none false (loX d nl3)), (1, .cells none false (truC t)), (0, .cells none false (dayC d))], 3⟩
def loS (d : DayD) (t : TruD) (XL XS : AV) (H : Hp) (n : Nat) : St := ⟨[(3, .cells none false [intsV t.nf t.ef t.fe, XS]), (2, .cells none false (loX d XL)), (1, .cells none false (truC t)), (0, .cells none false (dayC d))] ++ H, n⟩
theorem lots_s5 (d : DayD) (t : TruD) (n : Int) (k : Nat) (g : Nat → AV) (O : Ar) (hO : O = std) (h : AllP (fun p => g p.1 = p.2) [(4, .ptr 0 0), (9, .ptr 1 0), (10, .lit (.int .i64 (Int.ofNat k))), (11, iV n)]) :
    SW Try.prog none (nthC 5 (bodyF Try.f6)) (midL [(4, .ptr 0 0), (9, .ptr 1 0), (10, .lit (.int .i64 (Int.ofNat k))), (11, iV n), (12, .ptr 2 0)] (loS5 d t)) ⟨⟨205, g⟩, []⟩ (loS3 d t) := by
  obtain ⟨g4, g9, g10, g11, _⟩ := h
  simp only at g4 g9 g10 g11
  rw [← updT_self g4, ← updT_self g9, ← updT_self g10, ← updT_self g11]
  refine SW.run tok hO (by cbv <;> rfl) (by trivial) ?_
  exact ⟨rfl, _, rfl, ⟨rfl, rfl, rfl, rfl, rfl, trivial⟩, rfl⟩
theorem lots_s6 (d : DayD) (t : TruD) (n : Int) (k : Nat) (g : Nat → AV) (O : Ar) (hO : O = std) (h : AllP (fun p => g p.1 = p.2) [(4, .ptr 0 0), (9, .ptr 1 0), (10, .lit (.int .i64 (Int.ofNat k))), (11, iV n), (12, .ptr 2 0)]) :
    SW Try.prog none (nthC 6 (bodyF Try.f6)) (midL [(4, .ptr 0 0), (9, .ptr 1 0), (10, .lit (.int .i64 (Int.ofNat k))), (11, iV n), (12, .ptr 2 0)] (loS6 d t)) ⟨⟨205, g⟩, []⟩ (loS5 d t) := by
  obtain ⟨g4, g9, g10, g11, g12, _⟩ := h
  simp only at g4 g9 g10 g11 g12
  rw [← updT_self g4, ← updT_self g9, ← updT_self g10, ← updT_self g11, ← updT_self g12]
  refine SW.run tok hO (by cbv <;> rfl) (by trivial) ?_
  exact ⟨rfl, _, rfl, ⟨rfl, rfl, rfl, rfl, rfl, trivial⟩, rfl⟩
theorem lots_s7 (d : DayD) (t : TruD) (n : Int) (k : Nat) (g : Nat → AV) (O : Ar) (hO : O = std) (h : AllP (fun p => g p.1 = p.2) [(4, .ptr 0 0), (9, .ptr 1 0), (10, .lit (.int .i64 (Int.ofNat k))), (11, iV n), (12, .ptr 2 0)]) :
    SW Try.prog none (nthC 7 (bodyF Try.f6)) (midL [(4, .ptr 0 0), (9, .ptr 1 0), (10, .lit (.int .i64 (Int.ofNat k))), (11, iV n), (12, .ptr 2 0), (13, .ptr 3 0)] (loS d t nl3 nl3 [] 4)) ⟨⟨205, g⟩, []⟩ (loS6 d t) := by
  obtain ⟨g4, g9, g10, g11, g12, _⟩ := h
  simp only at g4 g9 g10 g11 g12
  rw [← updT_self g4, ← updT_self g9, ← updT_self g10, ← updT_self g11, ← updT_self g12]
  refine SW.run tok hO (by cbv <;> rfl) (by trivial) ?_
  exact ⟨rfl, _, rfl, ⟨rfl, rfl, rfl, rfl, rfl, rfl, trivial⟩, rfl⟩
end Go.Fz
