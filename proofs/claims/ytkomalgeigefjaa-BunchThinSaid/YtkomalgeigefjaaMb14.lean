/- Own work of the verifier of watercress: FzB28. -/
import Derived.Test.YtkomalgeigefjaaMb13
set_option linter.unusedVariables false
set_option linter.unusedSimpArgs false
namespace Go.Fz
open Go.Proofs
set_option maxRecDepth 100000
theorem thin_s3 (d : DayD) (t : TruD) (a b : Int) (k : Nat) (g : Nat → AV) (O : Ar) (hO : O = std) (h0 : 0 < d.nw) (hK : O.bin .rem .i64 (O.conv .i64 a) (Int.ofNat d.nw) = Int.ofNat k)
    (h : AllP (fun p => g p.1 = p.2) [(2, .lit (.int .u8 a)), (3, .lit (.int .u8 b)), (4, .ptr 0 0), (9, .ptr 1 0)]) :
    SW Try.prog none (nthC 3 (bodyF Try.f5)) (midT [(2, .lit (.int .u8 a)), (3, .lit (.int .u8 b)), (4, .ptr 0 0), (9, .ptr 1 0), (10, .lit (.int .i64 (Int.ofNat k)))] (thS3 d t)) ⟨⟨240, g⟩, []⟩ (thS3 d t) := by
  obtain ⟨g2, g3, g4, g9, _⟩ := h
  simp only at g2 g3 g4 g9
  rw [← updT_self g2, ← updT_self g3, ← updT_self g4, ← updT_self g9]
  refine SW.run tok hO (by cbv <;> rfl) ?_ ?_
  · show (Int.ofNat d.nw : Int) ≠ 0
    exact fun h => by have : (d.nw : Int) = 0 := h; omega
  exact ⟨rfl, _, rfl, ⟨rfl, rfl, rfl, rfl, congrArg (fun z => AV.lit (.int .i64 z)) hK, trivial⟩, rfl⟩
def thS4 (d : DayD) (t : TruD) (GA : List AV) (XB : AV) (HB : Hp) : St := ⟨[(5, .cells none false [intsV t.nf t.ef t.fe, XB]), (4, .cells none false [.sl 2 0 t.nf 1 false, intsV t.ns t.es t.st]), (2, .cells none false GA), (1, .cells none false (truC t)), (0, .cells none false (dayC d))] ++ HB, 6⟩
set_option maxHeartbeats 8000000 in
theorem thin_s4 (d : DayD) (t : TruD) (a b : Int) (k : Nat) (g : Nat → AV) (O : Ar) (hO : O = std) (hf : t.nf < 1000) (hs : t.ns < 1000) (h0 : 0 < t.nf) (GA : List AV) (hGA : flatG 1 (intC t.fe) t.nf = GA) (hGAb : ∀ a ∈ GA, Below 0 a) (hn : 0 < t.ns) (GB : List AV) (hGB : flatG 1 (intC t.st) t.ns = GB) (hGBb : ∀ a ∈ GB, Below 0 a)
    (h : AllP (fun p => g p.1 = p.2) [(2, .lit (.int .u8 a)), (3, .lit (.int .u8 b)), (4, .ptr 0 0), (9, .ptr 1 0), (10, .lit (.int .i64 (Int.ofNat k)))]) :
    SW Try.prog none (nthC 4 (bodyF Try.f5)) (midT [(2, .lit (.int .u8 a)), (3, .lit (.int .u8 b)), (4, .ptr 0 0), (9, .ptr 1 0), (10, .lit (.int .i64 (Int.ofNat k))), (11, .ptr 4 0), (12, .ptr 5 0)] (thS4 d t GA (.sl 3 0 t.ns 1 false) [(3, .cells none false GB)])) ⟨⟨240, g⟩, []⟩ (thS3 d t) := by
  obtain ⟨g2, g3, g4, g9, g10, _⟩ := h
  simp only at g2 g3 g4 g9 g10
  rw [← updT_self g2, ← updT_self g3, ← updT_self g4, ← updT_self g9, ← updT_self g10]
  have hcA := fun st => list_callG t.nf t.ef t.fe hf h0 GA hGA st
  have hcB := fun st => list_callG t.ns t.es t.st hs hn GB hGB st
  refine SW.ren ?_
  refine SW.runD tok mixed hO (by rfl) (by cbv <;> rfl) (by trivial) ?_
  refine AnyE.many [2, 12, 13] (by cbv <;> rfl) (by rfl) ⟨?_, ?_, ?_, trivial⟩
  · refine PickE.callE en30 (hcA _) (by cbv <;> rfl) (by cbv <;> rfl) ?_
    rintro r st' ⟨rfl, rfl⟩
    refine ⟨?_, ?_⟩
    · exact (by repeat (first | exact trivial | refine And.intro (by first | exact lv_of hO (by cbv <;> rfl) (by trivial) | (cbv <;> rfl)) ?_))
    refine AnyE.run tok hO (by rfl) (by cbv <;> rfl) (by trivial) ?_
    refine AnyE.many [10, 12, 13] (by cbv <;> rfl) (by rfl) ⟨?_, ?_, ?_, trivial⟩
    · refine PickE.callE en30 (hcB _) (by cbv <;> rfl) (by cbv <;> rfl) ?_
      rintro r st' ⟨rfl, rfl⟩
      refine ⟨?_, ?_⟩
      · exact (by repeat (first | exact trivial | refine And.intro (by first | exact lv_of hO (by cbv <;> rfl) (by trivial) | (cbv <;> rfl)) ?_))
      refine AnyE.run tok hO (by rfl) (by cbv <;> rfl) (by trivial) ?_
      refine AnyE.many [12, 13] (by cbv <;> rfl) (by rfl) ⟨?_, ?_, trivial⟩
      · refine PickE.eff tok hO (by cbv <;> rfl) (by cbv <;> rfl) (by trivial) ?_ ?_
        · exact (by repeat (first | exact trivial | refine And.intro (by first | exact lv_of hO (by cbv <;> rfl) (by trivial) | (cbv <;> rfl)) ?_))
        refine AnyE.run tok hO (by rfl) (by cbv <;> rfl) (by trivial) ?_
        refine AnyE.effK tok hO (by cbv <;> rfl) (by cbv <;> rfl) (by trivial) ?_ ?_
        · exact (by repeat (first | exact trivial | refine And.intro (by first | exact lv_of hO (by cbv <;> rfl) (by trivial) | (cbv <;> rfl)) ?_))
        refine AnyE.run tok hO (by rfl) (by cbv <;> rfl) (by trivial) ?_
        refine AnyE.effK tok hO (by cbv <;> rfl) (by cbv <;> rfl) (by trivial) ?_ ?_
        · exact (by repeat (first | exact trivial | refine And.intro (by first | exact lv_of hO (by cbv <;> rfl) (by trivial) | (cbv <;> rfl)) ?_))
        refine AnyE.run tok hO (by rfl) (by cbv <;> rfl) (by trivial) ?_
        refine AnyE.effK tok hO (by cbv <;> rfl) (by cbv <;> rfl) (by trivial) ?_ ?_
        · exact (by repeat (first | exact trivial | refine And.intro (by first | exact lv_of hO (by cbv <;> rfl) (by trivial) | (cbv <;> rfl)) ?_))
        refine AnyE.run tok hO (by rfl) (by cbv <;> rfl) (by trivial) ?_
        refine ⟨tabR [(2, 2), (3, 3), (4, 4), (5, 5)], ⟨⟨240, getT [(2, .lit (.int .u8 a)), (3, .lit (.int .u8 b)), (4, .ptr 0 0), (9, .ptr 1 0), (10, .lit (.int .i64 (Int.ofNat k))), (11, .ptr 4 0), (12, .ptr 5 0)]⟩, []⟩, thS4 d t GA (.sl 3 0 t.ns 1 false) [(3, .cells none false GB)], ?_, rfl, _, rfl, ⟨rfl, rfl, rfl, rfl, rfl, rfl, rfl, trivial⟩, rfl⟩
        exact WeakR.tab rfl rfl (by simp) (by rfl) (by show 2 ≤ 6; omega) (by rfl) ⟨RenV.closed Below.lit, RenV.closed Below.lit, RenV.ptr (by omega), RenV.ptr (by omega), RenV.closed Below.lit, RenV.ptr (by omega), RenV.ptr (by omega), trivial⟩ ⟨⟨by omega, _, rfl, .cells (.cons (RenV.closed (intsV_below _ _ _)) (.cons (RenV.sl (by omega)) .nil)), rfl⟩, ⟨by omega, _, rfl, .cells (.cons (RenV.sl (by omega)) (.cons (RenV.closed (intsV_below _ _ _)) .nil)), rfl⟩, ⟨by omega, _, rfl, .cells (RenVs.closed hGAb), rfl⟩, ⟨by omega, _, rfl, .cells (RenVs.closed (truC_below t)), rfl⟩, ⟨by omega, _, rfl, .cells (RenVs.closed (dayC_below d)), rfl⟩, ⟨by omega, _, rfl, .cells (RenVs.closed hGBb), rfl⟩, trivial⟩
      · refine PickE.eff tok hO (by cbv <;> rfl) (by cbv <;> rfl) (by trivial) ?_ ?_
        · exact (by repeat (first | exact trivial | refine And.intro (by first | exact lv_of hO (by cbv <;> rfl) (by trivial) | (cbv <;> rfl)) ?_))
        refine AnyE.run tok hO (by rfl) (by cbv <;> rfl) (by trivial) ?_
        refine AnyE.effK tok hO (by cbv <;> rfl) (by cbv <;> rfl) (by trivial) ?_ ?_
        · exact (by repeat (first | exact trivial | refine And.intro (by first | exact lv_of hO (by cbv <;> rfl) (by trivial) | (cbv <;> rfl)) ?_))
        refine AnyE.run tok hO (by rfl) (by cbv <;> rfl) (by trivial) ?_
        refine AnyE.effK tok hO (by cbv <;> rfl) (by cbv <;> rfl) (by trivial) ?_ ?_
        · exact (by repeat (first | exact trivial | refine And.intro (by first | exact lv_of hO (by cbv <;> rfl) (by trivial) | (cbv <;> rfl)) ?_))
        refine AnyE.run tok hO (by rfl) (by cbv <;> rfl) (by trivial) ?_
        refine AnyE.effK tok hO (by cbv <;> rfl) (by cbv <;> rfl) (by trivial) ?_ ?_
        · exact (by repeat (first | exact trivial | refine And.intro (by first | exact lv_of hO (by cbv <;> rfl) (by trivial) | (cbv <;> rfl)) ?_))
        refine AnyE.run tok hO (by rfl) (by cbv <;> rfl) (by trivial) ?_
        refine ⟨tabR [(2, 2), (3, 3), (4, 5), (5, 4)], ⟨⟨240, getT [(2, .lit (.int .u8 a)), (3, .lit (.int .u8 b)), (4, .ptr 0 0), (9, .ptr 1 0), (10, .lit (.int .i64 (Int.ofNat k))), (11, .ptr 4 0), (12, .ptr 5 0)]⟩, []⟩, thS4 d t GA (.sl 3 0 t.ns 1 false) [(3, .cells none false GB)], ?_, rfl, _, rfl, ⟨rfl, rfl, rfl, rfl, rfl, rfl, rfl, trivial⟩, rfl⟩
        exact WeakR.tab rfl rfl (by simp) (by rfl) (by show 2 ≤ 6; omega) (by rfl) ⟨RenV.closed Below.lit, RenV.closed Below.lit, RenV.ptr (by omega), RenV.ptr (by omega), RenV.closed Below.lit, RenV.ptr (by omega), RenV.ptr (by omega), trivial⟩ ⟨⟨by omega, _, rfl, .cells (.cons (RenV.closed (intsV_below _ _ _)) (.cons (RenV.sl (by omega)) .nil)), rfl⟩, ⟨by omega, _, rfl, .cells (.cons (RenV.sl (by omega)) (.cons (RenV.closed (intsV_below _ _ _)) .nil)), rfl⟩, ⟨by omega, _, rfl, .cells (RenVs.closed hGAb), rfl⟩, ⟨by omega, _, rfl, .cells (RenVs.closed (truC_below t)), rfl⟩, ⟨by omega, _, rfl, .cells (RenVs.closed (dayC_below d)), rfl⟩, ⟨by omega, _, rfl, .cells (RenVs.closed hGBb), rfl⟩, trivial⟩
    · refine PickE.eff tok hO (by cbv <;> rfl) (by cbv <;> rfl) (by trivial) ?_ ?_
      · exact (by repeat (first | exact trivial | refine And.intro (by first | exact lv_of hO (by cbv <;> rfl) (by trivial) | (cbv <;> rfl)) ?_))
      refine AnyE.run tok hO (by rfl) (by cbv <;> rfl) (by trivial) ?_
      refine AnyE.many [10, 13] (by cbv <;> rfl) (by rfl) ⟨?_, ?_, trivial⟩
      · refine PickE.callE en30 (hcB _) (by cbv <;> rfl) (by cbv <;> rfl) ?_
        rintro r st' ⟨rfl, rfl⟩
        refine ⟨?_, ?_⟩
        · exact (by repeat (first | exact trivial | refine And.intro (by first | exact lv_of hO (by cbv <;> rfl) (by trivial) | (cbv <;> rfl)) ?_))
        refine AnyE.run tok hO (by rfl) (by cbv <;> rfl) (by trivial) ?_
        refine AnyE.effK tok hO (by cbv <;> rfl) (by cbv <;> rfl) (by trivial) ?_ ?_
        · exact (by repeat (first | exact trivial | refine And.intro (by first | exact lv_of hO (by cbv <;> rfl) (by trivial) | (cbv <;> rfl)) ?_))
        refine AnyE.run tok hO (by rfl) (by cbv <;> rfl) (by trivial) ?_
        refine AnyE.effK tok hO (by cbv <;> rfl) (by cbv <;> rfl) (by trivial) ?_ ?_
        · exact (by repeat (first | exact trivial | refine And.intro (by first | exact lv_of hO (by cbv <;> rfl) (by trivial) | (cbv <;> rfl)) ?_))
        refine AnyE.run tok hO (by rfl) (by cbv <;> rfl) (by trivial) ?_
        refine AnyE.effK tok hO (by cbv <;> rfl) (by cbv <;> rfl) (by trivial) ?_ ?_
        · exact (by repeat (first | exact trivial | refine And.intro (by first | exact lv_of hO (by cbv <;> rfl) (by trivial) | (cbv <;> rfl)) ?_))
        refine AnyE.run tok hO (by rfl) (by cbv <;> rfl) (by trivial) ?_
        refine ⟨tabR [(2, 2), (3, 4), (4, 3), (5, 5)], ⟨⟨240, getT [(2, .lit (.int .u8 a)), (3, .lit (.int .u8 b)), (4, .ptr 0 0), (9, .ptr 1 0), (10, .lit (.int .i64 (Int.ofNat k))), (11, .ptr 4 0), (12, .ptr 5 0)]⟩, []⟩, thS4 d t GA (.sl 3 0 t.ns 1 false) [(3, .cells none false GB)], ?_, rfl, _, rfl, ⟨rfl, rfl, rfl, rfl, rfl, rfl, rfl, trivial⟩, rfl⟩
        exact WeakR.tab rfl rfl (by simp) (by rfl) (by show 2 ≤ 6; omega) (by rfl) ⟨RenV.closed Below.lit, RenV.closed Below.lit, RenV.ptr (by omega), RenV.ptr (by omega), RenV.closed Below.lit, RenV.ptr (by omega), RenV.ptr (by omega), trivial⟩ ⟨⟨by omega, _, rfl, .cells (.cons (RenV.closed (intsV_below _ _ _)) (.cons (RenV.sl (by omega)) .nil)), rfl⟩, ⟨by omega, _, rfl, .cells (.cons (RenV.sl (by omega)) (.cons (RenV.closed (intsV_below _ _ _)) .nil)), rfl⟩, ⟨by omega, _, rfl, .cells (RenVs.closed hGAb), rfl⟩, ⟨by omega, _, rfl, .cells (RenVs.closed (truC_below t)), rfl⟩, ⟨by omega, _, rfl, .cells (RenVs.closed (dayC_below d)), rfl⟩, ⟨by omega, _, rfl, .cells (RenVs.closed hGBb), rfl⟩, trivial⟩
      · refine PickE.eff tok hO (by cbv <;> rfl) (by cbv <;> rfl) (by trivial) ?_ ?_
        · exact (by repeat (first | exact trivial | refine And.intro (by first | exact lv_of hO (by cbv <;> rfl) (by trivial) | (cbv <;> rfl)) ?_))
        refine AnyE.run tok hO (by rfl) (by cbv <;> rfl) (by trivial) ?_
        refine AnyE.many [10] (by cbv <;> rfl) (by rfl) ⟨?_, trivial⟩
        · refine PickE.callE en30 (hcB _) (by cbv <;> rfl) (by cbv <;> rfl) ?_
          rintro r st' ⟨rfl, rfl⟩
          refine ⟨?_, ?_⟩
          · exact (by repeat (first | exact trivial | refine And.intro (by first | exact lv_of hO (by cbv <;> rfl) (by trivial) | (cbv <;> rfl)) ?_))
          refine AnyE.run tok hO (by rfl) (by cbv <;> rfl) (by trivial) ?_
          refine AnyE.effK tok hO (by cbv <;> rfl) (by cbv <;> rfl) (by trivial) ?_ ?_
          · exact (by repeat (first | exact trivial | refine And.intro (by first | exact lv_of hO (by cbv <;> rfl) (by trivial) | (cbv <;> rfl)) ?_))
          refine AnyE.run tok hO (by rfl) (by cbv <;> rfl) (by trivial) ?_
          refine AnyE.effK tok hO (by cbv <;> rfl) (by cbv <;> rfl) (by trivial) ?_ ?_
          · exact (by repeat (first | exact trivial | refine And.intro (by first | exact lv_of hO (by cbv <;> rfl) (by trivial) | (cbv <;> rfl)) ?_))
          refine AnyE.run tok hO (by rfl) (by cbv <;> rfl) (by trivial) ?_
          refine ⟨tabR [(2, 2), (3, 5), (4, 3), (5, 4)], ⟨⟨240, getT [(2, .lit (.int .u8 a)), (3, .lit (.int .u8 b)), (4, .ptr 0 0), (9, .ptr 1 0), (10, .lit (.int .i64 (Int.ofNat k))), (11, .ptr 4 0), (12, .ptr 5 0)]⟩, []⟩, thS4 d t GA (.sl 3 0 t.ns 1 false) [(3, .cells none false GB)], ?_, rfl, _, rfl, ⟨rfl, rfl, rfl, rfl, rfl, rfl, rfl, trivial⟩, rfl⟩
          exact WeakR.tab rfl rfl (by simp) (by rfl) (by show 2 ≤ 6; omega) (by rfl) ⟨RenV.closed Below.lit, RenV.closed Below.lit, RenV.ptr (by omega), RenV.ptr (by omega), RenV.closed Below.lit, RenV.ptr (by omega), RenV.ptr (by omega), trivial⟩ ⟨⟨by omega, _, rfl, .cells (.cons (RenV.closed (intsV_below _ _ _)) (.cons (RenV.sl (by omega)) .nil)), rfl⟩, ⟨by omega, _, rfl, .cells (.cons (RenV.sl (by omega)) (.cons (RenV.closed (intsV_below _ _ _)) .nil)), rfl⟩, ⟨by omega, _, rfl, .cells (RenVs.closed hGAb), rfl⟩, ⟨by omega, _, rfl, .cells (RenVs.closed (truC_below t)), rfl⟩, ⟨by omega, _, rfl, .cells (RenVs.closed (dayC_below d)), rfl⟩, ⟨by omega, _, rfl, .cells (RenVs.closed hGBb), rfl⟩, trivial⟩
    · refine PickE.eff tok hO (by cbv <;> rfl) (by cbv <;> rfl) (by trivial) ?_ ?_
      · exact (by repeat (first | exact trivial | refine And.intro (by first | exact lv_of hO (by cbv <;> rfl) (by trivial) | (cbv <;> rfl)) ?_))
      refine AnyE.run tok hO (by rfl) (by cbv <;> rfl) (by trivial) ?_
      refine AnyE.many [10, 12] (by cbv <;> rfl) (by rfl) ⟨?_, ?_, trivial⟩
      · refine PickE.callE en30 (hcB _) (by cbv <;> rfl) (by cbv <;> rfl) ?_
        rintro r st' ⟨rfl, rfl⟩
        refine ⟨?_, ?_⟩
        · exact (by repeat (first | exact trivial | refine And.intro (by first | exact lv_of hO (by cbv <;> rfl) (by trivial) | (cbv <;> rfl)) ?_))
        refine AnyE.run tok hO (by rfl) (by cbv <;> rfl) (by trivial) ?_
        refine AnyE.effK tok hO (by cbv <;> rfl) (by cbv <;> rfl) (by trivial) ?_ ?_
        · exact (by repeat (first | exact trivial | refine And.intro (by first | exact lv_of hO (by cbv <;> rfl) (by trivial) | (cbv <;> rfl)) ?_))
        refine AnyE.run tok hO (by rfl) (by cbv <;> rfl) (by trivial) ?_
        refine AnyE.effK tok hO (by cbv <;> rfl) (by cbv <;> rfl) (by trivial) ?_ ?_
        · exact (by repeat (first | exact trivial | refine And.intro (by first | exact lv_of hO (by cbv <;> rfl) (by trivial) | (cbv <;> rfl)) ?_))
        refine AnyE.run tok hO (by rfl) (by cbv <;> rfl) (by trivial) ?_
        refine AnyE.effK tok hO (by cbv <;> rfl) (by cbv <;> rfl) (by trivial) ?_ ?_
        · exact (by repeat (first | exact trivial | refine And.intro (by first | exact lv_of hO (by cbv <;> rfl) (by trivial) | (cbv <;> rfl)) ?_))
        refine AnyE.run tok hO (by rfl) (by cbv <;> rfl) (by trivial) ?_
        refine ⟨tabR [(2, 2), (3, 4), (4, 5), (5, 3)], ⟨⟨240, getT [(2, .lit (.int .u8 a)), (3, .lit (.int .u8 b)), (4, .ptr 0 0), (9, .ptr 1 0), (10, .lit (.int .i64 (Int.ofNat k))), (11, .ptr 4 0), (12, .ptr 5 0)]⟩, []⟩, thS4 d t GA (.sl 3 0 t.ns 1 false) [(3, .cells none false GB)], ?_, rfl, _, rfl, ⟨rfl, rfl, rfl, rfl, rfl, rfl, rfl, trivial⟩, rfl⟩
        exact WeakR.tab rfl rfl (by simp) (by rfl) (by show 2 ≤ 6; omega) (by rfl) ⟨RenV.closed Below.lit, RenV.closed Below.lit, RenV.ptr (by omega), RenV.ptr (by omega), RenV.closed Below.lit, RenV.ptr (by omega), RenV.ptr (by omega), trivial⟩ ⟨⟨by omega, _, rfl, .cells (.cons (RenV.closed (intsV_below _ _ _)) (.cons (RenV.sl (by omega)) .nil)), rfl⟩, ⟨by omega, _, rfl, .cells (.cons (RenV.sl (by omega)) (.cons (RenV.closed (intsV_below _ _ _)) .nil)), rfl⟩, ⟨by omega, _, rfl, .cells (RenVs.closed hGAb), rfl⟩, ⟨by omega, _, rfl, .cells (RenVs.closed (truC_below t)), rfl⟩, ⟨by omega, _, rfl, .cells (RenVs.closed (dayC_below d)), rfl⟩, ⟨by omega, _, rfl, .cells (RenVs.closed hGBb), rfl⟩, trivial⟩
      · refine PickE.eff tok hO (by cbv <;> rfl) (by cbv <;> rfl) (by trivial) ?_ ?_
        · exact (by repeat (first | exact trivial | refine And.intro (by first | exact lv_of hO (by cbv <;> rfl) (by trivial) | (cbv <;> rfl)) ?_))
        refine AnyE.run tok hO (by rfl) (by cbv <;> rfl) (by trivial) ?_
        refine AnyE.many [10] (by cbv <;> rfl) (by rfl) ⟨?_, trivial⟩
        · refine PickE.callE en30 (hcB _) (by cbv <;> rfl) (by cbv <;> rfl) ?_
          rintro r st' ⟨rfl, rfl⟩
          refine ⟨?_, ?_⟩
          · exact (by repeat (first | exact trivial | refine And.intro (by first | exact lv_of hO (by cbv <;> rfl) (by trivial) | (cbv <;> rfl)) ?_))
          refine AnyE.run tok hO (by rfl) (by cbv <;> rfl) (by trivial) ?_
          refine AnyE.effK tok hO (by cbv <;> rfl) (by cbv <;> rfl) (by trivial) ?_ ?_
          · exact (by repeat (first | exact trivial | refine And.intro (by first | exact lv_of hO (by cbv <;> rfl) (by trivial) | (cbv <;> rfl)) ?_))
          refine AnyE.run tok hO (by rfl) (by cbv <;> rfl) (by trivial) ?_
          refine AnyE.effK tok hO (by cbv <;> rfl) (by cbv <;> rfl) (by trivial) ?_ ?_
          · exact (by repeat (first | exact trivial | refine And.intro (by first | exact lv_of hO (by cbv <;> rfl) (by trivial) | (cbv <;> rfl)) ?_))
          refine AnyE.run tok hO (by rfl) (by cbv <;> rfl) (by trivial) ?_
          refine ⟨tabR [(2, 2), (3, 5), (4, 4), (5, 3)], ⟨⟨240, getT [(2, .lit (.int .u8 a)), (3, .lit (.int .u8 b)), (4, .ptr 0 0), (9, .ptr 1 0), (10, .lit (.int .i64 (Int.ofNat k))), (11, .ptr 4 0), (12, .ptr 5 0)]⟩, []⟩, thS4 d t GA (.sl 3 0 t.ns 1 false) [(3, .cells none false GB)], ?_, rfl, _, rfl, ⟨rfl, rfl, rfl, rfl, rfl, rfl, rfl, trivial⟩, rfl⟩
          exact WeakR.tab rfl rfl (by simp) (by rfl) (by show 2 ≤ 6; omega) (by rfl) ⟨RenV.closed Below.lit, RenV.closed Below.lit, RenV.ptr (by omega), RenV.ptr (by omega), RenV.closed Below.lit, RenV.ptr (by omega), RenV.ptr (by omega), trivial⟩ ⟨⟨by omega, _, rfl, .cells (.cons (RenV.closed (intsV_below _ _ _)) (.cons (RenV.sl (by omega)) .nil)), rfl⟩, ⟨by omega, _, rfl, .cells (.cons (RenV.sl (by omega)) (.cons (RenV.closed (intsV_below _ _ _)) .nil)), rfl⟩, ⟨by omega, _, rfl, .cells (RenVs.closed hGAb), rfl⟩, ⟨by omega, _, rfl, .cells (RenVs.closed (truC_below t)), rfl⟩, ⟨by omega, _, rfl, .cells (RenVs.closed (dayC_below d)), rfl⟩, ⟨by omega, _, rfl, .cells (RenVs.closed hGBb), rfl⟩, trivial⟩
  · refine PickE.eff tok hO (by cbv <;> rfl) (by cbv <;> rfl) (by trivial) ?_ ?_
    · exact (by repeat (first | exact trivial | refine And.intro (by first | exact lv_of hO (by cbv <;> rfl) (by trivial) | (cbv <;> rfl)) ?_))
    refine AnyE.run tok hO (by rfl) (by cbv <;> rfl) (by trivial) ?_
    refine AnyE.many [2, 13] (by cbv <;> rfl) (by rfl) ⟨?_, ?_, trivial⟩
    · refine PickE.callE en30 (hcA _) (by cbv <;> rfl) (by cbv <;> rfl) ?_
      rintro r st' ⟨rfl, rfl⟩
      refine ⟨?_, ?_⟩
      · exact (by repeat (first | exact trivial | refine And.intro (by first | exact lv_of hO (by cbv <;> rfl) (by trivial) | (cbv <;> rfl)) ?_))
      refine AnyE.run tok hO (by rfl) (by cbv <;> rfl) (by trivial) ?_
      refine AnyE.many [10, 13] (by cbv <;> rfl) (by rfl) ⟨?_, ?_, trivial⟩
      · refine PickE.callE en30 (hcB _) (by cbv <;> rfl) (by cbv <;> rfl) ?_
        rintro r st' ⟨rfl, rfl⟩
        refine ⟨?_, ?_⟩
        · exact (by repeat (first | exact trivial | refine And.intro (by first | exact lv_of hO (by cbv <;> rfl) (by trivial) | (cbv <;> rfl)) ?_))
        refine AnyE.run tok hO (by rfl) (by cbv <;> rfl) (by trivial) ?_
        refine AnyE.effK tok hO (by cbv <;> rfl) (by cbv <;> rfl) (by trivial) ?_ ?_
        · exact (by repeat (first | exact trivial | refine And.intro (by first | exact lv_of hO (by cbv <;> rfl) (by trivial) | (cbv <;> rfl)) ?_))
        refine AnyE.run tok hO (by rfl) (by cbv <;> rfl) (by trivial) ?_
        refine AnyE.effK tok hO (by cbv <;> rfl) (by cbv <;> rfl) (by trivial) ?_ ?_
        · exact (by repeat (first | exact trivial | refine And.intro (by first | exact lv_of hO (by cbv <;> rfl) (by trivial) | (cbv <;> rfl)) ?_))
        refine AnyE.run tok hO (by rfl) (by cbv <;> rfl) (by trivial) ?_
        refine AnyE.effK tok hO (by cbv <;> rfl) (by cbv <;> rfl) (by trivial) ?_ ?_
        · exact (by repeat (first | exact trivial | refine And.intro (by first | exact lv_of hO (by cbv <;> rfl) (by trivial) | (cbv <;> rfl)) ?_))
        refine AnyE.run tok hO (by rfl) (by cbv <;> rfl) (by trivial) ?_
        refine ⟨tabR [(2, 3), (3, 4), (4, 2), (5, 5)], ⟨⟨240, getT [(2, .lit (.int .u8 a)), (3, .lit (.int .u8 b)), (4, .ptr 0 0), (9, .ptr 1 0), (10, .lit (.int .i64 (Int.ofNat k))), (11, .ptr 4 0), (12, .ptr 5 0)]⟩, []⟩, thS4 d t GA (.sl 3 0 t.ns 1 false) [(3, .cells none false GB)], ?_, rfl, _, rfl, ⟨rfl, rfl, rfl, rfl, rfl, rfl, rfl, trivial⟩, rfl⟩
        exact WeakR.tab rfl rfl (by simp) (by rfl) (by show 2 ≤ 6; omega) (by rfl) ⟨RenV.closed Below.lit, RenV.closed Below.lit, RenV.ptr (by omega), RenV.ptr (by omega), RenV.closed Below.lit, RenV.ptr (by omega), RenV.ptr (by omega), trivial⟩ ⟨⟨by omega, _, rfl, .cells (.cons (RenV.closed (intsV_below _ _ _)) (.cons (RenV.sl (by omega)) .nil)), rfl⟩, ⟨by omega, _, rfl, .cells (.cons (RenV.sl (by omega)) (.cons (RenV.closed (intsV_below _ _ _)) .nil)), rfl⟩, ⟨by omega, _, rfl, .cells (RenVs.closed hGAb), rfl⟩, ⟨by omega, _, rfl, .cells (RenVs.closed (truC_below t)), rfl⟩, ⟨by omega, _, rfl, .cells (RenVs.closed (dayC_below d)), rfl⟩, ⟨by omega, _, rfl, .cells (RenVs.closed hGBb), rfl⟩, trivial⟩
      · refine PickE.eff tok hO (by cbv <;> rfl) (by cbv <;> rfl) (by trivial) ?_ ?_
        · exact (by repeat (first | exact trivial | refine And.intro (by first | exact lv_of hO (by cbv <;> rfl) (by trivial) | (cbv <;> rfl)) ?_))
        refine AnyE.run tok hO (by rfl) (by cbv <;> rfl) (by trivial) ?_
        refine AnyE.many [10] (by cbv <;> rfl) (by rfl) ⟨?_, trivial⟩
        · refine PickE.callE en30 (hcB _) (by cbv <;> rfl) (by cbv <;> rfl) ?_
          rintro r st' ⟨rfl, rfl⟩
          refine ⟨?_, ?_⟩
          · exact (by repeat (first | exact trivial | refine And.intro (by first | exact lv_of hO (by cbv <;> rfl) (by trivial) | (cbv <;> rfl)) ?_))
          refine AnyE.run tok hO (by rfl) (by cbv <;> rfl) (by trivial) ?_
          refine AnyE.effK tok hO (by cbv <;> rfl) (by cbv <;> rfl) (by trivial) ?_ ?_
          · exact (by repeat (first | exact trivial | refine And.intro (by first | exact lv_of hO (by cbv <;> rfl) (by trivial) | (cbv <;> rfl)) ?_))
          refine AnyE.run tok hO (by rfl) (by cbv <;> rfl) (by trivial) ?_
          refine AnyE.effK tok hO (by cbv <;> rfl) (by cbv <;> rfl) (by trivial) ?_ ?_
          · exact (by repeat (first | exact trivial | refine And.intro (by first | exact lv_of hO (by cbv <;> rfl) (by trivial) | (cbv <;> rfl)) ?_))
          refine AnyE.run tok hO (by rfl) (by cbv <;> rfl) (by trivial) ?_
          refine ⟨tabR [(2, 3), (3, 5), (4, 2), (5, 4)], ⟨⟨240, getT [(2, .lit (.int .u8 a)), (3, .lit (.int .u8 b)), (4, .ptr 0 0), (9, .ptr 1 0), (10, .lit (.int .i64 (Int.ofNat k))), (11, .ptr 4 0), (12, .ptr 5 0)]⟩, []⟩, thS4 d t GA (.sl 3 0 t.ns 1 false) [(3, .cells none false GB)], ?_, rfl, _, rfl, ⟨rfl, rfl, rfl, rfl, rfl, rfl, rfl, trivial⟩, rfl⟩
          exact WeakR.tab rfl rfl (by simp) (by rfl) (by show 2 ≤ 6; omega) (by rfl) ⟨RenV.closed Below.lit, RenV.closed Below.lit, RenV.ptr (by omega), RenV.ptr (by omega), RenV.closed Below.lit, RenV.ptr (by omega), RenV.ptr (by omega), trivial⟩ ⟨⟨by omega, _, rfl, .cells (.cons (RenV.closed (intsV_below _ _ _)) (.cons (RenV.sl (by omega)) .nil)), rfl⟩, ⟨by omega, _, rfl, .cells (.cons (RenV.sl (by omega)) (.cons (RenV.closed (intsV_below _ _ _)) .nil)), rfl⟩, ⟨by omega, _, rfl, .cells (RenVs.closed hGAb), rfl⟩, ⟨by omega, _, rfl, .cells (RenVs.closed (truC_below t)), rfl⟩, ⟨by omega, _, rfl, .cells (RenVs.closed (dayC_below d)), rfl⟩, ⟨by omega, _, rfl, .cells (RenVs.closed hGBb), rfl⟩, trivial⟩
    · refine PickE.eff tok hO (by cbv <;> rfl) (by cbv <;> rfl) (by trivial) ?_ ?_
      · exact (by repeat (first | exact trivial | refine And.intro (by first | exact lv_of hO (by cbv <;> rfl) (by trivial) | (cbv <;> rfl)) ?_))
      refine AnyE.run tok hO (by rfl) (by cbv <;> rfl) (by trivial) ?_
      refine AnyE.many [2] (by cbv <;> rfl) (by rfl) ⟨?_, trivial⟩
      · refine PickE.callE en30 (hcA _) (by cbv <;> rfl) (by cbv <;> rfl) ?_
        rintro r st' ⟨rfl, rfl⟩
        refine ⟨?_, ?_⟩
        · exact (by repeat (first | exact trivial | refine And.intro (by first | exact lv_of hO (by cbv <;> rfl) (by trivial) | (cbv <;> rfl)) ?_))
        refine AnyE.run tok hO (by rfl) (by cbv <;> rfl) (by trivial) ?_
        refine AnyE.many [10] (by cbv <;> rfl) (by rfl) ⟨?_, trivial⟩
        · refine PickE.callE en30 (hcB _) (by cbv <;> rfl) (by cbv <;> rfl) ?_
          rintro r st' ⟨rfl, rfl⟩
          refine ⟨?_, ?_⟩
          · exact (by repeat (first | exact trivial | refine And.intro (by first | exact lv_of hO (by cbv <;> rfl) (by trivial) | (cbv <;> rfl)) ?_))
          refine AnyE.run tok hO (by rfl) (by cbv <;> rfl) (by trivial) ?_
          refine AnyE.effK tok hO (by cbv <;> rfl) (by cbv <;> rfl) (by trivial) ?_ ?_
          · exact (by repeat (first | exact trivial | refine And.intro (by first | exact lv_of hO (by cbv <;> rfl) (by trivial) | (cbv <;> rfl)) ?_))
          refine AnyE.run tok hO (by rfl) (by cbv <;> rfl) (by trivial) ?_
          refine AnyE.effK tok hO (by cbv <;> rfl) (by cbv <;> rfl) (by trivial) ?_ ?_
          · exact (by repeat (first | exact trivial | refine And.intro (by first | exact lv_of hO (by cbv <;> rfl) (by trivial) | (cbv <;> rfl)) ?_))
          refine AnyE.run tok hO (by rfl) (by cbv <;> rfl) (by trivial) ?_
          refine ⟨tabR [(2, 4), (3, 5), (4, 2), (5, 3)], ⟨⟨240, getT [(2, .lit (.int .u8 a)), (3, .lit (.int .u8 b)), (4, .ptr 0 0), (9, .ptr 1 0), (10, .lit (.int .i64 (Int.ofNat k))), (11, .ptr 4 0), (12, .ptr 5 0)]⟩, []⟩, thS4 d t GA (.sl 3 0 t.ns 1 false) [(3, .cells none false GB)], ?_, rfl, _, rfl, ⟨rfl, rfl, rfl, rfl, rfl, rfl, rfl, trivial⟩, rfl⟩
          exact WeakR.tab rfl rfl (by simp) (by rfl) (by show 2 ≤ 6; omega) (by rfl) ⟨RenV.closed Below.lit, RenV.closed Below.lit, RenV.ptr (by omega), RenV.ptr (by omega), RenV.closed Below.lit, RenV.ptr (by omega), RenV.ptr (by omega), trivial⟩ ⟨⟨by omega, _, rfl, .cells (.cons (RenV.closed (intsV_below _ _ _)) (.cons (RenV.sl (by omega)) .nil)), rfl⟩, ⟨by omega, _, rfl, .cells (.cons (RenV.sl (by omega)) (.cons (RenV.closed (intsV_below _ _ _)) .nil)), rfl⟩, ⟨by omega, _, rfl, .cells (RenVs.closed hGAb), rfl⟩, ⟨by omega, _, rfl, .cells (RenVs.closed (truC_below t)), rfl⟩, ⟨by omega, _, rfl, .cells (RenVs.closed (dayC_below d)), rfl⟩, ⟨by omega, _, rfl, .cells (RenVs.closed hGBb), rfl⟩, trivial⟩
  · refine PickE.eff tok hO (by cbv <;> rfl) (by cbv <;> rfl) (by trivial) ?_ ?_
    · exact (by repeat (first | exact trivial | refine And.intro (by first | exact lv_of hO (by cbv <;> rfl) (by trivial) | (cbv <;> rfl)) ?_))
    refine AnyE.run tok hO (by rfl) (by cbv <;> rfl) (by trivial) ?_
    refine AnyE.many [2, 12] (by cbv <;> rfl) (by rfl) ⟨?_, ?_, trivial⟩
    · refine PickE.callE en30 (hcA _) (by cbv <;> rfl) (by cbv <;> rfl) ?_
      rintro r st' ⟨rfl, rfl⟩
      refine ⟨?_, ?_⟩
      · exact (by repeat (first | exact trivial | refine And.intro (by first | exact lv_of hO (by cbv <;> rfl) (by trivial) | (cbv <;> rfl)) ?_))
      refine AnyE.run tok hO (by rfl) (by cbv <;> rfl) (by trivial) ?_
      refine AnyE.many [10, 12] (by cbv <;> rfl) (by rfl) ⟨?_, ?_, trivial⟩
      · refine PickE.callE en30 (hcB _) (by cbv <;> rfl) (by cbv <;> rfl) ?_
        rintro r st' ⟨rfl, rfl⟩
        refine ⟨?_, ?_⟩
        · exact (by repeat (first | exact trivial | refine And.intro (by first | exact lv_of hO (by cbv <;> rfl) (by trivial) | (cbv <;> rfl)) ?_))
        refine AnyE.run tok hO (by rfl) (by cbv <;> rfl) (by trivial) ?_
        refine AnyE.effK tok hO (by cbv <;> rfl) (by cbv <;> rfl) (by trivial) ?_ ?_
        · exact (by repeat (first | exact trivial | refine And.intro (by first | exact lv_of hO (by cbv <;> rfl) (by trivial) | (cbv <;> rfl)) ?_))
        refine AnyE.run tok hO (by rfl) (by cbv <;> rfl) (by trivial) ?_
        refine AnyE.effK tok hO (by cbv <;> rfl) (by cbv <;> rfl) (by trivial) ?_ ?_
        · exact (by repeat (first | exact trivial | refine And.intro (by first | exact lv_of hO (by cbv <;> rfl) (by trivial) | (cbv <;> rfl)) ?_))
        refine AnyE.run tok hO (by rfl) (by cbv <;> rfl) (by trivial) ?_
        refine AnyE.effK tok hO (by cbv <;> rfl) (by cbv <;> rfl) (by trivial) ?_ ?_
        · exact (by repeat (first | exact trivial | refine And.intro (by first | exact lv_of hO (by cbv <;> rfl) (by trivial) | (cbv <;> rfl)) ?_))
        refine AnyE.run tok hO (by rfl) (by cbv <;> rfl) (by trivial) ?_
        refine ⟨tabR [(2, 3), (3, 4), (4, 5), (5, 2)], ⟨⟨240, getT [(2, .lit (.int .u8 a)), (3, .lit (.int .u8 b)), (4, .ptr 0 0), (9, .ptr 1 0), (10, .lit (.int .i64 (Int.ofNat k))), (11, .ptr 4 0), (12, .ptr 5 0)]⟩, []⟩, thS4 d t GA (.sl 3 0 t.ns 1 false) [(3, .cells none false GB)], ?_, rfl, _, rfl, ⟨rfl, rfl, rfl, rfl, rfl, rfl, rfl, trivial⟩, rfl⟩
        exact WeakR.tab rfl rfl (by simp) (by rfl) (by show 2 ≤ 6; omega) (by rfl) ⟨RenV.closed Below.lit, RenV.closed Below.lit, RenV.ptr (by omega), RenV.ptr (by omega), RenV.closed Below.lit, RenV.ptr (by omega), RenV.ptr (by omega), trivial⟩ ⟨⟨by omega, _, rfl, .cells (.cons (RenV.closed (intsV_below _ _ _)) (.cons (RenV.sl (by omega)) .nil)), rfl⟩, ⟨by omega, _, rfl, .cells (.cons (RenV.sl (by omega)) (.cons (RenV.closed (intsV_below _ _ _)) .nil)), rfl⟩, ⟨by omega, _, rfl, .cells (RenVs.closed hGAb), rfl⟩, ⟨by omega, _, rfl, .cells (RenVs.closed (truC_below t)), rfl⟩, ⟨by omega, _, rfl, .cells (RenVs.closed (dayC_below d)), rfl⟩, ⟨by omega, _, rfl, .cells (RenVs.closed hGBb), rfl⟩, trivial⟩
      · refine PickE.eff tok hO (by cbv <;> rfl) (by cbv <;> rfl) (by trivial) ?_ ?_
        · exact (by repeat (first | exact trivial | refine And.intro (by first | exact lv_of hO (by cbv <;> rfl) (by trivial) | (cbv <;> rfl)) ?_))
        refine AnyE.run tok hO (by rfl) (by cbv <;> rfl) (by trivial) ?_
        refine AnyE.many [10] (by cbv <;> rfl) (by rfl) ⟨?_, trivial⟩
        · refine PickE.callE en30 (hcB _) (by cbv <;> rfl) (by cbv <;> rfl) ?_
          rintro r st' ⟨rfl, rfl⟩
          refine ⟨?_, ?_⟩
          · exact (by repeat (first | exact trivial | refine And.intro (by first | exact lv_of hO (by cbv <;> rfl) (by trivial) | (cbv <;> rfl)) ?_))
          refine AnyE.run tok hO (by rfl) (by cbv <;> rfl) (by trivial) ?_
          refine AnyE.effK tok hO (by cbv <;> rfl) (by cbv <;> rfl) (by trivial) ?_ ?_
          · exact (by repeat (first | exact trivial | refine And.intro (by first | exact lv_of hO (by cbv <;> rfl) (by trivial) | (cbv <;> rfl)) ?_))
          refine AnyE.run tok hO (by rfl) (by cbv <;> rfl) (by trivial) ?_
          refine AnyE.effK tok hO (by cbv <;> rfl) (by cbv <;> rfl) (by trivial) ?_ ?_
          · exact (by repeat (first | exact trivial | refine And.intro (by first | exact lv_of hO (by cbv <;> rfl) (by trivial) | (cbv <;> rfl)) ?_))
          refine AnyE.run tok hO (by rfl) (by cbv <;> rfl) (by trivial) ?_
          refine ⟨tabR [(2, 3), (3, 5), (4, 4), (5, 2)], ⟨⟨240, getT [(2, .lit (.int .u8 a)), (3, .lit (.int .u8 b)), (4, .ptr 0 0), (9, .ptr 1 0), (10, .lit (.int .i64 (Int.ofNat k))), (11, .ptr 4 0), (12, .ptr 5 0)]⟩, []⟩, thS4 d t GA (.sl 3 0 t.ns 1 false) [(3, .cells none false GB)], ?_, rfl, _, rfl, ⟨rfl, rfl, rfl, rfl, rfl, rfl, rfl, trivial⟩, rfl⟩
          exact WeakR.tab rfl rfl (by simp) (by rfl) (by show 2 ≤ 6; omega) (by rfl) ⟨RenV.closed Below.lit, RenV.closed Below.lit, RenV.ptr (by omega), RenV.ptr (by omega), RenV.closed Below.lit, RenV.ptr (by omega), RenV.ptr (by omega), trivial⟩ ⟨⟨by omega, _, rfl, .cells (.cons (RenV.closed (intsV_below _ _ _)) (.cons (RenV.sl (by omega)) .nil)), rfl⟩, ⟨by omega, _, rfl, .cells (.cons (RenV.sl (by omega)) (.cons (RenV.closed (intsV_below _ _ _)) .nil)), rfl⟩, ⟨by omega, _, rfl, .cells (RenVs.closed hGAb), rfl⟩, ⟨by omega, _, rfl, .cells (RenVs.closed (truC_below t)), rfl⟩, ⟨by omega, _, rfl, .cells (RenVs.closed (dayC_below d)), rfl⟩, ⟨by omega, _, rfl, .cells (RenVs.closed hGBb), rfl⟩, trivial⟩
    · refine PickE.eff tok hO (by cbv <;> rfl) (by cbv <;> rfl) (by trivial) ?_ ?_
      · exact (by repeat (first | exact trivial | refine And.intro (by first | exact lv_of hO (by cbv <;> rfl) (by trivial) | (cbv <;> rfl)) ?_))
      refine AnyE.run tok hO (by rfl) (by cbv <;> rfl) (by trivial) ?_
      refine AnyE.many [2] (by cbv <;> rfl) (by rfl) ⟨?_, trivial⟩
      · refine PickE.callE en30 (hcA _) (by cbv <;> rfl) (by cbv <;> rfl) ?_
        rintro r st' ⟨rfl, rfl⟩
        refine ⟨?_, ?_⟩
        · exact (by repeat (first | exact trivial | refine And.intro (by first | exact lv_of hO (by cbv <;> rfl) (by trivial) | (cbv <;> rfl)) ?_))
        refine AnyE.run tok hO (by rfl) (by cbv <;> rfl) (by trivial) ?_
        refine AnyE.many [10] (by cbv <;> rfl) (by rfl) ⟨?_, trivial⟩
        · refine PickE.callE en30 (hcB _) (by cbv <;> rfl) (by cbv <;> rfl) ?_
          rintro r st' ⟨rfl, rfl⟩
          refine ⟨?_, ?_⟩
          · exact (by repeat (first | exact trivial | refine And.intro (by first | exact lv_of hO (by cbv <;> rfl) (by trivial) | (cbv <;> rfl)) ?_))
          refine AnyE.run tok hO (by rfl) (by cbv <;> rfl) (by trivial) ?_
          refine AnyE.effK tok hO (by cbv <;> rfl) (by cbv <;> rfl) (by trivial) ?_ ?_
          · exact (by repeat (first | exact trivial | refine And.intro (by first | exact lv_of hO (by cbv <;> rfl) (by trivial) | (cbv <;> rfl)) ?_))
          refine AnyE.run tok hO (by rfl) (by cbv <;> rfl) (by trivial) ?_
          refine AnyE.effK tok hO (by cbv <;> rfl) (by cbv <;> rfl) (by trivial) ?_ ?_
          · exact (by repeat (first | exact trivial | refine And.intro (by first | exact lv_of hO (by cbv <;> rfl) (by trivial) | (cbv <;> rfl)) ?_))
          refine AnyE.run tok hO (by rfl) (by cbv <;> rfl) (by trivial) ?_
          refine ⟨tabR [(2, 4), (3, 5), (4, 3), (5, 2)], ⟨⟨240, getT [(2, .lit (.int .u8 a)), (3, .lit (.int .u8 b)), (4, .ptr 0 0), (9, .ptr 1 0), (10, .lit (.int .i64 (Int.ofNat k))), (11, .ptr 4 0), (12, .ptr 5 0)]⟩, []⟩, thS4 d t GA (.sl 3 0 t.ns 1 false) [(3, .cells none false GB)], ?_, rfl, _, rfl, ⟨rfl, rfl, rfl, rfl, rfl, rfl, rfl, trivial⟩, rfl⟩
          exact WeakR.tab rfl rfl (by simp) (by rfl) (by show 2 ≤ 6; omega) (by rfl) ⟨RenV.closed Below.lit, RenV.closed Below.lit, RenV.ptr (by omega), RenV.ptr (by omega), RenV.closed Below.lit, RenV.ptr (by omega), RenV.ptr (by omega), trivial⟩ ⟨⟨by omega, _, rfl, .cells (.cons (RenV.closed (intsV_below _ _ _)) (.cons (RenV.sl (by omega)) .nil)), rfl⟩, ⟨by omega, _, rfl, .cells (.cons (RenV.sl (by omega)) (.cons (RenV.closed (intsV_below _ _ _)) .nil)), rfl⟩, ⟨by omega, _, rfl, .cells (RenVs.closed hGAb), rfl⟩, ⟨by omega, _, rfl, .cells (RenVs.closed (truC_below t)), rfl⟩, ⟨by omega, _, rfl, .cells (RenVs.closed (dayC_below d)), rfl⟩, ⟨by omega, _, rfl, .cells (RenVs.closed hGBb), rfl⟩, trivial⟩
set_option maxHeartbeats 8000000 in
theorem thin_s4z (d : DayD) (t : TruD) (a b : Int) (k : Nat) (g : Nat → AV) (O : Ar) (hO : O = std) (hf : t.nf < 1000) (hs : t.ns < 1000) (h0 : 0 < t.nf) (GA : List AV) (hGA : flatG 1 (intC t.fe) t.nf = GA) (hGAb : ∀ a ∈ GA, Below 0 a) (hn : t.ns = 0)
    (h : AllP (fun p => g p.1 = p.2) [(2, .lit (.int .u8 a)), (3, .lit (.int .u8 b)), (4, .ptr 0 0), (9, .ptr 1 0), (10, .lit (.int .i64 (Int.ofNat k)))]) :
    SW Try.prog none (nthC 4 (bodyF Try.f5)) (midT [(2, .lit (.int .u8 a)), (3, .lit (.int .u8 b)), (4, .ptr 0 0), (9, .ptr 1 0), (10, .lit (.int .i64 (Int.ofNat k))), (11, .ptr 4 0), (12, .ptr 5 0)] (thS4 d t GA (nl3) [])) ⟨⟨240, g⟩, []⟩ (thS3 d t) := by
  obtain ⟨g2, g3, g4, g9, g10, _⟩ := h
  simp only at g2 g3 g4 g9 g10
  rw [← updT_self g2, ← updT_self g3, ← updT_self g4, ← updT_self g9, ← updT_self g10]
  have hcA := fun st => list_callG t.nf t.ef t.fe hf h0 GA hGA st
  have hcB : Pure Try.prog 30 [intsV t.ns t.es t.st] nl3 := by rw [hn]; exact list_nil _ _
  refine SW.ren ?_
  refine SW.runD tok mixed hO (by rfl) (by cbv <;> rfl) (by trivial) ?_
  refine AnyE.many [2, 12, 13] (by cbv <;> rfl) (by rfl) ⟨?_, ?_, ?_, trivial⟩
  · refine PickE.callE en30 (hcA _) (by cbv <;> rfl) (by cbv <;> rfl) ?_
    rintro r st' ⟨rfl, rfl⟩
    refine ⟨?_, ?_⟩
    · exact (by repeat (first | exact trivial | refine And.intro (by first | exact lv_of hO (by cbv <;> rfl) (by trivial) | (cbv <;> rfl)) ?_))
    refine AnyE.run tok hO (by rfl) (by cbv <;> rfl) (by trivial) ?_
    refine AnyE.many [10, 12, 13] (by cbv <;> rfl) (by rfl) ⟨?_, ?_, ?_, trivial⟩
    · refine PickE.callQ hcB (by cbv <;> rfl) (by cbv <;> rfl) ?_ ?_
      · exact (by repeat (first | exact trivial | refine And.intro (by first | exact lv_of hO (by cbv <;> rfl) (by trivial) | (cbv <;> rfl)) ?_))
      refine AnyE.run tok hO (by rfl) (by cbv <;> rfl) (by trivial) ?_
      refine AnyE.many [12, 13] (by cbv <;> rfl) (by rfl) ⟨?_, ?_, trivial⟩
      · refine PickE.eff tok hO (by cbv <;> rfl) (by cbv <;> rfl) (by trivial) ?_ ?_
        · exact (by repeat (first | exact trivial | refine And.intro (by first | exact lv_of hO (by cbv <;> rfl) (by trivial) | (cbv <;> rfl)) ?_))
        refine AnyE.run tok hO (by rfl) (by cbv <;> rfl) (by trivial) ?_
        refine AnyE.effK tok hO (by cbv <;> rfl) (by cbv <;> rfl) (by trivial) ?_ ?_
        · exact (by repeat (first | exact trivial | refine And.intro (by first | exact lv_of hO (by cbv <;> rfl) (by trivial) | (cbv <;> rfl)) ?_))
        refine AnyE.run tok hO (by rfl) (by cbv <;> rfl) (by trivial) ?_
        refine AnyE.effK tok hO (by cbv <;> rfl) (by cbv <;> rfl) (by trivial) ?_ ?_
        · exact (by repeat (first | exact trivial | refine And.intro (by first | exact lv_of hO (by cbv <;> rfl) (by trivial) | (cbv <;> rfl)) ?_))
        refine AnyE.run tok hO (by rfl) (by cbv <;> rfl) (by trivial) ?_
        refine AnyE.effK tok hO (by cbv <;> rfl) (by cbv <;> rfl) (by trivial) ?_ ?_
        · exact (by repeat (first | exact trivial | refine And.intro (by first | exact lv_of hO (by cbv <;> rfl) (by trivial) | (cbv <;> rfl)) ?_))
        refine AnyE.run tok hO (by rfl) (by cbv <;> rfl) (by trivial) ?_
        refine ⟨tabR [(2, 2), (4, 3), (5, 4)], ⟨⟨240, getT [(2, .lit (.int .u8 a)), (3, .lit (.int .u8 b)), (4, .ptr 0 0), (9, .ptr 1 0), (10, .lit (.int .i64 (Int.ofNat k))), (11, .ptr 4 0), (12, .ptr 5 0)]⟩, []⟩, thS4 d t GA (nl3) [], ?_, rfl, _, rfl, ⟨rfl, rfl, rfl, rfl, rfl, rfl, rfl, trivial⟩, rfl⟩
        exact WeakR.tab rfl rfl (by simp) (by rfl) (by show 2 ≤ 6; omega) (by rfl) ⟨RenV.closed Below.lit, RenV.closed Below.lit, RenV.ptr (by omega), RenV.ptr (by omega), RenV.closed Below.lit, RenV.ptr (by omega), RenV.ptr (by omega), trivial⟩ ⟨⟨by omega, _, rfl, .cells (.cons (RenV.closed (intsV_below _ _ _)) (.cons (RenV.closed Below.lit) .nil)), rfl⟩, ⟨by omega, _, rfl, .cells (.cons (RenV.sl (by omega)) (.cons (RenV.closed (intsV_below _ _ _)) .nil)), rfl⟩, ⟨by omega, _, rfl, .cells (RenVs.closed hGAb), rfl⟩, ⟨by omega, _, rfl, .cells (RenVs.closed (truC_below t)), rfl⟩, ⟨by omega, _, rfl, .cells (RenVs.closed (dayC_below d)), rfl⟩, trivial⟩
      · refine PickE.eff tok hO (by cbv <;> rfl) (by cbv <;> rfl) (by trivial) ?_ ?_
        · exact (by repeat (first | exact trivial | refine And.intro (by first | exact lv_of hO (by cbv <;> rfl) (by trivial) | (cbv <;> rfl)) ?_))
        refine AnyE.run tok hO (by rfl) (by cbv <;> rfl) (by trivial) ?_
        refine AnyE.effK tok hO (by cbv <;> rfl) (by cbv <;> rfl) (by trivial) ?_ ?_
        · exact (by repeat (first | exact trivial | refine And.intro (by first | exact lv_of hO (by cbv <;> rfl) (by trivial) | (cbv <;> rfl)) ?_))
        refine AnyE.run tok hO (by rfl) (by cbv <;> rfl) (by trivial) ?_
        refine AnyE.effK tok hO (by cbv <;> rfl) (by cbv <;> rfl) (by trivial) ?_ ?_
        · exact (by repeat (first | exact trivial | refine And.intro (by first | exact lv_of hO (by cbv <;> rfl) (by trivial) | (cbv <;> rfl)) ?_))
        refine AnyE.run tok hO (by rfl) (by cbv <;> rfl) (by trivial) ?_
        refine AnyE.effK tok hO (by cbv <;> rfl) (by cbv <;> rfl) (by trivial) ?_ ?_
        · exact (by repeat (first | exact trivial | refine And.intro (by first | exact lv_of hO (by cbv <;> rfl) (by trivial) | (cbv <;> rfl)) ?_))
        refine AnyE.run tok hO (by rfl) (by cbv <;> rfl) (by trivial) ?_
        refine ⟨tabR [(2, 2), (4, 4), (5, 3)], ⟨⟨240, getT [(2, .lit (.int .u8 a)), (3, .lit (.int .u8 b)), (4, .ptr 0 0), (9, .ptr 1 0), (10, .lit (.int .i64 (Int.ofNat k))), (11, .ptr 4 0), (12, .ptr 5 0)]⟩, []⟩, thS4 d t GA (nl3) [], ?_, rfl, _, rfl, ⟨rfl, rfl, rfl, rfl, rfl, rfl, rfl, trivial⟩, rfl⟩
        exact WeakR.tab rfl rfl (by simp) (by rfl) (by show 2 ≤ 6; omega) (by rfl) ⟨RenV.closed Below.lit, RenV.closed Below.lit, RenV.ptr (by omega), RenV.ptr (by omega), RenV.closed Below.lit, RenV.ptr (by omega), RenV.ptr (by omega), trivial⟩ ⟨⟨by omega, _, rfl, .cells (.cons (RenV.closed (intsV_below _ _ _)) (.cons (RenV.closed Below.lit) .nil)), rfl⟩, ⟨by omega, _, rfl, .cells (.cons (RenV.sl (by omega)) (.cons (RenV.closed (intsV_below _ _ _)) .nil)), rfl⟩, ⟨by omega, _, rfl, .cells (RenVs.closed hGAb), rfl⟩, ⟨by omega, _, rfl, .cells (RenVs.closed (truC_below t)), rfl⟩, ⟨by omega, _, rfl, .cells (RenVs.closed (dayC_below d)), rfl⟩, trivial⟩
    · refine PickE.eff tok hO (by cbv <;> rfl) (by cbv <;> rfl) (by trivial) ?_ ?_
      · exact (by repeat (first | exact trivial | refine And.intro (by first | exact lv_of hO (by cbv <;> rfl) (by trivial) | (cbv <;> rfl)) ?_))
      refine AnyE.run tok hO (by rfl) (by cbv <;> rfl) (by trivial) ?_
      refine AnyE.many [10, 13] (by cbv <;> rfl) (by rfl) ⟨?_, ?_, trivial⟩
      · refine PickE.callQ hcB (by cbv <;> rfl) (by cbv <;> rfl) ?_ ?_
        · exact (by repeat (first | exact trivial | refine And.intro (by first | exact lv_of hO (by cbv <;> rfl) (by trivial) | (cbv <;> rfl)) ?_))
        refine AnyE.run tok hO (by rfl) (by cbv <;> rfl) (by trivial) ?_
        refine AnyE.effK tok hO (by cbv <;> rfl) (by cbv <;> rfl) (by trivial) ?_ ?_
        · exact (by repeat (first | exact trivial | refine And.intro (by first | exact lv_of hO (by cbv <;> rfl) (by trivial) | (cbv <;> rfl)) ?_))
        refine AnyE.run tok hO (by rfl) (by cbv <;> rfl) (by trivial) ?_
        refine AnyE.effK tok hO (by cbv <;> rfl) (by cbv <;> rfl) (by trivial) ?_ ?_
        · exact (by repeat (first | exact trivial | refine And.intro (by first | exact lv_of hO (by cbv <;> rfl) (by trivial) | (cbv <;> rfl)) ?_))
        refine AnyE.run tok hO (by rfl) (by cbv <;> rfl) (by trivial) ?_
        refine AnyE.effK tok hO (by cbv <;> rfl) (by cbv <;> rfl) (by trivial) ?_ ?_
        · exact (by repeat (first | exact trivial | refine And.intro (by first | exact lv_of hO (by cbv <;> rfl) (by trivial) | (cbv <;> rfl)) ?_))
        refine AnyE.run tok hO (by rfl) (by cbv <;> rfl) (by trivial) ?_
        refine ⟨tabR [(2, 2), (4, 3), (5, 4)], ⟨⟨240, getT [(2, .lit (.int .u8 a)), (3, .lit (.int .u8 b)), (4, .ptr 0 0), (9, .ptr 1 0), (10, .lit (.int .i64 (Int.ofNat k))), (11, .ptr 4 0), (12, .ptr 5 0)]⟩, []⟩, thS4 d t GA (nl3) [], ?_, rfl, _, rfl, ⟨rfl, rfl, rfl, rfl, rfl, rfl, rfl, trivial⟩, rfl⟩
        exact WeakR.tab rfl rfl (by simp) (by rfl) (by show 2 ≤ 6; omega) (by rfl) ⟨RenV.closed Below.lit, RenV.closed Below.lit, RenV.ptr (by omega), RenV.ptr (by omega), RenV.closed Below.lit, RenV.ptr (by omega), RenV.ptr (by omega), trivial⟩ ⟨⟨by omega, _, rfl, .cells (.cons (RenV.closed (intsV_below _ _ _)) (.cons (RenV.closed Below.lit) .nil)), rfl⟩, ⟨by omega, _, rfl, .cells (.cons (RenV.sl (by omega)) (.cons (RenV.closed (intsV_below _ _ _)) .nil)), rfl⟩, ⟨by omega, _, rfl, .cells (RenVs.closed hGAb), rfl⟩, ⟨by omega, _, rfl, .cells (RenVs.closed (truC_below t)), rfl⟩, ⟨by omega, _, rfl, .cells (RenVs.closed (dayC_below d)), rfl⟩, trivial⟩
      · refine PickE.eff tok hO (by cbv <;> rfl) (by cbv <;> rfl) (by trivial) ?_ ?_
        · exact (by repeat (first | exact trivial | refine And.intro (by first | exact lv_of hO (by cbv <;> rfl) (by trivial) | (cbv <;> rfl)) ?_))
        refine AnyE.run tok hO (by rfl) (by cbv <;> rfl) (by trivial) ?_
        refine AnyE.callP hcB (by cbv <;> rfl) (by cbv <;> rfl) ?_
        refine AnyE.run tok hO (by rfl) (by cbv <;> rfl) (by trivial) ?_
        refine AnyE.effK tok hO (by cbv <;> rfl) (by cbv <;> rfl) (by trivial) ?_ ?_
        · exact (by repeat (first | exact trivial | refine And.intro (by first | exact lv_of hO (by cbv <;> rfl) (by trivial) | (cbv <;> rfl)) ?_))
        refine AnyE.run tok hO (by rfl) (by cbv <;> rfl) (by trivial) ?_
        refine AnyE.effK tok hO (by cbv <;> rfl) (by cbv <;> rfl) (by trivial) ?_ ?_
        · exact (by repeat (first | exact trivial | refine And.intro (by first | exact lv_of hO (by cbv <;> rfl) (by trivial) | (cbv <;> rfl)) ?_))
        refine AnyE.run tok hO (by rfl) (by cbv <;> rfl) (by trivial) ?_
        refine ⟨tabR [(2, 2), (4, 3), (5, 4)], ⟨⟨240, getT [(2, .lit (.int .u8 a)), (3, .lit (.int .u8 b)), (4, .ptr 0 0), (9, .ptr 1 0), (10, .lit (.int .i64 (Int.ofNat k))), (11, .ptr 4 0), (12, .ptr 5 0)]⟩, []⟩, thS4 d t GA (nl3) [], ?_, rfl, _, rfl, ⟨rfl, rfl, rfl, rfl, rfl, rfl, rfl, trivial⟩, rfl⟩
        exact WeakR.tab rfl rfl (by simp) (by rfl) (by show 2 ≤ 6; omega) (by rfl) ⟨RenV.closed Below.lit, RenV.closed Below.lit, RenV.ptr (by omega), RenV.ptr (by omega), RenV.closed Below.lit, RenV.ptr (by omega), RenV.ptr (by omega), trivial⟩ ⟨⟨by omega, _, rfl, .cells (.cons (RenV.closed (intsV_below _ _ _)) (.cons (RenV.closed Below.lit) .nil)), rfl⟩, ⟨by omega, _, rfl, .cells (.cons (RenV.sl (by omega)) (.cons (RenV.closed (intsV_below _ _ _)) .nil)), rfl⟩, ⟨by omega, _, rfl, .cells (RenVs.closed hGAb), rfl⟩, ⟨by omega, _, rfl, .cells (RenVs.closed (truC_below t)), rfl⟩, ⟨by omega, _, rfl, .cells (RenVs.closed (dayC_below d)), rfl⟩, trivial⟩
    · refine PickE.eff tok hO (by cbv <;> rfl) (by cbv <;> rfl) (by trivial) ?_ ?_
      · exact (by repeat (first | exact trivial | refine And.intro (by first | exact lv_of hO (by cbv <;> rfl) (by trivial) | (cbv <;> rfl)) ?_))
      refine AnyE.run tok hO (by rfl) (by cbv <;> rfl) (by trivial) ?_
      refine AnyE.many [10, 12] (by cbv <;> rfl) (by rfl) ⟨?_, ?_, trivial⟩
      · refine PickE.callQ hcB (by cbv <;> rfl) (by cbv <;> rfl) ?_ ?_
        · exact (by repeat (first | exact trivial | refine And.intro (by first | exact lv_of hO (by cbv <;> rfl) (by trivial) | (cbv <;> rfl)) ?_))
        refine AnyE.run tok hO (by rfl) (by cbv <;> rfl) (by trivial) ?_
        refine AnyE.effK tok hO (by cbv <;> rfl) (by cbv <;> rfl) (by trivial) ?_ ?_
        · exact (by repeat (first | exact trivial | refine And.intro (by first | exact lv_of hO (by cbv <;> rfl) (by trivial) | (cbv <;> rfl)) ?_))
        refine AnyE.run tok hO (by rfl) (by cbv <;> rfl) (by trivial) ?_
        refine AnyE.effK tok hO (by cbv <;> rfl) (by cbv <;> rfl) (by trivial) ?_ ?_
        · exact (by repeat (first | exact trivial | refine And.intro (by first | exact lv_of hO (by cbv <;> rfl) (by trivial) | (cbv <;> rfl)) ?_))
        refine AnyE.run tok hO (by rfl) (by cbv <;> rfl) (by trivial) ?_
        refine AnyE.effK tok hO (by cbv <;> rfl) (by cbv <;> rfl) (by trivial) ?_ ?_
        · exact (by repeat (first | exact trivial | refine And.intro (by first | exact lv_of hO (by cbv <;> rfl) (by trivial) | (cbv <;> rfl)) ?_))
        refine AnyE.run tok hO (by rfl) (by cbv <;> rfl) (by trivial) ?_
        refine ⟨tabR [(2, 2), (4, 4), (5, 3)], ⟨⟨240, getT [(2, .lit (.int .u8 a)), (3, .lit (.int .u8 b)), (4, .ptr 0 0), (9, .ptr 1 0), (10, .lit (.int .i64 (Int.ofNat k))), (11, .ptr 4 0), (12, .ptr 5 0)]⟩, []⟩, thS4 d t GA (nl3) [], ?_, rfl, _, rfl, ⟨rfl, rfl, rfl, rfl, rfl, rfl, rfl, trivial⟩, rfl⟩
        exact WeakR.tab rfl rfl (by simp) (by rfl) (by show 2 ≤ 6; omega) (by rfl) ⟨RenV.closed Below.lit, RenV.closed Below.lit, RenV.ptr (by omega), RenV.ptr (by omega), RenV.closed Below.lit, RenV.ptr (by omega), RenV.ptr (by omega), trivial⟩ ⟨⟨by omega, _, rfl, .cells (.cons (RenV.closed (intsV_below _ _ _)) (.cons (RenV.closed Below.lit) .nil)), rfl⟩, ⟨by omega, _, rfl, .cells (.cons (RenV.sl (by omega)) (.cons (RenV.closed (intsV_below _ _ _)) .nil)), rfl⟩, ⟨by omega, _, rfl, .cells (RenVs.closed hGAb), rfl⟩, ⟨by omega, _, rfl, .cells (RenVs.closed (truC_below t)), rfl⟩, ⟨by omega, _, rfl, .cells (RenVs.closed (dayC_below d)), rfl⟩, trivial⟩
      · refine PickE.eff tok hO (by cbv <;> rfl) (by cbv <;> rfl) (by trivial) ?_ ?_
        · exact (by repeat (first | exact trivial | refine And.intro (by first | exact lv_of hO (by cbv <;> rfl) (by trivial) | (cbv <;> rfl)) ?_))
        refine AnyE.run tok hO (by rfl) (by cbv <;> rfl) (by trivial) ?_
        refine AnyE.callP hcB (by cbv <;> rfl) (by cbv <;> rfl) ?_
        refine AnyE.run tok hO (by rfl) (by cbv <;> rfl) (by trivial) ?_
        refine AnyE.effK tok hO (by cbv <;> rfl) (by cbv <;> rfl) (by trivial) ?_ ?_
        · exact (by repeat (first | exact trivial | refine And.intro (by first | exact lv_of hO (by cbv <;> rfl) (by trivial) | (cbv <;> rfl)) ?_))
        refine AnyE.run tok hO (by rfl) (by cbv <;> rfl) (by trivial) ?_
        refine AnyE.effK tok hO (by cbv <;> rfl) (by cbv <;> rfl) (by trivial) ?_ ?_
        · exact (by repeat (first | exact trivial | refine And.intro (by first | exact lv_of hO (by cbv <;> rfl) (by trivial) | (cbv <;> rfl)) ?_))
        refine AnyE.run tok hO (by rfl) (by cbv <;> rfl) (by trivial) ?_
        refine ⟨tabR [(2, 2), (4, 4), (5, 3)], ⟨⟨240, getT [(2, .lit (.int .u8 a)), (3, .lit (.int .u8 b)), (4, .ptr 0 0), (9, .ptr 1 0), (10, .lit (.int .i64 (Int.ofNat k))), (11, .ptr 4 0), (12, .ptr 5 0)]⟩, []⟩, thS4 d t GA (nl3) [], ?_, rfl, _, rfl, ⟨rfl, rfl, rfl, rfl, rfl, rfl, rfl, trivial⟩, rfl⟩
        exact WeakR.tab rfl rfl (by simp) (by rfl) (by show 2 ≤ 6; omega) (by rfl) ⟨RenV.closed Below.lit, RenV.closed Below.lit, RenV.ptr (by omega), RenV.ptr (by omega), RenV.closed Below.lit, RenV.ptr (by omega), RenV.ptr (by omega), trivial⟩ ⟨⟨by omega, _, rfl, .cells (.cons (RenV.closed (intsV_below _ _ _)) (.cons (RenV.closed Below.lit) .nil)), rfl⟩, ⟨by omega, _, rfl, .cells (.cons (RenV.sl (by omega)) (.cons (RenV.closed (intsV_below _ _ _)) .nil)), rfl⟩, ⟨by omega, _, rfl, .cells (RenVs.closed hGAb), rfl⟩, ⟨by omega, _, rfl, .cells (RenVs.closed (truC_below t)), rfl⟩, ⟨by omega, _, rfl, .cells (RenVs.closed (dayC_below d)), rfl⟩, trivial⟩
  · refine PickE.eff tok hO (by cbv <;> rfl) (by cbv <;> rfl) (by trivial) ?_ ?_
    · exact (by repeat (first | exact trivial | refine And.intro (by first | exact lv_of hO (by cbv <;> rfl) (by trivial) | (cbv <;> rfl)) ?_))
    refine AnyE.run tok hO (by rfl) (by cbv <;> rfl) (by trivial) ?_
    refine AnyE.many [2, 13] (by cbv <;> rfl) (by rfl) ⟨?_, ?_, trivial⟩
    · refine PickE.callE en30 (hcA _) (by cbv <;> rfl) (by cbv <;> rfl) ?_
      rintro r st' ⟨rfl, rfl⟩
      refine ⟨?_, ?_⟩
      · exact (by repeat (first | exact trivial | refine And.intro (by first | exact lv_of hO (by cbv <;> rfl) (by trivial) | (cbv <;> rfl)) ?_))
      refine AnyE.run tok hO (by rfl) (by cbv <;> rfl) (by trivial) ?_
      refine AnyE.many [10, 13] (by cbv <;> rfl) (by rfl) ⟨?_, ?_, trivial⟩
      · refine PickE.callQ hcB (by cbv <;> rfl) (by cbv <;> rfl) ?_ ?_
        · exact (by repeat (first | exact trivial | refine And.intro (by first | exact lv_of hO (by cbv <;> rfl) (by trivial) | (cbv <;> rfl)) ?_))
        refine AnyE.run tok hO (by rfl) (by cbv <;> rfl) (by trivial) ?_
        refine AnyE.effK tok hO (by cbv <;> rfl) (by cbv <;> rfl) (by trivial) ?_ ?_
        · exact (by repeat (first | exact trivial | refine And.intro (by first | exact lv_of hO (by cbv <;> rfl) (by trivial) | (cbv <;> rfl)) ?_))
        refine AnyE.run tok hO (by rfl) (by cbv <;> rfl) (by trivial) ?_
        refine AnyE.effK tok hO (by cbv <;> rfl) (by cbv <;> rfl) (by trivial) ?_ ?_
        · exact (by repeat (first | exact trivial | refine And.intro (by first | exact lv_of hO (by cbv <;> rfl) (by trivial) | (cbv <;> rfl)) ?_))
        refine AnyE.run tok hO (by rfl) (by cbv <;> rfl) (by trivial) ?_
        refine AnyE.effK tok hO (by cbv <;> rfl) (by cbv <;> rfl) (by trivial) ?_ ?_
        · exact (by repeat (first | exact trivial | refine And.intro (by first | exact lv_of hO (by cbv <;> rfl) (by trivial) | (cbv <;> rfl)) ?_))
        refine AnyE.run tok hO (by rfl) (by cbv <;> rfl) (by trivial) ?_
        refine ⟨tabR [(2, 3), (4, 2), (5, 4)], ⟨⟨240, getT [(2, .lit (.int .u8 a)), (3, .lit (.int .u8 b)), (4, .ptr 0 0), (9, .ptr 1 0), (10, .lit (.int .i64 (Int.ofNat k))), (11, .ptr 4 0), (12, .ptr 5 0)]⟩, []⟩, thS4 d t GA (nl3) [], ?_, rfl, _, rfl, ⟨rfl, rfl, rfl, rfl, rfl, rfl, rfl, trivial⟩, rfl⟩
        exact WeakR.tab rfl rfl (by simp) (by rfl) (by show 2 ≤ 6; omega) (by rfl) ⟨RenV.closed Below.lit, RenV.closed Below.lit, RenV.ptr (by omega), RenV.ptr (by omega), RenV.closed Below.lit, RenV.ptr (by omega), RenV.ptr (by omega), trivial⟩ ⟨⟨by omega, _, rfl, .cells (.cons (RenV.closed (intsV_below _ _ _)) (.cons (RenV.closed Below.lit) .nil)), rfl⟩, ⟨by omega, _, rfl, .cells (.cons (RenV.sl (by omega)) (.cons (RenV.closed (intsV_below _ _ _)) .nil)), rfl⟩, ⟨by omega, _, rfl, .cells (RenVs.closed hGAb), rfl⟩, ⟨by omega, _, rfl, .cells (RenVs.closed (truC_below t)), rfl⟩, ⟨by omega, _, rfl, .cells (RenVs.closed (dayC_below d)), rfl⟩, trivial⟩
      · refine PickE.eff tok hO (by cbv <;> rfl) (by cbv <;> rfl) (by trivial) ?_ ?_
        · exact (by repeat (first | exact trivial | refine And.intro (by first | exact lv_of hO (by cbv <;> rfl) (by trivial) | (cbv <;> rfl)) ?_))
        refine AnyE.run tok hO (by rfl) (by cbv <;> rfl) (by trivial) ?_
        refine AnyE.callP hcB (by cbv <;> rfl) (by cbv <;> rfl) ?_
        refine AnyE.run tok hO (by rfl) (by cbv <;> rfl) (by trivial) ?_
        refine AnyE.effK tok hO (by cbv <;> rfl) (by cbv <;> rfl) (by trivial) ?_ ?_
        · exact (by repeat (first | exact trivial | refine And.intro (by first | exact lv_of hO (by cbv <;> rfl) (by trivial) | (cbv <;> rfl)) ?_))
        refine AnyE.run tok hO (by rfl) (by cbv <;> rfl) (by trivial) ?_
        refine AnyE.effK tok hO (by cbv <;> rfl) (by cbv <;> rfl) (by trivial) ?_ ?_
        · exact (by repeat (first | exact trivial | refine And.intro (by first | exact lv_of hO (by cbv <;> rfl) (by trivial) | (cbv <;> rfl)) ?_))
        refine AnyE.run tok hO (by rfl) (by cbv <;> rfl) (by trivial) ?_
        refine ⟨tabR [(2, 3), (4, 2), (5, 4)], ⟨⟨240, getT [(2, .lit (.int .u8 a)), (3, .lit (.int .u8 b)), (4, .ptr 0 0), (9, .ptr 1 0), (10, .lit (.int .i64 (Int.ofNat k))), (11, .ptr 4 0), (12, .ptr 5 0)]⟩, []⟩, thS4 d t GA (nl3) [], ?_, rfl, _, rfl, ⟨rfl, rfl, rfl, rfl, rfl, rfl, rfl, trivial⟩, rfl⟩
        exact WeakR.tab rfl rfl (by simp) (by rfl) (by show 2 ≤ 6; omega) (by rfl) ⟨RenV.closed Below.lit, RenV.closed Below.lit, RenV.ptr (by omega), RenV.ptr (by omega), RenV.closed Below.lit, RenV.ptr (by omega), RenV.ptr (by omega), trivial⟩ ⟨⟨by omega, _, rfl, .cells (.cons (RenV.closed (intsV_below _ _ _)) (.cons (RenV.closed Below.lit) .nil)), rfl⟩, ⟨by omega, _, rfl, .cells (.cons (RenV.sl (by omega)) (.cons (RenV.closed (intsV_below _ _ _)) .nil)), rfl⟩, ⟨by omega, _, rfl, .cells (RenVs.closed hGAb), rfl⟩, ⟨by omega, _, rfl, .cells (RenVs.closed (truC_below t)), rfl⟩, ⟨by omega, _, rfl, .cells (RenVs.closed (dayC_below d)), rfl⟩, trivial⟩
    · refine PickE.eff tok hO (by cbv <;> rfl) (by cbv <;> rfl) (by trivial) ?_ ?_
      · exact (by repeat (first | exact trivial | refine And.intro (by first | exact lv_of hO (by cbv <;> rfl) (by trivial) | (cbv <;> rfl)) ?_))
      refine AnyE.run tok hO (by rfl) (by cbv <;> rfl) (by trivial) ?_
      refine AnyE.many [2] (by cbv <;> rfl) (by rfl) ⟨?_, trivial⟩
      · refine PickE.callE en30 (hcA _) (by cbv <;> rfl) (by cbv <;> rfl) ?_
        rintro r st' ⟨rfl, rfl⟩
        refine ⟨?_, ?_⟩
        · exact (by repeat (first | exact trivial | refine And.intro (by first | exact lv_of hO (by cbv <;> rfl) (by trivial) | (cbv <;> rfl)) ?_))
        refine AnyE.run tok hO (by rfl) (by cbv <;> rfl) (by trivial) ?_
        refine AnyE.callP hcB (by cbv <;> rfl) (by cbv <;> rfl) ?_
        refine AnyE.run tok hO (by rfl) (by cbv <;> rfl) (by trivial) ?_
        refine AnyE.effK tok hO (by cbv <;> rfl) (by cbv <;> rfl) (by trivial) ?_ ?_
        · exact (by repeat (first | exact trivial | refine And.intro (by first | exact lv_of hO (by cbv <;> rfl) (by trivial) | (cbv <;> rfl)) ?_))
        refine AnyE.run tok hO (by rfl) (by cbv <;> rfl) (by trivial) ?_
        refine AnyE.effK tok hO (by cbv <;> rfl) (by cbv <;> rfl) (by trivial) ?_ ?_
        · exact (by repeat (first | exact trivial | refine And.intro (by first | exact lv_of hO (by cbv <;> rfl) (by trivial) | (cbv <;> rfl)) ?_))
        refine AnyE.run tok hO (by rfl) (by cbv <;> rfl) (by trivial) ?_
        refine ⟨tabR [(2, 4), (4, 2), (5, 3)], ⟨⟨240, getT [(2, .lit (.int .u8 a)), (3, .lit (.int .u8 b)), (4, .ptr 0 0), (9, .ptr 1 0), (10, .lit (.int .i64 (Int.ofNat k))), (11, .ptr 4 0), (12, .ptr 5 0)]⟩, []⟩, thS4 d t GA (nl3) [], ?_, rfl, _, rfl, ⟨rfl, rfl, rfl, rfl, rfl, rfl, rfl, trivial⟩, rfl⟩
        exact WeakR.tab rfl rfl (by simp) (by rfl) (by show 2 ≤ 6; omega) (by rfl) ⟨RenV.closed Below.lit, RenV.closed Below.lit, RenV.ptr (by omega), RenV.ptr (by omega), RenV.closed Below.lit, RenV.ptr (by omega), RenV.ptr (by omega), trivial⟩ ⟨⟨by omega, _, rfl, .cells (.cons (RenV.closed (intsV_below _ _ _)) (.cons (RenV.closed Below.lit) .nil)), rfl⟩, ⟨by omega, _, rfl, .cells (.cons (RenV.sl (by omega)) (.cons (RenV.closed (intsV_below _ _ _)) .nil)), rfl⟩, ⟨by omega, _, rfl, .cells (RenVs.closed hGAb), rfl⟩, ⟨by omega, _, rfl, .cells (RenVs.closed (truC_below t)), rfl⟩, ⟨by omega, _, rfl, .cells (RenVs.closed (dayC_below d)), rfl⟩, trivial⟩
  · refine PickE.eff tok hO (by cbv <;> rfl) (by cbv <;> rfl) (by trivial) ?_ ?_
    · exact (by repeat (first | exact trivial | refine And.intro (by first | exact lv_of hO (by cbv <;> rfl) (by trivial) | (cbv <;> rfl)) ?_))
    refine AnyE.run tok hO (by rfl) (by cbv <;> rfl) (by trivial) ?_
    refine AnyE.many [2, 12] (by cbv <;> rfl) (by rfl) ⟨?_, ?_, trivial⟩
    · refine PickE.callE en30 (hcA _) (by cbv <;> rfl) (by cbv <;> rfl) ?_
      rintro r st' ⟨rfl, rfl⟩
      refine ⟨?_, ?_⟩
      · exact (by repeat (first | exact trivial | refine And.intro (by first | exact lv_of hO (by cbv <;> rfl) (by trivial) | (cbv <;> rfl)) ?_))
      refine AnyE.run tok hO (by rfl) (by cbv <;> rfl) (by trivial) ?_
      refine AnyE.many [10, 12] (by cbv <;> rfl) (by rfl) ⟨?_, ?_, trivial⟩
      · refine PickE.callQ hcB (by cbv <;> rfl) (by cbv <;> rfl) ?_ ?_
        · exact (by repeat (first | exact trivial | refine And.intro (by first | exact lv_of hO (by cbv <;> rfl) (by trivial) | (cbv <;> rfl)) ?_))
        refine AnyE.run tok hO (by rfl) (by cbv <;> rfl) (by trivial) ?_
        refine AnyE.effK tok hO (by cbv <;> rfl) (by cbv <;> rfl) (by trivial) ?_ ?_
        · exact (by repeat (first | exact trivial | refine And.intro (by first | exact lv_of hO (by cbv <;> rfl) (by trivial) | (cbv <;> rfl)) ?_))
        refine AnyE.run tok hO (by rfl) (by cbv <;> rfl) (by trivial) ?_
        refine AnyE.effK tok hO (by cbv <;> rfl) (by cbv <;> rfl) (by trivial) ?_ ?_
        · exact (by repeat (first | exact trivial | refine And.intro (by first | exact lv_of hO (by cbv <;> rfl) (by trivial) | (cbv <;> rfl)) ?_))
        refine AnyE.run tok hO (by rfl) (by cbv <;> rfl) (by trivial) ?_
        refine AnyE.effK tok hO (by cbv <;> rfl) (by cbv <;> rfl) (by trivial) ?_ ?_
        · exact (by repeat (first | exact trivial | refine And.intro (by first | exact lv_of hO (by cbv <;> rfl) (by trivial) | (cbv <;> rfl)) ?_))
        refine AnyE.run tok hO (by rfl) (by cbv <;> rfl) (by trivial) ?_
        refine ⟨tabR [(2, 3), (4, 4), (5, 2)], ⟨⟨240, getT [(2, .lit (.int .u8 a)), (3, .lit (.int .u8 b)), (4, .ptr 0 0), (9, .ptr 1 0), (10, .lit (.int .i64 (Int.ofNat k))), (11, .ptr 4 0), (12, .ptr 5 0)]⟩, []⟩, thS4 d t GA (nl3) [], ?_, rfl, _, rfl, ⟨rfl, rfl, rfl, rfl, rfl, rfl, rfl, trivial⟩, rfl⟩
        exact WeakR.tab rfl rfl (by simp) (by rfl) (by show 2 ≤ 6; omega) (by rfl) ⟨RenV.closed Below.lit, RenV.closed Below.lit, RenV.ptr (by omega), RenV.ptr (by omega), RenV.closed Below.lit, RenV.ptr (by omega), RenV.ptr (by omega), trivial⟩ ⟨⟨by omega, _, rfl, .cells (.cons (RenV.closed (intsV_below _ _ _)) (.cons (RenV.closed Below.lit) .nil)), rfl⟩, ⟨by omega, _, rfl, .cells (.cons (RenV.sl (by omega)) (.cons (RenV.closed (intsV_below _ _ _)) .nil)), rfl⟩, ⟨by omega, _, rfl, .cells (RenVs.closed hGAb), rfl⟩, ⟨by omega, _, rfl, .cells (RenVs.closed (truC_below t)), rfl⟩, ⟨by omega, _, rfl, .cells (RenVs.closed (dayC_below d)), rfl⟩, trivial⟩
      · refine PickE.eff tok hO (by cbv <;> rfl) (by cbv <;> rfl) (by trivial) ?_ ?_
        · exact (by repeat (first | exact trivial | refine And.intro (by first | exact lv_of hO (by cbv <;> rfl) (by trivial) | (cbv <;> rfl)) ?_))
        refine AnyE.run tok hO (by rfl) (by cbv <;> rfl) (by trivial) ?_
        refine AnyE.callP hcB (by cbv <;> rfl) (by cbv <;> rfl) ?_
        refine AnyE.run tok hO (by rfl) (by cbv <;> rfl) (by trivial) ?_
        refine AnyE.effK tok hO (by cbv <;> rfl) (by cbv <;> rfl) (by trivial) ?_ ?_
        · exact (by repeat (first | exact trivial | refine And.intro (by first | exact lv_of hO (by cbv <;> rfl) (by trivial) | (cbv <;> rfl)) ?_))
        refine AnyE.run tok hO (by rfl) (by cbv <;> rfl) (by trivial) ?_
        refine AnyE.effK tok hO (by cbv <;> rfl) (by cbv <;> rfl) (by trivial) ?_ ?_
        · exact (by repeat (first | exact trivial | refine And.intro (by first | exact lv_of hO (by cbv <;> rfl) (by trivial) | (cbv <;> rfl)) ?_))
        refine AnyE.run tok hO (by rfl) (by cbv <;> rfl) (by trivial) ?_
        refine ⟨tabR [(2, 3), (4, 4), (5, 2)], ⟨⟨240, getT [(2, .lit (.int .u8 a)), (3, .lit (.int .u8 b)), (4, .ptr 0 0), (9, .ptr 1 0), (10, .lit (.int .i64 (Int.ofNat k))), (11, .ptr 4 0), (12, .ptr 5 0)]⟩, []⟩, thS4 d t GA (nl3) [], ?_, rfl, _, rfl, ⟨rfl, rfl, rfl, rfl, rfl, rfl, rfl, trivial⟩, rfl⟩
        exact WeakR.tab rfl rfl (by simp) (by rfl) (by show 2 ≤ 6; omega) (by rfl) ⟨RenV.closed Below.lit, RenV.closed Below.lit, RenV.ptr (by omega), RenV.ptr (by omega), RenV.closed Below.lit, RenV.ptr (by omega), RenV.ptr (by omega), trivial⟩ ⟨⟨by omega, _, rfl, .cells (.cons (RenV.closed (intsV_below _ _ _)) (.cons (RenV.closed Below.lit) .nil)), rfl⟩, ⟨by omega, _, rfl, .cells (.cons (RenV.sl (by omega)) (.cons (RenV.closed (intsV_below _ _ _)) .nil)), rfl⟩, ⟨by omega, _, rfl, .cells (RenVs.closed hGAb), rfl⟩, ⟨by omega, _, rfl, .cells (RenVs.closed (truC_below t)), rfl⟩, ⟨by omega, _, rfl, .cells (RenVs.closed (dayC_below d)), rfl⟩, trivial⟩
    · refine PickE.eff tok hO (by cbv <;> rfl) (by cbv <;> rfl) (by trivial) ?_ ?_
      · exact (by repeat (first | exact trivial | refine And.intro (by first | exact lv_of hO (by cbv <;> rfl) (by trivial) | (cbv <;> rfl)) ?_))
      refine AnyE.run tok hO (by rfl) (by cbv <;> rfl) (by trivial) ?_
      refine AnyE.many [2] (by cbv <;> rfl) (by rfl) ⟨?_, trivial⟩
      · refine PickE.callE en30 (hcA _) (by cbv <;> rfl) (by cbv <;> rfl) ?_
        rintro r st' ⟨rfl, rfl⟩
        refine ⟨?_, ?_⟩
        · exact (by repeat (first | exact trivial | refine And.intro (by first | exact lv_of hO (by cbv <;> rfl) (by trivial) | (cbv <;> rfl)) ?_))
        refine AnyE.run tok hO (by rfl) (by cbv <;> rfl) (by trivial) ?_
        refine AnyE.callP hcB (by cbv <;> rfl) (by cbv <;> rfl) ?_
        refine AnyE.run tok hO (by rfl) (by cbv <;> rfl) (by trivial) ?_
        refine AnyE.effK tok hO (by cbv <;> rfl) (by cbv <;> rfl) (by trivial) ?_ ?_
        · exact (by repeat (first | exact trivial | refine And.intro (by first | exact lv_of hO (by cbv <;> rfl) (by trivial) | (cbv <;> rfl)) ?_))
        refine AnyE.run tok hO (by rfl) (by cbv <;> rfl) (by trivial) ?_
        refine AnyE.effK tok hO (by cbv <;> rfl) (by cbv <;> rfl) (by trivial) ?_ ?_
        · exact (by repeat (first | exact trivial | refine And.intro (by first | exact lv_of hO (by cbv <;> rfl) (by trivial) | (cbv <;> rfl)) ?_))
        refine AnyE.run tok hO (by rfl) (by cbv <;> rfl) (by trivial) ?_
        refine ⟨tabR [(2, 4), (4, 3), (5, 2)], ⟨⟨240, getT [(2, .lit (.int .u8 a)), (3, .lit (.int .u8 b)), (4, .ptr 0 0), (9, .ptr 1 0), (10, .lit (.int .i64 (Int.ofNat k))), (11, .ptr 4 0), (12, .ptr 5 0)]⟩, []⟩, thS4 d t GA (nl3) [], ?_, rfl, _, rfl, ⟨rfl, rfl, rfl, rfl, rfl, rfl, rfl, trivial⟩, rfl⟩
        exact WeakR.tab rfl rfl (by simp) (by rfl) (by show 2 ≤ 6; omega) (by rfl) ⟨RenV.closed Below.lit, RenV.closed Below.lit, RenV.ptr (by omega), RenV.ptr (by omega), RenV.closed Below.lit, RenV.ptr (by omega), RenV.ptr (by omega), trivial⟩ ⟨⟨by omega, _, rfl, .cells (.cons (RenV.closed (intsV_below _ _ _)) (.cons (RenV.closed Below.lit) .nil)), rfl⟩, ⟨by omega, _, rfl, .cells (.cons (RenV.sl (by omega)) (.cons (RenV.closed (intsV_below _ _ _)) .nil)), rfl⟩, ⟨by omega, _, rfl, .cells (RenVs.closed hGAb), rfl⟩, ⟨by omega, _, rfl, .cells (RenVs.closed (truC_below t)), rfl⟩, ⟨by omega, _, rfl, .cells (RenVs.closed (dayC_below d)), rfl⟩, trivial⟩
end Go.Fz
