/- Own work of the verifier of watercress: FzB12. -/
import Derived.Test.YtpaifaemkoblcaaNa32
set_option linter.unusedVariables false
set_option linter.unusedSimpArgs false
set_option linter.unusedVariables false
namespace Go.Fz
open Go.Proofs
set_option maxRecDepth 100000
noncomputable def findRg (k : Nat) : Code → Option Code
  | .region id ops d => match Nat.beq id k with
    | true => some (.region id ops d)
    | false => none
  | .seq x y => match findRg k x with
    | some p => some p
    | none => findRg k y
  | .cond _ x y => match findRg k x with
    | some p => some p
    | none => findRg k y
  | .block _ x => findRg k x
  | .loop x => findRg k x
  | _ => none
noncomputable def rgC (k : Nat) (c : Code) : Code := match findRg k c with
  | some p => p
  | none => .skip
def fgM (N c : Nat) (gg : Nat → Nat → AV) : List (Nat × AV) := [(3, .ptr 0 0), (8, .ptr 1 0), (10, .ptr 2 0), (11, .ptr 3 0), (39, .isl N 1 false gg), (40, iV N), (41, iV c), (14, .ptr 4 0), (15, .ptr 5 0)]
set_option maxHeartbeats 16000000 in
theorem fg_r9 {f : FarmD} {N c : Nat} {gg : Nat → Nat → AV} {KK KM : Nat → Int} {M : Nat → Bool} {V W : Wat} {m : Nat} {fl : Nat → Int} (hlb : Below 0 (.isl N 1 false gg)) (e1 : Pure Try.prog 68 [workV f (.isl N 1 false gg) KK, intsV m false fl] (watersV V)) (e2 : Pure Try.prog 68 [workV f (.isl N 1 false gg) KM, intsV m false fl] (watersV W)) (g : Nat → AV) (h : AllP (fun p => g p.1 = p.2) ((13, intsV m false fl) :: [(3, .ptr 0 0), (8, .ptr 1 0), (10, .ptr 2 0), (11, .ptr 3 0), (39, .isl N 1 false gg), (40, iV N), (41, iV c)])) :
    SW Try.prog none (rgC 9 (bodyF Try.f39)) (midK 94 (fgM N c gg) ⟨[(5, .cells none false (cells24 W)), (4, .cells none false (cells24 V)), (3, .cells none false (cells8B M)), (2, .cells none false (workC f (.isl N 1 false gg) KM)), (1, .cells none false (workC f (.isl N 1 false gg) KK)), (0, .cells none false (farmL f))], 6⟩) ⟨⟨94, g⟩, []⟩ ⟨[(3, .cells none false (cells8B M)), (2, .cells none false (workC f (.isl N 1 false gg) KM)), (1, .cells none false (workC f (.isl N 1 false gg) KK)), (0, .cells none false (farmL f))], 4⟩ := by
  obtain ⟨O, hO⟩ : ∃ O : Ar, O = std := ⟨_, rfl⟩
  have hc1 := workC_below' f 0 (.isl N 1 false gg) KM hlb
  have hc2 := workC_below' f 0 (.isl N 1 false gg) KK hlb
  obtain ⟨g13, g3, g8, g10, g11, g39, g40, g41, _⟩ := h
  simp only at g13 g3 g8 g10 g11 g39 g40 g41
  rw [← updT_self g3, ← updT_self g8, ← updT_self g10, ← updT_self g11, ← updT_self g39, ← updT_self g40, ← updT_self g41, ← updT_self g13]
  refine SW.ren ?_
  refine SW.runD tok mixed hO (by rfl) (by cbv <;> rfl) (by trivial) ?_
  refine AnyE.many [2, 6, 7] (by cbv <;> rfl) (by rfl) ⟨?_, ?_, ?_, trivial⟩
  · refine PickE.callQ e1 (by cbv <;> rfl) (by cbv <;> rfl) ?_ ?_
    · exact (by repeat (first | exact trivial | refine And.intro (by first | exact lv_of hO (by cbv <;> rfl) (by trivial) | (cbv <;> rfl)) ?_))
    refine AnyE.run tok hO (by rfl) (by cbv <;> rfl) (by trivial) ?_
    refine AnyE.many [5, 6, 7] (by cbv <;> rfl) (by rfl) ⟨?_, ?_, ?_, trivial⟩
    · refine PickE.callQ e2 (by cbv <;> rfl) (by cbv <;> rfl) ?_ ?_
      · exact (by repeat (first | exact trivial | refine And.intro (by first | exact lv_of hO (by cbv <;> rfl) (by trivial) | (cbv <;> rfl)) ?_))
      refine AnyE.run tok hO (by rfl) (by cbv <;> rfl) (by trivial) ?_
      refine AnyE.many [6, 7] (by cbv <;> rfl) (by rfl) ⟨?_, ?_, trivial⟩
      · refine PickE.eff tok hO (by cbv <;> rfl) (by cbv <;> rfl) (by trivial) ?_ ?_
        · exact (by repeat (first | exact trivial | refine And.intro (by first | exact lv_of hO (by cbv <;> rfl) (by trivial) | (cbv <;> rfl)) ?_))
        refine AnyE.run tok hO (by rfl) (by cbv <;> rfl) (by trivial) ?_
        refine AnyE.effK tok hO (by cbv <;> rfl) (by cbv <;> rfl) (by trivial) ?_ ?_
        · exact (by repeat (first | exact trivial | refine And.intro (by first | exact lv_of hO (by cbv <;> rfl) (by trivial) | (cbv <;> rfl)) ?_))
        refine AnyE.run tok hO (by rfl) (by cbv <;> rfl) (by trivial) ?_
        refine AnyE.effK tok hO (by cbv <;> rfl) (by cbv <;> rfl) (by trivial) ?_ ?_
        · exact (by repeat (first | exact trivial | refine And.intro (by first | exact lv_of hO (by cbv <;> rfl) (by trivial) | (cbv <;> rfl)) ?_))
        refine AnyE.run tok hO (by rfl) (by cbv <;> rfl) (by trivial) ?_
        refine AnyE.effK tok hO (by cbv <;> rfl) (by cbv <;> rfl) (by trivial) ?_ ?_
        · exact (by repeat (first | exact trivial | refine And.intro (by first | exact lv_of hO (by cbv <;> rfl) (by trivial) | (cbv <;> rfl)) ?_))
        refine AnyE.run tok hO (by rfl) (by cbv <;> rfl) (by trivial) ?_
        refine ⟨tabR [], ⟨⟨94, getT (fgM N c gg)⟩, []⟩, ⟨[(5, .cells none false (cells24 W)), (4, .cells none false (cells24 V)), (3, .cells none false (cells8B M)), (2, .cells none false (workC f (.isl N 1 false gg) KM)), (1, .cells none false (workC f (.isl N 1 false gg) KK)), (0, .cells none false (farmL f))], 6⟩, ?_, rfl, _, rfl, ⟨rfl, rfl, rfl, rfl, rfl, rfl, rfl, rfl, rfl, trivial⟩, rfl⟩
        exact WeakR.tab rfl rfl (by simp) (by rfl) (by show 4 ≤ 6; omega) (by rfl) ⟨RenV.ptr (by omega), RenV.ptr (by omega), RenV.ptr (by omega), RenV.ptr (by omega), RenV.closed hlb, RenV.closed Below.lit, RenV.closed Below.lit, RenV.ptr (by omega), RenV.ptr (by omega), trivial⟩ ⟨⟨by omega, _, rfl, .cells (RenVs.closed (cells24_below 0 W)), rfl⟩, ⟨by omega, _, rfl, .cells (RenVs.closed (cells24_below 0 V)), rfl⟩, ⟨by omega, _, rfl, .cells (RenVs.closed (cells8B_below 0 M)), rfl⟩, ⟨by omega, _, rfl, .cells (RenVs.closed hc1), rfl⟩, ⟨by omega, _, rfl, .cells (RenVs.closed hc2), rfl⟩, ⟨by omega, _, rfl, .cells (RenVs.closed (farmL_below f)), rfl⟩, trivial⟩
      · refine PickE.eff tok hO (by cbv <;> rfl) (by cbv <;> rfl) (by trivial) ?_ ?_
        · exact (by repeat (first | exact trivial | refine And.intro (by first | exact lv_of hO (by cbv <;> rfl) (by trivial) | (cbv <;> rfl)) ?_))
        refine AnyE.run tok hO (by rfl) (by cbv <;> rfl) (by trivial) ?_
        refine AnyE.effK tok hO (by cbv <;> rfl) (by cbv <;> rfl) (by trivial) ?_ ?_
        · exact (by repeat (first | exact trivial | refine And.intro (by first | exact lv_of hO (by cbv <;> rfl) (by trivial) | (cbv <;> rfl)) ?_))
        refine AnyE.run tok hO (by rfl) (by cbv <;> rfl) (by trivial) ?_
        refine AnyE.effK tok hO (by cbv <;> rfl) (by cbv <;> rfl) (by trivial) ?_ ?_
        · exact (by repeat (first | exact trivial | refine And.intro (by first | exact lv_of hO (by cbv <;> rfl) (by trivial) | (cbv <;> rfl)) ?_))
        refine AnyE.run tok hO (by rfl) (by cbv <;> rfl) (by trivial) ?_
        refine AnyE.effK tok hO (by cbv <;> rfl) (by cbv <;> rfl) (by trivial) ?_ ?_
        · exact (by repeat (first | exact trivial | refine And.intro (by first | exact lv_of hO (by cbv <;> rfl) (by trivial) | (cbv <;> rfl)) ?_))
        refine AnyE.run tok hO (by rfl) (by cbv <;> rfl) (by trivial) ?_
        refine ⟨tabR [(4, 5), (5, 4)], ⟨⟨94, getT (fgM N c gg)⟩, []⟩, ⟨[(5, .cells none false (cells24 W)), (4, .cells none false (cells24 V)), (3, .cells none false (cells8B M)), (2, .cells none false (workC f (.isl N 1 false gg) KM)), (1, .cells none false (workC f (.isl N 1 false gg) KK)), (0, .cells none false (farmL f))], 6⟩, ?_, rfl, _, rfl, ⟨rfl, rfl, rfl, rfl, rfl, rfl, rfl, rfl, rfl, trivial⟩, rfl⟩
        exact WeakR.tab rfl rfl (by simp) (by rfl) (by show 4 ≤ 6; omega) (by rfl) ⟨RenV.ptr (by omega), RenV.ptr (by omega), RenV.ptr (by omega), RenV.ptr (by omega), RenV.closed hlb, RenV.closed Below.lit, RenV.closed Below.lit, RenV.ptr (by omega), RenV.ptr (by omega), trivial⟩ ⟨⟨by omega, _, rfl, .cells (RenVs.closed (cells24_below 0 W)), rfl⟩, ⟨by omega, _, rfl, .cells (RenVs.closed (cells24_below 0 V)), rfl⟩, ⟨by omega, _, rfl, .cells (RenVs.closed (cells8B_below 0 M)), rfl⟩, ⟨by omega, _, rfl, .cells (RenVs.closed hc1), rfl⟩, ⟨by omega, _, rfl, .cells (RenVs.closed hc2), rfl⟩, ⟨by omega, _, rfl, .cells (RenVs.closed (farmL_below f)), rfl⟩, trivial⟩
    · refine PickE.eff tok hO (by cbv <;> rfl) (by cbv <;> rfl) (by trivial) ?_ ?_
      · exact (by repeat (first | exact trivial | refine And.intro (by first | exact lv_of hO (by cbv <;> rfl) (by trivial) | (cbv <;> rfl)) ?_))
      refine AnyE.run tok hO (by rfl) (by cbv <;> rfl) (by trivial) ?_
      refine AnyE.many [5, 7] (by cbv <;> rfl) (by rfl) ⟨?_, ?_, trivial⟩
      · refine PickE.callQ e2 (by cbv <;> rfl) (by cbv <;> rfl) ?_ ?_
        · exact (by repeat (first | exact trivial | refine And.intro (by first | exact lv_of hO (by cbv <;> rfl) (by trivial) | (cbv <;> rfl)) ?_))
        refine AnyE.run tok hO (by rfl) (by cbv <;> rfl) (by trivial) ?_
        refine AnyE.effK tok hO (by cbv <;> rfl) (by cbv <;> rfl) (by trivial) ?_ ?_
        · exact (by repeat (first | exact trivial | refine And.intro (by first | exact lv_of hO (by cbv <;> rfl) (by trivial) | (cbv <;> rfl)) ?_))
        refine AnyE.run tok hO (by rfl) (by cbv <;> rfl) (by trivial) ?_
        refine AnyE.effK tok hO (by cbv <;> rfl) (by cbv <;> rfl) (by trivial) ?_ ?_
        · exact (by repeat (first | exact trivial | refine And.intro (by first | exact lv_of hO (by cbv <;> rfl) (by trivial) | (cbv <;> rfl)) ?_))
        refine AnyE.run tok hO (by rfl) (by cbv <;> rfl) (by trivial) ?_
        refine AnyE.effK tok hO (by cbv <;> rfl) (by cbv <;> rfl) (by trivial) ?_ ?_
        · exact (by repeat (first | exact trivial | refine And.intro (by first | exact lv_of hO (by cbv <;> rfl) (by trivial) | (cbv <;> rfl)) ?_))
        refine AnyE.run tok hO (by rfl) (by cbv <;> rfl) (by trivial) ?_
        refine ⟨tabR [], ⟨⟨94, getT (fgM N c gg)⟩, []⟩, ⟨[(5, .cells none false (cells24 W)), (4, .cells none false (cells24 V)), (3, .cells none false (cells8B M)), (2, .cells none false (workC f (.isl N 1 false gg) KM)), (1, .cells none false (workC f (.isl N 1 false gg) KK)), (0, .cells none false (farmL f))], 6⟩, ?_, rfl, _, rfl, ⟨rfl, rfl, rfl, rfl, rfl, rfl, rfl, rfl, rfl, trivial⟩, rfl⟩
        exact WeakR.tab rfl rfl (by simp) (by rfl) (by show 4 ≤ 6; omega) (by rfl) ⟨RenV.ptr (by omega), RenV.ptr (by omega), RenV.ptr (by omega), RenV.ptr (by omega), RenV.closed hlb, RenV.closed Below.lit, RenV.closed Below.lit, RenV.ptr (by omega), RenV.ptr (by omega), trivial⟩ ⟨⟨by omega, _, rfl, .cells (RenVs.closed (cells24_below 0 W)), rfl⟩, ⟨by omega, _, rfl, .cells (RenVs.closed (cells24_below 0 V)), rfl⟩, ⟨by omega, _, rfl, .cells (RenVs.closed (cells8B_below 0 M)), rfl⟩, ⟨by omega, _, rfl, .cells (RenVs.closed hc1), rfl⟩, ⟨by omega, _, rfl, .cells (RenVs.closed hc2), rfl⟩, ⟨by omega, _, rfl, .cells (RenVs.closed (farmL_below f)), rfl⟩, trivial⟩
      · refine PickE.eff tok hO (by cbv <;> rfl) (by cbv <;> rfl) (by trivial) ?_ ?_
        · exact (by repeat (first | exact trivial | refine And.intro (by first | exact lv_of hO (by cbv <;> rfl) (by trivial) | (cbv <;> rfl)) ?_))
        refine AnyE.run tok hO (by rfl) (by cbv <;> rfl) (by trivial) ?_
        refine AnyE.callP e2 (by cbv <;> rfl) (by cbv <;> rfl) ?_
        refine AnyE.run tok hO (by rfl) (by cbv <;> rfl) (by trivial) ?_
        refine AnyE.effK tok hO (by cbv <;> rfl) (by cbv <;> rfl) (by trivial) ?_ ?_
        · exact (by repeat (first | exact trivial | refine And.intro (by first | exact lv_of hO (by cbv <;> rfl) (by trivial) | (cbv <;> rfl)) ?_))
        refine AnyE.run tok hO (by rfl) (by cbv <;> rfl) (by trivial) ?_
        refine AnyE.effK tok hO (by cbv <;> rfl) (by cbv <;> rfl) (by trivial) ?_ ?_
        · exact (by repeat (first | exact trivial | refine And.intro (by first | exact lv_of hO (by cbv <;> rfl) (by trivial) | (cbv <;> rfl)) ?_))
        refine AnyE.run tok hO (by rfl) (by cbv <;> rfl) (by trivial) ?_
        refine ⟨tabR [], ⟨⟨94, getT (fgM N c gg)⟩, []⟩, ⟨[(5, .cells none false (cells24 W)), (4, .cells none false (cells24 V)), (3, .cells none false (cells8B M)), (2, .cells none false (workC f (.isl N 1 false gg) KM)), (1, .cells none false (workC f (.isl N 1 false gg) KK)), (0, .cells none false (farmL f))], 6⟩, ?_, rfl, _, rfl, ⟨rfl, rfl, rfl, rfl, rfl, rfl, rfl, rfl, rfl, trivial⟩, rfl⟩
        exact WeakR.tab rfl rfl (by simp) (by rfl) (by show 4 ≤ 6; omega) (by rfl) ⟨RenV.ptr (by omega), RenV.ptr (by omega), RenV.ptr (by omega), RenV.ptr (by omega), RenV.closed hlb, RenV.closed Below.lit, RenV.closed Below.lit, RenV.ptr (by omega), RenV.ptr (by omega), trivial⟩ ⟨⟨by omega, _, rfl, .cells (RenVs.closed (cells24_below 0 W)), rfl⟩, ⟨by omega, _, rfl, .cells (RenVs.closed (cells24_below 0 V)), rfl⟩, ⟨by omega, _, rfl, .cells (RenVs.closed (cells8B_below 0 M)), rfl⟩, ⟨by omega, _, rfl, .cells (RenVs.closed hc1), rfl⟩, ⟨by omega, _, rfl, .cells (RenVs.closed hc2), rfl⟩, ⟨by omega, _, rfl, .cells (RenVs.closed (farmL_below f)), rfl⟩, trivial⟩
    · refine PickE.eff tok hO (by cbv <;> rfl) (by cbv <;> rfl) (by trivial) ?_ ?_
      · exact (by repeat (first | exact trivial | refine And.intro (by first | exact lv_of hO (by cbv <;> rfl) (by trivial) | (cbv <;> rfl)) ?_))
      refine AnyE.run tok hO (by rfl) (by cbv <;> rfl) (by trivial) ?_
      refine AnyE.many [5, 6] (by cbv <;> rfl) (by rfl) ⟨?_, ?_, trivial⟩
      · refine PickE.callQ e2 (by cbv <;> rfl) (by cbv <;> rfl) ?_ ?_
        · exact (by repeat (first | exact trivial | refine And.intro (by first | exact lv_of hO (by cbv <;> rfl) (by trivial) | (cbv <;> rfl)) ?_))
        refine AnyE.run tok hO (by rfl) (by cbv <;> rfl) (by trivial) ?_
        refine AnyE.effK tok hO (by cbv <;> rfl) (by cbv <;> rfl) (by trivial) ?_ ?_
        · exact (by repeat (first | exact trivial | refine And.intro (by first | exact lv_of hO (by cbv <;> rfl) (by trivial) | (cbv <;> rfl)) ?_))
        refine AnyE.run tok hO (by rfl) (by cbv <;> rfl) (by trivial) ?_
        refine AnyE.effK tok hO (by cbv <;> rfl) (by cbv <;> rfl) (by trivial) ?_ ?_
        · exact (by repeat (first | exact trivial | refine And.intro (by first | exact lv_of hO (by cbv <;> rfl) (by trivial) | (cbv <;> rfl)) ?_))
        refine AnyE.run tok hO (by rfl) (by cbv <;> rfl) (by trivial) ?_
        refine AnyE.effK tok hO (by cbv <;> rfl) (by cbv <;> rfl) (by trivial) ?_ ?_
        · exact (by repeat (first | exact trivial | refine And.intro (by first | exact lv_of hO (by cbv <;> rfl) (by trivial) | (cbv <;> rfl)) ?_))
        refine AnyE.run tok hO (by rfl) (by cbv <;> rfl) (by trivial) ?_
        refine ⟨tabR [(4, 5), (5, 4)], ⟨⟨94, getT (fgM N c gg)⟩, []⟩, ⟨[(5, .cells none false (cells24 W)), (4, .cells none false (cells24 V)), (3, .cells none false (cells8B M)), (2, .cells none false (workC f (.isl N 1 false gg) KM)), (1, .cells none false (workC f (.isl N 1 false gg) KK)), (0, .cells none false (farmL f))], 6⟩, ?_, rfl, _, rfl, ⟨rfl, rfl, rfl, rfl, rfl, rfl, rfl, rfl, rfl, trivial⟩, rfl⟩
        exact WeakR.tab rfl rfl (by simp) (by rfl) (by show 4 ≤ 6; omega) (by rfl) ⟨RenV.ptr (by omega), RenV.ptr (by omega), RenV.ptr (by omega), RenV.ptr (by omega), RenV.closed hlb, RenV.closed Below.lit, RenV.closed Below.lit, RenV.ptr (by omega), RenV.ptr (by omega), trivial⟩ ⟨⟨by omega, _, rfl, .cells (RenVs.closed (cells24_below 0 W)), rfl⟩, ⟨by omega, _, rfl, .cells (RenVs.closed (cells24_below 0 V)), rfl⟩, ⟨by omega, _, rfl, .cells (RenVs.closed (cells8B_below 0 M)), rfl⟩, ⟨by omega, _, rfl, .cells (RenVs.closed hc1), rfl⟩, ⟨by omega, _, rfl, .cells (RenVs.closed hc2), rfl⟩, ⟨by omega, _, rfl, .cells (RenVs.closed (farmL_below f)), rfl⟩, trivial⟩
      · refine PickE.eff tok hO (by cbv <;> rfl) (by cbv <;> rfl) (by trivial) ?_ ?_
        · exact (by repeat (first | exact trivial | refine And.intro (by first | exact lv_of hO (by cbv <;> rfl) (by trivial) | (cbv <;> rfl)) ?_))
        refine AnyE.run tok hO (by rfl) (by cbv <;> rfl) (by trivial) ?_
        refine AnyE.callP e2 (by cbv <;> rfl) (by cbv <;> rfl) ?_
        refine AnyE.run tok hO (by rfl) (by cbv <;> rfl) (by trivial) ?_
        refine AnyE.effK tok hO (by cbv <;> rfl) (by cbv <;> rfl) (by trivial) ?_ ?_
        · exact (by repeat (first | exact trivial | refine And.intro (by first | exact lv_of hO (by cbv <;> rfl) (by trivial) | (cbv <;> rfl)) ?_))
        refine AnyE.run tok hO (by rfl) (by cbv <;> rfl) (by trivial) ?_
        refine AnyE.effK tok hO (by cbv <;> rfl) (by cbv <;> rfl) (by trivial) ?_ ?_
        · exact (by repeat (first | exact trivial | refine And.intro (by first | exact lv_of hO (by cbv <;> rfl) (by trivial) | (cbv <;> rfl)) ?_))
        refine AnyE.run tok hO (by rfl) (by cbv <;> rfl) (by trivial) ?_
        refine ⟨tabR [(4, 5), (5, 4)], ⟨⟨94, getT (fgM N c gg)⟩, []⟩, ⟨[(5, .cells none false (cells24 W)), (4, .cells none false (cells24 V)), (3, .cells none false (cells8B M)), (2, .cells none false (workC f (.isl N 1 false gg) KM)), (1, .cells none false (workC f (.isl N 1 false gg) KK)), (0, .cells none false (farmL f))], 6⟩, ?_, rfl, _, rfl, ⟨rfl, rfl, rfl, rfl, rfl, rfl, rfl, rfl, rfl, trivial⟩, rfl⟩
        exact WeakR.tab rfl rfl (by simp) (by rfl) (by show 4 ≤ 6; omega) (by rfl) ⟨RenV.ptr (by omega), RenV.ptr (by omega), RenV.ptr (by omega), RenV.ptr (by omega), RenV.closed hlb, RenV.closed Below.lit, RenV.closed Below.lit, RenV.ptr (by omega), RenV.ptr (by omega), trivial⟩ ⟨⟨by omega, _, rfl, .cells (RenVs.closed (cells24_below 0 W)), rfl⟩, ⟨by omega, _, rfl, .cells (RenVs.closed (cells24_below 0 V)), rfl⟩, ⟨by omega, _, rfl, .cells (RenVs.closed (cells8B_below 0 M)), rfl⟩, ⟨by omega, _, rfl, .cells (RenVs.closed hc1), rfl⟩, ⟨by omega, _, rfl, .cells (RenVs.closed hc2), rfl⟩, ⟨by omega, _, rfl, .cells (RenVs.closed (farmL_below f)), rfl⟩, trivial⟩
  · refine PickE.eff tok hO (by cbv <;> rfl) (by cbv <;> rfl) (by trivial) ?_ ?_
    · exact (by repeat (first | exact trivial | refine And.intro (by first | exact lv_of hO (by cbv <;> rfl) (by trivial) | (cbv <;> rfl)) ?_))
    refine AnyE.run tok hO (by rfl) (by cbv <;> rfl) (by trivial) ?_
    refine AnyE.many [2, 7] (by cbv <;> rfl) (by rfl) ⟨?_, ?_, trivial⟩
    · refine PickE.callQ e1 (by cbv <;> rfl) (by cbv <;> rfl) ?_ ?_
      · exact (by repeat (first | exact trivial | refine And.intro (by first | exact lv_of hO (by cbv <;> rfl) (by trivial) | (cbv <;> rfl)) ?_))
      refine AnyE.run tok hO (by rfl) (by cbv <;> rfl) (by trivial) ?_
      refine AnyE.many [5, 7] (by cbv <;> rfl) (by rfl) ⟨?_, ?_, trivial⟩
      · refine PickE.callQ e2 (by cbv <;> rfl) (by cbv <;> rfl) ?_ ?_
        · exact (by repeat (first | exact trivial | refine And.intro (by first | exact lv_of hO (by cbv <;> rfl) (by trivial) | (cbv <;> rfl)) ?_))
        refine AnyE.run tok hO (by rfl) (by cbv <;> rfl) (by trivial) ?_
        refine AnyE.effK tok hO (by cbv <;> rfl) (by cbv <;> rfl) (by trivial) ?_ ?_
        · exact (by repeat (first | exact trivial | refine And.intro (by first | exact lv_of hO (by cbv <;> rfl) (by trivial) | (cbv <;> rfl)) ?_))
        refine AnyE.run tok hO (by rfl) (by cbv <;> rfl) (by trivial) ?_
        refine AnyE.effK tok hO (by cbv <;> rfl) (by cbv <;> rfl) (by trivial) ?_ ?_
        · exact (by repeat (first | exact trivial | refine And.intro (by first | exact lv_of hO (by cbv <;> rfl) (by trivial) | (cbv <;> rfl)) ?_))
        refine AnyE.run tok hO (by rfl) (by cbv <;> rfl) (by trivial) ?_
        refine AnyE.effK tok hO (by cbv <;> rfl) (by cbv <;> rfl) (by trivial) ?_ ?_
        · exact (by repeat (first | exact trivial | refine And.intro (by first | exact lv_of hO (by cbv <;> rfl) (by trivial) | (cbv <;> rfl)) ?_))
        refine AnyE.run tok hO (by rfl) (by cbv <;> rfl) (by trivial) ?_
        refine ⟨tabR [], ⟨⟨94, getT (fgM N c gg)⟩, []⟩, ⟨[(5, .cells none false (cells24 W)), (4, .cells none false (cells24 V)), (3, .cells none false (cells8B M)), (2, .cells none false (workC f (.isl N 1 false gg) KM)), (1, .cells none false (workC f (.isl N 1 false gg) KK)), (0, .cells none false (farmL f))], 6⟩, ?_, rfl, _, rfl, ⟨rfl, rfl, rfl, rfl, rfl, rfl, rfl, rfl, rfl, trivial⟩, rfl⟩
        exact WeakR.tab rfl rfl (by simp) (by rfl) (by show 4 ≤ 6; omega) (by rfl) ⟨RenV.ptr (by omega), RenV.ptr (by omega), RenV.ptr (by omega), RenV.ptr (by omega), RenV.closed hlb, RenV.closed Below.lit, RenV.closed Below.lit, RenV.ptr (by omega), RenV.ptr (by omega), trivial⟩ ⟨⟨by omega, _, rfl, .cells (RenVs.closed (cells24_below 0 W)), rfl⟩, ⟨by omega, _, rfl, .cells (RenVs.closed (cells24_below 0 V)), rfl⟩, ⟨by omega, _, rfl, .cells (RenVs.closed (cells8B_below 0 M)), rfl⟩, ⟨by omega, _, rfl, .cells (RenVs.closed hc1), rfl⟩, ⟨by omega, _, rfl, .cells (RenVs.closed hc2), rfl⟩, ⟨by omega, _, rfl, .cells (RenVs.closed (farmL_below f)), rfl⟩, trivial⟩
      · refine PickE.eff tok hO (by cbv <;> rfl) (by cbv <;> rfl) (by trivial) ?_ ?_
        · exact (by repeat (first | exact trivial | refine And.intro (by first | exact lv_of hO (by cbv <;> rfl) (by trivial) | (cbv <;> rfl)) ?_))
        refine AnyE.run tok hO (by rfl) (by cbv <;> rfl) (by trivial) ?_
        refine AnyE.callP e2 (by cbv <;> rfl) (by cbv <;> rfl) ?_
        refine AnyE.run tok hO (by rfl) (by cbv <;> rfl) (by trivial) ?_
        refine AnyE.effK tok hO (by cbv <;> rfl) (by cbv <;> rfl) (by trivial) ?_ ?_
        · exact (by repeat (first | exact trivial | refine And.intro (by first | exact lv_of hO (by cbv <;> rfl) (by trivial) | (cbv <;> rfl)) ?_))
        refine AnyE.run tok hO (by rfl) (by cbv <;> rfl) (by trivial) ?_
        refine AnyE.effK tok hO (by cbv <;> rfl) (by cbv <;> rfl) (by trivial) ?_ ?_
        · exact (by repeat (first | exact trivial | refine And.intro (by first | exact lv_of hO (by cbv <;> rfl) (by trivial) | (cbv <;> rfl)) ?_))
        refine AnyE.run tok hO (by rfl) (by cbv <;> rfl) (by trivial) ?_
        refine ⟨tabR [], ⟨⟨94, getT (fgM N c gg)⟩, []⟩, ⟨[(5, .cells none false (cells24 W)), (4, .cells none false (cells24 V)), (3, .cells none false (cells8B M)), (2, .cells none false (workC f (.isl N 1 false gg) KM)), (1, .cells none false (workC f (.isl N 1 false gg) KK)), (0, .cells none false (farmL f))], 6⟩, ?_, rfl, _, rfl, ⟨rfl, rfl, rfl, rfl, rfl, rfl, rfl, rfl, rfl, trivial⟩, rfl⟩
        exact WeakR.tab rfl rfl (by simp) (by rfl) (by show 4 ≤ 6; omega) (by rfl) ⟨RenV.ptr (by omega), RenV.ptr (by omega), RenV.ptr (by omega), RenV.ptr (by omega), RenV.closed hlb, RenV.closed Below.lit, RenV.closed Below.lit, RenV.ptr (by omega), RenV.ptr (by omega), trivial⟩ ⟨⟨by omega, _, rfl, .cells (RenVs.closed (cells24_below 0 W)), rfl⟩, ⟨by omega, _, rfl, .cells (RenVs.closed (cells24_below 0 V)), rfl⟩, ⟨by omega, _, rfl, .cells (RenVs.closed (cells8B_below 0 M)), rfl⟩, ⟨by omega, _, rfl, .cells (RenVs.closed hc1), rfl⟩, ⟨by omega, _, rfl, .cells (RenVs.closed hc2), rfl⟩, ⟨by omega, _, rfl, .cells (RenVs.closed (farmL_below f)), rfl⟩, trivial⟩
    · refine PickE.eff tok hO (by cbv <;> rfl) (by cbv <;> rfl) (by trivial) ?_ ?_
      · exact (by repeat (first | exact trivial | refine And.intro (by first | exact lv_of hO (by cbv <;> rfl) (by trivial) | (cbv <;> rfl)) ?_))
      refine AnyE.run tok hO (by rfl) (by cbv <;> rfl) (by trivial) ?_
      refine AnyE.callP e1 (by cbv <;> rfl) (by cbv <;> rfl) ?_
      refine AnyE.run tok hO (by rfl) (by cbv <;> rfl) (by trivial) ?_
      refine AnyE.callP e2 (by cbv <;> rfl) (by cbv <;> rfl) ?_
      refine AnyE.run tok hO (by rfl) (by cbv <;> rfl) (by trivial) ?_
      refine AnyE.effK tok hO (by cbv <;> rfl) (by cbv <;> rfl) (by trivial) ?_ ?_
      · exact (by repeat (first | exact trivial | refine And.intro (by first | exact lv_of hO (by cbv <;> rfl) (by trivial) | (cbv <;> rfl)) ?_))
      refine AnyE.run tok hO (by rfl) (by cbv <;> rfl) (by trivial) ?_
      refine AnyE.effK tok hO (by cbv <;> rfl) (by cbv <;> rfl) (by trivial) ?_ ?_
      · exact (by repeat (first | exact trivial | refine And.intro (by first | exact lv_of hO (by cbv <;> rfl) (by trivial) | (cbv <;> rfl)) ?_))
      refine AnyE.run tok hO (by rfl) (by cbv <;> rfl) (by trivial) ?_
      refine ⟨tabR [], ⟨⟨94, getT (fgM N c gg)⟩, []⟩, ⟨[(5, .cells none false (cells24 W)), (4, .cells none false (cells24 V)), (3, .cells none false (cells8B M)), (2, .cells none false (workC f (.isl N 1 false gg) KM)), (1, .cells none false (workC f (.isl N 1 false gg) KK)), (0, .cells none false (farmL f))], 6⟩, ?_, rfl, _, rfl, ⟨rfl, rfl, rfl, rfl, rfl, rfl, rfl, rfl, rfl, trivial⟩, rfl⟩
      exact WeakR.tab rfl rfl (by simp) (by rfl) (by show 4 ≤ 6; omega) (by rfl) ⟨RenV.ptr (by omega), RenV.ptr (by omega), RenV.ptr (by omega), RenV.ptr (by omega), RenV.closed hlb, RenV.closed Below.lit, RenV.closed Below.lit, RenV.ptr (by omega), RenV.ptr (by omega), trivial⟩ ⟨⟨by omega, _, rfl, .cells (RenVs.closed (cells24_below 0 W)), rfl⟩, ⟨by omega, _, rfl, .cells (RenVs.closed (cells24_below 0 V)), rfl⟩, ⟨by omega, _, rfl, .cells (RenVs.closed (cells8B_below 0 M)), rfl⟩, ⟨by omega, _, rfl, .cells (RenVs.closed hc1), rfl⟩, ⟨by omega, _, rfl, .cells (RenVs.closed hc2), rfl⟩, ⟨by omega, _, rfl, .cells (RenVs.closed (farmL_below f)), rfl⟩, trivial⟩
  · refine PickE.eff tok hO (by cbv <;> rfl) (by cbv <;> rfl) (by trivial) ?_ ?_
    · exact (by repeat (first | exact trivial | refine And.intro (by first | exact lv_of hO (by cbv <;> rfl) (by trivial) | (cbv <;> rfl)) ?_))
    refine AnyE.run tok hO (by rfl) (by cbv <;> rfl) (by trivial) ?_
    refine AnyE.many [2, 6] (by cbv <;> rfl) (by rfl) ⟨?_, ?_, trivial⟩
    · refine PickE.callQ e1 (by cbv <;> rfl) (by cbv <;> rfl) ?_ ?_
      · exact (by repeat (first | exact trivial | refine And.intro (by first | exact lv_of hO (by cbv <;> rfl) (by trivial) | (cbv <;> rfl)) ?_))
      refine AnyE.run tok hO (by rfl) (by cbv <;> rfl) (by trivial) ?_
      refine AnyE.many [5, 6] (by cbv <;> rfl) (by rfl) ⟨?_, ?_, trivial⟩
      · refine PickE.callQ e2 (by cbv <;> rfl) (by cbv <;> rfl) ?_ ?_
        · exact (by repeat (first | exact trivial | refine And.intro (by first | exact lv_of hO (by cbv <;> rfl) (by trivial) | (cbv <;> rfl)) ?_))
        refine AnyE.run tok hO (by rfl) (by cbv <;> rfl) (by trivial) ?_
        refine AnyE.effK tok hO (by cbv <;> rfl) (by cbv <;> rfl) (by trivial) ?_ ?_
        · exact (by repeat (first | exact trivial | refine And.intro (by first | exact lv_of hO (by cbv <;> rfl) (by trivial) | (cbv <;> rfl)) ?_))
        refine AnyE.run tok hO (by rfl) (by cbv <;> rfl) (by trivial) ?_
        refine AnyE.effK tok hO (by cbv <;> rfl) (by cbv <;> rfl) (by trivial) ?_ ?_
        · exact (by repeat (first | exact trivial | refine And.intro (by first | exact lv_of hO (by cbv <;> rfl) (by trivial) | (cbv <;> rfl)) ?_))
        refine AnyE.run tok hO (by rfl) (by cbv <;> rfl) (by trivial) ?_
        refine AnyE.effK tok hO (by cbv <;> rfl) (by cbv <;> rfl) (by trivial) ?_ ?_
        · exact (by repeat (first | exact trivial | refine And.intro (by first | exact lv_of hO (by cbv <;> rfl) (by trivial) | (cbv <;> rfl)) ?_))
        refine AnyE.run tok hO (by rfl) (by cbv <;> rfl) (by trivial) ?_
        refine ⟨tabR [(4, 5), (5, 4)], ⟨⟨94, getT (fgM N c gg)⟩, []⟩, ⟨[(5, .cells none false (cells24 W)), (4, .cells none false (cells24 V)), (3, .cells none false (cells8B M)), (2, .cells none false (workC f (.isl N 1 false gg) KM)), (1, .cells none false (workC f (.isl N 1 false gg) KK)), (0, .cells none false (farmL f))], 6⟩, ?_, rfl, _, rfl, ⟨rfl, rfl, rfl, rfl, rfl, rfl, rfl, rfl, rfl, trivial⟩, rfl⟩
        exact WeakR.tab rfl rfl (by simp) (by rfl) (by show 4 ≤ 6; omega) (by rfl) ⟨RenV.ptr (by omega), RenV.ptr (by omega), RenV.ptr (by omega), RenV.ptr (by omega), RenV.closed hlb, RenV.closed Below.lit, RenV.closed Below.lit, RenV.ptr (by omega), RenV.ptr (by omega), trivial⟩ ⟨⟨by omega, _, rfl, .cells (RenVs.closed (cells24_below 0 W)), rfl⟩, ⟨by omega, _, rfl, .cells (RenVs.closed (cells24_below 0 V)), rfl⟩, ⟨by omega, _, rfl, .cells (RenVs.closed (cells8B_below 0 M)), rfl⟩, ⟨by omega, _, rfl, .cells (RenVs.closed hc1), rfl⟩, ⟨by omega, _, rfl, .cells (RenVs.closed hc2), rfl⟩, ⟨by omega, _, rfl, .cells (RenVs.closed (farmL_below f)), rfl⟩, trivial⟩
      · refine PickE.eff tok hO (by cbv <;> rfl) (by cbv <;> rfl) (by trivial) ?_ ?_
        · exact (by repeat (first | exact trivial | refine And.intro (by first | exact lv_of hO (by cbv <;> rfl) (by trivial) | (cbv <;> rfl)) ?_))
        refine AnyE.run tok hO (by rfl) (by cbv <;> rfl) (by trivial) ?_
        refine AnyE.callP e2 (by cbv <;> rfl) (by cbv <;> rfl) ?_
        refine AnyE.run tok hO (by rfl) (by cbv <;> rfl) (by trivial) ?_
        refine AnyE.effK tok hO (by cbv <;> rfl) (by cbv <;> rfl) (by trivial) ?_ ?_
        · exact (by repeat (first | exact trivial | refine And.intro (by first | exact lv_of hO (by cbv <;> rfl) (by trivial) | (cbv <;> rfl)) ?_))
        refine AnyE.run tok hO (by rfl) (by cbv <;> rfl) (by trivial) ?_
        refine AnyE.effK tok hO (by cbv <;> rfl) (by cbv <;> rfl) (by trivial) ?_ ?_
        · exact (by repeat (first | exact trivial | refine And.intro (by first | exact lv_of hO (by cbv <;> rfl) (by trivial) | (cbv <;> rfl)) ?_))
        refine AnyE.run tok hO (by rfl) (by cbv <;> rfl) (by trivial) ?_
        refine ⟨tabR [(4, 5), (5, 4)], ⟨⟨94, getT (fgM N c gg)⟩, []⟩, ⟨[(5, .cells none false (cells24 W)), (4, .cells none false (cells24 V)), (3, .cells none false (cells8B M)), (2, .cells none false (workC f (.isl N 1 false gg) KM)), (1, .cells none false (workC f (.isl N 1 false gg) KK)), (0, .cells none false (farmL f))], 6⟩, ?_, rfl, _, rfl, ⟨rfl, rfl, rfl, rfl, rfl, rfl, rfl, rfl, rfl, trivial⟩, rfl⟩
        exact WeakR.tab rfl rfl (by simp) (by rfl) (by show 4 ≤ 6; omega) (by rfl) ⟨RenV.ptr (by omega), RenV.ptr (by omega), RenV.ptr (by omega), RenV.ptr (by omega), RenV.closed hlb, RenV.closed Below.lit, RenV.closed Below.lit, RenV.ptr (by omega), RenV.ptr (by omega), trivial⟩ ⟨⟨by omega, _, rfl, .cells (RenVs.closed (cells24_below 0 W)), rfl⟩, ⟨by omega, _, rfl, .cells (RenVs.closed (cells24_below 0 V)), rfl⟩, ⟨by omega, _, rfl, .cells (RenVs.closed (cells8B_below 0 M)), rfl⟩, ⟨by omega, _, rfl, .cells (RenVs.closed hc1), rfl⟩, ⟨by omega, _, rfl, .cells (RenVs.closed hc2), rfl⟩, ⟨by omega, _, rfl, .cells (RenVs.closed (farmL_below f)), rfl⟩, trivial⟩
    · refine PickE.eff tok hO (by cbv <;> rfl) (by cbv <;> rfl) (by trivial) ?_ ?_
      · exact (by repeat (first | exact trivial | refine And.intro (by first | exact lv_of hO (by cbv <;> rfl) (by trivial) | (cbv <;> rfl)) ?_))
      refine AnyE.run tok hO (by rfl) (by cbv <;> rfl) (by trivial) ?_
      refine AnyE.callP e1 (by cbv <;> rfl) (by cbv <;> rfl) ?_
      refine AnyE.run tok hO (by rfl) (by cbv <;> rfl) (by trivial) ?_
      refine AnyE.callP e2 (by cbv <;> rfl) (by cbv <;> rfl) ?_
      refine AnyE.run tok hO (by rfl) (by cbv <;> rfl) (by trivial) ?_
      refine AnyE.effK tok hO (by cbv <;> rfl) (by cbv <;> rfl) (by trivial) ?_ ?_
      · exact (by repeat (first | exact trivial | refine And.intro (by first | exact lv_of hO (by cbv <;> rfl) (by trivial) | (cbv <;> rfl)) ?_))
      refine AnyE.run tok hO (by rfl) (by cbv <;> rfl) (by trivial) ?_
      refine AnyE.effK tok hO (by cbv <;> rfl) (by cbv <;> rfl) (by trivial) ?_ ?_
      · exact (by repeat (first | exact trivial | refine And.intro (by first | exact lv_of hO (by cbv <;> rfl) (by trivial) | (cbv <;> rfl)) ?_))
      refine AnyE.run tok hO (by rfl) (by cbv <;> rfl) (by trivial) ?_
      refine ⟨tabR [(4, 5), (5, 4)], ⟨⟨94, getT (fgM N c gg)⟩, []⟩, ⟨[(5, .cells none false (cells24 W)), (4, .cells none false (cells24 V)), (3, .cells none false (cells8B M)), (2, .cells none false (workC f (.isl N 1 false gg) KM)), (1, .cells none false (workC f (.isl N 1 false gg) KK)), (0, .cells none false (farmL f))], 6⟩, ?_, rfl, _, rfl, ⟨rfl, rfl, rfl, rfl, rfl, rfl, rfl, rfl, rfl, trivial⟩, rfl⟩
      exact WeakR.tab rfl rfl (by simp) (by rfl) (by show 4 ≤ 6; omega) (by rfl) ⟨RenV.ptr (by omega), RenV.ptr (by omega), RenV.ptr (by omega), RenV.ptr (by omega), RenV.closed hlb, RenV.closed Below.lit, RenV.closed Below.lit, RenV.ptr (by omega), RenV.ptr (by omega), trivial⟩ ⟨⟨by omega, _, rfl, .cells (RenVs.closed (cells24_below 0 W)), rfl⟩, ⟨by omega, _, rfl, .cells (RenVs.closed (cells24_below 0 V)), rfl⟩, ⟨by omega, _, rfl, .cells (RenVs.closed (cells8B_below 0 M)), rfl⟩, ⟨by omega, _, rfl, .cells (RenVs.closed hc1), rfl⟩, ⟨by omega, _, rfl, .cells (RenVs.closed hc2), rfl⟩, ⟨by omega, _, rfl, .cells (RenVs.closed (farmL_below f)), rfl⟩, trivial⟩
end Go.Fz
