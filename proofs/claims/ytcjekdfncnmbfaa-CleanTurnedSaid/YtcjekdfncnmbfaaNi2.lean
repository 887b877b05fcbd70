/- Own work of the verifier of watercress: FzTd6, FzTd7. -/
import Derived.Below
import Derived.CallsIn
import Derived.Carry
import Derived.ChangeKeysEq
import Derived.ChangeSame
import Derived.Deep.Slices
import Derived.DeepKeys4
import Derived.JoinedCond
import Derived.Laws.AppendOwn
import Derived.Laws.Cells
import Derived.Laws.CopyRow
import Derived.Laws.Cover3
import Derived.Laws.Entries
import Derived.Laws.NewFold
import Derived.Laws.Sem
import Derived.Laws.Small
import Derived.Laws.StructEq
import Derived.Laws.Tables
import Derived.Laws.World
import Derived.Lib.SmallJoins
import Derived.Maps.Keyed
import Derived.Maps.RangeRun
import Derived.OpenShut
import Derived.OrdersHeld
import Derived.OrdersIn
import Derived.ProofKit
import Derived.RangeFuncLeaves
import Derived.RangeFuncRecord
import Derived.Shelf.Abstract
import Derived.WalkKit
import Derived.WideKeyArgs
import Derived.Test.YtcjekdfncnmbfaaNi0
import Derived.Test.YtcjekdfncnmbfaaNa10
import Derived.Test.YtcjekdfncnmbfaaNa11
import Derived.Test.YtcjekdfncnmbfaaNa13
import Derived.Test.YtcjekdfncnmbfaaNa16
import Derived.Test.YtcjekdfncnmbfaaNa14
import Derived.Test.YtcjekdfncnmbfaaNa18
import Derived.Test.YtcjekdfncnmbfaaNa15
import Derived.Test.YtcjekdfncnmbfaaNa19
import Derived.Test.YtcjekdfncnmbfaaNa20
import Derived.Test.YtcjekdfncnmbfaaNa21
import Derived.Test.YtcjekdfncnmbfaaNa22
import Derived.Test.YtcjekdfncnmbfaaNa12
import Derived.Test.YtcjekdfncnmbfaaNa17
import Derived.Test.YtcjekdfncnmbfaaNi1
import Derived.Test.YtcjekdfncnmbfaaNa0
import Derived.Test.YtcjekdfncnmbfaaNa1
import Derived.Test.YtcjekdfncnmbfaaNa2
import Derived.Test.YtcjekdfncnmbfaaNa3
import Derived.Test.YtcjekdfncnmbfaaNa4
import Derived.Test.YtcjekdfncnmbfaaNa5
import Derived.Test.YtcjekdfncnmbfaaNa6
import Derived.Test.YtcjekdfncnmbfaaNa7
import Derived.Test.YtcjekdfncnmbfaaNa8
import Derived.Test.YtcjekdfncnmbfaaNa9
import Derived.Test.YtcjekdfncnmbfaaProg
import Derived.Test.YtcjekdfncnmbfaaRows
set_option linter.unusedVariables false
set_option linter.unusedSimpArgs false
set_option linter.unusedVariables false
set_option linter.unusedSimpArgs false
namespace Go.Fz
open Go.Proofs
set_option maxRecDepth 100000
def bkF (y : YardD) (fs : Nat → Int) (i : Nat) : Int := std.bin .sub .i64 (std.bin .sub .i64 (std.bin .add .i64 y.last 1) (fs i)) (y.lng i)
def td4Q (y : YardD) (fs : Nat → Int) (XF XG ZF : Nat → Nat → AV) (e : Exit) (fm : Fm) (st : St) : Prop :=
  e = .normal ∧ ∃ g X, fm = ⟨⟨243, g⟩, []⟩ ∧ g 2 = .ptr 0 0 ∧ g 5 = iV (Int.ofNat y.nb) ∧ g 7 = .ptr 2 0 ∧ g 22 = intsV y.nb false fs ∧ g 24 = X ∧ Eqv X (intsV y.nb false (bkF y fs)) ∧ st = ⟨(tdT y XF XG ZF).h, 7⟩
set_option maxHeartbeats 16000000 in
theorem td_l4 (y : YardD) (hn : y.nb ≤ 6) (fs : Nat → Int) (XF XG ZF : Nat → Nat → AV) (hXF : ∀ i k, Below 0 (XF i k)) (hXG : ∀ i k, Below 0 (XG i k)) (hZF : ∀ i k, Below 0 (ZF i k)) (gg : Nat → AV) (h : AllP (fun p => gg p.1 = p.2) [(2, .ptr 0 0), (5, iV (Int.ofNat y.nb)), (7, .ptr 2 0), (22, intsV y.nb false fs), (24, nl3)]) :
    SW Try.prog none (nthC 17 (bodyF Try.f15)) (td4Q y fs XF XG ZF) ⟨⟨243, gg⟩, []⟩ (tdT y XF XG ZF) := by
  obtain ⟨O, hO⟩ : ∃ O : Ar, O = std := ⟨_, rfl⟩
  obtain ⟨g1, g2, g3, g4, g5, _⟩ := h
  simp only at g1 g2 g3 g4 g5
  rw [← updT_self g1, ← updT_self g2, ← updT_self g3, ← updT_self g4, ← updT_self g5]
  have hXB : Below 0 (.isl y.nb 3 false XF) := Below.isl fun i k _ _ => hXF i k
  have hXC : Below 0 (.isl y.nc 3 false XG) := Below.isl fun i k _ _ => hXG i k
  have hZB : Below 0 (.isl y.nb 3 false ZF) := Below.isl fun i k _ _ => hZF i k
  have hnat : ∀ i : Nat, O.nat (Int.ofNat i) = i := fun i => by subst hO; rfl
  have hF : ∀ i, bkF y fs i = O.bin .sub .i64 (O.bin .sub .i64 (O.bin .add .i64 y.last 1) (fs i)) (y.lng i) := fun i => by subst hO; rfl
  unfold td4Q
  generalize bkF y fs = F at hF ⊢
  refine (show SW Try.prog none (.seq (.region _ _ _) _) _ _ _ from ?_)
  refine SW.seqRun tok hO (by cbv <;> rfl) (by trivial) ?_
  refine (SW.block (SW.loopR (fun i : Nat => ⟨⟨243, getT [(2, .ptr 0 0), (5, iV (Int.ofNat y.nb)), (7, .ptr 2 0), (22, intsV y.nb false fs), (24, slG 6 1 i), (25, iV i)]⟩, []⟩)
    (fun i => ⟨[(2, .cells none false [iV y.last, iV y.hands, .isl y.nb 3 false ZF, nl3]), (1, .cells none false [iV y.last, iV y.hands, .isl y.nb 3 false XF, .isl y.nc 3 false XG]), (0, .cells none false (yardC y))] ++ objG 6 1 (intC F) i, 7⟩) (fun i => y.nb - i) (fun i => i ≤ y.nb) 0 (Nat.zero_le _) (ren1 6 6) ?_ fun i hi => ?_))
  · exact WeakR.up rfl rfl (by simp) (Nat.le_refl _) (.inl rfl) (by show 6 ≤ 7; omega) ⟨RenV.ptr (by omega), RenV.closed Below.lit, RenV.ptr (by omega), RenV.closed (intsV_below _ _ _), RenV.closed Below.lit, RenV.closed Below.lit, trivial⟩ ⟨⟨by omega, _, rfl, .cells (.cons (RenV.closed Below.lit) (.cons (RenV.closed Below.lit) (.cons (RenV.closed hZB) (.cons (RenV.closed Below.lit) .nil)))), .inr rfl⟩, ⟨by omega, _, rfl, .cells (.cons (RenV.closed Below.lit) (.cons (RenV.closed Below.lit) (.cons (RenV.closed hXB) (.cons (RenV.closed hXC) .nil)))), .inr rfl⟩, ⟨by omega, _, rfl, .cells (RenVs.closed (yardC_below y)), .inr rfl⟩, trivial⟩ (fun p hp => by cases hp)
  cases i with
  | zero =>
    refine SW.seq ?_
    refine SW.seqRun tok hO (by cbv <;> rfl) (by trivial) ?_
    refine SW.condS (by cbv <;> rfl) (fun h => SW.skip ?_) (fun h => ?_)
    · have hlt : 0 < y.nb := by subst hO; simpa [std] using h
      have k0 : (0 : Int) ≤ Int.ofNat (0) := Int.natCast_nonneg _
      have kN : Int.ofNat (0) < Int.ofNat y.nb := Int.ofNat_lt.2 hlt
      have hni : O.nat (Int.ofNat (0)) = 0 := hnat _
      have hF := hF (0)
      refine SW.seq (SW.block ?_)
      refine SW.runD tok mixed hO (by kernel_rfl) (by cbv <;> rfl) (by repeat (first | exact trivial | exact k0 | exact kN | refine ⟨?_, ?_⟩)) ?_
      refine AnyE.effK tok hO (by cbv <;> rfl) (by cbv <;> rfl) (by trivial) ?_ ?_
      · exact (by repeat (first | exact trivial | refine And.intro (by first | exact lv_of hO (by cbv <;> rfl) (by trivial) | (refine lv_of hO (by cbv <;> rfl) (by repeat (first | exact trivial | exact k0 | exact kN | refine ⟨?_, ?_⟩))) | (cbv <;> rfl)) ?_))
      refine AnyE.appNil tok (by cbv <;> rfl) (by cbv <;> rfl) (by rfl) (by kernel_rfl) (by rfl) (by rfl) ?_
      refine AnyE.run tok hO (by rfl) (by cbv <;> rfl) (by trivial) ?_
      refine SW.run tok hO (by cbv <;> rfl) (by trivial) ?_
      refine ⟨1, by omega, by omega, ren1 6 8, ?_⟩
      refine WeakR.up rfl rfl (by simp) (Nat.le_refl _) (.inr (by omega)) (by show 6 ≤ 7; omega) ⟨RenV.ptr (by omega), RenV.closed Below.lit, RenV.ptr (by omega), RenV.closed (intsV_below _ _ _), RenV.sl (by omega), RenV.inc hO (by omega), trivial⟩ ⟨⟨by omega, _, rfl, .cells (.cons (RenV.closed Below.lit) (.cons (RenV.closed Below.lit) (.cons (RenV.closed hZB) (.cons (RenV.closed Below.lit) .nil)))), .inr rfl⟩, ⟨by omega, _, rfl, .cells (.cons (RenV.closed Below.lit) (.cons (RenV.closed Below.lit) (.cons (RenV.closed hXB) (.cons (RenV.closed hXC) .nil)))), .inr rfl⟩, ⟨by omega, _, rfl, .cells (RenVs.closed (yardC_below y)), .inr rfl⟩, trivial⟩ (fun p hp => ?_)
      obtain rfl := objG_mem hp
      exact ⟨by omega, _, rfl, .cells (RenVs.of_eq (congrArg (fun v => [iV v]) (show O.bin .sub .i64 (O.bin .sub .i64 (O.bin .add .i64 y.last 1) (fs (O.nat (Int.ofNat (0))))) (y.lng (O.nat (Int.ofNat (0)))) = F 0 from by rw [hni]; exact hF.symm)) (flatG_below (intC_below F) (1))), .inl rfl⟩
    · have hz : y.nb = 0 := by
        have : y.nb ≤ 0 := by subst hO; simpa [std] using h
        omega
      refine SW.exit ⟨rfl, _, nl3, rfl, rfl, rfl, rfl, rfl, rfl, ?_, rfl⟩
      show Eqv nl3 (.isl y.nb 1 false (intC F))
      rw [hz]; exact Eqv.nil
  | succ i =>
    obtain ⟨G, hG⟩ : ∃ G, G = flatG 1 (intC F) (i + 1) := ⟨_, rfl⟩
    have hGo : objG 6 1 (intC F) (i + 1) = [(6, .cells none false G)] := by rw [hG]; rfl
    show SW _ _ _ _ _ ⟨[(2, .cells none false [iV y.last, iV y.hands, .isl y.nb 3 false ZF, nl3]), (1, .cells none false [iV y.last, iV y.hands, .isl y.nb 3 false XF, .isl y.nc 3 false XG]), (0, .cells none false (yardC y))] ++ objG 6 1 (intC F) (i + 1), 7⟩
    rw [hGo]
    refine SW.seq ?_
    refine SW.seqRun tok hO (by cbv <;> rfl) (by trivial) ?_
    refine SW.condS (by cbv <;> rfl) (fun h => SW.skip ?_) (fun h => ?_)
    · have hlt : i + 1 < y.nb := by
        have : ((i + 1 : Nat) : Int) < (y.nb : Int) := by subst hO; simpa [std] using h
        omega
      have k0 : (0 : Int) ≤ Int.ofNat (i + 1) := Int.natCast_nonneg _
      have kN : Int.ofNat (i + 1) < Int.ofNat y.nb := Int.ofNat_lt.2 hlt
      have hni : O.nat (Int.ofNat (i + 1)) = i + 1 := hnat _
      have hF := hF (i + 1)
      refine SW.seq (SW.block ?_)
      refine SW.runD tok mixed hO (by kernel_rfl) (by cbv <;> rfl) (by repeat (first | exact trivial | exact k0 | exact kN | refine ⟨?_, ?_⟩)) ?_
      refine AnyE.effK tok hO (by cbv <;> rfl) (by cbv <;> rfl) (by trivial) ?_ ?_
      · exact (by repeat (first | exact trivial | refine And.intro (by first | exact lv_of hO (by cbv <;> rfl) (by trivial) | (refine lv_of hO (by cbv <;> rfl) (by repeat (first | exact trivial | exact k0 | exact kN | refine ⟨?_, ?_⟩))) | (cbv <;> rfl)) ?_))
      refine AnyE.appOne (g := intC F) tok (by cbv <;> rfl) (by cbv <;> rfl) (by rfl) (by rfl) hG (by kernel_rfl) (by rfl) (by rfl) (by omega) fun H0 hH0 => ?_
      refine AnyE.run tok hO (by rfl) (by cbv <;> rfl) (by trivial) ?_
      refine SW.run tok hO (by cbv <;> rfl) (by trivial) ?_
      refine ⟨i + 1 + 1, by omega, by omega, ren1 6 8, ?_⟩
      refine WeakR.up rfl rfl (by simp) (Nat.le_refl _) (.inr (by omega)) (by show 6 ≤ 7; omega) ⟨RenV.ptr (by omega), RenV.closed Below.lit, RenV.ptr (by omega), RenV.closed (intsV_below _ _ _), RenV.sl (by omega), RenV.inc hO (by omega), trivial⟩ ⟨⟨by omega, _, rfl, .cells (.cons (RenV.closed Below.lit) (.cons (RenV.closed Below.lit) (.cons (RenV.closed hZB) (.cons (RenV.closed Below.lit) .nil)))), .inr rfl⟩, ⟨by omega, _, rfl, .cells (.cons (RenV.closed Below.lit) (.cons (RenV.closed Below.lit) (.cons (RenV.closed hXB) (.cons (RenV.closed hXC) .nil)))), .inr rfl⟩, ⟨by omega, _, rfl, .cells (RenVs.closed (yardC_below y)), .inr rfl⟩, trivial⟩ (fun p hp => ?_)
      obtain rfl := objG_mem hp
      exact ⟨by omega, _, rfl, .cells (RenVs.of_eq (hH0.trans (flatG_snoc F (i + 1) _ (show O.bin .sub .i64 (O.bin .sub .i64 (O.bin .add .i64 y.last 1) (fs (O.nat (Int.ofNat (i + 1))))) (y.lng (O.nat (Int.ofNat (i + 1)))) = F (i + 1) from by rw [hni]; exact hF.symm))) (flatG_below (intC_below F) (i + 1 + 1))), .inl rfl⟩
    · have hge : y.nb = i + 1 := by
        have : (y.nb : Int) ≤ ((i + 1 : Nat) : Int) := by subst hO; simpa [std] using h
        omega
      have hlG : (i + 1) * 1 ≤ G.length := by rw [hG, flatG_length]; omega
      refine SW.freezeZ (fun j => Nat.beq j 6) 3 (by rfl) ?_
      refine SW.exit ⟨rfl, _, _, rfl, rfl, rfl, rfl, rfl, rfl, ?_, rfl⟩
      show Eqv (frz _ _ 3 (.sl 6 0 (i + 1) 1 false)) (.isl y.nb 1 false (intC F))
      rw [hge, frz_slE (fm := none) (G := G) rfl rfl hlG, hG]
      exact Eqv.isl rfl fun i' k hi' hk => Eqv.of (frz_flat hi' hk rfl)
theorem td_l4m (y : YardD) (hn : y.nb ≤ 6) (fs : Nat → Int) (XF XG ZF : Nat → Nat → AV) (hXF : ∀ i k, Below 0 (XF i k)) (hXG : ∀ i k, Below 0 (XG i k)) (hZF : ∀ i k, Below 0 (ZF i k)) (gg : Nat → AV) (h : AllP (fun p => gg p.1 = p.2) [(2, .ptr 0 0), (5, iV (Int.ofNat y.nb)), (7, .ptr 2 0), (22, intsV y.nb false fs), (24, nl3)]) :
    SW Try.prog none (nthC 17 (bodyF Try.f15)) (midK 243 [(2, .ptr 0 0), (5, iV (Int.ofNat y.nb)), (7, .ptr 2 0), (22, intsV y.nb false fs), (24, intsV y.nb false (bkF y fs))] ⟨(tdT y XF XG ZF).h, 7⟩) ⟨⟨243, gg⟩, []⟩ (tdT y XF XG ZF) := by
  have hXB : Below 0 (.isl y.nb 3 false XF) := Below.isl fun i k _ _ => hXF i k
  have hXC : Below 0 (.isl y.nc 3 false XG) := Below.isl fun i k _ _ => hXG i k
  have hZB : Below 0 (.isl y.nb 3 false ZF) := Below.isl fun i k _ _ => hZF i k
  refine SW.ren ?_
  refine SW.mono (td_l4 y hn fs XF XG ZF hXF hXG hZF gg h) ?_
  rintro e fm st ⟨rfl, g, X', rfl, g1, g2, g3, g4, g5, hX', rfl⟩
  refine ⟨tabR [], ⟨⟨243, getT [(2, .ptr 0 0), (5, iV (Int.ofNat y.nb)), (7, .ptr 2 0), (22, intsV y.nb false fs), (24, intsV y.nb false (bkF y fs))]⟩, []⟩, ⟨(tdT y XF XG ZF).h, 7⟩, ?_, rfl, _, rfl, ⟨rfl, rfl, rfl, rfl, rfl, trivial⟩, rfl⟩
  refine WeakR.tab rfl rfl (by simp) (by rfl) (by show 6 ≤ 7; omega) (by rfl) ⟨?_, ?_, ?_, ?_, ?_, trivial⟩ ⟨⟨by omega, _, rfl, .cells (.cons (RenV.closed Below.lit) (.cons (RenV.closed Below.lit) (.cons (RenV.closed hZB) (.cons (RenV.closed Below.lit) .nil)))), rfl⟩, ⟨by omega, _, rfl, .cells (.cons (RenV.closed Below.lit) (.cons (RenV.closed Below.lit) (.cons (RenV.closed hXB) (.cons (RenV.closed hXC) .nil)))), rfl⟩, ⟨by omega, _, rfl, .cells (RenVs.closed (yardC_below y)), rfl⟩, trivial⟩
  · show RenV _ _ _ (g 2); rw [g1]; exact RenV.ptr (by omega)
  · show RenV _ _ _ (g 5); rw [g2]; exact RenV.closed Below.lit
  · show RenV _ _ _ (g 7); rw [g3]; exact RenV.ptr (by omega)
  · show RenV _ _ _ (g 22); rw [g4]; exact RenV.closed (intsV_below _ _ _)
  · show RenV _ _ _ (g 24); rw [g5]; exact RenV.eqv (RenV.closed (intsV_below _ _ _)) hX'
set_option maxHeartbeats 8000000 in
theorem td_end (haw : Pure Try.prog 18 [] (.lit (.bool true))) (y : YardD) (fs : Nat → Int) (XF XG ZF : Nat → Nat → AV) (ZV : AV) (z20 : Pure Try.prog 20 [.agg [iV y.last, iV y.hands, .isl y.nb 3 false ZF, nl3]] ZV) (e21 : Pure Try.prog 21 [ZV, intsV y.nb false (bkF y fs)] (.sb true))
    (gg : Nat → AV) (h : AllP (fun p => gg p.1 = p.2) [(2, .ptr 0 0), (5, iV (Int.ofNat y.nb)), (7, .ptr 2 0), (22, intsV y.nb false fs), (24, intsV y.nb false (bkF y fs))]) :
    SW Try.prog none (restC 18 (bodyF Try.f15)) (trueQ3 Try.f15) ⟨⟨243, gg⟩, []⟩ ⟨(tdT y XF XG ZF).h, 7⟩ := by
  obtain ⟨O, hO⟩ : ∃ O : Ar, O = std := ⟨_, rfl⟩
  obtain ⟨g1, g2, g3, g4, g5, _⟩ := h
  simp only at g1 g2 g3 g4 g5
  rw [← updT_self g1, ← updT_self g2, ← updT_self g3, ← updT_self g4, ← updT_self g5]
  refine (show SW Try.prog none (.seq (.region _ _ _) _) _ _ _ from ?_)
  refine SW.seqRun tok hO (by cbv <;> rfl) (by trivial) ?_
  refine OpsW.callP z20 (by cbv <;> rfl) ?_
  refine OpsW.run tok hO (by cbv <;> rfl) (by trivial) ?_
  refine OpsW.callP e21 (by cbv <;> rfl) ?_
  refine OpsW.run tok hO (by cbv <;> rfl) (by trivial) ?_
  refine OpsW.splitG (by cbv <;> rfl) (fun hw1 => ?_) (fun hw1 => by first | (cases hw1; done) | (subst hO; simp [std] at hw1; done) | (subst hO; simp [std] at hw1; omega))
  refine OpsW.run tok hO (by cbv <;> rfl) (by trivial) ?_
  refine OpsW.callP haw (by cbv <;> rfl) ?_
  refine OpsW.run tok hO (by cbv <;> rfl) (by trivial) ?_
  exact SW.ret ⟨_, _, rfl, rfl, Eqv.of rfl⟩
end Go.Fz
set_option linter.unusedVariables false
namespace Go.Fz
open Go.Proofs
set_option maxRecDepth 100000
theorem revY_turn {y : YardD} (hc : y.check = 0) : Turn y y.revY := by
  obtain ⟨hf, _, _, _, _, _, hcl⟩ := y.fit_of_check hc
  have hn := hf.nb
  refine ⟨rfl, rfl, rfl, fun i hi => rfl, fun i hi => rfl, fun i hi => rfl, rfl, fun i hi => (hcl i hi).1, fun i hi => ?_, fun i hi => rfl, fun i hi => rfl⟩
  have h1 := (hcl i hi).1
  have h2 : sub64 ((y.nb : Nat) : Int) 1 = (y.nb : Int) - 1 := sub64_in _ _ (by omega) (by omega)
  show sub64 (sub64 ((y.nb : Nat) : Int) 1) (y.cb i) = _
  rw [h2, sub64_in _ _ (by omega) (by omega)]
theorem bakY_back {y : YardD} (hc : y.check = 0) : BackY y y.bakY := by
  obtain ⟨hf, l0, l9, _⟩ := y.fit_of_check hc
  have hv : ∀ i, i < y.nb → sub64 (add64 y.last 1) (y.lng i) = y.last + 1 - y.lng i := fun i hi => by
    have h1 := hf.lng i hi
    have h2 : add64 y.last 1 = y.last + 1 := add64_in _ _ (by omega) (by omega)
    rw [h2, sub64_in _ _ (by omega) (by omega)]
  refine ⟨rfl, rfl, rfl, fun i hi => rfl, fun i hi => ?_, fun i hi => ?_, rfl⟩
  · have h1 := hf.lng i hi
    have h2 := hf.beg i hi
    have h3 : sub64 (sub64 (add64 y.last 1) (y.lng i)) (y.bhi i) = y.last + 1 - y.lng i - y.bhi i := by
      rw [hv i hi, sub64_in _ _ (by omega) (by omega)]
    show std.mx 0 (sub64 (sub64 (add64 y.last 1) (y.lng i)) (y.bhi i)) ≤ _
    rw [h3]
    show (if y.last + 1 - y.lng i - y.bhi i > 0 then y.last + 1 - y.lng i - y.bhi i else (0 : Int)) ≤ _
    split <;> omega
  · have h1 := hf.lng i hi
    have h2 := hf.beg i hi
    show sub64 (sub64 (add64 y.last 1) (y.lng i)) (y.blo i) = _
    rw [hv i hi, sub64_in _ _ (by omega) (by omega)]
theorem bak_eqv (y : YardD) : Eqvs [.agg [iV y.last, iV y.hands, .isl y.nb 3 false (bedC y.bakY), nl3]] [yardV y.bakY] := .cons (Eqv.agg (.cons (Eqv.refl _) (.cons (Eqv.refl _) (.cons (Eqv.refl _) (.cons Eqv.nil .nil))))) .nil
theorem same_nil : Pure Try.prog 30 [nl3, nl3] (.sb true) := by
  have h := same_ok 0 0 false false (fun _ => 0) (fun _ => 0) (by omega) (by omega)
  rw [same_self] at h
  exact h.eqv (.cons Eqv.nil (.cons Eqv.nil .nil))
theorem same_zV {l : List Int} (h : l.length < 1000) : Pure Try.prog 30 [zV l, zV l] (.sb true) := by
  have h := same_ok l.length l.length false false (fun j => l.getD j 0) (fun j => l.getD j 0) h h
  rw [same_self] at h
  exact h
theorem same_lve {y : YardD} (hc : y.check = 0) : Pure Try.prog 30 [y.lveV, y.lveV] (.sb true) := by
  by_cases hs : y.allS = []
  · have : y.lveV = nl3 := by
      unfold YardD.lveV
      rw [if_neg (by rw [(any_sees hc).1 hs]; decide)]
    rw [this]; exact same_nil
  · obtain ⟨pre, l, post, q1, q2, _⟩ := lve_sees hc hs
    have h5 := (y.fit_of_check hc).2.2.2.2.2.1
    have hl := (msk_fin6 ⟨y.nc, by omega⟩ l (by rw [q2]; simp)).2.2
    rw [q1]
    have h := same_ok l.length l.length false false (lI l) (lI l) (by omega) (by omega)
    rw [same_self] at h
    exact h
theorem weeks_same {y : YardD} (hc : y.check = 0) {K : Nat} (hK : K < y.nb) : ∃ AL, Pure Try.prog 27 [yardV y, iV (K : Int)] (.tup [AL, iV (y.ownE true)]) ∧ Pure Try.prog 30 [AL, AL] (.sb true) ∧
    ∀ x, Turn y x → Pure Try.prog 27 [yardV x, iV ((y.nb - 1 - K : Nat) : Int)] (.tup [AL, iV (y.ownE true)]) := by
  have hn := (y.fit_of_check hc).1.nb
  have h5 := (y.fit_of_check hc).2.2.2.2.2.1
  have k0 : (0 : Int) ≤ (K : Int) := Int.natCast_nonneg K
  have k1 : (K : Int) < y.nb := Int.ofNat_lt.2 hK
  rcases own_range hc with ⟨ho, hk⟩ | ho
  · obtain ⟨e27, w1⟩ := weeks_sees hc hk k0 k1
    refine ⟨zV (y.wkL K), by rw [ho]; exact e27, same_zV (wk_small (y.fit_of_check hc).1 k0 k1), fun x hx => ?_⟩
    have hcx := turn_check hx hc
    have hox : x.ownE true = 0 := (turn_own hx hc).1.symm.trans ho
    have hkx : x.kept ≠ [] := (YardD.own_some hox).2.1
    obtain ⟨x27, w2⟩ := weeks_sees hcx hkx (K := ((y.nb - 1 - K : Nat) : Int)) (Int.natCast_nonneg _) (by rw [hx.nb]; omega)
    have hw : x.wkL ((y.nb - 1 - K : Nat) : Int) = y.wkL K := by
      rw [w1, w2]
      exact turn_wk hx hc hK
    rw [hw] at x27
    rw [ho]
    exact x27
  · have hz : ∀ (z : YardD), z.check = 0 → z.ownE true ≠ 0 → ∀ k : Int, 0 ≤ k → k < z.nb → Pure Try.prog 27 [yardV z, iV k] (.tup [nl3, iV (z.ownE true)]) := fun z hz hzo k h0 h1 => by
      have hnz := (z.fit_of_check hz).1.nb
      have h5z := (z.fit_of_check hz).2.2.2.2.2.1
      have e := weeks_ok z (by omega) (by omega) k
      have hb : z.hasB k = true := by
        unfold YardD.hasB
        rw [decide_eq_true h0, decide_eq_true h1]; rfl
      have hv : z.wkV k = nl3 := by
        unfold YardD.wkV
        rw [hb, if_neg hzo]
      rw [hv, hb] at e
      exact e
    refine ⟨nl3, hz y hc (by omega) _ k0 k1, same_nil, fun x hx => ?_⟩
    have hcx := turn_check hx hc
    have he := (turn_own hx hc).1
    rw [he]
    exact hz x hcx (by omega) _ (Int.natCast_nonneg _) (by rw [hx.nb]; omega)
theorem cleanTurned_ok (haw : Pure Try.prog 18 [] (.lit (.bool true))) (y : YardD) (b : Int) (b0 : 0 ≤ b) (b1 : b ≤ 255) : Pure Try.prog 15 [yardV y, .lit (.int .u8 b)] (.lit (.bool true)) := by
  have e45 := ready_any y
  cases hR : y.readyB with
  | false =>
    rw [hR] at e45
    exact td_notA haw y b e45
  | true =>
    rw [hR] at e45
    by_cases hz : y.nb = 0
    · exact td_notB haw y b hz e45
    have hc := ready_check hR
    obtain ⟨hf, l0, l9, _, _, h5, _⟩ := y.fit_of_check hc
    have hn := hf.nb
    have hpos : 0 < y.nb := Nat.pos_of_ne_zero hz
    have hzI : Int.ofNat y.nb ≠ 0 := by
      show (y.nb : Int) ≠ 0
      omega
    refine td_pre y b hz e45 fun gg h => ?_
    refine (show SW Try.prog none (.seq (nthC 3 (bodyF Try.f15)) (restC 4 (bodyF Try.f15))) _ _ _ from ?_)
    refine SW.seq (SW.mono (td_r4 y b gg h) ?_)
    rintro e fm st ⟨rfl, g, rfl, hg, rfl⟩
    refine td_r5 y b (fun gg h => ?_) g hg
    refine (show SW Try.prog none (.seq (nthC 5 (bodyF Try.f15)) (restC 6 (bodyF Try.f15))) _ _ _ from ?_)
    refine SW.seq (SW.mono (td_l1 y b hpos hn gg h) ?_)
    rintro e fm st ⟨rfl, g, X, Z, rfl, g1, g2, g3, g4, g5, hX, hZ, rfl⟩
    refine (show SW Try.prog none (.seq (nthC 6 (bodyF Try.f15)) (restC 7 (bodyF Try.f15))) _ _ _ from ?_)
    refine SW.seq (SW.mono (td_l2m y b (by omega) X Z hX hZ g ⟨g1, g2, g3, g4, g5, trivial⟩) ?_)
    rintro e fm st ⟨rfl, g, rfl, hg, rfl⟩
    have hT := revY_turn hc
    have hcx := turn_check hT hc
    have hB := bakY_back hc
    have e20 := yard_ok y (by omega) (by omega)
    have x20 := yard_ok y.revY (show y.nb ≤ 1000 by omega) (show y.nc ≤ 1000 by omega)
    have hK := rem_rng b0 b1 hpos hn
    obtain ⟨k, hk⟩ : ∃ k : Nat, std.bin .rem .i64 (std.conv .i64 b) (y.nb : Int) = (k : Int) := ⟨_, (Int.toNat_of_nonneg hK.1).symm⟩
    have hkn : k < y.nb := by
      have := hK.2
      rw [hk] at this
      exact Int.ofNat_lt.1 this
    obtain ⟨AL, e27, e30, hx27⟩ := weeks_same hc hkn
    have x27 := hx27 _ hT
    have hix : std.bin .sub .i64 (std.bin .sub .i64 (Int.ofNat y.nb) 1) (k : Int) = ((y.nb - 1 - k : Nat) : Int) := rv_in (by omega) hkn
    rw [← hix, ← hk] at x27
    rw [← hk] at e27
    have e41 := leave_ok y (by omega) (by omega)
    have x41 := leave_ok y.revY (show y.nb < 1000000 by omega) (show y.nc < 1000000 by omega)
    rw [turn_lve hT hc, ← (turn_own hT hc).2] at x41
    have e30b := same_lve hc
    have e19 := show_ok y (by omega) (by omega)
    rcases own_range hc with ⟨ho, hky⟩ | ho | ho
    · rw [ho] at e27 x27 e19
      have hsv : y.showV = intsV y.nb false (y.firstS true) := if_pos ho
      rw [hsv] at e19
      have z24 := (fault24_ok y.bakY (show y.nb < 1000000 by omega) (show 0 < 1000000 by omega)).eqv (bak_eqv y)
      have z20 := (yard_ok y.bakY (show y.nb ≤ 1000 by omega) (show 0 ≤ 1000 by omega)).eqv (bak_eqv y)
      by_cases hW : y.bakY.faultN = 0
      · refine td_e0 haw y b hzI (bedC y.revY) (clmC y.revY) (bedC y.bakY) AL y.lveV (yardV y) (yardV y.revY) _ (y.firstS true) _ z24 hW e20 x20 e27 x27 e41 x41 e30 e30b e19 (fun gg h => ?_) g hg
        refine (show SW Try.prog none (.seq (nthC 17 (bodyF Try.f15)) (restC 18 (bodyF Try.f15))) _ _ _ from ?_)
        refine SW.seq (SW.mono (td_l4m y hn (y.firstS true) (bedC y.revY) (clmC y.revY) (bedC y.bakY) (bedC_below _) (clmC_below _) (bedC_below _) gg h) ?_)
        rintro e fm st ⟨rfl, g, rfl, hg, rfl⟩
        have e21 := proveSch_ok y.bakY (show y.nb < 1000000 by omega) (show 0 < 1000000 by omega) y.nb false (bkF y (y.firstS true)) (by omega)
        have hcz : y.bakY.check = 0 := (check_eq _).trans hW
        have hfm := first_mem ho
        rw [back_proves hB hc hcz hfm (fun j hj => by
          have h1 := hf.lng j hj
          have h2 := hf.beg j hj
          have h3 := (mem_allS.1 (mem_kept.1 hfm).1).2.rng j (List.mem_range.2 hj)
          have a1 : add64 y.last 1 = y.last + 1 := add64_in _ _ (by omega) (by omega)
          show sub64 (sub64 (add64 y.last 1) (y.firstS true j)) (y.lng j) = _
          have a2 : sub64 (add64 y.last 1) (y.firstS true j) = y.last + 1 - y.firstS true j := by rw [a1, sub64_in _ _ (by omega) (by omega)]
          rw [a2, sub64_in _ _ (by omega) (by omega)])] at e21
        exact td_end haw y (y.firstS true) (bedC y.revY) (clmC y.revY) (bedC y.bakY) (yardV y.bakY) z20 e21 g hg
      · exact td_eW haw y b hzI (bedC y.revY) (clmC y.revY) (bedC y.bakY) AL y.lveV (intsV y.nb false (y.firstS true)) (yardV y) (yardV y.revY) _ _ z24 hW e20 x20 e27 x27 e41 x41 e30 e30b e19 g hg
    · rw [ho] at e27 x27 e19
      exact td_e9 haw y b hzI (bedC y.revY) (clmC y.revY) (bedC y.bakY) AL y.lveV y.showV (yardV y) (yardV y.revY) _ e20 x20 e27 x27 e41 x41 e30 e30b e19 g hg
    · rw [ho] at e27 x27 e19
      exact td_e10 haw y b hzI (bedC y.revY) (clmC y.revY) (bedC y.bakY) AL y.lveV y.showV (yardV y) (yardV y.revY) _ e20 x20 e27 x27 e41 x41 e30 e30b e19 g hg
end Go.Fz
