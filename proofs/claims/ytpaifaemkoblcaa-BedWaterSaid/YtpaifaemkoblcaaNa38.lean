/- Own work of the verifier of watercress: FzD3, FzD4. -/
import Derived.Test.YtpaifaemkoblcaaNa36
import Derived.Test.YtpaifaemkoblcaaNa37
set_option linter.unusedVariables false
set_option linter.unusedSimpArgs false
set_option linter.unusedVariables false
namespace Go.Fz
open Go.Proofs
set_option maxRecDepth 100000
theorem aw_chk : (fwD 0).check = 0 ∧ (fwD 1).check = 0 ∧ (fwD 2).check = 0 := by decide +kernel
theorem aw_trs : (fwD 0).trs = [[4, 5], [4, 6], [5, 5], [5, 6]] ∧ (fwD 1).trs = [[5, 5], [5, 6]] := by decide +kernel
theorem aw_play : (fwD 0).fits 2 (zL [4, 5]) = true ∧ (let W := (fwD 0).water (zL [4, 5]); W 1 0 = 5 ∧ W 1 1 = 4 ∧ W 1 2 = 1 ∧ W 3 0 = 1 ∧ W 3 1 = 1 ∧ W 3 2 = 0) := by decide +kernel
theorem aw_fed : (fwD 0).vrd 3 = 3 := by decide +kernel
theorem aw_cutO : (fwD 0).cutO = some 3 ∧ (fwD 0).cutAt 3 = some 0 := by decide +kernel
theorem aw_few : (risL 4).find? (fwD 1).suff = some [1] := by decide +kernel
theorem aw_fg : (fwD 1).fgN (setK ((fwD 1).k0 4) 0 5) 4 = [2] := by decide +kernel
theorem aw_fst : (fwD 2).fstO = some 1 := by decide +kernel
theorem aw_lve : (risL 2).find? (fwD 2).lvs = some [1] := by decide +kernel
theorem aw_prv : (fwD 0).proveC 3 2 (zL [4, 5]) = true := by decide +kernel
theorem aw_bnd : (fwD 1).bLo 2 0 = 4 ∧ (fwD 1).bHi 2 0 = 5 ∧ (fwD 1).bLo 2 1 = 2 ∧ (fwD 1).bHi 2 1 = 2 ∧ (fwD 1).bLo 2 2 = 2 ∧ (fwD 1).bHi 2 2 = 3 := by decide +kernel
end Go.Fz
set_option linter.unusedVariables false
namespace Go.Fz
open Go.Proofs
set_option maxRecDepth 100000
theorem fwD_small (n : Nat) (h : n ≤ 2) : (fwD n).small := by
  unfold FarmD.small fwD
  simp only
  omega
theorem aw_opn : (fwD 0).opnE true = 0 ∧ (fwD 1).opnE true = 0 := by decide +kernel
theorem aw_hs : (fwD 0).hasB 3 = true ∧ (fwD 1).fgE 0 5 = 0 := by decide +kernel
def FarmD.bnI (f : FarmD) (b k : Nat) : Int := match k with
  | 0 => f.bLo b 0
  | 1 => f.bHi b 0
  | 2 => f.bLo b 1
  | 3 => f.bHi b 1
  | 4 => f.bLo b 2
  | _ => f.bHi b 2
theorem FarmD.bnC_eq (f : FarmD) : f.bnC = fun b k => iV (f.bnI b k) := by
  funext b k
  rcases k with _ | _ | _ | _ | _ | k <;> rfl
theorem awp_play : Pure Try.prog 20 [farmV (fwD 0), intsV 2 true (zL [4, 5])] (.tup [.isl 4 3 false fun i k => iV ((fwD 0).water (zL [4, 5]) i k), iV 0]) := by
  have h := play20_ok (fwD 0) (fwD_small 0 (by omega)) 2 true (zL [4, 5]) (by omega)
  rw [show (fwD 0).playE 2 (zL [4, 5]) = 0 by unfold FarmD.playE; rw [if_pos aw_chk.1, if_pos aw_play.1], show (fwD 0).playL 2 (zL [4, 5]) = .isl (fwD 0).nb 3 false (flowC ((fwD 0).water (zL [4, 5]))) from if_pos ⟨aw_chk.1, aw_play.1⟩] at h
  exact h
theorem awp_fed : Pure Try.prog 30 [farmV (fwD 0), iV 3] (.tup [iV 3, iV 0]) := by
  have h := fed_ok (fwD_small 0 (by omega)) 3
  have hE : (fwD 0).fedE 3 = 0 := by unfold FarmD.fedE; rw [aw_hs.1]; exact aw_opn.1
  rw [show (fwD 0).fedV 3 = 3 by unfold FarmD.fedV; rw [if_pos hE]; exact aw_fed, hE] at h
  exact h
theorem awp_cut : Pure Try.prog 50 [farmV (fwD 0)] (.tup [iV 3, zV [4, 5], iV 0]) := by
  have h := cut50 (fwD_small 0 (by omega))
  have hE : (fwD 0).bndE = 0 := aw_opn.1
  rw [show (fwD 0).cutV = 3 by unfold FarmD.cutV; rw [if_pos hE, aw_cutO.1]; rfl, show (fwD 0).cutE = 0 by unfold FarmD.cutE; rw [if_pos hE, aw_cutO.1],
    show (fwD 0).cutL = zV [4, 5] by unfold FarmD.cutL; rw [if_pos hE, aw_cutO.1]; simp only [aw_cutO.2, aw_trs.1]; rfl] at h
  exact h
theorem awp_bnd : Pure Try.prog 29 [farmV (fwD 1)] (.tup [.isl 4 6 false fun b k => iV ((fwD 1).bnI b k), iV 0]) := by
  have h := bounds29 (fwD_small 1 (by omega))
  have hE : (fwD 1).bndE = 0 := aw_opn.2
  rw [show (fwD 1).bndL = .isl (fwD 1).nb 6 false (fwD 1).bnC from if_pos hE, hE, FarmD.bnC_eq] at h
  exact h
theorem awp_few : Pure Try.prog 49 [farmV (fwD 1)] (.tup [zV [1], iV 0]) := by
  have h := fewest49 (fwD_small 1 (by omega))
  have hE : (fwD 1).bndE = 0 := aw_opn.2
  have hO : (fwD 1).fewO = some [1] := aw_few
  rw [show (fwD 1).fewL = zV (nI [1]) by unfold FarmD.fewL; rw [if_pos hE, hO], show (fwD 1).fewE = 0 by unfold FarmD.fewE; rw [if_pos hE, hO]] at h
  exact h
theorem awp_fg : Pure Try.prog 39 [farmV (fwD 1), iV 0, iV 5] (.tup [zV [2], iV 0]) := by
  have h := forgotten39 (fwD_small 1 (by omega)) 0 5
  rw [show (fwD 1).fgV 0 5 = zV (nI [2]) by unfold FarmD.fgV; rw [if_pos aw_hs.2]; exact congrArg (fun l => zV (nI l)) aw_fg, aw_hs.2] at h
  exact h
theorem awp_fst : Pure Try.prog 43 [farmV (fwD 2)] (.tup [iV 1, iV 0]) := by
  have h := first_ok (fwD 2) (fwD_small 2 (by omega))
  rw [show (fwD 2).fstV = 1 by unfold FarmD.fstV; rw [if_pos aw_chk.2.2, aw_fst]; rfl, show (fwD 2).fstE = 0 by unfold FarmD.fstE; rw [if_pos aw_chk.2.2, aw_fst]] at h
  exact h
theorem awp_lve : Pure Try.prog 44 [farmV (fwD 2)] (.tup [zV [1], iV 0]) := by
  have h := leave44 (fwD_small 2 (by omega))
  rw [show (fwD 2).lveL = zV (nI [1]) by unfold FarmD.lveL; rw [if_pos aw_chk.2.2]; exact congrArg (fun o : Option (List Nat) => match o with | some l => zV (nI l) | none => nl3) aw_lve, aw_chk.2.2] at h
  exact h
theorem awp_prv : Pure Try.prog 38 [farmV (fwD 0), iV 3, zV [4, 5]] (.lit (.bool true)) := by
  have h := proveCut_ok (fwD 0) (fwD_small 0 (by omega)) 3 2 false (zL [4, 5]) (by omega)
  rw [aw_prv] at h
  exact h.res (Eqv.litS true)
def spI (f : FarmD) (i k : Nat) : Int := match k with
  | 0 => f.sb i
  | 1 => f.slo i
  | _ => f.shi i
def beI (f : FarmD) (i k : Nat) : Int := match k with
  | 0 => f.need i
  | 1 => f.notch i
  | _ => f.down i
def y0V (a b : Nat → Nat → Int) : AV := .agg [.isl 2 3 false fun i k => iV (a i k), .isl 4 3 false fun i k => iV (b i k), .isl 0 4 false fun _ _ => iV 0]
theorem y0_to : Eqv (farmV (fwD 0)) (y0V (spI (fwD 0)) (beI (fwD 0))) := Eqv.agg (.cons (Eqv.isl rfl fun i k _ _ => Eqv.of (by rcases k with _ | _ | k <;> rfl)) (.cons (Eqv.isl rfl fun i k _ _ => Eqv.of (by rcases k with _ | _ | k <;> rfl)) (.cons (Eqv.isl rfl fun i k hi _ => absurd hi (Nat.not_lt_zero i)) .nil)))
theorem y0_of : Eqv (y0V (spI (fwD 0)) (beI (fwD 0))) (farmV (fwD 0)) := Eqv.agg (.cons (Eqv.isl rfl fun i k _ _ => Eqv.of (by rcases k with _ | _ | k <;> rfl)) (.cons (Eqv.isl rfl fun i k _ _ => Eqv.of (by rcases k with _ | _ | k <;> rfl)) (.cons (Eqv.isl rfl fun i k hi _ => absurd hi (Nat.not_lt_zero i)) .nil)))
theorem awp_i1 : Pure Try.prog 41 [zV [1], intsV 1 true (zL [1])] (.lit (.bool true)) := by
  have h := ints_ok 1 1 false true (zL [1]) (zL [1]) (by omega) (by omega)
  rw [show eqL 1 1 (zL [1]) (zL [1]) = true by decide +kernel] at h
  exact h.res (Eqv.litS true)
theorem awp_i2 : Pure Try.prog 41 [zV [2], intsV 1 true (zL [2])] (.lit (.bool true)) := by
  have h := ints_ok 1 1 false true (zL [2]) (zL [2]) (by omega) (by omega)
  rw [show eqL 1 1 (zL [2]) (zL [2]) = true by decide +kernel] at h
  exact h.res (Eqv.litS true)
end Go.Fz
