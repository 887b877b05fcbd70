/- Own work of the verifier of watercress: FzJ3. -/
import Derived.Below
import Derived.CallsIn
import Derived.Carry
import Derived.ChangeKeysEq
import Derived.ChangeSame
import Derived.Deep.Slices
import Derived.DeepKeys4
import Derived.JoinedCond
import Derived.Laws.AppendOwn
import Derived.Laws.Cells
import Derived.Laws.CopyRow
import Derived.Laws.Cover3
import Derived.Laws.Entries
import Derived.Laws.NewFold
import Derived.Laws.Sem
import Derived.Laws.Small
import Derived.Laws.StructEq
import Derived.Laws.Tables
import Derived.Laws.World
import Derived.Lib.SmallJoins
import Derived.Maps.Keyed
import Derived.Maps.RangeRun
import Derived.OpenShut
import Derived.OrdersHeld
import Derived.OrdersIn
import Derived.ProofKit
import Derived.RangeFuncLeaves
import Derived.RangeFuncRecord
import Derived.Shelf.Abstract
import Derived.WalkKit
import Derived.WideKeyArgs
import Derived.Test.YtpaifaemkoblcaaNa16
import Derived.Test.YtpaifaemkoblcaaNa24
import Derived.Test.YtpaifaemkoblcaaNa25
import Derived.Test.YtpaifaemkoblcaaNa26
import Derived.Test.YtpaifaemkoblcaaNa19
import Derived.Test.YtpaifaemkoblcaaNa20
import Derived.Test.YtpaifaemkoblcaaNa21
import Derived.Test.YtpaifaemkoblcaaNa22
import Derived.Test.YtpaifaemkoblcaaNa23
import Derived.Test.YtpaifaemkoblcaaNa27
import Derived.Test.YtpaifaemkoblcaaNa32
import Derived.Test.YtpaifaemkoblcaaNa35
import Derived.Test.YtpaifaemkoblcaaNa33
import Derived.Test.YtpaifaemkoblcaaNa34
import Derived.Test.YtpaifaemkoblcaaNa28
import Derived.Test.YtpaifaemkoblcaaNa29
import Derived.Test.YtpaifaemkoblcaaNa30
import Derived.Test.YtpaifaemkoblcaaNa31
import Derived.Test.YtpaifaemkoblcaaNa36
import Derived.Test.YtpaifaemkoblcaaNg0
import Derived.Test.YtpaifaemkoblcaaNg1
import Derived.Test.YtpaifaemkoblcaaNa37
import Derived.Test.YtpaifaemkoblcaaNa38
import Derived.Test.YtpaifaemkoblcaaNa40
import Derived.Test.YtpaifaemkoblcaaNa39
import Derived.Test.YtpaifaemkoblcaaNa41
import Derived.Test.YtpaifaemkoblcaaNa17
import Derived.Test.YtpaifaemkoblcaaNa18
import Derived.Test.YtpaifaemkoblcaaNa10
import Derived.Test.YtpaifaemkoblcaaNa12
import Derived.Test.YtpaifaemkoblcaaNa11
import Derived.Test.YtpaifaemkoblcaaNa13
import Derived.Test.YtpaifaemkoblcaaNa14
import Derived.Test.YtpaifaemkoblcaaNa0
import Derived.Test.YtpaifaemkoblcaaNa1
import Derived.Test.YtpaifaemkoblcaaNa2
import Derived.Test.YtpaifaemkoblcaaNa3
import Derived.Test.YtpaifaemkoblcaaNa4
import Derived.Test.YtpaifaemkoblcaaNa5
import Derived.Test.YtpaifaemkoblcaaNa6
import Derived.Test.YtpaifaemkoblcaaNa7
import Derived.Test.YtpaifaemkoblcaaNa8
import Derived.Test.YtpaifaemkoblcaaNa9
import Derived.Test.YtpaifaemkoblcaaProg
import Derived.Test.YtpaifaemkoblcaaRows
set_option linter.unusedVariables false
set_option linter.unusedSimpArgs false
set_option linter.unusedVariables false
namespace Go.Fz
open Go.Proofs
set_option maxRecDepth 100000
theorem bedEnds_ok (haw : Pure Try.prog 19 [] (.lit (.bool true))) (f : FarmD) (a : Int) (a0 : 0 ≤ a) (a1 : a ≤ 255) : Pure Try.prog 10 [farmV f, .lit (.int .u8 a)] (.lit (.bool true)) := by
  cases hR : f.readyB with
  | false => exact en_not haw f a (ready_sb f hR)
  | true =>
    have hc := check_of_ready hR
    have g := good_of_check hc
    have hs := good_small g
    have hnb := g.nb
    have hns := g.ns
    have hnl := g.nl
    obtain ⟨k, hk, hm⟩ := modN g.pos (by omega) a0 (by omega)
    have hnz : Int.ofNat f.nb ≠ 0 := by
      have := g.pos
      show (f.nb : Int) ≠ 0
      omega
    have e21 := farm_ok f (by omega) (by omega) (by omega)
    have e29 := bounds29 hs
    have e55 := truths55_ok hc
    obtain ⟨k1, k2⟩ := bndE_of hc
    refine en_pre f a k hnz hm (ready_sb f hR) fun gg h => ?_
    by_cases ht : f.trs = []
    · rw [k2 ht, show f.bndL = nl3 by unfold FarmD.bndL; rw [k2 ht]; rfl] at e29
      rw [(FarmD.refL_nil hc).2 ht] at e55
      exact en_none haw f k _ e21 e29 e55 gg h
    · rw [k1 ht, show f.bndL = .isl f.nb 6 false f.bnC by unfold FarmD.bndL; rw [k1 ht]; rfl] at e29
      have e29 : Pure Try.prog 29 [farmV f] (.tup [.isl f.nb 6 false (fun i k => iV (f.bnI i k)), iV 0]) := e29.res (Eqv.tup (.cons (Eqv.isl rfl fun i k _ _ => Eqv.of (f.bnC_at i k)) (.cons (Eqv.refl _) .nil)))
      have hmr : ∀ l, l ∈ f.refL ↔ l ∈ f.trs := fun l => FarmD.mem_refL hc
      have hlo : ∀ c, ∃ i, i < f.refL.length ∧ f.wtr k c (f.refL.getD i []) = f.bLo k c := fun c => by
        obtain ⟨l, hl, he⟩ := FarmD.bLo_mem (b := k) (c := c) ht
        obtain ⟨i, hi, hg⟩ := List.getElem_of_mem ((hmr l).2 hl)
        exact ⟨i, hi, by rw [List.getD_eq_getElem?_getD, List.getElem?_eq_getElem hi]; exact (congrArg (f.wtr k c) hg).trans he⟩
      have hhi : ∀ c, ∃ i, i < f.refL.length ∧ f.wtr k c (f.refL.getD i []) = f.bHi k c := fun c => by
        obtain ⟨l, hl, he⟩ := FarmD.bHi_mem (b := k) (c := c) ht
        obtain ⟨i, hi, hg⟩ := List.getElem_of_mem ((hmr l).2 hl)
        exact ⟨i, hi, by rw [List.getD_eq_getElem?_getD, List.getElem?_eq_getElem hi]; exact (congrArg (f.wtr k c) hg).trans he⟩
      refine en_some f k f.refL.length (fun i => (f.refL.getD i []).length) (fun i => zL (f.refL.getD i [])) f.bnI e21 e29 e55 (fun gg h => ?_) gg h
      refine en_loop haw f k f.refL.length hk (by have := FarmD.refL_len hc; omega) (fun i => (f.refL.getD i []).length) (fun i => zL (f.refL.getD i [])) f.bnI (llV_below f.refL)
        (fun i => f.wtr k 0 (f.refL.getD i [])) (fun i => f.wtr k 1 (f.refL.getD i [])) (fun i => f.wtr k 2 (f.refL.getD i []))
        (fun i hi => at_zL g (f.trs_ch ((hmr _).1 (getD_mem hi))) hk) (fun q hq => ?_) gg h
      match q, hq with
      | 0, _ => exact hlo 0
      | 1, _ => exact hhi 0
      | 2, _ => exact hlo 1
      | 3, _ => exact hhi 1
      | 4, _ => exact hlo 2
      | 5, _ => exact hhi 2
end Go.Fz
