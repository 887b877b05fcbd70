/-
  BedChoice (P1.9), as it is stated: for every farm and every number, whatever the world is, the law returns true and never panics, and its arguments read as before. Conditions: none but the statement's own. Own work of the verifier of watercress.
-/
import Derived.Below
import Derived.CallsIn
import Derived.Carry
import Derived.ChangeKeysEq
import Derived.ChangeSame
import Derived.Deep.Slices
import Derived.DeepKeys4
import Derived.JoinedCond
import Derived.Laws.AppendOwn
import Derived.Laws.Cells
import Derived.Laws.CopyRow
import Derived.Laws.Cover3
import Derived.Laws.Entries
import Derived.Laws.NewFold
import Derived.Laws.Sem
import Derived.Laws.Small
import Derived.Laws.StructEq
import Derived.Laws.Tables
import Derived.Laws.World
import Derived.Lib.SmallJoins
import Derived.Maps.Keyed
import Derived.Maps.RangeRun
import Derived.OpenShut
import Derived.OrdersHeld
import Derived.OrdersIn
import Derived.ProofKit
import Derived.RangeFuncLeaves
import Derived.RangeFuncRecord
import Derived.Shelf.Abstract
import Derived.WalkKit
import Derived.WideKeyArgs
import Derived.Test.YtpaifaemkoblcaaNa16
import Derived.Test.YtpaifaemkoblcaaNa24
import Derived.Test.YtpaifaemkoblcaaNa25
import Derived.Test.YtpaifaemkoblcaaNa26
import Derived.Test.YtpaifaemkoblcaaNa19
import Derived.Test.YtpaifaemkoblcaaNa20
import Derived.Test.YtpaifaemkoblcaaNa21
import Derived.Test.YtpaifaemkoblcaaNa22
import Derived.Test.YtpaifaemkoblcaaNa23
import Derived.Test.YtpaifaemkoblcaaNa27
import Derived.Test.YtpaifaemkoblcaaNi0
import Derived.Test.YtpaifaemkoblcaaNa32
import Derived.Test.YtpaifaemkoblcaaNa35
import Derived.Test.YtpaifaemkoblcaaNa33
import Derived.Test.YtpaifaemkoblcaaNa34
import Derived.Test.YtpaifaemkoblcaaNa28
import Derived.Test.YtpaifaemkoblcaaNa29
import Derived.Test.YtpaifaemkoblcaaNa30
import Derived.Test.YtpaifaemkoblcaaNa31
import Derived.Test.YtpaifaemkoblcaaNa36
import Derived.Test.YtpaifaemkoblcaaNi1
import Derived.Test.YtpaifaemkoblcaaNa37
import Derived.Test.YtpaifaemkoblcaaNa38
import Derived.Test.YtpaifaemkoblcaaNa40
import Derived.Test.YtpaifaemkoblcaaNa39
import Derived.Test.YtpaifaemkoblcaaNa15
import Derived.Test.YtpaifaemkoblcaaNi2
import Derived.Test.YtpaifaemkoblcaaNa17
import Derived.Test.YtpaifaemkoblcaaNa18
import Derived.Test.YtpaifaemkoblcaaNa10
import Derived.Test.YtpaifaemkoblcaaNa12
import Derived.Test.YtpaifaemkoblcaaNa11
import Derived.Test.YtpaifaemkoblcaaNa13
import Derived.Test.YtpaifaemkoblcaaNa14
import Derived.Test.YtpaifaemkoblcaaNa0
import Derived.Test.YtpaifaemkoblcaaNa1
import Derived.Test.YtpaifaemkoblcaaNa2
import Derived.Test.YtpaifaemkoblcaaNa3
import Derived.Test.YtpaifaemkoblcaaNa4
import Derived.Test.YtpaifaemkoblcaaNa5
import Derived.Test.YtpaifaemkoblcaaNa6
import Derived.Test.YtpaifaemkoblcaaNa7
import Derived.Test.YtpaifaemkoblcaaNa8
import Derived.Test.YtpaifaemkoblcaaNa9
import Derived.Test.YtpaifaemkoblcaaProg
import Derived.Test.YtpaifaemkoblcaaRows
set_option linter.unusedVariables false
set_option linter.unusedSimpArgs false
namespace Go.Proofs.Ytpaifaemkoblcaa
open Go.ChangeShapes Go.WideShapes Go.ChangeAt Go.RowKit Go.Joins
set_option linter.unusedVariables false
set_option maxRecDepth 100000
theorem bedchoice_contract (H : Type) (enc : TypeId × Value → H) (W : World) (base : Nat) (args : Array Value) (ds gs : List (DataW H)) (before : List MemPlace)
    (hval : ∀ (j : Nat) t v, Try.f11.params[j]? = some t → args[j]? = some v → Value.okWide Try.prog W .any base t v)
    (hW : DataW.Whole enc Try.prog Try.f11.params.toList Rows.bedChoiceSpec.vars false W args.toList ds gs before) :
    Calls Try.prog 11 args W fun e W' => ∃ v, e = .returned v ∧ Rows.bedChoiceSpec.post enc Try.prog Try.f11 false true false false W args v W' := by
  have hW' := hW
  obtain ⟨p, q, hA0, hV, rfl, hfz, hnd⟩ := hW
  have hA : DataW.TrodAll enc Try.prog W 0 (fun _ => true) true Try.f11.params.toList args.toList ds p := hA0
  rw [Try.params11] at hA hval
  obtain ⟨v1, v2, d1, d2, p1, p2, rfl, rfl, rfl, h1, h2⟩ := trodAll_two hA
  obtain ⟨rfl, rfl⟩ := trodVars_none hV
  obtain ⟨f1, hr1⟩ := farm_read (hval 0 26 v1 rfl rfl) h1
  obtain ⟨x2, rfl, rfl, rfl, w2⟩ := open_int (k := .u8) (by kernel_rfl) (hval 1 5 v2 rfl rfl) h2
  rw [← callsIn_wide (n := 0)]
  refine ((Fz.bedChoice_ok Fz.awake_ok f1 x2 (u8_in w2).1 (u8_in w2).2).call ⟨[], 0⟩ (Fz.fiW W) W [v1, .int .u8 x2] 0 (Fz.relW W) (.cons hr1 (.cons (.lit _) .nil))).mono fun e W' hp => ?_
  obtain ⟨v, cv, st', φ', rfl, ⟨rfl, rfl⟩, hv, _, _, hfr⟩ := hp
  obtain rfl := hv.lit_inv
  have hb : Below W.heap.size W W' := ⟨hfr.os, hfr.tape, hfr.output, hfr.size, fun k hk => hfr.block k hk fun ⟨id, o, h, _⟩ => by simp [Fz.Hp.get] at h⟩
  have hlt : ∀ x ∈ p1, x.block < W.heap.size := fun x hx => hW'.lt x (by simpa using hx)
  refine ⟨_, rfl, post_of_below (pa := p1) (pv := []) hW' (fun _ _ _ => (trodAll_cons_mk (shut_bool Try.underlying4 _) trodAll_mk0)) (fun sp hsp => ?_) (fun _ _ => rfl) (by simp) hb
    (ok_one (by kernel_rfl) rfl (okWide_bool_mk Try.underlying4 _))⟩
  show DataW.TrodAll enc Try.prog W' 0 sp true Try.f11.params.toList _ [d1, _] _
  rw [Try.params11]
  have := trodAll_mk2
    (WideElems.Trod_stays laid (by kernel_rfl) (Nat.le_of_ble_eq_true (by kernel_rfl)) h1 (fun x hx => hb.same (hlt x (by simp [hx]))) fun x hx => hsp x (by simp [hx]))
    (shut_int (enc := enc) (P := Try.prog) (w := W') (base := 0) (spare := sp) (held := true) (t := 5) (k := .u8) (n := x2) (by kernel_rfl) w2)
  simpa using this
theorem bedchoice_lifted (os : Os) (started : os.Started) (H : Type) (enc : TypeId × Value → H) :
    ReturnsInHanded {} Try.checked os 11 .any (Rows.bedChoiceSpec.pre6 enc Try.prog Try.f11 Rows.bedChoiceRow.domain false) (Rows.bedChoiceSpec.post enc Try.prog Try.f11 false true false false) := by
  refine returnsInHanded_of_change (C := Try.checked) (s := Rows.bedChoiceSpec) own started (by kernel_rfl) Try.func11
    (ChangeSpec.witness6 (enc := enc) (C := Try.checked) false ⟨#[], #[.agg #[.slice none 0 0, .slice none 0 0, .slice none 0 0], .int .u8 0], []⟩ 5 (by kernel_rfl) (by kernel_rfl) (by kernel_rfl) (by kernel_rfl)) ?_
  intro W base args ds gs before hval hW _ _
  exact bedchoice_contract H enc W base args ds gs before hval hW
theorem bedChoice_holds : Rows.BedChoiceSaid :=
  OpenClaim.holds_of_wide 11 Try.f11 rfl rfl rfl rfl rfl rfl rfl ⟨rfl, rfl, rfl, rfl, rfl⟩ rfl rfl rfl rfl rfl (by kernel_rfl) Try.func11 (by kernel_rfl)
    (of_decide_eq_true (by kernel_rfl)) (by unfold Func.isWrapper; first | (rw [if_pos (by decide +kernel)]; kernel_rfl) | (rw [if_neg (by decide +kernel)]; exact ⟨rfl, rfl⟩))
    (fun os started H enc _ => bedchoice_lifted os started H enc)
end Go.Proofs.Ytpaifaemkoblcaa
