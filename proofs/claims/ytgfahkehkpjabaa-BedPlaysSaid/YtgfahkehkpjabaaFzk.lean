/-
  BedPlays returns true, whatever the arguments and the world: the walk's contract is put into the given statement. Own work of the verifier of watercress.
-/
import Derived.Test.YtgfahkehkpjabaaFzj
import Derived.Test.YtgfahkehkpjabaaFzi
namespace Go.Proofs.Ytgfahkehkpjabaa
open Go.ChangeShapes Go.WideShapes Go.ChangeAt Go.RowKit Go.Joins
set_option linter.unusedVariables false
set_option maxRecDepth 100000

theorem plays_contract (H : Type) (enc : TypeId × Value → H) (W : World) (base : Nat) (args : Array Value) (ds gs : List (DataW H)) (before : List MemPlace)
    (hval : ∀ (j : Nat) t v, Try.f3.params[j]? = some t → args[j]? = some v → Value.okWide Try.prog W .any base t v)
    (hW : DataW.Whole enc Try.prog Try.f3.params.toList Rows.bedPlaysSpec.vars false W args.toList ds gs before) :
    Calls Try.prog 3 args W fun e W' => ∃ v, e = .returned v ∧ Rows.bedPlaysSpec.post enc Try.prog Try.f3 false true false false W args v W' := by
  have hW' := hW
  obtain ⟨p, q, hA0, hV, rfl, hfz, hnd⟩ := hW
  have hA : DataW.TrodAll enc Try.prog W 0 (fun _ => true) true Try.f3.params.toList args.toList ds p := hA0
  rw [Try.params3] at hA hval
  obtain ⟨v1, v2, d1, d2, p1, p2, rfl, rfl, rfl, h1, h2⟩ := trodAll_two hA
  obtain ⟨rfl, rfl⟩ := trodVars_none hV
  obtain ⟨f, hf⟩ := farm_read (hval 0 26 v1 rfl rfl) h1
  obtain ⟨n, fl, hfl⟩ := ints_read (hval 1 27 v2 rfl rfl) h2
  rw [← callsIn_wide (n := 0)]
  refine ((Fz.bedPlays_ok awake_pure f n false fl).call ⟨[], 0⟩ (Fz.fiW W) W [v1, v2] 0 (Fz.relW W) (.cons hf (.cons hfl .nil))).mono fun e W' hp => ?_
  obtain ⟨v, cv, st', φ', rfl, ⟨rfl, rfl⟩, hv, _, _, hfr⟩ := hp
  obtain rfl := hv.lit_inv
  have hb : Below W.heap.size W W' := ⟨hfr.os, hfr.tape, hfr.output, hfr.size, fun k hk => hfr.block k hk fun ⟨id, o, h, _⟩ => by simp [Fz.Hp.get] at h⟩
  have hlt : ∀ x ∈ p1 ++ p2 ++ [], x.block < W.heap.size := fun x hx => hW'.lt x hx
  refine ⟨_, rfl, post_of_below (pa := p1 ++ p2) (pv := []) hW' (fun _ _ _ => (trodAll_cons_mk (shut_bool Try.underlying4 _) trodAll_mk0)) (fun sp hsp => ?_) (fun _ _ => rfl) (by simp) hb
    (ok_one (by kernel_rfl) rfl (okWide_bool_mk Try.underlying4 _))⟩
  show DataW.TrodAll enc Try.prog W' 0 sp true Try.f3.params.toList _ [d1, d2] _
  rw [Try.params3]
  have in1 : ∀ x ∈ p1, x ∈ p1 ++ p2 ++ [] := fun x hx => by simp [hx]
  have in2 : ∀ x ∈ p2, x ∈ p1 ++ p2 ++ [] := fun x hx => by simp [hx]
  exact trodAll_mk2
    (WideElems.Trod_stays laid (by kernel_rfl) (Ev.lt_of_ble (by kernel_rfl)) h1 (fun x hx => hb.same (hlt x (in1 x hx))) fun x hx => hsp x (in1 x hx))
    (WideElems.Trod_stays laid (by kernel_rfl) (Ev.lt_of_ble (by kernel_rfl)) h2 (fun x hx => hb.same (hlt x (in2 x hx))) fun x hx => hsp x (in2 x hx))

theorem plays_lifted (os : Os) (started : os.Started) (H : Type) (enc : TypeId × Value → H) :
    ReturnsInHanded {} Try.checked os 3 .any (Rows.bedPlaysSpec.pre6 enc Try.prog Try.f3 Rows.bedPlaysRow.domain false) (Rows.bedPlaysSpec.post enc Try.prog Try.f3 false true false false) := by
  refine returnsInHanded_of_change (C := Try.checked) (s := Rows.bedPlaysSpec) own started (by kernel_rfl) Try.func3
    (ChangeSpec.witness6 (enc := enc) (C := Try.checked) false ⟨#[], #[.agg #[.slice none 0 0, .slice none 0 0, .slice none 0 0], .slice none 0 0], []⟩ 3 (by kernel_rfl) (by kernel_rfl) (by kernel_rfl) (by kernel_rfl)) ?_
  intro W base args ds gs before hval hW _ _
  exact plays_contract H enc W base args ds gs before hval hW

theorem bedPlays_holds : Rows.BedPlaysSaid :=
  OpenClaim.holds_of_wide 3 Try.f3 rfl rfl rfl rfl rfl rfl rfl ⟨rfl, rfl, rfl, rfl, rfl⟩ rfl rfl rfl rfl rfl (by kernel_rfl) Try.func3 (by kernel_rfl)
    (of_decide_eq_true (by kernel_rfl)) (by unfold Func.isWrapper; first | (rw [if_pos (by decide +kernel)]; kernel_rfl) | (rw [if_neg (by decide +kernel)]; exact ⟨rfl, rfl⟩))
    (fun os started H enc _ => plays_lifted os started H enc)

end Go.Proofs.Ytgfahkehkpjabaa
