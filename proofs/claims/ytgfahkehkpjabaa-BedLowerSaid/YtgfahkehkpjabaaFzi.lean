/-
  BedProves returns true, whatever the arguments and the world: the walk's contract is put into the given statement. Own work of the verifier of watercress.
-/
import Derived.Test.YtgfahkehkpjabaaRows
import Derived.Test.YtgfahkehkpjabaaEvCC
import Derived.Test.YtgfahkehkpjabaaFzh
import Derived.Test.YtgfahkehkpjabaaFzg
namespace Go.Proofs.Ytgfahkehkpjabaa
open Go.ChangeShapes Go.WideShapes Go.ChangeAt Go.RowKit Go.Joins
set_option linter.unusedVariables false
set_option maxRecDepth 100000

theorem post_of_below {H : Type} {enc : TypeId × Value → H} {P : Program} {f : Func} {s : ChangeSpec} {apart fresh handsOn again : Bool} {W W' : World} {args : Array Value} {v : Value} {ds gs : List (DataW H)} {before pa pv : List MemPlace}
    (hW : DataW.Whole enc P f.params.toList s.vars apart W args.toList ds gs before)
    (hres : ∀ (b : Nat) (sp : Nat → Bool) (hd : Bool), DataW.TrodAll enc P W' b sp hd f.resultTypes.toList (v.resultList f.resultTypes.size) (s.fn H (ds ++ gs)).results [])
    (hargs : ∀ sp : Nat → Bool, (∀ p ∈ before, sp p.block = true) → DataW.TrodAll enc P W' 0 sp true f.params.toList args.toList (s.fn H (ds ++ gs)).args pa)
    (hvars : ∀ sp : Nat → Bool, (∀ p ∈ before, sp p.block = true) → DataW.TrodVars enc P W' sp s.vars (s.fn H (ds ++ gs)).vars pv)
    (hps : before = pa ++ pv) (hb : Below W.heap.size W W')
    (hok : ∀ (j : Nat) (t : TypeId) (r : Value), f.resultTypes[j]? = some t → (v.resultList f.resultTypes.size)[j]? = some r → Value.okWide P W' .any 0 t r) :
    s.post enc P f apart fresh handsOn again W args v W' := by
  have hlt : ∀ p ∈ before, p.block < W.heap.size := fun p hp => hW.lt p hp
  have hold : ∀ p ∈ before, (fun b => decide (b < W.heap.size)) p.block = true := fun p hp => by simpa using hlt p hp
  refine ⟨ds, gs, before, [], pa, pv, hW, hres _ _ _, hargs _ hold, hvars _ hold, World.keptBut_mono (fun p hp => ⟨hp, ?_⟩) (hb.frame (· ∈ before)), fun _ => ?_⟩
  · rw [hps, List.mem_append] at hp
    exact Or.inr hp
  · obtain ⟨_, _, _, _, _, hz, hn⟩ := hW
    refine ⟨hok, _, _, ([] ++ pa) ++ pv, ⟨[] ++ pa, pv, trodAll_append (hargs _ (fun _ _ => rfl)) (hres _ _ _), hvars _ (fun _ _ => rfl), rfl, ?_, ?_⟩, ?_⟩
    · intro b off hp
      have hin : MemPlace.cell b off ∈ before := by rw [hps]; simpa using hp
      rw [hb.frozen (hlt _ hin)]
      exact hz b off hin
    · intro ha
      have := hn ha
      rw [hps] at this
      simpa using this
    · intro p hp _
      rw [hps]
      simpa using hp


/-- A closed call that is known in whatever world is a contract. -/
theorem pure_of_ev {P : Program} {g : FuncId} (he : Ev.Enters P g) (h : ∀ st, Ev.CallW P g [] st (fun v st' => v = .lit (.bool true) ∧ st' = st)) : Fz.Pure P g [] (.lit (.bool true)) := by
  refine ⟨he, fun st φ w cargs n hrel hargs => ?_⟩
  cases hargs
  have hr0 : Ev.Rel ⟨fun _ => ⟨0, 0, 0⟩, 0⟩ ⟨[], 0⟩ w := ⟨rfl, fun _ _ h => by simp [Ev.Hp.get] at h, fun _ _ h => by simp [Ev.Hp.get] at h, fun _ _ h => by simp [Ev.Hp.get] at h, fun _ _ _ _ h => by simp [Ev.Hp.get] at h⟩
  refine (h ⟨[], 0⟩ ⟨fun _ => ⟨0, 0, 0⟩, 0⟩ w [] n hr0 .nil).mono fun e W' hp => ?_
  obtain ⟨v, cv, st', φ', rfl, ⟨rfl, rfl⟩, hv, _, _, hf⟩ := hp
  obtain rfl := hv.lit_inv
  have hblk : ∀ k, k < w.heap.size → W'.heap[k]? = w.heap[k]? := fun k hk => hf.block k hk fun ⟨id, o, h, _⟩ => by simp [Ev.Hp.get] at h
  refine ⟨.lit (.bool true), .bool true, st, φ, rfl, ⟨rfl, rfl⟩, .lit _, Fz.Ext.refl _, ?_, ⟨hf.os, hf.tape, hf.output, hf.size, fun k hk _ => hblk k hk, fun k hk => .inl hk, fun b c hb => .inl hb⟩⟩
  refine ⟨hrel.n, hrel.lt, fun id o h => Nat.lt_of_lt_of_le (hrel.blk id o h) hf.size, fun id o h => (hrel.obj id o h).same (Fz.Ext.refl _) (by rw [hrel.n]; exact hrel.lt id o h) (hblk _ (hrel.blk id o h)), hrel.sep, hrel.fam, fun b c hb => ?_⟩
  obtain ⟨h1, h2, h3⟩ := hrel.froz b c hb
  refine ⟨Nat.lt_of_lt_of_le h1 hf.size, fun i v hv => ?_, h3⟩
  rw [← h2 i v hv]
  exact World.cell?_of_block (hblk b h1)

theorem awake_pure : Fz.Pure Try.prog 19 [] (.lit (.bool true)) := pure_of_ev Ev.aw_ok.1 Ev.aw_ok.2

theorem own : ownKnob Try.prog.godebug = none := by kernel_rfl
theorem laid : laidOutB Try.prog = true := by kernel_rfl

/-- The farm that the argument reads as. -/
noncomputable def farmOf (W : World) (v0 v1 v2 : Value) : Fz.FarmD where
  ns := Fz.slCount v0
  sb := fun i => Fz.decI W (Fz.slAddr v0) (i * 3 + 0)
  slo := fun i => Fz.decI W (Fz.slAddr v0) (i * 3 + 1)
  shi := fun i => Fz.decI W (Fz.slAddr v0) (i * 3 + 2)
  nb := Fz.slCount v1
  need := fun i => Fz.decI W (Fz.slAddr v1) (i * 3 + 0)
  notch := fun i => Fz.decI W (Fz.slAddr v1) (i * 3 + 1)
  down := fun i => Fz.decI W (Fz.slAddr v1) (i * 3 + 2)
  nl := Fz.slCount v2
  lb := fun i => Fz.decI W (Fz.slAddr v2) (i * 4 + 0)
  lov := fun i => Fz.decB W (Fz.slAddr v2) (i * 4 + 1)
  llo := fun i => Fz.decI W (Fz.slAddr v2) (i * 4 + 2)
  lhi := fun i => Fz.decI W (Fz.slAddr v2) (i * 4 + 3)

theorem farm_read {H : Type} {enc : TypeId × Value → H} {W : World} {base b0 : Nat} {spare : Nat → Bool} {held : Bool} {v : Value} {d : DataW H} {p : List MemPlace}
    (hv : Value.okWide Try.prog W .any b0 26 v) (h : DataW.Trod enc Try.prog W base spare held 26 v d p) : ∃ f : Fz.FarmD, Fz.VR (Fz.fiW W) (Fz.farmV f) v := by
  obtain ⟨v0, v1, v2, y0, y1, y2, n, rfl, _, _, h0, h1, h2⟩ := open_agg3 Try.underlying26 (by kernel_rfl) (by kernel_rfl) hv h
  have hct : Try.prog.cellTypes Try.prog.depth 26 = some [22, 23, 24] := by kernel_rfl
  unfold Value.okWide at hv
  rw [Try.underlying26] at hv
  obtain ⟨cs, hcs, _, ts, hts, _, hok⟩ := hv
  cases hcs
  rw [hct] at hts
  cases hts
  have hk : ∀ (i : Nat) (u : Value) (t : TypeId), #[v0, v1, v2][i]? = some u → [22, 23, 24][i % 3]? = some t → Cell.okWide Try.prog W .any b0 t u := fun i u t hu ht => by
    obtain ⟨t', ht', ho⟩ := hok i u hu
    rw [show ([22, 23, 24] : List TypeId).length = 3 from rfl, ht] at ht'
    cases ht'; exact ho
  refine ⟨farmOf W v0 v1 v2, ?_⟩
  refine .agg (.cons (Fz.slice_isl (d := 5) (ks := [true, true, true]) Try.underlying22 (by kernel_rfl) (by kernel_rfl) (hk 0 v0 22 rfl rfl) h0 fun i j k hj => ?_)
    (.cons (Fz.slice_isl (d := 5) (ks := [true, true, true]) Try.underlying23 (by kernel_rfl) (by kernel_rfl) (hk 1 v1 23 rfl rfl) h1 fun i j k hj => ?_)
    (.cons (Fz.slice_isl (d := 5) (ks := [true, false, true, true]) Try.underlying24 (by kernel_rfl) (by kernel_rfl) (hk 2 v2 24 rfl rfl) h2 fun i j k hj => ?_) .nil)))
  · match j, hj with
    | 0, hj => cases hj; rfl
    | 1, hj => cases hj; rfl
    | 2, hj => cases hj; rfl
  · match j, hj with
    | 0, hj => cases hj; rfl
    | 1, hj => cases hj; rfl
    | 2, hj => cases hj; rfl
  · match j, hj with
    | 0, hj => cases hj; rfl
    | 1, hj => cases hj; rfl
    | 2, hj => cases hj; rfl
    | 3, hj => cases hj; rfl

theorem ints_read {H : Type} {enc : TypeId × Value → H} {W : World} {base b0 : Nat} {spare : Nat → Bool} {held : Bool} {v : Value} {d : DataW H} {p : List MemPlace}
    (hv : Value.okWide Try.prog W .any b0 27 v) (h : DataW.Trod enc Try.prog W base spare held 27 v d p) : ∃ (n : Nat) (fl : Nat → Int), Fz.VR (Fz.fiW W) (Fz.intsV n false fl) v := by
  obtain ⟨n, h0⟩ := h
  obtain ⟨a, len, cap, rfl⟩ := okWide_slice Try.underlying27 hv
  unfold Value.okWide at hv
  rw [Try.underlying27] at hv
  have h1 : DataW.trod enc Try.prog W base spare held n 27 [.slice a len cap] = some (d, p) := h0
  refine ⟨Fz.slCount (.slice a len cap), fun i => Fz.decI W (Fz.slAddr (.slice a len cap)) (i * 1 + 0), ?_⟩
  exact Fz.slice_isl (d := 5) (ks := [true]) Try.underlying27 (by kernel_rfl) (by kernel_rfl) hv h1 fun i j k hj => by
    match j, hj with
    | 0, hj => cases hj; rfl

theorem proves_contract (H : Type) (enc : TypeId × Value → H) (W : World) (base : Nat) (args : Array Value) (ds gs : List (DataW H)) (before : List MemPlace)
    (hval : ∀ (j : Nat) t v, Try.f5.params[j]? = some t → args[j]? = some v → Value.okWide Try.prog W .any base t v)
    (hW : DataW.Whole enc Try.prog Try.f5.params.toList Rows.bedProvesSpec.vars false W args.toList ds gs before) :
    Calls Try.prog 5 args W fun e W' => ∃ v, e = .returned v ∧ Rows.bedProvesSpec.post enc Try.prog Try.f5 false true false false W args v W' := by
  have hW' := hW
  obtain ⟨p, q, hA0, hV, rfl, hfz, hnd⟩ := hW
  have hA : DataW.TrodAll enc Try.prog W 0 (fun _ => true) true Try.f5.params.toList args.toList ds p := hA0
  rw [Try.params5] at hA hval
  obtain ⟨v1, v2, v3, d1, d2, d3, p1, p2, p3, rfl, rfl, rfl, h1, h2, h3⟩ := trodAll_three hA
  obtain ⟨rfl, rfl⟩ := trodVars_none hV
  obtain ⟨f, hf⟩ := farm_read (hval 0 26 v1 rfl rfl) h1
  obtain ⟨which, rfl, _, _, _⟩ := open_int Try.underlying3 (hval 1 3 v2 rfl rfl) h2
  obtain ⟨n, fl, hfl⟩ := ints_read (hval 2 27 v3 rfl rfl) h3
  rw [← callsIn_wide (n := 0)]
  refine ((Fz.bedProves_ok awake_pure f which n false fl).call ⟨[], 0⟩ (Fz.fiW W) W [v1, .int .i64 which, v3] 0 (Fz.relW W) (.cons hf (.cons (.lit _) (.cons hfl .nil)))).mono fun e W' hp => ?_
  obtain ⟨v, cv, st', φ', rfl, ⟨rfl, rfl⟩, hv, _, _, hfr⟩ := hp
  obtain rfl := hv.lit_inv
  have hb : Below W.heap.size W W' := ⟨hfr.os, hfr.tape, hfr.output, hfr.size, fun k hk => hfr.block k hk fun ⟨id, o, h, _⟩ => by simp [Fz.Hp.get] at h⟩
  have hlt : ∀ x ∈ p1 ++ p2 ++ p3 ++ [], x.block < W.heap.size := fun x hx => hW'.lt x hx
  refine ⟨_, rfl, post_of_below (pa := p1 ++ (p2 ++ p3)) (pv := []) hW' (fun _ _ _ => (trodAll_cons_mk (shut_bool Try.underlying4 _) trodAll_mk0)) (fun sp hsp => ?_) (fun _ _ => rfl) (by simp) hb
    (ok_one (by kernel_rfl) rfl (okWide_bool_mk Try.underlying4 _))⟩
  show DataW.TrodAll enc Try.prog W' 0 sp true Try.f5.params.toList _ [d1, d2, d3] _
  rw [Try.params5]
  have in1 : ∀ x ∈ p1, x ∈ p1 ++ p2 ++ p3 ++ [] := fun x hx => by simp [hx]
  have in2 : ∀ x ∈ p2, x ∈ p1 ++ p2 ++ p3 ++ [] := fun x hx => by simp [hx]
  have in3 : ∀ x ∈ p3, x ∈ p1 ++ p2 ++ p3 ++ [] := fun x hx => by simp [hx]
  exact trodAll_mk3
    (WideElems.Trod_stays laid (by kernel_rfl) (Ev.lt_of_ble (by kernel_rfl)) h1 (fun x hx => hb.same (hlt x (in1 x hx))) fun x hx => hsp x (in1 x hx))
    (WideElems.Trod_stays laid (by kernel_rfl) (Ev.lt_of_ble (by kernel_rfl)) h2 (fun x hx => hb.same (hlt x (in2 x hx))) fun x hx => hsp x (in2 x hx))
    (WideElems.Trod_stays laid (by kernel_rfl) (Ev.lt_of_ble (by kernel_rfl)) h3 (fun x hx => hb.same (hlt x (in3 x hx))) fun x hx => hsp x (in3 x hx))

theorem proves_lifted (os : Os) (started : os.Started) (H : Type) (enc : TypeId × Value → H) :
    ReturnsInHanded {} Try.checked os 5 .any (Rows.bedProvesSpec.pre6 enc Try.prog Try.f5 Rows.bedProvesRow.domain false) (Rows.bedProvesSpec.post enc Try.prog Try.f5 false true false false) := by
  refine returnsInHanded_of_change (C := Try.checked) (s := Rows.bedProvesSpec) own started (by kernel_rfl) Try.func5
    (ChangeSpec.witness6 (enc := enc) (C := Try.checked) false ⟨#[], #[.agg #[.slice none 0 0, .slice none 0 0, .slice none 0 0], .int .i64 0, .slice none 0 0], []⟩ 5 (by kernel_rfl) (by kernel_rfl) (by kernel_rfl) (by kernel_rfl)) ?_
  intro W base args ds gs before hval hW _ _
  exact proves_contract H enc W base args ds gs before hval hW

theorem bedProves_holds : Rows.BedProvesSaid :=
  OpenClaim.holds_of_wide 5 Try.f5 rfl rfl rfl rfl rfl rfl rfl ⟨rfl, rfl, rfl, rfl, rfl⟩ rfl rfl rfl rfl rfl (by kernel_rfl) Try.func5 (by kernel_rfl)
    (of_decide_eq_true (by kernel_rfl)) (by unfold Func.isWrapper; first | (rw [if_pos (by decide +kernel)]; kernel_rfl) | (rw [if_neg (by decide +kernel)]; exact ⟨rfl, rfl⟩))
    (fun os started H enc _ => proves_lifted os started H enc)

end Go.Proofs.Ytgfahkehkpjabaa
