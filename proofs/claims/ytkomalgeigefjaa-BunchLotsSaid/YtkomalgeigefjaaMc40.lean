/- Own work of the verifier of watercress: FzE6. -/
import Derived.Carry
import Derived.Test.YtkomalgeigefjaaRows
import Derived.Test.YtkomalgeigefjaaMc38
import Derived.Test.YtkomalgeigefjaaMc7
import Derived.Test.YtkomalgeigefjaaMc39
set_option linter.unusedVariables false
set_option linter.unusedSimpArgs false
namespace Go.Proofs.Ytkomalgeigefjaa
open Go.ChangeShapes Go.WideShapes Go.ChangeAt Go.RowKit Go.Joins
set_option linter.unusedVariables false
set_option maxRecDepth 100000
theorem post_of_below {H : Type} {enc : TypeId × Value → H} {P : Program} {f : Func} {s : ChangeSpec} {apart fresh handsOn again : Bool} {W W' : World} {args : Array Value} {v : Value} {ds gs : List (DataW H)} {before pa pv : List MemPlace}
    (hW : DataW.Whole enc P f.params.toList s.vars apart W args.toList ds gs before)
    (hres : ∀ (b : Nat) (sp : Nat → Bool) (hd : Bool), DataW.TrodAll enc P W' b sp hd f.resultTypes.toList (v.resultList f.resultTypes.size) (s.fn H (ds ++ gs)).results [])
    (hargs : ∀ sp : Nat → Bool, (∀ p ∈ before, sp p.block = true) → DataW.TrodAll enc P W' 0 sp true f.params.toList args.toList (s.fn H (ds ++ gs)).args pa)
    (hvars : ∀ sp : Nat → Bool, (∀ p ∈ before, sp p.block = true) → DataW.TrodVars enc P W' sp s.vars (s.fn H (ds ++ gs)).vars pv)
    (hps : before = pa ++ pv) (hb : Below W.heap.size W W')
    (hok : ∀ (j : Nat) (t : TypeId) (r : Value), f.resultTypes[j]? = some t → (v.resultList f.resultTypes.size)[j]? = some r → Value.okWide P W' .any 0 t r) :
    s.post enc P f apart fresh handsOn again W args v W' := by
  have hlt : ∀ p ∈ before, p.block < W.heap.size := fun p hp => hW.lt p hp
  have hold : ∀ p ∈ before, (fun b => decide (b < W.heap.size)) p.block = true := fun p hp => by simpa using hlt p hp
  refine ⟨ds, gs, before, [], pa, pv, hW, hres _ _ _, hargs _ hold, hvars _ hold, World.keptBut_mono (fun p hp => ⟨hp, ?_⟩) (hb.frame (· ∈ before)), fun _ => ?_⟩
  · rw [hps, List.mem_append] at hp
    exact Or.inr hp
  · obtain ⟨_, _, _, _, _, hz, hn⟩ := hW
    refine ⟨hok, _, _, ([] ++ pa) ++ pv, ⟨[] ++ pa, pv, trodAll_append (hargs _ (fun _ _ => rfl)) (hres _ _ _), hvars _ (fun _ _ => rfl), rfl, ?_, ?_⟩, ?_⟩
    · intro b off hp
      have hin : MemPlace.cell b off ∈ before := by rw [hps]; simpa using hp
      rw [hb.frozen (hlt _ hin)]
      exact hz b off hin
    · intro ha
      have := hn ha
      rw [hps] at this
      simpa using this
    · intro p hp _
      rw [hps]
      simpa using hp
theorem pure_of_ev {P : Program} {g : FuncId} (he : Ev.Enters P g) (h : ∀ st, Ev.CallW P g [] st (fun v st' => v = .lit (.bool true) ∧ st' = st)) : Fz.Pure P g [] (.lit (.bool true)) := by
  refine ⟨he, fun st φ w cargs n hrel hargs => ?_⟩
  cases hargs
  have hr0 : Ev.Rel ⟨fun _ => ⟨0, 0, 0⟩, 0⟩ ⟨[], 0⟩ w := ⟨rfl, fun _ _ h => by simp [Ev.Hp.get] at h, fun _ _ h => by simp [Ev.Hp.get] at h, fun _ _ h => by simp [Ev.Hp.get] at h, fun _ _ _ _ h => by simp [Ev.Hp.get] at h⟩
  refine (h ⟨[], 0⟩ ⟨fun _ => ⟨0, 0, 0⟩, 0⟩ w [] n hr0 .nil).mono fun e W' hp => ?_
  obtain ⟨v, cv, st', φ', rfl, ⟨rfl, rfl⟩, hv, _, _, hf⟩ := hp
  obtain rfl := hv.lit_inv
  have hblk : ∀ k, k < w.heap.size → W'.heap[k]? = w.heap[k]? := fun k hk => hf.block k hk fun ⟨id, o, h, _⟩ => by simp [Ev.Hp.get] at h
  refine ⟨.lit (.bool true), .bool true, st, φ, rfl, ⟨rfl, rfl⟩, .lit _, Fz.Ext.refl _, ?_, ⟨hf.os, hf.tape, hf.output, hf.size, fun k hk _ => hblk k hk, fun k hk => .inl hk, fun b c hb => .inl hb⟩⟩
  refine ⟨hrel.n, hrel.lt, fun id o h => Nat.lt_of_lt_of_le (hrel.blk id o h) hf.size, fun id o h => (hrel.obj id o h).same (Fz.Ext.refl _) (by rw [hrel.n]; exact hrel.lt id o h) (hblk _ (hrel.blk id o h)), hrel.sep, hrel.fam, fun b c hb => ?_⟩
  obtain ⟨h1, h2, h3⟩ := hrel.froz b c hb
  refine ⟨Nat.lt_of_lt_of_le h1 hf.size, fun i v hv => ?_, h3⟩
  rw [← h2 i v hv]
  exact World.cell?_of_block (hblk b h1)
theorem awake_pure : Fz.Pure Try.prog 8 [] (.lit (.bool true)) := pure_of_ev Ev.c8_ok.1 Ev.c8_ok.2
theorem own : ownKnob Try.prog.godebug = none := by kernel_rfl
theorem laid : laidOutB Try.prog = true := by kernel_rfl
noncomputable def dayOf (W : World) (z0 z1 : Int) (v2 v3 v4 : Value) : Fz.DayD where
  hand := z0
  flat := z1
  nw := Fz.slCount v2
  wlo := fun i => Fz.decI W (Fz.slAddr v2) (i * 2 + 0)
  whi := fun i => Fz.decI W (Fz.slAddr v2) (i * 2 + 1)
  nl := Fz.slCount v3
  lw := fun i => Fz.decI W (Fz.slAddr v3) (i * 3 + 0)
  llo := fun i => Fz.decI W (Fz.slAddr v3) (i * 3 + 1)
  lhi := fun i => Fz.decI W (Fz.slAddr v3) (i * 3 + 2)
  nc := Fz.slCount v4
  ck := fun i => Fz.decI W (Fz.slAddr v4) (i * 4 + 0)
  cw := fun i => Fz.decI W (Fz.slAddr v4) (i * 4 + 1)
  clo := fun i => Fz.decI W (Fz.slAddr v4) (i * 4 + 2)
  chi := fun i => Fz.decI W (Fz.slAddr v4) (i * 4 + 3)
theorem day_parts {H : Type} {enc : TypeId × Value → H} {W : World} {base b0 : Nat} {spare : Nat → Bool} {held : Bool} {v : Value} {d : DataW H} {p : List MemPlace}
    (hv : Value.okWide Try.prog W .any b0 26 v) (h : DataW.Trod enc Try.prog W base spare held 26 v d p) :
    ∃ (z0 z1 : Int) (v2 v3 v4 : Value) (y2 y3 y4 : DataW H × List MemPlace) (n : Nat), v = .agg #[.int .i64 z0, .int .i64 z1, v2, v3, v4] ∧
      DataW.trod enc Try.prog W base spare held n 22 [v2] = some y2 ∧ DataW.trod enc Try.prog W base spare held n 23 [v3] = some y3 ∧ DataW.trod enc Try.prog W base spare held n 24 [v4] = some y4 := by
  obtain ⟨cs, rfl, hsz⟩ := okWide_struct Try.underlying26 hv
  have hC : Try.prog.cellsOf 26 = 5 := by kernel_rfl
  have c3 : Try.prog.cellsOf 3 = 1 := by kernel_rfl
  have c22 : Try.prog.cellsOf 22 = 1 := by kernel_rfl
  have c23 : Try.prog.cellsOf 23 = 1 := by kernel_rfl
  have c24 : Try.prog.cellsOf 24 = 1 := by kernel_rfl
  rw [hC] at hsz
  obtain ⟨l⟩ := cs
  match l, hsz with
  | [u0, u1, u2, u3, u4], _ =>
    obtain ⟨fuel, hf⟩ := h
    obtain ⟨xs, n, _, _, _, hlen, hx⟩ := DataW.trod_struct Try.underlying26 hf
    match xs, hlen with
    | [y0, y1, y2, y3, y4], _ =>
      have h0 : DataW.trod enc Try.prog W base spare held n 3 [u0] = some y0 := by simpa [Value.cells, c3] using hx 0 _ rfl
      have h1 : DataW.trod enc Try.prog W base spare held n 3 [u1] = some y1 := by simpa [Value.cells, c3] using hx 1 _ rfl
      have h2 : DataW.trod enc Try.prog W base spare held n 22 [u2] = some y2 := by simpa [Value.cells, c22] using hx 2 _ rfl
      have h3 : DataW.trod enc Try.prog W base spare held n 23 [u3] = some y3 := by simpa [Value.cells, c23] using hx 3 _ rfl
      have h4 : DataW.trod enc Try.prog W base spare held n 24 [u4] = some y4 := by simpa [Value.cells, c24] using hx 4 _ rfl
      obtain ⟨z0, e0, _, _⟩ := DataW.trod_int Try.underlying3 h0
      obtain ⟨z1, e1, _, _⟩ := DataW.trod_int Try.underlying3 h1
      obtain rfl : u0 = .int .i64 z0 := by simpa using e0
      obtain rfl : u1 = .int .i64 z1 := by simpa using e1
      exact ⟨z0, z1, u2, u3, u4, y2, y3, y4, n, rfl, h2, h3, h4⟩
theorem day_read {H : Type} {enc : TypeId × Value → H} {W : World} {base b0 : Nat} {spare : Nat → Bool} {held : Bool} {v : Value} {d : DataW H} {p : List MemPlace}
    (hv : Value.okWide Try.prog W .any b0 26 v) (h : DataW.Trod enc Try.prog W base spare held 26 v d p) : ∃ f : Fz.DayD, Fz.VR (Fz.fiW W) (Fz.dayV f) v := by
  obtain ⟨z0, z1, v2, v3, v4, y2, y3, y4, n, rfl, h2, h3, h4⟩ := day_parts hv h
  have hct : Try.prog.cellTypes Try.prog.depth 26 = some [3, 3, 22, 23, 24] := by kernel_rfl
  unfold Value.okWide at hv
  rw [Try.underlying26] at hv
  obtain ⟨cs, hcs, _, ts, hts, _, hok⟩ := hv
  cases hcs
  rw [hct] at hts
  cases hts
  have hk : ∀ (i : Nat) (u : Value) (t : TypeId), #[Value.int .i64 z0, .int .i64 z1, v2, v3, v4][i]? = some u → [3, 3, 22, 23, 24][i % 5]? = some t → Cell.okWide Try.prog W .any b0 t u := fun i u t hu ht => by
    obtain ⟨t', ht', ho⟩ := hok i u hu
    rw [show ([3, 3, 22, 23, 24] : List TypeId).length = 5 from rfl, ht] at ht'
    cases ht'; exact ho
  refine ⟨dayOf W z0 z1 v2 v3 v4, ?_⟩
  refine .agg (.cons (.lit _) (.cons (.lit _) (.cons (Fz.slice_isl (d := 5) (ks := [true, true]) Try.underlying22 (by kernel_rfl) (by kernel_rfl) (hk 2 v2 22 rfl rfl) h2 fun i j k hj => ?_)
    (.cons (Fz.slice_isl (d := 5) (ks := [true, true, true]) Try.underlying23 (by kernel_rfl) (by kernel_rfl) (hk 3 v3 23 rfl rfl) h3 fun i j k hj => ?_)
    (.cons (Fz.slice_isl (d := 5) (ks := [true, true, true, true]) Try.underlying24 (by kernel_rfl) (by kernel_rfl) (hk 4 v4 24 rfl rfl) h4 fun i j k hj => ?_) .nil)))))
  · match j, hj with
    | 0, hj => cases hj; rfl
    | 1, hj => cases hj; rfl
  · match j, hj with
    | 0, hj => cases hj; rfl
    | 1, hj => cases hj; rfl
    | 2, hj => cases hj; rfl
  · match j, hj with
    | 0, hj => cases hj; rfl
    | 1, hj => cases hj; rfl
    | 2, hj => cases hj; rfl
    | 3, hj => cases hj; rfl
theorem u16_in {n : Int} (h : (Lit.int .u16 n).wf = true) : 0 ≤ n ∧ n ≤ 65535 := by
  simp [Lit.wf, IntKind.min, IntKind.max, IntKind.signed, IntKind.bits] at h
  omega
theorem u8_in {n : Int} (h : (Lit.int .u8 n).wf = true) : 0 ≤ n ∧ n ≤ 255 := by
  simp [Lit.wf, IntKind.min, IntKind.max, IntKind.signed, IntKind.bits] at h
  omega
end Go.Proofs.Ytkomalgeigefjaa
