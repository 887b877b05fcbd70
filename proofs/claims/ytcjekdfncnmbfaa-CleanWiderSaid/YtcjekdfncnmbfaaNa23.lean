/- Own work of the verifier of watercress: FzCe1. -/
import Derived.Carry
import Derived.Test.YtcjekdfncnmbfaaRows
import Derived.Test.YtcjekdfncnmbfaaNa22
set_option linter.unusedVariables false
set_option linter.unusedSimpArgs false
namespace Go.Proofs.Ytcjekdfncnmbfaa
open Go.ChangeShapes Go.WideShapes Go.ChangeAt Go.RowKit Go.Joins
set_option linter.unusedVariables false
set_option maxRecDepth 100000
theorem post_of_below {H : Type} {enc : TypeId × Value → H} {P : Program} {f : Func} {s : ChangeSpec} {apart fresh handsOn again : Bool} {W W' : World} {args : Array Value} {v : Value} {ds gs : List (DataW H)} {before pa pv : List MemPlace}
    (hW : DataW.Whole enc P f.params.toList s.vars apart W args.toList ds gs before)
    (hres : ∀ (b : Nat) (sp : Nat → Bool) (hd : Bool), DataW.TrodAll enc P W' b sp hd f.resultTypes.toList (v.resultList f.resultTypes.size) (s.fn H (ds ++ gs)).results [])
    (hargs : ∀ sp : Nat → Bool, (∀ p ∈ before, sp p.block = true) → DataW.TrodAll enc P W' 0 sp true f.params.toList args.toList (s.fn H (ds ++ gs)).args pa)
    (hvars : ∀ sp : Nat → Bool, (∀ p ∈ before, sp p.block = true) → DataW.TrodVars enc P W' sp s.vars (s.fn H (ds ++ gs)).vars pv)
    (hps : before = pa ++ pv) (hb : Below W.heap.size W W')
    (hok : ∀ (j : Nat) (t : TypeId) (r : Value), f.resultTypes[j]? = some t → (v.resultList f.resultTypes.size)[j]? = some r → Value.okWide P W' .any 0 t r) :
    s.post enc P f apart fresh handsOn again W args v W' := by
  have hlt : ∀ p ∈ before, p.block < W.heap.size := fun p hp => hW.lt p hp
  have hold : ∀ p ∈ before, (fun b => decide (b < W.heap.size)) p.block = true := fun p hp => by simpa using hlt p hp
  refine ⟨ds, gs, before, [], pa, pv, hW, hres _ _ _, hargs _ hold, hvars _ hold, World.keptBut_mono (fun p hp => ⟨hp, ?_⟩) (hb.frame (· ∈ before)), fun _ => ?_⟩
  · rw [hps, List.mem_append] at hp
    exact Or.inr hp
  · obtain ⟨_, _, _, _, _, hz, hn⟩ := hW
    refine ⟨hok, _, _, ([] ++ pa) ++ pv, ⟨[] ++ pa, pv, trodAll_append (hargs _ (fun _ _ => rfl)) (hres _ _ _), hvars _ (fun _ _ => rfl), rfl, ?_, ?_⟩, ?_⟩
    · intro b off hp
      have hin : MemPlace.cell b off ∈ before := by rw [hps]; simpa using hp
      rw [hb.frozen (hlt _ hin)]
      exact hz b off hin
    · intro ha
      have := hn ha
      rw [hps] at this
      simpa using this
    · intro p hp _
      rw [hps]
      simpa using hp
theorem own : ownKnob Try.prog.godebug = none := by kernel_rfl
theorem laid : laidOutB Try.prog = true := by kernel_rfl
noncomputable def yardOf (W : World) (z0 z1 : Int) (v2 v3 : Value) : Fz.YardD where
  last := z0
  hands := z1
  nb := Fz.slCount v2
  lng := fun i => Fz.decI W (Fz.slAddr v2) (i * 3 + 0)
  blo := fun i => Fz.decI W (Fz.slAddr v2) (i * 3 + 1)
  bhi := fun i => Fz.decI W (Fz.slAddr v2) (i * 3 + 2)
  nc := Fz.slCount v3
  cb := fun i => Fz.decI W (Fz.slAddr v3) (i * 3 + 0)
  clo := fun i => Fz.decI W (Fz.slAddr v3) (i * 3 + 1)
  chi := fun i => Fz.decI W (Fz.slAddr v3) (i * 3 + 2)
theorem yard_parts {H : Type} {enc : TypeId × Value → H} {W : World} {base b0 : Nat} {spare : Nat → Bool} {held : Bool} {v : Value} {d : DataW H} {p : List MemPlace}
    (hv : Value.okWide Try.prog W .any b0 25 v) (h : DataW.Trod enc Try.prog W base spare held 25 v d p) :
    ∃ (z0 z1 : Int) (v2 v3 : Value) (y2 y3 : DataW H × List MemPlace) (n : Nat), v = .agg #[.int .i64 z0, .int .i64 z1, v2, v3] ∧
      DataW.trod enc Try.prog W base spare held n 22 [v2] = some y2 ∧ DataW.trod enc Try.prog W base spare held n 23 [v3] = some y3 := by
  obtain ⟨cs, rfl, hsz⟩ := okWide_struct Try.underlying25 hv
  have hC : Try.prog.cellsOf 25 = 4 := by kernel_rfl
  have c3 : Try.prog.cellsOf 3 = 1 := by kernel_rfl
  have c22 : Try.prog.cellsOf 22 = 1 := by kernel_rfl
  have c23 : Try.prog.cellsOf 23 = 1 := by kernel_rfl
  rw [hC] at hsz
  obtain ⟨l⟩ := cs
  match l, hsz with
  | [u0, u1, u2, u3], _ =>
    obtain ⟨fuel, hf⟩ := h
    obtain ⟨xs, n, _, _, _, hlen, hx⟩ := DataW.trod_struct Try.underlying25 hf
    match xs, hlen with
    | [y0, y1, y2, y3], _ =>
      have h0 : DataW.trod enc Try.prog W base spare held n 3 [u0] = some y0 := by simpa [Value.cells, c3] using hx 0 _ rfl
      have h1 : DataW.trod enc Try.prog W base spare held n 3 [u1] = some y1 := by simpa [Value.cells, c3] using hx 1 _ rfl
      have h2 : DataW.trod enc Try.prog W base spare held n 22 [u2] = some y2 := by simpa [Value.cells, c22] using hx 2 _ rfl
      have h3 : DataW.trod enc Try.prog W base spare held n 23 [u3] = some y3 := by simpa [Value.cells, c23] using hx 3 _ rfl
      obtain ⟨z0, e0, _, _⟩ := DataW.trod_int Try.underlying3 h0
      obtain ⟨z1, e1, _, _⟩ := DataW.trod_int Try.underlying3 h1
      obtain rfl : u0 = .int .i64 z0 := by simpa using e0
      obtain rfl : u1 = .int .i64 z1 := by simpa using e1
      exact ⟨z0, z1, u2, u3, y2, y3, n, rfl, h2, h3⟩
theorem yard_of_parts {H : Type} {enc : TypeId × Value → H} {W : World} {base b0 : Nat} {spare : Nat → Bool} {held : Bool} {z0 z1 : Int} {v2 v3 : Value} {d : DataW H} {p : List MemPlace}
    (hv : Value.okWide Try.prog W .any b0 25 (.agg #[.int .i64 z0, .int .i64 z1, v2, v3])) (h : DataW.Trod enc Try.prog W base spare held 25 (.agg #[.int .i64 z0, .int .i64 z1, v2, v3]) d p) : Fz.VR (Fz.fiW W) (Fz.yardV (yardOf W z0 z1 v2 v3)) (.agg #[.int .i64 z0, .int .i64 z1, v2, v3]) := by
  obtain ⟨z0', z1', v2', v3', y2, y3, n, he, h2, h3⟩ := yard_parts hv h
  simp only [Value.agg.injEq, Array.mk.injEq, List.cons.injEq, Value.int.injEq, true_and, and_true] at he
  obtain ⟨rfl, rfl, rfl, rfl⟩ := he
  have hct : Try.prog.cellTypes Try.prog.depth 25 = some [3, 3, 22, 23] := by kernel_rfl
  unfold Value.okWide at hv
  rw [Try.underlying25] at hv
  obtain ⟨cs, hcs, _, ts, hts, _, hok⟩ := hv
  cases hcs
  rw [hct] at hts
  cases hts
  have hk : ∀ (i : Nat) (u : Value) (t : TypeId), #[Value.int .i64 z0, .int .i64 z1, v2, v3][i]? = some u → [3, 3, 22, 23][i % 4]? = some t → Cell.okWide Try.prog W .any b0 t u := fun i u t hu ht => by
    obtain ⟨t', ht', ho⟩ := hok i u hu
    rw [show ([3, 3, 22, 23] : List TypeId).length = 4 from rfl, ht] at ht'
    cases ht'; exact ho
  refine .agg (.cons (.lit _) (.cons (.lit _) (.cons (Fz.slice_isl (d := 5) (ks := [true, true, true]) Try.underlying22 (by kernel_rfl) (by kernel_rfl) (hk 2 v2 22 rfl rfl) h2 fun i j k hj => ?_)
    (.cons (Fz.slice_isl (d := 5) (ks := [true, true, true]) Try.underlying23 (by kernel_rfl) (by kernel_rfl) (hk 3 v3 23 rfl rfl) h3 fun i j k hj => ?_) .nil))))
  · match j, hj with
    | 0, hj => cases hj; rfl
    | 1, hj => cases hj; rfl
    | 2, hj => cases hj; rfl
  · match j, hj with
    | 0, hj => cases hj; rfl
    | 1, hj => cases hj; rfl
    | 2, hj => cases hj; rfl
theorem yard_read {H : Type} {enc : TypeId × Value → H} {W : World} {base b0 : Nat} {spare : Nat → Bool} {held : Bool} {v : Value} {d : DataW H} {p : List MemPlace}
    (hv : Value.okWide Try.prog W .any b0 25 v) (h : DataW.Trod enc Try.prog W base spare held 25 v d p) : ∃ f : Fz.YardD, Fz.VR (Fz.fiW W) (Fz.yardV f) v := by
  obtain ⟨z0, z1, v2, v3, y2, y3, n, rfl, h2, h3⟩ := yard_parts hv h
  exact ⟨_, yard_of_parts hv h⟩
theorem u8_in {n : Int} (h : (Lit.int .u8 n).wf = true) : 0 ≤ n ∧ n ≤ 255 := by
  simp [Lit.wf, IntKind.min, IntKind.max, IntKind.signed, IntKind.bits] at h
  omega
end Go.Proofs.Ytcjekdfncnmbfaa
