/-
  BunchTruth (P5.6, P5.7), as it is stated: for every day, every number and all words, whatever the world is, the law returns true and never panics, and its arguments read as before. Conditions: none but the statement's own. Own work of the verifier of watercress.
-/
import Derived.Test.YtpefamheopplnaaMl9
import Derived.Test.YtpefamheopplnaaMl33
import Derived.Test.YtpefamheopplnaaMl35
set_option linter.unusedVariables false
set_option linter.unusedSimpArgs false
namespace Go.Proofs.Ytpefamheopplnaa
open Go.ChangeShapes Go.WideShapes Go.ChangeAt Go.RowKit Go.Joins
set_option linter.unusedVariables false
set_option maxRecDepth 100000
open Go.Fz in
theorem slice_cellsI {H : Type} {enc : TypeId × Value → H} {P : Program} {w : World} {base : Nat} {spare : Nat → Bool} {held : Bool} {t e : TypeId} {n : Nat} {k : IntKind} {v : Value} {x : DataW H × List MemPlace} {r : Reach} {b0 : Nat} (ht : P.underlying t = some (.slice e)) (he : P.underlying e = some (.int k)) (hc : P.cellsOf e = 1)
    (hok : Cell.okWide P w r b0 t v) (h : DataW.trod enc P w base spare held n t [v] = some x) :
    v = .slice none 0 0 ∨ ∃ a cap c, v = .slice (some a) (slCount v) cap ∧ slCount v ≤ cap ∧ a.spot = none ∧ zW w a.block = some c ∧
      ∀ i, i < slCount v → ∃ z, w.cell? ⟨a.block, a.off + i, none⟩ = some (.int k z) ∧ (Lit.int k z).wf = true := by
  rcases Go.Deep.open_slice ht h with ⟨h0, _⟩ | ⟨a, len, cap, m, n', D, Pl, hcs, _, hl, _, hm, _, hi⟩
  · left; simpa using h0
  · right
    have hv : v = .slice (some a) len cap := by simpa using hcs
    subst hv
    have hok' : w.has P r b0 a e cap := by
      unfold Cell.okWide at hok
      rw [ht] at hok
      unfold Cell.ok at hok
      rw [ht] at hok
      exact hok.2.2
    obtain ⟨_, hs, row, cells, hsh, _⟩ := hok'
    refine ⟨a, cap, ?_⟩
    have hz : ∃ c, zW w a.block = some c := by
      unfold World.shape? at hsh
      split at hsh
      · rename_i c t' z hb
        exact ⟨fun i => c[i]?, by unfold zW; rw [hb]⟩
      · rename_i hh
        cases hsh
    obtain ⟨c, hz⟩ := hz
    refine ⟨c, rfl, hl, hs, hz, fun i hil => ?_⟩
    have him : i < m := by
      rw [hm]; simp only [slCount] at hil; split <;> omega
    obtain ⟨cs', hcells, htr⟩ := hi i him
    obtain ⟨z, rfl, _, hw⟩ := DataW.trod_int he htr
    refine ⟨z, ?_, hw⟩
    obtain ⟨_, hlen, hat⟩ := World.cells?_some hcells
    have h1 := hat 0 (by rw [hc]; omega)
    rw [hc] at h1
    have h2 : w.cell? ((a.add (i * 1)).add 0) = some (.int k z) := h1
    rw [← h2]
    congr 1
    unfold Addr.add
    obtain ⟨ab, ao, asp⟩ := a
    simp only at hs
    subst hs
    by_cases h3 : i = 0
    · simp [h3]
    · simp [h3]
open Go.Fz in
theorem u16s_read {H : Type} {enc : TypeId × Value → H} {W : World} {base b0 : Nat} {spare : Nat → Bool} {held : Bool} {t e : TypeId} {v : Value} {d : DataW H} {p : List MemPlace} (ht : Try.prog.underlying t = some (.slice e)) (he : Try.prog.underlying e = some (.int .u16)) (hc : Try.prog.cellsOf e = 1)
    (hv : Value.okWide Try.prog W .any b0 t v) (h : DataW.Trod enc Try.prog W base spare held t v d p) : ∃ (n : Nat) (wf : Nat → Int), (∀ i, i < n → 0 ≤ wf i ∧ wf i ≤ 65535) ∧ VR (fiW W) (u16V n wf) v := by
  obtain ⟨m, h0⟩ := h
  obtain ⟨a, len, cap, rfl⟩ := okWide_slice ht hv
  unfold Value.okWide at hv
  rw [ht] at hv
  have h1 : DataW.trod enc Try.prog W base spare held m t [.slice a len cap] = some (d, p) := h0
  rcases slice_cellsI ht he hc hv h1 with h2 | ⟨b, cap', c, h2, hl, hs, hz, hcell⟩
  · refine ⟨0, fun _ => 0, fun i hi => absurd hi (Nat.not_lt_zero i), ?_⟩
    rw [h2]; exact .isl0 _ _ _
  · generalize hN : slCount (Value.slice a len cap) = N at *
    rw [h2]
    obtain ⟨ab, ao, asp⟩ := b
    simp only at hs
    subst hs
    refine ⟨N, fun i => decI W ⟨ab, ao, none⟩ i, fun i hi => ?_, ?_⟩
    · obtain ⟨z, hu, hw⟩ := hcell i hi
      have : decI W ⟨ab, ao, none⟩ i = z := by simp [decI, hu]
      show 0 ≤ decI W ⟨ab, ao, none⟩ i ∧ decI W ⟨ab, ao, none⟩ i ≤ 65535
      rw [this]; exact u16_in hw
    · refine .isl N 1 false (u16C _) ab ao cap' c (fun i k => (W.cell? ⟨ab, ao + i, none⟩).getD undef) hz (fun i k hi hk' => ?_) (fun i k hi hk' => ?_) hl (fun h => by cases h)
      · obtain rfl : k = 0 := by omega
        obtain ⟨z, hu, _⟩ := hcell i hi
        rw [zW_cell (w := W) hz, show ao + i * 1 + 0 = ao + i by omega, hu]; rfl
      · obtain ⟨z, hu, _⟩ := hcell i hi
        have : decI W ⟨ab, ao, none⟩ i = z := by simp [decI, hu]
        show VR _ (.lit (.int .u16 (decI W ⟨ab, ao, none⟩ i))) _
        rw [this, hu]; exact .lit _
theorem truth_contract (H : Type) (enc : TypeId × Value → H) (W : World) (base : Nat) (args : Array Value) (ds gs : List (DataW H)) (before : List MemPlace)
    (hval : ∀ (j : Nat) t v, Try.f8.params[j]? = some t → args[j]? = some v → Value.okWide Try.prog W .any base t v)
    (hW : DataW.Whole enc Try.prog Try.f8.params.toList Rows.bunchTruthSpec.vars false W args.toList ds gs before) :
    Calls Try.prog 8 args W fun e W' => ∃ v, e = .returned v ∧ Rows.bunchTruthSpec.post enc Try.prog Try.f8 false true false false W args v W' := by
  have hW' := hW
  obtain ⟨p, q, hA0, hV, rfl, hfz, hnd⟩ := hW
  have hA : DataW.TrodAll enc Try.prog W 0 (fun _ => true) true Try.f8.params.toList args.toList ds p := hA0
  rw [Try.params8] at hA hval
  obtain ⟨v1, v2, v3, d1, d2, d3, p1, p2, p3, rfl, rfl, rfl, h1, h2, h3⟩ := trodAll_three hA
  obtain ⟨rfl, rfl⟩ := trodVars_none hV
  obtain ⟨f, hf⟩ := day_read (hval 0 26 v1 rfl rfl) h1
  obtain ⟨x0, rfl, rfl, rfl, w0⟩ := open_int (k := .u16) (by kernel_rfl) (hval 1 81 v2 rfl rfl) h2
  obtain ⟨wn, wf, hwf, hw3⟩ := u16s_read (e := 81) (by kernel_rfl) (by kernel_rfl) (by kernel_rfl) (hval 2 82 v3 rfl rfl) h3
  rw [← callsIn_wide (n := 0)]
  refine ((Fz.bunchTruth_ok Fz.awake_ok f x0 (u16_in w0).1 (u16_in w0).2 wn wf hwf).call ⟨[], 0⟩ (Fz.fiW W) W [v1, .int .u16 x0, v3] 0 (Fz.relW W) (.cons hf (.cons (.lit _) (.cons hw3 .nil)))).mono fun e W' hp => ?_
  obtain ⟨v, cv, st', φ', rfl, ⟨rfl, rfl⟩, hv, _, _, hfr⟩ := hp
  obtain rfl := hv.lit_inv
  have hb : Below W.heap.size W W' := ⟨hfr.os, hfr.tape, hfr.output, hfr.size, fun k hk => hfr.block k hk fun ⟨id, o, h, _⟩ => by simp [Fz.Hp.get] at h⟩
  have hlt : ∀ x ∈ p1, x.block < W.heap.size := fun x hx => hW'.lt x (by simp [hx])
  have hlt3 : ∀ x ∈ p3, x.block < W.heap.size := fun x hx => hW'.lt x (by simp [hx])
  refine ⟨_, rfl, post_of_below (pa := p1 ++ p3) (pv := []) hW' (fun _ _ _ => (trodAll_cons_mk (shut_bool Try.underlying4 _) trodAll_mk0)) (fun sp hsp => ?_) (fun _ _ => rfl) (by simp) hb
    (ok_one (by kernel_rfl) rfl (okWide_bool_mk Try.underlying4 _))⟩
  show DataW.TrodAll enc Try.prog W' 0 sp true Try.f8.params.toList _ [d1, _, d3] _
  rw [Try.params8]
  have := trodAll_mk3
    (WideElems.Trod_stays laid (by kernel_rfl) (Nat.le_of_ble_eq_true (by kernel_rfl)) h1 (fun x hx => hb.same (hlt x hx)) fun x hx => hsp x (by simp [hx]))
    (shut_int (enc := enc) (P := Try.prog) (w := W') (base := 0) (spare := sp) (held := true) (t := 81) (k := .u16) (n := x0) (by kernel_rfl) w0)
    (WideElems.Trod_stays laid (by kernel_rfl) (Nat.le_of_ble_eq_true (by kernel_rfl)) h3 (fun x hx => hb.same (hlt3 x hx)) fun x hx => hsp x (by simp [hx]))
  simpa using this
theorem truth_lifted (os : Os) (started : os.Started) (H : Type) (enc : TypeId × Value → H) :
    ReturnsInHanded {} Try.checked os 8 .any (Rows.bunchTruthSpec.pre6 enc Try.prog Try.f8 Rows.bunchTruthRow.domain false) (Rows.bunchTruthSpec.post enc Try.prog Try.f8 false true false false) := by
  refine returnsInHanded_of_change (C := Try.checked) (s := Rows.bunchTruthSpec) own started (by kernel_rfl) Try.func8
    (ChangeSpec.witness6 (enc := enc) (C := Try.checked) false ⟨#[], #[.agg #[.int .i64 0, .int .i64 0, .slice none 0 0, .slice none 0 0, .slice none 0 0], .int .u16 0, .slice none 0 0], []⟩ 5 (by kernel_rfl) (by kernel_rfl) (by kernel_rfl) (by kernel_rfl)) ?_
  intro W base args ds gs before hval hW _ _
  exact truth_contract H enc W base args ds gs before hval hW
theorem bunchTruth_holds : Rows.BunchTruthSaid :=
  OpenClaim.holds_of_wide 8 Try.f8 rfl rfl rfl rfl rfl rfl rfl ⟨rfl, rfl, rfl, rfl, rfl⟩ rfl rfl rfl rfl rfl (by kernel_rfl) Try.func8 (by kernel_rfl)
    (of_decide_eq_true (by kernel_rfl)) (by unfold Func.isWrapper; first | (rw [if_pos (by decide +kernel)]; kernel_rfl) | (rw [if_neg (by decide +kernel)]; exact ⟨rfl, rfl⟩))
    (fun os started H enc _ => truth_lifted os started H enc)
end Go.Proofs.Ytpefamheopplnaa
