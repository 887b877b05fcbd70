/-
  BedMore (P1.12), as its second form states it: for every farm, look and number that are together of bulk at most 1048576, whatever the world is, the law returns true and never panics, and its arguments read as before. Conditions: none but the statement's own (the bulk). Own work of the verifier of watercress.
-/
import Derived.Below
import Derived.CallsIn
import Derived.Carry
import Derived.ChangeKeysEq
import Derived.ChangeSame
import Derived.Deep.Slices
import Derived.DeepKeys4
import Derived.JoinedCond
import Derived.Laws.AppendOwn
import Derived.Laws.Cells
import Derived.Laws.CopyRow
import Derived.Laws.Cover3
import Derived.Laws.Entries
import Derived.Laws.NewFold
import Derived.Laws.Sem
import Derived.Laws.Small
import Derived.Laws.StructEq
import Derived.Laws.Tables
import Derived.Laws.World
import Derived.Lib.SmallJoins
import Derived.Maps.Keyed
import Derived.Maps.RangeRun
import Derived.OpenShut
import Derived.OrdersHeld
import Derived.OrdersIn
import Derived.ProofKit
import Derived.RangeFuncLeaves
import Derived.RangeFuncRecord
import Derived.Shelf.Abstract
import Derived.WalkKit
import Derived.WideKeyArgs
import Derived.Test.YtpaifaemkoblcaaNa16
import Derived.Test.YtpaifaemkoblcaaNa24
import Derived.Test.YtpaifaemkoblcaaNa25
import Derived.Test.YtpaifaemkoblcaaNa26
import Derived.Test.YtpaifaemkoblcaaNa19
import Derived.Test.YtpaifaemkoblcaaNa20
import Derived.Test.YtpaifaemkoblcaaNa21
import Derived.Test.YtpaifaemkoblcaaNa22
import Derived.Test.YtpaifaemkoblcaaNa23
import Derived.Test.YtpaifaemkoblcaaNa27
import Derived.Test.YtpaifaemkoblcaaNh0
import Derived.Test.YtpaifaemkoblcaaNa32
import Derived.Test.YtpaifaemkoblcaaNa35
import Derived.Test.YtpaifaemkoblcaaNa33
import Derived.Test.YtpaifaemkoblcaaNa34
import Derived.Test.YtpaifaemkoblcaaNa28
import Derived.Test.YtpaifaemkoblcaaNa29
import Derived.Test.YtpaifaemkoblcaaNa30
import Derived.Test.YtpaifaemkoblcaaNa31
import Derived.Test.YtpaifaemkoblcaaNa36
import Derived.Test.YtpaifaemkoblcaaNa37
import Derived.Test.YtpaifaemkoblcaaNa38
import Derived.Test.YtpaifaemkoblcaaNa40
import Derived.Test.YtpaifaemkoblcaaNa39
import Derived.Test.YtpaifaemkoblcaaNa41
import Derived.Test.YtpaifaemkoblcaaNa15
import Derived.Test.YtpaifaemkoblcaaNh1
import Derived.Test.YtpaifaemkoblcaaNa17
import Derived.Test.YtpaifaemkoblcaaNa18
import Derived.Test.YtpaifaemkoblcaaNa10
import Derived.Test.YtpaifaemkoblcaaNa12
import Derived.Test.YtpaifaemkoblcaaNa11
import Derived.Test.YtpaifaemkoblcaaNa13
import Derived.Test.YtpaifaemkoblcaaNa14
import Derived.Test.YtpaifaemkoblcaaNa0
import Derived.Test.YtpaifaemkoblcaaNa1
import Derived.Test.YtpaifaemkoblcaaNa2
import Derived.Test.YtpaifaemkoblcaaNa3
import Derived.Test.YtpaifaemkoblcaaNa4
import Derived.Test.YtpaifaemkoblcaaNa5
import Derived.Test.YtpaifaemkoblcaaNa6
import Derived.Test.YtpaifaemkoblcaaNa7
import Derived.Test.YtpaifaemkoblcaaNa8
import Derived.Test.YtpaifaemkoblcaaNa9
import Derived.Test.YtpaifaemkoblcaaProg
import Derived.Test.YtpaifaemkoblcaaRows
set_option linter.unusedVariables false
set_option linter.unusedSimpArgs false
namespace Go.Proofs.Ytpaifaemkoblcaa
open Go.ChangeShapes Go.WideShapes Go.ChangeAt Go.RowKit Go.Joins
set_option linter.unusedVariables false
set_option maxRecDepth 100000
theorem bulk_one {H : Type} (d : DataW H) : 1 ≤ Rows.uptoBulk d := by
  cases d with
  | lit l => cases l <;> simp [Rows.uptoBulk]
  | nil => simp [Rows.uptoBulk]
  | ptr d => simp [Rows.uptoBulk]
  | slice elems spare => simp [Rows.uptoBulk]
  | agg parts => simp [Rows.uptoBulk]
  | iface t d => simp [Rows.uptoBulk]
  | map entries => simp [Rows.uptoBulk]
  | held h => simp [Rows.uptoBulk]
theorem bulk_part {H : Type} {d : DataW H} {l : List (DataW H)} (h : d ∈ l) : Rows.uptoBulk d ≤ Rows.uptoBulkAll l := by
  induction l with
  | nil => cases h
  | cons x r ih =>
    simp only [Rows.uptoBulkAll]
    cases List.mem_cons.1 h with
    | inl e => subst e; omega
    | inr e => have := ih e; omega
theorem bulk_len {H : Type} (l : List (DataW H)) : l.length ≤ Rows.uptoBulkAll l := by
  induction l with
  | nil => simp [Rows.uptoBulkAll]
  | cons x r ih => have := bulk_one x; simp only [Rows.uptoBulkAll, List.length_cons]; omega
theorem farm_parts {H : Type} {enc : TypeId × Value → H} {W : World} {base b0 : Nat} {spare : Nat → Bool} {held : Bool} {u0 u1 u2 : Value} {d : DataW H} {p : List MemPlace}
    (hv : Value.okWide Try.prog W .any b0 26 (.agg #[u0, u1, u2])) (h : DataW.Trod enc Try.prog W base spare held 26 (.agg #[u0, u1, u2]) d p) : Fz.VR (Fz.fiW W) (Fz.farmV (farmOf W u0 u1 u2)) (.agg #[u0, u1, u2]) := by
  obtain ⟨v0, v1, v2, y0, y1, y2, n, he, _, _, h0, h1, h2⟩ := open_agg3 Try.underlying26 (by kernel_rfl) (by kernel_rfl) hv h
  simp only [Value.agg.injEq, Array.mk.injEq, List.cons.injEq, and_true] at he
  obtain ⟨rfl, rfl, rfl⟩ := he
  have hct : Try.prog.cellTypes Try.prog.depth 26 = some [22, 23, 24] := by kernel_rfl
  unfold Value.okWide at hv
  rw [Try.underlying26] at hv
  obtain ⟨cs, hcs, _, ts, hts, _, hok⟩ := hv
  cases hcs
  rw [hct] at hts
  cases hts
  have hk : ∀ (i : Nat) (u : Value) (t : TypeId), #[u0, u1, u2][i]? = some u → [22, 23, 24][i % 3]? = some t → Cell.okWide Try.prog W .any b0 t u := fun i u t hu ht => by
    obtain ⟨t', ht', ho⟩ := hok i u hu
    rw [show ([22, 23, 24] : List TypeId).length = 3 from rfl, ht] at ht'
    cases ht'; exact ho
  refine .agg (.cons (Fz.slice_isl (d := 5) (ks := [true, true, true]) Try.underlying22 (by kernel_rfl) (by kernel_rfl) (hk 0 u0 22 rfl rfl) h0 fun i j k hj => ?_)
    (.cons (Fz.slice_isl (d := 5) (ks := [true, true, true]) Try.underlying23 (by kernel_rfl) (by kernel_rfl) (hk 1 u1 23 rfl rfl) h1 fun i j k hj => ?_)
    (.cons (Fz.slice_isl (d := 5) (ks := [true, false, true, true]) Try.underlying24 (by kernel_rfl) (by kernel_rfl) (hk 2 u2 24 rfl rfl) h2 fun i j k hj => ?_) .nil)))
  · match j, hj with
    | 0, hj => cases hj; rfl
    | 1, hj => cases hj; rfl
    | 2, hj => cases hj; rfl
  · match j, hj with
    | 0, hj => cases hj; rfl
    | 1, hj => cases hj; rfl
    | 2, hj => cases hj; rfl
  · match j, hj with
    | 0, hj => cases hj; rfl
    | 1, hj => cases hj; rfl
    | 2, hj => cases hj; rfl
    | 3, hj => cases hj; rfl
theorem farm_bulk {H : Type} {enc : TypeId × Value → H} {W : World} {base b0 : Nat} {spare : Nat → Bool} {held : Bool} {v : Value} {d : DataW H} {p : List MemPlace}
    (hv : Value.okWide Try.prog W .any b0 26 v) (h : DataW.Trod enc Try.prog W base spare held 26 v d p) : ∃ f : Fz.FarmD, Fz.VR (Fz.fiW W) (Fz.farmV f) v ∧ f.nl ≤ Rows.uptoBulk d := by
  obtain ⟨cs, rfl, hsz⟩ := okWide_struct Try.underlying26 hv
  have hC : Try.prog.cellsOf 26 = 3 := by kernel_rfl
  have c22 : Try.prog.cellsOf 22 = 1 := by kernel_rfl
  have c23 : Try.prog.cellsOf 23 = 1 := by kernel_rfl
  have c24 : Try.prog.cellsOf 24 = 1 := by kernel_rfl
  rw [hC] at hsz
  obtain ⟨l⟩ := cs
  match l, hsz with
  | [u0, u1, u2], _ =>
    have h' := h
    obtain ⟨fuel, hf⟩ := h
    obtain ⟨xs, n, _, hx0, _, hlen, hx⟩ := DataW.trod_struct Try.underlying26 hf
    match xs, hlen with
    | [y0, y1, y2], _ =>
      have h2 : DataW.trod enc Try.prog W base spare held n 24 [u2] = some y2 := by simpa [Value.cells, c22, c23, c24] using hx 2 _ rfl
      obtain rfl : d = .agg ([y0, y1, y2].map (·.1)) := by
        have := congrArg Prod.fst hx0
        simpa using this
      refine ⟨farmOf W u0 u1 u2, farm_parts hv h', ?_⟩
      show Fz.slCount u2 ≤ _
      have hb : Rows.uptoBulk y2.1 ≤ Rows.uptoBulk (DataW.agg ([y0, y1, y2].map (·.1))) := by
        have := bulk_part (l := [y0, y1, y2].map (·.1)) (d := y2.1) (by simp)
        simp only [Rows.uptoBulk]
        omega
      refine Nat.le_trans ?_ hb
      rcases DataW.trod_slice Try.underlying24 h2 with ⟨e, _⟩ | ⟨a, len, cap, elems, rest, m, _, e, rfl, _, _, _, hlen, _⟩
      · obtain rfl : u2 = .slice none 0 0 := by simpa using e
        exact Nat.zero_le _
      · obtain rfl : u2 = .slice (some a) len cap := by simpa using e
        have := bulk_len (elems.map (·.1))
        have hl : (elems.map (·.1)).length = len := by rw [List.length_map]; exact hlen
        show len ≤ _
        simp only [Rows.uptoBulk]
        omega
theorem look_read {H : Type} {enc : TypeId × Value → H} {W : World} {base b0 : Nat} {spare : Nat → Bool} {held : Bool} {v : Value} {d : DataW H} {p : List MemPlace}
    (hv : Value.okWide Try.prog W .any b0 115 v) (h : DataW.Trod enc Try.prog W base spare held 115 v d p) : ∃ (k : Int) (ov : Bool) (lo hi : Int), v = .agg #[.int .i64 k, .bool ov, .int .i64 lo, .int .i64 hi] := by
  obtain ⟨cs, rfl, hsz⟩ := okWide_struct Try.underlying115 hv
  have hC : Try.prog.cellsOf 115 = 4 := by kernel_rfl
  have c3 : Try.prog.cellsOf 3 = 1 := by kernel_rfl
  have c4 : Try.prog.cellsOf 4 = 1 := by kernel_rfl
  have c64 : Try.prog.cellsOf 64 = 2 := by kernel_rfl
  rw [hC] at hsz
  obtain ⟨l⟩ := cs
  match l, hsz with
  | [u0, ub, u1, u2], _ =>
    obtain ⟨fuel, hf⟩ := h
    obtain ⟨xs, n, _, _, _, hlen, hx⟩ := DataW.trod_struct Try.underlying115 hf
    match xs, hlen with
    | [y0, yb, y1], _ =>
      have h0 : DataW.trod enc Try.prog W base spare held n 3 [u0] = some y0 := by simpa [Value.cells, c3, c4, c64] using hx 0 _ rfl
      have hb : DataW.trod enc Try.prog W base spare held n 4 [ub] = some yb := by simpa [Value.cells, c3, c4, c64] using hx 1 _ rfl
      have h1 : DataW.trod enc Try.prog W base spare held n 64 [u1, u2] = some y1 := by simpa [Value.cells, c3, c4, c64] using hx 2 _ rfl
      obtain ⟨xs2, n2, _, _, _, hlen2, hx2⟩ := DataW.trod_struct Try.underlying64 h1
      match xs2, hlen2 with
      | [w0, w1], _ =>
        have k0 : DataW.trod enc Try.prog W base spare held n2 3 [u1] = some w0 := by simpa [Value.cells, c3] using hx2 0 _ rfl
        have k1 : DataW.trod enc Try.prog W base spare held n2 3 [u2] = some w1 := by simpa [Value.cells, c3] using hx2 1 _ rfl
        obtain ⟨z0, e0, _, _⟩ := DataW.trod_int Try.underlying3 h0
        obtain ⟨zb, eb, _⟩ := DataW.trod_bool Try.underlying4 hb
        obtain ⟨z1, e1, _, _⟩ := DataW.trod_int Try.underlying3 k0
        obtain ⟨z2, e2, _, _⟩ := DataW.trod_int Try.underlying3 k1
        obtain rfl : u0 = .int .i64 z0 := by simpa using e0
        obtain rfl : ub = .bool zb := by simpa using eb
        obtain rfl : u1 = .int .i64 z1 := by simpa using e1
        obtain rfl : u2 = .int .i64 z2 := by simpa using e2
        exact ⟨z0, zb, z1, z2, rfl⟩
theorem more_contract (H : Type) (enc : TypeId × Value → H) (W : World) (base : Nat) (args : Array Value) (ds gs : List (DataW H)) (before : List MemPlace)
    (hval : ∀ (j : Nat) t v, Try.f14.params[j]? = some t → args[j]? = some v → Value.okWide Try.prog W .any base t v)
    (hW : DataW.Whole enc Try.prog Try.f14.params.toList Rows.bedMoreSpec.vars false W args.toList ds gs before) (hk : Rows.uptoSmall H (ds ++ gs) = true) :
    Calls Try.prog 14 args W fun e W' => ∃ v, e = .returned v ∧ Rows.bedMoreSpec.post enc Try.prog Try.f14 false true false false W args v W' := by
  have hW' := hW
  obtain ⟨p, q, hA0, hV, rfl, hfz, hnd⟩ := hW
  have hA : DataW.TrodAll enc Try.prog W 0 (fun _ => true) true Try.f14.params.toList args.toList ds p := hA0
  rw [Try.params14] at hA hval
  obtain ⟨v1, v2, v3, d1, d2, d3, p1, p2, p3, rfl, rfl, rfl, h1, h2, h3⟩ := trodAll_three hA
  obtain ⟨rfl, rfl⟩ := trodVars_none hV
  obtain ⟨f, hf, hfc⟩ := farm_bulk (hval 0 26 v1 rfl rfl) h1
  obtain ⟨k, ov, lo, hi, rfl⟩ := look_read (hval 1 115 v2 rfl rfl) h2
  obtain ⟨x0, rfl, rfl, rfl, w0⟩ := open_int (k := .u8) (by kernel_rfl) (hval 2 5 v3 rfl rfl) h3
  have hnl : f.nl < 1048576 := by
    have hb : Rows.uptoBulkAll ([d1, d2, DataW.lit (.int .u8 x0)] ++ []) ≤ 1048576 := of_decide_eq_true hk
    simp only [List.append_nil, Rows.uptoBulkAll, Rows.uptoBulk] at hb
    omega
  rw [← callsIn_wide (n := 0)]
  refine ((Fz.bedMore_ok Fz.awake_ok f k ov lo hi x0 (u8_in w0).1 (u8_in w0).2 hnl).call ⟨[], 0⟩ (Fz.fiW W) W [v1, .agg #[.int .i64 k, .bool ov, .int .i64 lo, .int .i64 hi], .int .u8 x0] 0 (Fz.relW W)
    (.cons hf (.cons (.agg (.cons (.lit _) (.cons (.sb _) (.cons (.lit _) (.cons (.lit _) .nil))))) (.cons (.lit _) .nil)))).mono fun e W' hp => ?_
  obtain ⟨v, cv, st', φ', rfl, ⟨rfl, rfl⟩, hv, _, _, hfr⟩ := hp
  obtain rfl := hv.lit_inv
  have hb : Below W.heap.size W W' := ⟨hfr.os, hfr.tape, hfr.output, hfr.size, fun k hk => hfr.block k hk fun ⟨id, o, h, _⟩ => by simp [Fz.Hp.get] at h⟩
  have hlt : ∀ x ∈ p1 ++ p2, x.block < W.heap.size := fun x hx => hW'.lt x (by simpa using hx)
  refine ⟨_, rfl, post_of_below (pa := p1 ++ p2) (pv := []) hW' (fun _ _ _ => (trodAll_cons_mk (shut_bool Try.underlying4 _) trodAll_mk0)) (fun sp hsp => ?_) (fun _ _ => rfl) (by simp) hb
    (ok_one (by kernel_rfl) rfl (okWide_bool_mk Try.underlying4 _))⟩
  show DataW.TrodAll enc Try.prog W' 0 sp true Try.f14.params.toList _ [d1, d2, _] _
  rw [Try.params14]
  have := trodAll_mk3
    (WideElems.Trod_stays laid (by kernel_rfl) (Nat.le_of_ble_eq_true (by kernel_rfl)) h1 (fun x hx => hb.same (hlt x (by simp [hx]))) fun x hx => hsp x (by simp [hx]))
    (WideElems.Trod_stays laid (by kernel_rfl) (Nat.le_of_ble_eq_true (by kernel_rfl)) h2 (fun x hx => hb.same (hlt x (by simp [hx]))) fun x hx => hsp x (by simp [hx]))
    (shut_int (enc := enc) (P := Try.prog) (w := W') (base := 0) (spare := sp) (held := true) (t := 5) (k := .u8) (n := x0) (by kernel_rfl) w0)
  simpa using this
theorem more_lifted (os : Os) (started : os.Started) (H : Type) (enc : TypeId × Value → H) (F : Stop.Interp) :
    ReturnsInHanded {} Try.checked os 14 .any ((Rows.OpenSpec.upto Rows.bedMoreSpec).pre6 enc Try.prog Try.f14 Rows.bedMoreUptoRow.domain false) (((Rows.OpenSpec.upto Rows.bedMoreSpec).at F).post enc Try.prog Try.f14 false true false false) := by
  refine returnsInHanded_of_cond (C := Try.checked) (s := Rows.OpenSpec.upto Rows.bedMoreSpec) (k := Rows.uptoSmall) rfl own started (by kernel_rfl) Try.func14
    (OpenSpec.witness (enc := enc) (C := Try.checked) (s := Rows.OpenSpec.upto Rows.bedMoreSpec) (k := Rows.uptoSmall) rfl false
      ⟨#[], #[.agg #[.slice none 0 0, .slice none 0 0, .slice none 0 0], .agg #[.int .i64 0, .bool false, .int .i64 0, .int .i64 0], .int .u8 0], []⟩ 8 (by kernel_rfl) (by kernel_rfl) (by kernel_rfl)
      (x := ([.agg [.nil, .nil, .nil], .agg [.lit (.int .i64 0), .lit (.bool false), .agg [.lit (.int .i64 0), .lit (.int .i64 0)]], .lit (.int .u8 0)], [], [])) (by kernel_rfl) rfl (by kernel_rfl)) ?_
  intro W base args ds gs before hval hW _ hk _
  exact more_contract H enc W base args ds gs before hval hW hk
theorem bedMore_holds : Rows.BedMoreUptoSaid :=
  OpenClaim.holds_of_cond 14 Try.f14 rfl rfl rfl rfl rfl rfl rfl ⟨rfl, rfl, rfl, rfl, rfl⟩ rfl rfl rfl rfl rfl (by kernel_rfl) Try.func14 (by kernel_rfl)
    (of_decide_eq_true (by kernel_rfl)) (by unfold Func.isWrapper; first | (rw [if_pos (by decide +kernel)]; kernel_rfl) | (rw [if_neg (by decide +kernel)]; exact ⟨rfl, rfl⟩))
    (fun os started H enc _ F => more_lifted os started H enc F)
end Go.Proofs.Ytpaifaemkoblcaa
