/-
  CleanMore (P4.10), as its second form states it: for every yard, claim and numbers that are together of bulk at most 1048576, whatever the world is, the law returns true and never panics, and its arguments read as before. Conditions: none but the statement's own (the bulk). Own work of the verifier of watercress.
-/
import Derived.Below
import Derived.CallsIn
import Derived.Carry
import Derived.ChangeKeysEq
import Derived.ChangeSame
import Derived.Deep.Slices
import Derived.DeepKeys4
import Derived.JoinedCond
import Derived.Laws.AppendOwn
import Derived.Laws.Cells
import Derived.Laws.CopyRow
import Derived.Laws.Cover3
import Derived.Laws.Entries
import Derived.Laws.NewFold
import Derived.Laws.Sem
import Derived.Laws.Small
import Derived.Laws.StructEq
import Derived.Laws.Tables
import Derived.Laws.World
import Derived.Lib.SmallJoins
import Derived.Maps.Keyed
import Derived.Maps.RangeRun
import Derived.OpenShut
import Derived.OrdersHeld
import Derived.OrdersIn
import Derived.ProofKit
import Derived.RangeFuncLeaves
import Derived.RangeFuncRecord
import Derived.Shelf.Abstract
import Derived.WalkKit
import Derived.WideKeyArgs
import Derived.Test.YtcjekdfncnmbfaaNa23
import Derived.Test.YtcjekdfncnmbfaaNe0
import Derived.Test.YtcjekdfncnmbfaaNa10
import Derived.Test.YtcjekdfncnmbfaaNa11
import Derived.Test.YtcjekdfncnmbfaaNa13
import Derived.Test.YtcjekdfncnmbfaaNa16
import Derived.Test.YtcjekdfncnmbfaaNa14
import Derived.Test.YtcjekdfncnmbfaaNa18
import Derived.Test.YtcjekdfncnmbfaaNa15
import Derived.Test.YtcjekdfncnmbfaaNa19
import Derived.Test.YtcjekdfncnmbfaaNa20
import Derived.Test.YtcjekdfncnmbfaaNa21
import Derived.Test.YtcjekdfncnmbfaaNa22
import Derived.Test.YtcjekdfncnmbfaaNe1
import Derived.Test.YtcjekdfncnmbfaaNa12
import Derived.Test.YtcjekdfncnmbfaaNa17
import Derived.Test.YtcjekdfncnmbfaaNa0
import Derived.Test.YtcjekdfncnmbfaaNa1
import Derived.Test.YtcjekdfncnmbfaaNa2
import Derived.Test.YtcjekdfncnmbfaaNa3
import Derived.Test.YtcjekdfncnmbfaaNa4
import Derived.Test.YtcjekdfncnmbfaaNa5
import Derived.Test.YtcjekdfncnmbfaaNa6
import Derived.Test.YtcjekdfncnmbfaaNa7
import Derived.Test.YtcjekdfncnmbfaaNa8
import Derived.Test.YtcjekdfncnmbfaaNa9
import Derived.Test.YtcjekdfncnmbfaaProg
import Derived.Test.YtcjekdfncnmbfaaRows
set_option linter.unusedVariables false
set_option linter.unusedSimpArgs false
namespace Go.Proofs.Ytcjekdfncnmbfaa
open Go.ChangeShapes Go.WideShapes Go.ChangeAt Go.RowKit Go.Joins
set_option linter.unusedVariables false
set_option maxRecDepth 100000
theorem bulk_one {H : Type} (d : DataW H) : 1 ≤ Rows.uptoBulk d := by
  cases d with
  | lit l => cases l <;> simp [Rows.uptoBulk]
  | nil => simp [Rows.uptoBulk]
  | ptr d => simp [Rows.uptoBulk]
  | slice elems spare => simp [Rows.uptoBulk]
  | agg parts => simp [Rows.uptoBulk]
  | iface t d => simp [Rows.uptoBulk]
  | map entries => simp [Rows.uptoBulk]
  | held h => simp [Rows.uptoBulk]
theorem bulk_part {H : Type} {d : DataW H} {l : List (DataW H)} (h : d ∈ l) : Rows.uptoBulk d ≤ Rows.uptoBulkAll l := by
  induction l with
  | nil => cases h
  | cons x r ih =>
    simp only [Rows.uptoBulkAll]
    cases List.mem_cons.1 h with
    | inl e => subst e; omega
    | inr e => have := ih e; omega
theorem bulk_len {H : Type} (l : List (DataW H)) : l.length ≤ Rows.uptoBulkAll l := by
  induction l with
  | nil => simp [Rows.uptoBulkAll]
  | cons x r ih => have := bulk_one x; simp only [Rows.uptoBulkAll, List.length_cons]; omega
theorem yard_bulk {H : Type} {enc : TypeId × Value → H} {W : World} {base b0 : Nat} {spare : Nat → Bool} {held : Bool} {v : Value} {d : DataW H} {p : List MemPlace}
    (hv : Value.okWide Try.prog W .any b0 25 v) (h : DataW.Trod enc Try.prog W base spare held 25 v d p) : ∃ f : Fz.YardD, Fz.VR (Fz.fiW W) (Fz.yardV f) v ∧ f.nb ≤ Rows.uptoBulk d ∧ f.nc ≤ Rows.uptoBulk d := by
  obtain ⟨cs, rfl, hsz⟩ := okWide_struct Try.underlying25 hv
  have hC : Try.prog.cellsOf 25 = 4 := by kernel_rfl
  have c3 : Try.prog.cellsOf 3 = 1 := by kernel_rfl
  have c22 : Try.prog.cellsOf 22 = 1 := by kernel_rfl
  have c23 : Try.prog.cellsOf 23 = 1 := by kernel_rfl
  rw [hC] at hsz
  obtain ⟨l⟩ := cs
  match l, hsz with
  | [u0, u1, u2, u3], _ =>
    have h' := h
    obtain ⟨fuel, hf⟩ := h
    obtain ⟨xs, n, _, hx0, _, hlen, hx⟩ := DataW.trod_struct Try.underlying25 hf
    match xs, hlen with
    | [y0, y1, y2, y3], _ =>
      have h0 : DataW.trod enc Try.prog W base spare held n 3 [u0] = some y0 := by simpa [Value.cells, c3] using hx 0 _ rfl
      have h1 : DataW.trod enc Try.prog W base spare held n 3 [u1] = some y1 := by simpa [Value.cells, c3] using hx 1 _ rfl
      have h2 : DataW.trod enc Try.prog W base spare held n 22 [u2] = some y2 := by simpa [Value.cells, c22] using hx 2 _ rfl
      have h3 : DataW.trod enc Try.prog W base spare held n 23 [u3] = some y3 := by simpa [Value.cells, c23] using hx 3 _ rfl
      obtain ⟨z0, e0, _, _⟩ := DataW.trod_int Try.underlying3 h0
      obtain ⟨z1, e1, _, _⟩ := DataW.trod_int Try.underlying3 h1
      obtain rfl : u0 = .int .i64 z0 := by simpa using e0
      obtain rfl : u1 = .int .i64 z1 := by simpa using e1
      obtain rfl : d = .agg ([y0, y1, y2, y3].map (·.1)) := by
        have := congrArg Prod.fst hx0
        simpa using this
      refine ⟨yardOf W z0 z1 u2 u3, yard_of_parts hv h', ?_, ?_⟩
      · show Fz.slCount u2 ≤ _
        have hb : Rows.uptoBulk y2.1 ≤ Rows.uptoBulk (DataW.agg ([y0, y1, y2, y3].map (·.1))) := by
          have := bulk_part (l := [y0, y1, y2, y3].map (·.1)) (d := y2.1) (by simp)
          simp only [Rows.uptoBulk]
          omega
        refine Nat.le_trans ?_ hb
        rcases DataW.trod_slice Try.underlying22 h2 with ⟨e, _⟩ | ⟨a, len, cap, elems, rest, m, _, e, rfl, _, _, _, hlen, _⟩
        · obtain rfl : u2 = .slice none 0 0 := by simpa using e
          exact Nat.zero_le _
        · obtain rfl : u2 = .slice (some a) len cap := by simpa using e
          have := bulk_len (elems.map (·.1))
          have hl : (elems.map (·.1)).length = len := by rw [List.length_map]; exact hlen
          show len ≤ _
          simp only [Rows.uptoBulk]
          omega
      · show Fz.slCount u3 ≤ _
        have hb : Rows.uptoBulk y3.1 ≤ Rows.uptoBulk (DataW.agg ([y0, y1, y2, y3].map (·.1))) := by
          have := bulk_part (l := [y0, y1, y2, y3].map (·.1)) (d := y3.1) (by simp)
          simp only [Rows.uptoBulk]
          omega
        refine Nat.le_trans ?_ hb
        rcases DataW.trod_slice Try.underlying23 h3 with ⟨e, _⟩ | ⟨a, len, cap, elems, rest, m, _, e, rfl, _, _, _, hlen, _⟩
        · obtain rfl : u3 = .slice none 0 0 := by simpa using e
          exact Nat.zero_le _
        · obtain rfl : u3 = .slice (some a) len cap := by simpa using e
          have := bulk_len (elems.map (·.1))
          have hl : (elems.map (·.1)).length = len := by rw [List.length_map]; exact hlen
          show len ≤ _
          simp only [Rows.uptoBulk]
          omega
theorem claim_read {H : Type} {enc : TypeId × Value → H} {W : World} {base b0 : Nat} {spare : Nat → Bool} {held : Bool} {v : Value} {d : DataW H} {p : List MemPlace}
    (hv : Value.okWide Try.prog W .any b0 76 v) (h : DataW.Trod enc Try.prog W base spare held 76 v d p) : ∃ k lo hi : Int, v = .agg #[.int .i64 k, .int .i64 lo, .int .i64 hi] := by
  obtain ⟨cs, rfl, hsz⟩ := okWide_struct Try.underlying76 hv
  have hC : Try.prog.cellsOf 76 = 3 := by kernel_rfl
  have c3 : Try.prog.cellsOf 3 = 1 := by kernel_rfl
  have c69 : Try.prog.cellsOf 69 = 2 := by kernel_rfl
  rw [hC] at hsz
  obtain ⟨l⟩ := cs
  match l, hsz with
  | [u0, u1, u2], _ =>
    obtain ⟨fuel, hf⟩ := h
    obtain ⟨xs, n, _, _, _, hlen, hx⟩ := DataW.trod_struct Try.underlying76 hf
    match xs, hlen with
    | [y0, y1], _ =>
      have h0 : DataW.trod enc Try.prog W base spare held n 3 [u0] = some y0 := by simpa [Value.cells, c3] using hx 0 _ rfl
      have h1 : DataW.trod enc Try.prog W base spare held n 69 [u1, u2] = some y1 := by simpa [Value.cells, c69] using hx 1 _ rfl
      obtain ⟨xs2, n2, _, _, _, hlen2, hx2⟩ := DataW.trod_struct Try.underlying69 h1
      match xs2, hlen2 with
      | [w0, w1], _ =>
        have k0 : DataW.trod enc Try.prog W base spare held n2 3 [u1] = some w0 := by simpa [Value.cells, c3] using hx2 0 _ rfl
        have k1 : DataW.trod enc Try.prog W base spare held n2 3 [u2] = some w1 := by simpa [Value.cells, c3] using hx2 1 _ rfl
        obtain ⟨z0, e0, _, _⟩ := DataW.trod_int Try.underlying3 h0
        obtain ⟨z1, e1, _, _⟩ := DataW.trod_int Try.underlying3 k0
        obtain ⟨z2, e2, _, _⟩ := DataW.trod_int Try.underlying3 k1
        obtain rfl : u0 = .int .i64 z0 := by simpa using e0
        obtain rfl : u1 = .int .i64 z1 := by simpa using e1
        obtain rfl : u2 = .int .i64 z2 := by simpa using e2
        exact ⟨z0, z1, z2, rfl⟩
theorem more_contract (H : Type) (enc : TypeId × Value → H) (W : World) (base : Nat) (args : Array Value) (ds gs : List (DataW H)) (before : List MemPlace)
    (hval : ∀ (j : Nat) t v, Try.f11.params[j]? = some t → args[j]? = some v → Value.okWide Try.prog W .any base t v)
    (hW : DataW.Whole enc Try.prog Try.f11.params.toList Rows.cleanMoreSpec.vars false W args.toList ds gs before) (hk : Rows.uptoSmall H (ds ++ gs) = true) :
    Calls Try.prog 11 args W fun e W' => ∃ v, e = .returned v ∧ Rows.cleanMoreSpec.post enc Try.prog Try.f11 false true false false W args v W' := by
  have hW' := hW
  obtain ⟨p, q, hA0, hV, rfl, hfz, hnd⟩ := hW
  have hA : DataW.TrodAll enc Try.prog W 0 (fun _ => true) true Try.f11.params.toList args.toList ds p := hA0
  rw [Try.params11] at hA hval
  obtain ⟨v1, v2, v3, v4, d1, d2, d3, d4, p1, p2, p3, p4, rfl, rfl, rfl, h1, h2, h3, h4⟩ := trodAll_four hA
  obtain ⟨rfl, rfl⟩ := trodVars_none hV
  obtain ⟨f, hf, _, hfc⟩ := yard_bulk (hval 0 25 v1 rfl rfl) h1
  obtain ⟨k, lo, hi, rfl⟩ := claim_read (hval 1 76 v2 rfl rfl) h2
  obtain ⟨x0, rfl, rfl, rfl, w0⟩ := open_int (k := .u8) (by kernel_rfl) (hval 2 5 v3 rfl rfl) h3
  obtain ⟨x1, rfl, rfl, rfl, w1⟩ := open_int (k := .u8) (by kernel_rfl) (hval 3 5 v4 rfl rfl) h4
  have hnc : f.nc < 1048576 := by
    have hb : Rows.uptoBulkAll ([d1, d2, DataW.lit (.int .u8 x0), DataW.lit (.int .u8 x1)] ++ []) ≤ 1048576 := of_decide_eq_true hk
    simp only [List.append_nil, Rows.uptoBulkAll, Rows.uptoBulk] at hb
    omega
  rw [← callsIn_wide (n := 0)]
  refine ((Fz.cleanMore_ok Fz.awake_ok f k lo hi x0 x1 (u8_in w0).1 (u8_in w0).2 (u8_in w1).1 (u8_in w1).2 hnc).call ⟨[], 0⟩ (Fz.fiW W) W [v1, .agg #[.int .i64 k, .int .i64 lo, .int .i64 hi], .int .u8 x0, .int .u8 x1] 0 (Fz.relW W)
    (.cons hf (.cons (.agg (.cons (.lit _) (.cons (.lit _) (.cons (.lit _) .nil)))) (.cons (.lit _) (.cons (.lit _) .nil))))).mono fun e W' hp => ?_
  obtain ⟨v, cv, st', φ', rfl, ⟨rfl, rfl⟩, hv, _, _, hfr⟩ := hp
  obtain rfl := hv.lit_inv
  have hb : Below W.heap.size W W' := ⟨hfr.os, hfr.tape, hfr.output, hfr.size, fun k hk => hfr.block k hk fun ⟨id, o, h, _⟩ => by simp [Fz.Hp.get] at h⟩
  have hlt : ∀ x ∈ p1 ++ p2, x.block < W.heap.size := fun x hx => hW'.lt x (by simpa using hx)
  refine ⟨_, rfl, post_of_below (pa := p1 ++ p2) (pv := []) hW' (fun _ _ _ => (trodAll_cons_mk (shut_bool Try.underlying4 _) trodAll_mk0)) (fun sp hsp => ?_) (fun _ _ => rfl) (by simp) hb
    (ok_one (by kernel_rfl) rfl (okWide_bool_mk Try.underlying4 _))⟩
  show DataW.TrodAll enc Try.prog W' 0 sp true Try.f11.params.toList _ [d1, d2, _, _] _
  rw [Try.params11]
  have := trodAll_mk4
    (WideElems.Trod_stays laid (by kernel_rfl) (Nat.le_of_ble_eq_true (by kernel_rfl)) h1 (fun x hx => hb.same (hlt x (by simp [hx]))) fun x hx => hsp x (by simp [hx]))
    (WideElems.Trod_stays laid (by kernel_rfl) (Nat.le_of_ble_eq_true (by kernel_rfl)) h2 (fun x hx => hb.same (hlt x (by simp [hx]))) fun x hx => hsp x (by simp [hx]))
    (shut_int (enc := enc) (P := Try.prog) (w := W') (base := 0) (spare := sp) (held := true) (t := 5) (k := .u8) (n := x0) (by kernel_rfl) w0)
    (shut_int (enc := enc) (P := Try.prog) (w := W') (base := 0) (spare := sp) (held := true) (t := 5) (k := .u8) (n := x1) (by kernel_rfl) w1)
  simpa using this
theorem more_lifted (os : Os) (started : os.Started) (H : Type) (enc : TypeId × Value → H) (F : Stop.Interp) :
    ReturnsInHanded {} Try.checked os 11 .any ((Rows.OpenSpec.upto Rows.cleanMoreSpec).pre6 enc Try.prog Try.f11 Rows.cleanMoreUptoRow.domain false) (((Rows.OpenSpec.upto Rows.cleanMoreSpec).at F).post enc Try.prog Try.f11 false true false false) := by
  refine returnsInHanded_of_cond (C := Try.checked) (s := Rows.OpenSpec.upto Rows.cleanMoreSpec) (k := Rows.uptoSmall) rfl own started (by kernel_rfl) Try.func11
    (OpenSpec.witness (enc := enc) (C := Try.checked) (s := Rows.OpenSpec.upto Rows.cleanMoreSpec) (k := Rows.uptoSmall) rfl false
      ⟨#[], #[.agg #[.int .i64 0, .int .i64 0, .slice none 0 0, .slice none 0 0], .agg #[.int .i64 0, .int .i64 0, .int .i64 0], .int .u8 0, .int .u8 0], []⟩ 8 (by kernel_rfl) (by kernel_rfl) (by kernel_rfl)
      (x := ([.agg [.lit (.int .i64 0), .lit (.int .i64 0), .nil, .nil], .agg [.lit (.int .i64 0), .agg [.lit (.int .i64 0), .lit (.int .i64 0)]], .lit (.int .u8 0), .lit (.int .u8 0)], [], [])) (by kernel_rfl) rfl (by kernel_rfl)) ?_
  intro W base args ds gs before hval hW _ hk _
  exact more_contract H enc W base args ds gs before hval hW hk
theorem cleanMore_holds : Rows.CleanMoreUptoSaid :=
  OpenClaim.holds_of_cond 11 Try.f11 rfl rfl rfl rfl rfl rfl rfl ⟨rfl, rfl, rfl, rfl, rfl⟩ rfl rfl rfl rfl rfl (by kernel_rfl) Try.func11 (by kernel_rfl)
    (of_decide_eq_true (by kernel_rfl)) (by unfold Func.isWrapper; first | (rw [if_pos (by decide +kernel)]; kernel_rfl) | (rw [if_neg (by decide +kernel)]; exact ⟨rfl, rfl⟩))
    (fun os started H enc _ F => more_lifted os started H enc F)
end Go.Proofs.Ytcjekdfncnmbfaa
