/- Own work of the verifier of watercress: FzE1, FzE6n, FzN1, FzN2, FzB2, FzB3. -/
import Derived.Test.YtpefamheopplnaaMl3
import Derived.Deep.Slices
import Derived.Lib.SmallJoins
import Derived.WideKeyArgs
import Derived.WalkKit
import Derived.ProofKit
import Derived.OpenShut
import Derived.JoinedCond
import Derived.Below
import Derived.ChangeSame
import Derived.CallsIn
import Derived.Carry
import Derived.Test.YtpefamheopplnaaRows
import Derived.Test.YtpefamheopplnaaMl8
import Derived.Test.YtpefamheopplnaaMl7
set_option linter.unusedVariables false
set_option linter.unusedSimpArgs false
namespace Go.Fz
open Go.ChangeShapes Go.WideShapes Go.Deep Go.Joins
def flatFs (P : Program) (rec : TypeId → Option (List Bool)) : List Field → Nat → Option (List Bool)
  | [], _ => some []
  | f :: fs, off => match rec f.type, flatFs P rec fs (off + P.cellsOf f.type) with
    | some ks, some ls => if f.offset = off ∧ ks.length = P.cellsOf f.type then some (ks ++ ls) else none
    | _, _ => none
def flatK (P : Program) : Nat → TypeId → Option (List Bool)
  | 0, _ => none
  | d + 1, t => match P.underlying t with
    | some (.int .i64) => some [true]
    | some .bool => some [false]
    | some (.struct fs) => flatFs P (flatK P d) fs.toList 0
    | _ => none
def kindOk : Bool → Value → Prop
  | true, v => ∃ n, v = .int .i64 n ∧ (Lit.int .i64 n).wf = true
  | false, v => ∃ b, v = .bool b
section
variable {H : Type} {enc : TypeId × Value → H} {P : Program} {w : World} {base : Nat} {spare : Nat → Bool} {held : Bool}
theorem flatFs_ok {rec : TypeId → Option (List Bool)} {n : Nat} {cs : List Value} (hrec : ∀ (t : TypeId) (ks : List Bool) (cs : List Value) (x : DataW H × List MemPlace), rec t = some ks → DataW.trod enc P w base spare held n t cs = some x → ∀ (j : Nat) (k : Bool), ks[j]? = some k → ∃ v, cs[j]? = some v ∧ kindOk k v) :
    ∀ (fs : List Field) (off : Nat) (ks : List Bool), flatFs P rec fs off = some ks → (∀ f ∈ fs, ∃ x, DataW.trod enc P w base spare held n f.type ((cs.drop f.offset).take (P.cellsOf f.type)) = some x) →
      ∀ (j : Nat) (k : Bool), ks[j]? = some k → ∃ v, cs[off + j]? = some v ∧ kindOk k v
  | [], off, ks, h, _, j, k, hj => by
    cases h
    simp at hj
  | f :: fs, off, ks, h, hx, j, k, hj => by
    unfold flatFs at h
    split at h
    · rename_i k1 k2 h1 h2
      split at h
      · rename_i hc
        cases h
        obtain ⟨ho, hl⟩ := hc
        by_cases hjl : j < k1.length
        · rw [List.getElem?_append_left hjl] at hj
          obtain ⟨x, hx1⟩ := hx f List.mem_cons_self
          obtain ⟨v, hv, hk⟩ := hrec f.type k1 _ x h1 hx1 j k hj
          refine ⟨v, ?_, hk⟩
          rw [List.getElem?_take, List.getElem?_drop, ho] at hv
          split at hv
          · exact hv
          · cases hv
        · rw [List.getElem?_append_right (by omega)] at hj
          obtain ⟨v, hv, hk⟩ := flatFs_ok hrec fs (off + P.cellsOf f.type) k2 h2 (fun g hg => hx g (List.mem_cons_of_mem _ hg)) (j - k1.length) k hj
          exact ⟨v, by rw [← hv]; congr 1; omega, hk⟩
      · cases h
    · cases h
theorem flatK_ok : ∀ (d : Nat) (n : Nat) (t : TypeId) (ks : List Bool) (cs : List Value) (x : DataW H × List MemPlace), flatK P d t = some ks → DataW.trod enc P w base spare held n t cs = some x → ∀ (j : Nat) (k : Bool), ks[j]? = some k → ∃ v, cs[j]? = some v ∧ kindOk k v
  | 0, _, _, _, _, _, h, _, _, _, _ => by cases h
  | d + 1, n, t, ks, cs, x, h, ht, j, k, hj => by
    unfold flatK at h
    split at h
    · rename_i hu
      cases h
      obtain ⟨z, rfl, _, hw⟩ := DataW.trod_int hu ht
      match j, hj with
      | 0, hj => cases hj; exact ⟨_, rfl, z, rfl, hw⟩
    · rename_i hu
      cases h
      obtain ⟨b, rfl, _⟩ := DataW.trod_bool hu ht
      match j, hj with
      | 0, hj => cases hj; exact ⟨_, rfl, b, rfl⟩
    · rename_i fs hu
      obtain ⟨xs, m, rfl, _, _, hlen, hf⟩ := DataW.trod_struct hu ht
      have := flatFs_ok (cs := cs) (fun t ks cs x h1 h2 => flatK_ok d m t ks cs x h1 h2) fs.toList 0 ks h (fun f hfm => by
        obtain ⟨i, hi, he⟩ := List.getElem_of_mem hfm
        have h1 := hf i f (by rw [← Array.getElem?_toList, List.getElem?_eq_getElem hi, he])
        rw [Array.length_toList] at hi
        rw [List.getElem?_eq_getElem (by omega)] at h1
        exact ⟨_, h1⟩) j k hj
      simpa using this
    · cases h
def decI (w : World) (a : Addr) (j : Nat) : Int := match w.cell? ⟨a.block, a.off + j, none⟩ with
  | some (.int _ n) => n
  | _ => 0
def decB (w : World) (a : Addr) (j : Nat) : Bool := match w.cell? ⟨a.block, a.off + j, none⟩ with
  | some (.bool b) => b
  | _ => false
def slAddr : Value → Addr
  | .slice (some a) _ _ => a
  | _ => ⟨0, 0, none⟩
def slCount : Value → Nat
  | .slice _ n _ => n
  | _ => 0
def zW (w : World) (b : Nat) : Option (Nat → Option Value) := match w.heap[b]? with
  | some (.cells c _ _) => some fun i => c[i]?
  | _ => none
theorem zW_cell {b : Nat} {c : Nat → Option Value} (h : zW w b = some c) (i : Nat) : c i = w.cell? ⟨b, i, none⟩ := by
  unfold zW at h
  split at h
  · rename_i hb
    cases h
    simp [World.cell?, hb]
  · cases h
def fiW (w : World) : Fi := ⟨fun _ => ⟨0, 0, 0⟩, 0, zW w⟩
theorem relW (w : World) : Rel (fiW w) ⟨[], 0⟩ w := by
  refine ⟨rfl, fun _ _ h => by simp [Hp.get] at h, fun _ _ h => by simp [Hp.get] at h, fun _ _ h => by simp [Hp.get] at h, fun _ _ _ _ h => by simp [Hp.get] at h, fun _ _ _ h => by simp [Hp.get] at h, fun b c hb => ⟨?_, fun i v hv => ?_, fun _ _ h => by simp [Hp.get] at h⟩⟩
  · have hb' : zW w b = some c := hb
    unfold zW at hb'
    split at hb'
    · rename_i hh
      exact (Array.getElem?_eq_some_iff.1 hh).1
    · cases hb'
  · rw [← zW_cell (w := w) hb i]; exact hv
theorem slice_cells {t e : TypeId} {n d : Nat} {ks : List Bool} {v : Value} {x : DataW H × List MemPlace} {r : Reach} {b0 : Nat} (ht : P.underlying t = some (.slice e)) (hk : flatK P d e = some ks) (hc : P.cellsOf e = ks.length)
    (hok : Cell.okWide P w r b0 t v) (h : DataW.trod enc P w base spare held n t [v] = some x) :
    v = .slice none 0 0 ∨ ∃ a cap c, v = .slice (some a) (slCount v) cap ∧ slCount v ≤ cap ∧ a.spot = none ∧ zW w a.block = some c ∧
      ∀ i j k, i < slCount v → ks[j]? = some k → ∃ u, w.cell? ⟨a.block, a.off + (i * ks.length + j), none⟩ = some u ∧ kindOk k u := by
  rcases open_slice ht h with ⟨h0, _⟩ | ⟨a, len, cap, m, n', D, Pl, hcs, _, hl, _, hm, _, hi⟩
  · left; simpa using h0
  · right
    have hv : v = .slice (some a) len cap := by simpa using hcs
    subst hv
    have hok' : w.has P r b0 a e cap := by
      unfold Cell.okWide at hok
      rw [ht] at hok
      unfold Cell.ok at hok
      rw [ht] at hok
      exact hok.2.2
    obtain ⟨_, hs, row, cells, hsh, _⟩ := hok'
    refine ⟨a, cap, ?_⟩
    have hz : ∃ c, zW w a.block = some c := by
      unfold World.shape? at hsh
      split at hsh
      · rename_i c t' z hb
        exact ⟨fun i => c[i]?, by unfold zW; rw [hb]⟩
      · rename_i hh
        cases hsh
    obtain ⟨c, hz⟩ := hz
    refine ⟨c, rfl, hl, hs, hz, fun i j k hil hj => ?_⟩
    have him : i < m := by
      rw [hm]; simp only [slCount] at hil; split <;> omega
    obtain ⟨cs', hcells, htr⟩ := hi i him
    obtain ⟨u, hu, hko⟩ := flatK_ok d n' e ks cs' (D i, Pl i) hk htr j k hj
    refine ⟨u, ?_, hko⟩
    obtain ⟨_, hlen, hat⟩ := World.cells?_some hcells
    have hjl : j < ks.length := (List.getElem?_eq_some_iff.1 hj).1
    have h1 := hat j (by rw [hc]; exact hjl)
    rw [hu, hc] at h1
    rw [← h1]
    congr 1
    unfold Addr.add
    obtain ⟨ab, ao, asp⟩ := a
    simp only at hs
    subst hs
    by_cases h2 : i * ks.length = 0
    · by_cases h3 : j = 0
      · simp [h2, h3]
      · simp [h2, h3]
    · by_cases h3 : j = 0
      · simp [h2, h3]
      · simp [h2, h3]; omega
theorem slice_isl {t e : TypeId} {n d : Nat} {ks : List Bool} {v : Value} {x : DataW H × List MemPlace} {r : Reach} {b0 : Nat} (ht : P.underlying t = some (.slice e)) (hk : flatK P d e = some ks) (hc : P.cellsOf e = ks.length)
    (hok : Cell.okWide P w r b0 t v) (h : DataW.trod enc P w base spare held n t [v] = some x) {g : Nat → Nat → AV}
    (hg : ∀ i j k, ks[j]? = some k → g i j = if k then .lit (.int .i64 (decI w (slAddr v) (i * ks.length + j))) else .sb (decB w (slAddr v) (i * ks.length + j))) :
    VR (fiW w) (.isl (slCount v) ks.length false g) v := by
  rcases slice_cells ht hk hc hok h with rfl | ⟨a, cap, c, hv, hl, hs, hz, hcell⟩
  · exact .isl0 _ _ _
  · generalize hN : slCount v = N at *
    subst hv
    obtain ⟨ab, ao, asp⟩ := a
    simp only at hs
    subst hs
    refine .isl N ks.length false g ab ao cap c (fun i k => (w.cell? ⟨ab, ao + (i * ks.length + k), none⟩).getD undef) hz (fun i k hi hk' => ?_) (fun i k hi hk' => ?_) hl (fun h => by cases h)
    · obtain ⟨u, hu, _⟩ := hcell i k ks[k] hi (List.getElem?_eq_getElem hk')
      rw [zW_cell (w := w) hz, show ao + i * ks.length + k = ao + (i * ks.length + k) by omega]
      simp only at hu
      rw [hu]; rfl
    · obtain ⟨u, hu, hko⟩ := hcell i k ks[k] hi (List.getElem?_eq_getElem hk')
      simp only at hu
      rw [hu]
      rw [hg i k ks[k] (List.getElem?_eq_getElem hk')]
      cases hkk : ks[k] with
      | true =>
        rw [hkk] at hko
        obtain ⟨z, rfl, _⟩ := hko
        have : decI w (slAddr (.slice (some ⟨ab, ao, none⟩) N cap)) (i * ks.length + k) = z := by
          simp [decI, slAddr, hu]
        simp only [if_true, Option.getD_some]
        rw [this]; exact .lit _
      | false =>
        rw [hkk] at hko
        obtain ⟨z, rfl⟩ := hko
        have : decB w (slAddr (.slice (some ⟨ab, ao, none⟩) N cap)) (i * ks.length + k) = z := by
          simp [decB, slAddr, hu]
        simp only [Bool.false_eq_true, if_false, Option.getD_some]
        rw [this]; exact .sb _
end
end Go.Fz
namespace Go.Proofs.Ytpefamheopplnaa
open Go.ChangeShapes Go.WideShapes Go.ChangeAt Go.RowKit Go.Joins
set_option linter.unusedVariables false
set_option maxRecDepth 100000
theorem post_of_below {H : Type} {enc : TypeId × Value → H} {P : Program} {f : Func} {s : ChangeSpec} {apart fresh handsOn again : Bool} {W W' : World} {args : Array Value} {v : Value} {ds gs : List (DataW H)} {before pa pv : List MemPlace}
    (hW : DataW.Whole enc P f.params.toList s.vars apart W args.toList ds gs before)
    (hres : ∀ (b : Nat) (sp : Nat → Bool) (hd : Bool), DataW.TrodAll enc P W' b sp hd f.resultTypes.toList (v.resultList f.resultTypes.size) (s.fn H (ds ++ gs)).results [])
    (hargs : ∀ sp : Nat → Bool, (∀ p ∈ before, sp p.block = true) → DataW.TrodAll enc P W' 0 sp true f.params.toList args.toList (s.fn H (ds ++ gs)).args pa)
    (hvars : ∀ sp : Nat → Bool, (∀ p ∈ before, sp p.block = true) → DataW.TrodVars enc P W' sp s.vars (s.fn H (ds ++ gs)).vars pv)
    (hps : before = pa ++ pv) (hb : Below W.heap.size W W')
    (hok : ∀ (j : Nat) (t : TypeId) (r : Value), f.resultTypes[j]? = some t → (v.resultList f.resultTypes.size)[j]? = some r → Value.okWide P W' .any 0 t r) :
    s.post enc P f apart fresh handsOn again W args v W' := by
  have hlt : ∀ p ∈ before, p.block < W.heap.size := fun p hp => hW.lt p hp
  have hold : ∀ p ∈ before, (fun b => decide (b < W.heap.size)) p.block = true := fun p hp => by simpa using hlt p hp
  refine ⟨ds, gs, before, [], pa, pv, hW, hres _ _ _, hargs _ hold, hvars _ hold, World.keptBut_mono (fun p hp => ⟨hp, ?_⟩) (hb.frame (· ∈ before)), fun _ => ?_⟩
  · rw [hps, List.mem_append] at hp
    exact Or.inr hp
  · obtain ⟨_, _, _, _, _, hz, hn⟩ := hW
    refine ⟨hok, _, _, ([] ++ pa) ++ pv, ⟨[] ++ pa, pv, trodAll_append (hargs _ (fun _ _ => rfl)) (hres _ _ _), hvars _ (fun _ _ => rfl), rfl, ?_, ?_⟩, ?_⟩
    · intro b off hp
      have hin : MemPlace.cell b off ∈ before := by rw [hps]; simpa using hp
      rw [hb.frozen (hlt _ hin)]
      exact hz b off hin
    · intro ha
      have := hn ha
      rw [hps] at this
      simpa using this
    · intro p hp _
      rw [hps]
      simpa using hp
theorem own : ownKnob Try.prog.godebug = none := by kernel_rfl
theorem laid : laidOutB Try.prog = true := by kernel_rfl
noncomputable def dayOf (W : World) (z0 z1 : Int) (v2 v3 v4 : Value) : Fz.DayD where
  hand := z0
  flat := z1
  nw := Fz.slCount v2
  wlo := fun i => Fz.decI W (Fz.slAddr v2) (i * 2 + 0)
  whi := fun i => Fz.decI W (Fz.slAddr v2) (i * 2 + 1)
  nl := Fz.slCount v3
  lw := fun i => Fz.decI W (Fz.slAddr v3) (i * 3 + 0)
  llo := fun i => Fz.decI W (Fz.slAddr v3) (i * 3 + 1)
  lhi := fun i => Fz.decI W (Fz.slAddr v3) (i * 3 + 2)
  nc := Fz.slCount v4
  ck := fun i => Fz.decI W (Fz.slAddr v4) (i * 4 + 0)
  cw := fun i => Fz.decI W (Fz.slAddr v4) (i * 4 + 1)
  clo := fun i => Fz.decI W (Fz.slAddr v4) (i * 4 + 2)
  chi := fun i => Fz.decI W (Fz.slAddr v4) (i * 4 + 3)
theorem day_parts {H : Type} {enc : TypeId × Value → H} {W : World} {base b0 : Nat} {spare : Nat → Bool} {held : Bool} {v : Value} {d : DataW H} {p : List MemPlace}
    (hv : Value.okWide Try.prog W .any b0 26 v) (h : DataW.Trod enc Try.prog W base spare held 26 v d p) :
    ∃ (z0 z1 : Int) (v2 v3 v4 : Value) (y2 y3 y4 : DataW H × List MemPlace) (n : Nat), v = .agg #[.int .i64 z0, .int .i64 z1, v2, v3, v4] ∧
      DataW.trod enc Try.prog W base spare held n 22 [v2] = some y2 ∧ DataW.trod enc Try.prog W base spare held n 23 [v3] = some y3 ∧ DataW.trod enc Try.prog W base spare held n 24 [v4] = some y4 := by
  obtain ⟨cs, rfl, hsz⟩ := okWide_struct Try.underlying26 hv
  have hC : Try.prog.cellsOf 26 = 5 := by kernel_rfl
  have c3 : Try.prog.cellsOf 3 = 1 := by kernel_rfl
  have c22 : Try.prog.cellsOf 22 = 1 := by kernel_rfl
  have c23 : Try.prog.cellsOf 23 = 1 := by kernel_rfl
  have c24 : Try.prog.cellsOf 24 = 1 := by kernel_rfl
  rw [hC] at hsz
  obtain ⟨l⟩ := cs
  match l, hsz with
  | [u0, u1, u2, u3, u4], _ =>
    obtain ⟨fuel, hf⟩ := h
    obtain ⟨xs, n, _, _, _, hlen, hx⟩ := DataW.trod_struct Try.underlying26 hf
    match xs, hlen with
    | [y0, y1, y2, y3, y4], _ =>
      have h0 : DataW.trod enc Try.prog W base spare held n 3 [u0] = some y0 := by simpa [Value.cells, c3] using hx 0 _ rfl
      have h1 : DataW.trod enc Try.prog W base spare held n 3 [u1] = some y1 := by simpa [Value.cells, c3] using hx 1 _ rfl
      have h2 : DataW.trod enc Try.prog W base spare held n 22 [u2] = some y2 := by simpa [Value.cells, c22] using hx 2 _ rfl
      have h3 : DataW.trod enc Try.prog W base spare held n 23 [u3] = some y3 := by simpa [Value.cells, c23] using hx 3 _ rfl
      have h4 : DataW.trod enc Try.prog W base spare held n 24 [u4] = some y4 := by simpa [Value.cells, c24] using hx 4 _ rfl
      obtain ⟨z0, e0, _, _⟩ := DataW.trod_int Try.underlying3 h0
      obtain ⟨z1, e1, _, _⟩ := DataW.trod_int Try.underlying3 h1
      obtain rfl : u0 = .int .i64 z0 := by simpa using e0
      obtain rfl : u1 = .int .i64 z1 := by simpa using e1
      exact ⟨z0, z1, u2, u3, u4, y2, y3, y4, n, rfl, h2, h3, h4⟩
theorem day_of_parts {H : Type} {enc : TypeId × Value → H} {W : World} {base b0 : Nat} {spare : Nat → Bool} {held : Bool} {z0 z1 : Int} {v2 v3 v4 : Value} {d : DataW H} {p : List MemPlace}
    (hv : Value.okWide Try.prog W .any b0 26 (.agg #[.int .i64 z0, .int .i64 z1, v2, v3, v4])) (h : DataW.Trod enc Try.prog W base spare held 26 (.agg #[.int .i64 z0, .int .i64 z1, v2, v3, v4]) d p) : Fz.VR (Fz.fiW W) (Fz.dayV (dayOf W z0 z1 v2 v3 v4)) (.agg #[.int .i64 z0, .int .i64 z1, v2, v3, v4]) := by
  obtain ⟨z0', z1', v2', v3', v4', y2, y3, y4, n, he, h2, h3, h4⟩ := day_parts hv h
  simp only [Value.agg.injEq, Array.mk.injEq, List.cons.injEq, Value.int.injEq, true_and, and_true] at he
  obtain ⟨rfl, rfl, rfl, rfl, rfl⟩ := he
  have hct : Try.prog.cellTypes Try.prog.depth 26 = some [3, 3, 22, 23, 24] := by kernel_rfl
  unfold Value.okWide at hv
  rw [Try.underlying26] at hv
  obtain ⟨cs, hcs, _, ts, hts, _, hok⟩ := hv
  cases hcs
  rw [hct] at hts
  cases hts
  have hk : ∀ (i : Nat) (u : Value) (t : TypeId), #[Value.int .i64 z0, .int .i64 z1, v2, v3, v4][i]? = some u → [3, 3, 22, 23, 24][i % 5]? = some t → Cell.okWide Try.prog W .any b0 t u := fun i u t hu ht => by
    obtain ⟨t', ht', ho⟩ := hok i u hu
    rw [show ([3, 3, 22, 23, 24] : List TypeId).length = 5 from rfl, ht] at ht'
    cases ht'; exact ho
  refine .agg (.cons (.lit _) (.cons (.lit _) (.cons (Fz.slice_isl (d := 5) (ks := [true, true]) Try.underlying22 (by kernel_rfl) (by kernel_rfl) (hk 2 v2 22 rfl rfl) h2 fun i j k hj => ?_)
    (.cons (Fz.slice_isl (d := 5) (ks := [true, true, true]) Try.underlying23 (by kernel_rfl) (by kernel_rfl) (hk 3 v3 23 rfl rfl) h3 fun i j k hj => ?_)
    (.cons (Fz.slice_isl (d := 5) (ks := [true, true, true, true]) Try.underlying24 (by kernel_rfl) (by kernel_rfl) (hk 4 v4 24 rfl rfl) h4 fun i j k hj => ?_) .nil)))))
  · match j, hj with
    | 0, hj => cases hj; rfl
    | 1, hj => cases hj; rfl
  · match j, hj with
    | 0, hj => cases hj; rfl
    | 1, hj => cases hj; rfl
    | 2, hj => cases hj; rfl
  · match j, hj with
    | 0, hj => cases hj; rfl
    | 1, hj => cases hj; rfl
    | 2, hj => cases hj; rfl
    | 3, hj => cases hj; rfl
theorem day_read {H : Type} {enc : TypeId × Value → H} {W : World} {base b0 : Nat} {spare : Nat → Bool} {held : Bool} {v : Value} {d : DataW H} {p : List MemPlace}
    (hv : Value.okWide Try.prog W .any b0 26 v) (h : DataW.Trod enc Try.prog W base spare held 26 v d p) : ∃ f : Fz.DayD, Fz.VR (Fz.fiW W) (Fz.dayV f) v := by
  obtain ⟨z0, z1, v2, v3, v4, y2, y3, y4, n, rfl, h2, h3, h4⟩ := day_parts hv h
  exact ⟨_, day_of_parts hv h⟩
theorem u16_in {n : Int} (h : (Lit.int .u16 n).wf = true) : 0 ≤ n ∧ n ≤ 65535 := by
  simp [Lit.wf, IntKind.min, IntKind.max, IntKind.signed, IntKind.bits] at h
  omega
end Go.Proofs.Ytpefamheopplnaa
namespace Go.Fz
variable {P : Program} {T : Ti}
structure WeakC (n0 : Nat) (v1 : AV) (st1 : St) (v2 : AV) (st2 : St) : Prop where
  val : v2 = .any ∨ (v2 = v1 ∧ (st2.n = st1.n ∨ Below st2.n v1))
  lo : n0 ≤ st2.n
  hi : st2.n ≤ st1.n
  obj : ∀ id o, st2.h.get id = some o → st1.h.get id = some o ∧ id < st2.n ∧ (st2.n = st1.n ∨ ObjBelow st2.n o)
theorem CPost.weak {φ : Fi} {st : St} {w : World} {k1 k : AV → St → Prop} {e : Ending} {w' : World} (hn : φ.n = st.n) (h : CPost φ st w k1 e w')
    (hk : ∀ v1 st1, k1 v1 st1 → k v1 st1 ∨ ∃ v2 st2, WeakC st.n v1 st1 v2 st2 ∧ k v2 st2) : CPost φ st w k e w' := by
  obtain ⟨v, cv, st', φ', rfl, hkv, hv, he, hr, hf⟩ := h
  rcases hk v st' hkv with h | ⟨v2, st2, hw, h⟩
  · exact ⟨v, cv, st', φ', rfl, h, hv, he, hr, hf⟩
  · have hw0 : Weak st.n ⟨⟨0, fun _ => .any⟩, []⟩ st' ⟨⟨0, fun _ => .any⟩, []⟩ st2 := ⟨rfl, rfl, (fun _ h => nomatch h), fun _ => .inl rfl, hw.lo, hw.hi, hw.obj⟩
    obtain ⟨k1, _, k3⟩ := hw0.ok (a := { tmps := #[], defers := [] }) hr ⟨⟨rfl, fun _ => .any _⟩, rfl, fun _ h => by cases h⟩
    refine ⟨v2, cv, st2, cutN φ' st2.n, rfl, h, ?_, ⟨by rw [hn]; exact hw.lo, he.f, he.z⟩, k1, hf.trans k3⟩
    rcases hw.val with h1 | ⟨h1, h2⟩
    · rw [h1]; exact .any _
    · rw [h1]
      rcases h2 with h2 | h2
      · have hs : cutN φ' st2.n = φ' := by cases φ'; simp only [cutN, h2, ← hr.n]
        rw [hs]; exact hv
      · exact h2 _ _ hv
theorem CallW.weak {g : FuncId} {args : List AV} {st : St} {k1 k : AV → St → Prop} (h : CallW P g args st k1)
    (hk : ∀ v1 st1, k1 v1 st1 → k v1 st1 ∨ ∃ v2 st2, WeakC st.n v1 st1 v2 st2 ∧ k v2 st2) : CallW P g args st k :=
  fun φ w cargs n h1 h2 => (h φ w cargs n h1 h2).mono fun _ _ hc => hc.weak h1.n hk
theorem Hp.get_app : ∀ (R h : Hp) (id : Nat), Hp.get (R ++ h) id = match R.get id with | some o => some o | none => h.get id
  | [], h, id => rfl
  | (i, x) :: r, h, id => by
    by_cases hi : i = id
    · subst hi; simp [Hp.get]
    · simp [Hp.get, hi, Hp.get_app r h id]
theorem Hp.get_appL {R h : Hp} {id : Nat} {o : AObj} (k : R.get id = some o) : Hp.get (R ++ h) id = some o := by rw [Hp.get_app, k]
theorem Hp.get_appR {R h : Hp} {id : Nat} (k : R.get id = none) : Hp.get (R ++ h) id = h.get id := by rw [Hp.get_app, k]
theorem Hp.app_cases {R h : Hp} {id : Nat} {o : AObj} (k : Hp.get (R ++ h) id = some o) : R.get id = some o ∨ (R.get id = none ∧ h.get id = some o) := by
  rw [Hp.get_app] at k
  split at k
  · rename_i o' ho; cases k; exact .inl ho
  · rename_i ho; exact .inr ⟨ho, k⟩
def withR (R : Hp) (st : St) : St := ⟨R ++ st.h, st.n⟩
structure Apart (R : Hp) (st : St) : Prop where
  own : ∀ id o, R.get id = some o → o.own = true
  new : ∀ id o, R.get id = some o → st.h.get id = none
  mates : ∀ i j oi oj, R.get i = some oi → st.h.get j = some oj → ¬ Mates oi oj
theorem Apart.sub {R : Hp} {st : St} (ha : Apart R st) {id : Nat} {o : AObj} (h : st.h.get id = some o) : (withR R st).h.get id = some o := by
  show Hp.get (R ++ st.h) id = _
  rw [Hp.get_appR, h]
  cases hR : R.get id with
  | none => rfl
  | some o' => rw [ha.new id o' hR] at h; cases h
theorem Rel.drop {φ : Fi} {R : Hp} {st : St} {w : World} (ha : Apart R st) (hr : Rel φ (withR R st) w) : Rel φ st w :=
  ⟨hr.n, fun id o h => hr.lt id o (ha.sub h), fun id o h => hr.blk id o (ha.sub h), fun id o h => hr.obj id o (ha.sub h),
   fun i j oi oj hi hj => hr.sep i j oi oj (ha.sub hi) (ha.sub hj), fun id o f h => hr.fam id o f (ha.sub h),
   fun b c hb => let ⟨h1, h2, h3⟩ := hr.froz b c hb; ⟨h1, h2, fun id o h => h3 id o (ha.sub h)⟩⟩
def Owned (st st' : St) : Prop := ∀ id o, st'.h.get id = some o → o.own = true ∨ st.h.get id = some o
theorem CPost.frame {φ : Fi} {R : Hp} {st : St} {w : World} {k : AV → St → Prop} {e : Ending} {w' : World} (ha : Apart R st) (hr : Rel φ (withR R st) w) (h : CPost φ st w k e w')
    (hk : ∀ v st', k v st' → Owned st st') : CPost φ (withR R st) w (fun v s => ∃ st', k v st' ∧ s = withR R st') e w' := by
  obtain ⟨v, cv, st', φ', rfl, hkv, hv, he, hr', hf⟩ := h
  have hR : ∀ {i : Nat} {oi : AObj}, R.get i = some oi → (withR R st).h.get i = some oi := fun h => Hp.get_appL h
  have disj : ∀ {i : Nat} {oi : AObj}, R.get i = some oi → ¬ Owns φ st (φ.f i).b := fun {i oi} hi ⟨j, oj, hj, hjo, hb⟩ => by
    have hij : i ≠ j := fun h => by subst h; rw [ha.new i oi hi] at hj; cases hj
    exact ha.mates i j oi oj hi hj (hr.sep i j oi oj (hR hi) (ha.sub hj) hij (ha.own i oi hi) hb.symm).1
  have lt0 : ∀ {i : Nat} {oi : AObj}, R.get i = some oi → i < φ.n := fun {i oi} hi => by rw [hr.n]; exact hr.lt i oi (hR hi)
  have fi : ∀ {i : Nat} {oi : AObj}, R.get i = some oi → φ'.f i = φ.f i := fun hi => he.f _ (lt0 hi)
  have blk : ∀ {i : Nat} {oi : AObj}, R.get i = some oi → (φ.f i).b < w.heap.size := fun hi => hr.blk _ _ (hR hi)
  have notown : ∀ {i : Nat} {oi : AObj}, R.get i = some oi → ¬ Owns φ' st' (φ.f i).b := fun hi ho =>
    (hf.own _ ho).elim (disj hi) fun hl => by have := blk hi; omega
  have hmono : ∀ {k : Nat}, Owns φ st k → Owns φ (withR R st) k := fun ⟨id, o, h, ho, hb⟩ => ⟨id, o, ha.sub h, ho, hb⟩
  have hn : st.n ≤ st'.n := by have := he.n; rw [hr.n, hr'.n] at this; exact this
  refine ⟨v, cv, withR R st', φ', rfl, ⟨st', hkv, rfl⟩, hv, he, ⟨hr'.n, fun id o h => ?_, fun id o h => ?_, fun id o h => ?_, fun i j oi oj hi hj hij hio hb => ?_, fun id o f h hfm => ?_, fun b c hb => ?_⟩,
    ⟨hf.os, hf.tape, hf.output, hf.size, fun k hk ho => hf.block k hk fun h => ho (hmono h), fun k ⟨id, o, h, ho, hb⟩ => ?_, fun b c hb => ?_⟩⟩
  · rcases Hp.app_cases h with h | ⟨_, h⟩
    · exact Nat.lt_of_lt_of_le (hr.lt id o (hR h)) hn
    · exact hr'.lt id o h
  · rcases Hp.app_cases h with h | ⟨_, h⟩
    · rw [fi h]; exact Nat.lt_of_lt_of_le (blk h) hf.size
    · exact hr'.blk id o h
  · rcases Hp.app_cases h with h | ⟨_, h⟩
    · exact (hr.obj id o (hR h)).same he (lt0 h) (hf.block _ (blk h) (disj h))
    · exact hr'.obj id o h
  · rcases Hp.app_cases hi with hi | ⟨_, hi⟩ <;> rcases Hp.app_cases hj with hj | ⟨_, hj⟩
    · rw [fi hi, fi hj] at *
      exact hr.sep i j oi oj (hR hi) (hR hj) hij hio hb
    · exfalso
      rw [fi hi] at hb
      rcases hk v st' hkv j oj hj with ho | ho
      · exact notown hi ⟨j, oj, hj, ho, hb.symm⟩
      · have hjn : j < φ.n := by rw [hr.n]; exact hr.lt j oj (ha.sub ho)
        rw [he.f j hjn] at hb
        exact ha.mates i j oi oj hi ho (hr.sep i j oi oj (hR hi) (ha.sub ho) hij hio hb).1
    · exfalso
      rw [fi hj] at hb
      exact notown hj ⟨i, oi, hi, hio, hb⟩
    · exact hr'.sep i j oi oj hi hj hij hio hb
  · rcases Hp.app_cases h with h | ⟨_, h⟩
    · exact Nat.lt_of_lt_of_le (hr.fam id o f (hR h) hfm) hn
    · exact hr'.fam id o f h hfm
  · obtain ⟨h1, h2, h3⟩ := hr'.froz b c hb
    refine ⟨h1, h2, fun id o h hown => ?_⟩
    rcases Hp.app_cases h with h | ⟨_, h⟩
    · rw [fi h]
      rcases hf.zs b c hb with hz | hz | hz
      · exact (hr.froz b c hz).2.2 id o (hR h) hown
      · exact fun hbb => disj h (by rw [hbb]; exact hz)
      · have := blk h; omega
    · exact h3 id o h hown
  · rcases Hp.app_cases h with h | ⟨_, h⟩
    · rw [fi h] at hb
      exact .inl ⟨id, o, hR h, ho, hb⟩
    · exact (hf.own k ⟨id, o, h, ho, hb⟩).imp hmono fun h => h
  · exact (hf.zs b c hb).imp (fun h => h) fun h => h.imp hmono fun h => h
theorem YieldW.frame {id : Nat} {args : List AV} {R : Hp} {st : St} {k : AV → St → Prop} (ha : Apart R st) (h : YieldW P id args st k) (hk : ∀ v st', k v st' → Owned st st') :
    YieldW P id args (withR R st) (fun v s => ∃ st', k v st' ∧ s = withR R st') :=
  fun φ w cargs n h1 h2 h3 => by
    obtain ⟨fn, tmps, assign, body, h4, h5⟩ := h φ w cargs n (h1.drop ha) h2 h3
    exact ⟨fn, tmps, assign, body, h4, h5.mono fun _ _ hc => hc.frame ha h1 hk⟩
def applyAt (ops : Array Oper) (i : Nat) (f : Fm) : Option (AV × List AV) := match ops[i]? with
  | none => none
  | some o => match wantA ops f.ts o with
    | some true => callO (Operand.av f.ts) o
    | _ => none
theorem applyAt_ok {ops : Array Oper} {i : Nat} {f : Fm} {c : AV} {args : List AV} (h : applyAt ops i f = some (c, args)) :
    ∃ o, ops[i]? = some o ∧ wantA ops f.ts o = some true ∧ callO (Operand.av f.ts) o = some (c, args) ∧ ∀ v, putAt ops i f v = f.put o.dst v := by
  unfold applyAt at h
  split at h
  · cases h
  · rename_i o ho
    split at h
    · rename_i hw
      exact ⟨o, ho, hw, h, fun v => by simp [putAt, ho]⟩
    · cases h
theorem OpsW.apply {rd : Option Nat} {ops : Array Oper} {i : Nat} {l : List Nat} {K : Fm → St → Prop} {f : Fm} {st : St} {c : AV} {args : List AV} (hc : applyAt ops i f = some (c, args))
    {k : AV → St → Prop} (ha : ApplyW P c args st k) (h : ∀ v st', k v st' → OpsW P rd ops l K (putAt ops i f v) st') : OpsW P rd ops (i :: l) K f st := by
  obtain ⟨o, ho, hw, hcc, hput⟩ := applyAt_ok hc
  exact OpsW.call ho hw hcc (ha.mono fun v st' hk => by have := h v st' hk; rw [hput] at this; exact this)
theorem AnyE.apply {rd : Option Nat} {ops : Array Oper} {M : List Nat} {K : Fm → St → Prop} {fuel : Nat} {pend : List (Nat × AV)} {listed : Array Bool} {f : Fm} {st : St} {j : Nat} {c : AV} {args : List AV}
    (hj : onlyD ops M pend listed = some (j, [])) (hc : applyAt ops j f = some (c, args)) {k : AV → St → Prop} (ha : ApplyW P c args st k)
    (h : ∀ v st', k v st' → AnyE P T ops M rd K fuel [] (listed.setIfInBounds j true) (putAt ops j f v) st') : AnyE P T ops M rd K (fuel + 1) pend listed f st := fun k1 k2 k3 => by
  unfold onlyD at hj
  split at hj
  · rename_i j' hr
    split at hj
    · rename_i o ho
      split at hj
      · simp only [Option.some.injEq, Prod.mk.injEq] at hj
        obtain ⟨rfl, hd⟩ := hj
        obtain ⟨o', ho', hw, hcc, hput⟩ := applyAt_ok hc
        rw [ho] at ho'; cases ho'
        refine AnyE.one j' ho (by rw [hr]; exact Nat.beq_refl j') [] hd (OpsW.call ho hw hcc (ha.mono fun v st' hk => .nil ⟨⟨v, rfl⟩, (fun p hp => absurd hp List.not_mem_nil), ?_⟩)) k1 k2 k3
        have := h v st' hk
        rw [hput] at this
        exact this
      · cases hj
    · cases hj
  · cases hj
end Go.Fz
namespace Go.Fz
variable {P : Program} {T : Ti}
def notZ (j : Nat) : Bool := !(Nat.beq j 0)
def roS (cs : List AV) : St := ⟨[(0, .cells none true cs)], 1⟩
theorem roS_get {cs : List AV} {id : Nat} {o : AObj} (h : (roS cs).h.get id = some o) : id = 0 ∧ o = .cells none true cs := by
  simp only [roS, Hp.get] at h
  split at h
  · rename_i hi; cases h; exact ⟨hi.symm, rfl⟩
  · cases h
theorem call_ro {g : FuncId} {args args2 : List AV} {r : AV} {m id : Nat} {fm : Option Nat} {ro : Bool} {cs : List AV} {st : St} (hg : st.h.get id = some (.cells fm ro cs)) (hcs : ∀ a ∈ cs, Below 0 a) (hr : Below 0 r)
    (ha : ∀ (φ : Fi) (us : List Value), VRL φ args us → VRL ⟨fun _ => φ.f id, 1, φ.z⟩ args2 us)
    (h : CallW P g args2 (roS cs) (fun v st' => freeB st'.h notZ = true ∧ Eqv (frz st'.h notZ m v) r)) : CallW P g args st (fun v st' => v = r ∧ st' = st) := by
  intro φ w cargs n hrel hargs
  have hrel0 : Rel ⟨fun _ => φ.f id, 1, φ.z⟩ (roS cs) w := by
    refine ⟨rfl, fun j o h => ?_, fun j o h => ?_, fun j o h => ?_, fun i j oi oj hi hj hij _ _ => ?_, fun j o f h hf => ?_, fun b c hb => ⟨(hrel.froz b c hb).1, (hrel.froz b c hb).2.1, fun j o h ho => ?_⟩⟩
    · obtain ⟨rfl, rfl⟩ := roS_get h; exact Nat.zero_lt_one
    · obtain ⟨rfl, rfl⟩ := roS_get h; exact hrel.blk id _ hg
    · obtain ⟨rfl, rfl⟩ := roS_get h
      refine ⟨fun i a hi => ?_, fun h => by cases h⟩
      obtain ⟨v, h1, h2⟩ := (hrel.obj id _ hg).1 i a hi
      refine ⟨v, h1, ?_⟩
      have h3 := hcs a (List.mem_of_getElem? hi) _ _ h2
      exact VR.mono (φ := ⟨φ.f, 0, φ.z⟩) (φ' := ⟨fun _ => φ.f id, 1, φ.z⟩) ⟨Nat.zero_le _, fun id hid => absurd hid (Nat.not_lt_zero id), fun b c hb => hb⟩ h3
    · exact absurd ((roS_get hi).1.trans (roS_get hj).1.symm) hij
    · obtain ⟨rfl, rfl⟩ := roS_get h; cases hf
    · obtain ⟨rfl, rfl⟩ := roS_get h; cases ho
  refine (h ⟨fun _ => φ.f id, 1, φ.z⟩ w cargs n hrel0 (ha φ _ hargs)).mono fun e w1 hp => ?_
  obtain ⟨v, cv, st1, φ1, rfl, ⟨hfree, hv⟩, hvr, hext, hrel1, hfr⟩ := hp
  obtain ⟨hrel2, hfr2⟩ := hrel1.freeze hfree
  have hvr2 := frz_ok (D := notZ) hrel1 m hvr
  replace hvr2 := hv _ _ hvr2
  have hfr3 := hfr.trans hfr2
  have hnone : ∀ b, ¬ Owns ⟨fun _ => φ.f id, 1, φ.z⟩ (roS cs) b := fun b ⟨j, o, h, ho, _⟩ => by obtain ⟨rfl, rfl⟩ := roS_get h; cases ho
  have hzs : ∀ b c, zOf φ1 st1.h notZ w1 b = some c → φ.z b = some c ∨ w.heap.size ≤ b := fun b c hb => (hfr3.zs b c hb).elim .inl fun h => h.elim (fun ho => absurd ho (hnone b)) .inr
  have hext3 : Ext φ ⟨φ.f, φ.n, zOf φ1 st1.h notZ w1⟩ := ⟨Nat.le_refl _, fun _ _ => rfl, fun b c hb => zOf_old (hext.z b c hb)⟩
  have hsame : ∀ k, k < w.heap.size → w1.heap[k]? = w.heap[k]? := fun k hk => hfr3.block k hk (hnone k)
  refine ⟨r, cv, st, ⟨φ.f, φ.n, zOf φ1 st1.h notZ w1⟩, rfl, ⟨rfl, rfl⟩, ?_, hext3, ?_, ?_⟩
  · have h1' := hr _ _ hvr2
    exact VR.mono (φ := ⟨φ1.f, 0, zOf φ1 st1.h notZ w1⟩) (φ' := ⟨φ.f, φ.n, zOf φ1 st1.h notZ w1⟩) ⟨Nat.zero_le _, fun id hid => absurd hid (Nat.not_lt_zero id), fun b c hb => hb⟩ h1'
  · refine ⟨hrel.n, hrel.lt, fun id o ho => Nat.lt_of_lt_of_le (hrel.blk id o ho) hfr3.size, fun id o ho => (hrel.obj id o ho).same hext3 (by rw [hrel.n]; exact hrel.lt id o ho) (hsame _ (hrel.blk id o ho)), hrel.sep, hrel.fam, fun b c hb => ?_⟩
    obtain ⟨h1, h2, _⟩ := hrel2.froz b c hb
    refine ⟨h1, h2, fun id o ho hown hbb => ?_⟩
    rcases hzs b c hb with h3 | h3
    · exact (hrel.froz b c h3).2.2 id o ho hown hbb
    · have := hrel.blk id o ho
      have hbb' : (φ.f id).b = b := hbb
      omega
  · exact ⟨hfr3.os, hfr3.tape, hfr3.output, hfr3.size, fun k hk _ => hsame k hk, fun k hk => .inl hk, fun b c hb => (hzs b c hb).elim .inl fun h => .inr (.inr h)⟩
end Go.Fz
namespace Go.Fz
open Go.Proofs
set_option maxRecDepth 100000
theorem each70_ok (d : DayD) (g0 : FuncId) (first caps : List AV) (p : Nat → Bool) (hb : Below 0 (.fn (.func g0) first caps)) (hn : d.nw < 4611686018427387904) (hp : ∀ i, i < d.nw → Pure Try.prog g0 (first ++ [iV i, womV d i] ++ caps) (.sb (p i))) :
    Pure Try.prog 114 [womsV d, .fn (.func g0) first caps] (.sb (allN d.nw p)) := by
  obtain ⟨O, hO⟩ : ∃ O : Ar, O = std := ⟨_, rfl⟩
  have hnat : ∀ i : Nat, O.nat (Int.ofNat i) = i := fun i => by subst hO; rfl
  refine pure_of_body tok 3 Try.func114 en114 rfl ⟨womsV_below d, hb, trivial⟩ Below.sb ?_
  refine SW.seqRun tok hO (by cbv <;> rfl) (by trivial) ?_
  refine SW.seq ?_
  refine SW.seqRun tok hO (by cbv <;> rfl) (by trivial) ?_
  refine (SW.block (SW.loopF (fun i : Nat => ⟨⟨20, getT [(1, .fn (.func g0) first caps), (7, womsV d), (8, iV d.nw), (9, iV i)]⟩, []⟩) (fun _ => ⟨[], 0⟩) (fun i => d.nw - i) (fun i => i ≤ d.nw ∧ ∀ j, j < i → p j = true) 0
    (fun _ => rfl) ⟨Nat.zero_le _, fun j hj => absurd hj (Nat.not_lt_zero j)⟩ (Weak.by rfl rfl (by simp) (Nat.le_refl _) (Nat.le_refl _) ⟨⟨rfl, .inl rfl⟩, ⟨rfl, .inl rfl⟩, ⟨rfl, .inl rfl⟩, ⟨rfl, .inl rfl⟩, trivial⟩ trivial) fun i ⟨hi, hall⟩ => ?_))
  refine SW.seqRun tok hO (by cbv <;> rfl) (by trivial) ?_
  refine SW.seq (SW.condS (by cbv <;> rfl) (fun h => SW.skip ?_) (fun h => SW.exit ?_))
  · have hlt : i < d.nw := by subst hO; simpa [std] using h
    refine SW.seq (SW.block ?_)
    refine SW.seqRun tok hO (by cbv <;> rfl) ?_ ?_
    · exact ⟨Int.natCast_nonneg i, Int.ofNat_lt.2 hlt⟩
    refine SW.seqRun tok hO (by cbv <;> rfl) (by trivial) ?_
    refine OpsW.callB (e := p i) (args := first ++ [iV (Int.ofNat i), .agg [iV (d.wlo (O.nat (Int.ofNat i))), iV (d.whi (O.nat (Int.ofNat i)))]] ++ caps) (by rw [hnat]; exact hp i hlt) (by cbv <;> rfl) fun b hb' => ?_
    refine OpsW.run tok hO (by cbv <;> rfl) (by trivial) ?_
    refine SW.condS (by cbv <;> rfl) (fun h' => ?_) (fun h' => SW.skip ?_)
    · refine SW.seqRun tok hO (by cbv <;> rfl) (by trivial) ?_
      refine SW.ret ⟨_, _, rfl, rfl, Eqv.bool (Bool.eq_iff_iff.2 ?_)⟩
      subst hO
      simp [std, hb'] at h'
      simp only [Bool.false_eq_true, allN, decide_eq_true_eq, false_iff]
      intro hq
      rw [hq i hlt] at h'
      cases h'
    · refine SW.run tok hO (by cbv <;> rfl) (by trivial) ?_
      refine ⟨i + 1, by omega, ⟨by omega, fun j hj => ?_⟩, Weak.by rfl rfl (by simp) (Nat.le_refl _) (Nat.zero_le _) ⟨⟨rfl, .inr hb⟩, ⟨rfl, .inr (womsV_below d)⟩, ⟨rfl, .inr iV_below⟩, ⟨inc_ok hO (by omega), .inr iV_below⟩, trivial⟩ trivial⟩
      rcases Nat.lt_succ_iff_lt_or_eq.1 hj with hj | rfl
      · exact hall j hj
      · subst hO; simp [std, hb'] at h'; exact h'
  · refine SW.seqRun tok hO (by cbv <;> rfl) (by trivial) ?_
    refine SW.ret ⟨_, _, rfl, rfl, Eqv.bool (Bool.eq_iff_iff.2 ?_)⟩
    have hge : d.nw ≤ i := by subst hO; simpa [std] using h
    simp only [allN, decide_eq_true_eq, true_iff]
    exact fun j hj => hall j (by omega)
theorem each72_ok (d : DayD) (g0 : FuncId) (first caps : List AV) (p : Nat → Bool) (hb : Below 0 (.fn (.func g0) first caps)) (hn : d.nl < 4611686018427387904) (hp : ∀ i, i < d.nl → Pure Try.prog g0 (first ++ [iV i, lotV d i] ++ caps) (.sb (p i))) :
    Pure Try.prog 116 [lotsV d, .fn (.func g0) first caps] (.sb (allN d.nl p)) := by
  obtain ⟨O, hO⟩ : ∃ O : Ar, O = std := ⟨_, rfl⟩
  have hnat : ∀ i : Nat, O.nat (Int.ofNat i) = i := fun i => by subst hO; rfl
  refine pure_of_body tok 3 Try.func116 en116 rfl ⟨lotsV_below d, hb, trivial⟩ Below.sb ?_
  refine SW.seqRun tok hO (by cbv <;> rfl) (by trivial) ?_
  refine SW.seq ?_
  refine SW.seqRun tok hO (by cbv <;> rfl) (by trivial) ?_
  refine (SW.block (SW.loopF (fun i : Nat => ⟨⟨20, getT [(1, .fn (.func g0) first caps), (7, lotsV d), (8, iV d.nl), (9, iV i)]⟩, []⟩) (fun _ => ⟨[], 0⟩) (fun i => d.nl - i) (fun i => i ≤ d.nl ∧ ∀ j, j < i → p j = true) 0
    (fun _ => rfl) ⟨Nat.zero_le _, fun j hj => absurd hj (Nat.not_lt_zero j)⟩ (Weak.by rfl rfl (by simp) (Nat.le_refl _) (Nat.le_refl _) ⟨⟨rfl, .inl rfl⟩, ⟨rfl, .inl rfl⟩, ⟨rfl, .inl rfl⟩, ⟨rfl, .inl rfl⟩, trivial⟩ trivial) fun i ⟨hi, hall⟩ => ?_))
  refine SW.seqRun tok hO (by cbv <;> rfl) (by trivial) ?_
  refine SW.seq (SW.condS (by cbv <;> rfl) (fun h => SW.skip ?_) (fun h => SW.exit ?_))
  · have hlt : i < d.nl := by subst hO; simpa [std] using h
    refine SW.seq (SW.block ?_)
    refine SW.seqRun tok hO (by cbv <;> rfl) ?_ ?_
    · exact ⟨Int.natCast_nonneg i, Int.ofNat_lt.2 hlt⟩
    refine SW.seqRun tok hO (by cbv <;> rfl) (by trivial) ?_
    refine OpsW.callB (e := p i) (args := first ++ [iV (Int.ofNat i), .agg [iV (d.lw (O.nat (Int.ofNat i))), iV (d.llo (O.nat (Int.ofNat i))), iV (d.lhi (O.nat (Int.ofNat i)))]] ++ caps) (by rw [hnat]; exact hp i hlt) (by cbv <;> rfl) fun b hb' => ?_
    refine OpsW.run tok hO (by cbv <;> rfl) (by trivial) ?_
    refine SW.condS (by cbv <;> rfl) (fun h' => ?_) (fun h' => SW.skip ?_)
    · refine SW.seqRun tok hO (by cbv <;> rfl) (by trivial) ?_
      refine SW.ret ⟨_, _, rfl, rfl, Eqv.bool (Bool.eq_iff_iff.2 ?_)⟩
      subst hO
      simp [std, hb'] at h'
      simp only [Bool.false_eq_true, allN, decide_eq_true_eq, false_iff]
      intro hq
      rw [hq i hlt] at h'
      cases h'
    · refine SW.run tok hO (by cbv <;> rfl) (by trivial) ?_
      refine ⟨i + 1, by omega, ⟨by omega, fun j hj => ?_⟩, Weak.by rfl rfl (by simp) (Nat.le_refl _) (Nat.zero_le _) ⟨⟨rfl, .inr hb⟩, ⟨rfl, .inr (lotsV_below d)⟩, ⟨rfl, .inr iV_below⟩, ⟨inc_ok hO (by omega), .inr iV_below⟩, trivial⟩ trivial⟩
      rcases Nat.lt_succ_iff_lt_or_eq.1 hj with hj | rfl
      · exact hall j hj
      · subst hO; simp [std, hb'] at h'; exact h'
  · refine SW.seqRun tok hO (by cbv <;> rfl) (by trivial) ?_
    refine SW.ret ⟨_, _, rfl, rfl, Eqv.bool (Bool.eq_iff_iff.2 ?_)⟩
    have hge : d.nl ≤ i := by subst hO; simpa [std] using h
    simp only [allN, decide_eq_true_eq, true_iff]
    exact fun j hj => hall j (by omega)
theorem each74_ok (d : DayD) (g0 : FuncId) (first caps : List AV) (p : Nat → Bool) (hb : Below 0 (.fn (.func g0) first caps)) (hn : d.nc < 4611686018427387904) (hp : ∀ i, i < d.nc → Pure Try.prog g0 (first ++ [iV i, cntV d i] ++ caps) (.sb (p i))) :
    Pure Try.prog 118 [cntsV d, .fn (.func g0) first caps] (.sb (allN d.nc p)) := by
  obtain ⟨O, hO⟩ : ∃ O : Ar, O = std := ⟨_, rfl⟩
  have hnat : ∀ i : Nat, O.nat (Int.ofNat i) = i := fun i => by subst hO; rfl
  refine pure_of_body tok 3 Try.func118 en118 rfl ⟨cntsV_below d, hb, trivial⟩ Below.sb ?_
  refine SW.seqRun tok hO (by cbv <;> rfl) (by trivial) ?_
  refine SW.seq ?_
  refine SW.seqRun tok hO (by cbv <;> rfl) (by trivial) ?_
  refine (SW.block (SW.loopF (fun i : Nat => ⟨⟨20, getT [(1, .fn (.func g0) first caps), (7, cntsV d), (8, iV d.nc), (9, iV i)]⟩, []⟩) (fun _ => ⟨[], 0⟩) (fun i => d.nc - i) (fun i => i ≤ d.nc ∧ ∀ j, j < i → p j = true) 0
    (fun _ => rfl) ⟨Nat.zero_le _, fun j hj => absurd hj (Nat.not_lt_zero j)⟩ (Weak.by rfl rfl (by simp) (Nat.le_refl _) (Nat.le_refl _) ⟨⟨rfl, .inl rfl⟩, ⟨rfl, .inl rfl⟩, ⟨rfl, .inl rfl⟩, ⟨rfl, .inl rfl⟩, trivial⟩ trivial) fun i ⟨hi, hall⟩ => ?_))
  refine SW.seqRun tok hO (by cbv <;> rfl) (by trivial) ?_
  refine SW.seq (SW.condS (by cbv <;> rfl) (fun h => SW.skip ?_) (fun h => SW.exit ?_))
  · have hlt : i < d.nc := by subst hO; simpa [std] using h
    refine SW.seq (SW.block ?_)
    refine SW.seqRun tok hO (by cbv <;> rfl) ?_ ?_
    · exact ⟨Int.natCast_nonneg i, Int.ofNat_lt.2 hlt⟩
    refine SW.seqRun tok hO (by cbv <;> rfl) (by trivial) ?_
    refine OpsW.callB (e := p i) (args := first ++ [iV (Int.ofNat i), .agg [iV (d.ck (O.nat (Int.ofNat i))), iV (d.cw (O.nat (Int.ofNat i))), iV (d.clo (O.nat (Int.ofNat i))), iV (d.chi (O.nat (Int.ofNat i)))]] ++ caps) (by rw [hnat]; exact hp i hlt) (by cbv <;> rfl) fun b hb' => ?_
    refine OpsW.run tok hO (by cbv <;> rfl) (by trivial) ?_
    refine SW.condS (by cbv <;> rfl) (fun h' => ?_) (fun h' => SW.skip ?_)
    · refine SW.seqRun tok hO (by cbv <;> rfl) (by trivial) ?_
      refine SW.ret ⟨_, _, rfl, rfl, Eqv.bool (Bool.eq_iff_iff.2 ?_)⟩
      subst hO
      simp [std, hb'] at h'
      simp only [Bool.false_eq_true, allN, decide_eq_true_eq, false_iff]
      intro hq
      rw [hq i hlt] at h'
      cases h'
    · refine SW.run tok hO (by cbv <;> rfl) (by trivial) ?_
      refine ⟨i + 1, by omega, ⟨by omega, fun j hj => ?_⟩, Weak.by rfl rfl (by simp) (Nat.le_refl _) (Nat.zero_le _) ⟨⟨rfl, .inr hb⟩, ⟨rfl, .inr (cntsV_below d)⟩, ⟨rfl, .inr iV_below⟩, ⟨inc_ok hO (by omega), .inr iV_below⟩, trivial⟩ trivial⟩
      rcases Nat.lt_succ_iff_lt_or_eq.1 hj with hj | rfl
      · exact hall j hj
      · subst hO; simp [std, hb'] at h'; exact h'
  · refine SW.seqRun tok hO (by cbv <;> rfl) (by trivial) ?_
    refine SW.ret ⟨_, _, rfl, rfl, Eqv.bool (Bool.eq_iff_iff.2 ?_)⟩
    have hge : d.nc ≤ i := by subst hO; simpa [std] using h
    simp only [allN, decide_eq_true_eq, true_iff]
    exact fun j hj => hall j (by omega)
theorem each64_ok (n : Nat) (ex : Bool) (fl : Nat → Int) (g0 : FuncId) (first caps : List AV) (p : Nat → Bool) (hb : Below 0 (.fn (.func g0) first caps)) (hn : n < 4611686018427387904) (hp : ∀ i, i < n → Pure Try.prog g0 (first ++ [iV i, iV (fl i)] ++ caps) (.sb (p i))) :
    Pure Try.prog 109 [intsV n ex fl, .fn (.func g0) first caps] (.sb (allN n p)) := by
  obtain ⟨O, hO⟩ : ∃ O : Ar, O = std := ⟨_, rfl⟩
  have hnat : ∀ i : Nat, O.nat (Int.ofNat i) = i := fun i => by subst hO; rfl
  refine pure_of_body tok 3 Try.func109 en109 rfl ⟨intsV_below n ex fl, hb, trivial⟩ Below.sb ?_
  refine SW.seqRun tok hO (by cbv <;> rfl) (by trivial) ?_
  refine SW.seq ?_
  refine SW.seqRun tok hO (by cbv <;> rfl) (by trivial) ?_
  refine (SW.block (SW.loopF (fun i : Nat => ⟨⟨20, getT [(1, .fn (.func g0) first caps), (7, intsV n ex fl), (8, iV n), (9, iV i)]⟩, []⟩) (fun _ => ⟨[], 0⟩) (fun i => n - i) (fun i => i ≤ n ∧ ∀ j, j < i → p j = true) 0
    (fun _ => rfl) ⟨Nat.zero_le _, fun j hj => absurd hj (Nat.not_lt_zero j)⟩ (Weak.by rfl rfl (by simp) (Nat.le_refl _) (Nat.le_refl _) ⟨⟨rfl, .inl rfl⟩, ⟨rfl, .inl rfl⟩, ⟨rfl, .inl rfl⟩, ⟨rfl, .inl rfl⟩, trivial⟩ trivial) fun i ⟨hi, hall⟩ => ?_))
  refine SW.seqRun tok hO (by cbv <;> rfl) (by trivial) ?_
  refine SW.seq (SW.condS (by cbv <;> rfl) (fun h => SW.skip ?_) (fun h => SW.exit ?_))
  · have hlt : i < n := by subst hO; simpa [std] using h
    refine SW.seq (SW.block ?_)
    refine SW.seqRun tok hO (by cbv <;> rfl) ?_ ?_
    · exact ⟨Int.natCast_nonneg i, Int.ofNat_lt.2 hlt⟩
    refine SW.seqRun tok hO (by cbv <;> rfl) (by trivial) ?_
    refine OpsW.callB (e := p i) (args := first ++ [iV (Int.ofNat i), iV (fl (O.nat (Int.ofNat i)))] ++ caps) (by rw [hnat]; exact hp i hlt) (by cbv <;> rfl) fun b hb' => ?_
    refine OpsW.run tok hO (by cbv <;> rfl) (by trivial) ?_
    refine SW.condS (by cbv <;> rfl) (fun h' => ?_) (fun h' => SW.skip ?_)
    · refine SW.seqRun tok hO (by cbv <;> rfl) (by trivial) ?_
      refine SW.ret ⟨_, _, rfl, rfl, Eqv.bool (Bool.eq_iff_iff.2 ?_)⟩
      subst hO
      simp [std, hb'] at h'
      simp only [Bool.false_eq_true, allN, decide_eq_true_eq, false_iff]
      intro hq
      rw [hq i hlt] at h'
      cases h'
    · refine SW.run tok hO (by cbv <;> rfl) (by trivial) ?_
      refine ⟨i + 1, by omega, ⟨by omega, fun j hj => ?_⟩, Weak.by rfl rfl (by simp) (Nat.le_refl _) (Nat.zero_le _) ⟨⟨rfl, .inr hb⟩, ⟨rfl, .inr (intsV_below n ex fl)⟩, ⟨rfl, .inr iV_below⟩, ⟨inc_ok hO (by omega), .inr iV_below⟩, trivial⟩ trivial⟩
      rcases Nat.lt_succ_iff_lt_or_eq.1 hj with hj | rfl
      · exact hall j hj
      · subst hO; simp [std, hb'] at h'; exact h'
  · refine SW.seqRun tok hO (by cbv <;> rfl) (by trivial) ?_
    refine SW.ret ⟨_, _, rfl, rfl, Eqv.bool (Bool.eq_iff_iff.2 ?_)⟩
    have hge : n ≤ i := by subst hO; simpa [std] using h
    simp only [allN, decide_eq_true_eq, true_iff]
    exact fun j hj => hall j (by omega)
end Go.Fz
namespace Go.Fz
open Go.Proofs
set_option maxRecDepth 100000
def kindF (i : Nat) : AV := match i with
  | 0 => .fn (.func 129) [] []
  | 1 => .fn (.func 130) [] []
  | 2 => .fn (.func 131) [] []
  | 3 => .fn (.func 132) [] []
  | 4 => .fn (.func 133) [] []
  | _ => .fn (.func 134) [] []
def kindB (i : Nat) : Bool := match i with
  | 0 => true
  | 1 => true
  | _ => false
def kindC (i k : Nat) : AV := match k with
  | 0 => kindF i
  | _ => .sb (kindB i)
theorem kindF_below (i : Nat) : Below 0 (kindF i) := by unfold kindF; split <;> exact Below.fn (AllB.ok trivial) (AllB.ok trivial)
theorem kindC_below : Below 0 (.isl 6 2 true kindC) := Below.isl fun i k _ _ => by
  unfold kindC; split
  · exact kindF_below i
  · exact Below.sb
theorem kinds_ok : Pure Try.prog 128 [] (.isl 6 2 true kindC) := by
  obtain ⟨O, hO⟩ : ∃ O : Ar, O = std := ⟨_, rfl⟩
  refine pure_of_body tok 3 Try.func128 en128 rfl trivial kindC_below ?_
  refine SW.seqRun tok hO (by cbv <;> rfl) (by trivial) ?_
  refine SW.seqRun tok hO (by cbv <;> rfl) (by trivial) ?_
  refine SW.ret ⟨_, _, rfl, rfl, ?_⟩
  refine Eqv.isl rfl fun i k hi hk => ?_
  match i, k, hi, hk with
  | 0, 0, _, _ => exact Eqv.of rfl
  | 1, 0, _, _ => exact Eqv.of rfl
  | 2, 0, _, _ => exact Eqv.of rfl
  | 3, 0, _, _ => exact Eqv.of rfl
  | 4, 0, _, _ => exact Eqv.of rfl
  | 5, 0, _, _ => exact Eqv.of rfl
  | 0, 1, _, _ => exact Eqv.bool rfl
  | 1, 1, _, _ => exact Eqv.bool rfl
  | 2, 1, _, _ => exact Eqv.bool rfl
  | 3, 1, _, _ => exact Eqv.bool rfl
  | 4, 1, _, _ => exact Eqv.bool rfl
  | 5, 1, _, _ => exact Eqv.bool rfl
theorem hasKind_ok (c w lo hi : Int) : Pure Try.prog 127 [.agg [iV c, iV w, iV lo, iV hi]] (.sb (decide (0 ≤ c) && decide (c < 6))) := by
  obtain ⟨O, hO⟩ : ∃ O : Ar, O = std := ⟨_, rfl⟩
  obtain ⟨G, hG⟩ : ∃ G, G = kindC := ⟨_, rfl⟩
  have hk := kinds_ok
  rw [← hG] at hk
  refine pure_of_body tok 3 Try.func127 en127 rfl ⟨Below.agg (AllB.ok ⟨Below.lit, Below.lit, Below.lit, Below.lit, trivial⟩), trivial⟩ Below.sb ?_
  refine SW.seqRun tok hO (by cbv <;> rfl) (by trivial) ?_
  refine SW.seqRunD tok mixed hO (by rfl) (by cbv <;> rfl) (by trivial) ?_
  refine AnyE.dec tok hO (by rfl) (by cbv <;> rfl) (by trivial) (fun h1 => ?_) (fun h1 => ?_)
  · refine AnyE.run tok hO (by rfl) (by cbv <;> rfl) (by trivial) ?_
    refine AnyE.callP hk (by cbv <;> rfl) (by cbv <;> rfl) ?_
    refine AnyE.run tok hO (by rfl) (by cbv <;> rfl) (by trivial) ?_
    refine AnyE.dec tok hO (by rfl) (by cbv <;> rfl) (by trivial) (fun h2 => ?_) (fun h2 => ?_)
    all_goals
      refine AnyE.run tok hO (by rfl) (by cbv <;> rfl) (by trivial) ?_
      refine SW.ret ⟨_, _, rfl, rfl, Eqv.bool ?_⟩
      subst hO; simp [std] at h1 h2; simp [h1, h2]
  · refine AnyE.run tok hO (by rfl) (by cbv <;> rfl) (by trivial) ?_
    refine SW.ret ⟨_, _, rfl, rfl, Eqv.bool ?_⟩
    subst hO; simp [std] at h1 ⊢; omega
theorem kind0_ok (w lo hi : Int) : Pure Try.prog 125 [.agg [iV 0, iV w, iV lo, iV hi]] (.agg [.fn (.func 129) [] [], .sb true]) := by
  obtain ⟨O, hO⟩ : ∃ O : Ar, O = std := ⟨_, rfl⟩
  refine pure_of_body tok 3 Try.func125 en125 rfl ⟨Below.agg (AllB.ok ⟨Below.lit, Below.lit, Below.lit, Below.lit, trivial⟩), trivial⟩ (Below.agg (AllB.ok ⟨Below.fn (AllB.ok trivial) (AllB.ok trivial), Below.sb, trivial⟩)) ?_
  refine SW.seqRun tok hO (by cbv <;> rfl) (by trivial) ?_
  refine SW.seqRunD tok mixed hO (by rfl) (by cbv <;> rfl) (by trivial) ?_
  refine AnyE.callP kinds_ok (by cbv <;> rfl) (by cbv <;> rfl) ?_
  subst hO
  refine AnyE.run tok rfl (by rfl) (by cbv <;> rfl) ?_ ?_
  · exact ⟨by show (0 : Int) ≤ 0; decide, by show (0 : Int) < 6; decide⟩
  refine AnyE.eff tok rfl (by cbv <;> rfl) (by cbv <;> rfl) (by trivial) ?_
  refine AnyE.done (by rfl) ?_
  exact SW.ret ⟨_, _, rfl, rfl, Eqv.agg (.cons (Eqv.of rfl) (.cons (Eqv.of rfl) .nil))⟩
theorem kind1_ok (w lo hi : Int) : Pure Try.prog 125 [.agg [iV 1, iV w, iV lo, iV hi]] (.agg [.fn (.func 130) [] [], .sb true]) := by
  obtain ⟨O, hO⟩ : ∃ O : Ar, O = std := ⟨_, rfl⟩
  refine pure_of_body tok 3 Try.func125 en125 rfl ⟨Below.agg (AllB.ok ⟨Below.lit, Below.lit, Below.lit, Below.lit, trivial⟩), trivial⟩ (Below.agg (AllB.ok ⟨Below.fn (AllB.ok trivial) (AllB.ok trivial), Below.sb, trivial⟩)) ?_
  refine SW.seqRun tok hO (by cbv <;> rfl) (by trivial) ?_
  refine SW.seqRunD tok mixed hO (by rfl) (by cbv <;> rfl) (by trivial) ?_
  refine AnyE.callP kinds_ok (by cbv <;> rfl) (by cbv <;> rfl) ?_
  subst hO
  refine AnyE.run tok rfl (by rfl) (by cbv <;> rfl) ?_ ?_
  · exact ⟨by show (0 : Int) ≤ 1; decide, by show (1 : Int) < 6; decide⟩
  refine AnyE.eff tok rfl (by cbv <;> rfl) (by cbv <;> rfl) (by trivial) ?_
  refine AnyE.done (by rfl) ?_
  exact SW.ret ⟨_, _, rfl, rfl, Eqv.agg (.cons (Eqv.of rfl) (.cons (Eqv.of rfl) .nil))⟩
theorem kind2_ok (w lo hi : Int) : Pure Try.prog 125 [.agg [iV 2, iV w, iV lo, iV hi]] (.agg [.fn (.func 131) [] [], .sb false]) := by
  obtain ⟨O, hO⟩ : ∃ O : Ar, O = std := ⟨_, rfl⟩
  refine pure_of_body tok 3 Try.func125 en125 rfl ⟨Below.agg (AllB.ok ⟨Below.lit, Below.lit, Below.lit, Below.lit, trivial⟩), trivial⟩ (Below.agg (AllB.ok ⟨Below.fn (AllB.ok trivial) (AllB.ok trivial), Below.sb, trivial⟩)) ?_
  refine SW.seqRun tok hO (by cbv <;> rfl) (by trivial) ?_
  refine SW.seqRunD tok mixed hO (by rfl) (by cbv <;> rfl) (by trivial) ?_
  refine AnyE.callP kinds_ok (by cbv <;> rfl) (by cbv <;> rfl) ?_
  subst hO
  refine AnyE.run tok rfl (by rfl) (by cbv <;> rfl) ?_ ?_
  · exact ⟨by show (0 : Int) ≤ 2; decide, by show (2 : Int) < 6; decide⟩
  refine AnyE.eff tok rfl (by cbv <;> rfl) (by cbv <;> rfl) (by trivial) ?_
  refine AnyE.done (by rfl) ?_
  exact SW.ret ⟨_, _, rfl, rfl, Eqv.agg (.cons (Eqv.of rfl) (.cons (Eqv.of rfl) .nil))⟩
theorem kind3_ok (w lo hi : Int) : Pure Try.prog 125 [.agg [iV 3, iV w, iV lo, iV hi]] (.agg [.fn (.func 132) [] [], .sb false]) := by
  obtain ⟨O, hO⟩ : ∃ O : Ar, O = std := ⟨_, rfl⟩
  refine pure_of_body tok 3 Try.func125 en125 rfl ⟨Below.agg (AllB.ok ⟨Below.lit, Below.lit, Below.lit, Below.lit, trivial⟩), trivial⟩ (Below.agg (AllB.ok ⟨Below.fn (AllB.ok trivial) (AllB.ok trivial), Below.sb, trivial⟩)) ?_
  refine SW.seqRun tok hO (by cbv <;> rfl) (by trivial) ?_
  refine SW.seqRunD tok mixed hO (by rfl) (by cbv <;> rfl) (by trivial) ?_
  refine AnyE.callP kinds_ok (by cbv <;> rfl) (by cbv <;> rfl) ?_
  subst hO
  refine AnyE.run tok rfl (by rfl) (by cbv <;> rfl) ?_ ?_
  · exact ⟨by show (0 : Int) ≤ 3; decide, by show (3 : Int) < 6; decide⟩
  refine AnyE.eff tok rfl (by cbv <;> rfl) (by cbv <;> rfl) (by trivial) ?_
  refine AnyE.done (by rfl) ?_
  exact SW.ret ⟨_, _, rfl, rfl, Eqv.agg (.cons (Eqv.of rfl) (.cons (Eqv.of rfl) .nil))⟩
theorem kind4_ok (w lo hi : Int) : Pure Try.prog 125 [.agg [iV 4, iV w, iV lo, iV hi]] (.agg [.fn (.func 133) [] [], .sb false]) := by
  obtain ⟨O, hO⟩ : ∃ O : Ar, O = std := ⟨_, rfl⟩
  refine pure_of_body tok 3 Try.func125 en125 rfl ⟨Below.agg (AllB.ok ⟨Below.lit, Below.lit, Below.lit, Below.lit, trivial⟩), trivial⟩ (Below.agg (AllB.ok ⟨Below.fn (AllB.ok trivial) (AllB.ok trivial), Below.sb, trivial⟩)) ?_
  refine SW.seqRun tok hO (by cbv <;> rfl) (by trivial) ?_
  refine SW.seqRunD tok mixed hO (by rfl) (by cbv <;> rfl) (by trivial) ?_
  refine AnyE.callP kinds_ok (by cbv <;> rfl) (by cbv <;> rfl) ?_
  subst hO
  refine AnyE.run tok rfl (by rfl) (by cbv <;> rfl) ?_ ?_
  · exact ⟨by show (0 : Int) ≤ 4; decide, by show (4 : Int) < 6; decide⟩
  refine AnyE.eff tok rfl (by cbv <;> rfl) (by cbv <;> rfl) (by trivial) ?_
  refine AnyE.done (by rfl) ?_
  exact SW.ret ⟨_, _, rfl, rfl, Eqv.agg (.cons (Eqv.of rfl) (.cons (Eqv.of rfl) .nil))⟩
theorem kind5_ok (w lo hi : Int) : Pure Try.prog 125 [.agg [iV 5, iV w, iV lo, iV hi]] (.agg [.fn (.func 134) [] [], .sb false]) := by
  obtain ⟨O, hO⟩ : ∃ O : Ar, O = std := ⟨_, rfl⟩
  refine pure_of_body tok 3 Try.func125 en125 rfl ⟨Below.agg (AllB.ok ⟨Below.lit, Below.lit, Below.lit, Below.lit, trivial⟩), trivial⟩ (Below.agg (AllB.ok ⟨Below.fn (AllB.ok trivial) (AllB.ok trivial), Below.sb, trivial⟩)) ?_
  refine SW.seqRun tok hO (by cbv <;> rfl) (by trivial) ?_
  refine SW.seqRunD tok mixed hO (by rfl) (by cbv <;> rfl) (by trivial) ?_
  refine AnyE.callP kinds_ok (by cbv <;> rfl) (by cbv <;> rfl) ?_
  subst hO
  refine AnyE.run tok rfl (by rfl) (by cbv <;> rfl) ?_ ?_
  · exact ⟨by show (0 : Int) ≤ 5; decide, by show (5 : Int) < 6; decide⟩
  refine AnyE.eff tok rfl (by cbv <;> rfl) (by cbv <;> rfl) (by trivial) ?_
  refine AnyE.done (by rfl) ?_
  exact SW.ret ⟨_, _, rfl, rfl, Eqv.agg (.cons (Eqv.of rfl) (.cons (Eqv.of rfl) .nil))⟩
def DayD.cntOk (d : DayD) (i : Nat) : Bool := (decide (0 ≤ d.ck i) && decide (d.ck i < 6)) && d.hasW (d.cw i) && (decide (d.cw i = 0) || decide (d.ck i < 2)) && withinB (d.clo i) (d.chi i) 0 20000
theorem isCount0_ok (d : DayD) (j w lo hi : Int) : Pure Try.prog 119 [dayV d, iV j, .agg [iV 0, iV w, iV lo, iV hi]] (.sb (d.hasW w && (decide (w = 0) || true) && withinB lo hi 0 20000)) := by
  obtain ⟨O, hO⟩ : ∃ O : Ar, O = std := ⟨_, rfl⟩
  refine pure_of_body tok 3 Try.func119 en119 rfl ⟨dayV_below d, iV_below, Below.agg (AllB.ok ⟨Below.lit, Below.lit, Below.lit, Below.lit, trivial⟩), trivial⟩ Below.sb ?_
  refine SW.seqRun tok hO (by cbv <;> rfl) (by trivial) ?_
  refine SW.seqRun tok hO (by cbv <;> rfl) (by trivial) ?_
  refine OpsW.callP ((hasKind_ok 0 w lo hi).res (Eqv.lit (c := true) (by decide))) (by cbv <;> rfl) ?_
  refine OpsW.run tok hO (by cbv <;> rfl) (by trivial) ?_
  refine OpsW.callB (hasWoman_ok d w) (by cbv <;> rfl) fun b1 hb1 => ?_
  rw [← hb1]
  refine OpsW.run tok hO (by cbv <;> rfl) (by trivial) ?_
  refine OpsW.splitG (by cbv <;> rfl) (fun h1 => ?_) (fun h1 => ?_) <;> refine OpsW.run tok hO (by cbv <;> rfl) (by trivial) ?_
  · subst h1
    refine OpsW.splitG (by cbv <;> rfl) (fun h2 => ?_) (fun h2 => ?_) <;> refine OpsW.run tok hO (by cbv <;> rfl) (by trivial) ?_
    · refine OpsW.callB (within_ok lo hi 0 20000) (by cbv <;> rfl) fun b2 hb2 => ?_
      refine OpsW.run tok hO (by cbv <;> rfl) (by trivial) ?_
      refine SW.ret ⟨_, _, rfl, rfl, Eqv.sb ?_⟩
      subst hO; simp [std] at h2; simp [h2, hb2]
    · refine OpsW.callP ((kind0_ok w lo hi).res (Eqv.agg (.cons (Eqv.refl _) (.cons (Eqv.lit (c := true) rfl) .nil)))) (by cbv <;> rfl) ?_
      refine OpsW.run tok hO (by cbv <;> rfl) (by trivial) ?_
      refine OpsW.callB (within_ok lo hi 0 20000) (by cbv <;> rfl) fun b2 hb2 => ?_
      refine OpsW.run tok hO (by cbv <;> rfl) (by trivial) ?_
      refine SW.ret ⟨_, _, rfl, rfl, Eqv.sb ?_⟩
      simp [hb2]
  · refine SW.ret ⟨_, _, rfl, rfl, Eqv.bool ?_⟩
    rw [h1]; rfl
theorem isCount1_ok (d : DayD) (j w lo hi : Int) : Pure Try.prog 119 [dayV d, iV j, .agg [iV 1, iV w, iV lo, iV hi]] (.sb (d.hasW w && (decide (w = 0) || true) && withinB lo hi 0 20000)) := by
  obtain ⟨O, hO⟩ : ∃ O : Ar, O = std := ⟨_, rfl⟩
  refine pure_of_body tok 3 Try.func119 en119 rfl ⟨dayV_below d, iV_below, Below.agg (AllB.ok ⟨Below.lit, Below.lit, Below.lit, Below.lit, trivial⟩), trivial⟩ Below.sb ?_
  refine SW.seqRun tok hO (by cbv <;> rfl) (by trivial) ?_
  refine SW.seqRun tok hO (by cbv <;> rfl) (by trivial) ?_
  refine OpsW.callP ((hasKind_ok 1 w lo hi).res (Eqv.lit (c := true) (by decide))) (by cbv <;> rfl) ?_
  refine OpsW.run tok hO (by cbv <;> rfl) (by trivial) ?_
  refine OpsW.callB (hasWoman_ok d w) (by cbv <;> rfl) fun b1 hb1 => ?_
  rw [← hb1]
  refine OpsW.run tok hO (by cbv <;> rfl) (by trivial) ?_
  refine OpsW.splitG (by cbv <;> rfl) (fun h1 => ?_) (fun h1 => ?_) <;> refine OpsW.run tok hO (by cbv <;> rfl) (by trivial) ?_
  · subst h1
    refine OpsW.splitG (by cbv <;> rfl) (fun h2 => ?_) (fun h2 => ?_) <;> refine OpsW.run tok hO (by cbv <;> rfl) (by trivial) ?_
    · refine OpsW.callB (within_ok lo hi 0 20000) (by cbv <;> rfl) fun b2 hb2 => ?_
      refine OpsW.run tok hO (by cbv <;> rfl) (by trivial) ?_
      refine SW.ret ⟨_, _, rfl, rfl, Eqv.sb ?_⟩
      subst hO; simp [std] at h2; simp [h2, hb2]
    · refine OpsW.callP ((kind1_ok w lo hi).res (Eqv.agg (.cons (Eqv.refl _) (.cons (Eqv.lit (c := true) rfl) .nil)))) (by cbv <;> rfl) ?_
      refine OpsW.run tok hO (by cbv <;> rfl) (by trivial) ?_
      refine OpsW.callB (within_ok lo hi 0 20000) (by cbv <;> rfl) fun b2 hb2 => ?_
      refine OpsW.run tok hO (by cbv <;> rfl) (by trivial) ?_
      refine SW.ret ⟨_, _, rfl, rfl, Eqv.sb ?_⟩
      simp [hb2]
  · refine SW.ret ⟨_, _, rfl, rfl, Eqv.bool ?_⟩
    rw [h1]; rfl
theorem isCount2_ok (d : DayD) (j w lo hi : Int) : Pure Try.prog 119 [dayV d, iV j, .agg [iV 2, iV w, iV lo, iV hi]] (.sb (d.hasW w && (decide (w = 0) || false) && withinB lo hi 0 20000)) := by
  obtain ⟨O, hO⟩ : ∃ O : Ar, O = std := ⟨_, rfl⟩
  refine pure_of_body tok 3 Try.func119 en119 rfl ⟨dayV_below d, iV_below, Below.agg (AllB.ok ⟨Below.lit, Below.lit, Below.lit, Below.lit, trivial⟩), trivial⟩ Below.sb ?_
  refine SW.seqRun tok hO (by cbv <;> rfl) (by trivial) ?_
  refine SW.seqRun tok hO (by cbv <;> rfl) (by trivial) ?_
  refine OpsW.callP ((hasKind_ok 2 w lo hi).res (Eqv.lit (c := true) (by decide))) (by cbv <;> rfl) ?_
  refine OpsW.run tok hO (by cbv <;> rfl) (by trivial) ?_
  refine OpsW.callB (hasWoman_ok d w) (by cbv <;> rfl) fun b1 hb1 => ?_
  rw [← hb1]
  refine OpsW.run tok hO (by cbv <;> rfl) (by trivial) ?_
  refine OpsW.splitG (by cbv <;> rfl) (fun h1 => ?_) (fun h1 => ?_) <;> refine OpsW.run tok hO (by cbv <;> rfl) (by trivial) ?_
  · subst h1
    refine OpsW.splitG (by cbv <;> rfl) (fun h2 => ?_) (fun h2 => ?_) <;> refine OpsW.run tok hO (by cbv <;> rfl) (by trivial) ?_
    · refine OpsW.callB (within_ok lo hi 0 20000) (by cbv <;> rfl) fun b2 hb2 => ?_
      refine OpsW.run tok hO (by cbv <;> rfl) (by trivial) ?_
      refine SW.ret ⟨_, _, rfl, rfl, Eqv.sb ?_⟩
      subst hO; simp [std] at h2; simp [h2, hb2]
    · refine OpsW.callP ((kind2_ok w lo hi).res (Eqv.agg (.cons (Eqv.refl _) (.cons (Eqv.lit (c := false) rfl) .nil)))) (by cbv <;> rfl) ?_
      refine OpsW.run tok hO (by cbv <;> rfl) (by trivial) ?_
      refine SW.ret ⟨_, _, rfl, rfl, Eqv.bool ?_⟩
      subst hO; simp [std] at h2; simp [h2]
  · refine SW.ret ⟨_, _, rfl, rfl, Eqv.bool ?_⟩
    rw [h1]; rfl
theorem isCount3_ok (d : DayD) (j w lo hi : Int) : Pure Try.prog 119 [dayV d, iV j, .agg [iV 3, iV w, iV lo, iV hi]] (.sb (d.hasW w && (decide (w = 0) || false) && withinB lo hi 0 20000)) := by
  obtain ⟨O, hO⟩ : ∃ O : Ar, O = std := ⟨_, rfl⟩
  refine pure_of_body tok 3 Try.func119 en119 rfl ⟨dayV_below d, iV_below, Below.agg (AllB.ok ⟨Below.lit, Below.lit, Below.lit, Below.lit, trivial⟩), trivial⟩ Below.sb ?_
  refine SW.seqRun tok hO (by cbv <;> rfl) (by trivial) ?_
  refine SW.seqRun tok hO (by cbv <;> rfl) (by trivial) ?_
  refine OpsW.callP ((hasKind_ok 3 w lo hi).res (Eqv.lit (c := true) (by decide))) (by cbv <;> rfl) ?_
  refine OpsW.run tok hO (by cbv <;> rfl) (by trivial) ?_
  refine OpsW.callB (hasWoman_ok d w) (by cbv <;> rfl) fun b1 hb1 => ?_
  rw [← hb1]
  refine OpsW.run tok hO (by cbv <;> rfl) (by trivial) ?_
  refine OpsW.splitG (by cbv <;> rfl) (fun h1 => ?_) (fun h1 => ?_) <;> refine OpsW.run tok hO (by cbv <;> rfl) (by trivial) ?_
  · subst h1
    refine OpsW.splitG (by cbv <;> rfl) (fun h2 => ?_) (fun h2 => ?_) <;> refine OpsW.run tok hO (by cbv <;> rfl) (by trivial) ?_
    · refine OpsW.callB (within_ok lo hi 0 20000) (by cbv <;> rfl) fun b2 hb2 => ?_
      refine OpsW.run tok hO (by cbv <;> rfl) (by trivial) ?_
      refine SW.ret ⟨_, _, rfl, rfl, Eqv.sb ?_⟩
      subst hO; simp [std] at h2; simp [h2, hb2]
    · refine OpsW.callP ((kind3_ok w lo hi).res (Eqv.agg (.cons (Eqv.refl _) (.cons (Eqv.lit (c := false) rfl) .nil)))) (by cbv <;> rfl) ?_
      refine OpsW.run tok hO (by cbv <;> rfl) (by trivial) ?_
      refine SW.ret ⟨_, _, rfl, rfl, Eqv.bool ?_⟩
      subst hO; simp [std] at h2; simp [h2]
  · refine SW.ret ⟨_, _, rfl, rfl, Eqv.bool ?_⟩
    rw [h1]; rfl
theorem isCount4_ok (d : DayD) (j w lo hi : Int) : Pure Try.prog 119 [dayV d, iV j, .agg [iV 4, iV w, iV lo, iV hi]] (.sb (d.hasW w && (decide (w = 0) || false) && withinB lo hi 0 20000)) := by
  obtain ⟨O, hO⟩ : ∃ O : Ar, O = std := ⟨_, rfl⟩
  refine pure_of_body tok 3 Try.func119 en119 rfl ⟨dayV_below d, iV_below, Below.agg (AllB.ok ⟨Below.lit, Below.lit, Below.lit, Below.lit, trivial⟩), trivial⟩ Below.sb ?_
  refine SW.seqRun tok hO (by cbv <;> rfl) (by trivial) ?_
  refine SW.seqRun tok hO (by cbv <;> rfl) (by trivial) ?_
  refine OpsW.callP ((hasKind_ok 4 w lo hi).res (Eqv.lit (c := true) (by decide))) (by cbv <;> rfl) ?_
  refine OpsW.run tok hO (by cbv <;> rfl) (by trivial) ?_
  refine OpsW.callB (hasWoman_ok d w) (by cbv <;> rfl) fun b1 hb1 => ?_
  rw [← hb1]
  refine OpsW.run tok hO (by cbv <;> rfl) (by trivial) ?_
  refine OpsW.splitG (by cbv <;> rfl) (fun h1 => ?_) (fun h1 => ?_) <;> refine OpsW.run tok hO (by cbv <;> rfl) (by trivial) ?_
  · subst h1
    refine OpsW.splitG (by cbv <;> rfl) (fun h2 => ?_) (fun h2 => ?_) <;> refine OpsW.run tok hO (by cbv <;> rfl) (by trivial) ?_
    · refine OpsW.callB (within_ok lo hi 0 20000) (by cbv <;> rfl) fun b2 hb2 => ?_
      refine OpsW.run tok hO (by cbv <;> rfl) (by trivial) ?_
      refine SW.ret ⟨_, _, rfl, rfl, Eqv.sb ?_⟩
      subst hO; simp [std] at h2; simp [h2, hb2]
    · refine OpsW.callP ((kind4_ok w lo hi).res (Eqv.agg (.cons (Eqv.refl _) (.cons (Eqv.lit (c := false) rfl) .nil)))) (by cbv <;> rfl) ?_
      refine OpsW.run tok hO (by cbv <;> rfl) (by trivial) ?_
      refine SW.ret ⟨_, _, rfl, rfl, Eqv.bool ?_⟩
      subst hO; simp [std] at h2; simp [h2]
  · refine SW.ret ⟨_, _, rfl, rfl, Eqv.bool ?_⟩
    rw [h1]; rfl
theorem isCount5_ok (d : DayD) (j w lo hi : Int) : Pure Try.prog 119 [dayV d, iV j, .agg [iV 5, iV w, iV lo, iV hi]] (.sb (d.hasW w && (decide (w = 0) || false) && withinB lo hi 0 20000)) := by
  obtain ⟨O, hO⟩ : ∃ O : Ar, O = std := ⟨_, rfl⟩
  refine pure_of_body tok 3 Try.func119 en119 rfl ⟨dayV_below d, iV_below, Below.agg (AllB.ok ⟨Below.lit, Below.lit, Below.lit, Below.lit, trivial⟩), trivial⟩ Below.sb ?_
  refine SW.seqRun tok hO (by cbv <;> rfl) (by trivial) ?_
  refine SW.seqRun tok hO (by cbv <;> rfl) (by trivial) ?_
  refine OpsW.callP ((hasKind_ok 5 w lo hi).res (Eqv.lit (c := true) (by decide))) (by cbv <;> rfl) ?_
  refine OpsW.run tok hO (by cbv <;> rfl) (by trivial) ?_
  refine OpsW.callB (hasWoman_ok d w) (by cbv <;> rfl) fun b1 hb1 => ?_
  rw [← hb1]
  refine OpsW.run tok hO (by cbv <;> rfl) (by trivial) ?_
  refine OpsW.splitG (by cbv <;> rfl) (fun h1 => ?_) (fun h1 => ?_) <;> refine OpsW.run tok hO (by cbv <;> rfl) (by trivial) ?_
  · subst h1
    refine OpsW.splitG (by cbv <;> rfl) (fun h2 => ?_) (fun h2 => ?_) <;> refine OpsW.run tok hO (by cbv <;> rfl) (by trivial) ?_
    · refine OpsW.callB (within_ok lo hi 0 20000) (by cbv <;> rfl) fun b2 hb2 => ?_
      refine OpsW.run tok hO (by cbv <;> rfl) (by trivial) ?_
      refine SW.ret ⟨_, _, rfl, rfl, Eqv.sb ?_⟩
      subst hO; simp [std] at h2; simp [h2, hb2]
    · refine OpsW.callP ((kind5_ok w lo hi).res (Eqv.agg (.cons (Eqv.refl _) (.cons (Eqv.lit (c := false) rfl) .nil)))) (by cbv <;> rfl) ?_
      refine OpsW.run tok hO (by cbv <;> rfl) (by trivial) ?_
      refine SW.ret ⟨_, _, rfl, rfl, Eqv.bool ?_⟩
      subst hO; simp [std] at h2; simp [h2]
  · refine SW.ret ⟨_, _, rfl, rfl, Eqv.bool ?_⟩
    rw [h1]; rfl
theorem isCount_ok (d : DayD) (i : Nat) (j : Int) : Pure Try.prog 119 [dayV d, iV j, cntV d i] (.sb (d.cntOk i)) := by
  by_cases h : 0 ≤ d.ck i ∧ d.ck i < 6
  · have hc : d.ck i = 0 ∨ d.ck i = 1 ∨ d.ck i = 2 ∨ d.ck i = 3 ∨ d.ck i = 4 ∨ d.ck i = 5 := by omega
    unfold cntV DayD.cntOk
    rcases hc with h | h | h | h | h | h <;> rw [h]
    · exact (isCount0_ok d j _ _ _).res (Eqv.sb (by simp))
    · exact (isCount1_ok d j _ _ _).res (Eqv.sb (by simp))
    · exact (isCount2_ok d j _ _ _).res (Eqv.sb (by simp))
    · exact (isCount3_ok d j _ _ _).res (Eqv.sb (by simp))
    · exact (isCount4_ok d j _ _ _).res (Eqv.sb (by simp))
    · exact (isCount5_ok d j _ _ _).res (Eqv.sb (by simp))
  · have hk : (decide (0 ≤ d.ck i) && decide (d.ck i < 6)) = false := by
      rw [Bool.eq_false_iff]; intro h1; simp at h1; exact h h1
    have hcall := hasKind_ok (d.ck i) (d.cw i) (d.clo i) (d.chi i)
    rw [hk] at hcall
    refine (?_ : Pure Try.prog 119 [dayV d, iV j, cntV d i] (.sb false)).res (Eqv.sb (by simp [DayD.cntOk, hk]))
    obtain ⟨O, hO⟩ : ∃ O : Ar, O = std := ⟨_, rfl⟩
    refine pure_of_body tok 3 Try.func119 en119 rfl ⟨dayV_below d, iV_below, cntV_below d i, trivial⟩ Below.sb ?_
    refine SW.seqRun tok hO (by cbv <;> rfl) (by trivial) ?_
    refine SW.seqRun tok hO (by cbv <;> rfl) (by trivial) ?_
    refine OpsW.callP (hcall.res (Eqv.lit (c := false) rfl)) (by cbv <;> rfl) ?_
    refine OpsW.run tok hO (by cbv <;> rfl) (by trivial) ?_
    exact SW.ret ⟨_, _, rfl, rfl, Eqv.bool rfl⟩
def bet (n a b : Int) : Bool := decide (a ≤ n) && decide (n ≤ b)
def DayD.validB (d : DayD) : Bool := bet d.hand 1 20 && bet d.flat 1 20 && decide (0 < d.nw) && allN d.nw (fun i => withinB (d.wlo i) (d.whi i) 1 60) && allN d.nl d.lotOk && allN d.nc d.cntOk
def DayD.small (d : DayD) : Prop := d.nw < 4611686018427387904 ∧ d.nl < 4611686018427387904 ∧ d.nc < 4611686018427387904
theorem valid_ok (d : DayD) (hs : d.small) : Pure Try.prog 86 [dayV d] (.sb d.validB) := by
  obtain ⟨O, hO⟩ : ∃ O : Ar, O = std := ⟨_, rfl⟩
  have e1 := each70_ok d 115 [] [] (fun i => withinB (d.wlo i) (d.whi i) 1 60) (Below.fn (AllB.ok trivial) (AllB.ok trivial)) hs.1 (fun i hi => isWoman_ok i (d.wlo i) (d.whi i))
  have e2 := each72_ok d 117 [dayV d] [] d.lotOk (Below.fn (AllB.ok ⟨dayV_below d, trivial⟩) (AllB.ok trivial)) hs.2.1 (fun i hi => isLot_ok d i i)
  have e3 := each74_ok d 119 [dayV d] [] d.cntOk (Below.fn (AllB.ok ⟨dayV_below d, trivial⟩) (AllB.ok trivial)) hs.2.2 (fun i hi => isCount_ok d i i)
  generalize hp1 : allN d.nw (fun i => withinB (d.wlo i) (d.whi i) 1 60) = p1 at e1
  generalize hp2 : allN d.nl d.lotOk = p2 at e2
  generalize hp3 : allN d.nc d.cntOk = p3 at e3
  have hv : d.validB = (bet d.hand 1 20 && bet d.flat 1 20 && decide (0 < d.nw) && p1 && p2 && p3) := by rw [← hp1, ← hp2, ← hp3]; rfl
  rw [hv]
  refine pure_of_body tok 3 Try.func86 en86 rfl ⟨dayV_below d, trivial⟩ Below.sb ?_
  refine SW.seqRun tok hO (by cbv <;> rfl) (by trivial) ?_
  refine SW.seqRun tok hO (by cbv <;> rfl) (by trivial) ?_
  refine OpsW.splitG (by cbv <;> rfl) (fun a1 => ?_) (fun a1 => ?_) <;> refine OpsW.run tok hO (by cbv <;> rfl) (by trivial) ?_
  · refine OpsW.splitG (by cbv <;> rfl) (fun a2 => ?_) (fun a2 => ?_) <;> refine OpsW.run tok hO (by cbv <;> rfl) (by trivial) ?_
    · refine OpsW.splitG (by cbv <;> rfl) (fun a3 => ?_) (fun a3 => ?_) <;> refine OpsW.run tok hO (by cbv <;> rfl) (by trivial) ?_
      · refine OpsW.splitG (by cbv <;> rfl) (fun a4 => ?_) (fun a4 => ?_) <;> refine OpsW.run tok hO (by cbv <;> rfl) (by trivial) ?_
        · refine OpsW.splitG (by cbv <;> rfl) (fun a5 => ?_) (fun a5 => ?_) <;> refine OpsW.run tok hO (by cbv <;> rfl) (by trivial) ?_
          · have hpre : (bet d.hand 1 20 && bet d.flat 1 20 && decide (0 < d.nw)) = true := by
              subst hO; cases d; simp [std] at a1 a2 a3 a4 a5; simp [bet]; omega
            rw [hpre]
            refine OpsW.callB e1 (by cbv <;> rfl) fun b1 hb1 => ?_
            refine OpsW.run tok hO (by cbv <;> rfl) (by trivial) ?_
            refine OpsW.splitG (by cbv <;> rfl) (fun h2 => ?_) (fun h2 => ?_) <;> refine OpsW.run tok hO (by cbv <;> rfl) (by trivial) ?_
            · refine OpsW.callB e2 (by cbv <;> rfl) fun b2 hb2 => ?_
              refine OpsW.run tok hO (by cbv <;> rfl) (by trivial) ?_
              refine OpsW.splitG (by cbv <;> rfl) (fun h3 => ?_) (fun h3 => ?_) <;> refine OpsW.run tok hO (by cbv <;> rfl) (by trivial) ?_
              · refine OpsW.callB e3 (by cbv <;> rfl) fun b3 hb3 => ?_
                refine OpsW.run tok hO (by cbv <;> rfl) (by trivial) ?_
                refine SW.ret ⟨_, _, rfl, rfl, Eqv.sb ?_⟩
                rw [← hb1, ← hb2, ← hb3, h2, h3]; rfl
              · refine SW.ret ⟨_, _, rfl, rfl, Eqv.bool ?_⟩
                rw [← hb1, ← hb2, h3]; simp
            · refine SW.ret ⟨_, _, rfl, rfl, Eqv.bool ?_⟩
              rw [← hb1, h2]; simp
          all_goals (refine SW.ret ⟨_, _, rfl, rfl, Eqv.bool ?_⟩; subst hO; cases d; simp [std] at a1 a2 a3 a4 a5; simp [bet]; intros; omega)
        all_goals (refine SW.ret ⟨_, _, rfl, rfl, Eqv.bool ?_⟩; subst hO; cases d; simp [std] at a1 a2 a3 a4; simp [bet]; intros; omega)
      all_goals (refine SW.ret ⟨_, _, rfl, rfl, Eqv.bool ?_⟩; subst hO; cases d; simp [std] at a1 a2 a3; simp [bet]; intros; omega)
    all_goals (refine SW.ret ⟨_, _, rfl, rfl, Eqv.bool ?_⟩; subst hO; cases d; simp [std] at a1 a2; simp [bet]; intros; omega)
  all_goals (refine SW.ret ⟨_, _, rfl, rfl, Eqv.bool ?_⟩; subst hO; cases d; simp [std] at a1; simp [bet]; intros; omega)
end Go.Fz
