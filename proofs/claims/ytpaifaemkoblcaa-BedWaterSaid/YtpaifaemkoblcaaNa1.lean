/- Own work of the verifier of watercress: Lb1. -/
import Derived.Test.YtpaifaemkoblcaaNa0
import Derived.Laws.Tables
import Derived.ChangeKeysEq
set_option linter.unusedVariables false
set_option linter.unusedSimpArgs false
set_option linter.unusedVariables false
set_option linter.unusedSimpArgs false
namespace Go.Fz
def trunc1 (f X : Nat) (b : Bool) : AObj → AObj
  | .cells fm ro cs => if fm = some f ∨ b = true then .cells (some f) ro (cs.take X) else .cells fm ro cs
  | o => o
def truncH (f X id : Nat) : Hp → Hp
  | [] => []
  | (j, o) :: r => (j, trunc1 f X (j == id) o) :: truncH f X id r
theorem truncH_get (f X id : Nat) (h : Hp) (j : Nat) : (truncH f X id h).get j = (h.get j).map (trunc1 f X (j == id)) := by
  induction h with
  | nil => rfl
  | cons p r ih =>
    obtain ⟨i, o⟩ := p
    by_cases hi : i = j
    · subst hi; simp [truncH, Hp.get]
    · simp [truncH, Hp.get, hi, ih]
theorem trunc1_own (f X : Nat) (b : Bool) (o : AObj) : (trunc1 f X b o).own = o.own := by
  cases o <;> simp only [trunc1] <;> try rfl
  split <;> rfl
theorem trunc1_fam (f X : Nat) (b : Bool) (o : AObj) {g : Nat} (h : o.fam = some g) (hb : b = true → g = f) : (trunc1 f X b o).fam = some g := by
  cases o with
  | cells fm ro cs =>
    simp only [AObj.fam] at h
    subst h
    simp only [trunc1]
    split
    · rename_i hc
      rcases hc with hc | hc
      · cases hc; rfl
      · rw [hb hc]; rfl
    · rfl
  | loop r => cases h
  | dfr => cases h
  | map es clock => cases h
  | iter mid since seen last => cases h
theorem ObjR.take {φ : Fi} {w : World} {id : Nat} {fm fm' : Option Nat} {ro : Bool} {cs : List AV} (X : Nat) (h : ObjR φ w id (.cells fm ro cs)) : ObjR φ w id (.cells fm' ro (cs.take X)) := by
  refine ⟨fun i a ha => h.1 i a ?_, fun hro => ?_⟩
  · rw [List.getElem?_take] at ha
    split at ha
    · exact ha
    · cases ha
  · obtain ⟨c, t, h1, h2, h3⟩ := h.2 hro
    exact ⟨c, t, h1, h2, by simp only [List.length_take]; omega⟩
theorem Rel.trunc {φ : Fi} {st : St} {w : World} (hr : Rel φ st w) {id : Nat} {fm : Option Nat} {cs : List AV} (ho : st.h.get id = some (.cells fm false cs)) (X : Nat) :
    Rel φ ⟨truncH (fm.getD id) X id st.h, st.n⟩ w ∧ Fr φ st w φ ⟨truncH (fm.getD id) X id st.h, st.n⟩ w := by
  have hget : ∀ j x, (truncH (fm.getD id) X id st.h).get j = some x → ∃ o, st.h.get j = some o ∧ x = trunc1 (fm.getD id) X (j == id) o := fun j x hx => by
    rw [truncH_get] at hx
    cases hj : st.h.get j with
    | none => simp [hj] at hx
    | some o => simp only [hj, Option.map_some, Option.some.injEq] at hx; exact ⟨o, rfl, hx.symm⟩
  refine mkRel hr rfl hr.n (fun j x hx => ?_) (fun j x hx => ?_) (fun j x hx => ?_) (fun i j oi oj hi hj hij hio hb => ?_) (fun j x g hx hg => ?_) ⟨rfl, rfl, rfl, Nat.le_refl _, fun _ _ _ => rfl, fun k hk => ?_, fun _ _ h => .inl h⟩
  · obtain ⟨o, h, _⟩ := hget j x hx; exact hr.lt j o h
  · obtain ⟨o, h, _⟩ := hget j x hx; exact hr.blk j o h
  · obtain ⟨o, h, rfl⟩ := hget j x hx
    have h1 := hr.obj j o h
    cases o with
    | cells f2 ro2 cs2 =>
      simp only [trunc1]
      split
      · exact h1.take X
      · exact h1
    | loop r => exact h1
    | dfr => exact h1
    | map es clock => exact h1
    | iter mid since seen last => exact h1
  · obtain ⟨o1, h1, rfl⟩ := hget i oi hi
    obtain ⟨o2, h2, rfl⟩ := hget j oj hj
    rw [trunc1_own] at hio ⊢
    obtain ⟨⟨f, hf1, hf2⟩, h3, h4, h5⟩ := hr.sep i j o1 o2 h1 h2 hij hio hb
    have key : ∀ k o, st.h.get k = some o → o.fam = some f → (k == id) = true → f = fm.getD id := fun k o hk hfk hki => by
      have : k = id := by simpa using hki
      subst this
      rw [ho] at hk; cases hk
      simp only [AObj.fam] at hfk
      rw [hfk]; rfl
    exact ⟨⟨f, trunc1_fam _ _ _ _ hf1 (key i o1 h1 hf1), trunc1_fam _ _ _ _ hf2 (key j o2 h2 hf2)⟩, h3, h4, h5⟩
  · obtain ⟨o, h, rfl⟩ := hget j x hx
    have hdef : fm.getD id < st.n := by
      cases fm with
      | none => exact hr.lt id _ ho
      | some f => exact hr.fam id _ f ho rfl
    cases o with
    | cells f2 ro2 cs2 =>
      simp only [trunc1] at hg
      split at hg
      · simp only [AObj.fam, Option.some.injEq] at hg; subst hg; exact hdef
      · exact hr.fam j _ g h hg
    | loop r => cases hg
    | dfr => cases hg
    | map es clock => cases hg
    | iter mid since seen last => cases hg
  · obtain ⟨j, x, hx, hxo, hb⟩ := hk
    obtain ⟨o, h, rfl⟩ := hget j x hx
    rw [trunc1_own] at hxo
    exact .inl ⟨j, o, h, hxo, hb⟩
theorem Rel.alias {φ : Fi} {st : St} {w : World} (hr : Rel φ st w) (a : AObj) (l : Loc) {id : Nat} {o : AObj} (ho : st.h.get id = some o) (hown : o.own = true) (hl : (φ.f id).b = l.b) (haown : a.own = true)
    (hobj : ObjR (φ.push l) w φ.n a) (hfm : ∀ f, a.fam = some f → f < st.n) (hsep : ∀ j oj, st.h.get j = some oj → (φ.f j).b = l.b → Mates a oj ∧ oj.own = true ∧ (φ.f j).o = l.o ∧ (φ.f j).n = l.n) :
    Rel (φ.push l) (st.push a) w ∧ Fr φ st w (φ.push l) (st.push a) w := by
  have hold : ∀ id x, st.h.get id = some x → id < φ.n ∧ (φ.push l).f id = φ.f id := fun id x hx => by
    have h1 := hr.lt id x hx
    rw [← hr.n] at h1
    exact ⟨h1, (φ.push_ext l).f id h1⟩
  refine mkRel hr rfl (by simp [Fi.push, St.push, hr.n]) (fun id x hx => ?_) (fun id x hx => ?_) (fun id x hx => ?_) (fun i j oi oj hi hj hij hio hb => ?_) (fun id x f hx hxf => ?_) ⟨rfl, rfl, rfl, Nat.le_refl _, fun _ _ _ => rfl, fun k hk => ?_, fun _ _ h => .inl h⟩
  · rw [St.get_push] at hx
    split at hx
    · show _ < st.n + 1; omega
    · show _ < st.n + 1; have := hr.lt id x hx; omega
  · rw [St.get_push] at hx
    split at hx
    · rename_i h; rw [← hr.n] at h; subst h; rw [Fi.push_new, ← hl]; exact hr.blk _ _ ho
    · rw [(hold id x hx).2]; exact hr.blk id x hx
  · rw [St.get_push] at hx
    split at hx
    · rename_i h; rw [← hr.n] at h; subst h; cases hx; exact hobj
    · exact (hr.obj id x hx).same (φ.push_ext l) (hold id x hx).1 rfl
  · rw [St.get_push] at hi hj
    split at hi
    · rename_i h1
      rw [← hr.n] at h1; subst h1
      cases hi
      split at hj
      · rename_i h2; rw [← hr.n] at h2; exact absurd h2 hij
      · rw [Fi.push_new, (hold j oj hj).2] at hb ⊢
        obtain ⟨h1, h2, h3, h4⟩ := hsep j oj hj hb.symm
        exact ⟨h1, h2, h3.symm, h4.symm⟩
    · split at hj
      · rename_i h2
        rw [← hr.n] at h2; subst h2
        cases hj
        rw [Fi.push_new, (hold i oi hi).2] at hb ⊢
        obtain ⟨⟨f, hf1, hf2⟩, h2, h3, h4⟩ := hsep i oi hi hb
        exact ⟨⟨f, hf2, hf1⟩, haown, h3, h4⟩
      · rw [(hold i oi hi).2, (hold j oj hj).2] at hb ⊢
        exact hr.sep i j oi oj hi hj hij hio hb
  · rw [St.get_push] at hx
    split at hx
    · cases hx; have := hfm f hxf; show _ < st.n + 1; omega
    · have := hr.fam id x f hx hxf; show _ < st.n + 1; omega
  · obtain ⟨j, x, hx, ho', hb⟩ := hk
    rw [St.get_push] at hx
    split at hx
    · rename_i h; rw [← hr.n] at h; subst h; rw [Fi.push_new] at hb; left; exact ⟨id, o, ho, hown, by rw [hl]; exact hb⟩
    · left; exact ⟨j, x, hx, ho', by rw [← (hold j x hx).2]; exact hb⟩
theorem Rel.beyond {φ : Fi} {st : St} {w : World} (hr : Rel φ st w) {b X : Nat} {c c' : Array Value} {t : TypeId} (hb : w.heap[b]? = some (.cells c t (0, 0))) (hsz : c'.size = c.size)
    (hall : ∀ j oj, st.h.get j = some oj → (φ.f j).b = b → ∃ fm cs, oj = .cells fm false cs ∧ (φ.f j).o + cs.length ≤ X) (hc : ∀ i, i < X → c'[i]? = c[i]?) (hown : Owns φ st b) :
    Rel φ st (w.setRow b c') ∧ Fr φ st w φ st (w.setRow b c') := by
  refine mkRel hr rfl hr.n hr.lt (fun j x hx => by rw [setRow_size]; exact hr.blk j x hx) (fun j x hx => ?_) hr.sep hr.fam ⟨rfl, rfl, rfl, by rw [setRow_size]; exact Nat.le_refl _, fun k _ hn => setRow_other w b k c' (fun e => hn (e ▸ hown)), fun k hk => .inl hk, fun _ _ h => .inl h⟩
  by_cases hj : (φ.f j).b = b
  · obtain ⟨fm, cs, rfl, hlen⟩ := hall j x hx hj
    obtain ⟨h1, h2⟩ := hr.obj j _ hx
    refine ⟨fun i a ha => ?_, fun hro => ?_⟩
    · obtain ⟨v, hv, hrv⟩ := h1 i a ha
      refine ⟨v, ?_, hrv⟩
      have hi : i < cs.length := (List.getElem?_eq_some_iff.1 ha).1
      unfold World.cell? at hv ⊢
      rw [hj] at hv ⊢
      simp only [hb] at hv
      simp only [setRow_heap w b c c' t (0, 0) hb]
      have := hc ((φ.f j).o + i) (by omega)
      simpa [this] using hv
    · obtain ⟨c2, t2, h3, h4, h5⟩ := h2 hro
      rw [hj] at h3
      rw [hb] at h3
      cases h3
      exact ⟨c', t, by rw [hj]; exact setRow_heap w b c c' t (0, 0) hb, by rw [hsz]; exact h4, h5⟩
  · exact (hr.obj j x hx).same (Ext.refl _) (by rw [hr.n]; exact hr.lt j x hx) (setRow_other w b _ c' hj)
def flatG (sz : Nat) (g : Nat → Nat → AV) : Nat → List AV
  | 0 => []
  | n + 1 => flatG sz g n ++ cellsFrom (g n) 0 sz
theorem flatG_length (sz : Nat) (g : Nat → Nat → AV) : ∀ n, (flatG sz g n).length = n * sz
  | 0 => by simp [flatG]
  | n + 1 => by simp [flatG, flatG_length sz g n, cellsFrom_length, Nat.add_mul]
theorem flatG_get (sz : Nat) (g : Nat → Nat → AV) : ∀ n i k, i < n → k < sz → (flatG sz g n)[i * sz + k]? = some (g i k)
  | 0, i, k, h, _ => by omega
  | n + 1, i, k, h, hk => by
    simp only [flatG]
    by_cases hi : i = n
    · subst hi
      rw [List.getElem?_append_right (by rw [flatG_length]; omega), flatG_length, show i * sz + k - i * sz = k from by omega, cellsFrom_get, if_pos hk]
      simp
    · have h1 : i < n := by omega
      have h2 : i * sz + k < n * sz := by
        have := Nat.mul_le_mul_right sz (show i + 1 ≤ n from h1)
        rw [Nat.add_mul] at this
        omega
      rw [List.getElem?_append_left (by rw [flatG_length]; exact h2)]
      exact flatG_get sz g n i k h1 hk
def slCells (h : Hp) (sz : Nat) : AV → Option (List AV)
  | .isl len sz' _ g => if sz' = sz ∧ sz ≠ 0 then some (flatG sz g len) else none
  | .lit (.slice none 0 0) => some []
  | .sl id off len sz' _ => match cellsAt h id with
    | some cs => if sz' = sz ∧ off + len * sz ≤ cs.length then some ((cs.drop off).take (len * sz)) else none
    | none => none
  | _ => none
def slLen : AV → Nat
  | .isl len _ _ _ => len
  | .sl _ _ len _ _ => len
  | _ => 0
theorem slLen_sl (id off len sz : Nat) (ex : Bool) : slLen (.sl id off len sz ex) = len := rfl
def appendA (T : Ti) (st : St) (t xt : TypeId) (s x : AV) : Option (AV × St) :=
  match T t, T xt with
  | some i, some k => match i.desc, k.desc with
    | .slice e, .slice _ => match T e with
      | some j =>
        match slCells st.h j.size s, slCells st.h j.size x with
        | some old, some new =>
          let len := slLen s
          let m := slLen x
          if j.size = 0 ∨ 1048576 < len + m ∨ 65536 < j.bytes ∨ j.bytes = 0 ∨ j.zero.length ≠ j.size ∨ new.all AV.one = false then none else
          if m = 0 then some (s, st) else
          match s with
          | .lit _ => some (.sl st.n 0 m j.size false, st.push (.cells none false new))
          | .isl _ _ true _ => some (.sl st.n 0 (len + m) j.size false, st.push (.cells none false (old ++ new)))
          | .sl _ _ _ _ true => some (.sl st.n 0 (len + m) j.size false, st.push (.cells none false (old ++ new)))
          | .sl id off _ _ false => match st.h.get id with
            | some (.cells fm false _) => if off = 0 then some (.sl st.n 0 (len + m) j.size false, St.push ⟨truncH (fm.getD id) (len * j.size) id st.h, st.n⟩ (.cells (some (fm.getD id)) false (old ++ new))) else none
            | _ => none
          | _ => none
        | _, _ => none
      | none => none
    | _, _ => none
  | _, _ => none
section
variable {P : Program} {T : Ti}
theorem slCells_ok {φ : Fi} {st : St} {w : World} (hr : Rel φ st w) {sz : Nat} {s : AV} {v : Value} {cs : List AV} (hs : VR φ s v) (h : slCells st.h sz s = some cs) :
    ∃ (a : Option Addr) (cap : Nat) (us : List Value), v = .slice a (slLen s) cap ∧ slLen s ≤ cap ∧ VRL φ cs us ∧ us.length = slLen s * sz ∧
      ∀ (n : Nat), n = slLen s → ∀ w', Same φ st.h w w' → (Builtin.firstCells sz n v).run P w' = .ok us.toArray w' := by
  unfold slCells at h
  split at h
  · rename_i len sz' ex g
    split at h
    · rename_i hc
      obtain ⟨rfl, hsz⟩ := hc
      cases h
      have hpos : 0 < sz' := by omega
      rcases hs.isl_inv with ⟨rfl, rfl⟩ | ⟨b, o, cap, c, us, rfl, hz, hcc, hus, hcap, _⟩
      · exact ⟨none, 0, [], rfl, Nat.le_refl _, .nil, by simp [slLen], fun n hn w' _ => by simp only [slLen] at hn; subst hn; rfl⟩
      · have hdm : ∀ j, j < len * sz' → j / sz' < len ∧ j % sz' < sz' ∧ j = j / sz' * sz' + j % sz' := fun j hj => ⟨by rw [Nat.div_lt_iff_lt_mul hpos]; exact hj, Nat.mod_lt _ hpos, by rw [Nat.mul_comm]; exact (Nat.div_add_mod j sz').symm⟩
        refine ⟨_, cap, (List.range (len * sz')).map fun j => us (j / sz') (j % sz'), rfl, hcap, VRL.of_get (by simp [flatG_length]) fun j a u h1 h2 => ?_, by simp [slLen], fun n hn w' hw => ?_⟩
        · have hj : j < len * sz' := by
            rcases Nat.lt_or_ge j (len * sz') with h | h
            · exact h
            · simp [h] at h2
          obtain ⟨d1, d2, d3⟩ := hdm j hj
          have hu : u = us (j / sz') (j % sz') := by simp [hj] at h2; exact h2.symm
          rw [d3, flatG_get _ _ _ _ _ d1 d2] at h1
          cases h1
          rw [hu]
          exact hus _ _ d1 d2
        · simp only [slLen] at hn
          subst hn
          refine run_firstCells_some (P := P) w' sz' n ⟨b, o, none⟩ n cap _ (by simp) fun j v hjv => ?_
          have hj : j < n * sz' := by
            rcases Nat.lt_or_ge j (n * sz') with h | h
            · exact h
            · simp [h] at hjv
          obtain ⟨d1, d2, d3⟩ := hdm j hj
          have hv : v = us (j / sz') (j % sz') := by simp [hj] at hjv; exact hjv.symm
          rw [hv]
          have h5 := (hr.froz b c hz).2.1 _ _ (hcc _ _ d1 d2)
          rw [← cell_of_block (w := w) (w' := w') (a := ⟨b, o + j / sz' * sz' + j % sz', none⟩) (hw.froz b c hz), Nat.add_assoc, ← d3] at h5
          rw [← h5]
          unfold Addr.add; split
          · rename_i h0; simp [h0]
          · rfl
    · cases h
  · cases h
    obtain rfl := hs.lit_inv
    exact ⟨none, 0, [], rfl, Nat.le_refl _, .nil, by simp [slLen], fun n _ w' _ => rfl⟩
  · rename_i id off len sz' ex
    split at h
    · rename_i cs0 hcs
      obtain ⟨f, ro, ho⟩ : ∃ f ro, st.h.get id = some (.cells f ro cs0) := by
        unfold cellsAt at hcs
        split at hcs
        · cases hcs; exact ⟨_, _, by assumption⟩
        · cases hcs
      split at h
      · rename_i hc
        cases h
        obtain ⟨rfl, hlen⟩ := hc
        obtain ⟨cap, rfl, hid, hcap, _, _⟩ := hs.sl_inv
        have hobj := (hr.obj id _ ho).1
        have hex : ∀ j, j < len * sz' → ∃ u, w.cell? ⟨(φ.f id).b, (φ.f id).o + off + j, none⟩ = some u ∧ ∀ a, cs0[off + j]? = some a → VR φ a u := fun j hj => by
          obtain ⟨u, h1, h2⟩ := hobj (off + j) _ (List.getElem?_eq_getElem (by omega))
          exact ⟨u, by rw [Nat.add_assoc]; exact h1, fun a ha => by rw [List.getElem?_eq_getElem (by omega)] at ha; cases ha; exact h2⟩
        let g : Nat → Value := fun j => if hj : j < len * sz' then (hex j hj).choose else undef
        have hg : ∀ j, j < len * sz' → w.cell? ⟨(φ.f id).b, (φ.f id).o + off + j, none⟩ = some (g j) ∧ ∀ a, cs0[off + j]? = some a → VR φ a (g j) := fun j hj => by
          simp only [g, hj, dif_pos]; exact (hex j hj).choose_spec
        refine ⟨_, cap, (List.range (len * sz')).map g, rfl, hcap, VRL.of_get (by simp; omega) fun j a u h1 h2 => ?_, by simp [slLen], fun n hn w' hw => ?_⟩
        · have hj : j < len * sz' := by
            rcases Nat.lt_or_ge j (len * sz') with h | h
            · exact h
            · simp [h] at h2
          have : u = g j := by simp [hj] at h2; exact h2.symm
          subst this
          refine (hg j hj).2 a ?_
          rw [List.getElem?_take] at h1
          simpa [hj] using h1
        · simp only [slLen] at hn
          subst hn
          refine run_firstCells_some (P := P) w' sz' n ⟨(φ.f id).b, (φ.f id).o + off, none⟩ n cap _ (by simp) fun j v hjv => ?_
          have hj : j < n * sz' := by
            rcases Nat.lt_or_ge j (n * sz') with h | h
            · exact h
            · simp [h] at hjv
          have : v = g j := by simp [hj] at hjv; exact hjv.symm
          subst this
          rw [← (hg j hj).1]
          refine Eq.trans ?_ (cell_of_block (w := w) (w' := w') (a := ⟨(φ.f id).b, (φ.f id).o + off + j, none⟩) (hw.obj id _ ho))
          unfold Addr.add; split <;> simp_all
      · cases h
    · cases h
  · cases h
theorem run_askRoom (n : Nat) (w : World) : (askRoom n).run P w = .ok () w := by
  unfold askRoom
  split <;> rfl
theorem run_append_grow (hT : TOk P T) {t xt ty e e' : TypeId} {i k j : TI} (hi : T t = some i) (hk : T xt = some k) (hd : i.desc = .slice e) (hd' : k.desc = .slice e') (hj : T e = some j)
    {base bx : Option Addr} {len cap m cx : Nat} {old new : List Value} {w : World}
    (hold : ∀ w' : World, w'.heap = w.heap → (Builtin.firstCells j.size len (.slice base len cap)).run P w' = .ok old.toArray w')
    (hnew : ∀ w' : World, w'.heap = w.heap → (Builtin.firstCells j.size m (.slice bx m cx)).run P w' = .ok new.toArray w')
    (hcap : cap < len + m) (hb1 : len + m ≤ 1048576) (hb2 : j.bytes ≤ 65536) (hb3 : j.bytes ≠ 0) (hz : j.zero.length = j.size) :
    ∃ (newCap : Nat) (rest : List Value), len + m ≤ newCap ∧ rest.length = (newCap - (len + m)) * j.size ∧
      (Builtin.append_ #[t, xt] ty #[.slice base len cap, .slice bx m cx]).run P w =
        .ok (.slice (some ⟨w.heap.size, 0, none⟩) (len + m) newCap) (({ w with drawn := w.drawn + 1 } : World).alloc (.cells (old ++ new ++ rest).toArray e)) := by
  obtain ⟨ti, z, h1, h2, h3, h4, h5⟩ := (hT e j hj).info
  have hzw : ∀ w : World, (zeroValue e).run P w = .ok z w := fun w => by simp [zeroValue, typeInfo, Sem.run_bind, program, Sem.run, Result.andThen, h1, h4]
  have hiw : ∀ w : World, (typeInfo e).run P w = .ok ti w := fun w => by simp [typeInfo, Sem.run_bind, program, Sem.run, Result.andThen, h1]
  let newCap := (Question.appendCap (len + m) cap e).cut (w.tape w.drawn (.appendCap (len + m) cap e))
  have hnc : len + m ≤ newCap := by simp only [newCap, Question.cut]; omega
  refine ⟨newCap, (Builtin.zeroCells z.cells (newCap - (len + m))).toList, hnc, ?_, ?_⟩
  · simp only [Builtin.zeroCells, Array.toList_map, List.length_map, Array.toList_range, List.length_range]
    rw [show z.cells.size = j.size from by rw [← hz, ← h5]; simp]
  · have hbm : (len + m) * ti.bytes ≤ 140737488355328 := by
      rw [h3]
      have : (len + m) * j.bytes ≤ 1048576 * 65536 := Nat.mul_le_mul hb1 hb2
      omega
    have hf := growslice_fits hcap hbm
    have hchoose : (choose (.appendCap (len + m) cap e)).run P w = .ok newCap { w with drawn := w.drawn + 1 } := by
      simp [choose, Sem.run, Question.forced, newCap]
    have hni : ¬ (((len + m : Nat) : Int) > IntKind.i64.max ∧ (False ∨ ti.bytes = 0)) := by
      rintro ⟨_, h | h⟩
      · exact h
      · exact hb3 (by rw [← h3]; exact h)
    have hfm : ¬ (Builtin.nextslicecap (len + m) cap * ti.bytes > 2 ^ 48) := by
      have : (2 : Nat) ^ 48 = 281474976710656 := by decide
      omega
    have hnle : ¬ (len + m ≤ cap) := by omega
    have e0 : (#[t, xt] : Array TypeId)[0]? = some t := rfl
    have e1 : (#[t, xt] : Array TypeId)[1]? = some xt := rfl
    simp only [Builtin.append_, e0, e1, List.getElem?_toArray, List.getElem?_cons_zero, List.getElem?_cons_succ, Sem.run_bind, run_und hT hi, hd, run_und hT hk, hd', Result.andThen, run_size hT hj, Sem.run_pure, Bool.false_eq_true, if_false, Builtin.lenOf, hnle, hiw, Sem.run_ite]
    rw [if_neg hni, if_neg hfm]
    have ho1 := hold { w with drawn := w.drawn + 1 } rfl
    have hn1 := hnew { w with drawn := w.drawn + 1 } rfl
    simp only [hchoose, run_askRoom, ho1, hn1, Bool.not_false, if_true, hzw, run_newRow]
    rw [show (old.toArray ++ new.toArray ++ Builtin.zeroCells z.cells (newCap - (len + m))) = (old ++ new ++ (Builtin.zeroCells z.cells (newCap - (len + m))).toList).toArray from by apply Array.ext'; simp]
theorem run_append_fits (hT : TOk P T) {t xt ty e e' : TypeId} {i k j : TI} (hi : T t = some i) (hk : T xt = some k) (hd : i.desc = .slice e) (hd' : k.desc = .slice e') (hj : T e = some j)
    {a : Addr} {bx : Option Addr} {len cap m cx : Nat} {new : List Value} {w : World} {c : Array Value} {ct : TypeId}
    (hnew : (Builtin.firstCells j.size m (.slice bx m cx)).run P w = .ok new.toArray w) (hspot : a.spot = none)
    (hcap : len + m ≤ cap) (hb : w.heap[a.block]? = some (.cells c ct (0, 0))) (hfit : a.off + len * j.size + new.length ≤ c.size) (h1 : ∀ u ∈ new, u.oneCell' = true) :
    (Builtin.append_ #[t, xt] ty #[.slice (some a) len cap, .slice bx m cx]).run P w =
      .ok (.slice (some a) (len + m) cap) (w.setRow a.block (c.toList.take (a.off + len * j.size) ++ new ++ c.toList.drop (a.off + len * j.size + new.length)).toArray) := by
  obtain ⟨ab, ao, asp⟩ := a
  simp only at hspot hb hfit ⊢
  subst hspot
  have hst := run_storeCells_at P ab (ao + len * j.size) ct new 0 c w hb (by simpa using hfit) h1
  simp only [Nat.add_zero] at hst
  have hadd : Addr.add ⟨ab, ao, none⟩ (len * j.size) = ⟨ab, ao + len * j.size, none⟩ := by unfold Addr.add; split <;> simp_all
  have e0 : (#[t, xt] : Array TypeId)[0]? = some t := rfl
  have e1 : (#[t, xt] : Array TypeId)[1]? = some xt := rfl
  simp only [Builtin.append_, e0, e1, List.getElem?_toArray, List.getElem?_cons_zero, List.getElem?_cons_succ, Sem.run_bind, run_und hT hi, hd, run_und hT hk, hd', Result.andThen, run_size hT hj, Sem.run_pure, Bool.false_eq_true, if_false, Builtin.lenOf, hcap, if_true, Bool.not_false, hnew, hadd, hst]
theorem append_ok (hT : TOk P T) {φ : Fi} {st st' : St} {w : World} {t xt ty : TypeId} {s x r : AV} {sv xv : Value} (hr : Rel φ st w) (hs : VR φ s sv) (hx : VR φ x xv) (h : appendA T st t xt s x = some (r, st')) :
    ∃ φ' w' v, (Builtin.append_ #[t, xt] ty #[sv, xv]).run P w = .ok v w' ∧ VR φ' r v ∧ Rel φ' st' w' ∧ Ext φ φ' ∧ Fr φ st w φ' st' w' := by
  unfold appendA at h
  split at h
  · rename_i i k hi hk
    split at h
    · rename_i e e' hd hd'
      split at h
      · rename_i j hj
        split at h
        · rename_i old new hold hnew
          obtain ⟨a, cap, us, rfl, hcap, hus, huslen, huf⟩ := slCells_ok (P := P) hr hs hold
          obtain ⟨ax, cx, vs, rfl, hcx, hvs, hvslen, hvf⟩ := slCells_ok (P := P) hr hx hnew
          simp only at h
          split at h
          · cases h
          · rename_i hc
            simp only [not_or, Nat.not_lt, Bool.not_eq_false] at hc
            obtain ⟨c1, c2, c3, c4, c5, c6⟩ := hc
            have c5 : j.zero.length = j.size := by simpa using c5
            have hsame : ∀ w' : World, w'.heap = w.heap → Same φ st.h w w' := fun w' hw => ⟨fun id o _ => by rw [hw], fun b c _ => by rw [hw]⟩
            have grow : ∀ (fm : Option Nat) (st1 : St), (∀ f, fm = some f → f < st1.n) → Rel φ st1 w → Fr φ st w φ st1 w → cap < slLen s + slLen x →
                ∃ φ' w' v, (Builtin.append_ #[t, xt] ty #[.slice a (slLen s) cap, .slice ax (slLen x) cx]).run P w = .ok v w' ∧ VR φ' (.sl st1.n 0 (slLen s + slLen x) j.size false) v ∧
                  Rel φ' (st1.push (.cells fm false (old ++ new))) w' ∧ Ext φ φ' ∧ Fr φ st w φ' (st1.push (.cells fm false (old ++ new))) w' := fun fm st1 hfmn hr1 hfr1 hlt => by
              obtain ⟨newCap, rest, g1, g2, g3⟩ := run_append_grow (ty := ty) hT hi hk hd hd' hj (base := a) (bx := ax) (cap := cap) (cx := cx) (fun w' hw => huf _ rfl w' (hsame w' hw)) (fun w' hw => hvf _ rfl w' (hsame w' hw)) hlt c2 c3 c4 c5
              have hr2 : Rel φ st1 { w with drawn := w.drawn + 1 } := hr1.of_heap rfl
              have hobj := ObjR.new (φ := φ) (w := { w with drawn := w.drawn + 1 }) (rest := rest) (hus.append hvs) (us ++ vs ++ rest).toArray (by simp) e
              have hobj' : ObjR (φ.push ⟨w.heap.size, 0, (us ++ vs ++ rest).toArray.size⟩) (({ w with drawn := w.drawn + 1 } : World).alloc (.cells (us ++ vs ++ rest).toArray e)) φ.n (.cells fm false (old ++ new)) := hobj
              have := hr2.push (.cells (us ++ vs ++ rest).toArray e) (.cells fm false (old ++ new)) ⟨w.heap.size, 0, (us ++ vs ++ rest).toArray.size⟩ rfl hobj' (fun f hf => hfmn f hf)
              refine ⟨_, _, _, g3, ?_, this.1, φ.push_ext _, hfr1.trans ((⟨rfl, rfl, rfl, Nat.le_refl _, fun _ _ _ => rfl, fun _ h => .inl h, fun _ _ h => .inl h⟩ : Fr φ st1 w φ st1 { w with drawn := w.drawn + 1 }).trans this.2)⟩
              have hv := VR.sl (φ := φ.push ⟨w.heap.size, 0, (us ++ vs ++ rest).toArray.size⟩) φ.n 0 (slLen s + slLen x) j.size false newCap (by simp [Fi.push]) g1 (by simp) (by
                rw [Fi.push_new]
                simp only [List.size_toArray, List.length_append, huslen, hvslen, g2, Nat.zero_add]
                rw [← Nat.add_mul, ← Nat.add_mul]
                exact Nat.mul_le_mul_right _ (by omega))
              rw [Fi.push_new] at hv
              rw [← hr1.n]
              exact hv
            split at h
            ·
              rename_i hm
              cases h
              refine ⟨φ, w, _, ?_, hs, hr, Ext.refl _, Fr.refl _ _ _⟩
              have e0 : (#[t, xt] : Array TypeId)[0]? = some t := rfl
              have e1 : (#[t, xt] : Array TypeId)[1]? = some xt := rfl
              have hf := hvf _ rfl w (Same.refl _ _ _)
              have hvs0 : vs = [] := List.eq_nil_of_length_eq_zero (by rw [hvslen, hm, Nat.zero_mul])
              subst hvs0
              have hle : slLen s + slLen x ≤ cap := by omega
              have hst : ∀ q : Addr, (storeCells q []).run P w = .ok () w := fun q => rfl
              simp only [Builtin.append_, e0, e1, List.getElem?_toArray, List.getElem?_cons_zero, List.getElem?_cons_succ, Sem.run_bind, run_und hT hi, hd, run_und hT hk, hd', Result.andThen, run_size hT hj, Sem.run_pure, Bool.false_eq_true, if_false, Builtin.lenOf, hle, if_true, Bool.not_false, hf]
              cases a with
              | none => simp [hm]
              | some q => simp [hst, hm]
            · rename_i hm
              split at h
              ·
                rename_i v
                cases h
                have h0 : slLen (.lit v) = 0 := rfl
                have hcap0 : cap = 0 := by
                  unfold slCells at hold
                  split at hold
                  · rename_i hq; cases hq
                  · rename_i hq; have := hs.lit_inv; cases hq; cases this; rfl
                  · rename_i hq; cases hq
                  · cases hold
                have hold0 : old = [] := by
                  have := hus.length; rw [huslen, h0, Nat.zero_mul] at this; exact List.eq_nil_of_length_eq_zero this
                have := grow none st (fun f hf => by cases hf) hr (Fr.refl _ _ _) (by rw [hcap0]; omega)
                rw [h0, hold0] at this
                rw [h0]
                simpa using this
              ·
                rename_i len sz g
                cases h
                have hcl : cap = slLen (.isl len sz true g) := by
                  rcases hs.isl_inv with ⟨h1, h2⟩ | ⟨b, o, cap', c, us', h2, _, _, _, _, h3⟩
                  · cases h2; rfl
                  · cases h2; exact h3 rfl
                exact grow none st (fun f hf => by cases hf) hr (Fr.refl _ _ _) (by rw [hcl]; omega)
              ·
                rename_i id off len sz
                cases h
                obtain ⟨cap', hcv, _, _, hex, _⟩ := hs.sl_inv
                have hcl : cap = slLen (.sl id off len sz true) := by cases hcv; exact hex rfl
                exact grow none st (fun f hf => by cases hf) hr (Fr.refl _ _ _) (by rw [hcl]; omega)
              · rename_i id off len sz
                split at h
                · rename_i fm cs ho
                  split at h
                  · rename_i hoff
                    subst hoff
                    cases h
                    obtain ⟨hrt, hfrt⟩ := hr.trunc ho (len * j.size)
                    have hfmn : ∀ f, some (fm.getD id) = some f → f < st.n := fun f hf => by
                      cases hf
                      cases fm with
                      | none => exact hr.lt id _ ho
                      | some g => exact hr.fam id _ g ho rfl
                    by_cases hfit : len + slLen x ≤ cap
                    ·
                      obtain ⟨cap', hcv, hid, _, _, hbnd⟩ := hs.sl_inv
                      cases hcv
                      obtain ⟨hcells, hblk⟩ := hr.obj id _ ho
                      obtain ⟨c, ct, hb, hcn, hcl⟩ := hblk rfl
                      simp only [slCells, cellsAt, ho] at hold
                      split at hold
                      · rename_i hsz
                        obtain ⟨rfl, hol⟩ := hsz
                        cases hold
                        simp only [slLen_sl] at *
                        have hm1 : (len + slLen x) * j.size ≤ cap * j.size := Nat.mul_le_mul_right _ hfit
                        rw [Nat.add_mul] at hm1
                        have hfits : (φ.f id).o + 0 + len * j.size + vs.length ≤ c.size := by rw [hvslen]; omega
                        have hrun := run_append_fits (P := P) (ty := ty) hT hi hk hd hd' hj (a := ⟨(φ.f id).b, (φ.f id).o + 0, none⟩) (len := len) (cap := cap) (hvf _ rfl w (Same.refl _ _ _)) rfl hfit hb hfits (hvs.one c6)
                        refine ⟨φ.push (φ.f id), _, _, hrun, ?_, ?_⟩
                        · have := VR.sl (φ := φ.push (φ.f id)) φ.n 0 (len + slLen x) j.size false cap (by simp [Fi.push]) hfit (by simp) (by rw [Fi.push_new]; exact hbnd)
                          rw [Fi.push_new] at this
                          rw [← hr.n]
                          exact this
                        ·
                          have hall : ∀ k ok, (⟨truncH (fm.getD id) (len * j.size) id st.h, st.n⟩ : St).h.get k = some ok → (φ.f k).b = (φ.f id).b →
                              ∃ cs', ok = .cells (some (fm.getD id)) false cs' ∧ cs'.length ≤ len * j.size ∧ (φ.f k).o = (φ.f id).o ∧ (φ.f k).n = (φ.f id).n := fun k ok hk hkb => by
                            simp only [truncH_get] at hk
                            by_cases hkid : k = id
                            · subst hkid
                              rw [ho] at hk
                              simp only [Option.map_some, beq_self_eq_true, trunc1, or_true, if_true, Option.some.injEq] at hk
                              exact ⟨_, hk.symm, by simp only [List.length_take]; omega, rfl, rfl⟩
                            · cases hgk : st.h.get k with
                              | none => rw [hgk] at hk; cases hk
                              | some o2 =>
                                rw [hgk] at hk
                                simp only [Option.map_some, Option.some.injEq] at hk
                                obtain ⟨⟨f, hf1, hf2⟩, h3, h4, h5⟩ := hr.sep id k _ o2 ho hgk (Ne.symm hkid) rfl hkb.symm
                                simp only [AObj.fam] at hf1
                                cases o2 with
                                | cells f2 ro2 cs2 =>
                                  simp only [AObj.fam] at hf2
                                  simp only [AObj.own, Bool.not_eq_true'] at h3
                                  subst hf1; subst hf2; subst h3
                                  simp only [trunc1, Option.getD_some, true_or, if_true] at hk
                                  exact ⟨_, by rw [← hk]; rfl, by simp only [List.length_take]; omega, h4.symm, h5.symm⟩
                                | loop r => cases hf2
                                | dfr => cases hf2
                                | map es clock => cases hf2
                                | iter mid since seen last => cases hf2
                          have hget1 : (⟨truncH (fm.getD id) (len * j.size) id st.h, st.n⟩ : St).h.get id = some (.cells (some (fm.getD id)) false (cs.take (len * j.size))) := by
                            simp only [truncH_get, ho, Option.map_some, trunc1, beq_self_eq_true, or_true, if_true]
                          have hlenc : c.toList.length = c.size := by simp
                          obtain ⟨hrb, hfb⟩ := hrt.beyond (X := (φ.f id).o + len * j.size) hb (c' := (c.toList.take ((φ.f id).o + 0 + len * j.size) ++ vs ++ c.toList.drop ((φ.f id).o + 0 + len * j.size + vs.length)).toArray)
                            (by simp only [List.size_toArray, List.length_append, List.length_take, List.length_drop, hlenc]; omega)
                            (fun k ok hk hkb => by obtain ⟨cs', h1, h2, h3, _⟩ := hall k ok hk hkb; exact ⟨_, cs', h1, by omega⟩)
                            (fun i hi => by
                              rw [← Array.getElem?_toList (xs := c)]
                              have := splice_get c.toList vs ((φ.f id).o + 0 + len * j.size) i (by rw [hlenc]; exact hfits)
                              rw [if_neg (by omega)] at this
                              simpa using this)
                            ⟨id, _, hget1, rfl, rfl⟩
                          have hobjn : ObjR (φ.push (φ.f id)) (w.setRow (φ.f id).b (c.toList.take ((φ.f id).o + 0 + len * j.size) ++ vs ++ c.toList.drop ((φ.f id).o + 0 + len * j.size + vs.length)).toArray) φ.n (.cells (some (fm.getD id)) false (cs.take (len * j.size) ++ new)) := by
                            have hnewb := setRow_heap w (φ.f id).b c (c.toList.take ((φ.f id).o + 0 + len * j.size) ++ vs ++ c.toList.drop ((φ.f id).o + 0 + len * j.size + vs.length)).toArray ct (0, 0) hb
                            have hnl := hvs.length
                            refine ⟨fun k a ha => ?_, fun _ => ⟨_, ct, by rw [Fi.push_new]; exact hnewb, ?_, ?_⟩⟩
                            · rw [Fi.push_new]
                              have hcellk : ∀ q, (w.setRow (φ.f id).b (c.toList.take ((φ.f id).o + 0 + len * j.size) ++ vs ++ c.toList.drop ((φ.f id).o + 0 + len * j.size + vs.length)).toArray).cell? ⟨(φ.f id).b, q, none⟩ =
                                  if (φ.f id).o + 0 + len * j.size ≤ q ∧ q < (φ.f id).o + 0 + len * j.size + vs.length then vs[q - ((φ.f id).o + 0 + len * j.size)]? else c[q]? := fun q => by
                                unfold World.cell?
                                simp only [hnewb]
                                rw [← Array.getElem?_toList (xs := c), ← splice_get c.toList vs _ q (by rw [hlenc]; exact hfits)]
                                simp
                              rw [hcellk]
                              by_cases hkl : k < len * j.size
                              · rw [List.getElem?_append_left (by simp only [List.length_take]; omega), List.getElem?_take, if_pos hkl] at ha
                                rw [if_neg (by omega)]
                                obtain ⟨u, hu, hru⟩ := hcells k a ha
                                refine ⟨u, ?_, hru.mono (φ.push_ext _)⟩
                                unfold World.cell? at hu
                                simpa [hb] using hu
                              · rw [List.getElem?_append_right (by simp only [List.length_take]; omega)] at ha
                                have htl : (cs.take (len * j.size)).length = len * j.size := by simp only [List.length_take]; omega
                                rw [htl] at ha
                                obtain ⟨u, hu, hru⟩ := hvs.get _ _ ha
                                have : k - len * j.size < vs.length := (List.getElem?_eq_some_iff.1 hu).1
                                rw [if_pos (by omega)]
                                exact ⟨u, by rw [show (φ.f id).o + k - ((φ.f id).o + 0 + len * j.size) = k - len * j.size from by omega]; exact hu, hru.mono (φ.push_ext _)⟩
                            · rw [Fi.push_new]
                              simp only [List.size_toArray, List.length_append, List.length_take, List.length_drop, hlenc]
                              omega
                            · rw [Fi.push_new]
                              simp only [List.length_append, List.length_take]
                              rw [hnl, hvslen]
                              omega
                          obtain ⟨hra, hfa⟩ := hrb.alias (.cells (some (fm.getD id)) false (cs.take (len * j.size) ++ new)) (φ.f id) hget1 rfl rfl rfl hobjn hfmn
                            (fun k ok hk hkb => by obtain ⟨cs', rfl, h2, h3, h4⟩ := hall k ok hk hkb; exact ⟨⟨_, rfl, rfl⟩, rfl, h3, h4⟩)
                          exact ⟨hra, φ.push_ext _, hfrt.trans (hfb.trans hfa)⟩
                      · cases hold
                    · exact grow (some (fm.getD id)) ⟨truncH (fm.getD id) (len * j.size) id st.h, st.n⟩ hfmn hrt hfrt (by simp only [slLen_sl]; omega)
                  · cases h
                · cases h
              · cases h
        · cases h
      · cases h
    · cases h
  · cases h
end
end Go.Fz
namespace Go.Fz
def natOf : AV → Option Nat
  | .lit (.int _ n) => if 0 ≤ n then some n.toNat else none
  | _ => none
def natOr (d : Nat) : Option AV → Option Nat
  | none => some d
  | some a => natOf a
def sliceA (T : Ti) (h : Hp) (t : TypeId) (x : AV) (lo hi mx : Option AV) : Option AV :=
  match T t with
  | none => none
  | some i =>
    match i.desc, x with
    | .slice e, .isl len sz ex g => match T e with
      | some j => if j.size = sz then
          match natOr 0 lo, natOr len hi, mx with
          | some l, some u, none => if l ≤ u ∧ u ≤ len then some (.isl (u - l) sz (ex && u == len) (fun i => g (l + i))) else none
          | some l, some u, some m => match hi, natOf m with
            | some _, some k => if l ≤ u ∧ u ≤ k ∧ k ≤ len then some (.isl (u - l) sz (u == k) (fun i => g (l + i))) else none
            | _, _ => none
          | _, _, _ => none
        else none
      | none => none
    | .slice e, .sl id off len sz ex => match T e with
      | some j => if j.size = sz then
          match natOr 0 lo, natOr len hi, mx with
          | some l, some u, none => if l ≤ u ∧ u ≤ len ∧ (l = 0 ∨ l < len) then some (.sl id (off + l * sz) (u - l) sz (ex && u == len)) else if l = len ∧ u = len ∧ ex = true then some (.sl id off 0 sz true) else none
          | some l, some u, some m => match hi, natOf m with
            | some _, some k => if l ≤ u ∧ u ≤ k ∧ k ≤ len then some (if k = l then .sl id off 0 sz true else .sl id (off + l * sz) (u - l) sz (u == k)) else none
            | _, _ => none
          | _, _, _ => none
        else none
      | none => none
    | .slice e, .lit (.slice none 0 0) => match T e with
      | some _ => match natOr 0 lo, natOr 0 hi, mx with
        | some 0, some 0, none => some (.lit (.slice none 0 0))
        | some 0, some 0, some m => match hi, natOf m with
          | some _, some 0 => some (.lit (.slice none 0 0))
          | _, _ => none
        | _, _, _ => none
      | none => none
    | .array n e, .ptr id off => match T e, h.get id with
      | some j, some (.cells _ false cs) =>
        match natOr 0 lo, natOr n hi, mx with
        | some l, some u, none => if l ≤ u ∧ u ≤ n ∧ (l = 0 ∨ l < n) ∧ off + n * j.size ≤ cs.length then some (.sl id (off + l * j.size) (u - l) j.size (u == n)) else none
        | _, _, _ => none
      | _, _ => none
    | _, _ => none
section
variable {P : Program} {T : Ti}
theorem natOf_ok {φ : Fi} {a : AV} {v : Value} {n : Nat} (h : natOf a = some n) (hv : VR φ a v) : ∃ k, v = .int k (n : Int) := by
  unfold natOf at h
  split at h
  · rename_i k m
    split at h
    · cases h; obtain rfl := hv.lit_inv; exact ⟨k, by rw [Int.toNat_of_nonneg (by assumption)]⟩
    · cases h
  · cases h
theorem bound_ok {φ : Fi} {x : AV} {v : Value} {n y : Nat} {c : BoundsCode} (h : natOf x = some n) (hv : VR φ x v) (hy : n ≤ y) (w : World) : (Instr.sliceBound v y c).run P w = .ok n w := by
  obtain ⟨k, rfl⟩ := natOf_ok h hv
  have : (0 : Int) ≤ (n : Int) ∧ (n : Int) ≤ (y : Int) := ⟨by omega, by omega⟩
  simp [Instr.sliceBound, asIntOf, this]
theorem bounds_ok {φ : Fi} {ρa : Operand → AV} {ρ : Operand → Value} (hρ : OpR φ ρa ρ) {s : Bool} {len cap l u m : Nat} {lo hi mx : Option Operand} (h1 : natOr 0 (lo.map ρa) = some l) (h2 : natOr len (hi.map ρa) = some u)
    (h3 : (mx = none ∧ m = cap) ∨ (∃ x, mx = some x ∧ natOf (ρa x) = some m ∧ hi.isSome)) (hl : l ≤ u) (hu : u ≤ m) (hm : m ≤ cap) (w : World) :
    (Instr.sliceBounds s len cap (lo.map ρ) (hi.map ρ) (mx.map ρ)).run P w = .ok (l, u, m) w := by
  unfold Instr.sliceBounds
  rcases h3 with ⟨rfl, rfl⟩ | ⟨x, rfl, hx, hh⟩
  · cases hi with
    | none =>
      simp only [Option.map_none, natOr, Option.some.injEq] at h2
      subst h2
      cases lo with
      | none => simp only [Option.map_none, natOr, Option.some.injEq] at h1; subst h1; simp
      | some a => simp only [Option.map_some, natOr] at h1; simp [bound_ok (P := P) h1 (hρ a) hl w]
    | some b =>
      simp only [Option.map_some, natOr] at h2
      cases lo with
      | none => simp only [Option.map_none, natOr, Option.some.injEq] at h1; subst h1; simp [bound_ok (P := P) h2 (hρ b) hu w]
      | some a => simp only [Option.map_some, natOr] at h1; simp [bound_ok (P := P) h1 (hρ a) hl w, bound_ok (P := P) h2 (hρ b) hu w]
  · cases hi with
    | none => cases hh
    | some b =>
      simp only [Option.map_some, natOr] at h2
      cases lo with
      | none => simp only [Option.map_none, natOr, Option.some.injEq] at h1; subst h1; simp [bound_ok (P := P) h2 (hρ b) hu w, bound_ok (P := P) hx (hρ x) hm w]
      | some a => simp only [Option.map_some, natOr] at h1; simp [bound_ok (P := P) h1 (hρ a) hl w, bound_ok (P := P) h2 (hρ b) hu w, bound_ok (P := P) hx (hρ x) hm w]
theorem slice_ok (hT : TOk P T) {φ : Fi} {st : St} {w : World} {ρa : Operand → AV} {ρ : Operand → Value} {t : TypeId} {x : Operand} {lo hi mx : Option Operand} {r : AV} (hr : Rel φ st w) (hρ : OpR φ ρa ρ)
    (h : sliceA T st.h t (ρa x) (lo.map ρa) (hi.map ρa) (mx.map ρa) = some r) :
    ∃ u, VR φ r u ∧ ∀ w', (Instr.sliceAt t (ρ x) (lo.map ρ) (hi.map ρ) (mx.map ρ)).run P w' = .ok u w' := by
  have hadd : ∀ (b o n : Nat), Addr.add ⟨b, o, none⟩ n = ⟨b, o + n, none⟩ := fun b o n => by unfold Addr.add; split <;> simp_all
  unfold sliceA at h
  split at h
  · cases h
  · rename_i i hi'
    split at h
    · rename_i e len sz ex g hd hx
      split at h
      · rename_i j hj
        split at h
        · rename_i hsz
          subst hsz
          have hxv := hρ x
          rw [hx] at hxv
          have hnew : ∀ (l u m cap b o : Nat) (c : Nat → Option Value) (us : Nat → Nat → Value) (ex' : Bool), l ≤ u → u ≤ len → u ≤ m → m ≤ cap → (ex' = true → m = u) → φ.z b = some c → (∀ i k, i < len → k < j.size → c (o + i * j.size + k) = some (us i k)) →
              (∀ i k, i < len → k < j.size → VR φ (g i k) (us i k)) → VR φ (.isl (u - l) j.size ex' (fun i => g (l + i))) (.slice (some ⟨b, if m = l then o else o + l * j.size, none⟩) (u - l) (m - l)) := fun l u m cap b o c us ex' q1 q2 q3 q4 q5 hz hc hus => by
            refine .isl (u - l) j.size ex' _ b _ (m - l) c (fun i => us (l + i)) hz (fun i k hi hk => ?_) (fun i k hi hk => hus _ _ (by omega) hk) (by omega) (fun h => by have := q5 h; omega)
            rw [if_neg (by omega), ← hc (l + i) k (by omega) hk, Nat.add_mul]
            congr 1; omega
          split at h
          · rename_i l u h1 h2 h3
            split at h
            · rename_i hc
              cases h
              obtain ⟨c1, c2⟩ := hc
              have hmx : mx = none := by cases mx <;> simp_all
              subst hmx
              rcases hxv.isl_inv with ⟨rfl, hv⟩ | ⟨b, o, cap, c, us, hv, hz, hcc, hus, hcap, hex⟩
              · have hu0 : u = 0 := by omega
                have hl0 : l = 0 := by omega
                subst hu0; subst hl0
                have hb := fun w' => bounds_ok (P := P) (s := true) (len := 0) (cap := 0) (m := 0) hρ h1 h2 (.inl ⟨rfl, rfl⟩) c1 (by omega) (Nat.le_refl _) w'
                refine ⟨.slice none 0 0, .isl0 _ _ _, fun w' => ?_⟩
                simp only [Instr.sliceAt, Sem.run_bind, run_und hT hi', hd, Result.andThen, Instr.slice, hv, hb w', run_size hT hj, Sem.run_pure]
                simp
              · have hb := fun w' => bounds_ok (P := P) (s := true) (cap := cap) (m := cap) hρ h1 h2 (.inl ⟨rfl, rfl⟩) c1 (by omega) (Nat.le_refl _) w'
                refine ⟨_, hnew l u cap cap b o c us (ex && u == len) c1 c2 (by omega) (Nat.le_refl _) (fun he => by
                  simp only [Bool.and_eq_true, beq_iff_eq] at he
                  have := hex he.1
                  omega) hz hcc hus, fun w' => ?_⟩
                simp only [Instr.sliceAt, Sem.run_bind, run_und hT hi', hd, Result.andThen, Instr.slice, hv, hb w', run_size hT hj, Sem.run_pure]
                by_cases hl : cap = l
                · subst hl; simp
                · rw [if_neg hl, if_neg hl]
                  simp [hadd]
            · cases h
          · rename_i l u m h1 h2 h3
            split at h
            · rename_i b k hb hk
              split at h
              · rename_i hc
                cases h
                obtain ⟨c1, c2, c3⟩ := hc
                obtain ⟨y, rfl, hy⟩ : ∃ y, mx = some y ∧ ρa y = m := by cases mx <;> simp_all
                rw [← hy] at hk
                have hhi : hi.isSome := by cases hi <;> simp_all
                rcases hxv.isl_inv with ⟨rfl, hv⟩ | ⟨b, o, cap, c, us, hv, hz, hcc, hus, hcap, hex⟩
                · have hk0 : k = 0 := by omega
                  have hu0 : u = 0 := by omega
                  have hl0 : l = 0 := by omega
                  subst hu0; subst hl0; subst hk0
                  have hb' := fun w' => bounds_ok (P := P) (s := true) (len := 0) (cap := 0) hρ h1 h2 (.inr ⟨y, rfl, hk, hhi⟩) c1 c2 (Nat.le_refl _) w'
                  refine ⟨.slice none 0 0, .isl0 _ _ _, fun w' => ?_⟩
                  simp only [Instr.sliceAt, Sem.run_bind, run_und hT hi', hd, Result.andThen, Instr.slice, hv, hb' w', run_size hT hj, Sem.run_pure]
                  simp
                · have hb' := fun w' => bounds_ok (P := P) (s := true) (cap := cap) hρ h1 h2 (.inr ⟨y, rfl, hk, hhi⟩) c1 c2 (by omega) w'
                  refine ⟨_, hnew l u k cap b o c us (u == k) c1 (by omega) c2 (by omega) (fun he => by simp only [beq_iff_eq] at he; omega) hz hcc hus, fun w' => ?_⟩
                  simp only [Instr.sliceAt, Sem.run_bind, run_und hT hi', hd, Result.andThen, Instr.slice, hv, hb' w', run_size hT hj, Sem.run_pure]
                  by_cases hl : k = l
                  · subst hl; simp
                  · rw [if_neg hl, if_neg hl]
                    simp [hadd]
              · cases h
            · cases h
          · cases h
        · cases h
      · cases h
    · rename_i e id off len sz ex hd hx
      split at h
      · rename_i j hj
        split at h
        · rename_i hsz
          subst hsz
          have hxv := hρ x
          rw [hx] at hxv
          obtain ⟨cap, hv, hid, hcap, hex, hbnd⟩ := hxv.sl_inv
          split at h
          · rename_i l u h1 h2 h3
            split at h
            · rename_i hc
              cases h
              obtain ⟨c1, c2, c3⟩ := hc
              have hmx : mx = none := by cases mx <;> simp_all
              subst hmx
              have hb := fun w' => bounds_ok (P := P) (s := true) (cap := cap) (m := cap) hρ h1 h2 (.inl ⟨rfl, rfl⟩) c1 (by omega) (Nat.le_refl _) w'
              refine ⟨.slice (some ⟨(φ.f id).b, (φ.f id).o + (off + l * j.size), none⟩) (u - l) (cap - l), .sl id (off + l * j.size) (u - l) j.size _ (cap - l) hid (by omega) (fun he => ?_) ?_, fun w' => ?_⟩
              · simp only [Bool.and_eq_true, beq_iff_eq] at he
                have := hex he.1
                omega
              · have : l * j.size + (cap - l) * j.size = cap * j.size := by rw [← Nat.add_mul]; congr 1; omega
                omega
              · simp only [Instr.sliceAt, Sem.run_bind, run_und hT hi', hd, Result.andThen, Instr.slice, hv, hb w', run_size hT hj, Sem.run_pure]
                by_cases hl : cap = l
                · have hl0 : l = 0 := by omega
                  have hc0 : cap = 0 := by omega
                  subst hl0; subst hc0
                  simp
                · rw [if_neg hl]
                  simp [hadd, Nat.add_assoc]
            · split at h
              · rename_i hc
                cases h
                obtain ⟨rfl, rfl, rfl⟩ := hc
                have hmx : mx = none := by cases mx <;> simp_all
                subst hmx
                have hcl := hex rfl
                have hb := fun w' => bounds_ok (P := P) (s := true) (cap := cap) (m := cap) hρ h1 h2 (.inl ⟨rfl, rfl⟩) (Nat.le_refl _) (by omega) (Nat.le_refl _) w'
                refine ⟨.slice (some ⟨(φ.f id).b, (φ.f id).o + off, none⟩) 0 0, .sl id off 0 j.size true 0 hid (Nat.le_refl _) (fun _ => rfl) (by omega), fun w' => ?_⟩
                simp only [Instr.sliceAt, Sem.run_bind, run_und hT hi', hd, Result.andThen, Instr.slice, hv, hb w', run_size hT hj, Sem.run_pure]
                simp [hcl]
              · cases h
          · rename_i l u m h1 h2 h3
            split at h
            · rename_i b k hb hk
              split at h
              · rename_i hc
                cases h
                obtain ⟨c1, c2, c3⟩ := hc
                obtain ⟨y, rfl, hy⟩ : ∃ y, mx = some y ∧ ρa y = m := by cases mx <;> simp_all
                rw [← hy] at hk
                have hhi : hi.isSome := by cases hi <;> simp_all
                have hb' := fun w' => bounds_ok (P := P) (s := true) (cap := cap) hρ h1 h2 (.inr ⟨y, rfl, hk, hhi⟩) c1 c2 (by omega) w'
                by_cases hl : k = l
                · subst hl
                  rw [if_pos rfl]
                  refine ⟨.slice (some ⟨(φ.f id).b, (φ.f id).o + off, none⟩) 0 0, .sl id off 0 j.size true 0 hid (Nat.le_refl _) (fun _ => rfl) (by omega), fun w' => ?_⟩
                  simp only [Instr.sliceAt, Sem.run_bind, run_und hT hi', hd, Result.andThen, Instr.slice, hv, hb' w', run_size hT hj, Sem.run_pure, if_true]
                  simp; omega
                · rw [if_neg hl]
                  refine ⟨.slice (some ⟨(φ.f id).b, (φ.f id).o + (off + l * j.size), none⟩) (u - l) (k - l), .sl id (off + l * j.size) (u - l) j.size _ (k - l) hid (by omega) (fun he => ?_) ?_, fun w' => ?_⟩
                  · simp only [beq_iff_eq] at he; omega
                  · have : l * j.size + (k - l) * j.size = k * j.size := by rw [← Nat.add_mul]; congr 1; omega
                    have h5 : k * j.size ≤ cap * j.size := Nat.mul_le_mul_right _ (by omega)
                    omega
                  · simp only [Instr.sliceAt, Sem.run_bind, run_und hT hi', hd, Result.andThen, Instr.slice, hv, hb' w', run_size hT hj, Sem.run_pure]
                    rw [if_neg hl]
                    simp [hadd, Nat.add_assoc]
              · cases h
            · cases h
          · cases h
        · cases h
      · cases h
    · rename_i e hd hx
      split at h
      · rename_i j hj
        have hv : ρ x = .slice none 0 0 := by have := hρ x; rw [hx] at this; exact this.lit_inv
        split at h
        · rename_i h1 h2 h3
          cases h
          have hmx : mx = none := by cases mx <;> simp_all
          subst hmx
          have hb := fun w' => bounds_ok (P := P) (s := true) (cap := 0) (m := 0) hρ h1 h2 (.inl ⟨rfl, rfl⟩) (Nat.le_refl _) (Nat.le_refl _) (Nat.le_refl _) w'
          refine ⟨_, .lit _, fun w' => ?_⟩
          simp only [Instr.sliceAt, Sem.run_bind, run_und hT hi', hd, Result.andThen, Instr.slice, hv, hb w', run_size hT hj, Sem.run_pure]
          simp
        · rename_i m h1 h2 h3
          split at h
          · rename_i b hb hk
            cases h
            obtain ⟨y, rfl, hy⟩ : ∃ y, mx = some y ∧ ρa y = m := by cases mx <;> simp_all
            rw [← hy] at hk
            have hhi : hi.isSome := by cases hi <;> simp_all
            have hb' := fun w' => bounds_ok (P := P) (s := true) (cap := 0) hρ h1 h2 (.inr ⟨y, rfl, hk, hhi⟩) (Nat.le_refl _) (Nat.le_refl _) (Nat.le_refl _) w'
            refine ⟨_, .lit _, fun w' => ?_⟩
            simp only [Instr.sliceAt, Sem.run_bind, run_und hT hi', hd, Result.andThen, Instr.slice, hv, hb' w', run_size hT hj, Sem.run_pure]
            simp
          · cases h
        · cases h
      · cases h
    · rename_i n e id off hd hx
      split at h
      · rename_i j fm cs hj ho
        have hxv := hρ x
        rw [hx] at hxv
        obtain ⟨hv, hid⟩ := hxv.ptr_inv
        obtain ⟨_, hblk⟩ := hr.obj id _ ho
        obtain ⟨c, ct, hb0, hcn, hcl⟩ := hblk rfl
        split at h
        · rename_i l u h1 h2 h3
          split at h
          · rename_i hc
            cases h
            obtain ⟨c1, c2, c3, c4⟩ := hc
            have hmx : mx = none := by cases mx <;> simp_all
            subst hmx
            have hb := fun w' => bounds_ok (P := P) (s := false) (len := n) (cap := n) (m := n) hρ h1 h2 (.inl ⟨rfl, rfl⟩) c1 (by omega) (Nat.le_refl _) w'
            refine ⟨.slice (some ⟨(φ.f id).b, (φ.f id).o + (off + l * j.size), none⟩) (u - l) (n - l), .sl id (off + l * j.size) (u - l) j.size _ (n - l) hid (by omega) (fun he => ?_) ?_, fun w' => ?_⟩
            · simp only [beq_iff_eq] at he; omega
            · have : l * j.size + (n - l) * j.size = n * j.size := by rw [← Nat.add_mul]; congr 1; omega
              omega
            · simp only [Instr.sliceAt, Sem.run_bind, run_und hT hi', hd, Result.andThen, hv, Instr.sureAddr, hb w', run_size hT hj, Sem.run_pure]
              by_cases hl : n = l
              · have hl0 : l = 0 := by omega
                have hn0 : n = 0 := by omega
                subst hl0; subst hn0
                simp
              · rw [if_neg hl]
                simp [hadd, Nat.add_assoc]
          · cases h
        · cases h
      · cases h
    · cases h
end
def placesA (T : Ti) : List Field → Option (List (Nat × Nat))
  | [] => some []
  | f :: fs => match T f.type, placesA T fs with
    | some i, some r => some ((f.offset, i.size) :: r)
    | _, _ => none
def buildA (T : Ti) (t : TypeId) (parts : List (Nat × AV)) : Option AV :=
  match T t with
  | none => none
  | some i => match i.desc with
    | .struct fs => match placesA T fs.toList with
      | some places => (fillA (fun k => places[k]?) (i.zero.map .lit) parts).map .agg
      | none => none
    | .array _ e => match T e with
      | some j => (fillA (fun k => some (k * j.size, j.size)) (i.zero.map .lit) parts).map .agg
      | none => none
    | _ => none
section
variable {P : Program} {T : Ti}
theorem places_ok (hT : TOk P T) : ∀ (fs : List Field) (places : List (Nat × Nat)), placesA T fs = some places → fs.mapM (fun f => (P.info? f.type).map fun i => (f.offset, i.size)) = some places
  | [], places, h => by simp only [placesA, Option.some.injEq] at h; subst h; rfl
  | f :: fs, places, h => by
    simp only [placesA] at h
    split at h
    · rename_i i r hi hr
      cases h
      obtain ⟨ti, z, h1, h2, _⟩ := (hT _ i hi).info
      simp [List.mapM_cons, h1, h2, places_ok hT fs r hr]
    · cases h
theorem build_ok (hT : TOk P T) {φ : Fi} {ρa : Operand → AV} {ρ : Operand → Value} (hρ : OpR φ ρa ρ) {t : TypeId} {parts : Array (Nat × Operand)} {r : AV} (h : buildA T t (parts.toList.map fun p => (p.1, ρa p.2)) = some r) :
    ∃ u, VR φ r u ∧ ∀ w, (Instr.build t (parts.map fun (i, x) => (i, ρ x))).run P w = .ok u w := by
  have hpm : (Array.map (fun (x : Nat × Operand) => (x.1, ρ x.2)) parts).toList = parts.toList.map fun p => (p.1, ρ p.2) := by simp
  unfold buildA at h
  split at h
  · cases h
  · rename_i i hi
    obtain ⟨ti, z, h1, h2, h3, h4, h5⟩ := (hT t i hi).info
    have hu := (hT t i hi).und
    have hzl : VRL φ (i.zero.map .lit) z.cells.toList := by rw [h5]; exact VRL.lits _
    split at h
    · rename_i fs hd
      split at h
      · rename_i places hp
        rw [Option.map_eq_some_iff] at h
        obtain ⟨cs, hf, rfl⟩ := h
        obtain ⟨rs, g1, g2⟩ := fill_ok hρ parts.toList hzl hf
        refine ⟨_, .agg g2, fun w => run_build w t _ _ ?_⟩
        rw [hd] at hu
        simp only [Program.built, h1, hu, h4, places_ok hT fs.toList places hp, hpm]
        simpa using g1
      · cases h
    · rename_i n e hd
      split at h
      · rename_i j hj
        rw [Option.map_eq_some_iff] at h
        obtain ⟨cs, hf, rfl⟩ := h
        obtain ⟨rs, g1, g2⟩ := fill_ok hρ parts.toList hzl hf
        obtain ⟨tj, zj, k1, k2, _⟩ := (hT e j hj).info
        refine ⟨_, .agg g2, fun w => run_build w t _ _ ?_⟩
        rw [hd] at hu
        simp only [Program.built, h1, hu, h4, k1, k2, hpm]
        simpa using g1
      · cases h
    · cases h
end
def eqFsA (T : Ti) (eq : TypeId → AV → AV → Option Bool) (xs ys : List AV) : List Field → Option Bool
  | [] => some true
  | f :: fs =>
    if f.name ≠ "_" then
      match partA T f.type xs f.offset, partA T f.type ys f.offset with
      | some a, some b => match eq f.type a b with
        | some true => eqFsA T eq xs ys fs
        | some false => some false
        | none => none
      | _, _ => none
    else eqFsA T eq xs ys fs
def eqIsA (T : Ti) (eq : TypeId → AV → AV → Option Bool) (e : TypeId) (sz : Nat) (xs ys : List AV) : List Nat → Option Bool
  | [] => some true
  | i :: is =>
    match partA T e xs (i * sz), partA T e ys (i * sz) with
    | some a, some b => match eq e a b with
      | some true => eqIsA T eq e sz xs ys is
      | some false => some false
      | none => none
    | _, _ => none
def boolOf : AV → Option Bool
  | .lit (.bool b) => some b
  | .sb b => some b
  | _ => none
theorem boolOf_ok {φ : Fi} {a : AV} {b : Bool} {u : Value} (h : boolOf a = some b) (hv : VR φ a u) : u = .bool b := by
  unfold boolOf at h
  split at h
  · cases h; exact hv.lit_inv
  · cases h; exact hv.sb_inv
  · cases h
def eqA (T : Ti) : Nat → TypeId → AV → AV → Option Bool
  | 0, _, _, _ => none
  | d + 1, t, a, b =>
    match T t with
    | none => none
    | some i => match i.desc, a, b with
      | .bool, a, b => match boolOf a, boolOf b with
        | some x, some y => some (x == y)
        | _, _ => none
      | .int _, .lit (.int k x), .lit (.int k' y) => if k = k' then some (x == y) else none
      | .struct fs, .agg xs, .agg ys => if i.flat then eqFsA T (eqA T d) xs ys fs.toList else none
      | .array n e, .agg xs, .agg ys => match T e with
        | some j => eqIsA T (eqA T d) e j.size xs ys (List.range n)
        | none => none
      | _, _, _ => none
section
variable {P : Program} {T : Ti}
theorem eqFs_ok (hT : TOk P T) {φ : Fi} {eq : TypeId → AV → AV → Option Bool} {D : Nat} (heq : ∀ t a b u v r, VR φ a u → VR φ b v → eq t a b = some r → ∀ w, (Op.equalIn D t u v).run P w = .ok r w)
    {xs ys : List AV} {us vs : List Value} (hx : VRL φ xs us) (hy : VRL φ ys vs) : ∀ (fs : List Field) (r : Bool), eqFsA T eq xs ys fs = some r → ∀ w, (Op.eqFields D us.toArray vs.toArray fs).run P w = .ok r w
  | [], r, h, w => by simp only [eqFsA, Option.some.injEq] at h; subst h; rfl
  | f :: fs, r, h, w => by
    simp only [eqFsA] at h
    simp only [Op.eqFields]
    split at h
    · rename_i hn
      rw [if_pos hn]
      split at h
      · rename_i a b ha hb
        obtain ⟨u, hu, hru⟩ := part_ok (P := P) hT hx ha
        obtain ⟨v, hv, hrv⟩ := part_ok (P := P) hT hy hb
        split at h
        · rename_i hq
          simp [Sem.run_bind, hru, hrv, heq _ _ _ _ _ _ hu hv hq w, Result.andThen, eqFs_ok hT heq hx hy fs r h w]
        · rename_i hq
          cases h
          simp [Sem.run_bind, hru, hrv, heq _ _ _ _ _ _ hu hv hq w, Result.andThen]
        · cases h
      · cases h
    · rename_i hn
      rw [if_neg hn]
      exact eqFs_ok hT heq hx hy fs r h w
theorem eqIs_ok (hT : TOk P T) {φ : Fi} {eq : TypeId → AV → AV → Option Bool} {D : Nat} (heq : ∀ t a b u v r, VR φ a u → VR φ b v → eq t a b = some r → ∀ w, (Op.equalIn D t u v).run P w = .ok r w)
    {e : TypeId} {sz : Nat} {xs ys : List AV} {us vs : List Value} (hx : VRL φ xs us) (hy : VRL φ ys vs) : ∀ (is : List Nat) (r : Bool), eqIsA T eq e sz xs ys is = some r → ∀ w, (Op.eqItems D e sz us.toArray vs.toArray is).run P w = .ok r w
  | [], r, h, w => by simp only [eqIsA, Option.some.injEq] at h; subst h; rfl
  | i :: is, r, h, w => by
    simp only [eqIsA] at h
    simp only [Op.eqItems]
    split at h
    · rename_i a b ha hb
      obtain ⟨u, hu, hru⟩ := part_ok (P := P) hT hx ha
      obtain ⟨v, hv, hrv⟩ := part_ok (P := P) hT hy hb
      split at h
      · rename_i hq
        simp [Sem.run_bind, hru, hrv, heq _ _ _ _ _ _ hu hv hq w, Result.andThen, eqIs_ok hT heq hx hy is r h w]
      · rename_i hq
        cases h
        simp [Sem.run_bind, hru, hrv, heq _ _ _ _ _ _ hu hv hq w, Result.andThen]
      · cases h
    · cases h
theorem eqA_ok (hT : TOk P T) {φ : Fi} : ∀ (d D : Nat) (t : TypeId) (a b : AV) (u v : Value) (r : Bool), d ≤ D → VR φ a u → VR φ b v → eqA T d t a b = some r → ∀ w, (Op.equalIn D t u v).run P w = .ok r w
  | 0, _, _, _, _, _, _, _, _, _, _, h => by cases h
  | d + 1, D, t, a, b, u, v, r, hD, ha, hb, h => by
    intro w
    obtain ⟨D', rfl⟩ : ∃ D', D = D' + 1 := ⟨D - 1, by omega⟩
    simp only [eqA] at h
    split at h
    · cases h
    · rename_i i hi
      have hu := (hT t i hi).und
      split at h
      · rename_i hd
        split at h
        · rename_i x y h1 h2
          obtain rfl := boolOf_ok h1 ha
          obtain rfl := boolOf_ok h2 hb
          cases h
          exact run_equalIn_bool' w D' t x y (by rw [hu, hd])
        · cases h
      · rename_i k0 k x k' y hd
        split at h
        · rename_i hk; subst hk
          obtain rfl := ha.lit_inv
          obtain rfl := hb.lit_inv
          cases h
          exact run_equalIn_int w D' t k k0 x y (by rw [hu, hd])
        · cases h
      · rename_i fs xs ys hd
        split at h
        · rename_i hf
          obtain ⟨us, rfl, hx⟩ := ha.agg_inv
          obtain ⟨vs, rfl, hy⟩ := hb.agg_inv
          have hfo : P.fieldsOf t = fs := by simp [Program.fieldsOf, hu, hd]
          rw [run_equalIn_struct w D' t _ _ (by rw [hfo, hu, hd]) ((hT t i hi).flat hf).1, hfo]
          exact eqFs_ok hT (fun t a b u v r h1 h2 h3 w => eqA_ok hT d D' t a b u v r (by omega) h1 h2 h3 w) hx hy fs.toList r h w
        · cases h
      · rename_i n e xs ys hd
        split at h
        · rename_i j hj
          obtain ⟨us, rfl, hx⟩ := ha.agg_inv
          obtain ⟨vs, rfl, hy⟩ := hb.agg_inv
          obtain ⟨tj, zj, k1, k2, _⟩ := (hT e j hj).info
          rw [Go.run_equalIn_array w D' _ _ (by rw [hu, hd]) k1]
          have hc : P.cellsOf e = j.size := by simp [Program.cellsOf, k1, k2]
          rw [hc]
          exact eqIs_ok hT (fun t a b u v r h1 h2 h3 w => eqA_ok hT d D' t a b u v r (by omega) h1 h2 h3 w) hx hy (List.range n) r h w
        · cases h
      · cases h
end
theorem eqA_agg {T : Ti} {φ : Fi} {t : TypeId} {i : TI} (hi : T t = some i) (hd : aggD i.desc = true) {d : Nat} {a b : AV} {u v : Value} {r : Bool} (ha : VR φ a u) (hb : VR φ b v) (h : eqA T d t a b = some r) :
    ∃ us vs, u = .agg us ∧ v = .agg vs := by
  cases d with
  | zero => cases h
  | succ d =>
    simp only [eqA, hi] at h
    split at h
    · rename_i hq; rw [hq] at hd; cases hd
    · rename_i hq; rw [hq] at hd; cases hd
    · obtain ⟨us, rfl, _⟩ := ha.agg_inv
      obtain ⟨vs, rfl, _⟩ := hb.agg_inv
      exact ⟨_, _, rfl, rfl⟩
    · obtain ⟨us, rfl, _⟩ := ha.agg_inv
      obtain ⟨vs, rfl, _⟩ := hb.agg_inv
      exact ⟨_, _, rfl, rfl⟩
    · cases h
def boolPair (T : Ti) (t : TypeId) (a b : AV) : Option (Bool × Bool) := match T t with
  | some i => match i.desc with
    | .bool => match boolOf a, boolOf b with
      | some x, some y => some (x, y)
      | _, _ => none
    | _ => none
  | none => none
def evG (T : Ti) (h : Hp) (ρ : Operand → AV) (o : Oper) : Option AV :=
  match o.op with
  | .slice t x lo hi mx => sliceA T h t (ρ x) (lo.map ρ) (hi.map ρ) (mx.map ρ)
  | .build t parts => buildA T t (parts.toList.map fun p => (p.1, ρ p.2))
  | .binOp .eql t x y _ => match boolPair T t (ρ x) (ρ y) with
    | some (a, c) => some (.sb (a == c))
    | none => match T t with
    | some i => if i.flat && aggD i.desc then (eqA T 6 t (ρ x) (ρ y)).map fun b => .sb b else evL T h ρ o
    | none => evL T h ρ o
  | .binOp .neq t x y _ => match boolPair T t (ρ x) (ρ y) with
    | some (a, c) => some (.sb (a != c))
    | none => match T t with
    | some i => if i.flat && aggD i.desc then (eqA T 6 t (ρ x) (ρ y)).map fun b => .sb !b else evL T h ρ o
    | none => evL T h ρ o
  | _ => evL T h ρ o
section
variable {P : Program} {T : Ti}
theorem boolPair_ok (hT : TOk P T) {φ : Fi} {t : TypeId} {a b : AV} {u v : Value} {p : Bool × Bool} (ha : VR φ a u) (hb : VR φ b v) (h : boolPair T t a b = some p) :
    u = .bool p.1 ∧ v = .bool p.2 ∧ ∀ w, (Op.equal t u v).run P w = .ok (p.1 == p.2) w := by
  unfold boolPair at h
  split at h
  · rename_i i hi
    split at h
    · rename_i hd
      split at h
      · rename_i x y hx hy
        cases h
        obtain rfl := boolOf_ok hx ha
        obtain rfl := boolOf_ok hy hb
        refine ⟨rfl, rfl, fun w => ?_⟩
        exact eqA_ok (P := P) hT 1 _ t (.lit (.bool x)) (.lit (.bool y)) _ _ _ (by decide) (.lit (φ := φ) _) (.lit _) (by simp [eqA, hi, hd, boolOf]) w
      · cases h
    · cases h
  · cases h
theorem evG_ok (hT : TOk P T) {φ : Fi} {st : St} {w : World} {ρa : Operand → AV} {ρ : Operand → Value} {o : Oper} {r : AV} (hr : Rel φ st w) (hρ : OpR φ ρa ρ) (h : evG T st.h ρa o = some r) :
    ∃ u, VR φ r u ∧ ∀ w', Same φ st.h w w' → (execOp ρ o).run P w' = .ok (.value u) w' := by
  unfold evG at h
  split at h
  · rename_i t x lo hi mx hx
    obtain ⟨u, h1, h2⟩ := slice_ok (P := P) hT hr hρ h
    exact ⟨u, h1, fun w' _ => by simp [execOp, hx, h2 w', Result.andThen]⟩
  · rename_i t parts hx
    obtain ⟨u, h1, h2⟩ := build_ok (P := P) hT hρ h
    exact ⟨u, h1, fun w' _ => by simp only [execOp, hx, Sem.run_bind, h2 w', Result.andThen, Sem.run_pure]⟩
  · rename_i t x y yt hx
    split at h
    · rename_i a c hbp
      cases h
      obtain ⟨h1, h2, h3⟩ := boolPair_ok (P := P) hT (hρ x) (hρ y) hbp
      simp only at h1 h2 h3
      refine ⟨_, .sb _, fun w' _ => ?_⟩
      have h4 := h3 w'
      rw [h1, h2] at h4
      have hg : (eqGuard .eql t x y (.bool a) (.bool c)).run P w' = .ok () w' := by
        unfold eqGuard
        split <;> simp
      simp [execOp, hx, h1, h2, Sem.run_bind, hg, binOp, h4, Result.andThen, bne]
    split at h
    · rename_i i hi
      split at h
      · rename_i hf
        simp only [Bool.and_eq_true] at hf
        rw [Option.map_eq_some_iff] at h
        obtain ⟨b, hb, rfl⟩ := h
        obtain ⟨us, vs, hu, hv⟩ := eqA_agg hi hf.2 (hρ x) (hρ y) hb
        have hq := eqA_ok (P := P) hT 6 10000 t _ _ _ _ b (by omega) (hρ x) (hρ y) hb
        refine ⟨.bool b, .sb _, fun w' _ => ?_⟩
        rw [hu, hv] at hq
        simp [execOp, hx, Sem.run_bind, hu, hv, run_eqGuard_agg w' _ t x y us vs ((hT t i hi).flat hf.1).2, run_eql_struct, hq w', Result.andThen]
      · exact evL_ok hT hr hρ h
    · exact evL_ok hT hr hρ h
  · rename_i t x y yt hx
    split at h
    · rename_i a c hbp
      cases h
      obtain ⟨h1, h2, h3⟩ := boolPair_ok (P := P) hT (hρ x) (hρ y) hbp
      simp only at h1 h2 h3
      refine ⟨_, .sb _, fun w' _ => ?_⟩
      have h4 := h3 w'
      rw [h1, h2] at h4
      have hg : (eqGuard .neq t x y (.bool a) (.bool c)).run P w' = .ok () w' := by
        unfold eqGuard
        split <;> simp
      simp [execOp, hx, h1, h2, Sem.run_bind, hg, binOp, h4, Result.andThen, bne]
    split at h
    · rename_i i hi
      split at h
      · rename_i hf
        simp only [Bool.and_eq_true] at hf
        rw [Option.map_eq_some_iff] at h
        obtain ⟨b, hb, rfl⟩ := h
        obtain ⟨us, vs, hu, hv⟩ := eqA_agg hi hf.2 (hρ x) (hρ y) hb
        have hq := eqA_ok (P := P) hT 6 10000 t _ _ _ _ b (by omega) (hρ x) (hρ y) hb
        refine ⟨.bool !b, .sb _, fun w' _ => ?_⟩
        rw [hu, hv] at hq
        simp [execOp, hx, Sem.run_bind, hu, hv, run_eqGuard_agg w' _ t x y us vs ((hT t i hi).flat hf.1).2, run_neq_struct, hq w', Result.andThen]
      · exact evL_ok hT hr hρ h
    · exact evL_ok hT hr hρ h
  · exact evL_ok hT hr hρ h
end
end Go.Fz
namespace Go.Fz
structure Fm where
  ts : Ts
  dm : List Nat
def Fm.put (f : Fm) (dst : Option Tmp) (v : AV) : Fm :=
  match dst with
  | some d => ⟨f.ts.put d v, f.dm⟩
  | none => f
structure ActR (φ : Fi) (f : Fm) (a : Act) : Prop where
  ts : TsR φ f.ts a.tmps
  dm : a.defers = f.dm.map fun id => { target := .collected (φ.f id).b, args := #[] }
  lt : ∀ id ∈ f.dm, id < φ.n
theorem ActR.mono {φ φ' : Fi} {f : Fm} {a : Act} (he : Ext φ φ') (h : ActR φ f a) : ActR φ' f a :=
  ⟨h.ts.mono he, by rw [h.dm]; exact List.map_congr_left fun id hi => by rw [he.f id (h.lt id hi)], fun id hi => Nat.lt_of_lt_of_le (h.lt id hi) he.n⟩
theorem ActR.put {φ : Fi} {f : Fm} {a : Act} (h : ActR φ f a) (dst : Option Tmp) {v : AV} {u : Value} (hv : VR φ v u) : ActR φ (f.put dst v) (a.put dst u) := by
  cases dst with
  | none => exact h
  | some d => exact ⟨h.ts.put d hv, h.dm, h.lt⟩
def FW (r : Option Nat) : Fence := { fn := fun _ => True, depth := none, alive := false, round := r }
def rdB (φ : Fi) (rd : Option Nat) : Option Nat := rd.map fun id => (φ.f id).b
theorem rdB_ext {φ φ' : Fi} (he : Ext φ φ') {rd : Option Nat} (h : ∀ id, rd = some id → id < φ.n) : rdB φ' rd = rdB φ rd := by
  cases rd with
  | none => rfl
  | some id => simp [rdB, he.f id (h id rfl)]
def Lift (φ : Fi) (st : St) (w : World) (Q : Exit → Fm → St → Prop) : Exit → Act → World → Prop :=
  fun e a w' => ∃ f' st' φ', Q e f' st' ∧ Ext φ φ' ∧ Rel φ' st' w' ∧ ActR φ' f' a ∧ Fr φ st w φ' st' w'
theorem Lift.trans {φ φ' : Fi} {st st' : St} {w w' : World} {Q : Exit → Fm → St → Prop} {e : Exit} {a : Act} {w'' : World} (he : Ext φ φ') (hf : Fr φ st w φ' st' w') (h : Lift φ' st' w' Q e a w'') : Lift φ st w Q e a w'' := by
  obtain ⟨f2, st2, φ2, hq, he2, hr2, ha2, hf2⟩ := h
  exact ⟨f2, st2, φ2, hq, he.trans he2, hr2, ha2, hf.trans hf2⟩
variable (P : Program) (T : Ti)
def SW (rd : Option Nat) (c : Code) (Q : Exit → Fm → St → Prop) (f : Fm) (st : St) : Prop :=
  ∀ (φ : Fi) (w : World) (a : Act) (n : Nat), (∀ id, rd = some id → id < φ.n) → Rel φ st w → ActR φ f a → c.wpIn (FW (rdB φ rd)) n P (Lift φ st w Q) a w
def OpsW (rd : Option Nat) (ops : Array Oper) (l : List Nat) (K : Fm → St → Prop) (f : Fm) (st : St) : Prop :=
  ∀ (φ : Fi) (w : World) (a : Act) (n : Nat) (Q : Exit → Act → World → Prop), (∀ id, rd = some id → id < φ.n) → Rel φ st w → ActR φ f a →
    (∀ a' w', Lift φ st w (fun _ f' st' => K f' st') .normal a' w' → Q .normal a' w') → wpOpsIn (FW (rdB φ rd)) n P ops Q l a w
variable {P T}
theorem SW.mono {rd : Option Nat} {c : Code} {Q Q' : Exit → Fm → St → Prop} {f : Fm} {st : St} (h : SW P rd c Q f st) (hq : ∀ e f st, Q e f st → Q' e f st) : SW P rd c Q' f st :=
  fun φ w a n h1 h2 h3 => wpIn_mono (h φ w a n h1 h2 h3) fun _ _ _ ⟨f', st', φ', k, r⟩ => ⟨f', st', φ', hq _ _ _ k, r⟩
theorem Lift.here {φ : Fi} {st : St} {w : World} {Q : Exit → Fm → St → Prop} {e : Exit} {f : Fm} {a : Act} (hq : Q e f st) (hr : Rel φ st w) (ha : ActR φ f a) : Lift φ st w Q e a w :=
  ⟨f, st, φ, hq, Ext.refl _, hr, ha, Fr.refl _ _ _⟩
theorem SW.skip {rd : Option Nat} {Q : Exit → Fm → St → Prop} {f : Fm} {st : St} (h : Q .normal f st) : SW P rd .skip Q f st :=
  fun _ _ _ _ _ h2 h3 => wpIn_skip (Lift.here h h2 h3)
theorem SW.label {rd : Option Nat} {l : Nat} {Q : Exit → Fm → St → Prop} {f : Fm} {st : St} (h : Q .normal f st) : SW P rd (.label l) Q f st :=
  fun _ _ _ _ _ h2 h3 => wpIn_label (Lift.here h h2 h3)
theorem SW.exit {rd : Option Nat} {id : Nat} {Q : Exit → Fm → St → Prop} {f : Fm} {st : St} (h : Q (.exit id) f st) : SW P rd (.exit id) Q f st :=
  fun _ _ _ _ _ h2 h3 => wpIn_exit (Lift.here h h2 h3)
theorem SW.ret {rd : Option Nat} {Q : Exit → Fm → St → Prop} {f : Fm} {st : St} (h : Q .ret f st) : SW P rd .ret Q f st :=
  fun _ _ _ _ _ h2 h3 => wpIn_ret (Lift.here h h2 h3)
def thenQ (K : Fm → St → Prop) (Q : Exit → Fm → St → Prop) : Exit → Fm → St → Prop
  | .normal, f, st => K f st
  | e, f, st => Q e f st
theorem SW.seq {rd : Option Nat} {x y : Code} {Q : Exit → Fm → St → Prop} {f : Fm} {st : St} (h : SW P rd x (thenQ (SW P rd y Q) Q) f st) : SW P rd (.seq x y) Q f st := by
  intro φ w a n h1 h2 h3
  refine wpIn_seq (wpIn_mono (h φ w a n h1 h2 h3) fun e a' w' hq => ?_)
  obtain ⟨f', st', φ', k, he, hr, ha, hf⟩ := hq
  cases e with
  | normal =>
    have := k φ' w' a' n (fun id hi => Nat.lt_of_lt_of_le (h1 id hi) he.n) hr ha
    rw [rdB_ext he h1] at this
    exact wpIn_mono this fun e a w h => h.trans he hf
  | exit id => exact ⟨f', st', φ', k, he, hr, ha, hf⟩
  | goto id => exact ⟨f', st', φ', k, he, hr, ha, hf⟩
  | ret => exact ⟨f', st', φ', k, he, hr, ha, hf⟩
  | panic c => exact ⟨f', st', φ', k, he, hr, ha, hf⟩
  | outgrown => exact ⟨f', st', φ', k, he, hr, ha, hf⟩
theorem eval_bool {φ : Fi} {f : Fm} {a : Act} (h : ActR φ f a) {c : Operand} {t : Bool} (hc : Operand.av f.ts c = .lit (.bool t)) : a.eval c = .bool t := by
  have := opR_of h.ts c
  rw [hc] at this
  exact this.lit_inv
theorem SW.cond {rd : Option Nat} {c : Operand} {x y : Code} {t : Bool} {Q : Exit → Fm → St → Prop} {f : Fm} {st : St} (hc : Operand.av f.ts c = .lit (.bool t)) (h : SW P rd (if t then x else y) Q f st) : SW P rd (.cond c x y) Q f st :=
  fun φ w a n h1 h2 h3 => wpIn_cond (eval_bool h3 hc) (h φ w a n h1 h2 h3)
theorem SW.condS {rd : Option Nat} {c : Operand} {x y : Code} {t : Bool} {Q : Exit → Fm → St → Prop} {f : Fm} {st : St} (hc : boolOf (Operand.av f.ts c) = some t) (h1 : t = true → SW P rd x Q f st) (h0 : t = false → SW P rd y Q f st) : SW P rd (.cond c x y) Q f st :=
  fun φ w a n k1 k2 k3 => by
    have he : a.eval c = .bool t := boolOf_ok hc (opR_of k3.ts c)
    exact wpIn_cond he (by cases t; exact h0 rfl φ w a n k1 k2 k3; exact h1 rfl φ w a n k1 k2 k3)
def blockQ (id : Nat) (Q : Exit → Fm → St → Prop) : Exit → Fm → St → Prop
  | .exit id', f, st => match Nat.beq id' id with
    | true => Q .normal f st
    | false => Q (.exit id') f st
  | e, f, st => Q e f st
theorem SW.block {rd : Option Nat} {id : Nat} {c : Code} {Q : Exit → Fm → St → Prop} {f : Fm} {st : St} (h : SW P rd c (blockQ id Q) f st) : SW P rd (.block id c) Q f st := by
  intro φ w a n h1 h2 h3
  refine wpIn_block (wpIn_mono (h φ w a n h1 h2 h3) fun e a' w' hq => ?_)
  obtain ⟨f', st', φ', k, r⟩ := hq
  cases e with
  | exit id' =>
    simp only [blockQ, Exit.inBlock] at k ⊢
    split
    · rename_i hid
      have hb : Nat.beq id' id = true := by rw [hid]; exact Nat.beq_refl id
      rw [hb] at k
      exact ⟨f', st', φ', k, r⟩
    · rename_i hid
      have hb : Nat.beq id' id = false := by rw [← Bool.not_eq_true]; exact fun h => hid (Nat.eq_of_beq_eq_true h)
      rw [hb] at k
      exact ⟨f', st', φ', k, r⟩
  | normal => exact ⟨f', st', φ', k, r⟩
  | goto id => exact ⟨f', st', φ', k, r⟩
  | ret => exact ⟨f', st', φ', k, r⟩
  | panic c => exact ⟨f', st', φ', k, r⟩
  | outgrown => exact ⟨f', st', φ', k, r⟩
theorem SW.loop {rd : Option Nat} {c : Code} {Q : Exit → Fm → St → Prop} {f : Fm} {st : St} (I : Nat → Fm → St → Prop) (k : Nat) (h0 : I k f st)
    (hround : ∀ k f st, I k f st → SW P rd c (thenQ (fun f' st' => ∃ k', k' < k ∧ I k' f' st') Q) f st) : SW P rd (.loop c) Q f st := by
  intro φ w a n h1 h2 h3
  let J : Nat → Act → World → Prop := fun k a' w' => ∃ f' st' φ', I k f' st' ∧ Ext φ φ' ∧ Rel φ' st' w' ∧ ActR φ' f' a' ∧ Fr φ st w φ' st' w'
  intro b kk cs hro hb hroom
  have key : ∀ k a' w', J k a' w' → ∃ e a₂ w₂, Lift φ st w Q e a₂ w₂ ∧ ArrivesIn (Machine.fenced P (FW (rdB φ rd))) P (lone (b.atR a' (.code c :: .inLoop c :: kk)) cs w') b kk cs e a₂ w₂ := by
    intro k
    induction k using Nat.strongRecOn with
    | _ k ih =>
      intro a' w' hj
      obtain ⟨f', st', φ', hi, he, hr, ha, hf⟩ := hj
      have hr1 := hround k f' st' hi φ' w' a' n (fun id hi => Nat.lt_of_lt_of_le (h1 id hi) he.n) hr ha
      rw [rdB_ext he h1] at hr1
      obtain ⟨e, a₁, w₁, hq, harr⟩ := hr1 b (.inLoop c :: kk) cs hro hb hroom
      obtain ⟨f2, st2, φ2, hk, he2, hr2, ha2, hf2⟩ := hq
      cases e with
      | normal =>
        obtain ⟨k', hlt, hi'⟩ := hk
        obtain ⟨e₂, a₂, w₂, hq₂, harr₂⟩ := ih k' hlt a₁ w₁ ⟨f2, st2, φ2, hi', he.trans he2, hr2, ha2, hf.trans hf2⟩
        exact ⟨e₂, a₂, w₂, hq₂, .of_steps (StepsIn.trans harr (.one (fenced_calm hb hroom rfl) stepR_inLoop)) harr₂⟩
      | exit id => exact ⟨_, a₁, w₁, ⟨f2, st2, φ2, hk, he.trans he2, hr2, ha2, hf.trans hf2⟩, .pass (x := .inLoop c) rfl (fun _ _ => .inl (by simp)) harr⟩
      | goto l => exact ⟨_, a₁, w₁, ⟨f2, st2, φ2, hk, he.trans he2, hr2, ha2, hf.trans hf2⟩, .pass (x := .inLoop c) rfl (fun _ _ => .inl (by simp)) harr⟩
      | ret => exact ⟨_, a₁, w₁, ⟨f2, st2, φ2, hk, he.trans he2, hr2, ha2, hf.trans hf2⟩, .pass (x := .inLoop c) rfl (fun _ _ => .inl (by simp)) harr⟩
      | panic ch => exact ⟨_, a₁, w₁, ⟨f2, st2, φ2, hk, he.trans he2, hr2, ha2, hf.trans hf2⟩, .pass (x := .inLoop c) rfl (fun _ _ => .inl (by simp)) harr⟩
      | outgrown => exact ⟨_, a₁, w₁, ⟨f2, st2, φ2, hk, he.trans he2, hr2, ha2, hf.trans hf2⟩, .pass (x := .inLoop c) rfl (fun _ _ => .inl (by simp)) harr⟩
  obtain ⟨e, a', w', hq, harr⟩ := key k a w ⟨f, st, φ, h0, Ext.refl _, h2, h3, Fr.refl _ _ _⟩
  exact ⟨e, a', w', hq, .of_steps (.one (fenced_calm hb hroom rfl) stepR_loop) harr⟩
def yA (ops : Array Oper) (ts : Ts) (j : Nat) : Option (Option Bool) :=
  match (ops[j]?).bind (·.dst) with
  | some d => match ts.get d with
    | .lit (.bool b) => some (some b)
    | .lit (.tuple _) => some none
    | _ => none
  | none => none
def wantA (ops : Array Oper) (ts : Ts) (o : Oper) : Option Bool :=
  match o.guard with
  | none => some true
  | some (j, b) => match yA ops ts j with
    | some (some c) => some (c == b)
    | some none => some false
    | none => none
theorem yielded_eq {φ : Fi} {f : Fm} {a : Act} (h : ActR φ f a) (ops : Array Oper) {j : Nat} {b : Option Bool} (hy : yA ops f.ts j = some b) : yielded ops a.tmps j = b := by
  unfold yA at hy
  unfold yielded
  cases hd : (ops[j]?).bind (·.dst) with
  | none => simp [hd] at hy
  | some d =>
    simp only [hd] at hy
    have hg := h.ts.get d
    split at hy
    · rename_i c hq
      cases hy
      rw [hq] at hg
      have := hg.lit_inv
      simp only [Option.bind_some]
      cases ht : a.tmps[d]? with
      | none => simp [Array.getD_eq_getD_getElem?, ht] at this
      | some u => simp [Array.getD_eq_getD_getElem?, ht] at this; rw [this]
    · rename_i c hq
      cases hy
      rw [hq] at hg
      have := hg.lit_inv
      simp only [Option.bind_some]
      cases ht : a.tmps[d]? with
      | none => rfl
      | some u => simp [Array.getD_eq_getD_getElem?, ht] at this; rw [this]
    · cases hy
theorem wanted_eq {φ : Fi} {f : Fm} {a : Act} (h : ActR φ f a) (ops : Array Oper) {o : Oper} {b : Bool} (hw : wantA ops f.ts o = some b) : Region.wanted o (yielded ops a.tmps) = b := by
  unfold wantA at hw
  unfold Region.wanted
  split at hw
  · rename_i hg; cases hw; rw [hg]
  · rename_i j c hg
    rw [hg]
    split at hw
    · rename_i d hy
      cases hw
      have := yielded_eq h ops hy
      simp [this]
    · rename_i hy
      cases hw
      have := yielded_eq h ops hy
      simp [this]
    · cases hw
theorem semAt_eq {o : Oper} (h : ∀ c, o.op ≠ .defer c) (ro : Option Nat) (ρ : Operand → Value) : o.semAt ro ρ = execOp ρ o := by
  unfold Oper.semAt
  split
  · rename_i l c hc; exact absurd hc (h c)
  · rfl
theorem OpsW.nil {rd : Option Nat} {ops : Array Oper} {K : Fm → St → Prop} {f : Fm} {st : St} (h : K f st) : OpsW P rd ops [] K f st :=
  fun _ _ _ _ _ _ h2 h3 hQ => hQ _ _ (Lift.here h h2 h3)
theorem OpsW.skip {rd : Option Nat} {ops : Array Oper} {i : Nat} {l : List Nat} {K : Fm → St → Prop} {f : Fm} {st : St} {o : Oper} (ho : ops[i]? = some o) (hw : wantA ops f.ts o = some false)
    (h : OpsW P rd ops l K (f.put o.dst undA) st) : OpsW P rd ops (i :: l) K f st := by
  intro φ w a n Q h1 h2 h3 hQ
  simp only [wpOpsIn, ho]
  rw [wanted_eq h3 ops hw]
  simp only [Bool.false_eq_true, if_false]
  exact ⟨fun _ _ => trivial, h φ w _ n Q h1 h2 (h3.put o.dst (.lit _)) hQ⟩
theorem OpsW.skipE {rd : Option Nat} {ops : Array Oper} {i : Nat} {l : List Nat} {K : Fm → St → Prop} {f : Fm} {st : St} {o : Oper} {r : AV} (ho : ops[i]? = some o) (hw : wantA ops f.ts o = some false) (he : Eqv undA r)
    (h : OpsW P rd ops l K (f.put o.dst r) st) : OpsW P rd ops (i :: l) K f st := by
  intro φ w a n Q h1 h2 h3 hQ
  simp only [wpOpsIn, ho]
  rw [wanted_eq h3 ops hw]
  simp only [Bool.false_eq_true, if_false]
  exact ⟨fun _ _ => trivial, h φ w _ n Q h1 h2 (h3.put o.dst (he _ _ (.lit _))) hQ⟩
theorem OpsW.value {rd : Option Nat} {ops : Array Oper} {i : Nat} {l : List Nat} {K : Fm → St → Prop} {f : Fm} {st st' : St} {o : Oper} {r : AV} (ho : ops[i]? = some o) (hw : wantA ops f.ts o = some true) (hd : ∀ c, o.op ≠ .defer c)
    (hrun : ∀ (φ : Fi) (w : World) (a : Act), Rel φ st w → ActR φ f a → ∃ φ' w' u, ((execOp a.eval o).run P w = .ok (.value u) w' ∨ ((execOp a.eval o).run P w = .ok .skip w' ∧ u = undef)) ∧ VR φ' r u ∧ Rel φ' st' w' ∧ Ext φ φ' ∧ Fr φ st w φ' st' w')
    (h : OpsW P rd ops l K (f.put o.dst r) st') : OpsW P rd ops (i :: l) K f st := by
  intro φ w a n Q h1 h2 h3 hQ
  simp only [wpOpsIn, ho]
  rw [wanted_eq h3 ops hw]
  simp only [if_true]
  refine ⟨fun _ _ => trivial, ?_⟩
  rw [semAt_eq hd]
  obtain ⟨φ', w', u, hr, hv, hrel, he, hf⟩ := hrun φ w a h2 h3
  have h4 := h φ' w' (a.put o.dst u) n Q (fun id hi => Nat.lt_of_lt_of_le (h1 id hi) he.n) hrel ((h3.mono he).put o.dst hv) (fun a' w'' hl => hQ a' w'' (hl.trans he hf))
  rw [rdB_ext he h1] at h4
  rcases hr with hr | ⟨hr, rfl⟩
  · rw [hr]; exact h4
  · rw [hr]; exact h4
theorem evG_ne_defer {T : Ti} {h : Hp} {ρ : Operand → AV} {o : Oper} {r : AV} (he : evG T h ρ o = some r) (c : Call) : o.op ≠ .defer c := by
  intro hc; unfold evG at he; simp only [hc] at he; unfold evL at he; simp only [hc] at he; cases he
theorem OpsW.light (hT : TOk P T) {rd : Option Nat} {ops : Array Oper} {i : Nat} {l : List Nat} {K : Fm → St → Prop} {f : Fm} {st : St} {o : Oper} {r : AV} (ho : ops[i]? = some o) (hw : wantA ops f.ts o = some true)
    (hr : evG T st.h (Operand.av f.ts) o = some r) (h : OpsW P rd ops l K (f.put o.dst r) st) : OpsW P rd ops (i :: l) K f st :=
  OpsW.value ho hw (evG_ne_defer hr) (fun φ w a h2 h3 => by
    obtain ⟨u, h4, h5⟩ := evG_ok (P := P) hT h2 (opR_of h3.ts) hr
    exact ⟨φ, w, u, .inl (h5 w (Same.refl _ _ _)), h4, h2, Ext.refl _, Fr.refl _ _ _⟩) h
theorem OpsW.lightE (hT : TOk P T) {rd : Option Nat} {ops : Array Oper} {i : Nat} {l : List Nat} {K : Fm → St → Prop} {f : Fm} {st : St} {o : Oper} {r0 r : AV} (ho : ops[i]? = some o) (hw : wantA ops f.ts o = some true)
    (hr : evG T st.h (Operand.av f.ts) o = some r0) (he : Eqv r0 r) (h : OpsW P rd ops l K (f.put o.dst r) st) : OpsW P rd ops (i :: l) K f st :=
  OpsW.value ho hw (evG_ne_defer hr) (fun φ w a h2 h3 => by
    obtain ⟨u, h4, h5⟩ := evG_ok (P := P) hT h2 (opR_of h3.ts) hr
    exact ⟨φ, w, u, .inl (h5 w (Same.refl _ _ _)), he _ _ h4, h2, Ext.refl _, Fr.refl _ _ _⟩) h
theorem OpsW.fresh (hT : TOk P T) {rd : Option Nat} {ops : Array Oper} {i : Nat} {l : List Nat} {K : Fm → St → Prop} {f : Fm} {st : St} {o : Oper} {r : AV} {cs : List AV} (ho : ops[i]? = some o) (hw : wantA ops f.ts o = some true)
    (hr : evF T st.n (Operand.av f.ts) o = some (r, cs)) (h : OpsW P rd ops l K (f.put o.dst r) (st.push (.cells none false cs))) : OpsW P rd ops (i :: l) K f st :=
  OpsW.value ho hw (fun c hc => by unfold evF at hr; simp only [hc] at hr; cases hr) (fun φ w a h2 h3 => by
    rw [← h2.n] at hr
    obtain ⟨c, t, h4, h5⟩ := evF_ok (P := P) hT (opR_of h3.ts) hr
    obtain ⟨u, h6, h7⟩ := h5 w
    have := h2.push (.cells c t) (.cells none false cs) ⟨w.heap.size, 0, c.size⟩ rfl (ObjR.new (rest := []) h4 c (by simp) t) (fun f hf => by cases hf)
    exact ⟨_, _, u, .inl h6, h7, this.1, φ.push_ext _, this.2⟩) h
def storeO (T : Ti) (st : St) (ρ : Operand → AV) (o : Oper) : Option St :=
  match o.op with
  | .store t p x => storeA T st t (ρ p) (ρ x)
  | _ => none
theorem OpsW.store (hT : TOk P T) {rd : Option Nat} {ops : Array Oper} {i : Nat} {l : List Nat} {K : Fm → St → Prop} {f : Fm} {st st' : St} {o : Oper} (ho : ops[i]? = some o) (hw : wantA ops f.ts o = some true)
    (hr : storeO T st (Operand.av f.ts) o = some st') (h : OpsW P rd ops l K (f.put o.dst undA) st') : OpsW P rd ops (i :: l) K f st := by
  unfold storeO at hr
  split at hr
  · rename_i t p x hx
    refine OpsW.value ho hw (fun c hc => by rw [hx] at hc; cases hc) (fun φ w a h2 h3 => ?_) h
    obtain ⟨w', h4, h5, h6, h7⟩ := store_ok (P := P) hT h2 (opR_of h3.ts p) (opR_of h3.ts x) hr
    exact ⟨φ, w', undef, .inr ⟨by simp [execOp, hx, h4, Result.andThen], rfl⟩, .lit _, h5, Ext.refl _, h6⟩
  · cases hr
def appendO (T : Ti) (st : St) (ρ : Operand → AV) (o : Oper) : Option (AV × St) :=
  match o.op with
  | .call c => match c.callee, c.args.toList, c.argTypes.toList with
    | .builtin .append, [s, x], [t, xt] => appendA T st t xt (ρ s) (ρ x)
    | _, _, _ => none
  | _ => none
theorem OpsW.append (hT : TOk P T) {rd : Option Nat} {ops : Array Oper} {i : Nat} {l : List Nat} {K : Fm → St → Prop} {f : Fm} {st st' : St} {o : Oper} {r : AV} (ho : ops[i]? = some o) (hw : wantA ops f.ts o = some true)
    (hr : appendO T st (Operand.av f.ts) o = some (r, st')) (h : OpsW P rd ops l K (f.put o.dst r) st') : OpsW P rd ops (i :: l) K f st := by
  unfold appendO at hr
  split at hr
  · rename_i c hx
    split at hr
    · rename_i s x t xt hc ha ht
      have ha' : c.args = #[s, x] := by cases hq : c.args; simp_all
      have ht' : c.argTypes = #[t, xt] := by cases hq : c.argTypes; simp_all
      refine OpsW.value ho hw (fun c hc => by rw [hx] at hc; cases hc) (fun φ w a h2 h3 => ?_) h
      obtain ⟨φ', w', v, h4, h5, h6, h7, h8⟩ := append_ok (P := P) (ty := o.type) hT h2 (opR_of h3.ts s) (opR_of h3.ts x) hr
      refine ⟨φ', w', v, .inl ?_, h5, h6, h7, h8⟩
      simp [execOp, hx, resolve, hc, ha', ht', invoke, builtin, h4, Result.andThen]
    · cases hr
  · cases hr
theorem SW.region {rd : Option Nat} {id : Nat} {ops : Array Oper} {Q : Exit → Fm → St → Prop} {f : Fm} {st : St} (h : OpsW P rd ops (List.range ops.size) (fun f st => Q .normal f st) f st) : SW P rd (.region id ops false) Q f st :=
  fun φ w a n h1 h2 h3 => wpIn_region (h φ w a n (Lift φ st w Q) h1 h2 h3 fun _ _ hl => hl)
end Go.Fz
