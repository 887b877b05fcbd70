/-
  APPEND, and cuts of slices and arrays. Own work of the verifier of watercress.
-/
import Derived.Test.YtmoimpajiajacaaEvC
namespace Go.Ev

def trunc1 (f X : Nat) (b : Bool) : AObj → AObj
  | .cells fm ro cs => if fm = some f ∨ b = true then .cells (some f) ro (cs.take X) else .cells fm ro cs
  | o => o
/-- Object id is appended to behind its first X cells: whatever may share its memory keeps these alone. -/
def truncH (f X id : Nat) : Hp → Hp
  | [] => []
  | (j, o) :: r => (j, trunc1 f X (j == id) o) :: truncH f X id r
theorem truncH_get (f X id : Nat) (h : Hp) (j : Nat) : (truncH f X id h).get j = (h.get j).map (trunc1 f X (j == id)) := by
  induction h with
  | nil => rfl
  | cons p r ih =>
    obtain ⟨i, o⟩ := p
    by_cases hi : i = j
    · subst hi; simp [truncH, Hp.get]
    · simp [truncH, Hp.get, hi, ih]

theorem trunc1_own (f X : Nat) (b : Bool) (o : AObj) : (trunc1 f X b o).own = o.own := by
  cases o <;> simp only [trunc1] <;> try rfl
  split <;> rfl
theorem trunc1_fam (f X : Nat) (b : Bool) (o : AObj) {g : Nat} (h : o.fam = some g) (hb : b = true → g = f) : (trunc1 f X b o).fam = some g := by
  cases o with
  | cells fm ro cs =>
    simp only [AObj.fam] at h
    subst h
    simp only [trunc1]
    split
    · rename_i hc
      rcases hc with hc | hc
      · cases hc; rfl
      · rw [hb hc]; rfl
    · rfl
  | loop r => cases h
  | dfr => cases h
  | map es clock => cases h
  | iter mid since seen last => cases h

theorem ObjR.take {φ : Fi} {w : World} {id : Nat} {fm fm' : Option Nat} {ro : Bool} {cs : List AV} (X : Nat) (h : ObjR φ w id (.cells fm ro cs)) : ObjR φ w id (.cells fm' ro (cs.take X)) := by
  refine ⟨fun i a ha => h.1 i a ?_, fun hro => ?_⟩
  · rw [List.getElem?_take] at ha
    split at ha
    · exact ha
    · cases ha
  · obtain ⟨c, t, h1, h2, h3⟩ := h.2 hro
    exact ⟨c, t, h1, h2, by simp only [List.length_take]; omega⟩

theorem Rel.trunc {φ : Fi} {st : St} {w : World} (hr : Rel φ st w) {id : Nat} {fm : Option Nat} {cs : List AV} (ho : st.h.get id = some (.cells fm false cs)) (X : Nat) :
    Rel φ ⟨truncH (fm.getD id) X id st.h, st.n⟩ w ∧ Fr φ st w φ ⟨truncH (fm.getD id) X id st.h, st.n⟩ w := by
  have hget : ∀ j x, (truncH (fm.getD id) X id st.h).get j = some x → ∃ o, st.h.get j = some o ∧ x = trunc1 (fm.getD id) X (j == id) o := fun j x hx => by
    rw [truncH_get] at hx
    cases hj : st.h.get j with
    | none => simp [hj] at hx
    | some o => simp only [hj, Option.map_some, Option.some.injEq] at hx; exact ⟨o, rfl, hx.symm⟩
  refine ⟨⟨hr.n, fun j x hx => ?_, fun j x hx => ?_, fun j x hx => ?_, fun i j oi oj hi hj hij hio hb => ?_⟩, ⟨rfl, rfl, rfl, Nat.le_refl _, fun _ _ _ => rfl, fun k hk => ?_⟩⟩
  · obtain ⟨o, h, _⟩ := hget j x hx; exact hr.lt j o h
  · obtain ⟨o, h, _⟩ := hget j x hx; exact hr.blk j o h
  · obtain ⟨o, h, rfl⟩ := hget j x hx
    have h1 := hr.obj j o h
    cases o with
    | cells f2 ro2 cs2 =>
      simp only [trunc1]
      split
      · exact h1.take X
      · exact h1
    | loop r => exact h1
    | dfr => exact h1
    | map es clock => exact h1
    | iter mid since seen last => exact h1
  · obtain ⟨o1, h1, rfl⟩ := hget i oi hi
    obtain ⟨o2, h2, rfl⟩ := hget j oj hj
    rw [trunc1_own] at hio ⊢
    obtain ⟨⟨f, hf1, hf2⟩, h3, h4, h5⟩ := hr.sep i j o1 o2 h1 h2 hij hio hb
    have key : ∀ k o, st.h.get k = some o → o.fam = some f → (k == id) = true → f = fm.getD id := fun k o hk hfk hki => by
      have : k = id := by simpa using hki
      subst this
      rw [ho] at hk; cases hk
      simp only [AObj.fam] at hfk
      rw [hfk]; rfl
    exact ⟨⟨f, trunc1_fam _ _ _ _ hf1 (key i o1 h1 hf1), trunc1_fam _ _ _ _ hf2 (key j o2 h2 hf2)⟩, h3, h4, h5⟩
  · obtain ⟨j, x, hx, hxo, hb⟩ := hk
    obtain ⟨o, h, rfl⟩ := hget j x hx
    rw [trunc1_own] at hxo
    exact .inl ⟨j, o, h, hxo, hb⟩

/-- A new name for memory that is there. -/
theorem Rel.alias {φ : Fi} {st : St} {w : World} (hr : Rel φ st w) (a : AObj) (l : Loc) {id : Nat} {o : AObj} (ho : st.h.get id = some o) (hown : o.own = true) (hl : (φ.f id).b = l.b) (haown : a.own = true)
    (hobj : ObjR (φ.push l) w φ.n a) (hsep : ∀ j oj, st.h.get j = some oj → (φ.f j).b = l.b → Mates a oj ∧ oj.own = true ∧ (φ.f j).o = l.o ∧ (φ.f j).n = l.n) :
    Rel (φ.push l) (st.push a) w ∧ Fr φ st w (φ.push l) (st.push a) w := by
  have hold : ∀ id x, st.h.get id = some x → id < φ.n ∧ (φ.push l).f id = φ.f id := fun id x hx => by
    have h1 := hr.lt id x hx
    rw [← hr.n] at h1
    exact ⟨h1, (φ.push_ext l).f id h1⟩
  refine ⟨⟨by simp [Fi.push, St.push, hr.n], fun id x hx => ?_, fun id x hx => ?_, fun id x hx => ?_, fun i j oi oj hi hj hij hio hb => ?_⟩, ⟨rfl, rfl, rfl, Nat.le_refl _, fun _ _ _ => rfl, fun k hk => ?_⟩⟩
  · rw [St.get_push] at hx
    split at hx
    · show _ < st.n + 1; omega
    · show _ < st.n + 1; have := hr.lt id x hx; omega
  · rw [St.get_push] at hx
    split at hx
    · rename_i h; rw [← hr.n] at h; subst h; rw [Fi.push_new, ← hl]; exact hr.blk _ _ ho
    · rw [(hold id x hx).2]; exact hr.blk id x hx
  · rw [St.get_push] at hx
    split at hx
    · rename_i h; rw [← hr.n] at h; subst h; cases hx; exact hobj
    · exact (hr.obj id x hx).same (φ.push_ext l) (hold id x hx).1 rfl
  · rw [St.get_push] at hi hj
    split at hi
    · rename_i h1
      rw [← hr.n] at h1; subst h1
      cases hi
      split at hj
      · rename_i h2; rw [← hr.n] at h2; exact absurd h2 hij
      · rw [Fi.push_new, (hold j oj hj).2] at hb ⊢
        obtain ⟨h1, h2, h3, h4⟩ := hsep j oj hj hb.symm
        exact ⟨h1, h2, h3.symm, h4.symm⟩
    · split at hj
      · rename_i h2
        rw [← hr.n] at h2; subst h2
        cases hj
        rw [Fi.push_new, (hold i oi hi).2] at hb ⊢
        obtain ⟨⟨f, hf1, hf2⟩, h2, h3, h4⟩ := hsep i oi hi hb
        exact ⟨⟨f, hf2, hf1⟩, haown, h3, h4⟩
      · rw [(hold i oi hi).2, (hold j oj hj).2] at hb ⊢
        exact hr.sep i j oi oj hi hj hij hio hb
  · obtain ⟨j, x, hx, ho', hb⟩ := hk
    rw [St.get_push] at hx
    split at hx
    · rename_i h; rw [← hr.n] at h; subst h; rw [Fi.push_new] at hb; left; exact ⟨id, o, ho, hown, by rw [hl]; exact hb⟩
    · left; exact ⟨j, x, hx, ho', by rw [← (hold j x hx).2]; exact hb⟩

/-- Cells that no object names are written. -/
theorem Rel.beyond {φ : Fi} {st : St} {w : World} (hr : Rel φ st w) {b X : Nat} {c c' : Array Value} {t : TypeId} (hb : w.heap[b]? = some (.cells c t (0, 0))) (hsz : c'.size = c.size)
    (hall : ∀ j oj, st.h.get j = some oj → (φ.f j).b = b → ∃ fm cs, oj = .cells fm false cs ∧ (φ.f j).o + cs.length ≤ X) (hc : ∀ i, i < X → c'[i]? = c[i]?) (hown : Owns φ st b) :
    Rel φ st (w.setRow b c') ∧ Fr φ st w φ st (w.setRow b c') := by
  refine ⟨⟨hr.n, hr.lt, fun j x hx => by rw [setRow_size]; exact hr.blk j x hx, fun j x hx => ?_, hr.sep⟩, ⟨rfl, rfl, rfl, by rw [setRow_size]; exact Nat.le_refl _, fun k _ hn => setRow_other w b k c' (fun e => hn (e ▸ hown)), fun k hk => .inl hk⟩⟩
  by_cases hj : (φ.f j).b = b
  · obtain ⟨fm, cs, rfl, hlen⟩ := hall j x hx hj
    obtain ⟨h1, h2⟩ := hr.obj j _ hx
    refine ⟨fun i a ha => ?_, fun hro => ?_⟩
    · obtain ⟨v, hv, hrv⟩ := h1 i a ha
      refine ⟨v, ?_, hrv⟩
      have hi : i < cs.length := (List.getElem?_eq_some_iff.1 ha).1
      unfold World.cell? at hv ⊢
      rw [hj] at hv ⊢
      simp only [hb] at hv
      simp only [setRow_heap w b c c' t (0, 0) hb]
      have := hc ((φ.f j).o + i) (by omega)
      simpa [this] using hv
    · obtain ⟨c2, t2, h3, h4, h5⟩ := h2 hro
      rw [hj] at h3
      rw [hb] at h3
      cases h3
      exact ⟨c', t, by rw [hj]; exact setRow_heap w b c c' t (0, 0) hb, by rw [hsz]; exact h4, h5⟩
  · exact (hr.obj j x hx).same (Ext.refl _) (by rw [hr.n]; exact hr.lt j x hx) (setRow_other w b _ c' hj)

/-- The cells that a slice reads. -/
def slCells (h : Hp) (sz : Nat) : AV → Option (List AV)
  | .lit (.slice none 0 0) => some []
  | .sl id off len sz' _ => match cellsAt h id with
    | some cs => if sz' = sz ∧ off + len * sz ≤ cs.length then some ((cs.drop off).take (len * sz)) else none
    | none => none
  | _ => none
def slLen : AV → Nat
  | .sl _ _ len _ _ => len
  | _ => 0

theorem slLen_sl (id off len sz : Nat) (ex : Bool) : slLen (.sl id off len sz ex) = len := rfl

def appendA (T : Ti) (st : St) (t xt : TypeId) (s x : AV) : Option (AV × St) :=
  match T t, T xt with
  | some i, some k => match i.desc, k.desc with
    | .slice e, .slice _ => match T e with
      | some j =>
        match slCells st.h j.size s, slCells st.h j.size x with
        | some old, some new =>
          let len := slLen s
          let m := slLen x
          if j.size = 0 ∨ 1048576 < len + m ∨ 65536 < j.bytes ∨ j.bytes = 0 ∨ j.zero.length ≠ j.size ∨ new.all AV.one = false then none else
          if m = 0 then some (s, st) else
          match s with
          | .lit _ => some (.sl st.n 0 m j.size false, st.push (.cells none false new))
          | .sl _ _ _ _ true => some (.sl st.n 0 (len + m) j.size false, st.push (.cells none false (old ++ new)))
          | .sl id off _ _ false => match st.h.get id with
            | some (.cells fm false _) => if off = 0 then some (.sl st.n 0 (len + m) j.size false, St.push ⟨truncH (fm.getD id) (len * j.size) id st.h, st.n⟩ (.cells (some (fm.getD id)) false (old ++ new))) else none
            | _ => none
          | _ => none
        | _, _ => none
      | none => none
    | _, _ => none
  | _, _ => none

section
variable {P : Program} {T : Ti}

theorem slCells_ok {φ : Fi} {st : St} {w : World} (hr : Rel φ st w) {sz : Nat} {s : AV} {v : Value} {cs : List AV} (hs : VR φ s v) (h : slCells st.h sz s = some cs) :
    ∃ (a : Option Addr) (cap : Nat) (us : List Value), v = .slice a (slLen s) cap ∧ slLen s ≤ cap ∧ VRL φ cs us ∧ us.length = slLen s * sz ∧
      ∀ (n : Nat), n = slLen s → ∀ w', Same φ st.h w w' → (Builtin.firstCells sz n v).run P w' = .ok us.toArray w' := by
  unfold slCells at h
  split at h
  · cases h
    obtain rfl := hs.lit_inv
    exact ⟨none, 0, [], rfl, Nat.le_refl _, .nil, by simp [slLen], fun n _ w' _ => rfl⟩
  · rename_i id off len sz' ex
    split at h
    · rename_i cs0 hcs
      obtain ⟨f, ro, ho⟩ : ∃ f ro, st.h.get id = some (.cells f ro cs0) := by
        unfold cellsAt at hcs
        split at hcs
        · cases hcs; exact ⟨_, _, by assumption⟩
        · cases hcs
      split at h
      · rename_i hc
        cases h
        obtain ⟨rfl, hlen⟩ := hc
        obtain ⟨cap, rfl, hid, hcap, _, _⟩ := hs.sl_inv
        have hobj := (hr.obj id _ ho).1
        have hex : ∀ j, j < len * sz' → ∃ u, w.cell? ⟨(φ.f id).b, (φ.f id).o + off + j, none⟩ = some u ∧ ∀ a, cs0[off + j]? = some a → VR φ a u := fun j hj => by
          obtain ⟨u, h1, h2⟩ := hobj (off + j) _ (List.getElem?_eq_getElem (by omega))
          exact ⟨u, by rw [Nat.add_assoc]; exact h1, fun a ha => by rw [List.getElem?_eq_getElem (by omega)] at ha; cases ha; exact h2⟩
        let g : Nat → Value := fun j => if hj : j < len * sz' then (hex j hj).choose else undef
        have hg : ∀ j, j < len * sz' → w.cell? ⟨(φ.f id).b, (φ.f id).o + off + j, none⟩ = some (g j) ∧ ∀ a, cs0[off + j]? = some a → VR φ a (g j) := fun j hj => by
          simp only [g, hj, dif_pos]; exact (hex j hj).choose_spec
        refine ⟨_, cap, (List.range (len * sz')).map g, rfl, hcap, VRL.of_get (by simp; omega) fun j a u h1 h2 => ?_, by simp [slLen], fun n hn w' hw => ?_⟩
        · have hj : j < len * sz' := by
            rcases Nat.lt_or_ge j (len * sz') with h | h
            · exact h
            · simp [h] at h2
          have : u = g j := by simp [hj] at h2; exact h2.symm
          subst this
          refine (hg j hj).2 a ?_
          rw [List.getElem?_take] at h1
          simpa [hj] using h1
        · simp only [slLen] at hn
          subst hn
          refine run_firstCells_some (P := P) w' sz' n ⟨(φ.f id).b, (φ.f id).o + off, none⟩ n cap _ (by simp) fun j v hjv => ?_
          have hj : j < n * sz' := by
            rcases Nat.lt_or_ge j (n * sz') with h | h
            · exact h
            · simp [h] at hjv
          have : v = g j := by simp [hj] at hjv; exact hjv.symm
          subst this
          rw [← (hg j hj).1]
          refine Eq.trans ?_ (cell_of_block (w := w) (w' := w') (a := ⟨(φ.f id).b, (φ.f id).o + off + j, none⟩) (hw id _ ho))
          unfold Addr.add; split <;> simp_all
      · cases h
    · cases h
  · cases h

theorem run_askRoom (n : Nat) (w : World) : (askRoom n).run P w = .ok () w := by
  unfold askRoom
  split <;> rfl

theorem notInt {d : TypeDesc} {e : TypeId} (h : d = .slice e) : (match d with | .int _ => true | _ => false) = false := by subst h; rfl

/-- The slice grows into a new block. -/
theorem run_append_grow (hT : TOk P T) {t xt ty e e' : TypeId} {i k j : TI} (hi : T t = some i) (hk : T xt = some k) (hd : i.desc = .slice e) (hd' : k.desc = .slice e') (hj : T e = some j)
    {base bx : Option Addr} {len cap m cx : Nat} {old new : List Value} {w : World}
    (hold : ∀ w' : World, w'.heap = w.heap → (Builtin.firstCells j.size len (.slice base len cap)).run P w' = .ok old.toArray w')
    (hnew : ∀ w' : World, w'.heap = w.heap → (Builtin.firstCells j.size m (.slice bx m cx)).run P w' = .ok new.toArray w')
    (hcap : cap < len + m) (hb1 : len + m ≤ 1048576) (hb2 : j.bytes ≤ 65536) (hb3 : j.bytes ≠ 0) (hz : j.zero.length = j.size) :
    ∃ (newCap : Nat) (rest : List Value), len + m ≤ newCap ∧ rest.length = (newCap - (len + m)) * j.size ∧
      (Builtin.append_ #[t, xt] ty #[.slice base len cap, .slice bx m cx]).run P w =
        .ok (.slice (some ⟨w.heap.size, 0, none⟩) (len + m) newCap) (({ w with drawn := w.drawn + 1 } : World).alloc (.cells (old ++ new ++ rest).toArray e)) := by
  obtain ⟨ti, z, h1, h2, h3, h4, h5⟩ := (hT e j hj).info
  have hzw : ∀ w : World, (zeroValue e).run P w = .ok z w := fun w => by simp [zeroValue, typeInfo, Sem.run_bind, program, Sem.run, Result.andThen, h1, h4]
  have hiw : ∀ w : World, (typeInfo e).run P w = .ok ti w := fun w => by simp [typeInfo, Sem.run_bind, program, Sem.run, Result.andThen, h1]
  let newCap := (Question.appendCap (len + m) cap e).cut (w.tape w.drawn (.appendCap (len + m) cap e))
  have hnc : len + m ≤ newCap := by simp only [newCap, Question.cut]; omega
  refine ⟨newCap, (Builtin.zeroCells z.cells (newCap - (len + m))).toList, hnc, ?_, ?_⟩
  · simp only [Builtin.zeroCells, Array.toList_map, List.length_map, Array.toList_range, List.length_range]
    rw [show z.cells.size = j.size from by rw [← hz, ← h5]; simp]
  · have hbm : (len + m) * ti.bytes ≤ 140737488355328 := by
      rw [h3]
      have : (len + m) * j.bytes ≤ 1048576 * 65536 := Nat.mul_le_mul hb1 hb2
      omega
    have hf := growslice_fits hcap hbm
    have hchoose : (choose (.appendCap (len + m) cap e)).run P w = .ok newCap { w with drawn := w.drawn + 1 } := by
      simp [choose, Sem.run, Question.forced, newCap]
    have hni : ¬ (((len + m : Nat) : Int) > IntKind.i64.max ∧ (False ∨ ti.bytes = 0)) := by
      rintro ⟨_, h | h⟩
      · exact h
      · exact hb3 (by rw [← h3]; exact h)
    have hfm : ¬ (Builtin.nextslicecap (len + m) cap * ti.bytes > 2 ^ 48) := by
      have : (2 : Nat) ^ 48 = 281474976710656 := by decide
      omega
    have hnle : ¬ (len + m ≤ cap) := by omega
    have e0 : (#[t, xt] : Array TypeId)[0]? = some t := rfl
    have e1 : (#[t, xt] : Array TypeId)[1]? = some xt := rfl
    simp only [Builtin.append_, e0, e1, List.getElem?_toArray, List.getElem?_cons_zero, List.getElem?_cons_succ, Sem.run_bind, run_und hT hi, hd, run_und hT hk, hd', Result.andThen, run_size hT hj, Sem.run_pure, Bool.false_eq_true, if_false, Builtin.lenOf, hnle, hiw, Sem.run_ite]
    rw [if_neg hni, if_neg hfm]
    have ho1 := hold { w with drawn := w.drawn + 1 } rfl
    have hn1 := hnew { w with drawn := w.drawn + 1 } rfl
    simp only [hchoose, run_askRoom, ho1, hn1, Bool.not_false, if_true, hzw, run_newRow]
    rw [show (old.toArray ++ new.toArray ++ Builtin.zeroCells z.cells (newCap - (len + m))) = (old ++ new ++ (Builtin.zeroCells z.cells (newCap - (len + m))).toList).toArray from by apply Array.ext'; simp]

/-- The slice has room. -/
theorem run_append_fits (hT : TOk P T) {t xt ty e e' : TypeId} {i k j : TI} (hi : T t = some i) (hk : T xt = some k) (hd : i.desc = .slice e) (hd' : k.desc = .slice e') (hj : T e = some j)
    {a : Addr} {bx : Option Addr} {len cap m cx : Nat} {new : List Value} {w : World} {c : Array Value} {ct : TypeId}
    (hnew : (Builtin.firstCells j.size m (.slice bx m cx)).run P w = .ok new.toArray w) (hspot : a.spot = none)
    (hcap : len + m ≤ cap) (hb : w.heap[a.block]? = some (.cells c ct (0, 0))) (hfit : a.off + len * j.size + new.length ≤ c.size) (h1 : ∀ u ∈ new, u.oneCell' = true) :
    (Builtin.append_ #[t, xt] ty #[.slice (some a) len cap, .slice bx m cx]).run P w =
      .ok (.slice (some a) (len + m) cap) (w.setRow a.block (c.toList.take (a.off + len * j.size) ++ new ++ c.toList.drop (a.off + len * j.size + new.length)).toArray) := by
  obtain ⟨ab, ao, asp⟩ := a
  simp only at hspot hb hfit ⊢
  subst hspot
  have hst := run_storeCells_at P ab (ao + len * j.size) ct new 0 c w hb (by simpa using hfit) h1
  simp only [Nat.add_zero] at hst
  have hadd : Addr.add ⟨ab, ao, none⟩ (len * j.size) = ⟨ab, ao + len * j.size, none⟩ := by unfold Addr.add; split <;> simp_all
  have e0 : (#[t, xt] : Array TypeId)[0]? = some t := rfl
  have e1 : (#[t, xt] : Array TypeId)[1]? = some xt := rfl
  simp only [Builtin.append_, e0, e1, List.getElem?_toArray, List.getElem?_cons_zero, List.getElem?_cons_succ, Sem.run_bind, run_und hT hi, hd, run_und hT hk, hd', Result.andThen, run_size hT hj, Sem.run_pure, Bool.false_eq_true, if_false, Builtin.lenOf, hcap, if_true, Bool.not_false, hnew, hadd, hst]

/-- WHAT AN APPEND LEAVES. -/
theorem append_ok (hT : TOk P T) {φ : Fi} {st st' : St} {w : World} {t xt ty : TypeId} {s x r : AV} {sv xv : Value} (hr : Rel φ st w) (hs : VR φ s sv) (hx : VR φ x xv) (h : appendA T st t xt s x = some (r, st')) :
    ∃ φ' w' v, (Builtin.append_ #[t, xt] ty #[sv, xv]).run P w = .ok v w' ∧ VR φ' r v ∧ Rel φ' st' w' ∧ Ext φ φ' ∧ Fr φ st w φ' st' w' := by
  unfold appendA at h
  split at h
  · rename_i i k hi hk
    split at h
    · rename_i e e' hd hd'
      split at h
      · rename_i j hj
        split at h
        · rename_i old new hold hnew
          obtain ⟨a, cap, us, rfl, hcap, hus, huslen, huf⟩ := slCells_ok (P := P) hr hs hold
          obtain ⟨ax, cx, vs, rfl, hcx, hvs, hvslen, hvf⟩ := slCells_ok (P := P) hr hx hnew
          simp only at h
          split at h
          · cases h
          · rename_i hc
            simp only [not_or, Nat.not_lt, Bool.not_eq_false] at hc
            obtain ⟨c1, c2, c3, c4, c5, c6⟩ := hc
            have c5 : j.zero.length = j.size := by simpa using c5
            have hsame : ∀ w' : World, w'.heap = w.heap → Same φ st.h w w' := fun w' hw id o _ => by rw [hw]
            -- the two ways of growing into a block of its own
            have grow : ∀ (fm : Option Nat) (st1 : St), Rel φ st1 w → Fr φ st w φ st1 w → cap < slLen s + slLen x →
                ∃ φ' w' v, (Builtin.append_ #[t, xt] ty #[.slice a (slLen s) cap, .slice ax (slLen x) cx]).run P w = .ok v w' ∧ VR φ' (.sl st1.n 0 (slLen s + slLen x) j.size false) v ∧
                  Rel φ' (st1.push (.cells fm false (old ++ new))) w' ∧ Ext φ φ' ∧ Fr φ st w φ' (st1.push (.cells fm false (old ++ new))) w' := fun fm st1 hr1 hfr1 hlt => by
              obtain ⟨newCap, rest, g1, g2, g3⟩ := run_append_grow (ty := ty) hT hi hk hd hd' hj (base := a) (bx := ax) (cap := cap) (cx := cx) (fun w' hw => huf _ rfl w' (hsame w' hw)) (fun w' hw => hvf _ rfl w' (hsame w' hw)) hlt c2 c3 c4 c5
              have hr2 : Rel φ st1 { w with drawn := w.drawn + 1 } := hr1.of_heap rfl
              have hobj := ObjR.new (φ := φ) (w := { w with drawn := w.drawn + 1 }) (rest := rest) (hus.append hvs) (us ++ vs ++ rest).toArray (by simp) e
              have hobj' : ObjR (φ.push ⟨w.heap.size, 0, (us ++ vs ++ rest).toArray.size⟩) (({ w with drawn := w.drawn + 1 } : World).alloc (.cells (us ++ vs ++ rest).toArray e)) φ.n (.cells fm false (old ++ new)) := hobj
              have := hr2.push (.cells (us ++ vs ++ rest).toArray e) (.cells fm false (old ++ new)) ⟨w.heap.size, 0, (us ++ vs ++ rest).toArray.size⟩ rfl hobj'
              refine ⟨_, _, _, g3, ?_, this.1, φ.push_ext _, hfr1.trans ((⟨rfl, rfl, rfl, Nat.le_refl _, fun _ _ _ => rfl, fun _ h => .inl h⟩ : Fr φ st1 w φ st1 { w with drawn := w.drawn + 1 }).trans this.2)⟩
              have hv := VR.sl (φ := φ.push ⟨w.heap.size, 0, (us ++ vs ++ rest).toArray.size⟩) φ.n 0 (slLen s + slLen x) j.size false newCap (by simp [Fi.push]) g1 (by simp) (by
                rw [Fi.push_new]
                simp only [List.size_toArray, List.length_append, huslen, hvslen, g2, Nat.zero_add]
                rw [← Nat.add_mul, ← Nat.add_mul]
                exact Nat.mul_le_mul_right _ (by omega))
              rw [Fi.push_new] at hv
              rw [← hr1.n]
              exact hv
            split at h
            · -- nothing to append
              rename_i hm
              cases h
              refine ⟨φ, w, _, ?_, hs, hr, Ext.refl _, Fr.refl _ _ _⟩
              have e0 : (#[t, xt] : Array TypeId)[0]? = some t := rfl
              have e1 : (#[t, xt] : Array TypeId)[1]? = some xt := rfl
              have hf := hvf _ rfl w (Same.refl _ _ _)
              have hvs0 : vs = [] := List.eq_nil_of_length_eq_zero (by rw [hvslen, hm, Nat.zero_mul])
              subst hvs0
              have hle : slLen s + slLen x ≤ cap := by omega
              have hst : ∀ q : Addr, (storeCells q []).run P w = .ok () w := fun q => rfl
              simp only [Builtin.append_, e0, e1, List.getElem?_toArray, List.getElem?_cons_zero, List.getElem?_cons_succ, Sem.run_bind, run_und hT hi, hd, run_und hT hk, hd', Result.andThen, run_size hT hj, Sem.run_pure, Bool.false_eq_true, if_false, Builtin.lenOf, hle, if_true, Bool.not_false, hf]
              cases a with
              | none => simp [hm]
              | some q => simp [hst, hm]
            · rename_i hm
              split at h
              · -- nil
                rename_i v
                cases h
                have h0 : slLen (.lit v) = 0 := rfl
                have hcap0 : cap = 0 := by
                  unfold slCells at hold
                  split at hold
                  · rename_i hq; have := hs.lit_inv; cases hq; cases this; rfl
                  · rename_i hq; cases hq
                  · cases hold
                have hold0 : old = [] := by
                  have := hus.length; rw [huslen, h0, Nat.zero_mul] at this; exact List.eq_nil_of_length_eq_zero this
                have := grow none st hr (Fr.refl _ _ _) (by rw [hcap0]; omega)
                rw [h0, hold0] at this
                rw [h0]
                simpa using this
              · -- exact
                rename_i id off len sz
                cases h
                obtain ⟨cap', hcv, _, _, hex, _⟩ := hs.sl_inv
                have hcl : cap = slLen (.sl id off len sz true) := by cases hcv; exact hex rfl
                exact grow none st hr (Fr.refl _ _ _) (by rw [hcl]; omega)
              · rename_i id off len sz
                split at h
                · rename_i fm cs ho
                  split at h
                  · rename_i hoff
                    subst hoff
                    cases h
                    obtain ⟨hrt, hfrt⟩ := hr.trunc ho (len * j.size)
                    by_cases hfit : len + slLen x ≤ cap
                    · -- in its place
                      obtain ⟨cap', hcv, hid, _, _, hbnd⟩ := hs.sl_inv
                      cases hcv
                      obtain ⟨hcells, hblk⟩ := hr.obj id _ ho
                      obtain ⟨c, ct, hb, hcn, hcl⟩ := hblk rfl
                      simp only [slCells, cellsAt, ho] at hold
                      split at hold
                      · rename_i hsz
                        obtain ⟨rfl, hol⟩ := hsz
                        cases hold
                        simp only [slLen_sl] at *
                        have hm1 : (len + slLen x) * j.size ≤ cap * j.size := Nat.mul_le_mul_right _ hfit
                        rw [Nat.add_mul] at hm1
                        have hfits : (φ.f id).o + 0 + len * j.size + vs.length ≤ c.size := by rw [hvslen]; omega
                        have hrun := run_append_fits (P := P) (ty := ty) hT hi hk hd hd' hj (a := ⟨(φ.f id).b, (φ.f id).o + 0, none⟩) (len := len) (cap := cap) (hvf _ rfl w (Same.refl _ _ _)) rfl hfit hb hfits (hvs.one c6)
                        refine ⟨φ.push (φ.f id), _, _, hrun, ?_, ?_⟩
                        · have := VR.sl (φ := φ.push (φ.f id)) φ.n 0 (len + slLen x) j.size false cap (by simp [Fi.push]) hfit (by simp) (by rw [Fi.push_new]; exact hbnd)
                          rw [Fi.push_new] at this
                          rw [← hr.n]
                          exact this
                        · -- what is written lies behind all that is named
                          have hall : ∀ k ok, (⟨truncH (fm.getD id) (len * j.size) id st.h, st.n⟩ : St).h.get k = some ok → (φ.f k).b = (φ.f id).b →
                              ∃ cs', ok = .cells (some (fm.getD id)) false cs' ∧ cs'.length ≤ len * j.size ∧ (φ.f k).o = (φ.f id).o ∧ (φ.f k).n = (φ.f id).n := fun k ok hk hkb => by
                            simp only [truncH_get] at hk
                            by_cases hkid : k = id
                            · subst hkid
                              rw [ho] at hk
                              simp only [Option.map_some, beq_self_eq_true, trunc1, or_true, if_true, Option.some.injEq] at hk
                              exact ⟨_, hk.symm, by simp only [List.length_take]; omega, rfl, rfl⟩
                            · cases hgk : st.h.get k with
                              | none => rw [hgk] at hk; cases hk
                              | some o2 =>
                                rw [hgk] at hk
                                simp only [Option.map_some, Option.some.injEq] at hk
                                obtain ⟨⟨f, hf1, hf2⟩, h3, h4, h5⟩ := hr.sep id k _ o2 ho hgk (Ne.symm hkid) rfl hkb.symm
                                simp only [AObj.fam] at hf1
                                cases o2 with
                                | cells f2 ro2 cs2 =>
                                  simp only [AObj.fam] at hf2
                                  simp only [AObj.own, Bool.not_eq_true'] at h3
                                  subst hf1; subst hf2; subst h3
                                  simp only [trunc1, Option.getD_some, true_or, if_true] at hk
                                  exact ⟨_, by rw [← hk]; rfl, by simp only [List.length_take]; omega, h4.symm, h5.symm⟩
                                | loop r => cases hf2
                                | dfr => cases hf2
                                | map es clock => cases hf2
                                | iter mid since seen last => cases hf2
                          have hget1 : (⟨truncH (fm.getD id) (len * j.size) id st.h, st.n⟩ : St).h.get id = some (.cells (some (fm.getD id)) false (cs.take (len * j.size))) := by
                            simp only [truncH_get, ho, Option.map_some, trunc1, beq_self_eq_true, or_true, if_true]
                          have hlenc : c.toList.length = c.size := by simp
                          obtain ⟨hrb, hfb⟩ := hrt.beyond (X := (φ.f id).o + len * j.size) hb (c' := (c.toList.take ((φ.f id).o + 0 + len * j.size) ++ vs ++ c.toList.drop ((φ.f id).o + 0 + len * j.size + vs.length)).toArray)
                            (by simp only [List.size_toArray, List.length_append, List.length_take, List.length_drop, hlenc]; omega)
                            (fun k ok hk hkb => by obtain ⟨cs', h1, h2, h3, _⟩ := hall k ok hk hkb; exact ⟨_, cs', h1, by omega⟩)
                            (fun i hi => by
                              rw [← Array.getElem?_toList (xs := c)]
                              have := splice_get c.toList vs ((φ.f id).o + 0 + len * j.size) i (by rw [hlenc]; exact hfits)
                              rw [if_neg (by omega)] at this
                              simpa using this)
                            ⟨id, _, hget1, rfl, rfl⟩
                          have hobjn : ObjR (φ.push (φ.f id)) (w.setRow (φ.f id).b (c.toList.take ((φ.f id).o + 0 + len * j.size) ++ vs ++ c.toList.drop ((φ.f id).o + 0 + len * j.size + vs.length)).toArray) φ.n (.cells (some (fm.getD id)) false (cs.take (len * j.size) ++ new)) := by
                            have hnewb := setRow_heap w (φ.f id).b c (c.toList.take ((φ.f id).o + 0 + len * j.size) ++ vs ++ c.toList.drop ((φ.f id).o + 0 + len * j.size + vs.length)).toArray ct (0, 0) hb
                            have hnl := hvs.length
                            refine ⟨fun k a ha => ?_, fun _ => ⟨_, ct, by rw [Fi.push_new]; exact hnewb, ?_, ?_⟩⟩
                            · rw [Fi.push_new]
                              have hcellk : ∀ q, (w.setRow (φ.f id).b (c.toList.take ((φ.f id).o + 0 + len * j.size) ++ vs ++ c.toList.drop ((φ.f id).o + 0 + len * j.size + vs.length)).toArray).cell? ⟨(φ.f id).b, q, none⟩ =
                                  if (φ.f id).o + 0 + len * j.size ≤ q ∧ q < (φ.f id).o + 0 + len * j.size + vs.length then vs[q - ((φ.f id).o + 0 + len * j.size)]? else c[q]? := fun q => by
                                unfold World.cell?
                                simp only [hnewb]
                                rw [← Array.getElem?_toList (xs := c), ← splice_get c.toList vs _ q (by rw [hlenc]; exact hfits)]
                                simp
                              rw [hcellk]
                              by_cases hkl : k < len * j.size
                              · rw [List.getElem?_append_left (by simp only [List.length_take]; omega), List.getElem?_take, if_pos hkl] at ha
                                rw [if_neg (by omega)]
                                obtain ⟨u, hu, hru⟩ := hcells k a ha
                                refine ⟨u, ?_, hru.mono (φ.push_ext _)⟩
                                unfold World.cell? at hu
                                simpa [hb] using hu
                              · rw [List.getElem?_append_right (by simp only [List.length_take]; omega)] at ha
                                have htl : (cs.take (len * j.size)).length = len * j.size := by simp only [List.length_take]; omega
                                rw [htl] at ha
                                obtain ⟨u, hu, hru⟩ := hvs.get _ _ ha
                                have : k - len * j.size < vs.length := (List.getElem?_eq_some_iff.1 hu).1
                                rw [if_pos (by omega)]
                                exact ⟨u, by rw [show (φ.f id).o + k - ((φ.f id).o + 0 + len * j.size) = k - len * j.size from by omega]; exact hu, hru.mono (φ.push_ext _)⟩
                            · rw [Fi.push_new]
                              simp only [List.size_toArray, List.length_append, List.length_take, List.length_drop, hlenc]
                              omega
                            · rw [Fi.push_new]
                              simp only [List.length_append, List.length_take]
                              rw [hnl, hvslen]
                              omega
                          obtain ⟨hra, hfa⟩ := hrb.alias (.cells (some (fm.getD id)) false (cs.take (len * j.size) ++ new)) (φ.f id) hget1 rfl rfl rfl hobjn
                            (fun k ok hk hkb => by obtain ⟨cs', rfl, h2, h3, h4⟩ := hall k ok hk hkb; exact ⟨⟨_, rfl, rfl⟩, rfl, h3, h4⟩)
                          exact ⟨hra, φ.push_ext _, hfrt.trans (hfb.trans hfa)⟩
                      · cases hold
                    · exact grow (some (fm.getD id)) _ hrt hfrt (by simp only [slLen_sl]; omega)
                  · cases h
                · cases h
              · cases h
        · cases h
      · cases h
    · cases h
  · cases h

end
end Go.Ev
