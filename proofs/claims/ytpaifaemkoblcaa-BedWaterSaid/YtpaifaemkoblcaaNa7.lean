/- Own work of the verifier of watercress: Lb7. -/
import Derived.Test.YtpaifaemkoblcaaNa6
set_option linter.unusedVariables false
set_option linter.unusedSimpArgs false
set_option linter.unusedVariables false
set_option linter.unusedSimpArgs false
namespace Go.Fz
variable {P : Program} {T : Ti}
def ObjBelowM (n : Nat) : AObj → Prop
  | .map es _ => ∀ x ∈ es, Below n x.1 ∧ Below n x.2.1
  | .iter mid _ _ _ => mid < n
  | o => ObjBelow n o
structure WeakM (n : Nat) (f1 : Fm) (st1 : St) (f2 : Fm) (st2 : St) : Prop where
  len : f2.ts.len = f1.ts.len
  dm : f2.dm = f1.dm
  dmlt : ∀ id ∈ f2.dm, id < st2.n
  get : ∀ i, f2.ts.get i = .any ∨ (f2.ts.get i = f1.ts.get i ∧ (st2.n = st1.n ∨ Below st2.n (f1.ts.get i)))
  lo : n ≤ st2.n
  hi : st2.n ≤ st1.n
  obj : ∀ id o, st2.h.get id = some o → st1.h.get id = some o ∧ id < st2.n ∧ (st2.n = st1.n ∨ ObjBelowM st2.n o)
theorem ObjR.belowM {φ : Fi} {w : World} {id n : Nat} {o : AObj} (hb : ObjBelowM n o) (h : ObjR φ w id o) : ObjR (cutN φ n) w id o := by
  cases o with
  | map es clock =>
    obtain ⟨ces, h1, h2, h3⟩ := h
    exact ⟨ces, h1, h2, fun i x hx => by
      obtain ⟨e, k1, k2, k3, k4⟩ := h3 i x hx
      obtain ⟨b1, b2⟩ := hb x (List.mem_of_getElem? hx)
      exact ⟨e, k1, b1 _ _ k2, b2 _ _ k3, k4⟩⟩
  | cells fm ro cs => exact ObjR.below (o := .cells fm ro cs) hb h
  | loop r => exact ObjR.below (o := .loop r) hb h
  | dfr => exact h
  | iter mid b c d => exact ⟨h.1, h.2.1, hb⟩
theorem WeakM.ok {n : Nat} {f1 f2 : Fm} {st1 st2 : St} (hw : WeakM n f1 st1 f2 st2) {φ : Fi} {w : World} {a : Act} (hr : Rel φ st1 w) (ha : ActR φ f1 a) :
    Rel (cutN φ st2.n) st2 w ∧ ActR (cutN φ st2.n) f2 a ∧ Fr φ st1 w (cutN φ st2.n) st2 w := by
  have hsame : st2.n = st1.n → cutN φ st2.n = φ := fun h => by cases φ; simp only [cutN, h, ← hr.n]
  refine ⟨⟨rfl, fun id o h => (hw.obj id o h).2.1, fun id o h => hr.blk id o (hw.obj id o h).1, fun id o h => ?_, fun i j oi oj hi hj => hr.sep i j oi oj (hw.obj i oi hi).1 (hw.obj j oj hj).1, fun id o f h hf => ?_, fun b c hb => ?_⟩, ⟨⟨?_, fun i => ?_⟩, ?_, hw.dmlt⟩,
    ⟨rfl, rfl, rfl, Nat.le_refl _, fun _ _ _ => rfl, fun k ⟨id, o, h, ho, hb⟩ => .inl ⟨id, o, (hw.obj id o h).1, ho, hb⟩, fun b c hb => .inl hb⟩⟩
  · obtain ⟨h1, h2, h3⟩ := hw.obj id o h
    rcases h3 with h3 | h3
    · rw [hsame h3]; exact hr.obj id o h1
    · exact (hr.obj id o h1).belowM h3
  · obtain ⟨h1, h2, h3⟩ := hw.obj id o h
    rcases h3 with h3 | h3
    · rw [h3]; exact hr.fam id o f h1 hf
    · cases o with
      | cells fm ro cs => exact h3.2 f hf
      | loop r => cases hf
      | dfr => cases hf
      | map es clock => cases hf
      | iter a b c d => cases hf
  · obtain ⟨h1, h2, h3⟩ := hr.froz b c hb
    exact ⟨h1, h2, fun id o h => h3 id o (hw.obj id o h).1⟩
  · rw [hw.len]; exact ha.ts.size
  · rcases hw.get i with h | ⟨h, h2⟩
    · rw [h]; exact .any _
    · rw [h]
      rcases h2 with h2 | h2
      · rw [hsame h2]; exact ha.ts.get i
      · exact h2 _ _ (ha.ts.get i)
  · rw [hw.dm]; exact ha.dm
theorem SW.weakM {rd : Option Nat} {c : Code} {Q : Exit → Fm → St → Prop} {f : Fm} {st : St} (h : SW P rd c (fun e f1 st1 => Q e f1 st1 ∨ ∃ f2 st2, WeakM st.n f1 st1 f2 st2 ∧ Q e f2 st2) f st) : SW P rd c Q f st := by
  intro φ w a n h1 h2 h3
  refine wpIn_mono (h φ w a n h1 h2 h3) fun e a' w' hl => ?_
  obtain ⟨f1, st1, φ1, hq, he, hr, ha, hf⟩ := hl
  rcases hq with hq | ⟨f2, st2, hw, hq⟩
  · exact ⟨f1, st1, φ1, hq, he, hr, ha, hf⟩
  · obtain ⟨k1, k2, k3⟩ := hw.ok hr ha
    refine ⟨f2, st2, cutN φ1 st2.n, hq, ⟨?_, he.f, he.z⟩, k1, k2, hf.trans k3⟩
    rw [h2.n]; exact hw.lo
theorem SW.loopM {α : Type} {rd : Option Nat} {c : Code} {Q : Exit → Fm → St → Prop} {f : Fm} {st : St} (F : α → Fm) (S : α → St) (m : α → Nat) (Inv : α → Prop) (x0 : α) (hn : ∀ x, (S x).n = st.n) (h0 : Inv x0) (hw : Weak st.n f st (F x0) (S x0))
    (hround : ∀ x, Inv x → SW P rd c (thenQ (fun f' st' => ∃ x', m x' < m x ∧ Inv x' ∧ WeakM st.n f' st' (F x') (S x')) Q) (F x) (S x)) : SW P rd (.loop c) Q f st := by
  refine SW.pre hw (SW.loop (fun k f st => ∃ x, Inv x ∧ m x = k ∧ f = F x ∧ st = S x) (m x0) ⟨x0, h0, rfl, rfl, rfl⟩ fun k f' st' ⟨x, hx, hk, hf, hs⟩ => ?_)
  subst hf; subst hs; subst hk
  refine SW.weakM ((hround x hx).mono fun e f1 st1 hq => ?_)
  cases e with
  | normal =>
    obtain ⟨x', h1, h2, h3⟩ := hq
    exact .inr ⟨F x', S x', by rw [hn]; exact h3, m x', h1, x', h2, rfl, rfl, rfl⟩
  | _ => exact .inl hq
def AllOM (q : Prop) (n : Nat) (h1 : Hp) : Hp → Prop
  | [] => True
  | x :: l => (h1.get x.1 = some x.2 ∧ x.1 < n ∧ (q ∨ ObjBelowM n x.2)) ∧ AllOM q n h1 l
theorem AllOM.ok {q : Prop} {n : Nat} {h1 : Hp} : ∀ {h : Hp}, AllOM q n h1 h → ∀ x ∈ h, h1.get x.1 = some x.2 ∧ x.1 < n ∧ (q ∨ ObjBelowM n x.2)
  | [], _, x, h => by cases h
  | y :: l, h, x, hx => by
    rcases List.mem_cons.1 hx with rfl | hx
    · exact h.1
    · exact h.2.ok x hx
theorem WeakM.by {n : Nat} {f1 : Fm} {st1 : St} {l : List (Nat × AV)} {len : Nat} {dm : List Nat} {h2 : Hp} {n2 : Nat} (e1 : len = f1.ts.len) (e2 : dm = f1.dm) (e3 : ∀ id ∈ dm, id < n2) (e5 : n ≤ n2) (e6 : n2 ≤ st1.n)
    (e4 : AllW (n2 = st1.n) n2 f1.ts.get l) (e7 : AllOM (n2 = st1.n) n2 st1.h h2) : WeakM n f1 st1 ⟨⟨len, getT l⟩, dm⟩ ⟨h2, n2⟩ :=
  ⟨e1, e2, e3, getT_weak l e4.ok, e5, e6, Hp.get_all _ e7.ok⟩
end Go.Fz
namespace Go.Fz
open Go.Proofs
set_option maxRecDepth 100000
def bmP (b : Nat → Bool) : Nat → List (Bool × Nat) × Nat
  | 0 => ([], 0)
  | i + 1 => (updE (bmP b i).1 (b i) (bmP b i).2, updC (bmP b i).1 (b i) (bmP b i).2)
theorem updE_mem {β : Type} [DecidableEq β] {E : List (β × Nat)} {x b : β} {c : Nat} : x ∈ (updE E b c).map (·.1) ↔ x ∈ E.map (·.1) ∨ x = b := by
  unfold updE
  split
  · rename_i h
    exact ⟨.inl, fun h2 => h2.elim id fun e => by rw [e]; exact h⟩
  · simp
theorem bmP_mem (b : Nat → Bool) (x : Bool) : ∀ i, x ∈ (bmP b i).1.map (·.1) ↔ ∃ j, j < i ∧ b j = x
  | 0 => by
    show x ∈ [] ↔ _
    exact ⟨fun h => (by cases h), fun ⟨_, h, _⟩ => absurd h (Nat.not_lt_zero _)⟩
  | i + 1 => by
    show x ∈ (updE _ _ _).map (·.1) ↔ _
    rw [updE_mem, bmP_mem b x i]
    constructor
    · rintro (⟨j, h1, h2⟩ | h)
      · exact ⟨j, by omega, h2⟩
      · exact ⟨i, by omega, h.symm⟩
    · rintro ⟨j, h1, h2⟩
      by_cases e : j = i
      · exact .inr (by rw [← e]; exact h2.symm)
      · exact .inl ⟨j, by omega, h2⟩
end Go.Fz
namespace Go.Fz
open Go.Proofs
set_option maxRecDepth 100000
end Go.Fz
namespace Go.Fz
section
variable {P : Program} {T : Ti}
def esOf (st : St) (a : AV) : Option (Nat × List (AV × AV × Nat) × Nat) := match a with
  | .mp id => match st.h.get id with
    | some (.map es clock) => some (id, es, clock)
    | _ => none
  | _ => none
theorem esOf_ok {φ : Fi} {st : St} {w : World} {a : AV} {u : Value} {id clock : Nat} {es : List (AV × AV × Nat)} (hr : Rel φ st w) (ha : VR φ a u) (h : esOf st a = some (id, es, clock)) :
    u = .map (some (φ.f id).b) ∧ id < φ.n ∧ st.h.get id = some (.map es clock) ∧ ∃ ces : Array MapEntry, w.heap[(φ.f id).b]? = some (.map ces clock) ∧ ces.size = es.length ∧
      ∀ (i : Nat) (x : AV × AV × Nat), es[i]? = some x → ∃ e, ces[i]? = some e ∧ VR φ x.1 e.key ∧ VR φ x.2.1 e.val ∧ e.born = x.2.2 := by
  unfold esOf at h
  split at h
  · rename_i id'
    split at h
    · rename_i es' clock' ho
      cases h
      obtain ⟨h1, h2⟩ := ha.mp_inv
      exact ⟨h1, h2, ho, hr.obj _ _ ho⟩
    · cases h
  · cases h
def itOf (st : St) (a : AV) : Option (Nat × Nat × Nat × List Nat × Nat) := match a with
  | .ptr rid 0 => match st.h.get rid with
    | some (.iter mid since seen last) => some (rid, mid, since, seen, last)
    | _ => none
  | _ => none
theorem itOf_ok {φ : Fi} {st : St} {w : World} {a : AV} {u : Value} {rid mid since last : Nat} {seen : List Nat} (hr : Rel φ st w) (ha : VR φ a u) (h : itOf st a = some (rid, mid, since, seen, last)) :
    u = .pointer (some ⟨(φ.f rid).b, 0, none⟩) ∧ st.h.get rid = some (.iter mid since seen last) ∧ w.heap[(φ.f rid).b]? = some (.mapIter (some (φ.f mid).b) since seen.toArray last) ∧ (φ.f rid).o = 0 ∧ mid < φ.n := by
  unfold itOf at h
  split at h
  · rename_i rid'
    split at h
    · rename_i mid' since' seen' last' ho
      cases h
      obtain ⟨h1, h2⟩ := ha.ptr_inv
      obtain ⟨h3, h4, h5⟩ := hr.obj _ _ ho
      exact ⟨by rw [h1, h4], ho, h3, h4, h5⟩
    · cases h
  · cases h
def bornsOk (es : List (AV × AV × Nat)) : Bool := decide ((es.map fun x => x.2.2).Nodup)
theorem range_ok {hT : TOk P T} {φ : Fi} {st : St} {w : World} {t kt : TypeId} {a : AV} {u : Value} {id clock : Nat} {es : List (AV × AV × Nat)} (hr : Rel φ st w) (ha : VR φ a u) (hd : mapD T t = some kt) (h : esOf st a = some (id, es, clock)) :
    ∃ φ' w' v, (Instr.range t u).run P w = .ok v w' ∧ VR φ' (.ptr st.n 0) v ∧ Rel φ' (st.push (.iter id clock [] clock)) w' ∧ Ext φ φ' ∧ Fr φ st w φ' (st.push (.iter id clock [] clock)) w' := by
  obtain ⟨e, hu⟩ := mapD_ok hT hd
  obtain ⟨rfl, hid, ho, ces, hb, hsz, hes⟩ := esOf_ok hr ha h
  have hrun := run_range_map (P := P) w t kt e (φ.f id).b ces clock hu hb
  have hp := hr.push (.mapIter (some (φ.f id).b) clock #[] clock) (.iter id clock [] clock) ⟨w.heap.size, 0, 0⟩ rfl (by
    refine ⟨?_, by rw [Fi.push_new], by rw [Fi.push_n]; exact Nat.lt_succ_of_lt hid⟩
    rw [Fi.push_new, (φ.push_ext _).f id hid]
    exact alloc_heap_new' w _) (fun _ h => by cases h)
  refine ⟨_, _, _, hrun, ?_, hp.1, φ.push_ext _, hp.2⟩
  have hv := VR.ptr (φ := φ.push ⟨w.heap.size, 0, 0⟩) φ.n 0 (by rw [Fi.push_n]; omega)
  rw [Fi.push_new] at hv
  rw [← hr.n]
  exact hv
theorem leftE_ok {φ : Fi} {es : List (AV × AV × Nat)} {ces : Array MapEntry} {seen : List Nat} (hsz : ces.size = es.length) (hes : ∀ (i : Nat) (x : AV × AV × Nat), es[i]? = some x → ∃ e, ces[i]? = some e ∧ VR φ x.1 e.key ∧ VR φ x.2.1 e.val ∧ e.born = x.2.2) {e : MapEntry} (he : e ∈ ces.toList) :
    ∃ x ∈ es, VR φ x.1 e.key ∧ VR φ x.2.1 e.val ∧ e.born = x.2.2 := by
  obtain ⟨i, hi, he2⟩ := List.getElem_of_mem he
  have hil : i < es.length := by rw [← hsz]; simpa using hi
  obtain ⟨e', h1, h2, h3, h4⟩ := hes i es[i] (List.getElem?_eq_getElem hil)
  have : e' = e := by
    rw [← Array.getElem?_toList, List.getElem?_eq_getElem hi, he2] at h1
    exact (Option.some.inj h1).symm
  subst this
  exact ⟨es[i], List.getElem_mem hil, h2, h3, h4⟩
theorem rightE_ok {φ : Fi} {es : List (AV × AV × Nat)} {ces : Array MapEntry} (hes : ∀ (i : Nat) (x : AV × AV × Nat), es[i]? = some x → ∃ e, ces[i]? = some e ∧ VR φ x.1 e.key ∧ VR φ x.2.1 e.val ∧ e.born = x.2.2) {x : AV × AV × Nat} (hx : x ∈ es) :
    ∃ e ∈ ces.toList, VR φ x.1 e.key ∧ VR φ x.2.1 e.val ∧ e.born = x.2.2 := by
  obtain ⟨i, hi, rfl⟩ := List.getElem_of_mem hx
  obtain ⟨e, h1, h2⟩ := hes i _ (List.getElem?_eq_getElem hi)
  rw [← Array.getElem?_toList] at h1
  exact ⟨e, List.mem_of_getElem? h1, h2⟩
theorem setHeapW_ok {φ : Fi} {st : St} {w : World} (hr : Rel φ st w) {id : Nat} {o o' : AObj} (ho : st.h.get id = some o) (hown : o.own = true) (hfam : o.fam = none) (hfam' : o'.fam = none) (co : Obj) (w0 : World) (hw0 : w0 = w ∨ w0 = w.drew) (hobj : ∀ w' : World, w'.heap[(φ.f id).b]? = some co → ObjR φ w' id o') :
    Rel φ ⟨st.h.set id o', st.n⟩ { w0 with heap := w0.heap.setIfInBounds (φ.f id).b co } ∧ Fr φ st w φ ⟨st.h.set id o', st.n⟩ { w0 with heap := w0.heap.setIfInBounds (φ.f id).b co } := by
  have hb := hr.blk id o ho
  have hh : w0.heap = w.heap := by rcases hw0 with rfl | rfl <;> rfl
  have h1 : w0.os = w.os ∧ w0.tape = w.tape ∧ w0.output = w.output := by rcases hw0 with rfl | rfl <;> exact ⟨rfl, rfl, rfl⟩
  refine hr.turn ho hown hfam hfam' h1.1 h1.2.1 h1.2.2 (by simp [hh]) (fun k hk => ?_) (hobj _ ?_)
  · simp only [hh]; rw [Array.getElem?_setIfInBounds_ne (Ne.symm hk)]
  · simp only [hh]; simp [hb]
theorem next_ok {φ : Fi} {st : St} {w : World} {ty : TypeId} {a : AV} {u : Value} {rid mid since last id clock : Nat} {seen : List Nat} {es : List (AV × AV × Nat)} (hr : Rel φ st w) (ha : VR φ a u) (h : itOf st a = some (rid, mid, since, seen, last)) (he : esOf st (.mp mid) = some (id, es, clock))
    (hc : (es.all (fun x => Nat.blt x.2.2 since) && Nat.ble since last) = true) :
    ((es.filter fun x => !(seen.contains x.2.2)) = [] ∧ (Instr.next u false ty).run P w = .ok (.tuple #[.bool false]) w) ∨
    ∃ x ∈ (es.filter fun x => !(seen.contains x.2.2)), ∃ w' v, (Instr.next u false ty).run P w = .ok v w' ∧ VR φ (.tup [.lit (.bool true), x.1, x.2.1]) v ∧
      Rel φ ⟨st.h.set rid (.iter mid since (seen ++ [x.2.2]) clock), st.n⟩ w' ∧ Fr φ st w φ ⟨st.h.set rid (.iter mid since (seen ++ [x.2.2]) clock), st.n⟩ w' := by
  obtain ⟨rfl, ho, hit, h0, hmid⟩ := itOf_ok hr ha h
  obtain ⟨hu, hid, hom, ces, hb, hsz, hes⟩ := esOf_ok hr (VR.mp mid hmid) he
  have hbb : (φ.f id).b = (φ.f mid).b := by simp only [Value.map.injEq, Option.some.injEq] at hu; exact hu.symm
  rw [hbb] at hb
  simp only [Bool.and_eq_true] at hc
  have hold : ∀ x ∈ ces.toList, x.born < since := fun e hem => by
    obtain ⟨x, hx, _, _, h4⟩ := leftE_ok (seen := []) hsz hes hem
    rw [h4]
    exact Nat.le_of_ble_eq_true (List.all_eq_true.1 hc.1 x hx)
  rcases run_next_at (P := P) w ty (φ.f rid).b (φ.f mid).b since last seen.toArray ces clock hit hb hold (Nat.le_of_ble_eq_true hc.2) with ⟨h1, h2⟩ | ⟨e, hel, w1, hw1, hrun⟩
  · left
    refine ⟨?_, h2⟩
    rw [List.filter_eq_nil_iff]
    intro x hx hns
    obtain ⟨e, hem, _, _, h4⟩ := rightE_ok hes hx
    have h5 : leftOf ces seen.toArray = #[] := Array.eq_empty_of_size_eq_zero h1
    unfold leftOf at h5
    rw [Array.filter_eq_empty_iff] at h5
    have := h5 e (Array.mem_toList_iff.1 hem)
    rw [h4] at this
    simp at this hns
    exact hns this
  · right
    unfold leftOf at hel
    have hel2 : e ∈ ces.toList ∧ seen.contains e.born = false := by simpa using hel
    obtain ⟨x, hx, h2, h3, h4⟩ := leftE_ok (seen := []) hsz hes hel2.1
    refine ⟨x, List.mem_filter.2 ⟨hx, by rw [← h4]; show (!seen.contains e.born) = true; rw [hel2.2]; rfl⟩, _, _, hrun, ?_, ?_⟩
    · exact .tup (us := [.bool true, e.key, e.val]) (.cons (.lit _) (.cons h2 (.cons h3 .nil)))
    · have := setHeapW_ok (o' := .iter mid since (seen ++ [x.2.2]) clock) hr ho rfl rfl rfl (.mapIter (some (φ.f mid).b) since (seen.toArray.push e.born) clock) w1 hw1 (fun w' hw' => ⟨by rw [hw', h4]; simp, h0, hmid⟩)
      exact this
theorem entry_ok {φ : Fi} {st : St} {w : World} {a : AV} {u : Value} {rid mid since last id clock s : Nat} {seen : List Nat} {es : List (AV × AV × Nat)} {x : AV × AV × Nat} (hr : Rel φ st w) (ha : VR φ a u) (h : itOf st a = some (rid, mid, since, seen, last)) (he : esOf st (.mp mid) = some (id, es, clock))
    (hs : seen.getLast? = some s) (hc : (Nat.beq clock last && bornsOk es) = true) (hf : es.filter (fun x => Nat.beq x.2.2 s) = [x]) :
    ∃ v, (Instr.entry u).run P w = .ok v w ∧ VR φ (.tup [x.1, x.2.1]) v := by
  obtain ⟨rfl, ho, hit, h0, hmid⟩ := itOf_ok hr ha h
  obtain ⟨hu, hid, hom, ces, hb, hsz, hes⟩ := esOf_ok hr (VR.mp mid hmid) he
  have hbb : (φ.f id).b = (φ.f mid).b := by simp only [Value.map.injEq, Option.some.injEq] at hu; exact hu.symm
  rw [hbb] at hb
  simp only [Bool.and_eq_true, bornsOk, decide_eq_true_eq] at hc
  have hcl := Nat.eq_of_beq_eq_true hc.1
  have hxm : x ∈ es.filter (fun x => Nat.beq x.2.2 s) := by rw [hf]; simp
  rw [List.mem_filter] at hxm
  have hxs := Nat.eq_of_beq_eq_true hxm.2
  obtain ⟨e, hem, h2, h3, h4⟩ := rightE_ok hes hxm.1
  have hborns : ces.toList.map (·.born) = es.map fun x => x.2.2 := by
    apply List.ext_getElem
    · simp [hsz]
    · intro i h1 h2
      simp only [List.length_map] at h1 h2
      obtain ⟨e, k1, _, _, k4⟩ := hes i es[i] (List.getElem?_eq_getElem h2)
      rw [List.getElem_map, List.getElem_map, ← k4]
      rw [← Array.getElem?_toList, List.getElem?_eq_getElem h1] at k1
      rw [Option.some.inj k1]
  have hseen : seen.toArray = seen.dropLast.toArray.push e.born := by
    obtain ⟨ys, hys⟩ := List.getLast?_eq_some_iff.1 hs
    rw [h4, hxs]
    subst hys
    simp
  have hrun := run_entry_at (P := P) w (φ.f rid).b (φ.f mid).b since seen.dropLast.toArray ces clock e (by rw [← hseen, hcl]; exact hit) hb hem (by rw [hborns]; exact hc.2)
  exact ⟨_, hrun, .tup (us := [e.key, e.val]) (.cons h2 (.cons h3 .nil))⟩
def rngAt (ops : Array Oper) (i : Nat) (f : Fm) : Option (TypeId × AV) := match ops[i]? with
  | none => none
  | some o => match wantA ops f.ts o with
    | some true => match o.op with
      | .range t x => some (t, Operand.av f.ts x)
      | _ => none
    | _ => none
theorem OpsW.range (hT : TOk P T) {rd : Option Nat} {ops : Array Oper} {L : Fm → St → Prop} {f : Fm} {st : St} {i : Nat} {l : List Nat} {t kt : TypeId} {a : AV} {id clock : Nat} {es : List (AV × AV × Nat)}
    (hx : rngAt ops i f = some (t, a)) (hd : mapD T t = some kt) (he : esOf st a = some (id, es, clock)) (h : OpsW P rd ops l L (putAt ops i f (.ptr st.n 0)) (st.push (.iter id clock [] clock))) : OpsW P rd ops (i :: l) L f st := by
  unfold rngAt at hx
  split at hx
  · cases hx
  · rename_i o ho
    split at hx
    · rename_i hw
      split at hx
      · rename_i t' x hop
        simp only [Option.some.injEq, Prod.mk.injEq] at hx
        obtain ⟨rfl, e2⟩ := hx
        have hput : ∀ v, putAt ops i f v = f.put o.dst v := fun v => by simp [putAt, ho]
        rw [hput] at h
        refine OpsW.value ho hw (fun c hc => by rw [hop] at hc; cases hc) (fun φ w a h2 h3 => ?_) h
        have a1 := opR_of h3.ts x
        rw [e2] at a1
        obtain ⟨φ', w', v, k1, k2, k3, k4, k5⟩ := range_ok (hT := hT) h2 a1 hd he
        exact ⟨φ', w', v, .inl (by simp [execOp, hop, k1, Result.andThen]), k2, k3, k4, k5⟩
      · cases hx
    · cases hx
end
end Go.Fz
namespace Go.Fz
open Go.Proofs
set_option maxRecDepth 100000
section
variable {α : Type} {next : α → (Nat → Int) → α} {N : Nat} {lo hi : Nat → Int}
end
def Born (E : List (Mk × Nat)) (c : Nat) : Prop := (∀ p ∈ E, p.2 < c) ∧ (E.map (·.2)).Nodup
end Go.Fz
namespace Go.Fz
open Go.Proofs
set_option maxRecDepth 100000
section
variable {P : Program} {T : Ti}
theorem OpsW.valueX {rd : Option Nat} {ops : Array Oper} {i : Nat} {l : List Nat} {K : Fm → St → Prop} {f : Fm} {st : St} {o : Oper} (ho : ops[i]? = some o) (hw : wantA ops f.ts o = some true) (hd : ∀ c, o.op ≠ .defer c)
    (hrun : ∀ (φ : Fi) (w : World) (a : Act), Rel φ st w → ActR φ f a → ∃ r st' φ' w' u, OpsW P rd ops l K (f.put o.dst r) st' ∧ (execOp a.eval o).run P w = .ok (.value u) w' ∧ VR φ' r u ∧ Rel φ' st' w' ∧ Ext φ φ' ∧ Fr φ st w φ' st' w') : OpsW P rd ops (i :: l) K f st := by
  intro φ w a n Q h1 h2 h3 hQ
  simp only [wpOpsIn, ho]
  rw [wanted_eq h3 ops hw]
  simp only [if_true]
  refine ⟨fun _ _ => trivial, ?_⟩
  rw [semAt_eq hd]
  obtain ⟨r, st', φ', w', u, h, hr, hv, hrel, he, hf⟩ := hrun φ w a h2 h3
  have h4 := h φ' w' (a.put o.dst u) n Q (fun id hi => Nat.lt_of_lt_of_le (h1 id hi) he.n) hrel ((h3.mono he).put o.dst hv) (fun a' w'' hl => hQ a' w'' (hl.trans he hf))
  rw [rdB_ext he h1] at h4
  rw [hr]; exact h4
def nextAt (ops : Array Oper) (i : Nat) (f : Fm) : Option AV := match ops[i]? with
  | none => none
  | some o => match wantA ops f.ts o with
    | some true => match o.op with
      | .next it false => some (Operand.av f.ts it)
      | _ => none
    | _ => none
theorem OpsW.nextL {rd : Option Nat} {ops : Array Oper} {i : Nat} {l : List Nat} {f : Fm} {st : St} {K : Fm → St → Prop} {a : AV}
    {rid mid since last id clock : Nat} {seen : List Nat} {es : List (AV × AV × Nat)} (hx : nextAt ops i f = some a) (hit : itOf st a = some (rid, mid, since, seen, last)) (hes : esOf st (.mp mid) = some (id, es, clock))
    (hc : (es.all (fun x => Nat.blt x.2.2 since) && Nat.ble since last) = true)
    (hend : (es.filter fun x => !(seen.contains x.2.2)) = [] → OpsW P rd ops l K (putAt ops i f (.tup [.lit (.bool false)])) st)
    (hgo : ∀ x ∈ es, seen.contains x.2.2 = false → OpsW P rd ops l K (putAt ops i f (.tup [.lit (.bool true), x.1, x.2.1])) ⟨st.h.set rid (.iter mid since (seen ++ [x.2.2]) clock), st.n⟩) : OpsW P rd ops (i :: l) K f st := by
  unfold nextAt at hx
  split at hx
  · cases hx
  · rename_i o ho
    split at hx
    · rename_i hw
      split at hx
      · rename_i it hop
        simp only [Option.some.injEq] at hx
        have hput : ∀ v, putAt ops i f v = f.put o.dst v := fun v => by simp [putAt, ho]
        simp only [hput] at hend hgo
        refine OpsW.valueX ho hw (fun c hc => by rw [hop] at hc; cases hc) fun φ w a h2 h3 => ?_
        have a1 := opR_of h3.ts it
        rw [hx] at a1
        rcases next_ok (P := P) (ty := o.type) h2 a1 hit hes hc with ⟨k1, k2⟩ | ⟨x, hxm, w', v, k2, k3, k4, k5⟩
        · exact ⟨_, st, φ, w, _, hend k1, by simp [execOp, hop, k2, Result.andThen], .tup (us := [.bool false]) (.cons (.lit _) .nil), h2, Ext.refl _, Fr.refl _ _ _⟩
        · obtain ⟨h5, h6⟩ := List.mem_filter.1 hxm
          exact ⟨_, _, φ, w', v, hgo x h5 (by simpa using h6), by simp [execOp, hop, k2, Result.andThen], k3, k4, Ext.refl _, k5⟩
      · cases hx
    · cases hx
def entAt (ops : Array Oper) (i : Nat) (f : Fm) : Option AV := match ops[i]? with
  | none => none
  | some o => match wantA ops f.ts o with
    | some true => match o.op with
      | .entry it => some (Operand.av f.ts it)
      | _ => none
    | _ => none
theorem OpsW.entryL {rd : Option Nat} {ops : Array Oper} {i : Nat} {l : List Nat} {f : Fm} {st : St} {K : Fm → St → Prop} {a : AV}
    {rid mid since last id clock s : Nat} {seen : List Nat} {es : List (AV × AV × Nat)} {x : AV × AV × Nat} (hx : entAt ops i f = some a) (hit : itOf st a = some (rid, mid, since, seen, last)) (hes : esOf st (.mp mid) = some (id, es, clock))
    (hs : seen.getLast? = some s) (hc : (Nat.beq clock last && bornsOk es) = true) (hf : es.filter (fun x => Nat.beq x.2.2 s) = [x]) (h : OpsW P rd ops l K (putAt ops i f (.tup [x.1, x.2.1])) st) : OpsW P rd ops (i :: l) K f st := by
  unfold entAt at hx
  split at hx
  · cases hx
  · rename_i o ho
    split at hx
    · rename_i hw
      split at hx
      · rename_i it hop
        simp only [Option.some.injEq] at hx
        have hput : ∀ v, putAt ops i f v = f.put o.dst v := fun v => by simp [putAt, ho]
        rw [hput] at h
        refine OpsW.value ho hw (fun c hc => by rw [hop] at hc; cases hc) (fun φ w a h2 h3 => ?_) h
        have a1 := opR_of h3.ts it
        rw [hx] at a1
        obtain ⟨v, k1, k2⟩ := entry_ok (P := P) h2 a1 hit hes hs hc hf
        exact ⟨φ, w, v, .inl (by simp [execOp, hop, k1, Result.andThen]), k2, h2, Ext.refl _, Fr.refl _ _ _⟩
      · cases hx
    · cases hx
end
end Go.Fz
namespace Go.Fz
open Go.Proofs
set_option maxRecDepth 100000
theorem filter_lt {γ : Type} {P P' : γ → Bool} (h : ∀ q, P' q = true → P q = true) : ∀ {l : List γ} {p : γ}, p ∈ l → P p = true → P' p = false → (l.filter P').length < (l.filter P).length
  | x :: l, p, hp, h1, h2 => by
    have hle : ∀ l : List γ, (l.filter P').length ≤ (l.filter P).length := fun l => by
      induction l with
      | nil => simp
      | cons y l ih =>
        simp only [List.filter_cons]
        cases h3 : P' y with
        | true => rw [h y h3]; simpa using ih
        | false => cases P y <;> simp <;> omega
    simp only [List.filter_cons]
    rcases List.mem_cons.1 hp with rfl | hp
    · rw [h1, h2]
      have := hle l
      simp; omega
    · have ih := filter_lt h hp h1 h2
      cases h3 : P' x with
      | true => rw [h x h3]; simpa using ih
      | false => cases P x <;> simp <;> omega
theorem filter_one' {γ : Type} {g : γ → Nat} : ∀ {l : List γ} {x : γ}, (l.map g).Nodup → x ∈ l → l.filter (fun y => Nat.beq (g y) (g x)) = [x]
  | y :: l, x, hn, hx => by
    rw [List.map_cons, List.nodup_cons] at hn
    rw [List.filter_cons]
    rcases List.mem_cons.1 hx with rfl | hx
    · rw [if_pos (Nat.beq_refl _)]
      congr 1
      rw [List.filter_eq_nil_iff]
      intro z hz he
      exact hn.1 (List.mem_map.2 ⟨z, hz, Nat.eq_of_beq_eq_true he⟩)
    · rw [if_neg (fun he => hn.1 (List.mem_map.2 ⟨x, hx, (Nat.eq_of_beq_eq_true he).symm⟩))]
      exact filter_one' hn.2 hx
end Go.Fz
namespace Go.Fz
open Go.Proofs
set_option maxRecDepth 100000
def leN (a : Int) (fl : Nat → Int) : Nat → Int
  | 0 => a
  | i + 1 => if fl i < leN a fl i then fl i else leN a fl i
def grN (a : Int) (fl : Nat → Int) : Nat → Int
  | 0 => a
  | i + 1 => if fl i > grN a fl i then fl i else grN a fl i
theorem leN_le (a : Int) (fl : Nat → Int) : ∀ n, (leN a fl n ≤ a ∧ ∀ i, i < n → leN a fl n ≤ fl i) ∧ (leN a fl n = a ∨ ∃ i, i < n ∧ leN a fl n = fl i)
  | 0 => ⟨⟨Int.le_refl _, fun i h => by omega⟩, .inl rfl⟩
  | n + 1 => by
    obtain ⟨⟨h1, h2⟩, h3⟩ := leN_le a fl n
    show (_ ≤ a ∧ _) ∧ _
    have e : leN a fl (n + 1) = if fl n < leN a fl n then fl n else leN a fl n := rfl
    rw [e]
    split
    · refine ⟨⟨by omega, fun i hi => ?_⟩, .inr ⟨n, by omega, rfl⟩⟩
      by_cases hin : i = n
      · subst hin; omega
      · have := h2 i (by omega); omega
    · refine ⟨⟨h1, fun i hi => ?_⟩, h3.imp id fun ⟨i, h4, h5⟩ => ⟨i, by omega, h5⟩⟩
      by_cases hin : i = n
      · subst hin; omega
      · exact h2 i (by omega)
theorem grN_ge (a : Int) (fl : Nat → Int) : ∀ n, (a ≤ grN a fl n ∧ ∀ i, i < n → fl i ≤ grN a fl n) ∧ (grN a fl n = a ∨ ∃ i, i < n ∧ grN a fl n = fl i)
  | 0 => ⟨⟨Int.le_refl _, fun i h => by omega⟩, .inl rfl⟩
  | n + 1 => by
    obtain ⟨⟨h1, h2⟩, h3⟩ := grN_ge a fl n
    have e : grN a fl (n + 1) = if fl n > grN a fl n then fl n else grN a fl n := rfl
    rw [e]
    split
    · refine ⟨⟨by omega, fun i hi => ?_⟩, .inr ⟨n, by omega, rfl⟩⟩
      by_cases hin : i = n
      · subst hin; omega
      · have := h2 i (by omega); omega
    · refine ⟨⟨h1, fun i hi => ?_⟩, h3.imp id fun ⟨i, h4, h5⟩ => ⟨i, by omega, h5⟩⟩
      by_cases hin : i = n
      · subst hin; omega
      · exact h2 i (by omega)
end Go.Fz
namespace Go.Fz
open Go.Proofs
set_option maxRecDepth 100000
def hasN (n : Nat) (fl : Nat → Int) (x : Int) : Bool := decide (∃ i, i < n ∧ fl i = x)
theorem index_ok (n : Nat) (ex : Bool) (fl : Nat → Int) (x : Int) (hn : n < 1000) : ∃ r : Int, Pure Try.prog 134 [intsV n ex fl, iV x] (iV r) ∧ ((0 ≤ r) ↔ ∃ i, i < n ∧ fl i = x) := by
  obtain ⟨O, hO⟩ : ∃ O : Ar, O = std := ⟨_, rfl⟩
  by_cases hex : ∃ i, i < n ∧ fl i = x
  ·
    obtain ⟨k, ⟨hk, hkx⟩, hmin⟩ : ∃ k, (k < n ∧ fl k = x) ∧ ∀ j, j < k → ¬ fl j = x := by
      obtain ⟨i, hi, hix⟩ := hex
      have : ∀ m, ∀ i, i ≤ m → i < n → fl i = x → ∃ k, (k < n ∧ fl k = x) ∧ ∀ j, j < k → ¬ fl j = x := fun m => by
        induction m with
        | zero => exact fun i h1 h2 h3 => ⟨i, ⟨h2, h3⟩, fun j hj => by omega⟩
        | succ m ih =>
          intro i h1 h2 h3
          by_cases hq : ∃ j, j < i ∧ fl j = x
          · obtain ⟨j, hj, hjx⟩ := hq
            exact ih j (by omega) (by omega) hjx
          · exact ⟨i, ⟨h2, h3⟩, fun j hj hjx => hq ⟨j, hj, hjx⟩⟩
      exact this i i (Nat.le_refl _) hi hix
    refine ⟨k, ?_, by constructor; exact fun _ => hex; exact fun _ => by omega⟩
    refine pure_of_body tok 3 Try.func134 en134 rfl ⟨intsV_below n ex fl, iV_below, trivial⟩ Below.lit ?_
    refine SW.seqRun tok hO (by cbv <;> rfl) (by trivial) ?_
    refine SW.seq ?_
    refine SW.seqRun tok hO (by cbv <;> rfl) (by trivial) ?_
    refine (SW.block (SW.loopF (fun i : Nat => ⟨⟨19, getT [(0, intsV n ex fl), (1, iV x), (7, iV n), (8, iV i)]⟩, []⟩) (fun _ => ⟨[], 0⟩) (fun i => n - i) (fun i => i ≤ k) 0
      (fun _ => rfl) (Nat.zero_le _) (Weak.by rfl rfl (by simp) (Nat.le_refl _) (Nat.le_refl _) ⟨⟨rfl, .inl rfl⟩, ⟨rfl, .inl rfl⟩, ⟨rfl, .inl rfl⟩, ⟨rfl, .inl rfl⟩, trivial⟩ trivial) fun i hi => ?_))
    refine SW.seqRun tok hO (by cbv <;> rfl) (by trivial) ?_
    refine SW.seq (SW.condS (by cbv <;> rfl) (fun h => SW.skip ?_) (fun h => SW.exit ?_))
    · have hlt : i < n := by omega
      have h0 : (0 : Int) ≤ Int.ofNat i := Int.natCast_nonneg i
      refine SW.seq (SW.block ?_)
      refine SW.seqRun tok hO (by cbv <;> rfl) (by trivial) ?_
      refine SW.seqRun tok hO (by cbv <;> rfl) ?_ ?_
      · exact ⟨h0, Int.ofNat_lt.2 hlt⟩
      refine SW.condS (by cbv <;> rfl) (fun h' => ?_) (fun h' => SW.skip ?_)
      · refine SW.seqRun tok hO (by cbv <;> rfl) (by trivial) ?_
        refine SW.ret ⟨_, _, rfl, rfl, Eqv.int ?_⟩
        have : x = fl i := by subst hO; simpa [std] using h'
        have hik : i = k := by
          rcases Nat.lt_or_ge i k with h1 | h1
          · exact absurd this.symm (hmin i h1)
          · omega
        rw [hik]; rfl
      · have hne : ¬ x = fl i := by subst hO; simpa [std] using h'
        have hik : i ≠ k := fun e => hne (by rw [e]; exact hkx.symm)
        refine SW.run tok hO (by cbv <;> rfl) (by trivial) ?_
        exact ⟨i + 1, by omega, by omega, Weak.by rfl rfl (by simp) (Nat.le_refl _) (Nat.zero_le _) ⟨⟨rfl, .inr (intsV_below n ex fl)⟩, ⟨rfl, .inr Below.lit⟩, ⟨rfl, .inr Below.lit⟩, ⟨inc_ok hO (by omega), .inr Below.lit⟩, trivial⟩ trivial⟩
    · exfalso
      have hge : n ≤ i := by subst hO; simpa [std] using h
      omega
  · refine ⟨-1, ?_, ⟨fun h => absurd h (by omega), fun h => absurd h hex⟩⟩
    refine pure_of_body tok 3 Try.func134 en134 rfl ⟨intsV_below n ex fl, iV_below, trivial⟩ Below.lit ?_
    refine SW.seqRun tok hO (by cbv <;> rfl) (by trivial) ?_
    refine SW.seq ?_
    refine SW.seqRun tok hO (by cbv <;> rfl) (by trivial) ?_
    refine (SW.block (SW.loopF (fun i : Nat => ⟨⟨19, getT [(0, intsV n ex fl), (1, iV x), (7, iV n), (8, iV i)]⟩, []⟩) (fun _ => ⟨[], 0⟩) (fun i => n - i) (fun i => i ≤ n) 0
      (fun _ => rfl) (Nat.zero_le _) (Weak.by rfl rfl (by simp) (Nat.le_refl _) (Nat.le_refl _) ⟨⟨rfl, .inl rfl⟩, ⟨rfl, .inl rfl⟩, ⟨rfl, .inl rfl⟩, ⟨rfl, .inl rfl⟩, trivial⟩ trivial) fun i hi => ?_))
    refine SW.seqRun tok hO (by cbv <;> rfl) (by trivial) ?_
    refine SW.seq (SW.condS (by cbv <;> rfl) (fun h => SW.skip ?_) (fun h => SW.exit ?_))
    · have hlt : i < n := by subst hO; simpa [std] using h
      have h0 : (0 : Int) ≤ Int.ofNat i := Int.natCast_nonneg i
      refine SW.seq (SW.block ?_)
      refine SW.seqRun tok hO (by cbv <;> rfl) (by trivial) ?_
      refine SW.seqRun tok hO (by cbv <;> rfl) ?_ ?_
      · exact ⟨h0, Int.ofNat_lt.2 hlt⟩
      refine SW.condS (by cbv <;> rfl) (fun h' => ?_) (fun h' => SW.skip ?_)
      · exfalso
        have : x = fl i := by subst hO; simpa [std] using h'
        exact hex ⟨i, hlt, this.symm⟩
      · refine SW.run tok hO (by cbv <;> rfl) (by trivial) ?_
        exact ⟨i + 1, by omega, by omega, Weak.by rfl rfl (by simp) (Nat.le_refl _) (Nat.zero_le _) ⟨⟨rfl, .inr (intsV_below n ex fl)⟩, ⟨rfl, .inr Below.lit⟩, ⟨rfl, .inr Below.lit⟩, ⟨inc_ok hO (by omega), .inr Below.lit⟩, trivial⟩ trivial⟩
    · refine SW.seqRun tok hO (by cbv <;> rfl) (by trivial) ?_
      refine SW.ret ⟨_, _, rfl, rfl, Eqv.of rfl⟩
theorem contains_ok (n : Nat) (ex : Bool) (fl : Nat → Int) (x : Int) (hn : n < 1000) : Pure Try.prog 113 [intsV n ex fl, iV x] (.sb (hasN n fl x)) := by
  obtain ⟨O, hO⟩ : ∃ O : Ar, O = std := ⟨_, rfl⟩
  obtain ⟨r, h1, h2⟩ := index_ok n ex fl x hn
  refine pure_of_body tok 3 Try.func113 en113 rfl ⟨intsV_below n ex fl, iV_below, trivial⟩ Below.sb ?_
  refine SW.seqRun tok hO (by cbv <;> rfl) (by trivial) ?_
  refine SW.seqRun tok hO (by cbv <;> rfl) (by trivial) ?_
  refine OpsW.callI h1 (by cbv <;> rfl) fun v hv => ?_
  refine OpsW.run tok hO (by cbv <;> rfl) (by trivial) ?_
  refine SW.ret ⟨_, _, rfl, rfl, Eqv.sb (Bool.eq_iff_iff.2 ?_)⟩
  subst hO; subst hv
  simp only [std, hasN, decide_eq_true_eq]
  exact h2
end Go.Fz
namespace Go.Fz
variable {P : Program} {T : Ti}
end Go.Fz
namespace Go.Fz
open Go.Proofs
set_option maxRecDepth 100000
section
variable {P : Program}
theorem SW.preR {rd : Option Nat} {c : Code} {Q : Exit → Fm → St → Prop} {f f2 : Fm} {st st2 : St} {ρ : Nat → Nat} (hw : WeakR st.n ρ f st f2 st2) (h : SW P rd c Q f2 st2) : SW P rd c Q f st := by
  intro φ w a n h1 h2 h3
  obtain ⟨k1, k2, k3⟩ := hw.ok h2 h3
  have he : Ext φ (renF φ ρ st2.n) := ⟨by show φ.n ≤ st2.n; rw [h2.n]; exact hw.lo, fun id hid => by show φ.f (ρ id) = _; rw [hw.idn id (by rw [← h2.n]; exact hid)], fun _ _ hb => hb⟩
  have h4 := h (renF φ ρ st2.n) w a n (fun id hid => Nat.lt_of_lt_of_le (h1 id hid) he.n) k1 k2
  rw [rdB_ext he h1] at h4
  exact wpIn_mono h4 fun e a' w' hl => hl.trans he k3
theorem RenV.getT {ρ : Nat → Nat} {n : Nat} : ∀ {l : List (Nat × AV)}, AllP (fun p => RenV ρ n p.2 p.2) l → ∀ i, RenV ρ n (getT l i) (getT l i)
  | [], _, i => RenV.any
  | (j, a) :: r, h, i => by
    simp only [Fz.getT]
    cases Nat.beq j i with
    | true => exact h.1
    | false => exact RenV.getT h.2 i
end
section
variable {β : Type} [DecidableEq β]
def BornG (E : List (β × Nat)) (c : Nat) : Prop := (∀ p ∈ E, p.2 < c) ∧ (E.map (·.2)).Nodup
theorem BornG.upd {E : List (β × Nat)} {c : Nat} (h : BornG E c) (b : β) : BornG (updE E b c) (updC E b c) := by
  unfold updE updC
  split
  · exact h
  · refine ⟨fun p hp => ?_, ?_⟩
    · rcases List.mem_append.1 hp with hp | hp
      · have := h.1 p hp; omega
      · rw [List.mem_singleton.1 hp]
        show c < c + 1; omega
    · rw [List.map_append, List.nodup_append]
      refine ⟨h.2, by simp, fun x hx y hy => ?_⟩
      obtain ⟨p, hp, rfl⟩ := List.mem_map.1 hx
      have := h.1 p hp
      simp at hy
      omega
theorem updE_len (E : List (β × Nat)) (b : β) (c : Nat) : (updE E b c).length ≤ E.length + 1 := by
  unfold updE; split
  · omega
  · rw [List.length_append, List.length_singleton]; exact Nat.le_refl _
end
theorem wf64 {n : Int} (h0 : 0 ≤ n) (h1 : n ≤ 1000000) : (Lit.int .i64 n).wf = true := by
  simp [Lit.wf, IntKind.min, IntKind.max, IntKind.signed, IntKind.bits]
  omega
end Go.Fz
namespace Go.Fz
open Go.Proofs
set_option maxRecDepth 100000
end Go.Fz
namespace Go.Fz
open Go.Proofs
set_option maxRecDepth 100000
section
variable {P : Program} {T : Ti} {β : Type}
end
end Go.Fz
namespace Go.Fz
open Go.Proofs
set_option maxRecDepth 100000
section
variable {P : Program} {T : Ti} {β : Type} [DecidableEq β]
end
end Go.Fz
namespace Go.Fz
open Go.Proofs
set_option maxRecDepth 100000
end Go.Fz
namespace Go.Fz
open Go.Proofs
set_option maxRecDepth 100000
end Go.Fz
namespace Go.Fz
open Go.Proofs
set_option maxRecDepth 100000
end Go.Fz
namespace Go.Fz
open Go.Proofs
set_option maxRecDepth 100000
section
variable (nw nl : Nat) (A B C D : Nat → Nat → Int) (a b c e : Nat → Int)
end
end Go.Fz
