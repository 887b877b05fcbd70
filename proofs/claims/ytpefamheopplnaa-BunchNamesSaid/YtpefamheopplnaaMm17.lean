/- Own work of the verifier of watercress: FzC19, FzC20, FzC21, FzC22, FzC23, FzC24. -/
import Derived.Test.YtpefamheopplnaaMm16
set_option linter.unusedVariables false
set_option linter.unusedSimpArgs false
namespace Go.Fz
section
variable {P : Program} {T : Ti}
def esOf (st : St) (a : AV) : Option (Nat × List (AV × AV × Nat) × Nat) := match a with
  | .mp id => match st.h.get id with
    | some (.map es clock) => some (id, es, clock)
    | _ => none
  | _ => none
theorem esOf_ok {φ : Fi} {st : St} {w : World} {a : AV} {u : Value} {id clock : Nat} {es : List (AV × AV × Nat)} (hr : Rel φ st w) (ha : VR φ a u) (h : esOf st a = some (id, es, clock)) :
    u = .map (some (φ.f id).b) ∧ id < φ.n ∧ st.h.get id = some (.map es clock) ∧ ∃ ces : Array MapEntry, w.heap[(φ.f id).b]? = some (.map ces clock) ∧ ces.size = es.length ∧
      ∀ (i : Nat) (x : AV × AV × Nat), es[i]? = some x → ∃ e, ces[i]? = some e ∧ VR φ x.1 e.key ∧ VR φ x.2.1 e.val ∧ e.born = x.2.2 := by
  unfold esOf at h
  split at h
  · rename_i id'
    split at h
    · rename_i es' clock' ho
      cases h
      obtain ⟨h1, h2⟩ := ha.mp_inv
      exact ⟨h1, h2, ho, hr.obj _ _ ho⟩
    · cases h
  · cases h
def itOf (st : St) (a : AV) : Option (Nat × Nat × Nat × List Nat × Nat) := match a with
  | .ptr rid 0 => match st.h.get rid with
    | some (.iter mid since seen last) => some (rid, mid, since, seen, last)
    | _ => none
  | _ => none
theorem itOf_ok {φ : Fi} {st : St} {w : World} {a : AV} {u : Value} {rid mid since last : Nat} {seen : List Nat} (hr : Rel φ st w) (ha : VR φ a u) (h : itOf st a = some (rid, mid, since, seen, last)) :
    u = .pointer (some ⟨(φ.f rid).b, 0, none⟩) ∧ st.h.get rid = some (.iter mid since seen last) ∧ w.heap[(φ.f rid).b]? = some (.mapIter (some (φ.f mid).b) since seen.toArray last) ∧ (φ.f rid).o = 0 ∧ mid < φ.n := by
  unfold itOf at h
  split at h
  · rename_i rid'
    split at h
    · rename_i mid' since' seen' last' ho
      cases h
      obtain ⟨h1, h2⟩ := ha.ptr_inv
      obtain ⟨h3, h4, h5⟩ := hr.obj _ _ ho
      exact ⟨by rw [h1, h4], ho, h3, h4, h5⟩
    · cases h
  · cases h
def bornsOk (es : List (AV × AV × Nat)) : Bool := decide ((es.map fun x => x.2.2).Nodup)
theorem range_ok {hT : TOk P T} {φ : Fi} {st : St} {w : World} {t kt : TypeId} {a : AV} {u : Value} {id clock : Nat} {es : List (AV × AV × Nat)} (hr : Rel φ st w) (ha : VR φ a u) (hd : mapD T t = some kt) (h : esOf st a = some (id, es, clock)) :
    ∃ φ' w' v, (Instr.range t u).run P w = .ok v w' ∧ VR φ' (.ptr st.n 0) v ∧ Rel φ' (st.push (.iter id clock [] clock)) w' ∧ Ext φ φ' ∧ Fr φ st w φ' (st.push (.iter id clock [] clock)) w' := by
  obtain ⟨e, hu⟩ := mapD_ok hT hd
  obtain ⟨rfl, hid, ho, ces, hb, hsz, hes⟩ := esOf_ok hr ha h
  have hrun := run_range_map (P := P) w t kt e (φ.f id).b ces clock hu hb
  have hp := hr.push (.mapIter (some (φ.f id).b) clock #[] clock) (.iter id clock [] clock) ⟨w.heap.size, 0, 0⟩ rfl (by
    refine ⟨?_, by rw [Fi.push_new], by rw [Fi.push_n]; exact Nat.lt_succ_of_lt hid⟩
    rw [Fi.push_new, (φ.push_ext _).f id hid]
    exact alloc_heap_new' w _) (fun _ h => by cases h)
  refine ⟨_, _, _, hrun, ?_, hp.1, φ.push_ext _, hp.2⟩
  have hv := VR.ptr (φ := φ.push ⟨w.heap.size, 0, 0⟩) φ.n 0 (by rw [Fi.push_n]; omega)
  rw [Fi.push_new] at hv
  rw [← hr.n]
  exact hv
theorem leftE_ok {φ : Fi} {es : List (AV × AV × Nat)} {ces : Array MapEntry} {seen : List Nat} (hsz : ces.size = es.length) (hes : ∀ (i : Nat) (x : AV × AV × Nat), es[i]? = some x → ∃ e, ces[i]? = some e ∧ VR φ x.1 e.key ∧ VR φ x.2.1 e.val ∧ e.born = x.2.2) {e : MapEntry} (he : e ∈ ces.toList) :
    ∃ x ∈ es, VR φ x.1 e.key ∧ VR φ x.2.1 e.val ∧ e.born = x.2.2 := by
  obtain ⟨i, hi, he2⟩ := List.getElem_of_mem he
  have hil : i < es.length := by rw [← hsz]; simpa using hi
  obtain ⟨e', h1, h2, h3, h4⟩ := hes i es[i] (List.getElem?_eq_getElem hil)
  have : e' = e := by
    rw [← Array.getElem?_toList, List.getElem?_eq_getElem hi, he2] at h1
    exact (Option.some.inj h1).symm
  subst this
  exact ⟨es[i], List.getElem_mem hil, h2, h3, h4⟩
theorem rightE_ok {φ : Fi} {es : List (AV × AV × Nat)} {ces : Array MapEntry} (hes : ∀ (i : Nat) (x : AV × AV × Nat), es[i]? = some x → ∃ e, ces[i]? = some e ∧ VR φ x.1 e.key ∧ VR φ x.2.1 e.val ∧ e.born = x.2.2) {x : AV × AV × Nat} (hx : x ∈ es) :
    ∃ e ∈ ces.toList, VR φ x.1 e.key ∧ VR φ x.2.1 e.val ∧ e.born = x.2.2 := by
  obtain ⟨i, hi, rfl⟩ := List.getElem_of_mem hx
  obtain ⟨e, h1, h2⟩ := hes i _ (List.getElem?_eq_getElem hi)
  rw [← Array.getElem?_toList] at h1
  exact ⟨e, List.mem_of_getElem? h1, h2⟩
theorem setHeapW_ok {φ : Fi} {st : St} {w : World} (hr : Rel φ st w) {id : Nat} {o o' : AObj} (ho : st.h.get id = some o) (hown : o.own = true) (hfam : o.fam = none) (hfam' : o'.fam = none) (co : Obj) (w0 : World) (hw0 : w0 = w ∨ w0 = w.drew) (hobj : ∀ w' : World, w'.heap[(φ.f id).b]? = some co → ObjR φ w' id o') :
    Rel φ ⟨st.h.set id o', st.n⟩ { w0 with heap := w0.heap.setIfInBounds (φ.f id).b co } ∧ Fr φ st w φ ⟨st.h.set id o', st.n⟩ { w0 with heap := w0.heap.setIfInBounds (φ.f id).b co } := by
  have hb := hr.blk id o ho
  have hh : w0.heap = w.heap := by rcases hw0 with rfl | rfl <;> rfl
  have h1 : w0.os = w.os ∧ w0.tape = w.tape ∧ w0.output = w.output := by rcases hw0 with rfl | rfl <;> exact ⟨rfl, rfl, rfl⟩
  refine hr.turn ho hown hfam hfam' h1.1 h1.2.1 h1.2.2 (by simp [hh]) (fun k hk => ?_) (hobj _ ?_)
  · simp only [hh]; rw [Array.getElem?_setIfInBounds_ne (Ne.symm hk)]
  · simp only [hh]; simp [hb]
theorem next_ok {φ : Fi} {st : St} {w : World} {ty : TypeId} {a : AV} {u : Value} {rid mid since last id clock : Nat} {seen : List Nat} {es : List (AV × AV × Nat)} (hr : Rel φ st w) (ha : VR φ a u) (h : itOf st a = some (rid, mid, since, seen, last)) (he : esOf st (.mp mid) = some (id, es, clock))
    (hc : (es.all (fun x => Nat.blt x.2.2 since) && Nat.ble since last) = true) :
    ((es.filter fun x => !(seen.contains x.2.2)) = [] ∧ (Instr.next u false ty).run P w = .ok (.tuple #[.bool false]) w) ∨
    ∃ x ∈ (es.filter fun x => !(seen.contains x.2.2)), ∃ w' v, (Instr.next u false ty).run P w = .ok v w' ∧ VR φ (.tup [.lit (.bool true), x.1, x.2.1]) v ∧
      Rel φ ⟨st.h.set rid (.iter mid since (seen ++ [x.2.2]) clock), st.n⟩ w' ∧ Fr φ st w φ ⟨st.h.set rid (.iter mid since (seen ++ [x.2.2]) clock), st.n⟩ w' := by
  obtain ⟨rfl, ho, hit, h0, hmid⟩ := itOf_ok hr ha h
  obtain ⟨hu, hid, hom, ces, hb, hsz, hes⟩ := esOf_ok hr (VR.mp mid hmid) he
  have hbb : (φ.f id).b = (φ.f mid).b := by simp only [Value.map.injEq, Option.some.injEq] at hu; exact hu.symm
  rw [hbb] at hb
  simp only [Bool.and_eq_true] at hc
  have hold : ∀ x ∈ ces.toList, x.born < since := fun e hem => by
    obtain ⟨x, hx, _, _, h4⟩ := leftE_ok (seen := []) hsz hes hem
    rw [h4]
    exact Nat.le_of_ble_eq_true (List.all_eq_true.1 hc.1 x hx)
  rcases run_next_at (P := P) w ty (φ.f rid).b (φ.f mid).b since last seen.toArray ces clock hit hb hold (Nat.le_of_ble_eq_true hc.2) with ⟨h1, h2⟩ | ⟨e, hel, w1, hw1, hrun⟩
  · left
    refine ⟨?_, h2⟩
    rw [List.filter_eq_nil_iff]
    intro x hx hns
    obtain ⟨e, hem, _, _, h4⟩ := rightE_ok hes hx
    have h5 : leftOf ces seen.toArray = #[] := Array.eq_empty_of_size_eq_zero h1
    unfold leftOf at h5
    rw [Array.filter_eq_empty_iff] at h5
    have := h5 e (Array.mem_toList_iff.1 hem)
    rw [h4] at this
    simp at this hns
    exact hns this
  · right
    unfold leftOf at hel
    have hel2 : e ∈ ces.toList ∧ seen.contains e.born = false := by simpa using hel
    obtain ⟨x, hx, h2, h3, h4⟩ := leftE_ok (seen := []) hsz hes hel2.1
    refine ⟨x, List.mem_filter.2 ⟨hx, by rw [← h4]; show (!seen.contains e.born) = true; rw [hel2.2]; rfl⟩, _, _, hrun, ?_, ?_⟩
    · exact .tup (us := [.bool true, e.key, e.val]) (.cons (.lit _) (.cons h2 (.cons h3 .nil)))
    · have := setHeapW_ok (o' := .iter mid since (seen ++ [x.2.2]) clock) hr ho rfl rfl rfl (.mapIter (some (φ.f mid).b) since (seen.toArray.push e.born) clock) w1 hw1 (fun w' hw' => ⟨by rw [hw', h4]; simp, h0, hmid⟩)
      exact this
theorem entry_ok {φ : Fi} {st : St} {w : World} {a : AV} {u : Value} {rid mid since last id clock s : Nat} {seen : List Nat} {es : List (AV × AV × Nat)} {x : AV × AV × Nat} (hr : Rel φ st w) (ha : VR φ a u) (h : itOf st a = some (rid, mid, since, seen, last)) (he : esOf st (.mp mid) = some (id, es, clock))
    (hs : seen.getLast? = some s) (hc : (Nat.beq clock last && bornsOk es) = true) (hf : es.filter (fun x => Nat.beq x.2.2 s) = [x]) :
    ∃ v, (Instr.entry u).run P w = .ok v w ∧ VR φ (.tup [x.1, x.2.1]) v := by
  obtain ⟨rfl, ho, hit, h0, hmid⟩ := itOf_ok hr ha h
  obtain ⟨hu, hid, hom, ces, hb, hsz, hes⟩ := esOf_ok hr (VR.mp mid hmid) he
  have hbb : (φ.f id).b = (φ.f mid).b := by simp only [Value.map.injEq, Option.some.injEq] at hu; exact hu.symm
  rw [hbb] at hb
  simp only [Bool.and_eq_true, bornsOk, decide_eq_true_eq] at hc
  have hcl := Nat.eq_of_beq_eq_true hc.1
  have hxm : x ∈ es.filter (fun x => Nat.beq x.2.2 s) := by rw [hf]; simp
  rw [List.mem_filter] at hxm
  have hxs := Nat.eq_of_beq_eq_true hxm.2
  obtain ⟨e, hem, h2, h3, h4⟩ := rightE_ok hes hxm.1
  have hborns : ces.toList.map (·.born) = es.map fun x => x.2.2 := by
    apply List.ext_getElem
    · simp [hsz]
    · intro i h1 h2
      simp only [List.length_map] at h1 h2
      obtain ⟨e, k1, _, _, k4⟩ := hes i es[i] (List.getElem?_eq_getElem h2)
      rw [List.getElem_map, List.getElem_map, ← k4]
      rw [← Array.getElem?_toList, List.getElem?_eq_getElem h1] at k1
      rw [Option.some.inj k1]
  have hseen : seen.toArray = seen.dropLast.toArray.push e.born := by
    obtain ⟨ys, hys⟩ := List.getLast?_eq_some_iff.1 hs
    rw [h4, hxs]
    subst hys
    simp
  have hrun := run_entry_at (P := P) w (φ.f rid).b (φ.f mid).b since seen.dropLast.toArray ces clock e (by rw [← hseen, hcl]; exact hit) hb hem (by rw [hborns]; exact hc.2)
  exact ⟨_, hrun, .tup (us := [e.key, e.val]) (.cons h2 (.cons h3 .nil))⟩
def rngAt (ops : Array Oper) (i : Nat) (f : Fm) : Option (TypeId × AV) := match ops[i]? with
  | none => none
  | some o => match wantA ops f.ts o with
    | some true => match o.op with
      | .range t x => some (t, Operand.av f.ts x)
      | _ => none
    | _ => none
theorem OpsW.range (hT : TOk P T) {rd : Option Nat} {ops : Array Oper} {L : Fm → St → Prop} {f : Fm} {st : St} {i : Nat} {l : List Nat} {t kt : TypeId} {a : AV} {id clock : Nat} {es : List (AV × AV × Nat)}
    (hx : rngAt ops i f = some (t, a)) (hd : mapD T t = some kt) (he : esOf st a = some (id, es, clock)) (h : OpsW P rd ops l L (putAt ops i f (.ptr st.n 0)) (st.push (.iter id clock [] clock))) : OpsW P rd ops (i :: l) L f st := by
  unfold rngAt at hx
  split at hx
  · cases hx
  · rename_i o ho
    split at hx
    · rename_i hw
      split at hx
      · rename_i t' x hop
        simp only [Option.some.injEq, Prod.mk.injEq] at hx
        obtain ⟨rfl, e2⟩ := hx
        have hput : ∀ v, putAt ops i f v = f.put o.dst v := fun v => by simp [putAt, ho]
        rw [hput] at h
        refine OpsW.value ho hw (fun c hc => by rw [hop] at hc; cases hc) (fun φ w a h2 h3 => ?_) h
        have a1 := opR_of h3.ts x
        rw [e2] at a1
        obtain ⟨φ', w', v, k1, k2, k3, k4, k5⟩ := range_ok (hT := hT) h2 a1 hd he
        exact ⟨φ', w', v, .inl (by simp [execOp, hop, k1, Result.andThen]), k2, k3, k4, k5⟩
      · cases hx
    · cases hx
end
end Go.Fz
namespace Go.Fz
open Go.Proofs
set_option maxRecDepth 100000
section
variable {α : Type} {next : α → (Nat → Int) → α} {N : Nat} {lo hi : Nat → Int}
theorem foldV_inv {I : α → Prop} {F : Int → α → α} (h : ∀ v a, I a → I (F v a)) (l : Int) {a : α} (ha : I a) : ∀ c, I (foldV F l c a)
  | 0 => ha
  | c + 1 => h _ _ (foldV_inv h l ha c)
theorem foldE_inv {I : α → Prop} (h : ∀ a f, I a → I (next a f)) : ∀ (j i : Nat) (f : Nat → Int) {a : α}, I a → I (foldE next N lo hi j i f a)
  | 0, _, f, a, ha => h a _ ha
  | j + 1, i, _, _, ha => foldV_inv (fun _ _ hb => foldE_inv h j (i + 1) _ hb) _ ha _
theorem foldV_ex {S : α → Prop} {F : Int → α → α} {G : Int → Prop} (h : ∀ v a, S (F v a) ↔ S a ∨ G v) (l : Int) (a : α) : ∀ c, S (foldV F l c a) ↔ S a ∨ ∃ v, l ≤ v ∧ v < l + (c : Nat) ∧ G v
  | 0 => ⟨.inl, fun h => h.elim id fun ⟨v, h1, h2, _⟩ => by omega⟩
  | c + 1 => by
    show S (F _ _) ↔ _
    rw [h, foldV_ex h l a c]
    constructor
    · rintro ((h1 | ⟨v, h1, h2, h3⟩) | h1)
      · exact .inl h1
      · exact .inr ⟨v, h1, by omega, h3⟩
      · exact .inr ⟨l + c, by omega, by omega, h1⟩
    · rintro (h1 | ⟨v, h1, h2, h3⟩)
      · exact .inl (.inl h1)
      · by_cases e : v = l + c
        · exact .inr (e ▸ h3)
        · exact .inl (.inr ⟨v, h1, by omega, h3⟩)
theorem foldE_ex {S : α → Prop} {g : (Nat → Int) → Prop} (h : ∀ a f, S (next a f) ↔ S a ∨ g f) : ∀ (j i : Nat) (f : Nat → Int) (a : α), i + j = N →
    (S (foldE next N lo hi j i f a) ↔ S a ∨ ∃ t, (∀ m, m < i → t m = f m) ∧ (∀ m, i ≤ m → m < N → lo m ≤ t m ∧ t m ≤ hi m) ∧ g (cutF N t))
  | 0, i, f, a, e => by
    show S (next a (cutF N f)) ↔ _
    rw [h]
    constructor
    · rintro (h1 | h1)
      · exact .inl h1
      · exact .inr ⟨f, fun _ _ => rfl, fun m h2 h3 => by omega, h1⟩
    · rintro (h1 | ⟨t, h1, _, h2⟩)
      · exact .inl h1
      · rw [cutF_congr (fun m hm => h1 m (by omega))] at h2
        exact .inr h2
  | j + 1, i, f, a, e => by
    have ih := fun v (b : α) => foldE_ex h j (i + 1) (setI f i v) b (by omega)
    have h2 := foldV_ex (S := S) (F := fun v b => foldE next N lo hi j (i + 1) (setI f i v) b) (G := fun v => ∃ t, (∀ m, m < i + 1 → t m = setI f i v m) ∧ (∀ m, i + 1 ≤ m → m < N → lo m ≤ t m ∧ t m ≤ hi m) ∧ g (cutF N t)) (fun v b => ih v b) (lo i) a (hi i - lo i + 1).toNat
    show S (foldV _ _ _ a) ↔ _
    rw [h2]
    constructor
    · rintro (h1 | ⟨v, k1, k2, t, k3, k4, k5⟩)
      · exact .inl h1
      · refine .inr ⟨t, fun m hm => ?_, fun m h3 h4 => ?_, k5⟩
        · rw [k3 m (by omega), setI_ne (by omega)]
        · by_cases em : m = i
          · subst em
            rw [k3 m (by omega), setI_self]; omega
          · exact k4 m (by omega) h4
    · rintro (h1 | ⟨t, k3, k4, k5⟩)
      · exact .inl h1
      · have hti := k4 i (Nat.le_refl _) (by omega)
        refine .inr ⟨t i, hti.1, by omega, t, fun m hm => ?_, fun m h3 h4 => k4 m (by omega) h4, k5⟩
        by_cases em : m = i
        · subst em; rw [setI_self]
        · rw [setI_ne em]; exact k3 m (by omega)
end
def DayD.inR (d : DayD) (f : Nat → Int) : Prop := ∀ m, m < d.nw + d.nl → d.ulo m ≤ f m ∧ f m ≤ d.uhi m
theorem seen_ex {d : DayD} {S : Pr → Prop} {g : (Nat → Int) → Prop} (h : ∀ a f, S (stNx d a f) ↔ S a ∨ g f) : S d.seen ↔ S pr0 ∨ ∃ t, d.inR t ∧ g (cutF (d.nw + d.nl) t) := by
  unfold DayD.seen
  rw [foldE_ex h _ _ _ _ (by omega)]
  constructor
  · rintro (h1 | ⟨t, _, h2, h3⟩)
    · exact .inl h1
    · exact .inr ⟨t, fun m hm => h2 m (Nat.zero_le _) hm, h3⟩
  · rintro (h1 | ⟨t, h2, h3⟩)
    · exact .inl h1
    · exact .inr ⟨t, fun m hm => absurd hm (Nat.not_lt_zero m), fun m _ hm => h2 m hm, h3⟩
theorem seen_out (d : DayD) (f : Nat → Int) : f ∈ d.seen.outs ↔ ∃ t, d.inR t ∧ cutF (d.nw + d.nl) t = f ∧ wrongOf d f = noMk := by
  rw [seen_ex (S := fun a => f ∈ a.outs) (g := fun t => t = f ∧ wrongOf d f = noMk) fun a t => by
    show f ∈ (if wrongOf d t = noMk then a.outs ++ [t] else a.outs) ↔ _
    by_cases h : wrongOf d t = noMk
    · rw [if_pos h, List.mem_append, List.mem_singleton]
      exact ⟨fun k => k.imp id fun e => ⟨e.symm, by rw [e]; exact h⟩, fun k => k.imp id fun e => e.1.symm⟩
    · rw [if_neg h]
      exact ⟨.inl, fun k => k.elim id fun e => absurd (by rw [e.1]; exact e.2) h⟩]
  constructor
  · rintro (h | ⟨t, h1, h2, h3⟩)
    · cases h
    · exact ⟨t, h1, h2, h3⟩
  · rintro ⟨t, h1, h2, h3⟩
    exact .inr ⟨t, h1, h2, h3⟩
def Born (E : List (Mk × Nat)) (c : Nat) : Prop := (∀ p ∈ E, p.2 < c) ∧ (E.map (·.2)).Nodup
theorem Born.upd {E : List (Mk × Nat)} {c : Nat} (h : Born E c) (b : Mk) : Born (updE E b c) (updC E b c) := by
  unfold updE updC
  split
  · exact h
  · refine ⟨fun p hp => ?_, ?_⟩
    · rcases List.mem_append.1 hp with hp | hp
      · have := h.1 p hp; omega
      · obtain rfl := List.mem_singleton.1 hp
        show c < c + 1; omega
    · rw [List.map_append, List.nodup_append]
      refine ⟨h.2, by simp, fun x hx y hy => ?_⟩
      obtain ⟨p, hp, rfl⟩ := List.mem_map.1 hx
      have := h.1 p hp
      simp at hy
      omega
theorem seen_born (d : DayD) : Born d.seen.E d.seen.cl := foldE_inv (I := fun a : Pr => Born a.E a.cl) (fun a f h => h.upd _) _ _ _ ⟨(fun p hp => by cases hp), List.nodup_nil⟩
end Go.Fz
namespace Go.Fz
open Go.Proofs
set_option maxRecDepth 100000
section
variable {P : Program} {T : Ti}
theorem OpsW.valueX {rd : Option Nat} {ops : Array Oper} {i : Nat} {l : List Nat} {K : Fm → St → Prop} {f : Fm} {st : St} {o : Oper} (ho : ops[i]? = some o) (hw : wantA ops f.ts o = some true) (hd : ∀ c, o.op ≠ .defer c)
    (hrun : ∀ (φ : Fi) (w : World) (a : Act), Rel φ st w → ActR φ f a → ∃ r st' φ' w' u, OpsW P rd ops l K (f.put o.dst r) st' ∧ (execOp a.eval o).run P w = .ok (.value u) w' ∧ VR φ' r u ∧ Rel φ' st' w' ∧ Ext φ φ' ∧ Fr φ st w φ' st' w') : OpsW P rd ops (i :: l) K f st := by
  intro φ w a n Q h1 h2 h3 hQ
  simp only [wpOpsIn, ho]
  rw [wanted_eq h3 ops hw]
  simp only [if_true]
  refine ⟨fun _ _ => trivial, ?_⟩
  rw [semAt_eq hd]
  obtain ⟨r, st', φ', w', u, h, hr, hv, hrel, he, hf⟩ := hrun φ w a h2 h3
  have h4 := h φ' w' (a.put o.dst u) n Q (fun id hi => Nat.lt_of_lt_of_le (h1 id hi) he.n) hrel ((h3.mono he).put o.dst hv) (fun a' w'' hl => hQ a' w'' (hl.trans he hf))
  rw [rdB_ext he h1] at h4
  rw [hr]; exact h4
def nextAt (ops : Array Oper) (i : Nat) (f : Fm) : Option AV := match ops[i]? with
  | none => none
  | some o => match wantA ops f.ts o with
    | some true => match o.op with
      | .next it false => some (Operand.av f.ts it)
      | _ => none
    | _ => none
theorem OpsW.nextL {rd : Option Nat} {ops : Array Oper} {i : Nat} {l : List Nat} {f : Fm} {st : St} {K : Fm → St → Prop} {a : AV}
    {rid mid since last id clock : Nat} {seen : List Nat} {es : List (AV × AV × Nat)} (hx : nextAt ops i f = some a) (hit : itOf st a = some (rid, mid, since, seen, last)) (hes : esOf st (.mp mid) = some (id, es, clock))
    (hc : (es.all (fun x => Nat.blt x.2.2 since) && Nat.ble since last) = true)
    (hend : (es.filter fun x => !(seen.contains x.2.2)) = [] → OpsW P rd ops l K (putAt ops i f (.tup [.lit (.bool false)])) st)
    (hgo : ∀ x ∈ es, seen.contains x.2.2 = false → OpsW P rd ops l K (putAt ops i f (.tup [.lit (.bool true), x.1, x.2.1])) ⟨st.h.set rid (.iter mid since (seen ++ [x.2.2]) clock), st.n⟩) : OpsW P rd ops (i :: l) K f st := by
  unfold nextAt at hx
  split at hx
  · cases hx
  · rename_i o ho
    split at hx
    · rename_i hw
      split at hx
      · rename_i it hop
        simp only [Option.some.injEq] at hx
        have hput : ∀ v, putAt ops i f v = f.put o.dst v := fun v => by simp [putAt, ho]
        simp only [hput] at hend hgo
        refine OpsW.valueX ho hw (fun c hc => by rw [hop] at hc; cases hc) fun φ w a h2 h3 => ?_
        have a1 := opR_of h3.ts it
        rw [hx] at a1
        rcases next_ok (P := P) (ty := o.type) h2 a1 hit hes hc with ⟨k1, k2⟩ | ⟨x, hxm, w', v, k2, k3, k4, k5⟩
        · exact ⟨_, st, φ, w, _, hend k1, by simp [execOp, hop, k2, Result.andThen], .tup (us := [.bool false]) (.cons (.lit _) .nil), h2, Ext.refl _, Fr.refl _ _ _⟩
        · obtain ⟨h5, h6⟩ := List.mem_filter.1 hxm
          exact ⟨_, _, φ, w', v, hgo x h5 (by simpa using h6), by simp [execOp, hop, k2, Result.andThen], k3, k4, Ext.refl _, k5⟩
      · cases hx
    · cases hx
def entAt (ops : Array Oper) (i : Nat) (f : Fm) : Option AV := match ops[i]? with
  | none => none
  | some o => match wantA ops f.ts o with
    | some true => match o.op with
      | .entry it => some (Operand.av f.ts it)
      | _ => none
    | _ => none
theorem OpsW.entryL {rd : Option Nat} {ops : Array Oper} {i : Nat} {l : List Nat} {f : Fm} {st : St} {K : Fm → St → Prop} {a : AV}
    {rid mid since last id clock s : Nat} {seen : List Nat} {es : List (AV × AV × Nat)} {x : AV × AV × Nat} (hx : entAt ops i f = some a) (hit : itOf st a = some (rid, mid, since, seen, last)) (hes : esOf st (.mp mid) = some (id, es, clock))
    (hs : seen.getLast? = some s) (hc : (Nat.beq clock last && bornsOk es) = true) (hf : es.filter (fun x => Nat.beq x.2.2 s) = [x]) (h : OpsW P rd ops l K (putAt ops i f (.tup [x.1, x.2.1])) st) : OpsW P rd ops (i :: l) K f st := by
  unfold entAt at hx
  split at hx
  · cases hx
  · rename_i o ho
    split at hx
    · rename_i hw
      split at hx
      · rename_i it hop
        simp only [Option.some.injEq] at hx
        have hput : ∀ v, putAt ops i f v = f.put o.dst v := fun v => by simp [putAt, ho]
        rw [hput] at h
        refine OpsW.value ho hw (fun c hc => by rw [hop] at hc; cases hc) (fun φ w a h2 h3 => ?_) h
        have a1 := opR_of h3.ts it
        rw [hx] at a1
        obtain ⟨v, k1, k2⟩ := entry_ok (P := P) h2 a1 hit hes hs hc hf
        exact ⟨φ, w, v, .inl (by simp [execOp, hop, k1, Result.andThen]), k2, h2, Ext.refl _, Fr.refl _ _ _⟩
      · cases hx
    · cases hx
end
def firstM (b : Mk) : Int := if b.1 then 0 else if b.2.1 then 1 else if b.2.2.1 then 2 else if b.2.2.2.1 then 3 else if b.2.2.2.2 then 4 else 5
def noneUp (b : Mk) : Nat → Prop
  | 0 => True
  | 1 => b.1 = false
  | 2 => b.1 = false ∧ b.2.1 = false
  | 3 => b.1 = false ∧ b.2.1 = false ∧ b.2.2.1 = false
  | 4 => b.1 = false ∧ b.2.1 = false ∧ b.2.2.1 = false ∧ b.2.2.2.1 = false
  | 5 => b.1 = false ∧ b.2.1 = false ∧ b.2.2.1 = false ∧ b.2.2.2.1 = false ∧ b.2.2.2.2 = false
  | _ => False
theorem mkV_below (b : Mk) : Below 0 (mkV b) := Below.agg (AllB.ok ⟨Below.sb, Below.sb, Below.sb, Below.sb, Below.sb, trivial⟩)
set_option maxHeartbeats 8000000 in
theorem first_ok (b : Mk) : Pure Try.prog 77 [mkV b] (iV (firstM b)) := by
  obtain ⟨O, hO⟩ : ∃ O : Ar, O = std := ⟨_, rfl⟩
  obtain ⟨b0, b1, b2, b3, b4⟩ := b
  refine pure_of_body tok 3 Try.func77 en77 rfl ⟨mkV_below _, trivial⟩ Below.lit ?_
  refine SW.seqRun tok hO (by cbv <;> rfl) (by trivial) ?_
  refine SW.seq ?_
  refine SW.seqRun tok hO (by cbv <;> rfl) (by trivial) ?_
  refine (SW.block (SW.loopF (fun i : Nat => ⟨⟨13, getT [(5, mkV (b0, b1, b2, b3, b4)), (6, iV i)]⟩, []⟩) (fun _ => ⟨[], 1⟩) (fun i => 5 - i) (fun i => noneUp (b0, b1, b2, b3, b4) i) 0
    (fun _ => rfl) trivial (Weak.by rfl rfl (by simp) (Nat.le_refl _) (Nat.le_refl _) ⟨⟨rfl, .inl rfl⟩, ⟨rfl, .inl rfl⟩, trivial⟩ trivial) fun i hi => ?_))
  have hi5 : i ≤ 5 := by
    match i, hi with
    | 0, _ | 1, _ | 2, _ | 3, _ | 4, _ | 5, _ => omega
  obtain rfl | rfl | rfl | rfl | rfl | rfl : i = 0 ∨ i = 1 ∨ i = 2 ∨ i = 3 ∨ i = 4 ∨ i = 5 := by omega
  · refine SW.seqRun tok hO (by cbv <;> rfl) (by trivial) ?_
    refine SW.seq (SW.condS (by cbv <;> rfl) (fun h => SW.skip ?_) (fun h => ?_))
    · refine SW.seq (SW.block ?_)
      refine SW.seqRun tok hO (by cbv <;> rfl) (by trivial) ?_
      refine SW.seqRun tok hO (by cbv <;> rfl) (by trivial) ?_
      refine SW.condS (by cbv <;> rfl) (fun h2 => ?_) (fun h2 => SW.skip ?_)
      · have h3 : b0 = true := by subst hO; exact h2
        refine SW.seqRun tok hO (by cbv <;> rfl) (by trivial) ?_
        refine SW.ret ⟨_, _, rfl, rfl, Eqv.int ?_⟩
        simp only [noneUp] at hi
        simp [firstM, h3, hi]
      · have h3 : b0 = false := by subst hO; exact h2
        refine SW.run tok hO (by cbv <;> rfl) (by trivial) ?_
        refine ⟨1, by omega, ?_, Weak.by rfl rfl (fun _ h => nomatch h) (Nat.le_refl _) (Nat.le_refl _) ⟨⟨rfl, .inl rfl⟩, ⟨inc_ok hO (by omega), .inl rfl⟩, trivial⟩ trivial⟩
        simp only [noneUp]
        exact h3
    · exfalso
      subst hO; simp [std] at h
  · refine SW.seqRun tok hO (by cbv <;> rfl) (by trivial) ?_
    refine SW.seq (SW.condS (by cbv <;> rfl) (fun h => SW.skip ?_) (fun h => ?_))
    · refine SW.seq (SW.block ?_)
      refine SW.seqRun tok hO (by cbv <;> rfl) (by trivial) ?_
      refine SW.seqRun tok hO (by cbv <;> rfl) (by trivial) ?_
      refine SW.condS (by cbv <;> rfl) (fun h2 => ?_) (fun h2 => SW.skip ?_)
      · have h3 : b1 = true := by subst hO; exact h2
        refine SW.seqRun tok hO (by cbv <;> rfl) (by trivial) ?_
        refine SW.ret ⟨_, _, rfl, rfl, Eqv.int ?_⟩
        simp only [noneUp] at hi
        simp [firstM, h3, hi]
      · have h3 : b1 = false := by subst hO; exact h2
        refine SW.run tok hO (by cbv <;> rfl) (by trivial) ?_
        refine ⟨2, by omega, ?_, Weak.by rfl rfl (fun _ h => nomatch h) (Nat.le_refl _) (Nat.le_refl _) ⟨⟨rfl, .inl rfl⟩, ⟨inc_ok hO (by omega), .inl rfl⟩, trivial⟩ trivial⟩
        simp only [noneUp]
        simp only [noneUp] at hi
        simp [h3, hi]
    · exfalso
      subst hO; simp [std] at h
  · refine SW.seqRun tok hO (by cbv <;> rfl) (by trivial) ?_
    refine SW.seq (SW.condS (by cbv <;> rfl) (fun h => SW.skip ?_) (fun h => ?_))
    · refine SW.seq (SW.block ?_)
      refine SW.seqRun tok hO (by cbv <;> rfl) (by trivial) ?_
      refine SW.seqRun tok hO (by cbv <;> rfl) (by trivial) ?_
      refine SW.condS (by cbv <;> rfl) (fun h2 => ?_) (fun h2 => SW.skip ?_)
      · have h3 : b2 = true := by subst hO; exact h2
        refine SW.seqRun tok hO (by cbv <;> rfl) (by trivial) ?_
        refine SW.ret ⟨_, _, rfl, rfl, Eqv.int ?_⟩
        simp only [noneUp] at hi
        simp [firstM, h3, hi]
      · have h3 : b2 = false := by subst hO; exact h2
        refine SW.run tok hO (by cbv <;> rfl) (by trivial) ?_
        refine ⟨3, by omega, ?_, Weak.by rfl rfl (fun _ h => nomatch h) (Nat.le_refl _) (Nat.le_refl _) ⟨⟨rfl, .inl rfl⟩, ⟨inc_ok hO (by omega), .inl rfl⟩, trivial⟩ trivial⟩
        simp only [noneUp]
        simp only [noneUp] at hi
        simp [h3, hi]
    · exfalso
      subst hO; simp [std] at h
  · refine SW.seqRun tok hO (by cbv <;> rfl) (by trivial) ?_
    refine SW.seq (SW.condS (by cbv <;> rfl) (fun h => SW.skip ?_) (fun h => ?_))
    · refine SW.seq (SW.block ?_)
      refine SW.seqRun tok hO (by cbv <;> rfl) (by trivial) ?_
      refine SW.seqRun tok hO (by cbv <;> rfl) (by trivial) ?_
      refine SW.condS (by cbv <;> rfl) (fun h2 => ?_) (fun h2 => SW.skip ?_)
      · have h3 : b3 = true := by subst hO; exact h2
        refine SW.seqRun tok hO (by cbv <;> rfl) (by trivial) ?_
        refine SW.ret ⟨_, _, rfl, rfl, Eqv.int ?_⟩
        simp only [noneUp] at hi
        simp [firstM, h3, hi]
      · have h3 : b3 = false := by subst hO; exact h2
        refine SW.run tok hO (by cbv <;> rfl) (by trivial) ?_
        refine ⟨4, by omega, ?_, Weak.by rfl rfl (fun _ h => nomatch h) (Nat.le_refl _) (Nat.le_refl _) ⟨⟨rfl, .inl rfl⟩, ⟨inc_ok hO (by omega), .inl rfl⟩, trivial⟩ trivial⟩
        simp only [noneUp]
        simp only [noneUp] at hi
        simp [h3, hi]
    · exfalso
      subst hO; simp [std] at h
  · refine SW.seqRun tok hO (by cbv <;> rfl) (by trivial) ?_
    refine SW.seq (SW.condS (by cbv <;> rfl) (fun h => SW.skip ?_) (fun h => ?_))
    · refine SW.seq (SW.block ?_)
      refine SW.seqRun tok hO (by cbv <;> rfl) (by trivial) ?_
      refine SW.seqRun tok hO (by cbv <;> rfl) (by trivial) ?_
      refine SW.condS (by cbv <;> rfl) (fun h2 => ?_) (fun h2 => SW.skip ?_)
      · have h3 : b4 = true := by subst hO; exact h2
        refine SW.seqRun tok hO (by cbv <;> rfl) (by trivial) ?_
        refine SW.ret ⟨_, _, rfl, rfl, Eqv.int ?_⟩
        simp only [noneUp] at hi
        simp [firstM, h3, hi]
      · have h3 : b4 = false := by subst hO; exact h2
        refine SW.run tok hO (by cbv <;> rfl) (by trivial) ?_
        refine ⟨5, by omega, ?_, Weak.by rfl rfl (fun _ h => nomatch h) (Nat.le_refl _) (Nat.le_refl _) ⟨⟨rfl, .inl rfl⟩, ⟨inc_ok hO (by omega), .inl rfl⟩, trivial⟩ trivial⟩
        simp only [noneUp]
        simp only [noneUp] at hi
        simp [h3, hi]
    · exfalso
      subst hO; simp [std] at h
  · refine SW.seqRun tok hO (by cbv <;> rfl) (by trivial) ?_
    refine SW.seq (SW.condS (by cbv <;> rfl) (fun h => ?_) (fun h => SW.exit ?_))
    · exfalso
      subst hO; simp [std] at h
    · refine SW.seqRun tok hO (by cbv <;> rfl) (by trivial) ?_
      refine SW.ret ⟨_, _, rfl, rfl, Eqv.int ?_⟩
      simp only [noneUp] at hi
      simp [firstM, hi]
end Go.Fz
namespace Go.Fz
open Go.Proofs
set_option maxRecDepth 100000
theorem filter_lt {γ : Type} {P P' : γ → Bool} (h : ∀ q, P' q = true → P q = true) : ∀ {l : List γ} {p : γ}, p ∈ l → P p = true → P' p = false → (l.filter P').length < (l.filter P).length
  | x :: l, p, hp, h1, h2 => by
    have hle : ∀ l : List γ, (l.filter P').length ≤ (l.filter P).length := fun l => by
      induction l with
      | nil => simp
      | cons y l ih =>
        simp only [List.filter_cons]
        cases h3 : P' y with
        | true => rw [h y h3]; simpa using ih
        | false => cases P y <;> simp <;> omega
    simp only [List.filter_cons]
    rcases List.mem_cons.1 hp with rfl | hp
    · rw [h1, h2]
      have := hle l
      simp; omega
    · have ih := filter_lt h hp h1 h2
      cases h3 : P' x with
      | true => rw [h x h3]; simpa using ih
      | false => cases P x <;> simp <;> omega
theorem filter_one' {γ : Type} {g : γ → Nat} : ∀ {l : List γ} {x : γ}, (l.map g).Nodup → x ∈ l → l.filter (fun y => Nat.beq (g y) (g x)) = [x]
  | y :: l, x, hn, hx => by
    rw [List.map_cons, List.nodup_cons] at hn
    rw [List.filter_cons]
    rcases List.mem_cons.1 hx with rfl | hx
    · rw [if_pos (Nat.beq_refl _)]
      congr 1
      rw [List.filter_eq_nil_iff]
      intro z hz he
      exact hn.1 (List.mem_map.2 ⟨z, hz, Nat.eq_of_beq_eq_true he⟩)
    · rw [if_neg (fun he => hn.1 (List.mem_map.2 ⟨x, hx, (Nat.eq_of_beq_eq_true he).symm⟩))]
      exact filter_one' hn.2 hx
def mxL (l : List Int) : Int := l.foldl (fun a b => if a < b then b else a) 0
theorem mx_go : ∀ (l : List Int) (a : Int), (a ≤ l.foldl (fun a b => if a < b then b else a) a ∧ ∀ v ∈ l, v ≤ l.foldl (fun a b => if a < b then b else a) a) ∧ (l.foldl (fun a b => if a < b then b else a) a = a ∨ l.foldl (fun a b => if a < b then b else a) a ∈ l)
  | [], a => ⟨⟨Int.le_refl _, fun v h => by cases h⟩, .inl rfl⟩
  | b :: l, a => by
    obtain ⟨⟨h1, h2⟩, h3⟩ := mx_go l (if a < b then b else a)
    simp only [List.foldl_cons]
    refine ⟨⟨?_, fun v hv => ?_⟩, ?_⟩
    · by_cases h : a < b
      · rw [if_pos h] at h1 ⊢; omega
      · rw [if_neg h] at h1 ⊢; omega
    · rcases List.mem_cons.1 hv with rfl | hv
      · by_cases h : a < v
        · rw [if_pos h] at h1 ⊢; omega
        · rw [if_neg h] at h1 ⊢; omega
      · exact h2 v hv
    · rcases h3 with h3 | h3
      · rw [h3]
        split
        · exact .inr List.mem_cons_self
        · exact .inl rfl
      · exact .inr (List.mem_cons_of_mem _ h3)
theorem mxL_le {l : List Int} {v : Int} (h : v ∈ l) : v ≤ mxL l := (mx_go l 0).1.2 v h
theorem mxL_nn (l : List Int) : 0 ≤ mxL l := (mx_go l 0).1.1
theorem mxL_mem (l : List Int) : mxL l = 0 ∨ mxL l ∈ l := (mx_go l 0).2
theorem mxL_congr {l m : List Int} (h : ∀ v, v ∈ l ↔ v ∈ m) : mxL l = mxL m := by
  have h1 : mxL l ≤ mxL m := by
    rcases mxL_mem l with e | e
    · rw [e]; exact mxL_nn m
    · exact mxL_le ((h _).1 e)
  have h2 : mxL m ≤ mxL l := by
    rcases mxL_mem m with e | e
    · rw [e]; exact mxL_nn l
    · exact mxL_le ((h _).2 e)
  omega
theorem mxL_snoc (l : List Int) (b : Int) : mxL (l ++ [b]) = if mxL l < b then b else mxL l := by
  unfold mxL; rw [List.foldl_append]; rfl
def firsts (E : List (Mk × Nat)) : List Int := E.map fun p => firstM p.1
def DayD.firstV (d : DayD) : Int := mxL (firsts d.seen.E)
set_option maxHeartbeats 16000000 in
theorem first_core (d : DayD) (E : List (Mk × Nat)) (cl : Nat) (l : List (Nat → Int)) (hb : Born E cl)
    (e1 : Pure Try.prog 40 [dayV d] (iV 0)) (e2 : Fresh Try.prog 76 [dayV d] (workM d l) (mapE mkV E) cl) :
    Pure Try.prog 30 [dayV d] (.tup [iV (if (d.nc : Int) ≤ mxL (firsts E) then 0 else mxL (firsts E)), iV (if (d.nc : Int) ≤ mxL (firsts E) then 7 else 0)]) := by
  obtain ⟨O, hO⟩ : ∃ O : Ar, O = std := ⟨_, rfl⟩
  refine pure_of_body tok 3 Try.func30 en30 rfl ⟨dayV_below d, trivial⟩ (Below.tup (AllB.ok ⟨Below.lit, Below.lit, trivial⟩)) ?_
  have hWW : workM d l = fun k => .agg [iV d.hand, iV d.flat, womsV d, lotsV d, cntsV d, outsI d l, .mp k] := rfl
  rw [hWW] at e2
  have hXO : outsI d l = nl3 ∨ ∃ L G, outsI d l = .isl L 8 false G := by
    cases l with
    | nil => exact .inl rfl
    | cons f l => exact .inr ⟨_, _, rfl⟩
  generalize outsI d l = XO at e2 hXO
  have hes : ∀ x ∈ mapE mkV E, ∃ p ∈ E, x = (mkV p.1, .lit (.bool true), p.2) := fun x hx => by
    obtain ⟨p, hp, rfl⟩ := List.mem_map.1 hx
    exact ⟨p, hp, rfl⟩
  have hborn : ((mapE mkV E).all (fun x => Nat.blt x.2.2 cl) && Nat.ble cl cl) = true := by
    rw [Bool.and_eq_true]
    refine ⟨List.all_eq_true.2 fun x hx => ?_, by rw [Nat.ble_eq]; exact Nat.le_refl _⟩
    obtain ⟨p, hp, rfl⟩ := hes x hx
    show Nat.ble _ _ = true
    rw [Nat.ble_eq]
    exact hb.1 p hp
  have hmap : (mapE mkV E).map (fun x => x.2.2) = E.map (·.2) := by simp [mapE, List.map_map, Function.comp_def]
  have hborn2 : (Nat.beq cl cl && bornsOk (mapE mkV E)) = true := by
    rw [Nat.beq_refl, Bool.true_and]
    unfold bornsOk
    rw [hmap]
    exact decide_eq_true hb.2
  have hclosed := mapE_closed E
  obtain ⟨ME, hME⟩ : ∃ m, mapE mkV E = m := ⟨_, rfl⟩
  rw [hME] at e2 hes hborn hborn2 hmap hclosed
  refine SW.seqRun tok hO (by cbv <;> rfl) (by trivial) ?_
  refine SW.seq ?_
  refine SW.seqRun tok hO (by cbv <;> rfl) (by trivial) ?_
  refine OpsW.callP e1 (by cbv <;> rfl) ?_
  refine OpsW.run tok hO (by cbv <;> rfl) (by trivial) ?_
  refine SW.seqRun tok hO (by cbv <;> rfl) (by trivial) ?_
  refine SW.condS (by cbv <;> rfl) (fun h1 => ?_) (fun h1 => SW.skip ?_)
  · exfalso
    subst hO; simp [std] at h1
  refine SW.seqRun tok hO (by cbv <;> rfl) (by trivial) ?_
  refine SW.seq ?_
  refine SW.seq ((show SW Try.prog none _ (midK 30 [(1, .ptr 0 0), (5, iV 0), (15, .ptr 2 0)] ⟨[(2, .iter 1 cl [] cl), (1, .map ME cl), (0, .cells none false (dayC d))], 3⟩) _ _ from ?_).mono fun e f st hm => ?_)
  · rcases hXO with rfl | ⟨L, G, rfl⟩
    · refine SW.runN tok hO 1 (by cbv <;> rfl) (by trivial) ?_
      refine OpsW.callS e2.ent (e2.call _) (by cbv <;> rfl) fun v st' hk => ?_
      obtain ⟨rfl, rfl⟩ := hk
      refine OpsW.runN tok hO 1 (by cbv <;> rfl) (by trivial) ?_
      refine OpsW.range tok (kt := 145) (by cbv <;> rfl) (by kernel_rfl) (by rfl) ?_
      exact OpsW.nil ⟨rfl, _, rfl, ⟨rfl, rfl, rfl, trivial⟩, rfl⟩
    · refine SW.runN tok hO 1 (by cbv <;> rfl) (by trivial) ?_
      refine OpsW.callS e2.ent (e2.call _) (by cbv <;> rfl) fun v st' hk => ?_
      obtain ⟨rfl, rfl⟩ := hk
      refine OpsW.runN tok hO 1 (by cbv <;> rfl) (by trivial) ?_
      refine OpsW.range tok (kt := 145) (by cbv <;> rfl) (by kernel_rfl) (by rfl) ?_
      exact OpsW.nil ⟨rfl, _, rfl, ⟨rfl, rfl, rfl, trivial⟩, rfl⟩
  obtain ⟨rfl, g, rfl, ⟨g1, g5, g15, _⟩, rfl⟩ := hm
  simp only at g1 g5 g15
  rw [← updT_self g1, ← updT_self g5, ← updT_self g15]
  clear e2 hXO
  show SW _ _ _ _ _ _
  refine (SW.block (SW.loopM (fun x : List (Mk × Nat) => ⟨⟨30, getT [(1, .ptr 0 0), (5, iV (mxL (firsts x))), (15, .ptr 2 0)]⟩, []⟩) (fun x => ⟨[(2, .iter 1 cl (x.map (·.2)) cl), (1, .map ME cl), (0, .cells none false (dayC d))], 3⟩) (fun x => (ME.filter fun y => !((x.map (·.2)).contains y.2.2)).length) (fun x => ∀ p ∈ x, p ∈ E) []
    (fun _ => rfl) (fun _ h => nomatch h) (Weak.by rfl rfl (by simp) (Nat.le_refl _) (Nat.le_refl _) ⟨⟨rfl, .inl rfl⟩, ⟨rfl, .inl rfl⟩, ⟨rfl, .inl rfl⟩, trivial⟩ ⟨⟨rfl, by show 2 < 3; omega, .inl rfl⟩, ⟨rfl, by show 1 < 3; omega, .inl rfl⟩, ⟨rfl, by show 0 < 3; omega, .inl rfl⟩, trivial⟩) fun x hx => ?_))
  obtain ⟨S, hS⟩ : ∃ s, x.map (·.2) = s := ⟨_, rfl⟩
  obtain ⟨V, hV⟩ : ∃ s, mxL (firsts x) = s := ⟨_, rfl⟩
  rw [hS, hV]
  refine SW.seq (SW.runN tok hO 0 (by cbv <;> rfl) (by trivial) ?_)
  refine OpsW.nextL (a := .ptr 2 0) (by cbv <;> rfl) (by rfl) (by rfl) hborn (fun hend => ?_) (fun y hy hny => ?_)
  · refine OpsW.run tok hO (by cbv <;> rfl) (by trivial) ?_
    refine SW.seq (SW.cond (t := false) (by cbv <;> rfl) (SW.exit ?_))
    have hVE : V = mxL (firsts E) := by
      rw [← hV]
      refine mxL_congr fun v => ⟨fun h => ?_, fun h => ?_⟩
      · obtain ⟨p, hp, rfl⟩ := List.mem_map.1 h
        exact List.mem_map.2 ⟨p, hx p hp, rfl⟩
      · obtain ⟨p, hp, rfl⟩ := List.mem_map.1 h
        have hm : (mkV p.1, AV.lit (.bool true), p.2) ∈ ME := by rw [← hME]; exact List.mem_map.2 ⟨p, hp, rfl⟩
        have hin : p.2 ∈ S := by
          have := List.filter_eq_nil_iff.1 hend _ hm
          simpa using this
        rw [← hS] at hin
        obtain ⟨q, hq, hqp⟩ := List.mem_map.1 hin
        have h5 : q ∈ E.filter (fun y => Nat.beq y.2 p.2) := List.mem_filter.2 ⟨hx q hq, by show Nat.beq q.2 p.2 = true; rw [hqp]; exact Nat.beq_refl _⟩
        rw [filter_one' (g := fun y : Mk × Nat => y.2) hb.2 hp, List.mem_singleton] at h5
        rw [← h5]
        exact List.mem_map.2 ⟨q, hq, rfl⟩
    rw [← hVE]
    refine SW.seq ?_
    refine SW.seqRun tok hO (by cbv <;> rfl) (by trivial) ?_
    refine SW.condS (by cbv <;> rfl) (fun h3 => ?_) (fun h3 => SW.skip ?_)
    · have h4 : (d.nc : Int) ≤ V := by subst hO; simpa [std] using h3
      rw [if_pos h4, if_pos h4]
      refine SW.seqRun tok hO (by cbv <;> rfl) (by trivial) ?_
      exact SW.ret ⟨_, _, rfl, rfl, Eqv.of rfl⟩
    · have h4 : ¬ (d.nc : Int) ≤ V := by subst hO; simpa [std] using h3
      rw [if_neg h4, if_neg h4]
      refine SW.seqRun tok hO (by cbv <;> rfl) (by trivial) ?_
      exact SW.ret ⟨_, _, rfl, rfl, Eqv.of rfl⟩
  · obtain ⟨p, hp, rfl⟩ := hes y hy
    have hf := first_ok p.1
    have hfil : ME.filter (fun x => Nat.beq x.2.2 p.2) = [(mkV p.1, .lit (.bool true), p.2)] := filter_one' (g := fun x : AV × AV × Nat => x.2.2) (x := (mkV p.1, .lit (.bool true), p.2)) (by rw [hmap]; exact hb.2) hy
    generalize hfv : firstM p.1 = fv at hf
    obtain ⟨⟨b0, b1, b2, b3, b4⟩, born⟩ := p
    obtain ⟨S2, hS2⟩ : ∃ s, S ++ [born] = s := ⟨_, rfl⟩
    show OpsW _ _ _ _ _ _ ⟨[(2, .iter 1 cl (S ++ [born]) cl), (1, .map ME cl), (0, .cells none false (dayC d))], 3⟩
    rw [hS2]
    refine OpsW.run tok hO (by cbv <;> rfl) (by trivial) ?_
    refine SW.seq (SW.cond (t := true) (by cbv <;> rfl) (SW.skip ?_))
    refine SW.block ?_
    refine SW.seq (SW.runN tok hO 0 (by cbv <;> rfl) (by trivial) ?_)
    have hlast : S2.getLast? = some born := by rw [← hS2]; simp
    refine OpsW.entryL (a := .ptr 2 0) (by cbv <;> rfl) (by rfl) (by rfl) hlast hborn2 hfil ?_
    refine OpsW.run tok hO (by cbv <;> rfl) (by trivial) ?_
    refine SW.runN tok hO 2 (by cbv <;> rfl) (by trivial) ?_
    refine OpsW.callP hf (by cbv <;> rfl) ?_
    refine OpsW.run tok hO (by cbv <;> rfl) (by trivial) ?_
    have hmx : O.mx V fv = mxL (firsts (x ++ [((b0, b1, b2, b3, b4), born)])) := by
      unfold firsts
      rw [List.map_append, List.map_singleton, mxL_snoc]
      show _ = if mxL (firsts x) < firstM (b0, b1, b2, b3, b4) then firstM (b0, b1, b2, b3, b4) else mxL (firsts x)
      rw [hV, hfv]
      subst hO; rfl
    have hSx : (x ++ [((b0, b1, b2, b3, b4), born)]).map (·.2) = S2 := by rw [List.map_append, hS, ← hS2]; rfl
    refine ⟨x ++ [((b0, b1, b2, b3, b4), born)], ?_, fun q hq => ?_, ?_⟩
    · rw [hSx]
      refine filter_lt (fun q h => ?_) hy ?_ ?_
      · rw [← hS2] at h
        simp at h ⊢
        exact h.1
      · show (!S.contains born) = true
        have : S.contains born = false := hny
        rw [this]; rfl
      · show (!S2.contains born) = false
        rw [← hS2]
        simp
    · rcases List.mem_append.1 hq with hq | hq
      · exact hx q hq
      · rw [List.mem_singleton.1 hq]; exact hp
    · rw [hSx]
      refine WeakM.by rfl rfl (fun _ h => nomatch h) (Nat.le_refl _) (by show 3 ≤ 4; omega) ⟨⟨rfl, .inr (Below.ptr (by omega))⟩, ⟨congrArg (fun z => AV.lit (.int .i64 z)) hmx, .inr Below.lit⟩, ⟨rfl, .inr (Below.ptr (by omega))⟩, trivial⟩ ⟨⟨rfl, by show 2 < 3; omega, .inr (show 1 < 3 by omega)⟩, ⟨rfl, by show 1 < 3; omega, .inr fun y hy => ?_⟩, ⟨rfl, by show 0 < 3; omega, .inr ⟨fun a ha => Below.up (m := 0) (dayC_below d a ha), fun _ h => nomatch h⟩⟩, trivial⟩
      exact ⟨Below.up (m := 0) (hclosed y hy).1, Below.up (m := 0) (hclosed y hy).2⟩
def DayD.firstE (d : DayD) : Int := if (d.nc : Int) ≤ d.firstV then 7 else 0
theorem firstP_ok (d : DayD) (hs : d.small) (hc : d.check = 0) : Pure Try.prog 30 [dayV d] (.tup [iV (if (d.nc : Int) ≤ d.firstV then 0 else d.firstV), iV d.firstE]) := by
  have e1 := checkDay_ok d hs
  rw [hc] at e1
  exact first_core d d.seen.E d.seen.cl d.seen.outs (seen_born d) e1 (start_ok d hc)
end Go.Fz
namespace Go.Fz
open Go.Proofs
set_option maxRecDepth 100000
def leN (a : Int) (fl : Nat → Int) : Nat → Int
  | 0 => a
  | i + 1 => if fl i < leN a fl i then fl i else leN a fl i
def grN (a : Int) (fl : Nat → Int) : Nat → Int
  | 0 => a
  | i + 1 => if fl i > grN a fl i then fl i else grN a fl i
set_option maxHeartbeats 8000000 in
theorem least_ok (a : Int) (n : Nat) (ex : Bool) (fl : Nat → Int) (hn : n < 100000) : Pure Try.prog 97 [iV a, intsV n ex fl] (iV (leN a fl n)) := by
  obtain ⟨O, hO⟩ : ∃ O : Ar, O = std := ⟨_, rfl⟩
  have hnat : ∀ i : Nat, O.nat (Int.ofNat i) = i := fun i => by subst hO; rfl
  refine pure_of_body tok 3 Try.func97 en97 rfl ⟨Below.lit, intsV_below _ _ _, trivial⟩ Below.lit ?_
  refine SW.seqRun tok hO (by cbv <;> rfl) (by trivial) ?_
  refine SW.seq ?_
  refine SW.seqRun tok hO (by cbv <;> rfl) (by trivial) ?_
  refine (SW.block (SW.loopF (fun i : Nat => ⟨⟨18, getT [(0, iV (leN a fl i)), (7, intsV n ex fl), (8, iV n), (9, iV i)]⟩, []⟩) (fun _ => ⟨[], 0⟩) (fun i => n - i) (fun i => i ≤ n) 0
    (fun _ => rfl) (Nat.zero_le _) (Weak.by rfl rfl (by simp) (Nat.le_refl _) (Nat.le_refl _) ⟨⟨rfl, .inl rfl⟩, ⟨rfl, .inl rfl⟩, ⟨rfl, .inl rfl⟩, ⟨rfl, .inl rfl⟩, trivial⟩ trivial) fun i hi => ?_))
  obtain ⟨v, hv⟩ : ∃ v, leN a fl i = v := ⟨_, rfl⟩
  rw [hv]
  refine SW.seqRun tok hO (by cbv <;> rfl) (by trivial) ?_
  refine SW.seq (SW.condS (by cbv <;> rfl) (fun h => SW.skip ?_) (fun h => SW.exit ?_))
  · have hlt : i < n := by subst hO; simpa [std] using h
    have hi0 : (0 : Int) ≤ Int.ofNat i := Int.natCast_nonneg i
    refine SW.seq (SW.block ?_)
    refine SW.seqRun tok hO (by cbv <;> rfl) ?_ ?_
    · exact ⟨hi0, Int.ofNat_lt.2 hlt⟩
    refine SW.run tok hO (by cbv <;> rfl) (by trivial) ?_
    refine SW.run tok hO (by cbv <;> rfl) (by trivial) ?_
    have hm : O.mn v (fl (O.nat (Int.ofNat i))) = leN a fl (i + 1) := by
      rw [hnat]
      show _ = if fl i < leN a fl i then fl i else leN a fl i
      rw [hv]; subst hO; rfl
    exact ⟨i + 1, by omega, hlt, Weak.by rfl rfl (fun _ h => nomatch h) (Nat.le_refl _) (Nat.le_refl _) ⟨⟨congrArg (fun z => AV.lit (.int .i64 z)) hm, .inl rfl⟩, ⟨rfl, .inl rfl⟩, ⟨rfl, .inl rfl⟩, ⟨inc_ok hO (by omega), .inl rfl⟩, trivial⟩ trivial⟩
  · have hge : i = n := by
      have : n ≤ i := by subst hO; simpa [std] using h
      omega
    subst hge
    rw [hv]
    refine SW.seqRun tok hO (by cbv <;> rfl) (by trivial) ?_
    exact SW.ret ⟨_, _, rfl, rfl, Eqv.of rfl⟩
set_option maxHeartbeats 8000000 in
theorem greatest_ok (n : Nat) (ex : Bool) (fl : Nat → Int) (h0 : 0 < n) (hn : n < 100000) : Pure Try.prog 98 [intsV n ex fl] (iV (grN (fl 0) (fun i => fl (i + 1)) (n - 1))) := by
  obtain ⟨O, hO⟩ : ∃ O : Ar, O = std := ⟨_, rfl⟩
  have hnat : ∀ i : Nat, O.nat (Int.ofNat i) = i := fun i => by subst hO; rfl
  have h00 : (0 : Int) < Int.ofNat n := Int.ofNat_lt.2 h0
  refine pure_of_body tok 3 Try.func98 en98 rfl ⟨intsV_below _ _ _, trivial⟩ Below.lit ?_
  refine SW.seqRun tok hO (by cbv <;> rfl) (by trivial) ?_
  refine SW.seq ?_
  refine SW.seqRun tok hO (by cbv <;> rfl) (by trivial) ?_
  refine SW.condS (by cbv <;> rfl) (fun h => ?_) (fun h => SW.skip ?_)
  · exfalso
    have : n < 1 := by subst hO; simp [std] at h; omega
    omega
  refine SW.seqRun tok hO (by cbv <;> rfl) ?_ ?_
  · exact ⟨Int.le_refl _, h00⟩
  refine SW.seq ?_
  refine SW.seqRun tok hO (by cbv <;> rfl) (by trivial) ?_
  refine (SW.block (SW.loopF (fun i : Nat => ⟨⟨25, getT [(0, intsV n ex fl), (3, iV (grN (fl 0) (fun i => fl (i + 1)) i)), (4, iV (i + 1 : Nat))]⟩, []⟩) (fun _ => ⟨[], 0⟩) (fun i => n - i) (fun i => i + 1 ≤ n) 0
    (fun _ => rfl) h0 (Weak.by rfl rfl (by simp) (Nat.le_refl _) (Nat.le_refl _) ⟨⟨rfl, .inl rfl⟩, ⟨by show AV.lit (.int .i64 (fl (O.nat 0))) = _; rw [show O.nat 0 = 0 from hnat 0]; rfl, .inl rfl⟩, ⟨rfl, .inl rfl⟩, trivial⟩ trivial) fun i hi => ?_))
  obtain ⟨v, hv⟩ : ∃ v, grN (fl 0) (fun i => fl (i + 1)) i = v := ⟨_, rfl⟩
  obtain ⟨j, hj⟩ : ∃ j, i + 1 = j := ⟨_, rfl⟩
  rw [hv, hj]
  refine SW.seq ?_
  refine SW.seqRun tok hO (by cbv <;> rfl) (by trivial) ?_
  refine SW.condS (by cbv <;> rfl) (fun h => SW.skip ?_) (fun h => SW.exit ?_)
  · have hlt : j < n := by subst hO; simpa [std] using h
    have hi0 : (0 : Int) ≤ Int.ofNat j := Int.natCast_nonneg j
    refine SW.seq (SW.block ?_)
    refine SW.run tok hO (by cbv <;> rfl) ?_ ?_
    · exact ⟨hi0, Int.ofNat_lt.2 hlt⟩
    refine SW.run tok hO (by cbv <;> rfl) (by trivial) ?_
    have hm : O.mx v (fl (O.nat (Int.ofNat j))) = grN (fl 0) (fun i => fl (i + 1)) (i + 1) := by
      rw [hnat]
      show _ = if fl (i + 1) > grN (fl 0) (fun i => fl (i + 1)) i then fl (i + 1) else grN (fl 0) (fun i => fl (i + 1)) i
      rw [hv, hj]; subst hO; rfl
    exact ⟨i + 1, by omega, by omega, Weak.by rfl rfl (fun _ h => nomatch h) (Nat.le_refl _) (Nat.le_refl _) ⟨⟨rfl, .inl rfl⟩, ⟨congrArg (fun z => AV.lit (.int .i64 z)) hm, .inl rfl⟩, ⟨by rw [hj]; exact inc_ok hO (by omega), .inl rfl⟩, trivial⟩ trivial⟩
  · have hge : j = n := by
      have : n ≤ j := by subst hO; simpa [std] using h
      omega
    have hi1 : n - 1 = i := by omega
    rw [hi1, hv]
    refine SW.seqRun tok hO (by cbv <;> rfl) (by trivial) ?_
    exact SW.ret ⟨_, _, rfl, rfl, Eqv.of rfl⟩
theorem leN_le (a : Int) (fl : Nat → Int) : ∀ n, (leN a fl n ≤ a ∧ ∀ i, i < n → leN a fl n ≤ fl i) ∧ (leN a fl n = a ∨ ∃ i, i < n ∧ leN a fl n = fl i)
  | 0 => ⟨⟨Int.le_refl _, fun i h => by omega⟩, .inl rfl⟩
  | n + 1 => by
    obtain ⟨⟨h1, h2⟩, h3⟩ := leN_le a fl n
    show (_ ≤ a ∧ _) ∧ _
    have e : leN a fl (n + 1) = if fl n < leN a fl n then fl n else leN a fl n := rfl
    rw [e]
    split
    · refine ⟨⟨by omega, fun i hi => ?_⟩, .inr ⟨n, by omega, rfl⟩⟩
      by_cases hin : i = n
      · subst hin; omega
      · have := h2 i (by omega); omega
    · refine ⟨⟨h1, fun i hi => ?_⟩, h3.imp id fun ⟨i, h4, h5⟩ => ⟨i, by omega, h5⟩⟩
      by_cases hin : i = n
      · subst hin; omega
      · exact h2 i (by omega)
theorem grN_ge (a : Int) (fl : Nat → Int) : ∀ n, (a ≤ grN a fl n ∧ ∀ i, i < n → fl i ≤ grN a fl n) ∧ (grN a fl n = a ∨ ∃ i, i < n ∧ grN a fl n = fl i)
  | 0 => ⟨⟨Int.le_refl _, fun i h => by omega⟩, .inl rfl⟩
  | n + 1 => by
    obtain ⟨⟨h1, h2⟩, h3⟩ := grN_ge a fl n
    have e : grN a fl (n + 1) = if fl n > grN a fl n then fl n else grN a fl n := rfl
    rw [e]
    split
    · refine ⟨⟨by omega, fun i hi => ?_⟩, .inr ⟨n, by omega, rfl⟩⟩
      by_cases hin : i = n
      · subst hin; omega
      · have := h2 i (by omega); omega
    · refine ⟨⟨h1, fun i hi => ?_⟩, h3.imp id fun ⟨i, h4, h5⟩ => ⟨i, by omega, h5⟩⟩
      by_cases hin : i = n
      · subst hin; omega
      · exact h2 i (by omega)
end Go.Fz
namespace Go.Fz
open Go.Proofs
set_option maxRecDepth 100000
def hasN (n : Nat) (fl : Nat → Int) (x : Int) : Bool := decide (∃ i, i < n ∧ fl i = x)
theorem index_ok (n : Nat) (ex : Bool) (fl : Nat → Int) (x : Int) (hn : n < 1000) : ∃ r : Int, Pure Try.prog 124 [intsV n ex fl, iV x] (iV r) ∧ ((0 ≤ r) ↔ ∃ i, i < n ∧ fl i = x) := by
  obtain ⟨O, hO⟩ : ∃ O : Ar, O = std := ⟨_, rfl⟩
  by_cases hex : ∃ i, i < n ∧ fl i = x
  ·
    obtain ⟨k, ⟨hk, hkx⟩, hmin⟩ : ∃ k, (k < n ∧ fl k = x) ∧ ∀ j, j < k → ¬ fl j = x := by
      obtain ⟨i, hi, hix⟩ := hex
      have : ∀ m, ∀ i, i ≤ m → i < n → fl i = x → ∃ k, (k < n ∧ fl k = x) ∧ ∀ j, j < k → ¬ fl j = x := fun m => by
        induction m with
        | zero => exact fun i h1 h2 h3 => ⟨i, ⟨h2, h3⟩, fun j hj => by omega⟩
        | succ m ih =>
          intro i h1 h2 h3
          by_cases hq : ∃ j, j < i ∧ fl j = x
          · obtain ⟨j, hj, hjx⟩ := hq
            exact ih j (by omega) (by omega) hjx
          · exact ⟨i, ⟨h2, h3⟩, fun j hj hjx => hq ⟨j, hj, hjx⟩⟩
      exact this i i (Nat.le_refl _) hi hix
    refine ⟨k, ?_, by constructor; exact fun _ => hex; exact fun _ => by omega⟩
    refine pure_of_body tok 3 Try.func124 en124 rfl ⟨intsV_below n ex fl, iV_below, trivial⟩ Below.lit ?_
    refine SW.seqRun tok hO (by cbv <;> rfl) (by trivial) ?_
    refine SW.seq ?_
    refine SW.seqRun tok hO (by cbv <;> rfl) (by trivial) ?_
    refine (SW.block (SW.loopF (fun i : Nat => ⟨⟨19, getT [(0, intsV n ex fl), (1, iV x), (7, iV n), (8, iV i)]⟩, []⟩) (fun _ => ⟨[], 0⟩) (fun i => n - i) (fun i => i ≤ k) 0
      (fun _ => rfl) (Nat.zero_le _) (Weak.by rfl rfl (by simp) (Nat.le_refl _) (Nat.le_refl _) ⟨⟨rfl, .inl rfl⟩, ⟨rfl, .inl rfl⟩, ⟨rfl, .inl rfl⟩, ⟨rfl, .inl rfl⟩, trivial⟩ trivial) fun i hi => ?_))
    refine SW.seqRun tok hO (by cbv <;> rfl) (by trivial) ?_
    refine SW.seq (SW.condS (by cbv <;> rfl) (fun h => SW.skip ?_) (fun h => SW.exit ?_))
    · have hlt : i < n := by omega
      have h0 : (0 : Int) ≤ Int.ofNat i := Int.natCast_nonneg i
      refine SW.seq (SW.block ?_)
      refine SW.seqRun tok hO (by cbv <;> rfl) (by trivial) ?_
      refine SW.seqRun tok hO (by cbv <;> rfl) ?_ ?_
      · exact ⟨h0, Int.ofNat_lt.2 hlt⟩
      refine SW.condS (by cbv <;> rfl) (fun h' => ?_) (fun h' => SW.skip ?_)
      · refine SW.seqRun tok hO (by cbv <;> rfl) (by trivial) ?_
        refine SW.ret ⟨_, _, rfl, rfl, Eqv.int ?_⟩
        have : x = fl i := by subst hO; simpa [std] using h'
        have hik : i = k := by
          rcases Nat.lt_or_ge i k with h1 | h1
          · exact absurd this.symm (hmin i h1)
          · omega
        rw [hik]; rfl
      · have hne : ¬ x = fl i := by subst hO; simpa [std] using h'
        have hik : i ≠ k := fun e => hne (by rw [e]; exact hkx.symm)
        refine SW.run tok hO (by cbv <;> rfl) (by trivial) ?_
        exact ⟨i + 1, by omega, by omega, Weak.by rfl rfl (by simp) (Nat.le_refl _) (Nat.zero_le _) ⟨⟨rfl, .inr (intsV_below n ex fl)⟩, ⟨rfl, .inr Below.lit⟩, ⟨rfl, .inr Below.lit⟩, ⟨inc_ok hO (by omega), .inr Below.lit⟩, trivial⟩ trivial⟩
    · exfalso
      have hge : n ≤ i := by subst hO; simpa [std] using h
      omega
  · refine ⟨-1, ?_, ⟨fun h => absurd h (by omega), fun h => absurd h hex⟩⟩
    refine pure_of_body tok 3 Try.func124 en124 rfl ⟨intsV_below n ex fl, iV_below, trivial⟩ Below.lit ?_
    refine SW.seqRun tok hO (by cbv <;> rfl) (by trivial) ?_
    refine SW.seq ?_
    refine SW.seqRun tok hO (by cbv <;> rfl) (by trivial) ?_
    refine (SW.block (SW.loopF (fun i : Nat => ⟨⟨19, getT [(0, intsV n ex fl), (1, iV x), (7, iV n), (8, iV i)]⟩, []⟩) (fun _ => ⟨[], 0⟩) (fun i => n - i) (fun i => i ≤ n) 0
      (fun _ => rfl) (Nat.zero_le _) (Weak.by rfl rfl (by simp) (Nat.le_refl _) (Nat.le_refl _) ⟨⟨rfl, .inl rfl⟩, ⟨rfl, .inl rfl⟩, ⟨rfl, .inl rfl⟩, ⟨rfl, .inl rfl⟩, trivial⟩ trivial) fun i hi => ?_))
    refine SW.seqRun tok hO (by cbv <;> rfl) (by trivial) ?_
    refine SW.seq (SW.condS (by cbv <;> rfl) (fun h => SW.skip ?_) (fun h => SW.exit ?_))
    · have hlt : i < n := by subst hO; simpa [std] using h
      have h0 : (0 : Int) ≤ Int.ofNat i := Int.natCast_nonneg i
      refine SW.seq (SW.block ?_)
      refine SW.seqRun tok hO (by cbv <;> rfl) (by trivial) ?_
      refine SW.seqRun tok hO (by cbv <;> rfl) ?_ ?_
      · exact ⟨h0, Int.ofNat_lt.2 hlt⟩
      refine SW.condS (by cbv <;> rfl) (fun h' => ?_) (fun h' => SW.skip ?_)
      · exfalso
        have : x = fl i := by subst hO; simpa [std] using h'
        exact hex ⟨i, hlt, this.symm⟩
      · refine SW.run tok hO (by cbv <;> rfl) (by trivial) ?_
        exact ⟨i + 1, by omega, by omega, Weak.by rfl rfl (by simp) (Nat.le_refl _) (Nat.zero_le _) ⟨⟨rfl, .inr (intsV_below n ex fl)⟩, ⟨rfl, .inr Below.lit⟩, ⟨rfl, .inr Below.lit⟩, ⟨inc_ok hO (by omega), .inr Below.lit⟩, trivial⟩ trivial⟩
    · refine SW.seqRun tok hO (by cbv <;> rfl) (by trivial) ?_
      refine SW.ret ⟨_, _, rfl, rfl, Eqv.of rfl⟩
theorem contains_ok (n : Nat) (ex : Bool) (fl : Nat → Int) (x : Int) (hn : n < 1000) : Pure Try.prog 108 [intsV n ex fl, iV x] (.sb (hasN n fl x)) := by
  obtain ⟨O, hO⟩ : ∃ O : Ar, O = std := ⟨_, rfl⟩
  obtain ⟨r, h1, h2⟩ := index_ok n ex fl x hn
  refine pure_of_body tok 3 Try.func108 en108 rfl ⟨intsV_below n ex fl, iV_below, trivial⟩ Below.sb ?_
  refine SW.seqRun tok hO (by cbv <;> rfl) (by trivial) ?_
  refine SW.seqRun tok hO (by cbv <;> rfl) (by trivial) ?_
  refine OpsW.callI h1 (by cbv <;> rfl) fun v hv => ?_
  refine OpsW.run tok hO (by cbv <;> rfl) (by trivial) ?_
  refine SW.ret ⟨_, _, rfl, rfl, Eqv.sb (Bool.eq_iff_iff.2 ?_)⟩
  subst hO; subst hv
  simp only [std, hasN, decide_eq_true_eq]
  exact h2
def bitsV (n : Nat) (ex : Bool) (b : Nat → Bool) : AV := .isl n 1 ex (fun i _ => .sb (b i))
theorem bitsV_below (n : Nat) (ex : Bool) (b : Nat → Bool) : Below 0 (bitsV n ex b) := Below.isl fun _ _ _ _ => Below.sb
theorem each87_ok (n : Nat) (ex : Bool) (b : Nat → Bool) (g0 : FuncId) (first caps : List AV) (p : Nat → Bool) (hb : Below 0 (.fn (.func g0) first caps)) (hn : n < 4611686018427387904) (hp : ∀ i, i < n → Pure Try.prog g0 (first ++ [iV i, .sb (b i)] ++ caps) (.sb (p i))) :
    Pure Try.prog 106 [bitsV n ex b, .fn (.func g0) first caps] (.sb (allN n p)) := by
  obtain ⟨O, hO⟩ : ∃ O : Ar, O = std := ⟨_, rfl⟩
  have hnat : ∀ i : Nat, O.nat (Int.ofNat i) = i := fun i => by subst hO; rfl
  refine pure_of_body tok 3 Try.func106 en106 rfl ⟨bitsV_below n ex b, hb, trivial⟩ Below.sb ?_
  refine SW.seqRun tok hO (by cbv <;> rfl) (by trivial) ?_
  refine SW.seq ?_
  refine SW.seqRun tok hO (by cbv <;> rfl) (by trivial) ?_
  refine (SW.block (SW.loopF (fun i : Nat => ⟨⟨20, getT [(1, .fn (.func g0) first caps), (7, bitsV n ex b), (8, iV n), (9, iV i)]⟩, []⟩) (fun _ => ⟨[], 0⟩) (fun i => n - i) (fun i => i ≤ n ∧ ∀ j, j < i → p j = true) 0
    (fun _ => rfl) ⟨Nat.zero_le _, fun j hj => absurd hj (Nat.not_lt_zero j)⟩ (Weak.by rfl rfl (by simp) (Nat.le_refl _) (Nat.le_refl _) ⟨⟨rfl, .inl rfl⟩, ⟨rfl, .inl rfl⟩, ⟨rfl, .inl rfl⟩, ⟨rfl, .inl rfl⟩, trivial⟩ trivial) fun i ⟨hi, hall⟩ => ?_))
  refine SW.seqRun tok hO (by cbv <;> rfl) (by trivial) ?_
  refine SW.seq (SW.condS (by cbv <;> rfl) (fun h => SW.skip ?_) (fun h => SW.exit ?_))
  · have hlt : i < n := by subst hO; simpa [std] using h
    refine SW.seq (SW.block ?_)
    refine SW.seqRun tok hO (by cbv <;> rfl) ?_ ?_
    · exact ⟨Int.natCast_nonneg i, Int.ofNat_lt.2 hlt⟩
    refine SW.seqRun tok hO (by cbv <;> rfl) (by trivial) ?_
    refine OpsW.callB (e := p i) (args := first ++ [iV (Int.ofNat i), .sb (b (O.nat (Int.ofNat i)))] ++ caps) (by rw [hnat]; exact hp i hlt) (by cbv <;> rfl) fun r hb' => ?_
    refine OpsW.run tok hO (by cbv <;> rfl) (by trivial) ?_
    refine SW.condS (by cbv <;> rfl) (fun h' => ?_) (fun h' => SW.skip ?_)
    · refine SW.seqRun tok hO (by cbv <;> rfl) (by trivial) ?_
      refine SW.ret ⟨_, _, rfl, rfl, Eqv.bool (Bool.eq_iff_iff.2 ?_)⟩
      subst hO
      simp [std, hb'] at h'
      simp only [Bool.false_eq_true, allN, decide_eq_true_eq, false_iff]
      intro hq
      rw [hq i hlt] at h'
      cases h'
    · refine SW.run tok hO (by cbv <;> rfl) (by trivial) ?_
      refine ⟨i + 1, by omega, ⟨by omega, fun j hj => ?_⟩, Weak.by rfl rfl (by simp) (Nat.le_refl _) (Nat.zero_le _) ⟨⟨rfl, .inr hb⟩, ⟨rfl, .inr (bitsV_below n ex b)⟩, ⟨rfl, .inr iV_below⟩, ⟨inc_ok hO (by omega), .inr iV_below⟩, trivial⟩ trivial⟩
      rcases Nat.lt_succ_iff_lt_or_eq.1 hj with hj | rfl
      · exact hall j hj
      · subst hO; simp [std, hb'] at h'; exact h'
  · refine SW.seqRun tok hO (by cbv <;> rfl) (by trivial) ?_
    refine SW.ret ⟨_, _, rfl, rfl, Eqv.bool (Bool.eq_iff_iff.2 ?_)⟩
    have hge : n ≤ i := by subst hO; simpa [std] using h
    simp only [allN, decide_eq_true_eq, true_iff]
    exact fun j hj => hall j (by omega)
def mkB (b : Mk) : Nat → Bool
  | 0 => b.1
  | 1 => b.2.1
  | 2 => b.2.2.1
  | 3 => b.2.2.2.1
  | _ => b.2.2.2.2
theorem within88_ok (n : Nat) (ex : Bool) (fl : Nat → Int) (hn : n < 1000) (i : Nat) (b : Bool) : Pure Try.prog 107 [iV i, .sb b, .ip 1 0 (fun _ => intsV n ex fl)] (.sb (!b || hasN n fl i)) := by
  obtain ⟨O, hO⟩ : ∃ O : Ar, O = std := ⟨_, rfl⟩
  have hc := contains_ok n ex fl i hn
  refine pure_of_body tok 3 Try.func107 en107 rfl ⟨Below.lit, Below.sb, Below.ip fun _ _ => intsV_below _ _ _, trivial⟩ Below.sb ?_
  refine SW.seqRun tok hO (by cbv <;> rfl) (by trivial) ?_
  refine SW.seqRun tok hO (by cbv <;> rfl) (by trivial) ?_
  refine OpsW.splitG (by cbv <;> rfl) (fun h => ?_) (fun h => ?_)
  · refine OpsW.run tok hO (by cbv <;> rfl) (by trivial) ?_
    refine SW.ret ⟨_, _, rfl, rfl, Eqv.bool ?_⟩
    have : b = false := by subst hO; simpa [std] using h
    rw [this]; rfl
  · have : b = true := by subst hO; simpa [std] using h
    refine OpsW.run tok hO (by cbv <;> rfl) (by trivial) ?_
    refine OpsW.callP hc (by cbv <;> rfl) ?_
    refine OpsW.run tok hO (by cbv <;> rfl) (by trivial) ?_
    refine SW.ret ⟨_, _, rfl, rfl, Eqv.sb ?_⟩
    rw [this]; rfl
def wholeAt (ops : Array Oper) (i : Nat) (f : Fm) : Option (TypeId × AV) := match ops[i]? with
  | none => none
  | some o => match wantA ops f.ts o with
    | some true => match o.op with
      | .slice t x none none none => some (t, Operand.av f.ts x)
      | _ => none
    | _ => none
def arrW (T : Ti) (t n sz : Nat) : Bool := match T t with
  | some i => match i.desc with
    | .array m e => match T e with
      | some j => Nat.beq m n && Nat.beq j.size sz
      | none => false
    | _ => false
  | none => false
theorem OpsW.wholeArr {P : Program} {T : Ti} (hT : TOk P T) {rd : Option Nat} {ops : Array Oper} {l : List Nat} {K : Fm → St → Prop} {f : Fm} {st : St} {j t id off n sz : Nat} {fm : Option Nat} {cs : List AV}
    (hc : wholeAt ops j f = some (t, .ptr id off)) (hb : arrW T t n sz = true) (hx : st.h.get id = some (.cells fm false cs)) (hl : off + n * sz ≤ cs.length)
    (h : OpsW P rd ops l K (putAt ops j f (.sl id off n sz true)) st) : OpsW P rd ops (j :: l) K f st := by
  unfold wholeAt at hc
  split at hc
  · cases hc
  · rename_i o ho
    split at hc
    · rename_i hw
      split at hc
      · rename_i t' x hop
        simp only [Option.some.injEq, Prod.mk.injEq] at hc
        obtain ⟨rfl, h2⟩ := hc
        unfold arrW at hb
        split at hb
        · rename_i i hi1
          split at hb
          · rename_i m e hd
            split at hb
            · rename_i jj hj
              simp only [Bool.and_eq_true] at hb
              obtain rfl := Nat.eq_of_beq_eq_true hb.1
              obtain rfl := Nat.eq_of_beq_eq_true hb.2
              have hput : ∀ v, putAt ops j f v = f.put o.dst v := fun v => by simp [putAt, ho]
              rw [hput] at h
              refine OpsW.light hT ho hw (r := .sl id off m jj.size true) ?_ h
              simp only [evG, hop, h2, Option.map_none]
              unfold sliceA
              simp only [hi1, hd, hj, hx, natOr]
              rw [if_pos ⟨Nat.zero_le _, Nat.le_refl _, by simp, hl⟩]
              simp
            · cases hb
          · cases hb
        · cases hb
      · cases hc
    · cases hc
def withinL (b : Mk) (n : Nat) (fl : Nat → Int) : Bool := allN 5 fun i => !(mkB b i) || hasN n fl i
set_option maxHeartbeats 4000000 in
theorem within58_ok (b : Mk) (n : Nat) (ex : Bool) (fl : Nat → Int) (hn : n < 1000) : Pure Try.prog 78 [mkV b, intsV n ex fl] (.sb (withinL b n fl)) := by
  obtain ⟨O, hO⟩ : ∃ O : Ar, O = std := ⟨_, rfl⟩
  have hw := each87_ok 5 true (mkB b) 107 [] [.ip 1 0 (fun _ => intsV n ex fl)] (fun i => !(mkB b i) || hasN n fl i) (Below.fn (AllB.ok trivial) (AllB.ok ⟨Below.ip fun _ _ => intsV_below _ _ _, trivial⟩)) (by omega) (fun i _ => within88_ok n ex fl hn i (mkB b i))
  have hw' : Pure Try.prog 106 [bitsV 5 true (mkB b), .fn (.func 107) [] [.ip 1 0 (fun _ => intsV n ex fl)]] (.sb (withinL b n fl)) := hw
  obtain ⟨b0, b1, b2, b3, b4⟩ := b
  generalize withinL (b0, b1, b2, b3, b4) n fl = R at hw' ⊢
  refine pure_of_body tok 3 Try.func78 en78 rfl ⟨mkV_below _, intsV_below _ _ _, trivial⟩ Below.sb ?_
  refine SW.seqRun tok hO (by cbv <;> rfl) (by trivial) ?_
  refine SW.seq (SW.runN tok hO 0 (by cbv <;> rfl) (by trivial) ?_)
  refine OpsW.wholeArr tok (id := 0) (off := 0) (n := 5) (sz := 1) (by cbv <;> rfl) (by kernel_rfl) (by rfl) (by show 0 + 5 * 1 ≤ 5; omega) ?_
  refine OpsW.runN tok hO 1 (by cbv <;> rfl) (by trivial) ?_
  refine OpsW.freeze (fun _ => true) 3 (by rfl) ?_
  refine OpsW.callP (Pure.eqv hw' ?_) (by cbv <;> rfl) ?_
  · refine .cons (Eqv.isl rfl fun i k hi hk => ?_) (.cons (Eqv.fn .nil (.cons (Eqv.ip fun j hj => ?_) .nil)) .nil)
    · obtain rfl : k = 0 := by omega
      obtain rfl | rfl | rfl | rfl | rfl : i = 0 ∨ i = 1 ∨ i = 2 ∨ i = 3 ∨ i = 4 := by omega
      all_goals exact Eqv.of rfl
    · obtain rfl : j = 0 := by
        have : j < 1 := hj
        omega
      exact Eqv.of rfl
  refine OpsW.run tok hO (by cbv <;> rfl) (by trivial) ?_
  exact SW.ret ⟨_, _, rfl, rfl, Eqv.of rfl⟩
end Go.Fz
