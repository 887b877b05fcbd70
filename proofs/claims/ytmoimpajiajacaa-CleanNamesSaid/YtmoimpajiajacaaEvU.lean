/-
  THE OPERATIONS ON MAPS. Own work of the verifier of watercress.
-/
import Derived.Test.YtmoimpajiajacaaEvS
namespace Go.Ev

section
variable {P : Program} {T : Ti}

def itOf (st : St) (a : AV) : Option (Nat × Nat × Nat × List Nat × Nat) := match a with
  | .ptr rid 0 => match st.h.get rid with
    | some (.iter mid since seen last) => some (rid, mid, since, seen, last)
    | _ => none
  | _ => none

theorem itOf_ok {φ : Fi} {st : St} {w : World} {a : AV} {u : Value} {rid mid since last : Nat} {seen : List Nat} (hr : Rel φ st w) (ha : VR φ a u) (h : itOf st a = some (rid, mid, since, seen, last)) :
    u = .pointer (some ⟨(φ.f rid).b, 0, none⟩) ∧ st.h.get rid = some (.iter mid since seen last) ∧ w.heap[(φ.f rid).b]? = some (.mapIter (some (φ.f mid).b) since seen.toArray last) ∧ (φ.f rid).o = 0 ∧ mid < φ.n := by
  unfold itOf at h
  split at h
  · rename_i rid'
    split at h
    · rename_i mid' since' seen' last' ho
      cases h
      obtain ⟨h1, h2⟩ := ha.ptr_inv
      obtain ⟨h3, h4, h5⟩ := hr.obj _ _ ho
      exact ⟨by rw [h1, h4], ho, h3, h4, h5⟩
    · cases h
  · cases h

def bornsOk (es : List (AV × AV × Nat)) : Bool := decide ((es.map fun x => x.2.2).Nodup)

variable (P T) in
def xMap (KT : List TypeId) (st : St) (ρ : Operand → AV) (o : Oper) : Option (List (AV × St)) :=
  match o.op with
  | .makeMap _ none => some [(.mp st.n, st.push (.map [] 0))]
  | .mapUpdate t m k v => match mapD T t with
    | some kt => match esOf st (ρ m) with
      | some (id, es, clock) => if KT.contains kt && keyB P kt (ρ k) && es.all (fun x => keyB P kt x.1) then
          match idxs (ρ k) 0 es with
          | [] => some [(undA, ⟨st.h.set id (.map (es ++ [(ρ k, ρ v, clock)]) (clock + 1)), st.n⟩)]
          | [j] => match es[j]? with
            | some x => some [(undA, ⟨st.h.set id (.map (es.set j (ρ k, ρ v, x.2.2)) clock), st.n⟩)]
            | none => none
          | _ => none
        else none
      | none => none
    | none => none
  | .range t x => match mapD T t with
    | some _ => match esOf st (ρ x) with
      | some (id, _, clock) => some [(.ptr st.n 0, st.push (.iter id clock [] clock))]
      | none => none
    | none => none
  | .next it false => match itOf st (ρ it) with
    | some (rid, mid, since, seen, last) => match esOf st (.mp mid) with
      | some (_, es, clock) => if es.all (fun x => Nat.blt x.2.2 since) && Nat.ble since last then
          match es.filter (fun x => !(seen.contains x.2.2)) with
          | [] => some [(.tup [.lit (.bool false)], st)]
          | y :: ys => some ((y :: ys).map fun x => (.tup [.lit (.bool true), x.1, x.2.1], ⟨st.h.set rid (.iter mid since (seen ++ [x.2.2]) clock), st.n⟩))
        else none
      | none => none
    | none => none
  | .entry it => match itOf st (ρ it) with
    | some (_, mid, _, seen, last) => match esOf st (.mp mid), seen.getLast? with
      | some (_, es, clock), some s => if Nat.beq clock last && bornsOk es then
          match es.filter (fun x => Nat.beq x.2.2 s) with
          | [x] => some [(.tup [x.1, x.2.1], st)]
          | _ => none
        else none
      | _, _ => none
    | none => none
  | _ => none

theorem range_ok {hT : TOk P T} {φ : Fi} {st : St} {w : World} {t kt : TypeId} {a : AV} {u : Value} {id clock : Nat} {es : List (AV × AV × Nat)} (hr : Rel φ st w) (ha : VR φ a u) (hd : mapD T t = some kt) (h : esOf st a = some (id, es, clock)) :
    ∃ φ' w' v, (Instr.range t u).run P w = .ok v w' ∧ VR φ' (.ptr st.n 0) v ∧ Rel φ' (st.push (.iter id clock [] clock)) w' ∧ Ext φ φ' ∧ Fr φ st w φ' (st.push (.iter id clock [] clock)) w' := by
  obtain ⟨e, hu⟩ := mapD_ok hT hd
  obtain ⟨rfl, hid, ho, ces, hb, hsz, hes⟩ := esOf_ok hr ha h
  have hrun := run_range_map (P := P) w t kt e (φ.f id).b ces clock hu hb
  have hp := hr.push (.mapIter (some (φ.f id).b) clock #[] clock) (.iter id clock [] clock) ⟨w.heap.size, 0, 0⟩ rfl (by
    refine ⟨?_, by rw [Fi.push_new], by rw [Fi.push_n]; exact Nat.lt_succ_of_lt hid⟩
    rw [Fi.push_new, (φ.push_ext _).f id hid]
    exact alloc_heap_new' w _)
  refine ⟨_, _, _, hrun, ?_, hp.1, φ.push_ext _, hp.2⟩
  have hv := VR.ptr (φ := φ.push ⟨w.heap.size, 0, 0⟩) φ.n 0 (by rw [Fi.push_n]; omega)
  rw [Fi.push_new] at hv
  rw [← hr.n]
  exact hv

theorem left_ok {φ : Fi} {es : List (AV × AV × Nat)} {ces : Array MapEntry} {seen : List Nat} (hsz : ces.size = es.length) (hes : ∀ (i : Nat) (x : AV × AV × Nat), es[i]? = some x → ∃ e, ces[i]? = some e ∧ VR φ x.1 e.key ∧ VR φ x.2.1 e.val ∧ e.born = x.2.2) {e : MapEntry} (he : e ∈ ces.toList) :
    ∃ x ∈ es, VR φ x.1 e.key ∧ VR φ x.2.1 e.val ∧ e.born = x.2.2 := by
  obtain ⟨i, hi, he2⟩ := List.getElem_of_mem he
  have hil : i < es.length := by rw [← hsz]; simpa using hi
  obtain ⟨e', h1, h2, h3, h4⟩ := hes i es[i] (List.getElem?_eq_getElem hil)
  have : e' = e := by
    rw [← Array.getElem?_toList, List.getElem?_eq_getElem hi, he2] at h1
    exact (Option.some.inj h1).symm
  subst this
  exact ⟨es[i], List.getElem_mem hil, h2, h3, h4⟩

theorem right_ok {φ : Fi} {es : List (AV × AV × Nat)} {ces : Array MapEntry} (hes : ∀ (i : Nat) (x : AV × AV × Nat), es[i]? = some x → ∃ e, ces[i]? = some e ∧ VR φ x.1 e.key ∧ VR φ x.2.1 e.val ∧ e.born = x.2.2) {x : AV × AV × Nat} (hx : x ∈ es) :
    ∃ e ∈ ces.toList, VR φ x.1 e.key ∧ VR φ x.2.1 e.val ∧ e.born = x.2.2 := by
  obtain ⟨i, hi, rfl⟩ := List.getElem_of_mem hx
  obtain ⟨e, h1, h2⟩ := hes i _ (List.getElem?_eq_getElem hi)
  rw [← Array.getElem?_toList] at h1
  exact ⟨e, List.mem_of_getElem? h1, h2⟩

theorem next_ok {φ : Fi} {st : St} {w : World} {ty : TypeId} {a : AV} {u : Value} {rid mid since last id clock : Nat} {seen : List Nat} {es : List (AV × AV × Nat)} (hr : Rel φ st w) (ha : VR φ a u) (h : itOf st a = some (rid, mid, since, seen, last)) (he : esOf st (.mp mid) = some (id, es, clock))
    (hc : (es.all (fun x => Nat.blt x.2.2 since) && Nat.ble since last) = true) :
    ((es.filter fun x => !(seen.contains x.2.2)) = [] ∧ (Instr.next u false ty).run P w = .ok (.tuple #[.bool false]) w) ∨
    ∃ x ∈ (es.filter fun x => !(seen.contains x.2.2)), ∃ w' v, (Instr.next u false ty).run P w = .ok v w' ∧ VR φ (.tup [.lit (.bool true), x.1, x.2.1]) v ∧
      Rel φ ⟨st.h.set rid (.iter mid since (seen ++ [x.2.2]) clock), st.n⟩ w' ∧ Fr φ st w φ ⟨st.h.set rid (.iter mid since (seen ++ [x.2.2]) clock), st.n⟩ w' := by
  obtain ⟨rfl, ho, hit, h0, hmid⟩ := itOf_ok hr ha h
  obtain ⟨hu, hid, hom, ces, hb, hsz, hes⟩ := esOf_ok hr (VR.mp mid hmid) he
  have hbb : (φ.f id).b = (φ.f mid).b := by simp only [Value.map.injEq, Option.some.injEq] at hu; exact hu.symm
  rw [hbb] at hb
  simp only [Bool.and_eq_true] at hc
  have hold : ∀ x ∈ ces.toList, x.born < since := fun e hem => by
    obtain ⟨x, hx, _, _, h4⟩ := left_ok (seen := []) hsz hes hem
    rw [h4]
    exact Nat.le_of_ble_eq_true (List.all_eq_true.1 hc.1 x hx)
  rcases run_next_at (P := P) w ty (φ.f rid).b (φ.f mid).b since last seen.toArray ces clock hit hb hold (Nat.le_of_ble_eq_true hc.2) with ⟨h1, h2⟩ | ⟨e, hel, w1, hw1, hrun⟩
  · left
    refine ⟨?_, h2⟩
    rw [List.filter_eq_nil_iff]
    intro x hx hns
    obtain ⟨e, hem, _, _, h4⟩ := right_ok hes hx
    have h5 : leftOf ces seen.toArray = #[] := Array.eq_empty_of_size_eq_zero h1
    unfold leftOf at h5
    rw [Array.filter_eq_empty_iff] at h5
    have := h5 e (Array.mem_toList_iff.1 hem)
    rw [h4] at this
    simp at this hns
    exact hns this
  · right
    unfold leftOf at hel
    have hel2 : e ∈ ces.toList ∧ seen.contains e.born = false := by simpa using hel
    obtain ⟨x, hx, h2, h3, h4⟩ := left_ok (seen := []) hsz hes hel2.1
    refine ⟨x, List.mem_filter.2 ⟨hx, by rw [← h4]; show (!seen.contains e.born) = true; rw [hel2.2]; rfl⟩, _, _, hrun, ?_, ?_⟩
    · exact .tup (us := [.bool true, e.key, e.val]) (.cons (.lit _) (.cons h2 (.cons h3 .nil)))
    · have := setHeap_ok (o' := .iter mid since (seen ++ [x.2.2]) clock) hr ho rfl rfl (.mapIter (some (φ.f mid).b) since (seen.toArray.push e.born) clock) w1 hw1 (fun w' hw' => ⟨by rw [hw', h4]; simp, h0, hmid⟩)
      exact this

theorem entry_ok {φ : Fi} {st : St} {w : World} {a : AV} {u : Value} {rid mid since last id clock s : Nat} {seen : List Nat} {es : List (AV × AV × Nat)} {x : AV × AV × Nat} (hr : Rel φ st w) (ha : VR φ a u) (h : itOf st a = some (rid, mid, since, seen, last)) (he : esOf st (.mp mid) = some (id, es, clock))
    (hs : seen.getLast? = some s) (hc : (Nat.beq clock last && bornsOk es) = true) (hf : es.filter (fun x => Nat.beq x.2.2 s) = [x]) :
    ∃ v, (Instr.entry u).run P w = .ok v w ∧ VR φ (.tup [x.1, x.2.1]) v := by
  obtain ⟨rfl, ho, hit, h0, hmid⟩ := itOf_ok hr ha h
  obtain ⟨hu, hid, hom, ces, hb, hsz, hes⟩ := esOf_ok hr (VR.mp mid hmid) he
  have hbb : (φ.f id).b = (φ.f mid).b := by simp only [Value.map.injEq, Option.some.injEq] at hu; exact hu.symm
  rw [hbb] at hb
  simp only [Bool.and_eq_true, bornsOk, decide_eq_true_eq] at hc
  have hcl := Nat.eq_of_beq_eq_true hc.1
  have hxm : x ∈ es.filter (fun x => Nat.beq x.2.2 s) := by rw [hf]; simp
  rw [List.mem_filter] at hxm
  have hxs := Nat.eq_of_beq_eq_true hxm.2
  obtain ⟨e, hem, h2, h3, h4⟩ := right_ok hes hxm.1
  have hborns : ces.toList.map (·.born) = es.map fun x => x.2.2 := by
    apply List.ext_getElem
    · simp [hsz]
    · intro i h1 h2
      simp only [List.length_map] at h1 h2
      obtain ⟨e, k1, _, _, k4⟩ := hes i es[i] (List.getElem?_eq_getElem h2)
      rw [List.getElem_map, List.getElem_map, ← k4]
      rw [← Array.getElem?_toList, List.getElem?_eq_getElem h1] at k1
      rw [Option.some.inj k1]
  have hseen : seen.toArray = seen.dropLast.toArray.push e.born := by
    obtain ⟨ys, hys⟩ := List.getLast?_eq_some_iff.1 hs
    rw [h4, hxs]
    subst hys
    simp
  have hrun := run_entry_at (P := P) w (φ.f rid).b (φ.f mid).b since seen.dropLast.toArray ces clock e (by rw [← hseen, hcl]; exact hit) hb hem (by rw [hborns]; exact hc.2)
  exact ⟨_, hrun, .tup (us := [e.key, e.val]) (.cons h2 (.cons h3 .nil))⟩

theorem update_ok {hT : TOk P T} {φ : Fi} {st : St} {w : World} {t kt : TypeId} {a k v : AV} {u ku vu : Value} {id clock : Nat} {es : List (AV × AV × Nat)} {outs : List (AV × St)} (hK : Maps.Keyed P kt) (hr : Rel φ st w) (ha : VR φ a u) (hku : VR φ k ku) (hvu : VR φ v vu) (hd : mapD T t = some kt) (h : esOf st a = some (id, es, clock))
    (hc : (keyB P kt k && es.all (fun x => keyB P kt x.1)) = true)
    (ho : (match idxs k 0 es with
      | [] => some [(undA, (⟨st.h.set id (.map (es ++ [(k, v, clock)]) (clock + 1)), st.n⟩ : St))]
      | [j] => match es[j]? with
        | some x => some [(undA, ⟨st.h.set id (.map (es.set j (k, v, x.2.2)) clock), st.n⟩)]
        | none => none
      | _ => none) = some outs) :
    ∃ st' w', (undA, st') ∈ outs ∧ (Instr.mapUpdate t u ku vu).run P w = .ok () w' ∧ Rel φ st' w' ∧ Fr φ st w φ st' w' := by
  obtain ⟨e, hu⟩ := mapD_ok hT hd
  obtain ⟨rfl, hid, hom, ces, hb, hsz, hes⟩ := esOf_ok hr ha h
  simp only [Bool.and_eq_true] at hc
  have hkey : ∀ {b : AV} {bu : Value}, keyB P kt b = true → VR φ b bu → valK b = some bu ∧ ∃ l, keyOf P kt bu = some l := fun {b bu} h1 h2 => by
    unfold keyB at h1
    split at h1
    · rename_i v' hv'
      have := valK_ok h2 hv'
      subst this
      exact ⟨hv', Option.isSome_iff_exists.1 h1⟩
    · cases h1
  obtain ⟨hkv, lx, hlx⟩ := hkey hc.1 hku
  have hall : ∀ e ∈ ces.toList, ∃ l, keyOf P kt e.key = some l := fun e he => by
    obtain ⟨x, hx, h2, _, _⟩ := left_ok (seen := []) hsz hes he
    exact (hkey (List.all_eq_true.1 hc.2 x hx) h2).2
  have hfind := hK.find w hlx ces.toList hall
  have hcheck := hK.check w false hlx
  have hst : st.h.get id = some (.map es clock) := hom
  rcases hfind with ⟨hrun, hne⟩ | ⟨j, e0, hrun, hj, hje⟩
  · -- no entry has the key
    have hnil : idxs k 0 es = [] := by
      cases hq : idxs k 0 es with
      | nil => rfl
      | cons i r =>
        exfalso
        obtain ⟨x, h1, _, h3⟩ := idxs_mem (show i ∈ idxs k 0 es by rw [hq]; simp)
        obtain ⟨e, hem, h4, _, _⟩ := right_ok hes (List.mem_of_getElem? h1)
        have h5 := avEq_ok h3
        rw [h5] at h4
        exact hne e hem (valK_ok h4 hkv)
    rw [hnil] at ho
    cases ho
    have := setHeap_ok (o' := .map (es ++ [(k, v, clock)]) (clock + 1)) hr hst rfl rfl (.map (ces.push { key := ku, val := vu, born := clock }) (clock + 1)) w (.inl rfl) (fun w' hw' => ⟨_, hw', by simp [hsz], fun i x hx => by
      by_cases hi : i < es.length
      · rw [List.getElem?_append_left hi] at hx
        obtain ⟨e, k1, k2⟩ := hes i x hx
        exact ⟨e, by rw [Array.getElem?_push_lt (by omega), ← k1, Array.getElem?_eq_getElem (by omega)], k2⟩
      · rw [List.getElem?_append_right (by omega)] at hx
        have hie : i = es.length := by
          rcases Nat.lt_or_ge (i - es.length) 1 with h | h
          · omega
          · simp [List.getElem?_eq_none (show [(k, v, clock)].length ≤ i - es.length by simpa using h)] at hx
        subst hie
        simp only [Nat.sub_self, List.getElem?_cons_zero, Option.some.injEq] at hx
        subst hx
        exact ⟨{ key := ku, val := vu, born := clock }, by rw [← hsz]; simp, hku, hvu, rfl⟩⟩)
    refine ⟨_, _, List.mem_singleton.2 rfl, ?_, this.1, this.2⟩
    simp [Instr.mapUpdate, run_underlying hu, MapKept.run_getObj_map hb, hcheck, hrun, MapKept.run_setObj_map _ hb, Result.andThen]
  · have hjl : j < es.length := by
      have : j < ces.toList.length := (List.getElem?_eq_some_iff.1 hj).1
      rw [← hsz]; simpa using this
    have hjc : ces[j]? = some e0 := by rw [← Array.getElem?_toList]; exact hj
    obtain ⟨e', k1, k2, k3, k4⟩ := hes j es[j] (List.getElem?_eq_getElem hjl)
    have hee : e' = e0 := by rw [hjc] at k1; exact (Option.some.inj k1).symm
    subst hee
    have hmem : 0 + j ∈ idxs k 0 es := mem_idxs (List.getElem?_eq_getElem hjl) (by
      have h5 := (hkey (List.all_eq_true.1 hc.2 es[j] (List.getElem_mem hjl)) k2).1
      rw [hje] at h5
      exact valK_eq h5 hkv)
    rw [Nat.zero_add] at hmem
    split at ho
    · rename_i hq; rw [hq] at hmem; cases hmem
    · rename_i j' hq
      rw [hq] at hmem
      have : j = j' := by simpa using hmem
      subst this
      rw [List.getElem?_eq_getElem hjl] at ho
      cases ho
      have := setHeap_ok (o' := .map (es.set j (k, v, es[j].2.2)) clock) hr hst rfl rfl (.map (ces.modify j fun e => { e with key := ku, val := vu }) clock) w (.inl rfl) (fun w' hw' => ⟨_, hw', by simp [hsz], fun i x hx => by
        by_cases hi : i = j
        · subst hi
          rw [List.getElem?_set_self hjl] at hx
          cases hx
          exact ⟨{ e' with key := ku, val := vu }, by simp [Array.getElem?_modify, hjc], hku, hvu, k4⟩
        · rw [List.getElem?_set_ne (Ne.symm hi)] at hx
          obtain ⟨e, q1, q2⟩ := hes i x hx
          exact ⟨e, by simp [Array.getElem?_modify, Ne.symm hi, q1], q2⟩⟩)
      refine ⟨_, _, List.mem_singleton.2 rfl, ?_, this.1, this.2⟩
      have hstay := hK.stays w hlx
      simp [Instr.mapUpdate, run_underlying hu, MapKept.run_getObj_map hb, hcheck, hrun, hjc, hje, hstay, MapKept.run_setObj_map _ hb, Result.andThen]
    · cases ho

theorem xMap_ok (hT : TOk P T) {KT : List TypeId} (hK : ∀ k ∈ KT, Maps.Keyed P k) : XOk P (xMap P T KT) := by
  intro rd ops i f st o outs ho hw h
  unfold xMap at h
  split at h
  · -- a new map
    rename_i t hx
    cases h
    refine OpsW.multi ho hw (fun c hc => by rw [hx] at hc; cases hc) fun φ w a h2 h3 => ?_
    have hp := h2.push (.map #[] 0) (.map [] 0) ⟨w.heap.size, 0, 0⟩ rfl ⟨#[], by rw [Fi.push_new]; exact alloc_heap_new' w _, rfl, fun i x hx => by simp at hx⟩
    refine ⟨_, _, _, _, _, List.mem_singleton.2 rfl, .inl (by simp only [execOp, hx]; simp [Instr.makeMap, Sem.run_bind, Result.andThen]; rfl), ?_, hp.1, φ.push_ext _, hp.2⟩
    have hv := VR.mp (φ := φ.push ⟨w.heap.size, 0, 0⟩) φ.n (by rw [Fi.push_n]; omega)
    rw [Fi.push_new] at hv
    rw [← h2.n]
    exact hv
  · -- an update
    rename_i t m k v hx
    split at h
    · rename_i kt hkt
      split at h
      · rename_i id es clock hes
        split at h
        · rename_i hc
          simp only [Bool.and_eq_true] at hc
          refine OpsW.multi ho hw (fun c hc => by rw [hx] at hc; cases hc) fun φ w a h2 h3 => ?_
          have hρ := opR_of h3.ts
          obtain ⟨st', w', k1, k2, k3, k4⟩ := update_ok (hT := hT) (hK kt (List.contains_iff_mem.1 hc.1.1)) h2 (hρ m) (hρ k) (hρ v) hkt hes (by simp only [Bool.and_eq_true]; exact ⟨hc.1.2, hc.2⟩) h
          exact ⟨_, _, φ, w', undef, k1, .inr ⟨by simp [execOp, hx, k2, Result.andThen], rfl⟩, .lit _, k3, Ext.refl _, k4⟩
        · cases h
      · cases h
    · cases h
  · rename_i t x hx
    split at h
    · rename_i kt hkt
      split at h
      · rename_i id es clock hes
        cases h
        refine OpsW.multi ho hw (fun c hc => by rw [hx] at hc; cases hc) fun φ w a h2 h3 => ?_
        obtain ⟨φ', w', u, k1, k2, k3, k4, k5⟩ := range_ok (hT := hT) h2 (opR_of h3.ts x) hkt hes
        exact ⟨_, _, φ', w', u, List.mem_singleton.2 rfl, .inl (by simp [execOp, hx, k1, Result.andThen]), k2, k3, k4, k5⟩
      · cases h
    · cases h
  · rename_i it hx
    split at h
    · rename_i rid mid since seen last hit
      split at h
      · rename_i id es clock hes
        split at h
        · rename_i hc
          refine OpsW.multi ho hw (fun c hc => by rw [hx] at hc; cases hc) fun φ w a h2 h3 => ?_
          rcases next_ok (P := P) (ty := o.type) h2 (opR_of h3.ts it) hit hes hc with ⟨k1, k2⟩ | ⟨x, hxm, w', v, k2, k3, k4, k5⟩
          · rw [k1] at h
            cases h
            exact ⟨_, _, φ, w, _, List.mem_singleton.2 rfl, .inl (by simp [execOp, hx, k2, Result.andThen]), .tup (us := [.bool false]) (.cons (.lit _) .nil), h2, Ext.refl _, Fr.refl _ _ _⟩
          · split at h
            · rename_i hq; rw [hq] at hxm; cases hxm
            · rename_i y ys hq
              cases h
              rw [hq] at hxm
              exact ⟨_, _, φ, w', v, List.mem_map_of_mem hxm, .inl (by simp [execOp, hx, k2, Result.andThen]), k3, k4, Ext.refl _, k5⟩
        · cases h
      · cases h
    · cases h
  · rename_i it hx
    split at h
    · rename_i rid mid since seen last hit
      split at h
      · rename_i id es clock s hes hs
        split at h
        · rename_i hc
          split at h
          · rename_i x hf
            cases h
            refine OpsW.multi ho hw (fun c hc => by rw [hx] at hc; cases hc) fun φ w a h2 h3 => ?_
            obtain ⟨v, k1, k2⟩ := entry_ok (P := P) h2 (opR_of h3.ts it) hit hes hs hc hf
            exact ⟨_, _, φ, w, v, List.mem_singleton.2 rfl, .inl (by simp [execOp, hx, k1, Result.andThen]), k2, h2, Ext.refl _, Fr.refl _ _ _⟩
          · cases h
        · cases h
      · cases h
    · cases h
  · cases h

/-- The one, or else the other. -/
def xOr (X Y : St → (Operand → AV) → Oper → Option (List (AV × St))) (st : St) (ρ : Operand → AV) (o : Oper) : Option (List (AV × St)) := match X st ρ o with
  | some r => some r
  | none => Y st ρ o
theorem xOr_ok {X Y : St → (Operand → AV) → Oper → Option (List (AV × St))} (hX : XOk P X) (hY : XOk P Y) : XOk P (xOr X Y) := by
  intro rd ops i f st o outs ho hw h
  unfold xOr at h
  split at h
  · rename_i r hr; cases h; exact hX rd ops i f st o _ ho hw hr
  · exact hY rd ops i f st o _ ho hw h

end
end Go.Ev
