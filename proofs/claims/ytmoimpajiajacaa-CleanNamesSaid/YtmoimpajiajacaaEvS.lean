/-
  MAPS, AND RANGES OVER THEM in whatever order. Own work of the verifier of watercress.
-/
import Derived.Maps.Keyed
import Derived.Maps.RangeRun
import Derived.DeepKeys4
import Derived.Test.YtmoimpajiajacaaEvX
namespace Go.Ev

def litK : AV → Option Value
  | .lit (.int k n) => some (.int k n)
  | .lit (.bool b) => some (.bool b)
  | _ => none
def valsK : List AV → Option (List Value)
  | [] => some []
  | a :: r => match litK a, valsK r with
    | some v, some vs => some (v :: vs)
    | _, _ => none
def valK : AV → Option Value
  | .agg cs => match valsK cs with
    | some vs => some (.agg vs.toArray)
    | none => none
  | a => litK a

theorem litK_ok {φ : Fi} {a : AV} {u v : Value} (h : VR φ a u) (hv : litK a = some v) : u = v := by
  unfold litK at hv
  split at hv
  · cases hv; exact h.lit_inv
  · cases hv; exact h.lit_inv
  · cases hv
theorem valsK_ok {φ : Fi} : ∀ {as : List AV} {us vs : List Value}, VRL φ as us → valsK as = some vs → us = vs
  | _, _, vs, .nil, hv => by simp only [valsK, Option.some.injEq] at hv; exact hv
  | _, _, vs, .cons h t, hv => by
    simp only [valsK] at hv
    split at hv
    · rename_i v vs' h1 h2
      cases hv
      rw [litK_ok h h1, valsK_ok t h2]
    · cases hv
theorem valK_ok {φ : Fi} {a : AV} {u v : Value} (h : VR φ a u) (hv : valK a = some v) : u = v := by
  unfold valK at hv
  split at hv
  · rename_i cs
    obtain ⟨us, rfl, hl⟩ := h.agg_inv
    split at hv
    · rename_i vs hvs
      cases hv
      rw [valsK_ok hl hvs]
    · cases hv
  · exact litK_ok h hv

section
variable {P : Program} {T : Ti}

/-- An operation with several outcomes. -/
theorem OpsW.multi {rd : Option Nat} {ops : Array Oper} {i : Nat} {f : Fm} {st : St} {o : Oper} {outs : List (AV × St)} (ho : ops[i]? = some o) (hw : Region.wanted o (yA ops f.ts) = true) (hd : ∀ c, o.op ≠ .defer c)
    (hrun : ∀ (φ : Fi) (w : World) (a : Act), Rel φ st w → ActR φ f a → ∃ r st' φ' w' u, (r, st') ∈ outs ∧ ((execOp a.eval o).run P w = .ok (.value u) w' ∨ ((execOp a.eval o).run P w = .ok .skip w' ∧ u = undef)) ∧ VR φ' r u ∧ Rel φ' st' w' ∧ Ext φ φ' ∧ Fr φ st w φ' st' w') :
    OpsW P rd ops [i] (fun f' st' => ∃ v, f' = f.put o.dst v ∧ (v, st') ∈ outs) f st := by
  intro φ w a n Q h1 h2 h3 hQ
  simp only [wpOpsIn, ho]
  rw [yielded_eq h3, hw]
  simp only [if_true]
  refine ⟨fun _ _ => trivial, ?_⟩
  rw [semAt_eq hd]
  obtain ⟨r, st', φ', w', u, hm, hr, hv, hrel, he, hf⟩ := hrun φ w a h2 h3
  have h4 : Q .normal (a.put o.dst u) w' := hQ _ _ ⟨f.put o.dst r, st', φ', ⟨r, rfl, hm⟩, he, hrel, (h3.mono he).put o.dst hv, hf⟩
  rcases hr with hr | ⟨hr, rfl⟩
  · rw [hr]; exact h4
  · rw [hr]; exact h4

/-- Which entries have the key. -/
def idxs (k : AV) : Nat → List (AV × AV × Nat) → List Nat
  | _, [] => []
  | i, x :: r => if avEq x.1 k then i :: idxs k (i + 1) r else idxs k (i + 1) r

theorem idxs_mem {k : AV} : ∀ {l : List (AV × AV × Nat)} {i j : Nat}, j ∈ idxs k i l → ∃ x, l[j - i]? = some x ∧ i ≤ j ∧ avEq x.1 k = true
  | x :: r, i, j, h => by
    simp only [idxs] at h
    have rest : j ∈ idxs k (i + 1) r → ∃ y, (x :: r)[j - i]? = some y ∧ i ≤ j ∧ avEq y.1 k = true := fun h => by
      obtain ⟨y, h1, h2, h3⟩ := idxs_mem h
      refine ⟨y, ?_, by omega, h3⟩
      have : j - i = (j - (i + 1)) + 1 := by omega
      rw [this, List.getElem?_cons_succ]; exact h1
    split at h
    · rename_i he
      rcases List.mem_cons.1 h with rfl | h
      · exact ⟨x, by simp, Nat.le_refl _, he⟩
      · exact rest h
    · exact rest h
  | [], i, j, h => by cases h

theorem mem_idxs {k : AV} : ∀ {l : List (AV × AV × Nat)} {i j : Nat} {x : AV × AV × Nat}, l[j]? = some x → avEq x.1 k = true → i + j ∈ idxs k i l
  | y :: r, i, 0, x, h, he => by
    simp only [List.getElem?_cons_zero, Option.some.injEq] at h
    subst h
    simp only [idxs, he, if_true, Nat.add_zero, List.mem_cons_self]
  | y :: r, i, j + 1, x, h, he => by
    rw [List.getElem?_cons_succ] at h
    have := mem_idxs (i := i + 1) h he
    have e : i + (j + 1) = i + 1 + j := by omega
    rw [e]
    simp only [idxs]
    split
    · exact List.mem_cons_of_mem _ this
    · exact this

variable (P) in
def keyB (kt : TypeId) (a : AV) : Bool := match valK a with
  | some v => (keyOf P kt v).isSome
  | none => false

theorem litK_eq {a b : AV} {v : Value} (h : litK a = some v) (k : litK b = some v) : avEq a b = true := by
  unfold litK at h k
  split at h
  · split at k
    · cases h; cases k; simp [avEq, litEq]
    · cases h; cases k
    · cases k
  · split at k
    · cases h; cases k
    · cases h; cases k; simp [avEq, litEq]
    · cases k
  · cases h
theorem valsK_eq : ∀ {a b : List AV} {v : List Value}, valsK a = some v → valsK b = some v → avsEq a b = true
  | [], [], _, _, _ => by simp [avsEq]
  | [], y :: s, v, h, k => by
    simp only [valsK, Option.some.injEq] at h
    subst h
    simp only [valsK] at k
    split at k <;> cases k
  | x :: r, [], v, h, k => by
    simp only [valsK, Option.some.injEq] at k
    subst k
    simp only [valsK] at h
    split at h <;> cases h
  | x :: r, y :: s, v, h, k => by
    simp only [valsK] at h k
    split at h
    · rename_i v1 vs1 h1 h2
      cases h
      split at k
      · rename_i v2 vs2 k1 k2
        cases k
        simp [avsEq, litK_eq h1 k1, valsK_eq h2 k2]
      · cases k
    · cases h
theorem litK_agg {a : AV} {cs : Array Value} (h : litK a = some (.agg cs)) : False := by
  unfold litK at h
  split at h <;> cases h
theorem valK_eq {a b : AV} {v : Value} (h : valK a = some v) (k : valK b = some v) : avEq a b = true := by
  unfold valK at h k
  split at h
  · split at h
    · rename_i vs hvs
      cases h
      split at k
      · split at k
        · rename_i ws hws
          simp only [Option.some.injEq, Value.agg.injEq] at k
          have : ws = vs := by have := congrArg Array.toList k; simpa using this
          subst this
          simp [avEq, valsK_eq hvs hws]
        · cases k
      · exact (litK_agg k).elim
    · cases h
  · split at k
    · split at k
      · cases k
        exact (litK_agg h).elim
      · cases k
    · exact litK_eq h k

def esOf (st : St) (a : AV) : Option (Nat × List (AV × AV × Nat) × Nat) := match a with
  | .mp id => match st.h.get id with
    | some (.map es clock) => some (id, es, clock)
    | _ => none
  | _ => none

theorem esOf_ok {φ : Fi} {st : St} {w : World} {a : AV} {u : Value} {id clock : Nat} {es : List (AV × AV × Nat)} (hr : Rel φ st w) (ha : VR φ a u) (h : esOf st a = some (id, es, clock)) :
    u = .map (some (φ.f id).b) ∧ id < φ.n ∧ st.h.get id = some (.map es clock) ∧ ∃ ces : Array MapEntry, w.heap[(φ.f id).b]? = some (.map ces clock) ∧ ces.size = es.length ∧
      ∀ (i : Nat) (x : AV × AV × Nat), es[i]? = some x → ∃ e, ces[i]? = some e ∧ VR φ x.1 e.key ∧ VR φ x.2.1 e.val ∧ e.born = x.2.2 := by
  unfold esOf at h
  split at h
  · rename_i id'
    split at h
    · rename_i es' clock' ho
      cases h
      obtain ⟨h1, h2⟩ := ha.mp_inv
      exact ⟨h1, h2, ho, hr.obj _ _ ho⟩
    · cases h
  · cases h

def mapD (T : Ti) (t : TypeId) : Option TypeId := match T t with
  | some i => match i.desc with
    | .map k _ => some k
    | _ => none
  | none => none
theorem mapD_ok (hT : TOk P T) {t k : TypeId} (h : mapD T t = some k) : ∃ e, P.underlying t = some (.map k e) := by
  unfold mapD at h
  split at h
  · rename_i i hi
    split at h
    · rename_i k' e hd
      cases h
      exact ⟨e, by rw [← hd]; exact (hT t i hi).und⟩
    · cases h
  · cases h

theorem setHeap_ok {φ : Fi} {st : St} {w : World} (hr : Rel φ st w) {id : Nat} {o o' : AObj} (ho : st.h.get id = some o) (hown : o.own = true) (hfam : o.fam = none) (co : Obj) (w0 : World) (hw0 : w0 = w ∨ w0 = w.drew) (hobj : ∀ w' : World, w'.heap[(φ.f id).b]? = some co → ObjR φ w' id o') :
    Rel φ ⟨st.h.set id o', st.n⟩ { w0 with heap := w0.heap.setIfInBounds (φ.f id).b co } ∧ Fr φ st w φ ⟨st.h.set id o', st.n⟩ { w0 with heap := w0.heap.setIfInBounds (φ.f id).b co } := by
  have hb := hr.blk id o ho
  have hh : w0.heap = w.heap := by rcases hw0 with rfl | rfl <;> rfl
  have h1 : w0.os = w.os ∧ w0.tape = w.tape ∧ w0.output = w.output := by rcases hw0 with rfl | rfl <;> exact ⟨rfl, rfl, rfl⟩
  refine hr.turn ho hown hfam h1.1 h1.2.1 h1.2.2 (by simp [hh]) (fun k hk => ?_) (hobj _ ?_)
  · simp only [hh]; rw [Array.getElem?_setIfInBounds_ne (Ne.symm hk)]
  · simp only [hh]; simp [hb]

end
end Go.Ev
