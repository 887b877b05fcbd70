/-
  A TABLE OF TYPES out of a program. Own work of the verifier of watercress.
-/
import Derived.Test.YtmoimpajiajacaaEvL
namespace Go.Ev

def tab (P : Program) (t : TypeId) : Option TI :=
  match P.underlying t, P.info? t with
  | some d, some ti => match ti.zero with
    | some z => some { desc := d, size := ti.size, bytes := ti.bytes, zero := z.cells.toList, flat := !(P.stoodInHeld t) && !(P.eqGuardType P.depth t) }
    | none => none
  | _, _ => none

theorem tab_ok (P : Program) : TOk P (tab P) := fun t i h => by
  unfold tab at h
  split at h
  · rename_i d ti hd hti
    split at h
    · rename_i z hz
      cases h
      exact ⟨hd, ⟨ti, z, hti, rfl, rfl, hz, rfl⟩, fun hf => by simpa using hf⟩
    · cases h
  · cases h

def ofTab (l : List (Option TI)) : Ti := fun t => (l[t]?).getD none
theorem ofTab_ok {P : Program} {l : List (Option TI)} {n : Nat} (h : l = (List.range n).map (tab P)) : TOk P (ofTab l) := fun t i hi => by
  refine tab_ok P t i ?_
  unfold ofTab at hi
  subst h
  rw [List.getElem?_map] at hi
  cases hr : (List.range n)[t]? with
  | none => rw [hr] at hi; cases hi
  | some x =>
    rw [hr] at hi
    have : x = t := by
      obtain ⟨hx, he⟩ := List.getElem?_eq_some_iff.1 hr
      simpa using he.symm
    subst this
    exact hi

/-- A table of functions. -/
def ofFns (l : List (FuncId × Func)) (g : FuncId) : Option Func :=
  match l with
  | [] => none
  | (i, f) :: r => if Nat.beq i g then some f else ofFns r g

def fnsB (P : Program) : List (FuncId × Func) → Prop
  | [] => True
  | (i, f) :: r => (P.funcs[i]? = some f ∧ Enters P i ∧ (match f.body with | some b => tidyC b | none => true) = true) ∧ fnsB P r

theorem ofFns_ok {P : Program} : ∀ {l : List (FuncId × Func)}, fnsB P l → GOk P (ofFns l)
  | [], _, g, fn, h => by cases h
  | (i, f) :: r, hb, g, fn, h => by
    simp only [ofFns] at h
    split at h
    · rename_i hi
      cases h
      have : i = g := Nat.eq_of_beq_eq_true hi
      subst this
      refine ⟨hb.1.1, hb.1.2.1, fun b hbb => ?_⟩
      have := hb.1.2.2
      rw [hbb] at this
      exact this
    · exact ofFns_ok hb.2 g fn h

end Go.Ev
