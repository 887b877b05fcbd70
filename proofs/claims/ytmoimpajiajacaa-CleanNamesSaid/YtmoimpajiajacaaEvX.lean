/-
  FURTHER OPERATIONS: a slice against nil. Own work of the verifier of watercress.
-/
import Derived.Laws.Cover3
import Derived.Test.YtmoimpajiajacaaEvM
namespace Go.Ev

def isNilSl : AV → Bool
  | .lit (.slice none 0 0) => true
  | _ => false
theorem isNilSl_ok {a : AV} (h : isNilSl a = true) : a = .lit (.slice none 0 0) := by
  unfold isNilSl at h
  split at h
  · rfl
  · cases h

/-- A slice against nil. -/
def xNil (T : Ti) (st : St) (ρ : Operand → AV) (o : Oper) : Option (List (AV × St)) :=
  match o.op with
  | .binOp .eql t x y _ => match T t with
    | some i => match i.desc with
      | .slice _ => if isNilSl (ρ y) then match ρ x with
          | .sl _ _ _ _ _ => some [(.lit (.bool false), st)]
          | .lit (.slice none 0 0) => some [(.lit (.bool true), st)]
          | _ => none
        else none
      | _ => none
    | none => none
  | _ => none

theorem xNil_ok {P : Program} {T : Ti} (hT : TOk P T) : XOk P (xNil T) := by
  intro rd ops i f st o outs ho hw h
  unfold xNil at h
  split at h
  · rename_i t x y yt hx
    split at h
    · rename_i ti hti
      split at h
      · rename_i e hd
        split at h
        · rename_i hn
          have hu := (hT t ti hti).und
          rw [hd] at hu
          have key : ∀ (b : Bool) (φ : Fi) (w : World) (a : Act) (p : Option Addr) (l c : Nat), ActR φ f a → a.eval x = .slice p l c → p.isNone = b → (execOp a.eval o).run P w = .ok (.value (.bool b)) w := fun b φ w a p l c ha hp hb => by
            have hy := opR_of ha.ts y
            rw [isNilSl_ok hn] at hy
            have hy := hy.lit_inv
            have h1 := run_equalIn_slice_nil (P := P) (w := w) 9999 t e p l c hu
            subst hb
            simp only [execOp, hx, hp, hy]
            simp [Sem.run_bind, eqGuard, Result.andThen, binOp, Op.equal, Op.maxDepth, h1]
          split at h
          · rename_i id off len sz ex hxv
            cases h
            refine OpsW.value ho hw (fun c hc => by rw [hx] at hc; cases hc) (fun φ w a h2 h3 => ?_) (.nil ⟨_, rfl, List.mem_singleton.2 rfl⟩)
            have hxx := opR_of h3.ts x
            rw [hxv] at hxx
            obtain ⟨cap, hs, _⟩ := hxx.sl_inv
            exact ⟨φ, w, _, .inl (key false φ w a _ _ _ h3 hs rfl), .lit _, h2, Ext.refl _, Fr.refl _ _ _⟩
          · rename_i hxv
            cases h
            refine OpsW.value ho hw (fun c hc => by rw [hx] at hc; cases hc) (fun φ w a h2 h3 => ?_) (.nil ⟨_, rfl, List.mem_singleton.2 rfl⟩)
            have hxx := opR_of h3.ts x
            rw [hxv] at hxx
            have hs := hxx.lit_inv
            exact ⟨φ, w, _, .inl (key true φ w a none _ _ h3 hs rfl), .lit _, h2, Ext.refl _, Fr.refl _ _ _⟩
          · cases h
        · cases h
      · cases h
    · cases h
  · cases h

end Go.Ev
