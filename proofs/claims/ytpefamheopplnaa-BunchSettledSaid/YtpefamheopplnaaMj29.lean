/- Own work of the verifier of watercress: FzW3. -/
import Derived.Test.YtpefamheopplnaaMj28
set_option linter.unusedVariables false
set_option linter.unusedSimpArgs false
namespace Go.Fz
open Go.Proofs
set_option maxRecDepth 100000
set_option linter.unusedVariables false
def DayD.wW (d : DayD) (k : Nat) (a b : Int) : DayD := { d with wlo := setI d.wlo k a,whi := setI d.whi k b }
theorem flat_wW (d : DayD) (k : Nat) (a b : Int) (hk : k < d.nw) : ((flatG 2 (womC d) d.nw).set (k * 2 + 0) (iV a)).set (k * 2 + 1) (iV b) = flatG 2 (womC (d.wW k a b)) d.nw := by
  have e1 := flatG_set (g := womC d) (g' := fun i j => if i = k ∧ j = 0 then iV a else womC d i j) (v := iV a) hk (show 0 < 2 by omega) (if_pos ⟨rfl,rfl⟩) (fun i j _ _ h => if_neg h)
  have e2 := flatG_set (g := fun i j => if i = k ∧ j = 0 then iV a else womC d i j) (g' := womC (d.wW k a b)) (v := iV b) hk (show 1 < 2 by omega) (by show iV (setI d.whi k b k) = _; rw [setI_self]) (fun i j hi hj h => by
    by_cases hik : i = k
    · subst hik
      match j,hj,h with
      | 0,_,_ => show iV (setI d.wlo i a i) = if i = i ∧ 0 = 0 then iV a else _; rw [setI_self,if_pos ⟨rfl,rfl⟩]
      | 1,_,h => exact absurd ⟨rfl,rfl⟩ h
      | j + 2,hj,_ => omega
    · show _ = if i = k ∧ j = 0 then iV a else _
      rw [if_neg (fun h => hik h.1)]
      match j,hj with
      | 0,_ => show iV (setI d.wlo k a i) = iV (d.wlo i); rw [setI_ne hik]
      | 1,_ => show iV (setI d.whi k b i) = iV (d.whi i); rw [setI_ne hik]
      | j + 2,hj => omega)
  rw [e1,e2]
end Go.Fz
