/-
  THE EVALUATOR OF THIS PROGRAM. Own work of the verifier of watercress.
-/
import Derived.Test.YtgfahkehkpjabaaEvP
import Derived.Test.YtgfahkehkpjabaaEvQ
import Derived.Test.YtgfahkehkpjabaaEvU
import Derived.Test.YtgfahkehkpjabaaEvY
namespace Go.Ev
open Go.Proofs

theorem lt_of_ble {a b : Nat} (h : Nat.ble (a + 1) b = true) : a < b := Nat.le_of_ble_eq_true h
theorem sz48 : Nat.ble (48 + 1) Try.prog.types.size = true := by kernel_rfl
theorem lt48 : 48 < Try.prog.types.size := lt_of_ble sz48
theorem keyed48 : Maps.Keyed Try.prog 48 := Maps.Keyed.of_law (deep_law_laid (m := 3) (by kernel_rfl) (by omega) lt48 (by kernel_rfl) (by kernel_rfl))
noncomputable def X : St → (Operand → AV) → Oper → Option (List (AV × St)) := xOr (xNil T) (xOr (xEnd T) (xMap Try.prog T [48]))
theorem xok : XOk Try.prog X := xOr_ok (xNil_ok tok) (xOr_ok (xEnd_ok tok) (xMap_ok tok fun k hk => by
  have : k = 48 := by simpa using hk
  subst this; exact keyed48))
def C0 : FuncId → List AV → St → Option (List (AV × St)) := fun _ _ _ => none
theorem c0ok : COk Try.prog C0 := fun g args st outs h => by cases h
noncomputable def ev (n : Nat) : CallE := evApply2 T X 60 (ofFns fns) C0 n
theorem ev_ok (n : Nat) : CallOk Try.prog (ev n) := evApply2_ok mixed tok xok gok c0ok n
end Go.Ev
