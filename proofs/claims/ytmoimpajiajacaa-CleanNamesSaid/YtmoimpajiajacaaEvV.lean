/-
  THE EVALUATOR OF THIS PROGRAM. Own work of the verifier of watercress.
-/
import Derived.Test.YtmoimpajiajacaaEvP
import Derived.Test.YtmoimpajiajacaaEvQ
import Derived.Test.YtmoimpajiajacaaEvT
import Derived.Test.YtmoimpajiajacaaEvY
namespace Go.Ev
open Go.Proofs

theorem lt_of_ble {a b : Nat} (h : Nat.ble (a + 1) b = true) : a < b := Nat.le_of_ble_eq_true h
theorem laid : laidOutB Try.prog = true := by kernel_rfl
theorem keyed3 : Maps.Keyed Try.prog 3 := Maps.int_keyed (q := .i64) (by kernel_rfl)
theorem keyed4 : Maps.Keyed Try.prog 4 := Maps.bool_keyed (by kernel_rfl)
theorem keyed105 : Maps.Keyed Try.prog 105 := Maps.Keyed.of_law (deep_law_laid (m := 3) laid (by omega) (lt_of_ble (by kernel_rfl)) (by kernel_rfl) (by kernel_rfl))
theorem keyed113 : Maps.Keyed Try.prog 113 := Maps.Keyed.of_law (deep_law_laid (m := 3) laid (by omega) (lt_of_ble (by kernel_rfl)) (by kernel_rfl) (by kernel_rfl))
theorem keyed191 : Maps.Keyed Try.prog 191 := Maps.Keyed.of_law (deep_law_laid (m := 3) laid (by omega) (lt_of_ble (by kernel_rfl)) (by kernel_rfl) (by kernel_rfl))
theorem keyed224 : Maps.Keyed Try.prog 224 := Maps.Keyed.of_law (deep_law_laid (m := 3) laid (by omega) (lt_of_ble (by kernel_rfl)) (by kernel_rfl) (by kernel_rfl))
def zt : TypeId → Option Value
  | 4 => some (Value.bool false)
  | 128 => some (Value.map none)
  | 193 => some (Value.agg (Array.mk [Value.bool false, Value.slice none 0 0, Value.int IntKind.i64 (Int.ofNat 0)]))
  | _ => none
theorem zt_ok : ZOk Try.prog zt := fun t z h w => by
  unfold zt at h
  split at h
  · cases h; exact zero_of_info (by kernel_rfl) w
  · cases h; exact zero_of_info (by kernel_rfl) w
  · cases h; exact zero_of_info (by kernel_rfl) w
  · cases h
theorem keyed_all : ∀ k ∈ [3, 4, 105, 113, 191, 224], Maps.Keyed Try.prog k := fun k hk => by
  have : k = 3 ∨ k = 4 ∨ k = 105 ∨ k = 113 ∨ k = 191 ∨ k = 224 := by simpa using hk
  rcases this with rfl | rfl | rfl | rfl | rfl | rfl
  · exact keyed3
  · exact keyed4
  · exact keyed105
  · exact keyed113
  · exact keyed191
  · exact keyed224
noncomputable def X : St → (Operand → AV) → Oper → Option (List (AV × St)) := xOr (xNil T) (xOr (xEnd T) (xOr (xMap Try.prog T [3, 4, 105, 113, 191, 224]) (xLook Try.prog T [3, 4, 105, 113, 191, 224] zt)))
theorem xok : XOk Try.prog X := xOr_ok (xNil_ok tok) (xOr_ok (xEnd_ok tok) (xOr_ok (xMap_ok tok keyed_all) (xLook_ok tok keyed_all zt_ok)))
def C0 : FuncId → List AV → St → Option (List (AV × St)) := fun _ _ _ => none
theorem c0ok : COk Try.prog C0 := fun g args st outs h => by cases h
noncomputable def ev (n : Nat) : CallE := evApply2 T X 60 (ofFns fns) C0 n
theorem ev_ok (n : Nat) : CallOk Try.prog (ev n) := evApply2_ok mixed tok xok gok c0ok n
end Go.Ev
