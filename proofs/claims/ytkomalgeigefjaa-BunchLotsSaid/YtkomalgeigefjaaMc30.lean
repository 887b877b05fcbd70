/- Own work of the verifier of watercress: EvV. -/
import Derived.Test.YtkomalgeigefjaaMc29
import Derived.Test.YtkomalgeigefjaaMc23
import Derived.Test.YtkomalgeigefjaaMc26
import Derived.Test.YtkomalgeigefjaaMc25
set_option linter.unusedVariables false
set_option linter.unusedSimpArgs false
namespace Go.Ev
open Go.Proofs
theorem lt_of_ble {a b : Nat} (h : Nat.ble (a + 1) b = true) : a < b := Nat.le_of_ble_eq_true h
theorem laid : laidOutB Try.prog = true := by kernel_rfl
theorem keyed4 : Maps.Keyed Try.prog 4 := Maps.bool_keyed (by kernel_rfl)
theorem keyed85 : Maps.Keyed Try.prog 85 := Maps.Keyed.of_law (deep_law_laid (m := 3) laid (by omega) (lt_of_ble (by kernel_rfl)) (by kernel_rfl) (by kernel_rfl))
theorem keyed99 : Maps.Keyed Try.prog 99 := Maps.Keyed.of_law (deep_law_laid (m := 3) laid (by omega) (lt_of_ble (by kernel_rfl)) (by kernel_rfl) (by kernel_rfl))
theorem keyed147 : Maps.Keyed Try.prog 147 := Maps.Keyed.of_law (deep_law_laid (m := 3) laid (by omega) (lt_of_ble (by kernel_rfl)) (by kernel_rfl) (by kernel_rfl))
def zt : TypeId → Option Value
  | 3 => some (Value.int IntKind.i64 (Int.ofNat 0))
  | 4 => some (Value.bool false)
  | _ => none
theorem zt_ok : ZOk Try.prog zt := fun t z h w => by
  unfold zt at h
  split at h
  · cases h; exact zero_of_info (by kernel_rfl) w
  · cases h; exact zero_of_info (by kernel_rfl) w
  · cases h
theorem keyed_all : ∀ k ∈ [4, 85, 99, 147], Maps.Keyed Try.prog k := fun k hk => by
  have : k = 4 ∨ k = 85 ∨ k = 99 ∨ k = 147 := by simpa using hk
  rcases this with rfl | rfl | rfl | rfl
  · exact keyed4
  · exact keyed85
  · exact keyed99
  · exact keyed147
noncomputable def X : St → (Operand → AV) → Oper → Option (List (AV × St)) := xOr (xNil T) (xOr (xEnd T) (xOr (xMap Try.prog T [4, 85, 99, 147]) (xLook Try.prog T [4, 85, 99, 147] zt)))
theorem xok : XOk Try.prog X := xOr_ok (xNil_ok tok) (xOr_ok (xEnd_ok tok) (xOr_ok (xMap_ok tok keyed_all) (xLook_ok tok keyed_all zt_ok)))
def C0 : FuncId → List AV → St → Option (List (AV × St)) := fun _ _ _ => none
theorem c0ok : COk Try.prog C0 := fun g args st outs h => by cases h
noncomputable def ev (n : Nat) : CallE := evApply2 T X 60 (ofFns fns) C0 n
end Go.Ev
