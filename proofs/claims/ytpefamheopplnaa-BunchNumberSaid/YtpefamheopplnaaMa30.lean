/- Own work of the verifier of watercress: EvV. -/
import Derived.Test.YtpefamheopplnaaMa29
import Derived.Test.YtpefamheopplnaaMa23
import Derived.Test.YtpefamheopplnaaMa26
import Derived.Test.YtpefamheopplnaaMa25
set_option linter.unusedVariables false
set_option linter.unusedSimpArgs false
namespace Go.Ev
open Go.Proofs
theorem lt_of_ble {a b : Nat} (h : Nat.ble (a + 1) b = true) : a < b := Nat.le_of_ble_eq_true h
theorem laid : laidOutB Try.prog = true := by kernel_rfl
theorem keyed4 : Maps.Keyed Try.prog 4 := Maps.bool_keyed (by kernel_rfl)
theorem keyed121 : Maps.Keyed Try.prog 121 := Maps.Keyed.of_law (deep_law_laid (m := 3) laid (by omega) (lt_of_ble (by kernel_rfl)) (by kernel_rfl) (by kernel_rfl))
theorem keyed145 : Maps.Keyed Try.prog 145 := Maps.Keyed.of_law (deep_law_laid (m := 3) laid (by omega) (lt_of_ble (by kernel_rfl)) (by kernel_rfl) (by kernel_rfl))
theorem keyed167 : Maps.Keyed Try.prog 167 := Maps.Keyed.of_law (deep_law_laid (m := 3) laid (by omega) (lt_of_ble (by kernel_rfl)) (by kernel_rfl) (by kernel_rfl))
def zt : TypeId → Option Value
  | 3 => some (Value.int IntKind.i64 (Int.ofNat 0))
  | 4 => some (Value.bool false)
  | _ => none
theorem zt_ok : ZOk Try.prog zt := fun t z h w => by
  unfold zt at h
  split at h
  · cases h; exact zero_of_info (by kernel_rfl) w
  · cases h; exact zero_of_info (by kernel_rfl) w
  · cases h
theorem keyed_all : ∀ k ∈ [4, 121, 145, 167], Maps.Keyed Try.prog k := fun k hk => by
  have : k = 4 ∨ k = 121 ∨ k = 145 ∨ k = 167 := by simpa using hk
  rcases this with rfl | rfl | rfl | rfl
  · exact keyed4
  · exact keyed121
  · exact keyed145
  · exact keyed167
noncomputable def X : St → (Operand → AV) → Oper → Option (List (AV × St)) := xOr (xNil T) (xOr (xEnd T) (xOr (xMap Try.prog T [4, 121, 145, 167]) (xLook Try.prog T [4, 121, 145, 167] zt)))
theorem xok : XOk Try.prog X := xOr_ok (xNil_ok tok) (xOr_ok (xEnd_ok tok) (xOr_ok (xMap_ok tok keyed_all) (xLook_ok tok keyed_all zt_ok)))
def C0 : FuncId → List AV → St → Option (List (AV × St)) := fun _ _ _ => none
theorem c0ok : COk Try.prog C0 := fun g args st outs h => by cases h
noncomputable def ev (n : Nat) : CallE := evApply2 T X 60 (ofFns fns) C0 n
end Go.Ev
