/- Own work of the verifier of watercress: EvV. -/
import Derived.Test.YtpefamheopplnaaMc10
import Derived.Test.YtpefamheopplnaaMc4
import Derived.Test.YtpefamheopplnaaMc7
import Derived.Test.YtpefamheopplnaaMc6
set_option linter.unusedVariables false
set_option linter.unusedSimpArgs false
namespace Go.Ev
open Go.Proofs
theorem Gy {a b:Nat}(h:Nat.ble (a+1) b=true):a<b:=Nat.le_of_ble_eq_true h
theorem laid:laidOutB Try.prog=true:=by kernel_rfl
theorem sR:Maps.Keyed Try.prog 4:=Maps.bool_keyed (by kernel_rfl)
theorem Ub:Maps.Keyed Try.prog 121:=Maps.Keyed.of_law (deep_law_laid (m:=3) laid (by omega) (Gy (by kernel_rfl)) (by kernel_rfl) (by kernel_rfl))
theorem lT:Maps.Keyed Try.prog 145:=Maps.Keyed.of_law (deep_law_laid (m:=3) laid (by omega) (Gy (by kernel_rfl)) (by kernel_rfl) (by kernel_rfl))
theorem lS:Maps.Keyed Try.prog 167:=Maps.Keyed.of_law (deep_law_laid (m:=3) laid (by omega) (Gy (by kernel_rfl)) (by kernel_rfl) (by kernel_rfl))
def zt:TypeId→Option Value
 | 3=>some (Value.int IntKind.i64 (Int.ofNat 0))
 | 4=>some (Value.bool false)
 | _=>none
theorem rN:ZOk Try.prog zt:=fun t z h w=>by
 unfold zt at h
 split at h
 ·cases h;exact Oy (by kernel_rfl) w
 ·cases h;exact Oy (by kernel_rfl) w
 ·cases h
theorem Qp:∀ k∈[4,121,145,167],Maps.Keyed Try.prog k:=fun k hk=>by
 have:k=4∨k=121∨k=145∨k=167:=by simpa using hk
 rcases this with rfl|rfl|rfl|rfl
 ·exact sR
 ·exact Ub
 ·exact lT
 ·exact lS
noncomputable def X:St→(Operand→AV)→Oper→Option (List (AV × St)):=xOr (xNil T) (xOr (xEnd T) (xOr (xMap Try.prog T [4,121,145,167]) (xLook Try.prog T [4,121,145,167] zt)))
theorem xok:XOk Try.prog X:=Lv (oK tok) (Lv (oL tok) (Lv (eI tok Qp) (Yl tok Qp rN)))
def C0:FuncId→List AV→St→Option (List (AV × St)):=fun _ _ _=>none
theorem zU:COk Try.prog C0:=fun g args st outs h=>by cases h
noncomputable def ev (n:Nat):Dw:=evApply2 T X 60 (ofFns fns) C0 n
end Go.Ev
