/- Own work of the verifier of watercress: EvKv. -/
import Derived.Test.YtpefamheopplnaaMc6
import Derived.Test.YtpefamheopplnaaMc8
import Derived.Test.YtpefamheopplnaaMc9
import Derived.Test.YtpefamheopplnaaMc11
set_option linter.unusedVariables false
set_option linter.unusedSimpArgs false
namespace Go.Ev
open Go.Proofs
def smp:TypeId→Option AV
 | 4=>some (.lit (.bool false))
 | 121=>some (.agg [.lit (.int .i64 (Int.ofNat 0)),.lit (.int .i64 (Int.ofNat 0))])
 | 145=>some (.agg [.lit (.bool false),.lit (.bool false),.lit (.bool false),.lit (.bool false),.lit (.bool false)])
 | 167=>some (.agg [.lit (.int .i64 (Int.ofNat 0)),.lit (.int .i64 (Int.ofNat 0)),.lit (.int .i64 (Int.ofNat 0)),.lit (.int .i64 (Int.ofNat 0))])
 | _=>none
theorem sC:gJ Try.prog smp:=fun k s h=>by
 unfold smp at h
 split at h
 ·cases h;kernel_rfl
 ·cases h;kernel_rfl
 ·cases h;kernel_rfl
 ·cases h;kernel_rfl
 ·cases h
noncomputable def Xq:St→(Operand→AV)→Oper→Option (List (AV × St)):=xOr (x3 Try.prog T [4,121,145,167] smp zt) (xOr (xEnd1 T) (xOr (xSto T) (xOr (xCopy T) (xOr (xClear T) X))))
theorem rV:XOk Try.prog Xq:=Lv (wC tok sC Qp rN) (Lv (jT tok) (Lv (oJ tok) (Lv (jU tok) (Lv (gM tok) xok))))
def D0:FuncId→Nat:=fun g=>match Nat.blt g 57 with
 | true=>0
 | false=>match List.contains [99,100,101,102,122,123] g with
  | true=>20
  | false=>1020
noncomputable def evq (n:Nat):Dw:=Iy T Xq 60 (ofFns fns) C0 D0 n
theorem dR (n:Nat):Lt Try.prog (evq n):=Mt mixed tok rV gok zU n
end Go.Ev
