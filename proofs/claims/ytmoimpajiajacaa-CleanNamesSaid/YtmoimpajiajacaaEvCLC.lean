/-
  A closed function: what it returns. Own work of the verifier of watercress.
-/
import Derived.Test.YtmoimpajiajacaaEvCLB0
import Derived.Test.YtmoimpajiajacaaEvCLB1
import Derived.Test.YtmoimpajiajacaaEvCLB2
import Derived.Test.YtmoimpajiajacaaEvCLB3
import Derived.Test.YtmoimpajiajacaaEvCLB4
namespace Go.Ev
open Go.Proofs
set_option maxRecDepth 1000000

theorem c51_last : restS 10 c51 = nthS 10 c51 := by kernel_rfl
theorem c51_run10 : evC3 T Xq (evq 90) 60 none (restS 10 c51) c51F10 c51S10 = some [(.ret, c51F11, c51S11)] := by rw [c51_last]; exact c51_st10
theorem c51_run9 : evC3 T Xq (evq 90) 60 none (restS 9 c51) c51F9 c51S9 = some [(.ret, c51F11, c51S11)] := ev3_stage c51_dec9 c51_st9 c51_run10
theorem c51_run8 : evC3 T Xq (evq 90) 60 none (restS 8 c51) c51F8 c51S8 = some [(.ret, c51F11, c51S11)] := ev3_stage c51_dec8 c51_st8 c51_run9
theorem c51_run7 : evC3 T Xq (evq 90) 60 none (restS 7 c51) c51F7 c51S7 = some [(.ret, c51F11, c51S11)] := ev3_stage c51_dec7 c51_st7 c51_run8
theorem c51_run6 : evC3 T Xq (evq 90) 60 none (restS 6 c51) c51F6 c51S6 = some [(.ret, c51F11, c51S11)] := ev3_stage c51_dec6 c51_st6 c51_run7
theorem c51_run5 : evC3 T Xq (evq 90) 60 none (restS 5 c51) c51F5 c51S5 = some [(.ret, c51F11, c51S11)] := ev3_stage c51_dec5 c51_st5 c51_run6
theorem c51_run4 : evC3 T Xq (evq 90) 60 none (restS 4 c51) c51F4 c51S4 = some [(.ret, c51F11, c51S11)] := ev3_stage c51_dec4 c51_st4 c51_run5
theorem c51_run3 : evC3 T Xq (evq 90) 60 none (restS 3 c51) c51F3 c51S3 = some [(.ret, c51F11, c51S11)] := ev3_stage c51_dec3 c51_st3 c51_run4
theorem c51_run2 : evC3 T Xq (evq 90) 60 none (restS 2 c51) c51F2 c51S2 = some [(.ret, c51F11, c51S11)] := ev3_stage c51_dec2 c51_st2 c51_run3
theorem c51_run1 : evC3 T Xq (evq 90) 60 none (restS 1 c51) c51F1 c51S1 = some [(.ret, c51F11, c51S11)] := ev3_stage c51_dec1 c51_st1 c51_run2
theorem c51_run0 : evC3 T Xq (evq 90) 60 none (restS 0 c51) c51F0 c51S0 = some [(.ret, c51F11, c51S11)] := ev3_stage c51_dec0 c51_st0 c51_run1

theorem c51_body : Try.f51.body = some c51 := by kernel_rfl
theorem c51_fn : ofFns fns 51 = some Try.f51 := by kernel_rfl
theorem c51_start : ofF [] Try.f51.ntmps = c51F0 := by kernel_rfl
theorem c51_state : c51S0 = ⟨[], 0⟩ := by kernel_rfl
theorem c51_small : (Nat.ble (lenL ([] : List AV)) bigT && Nat.ble Try.f51.ntmps bigT) = true := by kernel_rfl
theorem c51_ret : (bind3 [((.ret, c51F11, c51S11) : Out2)] (retO3 (manyD (D0 51) [((.ret, c51F11, c51S11) : Out2)]) T Try.f51 0)).map (fun l => l.map fun x => x.1) = some [.lit (.bool true)] := by kernel_rfl
theorem c51_none : C0 51 [] ⟨[], 0⟩ = none := by kernel_rfl
theorem c51_ok : Enters Try.prog 51 ∧ ∀ st, CallW Try.prog 51 [] st (fun v st' => v = .lit (.bool true) ∧ st' = st) := by
  cases hq : bind3 [((.ret, c51F11, c51S11) : Out2)] (retO3 (manyD (D0 51) [((.ret, c51F11, c51S11) : Out2)]) T Try.f51 0) with
  | none => have := c51_ret; rw [hq] at this; cases this
  | some l =>
    have hl := c51_ret
    rw [hq] at hl
    simp only [Option.map_some, Option.some.injEq] at hl
    have hrun := c51_run0
    rw [c51_state] at hrun
    have h := evApply3_of (T := T) (X := Xq) (L := 60) (G := ofFns fns) (C := C0) (D := D0) (n := 90) (g := 51) (args := []) (st := ⟨[], 0⟩) c51_none c51_fn c51_body c51_small (by rw [c51_start]; exact hrun) hq
    match l, hl with
    | [x], hl =>
      exact CallW.of_ev (evq_ok 91) (g := 51) (outs := [x]) h fun y hy => by
        have : y = x := by simpa using hy
        subst this; simpa using hl
end Go.Ev
