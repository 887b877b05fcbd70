/-
  A closed function: what it returns. Own work of the verifier of watercress.
-/
import Derived.Test.YtmoimpajiajacaaEvNLB0
import Derived.Test.YtmoimpajiajacaaEvNLB1
import Derived.Test.YtmoimpajiajacaaEvNLB2
import Derived.Test.YtmoimpajiajacaaEvNLB3
namespace Go.Ev
open Go.Proofs
set_option maxRecDepth 1000000

theorem n6_last : restS 27 n6 = nthS 27 n6 := by kernel_rfl
theorem n6_run27 : evC3 T Xq (evq1 90) 60 none (restS 27 n6) n6F27 n6S27 = some [(.ret, n6F28, n6S28)] := by rw [n6_last]; exact n6_st27
theorem n6_run26 : evC3 T Xq (evq1 90) 60 none (restS 26 n6) n6F26 n6S26 = some [(.ret, n6F28, n6S28)] := ev3_stage n6_dec26 n6_st26 n6_run27
theorem n6_run25 : evC3 T Xq (evq1 90) 60 none (restS 25 n6) n6F25 n6S25 = some [(.ret, n6F28, n6S28)] := ev3_stage n6_dec25 n6_st25 n6_run26
theorem n6_run24 : evC3 T Xq (evq1 90) 60 none (restS 24 n6) n6F24 n6S24 = some [(.ret, n6F28, n6S28)] := ev3_stage n6_dec24 n6_st24 n6_run25
theorem n6_run23 : evC3 T Xq (evq1 90) 60 none (restS 23 n6) n6F23 n6S23 = some [(.ret, n6F28, n6S28)] := ev3_stage n6_dec23 n6_st23 n6_run24
theorem n6_run22 : evC3 T Xq (evq1 90) 60 none (restS 22 n6) n6F22 n6S22 = some [(.ret, n6F28, n6S28)] := ev3_stage n6_dec22 n6_st22 n6_run23
theorem n6_run21 : evC3 T Xq (evq1 90) 60 none (restS 21 n6) n6F21 n6S21 = some [(.ret, n6F28, n6S28)] := ev3_stage n6_dec21 n6_st21 n6_run22
theorem n6_run20 : evC3 T Xq (evq1 90) 60 none (restS 20 n6) n6F20 n6S20 = some [(.ret, n6F28, n6S28)] := ev3_stage n6_dec20 n6_st20 n6_run21
theorem n6_run19 : evC3 T Xq (evq1 90) 60 none (restS 19 n6) n6F19 n6S19 = some [(.ret, n6F28, n6S28)] := ev3_stage n6_dec19 n6_st19 n6_run20
theorem n6_run18 : evC3 T Xq (evq1 90) 60 none (restS 18 n6) n6F18 n6S18 = some [(.ret, n6F28, n6S28)] := ev3_stage n6_dec18 n6_st18 n6_run19
theorem n6_run17 : evC3 T Xq (evq1 90) 60 none (restS 17 n6) n6F17 n6S17 = some [(.ret, n6F28, n6S28)] := ev3_stage n6_dec17 n6_st17 n6_run18
theorem n6_run16 : evC3 T Xq (evq1 90) 60 none (restS 16 n6) n6F16 n6S16 = some [(.ret, n6F28, n6S28)] := ev3_stage n6_dec16 n6_st16 n6_run17
theorem n6_run15 : evC3 T Xq (evq1 90) 60 none (restS 15 n6) n6F15 n6S15 = some [(.ret, n6F28, n6S28)] := ev3_stage n6_dec15 n6_st15 n6_run16
theorem n6_run14 : evC3 T Xq (evq1 90) 60 none (restS 14 n6) n6F14 n6S14 = some [(.ret, n6F28, n6S28)] := ev3_stage n6_dec14 n6_st14 n6_run15
theorem n6_run13 : evC3 T Xq (evq1 90) 60 none (restS 13 n6) n6F13 n6S13 = some [(.ret, n6F28, n6S28)] := ev3_stage n6_dec13 n6_st13 n6_run14
theorem n6_run12 : evC3 T Xq (evq1 90) 60 none (restS 12 n6) n6F12 n6S12 = some [(.ret, n6F28, n6S28)] := ev3_stage n6_dec12 n6_st12 n6_run13
theorem n6_run11 : evC3 T Xq (evq1 90) 60 none (restS 11 n6) n6F11 n6S11 = some [(.ret, n6F28, n6S28)] := ev3_stage n6_dec11 n6_st11 n6_run12
theorem n6_run10 : evC3 T Xq (evq1 90) 60 none (restS 10 n6) n6F10 n6S10 = some [(.ret, n6F28, n6S28)] := ev3_stage n6_dec10 n6_st10 n6_run11
theorem n6_run9 : evC3 T Xq (evq1 90) 60 none (restS 9 n6) n6F9 n6S9 = some [(.ret, n6F28, n6S28)] := ev3_stage n6_dec9 n6_st9 n6_run10
theorem n6_run8 : evC3 T Xq (evq1 90) 60 none (restS 8 n6) n6F8 n6S8 = some [(.ret, n6F28, n6S28)] := ev3_stage n6_dec8 n6_st8 n6_run9
theorem n6_run7 : evC3 T Xq (evq1 90) 60 none (restS 7 n6) n6F7 n6S7 = some [(.ret, n6F28, n6S28)] := ev3_stage n6_dec7 n6_st7 n6_run8
theorem n6_run6 : evC3 T Xq (evq1 90) 60 none (restS 6 n6) n6F6 n6S6 = some [(.ret, n6F28, n6S28)] := ev3_stage n6_dec6 n6_st6 n6_run7
theorem n6_run5 : evC3 T Xq (evq1 90) 60 none (restS 5 n6) n6F5 n6S5 = some [(.ret, n6F28, n6S28)] := ev3_stage n6_dec5 n6_st5 n6_run6
theorem n6_run4 : evC3 T Xq (evq1 90) 60 none (restS 4 n6) n6F4 n6S4 = some [(.ret, n6F28, n6S28)] := ev3_stage n6_dec4 n6_st4 n6_run5
theorem n6_run3 : evC3 T Xq (evq1 90) 60 none (restS 3 n6) n6F3 n6S3 = some [(.ret, n6F28, n6S28)] := ev3_stage n6_dec3 n6_st3 n6_run4
theorem n6_run2 : evC3 T Xq (evq1 90) 60 none (restS 2 n6) n6F2 n6S2 = some [(.ret, n6F28, n6S28)] := ev3_stage n6_dec2 n6_st2 n6_run3
theorem n6_run1 : evC3 T Xq (evq1 90) 60 none (restS 1 n6) n6F1 n6S1 = some [(.ret, n6F28, n6S28)] := ev3_stage n6_dec1 n6_st1 n6_run2
theorem n6_run0 : evC3 T Xq (evq1 90) 60 none (restS 0 n6) n6F0 n6S0 = some [(.ret, n6F28, n6S28)] := ev3_stage n6_dec0 n6_st0 n6_run1

theorem n6_body : Try.f6.body = some n6 := by kernel_rfl
theorem n6_fn : ofFns fns 6 = some Try.f6 := by kernel_rfl
theorem n6_start : ofF [] Try.f6.ntmps = n6F0 := by kernel_rfl
theorem n6_state : n6S0 = ⟨[], 0⟩ := by kernel_rfl
theorem n6_small : (Nat.ble (lenL ([] : List AV)) bigT && Nat.ble Try.f6.ntmps bigT) = true := by kernel_rfl
theorem n6_ret : (bind3 [((.ret, n6F28, n6S28) : Out2)] (retO3 (manyD (D0 6) [((.ret, n6F28, n6S28) : Out2)]) T Try.f6 0)).map (fun l => l.map fun x => x.1) = some [.lit (.bool true)] := by kernel_rfl
theorem n6_none : C1 6 [] ⟨[], 0⟩ = none := by kernel_rfl
theorem n6_ok : Enters Try.prog 6 ∧ ∀ st, CallW Try.prog 6 [] st (fun v st' => v = .lit (.bool true) ∧ st' = st) := by
  cases hq : bind3 [((.ret, n6F28, n6S28) : Out2)] (retO3 (manyD (D0 6) [((.ret, n6F28, n6S28) : Out2)]) T Try.f6 0) with
  | none => have := n6_ret; rw [hq] at this; cases this
  | some l =>
    have hl := n6_ret
    rw [hq] at hl
    simp only [Option.map_some, Option.some.injEq] at hl
    have hrun := n6_run0
    rw [n6_state] at hrun
    have h := evApply3_of (T := T) (X := Xq) (L := 60) (G := ofFns fns) (C := C1) (D := D0) (n := 90) (g := 6) (args := []) (st := ⟨[], 0⟩) n6_none n6_fn n6_body n6_small (by rw [n6_start]; exact hrun) hq
    match l, hl with
    | [x], hl =>
      exact CallW.of_ev (evq1_ok 91) (g := 6) (outs := [x]) h fun y hy => by
        have : y = x := by simpa using hy
        subst this; simpa using hl
end Go.Ev
