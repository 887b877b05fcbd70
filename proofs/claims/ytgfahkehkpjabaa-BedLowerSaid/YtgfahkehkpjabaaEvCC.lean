/-
  awake(): what it returns. Own work of the verifier of watercress.
-/
import Derived.Test.YtgfahkehkpjabaaEvCB0
import Derived.Test.YtgfahkehkpjabaaEvCB1
import Derived.Test.YtgfahkehkpjabaaEvCB2
import Derived.Test.YtgfahkehkpjabaaEvCB3
import Derived.Test.YtgfahkehkpjabaaEvCB4
import Derived.Test.YtgfahkehkpjabaaEvCB5
import Derived.Test.YtgfahkehkpjabaaEvCB6
import Derived.Test.YtgfahkehkpjabaaEvCB7
import Derived.Test.YtgfahkehkpjabaaEvCB8
import Derived.Test.YtgfahkehkpjabaaEvCB9
import Derived.Test.YtgfahkehkpjabaaEvCB10
namespace Go.Ev
open Go.Proofs
set_option maxRecDepth 1000000

theorem aw_last : restS 10 aw = nthS 10 aw := by kernel_rfl
theorem aw_run10 : evCode2 T X (ev 40) 60 none (restS 10 aw) awF10 awS10 = some [(.ret, awF11, awS11)] := by rw [aw_last]; exact aw_st10
theorem aw_run9 : evCode2 T X (ev 40) 60 none (restS 9 aw) awF9 awS9 = some [(.ret, awF11, awS11)] := ev_stage aw_dec9 aw_st9 aw_run10
theorem aw_run8 : evCode2 T X (ev 40) 60 none (restS 8 aw) awF8 awS8 = some [(.ret, awF11, awS11)] := ev_stage aw_dec8 aw_st8 aw_run9
theorem aw_run7 : evCode2 T X (ev 40) 60 none (restS 7 aw) awF7 awS7 = some [(.ret, awF11, awS11)] := ev_stage aw_dec7 aw_st7 aw_run8
theorem aw_run6 : evCode2 T X (ev 40) 60 none (restS 6 aw) awF6 awS6 = some [(.ret, awF11, awS11)] := ev_stage aw_dec6 aw_st6 aw_run7
theorem aw_run5 : evCode2 T X (ev 40) 60 none (restS 5 aw) awF5 awS5 = some [(.ret, awF11, awS11)] := ev_stage aw_dec5 aw_st5 aw_run6
theorem aw_run4 : evCode2 T X (ev 40) 60 none (restS 4 aw) awF4 awS4 = some [(.ret, awF11, awS11)] := ev_stage aw_dec4 aw_st4 aw_run5
theorem aw_run3 : evCode2 T X (ev 40) 60 none (restS 3 aw) awF3 awS3 = some [(.ret, awF11, awS11)] := ev_stage aw_dec3 aw_st3 aw_run4
theorem aw_run2 : evCode2 T X (ev 40) 60 none (restS 2 aw) awF2 awS2 = some [(.ret, awF11, awS11)] := ev_stage aw_dec2 aw_st2 aw_run3
theorem aw_run1 : evCode2 T X (ev 40) 60 none (restS 1 aw) awF1 awS1 = some [(.ret, awF11, awS11)] := ev_stage aw_dec1 aw_st1 aw_run2
theorem aw_run0 : evCode2 T X (ev 40) 60 none (restS 0 aw) awF0 awS0 = some [(.ret, awF11, awS11)] := ev_stage aw_dec0 aw_st0 aw_run1

theorem aw_body : Try.f19.body = some aw := by kernel_rfl
theorem aw_fn : ofFns fns 19 = some Try.f19 := by kernel_rfl
theorem aw_start : TF.of ([] ++ [] ++ []) Try.f19.ntmps = awF0 := by kernel_rfl
theorem aw_state : awS0 = ⟨[], 0⟩ := by kernel_rfl
theorem aw_small : Nat.ble (max (([] : List AV) ++ [] ++ []).length Try.f19.ntmps) bigT = true := by kernel_rfl
theorem aw_ret : (bindL [((.ret, awF11, awS11) : Out2)] (retT T Try.f19 0)).map (fun l => l.map fun x => x.1) = some [.lit (.bool true)] := by kernel_rfl
theorem aw_ok : Enters Try.prog 19 ∧ ∀ st, CallW Try.prog 19 [] st (fun v st' => v = .lit (.bool true) ∧ st' = st) := by
  cases hq : bindL [((.ret, awF11, awS11) : Out2)] (retT T Try.f19 0) with
  | none => have := aw_ret; rw [hq] at this; cases this
  | some l =>
    have hl := aw_ret
    rw [hq] at hl
    simp only [Option.map_some, Option.some.injEq] at hl
    have hrun := aw_run0
    rw [aw_state] at hrun
    have h := evApply2_of (T := T) (X := X) (L := 60) (G := ofFns fns) (C := C0) (n := 40) (g := 19) (first := []) (caps := []) (args := []) (st := ⟨[], 0⟩) rfl aw_fn aw_body aw_small (by rw [aw_start]; exact hrun) hq
    match l, hl with
    | [x], hl =>
      exact CallW.of_ev (ev_ok 41) (g := 19) (outs := [x]) h fun y hy => by
        have : y = x := by simpa using hy
        subst this; simpa using hl
end Go.Ev
