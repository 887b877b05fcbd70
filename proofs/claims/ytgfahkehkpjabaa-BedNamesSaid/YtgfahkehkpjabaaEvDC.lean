/-
  awake(): what it returns. Own work of the verifier of watercress.
-/
import Derived.Test.YtgfahkehkpjabaaEvDB0
import Derived.Test.YtgfahkehkpjabaaEvDB1
import Derived.Test.YtgfahkehkpjabaaEvDB2
import Derived.Test.YtgfahkehkpjabaaEvDB3
import Derived.Test.YtgfahkehkpjabaaEvDB4
import Derived.Test.YtgfahkehkpjabaaEvDB5
import Derived.Test.YtgfahkehkpjabaaEvDB6
import Derived.Test.YtgfahkehkpjabaaEvDB7
namespace Go.Ev
open Go.Proofs
set_option maxRecDepth 1000000

theorem nm_last : restS 23 nm = nthS 23 nm := by kernel_rfl
theorem nm_run23 : evCode2 T X (ev1 40) 60 none (restS 23 nm) nmF23 nmS23 = some [(.ret, nmF24, nmS24)] := by rw [nm_last]; exact nm_st23
theorem nm_run22 : evCode2 T X (ev1 40) 60 none (restS 22 nm) nmF22 nmS22 = some [(.ret, nmF24, nmS24)] := ev_stage nm_dec22 nm_st22 nm_run23
theorem nm_run21 : evCode2 T X (ev1 40) 60 none (restS 21 nm) nmF21 nmS21 = some [(.ret, nmF24, nmS24)] := ev_stage nm_dec21 nm_st21 nm_run22
theorem nm_run20 : evCode2 T X (ev1 40) 60 none (restS 20 nm) nmF20 nmS20 = some [(.ret, nmF24, nmS24)] := ev_stage nm_dec20 nm_st20 nm_run21
theorem nm_run19 : evCode2 T X (ev1 40) 60 none (restS 19 nm) nmF19 nmS19 = some [(.ret, nmF24, nmS24)] := ev_stage nm_dec19 nm_st19 nm_run20
theorem nm_run18 : evCode2 T X (ev1 40) 60 none (restS 18 nm) nmF18 nmS18 = some [(.ret, nmF24, nmS24)] := ev_stage nm_dec18 nm_st18 nm_run19
theorem nm_run17 : evCode2 T X (ev1 40) 60 none (restS 17 nm) nmF17 nmS17 = some [(.ret, nmF24, nmS24)] := ev_stage nm_dec17 nm_st17 nm_run18
theorem nm_run16 : evCode2 T X (ev1 40) 60 none (restS 16 nm) nmF16 nmS16 = some [(.ret, nmF24, nmS24)] := ev_stage nm_dec16 nm_st16 nm_run17
theorem nm_run15 : evCode2 T X (ev1 40) 60 none (restS 15 nm) nmF15 nmS15 = some [(.ret, nmF24, nmS24)] := ev_stage nm_dec15 nm_st15 nm_run16
theorem nm_run14 : evCode2 T X (ev1 40) 60 none (restS 14 nm) nmF14 nmS14 = some [(.ret, nmF24, nmS24)] := ev_stage nm_dec14 nm_st14 nm_run15
theorem nm_run13 : evCode2 T X (ev1 40) 60 none (restS 13 nm) nmF13 nmS13 = some [(.ret, nmF24, nmS24)] := ev_stage nm_dec13 nm_st13 nm_run14
theorem nm_run12 : evCode2 T X (ev1 40) 60 none (restS 12 nm) nmF12 nmS12 = some [(.ret, nmF24, nmS24)] := ev_stage nm_dec12 nm_st12 nm_run13
theorem nm_run11 : evCode2 T X (ev1 40) 60 none (restS 11 nm) nmF11 nmS11 = some [(.ret, nmF24, nmS24)] := ev_stage nm_dec11 nm_st11 nm_run12
theorem nm_run10 : evCode2 T X (ev1 40) 60 none (restS 10 nm) nmF10 nmS10 = some [(.ret, nmF24, nmS24)] := ev_stage nm_dec10 nm_st10 nm_run11
theorem nm_run9 : evCode2 T X (ev1 40) 60 none (restS 9 nm) nmF9 nmS9 = some [(.ret, nmF24, nmS24)] := ev_stage nm_dec9 nm_st9 nm_run10
theorem nm_run8 : evCode2 T X (ev1 40) 60 none (restS 8 nm) nmF8 nmS8 = some [(.ret, nmF24, nmS24)] := ev_stage nm_dec8 nm_st8 nm_run9
theorem nm_run7 : evCode2 T X (ev1 40) 60 none (restS 7 nm) nmF7 nmS7 = some [(.ret, nmF24, nmS24)] := ev_stage nm_dec7 nm_st7 nm_run8
theorem nm_run6 : evCode2 T X (ev1 40) 60 none (restS 6 nm) nmF6 nmS6 = some [(.ret, nmF24, nmS24)] := ev_stage nm_dec6 nm_st6 nm_run7
theorem nm_run5 : evCode2 T X (ev1 40) 60 none (restS 5 nm) nmF5 nmS5 = some [(.ret, nmF24, nmS24)] := ev_stage nm_dec5 nm_st5 nm_run6
theorem nm_run4 : evCode2 T X (ev1 40) 60 none (restS 4 nm) nmF4 nmS4 = some [(.ret, nmF24, nmS24)] := ev_stage nm_dec4 nm_st4 nm_run5
theorem nm_run3 : evCode2 T X (ev1 40) 60 none (restS 3 nm) nmF3 nmS3 = some [(.ret, nmF24, nmS24)] := ev_stage nm_dec3 nm_st3 nm_run4
theorem nm_run2 : evCode2 T X (ev1 40) 60 none (restS 2 nm) nmF2 nmS2 = some [(.ret, nmF24, nmS24)] := ev_stage nm_dec2 nm_st2 nm_run3
theorem nm_run1 : evCode2 T X (ev1 40) 60 none (restS 1 nm) nmF1 nmS1 = some [(.ret, nmF24, nmS24)] := ev_stage nm_dec1 nm_st1 nm_run2
theorem nm_run0 : evCode2 T X (ev1 40) 60 none (restS 0 nm) nmF0 nmS0 = some [(.ret, nmF24, nmS24)] := ev_stage nm_dec0 nm_st0 nm_run1

theorem nm_body : Try.f8.body = some nm := by kernel_rfl
theorem nm_fn : ofFns fns 8 = some Try.f8 := by kernel_rfl
theorem nm_start : TF.of ([] ++ [] ++ []) Try.f8.ntmps = nmF0 := by kernel_rfl
theorem nm_state : nmS0 = ⟨[], 0⟩ := by kernel_rfl
theorem nm_small : Nat.ble (max (([] : List AV) ++ [] ++ []).length Try.f8.ntmps) bigT = true := by kernel_rfl
theorem nm_ret : (bindL [((.ret, nmF24, nmS24) : Out2)] (retT T Try.f8 0)).map (fun l => l.map fun x => x.1) = some [.lit (.bool true)] := by kernel_rfl
theorem nm_ok : Enters Try.prog 8 ∧ ∀ st, CallW Try.prog 8 [] st (fun v st' => v = .lit (.bool true) ∧ st' = st) := by
  cases hq : bindL [((.ret, nmF24, nmS24) : Out2)] (retT T Try.f8 0) with
  | none => have := nm_ret; rw [hq] at this; cases this
  | some l =>
    have hl := nm_ret
    rw [hq] at hl
    simp only [Option.map_some, Option.some.injEq] at hl
    have hrun := nm_run0
    rw [nm_state] at hrun
    have h := evApply2_of (T := T) (X := X) (L := 60) (G := ofFns fns) (C := C1) (n := 40) (g := 8) (first := []) (caps := []) (args := []) (st := ⟨[], 0⟩) rfl nm_fn nm_body nm_small (by rw [nm_start]; exact hrun) hq
    match l, hl with
    | [x], hl =>
      exact CallW.of_ev (ev1_ok 41) (g := 8) (outs := [x]) h fun y hy => by
        have : y = x := by simpa using hy
        subst this; simpa using hl
end Go.Ev
