/- Own work of the verifier of watercress: EvGLC. -/
import Derived.Test.YtpefamheopplnaaMb16
import Derived.Test.YtpefamheopplnaaMb17
import Derived.Test.YtpefamheopplnaaMb18
set_option linter.unusedVariables false
set_option linter.unusedSimpArgs false
namespace Go.Ev
open Go.Proofs
set_option maxRecDepth 1000000
theorem c8_last:qcf 9 c8=qi3 9 c8:=by kernel_rfl
theorem c8_run9:qfa T Xq (qku 60) 60 none (qcf 9 c8) c8F9 c8S9=some [(.ret,qg8,qg7)]:=by rw[c8_last];exact c8_st9
theorem c8_run8:qfa T Xq (qku 60) 60 none (qcf 8 c8) c8F8 c8S8=some [(.ret,qg8,qg7)]:=qc3 c8_dec8 c8_st8 c8_run9
theorem c8_run7:qfa T Xq (qku 60) 60 none (qcf 7 c8) c8F7 c8S7=some [(.ret,qg8,qg7)]:=qc3 c8_dec7 c8_st7 c8_run8
theorem c8_run6:qfa T Xq (qku 60) 60 none (qcf 6 c8) c8F6 c8S6=some [(.ret,qg8,qg7)]:=qc3 c8_dec6 c8_st6 c8_run7
theorem c8_run5:qfa T Xq (qku 60) 60 none (qcf 5 c8) c8F5 c8S5=some [(.ret,qg8,qg7)]:=qc3 c8_dec5 c8_st5 c8_run6
theorem c8_run4:qfa T Xq (qku 60) 60 none (qcf 4 c8) c8F4 c8S4=some [(.ret,qg8,qg7)]:=qc3 c8_dec4 c8_st4 c8_run5
theorem c8_run3:qfa T Xq (qku 60) 60 none (qcf 3 c8) c8F3 c8S3=some [(.ret,qg8,qg7)]:=qc3 c8_dec3 c8_st3 c8_run4
theorem c8_run2:qfa T Xq (qku 60) 60 none (qcf 2 c8) c8F2 c8S2=some [(.ret,qg8,qg7)]:=qc3 c8_dec2 c8_st2 c8_run3
theorem c8_run1:qfa T Xq (qku 60) 60 none (qcf 1 c8) c8F1 c8S1=some [(.ret,qg8,qg7)]:=qc3 c8_dec1 c8_st1 c8_run2
theorem c8_run0:qfa T Xq (qku 60) 60 none (qcf 0 c8) c8F0 c8S0=some [(.ret,qg8,qg7)]:=qc3 c8_dec0 c8_st0 c8_run1
theorem c8_body:Try.f17.body=some c8:=by kernel_rfl
theorem c8_fn:ofFns fns 17=some Try.f17:=by kernel_rfl
theorem c8_start:ofF [] Try.f17.ntmps=c8F0:=by kernel_rfl
theorem c8_state:c8S0=⟨[],0⟩:=by kernel_rfl
theorem c8_small:(Nat.ble (qn2 ([]:List AV)) qln&&Nat.ble Try.f17.ntmps qln)=true:=by kernel_rfl
theorem c8_ret:(bind3 [((.ret,qg8,qg7):qd0)] (qti (qjt (D0 17 % 1000) [((.ret,qg8,qg7):qd0)]) T Try.f17 0)).map (fun l=>l.map fun x=>x.1)=some [.lit (.bool true)]:=by kernel_rfl
theorem c8_none:Ce 17 [] ⟨[],0⟩=none:=by kernel_rfl
theorem c8_ok:Enters Try.prog 17∧∀ st,qax Try.prog 17 [] st (fun v st'=>v=.lit (.bool true)∧st'=st):=by
  cases hq:bind3 [((.ret,qg8,qg7):qd0)] (qti (qjt (D0 17 % 1000) [((.ret,qg8,qg7):qd0)]) T Try.f17 0) with
  | none=>have:=c8_ret;rw[hq] at this;cases this
  | some l =>
    have hl:=c8_ret
    rw[hq] at hl
    simp only [Option.map_some,Option.some.injEq] at hl
    have hrun:=c8_run0
    rw[c8_state] at hrun
    have h:=qoy (T:=T) (X:=Xq) (L:=60) (G:=ofFns fns) (C:=Ce) (D:=D0) (n:=60) (g:=17) (args:=[]) (st:=⟨[],0⟩) c8_none c8_fn c8_body c8_small (by rw[c8_start];exact hrun) (by kernel_rfl) hq
    match l,hl with
    | [x],hl =>
      exact qax.of_ev (evqe_ok 61) (g:=17) (outs:=[x]) h fun y hy=>by
        have:y=x:=by simpa using hy
        subst this;simpa using hl
end Go.Ev
