/- Own work of the verifier of watercress: EvGLC. -/
import Derived.Test.YtpefamheopplnaaMc15
import Derived.Test.YtpefamheopplnaaMc16
import Derived.Test.YtpefamheopplnaaMc17
set_option linter.unusedVariables false
set_option linter.unusedSimpArgs false
namespace Go.Ev
open Go.Proofs
set_option maxRecDepth 1000000
theorem qU:Df 9 c8=Hu 9 c8:=by kernel_rfl
theorem qJ:Eu T Xq (Jw 60) 60 none (Df 9 c8) vO vE=some [(.ret,Jb,Ja)]:=by rw[qU];exact uU
theorem qK:Eu T Xq (Jw 60) 60 none (Df 8 c8) vP vF=some [(.ret,Jb,Ja)]:=Fu qV uV qJ
theorem qL:Eu T Xq (Jw 60) 60 none (Df 7 c8) vQ vG=some [(.ret,Jb,Ja)]:=Fu qW uW qK
theorem qM:Eu T Xq (Jw 60) 60 none (Df 6 c8) vR vH=some [(.ret,Jb,Ja)]:=Fu qX uX qL
theorem qN:Eu T Xq (Jw 60) 60 none (Df 5 c8) vS vI=some [(.ret,Jb,Ja)]:=Fu qY uY qM
theorem qO:Eu T Xq (Jw 60) 60 none (Df 4 c8) vT vJ=some [(.ret,Jb,Ja)]:=Fu qZ uZ qN
theorem qP:Eu T Xq (Jw 60) 60 none (Df 3 c8) vU vK=some [(.ret,Jb,Ja)]:=Fu rA vA qO
theorem qQ:Eu T Xq (Jw 60) 60 none (Df 2 c8) vV vL=some [(.ret,Jb,Ja)]:=Fu rB vB qP
theorem qR:Eu T Xq (Jw 60) 60 none (Df 1 c8) vW vM=some [(.ret,Jb,Ja)]:=Fu rC vC qQ
theorem qS:Eu T Xq (Jw 60) 60 none (Df 0 c8) vX vN=some [(.ret,Jb,Ja)]:=Fu rD vD qR
theorem rE:Try.f17.body=some c8:=by kernel_rfl
theorem xL:ofFns fns 17=some Try.f17:=by kernel_rfl
theorem nV:ofF [] Try.f17.ntmps=vX:=by kernel_rfl
theorem nU:vN=⟨[],0⟩:=by kernel_rfl
theorem nW:(Nat.ble (Nm ([]:List AV)) Kr&&Nat.ble Try.f17.ntmps Kr)=true:=by kernel_rfl
theorem nX:(bind3 [((.ret,Jb,Ja):Dt)] (Ze (Mn (D0 17%1000) [((.ret,Jb,Ja):Dt)]) T Try.f17 0)).map (fun l=>l.map fun x=>x.1)=some [.lit (.bool true)]:=by kernel_rfl
theorem qT:Ce 17 [] ⟨[],0⟩=none:=by kernel_rfl
theorem rS:Enters Try.prog 17∧∀ st,At Try.prog 17 [] st (fun v st'=>v=.lit (.bool true)∧st'=st):=by
 cases hq:bind3 [((.ret,Jb,Ja):Dt)] (Ze (Mn (D0 17%1000) [((.ret,Jb,Ja):Dt)]) T Try.f17 0) with
 | none=>have:=nX;rw[hq] at this;cases this
 | some l =>
  have hl:=nX
  rw[hq] at hl
  simp only [Option.map_some,Option.some.injEq] at hl
  have hrun:=qS
  rw[nU] at hrun
  have h:=bH (T:=T) (X:=Xq) (L:=60) (G:=ofFns fns) (C:=Ce) (D:=D0) (n:=60) (g:=17) (args:=[]) (st:=⟨[],0⟩) qT xL rE nW (by rw[nV];exact hrun) (by kernel_rfl) hq
  match l,hl with
  | [x],hl =>
   exact At.wP (pY 61) (g:=17) (outs:=[x]) h fun y hy=>by
    have:y=x:=by simpa using hy
    subst this;simpa using hl
end Go.Ev
