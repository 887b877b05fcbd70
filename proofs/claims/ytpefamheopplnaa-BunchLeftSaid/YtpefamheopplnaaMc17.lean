/- Own work of the verifier of watercress: EvGLB2. -/
import Derived.Test.YtpefamheopplnaaMc14
set_option linter.unusedVariables false
set_option linter.unusedSimpArgs false
namespace Go.Ev
open Go.Proofs
set_option maxRecDepth 1000000
theorem uW:Eu T Xq (Jw 60) 60 none (Hu 7 c8) vQ vG=some [(.normal,vP,vF)]:=by kernel_rfl
theorem qW:Df 7 c8=.seq (Hu 7 c8) (Df 8 c8):=by kernel_rfl
theorem uV:Eu T Xq (Jw 60) 60 none (Hu 8 c8) vP vF=some [(.normal,vO,vE)]:=by kernel_rfl
theorem qV:Df 8 c8=.seq (Hu 8 c8) (Df 9 c8):=by kernel_rfl
theorem uU:Eu T Xq (Jw 60) 60 none (Hu 9 c8) vO vE=some [(.ret,Jb,Ja)]:=by kernel_rfl
end Go.Ev
