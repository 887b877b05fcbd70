/- Own work of the verifier of watercress: EvGLB1. -/
import Derived.Test.YtpefamheopplnaaMc14
set_option linter.unusedVariables false
set_option linter.unusedSimpArgs false
namespace Go.Ev
open Go.Proofs
set_option maxRecDepth 1000000
theorem uZ:Eu T Xq (Jw 60) 60 none (Hu 4 c8) vT vJ=some [(.normal,vS,vI)]:=by kernel_rfl
theorem qZ:Df 4 c8=.seq (Hu 4 c8) (Df 5 c8):=by kernel_rfl
theorem uY:Eu T Xq (Jw 60) 60 none (Hu 5 c8) vS vI=some [(.normal,vR,vH)]:=by kernel_rfl
theorem qY:Df 5 c8=.seq (Hu 5 c8) (Df 6 c8):=by kernel_rfl
theorem uX:Eu T Xq (Jw 60) 60 none (Hu 6 c8) vR vH=some [(.normal,vQ,vG)]:=by kernel_rfl
theorem qX:Df 6 c8=.seq (Hu 6 c8) (Df 7 c8):=by kernel_rfl
end Go.Ev
