/- Own work of the verifier of watercress: EvGLB0. -/
import Derived.Test.YtpefamheopplnaaMc14
set_option linter.unusedVariables false
set_option linter.unusedSimpArgs false
namespace Go.Ev
open Go.Proofs
set_option maxRecDepth 1000000
theorem vD:Eu T Xq (Jw 60) 60 none (Hu 0 c8) vX vN=some [(.normal,vW,vM)]:=by kernel_rfl
theorem rD:Df 0 c8=.seq (Hu 0 c8) (Df 1 c8):=by kernel_rfl
theorem vC:Eu T Xq (Jw 60) 60 none (Hu 1 c8) vW vM=some [(.normal,vV,vL)]:=by kernel_rfl
theorem rC:Df 1 c8=.seq (Hu 1 c8) (Df 2 c8):=by kernel_rfl
theorem vB:Eu T Xq (Jw 60) 60 none (Hu 2 c8) vV vL=some [(.normal,vU,vK)]:=by kernel_rfl
theorem rB:Df 2 c8=.seq (Hu 2 c8) (Df 3 c8):=by kernel_rfl
theorem vA:Eu T Xq (Jw 60) 60 none (Hu 3 c8) vU vK=some [(.normal,vT,vJ)]:=by kernel_rfl
theorem rA:Df 3 c8=.seq (Hu 3 c8) (Df 4 c8):=by kernel_rfl
end Go.Ev
