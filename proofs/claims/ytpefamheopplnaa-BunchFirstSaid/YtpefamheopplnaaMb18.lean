/- Own work of the verifier of watercress: EvGLB2. -/
import Derived.Test.YtpefamheopplnaaMb15
set_option linter.unusedVariables false
set_option linter.unusedSimpArgs false
namespace Go.Ev
open Go.Proofs
set_option maxRecDepth 1000000
theorem c8_st7:qfa T Xq (qku 60) 60 none (qi3 7 c8) c8F7 c8S7=some [(.normal,c8F8,c8S8)]:=by kernel_rfl
theorem c8_dec7:qcf 7 c8=.seq (qi3 7 c8) (qcf 8 c8):=by kernel_rfl
theorem c8_st8:qfa T Xq (qku 60) 60 none (qi3 8 c8) c8F8 c8S8=some [(.normal,c8F9,c8S9)]:=by kernel_rfl
theorem c8_dec8:qcf 8 c8=.seq (qi3 8 c8) (qcf 9 c8):=by kernel_rfl
theorem c8_st9:qfa T Xq (qku 60) 60 none (qi3 9 c8) c8F9 c8S9=some [(.ret,qg8,qg7)]:=by kernel_rfl
end Go.Ev
