/- Own work of the verifier of watercress: EvGLB0. -/
import Derived.Test.YtpefamheopplnaaMb15
set_option linter.unusedVariables false
set_option linter.unusedSimpArgs false
namespace Go.Ev
open Go.Proofs
set_option maxRecDepth 1000000
theorem c8_st0:qfa T Xq (qku 60) 60 none (qi3 0 c8) c8F0 c8S0=some [(.normal,c8F1,c8S1)]:=by kernel_rfl
theorem c8_dec0:qcf 0 c8=.seq (qi3 0 c8) (qcf 1 c8):=by kernel_rfl
theorem c8_st1:qfa T Xq (qku 60) 60 none (qi3 1 c8) c8F1 c8S1=some [(.normal,c8F2,c8S2)]:=by kernel_rfl
theorem c8_dec1:qcf 1 c8=.seq (qi3 1 c8) (qcf 2 c8):=by kernel_rfl
theorem c8_st2:qfa T Xq (qku 60) 60 none (qi3 2 c8) c8F2 c8S2=some [(.normal,c8F3,c8S3)]:=by kernel_rfl
theorem c8_dec2:qcf 2 c8=.seq (qi3 2 c8) (qcf 3 c8):=by kernel_rfl
theorem c8_st3:qfa T Xq (qku 60) 60 none (qi3 3 c8) c8F3 c8S3=some [(.normal,c8F4,c8S4)]:=by kernel_rfl
theorem c8_dec3:qcf 3 c8=.seq (qi3 3 c8) (qcf 4 c8):=by kernel_rfl
end Go.Ev
