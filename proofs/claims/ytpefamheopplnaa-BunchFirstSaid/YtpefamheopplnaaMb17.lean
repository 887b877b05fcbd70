/- Own work of the verifier of watercress: EvGLB1. -/
import Derived.Test.YtpefamheopplnaaMb15
set_option linter.unusedVariables false
set_option linter.unusedSimpArgs false
namespace Go.Ev
open Go.Proofs
set_option maxRecDepth 1000000
theorem c8_st4:qfa T Xq (qku 60) 60 none (qi3 4 c8) c8F4 c8S4=some [(.normal,c8F5,c8S5)]:=by kernel_rfl
theorem c8_dec4:qcf 4 c8=.seq (qi3 4 c8) (qcf 5 c8):=by kernel_rfl
theorem c8_st5:qfa T Xq (qku 60) 60 none (qi3 5 c8) c8F5 c8S5=some [(.normal,c8F6,c8S6)]:=by kernel_rfl
theorem c8_dec5:qcf 5 c8=.seq (qi3 5 c8) (qcf 6 c8):=by kernel_rfl
theorem c8_st6:qfa T Xq (qku 60) 60 none (qi3 6 c8) c8F6 c8S6=some [(.normal,c8F7,c8S7)]:=by kernel_rfl
theorem c8_dec6:qcf 6 c8=.seq (qi3 6 c8) (qcf 7 c8):=by kernel_rfl
end Go.Ev
