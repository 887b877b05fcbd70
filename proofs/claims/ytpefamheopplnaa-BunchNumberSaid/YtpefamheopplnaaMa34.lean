/- Own work of the verifier of watercress: EvGLB0. -/
import Derived.Test.YtpefamheopplnaaMa33
set_option linter.unusedVariables false
set_option linter.unusedSimpArgs false
namespace Go.Ev
open Go.Proofs
set_option maxRecDepth 1000000
theorem c8_st0 : evC3 T Xq (evqe 60) 60 none (nthS 0 c8) c8F0 c8S0 = some [(.normal, c8F1, c8S1)] := by kernel_rfl
theorem c8_dec0 : restS 0 c8 = .seq (nthS 0 c8) (restS 1 c8) := by kernel_rfl
theorem c8_st1 : evC3 T Xq (evqe 60) 60 none (nthS 1 c8) c8F1 c8S1 = some [(.normal, c8F2, c8S2)] := by kernel_rfl
theorem c8_dec1 : restS 1 c8 = .seq (nthS 1 c8) (restS 2 c8) := by kernel_rfl
theorem c8_st2 : evC3 T Xq (evqe 60) 60 none (nthS 2 c8) c8F2 c8S2 = some [(.normal, c8F3, c8S3)] := by kernel_rfl
theorem c8_dec2 : restS 2 c8 = .seq (nthS 2 c8) (restS 3 c8) := by kernel_rfl
theorem c8_st3 : evC3 T Xq (evqe 60) 60 none (nthS 3 c8) c8F3 c8S3 = some [(.normal, c8F4, c8S4)] := by kernel_rfl
theorem c8_dec3 : restS 3 c8 = .seq (nthS 3 c8) (restS 4 c8) := by kernel_rfl
end Go.Ev
