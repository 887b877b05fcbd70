/- Own work of the verifier of watercress: EvGLB2. -/
import Derived.Test.YtpefamheopplnaaMa33
set_option linter.unusedVariables false
set_option linter.unusedSimpArgs false
namespace Go.Ev
open Go.Proofs
set_option maxRecDepth 1000000
theorem c8_st7 : evC3 T Xq (evqe 60) 60 none (nthS 7 c8) c8F7 c8S7 = some [(.normal, c8F8, c8S8)] := by kernel_rfl
theorem c8_dec7 : restS 7 c8 = .seq (nthS 7 c8) (restS 8 c8) := by kernel_rfl
theorem c8_st8 : evC3 T Xq (evqe 60) 60 none (nthS 8 c8) c8F8 c8S8 = some [(.normal, c8F9, c8S9)] := by kernel_rfl
theorem c8_dec8 : restS 8 c8 = .seq (nthS 8 c8) (restS 9 c8) := by kernel_rfl
theorem c8_st9 : evC3 T Xq (evqe 60) 60 none (nthS 9 c8) c8F9 c8S9 = some [(.ret, c8F10, c8S10)] := by kernel_rfl
end Go.Ev
