/-
  A closed function, some of its statements. Own work of the verifier of watercress.
-/
import Derived.Test.YtmoimpajiajacaaEvCLA
namespace Go.Ev
open Go.Proofs
set_option maxRecDepth 1000000

theorem c51_st9 : evC3 T Xq (evq 90) 60 none (nthS 9 c51) c51F9 c51S9 = some [(.normal, c51F10, c51S10)] := by kernel_rfl
theorem c51_dec9 : restS 9 c51 = .seq (nthS 9 c51) (restS 10 c51) := by kernel_rfl
theorem c51_st10 : evC3 T Xq (evq 90) 60 none (nthS 10 c51) c51F10 c51S10 = some [(.ret, c51F11, c51S11)] := by kernel_rfl
end Go.Ev
