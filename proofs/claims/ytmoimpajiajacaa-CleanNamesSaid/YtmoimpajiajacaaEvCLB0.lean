/-
  A closed function, some of its statements. Own work of the verifier of watercress.
-/
import Derived.Test.YtmoimpajiajacaaEvCLA
namespace Go.Ev
open Go.Proofs
set_option maxRecDepth 1000000

theorem c51_st0 : evC3 T Xq (evq 90) 60 none (nthS 0 c51) c51F0 c51S0 = some [(.normal, c51F1, c51S1)] := by kernel_rfl
theorem c51_dec0 : restS 0 c51 = .seq (nthS 0 c51) (restS 1 c51) := by kernel_rfl
theorem c51_st1 : evC3 T Xq (evq 90) 60 none (nthS 1 c51) c51F1 c51S1 = some [(.normal, c51F2, c51S2)] := by kernel_rfl
theorem c51_dec1 : restS 1 c51 = .seq (nthS 1 c51) (restS 2 c51) := by kernel_rfl
end Go.Ev
