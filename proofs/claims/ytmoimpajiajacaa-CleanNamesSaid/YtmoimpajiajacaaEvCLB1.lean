/-
  A closed function, some of its statements. Own work of the verifier of watercress.
-/
import Derived.Test.YtmoimpajiajacaaEvCLA
namespace Go.Ev
open Go.Proofs
set_option maxRecDepth 1000000

theorem c51_st2 : evC3 T Xq (evq 90) 60 none (nthS 2 c51) c51F2 c51S2 = some [(.normal, c51F3, c51S3)] := by kernel_rfl
theorem c51_dec2 : restS 2 c51 = .seq (nthS 2 c51) (restS 3 c51) := by kernel_rfl
theorem c51_st3 : evC3 T Xq (evq 90) 60 none (nthS 3 c51) c51F3 c51S3 = some [(.normal, c51F4, c51S4)] := by kernel_rfl
theorem c51_dec3 : restS 3 c51 = .seq (nthS 3 c51) (restS 4 c51) := by kernel_rfl
end Go.Ev
