/-
  A closed function, some of its statements. Own work of the verifier of watercress.
-/
import Derived.Test.YtmoimpajiajacaaEvCLA
namespace Go.Ev
open Go.Proofs
set_option maxRecDepth 1000000

theorem c51_st7 : evC3 T Xq (evq 90) 60 none (nthS 7 c51) c51F7 c51S7 = some [(.normal, c51F8, c51S8)] := by kernel_rfl
theorem c51_dec7 : restS 7 c51 = .seq (nthS 7 c51) (restS 8 c51) := by kernel_rfl
theorem c51_st8 : evC3 T Xq (evq 90) 60 none (nthS 8 c51) c51F8 c51S8 = some [(.normal, c51F9, c51S9)] := by kernel_rfl
theorem c51_dec8 : restS 8 c51 = .seq (nthS 8 c51) (restS 9 c51) := by kernel_rfl
end Go.Ev
