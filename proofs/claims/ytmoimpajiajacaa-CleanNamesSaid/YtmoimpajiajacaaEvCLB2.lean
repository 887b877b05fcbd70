/-
  A closed function, some of its statements. Own work of the verifier of watercress.
-/
import Derived.Test.YtmoimpajiajacaaEvCLA
namespace Go.Ev
open Go.Proofs
set_option maxRecDepth 1000000

theorem c51_st4 : evC3 T Xq (evq 90) 60 none (nthS 4 c51) c51F4 c51S4 = some [(.normal, c51F5, c51S5)] := by kernel_rfl
theorem c51_dec4 : restS 4 c51 = .seq (nthS 4 c51) (restS 5 c51) := by kernel_rfl
theorem c51_st5 : evC3 T Xq (evq 90) 60 none (nthS 5 c51) c51F5 c51S5 = some [(.normal, c51F6, c51S6)] := by kernel_rfl
theorem c51_dec5 : restS 5 c51 = .seq (nthS 5 c51) (restS 6 c51) := by kernel_rfl
theorem c51_st6 : evC3 T Xq (evq 90) 60 none (nthS 6 c51) c51F6 c51S6 = some [(.normal, c51F7, c51S7)] := by kernel_rfl
theorem c51_dec6 : restS 6 c51 = .seq (nthS 6 c51) (restS 7 c51) := by kernel_rfl
end Go.Ev
