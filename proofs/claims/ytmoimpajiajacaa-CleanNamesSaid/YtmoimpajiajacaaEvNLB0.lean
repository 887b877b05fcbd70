/-
  A closed function, some of its statements. Own work of the verifier of watercress.
-/
import Derived.Test.YtmoimpajiajacaaEvNLA
namespace Go.Ev
open Go.Proofs
set_option maxRecDepth 1000000

theorem n6_st0 : evC3 T Xq (evq1 90) 60 none (nthS 0 n6) n6F0 n6S0 = some [(.normal, n6F1, n6S1)] := by kernel_rfl
theorem n6_dec0 : restS 0 n6 = .seq (nthS 0 n6) (restS 1 n6) := by kernel_rfl
theorem n6_st1 : evC3 T Xq (evq1 90) 60 none (nthS 1 n6) n6F1 n6S1 = some [(.normal, n6F2, n6S2)] := by kernel_rfl
theorem n6_dec1 : restS 1 n6 = .seq (nthS 1 n6) (restS 2 n6) := by kernel_rfl
theorem n6_st2 : evC3 T Xq (evq1 90) 60 none (nthS 2 n6) n6F2 n6S2 = some [(.normal, n6F3, n6S3)] := by kernel_rfl
theorem n6_dec2 : restS 2 n6 = .seq (nthS 2 n6) (restS 3 n6) := by kernel_rfl
theorem n6_st3 : evC3 T Xq (evq1 90) 60 none (nthS 3 n6) n6F3 n6S3 = some [(.normal, n6F4, n6S4)] := by kernel_rfl
theorem n6_dec3 : restS 3 n6 = .seq (nthS 3 n6) (restS 4 n6) := by kernel_rfl
theorem n6_st4 : evC3 T Xq (evq1 90) 60 none (nthS 4 n6) n6F4 n6S4 = some [(.normal, n6F5, n6S5)] := by kernel_rfl
theorem n6_dec4 : restS 4 n6 = .seq (nthS 4 n6) (restS 5 n6) := by kernel_rfl
end Go.Ev
