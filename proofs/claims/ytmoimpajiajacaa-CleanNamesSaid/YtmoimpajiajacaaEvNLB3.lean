/-
  A closed function, some of its statements. Own work of the verifier of watercress.
-/
import Derived.Test.YtmoimpajiajacaaEvNLA
namespace Go.Ev
open Go.Proofs
set_option maxRecDepth 1000000

theorem n6_st21 : evC3 T Xq (evq1 90) 60 none (nthS 21 n6) n6F21 n6S21 = some [(.normal, n6F22, n6S22)] := by kernel_rfl
theorem n6_dec21 : restS 21 n6 = .seq (nthS 21 n6) (restS 22 n6) := by kernel_rfl
theorem n6_st22 : evC3 T Xq (evq1 90) 60 none (nthS 22 n6) n6F22 n6S22 = some [(.normal, n6F23, n6S23)] := by kernel_rfl
theorem n6_dec22 : restS 22 n6 = .seq (nthS 22 n6) (restS 23 n6) := by kernel_rfl
theorem n6_st23 : evC3 T Xq (evq1 90) 60 none (nthS 23 n6) n6F23 n6S23 = some [(.normal, n6F24, n6S24)] := by kernel_rfl
theorem n6_dec23 : restS 23 n6 = .seq (nthS 23 n6) (restS 24 n6) := by kernel_rfl
theorem n6_st24 : evC3 T Xq (evq1 90) 60 none (nthS 24 n6) n6F24 n6S24 = some [(.normal, n6F25, n6S25)] := by kernel_rfl
theorem n6_dec24 : restS 24 n6 = .seq (nthS 24 n6) (restS 25 n6) := by kernel_rfl
theorem n6_st25 : evC3 T Xq (evq1 90) 60 none (nthS 25 n6) n6F25 n6S25 = some [(.normal, n6F26, n6S26)] := by kernel_rfl
theorem n6_dec25 : restS 25 n6 = .seq (nthS 25 n6) (restS 26 n6) := by kernel_rfl
theorem n6_st26 : evC3 T Xq (evq1 90) 60 none (nthS 26 n6) n6F26 n6S26 = some [(.normal, n6F27, n6S27)] := by kernel_rfl
theorem n6_dec26 : restS 26 n6 = .seq (nthS 26 n6) (restS 27 n6) := by kernel_rfl
theorem n6_st27 : evC3 T Xq (evq1 90) 60 none (nthS 27 n6) n6F27 n6S27 = some [(.ret, n6F28, n6S28)] := by kernel_rfl
end Go.Ev
