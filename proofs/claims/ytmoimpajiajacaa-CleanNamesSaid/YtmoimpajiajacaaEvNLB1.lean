/-
  A closed function, some of its statements. Own work of the verifier of watercress.
-/
import Derived.Test.YtmoimpajiajacaaEvNLA
namespace Go.Ev
open Go.Proofs
set_option maxRecDepth 1000000

theorem n6_st5 : evC3 T Xq (evq1 90) 60 none (nthS 5 n6) n6F5 n6S5 = some [(.normal, n6F6, n6S6)] := by kernel_rfl
theorem n6_dec5 : restS 5 n6 = .seq (nthS 5 n6) (restS 6 n6) := by kernel_rfl
theorem n6_st6 : evC3 T Xq (evq1 90) 60 none (nthS 6 n6) n6F6 n6S6 = some [(.normal, n6F7, n6S7)] := by kernel_rfl
theorem n6_dec6 : restS 6 n6 = .seq (nthS 6 n6) (restS 7 n6) := by kernel_rfl
theorem n6_st7 : evC3 T Xq (evq1 90) 60 none (nthS 7 n6) n6F7 n6S7 = some [(.normal, n6F8, n6S8)] := by kernel_rfl
theorem n6_dec7 : restS 7 n6 = .seq (nthS 7 n6) (restS 8 n6) := by kernel_rfl
theorem n6_st8 : evC3 T Xq (evq1 90) 60 none (nthS 8 n6) n6F8 n6S8 = some [(.normal, n6F9, n6S9)] := by kernel_rfl
theorem n6_dec8 : restS 8 n6 = .seq (nthS 8 n6) (restS 9 n6) := by kernel_rfl
theorem n6_st9 : evC3 T Xq (evq1 90) 60 none (nthS 9 n6) n6F9 n6S9 = some [(.normal, n6F10, n6S10)] := by kernel_rfl
theorem n6_dec9 : restS 9 n6 = .seq (nthS 9 n6) (restS 10 n6) := by kernel_rfl
end Go.Ev
