/-
  A closed function, some of its statements. Own work of the verifier of watercress.
-/
import Derived.Test.YtmoimpajiajacaaEvNLA
namespace Go.Ev
open Go.Proofs
set_option maxRecDepth 1000000

theorem n6_st10 : evC3 T Xq (evq1 90) 60 none (nthS 10 n6) n6F10 n6S10 = some [(.normal, n6F11, n6S11)] := by kernel_rfl
theorem n6_dec10 : restS 10 n6 = .seq (nthS 10 n6) (restS 11 n6) := by kernel_rfl
theorem n6_st11 : evC3 T Xq (evq1 90) 60 none (nthS 11 n6) n6F11 n6S11 = some [(.normal, n6F12, n6S12)] := by kernel_rfl
theorem n6_dec11 : restS 11 n6 = .seq (nthS 11 n6) (restS 12 n6) := by kernel_rfl
theorem n6_st12 : evC3 T Xq (evq1 90) 60 none (nthS 12 n6) n6F12 n6S12 = some [(.normal, n6F13, n6S13)] := by kernel_rfl
theorem n6_dec12 : restS 12 n6 = .seq (nthS 12 n6) (restS 13 n6) := by kernel_rfl
theorem n6_st13 : evC3 T Xq (evq1 90) 60 none (nthS 13 n6) n6F13 n6S13 = some [(.normal, n6F14, n6S14)] := by kernel_rfl
theorem n6_dec13 : restS 13 n6 = .seq (nthS 13 n6) (restS 14 n6) := by kernel_rfl
theorem n6_st14 : evC3 T Xq (evq1 90) 60 none (nthS 14 n6) n6F14 n6S14 = some [(.normal, n6F15, n6S15)] := by kernel_rfl
theorem n6_dec14 : restS 14 n6 = .seq (nthS 14 n6) (restS 15 n6) := by kernel_rfl
theorem n6_st15 : evC3 T Xq (evq1 90) 60 none (nthS 15 n6) n6F15 n6S15 = some [(.normal, n6F16, n6S16)] := by kernel_rfl
theorem n6_dec15 : restS 15 n6 = .seq (nthS 15 n6) (restS 16 n6) := by kernel_rfl
theorem n6_st16 : evC3 T Xq (evq1 90) 60 none (nthS 16 n6) n6F16 n6S16 = some [(.normal, n6F17, n6S17)] := by kernel_rfl
theorem n6_dec16 : restS 16 n6 = .seq (nthS 16 n6) (restS 17 n6) := by kernel_rfl
theorem n6_st17 : evC3 T Xq (evq1 90) 60 none (nthS 17 n6) n6F17 n6S17 = some [(.normal, n6F18, n6S18)] := by kernel_rfl
theorem n6_dec17 : restS 17 n6 = .seq (nthS 17 n6) (restS 18 n6) := by kernel_rfl
theorem n6_st18 : evC3 T Xq (evq1 90) 60 none (nthS 18 n6) n6F18 n6S18 = some [(.normal, n6F19, n6S19)] := by kernel_rfl
theorem n6_dec18 : restS 18 n6 = .seq (nthS 18 n6) (restS 19 n6) := by kernel_rfl
theorem n6_st19 : evC3 T Xq (evq1 90) 60 none (nthS 19 n6) n6F19 n6S19 = some [(.normal, n6F20, n6S20)] := by kernel_rfl
theorem n6_dec19 : restS 19 n6 = .seq (nthS 19 n6) (restS 20 n6) := by kernel_rfl
theorem n6_st20 : evC3 T Xq (evq1 90) 60 none (nthS 20 n6) n6F20 n6S20 = some [(.normal, n6F21, n6S21)] := by kernel_rfl
theorem n6_dec20 : restS 20 n6 = .seq (nthS 20 n6) (restS 21 n6) := by kernel_rfl
end Go.Ev
