/-
  awake(), some of its statements. Own work of the verifier of watercress.
-/
import Derived.Test.YtgfahkehkpjabaaEvCA
namespace Go.Ev
open Go.Proofs
set_option maxRecDepth 1000000

theorem aw_st6 : evCode2 T X (ev 40) 60 none (nthS 6 aw) awF6 awS6 = some [(.normal, awF7, awS7)] := by kernel_rfl
theorem aw_dec6 : restS 6 aw = .seq (nthS 6 aw) (restS 7 aw) := by kernel_rfl
end Go.Ev
