/-
  awake(), some of its statements. Own work of the verifier of watercress.
-/
import Derived.Test.YtgfahkehkpjabaaEvCA
namespace Go.Ev
open Go.Proofs
set_option maxRecDepth 1000000

theorem aw_st9 : evCode2 T X (ev 40) 60 none (nthS 9 aw) awF9 awS9 = some [(.normal, awF10, awS10)] := by kernel_rfl
theorem aw_dec9 : restS 9 aw = .seq (nthS 9 aw) (restS 10 aw) := by kernel_rfl
end Go.Ev
