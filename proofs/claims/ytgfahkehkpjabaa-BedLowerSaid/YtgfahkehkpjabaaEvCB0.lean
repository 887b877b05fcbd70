/-
  awake(), some of its statements. Own work of the verifier of watercress.
-/
import Derived.Test.YtgfahkehkpjabaaEvCA
namespace Go.Ev
open Go.Proofs
set_option maxRecDepth 1000000

theorem aw_st0 : evCode2 T X (ev 40) 60 none (nthS 0 aw) awF0 awS0 = some [(.normal, awF1, awS1)] := by kernel_rfl
theorem aw_dec0 : restS 0 aw = .seq (nthS 0 aw) (restS 1 aw) := by kernel_rfl
end Go.Ev
