/-
  awake(), some of its statements. Own work of the verifier of watercress.
-/
import Derived.Test.YtgfahkehkpjabaaEvCA
namespace Go.Ev
open Go.Proofs
set_option maxRecDepth 1000000

theorem aw_st4 : evCode2 T X (ev 40) 60 none (nthS 4 aw) awF4 awS4 = some [(.normal, awF5, awS5)] := by kernel_rfl
theorem aw_dec4 : restS 4 aw = .seq (nthS 4 aw) (restS 5 aw) := by kernel_rfl
end Go.Ev
