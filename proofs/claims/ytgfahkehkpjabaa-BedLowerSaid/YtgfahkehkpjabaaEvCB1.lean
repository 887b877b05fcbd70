/-
  awake(), some of its statements. Own work of the verifier of watercress.
-/
import Derived.Test.YtgfahkehkpjabaaEvCA
namespace Go.Ev
open Go.Proofs
set_option maxRecDepth 1000000

theorem aw_st1 : evCode2 T X (ev 40) 60 none (nthS 1 aw) awF1 awS1 = some [(.normal, awF2, awS2)] := by kernel_rfl
theorem aw_dec1 : restS 1 aw = .seq (nthS 1 aw) (restS 2 aw) := by kernel_rfl
end Go.Ev
