/-
  awake(), some of its statements. Own work of the verifier of watercress.
-/
import Derived.Test.YtgfahkehkpjabaaEvCA
namespace Go.Ev
open Go.Proofs
set_option maxRecDepth 1000000

theorem aw_st2 : evCode2 T X (ev 40) 60 none (nthS 2 aw) awF2 awS2 = some [(.normal, awF3, awS3)] := by kernel_rfl
theorem aw_dec2 : restS 2 aw = .seq (nthS 2 aw) (restS 3 aw) := by kernel_rfl
end Go.Ev
