/-
  awake(), some of its statements. Own work of the verifier of watercress.
-/
import Derived.Test.YtgfahkehkpjabaaEvCA
namespace Go.Ev
open Go.Proofs
set_option maxRecDepth 1000000

theorem aw_st3 : evCode2 T X (ev 40) 60 none (nthS 3 aw) awF3 awS3 = some [(.normal, awF4, awS4)] := by kernel_rfl
theorem aw_dec3 : restS 3 aw = .seq (nthS 3 aw) (restS 4 aw) := by kernel_rfl
end Go.Ev
