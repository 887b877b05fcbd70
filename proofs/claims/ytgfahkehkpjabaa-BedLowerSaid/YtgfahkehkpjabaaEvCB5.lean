/-
  awake(), some of its statements. Own work of the verifier of watercress.
-/
import Derived.Test.YtgfahkehkpjabaaEvCA
namespace Go.Ev
open Go.Proofs
set_option maxRecDepth 1000000

theorem aw_st5 : evCode2 T X (ev 40) 60 none (nthS 5 aw) awF5 awS5 = some [(.normal, awF6, awS6)] := by kernel_rfl
theorem aw_dec5 : restS 5 aw = .seq (nthS 5 aw) (restS 6 aw) := by kernel_rfl
end Go.Ev
