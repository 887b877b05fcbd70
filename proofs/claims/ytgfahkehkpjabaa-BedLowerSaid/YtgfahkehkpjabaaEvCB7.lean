/-
  awake(), some of its statements. Own work of the verifier of watercress.
-/
import Derived.Test.YtgfahkehkpjabaaEvCA
namespace Go.Ev
open Go.Proofs
set_option maxRecDepth 1000000

theorem aw_st7 : evCode2 T X (ev 40) 60 none (nthS 7 aw) awF7 awS7 = some [(.normal, awF8, awS8)] := by kernel_rfl
theorem aw_dec7 : restS 7 aw = .seq (nthS 7 aw) (restS 8 aw) := by kernel_rfl
end Go.Ev
