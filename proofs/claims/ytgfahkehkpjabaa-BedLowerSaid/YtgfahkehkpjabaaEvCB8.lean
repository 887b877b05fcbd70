/-
  awake(), some of its statements. Own work of the verifier of watercress.
-/
import Derived.Test.YtgfahkehkpjabaaEvCA
namespace Go.Ev
open Go.Proofs
set_option maxRecDepth 1000000

theorem aw_st8 : evCode2 T X (ev 40) 60 none (nthS 8 aw) awF8 awS8 = some [(.normal, awF9, awS9)] := by kernel_rfl
theorem aw_dec8 : restS 8 aw = .seq (nthS 8 aw) (restS 9 aw) := by kernel_rfl
end Go.Ev
