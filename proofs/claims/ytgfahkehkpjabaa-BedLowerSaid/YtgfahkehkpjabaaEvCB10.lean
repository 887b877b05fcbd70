/-
  awake(), some of its statements. Own work of the verifier of watercress.
-/
import Derived.Test.YtgfahkehkpjabaaEvCA
namespace Go.Ev
open Go.Proofs
set_option maxRecDepth 1000000

theorem aw_st10 : evCode2 T X (ev 40) 60 none (nthS 10 aw) awF10 awS10 = some [(.ret, awF11, awS11)] := by kernel_rfl
end Go.Ev
