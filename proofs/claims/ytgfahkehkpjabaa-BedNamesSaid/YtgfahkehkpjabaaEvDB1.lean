/-
  awake(), some of its statements. Own work of the verifier of watercress.
-/
import Derived.Test.YtgfahkehkpjabaaEvDA
namespace Go.Ev
open Go.Proofs
set_option maxRecDepth 1000000

theorem nm_st3 : evCode2 T X (ev1 40) 60 none (nthS 3 nm) nmF3 nmS3 = some [(.normal, nmF4, nmS4)] := by kernel_rfl
theorem nm_dec3 : restS 3 nm = .seq (nthS 3 nm) (restS 4 nm) := by kernel_rfl
theorem nm_st4 : evCode2 T X (ev1 40) 60 none (nthS 4 nm) nmF4 nmS4 = some [(.normal, nmF5, nmS5)] := by kernel_rfl
theorem nm_dec4 : restS 4 nm = .seq (nthS 4 nm) (restS 5 nm) := by kernel_rfl
theorem nm_st5 : evCode2 T X (ev1 40) 60 none (nthS 5 nm) nmF5 nmS5 = some [(.normal, nmF6, nmS6)] := by kernel_rfl
theorem nm_dec5 : restS 5 nm = .seq (nthS 5 nm) (restS 6 nm) := by kernel_rfl
end Go.Ev
