/-
  awake(), some of its statements. Own work of the verifier of watercress.
-/
import Derived.Test.YtgfahkehkpjabaaEvDA
namespace Go.Ev
open Go.Proofs
set_option maxRecDepth 1000000

theorem nm_st0 : evCode2 T X (ev1 40) 60 none (nthS 0 nm) nmF0 nmS0 = some [(.normal, nmF1, nmS1)] := by kernel_rfl
theorem nm_dec0 : restS 0 nm = .seq (nthS 0 nm) (restS 1 nm) := by kernel_rfl
theorem nm_st1 : evCode2 T X (ev1 40) 60 none (nthS 1 nm) nmF1 nmS1 = some [(.normal, nmF2, nmS2)] := by kernel_rfl
theorem nm_dec1 : restS 1 nm = .seq (nthS 1 nm) (restS 2 nm) := by kernel_rfl
theorem nm_st2 : evCode2 T X (ev1 40) 60 none (nthS 2 nm) nmF2 nmS2 = some [(.normal, nmF3, nmS3)] := by kernel_rfl
theorem nm_dec2 : restS 2 nm = .seq (nthS 2 nm) (restS 3 nm) := by kernel_rfl
end Go.Ev
