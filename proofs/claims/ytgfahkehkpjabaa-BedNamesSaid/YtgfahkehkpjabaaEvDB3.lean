/-
  awake(), some of its statements. Own work of the verifier of watercress.
-/
import Derived.Test.YtgfahkehkpjabaaEvDA
namespace Go.Ev
open Go.Proofs
set_option maxRecDepth 1000000

theorem nm_st9 : evCode2 T X (ev1 40) 60 none (nthS 9 nm) nmF9 nmS9 = some [(.normal, nmF10, nmS10)] := by kernel_rfl
theorem nm_dec9 : restS 9 nm = .seq (nthS 9 nm) (restS 10 nm) := by kernel_rfl
theorem nm_st10 : evCode2 T X (ev1 40) 60 none (nthS 10 nm) nmF10 nmS10 = some [(.normal, nmF11, nmS11)] := by kernel_rfl
theorem nm_dec10 : restS 10 nm = .seq (nthS 10 nm) (restS 11 nm) := by kernel_rfl
theorem nm_st11 : evCode2 T X (ev1 40) 60 none (nthS 11 nm) nmF11 nmS11 = some [(.normal, nmF12, nmS12)] := by kernel_rfl
theorem nm_dec11 : restS 11 nm = .seq (nthS 11 nm) (restS 12 nm) := by kernel_rfl
end Go.Ev
