/-
  awake(), some of its statements. Own work of the verifier of watercress.
-/
import Derived.Test.YtgfahkehkpjabaaEvDA
namespace Go.Ev
open Go.Proofs
set_option maxRecDepth 1000000

theorem nm_st12 : evCode2 T X (ev1 40) 60 none (nthS 12 nm) nmF12 nmS12 = some [(.normal, nmF13, nmS13)] := by kernel_rfl
theorem nm_dec12 : restS 12 nm = .seq (nthS 12 nm) (restS 13 nm) := by kernel_rfl
theorem nm_st13 : evCode2 T X (ev1 40) 60 none (nthS 13 nm) nmF13 nmS13 = some [(.normal, nmF14, nmS14)] := by kernel_rfl
theorem nm_dec13 : restS 13 nm = .seq (nthS 13 nm) (restS 14 nm) := by kernel_rfl
theorem nm_st14 : evCode2 T X (ev1 40) 60 none (nthS 14 nm) nmF14 nmS14 = some [(.normal, nmF15, nmS15)] := by kernel_rfl
theorem nm_dec14 : restS 14 nm = .seq (nthS 14 nm) (restS 15 nm) := by kernel_rfl
end Go.Ev
