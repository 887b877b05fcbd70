/-
  awake(), some of its statements. Own work of the verifier of watercress.
-/
import Derived.Test.YtgfahkehkpjabaaEvDA
namespace Go.Ev
open Go.Proofs
set_option maxRecDepth 1000000

theorem nm_st15 : evCode2 T X (ev1 40) 60 none (nthS 15 nm) nmF15 nmS15 = some [(.normal, nmF16, nmS16)] := by kernel_rfl
theorem nm_dec15 : restS 15 nm = .seq (nthS 15 nm) (restS 16 nm) := by kernel_rfl
theorem nm_st16 : evCode2 T X (ev1 40) 60 none (nthS 16 nm) nmF16 nmS16 = some [(.normal, nmF17, nmS17)] := by kernel_rfl
theorem nm_dec16 : restS 16 nm = .seq (nthS 16 nm) (restS 17 nm) := by kernel_rfl
theorem nm_st17 : evCode2 T X (ev1 40) 60 none (nthS 17 nm) nmF17 nmS17 = some [(.normal, nmF18, nmS18)] := by kernel_rfl
theorem nm_dec17 : restS 17 nm = .seq (nthS 17 nm) (restS 18 nm) := by kernel_rfl
end Go.Ev
