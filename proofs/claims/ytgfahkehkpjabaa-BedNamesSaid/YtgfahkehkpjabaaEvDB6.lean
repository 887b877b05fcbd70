/-
  awake(), some of its statements. Own work of the verifier of watercress.
-/
import Derived.Test.YtgfahkehkpjabaaEvDA
namespace Go.Ev
open Go.Proofs
set_option maxRecDepth 1000000

theorem nm_st18 : evCode2 T X (ev1 40) 60 none (nthS 18 nm) nmF18 nmS18 = some [(.normal, nmF19, nmS19)] := by kernel_rfl
theorem nm_dec18 : restS 18 nm = .seq (nthS 18 nm) (restS 19 nm) := by kernel_rfl
theorem nm_st19 : evCode2 T X (ev1 40) 60 none (nthS 19 nm) nmF19 nmS19 = some [(.normal, nmF20, nmS20)] := by kernel_rfl
theorem nm_dec19 : restS 19 nm = .seq (nthS 19 nm) (restS 20 nm) := by kernel_rfl
theorem nm_st20 : evCode2 T X (ev1 40) 60 none (nthS 20 nm) nmF20 nmS20 = some [(.normal, nmF21, nmS21)] := by kernel_rfl
theorem nm_dec20 : restS 20 nm = .seq (nthS 20 nm) (restS 21 nm) := by kernel_rfl
end Go.Ev
