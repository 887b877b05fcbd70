/-
  awake(), some of its statements. Own work of the verifier of watercress.
-/
import Derived.Test.YtgfahkehkpjabaaEvDA
namespace Go.Ev
open Go.Proofs
set_option maxRecDepth 1000000

theorem nm_st21 : evCode2 T X (ev1 40) 60 none (nthS 21 nm) nmF21 nmS21 = some [(.normal, nmF22, nmS22)] := by kernel_rfl
theorem nm_dec21 : restS 21 nm = .seq (nthS 21 nm) (restS 22 nm) := by kernel_rfl
theorem nm_st22 : evCode2 T X (ev1 40) 60 none (nthS 22 nm) nmF22 nmS22 = some [(.normal, nmF23, nmS23)] := by kernel_rfl
theorem nm_dec22 : restS 22 nm = .seq (nthS 22 nm) (restS 23 nm) := by kernel_rfl
theorem nm_st23 : evCode2 T X (ev1 40) 60 none (nthS 23 nm) nmF23 nmS23 = some [(.ret, nmF24, nmS24)] := by kernel_rfl
end Go.Ev
