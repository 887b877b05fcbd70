/-
  awake(), some of its statements. Own work of the verifier of watercress.
-/
import Derived.Test.YtgfahkehkpjabaaEvDA
namespace Go.Ev
open Go.Proofs
set_option maxRecDepth 1000000

theorem nm_st6 : evCode2 T X (ev1 40) 60 none (nthS 6 nm) nmF6 nmS6 = some [(.normal, nmF7, nmS7)] := by kernel_rfl
theorem nm_dec6 : restS 6 nm = .seq (nthS 6 nm) (restS 7 nm) := by kernel_rfl
theorem nm_st7 : evCode2 T X (ev1 40) 60 none (nthS 7 nm) nmF7 nmS7 = some [(.normal, nmF8, nmS8)] := by kernel_rfl
theorem nm_dec7 : restS 7 nm = .seq (nthS 7 nm) (restS 8 nm) := by kernel_rfl
theorem nm_st8 : evCode2 T X (ev1 40) 60 none (nthS 8 nm) nmF8 nmS8 = some [(.normal, nmF9, nmS9)] := by kernel_rfl
theorem nm_dec8 : restS 8 nm = .seq (nthS 8 nm) (restS 9 nm) := by kernel_rfl
end Go.Ev
