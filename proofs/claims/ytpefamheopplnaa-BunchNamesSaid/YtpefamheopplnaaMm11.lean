/- Own work of the verifier of watercress: FzB9. -/
import Derived.Test.YtpefamheopplnaaMm10
set_option linter.unusedVariables false
set_option linter.unusedSimpArgs false
namespace Go.Fz
open Go.Proofs
set_option maxRecDepth 100000
def objG (id sz : Nat) (g : Nat → Nat → AV) : Nat → Hp
  | 0 => []
  | n + 1 => [(id, .cells none false (flatG sz g (n + 1)))]
theorem objG_mem {id sz : Nat} {g : Nat → Nat → AV} : ∀ {n : Nat} {p : Nat × AObj}, p ∈ objG id sz g n → p = (id, .cells none false (flatG sz g n))
  | 0, p, h => by cases h
  | n + 1, p, h => by simpa [objG] using h
def day0 : List AV := [iV 0, iV 0, nl3, nl3, nl3]
end Go.Fz
