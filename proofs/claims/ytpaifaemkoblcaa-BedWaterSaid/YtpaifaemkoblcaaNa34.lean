/- Own work of the verifier of watercress: FzB13. -/
import Derived.Test.YtpaifaemkoblcaaNa33
set_option linter.unusedVariables false
set_option linter.unusedSimpArgs false
set_option linter.unusedVariables false
namespace Go.Fz
open Go.Proofs
set_option maxRecDepth 100000
def lC (p : List Nat) : Nat → Nat → AV := intC (zL (nI p))
theorem lC_below (l : List Nat) (i k : Nat) : Below 0 (lC l i k) := Below.lit
theorem lC_app (l : List Nat) (i : Nat) : flatG 1 (lC l) l.length ++ [iV (i : Int)] = flatG 1 (lC (l ++ [i])) (l ++ [i]).length := by
  rw [List.length_append, List.length_singleton]
  show _ = flatG 1 (lC (l ++ [i])) l.length ++ [iV (zL (nI (l ++ [i])) l.length)]
  have e1 : flatG 1 (lC (l ++ [i])) l.length = flatG 1 (lC l) l.length := flatG_congr fun j k hj => by
    show iV (zL (nI (l ++ [i])) j) = iV (zL (nI l) j)
    rw [nI_snoc, zL_lt (by rw [nI_len]; exact hj)]
  have e2 : zL (nI (l ++ [i])) l.length = (i : Int) := by
    rw [nI_snoc]
    have := zL_eq (nI l) (i : Int)
    rwa [nI_len] at this
  rw [e1, e2]
theorem filter_succ {p : Nat → Bool} (n : Nat) : (List.range (n + 1)).filter p = if p n = true then (List.range n).filter p ++ [n] else (List.range n).filter p := by
  rw [List.range_succ, List.filter_append, List.filter_cons]
  split <;> simp
end Go.Fz
