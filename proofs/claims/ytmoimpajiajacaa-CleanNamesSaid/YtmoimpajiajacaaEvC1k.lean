/-
  THE EVALUATOR, to which the awake of layer 4 is known: it is right. Own work of the verifier of watercress.
-/
import Derived.Test.YtmoimpajiajacaaEvC1
import Derived.Test.YtmoimpajiajacaaEvCLC
namespace Go.Ev
open Go.Proofs
theorem c1ok : COk Try.prog C1 := fun g args st outs h => by
  unfold C1 at h
  split at h
  · rename_i hg
    split at h
    · cases h
      obtain rfl : g = 51 := Nat.eq_of_beq_eq_true hg
      exact ⟨c51_ok.1, (c51_ok.2 st).mono fun v st' ⟨h1, h2⟩ => by subst h1; subst h2; simp⟩
    · cases h
  · cases h
theorem evq1_ok (n : Nat) : CallOk Try.prog (evq1 n) := evApply3_ok mixed tok xqok gok c1ok n
end Go.Ev
