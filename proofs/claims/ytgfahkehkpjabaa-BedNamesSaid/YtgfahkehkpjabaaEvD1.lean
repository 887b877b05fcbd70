/-
  THE EVALUATOR, to which awake() is known. Own work of the verifier of watercress.
-/
import Derived.Test.YtgfahkehkpjabaaEvCC
namespace Go.Ev
open Go.Proofs

def C1 : FuncId → List AV → St → Option (List (AV × St)) := fun g args st => match Nat.beq g 19, args with
  | true, [] => some [(.lit (.bool true), st)]
  | _, _ => none
theorem c1ok : COk Try.prog C1 := fun g args st outs h => by
  unfold C1 at h
  split at h
  · rename_i hg
    cases h
    obtain rfl : g = 19 := Nat.eq_of_beq_eq_true hg
    exact ⟨aw_ok.1, (aw_ok.2 st).mono fun v st' ⟨h1, h2⟩ => by subst h1; subst h2; simp⟩
  · cases h
noncomputable def ev1 (n : Nat) : CallE := evApply2 T X 60 (ofFns fns) C1 n
theorem ev1_ok (n : Nat) : CallOk Try.prog (ev1 n) := evApply2_ok mixed tok xok gok c1ok n
end Go.Ev
