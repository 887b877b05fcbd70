/-
  THE EVALUATOR, to which the awake of layer 4 is known. Own work of the verifier of watercress.
-/
import Derived.Test.YtmoimpajiajacaaEvKv
namespace Go.Ev
open Go.Proofs
def C1 : FuncId → List AV → St → Option (List (AV × St)) := fun g args st => match Nat.beq g 51 with
  | true => match args with
    | [] => some [(.lit (.bool true), st)]
    | _ => none
  | false => none
noncomputable def evq1 (n : Nat) : CallE := evApply3 T Xq 60 (ofFns fns) C1 D0 n
end Go.Ev
