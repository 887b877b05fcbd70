/-
  A CALL IN STAGES: statement by statement, by the quick evaluator. Own work of the verifier of watercress.
-/
import Derived.Test.YtmoimpajiajacaaEvKg
import Derived.Test.YtmoimpajiajacaaEvBB
namespace Go.Ev
section
variable {T : Ti} {X : St → (Operand → AV) → Oper → Option (List (AV × St))} {call : CallE} {L : Nat} {G : FuncId → Option Func} {C : FuncId → List AV → St → Option (List (AV × St))} {D : FuncId → Nat} {rd : Option Nat}

theorem ev3_stage {k : Nat} {c : Code} {f f' : TF} {st st' : St} {r : Option (List Out2)} (hd : restS k c = .seq (nthS k c) (restS (k + 1) c)) (h : evC3 T X call L rd (nthS k c) f st = some [(.normal, f', st')]) (hr : evC3 T X call L rd (restS (k + 1) c) f' st' = r) : evC3 T X call L rd (restS k c) f st = r := by
  rw [hd]
  show seq3 (evC3 T X call L rd (nthS k c) f st) (evC3 T X call L rd (restS (k + 1) c)) = r
  rw [h]
  exact hr
theorem evApply3_of {n : Nat} {g : FuncId} {fn : Func} {args : List AV} {st : St} {b : Code} {outs : List Out2} {l : List (AV × St)} (hC : C g args st = none) (hG : G g = some fn) (hb : fn.body = some b) (hl : (Nat.ble (lenL args) bigT && Nat.ble fn.ntmps bigT) = true)
    (h : evC3 T X (evApply3 T X L G C D n) L none b (ofF args fn.ntmps) st = some outs) (hr : bind3 outs (retO3 (manyD (D g) outs) T fn st.n) = some l) : evApply3 T X L G C D (n + 1) (.fn (.func g) [] []) args st = some (dedup3 l) := by
  show apply3 T X L G C D (evApply3 T X L G C D n) (.fn (.func g) [] []) args st = _
  simp only [apply3, appL_eq, List.nil_append, List.append_nil, func3, hC, hG, body3, hb, hl, h, hr]
end
end Go.Ev
