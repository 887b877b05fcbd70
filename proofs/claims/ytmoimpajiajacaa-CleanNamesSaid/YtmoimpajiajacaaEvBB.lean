/-
  AN EVALUATION IN STAGES. Own work of the verifier of watercress.
-/
import Derived.Test.YtmoimpajiajacaaEvAA
namespace Go.Ev

/-- The statement number n of a body, and what follows from it on. -/
def nthS : Nat → Code → Code
  | 0, .seq a _ => a
  | 0, c => c
  | n + 1, .seq _ b => nthS n b
  | _ + 1, _ => .skip
def restS : Nat → Code → Code
  | 0, c => c
  | n + 1, .seq _ b => restS n b
  | _ + 1, _ => .skip
def bodyOf (f : Func) : Code := match f.body with
  | some b => b
  | none => .skip

section
variable {T : Ti} {X : St → (Operand → AV) → Oper → Option (List (AV × St))} {call : CallE} {L : Nat} {rd : Option Nat}

theorem ev_seq {a b : Code} {f f' : TF} {st st' : St} (h : evCode2 T X call L rd a f st = some [(.normal, f', st')]) : evCode2 T X call L rd (.seq a b) f st = evCode2 T X call L rd b f' st' := by
  simp only [evCode2, h, bindL]
  cases evCode2 T X call L rd b f' st' with
  | none => rfl
  | some y => simp

theorem ev_stage {k : Nat} {c : Code} {f f' : TF} {st st' : St} {r : Option (List Out2)} (hd : restS k c = .seq (nthS k c) (restS (k + 1) c)) (h : evCode2 T X call L rd (nthS k c) f st = some [(.normal, f', st')]) (hr : evCode2 T X call L rd (restS (k + 1) c) f' st' = r) :
    evCode2 T X call L rd (restS k c) f st = r := by rw [hd, ev_seq h, hr]

variable {G : FuncId → Option Func} {C : FuncId → List AV → St → Option (List (AV × St))}

theorem evApply2_of {n : Nat} {g : FuncId} {fn : Func} {first caps args : List AV} {st : St} {b : Code} {outs : List Out2} {l : List (AV × St)} (hC : C g (first ++ args ++ caps) st = none) (hG : G g = some fn) (hb : fn.body = some b) (hl : Nat.ble (max (first ++ args ++ caps).length fn.ntmps) bigT = true)
    (h : evCode2 T X (evApply2 T X L G C n) L none b (TF.of (first ++ args ++ caps) fn.ntmps) st = some outs) (hr : bindL outs (retT T fn st.n) = some l) : evApply2 T X L G C (n + 1) (.fn (.func g) first caps) args st = some (dedup l) := by
  simp only [evApply2, hC, hG, hb, hl, h, hr, Option.map_some]

end
end Go.Ev
