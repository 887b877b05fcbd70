/-
  A SCOPE through which the run goes without a jump. Own work of the verifier of watercress.
-/
import Derived.Test.YtmoimpajiajacaaEvF
namespace Go.Ev

section
variable {P : Program} {b : Frame} {a : Act} {k : List Item} {cs : List Frame} {w : World}
theorem stepR_scope {c : Code} : step P (lone (b.atR a (.code (.scope c) :: k)) cs w) = .next (lone (b.atR a (.code c :: .inScope c :: k)) cs w) :=
  step_lone_go (by simp [stepG, stepG.exec, Frame.atR])
theorem stepR_inScope {c : Code} : step P (lone (b.atR a (.inScope c :: k)) cs w) = .next (lone (b.atR a k) cs w) :=
  step_lone_go (by simp [stepG, stepG.exec, Frame.atR])
end

def scopeQ (Q : Exit → Fm → St → Prop) : Exit → Fm → St → Prop
  | .goto _, _, _ => False
  | e, f, st => Q e f st

theorem SW.scope {P : Program} {rd : Option Nat} {c : Code} {Q : Exit → Fm → St → Prop} {f : Fm} {st : St} (h : SW P rd c (scopeQ Q) f st) : SW P rd (.scope c) Q f st := by
  intro φ w a n h1 h2 h3 b k cs hro hb hr
  have h0 : (lone (b.atR a (.code (.scope c) :: k)) cs w).fenced P (FW (rdB φ rd)) := fenced_calm hb hr rfl
  obtain ⟨e, a₁, w₁, hq, harr⟩ := h φ w a n h1 h2 h3 b (.inScope c :: k) cs hro hb hr
  obtain ⟨f', st', φ', hk, r⟩ := hq
  cases e with
  | normal => exact ⟨.normal, a₁, w₁, ⟨f', st', φ', hk, r⟩, .head h0 stepR_scope (StepsIn.trans harr (.one (fenced_calm hb hr rfl) stepR_inScope))⟩
  | exit id =>
    have hx : exitTo id (.inScope c :: k) = exitTo id k := by simp [exitTo]
    exact ⟨.exit id, a₁, w₁, ⟨f', st', φ', hk, r⟩, fun k' hk => .head h0 stepR_scope (harr.1 k' (by rw [hx]; exact hk)),
      fun hr' hk => let ⟨k₁, h1, h2⟩ := harr.2 hr' (by rw [hx]; exact hk); ⟨k₁, h1, .head h0 stepR_scope h2⟩⟩
  | goto l => exact hk.elim
  | ret => exact ⟨_, a₁, w₁, ⟨f', st', φ', hk, r⟩, .of_steps (.one h0 stepR_scope) harr⟩
  | panic ch => exact ⟨_, a₁, w₁, ⟨f', st', φ', hk, r⟩, .of_steps (.one h0 stepR_scope) harr⟩
  | outgrown => exact ⟨_, a₁, w₁, ⟨f', st', φ', hk, r⟩, .of_steps (.one h0 stepR_scope) harr⟩

end Go.Ev
