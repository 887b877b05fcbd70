/- Own work of the verifier of watercress: Lb9. -/
import Derived.Test.YtpaifaemkoblcaaNa8
import Derived.Test.YtpaifaemkoblcaaNa6
import Derived.Test.YtpaifaemkoblcaaNa7
import Derived.Test.YtpaifaemkoblcaaNa5
set_option linter.unusedVariables false
set_option linter.unusedSimpArgs false
set_option linter.unusedVariables false
set_option linter.unusedSimpArgs false
namespace Go.Fz
open Go.Proofs
set_option maxRecDepth 100000
set_option linter.unusedVariables false
end Go.Fz
namespace Go.Fz
open Go.Proofs
set_option maxRecDepth 100000
set_option linter.unusedVariables false
end Go.Fz
namespace Go.Fz
open Go.Proofs
set_option maxRecDepth 100000
end Go.Fz
namespace Go.Fz
open Go.Proofs
set_option maxRecDepth 100000
end Go.Fz
namespace Go.Fz
open Go.Proofs
set_option maxRecDepth 100000
end Go.Fz
namespace Go.Fz
open Go.Proofs
set_option maxRecDepth 100000
end Go.Fz
namespace Go.Fz
open Go.Proofs
set_option maxRecDepth 100000
set_option linter.unusedVariables false
end Go.Fz
namespace Go.Fz
open Go.Proofs
set_option maxRecDepth 100000
set_option linter.unusedVariables false
section
variable {n : Nat} {lo hi t : Nat → Int}
end
end Go.Fz
namespace Go.Fz
open Go.Proofs
set_option maxRecDepth 100000
set_option linter.unusedVariables false
end Go.Fz
namespace Go.Fz
open Go.Proofs
set_option maxRecDepth 100000
set_option linter.unusedVariables false
end Go.Fz
namespace Go.Fz
open Go.Proofs
set_option maxRecDepth 100000
set_option linter.unusedVariables false
end Go.Fz
namespace Go.Fz
open Go.Proofs
set_option maxRecDepth 100000
set_option linter.unusedVariables false
end Go.Fz
namespace Go.Fz
open Go.Proofs
set_option maxRecDepth 100000
variable {d x : DayD}
end Go.Fz
namespace Go.Fz
open Go.Proofs
set_option maxRecDepth 100000
set_option linter.unusedVariables false
end Go.Fz
namespace Go.Fz
open Go.Proofs
set_option maxRecDepth 100000
set_option linter.unusedVariables false
section
variable {d : DayD} {x : List Nat} {fe : Nat → Int}
end
end Go.Fz
namespace Go.Fz
open Go.Proofs
set_option maxRecDepth 100000
set_option linter.unusedVariables false
section
variable {P : Program} {T : Ti}
end
end Go.Fz
namespace Go.Fz
open Go.Proofs
set_option maxRecDepth 100000
set_option linter.unusedVariables false
section
variable {P : Program} {T : Ti}
def stAt (O : Ar) (T : Ti) (ops : Array Oper) (h : Hp) (f : Fm) (i : Nat) : Option (List Cond × AV) := match ops[i]? with
  | some o => match wantA ops f.ts o with
    | some true => stE O T h (Operand.av f.ts) o
    | some false => some ([], undA)
    | none => none
  | none => none
theorem stAt_light {O : Ar} (hO : O = std) {ops : Array Oper} {h : Hp} {f : Fm} {i : Nat} {cs : List Cond} {r : AV} (hs : stAt O T ops h f i = some (cs, r)) (hc : allC cs) : lightV T ops h f i = some r := by
  subst hO
  unfold stAt at hs
  unfold lightV
  split at hs
  · rename_i o ho
    rw [ho]
    simp only
    split at hs
    · rename_i hw; rw [hw]; exact stE_ok hs (allC_ok hc)
    · rename_i hw; rw [hw]; cases hs; rfl
    · cases hs
  · cases hs
theorem AnyE.tkO {ops : Array Oper} {M : List Nat} {rd : Option Nat} {K : Fm → St → Prop} {fuel : Nat} {pend : List (Nat × AV)} {f : Fm} {st : St} (hM : tidyB ops M = true) (hT : TOk P T) {O : Ar} (hO : O = std) {n m : Nat} (i d m' : Nat) {cs : List Cond} {r0 r : AV}
    (hb : tkB ops pend (lsB n m) i d = true) (hs : (lsB n m).setIfInBounds i true = lsB n m') (hl : stAt O T ops st.h f i = some (cs, r0)) (hc : allC cs) (he : Eqv r0 r)
    (H : AnyE P T ops M rd K fuel ((i, r) :: pend) (lsB n m') (f.put (some d) r) st) : AnyE P T ops M rd K (fuel + 1) pend (lsB n m) f st :=
  AnyE.tk hM hT i d m' hb hs (stAt_light hO hl hc) he H
theorem AnyE.cp {rd : Option Nat} {ops : Array Oper} {M : List Nat} {K : Fm → St → Prop} {fuel : Nat} {pend pend' : List (Nat × AV)} {f : Fm} {st : St} {n m : Nat} {g : FuncId} {args : List AV} {r : AV} (hp : Pure P g args r) (j d m' : Nat)
    (hq : Region.ready .any ops (lsB n m) = [j]) (hd : dropP M j pend = pend') (hc : callAt ops j f = some (g, args)) (hs : (lsB n m).setIfInBounds j true = lsB n m') (hf : putAt ops j f r = f.put (some d) r) (hk : AllP (fun p => lightV T ops st.h (putAt ops j f r) p.1 = some p.2) pend')
    (h : AnyE P T ops M rd K fuel pend' (lsB n m') (f.put (some d) r) st) : AnyE P T ops M rd K (fuel + 1) pend (lsB n m) f st :=
  AnyE.many [j] hq rfl ⟨PickE.callQ hp hd hc hk (by rw [hs, hf]; exact h), trivial⟩
theorem AnyE.efB (hT : TOk P T) {O : Ar} (hO : O = std) {rd : Option Nat} {ops : Array Oper} {M : List Nat} {K : Fm → St → Prop} {fuel : Nat} {pend pend' : List (Nat × AV)} {f f' : Fm} {st st' : St} {n m : Nat} (j m' : Nat) {cs : List Cond}
    (hr : Region.ready .any ops (lsB n m) = [j]) (hd : dropP M j pend = pend') (hR : runO O T ops [j] [] f st = .done cs f' st') (hc : allC cs) (hs : (lsB n m).setIfInBounds j true = lsB n m') (hk : AllP (fun p => lightV T ops st'.h f' p.1 = some p.2) pend') (h : AnyE P T ops M rd K fuel pend' (lsB n m') f' st') :
    AnyE P T ops M rd K (fuel + 1) pend (lsB n m) f st := AnyE.many [j] hr rfl ⟨PickE.eff hT hO hd hR hc hk (by rw [hs]; exact h), trivial⟩
end
end Go.Fz
namespace Go.Fz
open Go.Proofs
set_option maxRecDepth 100000
set_option linter.unusedVariables false
end Go.Fz
namespace Go.Fz
open Go.Proofs
set_option maxRecDepth 100000
set_option linter.unusedVariables false
end Go.Fz
namespace Go.Fz
open Go.Proofs
set_option maxRecDepth 100000
set_option linter.unusedVariables false
end Go.Fz
namespace Go.Fz
open Go.Proofs
set_option maxRecDepth 100000
set_option linter.unusedVariables false
end Go.Fz
namespace Go.Fz
open Go.Proofs
set_option maxRecDepth 100000
set_option linter.unusedVariables false
end Go.Fz
namespace Go.Fz
open Go.Proofs
set_option maxRecDepth 100000
set_option linter.unusedVariables false
end Go.Fz
namespace Go.Fz
open Go.Proofs
set_option maxRecDepth 100000
set_option linter.unusedVariables false
end Go.Fz
namespace Go.Proofs.Ytpaifaemkoblcaa
open Go.ChangeShapes Go.WideShapes Go.ChangeAt Go.RowKit Go.Joins
set_option linter.unusedVariables false
set_option maxRecDepth 100000
end Go.Proofs.Ytpaifaemkoblcaa
namespace Go.Fz
open Go.Proofs
set_option maxRecDepth 100000
set_option linter.unusedVariables false
end Go.Fz
namespace Go.Fz
open Go.Proofs
set_option maxRecDepth 100000
set_option linter.unusedVariables false
end Go.Fz
namespace Go.Fz
open Go.Proofs
set_option maxRecDepth 100000
set_option linter.unusedVariables false
end Go.Fz
namespace Go.Fz
open Go.Proofs
set_option maxRecDepth 100000
set_option linter.unusedVariables false
end Go.Fz
namespace Go.Fz
open Go.Proofs
set_option maxRecDepth 100000
set_option linter.unusedVariables false
end Go.Fz
namespace Go.Fz
open Go.Proofs
set_option maxRecDepth 100000
set_option linter.unusedVariables false
end Go.Fz
namespace Go.Fz
open Go.Proofs
set_option maxRecDepth 100000
set_option linter.unusedVariables false
end Go.Fz
namespace Go.Fz
open Go.Proofs
set_option maxRecDepth 100000
set_option linter.unusedVariables false
section
variable {P : Program} {T : Ti}
end
end Go.Fz
namespace Go.Fz
open Go.Proofs
set_option maxRecDepth 100000
set_option linter.unusedVariables false
end Go.Fz
namespace Go.Fz
open Go.Proofs
set_option maxRecDepth 100000
set_option linter.unusedVariables false
end Go.Fz
namespace Go.Fz
open Go.Proofs
set_option maxRecDepth 100000
set_option linter.unusedVariables false
end Go.Fz
namespace Go.Fz
open Go.Proofs
set_option maxRecDepth 100000
set_option linter.unusedVariables false
end Go.Fz
namespace Go.Fz
open Go.Proofs
set_option maxRecDepth 100000
set_option linter.unusedVariables false
end Go.Fz
namespace Go.Fz
open Go.Proofs
set_option maxRecDepth 100000
set_option linter.unusedVariables false
end Go.Fz
namespace Go.Fz
open Go.Proofs
set_option maxRecDepth 100000
set_option linter.unusedVariables false
end Go.Fz
namespace Go.Fz
open Go.Proofs
set_option maxRecDepth 100000
set_option linter.unusedVariables false
end Go.Fz
namespace Go.Fz
open Go.Proofs
set_option maxRecDepth 100000
set_option linter.unusedVariables false
end Go.Fz
namespace Go.Fz
open Go.Proofs
set_option maxRecDepth 100000
set_option linter.unusedVariables false
end Go.Fz
namespace Go.Fz
open Go.Proofs
set_option maxRecDepth 100000
set_option linter.unusedVariables false
end Go.Fz
namespace Go.Fz
open Go.Proofs
set_option maxRecDepth 100000
set_option linter.unusedVariables false
end Go.Fz
namespace Go.Fz
open Go.Proofs
set_option maxRecDepth 100000
set_option linter.unusedVariables false
end Go.Fz
namespace Go.Fz
open Go.Proofs
set_option maxRecDepth 100000
set_option linter.unusedVariables false
end Go.Fz
namespace Go.Fz
open Go.Proofs
set_option maxRecDepth 100000
set_option linter.unusedVariables false
end Go.Fz
namespace Go.Fz
open Go.Proofs
set_option maxRecDepth 100000
set_option linter.unusedVariables false
section
variable (d : DayD) (m : Nat) (k w lo hi : Nat → Int)
end
end Go.Fz
namespace Go.Proofs.Ytpaifaemkoblcaa
open Go.ChangeShapes Go.WideShapes Go.ChangeAt Go.RowKit Go.Joins
set_option linter.unusedVariables false
set_option maxRecDepth 100000
end Go.Proofs.Ytpaifaemkoblcaa
namespace Go.Fz
open Go.Proofs
set_option maxRecDepth 100000
set_option linter.unusedVariables false
section
variable {P : Program} {T : Ti} {β γ : Type}
variable [DecidableEq β]
end
end Go.Fz
namespace Go.Fz
set_option maxRecDepth 100000
set_option linter.unusedVariables false
section
variable {α : Type}
end
end Go.Fz
