/- Own work of the verifier of watercress: FzB19n, FzT7, FzT8, FzT9, FzT10, FzEn1, FzSe6, FzO2, FzW3, FzSt1, FzSt2, FzRg, FzBo3, FzNm3. -/
import Derived.Test.YtpefamheopplnaaMm29
import Derived.Test.YtpefamheopplnaaMm23
import Derived.Test.YtpefamheopplnaaMm28
import Derived.Test.YtpefamheopplnaaMm17
import Derived.Test.YtpefamheopplnaaMm11
import Derived.Test.YtpefamheopplnaaMm20
import Derived.Test.YtpefamheopplnaaMm24
import Derived.Test.YtpefamheopplnaaMm26
import Derived.Test.YtpefamheopplnaaMm21
import Derived.Test.YtpefamheopplnaaMm22
import Derived.Test.YtpefamheopplnaaMm27
set_option linter.unusedVariables false
set_option linter.unusedSimpArgs false
namespace Go.Fz
open Go.Proofs
set_option maxRecDepth 100000
end Go.Fz
namespace Go.Fz
open Go.Proofs
set_option maxRecDepth 100000
set_option linter.unusedVariables false
end Go.Fz
namespace Go.Fz
open Go.Proofs
set_option maxRecDepth 100000
set_option linter.unusedVariables false
section
variable {n : Nat} {lo hi t : Nat → Int}
end
end Go.Fz
namespace Go.Fz
open Go.Proofs
set_option maxRecDepth 100000
set_option linter.unusedVariables false
end Go.Fz
namespace Go.Fz
open Go.Proofs
set_option maxRecDepth 100000
set_option linter.unusedVariables false
end Go.Fz
namespace Go.Fz
open Go.Proofs
set_option maxRecDepth 100000
set_option linter.unusedVariables false
end Go.Fz
namespace Go.Fz
open Go.Proofs
set_option maxRecDepth 100000
set_option linter.unusedVariables false
end Go.Fz
namespace Go.Fz
open Go.Proofs
set_option maxRecDepth 100000
variable {d x : DayD}
end Go.Fz
namespace Go.Fz
open Go.Proofs
set_option maxRecDepth 100000
set_option linter.unusedVariables false
end Go.Fz
namespace Go.Fz
open Go.Proofs
set_option maxRecDepth 100000
set_option linter.unusedVariables false
section
variable {d : DayD} {x : List Nat} {fe : Nat → Int}
end
end Go.Fz
namespace Go.Fz
open Go.Proofs
set_option maxRecDepth 100000
set_option linter.unusedVariables false
section
variable {P : Program} {T : Ti}
end
end Go.Fz
namespace Go.Fz
open Go.Proofs
set_option maxRecDepth 100000
set_option linter.unusedVariables false
section
variable {P : Program} {T : Ti}
def stAt (O : Ar) (T : Ti) (ops : Array Oper) (h : Hp) (f : Fm) (i : Nat) : Option (List Cond × AV) := match ops[i]? with
  | some o => match wantA ops f.ts o with
    | some true => stE O T h (Operand.av f.ts) o
    | some false => some ([], undA)
    | none => none
  | none => none
theorem stAt_light {O : Ar} (hO : O = std) {ops : Array Oper} {h : Hp} {f : Fm} {i : Nat} {cs : List Cond} {r : AV} (hs : stAt O T ops h f i = some (cs, r)) (hc : allC cs) : lightV T ops h f i = some r := by
  subst hO
  unfold stAt at hs
  unfold lightV
  split at hs
  · rename_i o ho
    rw [ho]
    simp only
    split at hs
    · rename_i hw; rw [hw]; exact stE_ok hs (allC_ok hc)
    · rename_i hw; rw [hw]; cases hs; rfl
    · cases hs
  · cases hs
theorem AnyE.tkO {ops : Array Oper} {M : List Nat} {rd : Option Nat} {K : Fm → St → Prop} {fuel : Nat} {pend : List (Nat × AV)} {f : Fm} {st : St} (hM : tidyB ops M = true) (hT : TOk P T) {O : Ar} (hO : O = std) {n m : Nat} (i d m' : Nat) {cs : List Cond} {r0 r : AV}
    (hb : tkB ops pend (lsB n m) i d = true) (hs : (lsB n m).setIfInBounds i true = lsB n m') (hl : stAt O T ops st.h f i = some (cs, r0)) (hc : allC cs) (he : Eqv r0 r)
    (H : AnyE P T ops M rd K fuel ((i, r) :: pend) (lsB n m') (f.put (some d) r) st) : AnyE P T ops M rd K (fuel + 1) pend (lsB n m) f st :=
  AnyE.tk hM hT i d m' hb hs (stAt_light hO hl hc) he H
def nlB (ops : Array Oper) (M : List Nat) (pend : List (Nat × AV)) (j : Nat) : Bool := match ops[j]? with
  | some o => noLookB ops (dropP M j pend) o
  | none => false
theorem AnyE.cpN {rd : Option Nat} {ops : Array Oper} {M : List Nat} {K : Fm → St → Prop} {fuel : Nat} {pend pend' : List (Nat × AV)} {f : Fm} {st : St} {n m : Nat} {g : FuncId} {args : List AV} {r : AV} (hp : Pure P g args r) (j d m' : Nat)
    (hq : Region.ready .any ops (lsB n m) = [j]) (hn : nlB ops M pend j = true) (hd : dropP M j pend = pend') (hc : callAt ops j f = some (g, args)) (hs : (lsB n m).setIfInBounds j true = lsB n m') (hf : putAt ops j f r = f.put (some d) r)
    (h : AnyE P T ops M rd K fuel pend' (lsB n m') (f.put (some d) r) st) : AnyE P T ops M rd K (fuel + 1) pend (lsB n m) f st := by
  refine AnyE.callP hp ?_ hc (by rw [hs, hf]; exact h)
  unfold nlB at hn
  unfold onlyD
  rw [hq]
  simp only
  split at hn
  · rename_i o ho
    subst hd
    simp only [ho, hn]
  · cases hn
theorem AnyE.efB (hT : TOk P T) {O : Ar} (hO : O = std) {rd : Option Nat} {ops : Array Oper} {M : List Nat} {K : Fm → St → Prop} {fuel : Nat} {pend pend' : List (Nat × AV)} {f f' : Fm} {st st' : St} {n m : Nat} (j m' : Nat) {cs : List Cond}
    (hr : Region.ready .any ops (lsB n m) = [j]) (hd : dropP M j pend = pend') (hR : runO O T ops [j] [] f st = .done cs f' st') (hc : allC cs) (hs : (lsB n m).setIfInBounds j true = lsB n m') (hk : AllP (fun p => lightV T ops st'.h f' p.1 = some p.2) pend') (h : AnyE P T ops M rd K fuel pend' (lsB n m') f' st') :
    AnyE P T ops M rd K (fuel + 1) pend (lsB n m) f st := AnyE.many [j] hr rfl ⟨PickE.eff hT hO hd hR hc hk (by rw [hs]; exact h), trivial⟩
end
end Go.Fz
namespace Go.Fz
open Go.Proofs
set_option maxRecDepth 100000
set_option linter.unusedVariables false
def cL : Code → Code
  | .seq a _ => a
  | c => c
def cR : Code → Code
  | .seq _ b => b
  | c => c
end Go.Fz
namespace Go.Fz
open Go.Proofs
set_option maxRecDepth 100000
set_option linter.unusedVariables false
theorem own_all {R : Hp} (h : R.all (fun p => p.2.own) = true) : ∀ id o, R.get id = some o → o.own = true := fun id o hg => by
  have := List.all_eq_true.1 h _ (Hp.mem_of_get hg)
  exact this
theorem apart_nil {R : Hp} (h : R.all (fun p => p.2.own) = true) (n : Nat) : Apart R ⟨[], n⟩ := ⟨own_all h, fun _ _ _ => rfl, fun i j oi oj _ hj => by cases hj⟩
theorem tw_own (k n : Nat) : (twH k n).all (fun p => p.2.own) = true := rfl
theorem two_at {k n : Nat} {R : Hp} (h : R.all (fun p => p.2.own) = true) (hc : CallW Try.prog 35 [iV k] ⟨[], n⟩ (fun v st' => v = .agg (twD k n) ∧ st' = ⟨twH k n, n + 4⟩)) :
    ApplyW Try.prog (.fn (.func 35) [] []) [iV k] ⟨R, n⟩ (fun v s => v = .agg (twD k n) ∧ s = ⟨R ++ twH k n, n + 4⟩) := by
  refine ⟨en35, ?_⟩
  have h2 := CallW.frame (apart_nil h n) hc (fun v st' hk id o hg => .inl (by obtain ⟨_, rfl⟩ := hk; exact own_all (tw_own k n) id o hg))
  have e : withR R ⟨[], n⟩ = ⟨R, n⟩ := by unfold withR; rw [List.append_nil]
  rw [e] at h2
  exact h2.mono fun v s hk => by
    obtain ⟨st', ⟨h3, h4⟩, h5⟩ := hk
    exact ⟨h3, by rw [h5, h4]; rfl⟩
theorem check_at {st : St} {A : AV} {d : DayD} {c : Int} (h : Pure Try.prog 40 [dayV d] (.lit (.int .i64 c))) (hf : freeB st.h (fun _ => true) = true) (ha : Eqv (frz st.h (fun _ => true) 3 A) (dayV d)) :
    ApplyW Try.prog (.fn (.func 40) [] []) [A] st (fun v s => v = iV c ∧ s = st) := ⟨en40, call_frz (fun _ => true) 3 h hf (.cons ha .nil)⟩
end Go.Fz
