/- Own work of the verifier of watercress: FzL2, FzO3, FzL3a. -/
import Derived.Test.YtpefamheopplnaaMm20
import Derived.Test.YtpefamheopplnaaMm23
import Derived.Test.YtpefamheopplnaaMm16
import Derived.Test.YtpefamheopplnaaMm17
import Derived.Test.YtpefamheopplnaaMm14
set_option linter.unusedVariables false
set_option linter.unusedSimpArgs false
namespace Go.Fz
open Go.Proofs
set_option maxRecDepth 100000
theorem two_small (k : Nat) (hk : k ≤ 2) : (twoD k).small := ⟨by show 2 < 4611686018427387904; omega, by show 2 < 4611686018427387904; omega, by show k < 4611686018427387904; omega⟩
theorem two_check0 : (twoD 0).check = 0 := by decide +kernel
theorem two_check1 : (twoD 1).check = 0 := by decide +kernel
theorem two_check2 : (twoD 2).check = 0 := by decide +kernel
theorem aw_thick0 : Pure Try.prog 23 [dayV (twoD 0), iV 0, iV 20] (.tup [iV 3, iV 0]) := by
  have h := thicker_ok (twoD 0) (two_small 0 (by omega)) two_check0 0 (by decide) 20 (by omega)
  rw [show (twoD 0).thick 0 20 = 3 by decide +kernel, show (twoD 0).thickE = 0 by decide +kernel] at h
  exact h
theorem aw_thick1 : Pure Try.prog 23 [dayV (twoD 1), iV 0, iV 20] (.tup [iV 2, iV 0]) := by
  have h := thicker_ok (twoD 1) (two_small 1 (by omega)) two_check1 0 (by decide) 20 (by omega)
  rw [show (twoD 1).thick 0 20 = 2 by decide +kernel, show (twoD 1).thickE = 0 by decide +kernel] at h
  exact h
theorem aw_first : Pure Try.prog 30 [dayV (twoD 2)] (.tup [iV 1, iV 0]) := by
  have h := firstP_ok (twoD 2) (two_small 2 (by omega)) two_check2
  rw [show (twoD 2).firstE = 0 by decide +kernel, show (twoD 2).firstV = 1 by decide +kernel] at h
  exact h
theorem aw_leave : Pure Try.prog 31 [dayV (twoD 2)] (.tup [lsV [1], iV 0]) := by
  have h := leaveA_ok (twoD 2) (two_small 2 (by omega)) two_check2
  have hf : (risL (twoD 2).nc).find? (leaveQ (twoD 2).seen.E) = some [1] := by decide +kernel
  unfold leaveV at h
  rw [hf] at h
  exact h
theorem aw_fewest : Pure Try.prog 27 [dayV (twoD 0)] (.tup [lsV [0], iV 0]) := by
  have h := fewestP_ok (twoD 0) (two_small 0 (by omega)) two_check0 (fun e => by
    have : (twoD 0).seen.outs.length = 9 := by decide +kernel
    rw [e] at this; cases this)
  have hf : (risL (twoD 0).nw).find? ((twoD 0).setQ (twoD 0).seen.outs) = some [0] := by decide +kernel
  unfold fewV fewE at h
  rw [hf] at h
  exact h
theorem aw_bounds : Pure Try.prog 18 [dayV (twoD 0)] (.tup [(twoD 0).bndV, iV 0]) := boundsV_ok (twoD 0) (two_small 0 (by omega)) two_check0 (fun e => by
  have : (twoD 0).seen.outs.length = 9 := by decide +kernel
  rw [e] at this; cases this)
end Go.Fz
namespace Go.Fz
variable {P : Program}
theorem frzs_ok {φ : Fi} {st : St} {w : World} (hr : Rel φ st w) {D : Nat → Bool} (m : Nat) : ∀ {xs : List AV} {us : List Value}, VRL φ xs us → VRL (φ.froz st.h D w) (xs.map (frz st.h D m)) us
  | [], _, h => by cases h; exact .nil
  | a :: xs, _, h => by cases h with | cons h t => exact .cons (frz_ok hr m h) (frzs_ok hr m t)
theorem call_frz {g : FuncId} {args args2 : List AV} {r : Value} {st : St} (D : Nat → Bool) (m : Nat) (hp : Pure P g args2 (.lit r)) (hf : freeB st.h D = true) (ha : Eqvs (args.map (frz st.h D m)) args2) :
    CallW P g args st (fun v st' => v = .lit r ∧ st' = st) := by
  intro φ w cargs n hrel hargs
  obtain ⟨k1, _⟩ := hrel.freeze hf
  have hargs' := ha.ok (frzs_ok hrel (D := D) m hargs)
  have hrel0 : Rel (φ.froz st.h D w) ⟨[], st.n⟩ w := ⟨k1.n, fun _ _ h => by simp [Hp.get] at h, fun _ _ h => by simp [Hp.get] at h, fun _ _ h => by simp [Hp.get] at h, fun _ _ _ _ h => by simp [Hp.get] at h, fun _ _ _ h => by simp [Hp.get] at h, fun b c hb => ⟨(k1.froz b c hb).1, (k1.froz b c hb).2.1, fun _ _ h => by simp [Hp.get] at h⟩⟩
  refine (hp.call ⟨[], st.n⟩ (φ.froz st.h D w) w cargs n hrel0 hargs').mono fun e W' hq => ?_
  obtain ⟨v, cv, st', φ', rfl, ⟨rfl, rfl⟩, hv, _, _, hfr⟩ := hq
  have hcv := hv.lit_inv
  have hblk : ∀ k, k < w.heap.size → W'.heap[k]? = w.heap[k]? := fun k hk => hfr.block k hk fun ⟨id, o, h, _⟩ => by simp [Hp.get] at h
  refine ⟨.lit r, cv, st, φ, rfl, ⟨rfl, rfl⟩, by rw [hcv]; exact .lit _, Ext.refl _, ?_, ⟨hfr.os, hfr.tape, hfr.output, hfr.size, fun k hk _ => hblk k hk, fun k hk => .inl hk, fun b c hb => .inl hb⟩⟩
  refine ⟨hrel.n, hrel.lt, fun id o h => Nat.lt_of_lt_of_le (hrel.blk id o h) hfr.size, fun id o h => (hrel.obj id o h).same (Ext.refl _) (by rw [hrel.n]; exact hrel.lt id o h) (hblk _ (hrel.blk id o h)), hrel.sep, hrel.fam, fun b c hb => ?_⟩
  obtain ⟨h1, h2, h3⟩ := hrel.froz b c hb
  refine ⟨Nat.lt_of_lt_of_le h1 hfr.size, fun i v hv => ?_, h3⟩
  rw [← h2 i v hv]
  exact World.cell?_of_block (hblk b h1)
end Go.Fz
namespace Go.Fz
open Go.Proofs
set_option maxRecDepth 100000
section
variable {P : Program} {T : Ti}
def lsB (n m : Nat) : Array Bool := ((List.range n).map fun i => m.testBit i).toArray
def tkB (ops : Array Oper) (pend : List (Nat × AV)) (listed : Array Bool) (i d : Nat) : Bool := match ops[i]? with
  | some o => (match o.dst with | some x => Nat.beq x d | none => false) && ((Region.ready .any ops listed).contains i && noLookB ops pend o)
  | none => false
theorem AnyE.tk {ops : Array Oper} {M : List Nat} {rd : Option Nat} {K : Fm → St → Prop} {fuel : Nat} {pend : List (Nat × AV)} {f : Fm} {st : St} (hM : tidyB ops M = true) (hT : TOk P T) {n m : Nat} (i d m' : Nat) {r0 r : AV}
    (hb : tkB ops pend (lsB n m) i d = true) (hs : (lsB n m).setIfInBounds i true = lsB n m') (hl : lightV T ops st.h f i = some r0) (he : Eqv r0 r)
    (H : AnyE P T ops M rd K fuel ((i, r) :: pend) (lsB n m') (f.put (some d) r) st) : AnyE P T ops M rd K (fuel + 1) pend (lsB n m) f st := by
  unfold tkB at hb
  split at hb
  · rename_i o ho
    rw [Bool.and_eq_true] at hb
    obtain ⟨h1, h2⟩ := hb
    have hd : o.dst = some d := by
      split at h1
      · rename_i x hx; rw [hx, Nat.eq_of_beq_eq_true h1]
      · cases h1
    refine AnyE.takeE hM hT i ho h2 ⟨r0, hl, he⟩ ?_
    rw [hs, hd]
    exact H
  · cases hb
theorem AnyE.ls {ops : Array Oper} {M : List Nat} {rd : Option Nat} {K : Fm → St → Prop} {fuel : Nat} {pend : List (Nat × AV)} {f f' : Fm} {st : St} {listed : Array Bool} {n : Nat} (m' : Nat) (hs : listed = lsB n m') (hf : f' = f) (h : AnyE P T ops M rd K fuel pend (lsB n m') f st) : AnyE P T ops M rd K fuel pend listed f' st := by
  rw [hs, hf]; exact h
theorem SW.drawnB (_hT : TOk P T) {ops : Array Oper} {M : List Nat} (hm : P.follows .mixedOrders = true) {rd : Option Nat} {id : Nat} {Q : Exit → Fm → St → Prop} {f : Fm} {st : St} (n : Nat) (hM : tidyB ops M = true) (hn : ops.size = n) (h0 : Array.replicate n false = lsB n 0)
    (h : AnyE P T ops M rd (fun f' st' => Q .normal f' st') n [] (lsB n 0) f st) : SW P rd (.region id ops true) Q f st := by
  refine SW.drawnE (T := T) hm hM ?_
  rw [hn, h0]; exact h
end
end Go.Fz
