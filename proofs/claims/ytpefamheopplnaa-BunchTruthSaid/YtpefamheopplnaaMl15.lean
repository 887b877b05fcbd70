/- Own work of the verifier of watercress: FzB13, FzB15, FzI0, FzC0, FzC1, FzC2, FzC2s, FzI1, FzC3. -/
import Derived.Test.YtpefamheopplnaaMl14
import Derived.Test.YtpefamheopplnaaMl13
import Derived.Test.YtpefamheopplnaaMl0
import Derived.Test.YtpefamheopplnaaMl7
import Derived.Test.YtpefamheopplnaaMl11
import Derived.Test.YtpefamheopplnaaMl9
import Derived.Test.YtpefamheopplnaaMl10
set_option linter.unusedVariables false
set_option linter.unusedSimpArgs false

namespace Go.Fz
open Go.Proofs
set_option maxRecDepth 100000
variable {P : Program} {T : Ti}
def PickE (P : Program) (T : Ti) (ops : Array Oper) (M : List Nat) (rd : Option Nat) (K : Fm → St → Prop) (fuel : Nat) (pend : List (Nat × AV)) (listed : Array Bool) (f : Fm) (st : St) (j : Nat) : Prop :=
  ∃ o pend', ops[j]? = some o ∧ dropP M j pend = pend' ∧ OpsW P rd ops [j] (fun f' st' => (∃ v, f' = f.put o.dst v) ∧ PendOk T ops pend' f' st'.h ∧ AnyE P T ops M rd K fuel pend' (listed.setIfInBounds j true) f' st') f st
theorem AnyE.two {ops : Array Oper} {M : List Nat} {rd : Option Nat} {K : Fm → St → Prop} {fuel : Nat} {pend : List (Nat × AV)} {listed : Array Bool} {f : Fm} {st : St} (a b : Nat)
    (hb : (match Region.ready .any ops listed with | [x, y] => Nat.beq x a && Nat.beq y b | _ => false) = true) (h1 : PickE P T ops M rd K fuel pend listed f st a) (h2 : PickE P T ops M rd K fuel pend listed f st b) : AnyE P T ops M rd K (fuel + 1) pend listed f st := fun hc hpl hpo => by
  have hr : Region.ready .any ops listed = [a, b] := by
    split at hb
    · rename_i x y hk
      rw [Bool.and_eq_true] at hb
      rw [hk, Nat.eq_of_beq_eq_true hb.1, Nat.eq_of_beq_eq_true hb.2]
    · cases hb
  refine AnyD.all hpo hr (by simp) fun k hk => ?_
  have hrm : k ∈ Region.ready .any ops listed := by rw [hr]; exact hk
  have hpick : PickE P T ops M rd K fuel pend listed f st k := by
    rcases List.mem_cons.1 hk with rfl | hk
    · exact h1
    · rcases List.mem_cons.1 hk with rfl | hk
      · exact h2
      · cases hk
  obtain ⟨o, pend', hj, hd, h⟩ := hpick
  refine ⟨o, hj, h.mono fun f' st' ⟨⟨v, hv⟩, hp, hE⟩ => ⟨v, hv, ?_⟩⟩
  rw [hd]
  exact hE (hc.set hrm) (fun p hp => by
    rw [← hd] at hp
    exact getD_set_true (hpl p (List.mem_filter.1 hp).1)) hp
theorem PickE.eff (hT : TOk P T) {O : Ar} (hO : O = std) {rd : Option Nat} {ops : Array Oper} {M : List Nat} {K : Fm → St → Prop} {fuel : Nat} {pend pend' : List (Nat × AV)} {listed : Array Bool} {f f' : Fm} {st st' : St} {j : Nat} {cs : List Cond}
    (hd : dropP M j pend = pend') (hR : runO O T ops [j] [] f st = .done cs f' st') (hc : allC cs) (hk : AllP (fun p => lightV T ops st'.h f' p.1 = some p.2) pend') (h : AnyE P T ops M rd K fuel pend' (listed.setIfInBounds j true) f' st') : PickE P T ops M rd K fuel pend listed f st j := by
  obtain ⟨o', v, ho', rfl⟩ := runO_one hR
  exact ⟨o', pend', ho', hd, OpsW.run hT hO (R := .done cs (f.put o'.dst v) st') hR hc ⟨⟨v, rfl⟩, (show PendOk T ops pend' (f.put o'.dst v) st'.h from fun p hp => LV.of (hk.ok p hp)), h⟩⟩
theorem PickE.app (hT : TOk P T) {rd : Option Nat} {ops : Array Oper} {M : List Nat} {K : Fm → St → Prop} {fuel : Nat} {pend pend' : List (Nat × AV)} {listed : Array Bool} {f : Fm} {st st' : St} {j t : Nat} {s x r : AV}
    (hd : dropP M j pend = pend') (ha : appAt ops j f = some (t, s, x)) (hr : appendA T st t t s x = some (r, st')) (hk : AllP (fun p => lightV T ops st'.h (putAt ops j f r) p.1 = some p.2) pend')
    (h : AnyE P T ops M rd K fuel pend' (listed.setIfInBounds j true) (putAt ops j f r) st') : PickE P T ops M rd K fuel pend listed f st j := by
  obtain ⟨o, h1, h2, h3, h4⟩ := appAt_ok ha
  rw [h4] at hk h
  exact ⟨o, pend', h1, hd, OpsW.append hT h1 h2 (by rw [h3]; exact hr) (.nil ⟨⟨r, rfl⟩, (show PendOk T ops pend' (f.put o.dst r) st'.h from fun p hp => LV.of (hk.ok p hp)), h⟩)⟩
theorem PickE.appNil (hT : TOk P T) {rd : Option Nat} {ops : Array Oper} {M : List Nat} {K : Fm → St → Prop} {fuel : Nat} {pend pend' : List (Nat × AV)} {listed : Array Bool} {f : Fm} {st : St} {j t id sz : Nat} {ex : Bool} {cs : List AV}
    (hd : dropP M j pend = pend') (ha : appAt ops j f = some (t, .lit (.slice none 0 0), .sl id 0 1 sz ex)) (hx : st.h.get id = some (.cells none false cs)) (hb : sliceB T t sz = true) (hl : cs.length = sz) (hone : cs.all AV.one = true)
    (hk : AllP (fun p => lightV T ops (st.push (.cells none false cs)).h (putAt ops j f (.sl st.n 0 1 sz false)) p.1 = some p.2) pend')
    (h : AnyE P T ops M rd K fuel pend' (listed.setIfInBounds j true) (putAt ops j f (.sl st.n 0 1 sz false)) (st.push (.cells none false cs))) : PickE P T ops M rd K fuel pend listed f st j :=
  PickE.app hT hd ha (append_nilB hb hx hl hone) hk h
theorem PickE.appOne (hT : TOk P T) {rd : Option Nat} {ops : Array Oper} {M : List Nat} {K : Fm → St → Prop} {fuel : Nat} {pend pend' : List (Nat × AV)} {listed : Array Bool} {f : Fm} {st : St} {j t id id0 sz : Nat} {ex : Bool} {cs : List AV} {G : List AV} {g : Nat → Nat → AV} {len : Nat}
    (hd : dropP M j pend = pend') (ha : appAt ops j f = some (t, .sl id0 0 len sz false, .sl id 0 1 sz ex)) (hx : st.h.get id = some (.cells none false cs)) (hs : st.h.get id0 = some (.cells none false G)) (hG : G = flatG sz g len) (hb : sliceB T t sz = true) (hl : cs.length = sz) (hone : cs.all AV.one = true) (hlen : len < 1048576)
    (h : ∀ G', G' = flatG sz g len ++ cs → AllP (fun p => lightV T ops (St.push ⟨truncH id0 (len * sz) id0 st.h, st.n⟩ (.cells (some id0) false G')).h (putAt ops j f (.sl st.n 0 (len + 1) sz false)) p.1 = some p.2) pend' ∧
      AnyE P T ops M rd K fuel pend' (listed.setIfInBounds j true) (putAt ops j f (.sl st.n 0 (len + 1) sz false)) (St.push ⟨truncH id0 (len * sz) id0 st.h, st.n⟩ (.cells (some id0) false G'))) : PickE P T ops M rd K fuel pend listed f st j := by
  subst hG
  obtain ⟨h1, h2⟩ := h _ rfl
  exact PickE.app hT hd ha (append_oneB hb hx hl hone hs hlen) h1 h2
theorem tdiv_nn {a b : Int} (ha : 0 ≤ a) (hb : 1 ≤ b) : 0 ≤ a.tdiv b ∧ a.tdiv b ≤ a ∧ a.tdiv b * b + a.tmod b = a ∧ 0 ≤ a.tmod b ∧ a.tmod b < b := by
  rw [Int.tdiv_eq_ediv_of_nonneg ha, Int.tmod_eq_emod_of_nonneg ha]
  refine ⟨Int.ediv_nonneg ha (by omega), Int.ediv_le_self b ha, ?_, Int.emod_nonneg a (by omega), Int.emod_lt_of_pos a (by omega)⟩
  rw [Int.mul_comm]; exact Int.mul_ediv_add_emod a b
theorem quo64_nn {a b : Int} (ha : 0 ≤ a) (ha2 : a ≤ 1000000000) (hb : 1 ≤ b) : quo64 a b = a.tdiv b := by
  obtain ⟨h1, h2, _⟩ := tdiv_nn ha hb
  exact wrp_in (by simp only [IntKind.lo]; omega) (by simp only [IntKind.hi]; omega)
theorem made_eq {s f : Int} (hs : 0 ≤ s) (hs2 : s ≤ 1000000000) (hf : 1 ≤ f) : sub64 s (mul64 (quo64 s f) f) = s.tmod f := by
  obtain ⟨h1, h2, h3, h4, h5⟩ := tdiv_nn hs hf
  have h6 : 0 ≤ s.tdiv f * f := Int.mul_nonneg h1 (by omega)
  rw [quo64_nn hs hs2 hf, mul64_in _ _ (by omega) (by omega), sub64_in _ _ (by omega) (by omega)]
  omega
theorem round_in {a b : Int} {k : Nat} (ha : 0 ≤ a) (ha2 : a ≤ 1000000000) (hb : 1 ≤ b) (h : b ≤ a - k * b) : (k : Int) + 1 ≤ a.tdiv b ∧ sub64 (a - k * b) b = a - ((k + 1 : Nat) : Int) * b := by
  have e : ((k + 1 : Nat) : Int) * b = k * b + b := by rw [Int.natCast_add, Int.add_mul]; simp
  have hk : (0 : Int) ≤ k * b := Int.mul_nonneg (Int.natCast_nonneg k) (by omega)
  refine ⟨?_, ?_⟩
  · rw [Int.tdiv_eq_ediv_of_nonneg ha]
    have : ((k : Int) + 1) * b ≤ a := by rw [Int.add_mul]; omega
    exact Int.le_ediv_of_mul_le (by omega) this
  · rw [sub64_in _ _ (by omega) (by omega), e]; omega
theorem round_out {a b : Int} {k : Nat} (ha : 0 ≤ a) (hb : 1 ≤ b) (hk : (k : Int) ≤ a.tdiv b) (h : a - k * b < b) : (k : Int) = a.tdiv b ∧ a - k * b = a.tmod b := by
  obtain ⟨h1, h2, h3, h4, h5⟩ := tdiv_nn ha hb
  have hlt : a.tdiv b < k + 1 := by
    rw [Int.tdiv_eq_ediv_of_nonneg ha]
    exact Int.ediv_lt_of_lt_mul (by omega) (by rw [Int.add_mul]; omega)
  have : (k : Int) = a.tdiv b := by omega
  refine ⟨this, ?_⟩
  rw [this]; omega
end Go.Fz
namespace Go.Fz
def setI (f : Nat → Int) (w : Nat) (x : Int) (i : Nat) : Int := if i = w then x else f i
theorem setI_self (f : Nat → Int) (w : Nat) (x : Int) : setI f w x w = x := if_pos rfl
theorem setI_ne {f : Nat → Int} {w : Nat} {x : Int} {i : Nat} (h : i ≠ w) : setI f w x i = f i := if_neg h
end Go.Fz
namespace Go.Fz
set_option maxRecDepth 100000
section
variable {P : Program} {T : Ti}
theorem OpsW.nilSl (hT : TOk P T) {rd : Option Nat} {ops : Array Oper} {i : Nat} {l : List Nat} {K : Fm → St → Prop} {f : Fm} {st : St} {id off len sz : Nat} {ex : Bool} (hn : nilAt T ops i f = some (.sl id off len sz ex))
    (h0 : OpsW P rd ops l K (putAt ops i f (.lit (.bool false))) st) : OpsW P rd ops (i :: l) K f st := by
  unfold nilAt at hn
  split at hn
  · cases hn
  · rename_i o ho
    split at hn
    · rename_i hw
      split at hn
      · rename_i t x y yt hx
        split at hn
        · rename_i ti hti
          split at hn
          · rename_i e hd
            split at hn
            · rename_i hy
              simp only [Option.some.injEq] at hn
              have hu := (hT t ti hti).und
              rw [hd] at hu
              have hput : ∀ v, putAt ops i f v = f.put o.dst v := fun v => by simp [putAt, ho]
              rw [hput] at h0
              have key : ∀ (b : Bool) (φ : Fi) (w : World) (a : Act) (p : Option Addr) (l c : Nat), ActR φ f a → a.eval x = .slice p l c → p.isNone = b → (execOp a.eval o).run P w = .ok (.value (.bool b)) w := fun b φ w a p l c ha hp hb => by
                have hyy := opR_of ha.ts y
                rw [hy] at hyy
                have hyy := hyy.lit_inv
                have h1 := run_equalIn_slice_nil (P := P) (w := w) 9999 t e p l c hu
                subst hb
                simp only [execOp, hx, hp, hyy]
                simp [eqGuard, Result.andThen, binOp, Op.equal, Op.maxDepth, h1]
              intro φ w a n Q k1 k2 k3 hQ
              have hxx := opR_of k3.ts x
              rw [hn] at hxx
              simp only [wpOpsIn, ho]
              rw [wanted_eq k3 ops hw]
              simp only [if_true]
              refine ⟨fun _ _ => trivial, ?_⟩
              rw [semAt_eq (fun c hc => by rw [hx] at hc; cases hc)]
              obtain ⟨cap, hv, _⟩ := hxx.sl_inv
              rw [key false φ w a _ _ _ k3 hv rfl]
              exact h0 φ w _ n Q k1 k2 (k3.put o.dst (.lit _)) hQ
            · cases hn
          · cases hn
        · cases hn
      · cases hn
    · cases hn
end
end Go.Fz
namespace Go.Fz
open Go.Proofs
set_option maxRecDepth 100000
section
variable {P : Program} {T : Ti}
theorem OpsW.idxSl (hT : TOk P T) {rd : Option Nat} {ops : Array Oper} {K : Fm → St → Prop} {f : Fm} {st : St} {i : Nat} {l : List Nat} {t id off len sz n : Nat} {ex : Bool} {k : IntKind}
    (hx : idxAt ops i f = some (t, .sl id off len sz ex, .lit (.int k (Int.ofNat n)))) (hb : sliceB T t sz = true) (hn : n < len) (h : ∀ q, q = off + n * sz → OpsW P rd ops l K (putAt ops i f (.ptr id q)) st) : OpsW P rd ops (i :: l) K f st := by
  have h := h _ rfl
  obtain ⟨ti, tj, e, h1, h2, h3, h4, h5, h6, h7, h8⟩ := sliceB_ok hb
  unfold idxAt at hx
  split at hx
  · cases hx
  · rename_i o ho
    split at hx
    · rename_i hw
      split at hx
      · rename_i t' x ix hop
        simp only [Option.some.injEq, Prod.mk.injEq] at hx
        obtain ⟨rfl, k2, k3⟩ := hx
        have hput : ∀ v, putAt ops i f v = f.put o.dst v := fun v => by simp [putAt, ho]
        rw [hput] at h
        refine OpsW.light hT ho hw ?_ h
        simp only [evG, evL, hop, k2, k3, h1, h2, h3]
        rw [if_pos ⟨Int.natCast_nonneg n, Int.ofNat_lt.2 hn, h4⟩]
        rfl
      · cases hx
    · cases hx
theorem OpsW.stoI (hT : TOk P T) {rd : Option Nat} {ops : Array Oper} {K : Fm → St → Prop} {f : Fm} {st : St} {j : Nat} {l : List Nat} {t id off : Nat} {v : Int} {k : IntKind} {G : List AV}
    (ha : stoAt ops j f = some (t, .ptr id off, .lit (.int k v))) (hb : sizeB T t 1 = true) (hx : st.h.get id = some (.cells none false G)) (hl : off < G.length)
    (h : ∀ G', G' = G.set off (.lit (.int k v)) → OpsW P rd ops l K (putAt ops j f undA) ⟨st.h.set id (.cells none false G'), st.n⟩) : OpsW P rd ops (j :: l) K f st := by
  have h := h _ rfl
  unfold stoAt at ha
  split at ha
  · cases ha
  · rename_i o ho
    split at ha
    · rename_i hw
      split at ha
      · rename_i t' p x hop
        simp only [Option.some.injEq, Prod.mk.injEq] at ha
        obtain ⟨rfl, e2, e3⟩ := ha
        have hput : ∀ v, putAt ops j f v = f.put o.dst v := fun v => by simp [putAt, ho]
        rw [hput] at h
        have hst : storeO T st (Operand.av f.ts) o = some ⟨st.h.set id (.cells none false (G.set off (.lit (.int k v)))), st.n⟩ := by
          unfold sizeB at hb
          split at hb
          · rename_i ti hti
            have hsz := Nat.eq_of_beq_eq_true hb
            have h1 : (AV.lit (.int k v)).cells = [.lit (.int k v)] := rfl
            have h2 : (AV.lit (.int k v)).one = true := rfl
            have h3 : (AV.lit (.int k v)).norm = .lit (.int k v) := rfl
            simp only [storeO, hop, storeA, e2, e3, ptrOf, hti, hx, h1, hsz, List.length_singleton, List.map_cons, List.map_nil, h3, setsL_one, List.all_cons, h2, List.all_nil]
            rw [if_pos ⟨trivial, by omega, by simp, by omega⟩]
          · cases hb
        exact OpsW.store hT ho hw hst h
      · cases ha
    · cases ha
def sliAt (ops : Array Oper) (i : Nat) (f : Fm) : Option (TypeId × AV × Option AV × Option AV) := match ops[i]? with
  | none => none
  | some o => match wantA ops f.ts o with
    | some true => match o.op with
      | .slice t x lo hi none => some (t, Operand.av f.ts x, lo.map (Operand.av f.ts), hi.map (Operand.av f.ts))
      | _ => none
    | _ => none
theorem natOr_lo {d l : Nat} : natOr d (some (.lit (.int .i64 (Int.ofNat l)))) = some l := by
  show (if (0 : Int) ≤ Int.ofNat l then some (Int.ofNat l).toNat else none) = some l
  exact if_pos (Int.natCast_nonneg l)
theorem AnyE.cut (hT : TOk P T) {rd : Option Nat} {ops : Array Oper} {K : Fm → St → Prop} {fuel : Nat} {pend : List (Nat × AV)} {listed : Array Bool} {f : Fm} {st : St} (i : Nat) {t id off len sz l u : Nat} {ex : Bool} {lo hi : Option AV} (hM : tidyB ops (masks ops) = true)
    (hx : sliAt ops i f = some (t, .sl id off len sz ex, lo, hi)) (hlo : natOr 0 lo = some l) (hhi : natOr len hi = some u) (hb : sliceB T t sz = true) (hl : l ≤ u) (hu : u ≤ len) (he : l < len ∨ (l = len ∧ ex = true))
    (hr : (match ops[i]? with | some o => (Region.ready .any ops listed).contains i && noLookB ops pend o | none => false) = true)
    (h : ∀ q b, (q = off + l * sz ∨ (l = len ∧ q = off)) → AnyE P T ops (masks ops) rd K fuel ((i, .sl id q (u - l) sz b) :: pend) (listed.setIfInBounds i true) (putAt ops i f (.sl id q (u - l) sz b)) st) : AnyE P T ops (masks ops) rd K (fuel + 1) pend listed f st := by
  obtain ⟨ti, tj, e, h1, h2, h3, h4, h5, h6, h7, h8⟩ := sliceB_ok hb
  unfold sliAt at hx
  split at hx
  · cases hx
  · rename_i o ho
    split at hx
    · rename_i hw
      split at hx
      · rename_i t' x lo' hi' hop
        simp only [Option.some.injEq, Prod.mk.injEq] at hx
        obtain ⟨rfl, k2, rfl, rfl⟩ := hx
        have hput : ∀ v, putAt ops i f v = f.put o.dst v := fun v => by simp [putAt, ho]
        simp only [hput] at h
        simp only [ho] at hr
        rcases he with he | ⟨rfl, rfl⟩
        · refine AnyE.take hM hT i ho hr ?_ (h (off + l * sz) (ex && u == len) (.inl rfl))
          simp only [Fz.lightV, ho, hw, evG, hop, sliceA, k2, h1, h2, h3, h4, hlo, hhi, if_true, Option.map_none]
          rw [if_pos ⟨hl, hu, .inr he⟩]
        · obtain rfl : u = l := by omega
          refine AnyE.take hM hT i ho hr ?_ (h off true (.inr ⟨rfl, rfl⟩))
          simp only [Fz.lightV, ho, hw, evG, hop, sliceA, k2, h1, h2, h3, h4, hlo, hhi, if_true, Option.map_none]
          by_cases hz : u = 0
          · subst hz
            rw [if_pos ⟨Nat.le_refl _, Nat.le_refl _, .inl rfl⟩]; simp
          · rw [if_neg (by omega), if_pos ⟨trivial, trivial, trivial⟩, Nat.sub_self]
      · cases hx
    · cases hx
theorem AnyE.callS {rd : Option Nat} {ops : Array Oper} {M : List Nat} {K : Fm → St → Prop} {fuel : Nat} {pend pend' : List (Nat × AV)} {listed : Array Bool} {f : Fm} {st : St} {j : Nat} {g : FuncId} {args : List AV} {r : AV} (he : Enters P g)
    (hp : CallW P g args st (fun v st' => v = r ∧ st' = st))
    (hj : onlyD ops M pend listed = some (j, pend')) (hc : callAt ops j f = some (g, args)) (h : AnyE P T ops M rd K fuel pend' (listed.setIfInBounds j true) (putAt ops j f r) st) : AnyE P T ops M rd K (fuel + 1) pend listed f st := fun k1 k2 k3 => by
  unfold onlyD at hj
  split at hj
  · rename_i j' hr
    split at hj
    · rename_i o ho
      split at hj
      · rename_i hnl
        cases hj
        obtain ⟨o', first, caps, xs, ho', hw, hcc, ha, hput⟩ := callAt_ok hc
        rw [ho] at ho'; cases ho'
        subst ha
        rw [hput] at h
        refine AnyE.one j ho (by rw [hr]; exact Nat.beq_refl j) _ rfl (OpsW.call ho hw hcc (show ApplyW P (.fn (.func g) first caps) xs st _ from ⟨he, hp.mono fun v st' ⟨h1, h2⟩ => by
          subst h1; subst h2
          refine .nil ⟨⟨_, rfl⟩, fun p hpm => ?_, h⟩
          show LV T ops st'.h (f.put o.dst v) p.1 p.2
          rw [LV_put (fun q hq d hd => noLookB_ok hnl p hpm q hq d hd)]
          exact k3 p (List.mem_filter.1 hpm).1⟩)) k1 k2 k3
      · cases hj
    · cases hj
  · cases hj
theorem Eqv.islX {len sz : Nat} {ex : Bool} {g : Nat → Nat → AV} : Eqv (.isl len sz ex g) (.isl len sz false g) := fun φ u hv => by
  cases hv with
  | isl _ _ _ _ b o cap c us hz hcc hus hcap hex => exact .isl len sz false g b o cap c us hz hcc hus hcap (fun h => by cases h)
  | isl0 => exact .isl0 _ _ _
theorem Eqv.trans {a b c : AV} (h : Eqv a b) (k : Eqv b c) : Eqv a c := fun φ u hv => k φ u (h φ u hv)
end
theorem flatG_part (fl : Nat → Int) (n off len : Nat) (h : off + len ≤ n) : ((flatG 1 (intC fl) n).drop off).take len = flatG 1 (intC fun i => fl (off + i)) len := by
  apply List.ext_getElem?
  intro q
  rw [List.getElem?_take]
  by_cases hq : q < len
  · rw [if_pos hq, List.getElem?_drop]
    have h1 := flatG_get 1 (intC fl) n (off + q) 0 (by omega) (by omega)
    have h2 := flatG_get 1 (intC fun i => fl (off + i)) len q 0 hq (by omega)
    rw [Nat.mul_one, Nat.add_zero] at h1 h2
    rw [h1, h2]; rfl
  · rw [if_neg hq, List.getElem?_eq_none (by rw [flatG_length]; omega)]
theorem clone_app {t id id2 off n : Nat} {ex : Bool} {G : List AV} {st : St} {fm : Option Nat} {ro : Bool} {fl : Nat → Int} {N : Nat} (h : sliceB T t 1 = true) (hx : st.h.get id = some (.cells none false [])) (hy : st.h.get id2 = some (.cells fm ro G)) (hG : flatG 1 (intC fl) N = G) (hoff : off + n ≤ N) (hn : n < 1000) (h0 : 0 < n) :
    appendA T st t t (.sl id 0 0 1 true) (.sl id2 off n 1 ex) = some (.sl st.n 0 n 1 false, st.push (.cells none false (flatG 1 (intC fun i => fl (off + i)) n))) := by
  obtain ⟨i, j, e, ht, hd, he, hz, h5, hb, hb0, hzl⟩ := sliceB_ok h
  have hlen : G.length = N := by rw [← hG, flatG_length, Nat.mul_one]
  have hpart : (G.drop off).take n = flatG 1 (intC fun i => fl (off + i)) n := by rw [← hG]; exact flatG_part fl N off n hoff
  have hone := flatG_one (sz := 1) (intC_one fun i => fl (off + i)) n
  unfold appendA
  simp only [ht, hd, he, slCells, cellsAt, hx, hy, slLen, hz]
  rw [if_pos ⟨trivial, by simp⟩, if_pos ⟨trivial, by omega⟩]
  simp only [Nat.mul_one, hpart, Nat.zero_add]
  rw [if_neg (by rw [hone]; simp; omega), if_neg (by omega)]
  simp
theorem clone_app0 {t id id2 off : Nat} {ex : Bool} {G : List AV} {st : St} {fm : Option Nat} {ro : Bool} (h : sliceB T t 1 = true) (hx : st.h.get id = some (.cells none false [])) (hy : st.h.get id2 = some (.cells fm ro G)) (hoff : off ≤ G.length) :
    appendA T st t t (.sl id 0 0 1 true) (.sl id2 off 0 1 ex) = some (.sl id 0 0 1 true, st) := by
  obtain ⟨i, j, e, ht, hd, he, hz, h5, hb, hb0, hzl⟩ := sliceB_ok h
  unfold appendA
  simp only [ht, hd, he, slCells, cellsAt, hx, hy, slLen, hz]
  rw [if_pos ⟨trivial, by simp⟩, if_pos ⟨trivial, by omega⟩]
  simp only [Nat.zero_mul, List.take_zero, List.all_nil]
  rw [if_neg (by simp; omega)]
  rfl
set_option maxHeartbeats 4000000 in
theorem clone_ok {id off n N : Nat} {fm : Option Nat} {ro ex : Bool} {fl : Nat → Int} {G : List AV} {st : St} {r : AV} (hg : st.h.get id = some (.cells fm ro G)) (hG : flatG 1 (intC fl) N = G) (hoff : off + n ≤ N) (hn : n < 1000) (hr : Eqv (intsV n false fun i => fl (off + i)) r) (hrb : Below 0 r) :
    CallW Try.prog 103 [.sl id off n 1 ex] st (fun v st' => v = r ∧ st' = st) := by
  obtain ⟨O, hO⟩ : ∃ O : Ar, O = std := ⟨_, rfl⟩
  have hlen : G.length = N := by rw [← hG, flatG_length, Nat.mul_one]
  refine call_ro (m := 3) (args2 := [.sl 0 off n 1 ex]) hg (by rw [← hG]; exact flatG_below (fun i k => Below.lit) N) hrb (fun φ us hv => ?_) ?_
  · cases hv with
    | cons h1 h2 =>
      cases h2
      refine .cons ?_ .nil
      cases h1 with
      | sl _ _ _ _ _ cap k1 k2 k3 k4 => exact .sl (φ := ⟨fun _ => φ.f id, 1, φ.z⟩) 0 off n 1 ex cap Nat.zero_lt_one k2 k3 k4
  refine callW_of_body tok Try.func103 rfl ?_
  show SW _ _ _ _ _ ⟨[(0, .cells none true G)], 1⟩
  refine SW.seqRun tok hO (by cbv <;> rfl) (by trivial) ?_
  refine SW.seq ?_
  refine SW.seq (SW.runN tok hO 1 (by cbv <;> rfl) (by trivial) ?_)
  refine OpsW.nilSl tok (by cbv <;> rfl) (OpsW.nil ?_)
  refine SW.cond (t := false) (by cbv <;> rfl) (SW.skip ?_)
  refine SW.seq (SW.runN tok hO 2 (by cbv <;> rfl) (by trivial) ?_)
  rcases Nat.eq_zero_or_pos n with hz | hz
  · subst hz
    refine OpsW.appA tok (by cbv <;> rfl) (by exact clone_app0 (by kernel_rfl) (by rfl) (by rfl) (by omega)) ?_
    refine OpsW.run tok hO (by cbv <;> rfl) (by trivial) ?_
    refine SW.ret ⟨_, _, rfl, rfl, rfl, ?_⟩
    refine Eqv.trans ?_ hr
    show Eqv (.isl 0 1 true _) (.isl 0 1 false _)
    exact Eqv.trans Eqv.islX (Eqv.isl rfl fun i k hi hk => absurd hi (Nat.not_lt_zero i))
  · refine OpsW.appA tok (by cbv <;> rfl) (by exact clone_app (fl := fl) (N := N) (by kernel_rfl) (by rfl) (by rfl) hG hoff hn hz) ?_
    obtain ⟨G2, hG2⟩ : ∃ G2, G2 = flatG 1 (intC fun i => fl (off + i)) n := ⟨_, rfl⟩
    rw [← hG2]
    refine OpsW.run tok hO (by cbv <;> rfl) (by trivial) ?_
    refine SW.ret ⟨_, _, rfl, rfl, rfl, ?_⟩
    refine Eqv.trans ?_ hr
    show Eqv (frz _ notZ 3 (.sl 2 0 n 1 false)) _
    rw [frz_slE (fm := none) (G := G2) rfl rfl (by rw [hG2, flatG_length]; omega), hG2]
    exact Eqv.isl rfl fun i k hi hk => Eqv.of (frz_flat hi hk rfl)
end Go.Fz
namespace Go.Fz
open Go.Proofs
set_option maxRecDepth 100000
def chooseV : AV := .fn (.func 123) [] [.ptr 50 0, .ptr 49 0, .ptr 53 0, .ptr 51 0, .ptr 54 0]
def chH (y N nw : Nat) (lo hi : Nat → Int) (G : List AV) (h : Hp) : Hp := (54, .cells none false [chooseV]) :: (53, .cells none false [.sl 52 0 N 1 true]) :: (52, .cells none false G) :: (51, .cells none false [iV nw]) :: (50, .cells none false [.isl N 2 false (rngC lo hi)]) :: (49, .cells none false [.yld y]) :: h
def chO (y N nw : Nat) (lo hi : Nat → Int) (G : List AV) : Hp := [(54, .cells none false [chooseV]), (53, .cells none false [.sl 52 0 N 1 true]), (52, .cells none false G), (51, .cells none false [iV nw]), (50, .cells none false [.isl N 2 false (rngC lo hi)]), (49, .cells none false [.yld y])]
def truE (nums : Nat → Int) (nw nl : Nat) : AV := .agg [intsV nw false nums, intsV nl false (fun i => nums (nw + i))]
def cutF (N : Nat) (f : Nat → Int) (m : Nat) : Int := if m < N then f m else 0
theorem cutF_congr {N : Nat} {f g : Nat → Int} (h : ∀ m, m < N → f m = g m) : cutF N f = cutF N g := funext fun m => by
  unfold cutF
  by_cases hm : m < N
  · rw [if_pos hm, if_pos hm, h m hm]
  · rw [if_neg hm, if_neg hm]
section
variable {α : Type}
def foldV (F : Int → α → α) (lo : Int) : Nat → α → α
  | 0, a => a
  | c + 1, a => F (lo + c) (foldV F lo c a)
theorem foldV_congr {F F' : Int → α → α} (h : ∀ v a, F v a = F' v a) (lo : Int) (a : α) : ∀ c, foldV F lo c a = foldV F' lo c a
  | 0 => rfl
  | c + 1 => by show F _ _ = F' _ _; rw [foldV_congr h lo a c, h]
def foldE (next : α → (Nat → Int) → α) (N : Nat) (lo hi : Nat → Int) : Nat → Nat → (Nat → Int) → α → α
  | 0, _, f, a => next a (cutF N f)
  | j + 1, i, f, a => foldV (fun v a => foldE next N lo hi j (i + 1) (setI f i v) a) (lo i) (hi i - lo i + 1).toNat a
theorem foldE_congr (next : α → (Nat → Int) → α) (N : Nat) (lo hi : Nat → Int) : ∀ (j i : Nat) (f g : Nat → Int) (a : α), i + j = N → (∀ m, m < i → f m = g m) → foldE next N lo hi j i f a = foldE next N lo hi j i g a
  | 0, i, f, g, a, hij, h => by
    show next a (cutF N f) = next a (cutF N g)
    rw [cutF_congr fun m hm => h m (by omega)]
  | j + 1, i, f, g, a, hij, h => foldV_congr (fun v a => foldE_congr next N lo hi j (i + 1) _ _ a (by omega) fun m hm => by
    by_cases e : m = i
    · subst e; rw [setI_self, setI_self]
    · rw [setI_ne e, setI_ne e, h m (by omega)]) _ _ _
def allE (ok : α → Prop) (next : α → (Nat → Int) → α) (N : Nat) (lo hi : Nat → Int) : Nat → Nat → (Nat → Int) → α → Prop
  | 0, _, _, a => ok a
  | j + 1, i, f, a => ∀ c, c < (hi i - lo i + 1).toNat → allE ok next N lo hi j (i + 1) (setI f i (lo i + c)) (foldV (fun v a => foldE next N lo hi j (i + 1) (setI f i v) a) (lo i) c a)
theorem allE_congr (ok : α → Prop) (next : α → (Nat → Int) → α) (N : Nat) (lo hi : Nat → Int) : ∀ (j i : Nat) (f g : Nat → Int) (a : α), i + j = N → (∀ m, m < i → f m = g m) → allE ok next N lo hi j i f a → allE ok next N lo hi j i g a
  | 0, _, _, _, _, _, _, h => h
  | j + 1, i, f, g, a, hij, hfg, h => fun c hc => by
    have hag : ∀ v m, m < i + 1 → setI f i v m = setI g i v m := fun v m hm => by
      by_cases e : m = i
      · subst e; rw [setI_self, setI_self]
      · rw [setI_ne e, setI_ne e, hfg m (by omega)]
    have h1 := h c hc
    rw [foldV_congr (fun v b => foldE_congr next N lo hi j (i + 1) (setI f i v) (setI g i v) b (by omega) (hag v))] at h1
    exact allE_congr ok next N lo hi j (i + 1) _ _ _ (by omega) (hag _) h1
def chQ (K : α → Hp → Nat → Prop) (stop : Hp → Nat → Prop) (y N nw : Nat) (lo hi : Nat → Int) (A : (Nat → Int) → Prop) (a : α) (v : AV) (st' : St) : Prop :=
  (v = .lit (.bool true) ∧ ∃ nums h n, A nums ∧ st' = ⟨chH y N nw lo hi (flatG 1 (intC nums) N) h, n⟩ ∧ K a h n) ∨ (v = .lit (.bool false) ∧ ∃ nums h n, st' = ⟨chH y N nw lo hi (flatG 1 (intC nums) N) h, n⟩ ∧ stop h n)
set_option maxHeartbeats 8000000 in
theorem choose_ok (ok : α → Prop) (K : α → Hp → Nat → Prop) (next : α → (Nat → Int) → α) (stop : Hp → Nat → Prop) (y N nw : Nat) (lo hi : Nat → Int) (hN : N < 100) (h0 : 0 < nw) (hnw : nw ≤ N) (hb : ∀ m, m < N → 0 ≤ lo m ∧ lo m ≤ hi m ∧ hi m ≤ 5000)
    (step : ∀ nums a h n, (∀ m, m < N → lo m ≤ nums m ∧ nums m ≤ hi m) → ok a → K a h n → YieldW Try.prog y [truE (cutF N nums) nw (N - nw)] ⟨chH y N nw lo hi (flatG 1 (intC nums) N) h, n⟩ (chQ K stop y N nw lo hi (fun f => f = nums) (next a (cutF N nums)))) :
    ∀ j i nums a h n, i + j = N → (∀ m, m < i → lo m ≤ nums m ∧ nums m ≤ hi m) → allE ok next N lo hi j i nums a → K a h n →
      CallW Try.prog 123 [iV i, .ptr 50 0, .ptr 49 0, .ptr 53 0, .ptr 51 0, .ptr 54 0] ⟨chH y N nw lo hi (flatG 1 (intC nums) N) h, n⟩ (chQ K stop y N nw lo hi (fun f => ∀ m, m < i → f m = nums m) (foldE next N lo hi j i nums a))
  | 0, i, nums, a, h, n, hij, hin, hok, hK => by
    obtain ⟨O, hO⟩ : ∃ O : Ar, O = std := ⟨_, rfl⟩
    obtain rfl : i = N := by omega
    have hs := step nums a h n hin hok hK
    obtain ⟨G, hG⟩ : ∃ G, flatG 1 (intC nums) i = G := ⟨_, rfl⟩
    rw [hG] at hs ⊢
    refine callW_of_body tok Try.func123 rfl ?_
    refine SW.seqRun tok hO (by cbv <;> rfl) (by trivial) ?_
    refine SW.seq ?_
    refine SW.seqRun tok hO (by cbv <;> rfl) (by trivial) ?_
    refine SW.condS (by cbv <;> rfl) (fun h1 => ?_) (fun h1 => ?_)
    rotate_left
    · exfalso
      subst hO; simp [std] at h1
    have c1 := fun (b : Bool) => clone_ok (ex := b) (off := 0) (n := nw) (N := i) (fl := nums) (id := 52) (fm := none) (ro := false) (G := G) (r := intsV nw false (cutF i nums)) (st := ⟨chH y i nw lo hi G h, n⟩) (by rfl) hG (by omega) (by omega) (Eqv.isl rfl fun p q hp _ => Eqv.of (by show iV (nums (0 + p)) = iV (cutF i nums p); rw [Nat.zero_add]; unfold cutF; rw [if_pos (by omega)])) (intsV_below _ _ _)
    have c2 : ∀ q2 b, (q2 = nw ∨ (nw = i ∧ q2 = 0)) → CallW Try.prog 103 [.sl 52 q2 (i - nw) 1 b] ⟨chH y i nw lo hi G h, n⟩ (fun v st' => v = intsV (i - nw) false (fun p => cutF i nums (nw + p)) ∧ st' = ⟨chH y i nw lo hi G h, n⟩) := fun q2 b hq =>
      clone_ok (off := q2) (n := i - nw) (N := i) (fl := nums) (id := 52) (fm := none) (ro := false) (G := G) (r := intsV (i - nw) false (fun p => cutF i nums (nw + p))) (by rfl) hG (by omega) (by omega) (by
        rcases hq with rfl | ⟨hq, _⟩
        · exact Eqv.isl rfl fun p q hp _ => Eqv.of (by show iV (nums (q2 + p)) = iV (cutF i nums (q2 + p)); unfold cutF; rw [if_pos (by omega)])
        · exact Eqv.isl rfl fun p _ hp _ => absurd hp (by omega)) (intsV_below _ _ _)
    refine SW.seqRunD tok mixed hO (by kernel_rfl) (by cbv <;> rfl) (by trivial) ?_
    refine AnyE.cut tok 3 (l := 0) (u := nw) (by kernel_rfl) (by cbv <;> rfl) rfl natOr_lo (by kernel_rfl) (by omega) (by omega) (.inl (by omega)) (by cbv <;> rfl) fun q1 b1 hq1 => ?_
    obtain rfl : q1 = 0 := by omega
    refine AnyE.run tok hO (by kernel_rfl) (by cbv <;> rfl) (by trivial) ?_
    refine AnyE.cut tok 7 (l := nw) (u := i) (by kernel_rfl) (by cbv <;> rfl) natOr_lo rfl (by kernel_rfl) (by omega) (by omega) (by by_cases hq : nw < i; exact .inl hq; exact .inr ⟨by omega, rfl⟩) (by cbv <;> rfl) fun q2 b2 hq2 => ?_
    refine AnyE.callS en103 (c1 b1) (by cbv <;> rfl) (by cbv <;> rfl) ?_
    refine AnyE.run tok hO (by kernel_rfl) (by cbv <;> rfl) (by trivial) ?_
    refine AnyE.callS en103 (c2 q2 b2 (by omega)) (by cbv <;> rfl) (by cbv <;> rfl) ?_
    refine AnyE.run tok hO (by kernel_rfl) (by cbv <;> rfl) (by trivial) ?_
    refine AnyE.apply (c := .yld y) (args := [truE (cutF i nums) nw (i - nw)]) (by cbv <;> rfl) (by cbv <;> rfl) hs fun v st' hk => ?_
    rcases hk with ⟨rfl, nums2, h2, n2, hn2, hst, hk⟩ | ⟨rfl, nums2, h2, n2, hst, hk⟩
    · obtain ⟨G3, hG3⟩ : ∃ G, flatG 1 (intC nums2) i = G := ⟨_, rfl⟩
      rw [hG3] at hst
      subst hst
      refine AnyE.run tok hO (by kernel_rfl) (by cbv <;> rfl) (by trivial) ?_
      exact SW.ret ⟨_, _, rfl, rfl, .inl ⟨rfl, nums2, _, _, fun _ _ => by rw [hn2], by rw [hG3]; rfl, hk⟩⟩
    · obtain ⟨G3, hG3⟩ : ∃ G, flatG 1 (intC nums2) i = G := ⟨_, rfl⟩
      rw [hG3] at hst
      subst hst
      refine AnyE.run tok hO (by kernel_rfl) (by cbv <;> rfl) (by trivial) ?_
      exact SW.ret ⟨_, _, rfl, rfl, .inr ⟨rfl, nums2, _, _, by rw [hG3]; rfl, hk⟩⟩
  | j + 1, i, nums, a, h, n, hij, hin, hall, hK => by
    have ih := choose_ok ok K next stop y N nw lo hi hN h0 hnw hb step j (i + 1)
    obtain ⟨O, hO⟩ : ∃ O : Ar, O = std := ⟨_, rfl⟩
    have hnat : ∀ i : Nat, O.nat (Int.ofNat i) = i := fun i => by subst hO; rfl
    have hiN : i < N := by omega
    obtain ⟨b1, b2, b3⟩ := hb i hiN
    have hi0 : (0 : Int) ≤ Int.ofNat i := Int.natCast_nonneg i
    have hii : 0 ≤ Int.ofNat i ∧ Int.ofNat i < (N : Int) := ⟨hi0, Int.ofNat_lt.2 hiN⟩
    refine callW_of_body tok Try.func123 rfl ?_
    obtain ⟨G, hG⟩ : ∃ G, flatG 1 (intC nums) N = G := ⟨_, rfl⟩
    rw [hG]
    refine SW.seqRun tok hO (by cbv <;> rfl) (by trivial) ?_
    refine SW.seq ?_
    refine SW.seqRun tok hO (by cbv <;> rfl) (by trivial) ?_
    refine SW.condS (by cbv <;> rfl) (fun h1 => ?_) (fun h1 => SW.skip ?_)
    · exfalso
      have : (i : Int) = N := by subst hO; simpa [std] using h1
      omega
    refine SW.seq ?_
    refine SW.seqRun tok hO (by cbv <;> rfl) ?_ ?_
    · exact hii
    refine (SW.block (SW.loop (fun k f st => ∃ (g : Nat → AV) (c : Nat) (nums' : Nat → Int) (h' : Hp) (n' : Nat), f = ⟨⟨47, g⟩, []⟩ ∧ AllP (fun p => g p.1 = p.2) [(0, iV i), (1, .ptr 50 0), (2, .ptr 49 0), (3, .ptr 53 0), (4, .ptr 51 0), (5, .ptr 54 0), (8, iV (lo i + c))] ∧ st = ⟨chH y N nw lo hi (flatG 1 (intC nums') N) h', n'⟩ ∧
      (∀ m, m < i → nums' m = nums m) ∧ K (foldV (fun v a => foldE next N lo hi j (i + 1) (setI nums i v) a) (lo i) c a) h' n' ∧ lo i + c ≤ hi i + 1 ∧ k = (hi i + 1 - (lo i + c)).toNat) (hi i + 1 - (lo i + (0 : Nat))).toNat ?_ ?_))
    · refine ⟨_, 0, nums, h, n, rfl, ⟨rfl, rfl, rfl, rfl, rfl, rfl, ?_, trivial⟩, by rw [hG]; rfl, fun _ _ => rfl, hK, by omega, rfl⟩
      show iV (lo (O.nat (Int.ofNat i))) = iV (lo i + (0 : Nat))
      rw [hnat]; simp
    · rintro k f st ⟨g, c, nums', h', n', rfl, ⟨g0, g1, g2, g3, g4, g5, g8, _⟩, rfl, hag, hK', hle, rfl⟩
      simp only at g0 g1 g2 g3 g4 g5 g8
      rw [← updT_self g0, ← updT_self g1, ← updT_self g2, ← updT_self g3, ← updT_self g4, ← updT_self g5, ← updT_self g8]
      obtain ⟨G1, hG1⟩ : ∃ G, flatG 1 (intC nums') N = G := ⟨_, rfl⟩
      have hlen : G1.length = N * 1 := by rw [← hG1, flatG_length]
      obtain ⟨v, hv⟩ : ∃ v, lo i + (c : Int) = v := ⟨_, rfl⟩
      rw [hG1, hv]
      refine SW.seq ?_
      refine SW.seqRun tok hO (by cbv <;> rfl) ?_ ?_
      · exact hii
      refine SW.condS (by cbv <;> rfl) (fun h3 => SW.skip ?_) (fun h3 => SW.exit ?_)
      rotate_left
      · have hgt : hi i < v := by
          have : hi (O.nat (Int.ofNat i)) < v := by subst hO; simpa [std] using h3
          rwa [hnat] at this
        have hc : c = (hi i - lo i + 1).toNat := by omega
        refine SW.seqRun tok hO (by cbv <;> rfl) (by trivial) ?_
        refine SW.ret ⟨_, _, rfl, rfl, .inl ⟨rfl, nums', h', n', hag, by rw [hG1]; rfl, ?_⟩⟩
        rw [hc] at hK'; exact hK'
      · have hvle : v ≤ hi i := by
          have : v ≤ hi (O.nat (Int.ofNat i)) := by subst hO; simpa [std] using h3
          rwa [hnat] at this
        refine SW.seq (SW.block ?_)
        refine SW.seq (SW.runN tok hO 3 (by cbv <;> rfl) (by trivial) ?_)
        refine OpsW.idxSl tok (n := i) (by cbv <;> rfl) (by kernel_rfl) hiN fun q hq => ?_
        refine OpsW.stoI tok (id := 52) (G := G1) (by cbv <;> rfl) (by kernel_rfl) (by rfl) (by omega) fun G2 hG2 => OpsW.nil ?_
        have hGG : G2 = flatG 1 (intC (setI nums' i v)) N := by
          rw [hG2, ← hG1, hq, show 0 + i * 1 = i * 1 + 0 by omega]
          exact flatG_set hiN (by omega) (show iV (setI nums' i v i) = _ by rw [setI_self]; rfl) fun p q _ hq hne => by
            have : p ≠ i := fun e => hne ⟨e, by omega⟩
            show iV (setI nums' i v p) = iV (nums' p)
            rw [setI_ne this]
        show SW _ _ _ _ _ ⟨chH y N nw lo hi G2 h', n'⟩
        have hrec := ih (setI nums' i v) _ h' n' (by omega) (fun m hm => by
          by_cases e : m = i
          · subst e; rw [setI_self]; omega
          · rw [setI_ne e, hag m (by omega)]; exact hin m (by omega)) (by
            have hc' := hall c (by omega)
            rw [hv] at hc'
            exact allE_congr ok next N lo hi j (i + 1) _ _ _ (by omega) (fun m hm => by
              by_cases e : m = i
              · subst e; rw [setI_self, setI_self]
              · rw [setI_ne e, setI_ne e, hag m (by omega)]) hc') hK'
        rw [← hGG, ← inc_ok hO (by omega)] at hrec
        refine SW.seqRun tok hO (by cbv <;> rfl) (by trivial) ?_
        refine OpsW.apply (by cbv <;> rfl) (show ApplyW Try.prog chooseV _ _ _ from ⟨en123, hrec⟩) fun w st' hk => ?_
        rcases hk with ⟨rfl, nums2, h2, n2, hag2, hst, hk⟩ | ⟨rfl, nums2, h2, n2, hst, hk⟩ <;> obtain ⟨G3, hG3⟩ : ∃ G, flatG 1 (intC nums2) N = G := ⟨_, rfl⟩ <;> rw [hG3] at hst <;> subst hst
        · refine OpsW.run tok hO (by cbv <;> rfl) (by trivial) ?_
          refine SW.cond (t := false) (by cbv <;> rfl) (SW.skip ?_)
          refine SW.run tok hO (by cbv <;> rfl) (by trivial) ?_
          have hinc : O.bin .add .i64 v 1 = lo i + ((c + 1 : Nat) : Int) := by
            subst hO
            show add64 v 1 = _
            rw [add64_in _ _ (by omega) (by omega)]; omega
          refine ⟨(hi i + 1 - (lo i + ((c + 1 : Nat) : Int))).toNat, by omega, _, c + 1, nums2, h2, n2, rfl, ⟨rfl, rfl, rfl, rfl, rfl, rfl, congrArg (fun z => AV.lit (.int .i64 z)) hinc, trivial⟩, by rw [hG3]; rfl, fun m hm => ?_, ?_, by omega, rfl⟩
          · rw [hag2 m (by omega), setI_ne (by omega), hag m hm]
          · show K (foldE next N lo hi j (i + 1) (setI nums i (lo i + c)) _) h2 n2
            rw [hv, ← foldE_congr next N lo hi j (i + 1) (setI nums' i v) (setI nums i v) _ (by omega) fun m hm => by
              by_cases e : m = i
              · subst e; rw [setI_self, setI_self]
              · rw [setI_ne e, setI_ne e, hag m (by omega)]]
            exact hk
        · refine OpsW.run tok hO (by cbv <;> rfl) (by trivial) ?_
          refine SW.cond (t := true) (by cbv <;> rfl) ?_
          refine SW.seqRun tok hO (by cbv <;> rfl) (by trivial) ?_
          exact SW.ret ⟨_, _, rfl, rfl, .inr ⟨rfl, nums2, _, _, by rw [hG3]; rfl, hk⟩⟩
end
end Go.Fz
namespace Go.Fz
open Go.Proofs
set_option maxRecDepth 100000
def chooseVs : AV := .fn (.func 123) [] [.ptr 51 0, .ptr 49 0, .ptr 53 0, .ptr 50 0, .ptr 54 0]
def chHs (y N nw : Nat) (lo hi : Nat → Int) (G : List AV) (h : Hp) : Hp := (54, .cells none false [chooseVs]) :: (53, .cells none false [.sl 52 0 N 1 true]) :: (52, .cells none false G) :: (51, .cells none false [.isl N 2 false (rngC lo hi)]) :: (50, .cells none false [iV nw]) :: (49, .cells none false [.yld y]) :: h
def chOs (y N nw : Nat) (lo hi : Nat → Int) (G : List AV) : Hp := [(54, .cells none false [chooseVs]), (53, .cells none false [.sl 52 0 N 1 true]), (52, .cells none false G), (51, .cells none false [.isl N 2 false (rngC lo hi)]), (50, .cells none false [iV nw]), (49, .cells none false [.yld y])]
section
variable {α : Type}
def chQs (K : α → Hp → Nat → Prop) (stop : Hp → Nat → Prop) (y N nw : Nat) (lo hi : Nat → Int) (A : (Nat → Int) → Prop) (a : α) (v : AV) (st' : St) : Prop :=
  (v = .lit (.bool true) ∧ ∃ nums h n, A nums ∧ st' = ⟨chHs y N nw lo hi (flatG 1 (intC nums) N) h, n⟩ ∧ K a h n) ∨ (v = .lit (.bool false) ∧ ∃ nums h n, st' = ⟨chHs y N nw lo hi (flatG 1 (intC nums) N) h, n⟩ ∧ stop h n)
set_option maxHeartbeats 8000000 in
theorem choose_oks (ok : α → Prop) (K : α → Hp → Nat → Prop) (next : α → (Nat → Int) → α) (stop : Hp → Nat → Prop) (y N nw : Nat) (lo hi : Nat → Int) (hN : N < 100) (h0 : 0 < nw) (hnw : nw ≤ N) (hb : ∀ m, m < N → 0 ≤ lo m ∧ lo m ≤ hi m ∧ hi m ≤ 5000)
    (step : ∀ nums a h n, (∀ m, m < N → lo m ≤ nums m ∧ nums m ≤ hi m) → ok a → K a h n → YieldW Try.prog y [truE (cutF N nums) nw (N - nw)] ⟨chHs y N nw lo hi (flatG 1 (intC nums) N) h, n⟩ (chQs K stop y N nw lo hi (fun f => f = nums) (next a (cutF N nums)))) :
    ∀ j i nums a h n, i + j = N → (∀ m, m < i → lo m ≤ nums m ∧ nums m ≤ hi m) → allE ok next N lo hi j i nums a → K a h n →
      CallW Try.prog 123 [iV i, .ptr 51 0, .ptr 49 0, .ptr 53 0, .ptr 50 0, .ptr 54 0] ⟨chHs y N nw lo hi (flatG 1 (intC nums) N) h, n⟩ (chQs K stop y N nw lo hi (fun f => ∀ m, m < i → f m = nums m) (foldE next N lo hi j i nums a))
  | 0, i, nums, a, h, n, hij, hin, hok, hK => by
    obtain ⟨O, hO⟩ : ∃ O : Ar, O = std := ⟨_, rfl⟩
    obtain rfl : i = N := by omega
    have hs := step nums a h n hin hok hK
    obtain ⟨G, hG⟩ : ∃ G, flatG 1 (intC nums) i = G := ⟨_, rfl⟩
    rw [hG] at hs ⊢
    refine callW_of_body tok Try.func123 rfl ?_
    refine SW.seqRun tok hO (by cbv <;> rfl) (by trivial) ?_
    refine SW.seq ?_
    refine SW.seqRun tok hO (by cbv <;> rfl) (by trivial) ?_
    refine SW.condS (by cbv <;> rfl) (fun h1 => ?_) (fun h1 => ?_)
    rotate_left
    · exfalso
      subst hO; simp [std] at h1
    have c1 := fun (b : Bool) => clone_ok (ex := b) (off := 0) (n := nw) (N := i) (fl := nums) (id := 52) (fm := none) (ro := false) (G := G) (r := intsV nw false (cutF i nums)) (st := ⟨chHs y i nw lo hi G h, n⟩) (by rfl) hG (by omega) (by omega) (Eqv.isl rfl fun p q hp _ => Eqv.of (by show iV (nums (0 + p)) = iV (cutF i nums p); rw [Nat.zero_add]; unfold cutF; rw [if_pos (by omega)])) (intsV_below _ _ _)
    have c2 : ∀ q2 b, (q2 = nw ∨ (nw = i ∧ q2 = 0)) → CallW Try.prog 103 [.sl 52 q2 (i - nw) 1 b] ⟨chHs y i nw lo hi G h, n⟩ (fun v st' => v = intsV (i - nw) false (fun p => cutF i nums (nw + p)) ∧ st' = ⟨chHs y i nw lo hi G h, n⟩) := fun q2 b hq =>
      clone_ok (off := q2) (n := i - nw) (N := i) (fl := nums) (id := 52) (fm := none) (ro := false) (G := G) (r := intsV (i - nw) false (fun p => cutF i nums (nw + p))) (by rfl) hG (by omega) (by omega) (by
        rcases hq with rfl | ⟨hq, _⟩
        · exact Eqv.isl rfl fun p q hp _ => Eqv.of (by show iV (nums (q2 + p)) = iV (cutF i nums (q2 + p)); unfold cutF; rw [if_pos (by omega)])
        · exact Eqv.isl rfl fun p _ hp _ => absurd hp (by omega)) (intsV_below _ _ _)
    refine SW.seqRunD tok mixed hO (by kernel_rfl) (by cbv <;> rfl) (by trivial) ?_
    refine AnyE.cut tok 3 (l := 0) (u := nw) (by kernel_rfl) (by cbv <;> rfl) rfl natOr_lo (by kernel_rfl) (by omega) (by omega) (.inl (by omega)) (by cbv <;> rfl) fun q1 b1 hq1 => ?_
    obtain rfl : q1 = 0 := by omega
    refine AnyE.run tok hO (by kernel_rfl) (by cbv <;> rfl) (by trivial) ?_
    refine AnyE.cut tok 7 (l := nw) (u := i) (by kernel_rfl) (by cbv <;> rfl) natOr_lo rfl (by kernel_rfl) (by omega) (by omega) (by by_cases hq : nw < i; exact .inl hq; exact .inr ⟨by omega, rfl⟩) (by cbv <;> rfl) fun q2 b2 hq2 => ?_
    refine AnyE.callS en103 (c1 b1) (by cbv <;> rfl) (by cbv <;> rfl) ?_
    refine AnyE.run tok hO (by kernel_rfl) (by cbv <;> rfl) (by trivial) ?_
    refine AnyE.callS en103 (c2 q2 b2 (by omega)) (by cbv <;> rfl) (by cbv <;> rfl) ?_
    refine AnyE.run tok hO (by kernel_rfl) (by cbv <;> rfl) (by trivial) ?_
    refine AnyE.apply (c := .yld y) (args := [truE (cutF i nums) nw (i - nw)]) (by cbv <;> rfl) (by cbv <;> rfl) hs fun v st' hk => ?_
    rcases hk with ⟨rfl, nums2, h2, n2, hn2, hst, hk⟩ | ⟨rfl, nums2, h2, n2, hst, hk⟩
    · obtain ⟨G3, hG3⟩ : ∃ G, flatG 1 (intC nums2) i = G := ⟨_, rfl⟩
      rw [hG3] at hst
      subst hst
      refine AnyE.run tok hO (by kernel_rfl) (by cbv <;> rfl) (by trivial) ?_
      exact SW.ret ⟨_, _, rfl, rfl, .inl ⟨rfl, nums2, _, _, fun _ _ => by rw [hn2], by rw [hG3]; rfl, hk⟩⟩
    · obtain ⟨G3, hG3⟩ : ∃ G, flatG 1 (intC nums2) i = G := ⟨_, rfl⟩
      rw [hG3] at hst
      subst hst
      refine AnyE.run tok hO (by kernel_rfl) (by cbv <;> rfl) (by trivial) ?_
      exact SW.ret ⟨_, _, rfl, rfl, .inr ⟨rfl, nums2, _, _, by rw [hG3]; rfl, hk⟩⟩
  | j + 1, i, nums, a, h, n, hij, hin, hall, hK => by
    have ih := choose_oks ok K next stop y N nw lo hi hN h0 hnw hb step j (i + 1)
    obtain ⟨O, hO⟩ : ∃ O : Ar, O = std := ⟨_, rfl⟩
    have hnat : ∀ i : Nat, O.nat (Int.ofNat i) = i := fun i => by subst hO; rfl
    have hiN : i < N := by omega
    obtain ⟨b1, b2, b3⟩ := hb i hiN
    have hi0 : (0 : Int) ≤ Int.ofNat i := Int.natCast_nonneg i
    have hii : 0 ≤ Int.ofNat i ∧ Int.ofNat i < (N : Int) := ⟨hi0, Int.ofNat_lt.2 hiN⟩
    refine callW_of_body tok Try.func123 rfl ?_
    obtain ⟨G, hG⟩ : ∃ G, flatG 1 (intC nums) N = G := ⟨_, rfl⟩
    rw [hG]
    refine SW.seqRun tok hO (by cbv <;> rfl) (by trivial) ?_
    refine SW.seq ?_
    refine SW.seqRun tok hO (by cbv <;> rfl) (by trivial) ?_
    refine SW.condS (by cbv <;> rfl) (fun h1 => ?_) (fun h1 => SW.skip ?_)
    · exfalso
      have : (i : Int) = N := by subst hO; simpa [std] using h1
      omega
    refine SW.seq ?_
    refine SW.seqRun tok hO (by cbv <;> rfl) ?_ ?_
    · exact hii
    refine (SW.block (SW.loop (fun k f st => ∃ (g : Nat → AV) (c : Nat) (nums' : Nat → Int) (h' : Hp) (n' : Nat), f = ⟨⟨47, g⟩, []⟩ ∧ AllP (fun p => g p.1 = p.2) [(0, iV i), (1, .ptr 51 0), (2, .ptr 49 0), (3, .ptr 53 0), (4, .ptr 50 0), (5, .ptr 54 0), (8, iV (lo i + c))] ∧ st = ⟨chHs y N nw lo hi (flatG 1 (intC nums') N) h', n'⟩ ∧
      (∀ m, m < i → nums' m = nums m) ∧ K (foldV (fun v a => foldE next N lo hi j (i + 1) (setI nums i v) a) (lo i) c a) h' n' ∧ lo i + c ≤ hi i + 1 ∧ k = (hi i + 1 - (lo i + c)).toNat) (hi i + 1 - (lo i + (0 : Nat))).toNat ?_ ?_))
    · refine ⟨_, 0, nums, h, n, rfl, ⟨rfl, rfl, rfl, rfl, rfl, rfl, ?_, trivial⟩, by rw [hG]; rfl, fun _ _ => rfl, hK, by omega, rfl⟩
      show iV (lo (O.nat (Int.ofNat i))) = iV (lo i + (0 : Nat))
      rw [hnat]; simp
    · rintro k f st ⟨g, c, nums', h', n', rfl, ⟨g0, g1, g2, g3, g4, g5, g8, _⟩, rfl, hag, hK', hle, rfl⟩
      simp only at g0 g1 g2 g3 g4 g5 g8
      rw [← updT_self g0, ← updT_self g1, ← updT_self g2, ← updT_self g3, ← updT_self g4, ← updT_self g5, ← updT_self g8]
      obtain ⟨G1, hG1⟩ : ∃ G, flatG 1 (intC nums') N = G := ⟨_, rfl⟩
      have hlen : G1.length = N * 1 := by rw [← hG1, flatG_length]
      obtain ⟨v, hv⟩ : ∃ v, lo i + (c : Int) = v := ⟨_, rfl⟩
      rw [hG1, hv]
      refine SW.seq ?_
      refine SW.seqRun tok hO (by cbv <;> rfl) ?_ ?_
      · exact hii
      refine SW.condS (by cbv <;> rfl) (fun h3 => SW.skip ?_) (fun h3 => SW.exit ?_)
      rotate_left
      · have hgt : hi i < v := by
          have : hi (O.nat (Int.ofNat i)) < v := by subst hO; simpa [std] using h3
          rwa [hnat] at this
        have hc : c = (hi i - lo i + 1).toNat := by omega
        refine SW.seqRun tok hO (by cbv <;> rfl) (by trivial) ?_
        refine SW.ret ⟨_, _, rfl, rfl, .inl ⟨rfl, nums', h', n', hag, by rw [hG1]; rfl, ?_⟩⟩
        rw [hc] at hK'; exact hK'
      · have hvle : v ≤ hi i := by
          have : v ≤ hi (O.nat (Int.ofNat i)) := by subst hO; simpa [std] using h3
          rwa [hnat] at this
        refine SW.seq (SW.block ?_)
        refine SW.seq (SW.runN tok hO 3 (by cbv <;> rfl) (by trivial) ?_)
        refine OpsW.idxSl tok (n := i) (by cbv <;> rfl) (by kernel_rfl) hiN fun q hq => ?_
        refine OpsW.stoI tok (id := 52) (G := G1) (by cbv <;> rfl) (by kernel_rfl) (by rfl) (by omega) fun G2 hG2 => OpsW.nil ?_
        have hGG : G2 = flatG 1 (intC (setI nums' i v)) N := by
          rw [hG2, ← hG1, hq, show 0 + i * 1 = i * 1 + 0 by omega]
          exact flatG_set hiN (by omega) (show iV (setI nums' i v i) = _ by rw [setI_self]; rfl) fun p q _ hq hne => by
            have : p ≠ i := fun e => hne ⟨e, by omega⟩
            show iV (setI nums' i v p) = iV (nums' p)
            rw [setI_ne this]
        show SW _ _ _ _ _ ⟨chHs y N nw lo hi G2 h', n'⟩
        have hrec := ih (setI nums' i v) _ h' n' (by omega) (fun m hm => by
          by_cases e : m = i
          · subst e; rw [setI_self]; omega
          · rw [setI_ne e, hag m (by omega)]; exact hin m (by omega)) (by
            have hc' := hall c (by omega)
            rw [hv] at hc'
            exact allE_congr ok next N lo hi j (i + 1) _ _ _ (by omega) (fun m hm => by
              by_cases e : m = i
              · subst e; rw [setI_self, setI_self]
              · rw [setI_ne e, setI_ne e, hag m (by omega)]) hc') hK'
        rw [← hGG, ← inc_ok hO (by omega)] at hrec
        refine SW.seqRun tok hO (by cbv <;> rfl) (by trivial) ?_
        refine OpsW.apply (by cbv <;> rfl) (show ApplyW Try.prog chooseVs _ _ _ from ⟨en123, hrec⟩) fun w st' hk => ?_
        rcases hk with ⟨rfl, nums2, h2, n2, hag2, hst, hk⟩ | ⟨rfl, nums2, h2, n2, hst, hk⟩ <;> obtain ⟨G3, hG3⟩ : ∃ G, flatG 1 (intC nums2) N = G := ⟨_, rfl⟩ <;> rw [hG3] at hst <;> subst hst
        · refine OpsW.run tok hO (by cbv <;> rfl) (by trivial) ?_
          refine SW.cond (t := false) (by cbv <;> rfl) (SW.skip ?_)
          refine SW.run tok hO (by cbv <;> rfl) (by trivial) ?_
          have hinc : O.bin .add .i64 v 1 = lo i + ((c + 1 : Nat) : Int) := by
            subst hO
            show add64 v 1 = _
            rw [add64_in _ _ (by omega) (by omega)]; omega
          refine ⟨(hi i + 1 - (lo i + ((c + 1 : Nat) : Int))).toNat, by omega, _, c + 1, nums2, h2, n2, rfl, ⟨rfl, rfl, rfl, rfl, rfl, rfl, congrArg (fun z => AV.lit (.int .i64 z)) hinc, trivial⟩, by rw [hG3]; rfl, fun m hm => ?_, ?_, by omega, rfl⟩
          · rw [hag2 m (by omega), setI_ne (by omega), hag m hm]
          · show K (foldE next N lo hi j (i + 1) (setI nums i (lo i + c)) _) h2 n2
            rw [hv, ← foldE_congr next N lo hi j (i + 1) (setI nums' i v) (setI nums i v) _ (by omega) fun m hm => by
              by_cases e : m = i
              · subst e; rw [setI_self, setI_self]
              · rw [setI_ne e, setI_ne e, hag m (by omega)]]
            exact hk
        · refine OpsW.run tok hO (by cbv <;> rfl) (by trivial) ?_
          refine SW.cond (t := true) (by cbv <;> rfl) ?_
          refine SW.seqRun tok hO (by cbv <;> rfl) (by trivial) ?_
          exact SW.ret ⟨_, _, rfl, rfl, .inr ⟨rfl, nums2, _, _, by rw [hG3]; rfl, hk⟩⟩
end
end Go.Fz
namespace Go.Fz
set_option maxRecDepth 100000
section
variable {P : Program} {T : Ti}
def PickAll (P : Program) (T : Ti) (ops : Array Oper) (M : List Nat) (rd : Option Nat) (K : Fm → St → Prop) (fuel : Nat) (pend : List (Nat × AV)) (listed : Array Bool) (f : Fm) (st : St) : List Nat → Prop
  | [] => True
  | j :: r => PickE P T ops M rd K fuel pend listed f st j ∧ PickAll P T ops M rd K fuel pend listed f st r
theorem PickAll.ok {ops : Array Oper} {M : List Nat} {rd : Option Nat} {K : Fm → St → Prop} {fuel : Nat} {pend : List (Nat × AV)} {listed : Array Bool} {f : Fm} {st : St} : ∀ {l : List Nat}, PickAll P T ops M rd K fuel pend listed f st l → ∀ j ∈ l, PickE P T ops M rd K fuel pend listed f st j
  | [], _, j, h => by cases h
  | _ :: _, h, j, hj => by
    rcases List.mem_cons.1 hj with rfl | hj
    · exact h.1
    · exact h.2.ok j hj
theorem AnyE.many {ops : Array Oper} {M : List Nat} {rd : Option Nat} {K : Fm → St → Prop} {fuel : Nat} {pend : List (Nat × AV)} {listed : Array Bool} {f : Fm} {st : St} (rs : List Nat) (hr : Region.ready .any ops listed = rs) (hne : rs.isEmpty = false)
    (h : PickAll P T ops M rd K fuel pend listed f st rs) : AnyE P T ops M rd K (fuel + 1) pend listed f st := fun hc hpl hpo => by
  refine AnyD.all hpo hr (by intro e; rw [e] at hne; cases hne) fun k hk => ?_
  have hrm : k ∈ Region.ready .any ops listed := by rw [hr]; exact hk
  obtain ⟨o, pend', hj, hd, h⟩ := h.ok k hk
  refine ⟨o, hj, h.mono fun f' st' ⟨⟨v, hv⟩, hp, hE⟩ => ⟨v, hv, ?_⟩⟩
  rw [hd]
  exact hE (hc.set hrm) (fun p hp => by
    rw [← hd] at hp
    exact getD_set_true (hpl p (List.mem_filter.1 hp).1)) hp
theorem PickE.callQ {ops : Array Oper} {M : List Nat} {rd : Option Nat} {K : Fm → St → Prop} {fuel : Nat} {pend pend' : List (Nat × AV)} {listed : Array Bool} {f : Fm} {st : St} {j : Nat} {g : FuncId} {args : List AV} {r : AV} (hp : Pure P g args r)
    (hd : dropP M j pend = pend') (hc : callAt ops j f = some (g, args)) (hk : AllP (fun p => lightV T ops st.h (putAt ops j f r) p.1 = some p.2) pend') (h : AnyE P T ops M rd K fuel pend' (listed.setIfInBounds j true) (putAt ops j f r) st) : PickE P T ops M rd K fuel pend listed f st j := by
  obtain ⟨o', first, caps, az, ho', hw, hcc, ha, hput⟩ := callAt_ok hc
  subst ha
  rw [hput] at hk h
  exact ⟨o', pend', ho', hd, OpsW.pure hp ho' hw hcc (.nil ⟨⟨_, rfl⟩, (show PendOk T ops pend' (f.put o'.dst r) st.h from fun p hpm => LV.of (hk.ok p hpm)), h⟩)⟩
theorem PickE.callE {ops : Array Oper} {M : List Nat} {rd : Option Nat} {K : Fm → St → Prop} {fuel : Nat} {pend pend' : List (Nat × AV)} {listed : Array Bool} {f : Fm} {st : St} {j : Nat} {g : FuncId} {args : List AV} {k : AV → St → Prop} (he : Enters P g) (hp : CallW P g args st k)
    (hd : dropP M j pend = pend') (hc : callAt ops j f = some (g, args)) (h : ∀ r st', k r st' → AllP (fun p => lightV T ops st'.h (putAt ops j f r) p.1 = some p.2) pend' ∧ AnyE P T ops M rd K fuel pend' (listed.setIfInBounds j true) (putAt ops j f r) st') : PickE P T ops M rd K fuel pend listed f st j := by
  obtain ⟨o', first, caps, az, ho', hw, hcc, ha, hput⟩ := callAt_ok hc
  subst ha
  refine ⟨o', pend', ho', hd, OpsW.call ho' hw hcc (show ApplyW P (.fn (.func g) first caps) az st _ from ⟨he, hp.mono fun v st' hk => .nil ?_⟩)⟩
  obtain ⟨h1, h2⟩ := h v st' hk
  rw [hput] at h1 h2
  exact ⟨⟨_, rfl⟩, (show PendOk T ops pend' (f.put o'.dst v) st'.h from fun p hpm => LV.of (h1.ok p hpm)), h2⟩
theorem SW.ren {rd : Option Nat} {c : Code} {Q : Exit → Fm → St → Prop} {f : Fm} {st : St} (h : SW P rd c (fun e f1 st1 => ∃ ρ f2 st2, WeakR st.n ρ f1 st1 f2 st2 ∧ Q e f2 st2) f st) : SW P rd c Q f st := by
  intro φ w a n h1 h2 h3
  refine wpIn_mono (h φ w a n h1 h2 h3) fun e a' w' hl => ?_
  obtain ⟨f1, st1, φ1, ⟨ρ, f2, st2, hw, hq⟩, he, hr, ha, hf⟩ := hl
  obtain ⟨k1, k2, k3⟩ := hw.ok hr ha
  refine ⟨f2, st2, renF φ1 ρ st2.n, hq, ⟨?_, fun id hid => ?_, he.z⟩, k1, k2, hf.trans k3⟩
  · rw [h2.n]; exact hw.lo
  · show φ1.f (ρ id) = _
    rw [hw.idn id (by rw [← h2.n]; exact hid)]
    exact he.f id hid
def tabR : List (Nat × Nat) → Nat → Nat
  | [], j => j
  | (a, b) :: r, j => match Nat.beq a j with
    | true => b
    | false => tabR r j
theorem tabR_id {n : Nat} : ∀ {l : List (Nat × Nat)}, (l.all fun p => Nat.ble n p.1) = true → ∀ j, j < n → tabR l j = j
  | [], _, _, _ => rfl
  | (a, b) :: r, h, j, hj => by
    simp only [List.all_cons, Bool.and_eq_true] at h
    have : n ≤ a := Nat.le_of_ble_eq_true h.1
    unfold tabR
    cases hb : Nat.beq a j with
    | true => have := Nat.eq_of_beq_eq_true hb; omega
    | false => exact tabR_id h.2 j hj
theorem WeakR.tab {n0 : Nat} {tb : List (Nat × Nat)} {f1 : Fm} {st1 : St} {l : List (Nat × AV)} {len : Nat} {dm : List Nat} {h2 : Hp} {n2 : Nat} (e1 : len = f1.ts.len) (e2 : dm = f1.dm) (e3 : ∀ id ∈ dm, id < n0) (hid : (tb.all fun p => Nat.ble n0 p.1) = true) (lo : n0 ≤ n2)
    (hinj : (h2.all fun p => h2.all fun q => !(Nat.beq (tabR tb p.1) (tabR tb q.1)) || Nat.beq p.1 q.1) = true)
    (get : AllP (fun p => RenV (tabR tb) n2 p.2 (f1.ts.get p.1)) l) (obj : AllP (fun p => p.1 < n2 ∧ ∃ o1, st1.h.get (tabR tb p.1) = some o1 ∧ RenO (tabR tb) n2 p.2 o1 ∧ o1.fam = none) h2) : WeakR n0 (tabR tb) f1 st1 ⟨⟨len, getT l⟩, dm⟩ ⟨h2, n2⟩ := by
  refine WeakR.of (m := n2) e1 e2 e3 (tabR_id hid) lo (fun p hp => get.ok p hp) (fun p hp => ?_) (inj_of hinj)
  obtain ⟨h1, o1, h3, h4, h5⟩ := obj.ok p hp
  exact ⟨h1, o1, h3, h4, .inr h5⟩
end
def bodyF (f : Func) : Code := match f.body with
  | some c => c
  | none => .skip
def restC : Nat → Code → Code
  | 0, c => c
  | k + 1, .seq _ y => restC k y
  | _ + 1, c => c
def nthC (k : Nat) (c : Code) : Code := match restC k c with
  | .seq x _ => x
  | c => c
end Go.Fz
namespace Go.Fz
variable {P : Program} {T : Ti}
inductive RenX (ρ : Nat → Nat) (n : Nat) : AObj → AObj → Prop
  | base {o2 o1 : AObj} (h : RenO ρ n o2 o1) : RenX ρ n o2 o1
  | map {es : List (AV × AV × Nat)} {clock : Nat} (h : ∀ x ∈ es, Below 0 x.1 ∧ Below 0 x.2.1) : RenX ρ n (.map es clock) (.map es clock)
theorem RenX.own {ρ : Nat → Nat} {n : Nat} {o2 o1 : AObj} (h : RenX ρ n o2 o1) : o2.own = o1.own := by
  cases h with
  | base h => exact h.own
  | map _ => rfl
theorem RenX.fam {ρ : Nat → Nat} {n : Nat} {o2 o1 : AObj} (h : RenX ρ n o2 o1) : o2.fam = none := by
  cases h with
  | base h => cases h <;> rfl
  | map _ => rfl
theorem ObjR.renX {φ : Fi} {w : World} {ρ : Nat → Nat} {n id : Nat} {o2 o1 : AObj} (h : RenX ρ n o2 o1) (ho : ObjR φ w (ρ id) o1) : ObjR (renF φ ρ n) w id o2 := by
  cases h with
  | base h => exact ho.ren h
  | map h =>
    obtain ⟨ces, h1, h2, h3⟩ := ho
    refine ⟨ces, h1, h2, fun i x hx => ?_⟩
    obtain ⟨e, k1, k2, k3, k4⟩ := h3 i x hx
    obtain ⟨b1, b2⟩ := h x (List.mem_of_getElem? hx)
    exact ⟨e, k1, RenV.closed b1 _ _ k2, RenV.closed b2 _ _ k3, k4⟩
structure WeakX (ρ : Nat → Nat) (st1 st2 : St) : Prop where
  obj : ∀ id o, st2.h.get id = some o → id < st2.n ∧ ∃ o1, st1.h.get (ρ id) = some o1 ∧ RenX ρ st2.n o o1
  sep : ∀ i j oi oj, st2.h.get i = some oi → st2.h.get j = some oj → i ≠ j → ∀ pi pj, st1.h.get (ρ i) = some pi → st1.h.get (ρ j) = some pj → ρ i ≠ ρ j ∧ ¬ Mates pi pj
theorem WeakX.ok {ρ : Nat → Nat} {st1 st2 : St} (hw : WeakX ρ st1 st2) {φ : Fi} {w : World} (hr : Rel φ st1 w) : Rel (renF φ ρ st2.n) st2 w ∧ Fr φ st1 w (renF φ ρ st2.n) st2 w := by
  have hown : ∀ k, Owns (renF φ ρ st2.n) st2 k → Owns φ st1 k := fun k ⟨id, o, h, ho, hb⟩ => by
    obtain ⟨_, o1, h1, h2⟩ := hw.obj id o h
    exact ⟨ρ id, o1, h1, by rw [← h2.own]; exact ho, hb⟩
  refine ⟨⟨rfl, fun id o h => (hw.obj id o h).1, fun id o h => ?_, fun id o h => ?_, fun i j oi oj hi hj hij hio hb => ?_, fun id o f h hf => ?_, fun b c hb => ?_⟩,
    ⟨rfl, rfl, rfl, Nat.le_refl _, fun _ _ _ => rfl, fun k hk => .inl (hown k hk), fun b c hb => .inl hb⟩⟩
  · obtain ⟨_, o1, h1, _⟩ := hw.obj id o h
    exact hr.blk _ _ h1
  · obtain ⟨_, o1, h1, h2⟩ := hw.obj id o h
    exact (hr.obj _ _ h1).renX h2
  · exfalso
    obtain ⟨_, pi, h1, h2⟩ := hw.obj i oi hi
    obtain ⟨_, pj, h3, h4⟩ := hw.obj j oj hj
    obtain ⟨k1, k2⟩ := hw.sep i j oi oj hi hj hij pi pj h1 h3
    exact k2 (hr.sep (ρ i) (ρ j) pi pj h1 h3 k1 (by rw [← h2.own]; exact hio) hb).1
  · obtain ⟨_, o1, h1, h2⟩ := hw.obj id o h
    rw [h2.fam] at hf; cases hf
  · obtain ⟨h1, h2, h3⟩ := hr.froz b c hb
    refine ⟨h1, h2, fun id o h ho => ?_⟩
    obtain ⟨_, o1, h4, h5⟩ := hw.obj id o h
    exact h3 _ _ h4 (by rw [← h5.own]; exact ho)
def padF (φ : Fi) (f : Nat → Loc) (n : Nat) : Fi := ⟨fun j => if j < φ.n then φ.f j else f j, n, φ.z⟩
theorem padF_ext (φ : Fi) (f : Nat → Loc) {n : Nat} (h : φ.n ≤ n) : Ext φ (padF φ f n) := ⟨h, fun id hid => if_pos hid, fun _ _ hb => hb⟩
theorem Rel.pad {φ : Fi} {st : St} {w : World} (hr : Rel φ st w) (f : Nat → Loc) {n : Nat} (h : st.n ≤ n) : Rel (padF φ f n) ⟨st.h, n⟩ w ∧ Fr φ st w (padF φ f n) ⟨st.h, n⟩ w := by
  have he := padF_ext φ f (n := n) (by rw [hr.n]; exact h)
  have hf : ∀ id o, st.h.get id = some o → (padF φ f n).f id = φ.f id := fun id o ho => he.f id (by rw [hr.n]; exact hr.lt id o ho)
  refine ⟨⟨rfl, fun id o ho => Nat.lt_of_lt_of_le (hr.lt id o ho) h, fun id o ho => by rw [hf id o ho]; exact hr.blk id o ho, fun id o ho => (hr.obj id o ho).same he (by rw [hr.n]; exact hr.lt id o ho) rfl, fun i j oi oj hi hj hij hio hb => ?_, fun id o g ho hg => Nat.lt_of_lt_of_le (hr.fam id o g ho hg) h, fun b c hb => ?_⟩,
    ⟨rfl, rfl, rfl, Nat.le_refl _, fun _ _ _ => rfl, fun k ⟨id, o, ho, hown, hb⟩ => .inl ⟨id, o, ho, hown, by rw [← hf id o ho]; exact hb⟩, fun b c hb => .inl hb⟩⟩
  · rw [hf i oi hi, hf j oj hj] at *
    exact hr.sep i j oi oj hi hj hij hio hb
  · obtain ⟨h1, h2, h3⟩ := hr.froz b c hb
    exact ⟨h1, h2, fun id o ho hown => by rw [hf id o ho]; exact h3 id o ho hown⟩
structure Back (ρ : Nat → Nat) (st1 st2 : St) (k : AV → St → Prop) (v : AV) (st2' : St) : Prop where
  ex : ∃ st1' σ, k v st1' ∧ Below 0 v ∧ st1.n ≤ st1'.n ∧ WeakX σ ⟨st2'.h, st2'.n + st1'.n⟩ st1' ∧ ∀ id, id < st1.n → (σ id = id ∧ ρ id = id ∧ id < st2.n) ∨ σ id = st2'.n + id
theorem CPost.canon {φ : Fi} {st1 st2 : St} {w : World} {ρ : Nat → Nat} (hr : Rel φ st1 w) (hw : WeakX ρ st1 st2) {k2 k : AV → St → Prop} {e : Ending} {w' : World} (h : CPost (renF φ ρ st2.n) st2 w k2 e w') (hk : ∀ v st2', k2 v st2' → Back ρ st1 st2 k v st2') : CPost φ st1 w k e w' := by
  obtain ⟨v, cv, st2', φ2, rfl, hkv, hv, he, hr2, hf⟩ := h
  obtain ⟨st1', σ, hk1, hbv, hn, hx, hσ⟩ := (hk v st2' hkv).ex
  obtain ⟨p1, p2⟩ := hr2.pad (fun j => φ.f (j - st2'.n)) (n := st2'.n + st1'.n) (Nat.le_add_right _ _)
  obtain ⟨q1, q2⟩ := hx.ok p1
  obtain ⟨_, z2⟩ := hw.ok hr
  have hn2 : φ2.n = st2'.n := hr2.n
  refine ⟨v, cv, st1', renF (padF φ2 (fun j => φ.f (j - st2'.n)) (st2'.n + st1'.n)) σ st1'.n, rfl, hk1, ?_, ⟨?_, fun id hid => ?_, fun b c hb => he.z b c hb⟩, q1, (z2.trans hf).trans (p2.trans q2)⟩
  · exact VR.mono (φ := ⟨φ2.f, 0, φ2.z⟩) (φ' := renF (padF φ2 (fun j => φ.f (j - st2'.n)) (st2'.n + st1'.n)) σ st1'.n) ⟨Nat.zero_le _, fun id hid => absurd hid (Nat.not_lt_zero id), fun b c hb => hb⟩ (hbv φ2 cv hv)
  · show φ.n ≤ st1'.n
    rw [hr.n]; exact hn
  · show (if σ id < φ2.n then φ2.f (σ id) else φ.f (σ id - st2'.n)) = φ.f id
    rcases hσ id (by rw [← hr.n]; exact hid) with ⟨h1, h2, h3⟩ | h1
    · rw [h1]
      have hlt : id < φ2.n := Nat.lt_of_lt_of_le h3 he.n
      rw [if_pos hlt, he.f id h3]
      show φ.f (ρ id) = φ.f id
      rw [h2]
    · rw [h1]
      rw [if_neg (by omega), Nat.add_sub_cancel_left]
theorem YieldW.canon {y : Nat} {args : List AV} {st1 st2 : St} {ρ : Nat → Nat} (hy : ρ y = y) (hy2 : y < st2.n) (hargs : ∀ a ∈ args, Below 0 a) (hw : WeakX ρ st1 st2) {k2 k : AV → St → Prop} (h : YieldW P y args st2 k2)
    (hk : ∀ v st2', k2 v st2' → Back ρ st1 st2 k v st2') : YieldW P y args st1 k := fun φ w cargs n hr _ ha => by
  obtain ⟨r1, _⟩ := hw.ok hr
  have ha' : VRL (renF φ ρ st2.n) args cargs := VRL.mono (φ := ⟨φ.f, 0, φ.z⟩) (φ' := renF φ ρ st2.n) ⟨Nat.zero_le _, fun id hid => absurd hid (Nat.not_lt_zero id), fun b c hb => hb⟩ (Below.list hargs ha)
  obtain ⟨fn, tmps, assign, body, h4, h5⟩ := h _ w cargs n r1 hy2 ha'
  have e : (renF φ ρ st2.n).f y = φ.f y := by show φ.f (ρ y) = φ.f y; rw [hy]
  rw [e] at h4 h5
  exact ⟨fn, tmps, assign, body, h4, h5.mono fun _ _ hc => hc.canon hr hw hk⟩
theorem CallW.pad {g : FuncId} {args : List AV} {st : St} {n : Nat} {k : AV → St → Prop} (hn : st.n ≤ n) (h : CallW P g args ⟨st.h, n⟩ k) : CallW P g args st k := fun φ w cargs m hr ha => by
  obtain ⟨p1, p2⟩ := hr.pad φ.f hn
  have he := padF_ext φ φ.f (n := n) (by rw [hr.n]; exact hn)
  refine (h _ w cargs m p1 (ha.mono he)).mono fun e w' hp => ?_
  obtain ⟨v, cv, st', φ', rfl, hk, hv, he', hr', hf⟩ := hp
  exact ⟨v, cv, st', φ', rfl, hk, hv, he.trans he', hr', p2.trans hf⟩
theorem WeakX.of {ρ : Nat → Nat} {st1 : St} {h2 : Hp} {n2 : Nat} (F : Nat → Option Nat) (hF : ∀ i j f, F i = some f → F j = some f → i = j)
    (hinj : ∀ p ∈ h2, ∀ q ∈ h2, ρ p.1 = ρ q.1 → p.1 = q.1) (obj : AllP (fun p => p.1 < n2 ∧ ∃ o1, st1.h.get (ρ p.1) = some o1 ∧ RenX ρ n2 p.2 o1 ∧ o1.fam = F p.1) h2) : WeakX ρ st1 ⟨h2, n2⟩ := by
  have ho := obj.ok
  refine ⟨fun id o h => ?_, fun i j oi oj hi hj hij pi pj h1 h2 => ⟨fun h => hij ?_, fun ⟨f, k1, k2⟩ => ?_⟩⟩
  · obtain ⟨h3, o1, h4, h5, _⟩ := ho _ (Hp.mem_of_get h)
    exact ⟨h3, o1, h4, h5⟩
  · exact hinj _ (Hp.mem_of_get hi) _ (Hp.mem_of_get hj) h
  · obtain ⟨_, o1, h3, _, h4⟩ := ho _ (Hp.mem_of_get hi)
    obtain ⟨_, o2, h5, _, h6⟩ := ho _ (Hp.mem_of_get hj)
    rw [show ρ (i, oi).1 = ρ i from rfl, h1] at h3
    rw [show ρ (j, oj).1 = ρ j from rfl, h2] at h5
    cases h3; cases h5
    exact hij (hF i j f (h4.symm.trans k1) (h6.symm.trans k2))
end Go.Fz
