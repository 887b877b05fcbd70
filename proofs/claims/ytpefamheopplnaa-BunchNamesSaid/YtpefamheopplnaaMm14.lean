/- Own work of the verifier of watercress: FzB13, FzB15, FzI0, FzN1, FzN2, FzC0, FzC1, FzC2, FzC2s, FzI1. -/
import Derived.Test.YtpefamheopplnaaMm13
import Derived.Test.YtpefamheopplnaaMm12
import Derived.Test.YtpefamheopplnaaMm0
import Derived.Test.YtpefamheopplnaaMm7
import Derived.Test.YtpefamheopplnaaMm10
set_option linter.unusedVariables false
set_option linter.unusedSimpArgs false

namespace Go.Fz
open Go.Proofs
set_option maxRecDepth 100000
variable {P : Program} {T : Ti}
def PickE (P : Program) (T : Ti) (ops : Array Oper) (M : List Nat) (rd : Option Nat) (K : Fm → St → Prop) (fuel : Nat) (pend : List (Nat × AV)) (listed : Array Bool) (f : Fm) (st : St) (j : Nat) : Prop :=
  ∃ o pend', ops[j]? = some o ∧ dropP M j pend = pend' ∧ OpsW P rd ops [j] (fun f' st' => (∃ v, f' = f.put o.dst v) ∧ PendOk T ops pend' f' st'.h ∧ AnyE P T ops M rd K fuel pend' (listed.setIfInBounds j true) f' st') f st
theorem PickE.eff (hT : TOk P T) {O : Ar} (hO : O = std) {rd : Option Nat} {ops : Array Oper} {M : List Nat} {K : Fm → St → Prop} {fuel : Nat} {pend pend' : List (Nat × AV)} {listed : Array Bool} {f f' : Fm} {st st' : St} {j : Nat} {cs : List Cond}
    (hd : dropP M j pend = pend') (hR : runO O T ops [j] [] f st = .done cs f' st') (hc : allC cs) (hk : AllP (fun p => lightV T ops st'.h f' p.1 = some p.2) pend') (h : AnyE P T ops M rd K fuel pend' (listed.setIfInBounds j true) f' st') : PickE P T ops M rd K fuel pend listed f st j := by
  obtain ⟨o', v, ho', rfl⟩ := runO_one hR
  exact ⟨o', pend', ho', hd, OpsW.run hT hO (R := .done cs (f.put o'.dst v) st') hR hc ⟨⟨v, rfl⟩, (show PendOk T ops pend' (f.put o'.dst v) st'.h from fun p hp => LV.of (hk.ok p hp)), h⟩⟩
end Go.Fz
namespace Go.Fz
def setI (f : Nat → Int) (w : Nat) (x : Int) (i : Nat) : Int := if i = w then x else f i
theorem setI_self (f : Nat → Int) (w : Nat) (x : Int) : setI f w x w = x := if_pos rfl
theorem setI_ne {f : Nat → Int} {w : Nat} {x : Int} {i : Nat} (h : i ≠ w) : setI f w x i = f i := if_neg h
end Go.Fz
namespace Go.Fz
variable {P : Program} {T : Ti}
structure WeakC (n0 : Nat) (v1 : AV) (st1 : St) (v2 : AV) (st2 : St) : Prop where
  val : v2 = .any ∨ (v2 = v1 ∧ (st2.n = st1.n ∨ Below st2.n v1))
  lo : n0 ≤ st2.n
  hi : st2.n ≤ st1.n
  obj : ∀ id o, st2.h.get id = some o → st1.h.get id = some o ∧ id < st2.n ∧ (st2.n = st1.n ∨ ObjBelow st2.n o)
theorem CPost.weak {φ : Fi} {st : St} {w : World} {k1 k : AV → St → Prop} {e : Ending} {w' : World} (hn : φ.n = st.n) (h : CPost φ st w k1 e w')
    (hk : ∀ v1 st1, k1 v1 st1 → k v1 st1 ∨ ∃ v2 st2, WeakC st.n v1 st1 v2 st2 ∧ k v2 st2) : CPost φ st w k e w' := by
  obtain ⟨v, cv, st', φ', rfl, hkv, hv, he, hr, hf⟩ := h
  rcases hk v st' hkv with h | ⟨v2, st2, hw, h⟩
  · exact ⟨v, cv, st', φ', rfl, h, hv, he, hr, hf⟩
  · have hw0 : Weak st.n ⟨⟨0, fun _ => .any⟩, []⟩ st' ⟨⟨0, fun _ => .any⟩, []⟩ st2 := ⟨rfl, rfl, (fun _ h => nomatch h), fun _ => .inl rfl, hw.lo, hw.hi, hw.obj⟩
    obtain ⟨k1, _, k3⟩ := hw0.ok (a := { tmps := #[], defers := [] }) hr ⟨⟨rfl, fun _ => .any _⟩, rfl, fun _ h => by cases h⟩
    refine ⟨v2, cv, st2, cutN φ' st2.n, rfl, h, ?_, ⟨by rw [hn]; exact hw.lo, he.f, he.z⟩, k1, hf.trans k3⟩
    rcases hw.val with h1 | ⟨h1, h2⟩
    · rw [h1]; exact .any _
    · rw [h1]
      rcases h2 with h2 | h2
      · have hs : cutN φ' st2.n = φ' := by cases φ'; simp only [cutN, h2, ← hr.n]
        rw [hs]; exact hv
      · exact h2 _ _ hv
theorem CallW.weak {g : FuncId} {args : List AV} {st : St} {k1 k : AV → St → Prop} (h : CallW P g args st k1)
    (hk : ∀ v1 st1, k1 v1 st1 → k v1 st1 ∨ ∃ v2 st2, WeakC st.n v1 st1 v2 st2 ∧ k v2 st2) : CallW P g args st k :=
  fun φ w cargs n h1 h2 => (h φ w cargs n h1 h2).mono fun _ _ hc => hc.weak h1.n hk
theorem Hp.get_app : ∀ (R h : Hp) (id : Nat), Hp.get (R ++ h) id = match R.get id with | some o => some o | none => h.get id
  | [], h, id => rfl
  | (i, x) :: r, h, id => by
    by_cases hi : i = id
    · subst hi; simp [Hp.get]
    · simp [Hp.get, hi, Hp.get_app r h id]
theorem Hp.get_appL {R h : Hp} {id : Nat} {o : AObj} (k : R.get id = some o) : Hp.get (R ++ h) id = some o := by rw [Hp.get_app, k]
theorem Hp.get_appR {R h : Hp} {id : Nat} (k : R.get id = none) : Hp.get (R ++ h) id = h.get id := by rw [Hp.get_app, k]
theorem Hp.app_cases {R h : Hp} {id : Nat} {o : AObj} (k : Hp.get (R ++ h) id = some o) : R.get id = some o ∨ (R.get id = none ∧ h.get id = some o) := by
  rw [Hp.get_app] at k
  split at k
  · rename_i o' ho; cases k; exact .inl ho
  · rename_i ho; exact .inr ⟨ho, k⟩
def withR (R : Hp) (st : St) : St := ⟨R ++ st.h, st.n⟩
structure Apart (R : Hp) (st : St) : Prop where
  own : ∀ id o, R.get id = some o → o.own = true
  new : ∀ id o, R.get id = some o → st.h.get id = none
  mates : ∀ i j oi oj, R.get i = some oi → st.h.get j = some oj → ¬ Mates oi oj
theorem Apart.sub {R : Hp} {st : St} (ha : Apart R st) {id : Nat} {o : AObj} (h : st.h.get id = some o) : (withR R st).h.get id = some o := by
  show Hp.get (R ++ st.h) id = _
  rw [Hp.get_appR, h]
  cases hR : R.get id with
  | none => rfl
  | some o' => rw [ha.new id o' hR] at h; cases h
theorem Rel.drop {φ : Fi} {R : Hp} {st : St} {w : World} (ha : Apart R st) (hr : Rel φ (withR R st) w) : Rel φ st w :=
  ⟨hr.n, fun id o h => hr.lt id o (ha.sub h), fun id o h => hr.blk id o (ha.sub h), fun id o h => hr.obj id o (ha.sub h),
   fun i j oi oj hi hj => hr.sep i j oi oj (ha.sub hi) (ha.sub hj), fun id o f h => hr.fam id o f (ha.sub h),
   fun b c hb => let ⟨h1, h2, h3⟩ := hr.froz b c hb; ⟨h1, h2, fun id o h => h3 id o (ha.sub h)⟩⟩
def Owned (st st' : St) : Prop := ∀ id o, st'.h.get id = some o → o.own = true ∨ st.h.get id = some o
theorem CPost.frame {φ : Fi} {R : Hp} {st : St} {w : World} {k : AV → St → Prop} {e : Ending} {w' : World} (ha : Apart R st) (hr : Rel φ (withR R st) w) (h : CPost φ st w k e w')
    (hk : ∀ v st', k v st' → Owned st st') : CPost φ (withR R st) w (fun v s => ∃ st', k v st' ∧ s = withR R st') e w' := by
  obtain ⟨v, cv, st', φ', rfl, hkv, hv, he, hr', hf⟩ := h
  have hR : ∀ {i : Nat} {oi : AObj}, R.get i = some oi → (withR R st).h.get i = some oi := fun h => Hp.get_appL h
  have disj : ∀ {i : Nat} {oi : AObj}, R.get i = some oi → ¬ Owns φ st (φ.f i).b := fun {i oi} hi ⟨j, oj, hj, hjo, hb⟩ => by
    have hij : i ≠ j := fun h => by subst h; rw [ha.new i oi hi] at hj; cases hj
    exact ha.mates i j oi oj hi hj (hr.sep i j oi oj (hR hi) (ha.sub hj) hij (ha.own i oi hi) hb.symm).1
  have lt0 : ∀ {i : Nat} {oi : AObj}, R.get i = some oi → i < φ.n := fun {i oi} hi => by rw [hr.n]; exact hr.lt i oi (hR hi)
  have fi : ∀ {i : Nat} {oi : AObj}, R.get i = some oi → φ'.f i = φ.f i := fun hi => he.f _ (lt0 hi)
  have blk : ∀ {i : Nat} {oi : AObj}, R.get i = some oi → (φ.f i).b < w.heap.size := fun hi => hr.blk _ _ (hR hi)
  have notown : ∀ {i : Nat} {oi : AObj}, R.get i = some oi → ¬ Owns φ' st' (φ.f i).b := fun hi ho =>
    (hf.own _ ho).elim (disj hi) fun hl => by have := blk hi; omega
  have hmono : ∀ {k : Nat}, Owns φ st k → Owns φ (withR R st) k := fun ⟨id, o, h, ho, hb⟩ => ⟨id, o, ha.sub h, ho, hb⟩
  have hn : st.n ≤ st'.n := by have := he.n; rw [hr.n, hr'.n] at this; exact this
  refine ⟨v, cv, withR R st', φ', rfl, ⟨st', hkv, rfl⟩, hv, he, ⟨hr'.n, fun id o h => ?_, fun id o h => ?_, fun id o h => ?_, fun i j oi oj hi hj hij hio hb => ?_, fun id o f h hfm => ?_, fun b c hb => ?_⟩,
    ⟨hf.os, hf.tape, hf.output, hf.size, fun k hk ho => hf.block k hk fun h => ho (hmono h), fun k ⟨id, o, h, ho, hb⟩ => ?_, fun b c hb => ?_⟩⟩
  · rcases Hp.app_cases h with h | ⟨_, h⟩
    · exact Nat.lt_of_lt_of_le (hr.lt id o (hR h)) hn
    · exact hr'.lt id o h
  · rcases Hp.app_cases h with h | ⟨_, h⟩
    · rw [fi h]; exact Nat.lt_of_lt_of_le (blk h) hf.size
    · exact hr'.blk id o h
  · rcases Hp.app_cases h with h | ⟨_, h⟩
    · exact (hr.obj id o (hR h)).same he (lt0 h) (hf.block _ (blk h) (disj h))
    · exact hr'.obj id o h
  · rcases Hp.app_cases hi with hi | ⟨_, hi⟩ <;> rcases Hp.app_cases hj with hj | ⟨_, hj⟩
    · rw [fi hi, fi hj] at *
      exact hr.sep i j oi oj (hR hi) (hR hj) hij hio hb
    · exfalso
      rw [fi hi] at hb
      rcases hk v st' hkv j oj hj with ho | ho
      · exact notown hi ⟨j, oj, hj, ho, hb.symm⟩
      · have hjn : j < φ.n := by rw [hr.n]; exact hr.lt j oj (ha.sub ho)
        rw [he.f j hjn] at hb
        exact ha.mates i j oi oj hi ho (hr.sep i j oi oj (hR hi) (ha.sub ho) hij hio hb).1
    · exfalso
      rw [fi hj] at hb
      exact notown hj ⟨i, oi, hi, hio, hb⟩
    · exact hr'.sep i j oi oj hi hj hij hio hb
  · rcases Hp.app_cases h with h | ⟨_, h⟩
    · exact Nat.lt_of_lt_of_le (hr.fam id o f (hR h) hfm) hn
    · exact hr'.fam id o f h hfm
  · obtain ⟨h1, h2, h3⟩ := hr'.froz b c hb
    refine ⟨h1, h2, fun id o h hown => ?_⟩
    rcases Hp.app_cases h with h | ⟨_, h⟩
    · rw [fi h]
      rcases hf.zs b c hb with hz | hz | hz
      · exact (hr.froz b c hz).2.2 id o (hR h) hown
      · exact fun hbb => disj h (by rw [hbb]; exact hz)
      · have := blk h; omega
    · exact h3 id o h hown
  · rcases Hp.app_cases h with h | ⟨_, h⟩
    · rw [fi h] at hb
      exact .inl ⟨id, o, hR h, ho, hb⟩
    · exact (hf.own k ⟨id, o, h, ho, hb⟩).imp hmono fun h => h
  · exact (hf.zs b c hb).imp (fun h => h) fun h => h.imp hmono fun h => h
theorem CallW.frame {g : FuncId} {args : List AV} {R : Hp} {st : St} {k : AV → St → Prop} (ha : Apart R st) (h : CallW P g args st k) (hk : ∀ v st', k v st' → Owned st st') :
    CallW P g args (withR R st) (fun v s => ∃ st', k v st' ∧ s = withR R st') :=
  fun φ w cargs n h1 h2 => (h φ w cargs n (h1.drop ha) h2).mono fun _ _ hc => hc.frame ha h1 hk
theorem YieldW.frame {id : Nat} {args : List AV} {R : Hp} {st : St} {k : AV → St → Prop} (ha : Apart R st) (h : YieldW P id args st k) (hk : ∀ v st', k v st' → Owned st st') :
    YieldW P id args (withR R st) (fun v s => ∃ st', k v st' ∧ s = withR R st') :=
  fun φ w cargs n h1 h2 h3 => by
    obtain ⟨fn, tmps, assign, body, h4, h5⟩ := h φ w cargs n (h1.drop ha) h2 h3
    exact ⟨fn, tmps, assign, body, h4, h5.mono fun _ _ hc => hc.frame ha h1 hk⟩
def applyAt (ops : Array Oper) (i : Nat) (f : Fm) : Option (AV × List AV) := match ops[i]? with
  | none => none
  | some o => match wantA ops f.ts o with
    | some true => callO (Operand.av f.ts) o
    | _ => none
theorem applyAt_ok {ops : Array Oper} {i : Nat} {f : Fm} {c : AV} {args : List AV} (h : applyAt ops i f = some (c, args)) :
    ∃ o, ops[i]? = some o ∧ wantA ops f.ts o = some true ∧ callO (Operand.av f.ts) o = some (c, args) ∧ ∀ v, putAt ops i f v = f.put o.dst v := by
  unfold applyAt at h
  split at h
  · cases h
  · rename_i o ho
    split at h
    · rename_i hw
      exact ⟨o, ho, hw, h, fun v => by simp [putAt, ho]⟩
    · cases h
theorem OpsW.apply {rd : Option Nat} {ops : Array Oper} {i : Nat} {l : List Nat} {K : Fm → St → Prop} {f : Fm} {st : St} {c : AV} {args : List AV} (hc : applyAt ops i f = some (c, args))
    {k : AV → St → Prop} (ha : ApplyW P c args st k) (h : ∀ v st', k v st' → OpsW P rd ops l K (putAt ops i f v) st') : OpsW P rd ops (i :: l) K f st := by
  obtain ⟨o, ho, hw, hcc, hput⟩ := applyAt_ok hc
  exact OpsW.call ho hw hcc (ha.mono fun v st' hk => by have := h v st' hk; rw [hput] at this; exact this)
theorem AnyE.apply {rd : Option Nat} {ops : Array Oper} {M : List Nat} {K : Fm → St → Prop} {fuel : Nat} {pend : List (Nat × AV)} {listed : Array Bool} {f : Fm} {st : St} {j : Nat} {c : AV} {args : List AV}
    (hj : onlyD ops M pend listed = some (j, [])) (hc : applyAt ops j f = some (c, args)) {k : AV → St → Prop} (ha : ApplyW P c args st k)
    (h : ∀ v st', k v st' → AnyE P T ops M rd K fuel [] (listed.setIfInBounds j true) (putAt ops j f v) st') : AnyE P T ops M rd K (fuel + 1) pend listed f st := fun k1 k2 k3 => by
  unfold onlyD at hj
  split at hj
  · rename_i j' hr
    split at hj
    · rename_i o ho
      split at hj
      · simp only [Option.some.injEq, Prod.mk.injEq] at hj
        obtain ⟨rfl, hd⟩ := hj
        obtain ⟨o', ho', hw, hcc, hput⟩ := applyAt_ok hc
        rw [ho] at ho'; cases ho'
        refine AnyE.one j' ho (by rw [hr]; exact Nat.beq_refl j') [] hd (OpsW.call ho hw hcc (ha.mono fun v st' hk => .nil ⟨⟨v, rfl⟩, (fun p hp => absurd hp List.not_mem_nil), ?_⟩)) k1 k2 k3
        have := h v st' hk
        rw [hput] at this
        exact this
      · cases hj
    · cases hj
  · cases hj
end Go.Fz
namespace Go.Fz
variable {P : Program} {T : Ti}
def notZ (j : Nat) : Bool := !(Nat.beq j 0)
def roS (cs : List AV) : St := ⟨[(0, .cells none true cs)], 1⟩
theorem roS_get {cs : List AV} {id : Nat} {o : AObj} (h : (roS cs).h.get id = some o) : id = 0 ∧ o = .cells none true cs := by
  simp only [roS, Hp.get] at h
  split at h
  · rename_i hi; cases h; exact ⟨hi.symm, rfl⟩
  · cases h
theorem call_ro {g : FuncId} {args args2 : List AV} {r : AV} {m id : Nat} {fm : Option Nat} {ro : Bool} {cs : List AV} {st : St} (hg : st.h.get id = some (.cells fm ro cs)) (hcs : ∀ a ∈ cs, Below 0 a) (hr : Below 0 r)
    (ha : ∀ (φ : Fi) (us : List Value), VRL φ args us → VRL ⟨fun _ => φ.f id, 1, φ.z⟩ args2 us)
    (h : CallW P g args2 (roS cs) (fun v st' => freeB st'.h notZ = true ∧ Eqv (frz st'.h notZ m v) r)) : CallW P g args st (fun v st' => v = r ∧ st' = st) := by
  intro φ w cargs n hrel hargs
  have hrel0 : Rel ⟨fun _ => φ.f id, 1, φ.z⟩ (roS cs) w := by
    refine ⟨rfl, fun j o h => ?_, fun j o h => ?_, fun j o h => ?_, fun i j oi oj hi hj hij _ _ => ?_, fun j o f h hf => ?_, fun b c hb => ⟨(hrel.froz b c hb).1, (hrel.froz b c hb).2.1, fun j o h ho => ?_⟩⟩
    · obtain ⟨rfl, rfl⟩ := roS_get h; exact Nat.zero_lt_one
    · obtain ⟨rfl, rfl⟩ := roS_get h; exact hrel.blk id _ hg
    · obtain ⟨rfl, rfl⟩ := roS_get h
      refine ⟨fun i a hi => ?_, fun h => by cases h⟩
      obtain ⟨v, h1, h2⟩ := (hrel.obj id _ hg).1 i a hi
      refine ⟨v, h1, ?_⟩
      have h3 := hcs a (List.mem_of_getElem? hi) _ _ h2
      exact VR.mono (φ := ⟨φ.f, 0, φ.z⟩) (φ' := ⟨fun _ => φ.f id, 1, φ.z⟩) ⟨Nat.zero_le _, fun id hid => absurd hid (Nat.not_lt_zero id), fun b c hb => hb⟩ h3
    · exact absurd ((roS_get hi).1.trans (roS_get hj).1.symm) hij
    · obtain ⟨rfl, rfl⟩ := roS_get h; cases hf
    · obtain ⟨rfl, rfl⟩ := roS_get h; cases ho
  refine (h ⟨fun _ => φ.f id, 1, φ.z⟩ w cargs n hrel0 (ha φ _ hargs)).mono fun e w1 hp => ?_
  obtain ⟨v, cv, st1, φ1, rfl, ⟨hfree, hv⟩, hvr, hext, hrel1, hfr⟩ := hp
  obtain ⟨hrel2, hfr2⟩ := hrel1.freeze hfree
  have hvr2 := frz_ok (D := notZ) hrel1 m hvr
  replace hvr2 := hv _ _ hvr2
  have hfr3 := hfr.trans hfr2
  have hnone : ∀ b, ¬ Owns ⟨fun _ => φ.f id, 1, φ.z⟩ (roS cs) b := fun b ⟨j, o, h, ho, _⟩ => by obtain ⟨rfl, rfl⟩ := roS_get h; cases ho
  have hzs : ∀ b c, zOf φ1 st1.h notZ w1 b = some c → φ.z b = some c ∨ w.heap.size ≤ b := fun b c hb => (hfr3.zs b c hb).elim .inl fun h => h.elim (fun ho => absurd ho (hnone b)) .inr
  have hext3 : Ext φ ⟨φ.f, φ.n, zOf φ1 st1.h notZ w1⟩ := ⟨Nat.le_refl _, fun _ _ => rfl, fun b c hb => zOf_old (hext.z b c hb)⟩
  have hsame : ∀ k, k < w.heap.size → w1.heap[k]? = w.heap[k]? := fun k hk => hfr3.block k hk (hnone k)
  refine ⟨r, cv, st, ⟨φ.f, φ.n, zOf φ1 st1.h notZ w1⟩, rfl, ⟨rfl, rfl⟩, ?_, hext3, ?_, ?_⟩
  · have h1' := hr _ _ hvr2
    exact VR.mono (φ := ⟨φ1.f, 0, zOf φ1 st1.h notZ w1⟩) (φ' := ⟨φ.f, φ.n, zOf φ1 st1.h notZ w1⟩) ⟨Nat.zero_le _, fun id hid => absurd hid (Nat.not_lt_zero id), fun b c hb => hb⟩ h1'
  · refine ⟨hrel.n, hrel.lt, fun id o ho => Nat.lt_of_lt_of_le (hrel.blk id o ho) hfr3.size, fun id o ho => (hrel.obj id o ho).same hext3 (by rw [hrel.n]; exact hrel.lt id o ho) (hsame _ (hrel.blk id o ho)), hrel.sep, hrel.fam, fun b c hb => ?_⟩
    obtain ⟨h1, h2, _⟩ := hrel2.froz b c hb
    refine ⟨h1, h2, fun id o ho hown hbb => ?_⟩
    rcases hzs b c hb with h3 | h3
    · exact (hrel.froz b c h3).2.2 id o ho hown hbb
    · have := hrel.blk id o ho
      have hbb' : (φ.f id).b = b := hbb
      omega
  · exact ⟨hfr3.os, hfr3.tape, hfr3.output, hfr3.size, fun k hk _ => hsame k hk, fun k hk => .inl hk, fun b c hb => (hzs b c hb).elim .inl fun h => .inr (.inr h)⟩
end Go.Fz
namespace Go.Fz
set_option maxRecDepth 100000
section
variable {P : Program} {T : Ti}
theorem OpsW.nilSl (hT : TOk P T) {rd : Option Nat} {ops : Array Oper} {i : Nat} {l : List Nat} {K : Fm → St → Prop} {f : Fm} {st : St} {id off len sz : Nat} {ex : Bool} (hn : nilAt T ops i f = some (.sl id off len sz ex))
    (h0 : OpsW P rd ops l K (putAt ops i f (.lit (.bool false))) st) : OpsW P rd ops (i :: l) K f st := by
  unfold nilAt at hn
  split at hn
  · cases hn
  · rename_i o ho
    split at hn
    · rename_i hw
      split at hn
      · rename_i t x y yt hx
        split at hn
        · rename_i ti hti
          split at hn
          · rename_i e hd
            split at hn
            · rename_i hy
              simp only [Option.some.injEq] at hn
              have hu := (hT t ti hti).und
              rw [hd] at hu
              have hput : ∀ v, putAt ops i f v = f.put o.dst v := fun v => by simp [putAt, ho]
              rw [hput] at h0
              have key : ∀ (b : Bool) (φ : Fi) (w : World) (a : Act) (p : Option Addr) (l c : Nat), ActR φ f a → a.eval x = .slice p l c → p.isNone = b → (execOp a.eval o).run P w = .ok (.value (.bool b)) w := fun b φ w a p l c ha hp hb => by
                have hyy := opR_of ha.ts y
                rw [hy] at hyy
                have hyy := hyy.lit_inv
                have h1 := run_equalIn_slice_nil (P := P) (w := w) 9999 t e p l c hu
                subst hb
                simp only [execOp, hx, hp, hyy]
                simp [eqGuard, Result.andThen, binOp, Op.equal, Op.maxDepth, h1]
              intro φ w a n Q k1 k2 k3 hQ
              have hxx := opR_of k3.ts x
              rw [hn] at hxx
              simp only [wpOpsIn, ho]
              rw [wanted_eq k3 ops hw]
              simp only [if_true]
              refine ⟨fun _ _ => trivial, ?_⟩
              rw [semAt_eq (fun c hc => by rw [hx] at hc; cases hc)]
              obtain ⟨cap, hv, _⟩ := hxx.sl_inv
              rw [key false φ w a _ _ _ k3 hv rfl]
              exact h0 φ w _ n Q k1 k2 (k3.put o.dst (.lit _)) hQ
            · cases hn
          · cases hn
        · cases hn
      · cases hn
    · cases hn
end
end Go.Fz
namespace Go.Fz
open Go.Proofs
set_option maxRecDepth 100000
section
variable {P : Program} {T : Ti}
theorem OpsW.idxSl (hT : TOk P T) {rd : Option Nat} {ops : Array Oper} {K : Fm → St → Prop} {f : Fm} {st : St} {i : Nat} {l : List Nat} {t id off len sz n : Nat} {ex : Bool} {k : IntKind}
    (hx : idxAt ops i f = some (t, .sl id off len sz ex, .lit (.int k (Int.ofNat n)))) (hb : sliceB T t sz = true) (hn : n < len) (h : ∀ q, q = off + n * sz → OpsW P rd ops l K (putAt ops i f (.ptr id q)) st) : OpsW P rd ops (i :: l) K f st := by
  have h := h _ rfl
  obtain ⟨ti, tj, e, h1, h2, h3, h4, h5, h6, h7, h8⟩ := sliceB_ok hb
  unfold idxAt at hx
  split at hx
  · cases hx
  · rename_i o ho
    split at hx
    · rename_i hw
      split at hx
      · rename_i t' x ix hop
        simp only [Option.some.injEq, Prod.mk.injEq] at hx
        obtain ⟨rfl, k2, k3⟩ := hx
        have hput : ∀ v, putAt ops i f v = f.put o.dst v := fun v => by simp [putAt, ho]
        rw [hput] at h
        refine OpsW.light hT ho hw ?_ h
        simp only [evG, evL, hop, k2, k3, h1, h2, h3]
        rw [if_pos ⟨Int.natCast_nonneg n, Int.ofNat_lt.2 hn, h4⟩]
        rfl
      · cases hx
    · cases hx
theorem OpsW.stoI (hT : TOk P T) {rd : Option Nat} {ops : Array Oper} {K : Fm → St → Prop} {f : Fm} {st : St} {j : Nat} {l : List Nat} {t id off : Nat} {v : Int} {k : IntKind} {G : List AV}
    (ha : stoAt ops j f = some (t, .ptr id off, .lit (.int k v))) (hb : sizeB T t 1 = true) (hx : st.h.get id = some (.cells none false G)) (hl : off < G.length)
    (h : ∀ G', G' = G.set off (.lit (.int k v)) → OpsW P rd ops l K (putAt ops j f undA) ⟨st.h.set id (.cells none false G'), st.n⟩) : OpsW P rd ops (j :: l) K f st := by
  have h := h _ rfl
  unfold stoAt at ha
  split at ha
  · cases ha
  · rename_i o ho
    split at ha
    · rename_i hw
      split at ha
      · rename_i t' p x hop
        simp only [Option.some.injEq, Prod.mk.injEq] at ha
        obtain ⟨rfl, e2, e3⟩ := ha
        have hput : ∀ v, putAt ops j f v = f.put o.dst v := fun v => by simp [putAt, ho]
        rw [hput] at h
        have hst : storeO T st (Operand.av f.ts) o = some ⟨st.h.set id (.cells none false (G.set off (.lit (.int k v)))), st.n⟩ := by
          unfold sizeB at hb
          split at hb
          · rename_i ti hti
            have hsz := Nat.eq_of_beq_eq_true hb
            have h1 : (AV.lit (.int k v)).cells = [.lit (.int k v)] := rfl
            have h2 : (AV.lit (.int k v)).one = true := rfl
            have h3 : (AV.lit (.int k v)).norm = .lit (.int k v) := rfl
            simp only [storeO, hop, storeA, e2, e3, ptrOf, hti, hx, h1, hsz, List.length_singleton, List.map_cons, List.map_nil, h3, setsL_one, List.all_cons, h2, List.all_nil]
            rw [if_pos ⟨trivial, by omega, by simp, by omega⟩]
          · cases hb
        exact OpsW.store hT ho hw hst h
      · cases ha
    · cases ha
def sliAt (ops : Array Oper) (i : Nat) (f : Fm) : Option (TypeId × AV × Option AV × Option AV) := match ops[i]? with
  | none => none
  | some o => match wantA ops f.ts o with
    | some true => match o.op with
      | .slice t x lo hi none => some (t, Operand.av f.ts x, lo.map (Operand.av f.ts), hi.map (Operand.av f.ts))
      | _ => none
    | _ => none
theorem natOr_lo {d l : Nat} : natOr d (some (.lit (.int .i64 (Int.ofNat l)))) = some l := by
  show (if (0 : Int) ≤ Int.ofNat l then some (Int.ofNat l).toNat else none) = some l
  exact if_pos (Int.natCast_nonneg l)
theorem AnyE.cut (hT : TOk P T) {rd : Option Nat} {ops : Array Oper} {K : Fm → St → Prop} {fuel : Nat} {pend : List (Nat × AV)} {listed : Array Bool} {f : Fm} {st : St} (i : Nat) {t id off len sz l u : Nat} {ex : Bool} {lo hi : Option AV} (hM : tidyB ops (masks ops) = true)
    (hx : sliAt ops i f = some (t, .sl id off len sz ex, lo, hi)) (hlo : natOr 0 lo = some l) (hhi : natOr len hi = some u) (hb : sliceB T t sz = true) (hl : l ≤ u) (hu : u ≤ len) (he : l < len ∨ (l = len ∧ ex = true))
    (hr : (match ops[i]? with | some o => (Region.ready .any ops listed).contains i && noLookB ops pend o | none => false) = true)
    (h : ∀ q b, (q = off + l * sz ∨ (l = len ∧ q = off)) → AnyE P T ops (masks ops) rd K fuel ((i, .sl id q (u - l) sz b) :: pend) (listed.setIfInBounds i true) (putAt ops i f (.sl id q (u - l) sz b)) st) : AnyE P T ops (masks ops) rd K (fuel + 1) pend listed f st := by
  obtain ⟨ti, tj, e, h1, h2, h3, h4, h5, h6, h7, h8⟩ := sliceB_ok hb
  unfold sliAt at hx
  split at hx
  · cases hx
  · rename_i o ho
    split at hx
    · rename_i hw
      split at hx
      · rename_i t' x lo' hi' hop
        simp only [Option.some.injEq, Prod.mk.injEq] at hx
        obtain ⟨rfl, k2, rfl, rfl⟩ := hx
        have hput : ∀ v, putAt ops i f v = f.put o.dst v := fun v => by simp [putAt, ho]
        simp only [hput] at h
        simp only [ho] at hr
        rcases he with he | ⟨rfl, rfl⟩
        · refine AnyE.take hM hT i ho hr ?_ (h (off + l * sz) (ex && u == len) (.inl rfl))
          simp only [Fz.lightV, ho, hw, evG, hop, sliceA, k2, h1, h2, h3, h4, hlo, hhi, if_true, Option.map_none]
          rw [if_pos ⟨hl, hu, .inr he⟩]
        · obtain rfl : u = l := by omega
          refine AnyE.take hM hT i ho hr ?_ (h off true (.inr ⟨rfl, rfl⟩))
          simp only [Fz.lightV, ho, hw, evG, hop, sliceA, k2, h1, h2, h3, h4, hlo, hhi, if_true, Option.map_none]
          by_cases hz : u = 0
          · subst hz
            rw [if_pos ⟨Nat.le_refl _, Nat.le_refl _, .inl rfl⟩]; simp
          · rw [if_neg (by omega), if_pos ⟨trivial, trivial, trivial⟩, Nat.sub_self]
      · cases hx
    · cases hx
theorem AnyE.callS {rd : Option Nat} {ops : Array Oper} {M : List Nat} {K : Fm → St → Prop} {fuel : Nat} {pend pend' : List (Nat × AV)} {listed : Array Bool} {f : Fm} {st : St} {j : Nat} {g : FuncId} {args : List AV} {r : AV} (he : Enters P g)
    (hp : CallW P g args st (fun v st' => v = r ∧ st' = st))
    (hj : onlyD ops M pend listed = some (j, pend')) (hc : callAt ops j f = some (g, args)) (h : AnyE P T ops M rd K fuel pend' (listed.setIfInBounds j true) (putAt ops j f r) st) : AnyE P T ops M rd K (fuel + 1) pend listed f st := fun k1 k2 k3 => by
  unfold onlyD at hj
  split at hj
  · rename_i j' hr
    split at hj
    · rename_i o ho
      split at hj
      · rename_i hnl
        cases hj
        obtain ⟨o', first, caps, xs, ho', hw, hcc, ha, hput⟩ := callAt_ok hc
        rw [ho] at ho'; cases ho'
        subst ha
        rw [hput] at h
        refine AnyE.one j ho (by rw [hr]; exact Nat.beq_refl j) _ rfl (OpsW.call ho hw hcc (show ApplyW P (.fn (.func g) first caps) xs st _ from ⟨he, hp.mono fun v st' ⟨h1, h2⟩ => by
          subst h1; subst h2
          refine .nil ⟨⟨_, rfl⟩, fun p hpm => ?_, h⟩
          show LV T ops st'.h (f.put o.dst v) p.1 p.2
          rw [LV_put (fun q hq d hd => noLookB_ok hnl p hpm q hq d hd)]
          exact k3 p (List.mem_filter.1 hpm).1⟩)) k1 k2 k3
      · cases hj
    · cases hj
  · cases hj
theorem Eqv.islX {len sz : Nat} {ex : Bool} {g : Nat → Nat → AV} : Eqv (.isl len sz ex g) (.isl len sz false g) := fun φ u hv => by
  cases hv with
  | isl _ _ _ _ b o cap c us hz hcc hus hcap hex => exact .isl len sz false g b o cap c us hz hcc hus hcap (fun h => by cases h)
  | isl0 => exact .isl0 _ _ _
theorem Eqv.trans {a b c : AV} (h : Eqv a b) (k : Eqv b c) : Eqv a c := fun φ u hv => k φ u (h φ u hv)
end
theorem flatG_part (fl : Nat → Int) (n off len : Nat) (h : off + len ≤ n) : ((flatG 1 (intC fl) n).drop off).take len = flatG 1 (intC fun i => fl (off + i)) len := by
  apply List.ext_getElem?
  intro q
  rw [List.getElem?_take]
  by_cases hq : q < len
  · rw [if_pos hq, List.getElem?_drop]
    have h1 := flatG_get 1 (intC fl) n (off + q) 0 (by omega) (by omega)
    have h2 := flatG_get 1 (intC fun i => fl (off + i)) len q 0 hq (by omega)
    rw [Nat.mul_one, Nat.add_zero] at h1 h2
    rw [h1, h2]; rfl
  · rw [if_neg hq, List.getElem?_eq_none (by rw [flatG_length]; omega)]
theorem clone_app {t id id2 off n : Nat} {ex : Bool} {G : List AV} {st : St} {fm : Option Nat} {ro : Bool} {fl : Nat → Int} {N : Nat} (h : sliceB T t 1 = true) (hx : st.h.get id = some (.cells none false [])) (hy : st.h.get id2 = some (.cells fm ro G)) (hG : flatG 1 (intC fl) N = G) (hoff : off + n ≤ N) (hn : n < 1000) (h0 : 0 < n) :
    appendA T st t t (.sl id 0 0 1 true) (.sl id2 off n 1 ex) = some (.sl st.n 0 n 1 false, st.push (.cells none false (flatG 1 (intC fun i => fl (off + i)) n))) := by
  obtain ⟨i, j, e, ht, hd, he, hz, h5, hb, hb0, hzl⟩ := sliceB_ok h
  have hlen : G.length = N := by rw [← hG, flatG_length, Nat.mul_one]
  have hpart : (G.drop off).take n = flatG 1 (intC fun i => fl (off + i)) n := by rw [← hG]; exact flatG_part fl N off n hoff
  have hone := flatG_one (sz := 1) (intC_one fun i => fl (off + i)) n
  unfold appendA
  simp only [ht, hd, he, slCells, cellsAt, hx, hy, slLen, hz]
  rw [if_pos ⟨trivial, by simp⟩, if_pos ⟨trivial, by omega⟩]
  simp only [Nat.mul_one, hpart, Nat.zero_add]
  rw [if_neg (by rw [hone]; simp; omega), if_neg (by omega)]
  simp
theorem clone_app0 {t id id2 off : Nat} {ex : Bool} {G : List AV} {st : St} {fm : Option Nat} {ro : Bool} (h : sliceB T t 1 = true) (hx : st.h.get id = some (.cells none false [])) (hy : st.h.get id2 = some (.cells fm ro G)) (hoff : off ≤ G.length) :
    appendA T st t t (.sl id 0 0 1 true) (.sl id2 off 0 1 ex) = some (.sl id 0 0 1 true, st) := by
  obtain ⟨i, j, e, ht, hd, he, hz, h5, hb, hb0, hzl⟩ := sliceB_ok h
  unfold appendA
  simp only [ht, hd, he, slCells, cellsAt, hx, hy, slLen, hz]
  rw [if_pos ⟨trivial, by simp⟩, if_pos ⟨trivial, by omega⟩]
  simp only [Nat.zero_mul, List.take_zero, List.all_nil]
  rw [if_neg (by simp; omega)]
  rfl
set_option maxHeartbeats 4000000 in
theorem clone_ok {id off n N : Nat} {fm : Option Nat} {ro ex : Bool} {fl : Nat → Int} {G : List AV} {st : St} {r : AV} (hg : st.h.get id = some (.cells fm ro G)) (hG : flatG 1 (intC fl) N = G) (hoff : off + n ≤ N) (hn : n < 1000) (hr : Eqv (intsV n false fun i => fl (off + i)) r) (hrb : Below 0 r) :
    CallW Try.prog 103 [.sl id off n 1 ex] st (fun v st' => v = r ∧ st' = st) := by
  obtain ⟨O, hO⟩ : ∃ O : Ar, O = std := ⟨_, rfl⟩
  have hlen : G.length = N := by rw [← hG, flatG_length, Nat.mul_one]
  refine call_ro (m := 3) (args2 := [.sl 0 off n 1 ex]) hg (by rw [← hG]; exact flatG_below (fun i k => Below.lit) N) hrb (fun φ us hv => ?_) ?_
  · cases hv with
    | cons h1 h2 =>
      cases h2
      refine .cons ?_ .nil
      cases h1 with
      | sl _ _ _ _ _ cap k1 k2 k3 k4 => exact .sl (φ := ⟨fun _ => φ.f id, 1, φ.z⟩) 0 off n 1 ex cap Nat.zero_lt_one k2 k3 k4
  refine callW_of_body tok Try.func103 rfl ?_
  show SW _ _ _ _ _ ⟨[(0, .cells none true G)], 1⟩
  refine SW.seqRun tok hO (by cbv <;> rfl) (by trivial) ?_
  refine SW.seq ?_
  refine SW.seq (SW.runN tok hO 1 (by cbv <;> rfl) (by trivial) ?_)
  refine OpsW.nilSl tok (by cbv <;> rfl) (OpsW.nil ?_)
  refine SW.cond (t := false) (by cbv <;> rfl) (SW.skip ?_)
  refine SW.seq (SW.runN tok hO 2 (by cbv <;> rfl) (by trivial) ?_)
  rcases Nat.eq_zero_or_pos n with hz | hz
  · subst hz
    refine OpsW.appA tok (by cbv <;> rfl) (by exact clone_app0 (by kernel_rfl) (by rfl) (by rfl) (by omega)) ?_
    refine OpsW.run tok hO (by cbv <;> rfl) (by trivial) ?_
    refine SW.ret ⟨_, _, rfl, rfl, rfl, ?_⟩
    refine Eqv.trans ?_ hr
    show Eqv (.isl 0 1 true _) (.isl 0 1 false _)
    exact Eqv.trans Eqv.islX (Eqv.isl rfl fun i k hi hk => absurd hi (Nat.not_lt_zero i))
  · refine OpsW.appA tok (by cbv <;> rfl) (by exact clone_app (fl := fl) (N := N) (by kernel_rfl) (by rfl) (by rfl) hG hoff hn hz) ?_
    obtain ⟨G2, hG2⟩ : ∃ G2, G2 = flatG 1 (intC fun i => fl (off + i)) n := ⟨_, rfl⟩
    rw [← hG2]
    refine OpsW.run tok hO (by cbv <;> rfl) (by trivial) ?_
    refine SW.ret ⟨_, _, rfl, rfl, rfl, ?_⟩
    refine Eqv.trans ?_ hr
    show Eqv (frz _ notZ 3 (.sl 2 0 n 1 false)) _
    rw [frz_slE (fm := none) (G := G2) rfl rfl (by rw [hG2, flatG_length]; omega), hG2]
    exact Eqv.isl rfl fun i k hi hk => Eqv.of (frz_flat hi hk rfl)
end Go.Fz
namespace Go.Fz
open Go.Proofs
set_option maxRecDepth 100000
def chooseV : AV := .fn (.func 123) [] [.ptr 50 0, .ptr 49 0, .ptr 53 0, .ptr 51 0, .ptr 54 0]
def chH (y N nw : Nat) (lo hi : Nat → Int) (G : List AV) (h : Hp) : Hp := (54, .cells none false [chooseV]) :: (53, .cells none false [.sl 52 0 N 1 true]) :: (52, .cells none false G) :: (51, .cells none false [iV nw]) :: (50, .cells none false [.isl N 2 false (rngC lo hi)]) :: (49, .cells none false [.yld y]) :: h
def chO (y N nw : Nat) (lo hi : Nat → Int) (G : List AV) : Hp := [(54, .cells none false [chooseV]), (53, .cells none false [.sl 52 0 N 1 true]), (52, .cells none false G), (51, .cells none false [iV nw]), (50, .cells none false [.isl N 2 false (rngC lo hi)]), (49, .cells none false [.yld y])]
def truE (nums : Nat → Int) (nw nl : Nat) : AV := .agg [intsV nw false nums, intsV nl false (fun i => nums (nw + i))]
def cutF (N : Nat) (f : Nat → Int) (m : Nat) : Int := if m < N then f m else 0
theorem cutF_congr {N : Nat} {f g : Nat → Int} (h : ∀ m, m < N → f m = g m) : cutF N f = cutF N g := funext fun m => by
  unfold cutF
  by_cases hm : m < N
  · rw [if_pos hm, if_pos hm, h m hm]
  · rw [if_neg hm, if_neg hm]
section
variable {α : Type}
def foldV (F : Int → α → α) (lo : Int) : Nat → α → α
  | 0, a => a
  | c + 1, a => F (lo + c) (foldV F lo c a)
theorem foldV_congr {F F' : Int → α → α} (h : ∀ v a, F v a = F' v a) (lo : Int) (a : α) : ∀ c, foldV F lo c a = foldV F' lo c a
  | 0 => rfl
  | c + 1 => by show F _ _ = F' _ _; rw [foldV_congr h lo a c, h]
def foldE (next : α → (Nat → Int) → α) (N : Nat) (lo hi : Nat → Int) : Nat → Nat → (Nat → Int) → α → α
  | 0, _, f, a => next a (cutF N f)
  | j + 1, i, f, a => foldV (fun v a => foldE next N lo hi j (i + 1) (setI f i v) a) (lo i) (hi i - lo i + 1).toNat a
theorem foldE_congr (next : α → (Nat → Int) → α) (N : Nat) (lo hi : Nat → Int) : ∀ (j i : Nat) (f g : Nat → Int) (a : α), i + j = N → (∀ m, m < i → f m = g m) → foldE next N lo hi j i f a = foldE next N lo hi j i g a
  | 0, i, f, g, a, hij, h => by
    show next a (cutF N f) = next a (cutF N g)
    rw [cutF_congr fun m hm => h m (by omega)]
  | j + 1, i, f, g, a, hij, h => foldV_congr (fun v a => foldE_congr next N lo hi j (i + 1) _ _ a (by omega) fun m hm => by
    by_cases e : m = i
    · subst e; rw [setI_self, setI_self]
    · rw [setI_ne e, setI_ne e, h m (by omega)]) _ _ _
def allE (ok : α → Prop) (next : α → (Nat → Int) → α) (N : Nat) (lo hi : Nat → Int) : Nat → Nat → (Nat → Int) → α → Prop
  | 0, _, _, a => ok a
  | j + 1, i, f, a => ∀ c, c < (hi i - lo i + 1).toNat → allE ok next N lo hi j (i + 1) (setI f i (lo i + c)) (foldV (fun v a => foldE next N lo hi j (i + 1) (setI f i v) a) (lo i) c a)
theorem allE_congr (ok : α → Prop) (next : α → (Nat → Int) → α) (N : Nat) (lo hi : Nat → Int) : ∀ (j i : Nat) (f g : Nat → Int) (a : α), i + j = N → (∀ m, m < i → f m = g m) → allE ok next N lo hi j i f a → allE ok next N lo hi j i g a
  | 0, _, _, _, _, _, _, h => h
  | j + 1, i, f, g, a, hij, hfg, h => fun c hc => by
    have hag : ∀ v m, m < i + 1 → setI f i v m = setI g i v m := fun v m hm => by
      by_cases e : m = i
      · subst e; rw [setI_self, setI_self]
      · rw [setI_ne e, setI_ne e, hfg m (by omega)]
    have h1 := h c hc
    rw [foldV_congr (fun v b => foldE_congr next N lo hi j (i + 1) (setI f i v) (setI g i v) b (by omega) (hag v))] at h1
    exact allE_congr ok next N lo hi j (i + 1) _ _ _ (by omega) (hag _) h1
def chQ (K : α → Hp → Nat → Prop) (stop : Hp → Nat → Prop) (y N nw : Nat) (lo hi : Nat → Int) (A : (Nat → Int) → Prop) (a : α) (v : AV) (st' : St) : Prop :=
  (v = .lit (.bool true) ∧ ∃ nums h n, A nums ∧ st' = ⟨chH y N nw lo hi (flatG 1 (intC nums) N) h, n⟩ ∧ K a h n) ∨ (v = .lit (.bool false) ∧ ∃ nums h n, st' = ⟨chH y N nw lo hi (flatG 1 (intC nums) N) h, n⟩ ∧ stop h n)
set_option maxHeartbeats 8000000 in
theorem choose_ok (ok : α → Prop) (K : α → Hp → Nat → Prop) (next : α → (Nat → Int) → α) (stop : Hp → Nat → Prop) (y N nw : Nat) (lo hi : Nat → Int) (hN : N < 100) (h0 : 0 < nw) (hnw : nw ≤ N) (hb : ∀ m, m < N → 0 ≤ lo m ∧ lo m ≤ hi m ∧ hi m ≤ 5000)
    (step : ∀ nums a h n, (∀ m, m < N → lo m ≤ nums m ∧ nums m ≤ hi m) → ok a → K a h n → YieldW Try.prog y [truE (cutF N nums) nw (N - nw)] ⟨chH y N nw lo hi (flatG 1 (intC nums) N) h, n⟩ (chQ K stop y N nw lo hi (fun f => f = nums) (next a (cutF N nums)))) :
    ∀ j i nums a h n, i + j = N → (∀ m, m < i → lo m ≤ nums m ∧ nums m ≤ hi m) → allE ok next N lo hi j i nums a → K a h n →
      CallW Try.prog 123 [iV i, .ptr 50 0, .ptr 49 0, .ptr 53 0, .ptr 51 0, .ptr 54 0] ⟨chH y N nw lo hi (flatG 1 (intC nums) N) h, n⟩ (chQ K stop y N nw lo hi (fun f => ∀ m, m < i → f m = nums m) (foldE next N lo hi j i nums a))
  | 0, i, nums, a, h, n, hij, hin, hok, hK => by
    obtain ⟨O, hO⟩ : ∃ O : Ar, O = std := ⟨_, rfl⟩
    obtain rfl : i = N := by omega
    have hs := step nums a h n hin hok hK
    obtain ⟨G, hG⟩ : ∃ G, flatG 1 (intC nums) i = G := ⟨_, rfl⟩
    rw [hG] at hs ⊢
    refine callW_of_body tok Try.func123 rfl ?_
    refine SW.seqRun tok hO (by cbv <;> rfl) (by trivial) ?_
    refine SW.seq ?_
    refine SW.seqRun tok hO (by cbv <;> rfl) (by trivial) ?_
    refine SW.condS (by cbv <;> rfl) (fun h1 => ?_) (fun h1 => ?_)
    rotate_left
    · exfalso
      subst hO; simp [std] at h1
    have c1 := fun (b : Bool) => clone_ok (ex := b) (off := 0) (n := nw) (N := i) (fl := nums) (id := 52) (fm := none) (ro := false) (G := G) (r := intsV nw false (cutF i nums)) (st := ⟨chH y i nw lo hi G h, n⟩) (by rfl) hG (by omega) (by omega) (Eqv.isl rfl fun p q hp _ => Eqv.of (by show iV (nums (0 + p)) = iV (cutF i nums p); rw [Nat.zero_add]; unfold cutF; rw [if_pos (by omega)])) (intsV_below _ _ _)
    have c2 : ∀ q2 b, (q2 = nw ∨ (nw = i ∧ q2 = 0)) → CallW Try.prog 103 [.sl 52 q2 (i - nw) 1 b] ⟨chH y i nw lo hi G h, n⟩ (fun v st' => v = intsV (i - nw) false (fun p => cutF i nums (nw + p)) ∧ st' = ⟨chH y i nw lo hi G h, n⟩) := fun q2 b hq =>
      clone_ok (off := q2) (n := i - nw) (N := i) (fl := nums) (id := 52) (fm := none) (ro := false) (G := G) (r := intsV (i - nw) false (fun p => cutF i nums (nw + p))) (by rfl) hG (by omega) (by omega) (by
        rcases hq with rfl | ⟨hq, _⟩
        · exact Eqv.isl rfl fun p q hp _ => Eqv.of (by show iV (nums (q2 + p)) = iV (cutF i nums (q2 + p)); unfold cutF; rw [if_pos (by omega)])
        · exact Eqv.isl rfl fun p _ hp _ => absurd hp (by omega)) (intsV_below _ _ _)
    refine SW.seqRunD tok mixed hO (by kernel_rfl) (by cbv <;> rfl) (by trivial) ?_
    refine AnyE.cut tok 3 (l := 0) (u := nw) (by kernel_rfl) (by cbv <;> rfl) rfl natOr_lo (by kernel_rfl) (by omega) (by omega) (.inl (by omega)) (by cbv <;> rfl) fun q1 b1 hq1 => ?_
    obtain rfl : q1 = 0 := by omega
    refine AnyE.run tok hO (by kernel_rfl) (by cbv <;> rfl) (by trivial) ?_
    refine AnyE.cut tok 7 (l := nw) (u := i) (by kernel_rfl) (by cbv <;> rfl) natOr_lo rfl (by kernel_rfl) (by omega) (by omega) (by by_cases hq : nw < i; exact .inl hq; exact .inr ⟨by omega, rfl⟩) (by cbv <;> rfl) fun q2 b2 hq2 => ?_
    refine AnyE.callS en103 (c1 b1) (by cbv <;> rfl) (by cbv <;> rfl) ?_
    refine AnyE.run tok hO (by kernel_rfl) (by cbv <;> rfl) (by trivial) ?_
    refine AnyE.callS en103 (c2 q2 b2 (by omega)) (by cbv <;> rfl) (by cbv <;> rfl) ?_
    refine AnyE.run tok hO (by kernel_rfl) (by cbv <;> rfl) (by trivial) ?_
    refine AnyE.apply (c := .yld y) (args := [truE (cutF i nums) nw (i - nw)]) (by cbv <;> rfl) (by cbv <;> rfl) hs fun v st' hk => ?_
    rcases hk with ⟨rfl, nums2, h2, n2, hn2, hst, hk⟩ | ⟨rfl, nums2, h2, n2, hst, hk⟩
    · obtain ⟨G3, hG3⟩ : ∃ G, flatG 1 (intC nums2) i = G := ⟨_, rfl⟩
      rw [hG3] at hst
      subst hst
      refine AnyE.run tok hO (by kernel_rfl) (by cbv <;> rfl) (by trivial) ?_
      exact SW.ret ⟨_, _, rfl, rfl, .inl ⟨rfl, nums2, _, _, fun _ _ => by rw [hn2], by rw [hG3]; rfl, hk⟩⟩
    · obtain ⟨G3, hG3⟩ : ∃ G, flatG 1 (intC nums2) i = G := ⟨_, rfl⟩
      rw [hG3] at hst
      subst hst
      refine AnyE.run tok hO (by kernel_rfl) (by cbv <;> rfl) (by trivial) ?_
      exact SW.ret ⟨_, _, rfl, rfl, .inr ⟨rfl, nums2, _, _, by rw [hG3]; rfl, hk⟩⟩
  | j + 1, i, nums, a, h, n, hij, hin, hall, hK => by
    have ih := choose_ok ok K next stop y N nw lo hi hN h0 hnw hb step j (i + 1)
    obtain ⟨O, hO⟩ : ∃ O : Ar, O = std := ⟨_, rfl⟩
    have hnat : ∀ i : Nat, O.nat (Int.ofNat i) = i := fun i => by subst hO; rfl
    have hiN : i < N := by omega
    obtain ⟨b1, b2, b3⟩ := hb i hiN
    have hi0 : (0 : Int) ≤ Int.ofNat i := Int.natCast_nonneg i
    have hii : 0 ≤ Int.ofNat i ∧ Int.ofNat i < (N : Int) := ⟨hi0, Int.ofNat_lt.2 hiN⟩
    refine callW_of_body tok Try.func123 rfl ?_
    obtain ⟨G, hG⟩ : ∃ G, flatG 1 (intC nums) N = G := ⟨_, rfl⟩
    rw [hG]
    refine SW.seqRun tok hO (by cbv <;> rfl) (by trivial) ?_
    refine SW.seq ?_
    refine SW.seqRun tok hO (by cbv <;> rfl) (by trivial) ?_
    refine SW.condS (by cbv <;> rfl) (fun h1 => ?_) (fun h1 => SW.skip ?_)
    · exfalso
      have : (i : Int) = N := by subst hO; simpa [std] using h1
      omega
    refine SW.seq ?_
    refine SW.seqRun tok hO (by cbv <;> rfl) ?_ ?_
    · exact hii
    refine (SW.block (SW.loop (fun k f st => ∃ (g : Nat → AV) (c : Nat) (nums' : Nat → Int) (h' : Hp) (n' : Nat), f = ⟨⟨47, g⟩, []⟩ ∧ AllP (fun p => g p.1 = p.2) [(0, iV i), (1, .ptr 50 0), (2, .ptr 49 0), (3, .ptr 53 0), (4, .ptr 51 0), (5, .ptr 54 0), (8, iV (lo i + c))] ∧ st = ⟨chH y N nw lo hi (flatG 1 (intC nums') N) h', n'⟩ ∧
      (∀ m, m < i → nums' m = nums m) ∧ K (foldV (fun v a => foldE next N lo hi j (i + 1) (setI nums i v) a) (lo i) c a) h' n' ∧ lo i + c ≤ hi i + 1 ∧ k = (hi i + 1 - (lo i + c)).toNat) (hi i + 1 - (lo i + (0 : Nat))).toNat ?_ ?_))
    · refine ⟨_, 0, nums, h, n, rfl, ⟨rfl, rfl, rfl, rfl, rfl, rfl, ?_, trivial⟩, by rw [hG]; rfl, fun _ _ => rfl, hK, by omega, rfl⟩
      show iV (lo (O.nat (Int.ofNat i))) = iV (lo i + (0 : Nat))
      rw [hnat]; simp
    · rintro k f st ⟨g, c, nums', h', n', rfl, ⟨g0, g1, g2, g3, g4, g5, g8, _⟩, rfl, hag, hK', hle, rfl⟩
      simp only at g0 g1 g2 g3 g4 g5 g8
      rw [← updT_self g0, ← updT_self g1, ← updT_self g2, ← updT_self g3, ← updT_self g4, ← updT_self g5, ← updT_self g8]
      obtain ⟨G1, hG1⟩ : ∃ G, flatG 1 (intC nums') N = G := ⟨_, rfl⟩
      have hlen : G1.length = N * 1 := by rw [← hG1, flatG_length]
      obtain ⟨v, hv⟩ : ∃ v, lo i + (c : Int) = v := ⟨_, rfl⟩
      rw [hG1, hv]
      refine SW.seq ?_
      refine SW.seqRun tok hO (by cbv <;> rfl) ?_ ?_
      · exact hii
      refine SW.condS (by cbv <;> rfl) (fun h3 => SW.skip ?_) (fun h3 => SW.exit ?_)
      rotate_left
      · have hgt : hi i < v := by
          have : hi (O.nat (Int.ofNat i)) < v := by subst hO; simpa [std] using h3
          rwa [hnat] at this
        have hc : c = (hi i - lo i + 1).toNat := by omega
        refine SW.seqRun tok hO (by cbv <;> rfl) (by trivial) ?_
        refine SW.ret ⟨_, _, rfl, rfl, .inl ⟨rfl, nums', h', n', hag, by rw [hG1]; rfl, ?_⟩⟩
        rw [hc] at hK'; exact hK'
      · have hvle : v ≤ hi i := by
          have : v ≤ hi (O.nat (Int.ofNat i)) := by subst hO; simpa [std] using h3
          rwa [hnat] at this
        refine SW.seq (SW.block ?_)
        refine SW.seq (SW.runN tok hO 3 (by cbv <;> rfl) (by trivial) ?_)
        refine OpsW.idxSl tok (n := i) (by cbv <;> rfl) (by kernel_rfl) hiN fun q hq => ?_
        refine OpsW.stoI tok (id := 52) (G := G1) (by cbv <;> rfl) (by kernel_rfl) (by rfl) (by omega) fun G2 hG2 => OpsW.nil ?_
        have hGG : G2 = flatG 1 (intC (setI nums' i v)) N := by
          rw [hG2, ← hG1, hq, show 0 + i * 1 = i * 1 + 0 by omega]
          exact flatG_set hiN (by omega) (show iV (setI nums' i v i) = _ by rw [setI_self]; rfl) fun p q _ hq hne => by
            have : p ≠ i := fun e => hne ⟨e, by omega⟩
            show iV (setI nums' i v p) = iV (nums' p)
            rw [setI_ne this]
        show SW _ _ _ _ _ ⟨chH y N nw lo hi G2 h', n'⟩
        have hrec := ih (setI nums' i v) _ h' n' (by omega) (fun m hm => by
          by_cases e : m = i
          · subst e; rw [setI_self]; omega
          · rw [setI_ne e, hag m (by omega)]; exact hin m (by omega)) (by
            have hc' := hall c (by omega)
            rw [hv] at hc'
            exact allE_congr ok next N lo hi j (i + 1) _ _ _ (by omega) (fun m hm => by
              by_cases e : m = i
              · subst e; rw [setI_self, setI_self]
              · rw [setI_ne e, setI_ne e, hag m (by omega)]) hc') hK'
        rw [← hGG, ← inc_ok hO (by omega)] at hrec
        refine SW.seqRun tok hO (by cbv <;> rfl) (by trivial) ?_
        refine OpsW.apply (by cbv <;> rfl) (show ApplyW Try.prog chooseV _ _ _ from ⟨en123, hrec⟩) fun w st' hk => ?_
        rcases hk with ⟨rfl, nums2, h2, n2, hag2, hst, hk⟩ | ⟨rfl, nums2, h2, n2, hst, hk⟩ <;> obtain ⟨G3, hG3⟩ : ∃ G, flatG 1 (intC nums2) N = G := ⟨_, rfl⟩ <;> rw [hG3] at hst <;> subst hst
        · refine OpsW.run tok hO (by cbv <;> rfl) (by trivial) ?_
          refine SW.cond (t := false) (by cbv <;> rfl) (SW.skip ?_)
          refine SW.run tok hO (by cbv <;> rfl) (by trivial) ?_
          have hinc : O.bin .add .i64 v 1 = lo i + ((c + 1 : Nat) : Int) := by
            subst hO
            show add64 v 1 = _
            rw [add64_in _ _ (by omega) (by omega)]; omega
          refine ⟨(hi i + 1 - (lo i + ((c + 1 : Nat) : Int))).toNat, by omega, _, c + 1, nums2, h2, n2, rfl, ⟨rfl, rfl, rfl, rfl, rfl, rfl, congrArg (fun z => AV.lit (.int .i64 z)) hinc, trivial⟩, by rw [hG3]; rfl, fun m hm => ?_, ?_, by omega, rfl⟩
          · rw [hag2 m (by omega), setI_ne (by omega), hag m hm]
          · show K (foldE next N lo hi j (i + 1) (setI nums i (lo i + c)) _) h2 n2
            rw [hv, ← foldE_congr next N lo hi j (i + 1) (setI nums' i v) (setI nums i v) _ (by omega) fun m hm => by
              by_cases e : m = i
              · subst e; rw [setI_self, setI_self]
              · rw [setI_ne e, setI_ne e, hag m (by omega)]]
            exact hk
        · refine OpsW.run tok hO (by cbv <;> rfl) (by trivial) ?_
          refine SW.cond (t := true) (by cbv <;> rfl) ?_
          refine SW.seqRun tok hO (by cbv <;> rfl) (by trivial) ?_
          exact SW.ret ⟨_, _, rfl, rfl, .inr ⟨rfl, nums2, _, _, by rw [hG3]; rfl, hk⟩⟩
end
end Go.Fz
namespace Go.Fz
open Go.Proofs
set_option maxRecDepth 100000
def chooseVs : AV := .fn (.func 123) [] [.ptr 51 0, .ptr 49 0, .ptr 53 0, .ptr 50 0, .ptr 54 0]
def chHs (y N nw : Nat) (lo hi : Nat → Int) (G : List AV) (h : Hp) : Hp := (54, .cells none false [chooseVs]) :: (53, .cells none false [.sl 52 0 N 1 true]) :: (52, .cells none false G) :: (51, .cells none false [.isl N 2 false (rngC lo hi)]) :: (50, .cells none false [iV nw]) :: (49, .cells none false [.yld y]) :: h
def chOs (y N nw : Nat) (lo hi : Nat → Int) (G : List AV) : Hp := [(54, .cells none false [chooseVs]), (53, .cells none false [.sl 52 0 N 1 true]), (52, .cells none false G), (51, .cells none false [.isl N 2 false (rngC lo hi)]), (50, .cells none false [iV nw]), (49, .cells none false [.yld y])]
section
variable {α : Type}
def chQs (K : α → Hp → Nat → Prop) (stop : Hp → Nat → Prop) (y N nw : Nat) (lo hi : Nat → Int) (A : (Nat → Int) → Prop) (a : α) (v : AV) (st' : St) : Prop :=
  (v = .lit (.bool true) ∧ ∃ nums h n, A nums ∧ st' = ⟨chHs y N nw lo hi (flatG 1 (intC nums) N) h, n⟩ ∧ K a h n) ∨ (v = .lit (.bool false) ∧ ∃ nums h n, st' = ⟨chHs y N nw lo hi (flatG 1 (intC nums) N) h, n⟩ ∧ stop h n)
set_option maxHeartbeats 8000000 in
theorem choose_oks (ok : α → Prop) (K : α → Hp → Nat → Prop) (next : α → (Nat → Int) → α) (stop : Hp → Nat → Prop) (y N nw : Nat) (lo hi : Nat → Int) (hN : N < 100) (h0 : 0 < nw) (hnw : nw ≤ N) (hb : ∀ m, m < N → 0 ≤ lo m ∧ lo m ≤ hi m ∧ hi m ≤ 5000)
    (step : ∀ nums a h n, (∀ m, m < N → lo m ≤ nums m ∧ nums m ≤ hi m) → ok a → K a h n → YieldW Try.prog y [truE (cutF N nums) nw (N - nw)] ⟨chHs y N nw lo hi (flatG 1 (intC nums) N) h, n⟩ (chQs K stop y N nw lo hi (fun f => f = nums) (next a (cutF N nums)))) :
    ∀ j i nums a h n, i + j = N → (∀ m, m < i → lo m ≤ nums m ∧ nums m ≤ hi m) → allE ok next N lo hi j i nums a → K a h n →
      CallW Try.prog 123 [iV i, .ptr 51 0, .ptr 49 0, .ptr 53 0, .ptr 50 0, .ptr 54 0] ⟨chHs y N nw lo hi (flatG 1 (intC nums) N) h, n⟩ (chQs K stop y N nw lo hi (fun f => ∀ m, m < i → f m = nums m) (foldE next N lo hi j i nums a))
  | 0, i, nums, a, h, n, hij, hin, hok, hK => by
    obtain ⟨O, hO⟩ : ∃ O : Ar, O = std := ⟨_, rfl⟩
    obtain rfl : i = N := by omega
    have hs := step nums a h n hin hok hK
    obtain ⟨G, hG⟩ : ∃ G, flatG 1 (intC nums) i = G := ⟨_, rfl⟩
    rw [hG] at hs ⊢
    refine callW_of_body tok Try.func123 rfl ?_
    refine SW.seqRun tok hO (by cbv <;> rfl) (by trivial) ?_
    refine SW.seq ?_
    refine SW.seqRun tok hO (by cbv <;> rfl) (by trivial) ?_
    refine SW.condS (by cbv <;> rfl) (fun h1 => ?_) (fun h1 => ?_)
    rotate_left
    · exfalso
      subst hO; simp [std] at h1
    have c1 := fun (b : Bool) => clone_ok (ex := b) (off := 0) (n := nw) (N := i) (fl := nums) (id := 52) (fm := none) (ro := false) (G := G) (r := intsV nw false (cutF i nums)) (st := ⟨chHs y i nw lo hi G h, n⟩) (by rfl) hG (by omega) (by omega) (Eqv.isl rfl fun p q hp _ => Eqv.of (by show iV (nums (0 + p)) = iV (cutF i nums p); rw [Nat.zero_add]; unfold cutF; rw [if_pos (by omega)])) (intsV_below _ _ _)
    have c2 : ∀ q2 b, (q2 = nw ∨ (nw = i ∧ q2 = 0)) → CallW Try.prog 103 [.sl 52 q2 (i - nw) 1 b] ⟨chHs y i nw lo hi G h, n⟩ (fun v st' => v = intsV (i - nw) false (fun p => cutF i nums (nw + p)) ∧ st' = ⟨chHs y i nw lo hi G h, n⟩) := fun q2 b hq =>
      clone_ok (off := q2) (n := i - nw) (N := i) (fl := nums) (id := 52) (fm := none) (ro := false) (G := G) (r := intsV (i - nw) false (fun p => cutF i nums (nw + p))) (by rfl) hG (by omega) (by omega) (by
        rcases hq with rfl | ⟨hq, _⟩
        · exact Eqv.isl rfl fun p q hp _ => Eqv.of (by show iV (nums (q2 + p)) = iV (cutF i nums (q2 + p)); unfold cutF; rw [if_pos (by omega)])
        · exact Eqv.isl rfl fun p _ hp _ => absurd hp (by omega)) (intsV_below _ _ _)
    refine SW.seqRunD tok mixed hO (by kernel_rfl) (by cbv <;> rfl) (by trivial) ?_
    refine AnyE.cut tok 3 (l := 0) (u := nw) (by kernel_rfl) (by cbv <;> rfl) rfl natOr_lo (by kernel_rfl) (by omega) (by omega) (.inl (by omega)) (by cbv <;> rfl) fun q1 b1 hq1 => ?_
    obtain rfl : q1 = 0 := by omega
    refine AnyE.run tok hO (by kernel_rfl) (by cbv <;> rfl) (by trivial) ?_
    refine AnyE.cut tok 7 (l := nw) (u := i) (by kernel_rfl) (by cbv <;> rfl) natOr_lo rfl (by kernel_rfl) (by omega) (by omega) (by by_cases hq : nw < i; exact .inl hq; exact .inr ⟨by omega, rfl⟩) (by cbv <;> rfl) fun q2 b2 hq2 => ?_
    refine AnyE.callS en103 (c1 b1) (by cbv <;> rfl) (by cbv <;> rfl) ?_
    refine AnyE.run tok hO (by kernel_rfl) (by cbv <;> rfl) (by trivial) ?_
    refine AnyE.callS en103 (c2 q2 b2 (by omega)) (by cbv <;> rfl) (by cbv <;> rfl) ?_
    refine AnyE.run tok hO (by kernel_rfl) (by cbv <;> rfl) (by trivial) ?_
    refine AnyE.apply (c := .yld y) (args := [truE (cutF i nums) nw (i - nw)]) (by cbv <;> rfl) (by cbv <;> rfl) hs fun v st' hk => ?_
    rcases hk with ⟨rfl, nums2, h2, n2, hn2, hst, hk⟩ | ⟨rfl, nums2, h2, n2, hst, hk⟩
    · obtain ⟨G3, hG3⟩ : ∃ G, flatG 1 (intC nums2) i = G := ⟨_, rfl⟩
      rw [hG3] at hst
      subst hst
      refine AnyE.run tok hO (by kernel_rfl) (by cbv <;> rfl) (by trivial) ?_
      exact SW.ret ⟨_, _, rfl, rfl, .inl ⟨rfl, nums2, _, _, fun _ _ => by rw [hn2], by rw [hG3]; rfl, hk⟩⟩
    · obtain ⟨G3, hG3⟩ : ∃ G, flatG 1 (intC nums2) i = G := ⟨_, rfl⟩
      rw [hG3] at hst
      subst hst
      refine AnyE.run tok hO (by kernel_rfl) (by cbv <;> rfl) (by trivial) ?_
      exact SW.ret ⟨_, _, rfl, rfl, .inr ⟨rfl, nums2, _, _, by rw [hG3]; rfl, hk⟩⟩
  | j + 1, i, nums, a, h, n, hij, hin, hall, hK => by
    have ih := choose_oks ok K next stop y N nw lo hi hN h0 hnw hb step j (i + 1)
    obtain ⟨O, hO⟩ : ∃ O : Ar, O = std := ⟨_, rfl⟩
    have hnat : ∀ i : Nat, O.nat (Int.ofNat i) = i := fun i => by subst hO; rfl
    have hiN : i < N := by omega
    obtain ⟨b1, b2, b3⟩ := hb i hiN
    have hi0 : (0 : Int) ≤ Int.ofNat i := Int.natCast_nonneg i
    have hii : 0 ≤ Int.ofNat i ∧ Int.ofNat i < (N : Int) := ⟨hi0, Int.ofNat_lt.2 hiN⟩
    refine callW_of_body tok Try.func123 rfl ?_
    obtain ⟨G, hG⟩ : ∃ G, flatG 1 (intC nums) N = G := ⟨_, rfl⟩
    rw [hG]
    refine SW.seqRun tok hO (by cbv <;> rfl) (by trivial) ?_
    refine SW.seq ?_
    refine SW.seqRun tok hO (by cbv <;> rfl) (by trivial) ?_
    refine SW.condS (by cbv <;> rfl) (fun h1 => ?_) (fun h1 => SW.skip ?_)
    · exfalso
      have : (i : Int) = N := by subst hO; simpa [std] using h1
      omega
    refine SW.seq ?_
    refine SW.seqRun tok hO (by cbv <;> rfl) ?_ ?_
    · exact hii
    refine (SW.block (SW.loop (fun k f st => ∃ (g : Nat → AV) (c : Nat) (nums' : Nat → Int) (h' : Hp) (n' : Nat), f = ⟨⟨47, g⟩, []⟩ ∧ AllP (fun p => g p.1 = p.2) [(0, iV i), (1, .ptr 51 0), (2, .ptr 49 0), (3, .ptr 53 0), (4, .ptr 50 0), (5, .ptr 54 0), (8, iV (lo i + c))] ∧ st = ⟨chHs y N nw lo hi (flatG 1 (intC nums') N) h', n'⟩ ∧
      (∀ m, m < i → nums' m = nums m) ∧ K (foldV (fun v a => foldE next N lo hi j (i + 1) (setI nums i v) a) (lo i) c a) h' n' ∧ lo i + c ≤ hi i + 1 ∧ k = (hi i + 1 - (lo i + c)).toNat) (hi i + 1 - (lo i + (0 : Nat))).toNat ?_ ?_))
    · refine ⟨_, 0, nums, h, n, rfl, ⟨rfl, rfl, rfl, rfl, rfl, rfl, ?_, trivial⟩, by rw [hG]; rfl, fun _ _ => rfl, hK, by omega, rfl⟩
      show iV (lo (O.nat (Int.ofNat i))) = iV (lo i + (0 : Nat))
      rw [hnat]; simp
    · rintro k f st ⟨g, c, nums', h', n', rfl, ⟨g0, g1, g2, g3, g4, g5, g8, _⟩, rfl, hag, hK', hle, rfl⟩
      simp only at g0 g1 g2 g3 g4 g5 g8
      rw [← updT_self g0, ← updT_self g1, ← updT_self g2, ← updT_self g3, ← updT_self g4, ← updT_self g5, ← updT_self g8]
      obtain ⟨G1, hG1⟩ : ∃ G, flatG 1 (intC nums') N = G := ⟨_, rfl⟩
      have hlen : G1.length = N * 1 := by rw [← hG1, flatG_length]
      obtain ⟨v, hv⟩ : ∃ v, lo i + (c : Int) = v := ⟨_, rfl⟩
      rw [hG1, hv]
      refine SW.seq ?_
      refine SW.seqRun tok hO (by cbv <;> rfl) ?_ ?_
      · exact hii
      refine SW.condS (by cbv <;> rfl) (fun h3 => SW.skip ?_) (fun h3 => SW.exit ?_)
      rotate_left
      · have hgt : hi i < v := by
          have : hi (O.nat (Int.ofNat i)) < v := by subst hO; simpa [std] using h3
          rwa [hnat] at this
        have hc : c = (hi i - lo i + 1).toNat := by omega
        refine SW.seqRun tok hO (by cbv <;> rfl) (by trivial) ?_
        refine SW.ret ⟨_, _, rfl, rfl, .inl ⟨rfl, nums', h', n', hag, by rw [hG1]; rfl, ?_⟩⟩
        rw [hc] at hK'; exact hK'
      · have hvle : v ≤ hi i := by
          have : v ≤ hi (O.nat (Int.ofNat i)) := by subst hO; simpa [std] using h3
          rwa [hnat] at this
        refine SW.seq (SW.block ?_)
        refine SW.seq (SW.runN tok hO 3 (by cbv <;> rfl) (by trivial) ?_)
        refine OpsW.idxSl tok (n := i) (by cbv <;> rfl) (by kernel_rfl) hiN fun q hq => ?_
        refine OpsW.stoI tok (id := 52) (G := G1) (by cbv <;> rfl) (by kernel_rfl) (by rfl) (by omega) fun G2 hG2 => OpsW.nil ?_
        have hGG : G2 = flatG 1 (intC (setI nums' i v)) N := by
          rw [hG2, ← hG1, hq, show 0 + i * 1 = i * 1 + 0 by omega]
          exact flatG_set hiN (by omega) (show iV (setI nums' i v i) = _ by rw [setI_self]; rfl) fun p q _ hq hne => by
            have : p ≠ i := fun e => hne ⟨e, by omega⟩
            show iV (setI nums' i v p) = iV (nums' p)
            rw [setI_ne this]
        show SW _ _ _ _ _ ⟨chHs y N nw lo hi G2 h', n'⟩
        have hrec := ih (setI nums' i v) _ h' n' (by omega) (fun m hm => by
          by_cases e : m = i
          · subst e; rw [setI_self]; omega
          · rw [setI_ne e, hag m (by omega)]; exact hin m (by omega)) (by
            have hc' := hall c (by omega)
            rw [hv] at hc'
            exact allE_congr ok next N lo hi j (i + 1) _ _ _ (by omega) (fun m hm => by
              by_cases e : m = i
              · subst e; rw [setI_self, setI_self]
              · rw [setI_ne e, setI_ne e, hag m (by omega)]) hc') hK'
        rw [← hGG, ← inc_ok hO (by omega)] at hrec
        refine SW.seqRun tok hO (by cbv <;> rfl) (by trivial) ?_
        refine OpsW.apply (by cbv <;> rfl) (show ApplyW Try.prog chooseVs _ _ _ from ⟨en123, hrec⟩) fun w st' hk => ?_
        rcases hk with ⟨rfl, nums2, h2, n2, hag2, hst, hk⟩ | ⟨rfl, nums2, h2, n2, hst, hk⟩ <;> obtain ⟨G3, hG3⟩ : ∃ G, flatG 1 (intC nums2) N = G := ⟨_, rfl⟩ <;> rw [hG3] at hst <;> subst hst
        · refine OpsW.run tok hO (by cbv <;> rfl) (by trivial) ?_
          refine SW.cond (t := false) (by cbv <;> rfl) (SW.skip ?_)
          refine SW.run tok hO (by cbv <;> rfl) (by trivial) ?_
          have hinc : O.bin .add .i64 v 1 = lo i + ((c + 1 : Nat) : Int) := by
            subst hO
            show add64 v 1 = _
            rw [add64_in _ _ (by omega) (by omega)]; omega
          refine ⟨(hi i + 1 - (lo i + ((c + 1 : Nat) : Int))).toNat, by omega, _, c + 1, nums2, h2, n2, rfl, ⟨rfl, rfl, rfl, rfl, rfl, rfl, congrArg (fun z => AV.lit (.int .i64 z)) hinc, trivial⟩, by rw [hG3]; rfl, fun m hm => ?_, ?_, by omega, rfl⟩
          · rw [hag2 m (by omega), setI_ne (by omega), hag m hm]
          · show K (foldE next N lo hi j (i + 1) (setI nums i (lo i + c)) _) h2 n2
            rw [hv, ← foldE_congr next N lo hi j (i + 1) (setI nums' i v) (setI nums i v) _ (by omega) fun m hm => by
              by_cases e : m = i
              · subst e; rw [setI_self, setI_self]
              · rw [setI_ne e, setI_ne e, hag m (by omega)]]
            exact hk
        · refine OpsW.run tok hO (by cbv <;> rfl) (by trivial) ?_
          refine SW.cond (t := true) (by cbv <;> rfl) ?_
          refine SW.seqRun tok hO (by cbv <;> rfl) (by trivial) ?_
          exact SW.ret ⟨_, _, rfl, rfl, .inr ⟨rfl, nums2, _, _, by rw [hG3]; rfl, hk⟩⟩
end
end Go.Fz
namespace Go.Fz
set_option maxRecDepth 100000
section
variable {P : Program} {T : Ti}
def PickAll (P : Program) (T : Ti) (ops : Array Oper) (M : List Nat) (rd : Option Nat) (K : Fm → St → Prop) (fuel : Nat) (pend : List (Nat × AV)) (listed : Array Bool) (f : Fm) (st : St) : List Nat → Prop
  | [] => True
  | j :: r => PickE P T ops M rd K fuel pend listed f st j ∧ PickAll P T ops M rd K fuel pend listed f st r
theorem PickAll.ok {ops : Array Oper} {M : List Nat} {rd : Option Nat} {K : Fm → St → Prop} {fuel : Nat} {pend : List (Nat × AV)} {listed : Array Bool} {f : Fm} {st : St} : ∀ {l : List Nat}, PickAll P T ops M rd K fuel pend listed f st l → ∀ j ∈ l, PickE P T ops M rd K fuel pend listed f st j
  | [], _, j, h => by cases h
  | _ :: _, h, j, hj => by
    rcases List.mem_cons.1 hj with rfl | hj
    · exact h.1
    · exact h.2.ok j hj
theorem AnyE.many {ops : Array Oper} {M : List Nat} {rd : Option Nat} {K : Fm → St → Prop} {fuel : Nat} {pend : List (Nat × AV)} {listed : Array Bool} {f : Fm} {st : St} (rs : List Nat) (hr : Region.ready .any ops listed = rs) (hne : rs.isEmpty = false)
    (h : PickAll P T ops M rd K fuel pend listed f st rs) : AnyE P T ops M rd K (fuel + 1) pend listed f st := fun hc hpl hpo => by
  refine AnyD.all hpo hr (by intro e; rw [e] at hne; cases hne) fun k hk => ?_
  have hrm : k ∈ Region.ready .any ops listed := by rw [hr]; exact hk
  obtain ⟨o, pend', hj, hd, h⟩ := h.ok k hk
  refine ⟨o, hj, h.mono fun f' st' ⟨⟨v, hv⟩, hp, hE⟩ => ⟨v, hv, ?_⟩⟩
  rw [hd]
  exact hE (hc.set hrm) (fun p hp => by
    rw [← hd] at hp
    exact getD_set_true (hpl p (List.mem_filter.1 hp).1)) hp
theorem PickE.callQ {ops : Array Oper} {M : List Nat} {rd : Option Nat} {K : Fm → St → Prop} {fuel : Nat} {pend pend' : List (Nat × AV)} {listed : Array Bool} {f : Fm} {st : St} {j : Nat} {g : FuncId} {args : List AV} {r : AV} (hp : Pure P g args r)
    (hd : dropP M j pend = pend') (hc : callAt ops j f = some (g, args)) (hk : AllP (fun p => lightV T ops st.h (putAt ops j f r) p.1 = some p.2) pend') (h : AnyE P T ops M rd K fuel pend' (listed.setIfInBounds j true) (putAt ops j f r) st) : PickE P T ops M rd K fuel pend listed f st j := by
  obtain ⟨o', first, caps, az, ho', hw, hcc, ha, hput⟩ := callAt_ok hc
  subst ha
  rw [hput] at hk h
  exact ⟨o', pend', ho', hd, OpsW.pure hp ho' hw hcc (.nil ⟨⟨_, rfl⟩, (show PendOk T ops pend' (f.put o'.dst r) st.h from fun p hpm => LV.of (hk.ok p hpm)), h⟩)⟩
theorem PickE.callE {ops : Array Oper} {M : List Nat} {rd : Option Nat} {K : Fm → St → Prop} {fuel : Nat} {pend pend' : List (Nat × AV)} {listed : Array Bool} {f : Fm} {st : St} {j : Nat} {g : FuncId} {args : List AV} {k : AV → St → Prop} (he : Enters P g) (hp : CallW P g args st k)
    (hd : dropP M j pend = pend') (hc : callAt ops j f = some (g, args)) (h : ∀ r st', k r st' → AllP (fun p => lightV T ops st'.h (putAt ops j f r) p.1 = some p.2) pend' ∧ AnyE P T ops M rd K fuel pend' (listed.setIfInBounds j true) (putAt ops j f r) st') : PickE P T ops M rd K fuel pend listed f st j := by
  obtain ⟨o', first, caps, az, ho', hw, hcc, ha, hput⟩ := callAt_ok hc
  subst ha
  refine ⟨o', pend', ho', hd, OpsW.call ho' hw hcc (show ApplyW P (.fn (.func g) first caps) az st _ from ⟨he, hp.mono fun v st' hk => .nil ?_⟩)⟩
  obtain ⟨h1, h2⟩ := h v st' hk
  rw [hput] at h1 h2
  exact ⟨⟨_, rfl⟩, (show PendOk T ops pend' (f.put o'.dst v) st'.h from fun p hpm => LV.of (h1.ok p hpm)), h2⟩
theorem SW.ren {rd : Option Nat} {c : Code} {Q : Exit → Fm → St → Prop} {f : Fm} {st : St} (h : SW P rd c (fun e f1 st1 => ∃ ρ f2 st2, WeakR st.n ρ f1 st1 f2 st2 ∧ Q e f2 st2) f st) : SW P rd c Q f st := by
  intro φ w a n h1 h2 h3
  refine wpIn_mono (h φ w a n h1 h2 h3) fun e a' w' hl => ?_
  obtain ⟨f1, st1, φ1, ⟨ρ, f2, st2, hw, hq⟩, he, hr, ha, hf⟩ := hl
  obtain ⟨k1, k2, k3⟩ := hw.ok hr ha
  refine ⟨f2, st2, renF φ1 ρ st2.n, hq, ⟨?_, fun id hid => ?_, he.z⟩, k1, k2, hf.trans k3⟩
  · rw [h2.n]; exact hw.lo
  · show φ1.f (ρ id) = _
    rw [hw.idn id (by rw [← h2.n]; exact hid)]
    exact he.f id hid
def tabR : List (Nat × Nat) → Nat → Nat
  | [], j => j
  | (a, b) :: r, j => match Nat.beq a j with
    | true => b
    | false => tabR r j
theorem tabR_id {n : Nat} : ∀ {l : List (Nat × Nat)}, (l.all fun p => Nat.ble n p.1) = true → ∀ j, j < n → tabR l j = j
  | [], _, _, _ => rfl
  | (a, b) :: r, h, j, hj => by
    simp only [List.all_cons, Bool.and_eq_true] at h
    have : n ≤ a := Nat.le_of_ble_eq_true h.1
    unfold tabR
    cases hb : Nat.beq a j with
    | true => have := Nat.eq_of_beq_eq_true hb; omega
    | false => exact tabR_id h.2 j hj
theorem WeakR.tab {n0 : Nat} {tb : List (Nat × Nat)} {f1 : Fm} {st1 : St} {l : List (Nat × AV)} {len : Nat} {dm : List Nat} {h2 : Hp} {n2 : Nat} (e1 : len = f1.ts.len) (e2 : dm = f1.dm) (e3 : ∀ id ∈ dm, id < n0) (hid : (tb.all fun p => Nat.ble n0 p.1) = true) (lo : n0 ≤ n2)
    (hinj : (h2.all fun p => h2.all fun q => !(Nat.beq (tabR tb p.1) (tabR tb q.1)) || Nat.beq p.1 q.1) = true)
    (get : AllP (fun p => RenV (tabR tb) n2 p.2 (f1.ts.get p.1)) l) (obj : AllP (fun p => p.1 < n2 ∧ ∃ o1, st1.h.get (tabR tb p.1) = some o1 ∧ RenO (tabR tb) n2 p.2 o1 ∧ o1.fam = none) h2) : WeakR n0 (tabR tb) f1 st1 ⟨⟨len, getT l⟩, dm⟩ ⟨h2, n2⟩ := by
  refine WeakR.of (m := n2) e1 e2 e3 (tabR_id hid) lo (fun p hp => get.ok p hp) (fun p hp => ?_) (inj_of hinj)
  obtain ⟨h1, o1, h3, h4, h5⟩ := obj.ok p hp
  exact ⟨h1, o1, h3, h4, .inr h5⟩
end
def bodyF (f : Func) : Code := match f.body with
  | some c => c
  | none => .skip
def restC : Nat → Code → Code
  | 0, c => c
  | k + 1, .seq _ y => restC k y
  | _ + 1, c => c
def nthC (k : Nat) (c : Code) : Code := match restC k c with
  | .seq x _ => x
  | c => c
end Go.Fz
