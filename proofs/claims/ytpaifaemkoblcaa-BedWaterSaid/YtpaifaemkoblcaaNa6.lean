/- Own work of the verifier of watercress: Lb6. -/
import Derived.Test.YtpaifaemkoblcaaNa5
import Derived.Test.YtpaifaemkoblcaaNa0
import Derived.Maps.Keyed
import Derived.Maps.RangeRun
import Derived.DeepKeys4
set_option linter.unusedVariables false
set_option linter.unusedSimpArgs false
set_option linter.unusedVariables false
set_option linter.unusedSimpArgs false
namespace Go.Fz
open Go.Proofs
set_option maxRecDepth 100000
variable {P : Program} {T : Ti}
def PickE (P : Program) (T : Ti) (ops : Array Oper) (M : List Nat) (rd : Option Nat) (K : Fm → St → Prop) (fuel : Nat) (pend : List (Nat × AV)) (listed : Array Bool) (f : Fm) (st : St) (j : Nat) : Prop :=
  ∃ o pend', ops[j]? = some o ∧ dropP M j pend = pend' ∧ OpsW P rd ops [j] (fun f' st' => (∃ v, f' = f.put o.dst v) ∧ PendOk T ops pend' f' st'.h ∧ AnyE P T ops M rd K fuel pend' (listed.setIfInBounds j true) f' st') f st
theorem AnyE.two {ops : Array Oper} {M : List Nat} {rd : Option Nat} {K : Fm → St → Prop} {fuel : Nat} {pend : List (Nat × AV)} {listed : Array Bool} {f : Fm} {st : St} (a b : Nat)
    (hb : (match Region.ready .any ops listed with | [x, y] => Nat.beq x a && Nat.beq y b | _ => false) = true) (h1 : PickE P T ops M rd K fuel pend listed f st a) (h2 : PickE P T ops M rd K fuel pend listed f st b) : AnyE P T ops M rd K (fuel + 1) pend listed f st := fun hc hpl hpo => by
  have hr : Region.ready .any ops listed = [a, b] := by
    split at hb
    · rename_i x y hk
      rw [Bool.and_eq_true] at hb
      rw [hk, Nat.eq_of_beq_eq_true hb.1, Nat.eq_of_beq_eq_true hb.2]
    · cases hb
  refine AnyD.all hpo hr (by simp) fun k hk => ?_
  have hrm : k ∈ Region.ready .any ops listed := by rw [hr]; exact hk
  have hpick : PickE P T ops M rd K fuel pend listed f st k := by
    rcases List.mem_cons.1 hk with rfl | hk
    · exact h1
    · rcases List.mem_cons.1 hk with rfl | hk
      · exact h2
      · cases hk
  obtain ⟨o, pend', hj, hd, h⟩ := hpick
  refine ⟨o, hj, h.mono fun f' st' ⟨⟨v, hv⟩, hp, hE⟩ => ⟨v, hv, ?_⟩⟩
  rw [hd]
  exact hE (hc.set hrm) (fun p hp => by
    rw [← hd] at hp
    exact getD_set_true (hpl p (List.mem_filter.1 hp).1)) hp
theorem PickE.eff (hT : TOk P T) {O : Ar} (hO : O = std) {rd : Option Nat} {ops : Array Oper} {M : List Nat} {K : Fm → St → Prop} {fuel : Nat} {pend pend' : List (Nat × AV)} {listed : Array Bool} {f f' : Fm} {st st' : St} {j : Nat} {cs : List Cond}
    (hd : dropP M j pend = pend') (hR : runO O T ops [j] [] f st = .done cs f' st') (hc : allC cs) (hk : AllP (fun p => lightV T ops st'.h f' p.1 = some p.2) pend') (h : AnyE P T ops M rd K fuel pend' (listed.setIfInBounds j true) f' st') : PickE P T ops M rd K fuel pend listed f st j := by
  obtain ⟨o', v, ho', rfl⟩ := runO_one hR
  exact ⟨o', pend', ho', hd, OpsW.run hT hO (R := .done cs (f.put o'.dst v) st') hR hc ⟨⟨v, rfl⟩, (show PendOk T ops pend' (f.put o'.dst v) st'.h from fun p hp => LV.of (hk.ok p hp)), h⟩⟩
end Go.Fz
namespace Go.Fz
def setI (f : Nat → Int) (w : Nat) (x : Int) (i : Nat) : Int := if i = w then x else f i
theorem setI_self (f : Nat → Int) (w : Nat) (x : Int) : setI f w x w = x := if_pos rfl
theorem setI_ne {f : Nat → Int} {w : Nat} {x : Int} {i : Nat} (h : i ≠ w) : setI f w x i = f i := if_neg h
end Go.Fz
namespace Go.Fz
variable {P : Program} {T : Ti}
structure WeakC (n0 : Nat) (v1 : AV) (st1 : St) (v2 : AV) (st2 : St) : Prop where
  val : v2 = .any ∨ (v2 = v1 ∧ (st2.n = st1.n ∨ Below st2.n v1))
  lo : n0 ≤ st2.n
  hi : st2.n ≤ st1.n
  obj : ∀ id o, st2.h.get id = some o → st1.h.get id = some o ∧ id < st2.n ∧ (st2.n = st1.n ∨ ObjBelow st2.n o)
theorem CPost.weak {φ : Fi} {st : St} {w : World} {k1 k : AV → St → Prop} {e : Ending} {w' : World} (hn : φ.n = st.n) (h : CPost φ st w k1 e w')
    (hk : ∀ v1 st1, k1 v1 st1 → k v1 st1 ∨ ∃ v2 st2, WeakC st.n v1 st1 v2 st2 ∧ k v2 st2) : CPost φ st w k e w' := by
  obtain ⟨v, cv, st', φ', rfl, hkv, hv, he, hr, hf⟩ := h
  rcases hk v st' hkv with h | ⟨v2, st2, hw, h⟩
  · exact ⟨v, cv, st', φ', rfl, h, hv, he, hr, hf⟩
  · have hw0 : Weak st.n ⟨⟨0, fun _ => .any⟩, []⟩ st' ⟨⟨0, fun _ => .any⟩, []⟩ st2 := ⟨rfl, rfl, (fun _ h => nomatch h), fun _ => .inl rfl, hw.lo, hw.hi, hw.obj⟩
    obtain ⟨k1, _, k3⟩ := hw0.ok (a := { tmps := #[], defers := [] }) hr ⟨⟨rfl, fun _ => .any _⟩, rfl, fun _ h => by cases h⟩
    refine ⟨v2, cv, st2, cutN φ' st2.n, rfl, h, ?_, ⟨by rw [hn]; exact hw.lo, he.f, he.z⟩, k1, hf.trans k3⟩
    rcases hw.val with h1 | ⟨h1, h2⟩
    · rw [h1]; exact .any _
    · rw [h1]
      rcases h2 with h2 | h2
      · have hs : cutN φ' st2.n = φ' := by cases φ'; simp only [cutN, h2, ← hr.n]
        rw [hs]; exact hv
      · exact h2 _ _ hv
theorem CallW.weak {g : FuncId} {args : List AV} {st : St} {k1 k : AV → St → Prop} (h : CallW P g args st k1)
    (hk : ∀ v1 st1, k1 v1 st1 → k v1 st1 ∨ ∃ v2 st2, WeakC st.n v1 st1 v2 st2 ∧ k v2 st2) : CallW P g args st k :=
  fun φ w cargs n h1 h2 => (h φ w cargs n h1 h2).mono fun _ _ hc => hc.weak h1.n hk
theorem Hp.get_app : ∀ (R h : Hp) (id : Nat), Hp.get (R ++ h) id = match R.get id with | some o => some o | none => h.get id
  | [], h, id => rfl
  | (i, x) :: r, h, id => by
    by_cases hi : i = id
    · subst hi; simp [Hp.get]
    · simp [Hp.get, hi, Hp.get_app r h id]
theorem Hp.get_appL {R h : Hp} {id : Nat} {o : AObj} (k : R.get id = some o) : Hp.get (R ++ h) id = some o := by rw [Hp.get_app, k]
theorem Hp.get_appR {R h : Hp} {id : Nat} (k : R.get id = none) : Hp.get (R ++ h) id = h.get id := by rw [Hp.get_app, k]
theorem Hp.app_cases {R h : Hp} {id : Nat} {o : AObj} (k : Hp.get (R ++ h) id = some o) : R.get id = some o ∨ (R.get id = none ∧ h.get id = some o) := by
  rw [Hp.get_app] at k
  split at k
  · rename_i o' ho; cases k; exact .inl ho
  · rename_i ho; exact .inr ⟨ho, k⟩
def withR (R : Hp) (st : St) : St := ⟨R ++ st.h, st.n⟩
structure Apart (R : Hp) (st : St) : Prop where
  own : ∀ id o, R.get id = some o → o.own = true
  new : ∀ id o, R.get id = some o → st.h.get id = none
  mates : ∀ i j oi oj, R.get i = some oi → st.h.get j = some oj → ¬ Mates oi oj
theorem Apart.sub {R : Hp} {st : St} (ha : Apart R st) {id : Nat} {o : AObj} (h : st.h.get id = some o) : (withR R st).h.get id = some o := by
  show Hp.get (R ++ st.h) id = _
  rw [Hp.get_appR, h]
  cases hR : R.get id with
  | none => rfl
  | some o' => rw [ha.new id o' hR] at h; cases h
theorem Rel.drop {φ : Fi} {R : Hp} {st : St} {w : World} (ha : Apart R st) (hr : Rel φ (withR R st) w) : Rel φ st w :=
  ⟨hr.n, fun id o h => hr.lt id o (ha.sub h), fun id o h => hr.blk id o (ha.sub h), fun id o h => hr.obj id o (ha.sub h),
   fun i j oi oj hi hj => hr.sep i j oi oj (ha.sub hi) (ha.sub hj), fun id o f h => hr.fam id o f (ha.sub h),
   fun b c hb => let ⟨h1, h2, h3⟩ := hr.froz b c hb; ⟨h1, h2, fun id o h => h3 id o (ha.sub h)⟩⟩
def Owned (st st' : St) : Prop := ∀ id o, st'.h.get id = some o → o.own = true ∨ st.h.get id = some o
theorem CPost.frame {φ : Fi} {R : Hp} {st : St} {w : World} {k : AV → St → Prop} {e : Ending} {w' : World} (ha : Apart R st) (hr : Rel φ (withR R st) w) (h : CPost φ st w k e w')
    (hk : ∀ v st', k v st' → Owned st st') : CPost φ (withR R st) w (fun v s => ∃ st', k v st' ∧ s = withR R st') e w' := by
  obtain ⟨v, cv, st', φ', rfl, hkv, hv, he, hr', hf⟩ := h
  have hR : ∀ {i : Nat} {oi : AObj}, R.get i = some oi → (withR R st).h.get i = some oi := fun h => Hp.get_appL h
  have disj : ∀ {i : Nat} {oi : AObj}, R.get i = some oi → ¬ Owns φ st (φ.f i).b := fun {i oi} hi ⟨j, oj, hj, hjo, hb⟩ => by
    have hij : i ≠ j := fun h => by subst h; rw [ha.new i oi hi] at hj; cases hj
    exact ha.mates i j oi oj hi hj (hr.sep i j oi oj (hR hi) (ha.sub hj) hij (ha.own i oi hi) hb.symm).1
  have lt0 : ∀ {i : Nat} {oi : AObj}, R.get i = some oi → i < φ.n := fun {i oi} hi => by rw [hr.n]; exact hr.lt i oi (hR hi)
  have fi : ∀ {i : Nat} {oi : AObj}, R.get i = some oi → φ'.f i = φ.f i := fun hi => he.f _ (lt0 hi)
  have blk : ∀ {i : Nat} {oi : AObj}, R.get i = some oi → (φ.f i).b < w.heap.size := fun hi => hr.blk _ _ (hR hi)
  have notown : ∀ {i : Nat} {oi : AObj}, R.get i = some oi → ¬ Owns φ' st' (φ.f i).b := fun hi ho =>
    (hf.own _ ho).elim (disj hi) fun hl => by have := blk hi; omega
  have hmono : ∀ {k : Nat}, Owns φ st k → Owns φ (withR R st) k := fun ⟨id, o, h, ho, hb⟩ => ⟨id, o, ha.sub h, ho, hb⟩
  have hn : st.n ≤ st'.n := by have := he.n; rw [hr.n, hr'.n] at this; exact this
  refine ⟨v, cv, withR R st', φ', rfl, ⟨st', hkv, rfl⟩, hv, he, ⟨hr'.n, fun id o h => ?_, fun id o h => ?_, fun id o h => ?_, fun i j oi oj hi hj hij hio hb => ?_, fun id o f h hfm => ?_, fun b c hb => ?_⟩,
    ⟨hf.os, hf.tape, hf.output, hf.size, fun k hk ho => hf.block k hk fun h => ho (hmono h), fun k ⟨id, o, h, ho, hb⟩ => ?_, fun b c hb => ?_⟩⟩
  · rcases Hp.app_cases h with h | ⟨_, h⟩
    · exact Nat.lt_of_lt_of_le (hr.lt id o (hR h)) hn
    · exact hr'.lt id o h
  · rcases Hp.app_cases h with h | ⟨_, h⟩
    · rw [fi h]; exact Nat.lt_of_lt_of_le (blk h) hf.size
    · exact hr'.blk id o h
  · rcases Hp.app_cases h with h | ⟨_, h⟩
    · exact (hr.obj id o (hR h)).same he (lt0 h) (hf.block _ (blk h) (disj h))
    · exact hr'.obj id o h
  · rcases Hp.app_cases hi with hi | ⟨_, hi⟩ <;> rcases Hp.app_cases hj with hj | ⟨_, hj⟩
    · rw [fi hi, fi hj] at *
      exact hr.sep i j oi oj (hR hi) (hR hj) hij hio hb
    · exfalso
      rw [fi hi] at hb
      rcases hk v st' hkv j oj hj with ho | ho
      · exact notown hi ⟨j, oj, hj, ho, hb.symm⟩
      · have hjn : j < φ.n := by rw [hr.n]; exact hr.lt j oj (ha.sub ho)
        rw [he.f j hjn] at hb
        exact ha.mates i j oi oj hi ho (hr.sep i j oi oj (hR hi) (ha.sub ho) hij hio hb).1
    · exfalso
      rw [fi hj] at hb
      exact notown hj ⟨i, oi, hi, hio, hb⟩
    · exact hr'.sep i j oi oj hi hj hij hio hb
  · rcases Hp.app_cases h with h | ⟨_, h⟩
    · exact Nat.lt_of_lt_of_le (hr.fam id o f (hR h) hfm) hn
    · exact hr'.fam id o f h hfm
  · obtain ⟨h1, h2, h3⟩ := hr'.froz b c hb
    refine ⟨h1, h2, fun id o h hown => ?_⟩
    rcases Hp.app_cases h with h | ⟨_, h⟩
    · rw [fi h]
      rcases hf.zs b c hb with hz | hz | hz
      · exact (hr.froz b c hz).2.2 id o (hR h) hown
      · exact fun hbb => disj h (by rw [hbb]; exact hz)
      · have := blk h; omega
    · exact h3 id o h hown
  · rcases Hp.app_cases h with h | ⟨_, h⟩
    · rw [fi h] at hb
      exact .inl ⟨id, o, hR h, ho, hb⟩
    · exact (hf.own k ⟨id, o, h, ho, hb⟩).imp hmono fun h => h
  · exact (hf.zs b c hb).imp (fun h => h) fun h => h.imp hmono fun h => h
theorem CallW.frame {g : FuncId} {args : List AV} {R : Hp} {st : St} {k : AV → St → Prop} (ha : Apart R st) (h : CallW P g args st k) (hk : ∀ v st', k v st' → Owned st st') :
    CallW P g args (withR R st) (fun v s => ∃ st', k v st' ∧ s = withR R st') :=
  fun φ w cargs n h1 h2 => (h φ w cargs n (h1.drop ha) h2).mono fun _ _ hc => hc.frame ha h1 hk
theorem YieldW.frame {id : Nat} {args : List AV} {R : Hp} {st : St} {k : AV → St → Prop} (ha : Apart R st) (h : YieldW P id args st k) (hk : ∀ v st', k v st' → Owned st st') :
    YieldW P id args (withR R st) (fun v s => ∃ st', k v st' ∧ s = withR R st') :=
  fun φ w cargs n h1 h2 h3 => by
    obtain ⟨fn, tmps, assign, body, h4, h5⟩ := h φ w cargs n (h1.drop ha) h2 h3
    exact ⟨fn, tmps, assign, body, h4, h5.mono fun _ _ hc => hc.frame ha h1 hk⟩
def applyAt (ops : Array Oper) (i : Nat) (f : Fm) : Option (AV × List AV) := match ops[i]? with
  | none => none
  | some o => match wantA ops f.ts o with
    | some true => callO (Operand.av f.ts) o
    | _ => none
theorem applyAt_ok {ops : Array Oper} {i : Nat} {f : Fm} {c : AV} {args : List AV} (h : applyAt ops i f = some (c, args)) :
    ∃ o, ops[i]? = some o ∧ wantA ops f.ts o = some true ∧ callO (Operand.av f.ts) o = some (c, args) ∧ ∀ v, putAt ops i f v = f.put o.dst v := by
  unfold applyAt at h
  split at h
  · cases h
  · rename_i o ho
    split at h
    · rename_i hw
      exact ⟨o, ho, hw, h, fun v => by simp [putAt, ho]⟩
    · cases h
theorem OpsW.apply {rd : Option Nat} {ops : Array Oper} {i : Nat} {l : List Nat} {K : Fm → St → Prop} {f : Fm} {st : St} {c : AV} {args : List AV} (hc : applyAt ops i f = some (c, args))
    {k : AV → St → Prop} (ha : ApplyW P c args st k) (h : ∀ v st', k v st' → OpsW P rd ops l K (putAt ops i f v) st') : OpsW P rd ops (i :: l) K f st := by
  obtain ⟨o, ho, hw, hcc, hput⟩ := applyAt_ok hc
  exact OpsW.call ho hw hcc (ha.mono fun v st' hk => by have := h v st' hk; rw [hput] at this; exact this)
theorem AnyE.apply {rd : Option Nat} {ops : Array Oper} {M : List Nat} {K : Fm → St → Prop} {fuel : Nat} {pend : List (Nat × AV)} {listed : Array Bool} {f : Fm} {st : St} {j : Nat} {c : AV} {args : List AV}
    (hj : onlyD ops M pend listed = some (j, [])) (hc : applyAt ops j f = some (c, args)) {k : AV → St → Prop} (ha : ApplyW P c args st k)
    (h : ∀ v st', k v st' → AnyE P T ops M rd K fuel [] (listed.setIfInBounds j true) (putAt ops j f v) st') : AnyE P T ops M rd K (fuel + 1) pend listed f st := fun k1 k2 k3 => by
  unfold onlyD at hj
  split at hj
  · rename_i j' hr
    split at hj
    · rename_i o ho
      split at hj
      · simp only [Option.some.injEq, Prod.mk.injEq] at hj
        obtain ⟨rfl, hd⟩ := hj
        obtain ⟨o', ho', hw, hcc, hput⟩ := applyAt_ok hc
        rw [ho] at ho'; cases ho'
        refine AnyE.one j' ho (by rw [hr]; exact Nat.beq_refl j') [] hd (OpsW.call ho hw hcc (ha.mono fun v st' hk => .nil ⟨⟨v, rfl⟩, (fun p hp => absurd hp List.not_mem_nil), ?_⟩)) k1 k2 k3
        have := h v st' hk
        rw [hput] at this
        exact this
      · cases hj
    · cases hj
  · cases hj
end Go.Fz
namespace Go.Fz
variable {P : Program} {T : Ti}
def notZ (j : Nat) : Bool := !(Nat.beq j 0)
def roS (cs : List AV) : St := ⟨[(0, .cells none true cs)], 1⟩
theorem roS_get {cs : List AV} {id : Nat} {o : AObj} (h : (roS cs).h.get id = some o) : id = 0 ∧ o = .cells none true cs := by
  simp only [roS, Hp.get] at h
  split at h
  · rename_i hi; cases h; exact ⟨hi.symm, rfl⟩
  · cases h
theorem call_ro {g : FuncId} {args args2 : List AV} {r : AV} {m id : Nat} {fm : Option Nat} {ro : Bool} {cs : List AV} {st : St} (hg : st.h.get id = some (.cells fm ro cs)) (hcs : ∀ a ∈ cs, Below 0 a) (hr : Below 0 r)
    (ha : ∀ (φ : Fi) (us : List Value), VRL φ args us → VRL ⟨fun _ => φ.f id, 1, φ.z⟩ args2 us)
    (h : CallW P g args2 (roS cs) (fun v st' => freeB st'.h notZ = true ∧ Eqv (frz st'.h notZ m v) r)) : CallW P g args st (fun v st' => v = r ∧ st' = st) := by
  intro φ w cargs n hrel hargs
  have hrel0 : Rel ⟨fun _ => φ.f id, 1, φ.z⟩ (roS cs) w := by
    refine ⟨rfl, fun j o h => ?_, fun j o h => ?_, fun j o h => ?_, fun i j oi oj hi hj hij _ _ => ?_, fun j o f h hf => ?_, fun b c hb => ⟨(hrel.froz b c hb).1, (hrel.froz b c hb).2.1, fun j o h ho => ?_⟩⟩
    · obtain ⟨rfl, rfl⟩ := roS_get h; exact Nat.zero_lt_one
    · obtain ⟨rfl, rfl⟩ := roS_get h; exact hrel.blk id _ hg
    · obtain ⟨rfl, rfl⟩ := roS_get h
      refine ⟨fun i a hi => ?_, fun h => by cases h⟩
      obtain ⟨v, h1, h2⟩ := (hrel.obj id _ hg).1 i a hi
      refine ⟨v, h1, ?_⟩
      have h3 := hcs a (List.mem_of_getElem? hi) _ _ h2
      exact VR.mono (φ := ⟨φ.f, 0, φ.z⟩) (φ' := ⟨fun _ => φ.f id, 1, φ.z⟩) ⟨Nat.zero_le _, fun id hid => absurd hid (Nat.not_lt_zero id), fun b c hb => hb⟩ h3
    · exact absurd ((roS_get hi).1.trans (roS_get hj).1.symm) hij
    · obtain ⟨rfl, rfl⟩ := roS_get h; cases hf
    · obtain ⟨rfl, rfl⟩ := roS_get h; cases ho
  refine (h ⟨fun _ => φ.f id, 1, φ.z⟩ w cargs n hrel0 (ha φ _ hargs)).mono fun e w1 hp => ?_
  obtain ⟨v, cv, st1, φ1, rfl, ⟨hfree, hv⟩, hvr, hext, hrel1, hfr⟩ := hp
  obtain ⟨hrel2, hfr2⟩ := hrel1.freeze hfree
  have hvr2 := frz_ok (D := notZ) hrel1 m hvr
  replace hvr2 := hv _ _ hvr2
  have hfr3 := hfr.trans hfr2
  have hnone : ∀ b, ¬ Owns ⟨fun _ => φ.f id, 1, φ.z⟩ (roS cs) b := fun b ⟨j, o, h, ho, _⟩ => by obtain ⟨rfl, rfl⟩ := roS_get h; cases ho
  have hzs : ∀ b c, zOf φ1 st1.h notZ w1 b = some c → φ.z b = some c ∨ w.heap.size ≤ b := fun b c hb => (hfr3.zs b c hb).elim .inl fun h => h.elim (fun ho => absurd ho (hnone b)) .inr
  have hext3 : Ext φ ⟨φ.f, φ.n, zOf φ1 st1.h notZ w1⟩ := ⟨Nat.le_refl _, fun _ _ => rfl, fun b c hb => zOf_old (hext.z b c hb)⟩
  have hsame : ∀ k, k < w.heap.size → w1.heap[k]? = w.heap[k]? := fun k hk => hfr3.block k hk (hnone k)
  refine ⟨r, cv, st, ⟨φ.f, φ.n, zOf φ1 st1.h notZ w1⟩, rfl, ⟨rfl, rfl⟩, ?_, hext3, ?_, ?_⟩
  · have h1' := hr _ _ hvr2
    exact VR.mono (φ := ⟨φ1.f, 0, zOf φ1 st1.h notZ w1⟩) (φ' := ⟨φ.f, φ.n, zOf φ1 st1.h notZ w1⟩) ⟨Nat.zero_le _, fun id hid => absurd hid (Nat.not_lt_zero id), fun b c hb => hb⟩ h1'
  · refine ⟨hrel.n, hrel.lt, fun id o ho => Nat.lt_of_lt_of_le (hrel.blk id o ho) hfr3.size, fun id o ho => (hrel.obj id o ho).same hext3 (by rw [hrel.n]; exact hrel.lt id o ho) (hsame _ (hrel.blk id o ho)), hrel.sep, hrel.fam, fun b c hb => ?_⟩
    obtain ⟨h1, h2, _⟩ := hrel2.froz b c hb
    refine ⟨h1, h2, fun id o ho hown hbb => ?_⟩
    rcases hzs b c hb with h3 | h3
    · exact (hrel.froz b c h3).2.2 id o ho hown hbb
    · have := hrel.blk id o ho
      have hbb' : (φ.f id).b = b := hbb
      omega
  · exact ⟨hfr3.os, hfr3.tape, hfr3.output, hfr3.size, fun k hk _ => hsame k hk, fun k hk => .inl hk, fun b c hb => (hzs b c hb).elim .inl fun h => .inr (.inr h)⟩
end Go.Fz
namespace Go.Fz
set_option maxRecDepth 100000
section
variable {P : Program} {T : Ti}
theorem OpsW.nilSl (hT : TOk P T) {rd : Option Nat} {ops : Array Oper} {i : Nat} {l : List Nat} {K : Fm → St → Prop} {f : Fm} {st : St} {id off len sz : Nat} {ex : Bool} (hn : nilAt T ops i f = some (.sl id off len sz ex))
    (h0 : OpsW P rd ops l K (putAt ops i f (.lit (.bool false))) st) : OpsW P rd ops (i :: l) K f st := by
  unfold nilAt at hn
  split at hn
  · cases hn
  · rename_i o ho
    split at hn
    · rename_i hw
      split at hn
      · rename_i t x y yt hx
        split at hn
        · rename_i ti hti
          split at hn
          · rename_i e hd
            split at hn
            · rename_i hy
              simp only [Option.some.injEq] at hn
              have hu := (hT t ti hti).und
              rw [hd] at hu
              have hput : ∀ v, putAt ops i f v = f.put o.dst v := fun v => by simp [putAt, ho]
              rw [hput] at h0
              have key : ∀ (b : Bool) (φ : Fi) (w : World) (a : Act) (p : Option Addr) (l c : Nat), ActR φ f a → a.eval x = .slice p l c → p.isNone = b → (execOp a.eval o).run P w = .ok (.value (.bool b)) w := fun b φ w a p l c ha hp hb => by
                have hyy := opR_of ha.ts y
                rw [hy] at hyy
                have hyy := hyy.lit_inv
                have h1 := run_equalIn_slice_nil (P := P) (w := w) 9999 t e p l c hu
                subst hb
                simp only [execOp, hx, hp, hyy]
                simp [eqGuard, Result.andThen, binOp, Op.equal, Op.maxDepth, h1]
              intro φ w a n Q k1 k2 k3 hQ
              have hxx := opR_of k3.ts x
              rw [hn] at hxx
              simp only [wpOpsIn, ho]
              rw [wanted_eq k3 ops hw]
              simp only [if_true]
              refine ⟨fun _ _ => trivial, ?_⟩
              rw [semAt_eq (fun c hc => by rw [hx] at hc; cases hc)]
              obtain ⟨cap, hv, _⟩ := hxx.sl_inv
              rw [key false φ w a _ _ _ k3 hv rfl]
              exact h0 φ w _ n Q k1 k2 (k3.put o.dst (.lit _)) hQ
            · cases hn
          · cases hn
        · cases hn
      · cases hn
    · cases hn
end
end Go.Fz
namespace Go.Fz
open Go.Proofs
set_option maxRecDepth 100000
section
variable {P : Program} {T : Ti}
theorem AnyE.callS {rd : Option Nat} {ops : Array Oper} {M : List Nat} {K : Fm → St → Prop} {fuel : Nat} {pend pend' : List (Nat × AV)} {listed : Array Bool} {f : Fm} {st : St} {j : Nat} {g : FuncId} {args : List AV} {r : AV} (he : Enters P g)
    (hp : CallW P g args st (fun v st' => v = r ∧ st' = st))
    (hj : onlyD ops M pend listed = some (j, pend')) (hc : callAt ops j f = some (g, args)) (h : AnyE P T ops M rd K fuel pend' (listed.setIfInBounds j true) (putAt ops j f r) st) : AnyE P T ops M rd K (fuel + 1) pend listed f st := fun k1 k2 k3 => by
  unfold onlyD at hj
  split at hj
  · rename_i j' hr
    split at hj
    · rename_i o ho
      split at hj
      · rename_i hnl
        cases hj
        obtain ⟨o', first, caps, xs, ho', hw, hcc, ha, hput⟩ := callAt_ok hc
        rw [ho] at ho'; cases ho'
        subst ha
        rw [hput] at h
        refine AnyE.one j ho (by rw [hr]; exact Nat.beq_refl j) _ rfl (OpsW.call ho hw hcc (show ApplyW P (.fn (.func g) first caps) xs st _ from ⟨he, hp.mono fun v st' ⟨h1, h2⟩ => by
          subst h1; subst h2
          refine .nil ⟨⟨_, rfl⟩, fun p hpm => ?_, h⟩
          show LV T ops st'.h (f.put o.dst v) p.1 p.2
          rw [LV_put (fun q hq d hd => noLookB_ok hnl p hpm q hq d hd)]
          exact k3 p (List.mem_filter.1 hpm).1⟩)) k1 k2 k3
      · cases hj
    · cases hj
  · cases hj
theorem Eqv.islX {len sz : Nat} {ex : Bool} {g : Nat → Nat → AV} : Eqv (.isl len sz ex g) (.isl len sz false g) := fun φ u hv => by
  cases hv with
  | isl _ _ _ _ b o cap c us hz hcc hus hcap hex => exact .isl len sz false g b o cap c us hz hcc hus hcap (fun h => by cases h)
  | isl0 => exact .isl0 _ _ _
theorem Eqv.trans {a b c : AV} (h : Eqv a b) (k : Eqv b c) : Eqv a c := fun φ u hv => k φ u (h φ u hv)
end
theorem flatG_part (fl : Nat → Int) (n off len : Nat) (h : off + len ≤ n) : ((flatG 1 (intC fl) n).drop off).take len = flatG 1 (intC fun i => fl (off + i)) len := by
  apply List.ext_getElem?
  intro q
  rw [List.getElem?_take]
  by_cases hq : q < len
  · rw [if_pos hq, List.getElem?_drop]
    have h1 := flatG_get 1 (intC fl) n (off + q) 0 (by omega) (by omega)
    have h2 := flatG_get 1 (intC fun i => fl (off + i)) len q 0 hq (by omega)
    rw [Nat.mul_one, Nat.add_zero] at h1 h2
    rw [h1, h2]; rfl
  · rw [if_neg hq, List.getElem?_eq_none (by rw [flatG_length]; omega)]
theorem clone_app {t id id2 off n : Nat} {ex : Bool} {G : List AV} {st : St} {fm : Option Nat} {ro : Bool} {fl : Nat → Int} {N : Nat} (h : sliceB T t 1 = true) (hx : st.h.get id = some (.cells none false [])) (hy : st.h.get id2 = some (.cells fm ro G)) (hG : flatG 1 (intC fl) N = G) (hoff : off + n ≤ N) (hn : n < 1000) (h0 : 0 < n) :
    appendA T st t t (.sl id 0 0 1 true) (.sl id2 off n 1 ex) = some (.sl st.n 0 n 1 false, st.push (.cells none false (flatG 1 (intC fun i => fl (off + i)) n))) := by
  obtain ⟨i, j, e, ht, hd, he, hz, h5, hb, hb0, hzl⟩ := sliceB_ok h
  have hlen : G.length = N := by rw [← hG, flatG_length, Nat.mul_one]
  have hpart : (G.drop off).take n = flatG 1 (intC fun i => fl (off + i)) n := by rw [← hG]; exact flatG_part fl N off n hoff
  have hone := flatG_one (sz := 1) (intC_one fun i => fl (off + i)) n
  unfold appendA
  simp only [ht, hd, he, slCells, cellsAt, hx, hy, slLen, hz]
  rw [if_pos ⟨trivial, by simp⟩, if_pos ⟨trivial, by omega⟩]
  simp only [Nat.mul_one, hpart, Nat.zero_add]
  rw [if_neg (by rw [hone]; simp; omega), if_neg (by omega)]
  simp
theorem clone_app0 {t id id2 off : Nat} {ex : Bool} {G : List AV} {st : St} {fm : Option Nat} {ro : Bool} (h : sliceB T t 1 = true) (hx : st.h.get id = some (.cells none false [])) (hy : st.h.get id2 = some (.cells fm ro G)) (hoff : off ≤ G.length) :
    appendA T st t t (.sl id 0 0 1 true) (.sl id2 off 0 1 ex) = some (.sl id 0 0 1 true, st) := by
  obtain ⟨i, j, e, ht, hd, he, hz, h5, hb, hb0, hzl⟩ := sliceB_ok h
  unfold appendA
  simp only [ht, hd, he, slCells, cellsAt, hx, hy, slLen, hz]
  rw [if_pos ⟨trivial, by simp⟩, if_pos ⟨trivial, by omega⟩]
  simp only [Nat.zero_mul, List.take_zero, List.all_nil]
  rw [if_neg (by simp; omega)]
  rfl
set_option maxHeartbeats 4000000 in
theorem clone_ok {id off n N : Nat} {fm : Option Nat} {ro ex : Bool} {fl : Nat → Int} {G : List AV} {st : St} {r : AV} (hg : st.h.get id = some (.cells fm ro G)) (hG : flatG 1 (intC fl) N = G) (hoff : off + n ≤ N) (hn : n < 1000) (hr : Eqv (intsV n false fun i => fl (off + i)) r) (hrb : Below 0 r) :
    CallW Try.prog 129 [.sl id off n 1 ex] st (fun v st' => v = r ∧ st' = st) := by
  obtain ⟨O, hO⟩ : ∃ O : Ar, O = std := ⟨_, rfl⟩
  have hlen : G.length = N := by rw [← hG, flatG_length, Nat.mul_one]
  refine call_ro (m := 3) (args2 := [.sl 0 off n 1 ex]) hg (by rw [← hG]; exact flatG_below (fun i k => Below.lit) N) hrb (fun φ us hv => ?_) ?_
  · cases hv with
    | cons h1 h2 =>
      cases h2
      refine .cons ?_ .nil
      cases h1 with
      | sl _ _ _ _ _ cap k1 k2 k3 k4 => exact .sl (φ := ⟨fun _ => φ.f id, 1, φ.z⟩) 0 off n 1 ex cap Nat.zero_lt_one k2 k3 k4
  refine callW_of_body tok Try.func129 rfl ?_
  show SW _ _ _ _ _ ⟨[(0, .cells none true G)], 1⟩
  refine SW.seqRun tok hO (by cbv <;> rfl) (by trivial) ?_
  refine SW.seq ?_
  refine SW.seq (SW.runN tok hO 1 (by cbv <;> rfl) (by trivial) ?_)
  refine OpsW.nilSl tok (by cbv <;> rfl) (OpsW.nil ?_)
  refine SW.cond (t := false) (by cbv <;> rfl) (SW.skip ?_)
  refine SW.seq (SW.runN tok hO 2 (by cbv <;> rfl) (by trivial) ?_)
  rcases Nat.eq_zero_or_pos n with hz | hz
  · subst hz
    refine OpsW.appA tok (by cbv <;> rfl) (by exact clone_app0 (by kernel_rfl) (by rfl) (by rfl) (by omega)) ?_
    refine OpsW.run tok hO (by cbv <;> rfl) (by trivial) ?_
    refine SW.ret ⟨_, _, rfl, rfl, rfl, ?_⟩
    refine Eqv.trans ?_ hr
    show Eqv (.isl 0 1 true _) (.isl 0 1 false _)
    exact Eqv.trans Eqv.islX (Eqv.isl rfl fun i k hi hk => absurd hi (Nat.not_lt_zero i))
  · refine OpsW.appA tok (by cbv <;> rfl) (by exact clone_app (fl := fl) (N := N) (by kernel_rfl) (by rfl) (by rfl) hG hoff hn hz) ?_
    obtain ⟨G2, hG2⟩ : ∃ G2, G2 = flatG 1 (intC fun i => fl (off + i)) n := ⟨_, rfl⟩
    rw [← hG2]
    refine OpsW.run tok hO (by cbv <;> rfl) (by trivial) ?_
    refine SW.ret ⟨_, _, rfl, rfl, rfl, ?_⟩
    refine Eqv.trans ?_ hr
    show Eqv (frz _ notZ 3 (.sl 2 0 n 1 false)) _
    rw [frz_slE (fm := none) (G := G2) rfl rfl (by rw [hG2, flatG_length]; omega), hG2]
    exact Eqv.isl rfl fun i k hi hk => Eqv.of (frz_flat hi hk rfl)
end Go.Fz
namespace Go.Fz
open Go.Proofs
set_option maxRecDepth 100000
section
variable {α : Type}
end
end Go.Fz
namespace Go.Fz
open Go.Proofs
set_option maxRecDepth 100000
section
variable {α : Type}
end
end Go.Fz
namespace Go.Fz
set_option maxRecDepth 100000
section
variable {P : Program} {T : Ti}
def PickAll (P : Program) (T : Ti) (ops : Array Oper) (M : List Nat) (rd : Option Nat) (K : Fm → St → Prop) (fuel : Nat) (pend : List (Nat × AV)) (listed : Array Bool) (f : Fm) (st : St) : List Nat → Prop
  | [] => True
  | j :: r => PickE P T ops M rd K fuel pend listed f st j ∧ PickAll P T ops M rd K fuel pend listed f st r
theorem PickAll.ok {ops : Array Oper} {M : List Nat} {rd : Option Nat} {K : Fm → St → Prop} {fuel : Nat} {pend : List (Nat × AV)} {listed : Array Bool} {f : Fm} {st : St} : ∀ {l : List Nat}, PickAll P T ops M rd K fuel pend listed f st l → ∀ j ∈ l, PickE P T ops M rd K fuel pend listed f st j
  | [], _, j, h => by cases h
  | _ :: _, h, j, hj => by
    rcases List.mem_cons.1 hj with rfl | hj
    · exact h.1
    · exact h.2.ok j hj
theorem AnyE.many {ops : Array Oper} {M : List Nat} {rd : Option Nat} {K : Fm → St → Prop} {fuel : Nat} {pend : List (Nat × AV)} {listed : Array Bool} {f : Fm} {st : St} (rs : List Nat) (hr : Region.ready .any ops listed = rs) (hne : rs.isEmpty = false)
    (h : PickAll P T ops M rd K fuel pend listed f st rs) : AnyE P T ops M rd K (fuel + 1) pend listed f st := fun hc hpl hpo => by
  refine AnyD.all hpo hr (by intro e; rw [e] at hne; cases hne) fun k hk => ?_
  have hrm : k ∈ Region.ready .any ops listed := by rw [hr]; exact hk
  obtain ⟨o, pend', hj, hd, h⟩ := h.ok k hk
  refine ⟨o, hj, h.mono fun f' st' ⟨⟨v, hv⟩, hp, hE⟩ => ⟨v, hv, ?_⟩⟩
  rw [hd]
  exact hE (hc.set hrm) (fun p hp => by
    rw [← hd] at hp
    exact getD_set_true (hpl p (List.mem_filter.1 hp).1)) hp
theorem PickE.callQ {ops : Array Oper} {M : List Nat} {rd : Option Nat} {K : Fm → St → Prop} {fuel : Nat} {pend pend' : List (Nat × AV)} {listed : Array Bool} {f : Fm} {st : St} {j : Nat} {g : FuncId} {args : List AV} {r : AV} (hp : Pure P g args r)
    (hd : dropP M j pend = pend') (hc : callAt ops j f = some (g, args)) (hk : AllP (fun p => lightV T ops st.h (putAt ops j f r) p.1 = some p.2) pend') (h : AnyE P T ops M rd K fuel pend' (listed.setIfInBounds j true) (putAt ops j f r) st) : PickE P T ops M rd K fuel pend listed f st j := by
  obtain ⟨o', first, caps, az, ho', hw, hcc, ha, hput⟩ := callAt_ok hc
  subst ha
  rw [hput] at hk h
  exact ⟨o', pend', ho', hd, OpsW.pure hp ho' hw hcc (.nil ⟨⟨_, rfl⟩, (show PendOk T ops pend' (f.put o'.dst r) st.h from fun p hpm => LV.of (hk.ok p hpm)), h⟩)⟩
theorem PickE.callE {ops : Array Oper} {M : List Nat} {rd : Option Nat} {K : Fm → St → Prop} {fuel : Nat} {pend pend' : List (Nat × AV)} {listed : Array Bool} {f : Fm} {st : St} {j : Nat} {g : FuncId} {args : List AV} {k : AV → St → Prop} (he : Enters P g) (hp : CallW P g args st k)
    (hd : dropP M j pend = pend') (hc : callAt ops j f = some (g, args)) (h : ∀ r st', k r st' → AllP (fun p => lightV T ops st'.h (putAt ops j f r) p.1 = some p.2) pend' ∧ AnyE P T ops M rd K fuel pend' (listed.setIfInBounds j true) (putAt ops j f r) st') : PickE P T ops M rd K fuel pend listed f st j := by
  obtain ⟨o', first, caps, az, ho', hw, hcc, ha, hput⟩ := callAt_ok hc
  subst ha
  refine ⟨o', pend', ho', hd, OpsW.call ho' hw hcc (show ApplyW P (.fn (.func g) first caps) az st _ from ⟨he, hp.mono fun v st' hk => .nil ?_⟩)⟩
  obtain ⟨h1, h2⟩ := h v st' hk
  rw [hput] at h1 h2
  exact ⟨⟨_, rfl⟩, (show PendOk T ops pend' (f.put o'.dst v) st'.h from fun p hpm => LV.of (h1.ok p hpm)), h2⟩
theorem SW.ren {rd : Option Nat} {c : Code} {Q : Exit → Fm → St → Prop} {f : Fm} {st : St} (h : SW P rd c (fun e f1 st1 => ∃ ρ f2 st2, WeakR st.n ρ f1 st1 f2 st2 ∧ Q e f2 st2) f st) : SW P rd c Q f st := by
  intro φ w a n h1 h2 h3
  refine wpIn_mono (h φ w a n h1 h2 h3) fun e a' w' hl => ?_
  obtain ⟨f1, st1, φ1, ⟨ρ, f2, st2, hw, hq⟩, he, hr, ha, hf⟩ := hl
  obtain ⟨k1, k2, k3⟩ := hw.ok hr ha
  refine ⟨f2, st2, renF φ1 ρ st2.n, hq, ⟨?_, fun id hid => ?_, he.z⟩, k1, k2, hf.trans k3⟩
  · rw [h2.n]; exact hw.lo
  · show φ1.f (ρ id) = _
    rw [hw.idn id (by rw [← h2.n]; exact hid)]
    exact he.f id hid
def tabR : List (Nat × Nat) → Nat → Nat
  | [], j => j
  | (a, b) :: r, j => match Nat.beq a j with
    | true => b
    | false => tabR r j
theorem tabR_id {n : Nat} : ∀ {l : List (Nat × Nat)}, (l.all fun p => Nat.ble n p.1) = true → ∀ j, j < n → tabR l j = j
  | [], _, _, _ => rfl
  | (a, b) :: r, h, j, hj => by
    simp only [List.all_cons, Bool.and_eq_true] at h
    have : n ≤ a := Nat.le_of_ble_eq_true h.1
    unfold tabR
    cases hb : Nat.beq a j with
    | true => have := Nat.eq_of_beq_eq_true hb; omega
    | false => exact tabR_id h.2 j hj
theorem WeakR.tab {n0 : Nat} {tb : List (Nat × Nat)} {f1 : Fm} {st1 : St} {l : List (Nat × AV)} {len : Nat} {dm : List Nat} {h2 : Hp} {n2 : Nat} (e1 : len = f1.ts.len) (e2 : dm = f1.dm) (e3 : ∀ id ∈ dm, id < n0) (hid : (tb.all fun p => Nat.ble n0 p.1) = true) (lo : n0 ≤ n2)
    (hinj : (h2.all fun p => h2.all fun q => !(Nat.beq (tabR tb p.1) (tabR tb q.1)) || Nat.beq p.1 q.1) = true)
    (get : AllP (fun p => RenV (tabR tb) n2 p.2 (f1.ts.get p.1)) l) (obj : AllP (fun p => p.1 < n2 ∧ ∃ o1, st1.h.get (tabR tb p.1) = some o1 ∧ RenO (tabR tb) n2 p.2 o1 ∧ o1.fam = none) h2) : WeakR n0 (tabR tb) f1 st1 ⟨⟨len, getT l⟩, dm⟩ ⟨h2, n2⟩ := by
  refine WeakR.of (m := n2) e1 e2 e3 (tabR_id hid) lo (fun p hp => get.ok p hp) (fun p hp => ?_) (inj_of hinj)
  obtain ⟨h1, o1, h3, h4, h5⟩ := obj.ok p hp
  exact ⟨h1, o1, h3, h4, .inr h5⟩
end
def bodyF (f : Func) : Code := match f.body with
  | some c => c
  | none => .skip
def restC : Nat → Code → Code
  | 0, c => c
  | k + 1, .seq _ y => restC k y
  | _ + 1, c => c
def nthC (k : Nat) (c : Code) : Code := match restC k c with
  | .seq x _ => x
  | c => c
end Go.Fz
namespace Go.Fz
variable {P : Program} {T : Ti}
inductive RenX (ρ : Nat → Nat) (n : Nat) : AObj → AObj → Prop
  | base {o2 o1 : AObj} (h : RenO ρ n o2 o1) : RenX ρ n o2 o1
  | map {es : List (AV × AV × Nat)} {clock : Nat} (h : ∀ x ∈ es, Below 0 x.1 ∧ Below 0 x.2.1) : RenX ρ n (.map es clock) (.map es clock)
theorem RenX.own {ρ : Nat → Nat} {n : Nat} {o2 o1 : AObj} (h : RenX ρ n o2 o1) : o2.own = o1.own := by
  cases h with
  | base h => exact h.own
  | map _ => rfl
theorem RenX.fam {ρ : Nat → Nat} {n : Nat} {o2 o1 : AObj} (h : RenX ρ n o2 o1) : o2.fam = none := by
  cases h with
  | base h => cases h <;> rfl
  | map _ => rfl
theorem ObjR.renX {φ : Fi} {w : World} {ρ : Nat → Nat} {n id : Nat} {o2 o1 : AObj} (h : RenX ρ n o2 o1) (ho : ObjR φ w (ρ id) o1) : ObjR (renF φ ρ n) w id o2 := by
  cases h with
  | base h => exact ho.ren h
  | map h =>
    obtain ⟨ces, h1, h2, h3⟩ := ho
    refine ⟨ces, h1, h2, fun i x hx => ?_⟩
    obtain ⟨e, k1, k2, k3, k4⟩ := h3 i x hx
    obtain ⟨b1, b2⟩ := h x (List.mem_of_getElem? hx)
    exact ⟨e, k1, RenV.closed b1 _ _ k2, RenV.closed b2 _ _ k3, k4⟩
structure WeakX (ρ : Nat → Nat) (st1 st2 : St) : Prop where
  obj : ∀ id o, st2.h.get id = some o → id < st2.n ∧ ∃ o1, st1.h.get (ρ id) = some o1 ∧ RenX ρ st2.n o o1
  sep : ∀ i j oi oj, st2.h.get i = some oi → st2.h.get j = some oj → i ≠ j → ∀ pi pj, st1.h.get (ρ i) = some pi → st1.h.get (ρ j) = some pj → ρ i ≠ ρ j ∧ ¬ Mates pi pj
theorem WeakX.ok {ρ : Nat → Nat} {st1 st2 : St} (hw : WeakX ρ st1 st2) {φ : Fi} {w : World} (hr : Rel φ st1 w) : Rel (renF φ ρ st2.n) st2 w ∧ Fr φ st1 w (renF φ ρ st2.n) st2 w := by
  have hown : ∀ k, Owns (renF φ ρ st2.n) st2 k → Owns φ st1 k := fun k ⟨id, o, h, ho, hb⟩ => by
    obtain ⟨_, o1, h1, h2⟩ := hw.obj id o h
    exact ⟨ρ id, o1, h1, by rw [← h2.own]; exact ho, hb⟩
  refine ⟨⟨rfl, fun id o h => (hw.obj id o h).1, fun id o h => ?_, fun id o h => ?_, fun i j oi oj hi hj hij hio hb => ?_, fun id o f h hf => ?_, fun b c hb => ?_⟩,
    ⟨rfl, rfl, rfl, Nat.le_refl _, fun _ _ _ => rfl, fun k hk => .inl (hown k hk), fun b c hb => .inl hb⟩⟩
  · obtain ⟨_, o1, h1, _⟩ := hw.obj id o h
    exact hr.blk _ _ h1
  · obtain ⟨_, o1, h1, h2⟩ := hw.obj id o h
    exact (hr.obj _ _ h1).renX h2
  · exfalso
    obtain ⟨_, pi, h1, h2⟩ := hw.obj i oi hi
    obtain ⟨_, pj, h3, h4⟩ := hw.obj j oj hj
    obtain ⟨k1, k2⟩ := hw.sep i j oi oj hi hj hij pi pj h1 h3
    exact k2 (hr.sep (ρ i) (ρ j) pi pj h1 h3 k1 (by rw [← h2.own]; exact hio) hb).1
  · obtain ⟨_, o1, h1, h2⟩ := hw.obj id o h
    rw [h2.fam] at hf; cases hf
  · obtain ⟨h1, h2, h3⟩ := hr.froz b c hb
    refine ⟨h1, h2, fun id o h ho => ?_⟩
    obtain ⟨_, o1, h4, h5⟩ := hw.obj id o h
    exact h3 _ _ h4 (by rw [← h5.own]; exact ho)
def padF (φ : Fi) (f : Nat → Loc) (n : Nat) : Fi := ⟨fun j => if j < φ.n then φ.f j else f j, n, φ.z⟩
theorem padF_ext (φ : Fi) (f : Nat → Loc) {n : Nat} (h : φ.n ≤ n) : Ext φ (padF φ f n) := ⟨h, fun id hid => if_pos hid, fun _ _ hb => hb⟩
theorem Rel.pad {φ : Fi} {st : St} {w : World} (hr : Rel φ st w) (f : Nat → Loc) {n : Nat} (h : st.n ≤ n) : Rel (padF φ f n) ⟨st.h, n⟩ w ∧ Fr φ st w (padF φ f n) ⟨st.h, n⟩ w := by
  have he := padF_ext φ f (n := n) (by rw [hr.n]; exact h)
  have hf : ∀ id o, st.h.get id = some o → (padF φ f n).f id = φ.f id := fun id o ho => he.f id (by rw [hr.n]; exact hr.lt id o ho)
  refine ⟨⟨rfl, fun id o ho => Nat.lt_of_lt_of_le (hr.lt id o ho) h, fun id o ho => by rw [hf id o ho]; exact hr.blk id o ho, fun id o ho => (hr.obj id o ho).same he (by rw [hr.n]; exact hr.lt id o ho) rfl, fun i j oi oj hi hj hij hio hb => ?_, fun id o g ho hg => Nat.lt_of_lt_of_le (hr.fam id o g ho hg) h, fun b c hb => ?_⟩,
    ⟨rfl, rfl, rfl, Nat.le_refl _, fun _ _ _ => rfl, fun k ⟨id, o, ho, hown, hb⟩ => .inl ⟨id, o, ho, hown, by rw [← hf id o ho]; exact hb⟩, fun b c hb => .inl hb⟩⟩
  · rw [hf i oi hi, hf j oj hj] at *
    exact hr.sep i j oi oj hi hj hij hio hb
  · obtain ⟨h1, h2, h3⟩ := hr.froz b c hb
    exact ⟨h1, h2, fun id o ho hown => by rw [hf id o ho]; exact h3 id o ho hown⟩
structure Back (ρ : Nat → Nat) (st1 st2 : St) (k : AV → St → Prop) (v : AV) (st2' : St) : Prop where
  ex : ∃ st1' σ, k v st1' ∧ Below 0 v ∧ st1.n ≤ st1'.n ∧ WeakX σ ⟨st2'.h, st2'.n + st1'.n⟩ st1' ∧ ∀ id, id < st1.n → (σ id = id ∧ ρ id = id ∧ id < st2.n) ∨ σ id = st2'.n + id
theorem CPost.canon {φ : Fi} {st1 st2 : St} {w : World} {ρ : Nat → Nat} (hr : Rel φ st1 w) (hw : WeakX ρ st1 st2) {k2 k : AV → St → Prop} {e : Ending} {w' : World} (h : CPost (renF φ ρ st2.n) st2 w k2 e w') (hk : ∀ v st2', k2 v st2' → Back ρ st1 st2 k v st2') : CPost φ st1 w k e w' := by
  obtain ⟨v, cv, st2', φ2, rfl, hkv, hv, he, hr2, hf⟩ := h
  obtain ⟨st1', σ, hk1, hbv, hn, hx, hσ⟩ := (hk v st2' hkv).ex
  obtain ⟨p1, p2⟩ := hr2.pad (fun j => φ.f (j - st2'.n)) (n := st2'.n + st1'.n) (Nat.le_add_right _ _)
  obtain ⟨q1, q2⟩ := hx.ok p1
  obtain ⟨_, z2⟩ := hw.ok hr
  have hn2 : φ2.n = st2'.n := hr2.n
  refine ⟨v, cv, st1', renF (padF φ2 (fun j => φ.f (j - st2'.n)) (st2'.n + st1'.n)) σ st1'.n, rfl, hk1, ?_, ⟨?_, fun id hid => ?_, fun b c hb => he.z b c hb⟩, q1, (z2.trans hf).trans (p2.trans q2)⟩
  · exact VR.mono (φ := ⟨φ2.f, 0, φ2.z⟩) (φ' := renF (padF φ2 (fun j => φ.f (j - st2'.n)) (st2'.n + st1'.n)) σ st1'.n) ⟨Nat.zero_le _, fun id hid => absurd hid (Nat.not_lt_zero id), fun b c hb => hb⟩ (hbv φ2 cv hv)
  · show φ.n ≤ st1'.n
    rw [hr.n]; exact hn
  · show (if σ id < φ2.n then φ2.f (σ id) else φ.f (σ id - st2'.n)) = φ.f id
    rcases hσ id (by rw [← hr.n]; exact hid) with ⟨h1, h2, h3⟩ | h1
    · rw [h1]
      have hlt : id < φ2.n := Nat.lt_of_lt_of_le h3 he.n
      rw [if_pos hlt, he.f id h3]
      show φ.f (ρ id) = φ.f id
      rw [h2]
    · rw [h1]
      rw [if_neg (by omega), Nat.add_sub_cancel_left]
theorem YieldW.canon {y : Nat} {args : List AV} {st1 st2 : St} {ρ : Nat → Nat} (hy : ρ y = y) (hy2 : y < st2.n) (hargs : ∀ a ∈ args, Below 0 a) (hw : WeakX ρ st1 st2) {k2 k : AV → St → Prop} (h : YieldW P y args st2 k2)
    (hk : ∀ v st2', k2 v st2' → Back ρ st1 st2 k v st2') : YieldW P y args st1 k := fun φ w cargs n hr _ ha => by
  obtain ⟨r1, _⟩ := hw.ok hr
  have ha' : VRL (renF φ ρ st2.n) args cargs := VRL.mono (φ := ⟨φ.f, 0, φ.z⟩) (φ' := renF φ ρ st2.n) ⟨Nat.zero_le _, fun id hid => absurd hid (Nat.not_lt_zero id), fun b c hb => hb⟩ (Below.list hargs ha)
  obtain ⟨fn, tmps, assign, body, h4, h5⟩ := h _ w cargs n r1 hy2 ha'
  have e : (renF φ ρ st2.n).f y = φ.f y := by show φ.f (ρ y) = φ.f y; rw [hy]
  rw [e] at h4 h5
  exact ⟨fn, tmps, assign, body, h4, h5.mono fun _ _ hc => hc.canon hr hw hk⟩
theorem CallW.pad {g : FuncId} {args : List AV} {st : St} {n : Nat} {k : AV → St → Prop} (hn : st.n ≤ n) (h : CallW P g args ⟨st.h, n⟩ k) : CallW P g args st k := fun φ w cargs m hr ha => by
  obtain ⟨p1, p2⟩ := hr.pad φ.f hn
  have he := padF_ext φ φ.f (n := n) (by rw [hr.n]; exact hn)
  refine (h _ w cargs m p1 (ha.mono he)).mono fun e w' hp => ?_
  obtain ⟨v, cv, st', φ', rfl, hk, hv, he', hr', hf⟩ := hp
  exact ⟨v, cv, st', φ', rfl, hk, hv, he.trans he', hr', p2.trans hf⟩
end Go.Fz
namespace Go.Fz
open Go.Proofs
set_option maxRecDepth 100000
section
variable {P : Program} {T : Ti}
def intsB (T : Ti) (t : TypeId) : Bool := match T t with
  | some i => match i.desc with
    | .slice e => match T e with
      | some j => Nat.beq j.size 1 && Nat.ble j.bytes 65536 && (match j.zero with | [.int .i64 0] => true | _ => false)
      | none => false
    | _ => false
  | none => false
end
section
variable {α : Type}
end
end Go.Fz
namespace Go.Fz
variable {P : Program} {T : Ti}
theorem setHeap_ok {φ : Fi} {st : St} {w : World} (hr : Rel φ st w) {id : Nat} {o o' : AObj} (ho : st.h.get id = some o) (hown : o.own = true) (hfam : o.fam = none) (hfam' : o'.fam = none) (co : Obj) (hobj : ∀ w' : World, w'.heap[(φ.f id).b]? = some co → ObjR φ w' id o') :
    Rel φ ⟨st.h.set id o', st.n⟩ { w with heap := w.heap.setIfInBounds (φ.f id).b co } ∧ Fr φ st w φ ⟨st.h.set id o', st.n⟩ { w with heap := w.heap.setIfInBounds (φ.f id).b co } := by
  have hb := hr.blk id o ho
  refine hr.turn ho hown hfam hfam' rfl rfl rfl (by simp) (fun k hk => ?_) (hobj _ ?_)
  · rw [Array.getElem?_setIfInBounds_ne (Ne.symm hk)]
  · simp [hb]
def mapD (T : Ti) (t : TypeId) : Option TypeId := match T t with
  | some i => match i.desc with
    | .map k _ => some k
    | _ => none
  | none => none
theorem mapD_ok (hT : TOk P T) {t k : TypeId} (h : mapD T t = some k) : ∃ e, P.underlying t = some (.map k e) := by
  unfold mapD at h
  split at h
  · rename_i i hi
    split at h
    · rename_i k' e hd
      cases h
      exact ⟨e, by rw [← hd]; exact (hT t i hi).und⟩
    · cases h
  · cases h
structure KeyF (P : Program) (kt : TypeId) {β : Type} (V : β → AV) where
  den : β → Value
  val : ∀ (φ : Fi) (b : β) (u : Value), VR φ (V b) u → u = den b
  key : ∀ b, ∃ l, keyOf P kt (den b) = some l
  inj : ∀ b c, den b = den c → b = c
def mapE {β : Type} (V : β → AV) (E : List (β × Nat)) : List (AV × AV × Nat) := E.map fun p => (V p.1, .lit (.bool true), p.2)
def updE {β : Type} [DecidableEq β] (E : List (β × Nat)) (b : β) (clock : Nat) : List (β × Nat) := if b ∈ E.map (·.1) then E else E ++ [(b, clock)]
def updC {β : Type} [DecidableEq β] (E : List (β × Nat)) (b : β) (clock : Nat) : Nat := if b ∈ E.map (·.1) then clock else clock + 1
theorem mapUpd_ok {hT : TOk P T} {φ : Fi} {st : St} {w : World} {t kt : TypeId} {β : Type} [DecidableEq β] {V : β → AV} (K : Maps.Keyed P kt) (F : KeyF P kt V) {b : β} {u ku vu : Value} {id clock : Nat} {E : List (β × Nat)} (hr : Rel φ st w) (ha : VR φ (.mp id) u) (hku : VR φ (V b) ku) (hvu : VR φ (.lit (.bool true)) vu)
    (hd : mapD T t = some kt) (hm : st.h.get id = some (.map (mapE V E) clock)) :
    ∃ w', (Instr.mapUpdate t u ku vu).run P w = .ok () w' ∧ Rel φ ⟨st.h.set id (.map (mapE V (updE E b clock)) (updC E b clock)), st.n⟩ w' ∧ Fr φ st w φ ⟨st.h.set id (.map (mapE V (updE E b clock)) (updC E b clock)), st.n⟩ w' := by
  obtain ⟨e, hu⟩ := mapD_ok hT hd
  obtain ⟨rfl, hid⟩ := ha.mp_inv
  obtain rfl := hvu.lit_inv
  obtain rfl := F.val φ b ku hku
  obtain ⟨lx, hlx⟩ := F.key b
  obtain ⟨ces, hb, hsz, hes⟩ := hr.obj id _ hm
  have hlen : (mapE V E).length = E.length := by simp [mapE]
  rw [hlen] at hsz
  have hent : ∀ (i : Nat) (p : β × Nat), E[i]? = some p → ∃ e, ces[i]? = some e ∧ e.key = F.den p.1 ∧ e.val = .bool true ∧ e.born = p.2 := fun i p hp => by
    obtain ⟨e, h1, h2, h3, h4⟩ := hes i (V p.1, .lit (.bool true), p.2) (by simp [mapE, hp])
    exact ⟨e, h1, F.val φ p.1 _ h2, h3.lit_inv, h4⟩
  have hall : ∀ e ∈ ces.toList, ∃ p, p ∈ E ∧ e.key = F.den p.1 := fun e he => by
    obtain ⟨i, hi, he2⟩ := List.getElem_of_mem he
    have hil : i < E.length := by rw [← hsz]; simpa using hi
    obtain ⟨e', h1, h2, _⟩ := hent i E[i] (List.getElem?_eq_getElem hil)
    have : e' = e := by
      rw [← Array.getElem?_toList, List.getElem?_eq_getElem hi, he2] at h1
      exact (Option.some.inj h1).symm
    subst this
    exact ⟨E[i], List.getElem_mem hil, h2⟩
  have hfind := K.find w hlx ces.toList fun e he => by
    obtain ⟨p, _, h2⟩ := hall e he
    rw [h2]; exact F.key p.1
  have hcheck := K.check w false hlx
  rcases hfind with ⟨hrun, hne⟩ | ⟨j, e0, hrun, hj, hje⟩
  · have hnot : b ∉ E.map (·.1) := fun hin => by
      obtain ⟨p, hp, hpb⟩ := List.mem_map.1 hin
      obtain ⟨i, hi, rfl⟩ := List.getElem_of_mem hp
      obtain ⟨e, h1, h2, _⟩ := hent i E[i] (List.getElem?_eq_getElem hi)
      rw [← Array.getElem?_toList] at h1
      exact hne e (List.mem_of_getElem? h1) (by rw [h2, hpb])
    have e1 : updE E b clock = E ++ [(b, clock)] := if_neg hnot
    have e2 : updC E b clock = clock + 1 := if_neg hnot
    rw [e1, e2]
    have := setHeap_ok (o' := .map (mapE V (E ++ [(b, clock)])) (clock + 1)) hr hm rfl rfl rfl (.map (ces.push { key := F.den b, val := .bool true, born := clock }) (clock + 1)) (fun w' hw' => ⟨_, hw', by simp [hsz, mapE], fun i x hx => by
      by_cases hi : i < E.length
      · have hx2 : (mapE V E)[i]? = some x := by
          simp only [mapE, List.map_append] at hx ⊢
          rwa [List.getElem?_append_left (by simpa using hi)] at hx
        obtain ⟨e, k1, k2⟩ := hes i x hx2
        exact ⟨e, by rw [Array.getElem?_push_lt (by omega), ← k1, Array.getElem?_eq_getElem (by omega)], k2⟩
      · have hie : i = E.length := by
          have : i < (mapE V (E ++ [(b, clock)])).length := (List.getElem?_eq_some_iff.1 hx).1
          simp [mapE] at this; omega
        subst hie
        have hxx : x = (V b, .lit (.bool true), clock) := by
          simp [mapE] at hx; exact hx.symm
        subst hxx
        exact ⟨{ key := F.den b, val := .bool true, born := clock }, by rw [← hsz]; simp, hku, .lit _, rfl⟩⟩)
    refine ⟨_, ?_, this.1, this.2⟩
    simp [Instr.mapUpdate, run_underlying hu, MapKept.run_getObj_map hb, hcheck, hrun, MapKept.run_setObj_map _ hb, Result.andThen]
  · have hjl : j < E.length := by
      have : j < ces.toList.length := (List.getElem?_eq_some_iff.1 hj).1
      rw [← hsz]; simpa using this
    have hjc : ces[j]? = some e0 := by rw [← Array.getElem?_toList]; exact hj
    obtain ⟨e', k1, k2, k3, k4⟩ := hent j E[j] (List.getElem?_eq_getElem hjl)
    have hee : e' = e0 := by rw [hjc] at k1; exact (Option.some.inj k1).symm
    subst hee
    have hin : b ∈ E.map (·.1) := List.mem_map.2 ⟨E[j], List.getElem_mem hjl, F.inj _ _ (by rw [← k2, hje])⟩
    have e1 : updE E b clock = E := if_pos hin
    have e2 : updC E b clock = clock := if_pos hin
    rw [e1, e2]
    have := setHeap_ok (o' := .map (mapE V E) clock) hr hm rfl rfl rfl (.map (ces.modify j fun e => { e with key := F.den b, val := .bool true }) clock) (fun w' hw' => ⟨_, hw', by simp [hsz, hlen], fun i x hx => by
      by_cases hi : i = j
      · subst hi
        obtain ⟨e, q1, q2, q3, q4⟩ := hes i x hx
        have : e = e' := by rw [hjc] at q1; exact (Option.some.inj q1).symm
        subst this
        refine ⟨{ e with key := F.den b, val := .bool true }, by simp [Array.getElem?_modify, hjc], ?_, ?_, q4⟩
        · show VR φ x.1 (F.den b)
          rw [← hje]; exact q2
        · show VR φ x.2.1 (.bool true)
          rw [← k3]; exact q3
      · obtain ⟨e, q1, q2⟩ := hes i x hx
        exact ⟨e, by simp [Array.getElem?_modify, Ne.symm hi, q1], q2⟩⟩)
    refine ⟨_, ?_, this.1, this.2⟩
    have hstay := K.stays w hlx
    simp [Instr.mapUpdate, run_underlying hu, MapKept.run_getObj_map hb, hcheck, hrun, hjc, hje, hstay, MapKept.run_setObj_map _ hb, Result.andThen]
def updAt (ops : Array Oper) (i : Nat) (f : Fm) : Option (TypeId × AV × AV × AV) := match ops[i]? with
  | none => none
  | some o => match wantA ops f.ts o with
    | some true => match o.op with
      | .mapUpdate t m k v => some (t, Operand.av f.ts m, Operand.av f.ts k, Operand.av f.ts v)
      | _ => none
    | _ => none
theorem OpsW.mapUpd (hT : TOk P T) {rd : Option Nat} {ops : Array Oper} {L : Fm → St → Prop} {f : Fm} {st : St} {i : Nat} {l : List Nat} {t kt : TypeId} {β : Type} [DecidableEq β] {V : β → AV} (K : Maps.Keyed P kt) (F : KeyF P kt V) {b : β} {id clock : Nat} {E : List (β × Nat)}
    (hx : updAt ops i f = some (t, .mp id, V b, .lit (.bool true))) (hd : mapD T t = some kt) (hm : st.h.get id = some (.map (mapE V E) clock))
    (h : OpsW P rd ops l L (putAt ops i f undA) ⟨st.h.set id (.map (mapE V (updE E b clock)) (updC E b clock)), st.n⟩) : OpsW P rd ops (i :: l) L f st := by
  unfold updAt at hx
  split at hx
  · cases hx
  · rename_i o ho
    split at hx
    · rename_i hw
      split at hx
      · rename_i t' m k v hop
        simp only [Option.some.injEq, Prod.mk.injEq] at hx
        obtain ⟨rfl, e2, e3, e4⟩ := hx
        have hput : ∀ v, putAt ops i f v = f.put o.dst v := fun v => by simp [putAt, ho]
        rw [hput] at h
        refine OpsW.value ho hw (fun c hc => by rw [hop] at hc; cases hc) (fun φ w a h2 h3 => ?_) h
        have hρ := opR_of h3.ts
        have a1 := hρ m
        have a2 := hρ k
        have a3 := hρ v
        rw [e2] at a1; rw [e3] at a2; rw [e4] at a3
        obtain ⟨w', k2, k3, k4⟩ := mapUpd_ok (hT := hT) K F h2 a1 a2 a3 hd hm
        exact ⟨φ, w', undef, .inr ⟨by simp [execOp, hop, k2, Result.andThen], rfl⟩, .lit _, k3, Ext.refl _, k4⟩
      · cases hx
    · cases hx
end Go.Fz
namespace Go.Fz
open Go.Proofs
set_option maxRecDepth 100000
abbrev Mk := Bool × Bool × Bool × Bool × Bool
theorem lt_of_ble {a b : Nat} (h : Nat.ble (a + 1) b = true) : a < b := Nat.le_of_ble_eq_true h
theorem laid : laidOutB Try.prog = true := by kernel_rfl
end Go.Fz
namespace Go.Fz
open Go.Proofs
set_option maxRecDepth 100000
end Go.Fz
namespace Go.Fz
open Go.Proofs
set_option maxRecDepth 100000
end Go.Fz
namespace Go.Fz
open Go.Proofs
set_option maxRecDepth 100000
section
variable {α : Type} (next : α → (Nat → Int) → α) (len : α → Nat) (N : Nat) (lo hi : Nat → Int)
end
end Go.Fz
namespace Go.Fz
open Go.Proofs
set_option maxRecDepth 100000
section
variable {P : Program} {T : Ti}
end
section
variable {P : Program}
theorem OpsW.callS {rd : Option Nat} {ops : Array Oper} {i : Nat} {l : List Nat} {K : Fm → St → Prop} {f : Fm} {st : St} {g : FuncId} {args : List AV} {k : AV → St → Prop} (he : Enters P g) (hp : CallW P g args st k) (hc : callAt ops i f = some (g, args))
    (h : ∀ v st', k v st' → OpsW P rd ops l K (putAt ops i f v) st') : OpsW P rd ops (i :: l) K f st := by
  obtain ⟨o, first, caps, az, ho, hw, hcc, ha, hput⟩ := callAt_ok hc
  subst ha
  exact OpsW.call ho hw hcc (show ApplyW P (.fn (.func g) first caps) az st _ from ⟨he, hp.mono fun v st' hk => by have := h v st' hk; rwa [hput] at this⟩)
end
end Go.Fz
namespace Go.Fz
variable {P : Program} {T : Ti}
theorem Hp.filter_get {p : Nat → Bool} : ∀ {h : Hp} {id : Nat} {o : AObj}, h.get id = some o → p id = true → Hp.get (h.filter fun x => p x.1) id = some o
  | [], id, o, h, _ => by simp [Hp.get] at h
  | (i, x) :: r, id, o, h, hp => by
    simp only [Hp.get] at h
    simp only [List.filter_cons]
    split at h
    · rename_i hi; subst hi; cases h
      rw [if_pos hp]; simp [Hp.get]
    · rename_i hi
      have := Hp.filter_get h hp
      split
      · simp only [Hp.get]; rw [if_neg hi]; exact this
      · exact this
def NewV (r : Nat → AV) (id : Nat) (v : AV) : Prop := ∀ (φa φb : Fi) (u : Value) (k : Nat), φb.f k = φa.f id → k < φb.n → φb.z = φa.z → VR φa v u → VR φb (r k) u
theorem NewV.mp {id : Nat} : NewV (fun k => .mp k) id (.mp id) := fun φa φb u k h1 h2 h3 hv => by
  obtain ⟨rfl, _⟩ := hv.mp_inv
  rw [← h1]
  exact VR.mp k h2
structure Fresh (P : Program) (g : FuncId) (args : List AV) (r : Nat → AV) (es : List (AV × AV × Nat)) (clock : Nat) : Prop where
  ent : Enters P g
  call : ∀ st, CallW P g args st (fun v st' => v = r st.n ∧ st' = st.push (.map es clock))
theorem fresh_of_call {g : FuncId} {args : List AV} {r : Nat → AV} {es : List (AV × AV × Nat)} {clock : Nat} (m : Nat) (hent : Enters P g) (ha : AllB 0 args) (hes : ∀ x ∈ es, Below 0 x.1 ∧ Below 0 x.2.1)
    (h : CallW P g args ⟨[], 0⟩ (fun v st' => ∃ id, st'.h.get id = some (.map es clock) ∧ freeB st'.h (fun i => !Nat.beq i id) = true ∧ NewV r id (frz st'.h (fun i => !Nat.beq i id) m v))) : Fresh P g args r es clock := by
  refine ⟨hent, fun st φ w cargs n hrel hargs => ?_⟩
  have hrel0 : Rel ⟨φ.f, 0, φ.z⟩ ⟨[], 0⟩ w := ⟨rfl, fun _ _ h => by simp [Hp.get] at h, fun _ _ h => by simp [Hp.get] at h, fun _ _ h => by simp [Hp.get] at h, fun _ _ _ _ h => by simp [Hp.get] at h, fun _ _ _ h => by simp [Hp.get] at h,
    fun b c hb => ⟨(hrel.froz b c hb).1, (hrel.froz b c hb).2.1, fun _ _ h => by simp [Hp.get] at h⟩⟩
  refine (h ⟨φ.f, 0, φ.z⟩ w cargs n hrel0 (Below.list ha.ok hargs)).mono fun e w1 hp => ?_
  obtain ⟨v, cv, st1, φ1, rfl, ⟨id, hid, hfree, hv⟩, hvr, hext, hrel1, hfr⟩ := hp
  obtain ⟨hrel2, hfr2⟩ := hrel1.freeze hfree
  have hvr2 := frz_ok (D := fun i => !Nat.beq i id) hrel1 m hvr
  have hfr3 := hfr.trans hfr2
  have hnone : ∀ b, ¬ Owns ⟨φ.f, 0, φ.z⟩ ⟨[], 0⟩ b := fun b ⟨id, o, h, _⟩ => by simp [Hp.get] at h
  have hzs : ∀ b c, zOf φ1 st1.h (fun i => !Nat.beq i id) w1 b = some c → φ.z b = some c ∨ w.heap.size ≤ b := fun b c hb => (hfr3.zs b c hb).elim .inl fun h => h.elim (fun ho => absurd ho (hnone b)) .inr
  have hsame : ∀ k, k < w.heap.size → w1.heap[k]? = w.heap[k]? := fun k hk => hfr3.block k hk (hnone k)
  have hnew : w.heap.size ≤ (φ1.f id).b := (hfr.own (φ1.f id).b ⟨id, _, hid, rfl, rfl⟩).elim (fun ho => absurd ho (hnone _)) fun h => h
  have hkeep : (st1.keep fun i => !(fun i => !Nat.beq i id) i).h.get id = some (.map es clock) := Hp.filter_get (p := fun i => !(fun i => !Nat.beq i id) i) hid (by simp [Nat.beq_refl])
  obtain ⟨φ', hφ'⟩ : ∃ φ' : Fi, φ' = ⟨fun j => if j < φ.n then φ.f j else φ1.f id, φ.n + 1, zOf φ1 st1.h (fun i => !Nat.beq i id) w1⟩ := ⟨_, rfl⟩
  have hf1 : ∀ j, j < φ.n → φ'.f j = φ.f j := fun j hj => by rw [hφ']; exact if_pos hj
  have hf2 : φ'.f st.n = φ1.f id := by rw [hφ', ← hrel.n]; exact if_neg (Nat.lt_irrefl _)
  have hz : φ'.z = zOf φ1 st1.h (fun i => !Nat.beq i id) w1 := by rw [hφ']
  have hn : φ'.n = st.n + 1 := by rw [hφ', ← hrel.n]
  have hext3 : Ext φ φ' := ⟨by rw [hn, hrel.n]; omega, hf1, fun b c hb => by rw [hz]; exact zOf_old (hext.z b c hb)⟩
  have hold : ∀ j o, st.h.get j = some o → φ'.f j = φ.f j := fun j o ho => hf1 j (by rw [hrel.n]; exact hrel.lt j o ho)
  refine ⟨r st.n, cv, st.push (.map es clock), φ', rfl, ⟨rfl, rfl⟩, hv (φ1.froz st1.h (fun i => !Nat.beq i id) w1) φ' cv st.n hf2 (by rw [hn]; omega) hz hvr2, hext3, ?_, ?_⟩
  · refine ⟨hn, fun j o hj => ?_, fun j o hj => ?_, fun j o hj => ?_, fun i j oi oj hi hj hij ho hb => ?_, fun j o f hj hf => ?_, fun b c hb => ?_⟩
    · rw [St.get_push] at hj
      split at hj
      · show j < st.n + 1; omega
      · show j < st.n + 1; have := hrel.lt j o hj; omega
    · rw [St.get_push] at hj
      split at hj
      · rename_i e; subst e; rw [hf2]; exact hrel1.blk id _ hid
      · rw [hold j o hj]; have := hrel.blk j o hj; have := hfr3.size; omega
    · rw [St.get_push] at hj
      split at hj
      · rename_i e; subst e; cases hj
        obtain ⟨ces, h1, h2, h3⟩ := hrel1.obj id _ hid
        refine ⟨ces, by rw [hf2]; exact h1, h2, fun i x hx => ?_⟩
        obtain ⟨e, k1, k2, k3, k4⟩ := h3 i x hx
        obtain ⟨b1, b2⟩ := hes x (List.mem_of_getElem? hx)
        have hm : Ext ⟨φ1.f, 0, φ1.z⟩ φ' := ⟨Nat.zero_le _, fun id hid => absurd hid (Nat.not_lt_zero id), fun b c hb => by rw [hz]; exact zOf_old hb⟩
        exact ⟨e, k1, VR.mono hm (b1 _ _ k2), VR.mono hm (b2 _ _ k3), k4⟩
      · exact (hrel.obj j o hj).same hext3 (by rw [hrel.n]; exact hrel.lt j o hj) (hsame _ (hrel.blk j o hj))
    · rw [St.get_push] at hi hj
      split at hi
      · rename_i e; subst e
        split at hj
        · rename_i e2; exact absurd e2 hij
        · rw [hf2, hold j oj hj] at hb
          have := hrel.blk j oj hj; omega
      · split at hj
        · rename_i e; subst e
          rw [hf2, hold i oi hi] at hb
          have := hrel.blk i oi hi; omega
        · rw [hold i oi hi, hold j oj hj] at hb ⊢
          exact hrel.sep i j oi oj hi hj hij ho hb
    · rw [St.get_push] at hj
      split at hj
      · cases hj; cases hf
      · have := hrel.fam j o f hj hf; show f < st.n + 1; omega
    · rw [hz] at hb
      obtain ⟨h1, h2, h3⟩ := hrel2.froz b c hb
      refine ⟨h1, h2, fun j o hj hown hbb => ?_⟩
      rw [St.get_push] at hj
      split at hj
      · rename_i e; subst e; cases hj
        rw [hf2] at hbb
        exact h3 id _ hkeep rfl hbb
      · rw [hold j o hj] at hbb
        rcases hzs b c hb with h4 | h4
        · exact (hrel.froz b c h4).2.2 j o hj hown hbb
        · have := hrel.blk j o hj; omega
  · refine ⟨hfr3.os, hfr3.tape, hfr3.output, hfr3.size, fun k hk _ => hsame k hk, fun k ⟨j, o, hj, ho, hb⟩ => ?_, fun b c hb => (hzs b c (by rw [← hz]; exact hb)).elim .inl fun h => .inr (.inr h)⟩
    rw [St.get_push] at hj
    split at hj
    · rename_i e; subst e
      rw [hf2] at hb
      exact .inr (by omega)
    · exact .inl ⟨j, o, hj, ho, by rw [← hb, hold j o hj]⟩
theorem fresh_of_body (hT : TOk P T) {g : FuncId} {fn : Func} {c : Code} {args : List AV} {r : Nat → AV} {es : List (AV × AV × Nat)} {clock : Nat} (m : Nat) (hf : P.funcs[g]? = some fn) (hent : Enters P g) (hb : fn.body = some c) (ha : AllB 0 args) (hes : ∀ x ∈ es, Below 0 x.1 ∧ Below 0 x.2.1)
    (h : SW P none c (retQ T fn (fun v st' => ∃ id, st'.h.get id = some (.map es clock) ∧ freeB st'.h (fun i => !Nat.beq i id) = true ∧ NewV r id (frz st'.h (fun i => !Nat.beq i id) m v))) ⟨Ts.of args fn.ntmps, []⟩ ⟨[], 0⟩) : Fresh P g args r es clock :=
  fresh_of_call m hent ha hes (callW_of_body hT hf hb h)
end Go.Fz
namespace Go.Fz
open Go.Proofs
set_option maxRecDepth 100000
end Go.Fz
namespace Go.Fz
open Go.Proofs
set_option maxRecDepth 100000
end Go.Fz
namespace Go.Fz
open Go.Proofs
set_option maxRecDepth 100000
section
variable {P : Program} {T : Ti}
end
end Go.Fz
namespace Go.Fz
open Go.Proofs
set_option maxRecDepth 100000
def midK (len : Nat) (l : List (Nat × AV)) (S : St) (e : Exit) (fm : Fm) (st : St) : Prop := e = .normal ∧ ∃ g, fm = ⟨⟨len, g⟩, []⟩ ∧ AllP (fun p => g p.1 = p.2) l ∧ st = S
end Go.Fz
