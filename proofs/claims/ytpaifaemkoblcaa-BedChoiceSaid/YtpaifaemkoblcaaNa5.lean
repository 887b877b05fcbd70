/- Own work of the verifier of watercress: Lb5. -/
import Derived.Test.YtpaifaemkoblcaaNa3
import Derived.Laws.Cover3
import Derived.Test.YtpaifaemkoblcaaNa4
import Derived.Test.YtpaifaemkoblcaaNa2
import Derived.Deep.Slices
import Derived.Lib.SmallJoins
import Derived.WideKeyArgs
import Derived.WalkKit
import Derived.ProofKit
import Derived.OpenShut
import Derived.JoinedCond
import Derived.Below
import Derived.ChangeSame
import Derived.CallsIn
import Derived.Carry
import Derived.Test.YtpaifaemkoblcaaRows
set_option linter.unusedVariables false
set_option linter.unusedSimpArgs false
set_option linter.unusedVariables false
set_option linter.unusedSimpArgs false
namespace Go.Fz
variable {P : Program} {T : Ti}
def renF (φ : Fi) (ρ : Nat → Nat) (n : Nat) : Fi := ⟨fun j => φ.f (ρ j), n, φ.z⟩
def RenV (ρ : Nat → Nat) (n : Nat) (a2 a1 : AV) : Prop := ∀ (φ : Fi) (u : Value), VR φ a1 u → VR (renF φ ρ n) a2 u
theorem RenV.closed {ρ : Nat → Nat} {n : Nat} {a : AV} (h : Below 0 a) : RenV ρ n a a := fun φ u hv =>
  VR.mono (φ := ⟨φ.f, 0, φ.z⟩) (φ' := renF φ ρ n) ⟨Nat.zero_le _, fun id hid => absurd hid (Nat.not_lt_zero id), fun b c hb => hb⟩ (h φ u hv)
theorem RenV.any {ρ : Nat → Nat} {n : Nat} {a : AV} : RenV ρ n .any a := fun _ _ _ => .any _
theorem RenV.eqv {ρ : Nat → Nat} {n : Nat} {a2 a1 a0 : AV} (h : RenV ρ n a2 a1) (he : Eqv a0 a1) : RenV ρ n a2 a0 := fun φ u hv => h φ u (he φ u hv)
theorem RenV.ptr {ρ : Nat → Nat} {n j off : Nat} (h : j < n) : RenV ρ n (.ptr j off) (.ptr (ρ j) off) := fun φ _ hv => by cases hv; exact .ptr (φ := renF φ ρ n) j off h
theorem RenV.sl {ρ : Nat → Nat} {n j off len sz : Nat} {ex : Bool} (h : j < n) : RenV ρ n (.sl j off len sz ex) (.sl (ρ j) off len sz ex) := fun φ _ hv => by
  cases hv with
  | sl _ _ _ _ _ cap h1 h2 h3 h4 => exact .sl (φ := renF φ ρ n) j off len sz ex cap h h2 h3 h4
theorem RenV.yld {ρ : Nat → Nat} {n j : Nat} (h : j < n) : RenV ρ n (.yld j) (.yld (ρ j)) := fun φ _ hv => by cases hv; exact .yld (φ := renF φ ρ n) j h
inductive RenVs (ρ : Nat → Nat) (n : Nat) : List AV → List AV → Prop
  | nil : RenVs ρ n [] []
  | cons {a2 a1 : AV} {l2 l1 : List AV} (h : RenV ρ n a2 a1) (t : RenVs ρ n l2 l1) : RenVs ρ n (a2 :: l2) (a1 :: l1)
theorem RenVs.ok {ρ : Nat → Nat} {n : Nat} {φ : Fi} : ∀ {l2 l1 : List AV} {us : List Value}, RenVs ρ n l2 l1 → VRL φ l1 us → VRL (renF φ ρ n) l2 us
  | _, _, _, .nil, h => by cases h; exact .nil
  | _, _, _, .cons h t, hv => by cases hv with | cons h1 h2 => exact .cons (h _ _ h1) (t.ok h2)
theorem RenVs.get {ρ : Nat → Nat} {n : Nat} : ∀ {l2 l1 : List AV}, RenVs ρ n l2 l1 → ∀ (i : Nat) (a2 : AV), l2[i]? = some a2 → ∃ a1, l1[i]? = some a1 ∧ RenV ρ n a2 a1
  | _, _, .nil, i, a2, h => by simp at h
  | _, _, .cons h t, 0, a2, ha => by simp at ha; subst ha; exact ⟨_, rfl, h⟩
  | _, _, .cons h t, i + 1, a2, ha => by simpa using t.get i a2 (by simpa using ha)
theorem RenVs.length {ρ : Nat → Nat} {n : Nat} : ∀ {l2 l1 : List AV}, RenVs ρ n l2 l1 → l2.length = l1.length
  | _, _, .nil => rfl
  | _, _, .cons _ t => by simp [t.length]
theorem RenVs.closed {ρ : Nat → Nat} {n : Nat} : ∀ {l : List AV}, (∀ a ∈ l, Below 0 a) → RenVs ρ n l l
  | [], _ => .nil
  | a :: l, h => .cons (RenV.closed (h a List.mem_cons_self)) (RenVs.closed fun x hx => h x (List.mem_cons_of_mem _ hx))
theorem RenV.fn {ρ : Nat → Nat} {n : Nat} {f : Fn} {l2 l1 m2 m1 : List AV} (h : RenVs ρ n l2 l1) (k : RenVs ρ n m2 m1) : RenV ρ n (.fn f l2 m2) (.fn f l1 m1) := fun φ _ hv => by
  obtain ⟨us, vs, rfl, h1, h2⟩ := hv.fn_inv
  exact .fn _ (h.ok h1) (k.ok h2)
inductive RenO (ρ : Nat → Nat) (n : Nat) : AObj → AObj → Prop
  | cells {fm : Option Nat} {ro : Bool} {l2 l1 : List AV} (h : RenVs ρ n l2 l1) : RenO ρ n (.cells none ro l2) (.cells fm ro l1)
  | dfr : RenO ρ n .dfr .dfr
  | loop {r2 r1 : ALoop} (h1 : r2.state = r1.state) (h2 : r2.pending = r1.pending) (h3 : r2.params = r1.params) (h4 : r2.assign = r1.assign) (h5 : r2.body = r1.body) (h6 : r1.dfid = ρ r2.dfid) (h7 : r2.dfid < n) (h8 : r2.tmps.len = r1.tmps.len)
      (h9 : ∀ i, RenV ρ n (r2.tmps.get i) (r1.tmps.get i)) : RenO ρ n (.loop r2) (.loop r1)
  | map {es : List (AV × AV × Nat)} {clock : Nat} (h : ∀ x ∈ es, Below 0 x.1 ∧ Below 0 x.2.1) : RenO ρ n (.map es clock) (.map es clock)
  | iter {mid since last : Nat} {seen : List Nat} (h : mid < n) : RenO ρ n (.iter mid since seen last) (.iter (ρ mid) since seen last)
theorem ObjR.ren {φ : Fi} {w : World} {ρ : Nat → Nat} {n id : Nat} {o2 o1 : AObj} (h : RenO ρ n o2 o1) (ho : ObjR φ w (ρ id) o1) : ObjR (renF φ ρ n) w id o2 := by
  cases h with
  | cells h =>
    refine ⟨fun i a ha => ?_, fun hro => ?_⟩
    · obtain ⟨a1, h1, h2⟩ := h.get i a ha
      obtain ⟨v, h3, h4⟩ := ho.1 i a1 h1
      exact ⟨v, h3, h2 _ _ h4⟩
    · obtain ⟨c, t, h1, h2, h3⟩ := ho.2 hro
      exact ⟨c, t, h1, h2, by rw [h.length]; exact h3⟩
  | dfr => exact ho
  | loop h1 h2 h3 h4 h5 h6 h7 h8 h9 =>
    obtain ⟨L, k1, k2, k3, k4, k5, k6, k7, k8, k9⟩ := ho
    exact ⟨L, k1, by rw [h1]; exact k2, by rw [h2]; exact k3, ⟨by rw [h8]; exact k4.size, fun i => h9 i _ _ (k4.get i)⟩, by rw [h3]; exact k5, by rw [h4]; exact k6, by rw [h5]; exact k7, h7, by rw [k9, h6]; rfl⟩
  | map h =>
    obtain ⟨ces, h1, h2, h3⟩ := ho
    refine ⟨ces, h1, h2, fun i x hx => ?_⟩
    obtain ⟨e, k1, k2, k3, k4⟩ := h3 i x hx
    obtain ⟨b1, b2⟩ := h x (List.mem_of_getElem? hx)
    exact ⟨e, k1, RenV.closed b1 _ _ k2, RenV.closed b2 _ _ k3, k4⟩
  | iter h => exact ⟨ho.1, ho.2.1, h⟩
structure WeakR (n0 : Nat) (ρ : Nat → Nat) (f1 : Fm) (st1 : St) (f2 : Fm) (st2 : St) : Prop where
  len : f2.ts.len = f1.ts.len
  dm : f2.dm = f1.dm
  dmlt : ∀ id ∈ f2.dm, id < n0
  idn : ∀ j, j < n0 → ρ j = j
  get : ∀ i, RenV ρ st2.n (f2.ts.get i) (f1.ts.get i)
  lo : n0 ≤ st2.n
  obj : ∀ id o, st2.h.get id = some o → id < st2.n ∧ ∃ o1, st1.h.get (ρ id) = some o1 ∧ RenO ρ st2.n o o1
  sep : ∀ i j oi oj, st2.h.get i = some oi → st2.h.get j = some oj → i ≠ j → ∀ pi pj, st1.h.get (ρ i) = some pi → st1.h.get (ρ j) = some pj → ρ i ≠ ρ j ∧ ¬ Mates pi pj
theorem RenO.own {ρ : Nat → Nat} {n : Nat} {o2 o1 : AObj} (h : RenO ρ n o2 o1) : o2.own = o1.own := by cases h <;> rfl
theorem WeakR.ok {n0 : Nat} {ρ : Nat → Nat} {f1 f2 : Fm} {st1 st2 : St} (hw : WeakR n0 ρ f1 st1 f2 st2) {φ : Fi} {w : World} {a : Act} (hr : Rel φ st1 w) (ha : ActR φ f1 a) :
    Rel (renF φ ρ st2.n) st2 w ∧ ActR (renF φ ρ st2.n) f2 a ∧ Fr φ st1 w (renF φ ρ st2.n) st2 w := by
  have hown : ∀ k, Owns (renF φ ρ st2.n) st2 k → Owns φ st1 k := fun k ⟨id, o, h, ho, hb⟩ => by
    obtain ⟨_, o1, h1, h2⟩ := hw.obj id o h
    exact ⟨ρ id, o1, h1, by rw [← h2.own]; exact ho, hb⟩
  refine ⟨⟨rfl, fun id o h => (hw.obj id o h).1, fun id o h => ?_, fun id o h => ?_, fun i j oi oj hi hj hij hio hb => ?_, fun id o f h hf => ?_, fun b c hb => ?_⟩, ⟨⟨?_, fun i => hw.get i _ _ (ha.ts.get i)⟩, ?_, fun id hid => Nat.lt_of_lt_of_le (hw.dmlt id hid) hw.lo⟩,
    ⟨rfl, rfl, rfl, Nat.le_refl _, fun _ _ _ => rfl, fun k hk => .inl (hown k hk), fun b c hb => .inl hb⟩⟩
  · obtain ⟨_, o1, h1, _⟩ := hw.obj id o h
    exact hr.blk _ _ h1
  · obtain ⟨_, o1, h1, h2⟩ := hw.obj id o h
    exact (hr.obj _ _ h1).ren h2
  · exfalso
    obtain ⟨_, pi, h1, h2⟩ := hw.obj i oi hi
    obtain ⟨_, pj, h3, h4⟩ := hw.obj j oj hj
    obtain ⟨k1, k2⟩ := hw.sep i j oi oj hi hj hij pi pj h1 h3
    exact k2 (hr.sep (ρ i) (ρ j) pi pj h1 h3 k1 (by rw [← h2.own]; exact hio) hb).1
  · obtain ⟨_, o1, h1, h2⟩ := hw.obj id o h
    cases h2 <;> cases hf
  · obtain ⟨h1, h2, h3⟩ := hr.froz b c hb
    refine ⟨h1, h2, fun id o h ho => ?_⟩
    obtain ⟨_, o1, h4, h5⟩ := hw.obj id o h
    exact h3 _ _ h4 (by rw [← h5.own]; exact ho)
  · rw [hw.len]; exact ha.ts.size
  · rw [hw.dm, ha.dm]
    refine List.map_congr_left fun id hid => ?_
    have : ρ id = id := hw.idn id (hw.dmlt id (by rw [hw.dm]; exact hid))
    show _ = Deferred.mk (.collected (φ.f (ρ id)).b) #[]
    rw [this]
theorem SW.loopR {α : Type} {rd : Option Nat} {c : Code} {Q : Exit → Fm → St → Prop} {f : Fm} {st : St} (F : α → Fm) (S : α → St) (m : α → Nat) (Inv : α → Prop) (x0 : α) (h0 : Inv x0) (ρ0 : Nat → Nat) (hw : WeakR st.n ρ0 f st (F x0) (S x0))
    (hround : ∀ x, Inv x → SW P rd c (thenQ (fun f' st' => ∃ x', m x' < m x ∧ Inv x' ∧ ∃ ρ, WeakR st.n ρ f' st' (F x') (S x')) Q) (F x) (S x)) : SW P rd (.loop c) Q f st := by
  intro φ w a n h1 h2 h3
  have hext : ∀ {φ2 : Fi} {ρ : Nat → Nat} {n2 : Nat}, Ext φ φ2 → (∀ j, j < st.n → ρ j = j) → st.n ≤ n2 → Ext φ (renF φ2 ρ n2) := fun {φ2 ρ n2} he hi hn =>
    ⟨by rw [h2.n]; exact hn, fun id hid => by show φ2.f (ρ id) = _; rw [hi id (by rw [← h2.n]; exact hid)]; exact he.f id hid, he.z⟩
  let J : Nat → Act → World → Prop := fun k a' w' => ∃ x φ', Inv x ∧ m x = k ∧ Ext φ φ' ∧ Rel φ' (S x) w' ∧ ActR φ' (F x) a' ∧ Fr φ st w φ' (S x) w'
  intro b kk cs hro hb hroom
  have key : ∀ k a' w', J k a' w' → ∃ e a₂ w₂, Lift φ st w Q e a₂ w₂ ∧ ArrivesIn (Machine.fenced P (FW (rdB φ rd))) P (lone (b.atR a' (.code c :: .inLoop c :: kk)) cs w') b kk cs e a₂ w₂ := by
    intro k
    induction k using Nat.strongRecOn with
    | _ k ih =>
      intro a' w' hj
      obtain ⟨x, φ', hx, hm, he, hr, ha, hf⟩ := hj
      have hr1 := hround x hx φ' w' a' n (fun id hi => Nat.lt_of_lt_of_le (h1 id hi) he.n) hr ha
      rw [rdB_ext he h1] at hr1
      obtain ⟨e, a₁, w₁, hq, harr⟩ := hr1 b (.inLoop c :: kk) cs hro hb hroom
      obtain ⟨f2, st2, φ2, hk, he2, hr2, ha2, hf2⟩ := hq
      cases e with
      | normal =>
        obtain ⟨x', hlt, hi', ρ, hwr⟩ := hk
        obtain ⟨k1, k2, k3⟩ := hwr.ok hr2 ha2
        obtain ⟨e₂, a₂, w₂, hq₂, harr₂⟩ := ih (m x') (by rw [← hm]; exact hlt) a₁ w₁ ⟨x', _, hi', rfl, hext (he.trans he2) hwr.idn hwr.lo, k1, k2, hf.trans (hf2.trans k3)⟩
        exact ⟨e₂, a₂, w₂, hq₂, .of_steps (StepsIn.trans harr (.one (fenced_calm hb hroom rfl) stepR_inLoop)) harr₂⟩
      | exit id => exact ⟨_, a₁, w₁, ⟨f2, st2, φ2, hk, he.trans he2, hr2, ha2, hf.trans hf2⟩, .pass (x := .inLoop c) rfl (fun _ _ => .inl (by simp)) harr⟩
      | goto l => exact ⟨_, a₁, w₁, ⟨f2, st2, φ2, hk, he.trans he2, hr2, ha2, hf.trans hf2⟩, .pass (x := .inLoop c) rfl (fun _ _ => .inl (by simp)) harr⟩
      | ret => exact ⟨_, a₁, w₁, ⟨f2, st2, φ2, hk, he.trans he2, hr2, ha2, hf.trans hf2⟩, .pass (x := .inLoop c) rfl (fun _ _ => .inl (by simp)) harr⟩
      | panic ch => exact ⟨_, a₁, w₁, ⟨f2, st2, φ2, hk, he.trans he2, hr2, ha2, hf.trans hf2⟩, .pass (x := .inLoop c) rfl (fun _ _ => .inl (by simp)) harr⟩
      | outgrown => exact ⟨_, a₁, w₁, ⟨f2, st2, φ2, hk, he.trans he2, hr2, ha2, hf.trans hf2⟩, .pass (x := .inLoop c) rfl (fun _ _ => .inl (by simp)) harr⟩
  obtain ⟨k1, k2, k3⟩ := hw.ok h2 h3
  obtain ⟨e, a', w', hq, harr⟩ := key (m x0) a w ⟨x0, _, h0, rfl, hext (Ext.refl _) hw.idn hw.lo, k1, k2, k3⟩
  exact ⟨e, a', w', hq, .of_steps (.one (fenced_calm hb hroom rfl) stepR_loop) harr⟩
end Go.Fz
namespace Go.Fz
variable {P : Program} {T : Ti}
def runN (O : Ar) (T : Ti) (ops : Array Oper) : Nat → List Nat → List Cond → Fm → St → ROut
  | _, [], cs, f, st => .done cs f st
  | 0, i :: l, cs, f, st => .stop cs (i :: l) f st
  | k + 1, i :: l, cs, f, st => match ops[i]? with
    | none => .stop cs (i :: l) f st
    | some o => match wantA ops f.ts o with
      | some false => runN O T ops k l cs (f.put o.dst undA) st
      | none => .stop cs (i :: l) f st
      | some true => match stE O T st.h (Operand.av f.ts) o with
        | some (c, r) => runN O T ops k l (c ++ cs) (f.put o.dst r) st
        | none => match evF T st.n (Operand.av f.ts) o with
          | some (r, cells) => runN O T ops k l cs (f.put o.dst r) (st.push (.cells none false cells))
          | none => match storeS O T st (Operand.av f.ts) o with
            | some (c, st') => runN O T ops k l (c ++ cs) (f.put o.dst undA) st'
            | none => match storeO T st (Operand.av f.ts) o with
              | some st' => runN O T ops k l cs (f.put o.dst undA) st'
              | none => .stop cs (i :: l) f st
theorem runN_cs {O : Ar} {T : Ti} {ops : Array Oper} : ∀ (k : Nat) (l : List Nat) (cs : List Cond) (f : Fm) (st : St), ∀ c ∈ cs, c ∈ (runN O T ops k l cs f st).cs
  | 0, [], cs, f, st, c, h => h
  | _ + 1, [], cs, f, st, c, h => h
  | 0, i :: l, cs, f, st, c, h => h
  | k + 1, i :: l, cs, f, st, c, h => by
    unfold runN
    split
    · exact h
    · split
      · exact runN_cs k l _ _ _ c h
      · exact h
      · split
        · exact runN_cs k l _ _ _ c (List.mem_append_right _ h)
        · split
          · exact runN_cs k l _ _ _ c h
          · split
            · exact runN_cs k l _ _ _ c (List.mem_append_right _ h)
            · split
              · exact runN_cs k l _ _ _ c h
              · exact h
theorem runN_ok {P : Program} {T : Ti} (hT : TOk P T) {rd : Option Nat} {ops : Array Oper} {K : Fm → St → Prop} : ∀ (k : Nat) (l : List Nat) (cs : List Cond) (f : Fm) (st : St), (∀ c ∈ (runN std T ops k l cs f st).cs, c.holds) →
    (runN std T ops k l cs f st).post P rd ops K → OpsW P rd ops l K f st
  | 0, [], cs, f, st, _, h => .nil h
  | _ + 1, [], cs, f, st, _, h => .nil h
  | 0, i :: l, cs, f, st, _, h => h
  | k + 1, i :: l, cs, f, st, hc, h => by
    unfold runN at hc h
    split at h
    · exact h
    · rename_i o ho
      simp only [ho] at hc
      split at h
      · rename_i hw
        simp only [hw] at hc
        exact .skip ho hw (runN_ok hT k l _ _ _ hc h)
      · exact h
      · rename_i hw
        simp only [hw] at hc
        split at h
        · rename_i c r hs
          simp only [hs] at hc
          refine .light hT ho hw (stE_ok hs fun x hx => hc x (runN_cs k l _ _ _ x (List.mem_append_left _ hx))) (runN_ok hT k l _ _ _ hc h)
        · rename_i hs
          simp only [hs] at hc
          split at h
          · rename_i r cells hf
            simp only [hf] at hc
            exact .fresh hT ho hw hf (runN_ok hT k l _ _ _ hc h)
          · rename_i hf
            simp only [hf] at hc
            split at h
            · rename_i c st' hst
              simp only [hst] at hc
              exact .store hT ho hw (storeS_ok hst fun x hx => hc x (runN_cs k l _ _ _ x (List.mem_append_left _ hx))) (runN_ok hT k l _ _ _ hc h)
            rename_i hst0
            simp only [hst0] at hc
            split at h
            · rename_i st' hst
              simp only [hst] at hc
              exact .store hT ho hw hst (runN_ok hT k l _ _ _ hc h)
            · exact h
theorem OpsW.runN (hT : TOk P T) {O : Ar} (hO : O = std) (k : Nat) {rd : Option Nat} {ops : Array Oper} {K : Fm → St → Prop} {l : List Nat} {f : Fm} {st : St} {R : ROut} (hR : Fz.runN O T ops k l [] f st = R) (hc : allC R.cs) (h : R.post P rd ops K) : OpsW P rd ops l K f st := by
  subst hO; subst hR
  exact runN_ok hT k l [] f st (allC_ok hc) h
theorem SW.runN (hT : TOk P T) {O : Ar} (hO : O = std) (k : Nat) {rd : Option Nat} {id : Nat} {ops : Array Oper} {Q : Exit → Fm → St → Prop} {f : Fm} {st : St} {R : ROut} (hR : Fz.runN O T ops k (List.range ops.size) [] f st = R) (hc : allC R.cs) (h : R.post P rd ops (fun f st => Q .normal f st)) : SW P rd (.region id ops false) Q f st :=
  SW.region (OpsW.runN hT hO k hR hc h)
theorem append_nil {i j : TI} {e : TypeId} {t id sz : Nat} {ex : Bool} {cs : List AV} {st : St} (ht : T t = some i) (hd : i.desc = .slice e) (he : T e = some j) (hz : j.size = sz) (h0 : sz ≠ 0) (hb : j.bytes ≤ 65536) (hb0 : j.bytes ≠ 0) (hzl : j.zero.length = sz)
    (hx : st.h.get id = some (.cells none false cs)) (hl : cs.length = sz) (hone : cs.all AV.one = true) :
    appendA T st t t (.lit (.slice none 0 0)) (.sl id 0 1 sz ex) = some (.sl st.n 0 1 sz false, st.push (.cells none false cs)) := by
  subst hz
  unfold appendA
  simp only [ht, hd, he, slCells, cellsAt, hx, slLen]
  rw [if_pos ⟨trivial, by omega⟩]
  simp only [List.drop_zero, Nat.one_mul]
  rw [List.take_of_length_le (by omega), if_neg (by rw [hone]; simp; omega), if_neg (by omega)]
theorem append_one {i j : TI} {e : TypeId} {t id id0 len sz : Nat} {ex : Bool} {g : Nat → Nat → AV} {cs : List AV} {st : St} (ht : T t = some i) (hd : i.desc = .slice e) (he : T e = some j) (hz : j.size = sz) (h0 : sz ≠ 0) (hb : j.bytes ≤ 65536) (hb0 : j.bytes ≠ 0) (hzl : j.zero.length = sz)
    (hx : st.h.get id = some (.cells none false cs)) (hl : cs.length = sz) (hone : cs.all AV.one = true) (hs : st.h.get id0 = some (.cells none false (flatG sz g len))) (hlen : len < 1048576) :
    appendA T st t t (.sl id0 0 len sz false) (.sl id 0 1 sz ex) = some (.sl st.n 0 (len + 1) sz false, St.push ⟨truncH id0 (len * sz) id0 st.h, st.n⟩ (.cells (some id0) false (flatG sz g len ++ cs))) := by
  subst hz
  unfold appendA
  simp only [ht, hd, he, slCells, cellsAt, hx, hs, slLen]
  rw [if_pos ⟨trivial, by rw [flatG_length]; omega⟩, if_pos ⟨trivial, by omega⟩]
  simp only [List.drop_zero, Nat.one_mul]
  rw [List.take_of_length_le (l := cs) (by omega), List.take_of_length_le (l := flatG j.size g len) (by rw [flatG_length]; omega), if_neg (by rw [hone]; simp; omega), if_neg (by omega)]
  simp [hs]
theorem AnyE.app (hT : TOk P T) {rd : Option Nat} {ops : Array Oper} {M : List Nat} {K : Fm → St → Prop} {fuel : Nat} {pend : List (Nat × AV)} {listed : Array Bool} {f : Fm} {st st' : St} {j : Nat} {o : Oper} {r : AV}
    (hj : onlyD ops M pend listed = some (j, [])) (ho : ops[j]? = some o) (hw : wantA ops f.ts o = some true) (hr : appendO T st (Operand.av f.ts) o = some (r, st')) (h : AnyE P T ops M rd K fuel [] (listed.setIfInBounds j true) (f.put o.dst r) st') : AnyE P T ops M rd K (fuel + 1) pend listed f st := fun k1 k2 k3 => by
  unfold onlyD at hj
  split at hj
  · rename_i j' hrd
    split at hj
    · rename_i o1 ho1
      split at hj
      · rename_i hnl
        simp only [Option.some.injEq, Prod.mk.injEq] at hj
        obtain ⟨rfl, hd⟩ := hj
        refine AnyE.one j' ho (by rw [hrd]; exact Nat.beq_refl j') [] hd (OpsW.append hT ho hw hr (.nil ⟨⟨r, rfl⟩, (show PendOk T ops [] (f.put o.dst r) st'.h from fun p hp => absurd hp List.not_mem_nil), h⟩)) k1 k2 k3
      · cases hj
    · cases hj
  · cases hj
theorem WeakR.of {n0 m : Nat} {ρ : Nat → Nat} {f1 : Fm} {st1 : St} {l : List (Nat × AV)} {len : Nat} {dm : List Nat} {h2 : Hp} {n2 : Nat} (e1 : len = f1.ts.len) (e2 : dm = f1.dm) (e3 : ∀ id ∈ dm, id < n0) (e4 : ∀ j, j < n0 → ρ j = j) (lo : n0 ≤ n2)
    (get : ∀ p ∈ l, RenV ρ n2 p.2 (f1.ts.get p.1)) (obj : ∀ p ∈ h2, p.1 < n2 ∧ ∃ o1, st1.h.get (ρ p.1) = some o1 ∧ RenO ρ n2 p.2 o1 ∧ (p.1 = m ∨ o1.fam = none)) (inj : ∀ p ∈ h2, ∀ q ∈ h2, ρ p.1 = ρ q.1 → p.1 = q.1) : WeakR n0 ρ f1 st1 ⟨⟨len, getT l⟩, dm⟩ ⟨h2, n2⟩ := by
  refine ⟨e1, e2, e3, e4, fun i => ?_, lo, fun id o h => ?_, fun i j oi oj hi hj hij pi pj h1 h2 => ⟨fun h => hij ?_, fun ⟨f, k1, k2⟩ => ?_⟩⟩
  · show RenV ρ n2 (getT l i) _
    clear obj inj
    induction l with
    | nil => exact RenV.any
    | cons p r ih =>
      obtain ⟨j, a⟩ := p
      simp only [getT]
      cases hb : Nat.beq j i with
      | true =>
        obtain rfl := Nat.eq_of_beq_eq_true hb
        exact get _ List.mem_cons_self
      | false => exact ih fun q hq => get q (List.mem_cons_of_mem _ hq)
  · obtain ⟨h3, o1, h4, h5, _⟩ := obj _ (Hp.mem_of_get h)
    exact ⟨h3, o1, h4, h5⟩
  · exact inj _ (Hp.mem_of_get hi) _ (Hp.mem_of_get hj) h
  · obtain ⟨_, o1, h3, _, h4⟩ := obj _ (Hp.mem_of_get hi)
    obtain ⟨_, o2, h5, _, h6⟩ := obj _ (Hp.mem_of_get hj)
    rw [show ρ (i, oi).1 = ρ i from rfl, h1] at h3
    rw [show ρ (j, oj).1 = ρ j from rfl, h2] at h5
    cases h3; cases h5
    rcases h4 with h4 | h4
    · rcases h6 with h6 | h6
      · exact hij (h4.trans h6.symm)
      · rw [h6] at k2; cases k2
    · rw [h4] at k1; cases k1
def frzO (h : Hp) (D : Nat → Bool) (m : Nat) : AObj → AObj
  | .cells fm ro cs => .cells fm ro (cs.map (frz h D m))
  | o => o
theorem frzO_own (h : Hp) (D : Nat → Bool) (m : Nat) (o : AObj) : (frzO h D m o).own = o.own := by cases o <;> rfl
theorem frzO_fam (h : Hp) (D : Nat → Bool) (m : Nat) (o : AObj) : (frzO h D m o).fam = o.fam := by cases o <;> rfl
def keepL (h0 : Hp) (D : Nat → Bool) (m : Nat) : Hp → Hp
  | [] => []
  | (i, o) :: r => match D i with
    | true => keepL h0 D m r
    | false => (i, frzO h0 D m o) :: keepL h0 D m r
theorem keepL_get {h0 : Hp} {D : Nat → Bool} {m : Nat} : ∀ {h : Hp} {id : Nat} {o : AObj}, Hp.get (keepL h0 D m h) id = some o → D id = false ∧ ∃ o0, h.get id = some o0 ∧ o = frzO h0 D m o0
  | [], id, o, h => by simp [keepL, Hp.get] at h
  | (i, x) :: r, id, o, h => by
    unfold keepL at h
    split at h
    · rename_i hi
      obtain ⟨h1, o0, h2, h3⟩ := keepL_get h
      refine ⟨h1, o0, ?_, h3⟩
      simp only [Hp.get]
      rw [if_neg (fun e => by subst e; rw [h1] at hi; cases hi)]
      exact h2
    · rename_i hi
      simp only [Hp.get] at h ⊢
      split at h
      · rename_i he
        subst he
        cases h
        exact ⟨hi, x, if_pos rfl, rfl⟩
      · rename_i he
        obtain ⟨h1, o0, h2, h3⟩ := keepL_get h
        exact ⟨h1, o0, by rw [if_neg he]; exact h2, h3⟩
def St.keepZ (st : St) (D : Nat → Bool) (m : Nat) : St := ⟨keepL st.h D m st.h, st.n⟩
theorem Rel.freezeZ {φ : Fi} {st : St} {w : World} (hr : Rel φ st w) {D : Nat → Bool} (m : Nat) (hf : freeB st.h D = true) :
    Rel (φ.froz st.h D w) (st.keepZ D m) w ∧ Fr φ st w (φ.froz st.h D w) (st.keepZ D m) w := by
  have hget : ∀ id o, (st.keepZ D m).h.get id = some o → D id = false ∧ ∃ o0, st.h.get id = some o0 ∧ o = frzO st.h D m o0 := fun id o h => keepL_get h
  have hl : ∀ (as0 : List AV) (us : List Value), VRL φ as0 us → VRL (φ.froz st.h D w) (as0.map (frz st.h D m)) us := fun as0 => by
    induction as0 with
    | nil => intro us h; cases h; exact .nil
    | cons a as0 ih => intro us h; cases h with | cons h t => exact .cons (frz_ok hr m h) (ih _ t)
  refine ⟨⟨hr.n, fun id o h => ?_, fun id o h => ?_, fun id o h => ?_, fun i j oi oj hi hj hij ho hb => ?_, fun id o f h hf' => ?_, fun b c hb => ?_⟩, ⟨rfl, rfl, rfl, Nat.le_refl _, fun _ _ _ => rfl, fun k ⟨id, o, h, ho, hb⟩ => ?_, fun b c hb => ?_⟩⟩
  · obtain ⟨_, o0, h1, _⟩ := hget id o h; exact hr.lt id o0 h1
  · obtain ⟨_, o0, h1, _⟩ := hget id o h; exact hr.blk id o0 h1
  · obtain ⟨_, o0, h1, rfl⟩ := hget id o h
    have hid : id < φ.n := by rw [hr.n]; exact hr.lt id o0 h1
    have hs : ObjR (φ.froz st.h D w) w id o0 := (hr.obj id o0 h1).same (φ.froz_ext _ _ _) hid rfl
    cases o0 with
    | cells fm ro cs =>
      have h0 := hr.obj id _ h1
      refine ⟨fun i a ha => ?_, fun hro => ?_⟩
      · rw [List.getElem?_map] at ha
        cases hc : cs[i]? with
        | none => rw [hc] at ha; cases ha
        | some a0 =>
          rw [hc] at ha
          cases ha
          obtain ⟨v, h2, h3⟩ := h0.1 i a0 hc
          exact ⟨v, h2, frz_ok hr m h3⟩
      · obtain ⟨c, t, h2, h3, h4⟩ := hs.2 hro
        exact ⟨c, t, h2, h3, by rw [List.length_map]; exact h4⟩
    | loop r => exact hs
    | dfr => exact hs
    | map es clock => exact hs
    | iter a b c d => exact hs
  · obtain ⟨_, p, h1, rfl⟩ := hget i oi hi
    obtain ⟨_, q, h2, rfl⟩ := hget j oj hj
    rw [frzO_own] at ho
    obtain ⟨⟨f, k1, k2⟩, k3⟩ := hr.sep i j p q h1 h2 hij ho hb
    exact ⟨⟨f, by rw [frzO_fam]; exact k1, by rw [frzO_fam]; exact k2⟩, by rw [frzO_own]; exact k3.1, k3.2⟩
  · obtain ⟨_, p, h1, rfl⟩ := hget id o h
    rw [frzO_fam] at hf'
    exact hr.fam id p f h1 hf'
  · rcases zOf_inv hb with h | ⟨rfl, id, fm, cs, hd, ho, rfl⟩
    · obtain ⟨h1, h2, h3⟩ := hr.froz b c h
      exact ⟨h1, h2, fun id o h4 h5 => by
        obtain ⟨_, p, h6, rfl⟩ := hget id o h4
        rw [frzO_own] at h5
        exact h3 id p h6 h5⟩
    · refine ⟨hr.blk id _ ho, fun i v hv => hv, fun j oj hj hown hbb => ?_⟩
      obtain ⟨h2, p, h1, rfl⟩ := hget j oj hj
      rw [frzO_own] at hown
      have hji : j ≠ id := fun e => by subst e; rw [hd] at h2; cases h2
      exact freeB_ok hf h1 ho h2 hd (hr.sep j id p _ h1 ho hji hown hbb).1
  · obtain ⟨_, p, h1, rfl⟩ := hget id o h
    rw [frzO_own] at ho
    exact .inl ⟨id, p, h1, ho, hb⟩
  · rcases zOf_inv hb with h | ⟨_, id, fm, cs, hd, ho, rfl⟩
    · exact .inl h
    · exact .inr (.inl ⟨id, _, ho, rfl, rfl⟩)
theorem SW.freezeZ {rd : Option Nat} {c : Code} {Q : Exit → Fm → St → Prop} {f : Fm} {st : St} (D : Nat → Bool) (m : Nat) (hf : freeB st.h D = true) (h : SW P rd c Q (f.froz st.h D m) (st.keepZ D m)) : SW P rd c Q f st := by
  intro φ w a n h1 h2 h3
  obtain ⟨k1, k2⟩ := h2.freezeZ m hf
  exact wpIn_mono (h (φ.froz st.h D w) w a n h1 k1 (h3.froz h2 D m)) fun e a' w' hl => hl.trans (φ.froz_ext _ _ _) k2
def AllP {α : Type} (p : α → Prop) : List α → Prop
  | [] => True
  | a :: l => p a ∧ AllP p l
theorem AllP.ok {α : Type} {p : α → Prop} : ∀ {l : List α}, AllP p l → ∀ a ∈ l, p a
  | [], _, a, h => by cases h
  | x :: l, h, a, ha => by
    rcases List.mem_cons.1 ha with rfl | ha
    · exact h.1
    · exact h.2.ok a ha
def ren1 (r m : Nat) (j : Nat) : Nat := match Nat.beq j r with
  | true => m
  | false => j
theorem ren1_ne {r m j : Nat} (h : j ≠ r) : ren1 r m j = j := by
  unfold ren1
  cases hb : Nat.beq j r with
  | true => exact absurd (Nat.eq_of_beq_eq_true hb) h
  | false => rfl
theorem ren1_eq {r m : Nat} : ren1 r m r = m := by unfold ren1; rw [Nat.beq_refl]
theorem WeakR.up {n0 r m : Nat} {f1 : Fm} {st1 : St} {l : List (Nat × AV)} {len : Nat} {dm : List Nat} {hl H : Hp} {n2 : Nat} (e1 : len = f1.ts.len) (e2 : dm = f1.dm) (e3 : ∀ id ∈ dm, id < n0) (hr : n0 ≤ r) (hm : m = r ∨ n2 ≤ m) (lo : n0 ≤ n2)
    (get : AllP (fun p => RenV (ren1 r m) n2 p.2 (f1.ts.get p.1)) l) (obj : AllP (fun p => p.1 < n2 ∧ ∃ o1, st1.h.get (ren1 r m p.1) = some o1 ∧ RenO (ren1 r m) n2 p.2 o1 ∧ (p.1 = r ∨ o1.fam = none)) hl)
    (objH : ∀ p ∈ H, p.1 < n2 ∧ ∃ o1, st1.h.get (ren1 r m p.1) = some o1 ∧ RenO (ren1 r m) n2 p.2 o1 ∧ (p.1 = r ∨ o1.fam = none)) : WeakR n0 (ren1 r m) f1 st1 ⟨⟨len, getT l⟩, dm⟩ ⟨hl ++ H, n2⟩ := by
  have hall : ∀ p ∈ hl ++ H, p.1 < n2 ∧ ∃ o1, st1.h.get (ren1 r m p.1) = some o1 ∧ RenO (ren1 r m) n2 p.2 o1 ∧ (p.1 = r ∨ o1.fam = none) := fun p hp => by
    rcases List.mem_append.1 hp with hp | hp
    · exact obj.ok p hp
    · exact objH p hp
  refine WeakR.of (m := r) e1 e2 e3 (fun j hj => ren1_ne (by omega)) lo get.ok hall fun p hp q hq h => ?_
  have h1 := (hall p hp).1
  have h2 := (hall q hq).1
  by_cases hpr : p.1 = r
  · by_cases hqr : q.1 = r
    · rw [hpr, hqr]
    · rw [hpr, ren1_eq, ren1_ne hqr] at h; omega
  · by_cases hqr : q.1 = r
    · rw [hqr, ren1_eq, ren1_ne hpr] at h; omega
    · rw [ren1_ne hpr, ren1_ne hqr] at h; exact h
theorem AnyE.effK (hT : TOk P T) {O : Ar} (hO : O = std) {rd : Option Nat} {ops : Array Oper} {M : List Nat} {K : Fm → St → Prop} {fuel : Nat} {pend pend' : List (Nat × AV)} {listed : Array Bool} {f f' : Fm} {st st' : St} {j : Nat} {cs : List Cond}
    (hj : onlyD ops M pend listed = some (j, pend')) (hR : runO O T ops [j] [] f st = .done cs f' st') (hc : allC cs) (hk : AllP (fun p => lightV T ops st'.h f' p.1 = some p.2) pend') (h : AnyE P T ops M rd K fuel pend' (listed.setIfInBounds j true) f' st') : AnyE P T ops M rd K (fuel + 1) pend listed f st := fun k1 k2 k3 => by
  have hv := runO_one hR
  unfold onlyD at hj
  split at hj
  · rename_i j' hr
    split at hj
    · rename_i o ho
      split at hj
      · rename_i hnl
        simp only [Option.some.injEq, Prod.mk.injEq] at hj
        obtain ⟨rfl, hd⟩ := hj
        obtain ⟨o', v, ho', rfl⟩ := hv
        rw [ho] at ho'; cases ho'
        refine AnyE.one j' ho (by rw [hr]; exact Nat.beq_refl j') pend' hd (OpsW.run hT hO (R := .done cs (f.put o.dst v) st') hR hc ⟨⟨v, rfl⟩, (show PendOk T ops pend' (f.put o.dst v) st'.h from fun p hp => LV.of (hk.ok p hp)), h⟩) k1 k2 k3
      · cases hj
    · cases hj
  · cases hj
def sliceB (T : Ti) (t sz : Nat) : Bool := match T t with
  | some i => match i.desc with
    | .slice e => match T e with
      | some j => Nat.beq j.size sz && Nat.ble j.bytes 65536 && !(Nat.beq j.bytes 0) && Nat.beq j.zero.length sz && !(Nat.beq sz 0)
      | none => false
    | _ => false
  | none => false
theorem sliceB_ok {t sz : Nat} (h : sliceB T t sz = true) : ∃ i j e, T t = some i ∧ i.desc = .slice e ∧ T e = some j ∧ j.size = sz ∧ sz ≠ 0 ∧ j.bytes ≤ 65536 ∧ j.bytes ≠ 0 ∧ j.zero.length = sz := by
  unfold sliceB at h
  split at h
  · rename_i i hi
    split at h
    · rename_i e he
      split at h
      · rename_i j hj
        simp only [Bool.and_eq_true, Bool.not_eq_true'] at h
        obtain ⟨⟨⟨⟨h1, h2⟩, h3⟩, h4⟩, h5⟩ := h
        refine ⟨i, j, e, hi, he, hj, Nat.eq_of_beq_eq_true h1, ?_, Nat.le_of_ble_eq_true h2, ?_, Nat.eq_of_beq_eq_true h4⟩
        · intro h; rw [h] at h5; cases h5
        · intro h; rw [h] at h3; cases h3
      · cases h
    · cases h
  · cases h
theorem append_nilB {t id sz : Nat} {ex : Bool} {cs : List AV} {st : St} (h : sliceB T t sz = true) (hx : st.h.get id = some (.cells none false cs)) (hl : cs.length = sz) (hone : cs.all AV.one = true) :
    appendA T st t t (.lit (.slice none 0 0)) (.sl id 0 1 sz ex) = some (.sl st.n 0 1 sz false, st.push (.cells none false cs)) := by
  obtain ⟨i, j, e, h1, h2, h3, h4, h5, h6, h7, h8⟩ := sliceB_ok h
  exact append_nil h1 h2 h3 h4 h5 h6 h7 h8 hx hl hone
theorem append_oneB {t id id0 len sz : Nat} {ex : Bool} {g : Nat → Nat → AV} {cs : List AV} {st : St} (h : sliceB T t sz = true) (hx : st.h.get id = some (.cells none false cs)) (hl : cs.length = sz) (hone : cs.all AV.one = true)
    (hs : st.h.get id0 = some (.cells none false (flatG sz g len))) (hlen : len < 1048576) :
    appendA T st t t (.sl id0 0 len sz false) (.sl id 0 1 sz ex) = some (.sl st.n 0 (len + 1) sz false, St.push ⟨truncH id0 (len * sz) id0 st.h, st.n⟩ (.cells (some id0) false (flatG sz g len ++ cs))) := by
  obtain ⟨i, j, e, h1, h2, h3, h4, h5, h6, h7, h8⟩ := sliceB_ok h
  exact append_one h1 h2 h3 h4 h5 h6 h7 h8 hx hl hone hs hlen
def appAt (ops : Array Oper) (j : Nat) (f : Fm) : Option (TypeId × AV × AV) := match ops[j]? with
  | none => none
  | some o => match wantA ops f.ts o with
    | some true => match o.op with
      | .call c => match c.callee, c.args.toList, c.argTypes.toList with
        | .builtin .append, [s, x], [t, xt] => match Nat.beq t xt with
          | true => some (t, Operand.av f.ts s, Operand.av f.ts x)
          | false => none
        | _, _, _ => none
      | _ => none
    | _ => none
theorem appAt_ok {ops : Array Oper} {j : Nat} {f : Fm} {t : TypeId} {s x : AV} (h : appAt ops j f = some (t, s, x)) : ∃ o, ops[j]? = some o ∧ wantA ops f.ts o = some true ∧ (∀ T st, appendO T st (Operand.av f.ts) o = appendA T st t t s x) ∧ ∀ v, putAt ops j f v = f.put o.dst v := by
  unfold appAt at h
  split at h
  · cases h
  · rename_i o ho
    split at h
    · rename_i hw
      split at h
      · rename_i c hc
        split at h
        · rename_i s' x' t' xt' h1 h2 h3
          split at h
          · rename_i hb
            cases h
            obtain rfl := Nat.eq_of_beq_eq_true hb
            exact ⟨o, ho, hw, fun T st => by simp only [appendO, hc, h1, h2, h3], fun v => by simp [putAt, ho]⟩
          · cases h
        · cases h
      · cases h
    · cases h
theorem AnyE.appNil (hT : TOk P T) {rd : Option Nat} {ops : Array Oper} {M : List Nat} {K : Fm → St → Prop} {fuel : Nat} {pend : List (Nat × AV)} {listed : Array Bool} {f : Fm} {st : St} {j t id sz : Nat} {ex : Bool} {cs : List AV}
    (hj : onlyD ops M pend listed = some (j, [])) (ha : appAt ops j f = some (t, .lit (.slice none 0 0), .sl id 0 1 sz ex)) (hx : st.h.get id = some (.cells none false cs)) (hb : sliceB T t sz = true) (hl : cs.length = sz) (hone : cs.all AV.one = true)
    (h : AnyE P T ops M rd K fuel [] (listed.setIfInBounds j true) (putAt ops j f (.sl st.n 0 1 sz false)) (st.push (.cells none false cs))) : AnyE P T ops M rd K (fuel + 1) pend listed f st := by
  obtain ⟨o, h1, h2, h3, h4⟩ := appAt_ok ha
  rw [h4] at h
  exact AnyE.app hT hj h1 h2 (by rw [h3]; exact append_nilB hb hx hl hone) h
theorem AnyE.appOne (hT : TOk P T) {rd : Option Nat} {ops : Array Oper} {M : List Nat} {K : Fm → St → Prop} {fuel : Nat} {pend : List (Nat × AV)} {listed : Array Bool} {f : Fm} {st : St} {j t id id0 sz : Nat} {ex : Bool} {cs : List AV} {G : List AV} {g : Nat → Nat → AV} {len : Nat}
    (hj : onlyD ops M pend listed = some (j, [])) (ha : appAt ops j f = some (t, .sl id0 0 len sz false, .sl id 0 1 sz ex)) (hx : st.h.get id = some (.cells none false cs)) (hs : st.h.get id0 = some (.cells none false G)) (hG : G = flatG sz g len) (hb : sliceB T t sz = true) (hl : cs.length = sz) (hone : cs.all AV.one = true) (hlen : len < 1048576)
    (h : ∀ G', G' = flatG sz g len ++ cs → AnyE P T ops M rd K fuel [] (listed.setIfInBounds j true) (putAt ops j f (.sl st.n 0 (len + 1) sz false)) (St.push ⟨truncH id0 (len * sz) id0 st.h, st.n⟩ (.cells (some id0) false G'))) : AnyE P T ops M rd K (fuel + 1) pend listed f st := by
  subst hG
  obtain ⟨o, h1, h2, h3, h4⟩ := appAt_ok ha
  have h := h _ rfl
  rw [h4] at h
  exact AnyE.app hT hj h1 h2 (by rw [h3]; exact append_oneB hb hx hl hone hs hlen) h
theorem OpsW.appNil (hT : TOk P T) {rd : Option Nat} {ops : Array Oper} {l : List Nat} {K : Fm → St → Prop} {f : Fm} {st : St} {j t id sz : Nat} {ex : Bool} {cs : List AV}
    (ha : appAt ops j f = some (t, .lit (.slice none 0 0), .sl id 0 1 sz ex)) (hx : st.h.get id = some (.cells none false cs)) (hb : sliceB T t sz = true) (hl : cs.length = sz) (hone : cs.all AV.one = true)
    (h : OpsW P rd ops l K (putAt ops j f (.sl st.n 0 1 sz false)) (st.push (.cells none false cs))) : OpsW P rd ops (j :: l) K f st := by
  obtain ⟨o, h1, h2, h3, h4⟩ := appAt_ok ha
  rw [h4] at h
  exact OpsW.append hT h1 h2 (by rw [h3]; exact append_nilB hb hx hl hone) h
theorem OpsW.appOne (hT : TOk P T) {rd : Option Nat} {ops : Array Oper} {l : List Nat} {K : Fm → St → Prop} {f : Fm} {st : St} {j t id id0 sz : Nat} {ex : Bool} {cs : List AV} {G : List AV} {g : Nat → Nat → AV} {len : Nat}
    (ha : appAt ops j f = some (t, .sl id0 0 len sz false, .sl id 0 1 sz ex)) (hx : st.h.get id = some (.cells none false cs)) (hs : st.h.get id0 = some (.cells none false G)) (hG : G = flatG sz g len) (hb : sliceB T t sz = true) (hl : cs.length = sz) (hone : cs.all AV.one = true) (hlen : len < 1048576)
    (h : ∀ G', G' = flatG sz g len ++ cs → OpsW P rd ops l K (putAt ops j f (.sl st.n 0 (len + 1) sz false)) (St.push ⟨truncH id0 (len * sz) id0 st.h, st.n⟩ (.cells (some id0) false G'))) : OpsW P rd ops (j :: l) K f st := by
  subst hG
  obtain ⟨o, h1, h2, h3, h4⟩ := appAt_ok ha
  have h := h _ rfl
  rw [h4] at h
  exact OpsW.append hT h1 h2 (by rw [h3]; exact append_oneB hb hx hl hone hs hlen) h
theorem RenVs.of_eq {ρ : Nat → Nat} {n : Nat} {l2 l1 : List AV} (e : l1 = l2) (h : ∀ a ∈ l2, Below 0 a) : RenVs ρ n l2 l1 := by subst e; exact RenVs.closed h
theorem updT_self {g : Nat → AV} {d : Nat} {v : AV} (h : g d = v) : updT g d v = g := by
  funext i
  unfold updT
  cases hb : Nat.beq d i with
  | true => rw [← Nat.eq_of_beq_eq_true hb]; exact h.symm
  | false => rfl
end Go.Fz
namespace Go.Fz
variable {P : Program} {T : Ti}
def nilAt (T : Ti) (ops : Array Oper) (i : Nat) (f : Fm) : Option AV := match ops[i]? with
  | none => none
  | some o => match wantA ops f.ts o with
    | some true => match o.op with
      | .binOp .eql t x y _ => match T t with
        | some ti => match ti.desc with
          | .slice _ => match Operand.av f.ts y with
            | .lit (.slice none 0 0) => some (Operand.av f.ts x)
            | _ => none
          | _ => none
        | none => none
      | _ => none
    | _ => none
theorem OpsW.nilIsl (hT : TOk P T) {rd : Option Nat} {ops : Array Oper} {i : Nat} {l : List Nat} {K : Fm → St → Prop} {f : Fm} {st : St} {len sz : Nat} {ex : Bool} {g : Nat → Nat → AV} (hn : nilAt T ops i f = some (.isl len sz ex g))
    (h1 : len = 0 → OpsW P rd ops l K (putAt ops i f (.lit (.bool true))) st) (h0 : OpsW P rd ops l K (putAt ops i f (.lit (.bool false))) st) : OpsW P rd ops (i :: l) K f st := by
  unfold nilAt at hn
  split at hn
  · cases hn
  · rename_i o ho
    split at hn
    · rename_i hw
      split at hn
      · rename_i t x y yt hx
        split at hn
        · rename_i ti hti
          split at hn
          · rename_i e hd
            split at hn
            · rename_i hy
              simp only [Option.some.injEq] at hn
              have hu := (hT t ti hti).und
              rw [hd] at hu
              have hput : ∀ v, putAt ops i f v = f.put o.dst v := fun v => by simp [putAt, ho]
              rw [hput] at h1 h0
              have key : ∀ (b : Bool) (φ : Fi) (w : World) (a : Act) (p : Option Addr) (l c : Nat), ActR φ f a → a.eval x = .slice p l c → p.isNone = b → (execOp a.eval o).run P w = .ok (.value (.bool b)) w := fun b φ w a p l c ha hp hb => by
                have hyy := opR_of ha.ts y
                rw [hy] at hyy
                have hyy := hyy.lit_inv
                have h1 := run_equalIn_slice_nil (P := P) (w := w) 9999 t e p l c hu
                subst hb
                simp only [execOp, hx, hp, hyy]
                simp [Sem.run_bind, eqGuard, Result.andThen, binOp, Op.equal, Op.maxDepth, h1]
              intro φ w a n Q k1 k2 k3 hQ
              have hxx := opR_of k3.ts x
              rw [hn] at hxx
              simp only [wpOpsIn, ho]
              rw [wanted_eq k3 ops hw]
              simp only [if_true]
              refine ⟨fun _ _ => trivial, ?_⟩
              rw [semAt_eq (fun c hc => by rw [hx] at hc; cases hc)]
              rcases hxx.isl_inv with ⟨hl, hv⟩ | ⟨b, o', cap, c, us, hv, _⟩
              · rw [key true φ w a _ _ _ k3 hv rfl]
                exact h1 hl φ w _ n Q k1 k2 (k3.put o.dst (.lit _)) hQ
              · rw [key false φ w a _ _ _ k3 hv rfl]
                exact h0 φ w _ n Q k1 k2 (k3.put o.dst (.lit _)) hQ
            · cases hn
          · cases hn
        · cases hn
      · cases hn
    · cases hn
theorem append_empty {t id sz n : Nat} {ex : Bool} {g : Nat → Nat → AV} {st : St} (h : sliceB T t sz = true) (hx : st.h.get id = some (.cells none false [])) (hn : n < 1048576) (h0 : 0 < n) (hone : ∀ i k, (g i k).one = true) :
    appendA T st t t (.sl id 0 0 sz true) (.isl n sz ex g) = some (.sl st.n 0 n sz false, st.push (.cells none false (flatG sz g n))) := by
  obtain ⟨i, j, e, h1, h2, h3, h4, h5, h6, h7, h8⟩ := sliceB_ok h
  subst h4
  unfold appendA
  have hall : (flatG j.size g n).all AV.one = true := by
    rw [List.all_eq_true]
    intro a ha
    induction n with
    | zero => cases ha
    | succ m ih =>
      simp only [flatG, List.mem_append] at ha
      rcases ha with ha | ha
      · rcases Nat.eq_zero_or_pos m with hm | hm
        · subst hm; cases ha
        · exact ih (by omega) hm ha
      · obtain ⟨q, hq⟩ := List.mem_iff_getElem?.1 ha
        rw [cellsFrom_get] at hq
        split at hq
        · cases hq; exact hone _ _
        · cases hq
  simp only [h1, h2, h3, slCells, cellsAt, hx, slLen]
  rw [if_pos ⟨trivial, by simp⟩, if_pos ⟨trivial, h5⟩]
  simp only [Nat.zero_add]
  rw [if_neg (by rw [hall]; simp; omega), if_neg (by omega)]
  simp
theorem append_none {t id sz : Nat} {ex : Bool} {g : Nat → Nat → AV} {st : St} (h : sliceB T t sz = true) (hx : st.h.get id = some (.cells none false [])) :
    appendA T st t t (.sl id 0 0 sz true) (.isl 0 sz ex g) = some (.sl id 0 0 sz true, st) := by
  obtain ⟨i, j, e, h1, h2, h3, h4, h5, h6, h7, h8⟩ := sliceB_ok h
  subst h4
  unfold appendA
  simp only [h1, h2, h3, slCells, cellsAt, hx, slLen]
  rw [if_pos ⟨trivial, by simp⟩, if_pos ⟨trivial, h5⟩]
  simp [flatG]
  omega
theorem OpsW.appA (hT : TOk P T) {rd : Option Nat} {ops : Array Oper} {l : List Nat} {K : Fm → St → Prop} {f : Fm} {st st' : St} {j t : Nat} {s x r : AV}
    (ha : appAt ops j f = some (t, s, x)) (hr : appendA T st t t s x = some (r, st')) (h : OpsW P rd ops l K (putAt ops j f r) st') : OpsW P rd ops (j :: l) K f st := by
  obtain ⟨o, h1, h2, h3, h4⟩ := appAt_ok ha
  rw [h4] at h
  exact OpsW.append hT h1 h2 (by rw [h3]; exact hr) h
theorem AnyE.appK (hT : TOk P T) {rd : Option Nat} {ops : Array Oper} {M : List Nat} {K : Fm → St → Prop} {fuel : Nat} {pend pend' : List (Nat × AV)} {listed : Array Bool} {f : Fm} {st st' : St} {j t : Nat} {s x r : AV}
    (hj : onlyD ops M pend listed = some (j, pend')) (ha : appAt ops j f = some (t, s, x)) (hr : appendA T st t t s x = some (r, st')) (hk : AllP (fun p => lightV T ops st'.h (putAt ops j f r) p.1 = some p.2) pend')
    (h : AnyE P T ops M rd K fuel pend' (listed.setIfInBounds j true) (putAt ops j f r) st') : AnyE P T ops M rd K (fuel + 1) pend listed f st := fun k1 k2 k3 => by
  obtain ⟨o, h1, h2, h3, h4⟩ := appAt_ok ha
  unfold onlyD at hj
  split at hj
  · rename_i j' hrd
    split at hj
    · rename_i o1 ho1
      split at hj
      · rename_i hnl
        simp only [Option.some.injEq, Prod.mk.injEq] at hj
        obtain ⟨rfl, hd⟩ := hj
        rw [h4] at hk h
        refine AnyE.one j' h1 (by rw [hrd]; exact Nat.beq_refl j') pend' hd (OpsW.append hT h1 h2 (by rw [h3]; exact hr) (.nil ⟨⟨r, rfl⟩, (show PendOk T ops pend' (f.put o.dst r) st'.h from fun p hp => LV.of (hk.ok p hp)), h⟩)) k1 k2 k3
      · cases hj
    · cases hj
  · cases hj
end Go.Fz
namespace Go.Fz
variable {P : Program} {T : Ti}
end Go.Fz
namespace Go.Fz
open Go.Proofs
set_option maxRecDepth 100000
structure DayD where
  hand : Int
  flat : Int
  nw : Nat
  wlo : Nat → Int
  whi : Nat → Int
  nl : Nat
  lw : Nat → Int
  llo : Nat → Int
  lhi : Nat → Int
  nc : Nat
  ck : Nat → Int
  cw : Nat → Int
  clo : Nat → Int
  chi : Nat → Int
def iV (n : Int) : AV := .lit (.int .i64 n)
abbrev nl3 : AV := .lit (.slice none 0 0)
def rangeV (lo hi : Int) : AV := .agg [iV lo, iV hi]
def intC (fl : Nat → Int) (i _ : Nat) : AV := iV (fl i)
def intsV (n : Nat) (ex : Bool) (fl : Nat → Int) : AV := .isl n 1 ex (intC fl)
theorem iV_below {n : Int} : Below 0 (iV n) := Below.lit
theorem rangeV_below {lo hi : Int} : Below 0 (rangeV lo hi) := Below.agg (AllB.ok ⟨Below.lit, Below.lit, trivial⟩)
theorem intsV_below (n : Nat) (ex : Bool) (fl : Nat → Int) : Below 0 (intsV n ex fl) := Below.isl fun i k _ _ => Below.lit
theorem Below.up {n m : Nat} {a : AV} (h : Below 0 a) : Below n a := fun φ u hv => by
  have h1 := h φ u hv
  exact VR.mono (φ := ⟨φ.f, 0, φ.z⟩) (φ' := ⟨φ.f, n, φ.z⟩) ⟨Nat.zero_le _, fun id hid => absurd hid (Nat.not_lt_zero id), fun b c hb => hb⟩ h1
def add64 (a b : Int) : Int := wrp .i64 (a + b)
def sub64 (a b : Int) : Int := wrp .i64 (a - b)
def mul64 (a b : Int) : Int := wrp .i64 (a * b)
def size64 (lo hi : Int) : Int := add64 (sub64 hi lo) 1
theorem add64_eq (a b : Int) : std.bin .add .i64 a b = add64 a b := rfl
theorem sub64_eq (a b : Int) : std.bin .sub .i64 a b = sub64 a b := rfl
theorem add64_in (a b : Int) (h1 : -9223372036854775808 ≤ a + b) (h2 : a + b ≤ 9223372036854775807) : add64 a b = a + b := wrp_in (by simpa only [IntKind.lo] using h1) (by simpa only [IntKind.hi] using h2)
theorem sub64_in (a b : Int) (h1 : -9223372036854775808 ≤ a - b) (h2 : a - b ≤ 9223372036854775807) : sub64 a b = a - b := wrp_in (by simpa only [IntKind.lo] using h1) (by simpa only [IntKind.hi] using h2)
theorem inc_ok {O : Ar} (hO : O = std) {i : Nat} (h : i < 4611686018427387904) : AV.lit (.int .i64 (O.bin .add .i64 (Int.ofNat i) 1)) = iV ((i + 1 : Nat) : Int) := by
  have h1 : O.bin .add .i64 (Int.ofNat i) 1 = add64 (Int.ofNat i) 1 := by rw [hO]; exact add64_eq _ _
  have h2 : add64 (Int.ofNat i) 1 = Int.ofNat i + 1 := add64_in (i : Int) 1 (by omega) (by omega)
  rw [h1, h2]; rfl
def allN (n : Nat) (p : Nat → Bool) : Bool := decide (∀ i, i < n → p i = true)
theorem allN_congr {n : Nat} {p q : Nat → Bool} (h : ∀ i, i < n → p i = q i) : allN n p = allN n q := by
  simp only [allN]
  congr 1
  exact propext ⟨fun hp i hi => by rw [← h i hi]; exact hp i hi, fun hp i hi => by rw [h i hi]; exact hp i hi⟩
def withinB (lo hi a b : Int) : Bool := decide (a ≤ lo) && decide (lo ≤ hi) && decide (hi ≤ b)
def inB (n a b : Int) : Bool := decide (a ≤ n) && decide (n ≤ b)
end Go.Fz
namespace Go.Fz
open Go.ChangeShapes Go.WideShapes Go.Deep Go.Joins
def flatFs (P : Program) (rec : TypeId → Option (List Bool)) : List Field → Nat → Option (List Bool)
  | [], _ => some []
  | f :: fs, off => match rec f.type, flatFs P rec fs (off + P.cellsOf f.type) with
    | some ks, some ls => if f.offset = off ∧ ks.length = P.cellsOf f.type then some (ks ++ ls) else none
    | _, _ => none
def flatK (P : Program) : Nat → TypeId → Option (List Bool)
  | 0, _ => none
  | d + 1, t => match P.underlying t with
    | some (.int .i64) => some [true]
    | some .bool => some [false]
    | some (.struct fs) => flatFs P (flatK P d) fs.toList 0
    | _ => none
def kindOk : Bool → Value → Prop
  | true, v => ∃ n, v = .int .i64 n ∧ (Lit.int .i64 n).wf = true
  | false, v => ∃ b, v = .bool b
section
variable {H : Type} {enc : TypeId × Value → H} {P : Program} {w : World} {base : Nat} {spare : Nat → Bool} {held : Bool}
theorem flatFs_ok {rec : TypeId → Option (List Bool)} {n : Nat} {cs : List Value} (hrec : ∀ (t : TypeId) (ks : List Bool) (cs : List Value) (x : DataW H × List MemPlace), rec t = some ks → DataW.trod enc P w base spare held n t cs = some x → ∀ (j : Nat) (k : Bool), ks[j]? = some k → ∃ v, cs[j]? = some v ∧ kindOk k v) :
    ∀ (fs : List Field) (off : Nat) (ks : List Bool), flatFs P rec fs off = some ks → (∀ f ∈ fs, ∃ x, DataW.trod enc P w base spare held n f.type ((cs.drop f.offset).take (P.cellsOf f.type)) = some x) →
      ∀ (j : Nat) (k : Bool), ks[j]? = some k → ∃ v, cs[off + j]? = some v ∧ kindOk k v
  | [], off, ks, h, _, j, k, hj => by
    cases h
    simp at hj
  | f :: fs, off, ks, h, hx, j, k, hj => by
    unfold flatFs at h
    split at h
    · rename_i k1 k2 h1 h2
      split at h
      · rename_i hc
        cases h
        obtain ⟨ho, hl⟩ := hc
        by_cases hjl : j < k1.length
        · rw [List.getElem?_append_left hjl] at hj
          obtain ⟨x, hx1⟩ := hx f List.mem_cons_self
          obtain ⟨v, hv, hk⟩ := hrec f.type k1 _ x h1 hx1 j k hj
          refine ⟨v, ?_, hk⟩
          rw [List.getElem?_take, List.getElem?_drop, ho] at hv
          split at hv
          · exact hv
          · cases hv
        · rw [List.getElem?_append_right (by omega)] at hj
          obtain ⟨v, hv, hk⟩ := flatFs_ok hrec fs (off + P.cellsOf f.type) k2 h2 (fun g hg => hx g (List.mem_cons_of_mem _ hg)) (j - k1.length) k hj
          exact ⟨v, by rw [← hv]; congr 1; omega, hk⟩
      · cases h
    · cases h
theorem flatK_ok : ∀ (d : Nat) (n : Nat) (t : TypeId) (ks : List Bool) (cs : List Value) (x : DataW H × List MemPlace), flatK P d t = some ks → DataW.trod enc P w base spare held n t cs = some x → ∀ (j : Nat) (k : Bool), ks[j]? = some k → ∃ v, cs[j]? = some v ∧ kindOk k v
  | 0, _, _, _, _, _, h, _, _, _, _ => by cases h
  | d + 1, n, t, ks, cs, x, h, ht, j, k, hj => by
    unfold flatK at h
    split at h
    · rename_i hu
      cases h
      obtain ⟨z, rfl, _, hw⟩ := DataW.trod_int hu ht
      match j, hj with
      | 0, hj => cases hj; exact ⟨_, rfl, z, rfl, hw⟩
    · rename_i hu
      cases h
      obtain ⟨b, rfl, _⟩ := DataW.trod_bool hu ht
      match j, hj with
      | 0, hj => cases hj; exact ⟨_, rfl, b, rfl⟩
    · rename_i fs hu
      obtain ⟨xs, m, rfl, _, _, hlen, hf⟩ := DataW.trod_struct hu ht
      have := flatFs_ok (cs := cs) (fun t ks cs x h1 h2 => flatK_ok d m t ks cs x h1 h2) fs.toList 0 ks h (fun f hfm => by
        obtain ⟨i, hi, he⟩ := List.getElem_of_mem hfm
        have h1 := hf i f (by rw [← Array.getElem?_toList, List.getElem?_eq_getElem hi, he])
        rw [Array.length_toList] at hi
        rw [List.getElem?_eq_getElem (by omega)] at h1
        exact ⟨_, h1⟩) j k hj
      simpa using this
    · cases h
def decI (w : World) (a : Addr) (j : Nat) : Int := match w.cell? ⟨a.block, a.off + j, none⟩ with
  | some (.int _ n) => n
  | _ => 0
def decB (w : World) (a : Addr) (j : Nat) : Bool := match w.cell? ⟨a.block, a.off + j, none⟩ with
  | some (.bool b) => b
  | _ => false
def slAddr : Value → Addr
  | .slice (some a) _ _ => a
  | _ => ⟨0, 0, none⟩
def slCount : Value → Nat
  | .slice _ n _ => n
  | _ => 0
def zW (w : World) (b : Nat) : Option (Nat → Option Value) := match w.heap[b]? with
  | some (.cells c _ _) => some fun i => c[i]?
  | _ => none
theorem zW_cell {b : Nat} {c : Nat → Option Value} (h : zW w b = some c) (i : Nat) : c i = w.cell? ⟨b, i, none⟩ := by
  unfold zW at h
  split at h
  · rename_i hb
    cases h
    simp [World.cell?, hb]
  · cases h
def fiW (w : World) : Fi := ⟨fun _ => ⟨0, 0, 0⟩, 0, zW w⟩
theorem relW (w : World) : Rel (fiW w) ⟨[], 0⟩ w := by
  refine ⟨rfl, fun _ _ h => by simp [Hp.get] at h, fun _ _ h => by simp [Hp.get] at h, fun _ _ h => by simp [Hp.get] at h, fun _ _ _ _ h => by simp [Hp.get] at h, fun _ _ _ h => by simp [Hp.get] at h, fun b c hb => ⟨?_, fun i v hv => ?_, fun _ _ h => by simp [Hp.get] at h⟩⟩
  · have hb' : zW w b = some c := hb
    unfold zW at hb'
    split at hb'
    · rename_i hh
      exact (Array.getElem?_eq_some_iff.1 hh).1
    · cases hb'
  · rw [← zW_cell (w := w) hb i]; exact hv
theorem slice_cells {t e : TypeId} {n d : Nat} {ks : List Bool} {v : Value} {x : DataW H × List MemPlace} {r : Reach} {b0 : Nat} (ht : P.underlying t = some (.slice e)) (hk : flatK P d e = some ks) (hc : P.cellsOf e = ks.length)
    (hok : Cell.okWide P w r b0 t v) (h : DataW.trod enc P w base spare held n t [v] = some x) :
    v = .slice none 0 0 ∨ ∃ a cap c, v = .slice (some a) (slCount v) cap ∧ slCount v ≤ cap ∧ a.spot = none ∧ zW w a.block = some c ∧
      ∀ i j k, i < slCount v → ks[j]? = some k → ∃ u, w.cell? ⟨a.block, a.off + (i * ks.length + j), none⟩ = some u ∧ kindOk k u := by
  rcases open_slice ht h with ⟨h0, _⟩ | ⟨a, len, cap, m, n', D, Pl, hcs, _, hl, _, hm, _, hi⟩
  · left; simpa using h0
  · right
    have hv : v = .slice (some a) len cap := by simpa using hcs
    subst hv
    have hok' : w.has P r b0 a e cap := by
      unfold Cell.okWide at hok
      rw [ht] at hok
      unfold Cell.ok at hok
      rw [ht] at hok
      exact hok.2.2
    obtain ⟨_, hs, row, cells, hsh, _⟩ := hok'
    refine ⟨a, cap, ?_⟩
    have hz : ∃ c, zW w a.block = some c := by
      unfold World.shape? at hsh
      split at hsh
      · rename_i c t' z hb
        exact ⟨fun i => c[i]?, by unfold zW; rw [hb]⟩
      · rename_i hh
        cases hsh
    obtain ⟨c, hz⟩ := hz
    refine ⟨c, rfl, hl, hs, hz, fun i j k hil hj => ?_⟩
    have him : i < m := by
      rw [hm]; simp only [slCount] at hil; split <;> omega
    obtain ⟨cs', hcells, htr⟩ := hi i him
    obtain ⟨u, hu, hko⟩ := flatK_ok d n' e ks cs' (D i, Pl i) hk htr j k hj
    refine ⟨u, ?_, hko⟩
    obtain ⟨_, hlen, hat⟩ := World.cells?_some hcells
    have hjl : j < ks.length := (List.getElem?_eq_some_iff.1 hj).1
    have h1 := hat j (by rw [hc]; exact hjl)
    rw [hu, hc] at h1
    rw [← h1]
    congr 1
    unfold Addr.add
    obtain ⟨ab, ao, asp⟩ := a
    simp only at hs
    subst hs
    by_cases h2 : i * ks.length = 0
    · by_cases h3 : j = 0
      · simp [h2, h3]
      · simp [h2, h3]
    · by_cases h3 : j = 0
      · simp [h2, h3]
      · simp [h2, h3]; omega
theorem slice_isl {t e : TypeId} {n d : Nat} {ks : List Bool} {v : Value} {x : DataW H × List MemPlace} {r : Reach} {b0 : Nat} (ht : P.underlying t = some (.slice e)) (hk : flatK P d e = some ks) (hc : P.cellsOf e = ks.length)
    (hok : Cell.okWide P w r b0 t v) (h : DataW.trod enc P w base spare held n t [v] = some x) {g : Nat → Nat → AV}
    (hg : ∀ i j k, ks[j]? = some k → g i j = if k then .lit (.int .i64 (decI w (slAddr v) (i * ks.length + j))) else .sb (decB w (slAddr v) (i * ks.length + j))) :
    VR (fiW w) (.isl (slCount v) ks.length false g) v := by
  rcases slice_cells ht hk hc hok h with rfl | ⟨a, cap, c, hv, hl, hs, hz, hcell⟩
  · exact .isl0 _ _ _
  · generalize hN : slCount v = N at *
    subst hv
    obtain ⟨ab, ao, asp⟩ := a
    simp only at hs
    subst hs
    refine .isl N ks.length false g ab ao cap c (fun i k => (w.cell? ⟨ab, ao + (i * ks.length + k), none⟩).getD undef) hz (fun i k hi hk' => ?_) (fun i k hi hk' => ?_) hl (fun h => by cases h)
    · obtain ⟨u, hu, _⟩ := hcell i k ks[k] hi (List.getElem?_eq_getElem hk')
      rw [zW_cell (w := w) hz, show ao + i * ks.length + k = ao + (i * ks.length + k) by omega]
      simp only at hu
      rw [hu]; rfl
    · obtain ⟨u, hu, hko⟩ := hcell i k ks[k] hi (List.getElem?_eq_getElem hk')
      simp only at hu
      rw [hu]
      rw [hg i k ks[k] (List.getElem?_eq_getElem hk')]
      cases hkk : ks[k] with
      | true =>
        rw [hkk] at hko
        obtain ⟨z, rfl, _⟩ := hko
        have : decI w (slAddr (.slice (some ⟨ab, ao, none⟩) N cap)) (i * ks.length + k) = z := by
          simp [decI, slAddr, hu]
        simp only [if_true, Option.getD_some]
        rw [this]; exact .lit _
      | false =>
        rw [hkk] at hko
        obtain ⟨z, rfl⟩ := hko
        have : decB w (slAddr (.slice (some ⟨ab, ao, none⟩) N cap)) (i * ks.length + k) = z := by
          simp [decB, slAddr, hu]
        simp only [Bool.false_eq_true, if_false, Option.getD_some]
        rw [this]; exact .sb _
end
end Go.Fz
namespace Go.Proofs.Ytpaifaemkoblcaa
open Go.ChangeShapes Go.WideShapes Go.ChangeAt Go.RowKit Go.Joins
set_option linter.unusedVariables false
set_option maxRecDepth 100000
end Go.Proofs.Ytpaifaemkoblcaa
namespace Go.Fz
open Go.Proofs
set_option maxRecDepth 100000
end Go.Fz
namespace Go.Fz
open Go.Proofs
set_option maxRecDepth 100000
end Go.Fz
namespace Go.Fz
open Go.Proofs
set_option maxRecDepth 100000
theorem RenV.inc {O : Ar} (hO : O = std) {ρ : Nat → Nat} {n i : Nat} (h : i < 4611686018427387904) : RenV ρ n (iV ((i + 1 : Nat) : Int)) (.lit (.int .i64 (O.bin .add .i64 (Int.ofNat i) 1))) := by
  rw [inc_ok hO h]; exact RenV.closed Below.lit
theorem frz_slE {h : Hp} {D : Nat → Bool} {id sz n : Nat} {fm : Option Nat} {G : List AV} (hd : D id = true) (hg : h.get id = some (.cells fm false G)) (hl : n * sz ≤ G.length) :
    frz h D 3 (.sl id 0 n sz false) = .isl n sz false (fun i k => frz h D 2 (G.getD (0 + i * sz + k) .any)) := by
  show (if D id = true then (match h.get id with | some (.cells _ false cs) => if 0 + n * sz ≤ cs.length then AV.isl n sz false (fun i k => frz h D 2 (cs.getD (0 + i * sz + k) .any)) else .any | _ => .any) else _) = _
  rw [if_pos hd, hg]
  exact if_pos (by omega)
theorem frz_flat {h : Hp} {D : Nat → Bool} {sz n i k : Nat} {g : Nat → Nat → AV} (hi : i < n) (hk : k < sz) (hz : frz h D 2 (g i k) = g i k) : frz h D 2 ((flatG sz g n).getD (0 + i * sz + k) .any) = g i k := by
  rw [List.getD_eq_getElem?_getD, show 0 + i * sz + k = i * sz + k by omega, flatG_get sz g n i k hi hk]; exact hz
theorem flatG_below {sz : Nat} {g : Nat → Nat → AV} (h : ∀ i k, Below 0 (g i k)) : ∀ n, ∀ a ∈ flatG sz g n, Below 0 a
  | 0, a, ha => by cases ha
  | n + 1, a, ha => by
    simp only [flatG, List.mem_append] at ha
    rcases ha with ha | ha
    · exact flatG_below h n a ha
    · obtain ⟨i, hi⟩ := List.mem_iff_getElem?.1 ha
      rw [cellsFrom_get] at hi
      split at hi
      · cases hi; exact h n _
      · cases hi
theorem flatG_congr {sz : Nat} {g g' : Nat → Nat → AV} : ∀ {n : Nat}, (∀ i k, i < n → g i k = g' i k) → flatG sz g n = flatG sz g' n
  | 0, _ => rfl
  | n + 1, h => by
    simp only [flatG]
    rw [flatG_congr (n := n) fun i k hi => h i k (by omega), show g n = g' n from funext fun k => h n k (by omega)]
theorem flatG_one {sz : Nat} {g : Nat → Nat → AV} (h : ∀ i k, (g i k).one = true) : ∀ n, (flatG sz g n).all AV.one = true
  | 0 => rfl
  | n + 1 => by
    simp only [flatG, List.all_append, flatG_one h n, Bool.true_and]
    rw [List.all_eq_true]
    intro a ha
    obtain ⟨i, hi⟩ := List.mem_iff_getElem?.1 ha
    rw [cellsFrom_get] at hi
    split at hi
    · cases hi; exact h n _
    · cases hi
def prN (lo hi : Nat → Int) : Nat → Int
  | 0 => 1
  | i + 1 => mul64 (prN lo hi i) (size64 (lo i) (hi i))
end Go.Fz
namespace Go.Fz
open Go.Proofs
set_option maxRecDepth 100000
end Go.Fz
namespace Go.Fz
open Go.Proofs
set_option maxRecDepth 100000
theorem inj_of {l : Hp} {ρ : Nat → Nat} (h : (l.all fun p => l.all fun q => !(Nat.beq (ρ p.1) (ρ q.1)) || Nat.beq p.1 q.1) = true) : ∀ p ∈ l, ∀ q ∈ l, ρ p.1 = ρ q.1 → p.1 = q.1 := fun p hp q hq he => by
  have h1 := List.all_eq_true.1 (List.all_eq_true.1 h p hp) q hq
  rw [he, Nat.beq_refl] at h1
  exact Nat.eq_of_beq_eq_true (by simpa using h1)
theorem lv_of {O : Ar} (hO : O = std) {ops : Array Oper} {h : Hp} {f : Fm} {i j : Nat} {o : Oper} {c : List Cond} {r : AV} (hp : pickD O T ops [] h f [i] = some (j, o, c, r)) (hc : allC c) : lightV T ops h f i = some r := by
  obtain ⟨h1, _, _, h4⟩ := pickD_ok hO hp
  obtain rfl : j = i := by simpa using h1
  exact h4 (allC_ok hc)
theorem intC_one (fl : Nat → Int) (i k : Nat) : (intC fl i k).one = true := rfl
theorem Eqv.nil {sz : Nat} {ex : Bool} {g : Nat → Nat → AV} : Eqv (.lit (.slice none 0 0)) (.isl 0 sz ex g) := fun _ _ hv => by cases hv; exact .isl0 _ _ _
def slG (id sz : Nat) : Nat → AV
  | 0 => .lit (.slice none 0 0)
  | n + 1 => .sl id 0 (n + 1) sz false
end Go.Fz
namespace Go.Fz
open Go.Proofs
set_option maxRecDepth 100000
end Go.Fz
namespace Go.Fz
open Go.Proofs
set_option maxRecDepth 100000
end Go.Fz
namespace Go.Fz
open Go.Proofs
set_option maxRecDepth 100000
def objG (id sz : Nat) (g : Nat → Nat → AV) : Nat → Hp
  | 0 => []
  | n + 1 => [(id, .cells none false (flatG sz g (n + 1)))]
theorem objG_mem {id sz : Nat} {g : Nat → Nat → AV} : ∀ {n : Nat} {p : Nat × AObj}, p ∈ objG id sz g n → p = (id, .cells none false (flatG sz g n))
  | 0, p, h => by cases h
  | n + 1, p, h => by simpa [objG] using h
end Go.Fz
namespace Go.Fz
open Go.Proofs
set_option maxRecDepth 100000
theorem allN_false {n i : Nat} {p : Nat → Bool} (h : i < n) (hp : p i = false) : allN n p = false := by
  simp only [allN, decide_eq_false_iff_not]
  intro hq
  rw [hq i h] at hp; cases hp
theorem allN_true {n : Nat} {p : Nat → Bool} (h : ∀ i, i < n → p i = true) : allN n p = true := by
  simp only [allN, decide_eq_true_eq]; exact h
theorem sub1_ok {O : Ar} (hO : O = std) {n : Nat} (h : n < 4611686018427387904) : O.bin .sub .i64 (Int.ofNat n) 1 = (n : Int) - 1 := by
  have h1 : O.bin .sub .i64 (Int.ofNat n) 1 = sub64 (Int.ofNat n) 1 := by rw [hO]; exact sub64_eq _ _
  have h2 : sub64 (Int.ofNat n) 1 = (n : Int) - 1 := sub64_in (n : Int) 1 (by omega) (by omega)
  rw [h1, h2]
end Go.Fz
namespace Go.Fz
open Go.Proofs
set_option maxRecDepth 100000
def minI (a b : Int) : Int := if b < a then b else a
end Go.Fz
namespace Go.Fz
open Go.Proofs
set_option maxRecDepth 100000
end Go.Fz
namespace Go.Fz
open Go.Proofs
set_option maxRecDepth 100000
end Go.Fz
