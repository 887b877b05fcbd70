/- Own work of the verifier of watercress: Lb3. -/
import Derived.Test.YtpaifaemkoblcaaNa2
set_option linter.unusedVariables false
set_option linter.unusedSimpArgs false
set_option linter.unusedVariables false
set_option linter.unusedSimpArgs false
namespace Go.Fz
variable {P : Program} {T : Ti}
def ObjBelow (n : Nat) : AObj → Prop
  | .cells fm _ cs => (∀ a ∈ cs, Below n a) ∧ ∀ f, fm = some f → f < n
  | .loop r => (∀ i, Below n (r.tmps.get i)) ∧ r.dfid < n
  | .dfr => True
  | _ => False
structure Weak (n : Nat) (f1 : Fm) (st1 : St) (f2 : Fm) (st2 : St) : Prop where
  len : f2.ts.len = f1.ts.len
  dm : f2.dm = f1.dm
  dmlt : ∀ id ∈ f2.dm, id < st2.n
  get : ∀ i, f2.ts.get i = .any ∨ (f2.ts.get i = f1.ts.get i ∧ (st2.n = st1.n ∨ Below st2.n (f1.ts.get i)))
  lo : n ≤ st2.n
  hi : st2.n ≤ st1.n
  obj : ∀ id o, st2.h.get id = some o → st1.h.get id = some o ∧ id < st2.n ∧ (st2.n = st1.n ∨ ObjBelow st2.n o)
def cutN (φ : Fi) (n : Nat) : Fi := ⟨φ.f, n, φ.z⟩
theorem ObjR.below {φ : Fi} {w : World} {id n : Nat} {o : AObj} (hb : ObjBelow n o) (h : ObjR φ w id o) : ObjR (cutN φ n) w id o := by
  cases o with
  | cells fm ro cs =>
    exact ⟨fun i a ha => by
      obtain ⟨v, h1, h2⟩ := h.1 i a ha
      exact ⟨v, h1, hb.1 a (List.mem_of_getElem? ha) _ _ h2⟩, h.2⟩
  | loop r =>
    obtain ⟨L, h1, h2, h3, h4, h5, h6, h7, h8, h9⟩ := h
    exact ⟨L, h1, h2, h3, ⟨h4.size, fun i => hb.1 i _ _ (h4.get i)⟩, h5, h6, h7, hb.2, h9⟩
  | dfr => exact h
  | map es clock => exact hb.elim
  | iter a b c d => exact hb.elim
theorem Weak.ok {n : Nat} {f1 f2 : Fm} {st1 st2 : St} (hw : Weak n f1 st1 f2 st2) {φ : Fi} {w : World} {a : Act} (hr : Rel φ st1 w) (ha : ActR φ f1 a) :
    Rel (cutN φ st2.n) st2 w ∧ ActR (cutN φ st2.n) f2 a ∧ Fr φ st1 w (cutN φ st2.n) st2 w := by
  have hsame : st2.n = st1.n → cutN φ st2.n = φ := fun h => by cases φ; simp only [cutN, h, ← hr.n]
  refine ⟨⟨rfl, fun id o h => (hw.obj id o h).2.1, fun id o h => hr.blk id o (hw.obj id o h).1, fun id o h => ?_, fun i j oi oj hi hj => hr.sep i j oi oj (hw.obj i oi hi).1 (hw.obj j oj hj).1, fun id o f h hf => ?_, fun b c hb => ?_⟩, ⟨⟨?_, fun i => ?_⟩, ?_, hw.dmlt⟩,
    ⟨rfl, rfl, rfl, Nat.le_refl _, fun _ _ _ => rfl, fun k ⟨id, o, h, ho, hb⟩ => .inl ⟨id, o, (hw.obj id o h).1, ho, hb⟩, fun b c hb => .inl hb⟩⟩
  · obtain ⟨h1, h2, h3⟩ := hw.obj id o h
    rcases h3 with h3 | h3
    · rw [hsame h3]; exact hr.obj id o h1
    · exact (hr.obj id o h1).below h3
  · obtain ⟨h1, h2, h3⟩ := hw.obj id o h
    rcases h3 with h3 | h3
    · rw [h3]; exact hr.fam id o f h1 hf
    · cases o with
      | cells fm ro cs => exact h3.2 f hf
      | loop r => cases hf
      | dfr => cases hf
      | map es clock => cases hf
      | iter a b c d => cases hf
  · obtain ⟨h1, h2, h3⟩ := hr.froz b c hb
    exact ⟨h1, h2, fun id o h => h3 id o (hw.obj id o h).1⟩
  · rw [hw.len]; exact ha.ts.size
  · rcases hw.get i with h | ⟨h, h2⟩
    · rw [h]; exact .any _
    · rw [h]
      rcases h2 with h2 | h2
      · rw [hsame h2]; exact ha.ts.get i
      · exact h2 _ _ (ha.ts.get i)
  · rw [hw.dm]; exact ha.dm
theorem SW.weak {rd : Option Nat} {c : Code} {Q : Exit → Fm → St → Prop} {f : Fm} {st : St} (h : SW P rd c (fun e f1 st1 => Q e f1 st1 ∨ ∃ f2 st2, Weak st.n f1 st1 f2 st2 ∧ Q e f2 st2) f st) : SW P rd c Q f st := by
  intro φ w a n h1 h2 h3
  refine wpIn_mono (h φ w a n h1 h2 h3) fun e a' w' hl => ?_
  obtain ⟨f1, st1, φ1, hq, he, hr, ha, hf⟩ := hl
  rcases hq with hq | ⟨f2, st2, hw, hq⟩
  · exact ⟨f1, st1, φ1, hq, he, hr, ha, hf⟩
  · obtain ⟨k1, k2, k3⟩ := hw.ok hr ha
    refine ⟨f2, st2, cutN φ1 st2.n, hq, ⟨?_, he.f, he.z⟩, k1, k2, hf.trans k3⟩
    rw [h2.n]; exact hw.lo
theorem SW.pre {rd : Option Nat} {c : Code} {Q : Exit → Fm → St → Prop} {f f2 : Fm} {st st2 : St} (hw : Weak st.n f st f2 st2) (h : SW P rd c Q f2 st2) : SW P rd c Q f st := by
  intro φ w a n h1 h2 h3
  obtain ⟨k1, k2, k3⟩ := hw.ok h2 h3
  have hn : st2.n = st.n := Nat.le_antisymm hw.hi hw.lo
  have hsame : cutN φ st2.n = φ := by cases φ; simp only [cutN, hn, ← h2.n]
  rw [hsame] at k1 k2 k3
  exact wpIn_mono (h φ w a n h1 k1 k2) fun e a' w' hl => hl.trans (Ext.refl _) k3
theorem SW.loopF {α : Type} {rd : Option Nat} {c : Code} {Q : Exit → Fm → St → Prop} {f : Fm} {st : St} (F : α → Fm) (S : α → St) (m : α → Nat) (Inv : α → Prop) (x0 : α) (hn : ∀ x, (S x).n = st.n) (h0 : Inv x0) (hw : Weak st.n f st (F x0) (S x0))
    (hround : ∀ x, Inv x → SW P rd c (thenQ (fun f' st' => ∃ x', m x' < m x ∧ Inv x' ∧ Weak st.n f' st' (F x') (S x')) Q) (F x) (S x)) : SW P rd (.loop c) Q f st := by
  refine SW.pre hw (SW.loop (fun k f st => ∃ x, Inv x ∧ m x = k ∧ f = F x ∧ st = S x) (m x0) ⟨x0, h0, rfl, rfl, rfl⟩ fun k f' st' ⟨x, hx, hk, hf, hs⟩ => ?_)
  subst hf; subst hs; subst hk
  refine SW.weak ((hround x hx).mono fun e f1 st1 hq => ?_)
  cases e with
  | normal =>
    obtain ⟨x', h1, h2, h3⟩ := hq
    exact .inr ⟨F x', S x', by rw [hn]; exact h3, m x', h1, x', h2, rfl, rfl, rfl⟩
  | _ => exact .inl hq
theorem getT_weak {n : Nat} {g : Nat → AV} {q : Prop} : ∀ (l : List (Nat × AV)), (∀ p ∈ l, g p.1 = p.2 ∧ (q ∨ Below n p.2)) → ∀ i, getT l i = .any ∨ (getT l i = g i ∧ (q ∨ Below n (g i)))
  | [], _, i => .inl rfl
  | (j, a) :: r, h, i => by
    simp only [getT]
    cases hb : Nat.beq j i with
    | true =>
      obtain rfl := Nat.eq_of_beq_eq_true hb
      obtain ⟨h1, h2⟩ := h (j, a) List.mem_cons_self
      simp only at h1 h2 ⊢
      right
      rw [h1]; exact ⟨rfl, h2⟩
    | false => exact getT_weak r (fun p hp => h p (List.mem_cons_of_mem _ hp)) i
theorem Hp.get_all {p : Nat → AObj → Prop} : ∀ (h : Hp), (∀ x ∈ h, p x.1 x.2) → ∀ id o, h.get id = some o → p id o
  | [], _, id, o, h => by simp [Hp.get] at h
  | (i, x) :: r, hp, id, o, h => hp _ (Hp.mem_of_get h)
def AllW (q : Prop) (n : Nat) (g : Nat → AV) : List (Nat × AV) → Prop
  | [] => True
  | p :: r => (g p.1 = p.2 ∧ (q ∨ Below n p.2)) ∧ AllW q n g r
theorem AllW.ok {q : Prop} {n : Nat} {g : Nat → AV} : ∀ {l : List (Nat × AV)}, AllW q n g l → ∀ p ∈ l, g p.1 = p.2 ∧ (q ∨ Below n p.2)
  | [], _, p, h => by cases h
  | x :: l, h, p, hp => by
    rcases List.mem_cons.1 hp with rfl | hp
    · exact h.1
    · exact h.2.ok p hp
def AllO (q : Prop) (n : Nat) (h1 : Hp) : Hp → Prop
  | [] => True
  | x :: r => (h1.get x.1 = some x.2 ∧ x.1 < n ∧ (q ∨ ObjBelow n x.2)) ∧ AllO q n h1 r
theorem AllO.ok {q : Prop} {n : Nat} {h1 : Hp} : ∀ {h : Hp}, AllO q n h1 h → ∀ x ∈ h, h1.get x.1 = some x.2 ∧ x.1 < n ∧ (q ∨ ObjBelow n x.2)
  | [], _, p, h => by cases h
  | x :: l, h, p, hp => by
    rcases List.mem_cons.1 hp with rfl | hp
    · exact h.1
    · exact h.2.ok p hp
theorem Weak.by {n : Nat} {f1 : Fm} {st1 : St} {l : List (Nat × AV)} {len : Nat} {dm : List Nat} {h2 : Hp} {n2 : Nat} (e1 : len = f1.ts.len) (e2 : dm = f1.dm) (e3 : ∀ id ∈ dm, id < n2) (e5 : n ≤ n2) (e6 : n2 ≤ st1.n)
    (e4 : AllW (n2 = st1.n) n2 f1.ts.get l) (e7 : AllO (n2 = st1.n) n2 st1.h h2) : Weak n f1 st1 ⟨⟨len, getT l⟩, dm⟩ ⟨h2, n2⟩ :=
  ⟨e1, e2, e3, getT_weak l e4.ok, e5, e6, Hp.get_all _ e7.ok⟩
def Fm.froz (f : Fm) (h : Hp) (D : Nat → Bool) (m : Nat) : Fm := ⟨⟨f.ts.len, fun i => frz h D m (f.ts.get i)⟩, f.dm⟩
theorem ActR.froz {φ : Fi} {st : St} {w : World} (hr : Rel φ st w) {f : Fm} {a : Act} (ha : ActR φ f a) (D : Nat → Bool) (m : Nat) : ActR (φ.froz st.h D w) (f.froz st.h D m) a :=
  ⟨⟨ha.ts.size, fun i => frz_ok hr m (ha.ts.get i)⟩, ha.dm, ha.lt⟩
theorem OpsW.freeze {ops : Array Oper} {rd : Option Nat} {l : List Nat} {K : Fm → St → Prop} {f : Fm} {st : St} (D : Nat → Bool) (m : Nat) (hf : freeB st.h D = true) (h : OpsW P rd ops l K (f.froz st.h D m) (st.keep fun i => !D i)) : OpsW P rd ops l K f st := by
  intro φ w a n Q h1 h2 h3 hQ
  obtain ⟨k1, k2⟩ := h2.freeze hf
  exact h (φ.froz st.h D w) w a n Q h1 k1 (h3.froz h2 D m) fun a' w' hl => hQ a' w' (hl.trans (φ.froz_ext _ _ _) k2)
def AnyE (P : Program) (T : Ti) (ops : Array Oper) (M : List Nat) (rd : Option Nat) (K : Fm → St → Prop) (fuel : Nat) (pend : List (Nat × AV)) (listed : Array Bool) (f : Fm) (st : St) : Prop :=
  Closed ops listed → PL pend listed → PendOk T ops pend f st.h → AnyD P T ops M rd K fuel pend listed f st
variable {ops : Array Oper}
theorem SW.drawnE {M : List Nat} (hm : P.follows .mixedOrders = true) {rd : Option Nat} {id : Nat} {Q : Exit → Fm → St → Prop} {f : Fm} {st : St} (hM : tidyB ops M = true)
    (h : AnyE P T ops M rd (fun f' st' => Q .normal f' st') ops.size [] (Array.replicate ops.size false) f st) : SW P rd (.region id ops true) Q f st :=
  SW.drawn hm (tidy_of hM) (h closed_nil (fun p hp => by cases hp) (fun p hp => by cases hp))
def noLookB (ops : Array Oper) (pend : List (Nat × AV)) (oi : Oper) : Bool := match oi.dst with
  | none => true
  | some d => pend.all fun p => match ops[p.1]? with
    | none => true
    | some o => !((o.looksAt ops).contains d)
theorem noLookB_ok {pend : List (Nat × AV)} {oi : Oper} (h : noLookB ops pend oi = true) : ∀ p ∈ pend, ∀ o, ops[p.1]? = some o → ∀ d, oi.dst = some d → d ∉ o.looksAt ops := fun p hp o ho d hd hm => by
  unfold noLookB at h
  rw [hd] at h
  have := List.all_eq_true.1 h p hp
  simp only [ho, Bool.not_eq_true'] at this
  rw [List.contains_iff_mem.2 hm] at this
  cases this
theorem AnyE.takeE {M : List Nat} (hM : tidyB ops M = true) (hT : TOk P T) {rd : Option Nat} {K : Fm → St → Prop} (i : Nat) {oi : Oper} {r : AV} {fuel : Nat} {pend : List (Nat × AV)} {listed : Array Bool} {f : Fm} {st : St} (hi : ops[i]? = some oi)
    (hb : ((Region.ready .any ops listed).contains i && noLookB ops pend oi) = true) (hl : LV T ops st.h f i r)
    (H : AnyE P T ops M rd K fuel ((i, r) :: pend) (listed.setIfInBounds i true) (f.put oi.dst r) st) : AnyE P T ops M rd K (fuel + 1) pend listed f st := fun hc hpl hpo => by
  rw [Bool.and_eq_true] at hb
  have hr := List.contains_iff_mem.1 hb.1
  have hnl := noLookB_ok hb.2
  have hTd := tidy_of hM
  refine AnyD.take hTd hT hi fuel hc hpl hnl hr hl (H (hc.set hr) (fun p hp => ?_) (fun p hp => ?_))
  · rcases List.mem_cons.1 hp with rfl | hp
    · have : i < listed.size := by
        obtain ⟨o, h1, h2, _⟩ := ready_edges hr
        rcases Nat.lt_or_ge i listed.size with h | h
        · exact h
        · simp [Array.getD_eq_getD_getElem?, Array.getElem?_eq_none_iff.2 h] at h2
      simp [Array.getD_eq_getD_getElem?, this]
    · exact getD_set_true (hpl p hp)
  · rcases List.mem_cons.1 hp with rfl | hp
    · show LV T ops st.h (f.put oi.dst r) i r
      rw [LV_put (fun o ho d hd => by rw [hi] at ho; cases ho; exact hTd.self i oi hi d hd)]
      exact hl
    · show LV T ops st.h (f.put oi.dst r) p.1 p.2
      rw [LV_put (fun o ho d hd => hnl p hp o ho d hd)]
      exact hpo p hp
theorem AnyE.take {M : List Nat} (hM : tidyB ops M = true) (hT : TOk P T) {rd : Option Nat} {K : Fm → St → Prop} (i : Nat) {oi : Oper} {r : AV} {fuel : Nat} {pend : List (Nat × AV)} {listed : Array Bool} {f : Fm} {st : St} (hi : ops[i]? = some oi)
    (hb : ((Region.ready .any ops listed).contains i && noLookB ops pend oi) = true) (hl : lightV T ops st.h f i = some r)
    (H : AnyE P T ops M rd K fuel ((i, r) :: pend) (listed.setIfInBounds i true) (f.put oi.dst r) st) : AnyE P T ops M rd K (fuel + 1) pend listed f st :=
  AnyE.takeE hM hT i hi hb (LV.of hl) H
theorem AnyE.done {M : List Nat} {rd : Option Nat} {K : Fm → St → Prop} {fuel : Nat} {pend : List (Nat × AV)} {listed : Array Bool} {f : Fm} {st : St} (hr : (Region.ready .any ops listed).isEmpty = true) (h : K f st) : AnyE P T ops M rd K fuel pend listed f st := fun _ _ hpo =>
  AnyD.done hpo (List.isEmpty_iff.1 hr) h fuel
theorem AnyE.one {M : List Nat} {rd : Option Nat} {K : Fm → St → Prop} (j : Nat) {o : Oper} {fuel : Nat} {pend : List (Nat × AV)} {listed : Array Bool} {f : Fm} {st : St} (hj : ops[j]? = some o)
    (hb : (match Region.ready .any ops listed with | [k] => Nat.beq k j | _ => false) = true) (pend' : List (Nat × AV)) (hd : dropP M j pend = pend')
    (h : OpsW P rd ops [j] (fun f' st' => (∃ v, f' = f.put o.dst v) ∧ PendOk T ops pend' f' st'.h ∧ AnyE P T ops M rd K fuel pend' (listed.setIfInBounds j true) f' st') f st) : AnyE P T ops M rd K (fuel + 1) pend listed f st := fun hc hpl hpo => by
  have hr : Region.ready .any ops listed = [j] := by
    split at hb
    · rename_i k hk; rw [hk, Nat.eq_of_beq_eq_true hb]
    · cases hb
  refine AnyD.all hpo hr (by simp) fun k hk => ?_
  have : k = j := by simpa using hk
  subst this
  have hrm : k ∈ Region.ready .any ops listed := by rw [hr]; simp
  refine ⟨o, hj, h.mono fun f' st' ⟨⟨v, hv⟩, hp, hE⟩ => ⟨v, hv, ?_⟩⟩
  rw [hd]
  exact hE (hc.set hrm) (fun p hp => by
    rw [← hd] at hp
    exact getD_set_true (hpl p (List.mem_filter.1 hp).1)) hp
end Go.Fz
namespace Go.Fz
def tab (P : Program) (t : TypeId) : Option TI :=
  match P.underlying t, P.info? t with
  | some d, some ti => match ti.zero with
    | some z => some { desc := d, size := ti.size, bytes := ti.bytes, zero := z.cells.toList, flat := !(P.stoodInHeld t) && !(P.eqGuardType P.depth t) }
    | none => none
  | _, _ => none
theorem tab_ok (P : Program) : TOk P (tab P) := fun t i h => by
  unfold tab at h
  split at h
  · rename_i d ti hd hti
    split at h
    · rename_i z hz
      cases h
      exact ⟨hd, ⟨ti, z, hti, rfl, rfl, hz, rfl⟩, fun hf => by simpa using hf⟩
    · cases h
  · cases h
def ofTab (l : List (Option TI)) : Ti := fun t => (l[t]?).getD none
theorem ofTab_ok {P : Program} {l : List (Option TI)} {n : Nat} (h : l = (List.range n).map (tab P)) : TOk P (ofTab l) := fun t i hi => by
  refine tab_ok P t i ?_
  unfold ofTab at hi
  subst h
  rw [List.getElem?_map] at hi
  cases hr : (List.range n)[t]? with
  | none => rw [hr] at hi; cases hi
  | some x =>
    rw [hr] at hi
    have : x = t := by
      obtain ⟨hx, he⟩ := List.getElem?_eq_some_iff.1 hr
      simpa using he.symm
    subst this
    exact hi
end Go.Fz
namespace Go.Fz
structure Ar where
  bin : BinOp → IntKind → Int → Int → Int
  cmp : BinOp → Int → Int → Bool
  nat : Int → Nat
  conv : IntKind → Int → Int
  neg : IntKind → Int → Int
  mn : Int → Int → Int
  mx : Int → Int → Int
  not : Bool → Bool
  beq : Bool → Bool → Bool
  bne : Bool → Bool → Bool
  and : Bool → Bool → Bool
  add : Nat → Nat → Nat
  sub : Nat → Nat → Nat
  eqN : Nat → Nat → Bool
  sel : List Int → Nat → Int
  selB : List Bool → Nat → Bool
  ups : Nat → Nat → Int → Int → Int
  upsB : Nat → Nat → Bool → Bool → Bool
def std : Ar where
  bin op k x y := match op with
    | .add => wrp k (x + y)
    | .sub => wrp k (x - y)
    | .mul => wrp k (x * y)
    | .quo => wrp k (x.tdiv y)
    | .rem => x.tmod y
    | .shl => wrp k (x * 2 ^ (min y.toNat k.bits))
    | .shr => x.fdiv (2 ^ (min y.toNat k.bits))
    | .and => k.wrap (BitVec.ofInt k.bits x &&& BitVec.ofInt k.bits y).toNat
    | .or => k.wrap (BitVec.ofInt k.bits x ||| BitVec.ofInt k.bits y).toNat
    | .xor => k.wrap (BitVec.ofInt k.bits x ^^^ BitVec.ofInt k.bits y).toNat
    | .andNot => k.wrap (BitVec.ofInt k.bits x &&& ~~~ BitVec.ofInt k.bits y).toNat
    | _ => 0
  cmp op x y := match op with
    | .eql => x == y
    | .neq => x != y
    | .lss => decide (x < y)
    | .leq => decide (x ≤ y)
    | .gtr => decide (x > y)
    | .geq => decide (x ≥ y)
    | _ => false
  nat := Int.toNat
  conv := wrp
  neg k n := wrp k (0 - n)
  mn a b := if b < a then b else a
  mx a b := if b > a then b else a
  not b := !b
  beq a b := a == b
  bne a b := a != b
  and a b := a && b
  add a b := a + b
  sub a b := a - b
  eqN a b := a == b
  sel l i := l.getD i 0
  selB l i := l.getD i false
  ups j i v x := if i = j then v else x
  upsB j i v x := if i = j then v else x
inductive Cond where
  | inB (n : Int) (len : Nat)
  | ne0 (y : Int)
  | nn (y : Int)
  | leN (a b : Nat)
  | ltN (a b : Nat)
def Cond.holds : Cond → Prop
  | .inB n len => 0 ≤ n ∧ n < len
  | .ne0 y => y ≠ 0
  | .nn y => 0 ≤ y
  | .leN a b => a ≤ b
  | .ltN a b => a < b
def allC : List Cond → Prop
  | [] => True
  | [c] => c.holds
  | c :: r => c.holds ∧ allC r
theorem allC_ok : ∀ {l : List Cond}, allC l → ∀ c ∈ l, c.holds
  | [], _, c, h => by cases h
  | [x], hl, c, h => by simp only [List.mem_singleton] at h; subst h; exact hl
  | x :: y :: r, hl, c, h => by
    rcases List.mem_cons.1 h with rfl | h
    · exact hl.1
    · exact allC_ok hl.2 c h
def kEq : IntKind → IntKind → Bool
  | .i8, .i8 | .i16, .i16 | .i32, .i32 | .i64, .i64 | .u8, .u8 | .u16, .u16 | .u32, .u32 | .u64, .u64 => true
  | _, _ => false
theorem kEq_ok {a b : IntKind} (h : kEq a b = true) : a = b := by cases a <;> cases b <;> simp_all [kEq]
def stBin (O : Ar) (op : BinOp) (k k' : IntKind) (x y : Int) : Option (List Cond × AV) :=
  match op with
  | .shl => some ([.nn y], .lit (.int k (O.bin .shl k x y)))
  | .shr => some ([.nn y], .lit (.int k (O.bin .shr k x y)))
  | .quo => match kEq k k' with | true => some ([.ne0 y], .lit (.int k (O.bin .quo k x y))) | false => none
  | .rem => match kEq k k' with | true => some ([.ne0 y], .lit (.int k (O.bin .rem k x y))) | false => none
  | .add => match kEq k k' with | true => some ([], .lit (.int k (O.bin .add k x y))) | false => none
  | .sub => match kEq k k' with | true => some ([], .lit (.int k (O.bin .sub k x y))) | false => none
  | .mul => match kEq k k' with | true => some ([], .lit (.int k (O.bin .mul k x y))) | false => none
  | .and => match kEq k k' with | true => some ([], .lit (.int k (O.bin .and k x y))) | false => none
  | .or => match kEq k k' with | true => some ([], .lit (.int k (O.bin .or k x y))) | false => none
  | .xor => match kEq k k' with | true => some ([], .lit (.int k (O.bin .xor k x y))) | false => none
  | .andNot => match kEq k k' with | true => some ([], .lit (.int k (O.bin .andNot k x y))) | false => none
  | .eql => match kEq k k' with | true => some ([], .sb (O.cmp .eql x y)) | false => none
  | .neq => match kEq k k' with | true => some ([], .sb (O.cmp .neq x y)) | false => none
  | .lss => match kEq k k' with | true => some ([], .sb (O.cmp .lss x y)) | false => none
  | .leq => match kEq k k' with | true => some ([], .sb (O.cmp .leq x y)) | false => none
  | .gtr => match kEq k k' with | true => some ([], .sb (O.cmp .gtr x y)) | false => none
  | .geq => match kEq k k' with | true => some ([], .sb (O.cmp .geq x y)) | false => none
theorem stBin_ok {op : BinOp} {k k' : IntKind} {x y : Int} {cs : List Cond} {r : AV} (h : stBin std op k k' x y = some (cs, r)) (hc : ∀ c ∈ cs, c.holds) : binA op (.lit (.int k x)) (.lit (.int k' y)) = some r := by
  cases op <;> simp only [stBin] at h
  case shl => cases h; have : 0 ≤ y := hc (.nn y) (by simp); simp [binA, this, std]
  case shr => cases h; have : 0 ≤ y := hc (.nn y) (by simp); simp [binA, this, std]
  case quo =>
    split at h
    · rename_i hk; cases h; have : y ≠ 0 := hc (.ne0 y) (by simp); simp [binA, this, std, kEq_ok hk]
    · cases h
  case rem =>
    split at h
    · rename_i hk; cases h; have : y ≠ 0 := hc (.ne0 y) (by simp); simp [binA, this, std, kEq_ok hk]
    · cases h
  all_goals
    split at h
    · rename_i hk; cases h; simp [binA, std, kEq_ok hk, intCmpB, bitsA]
    · cases h
def eqFsS (O : Ar) (T : Ti) (eq : TypeId → AV → AV → Option Bool) (xs ys : List AV) : List Field → Option Bool
  | [] => some true
  | [f] => match f.name with
    | "_" => none
    | _ => match partA T f.type xs f.offset, partA T f.type ys f.offset with
      | some a, some b => eq f.type a b
      | _, _ => none
  | f :: fs => match f.name with
    | "_" => none
    | _ => match partA T f.type xs f.offset, partA T f.type ys f.offset with
      | some a, some b => match eq f.type a b, eqFsS O T eq xs ys fs with
        | some p, some q => some (O.and p q)
        | _, _ => none
      | _, _ => none
def eqIsS (O : Ar) (T : Ti) (eq : TypeId → AV → AV → Option Bool) (e : TypeId) (sz : Nat) (xs ys : List AV) : List Nat → Option Bool
  | [] => some true
  | [i] => match partA T e xs (i * sz), partA T e ys (i * sz) with
    | some a, some b => eq e a b
    | _, _ => none
  | i :: is => match partA T e xs (i * sz), partA T e ys (i * sz) with
    | some a, some b => match eq e a b, eqIsS O T eq e sz xs ys is with
      | some p, some q => some (O.and p q)
      | _, _ => none
    | _, _ => none
def eqS (O : Ar) (T : Ti) : Nat → TypeId → AV → AV → Option Bool
  | 0, _, _, _ => none
  | d + 1, t, a, b =>
    match T t with
    | none => none
    | some i => match i.desc, a, b with
      | .bool, a, b => match boolOf a, boolOf b with
        | some x, some y => some (O.beq x y)
        | _, _ => none
      | .int _, .lit (.int k x), .lit (.int k' y) => match kEq k k' with
        | true => some (O.cmp .eql x y)
        | false => none
      | .struct fs, .agg xs, .agg ys => match i.flat with
        | true => eqFsS O T (eqS O T d) xs ys fs.toList
        | false => none
      | .array n e, .agg xs, .agg ys => match T e with
        | some j => eqIsS O T (eqS O T d) e j.size xs ys (List.range n)
        | none => none
      | _, _, _ => none
theorem eqFsS_ok {T : Ti} {eq eq' : TypeId → AV → AV → Option Bool} (heq : ∀ t a b r, eq t a b = some r → eq' t a b = some r) {xs ys : List AV} : ∀ (fs : List Field) (r : Bool), eqFsS std T eq xs ys fs = some r → eqFsA T eq' xs ys fs = some r
  | [], r, h => h
  | [f], r, h => by
    simp only [eqFsS] at h
    split at h
    · cases h
    · rename_i hn
      split at h
      · rename_i a b ha hb
        have := heq _ _ _ _ h
        simp only [eqFsA, ha, hb, this]
        rw [if_pos (by intro he; exact hn he)]
        cases r <;> rfl
      · cases h
  | f :: g :: fs, r, h => by
    simp only [eqFsS] at h
    split at h
    · cases h
    · rename_i hn
      split at h
      · rename_i a b ha hb
        split at h
        · rename_i p q hp hq
          cases h
          have h1 := heq _ _ _ _ hp
          have h2 := eqFsS_ok heq (g :: fs) q hq
          rw [eqFsA, if_pos (by intro he; exact hn he)]
          simp only [ha, hb, h1]
          cases p with
          | true => simpa [std] using h2
          | false => rfl
        · cases h
      · cases h
theorem eqIsS_ok {T : Ti} {eq eq' : TypeId → AV → AV → Option Bool} (heq : ∀ t a b r, eq t a b = some r → eq' t a b = some r) {e : TypeId} {sz : Nat} {xs ys : List AV} : ∀ (l : List Nat) (r : Bool), eqIsS std T eq e sz xs ys l = some r → eqIsA T eq' e sz xs ys l = some r
  | [], r, h => h
  | [i], r, h => by
    simp only [eqIsS] at h
    split at h
    · rename_i a b ha hb
      have := heq _ _ _ _ h
      simp only [eqIsA, ha, hb, this]
      cases r <;> rfl
    · cases h
  | i :: j :: l, r, h => by
    simp only [eqIsS] at h
    split at h
    · rename_i a b ha hb
      split at h
      · rename_i p q hp hq
        cases h
        have h1 := heq _ _ _ _ hp
        have h2 := eqIsS_ok heq (j :: l) q hq
        rw [eqIsA]
        simp only [ha, hb, h1]
        cases p with
        | true => simpa [std] using h2
        | false => rfl
      · cases h
    · cases h
theorem eqS_ok {T : Ti} : ∀ (d : Nat) (t : TypeId) (a b : AV) (r : Bool), eqS std T d t a b = some r → eqA T d t a b = some r
  | 0, _, _, _, _, h => by cases h
  | d + 1, t, a, b, r, h => by
    simp only [eqS] at h
    split at h
    · cases h
    · rename_i i hi
      simp only [eqA, hi]
      split at h
      · rename_i hd
        split at h
        · rename_i x y h1 h2
          cases h
          simp [hd, h1, h2, std]
        · cases h
      · rename_i k x k' y hd
        split at h
        · rename_i hk
          cases h
          simp [hd, kEq_ok hk, std]
        · cases h
      · rename_i fs xs ys hd
        split at h
        · rename_i hf
          simp only [hd, hf, if_true]
          exact eqFsS_ok (eqS_ok d) _ _ h
        · cases h
      · rename_i n e xs ys hd
        split at h
        · rename_i j hj
          simp only [hd, hj]
          exact eqIsS_ok (eqS_ok d) _ _ h
        · cases h
      · cases h
def natS (O : Ar) : AV → Option (List Cond × Nat)
  | .lit (.int _ n) => some ([.nn n], O.nat n)
  | _ => none
def natOrS (O : Ar) (d : Nat) : Option AV → Option (List Cond × Nat)
  | none => some ([], d)
  | some a => natS O a
theorem natOrS_ok {d : Nat} {a : Option AV} {cs : List Cond} {n : Nat} (h : natOrS std d a = some (cs, n)) (hc : ∀ c ∈ cs, c.holds) : natOr d a = some n := by
  unfold natOrS at h
  split at h
  · cases h; rfl
  · rename_i a
    unfold natS at h
    split at h
    · rename_i k m
      cases h
      have : 0 ≤ m := hc (.nn m) (by simp)
      simp [natOr, natOf, this, std]
    · cases h
def cellAt (cs : List AV) (j : Nat) : AV := cs.getD j .any
def intsAt (cs : List AV) (sz : Nat) : Nat → Nat → Option (List Int)
  | _, 0 => some []
  | off, n + 1 => match cellAt cs off with
    | .lit (.int .i64 x) => (intsAt cs sz (off + sz) n).map fun l => x :: l
    | _ => none
def boolsAt (cs : List AV) (sz : Nat) : Nat → Nat → Option (List Bool)
  | _, 0 => some []
  | off, n + 1 => match cellAt cs off with
    | .sb x => (boolsAt cs sz (off + sz) n).map fun l => x :: l
    | _ => none
def selA (O : Ar) (cs : List AV) (base n sz i k : Nat) : Option AV := match intsAt cs sz (base + k) n with
  | some l => some (.lit (.int .i64 (O.sel l i)))
  | none => match boolsAt cs sz (base + k) n with
    | some l => some (.sb (O.selB l i))
    | none => none
def selsA (O : Ar) (cs : List AV) (base n sz i : Nat) : Nat → Nat → Option (List AV)
  | _, 0 => some []
  | k, m + 1 => match selA O cs base n sz i k, selsA O cs base n sz i (k + 1) m with
    | some a, some l => some (a :: l)
    | _, _ => none
theorem cellAt_some {cs : List AV} {j : Nat} {a : AV} (h : cellAt cs j = a) (hn : a ≠ .any) : cs[j]? = some a := by
  unfold cellAt at h
  rw [List.getD_eq_getElem?_getD] at h
  cases hc : cs[j]? with
  | none => rw [hc] at h; exact absurd h.symm hn
  | some b => rw [hc] at h; simp only [Option.getD_some] at h; rw [h]
theorem intsAt_ok {cs : List AV} {sz : Nat} : ∀ {n off : Nat} {l : List Int}, intsAt cs sz off n = some l → l.length = n ∧ ∀ i, i < n → cs[off + i * sz]? = some (.lit (.int .i64 (l.getD i 0)))
  | 0, off, l, h => by simp only [intsAt, Option.some.injEq] at h; subst h; exact ⟨rfl, fun i hi => by omega⟩
  | n + 1, off, l, h => by
    simp only [intsAt] at h
    split at h
    · rename_i x hx
      rw [Option.map_eq_some_iff] at h
      obtain ⟨l', h1, rfl⟩ := h
      obtain ⟨h2, h3⟩ := intsAt_ok h1
      refine ⟨by simp [h2], fun i hi => ?_⟩
      cases i with
      | zero => simpa using cellAt_some hx (by simp)
      | succ i =>
        have := h3 i (by omega)
        rw [show off + (i + 1) * sz = off + sz + i * sz from by rw [Nat.add_mul]; omega]
        simpa using this
    · cases h
theorem boolsAt_ok {cs : List AV} {sz : Nat} : ∀ {n off : Nat} {l : List Bool}, boolsAt cs sz off n = some l → l.length = n ∧ ∀ i, i < n → cs[off + i * sz]? = some (.sb (l.getD i false))
  | 0, off, l, h => by simp only [boolsAt, Option.some.injEq] at h; subst h; exact ⟨rfl, fun i hi => by omega⟩
  | n + 1, off, l, h => by
    simp only [boolsAt] at h
    split at h
    · rename_i x hx
      rw [Option.map_eq_some_iff] at h
      obtain ⟨l', h1, rfl⟩ := h
      obtain ⟨h2, h3⟩ := boolsAt_ok h1
      refine ⟨by simp [h2], fun i hi => ?_⟩
      cases i with
      | zero => simpa using cellAt_some hx (by simp)
      | succ i =>
        have := h3 i (by omega)
        rw [show off + (i + 1) * sz = off + sz + i * sz from by rw [Nat.add_mul]; omega]
        simpa using this
    · cases h
theorem selA_ok {cs : List AV} {base n sz i k : Nat} {a : AV} (h : selA std cs base n sz i k = some a) (hi : i < n) : cs[base + i * sz + k]? = some a := by
  unfold selA at h
  rw [show base + i * sz + k = base + k + i * sz from by omega]
  split at h
  · rename_i l hl; cases h; exact (intsAt_ok hl).2 i hi
  · split at h
    · rename_i l hl; cases h; exact (boolsAt_ok hl).2 i hi
    · cases h
theorem selsA_ok {cs : List AV} {base n sz i : Nat} (hi : i < n) : ∀ {m k : Nat} {l : List AV}, selsA std cs base n sz i k m = some l → l.length = m ∧ ∀ j, j < m → cs[base + i * sz + k + j]? = l[j]?
  | 0, k, l, h => by simp only [selsA, Option.some.injEq] at h; subst h; exact ⟨rfl, fun j hj => by omega⟩
  | m + 1, k, l, h => by
    simp only [selsA] at h
    split at h
    · rename_i a l' h1 h2
      cases h
      obtain ⟨h3, h4⟩ := selsA_ok hi h2
      refine ⟨by simp [h3], fun j hj => ?_⟩
      cases j with
      | zero => simpa using selA_ok h1 hi
      | succ j =>
        have := h4 j (by omega)
        rw [show base + i * sz + k + (j + 1) = base + i * sz + (k + 1) + j from by omega, this]; rfl
    · cases h
def loadS (O : Ar) (T : Ti) (h : Hp) (t : TypeId) (base n sz i k id : Nat) : Option (List Cond × AV) := match T t, cellsAt h id with
  | some ti, some cs => match aggD ti.desc with
    | true => (selsA O cs base n sz i k ti.size).map fun l => ([.ltN i n, .ltN 0 ti.size], .agg l)
    | false => (selA O cs base n sz i k).map fun a => ([.ltN i n], a)
  | _, _ => none
theorem loadS_ok {T : Ti} {h : Hp} {t : TypeId} {base n sz i k id : Nat} {cs : List Cond} {r : AV} (hs : loadS std T h t base n sz i k id = some (cs, r)) (hc : ∀ c ∈ cs, c.holds) : loadA T h t (.ap id base n sz i k) = some r := by
  unfold loadS at hs
  split at hs
  · rename_i ti cl h1 h2
    simp only [loadA, ptrOf, h2, partA, h1]
    split at hs
    · rename_i hag
      rw [Option.map_eq_some_iff] at hs
      obtain ⟨l, h3, h4⟩ := hs
      cases h4
      have hi : i < n := hc (.ltN i n) (by simp)
      obtain ⟨h5, h6⟩ := selsA_ok hi h3
      rw [if_pos hag]
      have hle : base + i * sz + k + ti.size ≤ cl.length := by
        cases hz : ti.size with
        | zero =>
          have : 0 < ti.size := hc (.ltN 0 ti.size) (by simp)
          omega
        | succ m =>
          have h7 := h6 m (by omega)
          have h8 : l[m]? = some l[m] := List.getElem?_eq_getElem (by omega)
          rw [h8] at h7
          have := (List.getElem?_eq_some_iff.1 h7).1
          omega
      rw [if_pos hle]
      congr 2
      refine List.ext_getElem? fun j => ?_
      rw [List.getElem?_take, List.getElem?_drop]
      split
      · rename_i hj; exact h6 j hj
      · rename_i hj; exact (List.getElem?_eq_none_iff.2 (by omega)).symm
    · rename_i hag
      rw [Option.map_eq_some_iff] at hs
      obtain ⟨a, h3, h4⟩ := hs
      cases h4
      have hi : i < n := hc (.ltN i n) (by simp)
      rw [if_neg (by rw [hag]; simp)]
      exact selA_ok h3 hi
  · cases hs
def stE (O : Ar) (T : Ti) (h : Hp) (ρ : Operand → AV) (o : Oper) : Option (List Cond × AV) :=
  match o.op with
  | .binOp op t x y _ => match ρ x, ρ y with
    | .lit (.int k a), .lit (.int k' b) => match T t with
      | some i => match i.desc with
        | .int _ => stBin O op k k' a b
        | _ => none
      | none => none
    | .agg xs, .agg ys => match T t with
      | some i => match i.flat && aggD i.desc with
        | true => match op with
          | .eql => (eqS O T 6 t (.agg xs) (.agg ys)).map fun b => ([], .sb b)
          | .neq => (eqS O T 6 t (.agg xs) (.agg ys)).map fun b => ([], .sb (O.not b))
          | _ => none
        | false => none
      | none => none
    | a, b => match T t with
      | some i => match i.desc with
        | .bool => match boolOf a, boolOf b, op with
          | some p, some q, .eql => some ([], .sb (O.beq p q))
          | some p, some q, .neq => some ([], .sb (O.bne p q))
          | _, _, _ => none
        | _ => none
      | none => none
  | .unOp op _ x => match op, ρ x with
    | .not, .lit (.bool true) => some ([], .lit (.bool false))
    | .not, .lit (.bool false) => some ([], .lit (.bool true))
    | .not, .sb b => some ([], .sb (O.not b))
    | .neg, .lit (.int k n) => some ([], .lit (.int k (O.neg k n)))
    | _, _ => none
  | .convert s d x => match T s, T d, ρ x with
    | some _, some j, .lit (.int _ n) => match j.desc with
      | .int k => some ([], .lit (.int k (O.conv k n)))
      | _ => none
    | _, _, _ => none
  | .indexAddr t x ix => match ρ ix, T t with
    | .lit (.int _ n), some i => match i.desc, ρ x with
      | .slice e, .isl len sz _ g => match T e with
        | some j => match Nat.beq j.size sz with
          | true => some ([.inB n len], .ip sz 0 (g (O.nat n)))
          | false => none
        | none => none
      | .array len e, .ptr id off => match T e with
        | some j => some ([.inB n len], .ap id off len j.size (O.nat n) 0)
        | none => none
      | _, _ => none
    | _, _ => none
  | .load t a => match ρ a with
    | .ap id base n sz i k => loadS O T h t base n sz i k id
    | _ => (evG T h ρ o).map fun r => ([], r)
  | .index t x ix => match ρ ix, T t, ρ x with
    | .lit (.int _ n), some ti, .agg cs => match ti.desc with
      | .array len e => match T e with
        | some j => match aggD j.desc with
          | true => (selsA O cs 0 len j.size (O.nat n) 0 j.size).map fun l => ([.inB n len, .ltN 0 j.size], .agg l)
          | false => (selA O cs 0 len j.size (O.nat n) 0).map fun a => ([.inB n len], a)
        | none => none
      | _ => none
    | _, _, _ => none
  | .slice t x lo hi mx => match T t with
    | some i => match i.desc, ρ x with
      | .slice e, .isl len sz ex g => match T e with
        | some j => match Nat.beq j.size sz with
          | true => match natOrS O 0 (lo.map ρ), natOrS O len (hi.map ρ), mx with
            | some (c1, l), some (c2, u), none => some (.leN l u :: .leN u len :: (c1 ++ c2), .isl (O.sub u l) sz (ex && O.eqN u len) (fun i => g (O.add l i)))
            | _, _, _ => none
          | false => none
        | none => none
      | _, _ => none
    | none => none
  | .call c => match c.callee with
    | .builtin .len => (evG T h ρ o).map fun r => ([], r)
    | .builtin .min => match c.args.toList with
      | [x, y] => match ρ x, ρ y with
        | .lit (.int k a), .lit (.int _ b) => some ([], .lit (.int k (O.mn a b)))
        | _, _ => none
      | _ => none
    | .builtin .max => match c.args.toList with
      | [x, y] => match ρ x, ρ y with
        | .lit (.int k a), .lit (.int _ b) => some ([], .lit (.int k (O.mx a b)))
        | _, _ => none
      | _ => none
    | _ => none
  | .move x | .assign x => some ([], ρ x)
  | .pick c a b => match ρ c with
    | .lit (.bool true) => some ([], ρ a)
    | .lit (.bool false) => some ([], ρ b)
    | _ => none
  | _ => (evG T h ρ o).map fun r => ([], r)
theorem stE_ok {T : Ti} {h : Hp} {ρ : Operand → AV} {o : Oper} {cs : List Cond} {r : AV} (hs : stE std T h ρ o = some (cs, r)) (hc : ∀ c ∈ cs, c.holds) : evG T h ρ o = some r := by
  have hmap : ∀ {x : Option AV}, (x.map fun r => (([] : List Cond), r)) = some (cs, r) → x = some r := fun {x} hx => by
    rw [Option.map_eq_some_iff] at hx
    obtain ⟨a, h1, h2⟩ := hx
    cases h2; exact h1
  unfold stE at hs
  split at hs
  · rename_i op t x y yt hx
    split at hs
    · rename_i k a k' b hp hq
      split at hs
      · rename_i i hi
        split at hs
        · rename_i ki hd
          have h1 := stBin_ok hs hc
          have hL : evL T h ρ o = some r := by simp only [evL, hx, hp, hq]; exact h1
          cases op <;> simp [evG, hx, hp, hq, boolPair, hi, hd, aggD, hL]
        · cases hs
      · cases hs
    · rename_i xs ys hp hq
      split at hs
      · rename_i i hi
        split at hs
        · rename_i hf
          have hbp : boolPair T t (.agg xs) (.agg ys) = none := by
            unfold boolPair; simp only [hi]
            split <;> rfl
          split at hs
          · rw [Option.map_eq_some_iff] at hs
            obtain ⟨b, h1, h2⟩ := hs
            cases h2
            simp only [evG, hx, hp, hq, hbp, hi, hf, if_true, eqS_ok 6 t _ _ b h1, Option.map_some]
          · rw [Option.map_eq_some_iff] at hs
            obtain ⟨b, h1, h2⟩ := hs
            cases h2
            simp only [evG, hx, hp, hq, hbp, hi, hf, if_true, eqS_ok 6 t _ _ b h1, Option.map_some, std]
          · cases hs
        · cases hs
      · cases hs
    · rename_i a b hn1 hn2
      split at hs
      · rename_i i hi
        split at hs
        · rename_i hd
          split at hs
          · rename_i p q h1 h2
            cases hs
            simp [evG, hx, boolPair, hi, hd, h1, h2, std]
          · rename_i p q h1 h2
            cases hs
            simp [evG, hx, boolPair, hi, hd, h1, h2, std]
          · cases hs
        · cases hs
      · cases hs
  · rename_i op t x hx
    split at hs
    · rename_i hq; cases hs; simp [evG, evL, hx, hq]
    · rename_i hq; cases hs; simp [evG, evL, hx, hq]
    · rename_i b hq; cases hs; simp [evG, evL, hx, hq, std]
    · rename_i k n hq; cases hs; simp [evG, evL, hx, hq, std]
    · cases hs
  · rename_i s d x hx
    split at hs
    · rename_i i j k n h1 h2 h3
      split at hs
      · rename_i k' hk; cases hs; simp [evG, evL, hx, h1, h2, h3, hk, std]
      · cases hs
    · cases hs
  · rename_i t x ix hx
    split at hs
    · rename_i k n i h1 h2
      split at hs
      · rename_i e len sz ex g h3 h4
        split at hs
        · rename_i j h5
          split at hs
          · rename_i h6
            cases hs
            have h7 : 0 ≤ n ∧ n < len := hc (.inB n len) (by simp)
            have h8 := Nat.eq_of_beq_eq_true h6
            simp [evG, evL, hx, h1, h2, h3, h4, h5, h7, h8, std]
          · cases hs
        · cases hs
      · rename_i len e id off h3 h4
        split at hs
        · rename_i j h5
          cases hs
          have h7 : 0 ≤ n ∧ n < len := hc (.inB n len) (by simp)
          simp [evG, evL, hx, h1, h2, h3, h4, h5, h7, std]
        · cases hs
      · cases hs
    · cases hs
  · rename_i t a hx
    split at hs
    · rename_i id base n sz i k hq
      have := loadS_ok hs hc
      simp only [evG, evL, hx, hq, this]
    · exact hmap hs
  · rename_i t x ix hx
    split at hs
    · rename_i k n ti cs' h1 h2 h3
      split at hs
      · rename_i len e hd
        split at hs
        · rename_i j hj
          split at hs
          · rename_i hag
            rw [Option.map_eq_some_iff] at hs
            obtain ⟨l, h4, h5⟩ := hs
            cases h5
            have h7 : 0 ≤ n ∧ n < len := hc (.inB n len) (by simp)
            have hpos : 0 < j.size := hc (.ltN 0 j.size) (by simp)
            obtain ⟨h8, h9⟩ := selsA_ok (show n.toNat < len by omega) h4
            simp only [evG, evL, hx, h1, h2, h3, hd, hj]
            rw [if_pos h7]
            simp only [partA, hj]
            rw [if_pos hag]
            have hle : n.toNat * j.size + j.size ≤ cs'.length := by
              have h10 := h9 (j.size - 1) (by omega)
              have h11 : l[j.size - 1]? = some l[j.size - 1] := List.getElem?_eq_getElem (by omega)
              rw [h11] at h10
              have := (List.getElem?_eq_some_iff.1 h10).1
              omega
            rw [if_pos hle]
            congr 2
            refine List.ext_getElem? fun q => ?_
            rw [List.getElem?_take, List.getElem?_drop]
            split
            · rename_i hq
              have := h9 q hq
              rw [← this]; congr 1; omega
            · rename_i hq; exact (List.getElem?_eq_none_iff.2 (by omega)).symm
          · rename_i hag
            rw [Option.map_eq_some_iff] at hs
            obtain ⟨a, h4, h5⟩ := hs
            cases h5
            have h7 : 0 ≤ n ∧ n < len := hc (.inB n len) (by simp)
            have h8 : cs'[0 + n.toNat * j.size + 0]? = some r := selA_ok h4 (show n.toNat < len by omega)
            simp only [evG, evL, hx, h1, h2, h3, hd, hj]
            rw [if_pos h7]
            simp only [partA, hj]
            rw [if_neg (by rw [hag]; simp), ← h8]
            congr 1; omega
        · cases hs
      · cases hs
    · cases hs
  · rename_i t x lo hi mx hx
    split at hs
    · rename_i i h1
      split at hs
      · rename_i e len sz ex g h2 h3
        split at hs
        · rename_i j h4
          split at hs
          · rename_i h5
            split at hs
            · rename_i c1 l c2 u h6 h7
              cases hs
              have h8 := natOrS_ok h6 (fun c hm => hc c (by simp [hm]))
              have h9 := natOrS_ok h7 (fun c hm => hc c (by simp [hm]))
              have k1 : l ≤ u := hc (.leN l u) (by simp)
              have k2 : u ≤ len := hc (.leN u len) (by simp)
              have h10 := Nat.eq_of_beq_eq_true h5
              simp [evG, hx, sliceA, h1, h2, h3, h4, h10, h8, h9, k1, k2, std]
            · cases hs
          · cases hs
        · cases hs
      · cases hs
    · cases hs
  · rename_i c hx
    split at hs
    · exact hmap hs
    · rename_i hcal
      split at hs
      · rename_i x y ha
        split at hs
        · rename_i k a k' b h1 h2
          cases hs
          simp [evG, evL, hx, hcal, ha, h1, h2, std]
        · cases hs
      · cases hs
    · rename_i hcal
      split at hs
      · rename_i x y ha
        split at hs
        · rename_i k a k' b h1 h2
          cases hs
          simp [evG, evL, hx, hcal, ha, h1, h2, std]
        · cases hs
      · cases hs
    · cases hs
  · rename_i x hx; cases hs; simp [evG, evL, hx]
  · rename_i x hx; cases hs; simp [evG, evL, hx]
  · rename_i c a b hx
    split at hs
    · rename_i hq; cases hs; simp [evG, evL, hx, hq]
    · rename_i hq; cases hs; simp [evG, evL, hx, hq]
    · cases hs
  · exact hmap hs
def updInt (O : Ar) (i : Nat) (v : Int) (sz : Nat) : Nat → Nat → Nat → List AV → Option (List AV)
  | _, _, 0, cs => some cs
  | off, j, m + 1, cs => match cellAt cs off with
    | .lit (.int .i64 x) => updInt O i v sz (off + sz) (j + 1) m (cs.set off (.lit (.int .i64 (O.ups j i v x))))
    | _ => none
def updBool (O : Ar) (i : Nat) (v : Bool) (sz : Nat) : Nat → Nat → Nat → List AV → Option (List AV)
  | _, _, 0, cs => some cs
  | off, j, m + 1, cs => match cellAt cs off with
    | .sb x => updBool O i v sz (off + sz) (j + 1) m (cs.set off (.sb (O.upsB j i v x)))
    | _ => none
theorem set_same {cs : List AV} {off : Nat} {a : AV} (h : cs[off]? = some a) : cs.set off a = cs := by
  refine List.ext_getElem? fun q => ?_
  rw [List.getElem?_set]
  split
  · rename_i hq; subst hq
    have := (List.getElem?_eq_some_iff.1 h).1
    rw [if_pos this, h]
  · rfl
theorem updInt_ok {i : Nat} {v : Int} {sz : Nat} : ∀ {m off j : Nat} {cs r : List AV}, updInt std i v sz off j m cs = some r → (i < j → r = cs) ∧ (j ≤ i → i < j + m → off + (i - j) * sz < cs.length ∧ r = cs.set (off + (i - j) * sz) (.lit (.int .i64 v)))
  | 0, off, j, cs, r, h => by simp only [updInt, Option.some.injEq] at h; subst h; exact ⟨fun _ => rfl, fun h1 h2 => by omega⟩
  | m + 1, off, j, cs, r, h => by
    simp only [updInt] at h
    split at h
    · rename_i x hx
      have hc := cellAt_some hx (by simp)
      obtain ⟨h1, h2⟩ := updInt_ok h
      have hsame : i ≠ j → cs.set off (.lit (.int .i64 (std.ups j i v x))) = cs := fun hne => by
        have : std.ups j i v x = x := if_neg hne
        rw [this]; exact set_same hc
      refine ⟨fun hlt => ?_, fun hle hlt => ?_⟩
      · rw [h1 (by omega)]; exact hsame (by omega)
      · by_cases he : i = j
        · subst he
          have : std.ups i i v x = v := if_pos rfl
          rw [h1 (by omega), this, Nat.sub_self, Nat.zero_mul]
          exact ⟨(List.getElem?_eq_some_iff.1 hc).1, rfl⟩
        · rw [hsame he] at h2
          obtain ⟨h3, h4⟩ := h2 (by omega) (by omega)
          have e : off + sz + (i - (j + 1)) * sz = off + (i - j) * sz := by
            rw [show i - j = (i - (j + 1)) + 1 from by omega, Nat.add_mul]; omega
          rw [e] at h3 h4
          exact ⟨h3, h4⟩
    · cases h
theorem updBool_ok {i : Nat} {v : Bool} {sz : Nat} : ∀ {m off j : Nat} {cs r : List AV}, updBool std i v sz off j m cs = some r → (i < j → r = cs) ∧ (j ≤ i → i < j + m → off + (i - j) * sz < cs.length ∧ r = cs.set (off + (i - j) * sz) (.sb v))
  | 0, off, j, cs, r, h => by simp only [updBool, Option.some.injEq] at h; subst h; exact ⟨fun _ => rfl, fun h1 h2 => by omega⟩
  | m + 1, off, j, cs, r, h => by
    simp only [updBool] at h
    split at h
    · rename_i x hx
      have hc := cellAt_some hx (by simp)
      obtain ⟨h1, h2⟩ := updBool_ok h
      have hsame : i ≠ j → cs.set off (.sb (std.upsB j i v x)) = cs := fun hne => by
        have : std.upsB j i v x = x := if_neg hne
        rw [this]; exact set_same hc
      refine ⟨fun hlt => ?_, fun hle hlt => ?_⟩
      · rw [h1 (by omega)]; exact hsame (by omega)
      · by_cases he : i = j
        · subst he
          have : std.upsB i i v x = v := if_pos rfl
          rw [h1 (by omega), this, Nat.sub_self, Nat.zero_mul]
          exact ⟨(List.getElem?_eq_some_iff.1 hc).1, rfl⟩
        · rw [hsame he] at h2
          obtain ⟨h3, h4⟩ := h2 (by omega) (by omega)
          have e : off + sz + (i - (j + 1)) * sz = off + (i - j) * sz := by
            rw [show i - j = (i - (j + 1)) + 1 from by omega, Nat.add_mul]; omega
          rw [e] at h3 h4
          exact ⟨h3, h4⟩
    · cases h
def storeS (O : Ar) (T : Ti) (st : St) (ρ : Operand → AV) (o : Oper) : Option (List Cond × St) := match o.op with
  | .store t p x => match ρ p, T t with
    | .ap id base n sz i k, some ti => match Nat.beq ti.size 1, st.h.get id with
      | true, some (.cells none false cs) => match ρ x with
        | .lit (.int .i64 v) => (updInt O i v sz (base + k) 0 n cs).map fun r => ([.ltN i n], ⟨st.h.set id (.cells none false r), st.n⟩)
        | .sb v => (updBool O i v sz (base + k) 0 n cs).map fun r => ([.ltN i n], ⟨st.h.set id (.cells none false r), st.n⟩)
        | .lit (.bool v) => (updBool O i v sz (base + k) 0 n cs).map fun r => ([.ltN i n], ⟨st.h.set id (.cells none false r), st.n⟩)
        | _ => none
      | _, _ => none
    | _, _ => none
  | _ => none
theorem setsL_one (cs : List AV) (off : Nat) (a : AV) : setsL cs off [a] = cs.set off a := rfl
theorem storeS_ok {T : Ti} {st st' : St} {ρ : Operand → AV} {o : Oper} {cs : List Cond} (h : storeS std T st ρ o = some (cs, st')) (hc : ∀ c ∈ cs, c.holds) : storeO T st ρ o = some st' := by
  unfold storeS at h
  split at h
  · rename_i t p x hx
    split at h
    · rename_i id base n sz i k ti hp ht
      split at h
      · rename_i cl hsz hg
        have hsz := Nat.eq_of_beq_eq_true hsz
        have key : ∀ (a b : AV), ρ x = a → a.cells = [a] → a.one = true → a.norm = b → base + k + i * sz < cl.length → st' = ⟨st.h.set id (.cells none false (cl.set (base + k + i * sz) b)), st.n⟩ → storeO T st ρ o = some st' := fun a b h1 h2 h3 h4 h5 h6 => by
          simp only [storeO, hx, storeA, hp, ptrOf, ht, hg, h1, h2, hsz, List.length_singleton, List.map_cons, List.map_nil, h4, setsL_one, List.all_cons, h3, List.all_nil]
          rw [show base + i * sz + k = base + k + i * sz from by omega, if_pos ⟨by simp, by omega, by simp, by simp⟩, h6]
        split at h
        · rename_i v hv
          rw [Option.map_eq_some_iff] at h
          obtain ⟨r, h1, h2⟩ := h
          cases h2
          have hi : i < n := hc (.ltN i n) (by simp)
          obtain ⟨h3, h4⟩ := (updInt_ok h1).2 (Nat.zero_le _) (by omega)
          exact key _ _ hv rfl rfl rfl (by simpa using h3) (by rw [h4]; rfl)
        · rename_i v hv
          rw [Option.map_eq_some_iff] at h
          obtain ⟨r, h1, h2⟩ := h
          cases h2
          have hi : i < n := hc (.ltN i n) (by simp)
          obtain ⟨h3, h4⟩ := (updBool_ok h1).2 (Nat.zero_le _) (by omega)
          exact key _ _ hv rfl rfl rfl (by simpa using h3) (by rw [h4]; rfl)
        · rename_i v hv
          rw [Option.map_eq_some_iff] at h
          obtain ⟨r, h1, h2⟩ := h
          cases h2
          have hi : i < n := hc (.ltN i n) (by simp)
          obtain ⟨h3, h4⟩ := (updBool_ok h1).2 (Nat.zero_le _) (by omega)
          exact key _ _ hv rfl rfl rfl (by simpa using h3) (by rw [h4]; rfl)
        · cases h
      · cases h
    · cases h
  · cases h
inductive ROut where
  | done (cs : List Cond) (f : Fm) (st : St)
  | stop (cs : List Cond) (rest : List Nat) (f : Fm) (st : St)
def runO (O : Ar) (T : Ti) (ops : Array Oper) : List Nat → List Cond → Fm → St → ROut
  | [], cs, f, st => .done cs f st
  | i :: l, cs, f, st => match ops[i]? with
    | none => .stop cs (i :: l) f st
    | some o => match wantA ops f.ts o with
      | some false => runO O T ops l cs (f.put o.dst undA) st
      | none => .stop cs (i :: l) f st
      | some true => match stE O T st.h (Operand.av f.ts) o with
        | some (c, r) => runO O T ops l (c ++ cs) (f.put o.dst r) st
        | none => match evF T st.n (Operand.av f.ts) o with
          | some (r, cells) => runO O T ops l cs (f.put o.dst r) (st.push (.cells none false cells))
          | none => match storeS O T st (Operand.av f.ts) o with
            | some (c, st') => runO O T ops l (c ++ cs) (f.put o.dst undA) st'
            | none => match storeO T st (Operand.av f.ts) o with
            | some st' => runO O T ops l cs (f.put o.dst undA) st'
            | none => match appendO T st (Operand.av f.ts) o with
              | some (r, st') => runO O T ops l cs (f.put o.dst r) st'
              | none => .stop cs (i :: l) f st
def ROut.cs : ROut → List Cond
  | .done cs _ _ => cs
  | .stop cs _ _ _ => cs
def ROut.post (P : Program) (rd : Option Nat) (ops : Array Oper) (K : Fm → St → Prop) : ROut → Prop
  | .done _ f st => K f st
  | .stop _ l f st => OpsW P rd ops l K f st
theorem runO_cs {O : Ar} {T : Ti} {ops : Array Oper} : ∀ (l : List Nat) (cs : List Cond) (f : Fm) (st : St), ∀ c ∈ cs, c ∈ (runO O T ops l cs f st).cs
  | [], cs, f, st, c, h => h
  | i :: l, cs, f, st, c, h => by
    unfold runO
    split
    · exact h
    · split
      · exact runO_cs l _ _ _ c h
      · exact h
      · split
        · exact runO_cs l _ _ _ c (List.mem_append_right _ h)
        · split
          · exact runO_cs l _ _ _ c h
          · split
            · exact runO_cs l _ _ _ c (List.mem_append_right _ h)
            · split
              · exact runO_cs l _ _ _ c h
              · split
                · exact runO_cs l _ _ _ c h
                · exact h
theorem runO_ok {P : Program} {T : Ti} (hT : TOk P T) {rd : Option Nat} {ops : Array Oper} {K : Fm → St → Prop} : ∀ (l : List Nat) (cs : List Cond) (f : Fm) (st : St), (∀ c ∈ (runO std T ops l cs f st).cs, c.holds) →
    (runO std T ops l cs f st).post P rd ops K → OpsW P rd ops l K f st
  | [], cs, f, st, _, h => .nil h
  | i :: l, cs, f, st, hc, h => by
    have hcs := runO_cs (O := std) (T := T) (ops := ops) (i :: l) cs f st
    unfold runO at hc h
    split at h
    · exact h
    · rename_i o ho
      simp only [ho] at hc
      split at h
      · rename_i hw
        simp only [hw] at hc
        exact .skip ho hw (runO_ok hT l _ _ _ hc h)
      · exact h
      · rename_i hw
        simp only [hw] at hc
        split at h
        · rename_i c r hs
          simp only [hs] at hc
          refine .light hT ho hw (stE_ok hs fun x hx => hc x (runO_cs l _ _ _ x (List.mem_append_left _ hx))) (runO_ok hT l _ _ _ hc h)
        · rename_i hs
          simp only [hs] at hc
          split at h
          · rename_i r cells hf
            simp only [hf] at hc
            exact .fresh hT ho hw hf (runO_ok hT l _ _ _ hc h)
          · rename_i hf
            simp only [hf] at hc
            split at h
            · rename_i c st' hst
              simp only [hst] at hc
              exact .store hT ho hw (storeS_ok hst fun x hx => hc x (runO_cs l _ _ _ x (List.mem_append_left _ hx))) (runO_ok hT l _ _ _ hc h)
            rename_i hst0
            simp only [hst0] at hc
            split at h
            · rename_i st' hst
              simp only [hst] at hc
              exact .store hT ho hw hst (runO_ok hT l _ _ _ hc h)
            · rename_i hst
              simp only [hst] at hc
              split at h
              · rename_i r st' ha
                simp only [ha] at hc
                exact .append hT ho hw ha (runO_ok hT l _ _ _ hc h)
              · exact h
theorem OpsW.run {P : Program} {T : Ti} (hT : TOk P T) {O : Ar} (hO : O = std) {rd : Option Nat} {ops : Array Oper} {K : Fm → St → Prop} {l : List Nat} {f : Fm} {st : St} {R : ROut} (hR : runO O T ops l [] f st = R) (hc : allC R.cs) (h : R.post P rd ops K) : OpsW P rd ops l K f st := by
  subst hO; subst hR
  exact runO_ok hT l [] f st (allC_ok hc) h
theorem SW.run {P : Program} {T : Ti} (hT : TOk P T) {O : Ar} (hO : O = std) {rd : Option Nat} {id : Nat} {ops : Array Oper} {Q : Exit → Fm → St → Prop} {f : Fm} {st : St} {R : ROut} (hR : runO O T ops (List.range ops.size) [] f st = R) (hc : allC R.cs) (h : R.post P rd ops (fun f st => Q .normal f st)) : SW P rd (.region id ops false) Q f st :=
  SW.region (OpsW.run hT hO hR hc h)
def ROut.postS (P : Program) (rd : Option Nat) (ops : Array Oper) (y : Code) (Q : Exit → Fm → St → Prop) : ROut → Prop
  | .done _ f st => SW P rd y Q f st
  | .stop _ l f st => OpsW P rd ops l (fun f st => SW P rd y Q f st) f st
theorem SW.seqRun {P : Program} {T : Ti} (hT : TOk P T) {O : Ar} (hO : O = std) {rd : Option Nat} {id : Nat} {ops : Array Oper} {y : Code} {Q : Exit → Fm → St → Prop} {f : Fm} {st : St} {R : ROut} (hR : runO O T ops (List.range ops.size) [] f st = R) (hc : allC R.cs) (h : R.postS P rd ops y Q) : SW P rd (.seq (.region id ops false) y) Q f st :=
  SW.seq (SW.run hT hO hR hc (by cases R <;> exact h))
theorem OpsW.split {P : Program} {rd : Option Nat} {ops : Array Oper} {K : Fm → St → Prop} {l : List Nat} {f : Fm} {st : St} (t : Nat) {b : Bool} (hg : f.ts.get t = .sb b) (h1 : b = true → OpsW P rd ops l K ⟨f.ts.put t (.lit (.bool true)), f.dm⟩ st) (h0 : b = false → OpsW P rd ops l K ⟨f.ts.put t (.lit (.bool false)), f.dm⟩ st) :
    OpsW P rd ops l K f st := by
  have key : ∀ c, b = c → OpsW P rd ops l K ⟨f.ts.put t (.lit (.bool c)), f.dm⟩ st → OpsW P rd ops l K f st := fun c hbc h φ w a n Q k1 k2 k3 k4 => by
    subst hbc
    refine h φ w a n Q k1 k2 ⟨⟨?_, fun i => ?_⟩, k3.dm, k3.lt⟩ k4
    · rw [Ts.put_len]; exact k3.ts.size
    · rw [getT_put]
      split
      · rename_i hc
        obtain ⟨_, rfl⟩ := hc
        have h5 := k3.ts.get t
        rw [hg] at h5
        rw [h5.sb_inv]; exact .lit _
      · exact k3.ts.get i
  cases b with
  | true => exact key true rfl (h1 rfl)
  | false => exact key false rfl (h0 rfl)
end Go.Fz
namespace Go.Fz
variable {P : Program} {T : Ti}
def slotOf (ops : Array Oper) (l : List Nat) (f : Fm) : Option (Nat × Bool) := match l with
  | [] => none
  | i :: _ => match ops[i]? with
    | none => none
    | some o => match o.guard with
      | none => match o.op with
        | .pick (.tmp d) _ _ => match f.ts.get d with
          | .sb b => some (d, b)
          | _ => none
        | _ => none
      | some (j, _) => match (ops[j]?).bind (·.dst) with
        | none => none
        | some d => match f.ts.get d with
          | .sb b => some (d, b)
          | _ => match o.op with
            | .pick (.tmp d) _ _ => match f.ts.get d with
              | .sb b => some (d, b)
              | _ => none
            | _ => none
theorem slotOf_ok {ops : Array Oper} {l : List Nat} {f : Fm} {t : Nat} {b : Bool} (h : slotOf ops l f = some (t, b)) : f.ts.get t = .sb b := by
  unfold slotOf at h
  split at h
  · cases h
  · split at h
    · cases h
    · split at h
      · split at h
        · split at h
          · rename_i hq; cases h; exact hq
          · cases h
        · cases h
      · split at h
        · cases h
        · split at h
          · rename_i hq; cases h; exact hq
          · split at h
            · split at h
              · rename_i hq; cases h; exact hq
              · cases h
            · cases h
theorem OpsW.splitG {rd : Option Nat} {ops : Array Oper} {K : Fm → St → Prop} {l : List Nat} {f : Fm} {st : St} {t : Nat} {b : Bool} (hs : slotOf ops l f = some (t, b)) (h1 : b = true → OpsW P rd ops l K ⟨f.ts.put t (.lit (.bool true)), f.dm⟩ st)
    (h0 : b = false → OpsW P rd ops l K ⟨f.ts.put t (.lit (.bool false)), f.dm⟩ st) : OpsW P rd ops l K f st := OpsW.split t (slotOf_ok hs) h1 h0
def callAt (ops : Array Oper) (i : Nat) (f : Fm) : Option (FuncId × List AV) := match ops[i]? with
  | none => none
  | some o => match wantA ops f.ts o with
    | some true => match callO (Operand.av f.ts) o with
      | some (.fn (.func g) first caps, as0) => some (g, first ++ as0 ++ caps)
      | _ => none
    | _ => none
def putAt (ops : Array Oper) (i : Nat) (f : Fm) (v : AV) : Fm := match ops[i]? with
  | none => f
  | some o => f.put o.dst v
theorem callAt_ok {ops : Array Oper} {i : Nat} {f : Fm} {g : FuncId} {args : List AV} (h : callAt ops i f = some (g, args)) : ∃ o first caps as0, ops[i]? = some o ∧ wantA ops f.ts o = some true ∧ callO (Operand.av f.ts) o = some (.fn (.func g) first caps, as0) ∧ first ++ as0 ++ caps = args ∧ ∀ v, putAt ops i f v = f.put o.dst v := by
  unfold callAt at h
  split at h
  · cases h
  · rename_i o ho
    split at h
    · rename_i hw
      split at h
      · rename_i g' first caps as0 hc
        cases h
        exact ⟨o, first, caps, as0, ho, hw, hc, rfl, fun v => by simp [putAt, ho]⟩
      · cases h
    · cases h
theorem OpsW.callP {rd : Option Nat} {ops : Array Oper} {i : Nat} {l : List Nat} {K : Fm → St → Prop} {f : Fm} {st : St} {g : FuncId} {args : List AV} {r : AV} (hp : Pure P g args r) (hc : callAt ops i f = some (g, args)) (h : OpsW P rd ops l K (putAt ops i f r) st) : OpsW P rd ops (i :: l) K f st := by
  obtain ⟨o, first, caps, as0, ho, hw, hcc, ha, hput⟩ := callAt_ok hc
  subst ha
  rw [hput] at h
  exact OpsW.pure hp ho hw hcc h
theorem OpsW.callB {rd : Option Nat} {ops : Array Oper} {i : Nat} {l : List Nat} {K : Fm → St → Prop} {f : Fm} {st : St} {g : FuncId} {args : List AV} {e : Bool} (hp : Pure P g args (.sb e)) (hc : callAt ops i f = some (g, args)) (h : ∀ b, b = e → OpsW P rd ops l K (putAt ops i f (.sb b)) st) : OpsW P rd ops (i :: l) K f st :=
  OpsW.callP hp hc (h e rfl)
theorem OpsW.callI {rd : Option Nat} {ops : Array Oper} {i : Nat} {l : List Nat} {K : Fm → St → Prop} {f : Fm} {st : St} {g : FuncId} {args : List AV} {k : IntKind} {e : Int} (hp : Pure P g args (.lit (.int k e))) (hc : callAt ops i f = some (g, args)) (h : ∀ n, n = e → OpsW P rd ops l K (putAt ops i f (.lit (.int k n))) st) : OpsW P rd ops (i :: l) K f st :=
  OpsW.callP hp hc (h e rfl)
inductive DOut where
  | done (cs : List Cond) (f : Fm) (st : St)
  | stop (cs : List Cond) (fuel : Nat) (pend : List (Nat × AV)) (listed : Array Bool) (f : Fm) (st : St)
def DOut.cs : DOut → List Cond
  | .done cs _ _ => cs
  | .stop cs _ _ _ _ _ => cs
def pickD (O : Ar) (T : Ti) (ops : Array Oper) (pend : List (Nat × AV)) (h : Hp) (f : Fm) : List Nat → Option (Nat × Oper × List Cond × AV)
  | [] => none
  | i :: l => match ops[i]? with
    | none => pickD O T ops pend h f l
    | some o => match noLookB ops pend o with
      | false => pickD O T ops pend h f l
      | true => match wantA ops f.ts o with
        | some false => some (i, o, [], undA)
        | some true => match stE O T h (Operand.av f.ts) o with
          | some (c, r) => some (i, o, c, r)
          | none => pickD O T ops pend h f l
        | none => pickD O T ops pend h f l
def isCmp (o : Oper) : Bool := match o.op with
  | .binOp .. | .unOp .. => true
  | _ => false
def runD (O : Ar) (T : Ti) (ops : Array Oper) : Nat → List (Nat × AV) → Array Bool → List Cond → Fm → St → DOut
  | 0, pend, listed, cs, f, st => match Region.ready .any ops listed with
    | [] => .done cs f st
    | _ => .stop cs 0 pend listed f st
  | fuel + 1, pend, listed, cs, f, st => match Region.ready .any ops listed with
    | [] => .done cs f st
    | rs => match pickD O T ops pend st.h f rs with
      | some (i, o, c, .sb b) => match isCmp o with
        | true => .stop cs (fuel + 1) pend listed f st
        | false => runD O T ops fuel ((i, .sb b) :: pend) (listed.setIfInBounds i true) (c ++ cs) (f.put o.dst (.sb b)) st
      | some (i, o, c, r) => runD O T ops fuel ((i, r) :: pend) (listed.setIfInBounds i true) (c ++ cs) (f.put o.dst r) st
      | none => .stop cs (fuel + 1) pend listed f st
def DOut.post (P : Program) (T : Ti) (rd : Option Nat) (ops : Array Oper) (K : Fm → St → Prop) : DOut → Prop
  | .done _ f st => K f st
  | .stop _ fuel pend listed f st => AnyE P T ops (masks ops) rd K fuel pend listed f st
theorem pickD_ok {O : Ar} {ops : Array Oper} {pend : List (Nat × AV)} {h : Hp} {f : Fm} {i : Nat} {o : Oper} {c : List Cond} {r : AV} (hO : O = std) : ∀ {l : List Nat}, pickD O T ops pend h f l = some (i, o, c, r) → i ∈ l ∧ ops[i]? = some o ∧ noLookB ops pend o = true ∧ ((∀ x ∈ c, x.holds) → lightV T ops h f i = some r)
  | [], hp => by cases hp
  | j :: l, hp => by
    subst hO
    have next : pickD std T ops pend h f l = some (i, o, c, r) → i ∈ j :: l ∧ ops[i]? = some o ∧ noLookB ops pend o = true ∧ ((∀ x ∈ c, x.holds) → lightV T ops h f i = some r) := fun hq => by
      obtain ⟨h1, h2⟩ := pickD_ok rfl hq
      exact ⟨List.mem_cons_of_mem _ h1, h2⟩
    unfold pickD at hp
    split at hp
    · exact next hp
    · rename_i oj hoj
      split at hp
      · exact next hp
      · rename_i hnl
        split at hp
        · rename_i hw
          cases hp
          exact ⟨List.mem_cons_self, hoj, hnl, fun _ => by simp [Fz.lightV, hoj, hw]⟩
        · rename_i hw
          split at hp
          · rename_i c' r' hs
            cases hp
            exact ⟨List.mem_cons_self, hoj, hnl, fun hc => by simp only [Fz.lightV, hoj, hw]; exact stE_ok hs hc⟩
          · exact next hp
        · exact next hp
theorem runD_cs {O : Ar} {ops : Array Oper} : ∀ (fuel : Nat) (pend : List (Nat × AV)) (listed : Array Bool) (cs : List Cond) (f : Fm) (st : St), ∀ c ∈ cs, c ∈ (runD O T ops fuel pend listed cs f st).cs
  | 0, _, _, cs, _, _, c, h => by
    unfold runD
    split <;> exact h
  | fuel + 1, pend, listed, cs, f, st, c, h => by
    unfold runD
    split
    · exact h
    · split
      · split
        · exact h
        · exact runD_cs fuel _ _ _ _ _ c (List.mem_append_right _ h)
      · exact runD_cs fuel _ _ _ _ _ c (List.mem_append_right _ h)
      · exact h
theorem runD_ok (hT : TOk P T) {O : Ar} (hO : O = std) {rd : Option Nat} {ops : Array Oper} {K : Fm → St → Prop} (hM : tidyB ops (masks ops) = true) : ∀ (fuel : Nat) (pend : List (Nat × AV)) (listed : Array Bool) (cs : List Cond) (f : Fm) (st : St),
    (∀ c ∈ (runD O T ops fuel pend listed cs f st).cs, c.holds) → (runD O T ops fuel pend listed cs f st).post P T rd ops K → AnyE P T ops (masks ops) rd K fuel pend listed f st
  | 0, _, _, _, _, _, _, h => by
    unfold runD at h
    split at h
    · rename_i hr
      exact .done (by rw [hr]; rfl) h
    · exact h
  | fuel + 1, pend, listed, cs, f, st, hc, h => by
    unfold runD at hc h
    split at h
    · rename_i hr
      exact .done (by rw [hr]; rfl) h
    · rename_i hr
      split at h
      · rename_i i o c b hp
        obtain ⟨h1, h2, h3, h4⟩ := pickD_ok hO hp
        simp only [hp] at hc
        split at h
        · exact h
        · rename_i hcmp
          simp only [hcmp] at hc
          have hl := h4 fun x hx => hc x (runD_cs fuel _ _ _ _ _ x (List.mem_append_left _ hx))
          refine .take hM hT i h2 ?_ hl (runD_ok hT hO hM fuel _ _ _ _ _ hc h)
          rw [h3, Bool.and_true]
          exact List.contains_iff_mem.2 h1
      · rename_i i o c r hnsb hp
        obtain ⟨h1, h2, h3, h4⟩ := pickD_ok hO hp
        simp only [hp] at hc
        have hl := h4 fun x hx => hc x (runD_cs fuel _ _ _ _ _ x (List.mem_append_left _ hx))
        refine .take hM hT i h2 ?_ hl (runD_ok hT hO hM fuel _ _ _ _ _ hc h)
        rw [h3, Bool.and_true]
        exact List.contains_iff_mem.2 h1
      · exact h
theorem SW.runD (hT : TOk P T) (hm : P.follows .mixedOrders = true) {O : Ar} (hO : O = std) {rd : Option Nat} {id : Nat} {ops : Array Oper} {Q : Exit → Fm → St → Prop} {f : Fm} {st : St} {R : DOut} (hM : tidyB ops (masks ops) = true)
    (hR : Fz.runD O T ops ops.size [] (Array.replicate ops.size false) [] f st = R) (hc : allC R.cs) (h : R.post P T rd ops (fun f st => Q .normal f st)) : SW P rd (.region id ops true) Q f st := by
  subst hR
  exact SW.drawnE hm hM (runD_ok hT hO hM _ _ _ _ _ _ (allC_ok hc) h)
def DOut.postS (P : Program) (T : Ti) (rd : Option Nat) (ops : Array Oper) (y : Code) (Q : Exit → Fm → St → Prop) : DOut → Prop
  | .done _ f st => SW P rd y Q f st
  | .stop _ fuel pend listed f st => AnyE P T ops (masks ops) rd (fun f st => SW P rd y Q f st) fuel pend listed f st
theorem SW.seqRunD (hT : TOk P T) (hm : P.follows .mixedOrders = true) {O : Ar} (hO : O = std) {rd : Option Nat} {id : Nat} {ops : Array Oper} {y : Code} {Q : Exit → Fm → St → Prop} {f : Fm} {st : St} {R : DOut} (hM : tidyB ops (masks ops) = true)
    (hR : Fz.runD O T ops ops.size [] (Array.replicate ops.size false) [] f st = R) (hc : allC R.cs) (h : R.postS P T rd ops y Q) : SW P rd (.seq (.region id ops true) y) Q f st :=
  SW.seq (SW.runD hT hm hO hM hR hc (by cases R <;> exact h))
theorem AnyE.run (hT : TOk P T) {O : Ar} (hO : O = std) {rd : Option Nat} {ops : Array Oper} {K : Fm → St → Prop} {fuel : Nat} {pend : List (Nat × AV)} {listed : Array Bool} {f : Fm} {st : St} {R : DOut} (hM : tidyB ops (masks ops) = true)
    (hR : Fz.runD O T ops fuel pend listed [] f st = R) (hc : allC R.cs) (h : R.post P T rd ops K) : AnyE P T ops (masks ops) rd K fuel pend listed f st := by
  subst hR
  exact runD_ok hT hO hM _ _ _ _ _ _ (allC_ok hc) h
def cmpD (O : Ar) (T : Ti) (ops : Array Oper) (pend : List (Nat × AV)) (listed : Array Bool) (f : Fm) (st : St) : Option (Nat × Oper × List Cond × Bool) := match pickD O T ops pend st.h f (Region.ready .any ops listed) with
  | some (i, o, c, .sb b) => some (i, o, c, b)
  | _ => none
theorem AnyE.dec (hT : TOk P T) {O : Ar} (hO : O = std) {rd : Option Nat} {ops : Array Oper} {K : Fm → St → Prop} {fuel : Nat} {pend : List (Nat × AV)} {listed : Array Bool} {f : Fm} {st : St} {i : Nat} {o : Oper} {cs : List Cond} {b : Bool} (hM : tidyB ops (masks ops) = true)
    (hp : cmpD O T ops pend listed f st = some (i, o, cs, b)) (hc : allC cs)
    (h1 : b = true → AnyE P T ops (masks ops) rd K fuel ((i, .lit (.bool true)) :: pend) (listed.setIfInBounds i true) (f.put o.dst (.lit (.bool true))) st)
    (h0 : b = false → AnyE P T ops (masks ops) rd K fuel ((i, .lit (.bool false)) :: pend) (listed.setIfInBounds i true) (f.put o.dst (.lit (.bool false))) st) : AnyE P T ops (masks ops) rd K (fuel + 1) pend listed f st := by
  unfold cmpD at hp
  split at hp
  · rename_i i' o' c' b' hq
    cases hp
    obtain ⟨k1, k2, k3, k4⟩ := pickD_ok hO hq
    have hl := k4 (allC_ok hc)
    have hb : ((Region.ready .any ops listed).contains i && noLookB ops pend o) = true := by
      rw [k3, Bool.and_true]
      exact List.contains_iff_mem.2 k1
    cases hbb : b with
    | true => exact .takeE hM hT i k2 hb ⟨_, hl, Eqv.lit hbb⟩ (h1 hbb)
    | false => exact .takeE hM hT i k2 hb ⟨_, hl, Eqv.lit hbb⟩ (h0 hbb)
  · cases hp
def onlyD (ops : Array Oper) (M : List Nat) (pend : List (Nat × AV)) (listed : Array Bool) : Option (Nat × List (Nat × AV)) := match Region.ready .any ops listed with
  | [j] => match ops[j]? with
    | some o => match noLookB ops (dropP M j pend) o with
      | true => some (j, dropP M j pend)
      | false => none
    | none => none
  | _ => none
theorem AnyE.callP {rd : Option Nat} {ops : Array Oper} {M : List Nat} {K : Fm → St → Prop} {fuel : Nat} {pend pend' : List (Nat × AV)} {listed : Array Bool} {f : Fm} {st : St} {j : Nat} {g : FuncId} {args : List AV} {r : AV} (hp : Pure P g args r)
    (hj : onlyD ops M pend listed = some (j, pend')) (hc : callAt ops j f = some (g, args)) (h : AnyE P T ops M rd K fuel pend' (listed.setIfInBounds j true) (putAt ops j f r) st) : AnyE P T ops M rd K (fuel + 1) pend listed f st := fun k1 k2 k3 => by
  unfold onlyD at hj
  split at hj
  · rename_i j' hr
    split at hj
    · rename_i o ho
      split at hj
      · rename_i hnl
        cases hj
        obtain ⟨o', first, caps, as0, ho', hw, hcc, ha, hput⟩ := callAt_ok hc
        rw [ho] at ho'; cases ho'
        subst ha
        rw [hput] at h
        refine AnyE.one j ho (by rw [hr]; exact Nat.beq_refl j) _ rfl (OpsW.pure hp ho hw hcc (.nil ⟨⟨_, rfl⟩, fun p hpm => ?_, h⟩)) k1 k2 k3
        show LV T ops st.h (f.put o.dst r) p.1 p.2
        rw [LV_put (fun q hq d hd => noLookB_ok hnl p hpm q hq d hd)]
        exact k3 p (List.mem_filter.1 hpm).1
      · cases hj
    · cases hj
  · cases hj
theorem AnyE.callB {rd : Option Nat} {ops : Array Oper} {M : List Nat} {K : Fm → St → Prop} {fuel : Nat} {pend pend' : List (Nat × AV)} {listed : Array Bool} {f : Fm} {st : St} {j : Nat} {g : FuncId} {args : List AV} {e : Bool} (hp : Pure P g args (.sb e))
    (hj : onlyD ops M pend listed = some (j, pend')) (hc : callAt ops j f = some (g, args)) (h : ∀ b, b = e → AnyE P T ops M rd K fuel pend' (listed.setIfInBounds j true) (putAt ops j f (.sb b)) st) : AnyE P T ops M rd K (fuel + 1) pend listed f st :=
  AnyE.callP hp hj hc (h e rfl)
theorem AnyE.callI {rd : Option Nat} {ops : Array Oper} {M : List Nat} {K : Fm → St → Prop} {fuel : Nat} {pend pend' : List (Nat × AV)} {listed : Array Bool} {f : Fm} {st : St} {j : Nat} {g : FuncId} {args : List AV} {k : IntKind} {e : Int} (hp : Pure P g args (.lit (.int k e)))
    (hj : onlyD ops M pend listed = some (j, pend')) (hc : callAt ops j f = some (g, args)) (h : ∀ n, n = e → AnyE P T ops M rd K fuel pend' (listed.setIfInBounds j true) (putAt ops j f (.lit (.int k n))) st) : AnyE P T ops M rd K (fuel + 1) pend listed f st :=
  AnyE.callP hp hj hc (h e rfl)
theorem runO_one {O : Ar} {ops : Array Oper} {j : Nat} {f f' : Fm} {st st' : St} {cs : List Cond} (h : runO O T ops [j] [] f st = .done cs f' st') : ∃ o v, ops[j]? = some o ∧ f' = f.put o.dst v := by
  unfold runO at h
  split at h
  · cases h
  · rename_i o ho
    refine ⟨o, ?_⟩
    have fin : ∀ (c : List Cond) (v : AV) (s : St), runO O T ops [] c (f.put o.dst v) s = .done cs f' st' → ∃ v, ops[j]? = some o ∧ f' = f.put o.dst v := fun c v s hq => by
      simp only [runO, ROut.done.injEq] at hq
      exact ⟨v, ho, hq.2.1.symm⟩
    split at h
    · exact fin _ _ _ h
    · cases h
    · split at h
      · exact fin _ _ _ h
      · split at h
        · exact fin _ _ _ h
        · split at h
          · exact fin _ _ _ h
          · split at h
            · exact fin _ _ _ h
            · split at h
              · exact fin _ _ _ h
              · cases h
theorem AnyE.callD {rd : Option Nat} {ops : Array Oper} {M : List Nat} {K : Fm → St → Prop} {fuel : Nat} {pend pend' : List (Nat × AV)} {listed : Array Bool} {f : Fm} {st : St} {j : Nat} {g : FuncId} {args : List AV} {e : Bool} (hp : Pure P g args (.sb e))
    (hj : onlyD ops M pend listed = some (j, pend')) (hc : callAt ops j f = some (g, args)) (h1 : e = true → AnyE P T ops M rd K fuel pend' (listed.setIfInBounds j true) (putAt ops j f (.lit (.bool true))) st)
    (h0 : e = false → AnyE P T ops M rd K fuel pend' (listed.setIfInBounds j true) (putAt ops j f (.lit (.bool false))) st) : AnyE P T ops M rd K (fuel + 1) pend listed f st := by
  cases he : e with
  | true => exact AnyE.callP (hp.res (Eqv.lit he)) hj hc (h1 he)
  | false => exact AnyE.callP (hp.res (Eqv.lit he)) hj hc (h0 he)
theorem AnyE.eff (hT : TOk P T) {O : Ar} (hO : O = std) {rd : Option Nat} {ops : Array Oper} {M : List Nat} {K : Fm → St → Prop} {fuel : Nat} {pend : List (Nat × AV)} {listed : Array Bool} {f f' : Fm} {st st' : St} {j : Nat} {cs : List Cond}
    (hj : onlyD ops M pend listed = some (j, [])) (hR : runO O T ops [j] [] f st = .done cs f' st') (hc : allC cs) (h : AnyE P T ops M rd K fuel [] (listed.setIfInBounds j true) f' st') : AnyE P T ops M rd K (fuel + 1) pend listed f st := fun k1 k2 k3 => by
  have hv := runO_one hR
  unfold onlyD at hj
  split at hj
  · rename_i j' hr
    split at hj
    · rename_i o ho
      split at hj
      · rename_i hnl
        simp only [Option.some.injEq, Prod.mk.injEq] at hj
        obtain ⟨rfl, hd⟩ := hj
        obtain ⟨o', v, ho', rfl⟩ := hv
        rw [ho] at ho'; cases ho'
        refine AnyE.one j' ho (by rw [hr]; exact Nat.beq_refl j') [] hd (OpsW.run hT hO (R := .done cs (f.put o.dst v) st') hR hc ⟨⟨v, rfl⟩, (show PendOk T ops [] (f.put o.dst v) st'.h from fun p hp => absurd hp List.not_mem_nil), h⟩) k1 k2 k3
      · cases hj
    · cases hj
  · cases hj
end Go.Fz
