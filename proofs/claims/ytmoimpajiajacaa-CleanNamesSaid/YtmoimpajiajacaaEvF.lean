/-
  WHAT CODE DOES, said of abstract frames and heaps: operations in their order, statements, loops. Own work of the verifier of watercress.
-/
import Derived.Test.YtmoimpajiajacaaEvE
namespace Go.Ev

structure Fm where
  ts : List AV
  dm : List Nat

def Fm.put (f : Fm) (dst : Option Tmp) (v : AV) : Fm :=
  match dst with
  | some d => { f with ts := f.ts.set d v }
  | none => f

structure ActR (φ : Fi) (f : Fm) (a : Act) : Prop where
  ts : VRL φ f.ts a.tmps.toList
  dm : a.defers = f.dm.map fun id => { target := .collected (φ.f id).b, args := #[] }
  lt : ∀ id ∈ f.dm, id < φ.n

theorem ActR.mono {φ φ' : Fi} {f : Fm} {a : Act} (he : Ext φ φ') (h : ActR φ f a) : ActR φ' f a :=
  ⟨h.ts.mono he, by rw [h.dm]; exact List.map_congr_left fun id hi => by rw [he.f id (h.lt id hi)], fun id hi => Nat.lt_of_lt_of_le (h.lt id hi) he.n⟩

theorem ActR.put {φ : Fi} {f : Fm} {a : Act} (h : ActR φ f a) (dst : Option Tmp) {v : AV} {u : Value} (hv : VR φ v u) : ActR φ (f.put dst v) (a.put dst u) := by
  cases dst with
  | none => exact h
  | some d =>
    refine ⟨?_, h.dm, h.lt⟩
    show VRL φ (f.ts.set d v) (a.tmps.setIfInBounds d u).toList
    rw [Array.toList_setIfInBounds]
    exact h.ts.set d hv

/-- The fence of a round, or none. -/
def FW (r : Option Nat) : Fence := { fn := fun _ => True, depth := none, alive := false, round := r }
theorem FW_none : FW none = Fence.wide := rfl
def rdB (φ : Fi) (rd : Option Nat) : Option Nat := rd.map fun id => (φ.f id).b
theorem rdB_ext {φ φ' : Fi} (he : Ext φ φ') {rd : Option Nat} (h : ∀ id, rd = some id → id < φ.n) : rdB φ' rd = rdB φ rd := by
  cases rd with
  | none => rfl
  | some id => simp [rdB, he.f id (h id rfl)]

def Lift (φ : Fi) (st : St) (w : World) (Q : Exit → Fm → St → Prop) : Exit → Act → World → Prop :=
  fun e a w' => ∃ f' st' φ', Q e f' st' ∧ Ext φ φ' ∧ Rel φ' st' w' ∧ ActR φ' f' a ∧ Fr φ st w φ' st' w'

theorem Lift.trans {φ φ' : Fi} {st st' : St} {w w' : World} {Q : Exit → Fm → St → Prop} {e : Exit} {a : Act} {w'' : World} (he : Ext φ φ') (hf : Fr φ st w φ' st' w') (h : Lift φ' st' w' Q e a w'') : Lift φ st w Q e a w'' := by
  obtain ⟨f2, st2, φ2, hq, he2, hr2, ha2, hf2⟩ := h
  exact ⟨f2, st2, φ2, hq, he.trans he2, hr2, ha2, hf.trans hf2⟩

variable (P : Program) (T : Ti)

/-- A statement. -/
def SW (rd : Option Nat) (c : Code) (Q : Exit → Fm → St → Prop) (f : Fm) (st : St) : Prop :=
  ∀ (φ : Fi) (w : World) (a : Act) (n : Nat), (∀ id, rd = some id → id < φ.n) → Rel φ st w → ActR φ f a → c.wpIn (FW (rdB φ rd)) n P (Lift φ st w Q) a w

/-- Operations in an order. -/
def OpsW (rd : Option Nat) (ops : Array Oper) (l : List Nat) (K : Fm → St → Prop) (f : Fm) (st : St) : Prop :=
  ∀ (φ : Fi) (w : World) (a : Act) (n : Nat) (Q : Exit → Act → World → Prop), (∀ id, rd = some id → id < φ.n) → Rel φ st w → ActR φ f a →
    (∀ a' w', Lift φ st w (fun _ f' st' => K f' st') .normal a' w' → Q .normal a' w') → wpOpsIn (FW (rdB φ rd)) n P ops Q l a w

variable {P T}

theorem SW.mono {rd : Option Nat} {c : Code} {Q Q' : Exit → Fm → St → Prop} {f : Fm} {st : St} (h : SW P rd c Q f st) (hq : ∀ e f st, Q e f st → Q' e f st) : SW P rd c Q' f st :=
  fun φ w a n h1 h2 h3 => wpIn_mono (h φ w a n h1 h2 h3) fun _ _ _ ⟨f', st', φ', k, r⟩ => ⟨f', st', φ', hq _ _ _ k, r⟩

theorem Lift.here {φ : Fi} {st : St} {w : World} {Q : Exit → Fm → St → Prop} {e : Exit} {f : Fm} {a : Act} (hq : Q e f st) (hr : Rel φ st w) (ha : ActR φ f a) : Lift φ st w Q e a w :=
  ⟨f, st, φ, hq, Ext.refl _, hr, ha, Fr.refl _ _ _⟩

theorem SW.skip {rd : Option Nat} {Q : Exit → Fm → St → Prop} {f : Fm} {st : St} (h : Q .normal f st) : SW P rd .skip Q f st :=
  fun _ _ _ _ _ h2 h3 => wpIn_skip (Lift.here h h2 h3)
theorem SW.label {rd : Option Nat} {l : Nat} {Q : Exit → Fm → St → Prop} {f : Fm} {st : St} (h : Q .normal f st) : SW P rd (.label l) Q f st :=
  fun _ _ _ _ _ h2 h3 => wpIn_label (Lift.here h h2 h3)
theorem SW.exit {rd : Option Nat} {id : Nat} {Q : Exit → Fm → St → Prop} {f : Fm} {st : St} (h : Q (.exit id) f st) : SW P rd (.exit id) Q f st :=
  fun _ _ _ _ _ h2 h3 => wpIn_exit (Lift.here h h2 h3)
theorem SW.ret {rd : Option Nat} {Q : Exit → Fm → St → Prop} {f : Fm} {st : St} (h : Q .ret f st) : SW P rd .ret Q f st :=
  fun _ _ _ _ _ h2 h3 => wpIn_ret (Lift.here h h2 h3)

def thenQ (K : Fm → St → Prop) (Q : Exit → Fm → St → Prop) : Exit → Fm → St → Prop
  | .normal, f, st => K f st
  | e, f, st => Q e f st

theorem SW.seq {rd : Option Nat} {x y : Code} {Q : Exit → Fm → St → Prop} {f : Fm} {st : St} (h : SW P rd x (thenQ (SW P rd y Q) Q) f st) : SW P rd (.seq x y) Q f st := by
  intro φ w a n h1 h2 h3
  refine wpIn_seq (wpIn_mono (h φ w a n h1 h2 h3) fun e a' w' hq => ?_)
  obtain ⟨f', st', φ', k, he, hr, ha, hf⟩ := hq
  cases e with
  | normal =>
    have := k φ' w' a' n (fun id hi => Nat.lt_of_lt_of_le (h1 id hi) he.n) hr ha
    rw [rdB_ext he h1] at this
    exact wpIn_mono this fun e a w h => h.trans he hf
  | exit id => exact ⟨f', st', φ', k, he, hr, ha, hf⟩
  | goto id => exact ⟨f', st', φ', k, he, hr, ha, hf⟩
  | ret => exact ⟨f', st', φ', k, he, hr, ha, hf⟩
  | panic c => exact ⟨f', st', φ', k, he, hr, ha, hf⟩
  | outgrown => exact ⟨f', st', φ', k, he, hr, ha, hf⟩

theorem eval_bool {φ : Fi} {f : Fm} {a : Act} (h : ActR φ f a) {c : Operand} {t : Bool} (hc : Operand.av f.ts c = .lit (.bool t)) : a.eval c = .bool t := by
  have := opR_of h.ts c
  rw [hc] at this
  exact this.lit_inv

theorem SW.cond {rd : Option Nat} {c : Operand} {x y : Code} {t : Bool} {Q : Exit → Fm → St → Prop} {f : Fm} {st : St} (hc : Operand.av f.ts c = .lit (.bool t)) (h : SW P rd (if t then x else y) Q f st) : SW P rd (.cond c x y) Q f st :=
  fun φ w a n h1 h2 h3 => wpIn_cond (eval_bool h3 hc) (h φ w a n h1 h2 h3)

def blockQ (id : Nat) (Q : Exit → Fm → St → Prop) : Exit → Fm → St → Prop
  | .exit id', f, st => if id' = id then Q .normal f st else Q (.exit id') f st
  | e, f, st => Q e f st

theorem SW.block {rd : Option Nat} {id : Nat} {c : Code} {Q : Exit → Fm → St → Prop} {f : Fm} {st : St} (h : SW P rd c (blockQ id Q) f st) : SW P rd (.block id c) Q f st := by
  intro φ w a n h1 h2 h3
  refine wpIn_block (wpIn_mono (h φ w a n h1 h2 h3) fun e a' w' hq => ?_)
  obtain ⟨f', st', φ', k, r⟩ := hq
  cases e with
  | exit id' =>
    simp only [blockQ, Exit.inBlock] at k ⊢
    split
    · rename_i hid; rw [if_pos hid] at k; exact ⟨f', st', φ', k, r⟩
    · rename_i hid; rw [if_neg hid] at k; exact ⟨f', st', φ', k, r⟩
  | normal => exact ⟨f', st', φ', k, r⟩
  | goto id => exact ⟨f', st', φ', k, r⟩
  | ret => exact ⟨f', st', φ', k, r⟩
  | panic c => exact ⟨f', st', φ', k, r⟩
  | outgrown => exact ⟨f', st', φ', k, r⟩

/-- A loop: what holds at each round's head, and a measure. -/
theorem SW.loop {rd : Option Nat} {c : Code} {Q : Exit → Fm → St → Prop} {f : Fm} {st : St} (I : Nat → Fm → St → Prop) (k : Nat) (h0 : I k f st)
    (hround : ∀ k f st, I k f st → SW P rd c (thenQ (fun f' st' => ∃ k', k' < k ∧ I k' f' st') Q) f st) : SW P rd (.loop c) Q f st := by
  intro φ w a n h1 h2 h3
  -- the invariant, over worlds
  let J : Nat → Act → World → Prop := fun k a' w' => ∃ f' st' φ', I k f' st' ∧ Ext φ φ' ∧ Rel φ' st' w' ∧ ActR φ' f' a' ∧ Fr φ st w φ' st' w'
  intro b kk cs hro hb hroom
  have key : ∀ k a' w', J k a' w' → ∃ e a₂ w₂, Lift φ st w Q e a₂ w₂ ∧ ArrivesIn (Machine.fenced P (FW (rdB φ rd))) P (lone (b.atR a' (.code c :: .inLoop c :: kk)) cs w') b kk cs e a₂ w₂ := by
    intro k
    induction k using Nat.strongRecOn with
    | _ k ih =>
      intro a' w' hj
      obtain ⟨f', st', φ', hi, he, hr, ha, hf⟩ := hj
      have hr1 := hround k f' st' hi φ' w' a' n (fun id hi => Nat.lt_of_lt_of_le (h1 id hi) he.n) hr ha
      rw [rdB_ext he h1] at hr1
      obtain ⟨e, a₁, w₁, hq, harr⟩ := hr1 b (.inLoop c :: kk) cs hro hb hroom
      obtain ⟨f2, st2, φ2, hk, he2, hr2, ha2, hf2⟩ := hq
      cases e with
      | normal =>
        obtain ⟨k', hlt, hi'⟩ := hk
        obtain ⟨e₂, a₂, w₂, hq₂, harr₂⟩ := ih k' hlt a₁ w₁ ⟨f2, st2, φ2, hi', he.trans he2, hr2, ha2, hf.trans hf2⟩
        exact ⟨e₂, a₂, w₂, hq₂, .of_steps (StepsIn.trans harr (.one (fenced_calm hb hroom rfl) stepR_inLoop)) harr₂⟩
      | exit id => exact ⟨_, a₁, w₁, ⟨f2, st2, φ2, hk, he.trans he2, hr2, ha2, hf.trans hf2⟩, .pass (x := .inLoop c) rfl (fun _ _ => .inl (by simp)) harr⟩
      | goto l => exact ⟨_, a₁, w₁, ⟨f2, st2, φ2, hk, he.trans he2, hr2, ha2, hf.trans hf2⟩, .pass (x := .inLoop c) rfl (fun _ _ => .inl (by simp)) harr⟩
      | ret => exact ⟨_, a₁, w₁, ⟨f2, st2, φ2, hk, he.trans he2, hr2, ha2, hf.trans hf2⟩, .pass (x := .inLoop c) rfl (fun _ _ => .inl (by simp)) harr⟩
      | panic ch => exact ⟨_, a₁, w₁, ⟨f2, st2, φ2, hk, he.trans he2, hr2, ha2, hf.trans hf2⟩, .pass (x := .inLoop c) rfl (fun _ _ => .inl (by simp)) harr⟩
      | outgrown => exact ⟨_, a₁, w₁, ⟨f2, st2, φ2, hk, he.trans he2, hr2, ha2, hf.trans hf2⟩, .pass (x := .inLoop c) rfl (fun _ _ => .inl (by simp)) harr⟩
  obtain ⟨e, a', w', hq, harr⟩ := key k a w ⟨f, st, φ, h0, Ext.refl _, h2, h3, Fr.refl _ _ _⟩
  exact ⟨e, a', w', hq, .of_steps (.one (fenced_calm hb hroom rfl) stepR_loop) harr⟩

/-! ### Operations -/
def yA (ops : Array Oper) (ts : List AV) (j : Nat) : Option Bool :=
  match ((ops[j]?).bind (·.dst)).bind (ts[·]?) with
  | some (.lit (.bool b)) => some b
  | _ => none

theorem yielded_eq {φ : Fi} {f : Fm} {a : Act} (h : ActR φ f a) (ops : Array Oper) : yielded ops a.tmps = yA ops f.ts := by
  funext j
  unfold yielded yA
  cases hd : (ops[j]?).bind (·.dst) with
  | none => rfl
  | some d =>
    simp only [Option.bind_some]
    have hl := h.ts.length
    cases ht : f.ts[d]? with
    | none =>
      have : a.tmps[d]? = none := Array.getElem?_eq_none_iff.2 (by have := List.getElem?_eq_none_iff.1 ht; rw [hl] at this; simpa using this)
      rw [this]
    | some u =>
      obtain ⟨v, hv, hr⟩ := h.ts.get d u ht
      rw [Array.getElem?_toList] at hv
      rw [hv]
      cases hr with
      | lit v => cases v <;> rfl
      | ptr id off h => rfl
      | sl id off len sz ex cap h hc he hs => rfl
      | mp id h => rfl
      | yld id h => rfl
      | fn f h1 h2 => rfl
      | agg h => rfl
      | tup h => rfl

theorem semAt_eq {o : Oper} (h : ∀ c, o.op ≠ .defer c) (ro : Option Nat) (ρ : Operand → Value) : o.semAt ro ρ = execOp ρ o := by
  unfold Oper.semAt
  split
  · rename_i l c hc; exact absurd hc (h c)
  · rfl

theorem OpsW.nil {rd : Option Nat} {ops : Array Oper} {K : Fm → St → Prop} {f : Fm} {st : St} (h : K f st) : OpsW P rd ops [] K f st :=
  fun _ _ _ _ _ _ h2 h3 hQ => hQ _ _ (Lift.here h h2 h3)

theorem OpsW.skip {rd : Option Nat} {ops : Array Oper} {i : Nat} {l : List Nat} {K : Fm → St → Prop} {f : Fm} {st : St} {o : Oper} (ho : ops[i]? = some o) (hw : Region.wanted o (yA ops f.ts) = false)
    (h : OpsW P rd ops l K (f.put o.dst undA) st) : OpsW P rd ops (i :: l) K f st := by
  intro φ w a n Q h1 h2 h3 hQ
  simp only [wpOpsIn, ho]
  rw [yielded_eq h3, hw]
  simp only [Bool.false_eq_true, if_false]
  exact ⟨fun _ _ => trivial, h φ w _ n Q h1 h2 (h3.put o.dst (.lit _)) hQ⟩

/-- An operation that yields a value, in another world perhaps. -/
theorem OpsW.value {rd : Option Nat} {ops : Array Oper} {i : Nat} {l : List Nat} {K : Fm → St → Prop} {f : Fm} {st st' : St} {o : Oper} {r : AV} (ho : ops[i]? = some o) (hw : Region.wanted o (yA ops f.ts) = true) (hd : ∀ c, o.op ≠ .defer c)
    (hrun : ∀ (φ : Fi) (w : World) (a : Act), Rel φ st w → ActR φ f a → ∃ φ' w' u, ((execOp a.eval o).run P w = .ok (.value u) w' ∨ ((execOp a.eval o).run P w = .ok .skip w' ∧ u = undef)) ∧ VR φ' r u ∧ Rel φ' st' w' ∧ Ext φ φ' ∧ Fr φ st w φ' st' w')
    (h : OpsW P rd ops l K (f.put o.dst r) st') : OpsW P rd ops (i :: l) K f st := by
  intro φ w a n Q h1 h2 h3 hQ
  simp only [wpOpsIn, ho]
  rw [yielded_eq h3, hw]
  simp only [if_true]
  refine ⟨fun _ _ => trivial, ?_⟩
  rw [semAt_eq hd]
  obtain ⟨φ', w', u, hr, hv, hrel, he, hf⟩ := hrun φ w a h2 h3
  have h4 := h φ' w' (a.put o.dst u) n Q (fun id hi => Nat.lt_of_lt_of_le (h1 id hi) he.n) hrel ((h3.mono he).put o.dst hv) (fun a' w'' hl => hQ a' w'' (hl.trans he hf))
  rw [rdB_ext he h1] at h4
  rcases hr with hr | ⟨hr, rfl⟩
  · rw [hr]; exact h4
  · rw [hr]; exact h4

theorem evG_ne_defer {T : Ti} {h : Hp} {ρ : Operand → AV} {o : Oper} {r : AV} (he : evG T h ρ o = some r) (c : Call) : o.op ≠ .defer c := by
  intro hc; unfold evG at he; simp only [hc] at he; unfold evL at he; simp only [hc] at he; cases he

theorem OpsW.light (hT : TOk P T) {rd : Option Nat} {ops : Array Oper} {i : Nat} {l : List Nat} {K : Fm → St → Prop} {f : Fm} {st : St} {o : Oper} {r : AV} (ho : ops[i]? = some o) (hw : Region.wanted o (yA ops f.ts) = true)
    (hr : evG T st.h (Operand.av f.ts) o = some r) (h : OpsW P rd ops l K (f.put o.dst r) st) : OpsW P rd ops (i :: l) K f st :=
  OpsW.value ho hw (evG_ne_defer hr) (fun φ w a h2 h3 => by
    obtain ⟨u, h4, h5⟩ := evG_ok (P := P) hT h2 (opR_of h3.ts) hr
    exact ⟨φ, w, u, .inl (h5 w (Same.refl _ _ _)), h4, h2, Ext.refl _, Fr.refl _ _ _⟩) h

theorem OpsW.fresh (hT : TOk P T) {rd : Option Nat} {ops : Array Oper} {i : Nat} {l : List Nat} {K : Fm → St → Prop} {f : Fm} {st : St} {o : Oper} {r : AV} {cs : List AV} (ho : ops[i]? = some o) (hw : Region.wanted o (yA ops f.ts) = true)
    (hr : evF T st.n (Operand.av f.ts) o = some (r, cs)) (h : OpsW P rd ops l K (f.put o.dst r) (st.push (.cells none false cs))) : OpsW P rd ops (i :: l) K f st :=
  OpsW.value ho hw (fun c hc => by unfold evF at hr; simp only [hc] at hr; cases hr) (fun φ w a h2 h3 => by
    rw [← h2.n] at hr
    obtain ⟨c, t, h4, h5⟩ := evF_ok (P := P) hT (opR_of h3.ts) hr
    obtain ⟨u, h6, h7⟩ := h5 w
    have := h2.push (.cells c t) (.cells none false cs) ⟨w.heap.size, 0, c.size⟩ rfl (ObjR.new (rest := []) h4 c (by simp) t)
    exact ⟨_, _, u, .inl h6, h7, this.1, φ.push_ext _, this.2⟩) h

def storeO (T : Ti) (st : St) (ρ : Operand → AV) (o : Oper) : Option St :=
  match o.op with
  | .store t p x => storeA T st t (ρ p) (ρ x)
  | _ => none

theorem OpsW.store (hT : TOk P T) {rd : Option Nat} {ops : Array Oper} {i : Nat} {l : List Nat} {K : Fm → St → Prop} {f : Fm} {st st' : St} {o : Oper} (ho : ops[i]? = some o) (hw : Region.wanted o (yA ops f.ts) = true)
    (hr : storeO T st (Operand.av f.ts) o = some st') (h : OpsW P rd ops l K (f.put o.dst undA) st') : OpsW P rd ops (i :: l) K f st := by
  unfold storeO at hr
  split at hr
  · rename_i t p x hx
    refine OpsW.value ho hw (fun c hc => by rw [hx] at hc; cases hc) (fun φ w a h2 h3 => ?_) h
    obtain ⟨w', h4, h5, h6, h7⟩ := store_ok (P := P) hT h2 (opR_of h3.ts p) (opR_of h3.ts x) hr
    exact ⟨φ, w', undef, .inr ⟨by simp [execOp, hx, h4, Result.andThen], rfl⟩, .lit _, h5, Ext.refl _, h6⟩
  · cases hr

def appendO (T : Ti) (st : St) (ρ : Operand → AV) (o : Oper) : Option (AV × St) :=
  match o.op with
  | .call c => match c.callee, c.args.toList, c.argTypes.toList with
    | .builtin .append, [s, x], [t, xt] => appendA T st t xt (ρ s) (ρ x)
    | _, _, _ => none
  | _ => none

theorem OpsW.append (hT : TOk P T) {rd : Option Nat} {ops : Array Oper} {i : Nat} {l : List Nat} {K : Fm → St → Prop} {f : Fm} {st st' : St} {o : Oper} {r : AV} (ho : ops[i]? = some o) (hw : Region.wanted o (yA ops f.ts) = true)
    (hr : appendO T st (Operand.av f.ts) o = some (r, st')) (h : OpsW P rd ops l K (f.put o.dst r) st') : OpsW P rd ops (i :: l) K f st := by
  unfold appendO at hr
  split at hr
  · rename_i c hx
    split at hr
    · rename_i s x t xt hc ha ht
      have ha' : c.args = #[s, x] := by cases hq : c.args; simp_all
      have ht' : c.argTypes = #[t, xt] := by cases hq : c.argTypes; simp_all
      refine OpsW.value ho hw (fun c hc => by rw [hx] at hc; cases hc) (fun φ w a h2 h3 => ?_) h
      obtain ⟨φ', w', v, h4, h5, h6, h7, h8⟩ := append_ok (P := P) (ty := o.type) hT h2 (opR_of h3.ts s) (opR_of h3.ts x) hr
      refine ⟨φ', w', v, .inl ?_, h5, h6, h7, h8⟩
      simp [execOp, hx, resolve, hc, ha', ht', invoke, builtin, h4, Result.andThen]
    · cases hr
  · cases hr

theorem SW.region {rd : Option Nat} {id : Nat} {ops : Array Oper} {Q : Exit → Fm → St → Prop} {f : Fm} {st : St} (h : OpsW P rd ops (List.range ops.size) (fun f st => Q .normal f st) f st) : SW P rd (.region id ops false) Q f st :=
  fun φ w a n h1 h2 h3 => wpIn_region (h φ w a n (Lift φ st w Q) h1 h2 h3 fun _ _ hl => hl)

end Go.Ev
