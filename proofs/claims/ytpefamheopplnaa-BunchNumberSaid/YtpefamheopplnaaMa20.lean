/- Own work of the verifier of watercress: EvF, EvG, EvH. -/
import Derived.Test.YtpefamheopplnaaMa19
set_option linter.unusedVariables false
set_option linter.unusedSimpArgs false
namespace Go.Ev
structure Fm where
  ts : List AV
  dm : List Nat
def Fm.put (f : Fm) (dst : Option Tmp) (v : AV) : Fm :=
  match dst with
  | some d => { f with ts := f.ts.set d v }
  | none => f
structure ActR (φ : Fi) (f : Fm) (a : Act) : Prop where
  ts : VRL φ f.ts a.tmps.toList
  dm : a.defers = f.dm.map fun id => { target := .collected (φ.f id).b, args := #[] }
  lt : ∀ id ∈ f.dm, id < φ.n
theorem ActR.mono {φ φ' : Fi} {f : Fm} {a : Act} (he : Ext φ φ') (h : ActR φ f a) : ActR φ' f a :=
  ⟨h.ts.mono he, by rw [h.dm]; exact List.map_congr_left fun id hi => by rw [he.f id (h.lt id hi)], fun id hi => Nat.lt_of_lt_of_le (h.lt id hi) he.n⟩
theorem ActR.put {φ : Fi} {f : Fm} {a : Act} (h : ActR φ f a) (dst : Option Tmp) {v : AV} {u : Value} (hv : VR φ v u) : ActR φ (f.put dst v) (a.put dst u) := by
  cases dst with
  | none => exact h
  | some d =>
    refine ⟨?_, h.dm, h.lt⟩
    show VRL φ (f.ts.set d v) (a.tmps.setIfInBounds d u).toList
    rw [Array.toList_setIfInBounds]
    exact h.ts.set d hv
def FW (r : Option Nat) : Fence := { fn := fun _ => True, depth := none, alive := false, round := r }
def rdB (φ : Fi) (rd : Option Nat) : Option Nat := rd.map fun id => (φ.f id).b
theorem rdB_ext {φ φ' : Fi} (he : Ext φ φ') {rd : Option Nat} (h : ∀ id, rd = some id → id < φ.n) : rdB φ' rd = rdB φ rd := by
  cases rd with
  | none => rfl
  | some id => simp [rdB, he.f id (h id rfl)]
def Lift (φ : Fi) (st : St) (w : World) (Q : Exit → Fm → St → Prop) : Exit → Act → World → Prop :=
  fun e a w' => ∃ f' st' φ', Q e f' st' ∧ Ext φ φ' ∧ Rel φ' st' w' ∧ ActR φ' f' a ∧ Fr φ st w φ' st' w'
theorem Lift.trans {φ φ' : Fi} {st st' : St} {w w' : World} {Q : Exit → Fm → St → Prop} {e : Exit} {a : Act} {w'' : World} (he : Ext φ φ') (hf : Fr φ st w φ' st' w') (h : Lift φ' st' w' Q e a w'') : Lift φ st w Q e a w'' := by
  obtain ⟨f2, st2, φ2, hq, he2, hr2, ha2, hf2⟩ := h
  exact ⟨f2, st2, φ2, hq, he.trans he2, hr2, ha2, hf.trans hf2⟩
variable (P : Program) (T : Ti)
def SW (rd : Option Nat) (c : Code) (Q : Exit → Fm → St → Prop) (f : Fm) (st : St) : Prop :=
  ∀ (φ : Fi) (w : World) (a : Act) (n : Nat), (∀ id, rd = some id → id < φ.n) → Rel φ st w → ActR φ f a → c.wpIn (FW (rdB φ rd)) n P (Lift φ st w Q) a w
def OpsW (rd : Option Nat) (ops : Array Oper) (l : List Nat) (K : Fm → St → Prop) (f : Fm) (st : St) : Prop :=
  ∀ (φ : Fi) (w : World) (a : Act) (n : Nat) (Q : Exit → Act → World → Prop), (∀ id, rd = some id → id < φ.n) → Rel φ st w → ActR φ f a →
    (∀ a' w', Lift φ st w (fun _ f' st' => K f' st') .normal a' w' → Q .normal a' w') → wpOpsIn (FW (rdB φ rd)) n P ops Q l a w
variable {P T}
theorem SW.mono {rd : Option Nat} {c : Code} {Q Q' : Exit → Fm → St → Prop} {f : Fm} {st : St} (h : SW P rd c Q f st) (hq : ∀ e f st, Q e f st → Q' e f st) : SW P rd c Q' f st :=
  fun φ w a n h1 h2 h3 => wpIn_mono (h φ w a n h1 h2 h3) fun _ _ _ ⟨f', st', φ', k, r⟩ => ⟨f', st', φ', hq _ _ _ k, r⟩
theorem Lift.here {φ : Fi} {st : St} {w : World} {Q : Exit → Fm → St → Prop} {e : Exit} {f : Fm} {a : Act} (hq : Q e f st) (hr : Rel φ st w) (ha : ActR φ f a) : Lift φ st w Q e a w :=
  ⟨f, st, φ, hq, Ext.refl _, hr, ha, Fr.refl _ _ _⟩
theorem SW.skip {rd : Option Nat} {Q : Exit → Fm → St → Prop} {f : Fm} {st : St} (h : Q .normal f st) : SW P rd .skip Q f st :=
  fun _ _ _ _ _ h2 h3 => wpIn_skip (Lift.here h h2 h3)
theorem SW.label {rd : Option Nat} {l : Nat} {Q : Exit → Fm → St → Prop} {f : Fm} {st : St} (h : Q .normal f st) : SW P rd (.label l) Q f st :=
  fun _ _ _ _ _ h2 h3 => wpIn_label (Lift.here h h2 h3)
theorem SW.exit {rd : Option Nat} {id : Nat} {Q : Exit → Fm → St → Prop} {f : Fm} {st : St} (h : Q (.exit id) f st) : SW P rd (.exit id) Q f st :=
  fun _ _ _ _ _ h2 h3 => wpIn_exit (Lift.here h h2 h3)
theorem SW.ret {rd : Option Nat} {Q : Exit → Fm → St → Prop} {f : Fm} {st : St} (h : Q .ret f st) : SW P rd .ret Q f st :=
  fun _ _ _ _ _ h2 h3 => wpIn_ret (Lift.here h h2 h3)
def thenQ (K : Fm → St → Prop) (Q : Exit → Fm → St → Prop) : Exit → Fm → St → Prop
  | .normal, f, st => K f st
  | e, f, st => Q e f st
theorem SW.seq {rd : Option Nat} {x y : Code} {Q : Exit → Fm → St → Prop} {f : Fm} {st : St} (h : SW P rd x (thenQ (SW P rd y Q) Q) f st) : SW P rd (.seq x y) Q f st := by
  intro φ w a n h1 h2 h3
  refine wpIn_seq (wpIn_mono (h φ w a n h1 h2 h3) fun e a' w' hq => ?_)
  obtain ⟨f', st', φ', k, he, hr, ha, hf⟩ := hq
  cases e with
  | normal =>
    have := k φ' w' a' n (fun id hi => Nat.lt_of_lt_of_le (h1 id hi) he.n) hr ha
    rw [rdB_ext he h1] at this
    exact wpIn_mono this fun e a w h => h.trans he hf
  | exit id => exact ⟨f', st', φ', k, he, hr, ha, hf⟩
  | goto id => exact ⟨f', st', φ', k, he, hr, ha, hf⟩
  | ret => exact ⟨f', st', φ', k, he, hr, ha, hf⟩
  | panic c => exact ⟨f', st', φ', k, he, hr, ha, hf⟩
  | outgrown => exact ⟨f', st', φ', k, he, hr, ha, hf⟩
theorem eval_bool {φ : Fi} {f : Fm} {a : Act} (h : ActR φ f a) {c : Operand} {t : Bool} (hc : Operand.av f.ts c = .lit (.bool t)) : a.eval c = .bool t := by
  have := opR_of h.ts c
  rw [hc] at this
  exact this.lit_inv
theorem SW.cond {rd : Option Nat} {c : Operand} {x y : Code} {t : Bool} {Q : Exit → Fm → St → Prop} {f : Fm} {st : St} (hc : Operand.av f.ts c = .lit (.bool t)) (h : SW P rd (if t then x else y) Q f st) : SW P rd (.cond c x y) Q f st :=
  fun φ w a n h1 h2 h3 => wpIn_cond (eval_bool h3 hc) (h φ w a n h1 h2 h3)
def blockQ (id : Nat) (Q : Exit → Fm → St → Prop) : Exit → Fm → St → Prop
  | .exit id', f, st => if id' = id then Q .normal f st else Q (.exit id') f st
  | e, f, st => Q e f st
theorem SW.block {rd : Option Nat} {id : Nat} {c : Code} {Q : Exit → Fm → St → Prop} {f : Fm} {st : St} (h : SW P rd c (blockQ id Q) f st) : SW P rd (.block id c) Q f st := by
  intro φ w a n h1 h2 h3
  refine wpIn_block (wpIn_mono (h φ w a n h1 h2 h3) fun e a' w' hq => ?_)
  obtain ⟨f', st', φ', k, r⟩ := hq
  cases e with
  | exit id' =>
    simp only [blockQ, Exit.inBlock] at k ⊢
    split
    · rename_i hid; rw [if_pos hid] at k; exact ⟨f', st', φ', k, r⟩
    · rename_i hid; rw [if_neg hid] at k; exact ⟨f', st', φ', k, r⟩
  | normal => exact ⟨f', st', φ', k, r⟩
  | goto id => exact ⟨f', st', φ', k, r⟩
  | ret => exact ⟨f', st', φ', k, r⟩
  | panic c => exact ⟨f', st', φ', k, r⟩
  | outgrown => exact ⟨f', st', φ', k, r⟩
theorem SW.loop {rd : Option Nat} {c : Code} {Q : Exit → Fm → St → Prop} {f : Fm} {st : St} (I : Nat → Fm → St → Prop) (k : Nat) (h0 : I k f st)
    (hround : ∀ k f st, I k f st → SW P rd c (thenQ (fun f' st' => ∃ k', k' < k ∧ I k' f' st') Q) f st) : SW P rd (.loop c) Q f st := by
  intro φ w a n h1 h2 h3
  let J : Nat → Act → World → Prop := fun k a' w' => ∃ f' st' φ', I k f' st' ∧ Ext φ φ' ∧ Rel φ' st' w' ∧ ActR φ' f' a' ∧ Fr φ st w φ' st' w'
  intro b kk cs hro hb hroom
  have key : ∀ k a' w', J k a' w' → ∃ e a₂ w₂, Lift φ st w Q e a₂ w₂ ∧ ArrivesIn (Machine.fenced P (FW (rdB φ rd))) P (lone (b.atR a' (.code c :: .inLoop c :: kk)) cs w') b kk cs e a₂ w₂ := by
    intro k
    induction k using Nat.strongRecOn with
    | _ k ih =>
      intro a' w' hj
      obtain ⟨f', st', φ', hi, he, hr, ha, hf⟩ := hj
      have hr1 := hround k f' st' hi φ' w' a' n (fun id hi => Nat.lt_of_lt_of_le (h1 id hi) he.n) hr ha
      rw [rdB_ext he h1] at hr1
      obtain ⟨e, a₁, w₁, hq, harr⟩ := hr1 b (.inLoop c :: kk) cs hro hb hroom
      obtain ⟨f2, st2, φ2, hk, he2, hr2, ha2, hf2⟩ := hq
      cases e with
      | normal =>
        obtain ⟨k', hlt, hi'⟩ := hk
        obtain ⟨e₂, a₂, w₂, hq₂, harr₂⟩ := ih k' hlt a₁ w₁ ⟨f2, st2, φ2, hi', he.trans he2, hr2, ha2, hf.trans hf2⟩
        exact ⟨e₂, a₂, w₂, hq₂, .of_steps (StepsIn.trans harr (.one (fenced_calm hb hroom rfl) stepR_inLoop)) harr₂⟩
      | exit id => exact ⟨_, a₁, w₁, ⟨f2, st2, φ2, hk, he.trans he2, hr2, ha2, hf.trans hf2⟩, .pass (x := .inLoop c) rfl (fun _ _ => .inl (by simp)) harr⟩
      | goto l => exact ⟨_, a₁, w₁, ⟨f2, st2, φ2, hk, he.trans he2, hr2, ha2, hf.trans hf2⟩, .pass (x := .inLoop c) rfl (fun _ _ => .inl (by simp)) harr⟩
      | ret => exact ⟨_, a₁, w₁, ⟨f2, st2, φ2, hk, he.trans he2, hr2, ha2, hf.trans hf2⟩, .pass (x := .inLoop c) rfl (fun _ _ => .inl (by simp)) harr⟩
      | panic ch => exact ⟨_, a₁, w₁, ⟨f2, st2, φ2, hk, he.trans he2, hr2, ha2, hf.trans hf2⟩, .pass (x := .inLoop c) rfl (fun _ _ => .inl (by simp)) harr⟩
      | outgrown => exact ⟨_, a₁, w₁, ⟨f2, st2, φ2, hk, he.trans he2, hr2, ha2, hf.trans hf2⟩, .pass (x := .inLoop c) rfl (fun _ _ => .inl (by simp)) harr⟩
  obtain ⟨e, a', w', hq, harr⟩ := key k a w ⟨f, st, φ, h0, Ext.refl _, h2, h3, Fr.refl _ _ _⟩
  exact ⟨e, a', w', hq, .of_steps (.one (fenced_calm hb hroom rfl) stepR_loop) harr⟩
def yA (ops : Array Oper) (ts : List AV) (j : Nat) : Option Bool :=
  match ((ops[j]?).bind (·.dst)).bind (ts[·]?) with
  | some (.lit (.bool b)) => some b
  | _ => none
theorem yielded_eq {φ : Fi} {f : Fm} {a : Act} (h : ActR φ f a) (ops : Array Oper) : yielded ops a.tmps = yA ops f.ts := by
  funext j
  unfold yielded yA
  cases hd : (ops[j]?).bind (·.dst) with
  | none => rfl
  | some d =>
    simp only [Option.bind_some]
    have hl := h.ts.length
    cases ht : f.ts[d]? with
    | none =>
      have : a.tmps[d]? = none := Array.getElem?_eq_none_iff.2 (by have := List.getElem?_eq_none_iff.1 ht; rw [hl] at this; simpa using this)
      rw [this]
    | some u =>
      obtain ⟨v, hv, hr⟩ := h.ts.get d u ht
      rw [Array.getElem?_toList] at hv
      rw [hv]
      cases hr with
      | lit v => cases v <;> rfl
      | ptr id off h => rfl
      | sl id off len sz ex cap h hc he hs => rfl
      | mp id h => rfl
      | yld id h => rfl
      | fn f h1 h2 => rfl
      | agg h => rfl
      | tup h => rfl
theorem semAt_eq {o : Oper} (h : ∀ c, o.op ≠ .defer c) (ro : Option Nat) (ρ : Operand → Value) : o.semAt ro ρ = execOp ρ o := by
  unfold Oper.semAt
  split
  · rename_i l c hc; exact absurd hc (h c)
  · rfl
theorem OpsW.nil {rd : Option Nat} {ops : Array Oper} {K : Fm → St → Prop} {f : Fm} {st : St} (h : K f st) : OpsW P rd ops [] K f st :=
  fun _ _ _ _ _ _ h2 h3 hQ => hQ _ _ (Lift.here h h2 h3)
theorem OpsW.skip {rd : Option Nat} {ops : Array Oper} {i : Nat} {l : List Nat} {K : Fm → St → Prop} {f : Fm} {st : St} {o : Oper} (ho : ops[i]? = some o) (hw : Region.wanted o (yA ops f.ts) = false)
    (h : OpsW P rd ops l K (f.put o.dst undA) st) : OpsW P rd ops (i :: l) K f st := by
  intro φ w a n Q h1 h2 h3 hQ
  simp only [wpOpsIn, ho]
  rw [yielded_eq h3, hw]
  simp only [Bool.false_eq_true, if_false]
  exact ⟨fun _ _ => trivial, h φ w _ n Q h1 h2 (h3.put o.dst (.lit _)) hQ⟩
theorem OpsW.value {rd : Option Nat} {ops : Array Oper} {i : Nat} {l : List Nat} {K : Fm → St → Prop} {f : Fm} {st st' : St} {o : Oper} {r : AV} (ho : ops[i]? = some o) (hw : Region.wanted o (yA ops f.ts) = true) (hd : ∀ c, o.op ≠ .defer c)
    (hrun : ∀ (φ : Fi) (w : World) (a : Act), Rel φ st w → ActR φ f a → ∃ φ' w' u, ((execOp a.eval o).run P w = .ok (.value u) w' ∨ ((execOp a.eval o).run P w = .ok .skip w' ∧ u = undef)) ∧ VR φ' r u ∧ Rel φ' st' w' ∧ Ext φ φ' ∧ Fr φ st w φ' st' w')
    (h : OpsW P rd ops l K (f.put o.dst r) st') : OpsW P rd ops (i :: l) K f st := by
  intro φ w a n Q h1 h2 h3 hQ
  simp only [wpOpsIn, ho]
  rw [yielded_eq h3, hw]
  simp only [if_true]
  refine ⟨fun _ _ => trivial, ?_⟩
  rw [semAt_eq hd]
  obtain ⟨φ', w', u, hr, hv, hrel, he, hf⟩ := hrun φ w a h2 h3
  have h4 := h φ' w' (a.put o.dst u) n Q (fun id hi => Nat.lt_of_lt_of_le (h1 id hi) he.n) hrel ((h3.mono he).put o.dst hv) (fun a' w'' hl => hQ a' w'' (hl.trans he hf))
  rw [rdB_ext he h1] at h4
  rcases hr with hr | ⟨hr, rfl⟩
  · rw [hr]; exact h4
  · rw [hr]; exact h4
theorem evG_ne_defer {T : Ti} {h : Hp} {ρ : Operand → AV} {o : Oper} {r : AV} (he : evG T h ρ o = some r) (c : Call) : o.op ≠ .defer c := by
  intro hc; unfold evG at he; simp only [hc] at he; unfold evL at he; simp only [hc] at he; cases he
theorem OpsW.light (hT : TOk P T) {rd : Option Nat} {ops : Array Oper} {i : Nat} {l : List Nat} {K : Fm → St → Prop} {f : Fm} {st : St} {o : Oper} {r : AV} (ho : ops[i]? = some o) (hw : Region.wanted o (yA ops f.ts) = true)
    (hr : evG T st.h (Operand.av f.ts) o = some r) (h : OpsW P rd ops l K (f.put o.dst r) st) : OpsW P rd ops (i :: l) K f st :=
  OpsW.value ho hw (evG_ne_defer hr) (fun φ w a h2 h3 => by
    obtain ⟨u, h4, h5⟩ := evG_ok (P := P) hT h2 (opR_of h3.ts) hr
    exact ⟨φ, w, u, .inl (h5 w (Same.refl _ _ _)), h4, h2, Ext.refl _, Fr.refl _ _ _⟩) h
theorem OpsW.fresh (hT : TOk P T) {rd : Option Nat} {ops : Array Oper} {i : Nat} {l : List Nat} {K : Fm → St → Prop} {f : Fm} {st : St} {o : Oper} {r : AV} {cs : List AV} (ho : ops[i]? = some o) (hw : Region.wanted o (yA ops f.ts) = true)
    (hr : evF T st.n (Operand.av f.ts) o = some (r, cs)) (h : OpsW P rd ops l K (f.put o.dst r) (st.push (.cells none false cs))) : OpsW P rd ops (i :: l) K f st :=
  OpsW.value ho hw (fun c hc => by unfold evF at hr; simp only [hc] at hr; cases hr) (fun φ w a h2 h3 => by
    rw [← h2.n] at hr
    obtain ⟨c, t, h4, h5⟩ := evF_ok (P := P) hT (opR_of h3.ts) hr
    obtain ⟨u, h6, h7⟩ := h5 w
    have := h2.push (.cells c t) (.cells none false cs) ⟨w.heap.size, 0, c.size⟩ rfl (ObjR.new (rest := []) h4 c (by simp) t)
    exact ⟨_, _, u, .inl h6, h7, this.1, φ.push_ext _, this.2⟩) h
def storeO (T : Ti) (st : St) (ρ : Operand → AV) (o : Oper) : Option St :=
  match o.op with
  | .store t p x => storeA T st t (ρ p) (ρ x)
  | _ => none
theorem OpsW.store (hT : TOk P T) {rd : Option Nat} {ops : Array Oper} {i : Nat} {l : List Nat} {K : Fm → St → Prop} {f : Fm} {st st' : St} {o : Oper} (ho : ops[i]? = some o) (hw : Region.wanted o (yA ops f.ts) = true)
    (hr : storeO T st (Operand.av f.ts) o = some st') (h : OpsW P rd ops l K (f.put o.dst undA) st') : OpsW P rd ops (i :: l) K f st := by
  unfold storeO at hr
  split at hr
  · rename_i t p x hx
    refine OpsW.value ho hw (fun c hc => by rw [hx] at hc; cases hc) (fun φ w a h2 h3 => ?_) h
    obtain ⟨w', h4, h5, h6, h7⟩ := store_ok (P := P) hT h2 (opR_of h3.ts p) (opR_of h3.ts x) hr
    exact ⟨φ, w', undef, .inr ⟨by simp [execOp, hx, h4, Result.andThen], rfl⟩, .lit _, h5, Ext.refl _, h6⟩
  · cases hr
def appendO (T : Ti) (st : St) (ρ : Operand → AV) (o : Oper) : Option (AV × St) :=
  match o.op with
  | .call c => match c.callee, c.args.toList, c.argTypes.toList with
    | .builtin .append, [s, x], [t, xt] => appendA T st t xt (ρ s) (ρ x)
    | _, _, _ => none
  | _ => none
theorem OpsW.append (hT : TOk P T) {rd : Option Nat} {ops : Array Oper} {i : Nat} {l : List Nat} {K : Fm → St → Prop} {f : Fm} {st st' : St} {o : Oper} {r : AV} (ho : ops[i]? = some o) (hw : Region.wanted o (yA ops f.ts) = true)
    (hr : appendO T st (Operand.av f.ts) o = some (r, st')) (h : OpsW P rd ops l K (f.put o.dst r) st') : OpsW P rd ops (i :: l) K f st := by
  unfold appendO at hr
  split at hr
  · rename_i c hx
    split at hr
    · rename_i s x t xt hc ha ht
      have ha' : c.args = #[s, x] := by cases hq : c.args; simp_all
      have ht' : c.argTypes = #[t, xt] := by cases hq : c.argTypes; simp_all
      refine OpsW.value ho hw (fun c hc => by rw [hx] at hc; cases hc) (fun φ w a h2 h3 => ?_) h
      obtain ⟨φ', w', v, h4, h5, h6, h7, h8⟩ := append_ok (P := P) (ty := o.type) hT h2 (opR_of h3.ts s) (opR_of h3.ts x) hr
      refine ⟨φ', w', v, .inl ?_, h5, h6, h7, h8⟩
      simp [execOp, hx, resolve, hc, ha', ht', invoke, builtin, h4, Result.andThen]
    · cases hr
  · cases hr
theorem SW.region {rd : Option Nat} {id : Nat} {ops : Array Oper} {Q : Exit → Fm → St → Prop} {f : Fm} {st : St} (h : OpsW P rd ops (List.range ops.size) (fun f st => Q .normal f st) f st) : SW P rd (.region id ops false) Q f st :=
  fun φ w a n h1 h2 h3 => wpIn_region (h φ w a n (Lift φ st w Q) h1 h2 h3 fun _ _ hl => hl)
end Go.Ev
namespace Go.Ev
def CPost (φ : Fi) (st : St) (w : World) (k : AV → St → Prop) : Ending → World → Prop :=
  fun e w' => ∃ v cv st' φ', e = .returned cv ∧ k v st' ∧ VR φ' v cv ∧ Ext φ φ' ∧ Rel φ' st' w' ∧ Fr φ st w φ' st' w'
variable (P : Program) (T : Ti)
def CallW (g : FuncId) (args : List AV) (st : St) (k : AV → St → Prop) : Prop :=
  ∀ (φ : Fi) (w : World) (cargs : List Value) (n : Nat), Rel φ st w → VRL φ args cargs → CallsIn Fence.wide n P g cargs.toArray w (CPost φ st w k)
def YieldW (id : Nat) (args : List AV) (st : St) (k : AV → St → Prop) : Prop :=
  ∀ (φ : Fi) (w : World) (cargs : List Value) (n : Nat), Rel φ st w → id < φ.n → VRL φ args cargs →
    ∃ fn tmps assign body, (Instr.yield (φ.f id).b cargs.toArray).run P w = .ok (.round (φ.f id).b fn tmps assign body) w ∧ RoundIn Fence.wide n P (φ.f id).b fn tmps assign body w (CPost φ st w k)
def Enters (g : FuncId) : Prop := ∀ args w, (callFunc g args).run P w = .ok (.enter g args) w
def ApplyW (callee : AV) (args : List AV) (st : St) (k : AV → St → Prop) : Prop :=
  match callee with
  | .fn (.func g) first caps => Enters P g ∧ CallW P g (first ++ args ++ caps) st k
  | .yld id => YieldW P id args st k
  | _ => False
variable {P T}
theorem CallW.mono {g : FuncId} {args : List AV} {st : St} {k k' : AV → St → Prop} (h : CallW P g args st k) (hk : ∀ v st, k v st → k' v st) : CallW P g args st k' :=
  fun φ w cargs n h1 h2 => (h φ w cargs n h1 h2).mono fun _ _ ⟨v, cv, st', φ', h3, h4, r⟩ => ⟨v, cv, st', φ', h3, hk _ _ h4, r⟩
theorem YieldW.mono {id : Nat} {args : List AV} {st : St} {k k' : AV → St → Prop} (h : YieldW P id args st k) (hk : ∀ v st, k v st → k' v st) : YieldW P id args st k' :=
  fun φ w cargs n h1 h2 h3 => by
    obtain ⟨fn, tmps, assign, body, h4, h5⟩ := h φ w cargs n h1 h2 h3
    exact ⟨fn, tmps, assign, body, h4, h5.mono fun _ _ ⟨v, cv, st', φ', h3, h4, r⟩ => ⟨v, cv, st', φ', h3, hk _ _ h4, r⟩⟩
theorem ApplyW.mono {c : AV} {args : List AV} {st : St} {k k' : AV → St → Prop} (h : ApplyW P c args st k) (hk : ∀ v st, k v st → k' v st) : ApplyW P c args st k' := by
  unfold ApplyW at *
  split at h
  · exact ⟨h.1, h.2.mono hk⟩
  · exact h.mono hk
  · exact h
def callO (ρ : Operand → AV) (o : Oper) : Option (AV × List AV) :=
  match o.op with
  | .call c => match c.callee with
    | .value f => some (ρ f, c.args.toList.map ρ)
    | _ => none
  | _ => none
theorem opRs {φ : Fi} {ρa : Operand → AV} {ρ : Operand → Value} (hρ : OpR φ ρa ρ) : ∀ l : List Operand, VRL φ (l.map ρa) (l.map ρ)
  | [] => .nil
  | x :: l => .cons (hρ x) (opRs hρ l)
theorem OpsW.call {rd : Option Nat} {ops : Array Oper} {i : Nat} {l : List Nat} {K : Fm → St → Prop} {f : Fm} {st : St} {o : Oper} {c : AV} {args : List AV} (ho : ops[i]? = some o) (hw : Region.wanted o (yA ops f.ts) = true)
    (hc : callO (Operand.av f.ts) o = some (c, args)) (h : ApplyW P c args st (fun v st' => OpsW P rd ops l K (f.put o.dst v) st')) : OpsW P rd ops (i :: l) K f st := by
  unfold callO at hc
  split at hc
  · rename_i cl hx
    split at hc
    · rename_i fo hcal
      cases hc
      intro φ w a n Q h1 h2 h3 hQ
      simp only [wpOpsIn, ho]
      rw [yielded_eq h3, hw]
      simp only [if_true]
      refine ⟨fun _ _ => trivial, ?_⟩
      rw [semAt_eq (fun c hc => by rw [hx] at hc; cases hc)]
      have hρ := opR_of h3.ts
      have hargs := opRs hρ cl.args.toList
      have hfo := hρ fo
      have hnext : ∀ e w', CPost φ st w (fun v st' => OpsW P rd ops l K (f.put o.dst v) st') e w' → ∃ cv, e = .returned cv ∧ wpOpsIn (FW (rdB φ rd)) n P ops Q l (a.put o.dst cv) w' := fun e w' hp => by
        obtain ⟨v, cv, st', φ', he, hk, hv, hex, hrel, hfr⟩ := hp
        refine ⟨cv, he, ?_⟩
        have h4 := hk φ' w' (a.put o.dst cv) n Q (fun id hi => Nat.lt_of_lt_of_le (h1 id hi) hex.n) hrel ((h3.mono hex).put o.dst hv) (fun a' w'' hl => hQ a' w'' (hl.trans hex hfr))
        rwa [rdB_ext hex h1] at h4
      unfold ApplyW at h
      split at h
      · rename_i g first caps hq
        rw [hq] at hfo
        obtain ⟨us, vs, hfv, hu, hv⟩ := hfo.fn_inv
        obtain ⟨hent, hcw⟩ := h
        have hcall := hcw φ w (us ++ cl.args.toList.map a.eval ++ vs) (n - 1) h2 ((hu.append hargs).append hv)
        have hrun : (execOp a.eval o).run P w = .ok (.enter g (us ++ cl.args.toList.map a.eval ++ vs).toArray) w := by
          simp only [execOp, hx, resolve, hcal, Sem.run_bind, hfv, Deferred.ofValue, Sem.run_pure, Result.andThen, invoke]
          rw [hent]
          congr 2
          apply Array.ext'
          simp
        rw [hrun]
        refine ⟨fun h => (by cases h), ?_⟩
        have hcall' : CallsIn (FW (rdB φ rd)) (n - 1) P g (us ++ cl.args.toList.map a.eval ++ vs).toArray w (CPost φ st w (fun v st' => OpsW P rd ops l K (f.put o.dst v) st')) := by
          cases rdB φ rd <;> exact hcall
        refine hcall'.mono fun e w' hp => ?_
        obtain ⟨cv, rfl, h5⟩ := hnext e w' hp
        exact h5
      · rename_i id hq
        rw [hq] at hfo
        obtain ⟨hfv, hid⟩ := hfo.yld_inv
        obtain ⟨fn, tmps, assign, body, hy, hround⟩ := h φ w (cl.args.toList.map a.eval) (n - 1) h2 hid hargs
        have hrun : (execOp a.eval o).run P w = .ok (.round (φ.f id).b fn tmps assign body) w := by
          simp only [execOp, hx, resolve, hcal, Sem.run_bind, hfv, Deferred.ofValue, Sem.run_pure, Result.andThen, invoke]
          rw [← hy]
          congr 2
          apply Array.ext'
          simp
        rw [hrun]
        refine ⟨fun h => (by cases h), ?_⟩
        have hround' : RoundIn (FW (rdB φ rd)) (n - 1) P (φ.f id).b fn tmps assign body w (CPost φ st w (fun v st' => OpsW P rd ops l K (f.put o.dst v) st')) := by
          cases rdB φ rd <;> exact hround
        refine hround'.mono fun e w' hp => ?_
        obtain ⟨cv, rfl, h5⟩ := hnext e w' hp
        exact h5
      · exact h.elim
    · cases hc
  · cases hc
def killA : List Nat → St → Option St
  | [], st => some st
  | id :: r, st => match st.h.get id with
    | some .dfr => killA r ⟨st.h.set id (.cells none true []), st.n⟩
    | _ => none
def resOne (T : Ti) (f : Fm) (st : St) : ResultVar → Option AV
  | .tmp t => some (f.ts.getD t undA)
  | .cell a t => loadA T st.h t (f.ts.getD a undA)
def resAll (T : Ti) (f : Fm) (st : St) : List ResultVar → Option (List AV)
  | [] => some []
  | r :: rs => match resOne T f st r, resAll T f st rs with
    | some v, some vs => some (v :: vs)
    | _, _ => none
def resA (T : Ti) (rs : Array ResultVar) (f : Fm) (st : St) : Option AV :=
  match resAll T f st rs.toList with
  | some [v] => some v
  | some vs => some (.tup vs)
  | none => none
def retQ (T : Ti) (fn : Func) (k : AV → St → Prop) : Exit → Fm → St → Prop
  | .normal, f, st | .ret, f, st => ∃ st' v, killA f.dm st = some st' ∧ resA T fn.results f st' = some v ∧ k v st'
  | _, _, _ => False
theorem getD_ok {φ : Fi} {ts : List AV} {tmps : Array Value} (h : VRL φ ts tmps.toList) (t : Nat) : VR φ (ts.getD t undA) (tmps.getD t undef) :=
  opR_of (a := ⟨tmps, []⟩) h (.tmp t)
def resF (tmps : Array Value) : ResultVar → Sem Value
  | .tmp t => pure (tmps.getD t undef)
  | .cell a t => do loadVar t (← asAddr (tmps.getD a undef))
theorem results_eq (fn : Func) (tmps : Array Value) : results fn tmps = (do let vs ← fn.results.mapM (resF tmps); pure (if h : vs.size = 1 then vs[0] else .tuple vs)) := rfl
theorem res_ok (hT : TOk P T) {φ : Fi} {st : St} {w : World} {f : Fm} {tmps : Array Value} {fn : Func} {v : AV} (hr : Rel φ st w) (ht : VRL φ f.ts tmps.toList) (h : resA T fn.results f st = some v) :
    ∃ u, VR φ v u ∧ (results fn tmps).run P w = .ok u w := by
  have hone : ∀ r v, resOne T f st r = some v → ∃ u, VR φ v u ∧ ((resF tmps r).run P w = .ok u w) := fun r v hv => by
    cases r with
    | tmp t => simp only [resOne, Option.some.injEq] at hv; subst hv; exact ⟨_, getD_ok ht t, rfl⟩
    | cell a t =>
      simp only [resOne] at hv
      obtain ⟨u, h1, h2⟩ := load_ok (P := P) hT hr (getD_ok ht a) hv
      refine ⟨u, h1, ?_⟩
      have h3 := h2 w (Same.refl _ _ _)
      have hg := getD_ok ht a
      unfold loadA at hv
      split at hv
      · rename_i id off hq
        rw [hq] at hg
        obtain ⟨hp, _⟩ := hg.ptr_inv
        rw [hp] at h3
        show Sem.run P (do let x ← asAddr (tmps.getD a undef); loadVar t x) w = _
        rw [hp]
        simpa [Instr.loadAt, Instr.sureAddr, asAddr] using h3
      · cases hv
  have hall : ∀ rs vs, resAll T f st rs = some vs → ∃ us, VRL φ vs us ∧ (rs.mapM (resF tmps)).run P w = .ok us w := by
    intro rs
    induction rs with
    | nil => intro vs hv; simp only [resAll, Option.some.injEq] at hv; subst hv; exact ⟨[], .nil, rfl⟩
    | cons r rs ih =>
      intro vs hv
      simp only [resAll] at hv
      split at hv
      · rename_i v1 vs1 h1 h2
        cases hv
        obtain ⟨u, hu, hur⟩ := hone r v1 h1
        obtain ⟨us, hus, husr⟩ := ih vs1 h2
        refine ⟨u :: us, .cons hu hus, ?_⟩
        simp only [List.mapM_cons, Sem.run_bind, hur, Result.andThen, husr, Sem.run_pure]
      · cases hv
  unfold resA at h
  have key : ∀ vs us, VRL φ vs us → (fn.results.toList.mapM (resF tmps)).run P w = .ok us w →
      (results fn tmps).run P w = .ok (if h : us.toArray.size = 1 then us.toArray[0] else .tuple us.toArray) w := fun vs us _ hrun => by
    rw [results_eq]
    have hm : ∀ x : Sem (List Value), (List.toArray <$> x).run P w = (x.run P w).andThen fun a w' => .ok a.toArray w' := fun x => by
      show (x >>= fun a => pure a.toArray).run P w = _
      rw [Sem.run_bind]; rfl
    rw [Sem.run_bind, Array.mapM_eq_mapM_toList, hm, hrun]
    rfl
  split at h
  · rename_i v' hq
    cases h
    obtain ⟨us, hus, hrun⟩ := hall _ _ hq
    cases hus with
    | cons h1 h2 => cases h2 with
      | nil => exact ⟨_, h1, by rw [key _ _ (.cons h1 .nil) hrun]; simp⟩
  · rename_i vs hne hq
    cases h
    obtain ⟨us, hus, hrun⟩ := hall _ _ hq
    refine ⟨.tuple us.toArray, .tup hus, ?_⟩
    rw [key _ _ hus hrun]
    have : us.toArray.size ≠ 1 := fun h1 => by
      have hl := hus.length
      have : vs.length = 1 := by rw [hl]; simpa using h1
      match vs, this with
      | [x], _ => exact hne x rfl
    rw [dif_neg this]
  · cases h
theorem run_takeDef {w : World} {b : Nat} (h : w.heap[b]? = some (.deferred (some []))) : (Instr.takeDeferred b).run P w = .ok [] (w.putObj b (.deferred none)) := run_takeDeferred h
theorem Rel.kill {φ : Fi} {st : St} {w : World} (hr : Rel φ st w) {id : Nat} (ho : st.h.get id = some .dfr) :
    Rel φ ⟨st.h.set id (.cells none true []), st.n⟩ (w.putObj (φ.f id).b (.deferred none)) ∧ Fr φ st w φ ⟨st.h.set id (.cells none true []), st.n⟩ (w.putObj (φ.f id).b (.deferred none)) :=
  hr.turn ho rfl rfl rfl rfl rfl World.putObj_size (fun _ hk => World.putObj_heap_other hk) ⟨fun i a ha => by simp at ha, fun h => by cases h⟩
theorem leaves_ok (hT : TOk P T) {n : Nat} {fn : Func} {k : AV → St → Prop} {φ0 : Fi} {st0 : St} {w0 : World} {f : Fm} {tmps : Array Value} {φ : Fi} : ∀ (dm : List Nat) (st : St) (w : World), (∀ id ∈ dm, id < φ.n) → Ext φ0 φ → Rel φ st w → VRL φ f.ts tmps.toList →
    Fr φ0 st0 w0 φ st w → (∃ st' v, killA dm st = some st' ∧ resA T fn.results f st' = some v ∧ k v st') →
    LeavesInM Fence.wide n P fn tmps (CPost φ0 st0 w0 k) (dm.map fun id => { target := .collected (φ.f id).b, args := #[] }) .returning w
  | [], st, w, _, he, hr, ht, hf, ⟨st', v, hk, hv, hkv⟩ => by
    simp only [killA, Option.some.injEq] at hk
    subst hk
    obtain ⟨u, hu, hrun⟩ := res_ok (P := P) hT hr ht hv
    exact ⟨u, hrun, v, u, st, φ, rfl, hkv, hu, he, hr, hf⟩
  | id :: r, st, w, hlt, he, hr, ht, hf, ⟨st', v, hk, hv, hkv⟩ => by
    simp only [killA] at hk
    split at hk
    · rename_i ho
      have hd := hr.obj id _ ho
      obtain ⟨h1, h2⟩ := hr.kill ho
      refine ⟨by simp, .inl ⟨(φ.f id).b, _, rfl, run_takeDef hd, ?_⟩⟩
      exact leaves_ok hT r _ _ (fun i hi => hlt i (List.mem_cons_of_mem _ hi)) he h1 ht (hf.trans h2) ⟨st', v, hk, hv, hkv⟩
    · cases hk
theorem callW_of_body (hT : TOk P T) {g : FuncId} {fn : Func} {c : Code} {args : List AV} {st : St} {k : AV → St → Prop} (hf : P.funcs[g]? = some fn) (hb : fn.body = some c)
    (h : SW P none c (retQ T fn k) ⟨args ++ List.replicate (fn.ntmps - args.length) undA, []⟩ st) : CallW P g args st k := by
  intro φ w cargs n h1 h2
  refine callsIn_of_wp_marks hf hb trivial ?_ rfl
  have hl := h2.length
  have ha : ActR φ ⟨args ++ List.replicate (fn.ntmps - args.length) undA, []⟩ { tmps := cargs.toArray ++ Array.replicate (fn.ntmps - cargs.toArray.size) undef, defers := [] } := by
    refine ⟨?_, rfl, fun _ h => by cases h⟩
    have : (cargs.toArray ++ Array.replicate (fn.ntmps - cargs.toArray.size) undef).toList = cargs ++ List.replicate (fn.ntmps - args.length) undef := by simp [hl]
    rw [this]
    exact h2.append (VRL.replicate _ (.lit _))
  refine wpIn_mono (h φ w _ n (fun id hi => by cases hi) h1 ha) fun e a' w' hq => ?_
  obtain ⟨f', st', φ', hk, he, hr, ha', hfr⟩ := hq
  cases e with
  | normal => show LeavesInM _ _ _ _ _ _ _ _ _; rw [ha'.dm]; exact leaves_ok hT f'.dm st' w' ha'.lt he hr ha'.ts hfr hk
  | ret => show LeavesInM _ _ _ _ _ _ _ _ _; rw [ha'.dm]; exact leaves_ok hT f'.dm st' w' ha'.lt he hr ha'.ts hfr hk
  | exit id => exact hk.elim
  | goto l => exact hk.elim
  | panic c => exact hk.elim
  | outgrown => exact hk.elim
end Go.Ev
namespace Go.Ev
def setPs : List AV → List (Tmp × AV) → List AV
  | ts, [] => ts
  | ts, (t, a) :: r => setPs (ts.set t a) r
def loopAt (st : St) (id : Nat) : Option ALoop :=
  match st.h.get id with
  | some (.loop r) => some r
  | _ => none
theorem loopAt_get {st : St} {id : Nat} {r : ALoop} (h : loopAt st id = some r) : st.h.get id = some (.loop r) := by
  unfold loopAt at h
  split at h
  · cases h; assumption
  · cases h
def setLoop (st : St) (id : Nat) (r : ALoop) : St := ⟨st.h.set id (.loop r), st.n⟩
variable {P : Program} {T : Ti}
theorem Rel.loop {φ : Fi} {st : St} {w : World} (hr : Rel φ st w) {id : Nat} {r r' : ALoop} (ho : loopAt st id = some r) {L L' : Loop} (hL : w.heap[(φ.f id).b]? = some (.loop L))
    (h1 : L'.state = r'.state) (h2 : L'.pending = r'.pending) (h3 : L'.tmps = L.tmps) (h4 : L'.params = L.params) (h5 : L'.assign = L.assign) (h6 : L'.body = L.body) (h7 : L'.defers = L.defers)
    (k3 : r'.tmps = r.tmps) (k4 : r'.params = r.params) (k5 : r'.assign = r.assign) (k6 : r'.body = r.body) (k7 : r'.dfid = r.dfid) :
    Rel φ (setLoop st id r') (w.putObj (φ.f id).b (.loop L')) ∧ Fr φ st w φ (setLoop st id r') (w.putObj (φ.f id).b (.loop L')) := by
  have hg := loopAt_get ho
  obtain ⟨L0, g1, g2, g3, g4, g5, g6, g7, g8, g9⟩ := hr.obj id _ hg
  rw [hL] at g1
  cases g1
  refine hr.turn hg rfl rfl rfl rfl rfl World.putObj_size (fun _ hk => World.putObj_heap_other hk) ⟨L', World.putObj_heap_same (hr.blk id _ hg), h1, h2, ?_, ?_, ?_, ?_, ?_, ?_⟩
  · rw [h3, k3]; exact g4
  · rw [h4, k4]; exact g5
  · rw [h5, k5]; exact g6
  · rw [h6, k6]; exact g7
  · rw [k7]; exact g8
  · rw [h7, k7]; exact g9
theorem setPs_ok {φ : Fi} : ∀ (ps : List Tmp) {as : List AV} {us : List Value} {ts : List AV} {tmps : Array Value}, VRL φ as us → VRL φ ts tmps.toList →
    VRL φ (setPs ts (ps.zip as)) ((ps.zip us).foldl (fun (t : Array Value) (p : Tmp × Value) => t.setIfInBounds p.1 p.2) tmps).toList
  | [], _, _, _, _, _, ht => by simpa [setPs] using ht
  | p :: ps, _, _, _, _, .nil, ht => by simpa [setPs] using ht
  | p :: ps, _, _, ts, tmps, .cons h t, ht => by
    simp only [List.zip_cons_cons, setPs, List.foldl_cons]
    refine setPs_ok ps t ?_
    rw [Array.toList_setIfInBounds]
    exact ht.set p h
def roundQ (id : Nat) (k : AV → St → Prop) : Exit → Fm → St → Prop
  | .normal, _, st => ∃ r, loopAt st id = some r ∧ k (.lit (.bool true)) (setLoop st id { r with state := .ready, pending := none })
  | .ret, _, st => ∃ r, loopAt st id = some r ∧ k (.lit (.bool false)) (setLoop st id { r with state := .done, pending := some .ret })
  | .exit e, _, st => ∃ r, loopAt st id = some r ∧ k (.lit (.bool false)) (setLoop st id { r with state := .done, pending := some (.exit e) })
  | .goto l, _, st => ∃ r, loopAt st id = some r ∧ k (.lit (.bool false)) (setLoop st id { r with state := .done, pending := some (.goto l) })
  | _, _, _ => False
theorem YieldW.of_round {id : Nat} {args : List AV} {st : St} {k : AV → St → Prop} {r : ALoop} (ho : loopAt st id = some r) (hlen : args.length = r.params.size)
    (h : SW P (some id) r.assign (thenQ (fun f1 st1 => ∃ r1, loopAt st1 id = some r1 ∧ r1.state = .ready ∧ SW P (some id) r.body (roundQ id k) f1 (setLoop st1 id { r1 with state := .busy })) (fun _ _ _ => False))
      ⟨setPs r.tmps (r.params.toList.zip args), []⟩ st) : YieldW P id args st k := by
  intro φ w cargs n hr hid hargs
  obtain ⟨L, g1, g2, g3, g4, g5, g6, g7, g8, g9⟩ := hr.obj id _ (loopAt_get ho)
  have hl := hargs.length
  refine ⟨_, _, _, _, run_yield g1 (by rw [g5]; simp; omega), ?_⟩
  refine roundIn_of_wpIn (F := Fence.wide) trivial ?_
  rw [g6]
  have htm : VRL φ (setPs r.tmps (r.params.toList.zip args)) ((L.params.zip cargs.toArray).foldl (fun tmps (t, a) => tmps.setIfInBounds t a) L.tmps).toList := by
    have := setPs_ok (ps := r.params.toList) hargs g4
    rw [g5, ← Array.foldl_toList, Array.toList_zip]
    exact this
  refine wpIn_mono (h φ w { tmps := (L.params.zip cargs.toArray).foldl (fun tmps (t, a) => tmps.setIfInBounds t a) L.tmps, defers := [] } n (fun i hi => by cases hi; exact hid) hr ⟨htm, rfl, fun _ h => by cases h⟩) fun e a1 w1 hq => ?_
  obtain ⟨f1, st1, φ1, hk, he1, hr1, ha1, hf1⟩ := hq
  have hb1 : (φ1.f id).b = (φ.f id).b := by rw [he1.f id hid]
  cases e with
  | normal =>
    obtain ⟨r1, ho1, hs1, hbody⟩ := hk
    obtain ⟨L1, k1, k2, k3, k4, k5, k6, k7, k8, k9⟩ := hr1.obj id _ (loopAt_get ho1)
    rw [hb1] at k1
    have hbr := run_beginRound (P := P) k1 (by rw [k2]; exact hs1)
    obtain ⟨hr2, hf2⟩ := hr1.loop (r' := { r1 with state := .busy }) ho1 (L := L1) (L' := { L1 with state := .busy }) (by rw [hb1]; exact k1) rfl k3 rfl rfl rfl rfl rfl rfl rfl rfl rfl rfl
    rw [hb1] at hr2 hf2
    refine ⟨_, hbr, ?_⟩
    rw [g7]
    have h2 := hbody φ1 _ a1 n (fun i hi => by cases hi; exact Nat.lt_of_lt_of_le hid he1.n) hr2 ha1
    rw [rdB_ext he1 (fun i hi => by cases hi; exact hid)] at h2
    refine wpIn_mono h2 fun e a2 w2 hq2 => ?_
    obtain ⟨f2, st2, φ2, hk2, he2, hr3, ha2, hf3⟩ := hq2
    have hb2 : (φ2.f id).b = (φ.f id).b := by rw [he2.f id (Nat.lt_of_lt_of_le hid he1.n)]; exact hb1
    have fin : ∀ (jump : Option Code) (r2 : ALoop), loopAt st2 id = some r2 → k (.lit (.bool jump.isNone)) (setLoop st2 id { r2 with state := if jump.isNone then .ready else .done, pending := jump }) →
        ∃ v w', (Instr.endRound (φ.f id).b jump).run P w2 = .ok v w' ∧ CPost φ st w k (.returned v) w' := fun jump r2 ho2 hkk => by
      obtain ⟨L2, m1, m2, m3, m4, m5, m6, m7, m8, m9⟩ := hr3.obj id _ (loopAt_get ho2)
      rw [hb2] at m1
      obtain ⟨hr4, hf4⟩ := hr3.loop (r' := { r2 with state := if jump.isNone then .ready else .done, pending := jump }) ho2 (L := L2) (L' := { L2 with state := if jump.isNone then .ready else .done, pending := jump }) (by rw [hb2]; exact m1) rfl rfl rfl rfl rfl rfl rfl rfl rfl rfl rfl rfl
      rw [hb2] at hr4 hf4
      exact ⟨_, _, run_endRound (P := P) jump m1, .lit (.bool jump.isNone), .bool jump.isNone, _, φ2, rfl, hkk, .lit _, he1.trans he2, hr4, hf1.trans (hf2.trans (hf3.trans hf4))⟩
    cases e with
    | normal => obtain ⟨r2, ho2, hkk⟩ := hk2; exact fin none r2 ho2 hkk
    | ret => obtain ⟨r2, ho2, hkk⟩ := hk2; exact fin (some .ret) r2 ho2 hkk
    | exit x => obtain ⟨r2, ho2, hkk⟩ := hk2; exact fin (some (.exit x)) r2 ho2 hkk
    | goto l => obtain ⟨r2, ho2, hkk⟩ := hk2; exact fin (some (.goto l)) r2 ho2 hkk
    | panic c => exact hk2.elim
    | outgrown => exact hk2.elim
  | exit x => exact hk.elim
  | goto l => exact hk.elim
  | ret => exact hk.elim
  | panic c => exact hk.elim
  | outgrown => exact hk.elim
def rangeK (P : Program) (rd : Option Nat) (lid : Nat) (Q : Exit → Fm → St → Prop) (f : Fm) : AV → St → Prop := fun _ st =>
  ∃ r, loopAt st lid = some r ∧ r.state ≠ .busy ∧
    (match r.pending with
     | none => Q .normal f (setLoop st lid { r with state := .exhausted })
     | some c => SW P rd c Q f (setLoop st lid { r with state := .exhausted }))
theorem rangePost_ok {rd : Option Nat} {lid : Nat} {Q : Exit → Fm → St → Prop} {f : Fm} {φ φ1 : Fi} {st st1 : St} {w w1 : World} {a : Act} {n : Nat} (hrd : ∀ id, rd = some id → id < φ.n) (he : Ext φ φ1) (hlid : lid < φ1.n) (ha : ActR φ1 f a) (hf : Fr φ st w φ1 st1 w1)
    {e : Ending} {w' : World} (h : CPost φ1 st1 w1 (rangeK P rd lid Q f) e w') : rangePost (FW (rdB φ rd)) n P (φ1.f lid).b (Lift φ st w Q) a e w' := by
  obtain ⟨v, cv, st2, φ2, rfl, ⟨r, ho, hs, hk⟩, _, he2, hr2, hf2⟩ := h
  obtain ⟨L, g1, g2, g3, g4, g5, g6, g7, g8, g9⟩ := hr2.obj lid _ (loopAt_get ho)
  have hb : (φ2.f lid).b = (φ1.f lid).b := by rw [he2.f lid hlid]
  obtain ⟨hr3, hf3⟩ := hr2.loop (r' := { r with state := .exhausted }) ho (L := L) (L' := { L with state := .exhausted }) g1 rfl g3 rfl rfl rfl rfl rfl rfl rfl rfl rfl rfl
  rw [hb] at g1 hr3 hf3
  have hend := run_endLoop (P := P) g1 (by rw [g2]; exact hs)
  generalize w'.putObj (φ1.f lid).b (.loop { L with state := .exhausted }) = w4 at hr3 hf3 hend
  generalize setLoop st2 lid { r with state := .exhausted } = st3 at hr3 hf3 hk
  refine ⟨_, _, hend, ?_⟩
  rw [g3]
  cases hp : r.pending with
  | none =>
    rw [hp] at hk
    exact ⟨f, _, φ2, hk, he.trans he2, hr3, ha.mono he2, hf.trans (hf2.trans hf3)⟩
  | some c =>
    rw [hp] at hk
    have h4 := hk φ2 _ a n (fun id hi => Nat.lt_of_lt_of_le (hrd id hi) (Nat.le_trans he.n he2.n)) hr3 (ha.mono he2)
    rw [rdB_ext (he.trans he2) hrd] at h4
    exact wpIn_mono h4 fun e a' w' hl => hl.trans (he.trans he2) (hf.trans (hf2.trans hf3))
theorem SW.rangeFunc {g : Operand} {ps : Array Tmp} {assign body : Code} {Q : Exit → Fm → St → Prop} {f : Fm} {st : St} {gf : FuncId} {first caps : List AV} (hg : Operand.av f.ts g = .fn (.func gf) first caps) (hent : Enters P gf)
    (h : CallW P gf (first ++ [.yld (st.n + 1)] ++ caps) ((st.push .dfr).push (.loop { state := .ready, pending := none, tmps := f.ts, params := ps, assign, body, dfid := st.n }))
      (rangeK P none (st.n + 1) Q { f with dm := st.n :: f.dm })) : SW P none (.rangeFunc g ps assign body) Q f st := by
  intro φ w a n h1 hr ha
  refine wpIn_rangeFunc fun fn _ => ?_
  have hp1 := hr.push (.deferred (some [])) .dfr ⟨w.heap.size, 0, 0⟩ rfl (by show _ = _; rw [Fi.push_new]; exact alloc_heap_new' w _)
  have hn1 : (φ.push ⟨w.heap.size, 0, 0⟩).n = φ.n + 1 := rfl
  have hp2 := hp1.1.push (.loop { state := .ready, pending := none, fn, tmps := a.tmps, params := ps, assign, body, defers := w.heap.size }) (.loop { state := .ready, pending := none, tmps := f.ts, params := ps, assign, body, dfid := st.n }) ⟨w.heap.size + 1, 0, 0⟩ (by rw [alloc_size])
    ⟨_, by rw [Fi.push_new]; have := alloc_heap_new' (w.alloc (.deferred (some []))) (.loop { state := .ready, pending := none, fn, tmps := a.tmps, params := ps, assign, body, defers := w.heap.size }); rwa [alloc_size] at this,
     rfl, rfl, (ha.ts.mono ((φ.push_ext _).trans ((φ.push _).push_ext _))), rfl, rfl, rfl, by simp [Fi.push, hr.n]; omega, by
      show w.heap.size = _
      rw [← hr.n, ((φ.push ⟨w.heap.size, 0, 0⟩).push_ext _).f φ.n (by rw [hn1]; omega), Fi.push_new]⟩
  have he : Ext φ ((φ.push ⟨w.heap.size, 0, 0⟩).push ⟨w.heap.size + 1, 0, 0⟩) := (φ.push_ext _).trans ((φ.push _).push_ext _)
  have hfa : ((φ.push ⟨w.heap.size, 0, 0⟩).push ⟨w.heap.size + 1, 0, 0⟩).f φ.n = ⟨w.heap.size, 0, 0⟩ := by rw [((φ.push ⟨w.heap.size, 0, 0⟩).push_ext _).f φ.n (by rw [hn1]; omega), Fi.push_new]
  have hfb : ((φ.push ⟨w.heap.size, 0, 0⟩).push ⟨w.heap.size + 1, 0, 0⟩).f (φ.n + 1) = ⟨w.heap.size + 1, 0, 0⟩ := Fi.push_new _ _
  have hpn : ((φ.push ⟨w.heap.size, 0, 0⟩).push ⟨w.heap.size + 1, 0, 0⟩).n = φ.n + 2 := rfl
  have ha2 : ActR ((φ.push ⟨w.heap.size, 0, 0⟩).push ⟨w.heap.size + 1, 0, 0⟩) { f with dm := st.n :: f.dm } { a with defers := [{ target := .collected w.heap.size, args := #[] }] ++ a.defers } := by
    have h0 := ha.mono he
    refine ⟨h0.ts, ?_, fun id hi => ?_⟩
    · rw [h0.dm, List.map_cons, ← hr.n, hfa]; rfl
    · rcases List.mem_cons.1 hi with rfl | hi
      · rw [hpn, hr.n]; omega
      · exact h0.lt id hi
  have hgv := opR_of ha.ts g
  rw [hg] at hgv
  obtain ⟨us, vs, hv, hu, hvv⟩ := hgv.fn_inv
  have hyl : VR ((φ.push ⟨w.heap.size, 0, 0⟩).push ⟨w.heap.size + 1, 0, 0⟩) (.yld (st.n + 1)) (.func (.yield (w.heap.size + 1)) #[] #[]) := by
    have := VR.yld (φ := (φ.push ⟨w.heap.size, 0, 0⟩).push ⟨w.heap.size + 1, 0, 0⟩) (φ.n + 1) (by rw [hpn]; omega)
    rw [hfb] at this
    rw [← hr.n]; exact this
  have hcall := h _ _ (us ++ [Value.func (.yield (w.heap.size + 1)) #[] #[]] ++ vs) (n - 1) hp2.1 (((hu.mono he).append (.cons hyl .nil)).append (hvv.mono he))
  have hloop := run_enterLoop_outer (P := P) (w := w) fn a.tmps ps assign body
  generalize (w.alloc (.deferred (some []))).alloc (.loop { state := .ready, pending := none, fn, tmps := a.tmps, params := ps, assign, body, defers := w.heap.size }) = W2 at hp2 hcall hloop
  refine ⟨w.heap.size + 1, _, W2, { target := .fn (.func gf) vs.toArray, args := us.toArray ++ #[Value.func (.yield (w.heap.size + 1)) #[] #[]] }, W2, gf, (us ++ [Value.func (.yield (w.heap.size + 1)) #[] #[]] ++ vs).toArray, W2, hloop, ?_, fun _ _ => trivial, ?_, fun h => (by cases h), ?_⟩
  · have hm : Array.map a.eval #[Operand.const (Value.func (Fn.yield (w.heap.size + 1)) #[] #[])] = #[Value.func (Fn.yield (w.heap.size + 1)) #[] #[]] := by simp [Act.eval]
    simp only [resolve, hv, Deferred.ofValue, Sem.run_pure, hm]
  · simp only [invoke]
    rw [hent]
    congr 2
    apply Array.ext'
    simp
  · refine CallsIn.mono (F := FW none) hcall fun e w' hp => ?_
    have := rangePost_ok (P := P) (n := n) (rd := none) h1 he (by rw [hpn, hr.n]; omega) ha2 (hp1.2.trans hp2.2) hp
    rw [← hr.n, hfb] at this
    exact this
theorem run_enterLoop_inner {w : World} {l : Nat} {r : Loop} (h : w.heap[l]? = some (.loop r)) (fn : FuncId) (tmps : Array Value) (ps : Array Tmp) (assign body : Code) :
    (Instr.enterLoop fn tmps ps assign body (some l)).run P w = .ok (w.heap.size, []) (w.alloc (.loop { state := .ready, pending := none, fn, tmps, params := ps, assign, body, defers := r.defers })) := by
  unfold Instr.enterLoop
  simp only [Sem.run_bind, run_getLoop h, run_newObj_alloc, Result.andThen, Sem.run_pure]
theorem SW.rangeFuncIn {id0 : Nat} {r0 : ALoop} {g : Operand} {ps : Array Tmp} {assign body : Code} {Q : Exit → Fm → St → Prop} {f : Fm} {st : St} {gf : FuncId} {first caps : List AV} (ho : loopAt st id0 = some r0) (hg : Operand.av f.ts g = .fn (.func gf) first caps) (hent : Enters P gf)
    (h : CallW P gf (first ++ [.yld st.n] ++ caps) (st.push (.loop { state := .ready, pending := none, tmps := f.ts, params := ps, assign, body, dfid := r0.dfid }))
      (rangeK P (some id0) st.n Q f)) : SW P (some id0) (.rangeFunc g ps assign body) Q f st := by
  intro φ w a n h1 hr ha
  have hid0 : id0 < φ.n := h1 id0 rfl
  obtain ⟨L, g1, g2, g3, g4, g5, g6, g7, g8, g9⟩ := hr.obj id0 _ (loopAt_get ho)
  refine wpIn_rangeFunc fun fn _ => ?_
  have hp2 := hr.push (.loop { state := .ready, pending := none, fn, tmps := a.tmps, params := ps, assign, body, defers := L.defers }) (.loop { state := .ready, pending := none, tmps := f.ts, params := ps, assign, body, dfid := r0.dfid }) ⟨w.heap.size, 0, 0⟩ rfl
    ⟨_, by rw [Fi.push_new]; exact alloc_heap_new' w _, rfl, rfl, ha.ts.mono (φ.push_ext _), rfl, rfl, rfl, by rw [Fi.push_n]; exact Nat.lt_succ_of_lt g8, by
      show L.defers = _
      rw [(φ.push_ext _).f r0.dfid g8]; exact g9⟩
  have he : Ext φ (φ.push ⟨w.heap.size, 0, 0⟩) := φ.push_ext _
  have hfb : (φ.push ⟨w.heap.size, 0, 0⟩).f φ.n = ⟨w.heap.size, 0, 0⟩ := Fi.push_new _ _
  have hpn : (φ.push ⟨w.heap.size, 0, 0⟩).n = φ.n + 1 := rfl
  have hgv := opR_of ha.ts g
  rw [hg] at hgv
  obtain ⟨us, vs, hv, hu, hvv⟩ := hgv.fn_inv
  have hyl : VR (φ.push ⟨w.heap.size, 0, 0⟩) (.yld st.n) (.func (.yield w.heap.size) #[] #[]) := by
    have := VR.yld (φ := φ.push ⟨w.heap.size, 0, 0⟩) φ.n (by rw [hpn]; omega)
    rw [hfb] at this
    rw [← hr.n]; exact this
  have hcall := h _ _ (us ++ [Value.func (.yield w.heap.size) #[] #[]] ++ vs) (n - 1) hp2.1 (((hu.mono he).append (.cons hyl .nil)).append (hvv.mono he))
  have hloop := run_enterLoop_inner (P := P) g1 fn a.tmps ps assign body
  generalize w.alloc (.loop { state := .ready, pending := none, fn, tmps := a.tmps, params := ps, assign, body, defers := L.defers }) = W2 at hp2 hcall hloop
  refine ⟨w.heap.size, _, W2, { target := .fn (.func gf) vs.toArray, args := us.toArray ++ #[Value.func (.yield w.heap.size) #[] #[]] }, W2, gf, (us ++ [Value.func (.yield w.heap.size) #[] #[]] ++ vs).toArray, W2, hloop, ?_, fun _ _ => trivial, ?_, fun h => (by cases h), ?_⟩
  · have hm : Array.map a.eval #[Operand.const (Value.func (Fn.yield w.heap.size) #[] #[])] = #[Value.func (Fn.yield w.heap.size) #[] #[]] := by simp [Act.eval]
    simp only [resolve, hv, Deferred.ofValue, Sem.run_pure, hm]
  · simp only [invoke]
    rw [hent]
    congr 2
    apply Array.ext'
    simp
  · refine CallsIn.mono (F := FW (rdB φ (some id0))) hcall fun e w' hp => ?_
    have := rangePost_ok (P := P) (n := n) (rd := some id0) (a := a) h1 he (by rw [hpn, hr.n]; omega) (ha.mono he) hp2.2 hp
    rw [← hr.n, hfb] at this
    exact this
end Go.Ev
