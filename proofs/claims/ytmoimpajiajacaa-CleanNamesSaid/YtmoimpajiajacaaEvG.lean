/-
  CALLS, AND WHAT A FUNCTION's BODY GIVES. Own work of the verifier of watercress.
-/
import Derived.Test.YtmoimpajiajacaaEvF
namespace Go.Ev

/-- What a call leaves. -/
def CPost (φ : Fi) (st : St) (w : World) (k : AV → St → Prop) : Ending → World → Prop :=
  fun e w' => ∃ v cv st' φ', e = .returned cv ∧ k v st' ∧ VR φ' v cv ∧ Ext φ φ' ∧ Rel φ' st' w' ∧ Fr φ st w φ' st' w'

variable (P : Program) (T : Ti)

/-- A call of function g. -/
def CallW (g : FuncId) (args : List AV) (st : St) (k : AV → St → Prop) : Prop :=
  ∀ (φ : Fi) (w : World) (cargs : List Value) (n : Nat), Rel φ st w → VRL φ args cargs → CallsIn Fence.wide n P g cargs.toArray w (CPost φ st w k)

/-- A call of yield. -/
def YieldW (id : Nat) (args : List AV) (st : St) (k : AV → St → Prop) : Prop :=
  ∀ (φ : Fi) (w : World) (cargs : List Value) (n : Nat), Rel φ st w → id < φ.n → VRL φ args cargs →
    ∃ fn tmps assign body, (Instr.yield (φ.f id).b cargs.toArray).run P w = .ok (.round (φ.f id).b fn tmps assign body) w ∧ RoundIn Fence.wide n P (φ.f id).b fn tmps assign body w (CPost φ st w k)

/-- The function is entered when it is called. -/
def Enters (g : FuncId) : Prop := ∀ args w, (callFunc g args).run P w = .ok (.enter g args) w

def ApplyW (callee : AV) (args : List AV) (st : St) (k : AV → St → Prop) : Prop :=
  match callee with
  | .fn (.func g) first caps => Enters P g ∧ CallW P g (first ++ args ++ caps) st k
  | .yld id => YieldW P id args st k
  | _ => False

variable {P T}

theorem CallW.mono {g : FuncId} {args : List AV} {st : St} {k k' : AV → St → Prop} (h : CallW P g args st k) (hk : ∀ v st, k v st → k' v st) : CallW P g args st k' :=
  fun φ w cargs n h1 h2 => (h φ w cargs n h1 h2).mono fun _ _ ⟨v, cv, st', φ', h3, h4, r⟩ => ⟨v, cv, st', φ', h3, hk _ _ h4, r⟩
theorem YieldW.mono {id : Nat} {args : List AV} {st : St} {k k' : AV → St → Prop} (h : YieldW P id args st k) (hk : ∀ v st, k v st → k' v st) : YieldW P id args st k' :=
  fun φ w cargs n h1 h2 h3 => by
    obtain ⟨fn, tmps, assign, body, h4, h5⟩ := h φ w cargs n h1 h2 h3
    exact ⟨fn, tmps, assign, body, h4, h5.mono fun _ _ ⟨v, cv, st', φ', h3, h4, r⟩ => ⟨v, cv, st', φ', h3, hk _ _ h4, r⟩⟩
theorem ApplyW.mono {c : AV} {args : List AV} {st : St} {k k' : AV → St → Prop} (h : ApplyW P c args st k) (hk : ∀ v st, k v st → k' v st) : ApplyW P c args st k' := by
  unfold ApplyW at *
  split at h
  · exact ⟨h.1, h.2.mono hk⟩
  · exact h.mono hk
  · exact h

def callO (ρ : Operand → AV) (o : Oper) : Option (AV × List AV) :=
  match o.op with
  | .call c => match c.callee with
    | .value f => some (ρ f, c.args.toList.map ρ)
    | _ => none
  | _ => none

theorem opRs {φ : Fi} {ρa : Operand → AV} {ρ : Operand → Value} (hρ : OpR φ ρa ρ) : ∀ l : List Operand, VRL φ (l.map ρa) (l.map ρ)
  | [] => .nil
  | x :: l => .cons (hρ x) (opRs hρ l)

theorem OpsW.call {rd : Option Nat} {ops : Array Oper} {i : Nat} {l : List Nat} {K : Fm → St → Prop} {f : Fm} {st : St} {o : Oper} {c : AV} {args : List AV} (ho : ops[i]? = some o) (hw : Region.wanted o (yA ops f.ts) = true)
    (hc : callO (Operand.av f.ts) o = some (c, args)) (h : ApplyW P c args st (fun v st' => OpsW P rd ops l K (f.put o.dst v) st')) : OpsW P rd ops (i :: l) K f st := by
  unfold callO at hc
  split at hc
  · rename_i cl hx
    split at hc
    · rename_i fo hcal
      cases hc
      intro φ w a n Q h1 h2 h3 hQ
      simp only [wpOpsIn, ho]
      rw [yielded_eq h3, hw]
      simp only [if_true]
      refine ⟨fun _ _ => trivial, ?_⟩
      rw [semAt_eq (fun c hc => by rw [hx] at hc; cases hc)]
      have hρ := opR_of h3.ts
      have hargs := opRs hρ cl.args.toList
      have hfo := hρ fo
      -- what follows behind the call
      have hnext : ∀ e w', CPost φ st w (fun v st' => OpsW P rd ops l K (f.put o.dst v) st') e w' → ∃ cv, e = .returned cv ∧ wpOpsIn (FW (rdB φ rd)) n P ops Q l (a.put o.dst cv) w' := fun e w' hp => by
        obtain ⟨v, cv, st', φ', he, hk, hv, hex, hrel, hfr⟩ := hp
        refine ⟨cv, he, ?_⟩
        have h4 := hk φ' w' (a.put o.dst cv) n Q (fun id hi => Nat.lt_of_lt_of_le (h1 id hi) hex.n) hrel ((h3.mono hex).put o.dst hv) (fun a' w'' hl => hQ a' w'' (hl.trans hex hfr))
        rwa [rdB_ext hex h1] at h4
      unfold ApplyW at h
      split at h
      · rename_i g first caps hq
        rw [hq] at hfo
        obtain ⟨us, vs, hfv, hu, hv⟩ := hfo.fn_inv
        obtain ⟨hent, hcw⟩ := h
        have hcall := hcw φ w (us ++ cl.args.toList.map a.eval ++ vs) (n - 1) h2 ((hu.append hargs).append hv)
        have hrun : (execOp a.eval o).run P w = .ok (.enter g (us ++ cl.args.toList.map a.eval ++ vs).toArray) w := by
          simp only [execOp, hx, resolve, hcal, Sem.run_bind, hfv, Deferred.ofValue, Sem.run_pure, Result.andThen, invoke]
          rw [hent]
          congr 2
          apply Array.ext'
          simp
        rw [hrun]
        refine ⟨fun h => (by cases h), ?_⟩
        have hcall' : CallsIn (FW (rdB φ rd)) (n - 1) P g (us ++ cl.args.toList.map a.eval ++ vs).toArray w (CPost φ st w (fun v st' => OpsW P rd ops l K (f.put o.dst v) st')) := by
          cases rdB φ rd <;> exact hcall
        refine hcall'.mono fun e w' hp => ?_
        obtain ⟨cv, rfl, h5⟩ := hnext e w' hp
        exact h5
      · rename_i id hq
        rw [hq] at hfo
        obtain ⟨hfv, hid⟩ := hfo.yld_inv
        obtain ⟨fn, tmps, assign, body, hy, hround⟩ := h φ w (cl.args.toList.map a.eval) (n - 1) h2 hid hargs
        have hrun : (execOp a.eval o).run P w = .ok (.round (φ.f id).b fn tmps assign body) w := by
          simp only [execOp, hx, resolve, hcal, Sem.run_bind, hfv, Deferred.ofValue, Sem.run_pure, Result.andThen, invoke]
          rw [← hy]
          congr 2
          apply Array.ext'
          simp
        rw [hrun]
        refine ⟨fun h => (by cases h), ?_⟩
        have hround' : RoundIn (FW (rdB φ rd)) (n - 1) P (φ.f id).b fn tmps assign body w (CPost φ st w (fun v st' => OpsW P rd ops l K (f.put o.dst v) st')) := by
          cases rdB φ rd <;> exact hround
        refine hround'.mono fun e w' hp => ?_
        obtain ⟨cv, rfl, h5⟩ := hnext e w' hp
        exact h5
      · exact h.elim
    · cases hc
  · cases hc

/-! ### A function's body -/
def killA : List Nat → St → Option St
  | [], st => some st
  | id :: r, st => match st.h.get id with
    | some .dfr => killA r ⟨st.h.set id (.cells none true []), st.n⟩
    | _ => none

def resOne (T : Ti) (f : Fm) (st : St) : ResultVar → Option AV
  | .tmp t => some (f.ts.getD t undA)
  | .cell a t => loadA T st.h t (f.ts.getD a undA)
def resAll (T : Ti) (f : Fm) (st : St) : List ResultVar → Option (List AV)
  | [] => some []
  | r :: rs => match resOne T f st r, resAll T f st rs with
    | some v, some vs => some (v :: vs)
    | _, _ => none
def resA (T : Ti) (rs : Array ResultVar) (f : Fm) (st : St) : Option AV :=
  match resAll T f st rs.toList with
  | some [v] => some v
  | some vs => some (.tup vs)
  | none => none

def retQ (T : Ti) (fn : Func) (k : AV → St → Prop) : Exit → Fm → St → Prop
  | .normal, f, st | .ret, f, st => ∃ st' v, killA f.dm st = some st' ∧ resA T fn.results f st' = some v ∧ k v st'
  | _, _, _ => False

theorem getD_ok {φ : Fi} {ts : List AV} {tmps : Array Value} (h : VRL φ ts tmps.toList) (t : Nat) : VR φ (ts.getD t undA) (tmps.getD t undef) :=
  opR_of (a := ⟨tmps, []⟩) h (.tmp t)

def resF (tmps : Array Value) : ResultVar → Sem Value
  | .tmp t => pure (tmps.getD t undef)
  | .cell a t => do loadVar t (← asAddr (tmps.getD a undef))
theorem results_eq (fn : Func) (tmps : Array Value) : results fn tmps = (do let vs ← fn.results.mapM (resF tmps); pure (if h : vs.size = 1 then vs[0] else .tuple vs)) := rfl

theorem res_ok (hT : TOk P T) {φ : Fi} {st : St} {w : World} {f : Fm} {tmps : Array Value} {fn : Func} {v : AV} (hr : Rel φ st w) (ht : VRL φ f.ts tmps.toList) (h : resA T fn.results f st = some v) :
    ∃ u, VR φ v u ∧ (results fn tmps).run P w = .ok u w := by
  have hone : ∀ r v, resOne T f st r = some v → ∃ u, VR φ v u ∧ ((resF tmps r).run P w = .ok u w) := fun r v hv => by
    cases r with
    | tmp t => simp only [resOne, Option.some.injEq] at hv; subst hv; exact ⟨_, getD_ok ht t, rfl⟩
    | cell a t =>
      simp only [resOne] at hv
      obtain ⟨u, h1, h2⟩ := load_ok (P := P) hT hr (getD_ok ht a) hv
      refine ⟨u, h1, ?_⟩
      have h3 := h2 w (Same.refl _ _ _)
      have hg := getD_ok ht a
      unfold loadA at hv
      split at hv
      · rename_i id off hq
        rw [hq] at hg
        obtain ⟨hp, _⟩ := hg.ptr_inv
        rw [hp] at h3
        show Sem.run P (do let x ← asAddr (tmps.getD a undef); loadVar t x) w = _
        rw [hp]
        simpa [Instr.loadAt, Instr.sureAddr, asAddr] using h3
      · cases hv
  have hall : ∀ rs vs, resAll T f st rs = some vs → ∃ us, VRL φ vs us ∧ (rs.mapM (resF tmps)).run P w = .ok us w := by
    intro rs
    induction rs with
    | nil => intro vs hv; simp only [resAll, Option.some.injEq] at hv; subst hv; exact ⟨[], .nil, rfl⟩
    | cons r rs ih =>
      intro vs hv
      simp only [resAll] at hv
      split at hv
      · rename_i v1 vs1 h1 h2
        cases hv
        obtain ⟨u, hu, hur⟩ := hone r v1 h1
        obtain ⟨us, hus, husr⟩ := ih vs1 h2
        refine ⟨u :: us, .cons hu hus, ?_⟩
        simp only [List.mapM_cons, Sem.run_bind, hur, Result.andThen, husr, Sem.run_pure]
      · cases hv
  unfold resA at h
  have key : ∀ vs us, VRL φ vs us → (fn.results.toList.mapM (resF tmps)).run P w = .ok us w →
      (results fn tmps).run P w = .ok (if h : us.toArray.size = 1 then us.toArray[0] else .tuple us.toArray) w := fun vs us _ hrun => by
    rw [results_eq]
    have hm : ∀ x : Sem (List Value), (List.toArray <$> x).run P w = (x.run P w).andThen fun a w' => .ok a.toArray w' := fun x => by
      show (x >>= fun a => pure a.toArray).run P w = _
      rw [Sem.run_bind]; rfl
    rw [Sem.run_bind, Array.mapM_eq_mapM_toList, hm, hrun]
    rfl
  split at h
  · rename_i v' hq
    cases h
    obtain ⟨us, hus, hrun⟩ := hall _ _ hq
    cases hus with
    | cons h1 h2 => cases h2 with
      | nil => exact ⟨_, h1, by rw [key _ _ (.cons h1 .nil) hrun]; simp⟩
  · rename_i vs hne hq
    cases h
    obtain ⟨us, hus, hrun⟩ := hall _ _ hq
    refine ⟨.tuple us.toArray, .tup hus, ?_⟩
    rw [key _ _ hus hrun]
    have : us.toArray.size ≠ 1 := fun h1 => by
      have hl := hus.length
      have : vs.length = 1 := by rw [hl]; simpa using h1
      match vs, this with
      | [x], _ => exact hne x rfl
    rw [dif_neg this]
  · cases h

theorem run_takeDef {w : World} {b : Nat} (h : w.heap[b]? = some (.deferred (some []))) : (Instr.takeDeferred b).run P w = .ok [] (w.putObj b (.deferred none)) := run_takeDeferred h

theorem Rel.kill {φ : Fi} {st : St} {w : World} (hr : Rel φ st w) {id : Nat} (ho : st.h.get id = some .dfr) :
    Rel φ ⟨st.h.set id (.cells none true []), st.n⟩ (w.putObj (φ.f id).b (.deferred none)) ∧ Fr φ st w φ ⟨st.h.set id (.cells none true []), st.n⟩ (w.putObj (φ.f id).b (.deferred none)) :=
  hr.turn ho rfl rfl rfl rfl rfl World.putObj_size (fun _ hk => World.putObj_heap_other hk) ⟨fun i a ha => by simp at ha, fun h => by cases h⟩

theorem leaves_ok (hT : TOk P T) {n : Nat} {fn : Func} {k : AV → St → Prop} {φ0 : Fi} {st0 : St} {w0 : World} {f : Fm} {tmps : Array Value} {φ : Fi} : ∀ (dm : List Nat) (st : St) (w : World), (∀ id ∈ dm, id < φ.n) → Ext φ0 φ → Rel φ st w → VRL φ f.ts tmps.toList →
    Fr φ0 st0 w0 φ st w → (∃ st' v, killA dm st = some st' ∧ resA T fn.results f st' = some v ∧ k v st') →
    LeavesInM Fence.wide n P fn tmps (CPost φ0 st0 w0 k) (dm.map fun id => { target := .collected (φ.f id).b, args := #[] }) .returning w
  | [], st, w, _, he, hr, ht, hf, ⟨st', v, hk, hv, hkv⟩ => by
    simp only [killA, Option.some.injEq] at hk
    subst hk
    obtain ⟨u, hu, hrun⟩ := res_ok (P := P) hT hr ht hv
    exact ⟨u, hrun, v, u, st, φ, rfl, hkv, hu, he, hr, hf⟩
  | id :: r, st, w, hlt, he, hr, ht, hf, ⟨st', v, hk, hv, hkv⟩ => by
    simp only [killA] at hk
    split at hk
    · rename_i ho
      have hd := hr.obj id _ ho
      obtain ⟨h1, h2⟩ := hr.kill ho
      refine ⟨by simp, .inl ⟨(φ.f id).b, _, rfl, run_takeDef hd, ?_⟩⟩
      exact leaves_ok hT r _ _ (fun i hi => hlt i (List.mem_cons_of_mem _ hi)) he h1 ht (hf.trans h2) ⟨st', v, hk, hv, hkv⟩
    · cases hk

/-- A FUNCTION's CONTRACT OUT OF ITS BODY. -/
theorem callW_of_body (hT : TOk P T) {g : FuncId} {fn : Func} {c : Code} {args : List AV} {st : St} {k : AV → St → Prop} (hf : P.funcs[g]? = some fn) (hb : fn.body = some c)
    (h : SW P none c (retQ T fn k) ⟨args ++ List.replicate (fn.ntmps - args.length) undA, []⟩ st) : CallW P g args st k := by
  intro φ w cargs n h1 h2
  refine callsIn_of_wp_marks hf hb trivial ?_ rfl
  have hl := h2.length
  have ha : ActR φ ⟨args ++ List.replicate (fn.ntmps - args.length) undA, []⟩ { tmps := cargs.toArray ++ Array.replicate (fn.ntmps - cargs.toArray.size) undef, defers := [] } := by
    refine ⟨?_, rfl, fun _ h => by cases h⟩
    have : (cargs.toArray ++ Array.replicate (fn.ntmps - cargs.toArray.size) undef).toList = cargs ++ List.replicate (fn.ntmps - args.length) undef := by simp [hl]
    rw [this]
    exact h2.append (VRL.replicate _ (.lit _))
  refine wpIn_mono (h φ w _ n (fun id hi => by cases hi) h1 ha) fun e a' w' hq => ?_
  obtain ⟨f', st', φ', hk, he, hr, ha', hfr⟩ := hq
  cases e with
  | normal => show LeavesInM _ _ _ _ _ _ _ _ _; rw [ha'.dm]; exact leaves_ok hT f'.dm st' w' ha'.lt he hr ha'.ts hfr hk
  | ret => show LeavesInM _ _ _ _ _ _ _ _ _; rw [ha'.dm]; exact leaves_ok hT f'.dm st' w' ha'.lt he hr ha'.ts hfr hk
  | exit id => exact hk.elim
  | goto l => exact hk.elim
  | panic c => exact hk.elim
  | outgrown => exact hk.elim

end Go.Ev
