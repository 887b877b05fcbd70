/-
  CALLS, AND WHAT A FUNCTION's BODY GIVES. Own work of the verifier of watercress.
-/
import Derived.Test.YtgfahkehkpjabaaFza
import Derived.OrdersIn
namespace Go.Fz

/-- What a call leaves. -/
def CPost (φ : Fi) (st : St) (w : World) (k : AV → St → Prop) : Ending → World → Prop :=
  fun e w' => ∃ v cv st' φ', e = .returned cv ∧ k v st' ∧ VR φ' v cv ∧ Ext φ φ' ∧ Rel φ' st' w' ∧ Fr φ st w φ' st' w'

variable (P : Program) (T : Ti)

/-- A call of function g. -/
def CallW (g : FuncId) (args : List AV) (st : St) (k : AV → St → Prop) : Prop :=
  ∀ (φ : Fi) (w : World) (cargs : List Value) (n : Nat), Rel φ st w → VRL φ args cargs → CallsIn Fence.wide n P g cargs.toArray w (CPost φ st w k)

/-- A call of yield. -/
def YieldW (id : Nat) (args : List AV) (st : St) (k : AV → St → Prop) : Prop :=
  ∀ (φ : Fi) (w : World) (cargs : List Value) (n : Nat), Rel φ st w → id < φ.n → VRL φ args cargs →
    ∃ fn tmps assign body, (Instr.yield (φ.f id).b cargs.toArray).run P w = .ok (.round (φ.f id).b fn tmps assign body) w ∧ RoundIn Fence.wide n P (φ.f id).b fn tmps assign body w (CPost φ st w k)

/-- The function is entered when it is called. -/
def Enters (g : FuncId) : Prop := ∀ args w, (callFunc g args).run P w = .ok (.enter g args) w

def ApplyW (callee : AV) (args : List AV) (st : St) (k : AV → St → Prop) : Prop :=
  match callee with
  | .fn (.func g) first caps => Enters P g ∧ CallW P g (first ++ args ++ caps) st k
  | .yld id => YieldW P id args st k
  | _ => False

variable {P T}

theorem CallW.mono {g : FuncId} {args : List AV} {st : St} {k k' : AV → St → Prop} (h : CallW P g args st k) (hk : ∀ v st, k v st → k' v st) : CallW P g args st k' :=
  fun φ w cargs n h1 h2 => (h φ w cargs n h1 h2).mono fun _ _ ⟨v, cv, st', φ', h3, h4, r⟩ => ⟨v, cv, st', φ', h3, hk _ _ h4, r⟩
theorem YieldW.mono {id : Nat} {args : List AV} {st : St} {k k' : AV → St → Prop} (h : YieldW P id args st k) (hk : ∀ v st, k v st → k' v st) : YieldW P id args st k' :=
  fun φ w cargs n h1 h2 h3 => by
    obtain ⟨fn, tmps, assign, body, h4, h5⟩ := h φ w cargs n h1 h2 h3
    exact ⟨fn, tmps, assign, body, h4, h5.mono fun _ _ ⟨v, cv, st', φ', h3, h4, r⟩ => ⟨v, cv, st', φ', h3, hk _ _ h4, r⟩⟩
theorem ApplyW.mono {c : AV} {args : List AV} {st : St} {k k' : AV → St → Prop} (h : ApplyW P c args st k) (hk : ∀ v st, k v st → k' v st) : ApplyW P c args st k' := by
  unfold ApplyW at *
  split at h
  · exact ⟨h.1, h.2.mono hk⟩
  · exact h.mono hk
  · exact h

def callO (ρ : Operand → AV) (o : Oper) : Option (AV × List AV) :=
  match o.op with
  | .call c => match c.callee with
    | .value f => some (ρ f, c.args.toList.map ρ)
    | _ => none
  | _ => none

theorem opRs {φ : Fi} {ρa : Operand → AV} {ρ : Operand → Value} (hρ : OpR φ ρa ρ) : ∀ l : List Operand, VRL φ (l.map ρa) (l.map ρ)
  | [] => .nil
  | x :: l => .cons (hρ x) (opRs hρ l)

theorem OpsW.call {rd : Option Nat} {ops : Array Oper} {i : Nat} {l : List Nat} {K : Fm → St → Prop} {f : Fm} {st : St} {o : Oper} {c : AV} {args : List AV} (ho : ops[i]? = some o) (hw : wantA ops f.ts o = some true)
    (hc : callO (Operand.av f.ts) o = some (c, args)) (h : ApplyW P c args st (fun v st' => OpsW P rd ops l K (f.put o.dst v) st')) : OpsW P rd ops (i :: l) K f st := by
  unfold callO at hc
  split at hc
  · rename_i cl hx
    split at hc
    · rename_i fo hcal
      cases hc
      intro φ w a n Q h1 h2 h3 hQ
      simp only [wpOpsIn, ho]
      rw [wanted_eq h3 ops hw]
      simp only [if_true]
      refine ⟨fun _ _ => trivial, ?_⟩
      rw [semAt_eq (fun c hc => by rw [hx] at hc; cases hc)]
      have hρ := opR_of h3.ts
      have hargs := opRs hρ cl.args.toList
      have hfo := hρ fo
      -- what follows behind the call
      have hnext : ∀ e w', CPost φ st w (fun v st' => OpsW P rd ops l K (f.put o.dst v) st') e w' → ∃ cv, e = .returned cv ∧ wpOpsIn (FW (rdB φ rd)) n P ops Q l (a.put o.dst cv) w' := fun e w' hp => by
        obtain ⟨v, cv, st', φ', he, hk, hv, hex, hrel, hfr⟩ := hp
        refine ⟨cv, he, ?_⟩
        have h4 := hk φ' w' (a.put o.dst cv) n Q (fun id hi => Nat.lt_of_lt_of_le (h1 id hi) hex.n) hrel ((h3.mono hex).put o.dst hv) (fun a' w'' hl => hQ a' w'' (hl.trans hex hfr))
        rwa [rdB_ext hex h1] at h4
      unfold ApplyW at h
      split at h
      · rename_i g first caps hq
        rw [hq] at hfo
        obtain ⟨us, vs, hfv, hu, hv⟩ := hfo.fn_inv
        obtain ⟨hent, hcw⟩ := h
        have hcall := hcw φ w (us ++ cl.args.toList.map a.eval ++ vs) (n - 1) h2 ((hu.append hargs).append hv)
        have hrun : (execOp a.eval o).run P w = .ok (.enter g (us ++ cl.args.toList.map a.eval ++ vs).toArray) w := by
          simp only [execOp, hx, resolve, hcal, Sem.run_bind, hfv, Deferred.ofValue, Sem.run_pure, Result.andThen, invoke]
          rw [hent]
          congr 2
          apply Array.ext'
          simp
        rw [hrun]
        refine ⟨fun h => (by cases h), ?_⟩
        have hcall' : CallsIn (FW (rdB φ rd)) (n - 1) P g (us ++ cl.args.toList.map a.eval ++ vs).toArray w (CPost φ st w (fun v st' => OpsW P rd ops l K (f.put o.dst v) st')) := by
          cases rdB φ rd <;> exact hcall
        refine hcall'.mono fun e w' hp => ?_
        obtain ⟨cv, rfl, h5⟩ := hnext e w' hp
        exact h5
      · rename_i id hq
        rw [hq] at hfo
        obtain ⟨hfv, hid⟩ := hfo.yld_inv
        obtain ⟨fn, tmps, assign, body, hy, hround⟩ := h φ w (cl.args.toList.map a.eval) (n - 1) h2 hid hargs
        have hrun : (execOp a.eval o).run P w = .ok (.round (φ.f id).b fn tmps assign body) w := by
          simp only [execOp, hx, resolve, hcal, Sem.run_bind, hfv, Deferred.ofValue, Sem.run_pure, Result.andThen, invoke]
          rw [← hy]
          congr 2
          apply Array.ext'
          simp
        rw [hrun]
        refine ⟨fun h => (by cases h), ?_⟩
        have hround' : RoundIn (FW (rdB φ rd)) (n - 1) P (φ.f id).b fn tmps assign body w (CPost φ st w (fun v st' => OpsW P rd ops l K (f.put o.dst v) st')) := by
          cases rdB φ rd <;> exact hround
        refine hround'.mono fun e w' hp => ?_
        obtain ⟨cv, rfl, h5⟩ := hnext e w' hp
        exact h5
      · exact h.elim
    · cases hc
  · cases hc

/-! ### A function's body -/
def killA : List Nat → St → Option St
  | [], st => some st
  | id :: r, st => match st.h.get id with
    | some .dfr => killA r ⟨st.h.set id (.cells none true []), st.n⟩
    | _ => none

def resOne (T : Ti) (f : Fm) (st : St) : ResultVar → Option AV
  | .tmp t => some (f.ts.get t)
  | .cell a t => loadA T st.h t (f.ts.get a)
def resAll (T : Ti) (f : Fm) (st : St) : List ResultVar → Option (List AV)
  | [] => some []
  | r :: rs => match resOne T f st r, resAll T f st rs with
    | some v, some vs => some (v :: vs)
    | _, _ => none
def resA (T : Ti) (rs : Array ResultVar) (f : Fm) (st : St) : Option AV :=
  match resAll T f st rs.toList with
  | some [v] => some v
  | some vs => some (.tup vs)
  | none => none

def retQ (T : Ti) (fn : Func) (k : AV → St → Prop) : Exit → Fm → St → Prop
  | .normal, f, st | .ret, f, st => ∃ st' v, killA f.dm st = some st' ∧ resA T fn.results f st' = some v ∧ k v st'
  | _, _, _ => False

theorem getD_ok {φ : Fi} {ts : Ts} {tmps : Array Value} (h : TsR φ ts tmps) (t : Nat) : VR φ (ts.get t) (tmps.getD t undef) :=
  h.get t

def resF (tmps : Array Value) : ResultVar → Sem Value
  | .tmp t => pure (tmps.getD t undef)
  | .cell a t => do loadVar t (← asAddr (tmps.getD a undef))
theorem results_eq (fn : Func) (tmps : Array Value) : results fn tmps = (do let vs ← fn.results.mapM (resF tmps); pure (if h : vs.size = 1 then vs[0] else .tuple vs)) := rfl

theorem res_ok (hT : TOk P T) {φ : Fi} {st : St} {w : World} {f : Fm} {tmps : Array Value} {fn : Func} {v : AV} (hr : Rel φ st w) (ht : TsR φ f.ts tmps) (h : resA T fn.results f st = some v) :
    ∃ u, VR φ v u ∧ (results fn tmps).run P w = .ok u w := by
  have hone : ∀ r v, resOne T f st r = some v → ∃ u, VR φ v u ∧ ((resF tmps r).run P w = .ok u w) := fun r v hv => by
    cases r with
    | tmp t => simp only [resOne, Option.some.injEq] at hv; subst hv; exact ⟨_, getD_ok ht t, rfl⟩
    | cell a t =>
      simp only [resOne] at hv
      obtain ⟨u, h1, h2⟩ := load_ok (P := P) hT hr (getD_ok ht a) hv
      refine ⟨u, h1, ?_⟩
      have h3 := h2 w (Same.refl _ _ _)
      have hg := getD_ok ht a
      have hpt : ∃ x, tmps.getD a undef = .pointer (some x) := by
        unfold loadA at hv
        split at hv
        · rename_i sz k e hq
          rw [hq] at hg
          obtain ⟨b, o, c, us, hp, _⟩ := hg.ip_inv
          exact ⟨_, hp⟩
        · split at hv
          · rename_i id off hq
            exact ⟨_, (ptrOf_ok hq hg).ptr_inv.1⟩
          · cases hv
      obtain ⟨x, hp⟩ := hpt
      rw [hp] at h3
      show Sem.run P (do let x ← asAddr (tmps.getD a undef); loadVar t x) w = _
      rw [hp]
      simpa [Instr.loadAt, Instr.sureAddr, asAddr] using h3
  have hall : ∀ rs vs, resAll T f st rs = some vs → ∃ us, VRL φ vs us ∧ (rs.mapM (resF tmps)).run P w = .ok us w := by
    intro rs
    induction rs with
    | nil => intro vs hv; simp only [resAll, Option.some.injEq] at hv; subst hv; exact ⟨[], .nil, rfl⟩
    | cons r rs ih =>
      intro vs hv
      simp only [resAll] at hv
      split at hv
      · rename_i v1 vs1 h1 h2
        cases hv
        obtain ⟨u, hu, hur⟩ := hone r v1 h1
        obtain ⟨us, hus, husr⟩ := ih vs1 h2
        refine ⟨u :: us, .cons hu hus, ?_⟩
        simp only [List.mapM_cons, Sem.run_bind, hur, Result.andThen, husr, Sem.run_pure]
      · cases hv
  unfold resA at h
  have key : ∀ vs us, VRL φ vs us → (fn.results.toList.mapM (resF tmps)).run P w = .ok us w →
      (results fn tmps).run P w = .ok (if h : us.toArray.size = 1 then us.toArray[0] else .tuple us.toArray) w := fun vs us _ hrun => by
    rw [results_eq]
    have hm : ∀ x : Sem (List Value), (List.toArray <$> x).run P w = (x.run P w).andThen fun a w' => .ok a.toArray w' := fun x => by
      show (x >>= fun a => pure a.toArray).run P w = _
      rw [Sem.run_bind]; rfl
    rw [Sem.run_bind, Array.mapM_eq_mapM_toList, hm, hrun]
    rfl
  split at h
  · rename_i v' hq
    cases h
    obtain ⟨us, hus, hrun⟩ := hall _ _ hq
    cases hus with
    | cons h1 h2 => cases h2 with
      | nil => exact ⟨_, h1, by rw [key _ _ (.cons h1 .nil) hrun]; simp⟩
  · rename_i vs hne hq
    cases h
    obtain ⟨us, hus, hrun⟩ := hall _ _ hq
    refine ⟨.tuple us.toArray, .tup hus, ?_⟩
    rw [key _ _ hus hrun]
    have : us.toArray.size ≠ 1 := fun h1 => by
      have hl := hus.length
      have : vs.length = 1 := by rw [hl]; simpa using h1
      match vs, this with
      | [x], _ => exact hne x rfl
    rw [dif_neg this]
  · cases h

theorem run_takeDef {w : World} {b : Nat} (h : w.heap[b]? = some (.deferred (some []))) : (Instr.takeDeferred b).run P w = .ok [] (w.putObj b (.deferred none)) := run_takeDeferred h

theorem Rel.kill {φ : Fi} {st : St} {w : World} (hr : Rel φ st w) {id : Nat} (ho : st.h.get id = some .dfr) :
    Rel φ ⟨st.h.set id (.cells none true []), st.n⟩ (w.putObj (φ.f id).b (.deferred none)) ∧ Fr φ st w φ ⟨st.h.set id (.cells none true []), st.n⟩ (w.putObj (φ.f id).b (.deferred none)) :=
  hr.turn ho rfl rfl rfl rfl rfl rfl World.putObj_size (fun _ hk => World.putObj_heap_other hk) ⟨fun i a ha => by simp at ha, fun h => by cases h⟩

theorem leaves_ok (hT : TOk P T) {n : Nat} {fn : Func} {k : AV → St → Prop} {φ0 : Fi} {st0 : St} {w0 : World} {f : Fm} {tmps : Array Value} {φ : Fi} : ∀ (dm : List Nat) (st : St) (w : World), (∀ id ∈ dm, id < φ.n) → Ext φ0 φ → Rel φ st w → TsR φ f.ts tmps →
    Fr φ0 st0 w0 φ st w → (∃ st' v, killA dm st = some st' ∧ resA T fn.results f st' = some v ∧ k v st') →
    LeavesInM Fence.wide n P fn tmps (CPost φ0 st0 w0 k) (dm.map fun id => { target := .collected (φ.f id).b, args := #[] }) .returning w
  | [], st, w, _, he, hr, ht, hf, ⟨st', v, hk, hv, hkv⟩ => by
    simp only [killA, Option.some.injEq] at hk
    subst hk
    obtain ⟨u, hu, hrun⟩ := res_ok (P := P) hT hr ht hv
    exact ⟨u, hrun, v, u, st, φ, rfl, hkv, hu, he, hr, hf⟩
  | id :: r, st, w, hlt, he, hr, ht, hf, ⟨st', v, hk, hv, hkv⟩ => by
    simp only [killA] at hk
    split at hk
    · rename_i ho
      have hd := hr.obj id _ ho
      obtain ⟨h1, h2⟩ := hr.kill ho
      refine ⟨by simp, .inl ⟨(φ.f id).b, _, rfl, run_takeDef hd, ?_⟩⟩
      exact leaves_ok hT r _ _ (fun i hi => hlt i (List.mem_cons_of_mem _ hi)) he h1 ht (hf.trans h2) ⟨st', v, hk, hv, hkv⟩
    · cases hk

/-- A FUNCTION's CONTRACT OUT OF ITS BODY. -/
theorem callW_of_body (hT : TOk P T) {g : FuncId} {fn : Func} {c : Code} {args : List AV} {st : St} {k : AV → St → Prop} (hf : P.funcs[g]? = some fn) (hb : fn.body = some c)
    (h : SW P none c (retQ T fn k) ⟨Ts.of args fn.ntmps, []⟩ st) : CallW P g args st k := by
  intro φ w cargs n h1 h2
  refine callsIn_of_wp_marks hf hb trivial ?_ rfl
  have hl := h2.length
  have ha : ActR φ ⟨Ts.of args fn.ntmps, []⟩ { tmps := cargs.toArray ++ Array.replicate (fn.ntmps - cargs.toArray.size) undef, defers := [] } := by
    refine ⟨?_, rfl, fun _ h => by cases h⟩
    have := TsR.of h2 fn.ntmps
    simpa [undef] using this
  refine wpIn_mono (h φ w _ n (fun id hi => by cases hi) h1 ha) fun e a' w' hq => ?_
  obtain ⟨f', st', φ', hk, he, hr, ha', hfr⟩ := hq
  cases e with
  | normal => show LeavesInM _ _ _ _ _ _ _ _ _; rw [ha'.dm]; exact leaves_ok hT f'.dm st' w' ha'.lt he hr ha'.ts hfr hk
  | ret => show LeavesInM _ _ _ _ _ _ _ _ _; rw [ha'.dm]; exact leaves_ok hT f'.dm st' w' ha'.lt he hr ha'.ts hfr hk
  | exit id => exact hk.elim
  | goto l => exact hk.elim
  | panic c => exact hk.elim
  | outgrown => exact hk.elim

end Go.Fz

/-
  RANGES OVER FUNCTIONS: the statement, and a call of yield. Own work of the verifier of watercress.
-/
namespace Go.Fz

def setPs : Ts → List (Tmp × AV) → Ts
  | ts, [] => ts
  | ts, (t, a) :: r => setPs (ts.put t a) r

def loopAt (st : St) (id : Nat) : Option ALoop :=
  match st.h.get id with
  | some (.loop r) => some r
  | _ => none
theorem loopAt_get {st : St} {id : Nat} {r : ALoop} (h : loopAt st id = some r) : st.h.get id = some (.loop r) := by
  unfold loopAt at h
  split at h
  · cases h; assumption
  · cases h
def setLoop (st : St) (id : Nat) (r : ALoop) : St := ⟨st.h.set id (.loop r), st.n⟩

variable {P : Program} {T : Ti}

/-- The record turns. -/
theorem Rel.loop {φ : Fi} {st : St} {w : World} (hr : Rel φ st w) {id : Nat} {r r' : ALoop} (ho : loopAt st id = some r) {L L' : Loop} (hL : w.heap[(φ.f id).b]? = some (.loop L))
    (h1 : L'.state = r'.state) (h2 : L'.pending = r'.pending) (h3 : L'.tmps = L.tmps) (h4 : L'.params = L.params) (h5 : L'.assign = L.assign) (h6 : L'.body = L.body) (h7 : L'.defers = L.defers)
    (k3 : r'.tmps = r.tmps) (k4 : r'.params = r.params) (k5 : r'.assign = r.assign) (k6 : r'.body = r.body) (k7 : r'.dfid = r.dfid) :
    Rel φ (setLoop st id r') (w.putObj (φ.f id).b (.loop L')) ∧ Fr φ st w φ (setLoop st id r') (w.putObj (φ.f id).b (.loop L')) := by
  have hg := loopAt_get ho
  obtain ⟨L0, g1, g2, g3, g4, g5, g6, g7, g8, g9⟩ := hr.obj id _ hg
  rw [hL] at g1
  cases g1
  refine hr.turn hg rfl rfl rfl rfl rfl rfl World.putObj_size (fun _ hk => World.putObj_heap_other hk) ⟨L', World.putObj_heap_same (hr.blk id _ hg), h1, h2, ?_, ?_, ?_, ?_, ?_, ?_⟩
  · rw [h3, k3]; exact g4
  · rw [h4, k4]; exact g5
  · rw [h5, k5]; exact g6
  · rw [h6, k6]; exact g7
  · rw [k7]; exact g8
  · rw [h7, k7]; exact g9

theorem setPs_ok {φ : Fi} : ∀ (ps : List Tmp) {as : List AV} {us : List Value} {ts : Ts} {tmps : Array Value}, VRL φ as us → TsR φ ts tmps →
    TsR φ (setPs ts (ps.zip as)) ((ps.zip us).foldl (fun (t : Array Value) (p : Tmp × Value) => t.setIfInBounds p.1 p.2) tmps)
  | [], _, _, _, _, _, ht => by simpa [setPs] using ht
  | p :: ps, _, _, _, _, .nil, ht => by simpa [setPs] using ht
  | p :: ps, _, _, ts, tmps, .cons h t, ht => by
    simp only [List.zip_cons_cons, setPs, List.foldl_cons]
    exact setPs_ok ps t (ht.put p h)

def roundQ (id : Nat) (k : AV → St → Prop) : Exit → Fm → St → Prop
  | .normal, _, st => ∃ r, loopAt st id = some r ∧ k (.lit (.bool true)) (setLoop st id { r with state := .ready, pending := none })
  | .ret, _, st => ∃ r, loopAt st id = some r ∧ k (.lit (.bool false)) (setLoop st id { r with state := .done, pending := some .ret })
  | .exit e, _, st => ∃ r, loopAt st id = some r ∧ k (.lit (.bool false)) (setLoop st id { r with state := .done, pending := some (.exit e) })
  | .goto l, _, st => ∃ r, loopAt st id = some r ∧ k (.lit (.bool false)) (setLoop st id { r with state := .done, pending := some (.goto l) })
  | _, _, _ => False

/-- ONE ROUND: what a call of yield does. -/
theorem YieldW.of_round {id : Nat} {args : List AV} {st : St} {k : AV → St → Prop} {r : ALoop} (ho : loopAt st id = some r) (hlen : args.length = r.params.size)
    (h : SW P (some id) r.assign (thenQ (fun f1 st1 => ∃ r1, loopAt st1 id = some r1 ∧ r1.state = .ready ∧ SW P (some id) r.body (roundQ id k) f1 (setLoop st1 id { r1 with state := .busy })) (fun _ _ _ => False))
      ⟨setPs r.tmps (r.params.toList.zip args), []⟩ st) : YieldW P id args st k := by
  intro φ w cargs n hr hid hargs
  obtain ⟨L, g1, g2, g3, g4, g5, g6, g7, g8, g9⟩ := hr.obj id _ (loopAt_get ho)
  have hl := hargs.length
  refine ⟨_, _, _, _, run_yield g1 (by rw [g5]; simp; omega), ?_⟩
  refine roundIn_of_wpIn (F := Fence.wide) trivial ?_
  rw [g6]
  have htm : TsR φ (setPs r.tmps (r.params.toList.zip args)) ((L.params.zip cargs.toArray).foldl (fun tmps (t, a) => tmps.setIfInBounds t a) L.tmps) := by
    have := setPs_ok (ps := r.params.toList) hargs g4
    rw [g5, ← Array.foldl_toList, Array.toList_zip]
    exact this
  refine wpIn_mono (h φ w { tmps := (L.params.zip cargs.toArray).foldl (fun tmps (t, a) => tmps.setIfInBounds t a) L.tmps, defers := [] } n (fun i hi => by cases hi; exact hid) hr ⟨htm, rfl, fun _ h => by cases h⟩) fun e a1 w1 hq => ?_
  obtain ⟨f1, st1, φ1, hk, he1, hr1, ha1, hf1⟩ := hq
  have hb1 : (φ1.f id).b = (φ.f id).b := by rw [he1.f id hid]
  cases e with
  | normal =>
    obtain ⟨r1, ho1, hs1, hbody⟩ := hk
    obtain ⟨L1, k1, k2, k3, k4, k5, k6, k7, k8, k9⟩ := hr1.obj id _ (loopAt_get ho1)
    rw [hb1] at k1
    have hbr := run_beginRound (P := P) k1 (by rw [k2]; exact hs1)
    obtain ⟨hr2, hf2⟩ := hr1.loop (r' := { r1 with state := .busy }) ho1 (L := L1) (L' := { L1 with state := .busy }) (by rw [hb1]; exact k1) rfl k3 rfl rfl rfl rfl rfl rfl rfl rfl rfl rfl
    rw [hb1] at hr2 hf2
    refine ⟨_, hbr, ?_⟩
    rw [g7]
    have h2 := hbody φ1 _ a1 n (fun i hi => by cases hi; exact Nat.lt_of_lt_of_le hid he1.n) hr2 ha1
    rw [rdB_ext he1 (fun i hi => by cases hi; exact hid)] at h2
    refine wpIn_mono h2 fun e a2 w2 hq2 => ?_
    obtain ⟨f2, st2, φ2, hk2, he2, hr3, ha2, hf3⟩ := hq2
    have hb2 : (φ2.f id).b = (φ.f id).b := by rw [he2.f id (Nat.lt_of_lt_of_le hid he1.n)]; exact hb1
    have fin : ∀ (jump : Option Code) (r2 : ALoop), loopAt st2 id = some r2 → k (.lit (.bool jump.isNone)) (setLoop st2 id { r2 with state := if jump.isNone then .ready else .done, pending := jump }) →
        ∃ v w', (Instr.endRound (φ.f id).b jump).run P w2 = .ok v w' ∧ CPost φ st w k (.returned v) w' := fun jump r2 ho2 hkk => by
      obtain ⟨L2, m1, m2, m3, m4, m5, m6, m7, m8, m9⟩ := hr3.obj id _ (loopAt_get ho2)
      rw [hb2] at m1
      obtain ⟨hr4, hf4⟩ := hr3.loop (r' := { r2 with state := if jump.isNone then .ready else .done, pending := jump }) ho2 (L := L2) (L' := { L2 with state := if jump.isNone then .ready else .done, pending := jump }) (by rw [hb2]; exact m1) rfl rfl rfl rfl rfl rfl rfl rfl rfl rfl rfl rfl
      rw [hb2] at hr4 hf4
      exact ⟨_, _, run_endRound (P := P) jump m1, .lit (.bool jump.isNone), .bool jump.isNone, _, φ2, rfl, hkk, .lit _, he1.trans he2, hr4, hf1.trans (hf2.trans (hf3.trans hf4))⟩
    cases e with
    | normal => obtain ⟨r2, ho2, hkk⟩ := hk2; exact fin none r2 ho2 hkk
    | ret => obtain ⟨r2, ho2, hkk⟩ := hk2; exact fin (some .ret) r2 ho2 hkk
    | exit x => obtain ⟨r2, ho2, hkk⟩ := hk2; exact fin (some (.exit x)) r2 ho2 hkk
    | goto l => obtain ⟨r2, ho2, hkk⟩ := hk2; exact fin (some (.goto l)) r2 ho2 hkk
    | panic c => exact hk2.elim
    | outgrown => exact hk2.elim
  | exit x => exact hk.elim
  | goto l => exact hk.elim
  | ret => exact hk.elim
  | panic c => exact hk.elim
  | outgrown => exact hk.elim

/-- What is asked behind the function that was ranged over. -/
def rangeK (P : Program) (rd : Option Nat) (lid : Nat) (Q : Exit → Fm → St → Prop) (f : Fm) : AV → St → Prop := fun _ st =>
  ∃ r, loopAt st lid = some r ∧ r.state ≠ .busy ∧
    (match r.pending with
     | none => Q .normal f (setLoop st lid { r with state := .exhausted })
     | some c => SW P rd c Q f (setLoop st lid { r with state := .exhausted }))

theorem rangePost_ok {rd : Option Nat} {lid : Nat} {Q : Exit → Fm → St → Prop} {f : Fm} {φ φ1 : Fi} {st st1 : St} {w w1 : World} {a : Act} {n : Nat} (hrd : ∀ id, rd = some id → id < φ.n) (he : Ext φ φ1) (hlid : lid < φ1.n) (ha : ActR φ1 f a) (hf : Fr φ st w φ1 st1 w1)
    {e : Ending} {w' : World} (h : CPost φ1 st1 w1 (rangeK P rd lid Q f) e w') : rangePost (FW (rdB φ rd)) n P (φ1.f lid).b (Lift φ st w Q) a e w' := by
  obtain ⟨v, cv, st2, φ2, rfl, ⟨r, ho, hs, hk⟩, _, he2, hr2, hf2⟩ := h
  obtain ⟨L, g1, g2, g3, g4, g5, g6, g7, g8, g9⟩ := hr2.obj lid _ (loopAt_get ho)
  have hb : (φ2.f lid).b = (φ1.f lid).b := by rw [he2.f lid hlid]
  obtain ⟨hr3, hf3⟩ := hr2.loop (r' := { r with state := .exhausted }) ho (L := L) (L' := { L with state := .exhausted }) g1 rfl g3 rfl rfl rfl rfl rfl rfl rfl rfl rfl rfl
  rw [hb] at g1 hr3 hf3
  have hend := run_endLoop (P := P) g1 (by rw [g2]; exact hs)
  generalize w'.putObj (φ1.f lid).b (.loop { L with state := .exhausted }) = w4 at hr3 hf3 hend
  generalize setLoop st2 lid { r with state := .exhausted } = st3 at hr3 hf3 hk
  refine ⟨_, _, hend, ?_⟩
  rw [g3]
  cases hp : r.pending with
  | none =>
    rw [hp] at hk
    exact ⟨f, _, φ2, hk, he.trans he2, hr3, ha.mono he2, hf.trans (hf2.trans hf3)⟩
  | some c =>
    rw [hp] at hk
    have h4 := hk φ2 _ a n (fun id hi => Nat.lt_of_lt_of_le (hrd id hi) (Nat.le_trans he.n he2.n)) hr3 (ha.mono he2)
    rw [rdB_ext (he.trans he2) hrd] at h4
    exact wpIn_mono h4 fun e a' w' hl => hl.trans (he.trans he2) (hf.trans (hf2.trans hf3))

/-- THE STATEMENT, outside every other one of its kind. -/
theorem SW.rangeFunc {g : Operand} {ps : Array Tmp} {assign body : Code} {Q : Exit → Fm → St → Prop} {f : Fm} {st : St} {gf : FuncId} {first caps : List AV} (hg : Operand.av f.ts g = .fn (.func gf) first caps) (hent : Enters P gf)
    (h : CallW P gf (first ++ [.yld (st.n + 1)] ++ caps) ((st.push .dfr).push (.loop { state := .ready, pending := none, tmps := f.ts, params := ps, assign, body, dfid := st.n }))
      (rangeK P none (st.n + 1) Q { f with dm := st.n :: f.dm })) : SW P none (.rangeFunc g ps assign body) Q f st := by
  intro φ w a n h1 hr ha
  refine wpIn_rangeFunc fun fn _ => ?_
  -- the two objects
  have hp1 := hr.push (.deferred (some [])) .dfr ⟨w.heap.size, 0, 0⟩ rfl (by show _ = _; rw [Fi.push_new]; exact alloc_heap_new' w _) (fun _ h => by cases h)
  have hn1 : (φ.push ⟨w.heap.size, 0, 0⟩).n = φ.n + 1 := rfl
  have hp2 := hp1.1.push (.loop { state := .ready, pending := none, fn, tmps := a.tmps, params := ps, assign, body, defers := w.heap.size }) (.loop { state := .ready, pending := none, tmps := f.ts, params := ps, assign, body, dfid := st.n }) ⟨w.heap.size + 1, 0, 0⟩ (by rw [alloc_size])
    ⟨_, by rw [Fi.push_new]; have := alloc_heap_new' (w.alloc (.deferred (some []))) (.loop { state := .ready, pending := none, fn, tmps := a.tmps, params := ps, assign, body, defers := w.heap.size }); rwa [alloc_size] at this,
     rfl, rfl, (ha.ts.mono ((φ.push_ext _).trans ((φ.push _).push_ext _))), rfl, rfl, rfl, by simp [Fi.push, hr.n]; omega, by
      show w.heap.size = _
      rw [← hr.n, ((φ.push ⟨w.heap.size, 0, 0⟩).push_ext _).f φ.n (by rw [hn1]; omega), Fi.push_new]⟩ (fun _ h => by cases h)
  have he : Ext φ ((φ.push ⟨w.heap.size, 0, 0⟩).push ⟨w.heap.size + 1, 0, 0⟩) := (φ.push_ext _).trans ((φ.push _).push_ext _)
  have hfa : ((φ.push ⟨w.heap.size, 0, 0⟩).push ⟨w.heap.size + 1, 0, 0⟩).f φ.n = ⟨w.heap.size, 0, 0⟩ := by rw [((φ.push ⟨w.heap.size, 0, 0⟩).push_ext _).f φ.n (by rw [hn1]; omega), Fi.push_new]
  have hfb : ((φ.push ⟨w.heap.size, 0, 0⟩).push ⟨w.heap.size + 1, 0, 0⟩).f (φ.n + 1) = ⟨w.heap.size + 1, 0, 0⟩ := Fi.push_new _ _
  have hpn : ((φ.push ⟨w.heap.size, 0, 0⟩).push ⟨w.heap.size + 1, 0, 0⟩).n = φ.n + 2 := rfl
  have ha2 : ActR ((φ.push ⟨w.heap.size, 0, 0⟩).push ⟨w.heap.size + 1, 0, 0⟩) { f with dm := st.n :: f.dm } { a with defers := [{ target := .collected w.heap.size, args := #[] }] ++ a.defers } := by
    have h0 := ha.mono he
    refine ⟨h0.ts, ?_, fun id hi => ?_⟩
    · rw [h0.dm, List.map_cons, ← hr.n, hfa]; rfl
    · rcases List.mem_cons.1 hi with rfl | hi
      · rw [hpn, hr.n]; omega
      · exact h0.lt id hi
  have hgv := opR_of ha.ts g
  rw [hg] at hgv
  obtain ⟨us, vs, hv, hu, hvv⟩ := hgv.fn_inv
  have hyl : VR ((φ.push ⟨w.heap.size, 0, 0⟩).push ⟨w.heap.size + 1, 0, 0⟩) (.yld (st.n + 1)) (.func (.yield (w.heap.size + 1)) #[] #[]) := by
    have := VR.yld (φ := (φ.push ⟨w.heap.size, 0, 0⟩).push ⟨w.heap.size + 1, 0, 0⟩) (φ.n + 1) (by rw [hpn]; omega)
    rw [hfb] at this
    rw [← hr.n]; exact this
  have hcall := h _ _ (us ++ [Value.func (.yield (w.heap.size + 1)) #[] #[]] ++ vs) (n - 1) hp2.1 (((hu.mono he).append (.cons hyl .nil)).append (hvv.mono he))
  have hloop := run_enterLoop_outer (P := P) (w := w) fn a.tmps ps assign body
  generalize (w.alloc (.deferred (some []))).alloc (.loop { state := .ready, pending := none, fn, tmps := a.tmps, params := ps, assign, body, defers := w.heap.size }) = W2 at hp2 hcall hloop
  refine ⟨w.heap.size + 1, _, W2, { target := .fn (.func gf) vs.toArray, args := us.toArray ++ #[Value.func (.yield (w.heap.size + 1)) #[] #[]] }, W2, gf, (us ++ [Value.func (.yield (w.heap.size + 1)) #[] #[]] ++ vs).toArray, W2, hloop, ?_, fun _ _ => trivial, ?_, fun h => (by cases h), ?_⟩
  · have hm : Array.map a.eval #[Operand.const (Value.func (Fn.yield (w.heap.size + 1)) #[] #[])] = #[Value.func (Fn.yield (w.heap.size + 1)) #[] #[]] := by simp [Act.eval]
    simp only [resolve, hv, Deferred.ofValue, Sem.run_pure, hm]
  · simp only [invoke]
    rw [hent]
    congr 2
    apply Array.ext'
    simp
  · refine CallsIn.mono (F := FW none) hcall fun e w' hp => ?_
    have := rangePost_ok (P := P) (n := n) (rd := none) h1 he (by rw [hpn, hr.n]; omega) ha2 (hp1.2.trans hp2.2) hp
    rw [← hr.n, hfb] at this
    exact this

theorem run_enterLoop_inner {w : World} {l : Nat} {r : Loop} (h : w.heap[l]? = some (.loop r)) (fn : FuncId) (tmps : Array Value) (ps : Array Tmp) (assign body : Code) :
    (Instr.enterLoop fn tmps ps assign body (some l)).run P w = .ok (w.heap.size, []) (w.alloc (.loop { state := .ready, pending := none, fn, tmps, params := ps, assign, body, defers := r.defers })) := by
  unfold Instr.enterLoop
  simp only [Sem.run_bind, run_getLoop h, run_newObj_alloc, Result.andThen, Sem.run_pure]

/-- THE STATEMENT, within a round of another one. -/
theorem SW.rangeFuncIn {id0 : Nat} {r0 : ALoop} {g : Operand} {ps : Array Tmp} {assign body : Code} {Q : Exit → Fm → St → Prop} {f : Fm} {st : St} {gf : FuncId} {first caps : List AV} (ho : loopAt st id0 = some r0) (hg : Operand.av f.ts g = .fn (.func gf) first caps) (hent : Enters P gf)
    (h : CallW P gf (first ++ [.yld st.n] ++ caps) (st.push (.loop { state := .ready, pending := none, tmps := f.ts, params := ps, assign, body, dfid := r0.dfid }))
      (rangeK P (some id0) st.n Q f)) : SW P (some id0) (.rangeFunc g ps assign body) Q f st := by
  intro φ w a n h1 hr ha
  have hid0 : id0 < φ.n := h1 id0 rfl
  obtain ⟨L, g1, g2, g3, g4, g5, g6, g7, g8, g9⟩ := hr.obj id0 _ (loopAt_get ho)
  refine wpIn_rangeFunc fun fn _ => ?_
  have hp2 := hr.push (.loop { state := .ready, pending := none, fn, tmps := a.tmps, params := ps, assign, body, defers := L.defers }) (.loop { state := .ready, pending := none, tmps := f.ts, params := ps, assign, body, dfid := r0.dfid }) ⟨w.heap.size, 0, 0⟩ rfl
    ⟨_, by rw [Fi.push_new]; exact alloc_heap_new' w _, rfl, rfl, ha.ts.mono (φ.push_ext _), rfl, rfl, rfl, by rw [Fi.push_n]; exact Nat.lt_succ_of_lt g8, by
      show L.defers = _
      rw [(φ.push_ext _).f r0.dfid g8]; exact g9⟩ (fun _ h => by cases h)
  have he : Ext φ (φ.push ⟨w.heap.size, 0, 0⟩) := φ.push_ext _
  have hfb : (φ.push ⟨w.heap.size, 0, 0⟩).f φ.n = ⟨w.heap.size, 0, 0⟩ := Fi.push_new _ _
  have hpn : (φ.push ⟨w.heap.size, 0, 0⟩).n = φ.n + 1 := rfl
  have hgv := opR_of ha.ts g
  rw [hg] at hgv
  obtain ⟨us, vs, hv, hu, hvv⟩ := hgv.fn_inv
  have hyl : VR (φ.push ⟨w.heap.size, 0, 0⟩) (.yld st.n) (.func (.yield w.heap.size) #[] #[]) := by
    have := VR.yld (φ := φ.push ⟨w.heap.size, 0, 0⟩) φ.n (by rw [hpn]; omega)
    rw [hfb] at this
    rw [← hr.n]; exact this
  have hcall := h _ _ (us ++ [Value.func (.yield w.heap.size) #[] #[]] ++ vs) (n - 1) hp2.1 (((hu.mono he).append (.cons hyl .nil)).append (hvv.mono he))
  have hloop := run_enterLoop_inner (P := P) g1 fn a.tmps ps assign body
  generalize w.alloc (.loop { state := .ready, pending := none, fn, tmps := a.tmps, params := ps, assign, body, defers := L.defers }) = W2 at hp2 hcall hloop
  refine ⟨w.heap.size, _, W2, { target := .fn (.func gf) vs.toArray, args := us.toArray ++ #[Value.func (.yield w.heap.size) #[] #[]] }, W2, gf, (us ++ [Value.func (.yield w.heap.size) #[] #[]] ++ vs).toArray, W2, hloop, ?_, fun _ _ => trivial, ?_, fun h => (by cases h), ?_⟩
  · have hm : Array.map a.eval #[Operand.const (Value.func (Fn.yield w.heap.size) #[] #[])] = #[Value.func (Fn.yield w.heap.size) #[] #[]] := by simp [Act.eval]
    simp only [resolve, hv, Deferred.ofValue, Sem.run_pure, hm]
  · simp only [invoke]
    rw [hent]
    congr 2
    apply Array.ext'
    simp
  · refine CallsIn.mono (F := FW (rdB φ (some id0))) hcall fun e w' hp => ?_
    have := rangePost_ok (P := P) (n := n) (rd := some id0) (a := a) h1 he (by rw [hpn, hr.n]; omega) (ha.mono he) hp2.2 hp
    rw [← hr.n, hfb] at this
    exact this

end Go.Fz

/-
  REGIONS THAT DRAW THEIR ORDER. A light operation may be taken at once, where it yields the same behind whatever may come before it. Own work of the verifier of watercress.
-/
namespace Go.Fz

theorem evL_congr (T : Ti) (h : Hp) {ρ ρ' : Operand → AV} (o : Oper) (hx : ∀ x ∈ o.op.operands, ρ x = ρ' x) : evL T h ρ o = evL T h ρ' o := by
  obtain ⟨dst, op, type, pos, after, guard⟩ := o
  cases op <;> simp only [Op.operands] at hx <;> simp only [evL]
  case makeFunc fn a b =>
    rw [List.map_congr_left (l := a.toList) fun x hm => hx x (by simp [Array.mem_toList_iff.1 hm]), List.map_congr_left (l := b.toList) fun x hm => hx x (by simp [Array.mem_toList_iff.1 hm])]
  case call c =>
    have ha : ∀ x ∈ c.args.toList, ρ x = ρ' x := fun x hm => hx x (by simp [Call.operands, Array.mem_toList_iff.1 hm])
    cases hc : c.callee with
    | builtin b =>
      cases hl : c.args.toList with
      | nil => rfl
      | cons x r =>
        have hx0 : ρ x = ρ' x := ha x (by rw [hl]; simp)
        cases r with
        | nil => cases b <;> first | rfl | (rcases c.argTypes.toList with _ | ⟨t, _ | ⟨t2, r2⟩⟩ <;> simp only [hx0])
        | cons y r =>
          have hy0 : ρ y = ρ' y := ha y (by rw [hl]; simp)
          cases b <;> first | rfl | (cases r <;> simp only [hx0, hy0])
    | value f => rfl
    | invoke r m => rfl
  all_goals (first | rfl | (simp_all; done))

theorem evG_congr (T : Ti) (h : Hp) {ρ ρ' : Operand → AV} (o : Oper) (hx : ∀ x ∈ o.op.operands, ρ x = ρ' x) : evG T h ρ o = evG T h ρ' o := by
  have hL := evL_congr T h o hx
  obtain ⟨dst, op, type, pos, after, guard⟩ := o
  cases op <;> simp only [Op.operands] at hx <;> simp only [evG]
  case build t ps =>
    rw [List.map_congr_left (l := ps.toList) fun p hm => by
      have : ρ p.2 = ρ' p.2 := hx p.2 (by simp only [List.mem_toArray, List.mem_map]; exact ⟨p, hm, rfl⟩)
      rw [this]]
  case slice t x lo hi mx => cases lo <;> cases hi <;> cases mx <;> simp_all
  case binOp b t x y yt => cases b <;> simp only [evG] <;> simp_all
  all_goals (first | exact hL | rfl | (simp_all; done))

theorem av_put {f : Fm} {dst : Option Tmp} {v : AV} {x : Operand} (h : ∀ d, dst = some d → x ≠ .tmp d) : Operand.av (f.put dst v).ts x = Operand.av f.ts x := by
  cases dst with
  | none => rfl
  | some d =>
    cases x with
    | tmp t =>
      have hne : d ≠ t := fun e => h d rfl (e ▸ rfl)
      show (f.ts.put d v).get t = f.ts.get t
      rw [getT_put, if_neg (fun h => hne h.2)]
    | _ => rfl

section
variable {P : Program} {T : Ti} {ops : Array Oper}

theorem evG_put {h : Hp} (o : Oper) (f : Fm) (dst : Option Tmp) (v : AV) (hd : ∀ d, dst = some d → d ∉ o.looksAt ops) :
    evG T h (Operand.av (f.put dst v).ts) o = evG T h (Operand.av f.ts) o :=
  evG_congr T h o fun x hx => av_put fun d hdd hxd => hd d hdd (by
    subst hxd
    exact List.mem_append_left _ (List.mem_filterMap.2 ⟨.tmp d, by simpa using hx, rfl⟩))

theorem wantedA_put (o : Oper) (f : Fm) (dst : Option Tmp) (v : AV) (h : ∀ d, dst = some d → d ∉ o.looksAt ops) :
    wantA ops (f.put dst v).ts o = wantA ops f.ts o := by
  cases dst with
  | none => rfl
  | some d =>
    unfold wantA
    cases hg : o.guard with
    | none => rfl
    | some gw =>
      obtain ⟨g, want⟩ := gw
      have hy : yA ops (f.put (some d) v).ts g = yA ops f.ts g := by
        unfold yA
        cases ht : (ops[g]?).bind (·.dst) with
        | none => rfl
        | some t =>
          have hne : d ≠ t := fun e => h d rfl (by subst e; simp [Oper.looksAt, hg, ht])
          show (match (f.ts.put d v).get t with | .lit (.bool b) => some (some b) | .lit (.tuple _) => some none | _ => none) = _
          rw [getT_put, if_neg (fun h => hne h.2)]
          rfl
      simp only [hy]

/-- What number i yields here, if it is light or not wanted. -/
def lightV (T : Ti) (ops : Array Oper) (h : Hp) (f : Fm) (i : Nat) : Option AV :=
  match ops[i]? with
  | some o => match wantA ops f.ts o with
    | some true => evG T h (Operand.av f.ts) o
    | some false => some undA
    | none => none
  | none => none

theorem lightV_put {h : Hp} {i : Nat} {f : Fm} {dst : Option Tmp} {v : AV} (hd : ∀ o, ops[i]? = some o → ∀ d, dst = some d → d ∉ o.looksAt ops) : lightV T ops h (f.put dst v) i = lightV T ops h f i := by
  unfold lightV
  cases ho : ops[i]? with
  | none => rfl
  | some o => simp only [wantedA_put o f dst v (hd o ho), evG_put o f dst v (hd o ho)]

/-- It yields this, or what is as good. -/
def LV (T : Ti) (ops : Array Oper) (h : Hp) (f : Fm) (i : Nat) (r : AV) : Prop := ∃ r0, lightV T ops h f i = some r0 ∧ Eqv r0 r
theorem LV.of {h : Hp} {f : Fm} {i : Nat} {r : AV} (hl : lightV T ops h f i = some r) : LV T ops h f i r := ⟨r, hl, Eqv.refl r⟩
theorem LV_put {h : Hp} {i : Nat} {f : Fm} {dst : Option Tmp} {v r : AV} (hd : ∀ o, ops[i]? = some o → ∀ d, dst = some d → d ∉ o.looksAt ops) : LV T ops h (f.put dst v) i r ↔ LV T ops h f i r := by
  unfold LV; rw [lightV_put hd]

/-! ### The region's own order -/
def edgesOf (o : Oper) : List Nat := o.after.toList.filterMap fun e => if Region.binds .any e then some e.on else none

/-- M j: the numbers that come before j, as bits. -/
structure Tidy (ops : Array Oper) (M : List Nat) : Prop where
  back : ∀ (j : Nat) (o : Oper), ops[j]? = some o → ∀ e ∈ edgesOf o, e < j
  anc : ∀ (j : Nat) (o : Oper) i, ops[j]? = some o → i < ops.size → (M.getD j 0).testBit i = true → ∃ e ∈ edgesOf o, e = i ∨ (M.getD e 0).testBit i = true
  see : ∀ (i j : Nat) (oi oj : Oper), ops[i]? = some oi → ops[j]? = some oj → i ≠ j → ∀ d, oi.dst = some d → (d ∈ oj.looksAt ops → (M.getD j 0).testBit i = true ∨ (M.getD i 0).testBit j = true) ∧ oj.dst ≠ some d
  self : ∀ (i : Nat) (oi : Oper), ops[i]? = some oi → ∀ d, oi.dst = some d → d ∉ oi.looksAt ops
  plain : ∀ (i : Nat) (oi : Oper), ops[i]? = some oi → (∀ cs b, oi.op ≠ .select cs b) ∧ ∀ c, oi.op ≠ .defer c

def plainB (o : Oper) : Bool := match o.op with | .select .. | .defer _ => false | _ => true

def tidyAt (ops : Array Oper) (M : List Nat) (j : Nat) (o : Oper) : Bool :=
  plainB o && (edgesOf o).all (· < j) &&
  ((List.range ops.size).all fun i => !(M.getD j 0).testBit i || (edgesOf o).any fun e => e == i || (M.getD e 0).testBit i) &&
  ((List.range ops.size).all fun i => match (ops[i]?).bind (·.dst) with
    | some d => (!((o.looksAt ops).contains d) || (i != j && ((M.getD j 0).testBit i || (M.getD i 0).testBit j))) && (i == j || o.dst != some d)
    | none => true)

def tidyB (ops : Array Oper) (M : List Nat) : Bool := (List.range ops.size).all fun j => match ops[j]? with
  | some o => tidyAt ops M j o
  | none => true

def masks (ops : Array Oper) : List Nat := ops.toList.foldl (fun M o => M ++ [(edgesOf o).foldl (fun m e => m ||| (1 <<< e) ||| M.getD e 0) 0]) []

theorem tidy_of {M : List Nat} (h : tidyB ops M = true) : Tidy ops M := by
  have hat : ∀ (j : Nat) (o : Oper), ops[j]? = some o → tidyAt ops M j o = true := fun j o ho => by
    have := List.all_eq_true.1 h j (List.mem_range.2 (Array.getElem?_eq_some_iff.1 ho).1)
    simpa only [ho] using this
  have hsee : ∀ (i j : Nat) (oi oj : Oper), ops[i]? = some oi → ops[j]? = some oj → ∀ d, oi.dst = some d → (d ∈ oj.looksAt ops → i ≠ j ∧ ((M.getD j 0).testBit i = true ∨ (M.getD i 0).testBit j = true)) ∧ (i ≠ j → oj.dst ≠ some d) := fun i j oi oj hi hj d hd => by
    have h1 := hat j oj hj
    simp only [tidyAt, Bool.and_eq_true] at h1
    have h2 := List.all_eq_true.1 h1.2 i (List.mem_range.2 (Array.getElem?_eq_some_iff.1 hi).1)
    simp only [hi, Option.bind_some, hd, Bool.and_eq_true, Bool.or_eq_true, Bool.not_eq_true', bne_iff_ne, beq_iff_eq] at h2
    refine ⟨fun hm => ?_, fun hne => h2.2.resolve_left hne⟩
    rcases h2.1 with h3 | h3
    · rw [List.contains_iff_mem.2 hm] at h3; cases h3
    · exact h3
  refine ⟨fun j o ho e he => ?_, fun j o i ho hi hb => ?_, fun i j oi oj hi hj hne d hd => ⟨fun hm => ((hsee i j oi oj hi hj d hd).1 hm).2, (hsee i j oi oj hi hj d hd).2 hne⟩, fun i oi hi d hd hm => ((hsee i i oi oi hi hi d hd).1 hm).1 rfl, fun i oi hi => ?_⟩
  · have h1 := hat j o ho
    simp only [tidyAt, Bool.and_eq_true] at h1
    simpa using List.all_eq_true.1 h1.1.1.2 e he
  · have h1 := hat j o ho
    simp only [tidyAt, Bool.and_eq_true] at h1
    have h2 := List.all_eq_true.1 h1.1.2 i (List.mem_range.2 hi)
    simp only [hb, Bool.not_true, Bool.false_or, List.any_eq_true, Bool.or_eq_true, beq_iff_eq] at h2
    exact h2
  · have h1 := hat i oi hi
    simp only [tidyAt, Bool.and_eq_true] at h1
    have h2 := h1.1.1.1
    unfold plainB at h2
    exact ⟨fun cs b hc => by simp [hc] at h2, fun c hc => by simp [hc] at h2⟩

/-- What is listed has listed before it what it waits for. -/
def Closed (ops : Array Oper) (listed : Array Bool) : Prop := ∀ (j : Nat) (o : Oper), ops[j]? = some o → listed.getD j false = true → ∀ e ∈ edgesOf o, listed.getD e false = true

theorem mem_edges {o : Oper} {e : Nat} : e ∈ edgesOf o ↔ ∃ x ∈ o.after, Region.binds .any x = true ∧ x.on = e := by
  unfold edgesOf
  rw [List.mem_filterMap]
  constructor
  · rintro ⟨x, hx, h⟩
    split at h
    · rename_i hb; cases h; exact ⟨x, Array.mem_toList_iff.1 hx, hb, rfl⟩
    · cases h
  · rintro ⟨x, hx, hb, rfl⟩
    exact ⟨x, Array.mem_toList_iff.2 hx, by simp [hb]⟩

theorem ready_edges {j : Nat} {listed : Array Bool} (h : j ∈ Region.ready .any ops listed) : ∃ o, ops[j]? = some o ∧ listed.getD j true = false ∧ ∀ e ∈ edgesOf o, listed.getD e false = true := by
  obtain ⟨h0, o, ho, h1⟩ := mem_ready.1 h
  exact ⟨o, ho, h0, fun e he => by obtain ⟨x, hx, hb, rfl⟩ := mem_edges.1 he; exact h1 x hx hb⟩

theorem Closed.set {listed : Array Bool} (hc : Closed ops listed) {j : Nat} (h : j ∈ Region.ready .any ops listed) : Closed ops (listed.setIfInBounds j true) := by
  obtain ⟨o, ho, _, he⟩ := ready_edges h
  intro k ok hok hk e hek
  by_cases hjk : j = k
  · subst hjk
    rw [ho] at hok; cases hok
    exact getD_set_true (he e hek)
  · rw [getD_set_ne false hjk] at hk
    exact getD_set_true (hc k ok hok hk e hek)

theorem listed_lt {listed : Array Bool} {j : Nat} (h : listed.getD j true = false) : listed.getD j false = false := by
  rcases Nat.lt_or_ge j listed.size with h' | h'
  · simpa [h'] using h
  · simp [Array.getElem?_eq_none h']

theorem Closed.anc {M : List Nat} (hM : Tidy ops M) {listed : Array Bool} (hc : Closed ops listed) {i : Nat} (hi : i < ops.size) : ∀ (j : Nat) (o : Oper), ops[j]? = some o → (∀ e ∈ edgesOf o, listed.getD e false = true) → (M.getD j 0).testBit i = true → listed.getD i false = true := by
  intro j
  induction j using Nat.strongRecOn with
  | _ j ih =>
    intro o ho hall hb
    obtain ⟨e, he, h1 | h1⟩ := hM.anc j o i ho hi hb
    · subst h1; exact hall e he
    · have hlt := hM.back j o ho e he
      have hes : e < ops.size := Nat.lt_trans hlt (Array.getElem?_eq_some_iff.1 ho).1
      exact ih e hlt ops[e] (Array.getElem?_eq_getElem hes) (hc e ops[e] (Array.getElem?_eq_getElem hes) (hall e he)) h1

/-! ### Any order, of abstract frames -/
def PendOk (T : Ti) (ops : Array Oper) (pend : List (Nat × AV)) (f : Fm) (h : Hp) : Prop := ∀ p ∈ pend, LV T ops h f p.1 p.2

def dropP (M : List Nat) (j : Nat) (pend : List (Nat × AV)) : List (Nat × AV) := pend.filter fun p => !(M.getD j 0).testBit p.1

variable (P T ops) in
def AnyD (M : List Nat) (rd : Option Nat) (K : Fm → St → Prop) : Nat → List (Nat × AV) → Array Bool → Fm → St → Prop
  | 0, pend, listed, f, st => PendOk T ops pend f st.h ∧ Region.ready .any ops listed = [] ∧ K f st
  | fuel + 1, pend, listed, f, st => PendOk T ops pend f st.h ∧ (Region.ready .any ops listed = [] → K f st) ∧
    ∀ j ∈ Region.ready .any ops listed, ∃ o, ops[j]? = some o ∧ OpsW P rd ops [j] (fun f' st' => ∃ v, f' = f.put o.dst v ∧ AnyD M rd K fuel (dropP M j pend) (listed.setIfInBounds j true) f' st') f st

theorem OpsW.mono {rd : Option Nat} {l : List Nat} {K K' : Fm → St → Prop} {f : Fm} {st : St} (h : OpsW P rd ops l K f st) (hk : ∀ f st, K f st → K' f st) : OpsW P rd ops l K' f st :=
  fun φ w a n Q h1 h2 h3 hQ => h φ w a n Q h1 h2 h3 fun a' w' ⟨f', st', φ', k, r⟩ => hQ a' w' ⟨f', st', φ', hk _ _ k, r⟩

theorem AnyD.pend {M : List Nat} {rd : Option Nat} {K : Fm → St → Prop} {fuel : Nat} {pend : List (Nat × AV)} {listed : Array Bool} {f : Fm} {st : St} (h : AnyD P T ops M rd K fuel pend listed f st) : PendOk T ops pend f st.h := by
  cases fuel <;> exact h.1

theorem AnyD.weaken {M : List Nat} {rd : Option Nat} {K : Fm → St → Prop} : ∀ (fuel : Nat) {pend pend' : List (Nat × AV)} {listed : Array Bool} {f : Fm} {st : St}, AnyD P T ops M rd K fuel pend listed f st → (∀ p ∈ pend', p ∈ pend) → AnyD P T ops M rd K fuel pend' listed f st
  | 0, _, _, _, _, _, h, hs => ⟨fun p hp => h.1 p (hs p hp), h.2⟩
  | fuel + 1, pend, pend', _, _, _, h, hs => ⟨fun p hp => h.1 p (hs p hp), h.2.1, fun j hj => by
      obtain ⟨o, ho, h1⟩ := h.2.2 j hj
      refine ⟨o, ho, h1.mono fun f' st' ⟨v, h2, h3⟩ => ⟨v, h2, AnyD.weaken fuel h3 fun p hp => ?_⟩⟩
      unfold dropP at *
      rw [List.mem_filter] at *
      exact ⟨hs p hp.1, hp.2⟩⟩

/-- One operation, in two frames that look alike to it. -/
theorem wpOpIn_congr {F : Fence} {n : Nat} {Q1 Q2 : Exit → Act → World → Prop} {j : Nat} {o : Oper} {K1 K2 : Act → World → Prop} {a1 a2 : Act} {w : World} (hj : ops[j]? = some o) (hnd : ∀ c, o.op ≠ .defer c)
    (hw : Region.wanted o (yielded ops a1.tmps) = Region.wanted o (yielded ops a2.tmps)) (he : execOp a1.eval o = execOp a2.eval o) (hb : ∀ w, o.about P w a1.eval = o.about P w a2.eval)
    (hK : ∀ cv w', K1 (a1.put o.dst cv) w' → K2 (a2.put o.dst cv) w') (hD : ∀ d w', K1 ({ a1 with defers := d :: a1.defers }.put o.dst undef) w' → K2 ({ a2 with defers := d :: a2.defers }.put o.dst undef) w') (hQ : ∀ e a w, e ≠ .normal → Q1 e a w → Q2 e a2 w) (hl : LetsOut Q1 → LetsOut Q2)
    (h : wpOpIn F n P ops Q1 j K1 a1 w) : wpOpIn F n P ops Q2 j K2 a2 w := by
  unfold wpOpIn at *
  simp only [hj] at *
  rw [hw, hb w] at h
  split
  · rename_i hwn
    simp only [hwn, if_true] at h
    unfold Oper.wpIn at *
    rw [semAt_eq hnd, he, hb w] at h
    rw [semAt_eq hnd]
    refine ⟨h.1, ?_⟩
    obtain ⟨-, h⟩ := h
    generalize (execOp a2.eval o).run P w = r at *
    cases r with
    | ok x w' =>
      cases x <;> simp only [Oper.uponIn] at h ⊢
      case value u => exact hK u _ h
      case skip => exact hK _ _ h
      case defer d => exact hD d _ h
      case enter f args => exact ⟨h.1, CallsIn.mono h.2 fun e w'' he => by
        cases e with
        | returned u => exact hK u _ he
        | panicked c => exact hQ _ _ _ (by simp) he
        | outgrown => exact hl he⟩
      case row row args => exact ⟨h.1, RowsIn.mono h.2 fun u w'' he => hK u _ he⟩
      case round l f tmps assign body => exact ⟨h.1, RoundIn.mono h.2 fun e w'' he => by
        cases e with
        | returned u => exact hK u _ he
        | panicked c => exact hQ _ _ _ (by simp) he
        | outgrown => exact hl he⟩
    | halt x w' =>
      cases x <;> simp only [Oper.uponIn] at h ⊢
      case panic u => exact hQ _ _ _ (by simp) h
  · rename_i hwn
    simp only [hwn] at h
    exact ⟨h.1, hK _ _ h.2⟩

theorem getElem?_put {tmps : List AV} {d : Nat} {v : AV} (h : d < tmps.length) : (tmps.set d v)[d]? = some v := by simp [h]

theorem OpsW.unput {M : List Nat} (hM : Tidy ops M) (hT : TOk P T) {rd : Option Nat} {i j : Nat} {oi oj : Oper} {r : AV} {K : Fm → St → Prop} {f : Fm} {st : St} (hi : ops[i]? = some oi) (hj : ops[j]? = some oj)
    (h1 : ∀ d, oi.dst = some d → d ∉ oj.looksAt ops) (h2 : ∀ d, oi.dst = some d → oj.dst ≠ some d) (hr : LV T ops st.h f i r)
    (h : OpsW P rd ops [j] (fun f' st' => ∃ v, f' = (f.put oi.dst r).put oj.dst v ∧ K (f.put oj.dst v) st') (f.put oi.dst r) st) :
    OpsW P rd ops [j] (fun f' st' => ∃ v, f' = f.put oj.dst v ∧ K f' st') f st := by
  intro φ w a n Q hrd hrel hact hQ
  obtain ⟨u, hu⟩ : ∃ u, VR φ r u := by
    obtain ⟨r0, hr, heq⟩ := hr
    unfold lightV at hr
    simp only [hi] at hr
    split at hr
    · obtain ⟨u, h3, _⟩ := evG_ok (P := P) hT hrel (opR_of hact.ts) hr
      exact ⟨u, heq _ _ h3⟩
    · cases hr; exact ⟨undef, heq _ _ (.lit _)⟩
    · cases hr
  have hp := hM.plain j oj hj
  -- the frame that has i's value already
  let X : Act → World → Prop := Lift φ st w (fun _ f' st' => ∃ v, f' = (f.put oi.dst r).put oj.dst v ∧ K (f.put oj.dst v) st') .normal
  have h3 := h φ w (a.put oi.dst u) n (fun e a w => e = .normal ∧ X a w) hrd hrel (hact.put oi.dst hu) (fun a' w' hl => ⟨rfl, hl⟩)
  rw [wpOpsIn_cons] at h3 ⊢
  refine wpOpIn_congr hj hp.2 (wanted_put oj a oi.dst u h1) (execOp_put oj hp.1 a oi.dst u h1) (fun w => about_put oj w a oi.dst u h1) (fun cv w' hk => ?_) (fun d w' hk => ?_) (fun e a w hne hk => absurd hk.1 hne) (fun hl => ?_) h3
  · obtain ⟨_, f', st', φ', ⟨v, rfl, hk⟩, he, hrel', hact', hf⟩ := hk
    refine hQ _ _ ⟨f.put oj.dst v, st', φ', ⟨v, rfl, hk⟩, he, hrel', ?_, hf⟩
    cases hd : oj.dst with
    | none => exact hact.mono he
    | some d =>
      rw [hd] at hact'
      have hv := hact'.ts.get d
      by_cases hlt : d < f.ts.len
      · refine (hact.mono he).put (some d) ?_
        have hlt' : d < (f.put oi.dst r).ts.len := by cases oi.dst <;> simpa [Fm.put, Ts.put_len] using hlt
        have hg : ((f.put oi.dst r).put (some d) v).ts.get d = v := by
          show ((f.put oi.dst r).ts.put d v).get d = v
          rw [getT_put, if_pos ⟨hlt', rfl⟩]
        rw [hg] at hv
        have hlc : d < (a.put oi.dst u).tmps.size := by
          have h5 := (hact.put oi.dst hu).ts.size
          rw [h5]; exact hlt'
        have : ((a.put oi.dst u).put (some d) cv).tmps.getD d (.tuple #[]) = cv := by
          show ((a.put oi.dst u).tmps.setIfInBounds d cv).getD d (.tuple #[]) = cv
          simp [Array.getD_eq_getD_getElem?, hlc]
        rw [this] at hv
        exact hv
      · have e1 : f.put (some d) v = f := by
          have hb : Nat.blt d f.ts.len = false := by rw [← Bool.not_eq_true, Nat.blt_eq]; exact hlt
          cases f with | mk ts dm => simp only [Fm.put, Ts.put] at hb ⊢; rw [hb]
        have hlc : ¬ d < a.tmps.size := by rw [hact.ts.size]; exact hlt
        have e2 : a.put (some d) cv = a := by
          cases a with | mk tmps defers => simp only [Act.put]; congr 1; exact Array.setIfInBounds_eq_of_size_le (by simpa using hlc)
        rw [e1, e2]
        exact hact.mono he
  · exfalso
    obtain ⟨_, f', st', φ', ⟨v, rfl, hk⟩, he, hrel', hact', hf⟩ := hk
    have e1 := congrArg List.length hact'.dm
    have e2 := congrArg List.length hact.dm
    have e3 : ((f.put oi.dst r).put oj.dst v).dm = f.dm := by cases oi.dst <;> cases oj.dst <;> rfl
    rw [e3] at e1
    cases hdi : oi.dst <;> cases hdj : oj.dst <;> simp [hdi, hdj, Act.put] at e1 e2 <;> omega
  · obtain ⟨a, w, hn, _⟩ := hl
    cases hn

theorem Fm.put_comm (f : Fm) {x y : Option Tmp} (v u : AV) (h : ∀ d, x = some d → y ≠ some d) : (f.put x v).put y u = (f.put y u).put x v := by
  cases x with
  | none => rfl
  | some d =>
    cases y with
    | none => rfl
    | some e =>
      have hne : d ≠ e := fun he => h d rfl (he ▸ rfl)
      simp only [Fm.put]
      rw [Ts.put_comm _ hne]

theorem OpsW.lightV (hT : TOk P T) {rd : Option Nat} {i : Nat} {l : List Nat} {K : Fm → St → Prop} {f : Fm} {st : St} {o : Oper} {r : AV} (ho : ops[i]? = some o) (hr : LV T ops st.h f i r) (h : OpsW P rd ops l K (f.put o.dst r) st) : OpsW P rd ops (i :: l) K f st := by
  obtain ⟨r0, hr, heq⟩ := hr
  unfold Fz.lightV at hr
  simp only [ho] at hr
  split at hr
  · rename_i hw; exact .lightE hT ho hw hr heq h
  · rename_i hw; cases hr; exact .skipE ho hw heq h
  · cases hr

def PL (pend : List (Nat × AV)) (listed : Array Bool) : Prop := ∀ p ∈ pend, listed.getD p.1 false = true

theorem AnyD.take {M : List Nat} (hM : Tidy ops M) (hT : TOk P T) {rd : Option Nat} {K : Fm → St → Prop} {i : Nat} {oi : Oper} {r : AV} (hi : ops[i]? = some oi) : ∀ (fuel : Nat) {pend : List (Nat × AV)} {listed : Array Bool} {f : Fm} {st : St},
    Closed ops listed → PL pend listed → (∀ p ∈ pend, ∀ o, ops[p.1]? = some o → ∀ d, oi.dst = some d → d ∉ o.looksAt ops) → i ∈ Region.ready .any ops listed → LV T ops st.h f i r → AnyD P T ops M rd K fuel ((i, r) :: pend) (listed.setIfInBounds i true) (f.put oi.dst r) st →
    AnyD P T ops M rd K (fuel + 1) pend listed f st := by
  intro fuel
  have his : i < ops.size := (Array.getElem?_eq_some_iff.1 hi).1
  -- what is pending does not look at i
  have hpend : ∀ {pend : List (Nat × AV)} {f : Fm} {h : Hp}, (∀ p ∈ pend, ∀ o, ops[p.1]? = some o → ∀ d, oi.dst = some d → d ∉ o.looksAt ops) → PendOk T ops ((i, r) :: pend) (f.put oi.dst r) h → PendOk T ops pend f h := by
    intro pend f h hpd hp p hpm
    have h1 := hp p (List.mem_cons_of_mem _ hpm)
    rwa [LV_put (fun o ho d hd => hpd p hpm o ho d hd)] at h1
  have hself : ∀ {pend : List (Nat × AV)} {listed : Array Bool} {f : Fm} {st : St} {fuel : Nat}, AnyD P T ops M rd K fuel ((i, r) :: pend) (listed.setIfInBounds i true) (f.put oi.dst r) st → LV T ops st.h f i r →
      ∃ o, ops[i]? = some o ∧ OpsW P rd ops [i] (fun f' st' => ∃ v, f' = f.put o.dst v ∧ AnyD P T ops M rd K fuel (dropP M i pend) (listed.setIfInBounds i true) f' st') f st := fun H hr =>
    ⟨oi, hi, OpsW.lightV hT hi hr (.nil ⟨r, rfl, H.weaken _ fun p hp => List.mem_cons_of_mem _ (List.mem_filter.1 hp).1⟩)⟩
  induction fuel with
  | zero =>
    intro pend listed f st hc hpl hpd hr hl H
    refine ⟨hpend hpd H.pend, fun h => (by rw [h] at hr; cases hr), fun j hj => ?_⟩
    by_cases hji : j = i
    · subst hji; exact hself H hl
    · have := ready_mono hj hji
      rw [H.2.1] at this
      cases this
  | succ fuel ih =>
    intro pend listed f st hc hpl hpd hr hl H
    refine ⟨hpend hpd H.pend, fun h => (by rw [h] at hr; cases hr), fun j hj => ?_⟩
    by_cases hji : j = i
    · subst hji; exact hself H hl
    · obtain ⟨oj, hoj, h1⟩ := H.2.2 j (ready_mono hj hji)
      obtain ⟨oj', hoj', hjun, hje⟩ := ready_edges hj
      rw [hoj] at hoj'; cases hoj'
      obtain ⟨oi', hoi', hiun, hie'⟩ := ready_edges hr
      rw [hi] at hoi'; cases hoi'
      have hnot : (M.getD j 0).testBit i = false := by
        cases hb : (M.getD j 0).testBit i with
        | false => rfl
        | true => have := Closed.anc hM hc his j oj hoj hje hb; rw [listed_lt hiun] at this; cases this
      have hd1 : ∀ d, oi.dst = some d → d ∉ oj.looksAt ops := fun d hd hm => by
        rcases (hM.see i j oi oj hi hoj (Ne.symm hji) d hd).1 hm with h5 | h5
        · rw [hnot] at h5; cases h5
        · have := Closed.anc hM hc (Array.getElem?_eq_some_iff.1 hoj).1 i oi hi hie' h5
          rw [listed_lt hjun] at this; cases this
      have hd2 : ∀ d, oi.dst = some d → oj.dst ≠ some d := fun d hd => (hM.see i j oi oj hi hoj (Ne.symm hji) d hd).2
      refine ⟨oj, hoj, OpsW.unput (K := fun f' st' => AnyD P T ops M rd K (fuel + 1) (dropP M j pend) (listed.setIfInBounds j true) f' st') hM hT hi hoj hd1 hd2 hl (h1.mono fun f' st' ⟨v, hf, h2⟩ => ⟨v, hf, ?_⟩)⟩
      subst hf
      have h3 : dropP M j ((i, r) :: pend) = (i, r) :: dropP M j pend := by unfold dropP; rw [List.filter_cons]; simp only [hnot, Bool.not_false, if_true]
      rw [h3, Array.setIfInBounds_comm _ _ (Ne.symm hji), Fm.put_comm _ _ _ hd2] at h2
      refine ih (hc.set hj) (fun p hp => getD_set_true (hpl p (List.mem_filter.1 hp).1)) (fun p hp => hpd p (List.mem_filter.1 hp).1) (ready_mono hr (Ne.symm hji)) ?_ h2
      have h4 := h2.pend (i, r) (by simp)
      rwa [LV_put (fun o ho d hd => by rw [hi] at ho; cases ho; exact hM.self i oi hi d hd)] at h4

theorem AnyD.done {M : List Nat} {rd : Option Nat} {K : Fm → St → Prop} {pend : List (Nat × AV)} {listed : Array Bool} {f : Fm} {st : St} (hp : PendOk T ops pend f st.h) (hr : Region.ready .any ops listed = []) (h : K f st) : ∀ fuel, AnyD P T ops M rd K fuel pend listed f st
  | 0 => ⟨hp, hr, h⟩
  | _ + 1 => ⟨hp, fun _ => h, by rw [hr]; simp⟩

theorem AnyD.all {M : List Nat} {rd : Option Nat} {K : Fm → St → Prop} {fuel : Nat} {pend : List (Nat × AV)} {listed : Array Bool} {f : Fm} {st : St} {rs : List Nat} (hp : PendOk T ops pend f st.h) (hr : Region.ready .any ops listed = rs) (hne : rs ≠ [])
    (h : ∀ j ∈ rs, ∃ o, ops[j]? = some o ∧ OpsW P rd ops [j] (fun f' st' => ∃ v, f' = f.put o.dst v ∧ AnyD P T ops M rd K fuel (dropP M j pend) (listed.setIfInBounds j true) f' st') f st) : AnyD P T ops M rd K (fuel + 1) pend listed f st :=
  ⟨hp, fun h0 => absurd (hr ▸ h0) hne, hr ▸ h⟩

theorem AnyD.sound {M : List Nat} (hM : Tidy ops M) {rd : Option Nat} {K : Fm → St → Prop} : ∀ (fuel : Nat) {pend : List (Nat × AV)} {listed : Array Bool} {f : Fm} {st : St}, AnyD P T ops M rd K fuel pend listed f st →
    ∀ (φ : Fi) (w : World) (a : Act) (n : Nat) (Q : Exit → Act → World → Prop), (∀ id, rd = some id → id < φ.n) → Rel φ st w → ActR φ f a → (∀ a' w', Lift φ st w (fun _ f' st' => K f' st') .normal a' w' → Q .normal a' w') →
      wpAnyIn (FW (rdB φ rd)) n P .any ops Q fuel listed a w
  | 0, _, _, _, _, h, _, _, _, _, _, _, h2, h3, hQ => ⟨h.2.1, hQ _ _ (Lift.here h.2.2 h2 h3)⟩
  | fuel + 1, pend, listed, f, st, h, φ, w, a, n, Q, h1, h2, h3, hQ => by
    refine ⟨fun hr => hQ _ _ (Lift.here (h.2.1 hr) h2 h3), fun j hj => ?_⟩
    obtain ⟨o, ho, h4⟩ := h.2.2 j hj
    have hp := hM.plain j o ho
    have h5 := h4 φ w a n (fun e a' w' => e = .normal ∧ wpAnyIn (FW (rdB φ rd)) n P .any ops Q fuel (listed.setIfInBounds j true) a' w') h1 h2 h3 (fun a' w' hl => ⟨rfl, by
      obtain ⟨f', st', φ', ⟨v, hf, hk⟩, he, hrel, hact, hfr⟩ := hl
      have h6 := AnyD.sound hM fuel hk φ' w' a' n Q (fun id hi => Nat.lt_of_lt_of_le (h1 id hi) he.n) hrel hact (fun a2 w2 hl2 => hQ a2 w2 (hl2.trans he hfr))
      rwa [rdB_ext he h1] at h6⟩)
    rw [wpOpsIn_cons] at h5
    exact wpOpIn_congr ho hp.2 rfl rfl (fun _ => rfl) (fun cv w' hk => hk.2) (fun d w' hk => hk.2) (fun e a w hne hk => absurd hk.1 hne) (fun hl => by obtain ⟨a, w, hn, _⟩ := hl; cases hn) h5

/-- A region that draws its order. -/
theorem SW.drawn {M : List Nat} (hm : P.follows .mixedOrders = true) {rd : Option Nat} {id : Nat} {Q : Exit → Fm → St → Prop} {f : Fm} {st : St} (hM : Tidy ops M)
    (h : AnyD P T ops M rd (fun f' st' => Q .normal f' st') ops.size [] (Array.replicate ops.size false) f st) : SW P rd (.region id ops true) Q f st := by
  intro φ w a n h1 h2 h3
  refine wpIn_region_any hm ?_
  have hrel : Rel φ st { w with drawn := w.drawn + 1 } := h2.of_heap rfl
  refine AnyD.sound hM ops.size h φ _ a n _ h1 hrel h3 fun a' w' hl => ?_
  obtain ⟨f', st', φ', k, he, hr, ha, hf⟩ := hl
  exact ⟨f', st', φ', k, he, hr, ha, ⟨hf.os, hf.tape, hf.output, hf.size, hf.block, hf.own, hf.zs⟩⟩

theorem closed_nil : Closed ops (Array.replicate ops.size false) := fun j o ho hl => by
  exfalso
  simp only [Array.getD_eq_getD_getElem?, Array.getElem?_replicate] at hl
  split at hl <;> simp at hl

end
end Go.Fz

/-
  A SCOPE through which the run goes without a jump. Own work of the verifier of watercress.
-/
namespace Go.Fz

section
variable {P : Program} {b : Frame} {a : Act} {k : List Item} {cs : List Frame} {w : World}
theorem stepR_scope {c : Code} : step P (lone (b.atR a (.code (.scope c) :: k)) cs w) = .next (lone (b.atR a (.code c :: .inScope c :: k)) cs w) :=
  step_lone_go (by simp [stepG, stepG.exec, Frame.atR])
theorem stepR_inScope {c : Code} : step P (lone (b.atR a (.inScope c :: k)) cs w) = .next (lone (b.atR a k) cs w) :=
  step_lone_go (by simp [stepG, stepG.exec, Frame.atR])
end

def scopeQ (Q : Exit → Fm → St → Prop) : Exit → Fm → St → Prop
  | .goto _, _, _ => False
  | e, f, st => Q e f st

theorem SW.scope {P : Program} {rd : Option Nat} {c : Code} {Q : Exit → Fm → St → Prop} {f : Fm} {st : St} (h : SW P rd c (scopeQ Q) f st) : SW P rd (.scope c) Q f st := by
  intro φ w a n h1 h2 h3 b k cs hro hb hr
  have h0 : (lone (b.atR a (.code (.scope c) :: k)) cs w).fenced P (FW (rdB φ rd)) := fenced_calm hb hr rfl
  obtain ⟨e, a₁, w₁, hq, harr⟩ := h φ w a n h1 h2 h3 b (.inScope c :: k) cs hro hb hr
  obtain ⟨f', st', φ', hk, r⟩ := hq
  cases e with
  | normal => exact ⟨.normal, a₁, w₁, ⟨f', st', φ', hk, r⟩, .head h0 stepR_scope (StepsIn.trans harr (.one (fenced_calm hb hr rfl) stepR_inScope))⟩
  | exit id =>
    have hx : exitTo id (.inScope c :: k) = exitTo id k := by simp [exitTo]
    exact ⟨.exit id, a₁, w₁, ⟨f', st', φ', hk, r⟩, fun k' hk => .head h0 stepR_scope (harr.1 k' (by rw [hx]; exact hk)),
      fun hr' hk => let ⟨k₁, h1, h2⟩ := harr.2 hr' (by rw [hx]; exact hk); ⟨k₁, h1, .head h0 stepR_scope h2⟩⟩
  | goto l => exact hk.elim
  | ret => exact ⟨_, a₁, w₁, ⟨f', st', φ', hk, r⟩, .of_steps (.one h0 stepR_scope) harr⟩
  | panic ch => exact ⟨_, a₁, w₁, ⟨f', st', φ', hk, r⟩, .of_steps (.one h0 stepR_scope) harr⟩
  | outgrown => exact ⟨_, a₁, w₁, ⟨f', st', φ', hk, r⟩, .of_steps (.one h0 stepR_scope) harr⟩

end Go.Fz

/-
  MEMORY IS FROZEN: objects that nobody writes any more become part of the values that name them. PURE FUNCTIONS: what they return is a function of their arguments, and nothing of the state turns. Own work of the verifier of watercress.
-/
namespace Go.Fz

def St.keep (st : St) (p : Nat → Bool) : St := ⟨st.h.filter fun x => p x.1, st.n⟩
theorem Hp.get_filter {p : Nat → Bool} : ∀ {h : Hp} {id : Nat} {o : AObj}, Hp.get (h.filter fun x => p x.1) id = some o → h.get id = some o ∧ p id = true
  | [], id, o, h => by simp [Hp.get] at h
  | (i, x) :: r, id, o, h => by
    simp only [List.filter_cons] at h
    split at h
    · rename_i hp
      simp only [Hp.get] at h ⊢
      split at h
      · rename_i hi; subst hi; rw [if_pos rfl]; exact ⟨h, hp⟩
      · rename_i hi; rw [if_neg hi]; exact Hp.get_filter h
    · rename_i hp
      obtain ⟨h1, h2⟩ := Hp.get_filter h
      have hne : i ≠ id := fun e => hp (by show p i = true; rw [e]; exact h2)
      simp only [Hp.get, if_neg hne]
      exact ⟨h1, h2⟩

/-- What a value is once the objects of D are frozen. -/
def frz (h : Hp) (D : Nat → Bool) : Nat → AV → AV
  | 0, _ => .any
  | n + 1, a => match a with
    | .ptr id off => if D id then (match h.get id with
        | some (.cells _ false cs) => .ip cs.length off (fun k => frz h D n (cs.getD k .any))
        | _ => .any) else .ptr id off
    | .sl id off len sz ex => if D id then (match h.get id with
        | some (.cells _ false cs) => if off + len * sz ≤ cs.length then .isl len sz ex (fun i k => frz h D n (cs.getD (off + i * sz + k) .any)) else .any
        | _ => .any) else .sl id off len sz ex
    | .mp id => if D id then .any else .mp id
    | .yld id => if D id then .any else .yld id
    | .fn f as bs => .fn f (as.map (frz h D n)) (bs.map (frz h D n))
    | .agg cs => .agg (cs.map (frz h D n))
    | .tup vs => .tup (vs.map (frz h D n))
    | a => a

/-- No object that stays may share the memory of one that is frozen. -/
def freeB (h : Hp) (D : Nat → Bool) : Bool := h.all fun x => D x.1 || match x.2.fam with
  | none => true
  | some f => h.all fun y => !(D y.1) || match y.2.fam with
    | none => true
    | some g => !(Nat.beq f g)

theorem Hp.mem_of_get : ∀ {h : Hp} {id : Nat} {o : AObj}, h.get id = some o → (id, o) ∈ h
  | [], id, o, h => by simp [Hp.get] at h
  | (i, x) :: r, id, o, h => by
    simp only [Hp.get] at h
    split at h
    · rename_i hi; subst hi; cases h; exact List.mem_cons_self
    · exact List.mem_cons_of_mem _ (Hp.mem_of_get h)

theorem freeB_ok {h : Hp} {D : Nat → Bool} (hf : freeB h D = true) {i j : Nat} {oi oj : AObj} (hi : h.get i = some oi) (hj : h.get j = some oj) (hdi : D i = false) (hdj : D j = true) : ¬ Mates oi oj := by
  intro ⟨f, h1, h2⟩
  have h3 := List.all_eq_true.1 hf _ (Hp.mem_of_get hi)
  simp only [hdi, h1, Bool.false_or] at h3
  have h4 := List.all_eq_true.1 h3 _ (Hp.mem_of_get hj)
  simp only [hdj, h2, Bool.not_true, Bool.false_or, Bool.not_eq_true'] at h4
  have : Nat.beq f f = true := Nat.beq_refl f
  rw [this] at h4
  cases h4

open Classical in
/-- The blocks that come to be frozen. -/
noncomputable def zOf (φ : Fi) (h : Hp) (D : Nat → Bool) (w : World) (b : Nat) : Option (Nat → Option Value) :=
  match φ.z b with
  | some c => some c
  | none => if ∃ id fm cs, D id = true ∧ h.get id = some (.cells fm false cs) ∧ (φ.f id).b = b then some fun i => w.cell? ⟨b, i, none⟩ else none

theorem zOf_old {φ : Fi} {h : Hp} {D : Nat → Bool} {w : World} {b : Nat} {c : Nat → Option Value} (hb : φ.z b = some c) : zOf φ h D w b = some c := by unfold zOf; rw [hb]

theorem zOf_new {φ : Fi} {st : St} {w : World} (hr : Rel φ st w) {D : Nat → Bool} {id : Nat} {fm : Option Nat} {cs : List AV} (hd : D id = true) (ho : st.h.get id = some (.cells fm false cs)) :
    zOf φ st.h D w (φ.f id).b = some fun i => w.cell? ⟨(φ.f id).b, i, none⟩ := by
  unfold zOf
  cases hz : φ.z (φ.f id).b with
  | some c => exact absurd rfl ((hr.froz _ c hz).2.2 id _ ho rfl)
  | none => simp only; rw [if_pos ⟨id, fm, cs, hd, ho, rfl⟩]

theorem zOf_inv {φ : Fi} {h : Hp} {D : Nat → Bool} {w : World} {b : Nat} {c : Nat → Option Value} (hb : zOf φ h D w b = some c) :
    φ.z b = some c ∨ (c = fun i => w.cell? ⟨b, i, none⟩) ∧ ∃ id fm cs, D id = true ∧ h.get id = some (.cells fm false cs) ∧ (φ.f id).b = b := by
  unfold zOf at hb
  split at hb
  · rename_i c' hc; cases hb; exact .inl hc
  · split at hb
    · rename_i hx; cases hb; exact .inr ⟨rfl, hx⟩
    · cases hb

noncomputable def Fi.froz (φ : Fi) (h : Hp) (D : Nat → Bool) (w : World) : Fi := ⟨φ.f, φ.n, zOf φ h D w⟩
theorem Fi.froz_ext (φ : Fi) (h : Hp) (D : Nat → Bool) (w : World) : Ext φ (φ.froz h D w) := ⟨Nat.le_refl _, fun _ _ => rfl, fun _ _ hb => zOf_old hb⟩

theorem Rel.freeze {φ : Fi} {st : St} {w : World} (hr : Rel φ st w) {D : Nat → Bool} (hf : freeB st.h D = true) :
    Rel (φ.froz st.h D w) (st.keep fun i => !D i) w ∧ Fr φ st w (φ.froz st.h D w) (st.keep fun i => !D i) w := by
  have hget : ∀ id o, (st.keep fun i => !D i).h.get id = some o → st.h.get id = some o ∧ D id = false := fun id o h => by
    obtain ⟨h1, h2⟩ := Hp.get_filter (p := fun i => !D i) h
    exact ⟨h1, by simpa using h2⟩
  refine ⟨⟨hr.n, fun id o h => hr.lt id o (hget id o h).1, fun id o h => hr.blk id o (hget id o h).1, fun id o h => ?_, fun i j oi oj hi hj => hr.sep i j oi oj (hget i oi hi).1 (hget j oj hj).1,
    fun id o f h => hr.fam id o f (hget id o h).1, fun b c hb => ?_⟩, ⟨rfl, rfl, rfl, Nat.le_refl _, fun _ _ _ => rfl, fun k ⟨id, o, h, ho, hb⟩ => .inl ⟨id, o, (hget id o h).1, ho, hb⟩, fun b c hb => ?_⟩⟩
  · have h1 := (hget id o h).1
    exact (hr.obj id o h1).same (φ.froz_ext _ _ _) (by rw [hr.n]; exact hr.lt id o h1) rfl
  · rcases zOf_inv hb with h | ⟨rfl, id, fm, cs, hd, ho, rfl⟩
    · obtain ⟨h1, h2, h3⟩ := hr.froz b c h
      exact ⟨h1, h2, fun id o h4 => h3 id o (hget id o h4).1⟩
    · refine ⟨hr.blk id _ ho, fun i v hv => hv, fun j oj hj hown hbb => ?_⟩
      obtain ⟨h1, h2⟩ := hget j oj hj
      have hji : j ≠ id := fun e => by subst e; rw [hd] at h2; cases h2
      exact freeB_ok hf h1 ho h2 hd (hr.sep j id oj _ h1 ho hji hown hbb).1
  · rcases zOf_inv hb with h | ⟨_, id, fm, cs, hd, ho, rfl⟩
    · exact .inl h
    · exact .inr (.inl ⟨id, _, ho, rfl, rfl⟩)

theorem frz_ok {φ : Fi} {st : St} {w : World} (hr : Rel φ st w) {D : Nat → Bool} : ∀ (n : Nat) {a : AV} {u : Value}, VR φ a u → VR (φ.froz st.h D w) (frz st.h D n a) u
  | 0, _, _, _ => .any _
  | n + 1, a, u, h => by
    have hl : ∀ {as : List AV} {us : List Value}, VRL φ as us → VRL (φ.froz st.h D w) (as.map (frz st.h D n)) us := fun {as} => by
      induction as with
      | nil => intro us h; cases h; exact .nil
      | cons a as ih => intro us h; cases h with | cons h t => exact .cons (frz_ok hr n h) (ih t)
    have hm := h.mono (φ.froz_ext st.h D w)
    unfold frz
    split
    · rename_i id off
      split
      · rename_i hd
        obtain ⟨rfl, hid⟩ := h.ptr_inv
        split
        · rename_i fm cs ho
          have hobj := (hr.obj id _ ho).1
          have hc : ∀ k, k < cs.length → ∃ v, w.cell? ⟨(φ.f id).b, (φ.f id).o + k, none⟩ = some v ∧ VR φ (cs.getD k .any) v := fun k hk => by
            obtain ⟨v, h1, h2⟩ := hobj k cs[k] (List.getElem?_eq_getElem hk)
            exact ⟨v, h1, by simpa [hk] using h2⟩
          refine .ip cs.length off _ (φ.f id).b (φ.f id).o _ (fun k => (w.cell? ⟨(φ.f id).b, (φ.f id).o + k, none⟩).getD undef) (zOf_new hr hd ho) (fun j hj => ?_) (fun j hj => ?_)
          · obtain ⟨v, h1, _⟩ := hc j hj; simp [h1]
          · obtain ⟨v, h1, h2⟩ := hc j hj
            simp only [h1, Option.getD_some]
            exact frz_ok hr n h2
        · exact .any _
      · exact hm
    · rename_i id off len sz ex
      split
      · rename_i hd
        obtain ⟨cap, rfl, hid, hcap, hex, hbnd⟩ := h.sl_inv
        split
        · rename_i fm cs ho
          split
          · rename_i hlen
            have hobj := (hr.obj id _ ho).1
            have hk : ∀ i k, i < len → k < sz → off + i * sz + k < cs.length := fun i k hi hk => by
              have := Nat.mul_le_mul_right sz (show i + 1 ≤ len from hi)
              rw [Nat.add_mul] at this
              omega
            have hc : ∀ i k, i < len → k < sz → ∃ v, w.cell? ⟨(φ.f id).b, (φ.f id).o + off + i * sz + k, none⟩ = some v ∧ VR φ (cs.getD (off + i * sz + k) .any) v := fun i k hi hkk => by
              have hlt := hk i k hi hkk
              obtain ⟨v, h1, h2⟩ := hobj (off + i * sz + k) _ (List.getElem?_eq_getElem hlt)
              exact ⟨v, by rw [← h1]; congr 2; omega, by simpa [hlt] using h2⟩
            refine .isl len sz ex _ (φ.f id).b ((φ.f id).o + off) cap _ (fun i k => (w.cell? ⟨(φ.f id).b, (φ.f id).o + off + i * sz + k, none⟩).getD undef) (zOf_new hr hd ho) (fun i k hi hkk => ?_) (fun i k hi hkk => ?_) hcap hex
            · obtain ⟨v, h1, _⟩ := hc i k hi hkk; simp [h1]
            · obtain ⟨v, h1, h2⟩ := hc i k hi hkk
              simp only [h1, Option.getD_some]
              exact frz_ok hr n h2
          · exact .any _
        · exact .any _
      · exact hm
    · split
      · exact .any _
      · exact hm
    · split
      · exact .any _
      · exact hm
    · obtain ⟨us, vs, rfl, h1, h2⟩ := h.fn_inv
      exact .fn _ (hl h1) (hl h2)
    · obtain ⟨us, rfl, h1⟩ := h.agg_inv
      exact .agg (hl h1)
    · obtain ⟨us, rfl, h1⟩ := h.tup_inv
      exact .tup (hl h1)
    · exact hm

def litB : AV → Bool
  | .lit _ | .sb _ | .any => true
  | _ => false
theorem frz_lits {h : Hp} {D : Nat → Bool} {m : Nat} {l : List AV} (hl : l.all litB = true) (j : Nat) : frz h D (m + 1) (l.getD j .any) = l.getD j .any := by
  rw [List.getD_eq_getElem?_getD]
  cases hc : l[j]? with
  | none => rfl
  | some a =>
    have := List.all_eq_true.1 hl a (List.mem_of_getElem? hc)
    simp only [Option.getD_some]
    cases a <;> first | rfl | cases this

/-! ### Values that name no object from number n on -/
def Below (n : Nat) (a : AV) : Prop := ∀ (φ : Fi) (u : Value), VR φ a u → VR ⟨φ.f, n, φ.z⟩ a u
theorem Below.any {n : Nat} : Below n .any := fun _ _ _ => .any _
theorem Below.lit {n : Nat} {v : Value} : Below n (.lit v) := fun _ _ h => by cases h; exact .lit _
theorem Below.ptr {n id off : Nat} (h : id < n) : Below n (.ptr id off) := fun φ _ hv => by cases hv; exact .ptr (φ := ⟨φ.f, n, φ.z⟩) id off h
theorem Below.sl {n id off len sz : Nat} {ex : Bool} (h : id < n) : Below n (.sl id off len sz ex) := fun φ _ hv => by
  cases hv with
  | sl _ _ _ _ _ cap h1 h2 h3 h4 => exact .sl (φ := ⟨φ.f, n, φ.z⟩) id off len sz ex cap h h2 h3 h4
theorem Below.yld {n id : Nat} (h : id < n) : Below n (.yld id) := fun φ _ hv => by cases hv; exact .yld (φ := ⟨φ.f, n, φ.z⟩) id h
theorem Below.mp {n id : Nat} (h : id < n) : Below n (.mp id) := fun φ _ hv => by cases hv; exact .mp (φ := ⟨φ.f, n, φ.z⟩) id h
theorem Below.list {n : Nat} {φ : Fi} : ∀ {as : List AV} {us : List Value}, (∀ a ∈ as, Below n a) → VRL φ as us → VRL ⟨φ.f, n, φ.z⟩ as us
  | [], _, _, h => by cases h; exact .nil
  | a :: as, _, hb, h => by
    cases h with
    | cons h t => exact .cons (hb a List.mem_cons_self _ _ h) (Below.list (fun x hx => hb x (List.mem_cons_of_mem _ hx)) t)
theorem Below.agg {n : Nat} {cs : List AV} (h : ∀ a ∈ cs, Below n a) : Below n (.agg cs) := fun φ _ hv => by
  obtain ⟨us, rfl, h1⟩ := hv.agg_inv
  exact .agg (Below.list h h1)
theorem Below.tup {n : Nat} {cs : List AV} (h : ∀ a ∈ cs, Below n a) : Below n (.tup cs) := fun φ _ hv => by
  obtain ⟨us, rfl, h1⟩ := hv.tup_inv
  exact .tup (Below.list h h1)
theorem Below.fn {n : Nat} {f : Fn} {as bs : List AV} (h : ∀ a ∈ as, Below n a) (k : ∀ a ∈ bs, Below n a) : Below n (.fn f as bs) := fun φ _ hv => by
  obtain ⟨us, vs, rfl, h1, h2⟩ := hv.fn_inv
  exact .fn _ (Below.list h h1) (Below.list k h2)
theorem Below.isl {n len sz : Nat} {ex : Bool} {g : Nat → Nat → AV} (h : ∀ i k, i < len → k < sz → Below n (g i k)) : Below n (.isl len sz ex g) := fun φ _ hv => by
  cases hv with
  | isl _ _ _ _ b o cap c us hz hc hus hcap hex => exact .isl (φ := ⟨φ.f, n, φ.z⟩) len sz ex g b o cap c us hz hc (fun i k hi hk => h i k hi hk _ _ (hus i k hi hk)) hcap hex
  | isl0 => exact .isl0 _ _ _
theorem Below.ip {n sz k : Nat} {e : Nat → AV} (h : ∀ j, j < sz → Below n (e j)) : Below n (.ip sz k e) := fun φ _ hv => by
  cases hv with
  | ip _ _ _ b o c us hz hc hus => exact .ip (φ := ⟨φ.f, n, φ.z⟩) sz k e b o c us hz hc (fun j hj => h j hj _ _ (hus j hj))

theorem Below.sb {n : Nat} {b : Bool} : Below n (.sb b) := fun _ _ h => by cases h; exact .sb _
def AllB (n : Nat) : List AV → Prop
  | [] => True
  | a :: l => Below n a ∧ AllB n l
theorem AllB.ok {n : Nat} : ∀ {l : List AV}, AllB n l → ∀ a ∈ l, Below n a
  | [], _, a, h => by cases h
  | x :: l, h, a, ha => by
    rcases List.mem_cons.1 ha with rfl | ha
    · exact h.1
    · exact h.2.ok a ha

theorem Eqv.any {a : AV} : Eqv a .any := fun _ _ _ => .any _
theorem Eqv.bool {b c : Bool} (h : b = c) : Eqv (.lit (.bool b)) (.sb c) := fun _ _ hv => by subst h; cases hv; exact .sb _
theorem Eqv.sb {b c : Bool} (h : b = c) : Eqv (.sb b) (.sb c) := Eqv.of (by rw [h])
theorem Eqv.lit {b c : Bool} (h : b = c) : Eqv (.sb b) (.lit (.bool c)) := fun _ _ hv => by subst h; cases hv; exact .lit _
theorem Eqv.int {k : IntKind} {x y : Int} (h : x = y) : Eqv (.lit (.int k x)) (.lit (.int k y)) := Eqv.of (by rw [h])
theorem Eqv.isl {len len' sz : Nat} {ex : Bool} {g g' : Nat → Nat → AV} (hl : len = len') (h : ∀ i k, i < len → k < sz → Eqv (g i k) (g' i k)) : Eqv (.isl len sz ex g) (.isl len' sz ex g') := fun φ _ hv => by
  subst hl
  cases hv with
  | isl _ _ _ _ b o cap c us hz hc hus hcap hex => exact .isl len sz ex g' b o cap c us hz hc (fun i k hi hk => h i k hi hk _ _ (hus i k hi hk)) hcap hex
  | isl0 => exact .isl0 _ _ _
inductive Eqvs : List AV → List AV → Prop
  | nil : Eqvs [] []
  | cons {a b : AV} {as bs : List AV} (h : Eqv a b) (t : Eqvs as bs) : Eqvs (a :: as) (b :: bs)
theorem Eqvs.ok {φ : Fi} : ∀ {as bs : List AV} {us : List Value}, Eqvs as bs → VRL φ as us → VRL φ bs us
  | _, _, _, .nil, h => h
  | _, _, _, .cons h t, hv => by cases hv with | cons h1 h2 => exact .cons (h _ _ h1) (t.ok h2)
theorem Eqv.agg {as bs : List AV} (h : Eqvs as bs) : Eqv (.agg as) (.agg bs) := fun _ _ hv => by
  obtain ⟨us, rfl, h1⟩ := hv.agg_inv
  exact .agg (h.ok h1)
theorem Eqv.tup {as bs : List AV} (h : Eqvs as bs) : Eqv (.tup as) (.tup bs) := fun _ _ hv => by
  obtain ⟨us, rfl, h1⟩ := hv.tup_inv
  exact .tup (h.ok h1)

theorem Eqv.fn {f : Fn} {as bs as' bs' : List AV} (h : Eqvs as as') (k : Eqvs bs bs') : Eqv (.fn f as bs) (.fn f as' bs') := fun _ _ hv => by
  obtain ⟨us, vs, rfl, h1, h2⟩ := hv.fn_inv
  exact .fn _ (h.ok h1) (k.ok h2)
theorem Eqv.ip {sz k : Nat} {e e' : Nat → AV} (h : ∀ j, j < sz → Eqv (e j) (e' j)) : Eqv (.ip sz k e) (.ip sz k e') := fun φ _ hv => by
  cases hv with
  | ip _ _ _ b o c us hz hc hus => exact .ip sz k e' b o c us hz hc (fun j hj => h j hj _ _ (hus j hj))

/-! ### Pure functions -/
variable {P : Program} {T : Ti}

/-- Whatever the state, the function returns r, and the state stays. -/
structure Pure (P : Program) (g : FuncId) (args : List AV) (r : AV) : Prop where
  ent : Enters P g
  call : ∀ st, CallW P g args st (fun v st' => v = r ∧ st' = st)

theorem Pure.eqv {g : FuncId} {args args' : List AV} {r : AV} (h : Pure P g args' r) (he : Eqvs args args') : Pure P g args r :=
  ⟨h.ent, fun st φ w cargs n h1 h2 => h.call st φ w cargs n h1 (he.ok h2)⟩
theorem Pure.res {g : FuncId} {args : List AV} {r r' : AV} (h : Pure P g args r) (he : Eqv r r') : Pure P g args r' :=
  ⟨h.ent, fun st φ w cargs n h1 h2 => (h.call st φ w cargs n h1 h2).mono fun e w' ⟨v, cv, st', φ', he', ⟨hv, hs⟩, hr, hx, hrel, hf⟩ => ⟨r', cv, st', φ', he', ⟨rfl, hs⟩, he _ _ (by rw [← hv]; exact hr), hx, hrel, hf⟩⟩
theorem pure_of_call {g : FuncId} {args : List AV} {r : AV} {m : Nat} (hent : Enters P g) (ha : AllB 0 args) (hr : Below 0 r)
    (h : CallW P g args ⟨[], 0⟩ (fun v st' => Eqv (frz st'.h (fun _ => true) m v) r)) : Pure P g args r := by
  refine ⟨hent, fun st φ w cargs n hrel hargs => ?_⟩
  have hrel0 : Rel ⟨φ.f, 0, φ.z⟩ ⟨[], 0⟩ w := ⟨rfl, fun _ _ h => by simp [Hp.get] at h, fun _ _ h => by simp [Hp.get] at h, fun _ _ h => by simp [Hp.get] at h, fun _ _ _ _ h => by simp [Hp.get] at h, fun _ _ _ h => by simp [Hp.get] at h,
    fun b c hb => ⟨(hrel.froz b c hb).1, (hrel.froz b c hb).2.1, fun _ _ h => by simp [Hp.get] at h⟩⟩
  refine (h ⟨φ.f, 0, φ.z⟩ w cargs n hrel0 (Below.list ha.ok hargs)).mono fun e w1 hp => ?_
  obtain ⟨v, cv, st1, φ1, rfl, hv, hvr, hext, hrel1, hfr⟩ := hp
  have hfree : freeB st1.h (fun _ => true) = true := List.all_eq_true.2 fun x _ => by simp
  obtain ⟨hrel2, hfr2⟩ := hrel1.freeze hfree
  have hvr2 := frz_ok (D := fun _ => true) hrel1 m hvr
  replace hvr2 := hv _ _ hvr2
  have hfr3 := hfr.trans hfr2
  have hnone : ∀ b, ¬ Owns ⟨φ.f, 0, φ.z⟩ ⟨[], 0⟩ b := fun b ⟨id, o, h, _⟩ => by simp [Hp.get] at h
  have hzs : ∀ b c, zOf φ1 st1.h (fun _ => true) w1 b = some c → φ.z b = some c ∨ w.heap.size ≤ b := fun b c hb => (hfr3.zs b c hb).elim .inl fun h => h.elim (fun ho => absurd ho (hnone b)) .inr
  have hext3 : Ext φ ⟨φ.f, φ.n, zOf φ1 st1.h (fun _ => true) w1⟩ := ⟨Nat.le_refl _, fun _ _ => rfl, fun b c hb => zOf_old (hext.z b c hb)⟩
  have hsame : ∀ k, k < w.heap.size → w1.heap[k]? = w.heap[k]? := fun k hk => hfr3.block k hk (hnone k)
  refine ⟨r, cv, st, ⟨φ.f, φ.n, zOf φ1 st1.h (fun _ => true) w1⟩, rfl, ⟨rfl, rfl⟩, ?_, hext3, ?_, ?_⟩
  · have h1 := hr _ _ hvr2
    have h1' : VR ⟨φ1.f, 0, zOf φ1 st1.h (fun _ => true) w1⟩ r cv := h1
    exact VR.mono (φ := ⟨φ1.f, 0, zOf φ1 st1.h (fun _ => true) w1⟩) (φ' := ⟨φ.f, φ.n, zOf φ1 st1.h (fun _ => true) w1⟩) ⟨Nat.zero_le _, fun id hid => absurd hid (Nat.not_lt_zero id), fun b c hb => hb⟩ h1'
  · refine ⟨hrel.n, hrel.lt, fun id o ho => Nat.lt_of_lt_of_le (hrel.blk id o ho) hfr3.size, fun id o ho => (hrel.obj id o ho).same hext3 (by rw [hrel.n]; exact hrel.lt id o ho) (hsame _ (hrel.blk id o ho)), hrel.sep, hrel.fam, fun b c hb => ?_⟩
    obtain ⟨h1, h2, _⟩ := hrel2.froz b c hb
    refine ⟨h1, h2, fun id o ho hown hbb => ?_⟩
    rcases hzs b c hb with h3 | h3
    · exact (hrel.froz b c h3).2.2 id o ho hown hbb
    · have := hrel.blk id o ho
      have hbb' : (φ.f id).b = b := hbb
      omega
  · exact ⟨hfr3.os, hfr3.tape, hfr3.output, hfr3.size, fun k hk _ => hsame k hk, fun k hk => .inl hk, fun b c hb => (hzs b c hb).elim .inl fun h => .inr (.inr h)⟩

theorem pure_of_body (hT : TOk P T) {g : FuncId} {fn : Func} {c : Code} {args : List AV} {r : AV} (m : Nat) (hf : P.funcs[g]? = some fn) (hent : Enters P g) (hb : fn.body = some c) (ha : AllB 0 args) (hr : Below 0 r)
    (h : SW P none c (retQ T fn (fun v st' => Eqv (frz st'.h (fun _ => true) m v) r)) ⟨Ts.of args fn.ntmps, []⟩ ⟨[], 0⟩) : Pure P g args r :=
  pure_of_call hent ha hr (callW_of_body hT hf hb h)

theorem OpsW.pure {rd : Option Nat} {ops : Array Oper} {i : Nat} {l : List Nat} {K : Fm → St → Prop} {f : Fm} {st : St} {o : Oper} {g : FuncId} {first caps as : List AV} {r : AV} (hp : Pure P g (first ++ as ++ caps) r) (ho : ops[i]? = some o)
    (hw : wantA ops f.ts o = some true) (hc : callO (Operand.av f.ts) o = some (.fn (.func g) first caps, as)) (h : OpsW P rd ops l K (f.put o.dst r) st) : OpsW P rd ops (i :: l) K f st :=
  OpsW.call ho hw hc (show ApplyW P (.fn (.func g) first caps) as st _ from ⟨hp.ent, (hp.call st).mono fun v st' ⟨h1, h2⟩ => by subst h1; subst h2; exact h⟩)

end Go.Fz

/-
  RULES TO WALK BY: what is no more wanted is forgotten, loops, drawn regions. Own work of the verifier of watercress.
-/
namespace Go.Fz

variable {P : Program} {T : Ti}

/-! ### To forget -/
def ObjBelow (n : Nat) : AObj → Prop
  | .cells fm _ cs => (∀ a ∈ cs, Below n a) ∧ ∀ f, fm = some f → f < n
  | .loop r => (∀ i, Below n (r.tmps.get i)) ∧ r.dfid < n
  | .dfr => True
  | _ => False

structure Weak (n : Nat) (f1 : Fm) (st1 : St) (f2 : Fm) (st2 : St) : Prop where
  len : f2.ts.len = f1.ts.len
  dm : f2.dm = f1.dm
  dmlt : ∀ id ∈ f2.dm, id < st2.n
  get : ∀ i, f2.ts.get i = .any ∨ (f2.ts.get i = f1.ts.get i ∧ (st2.n = st1.n ∨ Below st2.n (f1.ts.get i)))
  lo : n ≤ st2.n
  hi : st2.n ≤ st1.n
  obj : ∀ id o, st2.h.get id = some o → st1.h.get id = some o ∧ id < st2.n ∧ (st2.n = st1.n ∨ ObjBelow st2.n o)

def cutN (φ : Fi) (n : Nat) : Fi := ⟨φ.f, n, φ.z⟩

theorem ObjR.below {φ : Fi} {w : World} {id n : Nat} {o : AObj} (hb : ObjBelow n o) (h : ObjR φ w id o) : ObjR (cutN φ n) w id o := by
  cases o with
  | cells fm ro cs =>
    exact ⟨fun i a ha => by
      obtain ⟨v, h1, h2⟩ := h.1 i a ha
      exact ⟨v, h1, hb.1 a (List.mem_of_getElem? ha) _ _ h2⟩, h.2⟩
  | loop r =>
    obtain ⟨L, h1, h2, h3, h4, h5, h6, h7, h8, h9⟩ := h
    exact ⟨L, h1, h2, h3, ⟨h4.size, fun i => hb.1 i _ _ (h4.get i)⟩, h5, h6, h7, hb.2, h9⟩
  | dfr => exact h
  | map es clock => exact hb.elim
  | iter a b c d => exact hb.elim

theorem Weak.ok {n : Nat} {f1 f2 : Fm} {st1 st2 : St} (hw : Weak n f1 st1 f2 st2) {φ : Fi} {w : World} {a : Act} (hr : Rel φ st1 w) (ha : ActR φ f1 a) :
    Rel (cutN φ st2.n) st2 w ∧ ActR (cutN φ st2.n) f2 a ∧ Fr φ st1 w (cutN φ st2.n) st2 w := by
  have hsame : st2.n = st1.n → cutN φ st2.n = φ := fun h => by cases φ; simp only [cutN, h, ← hr.n]
  refine ⟨⟨rfl, fun id o h => (hw.obj id o h).2.1, fun id o h => hr.blk id o (hw.obj id o h).1, fun id o h => ?_, fun i j oi oj hi hj => hr.sep i j oi oj (hw.obj i oi hi).1 (hw.obj j oj hj).1, fun id o f h hf => ?_, fun b c hb => ?_⟩, ⟨⟨?_, fun i => ?_⟩, ?_, hw.dmlt⟩,
    ⟨rfl, rfl, rfl, Nat.le_refl _, fun _ _ _ => rfl, fun k ⟨id, o, h, ho, hb⟩ => .inl ⟨id, o, (hw.obj id o h).1, ho, hb⟩, fun b c hb => .inl hb⟩⟩
  · obtain ⟨h1, h2, h3⟩ := hw.obj id o h
    rcases h3 with h3 | h3
    · rw [hsame h3]; exact hr.obj id o h1
    · exact (hr.obj id o h1).below h3
  · obtain ⟨h1, h2, h3⟩ := hw.obj id o h
    rcases h3 with h3 | h3
    · rw [h3]; exact hr.fam id o f h1 hf
    · cases o with
      | cells fm ro cs => exact h3.2 f hf
      | loop r => cases hf
      | dfr => cases hf
      | map es clock => cases hf
      | iter a b c d => cases hf
  · obtain ⟨h1, h2, h3⟩ := hr.froz b c hb
    exact ⟨h1, h2, fun id o h => h3 id o (hw.obj id o h).1⟩
  · rw [hw.len]; exact ha.ts.size
  · rcases hw.get i with h | ⟨h, h2⟩
    · rw [h]; exact .any _
    · rw [h]
      rcases h2 with h2 | h2
      · rw [hsame h2]; exact ha.ts.get i
      · exact h2 _ _ (ha.ts.get i)
  · rw [hw.dm]; exact ha.dm

theorem SW.weak {rd : Option Nat} {c : Code} {Q : Exit → Fm → St → Prop} {f : Fm} {st : St} (h : SW P rd c (fun e f1 st1 => Q e f1 st1 ∨ ∃ f2 st2, Weak st.n f1 st1 f2 st2 ∧ Q e f2 st2) f st) : SW P rd c Q f st := by
  intro φ w a n h1 h2 h3
  refine wpIn_mono (h φ w a n h1 h2 h3) fun e a' w' hl => ?_
  obtain ⟨f1, st1, φ1, hq, he, hr, ha, hf⟩ := hl
  rcases hq with hq | ⟨f2, st2, hw, hq⟩
  · exact ⟨f1, st1, φ1, hq, he, hr, ha, hf⟩
  · obtain ⟨k1, k2, k3⟩ := hw.ok hr ha
    refine ⟨f2, st2, cutN φ1 st2.n, hq, ⟨?_, he.f, he.z⟩, k1, k2, hf.trans k3⟩
    rw [h2.n]; exact hw.lo

theorem SW.pre {rd : Option Nat} {c : Code} {Q : Exit → Fm → St → Prop} {f f2 : Fm} {st st2 : St} (hw : Weak st.n f st f2 st2) (h : SW P rd c Q f2 st2) : SW P rd c Q f st := by
  intro φ w a n h1 h2 h3
  obtain ⟨k1, k2, k3⟩ := hw.ok h2 h3
  have hn : st2.n = st.n := Nat.le_antisymm hw.hi hw.lo
  have hsame : cutN φ st2.n = φ := by cases φ; simp only [cutN, hn, ← h2.n]
  rw [hsame] at k1 k2 k3
  exact wpIn_mono (h φ w a n h1 k1 k2) fun e a' w' hl => hl.trans (Ext.refl _) k3

/-- A LOOP, by variables x: the frame and the state at the head of a round, what is known of x, and a measure. -/
theorem SW.loopF {α : Type} {rd : Option Nat} {c : Code} {Q : Exit → Fm → St → Prop} {f : Fm} {st : St} (F : α → Fm) (S : α → St) (m : α → Nat) (Inv : α → Prop) (x0 : α) (hn : ∀ x, (S x).n = st.n) (h0 : Inv x0) (hw : Weak st.n f st (F x0) (S x0))
    (hround : ∀ x, Inv x → SW P rd c (thenQ (fun f' st' => ∃ x', m x' < m x ∧ Inv x' ∧ Weak st.n f' st' (F x') (S x')) Q) (F x) (S x)) : SW P rd (.loop c) Q f st := by
  refine SW.pre hw (SW.loop (fun k f st => ∃ x, Inv x ∧ m x = k ∧ f = F x ∧ st = S x) (m x0) ⟨x0, h0, rfl, rfl, rfl⟩ fun k f' st' ⟨x, hx, hk, hf, hs⟩ => ?_)
  subst hf; subst hs; subst hk
  refine SW.weak ((hround x hx).mono fun e f1 st1 hq => ?_)
  cases e with
  | normal =>
    obtain ⟨x', h1, h2, h3⟩ := hq
    exact .inr ⟨F x', S x', by rw [hn]; exact h3, m x', h1, x', h2, rfl, rfl, rfl⟩
  | _ => exact .inl hq

theorem getT_weak {n : Nat} {g : Nat → AV} {q : Prop} : ∀ (l : List (Nat × AV)), (∀ p ∈ l, g p.1 = p.2 ∧ (q ∨ Below n p.2)) → ∀ i, getT l i = .any ∨ (getT l i = g i ∧ (q ∨ Below n (g i)))
  | [], _, i => .inl rfl
  | (j, a) :: r, h, i => by
    simp only [getT]
    cases hb : Nat.beq j i with
    | true =>
      obtain rfl := Nat.eq_of_beq_eq_true hb
      obtain ⟨h1, h2⟩ := h (j, a) List.mem_cons_self
      simp only at h1 h2 ⊢
      right
      rw [h1]; exact ⟨rfl, h2⟩
    | false => exact getT_weak r (fun p hp => h p (List.mem_cons_of_mem _ hp)) i

theorem Hp.get_all {p : Nat → AObj → Prop} : ∀ (h : Hp), (∀ x ∈ h, p x.1 x.2) → ∀ id o, h.get id = some o → p id o
  | [], _, id, o, h => by simp [Hp.get] at h
  | (i, x) :: r, hp, id, o, h => hp _ (Hp.mem_of_get h)

def AllW (q : Prop) (n : Nat) (g : Nat → AV) : List (Nat × AV) → Prop
  | [] => True
  | p :: r => (g p.1 = p.2 ∧ (q ∨ Below n p.2)) ∧ AllW q n g r
theorem AllW.ok {q : Prop} {n : Nat} {g : Nat → AV} : ∀ {l : List (Nat × AV)}, AllW q n g l → ∀ p ∈ l, g p.1 = p.2 ∧ (q ∨ Below n p.2)
  | [], _, p, h => by cases h
  | x :: l, h, p, hp => by
    rcases List.mem_cons.1 hp with rfl | hp
    · exact h.1
    · exact h.2.ok p hp
def AllO (q : Prop) (n : Nat) (h1 : Hp) : Hp → Prop
  | [] => True
  | x :: r => (h1.get x.1 = some x.2 ∧ x.1 < n ∧ (q ∨ ObjBelow n x.2)) ∧ AllO q n h1 r
theorem AllO.ok {q : Prop} {n : Nat} {h1 : Hp} : ∀ {h : Hp}, AllO q n h1 h → ∀ x ∈ h, h1.get x.1 = some x.2 ∧ x.1 < n ∧ (q ∨ ObjBelow n x.2)
  | [], _, p, h => by cases h
  | x :: l, h, p, hp => by
    rcases List.mem_cons.1 hp with rfl | hp
    · exact h.1
    · exact h.2.ok p hp
/-- Weaker, by lists. -/
theorem Weak.by {n : Nat} {f1 : Fm} {st1 : St} {l : List (Nat × AV)} {len : Nat} {dm : List Nat} {h2 : Hp} {n2 : Nat} (e1 : len = f1.ts.len) (e2 : dm = f1.dm) (e3 : ∀ id ∈ dm, id < n2) (e5 : n ≤ n2) (e6 : n2 ≤ st1.n)
    (e4 : AllW (n2 = st1.n) n2 f1.ts.get l) (e7 : AllO (n2 = st1.n) n2 st1.h h2) : Weak n f1 st1 ⟨⟨len, getT l⟩, dm⟩ ⟨h2, n2⟩ :=
  ⟨e1, e2, e3, getT_weak l e4.ok, e5, e6, Hp.get_all _ e7.ok⟩

theorem Weak.of {n : Nat} {f1 : Fm} {st1 : St} {l : List (Nat × AV)} {len : Nat} {dm : List Nat} {st2 : St} (h1 : len = f1.ts.len) (h2 : dm = f1.dm) (h3 : ∀ id ∈ dm, id < st2.n) (h4 : ∀ p ∈ l, f1.ts.get p.1 = p.2 ∧ (st2.n = st1.n ∨ Below st2.n p.2)) (h5 : n ≤ st2.n) (h6 : st2.n ≤ st1.n)
    (h7 : ∀ x ∈ st2.h, st1.h.get x.1 = some x.2 ∧ x.1 < st2.n ∧ (st2.n = st1.n ∨ ObjBelow st2.n x.2)) : Weak n f1 st1 ⟨⟨len, getT l⟩, dm⟩ st2 :=
  ⟨h1, h2, h3, getT_weak l h4, h5, h6, Hp.get_all _ h7⟩

/-! ### To freeze -/
def Fm.froz (f : Fm) (h : Hp) (D : Nat → Bool) (m : Nat) : Fm := ⟨⟨f.ts.len, fun i => frz h D m (f.ts.get i)⟩, f.dm⟩
theorem ActR.froz {φ : Fi} {st : St} {w : World} (hr : Rel φ st w) {f : Fm} {a : Act} (ha : ActR φ f a) (D : Nat → Bool) (m : Nat) : ActR (φ.froz st.h D w) (f.froz st.h D m) a :=
  ⟨⟨ha.ts.size, fun i => frz_ok hr m (ha.ts.get i)⟩, ha.dm, ha.lt⟩
theorem SW.freeze {rd : Option Nat} {c : Code} {Q : Exit → Fm → St → Prop} {f : Fm} {st : St} (D : Nat → Bool) (m : Nat) (hf : freeB st.h D = true) (h : SW P rd c Q (f.froz st.h D m) (st.keep fun i => !D i)) : SW P rd c Q f st := by
  intro φ w a n h1 h2 h3
  obtain ⟨k1, k2⟩ := h2.freeze hf
  exact wpIn_mono (h (φ.froz st.h D w) w a n h1 k1 (h3.froz h2 D m)) fun e a' w' hl => hl.trans (φ.froz_ext _ _ _) k2
theorem OpsW.freeze {ops : Array Oper} {rd : Option Nat} {l : List Nat} {K : Fm → St → Prop} {f : Fm} {st : St} (D : Nat → Bool) (m : Nat) (hf : freeB st.h D = true) (h : OpsW P rd ops l K (f.froz st.h D m) (st.keep fun i => !D i)) : OpsW P rd ops l K f st := by
  intro φ w a n Q h1 h2 h3 hQ
  obtain ⟨k1, k2⟩ := h2.freeze hf
  exact h (φ.froz st.h D w) w a n Q h1 k1 (h3.froz h2 D m) fun a' w' hl => hQ a' w' (hl.trans (φ.froz_ext _ _ _) k2)

/-! ### Statements -/
theorem SW.cond2 {rd : Option Nat} {c : Operand} {x y : Code} {t : Bool} {Q : Exit → Fm → St → Prop} {f : Fm} {st : St} (hc : Operand.av f.ts c = .lit (.bool t)) (h1 : t = true → SW P rd x Q f st) (h0 : t = false → SW P rd y Q f st) : SW P rd (.cond c x y) Q f st :=
  SW.cond hc (by cases t; exact h0 rfl; exact h1 rfl)

theorem SW.regionL {rd : Option Nat} {id : Nat} {ops : Array Oper} {l : List Nat} {Q : Exit → Fm → St → Prop} {f : Fm} {st : St} (hl : List.range ops.size = l) (h : OpsW P rd ops l (fun f st => Q .normal f st) f st) : SW P rd (.region id ops false) Q f st :=
  SW.region (by rw [hl]; exact h)

/-- An operation whose guard is not known: both ways. -/
theorem OpsW.guard {rd : Option Nat} {ops : Array Oper} {l : List Nat} {K : Fm → St → Prop} {f : Fm} {st : St} (b : Bool) (h1 : b = true → OpsW P rd ops l K f st) (h0 : b = false → OpsW P rd ops l K f st) : OpsW P rd ops l K f st := by
  cases b
  · exact h0 rfl
  · exact h1 rfl

/-! ### Regions that draw their order, one operation after the other -/
def AnyE (P : Program) (T : Ti) (ops : Array Oper) (M : List Nat) (rd : Option Nat) (K : Fm → St → Prop) (fuel : Nat) (pend : List (Nat × AV)) (listed : Array Bool) (f : Fm) (st : St) : Prop :=
  Closed ops listed → PL pend listed → PendOk T ops pend f st.h → AnyD P T ops M rd K fuel pend listed f st

variable {ops : Array Oper}

theorem SW.drawnE {M : List Nat} (hm : P.follows .mixedOrders = true) {rd : Option Nat} {id : Nat} {Q : Exit → Fm → St → Prop} {f : Fm} {st : St} (hM : tidyB ops M = true)
    (h : AnyE P T ops M rd (fun f' st' => Q .normal f' st') ops.size [] (Array.replicate ops.size false) f st) : SW P rd (.region id ops true) Q f st :=
  SW.drawn hm (tidy_of hM) (h closed_nil (fun p hp => by cases hp) (fun p hp => by cases hp))

def noLookB (ops : Array Oper) (pend : List (Nat × AV)) (oi : Oper) : Bool := match oi.dst with
  | none => true
  | some d => pend.all fun p => match ops[p.1]? with
    | none => true
    | some o => !((o.looksAt ops).contains d)
theorem noLookB_ok {pend : List (Nat × AV)} {oi : Oper} (h : noLookB ops pend oi = true) : ∀ p ∈ pend, ∀ o, ops[p.1]? = some o → ∀ d, oi.dst = some d → d ∉ o.looksAt ops := fun p hp o ho d hd hm => by
  unfold noLookB at h
  rw [hd] at h
  have := List.all_eq_true.1 h p hp
  simp only [ho, Bool.not_eq_true'] at this
  rw [List.contains_iff_mem.2 hm] at this
  cases this

theorem AnyE.takeE {M : List Nat} (hM : tidyB ops M = true) (hT : TOk P T) {rd : Option Nat} {K : Fm → St → Prop} (i : Nat) {oi : Oper} {r : AV} {fuel : Nat} {pend : List (Nat × AV)} {listed : Array Bool} {f : Fm} {st : St} (hi : ops[i]? = some oi)
    (hb : ((Region.ready .any ops listed).contains i && noLookB ops pend oi) = true) (hl : LV T ops st.h f i r)
    (H : AnyE P T ops M rd K fuel ((i, r) :: pend) (listed.setIfInBounds i true) (f.put oi.dst r) st) : AnyE P T ops M rd K (fuel + 1) pend listed f st := fun hc hpl hpo => by
  rw [Bool.and_eq_true] at hb
  have hr := List.contains_iff_mem.1 hb.1
  have hnl := noLookB_ok hb.2
  have hTd := tidy_of hM
  refine AnyD.take hTd hT hi fuel hc hpl hnl hr hl (H (hc.set hr) (fun p hp => ?_) (fun p hp => ?_))
  · rcases List.mem_cons.1 hp with rfl | hp
    · have : i < listed.size := by
        obtain ⟨o, h1, h2, _⟩ := ready_edges hr
        rcases Nat.lt_or_ge i listed.size with h | h
        · exact h
        · simp [Array.getD_eq_getD_getElem?, Array.getElem?_eq_none_iff.2 h] at h2
      simp [Array.getD_eq_getD_getElem?, this]
    · exact getD_set_true (hpl p hp)
  · rcases List.mem_cons.1 hp with rfl | hp
    · show LV T ops st.h (f.put oi.dst r) i r
      rw [LV_put (fun o ho d hd => by rw [hi] at ho; cases ho; exact hTd.self i oi hi d hd)]
      exact hl
    · show LV T ops st.h (f.put oi.dst r) p.1 p.2
      rw [LV_put (fun o ho d hd => hnl p hp o ho d hd)]
      exact hpo p hp

theorem AnyE.take {M : List Nat} (hM : tidyB ops M = true) (hT : TOk P T) {rd : Option Nat} {K : Fm → St → Prop} (i : Nat) {oi : Oper} {r : AV} {fuel : Nat} {pend : List (Nat × AV)} {listed : Array Bool} {f : Fm} {st : St} (hi : ops[i]? = some oi)
    (hb : ((Region.ready .any ops listed).contains i && noLookB ops pend oi) = true) (hl : lightV T ops st.h f i = some r)
    (H : AnyE P T ops M rd K fuel ((i, r) :: pend) (listed.setIfInBounds i true) (f.put oi.dst r) st) : AnyE P T ops M rd K (fuel + 1) pend listed f st :=
  AnyE.takeE hM hT i hi hb (LV.of hl) H

theorem AnyE.done {M : List Nat} {rd : Option Nat} {K : Fm → St → Prop} {fuel : Nat} {pend : List (Nat × AV)} {listed : Array Bool} {f : Fm} {st : St} (hr : (Region.ready .any ops listed).isEmpty = true) (h : K f st) : AnyE P T ops M rd K fuel pend listed f st := fun _ _ hpo =>
  AnyD.done hpo (List.isEmpty_iff.1 hr) h fuel

/-- One operation that is ready alone. What was taken before must be as it was, if it is not behind this one. -/
theorem AnyE.one {M : List Nat} {rd : Option Nat} {K : Fm → St → Prop} (j : Nat) {o : Oper} {fuel : Nat} {pend : List (Nat × AV)} {listed : Array Bool} {f : Fm} {st : St} (hj : ops[j]? = some o)
    (hb : (match Region.ready .any ops listed with | [k] => Nat.beq k j | _ => false) = true) (pend' : List (Nat × AV)) (hd : dropP M j pend = pend')
    (h : OpsW P rd ops [j] (fun f' st' => (∃ v, f' = f.put o.dst v) ∧ PendOk T ops pend' f' st'.h ∧ AnyE P T ops M rd K fuel pend' (listed.setIfInBounds j true) f' st') f st) : AnyE P T ops M rd K (fuel + 1) pend listed f st := fun hc hpl hpo => by
  have hr : Region.ready .any ops listed = [j] := by
    split at hb
    · rename_i k hk; rw [hk, Nat.eq_of_beq_eq_true hb]
    · cases hb
  refine AnyD.all hpo hr (by simp) fun k hk => ?_
  have : k = j := by simpa using hk
  subst this
  have hrm : k ∈ Region.ready .any ops listed := by rw [hr]; simp
  refine ⟨o, hj, h.mono fun f' st' ⟨⟨v, hv⟩, hp, hE⟩ => ⟨v, hv, ?_⟩⟩
  rw [hd]
  exact hE (hc.set hrm) (fun p hp => by
    rw [← hd] at hp
    exact getD_set_true (hpl p (List.mem_filter.1 hp).1)) hp

end Go.Fz

/-
  A TABLE OF TYPES out of a program. Own work of the verifier of watercress.
-/
namespace Go.Fz

def tab (P : Program) (t : TypeId) : Option TI :=
  match P.underlying t, P.info? t with
  | some d, some ti => match ti.zero with
    | some z => some { desc := d, size := ti.size, bytes := ti.bytes, zero := z.cells.toList, flat := !(P.stoodInHeld t) && !(P.eqGuardType P.depth t) }
    | none => none
  | _, _ => none

theorem tab_ok (P : Program) : TOk P (tab P) := fun t i h => by
  unfold tab at h
  split at h
  · rename_i d ti hd hti
    split at h
    · rename_i z hz
      cases h
      exact ⟨hd, ⟨ti, z, hti, rfl, rfl, hz, rfl⟩, fun hf => by simpa using hf⟩
    · cases h
  · cases h

def ofTab (l : List (Option TI)) : Ti := fun t => (l[t]?).getD none
theorem ofTab_ok {P : Program} {l : List (Option TI)} {n : Nat} (h : l = (List.range n).map (tab P)) : TOk P (ofTab l) := fun t i hi => by
  refine tab_ok P t i ?_
  unfold ofTab at hi
  subst h
  rw [List.getElem?_map] at hi
  cases hr : (List.range n)[t]? with
  | none => rw [hr] at hi; cases hi
  | some x =>
    rw [hr] at hi
    have : x = t := by
      obtain ⟨hx, he⟩ := List.getElem?_eq_some_iff.1 hr
      simpa using he.symm
    subst this
    exact hi

end Go.Fz

/-
  A MACHINE THAT RUNS OPERATIONS ON SYMBOLS: what is reckoned stays closed behind the fields of a structure; what must hold is gathered. Own work of the verifier of watercress.
-/
namespace Go.Fz

/-- What is reckoned. -/
structure Ar where
  bin : BinOp → IntKind → Int → Int → Int
  cmp : BinOp → Int → Int → Bool
  nat : Int → Nat
  conv : IntKind → Int → Int
  neg : IntKind → Int → Int
  mn : Int → Int → Int
  mx : Int → Int → Int
  not : Bool → Bool
  beq : Bool → Bool → Bool
  bne : Bool → Bool → Bool
  and : Bool → Bool → Bool
  add : Nat → Nat → Nat
  sub : Nat → Nat → Nat
  eqN : Nat → Nat → Bool
  sel : List Int → Nat → Int
  selB : List Bool → Nat → Bool
  ups : Nat → Nat → Int → Int → Int
  upsB : Nat → Nat → Bool → Bool → Bool

def std : Ar where
  bin op k x y := match op with
    | .add => wrp k (x + y)
    | .sub => wrp k (x - y)
    | .mul => wrp k (x * y)
    | .quo => wrp k (x.tdiv y)
    | .rem => x.tmod y
    | .shl => wrp k (x * 2 ^ (min y.toNat k.bits))
    | .shr => x.fdiv (2 ^ (min y.toNat k.bits))
    | .and => k.wrap (BitVec.ofInt k.bits x &&& BitVec.ofInt k.bits y).toNat
    | .or => k.wrap (BitVec.ofInt k.bits x ||| BitVec.ofInt k.bits y).toNat
    | .xor => k.wrap (BitVec.ofInt k.bits x ^^^ BitVec.ofInt k.bits y).toNat
    | .andNot => k.wrap (BitVec.ofInt k.bits x &&& ~~~ BitVec.ofInt k.bits y).toNat
    | _ => 0
  cmp op x y := match op with
    | .eql => x == y
    | .neq => x != y
    | .lss => decide (x < y)
    | .leq => decide (x ≤ y)
    | .gtr => decide (x > y)
    | .geq => decide (x ≥ y)
    | _ => false
  nat := Int.toNat
  conv := wrp
  neg k n := wrp k (0 - n)
  mn a b := if b < a then b else a
  mx a b := if b > a then b else a
  not b := !b
  beq a b := a == b
  bne a b := a != b
  and a b := a && b
  add a b := a + b
  sub a b := a - b
  eqN a b := a == b
  sel l i := l.getD i 0
  selB l i := l.getD i false
  ups j i v x := if i = j then v else x
  upsB j i v x := if i = j then v else x

inductive Cond where
  | inB (n : Int) (len : Nat)
  | ne0 (y : Int)
  | nn (y : Int)
  | leN (a b : Nat)
  | ltN (a b : Nat)
def Cond.holds : Cond → Prop
  | .inB n len => 0 ≤ n ∧ n < len
  | .ne0 y => y ≠ 0
  | .nn y => 0 ≤ y
  | .leN a b => a ≤ b
  | .ltN a b => a < b
def allC : List Cond → Prop
  | [] => True
  | [c] => c.holds
  | c :: r => c.holds ∧ allC r
theorem allC_ok : ∀ {l : List Cond}, allC l → ∀ c ∈ l, c.holds
  | [], _, c, h => by cases h
  | [x], hl, c, h => by simp only [List.mem_singleton] at h; subst h; exact hl
  | x :: y :: r, hl, c, h => by
    rcases List.mem_cons.1 h with rfl | h
    · exact hl.1
    · exact allC_ok hl.2 c h

def kEq : IntKind → IntKind → Bool
  | .i8, .i8 | .i16, .i16 | .i32, .i32 | .i64, .i64 | .u8, .u8 | .u16, .u16 | .u32, .u32 | .u64, .u64 => true
  | _, _ => false
theorem kEq_ok {a b : IntKind} (h : kEq a b = true) : a = b := by cases a <;> cases b <;> simp_all [kEq]

def stBin (O : Ar) (op : BinOp) (k k' : IntKind) (x y : Int) : Option (List Cond × AV) :=
  match op with
  | .shl => some ([.nn y], .lit (.int k (O.bin .shl k x y)))
  | .shr => some ([.nn y], .lit (.int k (O.bin .shr k x y)))
  | .quo => match kEq k k' with | true => some ([.ne0 y], .lit (.int k (O.bin .quo k x y))) | false => none
  | .rem => match kEq k k' with | true => some ([.ne0 y], .lit (.int k (O.bin .rem k x y))) | false => none
  | .add => match kEq k k' with | true => some ([], .lit (.int k (O.bin .add k x y))) | false => none
  | .sub => match kEq k k' with | true => some ([], .lit (.int k (O.bin .sub k x y))) | false => none
  | .mul => match kEq k k' with | true => some ([], .lit (.int k (O.bin .mul k x y))) | false => none
  | .and => match kEq k k' with | true => some ([], .lit (.int k (O.bin .and k x y))) | false => none
  | .or => match kEq k k' with | true => some ([], .lit (.int k (O.bin .or k x y))) | false => none
  | .xor => match kEq k k' with | true => some ([], .lit (.int k (O.bin .xor k x y))) | false => none
  | .andNot => match kEq k k' with | true => some ([], .lit (.int k (O.bin .andNot k x y))) | false => none
  | .eql => match kEq k k' with | true => some ([], .sb (O.cmp .eql x y)) | false => none
  | .neq => match kEq k k' with | true => some ([], .sb (O.cmp .neq x y)) | false => none
  | .lss => match kEq k k' with | true => some ([], .sb (O.cmp .lss x y)) | false => none
  | .leq => match kEq k k' with | true => some ([], .sb (O.cmp .leq x y)) | false => none
  | .gtr => match kEq k k' with | true => some ([], .sb (O.cmp .gtr x y)) | false => none
  | .geq => match kEq k k' with | true => some ([], .sb (O.cmp .geq x y)) | false => none

theorem stBin_ok {op : BinOp} {k k' : IntKind} {x y : Int} {cs : List Cond} {r : AV} (h : stBin std op k k' x y = some (cs, r)) (hc : ∀ c ∈ cs, c.holds) : binA op (.lit (.int k x)) (.lit (.int k' y)) = some r := by
  cases op <;> simp only [stBin] at h
  case shl => cases h; have : 0 ≤ y := hc (.nn y) (by simp); simp [binA, this, std]
  case shr => cases h; have : 0 ≤ y := hc (.nn y) (by simp); simp [binA, this, std]
  case quo =>
    split at h
    · rename_i hk; cases h; have : y ≠ 0 := hc (.ne0 y) (by simp); simp [binA, this, std, kEq_ok hk]
    · cases h
  case rem =>
    split at h
    · rename_i hk; cases h; have : y ≠ 0 := hc (.ne0 y) (by simp); simp [binA, this, std, kEq_ok hk]
    · cases h
  all_goals
    split at h
    · rename_i hk; cases h; simp [binA, std, kEq_ok hk, intCmpB, bitsA]
    · cases h

/-- Equality of structs and arrays, on symbols. -/
def eqFsS (O : Ar) (T : Ti) (eq : TypeId → AV → AV → Option Bool) (xs ys : List AV) : List Field → Option Bool
  | [] => some true
  | [f] => match f.name with
    | "_" => none
    | _ => match partA T f.type xs f.offset, partA T f.type ys f.offset with
      | some a, some b => eq f.type a b
      | _, _ => none
  | f :: fs => match f.name with
    | "_" => none
    | _ => match partA T f.type xs f.offset, partA T f.type ys f.offset with
      | some a, some b => match eq f.type a b, eqFsS O T eq xs ys fs with
        | some p, some q => some (O.and p q)
        | _, _ => none
      | _, _ => none
def eqIsS (O : Ar) (T : Ti) (eq : TypeId → AV → AV → Option Bool) (e : TypeId) (sz : Nat) (xs ys : List AV) : List Nat → Option Bool
  | [] => some true
  | [i] => match partA T e xs (i * sz), partA T e ys (i * sz) with
    | some a, some b => eq e a b
    | _, _ => none
  | i :: is => match partA T e xs (i * sz), partA T e ys (i * sz) with
    | some a, some b => match eq e a b, eqIsS O T eq e sz xs ys is with
      | some p, some q => some (O.and p q)
      | _, _ => none
    | _, _ => none
def eqS (O : Ar) (T : Ti) : Nat → TypeId → AV → AV → Option Bool
  | 0, _, _, _ => none
  | d + 1, t, a, b =>
    match T t with
    | none => none
    | some i => match i.desc, a, b with
      | .int _, .lit (.int k x), .lit (.int k' y) => match kEq k k' with
        | true => some (O.cmp .eql x y)
        | false => none
      | .struct fs, .agg xs, .agg ys => match i.flat with
        | true => eqFsS O T (eqS O T d) xs ys fs.toList
        | false => none
      | .array n e, .agg xs, .agg ys => match T e with
        | some j => eqIsS O T (eqS O T d) e j.size xs ys (List.range n)
        | none => none
      | _, _, _ => none

theorem eqFsS_ok {T : Ti} {eq eq' : TypeId → AV → AV → Option Bool} (heq : ∀ t a b r, eq t a b = some r → eq' t a b = some r) {xs ys : List AV} : ∀ (fs : List Field) (r : Bool), eqFsS std T eq xs ys fs = some r → eqFsA T eq' xs ys fs = some r
  | [], r, h => h
  | [f], r, h => by
    simp only [eqFsS] at h
    split at h
    · cases h
    · rename_i hn
      split at h
      · rename_i a b ha hb
        have := heq _ _ _ _ h
        simp only [eqFsA, ha, hb, this]
        rw [if_pos (by intro he; exact hn he)]
        cases r <;> rfl
      · cases h
  | f :: g :: fs, r, h => by
    simp only [eqFsS] at h
    split at h
    · cases h
    · rename_i hn
      split at h
      · rename_i a b ha hb
        split at h
        · rename_i p q hp hq
          cases h
          have h1 := heq _ _ _ _ hp
          have h2 := eqFsS_ok heq (g :: fs) q hq
          rw [eqFsA, if_pos (by intro he; exact hn he)]
          simp only [ha, hb, h1]
          cases p with
          | true => simpa [std] using h2
          | false => rfl
        · cases h
      · cases h

theorem eqIsS_ok {T : Ti} {eq eq' : TypeId → AV → AV → Option Bool} (heq : ∀ t a b r, eq t a b = some r → eq' t a b = some r) {e : TypeId} {sz : Nat} {xs ys : List AV} : ∀ (l : List Nat) (r : Bool), eqIsS std T eq e sz xs ys l = some r → eqIsA T eq' e sz xs ys l = some r
  | [], r, h => h
  | [i], r, h => by
    simp only [eqIsS] at h
    split at h
    · rename_i a b ha hb
      have := heq _ _ _ _ h
      simp only [eqIsA, ha, hb, this]
      cases r <;> rfl
    · cases h
  | i :: j :: l, r, h => by
    simp only [eqIsS] at h
    split at h
    · rename_i a b ha hb
      split at h
      · rename_i p q hp hq
        cases h
        have h1 := heq _ _ _ _ hp
        have h2 := eqIsS_ok heq (j :: l) q hq
        rw [eqIsA]
        simp only [ha, hb, h1]
        cases p with
        | true => simpa [std] using h2
        | false => rfl
      · cases h
    · cases h

theorem eqS_ok {T : Ti} : ∀ (d : Nat) (t : TypeId) (a b : AV) (r : Bool), eqS std T d t a b = some r → eqA T d t a b = some r
  | 0, _, _, _, _, h => by cases h
  | d + 1, t, a, b, r, h => by
    simp only [eqS] at h
    split at h
    · cases h
    · rename_i i hi
      simp only [eqA, hi]
      split at h
      · rename_i k x k' y hd
        split at h
        · rename_i hk
          cases h
          simp [hd, kEq_ok hk, std]
        · cases h
      · rename_i fs xs ys hd
        split at h
        · rename_i hf
          simp only [hd, hf, if_true]
          exact eqFsS_ok (eqS_ok d) _ _ h
        · cases h
      · rename_i n e xs ys hd
        split at h
        · rename_i j hj
          simp only [hd, hj]
          exact eqIsS_ok (eqS_ok d) _ _ h
        · cases h
      · cases h

def natS (O : Ar) : AV → Option (List Cond × Nat)
  | .lit (.int _ n) => some ([.nn n], O.nat n)
  | _ => none
def natOrS (O : Ar) (d : Nat) : Option AV → Option (List Cond × Nat)
  | none => some ([], d)
  | some a => natS O a
theorem natOrS_ok {d : Nat} {a : Option AV} {cs : List Cond} {n : Nat} (h : natOrS std d a = some (cs, n)) (hc : ∀ c ∈ cs, c.holds) : natOr d a = some n := by
  unfold natOrS at h
  split at h
  · cases h; rfl
  · rename_i a
    unfold natS at h
    split at h
    · rename_i k m
      cases h
      have : 0 ≤ m := hc (.nn m) (by simp)
      simp [natOr, natOf, this, std]
    · cases h

/-! ### Arrays of numbers or of truth values in an object, at an index that is not known -/
def cellAt (cs : List AV) (j : Nat) : AV := cs.getD j .any
def intsAt (cs : List AV) (sz : Nat) : Nat → Nat → Option (List Int)
  | _, 0 => some []
  | off, n + 1 => match cellAt cs off with
    | .lit (.int .i64 x) => (intsAt cs sz (off + sz) n).map fun l => x :: l
    | _ => none
def boolsAt (cs : List AV) (sz : Nat) : Nat → Nat → Option (List Bool)
  | _, 0 => some []
  | off, n + 1 => match cellAt cs off with
    | .sb x => (boolsAt cs sz (off + sz) n).map fun l => x :: l
    | _ => none
def selA (O : Ar) (cs : List AV) (base n sz i k : Nat) : Option AV := match intsAt cs sz (base + k) n with
  | some l => some (.lit (.int .i64 (O.sel l i)))
  | none => match boolsAt cs sz (base + k) n with
    | some l => some (.sb (O.selB l i))
    | none => none
def selsA (O : Ar) (cs : List AV) (base n sz i : Nat) : Nat → Nat → Option (List AV)
  | _, 0 => some []
  | k, m + 1 => match selA O cs base n sz i k, selsA O cs base n sz i (k + 1) m with
    | some a, some l => some (a :: l)
    | _, _ => none
theorem cellAt_some {cs : List AV} {j : Nat} {a : AV} (h : cellAt cs j = a) (hn : a ≠ .any) : cs[j]? = some a := by
  unfold cellAt at h
  rw [List.getD_eq_getElem?_getD] at h
  cases hc : cs[j]? with
  | none => rw [hc] at h; exact absurd h.symm hn
  | some b => rw [hc] at h; simp only [Option.getD_some] at h; rw [h]
theorem intsAt_ok {cs : List AV} {sz : Nat} : ∀ {n off : Nat} {l : List Int}, intsAt cs sz off n = some l → l.length = n ∧ ∀ i, i < n → cs[off + i * sz]? = some (.lit (.int .i64 (l.getD i 0)))
  | 0, off, l, h => by simp only [intsAt, Option.some.injEq] at h; subst h; exact ⟨rfl, fun i hi => by omega⟩
  | n + 1, off, l, h => by
    simp only [intsAt] at h
    split at h
    · rename_i x hx
      rw [Option.map_eq_some_iff] at h
      obtain ⟨l', h1, rfl⟩ := h
      obtain ⟨h2, h3⟩ := intsAt_ok h1
      refine ⟨by simp [h2], fun i hi => ?_⟩
      cases i with
      | zero => simpa using cellAt_some hx (by simp)
      | succ i =>
        have := h3 i (by omega)
        rw [show off + (i + 1) * sz = off + sz + i * sz from by rw [Nat.add_mul]; omega]
        simpa using this
    · cases h
theorem boolsAt_ok {cs : List AV} {sz : Nat} : ∀ {n off : Nat} {l : List Bool}, boolsAt cs sz off n = some l → l.length = n ∧ ∀ i, i < n → cs[off + i * sz]? = some (.sb (l.getD i false))
  | 0, off, l, h => by simp only [boolsAt, Option.some.injEq] at h; subst h; exact ⟨rfl, fun i hi => by omega⟩
  | n + 1, off, l, h => by
    simp only [boolsAt] at h
    split at h
    · rename_i x hx
      rw [Option.map_eq_some_iff] at h
      obtain ⟨l', h1, rfl⟩ := h
      obtain ⟨h2, h3⟩ := boolsAt_ok h1
      refine ⟨by simp [h2], fun i hi => ?_⟩
      cases i with
      | zero => simpa using cellAt_some hx (by simp)
      | succ i =>
        have := h3 i (by omega)
        rw [show off + (i + 1) * sz = off + sz + i * sz from by rw [Nat.add_mul]; omega]
        simpa using this
    · cases h
theorem selA_ok {cs : List AV} {base n sz i k : Nat} {a : AV} (h : selA std cs base n sz i k = some a) (hi : i < n) : cs[base + i * sz + k]? = some a := by
  unfold selA at h
  rw [show base + i * sz + k = base + k + i * sz from by omega]
  split at h
  · rename_i l hl; cases h; exact (intsAt_ok hl).2 i hi
  · split at h
    · rename_i l hl; cases h; exact (boolsAt_ok hl).2 i hi
    · cases h
theorem selsA_ok {cs : List AV} {base n sz i : Nat} (hi : i < n) : ∀ {m k : Nat} {l : List AV}, selsA std cs base n sz i k m = some l → l.length = m ∧ ∀ j, j < m → cs[base + i * sz + k + j]? = l[j]?
  | 0, k, l, h => by simp only [selsA, Option.some.injEq] at h; subst h; exact ⟨rfl, fun j hj => by omega⟩
  | m + 1, k, l, h => by
    simp only [selsA] at h
    split at h
    · rename_i a l' h1 h2
      cases h
      obtain ⟨h3, h4⟩ := selsA_ok hi h2
      refine ⟨by simp [h3], fun j hj => ?_⟩
      cases j with
      | zero => simpa using selA_ok h1 hi
      | succ j =>
        have := h4 j (by omega)
        rw [show base + i * sz + k + (j + 1) = base + i * sz + (k + 1) + j from by omega, this]; rfl
    · cases h
def loadS (O : Ar) (T : Ti) (h : Hp) (t : TypeId) (base n sz i k id : Nat) : Option (List Cond × AV) := match T t, cellsAt h id with
  | some ti, some cs => match aggD ti.desc with
    | true => (selsA O cs base n sz i k ti.size).map fun l => ([.ltN i n, .ltN 0 ti.size], .agg l)
    | false => (selA O cs base n sz i k).map fun a => ([.ltN i n], a)
  | _, _ => none
theorem loadS_ok {T : Ti} {h : Hp} {t : TypeId} {base n sz i k id : Nat} {cs : List Cond} {r : AV} (hs : loadS std T h t base n sz i k id = some (cs, r)) (hc : ∀ c ∈ cs, c.holds) : loadA T h t (.ap id base n sz i k) = some r := by
  unfold loadS at hs
  split at hs
  · rename_i ti cl h1 h2
    simp only [loadA, ptrOf, h2, partA, h1]
    split at hs
    · rename_i hag
      rw [Option.map_eq_some_iff] at hs
      obtain ⟨l, h3, h4⟩ := hs
      cases h4
      have hi : i < n := hc (.ltN i n) (by simp)
      obtain ⟨h5, h6⟩ := selsA_ok hi h3
      rw [if_pos hag]
      have hle : base + i * sz + k + ti.size ≤ cl.length := by
        cases hz : ti.size with
        | zero => 
          have : 0 < ti.size := hc (.ltN 0 ti.size) (by simp)
          omega
        | succ m =>
          have h7 := h6 m (by omega)
          have h8 : l[m]? = some l[m] := List.getElem?_eq_getElem (by omega)
          rw [h8] at h7
          have := (List.getElem?_eq_some_iff.1 h7).1
          omega
      rw [if_pos hle]
      congr 2
      refine List.ext_getElem? fun j => ?_
      rw [List.getElem?_take, List.getElem?_drop]
      split
      · rename_i hj; exact h6 j hj
      · rename_i hj; exact (List.getElem?_eq_none_iff.2 (by omega)).symm
    · rename_i hag
      rw [Option.map_eq_some_iff] at hs
      obtain ⟨a, h3, h4⟩ := hs
      cases h4
      have hi : i < n := hc (.ltN i n) (by simp)
      rw [if_neg (by rw [hag]; simp)]
      exact selA_ok h3 hi
  · cases hs

/-- A light operation, on symbols. -/
def stE (O : Ar) (T : Ti) (h : Hp) (ρ : Operand → AV) (o : Oper) : Option (List Cond × AV) :=
  match o.op with
  | .binOp op t x y _ => match ρ x, ρ y with
    | .lit (.int k a), .lit (.int k' b) => match T t with
      | some i => match i.desc with
        | .int _ => stBin O op k k' a b
        | _ => none
      | none => none
    | .agg xs, .agg ys => match T t with
      | some i => match i.flat && aggD i.desc with
        | true => match op with
          | .eql => (eqS O T 6 t (.agg xs) (.agg ys)).map fun b => ([], .sb b)
          | .neq => (eqS O T 6 t (.agg xs) (.agg ys)).map fun b => ([], .sb (O.not b))
          | _ => none
        | false => none
      | none => none
    | a, b => match T t with
      | some i => match i.desc with
        | .bool => match boolOf a, boolOf b, op with
          | some p, some q, .eql => some ([], .sb (O.beq p q))
          | some p, some q, .neq => some ([], .sb (O.bne p q))
          | _, _, _ => none
        | _ => none
      | none => none
  | .unOp op _ x => match op, ρ x with
    | .not, .lit (.bool true) => some ([], .lit (.bool false))
    | .not, .lit (.bool false) => some ([], .lit (.bool true))
    | .not, .sb b => some ([], .sb (O.not b))
    | .neg, .lit (.int k n) => some ([], .lit (.int k (O.neg k n)))
    | _, _ => none
  | .convert s d x => match T s, T d, ρ x with
    | some _, some j, .lit (.int _ n) => match j.desc with
      | .int k => some ([], .lit (.int k (O.conv k n)))
      | _ => none
    | _, _, _ => none
  | .indexAddr t x ix => match ρ ix, T t with
    | .lit (.int _ n), some i => match i.desc, ρ x with
      | .slice e, .isl len sz _ g => match T e with
        | some j => match Nat.beq j.size sz with
          | true => some ([.inB n len], .ip sz 0 (g (O.nat n)))
          | false => none
        | none => none
      | .array len e, .ptr id off => match T e with
        | some j => some ([.inB n len], .ap id off len j.size (O.nat n) 0)
        | none => none
      | _, _ => none
    | _, _ => none
  | .load t a => match ρ a with
    | .ap id base n sz i k => loadS O T h t base n sz i k id
    | _ => (evG T h ρ o).map fun r => ([], r)
  | .index t x ix => match ρ ix, T t, ρ x with
    | .lit (.int _ n), some ti, .agg cs => match ti.desc with
      | .array len e => match T e with
        | some j => match aggD j.desc with
          | true => (selsA O cs 0 len j.size (O.nat n) 0 j.size).map fun l => ([.inB n len, .ltN 0 j.size], .agg l)
          | false => (selA O cs 0 len j.size (O.nat n) 0).map fun a => ([.inB n len], a)
        | none => none
      | _ => none
    | _, _, _ => none
  | .slice t x lo hi mx => match T t with
    | some i => match i.desc, ρ x with
      | .slice e, .isl len sz ex g => match T e with
        | some j => match Nat.beq j.size sz with
          | true => match natOrS O 0 (lo.map ρ), natOrS O len (hi.map ρ), mx with
            | some (c1, l), some (c2, u), none => some (.leN l u :: .leN u len :: (c1 ++ c2), .isl (O.sub u l) sz (ex && O.eqN u len) (fun i => g (O.add l i)))
            | _, _, _ => none
          | false => none
        | none => none
      | _, _ => none
    | none => none
  | .call c => match c.callee with
    | .builtin .len => (evG T h ρ o).map fun r => ([], r)
    | .builtin .min => match c.args.toList with
      | [x, y] => match ρ x, ρ y with
        | .lit (.int k a), .lit (.int _ b) => some ([], .lit (.int k (O.mn a b)))
        | _, _ => none
      | _ => none
    | .builtin .max => match c.args.toList with
      | [x, y] => match ρ x, ρ y with
        | .lit (.int k a), .lit (.int _ b) => some ([], .lit (.int k (O.mx a b)))
        | _, _ => none
      | _ => none
    | _ => none
  | .move x | .assign x => some ([], ρ x)
  | .pick c a b => match ρ c with
    | .lit (.bool true) => some ([], ρ a)
    | .lit (.bool false) => some ([], ρ b)
    | _ => none
  | _ => (evG T h ρ o).map fun r => ([], r)

theorem stE_ok {T : Ti} {h : Hp} {ρ : Operand → AV} {o : Oper} {cs : List Cond} {r : AV} (hs : stE std T h ρ o = some (cs, r)) (hc : ∀ c ∈ cs, c.holds) : evG T h ρ o = some r := by
  have hmap : ∀ {x : Option AV}, (x.map fun r => (([] : List Cond), r)) = some (cs, r) → x = some r := fun {x} hx => by
    rw [Option.map_eq_some_iff] at hx
    obtain ⟨a, h1, h2⟩ := hx
    cases h2; exact h1
  unfold stE at hs
  split at hs
  · rename_i op t x y yt hx
    split at hs
    · rename_i k a k' b hp hq
      split at hs
      · rename_i i hi
        split at hs
        · rename_i ki hd
          have h1 := stBin_ok hs hc
          have hL : evL T h ρ o = some r := by simp only [evL, hx, hp, hq]; exact h1
          cases op <;> simp [evG, hx, hp, hq, boolPair, hi, hd, aggD, hL]
        · cases hs
      · cases hs
    · rename_i xs ys hp hq
      split at hs
      · rename_i i hi
        split at hs
        · rename_i hf
          have hbp : boolPair T t (.agg xs) (.agg ys) = none := by
            unfold boolPair; simp only [hi]
            split <;> rfl
          split at hs
          · rw [Option.map_eq_some_iff] at hs
            obtain ⟨b, h1, h2⟩ := hs
            cases h2
            simp only [evG, hx, hp, hq, hbp, hi, hf, if_true, eqS_ok 6 t _ _ b h1, Option.map_some]
          · rw [Option.map_eq_some_iff] at hs
            obtain ⟨b, h1, h2⟩ := hs
            cases h2
            simp only [evG, hx, hp, hq, hbp, hi, hf, if_true, eqS_ok 6 t _ _ b h1, Option.map_some, std]
          · cases hs
        · cases hs
      · cases hs
    · rename_i a b hn1 hn2
      split at hs
      · rename_i i hi
        split at hs
        · rename_i hd
          split at hs
          · rename_i p q h1 h2
            cases hs
            simp [evG, hx, boolPair, hi, hd, h1, h2, std]
          · rename_i p q h1 h2
            cases hs
            simp [evG, hx, boolPair, hi, hd, h1, h2, std]
          · cases hs
        · cases hs
      · cases hs
  · rename_i op t x hx
    split at hs
    · rename_i hq; cases hs; simp [evG, evL, hx, hq]
    · rename_i hq; cases hs; simp [evG, evL, hx, hq]
    · rename_i b hq; cases hs; simp [evG, evL, hx, hq, std]
    · rename_i k n hq; cases hs; simp [evG, evL, hx, hq, std]
    · cases hs
  · rename_i s d x hx
    split at hs
    · rename_i i j k n h1 h2 h3
      split at hs
      · rename_i k' hk; cases hs; simp [evG, evL, hx, h1, h2, h3, hk, std]
      · cases hs
    · cases hs
  · rename_i t x ix hx
    split at hs
    · rename_i k n i h1 h2
      split at hs
      · rename_i e len sz ex g h3 h4
        split at hs
        · rename_i j h5
          split at hs
          · rename_i h6
            cases hs
            have h7 : 0 ≤ n ∧ n < len := hc (.inB n len) (by simp)
            have h8 := Nat.eq_of_beq_eq_true h6
            simp [evG, evL, hx, h1, h2, h3, h4, h5, h7, h8, std]
          · cases hs
        · cases hs
      · rename_i len e id off h3 h4
        split at hs
        · rename_i j h5
          cases hs
          have h7 : 0 ≤ n ∧ n < len := hc (.inB n len) (by simp)
          simp [evG, evL, hx, h1, h2, h3, h4, h5, h7, std]
        · cases hs
      · cases hs
    · cases hs
  · rename_i t a hx
    split at hs
    · rename_i id base n sz i k hq
      have := loadS_ok hs hc
      simp only [evG, evL, hx, hq, this]
    · exact hmap hs
  · rename_i t x ix hx
    split at hs
    · rename_i k n ti cs' h1 h2 h3
      split at hs
      · rename_i len e hd
        split at hs
        · rename_i j hj
          split at hs
          · rename_i hag
            rw [Option.map_eq_some_iff] at hs
            obtain ⟨l, h4, h5⟩ := hs
            cases h5
            have h7 : 0 ≤ n ∧ n < len := hc (.inB n len) (by simp)
            have hpos : 0 < j.size := hc (.ltN 0 j.size) (by simp)
            obtain ⟨h8, h9⟩ := selsA_ok (show n.toNat < len by omega) h4
            simp only [evG, evL, hx, h1, h2, h3, hd, hj]
            rw [if_pos h7]
            simp only [partA, hj]
            rw [if_pos hag]
            have hle : n.toNat * j.size + j.size ≤ cs'.length := by
              have h10 := h9 (j.size - 1) (by omega)
              have h11 : l[j.size - 1]? = some l[j.size - 1] := List.getElem?_eq_getElem (by omega)
              rw [h11] at h10
              have := (List.getElem?_eq_some_iff.1 h10).1
              omega
            rw [if_pos hle]
            congr 2
            refine List.ext_getElem? fun q => ?_
            rw [List.getElem?_take, List.getElem?_drop]
            split
            · rename_i hq
              have := h9 q hq
              rw [← this]; congr 1; omega
            · rename_i hq; exact (List.getElem?_eq_none_iff.2 (by omega)).symm
          · rename_i hag
            rw [Option.map_eq_some_iff] at hs
            obtain ⟨a, h4, h5⟩ := hs
            cases h5
            have h7 : 0 ≤ n ∧ n < len := hc (.inB n len) (by simp)
            have h8 : cs'[0 + n.toNat * j.size + 0]? = some r := selA_ok h4 (show n.toNat < len by omega)
            simp only [evG, evL, hx, h1, h2, h3, hd, hj]
            rw [if_pos h7]
            simp only [partA, hj]
            rw [if_neg (by rw [hag]; simp), ← h8]
            congr 1; omega
        · cases hs
      · cases hs
    · cases hs
  · rename_i t x lo hi mx hx
    split at hs
    · rename_i i h1
      split at hs
      · rename_i e len sz ex g h2 h3
        split at hs
        · rename_i j h4
          split at hs
          · rename_i h5
            split at hs
            · rename_i c1 l c2 u h6 h7
              cases hs
              have h8 := natOrS_ok h6 (fun c hm => hc c (by simp [hm]))
              have h9 := natOrS_ok h7 (fun c hm => hc c (by simp [hm]))
              have k1 : l ≤ u := hc (.leN l u) (by simp)
              have k2 : u ≤ len := hc (.leN u len) (by simp)
              have h10 := Nat.eq_of_beq_eq_true h5
              simp [evG, hx, sliceA, h1, h2, h3, h4, h10, h8, h9, k1, k2, std]
            · cases hs
          · cases hs
        · cases hs
      · cases hs
    · cases hs
  · rename_i c hx
    split at hs
    · exact hmap hs
    · rename_i hcal
      split at hs
      · rename_i x y ha
        split at hs
        · rename_i k a k' b h1 h2
          cases hs
          simp [evG, evL, hx, hcal, ha, h1, h2, std]
        · cases hs
      · cases hs
    · rename_i hcal
      split at hs
      · rename_i x y ha
        split at hs
        · rename_i k a k' b h1 h2
          cases hs
          simp [evG, evL, hx, hcal, ha, h1, h2, std]
        · cases hs
      · cases hs
    · cases hs
  · rename_i x hx; cases hs; simp [evG, evL, hx]
  · rename_i x hx; cases hs; simp [evG, evL, hx]
  · rename_i c a b hx
    split at hs
    · rename_i hq; cases hs; simp [evG, evL, hx, hq]
    · rename_i hq; cases hs; simp [evG, evL, hx, hq]
    · cases hs
  · exact hmap hs

/-! ### A store into an array -/
def updInt (O : Ar) (i : Nat) (v : Int) (sz : Nat) : Nat → Nat → Nat → List AV → Option (List AV)
  | _, _, 0, cs => some cs
  | off, j, m + 1, cs => match cellAt cs off with
    | .lit (.int .i64 x) => updInt O i v sz (off + sz) (j + 1) m (cs.set off (.lit (.int .i64 (O.ups j i v x))))
    | _ => none
def updBool (O : Ar) (i : Nat) (v : Bool) (sz : Nat) : Nat → Nat → Nat → List AV → Option (List AV)
  | _, _, 0, cs => some cs
  | off, j, m + 1, cs => match cellAt cs off with
    | .sb x => updBool O i v sz (off + sz) (j + 1) m (cs.set off (.sb (O.upsB j i v x)))
    | _ => none
theorem set_same {cs : List AV} {off : Nat} {a : AV} (h : cs[off]? = some a) : cs.set off a = cs := by
  refine List.ext_getElem? fun q => ?_
  rw [List.getElem?_set]
  split
  · rename_i hq; subst hq
    have := (List.getElem?_eq_some_iff.1 h).1
    rw [if_pos this, h]
  · rfl
theorem updInt_ok {i : Nat} {v : Int} {sz : Nat} : ∀ {m off j : Nat} {cs r : List AV}, updInt std i v sz off j m cs = some r → (i < j → r = cs) ∧ (j ≤ i → i < j + m → off + (i - j) * sz < cs.length ∧ r = cs.set (off + (i - j) * sz) (.lit (.int .i64 v)))
  | 0, off, j, cs, r, h => by simp only [updInt, Option.some.injEq] at h; subst h; exact ⟨fun _ => rfl, fun h1 h2 => by omega⟩
  | m + 1, off, j, cs, r, h => by
    simp only [updInt] at h
    split at h
    · rename_i x hx
      have hc := cellAt_some hx (by simp)
      obtain ⟨h1, h2⟩ := updInt_ok h
      have hsame : i ≠ j → cs.set off (.lit (.int .i64 (std.ups j i v x))) = cs := fun hne => by
        have : std.ups j i v x = x := if_neg hne
        rw [this]; exact set_same hc
      refine ⟨fun hlt => ?_, fun hle hlt => ?_⟩
      · rw [h1 (by omega)]; exact hsame (by omega)
      · by_cases he : i = j
        · subst he
          have : std.ups i i v x = v := if_pos rfl
          rw [h1 (by omega), this, Nat.sub_self, Nat.zero_mul]
          exact ⟨(List.getElem?_eq_some_iff.1 hc).1, rfl⟩
        · rw [hsame he] at h2
          obtain ⟨h3, h4⟩ := h2 (by omega) (by omega)
          have e : off + sz + (i - (j + 1)) * sz = off + (i - j) * sz := by
            rw [show i - j = (i - (j + 1)) + 1 from by omega, Nat.add_mul]; omega
          rw [e] at h3 h4
          exact ⟨h3, h4⟩
    · cases h
theorem updBool_ok {i : Nat} {v : Bool} {sz : Nat} : ∀ {m off j : Nat} {cs r : List AV}, updBool std i v sz off j m cs = some r → (i < j → r = cs) ∧ (j ≤ i → i < j + m → off + (i - j) * sz < cs.length ∧ r = cs.set (off + (i - j) * sz) (.sb v))
  | 0, off, j, cs, r, h => by simp only [updBool, Option.some.injEq] at h; subst h; exact ⟨fun _ => rfl, fun h1 h2 => by omega⟩
  | m + 1, off, j, cs, r, h => by
    simp only [updBool] at h
    split at h
    · rename_i x hx
      have hc := cellAt_some hx (by simp)
      obtain ⟨h1, h2⟩ := updBool_ok h
      have hsame : i ≠ j → cs.set off (.sb (std.upsB j i v x)) = cs := fun hne => by
        have : std.upsB j i v x = x := if_neg hne
        rw [this]; exact set_same hc
      refine ⟨fun hlt => ?_, fun hle hlt => ?_⟩
      · rw [h1 (by omega)]; exact hsame (by omega)
      · by_cases he : i = j
        · subst he
          have : std.upsB i i v x = v := if_pos rfl
          rw [h1 (by omega), this, Nat.sub_self, Nat.zero_mul]
          exact ⟨(List.getElem?_eq_some_iff.1 hc).1, rfl⟩
        · rw [hsame he] at h2
          obtain ⟨h3, h4⟩ := h2 (by omega) (by omega)
          have e : off + sz + (i - (j + 1)) * sz = off + (i - j) * sz := by
            rw [show i - j = (i - (j + 1)) + 1 from by omega, Nat.add_mul]; omega
          rw [e] at h3 h4
          exact ⟨h3, h4⟩
    · cases h
def storeS (O : Ar) (T : Ti) (st : St) (ρ : Operand → AV) (o : Oper) : Option (List Cond × St) := match o.op with
  | .store t p x => match ρ p, T t with
    | .ap id base n sz i k, some ti => match Nat.beq ti.size 1, st.h.get id with
      | true, some (.cells none false cs) => match ρ x with
        | .lit (.int .i64 v) => (updInt O i v sz (base + k) 0 n cs).map fun r => ([.ltN i n], ⟨st.h.set id (.cells none false r), st.n⟩)
        | .sb v => (updBool O i v sz (base + k) 0 n cs).map fun r => ([.ltN i n], ⟨st.h.set id (.cells none false r), st.n⟩)
        | .lit (.bool v) => (updBool O i v sz (base + k) 0 n cs).map fun r => ([.ltN i n], ⟨st.h.set id (.cells none false r), st.n⟩)
        | _ => none
      | _, _ => none
    | _, _ => none
  | _ => none
theorem setsL_one (cs : List AV) (off : Nat) (a : AV) : setsL cs off [a] = cs.set off a := rfl
theorem storeS_ok {T : Ti} {st st' : St} {ρ : Operand → AV} {o : Oper} {cs : List Cond} (h : storeS std T st ρ o = some (cs, st')) (hc : ∀ c ∈ cs, c.holds) : storeO T st ρ o = some st' := by
  unfold storeS at h
  split at h
  · rename_i t p x hx
    split at h
    · rename_i id base n sz i k ti hp ht
      split at h
      · rename_i cl hsz hg
        have hsz := Nat.eq_of_beq_eq_true hsz
        have key : ∀ (a b : AV), ρ x = a → a.cells = [a] → a.one = true → a.norm = b → base + k + i * sz < cl.length → st' = ⟨st.h.set id (.cells none false (cl.set (base + k + i * sz) b)), st.n⟩ → storeO T st ρ o = some st' := fun a b h1 h2 h3 h4 h5 h6 => by
          simp only [storeO, hx, storeA, hp, ptrOf, ht, hg, h1, h2, hsz, List.length_singleton, List.map_cons, List.map_nil, h4, setsL_one, List.all_cons, h3, List.all_nil]
          rw [show base + i * sz + k = base + k + i * sz from by omega, if_pos ⟨by simp, by omega, by simp, by simp⟩, h6]
        split at h
        · rename_i v hv
          rw [Option.map_eq_some_iff] at h
          obtain ⟨r, h1, h2⟩ := h
          cases h2
          have hi : i < n := hc (.ltN i n) (by simp)
          obtain ⟨h3, h4⟩ := (updInt_ok h1).2 (Nat.zero_le _) (by omega)
          exact key _ _ hv rfl rfl rfl (by simpa using h3) (by rw [h4]; rfl)
        · rename_i v hv
          rw [Option.map_eq_some_iff] at h
          obtain ⟨r, h1, h2⟩ := h
          cases h2
          have hi : i < n := hc (.ltN i n) (by simp)
          obtain ⟨h3, h4⟩ := (updBool_ok h1).2 (Nat.zero_le _) (by omega)
          exact key _ _ hv rfl rfl rfl (by simpa using h3) (by rw [h4]; rfl)
        · rename_i v hv
          rw [Option.map_eq_some_iff] at h
          obtain ⟨r, h1, h2⟩ := h
          cases h2
          have hi : i < n := hc (.ltN i n) (by simp)
          obtain ⟨h3, h4⟩ := (updBool_ok h1).2 (Nat.zero_le _) (by omega)
          exact key _ _ hv rfl rfl rfl (by simpa using h3) (by rw [h4]; rfl)
        · cases h
      · cases h
    · cases h
  · cases h

/-! ### Operation by operation -/
inductive ROut where
  | done (cs : List Cond) (f : Fm) (st : St)
  | stop (cs : List Cond) (rest : List Nat) (f : Fm) (st : St)

def runO (O : Ar) (T : Ti) (ops : Array Oper) : List Nat → List Cond → Fm → St → ROut
  | [], cs, f, st => .done cs f st
  | i :: l, cs, f, st => match ops[i]? with
    | none => .stop cs (i :: l) f st
    | some o => match wantA ops f.ts o with
      | some false => runO O T ops l cs (f.put o.dst undA) st
      | none => .stop cs (i :: l) f st
      | some true => match stE O T st.h (Operand.av f.ts) o with
        | some (c, r) => runO O T ops l (c ++ cs) (f.put o.dst r) st
        | none => match evF T st.n (Operand.av f.ts) o with
          | some (r, cells) => runO O T ops l cs (f.put o.dst r) (st.push (.cells none false cells))
          | none => match storeS O T st (Operand.av f.ts) o with
            | some (c, st') => runO O T ops l (c ++ cs) (f.put o.dst undA) st'
            | none => match storeO T st (Operand.av f.ts) o with
            | some st' => runO O T ops l cs (f.put o.dst undA) st'
            | none => match appendO T st (Operand.av f.ts) o with
              | some (r, st') => runO O T ops l cs (f.put o.dst r) st'
              | none => .stop cs (i :: l) f st

def ROut.cs : ROut → List Cond
  | .done cs _ _ => cs
  | .stop cs _ _ _ => cs
def ROut.post (P : Program) (rd : Option Nat) (ops : Array Oper) (K : Fm → St → Prop) : ROut → Prop
  | .done _ f st => K f st
  | .stop _ l f st => OpsW P rd ops l K f st

theorem runO_cs {O : Ar} {T : Ti} {ops : Array Oper} : ∀ (l : List Nat) (cs : List Cond) (f : Fm) (st : St), ∀ c ∈ cs, c ∈ (runO O T ops l cs f st).cs
  | [], cs, f, st, c, h => h
  | i :: l, cs, f, st, c, h => by
    unfold runO
    split
    · exact h
    · split
      · exact runO_cs l _ _ _ c h
      · exact h
      · split
        · exact runO_cs l _ _ _ c (List.mem_append_right _ h)
        · split
          · exact runO_cs l _ _ _ c h
          · split
            · exact runO_cs l _ _ _ c (List.mem_append_right _ h)
            · split
              · exact runO_cs l _ _ _ c h
              · split
                · exact runO_cs l _ _ _ c h
                · exact h

theorem runO_ok {P : Program} {T : Ti} (hT : TOk P T) {rd : Option Nat} {ops : Array Oper} {K : Fm → St → Prop} : ∀ (l : List Nat) (cs : List Cond) (f : Fm) (st : St), (∀ c ∈ (runO std T ops l cs f st).cs, c.holds) →
    (runO std T ops l cs f st).post P rd ops K → OpsW P rd ops l K f st
  | [], cs, f, st, _, h => .nil h
  | i :: l, cs, f, st, hc, h => by
    have hcs := runO_cs (O := std) (T := T) (ops := ops) (i :: l) cs f st
    unfold runO at hc h
    split at h
    · exact h
    · rename_i o ho
      simp only [ho] at hc
      split at h
      · rename_i hw
        simp only [hw] at hc
        exact .skip ho hw (runO_ok hT l _ _ _ hc h)
      · exact h
      · rename_i hw
        simp only [hw] at hc
        split at h
        · rename_i c r hs
          simp only [hs] at hc
          refine .light hT ho hw (stE_ok hs fun x hx => hc x (runO_cs l _ _ _ x (List.mem_append_left _ hx))) (runO_ok hT l _ _ _ hc h)
        · rename_i hs
          simp only [hs] at hc
          split at h
          · rename_i r cells hf
            simp only [hf] at hc
            exact .fresh hT ho hw hf (runO_ok hT l _ _ _ hc h)
          · rename_i hf
            simp only [hf] at hc
            split at h
            · rename_i c st' hst
              simp only [hst] at hc
              exact .store hT ho hw (storeS_ok hst fun x hx => hc x (runO_cs l _ _ _ x (List.mem_append_left _ hx))) (runO_ok hT l _ _ _ hc h)
            rename_i hst0
            simp only [hst0] at hc
            split at h
            · rename_i st' hst
              simp only [hst] at hc
              exact .store hT ho hw hst (runO_ok hT l _ _ _ hc h)
            · rename_i hst
              simp only [hst] at hc
              split at h
              · rename_i r st' ha
                simp only [ha] at hc
                exact .append hT ho hw ha (runO_ok hT l _ _ _ hc h)
              · exact h

/-- RUN. -/
theorem OpsW.run {P : Program} {T : Ti} (hT : TOk P T) {O : Ar} (hO : O = std) {rd : Option Nat} {ops : Array Oper} {K : Fm → St → Prop} {l : List Nat} {f : Fm} {st : St} {R : ROut} (hR : runO O T ops l [] f st = R) (hc : allC R.cs) (h : R.post P rd ops K) : OpsW P rd ops l K f st := by
  subst hO; subst hR
  exact runO_ok hT l [] f st (allC_ok hc) h
theorem SW.run {P : Program} {T : Ti} (hT : TOk P T) {O : Ar} (hO : O = std) {rd : Option Nat} {id : Nat} {ops : Array Oper} {Q : Exit → Fm → St → Prop} {f : Fm} {st : St} {R : ROut} (hR : runO O T ops (List.range ops.size) [] f st = R) (hc : allC R.cs) (h : R.post P rd ops (fun f st => Q .normal f st)) : SW P rd (.region id ops false) Q f st :=
  SW.region (OpsW.run hT hO hR hc h)

/-- The same ahead of more code. -/
def ROut.postS (P : Program) (rd : Option Nat) (ops : Array Oper) (y : Code) (Q : Exit → Fm → St → Prop) : ROut → Prop
  | .done _ f st => SW P rd y Q f st
  | .stop _ l f st => OpsW P rd ops l (fun f st => SW P rd y Q f st) f st
theorem SW.seqRun {P : Program} {T : Ti} (hT : TOk P T) {O : Ar} (hO : O = std) {rd : Option Nat} {id : Nat} {ops : Array Oper} {y : Code} {Q : Exit → Fm → St → Prop} {f : Fm} {st : St} {R : ROut} (hR : runO O T ops (List.range ops.size) [] f st = R) (hc : allC R.cs) (h : R.postS P rd ops y Q) : SW P rd (.seq (.region id ops false) y) Q f st :=
  SW.seq (SW.run hT hO hR hc (by cases R <;> exact h))

/-- A truth value that is not known: both ways. -/
theorem OpsW.split {P : Program} {rd : Option Nat} {ops : Array Oper} {K : Fm → St → Prop} {l : List Nat} {f : Fm} {st : St} (t : Nat) {b : Bool} (hg : f.ts.get t = .sb b) (h1 : b = true → OpsW P rd ops l K ⟨f.ts.put t (.lit (.bool true)), f.dm⟩ st) (h0 : b = false → OpsW P rd ops l K ⟨f.ts.put t (.lit (.bool false)), f.dm⟩ st) :
    OpsW P rd ops l K f st := by
  have key : ∀ c, b = c → OpsW P rd ops l K ⟨f.ts.put t (.lit (.bool c)), f.dm⟩ st → OpsW P rd ops l K f st := fun c hbc h φ w a n Q k1 k2 k3 k4 => by
    subst hbc
    refine h φ w a n Q k1 k2 ⟨⟨?_, fun i => ?_⟩, k3.dm, k3.lt⟩ k4
    · rw [Ts.put_len]; exact k3.ts.size
    · rw [getT_put]
      split
      · rename_i hc
        obtain ⟨_, rfl⟩ := hc
        have h5 := k3.ts.get t
        rw [hg] at h5
        rw [h5.sb_inv]; exact .lit _
      · exact k3.ts.get i
  cases b with
  | true => exact key true rfl (h1 rfl)
  | false => exact key false rfl (h0 rfl)
end Go.Fz

/-
  LOOPS THAT MAKE OBJECTS ROUND AFTER ROUND: what stays is given its names anew. Own work of the verifier of watercress.
-/
namespace Go.Fz
variable {P : Program} {T : Ti}

def renF (φ : Fi) (ρ : Nat → Nat) (n : Nat) : Fi := ⟨fun j => φ.f (ρ j), n, φ.z⟩
/-- The one value, by the new names, is the other by the old ones. -/
def RenV (ρ : Nat → Nat) (n : Nat) (a2 a1 : AV) : Prop := ∀ (φ : Fi) (u : Value), VR φ a1 u → VR (renF φ ρ n) a2 u
theorem RenV.closed {ρ : Nat → Nat} {n : Nat} {a : AV} (h : Below 0 a) : RenV ρ n a a := fun φ u hv =>
  VR.mono (φ := ⟨φ.f, 0, φ.z⟩) (φ' := renF φ ρ n) ⟨Nat.zero_le _, fun id hid => absurd hid (Nat.not_lt_zero id), fun b c hb => hb⟩ (h φ u hv)
theorem RenV.any {ρ : Nat → Nat} {n : Nat} {a : AV} : RenV ρ n .any a := fun _ _ _ => .any _
theorem RenV.eqv {ρ : Nat → Nat} {n : Nat} {a2 a1 a0 : AV} (h : RenV ρ n a2 a1) (he : Eqv a0 a1) : RenV ρ n a2 a0 := fun φ u hv => h φ u (he φ u hv)
theorem RenV.ptr {ρ : Nat → Nat} {n j off : Nat} (h : j < n) : RenV ρ n (.ptr j off) (.ptr (ρ j) off) := fun φ _ hv => by cases hv; exact .ptr (φ := renF φ ρ n) j off h
theorem RenV.sl {ρ : Nat → Nat} {n j off len sz : Nat} {ex : Bool} (h : j < n) : RenV ρ n (.sl j off len sz ex) (.sl (ρ j) off len sz ex) := fun φ _ hv => by
  cases hv with
  | sl _ _ _ _ _ cap h1 h2 h3 h4 => exact .sl (φ := renF φ ρ n) j off len sz ex cap h h2 h3 h4
theorem RenV.mp {ρ : Nat → Nat} {n j : Nat} (h : j < n) : RenV ρ n (.mp j) (.mp (ρ j)) := fun φ _ hv => by cases hv; exact .mp (φ := renF φ ρ n) j h
theorem RenV.yld {ρ : Nat → Nat} {n j : Nat} (h : j < n) : RenV ρ n (.yld j) (.yld (ρ j)) := fun φ _ hv => by cases hv; exact .yld (φ := renF φ ρ n) j h
inductive RenVs (ρ : Nat → Nat) (n : Nat) : List AV → List AV → Prop
  | nil : RenVs ρ n [] []
  | cons {a2 a1 : AV} {l2 l1 : List AV} (h : RenV ρ n a2 a1) (t : RenVs ρ n l2 l1) : RenVs ρ n (a2 :: l2) (a1 :: l1)
theorem RenVs.ok {ρ : Nat → Nat} {n : Nat} {φ : Fi} : ∀ {l2 l1 : List AV} {us : List Value}, RenVs ρ n l2 l1 → VRL φ l1 us → VRL (renF φ ρ n) l2 us
  | _, _, _, .nil, h => by cases h; exact .nil
  | _, _, _, .cons h t, hv => by cases hv with | cons h1 h2 => exact .cons (h _ _ h1) (t.ok h2)
theorem RenVs.get {ρ : Nat → Nat} {n : Nat} : ∀ {l2 l1 : List AV}, RenVs ρ n l2 l1 → ∀ (i : Nat) (a2 : AV), l2[i]? = some a2 → ∃ a1, l1[i]? = some a1 ∧ RenV ρ n a2 a1
  | _, _, .nil, i, a2, h => by simp at h
  | _, _, .cons h t, 0, a2, ha => by simp at ha; subst ha; exact ⟨_, rfl, h⟩
  | _, _, .cons h t, i + 1, a2, ha => by simpa using t.get i a2 (by simpa using ha)
theorem RenVs.length {ρ : Nat → Nat} {n : Nat} : ∀ {l2 l1 : List AV}, RenVs ρ n l2 l1 → l2.length = l1.length
  | _, _, .nil => rfl
  | _, _, .cons _ t => by simp [t.length]
theorem RenVs.closed {ρ : Nat → Nat} {n : Nat} : ∀ {l : List AV}, (∀ a ∈ l, Below 0 a) → RenVs ρ n l l
  | [], _ => .nil
  | a :: l, h => .cons (RenV.closed (h a List.mem_cons_self)) (RenVs.closed fun x hx => h x (List.mem_cons_of_mem _ hx))
theorem RenV.agg {ρ : Nat → Nat} {n : Nat} {l2 l1 : List AV} (h : RenVs ρ n l2 l1) : RenV ρ n (.agg l2) (.agg l1) := fun φ _ hv => by
  obtain ⟨us, rfl, h1⟩ := hv.agg_inv
  exact .agg (h.ok h1)
theorem RenV.fn {ρ : Nat → Nat} {n : Nat} {f : Fn} {l2 l1 m2 m1 : List AV} (h : RenVs ρ n l2 l1) (k : RenVs ρ n m2 m1) : RenV ρ n (.fn f l2 m2) (.fn f l1 m1) := fun φ _ hv => by
  obtain ⟨us, vs, rfl, h1, h2⟩ := hv.fn_inv
  exact .fn _ (h.ok h1) (k.ok h2)

inductive RenO (ρ : Nat → Nat) (n : Nat) : AObj → AObj → Prop
  | cells {fm : Option Nat} {ro : Bool} {l2 l1 : List AV} (h : RenVs ρ n l2 l1) : RenO ρ n (.cells none ro l2) (.cells fm ro l1)
  | dfr : RenO ρ n .dfr .dfr
  | loop {r2 r1 : ALoop} (h1 : r2.state = r1.state) (h2 : r2.pending = r1.pending) (h3 : r2.params = r1.params) (h4 : r2.assign = r1.assign) (h5 : r2.body = r1.body) (h6 : r1.dfid = ρ r2.dfid) (h7 : r2.dfid < n) (h8 : r2.tmps.len = r1.tmps.len)
      (h9 : ∀ i, RenV ρ n (r2.tmps.get i) (r1.tmps.get i)) : RenO ρ n (.loop r2) (.loop r1)

theorem ObjR.ren {φ : Fi} {w : World} {ρ : Nat → Nat} {n id : Nat} {o2 o1 : AObj} (h : RenO ρ n o2 o1) (ho : ObjR φ w (ρ id) o1) : ObjR (renF φ ρ n) w id o2 := by
  cases h with
  | cells h =>
    refine ⟨fun i a ha => ?_, fun hro => ?_⟩
    · obtain ⟨a1, h1, h2⟩ := h.get i a ha
      obtain ⟨v, h3, h4⟩ := ho.1 i a1 h1
      exact ⟨v, h3, h2 _ _ h4⟩
    · obtain ⟨c, t, h1, h2, h3⟩ := ho.2 hro
      exact ⟨c, t, h1, h2, by rw [h.length]; exact h3⟩
  | dfr => exact ho
  | loop h1 h2 h3 h4 h5 h6 h7 h8 h9 =>
    obtain ⟨L, k1, k2, k3, k4, k5, k6, k7, k8, k9⟩ := ho
    exact ⟨L, k1, by rw [h1]; exact k2, by rw [h2]; exact k3, ⟨by rw [h8]; exact k4.size, fun i => h9 i _ _ (k4.get i)⟩, by rw [h3]; exact k5, by rw [h4]; exact k6, by rw [h5]; exact k7, h7, by rw [k9, h6]; rfl⟩

structure WeakR (n0 : Nat) (ρ : Nat → Nat) (f1 : Fm) (st1 : St) (f2 : Fm) (st2 : St) : Prop where
  len : f2.ts.len = f1.ts.len
  dm : f2.dm = f1.dm
  dmlt : ∀ id ∈ f2.dm, id < n0
  idn : ∀ j, j < n0 → ρ j = j
  get : ∀ i, RenV ρ st2.n (f2.ts.get i) (f1.ts.get i)
  lo : n0 ≤ st2.n
  obj : ∀ id o, st2.h.get id = some o → id < st2.n ∧ ∃ o1, st1.h.get (ρ id) = some o1 ∧ RenO ρ st2.n o o1
  sep : ∀ i j oi oj, st2.h.get i = some oi → st2.h.get j = some oj → i ≠ j → ∀ pi pj, st1.h.get (ρ i) = some pi → st1.h.get (ρ j) = some pj → ρ i ≠ ρ j ∧ ¬ Mates pi pj

theorem RenO.own {ρ : Nat → Nat} {n : Nat} {o2 o1 : AObj} (h : RenO ρ n o2 o1) : o2.own = o1.own := by cases h <;> rfl

theorem WeakR.ok {n0 : Nat} {ρ : Nat → Nat} {f1 f2 : Fm} {st1 st2 : St} (hw : WeakR n0 ρ f1 st1 f2 st2) {φ : Fi} {w : World} {a : Act} (hr : Rel φ st1 w) (ha : ActR φ f1 a) :
    Rel (renF φ ρ st2.n) st2 w ∧ ActR (renF φ ρ st2.n) f2 a ∧ Fr φ st1 w (renF φ ρ st2.n) st2 w := by
  have hown : ∀ k, Owns (renF φ ρ st2.n) st2 k → Owns φ st1 k := fun k ⟨id, o, h, ho, hb⟩ => by
    obtain ⟨_, o1, h1, h2⟩ := hw.obj id o h
    exact ⟨ρ id, o1, h1, by rw [← h2.own]; exact ho, hb⟩
  refine ⟨⟨rfl, fun id o h => (hw.obj id o h).1, fun id o h => ?_, fun id o h => ?_, fun i j oi oj hi hj hij hio hb => ?_, fun id o f h hf => ?_, fun b c hb => ?_⟩, ⟨⟨?_, fun i => hw.get i _ _ (ha.ts.get i)⟩, ?_, fun id hid => Nat.lt_of_lt_of_le (hw.dmlt id hid) hw.lo⟩,
    ⟨rfl, rfl, rfl, Nat.le_refl _, fun _ _ _ => rfl, fun k hk => .inl (hown k hk), fun b c hb => .inl hb⟩⟩
  · obtain ⟨_, o1, h1, _⟩ := hw.obj id o h
    exact hr.blk _ _ h1
  · obtain ⟨_, o1, h1, h2⟩ := hw.obj id o h
    exact (hr.obj _ _ h1).ren h2
  · exfalso
    obtain ⟨_, pi, h1, h2⟩ := hw.obj i oi hi
    obtain ⟨_, pj, h3, h4⟩ := hw.obj j oj hj
    obtain ⟨k1, k2⟩ := hw.sep i j oi oj hi hj hij pi pj h1 h3
    exact k2 (hr.sep (ρ i) (ρ j) pi pj h1 h3 k1 (by rw [← h2.own]; exact hio) hb).1
  · obtain ⟨_, o1, h1, h2⟩ := hw.obj id o h
    cases h2 <;> cases hf
  · obtain ⟨h1, h2, h3⟩ := hr.froz b c hb
    refine ⟨h1, h2, fun id o h ho => ?_⟩
    obtain ⟨_, o1, h4, h5⟩ := hw.obj id o h
    exact h3 _ _ h4 (by rw [← h5.own]; exact ho)
  · rw [hw.len]; exact ha.ts.size
  · rw [hw.dm, ha.dm]
    refine List.map_congr_left fun id hid => ?_
    have : ρ id = id := hw.idn id (hw.dmlt id (by rw [hw.dm]; exact hid))
    show _ = Deferred.mk (.collected (φ.f (ρ id)).b) #[]
    rw [this]

/-- A LOOP, by variables x, whose rounds make objects. -/
theorem SW.loopR {α : Type} {rd : Option Nat} {c : Code} {Q : Exit → Fm → St → Prop} {f : Fm} {st : St} (F : α → Fm) (S : α → St) (m : α → Nat) (Inv : α → Prop) (x0 : α) (h0 : Inv x0) (ρ0 : Nat → Nat) (hw : WeakR st.n ρ0 f st (F x0) (S x0))
    (hround : ∀ x, Inv x → SW P rd c (thenQ (fun f' st' => ∃ x', m x' < m x ∧ Inv x' ∧ ∃ ρ, WeakR st.n ρ f' st' (F x') (S x')) Q) (F x) (S x)) : SW P rd (.loop c) Q f st := by
  intro φ w a n h1 h2 h3
  have hext : ∀ {φ2 : Fi} {ρ : Nat → Nat} {n2 : Nat}, Ext φ φ2 → (∀ j, j < st.n → ρ j = j) → st.n ≤ n2 → Ext φ (renF φ2 ρ n2) := fun {φ2 ρ n2} he hi hn =>
    ⟨by rw [h2.n]; exact hn, fun id hid => by show φ2.f (ρ id) = _; rw [hi id (by rw [← h2.n]; exact hid)]; exact he.f id hid, he.z⟩
  let J : Nat → Act → World → Prop := fun k a' w' => ∃ x φ', Inv x ∧ m x = k ∧ Ext φ φ' ∧ Rel φ' (S x) w' ∧ ActR φ' (F x) a' ∧ Fr φ st w φ' (S x) w'
  intro b kk cs hro hb hroom
  have key : ∀ k a' w', J k a' w' → ∃ e a₂ w₂, Lift φ st w Q e a₂ w₂ ∧ ArrivesIn (Machine.fenced P (FW (rdB φ rd))) P (lone (b.atR a' (.code c :: .inLoop c :: kk)) cs w') b kk cs e a₂ w₂ := by
    intro k
    induction k using Nat.strongRecOn with
    | _ k ih =>
      intro a' w' hj
      obtain ⟨x, φ', hx, hm, he, hr, ha, hf⟩ := hj
      have hr1 := hround x hx φ' w' a' n (fun id hi => Nat.lt_of_lt_of_le (h1 id hi) he.n) hr ha
      rw [rdB_ext he h1] at hr1
      obtain ⟨e, a₁, w₁, hq, harr⟩ := hr1 b (.inLoop c :: kk) cs hro hb hroom
      obtain ⟨f2, st2, φ2, hk, he2, hr2, ha2, hf2⟩ := hq
      cases e with
      | normal =>
        obtain ⟨x', hlt, hi', ρ, hwr⟩ := hk
        obtain ⟨k1, k2, k3⟩ := hwr.ok hr2 ha2
        obtain ⟨e₂, a₂, w₂, hq₂, harr₂⟩ := ih (m x') (by rw [← hm]; exact hlt) a₁ w₁ ⟨x', _, hi', rfl, hext (he.trans he2) hwr.idn hwr.lo, k1, k2, hf.trans (hf2.trans k3)⟩
        exact ⟨e₂, a₂, w₂, hq₂, .of_steps (StepsIn.trans harr (.one (fenced_calm hb hroom rfl) stepR_inLoop)) harr₂⟩
      | exit id => exact ⟨_, a₁, w₁, ⟨f2, st2, φ2, hk, he.trans he2, hr2, ha2, hf.trans hf2⟩, .pass (x := .inLoop c) rfl (fun _ _ => .inl (by simp)) harr⟩
      | goto l => exact ⟨_, a₁, w₁, ⟨f2, st2, φ2, hk, he.trans he2, hr2, ha2, hf.trans hf2⟩, .pass (x := .inLoop c) rfl (fun _ _ => .inl (by simp)) harr⟩
      | ret => exact ⟨_, a₁, w₁, ⟨f2, st2, φ2, hk, he.trans he2, hr2, ha2, hf.trans hf2⟩, .pass (x := .inLoop c) rfl (fun _ _ => .inl (by simp)) harr⟩
      | panic ch => exact ⟨_, a₁, w₁, ⟨f2, st2, φ2, hk, he.trans he2, hr2, ha2, hf.trans hf2⟩, .pass (x := .inLoop c) rfl (fun _ _ => .inl (by simp)) harr⟩
      | outgrown => exact ⟨_, a₁, w₁, ⟨f2, st2, φ2, hk, he.trans he2, hr2, ha2, hf.trans hf2⟩, .pass (x := .inLoop c) rfl (fun _ _ => .inl (by simp)) harr⟩
  obtain ⟨k1, k2, k3⟩ := hw.ok h2 h3
  obtain ⟨e, a', w', hq, harr⟩ := key (m x0) a w ⟨x0, _, h0, rfl, hext (Ext.refl _) hw.idn hw.lo, k1, k2, k3⟩
  exact ⟨e, a', w', hq, .of_steps (.one (fenced_calm hb hroom rfl) stepR_loop) harr⟩
end Go.Fz

/-
  STEPS OF A WALK: guards, calls of pure functions, regions that draw their order. Own work of the verifier of watercress.
-/
namespace Go.Fz
variable {P : Program} {T : Ti}

/-- The slot of the guard of the operation that comes next, if its truth is not known. -/
def slotOf (ops : Array Oper) (l : List Nat) (f : Fm) : Option (Nat × Bool) := match l with
  | [] => none
  | i :: _ => match ops[i]? with
    | none => none
    | some o => match o.guard with
      | none => match o.op with
        | .pick (.tmp d) _ _ => match f.ts.get d with
          | .sb b => some (d, b)
          | _ => none
        | _ => none
      | some (j, _) => match (ops[j]?).bind (·.dst) with
        | none => none
        | some d => match f.ts.get d with
          | .sb b => some (d, b)
          | _ => match o.op with
            | .pick (.tmp d) _ _ => match f.ts.get d with
              | .sb b => some (d, b)
              | _ => none
            | _ => none

theorem slotOf_ok {ops : Array Oper} {l : List Nat} {f : Fm} {t : Nat} {b : Bool} (h : slotOf ops l f = some (t, b)) : f.ts.get t = .sb b := by
  unfold slotOf at h
  split at h
  · cases h
  · split at h
    · cases h
    · split at h
      · split at h
        · split at h
          · rename_i hq; cases h; exact hq
          · cases h
        · cases h
      · split at h
        · cases h
        · split at h
          · rename_i hq; cases h; exact hq
          · split at h
            · split at h
              · rename_i hq; cases h; exact hq
              · cases h
            · cases h

theorem OpsW.splitG {rd : Option Nat} {ops : Array Oper} {K : Fm → St → Prop} {l : List Nat} {f : Fm} {st : St} {t : Nat} {b : Bool} (hs : slotOf ops l f = some (t, b)) (h1 : b = true → OpsW P rd ops l K ⟨f.ts.put t (.lit (.bool true)), f.dm⟩ st)
    (h0 : b = false → OpsW P rd ops l K ⟨f.ts.put t (.lit (.bool false)), f.dm⟩ st) : OpsW P rd ops l K f st := OpsW.split t (slotOf_ok hs) h1 h0

/-- The function that operation i calls, and all its arguments. -/
def callAt (ops : Array Oper) (i : Nat) (f : Fm) : Option (FuncId × List AV) := match ops[i]? with
  | none => none
  | some o => match wantA ops f.ts o with
    | some true => match callO (Operand.av f.ts) o with
      | some (.fn (.func g) first caps, as) => some (g, first ++ as ++ caps)
      | _ => none
    | _ => none
def putAt (ops : Array Oper) (i : Nat) (f : Fm) (v : AV) : Fm := match ops[i]? with
  | none => f
  | some o => f.put o.dst v

theorem callAt_ok {ops : Array Oper} {i : Nat} {f : Fm} {g : FuncId} {args : List AV} (h : callAt ops i f = some (g, args)) : ∃ o first caps as, ops[i]? = some o ∧ wantA ops f.ts o = some true ∧ callO (Operand.av f.ts) o = some (.fn (.func g) first caps, as) ∧ first ++ as ++ caps = args ∧ ∀ v, putAt ops i f v = f.put o.dst v := by
  unfold callAt at h
  split at h
  · cases h
  · rename_i o ho
    split at h
    · rename_i hw
      split at h
      · rename_i g' first caps as hc
        cases h
        exact ⟨o, first, caps, as, ho, hw, hc, rfl, fun v => by simp [putAt, ho]⟩
      · cases h
    · cases h

theorem OpsW.callP {rd : Option Nat} {ops : Array Oper} {i : Nat} {l : List Nat} {K : Fm → St → Prop} {f : Fm} {st : St} {g : FuncId} {args : List AV} {r : AV} (hp : Pure P g args r) (hc : callAt ops i f = some (g, args)) (h : OpsW P rd ops l K (putAt ops i f r) st) : OpsW P rd ops (i :: l) K f st := by
  obtain ⟨o, first, caps, as, ho, hw, hcc, ha, hput⟩ := callAt_ok hc
  subst ha
  rw [hput] at h
  exact OpsW.pure hp ho hw hcc h
theorem OpsW.callB {rd : Option Nat} {ops : Array Oper} {i : Nat} {l : List Nat} {K : Fm → St → Prop} {f : Fm} {st : St} {g : FuncId} {args : List AV} {e : Bool} (hp : Pure P g args (.sb e)) (hc : callAt ops i f = some (g, args)) (h : ∀ b, b = e → OpsW P rd ops l K (putAt ops i f (.sb b)) st) : OpsW P rd ops (i :: l) K f st :=
  OpsW.callP hp hc (h e rfl)
theorem OpsW.callI {rd : Option Nat} {ops : Array Oper} {i : Nat} {l : List Nat} {K : Fm → St → Prop} {f : Fm} {st : St} {g : FuncId} {args : List AV} {k : IntKind} {e : Int} (hp : Pure P g args (.lit (.int k e))) (hc : callAt ops i f = some (g, args)) (h : ∀ n, n = e → OpsW P rd ops l K (putAt ops i f (.lit (.int k n))) st) : OpsW P rd ops (i :: l) K f st :=
  OpsW.callP hp hc (h e rfl)

/-! ### Regions that draw their order -/
inductive DOut where
  | done (cs : List Cond) (f : Fm) (st : St)
  | stop (cs : List Cond) (fuel : Nat) (pend : List (Nat × AV)) (listed : Array Bool) (f : Fm) (st : St)
def DOut.cs : DOut → List Cond
  | .done cs _ _ => cs
  | .stop cs _ _ _ _ _ => cs

def pickD (O : Ar) (T : Ti) (ops : Array Oper) (pend : List (Nat × AV)) (h : Hp) (f : Fm) : List Nat → Option (Nat × Oper × List Cond × AV)
  | [] => none
  | i :: l => match ops[i]? with
    | none => pickD O T ops pend h f l
    | some o => match noLookB ops pend o with
      | false => pickD O T ops pend h f l
      | true => match wantA ops f.ts o with
        | some false => some (i, o, [], undA)
        | some true => match stE O T h (Operand.av f.ts) o with
          | some (c, r) => some (i, o, c, r)
          | none => pickD O T ops pend h f l
        | none => pickD O T ops pend h f l

def isCmp (o : Oper) : Bool := match o.op with
  | .binOp .. | .unOp .. => true
  | _ => false
def runD (O : Ar) (T : Ti) (ops : Array Oper) : Nat → List (Nat × AV) → Array Bool → List Cond → Fm → St → DOut
  | 0, pend, listed, cs, f, st => match Region.ready .any ops listed with
    | [] => .done cs f st
    | _ => .stop cs 0 pend listed f st
  | fuel + 1, pend, listed, cs, f, st => match Region.ready .any ops listed with
    | [] => .done cs f st
    | rs => match pickD O T ops pend st.h f rs with
      | some (i, o, c, .sb b) => match isCmp o with
        | true => .stop cs (fuel + 1) pend listed f st
        | false => runD O T ops fuel ((i, .sb b) :: pend) (listed.setIfInBounds i true) (c ++ cs) (f.put o.dst (.sb b)) st
      | some (i, o, c, r) => runD O T ops fuel ((i, r) :: pend) (listed.setIfInBounds i true) (c ++ cs) (f.put o.dst r) st
      | none => .stop cs (fuel + 1) pend listed f st

def DOut.post (P : Program) (T : Ti) (rd : Option Nat) (ops : Array Oper) (K : Fm → St → Prop) : DOut → Prop
  | .done _ f st => K f st
  | .stop _ fuel pend listed f st => AnyE P T ops (masks ops) rd K fuel pend listed f st

theorem pickD_ok {O : Ar} {ops : Array Oper} {pend : List (Nat × AV)} {h : Hp} {f : Fm} {i : Nat} {o : Oper} {c : List Cond} {r : AV} (hO : O = std) : ∀ {l : List Nat}, pickD O T ops pend h f l = some (i, o, c, r) → i ∈ l ∧ ops[i]? = some o ∧ noLookB ops pend o = true ∧ ((∀ x ∈ c, x.holds) → lightV T ops h f i = some r)
  | [], hp => by cases hp
  | j :: l, hp => by
    subst hO
    have next : pickD std T ops pend h f l = some (i, o, c, r) → i ∈ j :: l ∧ ops[i]? = some o ∧ noLookB ops pend o = true ∧ ((∀ x ∈ c, x.holds) → lightV T ops h f i = some r) := fun hq => by
      obtain ⟨h1, h2⟩ := pickD_ok rfl hq
      exact ⟨List.mem_cons_of_mem _ h1, h2⟩
    unfold pickD at hp
    split at hp
    · exact next hp
    · rename_i oj hoj
      split at hp
      · exact next hp
      · rename_i hnl
        split at hp
        · rename_i hw
          cases hp
          exact ⟨List.mem_cons_self, hoj, hnl, fun _ => by simp [Fz.lightV, hoj, hw]⟩
        · rename_i hw
          split at hp
          · rename_i c' r' hs
            cases hp
            exact ⟨List.mem_cons_self, hoj, hnl, fun hc => by simp only [Fz.lightV, hoj, hw]; exact stE_ok hs hc⟩
          · exact next hp
        · exact next hp

theorem runD_cs {O : Ar} {ops : Array Oper} : ∀ (fuel : Nat) (pend : List (Nat × AV)) (listed : Array Bool) (cs : List Cond) (f : Fm) (st : St), ∀ c ∈ cs, c ∈ (runD O T ops fuel pend listed cs f st).cs
  | 0, _, _, cs, _, _, c, h => by
    unfold runD
    split <;> exact h
  | fuel + 1, pend, listed, cs, f, st, c, h => by
    unfold runD
    split
    · exact h
    · split
      · split
        · exact h
        · exact runD_cs fuel _ _ _ _ _ c (List.mem_append_right _ h)
      · exact runD_cs fuel _ _ _ _ _ c (List.mem_append_right _ h)
      · exact h

theorem runD_ok (hT : TOk P T) {O : Ar} (hO : O = std) {rd : Option Nat} {ops : Array Oper} {K : Fm → St → Prop} (hM : tidyB ops (masks ops) = true) : ∀ (fuel : Nat) (pend : List (Nat × AV)) (listed : Array Bool) (cs : List Cond) (f : Fm) (st : St),
    (∀ c ∈ (runD O T ops fuel pend listed cs f st).cs, c.holds) → (runD O T ops fuel pend listed cs f st).post P T rd ops K → AnyE P T ops (masks ops) rd K fuel pend listed f st
  | 0, _, _, _, _, _, _, h => by
    unfold runD at h
    split at h
    · rename_i hr
      exact .done (by rw [hr]; rfl) h
    · exact h
  | fuel + 1, pend, listed, cs, f, st, hc, h => by
    unfold runD at hc h
    split at h
    · rename_i hr
      exact .done (by rw [hr]; rfl) h
    · rename_i hr
      split at h
      · rename_i i o c b hp
        obtain ⟨h1, h2, h3, h4⟩ := pickD_ok hO hp
        simp only [hp] at hc
        split at h
        · exact h
        · rename_i hcmp
          simp only [hcmp] at hc
          have hl := h4 fun x hx => hc x (runD_cs fuel _ _ _ _ _ x (List.mem_append_left _ hx))
          refine .take hM hT i h2 ?_ hl (runD_ok hT hO hM fuel _ _ _ _ _ hc h)
          rw [h3, Bool.and_true]
          exact List.contains_iff_mem.2 h1
      · rename_i i o c r hnsb hp
        obtain ⟨h1, h2, h3, h4⟩ := pickD_ok hO hp
        simp only [hp] at hc
        have hl := h4 fun x hx => hc x (runD_cs fuel _ _ _ _ _ x (List.mem_append_left _ hx))
        refine .take hM hT i h2 ?_ hl (runD_ok hT hO hM fuel _ _ _ _ _ hc h)
        rw [h3, Bool.and_true]
        exact List.contains_iff_mem.2 h1
      · exact h

theorem SW.runD (hT : TOk P T) (hm : P.follows .mixedOrders = true) {O : Ar} (hO : O = std) {rd : Option Nat} {id : Nat} {ops : Array Oper} {Q : Exit → Fm → St → Prop} {f : Fm} {st : St} {R : DOut} (hM : tidyB ops (masks ops) = true)
    (hR : Fz.runD O T ops ops.size [] (Array.replicate ops.size false) [] f st = R) (hc : allC R.cs) (h : R.post P T rd ops (fun f st => Q .normal f st)) : SW P rd (.region id ops true) Q f st := by
  subst hR
  exact SW.drawnE hm hM (runD_ok hT hO hM _ _ _ _ _ _ (allC_ok hc) h)

def DOut.postS (P : Program) (T : Ti) (rd : Option Nat) (ops : Array Oper) (y : Code) (Q : Exit → Fm → St → Prop) : DOut → Prop
  | .done _ f st => SW P rd y Q f st
  | .stop _ fuel pend listed f st => AnyE P T ops (masks ops) rd (fun f st => SW P rd y Q f st) fuel pend listed f st
theorem SW.seqRunD (hT : TOk P T) (hm : P.follows .mixedOrders = true) {O : Ar} (hO : O = std) {rd : Option Nat} {id : Nat} {ops : Array Oper} {y : Code} {Q : Exit → Fm → St → Prop} {f : Fm} {st : St} {R : DOut} (hM : tidyB ops (masks ops) = true)
    (hR : Fz.runD O T ops ops.size [] (Array.replicate ops.size false) [] f st = R) (hc : allC R.cs) (h : R.postS P T rd ops y Q) : SW P rd (.seq (.region id ops true) y) Q f st :=
  SW.seq (SW.runD hT hm hO hM hR hc (by cases R <;> exact h))

theorem AnyE.run (hT : TOk P T) {O : Ar} (hO : O = std) {rd : Option Nat} {ops : Array Oper} {K : Fm → St → Prop} {fuel : Nat} {pend : List (Nat × AV)} {listed : Array Bool} {f : Fm} {st : St} {R : DOut} (hM : tidyB ops (masks ops) = true)
    (hR : Fz.runD O T ops fuel pend listed [] f st = R) (hc : allC R.cs) (h : R.post P T rd ops K) : AnyE P T ops (masks ops) rd K fuel pend listed f st := by
  subst hR
  exact runD_ok hT hO hM _ _ _ _ _ _ (allC_ok hc) h

/-- A comparison in a region that draws its order: both ways. -/
def cmpD (O : Ar) (T : Ti) (ops : Array Oper) (pend : List (Nat × AV)) (listed : Array Bool) (f : Fm) (st : St) : Option (Nat × Oper × List Cond × Bool) := match pickD O T ops pend st.h f (Region.ready .any ops listed) with
  | some (i, o, c, .sb b) => some (i, o, c, b)
  | _ => none
theorem AnyE.dec (hT : TOk P T) {O : Ar} (hO : O = std) {rd : Option Nat} {ops : Array Oper} {K : Fm → St → Prop} {fuel : Nat} {pend : List (Nat × AV)} {listed : Array Bool} {f : Fm} {st : St} {i : Nat} {o : Oper} {cs : List Cond} {b : Bool} (hM : tidyB ops (masks ops) = true)
    (hp : cmpD O T ops pend listed f st = some (i, o, cs, b)) (hc : allC cs)
    (h1 : b = true → AnyE P T ops (masks ops) rd K fuel ((i, .lit (.bool true)) :: pend) (listed.setIfInBounds i true) (f.put o.dst (.lit (.bool true))) st)
    (h0 : b = false → AnyE P T ops (masks ops) rd K fuel ((i, .lit (.bool false)) :: pend) (listed.setIfInBounds i true) (f.put o.dst (.lit (.bool false))) st) : AnyE P T ops (masks ops) rd K (fuel + 1) pend listed f st := by
  unfold cmpD at hp
  split at hp
  · rename_i i' o' c' b' hq
    cases hp
    obtain ⟨k1, k2, k3, k4⟩ := pickD_ok hO hq
    have hl := k4 (allC_ok hc)
    have hb : ((Region.ready .any ops listed).contains i && noLookB ops pend o) = true := by
      rw [k3, Bool.and_true]
      exact List.contains_iff_mem.2 k1
    cases hbb : b with
    | true => exact .takeE hM hT i k2 hb ⟨_, hl, Eqv.lit hbb⟩ (h1 hbb)
    | false => exact .takeE hM hT i k2 hb ⟨_, hl, Eqv.lit hbb⟩ (h0 hbb)
  · cases hp

/-- The one operation that is ready. -/
def onlyD (ops : Array Oper) (M : List Nat) (pend : List (Nat × AV)) (listed : Array Bool) : Option (Nat × List (Nat × AV)) := match Region.ready .any ops listed with
  | [j] => match ops[j]? with
    | some o => match noLookB ops (dropP M j pend) o with
      | true => some (j, dropP M j pend)
      | false => none
    | none => none
  | _ => none

theorem AnyE.callP {rd : Option Nat} {ops : Array Oper} {M : List Nat} {K : Fm → St → Prop} {fuel : Nat} {pend pend' : List (Nat × AV)} {listed : Array Bool} {f : Fm} {st : St} {j : Nat} {g : FuncId} {args : List AV} {r : AV} (hp : Pure P g args r)
    (hj : onlyD ops M pend listed = some (j, pend')) (hc : callAt ops j f = some (g, args)) (h : AnyE P T ops M rd K fuel pend' (listed.setIfInBounds j true) (putAt ops j f r) st) : AnyE P T ops M rd K (fuel + 1) pend listed f st := fun k1 k2 k3 => by
  unfold onlyD at hj
  split at hj
  · rename_i j' hr
    split at hj
    · rename_i o ho
      split at hj
      · rename_i hnl
        cases hj
        obtain ⟨o', first, caps, as, ho', hw, hcc, ha, hput⟩ := callAt_ok hc
        rw [ho] at ho'; cases ho'
        subst ha
        rw [hput] at h
        refine AnyE.one j ho (by rw [hr]; exact Nat.beq_refl j) _ rfl (OpsW.pure hp ho hw hcc (.nil ⟨⟨_, rfl⟩, fun p hpm => ?_, h⟩)) k1 k2 k3
        show LV T ops st.h (f.put o.dst r) p.1 p.2
        rw [LV_put (fun q hq d hd => noLookB_ok hnl p hpm q hq d hd)]
        exact k3 p (List.mem_filter.1 hpm).1
      · cases hj
    · cases hj
  · cases hj
theorem AnyE.callB {rd : Option Nat} {ops : Array Oper} {M : List Nat} {K : Fm → St → Prop} {fuel : Nat} {pend pend' : List (Nat × AV)} {listed : Array Bool} {f : Fm} {st : St} {j : Nat} {g : FuncId} {args : List AV} {e : Bool} (hp : Pure P g args (.sb e))
    (hj : onlyD ops M pend listed = some (j, pend')) (hc : callAt ops j f = some (g, args)) (h : ∀ b, b = e → AnyE P T ops M rd K fuel pend' (listed.setIfInBounds j true) (putAt ops j f (.sb b)) st) : AnyE P T ops M rd K (fuel + 1) pend listed f st :=
  AnyE.callP hp hj hc (h e rfl)
theorem AnyE.callI {rd : Option Nat} {ops : Array Oper} {M : List Nat} {K : Fm → St → Prop} {fuel : Nat} {pend pend' : List (Nat × AV)} {listed : Array Bool} {f : Fm} {st : St} {j : Nat} {g : FuncId} {args : List AV} {k : IntKind} {e : Int} (hp : Pure P g args (.lit (.int k e)))
    (hj : onlyD ops M pend listed = some (j, pend')) (hc : callAt ops j f = some (g, args)) (h : ∀ n, n = e → AnyE P T ops M rd K fuel pend' (listed.setIfInBounds j true) (putAt ops j f (.lit (.int k n))) st) : AnyE P T ops M rd K (fuel + 1) pend listed f st :=
  AnyE.callP hp hj hc (h e rfl)

theorem runO_one {O : Ar} {ops : Array Oper} {j : Nat} {f f' : Fm} {st st' : St} {cs : List Cond} (h : runO O T ops [j] [] f st = .done cs f' st') : ∃ o v, ops[j]? = some o ∧ f' = f.put o.dst v := by
  unfold runO at h
  split at h
  · cases h
  · rename_i o ho
    refine ⟨o, ?_⟩
    have fin : ∀ (c : List Cond) (v : AV) (s : St), runO O T ops [] c (f.put o.dst v) s = .done cs f' st' → ∃ v, ops[j]? = some o ∧ f' = f.put o.dst v := fun c v s hq => by
      simp only [runO, ROut.done.injEq] at hq
      exact ⟨v, ho, hq.2.1.symm⟩
    split at h
    · exact fin _ _ _ h
    · cases h
    · split at h
      · exact fin _ _ _ h
      · split at h
        · exact fin _ _ _ h
        · split at h
          · exact fin _ _ _ h
          · split at h
            · exact fin _ _ _ h
            · split at h
              · exact fin _ _ _ h
              · cases h

/-- A call of a function that returns a truth value: both ways. -/
theorem AnyE.callD {rd : Option Nat} {ops : Array Oper} {M : List Nat} {K : Fm → St → Prop} {fuel : Nat} {pend pend' : List (Nat × AV)} {listed : Array Bool} {f : Fm} {st : St} {j : Nat} {g : FuncId} {args : List AV} {e : Bool} (hp : Pure P g args (.sb e))
    (hj : onlyD ops M pend listed = some (j, pend')) (hc : callAt ops j f = some (g, args)) (h1 : e = true → AnyE P T ops M rd K fuel pend' (listed.setIfInBounds j true) (putAt ops j f (.lit (.bool true))) st)
    (h0 : e = false → AnyE P T ops M rd K fuel pend' (listed.setIfInBounds j true) (putAt ops j f (.lit (.bool false))) st) : AnyE P T ops M rd K (fuel + 1) pend listed f st := by
  cases he : e with
  | true => exact AnyE.callP (hp.res (Eqv.lit he)) hj hc (h1 he)
  | false => exact AnyE.callP (hp.res (Eqv.lit he)) hj hc (h0 he)

/-- An operation with an effect, behind which nothing is pending. -/
theorem AnyE.eff (hT : TOk P T) {O : Ar} (hO : O = std) {rd : Option Nat} {ops : Array Oper} {M : List Nat} {K : Fm → St → Prop} {fuel : Nat} {pend : List (Nat × AV)} {listed : Array Bool} {f f' : Fm} {st st' : St} {j : Nat} {cs : List Cond}
    (hj : onlyD ops M pend listed = some (j, [])) (hR : runO O T ops [j] [] f st = .done cs f' st') (hc : allC cs) (h : AnyE P T ops M rd K fuel [] (listed.setIfInBounds j true) f' st') : AnyE P T ops M rd K (fuel + 1) pend listed f st := fun k1 k2 k3 => by
  have hv := runO_one hR
  unfold onlyD at hj
  split at hj
  · rename_i j' hr
    split at hj
    · rename_i o ho
      split at hj
      · rename_i hnl
        simp only [Option.some.injEq, Prod.mk.injEq] at hj
        obtain ⟨rfl, hd⟩ := hj
        obtain ⟨o', v, ho', rfl⟩ := hv
        rw [ho] at ho'; cases ho'
        refine AnyE.one j' ho (by rw [hr]; exact Nat.beq_refl j') [] hd (OpsW.run hT hO (R := .done cs (f.put o.dst v) st') hR hc ⟨⟨v, rfl⟩, (show PendOk T ops [] (f.put o.dst v) st'.h from fun p hp => absurd hp List.not_mem_nil), h⟩) k1 k2 k3
      · cases hj
    · cases hj
  · cases hj

end Go.Fz

/-
  LOOPS THAT APPEND: steps and weakenings. Own work of the verifier of watercress.
-/
namespace Go.Fz
variable {P : Program} {T : Ti}

/-! ### To run so many operations -/
def runN (O : Ar) (T : Ti) (ops : Array Oper) : Nat → List Nat → List Cond → Fm → St → ROut
  | _, [], cs, f, st => .done cs f st
  | 0, i :: l, cs, f, st => .stop cs (i :: l) f st
  | k + 1, i :: l, cs, f, st => match ops[i]? with
    | none => .stop cs (i :: l) f st
    | some o => match wantA ops f.ts o with
      | some false => runN O T ops k l cs (f.put o.dst undA) st
      | none => .stop cs (i :: l) f st
      | some true => match stE O T st.h (Operand.av f.ts) o with
        | some (c, r) => runN O T ops k l (c ++ cs) (f.put o.dst r) st
        | none => match evF T st.n (Operand.av f.ts) o with
          | some (r, cells) => runN O T ops k l cs (f.put o.dst r) (st.push (.cells none false cells))
          | none => match storeS O T st (Operand.av f.ts) o with
            | some (c, st') => runN O T ops k l (c ++ cs) (f.put o.dst undA) st'
            | none => match storeO T st (Operand.av f.ts) o with
              | some st' => runN O T ops k l cs (f.put o.dst undA) st'
              | none => .stop cs (i :: l) f st

theorem runN_cs {O : Ar} {T : Ti} {ops : Array Oper} : ∀ (k : Nat) (l : List Nat) (cs : List Cond) (f : Fm) (st : St), ∀ c ∈ cs, c ∈ (runN O T ops k l cs f st).cs
  | 0, [], cs, f, st, c, h => h
  | _ + 1, [], cs, f, st, c, h => h
  | 0, i :: l, cs, f, st, c, h => h
  | k + 1, i :: l, cs, f, st, c, h => by
    unfold runN
    split
    · exact h
    · split
      · exact runN_cs k l _ _ _ c h
      · exact h
      · split
        · exact runN_cs k l _ _ _ c (List.mem_append_right _ h)
        · split
          · exact runN_cs k l _ _ _ c h
          · split
            · exact runN_cs k l _ _ _ c (List.mem_append_right _ h)
            · split
              · exact runN_cs k l _ _ _ c h
              · exact h

theorem runN_ok {P : Program} {T : Ti} (hT : TOk P T) {rd : Option Nat} {ops : Array Oper} {K : Fm → St → Prop} : ∀ (k : Nat) (l : List Nat) (cs : List Cond) (f : Fm) (st : St), (∀ c ∈ (runN std T ops k l cs f st).cs, c.holds) →
    (runN std T ops k l cs f st).post P rd ops K → OpsW P rd ops l K f st
  | 0, [], cs, f, st, _, h => .nil h
  | _ + 1, [], cs, f, st, _, h => .nil h
  | 0, i :: l, cs, f, st, _, h => h
  | k + 1, i :: l, cs, f, st, hc, h => by
    unfold runN at hc h
    split at h
    · exact h
    · rename_i o ho
      simp only [ho] at hc
      split at h
      · rename_i hw
        simp only [hw] at hc
        exact .skip ho hw (runN_ok hT k l _ _ _ hc h)
      · exact h
      · rename_i hw
        simp only [hw] at hc
        split at h
        · rename_i c r hs
          simp only [hs] at hc
          refine .light hT ho hw (stE_ok hs fun x hx => hc x (runN_cs k l _ _ _ x (List.mem_append_left _ hx))) (runN_ok hT k l _ _ _ hc h)
        · rename_i hs
          simp only [hs] at hc
          split at h
          · rename_i r cells hf
            simp only [hf] at hc
            exact .fresh hT ho hw hf (runN_ok hT k l _ _ _ hc h)
          · rename_i hf
            simp only [hf] at hc
            split at h
            · rename_i c st' hst
              simp only [hst] at hc
              exact .store hT ho hw (storeS_ok hst fun x hx => hc x (runN_cs k l _ _ _ x (List.mem_append_left _ hx))) (runN_ok hT k l _ _ _ hc h)
            rename_i hst0
            simp only [hst0] at hc
            split at h
            · rename_i st' hst
              simp only [hst] at hc
              exact .store hT ho hw hst (runN_ok hT k l _ _ _ hc h)
            · exact h

/-- RUN, so many operations. -/
theorem OpsW.runN (hT : TOk P T) {O : Ar} (hO : O = std) (k : Nat) {rd : Option Nat} {ops : Array Oper} {K : Fm → St → Prop} {l : List Nat} {f : Fm} {st : St} {R : ROut} (hR : Fz.runN O T ops k l [] f st = R) (hc : allC R.cs) (h : R.post P rd ops K) : OpsW P rd ops l K f st := by
  subst hO; subst hR
  exact runN_ok hT k l [] f st (allC_ok hc) h
theorem SW.runN (hT : TOk P T) {O : Ar} (hO : O = std) (k : Nat) {rd : Option Nat} {id : Nat} {ops : Array Oper} {Q : Exit → Fm → St → Prop} {f : Fm} {st : St} {R : ROut} (hR : Fz.runN O T ops k (List.range ops.size) [] f st = R) (hc : allC R.cs) (h : R.post P rd ops (fun f st => Q .normal f st)) : SW P rd (.region id ops false) Q f st :=
  SW.region (OpsW.runN hT hO k hR hc h)

/-! ### To append one element -/
theorem append_nil {i j : TI} {e : TypeId} {t id sz : Nat} {ex : Bool} {cs : List AV} {st : St} (ht : T t = some i) (hd : i.desc = .slice e) (he : T e = some j) (hz : j.size = sz) (h0 : sz ≠ 0) (hb : j.bytes ≤ 65536) (hb0 : j.bytes ≠ 0) (hzl : j.zero.length = sz)
    (hx : st.h.get id = some (.cells none false cs)) (hl : cs.length = sz) (hone : cs.all AV.one = true) :
    appendA T st t t (.lit (.slice none 0 0)) (.sl id 0 1 sz ex) = some (.sl st.n 0 1 sz false, st.push (.cells none false cs)) := by
  subst hz
  unfold appendA
  simp only [ht, hd, he, slCells, cellsAt, hx, slLen]
  rw [if_pos ⟨trivial, by omega⟩]
  simp only [List.drop_zero, Nat.one_mul]
  rw [List.take_of_length_le (by omega), if_neg (by rw [hone]; simp; omega), if_neg (by omega)]
theorem append_one {i j : TI} {e : TypeId} {t id id0 len sz : Nat} {ex : Bool} {g : Nat → Nat → AV} {cs : List AV} {st : St} (ht : T t = some i) (hd : i.desc = .slice e) (he : T e = some j) (hz : j.size = sz) (h0 : sz ≠ 0) (hb : j.bytes ≤ 65536) (hb0 : j.bytes ≠ 0) (hzl : j.zero.length = sz)
    (hx : st.h.get id = some (.cells none false cs)) (hl : cs.length = sz) (hone : cs.all AV.one = true) (hs : st.h.get id0 = some (.cells none false (flatG sz g len))) (hlen : len < 1048576) :
    appendA T st t t (.sl id0 0 len sz false) (.sl id 0 1 sz ex) = some (.sl st.n 0 (len + 1) sz false, St.push ⟨truncH id0 (len * sz) id0 st.h, st.n⟩ (.cells (some id0) false (flatG sz g len ++ cs))) := by
  subst hz
  unfold appendA
  simp only [ht, hd, he, slCells, cellsAt, hx, hs, slLen]
  rw [if_pos ⟨trivial, by rw [flatG_length]; omega⟩, if_pos ⟨trivial, by omega⟩]
  simp only [List.drop_zero, Nat.one_mul]
  rw [List.take_of_length_le (l := cs) (by omega), List.take_of_length_le (l := flatG j.size g len) (by rw [flatG_length]; omega), if_neg (by rw [hone]; simp; omega), if_neg (by omega)]
  simp [hs]

theorem AnyE.app (hT : TOk P T) {rd : Option Nat} {ops : Array Oper} {M : List Nat} {K : Fm → St → Prop} {fuel : Nat} {pend : List (Nat × AV)} {listed : Array Bool} {f : Fm} {st st' : St} {j : Nat} {o : Oper} {r : AV}
    (hj : onlyD ops M pend listed = some (j, [])) (ho : ops[j]? = some o) (hw : wantA ops f.ts o = some true) (hr : appendO T st (Operand.av f.ts) o = some (r, st')) (h : AnyE P T ops M rd K fuel [] (listed.setIfInBounds j true) (f.put o.dst r) st') : AnyE P T ops M rd K (fuel + 1) pend listed f st := fun k1 k2 k3 => by
  unfold onlyD at hj
  split at hj
  · rename_i j' hrd
    split at hj
    · rename_i o1 ho1
      split at hj
      · rename_i hnl
        simp only [Option.some.injEq, Prod.mk.injEq] at hj
        obtain ⟨rfl, hd⟩ := hj
        refine AnyE.one j' ho (by rw [hrd]; exact Nat.beq_refl j') [] hd (OpsW.append hT ho hw hr (.nil ⟨⟨r, rfl⟩, (show PendOk T ops [] (f.put o.dst r) st'.h from fun p hp => absurd hp List.not_mem_nil), h⟩)) k1 k2 k3
      · cases hj
    · cases hj
  · cases hj

/-! ### What stays, by new names -/
theorem WeakR.of {n0 m : Nat} {ρ : Nat → Nat} {f1 : Fm} {st1 : St} {l : List (Nat × AV)} {len : Nat} {dm : List Nat} {h2 : Hp} {n2 : Nat} (e1 : len = f1.ts.len) (e2 : dm = f1.dm) (e3 : ∀ id ∈ dm, id < n0) (e4 : ∀ j, j < n0 → ρ j = j) (lo : n0 ≤ n2)
    (get : ∀ p ∈ l, RenV ρ n2 p.2 (f1.ts.get p.1)) (obj : ∀ p ∈ h2, p.1 < n2 ∧ ∃ o1, st1.h.get (ρ p.1) = some o1 ∧ RenO ρ n2 p.2 o1 ∧ (p.1 = m ∨ o1.fam = none)) (inj : ∀ p ∈ h2, ∀ q ∈ h2, ρ p.1 = ρ q.1 → p.1 = q.1) : WeakR n0 ρ f1 st1 ⟨⟨len, getT l⟩, dm⟩ ⟨h2, n2⟩ := by
  refine ⟨e1, e2, e3, e4, fun i => ?_, lo, fun id o h => ?_, fun i j oi oj hi hj hij pi pj h1 h2 => ⟨fun h => hij ?_, fun ⟨f, k1, k2⟩ => ?_⟩⟩
  · show RenV ρ n2 (getT l i) _
    clear obj inj
    induction l with
    | nil => exact RenV.any
    | cons p r ih =>
      obtain ⟨j, a⟩ := p
      simp only [getT]
      cases hb : Nat.beq j i with
      | true =>
        obtain rfl := Nat.eq_of_beq_eq_true hb
        exact get _ List.mem_cons_self
      | false => exact ih fun q hq => get q (List.mem_cons_of_mem _ hq)
  · obtain ⟨h3, o1, h4, h5, _⟩ := obj _ (Hp.mem_of_get h)
    exact ⟨h3, o1, h4, h5⟩
  · exact inj _ (Hp.mem_of_get hi) _ (Hp.mem_of_get hj) h
  · obtain ⟨_, o1, h3, _, h4⟩ := obj _ (Hp.mem_of_get hi)
    obtain ⟨_, o2, h5, _, h6⟩ := obj _ (Hp.mem_of_get hj)
    rw [show ρ (i, oi).1 = ρ i from rfl, h1] at h3
    rw [show ρ (j, oj).1 = ρ j from rfl, h2] at h5
    cases h3; cases h5
    rcases h4 with h4 | h4
    · rcases h6 with h6 | h6
      · exact hij (h4.trans h6.symm)
      · rw [h6] at k2; cases k2
    · rw [h4] at k1; cases k1

/-! ### To freeze, and to read the cells that stay anew -/
def frzO (h : Hp) (D : Nat → Bool) (m : Nat) : AObj → AObj
  | .cells fm ro cs => .cells fm ro (cs.map (frz h D m))
  | o => o
theorem frzO_own (h : Hp) (D : Nat → Bool) (m : Nat) (o : AObj) : (frzO h D m o).own = o.own := by cases o <;> rfl
theorem frzO_fam (h : Hp) (D : Nat → Bool) (m : Nat) (o : AObj) : (frzO h D m o).fam = o.fam := by cases o <;> rfl
def keepL (h0 : Hp) (D : Nat → Bool) (m : Nat) : Hp → Hp
  | [] => []
  | (i, o) :: r => match D i with
    | true => keepL h0 D m r
    | false => (i, frzO h0 D m o) :: keepL h0 D m r
theorem keepL_get {h0 : Hp} {D : Nat → Bool} {m : Nat} : ∀ {h : Hp} {id : Nat} {o : AObj}, Hp.get (keepL h0 D m h) id = some o → D id = false ∧ ∃ o0, h.get id = some o0 ∧ o = frzO h0 D m o0
  | [], id, o, h => by simp [keepL, Hp.get] at h
  | (i, x) :: r, id, o, h => by
    unfold keepL at h
    split at h
    · rename_i hi
      obtain ⟨h1, o0, h2, h3⟩ := keepL_get h
      refine ⟨h1, o0, ?_, h3⟩
      simp only [Hp.get]
      rw [if_neg (fun e => by subst e; rw [h1] at hi; cases hi)]
      exact h2
    · rename_i hi
      simp only [Hp.get] at h ⊢
      split at h
      · rename_i he
        subst he
        cases h
        exact ⟨hi, x, if_pos rfl, rfl⟩
      · rename_i he
        obtain ⟨h1, o0, h2, h3⟩ := keepL_get h
        exact ⟨h1, o0, by rw [if_neg he]; exact h2, h3⟩
def St.keepZ (st : St) (D : Nat → Bool) (m : Nat) : St := ⟨keepL st.h D m st.h, st.n⟩

theorem Rel.freezeZ {φ : Fi} {st : St} {w : World} (hr : Rel φ st w) {D : Nat → Bool} (m : Nat) (hf : freeB st.h D = true) :
    Rel (φ.froz st.h D w) (st.keepZ D m) w ∧ Fr φ st w (φ.froz st.h D w) (st.keepZ D m) w := by
  have hget : ∀ id o, (st.keepZ D m).h.get id = some o → D id = false ∧ ∃ o0, st.h.get id = some o0 ∧ o = frzO st.h D m o0 := fun id o h => keepL_get h
  have hl : ∀ (as : List AV) (us : List Value), VRL φ as us → VRL (φ.froz st.h D w) (as.map (frz st.h D m)) us := fun as => by
    induction as with
    | nil => intro us h; cases h; exact .nil
    | cons a as ih => intro us h; cases h with | cons h t => exact .cons (frz_ok hr m h) (ih _ t)
  refine ⟨⟨hr.n, fun id o h => ?_, fun id o h => ?_, fun id o h => ?_, fun i j oi oj hi hj hij ho hb => ?_, fun id o f h hf' => ?_, fun b c hb => ?_⟩, ⟨rfl, rfl, rfl, Nat.le_refl _, fun _ _ _ => rfl, fun k ⟨id, o, h, ho, hb⟩ => ?_, fun b c hb => ?_⟩⟩
  · obtain ⟨_, o0, h1, _⟩ := hget id o h; exact hr.lt id o0 h1
  · obtain ⟨_, o0, h1, _⟩ := hget id o h; exact hr.blk id o0 h1
  · obtain ⟨_, o0, h1, rfl⟩ := hget id o h
    have hid : id < φ.n := by rw [hr.n]; exact hr.lt id o0 h1
    have hs : ObjR (φ.froz st.h D w) w id o0 := (hr.obj id o0 h1).same (φ.froz_ext _ _ _) hid rfl
    cases o0 with
    | cells fm ro cs =>
      have h0 := hr.obj id _ h1
      refine ⟨fun i a ha => ?_, fun hro => ?_⟩
      · rw [List.getElem?_map] at ha
        cases hc : cs[i]? with
        | none => rw [hc] at ha; cases ha
        | some a0 =>
          rw [hc] at ha
          cases ha
          obtain ⟨v, h2, h3⟩ := h0.1 i a0 hc
          exact ⟨v, h2, frz_ok hr m h3⟩
      · obtain ⟨c, t, h2, h3, h4⟩ := hs.2 hro
        exact ⟨c, t, h2, h3, by rw [List.length_map]; exact h4⟩
    | loop r => exact hs
    | dfr => exact hs
    | map es clock => exact hs
    | iter a b c d => exact hs
  · obtain ⟨_, p, h1, rfl⟩ := hget i oi hi
    obtain ⟨_, q, h2, rfl⟩ := hget j oj hj
    rw [frzO_own] at ho
    obtain ⟨⟨f, k1, k2⟩, k3⟩ := hr.sep i j p q h1 h2 hij ho hb
    exact ⟨⟨f, by rw [frzO_fam]; exact k1, by rw [frzO_fam]; exact k2⟩, by rw [frzO_own]; exact k3.1, k3.2⟩
  · obtain ⟨_, p, h1, rfl⟩ := hget id o h
    rw [frzO_fam] at hf'
    exact hr.fam id p f h1 hf'
  · rcases zOf_inv hb with h | ⟨rfl, id, fm, cs, hd, ho, rfl⟩
    · obtain ⟨h1, h2, h3⟩ := hr.froz b c h
      exact ⟨h1, h2, fun id o h4 h5 => by
        obtain ⟨_, p, h6, rfl⟩ := hget id o h4
        rw [frzO_own] at h5
        exact h3 id p h6 h5⟩
    · refine ⟨hr.blk id _ ho, fun i v hv => hv, fun j oj hj hown hbb => ?_⟩
      obtain ⟨h2, p, h1, rfl⟩ := hget j oj hj
      rw [frzO_own] at hown
      have hji : j ≠ id := fun e => by subst e; rw [hd] at h2; cases h2
      exact freeB_ok hf h1 ho h2 hd (hr.sep j id p _ h1 ho hji hown hbb).1
  · obtain ⟨_, p, h1, rfl⟩ := hget id o h
    rw [frzO_own] at ho
    exact .inl ⟨id, p, h1, ho, hb⟩
  · rcases zOf_inv hb with h | ⟨_, id, fm, cs, hd, ho, rfl⟩
    · exact .inl h
    · exact .inr (.inl ⟨id, _, ho, rfl, rfl⟩)

theorem SW.freezeZ {rd : Option Nat} {c : Code} {Q : Exit → Fm → St → Prop} {f : Fm} {st : St} (D : Nat → Bool) (m : Nat) (hf : freeB st.h D = true) (h : SW P rd c Q (f.froz st.h D m) (st.keepZ D m)) : SW P rd c Q f st := by
  intro φ w a n h1 h2 h3
  obtain ⟨k1, k2⟩ := h2.freezeZ m hf
  exact wpIn_mono (h (φ.froz st.h D w) w a n h1 k1 (h3.froz h2 D m)) fun e a' w' hl => hl.trans (φ.froz_ext _ _ _) k2

/-! ### One object that gets its name anew -/
def AllP {α : Type} (p : α → Prop) : List α → Prop
  | [] => True
  | a :: l => p a ∧ AllP p l
theorem AllP.ok {α : Type} {p : α → Prop} : ∀ {l : List α}, AllP p l → ∀ a ∈ l, p a
  | [], _, a, h => by cases h
  | x :: l, h, a, ha => by
    rcases List.mem_cons.1 ha with rfl | ha
    · exact h.1
    · exact h.2.ok a ha
def ren1 (r m : Nat) (j : Nat) : Nat := match Nat.beq j r with
  | true => m
  | false => j
theorem ren1_ne {r m j : Nat} (h : j ≠ r) : ren1 r m j = j := by
  unfold ren1
  cases hb : Nat.beq j r with
  | true => exact absurd (Nat.eq_of_beq_eq_true hb) h
  | false => rfl
theorem ren1_eq {r m : Nat} : ren1 r m r = m := by unfold ren1; rw [Nat.beq_refl]
theorem WeakR.up {n0 r m : Nat} {f1 : Fm} {st1 : St} {l : List (Nat × AV)} {len : Nat} {dm : List Nat} {hl H : Hp} {n2 : Nat} (e1 : len = f1.ts.len) (e2 : dm = f1.dm) (e3 : ∀ id ∈ dm, id < n0) (hr : n0 ≤ r) (hm : m = r ∨ n2 ≤ m) (lo : n0 ≤ n2)
    (get : AllP (fun p => RenV (ren1 r m) n2 p.2 (f1.ts.get p.1)) l) (obj : AllP (fun p => p.1 < n2 ∧ ∃ o1, st1.h.get (ren1 r m p.1) = some o1 ∧ RenO (ren1 r m) n2 p.2 o1 ∧ (p.1 = r ∨ o1.fam = none)) hl)
    (objH : ∀ p ∈ H, p.1 < n2 ∧ ∃ o1, st1.h.get (ren1 r m p.1) = some o1 ∧ RenO (ren1 r m) n2 p.2 o1 ∧ (p.1 = r ∨ o1.fam = none)) : WeakR n0 (ren1 r m) f1 st1 ⟨⟨len, getT l⟩, dm⟩ ⟨hl ++ H, n2⟩ := by
  have hall : ∀ p ∈ hl ++ H, p.1 < n2 ∧ ∃ o1, st1.h.get (ren1 r m p.1) = some o1 ∧ RenO (ren1 r m) n2 p.2 o1 ∧ (p.1 = r ∨ o1.fam = none) := fun p hp => by
    rcases List.mem_append.1 hp with hp | hp
    · exact obj.ok p hp
    · exact objH p hp
  refine WeakR.of (m := r) e1 e2 e3 (fun j hj => ren1_ne (by omega)) lo get.ok hall fun p hp q hq h => ?_
  have h1 := (hall p hp).1
  have h2 := (hall q hq).1
  by_cases hpr : p.1 = r
  · by_cases hqr : q.1 = r
    · rw [hpr, hqr]
    · rw [hpr, ren1_eq, ren1_ne hqr] at h; omega
  · by_cases hqr : q.1 = r
    · rw [hqr, ren1_eq, ren1_ne hpr] at h; omega
    · rw [ren1_ne hpr, ren1_ne hqr] at h; exact h

theorem AnyE.effK (hT : TOk P T) {O : Ar} (hO : O = std) {rd : Option Nat} {ops : Array Oper} {M : List Nat} {K : Fm → St → Prop} {fuel : Nat} {pend pend' : List (Nat × AV)} {listed : Array Bool} {f f' : Fm} {st st' : St} {j : Nat} {cs : List Cond}
    (hj : onlyD ops M pend listed = some (j, pend')) (hR : runO O T ops [j] [] f st = .done cs f' st') (hc : allC cs) (hk : AllP (fun p => lightV T ops st'.h f' p.1 = some p.2) pend') (h : AnyE P T ops M rd K fuel pend' (listed.setIfInBounds j true) f' st') : AnyE P T ops M rd K (fuel + 1) pend listed f st := fun k1 k2 k3 => by
  have hv := runO_one hR
  unfold onlyD at hj
  split at hj
  · rename_i j' hr
    split at hj
    · rename_i o ho
      split at hj
      · rename_i hnl
        simp only [Option.some.injEq, Prod.mk.injEq] at hj
        obtain ⟨rfl, hd⟩ := hj
        obtain ⟨o', v, ho', rfl⟩ := hv
        rw [ho] at ho'; cases ho'
        refine AnyE.one j' ho (by rw [hr]; exact Nat.beq_refl j') pend' hd (OpsW.run hT hO (R := .done cs (f.put o.dst v) st') hR hc ⟨⟨v, rfl⟩, (show PendOk T ops pend' (f.put o.dst v) st'.h from fun p hp => LV.of (hk.ok p hp)), h⟩) k1 k2 k3
      · cases hj
    · cases hj
  · cases hj

def sliceB (T : Ti) (t sz : Nat) : Bool := match T t with
  | some i => match i.desc with
    | .slice e => match T e with
      | some j => Nat.beq j.size sz && Nat.ble j.bytes 65536 && !(Nat.beq j.bytes 0) && Nat.beq j.zero.length sz && !(Nat.beq sz 0)
      | none => false
    | _ => false
  | none => false
theorem sliceB_ok {t sz : Nat} (h : sliceB T t sz = true) : ∃ i j e, T t = some i ∧ i.desc = .slice e ∧ T e = some j ∧ j.size = sz ∧ sz ≠ 0 ∧ j.bytes ≤ 65536 ∧ j.bytes ≠ 0 ∧ j.zero.length = sz := by
  unfold sliceB at h
  split at h
  · rename_i i hi
    split at h
    · rename_i e he
      split at h
      · rename_i j hj
        simp only [Bool.and_eq_true, Bool.not_eq_true'] at h
        obtain ⟨⟨⟨⟨h1, h2⟩, h3⟩, h4⟩, h5⟩ := h
        refine ⟨i, j, e, hi, he, hj, Nat.eq_of_beq_eq_true h1, ?_, Nat.le_of_ble_eq_true h2, ?_, Nat.eq_of_beq_eq_true h4⟩
        · intro h; rw [h] at h5; cases h5
        · intro h; rw [h] at h3; cases h3
      · cases h
    · cases h
  · cases h
theorem append_nilB {t id sz : Nat} {ex : Bool} {cs : List AV} {st : St} (h : sliceB T t sz = true) (hx : st.h.get id = some (.cells none false cs)) (hl : cs.length = sz) (hone : cs.all AV.one = true) :
    appendA T st t t (.lit (.slice none 0 0)) (.sl id 0 1 sz ex) = some (.sl st.n 0 1 sz false, st.push (.cells none false cs)) := by
  obtain ⟨i, j, e, h1, h2, h3, h4, h5, h6, h7, h8⟩ := sliceB_ok h
  exact append_nil h1 h2 h3 h4 h5 h6 h7 h8 hx hl hone
theorem append_oneB {t id id0 len sz : Nat} {ex : Bool} {g : Nat → Nat → AV} {cs : List AV} {st : St} (h : sliceB T t sz = true) (hx : st.h.get id = some (.cells none false cs)) (hl : cs.length = sz) (hone : cs.all AV.one = true)
    (hs : st.h.get id0 = some (.cells none false (flatG sz g len))) (hlen : len < 1048576) :
    appendA T st t t (.sl id0 0 len sz false) (.sl id 0 1 sz ex) = some (.sl st.n 0 (len + 1) sz false, St.push ⟨truncH id0 (len * sz) id0 st.h, st.n⟩ (.cells (some id0) false (flatG sz g len ++ cs))) := by
  obtain ⟨i, j, e, h1, h2, h3, h4, h5, h6, h7, h8⟩ := sliceB_ok h
  exact append_one h1 h2 h3 h4 h5 h6 h7 h8 hx hl hone hs hlen

/-- The type and the arguments of an append. -/
def appAt (ops : Array Oper) (j : Nat) (f : Fm) : Option (TypeId × AV × AV) := match ops[j]? with
  | none => none
  | some o => match wantA ops f.ts o with
    | some true => match o.op with
      | .call c => match c.callee, c.args.toList, c.argTypes.toList with
        | .builtin .append, [s, x], [t, xt] => match Nat.beq t xt with
          | true => some (t, Operand.av f.ts s, Operand.av f.ts x)
          | false => none
        | _, _, _ => none
      | _ => none
    | _ => none
theorem appAt_ok {ops : Array Oper} {j : Nat} {f : Fm} {t : TypeId} {s x : AV} (h : appAt ops j f = some (t, s, x)) : ∃ o, ops[j]? = some o ∧ wantA ops f.ts o = some true ∧ (∀ T st, appendO T st (Operand.av f.ts) o = appendA T st t t s x) ∧ ∀ v, putAt ops j f v = f.put o.dst v := by
  unfold appAt at h
  split at h
  · cases h
  · rename_i o ho
    split at h
    · rename_i hw
      split at h
      · rename_i c hc
        split at h
        · rename_i s' x' t' xt' h1 h2 h3
          split at h
          · rename_i hb
            cases h
            obtain rfl := Nat.eq_of_beq_eq_true hb
            exact ⟨o, ho, hw, fun T st => by simp only [appendO, hc, h1, h2, h3], fun v => by simp [putAt, ho]⟩
          · cases h
        · cases h
      · cases h
    · cases h
theorem AnyE.appNil (hT : TOk P T) {rd : Option Nat} {ops : Array Oper} {M : List Nat} {K : Fm → St → Prop} {fuel : Nat} {pend : List (Nat × AV)} {listed : Array Bool} {f : Fm} {st : St} {j t id sz : Nat} {ex : Bool} {cs : List AV}
    (hj : onlyD ops M pend listed = some (j, [])) (ha : appAt ops j f = some (t, .lit (.slice none 0 0), .sl id 0 1 sz ex)) (hx : st.h.get id = some (.cells none false cs)) (hb : sliceB T t sz = true) (hl : cs.length = sz) (hone : cs.all AV.one = true)
    (h : AnyE P T ops M rd K fuel [] (listed.setIfInBounds j true) (putAt ops j f (.sl st.n 0 1 sz false)) (st.push (.cells none false cs))) : AnyE P T ops M rd K (fuel + 1) pend listed f st := by
  obtain ⟨o, h1, h2, h3, h4⟩ := appAt_ok ha
  rw [h4] at h
  exact AnyE.app hT hj h1 h2 (by rw [h3]; exact append_nilB hb hx hl hone) h
theorem AnyE.appOne (hT : TOk P T) {rd : Option Nat} {ops : Array Oper} {M : List Nat} {K : Fm → St → Prop} {fuel : Nat} {pend : List (Nat × AV)} {listed : Array Bool} {f : Fm} {st : St} {j t id id0 sz : Nat} {ex : Bool} {cs : List AV} {G : List AV} {g : Nat → Nat → AV} {len : Nat}
    (hj : onlyD ops M pend listed = some (j, [])) (ha : appAt ops j f = some (t, .sl id0 0 len sz false, .sl id 0 1 sz ex)) (hx : st.h.get id = some (.cells none false cs)) (hs : st.h.get id0 = some (.cells none false G)) (hG : G = flatG sz g len) (hb : sliceB T t sz = true) (hl : cs.length = sz) (hone : cs.all AV.one = true) (hlen : len < 1048576)
    (h : ∀ G', G' = flatG sz g len ++ cs → AnyE P T ops M rd K fuel [] (listed.setIfInBounds j true) (putAt ops j f (.sl st.n 0 (len + 1) sz false)) (St.push ⟨truncH id0 (len * sz) id0 st.h, st.n⟩ (.cells (some id0) false G'))) : AnyE P T ops M rd K (fuel + 1) pend listed f st := by
  subst hG
  obtain ⟨o, h1, h2, h3, h4⟩ := appAt_ok ha
  have h := h _ rfl
  rw [h4] at h
  exact AnyE.app hT hj h1 h2 (by rw [h3]; exact append_oneB hb hx hl hone hs hlen) h
theorem OpsW.appNil (hT : TOk P T) {rd : Option Nat} {ops : Array Oper} {l : List Nat} {K : Fm → St → Prop} {f : Fm} {st : St} {j t id sz : Nat} {ex : Bool} {cs : List AV}
    (ha : appAt ops j f = some (t, .lit (.slice none 0 0), .sl id 0 1 sz ex)) (hx : st.h.get id = some (.cells none false cs)) (hb : sliceB T t sz = true) (hl : cs.length = sz) (hone : cs.all AV.one = true)
    (h : OpsW P rd ops l K (putAt ops j f (.sl st.n 0 1 sz false)) (st.push (.cells none false cs))) : OpsW P rd ops (j :: l) K f st := by
  obtain ⟨o, h1, h2, h3, h4⟩ := appAt_ok ha
  rw [h4] at h
  exact OpsW.append hT h1 h2 (by rw [h3]; exact append_nilB hb hx hl hone) h
theorem OpsW.appOne (hT : TOk P T) {rd : Option Nat} {ops : Array Oper} {l : List Nat} {K : Fm → St → Prop} {f : Fm} {st : St} {j t id id0 sz : Nat} {ex : Bool} {cs : List AV} {G : List AV} {g : Nat → Nat → AV} {len : Nat}
    (ha : appAt ops j f = some (t, .sl id0 0 len sz false, .sl id 0 1 sz ex)) (hx : st.h.get id = some (.cells none false cs)) (hs : st.h.get id0 = some (.cells none false G)) (hG : G = flatG sz g len) (hb : sliceB T t sz = true) (hl : cs.length = sz) (hone : cs.all AV.one = true) (hlen : len < 1048576)
    (h : ∀ G', G' = flatG sz g len ++ cs → OpsW P rd ops l K (putAt ops j f (.sl st.n 0 (len + 1) sz false)) (St.push ⟨truncH id0 (len * sz) id0 st.h, st.n⟩ (.cells (some id0) false G'))) : OpsW P rd ops (j :: l) K f st := by
  subst hG
  obtain ⟨o, h1, h2, h3, h4⟩ := appAt_ok ha
  have h := h _ rfl
  rw [h4] at h
  exact OpsW.append hT h1 h2 (by rw [h3]; exact append_oneB hb hx hl hone hs hlen) h

theorem RenVs.of_eq {ρ : Nat → Nat} {n : Nat} {l2 l1 : List AV} (e : l1 = l2) (h : ∀ a ∈ l2, Below 0 a) : RenVs ρ n l2 l1 := by subst e; exact RenVs.closed h
theorem updT_self {g : Nat → AV} {d : Nat} {v : AV} (h : g d = v) : updT g d v = g := by
  funext i
  unfold updT
  cases hb : Nat.beq d i with
  | true => rw [← Nat.eq_of_beq_eq_true hb]; exact h.symm
  | false => rfl
end Go.Fz
