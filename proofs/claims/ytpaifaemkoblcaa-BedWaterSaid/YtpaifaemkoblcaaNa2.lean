/- Own work of the verifier of watercress: Lb2. -/
import Derived.Test.YtpaifaemkoblcaaNa1
import Derived.OrdersIn
set_option linter.unusedVariables false
set_option linter.unusedSimpArgs false
set_option linter.unusedVariables false
set_option linter.unusedSimpArgs false
namespace Go.Fz
def CPost (φ : Fi) (st : St) (w : World) (k : AV → St → Prop) : Ending → World → Prop :=
  fun e w' => ∃ v cv st' φ', e = .returned cv ∧ k v st' ∧ VR φ' v cv ∧ Ext φ φ' ∧ Rel φ' st' w' ∧ Fr φ st w φ' st' w'
variable (P : Program) (T : Ti)
def CallW (g : FuncId) (args : List AV) (st : St) (k : AV → St → Prop) : Prop :=
  ∀ (φ : Fi) (w : World) (cargs : List Value) (n : Nat), Rel φ st w → VRL φ args cargs → CallsIn Fence.wide n P g cargs.toArray w (CPost φ st w k)
def YieldW (id : Nat) (args : List AV) (st : St) (k : AV → St → Prop) : Prop :=
  ∀ (φ : Fi) (w : World) (cargs : List Value) (n : Nat), Rel φ st w → id < φ.n → VRL φ args cargs →
    ∃ fn tmps assign body, (Instr.yield (φ.f id).b cargs.toArray).run P w = .ok (.round (φ.f id).b fn tmps assign body) w ∧ RoundIn Fence.wide n P (φ.f id).b fn tmps assign body w (CPost φ st w k)
def Enters (g : FuncId) : Prop := ∀ args w, (callFunc g args).run P w = .ok (.enter g args) w
def ApplyW (callee : AV) (args : List AV) (st : St) (k : AV → St → Prop) : Prop :=
  match callee with
  | .fn (.func g) first caps => Enters P g ∧ CallW P g (first ++ args ++ caps) st k
  | .yld id => YieldW P id args st k
  | _ => False
variable {P T}
theorem CallW.mono {g : FuncId} {args : List AV} {st : St} {k k' : AV → St → Prop} (h : CallW P g args st k) (hk : ∀ v st, k v st → k' v st) : CallW P g args st k' :=
  fun φ w cargs n h1 h2 => (h φ w cargs n h1 h2).mono fun _ _ ⟨v, cv, st', φ', h3, h4, r⟩ => ⟨v, cv, st', φ', h3, hk _ _ h4, r⟩
theorem YieldW.mono {id : Nat} {args : List AV} {st : St} {k k' : AV → St → Prop} (h : YieldW P id args st k) (hk : ∀ v st, k v st → k' v st) : YieldW P id args st k' :=
  fun φ w cargs n h1 h2 h3 => by
    obtain ⟨fn, tmps, assign, body, h4, h5⟩ := h φ w cargs n h1 h2 h3
    exact ⟨fn, tmps, assign, body, h4, h5.mono fun _ _ ⟨v, cv, st', φ', h3, h4, r⟩ => ⟨v, cv, st', φ', h3, hk _ _ h4, r⟩⟩
theorem ApplyW.mono {c : AV} {args : List AV} {st : St} {k k' : AV → St → Prop} (h : ApplyW P c args st k) (hk : ∀ v st, k v st → k' v st) : ApplyW P c args st k' := by
  unfold ApplyW at *
  split at h
  · exact ⟨h.1, h.2.mono hk⟩
  · exact h.mono hk
  · exact h
def callO (ρ : Operand → AV) (o : Oper) : Option (AV × List AV) :=
  match o.op with
  | .call c => match c.callee with
    | .value f => some (ρ f, c.args.toList.map ρ)
    | _ => none
  | _ => none
theorem opRs {φ : Fi} {ρa : Operand → AV} {ρ : Operand → Value} (hρ : OpR φ ρa ρ) : ∀ l : List Operand, VRL φ (l.map ρa) (l.map ρ)
  | [] => .nil
  | x :: l => .cons (hρ x) (opRs hρ l)
theorem OpsW.call {rd : Option Nat} {ops : Array Oper} {i : Nat} {l : List Nat} {K : Fm → St → Prop} {f : Fm} {st : St} {o : Oper} {c : AV} {args : List AV} (ho : ops[i]? = some o) (hw : wantA ops f.ts o = some true)
    (hc : callO (Operand.av f.ts) o = some (c, args)) (h : ApplyW P c args st (fun v st' => OpsW P rd ops l K (f.put o.dst v) st')) : OpsW P rd ops (i :: l) K f st := by
  unfold callO at hc
  split at hc
  · rename_i cl hx
    split at hc
    · rename_i fo hcal
      cases hc
      intro φ w a n Q h1 h2 h3 hQ
      simp only [wpOpsIn, ho]
      rw [wanted_eq h3 ops hw]
      simp only [if_true]
      refine ⟨fun _ _ => trivial, ?_⟩
      rw [semAt_eq (fun c hc => by rw [hx] at hc; cases hc)]
      have hρ := opR_of h3.ts
      have hargs := opRs hρ cl.args.toList
      have hfo := hρ fo
      have hnext : ∀ e w', CPost φ st w (fun v st' => OpsW P rd ops l K (f.put o.dst v) st') e w' → ∃ cv, e = .returned cv ∧ wpOpsIn (FW (rdB φ rd)) n P ops Q l (a.put o.dst cv) w' := fun e w' hp => by
        obtain ⟨v, cv, st', φ', he, hk, hv, hex, hrel, hfr⟩ := hp
        refine ⟨cv, he, ?_⟩
        have h4 := hk φ' w' (a.put o.dst cv) n Q (fun id hi => Nat.lt_of_lt_of_le (h1 id hi) hex.n) hrel ((h3.mono hex).put o.dst hv) (fun a' w'' hl => hQ a' w'' (hl.trans hex hfr))
        rwa [rdB_ext hex h1] at h4
      unfold ApplyW at h
      split at h
      · rename_i g first caps hq
        rw [hq] at hfo
        obtain ⟨us, vs, hfv, hu, hv⟩ := hfo.fn_inv
        obtain ⟨hent, hcw⟩ := h
        have hcall := hcw φ w (us ++ cl.args.toList.map a.eval ++ vs) (n - 1) h2 ((hu.append hargs).append hv)
        have hrun : (execOp a.eval o).run P w = .ok (.enter g (us ++ cl.args.toList.map a.eval ++ vs).toArray) w := by
          simp only [execOp, hx, resolve, hcal, Sem.run_bind, hfv, Deferred.ofValue, Sem.run_pure, Result.andThen, invoke]
          rw [hent]
          congr 2
          apply Array.ext'
          simp
        rw [hrun]
        refine ⟨fun h => (by cases h), ?_⟩
        have hcall' : CallsIn (FW (rdB φ rd)) (n - 1) P g (us ++ cl.args.toList.map a.eval ++ vs).toArray w (CPost φ st w (fun v st' => OpsW P rd ops l K (f.put o.dst v) st')) := by
          cases rdB φ rd <;> exact hcall
        refine hcall'.mono fun e w' hp => ?_
        obtain ⟨cv, rfl, h5⟩ := hnext e w' hp
        exact h5
      · rename_i id hq
        rw [hq] at hfo
        obtain ⟨hfv, hid⟩ := hfo.yld_inv
        obtain ⟨fn, tmps, assign, body, hy, hround⟩ := h φ w (cl.args.toList.map a.eval) (n - 1) h2 hid hargs
        have hrun : (execOp a.eval o).run P w = .ok (.round (φ.f id).b fn tmps assign body) w := by
          simp only [execOp, hx, resolve, hcal, Sem.run_bind, hfv, Deferred.ofValue, Sem.run_pure, Result.andThen, invoke]
          rw [← hy]
          congr 2
          apply Array.ext'
          simp
        rw [hrun]
        refine ⟨fun h => (by cases h), ?_⟩
        have hround' : RoundIn (FW (rdB φ rd)) (n - 1) P (φ.f id).b fn tmps assign body w (CPost φ st w (fun v st' => OpsW P rd ops l K (f.put o.dst v) st')) := by
          cases rdB φ rd <;> exact hround
        refine hround'.mono fun e w' hp => ?_
        obtain ⟨cv, rfl, h5⟩ := hnext e w' hp
        exact h5
      · exact h.elim
    · cases hc
  · cases hc
def killA : List Nat → St → Option St
  | [], st => some st
  | id :: r, st => match st.h.get id with
    | some .dfr => killA r ⟨st.h.set id (.cells none true []), st.n⟩
    | _ => none
def resOne (T : Ti) (f : Fm) (st : St) : ResultVar → Option AV
  | .tmp t => some (f.ts.get t)
  | .cell a t => loadA T st.h t (f.ts.get a)
def resAll (T : Ti) (f : Fm) (st : St) : List ResultVar → Option (List AV)
  | [] => some []
  | r :: rs => match resOne T f st r, resAll T f st rs with
    | some v, some vs => some (v :: vs)
    | _, _ => none
def resA (T : Ti) (rs : Array ResultVar) (f : Fm) (st : St) : Option AV :=
  match resAll T f st rs.toList with
  | some [v] => some v
  | some vs => some (.tup vs)
  | none => none
def retQ (T : Ti) (fn : Func) (k : AV → St → Prop) : Exit → Fm → St → Prop
  | .normal, f, st | .ret, f, st => ∃ st' v, killA f.dm st = some st' ∧ resA T fn.results f st' = some v ∧ k v st'
  | _, _, _ => False
theorem getD_ok {φ : Fi} {ts : Ts} {tmps : Array Value} (h : TsR φ ts tmps) (t : Nat) : VR φ (ts.get t) (tmps.getD t undef) :=
  h.get t
def resF (tmps : Array Value) : ResultVar → Sem Value
  | .tmp t => pure (tmps.getD t undef)
  | .cell a t => do loadVar t (← asAddr (tmps.getD a undef))
theorem results_eq (fn : Func) (tmps : Array Value) : results fn tmps = (do let vs ← fn.results.mapM (resF tmps); pure (if h : vs.size = 1 then vs[0] else .tuple vs)) := rfl
theorem res_ok (hT : TOk P T) {φ : Fi} {st : St} {w : World} {f : Fm} {tmps : Array Value} {fn : Func} {v : AV} (hr : Rel φ st w) (ht : TsR φ f.ts tmps) (h : resA T fn.results f st = some v) :
    ∃ u, VR φ v u ∧ (results fn tmps).run P w = .ok u w := by
  have hone : ∀ r v, resOne T f st r = some v → ∃ u, VR φ v u ∧ ((resF tmps r).run P w = .ok u w) := fun r v hv => by
    cases r with
    | tmp t => simp only [resOne, Option.some.injEq] at hv; subst hv; exact ⟨_, getD_ok ht t, rfl⟩
    | cell a t =>
      simp only [resOne] at hv
      obtain ⟨u, h1, h2⟩ := load_ok (P := P) hT hr (getD_ok ht a) hv
      refine ⟨u, h1, ?_⟩
      have h3 := h2 w (Same.refl _ _ _)
      have hg := getD_ok ht a
      have hpt : ∃ x, tmps.getD a undef = .pointer (some x) := by
        unfold loadA at hv
        split at hv
        · rename_i sz k e hq
          rw [hq] at hg
          obtain ⟨b, o, c, us, hp, _⟩ := hg.ip_inv
          exact ⟨_, hp⟩
        · split at hv
          · rename_i id off hq
            exact ⟨_, (ptrOf_ok hq hg).ptr_inv.1⟩
          · cases hv
      obtain ⟨x, hp⟩ := hpt
      rw [hp] at h3
      show Sem.run P (do let x ← asAddr (tmps.getD a undef); loadVar t x) w = _
      rw [hp]
      simpa [Instr.loadAt, Instr.sureAddr, asAddr] using h3
  have hall : ∀ rs vs, resAll T f st rs = some vs → ∃ us, VRL φ vs us ∧ (rs.mapM (resF tmps)).run P w = .ok us w := by
    intro rs
    induction rs with
    | nil => intro vs hv; simp only [resAll, Option.some.injEq] at hv; subst hv; exact ⟨[], .nil, rfl⟩
    | cons r rs ih =>
      intro vs hv
      simp only [resAll] at hv
      split at hv
      · rename_i v1 vs1 h1 h2
        cases hv
        obtain ⟨u, hu, hur⟩ := hone r v1 h1
        obtain ⟨us, hus, husr⟩ := ih vs1 h2
        refine ⟨u :: us, .cons hu hus, ?_⟩
        simp only [List.mapM_cons, Sem.run_bind, hur, Result.andThen, husr, Sem.run_pure]
      · cases hv
  unfold resA at h
  have key : ∀ vs us, VRL φ vs us → (fn.results.toList.mapM (resF tmps)).run P w = .ok us w →
      (results fn tmps).run P w = .ok (if h : us.toArray.size = 1 then us.toArray[0] else .tuple us.toArray) w := fun vs us _ hrun => by
    rw [results_eq]
    have hm : ∀ x : Sem (List Value), (List.toArray <$> x).run P w = (x.run P w).andThen fun a w' => .ok a.toArray w' := fun x => by
      show (x >>= fun a => pure a.toArray).run P w = _
      rw [Sem.run_bind]; rfl
    rw [Sem.run_bind, Array.mapM_eq_mapM_toList, hm, hrun]
    rfl
  split at h
  · rename_i v' hq
    cases h
    obtain ⟨us, hus, hrun⟩ := hall _ _ hq
    cases hus with
    | cons h1 h2 => cases h2 with
      | nil => exact ⟨_, h1, by rw [key _ _ (.cons h1 .nil) hrun]; simp⟩
  · rename_i vs hne hq
    cases h
    obtain ⟨us, hus, hrun⟩ := hall _ _ hq
    refine ⟨.tuple us.toArray, .tup hus, ?_⟩
    rw [key _ _ hus hrun]
    have : us.toArray.size ≠ 1 := fun h1 => by
      have hl := hus.length
      have : vs.length = 1 := by rw [hl]; simpa using h1
      match vs, this with
      | [x], _ => exact hne x rfl
    rw [dif_neg this]
  · cases h
theorem run_takeDef {w : World} {b : Nat} (h : w.heap[b]? = some (.deferred (some []))) : (Instr.takeDeferred b).run P w = .ok [] (w.putObj b (.deferred none)) := run_takeDeferred h
theorem Rel.kill {φ : Fi} {st : St} {w : World} (hr : Rel φ st w) {id : Nat} (ho : st.h.get id = some .dfr) :
    Rel φ ⟨st.h.set id (.cells none true []), st.n⟩ (w.putObj (φ.f id).b (.deferred none)) ∧ Fr φ st w φ ⟨st.h.set id (.cells none true []), st.n⟩ (w.putObj (φ.f id).b (.deferred none)) :=
  hr.turn ho rfl rfl rfl rfl rfl rfl World.putObj_size (fun _ hk => World.putObj_heap_other hk) ⟨fun i a ha => by simp at ha, fun h => by cases h⟩
theorem leaves_ok (hT : TOk P T) {n : Nat} {fn : Func} {k : AV → St → Prop} {φ0 : Fi} {st0 : St} {w0 : World} {f : Fm} {tmps : Array Value} {φ : Fi} : ∀ (dm : List Nat) (st : St) (w : World), (∀ id ∈ dm, id < φ.n) → Ext φ0 φ → Rel φ st w → TsR φ f.ts tmps →
    Fr φ0 st0 w0 φ st w → (∃ st' v, killA dm st = some st' ∧ resA T fn.results f st' = some v ∧ k v st') →
    LeavesInM Fence.wide n P fn tmps (CPost φ0 st0 w0 k) (dm.map fun id => { target := .collected (φ.f id).b, args := #[] }) .returning w
  | [], st, w, _, he, hr, ht, hf, ⟨st', v, hk, hv, hkv⟩ => by
    simp only [killA, Option.some.injEq] at hk
    subst hk
    obtain ⟨u, hu, hrun⟩ := res_ok (P := P) hT hr ht hv
    exact ⟨u, hrun, v, u, st, φ, rfl, hkv, hu, he, hr, hf⟩
  | id :: r, st, w, hlt, he, hr, ht, hf, ⟨st', v, hk, hv, hkv⟩ => by
    simp only [killA] at hk
    split at hk
    · rename_i ho
      have hd := hr.obj id _ ho
      obtain ⟨h1, h2⟩ := hr.kill ho
      refine ⟨by simp, .inl ⟨(φ.f id).b, _, rfl, run_takeDef hd, ?_⟩⟩
      exact leaves_ok hT r _ _ (fun i hi => hlt i (List.mem_cons_of_mem _ hi)) he h1 ht (hf.trans h2) ⟨st', v, hk, hv, hkv⟩
    · cases hk
theorem callW_of_body (hT : TOk P T) {g : FuncId} {fn : Func} {c : Code} {args : List AV} {st : St} {k : AV → St → Prop} (hf : P.funcs[g]? = some fn) (hb : fn.body = some c)
    (h : SW P none c (retQ T fn k) ⟨Ts.of args fn.ntmps, []⟩ st) : CallW P g args st k := by
  intro φ w cargs n h1 h2
  refine callsIn_of_wp_marks hf hb trivial ?_ rfl
  have hl := h2.length
  have ha : ActR φ ⟨Ts.of args fn.ntmps, []⟩ { tmps := cargs.toArray ++ Array.replicate (fn.ntmps - cargs.toArray.size) undef, defers := [] } := by
    refine ⟨?_, rfl, fun _ h => by cases h⟩
    have := TsR.of h2 fn.ntmps
    simpa [undef] using this
  refine wpIn_mono (h φ w _ n (fun id hi => by cases hi) h1 ha) fun e a' w' hq => ?_
  obtain ⟨f', st', φ', hk, he, hr, ha', hfr⟩ := hq
  cases e with
  | normal => show LeavesInM _ _ _ _ _ _ _ _ _; rw [ha'.dm]; exact leaves_ok hT f'.dm st' w' ha'.lt he hr ha'.ts hfr hk
  | ret => show LeavesInM _ _ _ _ _ _ _ _ _; rw [ha'.dm]; exact leaves_ok hT f'.dm st' w' ha'.lt he hr ha'.ts hfr hk
  | exit id => exact hk.elim
  | goto l => exact hk.elim
  | panic c => exact hk.elim
  | outgrown => exact hk.elim
end Go.Fz
namespace Go.Fz
def setPs : Ts → List (Tmp × AV) → Ts
  | ts, [] => ts
  | ts, (t, a) :: r => setPs (ts.put t a) r
def loopAt (st : St) (id : Nat) : Option ALoop :=
  match st.h.get id with
  | some (.loop r) => some r
  | _ => none
theorem loopAt_get {st : St} {id : Nat} {r : ALoop} (h : loopAt st id = some r) : st.h.get id = some (.loop r) := by
  unfold loopAt at h
  split at h
  · cases h; assumption
  · cases h
def setLoop (st : St) (id : Nat) (r : ALoop) : St := ⟨st.h.set id (.loop r), st.n⟩
variable {P : Program} {T : Ti}
theorem Rel.loop {φ : Fi} {st : St} {w : World} (hr : Rel φ st w) {id : Nat} {r r' : ALoop} (ho : loopAt st id = some r) {L L' : Loop} (hL : w.heap[(φ.f id).b]? = some (.loop L))
    (h1 : L'.state = r'.state) (h2 : L'.pending = r'.pending) (h3 : L'.tmps = L.tmps) (h4 : L'.params = L.params) (h5 : L'.assign = L.assign) (h6 : L'.body = L.body) (h7 : L'.defers = L.defers)
    (k3 : r'.tmps = r.tmps) (k4 : r'.params = r.params) (k5 : r'.assign = r.assign) (k6 : r'.body = r.body) (k7 : r'.dfid = r.dfid) :
    Rel φ (setLoop st id r') (w.putObj (φ.f id).b (.loop L')) ∧ Fr φ st w φ (setLoop st id r') (w.putObj (φ.f id).b (.loop L')) := by
  have hg := loopAt_get ho
  obtain ⟨L0, g1, g2, g3, g4, g5, g6, g7, g8, g9⟩ := hr.obj id _ hg
  rw [hL] at g1
  cases g1
  refine hr.turn hg rfl rfl rfl rfl rfl rfl World.putObj_size (fun _ hk => World.putObj_heap_other hk) ⟨L', World.putObj_heap_same (hr.blk id _ hg), h1, h2, ?_, ?_, ?_, ?_, ?_, ?_⟩
  · rw [h3, k3]; exact g4
  · rw [h4, k4]; exact g5
  · rw [h5, k5]; exact g6
  · rw [h6, k6]; exact g7
  · rw [k7]; exact g8
  · rw [h7, k7]; exact g9
theorem setPs_ok {φ : Fi} : ∀ (ps : List Tmp) {as0 : List AV} {us : List Value} {ts : Ts} {tmps : Array Value}, VRL φ as0 us → TsR φ ts tmps →
    TsR φ (setPs ts (ps.zip as0)) ((ps.zip us).foldl (fun (t : Array Value) (p : Tmp × Value) => t.setIfInBounds p.1 p.2) tmps)
  | [], _, _, _, _, _, ht => by simpa [setPs] using ht
  | p :: ps, _, _, _, _, .nil, ht => by simpa [setPs] using ht
  | p :: ps, _, _, ts, tmps, .cons h t, ht => by
    simp only [List.zip_cons_cons, setPs, List.foldl_cons]
    exact setPs_ok ps t (ht.put p h)
def roundQ (id : Nat) (k : AV → St → Prop) : Exit → Fm → St → Prop
  | .normal, _, st => ∃ r, loopAt st id = some r ∧ k (.lit (.bool true)) (setLoop st id { r with state := .ready, pending := none })
  | .ret, _, st => ∃ r, loopAt st id = some r ∧ k (.lit (.bool false)) (setLoop st id { r with state := .done, pending := some .ret })
  | .exit e, _, st => ∃ r, loopAt st id = some r ∧ k (.lit (.bool false)) (setLoop st id { r with state := .done, pending := some (.exit e) })
  | .goto l, _, st => ∃ r, loopAt st id = some r ∧ k (.lit (.bool false)) (setLoop st id { r with state := .done, pending := some (.goto l) })
  | _, _, _ => False
theorem YieldW.of_round {id : Nat} {args : List AV} {st : St} {k : AV → St → Prop} {r : ALoop} (ho : loopAt st id = some r) (hlen : args.length = r.params.size)
    (h : SW P (some id) r.assign (thenQ (fun f1 st1 => ∃ r1, loopAt st1 id = some r1 ∧ r1.state = .ready ∧ SW P (some id) r.body (roundQ id k) f1 (setLoop st1 id { r1 with state := .busy })) (fun _ _ _ => False))
      ⟨setPs r.tmps (r.params.toList.zip args), []⟩ st) : YieldW P id args st k := by
  intro φ w cargs n hr hid hargs
  obtain ⟨L, g1, g2, g3, g4, g5, g6, g7, g8, g9⟩ := hr.obj id _ (loopAt_get ho)
  have hl := hargs.length
  refine ⟨_, _, _, _, run_yield g1 (by rw [g5]; simp; omega), ?_⟩
  refine roundIn_of_wpIn (F := Fence.wide) trivial ?_
  rw [g6]
  have htm : TsR φ (setPs r.tmps (r.params.toList.zip args)) ((L.params.zip cargs.toArray).foldl (fun tmps (t, a) => tmps.setIfInBounds t a) L.tmps) := by
    have := setPs_ok (ps := r.params.toList) hargs g4
    rw [g5, ← Array.foldl_toList, Array.toList_zip]
    exact this
  refine wpIn_mono (h φ w { tmps := (L.params.zip cargs.toArray).foldl (fun tmps (t, a) => tmps.setIfInBounds t a) L.tmps, defers := [] } n (fun i hi => by cases hi; exact hid) hr ⟨htm, rfl, fun _ h => by cases h⟩) fun e a1 w1 hq => ?_
  obtain ⟨f1, st1, φ1, hk, he1, hr1, ha1, hf1⟩ := hq
  have hb1 : (φ1.f id).b = (φ.f id).b := by rw [he1.f id hid]
  cases e with
  | normal =>
    obtain ⟨r1, ho1, hs1, hbody⟩ := hk
    obtain ⟨L1, k1, k2, k3, k4, k5, k6, k7, k8, k9⟩ := hr1.obj id _ (loopAt_get ho1)
    rw [hb1] at k1
    have hbr := run_beginRound (P := P) k1 (by rw [k2]; exact hs1)
    obtain ⟨hr2, hf2⟩ := hr1.loop (r' := { r1 with state := .busy }) ho1 (L := L1) (L' := { L1 with state := .busy }) (by rw [hb1]; exact k1) rfl k3 rfl rfl rfl rfl rfl rfl rfl rfl rfl rfl
    rw [hb1] at hr2 hf2
    refine ⟨_, hbr, ?_⟩
    rw [g7]
    have h2 := hbody φ1 _ a1 n (fun i hi => by cases hi; exact Nat.lt_of_lt_of_le hid he1.n) hr2 ha1
    rw [rdB_ext he1 (fun i hi => by cases hi; exact hid)] at h2
    refine wpIn_mono h2 fun e a2 w2 hq2 => ?_
    obtain ⟨f2, st2, φ2, hk2, he2, hr3, ha2, hf3⟩ := hq2
    have hb2 : (φ2.f id).b = (φ.f id).b := by rw [he2.f id (Nat.lt_of_lt_of_le hid he1.n)]; exact hb1
    have fin : ∀ (jump : Option Code) (r2 : ALoop), loopAt st2 id = some r2 → k (.lit (.bool jump.isNone)) (setLoop st2 id { r2 with state := if jump.isNone then .ready else .done, pending := jump }) →
        ∃ v w', (Instr.endRound (φ.f id).b jump).run P w2 = .ok v w' ∧ CPost φ st w k (.returned v) w' := fun jump r2 ho2 hkk => by
      obtain ⟨L2, m1, m2, m3, m4, m5, m6, m7, m8, m9⟩ := hr3.obj id _ (loopAt_get ho2)
      rw [hb2] at m1
      obtain ⟨hr4, hf4⟩ := hr3.loop (r' := { r2 with state := if jump.isNone then .ready else .done, pending := jump }) ho2 (L := L2) (L' := { L2 with state := if jump.isNone then .ready else .done, pending := jump }) (by rw [hb2]; exact m1) rfl rfl rfl rfl rfl rfl rfl rfl rfl rfl rfl rfl
      rw [hb2] at hr4 hf4
      exact ⟨_, _, run_endRound (P := P) jump m1, .lit (.bool jump.isNone), .bool jump.isNone, _, φ2, rfl, hkk, .lit _, he1.trans he2, hr4, hf1.trans (hf2.trans (hf3.trans hf4))⟩
    cases e with
    | normal => obtain ⟨r2, ho2, hkk⟩ := hk2; exact fin none r2 ho2 hkk
    | ret => obtain ⟨r2, ho2, hkk⟩ := hk2; exact fin (some .ret) r2 ho2 hkk
    | exit x => obtain ⟨r2, ho2, hkk⟩ := hk2; exact fin (some (.exit x)) r2 ho2 hkk
    | goto l => obtain ⟨r2, ho2, hkk⟩ := hk2; exact fin (some (.goto l)) r2 ho2 hkk
    | panic c => exact hk2.elim
    | outgrown => exact hk2.elim
  | exit x => exact hk.elim
  | goto l => exact hk.elim
  | ret => exact hk.elim
  | panic c => exact hk.elim
  | outgrown => exact hk.elim
def rangeK (P : Program) (rd : Option Nat) (lid : Nat) (Q : Exit → Fm → St → Prop) (f : Fm) : AV → St → Prop := fun _ st =>
  ∃ r, loopAt st lid = some r ∧ r.state ≠ .busy ∧
    (match r.pending with
     | none => Q .normal f (setLoop st lid { r with state := .exhausted })
     | some c => SW P rd c Q f (setLoop st lid { r with state := .exhausted }))
theorem rangePost_ok {rd : Option Nat} {lid : Nat} {Q : Exit → Fm → St → Prop} {f : Fm} {φ φ1 : Fi} {st st1 : St} {w w1 : World} {a : Act} {n : Nat} (hrd : ∀ id, rd = some id → id < φ.n) (he : Ext φ φ1) (hlid : lid < φ1.n) (ha : ActR φ1 f a) (hf : Fr φ st w φ1 st1 w1)
    {e : Ending} {w' : World} (h : CPost φ1 st1 w1 (rangeK P rd lid Q f) e w') : rangePost (FW (rdB φ rd)) n P (φ1.f lid).b (Lift φ st w Q) a e w' := by
  obtain ⟨v, cv, st2, φ2, rfl, ⟨r, ho, hs, hk⟩, _, he2, hr2, hf2⟩ := h
  obtain ⟨L, g1, g2, g3, g4, g5, g6, g7, g8, g9⟩ := hr2.obj lid _ (loopAt_get ho)
  have hb : (φ2.f lid).b = (φ1.f lid).b := by rw [he2.f lid hlid]
  obtain ⟨hr3, hf3⟩ := hr2.loop (r' := { r with state := .exhausted }) ho (L := L) (L' := { L with state := .exhausted }) g1 rfl g3 rfl rfl rfl rfl rfl rfl rfl rfl rfl rfl
  rw [hb] at g1 hr3 hf3
  have hend := run_endLoop (P := P) g1 (by rw [g2]; exact hs)
  generalize w'.putObj (φ1.f lid).b (.loop { L with state := .exhausted }) = w4 at hr3 hf3 hend
  generalize setLoop st2 lid { r with state := .exhausted } = st3 at hr3 hf3 hk
  refine ⟨_, _, hend, ?_⟩
  rw [g3]
  cases hp : r.pending with
  | none =>
    rw [hp] at hk
    exact ⟨f, _, φ2, hk, he.trans he2, hr3, ha.mono he2, hf.trans (hf2.trans hf3)⟩
  | some c =>
    rw [hp] at hk
    have h4 := hk φ2 _ a n (fun id hi => Nat.lt_of_lt_of_le (hrd id hi) (Nat.le_trans he.n he2.n)) hr3 (ha.mono he2)
    rw [rdB_ext (he.trans he2) hrd] at h4
    exact wpIn_mono h4 fun e a' w' hl => hl.trans (he.trans he2) (hf.trans (hf2.trans hf3))
theorem SW.rangeFunc {g : Operand} {ps : Array Tmp} {assign body : Code} {Q : Exit → Fm → St → Prop} {f : Fm} {st : St} {gf : FuncId} {first caps : List AV} (hg : Operand.av f.ts g = .fn (.func gf) first caps) (hent : Enters P gf)
    (h : CallW P gf (first ++ [.yld (st.n + 1)] ++ caps) ((st.push .dfr).push (.loop { state := .ready, pending := none, tmps := f.ts, params := ps, assign, body, dfid := st.n }))
      (rangeK P none (st.n + 1) Q { f with dm := st.n :: f.dm })) : SW P none (.rangeFunc g ps assign body) Q f st := by
  intro φ w a n h1 hr ha
  refine wpIn_rangeFunc fun fn _ => ?_
  have hp1 := hr.push (.deferred (some [])) .dfr ⟨w.heap.size, 0, 0⟩ rfl (by show _ = _; rw [Fi.push_new]; exact alloc_heap_new' w _) (fun _ h => by cases h)
  have hn1 : (φ.push ⟨w.heap.size, 0, 0⟩).n = φ.n + 1 := rfl
  have hp2 := hp1.1.push (.loop { state := .ready, pending := none, fn, tmps := a.tmps, params := ps, assign, body, defers := w.heap.size }) (.loop { state := .ready, pending := none, tmps := f.ts, params := ps, assign, body, dfid := st.n }) ⟨w.heap.size + 1, 0, 0⟩ (by rw [alloc_size])
    ⟨_, by rw [Fi.push_new]; have := alloc_heap_new' (w.alloc (.deferred (some []))) (.loop { state := .ready, pending := none, fn, tmps := a.tmps, params := ps, assign, body, defers := w.heap.size }); rwa [alloc_size] at this,
     rfl, rfl, (ha.ts.mono ((φ.push_ext _).trans ((φ.push _).push_ext _))), rfl, rfl, rfl, by simp [Fi.push, hr.n]; omega, by
      show w.heap.size = _
      rw [← hr.n, ((φ.push ⟨w.heap.size, 0, 0⟩).push_ext _).f φ.n (by rw [hn1]; omega), Fi.push_new]⟩ (fun _ h => by cases h)
  have he : Ext φ ((φ.push ⟨w.heap.size, 0, 0⟩).push ⟨w.heap.size + 1, 0, 0⟩) := (φ.push_ext _).trans ((φ.push _).push_ext _)
  have hfa : ((φ.push ⟨w.heap.size, 0, 0⟩).push ⟨w.heap.size + 1, 0, 0⟩).f φ.n = ⟨w.heap.size, 0, 0⟩ := by rw [((φ.push ⟨w.heap.size, 0, 0⟩).push_ext _).f φ.n (by rw [hn1]; omega), Fi.push_new]
  have hfb : ((φ.push ⟨w.heap.size, 0, 0⟩).push ⟨w.heap.size + 1, 0, 0⟩).f (φ.n + 1) = ⟨w.heap.size + 1, 0, 0⟩ := Fi.push_new _ _
  have hpn : ((φ.push ⟨w.heap.size, 0, 0⟩).push ⟨w.heap.size + 1, 0, 0⟩).n = φ.n + 2 := rfl
  have ha2 : ActR ((φ.push ⟨w.heap.size, 0, 0⟩).push ⟨w.heap.size + 1, 0, 0⟩) { f with dm := st.n :: f.dm } { a with defers := [{ target := .collected w.heap.size, args := #[] }] ++ a.defers } := by
    have h0 := ha.mono he
    refine ⟨h0.ts, ?_, fun id hi => ?_⟩
    · rw [h0.dm, List.map_cons, ← hr.n, hfa]; rfl
    · rcases List.mem_cons.1 hi with rfl | hi
      · rw [hpn, hr.n]; omega
      · exact h0.lt id hi
  have hgv := opR_of ha.ts g
  rw [hg] at hgv
  obtain ⟨us, vs, hv, hu, hvv⟩ := hgv.fn_inv
  have hyl : VR ((φ.push ⟨w.heap.size, 0, 0⟩).push ⟨w.heap.size + 1, 0, 0⟩) (.yld (st.n + 1)) (.func (.yield (w.heap.size + 1)) #[] #[]) := by
    have := VR.yld (φ := (φ.push ⟨w.heap.size, 0, 0⟩).push ⟨w.heap.size + 1, 0, 0⟩) (φ.n + 1) (by rw [hpn]; omega)
    rw [hfb] at this
    rw [← hr.n]; exact this
  have hcall := h _ _ (us ++ [Value.func (.yield (w.heap.size + 1)) #[] #[]] ++ vs) (n - 1) hp2.1 (((hu.mono he).append (.cons hyl .nil)).append (hvv.mono he))
  have hloop := run_enterLoop_outer (P := P) (w := w) fn a.tmps ps assign body
  generalize (w.alloc (.deferred (some []))).alloc (.loop { state := .ready, pending := none, fn, tmps := a.tmps, params := ps, assign, body, defers := w.heap.size }) = W2 at hp2 hcall hloop
  refine ⟨w.heap.size + 1, _, W2, { target := .fn (.func gf) vs.toArray, args := us.toArray ++ #[Value.func (.yield (w.heap.size + 1)) #[] #[]] }, W2, gf, (us ++ [Value.func (.yield (w.heap.size + 1)) #[] #[]] ++ vs).toArray, W2, hloop, ?_, fun _ _ => trivial, ?_, fun h => (by cases h), ?_⟩
  · have hm : Array.map a.eval #[Operand.const (Value.func (Fn.yield (w.heap.size + 1)) #[] #[])] = #[Value.func (Fn.yield (w.heap.size + 1)) #[] #[]] := by simp [Act.eval]
    simp only [resolve, hv, Deferred.ofValue, Sem.run_pure, hm]
  · simp only [invoke]
    rw [hent]
    congr 2
    apply Array.ext'
    simp
  · refine CallsIn.mono (F := FW none) hcall fun e w' hp => ?_
    have := rangePost_ok (P := P) (n := n) (rd := none) h1 he (by rw [hpn, hr.n]; omega) ha2 (hp1.2.trans hp2.2) hp
    rw [← hr.n, hfb] at this
    exact this
theorem run_enterLoop_inner {w : World} {l : Nat} {r : Loop} (h : w.heap[l]? = some (.loop r)) (fn : FuncId) (tmps : Array Value) (ps : Array Tmp) (assign body : Code) :
    (Instr.enterLoop fn tmps ps assign body (some l)).run P w = .ok (w.heap.size, []) (w.alloc (.loop { state := .ready, pending := none, fn, tmps, params := ps, assign, body, defers := r.defers })) := by
  unfold Instr.enterLoop
  simp only [Sem.run_bind, run_getLoop h, run_newObj_alloc, Result.andThen, Sem.run_pure]
theorem SW.rangeFuncIn {id0 : Nat} {r0 : ALoop} {g : Operand} {ps : Array Tmp} {assign body : Code} {Q : Exit → Fm → St → Prop} {f : Fm} {st : St} {gf : FuncId} {first caps : List AV} (ho : loopAt st id0 = some r0) (hg : Operand.av f.ts g = .fn (.func gf) first caps) (hent : Enters P gf)
    (h : CallW P gf (first ++ [.yld st.n] ++ caps) (st.push (.loop { state := .ready, pending := none, tmps := f.ts, params := ps, assign, body, dfid := r0.dfid }))
      (rangeK P (some id0) st.n Q f)) : SW P (some id0) (.rangeFunc g ps assign body) Q f st := by
  intro φ w a n h1 hr ha
  have hid0 : id0 < φ.n := h1 id0 rfl
  obtain ⟨L, g1, g2, g3, g4, g5, g6, g7, g8, g9⟩ := hr.obj id0 _ (loopAt_get ho)
  refine wpIn_rangeFunc fun fn _ => ?_
  have hp2 := hr.push (.loop { state := .ready, pending := none, fn, tmps := a.tmps, params := ps, assign, body, defers := L.defers }) (.loop { state := .ready, pending := none, tmps := f.ts, params := ps, assign, body, dfid := r0.dfid }) ⟨w.heap.size, 0, 0⟩ rfl
    ⟨_, by rw [Fi.push_new]; exact alloc_heap_new' w _, rfl, rfl, ha.ts.mono (φ.push_ext _), rfl, rfl, rfl, by rw [Fi.push_n]; exact Nat.lt_succ_of_lt g8, by
      show L.defers = _
      rw [(φ.push_ext _).f r0.dfid g8]; exact g9⟩ (fun _ h => by cases h)
  have he : Ext φ (φ.push ⟨w.heap.size, 0, 0⟩) := φ.push_ext _
  have hfb : (φ.push ⟨w.heap.size, 0, 0⟩).f φ.n = ⟨w.heap.size, 0, 0⟩ := Fi.push_new _ _
  have hpn : (φ.push ⟨w.heap.size, 0, 0⟩).n = φ.n + 1 := rfl
  have hgv := opR_of ha.ts g
  rw [hg] at hgv
  obtain ⟨us, vs, hv, hu, hvv⟩ := hgv.fn_inv
  have hyl : VR (φ.push ⟨w.heap.size, 0, 0⟩) (.yld st.n) (.func (.yield w.heap.size) #[] #[]) := by
    have := VR.yld (φ := φ.push ⟨w.heap.size, 0, 0⟩) φ.n (by rw [hpn]; omega)
    rw [hfb] at this
    rw [← hr.n]; exact this
  have hcall := h _ _ (us ++ [Value.func (.yield w.heap.size) #[] #[]] ++ vs) (n - 1) hp2.1 (((hu.mono he).append (.cons hyl .nil)).append (hvv.mono he))
  have hloop := run_enterLoop_inner (P := P) g1 fn a.tmps ps assign body
  generalize w.alloc (.loop { state := .ready, pending := none, fn, tmps := a.tmps, params := ps, assign, body, defers := L.defers }) = W2 at hp2 hcall hloop
  refine ⟨w.heap.size, _, W2, { target := .fn (.func gf) vs.toArray, args := us.toArray ++ #[Value.func (.yield w.heap.size) #[] #[]] }, W2, gf, (us ++ [Value.func (.yield w.heap.size) #[] #[]] ++ vs).toArray, W2, hloop, ?_, fun _ _ => trivial, ?_, fun h => (by cases h), ?_⟩
  · have hm : Array.map a.eval #[Operand.const (Value.func (Fn.yield w.heap.size) #[] #[])] = #[Value.func (Fn.yield w.heap.size) #[] #[]] := by simp [Act.eval]
    simp only [resolve, hv, Deferred.ofValue, Sem.run_pure, hm]
  · simp only [invoke]
    rw [hent]
    congr 2
    apply Array.ext'
    simp
  · refine CallsIn.mono (F := FW (rdB φ (some id0))) hcall fun e w' hp => ?_
    have := rangePost_ok (P := P) (n := n) (rd := some id0) (a := a) h1 he (by rw [hpn, hr.n]; omega) (ha.mono he) hp2.2 hp
    rw [← hr.n, hfb] at this
    exact this
end Go.Fz
namespace Go.Fz
theorem evL_congr (T : Ti) (h : Hp) {ρ ρ' : Operand → AV} (o : Oper) (hx : ∀ x ∈ o.op.operands, ρ x = ρ' x) : evL T h ρ o = evL T h ρ' o := by
  obtain ⟨dst, op, type, pos, after, guard⟩ := o
  cases op <;> simp only [Op.operands] at hx <;> simp only [evL]
  case makeFunc fn a b =>
    rw [List.map_congr_left (l := a.toList) fun x hm => hx x (by simp [Array.mem_toList_iff.1 hm]), List.map_congr_left (l := b.toList) fun x hm => hx x (by simp [Array.mem_toList_iff.1 hm])]
  case call c =>
    have ha : ∀ x ∈ c.args.toList, ρ x = ρ' x := fun x hm => hx x (by simp [Call.operands, Array.mem_toList_iff.1 hm])
    cases hc : c.callee with
    | builtin b =>
      cases hl : c.args.toList with
      | nil => rfl
      | cons x r =>
        have hx0 : ρ x = ρ' x := ha x (by rw [hl]; simp)
        cases r with
        | nil => cases b <;> first | rfl | (rcases c.argTypes.toList with _ | ⟨t, _ | ⟨t2, r2⟩⟩ <;> simp only [hx0])
        | cons y r =>
          have hy0 : ρ y = ρ' y := ha y (by rw [hl]; simp)
          cases b <;> first | rfl | (cases r <;> simp only [hx0, hy0])
    | value f => rfl
    | invoke r m => rfl
  all_goals (first | rfl | (simp_all; done))
theorem evG_congr (T : Ti) (h : Hp) {ρ ρ' : Operand → AV} (o : Oper) (hx : ∀ x ∈ o.op.operands, ρ x = ρ' x) : evG T h ρ o = evG T h ρ' o := by
  have hL := evL_congr T h o hx
  obtain ⟨dst, op, type, pos, after, guard⟩ := o
  cases op <;> simp only [Op.operands] at hx <;> simp only [evG]
  case build t ps =>
    rw [List.map_congr_left (l := ps.toList) fun p hm => by
      have : ρ p.2 = ρ' p.2 := hx p.2 (by simp only [List.mem_toArray, List.mem_map]; exact ⟨p, hm, rfl⟩)
      rw [this]]
  case slice t x lo hi mx => cases lo <;> cases hi <;> cases mx <;> simp_all
  case binOp b t x y yt => cases b <;> simp only [evG] <;> simp_all
  all_goals (first | exact hL | rfl | (simp_all; done))
theorem av_put {f : Fm} {dst : Option Tmp} {v : AV} {x : Operand} (h : ∀ d, dst = some d → x ≠ .tmp d) : Operand.av (f.put dst v).ts x = Operand.av f.ts x := by
  cases dst with
  | none => rfl
  | some d =>
    cases x with
    | tmp t =>
      have hne : d ≠ t := fun e => h d rfl (e ▸ rfl)
      show (f.ts.put d v).get t = f.ts.get t
      rw [getT_put, if_neg (fun h => hne h.2)]
    | _ => rfl
section
variable {P : Program} {T : Ti} {ops : Array Oper}
theorem evG_put {h : Hp} (o : Oper) (f : Fm) (dst : Option Tmp) (v : AV) (hd : ∀ d, dst = some d → d ∉ o.looksAt ops) :
    evG T h (Operand.av (f.put dst v).ts) o = evG T h (Operand.av f.ts) o :=
  evG_congr T h o fun x hx => av_put fun d hdd hxd => hd d hdd (by
    subst hxd
    exact List.mem_append_left _ (List.mem_filterMap.2 ⟨.tmp d, by simpa using hx, rfl⟩))
theorem wantedA_put (o : Oper) (f : Fm) (dst : Option Tmp) (v : AV) (h : ∀ d, dst = some d → d ∉ o.looksAt ops) :
    wantA ops (f.put dst v).ts o = wantA ops f.ts o := by
  cases dst with
  | none => rfl
  | some d =>
    unfold wantA
    cases hg : o.guard with
    | none => rfl
    | some gw =>
      obtain ⟨g, want⟩ := gw
      have hy : yA ops (f.put (some d) v).ts g = yA ops f.ts g := by
        unfold yA
        cases ht : (ops[g]?).bind (·.dst) with
        | none => rfl
        | some t =>
          have hne : d ≠ t := fun e => h d rfl (by subst e; simp [Oper.looksAt, hg, ht])
          show (match (f.ts.put d v).get t with | .lit (.bool b) => some (some b) | .lit (.tuple _) => some none | _ => none) = _
          rw [getT_put, if_neg (fun h => hne h.2)]
          rfl
      simp only [hy]
def lightV (T : Ti) (ops : Array Oper) (h : Hp) (f : Fm) (i : Nat) : Option AV :=
  match ops[i]? with
  | some o => match wantA ops f.ts o with
    | some true => evG T h (Operand.av f.ts) o
    | some false => some undA
    | none => none
  | none => none
theorem lightV_put {h : Hp} {i : Nat} {f : Fm} {dst : Option Tmp} {v : AV} (hd : ∀ o, ops[i]? = some o → ∀ d, dst = some d → d ∉ o.looksAt ops) : lightV T ops h (f.put dst v) i = lightV T ops h f i := by
  unfold lightV
  cases ho : ops[i]? with
  | none => rfl
  | some o => simp only [wantedA_put o f dst v (hd o ho), evG_put o f dst v (hd o ho)]
def LV (T : Ti) (ops : Array Oper) (h : Hp) (f : Fm) (i : Nat) (r : AV) : Prop := ∃ r0, lightV T ops h f i = some r0 ∧ Eqv r0 r
theorem LV.of {h : Hp} {f : Fm} {i : Nat} {r : AV} (hl : lightV T ops h f i = some r) : LV T ops h f i r := ⟨r, hl, Eqv.refl r⟩
theorem LV_put {h : Hp} {i : Nat} {f : Fm} {dst : Option Tmp} {v r : AV} (hd : ∀ o, ops[i]? = some o → ∀ d, dst = some d → d ∉ o.looksAt ops) : LV T ops h (f.put dst v) i r ↔ LV T ops h f i r := by
  unfold LV; rw [lightV_put hd]
def edgesOf (o : Oper) : List Nat := o.after.toList.filterMap fun e => if Region.binds .any e then some e.on else none
structure Tidy (ops : Array Oper) (M : List Nat) : Prop where
  back : ∀ (j : Nat) (o : Oper), ops[j]? = some o → ∀ e ∈ edgesOf o, e < j
  anc : ∀ (j : Nat) (o : Oper) i, ops[j]? = some o → i < ops.size → (M.getD j 0).testBit i = true → ∃ e ∈ edgesOf o, e = i ∨ (M.getD e 0).testBit i = true
  see : ∀ (i j : Nat) (oi oj : Oper), ops[i]? = some oi → ops[j]? = some oj → i ≠ j → ∀ d, oi.dst = some d → (d ∈ oj.looksAt ops → (M.getD j 0).testBit i = true ∨ (M.getD i 0).testBit j = true) ∧ oj.dst ≠ some d
  self : ∀ (i : Nat) (oi : Oper), ops[i]? = some oi → ∀ d, oi.dst = some d → d ∉ oi.looksAt ops
  plain : ∀ (i : Nat) (oi : Oper), ops[i]? = some oi → (∀ cs b, oi.op ≠ .select cs b) ∧ ∀ c, oi.op ≠ .defer c
def plainB (o : Oper) : Bool := match o.op with | .select .. | .defer _ => false | _ => true
def tidyAt (ops : Array Oper) (M : List Nat) (j : Nat) (o : Oper) : Bool :=
  plainB o && (edgesOf o).all (· < j) &&
  ((List.range ops.size).all fun i => !(M.getD j 0).testBit i || (edgesOf o).any fun e => e == i || (M.getD e 0).testBit i) &&
  ((List.range ops.size).all fun i => match (ops[i]?).bind (·.dst) with
    | some d => (!((o.looksAt ops).contains d) || (i != j && ((M.getD j 0).testBit i || (M.getD i 0).testBit j))) && (i == j || o.dst != some d)
    | none => true)
def tidyB (ops : Array Oper) (M : List Nat) : Bool := (List.range ops.size).all fun j => match ops[j]? with
  | some o => tidyAt ops M j o
  | none => true
def masks (ops : Array Oper) : List Nat := ops.toList.foldl (fun M o => M ++ [(edgesOf o).foldl (fun m e => m ||| (1 <<< e) ||| M.getD e 0) 0]) []
theorem tidy_of {M : List Nat} (h : tidyB ops M = true) : Tidy ops M := by
  have hat : ∀ (j : Nat) (o : Oper), ops[j]? = some o → tidyAt ops M j o = true := fun j o ho => by
    have := List.all_eq_true.1 h j (List.mem_range.2 (Array.getElem?_eq_some_iff.1 ho).1)
    simpa only [ho] using this
  have hsee : ∀ (i j : Nat) (oi oj : Oper), ops[i]? = some oi → ops[j]? = some oj → ∀ d, oi.dst = some d → (d ∈ oj.looksAt ops → i ≠ j ∧ ((M.getD j 0).testBit i = true ∨ (M.getD i 0).testBit j = true)) ∧ (i ≠ j → oj.dst ≠ some d) := fun i j oi oj hi hj d hd => by
    have h1 := hat j oj hj
    simp only [tidyAt, Bool.and_eq_true] at h1
    have h2 := List.all_eq_true.1 h1.2 i (List.mem_range.2 (Array.getElem?_eq_some_iff.1 hi).1)
    simp only [hi, Option.bind_some, hd, Bool.and_eq_true, Bool.or_eq_true, Bool.not_eq_true', bne_iff_ne, beq_iff_eq] at h2
    refine ⟨fun hm => ?_, fun hne => h2.2.resolve_left hne⟩
    rcases h2.1 with h3 | h3
    · rw [List.contains_iff_mem.2 hm] at h3; cases h3
    · exact h3
  refine ⟨fun j o ho e he => ?_, fun j o i ho hi hb => ?_, fun i j oi oj hi hj hne d hd => ⟨fun hm => ((hsee i j oi oj hi hj d hd).1 hm).2, (hsee i j oi oj hi hj d hd).2 hne⟩, fun i oi hi d hd hm => ((hsee i i oi oi hi hi d hd).1 hm).1 rfl, fun i oi hi => ?_⟩
  · have h1 := hat j o ho
    simp only [tidyAt, Bool.and_eq_true] at h1
    simpa using List.all_eq_true.1 h1.1.1.2 e he
  · have h1 := hat j o ho
    simp only [tidyAt, Bool.and_eq_true] at h1
    have h2 := List.all_eq_true.1 h1.1.2 i (List.mem_range.2 hi)
    simp only [hb, Bool.not_true, Bool.false_or, List.any_eq_true, Bool.or_eq_true, beq_iff_eq] at h2
    exact h2
  · have h1 := hat i oi hi
    simp only [tidyAt, Bool.and_eq_true] at h1
    have h2 := h1.1.1.1
    unfold plainB at h2
    exact ⟨fun cs b hc => by simp [hc] at h2, fun c hc => by simp [hc] at h2⟩
def Closed (ops : Array Oper) (listed : Array Bool) : Prop := ∀ (j : Nat) (o : Oper), ops[j]? = some o → listed.getD j false = true → ∀ e ∈ edgesOf o, listed.getD e false = true
theorem mem_edges {o : Oper} {e : Nat} : e ∈ edgesOf o ↔ ∃ x ∈ o.after, Region.binds .any x = true ∧ x.on = e := by
  unfold edgesOf
  rw [List.mem_filterMap]
  constructor
  · rintro ⟨x, hx, h⟩
    split at h
    · rename_i hb; cases h; exact ⟨x, Array.mem_toList_iff.1 hx, hb, rfl⟩
    · cases h
  · rintro ⟨x, hx, hb, rfl⟩
    exact ⟨x, Array.mem_toList_iff.2 hx, by simp [hb]⟩
theorem ready_edges {j : Nat} {listed : Array Bool} (h : j ∈ Region.ready .any ops listed) : ∃ o, ops[j]? = some o ∧ listed.getD j true = false ∧ ∀ e ∈ edgesOf o, listed.getD e false = true := by
  obtain ⟨h0, o, ho, h1⟩ := mem_ready.1 h
  exact ⟨o, ho, h0, fun e he => by obtain ⟨x, hx, hb, rfl⟩ := mem_edges.1 he; exact h1 x hx hb⟩
theorem Closed.set {listed : Array Bool} (hc : Closed ops listed) {j : Nat} (h : j ∈ Region.ready .any ops listed) : Closed ops (listed.setIfInBounds j true) := by
  obtain ⟨o, ho, _, he⟩ := ready_edges h
  intro k ok hok hk e hek
  by_cases hjk : j = k
  · subst hjk
    rw [ho] at hok; cases hok
    exact getD_set_true (he e hek)
  · rw [getD_set_ne false hjk] at hk
    exact getD_set_true (hc k ok hok hk e hek)
theorem listed_lt {listed : Array Bool} {j : Nat} (h : listed.getD j true = false) : listed.getD j false = false := by
  rcases Nat.lt_or_ge j listed.size with h' | h'
  · simpa [h'] using h
  · simp [Array.getElem?_eq_none h']
theorem Closed.anc {M : List Nat} (hM : Tidy ops M) {listed : Array Bool} (hc : Closed ops listed) {i : Nat} (hi : i < ops.size) : ∀ (j : Nat) (o : Oper), ops[j]? = some o → (∀ e ∈ edgesOf o, listed.getD e false = true) → (M.getD j 0).testBit i = true → listed.getD i false = true := by
  intro j
  induction j using Nat.strongRecOn with
  | _ j ih =>
    intro o ho hall hb
    obtain ⟨e, he, h1 | h1⟩ := hM.anc j o i ho hi hb
    · subst h1; exact hall e he
    · have hlt := hM.back j o ho e he
      have hes : e < ops.size := Nat.lt_trans hlt (Array.getElem?_eq_some_iff.1 ho).1
      exact ih e hlt ops[e] (Array.getElem?_eq_getElem hes) (hc e ops[e] (Array.getElem?_eq_getElem hes) (hall e he)) h1
def PendOk (T : Ti) (ops : Array Oper) (pend : List (Nat × AV)) (f : Fm) (h : Hp) : Prop := ∀ p ∈ pend, LV T ops h f p.1 p.2
def dropP (M : List Nat) (j : Nat) (pend : List (Nat × AV)) : List (Nat × AV) := pend.filter fun p => !(M.getD j 0).testBit p.1
variable (P T ops) in
def AnyD (M : List Nat) (rd : Option Nat) (K : Fm → St → Prop) : Nat → List (Nat × AV) → Array Bool → Fm → St → Prop
  | 0, pend, listed, f, st => PendOk T ops pend f st.h ∧ Region.ready .any ops listed = [] ∧ K f st
  | fuel + 1, pend, listed, f, st => PendOk T ops pend f st.h ∧ (Region.ready .any ops listed = [] → K f st) ∧
    ∀ j ∈ Region.ready .any ops listed, ∃ o, ops[j]? = some o ∧ OpsW P rd ops [j] (fun f' st' => ∃ v, f' = f.put o.dst v ∧ AnyD M rd K fuel (dropP M j pend) (listed.setIfInBounds j true) f' st') f st
theorem OpsW.mono {rd : Option Nat} {l : List Nat} {K K' : Fm → St → Prop} {f : Fm} {st : St} (h : OpsW P rd ops l K f st) (hk : ∀ f st, K f st → K' f st) : OpsW P rd ops l K' f st :=
  fun φ w a n Q h1 h2 h3 hQ => h φ w a n Q h1 h2 h3 fun a' w' ⟨f', st', φ', k, r⟩ => hQ a' w' ⟨f', st', φ', hk _ _ k, r⟩
theorem AnyD.pend {M : List Nat} {rd : Option Nat} {K : Fm → St → Prop} {fuel : Nat} {pend : List (Nat × AV)} {listed : Array Bool} {f : Fm} {st : St} (h : AnyD P T ops M rd K fuel pend listed f st) : PendOk T ops pend f st.h := by
  cases fuel <;> exact h.1
theorem AnyD.weaken {M : List Nat} {rd : Option Nat} {K : Fm → St → Prop} : ∀ (fuel : Nat) {pend pend' : List (Nat × AV)} {listed : Array Bool} {f : Fm} {st : St}, AnyD P T ops M rd K fuel pend listed f st → (∀ p ∈ pend', p ∈ pend) → AnyD P T ops M rd K fuel pend' listed f st
  | 0, _, _, _, _, _, h, hs => ⟨fun p hp => h.1 p (hs p hp), h.2⟩
  | fuel + 1, pend, pend', _, _, _, h, hs => ⟨fun p hp => h.1 p (hs p hp), h.2.1, fun j hj => by
      obtain ⟨o, ho, h1⟩ := h.2.2 j hj
      refine ⟨o, ho, h1.mono fun f' st' ⟨v, h2, h3⟩ => ⟨v, h2, AnyD.weaken fuel h3 fun p hp => ?_⟩⟩
      unfold dropP at *
      rw [List.mem_filter] at *
      exact ⟨hs p hp.1, hp.2⟩⟩
theorem wpOpIn_congr {F : Fence} {n : Nat} {Q1 Q2 : Exit → Act → World → Prop} {j : Nat} {o : Oper} {K1 K2 : Act → World → Prop} {a1 a2 : Act} {w : World} (hj : ops[j]? = some o) (hnd : ∀ c, o.op ≠ .defer c)
    (hw : Region.wanted o (yielded ops a1.tmps) = Region.wanted o (yielded ops a2.tmps)) (he : execOp a1.eval o = execOp a2.eval o) (hb : ∀ w, o.about P w a1.eval = o.about P w a2.eval)
    (hK : ∀ cv w', K1 (a1.put o.dst cv) w' → K2 (a2.put o.dst cv) w') (hD : ∀ d w', K1 ({ a1 with defers := d :: a1.defers }.put o.dst undef) w' → K2 ({ a2 with defers := d :: a2.defers }.put o.dst undef) w') (hQ : ∀ e a w, e ≠ .normal → Q1 e a w → Q2 e a2 w) (hl : LetsOut Q1 → LetsOut Q2)
    (h : wpOpIn F n P ops Q1 j K1 a1 w) : wpOpIn F n P ops Q2 j K2 a2 w := by
  unfold wpOpIn at *
  simp only [hj] at *
  rw [hw, hb w] at h
  split
  · rename_i hwn
    simp only [hwn, if_true] at h
    unfold Oper.wpIn at *
    rw [semAt_eq hnd, he, hb w] at h
    rw [semAt_eq hnd]
    refine ⟨h.1, ?_⟩
    obtain ⟨-, h⟩ := h
    generalize (execOp a2.eval o).run P w = r at *
    cases r with
    | ok x w' =>
      cases x <;> simp only [Oper.uponIn] at h ⊢
      case value u => exact hK u _ h
      case skip => exact hK _ _ h
      case defer d => exact hD d _ h
      case enter f args => exact ⟨h.1, CallsIn.mono h.2 fun e w'' he => by
        cases e with
        | returned u => exact hK u _ he
        | panicked c => exact hQ _ _ _ (by simp) he
        | outgrown => exact hl he⟩
      case row row args => exact ⟨h.1, RowsIn.mono h.2 fun u w'' he => hK u _ he⟩
      case round l f tmps assign body => exact ⟨h.1, RoundIn.mono h.2 fun e w'' he => by
        cases e with
        | returned u => exact hK u _ he
        | panicked c => exact hQ _ _ _ (by simp) he
        | outgrown => exact hl he⟩
    | halt x w' =>
      cases x <;> simp only [Oper.uponIn] at h ⊢
      case panic u => exact hQ _ _ _ (by simp) h
  · rename_i hwn
    simp only [hwn] at h
    exact ⟨h.1, hK _ _ h.2⟩
theorem OpsW.unput {M : List Nat} (hM : Tidy ops M) (hT : TOk P T) {rd : Option Nat} {i j : Nat} {oi oj : Oper} {r : AV} {K : Fm → St → Prop} {f : Fm} {st : St} (hi : ops[i]? = some oi) (hj : ops[j]? = some oj)
    (h1 : ∀ d, oi.dst = some d → d ∉ oj.looksAt ops) (h2 : ∀ d, oi.dst = some d → oj.dst ≠ some d) (hr : LV T ops st.h f i r)
    (h : OpsW P rd ops [j] (fun f' st' => ∃ v, f' = (f.put oi.dst r).put oj.dst v ∧ K (f.put oj.dst v) st') (f.put oi.dst r) st) :
    OpsW P rd ops [j] (fun f' st' => ∃ v, f' = f.put oj.dst v ∧ K f' st') f st := by
  intro φ w a n Q hrd hrel hact hQ
  obtain ⟨u, hu⟩ : ∃ u, VR φ r u := by
    obtain ⟨r0, hr, heq⟩ := hr
    unfold lightV at hr
    simp only [hi] at hr
    split at hr
    · obtain ⟨u, h3, _⟩ := evG_ok (P := P) hT hrel (opR_of hact.ts) hr
      exact ⟨u, heq _ _ h3⟩
    · cases hr; exact ⟨undef, heq _ _ (.lit _)⟩
    · cases hr
  have hp := hM.plain j oj hj
  let X : Act → World → Prop := Lift φ st w (fun _ f' st' => ∃ v, f' = (f.put oi.dst r).put oj.dst v ∧ K (f.put oj.dst v) st') .normal
  have h3 := h φ w (a.put oi.dst u) n (fun e a w => e = .normal ∧ X a w) hrd hrel (hact.put oi.dst hu) (fun a' w' hl => ⟨rfl, hl⟩)
  rw [wpOpsIn_cons] at h3 ⊢
  refine wpOpIn_congr hj hp.2 (wanted_put oj a oi.dst u h1) (execOp_put oj hp.1 a oi.dst u h1) (fun w => about_put oj w a oi.dst u h1) (fun cv w' hk => ?_) (fun d w' hk => ?_) (fun e a w hne hk => absurd hk.1 hne) (fun hl => ?_) h3
  · obtain ⟨_, f', st', φ', ⟨v, rfl, hk⟩, he, hrel', hact', hf⟩ := hk
    refine hQ _ _ ⟨f.put oj.dst v, st', φ', ⟨v, rfl, hk⟩, he, hrel', ?_, hf⟩
    cases hd : oj.dst with
    | none => exact hact.mono he
    | some d =>
      rw [hd] at hact'
      have hv := hact'.ts.get d
      by_cases hlt : d < f.ts.len
      · refine (hact.mono he).put (some d) ?_
        have hlt' : d < (f.put oi.dst r).ts.len := by cases oi.dst <;> simpa [Fm.put, Ts.put_len] using hlt
        have hg : ((f.put oi.dst r).put (some d) v).ts.get d = v := by
          show ((f.put oi.dst r).ts.put d v).get d = v
          rw [getT_put, if_pos ⟨hlt', rfl⟩]
        rw [hg] at hv
        have hlc : d < (a.put oi.dst u).tmps.size := by
          have h5 := (hact.put oi.dst hu).ts.size
          rw [h5]; exact hlt'
        have : ((a.put oi.dst u).put (some d) cv).tmps.getD d (.tuple #[]) = cv := by
          show ((a.put oi.dst u).tmps.setIfInBounds d cv).getD d (.tuple #[]) = cv
          simp [Array.getD_eq_getD_getElem?, hlc]
        rw [this] at hv
        exact hv
      · have e1 : f.put (some d) v = f := by
          have hb : Nat.blt d f.ts.len = false := by rw [← Bool.not_eq_true, Nat.blt_eq]; exact hlt
          cases f with | mk ts dm => simp only [Fm.put, Ts.put] at hb ⊢; rw [hb]
        have hlc : ¬ d < a.tmps.size := by rw [hact.ts.size]; exact hlt
        have e2 : a.put (some d) cv = a := by
          cases a with | mk tmps defers => simp only [Act.put]; congr 1; exact Array.setIfInBounds_eq_of_size_le (by simpa using hlc)
        rw [e1, e2]
        exact hact.mono he
  · exfalso
    obtain ⟨_, f', st', φ', ⟨v, rfl, hk⟩, he, hrel', hact', hf⟩ := hk
    have e1 := congrArg List.length hact'.dm
    have e2 := congrArg List.length hact.dm
    have e3 : ((f.put oi.dst r).put oj.dst v).dm = f.dm := by cases oi.dst <;> cases oj.dst <;> rfl
    rw [e3] at e1
    cases hdi : oi.dst <;> cases hdj : oj.dst <;> simp [hdi, hdj, Act.put] at e1 e2 <;> omega
  · obtain ⟨a, w, hn, _⟩ := hl
    cases hn
theorem Fm.put_comm (f : Fm) {x y : Option Tmp} (v u : AV) (h : ∀ d, x = some d → y ≠ some d) : (f.put x v).put y u = (f.put y u).put x v := by
  cases x with
  | none => rfl
  | some d =>
    cases y with
    | none => rfl
    | some e =>
      have hne : d ≠ e := fun he => h d rfl (he ▸ rfl)
      simp only [Fm.put]
      rw [Ts.put_comm _ hne]
theorem OpsW.lightV (hT : TOk P T) {rd : Option Nat} {i : Nat} {l : List Nat} {K : Fm → St → Prop} {f : Fm} {st : St} {o : Oper} {r : AV} (ho : ops[i]? = some o) (hr : LV T ops st.h f i r) (h : OpsW P rd ops l K (f.put o.dst r) st) : OpsW P rd ops (i :: l) K f st := by
  obtain ⟨r0, hr, heq⟩ := hr
  unfold Fz.lightV at hr
  simp only [ho] at hr
  split at hr
  · rename_i hw; exact .lightE hT ho hw hr heq h
  · rename_i hw; cases hr; exact .skipE ho hw heq h
  · cases hr
def PL (pend : List (Nat × AV)) (listed : Array Bool) : Prop := ∀ p ∈ pend, listed.getD p.1 false = true
theorem AnyD.take {M : List Nat} (hM : Tidy ops M) (hT : TOk P T) {rd : Option Nat} {K : Fm → St → Prop} {i : Nat} {oi : Oper} {r : AV} (hi : ops[i]? = some oi) : ∀ (fuel : Nat) {pend : List (Nat × AV)} {listed : Array Bool} {f : Fm} {st : St},
    Closed ops listed → PL pend listed → (∀ p ∈ pend, ∀ o, ops[p.1]? = some o → ∀ d, oi.dst = some d → d ∉ o.looksAt ops) → i ∈ Region.ready .any ops listed → LV T ops st.h f i r → AnyD P T ops M rd K fuel ((i, r) :: pend) (listed.setIfInBounds i true) (f.put oi.dst r) st →
    AnyD P T ops M rd K (fuel + 1) pend listed f st := by
  intro fuel
  have his : i < ops.size := (Array.getElem?_eq_some_iff.1 hi).1
  have hpend : ∀ {pend : List (Nat × AV)} {f : Fm} {h : Hp}, (∀ p ∈ pend, ∀ o, ops[p.1]? = some o → ∀ d, oi.dst = some d → d ∉ o.looksAt ops) → PendOk T ops ((i, r) :: pend) (f.put oi.dst r) h → PendOk T ops pend f h := by
    intro pend f h hpd hp p hpm
    have h1 := hp p (List.mem_cons_of_mem _ hpm)
    rwa [LV_put (fun o ho d hd => hpd p hpm o ho d hd)] at h1
  have hself : ∀ {pend : List (Nat × AV)} {listed : Array Bool} {f : Fm} {st : St} {fuel : Nat}, AnyD P T ops M rd K fuel ((i, r) :: pend) (listed.setIfInBounds i true) (f.put oi.dst r) st → LV T ops st.h f i r →
      ∃ o, ops[i]? = some o ∧ OpsW P rd ops [i] (fun f' st' => ∃ v, f' = f.put o.dst v ∧ AnyD P T ops M rd K fuel (dropP M i pend) (listed.setIfInBounds i true) f' st') f st := fun H hr =>
    ⟨oi, hi, OpsW.lightV hT hi hr (.nil ⟨r, rfl, H.weaken _ fun p hp => List.mem_cons_of_mem _ (List.mem_filter.1 hp).1⟩)⟩
  induction fuel with
  | zero =>
    intro pend listed f st hc hpl hpd hr hl H
    refine ⟨hpend hpd H.pend, fun h => (by rw [h] at hr; cases hr), fun j hj => ?_⟩
    by_cases hji : j = i
    · subst hji; exact hself H hl
    · have := ready_mono hj hji
      rw [H.2.1] at this
      cases this
  | succ fuel ih =>
    intro pend listed f st hc hpl hpd hr hl H
    refine ⟨hpend hpd H.pend, fun h => (by rw [h] at hr; cases hr), fun j hj => ?_⟩
    by_cases hji : j = i
    · subst hji; exact hself H hl
    · obtain ⟨oj, hoj, h1⟩ := H.2.2 j (ready_mono hj hji)
      obtain ⟨oj', hoj', hjun, hje⟩ := ready_edges hj
      rw [hoj] at hoj'; cases hoj'
      obtain ⟨oi', hoi', hiun, hie'⟩ := ready_edges hr
      rw [hi] at hoi'; cases hoi'
      have hnot : (M.getD j 0).testBit i = false := by
        cases hb : (M.getD j 0).testBit i with
        | false => rfl
        | true => have := Closed.anc hM hc his j oj hoj hje hb; rw [listed_lt hiun] at this; cases this
      have hd1 : ∀ d, oi.dst = some d → d ∉ oj.looksAt ops := fun d hd hm => by
        rcases (hM.see i j oi oj hi hoj (Ne.symm hji) d hd).1 hm with h5 | h5
        · rw [hnot] at h5; cases h5
        · have := Closed.anc hM hc (Array.getElem?_eq_some_iff.1 hoj).1 i oi hi hie' h5
          rw [listed_lt hjun] at this; cases this
      have hd2 : ∀ d, oi.dst = some d → oj.dst ≠ some d := fun d hd => (hM.see i j oi oj hi hoj (Ne.symm hji) d hd).2
      refine ⟨oj, hoj, OpsW.unput (K := fun f' st' => AnyD P T ops M rd K (fuel + 1) (dropP M j pend) (listed.setIfInBounds j true) f' st') hM hT hi hoj hd1 hd2 hl (h1.mono fun f' st' ⟨v, hf, h2⟩ => ⟨v, hf, ?_⟩)⟩
      subst hf
      have h3 : dropP M j ((i, r) :: pend) = (i, r) :: dropP M j pend := by unfold dropP; rw [List.filter_cons]; simp only [hnot, Bool.not_false, if_true]
      rw [h3, Array.setIfInBounds_comm _ _ (Ne.symm hji), Fm.put_comm _ _ _ hd2] at h2
      refine ih (hc.set hj) (fun p hp => getD_set_true (hpl p (List.mem_filter.1 hp).1)) (fun p hp => hpd p (List.mem_filter.1 hp).1) (ready_mono hr (Ne.symm hji)) ?_ h2
      have h4 := h2.pend (i, r) (by simp)
      rwa [LV_put (fun o ho d hd => by rw [hi] at ho; cases ho; exact hM.self i oi hi d hd)] at h4
theorem AnyD.done {M : List Nat} {rd : Option Nat} {K : Fm → St → Prop} {pend : List (Nat × AV)} {listed : Array Bool} {f : Fm} {st : St} (hp : PendOk T ops pend f st.h) (hr : Region.ready .any ops listed = []) (h : K f st) : ∀ fuel, AnyD P T ops M rd K fuel pend listed f st
  | 0 => ⟨hp, hr, h⟩
  | _ + 1 => ⟨hp, fun _ => h, by rw [hr]; simp⟩
theorem AnyD.all {M : List Nat} {rd : Option Nat} {K : Fm → St → Prop} {fuel : Nat} {pend : List (Nat × AV)} {listed : Array Bool} {f : Fm} {st : St} {rs : List Nat} (hp : PendOk T ops pend f st.h) (hr : Region.ready .any ops listed = rs) (hne : rs ≠ [])
    (h : ∀ j ∈ rs, ∃ o, ops[j]? = some o ∧ OpsW P rd ops [j] (fun f' st' => ∃ v, f' = f.put o.dst v ∧ AnyD P T ops M rd K fuel (dropP M j pend) (listed.setIfInBounds j true) f' st') f st) : AnyD P T ops M rd K (fuel + 1) pend listed f st :=
  ⟨hp, fun h0 => absurd (hr ▸ h0) hne, hr ▸ h⟩
theorem AnyD.sound {M : List Nat} (hM : Tidy ops M) {rd : Option Nat} {K : Fm → St → Prop} : ∀ (fuel : Nat) {pend : List (Nat × AV)} {listed : Array Bool} {f : Fm} {st : St}, AnyD P T ops M rd K fuel pend listed f st →
    ∀ (φ : Fi) (w : World) (a : Act) (n : Nat) (Q : Exit → Act → World → Prop), (∀ id, rd = some id → id < φ.n) → Rel φ st w → ActR φ f a → (∀ a' w', Lift φ st w (fun _ f' st' => K f' st') .normal a' w' → Q .normal a' w') →
      wpAnyIn (FW (rdB φ rd)) n P .any ops Q fuel listed a w
  | 0, _, _, _, _, h, _, _, _, _, _, _, h2, h3, hQ => ⟨h.2.1, hQ _ _ (Lift.here h.2.2 h2 h3)⟩
  | fuel + 1, pend, listed, f, st, h, φ, w, a, n, Q, h1, h2, h3, hQ => by
    refine ⟨fun hr => hQ _ _ (Lift.here (h.2.1 hr) h2 h3), fun j hj => ?_⟩
    obtain ⟨o, ho, h4⟩ := h.2.2 j hj
    have hp := hM.plain j o ho
    have h5 := h4 φ w a n (fun e a' w' => e = .normal ∧ wpAnyIn (FW (rdB φ rd)) n P .any ops Q fuel (listed.setIfInBounds j true) a' w') h1 h2 h3 (fun a' w' hl => ⟨rfl, by
      obtain ⟨f', st', φ', ⟨v, hf, hk⟩, he, hrel, hact, hfr⟩ := hl
      have h6 := AnyD.sound hM fuel hk φ' w' a' n Q (fun id hi => Nat.lt_of_lt_of_le (h1 id hi) he.n) hrel hact (fun a2 w2 hl2 => hQ a2 w2 (hl2.trans he hfr))
      rwa [rdB_ext he h1] at h6⟩)
    rw [wpOpsIn_cons] at h5
    exact wpOpIn_congr ho hp.2 rfl rfl (fun _ => rfl) (fun cv w' hk => hk.2) (fun d w' hk => hk.2) (fun e a w hne hk => absurd hk.1 hne) (fun hl => by obtain ⟨a, w, hn, _⟩ := hl; cases hn) h5
theorem SW.drawn {M : List Nat} (hm : P.follows .mixedOrders = true) {rd : Option Nat} {id : Nat} {Q : Exit → Fm → St → Prop} {f : Fm} {st : St} (hM : Tidy ops M)
    (h : AnyD P T ops M rd (fun f' st' => Q .normal f' st') ops.size [] (Array.replicate ops.size false) f st) : SW P rd (.region id ops true) Q f st := by
  intro φ w a n h1 h2 h3
  refine wpIn_region_any hm ?_
  have hrel : Rel φ st { w with drawn := w.drawn + 1 } := h2.of_heap rfl
  refine AnyD.sound hM ops.size h φ _ a n _ h1 hrel h3 fun a' w' hl => ?_
  obtain ⟨f', st', φ', k, he, hr, ha, hf⟩ := hl
  exact ⟨f', st', φ', k, he, hr, ha, ⟨hf.os, hf.tape, hf.output, hf.size, hf.block, hf.own, hf.zs⟩⟩
theorem closed_nil : Closed ops (Array.replicate ops.size false) := fun j o ho hl => by
  exfalso
  simp only [Array.getD_eq_getD_getElem?, Array.getElem?_replicate] at hl
  split at hl <;> simp at hl
end
end Go.Fz
namespace Go.Fz
def St.keep (st : St) (p : Nat → Bool) : St := ⟨st.h.filter fun x => p x.1, st.n⟩
theorem Hp.get_filter {p : Nat → Bool} : ∀ {h : Hp} {id : Nat} {o : AObj}, Hp.get (h.filter fun x => p x.1) id = some o → h.get id = some o ∧ p id = true
  | [], id, o, h => by simp [Hp.get] at h
  | (i, x) :: r, id, o, h => by
    simp only [List.filter_cons] at h
    split at h
    · rename_i hp
      simp only [Hp.get] at h ⊢
      split at h
      · rename_i hi; subst hi; rw [if_pos rfl]; exact ⟨h, hp⟩
      · rename_i hi; rw [if_neg hi]; exact Hp.get_filter h
    · rename_i hp
      obtain ⟨h1, h2⟩ := Hp.get_filter h
      have hne : i ≠ id := fun e => hp (by show p i = true; rw [e]; exact h2)
      simp only [Hp.get, if_neg hne]
      exact ⟨h1, h2⟩
def frz (h : Hp) (D : Nat → Bool) : Nat → AV → AV
  | 0, _ => .any
  | n + 1, a => match a with
    | .ptr id off => if D id then (match h.get id with
        | some (.cells _ false cs) => .ip cs.length off (fun k => frz h D n (cs.getD k .any))
        | _ => .any) else .ptr id off
    | .sl id off len sz ex => if D id then (match h.get id with
        | some (.cells _ false cs) => if off + len * sz ≤ cs.length then .isl len sz ex (fun i k => frz h D n (cs.getD (off + i * sz + k) .any)) else .any
        | _ => .any) else .sl id off len sz ex
    | .mp id => if D id then .any else .mp id
    | .yld id => if D id then .any else .yld id
    | .fn f as0 bs => .fn f (as0.map (frz h D n)) (bs.map (frz h D n))
    | .agg cs => .agg (cs.map (frz h D n))
    | .tup vs => .tup (vs.map (frz h D n))
    | a => a
def freeB (h : Hp) (D : Nat → Bool) : Bool := h.all fun x => D x.1 || match x.2.fam with
  | none => true
  | some f => h.all fun y => !(D y.1) || match y.2.fam with
    | none => true
    | some g => !(Nat.beq f g)
theorem Hp.mem_of_get : ∀ {h : Hp} {id : Nat} {o : AObj}, h.get id = some o → (id, o) ∈ h
  | [], id, o, h => by simp [Hp.get] at h
  | (i, x) :: r, id, o, h => by
    simp only [Hp.get] at h
    split at h
    · rename_i hi; subst hi; cases h; exact List.mem_cons_self
    · exact List.mem_cons_of_mem _ (Hp.mem_of_get h)
theorem freeB_ok {h : Hp} {D : Nat → Bool} (hf : freeB h D = true) {i j : Nat} {oi oj : AObj} (hi : h.get i = some oi) (hj : h.get j = some oj) (hdi : D i = false) (hdj : D j = true) : ¬ Mates oi oj := by
  intro ⟨f, h1, h2⟩
  have h3 := List.all_eq_true.1 hf _ (Hp.mem_of_get hi)
  simp only [hdi, h1, Bool.false_or] at h3
  have h4 := List.all_eq_true.1 h3 _ (Hp.mem_of_get hj)
  simp only [hdj, h2, Bool.not_true, Bool.false_or, Bool.not_eq_true'] at h4
  have : Nat.beq f f = true := Nat.beq_refl f
  rw [this] at h4
  cases h4
open Classical in
noncomputable def zOf (φ : Fi) (h : Hp) (D : Nat → Bool) (w : World) (b : Nat) : Option (Nat → Option Value) :=
  match φ.z b with
  | some c => some c
  | none => if ∃ id fm cs, D id = true ∧ h.get id = some (.cells fm false cs) ∧ (φ.f id).b = b then some fun i => w.cell? ⟨b, i, none⟩ else none
theorem zOf_old {φ : Fi} {h : Hp} {D : Nat → Bool} {w : World} {b : Nat} {c : Nat → Option Value} (hb : φ.z b = some c) : zOf φ h D w b = some c := by unfold zOf; rw [hb]
theorem zOf_new {φ : Fi} {st : St} {w : World} (hr : Rel φ st w) {D : Nat → Bool} {id : Nat} {fm : Option Nat} {cs : List AV} (hd : D id = true) (ho : st.h.get id = some (.cells fm false cs)) :
    zOf φ st.h D w (φ.f id).b = some fun i => w.cell? ⟨(φ.f id).b, i, none⟩ := by
  unfold zOf
  cases hz : φ.z (φ.f id).b with
  | some c => exact absurd rfl ((hr.froz _ c hz).2.2 id _ ho rfl)
  | none => simp only; rw [if_pos ⟨id, fm, cs, hd, ho, rfl⟩]
theorem zOf_inv {φ : Fi} {h : Hp} {D : Nat → Bool} {w : World} {b : Nat} {c : Nat → Option Value} (hb : zOf φ h D w b = some c) :
    φ.z b = some c ∨ (c = fun i => w.cell? ⟨b, i, none⟩) ∧ ∃ id fm cs, D id = true ∧ h.get id = some (.cells fm false cs) ∧ (φ.f id).b = b := by
  unfold zOf at hb
  split at hb
  · rename_i c' hc; cases hb; exact .inl hc
  · split at hb
    · rename_i hx; cases hb; exact .inr ⟨rfl, hx⟩
    · cases hb
noncomputable def Fi.froz (φ : Fi) (h : Hp) (D : Nat → Bool) (w : World) : Fi := ⟨φ.f, φ.n, zOf φ h D w⟩
theorem Fi.froz_ext (φ : Fi) (h : Hp) (D : Nat → Bool) (w : World) : Ext φ (φ.froz h D w) := ⟨Nat.le_refl _, fun _ _ => rfl, fun _ _ hb => zOf_old hb⟩
theorem Rel.freeze {φ : Fi} {st : St} {w : World} (hr : Rel φ st w) {D : Nat → Bool} (hf : freeB st.h D = true) :
    Rel (φ.froz st.h D w) (st.keep fun i => !D i) w ∧ Fr φ st w (φ.froz st.h D w) (st.keep fun i => !D i) w := by
  have hget : ∀ id o, (st.keep fun i => !D i).h.get id = some o → st.h.get id = some o ∧ D id = false := fun id o h => by
    obtain ⟨h1, h2⟩ := Hp.get_filter (p := fun i => !D i) h
    exact ⟨h1, by simpa using h2⟩
  refine ⟨⟨hr.n, fun id o h => hr.lt id o (hget id o h).1, fun id o h => hr.blk id o (hget id o h).1, fun id o h => ?_, fun i j oi oj hi hj => hr.sep i j oi oj (hget i oi hi).1 (hget j oj hj).1,
    fun id o f h => hr.fam id o f (hget id o h).1, fun b c hb => ?_⟩, ⟨rfl, rfl, rfl, Nat.le_refl _, fun _ _ _ => rfl, fun k ⟨id, o, h, ho, hb⟩ => .inl ⟨id, o, (hget id o h).1, ho, hb⟩, fun b c hb => ?_⟩⟩
  · have h1 := (hget id o h).1
    exact (hr.obj id o h1).same (φ.froz_ext _ _ _) (by rw [hr.n]; exact hr.lt id o h1) rfl
  · rcases zOf_inv hb with h | ⟨rfl, id, fm, cs, hd, ho, rfl⟩
    · obtain ⟨h1, h2, h3⟩ := hr.froz b c h
      exact ⟨h1, h2, fun id o h4 => h3 id o (hget id o h4).1⟩
    · refine ⟨hr.blk id _ ho, fun i v hv => hv, fun j oj hj hown hbb => ?_⟩
      obtain ⟨h1, h2⟩ := hget j oj hj
      have hji : j ≠ id := fun e => by subst e; rw [hd] at h2; cases h2
      exact freeB_ok hf h1 ho h2 hd (hr.sep j id oj _ h1 ho hji hown hbb).1
  · rcases zOf_inv hb with h | ⟨_, id, fm, cs, hd, ho, rfl⟩
    · exact .inl h
    · exact .inr (.inl ⟨id, _, ho, rfl, rfl⟩)
theorem frz_ok {φ : Fi} {st : St} {w : World} (hr : Rel φ st w) {D : Nat → Bool} : ∀ (n : Nat) {a : AV} {u : Value}, VR φ a u → VR (φ.froz st.h D w) (frz st.h D n a) u
  | 0, _, _, _ => .any _
  | n + 1, a, u, h => by
    have hl : ∀ {as0 : List AV} {us : List Value}, VRL φ as0 us → VRL (φ.froz st.h D w) (as0.map (frz st.h D n)) us := fun {as0} => by
      induction as0 with
      | nil => intro us h; cases h; exact .nil
      | cons a as0 ih => intro us h; cases h with | cons h t => exact .cons (frz_ok hr n h) (ih t)
    have hm := h.mono (φ.froz_ext st.h D w)
    unfold frz
    split
    · rename_i id off
      split
      · rename_i hd
        obtain ⟨rfl, hid⟩ := h.ptr_inv
        split
        · rename_i fm cs ho
          have hobj := (hr.obj id _ ho).1
          have hc : ∀ k, k < cs.length → ∃ v, w.cell? ⟨(φ.f id).b, (φ.f id).o + k, none⟩ = some v ∧ VR φ (cs.getD k .any) v := fun k hk => by
            obtain ⟨v, h1, h2⟩ := hobj k cs[k] (List.getElem?_eq_getElem hk)
            exact ⟨v, h1, by simpa [hk] using h2⟩
          refine .ip cs.length off _ (φ.f id).b (φ.f id).o _ (fun k => (w.cell? ⟨(φ.f id).b, (φ.f id).o + k, none⟩).getD undef) (zOf_new hr hd ho) (fun j hj => ?_) (fun j hj => ?_)
          · obtain ⟨v, h1, _⟩ := hc j hj; simp [h1]
          · obtain ⟨v, h1, h2⟩ := hc j hj
            simp only [h1, Option.getD_some]
            exact frz_ok hr n h2
        · exact .any _
      · exact hm
    · rename_i id off len sz ex
      split
      · rename_i hd
        obtain ⟨cap, rfl, hid, hcap, hex, hbnd⟩ := h.sl_inv
        split
        · rename_i fm cs ho
          split
          · rename_i hlen
            have hobj := (hr.obj id _ ho).1
            have hk : ∀ i k, i < len → k < sz → off + i * sz + k < cs.length := fun i k hi hk => by
              have := Nat.mul_le_mul_right sz (show i + 1 ≤ len from hi)
              rw [Nat.add_mul] at this
              omega
            have hc : ∀ i k, i < len → k < sz → ∃ v, w.cell? ⟨(φ.f id).b, (φ.f id).o + off + i * sz + k, none⟩ = some v ∧ VR φ (cs.getD (off + i * sz + k) .any) v := fun i k hi hkk => by
              have hlt := hk i k hi hkk
              obtain ⟨v, h1, h2⟩ := hobj (off + i * sz + k) _ (List.getElem?_eq_getElem hlt)
              exact ⟨v, by rw [← h1]; congr 2; omega, by simpa [hlt] using h2⟩
            refine .isl len sz ex _ (φ.f id).b ((φ.f id).o + off) cap _ (fun i k => (w.cell? ⟨(φ.f id).b, (φ.f id).o + off + i * sz + k, none⟩).getD undef) (zOf_new hr hd ho) (fun i k hi hkk => ?_) (fun i k hi hkk => ?_) hcap hex
            · obtain ⟨v, h1, _⟩ := hc i k hi hkk; simp [h1]
            · obtain ⟨v, h1, h2⟩ := hc i k hi hkk
              simp only [h1, Option.getD_some]
              exact frz_ok hr n h2
          · exact .any _
        · exact .any _
      · exact hm
    · split
      · exact .any _
      · exact hm
    · split
      · exact .any _
      · exact hm
    · obtain ⟨us, vs, rfl, h1, h2⟩ := h.fn_inv
      exact .fn _ (hl h1) (hl h2)
    · obtain ⟨us, rfl, h1⟩ := h.agg_inv
      exact .agg (hl h1)
    · obtain ⟨us, rfl, h1⟩ := h.tup_inv
      exact .tup (hl h1)
    · exact hm
def litB : AV → Bool
  | .lit _ | .sb _ | .any => true
  | _ => false
theorem frz_lits {h : Hp} {D : Nat → Bool} {m : Nat} {l : List AV} (hl : l.all litB = true) (j : Nat) : frz h D (m + 1) (l.getD j .any) = l.getD j .any := by
  rw [List.getD_eq_getElem?_getD]
  cases hc : l[j]? with
  | none => rfl
  | some a =>
    have := List.all_eq_true.1 hl a (List.mem_of_getElem? hc)
    simp only [Option.getD_some]
    cases a <;> first | rfl | cases this
def Below (n : Nat) (a : AV) : Prop := ∀ (φ : Fi) (u : Value), VR φ a u → VR ⟨φ.f, n, φ.z⟩ a u
theorem Below.any {n : Nat} : Below n .any := fun _ _ _ => .any _
theorem Below.lit {n : Nat} {v : Value} : Below n (.lit v) := fun _ _ h => by cases h; exact .lit _
theorem Below.ptr {n id off : Nat} (h : id < n) : Below n (.ptr id off) := fun φ _ hv => by cases hv; exact .ptr (φ := ⟨φ.f, n, φ.z⟩) id off h
theorem Below.yld {n id : Nat} (h : id < n) : Below n (.yld id) := fun φ _ hv => by cases hv; exact .yld (φ := ⟨φ.f, n, φ.z⟩) id h
theorem Below.mp {n id : Nat} (h : id < n) : Below n (.mp id) := fun φ _ hv => by cases hv; exact .mp (φ := ⟨φ.f, n, φ.z⟩) id h
theorem Below.list {n : Nat} {φ : Fi} : ∀ {as0 : List AV} {us : List Value}, (∀ a ∈ as0, Below n a) → VRL φ as0 us → VRL ⟨φ.f, n, φ.z⟩ as0 us
  | [], _, _, h => by cases h; exact .nil
  | a :: as0, _, hb, h => by
    cases h with
    | cons h t => exact .cons (hb a List.mem_cons_self _ _ h) (Below.list (fun x hx => hb x (List.mem_cons_of_mem _ hx)) t)
theorem Below.agg {n : Nat} {cs : List AV} (h : ∀ a ∈ cs, Below n a) : Below n (.agg cs) := fun φ _ hv => by
  obtain ⟨us, rfl, h1⟩ := hv.agg_inv
  exact .agg (Below.list h h1)
theorem Below.tup {n : Nat} {cs : List AV} (h : ∀ a ∈ cs, Below n a) : Below n (.tup cs) := fun φ _ hv => by
  obtain ⟨us, rfl, h1⟩ := hv.tup_inv
  exact .tup (Below.list h h1)
theorem Below.fn {n : Nat} {f : Fn} {as0 bs : List AV} (h : ∀ a ∈ as0, Below n a) (k : ∀ a ∈ bs, Below n a) : Below n (.fn f as0 bs) := fun φ _ hv => by
  obtain ⟨us, vs, rfl, h1, h2⟩ := hv.fn_inv
  exact .fn _ (Below.list h h1) (Below.list k h2)
theorem Below.isl {n len sz : Nat} {ex : Bool} {g : Nat → Nat → AV} (h : ∀ i k, i < len → k < sz → Below n (g i k)) : Below n (.isl len sz ex g) := fun φ _ hv => by
  cases hv with
  | isl _ _ _ _ b o cap c us hz hc hus hcap hex => exact .isl (φ := ⟨φ.f, n, φ.z⟩) len sz ex g b o cap c us hz hc (fun i k hi hk => h i k hi hk _ _ (hus i k hi hk)) hcap hex
  | isl0 => exact .isl0 _ _ _
theorem Below.ip {n sz k : Nat} {e : Nat → AV} (h : ∀ j, j < sz → Below n (e j)) : Below n (.ip sz k e) := fun φ _ hv => by
  cases hv with
  | ip _ _ _ b o c us hz hc hus => exact .ip (φ := ⟨φ.f, n, φ.z⟩) sz k e b o c us hz hc (fun j hj => h j hj _ _ (hus j hj))
theorem Below.sb {n : Nat} {b : Bool} : Below n (.sb b) := fun _ _ h => by cases h; exact .sb _
def AllB (n : Nat) : List AV → Prop
  | [] => True
  | a :: l => Below n a ∧ AllB n l
theorem AllB.ok {n : Nat} : ∀ {l : List AV}, AllB n l → ∀ a ∈ l, Below n a
  | [], _, a, h => by cases h
  | x :: l, h, a, ha => by
    rcases List.mem_cons.1 ha with rfl | ha
    · exact h.1
    · exact h.2.ok a ha
theorem Eqv.bool {b c : Bool} (h : b = c) : Eqv (.lit (.bool b)) (.sb c) := fun _ _ hv => by subst h; cases hv; exact .sb _
theorem Eqv.sb {b c : Bool} (h : b = c) : Eqv (.sb b) (.sb c) := Eqv.of (by rw [h])
theorem Eqv.lit {b c : Bool} (h : b = c) : Eqv (.sb b) (.lit (.bool c)) := fun _ _ hv => by subst h; cases hv; exact .lit _
theorem Eqv.int {k : IntKind} {x y : Int} (h : x = y) : Eqv (.lit (.int k x)) (.lit (.int k y)) := Eqv.of (by rw [h])
theorem Eqv.isl {len len' sz : Nat} {ex : Bool} {g g' : Nat → Nat → AV} (hl : len = len') (h : ∀ i k, i < len → k < sz → Eqv (g i k) (g' i k)) : Eqv (.isl len sz ex g) (.isl len' sz ex g') := fun φ _ hv => by
  subst hl
  cases hv with
  | isl _ _ _ _ b o cap c us hz hc hus hcap hex => exact .isl len sz ex g' b o cap c us hz hc (fun i k hi hk => h i k hi hk _ _ (hus i k hi hk)) hcap hex
  | isl0 => exact .isl0 _ _ _
inductive Eqvs : List AV → List AV → Prop
  | nil : Eqvs [] []
  | cons {a b : AV} {as0 bs : List AV} (h : Eqv a b) (t : Eqvs as0 bs) : Eqvs (a :: as0) (b :: bs)
theorem Eqvs.ok {φ : Fi} : ∀ {as0 bs : List AV} {us : List Value}, Eqvs as0 bs → VRL φ as0 us → VRL φ bs us
  | _, _, _, .nil, h => h
  | _, _, _, .cons h t, hv => by cases hv with | cons h1 h2 => exact .cons (h _ _ h1) (t.ok h2)
theorem Eqv.agg {as0 bs : List AV} (h : Eqvs as0 bs) : Eqv (.agg as0) (.agg bs) := fun _ _ hv => by
  obtain ⟨us, rfl, h1⟩ := hv.agg_inv
  exact .agg (h.ok h1)
theorem Eqv.tup {as0 bs : List AV} (h : Eqvs as0 bs) : Eqv (.tup as0) (.tup bs) := fun _ _ hv => by
  obtain ⟨us, rfl, h1⟩ := hv.tup_inv
  exact .tup (h.ok h1)
theorem Eqv.fn {f : Fn} {as0 bs as' bs' : List AV} (h : Eqvs as0 as') (k : Eqvs bs bs') : Eqv (.fn f as0 bs) (.fn f as' bs') := fun _ _ hv => by
  obtain ⟨us, vs, rfl, h1, h2⟩ := hv.fn_inv
  exact .fn _ (h.ok h1) (k.ok h2)
theorem Eqv.ip {sz k : Nat} {e e' : Nat → AV} (h : ∀ j, j < sz → Eqv (e j) (e' j)) : Eqv (.ip sz k e) (.ip sz k e') := fun φ _ hv => by
  cases hv with
  | ip _ _ _ b o c us hz hc hus => exact .ip sz k e' b o c us hz hc (fun j hj => h j hj _ _ (hus j hj))
variable {P : Program} {T : Ti}
structure Pure (P : Program) (g : FuncId) (args : List AV) (r : AV) : Prop where
  ent : Enters P g
  call : ∀ st, CallW P g args st (fun v st' => v = r ∧ st' = st)
theorem Pure.eqv {g : FuncId} {args args' : List AV} {r : AV} (h : Pure P g args' r) (he : Eqvs args args') : Pure P g args r :=
  ⟨h.ent, fun st φ w cargs n h1 h2 => h.call st φ w cargs n h1 (he.ok h2)⟩
theorem Pure.res {g : FuncId} {args : List AV} {r r' : AV} (h : Pure P g args r) (he : Eqv r r') : Pure P g args r' :=
  ⟨h.ent, fun st φ w cargs n h1 h2 => (h.call st φ w cargs n h1 h2).mono fun e w' ⟨v, cv, st', φ', he', ⟨hv, hs⟩, hr, hx, hrel, hf⟩ => ⟨r', cv, st', φ', he', ⟨rfl, hs⟩, he _ _ (by rw [← hv]; exact hr), hx, hrel, hf⟩⟩
theorem pure_of_call {g : FuncId} {args : List AV} {r : AV} {m : Nat} (hent : Enters P g) (ha : AllB 0 args) (hr : Below 0 r)
    (h : CallW P g args ⟨[], 0⟩ (fun v st' => Eqv (frz st'.h (fun _ => true) m v) r)) : Pure P g args r := by
  refine ⟨hent, fun st φ w cargs n hrel hargs => ?_⟩
  have hrel0 : Rel ⟨φ.f, 0, φ.z⟩ ⟨[], 0⟩ w := ⟨rfl, fun _ _ h => by simp [Hp.get] at h, fun _ _ h => by simp [Hp.get] at h, fun _ _ h => by simp [Hp.get] at h, fun _ _ _ _ h => by simp [Hp.get] at h, fun _ _ _ h => by simp [Hp.get] at h,
    fun b c hb => ⟨(hrel.froz b c hb).1, (hrel.froz b c hb).2.1, fun _ _ h => by simp [Hp.get] at h⟩⟩
  refine (h ⟨φ.f, 0, φ.z⟩ w cargs n hrel0 (Below.list ha.ok hargs)).mono fun e w1 hp => ?_
  obtain ⟨v, cv, st1, φ1, rfl, hv, hvr, hext, hrel1, hfr⟩ := hp
  have hfree : freeB st1.h (fun _ => true) = true := List.all_eq_true.2 fun x _ => by simp
  obtain ⟨hrel2, hfr2⟩ := hrel1.freeze hfree
  have hvr2 := frz_ok (D := fun _ => true) hrel1 m hvr
  replace hvr2 := hv _ _ hvr2
  have hfr3 := hfr.trans hfr2
  have hnone : ∀ b, ¬ Owns ⟨φ.f, 0, φ.z⟩ ⟨[], 0⟩ b := fun b ⟨id, o, h, _⟩ => by simp [Hp.get] at h
  have hzs : ∀ b c, zOf φ1 st1.h (fun _ => true) w1 b = some c → φ.z b = some c ∨ w.heap.size ≤ b := fun b c hb => (hfr3.zs b c hb).elim .inl fun h => h.elim (fun ho => absurd ho (hnone b)) .inr
  have hext3 : Ext φ ⟨φ.f, φ.n, zOf φ1 st1.h (fun _ => true) w1⟩ := ⟨Nat.le_refl _, fun _ _ => rfl, fun b c hb => zOf_old (hext.z b c hb)⟩
  have hsame : ∀ k, k < w.heap.size → w1.heap[k]? = w.heap[k]? := fun k hk => hfr3.block k hk (hnone k)
  refine ⟨r, cv, st, ⟨φ.f, φ.n, zOf φ1 st1.h (fun _ => true) w1⟩, rfl, ⟨rfl, rfl⟩, ?_, hext3, ?_, ?_⟩
  · have h1 := hr _ _ hvr2
    have h1' : VR ⟨φ1.f, 0, zOf φ1 st1.h (fun _ => true) w1⟩ r cv := h1
    exact VR.mono (φ := ⟨φ1.f, 0, zOf φ1 st1.h (fun _ => true) w1⟩) (φ' := ⟨φ.f, φ.n, zOf φ1 st1.h (fun _ => true) w1⟩) ⟨Nat.zero_le _, fun id hid => absurd hid (Nat.not_lt_zero id), fun b c hb => hb⟩ h1'
  · refine ⟨hrel.n, hrel.lt, fun id o ho => Nat.lt_of_lt_of_le (hrel.blk id o ho) hfr3.size, fun id o ho => (hrel.obj id o ho).same hext3 (by rw [hrel.n]; exact hrel.lt id o ho) (hsame _ (hrel.blk id o ho)), hrel.sep, hrel.fam, fun b c hb => ?_⟩
    obtain ⟨h1, h2, _⟩ := hrel2.froz b c hb
    refine ⟨h1, h2, fun id o ho hown hbb => ?_⟩
    rcases hzs b c hb with h3 | h3
    · exact (hrel.froz b c h3).2.2 id o ho hown hbb
    · have := hrel.blk id o ho
      have hbb' : (φ.f id).b = b := hbb
      omega
  · exact ⟨hfr3.os, hfr3.tape, hfr3.output, hfr3.size, fun k hk _ => hsame k hk, fun k hk => .inl hk, fun b c hb => (hzs b c hb).elim .inl fun h => .inr (.inr h)⟩
theorem pure_of_body (hT : TOk P T) {g : FuncId} {fn : Func} {c : Code} {args : List AV} {r : AV} (m : Nat) (hf : P.funcs[g]? = some fn) (hent : Enters P g) (hb : fn.body = some c) (ha : AllB 0 args) (hr : Below 0 r)
    (h : SW P none c (retQ T fn (fun v st' => Eqv (frz st'.h (fun _ => true) m v) r)) ⟨Ts.of args fn.ntmps, []⟩ ⟨[], 0⟩) : Pure P g args r :=
  pure_of_call hent ha hr (callW_of_body hT hf hb h)
theorem OpsW.pure {rd : Option Nat} {ops : Array Oper} {i : Nat} {l : List Nat} {K : Fm → St → Prop} {f : Fm} {st : St} {o : Oper} {g : FuncId} {first caps as0 : List AV} {r : AV} (hp : Pure P g (first ++ as0 ++ caps) r) (ho : ops[i]? = some o)
    (hw : wantA ops f.ts o = some true) (hc : callO (Operand.av f.ts) o = some (.fn (.func g) first caps, as0)) (h : OpsW P rd ops l K (f.put o.dst r) st) : OpsW P rd ops (i :: l) K f st :=
  OpsW.call ho hw hc (show ApplyW P (.fn (.func g) first caps) as0 st _ from ⟨hp.ent, (hp.call st).mono fun v st' ⟨h1, h2⟩ => by subst h1; subst h2; exact h⟩)
end Go.Fz
namespace Go.Fz
section
variable {P : Program} {b : Frame} {a : Act} {k : List Item} {cs : List Frame} {w : World}
theorem stepR_scope {c : Code} : step P (lone (b.atR a (.code (.scope c) :: k)) cs w) = .next (lone (b.atR a (.code c :: .inScope c :: k)) cs w) :=
  step_lone_go (by simp [stepG, stepG.exec, Frame.atR])
theorem stepR_inScope {c : Code} : step P (lone (b.atR a (.inScope c :: k)) cs w) = .next (lone (b.atR a k) cs w) :=
  step_lone_go (by simp [stepG, stepG.exec, Frame.atR])
end
def scopeQ (Q : Exit → Fm → St → Prop) : Exit → Fm → St → Prop
  | .goto _, _, _ => False
  | e, f, st => Q e f st
theorem SW.scope {P : Program} {rd : Option Nat} {c : Code} {Q : Exit → Fm → St → Prop} {f : Fm} {st : St} (h : SW P rd c (scopeQ Q) f st) : SW P rd (.scope c) Q f st := by
  intro φ w a n h1 h2 h3 b k cs hro hb hr
  have h0 : (lone (b.atR a (.code (.scope c) :: k)) cs w).fenced P (FW (rdB φ rd)) := fenced_calm hb hr rfl
  obtain ⟨e, a₁, w₁, hq, harr⟩ := h φ w a n h1 h2 h3 b (.inScope c :: k) cs hro hb hr
  obtain ⟨f', st', φ', hk, r⟩ := hq
  cases e with
  | normal => exact ⟨.normal, a₁, w₁, ⟨f', st', φ', hk, r⟩, .head h0 stepR_scope (StepsIn.trans harr (.one (fenced_calm hb hr rfl) stepR_inScope))⟩
  | exit id =>
    have hx : exitTo id (.inScope c :: k) = exitTo id k := by simp [exitTo]
    exact ⟨.exit id, a₁, w₁, ⟨f', st', φ', hk, r⟩, fun k' hk => .head h0 stepR_scope (harr.1 k' (by rw [hx]; exact hk)),
      fun hr' hk => let ⟨k₁, h1, h2⟩ := harr.2 hr' (by rw [hx]; exact hk); ⟨k₁, h1, .head h0 stepR_scope h2⟩⟩
  | goto l => exact hk.elim
  | ret => exact ⟨_, a₁, w₁, ⟨f', st', φ', hk, r⟩, .of_steps (.one h0 stepR_scope) harr⟩
  | panic ch => exact ⟨_, a₁, w₁, ⟨f', st', φ', hk, r⟩, .of_steps (.one h0 stepR_scope) harr⟩
  | outgrown => exact ⟨_, a₁, w₁, ⟨f', st', φ', hk, r⟩, .of_steps (.one h0 stepR_scope) harr⟩
end Go.Fz
