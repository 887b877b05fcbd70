/-
  RANGES OVER FUNCTIONS: the statement, and a call of yield. Own work of the verifier of watercress.
-/
import Derived.Test.YtmoimpajiajacaaEvG
namespace Go.Ev

def setPs : List AV → List (Tmp × AV) → List AV
  | ts, [] => ts
  | ts, (t, a) :: r => setPs (ts.set t a) r

def loopAt (st : St) (id : Nat) : Option ALoop :=
  match st.h.get id with
  | some (.loop r) => some r
  | _ => none
theorem loopAt_get {st : St} {id : Nat} {r : ALoop} (h : loopAt st id = some r) : st.h.get id = some (.loop r) := by
  unfold loopAt at h
  split at h
  · cases h; assumption
  · cases h
def setLoop (st : St) (id : Nat) (r : ALoop) : St := ⟨st.h.set id (.loop r), st.n⟩

variable {P : Program} {T : Ti}

/-- The record turns. -/
theorem Rel.loop {φ : Fi} {st : St} {w : World} (hr : Rel φ st w) {id : Nat} {r r' : ALoop} (ho : loopAt st id = some r) {L L' : Loop} (hL : w.heap[(φ.f id).b]? = some (.loop L))
    (h1 : L'.state = r'.state) (h2 : L'.pending = r'.pending) (h3 : L'.tmps = L.tmps) (h4 : L'.params = L.params) (h5 : L'.assign = L.assign) (h6 : L'.body = L.body) (h7 : L'.defers = L.defers)
    (k3 : r'.tmps = r.tmps) (k4 : r'.params = r.params) (k5 : r'.assign = r.assign) (k6 : r'.body = r.body) (k7 : r'.dfid = r.dfid) :
    Rel φ (setLoop st id r') (w.putObj (φ.f id).b (.loop L')) ∧ Fr φ st w φ (setLoop st id r') (w.putObj (φ.f id).b (.loop L')) := by
  have hg := loopAt_get ho
  obtain ⟨L0, g1, g2, g3, g4, g5, g6, g7, g8, g9⟩ := hr.obj id _ hg
  rw [hL] at g1
  cases g1
  refine hr.turn hg rfl rfl rfl rfl rfl World.putObj_size (fun _ hk => World.putObj_heap_other hk) ⟨L', World.putObj_heap_same (hr.blk id _ hg), h1, h2, ?_, ?_, ?_, ?_, ?_, ?_⟩
  · rw [h3, k3]; exact g4
  · rw [h4, k4]; exact g5
  · rw [h5, k5]; exact g6
  · rw [h6, k6]; exact g7
  · rw [k7]; exact g8
  · rw [h7, k7]; exact g9

theorem setPs_ok {φ : Fi} : ∀ (ps : List Tmp) {as : List AV} {us : List Value} {ts : List AV} {tmps : Array Value}, VRL φ as us → VRL φ ts tmps.toList →
    VRL φ (setPs ts (ps.zip as)) ((ps.zip us).foldl (fun (t : Array Value) (p : Tmp × Value) => t.setIfInBounds p.1 p.2) tmps).toList
  | [], _, _, _, _, _, ht => by simpa [setPs] using ht
  | p :: ps, _, _, _, _, .nil, ht => by simpa [setPs] using ht
  | p :: ps, _, _, ts, tmps, .cons h t, ht => by
    simp only [List.zip_cons_cons, setPs, List.foldl_cons]
    refine setPs_ok ps t ?_
    rw [Array.toList_setIfInBounds]
    exact ht.set p h

def roundQ (id : Nat) (k : AV → St → Prop) : Exit → Fm → St → Prop
  | .normal, _, st => ∃ r, loopAt st id = some r ∧ k (.lit (.bool true)) (setLoop st id { r with state := .ready, pending := none })
  | .ret, _, st => ∃ r, loopAt st id = some r ∧ k (.lit (.bool false)) (setLoop st id { r with state := .done, pending := some .ret })
  | .exit e, _, st => ∃ r, loopAt st id = some r ∧ k (.lit (.bool false)) (setLoop st id { r with state := .done, pending := some (.exit e) })
  | .goto l, _, st => ∃ r, loopAt st id = some r ∧ k (.lit (.bool false)) (setLoop st id { r with state := .done, pending := some (.goto l) })
  | _, _, _ => False

/-- ONE ROUND: what a call of yield does. -/
theorem YieldW.of_round {id : Nat} {args : List AV} {st : St} {k : AV → St → Prop} {r : ALoop} (ho : loopAt st id = some r) (hlen : args.length = r.params.size)
    (h : SW P (some id) r.assign (thenQ (fun f1 st1 => ∃ r1, loopAt st1 id = some r1 ∧ r1.state = .ready ∧ SW P (some id) r.body (roundQ id k) f1 (setLoop st1 id { r1 with state := .busy })) (fun _ _ _ => False))
      ⟨setPs r.tmps (r.params.toList.zip args), []⟩ st) : YieldW P id args st k := by
  intro φ w cargs n hr hid hargs
  obtain ⟨L, g1, g2, g3, g4, g5, g6, g7, g8, g9⟩ := hr.obj id _ (loopAt_get ho)
  have hl := hargs.length
  refine ⟨_, _, _, _, run_yield g1 (by rw [g5]; simp; omega), ?_⟩
  refine roundIn_of_wpIn (F := Fence.wide) trivial ?_
  rw [g6]
  have htm : VRL φ (setPs r.tmps (r.params.toList.zip args)) ((L.params.zip cargs.toArray).foldl (fun tmps (t, a) => tmps.setIfInBounds t a) L.tmps).toList := by
    have := setPs_ok (ps := r.params.toList) hargs g4
    rw [g5, ← Array.foldl_toList, Array.toList_zip]
    exact this
  refine wpIn_mono (h φ w { tmps := (L.params.zip cargs.toArray).foldl (fun tmps (t, a) => tmps.setIfInBounds t a) L.tmps, defers := [] } n (fun i hi => by cases hi; exact hid) hr ⟨htm, rfl, fun _ h => by cases h⟩) fun e a1 w1 hq => ?_
  obtain ⟨f1, st1, φ1, hk, he1, hr1, ha1, hf1⟩ := hq
  have hb1 : (φ1.f id).b = (φ.f id).b := by rw [he1.f id hid]
  cases e with
  | normal =>
    obtain ⟨r1, ho1, hs1, hbody⟩ := hk
    obtain ⟨L1, k1, k2, k3, k4, k5, k6, k7, k8, k9⟩ := hr1.obj id _ (loopAt_get ho1)
    rw [hb1] at k1
    have hbr := run_beginRound (P := P) k1 (by rw [k2]; exact hs1)
    obtain ⟨hr2, hf2⟩ := hr1.loop (r' := { r1 with state := .busy }) ho1 (L := L1) (L' := { L1 with state := .busy }) (by rw [hb1]; exact k1) rfl k3 rfl rfl rfl rfl rfl rfl rfl rfl rfl rfl
    rw [hb1] at hr2 hf2
    refine ⟨_, hbr, ?_⟩
    rw [g7]
    have h2 := hbody φ1 _ a1 n (fun i hi => by cases hi; exact Nat.lt_of_lt_of_le hid he1.n) hr2 ha1
    rw [rdB_ext he1 (fun i hi => by cases hi; exact hid)] at h2
    refine wpIn_mono h2 fun e a2 w2 hq2 => ?_
    obtain ⟨f2, st2, φ2, hk2, he2, hr3, ha2, hf3⟩ := hq2
    have hb2 : (φ2.f id).b = (φ.f id).b := by rw [he2.f id (Nat.lt_of_lt_of_le hid he1.n)]; exact hb1
    have fin : ∀ (jump : Option Code) (r2 : ALoop), loopAt st2 id = some r2 → k (.lit (.bool jump.isNone)) (setLoop st2 id { r2 with state := if jump.isNone then .ready else .done, pending := jump }) →
        ∃ v w', (Instr.endRound (φ.f id).b jump).run P w2 = .ok v w' ∧ CPost φ st w k (.returned v) w' := fun jump r2 ho2 hkk => by
      obtain ⟨L2, m1, m2, m3, m4, m5, m6, m7, m8, m9⟩ := hr3.obj id _ (loopAt_get ho2)
      rw [hb2] at m1
      obtain ⟨hr4, hf4⟩ := hr3.loop (r' := { r2 with state := if jump.isNone then .ready else .done, pending := jump }) ho2 (L := L2) (L' := { L2 with state := if jump.isNone then .ready else .done, pending := jump }) (by rw [hb2]; exact m1) rfl rfl rfl rfl rfl rfl rfl rfl rfl rfl rfl rfl
      rw [hb2] at hr4 hf4
      exact ⟨_, _, run_endRound (P := P) jump m1, .lit (.bool jump.isNone), .bool jump.isNone, _, φ2, rfl, hkk, .lit _, he1.trans he2, hr4, hf1.trans (hf2.trans (hf3.trans hf4))⟩
    cases e with
    | normal => obtain ⟨r2, ho2, hkk⟩ := hk2; exact fin none r2 ho2 hkk
    | ret => obtain ⟨r2, ho2, hkk⟩ := hk2; exact fin (some .ret) r2 ho2 hkk
    | exit x => obtain ⟨r2, ho2, hkk⟩ := hk2; exact fin (some (.exit x)) r2 ho2 hkk
    | goto l => obtain ⟨r2, ho2, hkk⟩ := hk2; exact fin (some (.goto l)) r2 ho2 hkk
    | panic c => exact hk2.elim
    | outgrown => exact hk2.elim
  | exit x => exact hk.elim
  | goto l => exact hk.elim
  | ret => exact hk.elim
  | panic c => exact hk.elim
  | outgrown => exact hk.elim

/-- What is asked behind the function that was ranged over. -/
def rangeK (P : Program) (rd : Option Nat) (lid : Nat) (Q : Exit → Fm → St → Prop) (f : Fm) : AV → St → Prop := fun _ st =>
  ∃ r, loopAt st lid = some r ∧ r.state ≠ .busy ∧
    (match r.pending with
     | none => Q .normal f (setLoop st lid { r with state := .exhausted })
     | some c => SW P rd c Q f (setLoop st lid { r with state := .exhausted }))

theorem rangePost_ok {rd : Option Nat} {lid : Nat} {Q : Exit → Fm → St → Prop} {f : Fm} {φ φ1 : Fi} {st st1 : St} {w w1 : World} {a : Act} {n : Nat} (hrd : ∀ id, rd = some id → id < φ.n) (he : Ext φ φ1) (hlid : lid < φ1.n) (ha : ActR φ1 f a) (hf : Fr φ st w φ1 st1 w1)
    {e : Ending} {w' : World} (h : CPost φ1 st1 w1 (rangeK P rd lid Q f) e w') : rangePost (FW (rdB φ rd)) n P (φ1.f lid).b (Lift φ st w Q) a e w' := by
  obtain ⟨v, cv, st2, φ2, rfl, ⟨r, ho, hs, hk⟩, _, he2, hr2, hf2⟩ := h
  obtain ⟨L, g1, g2, g3, g4, g5, g6, g7, g8, g9⟩ := hr2.obj lid _ (loopAt_get ho)
  have hb : (φ2.f lid).b = (φ1.f lid).b := by rw [he2.f lid hlid]
  obtain ⟨hr3, hf3⟩ := hr2.loop (r' := { r with state := .exhausted }) ho (L := L) (L' := { L with state := .exhausted }) g1 rfl g3 rfl rfl rfl rfl rfl rfl rfl rfl rfl rfl
  rw [hb] at g1 hr3 hf3
  have hend := run_endLoop (P := P) g1 (by rw [g2]; exact hs)
  generalize w'.putObj (φ1.f lid).b (.loop { L with state := .exhausted }) = w4 at hr3 hf3 hend
  generalize setLoop st2 lid { r with state := .exhausted } = st3 at hr3 hf3 hk
  refine ⟨_, _, hend, ?_⟩
  rw [g3]
  cases hp : r.pending with
  | none =>
    rw [hp] at hk
    exact ⟨f, _, φ2, hk, he.trans he2, hr3, ha.mono he2, hf.trans (hf2.trans hf3)⟩
  | some c =>
    rw [hp] at hk
    have h4 := hk φ2 _ a n (fun id hi => Nat.lt_of_lt_of_le (hrd id hi) (Nat.le_trans he.n he2.n)) hr3 (ha.mono he2)
    rw [rdB_ext (he.trans he2) hrd] at h4
    exact wpIn_mono h4 fun e a' w' hl => hl.trans (he.trans he2) (hf.trans (hf2.trans hf3))

/-- THE STATEMENT, outside every other one of its kind. -/
theorem SW.rangeFunc {g : Operand} {ps : Array Tmp} {assign body : Code} {Q : Exit → Fm → St → Prop} {f : Fm} {st : St} {gf : FuncId} {first caps : List AV} (hg : Operand.av f.ts g = .fn (.func gf) first caps) (hent : Enters P gf)
    (h : CallW P gf (first ++ [.yld (st.n + 1)] ++ caps) ((st.push .dfr).push (.loop { state := .ready, pending := none, tmps := f.ts, params := ps, assign, body, dfid := st.n }))
      (rangeK P none (st.n + 1) Q { f with dm := st.n :: f.dm })) : SW P none (.rangeFunc g ps assign body) Q f st := by
  intro φ w a n h1 hr ha
  refine wpIn_rangeFunc fun fn _ => ?_
  -- the two objects
  have hp1 := hr.push (.deferred (some [])) .dfr ⟨w.heap.size, 0, 0⟩ rfl (by show _ = _; rw [Fi.push_new]; exact alloc_heap_new' w _)
  have hn1 : (φ.push ⟨w.heap.size, 0, 0⟩).n = φ.n + 1 := rfl
  have hp2 := hp1.1.push (.loop { state := .ready, pending := none, fn, tmps := a.tmps, params := ps, assign, body, defers := w.heap.size }) (.loop { state := .ready, pending := none, tmps := f.ts, params := ps, assign, body, dfid := st.n }) ⟨w.heap.size + 1, 0, 0⟩ (by rw [alloc_size])
    ⟨_, by rw [Fi.push_new]; have := alloc_heap_new' (w.alloc (.deferred (some []))) (.loop { state := .ready, pending := none, fn, tmps := a.tmps, params := ps, assign, body, defers := w.heap.size }); rwa [alloc_size] at this,
     rfl, rfl, (ha.ts.mono ((φ.push_ext _).trans ((φ.push _).push_ext _))), rfl, rfl, rfl, by simp [Fi.push, hr.n]; omega, by
      show w.heap.size = _
      rw [← hr.n, ((φ.push ⟨w.heap.size, 0, 0⟩).push_ext _).f φ.n (by rw [hn1]; omega), Fi.push_new]⟩
  have he : Ext φ ((φ.push ⟨w.heap.size, 0, 0⟩).push ⟨w.heap.size + 1, 0, 0⟩) := (φ.push_ext _).trans ((φ.push _).push_ext _)
  have hfa : ((φ.push ⟨w.heap.size, 0, 0⟩).push ⟨w.heap.size + 1, 0, 0⟩).f φ.n = ⟨w.heap.size, 0, 0⟩ := by rw [((φ.push ⟨w.heap.size, 0, 0⟩).push_ext _).f φ.n (by rw [hn1]; omega), Fi.push_new]
  have hfb : ((φ.push ⟨w.heap.size, 0, 0⟩).push ⟨w.heap.size + 1, 0, 0⟩).f (φ.n + 1) = ⟨w.heap.size + 1, 0, 0⟩ := Fi.push_new _ _
  have hpn : ((φ.push ⟨w.heap.size, 0, 0⟩).push ⟨w.heap.size + 1, 0, 0⟩).n = φ.n + 2 := rfl
  have ha2 : ActR ((φ.push ⟨w.heap.size, 0, 0⟩).push ⟨w.heap.size + 1, 0, 0⟩) { f with dm := st.n :: f.dm } { a with defers := [{ target := .collected w.heap.size, args := #[] }] ++ a.defers } := by
    have h0 := ha.mono he
    refine ⟨h0.ts, ?_, fun id hi => ?_⟩
    · rw [h0.dm, List.map_cons, ← hr.n, hfa]; rfl
    · rcases List.mem_cons.1 hi with rfl | hi
      · rw [hpn, hr.n]; omega
      · exact h0.lt id hi
  have hgv := opR_of ha.ts g
  rw [hg] at hgv
  obtain ⟨us, vs, hv, hu, hvv⟩ := hgv.fn_inv
  have hyl : VR ((φ.push ⟨w.heap.size, 0, 0⟩).push ⟨w.heap.size + 1, 0, 0⟩) (.yld (st.n + 1)) (.func (.yield (w.heap.size + 1)) #[] #[]) := by
    have := VR.yld (φ := (φ.push ⟨w.heap.size, 0, 0⟩).push ⟨w.heap.size + 1, 0, 0⟩) (φ.n + 1) (by rw [hpn]; omega)
    rw [hfb] at this
    rw [← hr.n]; exact this
  have hcall := h _ _ (us ++ [Value.func (.yield (w.heap.size + 1)) #[] #[]] ++ vs) (n - 1) hp2.1 (((hu.mono he).append (.cons hyl .nil)).append (hvv.mono he))
  have hloop := run_enterLoop_outer (P := P) (w := w) fn a.tmps ps assign body
  generalize (w.alloc (.deferred (some []))).alloc (.loop { state := .ready, pending := none, fn, tmps := a.tmps, params := ps, assign, body, defers := w.heap.size }) = W2 at hp2 hcall hloop
  refine ⟨w.heap.size + 1, _, W2, { target := .fn (.func gf) vs.toArray, args := us.toArray ++ #[Value.func (.yield (w.heap.size + 1)) #[] #[]] }, W2, gf, (us ++ [Value.func (.yield (w.heap.size + 1)) #[] #[]] ++ vs).toArray, W2, hloop, ?_, fun _ _ => trivial, ?_, fun h => (by cases h), ?_⟩
  · have hm : Array.map a.eval #[Operand.const (Value.func (Fn.yield (w.heap.size + 1)) #[] #[])] = #[Value.func (Fn.yield (w.heap.size + 1)) #[] #[]] := by simp [Act.eval]
    simp only [resolve, hv, Deferred.ofValue, Sem.run_pure, hm]
  · simp only [invoke]
    rw [hent]
    congr 2
    apply Array.ext'
    simp
  · refine CallsIn.mono (F := FW none) hcall fun e w' hp => ?_
    have := rangePost_ok (P := P) (n := n) (rd := none) h1 he (by rw [hpn, hr.n]; omega) ha2 (hp1.2.trans hp2.2) hp
    rw [← hr.n, hfb] at this
    exact this

theorem run_enterLoop_inner {w : World} {l : Nat} {r : Loop} (h : w.heap[l]? = some (.loop r)) (fn : FuncId) (tmps : Array Value) (ps : Array Tmp) (assign body : Code) :
    (Instr.enterLoop fn tmps ps assign body (some l)).run P w = .ok (w.heap.size, []) (w.alloc (.loop { state := .ready, pending := none, fn, tmps, params := ps, assign, body, defers := r.defers })) := by
  unfold Instr.enterLoop
  simp only [Sem.run_bind, run_getLoop h, run_newObj_alloc, Result.andThen, Sem.run_pure]

/-- THE STATEMENT, within a round of another one. -/
theorem SW.rangeFuncIn {id0 : Nat} {r0 : ALoop} {g : Operand} {ps : Array Tmp} {assign body : Code} {Q : Exit → Fm → St → Prop} {f : Fm} {st : St} {gf : FuncId} {first caps : List AV} (ho : loopAt st id0 = some r0) (hg : Operand.av f.ts g = .fn (.func gf) first caps) (hent : Enters P gf)
    (h : CallW P gf (first ++ [.yld st.n] ++ caps) (st.push (.loop { state := .ready, pending := none, tmps := f.ts, params := ps, assign, body, dfid := r0.dfid }))
      (rangeK P (some id0) st.n Q f)) : SW P (some id0) (.rangeFunc g ps assign body) Q f st := by
  intro φ w a n h1 hr ha
  have hid0 : id0 < φ.n := h1 id0 rfl
  obtain ⟨L, g1, g2, g3, g4, g5, g6, g7, g8, g9⟩ := hr.obj id0 _ (loopAt_get ho)
  refine wpIn_rangeFunc fun fn _ => ?_
  have hp2 := hr.push (.loop { state := .ready, pending := none, fn, tmps := a.tmps, params := ps, assign, body, defers := L.defers }) (.loop { state := .ready, pending := none, tmps := f.ts, params := ps, assign, body, dfid := r0.dfid }) ⟨w.heap.size, 0, 0⟩ rfl
    ⟨_, by rw [Fi.push_new]; exact alloc_heap_new' w _, rfl, rfl, ha.ts.mono (φ.push_ext _), rfl, rfl, rfl, by rw [Fi.push_n]; exact Nat.lt_succ_of_lt g8, by
      show L.defers = _
      rw [(φ.push_ext _).f r0.dfid g8]; exact g9⟩
  have he : Ext φ (φ.push ⟨w.heap.size, 0, 0⟩) := φ.push_ext _
  have hfb : (φ.push ⟨w.heap.size, 0, 0⟩).f φ.n = ⟨w.heap.size, 0, 0⟩ := Fi.push_new _ _
  have hpn : (φ.push ⟨w.heap.size, 0, 0⟩).n = φ.n + 1 := rfl
  have hgv := opR_of ha.ts g
  rw [hg] at hgv
  obtain ⟨us, vs, hv, hu, hvv⟩ := hgv.fn_inv
  have hyl : VR (φ.push ⟨w.heap.size, 0, 0⟩) (.yld st.n) (.func (.yield w.heap.size) #[] #[]) := by
    have := VR.yld (φ := φ.push ⟨w.heap.size, 0, 0⟩) φ.n (by rw [hpn]; omega)
    rw [hfb] at this
    rw [← hr.n]; exact this
  have hcall := h _ _ (us ++ [Value.func (.yield w.heap.size) #[] #[]] ++ vs) (n - 1) hp2.1 (((hu.mono he).append (.cons hyl .nil)).append (hvv.mono he))
  have hloop := run_enterLoop_inner (P := P) g1 fn a.tmps ps assign body
  generalize w.alloc (.loop { state := .ready, pending := none, fn, tmps := a.tmps, params := ps, assign, body, defers := L.defers }) = W2 at hp2 hcall hloop
  refine ⟨w.heap.size, _, W2, { target := .fn (.func gf) vs.toArray, args := us.toArray ++ #[Value.func (.yield w.heap.size) #[] #[]] }, W2, gf, (us ++ [Value.func (.yield w.heap.size) #[] #[]] ++ vs).toArray, W2, hloop, ?_, fun _ _ => trivial, ?_, fun h => (by cases h), ?_⟩
  · have hm : Array.map a.eval #[Operand.const (Value.func (Fn.yield w.heap.size) #[] #[])] = #[Value.func (Fn.yield w.heap.size) #[] #[]] := by simp [Act.eval]
    simp only [resolve, hv, Deferred.ofValue, Sem.run_pure, hm]
  · simp only [invoke]
    rw [hent]
    congr 2
    apply Array.ext'
    simp
  · refine CallsIn.mono (F := FW (rdB φ (some id0))) hcall fun e w' hp => ?_
    have := rangePost_ok (P := P) (n := n) (rd := some id0) (a := a) h1 he (by rw [hpn, hr.n]; omega) (ha.mono he) hp2.2 hp
    rw [← hr.n, hfb] at this
    exact this

end Go.Ev
