/- Own work of the verifier of watercress: EvLa, EvT. -/
import Derived.Test.YtpefamheopplnaaMa25
import Derived.Test.YtpefamheopplnaaMa22
set_option linter.unusedVariables false
set_option linter.unusedSimpArgs false
namespace Go.Ev
section
variable {P : Program} {T : Ti}
def Ren (n0 : Nat) (f : Fm) (st : St) (f' : Fm) (st' : St) : Prop :=
  ∀ (φ : Fi) (w : World) (a : Act), Rel φ st w → ActR φ f a → ∃ φ', Rel φ' st' w ∧ ActR φ' f' a ∧ n0 ≤ φ'.n ∧ (∀ id, id < n0 → φ'.f id = φ.f id) ∧ (∀ k, Owns φ' st' k → Owns φ st k)
theorem Ren.trans {n0 : Nat} {f f' f'' : Fm} {st st' st'' : St} (h : Ren n0 f st f' st') (k : Ren n0 f' st' f'' st'') : Ren n0 f st f'' st'' := fun φ w a hr ha => by
  obtain ⟨φ1, h1, h2, _, h4, h5⟩ := h φ w a hr ha
  obtain ⟨φ2, k1, k2, k3, k4, k5⟩ := k φ1 w a h1 h2
  exact ⟨φ2, k1, k2, k3, fun id hi => (k4 id hi).trans (h4 id hi), fun q hq => h5 q (k5 q hq)⟩
theorem Ren.keep {n0 : Nat} {f : Fm} {st : St} (hn : n0 ≤ st.n) (p : Nat → Bool) : Ren n0 f st f (st.keep p) := fun φ w a hr ha =>
  ⟨φ, hr.keep p, ha, by rw [hr.n]; exact hn, fun _ _ => rfl, fun k ⟨id, o, h1, h2, h3⟩ => ⟨id, o, Hp.get_filter h1, h2, h3⟩⟩
theorem Ren.names {n0 : Nat} {f : Fm} {st : St} {ord : List Nat} {ts' : List AV} {a b : Hp} (h1 : ord.Nodup) (h2 : ∀ i ∈ ord, n0 ≤ i) (h3 : ∀ d ∈ f.dm, d < n0) (h4 : renL (rho n0 ord) f.ts = some ts')
    (h5 : renOld (rho n0 ord) n0 st.h = some a) (h6 : renNew (rho n0 ord) st.h n0 ord = some b) : Ren n0 f st ⟨ts', f.dm⟩ ⟨b ++ a, n0 + ord.length⟩ := fun φ w ac hr ha => by
  obtain ⟨m1, m2⟩ := renSt_ok hr h1 h2 h5 h6
  refine ⟨phi n0 ord φ, m1, ⟨renL_ok (rho_ok n0 ord φ) h4 ha.ts, ?_, fun id hid => ?_⟩, Nat.le_add_right _ _, fun id hid => phi_old hid, m2⟩
  · rw [ha.dm]
    exact List.map_congr_left fun id hid => by rw [phi_old (h3 id hid)]
  · have := h3 id hid; unfold phi; simp only; omega
theorem Ren.alone {n0 : Nat} {f : Fm} {st : St} {id g : Nat} {ro : Bool} {cs : List AV} (hn : n0 ≤ st.n) (ho : st.h.get id = some (.cells (some g) ro cs)) (hal : ∀ j o, st.h.get j = some o → j ≠ id → o.fam ≠ some g) :
    Ren n0 f st f ⟨st.h.set id (.cells none ro cs), st.n⟩ := fun φ w a hr ha => by
  have hget : ∀ j x, (st.h.set id (.cells none ro cs)).get j = some x → (j = id ∧ x = .cells none ro cs) ∨ (j ≠ id ∧ st.h.get j = some x) := fun j x hx => by
    rw [Hp.get_set] at hx
    by_cases hj : j = id
    · subst hj; left; simpa [ho, eq_comm] using hx
    · right; simpa [hj] using hx
  refine ⟨φ, ⟨hr.n, fun j x hx => ?_, fun j x hx => ?_, fun j x hx => ?_, fun i j oi oj hi hj hij hio => ?_⟩, ha, by rw [hr.n]; exact hn, fun _ _ => rfl, fun k ⟨j, x, hx, hxo, hb⟩ => ?_⟩
  · rcases hget j x hx with ⟨rfl, rfl⟩ | ⟨_, h⟩
    · exact hr.lt j _ ho
    · exact hr.lt j x h
  · rcases hget j x hx with ⟨rfl, rfl⟩ | ⟨_, h⟩
    · exact hr.blk j _ ho
    · exact hr.blk j x h
  · rcases hget j x hx with ⟨rfl, rfl⟩ | ⟨_, h⟩
    · have h := hr.obj j _ ho
      exact h
    · exact hr.obj j x h
  · intro hb
    rcases hget i oi hi with ⟨rfl, rfl⟩ | ⟨hi', h1⟩
    · rcases hget j oj hj with ⟨rfl, rfl⟩ | ⟨hj', h2⟩
      · exact absurd rfl hij
      · obtain ⟨⟨q, q1, q2⟩, _⟩ := hr.sep i j _ oj ho h2 hij hio hb
        simp only [AObj.fam, Option.some.injEq] at q1
        subst q1
        exact absurd q2 (hal j oj h2 hj')
    · rcases hget j oj hj with ⟨rfl, rfl⟩ | ⟨hj', h2⟩
      · obtain ⟨⟨q, q1, q2⟩, _⟩ := hr.sep i j oi _ h1 ho hij hio hb
        simp only [AObj.fam, Option.some.injEq] at q2
        subst q2
        exact absurd q1 (hal i oi h1 hij)
      · exact hr.sep i j oi oj h1 h2 hij hio hb
  · rcases hget j x hx with ⟨rfl, rfl⟩ | ⟨_, h⟩
    · exact ⟨j, _, ho, hxo, hb⟩
    · exact ⟨j, x, h, hxo, hb⟩
theorem SW.loopN {rd : Option Nat} {c : Code} {Q : Exit → Fm → St → Prop} {f : Fm} {st : St} (I : Nat → Fm → St → Prop) (k : Nat) (h0 : I k f st)
    (hround : ∀ k f1 st1, I k f1 st1 → SW P rd c (thenQ (fun f' st' => ∃ k', k' < k ∧ ∃ f2 st2, Ren st.n f' st' f2 st2 ∧ I k' f2 st2) Q) f1 st1) : SW P rd (.loop c) Q f st := by
  intro φ w a n h1 h2 h3
  let J : Nat → Act → World → Prop := fun k a' w' => ∃ f' st' φ', I k f' st' ∧ Ext φ φ' ∧ Rel φ' st' w' ∧ ActR φ' f' a' ∧ Fr φ st w φ' st' w'
  intro b kk cs hro hb hroom
  have key : ∀ k a' w', J k a' w' → ∃ e a₂ w₂, Lift φ st w Q e a₂ w₂ ∧ ArrivesIn (Machine.fenced P (FW (rdB φ rd))) P (lone (b.atR a' (.code c :: .inLoop c :: kk)) cs w') b kk cs e a₂ w₂ := by
    intro k
    induction k using Nat.strongRecOn with
    | _ k ih =>
      intro a' w' hj
      obtain ⟨f', st', φ', hi, he, hr, ha, hf⟩ := hj
      have hr1 := hround k f' st' hi φ' w' a' n (fun id hi => Nat.lt_of_lt_of_le (h1 id hi) he.n) hr ha
      rw [rdB_ext he h1] at hr1
      obtain ⟨e, a₁, w₁, hq, harr⟩ := hr1 b (.inLoop c :: kk) cs hro hb hroom
      obtain ⟨f2, st2, φ2, hk, he2, hr2, ha2, hf2⟩ := hq
      cases e with
      | normal =>
        obtain ⟨k', hlt, f3, st3, hren, hi'⟩ := hk
        obtain ⟨φ3, g1, g2, g3, g4, g5⟩ := hren φ2 w₁ a₁ hr2 ha2
        have hex : Ext φ φ3 := ⟨by rw [h2.n]; exact g3, fun id hid => by rw [g4 id (by rw [← h2.n]; exact hid)]; exact (he.trans he2).f id hid⟩
        have hft := hf.trans hf2
        obtain ⟨e₂, a₂, w₂, hq₂, harr₂⟩ := ih k' hlt a₁ w₁ ⟨f3, st3, φ3, hi', hex, g1, g2, ⟨hft.os, hft.tape, hft.output, hft.size, hft.block, fun q hq => hft.own q (g5 q hq)⟩⟩
        exact ⟨e₂, a₂, w₂, hq₂, .of_steps (StepsIn.trans harr (.one (fenced_calm hb hroom rfl) stepR_inLoop)) harr₂⟩
      | exit id => exact ⟨_, a₁, w₁, ⟨f2, st2, φ2, hk, he.trans he2, hr2, ha2, hf.trans hf2⟩, .pass (x := .inLoop c) rfl (fun _ _ => .inl (by simp)) harr⟩
      | goto l => exact ⟨_, a₁, w₁, ⟨f2, st2, φ2, hk, he.trans he2, hr2, ha2, hf.trans hf2⟩, .pass (x := .inLoop c) rfl (fun _ _ => .inl (by simp)) harr⟩
      | ret => exact ⟨_, a₁, w₁, ⟨f2, st2, φ2, hk, he.trans he2, hr2, ha2, hf.trans hf2⟩, .pass (x := .inLoop c) rfl (fun _ _ => .inl (by simp)) harr⟩
      | panic ch => exact ⟨_, a₁, w₁, ⟨f2, st2, φ2, hk, he.trans he2, hr2, ha2, hf.trans hf2⟩, .pass (x := .inLoop c) rfl (fun _ _ => .inl (by simp)) harr⟩
      | outgrown => exact ⟨_, a₁, w₁, ⟨f2, st2, φ2, hk, he.trans he2, hr2, ha2, hf.trans hf2⟩, .pass (x := .inLoop c) rfl (fun _ _ => .inl (by simp)) harr⟩
  obtain ⟨e, a', w', hq, harr⟩ := key k a w ⟨f, st, φ, h0, Ext.refl _, h2, h3, Fr.refl _ _ _⟩
  exact ⟨e, a', w', hq, .of_steps (.one (fenced_calm hb hroom rfl) stepR_loop) harr⟩
variable (P T) in
def AnyK (ops : Array Oper) (M : List Nat) (rd : Option Nat) (K : Fm → St → Prop) (fuel : Nat) (pend : List (Nat × AV)) (listed : Array Bool) (f : Fm) (st : St) : Prop :=
  Closed ops listed → PL pend listed → AnyD P T ops M rd K fuel pend listed f st
theorem SW.drawnK {ops : Array Oper} (hm : P.follows .mixedOrders = true) {rd : Option Nat} {id : Nat} {Q : Exit → Fm → St → Prop} {f : Fm} {st : St} (hM : tidyB ops (masks ops) = true)
    (h : AnyK P T ops (masks ops) rd (fun f' st' => Q .normal f' st') ops.size [] (Array.replicate ops.size false) f st) : SW P rd (.region id ops true) Q f st :=
  SW.drawn hm (tidy_of hM) (h closed_nil (fun p hp => by cases hp))
theorem AnyK.light {ops : Array Oper} {M : List Nat} (hM : tidyB ops M = true) (hT : TOk P T) {rd : Option Nat} {K : Fm → St → Prop} (i : Nat) {o : Oper} {r : AV} {fuel : Nat} {pend : List (Nat × AV)} {listed : Array Bool} {f : Fm} {st : St} (ho : ops[i]? = some o)
    (hr : (Region.ready .any ops listed).contains i = true) (hn : noLook ops pend o = true) (hl : lightV T ops st.h f i = some r) (h : AnyK P T ops M rd K fuel ((i, r) :: pend) (listed.setIfInBounds i true) (f.put o.dst r) st) : AnyK P T ops M rd K (fuel + 1) pend listed f st := fun hc hp => by
  have hri : i ∈ Region.ready .any ops listed := List.contains_iff_mem.1 hr
  refine AnyD.take (tidy_of hM) hT ho fuel hc hp (noLook_ok hn) hri hl (h (hc.set hri) fun p hm => ?_)
  obtain ⟨o', ho', hun, _⟩ := ready_edges hri
  rcases List.mem_cons.1 hm with rfl | hm
  · have hlt : i < listed.size := by
      rw [Array.getD_eq_getD_getElem?] at hun
      rcases Nat.lt_or_ge i listed.size with h | h
      · exact h
      · rw [Array.getElem?_eq_none h] at hun; cases hun
    show (listed.setIfInBounds i true).getD i false = true
    rw [Array.getD_eq_getD_getElem?, Array.getElem?_setIfInBounds]
    simp [hlt]
  · exact getD_set_true (hp p hm)
theorem AnyK.one {ops : Array Oper} {M : List Nat} {rd : Option Nat} {K : Fm → St → Prop} (i : Nat) {o : Oper} {fuel : Nat} {pend : List (Nat × AV)} (pend' : List (Nat × AV)) {listed : Array Bool} {f : Fm} {st : St} (ho : ops[i]? = some o)
    (hr : Region.ready .any ops listed = [i]) (hp : PendOk T ops pend f st.h) (hd : dropP M i pend = pend') (h : OpsW P rd ops [i] (fun f' st' => ∃ v, f' = f.put o.dst v ∧ AnyK P T ops M rd K fuel pend' (listed.setIfInBounds i true) f' st') f st) : AnyK P T ops M rd K (fuel + 1) pend listed f st := fun hc hpl => by
  subst hd
  refine AnyD.all hp hr (by simp) fun j hj => ?_
  obtain rfl : j = i := by simpa using hj
  refine ⟨o, ho, h.mono fun f' st' ⟨v, hf, hk⟩ => ⟨v, hf, hk (hc.set (by rw [hr]; simp)) fun p hp => getD_set_true (hpl p (List.mem_filter.1 hp).1)⟩⟩
theorem AnyK.done {ops : Array Oper} {M : List Nat} {rd : Option Nat} {K : Fm → St → Prop} {fuel : Nat} {pend : List (Nat × AV)} {listed : Array Bool} {f : Fm} {st : St} (hr : Region.ready .any ops listed = []) (hp : PendOk T ops pend f st.h) (h : K f st) : AnyK P T ops M rd K fuel pend listed f st := fun _ _ =>
  AnyD.done hp hr h fuel
theorem OpsW.next {rd : Option Nat} {ops : Array Oper} {i : Nat} {f : Fm} {st : St} {o : Oper} {it : Operand} {K : Fm → St → Prop} (ho : ops[i]? = some o) (hx : o.op = .next it false) (hw : Region.wanted o (yA ops f.ts) = true)
    {rid mid since last id clock : Nat} {seen : List Nat} {es : List (AV × AV × Nat)} (hit : itOf st (Operand.av f.ts it) = some (rid, mid, since, seen, last)) (hes : esOf st (.mp mid) = some (id, es, clock))
    (hc : (es.all (fun x => Nat.blt x.2.2 since) && Nat.ble since last) = true)
    (hend : (es.filter fun x => !(seen.contains x.2.2)) = [] → K (f.put o.dst (.tup [.lit (.bool false)])) st)
    (hgo : ∀ x ∈ es, seen.contains x.2.2 = false → K (f.put o.dst (.tup [.lit (.bool true), x.1, x.2.1])) ⟨st.h.set rid (.iter mid since (seen ++ [x.2.2]) clock), st.n⟩) :
    OpsW P rd ops [i] (fun f' st' => K f' st') f st := by
  have hm := OpsW.multi (P := P) (rd := rd) (ops := ops) (i := i) (f := f) (st := st) (o := o)
    (outs := (if (es.filter fun x => !(seen.contains x.2.2)) = [] then [(.tup [.lit (.bool false)], st)] else []) ++ (es.filter fun x => !(seen.contains x.2.2)).map fun x => (AV.tup [.lit (.bool true), x.1, x.2.1], (⟨st.h.set rid (.iter mid since (seen ++ [x.2.2]) clock), st.n⟩ : St)))
    ho hw (fun c hc => by rw [hx] at hc; cases hc) fun φ w a h2 h3 => by
      rcases next_ok (P := P) (ty := o.type) h2 (opR_of h3.ts it) hit hes hc with ⟨k1, k2⟩ | ⟨x, hxm, w', v, k2, k3, k4, k5⟩
      · exact ⟨.tup [.lit (.bool false)], st, φ, w, _, by rw [k1]; simp, .inl (by simp [execOp, hx, k2, Result.andThen]), .tup (us := [.bool false]) (.cons (.lit _) .nil), h2, Ext.refl _, Fr.refl _ _ _⟩
      · exact ⟨_, _, φ, w', v, List.mem_append_right _ (List.mem_map_of_mem hxm), .inl (by simp [execOp, hx, k2, Result.andThen]), k3, k4, Ext.refl _, k5⟩
  refine hm.mono fun f' st' ⟨v, hf, hmem⟩ => ?_
  subst hf
  rcases List.mem_append.1 hmem with h | h
  · split at h
    · rename_i h0
      obtain ⟨rfl, rfl⟩ : v = _ ∧ st' = st := by simpa using h
      exact hend h0
    · cases h
  · obtain ⟨x, hx1, hx2⟩ := List.mem_map.1 h
    cases hx2
    obtain ⟨h5, h6⟩ := List.mem_filter.1 hx1
    exact hgo x h5 (by simpa using h6)
theorem OpsW.entry {rd : Option Nat} {ops : Array Oper} {i : Nat} {f : Fm} {st : St} {o : Oper} {it : Operand} {l : List Nat} {K : Fm → St → Prop} (ho : ops[i]? = some o) (hx : o.op = .entry it) (hw : Region.wanted o (yA ops f.ts) = true)
    {rid mid since last id clock s : Nat} {seen : List Nat} {es : List (AV × AV × Nat)} {x : AV × AV × Nat} (hit : itOf st (Operand.av f.ts it) = some (rid, mid, since, seen, last)) (hes : esOf st (.mp mid) = some (id, es, clock))
    (hs : seen.getLast? = some s) (hc : (Nat.beq clock last && bornsOk es) = true) (hf : es.filter (fun x => Nat.beq x.2.2 s) = [x]) (h : OpsW P rd ops l K (f.put o.dst (.tup [x.1, x.2.1])) st) : OpsW P rd ops (i :: l) K f st :=
  OpsW.value ho hw (fun c hc => by rw [hx] at hc; cases hc) (fun φ w a h2 h3 => by
    obtain ⟨v, k1, k2⟩ := entry_ok (P := P) h2 (opR_of h3.ts it) hit hes hs hc hf
    exact ⟨φ, w, v, .inl (by simp [execOp, hx, k1, Result.andThen]), k2, h2, Ext.refl _, Fr.refl _ _ _⟩) h
end
end Go.Ev
namespace Go.Ev
section
variable {P : Program} {T : Ti}
def ZOk (P : Program) (Z : TypeId → Option Value) : Prop := ∀ t z, Z t = some z → ∀ w, (zeroValue t).run P w = .ok z w
theorem zero_of_info {t : TypeId} {z : Value} (h : (P.info? t).bind (·.zero) = some z) (w : World) : (zeroValue t).run P w = .ok z w := by
  cases hi : P.info? t with
  | none => rw [hi] at h; cases h
  | some ti =>
    rw [hi] at h
    have h2 : ti.zero = some z := h
    simp [zeroValue, typeInfo, Sem.run_bind, program, Sem.run, Result.andThen, hi, h2]
def mapKE (T : Ti) (t : TypeId) : Option (TypeId × TypeId) := match T t with
  | some i => match i.desc with
    | .map k e => some (k, e)
    | _ => none
  | none => none
def okA (c : Bool) (v : AV) (b : Bool) : AV := match c with
  | true => .tup [v, .lit (.bool b)]
  | false => v
variable (P T) in
def xLook (KT : List TypeId) (Z : TypeId → Option Value) (st : St) (ρ : Operand → AV) (o : Oper) : Option (List (AV × St)) :=
  match o.op with
  | .lookup t m k c => match mapKE T t with
    | some (kt, e) => match Z e with
      | some z => match esOf st (ρ m) with
        | some (_, es, _) => if KT.contains kt && keyB P kt (ρ k) && es.all (fun x => keyB P kt x.1) then
            match idxs (ρ k) 0 es with
            | [] => some [(okA c (ofV z) false, st)]
            | [j] => match es[j]? with
              | some x => some [(okA c x.2.1 true, st)]
              | none => none
            | _ => none
          else none
        | none => none
      | none => none
    | none => none
  | _ => none
theorem okA_ok {φ : Fi} {c b : Bool} {v : AV} {u : Value} (h : VR φ v u) : VR φ (okA c v b) (if c then .tuple #[u, .bool b] else u) := by
  cases c with
  | true => exact .tup (us := [u, .bool b]) (.cons h (.cons (.lit _) .nil))
  | false => exact h
theorem look_ok {hT : TOk P T} {φ : Fi} {st : St} {w : World} {t kt e : TypeId} {c : Bool} {a k : AV} {u ku : Value} {id clock : Nat} {es : List (AV × AV × Nat)} {z : Value} {r : AV} (hK : Maps.Keyed P kt) (hr : Rel φ st w) (ha : VR φ a u) (hku : VR φ k ku) (hu : P.underlying t = some (.map kt e)) (hz : (zeroValue e).run P w = .ok z w) (h : esOf st a = some (id, es, clock))
    (hc : (keyB P kt k && es.all (fun x => keyB P kt x.1)) = true)
    (ho : (match idxs k 0 es with
      | [] => some (okA c (ofV z) false)
      | [j] => match es[j]? with
        | some x => some (okA c x.2.1 true)
        | none => none
      | _ => none) = some r) :
    ∃ v, (Instr.lookup t u ku c).run P w = .ok v w ∧ VR φ r v := by
  obtain ⟨rfl, hid, hom, ces, hb, hsz, hes⟩ := esOf_ok hr ha h
  simp only [Bool.and_eq_true] at hc
  have hkey : ∀ {b : AV} {bu : Value}, keyB P kt b = true → VR φ b bu → valK b = some bu ∧ ∃ l, keyOf P kt bu = some l := fun {b bu} h1 h2 => by
    unfold keyB at h1
    split at h1
    · rename_i v' hv'
      have := valK_ok h2 hv'
      subst this
      exact ⟨hv', Option.isSome_iff_exists.1 h1⟩
    · cases h1
  obtain ⟨hkv, lx, hlx⟩ := hkey hc.1 hku
  have hall : ∀ e ∈ ces.toList, ∃ l, keyOf P kt e.key = some l := fun e he => by
    obtain ⟨x, hx, h2, _, _⟩ := left_ok (seen := []) hsz hes he
    exact (hkey (List.all_eq_true.1 hc.2 x hx) h2).2
  have hcheck := hK.check w ces.isEmpty hlx
  rcases hK.find w hlx ces.toList hall with ⟨hrun, hne⟩ | ⟨j, e0, hrun, hj, hje⟩
  · have hnil : idxs k 0 es = [] := by
      cases hq : idxs k 0 es with
      | nil => rfl
      | cons i r =>
        exfalso
        obtain ⟨x, h1, _, h3⟩ := idxs_mem (show i ∈ idxs k 0 es by rw [hq]; simp)
        obtain ⟨e, hem, h4, _, _⟩ := right_ok hes (List.mem_of_getElem? h1)
        have h5 := avEq_ok h3
        rw [h5] at h4
        exact hne e hem (valK_ok h4 hkv)
    rw [hnil] at ho
    cases ho
    refine ⟨_, ?_, okA_ok (ofV_ok φ z)⟩
    cases c <;> simp [Instr.lookup, run_underlying hu, MapKept.run_getObj_map hb, hcheck, hrun, hz, Result.andThen]
  · have hjl : j < es.length := by
      have : j < ces.toList.length := (List.getElem?_eq_some_iff.1 hj).1
      rw [← hsz]; simpa using this
    have hjc : ces[j]? = some e0 := by rw [← Array.getElem?_toList]; exact hj
    obtain ⟨e', k1, k2, k3, k4⟩ := hes j es[j] (List.getElem?_eq_getElem hjl)
    have hee : e' = e0 := by rw [hjc] at k1; exact (Option.some.inj k1).symm
    subst hee
    have hmem : 0 + j ∈ idxs k 0 es := mem_idxs (List.getElem?_eq_getElem hjl) (by
      have h5 := (hkey (List.all_eq_true.1 hc.2 es[j] (List.getElem_mem hjl)) k2).1
      rw [hje] at h5
      exact valK_eq h5 hkv)
    rw [Nat.zero_add] at hmem
    split at ho
    · rename_i hq; rw [hq] at hmem; cases hmem
    · rename_i j' hq
      rw [hq] at hmem
      have : j = j' := by simpa using hmem
      subst this
      rw [List.getElem?_eq_getElem hjl] at ho
      cases ho
      refine ⟨_, ?_, okA_ok k3⟩
      cases c <;> simp [Instr.lookup, run_underlying hu, MapKept.run_getObj_map hb, hcheck, hrun, Result.andThen]
    · cases ho
theorem xLook_ok (hT : TOk P T) {KT : List TypeId} (hK : ∀ k ∈ KT, Maps.Keyed P k) {Z : TypeId → Option Value} (hZ : ZOk P Z) : XOk P (xLook P T KT Z) := by
  intro rd ops i f st o outs ho hw h
  unfold xLook at h
  split at h
  · rename_i t m k c hx
    split at h
    · rename_i kt e hkt
      have hu : P.underlying t = some (.map kt e) := by
        unfold mapKE at hkt
        split at hkt
        · rename_i ti hti
          split at hkt
          · rename_i k' e' hd
            cases hkt
            have := (hT t ti hti).und
            rw [hd] at this
            exact this
          · cases hkt
        · cases hkt
      split at h
      · rename_i z hz
        split at h
        · rename_i id es clock hes
          split at h
          · rename_i hc
            simp only [Bool.and_eq_true] at hc
            have hout : ∃ r, (match idxs (Operand.av f.ts k) 0 es with
                | [] => some (okA c (ofV z) false)
                | [j] => match es[j]? with
                  | some x => some (okA c x.2.1 true)
                  | none => none
                | _ => none) = some r ∧ outs = [(r, st)] := by
              split at h
              · cases h; exact ⟨_, rfl, rfl⟩
              · split at h
                · cases h; exact ⟨_, rfl, rfl⟩
                · cases h
              · cases h
            obtain ⟨r, hr, rfl⟩ := hout
            refine OpsW.multi ho hw (fun c hc => by rw [hx] at hc; cases hc) fun φ w a h2 h3 => ?_
            have hρ := opR_of h3.ts
            obtain ⟨v, k1, k2⟩ := look_ok (hT := hT) (c := c) (hK kt (List.contains_iff_mem.1 hc.1.1)) h2 (hρ m) (hρ k) hu (hZ e z hz w) hes (by simp only [Bool.and_eq_true]; exact ⟨hc.1.2, hc.2⟩) hr
            exact ⟨r, st, φ, w, v, List.mem_singleton.2 rfl, .inl (by simp [execOp, hx, k1, Result.andThen]), k2, h2, Ext.refl _, Fr.refl _ _ _⟩
          · cases h
        · cases h
      · cases h
    · cases h
  · cases h
end
end Go.Ev
