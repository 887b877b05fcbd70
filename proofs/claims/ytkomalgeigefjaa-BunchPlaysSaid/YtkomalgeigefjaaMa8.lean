/- Own work of the verifier of watercress: EvKw, EvKg, EvAA, EvBB, EvKp, EvKx, EvLa, EvT. -/
import Derived.Test.YtkomalgeigefjaaMa6
import Derived.Test.YtkomalgeigefjaaMa7
import Derived.Test.YtkomalgeigefjaaMa5
set_option linter.unusedVariables false
set_option linter.unusedSimpArgs false
namespace Go.Ev
theorem Hp.get_app : ∀ (R h : Hp) (id : Nat), Hp.get (R ++ h) id = match R.get id with | some o => some o | none => h.get id
  | [], h, id => rfl
  | (i, x) :: r, h, id => by
    by_cases hi : i = id
    · subst hi; simp [Hp.get]
    · simp [Hp.get, hi, Hp.get_app r h id]
theorem Hp.get_appL {R h : Hp} {id : Nat} {o : AObj} (k : R.get id = some o) : Hp.get (R ++ h) id = some o := by rw [Hp.get_app, k]
theorem Hp.app_cases {R h : Hp} {id : Nat} {o : AObj} (k : Hp.get (R ++ h) id = some o) : R.get id = some o ∨ (R.get id = none ∧ h.get id = some o) := by
  rw [Hp.get_app] at k
  split at k
  · rename_i o' ho; cases k; exact .inl ho
  · rename_i ho; exact .inr ⟨ho, k⟩
theorem CPost.frame {φ : Fi} {R : Hp} {st0 st : St} {w : World} {k : AV → St → Prop} {e : Ending} {w' : World} (hr0 : Rel φ st0 w) (hn : st0.n = st.n) (hsub : ∀ id o, st.h.get id = some o → st0.h.get id = some o) (hR : ∀ id o, R.get id = some o → st0.h.get id = some o ∧ o.own = true ∧ o.fam = none ∧ st.h.get id = none)
    (h : CPost φ st w k e w') (hk : ∀ v st', k v st' → ∀ id o, st'.h.get id = some o → o.own = true) : CPost φ st0 w (fun v s => ∃ st', k v st' ∧ s = ⟨R ++ st'.h, st'.n⟩) e w' := by
  obtain ⟨v, cv, st', φ', rfl, hkv, hv, he, hr', hf⟩ := h
  have hown := hk v st' hkv
  have nomate : ∀ {a b : AObj}, a.fam = none → ¬ Mates a b := fun hn ⟨f, hf, _⟩ => by rw [hn] at hf; cases hf
  have disj : ∀ {i : Nat} {oi : AObj}, R.get i = some oi → ¬ Owns φ st (φ.f i).b := fun {i oi} hi ⟨j, oj, hj, hjo, hb⟩ => by
    obtain ⟨h1, h2, h3, h4⟩ := hR i oi hi
    have hij : i ≠ j := fun h => by subst h; rw [h4] at hj; cases hj
    exact nomate h3 (hr0.sep i j oi oj h1 (hsub j oj hj) hij h2 hb.symm).1
  have lt0 : ∀ {i : Nat} {oi : AObj}, R.get i = some oi → i < φ.n := fun {i oi} hi => by rw [hr0.n]; exact hr0.lt i oi (hR i oi hi).1
  have fi : ∀ {i : Nat} {oi : AObj}, R.get i = some oi → φ'.f i = φ.f i := fun hi => he.f _ (lt0 hi)
  have blk : ∀ {i : Nat} {oi : AObj}, R.get i = some oi → (φ.f i).b < w.heap.size := fun {i oi} hi => hr0.blk _ _ (hR i oi hi).1
  have notown : ∀ {i : Nat} {oi : AObj}, R.get i = some oi → ¬ Owns φ' st' (φ.f i).b := fun hi ho =>
    (hf.own _ ho).elim (disj hi) fun hl => by have := blk hi; omega
  have hmono : ∀ {k : Nat}, Owns φ st k → Owns φ st0 k := fun ⟨id, o, h, ho, hb⟩ => ⟨id, o, hsub id o h, ho, hb⟩
  have hnn : st0.n ≤ st'.n := by have := he.n; rw [hr0.n, hr'.n] at this; exact this
  refine ⟨v, cv, ⟨R ++ st'.h, st'.n⟩, φ', rfl, ⟨st', hkv, rfl⟩, hv, he, ⟨hr'.n, fun id o h => ?_, fun id o h => ?_, fun id o h => ?_, fun i j oi oj hi hj hij hio hb => ?_⟩,
    ⟨hf.os, hf.tape, hf.output, hf.size, fun k hk ho => hf.block k hk fun h => ho (hmono h), fun k ⟨id, o, h, ho, hb⟩ => ?_⟩⟩
  · rcases Hp.app_cases h with h | ⟨_, h⟩
    · exact Nat.lt_of_lt_of_le (hr0.lt id o (hR id o h).1) hnn
    · exact hr'.lt id o h
  · rcases Hp.app_cases h with h | ⟨_, h⟩
    · rw [fi h]; exact Nat.lt_of_lt_of_le (blk h) hf.size
    · exact hr'.blk id o h
  · rcases Hp.app_cases h with h | ⟨_, h⟩
    · exact (hr0.obj id o (hR id o h).1).same he (lt0 h) (hf.block _ (blk h) (disj h))
    · exact hr'.obj id o h
  · rcases Hp.app_cases hi with hi | ⟨_, hi⟩ <;> rcases Hp.app_cases hj with hj | ⟨_, hj⟩
    · rw [fi hi, fi hj] at *
      exact hr0.sep i j oi oj (hR i oi hi).1 (hR j oj hj).1 hij hio hb
    · exfalso
      rw [fi hi] at hb
      exact notown hi ⟨j, oj, hj, hown j oj hj, hb.symm⟩
    · exfalso
      rw [fi hj] at hb
      exact notown hj ⟨i, oi, hi, hio, hb⟩
    · exact hr'.sep i j oi oj hi hj hij hio hb
  · rcases Hp.app_cases h with h | ⟨_, h⟩
    · rw [fi h] at hb
      exact .inl ⟨id, o, (hR id o h).1, ho, hb⟩
    · exact (hf.own k ⟨id, o, h, ho, hb⟩).imp hmono fun h => h
def loopB (o : AObj) : Bool := match o with
  | .loop _ => true
  | .dfr => true
  | _ => false
noncomputable def loopIds (h : Hp) : List Nat := @List.rec (Nat × AObj) (fun _ => List Nat) [] (fun x _ ih => @Bool.rec (fun _ => List Nat) ih (x.1 :: ih) (loopB x.2)) h
noncomputable def inL (l : List Nat) (i : Nat) : Bool := @List.rec Nat (fun _ => Bool) false (fun x _ ih => @Bool.rec (fun _ => Bool) ih true (Nat.beq x i)) l
noncomputable def filtL (p : Nat → Bool) (h : Hp) : Hp := @List.rec (Nat × AObj) (fun _ => Hp) [] (fun x _ ih => @Bool.rec (fun _ => Hp) ih (x :: ih) (p x.1)) h
theorem filtL_eq (p : Nat → Bool) : ∀ h : Hp, filtL p h = h.filter fun x => p x.1
  | [] => rfl
  | x :: r => by
    show @Bool.rec (fun _ => Hp) (filtL p r) (x :: filtL p r) (p x.1) = _
    rw [filtL_eq p r, List.filter_cons]
    cases p x.1 <;> rfl
noncomputable def asideB (R : Hp) : Bool := allL (fun x : Nat × AObj => loopB x.2) R
theorem asideB_ok {R : Hp} (hb : asideB R = true) : ∀ id o, R.get id = some o → o.own = true ∧ o.fam = none := by
  unfold asideB at hb
  rw [allL_eq] at hb
  induction R with
  | nil => intro id o h; cases h
  | cons x r ih =>
    rw [List.all_cons, Bool.and_eq_true] at hb
    intro id o h
    obtain ⟨i, y⟩ := x
    simp only [Hp.get] at h
    split at h
    · have h1 : loopB y = true := hb.1
      have hy : y = o := Option.some.inj h
      subst hy
      cases y <;> first | exact ⟨rfl, rfl⟩ | cases h1
    · exact ih hb.2 id o h
noncomputable def lay (R : Hp) (l : List (AV × St)) : List (AV × St) := match l with
  | [x] => [(x.1, ⟨R ++ x.2.h, x.2.n⟩)]
  | l => l.map fun x => (x.1, ⟨R ++ x.2.h, x.2.n⟩)
theorem lay_eq (R : Hp) (l : List (AV × St)) : lay R l = l.map fun x => (x.1, ⟨R ++ x.2.h, x.2.n⟩) := by
  unfold lay
  split <;> rfl
noncomputable def aside (ev : St → Option (List (AV × St))) (st : St) : Option (List (AV × St)) := match loopIds st.h with
  | [] => ev st
  | i :: l => match asideB (filtL (inL (i :: l)) st.h) with
    | false => none
    | true => match ev ⟨filtL (fun j => !(inL (i :: l) j)) st.h, st.n⟩ with
      | none => none
      | some outs => match allL (fun x : AV × St => ownB x.2.h) outs with
        | false => none
        | true => some (lay (filtL (inL (i :: l)) st.h) outs)
theorem aside_ok {P : Program} {g : FuncId} {args : List AV} {st : St} {ev : St → Option (List (AV × St))} {outs : List (AV × St)} (hev : ∀ st outs, ev st = some outs → CallW P g args st (fun v st' => (v, st') ∈ outs)) (hargs : True)
    (h : aside ev st = some outs) : CallW P g args st (fun v st' => (v, st') ∈ outs) := by
  unfold aside at h
  split at h
  · exact hev _ _ h
  · rename_i i l hl
    split at h
    · cases h
    · rename_i ha
      split at h
      · cases h
      · rename_i os hos
        split at h
        · cases h
        · rename_i how
          cases h
          rw [allL_eq] at how
          intro φ w cargs n h1 h2
          rw [filtL_eq] at ha hos
          have hk := hev _ _ hos φ w cargs n (h1.keep fun j => !(inL (i :: l) j)) h2
          refine hk.mono fun e w' hp => ?_
          have hfr := CPost.frame (R := filtL (inL (i :: l)) st.h) (st0 := st) (st := ⟨st.h.filter fun x => !(inL (i :: l) x.1), st.n⟩) h1 rfl (fun id o ho => Hp.get_filter (p := fun j => !(inL (i :: l) j)) ho) (fun id o ho => ?_) hp fun v st' hm => ownB_ok (List.all_eq_true.1 how (v, st') hm)
          · obtain ⟨v, cv, s, φ', k1, ⟨st', k2, k3⟩, k4⟩ := hfr
            refine ⟨v, cv, s, φ', k1, ?_, k4⟩
            subst k3
            rw [lay_eq]
            exact List.mem_map.2 ⟨(v, st'), k2, rfl⟩
          · have h3 := asideB_ok ha id o (by rw [← filtL_eq]; exact ho)
            rw [filtL_eq] at ho
            refine ⟨Hp.get_filter ho, h3.1, h3.2, ?_⟩
            have hp1 := get_keep_p (p := inL (i :: l)) ho
            cases hq : Hp.get (st.h.filter fun x => !(inL (i :: l) x.1)) id with
            | none => rfl
            | some o' =>
              have hp2 := get_keep_p (p := fun j => !(inL (i :: l) j)) hq
              simp only [hp1] at hp2
              cases hp2
end Go.Ev
namespace Go.Ev
noncomputable def kill3 (l : List Nat) : St → Option St := @List.rec Nat (fun _ => St → Option St) (fun st => some st) (fun id _ ih st => match hget st.h id with
  | some .dfr => ih ⟨hset st.h id (.cells none true []), st.n⟩
  | _ => none) l
theorem kill3_eq : ∀ (l : List Nat) (st : St), kill3 l st = killA l st
  | [], st => by simp [kill3, killA]
  | id :: r, st => by
    show (match hget st.h id with
      | some .dfr => kill3 r ⟨hset st.h id (.cells none true []), st.n⟩
      | _ => none) = _
    simp only [killA, hget_eq, hset_eq, kill3_eq r]
    cases st.h.get id with
    | none => rfl
    | some o => cases o <;> rfl
noncomputable def gcD (D n0 : Nat) (v : AV) (st : St) : AV × St := match Nat.beq D 0 with
  | true => gc3 0 n0 v st
  | false => gc4 D n0 v st
theorem CPost.gcD {φ : Fi} {st : St} {w : World} {k : AV → St → Prop} {e : Ending} {w' : World} (D : Nat) (hn : φ.n = st.n) (h : CPost φ st w (fun v st' => k (Ev.gcD D st.n v st').1 (Ev.gcD D st.n v st').2) e w') : CPost φ st w k e w' := by
  unfold Ev.gcD at h
  cases hb : Nat.beq D 0 with
  | true => rw [hb] at h; exact CPost.gc 0 hn h
  | false => rw [hb] at h; exact CPost.gc4 D hn h
noncomputable def roL (h : Hp) : List Nat := @List.rec (Nat × AObj) (fun _ => List Nat) [] (fun x _ ih => @Bool.rec (fun _ => List Nat) (x.1 :: ih) ih x.2.own) h
noncomputable def keepRo (st : St) : St := match roL st.h with
  | [] => st
  | l => st.keep fun i => !(l.contains i)
theorem CallW.gcR {P : Program} {g : FuncId} {args : List AV} {st : St} {k : AV → St → Prop} (D : Nat) (h : CallW P g args st (fun v st' => k (Ev.gcD D st.n v st').1 (Ev.gcD D st.n v st').2 ∨ k (Ev.gcD D st.n v (keepRo st')).1 (Ev.gcD D st.n v (keepRo st')).2)) : CallW P g args st k := by
  intro φ w cargs n h1 h2
  refine (h φ w cargs n h1 h2).mono fun e w' hp => ?_
  obtain ⟨v, cv, st', φ', he, hk, hv, hex, hrel, hfr⟩ := hp
  rcases hk with hk | hk
  · exact CPost.gcD D h1.n ⟨v, cv, st', φ', he, hk, hv, hex, hrel, hfr⟩
  · refine CPost.gcD D h1.n ⟨v, cv, keepRo st', φ', he, hk, hv, hex, ?_, ?_⟩
    · unfold keepRo
      split
      · exact hrel
      · exact hrel.keep _
    · unfold keepRo
      split
      · exact hfr
      · exact hfr.keep _
noncomputable def ret3 (D : Nat) (T : Ti) (fn : Func) (n0 : Nat) (f : TF) (st : St) : Option (List (AV × St)) := match kill3 f.dm st with
  | none => none
  | some st' => match resA3 T fn.results f st' with
    | none => none
    | some v => match f.dm with
      | [] => some [gcD D n0 v st']
      | _ :: _ => some [gcD D n0 v (keepRo st')]
noncomputable def retO3 (D : Nat) (T : Ti) (fn : Func) (n0 : Nat) (x : Out2) : Option (List (AV × St)) := match x with
  | (.normal, f, st) => ret3 D T fn n0 f st
  | (.ret, f, st) => ret3 D T fn n0 f st
  | _ => none
def dedup3 (l : List (AV × St)) : List (AV × St) := match l with
  | [x] => [x]
  | l => dedup (l.map fun x => x)
theorem mem_dedup3 {l : List (AV × St)} {x : AV × St} (h : x ∈ l) : x ∈ dedup3 l := by
  unfold dedup3
  split
  · exact h
  · simpa using mem_dedup h
noncomputable def round3 (id : Nat) (x : Out2) : Option (List (AV × St)) :=
  match x with
  | (.normal, _, st) => match loopQ st id with
    | some r => some [(.lit (.bool true), setQ st id { r with state := .ready, pending := none })]
    | none => none
  | (.ret, _, st) => match loopQ st id with
    | some r => some [(.lit (.bool false), setQ st id { r with state := .done, pending := some .ret })]
    | none => none
  | (.exit e, _, st) => match loopQ st id with
    | some r => some [(.lit (.bool false), setQ st id { r with state := .done, pending := some (.exit e) })]
    | none => none
  | _ => none
def manyD (D : Nat) (l : List Out2) : Nat := match l with
  | [_] => D
  | _ => 0
noncomputable def appL (a b : List AV) : List AV := @List.rec AV (fun _ => List AV) b (fun x _ ih => x :: ih) a
theorem appL_eq (a b : List AV) : appL a b = a ++ b := by
  induction a with
  | nil => rfl
  | cons x a ih => show x :: appL a b = _; rw [ih]; rfl
section
variable (T : Ti) (X : St → (Operand → AV) → Oper → Option (List (AV × St))) (L : Nat) (G : FuncId → Option Func) (C : FuncId → List AV → St → Option (List (AV × St))) (D : FuncId → Nat)
noncomputable def body3 (call : CallE) (g : FuncId) (fn : Func) (args : List AV) (st : St) : Option (List (AV × St)) := match fn.body with
  | none => none
  | some b => match Nat.ble (lenL args) bigT && Nat.ble fn.ntmps bigT with
    | false => none
    | true => match evC3 T X call L none b (ofF args fn.ntmps) st with
      | none => none
      | some outs => match bind3 outs (retO3 (manyD (D g % 1000) outs) T fn st.n) with
        | none => none
        | some l => some (dedup3 l)
noncomputable def func3 (call : CallE) (g : FuncId) (args : List AV) (st : St) : Option (List (AV × St)) := match C g args st with
  | some outs => some outs
  | none => match G g with
    | none => none
    | some fn => match Nat.ble 1000 (D g) with
      | true => aside (body3 T X L D call g fn args) st
      | false => body3 T X L D call g fn args st
noncomputable def round1 (call : CallE) (id : Nat) (x : Out2) : Option (List (AV × St)) := match x with
  | (.normal, f1, st1) => match loopQ st1 id with
    | none => none
    | some r1 => match readyB r1.state && tidyC r1.body with
      | true => match evC3 T X call L (some id) r1.body f1 (setQ st1 id { r1 with state := .busy }) with
        | none => none
        | some o2 => bind3 o2 (round3 id)
      | false => none
  | _ => none
noncomputable def yield3 (call : CallE) (id : Nat) (r : ALoop) (ts args : List AV) (st : St) : Option (List (AV × St)) := match (Nat.beq (lenL args) r.params.size && Nat.ble (lenL ts) bigT) && (tidyC r.assign && tidyC r.body) with
  | true => match evC3 T X call L (some id) r.assign (ofF ts 0) st with
    | none => none
    | some outs => bind3 outs fun x => match x with
      | (.normal, f1, st1) => match loopQ st1 id with
        | none => none
        | some r1 => match readyB r1.state && tidyC r.body with
          | true => match evC3 T X call L (some id) r.body f1 (setQ st1 id { r1 with state := .busy }) with
            | none => none
            | some o2 => bind3 o2 (round3 id)
          | false => none
      | _ => none
  | false => none
noncomputable def apply3 (call : CallE) : CallE := fun c args st => match c with
  | .fn (.func g) first caps => func3 T X L G C D call g (appL (appL first args) caps) st
  | .yld id => match loopQ st id with
    | none => none
    | some r => yield3 T X L call id r (setPs3 r.tmps (r.params.toList.zip args)) args st
  | _ => none
noncomputable def evApply3 (n : Nat) : CallE := @Nat.rec (fun _ => CallE) (fun _ _ _ => none) (fun _ ih => apply3 T X L G C D ih) n
end
section
variable {P : Program} {T : Ti} {X : St → (Operand → AV) → Oper → Option (List (AV × St))} {L : Nat} {G : FuncId → Option Func} {C : FuncId → List AV → St → Option (List (AV × St))} {D : FuncId → Nat}
theorem body3_ok (hm : P.follows .mixedOrders = true) (hT : TOk P T) (hX : XOk P X) (hG : GOk P G) {call : CallE} (ih : CallOk P call) {g : FuncId} {fn : Func} {args : List AV} {st : St} {outs : List (AV × St)} (hfn : G g = some fn)
    (h : body3 T X L D call g fn args st = some outs) : Enters P g ∧ CallW P g args st (fun v st' => (v, st') ∈ outs) := by
  obtain ⟨hf, hent, htid⟩ := hG _ _ hfn
  unfold body3 at h
  split at h
  · cases h
  · rename_i b hb
    split at h
    · cases h
    rename_i hbig
    simp only [Bool.and_eq_true, lenL_eq] at hbig
    have hbig : max args.length fn.ntmps ≤ bigT := by
      have h1 := Nat.le_of_ble_eq_true hbig.1
      have h2 := Nat.le_of_ble_eq_true hbig.2
      omega
    split at h
    · cases h
    · rename_i os hos
      simp only [bind3_eq] at h
      cases he : bindL os (retO3 (manyD (D g % 1000) os) T fn st.n) with
      | none => rw [he] at h; cases h
      | some l =>
        rw [he] at h
        simp only [Option.some.injEq] at h
        subst h
        refine ⟨hent, CallW.gcR (manyD (D g % 1000) os) (callW_of_body hT hf hb ?_)⟩
        rw [← ofF_abs hbig]
        refine evC3_ok hm hT hX ih b (ofF_ok hbig) (htid b hb) hos fun x hx _ => ?_
        obtain ⟨e, f', st'⟩ := x
        obtain ⟨y, h1, h2⟩ := bindL_ok he _ hx
        have fin : ret3 (manyD (D g % 1000) os) T fn st.n f' st' = some y → ∃ st'' v, killA f'.dm st' = some st'' ∧ resA T fn.results f'.abs st'' = some v ∧ (((gcD (manyD (D g % 1000) os) st.n v st'').1, (gcD (manyD (D g % 1000) os) st.n v st'').2) ∈ dedup3 l ∨ ((gcD (manyD (D g % 1000) os) st.n v (keepRo st'')).1, (gcD (manyD (D g % 1000) os) st.n v (keepRo st'')).2) ∈ dedup3 l) := fun h3 => by
          unfold ret3 at h3
          rw [kill3_eq] at h3
          split at h3
          · cases h3
          · rename_i st2 hst2
            rw [resA3_eq] at h3
            split at h3
            · cases h3
            · rename_i v hv
              split at h3
              · cases h3
                exact ⟨st2, v, hst2, hv, .inl (mem_dedup3 (h2 _ (List.mem_singleton.2 rfl)))⟩
              · cases h3
                exact ⟨st2, v, hst2, hv, .inr (mem_dedup3 (h2 _ (List.mem_singleton.2 rfl)))⟩
        cases e with
        | normal => exact fin h1
        | ret => exact fin h1
        | exit id => cases h1
        | goto l => cases h1
        | panic c => cases h1
        | outgrown => cases h1
theorem evApply3_ok (hm : P.follows .mixedOrders = true) (hT : TOk P T) (hX : XOk P X) (hG : GOk P G) (hC : COk P C) : ∀ n, CallOk P (evApply3 T X L G C D n)
  | 0 => fun c args st outs h => by cases h
  | n + 1 => fun c args st outs' h => by
    have ih := evApply3_ok hm hT hX hG hC n
    have h : apply3 T X L G C D (evApply3 T X L G C D n) c args st = some outs' := h
    unfold apply3 at h
    split at h
    · rename_i g first caps
      rw [appL_eq, appL_eq] at h
      unfold func3 at h
      split at h
      · rename_i os hos
        cases h
        exact hC _ _ _ _ hos
      · split at h
        · cases h
        · rename_i fn hfn
          split at h
          · exact ⟨(hG _ _ hfn).2.1, aside_ok (fun st outs h => (body3_ok hm hT hX hG ih hfn h).2) trivial h⟩
          · exact body3_ok hm hT hX hG ih hfn h
    · rename_i id
      rw [loopQ_eq] at h
      split at h
      · cases h
      · rename_i r hr
        unfold yield3 at h
        rw [setPs3_eq] at h
        split at h
        · rename_i hb
          simp only [Bool.and_eq_true, lenL_eq] at hb
          split at h
          · cases h
          · rename_i os hos
            rw [bind3_eq] at h
            have hbig : max (setPs r.tmps (r.params.toList.zip args)).length 0 ≤ bigT := by have := Nat.le_of_ble_eq_true hb.1.2; omega
            refine YieldW.of_round hr (Nat.eq_of_beq_eq_true hb.1.1) ?_
            have hab : (⟨setPs r.tmps (r.params.toList.zip args), []⟩ : Fm) = (ofF (setPs r.tmps (r.params.toList.zip args)) 0).abs := by
              rw [ofF_abs hbig]; simp
            rw [hab]
            refine evC3_ok hm hT hX ih r.assign (ofF_ok hbig) hb.2.1 hos fun x hx hok => ?_
            obtain ⟨e, f1, st1⟩ := x
            obtain ⟨y, h1, h2⟩ := bindL_ok h _ hx
            cases e with
            | normal =>
              simp only [loopQ_eq] at h1
              split at h1
              · cases h1
              · rename_i r1 hr1
                split at h1
                · rename_i hb1
                  simp only [Bool.and_eq_true] at hb1
                  split at h1
                  · cases h1
                  · rename_i o2 ho2
                    rw [setQ_eq] at ho2
                    rw [bind3_eq] at h1
                    refine ⟨r1, hr1, ?_, ?_⟩
                    · have hb1 := hb1.1
                      unfold readyB at hb1
                      cases hs : r1.state <;> rw [hs] at hb1 <;> simp at hb1 ⊢
                    · refine evC3_ok hm hT hX ih r.body hok hb1.2 ho2 fun z hz _ => ?_
                      obtain ⟨e, f2, st2⟩ := z
                      obtain ⟨q, h3, h4⟩ := bindL_ok h1 _ hz
                      unfold round3 at h3
                      have fin : ∀ {v : AV} {s2 : St}, q = [(v, s2)] → (v, s2) ∈ outs' := fun {v s2} hq => by subst hq; exact h2 _ (h4 _ (List.mem_singleton.2 rfl))
                      cases e with
                      | normal =>
                        simp only [loopQ_eq, setQ_eq] at h3
                        split at h3
                        · rename_i r2 hr2; cases h3; exact ⟨r2, hr2, fin rfl⟩
                        · cases h3
                      | ret =>
                        simp only [loopQ_eq, setQ_eq] at h3
                        split at h3
                        · rename_i r2 hr2; cases h3; exact ⟨r2, hr2, fin rfl⟩
                        · cases h3
                      | exit id =>
                        simp only [loopQ_eq, setQ_eq] at h3
                        split at h3
                        · rename_i r2 hr2; cases h3; exact ⟨r2, hr2, fin rfl⟩
                        · cases h3
                      | goto l => cases h3
                      | panic c => cases h3
                      | outgrown => cases h3
                · cases h1
            | exit id => cases h1
            | ret => cases h1
            | goto l => cases h1
            | panic c => cases h1
            | outgrown => cases h1
        · cases h
    · cases h
end
end Go.Ev
namespace Go.Ev
theorem CallW.frame {P : Program} {g : FuncId} {r : Value} {k : AV → St → Prop} (h : CallW P g [] ⟨[], 0⟩ k) (hk : ∀ v st, k v st → v = .lit r) (st : St) : CallW P g [] st (fun v st' => v = .lit r ∧ st' = st) := by
  intro φ w cargs n h1 h2
  have h0 : Rel ⟨φ.f, 0⟩ ⟨[], 0⟩ w := ⟨rfl, fun _ _ h => (by cases h), fun _ _ h => (by cases h), fun _ _ h => (by cases h), fun _ _ _ _ h => (by cases h)⟩
  cases h2
  refine (h ⟨φ.f, 0⟩ w [] n h0 .nil).mono fun e w' hp => ?_
  obtain ⟨v, cv, st', φ', he, hkk, hv, hex, hrel, hfr⟩ := hp
  have hvr := hk v st' hkk
  subst hvr
  obtain rfl := hv.lit_inv
  have hno : ∀ k, ¬ Owns ⟨φ.f, 0⟩ ⟨[], 0⟩ k := fun k ⟨id, o, h, _⟩ => by cases h
  have hblk : ∀ k, k < w.heap.size → w'.heap[k]? = w.heap[k]? := fun k hk => hfr.block k hk (hno k)
  refine ⟨_, _, st, φ, he, ⟨rfl, rfl⟩, .lit _, Ext.refl _, ⟨h1.n, h1.lt, fun id o ho => Nat.lt_of_lt_of_le (h1.blk id o ho) hfr.size, fun id o ho => ?_, h1.sep⟩, ⟨hfr.os, hfr.tape, hfr.output, hfr.size, fun k hk _ => hblk k hk, fun k hk => .inl hk⟩⟩
  exact (h1.obj id o ho).same (Ext.refl _) (by rw [h1.n]; exact h1.lt id o ho) (hblk _ (h1.blk id o ho))
theorem CallW.of_ev {P : Program} {call : CallE} (hc : CallOk P call) {g : FuncId} {r : Value} {outs : List (AV × St)} (h : call (.fn (.func g) [] []) [] ⟨[], 0⟩ = some outs) (hr : ∀ x ∈ outs, x.1 = .lit r) : Enters P g ∧ ∀ st, CallW P g [] st (fun v st' => v = .lit r ∧ st' = st) := by
  obtain ⟨h1, h2⟩ := hc _ _ _ _ h
  exact ⟨h1, fun st => CallW.frame h2 (fun v st' hm => hr _ hm) st⟩
theorem CallW.of_map {P : Program} {call : CallE} (hc : CallOk P call) {g : FuncId} {r : Value} (h : ((call (.fn (.func g) [] []) [] ⟨[], 0⟩).map fun l => l.map fun x => x.1) = some [.lit r]) : Enters P g ∧ ∀ st, CallW P g [] st (fun v st' => v = .lit r ∧ st' = st) := by
  cases hq : call (.fn (.func g) [] []) [] ⟨[], 0⟩ with
  | none => rw [hq] at h; cases h
  | some outs =>
    rw [hq] at h
    simp only [Option.map_some, Option.some.injEq] at h
    refine CallW.of_ev hc hq fun x hx => ?_
    have : x.1 ∈ outs.map fun x => x.1 := List.mem_map_of_mem hx
    rw [h] at this
    exact List.mem_singleton.1 this
end Go.Ev
namespace Go.Ev
def nthS : Nat → Code → Code
  | 0, .seq a _ => a
  | 0, c => c
  | n + 1, .seq _ b => nthS n b
  | _ + 1, _ => .skip
def restS : Nat → Code → Code
  | 0, c => c
  | n + 1, .seq _ b => restS n b
  | _ + 1, _ => .skip
def bodyOf (f : Func) : Code := match f.body with
  | some b => b
  | none => .skip
section
variable {T : Ti} {X : St → (Operand → AV) → Oper → Option (List (AV × St))} {call : CallE} {L : Nat} {rd : Option Nat}
theorem ev_seq {a b : Code} {f f' : TF} {st st' : St} (h : evCode2 T X call L rd a f st = some [(.normal, f', st')]) : evCode2 T X call L rd (.seq a b) f st = evCode2 T X call L rd b f' st' := by
  simp only [evCode2, h, bindL]
  cases evCode2 T X call L rd b f' st' with
  | none => rfl
  | some y => simp
theorem ev_stage {k : Nat} {c : Code} {f f' : TF} {st st' : St} {r : Option (List Out2)} (hd : restS k c = .seq (nthS k c) (restS (k + 1) c)) (h : evCode2 T X call L rd (nthS k c) f st = some [(.normal, f', st')]) (hr : evCode2 T X call L rd (restS (k + 1) c) f' st' = r) :
    evCode2 T X call L rd (restS k c) f st = r := by rw [hd, ev_seq h, hr]
variable {G : FuncId → Option Func} {C : FuncId → List AV → St → Option (List (AV × St))}
theorem evApply2_of {n : Nat} {g : FuncId} {fn : Func} {first caps args : List AV} {st : St} {b : Code} {outs : List Out2} {l : List (AV × St)} (hC : C g (first ++ args ++ caps) st = none) (hG : G g = some fn) (hb : fn.body = some b) (hl : Nat.ble (max (first ++ args ++ caps).length fn.ntmps) bigT = true)
    (h : evCode2 T X (evApply2 T X L G C n) L none b (TF.of (first ++ args ++ caps) fn.ntmps) st = some outs) (hr : bindL outs (retT T fn st.n) = some l) : evApply2 T X L G C (n + 1) (.fn (.func g) first caps) args st = some (dedup l) := by
  simp only [evApply2, hC, hG, hb, hl, h, hr, Option.map_some]
end
end Go.Ev
namespace Go.Ev
section
variable {T : Ti} {X : St → (Operand → AV) → Oper → Option (List (AV × St))} {call : CallE} {L : Nat} {G : FuncId → Option Func} {C : FuncId → List AV → St → Option (List (AV × St))} {D : FuncId → Nat} {rd : Option Nat}
theorem ev3_stage {k : Nat} {c : Code} {f f' : TF} {st st' : St} {r : Option (List Out2)} (hd : restS k c = .seq (nthS k c) (restS (k + 1) c)) (h : evC3 T X call L rd (nthS k c) f st = some [(.normal, f', st')]) (hr : evC3 T X call L rd (restS (k + 1) c) f' st' = r) : evC3 T X call L rd (restS k c) f st = r := by
  rw [hd]
  show seq3 (evC3 T X call L rd (nthS k c) f st) (evC3 T X call L rd (restS (k + 1) c)) = r
  rw [h]
  exact hr
theorem evApply3_of {n : Nat} {g : FuncId} {fn : Func} {args : List AV} {st : St} {b : Code} {outs : List Out2} {l : List (AV × St)} (hC : C g args st = none) (hG : G g = some fn) (hb : fn.body = some b) (hl : (Nat.ble (lenL args) bigT && Nat.ble fn.ntmps bigT) = true)
    (h : evC3 T X (evApply3 T X L G C D n) L none b (ofF args fn.ntmps) st = some outs) (hA : Nat.ble 1000 (D g) = false) (hr : bind3 outs (retO3 (manyD (D g % 1000) outs) T fn st.n) = some l) : evApply3 T X L G C D (n + 1) (.fn (.func g) [] []) args st = some (dedup3 l) := by
  show apply3 T X L G C D (evApply3 T X L G C D n) (.fn (.func g) [] []) args st = _
  simp only [apply3, appL_eq, List.nil_append, List.append_nil, func3, hC, hG, hA, body3, hb, hl, h, hr]
end
end Go.Ev
namespace Go.Ev
noncomputable def shft (N : Nat) : Nat → Option Nat := fun i => some (Nat.add N i)
noncomputable def shH (N : Nat) (h : Hp) : Option Hp := @List.rec (Nat × AObj) (fun _ => Option Hp) (some []) (fun x _ ih => match renO (shft N) x.2 with
  | none => none
  | some o => match ih with
    | none => none
    | some r => some ((Nat.add N x.1, o) :: r)) h
noncomputable def shS (st : St) (x : AV × St) : Option (AV × St) := match ownB x.2.h with
  | false => none
  | true => match renV (shft st.n) x.1 with
    | none => none
    | some v => match shH st.n x.2.h with
      | none => none
      | some h => some (v, ⟨h ++ st.h, Nat.add st.n x.2.n⟩)
theorem shH_get {N : Nat} : ∀ {h h' : Hp} {j : Nat} {x : AObj}, shH N h = some h' → h'.get j = some x → ∃ i o, j = N + i ∧ h.get i = some o ∧ renO (shft N) o = some x
  | [], h', j, x, hs, hx => by cases hs; cases hx
  | (i, y) :: r, h', j, x, hs, hx => by
    have hs' : (match renO (shft N) y with
      | none => none
      | some o => match shH N r with
        | none => none
        | some q => some ((Nat.add N i, o) :: q)) = some h' := hs
    split at hs'
    · cases hs'
    · rename_i o ho
      split at hs'
      · cases hs'
      · rename_i q hq
        cases hs'
        simp only [Hp.get] at hx
        split at hx
        · rename_i hij
          cases hx
          exact ⟨i, y, hij.symm, by simp [Hp.get], ho⟩
        · rename_i hij
          obtain ⟨i', o', h1, h2, h3⟩ := shH_get hq hx
          refine ⟨i', o', h1, ?_, h3⟩
          have : i ≠ i' := fun e => by subst e; exact hij h1.symm
          simp only [Hp.get, this, if_false]
          exact h2
noncomputable def litB (a : AV) : Bool := match a with
  | .lit _ => true
  | _ => false
theorem litB_ok {φ φ' : Fi} : ∀ {as : List AV} {us : List Value}, allL litB as = true → VRL φ as us → VRL φ' as us
  | [], _, _, .nil => .nil
  | a :: as, _, h, .cons h1 h2 => by
    rw [allL_eq, List.all_cons, Bool.and_eq_true] at h
    rw [← allL_eq] at h
    refine .cons ?_ (litB_ok h.2 h2)
    cases h1 with
    | lit => exact .lit _
    | _ => exact absurd h.1 (by simp [litB])
theorem CallW.shift {P : Program} {g : FuncId} {args : List AV} {outs outs' : List (AV × St)} (h : CallW P g args ⟨[], 0⟩ (fun v s => (v, s) ∈ outs)) (ha : allL litB args = true) {st : St} (hs : bind3 outs (fun x => (shS st x).map fun y => [y]) = some outs') :
    CallW P g args st (fun v s => (v, s) ∈ outs') := by
  rw [bind3_eq] at hs
  intro φ w cargs n h1 h2
  have hrel0 : Rel ⟨φ.f, 0⟩ ⟨[], 0⟩ w := ⟨rfl, fun _ _ h => by simp [Hp.get] at h, fun _ _ h => by simp [Hp.get] at h, fun _ _ h => by simp [Hp.get] at h, fun _ _ _ _ h => by simp [Hp.get] at h⟩
  refine (h ⟨φ.f, 0⟩ w cargs n hrel0 (litB_ok ha h2)).mono fun e w' hp => ?_
  obtain ⟨v, cv, s, φ', he, hm, hv, _, hr, hf⟩ := hp
  obtain ⟨l, h3, h4⟩ := bindL_ok hs (v, s) hm
  unfold shS at h3
  split at h3
  · cases h3
  rename_i hown
  split at h3
  · cases h3
  rename_i v' hv'
  split at h3
  · cases h3
  rename_i h' hh'
  cases h3
  have hown := ownB_ok hown
  have hno : ∀ k, ¬ Owns ⟨φ.f, 0⟩ ⟨[], 0⟩ k := fun k ⟨id, o, h, _⟩ => by cases h
  have hblk : ∀ k, k < w.heap.size → w'.heap[k]? = w.heap[k]? := fun k hk => hf.block k hk (hno k)
  have hnew : ∀ i o, s.h.get i = some o → w.heap.size ≤ (φ'.f i).b := fun i o hi => (hf.own _ ⟨i, o, hi, hown i o hi, rfl⟩).elim (fun h => absurd h (hno _)) fun h => h
  have fnew : ∀ i, (⟨fun i => if i < st.n then φ.f i else φ'.f (i - st.n), st.n + φ'.n⟩ : Fi).f (st.n + i) = φ'.f i := fun i => by
    show (if st.n + i < st.n then φ.f (st.n + i) else φ'.f (st.n + i - st.n)) = _
    rw [if_neg (by omega), Nat.add_sub_cancel_left]
  have hext : Ext φ ⟨fun i => if i < st.n then φ.f i else φ'.f (i - st.n), st.n + φ'.n⟩ := ⟨by rw [h1.n]; exact Nat.le_add_right _ _, fun id hi => if_pos (by rw [← h1.n]; exact hi)⟩
  have fold : ∀ i o, st.h.get i = some o → (⟨fun i => if i < st.n then φ.f i else φ'.f (i - st.n), st.n + φ'.n⟩ : Fi).f i = φ.f i := fun i o hi => if_pos (h1.lt i o hi)
  generalize hφ : (⟨fun i => if i < st.n then φ.f i else φ'.f (i - st.n), st.n + φ'.n⟩ : Fi) = φ2 at *
  have hφn : φ2.n = st.n + φ'.n := by rw [← hφ]
  have hρ : RenOk (shft st.n) φ' φ2 := fun i j hij hi => by
    cases hij
    exact ⟨fnew i, by rw [hφn]; exact Nat.add_lt_add_left hi _⟩
  have cases2 : ∀ {j : Nat} {x : AObj}, Hp.get (h' ++ st.h) j = some x → (∃ i o, j = st.n + i ∧ s.h.get i = some o ∧ renO (shft st.n) o = some x) ∨ st.h.get j = some x := fun hx =>
    (Hp.get_append hx).elim (fun h => .inl (shH_get hh' h)) .inr
  refine ⟨v', cv, ⟨h' ++ st.h, Nat.add st.n s.n⟩, φ2, he, h4 _ (List.mem_singleton.2 rfl), renV_ok hρ hv' hv, hext, ⟨by rw [hφn, hr.n]; rfl, fun j x hx => ?_, fun j x hx => ?_, fun j x hx => ?_, fun j1 j2 x1 x2 k1 k2 hne ho hb => ?_⟩,
    ⟨hf.os, hf.tape, hf.output, hf.size, fun k hk _ => hblk k hk, fun k ⟨j, x, hx, hxo, hk⟩ => ?_⟩⟩
  · show j < st.n + s.n
    rcases cases2 hx with ⟨i, o, rfl, h5, _⟩ | h5
    · have := hr.lt i o h5; omega
    · have := h1.lt j x h5; omega
  · rcases cases2 hx with ⟨i, o, rfl, h5, _⟩ | h5
    · rw [fnew]; exact hr.blk i o h5
    · rw [fold j x h5]; exact Nat.lt_of_lt_of_le (h1.blk j x h5) hf.size
  · rcases cases2 hx with ⟨i, o, rfl, h5, h6⟩ | h5
    · exact renO_ok hρ (fnew i) h6 (hr.obj i o h5)
    · exact (h1.obj j x h5).same hext (by rw [h1.n]; exact h1.lt j x h5) (hblk _ (h1.blk j x h5))
  · rcases cases2 k1 with ⟨i1, o1, rfl, m1, r1⟩ | m1 <;> rcases cases2 k2 with ⟨i2, o2, rfl, m2, r2⟩ | m2
    · rw [fnew, fnew] at *
      obtain ⟨⟨q, q1, q2⟩, s1, s2, s3⟩ := hr.sep i1 i2 o1 o2 m1 m2 (fun e => hne (by rw [e])) (by rw [← renO_own r1]; exact ho) hb
      obtain ⟨e1, e2⟩ := renO_fam r1 q1
      obtain ⟨e3, _⟩ := renO_fam r2 q2
      obtain ⟨q', hq'⟩ := Option.isSome_iff_exists.1 e2
      rw [hq'] at e1 e3
      exact ⟨⟨q', e1.symm, e3.symm⟩, by rw [renO_own r2]; exact s1, s2, s3⟩
    · exfalso
      rw [fnew, fold j2 x2 m2] at hb
      have a1 := hnew i1 o1 m1
      have a2 := h1.blk j2 x2 m2
      omega
    · exfalso
      rw [fnew, fold j1 x1 m1] at hb
      have a1 := hnew i2 o2 m2
      have a2 := h1.blk j1 x1 m1
      omega
    · rw [fold j1 x1 m1, fold j2 x2 m2] at *
      exact h1.sep j1 j2 x1 x2 m1 m2 hne ho hb
  · rcases cases2 hx with ⟨i, o, rfl, h5, _⟩ | h5
    · rw [fnew] at hk; right; rw [← hk]; exact hnew i o h5
    · rw [fold j x h5] at hk; exact .inl ⟨j, x, h5, hxo, hk⟩
theorem CallW.known {P : Program} {call : CallE} (hc : CallOk P call) {g : FuncId} {args : List AV} {x : AV × St} (h : call (.fn (.func g) [] []) args ⟨[], 0⟩ = some [x]) (ha : allL litB args = true) {st : St} {outs : List (AV × St)} (hs : (shS st x).map (fun y => [y]) = some outs) :
    Enters P g ∧ CallW P g args st (fun v s => (v, s) ∈ outs) := by
  obtain ⟨h1, h2⟩ := hc _ _ _ _ h
  simp only [List.nil_append, List.append_nil] at h2
  refine ⟨h1, CallW.shift h2 ha ?_⟩
  rw [bind3_eq]
  simp only [bindL]
  rw [hs]
  simp
end Go.Ev
namespace Go.Ev
section
variable {P : Program} {T : Ti}
def Ren (n0 : Nat) (f : Fm) (st : St) (f' : Fm) (st' : St) : Prop :=
  ∀ (φ : Fi) (w : World) (a : Act), Rel φ st w → ActR φ f a → ∃ φ', Rel φ' st' w ∧ ActR φ' f' a ∧ n0 ≤ φ'.n ∧ (∀ id, id < n0 → φ'.f id = φ.f id) ∧ (∀ k, Owns φ' st' k → Owns φ st k)
theorem Ren.refl {n0 : Nat} {f : Fm} {st : St} (h : n0 ≤ st.n) : Ren n0 f st f st := fun φ w a hr ha => ⟨φ, hr, ha, by rw [hr.n]; exact h, fun _ _ => rfl, fun _ h => h⟩
theorem Ren.trans {n0 : Nat} {f f' f'' : Fm} {st st' st'' : St} (h : Ren n0 f st f' st') (k : Ren n0 f' st' f'' st'') : Ren n0 f st f'' st'' := fun φ w a hr ha => by
  obtain ⟨φ1, h1, h2, _, h4, h5⟩ := h φ w a hr ha
  obtain ⟨φ2, k1, k2, k3, k4, k5⟩ := k φ1 w a h1 h2
  exact ⟨φ2, k1, k2, k3, fun id hi => (k4 id hi).trans (h4 id hi), fun q hq => h5 q (k5 q hq)⟩
theorem Ren.keep {n0 : Nat} {f : Fm} {st : St} (hn : n0 ≤ st.n) (p : Nat → Bool) : Ren n0 f st f (st.keep p) := fun φ w a hr ha =>
  ⟨φ, hr.keep p, ha, by rw [hr.n]; exact hn, fun _ _ => rfl, fun k ⟨id, o, h1, h2, h3⟩ => ⟨id, o, Hp.get_filter h1, h2, h3⟩⟩
theorem Ren.names {n0 : Nat} {f : Fm} {st : St} {ord : List Nat} {ts' : List AV} {a b : Hp} (h1 : ord.Nodup) (h2 : ∀ i ∈ ord, n0 ≤ i) (h3 : ∀ d ∈ f.dm, d < n0) (h4 : renL (rho n0 ord) f.ts = some ts')
    (h5 : renOld (rho n0 ord) n0 st.h = some a) (h6 : renNew (rho n0 ord) st.h n0 ord = some b) : Ren n0 f st ⟨ts', f.dm⟩ ⟨b ++ a, n0 + ord.length⟩ := fun φ w ac hr ha => by
  obtain ⟨m1, m2⟩ := renSt_ok hr h1 h2 h5 h6
  refine ⟨phi n0 ord φ, m1, ⟨renL_ok (rho_ok n0 ord φ) h4 ha.ts, ?_, fun id hid => ?_⟩, Nat.le_add_right _ _, fun id hid => phi_old hid, m2⟩
  · rw [ha.dm]
    exact List.map_congr_left fun id hid => by rw [phi_old (h3 id hid)]
  · have := h3 id hid; unfold phi; simp only; omega
theorem Ren.alone {n0 : Nat} {f : Fm} {st : St} {id g : Nat} {ro : Bool} {cs : List AV} (hn : n0 ≤ st.n) (ho : st.h.get id = some (.cells (some g) ro cs)) (hal : ∀ j o, st.h.get j = some o → j ≠ id → o.fam ≠ some g) :
    Ren n0 f st f ⟨st.h.set id (.cells none ro cs), st.n⟩ := fun φ w a hr ha => by
  have hget : ∀ j x, (st.h.set id (.cells none ro cs)).get j = some x → (j = id ∧ x = .cells none ro cs) ∨ (j ≠ id ∧ st.h.get j = some x) := fun j x hx => by
    rw [Hp.get_set] at hx
    by_cases hj : j = id
    · subst hj; left; simpa [ho, eq_comm] using hx
    · right; simpa [hj] using hx
  refine ⟨φ, ⟨hr.n, fun j x hx => ?_, fun j x hx => ?_, fun j x hx => ?_, fun i j oi oj hi hj hij hio => ?_⟩, ha, by rw [hr.n]; exact hn, fun _ _ => rfl, fun k ⟨j, x, hx, hxo, hb⟩ => ?_⟩
  · rcases hget j x hx with ⟨rfl, rfl⟩ | ⟨_, h⟩
    · exact hr.lt j _ ho
    · exact hr.lt j x h
  · rcases hget j x hx with ⟨rfl, rfl⟩ | ⟨_, h⟩
    · exact hr.blk j _ ho
    · exact hr.blk j x h
  · rcases hget j x hx with ⟨rfl, rfl⟩ | ⟨_, h⟩
    · have h := hr.obj j _ ho
      exact h
    · exact hr.obj j x h
  · intro hb
    rcases hget i oi hi with ⟨rfl, rfl⟩ | ⟨hi', h1⟩
    · rcases hget j oj hj with ⟨rfl, rfl⟩ | ⟨hj', h2⟩
      · exact absurd rfl hij
      · obtain ⟨⟨q, q1, q2⟩, _⟩ := hr.sep i j _ oj ho h2 hij hio hb
        simp only [AObj.fam, Option.some.injEq] at q1
        subst q1
        exact absurd q2 (hal j oj h2 hj')
    · rcases hget j oj hj with ⟨rfl, rfl⟩ | ⟨hj', h2⟩
      · obtain ⟨⟨q, q1, q2⟩, _⟩ := hr.sep i j oi _ h1 ho hij hio hb
        simp only [AObj.fam, Option.some.injEq] at q2
        subst q2
        exact absurd q1 (hal i oi h1 hij)
      · exact hr.sep i j oi oj h1 h2 hij hio hb
  · rcases hget j x hx with ⟨rfl, rfl⟩ | ⟨_, h⟩
    · exact ⟨j, _, ho, hxo, hb⟩
    · exact ⟨j, x, h, hxo, hb⟩
theorem SW.loopN {rd : Option Nat} {c : Code} {Q : Exit → Fm → St → Prop} {f : Fm} {st : St} (I : Nat → Fm → St → Prop) (k : Nat) (h0 : I k f st)
    (hround : ∀ k f1 st1, I k f1 st1 → SW P rd c (thenQ (fun f' st' => ∃ k', k' < k ∧ ∃ f2 st2, Ren st.n f' st' f2 st2 ∧ I k' f2 st2) Q) f1 st1) : SW P rd (.loop c) Q f st := by
  intro φ w a n h1 h2 h3
  let J : Nat → Act → World → Prop := fun k a' w' => ∃ f' st' φ', I k f' st' ∧ Ext φ φ' ∧ Rel φ' st' w' ∧ ActR φ' f' a' ∧ Fr φ st w φ' st' w'
  intro b kk cs hro hb hroom
  have key : ∀ k a' w', J k a' w' → ∃ e a₂ w₂, Lift φ st w Q e a₂ w₂ ∧ ArrivesIn (Machine.fenced P (FW (rdB φ rd))) P (lone (b.atR a' (.code c :: .inLoop c :: kk)) cs w') b kk cs e a₂ w₂ := by
    intro k
    induction k using Nat.strongRecOn with
    | _ k ih =>
      intro a' w' hj
      obtain ⟨f', st', φ', hi, he, hr, ha, hf⟩ := hj
      have hr1 := hround k f' st' hi φ' w' a' n (fun id hi => Nat.lt_of_lt_of_le (h1 id hi) he.n) hr ha
      rw [rdB_ext he h1] at hr1
      obtain ⟨e, a₁, w₁, hq, harr⟩ := hr1 b (.inLoop c :: kk) cs hro hb hroom
      obtain ⟨f2, st2, φ2, hk, he2, hr2, ha2, hf2⟩ := hq
      cases e with
      | normal =>
        obtain ⟨k', hlt, f3, st3, hren, hi'⟩ := hk
        obtain ⟨φ3, g1, g2, g3, g4, g5⟩ := hren φ2 w₁ a₁ hr2 ha2
        have hex : Ext φ φ3 := ⟨by rw [h2.n]; exact g3, fun id hid => by rw [g4 id (by rw [← h2.n]; exact hid)]; exact (he.trans he2).f id hid⟩
        have hft := hf.trans hf2
        obtain ⟨e₂, a₂, w₂, hq₂, harr₂⟩ := ih k' hlt a₁ w₁ ⟨f3, st3, φ3, hi', hex, g1, g2, ⟨hft.os, hft.tape, hft.output, hft.size, hft.block, fun q hq => hft.own q (g5 q hq)⟩⟩
        exact ⟨e₂, a₂, w₂, hq₂, .of_steps (StepsIn.trans harr (.one (fenced_calm hb hroom rfl) stepR_inLoop)) harr₂⟩
      | exit id => exact ⟨_, a₁, w₁, ⟨f2, st2, φ2, hk, he.trans he2, hr2, ha2, hf.trans hf2⟩, .pass (x := .inLoop c) rfl (fun _ _ => .inl (by simp)) harr⟩
      | goto l => exact ⟨_, a₁, w₁, ⟨f2, st2, φ2, hk, he.trans he2, hr2, ha2, hf.trans hf2⟩, .pass (x := .inLoop c) rfl (fun _ _ => .inl (by simp)) harr⟩
      | ret => exact ⟨_, a₁, w₁, ⟨f2, st2, φ2, hk, he.trans he2, hr2, ha2, hf.trans hf2⟩, .pass (x := .inLoop c) rfl (fun _ _ => .inl (by simp)) harr⟩
      | panic ch => exact ⟨_, a₁, w₁, ⟨f2, st2, φ2, hk, he.trans he2, hr2, ha2, hf.trans hf2⟩, .pass (x := .inLoop c) rfl (fun _ _ => .inl (by simp)) harr⟩
      | outgrown => exact ⟨_, a₁, w₁, ⟨f2, st2, φ2, hk, he.trans he2, hr2, ha2, hf.trans hf2⟩, .pass (x := .inLoop c) rfl (fun _ _ => .inl (by simp)) harr⟩
  obtain ⟨e, a', w', hq, harr⟩ := key k a w ⟨f, st, φ, h0, Ext.refl _, h2, h3, Fr.refl _ _ _⟩
  exact ⟨e, a', w', hq, .of_steps (.one (fenced_calm hb hroom rfl) stepR_loop) harr⟩
variable (P T) in
def AnyK (ops : Array Oper) (M : List Nat) (rd : Option Nat) (K : Fm → St → Prop) (fuel : Nat) (pend : List (Nat × AV)) (listed : Array Bool) (f : Fm) (st : St) : Prop :=
  Closed ops listed → PL pend listed → AnyD P T ops M rd K fuel pend listed f st
theorem SW.drawnK {ops : Array Oper} (hm : P.follows .mixedOrders = true) {rd : Option Nat} {id : Nat} {Q : Exit → Fm → St → Prop} {f : Fm} {st : St} (hM : tidyB ops (masks ops) = true)
    (h : AnyK P T ops (masks ops) rd (fun f' st' => Q .normal f' st') ops.size [] (Array.replicate ops.size false) f st) : SW P rd (.region id ops true) Q f st :=
  SW.drawn hm (tidy_of hM) (h closed_nil (fun p hp => by cases hp))
theorem AnyK.light {ops : Array Oper} {M : List Nat} (hM : tidyB ops M = true) (hT : TOk P T) {rd : Option Nat} {K : Fm → St → Prop} (i : Nat) {o : Oper} {r : AV} {fuel : Nat} {pend : List (Nat × AV)} {listed : Array Bool} {f : Fm} {st : St} (ho : ops[i]? = some o)
    (hr : (Region.ready .any ops listed).contains i = true) (hn : noLook ops pend o = true) (hl : lightV T ops st.h f i = some r) (h : AnyK P T ops M rd K fuel ((i, r) :: pend) (listed.setIfInBounds i true) (f.put o.dst r) st) : AnyK P T ops M rd K (fuel + 1) pend listed f st := fun hc hp => by
  have hri : i ∈ Region.ready .any ops listed := List.contains_iff_mem.1 hr
  refine AnyD.take (tidy_of hM) hT ho fuel hc hp (noLook_ok hn) hri hl (h (hc.set hri) fun p hm => ?_)
  obtain ⟨o', ho', hun, _⟩ := ready_edges hri
  rcases List.mem_cons.1 hm with rfl | hm
  · have hlt : i < listed.size := by
      rw [Array.getD_eq_getD_getElem?] at hun
      rcases Nat.lt_or_ge i listed.size with h | h
      · exact h
      · rw [Array.getElem?_eq_none h] at hun; cases hun
    show (listed.setIfInBounds i true).getD i false = true
    rw [Array.getD_eq_getD_getElem?, Array.getElem?_setIfInBounds]
    simp [hlt]
  · exact getD_set_true (hp p hm)
theorem AnyK.one {ops : Array Oper} {M : List Nat} {rd : Option Nat} {K : Fm → St → Prop} (i : Nat) {o : Oper} {fuel : Nat} {pend : List (Nat × AV)} (pend' : List (Nat × AV)) {listed : Array Bool} {f : Fm} {st : St} (ho : ops[i]? = some o)
    (hr : Region.ready .any ops listed = [i]) (hp : PendOk T ops pend f st.h) (hd : dropP M i pend = pend') (h : OpsW P rd ops [i] (fun f' st' => ∃ v, f' = f.put o.dst v ∧ AnyK P T ops M rd K fuel pend' (listed.setIfInBounds i true) f' st') f st) : AnyK P T ops M rd K (fuel + 1) pend listed f st := fun hc hpl => by
  subst hd
  refine AnyD.all hp hr (by simp) fun j hj => ?_
  obtain rfl : j = i := by simpa using hj
  refine ⟨o, ho, h.mono fun f' st' ⟨v, hf, hk⟩ => ⟨v, hf, hk (hc.set (by rw [hr]; simp)) fun p hp => getD_set_true (hpl p (List.mem_filter.1 hp).1)⟩⟩
theorem AnyK.done {ops : Array Oper} {M : List Nat} {rd : Option Nat} {K : Fm → St → Prop} {fuel : Nat} {pend : List (Nat × AV)} {listed : Array Bool} {f : Fm} {st : St} (hr : Region.ready .any ops listed = []) (hp : PendOk T ops pend f st.h) (h : K f st) : AnyK P T ops M rd K fuel pend listed f st := fun _ _ =>
  AnyD.done hp hr h fuel
theorem OpsW.next {rd : Option Nat} {ops : Array Oper} {i : Nat} {f : Fm} {st : St} {o : Oper} {it : Operand} {K : Fm → St → Prop} (ho : ops[i]? = some o) (hx : o.op = .next it false) (hw : Region.wanted o (yA ops f.ts) = true)
    {rid mid since last id clock : Nat} {seen : List Nat} {es : List (AV × AV × Nat)} (hit : itOf st (Operand.av f.ts it) = some (rid, mid, since, seen, last)) (hes : esOf st (.mp mid) = some (id, es, clock))
    (hc : (es.all (fun x => Nat.blt x.2.2 since) && Nat.ble since last) = true)
    (hend : (es.filter fun x => !(seen.contains x.2.2)) = [] → K (f.put o.dst (.tup [.lit (.bool false)])) st)
    (hgo : ∀ x ∈ es, seen.contains x.2.2 = false → K (f.put o.dst (.tup [.lit (.bool true), x.1, x.2.1])) ⟨st.h.set rid (.iter mid since (seen ++ [x.2.2]) clock), st.n⟩) :
    OpsW P rd ops [i] (fun f' st' => K f' st') f st := by
  have hm := OpsW.multi (P := P) (rd := rd) (ops := ops) (i := i) (f := f) (st := st) (o := o)
    (outs := (if (es.filter fun x => !(seen.contains x.2.2)) = [] then [(.tup [.lit (.bool false)], st)] else []) ++ (es.filter fun x => !(seen.contains x.2.2)).map fun x => (AV.tup [.lit (.bool true), x.1, x.2.1], (⟨st.h.set rid (.iter mid since (seen ++ [x.2.2]) clock), st.n⟩ : St)))
    ho hw (fun c hc => by rw [hx] at hc; cases hc) fun φ w a h2 h3 => by
      rcases next_ok (P := P) (ty := o.type) h2 (opR_of h3.ts it) hit hes hc with ⟨k1, k2⟩ | ⟨x, hxm, w', v, k2, k3, k4, k5⟩
      · exact ⟨.tup [.lit (.bool false)], st, φ, w, _, by rw [k1]; simp, .inl (by simp [execOp, hx, k2, Result.andThen]), .tup (us := [.bool false]) (.cons (.lit _) .nil), h2, Ext.refl _, Fr.refl _ _ _⟩
      · exact ⟨_, _, φ, w', v, List.mem_append_right _ (List.mem_map_of_mem hxm), .inl (by simp [execOp, hx, k2, Result.andThen]), k3, k4, Ext.refl _, k5⟩
  refine hm.mono fun f' st' ⟨v, hf, hmem⟩ => ?_
  subst hf
  rcases List.mem_append.1 hmem with h | h
  · split at h
    · rename_i h0
      obtain ⟨rfl, rfl⟩ : v = _ ∧ st' = st := by simpa using h
      exact hend h0
    · cases h
  · obtain ⟨x, hx1, hx2⟩ := List.mem_map.1 h
    cases hx2
    obtain ⟨h5, h6⟩ := List.mem_filter.1 hx1
    exact hgo x h5 (by simpa using h6)
theorem OpsW.entry {rd : Option Nat} {ops : Array Oper} {i : Nat} {f : Fm} {st : St} {o : Oper} {it : Operand} {l : List Nat} {K : Fm → St → Prop} (ho : ops[i]? = some o) (hx : o.op = .entry it) (hw : Region.wanted o (yA ops f.ts) = true)
    {rid mid since last id clock s : Nat} {seen : List Nat} {es : List (AV × AV × Nat)} {x : AV × AV × Nat} (hit : itOf st (Operand.av f.ts it) = some (rid, mid, since, seen, last)) (hes : esOf st (.mp mid) = some (id, es, clock))
    (hs : seen.getLast? = some s) (hc : (Nat.beq clock last && bornsOk es) = true) (hf : es.filter (fun x => Nat.beq x.2.2 s) = [x]) (h : OpsW P rd ops l K (f.put o.dst (.tup [x.1, x.2.1])) st) : OpsW P rd ops (i :: l) K f st :=
  OpsW.value ho hw (fun c hc => by rw [hx] at hc; cases hc) (fun φ w a h2 h3 => by
    obtain ⟨v, k1, k2⟩ := entry_ok (P := P) h2 (opR_of h3.ts it) hit hes hs hc hf
    exact ⟨φ, w, v, .inl (by simp [execOp, hx, k1, Result.andThen]), k2, h2, Ext.refl _, Fr.refl _ _ _⟩) h
end
end Go.Ev
namespace Go.Ev
section
variable {P : Program} {T : Ti}
def ZOk (P : Program) (Z : TypeId → Option Value) : Prop := ∀ t z, Z t = some z → ∀ w, (zeroValue t).run P w = .ok z w
theorem zero_of_info {t : TypeId} {z : Value} (h : (P.info? t).bind (·.zero) = some z) (w : World) : (zeroValue t).run P w = .ok z w := by
  cases hi : P.info? t with
  | none => rw [hi] at h; cases h
  | some ti =>
    rw [hi] at h
    have h2 : ti.zero = some z := h
    simp [zeroValue, typeInfo, Sem.run_bind, program, Sem.run, Result.andThen, hi, h2]
def mapKE (T : Ti) (t : TypeId) : Option (TypeId × TypeId) := match T t with
  | some i => match i.desc with
    | .map k e => some (k, e)
    | _ => none
  | none => none
def okA (c : Bool) (v : AV) (b : Bool) : AV := match c with
  | true => .tup [v, .lit (.bool b)]
  | false => v
variable (P T) in
def xLook (KT : List TypeId) (Z : TypeId → Option Value) (st : St) (ρ : Operand → AV) (o : Oper) : Option (List (AV × St)) :=
  match o.op with
  | .lookup t m k c => match mapKE T t with
    | some (kt, e) => match Z e with
      | some z => match esOf st (ρ m) with
        | some (_, es, _) => if KT.contains kt && keyB P kt (ρ k) && es.all (fun x => keyB P kt x.1) then
            match idxs (ρ k) 0 es with
            | [] => some [(okA c (ofV z) false, st)]
            | [j] => match es[j]? with
              | some x => some [(okA c x.2.1 true, st)]
              | none => none
            | _ => none
          else none
        | none => none
      | none => none
    | none => none
  | _ => none
theorem okA_ok {φ : Fi} {c b : Bool} {v : AV} {u : Value} (h : VR φ v u) : VR φ (okA c v b) (if c then .tuple #[u, .bool b] else u) := by
  cases c with
  | true => exact .tup (us := [u, .bool b]) (.cons h (.cons (.lit _) .nil))
  | false => exact h
theorem look_ok {hT : TOk P T} {φ : Fi} {st : St} {w : World} {t kt e : TypeId} {c : Bool} {a k : AV} {u ku : Value} {id clock : Nat} {es : List (AV × AV × Nat)} {z : Value} {r : AV} (hK : Maps.Keyed P kt) (hr : Rel φ st w) (ha : VR φ a u) (hku : VR φ k ku) (hu : P.underlying t = some (.map kt e)) (hz : (zeroValue e).run P w = .ok z w) (h : esOf st a = some (id, es, clock))
    (hc : (keyB P kt k && es.all (fun x => keyB P kt x.1)) = true)
    (ho : (match idxs k 0 es with
      | [] => some (okA c (ofV z) false)
      | [j] => match es[j]? with
        | some x => some (okA c x.2.1 true)
        | none => none
      | _ => none) = some r) :
    ∃ v, (Instr.lookup t u ku c).run P w = .ok v w ∧ VR φ r v := by
  obtain ⟨rfl, hid, hom, ces, hb, hsz, hes⟩ := esOf_ok hr ha h
  simp only [Bool.and_eq_true] at hc
  have hkey : ∀ {b : AV} {bu : Value}, keyB P kt b = true → VR φ b bu → valK b = some bu ∧ ∃ l, keyOf P kt bu = some l := fun {b bu} h1 h2 => by
    unfold keyB at h1
    split at h1
    · rename_i v' hv'
      have := valK_ok h2 hv'
      subst this
      exact ⟨hv', Option.isSome_iff_exists.1 h1⟩
    · cases h1
  obtain ⟨hkv, lx, hlx⟩ := hkey hc.1 hku
  have hall : ∀ e ∈ ces.toList, ∃ l, keyOf P kt e.key = some l := fun e he => by
    obtain ⟨x, hx, h2, _, _⟩ := left_ok (seen := []) hsz hes he
    exact (hkey (List.all_eq_true.1 hc.2 x hx) h2).2
  have hcheck := hK.check w ces.isEmpty hlx
  rcases hK.find w hlx ces.toList hall with ⟨hrun, hne⟩ | ⟨j, e0, hrun, hj, hje⟩
  · have hnil : idxs k 0 es = [] := by
      cases hq : idxs k 0 es with
      | nil => rfl
      | cons i r =>
        exfalso
        obtain ⟨x, h1, _, h3⟩ := idxs_mem (show i ∈ idxs k 0 es by rw [hq]; simp)
        obtain ⟨e, hem, h4, _, _⟩ := right_ok hes (List.mem_of_getElem? h1)
        have h5 := avEq_ok h3
        rw [h5] at h4
        exact hne e hem (valK_ok h4 hkv)
    rw [hnil] at ho
    cases ho
    refine ⟨_, ?_, okA_ok (ofV_ok φ z)⟩
    cases c <;> simp [Instr.lookup, run_underlying hu, MapKept.run_getObj_map hb, hcheck, hrun, hz, Result.andThen]
  · have hjl : j < es.length := by
      have : j < ces.toList.length := (List.getElem?_eq_some_iff.1 hj).1
      rw [← hsz]; simpa using this
    have hjc : ces[j]? = some e0 := by rw [← Array.getElem?_toList]; exact hj
    obtain ⟨e', k1, k2, k3, k4⟩ := hes j es[j] (List.getElem?_eq_getElem hjl)
    have hee : e' = e0 := by rw [hjc] at k1; exact (Option.some.inj k1).symm
    subst hee
    have hmem : 0 + j ∈ idxs k 0 es := mem_idxs (List.getElem?_eq_getElem hjl) (by
      have h5 := (hkey (List.all_eq_true.1 hc.2 es[j] (List.getElem_mem hjl)) k2).1
      rw [hje] at h5
      exact valK_eq h5 hkv)
    rw [Nat.zero_add] at hmem
    split at ho
    · rename_i hq; rw [hq] at hmem; cases hmem
    · rename_i j' hq
      rw [hq] at hmem
      have : j = j' := by simpa using hmem
      subst this
      rw [List.getElem?_eq_getElem hjl] at ho
      cases ho
      refine ⟨_, ?_, okA_ok k3⟩
      cases c <;> simp [Instr.lookup, run_underlying hu, MapKept.run_getObj_map hb, hcheck, hrun, Result.andThen]
    · cases ho
theorem xLook_ok (hT : TOk P T) {KT : List TypeId} (hK : ∀ k ∈ KT, Maps.Keyed P k) {Z : TypeId → Option Value} (hZ : ZOk P Z) : XOk P (xLook P T KT Z) := by
  intro rd ops i f st o outs ho hw h
  unfold xLook at h
  split at h
  · rename_i t m k c hx
    split at h
    · rename_i kt e hkt
      have hu : P.underlying t = some (.map kt e) := by
        unfold mapKE at hkt
        split at hkt
        · rename_i ti hti
          split at hkt
          · rename_i k' e' hd
            cases hkt
            have := (hT t ti hti).und
            rw [hd] at this
            exact this
          · cases hkt
        · cases hkt
      split at h
      · rename_i z hz
        split at h
        · rename_i id es clock hes
          split at h
          · rename_i hc
            simp only [Bool.and_eq_true] at hc
            have hout : ∃ r, (match idxs (Operand.av f.ts k) 0 es with
                | [] => some (okA c (ofV z) false)
                | [j] => match es[j]? with
                  | some x => some (okA c x.2.1 true)
                  | none => none
                | _ => none) = some r ∧ outs = [(r, st)] := by
              split at h
              · cases h; exact ⟨_, rfl, rfl⟩
              · split at h
                · cases h; exact ⟨_, rfl, rfl⟩
                · cases h
              · cases h
            obtain ⟨r, hr, rfl⟩ := hout
            refine OpsW.multi ho hw (fun c hc => by rw [hx] at hc; cases hc) fun φ w a h2 h3 => ?_
            have hρ := opR_of h3.ts
            obtain ⟨v, k1, k2⟩ := look_ok (hT := hT) (c := c) (hK kt (List.contains_iff_mem.1 hc.1.1)) h2 (hρ m) (hρ k) hu (hZ e z hz w) hes (by simp only [Bool.and_eq_true]; exact ⟨hc.1.2, hc.2⟩) hr
            exact ⟨r, st, φ, w, v, List.mem_singleton.2 rfl, .inl (by simp [execOp, hx, k1, Result.andThen]), k2, h2, Ext.refl _, Fr.refl _ _ _⟩
          · cases h
        · cases h
      · cases h
    · cases h
  · cases h
end
end Go.Ev
