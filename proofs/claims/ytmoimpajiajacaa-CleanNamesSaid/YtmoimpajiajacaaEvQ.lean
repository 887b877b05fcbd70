/-
  THE EVALUATOR OF CODE AND OF CALLS, over frames that are trees. Own work of the verifier of watercress.
-/
import Derived.Test.YtmoimpajiajacaaEvO
import Derived.Test.YtmoimpajiajacaaEvR
import Derived.Test.YtmoimpajiajacaaEvW
import Derived.Test.YtmoimpajiajacaaEvZ
namespace Go.Ev

abbrev Out2 := Exit × TF × St

def iterT (body : TF → St → Option (List Out2)) : Nat → TF → St → Option (List Out2)
  | 0, _, _ => none
  | n + 1, f, st => match body f st with
    | none => none
    | some outs => bindL outs fun x => match x with
      | (.normal, f', st') => iterT body n f' st'
      | (e, f', st') => some [(e, f', st')]

def rangeT (lid : Nat) (f : TF) (st : St) : Option (List Out2) :=
  match loopAt st lid with
  | none => none
  | some r => match r.state with
    | .busy => none
    | _ => match r.pending with
      | none => some [(.normal, f, setLoop st lid { r with state := .exhausted })]
      | some c => match jumpE c with
        | some e => some [(e, f, setLoop st lid { r with state := .exhausted })]
        | none => none

section
variable (T : Ti) (X : St → (Operand → AV) → Oper → Option (List (AV × St))) (call : CallE) (L : Nat)

def normT (x : TF × St) : Out2 := (.normal, x.1, x.2)

def blockT (id : Nat) (x : Out2) : Out2 := match x with
  | (.exit id', f', st') => if id' = id then (.normal, f', st') else (.exit id', f', st')
  | y => y

def notGoto (x : Out2) : Bool := match x with
  | (.goto _, _, _) => false
  | _ => true

def evCode2 (rd : Option Nat) : Code → TF → St → Option (List Out2)
  | .skip, f, st => some [(.normal, f, st)]
  | .label _, f, st => some [(.normal, f, st)]
  | .exit id, f, st => some [(.exit id, f, st)]
  | .ret, f, st => some [(.ret, f, st)]
  | .seq a b, f, st => match evCode2 rd a f st with
    | none => none
    | some outs => bindL outs fun x => match x with
      | (.normal, f', st') => evCode2 rd b f' st'
      | (e, f', st') => some [(e, f', st')]
  | .cond c a b, f, st => match f.av c with
    | .lit (.bool true) => evCode2 rd a f st
    | .lit (.bool false) => evCode2 rd b f st
    | _ => none
  | .block id c, f, st => match evCode2 rd c f st with
    | none => none
    | some outs => some (outs.map (blockT id))
  | .loop c, f, st => iterT (evCode2 rd c) L f st
  | .scope c, f, st => match evCode2 rd c f st with
    | none => none
    | some outs => match outs.all notGoto with
      | true => some outs
      | false => none
  | .region _ ops true, f, st => (evDrawn2 T X call ops (masks ops) ops.size [] (infoL ops (masks ops)) 0 f st).map fun l => (mergeF st.n l).map normT
  | .region _ ops false, f, st => (evOps2 T X call ops ops.toList f st).map fun l => l.map normT
  | .rangeFunc g ps assign body, f, st => match f.av g with
    | .fn (.func gf) first caps => match rd with
      | none => match call (.fn (.func gf) first caps) [.yld (st.n + 1)] ((st.push .dfr).push (.loop { state := .ready, pending := none, tmps := f.abs.ts, params := ps, assign, body, dfid := st.n })) with
        | none => none
        | some outs => bindL outs fun x => rangeT (st.n + 1) { f with dm := st.n :: f.dm } x.2
      | some id0 => match loopAt st id0 with
        | none => none
        | some r0 => match call (.fn (.func gf) first caps) [.yld st.n] (st.push (.loop { state := .ready, pending := none, tmps := f.abs.ts, params := ps, assign, body, dfid := r0.dfid })) with
          | none => none
          | some outs => bindL outs fun x => rangeT st.n f x.2
    | _ => none
  | _, _, _ => none
end

section
variable {P : Program} {T : Ti} {X : St → (Operand → AV) → Oper → Option (List (AV × St))} {call : CallE} {L : Nat}

theorem SW.unrollT {rd : Option Nat} {c : Code} {K : Exit → Fm → St → Prop} {body : TF → St → Option (List Out2)} (hb : ∀ f st outs, f.ok → body f st = some outs → SW P rd c (fun e f' st' => ∃ tf, tf.ok ∧ f' = tf.abs ∧ (e, tf, st') ∈ outs) f.abs st) {n : Nat} {f : TF} {st : St} {outs : List Out2}
    (hf : f.ok) (h : iterT body n f st = some outs) (hk : ∀ x ∈ outs, x.2.1.ok → K x.1 x.2.1.abs x.2.2) : SW P rd (.loop c) K f.abs st := by
  refine SW.loop (fun n f st => ∃ tf outs, f = tf.abs ∧ tf.ok ∧ iterT body n tf st = some outs ∧ ∀ x ∈ outs, x.2.1.ok → K x.1 x.2.1.abs x.2.2) n ⟨f, outs, rfl, hf, h, hk⟩ ?_
  intro n f st ⟨tf, outs, hft, hok, h, hk⟩
  subst hft
  cases n with
  | zero => cases h
  | succ n =>
    simp only [iterT] at h
    split at h
    · cases h
    · rename_i os hos
      refine (hb tf st os hok hos).mono fun e f' st' ⟨tf', hok', hft', hm⟩ => ?_
      subst hft'
      obtain ⟨x, h1, h2⟩ := bindL_ok h _ hm
      cases e with
      | normal => exact ⟨n, Nat.lt_succ_self n, tf', x, rfl, hok', h1, fun y hy => hk y (h2 y hy)⟩
      | _ => simp only [Option.some.injEq] at h1; subst h1; exact hk (_, tf', st') (h2 (_, tf', st') (List.mem_singleton.2 rfl)) hok'

theorem rangeT_ok {rd : Option Nat} {lid : Nat} {f : TF} {st : St} {outs : List Out2} {Q : Exit → Fm → St → Prop} (h : rangeT lid f st = some outs) (hf : f.ok) (hq : ∀ x ∈ outs, x.2.1.ok → Q x.1 x.2.1.abs x.2.2) (v : AV) : rangeK P rd lid Q f.abs v st := by
  unfold rangeT at h
  split at h
  · cases h
  · rename_i r hr
    obtain ⟨s, pd, tmps, ps, as, bd, df⟩ := r
    simp only at h
    have hs : s ≠ .busy := fun e => by subst e; cases h
    refine ⟨_, hr, hs, ?_⟩
    have h' : (match pd with
      | none => some [(Exit.normal, f, setLoop st lid { state := .exhausted, pending := pd, tmps, params := ps, assign := as, body := bd, dfid := df })]
      | some c => match jumpE c with
        | some e => some [(e, f, setLoop st lid { state := .exhausted, pending := pd, tmps, params := ps, assign := as, body := bd, dfid := df })]
        | none => none) = some outs := by
      cases s
      case busy => exact absurd rfl hs
      all_goals (cases pd with
        | none => exact h
        | some c => simp only at h ⊢; cases hj : jumpE c <;> rw [hj] at h <;> exact h)
    cases pd with
    | none =>
      simp only [Option.some.injEq] at h'
      subst h'
      exact hq (.normal, _, _) (List.mem_singleton.2 rfl) hf
    | some c =>
      simp only at h' ⊢
      cases he : jumpE c with
      | none => rw [he] at h'; cases h'
      | some e =>
        rw [he] at h'
        simp only [Option.some.injEq] at h'
        subst h'
        have := hq (e, _, _) (List.mem_singleton.2 rfl) hf
        unfold jumpE at he
        split at he
        · cases he; exact .ret this
        · cases he; exact .exit this
        · cases he

/-- THE EVALUATOR OF CODE IS RIGHT. -/
theorem evCode2_ok (hm : P.follows .mixedOrders = true) (hT : TOk P T) (hX : XOk P X) (hc : CallOk P call) {rd : Option Nat} : ∀ (c : Code) {f : TF} {st : St} {outs : List Out2} {K : Exit → Fm → St → Prop}, f.ok → tidyC c = true → evCode2 T X call L rd c f st = some outs → (∀ x ∈ outs, x.2.1.ok → K x.1 x.2.1.abs x.2.2) → SW P rd c K f.abs st := by
  intro c
  induction c with
  | skip => intro f st outs K hf ht h hk; simp only [evCode2, Option.some.injEq] at h; subst h; exact .skip (hk (.normal, f, st) (List.mem_singleton.2 rfl) hf)
  | label l => intro f st outs K hf ht h hk; simp only [evCode2, Option.some.injEq] at h; subst h; exact .label (hk (.normal, f, st) (List.mem_singleton.2 rfl) hf)
  | exit id => intro f st outs K hf ht h hk; simp only [evCode2, Option.some.injEq] at h; subst h; exact .exit (hk (.exit id, f, st) (List.mem_singleton.2 rfl) hf)
  | ret => intro f st outs K hf ht h hk; simp only [evCode2, Option.some.injEq] at h; subst h; exact .ret (hk (.ret, f, st) (List.mem_singleton.2 rfl) hf)
  | goto l => intro f st outs K hf ht h hk; simp only [evCode2] at h; cases h
  | scope c ih =>
    intro f st outs K hf ht h hk
    simp only [tidyC] at ht
    simp only [evCode2] at h
    split at h
    · cases h
    · rename_i os hos
      split at h
      · rename_i hall
        cases h
        refine .scope (ih hf ht hos fun x hx hok => ?_)
        obtain ⟨e, f', st'⟩ := x
        have h1 := hk _ hx hok
        have h2 := List.all_eq_true.1 hall _ hx
        cases e with
        | goto l => cases h2
        | _ => exact h1
      · cases h
  | refuse why => intro f st outs K hf ht h hk; simp only [evCode2] at h; cases h
  | seq a b iha ihb =>
    intro f st outs K hf ht h hk
    simp only [tidyC, Bool.and_eq_true] at ht
    simp only [evCode2] at h
    split at h
    · cases h
    · rename_i os hos
      refine .seq (iha hf ht.1 hos fun x hx hok => ?_)
      obtain ⟨e, f', st'⟩ := x
      obtain ⟨y, h1, h2⟩ := bindL_ok h _ hx
      cases e with
      | normal => exact ihb hok ht.2 h1 fun z hz => hk z (h2 z hz)
      | _ => simp only [Option.some.injEq] at h1; subst h1; exact hk (_, f', st') (h2 (_, f', st') (List.mem_singleton.2 rfl)) hok
  | cond c a b iha ihb =>
    intro f st outs K hf ht h hk
    simp only [tidyC, Bool.and_eq_true] at ht
    simp only [evCode2] at h
    split at h
    · rename_i hq; exact SW.cond (t := true) (by rw [TF.av_eq]; exact hq) (iha hf ht.1 h hk)
    · rename_i hq; exact SW.cond (t := false) (by rw [TF.av_eq]; exact hq) (ihb hf ht.2 h hk)
    · cases h
  | block id c ih =>
    intro f st outs K hf ht h hk
    simp only [tidyC] at ht
    simp only [evCode2] at h
    split at h
    · cases h
    · rename_i os hos
      simp only [Option.some.injEq] at h
      subst h
      refine .block (ih hf ht hos fun x hx hok => ?_)
      obtain ⟨e, f', st'⟩ := x
      have h1 := hk _ (List.mem_map_of_mem hx)
      cases e with
      | exit id' =>
        simp only [blockQ]
        split
        · rename_i hid; simp only [blockT, hid, if_true] at h1; exact h1 hok
        · rename_i hid; simp only [blockT, hid, if_false] at h1; exact h1 hok
      | _ => exact h1 hok
  | loop c ih =>
    intro f st outs K hf ht h hk
    simp only [tidyC] at ht
    simp only [evCode2] at h
    exact SW.unrollT (fun f st outs hf h => ih hf ht h fun x hx hok => ⟨x.2.1, hok, rfl, hx⟩) hf h hk
  | region id ops draw =>
    intro f st outs K hf ht h hk
    cases draw with
    | false =>
      simp only [evCode2] at h
      cases he : evOps2 T X call ops ops.toList f st with
      | none => rw [he] at h; cases h
      | some l =>
        rw [he] at h
        simp only [Option.map_some, Option.some.injEq] at h
        subst h
        refine .region ?_
        have h2 := evOps2_ok (rd := rd) (K := fun f' st' => K .normal f' st') hT hX hc ops.toList 0 hf rfl he fun x hx hok => hk _ (List.mem_map_of_mem hx) hok
        rwa [List.range_eq_range', ← Array.length_toList]
    | true =>
      simp only [tidyC] at ht
      simp only [evCode2] at h
      cases he : evDrawn2 T X call ops (masks ops) ops.size [] (infoL ops (masks ops)) 0 f st with
      | none => rw [he] at h; cases h
      | some l =>
        rw [he] at h
        simp only [Option.map_some, Option.some.injEq] at h
        subst h
        refine SW.merge (l := l) (.drawn hm (tidy_of ht) (evDrawn2_ok (K := fun f' st' => Exit.normal = .normal ∧ ∃ x ∈ l, x.1.ok ∧ f' = x.1.abs ∧ st' = x.2) hT hX hc (tidy_of ht) _ (Inv.start ops _) closed_nil (fun p hp => by cases hp) hf he fun x hx hok => ⟨rfl, x, hx, hok, rfl, rfl⟩)) fun x hx hok => ?_
        exact hk _ (List.mem_map_of_mem (f := normT) hx) hok
  | rangeFunc g ps assign body iha ihb =>
    intro f st outs K hf ht h hk
    simp only [evCode2] at h
    split at h
    · rename_i gf first caps hg
      cases rd with
      | none =>
        simp only at h
        split at h
        · cases h
        · rename_i os hos
          obtain ⟨hent, hcw⟩ := hc _ _ _ _ hos
          refine .rangeFunc (by rw [TF.av_eq]; exact hg) hent (hcw.mono fun v st' hm => ?_)
          obtain ⟨y, h1, h2⟩ := bindL_ok h _ hm
          exact rangeT_ok (f := { f with dm := st.n :: f.dm }) h1 hf (fun x hx => hk x (h2 x hx)) v
      | some id0 =>
        simp only at h
        split at h
        · cases h
        · rename_i r0 hr0
          split at h
          · cases h
          · rename_i os hos
            obtain ⟨hent, hcw⟩ := hc _ _ _ _ hos
            refine .rangeFuncIn hr0 (by rw [TF.av_eq]; exact hg) hent (hcw.mono fun v st' hm => ?_)
            obtain ⟨y, h1, h2⟩ := bindL_ok h _ hm
            exact rangeT_ok h1 hf (fun x hx => hk x (h2 x hx)) v
    · cases h
end

/-! ### Calls -/
def retT (T : Ti) (fn : Func) (n0 : Nat) (x : Out2) : Option (List (AV × St)) :=
  match x with
  | (.normal, f, st) | (.ret, f, st) => match killA f.dm st with
    | none => none
    | some st' => match resA T fn.results f.abs st' with
      | none => none
      | some v => some [canon n0 v st']
  | _ => none

def roundT (id : Nat) (x : Out2) : Option (List (AV × St)) :=
  match x with
  | (.normal, _, st) => match loopAt st id with
    | some r => some [(.lit (.bool true), setLoop st id { r with state := .ready, pending := none })]
    | none => none
  | (.ret, _, st) => match loopAt st id with
    | some r => some [(.lit (.bool false), setLoop st id { r with state := .done, pending := some .ret })]
    | none => none
  | (.exit e, _, st) => match loopAt st id with
    | some r => some [(.lit (.bool false), setLoop st id { r with state := .done, pending := some (.exit e) })]
    | none => none
  | _ => none

section
variable (T : Ti) (X : St → (Operand → AV) → Oper → Option (List (AV × St))) (L : Nat) (G : FuncId → Option Func) (C : FuncId → List AV → St → Option (List (AV × St)))

def evApply2 : Nat → CallE
  | 0, _, _, _ => none
  | n + 1, c, args, st => match c with
    | .fn (.func g) first caps => match C g (first ++ args ++ caps) st with
      | some outs => some outs
      | none => match G g with
        | none => none
        | some fn => match fn.body with
          | none => none
          | some b => match Nat.ble (max (first ++ args ++ caps).length fn.ntmps) bigT with
            | false => none
            | true => match evCode2 T X (evApply2 n) L none b (TF.of (first ++ args ++ caps) fn.ntmps) st with
              | none => none
              | some outs => (bindL outs (retT T fn st.n)).map dedup
    | .yld id => match loopAt st id with
      | none => none
      | some r => if (args.length == r.params.size && Nat.ble (max (setPs r.tmps (r.params.toList.zip args)).length 0) bigT) && (tidyC r.assign && tidyC r.body) then
          match evCode2 T X (evApply2 n) L (some id) r.assign (TF.of (setPs r.tmps (r.params.toList.zip args)) 0) st with
          | none => none
          | some outs => bindL outs fun x => match x with
            | (.normal, f1, st1) => match loopAt st1 id with
              | none => none
              | some r1 => if readyB r1.state && tidyC r.body then
                  match evCode2 T X (evApply2 n) L (some id) r.body f1 (setLoop st1 id { r1 with state := .busy }) with
                  | none => none
                  | some o2 => bindL o2 (roundT id)
                else none
            | _ => none
        else none
    | _ => none
end

section
variable {P : Program} {T : Ti} {X : St → (Operand → AV) → Oper → Option (List (AV × St))} {L : Nat} {G : FuncId → Option Func} {C : FuncId → List AV → St → Option (List (AV × St))}

theorem evApply2_ok (hm : P.follows .mixedOrders = true) (hT : TOk P T) (hX : XOk P X) (hG : GOk P G) (hC : COk P C) : ∀ n, CallOk P (evApply2 T X L G C n)
  | 0 => fun c args st outs h => by cases h
  | n + 1 => fun c args st outs' h => by
    have ih := evApply2_ok hm hT hX hG hC n
    unfold evApply2 at h
    split at h
    · rename_i g first caps
      split at h
      · rename_i os hos
        cases h
        exact hC _ _ _ _ hos
      · split at h
        · cases h
        · rename_i fn hfn
          obtain ⟨hf, hent, htid⟩ := hG _ _ hfn
          split at h
          · cases h
          · rename_i b hb
            split at h
            · cases h
            rename_i hbig
            have hbig := Nat.le_of_ble_eq_true hbig
            split at h
            · cases h
            · rename_i os hos
              cases he : bindL os (retT T fn st.n) with
              | none => rw [he] at h; cases h
              | some l =>
                rw [he] at h
                simp only [Option.map_some, Option.some.injEq] at h
                subst h
                refine ⟨hent, CallW.canon (callW_of_body hT hf hb ?_)⟩
                rw [← TF.abs_of hbig]
                refine evCode2_ok hm hT hX ih b (TF.of_ok hbig) (htid b hb) hos fun x hx _ => ?_
                obtain ⟨e, f', st'⟩ := x
                obtain ⟨y, h1, h2⟩ := bindL_ok he _ hx
                have fin : (match killA f'.dm st' with
                    | none => none
                    | some st' => match resA T fn.results f'.abs st' with
                      | none => none
                      | some v => some [canon st.n v st']) = some y → ∃ st'' v, killA f'.dm st' = some st'' ∧ resA T fn.results f'.abs st'' = some v ∧ ((canon st.n v st'').1, (canon st.n v st'').2) ∈ dedup l := fun h3 => by
                  split at h3
                  · cases h3
                  · rename_i st2 hst2
                    split at h3
                    · cases h3
                    · rename_i v hv
                      cases h3
                      exact ⟨st2, v, hst2, hv, mem_dedup (h2 _ (List.mem_singleton.2 rfl))⟩
                cases e with
                | normal => exact fin h1
                | ret => exact fin h1
                | exit id => cases h1
                | goto l => cases h1
                | panic c => cases h1
                | outgrown => cases h1
    · rename_i id
      split at h
      · cases h
      · rename_i r hr
        split at h
        · rename_i hb
          simp only [Bool.and_eq_true, beq_iff_eq] at hb
          split at h
          · cases h
          · rename_i os hos
            have hbig := Nat.le_of_ble_eq_true hb.1.2
            refine YieldW.of_round hr hb.1.1 ?_
            have hab : (⟨setPs r.tmps (r.params.toList.zip args), []⟩ : Fm) = (TF.of (setPs r.tmps (r.params.toList.zip args)) 0).abs := by
              rw [TF.abs_of hbig]; simp
            rw [hab]
            refine evCode2_ok hm hT hX ih r.assign (TF.of_ok hbig) hb.2.1 hos fun x hx hok => ?_
            obtain ⟨e, f1, st1⟩ := x
            obtain ⟨y, h1, h2⟩ := bindL_ok h _ hx
            cases e with
            | normal =>
              simp only at h1
              split at h1
              · cases h1
              · rename_i r1 hr1
                split at h1
                · rename_i hb1
                  simp only [Bool.and_eq_true] at hb1
                  split at h1
                  · cases h1
                  · rename_i o2 ho2
                    refine ⟨r1, hr1, ?_, ?_⟩
                    · unfold readyB at hb1
                      cases hs : r1.state <;> rw [hs] at hb1 <;> simp at hb1 ⊢
                    · refine evCode2_ok hm hT hX ih r.body hok hb1.2 ho2 fun z hz _ => ?_
                      obtain ⟨e, f2, st2⟩ := z
                      obtain ⟨q, h3, h4⟩ := bindL_ok h1 _ hz
                      unfold roundT at h3
                      have fin : ∀ {v : AV} {s2 : St}, q = [(v, s2)] → (v, s2) ∈ outs' := fun {v s2} hq => by subst hq; exact h2 _ (h4 _ (List.mem_singleton.2 rfl))
                      cases e with
                      | normal =>
                        simp only at h3
                        split at h3
                        · rename_i r2 hr2; cases h3; exact ⟨r2, hr2, fin rfl⟩
                        · cases h3
                      | ret =>
                        simp only at h3
                        split at h3
                        · rename_i r2 hr2; cases h3; exact ⟨r2, hr2, fin rfl⟩
                        · cases h3
                      | exit id =>
                        simp only at h3
                        split at h3
                        · rename_i r2 hr2; cases h3; exact ⟨r2, hr2, fin rfl⟩
                        · cases h3
                      | goto l => cases h3
                      | panic c => cases h3
                      | outgrown => cases h3
                · cases h1
            | exit id => cases h1
            | ret => cases h1
            | goto l => cases h1
            | panic c => cases h1
            | outgrown => cases h1
        · cases h
    · cases h
end
end Go.Ev
