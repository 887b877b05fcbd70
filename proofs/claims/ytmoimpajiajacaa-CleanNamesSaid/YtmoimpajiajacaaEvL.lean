/-
  THE EVALUATOR OF CODE AND OF CALLS. Own work of the verifier of watercress.
-/
import Derived.Test.YtmoimpajiajacaaEvK
namespace Go.Ev

/-- Every region that draws its order is tidy. -/
def tidyC : Code → Bool
  | .region _ ops true => tidyB ops (masks ops)
  | .seq a b => tidyC a && tidyC b
  | .cond _ a b => tidyC a && tidyC b
  | .block _ c => tidyC c
  | .loop c => tidyC c
  | .scope c => tidyC c
  | .rangeFunc _ _ a b => tidyC a && tidyC b
  | _ => true

abbrev Out := Exit × Fm × St

def iterE (body : Fm → St → Option (List Out)) : Nat → Fm → St → Option (List Out)
  | 0, _, _ => none
  | n + 1, f, st => match body f st with
    | none => none
    | some outs => bindL outs fun x => match x with
      | (.normal, f', st') => iterE body n f' st'
      | (e, f', st') => some [(e, f', st')]

def jumpE : Code → Option Exit
  | .ret => some .ret
  | .exit e => some (.exit e)
  | _ => none

def rangeE (lid : Nat) (f : Fm) (st : St) : Option (List Out) :=
  match loopAt st lid with
  | none => none
  | some r => match r.state with
    | .busy => none
    | _ => match r.pending with
      | none => some [(.normal, f, setLoop st lid { r with state := .exhausted })]
      | some c => match jumpE c with
        | some e => some [(e, f, setLoop st lid { r with state := .exhausted })]
        | none => none

section
variable (T : Ti) (X : St → (Operand → AV) → Oper → Option (List (AV × St))) (call : CallE) (L : Nat)

def evCode (rd : Option Nat) : Code → Fm → St → Option (List Out)
  | .skip, f, st => some [(.normal, f, st)]
  | .label _, f, st => some [(.normal, f, st)]
  | .exit id, f, st => some [(.exit id, f, st)]
  | .ret, f, st => some [(.ret, f, st)]
  | .seq a b, f, st => match evCode rd a f st with
    | none => none
    | some outs => bindL outs fun x => match x with
      | (.normal, f', st') => evCode rd b f' st'
      | (e, f', st') => some [(e, f', st')]
  | .cond c a b, f, st => match Operand.av f.ts c with
    | .lit (.bool true) => evCode rd a f st
    | .lit (.bool false) => evCode rd b f st
    | _ => none
  | .block id c, f, st => match evCode rd c f st with
    | none => none
    | some outs => some (outs.map fun x => match x with
      | (.exit id', f', st') => if id' = id then (.normal, f', st') else (.exit id', f', st')
      | y => y)
  | .loop c, f, st => iterE (evCode rd c) L f st
  | .region _ ops true, f, st => (evDrawn T X call ops (masks ops) ops.size [] (Array.replicate ops.size false) f st).map fun l => l.map fun x => (.normal, x.1, x.2)
  | .region _ ops false, f, st => (evOps T X call ops (List.range ops.size) f st).map fun l => l.map fun x => (.normal, x.1, x.2)
  | .rangeFunc g ps assign body, f, st => match Operand.av f.ts g with
    | .fn (.func gf) first caps => match rd with
      | none => match call (.fn (.func gf) first caps) [.yld (st.n + 1)] ((st.push .dfr).push (.loop { state := .ready, pending := none, tmps := f.ts, params := ps, assign, body, dfid := st.n })) with
        | none => none
        | some outs => bindL outs fun x => rangeE (st.n + 1) { f with dm := st.n :: f.dm } x.2
      | some id0 => match loopAt st id0 with
        | none => none
        | some r0 => match call (.fn (.func gf) first caps) [.yld st.n] (st.push (.loop { state := .ready, pending := none, tmps := f.ts, params := ps, assign, body, dfid := r0.dfid })) with
          | none => none
          | some outs => bindL outs fun x => rangeE st.n f x.2
    | _ => none
  | _, _, _ => none
end

section
variable {P : Program} {T : Ti} {X : St → (Operand → AV) → Oper → Option (List (AV × St))} {call : CallE} {L : Nat}

theorem SW.unroll {rd : Option Nat} {c : Code} {K : Exit → Fm → St → Prop} {body : Fm → St → Option (List Out)} (hb : ∀ f st outs, body f st = some outs → SW P rd c (fun e f' st' => (e, f', st') ∈ outs) f st) {n : Nat} {f : Fm} {st : St} {outs : List Out}
    (h : iterE body n f st = some outs) (hk : ∀ x ∈ outs, K x.1 x.2.1 x.2.2) : SW P rd (.loop c) K f st := by
  refine SW.loop (fun n f st => ∃ outs, iterE body n f st = some outs ∧ ∀ x ∈ outs, K x.1 x.2.1 x.2.2) n ⟨outs, h, hk⟩ ?_
  intro n f st ⟨outs, h, hk⟩
  cases n with
  | zero => cases h
  | succ n =>
    simp only [iterE] at h
    split at h
    · cases h
    · rename_i os hos
      refine (hb f st os hos).mono fun e f' st' hm => ?_
      obtain ⟨x, h1, h2⟩ := bindL_ok h _ hm
      cases e with
      | normal => exact ⟨n, Nat.lt_succ_self n, x, h1, fun y hy => hk y (h2 y hy)⟩
      | _ => simp only [Option.some.injEq] at h1; subst h1; exact hk (_, f', st') (h2 (_, f', st') (List.mem_singleton.2 rfl))

theorem rangeE_ok {rd : Option Nat} {lid : Nat} {f : Fm} {st : St} {outs : List Out} {Q : Exit → Fm → St → Prop} (h : rangeE lid f st = some outs) (hq : ∀ x ∈ outs, Q x.1 x.2.1 x.2.2) (v : AV) : rangeK P rd lid Q f v st := by
  unfold rangeE at h
  split at h
  · cases h
  · rename_i r hr
    obtain ⟨s, pd, tmps, ps, as, bd, df⟩ := r
    simp only at h
    have hs : s ≠ .busy := fun e => by subst e; cases h
    refine ⟨_, hr, hs, ?_⟩
    have h' : (match pd with
      | none => some [(Exit.normal, f, setLoop st lid { state := .exhausted, pending := pd, tmps, params := ps, assign := as, body := bd, dfid := df })]
      | some c => match jumpE c with
        | some e => some [(e, f, setLoop st lid { state := .exhausted, pending := pd, tmps, params := ps, assign := as, body := bd, dfid := df })]
        | none => none) = some outs := by
      cases s
      case busy => exact absurd rfl hs
      all_goals (cases pd with
        | none => exact h
        | some c => simp only at h ⊢; cases hj : jumpE c <;> rw [hj] at h <;> exact h)
    cases pd with
    | none =>
      simp only [Option.some.injEq] at h'
      subst h'
      exact hq (.normal, _, _) (List.mem_singleton.2 rfl)
    | some c =>
      simp only at h' ⊢
      cases he : jumpE c with
      | none => rw [he] at h'; cases h'
      | some e =>
        rw [he] at h'
        simp only [Option.some.injEq] at h'
        subst h'
        have := hq (e, _, _) (List.mem_singleton.2 rfl)
        unfold jumpE at he
        split at he
        · cases he; exact .ret this
        · cases he; exact .exit this
        · cases he

/-- THE EVALUATOR OF CODE IS RIGHT. -/
theorem evCode_ok (hm : P.follows .mixedOrders = true) (hT : TOk P T) (hX : XOk P X) (hc : CallOk P call) {rd : Option Nat} : ∀ (c : Code) {f : Fm} {st : St} {outs : List Out} {K : Exit → Fm → St → Prop}, tidyC c = true → evCode T X call L rd c f st = some outs → (∀ x ∈ outs, K x.1 x.2.1 x.2.2) → SW P rd c K f st := by
  intro c
  induction c with
  | skip => intro f st outs K ht h hk; simp only [evCode, Option.some.injEq] at h; subst h; exact .skip (hk (.normal, f, st) (by simp))
  | label l => intro f st outs K ht h hk; simp only [evCode, Option.some.injEq] at h; subst h; exact .label (hk (.normal, f, st) (by simp))
  | exit id => intro f st outs K ht h hk; simp only [evCode, Option.some.injEq] at h; subst h; exact .exit (hk (.exit id, f, st) (by simp))
  | ret => intro f st outs K ht h hk; simp only [evCode, Option.some.injEq] at h; subst h; exact .ret (hk (.ret, f, st) (by simp))
  | goto l => intro f st outs K ht h hk; simp only [evCode] at h; cases h
  | scope c ih => intro f st outs K ht h hk; simp only [evCode] at h; cases h
  | refuse why => intro f st outs K ht h hk; simp only [evCode] at h; cases h
  | seq a b iha ihb =>
    intro f st outs K ht h hk
    simp only [tidyC, Bool.and_eq_true] at ht
    simp only [evCode] at h
    split at h
    · cases h
    · rename_i os hos
      refine .seq (iha ht.1 hos fun x hx => ?_)
      obtain ⟨e, f', st'⟩ := x
      obtain ⟨y, h1, h2⟩ := bindL_ok h _ hx
      cases e with
      | normal => exact ihb ht.2 h1 fun z hz => hk z (h2 z hz)
      | _ => simp only [Option.some.injEq] at h1; subst h1; exact hk (_, f', st') (h2 (_, f', st') (List.mem_singleton.2 rfl))
  | cond c a b iha ihb =>
    intro f st outs K ht h hk
    simp only [tidyC, Bool.and_eq_true] at ht
    simp only [evCode] at h
    split at h
    · rename_i hq; exact .cond hq (iha ht.1 h hk)
    · rename_i hq; exact .cond hq (ihb ht.2 h hk)
    · cases h
  | block id c ih =>
    intro f st outs K ht h hk
    simp only [tidyC] at ht
    simp only [evCode] at h
    split at h
    · cases h
    · rename_i os hos
      simp only [Option.some.injEq] at h
      subst h
      refine .block (ih ht hos fun x hx => ?_)
      obtain ⟨e, f', st'⟩ := x
      have h1 := hk _ (List.mem_map_of_mem hx)
      cases e with
      | exit id' =>
        simp only [blockQ]
        split
        · rename_i hid; simp only [hid, if_true] at h1; exact h1
        · rename_i hid; simp only [hid, if_false] at h1; exact h1
      | _ => exact h1
  | loop c ih =>
    intro f st outs K ht h hk
    simp only [tidyC] at ht
    simp only [evCode] at h
    exact SW.unroll (fun f st outs h => ih ht h fun x hx => hx) h hk
  | region id ops draw =>
    intro f st outs K ht h hk
    cases draw with
    | false =>
      simp only [evCode] at h
      cases he : evOps T X call ops (List.range ops.size) f st with
      | none => rw [he] at h; cases h
      | some l =>
        rw [he] at h
        simp only [Option.map_some, Option.some.injEq] at h
        subst h
        exact .region (evOps_ok hT hX hc _ he fun x hx => hk _ (List.mem_map_of_mem hx))
    | true =>
      simp only [tidyC] at ht
      simp only [evCode] at h
      cases he : evDrawn T X call ops (masks ops) ops.size [] (Array.replicate ops.size false) f st with
      | none => rw [he] at h; cases h
      | some l =>
        rw [he] at h
        simp only [Option.map_some, Option.some.injEq] at h
        subst h
        exact .drawn hm (tidy_of ht) (evDrawn_ok hT hX hc (tidy_of ht) _ closed_nil (fun p hp => by cases hp) he fun x hx => hk _ (List.mem_map_of_mem hx))
  | rangeFunc g ps assign body iha ihb =>
    intro f st outs K ht h hk
    simp only [evCode] at h
    split at h
    · rename_i gf first caps hg
      cases rd with
      | none =>
        simp only at h
        split at h
        · cases h
        · rename_i os hos
          obtain ⟨hent, hcw⟩ := hc _ _ _ _ hos
          refine .rangeFunc hg hent (hcw.mono fun v st' hm => ?_)
          obtain ⟨y, h1, h2⟩ := bindL_ok h _ hm
          exact rangeE_ok h1 (fun x hx => hk x (h2 x hx)) v
      | some id0 =>
        simp only at h
        split at h
        · cases h
        · rename_i r0 hr0
          split at h
          · cases h
          · rename_i os hos
            obtain ⟨hent, hcw⟩ := hc _ _ _ _ hos
            refine .rangeFuncIn hr0 hg hent (hcw.mono fun v st' hm => ?_)
            obtain ⟨y, h1, h2⟩ := bindL_ok h _ hm
            exact rangeE_ok h1 (fun x hx => hk x (h2 x hx)) v
    · cases h
end

/-! ### Calls -/
def retE (T : Ti) (fn : Func) (n0 : Nat) (x : Out) : Option (List (AV × St)) :=
  match x with
  | (.normal, f, st) | (.ret, f, st) => match killA f.dm st with
    | none => none
    | some st' => match resA T fn.results f st' with
      | none => none
      | some v => some [(v, gcSt n0 v st')]
  | _ => none

def roundE (id : Nat) (x : Out) : Option (List (AV × St)) :=
  match x with
  | (.normal, _, st) => match loopAt st id with
    | some r => some [(.lit (.bool true), setLoop st id { r with state := .ready, pending := none })]
    | none => none
  | (.ret, _, st) => match loopAt st id with
    | some r => some [(.lit (.bool false), setLoop st id { r with state := .done, pending := some .ret })]
    | none => none
  | (.exit e, _, st) => match loopAt st id with
    | some r => some [(.lit (.bool false), setLoop st id { r with state := .done, pending := some (.exit e) })]
    | none => none
  | _ => none

def readyB : LoopState → Bool
  | .ready => true
  | _ => false

section
variable (T : Ti) (X : St → (Operand → AV) → Oper → Option (List (AV × St))) (L : Nat) (G : FuncId → Option Func) (C : FuncId → List AV → St → Option (List (AV × St)))

def evApply : Nat → CallE
  | 0, _, _, _ => none
  | n + 1, c, args, st => match c with
    | .fn (.func g) first caps => match C g (first ++ args ++ caps) st with
      | some outs => some outs
      | none => match G g with
        | none => none
        | some fn => match fn.body with
          | none => none
          | some b => match evCode T X (evApply n) L none b ⟨(first ++ args ++ caps) ++ List.replicate (fn.ntmps - (first ++ args ++ caps).length) undA, []⟩ st with
            | none => none
            | some outs => (bindL outs (retE T fn st.n)).map dedup
    | .yld id => match loopAt st id with
      | none => none
      | some r => if args.length == r.params.size && (tidyC r.assign && tidyC r.body) then
          match evCode T X (evApply n) L (some id) r.assign ⟨setPs r.tmps (r.params.toList.zip args), []⟩ st with
          | none => none
          | some outs => bindL outs fun x => match x with
            | (.normal, f1, st1) => match loopAt st1 id with
              | none => none
              | some r1 => if readyB r1.state && tidyC r.body then
                  match evCode T X (evApply n) L (some id) r.body f1 (setLoop st1 id { r1 with state := .busy }) with
                  | none => none
                  | some o2 => bindL o2 (roundE id)
                else none
            | _ => none
        else none
    | _ => none
end

section
variable {P : Program} {T : Ti} {X : St → (Operand → AV) → Oper → Option (List (AV × St))} {L : Nat} {G : FuncId → Option Func} {C : FuncId → List AV → St → Option (List (AV × St))}

variable (P G) in
/-- The functions that may be evaluated. -/
def GOk : Prop := ∀ g fn, G g = some fn → P.funcs[g]? = some fn ∧ Enters P g ∧ ∀ b, fn.body = some b → tidyC b = true
variable (P C) in
/-- What is known of calls. -/
def COk : Prop := ∀ g args st outs, C g args st = some outs → Enters P g ∧ CallW P g args st (fun v st' => (v, st') ∈ outs)

theorem evApply_ok (hm : P.follows .mixedOrders = true) (hT : TOk P T) (hX : XOk P X) (hG : GOk P G) (hC : COk P C) : ∀ n, CallOk P (evApply T X L G C n)
  | 0 => fun c args st outs h => by cases h
  | n + 1 => fun c args st outs' h => by
    have ih := evApply_ok hm hT hX hG hC n
    unfold evApply at h
    split at h
    · rename_i g first caps
      split at h
      · rename_i os hos
        cases h
        exact hC _ _ _ _ hos
      · split at h
        · cases h
        · rename_i fn hfn
          obtain ⟨hf, hent, htid⟩ := hG _ _ hfn
          split at h
          · cases h
          · rename_i b hb
            split at h
            · cases h
            · rename_i os hos
              cases he : bindL os (retE T fn st.n) with
              | none => rw [he] at h; cases h
              | some l =>
                rw [he] at h
                simp only [Option.map_some, Option.some.injEq] at h
                subst h
                refine ⟨hent, CallW.keep (gcP st.n) (callW_of_body hT hf hb (evCode_ok hm hT hX ih b (htid b hb) hos fun x hx => ?_))⟩
                obtain ⟨e, f', st'⟩ := x
                obtain ⟨y, h1, h2⟩ := bindL_ok he _ hx
                have fin : (match killA f'.dm st' with
                    | none => none
                    | some st' => match resA T fn.results f' st' with
                      | none => none
                      | some v => some [(v, gcSt st.n v st')]) = some y → ∃ st'' v, killA f'.dm st' = some st'' ∧ resA T fn.results f' st'' = some v ∧ (v, st''.keep (gcP st.n v st'')) ∈ dedup l := fun h3 => by
                  split at h3
                  · cases h3
                  · rename_i st2 hst2
                    split at h3
                    · cases h3
                    · rename_i v hv
                      cases h3
                      refine ⟨st2, v, hst2, hv, mem_dedup (h2 _ ?_)⟩
                      rw [← gcSt_eq]; simp
                cases e with
                | normal => exact fin h1
                | ret => exact fin h1
                | exit id => cases h1
                | goto l => cases h1
                | panic c => cases h1
                | outgrown => cases h1
    · rename_i id
      split at h
      · cases h
      · rename_i r hr
        split at h
        · rename_i hb
          simp only [Bool.and_eq_true, beq_iff_eq] at hb
          split at h
          · cases h
          · rename_i os hos
            refine YieldW.of_round hr hb.1 (evCode_ok hm hT hX ih r.assign hb.2.1 hos fun x hx => ?_)
            obtain ⟨e, f1, st1⟩ := x
            obtain ⟨y, h1, h2⟩ := bindL_ok h _ hx
            cases e with
            | normal =>
              simp only at h1
              split at h1
              · cases h1
              · rename_i r1 hr1
                split at h1
                · rename_i hb1
                  simp only [Bool.and_eq_true] at hb1
                  split at h1
                  · cases h1
                  · rename_i o2 ho2
                    refine ⟨r1, hr1, ?_, ?_⟩
                    · unfold readyB at hb1
                      cases hs : r1.state <;> rw [hs] at hb1 <;> simp at hb1 ⊢
                    · refine evCode_ok hm hT hX ih r.body hb1.2 ho2 fun z hz => ?_
                      obtain ⟨e, f2, st2⟩ := z
                      obtain ⟨q, h3, h4⟩ := bindL_ok h1 _ hz
                      unfold roundE at h3
                      have fin : ∀ {v : AV} {s2 : St}, q = [(v, s2)] → (v, s2) ∈ outs' := fun {v s2} hq => by subst hq; exact h2 _ (h4 _ (List.mem_singleton.2 rfl))
                      cases e with
                      | normal =>
                        simp only at h3
                        split at h3
                        · rename_i r2 hr2; cases h3; exact ⟨r2, hr2, fin rfl⟩
                        · cases h3
                      | ret =>
                        simp only at h3
                        split at h3
                        · rename_i r2 hr2; cases h3; exact ⟨r2, hr2, fin rfl⟩
                        · cases h3
                      | exit id =>
                        simp only at h3
                        split at h3
                        · rename_i r2 hr2; cases h3; exact ⟨r2, hr2, fin rfl⟩
                        · cases h3
                      | goto l => cases h3
                      | panic c => cases h3
                      | outgrown => cases h3
                · cases h1
            | exit id => cases h1
            | ret => cases h1
            | goto l => cases h1
            | panic c => cases h1
            | outgrown => cases h1
        · cases h
    · cases h
end
end Go.Ev
