/-
  THE EVALUATOR, MADE QUICK: calls, and that it is right. Own work of the verifier of watercress.
-/
import Derived.Test.YtmoimpajiajacaaEvKf
namespace Go.Ev

noncomputable def kill3 (l : List Nat) : St → Option St := @List.rec Nat (fun _ => St → Option St) (fun st => some st) (fun id _ ih st => match hget st.h id with
  | some .dfr => ih ⟨hset st.h id (.cells none true []), st.n⟩
  | _ => none) l
theorem kill3_eq : ∀ (l : List Nat) (st : St), kill3 l st = killA l st
  | [], st => by simp [kill3, killA]
  | id :: r, st => by
    show (match hget st.h id with
      | some .dfr => kill3 r ⟨hset st.h id (.cells none true []), st.n⟩
      | _ => none) = _
    simp only [killA, hget_eq, hset_eq, kill3_eq r]
    cases st.h.get id with
    | none => rfl
    | some o => cases o <;> rfl
noncomputable def gcD (D n0 : Nat) (v : AV) (st : St) : AV × St := match Nat.beq D 0 with
  | true => gc3 0 n0 v st
  | false => gc4 D n0 v st
theorem CallW.gcD {P : Program} {g : FuncId} {args : List AV} {st : St} {k : AV → St → Prop} (D : Nat) (h : CallW P g args st (fun v st' => k (gcD D st.n v st').1 (gcD D st.n v st').2)) : CallW P g args st k := by
  unfold Ev.gcD at h
  cases hb : Nat.beq D 0 with
  | true => rw [hb] at h; exact CallW.gc 0 h
  | false => rw [hb] at h; exact CallW.gc4 D h
noncomputable def ret3 (D : Nat) (T : Ti) (fn : Func) (n0 : Nat) (f : TF) (st : St) : Option (List (AV × St)) := match kill3 f.dm st with
  | none => none
  | some st' => match resA3 T fn.results f st' with
    | none => none
    | some v => some [gcD D n0 v st']
noncomputable def retO3 (D : Nat) (T : Ti) (fn : Func) (n0 : Nat) (x : Out2) : Option (List (AV × St)) := match x with
  | (.normal, f, st) => ret3 D T fn n0 f st
  | (.ret, f, st) => ret3 D T fn n0 f st
  | _ => none
def dedup3 (l : List (AV × St)) : List (AV × St) := match l with
  | [x] => [x]
  | l => dedup (l.map fun x => x)
theorem mem_dedup3 {l : List (AV × St)} {x : AV × St} (h : x ∈ l) : x ∈ dedup3 l := by
  unfold dedup3
  split
  · exact h
  · simpa using mem_dedup h
noncomputable def round3 (id : Nat) (x : Out2) : Option (List (AV × St)) :=
  match x with
  | (.normal, _, st) => match loopQ st id with
    | some r => some [(.lit (.bool true), setQ st id { r with state := .ready, pending := none })]
    | none => none
  | (.ret, _, st) => match loopQ st id with
    | some r => some [(.lit (.bool false), setQ st id { r with state := .done, pending := some .ret })]
    | none => none
  | (.exit e, _, st) => match loopQ st id with
    | some r => some [(.lit (.bool false), setQ st id { r with state := .done, pending := some (.exit e) })]
    | none => none
  | _ => none

/-- Several outcomes get their names anew in any case. -/
def manyD (D : Nat) (l : List Out2) : Nat := match l with
  | [_] => D
  | _ => 0
noncomputable def appL (a b : List AV) : List AV := @List.rec AV (fun _ => List AV) b (fun x _ ih => x :: ih) a
theorem appL_eq (a b : List AV) : appL a b = a ++ b := by
  induction a with
  | nil => rfl
  | cons x a ih => show x :: appL a b = _; rw [ih]; rfl

section
variable (T : Ti) (X : St → (Operand → AV) → Oper → Option (List (AV × St))) (L : Nat) (G : FuncId → Option Func) (C : FuncId → List AV → St → Option (List (AV × St))) (D : FuncId → Nat)

noncomputable def body3 (call : CallE) (g : FuncId) (fn : Func) (args : List AV) (st : St) : Option (List (AV × St)) := match fn.body with
  | none => none
  | some b => match Nat.ble (lenL args) bigT && Nat.ble fn.ntmps bigT with
    | false => none
    | true => match evC3 T X call L none b (ofF args fn.ntmps) st with
      | none => none
      | some outs => match bind3 outs (retO3 (manyD (D g) outs) T fn st.n) with
        | none => none
        | some l => some (dedup3 l)
noncomputable def func3 (call : CallE) (g : FuncId) (args : List AV) (st : St) : Option (List (AV × St)) := match C g args st with
  | some outs => some outs
  | none => match G g with
    | none => none
    | some fn => body3 T X L D call g fn args st
noncomputable def round1 (call : CallE) (id : Nat) (x : Out2) : Option (List (AV × St)) := match x with
  | (.normal, f1, st1) => match loopQ st1 id with
    | none => none
    | some r1 => match readyB r1.state && tidyC r1.body with
      | true => match evC3 T X call L (some id) r1.body f1 (setQ st1 id { r1 with state := .busy }) with
        | none => none
        | some o2 => bind3 o2 (round3 id)
      | false => none
  | _ => none
noncomputable def yield3 (call : CallE) (id : Nat) (r : ALoop) (ts args : List AV) (st : St) : Option (List (AV × St)) := match (Nat.beq (lenL args) r.params.size && Nat.ble (lenL ts) bigT) && (tidyC r.assign && tidyC r.body) with
  | true => match evC3 T X call L (some id) r.assign (ofF ts 0) st with
    | none => none
    | some outs => bind3 outs fun x => match x with
      | (.normal, f1, st1) => match loopQ st1 id with
        | none => none
        | some r1 => match readyB r1.state && tidyC r.body with
          | true => match evC3 T X call L (some id) r.body f1 (setQ st1 id { r1 with state := .busy }) with
            | none => none
            | some o2 => bind3 o2 (round3 id)
          | false => none
      | _ => none
  | false => none
noncomputable def apply3 (call : CallE) : CallE := fun c args st => match c with
  | .fn (.func g) first caps => func3 T X L G C D call g (appL (appL first args) caps) st
  | .yld id => match loopQ st id with
    | none => none
    | some r => yield3 T X L call id r (setPs3 r.tmps (r.params.toList.zip args)) args st
  | _ => none
noncomputable def evApply3 (n : Nat) : CallE := @Nat.rec (fun _ => CallE) (fun _ _ _ => none) (fun _ ih => apply3 T X L G C D ih) n
end

section
variable {P : Program} {T : Ti} {X : St → (Operand → AV) → Oper → Option (List (AV × St))} {L : Nat} {G : FuncId → Option Func} {C : FuncId → List AV → St → Option (List (AV × St))} {D : FuncId → Nat}

theorem body3_ok (hm : P.follows .mixedOrders = true) (hT : TOk P T) (hX : XOk P X) (hG : GOk P G) {call : CallE} (ih : CallOk P call) {g : FuncId} {fn : Func} {args : List AV} {st : St} {outs : List (AV × St)} (hfn : G g = some fn)
    (h : body3 T X L D call g fn args st = some outs) : Enters P g ∧ CallW P g args st (fun v st' => (v, st') ∈ outs) := by
  obtain ⟨hf, hent, htid⟩ := hG _ _ hfn
  unfold body3 at h
  split at h
  · cases h
  · rename_i b hb
    split at h
    · cases h
    rename_i hbig
    simp only [Bool.and_eq_true, lenL_eq] at hbig
    have hbig : max args.length fn.ntmps ≤ bigT := by
      have h1 := Nat.le_of_ble_eq_true hbig.1
      have h2 := Nat.le_of_ble_eq_true hbig.2
      omega
    split at h
    · cases h
    · rename_i os hos
      rw [evC3_eq] at hos
      simp only [bind3_eq] at h
      cases he : bindL os (retO3 (manyD (D g) os) T fn st.n) with
      | none => rw [he] at h; cases h
      | some l =>
        rw [he] at h
        simp only [Option.some.injEq] at h
        subst h
        refine ⟨hent, CallW.gcD (manyD (D g) os) (callW_of_body hT hf hb ?_)⟩
        rw [← ofF_abs hbig]
        refine evCode2_ok hm hT hX ih b (ofF_ok hbig) (htid b hb) hos fun x hx _ => ?_
        obtain ⟨e, f', st'⟩ := x
        obtain ⟨y, h1, h2⟩ := bindL_ok he _ hx
        have fin : ret3 (manyD (D g) os) T fn st.n f' st' = some y → ∃ st'' v, killA f'.dm st' = some st'' ∧ resA T fn.results f'.abs st'' = some v ∧ ((gcD (manyD (D g) os) st.n v st'').1, (gcD (manyD (D g) os) st.n v st'').2) ∈ dedup3 l := fun h3 => by
          unfold ret3 at h3
          rw [kill3_eq] at h3
          split at h3
          · cases h3
          · rename_i st2 hst2
            rw [resA3_eq] at h3
            split at h3
            · cases h3
            · rename_i v hv
              cases h3
              exact ⟨st2, v, hst2, hv, mem_dedup3 (h2 _ (List.mem_singleton.2 rfl))⟩
        cases e with
        | normal => exact fin h1
        | ret => exact fin h1
        | exit id => cases h1
        | goto l => cases h1
        | panic c => cases h1
        | outgrown => cases h1

theorem evApply3_ok (hm : P.follows .mixedOrders = true) (hT : TOk P T) (hX : XOk P X) (hG : GOk P G) (hC : COk P C) : ∀ n, CallOk P (evApply3 T X L G C D n)
  | 0 => fun c args st outs h => by cases h
  | n + 1 => fun c args st outs' h => by
    have ih := evApply3_ok hm hT hX hG hC n
    have h : apply3 T X L G C D (evApply3 T X L G C D n) c args st = some outs' := h
    unfold apply3 at h
    split at h
    · rename_i g first caps
      rw [appL_eq, appL_eq] at h
      unfold func3 at h
      split at h
      · rename_i os hos
        cases h
        exact hC _ _ _ _ hos
      · split at h
        · cases h
        · rename_i fn hfn
          exact body3_ok hm hT hX hG ih hfn h
    · rename_i id
      rw [loopQ_eq] at h
      split at h
      · cases h
      · rename_i r hr
        unfold yield3 at h
        rw [setPs3_eq] at h
        split at h
        · rename_i hb
          simp only [Bool.and_eq_true, lenL_eq] at hb
          split at h
          · cases h
          · rename_i os hos
            rw [evC3_eq] at hos
            rw [bind3_eq] at h
            have hbig : max (setPs r.tmps (r.params.toList.zip args)).length 0 ≤ bigT := by have := Nat.le_of_ble_eq_true hb.1.2; omega
            refine YieldW.of_round hr (Nat.eq_of_beq_eq_true hb.1.1) ?_
            have hab : (⟨setPs r.tmps (r.params.toList.zip args), []⟩ : Fm) = (ofF (setPs r.tmps (r.params.toList.zip args)) 0).abs := by
              rw [ofF_abs hbig]; simp
            rw [hab]
            refine evCode2_ok hm hT hX ih r.assign (ofF_ok hbig) hb.2.1 hos fun x hx hok => ?_
            obtain ⟨e, f1, st1⟩ := x
            obtain ⟨y, h1, h2⟩ := bindL_ok h _ hx
            cases e with
            | normal =>
              simp only [loopQ_eq] at h1
              split at h1
              · cases h1
              · rename_i r1 hr1
                split at h1
                · rename_i hb1
                  simp only [Bool.and_eq_true] at hb1
                  split at h1
                  · cases h1
                  · rename_i o2 ho2
                    rw [evC3_eq, setQ_eq] at ho2
                    rw [bind3_eq] at h1
                    refine ⟨r1, hr1, ?_, ?_⟩
                    · have hb1 := hb1.1
                      unfold readyB at hb1
                      cases hs : r1.state <;> rw [hs] at hb1 <;> simp at hb1 ⊢
                    · refine evCode2_ok hm hT hX ih r.body hok hb1.2 ho2 fun z hz _ => ?_
                      obtain ⟨e, f2, st2⟩ := z
                      obtain ⟨q, h3, h4⟩ := bindL_ok h1 _ hz
                      unfold round3 at h3
                      have fin : ∀ {v : AV} {s2 : St}, q = [(v, s2)] → (v, s2) ∈ outs' := fun {v s2} hq => by subst hq; exact h2 _ (h4 _ (List.mem_singleton.2 rfl))
                      cases e with
                      | normal =>
                        simp only [loopQ_eq, setQ_eq] at h3
                        split at h3
                        · rename_i r2 hr2; cases h3; exact ⟨r2, hr2, fin rfl⟩
                        · cases h3
                      | ret =>
                        simp only [loopQ_eq, setQ_eq] at h3
                        split at h3
                        · rename_i r2 hr2; cases h3; exact ⟨r2, hr2, fin rfl⟩
                        · cases h3
                      | exit id =>
                        simp only [loopQ_eq, setQ_eq] at h3
                        split at h3
                        · rename_i r2 hr2; cases h3; exact ⟨r2, hr2, fin rfl⟩
                        · cases h3
                      | goto l => cases h3
                      | panic c => cases h3
                      | outgrown => cases h3
                · cases h1
            | exit id => cases h1
            | ret => cases h1
            | goto l => cases h1
            | panic c => cases h1
            | outgrown => cases h1
        · cases h
    · cases h
end
end Go.Ev
