/-
  THE EVALUATOR, MADE QUICK: drawn regions, code. Own work of the verifier of watercress.
-/
import Derived.Test.YtmoimpajiajacaaEvKd
namespace Go.Ev

section
variable (T : Ti) (X : St → (Operand → AV) → Oper → Option (List (AV × St))) (call : CallE)
noncomputable def pend3 (ops : Array Oper) (pend : List (Nat × AV)) (f : TF) (h : Hp) : Bool := pend.all fun p => match ops[p.1]? with
  | none => false
  | some o => match light3 T ops h f o with
    | some r => avEq r p.2
    | none => false
noncomputable def pick3 (ops : Array Oper) (L : Nat) (h : Hp) (f : TF) (l : List En) : Option (En × AV) := @List.rec En (fun _ => Option (En × AV)) none (fun x _ ih => @Bool.rec (fun _ => Option (En × AV)) ih (match light3 T ops h f x.o with
  | some r => some (x, r)
  | none => ih) (x.fr && rdyE L x)) l
noncomputable def evDrawn3 (ops : Array Oper) (M : List Nat) : Nat → List (Nat × AV) → List En → Nat → TF → St → Option (List (TF × St))
  | 0, pend, un, L, f, st => match pend3 T ops pend f st.h && (un.filter (rdyE L)).isEmpty with
    | true => some [(f, st)]
    | false => none
  | fuel + 1, pend, un, L, f, st =>
    match pick3 T ops L st.h f un with
    | some (x, r) => evDrawn3 ops M fuel ((x.i, r) :: pend) (dropE x.i un) (Nat.lor (1 <<< x.i) L) (putF (compD x.o.dst) f r) st
    | none => match pend3 T ops pend f st.h with
      | false => none
      | true => match un.filter (rdyE L) with
        | [] => some [(f, st)]
        | y :: ys => bind3 (y :: ys) fun x => match light3 T ops st.h f x.o with
          | some r => evDrawn3 ops M fuel (dropP M x.i pend) (dropE x.i un) (Nat.lor (1 <<< x.i) L) (putF (compD x.o.dst) f r) st
          | none => match want3 ops f x.o with
            | true => match heavy3 T X call st f x.o with
              | some outs => bind3 outs fun z => evDrawn3 ops M fuel (dropP M x.i pend) (dropE x.i un) (Nat.lor (1 <<< x.i) L) (putF (compD x.o.dst) f z.1) z.2
              | none => none
            | false => none

variable {T X call}
theorem pend3_eq (ops : Array Oper) (pend : List (Nat × AV)) (f : TF) (h : Hp) : pend3 T ops pend f h = pendOkT T ops pend f h := by
  unfold pend3 pendOkT
  simp only [light3_eq]
  rfl
theorem pick3_eq (ops : Array Oper) (L : Nat) (h : Hp) (f : TF) : ∀ l : List En, pick3 T ops L h f l = pickE T ops L h f l
  | [] => rfl
  | x :: l => by
    have ih := pick3_eq ops L h f l
    show @Bool.rec (fun _ => Option (En × AV)) (pick3 T ops L h f l) (match light3 T ops h f x.o with
      | some r => some (x, r)
      | none => pick3 T ops L h f l) (x.fr && rdyE L x) = _
    rw [ih, light3_eq, pickE]
    cases x.fr && rdyE L x <;> rfl
theorem evDrawn3_eq (ops : Array Oper) (M : List Nat) : ∀ (fuel : Nat) (pend : List (Nat × AV)) (un : List En) (L : Nat) (f : TF) (st : St), evDrawn3 T X call ops M fuel pend un L f st = evDrawn2 T X call ops M fuel pend un L f st
  | 0, pend, un, L, f, st => by
    simp only [evDrawn3, evDrawn2, pend3_eq]
    rfl
  | fuel + 1, pend, un, L, f, st => by
    simp only [evDrawn3, evDrawn2, pend3_eq, pick3_eq, light3_eq, heavy3_eq, want3_eq, putF_eq, bind3_eq, evDrawn3_eq ops M fuel]
    rfl
end

/-- The numbers of a frame, as a list. -/
noncomputable def mapL {α β : Type} (g : α → β) (l : List α) : List β := @List.rec α (fun _ => List β) [] (fun a _ ih => g a :: ih) l
theorem mapL_eq {α β : Type} (g : α → β) : ∀ l : List α, mapL g l = l.map g
  | [] => rfl
  | a :: l => by show g a :: mapL g l = _; rw [mapL_eq g l]; rfl
noncomputable def tsL (f : TF) : List AV := match Nat.ble f.len 1048575 with
  | true => mapL (fun i => goP (pth i) f.t) (List.range f.len)
  | false => f.abs.ts
theorem tsL_eq (f : TF) : tsL f = f.abs.ts := by
  unfold tsL
  split
  · rename_i hb
    have hb := Nat.le_of_ble_eq_true hb
    rw [mapL_eq]
    show _ = (List.range f.len).map f.t.get
    refine List.map_congr_left fun i hi => ?_
    have := List.mem_range.1 hi
    rw [pth, goP_eq 20 f.t i (by omega)]
  · rfl

/-! ### Loops of ranges over functions -/
noncomputable def loopQ (st : St) (id : Nat) : Option ALoop := match hget st.h id with
  | some (.loop r) => some r
  | _ => none
theorem loopQ_eq (st : St) (id : Nat) : loopQ st id = loopAt st id := by
  unfold loopQ loopAt
  rw [hget_eq]
  cases st.h.get id with
  | none => rfl
  | some o => cases o <;> rfl
noncomputable def setQ (st : St) (id : Nat) (r : ALoop) : St := ⟨hset st.h id (.loop r), st.n⟩
theorem setQ_eq (st : St) (id : Nat) (r : ALoop) : setQ st id r = setLoop st id r := by unfold setQ setLoop; rw [hset_eq]
noncomputable def rangeQ (lid : Nat) (f : TF) (st : St) : Option (List Out2) :=
  match loopQ st lid with
  | none => none
  | some r => match r.state with
    | .busy => none
    | _ => match r.pending with
      | none => some [(.normal, f, setQ st lid { r with state := .exhausted })]
      | some c => match jumpE c with
        | some e => some [(e, f, setQ st lid { r with state := .exhausted })]
        | none => none
theorem rangeQ_eq (lid : Nat) (f : TF) (st : St) : rangeQ lid f st = rangeT lid f st := by
  unfold rangeQ rangeT
  simp only [loopQ_eq, setQ_eq]
  cases loopAt st lid with
  | none => rfl
  | some r =>
    simp only
    cases r.state <;> simp only
    all_goals (cases r.pending with
      | none => rfl
      | some c => simp only; cases jumpE c <;> rfl)

/-! ### Code -/
def map3 (o : Option (List (TF × St))) : Option (List Out2) := match o with
  | some [x] => some [(.normal, x.1, x.2)]
  | some l => some (l.map normT)
  | none => none
theorem map3_eq (o : Option (List (TF × St))) : map3 o = o.map fun l => l.map normT := by
  unfold map3
  split
  · rfl
  · rfl
  · rfl
noncomputable def iter3 (body : TF → St → Option (List Out2)) (n : Nat) : TF → St → Option (List Out2) := @Nat.rec (fun _ => TF → St → Option (List Out2)) (fun _ _ => none) (fun _ ih f st => match body f st with
  | none => none
  | some outs => bind3 outs fun x => match x with
    | (.normal, f', st') => ih f' st'
    | (e, f', st') => some [(e, f', st')]) n
theorem iter3_eq {b1 b2 : TF → St → Option (List Out2)} (h : ∀ f st, b1 f st = b2 f st) : ∀ (n : Nat) (f : TF) (st : St), iter3 b1 n f st = iterT b2 n f st
  | 0, f, st => rfl
  | n + 1, f, st => by
    have ih : ∀ f st, iter3 b1 n f st = iterT b2 n f st := iter3_eq h n
    show (match b1 f st with
      | none => none
      | some outs => bind3 outs fun x => match x with
        | (.normal, f', st') => iter3 b1 n f' st'
        | (e, f', st') => some [(e, f', st')]) = _
    rw [h]
    simp only [iterT, bind3_eq, ih]
    rfl

def seq3 (oa : Option (List Out2)) (kb : TF → St → Option (List Out2)) : Option (List Out2) := match oa with
  | none => none
  | some outs => bind3 outs fun x => match x with
    | (.normal, f', st') => kb f' st'
    | (e, f', st') => some [(e, f', st')]
noncomputable def cond3 (c : Operand) (ka kb : TF → St → Option (List Out2)) (f : TF) (st : St) : Option (List Out2) := match compA c with
  | some a => match a.ev f with
    | .lit (.bool true) => ka f st
    | .lit (.bool false) => kb f st
    | _ => none
  | none => match f.av c with
    | .lit (.bool true) => ka f st
    | .lit (.bool false) => kb f st
    | _ => none
theorem cond3_eq (c : Operand) (ka kb : TF → St → Option (List Out2)) (f : TF) (st : St) : cond3 c ka kb f st = match f.av c with
    | .lit (.bool true) => ka f st
    | .lit (.bool false) => kb f st
    | _ => none := by
  unfold cond3
  split
  · rename_i a ha
    rw [compA_ok ha]
  · rfl
def block3 (id : Nat) (oc : Option (List Out2)) : Option (List Out2) := match oc with
  | none => none
  | some [x] => some [blockT id x]
  | some outs => some (outs.map (blockT id))
def scope3 (oc : Option (List Out2)) : Option (List Out2) := match oc with
  | none => none
  | some outs => match outs.all notGoto with
    | true => some outs
    | false => none

section
variable (T : Ti) (X : St → (Operand → AV) → Oper → Option (List (AV × St))) (call : CallE) (L : Nat)
noncomputable def region3 (ops : Array Oper) (draw : Bool) (f : TF) (st : St) : Option (List Out2) := match draw with
  | true => (evDrawn3 T X call ops (masks ops) ops.size [] (infoL ops (masks ops)) 0 f st).map fun l => (mergeF st.n l).map normT
  | false => map3 (evOps3 T X call ops ops.toList f st)
noncomputable def range3 (rd : Option Nat) (g : Operand) (ps : Array Tmp) (assign body : Code) (f : TF) (st : St) : Option (List Out2) := match f.av g with
  | .fn (.func gf) first caps => match rd with
    | none => match call (.fn (.func gf) first caps) [.yld (st.n + 1)] ((st.push .dfr).push (.loop { state := .ready, pending := none, tmps := tsL f, params := ps, assign, body, dfid := st.n })) with
      | none => none
      | some outs => bind3 outs fun x => rangeQ (st.n + 1) { f with dm := st.n :: f.dm } x.2
    | some id0 => match loopQ st id0 with
      | none => none
      | some r0 => match call (.fn (.func gf) first caps) [.yld st.n] (st.push (.loop { state := .ready, pending := none, tmps := tsL f, params := ps, assign, body, dfid := r0.dfid })) with
        | none => none
        | some outs => bind3 outs fun x => rangeQ st.n f x.2
  | _ => none
noncomputable def evC3 (rd : Option Nat) (c : Code) : TF → St → Option (List Out2) := @Code.rec (fun _ => TF → St → Option (List Out2))
  (fun f st => some [(.normal, f, st)])
  (fun _ ops draw => region3 T X call ops draw)
  (fun _ _ iha ihb f st => seq3 (iha f st) ihb)
  (fun c _ _ iha ihb => cond3 c iha ihb)
  (fun id _ ih f st => block3 id (ih f st))
  (fun _ ih => iter3 ih L)
  (fun g ps assign body _ _ => range3 call rd g ps assign body)
  (fun id f st => some [(.exit id, f, st)])
  (fun _ ih f st => scope3 (ih f st))
  (fun _ f st => some [(.normal, f, st)])
  (fun _ _ _ => none)
  (fun f st => some [(.ret, f, st)])
  (fun _ _ _ => none) c

variable {T X call L}
theorem evC3_eq (rd : Option Nat) : ∀ (c : Code) (f : TF) (st : St), evC3 T X call L rd c f st = evCode2 T X call L rd c f st := by
  intro c
  induction c with
  | skip => intro f st; rfl
  | label l => intro f st; rfl
  | exit id => intro f st; rfl
  | ret => intro f st; rfl
  | goto l => intro f st; rfl
  | refuse w => intro f st; rfl
  | scope c ih =>
    intro f st
    show scope3 (evC3 T X call L rd c f st) = _
    rw [ih]
    simp only [evCode2, scope3]
    rfl
  | seq a b iha ihb =>
    intro f st
    show seq3 (evC3 T X call L rd a f st) (evC3 T X call L rd b) = _
    rw [iha]
    simp only [evCode2, seq3, bind3_eq, ihb]
    rfl
  | cond c a b iha ihb =>
    intro f st
    show cond3 c (evC3 T X call L rd a) (evC3 T X call L rd b) f st = _
    rw [cond3_eq]
    simp only [evCode2, iha, ihb]
    rfl
  | block id c ih =>
    intro f st
    show block3 id (evC3 T X call L rd c f st) = _
    rw [ih]
    simp only [evCode2, block3]
    split <;> simp_all
  | loop c ih =>
    intro f st
    show iter3 (evC3 T X call L rd c) L f st = _
    rw [iter3_eq ih]
    rfl
  | region id ops draw =>
    intro f st
    show region3 T X call ops draw f st = _
    cases draw with
    | true => simp only [region3, evCode2, evDrawn3_eq]
    | false => simp only [region3, evCode2, map3_eq, evOps3_eq]
  | rangeFunc g ps assign body iha ihb =>
    intro f st
    show range3 call rd g ps assign body f st = _
    simp only [range3, evCode2, bind3_eq, rangeQ_eq, loopQ_eq, tsL_eq]
    rfl
end
end Go.Ev
