/-
  THE EVALUATOR, MADE QUICK: heavy operations, lists of operations. Own work of the verifier of watercress.
-/
import Derived.Test.YtmoimpajiajacaaEvKc
namespace Go.Ev

inductive Kh where
  | al (cs : List AV)
  | bx (x : Ar)
  | sr (n : Nat) (p v : Ar)
  | cl (g : Ar) (as : List Ar)
  | gen

section
variable (T : Ti)
def compH (o : Op) : Kh := match o with
  | .alloc e => match T e with
    | some i => .al (i.zero.map .lit)
    | none => .gen
  | .box _ x => match compA x with
    | some a => .bx a
    | none => .gen
  | .store t p v => match compA p, compA v, T t with
    | some a, some b, some i => .sr i.size a b
    | _, _, _ => .gen
  | .call c => match c.callee with
    | .value g => match compA g, compL c.args.toList with
      | some a, some as => .cl a as
      | _, _ => .gen
    | _ => .gen
  | _ => .gen
end

def oneF (a : AV) : Bool := match a with
  | .lit (.int _ _) => true
  | .lit (.bool _) => true
  | a => a.one
theorem oneF_eq (a : AV) : oneF a = a.one := by
  cases a with
  | lit v => cases v <;> rfl
  | _ => rfl
noncomputable def storeF (st : St) (n : Nat) (p v : AV) : Option St := match p with
  | .ptr id off => match hget st.h id with
    | some (.cells none false cs) => match Nat.beq (lenL (cellsF v)) n && (Nat.ble (off + n) (lenL cs) && allL oneF (cellsF v)) with
      | true => some ⟨hset st.h id (.cells none false (setsF (cellsF v) cs off)), st.n⟩
      | false => none
    | _ => none
  | _ => none
theorem allOne_eq : ∀ l : List AV, allL oneF l = l.all AV.one := fun l => by
  rw [allL_eq, show oneF = AV.one from funext oneF_eq]
theorem storeF_eq {T : Ti} {t : TypeId} {i : TI} (h : T t = some i) (st : St) (p v : AV) : storeF st i.size p v = storeA T st t p v := by
  unfold storeF storeA
  cases p with
  | ptr id off =>
    simp only [h, hget_eq]
    cases st.h.get id with
    | none => rfl
    | some o =>
      cases o with
      | cells fam ro cs =>
        cases fam with
        | some f => rfl
        | none =>
          cases ro with
          | true => rfl
          | false =>
            simp only [lenL_eq, allOne_eq, cellsF_eq, setsF_eq, hset_eq]
            by_cases hc : v.cells.length = i.size ∧ off + i.size ≤ cs.length ∧ v.cells.all AV.one
            · rw [if_pos hc, hc.1, Nat.beq_refl, Nat.ble_eq_true_of_le hc.2.1, hc.2.2]
              rfl
            · rw [if_neg hc]
              split
              · rename_i hq
                simp only [Bool.and_eq_true] at hq
                exact absurd ⟨Nat.eq_of_beq_eq_true hq.1, Nat.le_of_ble_eq_true hq.2.1, hq.2.2⟩ hc
              · rfl
      | _ => rfl
  | _ => rfl

section
variable (T : Ti) (X : St → (Operand → AV) → Oper → Option (List (AV × St))) (call : CallE)
noncomputable def runH (st : St) (f : TF) (o : Oper) (k : Kh) : Option (List (AV × St)) := match k with
  | .al cs => some [(.ptr st.n 0, ⟨(st.n, .cells none false cs) :: st.h, st.n + 1⟩)]
  | .bx x => some [(.ptr st.n 0, ⟨(st.n, .cells none false (cellsF (x.ev f))) :: st.h, st.n + 1⟩)]
  | .sr n p v => match storeF st n (p.ev f) (v.ev f) with
    | some s => some [(undA, s)]
    | none => X st f.av o
  | .cl g as => call (g.ev f) (evL3 f as) st
  | .gen => heavy T X call st f.av o
noncomputable def heavy3 (st : St) (f : TF) (o : Oper) : Option (List (AV × St)) := runH T X call st f o (compH T o.op)

variable {T X call}
theorem heavy3_eq (st : St) (f : TF) (o : Oper) : heavy3 T X call st f o = heavy T X call st f.av o := by
  unfold heavy3
  have gen : runH T X call st f o .gen = heavy T X call st f.av o := rfl
  obtain ⟨dst, op, ty, pos, after, guard⟩ := o
  cases op with
  | alloc e =>
    simp only [compH]
    split
    · rename_i i hi
      simp only [runH, heavy, evF, hi, Option.map_some]
      rfl
    · exact gen
  | box t x =>
    simp only [compH]
    split
    · rename_i a ha
      simp only [runH, heavy, evF, Option.map_some, compA_ok ha, cellsF_eq]
      rfl
    · exact gen
  | store t p v =>
    simp only [compH]
    split
    · rename_i a b i ha hb hi
      simp only [runH, heavy, storeO, compA_ok ha, compA_ok hb, storeF_eq hi]
      cases storeA T st t (f.av p) (f.av v) <;> rfl
    · exact gen
  | call c =>
    simp only [compH]
    split
    · rename_i g hg
      split
      · rename_i a as ha hb
        simp only [runH, heavy, hg, compA_ok ha, compL_ok hb]
      · exact gen
    · exact gen
  | _ => exact gen
end

/-! ### One outcome, mostly -/
def bind3 {α β : Type} (l : List α) (g : α → Option (List β)) : Option (List β) := match l with
  | [x] => g x
  | l => bindL l g
theorem bind3_eq {α β : Type} (l : List α) (g : α → Option (List β)) : bind3 l g = bindL l g := by
  unfold bind3
  split
  · rename_i x
    simp only [bindL]
    cases g x <;> simp
  · rfl

section
variable (T : Ti) (X : St → (Operand → AV) → Oper → Option (List (AV × St))) (call : CallE)
noncomputable def stepL (ops : Array Oper) (o : Oper) (ih : TF → St → Option (List (TF × St))) (f : TF) (st : St) : Option (List (TF × St)) := match light3 T ops st.h f o with
  | some r => ih (putF (compD o.dst) f r) st
  | none => match plainB o && want3 ops f o with
    | true => match heavy3 T X call st f o with
      | some outs => bind3 outs fun x => ih (putF (compD o.dst) f x.1) x.2
      | none => none
    | false => none
noncomputable def evOps3 (ops : Array Oper) (l : List Oper) : TF → St → Option (List (TF × St)) := @List.rec Oper (fun _ => TF → St → Option (List (TF × St))) (fun f st => some [(f, st)]) (fun o _ ih => stepL T X call ops o ih) l

variable {T X call}
theorem evOps3_eq (ops : Array Oper) : ∀ (l : List Oper) (f : TF) (st : St), evOps3 T X call ops l f st = evOps2 T X call ops l f st
  | [], f, st => rfl
  | o :: l, f, st => by
    have hih : ∀ f st, evOps3 T X call ops l f st = evOps2 T X call ops l f st := evOps3_eq ops l
    show stepL T X call ops o (evOps3 T X call ops l) f st = _
    simp only [stepL, evOps2, light3_eq, heavy3_eq, want3_eq, putF_eq, bind3_eq, hih]
    rfl
end
end Go.Ev
