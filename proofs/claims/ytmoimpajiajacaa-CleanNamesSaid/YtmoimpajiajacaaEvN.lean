/-
  FRAMES AS TREES: what is asked of a frame is found in few steps. Own work of the verifier of watercress.
-/
import Derived.Test.YtmoimpajiajacaaEvM
namespace Go.Ev

inductive Tr where
  | nil
  | node (v : AV) (l r : Tr)

def Tr.get : Tr → Nat → AV
  | .nil, _ => undA
  | .node v l r, i => match Nat.beq i 0 with
    | true => v
    | false => match Nat.beq (i % 2) 1 with
      | true => l.get (i / 2)
      | false => r.get (i / 2 - 1)

def Tr.set : Nat → Tr → Nat → AV → Tr
  | 0, t, _, _ => t
  | n + 1, .nil, i, x => match Nat.beq i 0 with
    | true => .node x .nil .nil
    | false => match Nat.beq (i % 2) 1 with
      | true => .node undA (Tr.set n .nil (i / 2) x) .nil
      | false => .node undA .nil (Tr.set n .nil (i / 2 - 1) x)
  | n + 1, .node v l r, i, x => match Nat.beq i 0 with
    | true => .node x l r
    | false => match Nat.beq (i % 2) 1 with
      | true => .node v (Tr.set n l (i / 2) x) r
      | false => .node v l (Tr.set n r (i / 2 - 1) x)

theorem Tr.get_set : ∀ (n : Nat) (t : Tr) (i j : Nat) (x : AV), i + 1 < 2 ^ n → (Tr.set n t i x).get j = if j = i then x else t.get j := by
  intro n
  induction n with
  | zero => intro t i j x h; simp at h
  | succ n ih =>
    intro t i j x h
    have hp : 2 ^ (n + 1) = 2 * 2 ^ n := by rw [Nat.pow_succ]; omega
    rw [hp] at h
    have key : ∀ (v : AV) (l r : Tr), (match Nat.beq i 0 with
        | true => Tr.node x l r
        | false => match Nat.beq (i % 2) 1 with
          | true => .node v (Tr.set n l (i / 2) x) r
          | false => .node v l (Tr.set n r (i / 2 - 1) x)).get j = if j = i then x else (Tr.node v l r).get j := by
      intro v l r
      cases hi : Nat.beq i 0 with
      | true =>
        have hi := Nat.eq_of_beq_eq_true hi
        subst hi
        simp only [Tr.get]
        cases hj : Nat.beq j 0 with
        | true => have hj := Nat.eq_of_beq_eq_true hj; subst hj; simp
        | false => have hj := Nat.ne_of_beq_eq_false hj; simp [hj]
      | false =>
        have hi := Nat.ne_of_beq_eq_false hi
        cases hm : Nat.beq (i % 2) 1 with
        | true =>
          have hm := Nat.eq_of_beq_eq_true hm
          simp only [Tr.get]
          cases hj : Nat.beq j 0 with
          | true => have hj := Nat.eq_of_beq_eq_true hj; subst hj; simp [Ne.symm hi]
          | false =>
            have hj := Nat.ne_of_beq_eq_false hj
            cases hq : Nat.beq (j % 2) 1 with
            | true =>
              have hq := Nat.eq_of_beq_eq_true hq
              simp only
              rw [ih _ _ _ _ (by omega)]
              by_cases hji : j = i
              · simp [hji]
              · rw [if_neg (by omega), if_neg hji]
            | false =>
              have hq := Nat.ne_of_beq_eq_false hq
              simp only
              rw [if_neg (by intro e; subst e; exact hq hm)]
        | false =>
          have hm := Nat.ne_of_beq_eq_false hm
          simp only [Tr.get]
          cases hj : Nat.beq j 0 with
          | true => have hj := Nat.eq_of_beq_eq_true hj; subst hj; simp [Ne.symm hi]
          | false =>
            have hj := Nat.ne_of_beq_eq_false hj
            cases hq : Nat.beq (j % 2) 1 with
            | true =>
              have hq := Nat.eq_of_beq_eq_true hq
              simp only
              rw [if_neg (by intro e; subst e; exact hm hq)]
            | false =>
              have hq := Nat.ne_of_beq_eq_false hq
              simp only
              rw [ih _ _ _ _ (by omega)]
              by_cases hji : j = i
              · simp [hji]
              · rw [if_neg (by omega), if_neg hji]
    cases t with
    | nil =>
      have h0 : ∀ j, (Tr.node undA .nil .nil).get j = Tr.nil.get j := fun j => by
        by_cases h1 : Nat.beq j 0 = true <;> by_cases h2 : Nat.beq (j % 2) 1 = true <;> simp only [Tr.get, h1, h2]
      have := key undA .nil .nil
      rw [h0] at this
      exact this
    | node v l r => exact key v l r

structure TF where
  t : Tr
  len : Nat
  dm : List Nat

def TF.abs (f : TF) : Fm := ⟨(List.range f.len).map f.t.get, f.dm⟩

def bigT : Nat := 1048575

def TF.put (f : TF) (dst : Option Tmp) (v : AV) : TF :=
  match dst with
  | none => f
  | some d => match Nat.blt d f.len with
    | true => ⟨Tr.set 20 f.t d v, f.len, f.dm⟩
    | false => f

/-- A frame is small. -/
def TF.ok (f : TF) : Prop := f.len ≤ bigT

theorem TF.put_len (f : TF) (dst : Option Tmp) (v : AV) : (f.put dst v).len = f.len := by
  unfold TF.put
  cases dst with
  | none => rfl
  | some d => simp only; split <;> rfl

theorem TF.put_ok {f : TF} (h : f.ok) (dst : Option Tmp) (v : AV) : (f.put dst v).ok := by unfold TF.ok; rw [TF.put_len]; exact h

theorem TF.abs_put {f : TF} (h : f.ok) (dst : Option Tmp) (v : AV) : (f.put dst v).abs = f.abs.put dst v := by
  cases dst with
  | none => rfl
  | some d =>
    unfold TF.put
    simp only
    cases hd : Nat.blt d f.len with
    | true =>
      have hd : d < f.len := Nat.le_of_ble_eq_true hd
      simp only [TF.abs, Fm.put]
      congr 1
      apply List.ext_getElem
      · simp
      · intro i h1 h2
        simp only [List.length_map, List.length_range] at h1
        rw [List.getElem_map, List.getElem_range, Tr.get_set 20 f.t d i v (Nat.lt_of_lt_of_le (Nat.succ_lt_succ hd) (by unfold TF.ok bigT at h; omega)), List.getElem_set]
        by_cases hi : i = d
        · subst hi; simp
        · rw [if_neg hi, if_neg (Ne.symm hi)]; simp
    | false =>
      have hd : ¬ d < f.len := fun hlt => by
        have : Nat.blt d f.len = true := Nat.ble_eq_true_of_le hlt
        rw [this] at hd; cases hd
      simp only [TF.abs, Fm.put]
      congr 1
      exact (List.set_eq_of_length_le (by simpa using hd)).symm

def TF.at (f : TF) (d : Nat) : AV := match Nat.blt d f.len with
  | true => f.t.get d
  | false => undA

theorem TF.at_eq (f : TF) (d : Nat) : f.abs.ts.getD d undA = f.at d := by
  unfold TF.at TF.abs
  cases hd : Nat.blt d f.len with
  | true =>
    have hd : d < f.len := Nat.le_of_ble_eq_true hd
    simp [List.getD_eq_getElem?_getD, hd]
  | false =>
    have hd : ¬ d < f.len := fun hlt => by
      have : Nat.blt d f.len = true := Nat.ble_eq_true_of_le hlt
      rw [this] at hd; cases hd
    simp only [List.getD_eq_getElem?_getD]
    rw [List.getElem?_eq_none (by simpa using hd)]
    rfl

def TF.av (f : TF) : Operand → AV
  | .tmp t => f.at t
  | .const v => ofV v
  | .global g => .lit (.pointer (some ⟨g, 0, none⟩))
  | .func g => .fn (.func g) [] []

theorem TF.av_eq (f : TF) : Operand.av f.abs.ts = f.av := by
  funext x
  cases x with
  | tmp t => exact f.at_eq t
  | _ => rfl

def TF.y (ops : Array Oper) (f : TF) (j : Nat) : Option Bool :=
  match (ops[j]?).bind (·.dst) with
  | none => none
  | some d => match Nat.blt d f.len with
    | true => match f.t.get d with
      | .lit (.bool b) => some b
      | _ => none
    | false => none

theorem TF.y_eq (ops : Array Oper) (f : TF) : yA ops f.abs.ts = f.y ops := by
  funext j
  unfold yA TF.y
  cases hd : (ops[j]?).bind (·.dst) with
  | none => rfl
  | some d =>
    simp only [Option.bind_some]
    cases hb : Nat.blt d f.len with
    | true =>
      have hlt : d < f.len := Nat.le_of_ble_eq_true hb
      have : f.abs.ts[d]? = some (f.t.get d) := by simp [TF.abs, hlt]
      rw [this]
      simp only
      split
      · rename_i b hq; simp only [Option.some.injEq] at hq; rw [hq]
      · rename_i hq
        split
        · rename_i b hq2; exact absurd (by rw [hq2]) (hq b)
        · rfl
    | false =>
      have hlt : ¬ d < f.len := fun hlt => by
        have : Nat.blt d f.len = true := Nat.ble_eq_true_of_le hlt
        rw [this] at hb; cases hb
      have : f.abs.ts[d]? = none := List.getElem?_eq_none (by simpa [TF.abs] using hlt)
      rw [this]

def Tr.fill : Nat → List AV → Tr → Tr
  | _, [], t => t
  | i, v :: l, t => Tr.fill (i + 1) l (Tr.set 20 t i v)

theorem Tr.get_fill : ∀ (l : List AV) (i : Nat) (t : Tr) (j : Nat), i + l.length ≤ bigT → (Tr.fill i l t).get j = if i ≤ j ∧ j < i + l.length then l.getD (j - i) undA else t.get j
  | [], i, t, j, _ => by
    rw [if_neg (by simp)]; rfl
  | v :: l, i, t, j, h => by
    simp only [List.length_cons] at h
    simp only [Tr.fill]
    rw [Tr.get_fill l (i + 1) _ j (by omega), Tr.get_set 20 t i j v (by unfold bigT at h; omega)]
    simp only [List.length_cons]
    by_cases hj : j = i
    · subst hj
      rw [if_neg (by omega), if_pos rfl, if_pos (by omega)]
      simp
    · by_cases h2 : i + 1 ≤ j ∧ j < i + 1 + l.length
      · rw [if_pos h2, if_pos (by omega)]
        have : j - i = (j - (i + 1)) + 1 := by omega
        rw [this]; simp
      · rw [if_neg h2, if_neg hj, if_neg (by omega)]

/-- A frame out of a list, filled up to a length. -/
def TF.of (l : List AV) (n : Nat) : TF := ⟨Tr.fill 0 l .nil, max l.length n, []⟩

theorem TF.abs_of {l : List AV} {n : Nat} (h : max l.length n ≤ bigT) : (TF.of l n).abs = ⟨l ++ List.replicate (n - l.length) undA, []⟩ := by
  unfold TF.of TF.abs
  simp only
  congr 1
  apply List.ext_getElem
  · simp; omega
  · intro i h1 h2
    simp only [List.length_map, List.length_range] at h1
    rw [List.getElem_map, List.getElem_range, Tr.get_fill l 0 .nil i (by omega)]
    by_cases hi : i < l.length
    · rw [if_pos (by omega), List.getElem_append_left hi]
      simp [List.getD_eq_getElem?_getD, hi]
    · rw [if_neg (by omega), List.getElem_append_right (by omega)]
      simp [Tr.get]

theorem TF.of_ok {l : List AV} {n : Nat} (h : max l.length n ≤ bigT) : (TF.of l n).ok := h

end Go.Ev
