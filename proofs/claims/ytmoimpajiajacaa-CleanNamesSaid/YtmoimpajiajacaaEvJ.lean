/-
  AN EVALUATOR OF CODE over abstract frames and heaps, with all its outcomes, and that it is right. Own work of the verifier of watercress.
-/
import Derived.Test.YtmoimpajiajacaaEvI
namespace Go.Ev

def bindL {α β : Type} : List α → (α → Option (List β)) → Option (List β)
  | [], _ => some []
  | a :: r, g => match g a with
    | none => none
    | some x => match bindL r g with
      | none => none
      | some y => some (x ++ y)

theorem bindL_ok {α β : Type} {g : α → Option (List β)} : ∀ {l : List α} {res : List β}, bindL l g = some res → ∀ a ∈ l, ∃ x, g a = some x ∧ ∀ b ∈ x, b ∈ res
  | [], _, _, a, ha => by cases ha
  | a0 :: r, res, h, a, ha => by
    simp only [bindL] at h
    split at h
    · cases h
    · rename_i x hx
      split at h
      · cases h
      · rename_i y hy
        cases h
        rcases List.mem_cons.1 ha with rfl | ha
        · exact ⟨x, hx, fun b hb => List.mem_append_left _ hb⟩
        · obtain ⟨x', h1, h2⟩ := bindL_ok hy a ha
          exact ⟨x', h1, fun b hb => List.mem_append_right _ (h2 b hb)⟩

/-! ### Equality, as far as it is needed -/
def litEq : Value → Value → Bool
  | .bool a, .bool b => a == b
  | .int k a, .int j b => k == j && a == b
  | .pointer none, .pointer none => true
  | .slice none a b, .slice none c d => a == c && b == d
  | .map none, .map none => true
  | .nilFunc, .nilFunc => true
  | .pointer (some a), .pointer (some b) => a == b
  | .tuple a, .tuple b => Nat.beq a.size 0 && Nat.beq b.size 0
  | _, _ => false

theorem litEq_ok {a b : Value} (h : litEq a b = true) : a = b := by
  unfold litEq at h
  split at h
  case h_8 a b =>
    simp only [Bool.and_eq_true] at h
    rw [Array.eq_empty_of_size_eq_zero (Nat.eq_of_beq_eq_true h.1), Array.eq_empty_of_size_eq_zero (Nat.eq_of_beq_eq_true h.2)]
  all_goals simp_all

mutual
def avEq : AV → AV → Bool
  | .lit a, .lit b => litEq a b
  | .ptr a b, .ptr c d => a == c && b == d
  | .sl a b c d e, .sl a' b' c' d' e' => a == a' && b == b' && c == c' && d == d' && e == e'
  | .mp a, .mp b => a == b
  | .yld a, .yld b => a == b
  | .fn f a b, .fn g c d => f == g && avsEq a c && avsEq b d
  | .agg a, .agg b => avsEq a b
  | .tup a, .tup b => avsEq a b
  | _, _ => false
def avsEq : List AV → List AV → Bool
  | [], [] => true
  | a :: r, b :: s => avEq a b && avsEq r s
  | _, _ => false
end

mutual
theorem avEq_ok : ∀ {a b : AV}, avEq a b = true → a = b := by
  intro a b h
  unfold avEq at h
  split at h
  · rw [litEq_ok h]
  · simp_all
  · simp_all
  · simp_all
  · simp_all
  · simp only [Bool.and_eq_true, beq_iff_eq] at h
    rw [h.1.1, avsEq_ok h.1.2, avsEq_ok h.2]
  · rw [avsEq_ok h]
  · rw [avsEq_ok h]
  · cases h
theorem avsEq_ok : ∀ {a b : List AV}, avsEq a b = true → a = b := by
  intro a b h
  unfold avsEq at h
  split at h
  · rfl
  · simp only [Bool.and_eq_true] at h
    rw [avEq_ok h.1, avsEq_ok h.2]
  · cases h
end

def esEq : List (AV × AV × Nat) → List (AV × AV × Nat) → Bool
  | [], [] => true
  | x :: r, y :: s => avEq x.1 y.1 && avEq x.2.1 y.2.1 && Nat.beq x.2.2 y.2.2 && esEq r s
  | _, _ => false
theorem esEq_ok : ∀ {a b : List (AV × AV × Nat)}, esEq a b = true → a = b
  | [], [], _ => rfl
  | (k, v, n) :: r, (k', v', n') :: s, h => by
    simp only [esEq, Bool.and_eq_true] at h
    rw [avEq_ok h.1.1.1, avEq_ok h.1.1.2, Nat.eq_of_beq_eq_true h.1.2, esEq_ok h.2]
  | [], _ :: _, h => by cases h
  | _ :: _, [], h => by cases h

def objEq : AObj → AObj → Bool
  | .cells a b c, .cells d e f => a == d && b == e && avsEq c f
  | .dfr, .dfr => true
  | .map a c, .map b d => esEq a b && Nat.beq c d
  | _, _ => false
theorem objEq_ok {a b : AObj} (h : objEq a b = true) : a = b := by
  unfold objEq at h
  split at h
  · simp only [Bool.and_eq_true, beq_iff_eq] at h
    rw [h.1.1, h.1.2, avsEq_ok h.2]
  · rfl
  · simp only [Bool.and_eq_true] at h
    rw [esEq_ok h.1, Nat.eq_of_beq_eq_true h.2]
  · cases h
def hpEq : Hp → Hp → Bool
  | [], [] => true
  | (i, o) :: r, (j, p) :: s => i == j && objEq o p && hpEq r s
  | _, _ => false
theorem hpEq_ok : ∀ {a b : Hp}, hpEq a b = true → a = b
  | [], [], _ => rfl
  | (i, o) :: r, (j, p) :: s, h => by
    simp only [hpEq, Bool.and_eq_true, beq_iff_eq] at h
    rw [h.1.1, objEq_ok h.1.2, hpEq_ok h.2]
  | [], _ :: _, h => by cases h
  | _ :: _, [], h => by cases h
def stEq (a b : St) : Bool := a.n == b.n && hpEq a.h b.h
theorem stEq_ok {a b : St} (h : stEq a b = true) : a = b := by
  simp only [stEq, Bool.and_eq_true, beq_iff_eq] at h
  cases a; cases b; simp only at h; rw [h.1, hpEq_ok h.2]

/-- Each outcome once. -/
def dedup : List (AV × St) → List (AV × St)
  | [] => []
  | [x] => [x]
  | x :: r => let r' := dedup r; if r'.any fun y => avEq x.1 y.1 && stEq x.2 y.2 then r' else x :: r'
theorem mem_dedup : ∀ {l : List (AV × St)} {x : AV × St}, x ∈ l → x ∈ dedup l
  | [y], x, h => h
  | y :: z :: r, x, h => by
    simp only [dedup]
    split
    · rename_i hany
      rcases List.mem_cons.1 h with rfl | h
      · rw [List.any_eq_true] at hany
        obtain ⟨y, hy, he⟩ := hany
        simp only [Bool.and_eq_true] at he
        have h1 := avEq_ok he.1
        have h2 := stEq_ok he.2
        have : x = y := by cases x; cases y; simp only at h1 h2; rw [h1, h2]
        rw [this]; exact hy
      · exact mem_dedup h
    · rcases List.mem_cons.1 h with rfl | h
      · exact List.mem_cons_self
      · exact List.mem_cons_of_mem _ (mem_dedup h)
  | [], _, h => by cases h

end Go.Ev
