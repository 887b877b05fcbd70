/- Own work of the verifier of watercress: FzEn4. -/
import Derived.Test.YtpefamheopplnaaMf32
set_option linter.unusedVariables false
set_option linter.unusedSimpArgs false
namespace Go.Fz
open Go.Proofs
set_option maxRecDepth 100000
set_option linter.unusedVariables false
def bitsFr (m : Int) (b : Nat → Bool) : Nat → Int
  | 0 => m
  | j + 1 => if b j then std.bin .or .i64 (bitsFr m b j) (std.bin .shl .i64 1 (std.conv .u64 (Int.ofNat j))) else bitsFr m b j
def orN (x : Nat) (b : Nat → Bool) : Nat → Nat
  | 0 => x
  | j + 1 => if b j then orN x b j ||| 1 <<< j else orN x b j
theorem or_bit : ∀ (x : Fin 1024) (j : Fin 10), std.bin .or .i64 (Int.ofNat x.1) (std.bin .shl .i64 1 (std.conv .u64 (Int.ofNat j.1))) = Int.ofNat (x.1 ||| 1 <<< j.1) := by decide +kernel
theorem orN_lt {x : Nat} (hx : x < 1024) (b : Nat → Bool) : ∀ j, j ≤ 10 → orN x b j < 1024
  | 0, _ => hx
  | j + 1, hj => by
    have ih := orN_lt hx b j (by omega)
    unfold orN
    split
    · refine Nat.or_lt_two_pow (n := 10) ih ?_
      rw [Nat.one_shiftLeft]
      exact Nat.pow_lt_pow_right (by decide) (by omega)
    · exact ih
theorem bitsFr_or {x : Nat} (hx : x < 1024) (b : Nat → Bool) : ∀ j, j ≤ 10 → bitsFr (Int.ofNat x) b j = Int.ofNat (orN x b j)
  | 0, _ => rfl
  | j + 1, hj => by
    have ih := bitsFr_or hx b j (by omega)
    have hl := orN_lt hx b j (by omega)
    unfold bitsFr orN
    split
    · rw [ih]; exact or_bit ⟨_, hl⟩ ⟨j, by omega⟩
    · exact ih
theorem orN_bit (x : Nat) (b : Nat → Bool) (i : Nat) : ∀ n, (orN x b n).testBit i = (x.testBit i || (decide (i < n) && b i))
  | 0 => by simp [orN]
  | n + 1 => by
    have ih := orN_bit x b i n
    unfold orN
    by_cases hb : b n = true
    · rw [if_pos hb, Nat.testBit_or, ih, Nat.one_shiftLeft, Nat.testBit_two_pow]
      by_cases e : n = i
      · subst e; simp [hb]
      · have h1 : decide (n = i) = false := decide_eq_false e
        have h2 : decide (i < n + 1) = decide (i < n) := by
          by_cases h : i < n
          · rw [decide_eq_true h, decide_eq_true (by omega)]
          · rw [decide_eq_false h, decide_eq_false (by omega)]
        rw [h1, h2, Bool.or_false]
    · rw [if_neg hb, ih]
      by_cases e : n = i
      · subst e
        have : b n = false := by simpa using hb
        simp [this]
      · have h2 : decide (i < n + 1) = decide (i < n) := by
          by_cases h : i < n
          · rw [decide_eq_true h, decide_eq_true (by omega)]
          · rw [decide_eq_false h, decide_eq_false (by omega)]
        rw [h2]
def metN (E : Nat → Nat → Bool) : Nat → Nat
  | 0 => 0
  | i + 1 => orN (metN E i) (E i) 10
theorem metN_lt (E : Nat → Nat → Bool) : ∀ L, metN E L < 1024
  | 0 => by show 0 < 1024; omega
  | L + 1 => orN_lt (metN_lt E L) _ 10 (Nat.le_refl _)
theorem metN_bit (E : Nat → Nat → Bool) {j : Nat} (hj : j < 10) : ∀ L, (∃ i, i < L ∧ E i j = true) → (metN E L).testBit j = true
  | 0, ⟨i, h, _⟩ => absurd h (Nat.not_lt_zero i)
  | L + 1, ⟨i, h, he⟩ => by
    show (orN (metN E L) (E L) 10).testBit j = true
    rw [orN_bit]
    rcases Nat.lt_succ_iff_lt_or_eq.1 h with h1 | rfl
    · rw [metN_bit E hj L ⟨i, h1, he⟩]; rfl
    · rw [he, decide_eq_true hj, Bool.and_true, Bool.or_true]
theorem metN_full (E : Nat → Nat → Bool) (L : Nat) (h : ∀ j, j < 10 → ∃ i, i < L ∧ E i j = true) : metN E L = 1023 := by
  apply Nat.eq_of_testBit_eq
  intro j
  rw [show (1023 : Nat) = 2 ^ 10 - 1 from rfl, Nat.testBit_two_pow_sub_one]
  by_cases hj : j < 10
  · rw [decide_eq_true hj]; exact metN_bit E hj L (h j hj)
  · rw [decide_eq_false hj]
    exact Nat.testBit_lt_two_pow (Nat.lt_of_lt_of_le (metN_lt E L) (Nat.pow_le_pow_right (n := 2) (i := 10) (by decide) (by omega)))
set_option maxHeartbeats 16000000 in
theorem en_e (d : DayD) (k : Nat) (hk : k < d.nw) (N v : Int) (M : Nat) (hM : M < 100000) (F S : Nat → Nat → Int) (lo0 hi0 lo1 hi1 lo2 hi2 : Nat → Int) (p q r s t u y z : Int) (g : Nat → AV) (O : Ar) (hO : O = std) (i : Nat) (m : Int) (b : Nat → Bool) (bu le : Nat → Int) (hh ll ff sp : Int) (h : AllP (fun p => g p.1 = p.2) [(3, .ptr 0 0), (7, iV (Int.ofNat k)), (8, iV N), (9, .ptr 1 0), (11, iV v), (13, trsV M d.nw d.nl F S), (14, iV m), (15, iV (Int.ofNat i)), (18, .ptr 3 0)]) :
    SW Try.prog none (restC 4 endB) (midK 237 [(3, .ptr 0 0), (7, iV (Int.ofNat k)), (8, iV N), (9, .ptr 1 0), (11, iV v), (13, trsV M d.nw d.nl F S), (14, iV (bitsFr m b 10)), (15, iV (Int.ofNat i))] ⟨(3, .cells none false [.sb (b 0), .sb (b 1), .sb (b 2), .sb (b 3), .sb (b 4), .sb (b 5), .sb (b 6), .sb (b 7), .sb (b 8), .sb (b 9)]) :: (2, .cells none false [intsV d.nw false bu, intsV d.nw false le, iV hh, iV ll, iV ff, iV sp]) :: [(1, .cells none false (bndC d.nw lo0 hi0 lo1 hi1 lo2 hi2 p q r s t u y z)), (0, .cells none false (dayC d))], 4⟩) ⟨⟨237, g⟩, []⟩ ⟨(3, .cells none false [.sb (b 0), .sb (b 1), .sb (b 2), .sb (b 3), .sb (b 4), .sb (b 5), .sb (b 6), .sb (b 7), .sb (b 8), .sb (b 9)]) :: (2, .cells none false [intsV d.nw false bu, intsV d.nw false le, iV hh, iV ll, iV ff, iV sp]) :: [(1, .cells none false (bndC d.nw lo0 hi0 lo1 hi1 lo2 hi2 p q r s t u y z)), (0, .cells none false (dayC d))], 4⟩ := by
  have hnat : ∀ i : Nat, O.nat (Int.ofNat i) = i := fun i => by subst hO; rfl
  obtain ⟨bb, hbb⟩ : ∃ bb, bb = bitsFr m b := ⟨_, rfl⟩
  have hb0 : bb 0 = m := by rw [hbb]; rfl
  have hbs : ∀ j, bb (j + 1) = if b j then O.bin .or .i64 (bb j) (O.bin .shl .i64 1 (O.conv .u64 (Int.ofNat j))) else bb j := fun j => by rw [hbb]; subst hO; rfl
  rw [← hbb]
  obtain ⟨g3, g7, g8, g9, g11, g13, g14, g15, g18, _⟩ := h
  simp only at g3 g7 g8 g9 g11 g13 g14 g15 g18
  rw [← updT_self g3, ← updT_self g7, ← updT_self g8, ← updT_self g9, ← updT_self g11, ← updT_self g13, ← updT_self g14, ← updT_self g15, ← updT_self g18]
  refine SW.seqRun tok hO (by cbv <;> rfl) (by trivial) ?_
  refine (SW.block (SW.loopF (fun j : Nat => ⟨⟨237, getT [(3, .ptr 0 0), (7, iV (Int.ofNat k)), (8, iV N), (9, .ptr 1 0), (11, iV v), (13, trsV M d.nw d.nl F S), (15, iV (Int.ofNat i)), (18, .ptr 3 0), (14, iV (bb j)), (19, iV (Int.ofNat j))]⟩, []⟩) (fun _ => ⟨(3, .cells none false [.sb (b 0), .sb (b 1), .sb (b 2), .sb (b 3), .sb (b 4), .sb (b 5), .sb (b 6), .sb (b 7), .sb (b 8), .sb (b 9)]) :: (2, .cells none false [intsV d.nw false bu, intsV d.nw false le, iV hh, iV ll, iV ff, iV sp]) :: [(1, .cells none false (bndC d.nw lo0 hi0 lo1 hi1 lo2 hi2 p q r s t u y z)), (0, .cells none false (dayC d))], 4⟩) (fun j => 10 - j) (fun j => j ≤ 10) 0
    (fun _ => rfl) (Nat.zero_le _) (Weak.by rfl rfl (by simp) (Nat.le_refl _) (Nat.le_refl _) ⟨⟨rfl, .inl rfl⟩, ⟨rfl, .inl rfl⟩, ⟨rfl, .inl rfl⟩, ⟨rfl, .inl rfl⟩, ⟨rfl, .inl rfl⟩, ⟨rfl, .inl rfl⟩, ⟨rfl, .inl rfl⟩, ⟨rfl, .inl rfl⟩, ⟨by rw [hb0]; rfl, .inl rfl⟩, ⟨rfl, .inl rfl⟩, trivial⟩ ⟨⟨rfl, by omega, .inl rfl⟩, ⟨rfl, by omega, .inl rfl⟩, ⟨rfl, by omega, .inl rfl⟩, ⟨rfl, by omega, .inl rfl⟩, trivial⟩) fun j hj => ?_))
  refine SW.seq ?_
  refine SW.seqRun tok hO (by cbv <;> rfl) (by trivial) ?_
  refine SW.condS (by cbv <;> rfl) (fun h => SW.skip ?_) (fun h => SW.exit ?_)
  · have hlt : j < 10 := by
      have : (Int.ofNat j : Int) < 10 := by subst hO; simpa [std] using h
      exact Int.ofNat_lt.1 this
    have hnn : 0 ≤ O.conv .u64 (Int.ofNat j) := by
      subst hO
      show 0 ≤ wrp .u64 (j : Int)
      rw [wrp_in (by simp only [IntKind.lo]; omega) (by simp only [IntKind.hi]; omega)]; omega
    have hst : ∀ c, b j = c → bb (j + 1) = if c then O.bin .or .i64 (bb j) (O.bin .shl .i64 1 (O.conv .u64 (Int.ofNat j))) else bb j := fun c hc => by rw [hbs, hc]
    have hinc := inc_ok hO (i := j) (by omega)
    have hin : 0 ≤ Int.ofNat j ∧ Int.ofNat j < ((10 : Nat) : Int) := ⟨Int.natCast_nonneg j, Int.ofNat_lt.2 hlt⟩
    have hltN : O.nat (Int.ofNat j) < 10 := by rw [hnat]; exact hlt
    have hsel : O.selB [b 0, b 1, b 2, b 3, b 4, b 5, b 6, b 7, b 8, b 9] (O.nat (Int.ofNat j)) = b j := by
      rw [hnat]; subst hO
      obtain rfl | rfl | rfl | rfl | rfl | rfl | rfl | rfl | rfl | rfl : j = 0 ∨ j = 1 ∨ j = 2 ∨ j = 3 ∨ j = 4 ∨ j = 5 ∨ j = 6 ∨ j = 7 ∨ j = 8 ∨ j = 9 := by omega
      all_goals rfl
    refine SW.seq (SW.block ?_)
    refine SW.seqRun tok hO (by cbv <;> rfl) (by repeat (first | exact trivial | exact hin | exact hltN | refine ⟨?_, ?_⟩)) ?_
    refine SW.condS (by cbv <;> rfl) (fun h2 => ?_) (fun h2 => SW.skip ?_)
    · refine SW.run tok hO (by cbv <;> rfl) (by first | exact hnn | exact ⟨hnn, trivial⟩ | trivial) ?_
      refine SW.run tok hO (by cbv <;> rfl) (by trivial) ?_
      exact ⟨j + 1, by omega, hlt, Weak.by rfl rfl (by simp) (Nat.le_refl _) (Nat.le_refl _) ⟨⟨rfl, .inl rfl⟩, ⟨rfl, .inl rfl⟩, ⟨rfl, .inl rfl⟩, ⟨rfl, .inl rfl⟩, ⟨rfl, .inl rfl⟩, ⟨rfl, .inl rfl⟩, ⟨rfl, .inl rfl⟩, ⟨rfl, .inl rfl⟩, ⟨by rw [hst _ (hsel.symm.trans h2)]; rfl, .inl rfl⟩, ⟨hinc, .inl rfl⟩, trivial⟩ ⟨⟨rfl, by omega, .inl rfl⟩, ⟨rfl, by omega, .inl rfl⟩, ⟨rfl, by omega, .inl rfl⟩, ⟨rfl, by omega, .inl rfl⟩, trivial⟩⟩
    · refine SW.run tok hO (by cbv <;> rfl) (by trivial) ?_
      exact ⟨j + 1, by omega, hlt, Weak.by rfl rfl (by simp) (Nat.le_refl _) (Nat.le_refl _) ⟨⟨rfl, .inl rfl⟩, ⟨rfl, .inl rfl⟩, ⟨rfl, .inl rfl⟩, ⟨rfl, .inl rfl⟩, ⟨rfl, .inl rfl⟩, ⟨rfl, .inl rfl⟩, ⟨rfl, .inl rfl⟩, ⟨rfl, .inl rfl⟩, ⟨by rw [hst _ (hsel.symm.trans h2)]; rfl, .inl rfl⟩, ⟨hinc, .inl rfl⟩, trivial⟩ ⟨⟨rfl, by omega, .inl rfl⟩, ⟨rfl, by omega, .inl rfl⟩, ⟨rfl, by omega, .inl rfl⟩, ⟨rfl, by omega, .inl rfl⟩, trivial⟩⟩
  · have hge : j = 10 := by
      have : ¬ (Int.ofNat j : Int) < 10 := by subst hO; simpa [std] using h
      have h2 : ¬ j < 10 := fun h => this (Int.ofNat_lt.2 h)
      omega
    subst hge
    exact ⟨rfl, _, rfl, ⟨rfl, rfl, rfl, rfl, rfl, rfl, rfl, rfl, trivial⟩, rfl⟩
end Go.Fz
