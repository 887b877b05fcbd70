/- Own work of the verifier of watercress: FzEn5. -/
import Derived.Test.YtpefamheopplnaaMf33
import Derived.Test.YtpefamheopplnaaMf34
set_option linter.unusedVariables false
set_option linter.unusedSimpArgs false
namespace Go.Fz
open Go.Proofs
set_option maxRecDepth 100000
set_option linter.unusedVariables false
def endE (k : Nat) (F BU LE : Nat → Nat → Int) (HH FF : Nat → Int) (lo0 hi0 lo1 hi1 lo2 hi2 : Nat → Int) (p q t u : Int) (i j : Nat) : Bool := match j with
  | 0 => decide (F i k = lo0 k)
  | 1 => decide (F i k = hi0 k)
  | 2 => decide (BU i k = lo1 k)
  | 3 => decide (BU i k = hi1 k)
  | 4 => decide (LE i k = lo2 k)
  | 5 => decide (LE i k = hi2 k)
  | 6 => decide (HH i = p)
  | 7 => decide (HH i = q)
  | 8 => decide (FF i = t)
  | _ => decide (FF i = u)
set_option maxHeartbeats 16000000 in
theorem en_loop (d : DayD) (k : Nat) (hk : k < d.nw) (N v : Int) (M : Nat) (hM : M < 100000) (F S : Nat → Nat → Int) (lo0 hi0 lo1 hi1 lo2 hi2 : Nat → Int) (p q r s t u y z : Int) (g : Nat → AV) (O : Ar) (hO : O = std)
    (BU LE : Nat → Nat → Int) (HH LL FF SP : Nat → Int) (hplay : ∀ i, i < M → Pure Try.prog 47 [dayV d, .agg [intsV d.nw false (F i), intsV d.nl false (S i)]] (.agg [intsV d.nw false (BU i), intsV d.nw false (LE i), iV (HH i), iV (LL i), iV (FF i), iV (SP i)]))
    (h1 : ∀ i, i < M → v = 1 → N < F i k) (h2 : ∀ i, i < M → v = 2 → ¬ N < F i k) (h : AllP (fun p => g p.1 = p.2) [(3, .ptr 0 0), (7, iV (Int.ofNat k)), (8, iV N), (9, .ptr 1 0), (11, iV v), (13, trsV M d.nw d.nl F S), (14, iV 0)]) :
    SW Try.prog none (nthC 9 (bodyF Try.f9)) (midK 237 [(14, iV (Int.ofNat (metN (endE k F BU LE HH FF lo0 hi0 lo1 hi1 lo2 hi2 p q t u) M)))] ⟨[(1, .cells none false (bndC d.nw lo0 hi0 lo1 hi1 lo2 hi2 p q r s t u y z)), (0, .cells none false (dayC d))], 2⟩) ⟨⟨237, g⟩, []⟩ ⟨[(1, .cells none false (bndC d.nw lo0 hi0 lo1 hi1 lo2 hi2 p q r s t u y z)), (0, .cells none false (dayC d))], 2⟩ := by
  have hnat : ∀ i : Nat, O.nat (Int.ofNat i) = i := fun i => by subst hO; rfl
  have hcmp : ∀ a b, O.cmp .eql a b = decide (a = b) := fun a b => by subst hO; rfl
  obtain ⟨E, hE⟩ : ∃ E, E = endE k F BU LE HH FF lo0 hi0 lo1 hi1 lo2 hi2 p q t u := ⟨_, rfl⟩
  obtain ⟨mm, hmm⟩ : ∃ mm, mm = metN E := ⟨_, rfl⟩
  have hm0 : mm 0 = 0 := by rw [hmm]; rfl
  have hms : ∀ i, bitsFr (Int.ofNat (mm i)) (E i) 10 = Int.ofNat (mm (i + 1)) := fun i => by rw [hmm]; exact bitsFr_or (metN_lt E i) _ 10 (Nat.le_refl _)
  rw [← hE, ← hmm]
  have hB0 : ∀ a ∈ (bndC d.nw lo0 hi0 lo1 hi1 lo2 hi2 p q r s t u y z), Below 0 a := AllB.ok ⟨Below.isl fun i j _ _ => rngC_below _ _ i j, Below.isl fun i j _ _ => rngC_below _ _ i j, Below.isl fun i j _ _ => rngC_below _ _ i j, Below.lit, Below.lit, Below.lit, Below.lit, Below.lit, Below.lit, Below.lit, Below.lit, trivial⟩
  have hT0 := trsV_below M d.nw d.nl F S
  obtain ⟨g3, g7, g8, g9, g11, g13, g14, _⟩ := h
  simp only at g3 g7 g8 g9 g11 g13 g14
  rw [← updT_self g3, ← updT_self g7, ← updT_self g8, ← updT_self g9, ← updT_self g11, ← updT_self g13, ← updT_self g14]
  refine SW.seqRun tok hO (by cbv <;> rfl) (by trivial) ?_
  refine (SW.block (SW.loopF (fun i : Nat => ⟨⟨237, getT [(3, .ptr 0 0), (7, iV (Int.ofNat k)), (8, iV N), (9, .ptr 1 0), (11, iV v), (13, trsV M d.nw d.nl F S), (14, iV (Int.ofNat (mm i))), (15, iV (Int.ofNat i))]⟩, []⟩) (fun _ => ⟨[(1, .cells none false (bndC d.nw lo0 hi0 lo1 hi1 lo2 hi2 p q r s t u y z)), (0, .cells none false (dayC d))], 2⟩) (fun i => M - i) (fun i => i ≤ M) 0
    (fun _ => rfl) (Nat.zero_le _) (Weak.by rfl rfl (by simp) (Nat.le_refl _) (Nat.le_refl _) ⟨⟨rfl, .inl rfl⟩, ⟨rfl, .inl rfl⟩, ⟨rfl, .inl rfl⟩, ⟨rfl, .inl rfl⟩, ⟨rfl, .inl rfl⟩, ⟨rfl, .inl rfl⟩, ⟨by rw [hm0]; rfl, .inl rfl⟩, ⟨rfl, .inl rfl⟩, trivial⟩ ⟨⟨rfl, by show 1 < 2; omega, .inl rfl⟩, ⟨rfl, by show 0 < 2; omega, .inl rfl⟩, trivial⟩) fun i hi => ?_))
  refine SW.seq ?_
  refine SW.seqRun tok hO (by cbv <;> rfl) (by trivial) ?_
  refine SW.condS (by cbv <;> rfl) (fun hc => SW.skip ?_) (fun hc => SW.exit ?_)
  · have hlt : i < M := by
      have : (Int.ofNat i : Int) < Int.ofNat M := by subst hO; simpa [std] using hc
      exact Int.ofNat_lt.1 this
    refine SW.seq (SW.block ?_)
    refine SW.seq ((en_a d k hk N v M hM F S lo0 hi0 lo1 hi1 lo2 hi2 p q r s t u y z _ O hO i hlt (Int.ofNat (mm i)) (BU i) (LE i) (HH i) (LL i) (FF i) (SP i) (hplay i hlt) ⟨rfl, rfl, rfl, rfl, rfl, rfl, rfl, rfl, trivial⟩).mono fun e f st hm => ?_)
    clear g3 g7 g8 g9 g11 g13 g14
    obtain ⟨rfl, g, rfl, h, rfl⟩ := hm
    refine SW.seq ((en_b d k hk N v M hM F S lo0 hi0 lo1 hi1 lo2 hi2 p q r s t u y z _ O hO i hlt (Int.ofNat (mm i)) (BU i) (LE i) (HH i) (LL i) (FF i) (SP i) h).mono fun e f st hm => ?_)
    clear h
    obtain ⟨rfl, g, rfl, h, rfl⟩ := hm
    refine SW.seq ((en_c d k hk N v M hM F S lo0 hi0 lo1 hi1 lo2 hi2 p q r s t u y z _ O hO i (Int.ofNat (mm i)) (F i k) (BU i) (LE i) (HH i) (LL i) (FF i) (SP i) (h1 i hlt) (h2 i hlt) h).mono fun e f st hm => ?_)
    clear h
    obtain ⟨rfl, g, rfl, h, rfl⟩ := hm
    refine SW.seq ((en_d d k hk N v M hM F S lo0 hi0 lo1 hi1 lo2 hi2 p q r s t u y z _ O hO i (Int.ofNat (mm i)) (F i k) (BU i) (LE i) (HH i) (LL i) (FF i) (SP i) h).mono fun e f st hm => ?_)
    clear h
    obtain ⟨rfl, g, rfl, h, rfl⟩ := hm
    have hcs : [AV.sb (O.cmp .eql (F i k) (lo0 (O.nat (Int.ofNat k)))), .sb (O.cmp .eql (F i k) (hi0 (O.nat (Int.ofNat k)))), .sb (O.cmp .eql (BU i (O.nat (Int.ofNat k))) (lo1 (O.nat (Int.ofNat k)))), .sb (O.cmp .eql (BU i (O.nat (Int.ofNat k))) (hi1 (O.nat (Int.ofNat k)))), .sb (O.cmp .eql (LE i (O.nat (Int.ofNat k))) (lo2 (O.nat (Int.ofNat k)))), .sb (O.cmp .eql (LE i (O.nat (Int.ofNat k))) (hi2 (O.nat (Int.ofNat k)))), .sb (O.cmp .eql (HH i) p), .sb (O.cmp .eql (HH i) q), .sb (O.cmp .eql (FF i) t), .sb (O.cmp .eql (FF i) u)] = [.sb (E i 0), .sb (E i 1), .sb (E i 2), .sb (E i 3), .sb (E i 4), .sb (E i 5), .sb (E i 6), .sb (E i 7), .sb (E i 8), .sb (E i 9)] := by
      simp only [hnat, hcmp, hE, endE]
    rw [hcs]
    refine ((en_e d k hk N v M hM F S lo0 hi0 lo1 hi1 lo2 hi2 p q r s t u y z _ O hO i (Int.ofNat (mm i)) (E i) (BU i) (LE i) (HH i) (LL i) (FF i) (SP i) h).mono fun e f st hm => ?_)
    clear h
    obtain ⟨rfl, g, rfl, ⟨g3, g7, g8, g9, g11, g13, g14, g15, _⟩, rfl⟩ := hm
    simp only at g3 g7 g8 g9 g11 g13 g14 g15
    rw [hms] at g14
    rw [← updT_self g3, ← updT_self g7, ← updT_self g8, ← updT_self g9, ← updT_self g11, ← updT_self g13, ← updT_self g14, ← updT_self g15]
    show SW _ _ _ _ _ _
    refine SW.run tok hO (by cbv <;> rfl) (by trivial) ?_
    exact ⟨i + 1, by omega, hlt, Weak.by rfl rfl (by simp) (Nat.le_refl _) (by show 2 ≤ 4; omega) ⟨⟨rfl, .inr (Below.ptr (by omega))⟩, ⟨rfl, .inr Below.lit⟩, ⟨rfl, .inr Below.lit⟩, ⟨rfl, .inr (Below.ptr (by omega))⟩, ⟨rfl, .inr Below.lit⟩, ⟨rfl, .inr (Below.up (m := 0) hT0)⟩, ⟨rfl, .inr Below.lit⟩, ⟨inc_ok hO (by omega), .inr Below.lit⟩, trivial⟩
      ⟨⟨rfl, by show 1 < 2; omega, .inr ⟨fun x hx => Below.up (m := 0) (hB0 x hx), fun _ h => nomatch h⟩⟩, ⟨rfl, by show 0 < 2; omega, .inr ⟨fun x hx => Below.up (m := 0) (dayC_below d x hx), fun _ h => nomatch h⟩⟩, trivial⟩⟩
  · have hge : i = M := by
      have : ¬ (Int.ofNat i : Int) < Int.ofNat M := by subst hO; simpa [std] using hc
      have h2 : ¬ i < M := fun h => this (Int.ofNat_lt.2 h)
      omega
    subst hge
    exact ⟨rfl, _, rfl, ⟨rfl, trivial⟩, rfl⟩
end Go.Fz
