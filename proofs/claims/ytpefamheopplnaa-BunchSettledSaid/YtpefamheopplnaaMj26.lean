/- Own work of the verifier of watercress: FzSe3, FzSe4, FzSe5, FzT6, FzB23n, FzB24n. -/
import Derived.Test.YtpefamheopplnaaMj25
import Derived.Test.YtpefamheopplnaaMj23
import Derived.Test.YtpefamheopplnaaMj20
import Derived.Test.YtpefamheopplnaaMj24
set_option linter.unusedVariables false
set_option linter.unusedSimpArgs false
namespace Go.Fz
open Go.Proofs
set_option maxRecDepth 100000
set_option linter.unusedVariables false
def setR (FL : Nat → Int) (F : Nat → Nat → Int) (b : Int) (nw M : Nat) : Bool := allN M fun i => allN i fun k => !smN FL F b i k nw
theorem setR_false {FL : Nat → Int} {F : Nat → Nat → Int} {b : Int} {nw M i k : Nat} (hi : i < M) (hk : k < i) (h : smN FL F b i k nw = true) : setR FL F b nw M = false :=
  allN_false hi (allN_false hk (by rw [h]; rfl))
theorem setR_true {FL : Nat → Int} {F : Nat → Nat → Int} {b : Int} {nw M : Nat} (h : ∀ i, i < M → ∀ k, k < i → smN FL F b i k nw = false) : setR FL F b nw M = true :=
  allN_true fun i hi => allN_true fun k hk => by rw [h i hi k hk]; rfl
set_option maxHeartbeats 32000000 in
theorem settle49_ok (d : DayD) (hnw : d.nw ≤ 4) (M : Nat) (F S : Nat → Nat → Int) (b : Int) (hM : M < 100000) (FL hh ll sp : Nat → Int) (bu le : Nat → Nat → Int) (hplay : ∀ i, i < M → Pure Try.prog 47 [dayV d, .agg [intsV d.nw false (F i), intsV d.nl false (S i)]] (.agg [intsV d.nw false (bu i), intsV d.nw false (le i), iV (hh i), iV (ll i), iV (FL i), iV (sp i)])) :
    Pure Try.prog 49 [dayV d,trsV M d.nw d.nl F S,iV b] (.sb (setR FL F b d.nw M)) := by
  obtain ⟨O,hO⟩ : ∃ O : Ar,O = std := ⟨_,rfl⟩
  obtain ⟨B,hB⟩ : ∃ B,setR FL F b d.nw M = B := ⟨_,rfl⟩
  have hBf : ∀ i,i < M → ∀ k,k < i → smN FL F b i k d.nw = true → B = false := fun i hi k hk h => by rw [← hB]; exact setR_false hi hk h
  have hBt : (∀ i,i < M → ∀ k,k < i → smN FL F b i k d.nw = false) → B = true := fun h => by rw [← hB]; exact setR_true h
  rw [hB]
  refine pure_of_body tok 3 Try.func49 en49 rfl ⟨dayV_below d,trsV_below _ _ _ _ _,Below.lit,trivial⟩ Below.sb ?_
  refine SW.seqRun tok hO (by cbv <;> rfl) (by trivial) ?_
  refine SW.seqRun tok hO (by cbv <;> rfl) (by trivial) ?_
  refine SW.seq ((se_flats d M F S b hM FL hh ll sp bu le hplay _ O hO ⟨rfl,rfl,rfl,rfl,trivial⟩).mono fun e f st hm => ?_)
  obtain ⟨rfl,g,X,rfl,g1,g2,g3,g7,hX,rfl⟩ := hm
  show SW _ _ _ _ _ _
  refine SW.slot 7 X _ g7 hX ?_
  obtain ⟨G,hG⟩ : ∃ G,G = updT g 7 (intsV M false FL) := ⟨_,rfl⟩
  have k1 : G 1 = trsV M d.nw d.nl F S := by rw [hG]; exact g1
  have k2 : G 2 = iV b := by rw [hG]; exact g2
  have k3 : G 3 = .ptr 0 0 := by rw [hG]; exact g3
  have k7 : G 7 = intsV M false FL := by rw [hG]; rfl
  rw [← hG]
  clear hG hX g1 g2 g3 g7
  rw [← updT_self k1,← updT_self k2,← updT_self k3,← updT_self k7]
  clear k1 k2 k3 k7
  refine SW.seq ?_
  refine SW.seqRun tok hO (by cbv <;> rfl) (by trivial) ?_
  refine (SW.block (SW.loopF (fun i : Nat => ⟨⟨85, getT [(1, trsV M d.nw d.nl F S), (2, iV b), (3, .ptr 0 0), (7, intsV M false FL), (9, iV (Int.ofNat i))]⟩, []⟩) (fun _ => ⟨[(0, .cells none false (dayC d))], 2⟩) (fun i => M - i) (fun i => i ≤ M ∧ ∀ i', i' < i → ∀ k, k < i' → smN FL F b i' k d.nw = false) 0
    (fun _ => rfl) ⟨Nat.zero_le _,fun i' h => absurd h (Nat.not_lt_zero _)⟩ (Weak.by rfl rfl (by simp) (Nat.le_refl _) (Nat.le_refl _) ⟨⟨rfl,.inl rfl⟩,⟨rfl,.inl rfl⟩,⟨rfl,.inl rfl⟩,⟨rfl,.inl rfl⟩,⟨rfl,.inl rfl⟩,trivial⟩ ⟨⟨rfl,by show 0 < 2; omega,.inl rfl⟩,trivial⟩) fun i ⟨hi,hall⟩ => ?_))
  refine SW.seq ?_
  refine SW.seqRun tok hO (by cbv <;> rfl) (by trivial) ?_
  refine SW.condS (by cbv <;> rfl) (fun h => SW.skip ?_) (fun h => SW.exit ?_)
  · have hlt : i < M := by
      have : (Int.ofNat i : Int) < Int.ofNat M := by subst hO; simpa [std] using h
      exact Int.ofNat_lt.1 this
    clear h
    refine SW.seq (SW.block ?_)
    refine SW.seqRun tok hO (by cbv <;> rfl) (by trivial) ?_
    refine (SW.block (SW.loopF (fun k : Nat => ⟨⟨85, getT [(1, trsV M d.nw d.nl F S), (2, iV b), (3, .ptr 0 0), (7, intsV M false FL), (9, iV (Int.ofNat i)), (10, iV (Int.ofNat k))]⟩, []⟩) (fun _ => ⟨[(0, .cells none false (dayC d))], 2⟩) (fun k => i - k) (fun k => k ≤ i ∧ ∀ k', k' < k → smN FL F b i k' d.nw = false) 0
      (fun _ => rfl) ⟨Nat.zero_le _,fun k' h => absurd h (Nat.not_lt_zero _)⟩ (Weak.by rfl rfl (by simp) (Nat.le_refl _) (Nat.le_refl _) ⟨⟨rfl,.inl rfl⟩,⟨rfl,.inl rfl⟩,⟨rfl,.inl rfl⟩,⟨rfl,.inl rfl⟩,⟨rfl,.inl rfl⟩,⟨rfl,.inl rfl⟩,trivial⟩ ⟨⟨rfl,by show 0 < 2; omega,.inl rfl⟩,trivial⟩) fun k ⟨hk,hal2⟩ => ?_))
    refine SW.seq ?_
    refine SW.seqRun tok hO (by cbv <;> rfl) (by trivial) ?_
    refine SW.condS (by cbv <;> rfl) (fun h => SW.skip ?_) (fun h => SW.exit ?_)
    · have hkt : k < i := by
        have : (Int.ofNat k : Int) < Int.ofNat i := by subst hO; simpa [std] using h
        exact Int.ofNat_lt.1 this
      clear h
      refine SW.seq (SW.block ?_)
      refine SW.seq ((se_a d M F S b FL i k hlt (by omega) _ O hO ⟨rfl,rfl,rfl,rfl,rfl,rfl,trivial⟩).mono fun e f st hm => ?_)
      obtain ⟨rfl,g,rfl,h,rfl⟩ := hm
      refine SW.seq ((se_b d hnw M F S b FL i k hlt (by omega) _ O hO h).mono fun e f st hm => ?_)
      clear h
      obtain ⟨rfl,g,rfl,⟨g1,g2,g3,g7,g9,g10,g11,_⟩,rfl⟩ := hm
      simp only at g1 g2 g3 g7 g9 g10 g11
      have hbf := hBf i hlt k hkt
      generalize hs : smN FL F b i k d.nw = sm at g11 hbf
      rw [← updT_self g1,← updT_self g2,← updT_self g3,← updT_self g7,← updT_self g9,← updT_self g10,← updT_self g11]
      show SW _ _ _ _ _ _
      refine SW.seqRun tok hO (by cbv <;> rfl) (by trivial) ?_
      refine SW.condS (by cbv <;> rfl) (fun h4 => ?_) (fun h4 => SW.skip ?_)
      · refine SW.seqRun tok hO (by cbv <;> rfl) (by trivial) ?_
        refine SW.ret ⟨_,_,rfl,rfl,Eqv.bool ?_⟩
        exact (hbf h4).symm
      · refine SW.run tok hO (by cbv <;> rfl) (by trivial) ?_
        refine ⟨k + 1,by omega,⟨by omega,fun k' hk' => ?_⟩,Weak.by rfl rfl (by simp) (Nat.le_refl _) (Nat.le_refl _) ⟨⟨rfl,.inl rfl⟩,⟨rfl,.inl rfl⟩,⟨rfl,.inl rfl⟩,⟨rfl,.inl rfl⟩,⟨rfl,.inl rfl⟩,⟨inc_ok hO (by omega),.inl rfl⟩,trivial⟩ ⟨⟨rfl,by show 0 < 2; omega,.inl rfl⟩,trivial⟩⟩
        rcases Nat.lt_succ_iff_lt_or_eq.1 hk' with h5 | rfl
        · exact hal2 k' h5
        · rw [hs,h4]
    · have hge : k = i := by
        have : ¬ (Int.ofNat k : Int) < Int.ofNat i := by subst hO; simpa [std] using h
        have h2 : ¬ k < i := fun h => this (Int.ofNat_lt.2 h)
        omega
      subst hge
      refine SW.run tok hO (by cbv <;> rfl) (by trivial) ?_
      refine ⟨k + 1,by omega,⟨hlt,fun i' hi' => ?_⟩,Weak.by rfl rfl (by simp) (Nat.le_refl _) (Nat.le_refl _) ⟨⟨rfl,.inl rfl⟩,⟨rfl,.inl rfl⟩,⟨rfl,.inl rfl⟩,⟨rfl,.inl rfl⟩,⟨inc_ok hO (by omega),.inl rfl⟩,trivial⟩ ⟨⟨rfl,by show 0 < 2; omega,.inl rfl⟩,trivial⟩⟩
      rcases Nat.lt_succ_iff_lt_or_eq.1 hi' with h5 | rfl
      · exact hall i' h5
      · exact hal2
  · have hge : i = M := by
      have : ¬ (Int.ofNat i : Int) < Int.ofNat M := by subst hO; simpa [std] using h
      have h2 : ¬ i < M := fun h => this (Int.ofNat_lt.2 h)
      omega
    subst hge
    refine SW.seqRun tok hO (by cbv <;> rfl) (by trivial) ?_
    refine SW.ret ⟨_,_,rfl,rfl,Eqv.bool ?_⟩
    exact (hBt hall).symm
end Go.Fz
namespace Go.Fz
open Go.Proofs
set_option maxRecDepth 100000
set_option linter.unusedVariables false
theorem pow_le32 {n : Nat} (hn : n ≤ 5) : 2 ^ n ≤ 32 := Nat.pow_le_pow_right (n := 2) (by decide) hn
end Go.Fz
namespace Go.Fz
open Go.Proofs
set_option maxRecDepth 100000
set_option linter.unusedVariables false
end Go.Fz
namespace Go.Fz
open Go.Proofs
set_option maxRecDepth 100000
set_option linter.unusedVariables false
end Go.Fz
namespace Go.Fz
open Go.Proofs
set_option maxRecDepth 100000
end Go.Fz
namespace Go.Fz
open Go.Proofs
set_option maxRecDepth 100000
theorem mod_in {lo hi q : Int} (h0 : 0 ≤ lo) (h1 : lo ≤ hi) (h2 : hi ≤ 5000) (hq : 0 ≤ q) : lo ≤ add64 lo (q.tmod (size64 lo hi)) ∧ add64 lo (q.tmod (size64 lo hi)) ≤ hi := by
  have hs := size64_in h0 h1 h2
  obtain ⟨_,_,_,h4,h5⟩ := tdiv_nn hq (show 1 ≤ size64 lo hi by omega)
  rw [add64_in _ _ (by omega) (by omega)]
  omega
theorem quo_nn {a b : Int} (ha : 0 ≤ a) (ha2 : a ≤ 1000000000) (hb : 1 ≤ b) : 0 ≤ quo64 a b ∧ quo64 a b ≤ 1000000000 := by
  obtain ⟨h1,h2,_⟩ := tdiv_nn ha hb
  rw [quo64_nn ha ha2 hb]; omega
theorem qW_nn {d : DayD} (g : d.Good) {N : Int} (h0 : 0 ≤ N) (h1 : N ≤ 1000000000) : ∀ i, i ≤ d.nw → 0 ≤ d.qW N i ∧ d.qW N i ≤ 1000000000
  | 0,_ => ⟨h0,h1⟩
  | i + 1, h => by
    obtain ⟨a,b⟩ := qW_nn g h0 h1 i (by omega)
    have hw := g.wom i (by omega)
    have hs := size64_in (lo := d.wlo i) (hi := d.whi i) (by omega) (by omega) (by omega)
    exact quo_nn a b (by omega)
theorem qL_nn {d : DayD} (g : d.Good) {N : Int} (h0 : 0 ≤ N) (h1 : N ≤ 1000000000) : ∀ i, i ≤ d.nl → 0 ≤ d.qL N i ∧ d.qL N i ≤ 1000000000
  | 0,_ => qW_nn g h0 h1 d.nw (Nat.le_refl _)
  | i + 1, h => by
    obtain ⟨a,b⟩ := qL_nn g h0 h1 i (by omega)
    have hw := (g.lot i (by omega)).2
    have hs := size64_in (lo := d.llo i) (hi := d.lhi i) (by omega) (by omega) (by omega)
    exact quo_nn a b (by omega)
theorem nth_fits {d : DayD} (g : d.Good) {N : Int} (h0 : 0 ≤ N) (h1 : N ≤ 1000000000) : d.fits (d.nthT N) = true := by
  have e1 : ∀ i, i < d.nw → inB (d.feN N i) (d.wlo i) (d.whi i) = true := fun i hi => by
    have hw := g.wom i hi
    obtain ⟨a,b⟩ := mod_in (lo := d.wlo i) (hi := d.whi i) (by omega) (by omega) (by omega) (qW_nn g h0 h1 i (by omega)).1
    simp only [inB,Bool.and_eq_true,decide_eq_true_eq]
    exact ⟨a,b⟩
  have e2 : ∀ i, i < d.nl → inB (d.stN N i) (d.llo i) (d.lhi i) = true := fun i hi => by
    have hw := (g.lot i hi).2
    obtain ⟨a,b⟩ := mod_in (lo := d.llo i) (hi := d.lhi i) (by omega) (by omega) (by omega) (qL_nn g h0 h1 i (by omega)).1
    simp only [inB,Bool.and_eq_true,decide_eq_true_eq]
    exact ⟨a,b⟩
  show (decide (d.nw = d.nw) && decide (d.nl = d.nl) && allN d.nw (fun i => inB (d.feN N i) (d.wlo i) (d.whi i)) && allN d.nl (fun i => inB (d.stN N i) (d.llo i) (d.lhi i))) = true
  rw [allN_true e1,allN_true e2]; simp
end Go.Fz
