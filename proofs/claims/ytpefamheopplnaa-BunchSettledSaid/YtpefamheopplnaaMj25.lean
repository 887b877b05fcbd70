/- Own work of the verifier of watercress: FzSe2. -/
import Derived.Test.YtpefamheopplnaaMj24
import Derived.Test.YtpefamheopplnaaMj23
set_option linter.unusedVariables false
set_option linter.unusedSimpArgs false
namespace Go.Fz
open Go.Proofs
set_option maxRecDepth 100000
set_option linter.unusedVariables false
noncomputable def seL3 : Code := match nthC 3 (bodyF Try.f49) with
  | .seq _ (.block _ (.loop (.seq _ (.seq (.block _ (.seq _ (.block _ (.loop c)))) _)))) => c
  | _ => .skip
noncomputable def seB3 : Code := match seL3 with
  | .seq _ (.seq (.block _ b) _) => b
  | _ => .skip
def bitZ (b : Int) (w : Nat) : Bool := decide ((std.bin .rem .i64 (std.bin .shr .i64 b (std.conv .u64 (Int.ofNat w))) 2) = 0)
def smN (FL : Nat → Int) (F : Nat → Nat → Int) (b : Int) (i k w : Nat) : Bool := decide (FL i ≠ FL k) && allN w fun w => bitZ b w || decide (F i w = F k w)
theorem smN_succ {FL : Nat → Int} {F : Nat → Nat → Int} {b : Int} {i k w : Nat} (h : smN FL F b i k w = true) : smN FL F b i k (w + 1) = (bitZ b w || decide (F i w = F k w)) := by
  unfold smN at *
  rw [Bool.and_eq_true] at h
  obtain ⟨h1,h2⟩ := h
  rw [h1,Bool.true_and]
  cases hb : (bitZ b w || decide (F i w = F k w)) with
  | false => exact allN_false (Nat.lt_succ_self w) hb
  | true =>
    refine allN_true fun j hj => ?_
    rcases Nat.lt_succ_iff_lt_or_eq.1 hj with h | rfl
    · exact of_decide_eq_true h2 j h
    · exact hb
theorem smN_false {FL : Nat → Int} {F : Nat → Nat → Int} {b : Int} {i k w n : Nat} (hw : w ≤ n) (h : smN FL F b i k w = false) : smN FL F b i k n = false := by
  cases hn : smN FL F b i k n with
  | false => rfl
  | true =>
    unfold smN at *
    rw [Bool.and_eq_true] at hn
    rw [hn.1,Bool.true_and] at h
    rw [allN_true fun j hj => of_decide_eq_true hn.2 j (by omega)] at h
    cases h
def seK (d : DayD) (M : Nat) (F S : Nat → Nat → Int) (b : Int) (FL : Nat → Int) (i k : Nat) : List (Nat × AV) := [(1,trsV M d.nw d.nl F S),(2,iV b),(3,.ptr 0 0),(7,intsV M false FL),(9,iV (Int.ofNat i)),(10,iV (Int.ofNat k))]
def seS (d : DayD) : St := ⟨[(0,.cells none false (dayC d))],2⟩
set_option maxHeartbeats 16000000 in
theorem se_a (d : DayD) (M : Nat) (F S : Nat → Nat → Int) (b : Int) (FL : Nat → Int) (i k : Nat) (hi : i < M) (hk : k < M)
    (g : Nat → AV) (O : Ar) (hO : O = std) (h : AllP (fun p => g p.1 = p.2) (seK d M F S b FL i k)) :
    SW Try.prog none (nthC 0 seB3) (midK 85 (seK d M F S b FL i k ++ [(11,.lit (.bool (smN FL F b i k 0)))]) (seS d)) ⟨⟨85,g⟩,[]⟩ (seS d) := by
  have hnat : ∀ i : Nat,O.nat (Int.ofNat i) = i := fun i => by subst hO; rfl
  have hci : 0 ≤ Int.ofNat i ∧ Int.ofNat i < (M : Int) := ⟨Int.natCast_nonneg i,Int.ofNat_lt.2 hi⟩
  have hck : 0 ≤ Int.ofNat k ∧ Int.ofNat k < (M : Int) := ⟨Int.natCast_nonneg k,Int.ofNat_lt.2 hk⟩
  have hv : ∀ B, O.cmp .neq (FL (O.nat (Int.ofNat i))) (FL (O.nat (Int.ofNat k))) = B → B = smN FL F b i k 0 := fun B hB => by
    rw [hnat,hnat] at hB
    have h1 : smN FL F b i k 0 = decide (FL i ≠ FL k) := by
      unfold smN; rw [allN_true fun j hj => absurd hj (Nat.not_lt_zero j),Bool.and_true]
    rw [← hB,h1]; subst hO
    show (FL i != FL k) = decide (FL i ≠ FL k)
    by_cases e : FL i = FL k
    · rw [e,decide_eq_false (fun h => h rfl)]; simp
    · rw [decide_eq_true e]; simpa using e
  obtain ⟨g1,g2,g3,g7,g9,g10,_⟩ := h
  simp only at g1 g2 g3 g7 g9 g10
  rw [← updT_self g1,← updT_self g2,← updT_self g3,← updT_self g7,← updT_self g9,← updT_self g10]
  refine SW.runD tok mixed hO (by kernel_rfl) (by cbv <;> rfl) (by repeat (first | exact trivial | exact hci | exact hck | refine ⟨?_,?_⟩)) ?_
  first
    | exact ⟨rfl,_,rfl,⟨rfl,rfl,rfl,rfl,rfl,rfl,(by rw [← hv _ rfl]; rfl),trivial⟩,rfl⟩
    | (refine AnyE.dec tok hO (by rfl) (by cbv <;> rfl) (by trivial) (fun h1 => ?_) (fun h1 => ?_) <;> refine AnyE.run tok hO (by rfl) (by cbv <;> rfl) (by trivial) ?_
       all_goals exact ⟨rfl,_,rfl,⟨rfl,rfl,rfl,rfl,rfl,rfl,(by rw [← hv _ h1]; rfl),trivial⟩,rfl⟩)
set_option maxHeartbeats 32000000 in
theorem se_b (d : DayD) (hnw : d.nw ≤ 4) (M : Nat) (F S : Nat → Nat → Int) (b : Int) (FL : Nat → Int) (i k : Nat) (hi : i < M) (hk : k < M)
    (g : Nat → AV) (O : Ar) (hO : O = std) (h : AllP (fun p => g p.1 = p.2) (seK d M F S b FL i k ++ [(11,.lit (.bool (smN FL F b i k 0)))])) :
    SW Try.prog none (nthC 1 seB3) (midK 85 (seK d M F S b FL i k ++ [(11,.lit (.bool (smN FL F b i k d.nw)))]) (seS d)) ⟨⟨85,g⟩,[]⟩ (seS d) := by
  have hnat : ∀ i : Nat,O.nat (Int.ofNat i) = i := fun i => by subst hO; rfl
  have hci : 0 ≤ Int.ofNat i ∧ Int.ofNat i < (M : Int) := ⟨Int.natCast_nonneg i,Int.ofNat_lt.2 hi⟩
  have hck : 0 ≤ Int.ofNat k ∧ Int.ofNat k < (M : Int) := ⟨Int.natCast_nonneg k,Int.ofNat_lt.2 hk⟩
  have h2 : (2 : Int) ≠ 0 := by decide
  obtain ⟨sm,hsm⟩ : ∃ sm,sm = smN FL F b i k := ⟨_,rfl⟩
  have hss : ∀ w,sm w = true → sm (w + 1) = (bitZ b w || decide (F i w = F k w)) := fun w h => by rw [hsm] at *; exact smN_succ h
  have hsf : ∀ w,w ≤ d.nw → sm w = false → sm d.nw = false := fun w hw h => by rw [hsm] at *; exact smN_false hw h
  rw [← hsm] at h ⊢
  obtain ⟨g1,g2,g3,g7,g9,g10,g11,_⟩ := h
  simp only at g1 g2 g3 g7 g9 g10 g11
  rw [← updT_self g1,← updT_self g2,← updT_self g3,← updT_self g7,← updT_self g9,← updT_self g10,← updT_self g11]
  unfold seK seS
  refine SW.seqRun tok hO (by cbv <;> rfl) (by trivial) ?_
  refine (SW.block (SW.loopF (fun w : Nat => ⟨⟨85, getT [(1, trsV M d.nw d.nl F S), (2, iV b), (3, .ptr 0 0), (7, intsV M false FL), (9, iV (Int.ofNat i)), (10, iV (Int.ofNat k)), (11, .lit (.bool (sm w))), (12, iV (Int.ofNat w))]⟩, []⟩) (fun _ => ⟨[(0, .cells none false (dayC d))], 2⟩) (fun w => d.nw - w) (fun w => w ≤ d.nw) 0
    (fun _ => rfl) (Nat.zero_le _) (Weak.by rfl rfl (by simp) (Nat.le_refl _) (Nat.le_refl _) ⟨⟨rfl,.inl rfl⟩,⟨rfl,.inl rfl⟩,⟨rfl,.inl rfl⟩,⟨rfl,.inl rfl⟩,⟨rfl,.inl rfl⟩,⟨rfl,.inl rfl⟩,⟨rfl,.inl rfl⟩,⟨rfl,.inl rfl⟩,trivial⟩ ⟨⟨rfl,by show 0 < 2; omega,.inl rfl⟩,trivial⟩) fun w hw => ?_))
  have hnn : 0 ≤ O.conv .u64 (Int.ofNat w) := by
    subst hO
    show 0 ≤ wrp .u64 (w : Int)
    rw [wrp_in (by simp only [IntKind.lo]; omega) (by simp only [IntKind.hi]; omega)]; omega
  have hbz : ∀ B, O.cmp .eql (O.bin .rem .i64 (O.bin .shr .i64 b (O.conv .u64 (Int.ofNat w))) 2) 0 = B → bitZ b w = B := fun B hB => by
    rw [← hB]; subst hO; rfl
  have heq : ∀ B, O.cmp .eql (F (O.nat (Int.ofNat i)) (O.nat (Int.ofNat w))) (F (O.nat (Int.ofNat k)) (O.nat (Int.ofNat w))) = B → decide (F i w = F k w) = B := fun B hB => by
    rw [hnat,hnat,hnat] at hB
    rw [← hB]; subst hO; rfl
  refine SW.seq ?_
  refine SW.seqRun tok hO (by cbv <;> rfl) (by trivial) ?_
  refine OpsW.splitG (by cbv <;> rfl) (fun h1 => ?_) (fun h1 => ?_) <;> refine OpsW.run tok hO (by cbv <;> rfl) (by trivial) ?_
  · have hlt : w < d.nw := by
      have : (Int.ofNat w : Int) < Int.ofNat d.nw := by subst hO; simpa [std] using h1
      exact Int.ofNat_lt.1 this
    have hcw : 0 ≤ Int.ofNat w ∧ Int.ofNat w < (d.nw : Int) := ⟨Int.natCast_nonneg w,Int.ofNat_lt.2 hlt⟩
    refine SW.condS (by cbv <;> rfl) (fun h3 => SW.skip ?_) (fun h3 => SW.exit ?_)
    · have hs := hss w h3
      refine SW.seq (SW.block ?_)
      refine SW.runD tok mixed hO (by kernel_rfl) (by cbv <;> rfl) (by repeat (first | exact trivial | exact h2 | exact hnn | refine ⟨?_,?_⟩)) ?_
      refine AnyE.dec tok hO (by rfl) (by cbv <;> rfl) (by repeat (first | exact trivial | exact h2 | exact hnn | refine ⟨?_,?_⟩)) (fun h4 => ?_) (fun h4 => ?_)
      · skip
        refine AnyE.runN tok hO 5 (by rfl) (by cbv <;> rfl) (by trivial) ?_
        refine AnyE.runN tok hO 5 (by rfl) (by cbv <;> rfl) (by trivial) ?_
        refine AnyE.runN tok hO 5 (by rfl) (by cbv <;> rfl) (by trivial) ?_
        refine AnyE.run tok hO (by rfl) (by cbv <;> rfl) (by trivial) ?_
        refine SW.run tok hO (by cbv <;> rfl) (by trivial) ?_
        rw [hbz _ h4,Bool.true_or] at hs
        exact ⟨w + 1,by omega,hlt,Weak.by rfl rfl (by simp) (Nat.le_refl _) (Nat.le_refl _) ⟨⟨rfl,.inl rfl⟩,⟨rfl,.inl rfl⟩,⟨rfl,.inl rfl⟩,⟨rfl,.inl rfl⟩,⟨rfl,.inl rfl⟩,⟨rfl,.inl rfl⟩,⟨by rw [hs]; rfl,.inl rfl⟩,⟨inc_ok hO (by omega),.inl rfl⟩,trivial⟩ ⟨⟨rfl,by show 0 < 2; omega,.inl rfl⟩,trivial⟩⟩
      · skip
        refine AnyE.runN tok hO 5 (by rfl) (by cbv <;> rfl) (by repeat (first | exact trivial | exact hci | exact hck | exact hcw | refine ⟨?_,?_⟩)) ?_
        refine AnyE.runN tok hO 5 (by rfl) (by cbv <;> rfl) (by repeat (first | exact trivial | exact hci | exact hck | exact hcw | refine ⟨?_,?_⟩)) ?_
        refine AnyE.runN tok hO 5 (by rfl) (by cbv <;> rfl) (by repeat (first | exact trivial | exact hci | exact hck | exact hcw | refine ⟨?_,?_⟩)) ?_
        refine AnyE.run tok hO (by rfl) (by cbv <;> rfl) (by repeat (first | exact trivial | exact hci | exact hck | exact hcw | refine ⟨?_,?_⟩)) ?_
        rw [hbz _ h4,Bool.false_or] at hs
        refine AnyE.dec tok hO (by rfl) (by cbv <;> rfl) (by repeat (first | exact trivial | exact hci | exact hck | exact hcw | refine ⟨?_,?_⟩)) (fun h5 => ?_) (fun h5 => ?_) <;> refine AnyE.run tok hO (by rfl) (by cbv <;> rfl) (by trivial) ?_
        all_goals
          refine SW.run tok hO (by cbv <;> rfl) (by trivial) ?_
          exact ⟨w + 1,by omega,hlt,Weak.by rfl rfl (by simp) (Nat.le_refl _) (Nat.le_refl _) ⟨⟨rfl,.inl rfl⟩,⟨rfl,.inl rfl⟩,⟨rfl,.inl rfl⟩,⟨rfl,.inl rfl⟩,⟨rfl,.inl rfl⟩,⟨rfl,.inl rfl⟩,⟨by rw [hs,heq _ h5]; rfl,.inl rfl⟩,⟨inc_ok hO (by omega),.inl rfl⟩,trivial⟩ ⟨⟨rfl,by show 0 < 2; omega,.inl rfl⟩,trivial⟩⟩
    · have hs := hsf w (by omega) h3
      exact ⟨rfl,_,rfl,⟨rfl,rfl,rfl,rfl,rfl,rfl,(by rw [hs,← h3]; rfl),trivial⟩,rfl⟩
  · have hge : w = d.nw := by
      have : ¬ (Int.ofNat w : Int) < Int.ofNat d.nw := by subst hO; simpa [std] using h1
      have h2 : ¬ w < d.nw := fun h => this (Int.ofNat_lt.2 h)
      omega
    subst hge
    refine SW.condS (by cbv <;> rfl) (fun h3 => absurd h3 (by decide)) (fun h3 => SW.exit ?_)
    exact ⟨rfl,_,rfl,⟨rfl,rfl,rfl,rfl,rfl,rfl,rfl,trivial⟩,rfl⟩
end Go.Fz
