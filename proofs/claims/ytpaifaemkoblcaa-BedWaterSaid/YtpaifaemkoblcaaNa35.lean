/- Own work of the verifier of watercress: FzB11, FzB14. -/
import Derived.Test.YtpaifaemkoblcaaNa34
set_option linter.unusedVariables false
set_option linter.unusedSimpArgs false
set_option linter.unusedVariables false
namespace Go.Fz
open Go.Proofs
set_option maxRecDepth 100000
def eqW (V W : Wat) : Bool := allN 8 fun b => allN 3 fun k => decide (V b k = W b k)
def FarmD.dr (f : FarmD) (K : Nat → Int) (l : List Int) (j : Nat) : Bool := !eqW (playF f (f.k0 f.nb) (zL l)) (playF f K (zL l)) && !decide (f.need j ≤ playF f K (zL l) j 1)
def FarmD.dryN (f : FarmD) (K : Nat → Int) (s : List (List Int)) (c j : Nat) : Bool := decide (j < f.nb) && (List.range c).any fun i => f.dr K (s.getD i []) j
theorem FarmD.dryN_succ (f : FarmD) (K : Nat → Int) (s : List (List Int)) (c : Nat) : f.dryN K s (c + 1) = fun j => f.dryN K s c j || (decide (j < f.nb) && f.dr K (s.getD c []) j) := by
  funext j
  unfold FarmD.dryN
  rw [List.range_succ, List.any_append, List.any_cons, List.any_nil, Bool.or_false, Bool.and_or_distrib_left]
theorem FarmD.dryN_zero (f : FarmD) (K : Nat → Int) (s : List (List Int)) : f.dryN K s 0 = fun _ => false := by
  funext j; unfold FarmD.dryN; simp
theorem eqW_iff (V W : Wat) : eqW V W = true ↔ ∀ b, b < 8 → ∀ k, k < 3 → V b k = W b k := by simp [eqW, allN]
theorem eqW_of {O : Ar} (hO : O = std) (V W : Wat) : (O.and (O.and (O.cmp .eql (V 0 0) (W 0 0)) (O.and (O.cmp .eql (V 0 1) (W 0 1)) (O.cmp .eql (V 0 2) (W 0 2)))) (O.and (O.and (O.cmp .eql (V 1 0) (W 1 0)) (O.and (O.cmp .eql (V 1 1) (W 1 1)) (O.cmp .eql (V 1 2) (W 1 2)))) (O.and (O.and (O.cmp .eql (V 2 0) (W 2 0)) (O.and (O.cmp .eql (V 2 1) (W 2 1)) (O.cmp .eql (V 2 2) (W 2 2)))) (O.and (O.and (O.cmp .eql (V 3 0) (W 3 0)) (O.and (O.cmp .eql (V 3 1) (W 3 1)) (O.cmp .eql (V 3 2) (W 3 2)))) (O.and (O.and (O.cmp .eql (V 4 0) (W 4 0)) (O.and (O.cmp .eql (V 4 1) (W 4 1)) (O.cmp .eql (V 4 2) (W 4 2)))) (O.and (O.and (O.cmp .eql (V 5 0) (W 5 0)) (O.and (O.cmp .eql (V 5 1) (W 5 1)) (O.cmp .eql (V 5 2) (W 5 2)))) (O.and (O.and (O.cmp .eql (V 6 0) (W 6 0)) (O.and (O.cmp .eql (V 6 1) (W 6 1)) (O.cmp .eql (V 6 2) (W 6 2)))) (O.and (O.cmp .eql (V 7 0) (W 7 0)) (O.and (O.cmp .eql (V 7 1) (W 7 1)) (O.cmp .eql (V 7 2) (W 7 2))))))))))) = eqW V W := by
  subst hO
  rw [Bool.eq_iff_iff, eqW_iff]
  simp only [std, Bool.and_eq_true, beq_iff_eq]
  constructor
  · intro h b hb k hk
    rcases (by omega : b = 0 ∨ b = 1 ∨ b = 2 ∨ b = 3 ∨ b = 4 ∨ b = 5 ∨ b = 6 ∨ b = 7) with rfl | rfl | rfl | rfl | rfl | rfl | rfl | rfl <;> rcases (by omega : k = 0 ∨ k = 1 ∨ k = 2) with rfl | rfl | rfl <;> simp only [h]
  · intro h
    repeat' apply And.intro
    all_goals exact h _ (by omega) _ (by omega)
def FarmD.fgP (f : FarmD) (K : Nat → Int) (b : Nat) : Bool := f.dryN K f.trs f.trs.length b && f.trs.all fun l => decide (f.need b ≤ playF f (f.k0 f.nb) (zL l) b 1)
def FarmD.fgN (f : FarmD) (K : Nat → Int) (n : Nat) : List Nat := (List.range n).filter (f.fgP K)
set_option maxHeartbeats 16000000 in
theorem fg_core {f : FarmD} (hs : f.small) (w : Nat) (hw : w < f.nb) (n : Int) (hn : 0 ≤ n ∧ n ≤ 9) (h0 : f.opnE true = 0) : Pure Try.prog 39 [farmV f, iV (w : Int), iV n] (.tup [zV (nI (f.fgN (setK (f.k0 f.nb) w n) f.nb)), iV 0]) := by
  obtain ⟨O, hO⟩ : ∃ O : Ar, O = std := ⟨_, rfl⟩
  obtain ⟨hck, _, hne⟩ := f.opn_ok h0
  have g := good_of_check hck
  have hnb := g.nb
  have hnat : ∀ i : Nat, O.nat (Int.ofNat i) = i := fun i => by subst hO; rfl
  have e1 : Pure Try.prog 83 [farmV f, iV (w : Int)] (.lit (.bool true)) := (hasBed_ok f w).res (by
    rw [show (decide ((0 : Int) ≤ (w : Int)) && decide ((w : Int) < f.nb)) = true by simp; omega]
    exact fun φ u hv => by cases hv; exact .lit _)
  have e2 : Pure Try.prog 89 [iV n] (.lit (.bool true)) := (isNotch_ok n).res (by
    rw [show (decide ((0 : Int) ≤ n) && decide (n ≤ 9)) = true by simp; omega]
    exact fun φ u hv => by cases hv; exact .lit _)
  have e3 := (open_good hs h0).eqv (args := [farmV f, .lit (.bool true)]) (.cons (Eqv.refl _) (.cons (Eqv.litB true) .nil))
  have hlb := llV_below f.trs
  have hset := set90 f (N := f.trs.length) (gg := gT f.trs) hlb (f.k0 f.nb) w (by omega) n
  have hfe := feeds92 g f.trs (FarmD.trs_len g) (fun l hl => (f.trs_ch hl).1) (f.k0 f.nb)
  have hpl := fun K i (hi : i < f.trs.length) => play68 g (m := f.trs.length) (ex' := false) (h := gT f.trs) hlb K (l := f.trs.getD i []) (f.trs_ch (by rw [List.getD_eq_getElem?_getD, List.getElem?_eq_getElem hi]; exact List.getElem_mem hi)).1
  have hlen := FarmD.trs_len g
  change Pure Try.prog 90 [workV f (llV f.trs) (f.k0 f.nb), _, _] (workV f (llV f.trs) _) at hset
  change ∀ K i, i < f.trs.length → Pure Try.prog 68 [workV f (llV f.trs) K, gT f.trs i 0] (watersV (playF f K (zL (f.trs.getD i [])))) at hpl
  have hfg : ∀ b, f.fgP (setK (f.k0 f.nb) w n) b = (f.dryN (setK (f.k0 f.nb) w n) f.trs f.trs.length b && f.trs.all fun l => decide (f.need b ≤ playF f (f.k0 f.nb) (zL l) b 1)) := fun b => rfl
  have hdz := f.dryN_zero (setK (f.k0 f.nb) w n) f.trs
  have hds := f.dryN_succ (setK (f.k0 f.nb) w n) f.trs
  have hdr : ∀ i j, f.dr (setK (f.k0 f.nb) w n) (f.trs.getD i []) j = (!eqW (playF f (f.k0 f.nb) (zL (f.trs.getD i []))) (playF f (setK (f.k0 f.nb) w n) (zL (f.trs.getD i []))) && !decide (f.need j ≤ playF f (setK (f.k0 f.nb) w n) (zL (f.trs.getD i [])) j 1)) := fun i j => rfl
  have hfN : f.fgN (setK (f.k0 f.nb) w n) = fun m => (List.range m).filter (f.fgP (setK (f.k0 f.nb) w n)) := rfl
  have hcw := fun K => workC_below' f 0 (llV f.trs) K hlb
  obtain ⟨KK, hKK⟩ : ∃ K, f.k0 f.nb = K := ⟨_, rfl⟩
  obtain ⟨KM, hKM⟩ : ∃ K, setK (f.k0 f.nb) w n = K := ⟨_, rfl⟩
  rw [hKM] at hset hfg hdz hds hfN
  simp only [hKM] at hdr
  rw [hKK] at e3 hset hfe
  simp only [hKK] at hdr hfg
  rw [hKM]
  generalize f.fgN KM = FN at hfN ⊢
  generalize f.fgP KM = FP at hfg hfN
  generalize f.dryN KM f.trs = D at hdz hds hfg
  generalize f.dr KM = DR at hdr hds
  obtain ⟨S, hS⟩ : ∃ s, f.trs = s := ⟨_, rfl⟩
  rw [hS] at e3 hset hlb hfe hpl hds hfg hdr hcw hlen
  clear h0 hne hS
  obtain ⟨N, hN⟩ : ∃ N, S.length = N := ⟨_, rfl⟩
  obtain ⟨gg, hgg⟩ : ∃ g, gT S = g := ⟨_, rfl⟩
  have hll : llV S = .isl N 1 false gg := by rw [← hN, ← hgg]; rfl
  rw [hll] at e3 hset hlb
  rw [hll] at hfe
  simp only [hll, hgg] at hpl hcw
  rw [hN] at hpl hfg hlen
  have hbz : Below 0 (zV (nI (FN f.nb))) := zV_below _
  refine pure_of_body tok 4 Try.func39 en39 rfl ⟨farmV_below f, Below.lit, Below.lit, trivial⟩ (Below.tup (AllB.ok ⟨hbz, Below.lit, trivial⟩)) ?_
  refine SW.seqRun tok hO (by cbv <;> rfl) (by trivial) ?_
  refine SW.seq ((show SW Try.prog none _ (midK 94 ((9, iV 0) :: fgL w n) ⟨[(1, .cells none false (workC f (.isl N 1 false gg) KK)), (0, .cells none false (farmL f))], 2⟩) ⟨⟨94, _⟩, []⟩ _ from fg_r1g e1 e2 e3 _ ⟨rfl, rfl, rfl, trivial⟩).mono fun e fm st hm => ?_)
  obtain ⟨rfl, ts, rfl, ⟨g9, g1, g2, g3, g8, _⟩, rfl⟩ := hm
  simp only at g1 g2 g3 g8 g9
  rw [← updT_self g1, ← updT_self g2, ← updT_self g3, ← updT_self g8, ← updT_self g9]
  refine (show SW _ _ _ _ _ _ from ?_)
  refine SW.seq ?_
  refine SW.seqRun tok hO (by cbv <;> rfl) (by trivial) ?_
  refine SW.condS (by cbv <;> rfl) (fun h1 => ?_) (fun h1 => SW.skip ?_)
  · exfalso; subst hO; simp [std] at h1
  refine (show SW _ _ _ _ _ _ from ?_)
  refine SW.seqRun tok hO (by cbv <;> rfl) (by trivial) ?_
  refine OpsW.callP hset (by cbv <;> rfl) ?_
  refine OpsW.run tok hO (by cbv <;> rfl) (by trivial) ?_
  refine SW.seqRun tok hO (by cbv <;> rfl) (by trivial) ?_
  refine SW.seq ?_
  refine SW.seqRun tok hO (by cbv <;> rfl) (by trivial) ?_
  refine (SW.block (SW.loopF (fun c : Nat => ⟨⟨94, getT [(3, .ptr 0 0), (8, .ptr 1 0), (10, .ptr 2 0), (11, .ptr 3 0), (39, .isl N 1 false gg), (40, iV N), (41, iV c)]⟩, []⟩)
    (fun c => ⟨[(3, .cells none false (cells8B (D c))), (2, .cells none false (workC f (.isl N 1 false gg) KM)), (1, .cells none false (workC f (.isl N 1 false gg) KK)), (0, .cells none false (farmL f))], 4⟩) (fun c => N - c) (fun c => c ≤ N) 0
    (fun _ => rfl) (Nat.zero_le _) (Weak.by rfl rfl (by simp) (Nat.le_refl _) (Nat.le_refl _) ⟨⟨rfl, .inl rfl⟩, ⟨rfl, .inl rfl⟩, ⟨rfl, .inl rfl⟩, ⟨rfl, .inl rfl⟩, ⟨rfl, .inl rfl⟩, ⟨rfl, .inl rfl⟩, ⟨rfl, .inl rfl⟩, trivial⟩ ⟨⟨by rw [hdz]; rfl, by omega, .inl rfl⟩, ⟨rfl, by omega, .inl rfl⟩, ⟨rfl, by omega, .inl rfl⟩, ⟨rfl, by omega, .inl rfl⟩, trivial⟩) fun c hc => ?_))
  obtain ⟨M, hM⟩ : ∃ m, D c = m := ⟨_, rfl⟩
  rw [hM]
  refine SW.seqRun tok hO (by cbv <;> rfl) (by trivial) ?_
  refine SW.seq (SW.condS (by cbv <;> rfl) (fun h => SW.skip ?_) (fun h => SW.exit ?_))
  · have hlt : c < N := by
      have : (c : Int) < (N : Int) := by subst hO; simpa [std] using h
      omega
    have hl1 := hpl KK c hlt
    have hl2 := hpl KM c hlt
    have hzl : gg c 0 = intsV (S.getD c []).length false (zL (S.getD c [])) := by rw [← hgg]; rfl
    have hzO : gg (O.nat (Int.ofNat c)) 0 = intsV (S.getD c []).length false (zL (S.getD c [])) := by rw [hnat]; exact hzl
    rw [hzl] at hl1 hl2
    have hdrc := hdr c
    have hdsc := hds c
    rw [hM] at hdsc
    generalize (S.getD c []).length = m at hl1 hl2 hzO
    obtain ⟨V, hV⟩ : ∃ V, playF f KK (zL (S.getD c [])) = V := ⟨_, rfl⟩
    obtain ⟨W, hW⟩ : ∃ W, playF f KM (zL (S.getD c [])) = W := ⟨_, rfl⟩
    rw [hV] at hl1
    rw [hW] at hl2
    simp only [hV, hW] at hdrc
    generalize zL (S.getD c []) = fl at hl1 hl2 hzO
    generalize DR (S.getD c []) = DRc at hdrc hdsc
    refine SW.seq (SW.block ?_)
    refine SW.seqRun tok hO (by cbv <;> rfl) ?_ ?_
    · exact ⟨Int.natCast_nonneg c, Int.ofNat_lt.2 hlt⟩
    refine SW.seq ((show SW Try.prog none _ (midK 94 (fgM N c gg) _) ⟨⟨94, _⟩, []⟩ ⟨[(3, .cells none false (cells8B M)), (2, .cells none false (workC f (.isl N 1 false gg) KM)), (1, .cells none false (workC f (.isl N 1 false gg) KK)), (0, .cells none false (farmL f))], 4⟩ from fg_r9 hlb hl1 hl2 _ ⟨hzO, rfl, rfl, rfl, rfl, rfl, rfl, rfl, trivial⟩).mono fun e fm st hm => ?_)
    obtain ⟨rfl, ts, rfl, ⟨g3, g8, g10, g11, g39, g40, g41, g14, g15, _⟩, rfl⟩ := hm
    simp only at g3 g8 g10 g11 g39 g40 g41 g14 g15
    rw [← updT_self g3, ← updT_self g8, ← updT_self g10, ← updT_self g11, ← updT_self g39, ← updT_self g40, ← updT_self g41, ← updT_self g14, ← updT_self g15]
    refine (show SW _ _ _ _ _ _ from ?_)
    refine SW.seq ?_
    refine SW.seqRun tok hO (by cbv <;> rfl) (by trivial) ?_
    have hcn := hcw KK
    have hcm := hcw KM
    have hnx : ∀ M2 : Nat → Bool, D (c + 1) = M2 → ∀ (f' : Fm) (st' : St), Weak 4 f' st' ⟨⟨94, getT [(3, .ptr 0 0), (8, .ptr 1 0), (10, .ptr 2 0), (11, .ptr 3 0), (39, .isl N 1 false gg), (40, iV N), (41, iV ((c + 1 : Nat) : Int))]⟩, []⟩ ⟨[(3, .cells none false (cells8B M2)), (2, .cells none false (workC f (.isl N 1 false gg) KM)), (1, .cells none false (workC f (.isl N 1 false gg) KK)), (0, .cells none false (farmL f))], 4⟩ →
      ∃ x', N - x' < N - c ∧ x' ≤ N ∧ Weak 4 f' st' ⟨⟨94, getT [(3, .ptr 0 0), (8, .ptr 1 0), (10, .ptr 2 0), (11, .ptr 3 0), (39, .isl N 1 false gg), (40, iV N), (41, iV (x' : Int))]⟩, []⟩ ⟨[(3, .cells none false (cells8B (D x'))), (2, .cells none false (workC f (.isl N 1 false gg) KM)), (1, .cells none false (workC f (.isl N 1 false gg) KK)), (0, .cells none false (farmL f))], 4⟩ := fun M2 e f' st' h => ⟨c + 1, by omega, by omega, by rw [e]; exact h⟩
    refine SW.condS (by cbv <;> rfl) (fun h1 => ?_) (fun h1 => SW.skip ?_)
    · have hq : eqW V W = true := by rw [← eqW_of hO V W]; exact h1
      refine SW.exit ?_
      refine (show SW _ _ _ _ _ _ from ?_)
      refine SW.run tok hO (by cbv <;> rfl) (by trivial) ?_
      refine hnx M ?_ _ _ (Weak.by rfl rfl (by simp) (Nat.le_refl _) (by show 4 ≤ 6; omega) ⟨⟨rfl, .inr (Below.ptr (by omega))⟩, ⟨rfl, .inr (Below.ptr (by omega))⟩, ⟨rfl, .inr (Below.ptr (by omega))⟩, ⟨rfl, .inr (Below.ptr (by omega))⟩, ⟨rfl, .inr (Below.up (m := 0) hlb)⟩, ⟨rfl, .inr Below.lit⟩, ⟨inc_ok hO (by omega), .inr Below.lit⟩, trivial⟩
        ⟨⟨rfl, by omega, .inr ⟨cells8B_below 4 M, fun _ h => nomatch h⟩⟩, ⟨rfl, by omega, .inr (ob_cells hcm)⟩, ⟨rfl, by omega, .inr (ob_cells hcn)⟩, ⟨rfl, by omega, .inr (ob_cells (farmL_below f))⟩, trivial⟩)
      rw [hdsc]
      funext j
      rw [hdrc, hq]; simp
    · have hq : eqW V W = false := by rw [← eqW_of hO V W]; exact h1
      simp only [hq, Bool.not_false, Bool.true_and] at hdrc
      refine (show SW _ _ _ _ _ _ from ?_)
      refine SW.seqRun tok hO (by cbv <;> rfl) (by trivial) ?_
      refine (SW.block (SW.loopF (fun i : Nat => ⟨⟨94, getT [(3, .ptr 0 0), (8, .ptr 1 0), (10, .ptr 2 0), (11, .ptr 3 0), (15, .ptr 5 0), (39, .isl N 1 false gg), (40, iV N), (41, iV c), (56, iV f.nb), (57, iV i)]⟩, []⟩)
        (fun i => ⟨[(5, .cells none false (cells24 W)), (3, .cells none false (cells8B fun j => M j || (decide (j < i) && !decide (f.need j ≤ W j 1)))), (2, .cells none false (workC f (.isl N 1 false gg) KM)), (1, .cells none false (workC f (.isl N 1 false gg) KK)), (0, .cells none false (farmL f))], 6⟩) (fun i => f.nb - i) (fun i => i ≤ f.nb) 0
        (fun _ => rfl) (Nat.zero_le _) (Weak.by rfl rfl (by simp) (Nat.le_refl _) (Nat.le_refl _) ⟨⟨rfl, .inl rfl⟩, ⟨rfl, .inl rfl⟩, ⟨rfl, .inl rfl⟩, ⟨rfl, .inl rfl⟩, ⟨rfl, .inl rfl⟩, ⟨rfl, .inl rfl⟩, ⟨rfl, .inl rfl⟩, ⟨rfl, .inl rfl⟩, ⟨rfl, .inl rfl⟩, ⟨rfl, .inl rfl⟩, trivial⟩ ⟨⟨rfl, by omega, .inl rfl⟩, ⟨by simp; rfl, by omega, .inl rfl⟩, ⟨rfl, by omega, .inl rfl⟩, ⟨rfl, by omega, .inl rfl⟩, ⟨rfl, by omega, .inl rfl⟩, trivial⟩) fun i hi => ?_))
      obtain ⟨Mi, hMi⟩ : ∃ m : Nat → Bool, (fun j => M j || (decide (j < i) && !decide (f.need j ≤ W j 1))) = m := ⟨_, rfl⟩
      rw [hMi]
      have hms : (fun j => M j || (decide (j < i + 1) && !decide (f.need j ≤ W j 1))) = fun j => if j = i then (Mi i || !decide (f.need i ≤ W i 1)) else Mi j := by
        rw [← hMi]; funext j
        by_cases hj : j = i
        · subst hj; simp
        · rw [if_neg hj, show decide (j < i + 1) = decide (j < i) from by rw [decide_eq_decide]; omega]
      refine SW.seqRun tok hO (by cbv <;> rfl) (by trivial) ?_
      refine SW.seq (SW.condS (by cbv <;> rfl) (fun h => SW.skip ?_) (fun h => SW.exit ?_))
      · have hib : i < f.nb := by
          have : (i : Int) < (f.nb : Int) := by subst hO; simpa [std] using h
          omega
        have hsel : O.selB [Mi 0, Mi 1, Mi 2, Mi 3, Mi 4, Mi 5, Mi 6, Mi 7] (O.nat (Int.ofNat i)) = Mi i := by
          subst hO; exact selB8 Mi _ (show i < 8 by omega)
        have hfd := isFed91 f W i hib hnb
        generalize decide (f.need i ≤ W i 1) = Q at hfd hms
        refine SW.seq (SW.block ?_)
        refine SW.seqRun tok hO (by cbv <;> rfl) (by trivial) ?_
        have h8 : O.nat (Int.ofNat i) < 8 := by rw [hnat]; omega
        have fin : ∀ (b : Bool) (l : List AV), b = (Mi i || !Q) → l = [.sb (O.upsB 0 (O.nat (Int.ofNat i)) b (Mi 0)), .sb (O.upsB 1 (O.nat (Int.ofNat i)) b (Mi 1)), .sb (O.upsB 2 (O.nat (Int.ofNat i)) b (Mi 2)), .sb (O.upsB 3 (O.nat (Int.ofNat i)) b (Mi 3)), .sb (O.upsB 4 (O.nat (Int.ofNat i)) b (Mi 4)), .sb (O.upsB 5 (O.nat (Int.ofNat i)) b (Mi 5)), .sb (O.upsB 6 (O.nat (Int.ofNat i)) b (Mi 6)), .sb (O.upsB 7 (O.nat (Int.ofNat i)) b (Mi 7))] →
            l = cells8B fun j => M j || (decide (j < i + 1) && !decide (f.need j ≤ W j 1)) := fun b l hb hl => by
          have hk : ∀ j, (if j = i then (Mi i || !Q) else Mi j) = O.upsB j (O.nat (Int.ofNat i)) b (Mi j) := fun j => by
            rw [hnat, ← hb]
            subst hO
            simp only [std]
            by_cases hj : j = i
            · subst hj; simp
            · rw [if_neg hj, if_neg (by omega)]
          rw [hms, hl]
          simp only [cells8B, hk]
        have hinx : ∀ (f' : Fm) (st' : St), Weak 6 f' st' ⟨⟨94, getT [(3, .ptr 0 0), (8, .ptr 1 0), (10, .ptr 2 0), (11, .ptr 3 0), (15, .ptr 5 0), (39, .isl N 1 false gg), (40, iV N), (41, iV c), (56, iV f.nb), (57, iV ((i + 1 : Nat) : Int))]⟩, []⟩ ⟨[(5, .cells none false (cells24 W)), (3, .cells none false (cells8B fun j => M j || (decide (j < i + 1) && !decide (f.need j ≤ W j 1)))), (2, .cells none false (workC f (.isl N 1 false gg) KM)), (1, .cells none false (workC f (.isl N 1 false gg) KK)), (0, .cells none false (farmL f))], 6⟩ →
          ∃ x', f.nb - x' < f.nb - i ∧ x' ≤ f.nb ∧ Weak 6 f' st' ⟨⟨94, getT [(3, .ptr 0 0), (8, .ptr 1 0), (10, .ptr 2 0), (11, .ptr 3 0), (15, .ptr 5 0), (39, .isl N 1 false gg), (40, iV N), (41, iV c), (56, iV f.nb), (57, iV (x' : Int))]⟩, []⟩ ⟨[(5, .cells none false (cells24 W)), (3, .cells none false (cells8B fun j => M j || (decide (j < x') && !decide (f.need j ≤ W j 1)))), (2, .cells none false (workC f (.isl N 1 false gg) KM)), (1, .cells none false (workC f (.isl N 1 false gg) KK)), (0, .cells none false (farmL f))], 6⟩ := fun f' st' h => ⟨i + 1, by omega, by omega, h⟩
        refine SW.run tok hO (by cbv <;> rfl) ?_ ?_
        · exact ⟨h8, Int.natCast_nonneg i, by show (i : Int) < ((8 : Nat) : Int); omega⟩
        refine OpsW.splitG (by cbv <;> rfl) (fun h1 => ?_) (fun h1 => ?_)
        · have hMt : Mi i = true := by rw [← hsel]; exact h1
          refine OpsW.run tok hO (by cbv <;> rfl) ?_ ?_
          · exact ⟨h8, Int.natCast_nonneg i, by show (i : Int) < ((8 : Nat) : Int); omega⟩
          refine SW.run tok hO (by cbv <;> rfl) (by trivial) ?_
          refine hinx _ _ (Weak.by rfl rfl (by simp) (Nat.le_refl _) (Nat.le_refl _) ⟨⟨rfl, .inl rfl⟩, ⟨rfl, .inl rfl⟩, ⟨rfl, .inl rfl⟩, ⟨rfl, .inl rfl⟩, ⟨rfl, .inl rfl⟩, ⟨rfl, .inl rfl⟩, ⟨rfl, .inl rfl⟩, ⟨rfl, .inl rfl⟩, ⟨rfl, .inl rfl⟩, ⟨inc_ok hO (by omega), .inl rfl⟩, trivial⟩
            ⟨⟨rfl, by omega, .inl rfl⟩, ⟨congrArg (fun l => some (AObj.cells none false l)) (fin true _ (by rw [hMt]; rfl) rfl), by omega, .inl rfl⟩, ⟨rfl, by omega, .inl rfl⟩, ⟨rfl, by omega, .inl rfl⟩, ⟨rfl, by omega, .inl rfl⟩, trivial⟩)
        · have hMf : Mi i = false := by rw [← hsel]; exact h1
          refine OpsW.run tok hO (by cbv <;> rfl) (by trivial) ?_
          refine OpsW.callP hfd (by cbv <;> rfl) ?_
          refine OpsW.run tok hO (by cbv <;> rfl) ?_ ?_
          · exact ⟨h8, Int.natCast_nonneg i, by show (i : Int) < ((8 : Nat) : Int); omega⟩
          refine SW.run tok hO (by cbv <;> rfl) (by trivial) ?_
          refine hinx _ _ (Weak.by rfl rfl (by simp) (Nat.le_refl _) (Nat.le_refl _) ⟨⟨rfl, .inl rfl⟩, ⟨rfl, .inl rfl⟩, ⟨rfl, .inl rfl⟩, ⟨rfl, .inl rfl⟩, ⟨rfl, .inl rfl⟩, ⟨rfl, .inl rfl⟩, ⟨rfl, .inl rfl⟩, ⟨rfl, .inl rfl⟩, ⟨rfl, .inl rfl⟩, ⟨inc_ok hO (by omega), .inl rfl⟩, trivial⟩
            ⟨⟨rfl, by omega, .inl rfl⟩, ⟨congrArg (fun l => some (AObj.cells none false l)) (fin (O.not Q) _ (by rw [hMf]; subst hO; rfl) rfl), by omega, .inl rfl⟩, ⟨rfl, by omega, .inl rfl⟩, ⟨rfl, by omega, .inl rfl⟩, ⟨rfl, by omega, .inl rfl⟩, trivial⟩)
      · have hz : i = f.nb := by
          have : (f.nb : Int) ≤ (i : Int) := by subst hO; simpa [std] using h
          omega
        refine (show SW _ _ _ _ _ _ from ?_)
        refine SW.run tok hO (by cbv <;> rfl) (by trivial) ?_
        refine hnx Mi ?_ _ _ (Weak.by rfl rfl (by simp) (Nat.le_refl _) (by show 4 ≤ 6; omega) ⟨⟨rfl, .inr (Below.ptr (by omega))⟩, ⟨rfl, .inr (Below.ptr (by omega))⟩, ⟨rfl, .inr (Below.ptr (by omega))⟩, ⟨rfl, .inr (Below.ptr (by omega))⟩, ⟨rfl, .inr (Below.up (m := 0) hlb)⟩, ⟨rfl, .inr Below.lit⟩, ⟨inc_ok hO (by omega), .inr Below.lit⟩, trivial⟩
          ⟨⟨rfl, by omega, .inr ⟨cells8B_below 4 Mi, fun _ h => nomatch h⟩⟩, ⟨rfl, by omega, .inr (ob_cells hcm)⟩, ⟨rfl, by omega, .inr (ob_cells hcn)⟩, ⟨rfl, by omega, .inr (ob_cells (farmL_below f))⟩, trivial⟩)
        rw [hdsc, ← hMi, hz]
        funext j
        rw [hdrc]
  · have hz : c = N := by
      have : (N : Int) ≤ (c : Int) := by subst hO; simpa [std] using h
      omega
    rw [← hz, hM] at hfg
    have hcn := hcw KK
    have hsuc : ∀ i, FN (i + 1) = if FP i = true then FN i ++ [i] else FN i := fun i => by rw [hfN]; exact filter_succ i
    have hle : ∀ i, (FN i).length ≤ i := fun i => by rw [hfN]; exact Nat.le_trans (List.length_filter_le _ _) (by rw [List.length_range]; exact Nat.le_refl _)
    have hz0 : FN 0 = [] := by rw [hfN]; rfl
    refine (show SW _ _ _ _ _ _ from ?_)
    refine SW.seqRun tok hO (by cbv <;> rfl) (by trivial) ?_
    refine SW.seq ?_
    refine SW.seqRun tok hO (by cbv <;> rfl) (by trivial) ?_
    refine (SW.block (SW.loopR (fun i : Nat => ⟨⟨94, (getT [(3, .ptr 0 0), (8, .ptr 1 0), (11, .ptr 3 0), (17, slG 4 1 (FN i).length), (76, iV f.nb), (77, iV i)])⟩, []⟩) (fun i => ⟨[(3, .cells none false (cells8B M)), (1, .cells none false (workC f (.isl N 1 false gg) KK)), (0, .cells none false (farmL f))] ++ objG 4 1 (lC (FN i)) (FN i).length, 5⟩) (fun i => f.nb - i) (fun i => i ≤ f.nb) 0 (Nat.zero_le _) (ren1 4 4) ?_ fun i hi => ?_))
    · rw [hz0]
      refine WeakR.up rfl rfl (by simp) (Nat.le_refl _) (.inl rfl) (by show 4 ≤ 5; omega) ⟨RenV.ptr (by omega), RenV.ptr (by omega), RenV.ptr (by omega), RenV.closed Below.lit, RenV.closed Below.lit, RenV.closed Below.lit, trivial⟩ ⟨⟨by omega, _, rfl, .cells (RenVs.closed (cells8B_below 0 M)), .inr rfl⟩, ⟨by omega, _, rfl, .cells (RenVs.closed hcn), .inr rfl⟩, ⟨by omega, _, rfl, .cells (RenVs.closed (farmL_below f)), .inr rfl⟩, trivial⟩ (fun p hp => by cases hp)
    have hWs := hsuc i
    have hLi := hle i
    obtain ⟨W, hW⟩ : ∃ W, FN i = W := ⟨_, rfl⟩
    rw [hW] at hWs hLi
    show SW _ _ _ _ ⟨⟨94, (getT [(3, .ptr 0 0), (8, .ptr 1 0), (11, .ptr 3 0), (17, slG 4 1 (FN i).length), (76, iV f.nb), (77, iV i)])⟩, []⟩ ⟨[(3, .cells none false (cells8B M)), (1, .cells none false (workC f (.isl N 1 false gg) KK)), (0, .cells none false (farmL f))] ++ objG 4 1 (lC (FN i)) (FN i).length, 5⟩
    rw [hW]
    obtain ⟨X, hX⟩ : ∃ X, slG 4 1 W.length = X := ⟨_, rfl⟩
    obtain ⟨B, hB⟩ : ∃ B, objG 4 1 (lC W) W.length = B := ⟨_, rfl⟩
    rw [hX, hB]
    refine SW.seqRun tok hO (by cbv <;> rfl) (by trivial) ?_
    refine SW.seq (SW.condS (by cbv <;> rfl) (fun h => SW.skip ?_) (fun h => SW.exit ?_))
    · have hib : i < f.nb := by
        have : (i : Int) < (f.nb : Int) := by subst hO; simpa [std] using h
        omega
      have hsel : O.selB [M 0, M 1, M 2, M 3, M 4, M 5, M 6, M 7] (O.nat (Int.ofNat i)) = M i := by
        subst hO; exact selB8 M _ (show i < 8 by omega)
      have h8 : O.nat (Int.ofNat i) < 8 := by rw [hnat]; omega
      have hfi := hfe i hib
      have hfgi := hfg i
      generalize (S.all fun l => decide (f.need i ≤ playF f KK (zL l) i 1)) = A at hfi hfgi
      have hnx : ∀ W' : List Nat, FN (i + 1) = W' → ∀ (f' : Fm) (st' : St) (ρ : Nat → Nat), WeakR 4 ρ f' st' ⟨⟨94, (getT [(3, .ptr 0 0), (8, .ptr 1 0), (11, .ptr 3 0), (17, slG 4 1 W'.length), (76, iV f.nb), (77, iV ((i + 1 : Nat) : Int))])⟩, []⟩ ⟨[(3, .cells none false (cells8B M)), (1, .cells none false (workC f (.isl N 1 false gg) KK)), (0, .cells none false (farmL f))] ++ objG 4 1 (lC W') W'.length, 5⟩ →
          ∃ x', f.nb - x' < f.nb - i ∧ x' ≤ f.nb ∧ ∃ ρ, WeakR 4 ρ f' st' ⟨⟨94, (getT [(3, .ptr 0 0), (8, .ptr 1 0), (11, .ptr 3 0), (17, slG 4 1 (FN x').length), (76, iV f.nb), (77, iV (x' : Int))])⟩, []⟩ ⟨[(3, .cells none false (cells8B M)), (1, .cells none false (workC f (.isl N 1 false gg) KK)), (0, .cells none false (farmL f))] ++ objG 4 1 (lC (FN x')) (FN x').length, 5⟩ := fun W' e f' st' ρ h => ⟨i + 1, by omega, by omega, ρ, by rw [e]; exact h⟩
      have hno : FP i = false → ∀ (f' : Fm) (st' : St), WeakR 4 (ren1 4 4) f' st' ⟨⟨94, (getT [(3, .ptr 0 0), (8, .ptr 1 0), (11, .ptr 3 0), (17, slG 4 1 W.length), (76, iV f.nb), (77, iV ((i + 1 : Nat) : Int))])⟩, []⟩ ⟨[(3, .cells none false (cells8B M)), (1, .cells none false (workC f (.isl N 1 false gg) KK)), (0, .cells none false (farmL f))] ++ objG 4 1 (lC W) W.length, 5⟩ →
          ∃ x', f.nb - x' < f.nb - i ∧ x' ≤ f.nb ∧ ∃ ρ, WeakR 4 ρ f' st' ⟨⟨94, (getT [(3, .ptr 0 0), (8, .ptr 1 0), (11, .ptr 3 0), (17, slG 4 1 (FN x').length), (76, iV f.nb), (77, iV (x' : Int))])⟩, []⟩ ⟨[(3, .cells none false (cells8B M)), (1, .cells none false (workC f (.isl N 1 false gg) KK)), (0, .cells none false (farmL f))] ++ objG 4 1 (lC (FN x')) (FN x').length, 5⟩ := fun e f' st' h => hnx W (by rw [hWs, if_neg (by rw [e]; simp)]) f' st' _ h
      have hkeep : ∀ (f' : Fm) (st' : St), f'.ts.len = 94 → f'.dm = [] → 5 ≤ st'.n → f'.ts.get 3 = .ptr 0 0 → f'.ts.get 8 = .ptr 1 0 → f'.ts.get 11 = .ptr 3 0 → f'.ts.get 17 = X → f'.ts.get 76 = iV f.nb → f'.ts.get 77 = .lit (.int .i64 (O.bin .add .i64 (Int.ofNat i) 1)) → st'.h = [(3, .cells none false (cells8B M)), (1, .cells none false (workC f (.isl N 1 false gg) KK)), (0, .cells none false (farmL f))] ++ B → WeakR 4 (ren1 4 4) f' st' ⟨⟨94, (getT [(3, .ptr 0 0), (8, .ptr 1 0), (11, .ptr 3 0), (17, slG 4 1 W.length), (76, iV f.nb), (77, iV ((i + 1 : Nat) : Int))])⟩, []⟩ ⟨[(3, .cells none false (cells8B M)), (1, .cells none false (workC f (.isl N 1 false gg) KK)), (0, .cells none false (farmL f))] ++ objG 4 1 (lC W) W.length, 5⟩ := fun f' st' k1 k2 k3 k4 k5 k6 k7 k8 k9 k10 => by
        obtain ⟨⟨len, get⟩, dm⟩ := f'
        obtain ⟨hh, nn⟩ := st'
        simp only at k1 k2 k3 k4 k5 k6 k7 k8 k9 k10
        subst k1 k2 k10
        have hXr : RenV (ren1 4 4) 5 (slG 4 1 W.length) (get 17) := by
          rw [k7, ← hX]
          cases hL : W.length with
          | zero => exact RenV.closed Below.lit
          | succ L => exact RenV.sl (by omega)
        refine WeakR.up rfl rfl (by simp) (Nat.le_refl _) (.inl rfl) (by show 4 ≤ 5; omega) ⟨by show RenV _ _ _ (get 3); rw [k4]; exact RenV.ptr (by omega), by show RenV _ _ _ (get 8); rw [k5]; exact RenV.ptr (by omega), by show RenV _ _ _ (get 11); rw [k6]; exact RenV.ptr (by omega), hXr, by show RenV _ _ _ (get 76); rw [k8]; exact RenV.closed Below.lit, by show RenV _ _ _ (get 77); rw [k9]; exact RenV.inc hO (by omega), trivial⟩ ⟨⟨by omega, _, rfl, .cells (RenVs.closed (cells8B_below 0 M)), .inr rfl⟩, ⟨by omega, _, rfl, .cells (RenVs.closed hcn), .inr rfl⟩, ⟨by omega, _, rfl, .cells (RenVs.closed (farmL_below f)), .inr rfl⟩, trivial⟩ (fun p hp => ?_)
        rw [← hB]
        have := objG_mem hp
        cases hL : W.length with
        | zero => rw [hL] at hp; cases hp
        | succ L =>
          rw [hL] at this
          subst this
          exact ⟨by omega, _, rfl, .cells (RenVs.closed (flatG_below (lC_below W) _)), .inl rfl⟩
      refine SW.seq (SW.block ?_)
      refine SW.seqRun tok hO (by cbv <;> rfl) (by trivial) ?_
      refine SW.seqRun tok hO (by cbv <;> rfl) ?_ ?_
      · exact ⟨h8, Int.natCast_nonneg i, by show (i : Int) < ((8 : Nat) : Int); omega⟩
      refine OpsW.splitG (by cbv <;> rfl) (fun h1 => ?_) (fun h1 => ?_)
      · have hMt : M i = true := by rw [← hsel]; exact h1
        rw [hMt, Bool.true_and] at hfgi
        refine OpsW.run tok hO (by cbv <;> rfl) (by trivial) ?_
        refine OpsW.callP hfi (by cbv <;> rfl) ?_
        refine OpsW.run tok hO (by cbv <;> rfl) (by trivial) ?_
        refine SW.condS (by cbv <;> rfl) (fun h2 => ?_) (fun h2 => SW.skip ?_)
        · have hAt : A = true := h2
          rw [hfgi, if_pos hAt] at hWs
          have happ := lC_app W i
          obtain ⟨g2, hg2⟩ : ∃ g, lC (W ++ [i]) = g := ⟨_, rfl⟩
          have hlen2 : (W ++ [i]).length = W.length + 1 := by rw [List.length_append, List.length_singleton]
          have hb2 : ∀ a b, Below 0 (g2 a b) := fun a b => by rw [← hg2]; exact lC_below _ _ _
          obtain ⟨g1, hg1⟩ : ∃ g, lC W = g := ⟨_, rfl⟩
          clear hkeep hno
          rw [hg1] at hB happ
          rw [hg2, hlen2] at happ
          have hnx := hnx _ hWs
          rw [hlen2, hg2] at hnx
          obtain ⟨L, hL⟩ : ∃ L, W.length = L := ⟨_, rfl⟩
          rw [hL] at happ hX hB hnx hLi
          cases L with
          | zero =>
            subst hX hB
            refine SW.runN tok hO 3 (by cbv <;> rfl) (by trivial) ?_
            refine OpsW.appNil tok (by cbv <;> rfl) (by rfl) (by kernel_rfl) (by rfl) (by rfl) ?_
            refine OpsW.run tok hO (by cbv <;> rfl) (by trivial) ?_
            refine SW.run tok hO (by cbv <;> rfl) (by trivial) ?_
            refine hnx _ _ (ren1 4 6) ?_
            refine WeakR.up rfl rfl (by simp) (Nat.le_refl _) (.inr (by omega)) (by show 4 ≤ 5; omega) ⟨RenV.ptr (by omega), RenV.ptr (by omega), RenV.ptr (by omega), RenV.sl (by omega), RenV.closed Below.lit, RenV.inc hO (by omega), trivial⟩ ⟨⟨by omega, _, rfl, .cells (RenVs.closed (cells8B_below 0 M)), .inr rfl⟩, ⟨by omega, _, rfl, .cells (RenVs.closed hcn), .inr rfl⟩, ⟨by omega, _, rfl, .cells (RenVs.closed (farmL_below f)), .inr rfl⟩, trivial⟩ (fun p hp => ?_)
            obtain rfl := objG_mem hp
            exact ⟨by omega, _, rfl, .cells (RenVs.of_eq happ (flatG_below hb2 1)), .inl rfl⟩
          | succ L =>
            obtain ⟨G, hG⟩ : ∃ G, G = flatG 1 g1 (L + 1) := ⟨_, rfl⟩
            have hGo : objG 4 1 g1 (L + 1) = [(4, .cells none false G)] := by rw [hG]; rfl
            rw [hGo] at hB
            subst hX hB
            refine SW.runN tok hO 3 (by cbv <;> rfl) (by trivial) ?_
            refine OpsW.appOne (g := g1) tok (by cbv <;> rfl) (by rfl) (by rfl) hG (by kernel_rfl) (by rfl) (by rfl) (by omega) fun G' hG' => ?_
            refine OpsW.run tok hO (by cbv <;> rfl) (by trivial) ?_
            refine SW.run tok hO (by cbv <;> rfl) (by trivial) ?_
            refine hnx _ _ (ren1 4 6) ?_
            refine WeakR.up rfl rfl (by simp) (Nat.le_refl _) (.inr (by omega)) (by show 4 ≤ 5; omega) ⟨RenV.ptr (by omega), RenV.ptr (by omega), RenV.ptr (by omega), RenV.sl (by omega), RenV.closed Below.lit, RenV.inc hO (by omega), trivial⟩ ⟨⟨by omega, _, rfl, .cells (RenVs.closed (cells8B_below 0 M)), .inr rfl⟩, ⟨by omega, _, rfl, .cells (RenVs.closed hcn), .inr rfl⟩, ⟨by omega, _, rfl, .cells (RenVs.closed (farmL_below f)), .inr rfl⟩, trivial⟩ (fun p hp => ?_)
            obtain rfl := objG_mem hp
            exact ⟨by omega, _, rfl, .cells (RenVs.of_eq (hG'.trans happ) (flatG_below hb2 (L + 1 + 1))), .inl rfl⟩
        · have hAf : A = false := h2
          refine SW.run tok hO (by cbv <;> rfl) (by trivial) ?_
          exact hno (by rw [hfgi, hAf]) _ _ (hkeep _ _ rfl rfl (Nat.le_refl _) rfl rfl rfl rfl rfl rfl rfl)
      · have hMf : M i = false := by rw [← hsel]; exact h1
        refine OpsW.run tok hO (by cbv <;> rfl) (by trivial) ?_
        refine SW.condS (by cbv <;> rfl) (fun h2 => absurd h2 (by decide)) (fun h2 => SW.skip ?_)
        refine SW.run tok hO (by cbv <;> rfl) (by trivial) ?_
        exact hno (by rw [hfgi, hMf]; rfl) _ _ (hkeep _ _ rfl rfl (Nat.le_refl _) rfl rfl rfl rfl rfl rfl rfl)
    · have hzi : i = f.nb := by
        have : (f.nb : Int) ≤ (i : Int) := by subst hO; simpa [std] using h
        omega
      refine (show SW _ _ _ _ _ _ from ?_)
      refine SW.seqRun tok hO (by cbv <;> rfl) (by trivial) ?_
      refine SW.ret ⟨_, _, rfl, rfl, ?_⟩
      rw [← hzi, hW, ← hX, ← hB]
      refine Eqv.tup (.cons ?_ (.cons (Eqv.refl _) .nil))
      cases hL : W.length with
      | zero => unfold zV; rw [nI_len, hL]; exact Eqv.nil
      | succ L =>
        unfold zV
        rw [nI_len, hL]
        show Eqv (frz _ _ 3 (.sl 4 0 (L + 1) 1 false)) _
        rw [frz_slE (fm := none) (G := flatG 1 (lC W) (L + 1)) rfl rfl (by rw [flatG_length]; omega)]
        exact Eqv.isl rfl fun i' k hi' hk => Eqv.of (frz_flat hi' hk rfl)
end Go.Fz
set_option linter.unusedVariables false
namespace Go.Fz
open Go.Proofs
set_option maxRecDepth 100000
def ntchB (n : Int) : Bool := decide (0 ≤ n) && decide (n ≤ 9)
def FarmD.fgE (f : FarmD) (w n : Int) : Int := f.opnE (f.hasB w && ntchB n)
def FarmD.fgV (f : FarmD) (w n : Int) : AV := if f.fgE w n = 0 then zV (nI (f.fgN (setK (f.k0 f.nb) w.toNat n) f.nb)) else nl3
set_option maxHeartbeats 8000000 in
theorem fg_bad1 {f : FarmD} (w n : Int) {E : Int} (hE : E ≠ 0) (hr : ∀ g : Nat → AV, AllP (fun p => g p.1 = p.2) [(1, iV w), (2, iV n), (3, .ptr 0 0)] → SW Try.prog none (nthC 1 (bodyF Try.f39)) (midK 94 ((9, iV E) :: fgL w n) ⟨[(1, .cells none false workC0), (0, .cells none false (farmL f))], 2⟩) ⟨⟨94, g⟩, []⟩ ⟨[(0, .cells none false (farmL f))], 1⟩) : Pure Try.prog 39 [farmV f, iV w, iV n] (.tup [nl3, iV E]) := by
  obtain ⟨O, hO⟩ : ∃ O : Ar, O = std := ⟨_, rfl⟩
  refine pure_of_body tok 4 Try.func39 en39 rfl ⟨farmV_below f, Below.lit, Below.lit, trivial⟩ (Below.tup (AllB.ok ⟨Below.lit, Below.lit, trivial⟩)) ?_
  refine SW.seqRun tok hO (by cbv <;> rfl) (by trivial) ?_
  refine SW.seq ((show SW Try.prog none _ (midK 94 ((9, iV E) :: fgL w n) ⟨[(1, .cells none false workC0), (0, .cells none false (farmL f))], 2⟩) ⟨⟨94, _⟩, []⟩ _ from hr _ ⟨rfl, rfl, rfl, trivial⟩).mono fun e fm st hm => ?_)
  obtain ⟨rfl, ts, rfl, ⟨g9, g1, g2, g3, g8, _⟩, rfl⟩ := hm
  simp only at g1 g2 g3 g8 g9
  rw [← updT_self g1, ← updT_self g2, ← updT_self g3, ← updT_self g8, ← updT_self g9]
  refine (show SW _ _ _ _ _ _ from ?_)
  refine SW.seq ?_
  refine SW.seqRun tok hO (by cbv <;> rfl) (by trivial) ?_
  refine SW.condS (by cbv <;> rfl) (fun h1 => ?_) (fun h1 => ?_)
  · refine SW.seqRun tok hO (by cbv <;> rfl) (by trivial) ?_
    exact SW.ret ⟨_, _, rfl, rfl, Eqv.refl _⟩
  · exfalso
    exact hE (by subst hO; simpa [std] using h1)
theorem Eqv.litS (b : Bool) : Eqv (.sb b) (.lit (.bool b)) := fun φ u hv => by cases hv; exact .lit _
theorem forgotten39 {f : FarmD} (hs : f.small) (w n : Int) : Pure Try.prog 39 [farmV f, iV w, iV n] (.tup [f.fgV w n, iV (f.fgE w n)]) := by
  by_cases h0 : f.fgE w n = 0
  · obtain ⟨_, hB, _⟩ := f.opn_ok h0
    rw [show f.fgV w n = zV (nI (f.fgN (setK (f.k0 f.nb) w.toNat n) f.nb)) from if_pos h0, h0]
    have hw : 0 ≤ w ∧ w < f.nb ∧ 0 ≤ n ∧ n ≤ 9 := by
      simp only [FarmD.hasB, ntchB, Bool.and_eq_true, decide_eq_true_eq] at hB
      exact ⟨hB.1.1, hB.1.2, hB.2.1, hB.2.2⟩
    obtain ⟨b, rfl⟩ : ∃ b : Nat, w = (b : Int) := ⟨w.toNat, by omega⟩
    have h1 : f.opnE true = 0 := by rw [← hB]; exact h0
    exact fg_core hs b (by omega) n ⟨hw.2.2.1, hw.2.2.2⟩ h1
  · rw [show f.fgV w n = nl3 from if_neg h0]
    have e1 : Pure Try.prog 83 [farmV f, iV w] (.sb (f.hasB w)) := hasBed_ok f w
    have e2 : Pure Try.prog 89 [iV n] (.sb (ntchB n)) := isNotch_ok n
    have e3 := open_bad hs h0
    have hE : f.opnE (f.hasB w && ntchB n) = f.fgE w n := rfl
    rw [hE] at e3
    refine fg_bad1 w n h0 fun g hg => ?_
    cases hb : f.hasB w with
    | true =>
      rw [hb] at e1 e3
      rw [Bool.true_and] at e3
      exact fg_r1t (e1.res (Eqv.litS true)) e2 e3 g hg
    | false =>
      rw [hb] at e1 e3
      rw [Bool.false_and] at e3
      exact fg_r1f (e1.res (Eqv.litS false)) (e3.eqv (args := [farmV f, .lit (.bool false)]) (.cons (Eqv.refl _) (.cons (Eqv.litB false) .nil))) g hg
end Go.Fz
