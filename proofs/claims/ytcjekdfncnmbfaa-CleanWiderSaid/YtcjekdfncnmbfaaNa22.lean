/- Own work of the verifier of watercress: FzCl47, FzCl48, FzCl49, FzCl50, FzCl51. -/
import Derived.Test.YtcjekdfncnmbfaaNa21
set_option linter.unusedVariables false
set_option linter.unusedSimpArgs false
set_option linter.unusedVariables false
namespace Go.Fz
open Go.Proofs
set_option maxRecDepth 100000
theorem sub_sorted : ∀ {M L : List Nat}, L.Pairwise (· < ·) → M.Pairwise (· < ·) → (∀ b ∈ L, b ∈ M) → L.Sublist M
  | _, [], _, _, _ => List.nil_sublist _
  | [], a :: L, _, _, h => by have := h a List.mem_cons_self; cases this
  | m :: M, a :: L, hL, hM, h => by
    have hL' := List.pairwise_cons.1 hL
    have hM' := List.pairwise_cons.1 hM
    by_cases e : a = m
    · subst e
      refine List.Sublist.cons_cons a (sub_sorted hL'.2 hM'.2 fun b hb => ?_)
      rcases List.mem_cons.1 (h b (List.mem_cons_of_mem _ hb)) with e | e
      · have := hL'.1 b hb; omega
      · exact e
    · have ha : a ∈ M := (List.mem_cons.1 (h a List.mem_cons_self)).resolve_left e
      have hma := hM'.1 a ha
      refine List.Sublist.cons m (sub_sorted hL hM'.2 fun b hb => ?_)
      rcases List.mem_cons.1 (h b hb) with e1 | e1
      · rcases List.mem_cons.1 hb with e2 | e2
        · omega
        · have := hL'.1 b e2; omega
      · exact e1
theorem busy_sub (y : YardD) {L M : List Nat} (h : L.Sublist M) (f : Nat → Int) (w : Int) : y.busyP L f w ≤ y.busyP M f w := (h.filter _).length_le
theorem YardD.can_sub (y : YardD) {L M : List Nat} (hL : L.Pairwise (· < ·)) (hM : M.Pairwise (· < ·)) (h : ∀ b ∈ L, b ∈ M) (hc : y.canL M = true) : y.canL L = true := by
  obtain ⟨g, _, hg⟩ := (y.canL_iff hM).1 hc
  obtain ⟨g', hg'⟩ : ∃ g' : Nat → Int, g' = fun b => if b ∈ L then g b else 0 := ⟨_, rfl⟩
  have e : ∀ b ∈ L, g' b = g b := fun b hb => by rw [hg']; exact if_pos hb
  refine (y.canL_iff hL).2 ⟨g', fun b hb => by rw [hg']; exact if_neg hb, ?_⟩
  have hs := sub_sorted hL hM h
  refine ⟨fun b hb => ?_, fun b hb => ?_, fun w ⟨b, hb, hm⟩ => ?_, fun b hb h0 hb1 w hm => ?_⟩
  · rw [e b hb]; exact hg.rng b (h b hb)
  · rw [e b hb]; exact hg.fin b (h b hb)
  · rw [mt_congr y (e b hb)] at hm
    have h1 := hg.few w ⟨b, h b hb, hm⟩
    have h2 := busy_sub y hs g w
    rw [busy_congr y e]
    omega
  · rw [mt_congr y (e b hb)] at hm
    rw [mt_congr y (e (b - 1) hb1)]
    exact hg.apt b (h b hb) h0 (h _ hb1) w hm
theorem blL_self (l : List Nat) : blL l.length (fun j => ((l.getD j 0 : Nat) : Int)) = l := by
  apply List.ext_getElem?
  intro i
  unfold blL
  rw [List.getElem?_map]
  by_cases hi : i < l.length
  · rw [List.getElem?_range hi, List.getElem?_eq_getElem hi]
    simp [List.getD_eq_getElem?_getD, List.getElem?_eq_getElem hi]
  · rw [List.getElem?_eq_none (by simpa using hi), List.getElem?_eq_none (by omega)]; rfl
theorem allN_isB {y : YardD} {l : List Nat} (h1 : l.Pairwise (· < ·)) (h2 : ∀ p ∈ l, p < y.nb) : allN l.length (y.isB fun j => ((l.getD j 0 : Nat) : Int)) = true := by
  refine decide_eq_true fun i hi => ?_
  have hg : ∀ j, (hj : j < l.length) → l.getD j 0 = l[j] := fun j hj => by rw [List.getD_eq_getElem?_getD, List.getElem?_eq_getElem hj]; rfl
  simp only [YardD.isB, YardD.hasB, Bool.and_eq_true, Bool.or_eq_true, decide_eq_true_eq]
  refine ⟨⟨Int.natCast_nonneg _, ?_⟩, ?_⟩
  · rw [hg i hi]
    exact Int.ofNat_lt.2 (h2 _ (List.getElem_mem hi))
  · by_cases e : i = 0
    · exact .inl e
    · refine .inr ?_
      rw [hg i hi, hg (i - 1) (by omega)]
      exact Int.ofNat_lt.2 (List.pairwise_iff_getElem.1 h1 (i - 1) i (by omega) hi (by omega))
theorem prove_ls {y : YardD} (hc : y.check = 0) {l : List Nat} (h1 : l.Pairwise (· < ·)) (h2 : ∀ p ∈ l, p < y.nb) (h3 : l.length < 1000) : Pure Try.prog 35 [yardV y, lsV l] (.sb (!y.canL l)) := by
  have hn := (y.fit_of_check hc).1.nb
  have hk := (y.fit_of_check hc).2.2.2.2.2.1
  have h := prove_ok y (by omega) (by omega) l.length false (fun j => ((l.getD j 0 : Nat) : Int)) (by omega)
  have e : y.proveB l.length (fun j => ((l.getD j 0 : Nat) : Int)) = !y.canL l := by
    unfold YardD.proveB
    rw [allN_isB h1 h2, blL_self, decide_eq_true hc]
    simp
  rw [e] at h
  exact h
theorem prove_bits {y : YardD} (hc : y.check = 0) {o : Int} (h0 : 0 ≤ o) (h1 : o < 2 ^ y.nb) : Pure Try.prog 35 [yardV y, lsV (selL o 6)] (.sb (!y.canL (selL o 6))) ∧ selL o 6 ∈ risL y.nb := by
  have hn := (y.fit_of_check hc).1.nb
  have h64 : o < 64 := by
    have : (2 : Int) ^ y.nb ≤ 2 ^ 6 := by
      have : (2 : Nat) ^ y.nb ≤ 2 ^ 6 := Nat.pow_le_pow_right (by omega) hn
      exact_mod_cast this
    omega
  have hr := oth_fin6 ⟨y.nb, by omega⟩ ⟨o.toNat, by omega⟩ (by
    have : ((o.toNat : Nat) : Int) = o := by omega
    have h2 : ((o.toNat : Nat) : Int) < ((2 ^ y.nb : Nat) : Int) := by rw [this]; exact_mod_cast h1
    exact_mod_cast h2)
  have e : (((⟨o.toNat, by omega⟩ : Fin 64).1 : Nat) : Int) = o := by show ((o.toNat : Nat) : Int) = o; omega
  rw [e] at hr
  exact ⟨prove_ls hc (ris_ok hn hr).1 (ris_ok hn hr).2 (Nat.lt_of_le_of_lt (selL_len o 6) (by omega)), hr⟩
theorem prf_cases {y : YardD} (hc : y.check = 0) : (y.prfV = (nl3, 7) ∧ ∀ l ∈ risL y.nb, y.canL l = true) ∨ ∃ pre l post, y.prfV = (lsV l, 0) ∧ risL y.nb = pre ++ l :: post ∧ (∀ l' ∈ pre, y.canL l' = true) ∧ y.canL l = false := by
  unfold YardD.prfV
  rw [if_pos hc]
  cases hf : (risL y.nb).find? (fun l => !y.canL l) with
  | none =>
    refine .inl ⟨rfl, fun l hl => ?_⟩
    have := List.find?_eq_none.1 hf l hl
    simpa using this
  | some l =>
    obtain ⟨h1, pre, post, h2, h3⟩ := List.find?_eq_some_iff_append.1 hf
    exact .inr ⟨pre, l, post, rfl, h2, fun l' hl' => by simpa using h3 l' hl', by simpa using h1⟩
theorem ready_check {y : YardD} (h : y.readyB = true) : y.check = 0 := by
  unfold YardD.readyB at h
  rw [Bool.and_eq_true, decide_eq_true_eq] at h
  rw [check_eq]; exact h.2
end Go.Fz
set_option linter.unusedVariables false
namespace Go.Fz
open Go.Proofs
set_option maxRecDepth 100000
theorem mskL_snoc (l : List Nat) (i : Nat) (hi : i < l.length) : mskL (l.take (i + 1)) = std.bin .or .i64 (mskL (l.take i)) (std.bin .shl .i64 1 (std.conv .u64 (lI l i))) := by
  unfold mskL
  rw [List.take_add_one, List.getElem?_eq_getElem hi]
  simp only [Option.toList_some, List.foldl_append, List.foldl_cons, List.foldl_nil]
  unfold lI
  rw [List.getD_eq_getElem?_getD, List.getElem?_eq_getElem hi]
  rfl
theorem sub1N {O : Ar} (hO : O = std) {i : Nat} (h : i < 1000) : O.bin .sub .i64 (Int.ofNat i) 1 = (i : Int) - 1 := by
  subst hO
  show sub64 ((i : Nat) : Int) 1 = _
  rw [sub64_in _ _ (by omega) (by omega)]
theorem natsub1 {O : Ar} (hO : O = std) {i : Nat} (h : i < 1000) (h0 : 0 < i) : O.nat (O.bin .sub .i64 (Int.ofNat i) 1) = i - 1 := by
  rw [sub1N hO h]; subst hO
  show ((i : Int) - 1).toNat = i - 1
  omega
theorem sub1_rng {O : Ar} (hO : O = std) {i N : Nat} (h : i < 1000) (h0 : 0 < i) (hN : i < N) : 0 ≤ O.bin .sub .i64 (Int.ofNat i) 1 ∧ O.bin .sub .i64 (Int.ofNat i) 1 < (N : Int) := by
  rw [sub1N hO h]; omega
theorem gtr0 {O : Ar} (hO : O = std) {i : Nat} (h : O.cmp .gtr (Int.ofNat i) 0 = true) : 0 < i := by
  have : (i : Int) > 0 := by subst hO; simpa [std] using h
  omega
theorem leq_no {O : Ar} (hO : O = std) {a b : Int} (h : O.cmp .leq a b = true) (hab : b < a) : False := by
  have : a ≤ b := by subst hO; simpa [std] using h
  omega
set_option maxHeartbeats 8000000 in
theorem isBeds_ok (y : YardD) (hn : y.nb ≤ 6) (l : List Nat) (h1 : l.Pairwise (· < ·)) (h2 : ∀ p ∈ l, p < y.nb) (hl : l.length < 1000) : Pure Try.prog 36 [yardV y, lsV l] (.tup [iV (mskL l), .lit (.bool true)]) := by
  obtain ⟨O, hO⟩ : ∃ O : Ar, O = std := ⟨_, rfl⟩
  have hnat : ∀ i : Nat, O.nat (Int.ofNat i) = i := fun i => by subst hO; rfl
  have hlI : ∀ i, i < l.length → 0 ≤ lI l i ∧ lI l i < y.nb ∧ (0 < i → lI l (i - 1) < lI l i) := fun i hi => by
    have hg : ∀ j, (hj : j < l.length) → l.getD j 0 = l[j] := fun j hj => by rw [List.getD_eq_getElem?_getD, List.getElem?_eq_getElem hj]; rfl
    unfold lI
    refine ⟨Int.natCast_nonneg _, ?_, fun h0 => ?_⟩
    · rw [hg i hi]; exact Int.ofNat_lt.2 (h2 _ (List.getElem_mem hi))
    · rw [hg i hi, hg (i - 1) (by omega)]
      exact Int.ofNat_lt.2 (List.pairwise_iff_getElem.1 h1 (i - 1) i (by omega) hi (by omega))
  have hm0 : mskL (l.take 0) = 0 := rfl
  have hms := fun i (hi : i < l.length) => mskL_snoc l i hi
  have hmL : mskL (l.take l.length) = mskL l := by rw [List.take_length]
  obtain ⟨M, hM⟩ : ∃ M : Nat → Int, M = fun i => mskL (l.take i) := ⟨_, rfl⟩
  have hM0 : M 0 = 0 := by rw [hM]; exact hm0
  have hMs : ∀ i, i < l.length → M (i + 1) = O.bin .or .i64 (M i) (O.bin .shl .i64 1 (O.conv .u64 (lI l i))) := fun i hi => by rw [hM, hO]; exact hms i hi
  have hML : M l.length = mskL l := by rw [hM]; exact hmL
  rw [← hML]
  have hlv : lsV l = intsV l.length false (lI l) := rfl
  rw [hlv]
  clear hM hm0 hms hmL hML hlv h1 h2
  obtain ⟨FL, hFL⟩ : ∃ f, lI l = f := ⟨_, rfl⟩
  obtain ⟨N, hN⟩ : ∃ n, l.length = n := ⟨_, rfl⟩
  rw [hFL, hN] at hlI hMs
  rw [hN] at hl
  rw [hFL, hN]
  have hconv : ∀ i, i < N → 0 ≤ O.conv .u64 (FL i) := fun i hi => by
    have := hlI i hi
    subst hO
    show 0 ≤ wrp .u64 (FL i)
    rw [wrp_in (by simp only [IntKind.lo]; omega) (by simp only [IntKind.hi]; omega)]
    omega
  have hsub : O.bin .sub .i64 (Int.ofNat y.nb) 1 = (y.nb : Int) - 1 := by
    subst hO
    show sub64 ((y.nb : Nat) : Int) 1 = _
    rw [sub64_in _ _ (by omega) (by omega)]
  refine pure_of_body tok 3 Try.func36 en36 rfl ⟨yardV_below y, intsV_below _ _ _, trivial⟩ (Below.tup (AllB.ok ⟨Below.lit, Below.lit, trivial⟩)) ?_
  refine SW.seqRun tok hO (by cbv <;> rfl) (by trivial) ?_
  refine SW.seqRun tok hO (by cbv <;> rfl) (by trivial) ?_
  refine SW.seq ?_
  refine SW.seqRun tok hO (by cbv <;> rfl) (by trivial) ?_
  refine (SW.block (SW.loopF (fun i : Nat => ⟨⟨49, getT [(1, intsV N false FL), (2, .ptr 0 0), (6, iV (M i)), (7, iV i)]⟩, []⟩) (fun _ => ⟨[(0, .cells none false (yardC y))], 1⟩) (fun i => N - i) (fun i => i ≤ N) 0
    (fun _ => rfl) (Nat.zero_le _) (Weak.by rfl rfl (by simp) (Nat.le_refl _) (Nat.le_refl _) ⟨⟨rfl, .inl rfl⟩, ⟨rfl, .inl rfl⟩, ⟨by show iV 0 = iV (M 0); rw [hM0], .inl rfl⟩, ⟨rfl, .inl rfl⟩, trivial⟩ ⟨⟨rfl, by omega, .inl rfl⟩, trivial⟩) fun i hi => ?_))
  have hMi := hMs i
  obtain ⟨m, hm⟩ : ∃ m, M i = m := ⟨_, rfl⟩
  rw [hm] at hMi
  show SW _ _ _ _ ⟨⟨49, getT [(1, intsV N false FL), (2, .ptr 0 0), (6, iV (M i)), (7, iV i)]⟩, []⟩ _
  rw [hm]
  have hni : O.nat (Int.ofNat i) = i := hnat i
  refine SW.seq ?_
  refine SW.seqRun tok hO (by cbv <;> rfl) (by trivial) ?_
  refine SW.condS (by cbv <;> rfl) (fun h => SW.skip ?_) (fun h => SW.exit ?_)
  · have hlt : i < N := by
      have : (i : Int) < (N : Int) := by subst hO; simpa [std] using h
      omega
    obtain ⟨k1, k2, k3⟩ := hlI i hlt
    have k0 : (0 : Int) ≤ Int.ofNat i := Int.natCast_nonneg i
    have kN : Int.ofNat i < Int.ofNat N := Int.ofNat_lt.2 hlt
    refine SW.seq (SW.block ?_)
    refine SW.seq ?_
    refine SW.seqRunD tok mixed hO (by kernel_rfl) (by cbv <;> rfl) ?_ ?_
    · exact ⟨k0, kN⟩
    refine AnyE.callD (in_ok (FL (O.nat (Int.ofNat i))) 0 (O.bin .sub .i64 (Int.ofNat y.nb) 1)) (by cbv <;> rfl) (by cbv <;> rfl) (fun h3 => ?_) (fun h3 => ?_)
    rotate_left
    · exfalso
      rw [hni, hsub] at h3
      unfold inB at h3
      rw [Bool.and_eq_false_iff, decide_eq_false_iff_not, decide_eq_false_iff_not] at h3
      omega
    refine AnyE.run tok hO (by kernel_rfl) (by cbv <;> rfl) (by trivial) ?_
    have hbig : i < 4611686018427387904 := Nat.lt_trans hlt (Nat.lt_trans hl (by decide))
    have hcv : 0 ≤ O.conv .u64 (FL (O.nat (Int.ofNat i))) := by rw [hni]; exact hconv i hlt
    have hnext : ∀ (f' : Fm) (st' : St), Weak 1 f' st' ⟨⟨49, getT [(1, intsV N false FL), (2, .ptr 0 0), (6, iV (M (i + 1))), (7, iV ((i + 1 : Nat) : Int))]⟩, []⟩ ⟨[(0, .cells none false (yardC y))], 1⟩ → ∃ x', N - x' < N - i ∧ x' ≤ N ∧ Weak 1 f' st' ⟨⟨49, getT [(1, intsV N false FL), (2, .ptr 0 0), (6, iV (M x')), (7, iV (x' : Nat))]⟩, []⟩ ⟨[(0, .cells none false (yardC y))], 1⟩ := fun f' st' h => ⟨i + 1, by omega, by omega, h⟩
    have hMi2 : M (i + 1) = O.bin .or .i64 m (O.bin .shl .i64 1 (O.conv .u64 (FL (O.nat (Int.ofNat i))))) := by rw [hni]; exact hMi hlt
    refine AnyE.dec tok hO (by kernel_rfl) (by cbv <;> rfl) (by trivial) (fun h4 => ?_) (fun h4 => ?_)
    · have hi0 : 0 < i := gtr0 hO h4
      have hq := sub1_rng hO (Nat.lt_trans hlt hl) hi0 hlt
      have hns := natsub1 hO (Nat.lt_trans hlt hl) hi0
      have k3 := k3 hi0
      refine AnyE.run tok hO (by kernel_rfl) (by cbv <;> rfl) ?_ ?_
      · exact ⟨hq, ⟨k0, kN⟩⟩
      refine AnyE.dec tok hO (by kernel_rfl) (by cbv <;> rfl) (by trivial) (fun h5 => ?_) (fun h5 => ?_)
      · exfalso
        have h6 : O.cmp .leq (FL (O.nat (Int.ofNat i))) (FL (O.nat (O.bin .sub .i64 (Int.ofNat i) 1))) = true := h5
        rw [hni, hns] at h6
        exact leq_no hO h6 k3
      · refine AnyE.run tok hO (by kernel_rfl) (by cbv <;> rfl) (by trivial) ?_
        refine SW.cond (t := false) (by cbv <;> rfl) (SW.skip ?_)
        refine SW.run tok hO (by cbv <;> rfl) ?_ ?_
        · exact ⟨hcv, ⟨k0, kN⟩⟩
        refine SW.run tok hO (by cbv <;> rfl) (by trivial) ?_
        refine hnext _ _ ?_
        rw [hMi2]
        exact Weak.by rfl rfl (by simp) (Nat.le_refl _) (Nat.le_refl _) ⟨⟨rfl, .inl rfl⟩, ⟨rfl, .inl rfl⟩, ⟨rfl, .inl rfl⟩, ⟨inc_ok hO hbig, .inl rfl⟩, trivial⟩ ⟨⟨rfl, Nat.zero_lt_one, .inl rfl⟩, trivial⟩
    · refine AnyE.run tok hO (by kernel_rfl) (by cbv <;> rfl) (by trivial) ?_
      refine SW.cond (t := false) (by cbv <;> rfl) (SW.skip ?_)
      refine SW.run tok hO (by cbv <;> rfl) ?_ ?_
      · exact ⟨hcv, ⟨k0, kN⟩⟩
      refine SW.run tok hO (by cbv <;> rfl) (by trivial) ?_
      refine hnext _ _ ?_
      rw [hMi2]
      exact Weak.by rfl rfl (by simp) (Nat.le_refl _) (Nat.le_refl _) ⟨⟨rfl, .inl rfl⟩, ⟨rfl, .inl rfl⟩, ⟨rfl, .inl rfl⟩, ⟨inc_ok hO hbig, .inl rfl⟩, trivial⟩ ⟨⟨rfl, Nat.zero_lt_one, .inl rfl⟩, trivial⟩
  · have hz : i = N := by
      have : (N : Int) ≤ (i : Int) := by subst hO; simpa [std] using h
      omega
    subst hz
    rw [hm]
    refine SW.seqRun tok hO (by cbv <;> rfl) (by trivial) ?_
    exact SW.ret ⟨_, _, rfl, rfl, Eqv.of rfl⟩
end Go.Fz
set_option linter.unusedVariables false
namespace Go.Fz
open Go.Proofs
set_option maxRecDepth 100000
set_option maxHeartbeats 4000000 in
theorem thin_any (y : YardD) : Pure Try.prog 17 [yardV y] (.sb y.thinB) := by
  by_cases hbc : y.nb ≤ 8 ∧ y.nc ≤ 8
  · exact thin_ok y (by omega) (by omega)
  obtain ⟨O, hO⟩ : ∃ O : Ar, O = std := ⟨_, rfl⟩
  have hq : y.thinB = (decide (y.nb ≤ 8) && decide (y.nc ≤ 8) && (decide (y.faultN ≠ 0) || decide (mnB y.blo y.bhi (allI y.nb) y.nb ≤ 500))) := rfl
  have hq2 : y.thinB = false := by
    rw [hq, ← Bool.decide_and, decide_eq_false hbc]; rfl
  rw [hq2]
  refine pure_of_body tok 3 Try.func17 en17 rfl ⟨yardV_below y, trivial⟩ Below.sb ?_
  refine SW.seqRun tok hO (by cbv <;> rfl) (by trivial) ?_
  refine SW.seqRunD tok mixed hO (by rfl) (by cbv <;> rfl) (by trivial) ?_
  refine AnyE.dec tok hO (by rfl) (by cbv <;> rfl) (by trivial) (fun h1 => ?_) (fun h1 => ?_)
  · have k1 : y.nb ≤ 8 := by
      have : (y.nb : Int) ≤ 8 := by subst hO; simpa [std] using h1
      omega
    refine AnyE.run tok hO (by rfl) (by cbv <;> rfl) (by trivial) ?_
    refine AnyE.dec tok hO (by rfl) (by cbv <;> rfl) (by trivial) (fun h2 => ?_) (fun h2 => ?_)
    · have k2 : y.nc ≤ 8 := by
        have : (y.nc : Int) ≤ 8 := by subst hO; simpa [std] using h2
        omega
      exact absurd ⟨k1, k2⟩ hbc
    · refine AnyE.run tok hO (by rfl) (by cbv <;> rfl) (by trivial) ?_
      exact SW.ret ⟨_, _, rfl, rfl, Eqv.bool rfl⟩
  · refine AnyE.run tok hO (by rfl) (by cbv <;> rfl) (by trivial) ?_
    exact SW.ret ⟨_, _, rfl, rfl, Eqv.bool rfl⟩
theorem thin_small {y : YardD} (h : y.thinB = true) : y.nb ≤ 8 ∧ y.nc ≤ 8 := by
  unfold YardD.thinB at h
  simp only [Bool.and_eq_true, decide_eq_true_eq] at h
  exact h.1
theorem ready_small {y : YardD} (h : y.readyB = true) : y.nb ≤ 8 ∧ y.nc ≤ 8 := by
  unfold YardD.readyB at h
  rw [Bool.and_eq_true] at h
  exact thin_small h.1
set_option maxHeartbeats 4000000 in
theorem ready_any (y : YardD) : Pure Try.prog 45 [yardV y] (.sb y.readyB) := by
  cases hT : y.thinB with
  | true => have := thin_small hT; exact ready_ok y (by omega) (by omega)
  | false =>
    obtain ⟨O, hO⟩ : ∃ O : Ar, O = std := ⟨_, rfl⟩
    have e1 := thin_any y
    have hq : y.readyB = (y.thinB && decide (y.faultN = 0)) := rfl
    rw [hT] at e1 hq
    generalize y.readyB = Q at hq ⊢
    refine pure_of_body tok 3 Try.func45 en45 rfl ⟨yardV_below y, trivial⟩ Below.sb ?_
    refine SW.seqRun tok hO (by cbv <;> rfl) (by trivial) ?_
    refine SW.seqRun tok hO (by cbv <;> rfl) (by trivial) ?_
    refine OpsW.callP e1 (by cbv <;> rfl) ?_
    refine OpsW.run tok hO (by cbv <;> rfl) (by trivial) ?_
    refine OpsW.splitG (by cbv <;> rfl) (fun h1 => ?_) (fun h1 => ?_) <;> refine OpsW.run tok hO (by cbv <;> rfl) (by trivial) ?_
    · cases h1
    · refine SW.ret ⟨_, _, rfl, rfl, Eqv.bool ?_⟩
      rw [hq]; rfl
def byI (b : Int) (n : Nat) : Int := std.bin .and .i64 (std.conv .i64 b) (allI n)
theorem byI_rng {b : Int} (h0 : 0 ≤ b) (h1 : b ≤ 255) {n : Nat} (hn : n ≤ 6) : 0 ≤ byI b n ∧ byI b n < 2 ^ n := by
  have h := byte_fin6 ⟨b.toNat, by omega⟩ ⟨n, by omega⟩
  have e : ((b.toNat : Nat) : Int) = b := by omega
  simp only [e] at h
  exact h
theorem pow_le6 {n : Nat} (hn : n ≤ 6) : (2 : Int) ^ n ≤ 64 := by
  have : (2 : Nat) ^ n ≤ 2 ^ 6 := Nat.pow_le_pow_right (by omega) hn
  exact_mod_cast this
theorem orI_rng {s t : Int} {n : Nat} (hn : n ≤ 6) (hs : 0 ≤ s ∧ s < 2 ^ n) (ht : 0 ≤ t ∧ t < 2 ^ n) : 0 ≤ std.bin .or .i64 s t ∧ std.bin .or .i64 s t < 2 ^ n := by
  have h2 := pow_le6 hn
  have e1 : ((s.toNat : Nat) : Int) = s := by omega
  have e2 : ((t.toNat : Nat) : Int) = t := by omega
  have h := or_fin6 ⟨s.toNat, by omega⟩ ⟨t.toNat, by omega⟩ ⟨n, by omega⟩ (by
    have : ((s.toNat : Nat) : Int) < ((2 ^ n : Nat) : Int) := by rw [e1]; exact_mod_cast hs.2
    exact_mod_cast this) (by
    have : ((t.toNat : Nat) : Int) < ((2 ^ n : Nat) : Int) := by rw [e2]; exact_mod_cast ht.2
    exact_mod_cast this)
  simp only [e1, e2] at h
  exact h
theorem selL_mem6 {o : Int} {j : Nat} : j ∈ selL o 6 ↔ j < 6 ∧ bitB o j = true := selL_mem o j 6
theorem selL_or {s t : Int} (hs : 0 ≤ s ∧ s < 64) (ht : 0 ≤ t ∧ t < 64) : ∀ b ∈ selL s 6, b ∈ selL (std.bin .or .i64 s t) 6 := fun j hj => by
  obtain ⟨h6, hj⟩ := selL_mem6.1 hj
  refine selL_mem6.2 ⟨h6, ?_⟩
  have h := orb_fin6 ⟨s.toNat, by omega⟩ ⟨t.toNat, by omega⟩ ⟨j, h6⟩
  have e1 : ((s.toNat : Nat) : Int) = s := by omega
  have e2 : ((t.toNat : Nat) : Int) = t := by omega
  simp only [e1, e2] at h
  rw [h, hj]; rfl
theorem more_proof {y : YardD} (hc : y.check = 0) {s t : Int} (hs : 0 ≤ s ∧ s < 2 ^ y.nb) (ht : 0 ≤ t ∧ t < 2 ^ y.nb) (h : (!y.canL (selL s 6)) = true) : (!y.canL (selL (std.bin .or .i64 s t) 6)) = true := by
  have hn := (y.fit_of_check hc).1.nb
  have h6 := pow_le6 hn
  have hu := orI_rng hn hs ht
  have r1 := (ris_ok hn (prove_bits hc hs.1 hs.2).2).1
  have r2 := (ris_ok hn (prove_bits hc hu.1 hu.2).2).1
  cases hh : y.canL (selL (std.bin .or .i64 s t) 6) with
  | false => rfl
  | true =>
    rw [y.can_sub r1 r2 (selL_or ⟨hs.1, by omega⟩ ⟨ht.1, by omega⟩) hh] at h
    cases h
end Go.Fz
set_option linter.unusedVariables false
namespace Go.Fz
open Go.Proofs
set_option maxRecDepth 100000
def trueQ (fn : Func) : Exit → Fm → St → Prop := retQ T fn (fun v st' => Eqv (frz st'.h (fun _ => true) 3 v) (.lit (.bool true)))
set_option maxHeartbeats 8000000 in
theorem cp_loop (haw : Pure Try.prog 18 [] (.lit (.bool true))) (y : YardD) (M : Int) (N : Nat) (FL : Nat → Int) (hN : N < 1000) (e20 : Pure Try.prog 20 [yardV y] (yardV y)) (hFL : ∀ i, i < N → 0 ≤ FL i ∧ FL i < 64)
    (hl : ∀ i, i < N → ∃ LS, Pure Try.prog 52 [iV (std.bin .sub .i64 M (std.bin .shl .i64 1 (std.conv .u64 (FL i))))] LS ∧ Pure Try.prog 35 [yardV y, LS] (.sb false))
    (gg : Nat → AV) (h : AllP (fun p => gg p.1 = p.2) [(3, .ptr 0 0), (7, intsV N false FL), (11, iV M)]) :
    SW Try.prog none (restC 9 (bodyF Try.f10)) (trueQ Try.f10) ⟨⟨104, gg⟩, []⟩ ⟨[(0, .cells none false (yardC y))], 1⟩ := by
  obtain ⟨O, hO⟩ : ∃ O : Ar, O = std := ⟨_, rfl⟩
  obtain ⟨g1, g2, g3, _⟩ := h
  simp only at g1 g2 g3
  rw [← updT_self g1, ← updT_self g2, ← updT_self g3]
  have hnat : ∀ i : Nat, O.nat (Int.ofNat i) = i := fun i => by subst hO; rfl
  rw [← hO] at hl
  have hconv : ∀ i, i < N → 0 ≤ O.conv .u64 (FL i) := fun i hi => by
    have := hFL i hi
    subst hO
    show 0 ≤ wrp .u64 (FL i)
    rw [wrp_in (by simp only [IntKind.lo]; omega) (by simp only [IntKind.hi]; omega)]
    omega
  refine (show SW Try.prog none (.seq (.seq (.region _ _ _) _) _) _ _ _ from ?_)
  refine SW.seq ?_
  refine SW.seqRun tok hO (by cbv <;> rfl) (by trivial) ?_
  refine (SW.block (SW.loopF (fun i : Nat => ⟨⟨104, getT [(3, .ptr 0 0), (7, intsV N false FL), (11, iV M), (13, iV i)]⟩, []⟩) (fun _ => ⟨[(0, .cells none false (yardC y))], 1⟩) (fun i => N - i) (fun i => i ≤ N) 0
    (fun _ => rfl) (Nat.zero_le _) (Weak.by rfl rfl (by simp) (Nat.le_refl _) (Nat.le_refl _) ⟨⟨rfl, .inl rfl⟩, ⟨rfl, .inl rfl⟩, ⟨rfl, .inl rfl⟩, ⟨rfl, .inl rfl⟩, trivial⟩ ⟨⟨rfl, by omega, .inl rfl⟩, trivial⟩) fun i hi => ?_))
  show SW _ _ _ _ ⟨⟨104, getT [(3, .ptr 0 0), (7, intsV N false FL), (11, iV M), (13, iV i)]⟩, []⟩ _
  have hni : O.nat (Int.ofNat i) = i := hnat i
  refine SW.seq ?_
  refine SW.seqRun tok hO (by cbv <;> rfl) (by trivial) ?_
  refine SW.condS (by cbv <;> rfl) (fun h => SW.skip ?_) (fun h => SW.exit ?_)
  · have hlt : i < N := by
      have : (i : Int) < (N : Int) := by subst hO; simpa [std] using h
      omega
    obtain ⟨LS, e52, e35⟩ := hl i hlt
    have hcv := hconv i hlt
    have k0 : (0 : Int) ≤ Int.ofNat i := Int.natCast_nonneg i
    have kN : Int.ofNat i < Int.ofNat N := Int.ofNat_lt.2 hlt
    rw [← hni] at e52 hcv
    refine SW.seq (SW.block ?_)
    refine SW.seqRunD tok mixed hO (by kernel_rfl) (by cbv <;> rfl) (by trivial) ?_
    refine AnyE.callP e20 (by cbv <;> rfl) (by cbv <;> rfl) ?_
    refine AnyE.run tok hO (by kernel_rfl) (by cbv <;> rfl) (by trivial) ?_
    refine AnyE.callP e52 (by cbv <;> rfl) (by cbv <;> rfl) ?_
    refine AnyE.run tok hO (by kernel_rfl) (by cbv <;> rfl) (by trivial) ?_
    refine AnyE.callP e35 (by cbv <;> rfl) (by cbv <;> rfl) ?_
    refine AnyE.run tok hO (by kernel_rfl) (by cbv <;> rfl) (by trivial) ?_
    refine SW.condS (by cbv <;> rfl) (fun h => by cases h) (fun h => SW.skip ?_)
    refine SW.run tok hO (by cbv <;> rfl) (by trivial) ?_
    have hbig : i < 4611686018427387904 := Nat.lt_trans hlt (Nat.lt_trans hN (by decide))
    exact ⟨i + 1, by omega, by omega, Weak.by rfl rfl (by simp) (Nat.le_refl _) (Nat.le_refl _) ⟨⟨rfl, .inl rfl⟩, ⟨rfl, .inl rfl⟩, ⟨rfl, .inl rfl⟩, ⟨inc_ok hO hbig, .inl rfl⟩, trivial⟩ ⟨⟨rfl, Nat.zero_lt_one, .inl rfl⟩, trivial⟩⟩
  · refine SW.seqRun tok hO (by cbv <;> rfl) (by trivial) ?_
    refine OpsW.callP haw (by cbv <;> rfl) ?_
    refine OpsW.run tok hO (by cbv <;> rfl) (by trivial) ?_
    exact SW.ret ⟨_, _, rfl, rfl, Eqv.of rfl⟩
set_option maxHeartbeats 8000000 in
theorem cp_tailB (haw : Pure Try.prog 18 [] (.lit (.bool true))) (y : YardD) (M : Int) (N : Nat) (FL : Nat → Int) (hN : N < 1000) (e20 : Pure Try.prog 20 [yardV y] (yardV y)) (hFL : ∀ i, i < N → 0 ≤ FL i ∧ FL i < 64)
    (hl : ∀ i, i < N → ∃ LS, Pure Try.prog 52 [iV (std.bin .sub .i64 M (std.bin .shl .i64 1 (std.conv .u64 (FL i))))] LS ∧ Pure Try.prog 35 [yardV y, LS] (.sb false))
    (t : Int) (LT : AV) (BT SH : Bool) (e52 : Pure Try.prog 52 [iV t] LT) (e36 : Pure Try.prog 36 [yardV y, intsV N false FL] (.tup [iV M, .lit (.bool true)])) (e35 : Pure Try.prog 35 [yardV y, intsV N false FL] (.sb true)) (e22 : Pure Try.prog 22 [intsV N false FL] (intsV N false FL))
    (e53 : Pure Try.prog 53 [LT, intsV N false FL] (.sb SH)) (hSH : BT = true → SH = false)
    (gg : Nat → AV) (h : AllP (fun p => gg p.1 = p.2) [(3, .ptr 0 0), (7, intsV N false FL), (8, iV 0), (9, iV t), (10, .lit (.bool BT))]) :
    SW Try.prog none (restC 6 (bodyF Try.f10)) (trueQ Try.f10) ⟨⟨104, gg⟩, []⟩ ⟨[(0, .cells none false (yardC y))], 1⟩ := by
  have hloop := cp_loop haw y M N FL hN e20 hFL hl
  obtain ⟨O, hO⟩ : ∃ O : Ar, O = std := ⟨_, rfl⟩
  obtain ⟨g1, g2, g3, g4, g5, _⟩ := h
  simp only at g1 g2 g3 g4 g5
  rw [← updT_self g1, ← updT_self g2, ← updT_self g3, ← updT_self g4, ← updT_self g5]
  refine (show SW Try.prog none (.seq (.seq (.region _ _ _) _) _) _ _ _ from ?_)
  refine SW.seq ?_
  refine SW.seqRun tok hO (by cbv <;> rfl) (by trivial) ?_
  refine SW.condS (by cbv <;> rfl) (fun h => by subst hO; simp [std] at h) (fun h => SW.skip ?_)
  refine SW.seqRun tok hO (by cbv <;> rfl) (by trivial) ?_
  refine OpsW.callP e36 (by cbv <;> rfl) ?_
  refine OpsW.run tok hO (by cbv <;> rfl) (by trivial) ?_
  refine SW.seq ?_
  refine SW.seqRun tok hO (by cbv <;> rfl) (by trivial) ?_
  refine OpsW.callP e20 (by cbv <;> rfl) ?_
  refine OpsW.run tok hO (by cbv <;> rfl) (by trivial) ?_
  refine OpsW.callP e22 (by cbv <;> rfl) ?_
  refine OpsW.run tok hO (by cbv <;> rfl) (by trivial) ?_
  refine OpsW.callP e35 (by cbv <;> rfl) ?_
  refine OpsW.run tok hO (by cbv <;> rfl) (by trivial) ?_
  refine OpsW.splitG (by cbv <;> rfl) (fun h => by subst hO; cases h) (fun h => ?_)
  cases BT with
  | true =>
    refine OpsW.run tok hO (by cbv <;> rfl) (by trivial) ?_
    refine OpsW.callP e52 (by cbv <;> rfl) ?_
    refine OpsW.run tok hO (by cbv <;> rfl) (by trivial) ?_
    refine OpsW.callP e53 (by cbv <;> rfl) ?_
    refine OpsW.run tok hO (by cbv <;> rfl) (by trivial) ?_
    refine SW.condS (by cbv <;> rfl) (fun h => ?_) (fun h => SW.skip ?_)
    · have h' : SH = true := h
      rw [hSH rfl] at h'
      cases h'
    · exact hloop _ ⟨rfl, rfl, rfl, trivial⟩
  | false =>
    refine OpsW.run tok hO (by cbv <;> rfl) (by trivial) ?_
    refine SW.cond (t := false) (by cbv <;> rfl) (SW.skip ?_)
    exact hloop _ ⟨rfl, rfl, rfl, trivial⟩
set_option maxHeartbeats 8000000 in
theorem cp_tailA (haw : Pure Try.prog 18 [] (.lit (.bool true))) (y : YardD) (PV : AV)
    (gg : Nat → AV) (h : AllP (fun p => gg p.1 = p.2) [(3, .ptr 0 0), (7, PV), (8, iV 7), (10, .lit (.bool false))]) :
    SW Try.prog none (restC 6 (bodyF Try.f10)) (trueQ Try.f10) ⟨⟨104, gg⟩, []⟩ ⟨[(0, .cells none false (yardC y))], 1⟩ := by
  obtain ⟨O, hO⟩ : ∃ O : Ar, O = std := ⟨_, rfl⟩
  obtain ⟨g1, g2, g3, g4, _⟩ := h
  simp only at g1 g2 g3 g4
  rw [← updT_self g1, ← updT_self g2, ← updT_self g3, ← updT_self g4]
  refine (show SW Try.prog none (.seq (.seq (.region _ _ _) _) _) _ _ _ from ?_)
  refine SW.seq ?_
  refine SW.seqRun tok hO (by cbv <;> rfl) (by trivial) ?_
  refine SW.condS (by cbv <;> rfl) (fun h => ?_) (fun h => by subst hO; simp [std] at h)
  refine SW.seqRun tok hO (by cbv <;> rfl) (by trivial) ?_
  refine OpsW.splitG (by cbv <;> rfl) (fun h => ?_) (fun h => by subst hO; simp [std] at h)
  refine OpsW.run tok hO (by cbv <;> rfl) (by trivial) ?_
  refine OpsW.callP haw (by cbv <;> rfl) ?_
  refine OpsW.run tok hO (by cbv <;> rfl) (by trivial) ?_
  exact SW.ret ⟨_, _, rfl, rfl, Eqv.of rfl⟩
end Go.Fz
set_option linter.unusedVariables false
namespace Go.Fz
open Go.Proofs
set_option maxRecDepth 100000
set_option maxHeartbeats 8000000 in
theorem cp_pre (haw : Pure Try.prog 18 [] (.lit (.bool true))) (y : YardD) (b m A : Int) (PV : AV) (E : Int) (hPV : Below 0 PV) (LT LU : AV) (BT BU : Bool)
    (e45 : Pure Try.prog 45 [yardV y] (.sb true)) (e20 : Pure Try.prog 20 [yardV y] (yardV y)) (e34 : Pure Try.prog 34 [yardV y] (.tup [PV, iV E])) (e47 : Pure Try.prog 47 [yardV y] (iV A))
    (e52T : Pure Try.prog 52 [iV (std.bin .and .i64 (std.conv .i64 b) A)] LT) (e52U : Pure Try.prog 52 [iV (std.bin .or .i64 (std.bin .and .i64 (std.conv .i64 b) A) (std.bin .and .i64 (std.conv .i64 m) A))] LU)
    (e35T : Pure Try.prog 35 [yardV y, LT] (.sb BT)) (e35U : Pure Try.prog 35 [yardV y, LU] (.sb BU)) (hm : BT = true → BU = true)
    (htail : ∀ (gg : Nat → AV), AllP (fun p => gg p.1 = p.2) [(3, .ptr 0 0), (7, PV), (8, iV E), (9, iV (std.bin .and .i64 (std.conv .i64 b) A)), (10, .lit (.bool BT))] → SW Try.prog none (restC 6 (bodyF Try.f10)) (trueQ Try.f10) ⟨⟨104, gg⟩, []⟩ ⟨[(0, .cells none false (yardC y))], 1⟩) :
    Pure Try.prog 10 [yardV y, .lit (.int .u8 b), .lit (.int .u8 m)] (.lit (.bool true)) := by
  obtain ⟨O, hO⟩ : ∃ O : Ar, O = std := ⟨_, rfl⟩
  rw [← hO] at e52T e52U htail
  replace e35T : Pure Try.prog 35 [yardV y, LT] (.lit (.bool BT)) := e35T.res (Eqv.lit rfl)
  refine pure_of_body tok 3 Try.func10 en10 rfl ⟨yardV_below y, Below.lit, Below.lit, trivial⟩ Below.lit ?_
  refine SW.seqRun tok hO (by cbv <;> rfl) (by trivial) ?_
  refine SW.seq ?_
  refine SW.seqRun tok hO (by cbv <;> rfl) (by trivial) ?_
  refine OpsW.callP e45 (by cbv <;> rfl) ?_
  refine OpsW.run tok hO (by cbv <;> rfl) (by trivial) ?_
  refine SW.condS (by cbv <;> rfl) (fun h => by subst hO; cases h) (fun h => SW.skip ?_)
  refine SW.seqRun tok hO (by cbv <;> rfl) (by trivial) ?_
  refine OpsW.callP e20 (by cbv <;> rfl) ?_
  refine OpsW.run tok hO (by cbv <;> rfl) (by trivial) ?_
  refine OpsW.callP e34 (by cbv <;> rfl) ?_
  refine OpsW.run tok hO (by cbv <;> rfl) (by trivial) ?_
  refine SW.seqRun tok hO (by cbv <;> rfl) (by trivial) ?_
  refine OpsW.callP e47 (by cbv <;> rfl) ?_
  refine OpsW.run tok hO (by cbv <;> rfl) (by trivial) ?_
  refine SW.seqRun tok hO (by cbv <;> rfl) (by trivial) ?_
  refine OpsW.callP e20 (by cbv <;> rfl) ?_
  refine OpsW.run tok hO (by cbv <;> rfl) (by trivial) ?_
  refine OpsW.callP e52T (by cbv <;> rfl) ?_
  refine OpsW.run tok hO (by cbv <;> rfl) (by trivial) ?_
  refine OpsW.callP e35T (by cbv <;> rfl) ?_
  refine OpsW.run tok hO (by cbv <;> rfl) (by trivial) ?_
  cases BT with
  | true =>
    replace e35U : Pure Try.prog 35 [yardV y, LU] (.lit (.bool true)) := e35U.res (Eqv.lit (hm rfl))
    refine SW.seq ?_
    refine SW.seqRunD tok mixed hO (by kernel_rfl) (by cbv <;> rfl) (by trivial) ?_
    refine AnyE.callP e20 (by cbv <;> rfl) (by cbv <;> rfl) ?_
    refine AnyE.run tok hO (by kernel_rfl) (by cbv <;> rfl) (by trivial) ?_
    refine AnyE.callP e47 (by cbv <;> rfl) (by cbv <;> rfl) ?_
    refine AnyE.run tok hO (by kernel_rfl) (by cbv <;> rfl) (by trivial) ?_
    refine AnyE.callP e52U (by cbv <;> rfl) (by cbv <;> rfl) ?_
    refine AnyE.run tok hO (by kernel_rfl) (by cbv <;> rfl) (by trivial) ?_
    refine AnyE.callP e35U (by cbv <;> rfl) (by cbv <;> rfl) ?_
    refine AnyE.run tok hO (by kernel_rfl) (by cbv <;> rfl) (by trivial) ?_
    refine SW.cond (t := false) (by cbv <;> rfl) (SW.skip ?_)
    exact htail _ ⟨rfl, rfl, rfl, rfl, rfl, trivial⟩
  | false =>
    refine SW.seq ?_
    refine SW.seqRunD tok mixed hO (by kernel_rfl) (by cbv <;> rfl) (by trivial) ?_
    refine SW.cond (t := false) (by cbv <;> rfl) (SW.skip ?_)
    exact htail _ ⟨rfl, rfl, rfl, rfl, rfl, trivial⟩
set_option maxHeartbeats 8000000 in
theorem cp_not (haw : Pure Try.prog 18 [] (.lit (.bool true))) (y : YardD) (b m : Int) (e45 : Pure Try.prog 45 [yardV y] (.sb false)) : Pure Try.prog 10 [yardV y, .lit (.int .u8 b), .lit (.int .u8 m)] (.lit (.bool true)) := by
  obtain ⟨O, hO⟩ : ∃ O : Ar, O = std := ⟨_, rfl⟩
  refine pure_of_body tok 3 Try.func10 en10 rfl ⟨yardV_below y, Below.lit, Below.lit, trivial⟩ Below.lit ?_
  refine SW.seqRun tok hO (by cbv <;> rfl) (by trivial) ?_
  refine SW.seq ?_
  refine SW.seqRun tok hO (by cbv <;> rfl) (by trivial) ?_
  refine OpsW.callP e45 (by cbv <;> rfl) ?_
  refine OpsW.run tok hO (by cbv <;> rfl) (by trivial) ?_
  refine SW.condS (by cbv <;> rfl) (fun h => ?_) (fun h => by subst hO; cases h)
  refine SW.seqRun tok hO (by cbv <;> rfl) (by trivial) ?_
  refine OpsW.callP haw (by cbv <;> rfl) ?_
  refine OpsW.run tok hO (by cbv <;> rfl) (by trivial) ?_
  exact SW.ret ⟨_, _, rfl, rfl, Eqv.of rfl⟩
theorem cleanProof_ok (haw : Pure Try.prog 18 [] (.lit (.bool true))) (y : YardD) (b m : Int) (b0 : 0 ≤ b) (b1 : b ≤ 255) (m0 : 0 ≤ m) (m1 : m ≤ 255) : Pure Try.prog 10 [yardV y, .lit (.int .u8 b), .lit (.int .u8 m)] (.lit (.bool true)) := by
  have e45 := ready_any y
  cases hR : y.readyB with
  | false =>
    rw [hR] at e45
    exact cp_not haw y b m e45
  | true =>
    rw [hR] at e45
    have hc := ready_check hR
    have hsm := ready_small hR
    have hn := (y.fit_of_check hc).1.nb
    have e20 := yard_ok y (by omega) (by omega)
    have e34 := proof_ok y (by omega) (by omega)
    have e47 := all_ok y (by omega)
    have rT := byI_rng b0 b1 hn
    have rM := byI_rng m0 m1 hn
    have rU := orI_rng hn rT rM
    have h64 := pow_le6 hn
    have e52T := bits64_ok (byI b y.nb) rT.1 (by omega)
    have e52U := bits64_ok (std.bin .or .i64 (byI b y.nb) (byI m y.nb)) rU.1 (by omega)
    obtain ⟨e35T, iT⟩ := prove_bits hc rT.1 rT.2
    obtain ⟨e35U, iU⟩ := prove_bits hc rU.1 rU.2
    have hmono := more_proof hc rT rM
    rcases prf_cases hc with ⟨hp, hall⟩ | ⟨pre, l, post, hp, hE, hpre, hl⟩
    · rw [hp] at e34
      rw [hall _ iT] at e35T hmono
      refine cp_pre haw y b m (allI y.nb) nl3 7 Below.lit _ _ _ _ e45 e20 e34 e47 e52T e52U e35T e35U hmono fun gg h => ?_
      obtain ⟨g1, g2, g3, g4, g5, _⟩ := h
      exact cp_tailA haw y nl3 gg ⟨g1, g2, g3, g5, trivial⟩
    · rw [hp] at e34
      have hlm : l ∈ risL y.nb := by rw [hE]; simp
      obtain ⟨r1, r2⟩ := ris_ok hn hlm
      obtain ⟨q1, q2, q3⟩ := msk_fin6 ⟨y.nb, by omega⟩ l hlm
      have e36 := isBeds_ok y hn l r1 r2 (by omega)
      have e35 := prove_ls hc r1 r2 (by omega)
      rw [hl] at e35
      have e22 := list22_ok l.length false (lI l) (by omega)
      have hlen := selL_len (byI b y.nb) 6
      have e53 := shorter_ok (selL (byI b y.nb) 6).length l.length false false (lI (selL (byI b y.nb) 6)) (lI l) (by omega) (by omega)
      have hpreN : ∀ a, a ∈ risL y.nb → shL a l = true → y.canL a = true := fun a ha hs => hpre a (ris_before6 hn hE ha hs)
      refine cp_pre haw y b m (allI y.nb) (lsV l) 0 (lsV_below l) _ _ _ _ e45 e20 e34 e47 e52T e52U e35T e35U hmono fun gg h => ?_
      refine cp_tailB haw y (mskL l) l.length (lI l) (by omega) e20 (fun i hi => ?_) (fun i hi => ?_) _ (lsV (selL (byI b y.nb) 6)) _ _ e52T e36 e35 e22 e53 (fun hb => ?_) gg h
      · have : lI l i = ((l[i] : Nat) : Int) := by unfold lI; rw [List.getD_eq_getElem?_getD, List.getElem?_eq_getElem hi]; rfl
        have h2 := r2 _ (List.getElem_mem hi)
        rw [this]; omega
      · obtain ⟨⟨k1, k2⟩, k3⟩ := sub_fin6 ⟨y.nb, by omega⟩ l hlm ⟨i, by omega⟩ hi
        simp only at k1 k2 k3
        obtain ⟨p1, p2⟩ := prove_bits hc k1 k2
        rw [hpreN _ p2 k3] at p1
        exact ⟨_, bits64_ok _ k1 (by omega), p1⟩
      · cases hs : shL (selL (byI b y.nb) 6) l with
        | false => exact hs
        | true =>
          rw [hpreN _ iT hs] at hb
          cases hb
end Go.Fz
