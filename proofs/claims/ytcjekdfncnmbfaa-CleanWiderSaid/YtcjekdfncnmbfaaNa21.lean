/- Own work of the verifier of watercress: FzCl46. -/
import Derived.Test.YtcjekdfncnmbfaaNa20
set_option linter.unusedVariables false
set_option linter.unusedSimpArgs false
set_option linter.unusedVariables false
namespace Go.Fz
open Go.Proofs
set_option maxRecDepth 100000
theorem bits_fin6 : ∀ (n : Fin 64) (i : Fin 7), (std.cmp .gtr (std.bin .shr .i64 (n.1 : Int) (std.conv .u64 (i.1 : Int))) 0 = true → i.1 < 6) ∧ (std.cmp .gtr (std.bin .shr .i64 (n.1 : Int) (std.conv .u64 (i.1 : Int))) 0 = false → selL (n.1 : Int) i.1 = selL (n.1 : Int) 6) := by
  decide +kernel
set_option maxHeartbeats 16000000 in
theorem bits64_ok (o : Int) (o0 : 0 ≤ o) (o64 : o < 64) : Pure Try.prog 52 [iV o] (lsV (selL o 6)) := by
  obtain ⟨O, hO⟩ : ∃ O : Ar, O = std := ⟨_, rfl⟩
  have hfin : ∀ i : Nat, i ≤ 6 → (std.cmp .gtr (std.bin .shr .i64 o (std.conv .u64 (i : Int))) 0 = true → i < 6) ∧ (std.cmp .gtr (std.bin .shr .i64 o (std.conv .u64 (i : Int))) 0 = false → selL o i = selL o 6) := fun i hi => by
    have h1 := bits_fin6 ⟨o.toNat, by omega⟩ ⟨i, by omega⟩
    have h2 : ((o.toNat : Nat) : Int) = o := by omega
    rw [h2] at h1
    exact h1
  refine pure_of_body tok 3 Try.func52 en52 rfl ⟨Below.lit, trivial⟩ (lsV_below _) ?_
  refine SW.seqRun tok hO (by cbv <;> rfl) (by trivial) ?_
  refine SW.seqRun tok hO (by cbv <;> rfl) (by trivial) ?_
  refine SW.seq ?_
  refine SW.seqRun tok hO (by cbv <;> rfl) (by trivial) ?_
  refine (SW.block (SW.loopR (fun i : Nat => ⟨⟨23, getT [(0, iV o), (3, slG 0 1 (selL o i).length), (4, iV i)]⟩, []⟩) (fun i => ⟨[] ++ objG 0 1 (intC (lI (selL o i))) (selL o i).length, 1⟩) (fun i => 6 - i) (fun i => i ≤ 6) 0 (Nat.zero_le _) (ren1 0 0) ?_ fun i hi => ?_))
  · exact WeakR.up rfl rfl (by simp) (Nat.le_refl _) (.inl rfl) (by show 0 ≤ 1; omega) ⟨RenV.closed Below.lit, RenV.closed Below.lit, RenV.closed Below.lit, trivial⟩ trivial (fun p hp => by cases hp)
  have hlen := selL_len o i
  have hsn := lI_snoc (selL o i) i
  have hsu : selL o (i + 1) = if bitB o i then selL o i ++ [i] else selL o i := rfl
  obtain ⟨f1, f2⟩ := hfin i hi
  have hc0 : 0 ≤ O.conv .u64 (Int.ofNat i) := by
    subst hO
    show 0 ≤ wrp .u64 ((i : Nat) : Int)
    rw [wrp_in (by simp only [IntKind.lo]; omega) (by simp only [IntKind.hi]; omega)]
    omega
  cases hm : (selL o i).length with
  | zero =>
    have hl0 : selL o i = [] := List.length_eq_zero_iff.1 hm
    show SW _ _ _ _ ⟨⟨23, getT [(0, iV o), (3, nl3), (4, iV i)]⟩, []⟩ ⟨[], 1⟩
    refine SW.seq ?_
    refine SW.seqRun tok hO (by cbv <;> rfl) (by first | exact hc0 | exact ⟨hc0, trivial⟩) ?_
    refine SW.condS (by cbv <;> rfl) (fun h => SW.skip ?_) (fun h => SW.exit ?_)
    · have hlt : i < 6 := f1 (by subst hO; exact h)
      refine SW.seq (SW.block ?_)
      refine SW.seqRun tok hO (by cbv <;> rfl) (by first | exact ⟨hc0, (by decide : (2 : Int) ≠ 0)⟩ | exact ⟨(by decide : (2 : Int) ≠ 0), hc0⟩) ?_
      refine SW.condS (by cbv <;> rfl) (fun h2 => ?_) (fun h2 => SW.skip ?_)
      · have hb : bitB o i = true := by subst hO; exact h2
        rw [if_pos hb] at hsu
        rw [hl0] at hsn hsu
        refine SW.runN tok hO 3 (by cbv <;> rfl) (by trivial) ?_
        refine OpsW.appNil tok (by cbv <;> rfl) (by rfl) (by kernel_rfl) (by rfl) (by rfl) ?_
        refine OpsW.run tok hO (by cbv <;> rfl) (by trivial) ?_
        refine SW.run tok hO (by cbv <;> rfl) (by trivial) ?_
        refine ⟨i + 1, by omega, by omega, ren1 0 2, ?_⟩
        rw [hsu]
        refine WeakR.up rfl rfl (by simp) (Nat.le_refl _) (.inr (by omega)) (by show 0 ≤ 1; omega) ⟨RenV.closed Below.lit, RenV.sl (by omega), RenV.inc hO (by omega), trivial⟩ trivial (fun p hp => ?_)
        obtain rfl := objG_mem hp
        exact ⟨by omega, _, rfl, .cells (RenVs.of_eq hsn (flatG_below (fun _ _ => Below.lit) _)), .inl rfl⟩
      · have hb : bitB o i = false := by subst hO; exact h2
        rw [if_neg (by rw [hb]; decide)] at hsu
        refine SW.run tok hO (by cbv <;> rfl) (by trivial) ?_
        refine ⟨i + 1, by omega, by omega, ren1 0 0, ?_⟩
        rw [hsu, hm]
        exact WeakR.up rfl rfl (by simp) (Nat.le_refl _) (.inl rfl) (by show 0 ≤ 1; omega) ⟨RenV.closed Below.lit, RenV.closed Below.lit, RenV.inc hO (by omega), trivial⟩ trivial (fun p hp => by cases hp)
    · have he := f2 (by subst hO; exact h)
      refine SW.seqRun tok hO (by cbv <;> rfl) (by trivial) ?_
      refine SW.ret ⟨_, _, rfl, rfl, ?_⟩
      rw [← he, hl0]
      exact Eqv.nil
  | succ m =>
    obtain ⟨G, hG⟩ : ∃ G, G = flatG 1 (intC (lI (selL o i))) (m + 1) := ⟨_, rfl⟩
    show SW _ _ _ _ ⟨⟨23, getT [(0, iV o), (3, .sl 0 0 (m + 1) 1 false), (4, iV i)]⟩, []⟩ ⟨[(0, .cells none false (flatG 1 (intC (lI (selL o i))) (m + 1)))], 1⟩
    rw [← hG]
    refine SW.seq ?_
    refine SW.seqRun tok hO (by cbv <;> rfl) (by first | exact hc0 | exact ⟨hc0, trivial⟩) ?_
    refine SW.condS (by cbv <;> rfl) (fun h => SW.skip ?_) (fun h => SW.exit ?_)
    · have hlt : i < 6 := f1 (by subst hO; exact h)
      refine SW.seq (SW.block ?_)
      refine SW.seqRun tok hO (by cbv <;> rfl) (by first | exact ⟨hc0, (by decide : (2 : Int) ≠ 0)⟩ | exact ⟨(by decide : (2 : Int) ≠ 0), hc0⟩) ?_
      refine SW.condS (by cbv <;> rfl) (fun h2 => ?_) (fun h2 => SW.skip ?_)
      · have hb : bitB o i = true := by subst hO; exact h2
        rw [if_pos hb] at hsu
        rw [hm, ← hG] at hsn
        refine SW.runN tok hO 3 (by cbv <;> rfl) (by trivial) ?_
        refine OpsW.appOne (g := intC (lI (selL o i))) (len := m + 1) tok (by cbv <;> rfl) (by rfl) (by rfl) hG (by kernel_rfl) (by rfl) (by rfl) (by omega) fun G' hG' => ?_
        refine OpsW.run tok hO (by cbv <;> rfl) (by trivial) ?_
        refine SW.run tok hO (by cbv <;> rfl) (by trivial) ?_
        refine ⟨i + 1, by omega, by omega, ren1 0 2, ?_⟩
        rw [hsu, List.length_append, List.length_singleton, hm]
        refine WeakR.up rfl rfl (by simp) (Nat.le_refl _) (.inr (by omega)) (by show 0 ≤ 1; omega) ⟨RenV.closed Below.lit, RenV.sl (by omega), RenV.inc hO (by omega), trivial⟩ trivial (fun p hp => ?_)
        obtain rfl := objG_mem hp
        exact ⟨by omega, _, rfl, .cells (RenVs.of_eq (by rw [hG', ← hG]; exact hsn) (flatG_below (fun _ _ => Below.lit) _)), .inl rfl⟩
      · have hb : bitB o i = false := by subst hO; exact h2
        rw [if_neg (by rw [hb]; decide)] at hsu
        refine SW.run tok hO (by cbv <;> rfl) (by trivial) ?_
        refine ⟨i + 1, by omega, by omega, ren1 0 0, ?_⟩
        rw [hsu, hm]
        refine WeakR.up rfl rfl (by simp) (Nat.le_refl _) (.inl rfl) (by show 0 ≤ 1; omega) ⟨RenV.closed Below.lit, RenV.sl (by omega), RenV.inc hO (by omega), trivial⟩ trivial (fun p hp => ?_)
        obtain rfl := objG_mem hp
        exact ⟨by omega, _, rfl, .cells (RenVs.of_eq hG (flatG_below (fun _ _ => Below.lit) _)), .inl rfl⟩
    · have he := f2 (by subst hO; exact h)
      refine SW.seqRun tok hO (by cbv <;> rfl) (by trivial) ?_
      refine SW.ret ⟨_, _, rfl, rfl, ?_⟩
      rw [← he]
      show Eqv (frz _ _ 3 (.sl 0 0 (m + 1) 1 false)) (.isl (selL o i).length 1 false _)
      rw [frz_slE (fm := none) (G := G) rfl rfl (by rw [hG, flatG_length]; omega), hm]
      refine Eqv.isl rfl fun j k hj hk => Eqv.of ?_
      rw [hG, frz_flat hj hk rfl]
      rfl
theorem oth_fin6 : ∀ (many : Fin 7) (o : Fin 64), o.1 < 2 ^ many.1 → selL (o.1 : Int) 6 ∈ risL many.1 := by decide +kernel
theorem byte_fin6 : ∀ (b : Fin 256) (many : Fin 7), 0 ≤ std.bin .and .i64 (std.conv .i64 (b.1 : Int)) (allI many.1) ∧ std.bin .and .i64 (std.conv .i64 (b.1 : Int)) (allI many.1) < 2 ^ many.1 := by decide +kernel
theorem or_fin6 : ∀ (a b : Fin 64) , ∀ many : Fin 7, a.1 < 2 ^ many.1 → b.1 < 2 ^ many.1 → (0 ≤ std.bin .or .i64 (a.1 : Int) (b.1 : Int) ∧ std.bin .or .i64 (a.1 : Int) (b.1 : Int) < 2 ^ many.1) := by decide +kernel
theorem orb_fin6 : ∀ (a b : Fin 64) (j : Fin 6), bitB (std.bin .or .i64 (a.1 : Int) (b.1 : Int)) j.1 = (bitB (a.1 : Int) j.1 || bitB (b.1 : Int) j.1) := by decide +kernel
theorem ord_fin6 : ∀ many : Fin 7, (risL many.1).Pairwise (fun x y => shL y x = false) ∧ (∀ l ∈ risL many.1, shL l l = false) := by decide +kernel
theorem msk_fin6 : ∀ many : Fin 7, ∀ l ∈ risL many.1, (0 ≤ mskL l ∧ mskL l < 2 ^ many.1) ∧ selL (mskL l) 6 = l ∧ l.length ≤ 6 := by decide +kernel
theorem sub_fin6 : ∀ many : Fin 7, ∀ l ∈ risL many.1, ∀ i : Fin 6, i.1 < l.length → (0 ≤ std.bin .sub .i64 (mskL l) (std.bin .shl .i64 1 (std.conv .u64 (lI l i.1))) ∧ std.bin .sub .i64 (mskL l) (std.bin .shl .i64 1 (std.conv .u64 (lI l i.1))) < 2 ^ many.1) ∧ shL (selL (std.bin .sub .i64 (mskL l) (std.bin .shl .i64 1 (std.conv .u64 (lI l i.1)))) 6) l = true := by decide +kernel
theorem ris_before6 {many : Nat} (hm : many ≤ 6) {pre post : List (List Nat)} {l a : List Nat} (hE : risL many = pre ++ l :: post) (ha : a ∈ risL many) (hs : shL a l = true) : a ∈ pre := by
  obtain ⟨h1, h2⟩ := ord_fin6 ⟨many, by omega⟩
  simp only at h1 h2
  have hl := h2 l (by rw [hE]; simp)
  rw [hE] at h1 ha
  rcases List.mem_append.1 ha with ha | ha
  · exact ha
  · rcases List.mem_cons.1 ha with rfl | ha
    · rw [hl] at hs; cases hs
    · have := (List.pairwise_append.1 h1).2.1
      have := (List.pairwise_cons.1 this).1 a ha
      rw [this] at hs; cases hs
end Go.Fz
