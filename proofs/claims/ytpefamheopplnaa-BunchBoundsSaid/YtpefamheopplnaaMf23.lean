/- Own work of the verifier of watercress: FzT2, FzT3, FzH1, FzH2, FzH3, FzO1, FzO4, FzT4, FzT5, FzT6, FzB22n, FzB23n, FzB24n. -/
import Derived.Test.YtpefamheopplnaaMf22
import Derived.Test.YtpefamheopplnaaMf16
import Derived.Test.YtpefamheopplnaaMf14
set_option linter.unusedVariables false
set_option linter.unusedSimpArgs false
namespace Go.Fz
open Go.Proofs
set_option maxRecDepth 100000
def trG (nf ns : Nat) (F S : Nat → Nat → Int) (i k : Nat) : AV := match k with
  | 0 => intsV nf false (F i)
  | _ => intsV ns false (S i)
def trsV (N nf ns : Nat) (F S : Nat → Nat → Int) : AV := .isl N 2 false (trG nf ns F S)
theorem trsV_below (N nf ns : Nat) (F S : Nat → Nat → Int) : Below 0 (trsV N nf ns F S) := Below.isl fun i k _ _ => by unfold trG; split <;> exact intsV_below _ _ _
def cntB (b : Nat → Bool) : Nat → Nat
  | 0 => 0
  | i + 1 => if b i then cntB b i + 1 else cntB b i
theorem cntB_le (b : Nat → Bool) : ∀ n, cntB b n ≤ n
  | 0 => Nat.le_refl _
  | n + 1 => by
    have := cntB_le b n
    unfold cntB
    split <;> omega
def verdR (b : Nat → Bool) (n : Nat) : Int := if cntB b n = n then 1 else if cntB b n = 0 then 2 else 3
set_option maxHeartbeats 16000000 in
theorem refThicker_ok (N nf ns : Nat) (F S : Nat → Nat → Int) (w : Nat) (hw : w < nf) (n : Int) (hN : N < 100000) : Pure Try.prog 26 [trsV N nf ns F S, iV (Int.ofNat w), iV n] (iV (verdR (fun i => decide (n < F i w)) N)) := by
  obtain ⟨O, hO⟩ : ∃ O : Ar, O = std := ⟨_, rfl⟩
  have hnat : ∀ i : Nat, O.nat (Int.ofNat i) = i := fun i => by subst hO; rfl
  have hwi : 0 ≤ Int.ofNat w ∧ Int.ofNat w < (nf : Int) := ⟨Int.natCast_nonneg w, Int.ofNat_lt.2 hw⟩
  obtain ⟨b, hb⟩ : ∃ b : Nat → Bool, b = fun i => decide (n < F i w) := ⟨_, rfl⟩
  rw [← hb]
  have hbi : ∀ i, O.cmp .gtr (F (O.nat (Int.ofNat i)) (O.nat (Int.ofNat w))) n = b i := fun i => by
    rw [hnat, hnat, hb]; subst hO; simp [std]
  obtain ⟨c, hc⟩ : ∃ c, c = cntB b := ⟨_, rfl⟩
  have hcs : ∀ i, c (i + 1) = if b i then c i + 1 else c i := fun i => by rw [hc]; rfl
  have hc0 : c 0 = 0 := by rw [hc]; rfl
  have hcl : ∀ i, c i ≤ i := fun i => by rw [hc]; exact cntB_le b i
  have hv : verdR b N = if c N = N then 1 else if c N = 0 then 2 else 3 := by rw [hc]; rfl
  rw [hv]
  refine pure_of_body tok 3 Try.func26 en26 rfl ⟨trsV_below _ _ _ _ _, Below.lit, Below.lit, trivial⟩ Below.lit ?_
  refine SW.seqRun tok hO (by cbv <;> rfl) (by trivial) ?_
  refine SW.seqRun tok hO (by cbv <;> rfl) (by trivial) ?_
  refine SW.seq ?_
  refine SW.seqRun tok hO (by cbv <;> rfl) (by trivial) ?_
  refine (SW.block (SW.loopF (fun i : Nat => ⟨⟨33, getT [(0, trsV N nf ns F S), (1, iV (Int.ofNat w)), (2, iV n), (7, iV (Int.ofNat (c i))), (8, iV (Int.ofNat i))]⟩, []⟩)
    (fun _ => ⟨[], 0⟩) (fun i => N - i) (fun i => i ≤ N) 0
    (fun _ => rfl) (Nat.zero_le _) (Weak.by rfl rfl (by simp) (Nat.le_refl _) (Nat.le_refl _) ⟨⟨rfl, .inl rfl⟩, ⟨rfl, .inl rfl⟩, ⟨rfl, .inl rfl⟩, ⟨by rw [hc0]; rfl, .inl rfl⟩, ⟨rfl, .inl rfl⟩, trivial⟩ trivial) fun i hi => ?_))
  refine SW.seq ?_
  refine SW.seqRun tok hO (by cbv <;> rfl) (by trivial) ?_
  refine SW.condS (by cbv <;> rfl) (fun h => SW.skip ?_) (fun h => SW.exit ?_)
  · have hlt : i < N := by subst hO; simpa [std] using h
    have hin : 0 ≤ Int.ofNat i ∧ Int.ofNat i < (N : Int) := ⟨Int.natCast_nonneg i, Int.ofNat_lt.2 hlt⟩
    refine SW.seq (SW.block ?_)
    refine SW.seqRun tok hO (by cbv <;> rfl) (by repeat (first | exact trivial | exact hin | exact hwi | refine ⟨?_, ?_⟩)) ?_
    refine SW.condS (by cbv <;> rfl) (fun h2 => ?_) (fun h2 => SW.skip ?_)
    · have hbt : b i = true := (hbi i).symm.trans h2
      refine SW.run tok hO (by cbv <;> rfl) (by trivial) ?_
      refine SW.run tok hO (by cbv <;> rfl) (by trivial) ?_
      have hcn : c (i + 1) = c i + 1 := by rw [hcs, hbt]; rfl
      exact ⟨i + 1, by omega, by omega, Weak.by rfl rfl (by simp) (Nat.le_refl _) (Nat.le_refl _) ⟨⟨rfl, .inl rfl⟩, ⟨rfl, .inl rfl⟩, ⟨rfl, .inl rfl⟩, ⟨by rw [hcn]; exact inc_ok hO (by have := hcl i; omega), .inl rfl⟩, ⟨inc_ok hO (by omega), .inl rfl⟩, trivial⟩ trivial⟩
    · have hbt : b i = false := (hbi i).symm.trans h2
      refine SW.run tok hO (by cbv <;> rfl) (by trivial) ?_
      have hcn : c (i + 1) = c i := by rw [hcs, hbt]; rfl
      exact ⟨i + 1, by omega, by omega, Weak.by rfl rfl (by simp) (Nat.le_refl _) (Nat.le_refl _) ⟨⟨rfl, .inl rfl⟩, ⟨rfl, .inl rfl⟩, ⟨rfl, .inl rfl⟩, ⟨by rw [hcn]; rfl, .inl rfl⟩, ⟨inc_ok hO (by omega), .inl rfl⟩, trivial⟩ trivial⟩
  · have hle : ¬ i < N := by subst hO; simpa [std] using h
    obtain rfl : i = N := by omega
    refine SW.seq ?_
    refine SW.seqRun tok hO (by cbv <;> rfl) (by trivial) ?_
    refine SW.condS (by cbv <;> rfl) (fun h2 => ?_) (fun h2 => SW.skip ?_)
    · have h3 : c i = i := by
        have : (c i : Int) = (i : Int) := by subst hO; simpa [std] using h2
        omega
      refine SW.seqRun tok hO (by cbv <;> rfl) (by trivial) ?_
      refine SW.ret ⟨_, _, rfl, rfl, ?_⟩
      rw [if_pos h3]; exact Eqv.refl _
    have h3 : ¬ c i = i := by
      have : ¬ (c i : Int) = (i : Int) := by subst hO; simpa [std] using h2
      omega
    refine SW.seq ?_
    refine SW.seqRun tok hO (by cbv <;> rfl) (by trivial) ?_
    refine SW.condS (by cbv <;> rfl) (fun h4 => ?_) (fun h4 => SW.skip ?_)
    · have h5 : c i = 0 := by subst hO; simpa [std] using h4
      refine SW.seqRun tok hO (by cbv <;> rfl) (by trivial) ?_
      refine SW.ret ⟨_, _, rfl, rfl, ?_⟩
      rw [if_neg h3, if_pos h5]; exact Eqv.refl _
    have h5 : ¬ c i = 0 := by subst hO; simpa [std] using h4
    refine SW.seqRun tok hO (by cbv <;> rfl) (by trivial) ?_
    refine SW.ret ⟨_, _, rfl, rfl, ?_⟩
    rw [if_neg h3, if_neg h5]; exact Eqv.refl _
end Go.Fz
namespace Go.Fz
open Go.Proofs
set_option maxRecDepth 100000
set_option linter.unusedVariables false
def bitsN (b : Nat → Bool) : Nat → Int
  | 0 => 0
  | i + 1 => if b i then std.bin .or .i64 (bitsN b i) (std.bin .shl .i64 1 (std.conv .u64 (Int.ofNat i))) else bitsN b i
noncomputable def alC : Code := match nthC 2 (bodyF Try.f32) with
  | .seq _ (.block _ (.loop c)) => c
  | _ => .skip
noncomputable def alB : Code := match alC with
  | .seq _ (.seq (.block _ b) _) => b
  | _ => .skip
def alS (d : DayD) (H : Hp) (n : Nat) : St := ⟨(0, .cells none false (dayC d)) :: H, n⟩
set_option maxHeartbeats 16000000 in
theorem all_bits (d : DayD) (hnc : d.nc ≤ 7) (X : AV) (i : Nat) (G : List AV) (tt : TruD) (yy : TalD) (R : Nat → Bool) (hnth : Pure Try.prog 79 [dayV d, iV (Int.ofNat i)] (truV tt)) (hplay : Pure Try.prog 47 [dayV d, truV tt] (talV yy)) (hr : ∀ j, j < d.nc → Pure Try.prog 80 [talV yy, cntV d j] (.sb (R j)))
    (g : Nat → AV) (O : Ar) (hO : O = std) (H : Hp) (h : AllP (fun p => g p.1 = p.2) [(1, .ptr 0 0), (3, X), (4, iV (Int.ofNat i))]) :
    SW Try.prog none (nthC 0 alB) (midK 43 [(1, .ptr 0 0), (3, X), (4, iV (Int.ofNat i)), (5, .ptr 2 0)] (⟨(2, .cells none false (talC yy)) :: (0, .cells none false (dayC d)) :: H, 3⟩)) ⟨⟨43, g⟩, []⟩ (alS d H 2) := by
  obtain ⟨g1, g3, g4, _⟩ := h
  simp only at g1 g3 g4
  rw [← updT_self g1, ← updT_self g3, ← updT_self g4]
  refine SW.runD tok mixed hO (by kernel_rfl) (by cbv <;> rfl) (by trivial) ?_
  refine AnyE.many [3, 5] (by cbv <;> rfl) (by rfl) ⟨?_, ?_, trivial⟩
  · refine PickE.callQ hnth (by cbv <;> rfl) (by cbv <;> rfl) ?_ ?_
    · exact (by repeat (first | exact trivial | refine And.intro (by first | exact lv_of hO (by cbv <;> rfl) (by trivial) | (cbv <;> rfl)) ?_))
    refine AnyE.run tok hO (by rfl) (by cbv <;> rfl) (by trivial) ?_
    refine AnyE.many [4, 5] (by cbv <;> rfl) (by rfl) ⟨?_, ?_, trivial⟩
    · refine PickE.callQ hplay (by cbv <;> rfl) (by cbv <;> rfl) ?_ ?_
      · exact (by repeat (first | exact trivial | refine And.intro (by first | exact lv_of hO (by cbv <;> rfl) (by trivial) | (cbv <;> rfl)) ?_))
      refine AnyE.run tok hO (by rfl) (by cbv <;> rfl) (by trivial) ?_
      refine AnyE.effK tok hO (by cbv <;> rfl) (by cbv <;> rfl) (by trivial) ?_ ?_
      · exact (by repeat (first | exact trivial | refine And.intro (by first | exact lv_of hO (by cbv <;> rfl) (by trivial) | (cbv <;> rfl)) ?_))
      refine AnyE.run tok hO (by rfl) (by cbv <;> rfl) (by trivial) ?_
      refine AnyE.effK tok hO (by cbv <;> rfl) (by cbv <;> rfl) (by trivial) ?_ ?_
      · exact (by repeat (first | exact trivial | refine And.intro (by first | exact lv_of hO (by cbv <;> rfl) (by trivial) | (cbv <;> rfl)) ?_))
      refine AnyE.run tok hO (by rfl) (by cbv <;> rfl) (by trivial) ?_
      exact ⟨rfl, _, rfl, ⟨rfl, rfl, rfl, rfl, trivial⟩, rfl⟩
    · refine PickE.eff tok hO (by cbv <;> rfl) (by cbv <;> rfl) (by trivial) ?_ ?_
      · exact (by repeat (first | exact trivial | refine And.intro (by first | exact lv_of hO (by cbv <;> rfl) (by trivial) | (cbv <;> rfl)) ?_))
      refine AnyE.run tok hO (by rfl) (by cbv <;> rfl) (by trivial) ?_
      refine AnyE.callP hplay (by cbv <;> rfl) (by cbv <;> rfl) ?_
      refine AnyE.run tok hO (by rfl) (by cbv <;> rfl) (by trivial) ?_
      refine AnyE.effK tok hO (by cbv <;> rfl) (by cbv <;> rfl) (by trivial) ?_ ?_
      · exact (by repeat (first | exact trivial | refine And.intro (by first | exact lv_of hO (by cbv <;> rfl) (by trivial) | (cbv <;> rfl)) ?_))
      refine AnyE.run tok hO (by rfl) (by cbv <;> rfl) (by trivial) ?_
      exact ⟨rfl, _, rfl, ⟨rfl, rfl, rfl, rfl, trivial⟩, rfl⟩
  · refine PickE.eff tok hO (by cbv <;> rfl) (by cbv <;> rfl) (by trivial) ?_ ?_
    · exact (by repeat (first | exact trivial | refine And.intro (by first | exact lv_of hO (by cbv <;> rfl) (by trivial) | (cbv <;> rfl)) ?_))
    refine AnyE.run tok hO (by rfl) (by cbv <;> rfl) (by trivial) ?_
    refine AnyE.callP hnth (by cbv <;> rfl) (by cbv <;> rfl) ?_
    refine AnyE.run tok hO (by rfl) (by cbv <;> rfl) (by trivial) ?_
    refine AnyE.callP hplay (by cbv <;> rfl) (by cbv <;> rfl) ?_
    refine AnyE.run tok hO (by rfl) (by cbv <;> rfl) (by trivial) ?_
    refine AnyE.effK tok hO (by cbv <;> rfl) (by cbv <;> rfl) (by trivial) ?_ ?_
    · exact (by repeat (first | exact trivial | refine And.intro (by first | exact lv_of hO (by cbv <;> rfl) (by trivial) | (cbv <;> rfl)) ?_))
    refine AnyE.run tok hO (by rfl) (by cbv <;> rfl) (by trivial) ?_
    exact ⟨rfl, _, rfl, ⟨rfl, rfl, rfl, rfl, trivial⟩, rfl⟩
set_option maxHeartbeats 16000000 in
theorem all_loop0 (d : DayD) (hnc : d.nc ≤ 7) (X : AV) (i : Nat) (yy : TalD) (R : Nat → Bool) (hr : ∀ j, j < d.nc → Pure Try.prog 80 [talV yy, cntV d j] (.sb (R j)))
    (g : Nat → AV) (O : Ar) (hO : O = std)  (h : AllP (fun p => g p.1 = p.2) [(1, .ptr 0 0), (3, X), (4, iV (Int.ofNat i)), (5, .ptr 2 0), (6, iV 0)]) :
    SW Try.prog none (nthC 2 alB) (midK 43 [(1, .ptr 0 0), (3, X), (4, iV (Int.ofNat i)), (6, iV (bitsN R d.nc))] (⟨(2, .cells none false (talC yy)) :: (0, .cells none false (dayC d)) :: [], 3⟩)) ⟨⟨43, g⟩, []⟩ (⟨(2, .cells none false (talC yy)) :: (0, .cells none false (dayC d)) :: [], 3⟩) := by
  have hnat : ∀ i : Nat, O.nat (Int.ofNat i) = i := fun i => by subst hO; rfl
  obtain ⟨bb, hbb⟩ : ∃ bb, bb = bitsN R := ⟨_, rfl⟩
  have hb0 : bb 0 = 0 := by rw [hbb]; rfl
  have hbs : ∀ j, bb (j + 1) = if R j then O.bin .or .i64 (bb j) (O.bin .shl .i64 1 (O.conv .u64 (Int.ofNat j))) else bb j := fun j => by rw [hbb]; subst hO; rfl
  rw [← hbb]
  obtain ⟨g1, g3, g4, g5, g6, _⟩ := h
  simp only at g1 g3 g4 g5 g6
  rw [← updT_self g1, ← updT_self g3, ← updT_self g4, ← updT_self g5, ← updT_self g6]
  refine SW.seqRun tok hO (by cbv <;> rfl) (by trivial) ?_
  refine (SW.block (SW.loopF (fun j : Nat => ⟨⟨43, getT [(1, .ptr 0 0), (3, X), (4, iV (Int.ofNat i)), (5, .ptr 2 0), (6, iV (bb j)), (7, iV (Int.ofNat j))]⟩, []⟩)
    (fun _ => ⟨(2, .cells none false (talC yy)) :: (0, .cells none false (dayC d)) :: [], 3⟩) (fun j => d.nc - j) (fun j => j ≤ d.nc) 0
    (fun _ => rfl) (Nat.zero_le _) (Weak.by rfl rfl (by simp) (Nat.le_refl _) (Nat.le_refl _) ⟨⟨rfl, .inl rfl⟩, ⟨rfl, .inl rfl⟩, ⟨rfl, .inl rfl⟩, ⟨rfl, .inl rfl⟩, ⟨by rw [hb0]; rfl, .inl rfl⟩, ⟨rfl, .inl rfl⟩, trivial⟩ ⟨⟨rfl, by omega, .inl rfl⟩, ⟨rfl, by omega, .inl rfl⟩, trivial⟩) fun j hj => ?_))
  refine SW.seq ?_
  refine SW.seqRun tok hO (by cbv <;> rfl) (by trivial) ?_
  refine SW.condS (by cbv <;> rfl) (fun h => SW.skip ?_) (fun h => SW.exit ?_)
  · have hlt : j < d.nc := by subst hO; simpa [std] using h
    have hin : 0 ≤ Int.ofNat j ∧ Int.ofNat j < (d.nc : Int) := ⟨Int.natCast_nonneg j, Int.ofNat_lt.2 hlt⟩
    have hnn : 0 ≤ O.conv .u64 (Int.ofNat j) := by
      subst hO
      show 0 ≤ wrp .u64 (j : Int)
      rw [wrp_in (by simp only [IntKind.lo]; omega) (by simp only [IntKind.hi]; omega)]; omega
    have call := hr (O.nat (Int.ofNat j)) (by rw [hnat]; exact hlt)
    refine SW.seq (SW.block ?_)
    refine SW.seqRunD tok mixed hO (by kernel_rfl) (by cbv <;> rfl) (by repeat (first | exact trivial | exact hin | refine ⟨?_, ?_⟩)) ?_
    refine AnyE.callP call (by cbv <;> rfl) (by cbv <;> rfl) ?_
    refine AnyE.run tok hO (by rfl) (by cbv <;> rfl) (by trivial) ?_
    refine SW.condS (by cbv <;> rfl) (fun h2 => ?_) (fun h2 => SW.skip ?_)
    · rw [hnat] at h2
      refine SW.run tok hO (by cbv <;> rfl) (by first | exact hnn | exact ⟨hnn, trivial⟩) ?_
      refine SW.run tok hO (by cbv <;> rfl) (by trivial) ?_
      have hcn : bb (j + 1) = O.bin .or .i64 (bb j) (O.bin .shl .i64 1 (O.conv .u64 (Int.ofNat j))) := by rw [hbs, h2]; rfl
      exact ⟨j + 1, by omega, by omega, Weak.by rfl rfl (by simp) (Nat.le_refl _) (Nat.le_refl _) ⟨⟨rfl, .inl rfl⟩, ⟨rfl, .inl rfl⟩, ⟨rfl, .inl rfl⟩, ⟨rfl, .inl rfl⟩, ⟨by rw [hcn]; rfl, .inl rfl⟩, ⟨inc_ok hO (by omega), .inl rfl⟩, trivial⟩ ⟨⟨rfl, by omega, .inl rfl⟩, ⟨rfl, by omega, .inl rfl⟩, trivial⟩⟩
    · rw [hnat] at h2
      refine SW.run tok hO (by cbv <;> rfl) (by trivial) ?_
      have hcn : bb (j + 1) = bb j := by rw [hbs, h2]; rfl
      exact ⟨j + 1, by omega, by omega, Weak.by rfl rfl (by simp) (Nat.le_refl _) (Nat.le_refl _) ⟨⟨rfl, .inl rfl⟩, ⟨rfl, .inl rfl⟩, ⟨rfl, .inl rfl⟩, ⟨rfl, .inl rfl⟩, ⟨by rw [hcn]; rfl, .inl rfl⟩, ⟨inc_ok hO (by omega), .inl rfl⟩, trivial⟩ ⟨⟨rfl, by omega, .inl rfl⟩, ⟨rfl, by omega, .inl rfl⟩, trivial⟩⟩
  · have hle : ¬ j < d.nc := by subst hO; simpa [std] using h
    obtain rfl : j = d.nc := by omega
    exact ⟨rfl, _, rfl, ⟨rfl, rfl, rfl, rfl, trivial⟩, rfl⟩
set_option maxHeartbeats 16000000 in
theorem all_loop1 (d : DayD) (hnc : d.nc ≤ 7) (X : AV) (i : Nat) (yy : TalD) (R : Nat → Bool) (hr : ∀ j, j < d.nc → Pure Try.prog 80 [talV yy, cntV d j] (.sb (R j)))
    (g : Nat → AV) (O : Ar) (hO : O = std) (G : List AV) (h : AllP (fun p => g p.1 = p.2) [(1, .ptr 0 0), (3, X), (4, iV (Int.ofNat i)), (5, .ptr 2 0), (6, iV 0)]) :
    SW Try.prog none (nthC 2 alB) (midK 43 [(1, .ptr 0 0), (3, X), (4, iV (Int.ofNat i)), (6, iV (bitsN R d.nc))] (⟨(2, .cells none false (talC yy)) :: (0, .cells none false (dayC d)) :: [(1, .cells none false G)], 3⟩)) ⟨⟨43, g⟩, []⟩ (⟨(2, .cells none false (talC yy)) :: (0, .cells none false (dayC d)) :: [(1, .cells none false G)], 3⟩) := by
  have hnat : ∀ i : Nat, O.nat (Int.ofNat i) = i := fun i => by subst hO; rfl
  obtain ⟨bb, hbb⟩ : ∃ bb, bb = bitsN R := ⟨_, rfl⟩
  have hb0 : bb 0 = 0 := by rw [hbb]; rfl
  have hbs : ∀ j, bb (j + 1) = if R j then O.bin .or .i64 (bb j) (O.bin .shl .i64 1 (O.conv .u64 (Int.ofNat j))) else bb j := fun j => by rw [hbb]; subst hO; rfl
  rw [← hbb]
  obtain ⟨g1, g3, g4, g5, g6, _⟩ := h
  simp only at g1 g3 g4 g5 g6
  rw [← updT_self g1, ← updT_self g3, ← updT_self g4, ← updT_self g5, ← updT_self g6]
  refine SW.seqRun tok hO (by cbv <;> rfl) (by trivial) ?_
  refine (SW.block (SW.loopF (fun j : Nat => ⟨⟨43, getT [(1, .ptr 0 0), (3, X), (4, iV (Int.ofNat i)), (5, .ptr 2 0), (6, iV (bb j)), (7, iV (Int.ofNat j))]⟩, []⟩)
    (fun _ => ⟨(2, .cells none false (talC yy)) :: (0, .cells none false (dayC d)) :: [(1, .cells none false G)], 3⟩) (fun j => d.nc - j) (fun j => j ≤ d.nc) 0
    (fun _ => rfl) (Nat.zero_le _) (Weak.by rfl rfl (by simp) (Nat.le_refl _) (Nat.le_refl _) ⟨⟨rfl, .inl rfl⟩, ⟨rfl, .inl rfl⟩, ⟨rfl, .inl rfl⟩, ⟨rfl, .inl rfl⟩, ⟨by rw [hb0]; rfl, .inl rfl⟩, ⟨rfl, .inl rfl⟩, trivial⟩ ⟨⟨rfl, by omega, .inl rfl⟩, ⟨rfl, by omega, .inl rfl⟩, ⟨rfl, by omega, .inl rfl⟩, trivial⟩) fun j hj => ?_))
  refine SW.seq ?_
  refine SW.seqRun tok hO (by cbv <;> rfl) (by trivial) ?_
  refine SW.condS (by cbv <;> rfl) (fun h => SW.skip ?_) (fun h => SW.exit ?_)
  · have hlt : j < d.nc := by subst hO; simpa [std] using h
    have hin : 0 ≤ Int.ofNat j ∧ Int.ofNat j < (d.nc : Int) := ⟨Int.natCast_nonneg j, Int.ofNat_lt.2 hlt⟩
    have hnn : 0 ≤ O.conv .u64 (Int.ofNat j) := by
      subst hO
      show 0 ≤ wrp .u64 (j : Int)
      rw [wrp_in (by simp only [IntKind.lo]; omega) (by simp only [IntKind.hi]; omega)]; omega
    have call := hr (O.nat (Int.ofNat j)) (by rw [hnat]; exact hlt)
    refine SW.seq (SW.block ?_)
    refine SW.seqRunD tok mixed hO (by kernel_rfl) (by cbv <;> rfl) (by repeat (first | exact trivial | exact hin | refine ⟨?_, ?_⟩)) ?_
    refine AnyE.callP call (by cbv <;> rfl) (by cbv <;> rfl) ?_
    refine AnyE.run tok hO (by rfl) (by cbv <;> rfl) (by trivial) ?_
    refine SW.condS (by cbv <;> rfl) (fun h2 => ?_) (fun h2 => SW.skip ?_)
    · rw [hnat] at h2
      refine SW.run tok hO (by cbv <;> rfl) (by first | exact hnn | exact ⟨hnn, trivial⟩) ?_
      refine SW.run tok hO (by cbv <;> rfl) (by trivial) ?_
      have hcn : bb (j + 1) = O.bin .or .i64 (bb j) (O.bin .shl .i64 1 (O.conv .u64 (Int.ofNat j))) := by rw [hbs, h2]; rfl
      exact ⟨j + 1, by omega, by omega, Weak.by rfl rfl (by simp) (Nat.le_refl _) (Nat.le_refl _) ⟨⟨rfl, .inl rfl⟩, ⟨rfl, .inl rfl⟩, ⟨rfl, .inl rfl⟩, ⟨rfl, .inl rfl⟩, ⟨by rw [hcn]; rfl, .inl rfl⟩, ⟨inc_ok hO (by omega), .inl rfl⟩, trivial⟩ ⟨⟨rfl, by omega, .inl rfl⟩, ⟨rfl, by omega, .inl rfl⟩, ⟨rfl, by omega, .inl rfl⟩, trivial⟩⟩
    · rw [hnat] at h2
      refine SW.run tok hO (by cbv <;> rfl) (by trivial) ?_
      have hcn : bb (j + 1) = bb j := by rw [hbs, h2]; rfl
      exact ⟨j + 1, by omega, by omega, Weak.by rfl rfl (by simp) (Nat.le_refl _) (Nat.le_refl _) ⟨⟨rfl, .inl rfl⟩, ⟨rfl, .inl rfl⟩, ⟨rfl, .inl rfl⟩, ⟨rfl, .inl rfl⟩, ⟨by rw [hcn]; rfl, .inl rfl⟩, ⟨inc_ok hO (by omega), .inl rfl⟩, trivial⟩ ⟨⟨rfl, by omega, .inl rfl⟩, ⟨rfl, by omega, .inl rfl⟩, ⟨rfl, by omega, .inl rfl⟩, trivial⟩⟩
  · have hle : ¬ j < d.nc := by subst hO; simpa [std] using h
    obtain rfl : j = d.nc := by omega
    exact ⟨rfl, _, rfl, ⟨rfl, rfl, rfl, rfl, trivial⟩, rfl⟩
end Go.Fz
namespace Go.Fz
open Go.Proofs
set_option maxRecDepth 100000
def fullI (n : Nat) : Int := std.bin .sub .i64 (std.bin .shl .i64 1 (std.conv .u64 (n : Int))) 1
theorem full_ok (d : DayD) (hn : d.nc ≤ 7) : Pure Try.prog 53 [dayV d] (iV (fullI d.nc)) := by
  obtain ⟨O, hO⟩ : ∃ O : Ar, O = std := ⟨_, rfl⟩
  have hc0 : 0 ≤ O.conv .u64 (Int.ofNat d.nc) := by
    subst hO
    show 0 ≤ wrp .u64 ((d.nc : Nat) : Int)
    rw [wrp_in (by simp only [IntKind.lo]; omega) (by simp only [IntKind.hi]; omega)]
    omega
  refine pure_of_body tok 3 Try.func53 en53 rfl ⟨dayV_below d, trivial⟩ Below.lit ?_
  refine SW.seqRun tok hO (by cbv <;> rfl) (by trivial) ?_
  refine SW.seqRun tok hO (by cbv <;> rfl) (by first | exact hc0 | exact ⟨hc0, trivial⟩) ?_
  refine SW.ret ⟨_, _, rfl, rfl, Eqv.int ?_⟩
  subst hO; rfl
set_option pp.deepTerms false
set_option pp.deepTerms.threshold 5
end Go.Fz
namespace Go.Fz
open Go.Proofs
set_option maxRecDepth 100000
end Go.Fz
namespace Go.Fz
open Go.Proofs
set_option maxRecDepth 100000
end Go.Fz
namespace Go.Fz
open Go.Proofs
set_option maxRecDepth 100000
theorem mem_nth {l : List (Nat → Int)} {f : Nat → Int} (h : f ∈ l) : ∃ i, i < l.length ∧ nthF l i = f := by
  obtain ⟨i, hi, e⟩ := List.getElem_of_mem h
  exact ⟨i, hi, by unfold nthF; rw [List.getD_eq_getElem?_getD, List.getElem?_eq_getElem hi]; exact e⟩
section
variable (d : DayD) (k w lo hi : Int)
end
end Go.Fz
namespace Go.Fz
open Go.Proofs
set_option maxRecDepth 100000
section
variable {T : Ti}
end
theorem WeakR.tabM {n0 m : Nat} {tb : List (Nat × Nat)} {f1 : Fm} {st1 : St} {l : List (Nat × AV)} {len : Nat} {dm : List Nat} {h2 : Hp} {n2 : Nat} (e1 : len = f1.ts.len) (e2 : dm = f1.dm) (e3 : ∀ id ∈ dm, id < n0) (hid : (tb.all fun p => Nat.ble n0 p.1) = true) (lo : n0 ≤ n2)
    (hinj : (h2.all fun p => h2.all fun q => !(Nat.beq (tabR tb p.1) (tabR tb q.1)) || Nat.beq p.1 q.1) = true)
    (get : AllP (fun p => RenV (tabR tb) n2 p.2 (f1.ts.get p.1)) l) (obj : AllP (fun p => p.1 < n2 ∧ ∃ o1, st1.h.get (tabR tb p.1) = some o1 ∧ RenO (tabR tb) n2 p.2 o1 ∧ (p.1 = m ∨ o1.fam = none)) h2) : WeakR n0 (tabR tb) f1 st1 ⟨⟨len, getT l⟩, dm⟩ ⟨h2, n2⟩ := by
  refine WeakR.of (m := m) e1 e2 e3 (tabR_id hid) lo (fun p hp => get.ok p hp) (fun p hp => ?_) (inj_of hinj)
  obtain ⟨h1, o1, h3, h4, h5⟩ := obj.ok p hp
  exact ⟨h1, o1, h3, h4, h5⟩
end Go.Fz
namespace Go.Fz
open Go.Proofs
set_option maxRecDepth 100000
set_option linter.unusedVariables false
set_option maxHeartbeats 32000000 in
theorem refAll_ok (d : DayD) (hnc : d.nc ≤ 7) (N : Nat) (hN : N < 100000) (hmany : Pure Try.prog 55 [dayV d] (iV (Int.ofNat N))) (tt : Nat → TruD) (yy : Nat → TalD) (R : Nat → Nat → Bool) (hnth : ∀ i, i < N → Pure Try.prog 79 [dayV d, iV (Int.ofNat i)] (truV (tt i)))
    (hplay : ∀ i, i < N → Pure Try.prog 47 [dayV d, truV (tt i)] (talV (yy i))) (hr : ∀ i, i < N → ∀ j, j < d.nc → Pure Try.prog 80 [talV (yy i), cntV d j] (.sb (R i j))) : Pure Try.prog 32 [dayV d] (intsV N false (fun i => bitsN (R i) d.nc)) := by
  obtain ⟨O, hO⟩ : ∃ O : Ar, O = std := ⟨_, rfl⟩
  obtain ⟨bt, hbt⟩ : ∃ bt : Nat → Int, bt = fun i => bitsN (R i) d.nc := ⟨_, rfl⟩
  have hbi : ∀ i, bitsN (R i) d.nc = bt i := fun i => by rw [hbt]
  rw [← hbt]
  refine pure_of_body tok 3 Try.func32 en32 rfl ⟨dayV_below d, trivial⟩ (intsV_below _ _ _) ?_
  refine SW.seqRun tok hO (by cbv <;> rfl) (by trivial) ?_
  refine SW.seqRun tok hO (by cbv <;> rfl) (by trivial) ?_
  refine SW.seq ?_
  refine SW.seqRun tok hO (by cbv <;> rfl) (by trivial) ?_
  refine (SW.block (SW.loopR (fun i : Nat => ⟨⟨43, getT [(1, .ptr 0 0), (3, slG 1 1 i), (4, iV (Int.ofNat i))]⟩, []⟩) (fun i => ⟨(0, .cells none false (dayC d)) :: objG 1 1 (intC bt) i, 2⟩) (fun i => N - i) (fun i => i ≤ N) 0 (Nat.zero_le _) (tabR []) ?_ fun i hi => ?_))
  · exact WeakR.tab rfl rfl (by simp) (by rfl) (by show 1 ≤ 2; omega) (by rfl) ⟨RenV.ptr (by omega), RenV.closed Below.lit, RenV.closed Below.lit, trivial⟩ ⟨⟨by omega, _, rfl, .cells (RenVs.closed (dayC_below d)), rfl⟩, trivial⟩
  cases i with
  | zero =>
    show SW _ _ _ _ _ ⟨[(0, .cells none false (dayC d))], 2⟩
    refine SW.seq ?_
    refine SW.seqRun tok hO (by cbv <;> rfl) (by trivial) ?_
    refine OpsW.callP hmany (by cbv <;> rfl) ?_
    refine OpsW.run tok hO (by cbv <;> rfl) (by trivial) ?_
    refine SW.condS (by cbv <;> rfl) (fun h => SW.skip ?_) (fun h => SW.exit ?_)
    · have hlt : 0 < N := by
        have : (Int.ofNat 0 : Int) < Int.ofNat N := by subst hO; simpa [std] using h
        exact Int.ofNat_lt.1 this
      refine SW.seq (SW.block ?_)
      refine SW.seq ((all_bits d hnc nl3 0 [] (tt 0) (yy 0) (R 0) (hnth 0 hlt) (hplay 0 hlt) (hr 0 hlt) _ O hO [] ⟨rfl, rfl, rfl, trivial⟩).mono fun e f st hm => ?_)
      obtain ⟨rfl, g, rfl, ⟨g1, g3, g4, g5, _⟩, rfl⟩ := hm
      simp only at g1 g3 g4 g5
      rw [← updT_self g1, ← updT_self g3, ← updT_self g4, ← updT_self g5]
      show SW _ _ _ _ _ _
      refine SW.seqRun tok hO (by cbv <;> rfl) (by trivial) ?_
      refine SW.seq ((all_loop0 d hnc nl3 0 (yy 0) (R 0) (hr 0 hlt) _ O hO ⟨rfl, rfl, rfl, rfl, rfl, trivial⟩).mono fun e f st hm => ?_)
      clear g1 g3 g4 g5
      obtain ⟨rfl, g, rfl, ⟨g1, g3, g4, g6, _⟩, rfl⟩ := hm
      simp only at g1 g3 g4 g6
      rw [hbi] at g6
      rw [← updT_self g1, ← updT_self g3, ← updT_self g4, ← updT_self g6]
      show SW _ _ _ _ _ _
      refine SW.run tok hO (by cbv <;> rfl) (by trivial) ?_
      refine SW.run tok hO (by cbv <;> rfl) (by trivial) ?_
      refine ⟨1, by omega, by omega, tabR [(1, 4)], ?_⟩
      refine WeakR.tab rfl rfl (by simp) (by rfl) (by show 1 ≤ 2; omega) (by rfl) ⟨RenV.ptr (by omega), RenV.sl (by omega), RenV.inc hO (by omega), trivial⟩ ⟨⟨by omega, _, rfl, .cells (RenVs.closed (dayC_below d)), rfl⟩, ⟨by omega, _, rfl, .cells (RenVs.of_eq rfl (flatG_below (intC_below bt) 1)), rfl⟩, trivial⟩
    · have hz : N = 0 := by
        have : ¬ (Int.ofNat 0 : Int) < Int.ofNat N := by subst hO; simpa [std] using h
        have h2 : ¬ 0 < N := fun h => this (Int.ofNat_lt.2 h)
        omega
      refine SW.seqRun tok hO (by cbv <;> rfl) (by trivial) ?_
      refine SW.ret ⟨_, _, rfl, rfl, ?_⟩
      subst hz
      exact Eqv.nil
  | succ i =>
    obtain ⟨G, hG⟩ : ∃ G, G = flatG 1 (intC bt) (i + 1) := ⟨_, rfl⟩
    have hGo : objG 1 1 (intC bt) (i + 1) = [(1, .cells none false G)] := by rw [hG]; rfl
    have hGb : ∀ a ∈ G, Below 0 a := by rw [hG]; exact flatG_below (intC_below _) _
    rw [hGo]
    show SW _ _ _ _ ⟨⟨43, getT [(1, .ptr 0 0), (3, .sl 1 0 (i + 1) 1 false), (4, iV (Int.ofNat (i + 1)))]⟩, []⟩ _
    refine SW.seq ?_
    refine SW.seqRun tok hO (by cbv <;> rfl) (by trivial) ?_
    refine OpsW.callP hmany (by cbv <;> rfl) ?_
    refine OpsW.run tok hO (by cbv <;> rfl) (by trivial) ?_
    refine SW.condS (by cbv <;> rfl) (fun h => SW.skip ?_) (fun h => SW.exit ?_)
    · have hlt : (i + 1) < N := by
        have : (Int.ofNat (i + 1) : Int) < Int.ofNat N := by subst hO; simpa [std] using h
        exact Int.ofNat_lt.1 this
      refine SW.seq (SW.block ?_)
      refine SW.seq ((all_bits d hnc (.sl 1 0 (i + 1) 1 false) (i + 1) [] (tt (i + 1)) (yy (i + 1)) (R (i + 1)) (hnth (i + 1) hlt) (hplay (i + 1) hlt) (hr (i + 1) hlt) _ O hO [(1, .cells none false G)] ⟨rfl, rfl, rfl, trivial⟩).mono fun e f st hm => ?_)
      obtain ⟨rfl, g, rfl, ⟨g1, g3, g4, g5, _⟩, rfl⟩ := hm
      simp only at g1 g3 g4 g5
      rw [← updT_self g1, ← updT_self g3, ← updT_self g4, ← updT_self g5]
      show SW _ _ _ _ _ _
      refine SW.seqRun tok hO (by cbv <;> rfl) (by trivial) ?_
      refine SW.seq ((all_loop1 d hnc (.sl 1 0 (i + 1) 1 false) (i + 1) (yy (i + 1)) (R (i + 1)) (hr (i + 1) hlt) _ O hO G ⟨rfl, rfl, rfl, rfl, rfl, trivial⟩).mono fun e f st hm => ?_)
      clear g1 g3 g4 g5
      obtain ⟨rfl, g, rfl, ⟨g1, g3, g4, g6, _⟩, rfl⟩ := hm
      simp only at g1 g3 g4 g6
      rw [hbi] at g6
      rw [← updT_self g1, ← updT_self g3, ← updT_self g4, ← updT_self g6]
      show SW _ _ _ _ _ _
      refine SW.runN tok hO 3 (by cbv <;> rfl) (by trivial) ?_
      refine OpsW.appOne tok (by cbv <;> rfl) (by rfl) (by rfl) hG (by kernel_rfl) (by rfl) (by rfl) (by omega) fun G' hG' => ?_
      have hG2 : G' = flatG 1 (intC bt) (i + 1 + 1) := hG'.trans (flatG_snoc bt (i + 1) _ rfl)
      refine OpsW.run tok hO (by cbv <;> rfl) (by trivial) ?_
      refine SW.run tok hO (by cbv <;> rfl) (by trivial) ?_
      refine ⟨i + 1 + 1, by omega, by omega, tabR [(1, 4)], ?_⟩
      have hGo2 : objG 1 1 (intC bt) (i + 1 + 1) = [(1, .cells none false G')] := by rw [hG2]; rfl
      rw [hGo2]
      refine WeakR.tabM (m := 1) rfl rfl (by simp) (by rfl) (by show 1 ≤ 2; omega) (by rfl) ⟨RenV.ptr (by omega), RenV.sl (by omega), RenV.inc hO (by omega), trivial⟩ ⟨⟨by omega, _, rfl, .cells (RenVs.closed (dayC_below d)), .inr rfl⟩, ⟨by omega, _, rfl, .cells (RenVs.closed (by rw [hG2]; exact flatG_below (intC_below bt) _)), .inl rfl⟩, trivial⟩
    · have hz : i + 1 = N := by
        have : ¬ (Int.ofNat (i + 1) : Int) < Int.ofNat N := by subst hO; simpa [std] using h
        have h2 : ¬ i + 1 < N := fun h => this (Int.ofNat_lt.2 h)
        omega
      refine SW.seqRun tok hO (by cbv <;> rfl) (by trivial) ?_
      refine SW.ret ⟨_, _, rfl, rfl, ?_⟩
      subst hz
      show Eqv (frz _ (fun _ => true) 3 (.sl 1 0 (i + 1) 1 false)) _
      rw [frz_slE (fm := none) (G := G) rfl rfl (by rw [hG, flatG_length]; exact Nat.le_refl _)]
      exact Eqv.isl rfl fun a k ha hk => Eqv.of (by rw [hG]; exact frz_flat ha hk rfl)
end Go.Fz
namespace Go.Fz
open Go.Proofs
set_option maxRecDepth 100000
set_option linter.unusedVariables false
def selT (p : Nat → Bool) : Nat → List Nat
  | 0 => []
  | i + 1 => if p i then selT p i ++ [i] else selT p i
theorem selT_len (p : Nat → Bool) : ∀ n, (selT p n).length ≤ n
  | 0 => Nat.le_refl _
  | n + 1 => by
    have := selT_len p n
    unfold selT
    split
    · rw [List.length_append]; simp; omega
    · omega
def tG (nf ns : Nat) (F S : Nat → Nat → Int) (l : List Nat) : Nat → Nat → AV := trG nf ns (fun k => F (l.getD k 0)) (fun k => S (l.getD k 0))
theorem tG_below (nf ns : Nat) (F S : Nat → Nat → Int) (l : List Nat) (i k : Nat) : Below 0 (tG nf ns F S l i k) := by unfold tG trG; split <;> exact intsV_below _ _ _
theorem tG_snoc (nf ns : Nat) (F S : Nat → Nat → Int) (l : List Nat) (i : Nat) : flatG 2 (tG nf ns F S l) l.length ++ [intsV nf false (F i), intsV ns false (S i)] = flatG 2 (tG nf ns F S (l ++ [i])) (l.length + 1) := by
  have h1 : flatG 2 (tG nf ns F S (l ++ [i])) l.length = flatG 2 (tG nf ns F S l) l.length := flatG_congr fun j k hj => by
    have : (l ++ [i]).getD j 0 = l.getD j 0 := by rw [List.getD_eq_getElem?_getD, List.getElem?_append_left hj, ← List.getD_eq_getElem?_getD]
    unfold tG trG
    rw [this]
  have h2 : (l ++ [i]).getD l.length 0 = i := by simp
  show _ = flatG 2 (tG nf ns F S (l ++ [i])) l.length ++ [intsV nf false (F ((l ++ [i]).getD l.length 0)), intsV ns false (S ((l ++ [i]).getD l.length 0))]
  rw [h1, h2]
def slT : List Nat → AV
  | [] => nl3
  | a :: l => .sl 1 0 (l.length + 1) 2 false
def objT (nf ns : Nat) (F S : Nat → Nat → Int) : List Nat → Hp
  | [] => []
  | a :: l => [(1, .cells none false (flatG 2 (tG nf ns F S (a :: l)) (l.length + 1)))]
set_option maxHeartbeats 32000000 in
theorem refTruths_ok (d : DayD) (N : Nat) (hN : N < 100000) (a : Nat → Int) (fu : Int) (F S : Nat → Nat → Int) (hall : Pure Try.prog 32 [dayV d] (intsV N false a)) (hfull : Pure Try.prog 53 [dayV d] (iV fu))
    (hnth : ∀ i, i < N → Pure Try.prog 79 [dayV d, iV (Int.ofNat i)] (.agg [intsV d.nw false (F i), intsV d.nl false (S i)])) :
    Pure Try.prog 46 [dayV d] (trsV (selT (fun i => decide (a i = fu)) N).length d.nw d.nl (fun k => F ((selT (fun i => decide (a i = fu)) N).getD k 0)) (fun k => S ((selT (fun i => decide (a i = fu)) N).getD k 0))) := by
  obtain ⟨O, hO⟩ : ∃ O : Ar, O = std := ⟨_, rfl⟩
  have hnat : ∀ i : Nat, O.nat (Int.ofNat i) = i := fun i => by subst hO; rfl
  obtain ⟨p, hp⟩ : ∃ p : Nat → Bool, p = fun i => decide (a i = fu) := ⟨_, rfl⟩
  rw [← hp]
  have hpi : ∀ i, O.cmp .eql (a (O.nat (Int.ofNat i))) fu = p i := fun i => by rw [hnat, hp]; subst hO; rfl
  refine pure_of_body tok 3 Try.func46 en46 rfl ⟨dayV_below d, trivial⟩ (trsV_below _ _ _ _ _) ?_
  refine SW.seqRun tok hO (by cbv <;> rfl) (by trivial) ?_
  refine SW.seqRun tok hO (by cbv <;> rfl) (by trivial) ?_
  refine OpsW.callP hall (by cbv <;> rfl) ?_
  refine OpsW.run tok hO (by cbv <;> rfl) (by trivial) ?_
  refine SW.seqRun tok hO (by cbv <;> rfl) (by trivial) ?_
  refine SW.seq ?_
  refine SW.seqRun tok hO (by cbv <;> rfl) (by trivial) ?_
  refine (SW.block (SW.loopR (fun x : Nat × List Nat => ⟨⟨28, getT [(1, .ptr 0 0), (3, intsV N false a), (4, slT x.2), (5, iV (Int.ofNat x.1))]⟩, []⟩) (fun x => ⟨(0, .cells none false (dayC d)) :: objT d.nw d.nl F S x.2, 2⟩) (fun x => N - x.1) (fun x => x.1 ≤ N ∧ x.2 = selT p x.1) (0, []) ⟨Nat.zero_le _, rfl⟩ (tabR []) ?_ fun x hx => ?_))
  · exact WeakR.tab rfl rfl (by simp) (by rfl) (by show 1 ≤ 2; omega) (by rfl) ⟨RenV.ptr (by omega), RenV.closed (intsV_below _ _ _), RenV.closed Below.lit, RenV.closed Below.lit, trivial⟩ ⟨⟨by omega, _, rfl, .cells (RenVs.closed (dayC_below d)), rfl⟩, trivial⟩
  obtain ⟨i, l⟩ := x
  obtain ⟨hi, hl⟩ := hx
  simp only at hi hl
  have hll : l.length ≤ N := by rw [hl]; exact Nat.le_trans (selT_len p i) hi
  have hst : p i = true → l ++ [i] = selT p (i + 1) := fun h => by rw [hl]; show _ = if p i then _ else _; rw [h]; rfl
  have hsf : p i = false → l = selT p (i + 1) := fun h => by rw [hl]; show _ = if p i then _ else _; rw [h]; rfl
  cases l with
  | nil =>
    show SW _ _ _ _ ⟨⟨28, getT [(1, .ptr 0 0), (3, intsV N false a), (4, nl3), (5, iV (Int.ofNat i))]⟩, []⟩ ⟨[(0, .cells none false (dayC d))], 2⟩
    refine SW.seq ?_
    refine SW.seqRun tok hO (by cbv <;> rfl) (by trivial) ?_
    refine SW.condS (by cbv <;> rfl) (fun h => SW.skip ?_) (fun h => SW.exit ?_)
    · have hlt : i < N := by
        have : (Int.ofNat i : Int) < Int.ofNat N := by subst hO; simpa [std] using h
        exact Int.ofNat_lt.1 this
      have hin : 0 ≤ Int.ofNat i ∧ Int.ofNat i < (N : Int) := ⟨Int.natCast_nonneg i, Int.ofNat_lt.2 hlt⟩
      refine SW.seq (SW.block ?_)
      refine SW.seqRunD tok mixed hO (by kernel_rfl) (by cbv <;> rfl) (by repeat (first | exact trivial | exact hin | refine ⟨?_, ?_⟩)) ?_
      refine AnyE.callP hfull (by cbv <;> rfl) (by cbv <;> rfl) ?_
      refine AnyE.dec tok hO (by kernel_rfl) (by cbv <;> rfl) (by trivial) (fun h1 => ?_) (fun h1 => ?_)
      · have hpt : p i = true := (hpi i).symm.trans h1
        refine AnyE.done (by kernel_rfl) ?_
        refine SW.condS (by cbv <;> rfl) (fun h2 => ?_) (fun h2 => absurd h2 (by decide))
        refine SW.run tok hO (by cbv <;> rfl) (by trivial) ?_
        refine OpsW.callP (hnth i hlt) (by cbv <;> rfl) ?_
        refine OpsW.run tok hO (by cbv <;> rfl) (by trivial) ?_
        refine SW.run tok hO (by cbv <;> rfl) (by trivial) ?_
        refine ⟨(i + 1, [i]), by show N - (i + 1) < N - i; omega, ⟨by show i + 1 ≤ N; omega, hst hpt⟩, tabR [(1, 3)], ?_⟩
        refine WeakR.tab rfl rfl (by simp) (by rfl) (by show 1 ≤ 2; omega) (by rfl) ⟨RenV.ptr (by omega), RenV.closed (intsV_below _ _ _), RenV.sl (by omega), RenV.inc hO (by omega), trivial⟩ ⟨⟨by omega, _, rfl, .cells (RenVs.closed (dayC_below d)), rfl⟩, ⟨by omega, _, rfl, .cells (RenVs.of_eq rfl (flatG_below (tG_below d.nw d.nl F S [i]) 1)), rfl⟩, trivial⟩
      · have hpf : p i = false := (hpi i).symm.trans h1
        refine AnyE.done (by kernel_rfl) ?_
        refine SW.condS (by cbv <;> rfl) (fun h2 => absurd h2 (by decide)) (fun h2 => SW.skip ?_)
        refine SW.run tok hO (by cbv <;> rfl) (by trivial) ?_
        refine ⟨(i + 1, []), by show N - (i + 1) < N - i; omega, ⟨by show i + 1 ≤ N; omega, hsf hpf⟩, tabR [], ?_⟩
        exact WeakR.tab rfl rfl (by simp) (by rfl) (by show 1 ≤ 2; omega) (by rfl) ⟨RenV.ptr (by omega), RenV.closed (intsV_below _ _ _), RenV.closed Below.lit, RenV.inc hO (by omega), trivial⟩ ⟨⟨by omega, _, rfl, .cells (RenVs.closed (dayC_below d)), rfl⟩, trivial⟩
    · have hz : i = N := by
        have : ¬ (Int.ofNat i : Int) < Int.ofNat N := by subst hO; simpa [std] using h
        have h2 : ¬ i < N := fun h => this (Int.ofNat_lt.2 h)
        omega
      refine SW.seqRun tok hO (by cbv <;> rfl) (by trivial) ?_
      refine SW.ret ⟨_, _, rfl, rfl, ?_⟩
      subst hz
      rw [← hl]
      exact Eqv.nil
  | cons b l =>
    obtain ⟨m, hm⟩ : ∃ m, m = l.length := ⟨_, rfl⟩
    obtain ⟨G, hG⟩ : ∃ G, G = flatG 2 (tG d.nw d.nl F S (b :: l)) (m + 1) := ⟨_, rfl⟩
    have hGb : ∀ a ∈ G, Below 0 a := by rw [hG]; exact flatG_below (tG_below _ _ _ _ _) _
    have hm1 : m + 1 ≤ N := by rw [hm]; exact hll
    show SW _ _ _ _ ⟨⟨28, getT [(1, .ptr 0 0), (3, intsV N false a), (4, .sl 1 0 (l.length + 1) 2 false), (5, iV (Int.ofNat i))]⟩, []⟩ ⟨[(0, .cells none false (dayC d)), (1, .cells none false (flatG 2 (tG d.nw d.nl F S (b :: l)) (l.length + 1)))], 2⟩
    rw [← hm, ← hG]
    refine SW.seq ?_
    refine SW.seqRun tok hO (by cbv <;> rfl) (by trivial) ?_
    refine SW.condS (by cbv <;> rfl) (fun h => SW.skip ?_) (fun h => SW.exit ?_)
    · have hlt : i < N := by
        have : (Int.ofNat i : Int) < Int.ofNat N := by subst hO; simpa [std] using h
        exact Int.ofNat_lt.1 this
      have hin : 0 ≤ Int.ofNat i ∧ Int.ofNat i < (N : Int) := ⟨Int.natCast_nonneg i, Int.ofNat_lt.2 hlt⟩
      refine SW.seq (SW.block ?_)
      refine SW.seqRunD tok mixed hO (by kernel_rfl) (by cbv <;> rfl) (by repeat (first | exact trivial | exact hin | refine ⟨?_, ?_⟩)) ?_
      refine AnyE.callP hfull (by cbv <;> rfl) (by cbv <;> rfl) ?_
      refine AnyE.dec tok hO (by kernel_rfl) (by cbv <;> rfl) (by trivial) (fun h1 => ?_) (fun h1 => ?_)
      · have hpt : p i = true := (hpi i).symm.trans h1
        refine AnyE.done (by kernel_rfl) ?_
        refine SW.condS (by cbv <;> rfl) (fun h2 => ?_) (fun h2 => absurd h2 (by decide))
        refine SW.run tok hO (by cbv <;> rfl) (by trivial) ?_
        refine OpsW.callP (hnth i hlt) (by cbv <;> rfl) ?_
        refine OpsW.runN tok hO 1 (by cbv <;> rfl) (by trivial) ?_
        refine OpsW.appOne tok (by cbv <;> rfl) (by rfl) (by rfl) hG (by kernel_rfl) (by rfl) (by rfl) (by omega) fun G' hG' => ?_
        have hG2 : G' = flatG 2 (tG d.nw d.nl F S ((b :: l) ++ [i])) (m + 1 + 1) := hG'.trans (by have := tG_snoc d.nw d.nl F S (b :: l) i; rw [show (b :: l).length = m + 1 by rw [hm]; rfl] at this; exact this)
        refine OpsW.run tok hO (by cbv <;> rfl) (by trivial) ?_
        refine SW.run tok hO (by cbv <;> rfl) (by trivial) ?_
        refine ⟨(i + 1, b :: (l ++ [i])), by show N - (i + 1) < N - i; omega, ⟨by show i + 1 ≤ N; omega, hst hpt⟩, tabR [(1, 3)], ?_⟩
        have hlen : (l ++ [i]).length + 1 = m + 1 + 1 := by rw [hm]; simp
        have hob : objT d.nw d.nl F S (b :: (l ++ [i])) = [(1, .cells none false G')] := by
          show [(1, AObj.cells none false (flatG 2 (tG d.nw d.nl F S (b :: (l ++ [i]))) ((l ++ [i]).length + 1)))] = _
          rw [hlen, hG2]; rfl
        show WeakR _ _ _ _ ⟨⟨28, getT [(1, .ptr 0 0), (3, intsV N false a), (4, .sl 1 0 ((l ++ [i]).length + 1) 2 false), (5, iV (Int.ofNat (i + 1)))]⟩, []⟩ ⟨(0, .cells none false (dayC d)) :: objT d.nw d.nl F S (b :: (l ++ [i])), 2⟩
        rw [hlen, hob]
        refine WeakR.tabM (m := 1) rfl rfl (by simp) (by rfl) (by show 1 ≤ 2; omega) (by rfl) ⟨RenV.ptr (by omega), RenV.closed (intsV_below _ _ _), RenV.sl (by omega), RenV.inc hO (by omega), trivial⟩ ⟨⟨by omega, _, rfl, .cells (RenVs.closed (dayC_below d)), .inr rfl⟩, ⟨by omega, _, rfl, .cells (RenVs.closed (by rw [hG2]; exact flatG_below (tG_below _ _ _ _ _) _)), .inl rfl⟩, trivial⟩
      · have hpf : p i = false := (hpi i).symm.trans h1
        refine AnyE.done (by kernel_rfl) ?_
        refine SW.condS (by cbv <;> rfl) (fun h2 => absurd h2 (by decide)) (fun h2 => SW.skip ?_)
        refine SW.run tok hO (by cbv <;> rfl) (by trivial) ?_
        refine ⟨(i + 1, b :: l), by show N - (i + 1) < N - i; omega, ⟨by show i + 1 ≤ N; omega, hsf hpf⟩, tabR [], ?_⟩
        show WeakR _ _ _ _ _ ⟨[(0, .cells none false (dayC d)), (1, .cells none false (flatG 2 (tG d.nw d.nl F S (b :: l)) (l.length + 1)))], 2⟩
        rw [← hm, ← hG]
        show WeakR _ _ _ _ ⟨⟨28, getT [(1, .ptr 0 0), (3, intsV N false a), (4, .sl 1 0 (l.length + 1) 2 false), (5, iV (Int.ofNat (i + 1)))]⟩, []⟩ _
        rw [← hm]
        exact WeakR.tab rfl rfl (by simp) (by rfl) (by show 1 ≤ 2; omega) (by rfl) ⟨RenV.ptr (by omega), RenV.closed (intsV_below _ _ _), RenV.sl (by omega), RenV.inc hO (by omega), trivial⟩ ⟨⟨by omega, _, rfl, .cells (RenVs.closed (dayC_below d)), rfl⟩, ⟨by omega, _, rfl, .cells (RenVs.closed hGb), rfl⟩, trivial⟩
    · have hz : i = N := by
        have : ¬ (Int.ofNat i : Int) < Int.ofNat N := by subst hO; simpa [std] using h
        have h2 : ¬ i < N := fun h => this (Int.ofNat_lt.2 h)
        omega
      refine SW.seqRun tok hO (by cbv <;> rfl) (by trivial) ?_
      refine SW.ret ⟨_, _, rfl, rfl, ?_⟩
      subst hz
      rw [← hl]
      show Eqv (frz _ (fun _ => true) 3 (.sl 1 0 (m + 1) 2 false)) (.isl (l.length + 1) 2 false (tG d.nw d.nl F S (b :: l)))
      rw [← hm]
      rw [frz_slE (fm := none) (G := G) rfl rfl (by rw [hG, flatG_length]; exact Nat.le_refl _)]
      exact Eqv.isl rfl fun a k ha hk => Eqv.of (by rw [hG]; exact frz_flat ha hk (by unfold tG trG; split <;> rfl))
end Go.Fz
namespace Go.Fz
open Go.Proofs
set_option maxRecDepth 100000
set_option linter.unusedVariables false
theorem sure_bad (d : DayD) (e : Int) (he : e ≠ 0) (hf : Pure Try.prog 24 [dayV d] (iV e)) : Pure Try.prog 20 [dayV d] (.tup [nl3, iV e]) := by
  obtain ⟨O, hO⟩ : ∃ O : Ar, O = std := ⟨_, rfl⟩
  have hz : O.cmp .neq e 0 = true := by subst hO; simpa [std] using he
  refine pure_of_body tok 3 Try.func20 en20 rfl ⟨dayV_below d, trivial⟩ (Below.tup (AllB.ok ⟨Below.lit, Below.lit, trivial⟩)) ?_
  refine SW.seqRun tok hO (by cbv <;> rfl) (by trivial) ?_
  refine SW.seq ?_
  refine SW.seqRun tok hO (by cbv <;> rfl) (by trivial) ?_
  refine OpsW.callP hf (by cbv <;> rfl) ?_
  refine OpsW.run tok hO (by cbv <;> rfl) (by trivial) ?_
  refine SW.seqRun tok hO (by cbv <;> rfl) (by trivial) ?_
  refine SW.condS (by cbv <;> rfl) (fun h => ?_) (fun h => absurd (show true = false from hz.symm.trans h) (by decide))
  refine SW.seqRun tok hO (by cbv <;> rfl) (by trivial) ?_
  exact SW.ret ⟨_, _, rfl, rfl, Eqv.of rfl⟩
theorem sure_ok (d : DayD) (M nf ns : Nat) (F S : Nat → Nat → Int) (hM : M < 100000) (hf : Pure Try.prog 24 [dayV d] (iV 0)) (ht : Pure Try.prog 46 [dayV d] (trsV M nf ns F S)) : Pure Try.prog 20 [dayV d] (.tup [if M = 0 then nl3 else trsV M nf ns F S, iV (if M = 0 then 11 else 0)]) := by
  obtain ⟨O, hO⟩ : ∃ O : Ar, O = std := ⟨_, rfl⟩
  have hz : O.cmp .neq 0 0 = false := by subst hO; rfl
  refine pure_of_body tok 3 Try.func20 en20 rfl ⟨dayV_below d, trivial⟩ (Below.tup (AllB.ok ⟨by split; exact Below.lit; exact trsV_below _ _ _ _ _, Below.lit, trivial⟩)) ?_
  refine SW.seqRun tok hO (by cbv <;> rfl) (by trivial) ?_
  refine SW.seq ?_
  refine SW.seqRun tok hO (by cbv <;> rfl) (by trivial) ?_
  refine OpsW.callP hf (by cbv <;> rfl) ?_
  refine OpsW.run tok hO (by cbv <;> rfl) (by trivial) ?_
  refine SW.seqRun tok hO (by cbv <;> rfl) (by trivial) ?_
  refine SW.condS (by cbv <;> rfl) (fun h => absurd (show false = true from hz.symm.trans h) (by decide)) (fun h => SW.skip ?_)
  refine SW.seqRun tok hO (by cbv <;> rfl) (by trivial) ?_
  refine OpsW.callP ht (by cbv <;> rfl) ?_
  refine OpsW.run tok hO (by cbv <;> rfl) (by trivial) ?_
  refine SW.seq ?_
  refine SW.seqRun tok hO (by cbv <;> rfl) (by trivial) ?_
  refine SW.condS (by cbv <;> rfl) (fun h => ?_) (fun h => SW.skip ?_)
  · have h3 : M = 0 := by
      have : (M : Int) = 0 := by subst hO; simpa [std] using h
      omega
    refine SW.seqRun tok hO (by cbv <;> rfl) (by trivial) ?_
    refine SW.ret ⟨_, _, rfl, rfl, ?_⟩
    rw [if_pos h3, if_pos h3]; exact Eqv.of rfl
  · have h3 : ¬ M = 0 := by
      have : ¬ (M : Int) = 0 := by subst hO; simpa [std] using h
      omega
    refine SW.seqRun tok hO (by cbv <;> rfl) (by trivial) ?_
    refine SW.ret ⟨_, _, rfl, rfl, ?_⟩
    rw [if_neg h3, if_neg h3]; exact Eqv.of rfl
end Go.Fz
namespace Go.Fz
open Go.Proofs
set_option maxRecDepth 100000
def DayD.qW (d : DayD) (N : Int) : Nat → Int
  | 0 => N
  | s + 1 => quo64 (d.qW N s) (size64 (d.wlo s) (d.whi s))
def DayD.qL (d : DayD) (N : Int) : Nat → Int
  | 0 => d.qW N d.nw
  | s + 1 => quo64 (d.qL N s) (size64 (d.llo s) (d.lhi s))
def DayD.feN (d : DayD) (N : Int) (s : Nat) : Int := add64 (d.wlo s) ((d.qW N s).tmod (size64 (d.wlo s) (d.whi s)))
def DayD.stN (d : DayD) (N : Int) (s : Nat) : Int := add64 (d.llo s) ((d.qL N s).tmod (size64 (d.llo s) (d.lhi s)))
def DayD.nthT (d : DayD) (N : Int) : TruD := ⟨d.nw, false, d.feN N, d.nl, false, d.stN N⟩
def tru0 : List AV := [nl3, nl3]
theorem tru0_below : ∀ a ∈ tru0, Below 0 a := AllB.ok ⟨Below.lit, Below.lit, trivial⟩
def nthS (d : DayD) (A B : AV) (H : Hp) (n : Nat) : St := ⟨[(2, .cells none false [A, B]), (1, .cells none false tru0), (0, .cells none false (dayC d))] ++ H, n⟩
def midN (mk : AV → St) (a : AV) (q : Int) (e : Exit) (fm : Fm) (st : St) : Prop :=
  e = .normal ∧ ∃ g X, fm = ⟨⟨68, g⟩, []⟩ ∧ g 1 = iV q ∧ g 2 = .ptr 0 0 ∧ g 4 = .ptr 1 0 ∧ g 5 = .ptr 2 0 ∧ Eqv X a ∧ (X = nl3 ∨ ∃ len sz h, X = .isl len sz false h) ∧ st = mk X
set_option maxHeartbeats 8000000 in
theorem nth_ok (d : DayD) (g0 : d.Good) (N : Int) : Pure Try.prog 79 [dayV d, iV N] (truV (d.nthT N)) := by
  obtain ⟨O, hO⟩ : ∃ O : Ar, O = std := ⟨_, rfl⟩
  have hnat : ∀ i : Nat, O.nat (Int.ofNat i) = i := fun i => by subst hO; rfl
  have hnw := g0.nw
  have hnl := g0.nl
  refine pure_of_body tok 3 Try.func79 en79 rfl ⟨dayV_below d, iV_below, trivial⟩ (truV_below _) ?_
  refine SW.seqRun tok hO (by cbv <;> rfl) (by trivial) ?_
  refine SW.seqRun tok hO (by cbv <;> rfl) (by trivial) ?_
  refine SW.seq (SW.mono (Q := midN (fun X => nthS d (X) nl3 [] 4) (intsV d.nw false (d.feN N)) (d.qW N d.nw)) ?_ ?_)
  · refine SW.seqRun tok hO (by cbv <;> rfl) (by trivial) ?_
    refine (SW.block (SW.loopR (fun i : Nat => ⟨⟨68, getT [(1, iV (d.qW N i)), (2, .ptr 0 0), (4, .ptr 1 0), (5, .ptr 2 0), (6, iV i)]⟩, []⟩) (fun i => nthS d (slG 3 1 i) nl3 (objG 3 1 (intC (d.feN N)) i) 4) (fun i => d.nw - i) (fun i => i ≤ d.nw) 0 (Nat.zero_le _) (ren1 3 3) ?_ fun i hi => ?_))
    · exact WeakR.up rfl rfl (by simp) (Nat.le_refl _) (.inl rfl) (by show 3 ≤ 4; omega) ⟨RenV.closed Below.lit, RenV.ptr (by omega), RenV.ptr (by omega), RenV.ptr (by omega), RenV.closed Below.lit, trivial⟩ ⟨⟨by omega, _, rfl, .cells (.cons (RenV.closed Below.lit) (.cons (RenV.closed Below.lit) .nil)), .inr rfl⟩, ⟨by omega, _, rfl, .cells (RenVs.closed tru0_below), .inr rfl⟩, ⟨by omega, _, rfl, .cells (RenVs.closed (dayC_below d)), .inr rfl⟩, trivial⟩ (fun p hp => by cases hp)
    generalize hQ : d.qW N i = q
    cases i with
    | zero =>
      refine SW.seq ?_
      refine SW.seqRun tok hO (by cbv <;> rfl) (by trivial) ?_
      refine SW.condS (by cbv <;> rfl) (fun h => SW.skip ?_) (fun h => ?_)
      · have hlt : 0 < d.nw := by subst hO; simpa [std] using h
        have h0 : (0 : Int) ≤ Int.ofNat (0) := Int.natCast_nonneg _
        obtain ⟨hs0, hs1, hs2⟩ := g0.wom (0) hlt
        have hsz := size64_in (lo := d.wlo (0)) (hi := d.whi (0)) (by omega) hs1 (by omega)
        have hne : size64 (d.wlo (0)) (d.whi (0)) ≠ 0 := by rw [hsz]; omega
        have call := size61_ok (d.wlo (0)) (d.whi (0))
        have e1 : quo64 q (size64 (d.wlo (0)) (d.whi (0))) = d.qW N (1) := by rw [← hQ]; rfl
        have e2 : add64 (d.wlo (0)) (q.tmod (size64 (d.wlo (0)) (d.whi (0)))) = d.feN N (0) := by rw [← hQ]; rfl
        generalize size64 (d.wlo (0)) (d.whi (0)) = z at call hne e1 e2
        rw [← hnat (0)] at call
        refine SW.seq (SW.block ?_)
        refine SW.seqRun tok hO (by cbv <;> rfl) ?_ ?_
        · exact ⟨h0, Int.ofNat_lt.2 hlt⟩
        refine SW.runD tok mixed hO (by rfl) (by cbv <;> rfl) (by trivial) ?_
        refine AnyE.callP call (by cbv <;> rfl) (by cbv <;> rfl) ?_
        refine AnyE.run tok hO (by rfl) (by cbv <;> rfl) ?_ ?_
        · exact hne
        refine AnyE.effK tok hO (by cbv <;> rfl) (by cbv <;> rfl) (by trivial) ?_ ?_
        · exact (by repeat (first | exact trivial | refine And.intro (by first | exact lv_of hO (by cbv <;> rfl) (by trivial) | (refine lv_of hO (by cbv <;> rfl) ?_; exact hne)) ?_))
        refine AnyE.appNilK tok (by cbv <;> rfl) (by cbv <;> rfl) (by rfl) (by kernel_rfl) (by rfl) (by rfl) ?_ ?_
        · exact (by repeat (first | exact trivial | refine And.intro (by first | exact lv_of hO (by cbv <;> rfl) (by trivial) | (refine lv_of hO (by cbv <;> rfl) ?_; exact hne)) ?_))
        refine AnyE.run tok hO (by rfl) (by cbv <;> rfl) (by trivial) ?_
        refine AnyE.callP call (by cbv <;> rfl) (by cbv <;> rfl) ?_
        refine AnyE.run tok hO (by rfl) (by cbv <;> rfl) ?_ ?_
        · exact hne
        refine AnyE.effK tok hO (by cbv <;> rfl) (by cbv <;> rfl) (by trivial) ?_ ?_
        · exact (by repeat (first | exact trivial | refine And.intro (by first | exact lv_of hO (by cbv <;> rfl) (by trivial) | (refine lv_of hO (by cbv <;> rfl) ?_; exact hne)) ?_))
        refine AnyE.run tok hO (by rfl) (by cbv <;> rfl) (by trivial) ?_
        first
          | refine AnyE.done (by rfl) ?_
          | (refine AnyE.effK tok hO (by cbv <;> rfl) (by cbv <;> rfl) (by trivial) ?_ ?_
             · exact (by repeat (first | exact trivial | refine And.intro (by first | exact lv_of hO (by cbv <;> rfl) (by trivial) | (refine lv_of hO (by cbv <;> rfl) ?_; exact hne)) ?_))
             refine AnyE.done (by rfl) ?_)
        refine SW.run tok hO (by cbv <;> rfl) (by trivial) ?_
        refine ⟨1, by omega, by omega, ren1 3 6, ?_⟩
        have e3 : O.bin .quo .i64 q z = d.qW N (1) := by rw [← e1]; subst hO; rfl
        have e4 : O.bin .add .i64 (d.wlo (O.nat (Int.ofNat (0)))) (O.bin .rem .i64 q z) = d.feN N (0) := by rw [← e2, hnat]; subst hO; rfl
        refine WeakR.up rfl rfl (by simp) (Nat.le_refl _) (.inr (by omega)) (by show 3 ≤ 4; omega) ⟨?_, RenV.ptr (by omega), RenV.ptr (by omega), RenV.ptr (by omega), RenV.inc hO (by omega), trivial⟩ ⟨⟨by omega, _, rfl, .cells (.cons (RenV.sl (by omega)) (.cons (RenV.closed Below.lit) .nil)), .inr rfl⟩, ⟨by omega, _, rfl, .cells (RenVs.closed tru0_below), .inr rfl⟩, ⟨by omega, _, rfl, .cells (RenVs.closed (dayC_below d)), .inr rfl⟩, trivial⟩ (fun p hp => ?_)
        · show RenV _ _ (iV (d.qW N (1))) (iV (O.bin .quo .i64 q z))
          rw [e3]; exact RenV.closed Below.lit
        obtain rfl := objG_mem hp
        exact ⟨by omega, _, rfl, .cells (RenVs.of_eq (congrArg (fun v => [iV v]) e4) (flatG_below (intC_below (d.feN N)) 1)), .inl rfl⟩
      · have hz : d.nw = 0 := by
          have : d.nw ≤ 0 := by subst hO; simpa [std] using h
          omega
        refine SW.exit ⟨rfl, _, nl3, rfl, by show iV q = _; rw [hz, ← hQ], rfl, rfl, rfl, ?_, .inl rfl, rfl⟩
        show Eqv nl3 (.isl d.nw 1 false (intC (d.feN N)))
        rw [hz]; exact Eqv.nil
    | succ i =>
      obtain ⟨G, hG⟩ : ∃ G, G = flatG 1 (intC (d.feN N)) (i + 1) := ⟨_, rfl⟩
      have hGo : objG 3 1 (intC (d.feN N)) (i + 1) = [(3, .cells none false G)] := by rw [hG]; rfl
      show SW _ _ _ _ _ (nthS d (.sl 3 0 (i + 1) 1 false) nl3 (objG 3 1 (intC (d.feN N)) (i + 1)) 4)
      rw [hGo]
      refine SW.seq ?_
      refine SW.seqRun tok hO (by cbv <;> rfl) (by trivial) ?_
      refine SW.condS (by cbv <;> rfl) (fun h => SW.skip ?_) (fun h => ?_)
      · have hlt : i + 1 < d.nw := by
          have : ((i + 1 : Nat) : Int) < (d.nw : Int) := by subst hO; simpa [std] using h
          omega
        have h0 : (0 : Int) ≤ Int.ofNat (i + 1) := Int.natCast_nonneg _
        obtain ⟨hs0, hs1, hs2⟩ := g0.wom (i + 1) hlt
        have hsz := size64_in (lo := d.wlo (i + 1)) (hi := d.whi (i + 1)) (by omega) hs1 (by omega)
        have hne : size64 (d.wlo (i + 1)) (d.whi (i + 1)) ≠ 0 := by rw [hsz]; omega
        have call := size61_ok (d.wlo (i + 1)) (d.whi (i + 1))
        have e1 : quo64 q (size64 (d.wlo (i + 1)) (d.whi (i + 1))) = d.qW N (i + 1 + 1) := by rw [← hQ]; rfl
        have e2 : add64 (d.wlo (i + 1)) (q.tmod (size64 (d.wlo (i + 1)) (d.whi (i + 1)))) = d.feN N (i + 1) := by rw [← hQ]; rfl
        generalize size64 (d.wlo (i + 1)) (d.whi (i + 1)) = z at call hne e1 e2
        rw [← hnat (i + 1)] at call
        refine SW.seq (SW.block ?_)
        refine SW.seqRun tok hO (by cbv <;> rfl) ?_ ?_
        · exact ⟨h0, Int.ofNat_lt.2 hlt⟩
        refine SW.runD tok mixed hO (by rfl) (by cbv <;> rfl) (by trivial) ?_
        refine AnyE.callP call (by cbv <;> rfl) (by cbv <;> rfl) ?_
        refine AnyE.run tok hO (by rfl) (by cbv <;> rfl) ?_ ?_
        · exact hne
        refine AnyE.effK tok hO (by cbv <;> rfl) (by cbv <;> rfl) (by trivial) ?_ ?_
        · exact (by repeat (first | exact trivial | refine And.intro (by first | exact lv_of hO (by cbv <;> rfl) (by trivial) | (refine lv_of hO (by cbv <;> rfl) ?_; exact hne)) ?_))
        refine AnyE.appOneK (g := intC (d.feN N)) tok (by cbv <;> rfl) (by cbv <;> rfl) (by rfl) (by rfl) hG (by kernel_rfl) (by rfl) (by rfl) (by omega) fun G' hG' => ⟨?_, ?_⟩
        · exact (by repeat (first | exact trivial | refine And.intro (by first | exact lv_of hO (by cbv <;> rfl) (by trivial) | (refine lv_of hO (by cbv <;> rfl) ?_; exact hne)) ?_))
        refine AnyE.run tok hO (by rfl) (by cbv <;> rfl) (by trivial) ?_
        refine AnyE.callP call (by cbv <;> rfl) (by cbv <;> rfl) ?_
        refine AnyE.run tok hO (by rfl) (by cbv <;> rfl) ?_ ?_
        · exact hne
        refine AnyE.effK tok hO (by cbv <;> rfl) (by cbv <;> rfl) (by trivial) ?_ ?_
        · exact (by repeat (first | exact trivial | refine And.intro (by first | exact lv_of hO (by cbv <;> rfl) (by trivial) | (refine lv_of hO (by cbv <;> rfl) ?_; exact hne)) ?_))
        refine AnyE.run tok hO (by rfl) (by cbv <;> rfl) (by trivial) ?_
        first
          | refine AnyE.done (by rfl) ?_
          | (refine AnyE.effK tok hO (by cbv <;> rfl) (by cbv <;> rfl) (by trivial) ?_ ?_
             · exact (by repeat (first | exact trivial | refine And.intro (by first | exact lv_of hO (by cbv <;> rfl) (by trivial) | (refine lv_of hO (by cbv <;> rfl) ?_; exact hne)) ?_))
             refine AnyE.done (by rfl) ?_)
        refine SW.run tok hO (by cbv <;> rfl) (by trivial) ?_
        refine ⟨i + 1 + 1, by omega, by omega, ren1 3 6, ?_⟩
        have e3 : O.bin .quo .i64 q z = d.qW N (i + 1 + 1) := by rw [← e1]; subst hO; rfl
        have e4 : O.bin .add .i64 (d.wlo (O.nat (Int.ofNat (i + 1)))) (O.bin .rem .i64 q z) = d.feN N (i + 1) := by rw [← e2, hnat]; subst hO; rfl
        refine WeakR.up rfl rfl (by simp) (Nat.le_refl _) (.inr (by omega)) (by show 3 ≤ 4; omega) ⟨?_, RenV.ptr (by omega), RenV.ptr (by omega), RenV.ptr (by omega), RenV.inc hO (by omega), trivial⟩ ⟨⟨by omega, _, rfl, .cells (.cons (RenV.sl (by omega)) (.cons (RenV.closed Below.lit) .nil)), .inr rfl⟩, ⟨by omega, _, rfl, .cells (RenVs.closed tru0_below), .inr rfl⟩, ⟨by omega, _, rfl, .cells (RenVs.closed (dayC_below d)), .inr rfl⟩, trivial⟩ (fun p hp => ?_)
        · show RenV _ _ (iV (d.qW N (i + 1 + 1))) (iV (O.bin .quo .i64 q z))
          rw [e3]; exact RenV.closed Below.lit
        obtain rfl := objG_mem hp
        exact ⟨by omega, _, rfl, .cells (RenVs.of_eq (hG'.trans (flatG_snoc (d.feN N) (i + 1) _ e4)) (flatG_below (intC_below (d.feN N)) (i + 1 + 1))), .inl rfl⟩
      · have hz : d.nw = i + 1 := by
          have : (d.nw : Int) ≤ ((i + 1 : Nat) : Int) := by subst hO; simpa [std] using h
          omega
        have hlG : (i + 1) * 1 ≤ G.length := by rw [hG, flatG_length]; omega
        refine SW.freezeZ (fun j => Nat.beq j 3) 3 (by rfl) (SW.exit ⟨rfl, _, _, rfl, by show iV q = _; rw [hz, ← hQ], rfl, rfl, rfl, ?_, ?_, rfl⟩)
        rotate_left
        · exact .inr ⟨_, _, _, frz_slE (fm := none) (G := G) rfl rfl hlG⟩
        show Eqv (frz _ _ 3 (.sl 3 0 (i + 1) 1 false)) (.isl d.nw 1 false (intC (d.feN N)))
        rw [hz, frz_slE (fm := none) (G := G) rfl rfl hlG, hG]
        exact Eqv.isl rfl fun i' k hi' hk => Eqv.of (frz_flat hi' hk rfl)
  rintro e fm st ⟨rfl, g, A, rfl, g1, g2, g4, g5, hA, _, rfl⟩
  refine SW.seq (SW.mono (Q := midN (fun X => nthS d (intsV d.nw false (d.feN N)) (X) [] 5) (intsV d.nl false (d.stN N)) (d.qL N d.nl)) ?_ ?_)
  · refine SW.seqRun tok hO (by cbv <;> rfl) (by trivial) ?_
    refine (SW.block (SW.loopR (fun i : Nat => ⟨⟨68, getT [(1, iV (d.qL N i)), (2, .ptr 0 0), (4, .ptr 1 0), (5, .ptr 2 0), (8, iV i)]⟩, []⟩) (fun i => nthS d (intsV d.nw false (d.feN N)) (slG 4 1 i) (objG 4 1 (intC (d.stN N)) i) 5) (fun i => d.nl - i) (fun i => i ≤ d.nl) 0 (Nat.zero_le _) (ren1 4 4) ?_ fun i hi => ?_))
    · refine WeakR.up rfl rfl (by simp) (Nat.le_refl _) (.inl rfl) (by show 4 ≤ 5; omega) ⟨?_, ?_, ?_, ?_, RenV.closed Below.lit, trivial⟩ ⟨⟨by omega, _, rfl, .cells (.cons (RenV.eqv (RenV.closed (intsV_below _ _ _)) hA) (.cons (RenV.closed Below.lit) .nil)), .inr rfl⟩, ⟨by omega, _, rfl, .cells (RenVs.closed tru0_below), .inr rfl⟩, ⟨by omega, _, rfl, .cells (RenVs.closed (dayC_below d)), .inr rfl⟩, trivial⟩ (fun p hp => by cases hp)
      · show RenV _ _ _ (g 1); rw [g1]; exact RenV.closed Below.lit
      · show RenV _ _ _ (g 2); rw [g2]; exact RenV.ptr (by omega)
      · show RenV _ _ _ (g 4); rw [g4]; exact RenV.ptr (by omega)
      · show RenV _ _ _ (g 5); rw [g5]; exact RenV.ptr (by omega)
    generalize hQ : d.qL N i = q
    cases i with
    | zero =>
      refine SW.seq ?_
      refine SW.seqRun tok hO (by cbv <;> rfl) (by trivial) ?_
      refine SW.condS (by cbv <;> rfl) (fun h => SW.skip ?_) (fun h => ?_)
      · have hlt : 0 < d.nl := by subst hO; simpa [std] using h
        have h0 : (0 : Int) ≤ Int.ofNat (0) := Int.natCast_nonneg _
        obtain ⟨hs0, hs1, hs2⟩ := (fun i hi => (g0.lot i hi).2) (0) hlt
        have hsz := size64_in (lo := d.llo (0)) (hi := d.lhi (0)) (by omega) hs1 (by omega)
        have hne : size64 (d.llo (0)) (d.lhi (0)) ≠ 0 := by rw [hsz]; omega
        have call := size61_ok (d.llo (0)) (d.lhi (0))
        have e1 : quo64 q (size64 (d.llo (0)) (d.lhi (0))) = d.qL N (1) := by rw [← hQ]; rfl
        have e2 : add64 (d.llo (0)) (q.tmod (size64 (d.llo (0)) (d.lhi (0)))) = d.stN N (0) := by rw [← hQ]; rfl
        generalize size64 (d.llo (0)) (d.lhi (0)) = z at call hne e1 e2
        rw [← hnat (0)] at call
        refine SW.seq (SW.block ?_)
        refine SW.seqRun tok hO (by cbv <;> rfl) ?_ ?_
        · exact ⟨h0, Int.ofNat_lt.2 hlt⟩
        refine SW.runD tok mixed hO (by rfl) (by cbv <;> rfl) (by trivial) ?_
        refine AnyE.callP call (by cbv <;> rfl) (by cbv <;> rfl) ?_
        refine AnyE.run tok hO (by rfl) (by cbv <;> rfl) ?_ ?_
        · exact hne
        refine AnyE.effK tok hO (by cbv <;> rfl) (by cbv <;> rfl) (by trivial) ?_ ?_
        · exact (by repeat (first | exact trivial | refine And.intro (by first | exact lv_of hO (by cbv <;> rfl) (by trivial) | (refine lv_of hO (by cbv <;> rfl) ?_; exact hne)) ?_))
        refine AnyE.appNilK tok (by cbv <;> rfl) (by cbv <;> rfl) (by rfl) (by kernel_rfl) (by rfl) (by rfl) ?_ ?_
        · exact (by repeat (first | exact trivial | refine And.intro (by first | exact lv_of hO (by cbv <;> rfl) (by trivial) | (refine lv_of hO (by cbv <;> rfl) ?_; exact hne)) ?_))
        refine AnyE.run tok hO (by rfl) (by cbv <;> rfl) (by trivial) ?_
        refine AnyE.callP call (by cbv <;> rfl) (by cbv <;> rfl) ?_
        refine AnyE.run tok hO (by rfl) (by cbv <;> rfl) ?_ ?_
        · exact hne
        refine AnyE.effK tok hO (by cbv <;> rfl) (by cbv <;> rfl) (by trivial) ?_ ?_
        · exact (by repeat (first | exact trivial | refine And.intro (by first | exact lv_of hO (by cbv <;> rfl) (by trivial) | (refine lv_of hO (by cbv <;> rfl) ?_; exact hne)) ?_))
        refine AnyE.run tok hO (by rfl) (by cbv <;> rfl) (by trivial) ?_
        first
          | refine AnyE.done (by rfl) ?_
          | (refine AnyE.effK tok hO (by cbv <;> rfl) (by cbv <;> rfl) (by trivial) ?_ ?_
             · exact (by repeat (first | exact trivial | refine And.intro (by first | exact lv_of hO (by cbv <;> rfl) (by trivial) | (refine lv_of hO (by cbv <;> rfl) ?_; exact hne)) ?_))
             refine AnyE.done (by rfl) ?_)
        refine SW.run tok hO (by cbv <;> rfl) (by trivial) ?_
        refine ⟨1, by omega, by omega, ren1 4 7, ?_⟩
        have e3 : O.bin .quo .i64 q z = d.qL N (1) := by rw [← e1]; subst hO; rfl
        have e4 : O.bin .add .i64 (d.llo (O.nat (Int.ofNat (0)))) (O.bin .rem .i64 q z) = d.stN N (0) := by rw [← e2, hnat]; subst hO; rfl
        refine WeakR.up rfl rfl (by simp) (Nat.le_refl _) (.inr (by omega)) (by show 4 ≤ 5; omega) ⟨?_, RenV.ptr (by omega), RenV.ptr (by omega), RenV.ptr (by omega), RenV.inc hO (by omega), trivial⟩ ⟨⟨by omega, _, rfl, .cells (.cons (RenV.closed (intsV_below _ _ _)) (.cons (RenV.sl (by omega)) .nil)), .inr rfl⟩, ⟨by omega, _, rfl, .cells (RenVs.closed tru0_below), .inr rfl⟩, ⟨by omega, _, rfl, .cells (RenVs.closed (dayC_below d)), .inr rfl⟩, trivial⟩ (fun p hp => ?_)
        · show RenV _ _ (iV (d.qL N (1))) (iV (O.bin .quo .i64 q z))
          rw [e3]; exact RenV.closed Below.lit
        obtain rfl := objG_mem hp
        exact ⟨by omega, _, rfl, .cells (RenVs.of_eq (congrArg (fun v => [iV v]) e4) (flatG_below (intC_below (d.stN N)) 1)), .inl rfl⟩
      · have hz : d.nl = 0 := by
          have : d.nl ≤ 0 := by subst hO; simpa [std] using h
          omega
        refine SW.exit ⟨rfl, _, nl3, rfl, by show iV q = _; rw [hz, ← hQ], rfl, rfl, rfl, ?_, .inl rfl, rfl⟩
        show Eqv nl3 (.isl d.nl 1 false (intC (d.stN N)))
        rw [hz]; exact Eqv.nil
    | succ i =>
      obtain ⟨G, hG⟩ : ∃ G, G = flatG 1 (intC (d.stN N)) (i + 1) := ⟨_, rfl⟩
      have hGo : objG 4 1 (intC (d.stN N)) (i + 1) = [(4, .cells none false G)] := by rw [hG]; rfl
      show SW _ _ _ _ _ (nthS d (intsV d.nw false (d.feN N)) (.sl 4 0 (i + 1) 1 false) (objG 4 1 (intC (d.stN N)) (i + 1)) 5)
      rw [hGo]
      refine SW.seq ?_
      refine SW.seqRun tok hO (by cbv <;> rfl) (by trivial) ?_
      refine SW.condS (by cbv <;> rfl) (fun h => SW.skip ?_) (fun h => ?_)
      · have hlt : i + 1 < d.nl := by
          have : ((i + 1 : Nat) : Int) < (d.nl : Int) := by subst hO; simpa [std] using h
          omega
        have h0 : (0 : Int) ≤ Int.ofNat (i + 1) := Int.natCast_nonneg _
        obtain ⟨hs0, hs1, hs2⟩ := (fun i hi => (g0.lot i hi).2) (i + 1) hlt
        have hsz := size64_in (lo := d.llo (i + 1)) (hi := d.lhi (i + 1)) (by omega) hs1 (by omega)
        have hne : size64 (d.llo (i + 1)) (d.lhi (i + 1)) ≠ 0 := by rw [hsz]; omega
        have call := size61_ok (d.llo (i + 1)) (d.lhi (i + 1))
        have e1 : quo64 q (size64 (d.llo (i + 1)) (d.lhi (i + 1))) = d.qL N (i + 1 + 1) := by rw [← hQ]; rfl
        have e2 : add64 (d.llo (i + 1)) (q.tmod (size64 (d.llo (i + 1)) (d.lhi (i + 1)))) = d.stN N (i + 1) := by rw [← hQ]; rfl
        generalize size64 (d.llo (i + 1)) (d.lhi (i + 1)) = z at call hne e1 e2
        rw [← hnat (i + 1)] at call
        refine SW.seq (SW.block ?_)
        refine SW.seqRun tok hO (by cbv <;> rfl) ?_ ?_
        · exact ⟨h0, Int.ofNat_lt.2 hlt⟩
        refine SW.runD tok mixed hO (by rfl) (by cbv <;> rfl) (by trivial) ?_
        refine AnyE.callP call (by cbv <;> rfl) (by cbv <;> rfl) ?_
        refine AnyE.run tok hO (by rfl) (by cbv <;> rfl) ?_ ?_
        · exact hne
        refine AnyE.effK tok hO (by cbv <;> rfl) (by cbv <;> rfl) (by trivial) ?_ ?_
        · exact (by repeat (first | exact trivial | refine And.intro (by first | exact lv_of hO (by cbv <;> rfl) (by trivial) | (refine lv_of hO (by cbv <;> rfl) ?_; exact hne)) ?_))
        refine AnyE.appOneK (g := intC (d.stN N)) tok (by cbv <;> rfl) (by cbv <;> rfl) (by rfl) (by rfl) hG (by kernel_rfl) (by rfl) (by rfl) (by omega) fun G' hG' => ⟨?_, ?_⟩
        · exact (by repeat (first | exact trivial | refine And.intro (by first | exact lv_of hO (by cbv <;> rfl) (by trivial) | (refine lv_of hO (by cbv <;> rfl) ?_; exact hne)) ?_))
        refine AnyE.run tok hO (by rfl) (by cbv <;> rfl) (by trivial) ?_
        refine AnyE.callP call (by cbv <;> rfl) (by cbv <;> rfl) ?_
        refine AnyE.run tok hO (by rfl) (by cbv <;> rfl) ?_ ?_
        · exact hne
        refine AnyE.effK tok hO (by cbv <;> rfl) (by cbv <;> rfl) (by trivial) ?_ ?_
        · exact (by repeat (first | exact trivial | refine And.intro (by first | exact lv_of hO (by cbv <;> rfl) (by trivial) | (refine lv_of hO (by cbv <;> rfl) ?_; exact hne)) ?_))
        refine AnyE.run tok hO (by rfl) (by cbv <;> rfl) (by trivial) ?_
        first
          | refine AnyE.done (by rfl) ?_
          | (refine AnyE.effK tok hO (by cbv <;> rfl) (by cbv <;> rfl) (by trivial) ?_ ?_
             · exact (by repeat (first | exact trivial | refine And.intro (by first | exact lv_of hO (by cbv <;> rfl) (by trivial) | (refine lv_of hO (by cbv <;> rfl) ?_; exact hne)) ?_))
             refine AnyE.done (by rfl) ?_)
        refine SW.run tok hO (by cbv <;> rfl) (by trivial) ?_
        refine ⟨i + 1 + 1, by omega, by omega, ren1 4 7, ?_⟩
        have e3 : O.bin .quo .i64 q z = d.qL N (i + 1 + 1) := by rw [← e1]; subst hO; rfl
        have e4 : O.bin .add .i64 (d.llo (O.nat (Int.ofNat (i + 1)))) (O.bin .rem .i64 q z) = d.stN N (i + 1) := by rw [← e2, hnat]; subst hO; rfl
        refine WeakR.up rfl rfl (by simp) (Nat.le_refl _) (.inr (by omega)) (by show 4 ≤ 5; omega) ⟨?_, RenV.ptr (by omega), RenV.ptr (by omega), RenV.ptr (by omega), RenV.inc hO (by omega), trivial⟩ ⟨⟨by omega, _, rfl, .cells (.cons (RenV.closed (intsV_below _ _ _)) (.cons (RenV.sl (by omega)) .nil)), .inr rfl⟩, ⟨by omega, _, rfl, .cells (RenVs.closed tru0_below), .inr rfl⟩, ⟨by omega, _, rfl, .cells (RenVs.closed (dayC_below d)), .inr rfl⟩, trivial⟩ (fun p hp => ?_)
        · show RenV _ _ (iV (d.qL N (i + 1 + 1))) (iV (O.bin .quo .i64 q z))
          rw [e3]; exact RenV.closed Below.lit
        obtain rfl := objG_mem hp
        exact ⟨by omega, _, rfl, .cells (RenVs.of_eq (hG'.trans (flatG_snoc (d.stN N) (i + 1) _ e4)) (flatG_below (intC_below (d.stN N)) (i + 1 + 1))), .inl rfl⟩
      · have hz : d.nl = i + 1 := by
          have : (d.nl : Int) ≤ ((i + 1 : Nat) : Int) := by subst hO; simpa [std] using h
          omega
        have hlG : (i + 1) * 1 ≤ G.length := by rw [hG, flatG_length]; omega
        refine SW.freezeZ (fun j => Nat.beq j 4) 3 (by rfl) (SW.exit ⟨rfl, _, _, rfl, by show iV q = _; rw [hz, ← hQ], rfl, rfl, rfl, ?_, ?_, rfl⟩)
        rotate_left
        · exact .inr ⟨_, _, _, frz_slE (fm := none) (G := G) rfl rfl hlG⟩
        show Eqv (frz _ _ 3 (.sl 4 0 (i + 1) 1 false)) (.isl d.nl 1 false (intC (d.stN N)))
        rw [hz, frz_slE (fm := none) (G := G) rfl rfl hlG, hG]
        exact Eqv.isl rfl fun i' k hi' hk => Eqv.of (frz_flat hi' hk rfl)
  rintro e fm st ⟨rfl, g, A, rfl, g1, g2, g4, g5, hA, hform, rfl⟩
  rw [← updT_self g4, ← updT_self g5]
  rcases hform with rfl | ⟨len, sz, h, rfl⟩
  · refine SW.seqRun tok hO (by cbv <;> rfl) (by trivial) ?_
    exact SW.ret ⟨_, _, rfl, rfl, Eqv.agg (.cons (Eqv.refl _) (.cons hA .nil))⟩
  · refine SW.seqRun tok hO (by cbv <;> rfl) (by trivial) ?_
    exact SW.ret ⟨_, _, rfl, rfl, Eqv.agg (.cons (Eqv.refl _) (.cons hA .nil))⟩
end Go.Fz
namespace Go.Fz
open Go.Proofs
set_option maxRecDepth 100000
end Go.Fz
namespace Go.Fz
open Go.Proofs
set_option maxRecDepth 100000
theorem mod_in {lo hi q : Int} (h0 : 0 ≤ lo) (h1 : lo ≤ hi) (h2 : hi ≤ 5000) (hq : 0 ≤ q) : lo ≤ add64 lo (q.tmod (size64 lo hi)) ∧ add64 lo (q.tmod (size64 lo hi)) ≤ hi := by
  have hs := size64_in h0 h1 h2
  obtain ⟨_, _, _, h4, h5⟩ := tdiv_nn hq (show 1 ≤ size64 lo hi by omega)
  rw [add64_in _ _ (by omega) (by omega)]
  omega
theorem quo_nn {a b : Int} (ha : 0 ≤ a) (ha2 : a ≤ 1000000000) (hb : 1 ≤ b) : 0 ≤ quo64 a b ∧ quo64 a b ≤ 1000000000 := by
  obtain ⟨h1, h2, _⟩ := tdiv_nn ha hb
  rw [quo64_nn ha ha2 hb]; omega
theorem qW_nn {d : DayD} (g : d.Good) {N : Int} (h0 : 0 ≤ N) (h1 : N ≤ 1000000000) : ∀ i, i ≤ d.nw → 0 ≤ d.qW N i ∧ d.qW N i ≤ 1000000000
  | 0, _ => ⟨h0, h1⟩
  | i + 1, h => by
    obtain ⟨a, b⟩ := qW_nn g h0 h1 i (by omega)
    have hw := g.wom i (by omega)
    have hs := size64_in (lo := d.wlo i) (hi := d.whi i) (by omega) (by omega) (by omega)
    exact quo_nn a b (by omega)
theorem qL_nn {d : DayD} (g : d.Good) {N : Int} (h0 : 0 ≤ N) (h1 : N ≤ 1000000000) : ∀ i, i ≤ d.nl → 0 ≤ d.qL N i ∧ d.qL N i ≤ 1000000000
  | 0, _ => qW_nn g h0 h1 d.nw (Nat.le_refl _)
  | i + 1, h => by
    obtain ⟨a, b⟩ := qL_nn g h0 h1 i (by omega)
    have hw := (g.lot i (by omega)).2
    have hs := size64_in (lo := d.llo i) (hi := d.lhi i) (by omega) (by omega) (by omega)
    exact quo_nn a b (by omega)
theorem nth_fits {d : DayD} (g : d.Good) {N : Int} (h0 : 0 ≤ N) (h1 : N ≤ 1000000000) : d.fits (d.nthT N) = true := by
  have e1 : ∀ i, i < d.nw → inB (d.feN N i) (d.wlo i) (d.whi i) = true := fun i hi => by
    have hw := g.wom i hi
    obtain ⟨a, b⟩ := mod_in (lo := d.wlo i) (hi := d.whi i) (by omega) (by omega) (by omega) (qW_nn g h0 h1 i (by omega)).1
    simp only [inB, Bool.and_eq_true, decide_eq_true_eq]
    exact ⟨a, b⟩
  have e2 : ∀ i, i < d.nl → inB (d.stN N i) (d.llo i) (d.lhi i) = true := fun i hi => by
    have hw := (g.lot i hi).2
    obtain ⟨a, b⟩ := mod_in (lo := d.llo i) (hi := d.lhi i) (by omega) (by omega) (by omega) (qL_nn g h0 h1 i (by omega)).1
    simp only [inB, Bool.and_eq_true, decide_eq_true_eq]
    exact ⟨a, b⟩
  show (decide (d.nw = d.nw) && decide (d.nl = d.nl) && allN d.nw (fun i => inB (d.feN N i) (d.wlo i) (d.whi i)) && allN d.nl (fun i => inB (d.stN N i) (d.llo i) (d.lhi i))) = true
  rw [allN_true e1, allN_true e2]; simp
end Go.Fz
