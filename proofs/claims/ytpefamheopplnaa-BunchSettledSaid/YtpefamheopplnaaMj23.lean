/- Own work of the verifier of watercress: FzT2, FzT3, FzH1, FzH2, FzH3, FzO1, FzO4, FzT4, FzT5. -/
import Derived.Test.YtpefamheopplnaaMj22
import Derived.Test.YtpefamheopplnaaMj16
import Derived.Test.YtpefamheopplnaaMj21
import Derived.Test.YtpefamheopplnaaMj14
set_option linter.unusedVariables false
set_option linter.unusedSimpArgs false
namespace Go.Fz
open Go.Proofs
set_option maxRecDepth 100000
def trG (nf ns : Nat) (F S : Nat → Nat → Int) (i k : Nat) : AV := match k with
  | 0 => intsV nf false (F i)
  | _ => intsV ns false (S i)
def trsV (N nf ns : Nat) (F S : Nat → Nat → Int) : AV := .isl N 2 false (trG nf ns F S)
theorem trsV_below (N nf ns : Nat) (F S : Nat → Nat → Int) : Below 0 (trsV N nf ns F S) := Below.isl fun i k _ _ => by unfold trG; split <;> exact intsV_below _ _ _
end Go.Fz
namespace Go.Fz
open Go.Proofs
set_option maxRecDepth 100000
set_option linter.unusedVariables false
def bitsN (b : Nat → Bool) : Nat → Int
  | 0 => 0
  | i + 1 => if b i then std.bin .or .i64 (bitsN b i) (std.bin .shl .i64 1 (std.conv .u64 (Int.ofNat i))) else bitsN b i
noncomputable def alC : Code := match nthC 2 (bodyF Try.f32) with
  | .seq _ (.block _ (.loop c)) => c
  | _ => .skip
noncomputable def alB : Code := match alC with
  | .seq _ (.seq (.block _ b) _) => b
  | _ => .skip
def alS (d : DayD) (H : Hp) (n : Nat) : St := ⟨(0,.cells none false (dayC d)) :: H,n⟩
set_option maxHeartbeats 16000000 in
theorem all_bits (d : DayD) (hnc : d.nc ≤ 7) (X : AV) (i : Nat) (G : List AV) (tt : TruD) (yy : TalD) (R : Nat → Bool) (hnth : Pure Try.prog 79 [dayV d, iV (Int.ofNat i)] (truV tt)) (hplay : Pure Try.prog 47 [dayV d, truV tt] (talV yy)) (hr : ∀ j, j < d.nc → Pure Try.prog 80 [talV yy, cntV d j] (.sb (R j)))
    (g : Nat → AV) (O : Ar) (hO : O = std) (H : Hp) (h : AllP (fun p => g p.1 = p.2) [(1,.ptr 0 0),(3,X),(4,iV (Int.ofNat i))]) :
    SW Try.prog none (nthC 0 alB) (midK 43 [(1,.ptr 0 0),(3,X),(4,iV (Int.ofNat i)),(5,.ptr 2 0)] (⟨(2,.cells none false (talC yy)) :: (0,.cells none false (dayC d)) :: H,3⟩)) ⟨⟨43,g⟩,[]⟩ (alS d H 2) := by
  obtain ⟨g1,g3,g4,_⟩ := h
  simp only at g1 g3 g4
  rw [← updT_self g1,← updT_self g3,← updT_self g4]
  refine SW.runD tok mixed hO (by kernel_rfl) (by cbv <;> rfl) (by trivial) ?_
  refine AnyE.many [3,5] (by cbv <;> rfl) (by rfl) ⟨?_,?_,trivial⟩
  · refine PickE.callQ hnth (by cbv <;> rfl) (by cbv <;> rfl) ?_ ?_
    · exact (by repeat (first | exact trivial | refine And.intro (by first | exact lv_of hO (by cbv <;> rfl) (by trivial) | (cbv <;> rfl)) ?_))
    refine AnyE.run tok hO (by rfl) (by cbv <;> rfl) (by trivial) ?_
    refine AnyE.many [4,5] (by cbv <;> rfl) (by rfl) ⟨?_,?_,trivial⟩
    · refine PickE.callQ hplay (by cbv <;> rfl) (by cbv <;> rfl) ?_ ?_
      · exact (by repeat (first | exact trivial | refine And.intro (by first | exact lv_of hO (by cbv <;> rfl) (by trivial) | (cbv <;> rfl)) ?_))
      refine AnyE.run tok hO (by rfl) (by cbv <;> rfl) (by trivial) ?_
      refine AnyE.effK tok hO (by cbv <;> rfl) (by cbv <;> rfl) (by trivial) ?_ ?_
      · exact (by repeat (first | exact trivial | refine And.intro (by first | exact lv_of hO (by cbv <;> rfl) (by trivial) | (cbv <;> rfl)) ?_))
      refine AnyE.run tok hO (by rfl) (by cbv <;> rfl) (by trivial) ?_
      refine AnyE.effK tok hO (by cbv <;> rfl) (by cbv <;> rfl) (by trivial) ?_ ?_
      · exact (by repeat (first | exact trivial | refine And.intro (by first | exact lv_of hO (by cbv <;> rfl) (by trivial) | (cbv <;> rfl)) ?_))
      refine AnyE.run tok hO (by rfl) (by cbv <;> rfl) (by trivial) ?_
      exact ⟨rfl,_,rfl,⟨rfl,rfl,rfl,rfl,trivial⟩,rfl⟩
    · refine PickE.eff tok hO (by cbv <;> rfl) (by cbv <;> rfl) (by trivial) ?_ ?_
      · exact (by repeat (first | exact trivial | refine And.intro (by first | exact lv_of hO (by cbv <;> rfl) (by trivial) | (cbv <;> rfl)) ?_))
      refine AnyE.run tok hO (by rfl) (by cbv <;> rfl) (by trivial) ?_
      refine AnyE.callP hplay (by cbv <;> rfl) (by cbv <;> rfl) ?_
      refine AnyE.run tok hO (by rfl) (by cbv <;> rfl) (by trivial) ?_
      refine AnyE.effK tok hO (by cbv <;> rfl) (by cbv <;> rfl) (by trivial) ?_ ?_
      · exact (by repeat (first | exact trivial | refine And.intro (by first | exact lv_of hO (by cbv <;> rfl) (by trivial) | (cbv <;> rfl)) ?_))
      refine AnyE.run tok hO (by rfl) (by cbv <;> rfl) (by trivial) ?_
      exact ⟨rfl,_,rfl,⟨rfl,rfl,rfl,rfl,trivial⟩,rfl⟩
  · refine PickE.eff tok hO (by cbv <;> rfl) (by cbv <;> rfl) (by trivial) ?_ ?_
    · exact (by repeat (first | exact trivial | refine And.intro (by first | exact lv_of hO (by cbv <;> rfl) (by trivial) | (cbv <;> rfl)) ?_))
    refine AnyE.run tok hO (by rfl) (by cbv <;> rfl) (by trivial) ?_
    refine AnyE.callP hnth (by cbv <;> rfl) (by cbv <;> rfl) ?_
    refine AnyE.run tok hO (by rfl) (by cbv <;> rfl) (by trivial) ?_
    refine AnyE.callP hplay (by cbv <;> rfl) (by cbv <;> rfl) ?_
    refine AnyE.run tok hO (by rfl) (by cbv <;> rfl) (by trivial) ?_
    refine AnyE.effK tok hO (by cbv <;> rfl) (by cbv <;> rfl) (by trivial) ?_ ?_
    · exact (by repeat (first | exact trivial | refine And.intro (by first | exact lv_of hO (by cbv <;> rfl) (by trivial) | (cbv <;> rfl)) ?_))
    refine AnyE.run tok hO (by rfl) (by cbv <;> rfl) (by trivial) ?_
    exact ⟨rfl,_,rfl,⟨rfl,rfl,rfl,rfl,trivial⟩,rfl⟩
set_option maxHeartbeats 16000000 in
theorem all_loop0 (d : DayD) (hnc : d.nc ≤ 7) (X : AV) (i : Nat) (yy : TalD) (R : Nat → Bool) (hr : ∀ j, j < d.nc → Pure Try.prog 80 [talV yy, cntV d j] (.sb (R j)))
    (g : Nat → AV) (O : Ar) (hO : O = std)  (h : AllP (fun p => g p.1 = p.2) [(1,.ptr 0 0),(3,X),(4,iV (Int.ofNat i)),(5,.ptr 2 0),(6,iV 0)]) :
    SW Try.prog none (nthC 2 alB) (midK 43 [(1,.ptr 0 0),(3,X),(4,iV (Int.ofNat i)),(6,iV (bitsN R d.nc))] (⟨(2,.cells none false (talC yy)) :: (0,.cells none false (dayC d)) :: [],3⟩)) ⟨⟨43,g⟩,[]⟩ (⟨(2,.cells none false (talC yy)) :: (0,.cells none false (dayC d)) :: [],3⟩) := by
  have hnat : ∀ i : Nat,O.nat (Int.ofNat i) = i := fun i => by subst hO; rfl
  obtain ⟨bb,hbb⟩ : ∃ bb,bb = bitsN R := ⟨_,rfl⟩
  have hb0 : bb 0 = 0 := by rw [hbb]; rfl
  have hbs : ∀ j,bb (j + 1) = if R j then O.bin .or .i64 (bb j) (O.bin .shl .i64 1 (O.conv .u64 (Int.ofNat j))) else bb j := fun j => by rw [hbb]; subst hO; rfl
  rw [← hbb]
  obtain ⟨g1,g3,g4,g5,g6,_⟩ := h
  simp only at g1 g3 g4 g5 g6
  rw [← updT_self g1,← updT_self g3,← updT_self g4,← updT_self g5,← updT_self g6]
  refine SW.seqRun tok hO (by cbv <;> rfl) (by trivial) ?_
  refine (SW.block (SW.loopF (fun j : Nat => ⟨⟨43, getT [(1, .ptr 0 0), (3, X), (4, iV (Int.ofNat i)), (5, .ptr 2 0), (6, iV (bb j)), (7, iV (Int.ofNat j))]⟩, []⟩)
    (fun _ => ⟨(2,.cells none false (talC yy)) :: (0,.cells none false (dayC d)) :: [],3⟩) (fun j => d.nc - j) (fun j => j ≤ d.nc) 0
    (fun _ => rfl) (Nat.zero_le _) (Weak.by rfl rfl (by simp) (Nat.le_refl _) (Nat.le_refl _) ⟨⟨rfl,.inl rfl⟩,⟨rfl,.inl rfl⟩,⟨rfl,.inl rfl⟩,⟨rfl,.inl rfl⟩,⟨by rw [hb0]; rfl,.inl rfl⟩,⟨rfl,.inl rfl⟩,trivial⟩ ⟨⟨rfl,by omega,.inl rfl⟩,⟨rfl,by omega,.inl rfl⟩,trivial⟩) fun j hj => ?_))
  refine SW.seq ?_
  refine SW.seqRun tok hO (by cbv <;> rfl) (by trivial) ?_
  refine SW.condS (by cbv <;> rfl) (fun h => SW.skip ?_) (fun h => SW.exit ?_)
  · have hlt : j < d.nc := by subst hO; simpa [std] using h
    have hin : 0 ≤ Int.ofNat j ∧ Int.ofNat j < (d.nc : Int) := ⟨Int.natCast_nonneg j,Int.ofNat_lt.2 hlt⟩
    have hnn : 0 ≤ O.conv .u64 (Int.ofNat j) := by
      subst hO
      show 0 ≤ wrp .u64 (j : Int)
      rw [wrp_in (by simp only [IntKind.lo]; omega) (by simp only [IntKind.hi]; omega)]; omega
    have call := hr (O.nat (Int.ofNat j)) (by rw [hnat]; exact hlt)
    refine SW.seq (SW.block ?_)
    refine SW.seqRunD tok mixed hO (by kernel_rfl) (by cbv <;> rfl) (by repeat (first | exact trivial | exact hin | refine ⟨?_,?_⟩)) ?_
    refine AnyE.callP call (by cbv <;> rfl) (by cbv <;> rfl) ?_
    refine AnyE.run tok hO (by rfl) (by cbv <;> rfl) (by trivial) ?_
    refine SW.condS (by cbv <;> rfl) (fun h2 => ?_) (fun h2 => SW.skip ?_)
    · rw [hnat] at h2
      refine SW.run tok hO (by cbv <;> rfl) (by first | exact hnn | exact ⟨hnn,trivial⟩) ?_
      refine SW.run tok hO (by cbv <;> rfl) (by trivial) ?_
      have hcn : bb (j + 1) = O.bin .or .i64 (bb j) (O.bin .shl .i64 1 (O.conv .u64 (Int.ofNat j))) := by rw [hbs,h2]; rfl
      exact ⟨j + 1,by omega,by omega,Weak.by rfl rfl (by simp) (Nat.le_refl _) (Nat.le_refl _) ⟨⟨rfl,.inl rfl⟩,⟨rfl,.inl rfl⟩,⟨rfl,.inl rfl⟩,⟨rfl,.inl rfl⟩,⟨by rw [hcn]; rfl,.inl rfl⟩,⟨inc_ok hO (by omega),.inl rfl⟩,trivial⟩ ⟨⟨rfl,by omega,.inl rfl⟩,⟨rfl,by omega,.inl rfl⟩,trivial⟩⟩
    · rw [hnat] at h2
      refine SW.run tok hO (by cbv <;> rfl) (by trivial) ?_
      have hcn : bb (j + 1) = bb j := by rw [hbs,h2]; rfl
      exact ⟨j + 1,by omega,by omega,Weak.by rfl rfl (by simp) (Nat.le_refl _) (Nat.le_refl _) ⟨⟨rfl,.inl rfl⟩,⟨rfl,.inl rfl⟩,⟨rfl,.inl rfl⟩,⟨rfl,.inl rfl⟩,⟨by rw [hcn]; rfl,.inl rfl⟩,⟨inc_ok hO (by omega),.inl rfl⟩,trivial⟩ ⟨⟨rfl,by omega,.inl rfl⟩,⟨rfl,by omega,.inl rfl⟩,trivial⟩⟩
  · have hle : ¬ j < d.nc := by subst hO; simpa [std] using h
    obtain rfl : j = d.nc := by omega
    exact ⟨rfl,_,rfl,⟨rfl,rfl,rfl,rfl,trivial⟩,rfl⟩
set_option maxHeartbeats 16000000 in
theorem all_loop1 (d : DayD) (hnc : d.nc ≤ 7) (X : AV) (i : Nat) (yy : TalD) (R : Nat → Bool) (hr : ∀ j, j < d.nc → Pure Try.prog 80 [talV yy, cntV d j] (.sb (R j)))
    (g : Nat → AV) (O : Ar) (hO : O = std) (G : List AV) (h : AllP (fun p => g p.1 = p.2) [(1,.ptr 0 0),(3,X),(4,iV (Int.ofNat i)),(5,.ptr 2 0),(6,iV 0)]) :
    SW Try.prog none (nthC 2 alB) (midK 43 [(1,.ptr 0 0),(3,X),(4,iV (Int.ofNat i)),(6,iV (bitsN R d.nc))] (⟨(2,.cells none false (talC yy)) :: (0,.cells none false (dayC d)) :: [(1,.cells none false G)],3⟩)) ⟨⟨43,g⟩,[]⟩ (⟨(2,.cells none false (talC yy)) :: (0,.cells none false (dayC d)) :: [(1,.cells none false G)],3⟩) := by
  have hnat : ∀ i : Nat,O.nat (Int.ofNat i) = i := fun i => by subst hO; rfl
  obtain ⟨bb,hbb⟩ : ∃ bb,bb = bitsN R := ⟨_,rfl⟩
  have hb0 : bb 0 = 0 := by rw [hbb]; rfl
  have hbs : ∀ j,bb (j + 1) = if R j then O.bin .or .i64 (bb j) (O.bin .shl .i64 1 (O.conv .u64 (Int.ofNat j))) else bb j := fun j => by rw [hbb]; subst hO; rfl
  rw [← hbb]
  obtain ⟨g1,g3,g4,g5,g6,_⟩ := h
  simp only at g1 g3 g4 g5 g6
  rw [← updT_self g1,← updT_self g3,← updT_self g4,← updT_self g5,← updT_self g6]
  refine SW.seqRun tok hO (by cbv <;> rfl) (by trivial) ?_
  refine (SW.block (SW.loopF (fun j : Nat => ⟨⟨43, getT [(1, .ptr 0 0), (3, X), (4, iV (Int.ofNat i)), (5, .ptr 2 0), (6, iV (bb j)), (7, iV (Int.ofNat j))]⟩, []⟩)
    (fun _ => ⟨(2,.cells none false (talC yy)) :: (0,.cells none false (dayC d)) :: [(1,.cells none false G)],3⟩) (fun j => d.nc - j) (fun j => j ≤ d.nc) 0
    (fun _ => rfl) (Nat.zero_le _) (Weak.by rfl rfl (by simp) (Nat.le_refl _) (Nat.le_refl _) ⟨⟨rfl,.inl rfl⟩,⟨rfl,.inl rfl⟩,⟨rfl,.inl rfl⟩,⟨rfl,.inl rfl⟩,⟨by rw [hb0]; rfl,.inl rfl⟩,⟨rfl,.inl rfl⟩,trivial⟩ ⟨⟨rfl,by omega,.inl rfl⟩,⟨rfl,by omega,.inl rfl⟩,⟨rfl,by omega,.inl rfl⟩,trivial⟩) fun j hj => ?_))
  refine SW.seq ?_
  refine SW.seqRun tok hO (by cbv <;> rfl) (by trivial) ?_
  refine SW.condS (by cbv <;> rfl) (fun h => SW.skip ?_) (fun h => SW.exit ?_)
  · have hlt : j < d.nc := by subst hO; simpa [std] using h
    have hin : 0 ≤ Int.ofNat j ∧ Int.ofNat j < (d.nc : Int) := ⟨Int.natCast_nonneg j,Int.ofNat_lt.2 hlt⟩
    have hnn : 0 ≤ O.conv .u64 (Int.ofNat j) := by
      subst hO
      show 0 ≤ wrp .u64 (j : Int)
      rw [wrp_in (by simp only [IntKind.lo]; omega) (by simp only [IntKind.hi]; omega)]; omega
    have call := hr (O.nat (Int.ofNat j)) (by rw [hnat]; exact hlt)
    refine SW.seq (SW.block ?_)
    refine SW.seqRunD tok mixed hO (by kernel_rfl) (by cbv <;> rfl) (by repeat (first | exact trivial | exact hin | refine ⟨?_,?_⟩)) ?_
    refine AnyE.callP call (by cbv <;> rfl) (by cbv <;> rfl) ?_
    refine AnyE.run tok hO (by rfl) (by cbv <;> rfl) (by trivial) ?_
    refine SW.condS (by cbv <;> rfl) (fun h2 => ?_) (fun h2 => SW.skip ?_)
    · rw [hnat] at h2
      refine SW.run tok hO (by cbv <;> rfl) (by first | exact hnn | exact ⟨hnn,trivial⟩) ?_
      refine SW.run tok hO (by cbv <;> rfl) (by trivial) ?_
      have hcn : bb (j + 1) = O.bin .or .i64 (bb j) (O.bin .shl .i64 1 (O.conv .u64 (Int.ofNat j))) := by rw [hbs,h2]; rfl
      exact ⟨j + 1,by omega,by omega,Weak.by rfl rfl (by simp) (Nat.le_refl _) (Nat.le_refl _) ⟨⟨rfl,.inl rfl⟩,⟨rfl,.inl rfl⟩,⟨rfl,.inl rfl⟩,⟨rfl,.inl rfl⟩,⟨by rw [hcn]; rfl,.inl rfl⟩,⟨inc_ok hO (by omega),.inl rfl⟩,trivial⟩ ⟨⟨rfl,by omega,.inl rfl⟩,⟨rfl,by omega,.inl rfl⟩,⟨rfl,by omega,.inl rfl⟩,trivial⟩⟩
    · rw [hnat] at h2
      refine SW.run tok hO (by cbv <;> rfl) (by trivial) ?_
      have hcn : bb (j + 1) = bb j := by rw [hbs,h2]; rfl
      exact ⟨j + 1,by omega,by omega,Weak.by rfl rfl (by simp) (Nat.le_refl _) (Nat.le_refl _) ⟨⟨rfl,.inl rfl⟩,⟨rfl,.inl rfl⟩,⟨rfl,.inl rfl⟩,⟨rfl,.inl rfl⟩,⟨by rw [hcn]; rfl,.inl rfl⟩,⟨inc_ok hO (by omega),.inl rfl⟩,trivial⟩ ⟨⟨rfl,by omega,.inl rfl⟩,⟨rfl,by omega,.inl rfl⟩,⟨rfl,by omega,.inl rfl⟩,trivial⟩⟩
  · have hle : ¬ j < d.nc := by subst hO; simpa [std] using h
    obtain rfl : j = d.nc := by omega
    exact ⟨rfl,_,rfl,⟨rfl,rfl,rfl,rfl,trivial⟩,rfl⟩
end Go.Fz
namespace Go.Fz
open Go.Proofs
set_option maxRecDepth 100000
def fullI (n : Nat) : Int := std.bin .sub .i64 (std.bin .shl .i64 1 (std.conv .u64 (n : Int))) 1
theorem full_ok (d : DayD) (hn : d.nc ≤ 7) : Pure Try.prog 53 [dayV d] (iV (fullI d.nc)) := by
  obtain ⟨O,hO⟩ : ∃ O : Ar,O = std := ⟨_,rfl⟩
  have hc0 : 0 ≤ O.conv .u64 (Int.ofNat d.nc) := by
    subst hO
    show 0 ≤ wrp .u64 ((d.nc : Nat) : Int)
    rw [wrp_in (by simp only [IntKind.lo]; omega) (by simp only [IntKind.hi]; omega)]
    omega
  refine pure_of_body tok 3 Try.func53 en53 rfl ⟨dayV_below d,trivial⟩ Below.lit ?_
  refine SW.seqRun tok hO (by cbv <;> rfl) (by trivial) ?_
  refine SW.seqRun tok hO (by cbv <;> rfl) (by first | exact hc0 | exact ⟨hc0,trivial⟩) ?_
  refine SW.ret ⟨_,_,rfl,rfl,Eqv.int ?_⟩
  subst hO; rfl
def befF (fa fb : Nat → Int) (na nb : Nat) : Nat → Nat → Bool
  | _,0 => decide ((na : Int) < nb)
  | i,k + 1 => if i < na ∧ i < nb then (if fa i = fb i then befF fa fb na nb (i + 1) k else decide (fa i < fb i)) else decide ((na : Int) < nb)
set_option pp.deepTerms false
set_option pp.deepTerms.threshold 5
set_option maxHeartbeats 8000000 in
theorem before92_ok (na nb : Nat) (ea eb : Bool) (fa fb : Nat → Int) (hna : na < 1000) (hnb : nb < 1000) : Pure Try.prog 92 [intsV na ea fa, intsV nb eb fb] (.sb (befF fa fb na nb 0 (na + 1))) := by
  obtain ⟨O,hO⟩ : ∃ O : Ar,O = std := ⟨_,rfl⟩
  have hnat : ∀ i : Nat,O.nat (Int.ofNat i) = i := fun i => by subst hO; rfl
  refine pure_of_body tok 3 Try.func92 en92 rfl ⟨intsV_below _ _ _,intsV_below _ _ _,trivial⟩ Below.sb ?_
  refine SW.seqRun tok hO (by cbv <;> rfl) (by trivial) ?_
  refine SW.seq ?_
  refine SW.seqRun tok hO (by cbv <;> rfl) (by trivial) ?_
  refine (SW.block (SW.loopF (fun i : Nat => ⟨⟨41, getT [(0, intsV na ea fa), (1, intsV nb eb fb), (5, iV i)]⟩, []⟩) (fun _ => ⟨[], 0⟩) (fun i => na + 1 - i) (fun i => i ≤ na ∧ befF fa fb na nb 0 (na + 1) = befF fa fb na nb i (na + 1 - i)) 0
    (fun _ => rfl) ⟨Nat.zero_le _,rfl⟩ (Weak.by rfl rfl (by simp) (Nat.le_refl _) (Nat.le_refl _) ⟨⟨rfl,.inl rfl⟩,⟨rfl,.inl rfl⟩,⟨rfl,.inl rfl⟩,trivial⟩ trivial) fun i ⟨hi,hB⟩ => ?_))
  have hun : befF fa fb na nb i (na + 1 - i) = if i < na ∧ i < nb then (if fa i = fb i then befF fa fb na nb (i + 1) (na - i) else decide (fa i < fb i)) else decide ((na : Int) < nb) := by
    rw [show na + 1 - i = (na - i) + 1 by omega]; rfl
  rw [hun] at hB
  have h0 : (0 : Int) ≤ Int.ofNat i := Int.natCast_nonneg i
  generalize befF fa fb na nb 0 (na + 1) = B at hB ⊢
  refine SW.seq ?_
  refine SW.seqRun tok hO (by cbv <;> rfl) (by trivial) ?_
  have hend : ¬ (i < na ∧ i < nb) → B = decide ((na : Int) < nb) := fun h => by rw [hB,if_neg h]
  refine OpsW.splitG (by cbv <;> rfl) (fun h => ?_) (fun h => ?_)
  · have hlt : i < na := by subst hO; simpa [std] using h
    refine OpsW.run tok hO (by cbv <;> rfl) (by trivial) ?_
    refine SW.condS (by cbv <;> rfl) (fun h3 => SW.skip ?_) (fun h3 => SW.exit ?_)
    · have hlt2 : i < nb := by subst hO; simpa [std] using h3
      rw [if_pos ⟨hlt,hlt2⟩] at hB
      refine SW.seq (SW.block ?_)
      refine SW.seqRunD tok mixed hO (by rfl) (by cbv <;> rfl) ?_ ?_
      · exact ⟨⟨h0,Int.ofNat_lt.2 hlt2⟩,⟨h0,Int.ofNat_lt.2 hlt⟩⟩
      refine AnyE.dec tok hO (by rfl) (by cbv <;> rfl) (by trivial) (fun h4 => ?_) (fun h4 => ?_) <;> refine AnyE.run tok hO (by rfl) (by cbv <;> rfl) (by trivial) ?_
      · have hne : fa i ≠ fb i := by subst hO; simpa [std] using h4
        rw [if_neg hne] at hB
        refine SW.cond (t := true) (by cbv <;> rfl) ?_
        refine SW.seqRunD tok mixed hO (by rfl) (by cbv <;> rfl) ?_ ?_
        · exact ⟨⟨h0,Int.ofNat_lt.2 hlt2⟩,⟨h0,Int.ofNat_lt.2 hlt⟩⟩
        refine AnyE.dec tok hO (by rfl) (by cbv <;> rfl) (by trivial) (fun h5 => ?_) (fun h5 => ?_) <;> refine AnyE.run tok hO (by rfl) (by cbv <;> rfl) (by trivial) ?_
        · have h6 : fa i < fb i := by subst hO; simpa [std] using h5
          refine SW.ret ⟨_,_,rfl,rfl,Eqv.bool ?_⟩
          rw [hB,decide_eq_true h6]
        · have h6 : ¬ fa i < fb i := by subst hO; simpa [std] using h5
          refine SW.ret ⟨_,_,rfl,rfl,Eqv.bool ?_⟩
          rw [hB,decide_eq_false h6]
      · have he : fa i = fb i := by subst hO; simpa [std] using h4
        rw [if_pos he] at hB
        refine SW.cond (t := false) (by cbv <;> rfl) (SW.skip ?_)
        refine SW.run tok hO (by cbv <;> rfl) (by trivial) ?_
        exact ⟨i + 1,by omega,⟨by omega,by rw [hB]; congr 1; omega⟩,Weak.by rfl rfl (by simp) (Nat.le_refl _) (Nat.zero_le _) ⟨⟨rfl,.inr (intsV_below _ _ _)⟩,⟨rfl,.inr (intsV_below _ _ _)⟩,⟨inc_ok hO (by omega),.inr Below.lit⟩,trivial⟩ trivial⟩
    · have hge : ¬ i < nb := by subst hO; simpa [std] using h3
      refine SW.seqRun tok hO (by cbv <;> rfl) (by trivial) ?_
      refine SW.ret ⟨_,_,rfl,rfl,Eqv.sb ?_⟩
      rw [hend (fun h => hge h.2)]; subst hO; rfl
  · have hge : ¬ i < na := by subst hO; simpa [std] using h
    refine OpsW.run tok hO (by cbv <;> rfl) (by trivial) ?_
    refine SW.cond (t := false) (by cbv <;> rfl) (SW.exit ?_)
    refine SW.seqRun tok hO (by cbv <;> rfl) (by trivial) ?_
    refine SW.ret ⟨_,_,rfl,rfl,Eqv.sb ?_⟩
    rw [hend (fun h => hge h.1)]; subst hO; rfl
def shortB (na nb : Nat) (fa fb : Nat → Int) : Bool := decide ((na : Int) < nb) || (decide ((na : Int) = nb) && befF fa fb na nb 0 (na + 1))
theorem shorter_ok (na nb : Nat) (ea eb : Bool) (fa fb : Nat → Int) (hna : na < 1000) (hnb : nb < 1000) : Pure Try.prog 50 [intsV na ea fa, intsV nb eb fb] (.sb (shortB na nb fa fb)) := by
  obtain ⟨O,hO⟩ : ∃ O : Ar,O = std := ⟨_,rfl⟩
  have hbef := before92_ok na nb ea eb fa fb hna hnb
  obtain ⟨S,hS⟩ : ∃ S,shortB na nb fa fb = S := ⟨_,rfl⟩
  unfold shortB at hS
  rw [show shortB na nb fa fb = S from hS]
  generalize befF fa fb na nb 0 (na + 1) = B at hbef hS
  refine pure_of_body tok 3 Try.func50 en50 rfl ⟨intsV_below _ _ _,intsV_below _ _ _,trivial⟩ Below.sb ?_
  refine SW.seqRun tok hO (by cbv <;> rfl) (by trivial) ?_
  refine SW.seqRun tok hO (by cbv <;> rfl) (by trivial) ?_
  refine OpsW.splitG (by cbv <;> rfl) (fun h => ?_) (fun h => ?_)
  · have hlt : (na : Int) < nb := by subst hO; simpa [std] using h
    refine OpsW.run tok hO (by cbv <;> rfl) (by trivial) ?_
    refine SW.ret ⟨_,_,rfl,rfl,Eqv.bool ?_⟩
    rw [← hS,decide_eq_true hlt]; rfl
  · have hlt : ¬ (na : Int) < nb := by subst hO; simpa [std] using h
    refine OpsW.run tok hO (by cbv <;> rfl) (by trivial) ?_
    refine OpsW.splitG (by cbv <;> rfl) (fun h2 => ?_) (fun h2 => ?_)
    · have he : (na : Int) = nb := by subst hO; simpa [std] using h2
      refine OpsW.run tok hO (by cbv <;> rfl) (by trivial) ?_
      refine OpsW.callP hbef (by cbv <;> rfl) ?_
      refine OpsW.run tok hO (by cbv <;> rfl) (by trivial) ?_
      refine SW.ret ⟨_,_,rfl,rfl,Eqv.sb ?_⟩
      rw [← hS,decide_eq_false hlt,decide_eq_true he]; rfl
    · have he : ¬ (na : Int) = nb := by subst hO; simpa [std] using h2
      refine OpsW.run tok hO (by cbv <;> rfl) (by trivial) ?_
      refine SW.ret ⟨_,_,rfl,rfl,Eqv.bool ?_⟩
      rw [← hS,decide_eq_false hlt,decide_eq_false he]; rfl
end Go.Fz
namespace Go.Fz
open Go.Proofs
set_option maxRecDepth 100000
def lI (l : List Nat) (i : Nat) : Int := ((l.getD i 0 : Nat) : Int)
theorem lI_snoc (l : List Nat) (i : Nat) : flatG 1 (intC (lI l)) l.length ++ [iV (i : Int)] = flatG 1 (intC (lI (l ++ [i]))) (l.length + 1) := by
  have h1 : flatG 1 (intC (lI (l ++ [i]))) l.length = flatG 1 (intC (lI l)) l.length := flatG_congr fun j k hj => by
    show iV (lI (l ++ [i]) j) = iV (lI l j)
    unfold lI
    rw [List.getD_eq_getElem?_getD,List.getElem?_append_left hj,← List.getD_eq_getElem?_getD]
  have h2 : lI (l ++ [i]) l.length = (i : Int) := by unfold lI; simp
  show _ = flatG 1 (intC (lI (l ++ [i]))) l.length ++ [iV (lI (l ++ [i]) l.length)]
  rw [h1,h2]
theorem bits_fin : ∀ (n : Fin 32) (i : Fin 6), (std.cmp .gtr (std.bin .shr .i64 (n.1 : Int) (std.conv .u64 (i.1 : Int))) 0 = true → i.1 < 5) ∧ (std.cmp .gtr (std.bin .shr .i64 (n.1 : Int) (std.conv .u64 (i.1 : Int))) 0 = false → selL (n.1 : Int) i.1 = selL (n.1 : Int) 5) := by
  decide +kernel
set_option maxHeartbeats 16000000 in
theorem bits51_ok (o : Int) (o0 : 0 ≤ o) (o32 : o < 32) : Pure Try.prog 51 [iV o] (lsV (selL o 5)) := by
  obtain ⟨O,hO⟩ : ∃ O : Ar,O = std := ⟨_,rfl⟩
  have hfin : ∀ i : Nat, i ≤ 5 → (std.cmp .gtr (std.bin .shr .i64 o (std.conv .u64 (i : Int))) 0 = true → i < 5) ∧ (std.cmp .gtr (std.bin .shr .i64 o (std.conv .u64 (i : Int))) 0 = false → selL o i = selL o 5) := fun i hi => by
    have h1 := bits_fin ⟨o.toNat,by omega⟩ ⟨i,by omega⟩
    have h2 : ((o.toNat : Nat) : Int) = o := by omega
    rw [h2] at h1
    exact h1
  refine pure_of_body tok 3 Try.func51 en51 rfl ⟨Below.lit,trivial⟩ (lsV_below _) ?_
  refine SW.seqRun tok hO (by cbv <;> rfl) (by trivial) ?_
  refine SW.seqRun tok hO (by cbv <;> rfl) (by trivial) ?_
  refine SW.seq ?_
  refine SW.seqRun tok hO (by cbv <;> rfl) (by trivial) ?_
  refine (SW.block (SW.loopR (fun i : Nat => ⟨⟨23,getT [(0,iV o),(3,slG 0 1 (selL o i).length),(4,iV i)]⟩,[]⟩) (fun i => ⟨[] ++ objG 0 1 (intC (lI (selL o i))) (selL o i).length,1⟩) (fun i => 5 - i) (fun i => i ≤ 5) 0 (Nat.zero_le _) (ren1 0 0) ?_ fun i hi => ?_))
  · exact WeakR.up rfl rfl (by simp) (Nat.le_refl _) (.inl rfl) (by show 0 ≤ 1; omega) ⟨RenV.closed Below.lit,RenV.closed Below.lit,RenV.closed Below.lit,trivial⟩ trivial (fun p hp => by cases hp)
  have hlen := selL_len o i
  have hsn := lI_snoc (selL o i) i
  have hsu : selL o (i + 1) = if bitB o i then selL o i ++ [i] else selL o i := rfl
  obtain ⟨f1,f2⟩ := hfin i hi
  have hc0 : 0 ≤ O.conv .u64 (Int.ofNat i) := by
    subst hO
    show 0 ≤ wrp .u64 ((i : Nat) : Int)
    rw [wrp_in (by simp only [IntKind.lo]; omega) (by simp only [IntKind.hi]; omega)]
    omega
  cases hm : (selL o i).length with
  | zero =>
    have hl0 : selL o i = [] := List.length_eq_zero_iff.1 hm
    show SW _ _ _ _ ⟨⟨23,getT [(0,iV o),(3,nl3),(4,iV i)]⟩,[]⟩ ⟨[],1⟩
    refine SW.seq ?_
    refine SW.seqRun tok hO (by cbv <;> rfl) (by first | exact hc0 | exact ⟨hc0,trivial⟩) ?_
    refine SW.condS (by cbv <;> rfl) (fun h => SW.skip ?_) (fun h => SW.exit ?_)
    · have hlt : i < 5 := f1 (by subst hO; exact h)
      refine SW.seq (SW.block ?_)
      refine SW.seqRun tok hO (by cbv <;> rfl) (by first | exact ⟨hc0,(by decide : (2 : Int) ≠ 0)⟩ | exact ⟨(by decide : (2 : Int) ≠ 0),hc0⟩) ?_
      refine SW.condS (by cbv <;> rfl) (fun h2 => ?_) (fun h2 => SW.skip ?_)
      · have hb : bitB o i = true := by subst hO; exact h2
        rw [if_pos hb] at hsu
        rw [hl0] at hsn hsu
        refine SW.runN tok hO 3 (by cbv <;> rfl) (by trivial) ?_
        refine OpsW.appNil tok (by cbv <;> rfl) (by rfl) (by kernel_rfl) (by rfl) (by rfl) ?_
        refine OpsW.run tok hO (by cbv <;> rfl) (by trivial) ?_
        refine SW.run tok hO (by cbv <;> rfl) (by trivial) ?_
        refine ⟨i + 1,by omega,by omega,ren1 0 2,?_⟩
        rw [hsu]
        refine WeakR.up rfl rfl (by simp) (Nat.le_refl _) (.inr (by omega)) (by show 0 ≤ 1; omega) ⟨RenV.closed Below.lit,RenV.sl (by omega),RenV.inc hO (by omega),trivial⟩ trivial (fun p hp => ?_)
        obtain rfl := objG_mem hp
        exact ⟨by omega,_,rfl,.cells (RenVs.of_eq hsn (flatG_below (fun _ _ => Below.lit) _)),.inl rfl⟩
      · have hb : bitB o i = false := by subst hO; exact h2
        rw [if_neg (by rw [hb]; decide)] at hsu
        refine SW.run tok hO (by cbv <;> rfl) (by trivial) ?_
        refine ⟨i + 1,by omega,by omega,ren1 0 0,?_⟩
        rw [hsu,hm]
        exact WeakR.up rfl rfl (by simp) (Nat.le_refl _) (.inl rfl) (by show 0 ≤ 1; omega) ⟨RenV.closed Below.lit,RenV.closed Below.lit,RenV.inc hO (by omega),trivial⟩ trivial (fun p hp => by cases hp)
    · have he := f2 (by subst hO; exact h)
      refine SW.seqRun tok hO (by cbv <;> rfl) (by trivial) ?_
      refine SW.ret ⟨_,_,rfl,rfl,?_⟩
      rw [← he,hl0]
      exact Eqv.nil
  | succ m =>
    obtain ⟨G,hG⟩ : ∃ G,G = flatG 1 (intC (lI (selL o i))) (m + 1) := ⟨_,rfl⟩
    show SW _ _ _ _ ⟨⟨23,getT [(0,iV o),(3,.sl 0 0 (m + 1) 1 false),(4,iV i)]⟩,[]⟩ ⟨[(0,.cells none false (flatG 1 (intC (lI (selL o i))) (m + 1)))],1⟩
    rw [← hG]
    refine SW.seq ?_
    refine SW.seqRun tok hO (by cbv <;> rfl) (by first | exact hc0 | exact ⟨hc0,trivial⟩) ?_
    refine SW.condS (by cbv <;> rfl) (fun h => SW.skip ?_) (fun h => SW.exit ?_)
    · have hlt : i < 5 := f1 (by subst hO; exact h)
      refine SW.seq (SW.block ?_)
      refine SW.seqRun tok hO (by cbv <;> rfl) (by first | exact ⟨hc0,(by decide : (2 : Int) ≠ 0)⟩ | exact ⟨(by decide : (2 : Int) ≠ 0),hc0⟩) ?_
      refine SW.condS (by cbv <;> rfl) (fun h2 => ?_) (fun h2 => SW.skip ?_)
      · have hb : bitB o i = true := by subst hO; exact h2
        rw [if_pos hb] at hsu
        rw [hm,← hG] at hsn
        refine SW.runN tok hO 3 (by cbv <;> rfl) (by trivial) ?_
        refine OpsW.appOne (g := intC (lI (selL o i))) (len := m + 1) tok (by cbv <;> rfl) (by rfl) (by rfl) hG (by kernel_rfl) (by rfl) (by rfl) (by omega) fun G' hG' => ?_
        refine OpsW.run tok hO (by cbv <;> rfl) (by trivial) ?_
        refine SW.run tok hO (by cbv <;> rfl) (by trivial) ?_
        refine ⟨i + 1,by omega,by omega,ren1 0 2,?_⟩
        rw [hsu,List.length_append,List.length_singleton,hm]
        refine WeakR.up rfl rfl (by simp) (Nat.le_refl _) (.inr (by omega)) (by show 0 ≤ 1; omega) ⟨RenV.closed Below.lit,RenV.sl (by omega),RenV.inc hO (by omega),trivial⟩ trivial (fun p hp => ?_)
        obtain rfl := objG_mem hp
        exact ⟨by omega,_,rfl,.cells (RenVs.of_eq (by rw [hG',← hG]; exact hsn) (flatG_below (fun _ _ => Below.lit) _)),.inl rfl⟩
      · have hb : bitB o i = false := by subst hO; exact h2
        rw [if_neg (by rw [hb]; decide)] at hsu
        refine SW.run tok hO (by cbv <;> rfl) (by trivial) ?_
        refine ⟨i + 1,by omega,by omega,ren1 0 0,?_⟩
        rw [hsu,hm]
        refine WeakR.up rfl rfl (by simp) (Nat.le_refl _) (.inl rfl) (by show 0 ≤ 1; omega) ⟨RenV.closed Below.lit,RenV.sl (by omega),RenV.inc hO (by omega),trivial⟩ trivial (fun p hp => ?_)
        obtain rfl := objG_mem hp
        exact ⟨by omega,_,rfl,.cells (RenVs.of_eq hG (flatG_below (fun _ _ => Below.lit) _)),.inl rfl⟩
    · have he := f2 (by subst hO; exact h)
      refine SW.seqRun tok hO (by cbv <;> rfl) (by trivial) ?_
      refine SW.ret ⟨_,_,rfl,rfl,?_⟩
      rw [← he]
      show Eqv (frz _ _ 3 (.sl 0 0 (m + 1) 1 false)) (.isl (selL o i).length 1 false _)
      rw [frz_slE (fm := none) (G := G) rfl rfl (by rw [hG,flatG_length]; omega),hm]
      refine Eqv.isl rfl fun j k hj hk => Eqv.of ?_
      rw [hG,frz_flat hj hk rfl]
      rfl
end Go.Fz
namespace Go.Fz
open Go.Proofs
set_option maxRecDepth 100000
theorem oth_fin : ∀ (many : Fin 6) (o : Fin 32), o.1 < 2 ^ many.1 → (selL (o.1 : Int) 5 ∈ risL many.1) ∧ (∀ j : Fin 5, bitB (std.bin .andNot .i64 (fullI many.1) (o.1 : Int)) j.1 = (decide (j.1 < many.1) && !bitB (o.1 : Int) j.1)) := by
  decide +kernel
def shL (a b : List Nat) : Bool := shortB a.length b.length (lI a) (lI b)
theorem ord_fin : ∀ many : Fin 6, (risL many.1).Pairwise (fun x y => shL y x = false) ∧ (∀ l ∈ risL many.1, shL l l = false) ∧ List.range many.1 ∈ risL many.1 := by
  decide +kernel
theorem ris_before {many : Nat} (hm : many ≤ 5) {pre post : List (List Nat)} {l a : List Nat} (hE : risL many = pre ++ l :: post) (ha : a ∈ risL many) (hs : shL a l = true) : a ∈ pre := by
  obtain ⟨h1,h2,_⟩ := ord_fin ⟨many,by omega⟩
  simp only at h1 h2
  have hl := h2 l (by rw [hE]; simp)
  rw [hE] at h1 ha
  rcases List.mem_append.1 ha with ha | ha
  · exact ha
  · rcases List.mem_cons.1 ha with rfl | ha
    · rw [hl] at hs; cases hs
    · have := (List.pairwise_append.1 h1).2.1
      have := (List.pairwise_cons.1 this).1 a ha
      rw [this] at hs; cases hs
end Go.Fz
namespace Go.Fz
open Go.Proofs
set_option maxRecDepth 100000
theorem mem_nth {l : List (Nat → Int)} {f : Nat → Int} (h : f ∈ l) : ∃ i, i < l.length ∧ nthF l i = f := by
  obtain ⟨i,hi,e⟩ := List.getElem_of_mem h
  exact ⟨i,hi,by unfold nthF; rw [List.getD_eq_getElem?_getD,List.getElem?_eq_getElem hi]; exact e⟩
structure Alike (A B : DayD) : Prop where
  hand : A.hand = B.hand
  flat : A.flat = B.flat
  nw : A.nw = B.nw
  nl : A.nl = B.nl
  lw : A.lw = B.lw
theorem Alike.stem {A B : DayD} (h : Alike A B) (st : Nat → Int) (w : Int) : ∀ n, stemN A st w n = stemN B st w n
  | 0 => rfl
  | n + 1 => by
    show (if A.lw n = w then add64 (stemN A st w n) (st n) else stemN A st w n) = (if B.lw n = w then add64 (stemN B st w n) (st n) else stemN B st w n)
    rw [Alike.stem h st w n,h.lw]
theorem Alike.tru {A B : DayD} (h : Alike A B) (f : Nat → Int) : truF A f = truF B f := by
  unfold truF; rw [h.nw,h.nl]
theorem Alike.bun {A B : DayD} (h : Alike A B) (t : TruD) : A.bun t = B.bun t := funext fun w => by unfold DayD.bun; rw [h.stem]
theorem Alike.lef {A B : DayD} (h : Alike A B) (t : TruD) : A.lef t = B.lef t := funext fun w => by unfold DayD.lef; rw [h.stem]
theorem Alike.tally {A B : DayD} (h : Alike A B) (t : TruD) : A.tally t = B.tally t := by
  have h3 : A.all t = B.all t := by unfold DayD.all; rw [h.bun,h.nw]
  unfold DayD.tally
  rw [h.bun,h.lef,h3,h.hand,h.flat,h.nw]
theorem find_split {α : Type} {p : α → Bool} : ∀ {l : List α} {a : α}, l.find? p = some a → ∃ pre post, l = pre ++ a :: post ∧ (∀ b ∈ pre, p b = false) ∧ p a = true
  | [],_,h => by cases h
  | x :: l, a, h => by
    rw [List.find?_cons] at h
    split at h
    · rename_i hx
      cases h
      exact ⟨[],l,rfl,(fun b hb => by cases hb),hx⟩
    · rename_i hx
      obtain ⟨pre,post,h1,h2,h3⟩ := find_split h
      refine ⟨x :: pre,post,by rw [h1]; rfl,fun b hb => ?_,h3⟩
      rcases List.mem_cons.1 hb with rfl | hb
      · simpa using hx
      · exact h2 b hb
theorem find_in {many : Nat} {p : List Nat → Bool} {l : List Nat} (h : (risL many).find? p = some l) : l ∈ risL many ∧ p l = true := by
  obtain ⟨pre,post,h1,_,h3⟩ := find_split h
  exact ⟨by rw [h1]; simp,h3⟩
theorem find_ex {many : Nat} {p : List Nat → Bool} {a : List Nat} (ha : a ∈ risL many) (hp : p a = true) : ∃ l, (risL many).find? p = some l := by
  cases h : (risL many).find? p with
  | some l => exact ⟨l,rfl⟩
  | none =>
    have := List.find?_eq_none.1 h a ha
    rw [hp] at this; exact absurd rfl this
section
variable (d : DayD) (k w lo hi : Int)
end
end Go.Fz
namespace Go.Fz
open Go.Proofs
set_option maxRecDepth 100000
theorem append_emptyG {T : Ti} {t id sz n : Nat} {ex : Bool} {g : Nat → Nat → AV} {st : St} {G : List AV} (h : sliceB T t sz = true) (hx : st.h.get id = some (.cells none false [])) (hn : n < 1048576) (h0 : 0 < n) (hone : ∀ i k, (g i k).one = true) (hG : G = flatG sz g n) :
    appendA T st t t (.sl id 0 0 sz true) (.isl n sz ex g) = some (.sl st.n 0 n sz false,st.push (.cells none false G)) := by
  subst hG
  exact append_empty h hx hn h0 hone
section
variable {T : Ti}
end
theorem WeakR.tabM {n0 m : Nat} {tb : List (Nat × Nat)} {f1 : Fm} {st1 : St} {l : List (Nat × AV)} {len : Nat} {dm : List Nat} {h2 : Hp} {n2 : Nat} (e1 : len = f1.ts.len) (e2 : dm = f1.dm) (e3 : ∀ id ∈ dm, id < n0) (hid : (tb.all fun p => Nat.ble n0 p.1) = true) (lo : n0 ≤ n2)
    (hinj : (h2.all fun p => h2.all fun q => !(Nat.beq (tabR tb p.1) (tabR tb q.1)) || Nat.beq p.1 q.1) = true)
    (get : AllP (fun p => RenV (tabR tb) n2 p.2 (f1.ts.get p.1)) l) (obj : AllP (fun p => p.1 < n2 ∧ ∃ o1,st1.h.get (tabR tb p.1) = some o1 ∧ RenO (tabR tb) n2 p.2 o1 ∧ (p.1 = m ∨ o1.fam = none)) h2) : WeakR n0 (tabR tb) f1 st1 ⟨⟨len,getT l⟩,dm⟩ ⟨h2,n2⟩ := by
  refine WeakR.of (m := m) e1 e2 e3 (tabR_id hid) lo (fun p hp => get.ok p hp) (fun p hp => ?_) (inj_of hinj)
  obtain ⟨h1,o1,h3,h4,h5⟩ := obj.ok p hp
  exact ⟨h1,o1,h3,h4,h5⟩
end Go.Fz
namespace Go.Fz
open Go.Proofs
set_option maxRecDepth 100000
set_option linter.unusedVariables false
set_option maxHeartbeats 32000000 in
theorem refAll_ok (d : DayD) (hnc : d.nc ≤ 7) (N : Nat) (hN : N < 100000) (hmany : Pure Try.prog 55 [dayV d] (iV (Int.ofNat N))) (tt : Nat → TruD) (yy : Nat → TalD) (R : Nat → Nat → Bool) (hnth : ∀ i, i < N → Pure Try.prog 79 [dayV d, iV (Int.ofNat i)] (truV (tt i)))
    (hplay : ∀ i,i < N → Pure Try.prog 47 [dayV d,truV (tt i)] (talV (yy i))) (hr : ∀ i,i < N → ∀ j,j < d.nc → Pure Try.prog 80 [talV (yy i),cntV d j] (.sb (R i j))) : Pure Try.prog 32 [dayV d] (intsV N false (fun i => bitsN (R i) d.nc)) := by
  obtain ⟨O,hO⟩ : ∃ O : Ar,O = std := ⟨_,rfl⟩
  obtain ⟨bt,hbt⟩ : ∃ bt : Nat → Int,bt = fun i => bitsN (R i) d.nc := ⟨_,rfl⟩
  have hbi : ∀ i,bitsN (R i) d.nc = bt i := fun i => by rw [hbt]
  rw [← hbt]
  refine pure_of_body tok 3 Try.func32 en32 rfl ⟨dayV_below d,trivial⟩ (intsV_below _ _ _) ?_
  refine SW.seqRun tok hO (by cbv <;> rfl) (by trivial) ?_
  refine SW.seqRun tok hO (by cbv <;> rfl) (by trivial) ?_
  refine SW.seq ?_
  refine SW.seqRun tok hO (by cbv <;> rfl) (by trivial) ?_
  refine (SW.block (SW.loopR (fun i : Nat => ⟨⟨43,getT [(1,.ptr 0 0),(3,slG 1 1 i),(4,iV (Int.ofNat i))]⟩,[]⟩) (fun i => ⟨(0,.cells none false (dayC d)) :: objG 1 1 (intC bt) i,2⟩) (fun i => N - i) (fun i => i ≤ N) 0 (Nat.zero_le _) (tabR []) ?_ fun i hi => ?_))
  · exact WeakR.tab rfl rfl (by simp) (by rfl) (by show 1 ≤ 2; omega) (by rfl) ⟨RenV.ptr (by omega),RenV.closed Below.lit,RenV.closed Below.lit,trivial⟩ ⟨⟨by omega,_,rfl,.cells (RenVs.closed (dayC_below d)),rfl⟩,trivial⟩
  cases i with
  | zero =>
    show SW _ _ _ _ _ ⟨[(0,.cells none false (dayC d))],2⟩
    refine SW.seq ?_
    refine SW.seqRun tok hO (by cbv <;> rfl) (by trivial) ?_
    refine OpsW.callP hmany (by cbv <;> rfl) ?_
    refine OpsW.run tok hO (by cbv <;> rfl) (by trivial) ?_
    refine SW.condS (by cbv <;> rfl) (fun h => SW.skip ?_) (fun h => SW.exit ?_)
    · have hlt : 0 < N := by
        have : (Int.ofNat 0 : Int) < Int.ofNat N := by subst hO; simpa [std] using h
        exact Int.ofNat_lt.1 this
      refine SW.seq (SW.block ?_)
      refine SW.seq ((all_bits d hnc nl3 0 [] (tt 0) (yy 0) (R 0) (hnth 0 hlt) (hplay 0 hlt) (hr 0 hlt) _ O hO [] ⟨rfl,rfl,rfl,trivial⟩).mono fun e f st hm => ?_)
      obtain ⟨rfl,g,rfl,⟨g1,g3,g4,g5,_⟩,rfl⟩ := hm
      simp only at g1 g3 g4 g5
      rw [← updT_self g1,← updT_self g3,← updT_self g4,← updT_self g5]
      show SW _ _ _ _ _ _
      refine SW.seqRun tok hO (by cbv <;> rfl) (by trivial) ?_
      refine SW.seq ((all_loop0 d hnc nl3 0 (yy 0) (R 0) (hr 0 hlt) _ O hO ⟨rfl,rfl,rfl,rfl,rfl,trivial⟩).mono fun e f st hm => ?_)
      clear g1 g3 g4 g5
      obtain ⟨rfl,g,rfl,⟨g1,g3,g4,g6,_⟩,rfl⟩ := hm
      simp only at g1 g3 g4 g6
      rw [hbi] at g6
      rw [← updT_self g1,← updT_self g3,← updT_self g4,← updT_self g6]
      show SW _ _ _ _ _ _
      refine SW.run tok hO (by cbv <;> rfl) (by trivial) ?_
      refine SW.run tok hO (by cbv <;> rfl) (by trivial) ?_
      refine ⟨1,by omega,by omega,tabR [(1,4)],?_⟩
      refine WeakR.tab rfl rfl (by simp) (by rfl) (by show 1 ≤ 2; omega) (by rfl) ⟨RenV.ptr (by omega),RenV.sl (by omega),RenV.inc hO (by omega),trivial⟩ ⟨⟨by omega,_,rfl,.cells (RenVs.closed (dayC_below d)),rfl⟩,⟨by omega,_,rfl,.cells (RenVs.of_eq rfl (flatG_below (intC_below bt) 1)),rfl⟩,trivial⟩
    · have hz : N = 0 := by
        have : ¬ (Int.ofNat 0 : Int) < Int.ofNat N := by subst hO; simpa [std] using h
        have h2 : ¬ 0 < N := fun h => this (Int.ofNat_lt.2 h)
        omega
      refine SW.seqRun tok hO (by cbv <;> rfl) (by trivial) ?_
      refine SW.ret ⟨_,_,rfl,rfl,?_⟩
      subst hz
      exact Eqv.nil
  | succ i =>
    obtain ⟨G,hG⟩ : ∃ G,G = flatG 1 (intC bt) (i + 1) := ⟨_,rfl⟩
    have hGo : objG 1 1 (intC bt) (i + 1) = [(1,.cells none false G)] := by rw [hG]; rfl
    have hGb : ∀ a ∈ G,Below 0 a := by rw [hG]; exact flatG_below (intC_below _) _
    rw [hGo]
    show SW _ _ _ _ ⟨⟨43,getT [(1,.ptr 0 0),(3,.sl 1 0 (i + 1) 1 false),(4,iV (Int.ofNat (i + 1)))]⟩,[]⟩ _
    refine SW.seq ?_
    refine SW.seqRun tok hO (by cbv <;> rfl) (by trivial) ?_
    refine OpsW.callP hmany (by cbv <;> rfl) ?_
    refine OpsW.run tok hO (by cbv <;> rfl) (by trivial) ?_
    refine SW.condS (by cbv <;> rfl) (fun h => SW.skip ?_) (fun h => SW.exit ?_)
    · have hlt : (i + 1) < N := by
        have : (Int.ofNat (i + 1) : Int) < Int.ofNat N := by subst hO; simpa [std] using h
        exact Int.ofNat_lt.1 this
      refine SW.seq (SW.block ?_)
      refine SW.seq ((all_bits d hnc (.sl 1 0 (i + 1) 1 false) (i + 1) [] (tt (i + 1)) (yy (i + 1)) (R (i + 1)) (hnth (i + 1) hlt) (hplay (i + 1) hlt) (hr (i + 1) hlt) _ O hO [(1,.cells none false G)] ⟨rfl,rfl,rfl,trivial⟩).mono fun e f st hm => ?_)
      obtain ⟨rfl,g,rfl,⟨g1,g3,g4,g5,_⟩,rfl⟩ := hm
      simp only at g1 g3 g4 g5
      rw [← updT_self g1,← updT_self g3,← updT_self g4,← updT_self g5]
      show SW _ _ _ _ _ _
      refine SW.seqRun tok hO (by cbv <;> rfl) (by trivial) ?_
      refine SW.seq ((all_loop1 d hnc (.sl 1 0 (i + 1) 1 false) (i + 1) (yy (i + 1)) (R (i + 1)) (hr (i + 1) hlt) _ O hO G ⟨rfl,rfl,rfl,rfl,rfl,trivial⟩).mono fun e f st hm => ?_)
      clear g1 g3 g4 g5
      obtain ⟨rfl,g,rfl,⟨g1,g3,g4,g6,_⟩,rfl⟩ := hm
      simp only at g1 g3 g4 g6
      rw [hbi] at g6
      rw [← updT_self g1,← updT_self g3,← updT_self g4,← updT_self g6]
      show SW _ _ _ _ _ _
      refine SW.runN tok hO 3 (by cbv <;> rfl) (by trivial) ?_
      refine OpsW.appOne tok (by cbv <;> rfl) (by rfl) (by rfl) hG (by kernel_rfl) (by rfl) (by rfl) (by omega) fun G' hG' => ?_
      have hG2 : G' = flatG 1 (intC bt) (i + 1 + 1) := hG'.trans (flatG_snoc bt (i + 1) _ rfl)
      refine OpsW.run tok hO (by cbv <;> rfl) (by trivial) ?_
      refine SW.run tok hO (by cbv <;> rfl) (by trivial) ?_
      refine ⟨i + 1 + 1,by omega,by omega,tabR [(1,4)],?_⟩
      have hGo2 : objG 1 1 (intC bt) (i + 1 + 1) = [(1,.cells none false G')] := by rw [hG2]; rfl
      rw [hGo2]
      refine WeakR.tabM (m := 1) rfl rfl (by simp) (by rfl) (by show 1 ≤ 2; omega) (by rfl) ⟨RenV.ptr (by omega),RenV.sl (by omega),RenV.inc hO (by omega),trivial⟩ ⟨⟨by omega,_,rfl,.cells (RenVs.closed (dayC_below d)),.inr rfl⟩,⟨by omega,_,rfl,.cells (RenVs.closed (by rw [hG2]; exact flatG_below (intC_below bt) _)),.inl rfl⟩,trivial⟩
    · have hz : i + 1 = N := by
        have : ¬ (Int.ofNat (i + 1) : Int) < Int.ofNat N := by subst hO; simpa [std] using h
        have h2 : ¬ i + 1 < N := fun h => this (Int.ofNat_lt.2 h)
        omega
      refine SW.seqRun tok hO (by cbv <;> rfl) (by trivial) ?_
      refine SW.ret ⟨_,_,rfl,rfl,?_⟩
      subst hz
      show Eqv (frz _ (fun _ => true) 3 (.sl 1 0 (i + 1) 1 false)) _
      rw [frz_slE (fm := none) (G := G) rfl rfl (by rw [hG,flatG_length]; exact Nat.le_refl _)]
      exact Eqv.isl rfl fun a k ha hk => Eqv.of (by rw [hG]; exact frz_flat ha hk rfl)
end Go.Fz
namespace Go.Fz
open Go.Proofs
set_option maxRecDepth 100000
set_option linter.unusedVariables false
def selT (p : Nat → Bool) : Nat → List Nat
  | 0 => []
  | i + 1 => if p i then selT p i ++ [i] else selT p i
theorem selT_len (p : Nat → Bool) : ∀ n, (selT p n).length ≤ n
  | 0 => Nat.le_refl _
  | n + 1 => by
    have := selT_len p n
    unfold selT
    split
    · rw [List.length_append]; simp; omega
    · omega
def tG (nf ns : Nat) (F S : Nat → Nat → Int) (l : List Nat) : Nat → Nat → AV := trG nf ns (fun k => F (l.getD k 0)) (fun k => S (l.getD k 0))
theorem tG_below (nf ns : Nat) (F S : Nat → Nat → Int) (l : List Nat) (i k : Nat) : Below 0 (tG nf ns F S l i k) := by unfold tG trG; split <;> exact intsV_below _ _ _
theorem tG_snoc (nf ns : Nat) (F S : Nat → Nat → Int) (l : List Nat) (i : Nat) : flatG 2 (tG nf ns F S l) l.length ++ [intsV nf false (F i), intsV ns false (S i)] = flatG 2 (tG nf ns F S (l ++ [i])) (l.length + 1) := by
  have h1 : flatG 2 (tG nf ns F S (l ++ [i])) l.length = flatG 2 (tG nf ns F S l) l.length := flatG_congr fun j k hj => by
    have : (l ++ [i]).getD j 0 = l.getD j 0 := by rw [List.getD_eq_getElem?_getD,List.getElem?_append_left hj,← List.getD_eq_getElem?_getD]
    unfold tG trG
    simp only [this]
  have h2 : (l ++ [i]).getD l.length 0 = i := by simp
  show _ = flatG 2 (tG nf ns F S (l ++ [i])) l.length ++ [intsV nf false (F ((l ++ [i]).getD l.length 0)),intsV ns false (S ((l ++ [i]).getD l.length 0))]
  rw [h1,h2]
def slT : List Nat → AV
  | [] => nl3
  | a :: l => .sl 1 0 (l.length + 1) 2 false
def objT (nf ns : Nat) (F S : Nat → Nat → Int) : List Nat → Hp
  | [] => []
  | a :: l => [(1,.cells none false (flatG 2 (tG nf ns F S (a :: l)) (l.length + 1)))]
set_option maxHeartbeats 32000000 in
theorem refTruths_ok (d : DayD) (N : Nat) (hN : N < 100000) (a : Nat → Int) (fu : Int) (F S : Nat → Nat → Int) (hall : Pure Try.prog 32 [dayV d] (intsV N false a)) (hfull : Pure Try.prog 53 [dayV d] (iV fu))
    (hnth : ∀ i,i < N → Pure Try.prog 79 [dayV d,iV (Int.ofNat i)] (.agg [intsV d.nw false (F i),intsV d.nl false (S i)])) :
    Pure Try.prog 46 [dayV d] (trsV (selT (fun i => decide (a i = fu)) N).length d.nw d.nl (fun k => F ((selT (fun i => decide (a i = fu)) N).getD k 0)) (fun k => S ((selT (fun i => decide (a i = fu)) N).getD k 0))) := by
  obtain ⟨O,hO⟩ : ∃ O : Ar,O = std := ⟨_,rfl⟩
  have hnat : ∀ i : Nat,O.nat (Int.ofNat i) = i := fun i => by subst hO; rfl
  obtain ⟨p,hp⟩ : ∃ p : Nat → Bool,p = fun i => decide (a i = fu) := ⟨_,rfl⟩
  rw [← hp]
  have hpi : ∀ i,O.cmp .eql (a (O.nat (Int.ofNat i))) fu = p i := fun i => by rw [hnat,hp]; subst hO; rfl
  refine pure_of_body tok 3 Try.func46 en46 rfl ⟨dayV_below d,trivial⟩ (trsV_below _ _ _ _ _) ?_
  refine SW.seqRun tok hO (by cbv <;> rfl) (by trivial) ?_
  refine SW.seqRun tok hO (by cbv <;> rfl) (by trivial) ?_
  refine OpsW.callP hall (by cbv <;> rfl) ?_
  refine OpsW.run tok hO (by cbv <;> rfl) (by trivial) ?_
  refine SW.seqRun tok hO (by cbv <;> rfl) (by trivial) ?_
  refine SW.seq ?_
  refine SW.seqRun tok hO (by cbv <;> rfl) (by trivial) ?_
  refine (SW.block (SW.loopR (fun x : Nat × List Nat => ⟨⟨28,getT [(1,.ptr 0 0),(3,intsV N false a),(4,slT x.2),(5,iV (Int.ofNat x.1))]⟩,[]⟩) (fun x => ⟨(0,.cells none false (dayC d)) :: objT d.nw d.nl F S x.2,2⟩) (fun x => N - x.1) (fun x => x.1 ≤ N ∧ x.2 = selT p x.1) (0,[]) ⟨Nat.zero_le _,rfl⟩ (tabR []) ?_ fun x hx => ?_))
  · exact WeakR.tab rfl rfl (by simp) (by rfl) (by show 1 ≤ 2; omega) (by rfl) ⟨RenV.ptr (by omega),RenV.closed (intsV_below _ _ _),RenV.closed Below.lit,RenV.closed Below.lit,trivial⟩ ⟨⟨by omega,_,rfl,.cells (RenVs.closed (dayC_below d)),rfl⟩,trivial⟩
  obtain ⟨i,l⟩ := x
  obtain ⟨hi,hl⟩ := hx
  simp only at hi hl
  have hll : l.length ≤ N := by rw [hl]; exact Nat.le_trans (selT_len p i) hi
  have hst : p i = true → l ++ [i] = selT p (i + 1) := fun h => by rw [hl]; show _ = if p i then _ else _; rw [h]; rfl
  have hsf : p i = false → l = selT p (i + 1) := fun h => by rw [hl]; show _ = if p i then _ else _; rw [h]; rfl
  cases l with
  | nil =>
    show SW _ _ _ _ ⟨⟨28,getT [(1,.ptr 0 0),(3,intsV N false a),(4,nl3),(5,iV (Int.ofNat i))]⟩,[]⟩ ⟨[(0,.cells none false (dayC d))],2⟩
    refine SW.seq ?_
    refine SW.seqRun tok hO (by cbv <;> rfl) (by trivial) ?_
    refine SW.condS (by cbv <;> rfl) (fun h => SW.skip ?_) (fun h => SW.exit ?_)
    · have hlt : i < N := by
        have : (Int.ofNat i : Int) < Int.ofNat N := by subst hO; simpa [std] using h
        exact Int.ofNat_lt.1 this
      have hin : 0 ≤ Int.ofNat i ∧ Int.ofNat i < (N : Int) := ⟨Int.natCast_nonneg i,Int.ofNat_lt.2 hlt⟩
      refine SW.seq (SW.block ?_)
      refine SW.seqRunD tok mixed hO (by kernel_rfl) (by cbv <;> rfl) (by repeat (first | exact trivial | exact hin | refine ⟨?_,?_⟩)) ?_
      refine AnyE.callP hfull (by cbv <;> rfl) (by cbv <;> rfl) ?_
      refine AnyE.dec tok hO (by kernel_rfl) (by cbv <;> rfl) (by trivial) (fun h1 => ?_) (fun h1 => ?_)
      · have hpt : p i = true := (hpi i).symm.trans h1
        refine AnyE.done (by kernel_rfl) ?_
        refine SW.condS (by cbv <;> rfl) (fun h2 => ?_) (fun h2 => absurd h2 (by decide))
        refine SW.run tok hO (by cbv <;> rfl) (by trivial) ?_
        refine OpsW.callP (hnth i hlt) (by cbv <;> rfl) ?_
        refine OpsW.run tok hO (by cbv <;> rfl) (by trivial) ?_
        refine SW.run tok hO (by cbv <;> rfl) (by trivial) ?_
        refine ⟨(i + 1,[i]),by show N - (i + 1) < N - i; omega,⟨by show i + 1 ≤ N; omega,hst hpt⟩,tabR [(1,3)],?_⟩
        refine WeakR.tab rfl rfl (by simp) (by rfl) (by show 1 ≤ 2; omega) (by rfl) ⟨RenV.ptr (by omega),RenV.closed (intsV_below _ _ _),RenV.sl (by omega),RenV.inc hO (by omega),trivial⟩ ⟨⟨by omega,_,rfl,.cells (RenVs.closed (dayC_below d)),rfl⟩,⟨by omega,_,rfl,.cells (RenVs.of_eq rfl (flatG_below (tG_below d.nw d.nl F S [i]) 1)),rfl⟩,trivial⟩
      · have hpf : p i = false := (hpi i).symm.trans h1
        refine AnyE.done (by kernel_rfl) ?_
        refine SW.condS (by cbv <;> rfl) (fun h2 => absurd h2 (by decide)) (fun h2 => SW.skip ?_)
        refine SW.run tok hO (by cbv <;> rfl) (by trivial) ?_
        refine ⟨(i + 1,[]),by show N - (i + 1) < N - i; omega,⟨by show i + 1 ≤ N; omega,hsf hpf⟩,tabR [],?_⟩
        exact WeakR.tab rfl rfl (by simp) (by rfl) (by show 1 ≤ 2; omega) (by rfl) ⟨RenV.ptr (by omega),RenV.closed (intsV_below _ _ _),RenV.closed Below.lit,RenV.inc hO (by omega),trivial⟩ ⟨⟨by omega,_,rfl,.cells (RenVs.closed (dayC_below d)),rfl⟩,trivial⟩
    · have hz : i = N := by
        have : ¬ (Int.ofNat i : Int) < Int.ofNat N := by subst hO; simpa [std] using h
        have h2 : ¬ i < N := fun h => this (Int.ofNat_lt.2 h)
        omega
      refine SW.seqRun tok hO (by cbv <;> rfl) (by trivial) ?_
      refine SW.ret ⟨_,_,rfl,rfl,?_⟩
      subst hz
      rw [← hl]
      exact Eqv.nil
  | cons b l =>
    obtain ⟨m,hm⟩ : ∃ m,m = l.length := ⟨_,rfl⟩
    obtain ⟨G,hG⟩ : ∃ G,G = flatG 2 (tG d.nw d.nl F S (b :: l)) (m + 1) := ⟨_,rfl⟩
    have hGb : ∀ a ∈ G,Below 0 a := by rw [hG]; exact flatG_below (tG_below _ _ _ _ _) _
    have hm1 : m + 1 ≤ N := by rw [hm]; exact hll
    show SW _ _ _ _ ⟨⟨28,getT [(1,.ptr 0 0),(3,intsV N false a),(4,.sl 1 0 (l.length + 1) 2 false),(5,iV (Int.ofNat i))]⟩,[]⟩ ⟨[(0,.cells none false (dayC d)),(1,.cells none false (flatG 2 (tG d.nw d.nl F S (b :: l)) (l.length + 1)))],2⟩
    rw [← hm,← hG]
    refine SW.seq ?_
    refine SW.seqRun tok hO (by cbv <;> rfl) (by trivial) ?_
    refine SW.condS (by cbv <;> rfl) (fun h => SW.skip ?_) (fun h => SW.exit ?_)
    · have hlt : i < N := by
        have : (Int.ofNat i : Int) < Int.ofNat N := by subst hO; simpa [std] using h
        exact Int.ofNat_lt.1 this
      have hin : 0 ≤ Int.ofNat i ∧ Int.ofNat i < (N : Int) := ⟨Int.natCast_nonneg i,Int.ofNat_lt.2 hlt⟩
      refine SW.seq (SW.block ?_)
      refine SW.seqRunD tok mixed hO (by kernel_rfl) (by cbv <;> rfl) (by repeat (first | exact trivial | exact hin | refine ⟨?_,?_⟩)) ?_
      refine AnyE.callP hfull (by cbv <;> rfl) (by cbv <;> rfl) ?_
      refine AnyE.dec tok hO (by kernel_rfl) (by cbv <;> rfl) (by trivial) (fun h1 => ?_) (fun h1 => ?_)
      · have hpt : p i = true := (hpi i).symm.trans h1
        refine AnyE.done (by kernel_rfl) ?_
        refine SW.condS (by cbv <;> rfl) (fun h2 => ?_) (fun h2 => absurd h2 (by decide))
        refine SW.run tok hO (by cbv <;> rfl) (by trivial) ?_
        refine OpsW.callP (hnth i hlt) (by cbv <;> rfl) ?_
        refine OpsW.runN tok hO 1 (by cbv <;> rfl) (by trivial) ?_
        refine OpsW.appOne tok (by cbv <;> rfl) (by rfl) (by rfl) hG (by kernel_rfl) (by rfl) (by rfl) (by omega) fun G' hG' => ?_
        have hG2 : G' = flatG 2 (tG d.nw d.nl F S ((b :: l) ++ [i])) (m + 1 + 1) := hG'.trans (by have := tG_snoc d.nw d.nl F S (b :: l) i; rw [show (b :: l).length = m + 1 by rw [hm]; rfl] at this; exact this)
        refine OpsW.run tok hO (by cbv <;> rfl) (by trivial) ?_
        refine SW.run tok hO (by cbv <;> rfl) (by trivial) ?_
        refine ⟨(i + 1,b :: (l ++ [i])),by show N - (i + 1) < N - i; omega,⟨by show i + 1 ≤ N; omega,hst hpt⟩,tabR [(1,3)],?_⟩
        have hlen : (l ++ [i]).length + 1 = m + 1 + 1 := by rw [hm]; simp
        have hob : objT d.nw d.nl F S (b :: (l ++ [i])) = [(1, .cells none false G')] := by
          show [(1,AObj.cells none false (flatG 2 (tG d.nw d.nl F S (b :: (l ++ [i]))) ((l ++ [i]).length + 1)))] = _
          rw [hlen,hG2]; rfl
        show WeakR _ _ _ _ ⟨⟨28,getT [(1,.ptr 0 0),(3,intsV N false a),(4,.sl 1 0 ((l ++ [i]).length + 1) 2 false),(5,iV (Int.ofNat (i + 1)))]⟩,[]⟩ ⟨(0,.cells none false (dayC d)) :: objT d.nw d.nl F S (b :: (l ++ [i])),2⟩
        rw [hlen,hob]
        refine WeakR.tabM (m := 1) rfl rfl (by simp) (by rfl) (by show 1 ≤ 2; omega) (by rfl) ⟨RenV.ptr (by omega),RenV.closed (intsV_below _ _ _),RenV.sl (by omega),RenV.inc hO (by omega),trivial⟩ ⟨⟨by omega,_,rfl,.cells (RenVs.closed (dayC_below d)),.inr rfl⟩,⟨by omega,_,rfl,.cells (RenVs.closed (by rw [hG2]; exact flatG_below (tG_below _ _ _ _ _) _)),.inl rfl⟩,trivial⟩
      · have hpf : p i = false := (hpi i).symm.trans h1
        refine AnyE.done (by kernel_rfl) ?_
        refine SW.condS (by cbv <;> rfl) (fun h2 => absurd h2 (by decide)) (fun h2 => SW.skip ?_)
        refine SW.run tok hO (by cbv <;> rfl) (by trivial) ?_
        refine ⟨(i + 1,b :: l),by show N - (i + 1) < N - i; omega,⟨by show i + 1 ≤ N; omega,hsf hpf⟩,tabR [],?_⟩
        show WeakR _ _ _ _ _ ⟨[(0,.cells none false (dayC d)),(1,.cells none false (flatG 2 (tG d.nw d.nl F S (b :: l)) (l.length + 1)))],2⟩
        rw [← hm,← hG]
        show WeakR _ _ _ _ ⟨⟨28,getT [(1,.ptr 0 0),(3,intsV N false a),(4,.sl 1 0 (l.length + 1) 2 false),(5,iV (Int.ofNat (i + 1)))]⟩,[]⟩ _
        rw [← hm]
        exact WeakR.tab rfl rfl (by simp) (by rfl) (by show 1 ≤ 2; omega) (by rfl) ⟨RenV.ptr (by omega),RenV.closed (intsV_below _ _ _),RenV.sl (by omega),RenV.inc hO (by omega),trivial⟩ ⟨⟨by omega,_,rfl,.cells (RenVs.closed (dayC_below d)),rfl⟩,⟨by omega,_,rfl,.cells (RenVs.closed hGb),rfl⟩,trivial⟩
    · have hz : i = N := by
        have : ¬ (Int.ofNat i : Int) < Int.ofNat N := by subst hO; simpa [std] using h
        have h2 : ¬ i < N := fun h => this (Int.ofNat_lt.2 h)
        omega
      refine SW.seqRun tok hO (by cbv <;> rfl) (by trivial) ?_
      refine SW.ret ⟨_,_,rfl,rfl,?_⟩
      subst hz
      rw [← hl]
      show Eqv (frz _ (fun _ => true) 3 (.sl 1 0 (m + 1) 2 false)) (.isl (l.length + 1) 2 false (tG d.nw d.nl F S (b :: l)))
      rw [← hm]
      rw [frz_slE (fm := none) (G := G) rfl rfl (by rw [hG,flatG_length]; exact Nat.le_refl _)]
      exact Eqv.isl rfl fun a k ha hk => Eqv.of (by rw [hG]; exact frz_flat ha hk (by unfold tG trG; split <;> rfl))
end Go.Fz
