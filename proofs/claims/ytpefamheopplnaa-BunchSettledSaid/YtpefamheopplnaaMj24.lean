/- Own work of the verifier of watercress: FzB22n, FzSe1. -/
import Derived.Test.YtpefamheopplnaaMj21
import Derived.Test.YtpefamheopplnaaMj23
set_option linter.unusedVariables false
set_option linter.unusedSimpArgs false
namespace Go.Fz
open Go.Proofs
set_option maxRecDepth 100000
def DayD.qW (d : DayD) (N : Int) : Nat → Int
  | 0 => N
  | s + 1 => quo64 (d.qW N s) (size64 (d.wlo s) (d.whi s))
def DayD.qL (d : DayD) (N : Int) : Nat → Int
  | 0 => d.qW N d.nw
  | s + 1 => quo64 (d.qL N s) (size64 (d.llo s) (d.lhi s))
def DayD.feN (d : DayD) (N : Int) (s : Nat) : Int := add64 (d.wlo s) ((d.qW N s).tmod (size64 (d.wlo s) (d.whi s)))
def DayD.stN (d : DayD) (N : Int) (s : Nat) : Int := add64 (d.llo s) ((d.qL N s).tmod (size64 (d.llo s) (d.lhi s)))
def DayD.nthT (d : DayD) (N : Int) : TruD := ⟨d.nw,false,d.feN N,d.nl,false,d.stN N⟩
def tru0 : List AV := [nl3,nl3]
theorem tru0_below : ∀ a ∈ tru0,Below 0 a := AllB.ok ⟨Below.lit,Below.lit,trivial⟩
def nthS (d : DayD) (A B : AV) (H : Hp) (n : Nat) : St := ⟨[(2,.cells none false [A,B]),(1,.cells none false tru0),(0,.cells none false (dayC d))] ++ H,n⟩
def midN (mk : AV → St) (a : AV) (q : Int) (e : Exit) (fm : Fm) (st : St) : Prop :=
  e = .normal ∧ ∃ g X,fm = ⟨⟨68,g⟩,[]⟩ ∧ g 1 = iV q ∧ g 2 = .ptr 0 0 ∧ g 4 = .ptr 1 0 ∧ g 5 = .ptr 2 0 ∧ Eqv X a ∧ (X = nl3 ∨ ∃ len sz h,X = .isl len sz false h) ∧ st = mk X
set_option maxHeartbeats 8000000 in
theorem nth_ok (d : DayD) (g0 : d.Good) (N : Int) : Pure Try.prog 79 [dayV d, iV N] (truV (d.nthT N)) := by
  obtain ⟨O,hO⟩ : ∃ O : Ar,O = std := ⟨_,rfl⟩
  have hnat : ∀ i : Nat,O.nat (Int.ofNat i) = i := fun i => by subst hO; rfl
  have hnw := g0.nw
  have hnl := g0.nl
  refine pure_of_body tok 3 Try.func79 en79 rfl ⟨dayV_below d,iV_below,trivial⟩ (truV_below _) ?_
  refine SW.seqRun tok hO (by cbv <;> rfl) (by trivial) ?_
  refine SW.seqRun tok hO (by cbv <;> rfl) (by trivial) ?_
  refine SW.seq (SW.mono (Q := midN (fun X => nthS d (X) nl3 [] 4) (intsV d.nw false (d.feN N)) (d.qW N d.nw)) ?_ ?_)
  · refine SW.seqRun tok hO (by cbv <;> rfl) (by trivial) ?_
    refine (SW.block (SW.loopR (fun i : Nat => ⟨⟨68,getT [(1,iV (d.qW N i)),(2,.ptr 0 0),(4,.ptr 1 0),(5,.ptr 2 0),(6,iV i)]⟩,[]⟩) (fun i => nthS d (slG 3 1 i) nl3 (objG 3 1 (intC (d.feN N)) i) 4) (fun i => d.nw - i) (fun i => i ≤ d.nw) 0 (Nat.zero_le _) (ren1 3 3) ?_ fun i hi => ?_))
    · exact WeakR.up rfl rfl (by simp) (Nat.le_refl _) (.inl rfl) (by show 3 ≤ 4; omega) ⟨RenV.closed Below.lit,RenV.ptr (by omega),RenV.ptr (by omega),RenV.ptr (by omega),RenV.closed Below.lit,trivial⟩ ⟨⟨by omega,_,rfl,.cells (.cons (RenV.closed Below.lit) (.cons (RenV.closed Below.lit) .nil)),.inr rfl⟩,⟨by omega,_,rfl,.cells (RenVs.closed tru0_below),.inr rfl⟩,⟨by omega,_,rfl,.cells (RenVs.closed (dayC_below d)),.inr rfl⟩,trivial⟩ (fun p hp => by cases hp)
    generalize hQ : d.qW N i = q
    cases i with
    | zero =>
      refine SW.seq ?_
      refine SW.seqRun tok hO (by cbv <;> rfl) (by trivial) ?_
      refine SW.condS (by cbv <;> rfl) (fun h => SW.skip ?_) (fun h => ?_)
      · have hlt : 0 < d.nw := by subst hO; simpa [std] using h
        have h0 : (0 : Int) ≤ Int.ofNat (0) := Int.natCast_nonneg _
        obtain ⟨hs0,hs1,hs2⟩ := g0.wom (0) hlt
        have hsz := size64_in (lo := d.wlo (0)) (hi := d.whi (0)) (by omega) hs1 (by omega)
        have hne : size64 (d.wlo (0)) (d.whi (0)) ≠ 0 := by rw [hsz]; omega
        have call := size61_ok (d.wlo (0)) (d.whi (0))
        have e1 : quo64 q (size64 (d.wlo (0)) (d.whi (0))) = d.qW N (1) := by rw [← hQ]; rfl
        have e2 : add64 (d.wlo (0)) (q.tmod (size64 (d.wlo (0)) (d.whi (0)))) = d.feN N (0) := by rw [← hQ]; rfl
        generalize size64 (d.wlo (0)) (d.whi (0)) = z at call hne e1 e2
        rw [← hnat (0)] at call
        refine SW.seq (SW.block ?_)
        refine SW.seqRun tok hO (by cbv <;> rfl) ?_ ?_
        · exact ⟨h0,Int.ofNat_lt.2 hlt⟩
        refine SW.runD tok mixed hO (by rfl) (by cbv <;> rfl) (by trivial) ?_
        refine AnyE.callP call (by cbv <;> rfl) (by cbv <;> rfl) ?_
        refine AnyE.run tok hO (by rfl) (by cbv <;> rfl) ?_ ?_
        · exact hne
        refine AnyE.effK tok hO (by cbv <;> rfl) (by cbv <;> rfl) (by trivial) ?_ ?_
        · exact (by repeat (first | exact trivial | refine And.intro (by first | exact lv_of hO (by cbv <;> rfl) (by trivial) | (refine lv_of hO (by cbv <;> rfl) ?_; exact hne)) ?_))
        refine AnyE.appNilK tok (by cbv <;> rfl) (by cbv <;> rfl) (by rfl) (by kernel_rfl) (by rfl) (by rfl) ?_ ?_
        · exact (by repeat (first | exact trivial | refine And.intro (by first | exact lv_of hO (by cbv <;> rfl) (by trivial) | (refine lv_of hO (by cbv <;> rfl) ?_; exact hne)) ?_))
        refine AnyE.run tok hO (by rfl) (by cbv <;> rfl) (by trivial) ?_
        refine AnyE.callP call (by cbv <;> rfl) (by cbv <;> rfl) ?_
        refine AnyE.run tok hO (by rfl) (by cbv <;> rfl) ?_ ?_
        · exact hne
        refine AnyE.effK tok hO (by cbv <;> rfl) (by cbv <;> rfl) (by trivial) ?_ ?_
        · exact (by repeat (first | exact trivial | refine And.intro (by first | exact lv_of hO (by cbv <;> rfl) (by trivial) | (refine lv_of hO (by cbv <;> rfl) ?_; exact hne)) ?_))
        refine AnyE.run tok hO (by rfl) (by cbv <;> rfl) (by trivial) ?_
        first
          | refine AnyE.done (by rfl) ?_
          | (refine AnyE.effK tok hO (by cbv <;> rfl) (by cbv <;> rfl) (by trivial) ?_ ?_
             · exact (by repeat (first | exact trivial | refine And.intro (by first | exact lv_of hO (by cbv <;> rfl) (by trivial) | (refine lv_of hO (by cbv <;> rfl) ?_; exact hne)) ?_))
             refine AnyE.done (by rfl) ?_)
        refine SW.run tok hO (by cbv <;> rfl) (by trivial) ?_
        refine ⟨1,by omega,by omega,ren1 3 6,?_⟩
        have e3 : O.bin .quo .i64 q z = d.qW N (1) := by rw [← e1]; subst hO; rfl
        have e4 : O.bin .add .i64 (d.wlo (O.nat (Int.ofNat (0)))) (O.bin .rem .i64 q z) = d.feN N (0) := by rw [← e2,hnat]; subst hO; rfl
        refine WeakR.up rfl rfl (by simp) (Nat.le_refl _) (.inr (by omega)) (by show 3 ≤ 4; omega) ⟨?_,RenV.ptr (by omega),RenV.ptr (by omega),RenV.ptr (by omega),RenV.inc hO (by omega),trivial⟩ ⟨⟨by omega,_,rfl,.cells (.cons (RenV.sl (by omega)) (.cons (RenV.closed Below.lit) .nil)),.inr rfl⟩,⟨by omega,_,rfl,.cells (RenVs.closed tru0_below),.inr rfl⟩,⟨by omega,_,rfl,.cells (RenVs.closed (dayC_below d)),.inr rfl⟩,trivial⟩ (fun p hp => ?_)
        · show RenV _ _ (iV (d.qW N (1))) (iV (O.bin .quo .i64 q z))
          rw [e3]; exact RenV.closed Below.lit
        obtain rfl := objG_mem hp
        exact ⟨by omega,_,rfl,.cells (RenVs.of_eq (congrArg (fun v => [iV v]) e4) (flatG_below (intC_below (d.feN N)) 1)),.inl rfl⟩
      · have hz : d.nw = 0 := by
          have : d.nw ≤ 0 := by subst hO; simpa [std] using h
          omega
        refine SW.exit ⟨rfl,_,nl3,rfl,by show iV q = _; rw [hz,← hQ],rfl,rfl,rfl,?_,.inl rfl,rfl⟩
        show Eqv nl3 (.isl d.nw 1 false (intC (d.feN N)))
        rw [hz]; exact Eqv.nil
    | succ i =>
      obtain ⟨G,hG⟩ : ∃ G,G = flatG 1 (intC (d.feN N)) (i + 1) := ⟨_,rfl⟩
      have hGo : objG 3 1 (intC (d.feN N)) (i + 1) = [(3,.cells none false G)] := by rw [hG]; rfl
      show SW _ _ _ _ _ (nthS d (.sl 3 0 (i + 1) 1 false) nl3 (objG 3 1 (intC (d.feN N)) (i + 1)) 4)
      rw [hGo]
      refine SW.seq ?_
      refine SW.seqRun tok hO (by cbv <;> rfl) (by trivial) ?_
      refine SW.condS (by cbv <;> rfl) (fun h => SW.skip ?_) (fun h => ?_)
      · have hlt : i + 1 < d.nw := by
          have : ((i + 1 : Nat) : Int) < (d.nw : Int) := by subst hO; simpa [std] using h
          omega
        have h0 : (0 : Int) ≤ Int.ofNat (i + 1) := Int.natCast_nonneg _
        obtain ⟨hs0,hs1,hs2⟩ := g0.wom (i + 1) hlt
        have hsz := size64_in (lo := d.wlo (i + 1)) (hi := d.whi (i + 1)) (by omega) hs1 (by omega)
        have hne : size64 (d.wlo (i + 1)) (d.whi (i + 1)) ≠ 0 := by rw [hsz]; omega
        have call := size61_ok (d.wlo (i + 1)) (d.whi (i + 1))
        have e1 : quo64 q (size64 (d.wlo (i + 1)) (d.whi (i + 1))) = d.qW N (i + 1 + 1) := by rw [← hQ]; rfl
        have e2 : add64 (d.wlo (i + 1)) (q.tmod (size64 (d.wlo (i + 1)) (d.whi (i + 1)))) = d.feN N (i + 1) := by rw [← hQ]; rfl
        generalize size64 (d.wlo (i + 1)) (d.whi (i + 1)) = z at call hne e1 e2
        rw [← hnat (i + 1)] at call
        refine SW.seq (SW.block ?_)
        refine SW.seqRun tok hO (by cbv <;> rfl) ?_ ?_
        · exact ⟨h0,Int.ofNat_lt.2 hlt⟩
        refine SW.runD tok mixed hO (by rfl) (by cbv <;> rfl) (by trivial) ?_
        refine AnyE.callP call (by cbv <;> rfl) (by cbv <;> rfl) ?_
        refine AnyE.run tok hO (by rfl) (by cbv <;> rfl) ?_ ?_
        · exact hne
        refine AnyE.effK tok hO (by cbv <;> rfl) (by cbv <;> rfl) (by trivial) ?_ ?_
        · exact (by repeat (first | exact trivial | refine And.intro (by first | exact lv_of hO (by cbv <;> rfl) (by trivial) | (refine lv_of hO (by cbv <;> rfl) ?_; exact hne)) ?_))
        refine AnyE.appOneK (g := intC (d.feN N)) tok (by cbv <;> rfl) (by cbv <;> rfl) (by rfl) (by rfl) hG (by kernel_rfl) (by rfl) (by rfl) (by omega) fun G' hG' => ⟨?_,?_⟩
        · exact (by repeat (first | exact trivial | refine And.intro (by first | exact lv_of hO (by cbv <;> rfl) (by trivial) | (refine lv_of hO (by cbv <;> rfl) ?_; exact hne)) ?_))
        refine AnyE.run tok hO (by rfl) (by cbv <;> rfl) (by trivial) ?_
        refine AnyE.callP call (by cbv <;> rfl) (by cbv <;> rfl) ?_
        refine AnyE.run tok hO (by rfl) (by cbv <;> rfl) ?_ ?_
        · exact hne
        refine AnyE.effK tok hO (by cbv <;> rfl) (by cbv <;> rfl) (by trivial) ?_ ?_
        · exact (by repeat (first | exact trivial | refine And.intro (by first | exact lv_of hO (by cbv <;> rfl) (by trivial) | (refine lv_of hO (by cbv <;> rfl) ?_; exact hne)) ?_))
        refine AnyE.run tok hO (by rfl) (by cbv <;> rfl) (by trivial) ?_
        first
          | refine AnyE.done (by rfl) ?_
          | (refine AnyE.effK tok hO (by cbv <;> rfl) (by cbv <;> rfl) (by trivial) ?_ ?_
             · exact (by repeat (first | exact trivial | refine And.intro (by first | exact lv_of hO (by cbv <;> rfl) (by trivial) | (refine lv_of hO (by cbv <;> rfl) ?_; exact hne)) ?_))
             refine AnyE.done (by rfl) ?_)
        refine SW.run tok hO (by cbv <;> rfl) (by trivial) ?_
        refine ⟨i + 1 + 1,by omega,by omega,ren1 3 6,?_⟩
        have e3 : O.bin .quo .i64 q z = d.qW N (i + 1 + 1) := by rw [← e1]; subst hO; rfl
        have e4 : O.bin .add .i64 (d.wlo (O.nat (Int.ofNat (i + 1)))) (O.bin .rem .i64 q z) = d.feN N (i + 1) := by rw [← e2,hnat]; subst hO; rfl
        refine WeakR.up rfl rfl (by simp) (Nat.le_refl _) (.inr (by omega)) (by show 3 ≤ 4; omega) ⟨?_,RenV.ptr (by omega),RenV.ptr (by omega),RenV.ptr (by omega),RenV.inc hO (by omega),trivial⟩ ⟨⟨by omega,_,rfl,.cells (.cons (RenV.sl (by omega)) (.cons (RenV.closed Below.lit) .nil)),.inr rfl⟩,⟨by omega,_,rfl,.cells (RenVs.closed tru0_below),.inr rfl⟩,⟨by omega,_,rfl,.cells (RenVs.closed (dayC_below d)),.inr rfl⟩,trivial⟩ (fun p hp => ?_)
        · show RenV _ _ (iV (d.qW N (i + 1 + 1))) (iV (O.bin .quo .i64 q z))
          rw [e3]; exact RenV.closed Below.lit
        obtain rfl := objG_mem hp
        exact ⟨by omega,_,rfl,.cells (RenVs.of_eq (hG'.trans (flatG_snoc (d.feN N) (i + 1) _ e4)) (flatG_below (intC_below (d.feN N)) (i + 1 + 1))),.inl rfl⟩
      · have hz : d.nw = i + 1 := by
          have : (d.nw : Int) ≤ ((i + 1 : Nat) : Int) := by subst hO; simpa [std] using h
          omega
        have hlG : (i + 1) * 1 ≤ G.length := by rw [hG,flatG_length]; omega
        refine SW.freezeZ (fun j => Nat.beq j 3) 3 (by rfl) (SW.exit ⟨rfl,_,_,rfl,by show iV q = _; rw [hz,← hQ],rfl,rfl,rfl,?_,?_,rfl⟩)
        rotate_left
        · exact .inr ⟨_,_,_,frz_slE (fm := none) (G := G) rfl rfl hlG⟩
        show Eqv (frz _ _ 3 (.sl 3 0 (i + 1) 1 false)) (.isl d.nw 1 false (intC (d.feN N)))
        rw [hz,frz_slE (fm := none) (G := G) rfl rfl hlG,hG]
        exact Eqv.isl rfl fun i' k hi' hk => Eqv.of (frz_flat hi' hk rfl)
  rintro e fm st ⟨rfl,g,A,rfl,g1,g2,g4,g5,hA,_,rfl⟩
  refine SW.seq (SW.mono (Q := midN (fun X => nthS d (intsV d.nw false (d.feN N)) (X) [] 5) (intsV d.nl false (d.stN N)) (d.qL N d.nl)) ?_ ?_)
  · refine SW.seqRun tok hO (by cbv <;> rfl) (by trivial) ?_
    refine (SW.block (SW.loopR (fun i : Nat => ⟨⟨68,getT [(1,iV (d.qL N i)),(2,.ptr 0 0),(4,.ptr 1 0),(5,.ptr 2 0),(8,iV i)]⟩,[]⟩) (fun i => nthS d (intsV d.nw false (d.feN N)) (slG 4 1 i) (objG 4 1 (intC (d.stN N)) i) 5) (fun i => d.nl - i) (fun i => i ≤ d.nl) 0 (Nat.zero_le _) (ren1 4 4) ?_ fun i hi => ?_))
    · refine WeakR.up rfl rfl (by simp) (Nat.le_refl _) (.inl rfl) (by show 4 ≤ 5; omega) ⟨?_, ?_, ?_, ?_, RenV.closed Below.lit, trivial⟩ ⟨⟨by omega, _, rfl, .cells (.cons (RenV.eqv (RenV.closed (intsV_below _ _ _)) hA) (.cons (RenV.closed Below.lit) .nil)), .inr rfl⟩, ⟨by omega, _, rfl, .cells (RenVs.closed tru0_below), .inr rfl⟩, ⟨by omega, _, rfl, .cells (RenVs.closed (dayC_below d)), .inr rfl⟩, trivial⟩ (fun p hp => by cases hp)
      · show RenV _ _ _ (g 1); rw [g1]; exact RenV.closed Below.lit
      · show RenV _ _ _ (g 2); rw [g2]; exact RenV.ptr (by omega)
      · show RenV _ _ _ (g 4); rw [g4]; exact RenV.ptr (by omega)
      · show RenV _ _ _ (g 5); rw [g5]; exact RenV.ptr (by omega)
    generalize hQ : d.qL N i = q
    cases i with
    | zero =>
      refine SW.seq ?_
      refine SW.seqRun tok hO (by cbv <;> rfl) (by trivial) ?_
      refine SW.condS (by cbv <;> rfl) (fun h => SW.skip ?_) (fun h => ?_)
      · have hlt : 0 < d.nl := by subst hO; simpa [std] using h
        have h0 : (0 : Int) ≤ Int.ofNat (0) := Int.natCast_nonneg _
        obtain ⟨hs0,hs1,hs2⟩ := (fun i hi => (g0.lot i hi).2) (0) hlt
        have hsz := size64_in (lo := d.llo (0)) (hi := d.lhi (0)) (by omega) hs1 (by omega)
        have hne : size64 (d.llo (0)) (d.lhi (0)) ≠ 0 := by rw [hsz]; omega
        have call := size61_ok (d.llo (0)) (d.lhi (0))
        have e1 : quo64 q (size64 (d.llo (0)) (d.lhi (0))) = d.qL N (1) := by rw [← hQ]; rfl
        have e2 : add64 (d.llo (0)) (q.tmod (size64 (d.llo (0)) (d.lhi (0)))) = d.stN N (0) := by rw [← hQ]; rfl
        generalize size64 (d.llo (0)) (d.lhi (0)) = z at call hne e1 e2
        rw [← hnat (0)] at call
        refine SW.seq (SW.block ?_)
        refine SW.seqRun tok hO (by cbv <;> rfl) ?_ ?_
        · exact ⟨h0,Int.ofNat_lt.2 hlt⟩
        refine SW.runD tok mixed hO (by rfl) (by cbv <;> rfl) (by trivial) ?_
        refine AnyE.callP call (by cbv <;> rfl) (by cbv <;> rfl) ?_
        refine AnyE.run tok hO (by rfl) (by cbv <;> rfl) ?_ ?_
        · exact hne
        refine AnyE.effK tok hO (by cbv <;> rfl) (by cbv <;> rfl) (by trivial) ?_ ?_
        · exact (by repeat (first | exact trivial | refine And.intro (by first | exact lv_of hO (by cbv <;> rfl) (by trivial) | (refine lv_of hO (by cbv <;> rfl) ?_; exact hne)) ?_))
        refine AnyE.appNilK tok (by cbv <;> rfl) (by cbv <;> rfl) (by rfl) (by kernel_rfl) (by rfl) (by rfl) ?_ ?_
        · exact (by repeat (first | exact trivial | refine And.intro (by first | exact lv_of hO (by cbv <;> rfl) (by trivial) | (refine lv_of hO (by cbv <;> rfl) ?_; exact hne)) ?_))
        refine AnyE.run tok hO (by rfl) (by cbv <;> rfl) (by trivial) ?_
        refine AnyE.callP call (by cbv <;> rfl) (by cbv <;> rfl) ?_
        refine AnyE.run tok hO (by rfl) (by cbv <;> rfl) ?_ ?_
        · exact hne
        refine AnyE.effK tok hO (by cbv <;> rfl) (by cbv <;> rfl) (by trivial) ?_ ?_
        · exact (by repeat (first | exact trivial | refine And.intro (by first | exact lv_of hO (by cbv <;> rfl) (by trivial) | (refine lv_of hO (by cbv <;> rfl) ?_; exact hne)) ?_))
        refine AnyE.run tok hO (by rfl) (by cbv <;> rfl) (by trivial) ?_
        first
          | refine AnyE.done (by rfl) ?_
          | (refine AnyE.effK tok hO (by cbv <;> rfl) (by cbv <;> rfl) (by trivial) ?_ ?_
             · exact (by repeat (first | exact trivial | refine And.intro (by first | exact lv_of hO (by cbv <;> rfl) (by trivial) | (refine lv_of hO (by cbv <;> rfl) ?_; exact hne)) ?_))
             refine AnyE.done (by rfl) ?_)
        refine SW.run tok hO (by cbv <;> rfl) (by trivial) ?_
        refine ⟨1,by omega,by omega,ren1 4 7,?_⟩
        have e3 : O.bin .quo .i64 q z = d.qL N (1) := by rw [← e1]; subst hO; rfl
        have e4 : O.bin .add .i64 (d.llo (O.nat (Int.ofNat (0)))) (O.bin .rem .i64 q z) = d.stN N (0) := by rw [← e2,hnat]; subst hO; rfl
        refine WeakR.up rfl rfl (by simp) (Nat.le_refl _) (.inr (by omega)) (by show 4 ≤ 5; omega) ⟨?_,RenV.ptr (by omega),RenV.ptr (by omega),RenV.ptr (by omega),RenV.inc hO (by omega),trivial⟩ ⟨⟨by omega,_,rfl,.cells (.cons (RenV.closed (intsV_below _ _ _)) (.cons (RenV.sl (by omega)) .nil)),.inr rfl⟩,⟨by omega,_,rfl,.cells (RenVs.closed tru0_below),.inr rfl⟩,⟨by omega,_,rfl,.cells (RenVs.closed (dayC_below d)),.inr rfl⟩,trivial⟩ (fun p hp => ?_)
        · show RenV _ _ (iV (d.qL N (1))) (iV (O.bin .quo .i64 q z))
          rw [e3]; exact RenV.closed Below.lit
        obtain rfl := objG_mem hp
        exact ⟨by omega,_,rfl,.cells (RenVs.of_eq (congrArg (fun v => [iV v]) e4) (flatG_below (intC_below (d.stN N)) 1)),.inl rfl⟩
      · have hz : d.nl = 0 := by
          have : d.nl ≤ 0 := by subst hO; simpa [std] using h
          omega
        refine SW.exit ⟨rfl,_,nl3,rfl,by show iV q = _; rw [hz,← hQ],rfl,rfl,rfl,?_,.inl rfl,rfl⟩
        show Eqv nl3 (.isl d.nl 1 false (intC (d.stN N)))
        rw [hz]; exact Eqv.nil
    | succ i =>
      obtain ⟨G,hG⟩ : ∃ G,G = flatG 1 (intC (d.stN N)) (i + 1) := ⟨_,rfl⟩
      have hGo : objG 4 1 (intC (d.stN N)) (i + 1) = [(4,.cells none false G)] := by rw [hG]; rfl
      show SW _ _ _ _ _ (nthS d (intsV d.nw false (d.feN N)) (.sl 4 0 (i + 1) 1 false) (objG 4 1 (intC (d.stN N)) (i + 1)) 5)
      rw [hGo]
      refine SW.seq ?_
      refine SW.seqRun tok hO (by cbv <;> rfl) (by trivial) ?_
      refine SW.condS (by cbv <;> rfl) (fun h => SW.skip ?_) (fun h => ?_)
      · have hlt : i + 1 < d.nl := by
          have : ((i + 1 : Nat) : Int) < (d.nl : Int) := by subst hO; simpa [std] using h
          omega
        have h0 : (0 : Int) ≤ Int.ofNat (i + 1) := Int.natCast_nonneg _
        obtain ⟨hs0,hs1,hs2⟩ := (fun i hi => (g0.lot i hi).2) (i + 1) hlt
        have hsz := size64_in (lo := d.llo (i + 1)) (hi := d.lhi (i + 1)) (by omega) hs1 (by omega)
        have hne : size64 (d.llo (i + 1)) (d.lhi (i + 1)) ≠ 0 := by rw [hsz]; omega
        have call := size61_ok (d.llo (i + 1)) (d.lhi (i + 1))
        have e1 : quo64 q (size64 (d.llo (i + 1)) (d.lhi (i + 1))) = d.qL N (i + 1 + 1) := by rw [← hQ]; rfl
        have e2 : add64 (d.llo (i + 1)) (q.tmod (size64 (d.llo (i + 1)) (d.lhi (i + 1)))) = d.stN N (i + 1) := by rw [← hQ]; rfl
        generalize size64 (d.llo (i + 1)) (d.lhi (i + 1)) = z at call hne e1 e2
        rw [← hnat (i + 1)] at call
        refine SW.seq (SW.block ?_)
        refine SW.seqRun tok hO (by cbv <;> rfl) ?_ ?_
        · exact ⟨h0,Int.ofNat_lt.2 hlt⟩
        refine SW.runD tok mixed hO (by rfl) (by cbv <;> rfl) (by trivial) ?_
        refine AnyE.callP call (by cbv <;> rfl) (by cbv <;> rfl) ?_
        refine AnyE.run tok hO (by rfl) (by cbv <;> rfl) ?_ ?_
        · exact hne
        refine AnyE.effK tok hO (by cbv <;> rfl) (by cbv <;> rfl) (by trivial) ?_ ?_
        · exact (by repeat (first | exact trivial | refine And.intro (by first | exact lv_of hO (by cbv <;> rfl) (by trivial) | (refine lv_of hO (by cbv <;> rfl) ?_; exact hne)) ?_))
        refine AnyE.appOneK (g := intC (d.stN N)) tok (by cbv <;> rfl) (by cbv <;> rfl) (by rfl) (by rfl) hG (by kernel_rfl) (by rfl) (by rfl) (by omega) fun G' hG' => ⟨?_,?_⟩
        · exact (by repeat (first | exact trivial | refine And.intro (by first | exact lv_of hO (by cbv <;> rfl) (by trivial) | (refine lv_of hO (by cbv <;> rfl) ?_; exact hne)) ?_))
        refine AnyE.run tok hO (by rfl) (by cbv <;> rfl) (by trivial) ?_
        refine AnyE.callP call (by cbv <;> rfl) (by cbv <;> rfl) ?_
        refine AnyE.run tok hO (by rfl) (by cbv <;> rfl) ?_ ?_
        · exact hne
        refine AnyE.effK tok hO (by cbv <;> rfl) (by cbv <;> rfl) (by trivial) ?_ ?_
        · exact (by repeat (first | exact trivial | refine And.intro (by first | exact lv_of hO (by cbv <;> rfl) (by trivial) | (refine lv_of hO (by cbv <;> rfl) ?_; exact hne)) ?_))
        refine AnyE.run tok hO (by rfl) (by cbv <;> rfl) (by trivial) ?_
        first
          | refine AnyE.done (by rfl) ?_
          | (refine AnyE.effK tok hO (by cbv <;> rfl) (by cbv <;> rfl) (by trivial) ?_ ?_
             · exact (by repeat (first | exact trivial | refine And.intro (by first | exact lv_of hO (by cbv <;> rfl) (by trivial) | (refine lv_of hO (by cbv <;> rfl) ?_; exact hne)) ?_))
             refine AnyE.done (by rfl) ?_)
        refine SW.run tok hO (by cbv <;> rfl) (by trivial) ?_
        refine ⟨i + 1 + 1,by omega,by omega,ren1 4 7,?_⟩
        have e3 : O.bin .quo .i64 q z = d.qL N (i + 1 + 1) := by rw [← e1]; subst hO; rfl
        have e4 : O.bin .add .i64 (d.llo (O.nat (Int.ofNat (i + 1)))) (O.bin .rem .i64 q z) = d.stN N (i + 1) := by rw [← e2,hnat]; subst hO; rfl
        refine WeakR.up rfl rfl (by simp) (Nat.le_refl _) (.inr (by omega)) (by show 4 ≤ 5; omega) ⟨?_,RenV.ptr (by omega),RenV.ptr (by omega),RenV.ptr (by omega),RenV.inc hO (by omega),trivial⟩ ⟨⟨by omega,_,rfl,.cells (.cons (RenV.closed (intsV_below _ _ _)) (.cons (RenV.sl (by omega)) .nil)),.inr rfl⟩,⟨by omega,_,rfl,.cells (RenVs.closed tru0_below),.inr rfl⟩,⟨by omega,_,rfl,.cells (RenVs.closed (dayC_below d)),.inr rfl⟩,trivial⟩ (fun p hp => ?_)
        · show RenV _ _ (iV (d.qL N (i + 1 + 1))) (iV (O.bin .quo .i64 q z))
          rw [e3]; exact RenV.closed Below.lit
        obtain rfl := objG_mem hp
        exact ⟨by omega,_,rfl,.cells (RenVs.of_eq (hG'.trans (flatG_snoc (d.stN N) (i + 1) _ e4)) (flatG_below (intC_below (d.stN N)) (i + 1 + 1))),.inl rfl⟩
      · have hz : d.nl = i + 1 := by
          have : (d.nl : Int) ≤ ((i + 1 : Nat) : Int) := by subst hO; simpa [std] using h
          omega
        have hlG : (i + 1) * 1 ≤ G.length := by rw [hG,flatG_length]; omega
        refine SW.freezeZ (fun j => Nat.beq j 4) 3 (by rfl) (SW.exit ⟨rfl,_,_,rfl,by show iV q = _; rw [hz,← hQ],rfl,rfl,rfl,?_,?_,rfl⟩)
        rotate_left
        · exact .inr ⟨_,_,_,frz_slE (fm := none) (G := G) rfl rfl hlG⟩
        show Eqv (frz _ _ 3 (.sl 4 0 (i + 1) 1 false)) (.isl d.nl 1 false (intC (d.stN N)))
        rw [hz,frz_slE (fm := none) (G := G) rfl rfl hlG,hG]
        exact Eqv.isl rfl fun i' k hi' hk => Eqv.of (frz_flat hi' hk rfl)
  rintro e fm st ⟨rfl,g,A,rfl,g1,g2,g4,g5,hA,hform,rfl⟩
  rw [← updT_self g4,← updT_self g5]
  rcases hform with rfl | ⟨len,sz,h,rfl⟩
  · refine SW.seqRun tok hO (by cbv <;> rfl) (by trivial) ?_
    exact SW.ret ⟨_,_,rfl,rfl,Eqv.agg (.cons (Eqv.refl _) (.cons hA .nil))⟩
  · refine SW.seqRun tok hO (by cbv <;> rfl) (by trivial) ?_
    exact SW.ret ⟨_,_,rfl,rfl,Eqv.agg (.cons (Eqv.refl _) (.cons hA .nil))⟩
end Go.Fz
namespace Go.Fz
open Go.Proofs
set_option maxRecDepth 100000
set_option linter.unusedVariables false
section
variable {P : Program}
theorem SW.eqvF {rd : Option Nat} {c : Code} {Q : Exit → Fm → St → Prop} {len : Nat} {g g' : Nat → AV} {dm : List Nat} {S : St} (h : ∀ i, Eqv (g i) (g' i)) (H : SW P rd c Q ⟨⟨len, g'⟩, dm⟩ S) : SW P rd c Q ⟨⟨len, g⟩, dm⟩ S := by
  intro φ w a n h1 h2 h3
  exact H φ w a n h1 h2 ⟨⟨h3.ts.size,fun i => h i φ _ (h3.ts.get i)⟩,h3.dm,h3.lt⟩
theorem updT_eqv {g : Nat → AV} {k : Nat} {v v' : AV} (hk : g k = v) (he : Eqv v v') (i : Nat) : Eqv (g i) (updT g k v' i) := by
  unfold updT
  split
  · rename_i h
    rw [← Nat.eq_of_beq_eq_true h,hk]; exact he
  · exact Eqv.refl _
theorem SW.slot {rd : Option Nat} {c : Code} {Q : Exit → Fm → St → Prop} {len : Nat} {g : Nat → AV} {dm : List Nat} {S : St} (k : Nat) (v v' : AV) (hk : g k = v) (he : Eqv v v') (H : SW P rd c Q ⟨⟨len, updT g k v'⟩, dm⟩ S) : SW P rd c Q ⟨⟨len, g⟩, dm⟩ S :=
  SW.eqvF (updT_eqv hk he) H
end
def seFl (e : Exit) (fm : Fm) (st : St) (T B : AV) (M : Nat) (FL : Nat → Int) (S : St) : Prop :=
  e = .normal ∧ ∃ g X,fm = ⟨⟨85,g⟩,[]⟩ ∧ g 1 = T ∧ g 2 = B ∧ g 3 = .ptr 0 0 ∧ g 7 = X ∧ Eqv X (intsV M false FL) ∧ st = S
set_option maxHeartbeats 16000000 in
theorem se_flats (d : DayD) (M : Nat) (F S : Nat → Nat → Int) (b : Int) (hM : M < 100000) (FL hh ll sp : Nat → Int) (bu le : Nat → Nat → Int) (hplay : ∀ i, i < M → Pure Try.prog 47 [dayV d, .agg [intsV d.nw false (F i), intsV d.nl false (S i)]] (.agg [intsV d.nw false (bu i), intsV d.nw false (le i), iV (hh i), iV (ll i), iV (FL i), iV (sp i)]))
    (g : Nat → AV) (O : Ar) (hO : O = std) (h : AllP (fun p => g p.1 = p.2) [(1,trsV M d.nw d.nl F S),(2,iV b),(3,.ptr 0 0),(7,nl3)]) :
    SW Try.prog none (nthC 2 (bodyF Try.f49)) (fun e f st => seFl e f st (trsV M d.nw d.nl F S) (iV b) M FL ⟨[(0,.cells none false (dayC d))],2⟩) ⟨⟨85,g⟩,[]⟩ ⟨[(0,.cells none false (dayC d))],1⟩ := by
  have hnat : ∀ i : Nat,O.nat (Int.ofNat i) = i := fun i => by subst hO; rfl
  have hT0 := trsV_below M d.nw d.nl F S
  obtain ⟨g1,g2,g3,g7,_⟩ := h
  simp only at g1 g2 g3 g7
  rw [← updT_self g1,← updT_self g2,← updT_self g3,← updT_self g7]
  refine SW.seqRun tok hO (by cbv <;> rfl) (by trivial) ?_
  refine (SW.block (SW.loopR (fun i : Nat => ⟨⟨85,getT [(1,trsV M d.nw d.nl F S),(2,iV b),(3,.ptr 0 0),(7,slG 1 1 i),(8,iV (Int.ofNat i))]⟩,[]⟩) (fun i => ⟨[(0,.cells none false (dayC d))] ++ objG 1 1 (intC FL) i,2⟩) (fun i => M - i) (fun i => i ≤ M) 0 (Nat.zero_le _) (tabR []) ?_ fun i hi => ?_))
  · exact WeakR.tab rfl rfl (by simp) (by rfl) (by show 1 ≤ 2; omega) (by rfl) ⟨RenV.closed hT0,RenV.closed Below.lit,RenV.ptr (by omega),RenV.closed Below.lit,RenV.closed Below.lit,trivial⟩ ⟨⟨by omega,_,rfl,.cells (RenVs.closed (dayC_below d)),rfl⟩,trivial⟩
  have hc : i < M → 0 ≤ Int.ofNat i ∧ Int.ofNat i < (M : Int) := fun h => ⟨Int.natCast_nonneg i,Int.ofNat_lt.2 h⟩
  cases i with
  | zero =>
    show SW _ _ _ _ _ ⟨[(0,.cells none false (dayC d))],2⟩
    refine SW.seq ?_
    refine SW.seqRun tok hO (by cbv <;> rfl) (by trivial) ?_
    refine SW.condS (by cbv <;> rfl) (fun h => SW.skip ?_) (fun h => SW.exit ?_)
    · have hlt : 0 < M := by
        have : (Int.ofNat 0 : Int) < Int.ofNat M := by subst hO; simpa [std] using h
        exact Int.ofNat_lt.1 this
      have hc := hc hlt
      have call := hplay 0 hlt
      obtain ⟨z0,hz0⟩ : ∃ z,FL 0 = z := ⟨_,rfl⟩
      rw [hz0,← hnat 0] at call
      refine SW.seq (SW.block ?_)
      refine SW.runD tok mixed hO (by kernel_rfl) (by cbv <;> rfl) (by first | exact hc | exact ⟨hc,trivial⟩) ?_
      refine AnyE.callP call (by cbv <;> rfl) (by cbv <;> rfl) ?_
      refine AnyE.run tok hO (by rfl) (by cbv <;> rfl) (by trivial) ?_
      refine AnyE.effK tok hO (by cbv <;> rfl) (by cbv <;> rfl) (by trivial) ?_ ?_
      · exact (by repeat (first | exact trivial | refine And.intro (by first | exact lv_of hO (by cbv <;> rfl) (by trivial) | (cbv <;> rfl)) ?_))
      refine AnyE.appNilK tok (by cbv <;> rfl) (by cbv <;> rfl) (by rfl) (by kernel_rfl) (by rfl) (by rfl) ?_ ?_
      · exact (by repeat (first | exact trivial | refine And.intro (by first | exact lv_of hO (by cbv <;> rfl) (by trivial) | (cbv <;> rfl)) ?_))
      refine AnyE.run tok hO (by rfl) (by cbv <;> rfl) (by trivial) ?_
      refine SW.run tok hO (by cbv <;> rfl) (by trivial) ?_
      refine ⟨1,by omega,by omega,ren1 1 3,?_⟩
      refine WeakR.up rfl rfl (by simp) (Nat.le_refl _) (.inr (by omega)) (by show 1 ≤ 2; omega) ⟨RenV.closed hT0,RenV.closed Below.lit,RenV.ptr (by omega),RenV.sl (by omega),RenV.inc hO (by omega),trivial⟩ ⟨⟨by omega,_,rfl,.cells (RenVs.closed (dayC_below d)),.inr rfl⟩,trivial⟩ (fun p hp => ?_)
      obtain rfl := objG_mem hp
      exact ⟨by omega,_,rfl,.cells (RenVs.of_eq (congrArg (fun v => [iV v]) hz0.symm) (flatG_below (intC_below FL) 1)),.inl rfl⟩
    · have hz : M = 0 := by
        have : ¬ (Int.ofNat 0 : Int) < Int.ofNat M := by subst hO; simpa [std] using h
        have h2 : ¬ 0 < M := fun h => this (Int.ofNat_lt.2 h)
        omega
      subst hz
      exact ⟨rfl,_,_,rfl,rfl,rfl,rfl,rfl,Eqv.nil,rfl⟩
  | succ i =>
    obtain ⟨G,hG⟩ : ∃ G,G = flatG 1 (intC FL) (i + 1) := ⟨_,rfl⟩
    have hGo : objG 1 1 (intC FL) (i + 1) = [(1,.cells none false G)] := by rw [hG]; rfl
    rw [hGo]
    show SW _ _ _ _ ⟨⟨85,getT [(1,trsV M d.nw d.nl F S),(2,iV b),(3,.ptr 0 0),(7,.sl 1 0 (i + 1) 1 false),(8,iV (Int.ofNat (i + 1)))]⟩,[]⟩ _
    refine SW.seq ?_
    refine SW.seqRun tok hO (by cbv <;> rfl) (by trivial) ?_
    refine SW.condS (by cbv <;> rfl) (fun h => SW.skip ?_) (fun h => ?_)
    · have hlt : i + 1 < M := by
        have : (Int.ofNat (i + 1) : Int) < Int.ofNat M := by subst hO; simpa [std] using h
        exact Int.ofNat_lt.1 this
      have hc := hc hlt
      have call := hplay (i + 1) hlt
      obtain ⟨z0,hz0⟩ : ∃ z,FL (i + 1) = z := ⟨_,rfl⟩
      rw [hz0,← hnat (i + 1)] at call
      refine SW.seq (SW.block ?_)
      refine SW.runD tok mixed hO (by kernel_rfl) (by cbv <;> rfl) (by first | exact hc | exact ⟨hc,trivial⟩) ?_
      refine AnyE.callP call (by cbv <;> rfl) (by cbv <;> rfl) ?_
      refine AnyE.run tok hO (by rfl) (by cbv <;> rfl) (by trivial) ?_
      refine AnyE.effK tok hO (by cbv <;> rfl) (by cbv <;> rfl) (by trivial) ?_ ?_
      · exact (by repeat (first | exact trivial | refine And.intro (by first | exact lv_of hO (by cbv <;> rfl) (by trivial) | (cbv <;> rfl)) ?_))
      refine AnyE.appOneK (g := intC FL) tok (by cbv <;> rfl) (by cbv <;> rfl) (by rfl) (by rfl) hG (by kernel_rfl) (by rfl) (by rfl) (by omega) fun G' hG' => ⟨?_,?_⟩
      · exact (by repeat (first | exact trivial | refine And.intro (by first | exact lv_of hO (by cbv <;> rfl) (by trivial) | (cbv <;> rfl)) ?_))
      refine AnyE.run tok hO (by rfl) (by cbv <;> rfl) (by trivial) ?_
      refine SW.run tok hO (by cbv <;> rfl) (by trivial) ?_
      refine ⟨i + 1 + 1,by omega,by omega,ren1 1 3,?_⟩
      refine WeakR.up rfl rfl (by simp) (Nat.le_refl _) (.inr (by omega)) (by show 1 ≤ 2; omega) ⟨RenV.closed hT0,RenV.closed Below.lit,RenV.ptr (by omega),RenV.sl (by omega),RenV.inc hO (by omega),trivial⟩ ⟨⟨by omega,_,rfl,.cells (RenVs.closed (dayC_below d)),.inr rfl⟩,trivial⟩ (fun p hp => ?_)
      obtain rfl := objG_mem hp
      exact ⟨by omega,_,rfl,.cells (RenVs.of_eq (hG'.trans (flatG_snoc FL (i + 1) _ hz0.symm)) (flatG_below (intC_below FL) (i + 1 + 1))),.inl rfl⟩
    · have hz : M = i + 1 := by
        have : ¬ (Int.ofNat (i + 1) : Int) < Int.ofNat M := by subst hO; simpa [std] using h
        have h2 : ¬ i + 1 < M := fun h => this (Int.ofNat_lt.2 h)
        omega
      have hlG : (i + 1) * 1 ≤ G.length := by rw [hG,flatG_length]; omega
      refine SW.freezeZ (fun j => Nat.beq j 1) 3 (by rfl) (SW.exit ⟨rfl,_,_,rfl,?_,rfl,rfl,rfl,?_,rfl⟩)
      · exact rfl
      show Eqv (frz _ _ 3 (.sl 1 0 (i + 1) 1 false)) (.isl M 1 false (intC FL))
      rw [frz_slE (fm := none) (G := G) rfl rfl hlG]
      exact Eqv.isl hz.symm fun a k ha hk => Eqv.of (by rw [hG]; exact frz_flat ha hk rfl)
end Go.Fz
