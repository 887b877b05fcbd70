/- Own work of the verifier of watercress: FzSt3. -/
import Derived.Test.YtpefamheopplnaaMj31
set_option linter.unusedVariables false
set_option linter.unusedSimpArgs false
namespace Go.Fz
open Go.Proofs
set_option maxRecDepth 100000
set_option linter.unusedVariables false
noncomputable def stwL : Code := match nthC 12 (bodyF Try.f12) with
  | .seq _ (.block _ (.loop c)) => c
  | _ => .skip
noncomputable def stwB : Code := match stwL with
  | .seq _ (.seq (.block _ b) _) => b
  | _ => .skip
set_option maxHeartbeats 16000000 in
theorem st_12a (d : DayD) (a b e : Int) (NX : Nat) (fx : Nat → Nat) (M : Nat) (hM : M < 100000) (F S : Nat → Nat → Int) (n : Nat) (g : Nat → AV) (O : Ar) (hO : O = std) (k0 j : Nat) (hj : j < NX) (hNX : NX ≤ 4) (G : List AV) (hlt : fx j < d.nw) (hinc : 0 < j → fx (j - 1) < fx j) (hin : Pure Try.prog 25 [iV (Int.ofNat (fx j)), iV 0, iV (O.bin .sub .i64 (Int.ofNat d.nw) 1)] (.lit (.bool true))) (h : AllP (fun p => g p.1 = p.2) [(3, .ptr 0 0), (7, intsV NX false (fun i => Int.ofNat (fx i))), (9, trsV M d.nw d.nl F S), (10, iV (Int.ofNat n)), (13, .ptr 1 0), (14, .ptr 2 0), (15, iV (Int.ofNat j))]) :
    SW Try.prog none (nthC 0 stwB) (midK 198 [(3,.ptr 0 0),(7,intsV NX false (fun i => Int.ofNat (fx i))),(9,trsV M d.nw d.nl F S),(10,iV (Int.ofNat n)),(13,.ptr 1 0),(14,.ptr 2 0),(15,iV (Int.ofNat j))] ⟨[(4,.cells none false G),(2,.cells none false [iV d.hand,iV d.flat,.sl 4 0 d.nw 2 false,lotsV d,cntsV d]),(1,.cells none false [intsV d.nw false (F k0),intsV d.nl false (S k0)]),(0,.cells none false (dayC d))],5⟩) ⟨⟨198,g⟩,[]⟩ ⟨[(4,.cells none false G),(2,.cells none false [iV d.hand,iV d.flat,.sl 4 0 d.nw 2 false,lotsV d,cntsV d]),(1,.cells none false [intsV d.nw false (F k0),intsV d.nl false (S k0)]),(0,.cells none false (dayC d))],5⟩ := by
  have hnat : ∀ i : Nat,O.nat (Int.ofNat i) = i := fun i => by subst hO; rfl
  have hcj : 0 ≤ Int.ofNat j ∧ Int.ofNat j < (NX : Int) := ⟨Int.natCast_nonneg j,Int.ofNat_lt.2 hj⟩
  have hin2 : Pure Try.prog 25 [iV (Int.ofNat (fx (O.nat (Int.ofNat j)))),iV 0,iV (O.bin .sub .i64 (Int.ofNat d.nw) 1)] (.lit (.bool true)) := by rw [hnat]; exact hin
  have hcw : True := trivial
  obtain ⟨g3,g7,g9,g10,g13,g14,g15,_⟩ := h
  simp only at g3 g7 g9 g10 g13 g14 g15
  rw [← updT_self g3,← updT_self g7,← updT_self g9,← updT_self g10,← updT_self g13,← updT_self g14,← updT_self g15]
  have hcp : True := trivial
  refine SW.seq (SW.runDN tok mixed hO 5 (by kernel_rfl) (by cbv <;> rfl) (by repeat (first | exact trivial | exact hcj | exact hcp | exact hcw | refine ⟨?_,?_⟩)) ?_)
  refine AnyE.run tok hO (by rfl) (by cbv <;> rfl) (by repeat (first | exact trivial | exact hcj | exact hcp | exact hcw | refine ⟨?_,?_⟩)) ?_
  refine AnyE.callP hin2 (by cbv <;> rfl) (by cbv <;> rfl) ?_
  clear hcp
  refine AnyE.run tok hO (by rfl) (by cbv <;> rfl) (by trivial) ?_
  refine AnyE.dec tok hO (by rfl) (by cbv <;> rfl) (by trivial) (fun h1 => ?_) (fun h1 => ?_)
  · have hj0 : 0 < j := by
      have : (0 : Int) < Int.ofNat j := by subst hO; simpa [std] using h1
      exact Int.ofNat_lt.1 this
    have hsub : O.bin .sub .i64 (Int.ofNat j) 1 = Int.ofNat (j - 1) := by
      rw [sub1_ok hO (by omega)]
      show (j : Int) - 1 = ((j - 1 : Nat) : Int)
      omega
    have hcp : 0 ≤ O.bin .sub .i64 (Int.ofNat j) 1 ∧ O.bin .sub .i64 (Int.ofNat j) 1 < (NX : Int) := by rw [hsub]; exact ⟨Int.natCast_nonneg _,Int.ofNat_lt.2 (by omega)⟩
    refine AnyE.runN tok hO 5 (by rfl) (by cbv <;> rfl) (by repeat (first | exact trivial | exact hcj | exact hcp | exact hcw | refine ⟨?_,?_⟩)) ?_
    refine AnyE.run tok hO (by rfl) (by cbv <;> rfl) (by repeat (first | exact trivial | exact hcj | exact hcp | exact hcw | refine ⟨?_,?_⟩)) ?_
    refine AnyE.dec tok hO (by rfl) (by cbv <;> rfl) (by repeat (first | exact trivial | exact hcj | exact hcp | exact hcw | refine ⟨?_,?_⟩)) (fun h2 => ?_) (fun h2 => ?_)
    · exfalso
      have h3 : O.cmp .leq (Int.ofNat (fx (O.nat (Int.ofNat j)))) (Int.ofNat (fx (O.nat (O.bin .sub .i64 (Int.ofNat j) 1)))) = true := h2
      rw [hsub,hnat,hnat] at h3
      have h4 : (Int.ofNat (fx j) : Int) ≤ Int.ofNat (fx (j - 1)) := by subst hO; simpa [std] using h3
      have h5 := Int.ofNat_le.1 h4
      have := hinc hj0
      omega
    refine AnyE.run tok hO (by rfl) (by cbv <;> rfl) (by trivial) ?_
    refine SW.condS (by cbv <;> rfl) (fun h => absurd h (by decide)) (fun _ => SW.skip ?_)
    exact ⟨rfl,_,rfl,⟨rfl,rfl,rfl,rfl,rfl,rfl,rfl,trivial⟩,rfl⟩
  · refine AnyE.runN tok hO 5 (by rfl) (by cbv <;> rfl) (by trivial) ?_
    refine AnyE.runN tok hO 5 (by rfl) (by cbv <;> rfl) (by trivial) ?_
    refine AnyE.run tok hO (by rfl) (by cbv <;> rfl) (by trivial) ?_
    refine SW.condS (by cbv <;> rfl) (fun h => absurd h (by decide)) (fun _ => SW.skip ?_)
    exact ⟨rfl,_,rfl,⟨rfl,rfl,rfl,rfl,rfl,rfl,rfl,trivial⟩,rfl⟩
set_option maxHeartbeats 32000000 in
theorem st_12b (d : DayD) (a b e : Int) (NX : Nat) (fx : Nat → Nat) (M : Nat) (hM : M < 100000) (F S : Nat → Nat → Int) (n : Nat) (g : Nat → AV) (O : Ar) (hO : O = std) (k0 j : Nat) (hj : j < NX) (hNX : NX ≤ 4) (G : List AV) (hlt : fx j < d.nw) (hGl : G.length = d.nw * 2) (h : AllP (fun p => g p.1 = p.2) [(3, .ptr 0 0), (7, intsV NX false (fun i => Int.ofNat (fx i))), (9, trsV M d.nw d.nl F S), (10, iV (Int.ofNat n)), (13, .ptr 1 0), (14, .ptr 2 0), (15, iV (Int.ofNat j))]) :
    SW Try.prog none (restC 1 stwB) (fun e f st => ∃ G',G' = (G.set (fx j * 2 + 0) (iV (F k0 (fx j)))).set (fx j * 2 + 1) (iV (F k0 (fx j))) ∧ midK 198 [(3,.ptr 0 0),(7,intsV NX false (fun i => Int.ofNat (fx i))),(9,trsV M d.nw d.nl F S),(10,iV (Int.ofNat n)),(13,.ptr 1 0),(14,.ptr 2 0),(15,iV (Int.ofNat j))] ⟨[(4,.cells none false G'),(2,.cells none false [iV d.hand,iV d.flat,.sl 4 0 d.nw 2 false,lotsV d,cntsV d]),(1,.cells none false [intsV d.nw false (F k0),intsV d.nl false (S k0)]),(0,.cells none false (dayC d))],5⟩ e f st) ⟨⟨198,g⟩,[]⟩ ⟨[(4,.cells none false G),(2,.cells none false [iV d.hand,iV d.flat,.sl 4 0 d.nw 2 false,lotsV d,cntsV d]),(1,.cells none false [intsV d.nw false (F k0),intsV d.nl false (S k0)]),(0,.cells none false (dayC d))],5⟩ := by
  have hnat : ∀ i : Nat,O.nat (Int.ofNat i) = i := fun i => by subst hO; rfl
  have hcj : 0 ≤ Int.ofNat j ∧ Int.ofNat j < (NX : Int) := ⟨Int.natCast_nonneg j,Int.ofNat_lt.2 hj⟩
  have hcw : 0 ≤ Int.ofNat (fx (O.nat (Int.ofNat j))) ∧ Int.ofNat (fx (O.nat (Int.ofNat j))) < (d.nw : Int) := by rw [hnat]; exact ⟨Int.natCast_nonneg _,Int.ofNat_lt.2 hlt⟩
  have hcp : True := trivial
  obtain ⟨g3,g7,g9,g10,g13,g14,g15,_⟩ := h
  simp only at g3 g7 g9 g10 g13 g14 g15
  rw [← updT_self g3,← updT_self g7,← updT_self g9,← updT_self g10,← updT_self g13,← updT_self g14,← updT_self g15]
  refine SW.runDN tok mixed hO 5 (by kernel_rfl) (by cbv <;> rfl) (by repeat (first | exact trivial | exact hcj | exact hcp | exact hcw | refine ⟨?_,?_⟩)) ?_
  refine AnyE.runN tok hO 5 (by rfl) (by cbv <;> rfl) (by repeat (first | exact trivial | exact hcj | exact hcp | exact hcw | refine ⟨?_,?_⟩)) ?_
  refine AnyE.runN tok hO 5 (by rfl) (by cbv <;> rfl) (by repeat (first | exact trivial | exact hcj | exact hcp | exact hcw | refine ⟨?_,?_⟩)) ?_
  refine AnyE.runN tok hO 5 (by rfl) (by cbv <;> rfl) (by repeat (first | exact trivial | exact hcj | exact hcp | exact hcw | refine ⟨?_,?_⟩)) ?_
  refine AnyE.run tok hO (by rfl) (by cbv <;> rfl) (by repeat (first | exact trivial | exact hcj | exact hcp | exact hcw | refine ⟨?_,?_⟩)) ?_
  refine AnyE.idxSl tok 23 (n := fx (O.nat (Int.ofNat j))) (by rfl) (by cbv <;> rfl) (by kernel_rfl) (by rw [hnat]; exact hlt) (by kernel_rfl) fun q hq => ?_
  refine AnyE.sto2 tok (by cbv <;> rfl) (by cbv <;> rfl) (by kernel_rfl) (by rfl) (by rw [hGl,hq,hnat]; omega) fun G' hG' => ?_
  refine AnyE.done (by rfl) ?_
  refine ⟨G',?_,rfl,_,rfl,⟨rfl,rfl,rfl,rfl,rfl,rfl,rfl,trivial⟩,rfl⟩
  rw [hG',hq]
  simp only [hnat,Nat.zero_add,Nat.add_zero]
set_option maxHeartbeats 16000000 in
theorem st_12 (d : DayD) (a b e : Int) (NX : Nat) (fx : Nat → Nat) (M : Nat) (hM : M < 100000) (F S : Nat → Nat → Int) (n : Nat) (g : Nat → AV) (O : Ar) (hO : O = std) (k0 : Nat) (hNX : NX ≤ 4) (GJ : Nat → List AV) (hfl : ∀ j, j < NX → fx j < d.nw) (hinc : ∀ j, j < NX → 0 < j → fx (j - 1) < fx j) (hin : ∀ j, j < NX → Pure Try.prog 25 [iV (Int.ofNat (fx j)), iV 0, iV (O.bin .sub .i64 (Int.ofNat d.nw) 1)] (.lit (.bool true))) (hGl : ∀ j, (GJ j).length = d.nw * 2) (hGs : ∀ j, j < NX → ((GJ j).set (fx j * 2 + 0) (iV (F k0 (fx j)))).set (fx j * 2 + 1) (iV (F k0 (fx j))) = GJ (j + 1)) (h : AllP (fun p => g p.1 = p.2) [(3, .ptr 0 0), (7, intsV NX false (fun i => Int.ofNat (fx i))), (9, trsV M d.nw d.nl F S), (10, iV (Int.ofNat n)), (13, .ptr 1 0), (14, .ptr 2 0)]) :
    SW Try.prog none (nthC 12 (bodyF Try.f12)) (midK 198 [(3,.ptr 0 0),(7,intsV NX false (fun i => Int.ofNat (fx i))),(9,trsV M d.nw d.nl F S),(10,iV (Int.ofNat n)),(13,.ptr 1 0),(14,.ptr 2 0)] ⟨[(4,.cells none false (GJ NX)),(2,.cells none false [iV d.hand,iV d.flat,.sl 4 0 d.nw 2 false,lotsV d,cntsV d]),(1,.cells none false [intsV d.nw false (F k0),intsV d.nl false (S k0)]),(0,.cells none false (dayC d))],5⟩) ⟨⟨198,g⟩,[]⟩ ⟨[(4,.cells none false (GJ 0)),(3,.cells none false []),(2,.cells none false [iV d.hand,iV d.flat,.sl 4 0 d.nw 2 false,lotsV d,cntsV d]),(1,.cells none false [intsV d.nw false (F k0),intsV d.nl false (S k0)]),(0,.cells none false (dayC d))],5⟩ := by
  have hnat : ∀ i : Nat,O.nat (Int.ofNat i) = i := fun i => by subst hO; rfl
  obtain ⟨g3,g7,g9,g10,g13,g14,_⟩ := h
  simp only at g3 g7 g9 g10 g13 g14
  rw [← updT_self g3,← updT_self g7,← updT_self g9,← updT_self g10,← updT_self g13,← updT_self g14]
  refine SW.seqRun tok hO (by cbv <;> rfl) (by trivial) ?_
  refine (SW.block (SW.loopF (fun j : Nat => ⟨⟨198, getT [(3, .ptr 0 0), (7, intsV NX false (fun i => Int.ofNat (fx i))), (9, trsV M d.nw d.nl F S), (10, iV (Int.ofNat n)), (13, .ptr 1 0), (14, .ptr 2 0), (15, iV (Int.ofNat j))]⟩, []⟩) (fun j => ⟨[(4, .cells none false (GJ j)), (2, .cells none false [iV d.hand, iV d.flat, .sl 4 0 d.nw 2 false, lotsV d, cntsV d]), (1, .cells none false [intsV d.nw false (F k0), intsV d.nl false (S k0)]), (0, .cells none false (dayC d))], 5⟩) (fun j => NX - j) (fun j => j ≤ NX) 0
    (fun _ => rfl) (Nat.zero_le _) (Weak.by rfl rfl (by simp) (Nat.le_refl _) (Nat.le_refl _) ⟨⟨rfl,.inl rfl⟩,⟨rfl,.inl rfl⟩,⟨rfl,.inl rfl⟩,⟨rfl,.inl rfl⟩,⟨rfl,.inl rfl⟩,⟨rfl,.inl rfl⟩,⟨rfl,.inl rfl⟩,trivial⟩ ⟨⟨rfl,by show 4 < 5; omega,.inl rfl⟩,⟨rfl,by show 2 < 5; omega,.inl rfl⟩,⟨rfl,by show 1 < 5; omega,.inl rfl⟩,⟨rfl,by show 0 < 5; omega,.inl rfl⟩,trivial⟩) fun j hj => ?_))
  show SW _ _ _ _ ⟨⟨198,getT [(3,.ptr 0 0),(7,intsV NX false (fun i => Int.ofNat (fx i))),(9,trsV M d.nw d.nl F S),(10,iV (Int.ofNat n)),(13,.ptr 1 0),(14,.ptr 2 0),(15,iV (Int.ofNat j))]⟩,[]⟩ ⟨[(4,.cells none false (GJ j)),(2,.cells none false [iV d.hand,iV d.flat,.sl 4 0 d.nw 2 false,lotsV d,cntsV d]),(1,.cells none false [intsV d.nw false (F k0),intsV d.nl false (S k0)]),(0,.cells none false (dayC d))],5⟩
  obtain ⟨G,hG⟩ : ∃ G,GJ j = G := ⟨_,rfl⟩
  rw [hG]
  refine SW.seq ?_
  refine SW.seqRun tok hO (by cbv <;> rfl) (by trivial) ?_
  refine SW.condS (by cbv <;> rfl) (fun h => SW.skip ?_) (fun h => SW.exit ?_)
  · have hlt : j < NX := by
      have : (Int.ofNat j : Int) < Int.ofNat NX := by subst hO; simpa [std] using h
      exact Int.ofNat_lt.1 this
    clear h
    refine SW.seq (SW.block ?_)
    refine SW.seq ((st_12a d a b e NX fx M hM F S n _ O hO k0 j hlt hNX G (hfl j hlt) (hinc j hlt) (hin j hlt) ⟨rfl,rfl,rfl,rfl,rfl,rfl,rfl,trivial⟩).mono fun e1 f1 st1 hm => ?_)
    obtain ⟨rfl,g,rfl,h,rfl⟩ := hm
    refine ((st_12b d a b e NX fx M hM F S n _ O hO k0 j hlt hNX G (hfl j hlt) (by rw [← hG]; exact hGl j) h).mono fun e1 f1 st1 hm => ?_)
    obtain ⟨G',hG',rfl,g,rfl,⟨q3,q7,q9,q10,q13,q14,q15,_⟩,rfl⟩ := hm
    simp only at q3 q7 q9 q10 q13 q14 q15
    rw [← hG,hGs j hlt] at hG'
    rw [← updT_self q3,← updT_self q7,← updT_self q9,← updT_self q10,← updT_self q13,← updT_self q14,← updT_self q15]
    show SW _ _ _ _ _ _
    refine SW.run tok hO (by cbv <;> rfl) (by trivial) ?_
    exact ⟨j + 1,by omega,hlt,Weak.by rfl rfl (by simp) (Nat.le_refl _) (Nat.le_refl _) ⟨⟨rfl,.inl rfl⟩,⟨rfl,.inl rfl⟩,⟨rfl,.inl rfl⟩,⟨rfl,.inl rfl⟩,⟨rfl,.inl rfl⟩,⟨rfl,.inl rfl⟩,⟨inc_ok hO (by omega),.inl rfl⟩,trivial⟩ ⟨⟨by rw [← hG']; rfl,by show 4 < 5; omega,.inl rfl⟩,⟨rfl,by show 2 < 5; omega,.inl rfl⟩,⟨rfl,by show 1 < 5; omega,.inl rfl⟩,⟨rfl,by show 0 < 5; omega,.inl rfl⟩,trivial⟩⟩
  · have hge : j = NX := by
      have : ¬ (Int.ofNat j : Int) < Int.ofNat NX := by subst hO; simpa [std] using h
      have h2 : ¬ j < NX := fun h => this (Int.ofNat_lt.2 h)
      omega
    subst hge
    rw [← hG]
    exact ⟨rfl,_,rfl,⟨rfl,rfl,rfl,rfl,rfl,rfl,trivial⟩,rfl⟩
end Go.Fz
