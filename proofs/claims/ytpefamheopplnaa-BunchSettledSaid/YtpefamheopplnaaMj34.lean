/- Own work of the verifier of watercress: FzSt4. -/
import Derived.Test.YtpefamheopplnaaMj32
import Derived.Test.YtpefamheopplnaaMj33
import Derived.Test.YtpefamheopplnaaMj28
set_option linter.unusedVariables false
set_option linter.unusedSimpArgs false
namespace Go.Fz
open Go.Proofs
set_option maxRecDepth 100000
set_option linter.unusedVariables false
set_option maxHeartbeats 16000000 in
theorem st_13 (d : DayD) (a b e : Int) (NX : Nat) (fx : Nat → Nat) (M : Nat) (hM : M < 100000) (F S : Nat → Nat → Int) (n : Nat) (g : Nat → AV) (O : Ar) (hO : O = std) (k0 : Nat) (hW : Nat → Nat → AV) (fl : Int) (bnw : Nat) (lo0 hi0 lo1 hi1 lo2 hi2 : Nat → Int) (p q r s u z : Int) (VY : AV) (hday : Pure Try.prog 19 [.agg [iV d.hand, iV d.flat, .isl d.nw 2 false hW, lotsV d, cntsV d]] VY) (hb : Pure Try.prog 18 [VY] (.tup [.agg [.isl bnw 2 false (rngC lo0 hi0), .isl bnw 2 false (rngC lo1 hi1), .isl bnw 2 false (rngC lo2 hi2), iV p, iV q, iV r, iV s, iV fl, iV fl, iV u, iV z], iV 0])) (h : AllP (fun p => g p.1 = p.2) [(3, .ptr 0 0), (7, intsV NX false (fun i => Int.ofNat (fx i))), (9, trsV M d.nw d.nl F S), (10, iV (Int.ofNat n)), (13, .ptr 1 0), (14, .ptr 2 0)]) :
    SW Try.prog none (nthC 13 (bodyF Try.f12)) (midK 198 [(3,.ptr 0 0),(7,intsV NX false (fun i => Int.ofNat (fx i))),(9,trsV M d.nw d.nl F S),(10,iV (Int.ofNat n)),(13,.ptr 1 0),(16,.ptr 5 0),(17,iV 0)] ⟨[(5,.cells none false [.isl bnw 2 false (rngC lo0 hi0),.isl bnw 2 false (rngC lo1 hi1),.isl bnw 2 false (rngC lo2 hi2),iV p,iV q,iV r,iV s,iV fl,iV fl,iV u,iV z]),(2,.cells none false [iV d.hand,iV d.flat,.isl d.nw 2 false hW,lotsV d,cntsV d]),(1,.cells none false [intsV d.nw false (F k0),intsV d.nl false (S k0)]),(0,.cells none false (dayC d))],6⟩) ⟨⟨198,g⟩,[]⟩ ⟨[(2,.cells none false [iV d.hand,iV d.flat,.isl d.nw 2 false hW,lotsV d,cntsV d]),(1,.cells none false [intsV d.nw false (F k0),intsV d.nl false (S k0)]),(0,.cells none false (dayC d))],5⟩ := by
  obtain ⟨g3,g7,g9,g10,g13,g14,_⟩ := h
  simp only at g3 g7 g9 g10 g13 g14
  rw [← updT_self g3,← updT_self g7,← updT_self g9,← updT_self g10,← updT_self g13,← updT_self g14]
  refine SW.run tok hO (by cbv <;> rfl) (by trivial) ?_
  refine OpsW.callP hday (by cbv <;> rfl) ?_
  refine OpsW.run tok hO (by cbv <;> rfl) (by trivial) ?_
  refine OpsW.callP hb (by cbv <;> rfl) ?_
  refine OpsW.run tok hO (by cbv <;> rfl) (by trivial) ?_
  exact ⟨rfl,_,rfl,⟨rfl,rfl,rfl,rfl,rfl,rfl,rfl,trivial⟩,rfl⟩
set_option maxHeartbeats 16000000 in
theorem st_14 (d : DayD) (a b e : Int) (NX : Nat) (fx : Nat → Nat) (M : Nat) (hM : M < 100000) (F S : Nat → Nat → Int) (n : Nat) (g : Nat → AV) (O : Ar) (hO : O = std) (k0 : Nat) (hW : Nat → Nat → AV) (fl : Int) (bnw : Nat) (lo0 hi0 lo1 hi1 lo2 hi2 : Nat → Int) (p q r s u z : Int) (bu le : Nat → Int) (hh ll sp : Int) (hp : Pure Try.prog 47 [dayV d, .agg [intsV d.nw false (F k0), intsV d.nl false (S k0)]] (.agg [intsV d.nw false bu, intsV d.nw false le, iV hh, iV ll, iV fl, iV sp])) (h : AllP (fun p => g p.1 = p.2) [(3, .ptr 0 0), (7, intsV NX false (fun i => Int.ofNat (fx i))), (9, trsV M d.nw d.nl F S), (10, iV (Int.ofNat n)), (13, .ptr 1 0), (16, .ptr 5 0), (17, iV 0)]) :
    SW Try.prog none (nthC 14 (bodyF Try.f12)) (midK 198 [(3,.ptr 0 0),(7,intsV NX false (fun i => Int.ofNat (fx i))),(9,trsV M d.nw d.nl F S),(10,iV (Int.ofNat n)),(16,.ptr 5 0),(17,iV 0),(18,iV fl)] ⟨[(5,.cells none false [.isl bnw 2 false (rngC lo0 hi0),.isl bnw 2 false (rngC lo1 hi1),.isl bnw 2 false (rngC lo2 hi2),iV p,iV q,iV r,iV s,iV fl,iV fl,iV u,iV z]),(2,.cells none false [iV d.hand,iV d.flat,.isl d.nw 2 false hW,lotsV d,cntsV d]),(1,.cells none false [intsV d.nw false (F k0),intsV d.nl false (S k0)]),(0,.cells none false (dayC d))],6⟩) ⟨⟨198,g⟩,[]⟩ ⟨[(5,.cells none false [.isl bnw 2 false (rngC lo0 hi0),.isl bnw 2 false (rngC lo1 hi1),.isl bnw 2 false (rngC lo2 hi2),iV p,iV q,iV r,iV s,iV fl,iV fl,iV u,iV z]),(2,.cells none false [iV d.hand,iV d.flat,.isl d.nw 2 false hW,lotsV d,cntsV d]),(1,.cells none false [intsV d.nw false (F k0),intsV d.nl false (S k0)]),(0,.cells none false (dayC d))],6⟩ := by
  obtain ⟨g3,g7,g9,g10,g13,g16,g17,_⟩ := h
  simp only at g3 g7 g9 g10 g13 g16 g17
  rw [← updT_self g3,← updT_self g7,← updT_self g9,← updT_self g10,← updT_self g13,← updT_self g16,← updT_self g17]
  refine SW.run tok hO (by cbv <;> rfl) (by trivial) ?_
  refine OpsW.callP hp (by cbv <;> rfl) ?_
  refine OpsW.run tok hO (by cbv <;> rfl) (by trivial) ?_
  exact ⟨rfl,_,rfl,⟨rfl,rfl,rfl,rfl,rfl,rfl,rfl,trivial⟩,rfl⟩
set_option maxHeartbeats 16000000 in
theorem st_15a (d : DayD) (a b e : Int) (NX : Nat) (fx : Nat → Nat) (M : Nat) (hM : M < 100000) (F S : Nat → Nat → Int) (n : Nat) (g : Nat → AV) (O : Ar) (hO : O = std) (k0 : Nat) (hW : Nat → Nat → AV) (fl : Int) (bnw : Nat) (lo0 hi0 lo1 hi1 lo2 hi2 : Nat → Int) (p q r s u z : Int) (haw : Pure Try.prog 17 [] (.lit (.bool true))) (Bn : AV) (hbet : Pure Try.prog 37 [iV fl, iV fl] (rangeV fl fl)) (hbits : Pure Try.prog 51 [iV (Int.ofNat n)] Bn) (hsho : Pure Try.prog 50 [Bn, intsV NX false (fun i => Int.ofNat (fx i))] (.lit (.bool false))) (h : AllP (fun p => g p.1 = p.2) [(3, .ptr 0 0), (7, intsV NX false (fun i => Int.ofNat (fx i))), (9, trsV M d.nw d.nl F S), (10, iV (Int.ofNat n)), (16, .ptr 5 0), (17, iV 0), (18, iV fl)]) :
    SW Try.prog none (restC 15 (bodyF Try.f12)) (retQ T Try.f12 (fun v st' => Eqv (frz st'.h (fun _ => true) 3 v) (.lit (.bool true)))) ⟨⟨198,g⟩,[]⟩ ⟨[(5,.cells none false [.isl bnw 2 false (rngC lo0 hi0),.isl bnw 2 false (rngC lo1 hi1),.isl bnw 2 false (rngC lo2 hi2),iV p,iV q,iV r,iV s,iV fl,iV fl,iV u,iV z]),(2,.cells none false [iV d.hand,iV d.flat,.isl d.nw 2 false hW,lotsV d,cntsV d]),(1,.cells none false [intsV d.nw false (F k0),intsV d.nl false (S k0)]),(0,.cells none false (dayC d))],6⟩ := by
  have hq : O.cmp .eql 0 0 = true := by subst hO; rfl
  have hff : O.cmp .eql fl fl = true := by subst hO; simp [std]
  have hcm : ∀ a b : Int,O.cmp .eql a b = decide (a = b) := fun a b => by subst hO; rfl
  have hff2 : True → True := id
  obtain ⟨g3,g7,g9,g10,g16,g17,g18,_⟩ := h
  simp only at g3 g7 g9 g10 g16 g17 g18
  rw [← updT_self g3,← updT_self g7,← updT_self g9,← updT_self g10,← updT_self g16,← updT_self g17,← updT_self g18]
  refine SW.seq (SW.runD tok mixed hO (by kernel_rfl) (by cbv <;> rfl) (by trivial) ?_)
  refine AnyE.dec tok hO (by rfl) (by cbv <;> rfl) (by trivial) (fun h1 => ?_) (fun h1 => ?_)
  rotate_left
  · exact absurd (show true = false from hq.symm.trans h1) (by decide)
  refine AnyE.run tok hO (by rfl) (by cbv <;> rfl) (by trivial) ?_
  refine AnyE.callP hbet (by cbv <;> rfl) (by cbv <;> rfl) ?_
  refine AnyE.run tok hO (by rfl) (by cbv <;> rfl) (by trivial) ?_
  refine AnyE.dec tok hO (by rfl) (by cbv <;> rfl) (by trivial) (fun h1 => ?_) (fun h1 => ?_)
  rotate_left
  · exfalso; subst hO; first | (simp [std] at h1; done) | exact absurd h1 (by simp [std])
  refine AnyE.run tok hO (by rfl) (by cbv <;> rfl) (by trivial) ?_
  refine AnyE.callP hbits (by cbv <;> rfl) (by cbv <;> rfl) ?_
  refine AnyE.run tok hO (by rfl) (by cbv <;> rfl) (by trivial) ?_
  refine AnyE.callP hsho (by cbv <;> rfl) (by cbv <;> rfl) ?_
  refine AnyE.run tok hO (by rfl) (by cbv <;> rfl) (by trivial) ?_
  refine AnyE.callP haw (by cbv <;> rfl) (by cbv <;> rfl) ?_
  refine AnyE.run tok hO (by rfl) (by cbv <;> rfl) (by trivial) ?_
  exact SW.ret ⟨_,_,rfl,rfl,Eqv.refl _⟩
set_option maxHeartbeats 16000000 in
theorem st_15b (d : DayD) (a b e : Int) (NX : Nat) (fx : Nat → Nat) (M : Nat) (hM : M < 100000) (F S : Nat → Nat → Int) (n : Nat) (g : Nat → AV) (O : Ar) (hO : O = std) (k0 : Nat) (hW : Nat → Nat → AV) (fl : Int) (bnw : Nat) (lo0 hi0 lo1 hi1 lo2 hi2 : Nat → Int) (p q r s u z : Int) (haw : Pure Try.prog 17 [] (.lit (.bool true))) (Bn : AV) (hbet : Pure Try.prog 37 [iV fl, iV fl] (rangeV fl fl)) (hbits : Pure Try.prog 51 [iV (Int.ofNat n)] Bn) (hsho : Pure Try.prog 50 [Bn, intsV NX false (fun i => Int.ofNat (fx i))] (.lit (.bool true))) (hset : Pure Try.prog 49 [dayV d, trsV M d.nw d.nl F S, iV (Int.ofNat n)] (.lit (.bool false))) (h : AllP (fun p => g p.1 = p.2) [(3, .ptr 0 0), (7, intsV NX false (fun i => Int.ofNat (fx i))), (9, trsV M d.nw d.nl F S), (10, iV (Int.ofNat n)), (16, .ptr 5 0), (17, iV 0), (18, iV fl)]) :
    SW Try.prog none (restC 15 (bodyF Try.f12)) (retQ T Try.f12 (fun v st' => Eqv (frz st'.h (fun _ => true) 3 v) (.lit (.bool true)))) ⟨⟨198,g⟩,[]⟩ ⟨[(5,.cells none false [.isl bnw 2 false (rngC lo0 hi0),.isl bnw 2 false (rngC lo1 hi1),.isl bnw 2 false (rngC lo2 hi2),iV p,iV q,iV r,iV s,iV fl,iV fl,iV u,iV z]),(2,.cells none false [iV d.hand,iV d.flat,.isl d.nw 2 false hW,lotsV d,cntsV d]),(1,.cells none false [intsV d.nw false (F k0),intsV d.nl false (S k0)]),(0,.cells none false (dayC d))],6⟩ := by
  have hq : O.cmp .eql 0 0 = true := by subst hO; rfl
  have hff : O.cmp .eql fl fl = true := by subst hO; simp [std]
  have hcm : ∀ a b : Int,O.cmp .eql a b = decide (a = b) := fun a b => by subst hO; rfl
  have hff2 : True → True := id
  obtain ⟨g3,g7,g9,g10,g16,g17,g18,_⟩ := h
  simp only at g3 g7 g9 g10 g16 g17 g18
  rw [← updT_self g3,← updT_self g7,← updT_self g9,← updT_self g10,← updT_self g16,← updT_self g17,← updT_self g18]
  refine SW.seq (SW.runD tok mixed hO (by kernel_rfl) (by cbv <;> rfl) (by trivial) ?_)
  refine AnyE.dec tok hO (by rfl) (by cbv <;> rfl) (by trivial) (fun h1 => ?_) (fun h1 => ?_)
  rotate_left
  · exact absurd (show true = false from hq.symm.trans h1) (by decide)
  refine AnyE.run tok hO (by rfl) (by cbv <;> rfl) (by trivial) ?_
  refine AnyE.callP hbet (by cbv <;> rfl) (by cbv <;> rfl) ?_
  refine AnyE.run tok hO (by rfl) (by cbv <;> rfl) (by trivial) ?_
  refine AnyE.dec tok hO (by rfl) (by cbv <;> rfl) (by trivial) (fun h1 => ?_) (fun h1 => ?_)
  rotate_left
  · exfalso; subst hO; first | (simp [std] at h1; done) | exact absurd h1 (by simp [std])
  refine AnyE.run tok hO (by rfl) (by cbv <;> rfl) (by trivial) ?_
  refine AnyE.callP hbits (by cbv <;> rfl) (by cbv <;> rfl) ?_
  refine AnyE.run tok hO (by rfl) (by cbv <;> rfl) (by trivial) ?_
  refine AnyE.callP hsho (by cbv <;> rfl) (by cbv <;> rfl) ?_
  refine AnyE.run tok hO (by rfl) (by cbv <;> rfl) (by trivial) ?_
  refine AnyE.callP hset (by cbv <;> rfl) (by cbv <;> rfl) ?_
  refine AnyE.run tok hO (by rfl) (by cbv <;> rfl) (by trivial) ?_
  refine AnyE.callP haw (by cbv <;> rfl) (by cbv <;> rfl) ?_
  refine AnyE.run tok hO (by rfl) (by cbv <;> rfl) (by trivial) ?_
  exact SW.ret ⟨_,_,rfl,rfl,Eqv.refl _⟩
end Go.Fz
