/- Own work of the verifier of watercress: FzB10, FzB11, FzB14. -/
import Derived.Test.YtpefamheopplnaaMc29
set_option linter.unusedVariables false
set_option linter.unusedSimpArgs false
namespace Go.Fz
open Go.Proofs
set_option maxRecDepth 100000
theorem Ls {n i:Nat}{p:Nat→Bool}(h:i<n)(hp:p i=false):Dh n p=false:=by
 simp only [Dh,decide_eq_false_iff_not]
 intro hq
 rw[hq i h] at hp;cases hp
theorem Ih {n:Nat}{p:Nat→Bool}(h:∀ i,i<n→p i=true):Dh n p=true:=by
 simp only [Dh,decide_eq_true_eq];exact h
theorem Ww {O:Ar}(hO:O=std){n:Nat}(h:n<4611686018427387904):O.bin .sub .i64 (Int.ofNat n) 1=(n:Int)-1:=by
 have h1:O.bin .sub .i64 (Int.ofNat n) 1=Np (Int.ofNat n) 1:=by rw[hO];exact kL _ _
 have h2:Np (Int.ofNat n) 1=(n:Int)-1:=Il (n:Int) 1 (by omega) (by omega)
 rw[h1,h2]
end Go.Fz
namespace Go.Fz
open Go.Proofs
set_option maxRecDepth 100000
def Zv (a b:Int):Int:=if b<a then b else a
def Ah.We (d:Ah):Nat→Int
 | 0=>1
 | s+1=>Zv 3000 (Km (d.We s) (Fw (d.wlo s) (d.whi s)))
def Ah.Mm (d:Ah):Nat→Int
 | 0=>d.We d.nw
 | s+1=>Zv 3000 (Km (d.Mm s) (Fw (d.llo s) (d.lhi s)))
theorem fM (d:Ah)(hs:d.small):Pure Try.prog 55 [Di d] (iV (d.Mm d.nl)):=by
 obtain⟨O,hO⟩:∃ O:Ar,O=std:=⟨_,rfl⟩
 have hnw:=hs.1
 have hnl:=hs.2.1
 refine Ae tok 3 Try.func55 tZ rfl ⟨Ax d,trivial⟩ Below.lit ?_
 refine SW.Ab tok hO (by cbv<;>rfl) (by trivial) ?_
 refine SW.Ab tok hO (by cbv<;>rfl) (by trivial) ?_
 refine SW.seq ?_
 refine SW.Ab tok hO (by cbv<;>rfl) (by trivial) ?_
 refine(SW.block (SW.Gu (fun i:Nat=>⟨⟨40,getT [(1,.ptr 0 0),(3,iV (d.We i)),(4,iV i)]⟩,[]⟩) (fun _=>⟨[(0,.cells none false (Ex d))],1⟩) (fun i=>d.nw-i) (fun i=>i≤d.nw) 0
  (fun _=>rfl) (Nat.zero_le _) (Cw.by rfl rfl (by simp) (Nat.le_refl _) (Nat.le_refl _) ⟨⟨rfl,.inl rfl⟩,⟨rfl,.inl rfl⟩,⟨rfl,.inl rfl⟩,trivial⟩ ⟨⟨rfl,by omega,.inl rfl⟩,trivial⟩) fun i hi=>?_))
 generalize hacc:d.We i=acc
 refine SW.seq ?_
 refine SW.Ab tok hO (by cbv<;>rfl) (by trivial) ?_
 refine SW.Bd (by cbv<;>rfl) (fun h=>SW.skip ?_) (fun h=>SW.exit ?_)
 ·have hlt:i<d.nw:=by subst hO;simpa[std] using h
  have h0:(0:Int)≤Int.ofNat i:=Int.natCast_nonneg i
  refine SW.seq (SW.block ?_)
  refine SW.run tok hO (by cbv<;>rfl) ?_ ?_
  ·exact⟨h0,Int.ofNat_lt.2 hlt⟩
  refine Ac.Rm (Vu (d.wlo (O.nat (Int.ofNat i))) (d.whi (O.nat (Int.ofNat i)))) (by cbv<;>rfl) fun v hv=>?_
  refine Ac.run tok hO (by cbv<;>rfl) (by trivial) ?_
  refine SW.run tok hO (by cbv<;>rfl) (by trivial) ?_
  refine⟨i+1,by omega,by omega,Cw.by rfl rfl (by simp) (Nat.le_refl _) (Nat.le_refl _) ⟨⟨rfl,.inl rfl⟩,⟨?_,.inl rfl⟩,⟨Dp hO (by omega),.inl rfl⟩,trivial⟩ ⟨⟨rfl,by omega,.inl rfl⟩,trivial⟩⟩
  subst hO;subst hv;subst hacc;rfl
 have hge:d.nw≤i:=by subst hO;simpa[std] using h
 have hin:i=d.nw:=by omega
 subst hin
 refine SW.seq ?_
 refine SW.Ab tok hO (by cbv<;>rfl) (by trivial) ?_
 refine(SW.block (SW.Gu (fun i:Nat=>⟨⟨40,getT [(1,.ptr 0 0),(3,iV (d.Mm i)),(5,iV i)]⟩,[]⟩) (fun _=>⟨[(0,.cells none false (Ex d))],1⟩) (fun i=>d.nl-i) (fun i=>i≤d.nl) 0
  (fun _=>rfl) (Nat.zero_le _) (Cw.by rfl rfl (by simp) (Nat.le_refl _) (Nat.le_refl _) ⟨⟨rfl,.inl rfl⟩,⟨by rw[←hacc];rfl,.inl rfl⟩,⟨rfl,.inl rfl⟩,trivial⟩ ⟨⟨rfl,by omega,.inl rfl⟩,trivial⟩) fun j hj=>?_))
 generalize hacc2:d.Mm j=acc2
 refine SW.seq ?_
 refine SW.Ab tok hO (by cbv<;>rfl) (by trivial) ?_
 refine SW.Bd (by cbv<;>rfl) (fun h=>SW.skip ?_) (fun h=>SW.exit ?_)
 ·have hlt:j<d.nl:=by subst hO;simpa[std] using h
  have h0:(0:Int)≤Int.ofNat j:=Int.natCast_nonneg j
  refine SW.seq (SW.block ?_)
  refine SW.run tok hO (by cbv<;>rfl) ?_ ?_
  ·exact⟨h0,Int.ofNat_lt.2 hlt⟩
  refine Ac.Rm (Vu (d.llo (O.nat (Int.ofNat j))) (d.lhi (O.nat (Int.ofNat j)))) (by cbv<;>rfl) fun v hv=>?_
  refine Ac.run tok hO (by cbv<;>rfl) (by trivial) ?_
  refine SW.run tok hO (by cbv<;>rfl) (by trivial) ?_
  refine⟨j+1,by omega,by omega,Cw.by rfl rfl (by simp) (Nat.le_refl _) (Nat.le_refl _) ⟨⟨rfl,.inl rfl⟩,⟨?_,.inl rfl⟩,⟨Dp hO (by omega),.inl rfl⟩,trivial⟩ ⟨⟨rfl,by omega,.inl rfl⟩,trivial⟩⟩
  subst hO;subst hv;subst hacc2;rfl
 ·refine SW.Ab tok hO (by cbv<;>rfl) (by trivial) ?_
  have hge:d.nl≤j:=by subst hO;simpa[std] using h
  have hin:j=d.nl:=by omega
  subst hin;subst hacc2
  refine SW.ret ⟨_,_,rfl,rfl,Eqv.of rfl⟩
def Ah.Rv (d:Ah)(i:Nat):Bool:=Cl (d.clo i) (d.chi i) 0 20000&&inB (d.ck i) 0 5&&(if 1<d.ck i then decide (d.cw i=0) else inB (d.cw i) 0 ((d.nw:Int)-1))
theorem aO (d:Ah)(hs:d.small)(i:Nat):Pure Try.prog 94 [Di d,Vk d i] (.sb (d.Rv i)):=by
 obtain⟨O,hO⟩:∃ O:Ar,O=std:=⟨_,rfl⟩
 have hnot:∀ b,O.not b=!b:=fun b=>by subst hO;rfl
 have hnw:=hs.1
 have c1:=Lw (d.clo i) (d.chi i) 0 20000
 have c2:=aV (d.ck i) 0 5
 have c3:=aV (d.cw i) 0 (O.bin .sub .i64 (Int.ofNat d.nw) 1)
 have hv:d.Rv i=(Cl (d.clo i) (d.chi i) 0 20000&&inB (d.ck i) 0 5&&(if 1<d.ck i then decide (d.cw i=0) else inB (d.cw i) 0 (O.bin .sub .i64 (Int.ofNat d.nw) 1))):=by rw[Ww hO hnw];rfl
 generalize Cl (d.clo i) (d.chi i) 0 20000=p1 at c1 hv
 generalize inB (d.ck i) 0 5=p2 at c2 hv
 generalize inB (d.cw i) 0 (O.bin .sub .i64 (Int.ofNat d.nw) 1)=p3 at c3 hv
 rw[hv]
 refine Ae tok 3 Try.func94 tH rfl ⟨Ax d,Uq d i,trivial⟩ Below.sb ?_
 refine SW.Ab tok hO (by cbv<;>rfl) (by trivial) ?_
 refine SW.seq ?_
 refine SW.Ab tok hO (by cbv<;>rfl) (by trivial) ?_
 refine Ac.Al c1 (by cbv<;>rfl) ?_
 refine Ac.run tok hO (by cbv<;>rfl) (by trivial) ?_
 refine Ac.Bs (by cbv<;>rfl) (fun h1=>?_) (fun h1=>?_)<;>refine Ac.run tok hO (by cbv<;>rfl) (by trivial) ?_
 ·refine SW.cond (t:=true) (by cbv<;>rfl) ?_
  refine SW.Ab tok hO (by cbv<;>rfl) (by trivial) ?_
  refine SW.ret ⟨_,_,rfl,rfl,Eqv.bool ?_⟩
  rw[show p1=false by simpa using (hnot p1).symm.trans h1];rfl
 obtain rfl:p1=true:=by simpa using (hnot p1).symm.trans h1
 refine Ac.Al c2 (by cbv<;>rfl) ?_
 refine Ac.run tok hO (by cbv<;>rfl) (by trivial) ?_
 refine SW.Bd (by cbv<;>rfl) (fun h2=>?_) (fun h2=>SW.skip ?_)
 ·refine SW.Ab tok hO (by cbv<;>rfl) (by trivial) ?_
  refine SW.ret ⟨_,_,rfl,rfl,Eqv.bool ?_⟩
  rw[show p2=false by simpa using (hnot p2).symm.trans h2];rfl
 obtain rfl:p2=true:=by simpa using (hnot p2).symm.trans h2
 refine SW.seq ?_
 refine SW.Ab tok hO (by cbv<;>rfl) (by trivial) ?_
 refine SW.Bd (by cbv<;>rfl) (fun h3=>?_) (fun h3=>SW.skip ?_)
 ·have hk:1<d.ck i:=by subst hO;simpa[std] using h3
  refine SW.Ab tok hO (by cbv<;>rfl) (by trivial) ?_
  refine SW.ret ⟨_,_,rfl,rfl,Eqv.sb ?_⟩
  rw[if_pos hk];subst hO;simp[std];rfl
 ·have hk:¬ 1<d.ck i:=by subst hO;simpa[std] using h3
  refine SW.Ab tok hO (by cbv<;>rfl) (by trivial) ?_
  refine Ac.Al c3 (by cbv<;>rfl) ?_
  refine Ac.run tok hO (by cbv<;>rfl) (by trivial) ?_
  refine SW.ret ⟨_,_,rfl,rfl,Eqv.sb ?_⟩
  rw[if_neg hk];simp
end Go.Fz
namespace Go.Fz
open Go.Proofs
set_option maxRecDepth 100000
end Go.Fz
