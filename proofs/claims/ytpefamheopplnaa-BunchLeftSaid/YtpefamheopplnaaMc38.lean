/- Own work of the verifier of watercress: FzF5. -/
import Derived.Test.YtpefamheopplnaaMc37
set_option linter.unusedVariables false
set_option linter.unusedSimpArgs false
namespace Go.Fz
open Go.Proofs
set_option maxRecDepth 100000
theorem iM (l:List Nat)(i:Nat)(hi:i<l.length):Rs (l.take (i+1))=std.bin .or .i64 (Rs (l.take i)) (std.bin .shl .i64 1 (std.conv .u64 (lI l i))):=by
 have h1:l.take (i+1)=l.take i++[l.getD i 0]:=by
  rw[List.take_add_one,List.getD_eq_getElem?_getD,List.getElem?_eq_getElem hi];rfl
 rw[h1]
 unfold Rs
 rw[List.foldl_append];rfl
set_option maxHeartbeats 64000000 in
theorem Ye (haw:Pure Try.prog 17 [] (.lit (.bool true)))(d:Ah)(b:Int)(hb0:0≤b)(hb1:b≤255):Pure Try.prog 14 [Di d,.lit (.int .u8 b)] (.lit (.bool true)):=by
 obtain⟨O,hO⟩:∃ O:Ar,O=std:=⟨_,rfl⟩
 have hnat:∀ i:Nat,O.nat (Int.ofNat i)=i:=fun i=>by subst hO;rfl
 refine Ae tok 3 Try.func14 uL rfl ⟨Ax d,Below.lit,trivial⟩ Below.lit ?_
 refine SW.Ab tok hO (by cbv<;>rfl) (by trivial) ?_
 refine SW.seq ?_
 refine SW.Ab tok hO (by cbv<;>rfl) (by trivial) ?_
 have call:=kV d
 generalize hR:d.Ip=r at call
 refine Ac.Al call (by cbv<;>rfl) ?_
 have hnot:O.not r=!r:=by subst hO;rfl
 refine Ac.run tok hO (by cbv<;>rfl) (by trivial) ?_
 refine SW.Bd (by cbv<;>rfl) (fun h1=>?_) (fun h1=>SW.skip ?_)
 ·refine SW.Ab tok hO (by cbv<;>rfl) (by trivial) ?_
  refine Ac.Al haw (by cbv<;>rfl) ?_
  refine Ac.run tok hO (by cbv<;>rfl) (by trivial) ?_
  exact SW.ret ⟨_,_,rfl,rfl,Eqv.refl _⟩
 have hr:r=true:=by have:=hnot.symm.trans h1;simpa using this
 rw[hr] at hR
 obtain⟨gd,_⟩:=cZ hR
 have hF:d.Gg=0:=by
  simp only [Ah.Ip,Bool.and_eq_true,decide_eq_true_eq] at hR;exact hR.2
 have hc:d.check=0:=(bS d).trans hF
 have hnw:=gd.nw
 have hnl:=gd.nl
 have hnc:=gd.nc
 have hsm:d.small:=⟨by omega,by omega,by omega⟩
 have hday:=dW d (by omega) (by omega) (by omega)
 have e1:=Mw d hsm
 rw[hc] at e1
 have hleave:=dF d d.seen.E d.seen.cl d.seen.outs (gY d) (by omega) e1 (Sv d hc)
 obtain⟨pre,l,post,hE,hpre,hlq,hLV⟩:=dE hc hnc
 rw[hLV] at hleave
 have hlmem:l∈Im d.nc:=by rw[hE];simp
 obtain⟨k1,k2⟩:=oX ⟨d.nc,by omega⟩ l hlmem
 simp only at k1 k2
 have hl5:l.length≤5:=by have:=Zc hlmem;omega
 have hfull:=pX d (by omega)
 have hob:=nY ⟨b.toNat,by omega⟩ ⟨d.nc,by omega⟩
 have hbn:((b.toNat:Nat):Int)=b:=by omega
 simp only [hbn] at hob
 have hF1:∀ i,i<l.length→0≤lI l i∧lI l i<(d.nc:Int):=fun i hi=>by
  have:=(k2 ⟨i,by omega⟩ hi).1
  unfold lI
  simp only at this
  omega
 have hF2:∀ i,i<l.length→0<i→lI l (i-1)<lI l i:=fun i hi h0=>by
  have:=(k2 ⟨i,by omega⟩ hi).2 h0
  unfold lI
  simp only at this
  omega
 have hmsk:∀ i,i<l.length→O.bin .or .i64 (Rs (l.take i)) (O.bin .shl .i64 1 (O.conv .u64 (lI l i)))=Rs (l.take (i+1)):=fun i hi=>by subst hO;exact(iM l i hi).symm
 have hmfin:Rs (l.take l.length)=Rs l:=by rw[List.take_length]
 have hm0:Rs (l.take 0)=0:=rfl
 obtain⟨FU,hFU⟩:∃ FU,Ug d.nc=FU:=⟨_,rfl⟩
 obtain⟨M,hM⟩:∃ M,Rs l=M:=⟨_,rfl⟩
 obtain⟨o,ho⟩:∃ o,O.bin .and .i64 (O.conv .i64 b) FU=o:=⟨_,rfl⟩
 have ho1:0≤o∧o<2^d.nc:=by rw[←ho,←hFU];subst hO;exact hob
 have ho32:o<32:=by
  have:(2:Int)^d.nc≤32:=by
   have h5:d.nc=0∨d.nc=1∨d.nc=2∨d.nc=3∨d.nc=4∨d.nc=5:=by omega
   rcases h5 with h|h|h|h|h|h<;>rw[h]<;>decide
  omega
 have hB1:∀ j,j<5→Hj (O.bin .andNot .i64 FU M) j=(decide (j<d.nc)&&decide (j∉l)):=fun j hj=>by
  rw[←hFU,←hM];subst hO;exact k1 ⟨j,hj⟩
 have hoth:=pB ⟨d.nc,by omega⟩ ⟨o.toNat,by omega⟩ (by
  have h2:((o.toNat:Nat):Int)<((2^d.nc:Nat):Int):=by
   have:((2^d.nc:Nat):Int)=(2:Int)^d.nc:=by simp
   omega
  exact Int.ofNat_lt.1 h2)
 have hon:((o.toNat:Nat):Int)=o:=by omega
 simp only [hon] at hoth
 obtain⟨hA,hoth⟩:=hoth
 have hB2:∀ j,j<5→Hj (O.bin .andNot .i64 FU o) j=(decide (j<d.nc)&&decide (j∉Co o 5)):=fun j hj=>by
  have h1:=hoth ⟨j,hj⟩
  simp only at h1
  rw[←hFU]
  have h2:Hj (O.bin .andNot .i64 (Ug d.nc) o) j=(decide (j<d.nc)&&!Hj o j):=by subst hO;exact h1
  rw[h2]
  congr 1
  have h3:=Md o j 5
  cases hbj:Hj o j with
  | true=>have hx:=h3.2 ⟨hj,hbj⟩;simp[hx]
  | false =>
   have hx:j∉Co o 5:=fun h=>by have:=(h3.1 h).2;rw[hbj] at this;cases this
   simp[hx]
 have hbits:Pure Try.prog 51 [iV o] (lsV (Co o 5)):=jP o ho1.1 ho32
 have hsh:Pure Try.prog 50 [lsV (Co o 5),lsV l] (.sb (shL (Co o 5) l)):=cR _ _ false false _ _ (by have:=Me o 5;omega) (by omega)
 have hs1:=eO d (O.bin .andNot .i64 FU M) (by omega)
 have hs2:=eO d (O.bin .andNot .i64 FU o) (by omega)
 have hc1:=Ma hc (O.bin .andNot .i64 FU M)
 have hc2:=Ma hc (O.bin .andNot .i64 FU o)
 have hne1:=(Wf hc hnc _ l hB1).2 hlq
 have hout2:(d.Ew (O.bin .andNot .i64 FU o)).seen.outs≠[]→shL (Co o 5) l=false:=fun h=>by
  have h1:=(Wf hc hnc _ (Co o 5) hB2).1 h
  cases h2:shL (Co o 5) l with
  | false=>rfl
  | true =>
   have h3:=hpre _ (cV hnc hE hA h2)
   rw[h1] at h3;cases h3
 generalize shL (Co o 5) l=SH at hsh hout2
 have hlsl:lsV l=Ak l.length false (lI l):=rfl
 obtain⟨N2,f2,hls2⟩:∃ N2 f2,lsV (Co o 5)=Ak N2 false f2:=⟨_,_,rfl⟩
 rw[hls2] at hbits hsh
 rw[hlsl] at hsh hleave
 rw[hFU] at hfull
 generalize d.Ew (O.bin .andNot .i64 FU M)=d1 at hs1 hc1 hne1
 generalize d.Ew (O.bin .andNot .i64 FU o)=d2 at hs2 hc2 hout2
 have g1:=Ds hc1
 have g2:=Ds hc2
 have a1:=g1.nw;have a2:=g1.nl;have a3:=g1.nc
 have b1:=g2.nw;have b2:=g2.nl;have b3:=g2.nc
 have hsm1:d1.small:=⟨by omega,by omega,by omega⟩
 have hsm2:d2.small:=⟨by omega,by omega,by omega⟩
 have hday1:=dW d1 (by omega) (by omega) (by omega)
 have hday2:=dW d2 (by omega) (by omega) (by omega)
 obtain⟨X,Y,Z,p,q,r1,s,t,u,v,w,hbd1⟩:=Rn d1 hsm1 hc1 hne1
 refine SW.Ab tok hO (by cbv<;>rfl) (by trivial) ?_
 refine Ac.Al hday (by cbv<;>rfl) ?_
 refine Ac.run tok hO (by cbv<;>rfl) (by trivial) ?_
 obtain⟨N,hN⟩:∃ N,l.length=N:=⟨_,rfl⟩
 obtain⟨fl,hfl⟩:∃ fl,lI l=fl:=⟨_,rfl⟩
 obtain⟨mk,hmk⟩:∃ mk:Nat→Int,(fun i=>Rs (l.take i))=mk:=⟨_,rfl⟩
 have hmk':∀ i,Rs (l.take i)=mk i:=fun i=>congrFun hmk i
 simp only [hmk',hN,hfl] at hmsk hmfin hm0 hF1 hF2 hleave hsh hl5
 rw[hM] at hmfin
 refine Ac.Al hleave (by cbv<;>rfl) ?_
 refine Ac.run tok hO (by cbv<;>rfl) (by trivial) ?_
 refine SW.seq ?_
 refine SW.Ab tok hO (by cbv<;>rfl) (by trivial) ?_
 refine SW.Bd (by cbv<;>rfl) (fun h2=>?_) (fun h2=>SW.skip ?_)
 ·exfalso;subst hO;simp[std] at h2
 refine SW.Ab tok hO (by cbv<;>rfl) (by trivial) ?_
 refine SW.seq ?_
 refine SW.Ab tok hO (by cbv<;>rfl) (by trivial) ?_
 refine(SW.block (SW.Gu (fun i:Nat=>⟨⟨118,getT [(1,.lit (.int .u8 b)),(2,.ptr 0 0),(5,Ak N false fl),(7,iV (mk i)),(8,iV i)]⟩,[]⟩) (fun _=>⟨[(0,.cells none false (Ex d))],1⟩) (fun i=>N-i) (fun i=>i≤N) 0
  (fun _=>rfl) (Nat.zero_le _) (Cw.by rfl rfl (by simp) (Nat.le_refl _) (Nat.le_refl _) ⟨⟨rfl,.inl rfl⟩,⟨rfl,.inl rfl⟩,⟨rfl,.inl rfl⟩,⟨congrArg (fun z=>AV.lit (.int .i64 z)) hm0.symm,.inl rfl⟩,⟨rfl,.inl rfl⟩,trivial⟩ ⟨⟨rfl,by show 0<1;omega,.inl rfl⟩,trivial⟩) fun i hi=>?_))
 have h0:(0:Int)≤Int.ofNat i:=Int.natCast_nonneg i
 refine SW.seq ?_
 refine SW.Ab tok hO (by cbv<;>rfl) (by trivial) ?_
 refine SW.Bd (by cbv<;>rfl) (fun h=>SW.skip ?_) (fun h=>SW.exit ?_)
 ·have hlt:i<N:=by subst hO;simpa[std] using h
  have hlt':Int.ofNat i<(N:Int):=Int.ofNat_lt.2 hlt
  have hv:fl (O.nat (Int.ofNat i))=fl i:=by rw[hnat]
  obtain⟨f1,f2⟩:=hF1 i hlt
  have hsub1:0<i→O.bin .sub .i64 (Int.ofNat i) 1=((i-1:Nat):Int):=fun hp=>by
   subst hO
   show Np ((i:Nat):Int) 1=_
   rw[Il _ _ (by omega) (by omega)];omega
  have hv1:0<i→fl (O.nat (O.bin .sub .i64 (Int.ofNat i) 1))=fl (i-1):=fun hp=>by
   rw[hsub1 hp];exact congrArg fl (hnat (i-1))
  have hcv:0≤O.conv .u64 (fl (O.nat (Int.ofNat i))):=by
   rw[hv]
   subst hO
   show 0≤wrp .u64 (fl i)
   rw[Jo (by simp only [IntKind.lo];omega) (by simp only [IntKind.hi];omega)]
   exact f1
  have hmk1:O.bin .or .i64 (mk i) (O.bin .shl .i64 1 (O.conv .u64 (fl (O.nat (Int.ofNat i)))))=mk (i+1):=by rw[hv];exact hmsk i hlt
  refine SW.seq (SW.block ?_)
  refine SW.seq ?_
  refine SW.Bv tok mixed hO (by kernel_rfl) (by cbv<;>rfl) ?_ ?_
  ·first|exact⟨h0,hlt'⟩|exact⟨⟨h0,hlt'⟩,trivial⟩
  refine AnyE.dec tok hO (by kernel_rfl) (by cbv<;>rfl) (by trivial) (fun h3=>?_) (fun h3=>?_)
  ·exfalso
   have h4:fl (O.nat (Int.ofNat i))<0:=by subst hO;simpa[std] using h3
   rw[hv] at h4;omega
  refine AnyE.run tok hO (by kernel_rfl) (by cbv<;>rfl) (by first|trivial|exact⟨h0,hlt'⟩|exact⟨⟨h0,hlt'⟩,trivial⟩) ?_
  refine AnyE.dec tok hO (by kernel_rfl) (by cbv<;>rfl) (by trivial) (fun h4=>?_) (fun h4=>?_)
  ·exfalso
   have h5:(d.nc:Int)≤fl (O.nat (Int.ofNat i)):=by subst hO;simpa[std] using h4
   rw[hv] at h5;omega
  refine AnyE.run tok hO (by kernel_rfl) (by cbv<;>rfl) (by first|trivial|exact⟨h0,hlt'⟩|exact⟨⟨h0,hlt'⟩,trivial⟩) ?_
  refine AnyE.dec tok hO (by kernel_rfl) (by cbv<;>rfl) (by trivial) (fun h5=>?_) (fun h5=>?_)
  ·have hp:0<i:=by
    have:(0:Int)<Int.ofNat i:=by subst hO;simpa[std] using h5
    have h6:(0:Int)<(i:Int):=this
    omega
   have hi1:0≤O.bin .sub .i64 (Int.ofNat i) 1∧O.bin .sub .i64 (Int.ofNat i) 1<(N:Int):=by
    rw[hsub1 hp];omega
   refine AnyE.run tok hO (by kernel_rfl) (by cbv<;>rfl) (by first|exact⟨hi1,⟨h0,hlt'⟩⟩|exact⟨⟨h0,hlt'⟩,hi1⟩) ?_
   refine AnyE.dec tok hO (by kernel_rfl) (by cbv<;>rfl) (by trivial) (fun h6=>?_) (fun h6=>?_)
   ·exfalso
    have h7:fl (O.nat (Int.ofNat i))≤fl (O.nat (O.bin .sub .i64 (Int.ofNat i) 1)):=by
     have h8:decide (fl (O.nat (Int.ofNat i))≤fl (O.nat (O.bin .sub .i64 (Int.ofNat i) 1)))=true:=by subst hO;exact h6
     exact of_decide_eq_true h8
    rw[hv,hv1 hp] at h7
    have:=hF2 i hlt hp
    omega
   refine AnyE.run tok hO (by kernel_rfl) (by cbv<;>rfl) (by trivial) ?_
   refine SW.cond (t:=false) (by cbv<;>rfl) (SW.skip ?_)
   refine SW.run tok hO (by cbv<;>rfl) (by first|exact⟨hcv,⟨h0,hlt'⟩⟩|exact⟨⟨h0,hlt'⟩,hcv⟩) ?_
   refine SW.run tok hO (by cbv<;>rfl) (by trivial) ?_
   exact⟨i+1,by omega,by omega,Cw.by rfl rfl (by simp) (Nat.le_refl _) (Nat.le_refl _) ⟨⟨rfl,.inl rfl⟩,⟨rfl,.inl rfl⟩,⟨rfl,.inl rfl⟩,⟨(congrArg (fun z=>AV.lit (.int .i64 z)) hmk1),.inl rfl⟩,⟨Dp hO (by omega),.inl rfl⟩,trivial⟩ ⟨⟨rfl,by show 0<1;omega,.inl rfl⟩,trivial⟩⟩
  ·refine AnyE.runN tok hO 5 (by kernel_rfl) (by cbv<;>rfl) (by trivial) ?_
   refine AnyE.runN tok hO 5 (by kernel_rfl) (by cbv<;>rfl) (by trivial) ?_
   refine AnyE.run tok hO (by kernel_rfl) (by cbv<;>rfl) (by trivial) ?_
   refine SW.cond (t:=false) (by cbv<;>rfl) (SW.skip ?_)
   refine SW.run tok hO (by cbv<;>rfl) (by first|exact⟨hcv,⟨h0,hlt'⟩⟩|exact⟨⟨h0,hlt'⟩,hcv⟩) ?_
   refine SW.run tok hO (by cbv<;>rfl) (by trivial) ?_
   exact⟨i+1,by omega,by omega,Cw.by rfl rfl (by simp) (Nat.le_refl _) (Nat.le_refl _) ⟨⟨rfl,.inl rfl⟩,⟨rfl,.inl rfl⟩,⟨rfl,.inl rfl⟩,⟨(congrArg (fun z=>AV.lit (.int .i64 z)) hmk1),.inl rfl⟩,⟨Dp hO (by omega),.inl rfl⟩,trivial⟩ ⟨⟨rfl,by show 0<1;omega,.inl rfl⟩,trivial⟩⟩
 ·have hiN:i=N:=by
   have:¬ i<N:=by subst hO;simpa[std] using h
   omega
  have hMi:mk i=M:=by rw[hiN];exact hmfin
  refine SW.seq ((show SW Try.prog none _ (lJ 118 [(2,.ptr 0 0),(5,Ak N false fl),(7,iV M),(9,iV o)] ⟨[(0,.cells none false (Ex d))],1⟩) _ _ from ?_).mono fun e f st hm=>?_)
  ·refine SW.run tok hO (by cbv<;>rfl) (by trivial) ?_
   refine Ac.Al hfull (by cbv<;>rfl) ?_
   refine Ac.run tok hO (by cbv<;>rfl) (by trivial) ?_
   exact⟨rfl,_,rfl,⟨rfl,rfl,congrArg (fun z=>AV.lit (.int .i64 z)) hMi,congrArg (fun z=>AV.lit (.int .i64 z)) ho,trivial⟩,rfl⟩
  obtain⟨rfl,g,rfl,⟨g2,g5,g7,g9,_⟩,rfl⟩:=hm
  simp only at g2 g5 g7 g9
  rw[←Am g2,←Am g5,←Am g7,←Am g9]
  show SW _ _ _ _ _ _
  clear hMi h
  refine SW.seq ((show SW Try.prog none _ (lJ 118 [(2,.ptr 0 0),(5,Ak N false fl),(9,iV o),(11,iV 0)] ⟨[(1,.cells none false [.isl d1.nw 2 false X,.isl d1.nw 2 false Y,.isl d1.nw 2 false Z,iV p,iV q,iV r1,iV s,iV t,iV u,iV v,iV w]),(0,.cells none false (Ex d))],2⟩) _ _ from ?_).mono fun e f st hm=>?_)
  ·skip
   refine SW.runD tok mixed hO (by kernel_rfl) (by cbv<;>rfl) (by trivial) ?_
   refine AnyE.many [2,11] (by cbv<;>rfl) (by rfl) ⟨?_,?_,trivial⟩
   ·refine Ch.Iz hfull (by cbv<;>rfl) (by cbv<;>rfl) ?_ ?_
    ·exact(by repeat (first|exact trivial|refine And.intro (by first|exact Ba hO (by cbv<;>rfl) (by trivial)|(cbv<;>rfl)) ?_))
    refine AnyE.run tok hO (by rfl) (by cbv<;>rfl) (by trivial) ?_
    refine AnyE.many [5,11] (by cbv<;>rfl) (by rfl) ⟨?_,?_,trivial⟩
    ·refine Ch.Iz hs1 (by cbv<;>rfl) (by cbv<;>rfl) ?_ ?_
     ·exact(by repeat (first|exact trivial|refine And.intro (by first|exact Ba hO (by cbv<;>rfl) (by trivial)|(cbv<;>rfl)) ?_))
     refine AnyE.run tok hO (by rfl) (by cbv<;>rfl) (by trivial) ?_
     refine AnyE.many [6,11] (by cbv<;>rfl) (by rfl) ⟨?_,?_,trivial⟩
     ·refine Ch.Iz hday1 (by cbv<;>rfl) (by cbv<;>rfl) ?_ ?_
      ·exact(by repeat (first|exact trivial|refine And.intro (by first|exact Ba hO (by cbv<;>rfl) (by trivial)|(cbv<;>rfl)) ?_))
      refine AnyE.run tok hO (by rfl) (by cbv<;>rfl) (by trivial) ?_
      refine AnyE.many [7,11] (by cbv<;>rfl) (by rfl) ⟨?_,?_,trivial⟩
      ·refine Ch.Iz hbd1 (by cbv<;>rfl) (by cbv<;>rfl) ?_ ?_
       ·exact(by repeat (first|exact trivial|refine And.intro (by first|exact Ba hO (by cbv<;>rfl) (by trivial)|(cbv<;>rfl)) ?_))
       refine AnyE.run tok hO (by rfl) (by cbv<;>rfl) (by trivial) ?_
       refine AnyE.Cu tok hO (by cbv<;>rfl) (by cbv<;>rfl) (by trivial) ?_ ?_
       ·exact(by repeat (first|exact trivial|refine And.intro (by first|exact Ba hO (by cbv<;>rfl) (by trivial)|(cbv<;>rfl)) ?_))
       refine AnyE.run tok hO (by rfl) (by cbv<;>rfl) (by trivial) ?_
       refine AnyE.Cu tok hO (by cbv<;>rfl) (by cbv<;>rfl) (by trivial) ?_ ?_
       ·exact(by repeat (first|exact trivial|refine And.intro (by first|exact Ba hO (by cbv<;>rfl) (by trivial)|(cbv<;>rfl)) ?_))
       refine AnyE.run tok hO (by rfl) (by cbv<;>rfl) (by trivial) ?_
       exact⟨rfl,_,rfl,⟨rfl,rfl,rfl,rfl,trivial⟩,rfl⟩
      ·refine Ch.eff tok hO (by cbv<;>rfl) (by cbv<;>rfl) (by trivial) ?_ ?_
       ·exact(by repeat (first|exact trivial|refine And.intro (by first|exact Ba hO (by cbv<;>rfl) (by trivial)|(cbv<;>rfl)) ?_))
       refine AnyE.run tok hO (by rfl) (by cbv<;>rfl) (by trivial) ?_
       refine AnyE.Al hbd1 (by cbv<;>rfl) (by cbv<;>rfl) ?_
       refine AnyE.run tok hO (by rfl) (by cbv<;>rfl) (by trivial) ?_
       refine AnyE.Cu tok hO (by cbv<;>rfl) (by cbv<;>rfl) (by trivial) ?_ ?_
       ·exact(by repeat (first|exact trivial|refine And.intro (by first|exact Ba hO (by cbv<;>rfl) (by trivial)|(cbv<;>rfl)) ?_))
       refine AnyE.run tok hO (by rfl) (by cbv<;>rfl) (by trivial) ?_
       exact⟨rfl,_,rfl,⟨rfl,rfl,rfl,rfl,trivial⟩,rfl⟩
     ·refine Ch.eff tok hO (by cbv<;>rfl) (by cbv<;>rfl) (by trivial) ?_ ?_
      ·exact(by repeat (first|exact trivial|refine And.intro (by first|exact Ba hO (by cbv<;>rfl) (by trivial)|(cbv<;>rfl)) ?_))
      refine AnyE.run tok hO (by rfl) (by cbv<;>rfl) (by trivial) ?_
      refine AnyE.Al hday1 (by cbv<;>rfl) (by cbv<;>rfl) ?_
      refine AnyE.run tok hO (by rfl) (by cbv<;>rfl) (by trivial) ?_
      refine AnyE.Al hbd1 (by cbv<;>rfl) (by cbv<;>rfl) ?_
      refine AnyE.run tok hO (by rfl) (by cbv<;>rfl) (by trivial) ?_
      refine AnyE.Cu tok hO (by cbv<;>rfl) (by cbv<;>rfl) (by trivial) ?_ ?_
      ·exact(by repeat (first|exact trivial|refine And.intro (by first|exact Ba hO (by cbv<;>rfl) (by trivial)|(cbv<;>rfl)) ?_))
      refine AnyE.run tok hO (by rfl) (by cbv<;>rfl) (by trivial) ?_
      exact⟨rfl,_,rfl,⟨rfl,rfl,rfl,rfl,trivial⟩,rfl⟩
    ·refine Ch.eff tok hO (by cbv<;>rfl) (by cbv<;>rfl) (by trivial) ?_ ?_
     ·exact(by repeat (first|exact trivial|refine And.intro (by first|exact Ba hO (by cbv<;>rfl) (by trivial)|(cbv<;>rfl)) ?_))
     refine AnyE.run tok hO (by rfl) (by cbv<;>rfl) (by trivial) ?_
     refine AnyE.Al hs1 (by cbv<;>rfl) (by cbv<;>rfl) ?_
     refine AnyE.run tok hO (by rfl) (by cbv<;>rfl) (by trivial) ?_
     refine AnyE.Al hday1 (by cbv<;>rfl) (by cbv<;>rfl) ?_
     refine AnyE.run tok hO (by rfl) (by cbv<;>rfl) (by trivial) ?_
     refine AnyE.Al hbd1 (by cbv<;>rfl) (by cbv<;>rfl) ?_
     refine AnyE.run tok hO (by rfl) (by cbv<;>rfl) (by trivial) ?_
     refine AnyE.Cu tok hO (by cbv<;>rfl) (by cbv<;>rfl) (by trivial) ?_ ?_
     ·exact(by repeat (first|exact trivial|refine And.intro (by first|exact Ba hO (by cbv<;>rfl) (by trivial)|(cbv<;>rfl)) ?_))
     refine AnyE.run tok hO (by rfl) (by cbv<;>rfl) (by trivial) ?_
     exact⟨rfl,_,rfl,⟨rfl,rfl,rfl,rfl,trivial⟩,rfl⟩
   ·refine Ch.eff tok hO (by cbv<;>rfl) (by cbv<;>rfl) (by trivial) ?_ ?_
    ·exact(by repeat (first|exact trivial|refine And.intro (by first|exact Ba hO (by cbv<;>rfl) (by trivial)|(cbv<;>rfl)) ?_))
    refine AnyE.run tok hO (by rfl) (by cbv<;>rfl) (by trivial) ?_
    refine AnyE.Al hfull (by cbv<;>rfl) (by cbv<;>rfl) ?_
    refine AnyE.run tok hO (by rfl) (by cbv<;>rfl) (by trivial) ?_
    refine AnyE.Al hs1 (by cbv<;>rfl) (by cbv<;>rfl) ?_
    refine AnyE.run tok hO (by rfl) (by cbv<;>rfl) (by trivial) ?_
    refine AnyE.Al hday1 (by cbv<;>rfl) (by cbv<;>rfl) ?_
    refine AnyE.run tok hO (by rfl) (by cbv<;>rfl) (by trivial) ?_
    refine AnyE.Al hbd1 (by cbv<;>rfl) (by cbv<;>rfl) ?_
    refine AnyE.run tok hO (by rfl) (by cbv<;>rfl) (by trivial) ?_
    refine AnyE.Cu tok hO (by cbv<;>rfl) (by cbv<;>rfl) (by trivial) ?_ ?_
    ·exact(by repeat (first|exact trivial|refine And.intro (by first|exact Ba hO (by cbv<;>rfl) (by trivial)|(cbv<;>rfl)) ?_))
    refine AnyE.run tok hO (by rfl) (by cbv<;>rfl) (by trivial) ?_
    exact⟨rfl,_,rfl,⟨rfl,rfl,rfl,rfl,trivial⟩,rfl⟩
  clear g2 g5 g7 g9
  obtain⟨rfl,g,rfl,⟨g2,g5,g9,g11,_⟩,rfl⟩:=hm
  simp only at g2 g5 g9 g11
  rw[←Am g2,←Am g5,←Am g9,←Am g11]
  generalize [.isl d1.nw 2 false X,.isl d1.nw 2 false Y,.isl d1.nw 2 false Z,iV p,iV q,iV r1,iV s,iV t,iV u,iV v,iV w]=C1
  show SW _ _ _ _ _ _
  by_cases hout:d2.seen.outs=[]
  ·have hbd2:=dZ d2 11 (by decide) (iI d2 hsm2 hc2 hout)
   refine SW.seq ((show SW Try.prog none _ (lJ 118 [(5,Ak N false fl),(9,iV o),(11,iV 0),(13,iV 11)] ⟨[(2,.cells none false nZ),(1,.cells none false C1),(0,.cells none false (Ex d))],3⟩) _ _ from ?_).mono fun e f st hm=>?_)
   ·skip
    refine SW.runD tok mixed hO (by kernel_rfl) (by cbv<;>rfl) (by trivial) ?_
    refine AnyE.many [2,11] (by cbv<;>rfl) (by rfl) ⟨?_,?_,trivial⟩
    ·refine Ch.Iz hfull (by cbv<;>rfl) (by cbv<;>rfl) ?_ ?_
     ·exact(by repeat (first|exact trivial|refine And.intro (by first|exact Ba hO (by cbv<;>rfl) (by trivial)|(cbv<;>rfl)) ?_))
     refine AnyE.run tok hO (by rfl) (by cbv<;>rfl) (by trivial) ?_
     refine AnyE.many [5,11] (by cbv<;>rfl) (by rfl) ⟨?_,?_,trivial⟩
     ·refine Ch.Iz hs2 (by cbv<;>rfl) (by cbv<;>rfl) ?_ ?_
      ·exact(by repeat (first|exact trivial|refine And.intro (by first|exact Ba hO (by cbv<;>rfl) (by trivial)|(cbv<;>rfl)) ?_))
      refine AnyE.run tok hO (by rfl) (by cbv<;>rfl) (by trivial) ?_
      refine AnyE.many [6,11] (by cbv<;>rfl) (by rfl) ⟨?_,?_,trivial⟩
      ·refine Ch.Iz hday2 (by cbv<;>rfl) (by cbv<;>rfl) ?_ ?_
       ·exact(by repeat (first|exact trivial|refine And.intro (by first|exact Ba hO (by cbv<;>rfl) (by trivial)|(cbv<;>rfl)) ?_))
       refine AnyE.run tok hO (by rfl) (by cbv<;>rfl) (by trivial) ?_
       refine AnyE.many [7,11] (by cbv<;>rfl) (by rfl) ⟨?_,?_,trivial⟩
       ·refine Ch.Iz hbd2 (by cbv<;>rfl) (by cbv<;>rfl) ?_ ?_
        ·exact(by repeat (first|exact trivial|refine And.intro (by first|exact Ba hO (by cbv<;>rfl) (by trivial)|(cbv<;>rfl)) ?_))
        refine AnyE.run tok hO (by rfl) (by cbv<;>rfl) (by trivial) ?_
        refine AnyE.Cu tok hO (by cbv<;>rfl) (by cbv<;>rfl) (by trivial) ?_ ?_
        ·exact(by repeat (first|exact trivial|refine And.intro (by first|exact Ba hO (by cbv<;>rfl) (by trivial)|(cbv<;>rfl)) ?_))
        refine AnyE.run tok hO (by rfl) (by cbv<;>rfl) (by trivial) ?_
        refine AnyE.Cu tok hO (by cbv<;>rfl) (by cbv<;>rfl) (by trivial) ?_ ?_
        ·exact(by repeat (first|exact trivial|refine And.intro (by first|exact Ba hO (by cbv<;>rfl) (by trivial)|(cbv<;>rfl)) ?_))
        refine AnyE.run tok hO (by rfl) (by cbv<;>rfl) (by trivial) ?_
        exact⟨rfl,_,rfl,⟨rfl,rfl,rfl,rfl,trivial⟩,rfl⟩
       ·refine Ch.eff tok hO (by cbv<;>rfl) (by cbv<;>rfl) (by trivial) ?_ ?_
        ·exact(by repeat (first|exact trivial|refine And.intro (by first|exact Ba hO (by cbv<;>rfl) (by trivial)|(cbv<;>rfl)) ?_))
        refine AnyE.run tok hO (by rfl) (by cbv<;>rfl) (by trivial) ?_
        refine AnyE.Al hbd2 (by cbv<;>rfl) (by cbv<;>rfl) ?_
        refine AnyE.run tok hO (by rfl) (by cbv<;>rfl) (by trivial) ?_
        refine AnyE.Cu tok hO (by cbv<;>rfl) (by cbv<;>rfl) (by trivial) ?_ ?_
        ·exact(by repeat (first|exact trivial|refine And.intro (by first|exact Ba hO (by cbv<;>rfl) (by trivial)|(cbv<;>rfl)) ?_))
        refine AnyE.run tok hO (by rfl) (by cbv<;>rfl) (by trivial) ?_
        exact⟨rfl,_,rfl,⟨rfl,rfl,rfl,rfl,trivial⟩,rfl⟩
      ·refine Ch.eff tok hO (by cbv<;>rfl) (by cbv<;>rfl) (by trivial) ?_ ?_
       ·exact(by repeat (first|exact trivial|refine And.intro (by first|exact Ba hO (by cbv<;>rfl) (by trivial)|(cbv<;>rfl)) ?_))
       refine AnyE.run tok hO (by rfl) (by cbv<;>rfl) (by trivial) ?_
       refine AnyE.Al hday2 (by cbv<;>rfl) (by cbv<;>rfl) ?_
       refine AnyE.run tok hO (by rfl) (by cbv<;>rfl) (by trivial) ?_
       refine AnyE.Al hbd2 (by cbv<;>rfl) (by cbv<;>rfl) ?_
       refine AnyE.run tok hO (by rfl) (by cbv<;>rfl) (by trivial) ?_
       refine AnyE.Cu tok hO (by cbv<;>rfl) (by cbv<;>rfl) (by trivial) ?_ ?_
       ·exact(by repeat (first|exact trivial|refine And.intro (by first|exact Ba hO (by cbv<;>rfl) (by trivial)|(cbv<;>rfl)) ?_))
       refine AnyE.run tok hO (by rfl) (by cbv<;>rfl) (by trivial) ?_
       exact⟨rfl,_,rfl,⟨rfl,rfl,rfl,rfl,trivial⟩,rfl⟩
     ·refine Ch.eff tok hO (by cbv<;>rfl) (by cbv<;>rfl) (by trivial) ?_ ?_
      ·exact(by repeat (first|exact trivial|refine And.intro (by first|exact Ba hO (by cbv<;>rfl) (by trivial)|(cbv<;>rfl)) ?_))
      refine AnyE.run tok hO (by rfl) (by cbv<;>rfl) (by trivial) ?_
      refine AnyE.Al hs2 (by cbv<;>rfl) (by cbv<;>rfl) ?_
      refine AnyE.run tok hO (by rfl) (by cbv<;>rfl) (by trivial) ?_
      refine AnyE.Al hday2 (by cbv<;>rfl) (by cbv<;>rfl) ?_
      refine AnyE.run tok hO (by rfl) (by cbv<;>rfl) (by trivial) ?_
      refine AnyE.Al hbd2 (by cbv<;>rfl) (by cbv<;>rfl) ?_
      refine AnyE.run tok hO (by rfl) (by cbv<;>rfl) (by trivial) ?_
      refine AnyE.Cu tok hO (by cbv<;>rfl) (by cbv<;>rfl) (by trivial) ?_ ?_
      ·exact(by repeat (first|exact trivial|refine And.intro (by first|exact Ba hO (by cbv<;>rfl) (by trivial)|(cbv<;>rfl)) ?_))
      refine AnyE.run tok hO (by rfl) (by cbv<;>rfl) (by trivial) ?_
      exact⟨rfl,_,rfl,⟨rfl,rfl,rfl,rfl,trivial⟩,rfl⟩
    ·refine Ch.eff tok hO (by cbv<;>rfl) (by cbv<;>rfl) (by trivial) ?_ ?_
     ·exact(by repeat (first|exact trivial|refine And.intro (by first|exact Ba hO (by cbv<;>rfl) (by trivial)|(cbv<;>rfl)) ?_))
     refine AnyE.run tok hO (by rfl) (by cbv<;>rfl) (by trivial) ?_
     refine AnyE.Al hfull (by cbv<;>rfl) (by cbv<;>rfl) ?_
     refine AnyE.run tok hO (by rfl) (by cbv<;>rfl) (by trivial) ?_
     refine AnyE.Al hs2 (by cbv<;>rfl) (by cbv<;>rfl) ?_
     refine AnyE.run tok hO (by rfl) (by cbv<;>rfl) (by trivial) ?_
     refine AnyE.Al hday2 (by cbv<;>rfl) (by cbv<;>rfl) ?_
     refine AnyE.run tok hO (by rfl) (by cbv<;>rfl) (by trivial) ?_
     refine AnyE.Al hbd2 (by cbv<;>rfl) (by cbv<;>rfl) ?_
     refine AnyE.run tok hO (by rfl) (by cbv<;>rfl) (by trivial) ?_
     refine AnyE.Cu tok hO (by cbv<;>rfl) (by cbv<;>rfl) (by trivial) ?_ ?_
     ·exact(by repeat (first|exact trivial|refine And.intro (by first|exact Ba hO (by cbv<;>rfl) (by trivial)|(cbv<;>rfl)) ?_))
     refine AnyE.run tok hO (by rfl) (by cbv<;>rfl) (by trivial) ?_
     exact⟨rfl,_,rfl,⟨rfl,rfl,rfl,rfl,trivial⟩,rfl⟩
   clear g2 g5 g9 g11
   obtain⟨rfl,g,rfl,⟨g5,g9,g11,g13,_⟩,rfl⟩:=hm
   simp only at g5 g9 g11 g13
   rw[←Am g5,←Am g9,←Am g11,←Am g13]
   generalize (nZ:List AV)=C2
   show SW _ _ _ _ _ _
   refine SW.Ab tok hO (by cbv<;>rfl) (by trivial) ?_
   repeat' first
    | (refine Ac.Bs (by cbv<;>rfl) (fun h=>?_) (fun h=>?_)<;>refine Ac.run tok hO (by cbv<;>rfl) (by trivial) ?_)
    | (refine Ac.Al haw (by first|(cbv;done)|(cbv;rfl)) ?_;refine Ac.run tok hO (by cbv<;>rfl) (by trivial) ?_)
    | (refine Ac.Al hbits (by first|(cbv;done)|(cbv;rfl)) ?_;refine Ac.run tok hO (by cbv<;>rfl) (by trivial) ?_)
    | (refine Ac.Al hsh (by first|(cbv;done)|(cbv;rfl)) ?_;refine Ac.run tok hO (by cbv<;>rfl) (by trivial) ?_)
   all_goals first
    | exact SW.ret ⟨_,_,rfl,rfl,Eqv.refl _⟩
    | (exfalso;subst hO;simp_all [std];done)
  ·obtain⟨X2,Y2,Z2,p2,q2,r2,s2,t2,u2,v2,w2,hbd2⟩:=Rn d2 hsm2 hc2 hout
   have hSH:=hout2 hout
   rw[hSH] at hsh
   refine SW.seq ((show SW Try.prog none _ (lJ 118 [(5,Ak N false fl),(9,iV o),(11,iV 0),(13,iV 0)] ⟨[(2,.cells none false [.isl d2.nw 2 false X2,.isl d2.nw 2 false Y2,.isl d2.nw 2 false Z2,iV p2,iV q2,iV r2,iV s2,iV t2,iV u2,iV v2,iV w2]),(1,.cells none false C1),(0,.cells none false (Ex d))],3⟩) _ _ from ?_).mono fun e f st hm=>?_)
   ·skip
    refine SW.runD tok mixed hO (by kernel_rfl) (by cbv<;>rfl) (by trivial) ?_
    refine AnyE.many [2,11] (by cbv<;>rfl) (by rfl) ⟨?_,?_,trivial⟩
    ·refine Ch.Iz hfull (by cbv<;>rfl) (by cbv<;>rfl) ?_ ?_
     ·exact(by repeat (first|exact trivial|refine And.intro (by first|exact Ba hO (by cbv<;>rfl) (by trivial)|(cbv<;>rfl)) ?_))
     refine AnyE.run tok hO (by rfl) (by cbv<;>rfl) (by trivial) ?_
     refine AnyE.many [5,11] (by cbv<;>rfl) (by rfl) ⟨?_,?_,trivial⟩
     ·refine Ch.Iz hs2 (by cbv<;>rfl) (by cbv<;>rfl) ?_ ?_
      ·exact(by repeat (first|exact trivial|refine And.intro (by first|exact Ba hO (by cbv<;>rfl) (by trivial)|(cbv<;>rfl)) ?_))
      refine AnyE.run tok hO (by rfl) (by cbv<;>rfl) (by trivial) ?_
      refine AnyE.many [6,11] (by cbv<;>rfl) (by rfl) ⟨?_,?_,trivial⟩
      ·refine Ch.Iz hday2 (by cbv<;>rfl) (by cbv<;>rfl) ?_ ?_
       ·exact(by repeat (first|exact trivial|refine And.intro (by first|exact Ba hO (by cbv<;>rfl) (by trivial)|(cbv<;>rfl)) ?_))
       refine AnyE.run tok hO (by rfl) (by cbv<;>rfl) (by trivial) ?_
       refine AnyE.many [7,11] (by cbv<;>rfl) (by rfl) ⟨?_,?_,trivial⟩
       ·refine Ch.Iz hbd2 (by cbv<;>rfl) (by cbv<;>rfl) ?_ ?_
        ·exact(by repeat (first|exact trivial|refine And.intro (by first|exact Ba hO (by cbv<;>rfl) (by trivial)|(cbv<;>rfl)) ?_))
        refine AnyE.run tok hO (by rfl) (by cbv<;>rfl) (by trivial) ?_
        refine AnyE.Cu tok hO (by cbv<;>rfl) (by cbv<;>rfl) (by trivial) ?_ ?_
        ·exact(by repeat (first|exact trivial|refine And.intro (by first|exact Ba hO (by cbv<;>rfl) (by trivial)|(cbv<;>rfl)) ?_))
        refine AnyE.run tok hO (by rfl) (by cbv<;>rfl) (by trivial) ?_
        refine AnyE.Cu tok hO (by cbv<;>rfl) (by cbv<;>rfl) (by trivial) ?_ ?_
        ·exact(by repeat (first|exact trivial|refine And.intro (by first|exact Ba hO (by cbv<;>rfl) (by trivial)|(cbv<;>rfl)) ?_))
        refine AnyE.run tok hO (by rfl) (by cbv<;>rfl) (by trivial) ?_
        exact⟨rfl,_,rfl,⟨rfl,rfl,rfl,rfl,trivial⟩,rfl⟩
       ·refine Ch.eff tok hO (by cbv<;>rfl) (by cbv<;>rfl) (by trivial) ?_ ?_
        ·exact(by repeat (first|exact trivial|refine And.intro (by first|exact Ba hO (by cbv<;>rfl) (by trivial)|(cbv<;>rfl)) ?_))
        refine AnyE.run tok hO (by rfl) (by cbv<;>rfl) (by trivial) ?_
        refine AnyE.Al hbd2 (by cbv<;>rfl) (by cbv<;>rfl) ?_
        refine AnyE.run tok hO (by rfl) (by cbv<;>rfl) (by trivial) ?_
        refine AnyE.Cu tok hO (by cbv<;>rfl) (by cbv<;>rfl) (by trivial) ?_ ?_
        ·exact(by repeat (first|exact trivial|refine And.intro (by first|exact Ba hO (by cbv<;>rfl) (by trivial)|(cbv<;>rfl)) ?_))
        refine AnyE.run tok hO (by rfl) (by cbv<;>rfl) (by trivial) ?_
        exact⟨rfl,_,rfl,⟨rfl,rfl,rfl,rfl,trivial⟩,rfl⟩
      ·refine Ch.eff tok hO (by cbv<;>rfl) (by cbv<;>rfl) (by trivial) ?_ ?_
       ·exact(by repeat (first|exact trivial|refine And.intro (by first|exact Ba hO (by cbv<;>rfl) (by trivial)|(cbv<;>rfl)) ?_))
       refine AnyE.run tok hO (by rfl) (by cbv<;>rfl) (by trivial) ?_
       refine AnyE.Al hday2 (by cbv<;>rfl) (by cbv<;>rfl) ?_
       refine AnyE.run tok hO (by rfl) (by cbv<;>rfl) (by trivial) ?_
       refine AnyE.Al hbd2 (by cbv<;>rfl) (by cbv<;>rfl) ?_
       refine AnyE.run tok hO (by rfl) (by cbv<;>rfl) (by trivial) ?_
       refine AnyE.Cu tok hO (by cbv<;>rfl) (by cbv<;>rfl) (by trivial) ?_ ?_
       ·exact(by repeat (first|exact trivial|refine And.intro (by first|exact Ba hO (by cbv<;>rfl) (by trivial)|(cbv<;>rfl)) ?_))
       refine AnyE.run tok hO (by rfl) (by cbv<;>rfl) (by trivial) ?_
       exact⟨rfl,_,rfl,⟨rfl,rfl,rfl,rfl,trivial⟩,rfl⟩
     ·refine Ch.eff tok hO (by cbv<;>rfl) (by cbv<;>rfl) (by trivial) ?_ ?_
      ·exact(by repeat (first|exact trivial|refine And.intro (by first|exact Ba hO (by cbv<;>rfl) (by trivial)|(cbv<;>rfl)) ?_))
      refine AnyE.run tok hO (by rfl) (by cbv<;>rfl) (by trivial) ?_
      refine AnyE.Al hs2 (by cbv<;>rfl) (by cbv<;>rfl) ?_
      refine AnyE.run tok hO (by rfl) (by cbv<;>rfl) (by trivial) ?_
      refine AnyE.Al hday2 (by cbv<;>rfl) (by cbv<;>rfl) ?_
      refine AnyE.run tok hO (by rfl) (by cbv<;>rfl) (by trivial) ?_
      refine AnyE.Al hbd2 (by cbv<;>rfl) (by cbv<;>rfl) ?_
      refine AnyE.run tok hO (by rfl) (by cbv<;>rfl) (by trivial) ?_
      refine AnyE.Cu tok hO (by cbv<;>rfl) (by cbv<;>rfl) (by trivial) ?_ ?_
      ·exact(by repeat (first|exact trivial|refine And.intro (by first|exact Ba hO (by cbv<;>rfl) (by trivial)|(cbv<;>rfl)) ?_))
      refine AnyE.run tok hO (by rfl) (by cbv<;>rfl) (by trivial) ?_
      exact⟨rfl,_,rfl,⟨rfl,rfl,rfl,rfl,trivial⟩,rfl⟩
    ·refine Ch.eff tok hO (by cbv<;>rfl) (by cbv<;>rfl) (by trivial) ?_ ?_
     ·exact(by repeat (first|exact trivial|refine And.intro (by first|exact Ba hO (by cbv<;>rfl) (by trivial)|(cbv<;>rfl)) ?_))
     refine AnyE.run tok hO (by rfl) (by cbv<;>rfl) (by trivial) ?_
     refine AnyE.Al hfull (by cbv<;>rfl) (by cbv<;>rfl) ?_
     refine AnyE.run tok hO (by rfl) (by cbv<;>rfl) (by trivial) ?_
     refine AnyE.Al hs2 (by cbv<;>rfl) (by cbv<;>rfl) ?_
     refine AnyE.run tok hO (by rfl) (by cbv<;>rfl) (by trivial) ?_
     refine AnyE.Al hday2 (by cbv<;>rfl) (by cbv<;>rfl) ?_
     refine AnyE.run tok hO (by rfl) (by cbv<;>rfl) (by trivial) ?_
     refine AnyE.Al hbd2 (by cbv<;>rfl) (by cbv<;>rfl) ?_
     refine AnyE.run tok hO (by rfl) (by cbv<;>rfl) (by trivial) ?_
     refine AnyE.Cu tok hO (by cbv<;>rfl) (by cbv<;>rfl) (by trivial) ?_ ?_
     ·exact(by repeat (first|exact trivial|refine And.intro (by first|exact Ba hO (by cbv<;>rfl) (by trivial)|(cbv<;>rfl)) ?_))
     refine AnyE.run tok hO (by rfl) (by cbv<;>rfl) (by trivial) ?_
     exact⟨rfl,_,rfl,⟨rfl,rfl,rfl,rfl,trivial⟩,rfl⟩
   clear g2 g5 g9 g11
   obtain⟨rfl,g,rfl,⟨g5,g9,g11,g13,_⟩,rfl⟩:=hm
   simp only at g5 g9 g11 g13
   rw[←Am g5,←Am g9,←Am g11,←Am g13]
   generalize [.isl d2.nw 2 false X2,.isl d2.nw 2 false Y2,.isl d2.nw 2 false Z2,iV p2,iV q2,iV r2,iV s2,iV t2,iV u2,iV v2,iV w2]=C2
   show SW _ _ _ _ _ _
   refine SW.Ab tok hO (by cbv<;>rfl) (by trivial) ?_
   repeat' first
    | (refine Ac.Bs (by cbv<;>rfl) (fun h=>?_) (fun h=>?_)<;>refine Ac.run tok hO (by cbv<;>rfl) (by trivial) ?_)
    | (refine Ac.Al haw (by first|(cbv;done)|(cbv;rfl)) ?_;refine Ac.run tok hO (by cbv<;>rfl) (by trivial) ?_)
    | (refine Ac.Al hbits (by first|(cbv;done)|(cbv;rfl)) ?_;refine Ac.run tok hO (by cbv<;>rfl) (by trivial) ?_)
    | (refine Ac.Al hsh (by first|(cbv;done)|(cbv;rfl)) ?_;refine Ac.run tok hO (by cbv<;>rfl) (by trivial) ?_)
   all_goals first
    | exact SW.ret ⟨_,_,rfl,rfl,Eqv.refl _⟩
    | (exfalso;subst hO;simp_all [std];done)
end Go.Fz
