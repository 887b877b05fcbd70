/- Own work of the verifier of watercress: FzB12. -/
import Derived.Test.YtpefamheopplnaaMc30
set_option linter.unusedVariables false
set_option linter.unusedSimpArgs false
namespace Go.Fz
open Go.Proofs
set_option maxRecDepth 100000
def Ah.Nl (d:Ah)(i:Nat):Bool:=inB (d.lw i) 0 ((d.nw:Int)-1)&&Cl (d.llo i) (d.lhi i) 0 5000
def Ah.cE (d:Ah)(i:Nat):Bool:=Cl (d.wlo i) (d.whi i) 1 60
def Ah.Ly (d:Ah):Bool:=inB d.hand 1 20&&inB d.flat 1 20&&decide (0<d.nw)&&Dh d.nw d.cE&&Dh d.nl d.Nl&&Dh d.nc d.Rv
def Ah.Gg (d:Ah):Int:=if d.Hn then 3 else if d.Ly then(if 2000<d.Mm d.nl then 3 else 0) else 1
set_option maxHeartbeats 8000000 in
theorem bG (d:Ah)(hs:d.small):Pure Try.prog 54 [Di d] (iV d.Gg):=by
 obtain⟨O,hO⟩:∃ O:Ar,O=std:=⟨_,rfl⟩
 have hs':=hs
 obtain⟨hsw,hsl,hsc⟩:=hs
 have hnot:∀ b,O.not b=!b:=fun b=>by subst hO;rfl
 have hnat:∀ i:Nat,O.nat (Int.ofNat i)=i:=fun i=>by subst hO;rfl
 have Hn:d.Hn=true→∀ (v:AV)(h:Hp),v=iV 3→Eqv (frz h (fun _=>true) 3 v) (iV d.Gg):=fun hl v h hv=>by
  subst hv;unfold Ah.Gg;rw[if_pos hl];exact Eqv.refl _
 have bad:d.Hn=false→d.Ly=false→∀ (v:AV)(h:Hp),v=iV 1→Eqv (frz h (fun _=>true) 3 v) (iV d.Gg):=fun hl hv v h he=>by
  subst he;unfold Ah.Gg;rw[if_neg (by rw[hl];simp),if_neg (by rw[hv];simp)];exact Eqv.refl _
 refine Ae tok 3 Try.func54 uA rfl ⟨Ax d,trivial⟩ Below.lit ?_
 refine SW.Ab tok hO (by cbv<;>rfl) (by trivial) ?_
 refine SW.seq ?_
 refine SW.Ab tok hO (by cbv<;>rfl) (by trivial) ?_
 have hlong:(4<d.nw∨4<d.nl∨5<d.nc)→d.Hn=true:=fun h=>by
  simp only [Ah.Hn,Bool.or_eq_true,decide_eq_true_eq];omega
 refine Ac.Bs (by cbv<;>rfl) (fun h1=>?_) (fun h1=>?_)<;>refine Ac.run tok hO (by cbv<;>rfl) (by trivial) ?_
 ·refine SW.cond (t:=true) (by cbv<;>rfl) ?_
  refine SW.Ab tok hO (by cbv<;>rfl) (by trivial) ?_
  refine SW.ret ⟨_,_,rfl,rfl,Hn (hlong (.inl ?_)) _ _ rfl⟩
  have:(4:Int)<d.nw:=by subst hO;simpa[std] using h1
  omega
 have k1':(d.nw:Int)≤4:=by subst hO;simpa[std] using h1
 have k1:d.nw≤4:=by omega
 refine Ac.Bs (by cbv<;>rfl) (fun h2=>?_) (fun h2=>?_)<;>refine Ac.run tok hO (by cbv<;>rfl) (by trivial) ?_
 ·refine SW.cond (t:=true) (by cbv<;>rfl) ?_
  refine SW.Ab tok hO (by cbv<;>rfl) (by trivial) ?_
  refine SW.ret ⟨_,_,rfl,rfl,Hn (hlong (.inr (.inl ?_))) _ _ rfl⟩
  have:(4:Int)<d.nl:=by subst hO;simpa[std] using h2
  omega
 have k2':(d.nl:Int)≤4:=by subst hO;simpa[std] using h2
 have k2:d.nl≤4:=by omega
 refine SW.Bd (by cbv<;>rfl) (fun h3=>?_) (fun h3=>SW.skip ?_)
 ·refine SW.Ab tok hO (by cbv<;>rfl) (by trivial) ?_
  refine SW.ret ⟨_,_,rfl,rfl,Hn (hlong (.inr (.inr ?_))) _ _ rfl⟩
  have:(5:Int)<d.nc:=by subst hO;simpa[std] using h3
  omega
 have k3':(d.nc:Int)≤5:=by subst hO;simpa[std] using h3
 have k3:d.nc≤5:=by omega
 have hl:d.Hn=false:=by
  simp only [Ah.Hn,Bool.or_eq_false_iff,decide_eq_false_iff_not];omega
 clear h1 h2 h3
 have c1:=aV d.hand 1 20
 have c2:=aV d.flat 1 20
 have hva:d.Ly=(inB d.hand 1 20&&inB d.flat 1 20&&decide (0<d.nw)&&Dh d.nw d.cE&&Dh d.nl d.Nl&&Dh d.nc d.Rv):=rfl
 generalize inB d.hand 1 20=p1 at c1 hva
 generalize inB d.flat 1 20=p2 at c2 hva
 refine SW.seq ?_
 refine SW.Ab tok hO (by cbv<;>rfl) (by trivial) ?_
 refine Ac.Al c1 (by cbv<;>rfl) ?_
 refine Ac.run tok hO (by cbv<;>rfl) (by trivial) ?_
 refine Ac.Bs (by cbv<;>rfl) (fun h1=>?_) (fun h1=>?_)<;>refine Ac.run tok hO (by cbv<;>rfl) (by trivial) ?_
 ·refine SW.cond (t:=true) (by cbv<;>rfl) ?_
  refine SW.Ab tok hO (by cbv<;>rfl) (by trivial) ?_
  refine SW.ret ⟨_,_,rfl,rfl,bad hl ?_ _ _ rfl⟩
  rw[hva,show p1=false by simpa using (hnot p1).symm.trans h1];rfl
 obtain rfl:p1=true:=by simpa using (hnot p1).symm.trans h1
 refine Ac.Al c2 (by cbv<;>rfl) ?_
 refine Ac.run tok hO (by cbv<;>rfl) (by trivial) ?_
 refine Ac.Bs (by cbv<;>rfl) (fun h2=>?_) (fun h2=>?_)<;>refine Ac.run tok hO (by cbv<;>rfl) (by trivial) ?_
 ·refine SW.cond (t:=true) (by cbv<;>rfl) ?_
  refine SW.Ab tok hO (by cbv<;>rfl) (by trivial) ?_
  refine SW.ret ⟨_,_,rfl,rfl,bad hl ?_ _ _ rfl⟩
  rw[hva,show p2=false by simpa using (hnot p2).symm.trans h2];rfl
 obtain rfl:p2=true:=by simpa using (hnot p2).symm.trans h2
 refine SW.Bd (by cbv<;>rfl) (fun h1=>?_) (fun h1=>SW.skip ?_)
 ·refine SW.Ab tok hO (by cbv<;>rfl) (by trivial) ?_
  refine SW.ret ⟨_,_,rfl,rfl,bad hl ?_ _ _ rfl⟩
  have:d.nw=0:=by
   have:(d.nw:Int)=0:=by subst hO;simpa[std] using h1
   omega
  rw[hva];simp[this]
 have hpos:0<d.nw:=by
  have:¬ (d.nw:Int)=0:=by subst hO;simpa[std] using h1
  omega
 refine SW.seq ?_
 refine SW.Ab tok hO (by cbv<;>rfl) (by trivial) ?_
 refine(SW.block (SW.Gu (fun i:Nat=>⟨⟨99,getT [(1,.ptr 0 0),(3,iV i)]⟩,[]⟩) (fun _=>⟨[(0,.cells none false (Ex d))],1⟩) (fun i=>d.nw-i) (fun i=>i≤d.nw∧∀ j,j<i→d.cE j=true) 0
  (fun _=>rfl) ⟨Nat.zero_le _,fun j hj=>absurd hj (Nat.not_lt_zero j)⟩ (Cw.by rfl rfl (by simp) (Nat.le_refl _) (Nat.le_refl _) ⟨⟨rfl,.inl rfl⟩,⟨rfl,.inl rfl⟩,trivial⟩ ⟨⟨rfl,by omega,.inl rfl⟩,trivial⟩) fun i ⟨hi,hall⟩=>?_))
 refine SW.seq ?_
 refine SW.Ab tok hO (by cbv<;>rfl) (by trivial) ?_
 refine SW.Bd (by cbv<;>rfl) (fun h=>SW.skip ?_) (fun h=>SW.exit ?_)
 ·have hlt:i<d.nw:=by subst hO;simpa[std] using h
  have h0:(0:Int)≤Int.ofNat i:=Int.natCast_nonneg i
  refine SW.seq (SW.block ?_)
  refine SW.Ab tok hO (by cbv<;>rfl) ?_ ?_
  ·exact⟨h0,Int.ofNat_lt.2 hlt⟩
  refine Ac.Ey (Lw (d.wlo (O.nat (Int.ofNat i))) (d.whi (O.nat (Int.ofNat i))) 1 60) (by cbv<;>rfl) fun b1 hb1=>?_
  rw[hnat] at hb1
  have hbw:b1=d.cE i:=hb1
  refine Ac.run tok hO (by cbv<;>rfl) (by trivial) ?_
  refine SW.Bd (by cbv<;>rfl) (fun h4=>?_) (fun h4=>SW.skip ?_)
  ·have hb:d.cE i=false:=by rw[←hbw];simpa using (hnot b1).symm.trans h4
   refine SW.Ab tok hO (by cbv<;>rfl) (by trivial) ?_
   refine SW.ret ⟨_,_,rfl,rfl,bad hl ?_ _ _ rfl⟩
   rw[hva,Ls hlt hb];simp
  ·have hb:d.cE i=true:=by rw[←hbw];simpa using (hnot b1).symm.trans h4
   refine SW.run tok hO (by cbv<;>rfl) (by trivial) ?_
   refine⟨i+1,by omega,⟨by omega,fun j hj=>?_⟩,Cw.by rfl rfl (by simp) (Nat.le_refl _) (Nat.le_refl _) ⟨⟨rfl,.inl rfl⟩,⟨Dp hO (by omega),.inl rfl⟩,trivial⟩ ⟨⟨rfl,by omega,.inl rfl⟩,trivial⟩⟩
   rcases Nat.lt_succ_iff_lt_or_eq.1 hj with hj|rfl
   ·exact hall j hj
   ·exact hb
 have hge:d.nw≤i:=by subst hO;simpa[std] using h
 have hwom:Dh d.nw d.cE=true:=Ih fun j hj=>hall j (by omega)
 refine SW.seq ?_
 refine SW.Ab tok hO (by cbv<;>rfl) (by trivial) ?_
 refine(SW.block (SW.Gu (fun i:Nat=>⟨⟨99,getT [(1,.ptr 0 0),(4,iV i)]⟩,[]⟩) (fun _=>⟨[(0,.cells none false (Ex d))],1⟩) (fun i=>d.nl-i) (fun i=>i≤d.nl∧∀ j,j<i→d.Nl j=true) 0
  (fun _=>rfl) ⟨Nat.zero_le _,fun j hj=>absurd hj (Nat.not_lt_zero j)⟩ (Cw.by rfl rfl (by simp) (Nat.le_refl _) (Nat.le_refl _) ⟨⟨rfl,.inl rfl⟩,⟨rfl,.inl rfl⟩,trivial⟩ ⟨⟨rfl,by omega,.inl rfl⟩,trivial⟩) fun i ⟨hi,hall⟩=>?_))
 refine SW.seq ?_
 refine SW.Ab tok hO (by cbv<;>rfl) (by trivial) ?_
 refine SW.Bd (by cbv<;>rfl) (fun h=>SW.skip ?_) (fun h=>SW.exit ?_)
 ·have hlt:i<d.nl:=by subst hO;simpa[std] using h
  have h0:(0:Int)≤Int.ofNat i:=Int.natCast_nonneg i
  have badb:d.Nl i=false→d.Ly=false:=fun hb=>by rw[hva,Ls hlt hb];simp
  have nextb:d.Nl i=true→∀ j,j<i+1→d.Nl j=true:=fun hb j hj=>by
   rcases Nat.lt_succ_iff_lt_or_eq.1 hj with hj|rfl
   ·exact hall j hj
   ·exact hb
  refine SW.seq (SW.block ?_)
  refine SW.Bv tok mixed hO (by rfl) (by cbv<;>rfl) ?_ ?_
  ·exact⟨h0,Int.ofNat_lt.2 hlt⟩
  refine AnyE.nT (aV (d.lw (O.nat (Int.ofNat i))) 0 (O.bin .sub .i64 (Int.ofNat d.nw) 1)) (by cbv<;>rfl) (by cbv<;>rfl) (fun h1=>?_) (fun h1=>?_)
  ·rw[hnat,Ww hO hsw] at h1
   refine AnyE.run tok hO (by rfl) (by cbv<;>rfl) ?_ ?_
   ·exact⟨h0,Int.ofNat_lt.2 hlt⟩
   refine AnyE.nT (Lw (d.llo (O.nat (Int.ofNat i))) (d.lhi (O.nat (Int.ofNat i))) 0 5000) (by cbv<;>rfl) (by cbv<;>rfl) (fun h2=>?_) (fun h2=>?_)
   ·rw[hnat] at h2
    have hb:d.Nl i=true:=by simp only [Ah.Nl,h1,h2,Bool.and_self]
    refine AnyE.run tok hO (by rfl) (by cbv<;>rfl) (by trivial) ?_
    refine SW.cond (t:=false) (by cbv<;>rfl) (SW.skip ?_)
    refine SW.run tok hO (by cbv<;>rfl) (by trivial) ?_
    exact⟨i+1,by omega,⟨by omega,nextb hb⟩,Cw.by rfl rfl (by simp) (Nat.le_refl _) (Nat.le_refl _) ⟨⟨rfl,.inl rfl⟩,⟨Dp hO (by omega),.inl rfl⟩,trivial⟩ ⟨⟨rfl,by omega,.inl rfl⟩,trivial⟩⟩
   ·rw[hnat] at h2
    have hb:d.Nl i=false:=by simp only [Ah.Nl,h2,Bool.and_false]
    refine AnyE.run tok hO (by rfl) (by cbv<;>rfl) (by trivial) ?_
    refine SW.cond (t:=true) (by cbv<;>rfl) ?_
    refine SW.Ab tok hO (by cbv<;>rfl) (by trivial) ?_
    exact SW.ret ⟨_,_,rfl,rfl,bad hl (badb hb) _ _ rfl⟩
  ·rw[hnat,Ww hO hsw] at h1
   have hb:d.Nl i=false:=by simp only [Ah.Nl,h1,Bool.false_and]
   refine AnyE.run tok hO (by rfl) (by cbv<;>rfl) (by trivial) ?_
   refine SW.cond (t:=true) (by cbv<;>rfl) ?_
   refine SW.Ab tok hO (by cbv<;>rfl) (by trivial) ?_
   exact SW.ret ⟨_,_,rfl,rfl,bad hl (badb hb) _ _ rfl⟩
 have hge:d.nl≤i:=by subst hO;simpa[std] using h
 have hlot:Dh d.nl d.Nl=true:=Ih fun j hj=>hall j (by omega)
 refine SW.seq ?_
 refine SW.Ab tok hO (by cbv<;>rfl) (by trivial) ?_
 refine(SW.block (SW.Gu (fun i:Nat=>⟨⟨99,getT [(1,.ptr 0 0),(5,iV i)]⟩,[]⟩) (fun _=>⟨[(0,.cells none false (Ex d))],1⟩) (fun i=>d.nc-i) (fun i=>i≤d.nc∧∀ j,j<i→d.Rv j=true) 0
  (fun _=>rfl) ⟨Nat.zero_le _,fun j hj=>absurd hj (Nat.not_lt_zero j)⟩ (Cw.by rfl rfl (by simp) (Nat.le_refl _) (Nat.le_refl _) ⟨⟨rfl,.inl rfl⟩,⟨rfl,.inl rfl⟩,trivial⟩ ⟨⟨rfl,by omega,.inl rfl⟩,trivial⟩) fun i ⟨hi,hall⟩=>?_))
 refine SW.seq ?_
 refine SW.Ab tok hO (by cbv<;>rfl) (by trivial) ?_
 refine SW.Bd (by cbv<;>rfl) (fun h=>SW.skip ?_) (fun h=>SW.exit ?_)
 ·have hlt:i<d.nc:=by subst hO;simpa[std] using h
  have h0:(0:Int)≤Int.ofNat i:=Int.natCast_nonneg i
  have badb:d.Rv i=false→d.Ly=false:=fun hb=>by rw[hva,Ls hlt hb];simp
  have nextb:d.Rv i=true→∀ j,j<i+1→d.Rv j=true:=fun hb j hj=>by
   rcases Nat.lt_succ_iff_lt_or_eq.1 hj with hj|rfl
   ·exact hall j hj
   ·exact hb
  have call:=aO d hs' i
  rw[←hnat i] at call
  unfold Vk at call
  refine SW.seq (SW.block ?_)
  refine SW.Bv tok mixed hO (by rfl) (by cbv<;>rfl) ?_ ?_
  ·exact⟨h0,Int.ofNat_lt.2 hlt⟩
  refine AnyE.nT call (by cbv<;>rfl) (by cbv<;>rfl) (fun h1=>?_) (fun h1=>?_)
  ·rw[hnat] at h1
   refine AnyE.run tok hO (by rfl) (by cbv<;>rfl) (by trivial) ?_
   refine SW.cond (t:=false) (by cbv<;>rfl) (SW.skip ?_)
   refine SW.run tok hO (by cbv<;>rfl) (by trivial) ?_
   exact⟨i+1,by omega,⟨by omega,nextb h1⟩,Cw.by rfl rfl (by simp) (Nat.le_refl _) (Nat.le_refl _) ⟨⟨rfl,.inl rfl⟩,⟨Dp hO (by omega),.inl rfl⟩,trivial⟩ ⟨⟨rfl,by omega,.inl rfl⟩,trivial⟩⟩
  ·rw[hnat] at h1
   refine AnyE.run tok hO (by rfl) (by cbv<;>rfl) (by trivial) ?_
   refine SW.cond (t:=true) (by cbv<;>rfl) ?_
   refine SW.Ab tok hO (by cbv<;>rfl) (by trivial) ?_
   exact SW.ret ⟨_,_,rfl,rfl,bad hl (badb h1) _ _ rfl⟩
 have hge:d.nc≤i:=by subst hO;simpa[std] using h
 have hcnt:Dh d.nc d.Rv=true:=Ih fun j hj=>hall j (by omega)
 have hv:d.Ly=true:=by rw[hva,hwom,hlot,hcnt];simp[hpos]
 refine SW.seq ?_
 refine SW.Ab tok hO (by cbv<;>rfl) (by trivial) ?_
 refine Ac.Rm (fM d hs') (by cbv<;>rfl) fun n hn=>?_
 refine Ac.run tok hO (by cbv<;>rfl) (by trivial) ?_
 refine SW.Bd (by cbv<;>rfl) (fun h3=>?_) (fun h3=>SW.skip ?_)
 ·refine SW.Ab tok hO (by cbv<;>rfl) (by trivial) ?_
  have:2000<d.Mm d.nl:=by subst hO;simpa[std,hn] using h3
  refine SW.ret ⟨_,_,rfl,rfl,Eqv.int ?_⟩
  simp[Ah.Gg,hl,hv,this]
 ·have:¬ 2000<d.Mm d.nl:=by subst hO;simpa[std,hn] using h3
  refine SW.Ab tok hO (by cbv<;>rfl) (by trivial) ?_
  refine SW.ret ⟨_,_,rfl,rfl,Eqv.int ?_⟩
  simp[Ah.Gg,hl,hv,this]
end Go.Fz
