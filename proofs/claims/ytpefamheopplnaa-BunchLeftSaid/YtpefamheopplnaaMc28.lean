/- Own work of the verifier of watercress: FzB4, FzB5, FzB6, FzB7, FzB8. -/
import Derived.Test.YtpefamheopplnaaMc27
set_option linter.unusedVariables false
set_option linter.unusedSimpArgs false
namespace Go.Fz
open Go.Proofs
set_option maxRecDepth 100000
theorem Bu.upD {n0 r m:Nat}{f1:Fm}{st1:St}{l:List (Nat × AV)}{len:Nat}{dm:List Nat}{hl:Hp}{n2:Nat}(e1:len=f1.ts.len)(e2:dm=f1.dm)(e3:∀ id∈dm,id<n0)(hr:n0≤r)(hm:∀ p∈hl,p.1≠m)(lo:n0≤n2)
  (get:Hl (fun p=>Ad (Du r m) n2 p.2 (f1.ts.get p.1)) l)(obj:Hl (fun p=>p.1<n2∧∃ o1,st1.h.get (Du r m p.1)=some o1∧Hc (Du r m) n2 p.2 o1∧(p.1=r∨o1.fam=none)) hl) :
  Bu n0 (Du r m) f1 st1 ⟨⟨len,getT l⟩,dm⟩ ⟨hl,n2⟩:=by
 refine Bu.of (m:=r) e1 e2 e3 (fun j hj=>Hd (by omega)) lo get.ok obj.ok fun p hp q hq h=>?_
 have h1:=hm p hp
 have h2:=hm q hq
 by_cases hpr:p.1=r
 ·by_cases hqr:q.1=r
  ·rw[hpr,hqr]
  ·rw[hpr,Sf,Hd hqr] at h;exact absurd h.symm h2
 ·by_cases hqr:q.1=r
  ·rw[hqr,Sf,Hd hpr] at h;exact absurd h h1
  ·rw[Hd hpr,Hd hqr] at h;exact h
theorem Ad.inc {O:Ar}(hO:O=std){ρ:Nat→Nat}{n i:Nat}(h:i<4611686018427387904):Ad ρ n (iV ((i+1:Nat):Int)) (.lit (.int .i64 (O.bin .add .i64 (Int.ofNat i) 1))):=by
 rw[Dp hO h];exact Ad.closed Below.lit
theorem Dq {h:Hp}{D:Nat→Bool}{id sz n:Nat}{fm:Option Nat}{G:List AV}(hd:D id=true)(hg:h.get id=some (.cells fm false G))(hl:n*sz≤G.length) :
  frz h D 3 (.sl id 0 n sz false)=.isl n sz false (fun i k=>frz h D 2 (G.getD (0+i*sz+k) .any)):=by
 show(if D id=true then(match h.get id with|some (.cells _ false cs)=>if 0+n*sz≤cs.length then AV.isl n sz false (fun i k=>frz h D 2 (cs.getD (0+i*sz+k) .any)) else .any|_=>.any) else _)=_
 rw[if_pos hd,hg]
 exact if_pos (by omega)
theorem Eb {h:Hp}{D:Nat→Bool}{sz n i k:Nat}{g:Nat→Nat→AV}(hi:i<n)(hk:k<sz)(hz:frz h D 2 (g i k)=g i k):frz h D 2 ((flatG sz g n).getD (0+i*sz+k) .any)=g i k:=by
 rw[List.getD_eq_getElem?_getD,show 0+i*sz+k=i*sz+k by omega,Ft sz g n i k hi hk];exact hz
def Kc (d:Ah)(i k:Nat):AV:=if i<d.nw then womC d i k else lotC d (i-d.nw) (k+1)
theorem jZ (d:Ah)(i k:Nat):(womC d i k).one=true:=by unfold womC;split<;>rfl
theorem Ny (d:Ah)(i k:Nat):Below 0 (womC d i k):=by unfold womC;split<;>exact Below.lit
theorem Ol (d:Ah)(i k:Nat):Below 0 (lotC d i k):=by unfold lotC;split<;>exact Below.lit
theorem Ob (d:Ah)(i k:Nat):Below 0 (Kc d i k):=by unfold Kc;split;exact Ny d i k;exact Ol d _ _
theorem Az {sz:Nat}{g:Nat→Nat→AV}(h:∀ i k,Below 0 (g i k)):∀ n,∀ a∈flatG sz g n,Below 0 a
 | 0,a,ha=>by cases ha
 | n+1,a,ha=>by
  simp only [flatG,List.mem_append] at ha
  rcases ha with ha|ha
  ·exact Az h n a ha
  ·obtain⟨i,hi⟩:=List.mem_iff_getElem?.1 ha
   rw[Ga] at hi
   split at hi
   ·cases hi;exact h n _
   ·cases hi
theorem Fk {sz:Nat}{g g':Nat→Nat→AV}:∀ {n:Nat},(∀ i k,i<n→g i k=g' i k)→flatG sz g n=flatG sz g' n
 | 0,_=>rfl
 | n+1,h=>by
  simp only [flatG]
  rw[Fk (n:=n) fun i k hi=>h i k (by omega),show g n=g' n from funext fun k=>h n k (by omega)]
theorem Qv {sz:Nat}{g:Nat→Nat→AV}(h:∀ i k,(g i k).one=true):∀ n,(flatG sz g n).all AV.one=true
 | 0=>rfl
 | n+1=>by
  simp only [flatG,List.all_append,Qv h n,Bool.true_and]
  rw[List.all_eq_true]
  intro a ha
  obtain⟨i,hi⟩:=List.mem_iff_getElem?.1 ha
  rw[Ga] at hi
  split at hi
  ·cases hi;exact h n _
  ·cases hi
theorem jX (d:Ah)(h0:0<d.nw)(hn:d.nw<1000)(st:St) :
  appendA T st 29 29 (.lit (.slice none 0 0)) (Dj d)=some (.sl st.n 0 d.nw 2 false,st.push (.cells none false (flatG 2 (womC d) d.nw))):=by
 obtain⟨b1,e1⟩:∃ b,T 29=some { desc:=.slice 31,size:=1,bytes:=24,zero:=[.slice none 0 0],flat:=b}:=⟨_,rfl⟩
 obtain⟨ti,e2,e3,e4,e5⟩:∃ ti,T 31=some ti∧ti.size=2∧ti.bytes=16∧ti.zero.length=2:=⟨_,rfl,rfl,rfl,rfl⟩
 have hall:=Qv (sz:=2) (jZ d) d.nw
 unfold appendA
 simp only [e1,e2,slCells,Dj,slLen,e3,e4,e5]
 rw[if_pos ⟨trivial,by decide⟩]
 simp only [Nat.zero_add]
 rw[if_neg (by rw[hall];simp;omega)]
 exact if_neg (by omega)
set_option maxHeartbeats 4000000 in
theorem cF (d:Ah)(h0:0<d.nw)(hw:d.nw≤4)(hl:d.nl≤4):Pure Try.prog 120 [Di d] (.isl (d.nw+d.nl) 2 false (Kc d)):=by
 obtain⟨O,hO⟩:∃ O:Ar,O=std:=⟨_,rfl⟩
 have hnat:∀ i:Nat,O.nat (Int.ofNat i)=i:=fun i=>by subst hO;rfl
 refine Ae tok 3 Try.func120 nD rfl ⟨Ax d,trivial⟩ (Below.isl fun i k _ _=>Ob d i k) ?_
 refine SW.Ab tok hO (by cbv<;>rfl) (by trivial) ?_
 refine SW.Ab tok hO (by cbv<;>rfl) (by trivial) ?_
 refine SW.seq (SW.runN tok hO 3 (by cbv<;>rfl) (by trivial) ?_)
 obtain⟨G0,hG0⟩:∃ G,G=flatG 2 (womC d) d.nw:=⟨_,rfl⟩
 refine Ac.rI (st':=⟨[(1,.cells none false G0),(0,.cells none false (Ex d))],2⟩) tok (by cbv<;>rfl) (by rw[hG0];exact jX d h0 (by omega) _) ?_
 refine Ac.run tok hO (by cbv<;>rfl) (by trivial) ?_
 have hlot:∀ i,i<d.nl→∀ a b,a=d.llo i→b=d.lhi i→flatG 2 (Kc d) (d.nw+i)++[iV a,iV b]=flatG 2 (Kc d) (d.nw+(i+1)):=fun i _ a b ha hb=>by
  show _=flatG 2 (Kc d) (d.nw+i)++cellsFrom (Kc d (d.nw+i)) 0 2
  have e:∀ k,Kc d (d.nw+i) k=lotC d i (k+1):=fun k=>by
   unfold Kc;rw[if_neg (by omega),show d.nw+i-d.nw=i by omega]
  have:cellsFrom (Kc d (d.nw+i)) 0 2=[Kc d (d.nw+i) 0,Kc d (d.nw+i) 1]:=rfl
  rw[this,e,e,ha,hb];rfl
 refine SW.seq (SW.mono (Q:=fun e fm st=>e=.normal∧∃ g A,fm=⟨⟨24,g⟩,[]⟩∧g 3=.isl (d.nw+d.nl) 2 false A∧Eqv (.isl (d.nw+d.nl) 2 false A) (.isl (d.nw+d.nl) 2 false (Kc d))∧st=⟨[(0,.cells none false (Ex d))],3⟩) ?_ ?_)
 ·refine SW.Ab tok hO (by cbv<;>rfl) (by trivial) ?_
  refine(SW.block (SW.Mo (fun i:Nat=>⟨⟨24,getT [(1,.ptr 0 0),(3,.sl 2 0 (d.nw+i) 2 false),(11,Dx d),(12,iV d.nl),(13,iV i)]⟩,[]⟩) (fun i=>⟨[(2,.cells none false (flatG 2 (Kc d) (d.nw+i))),(0,.cells none false (Ex d))],3⟩) (fun i=>d.nl-i) (fun i=>i≤d.nl) 0 (Nat.zero_le _) (Du 2 1) ?_ fun i hi=>?_))
  ·refine Bu.upD rfl rfl (by simp) (by show 2≤2;omega) (by simp) (by show 2≤3;omega) ⟨Ad.ptr (by omega),Ad.sl (by omega),Ad.closed (Bh d),Ad.closed Below.lit,Ad.closed Below.lit,trivial⟩
    ⟨⟨by omega,_,rfl,.cells (Ay.of_eq (hG0.trans (Fk fun i k hi=>by unfold Kc;rw[if_pos (by omega)])) (Az (Ob d) _)),.inl rfl⟩,⟨by omega,_,rfl,.cells (Ay.closed (Bo d)),.inr rfl⟩,trivial⟩
  obtain⟨G,hG⟩:∃ G,G=flatG 2 (Kc d) (d.nw+i):=⟨_,rfl⟩
  rw[←hG]
  obtain⟨N,hN⟩:∃ N,N=d.nw+i:=⟨_,rfl⟩
  rw[←hN] at hG ⊢
  refine SW.Ab tok hO (by cbv<;>rfl) (by trivial) ?_
  refine SW.seq (SW.Bd (by cbv<;>rfl) (fun h=>SW.skip ?_) (fun h=>?_))
  ·have hlt:i<d.nl:=by subst hO;simpa[std] using h
   have hi0:(0:Int)≤Int.ofNat i:=Int.natCast_nonneg i
   refine SW.seq (SW.block ?_)
   refine SW.Ab tok hO (by cbv<;>rfl) ?_ ?_
   ·exact⟨hi0,Int.ofNat_lt.2 hlt⟩
   refine SW.runN tok hO 4 (by cbv<;>rfl) (by trivial) ?_
   refine Ac.Gi (g:=Kc d) tok (by cbv<;>rfl) (by rfl) (by rfl) hG (by kernel_rfl) (by rfl) (by rfl) (by omega) fun G' hG'=>?_
   refine Ac.run tok hO (by cbv<;>rfl) (by trivial) ?_
   refine SW.run tok hO (by cbv<;>rfl) (by trivial) ?_
   refine⟨i+1,by omega,by omega,Du 2 5,?_⟩
   refine Bu.upD rfl rfl (by simp) (by show 2≤2;omega) (by simp) (by show 2≤3;omega) ⟨Ad.ptr (by omega),by rw[show d.nw+(i+1)=N+1 by omega];exact Ad.sl (by omega),Ad.closed (Bh d),Ad.closed Below.lit,Ad.inc hO (by omega),trivial⟩
    ⟨⟨by omega,_,rfl,.cells (Ay.of_eq ((by rw[hN] at hG';exact hG':_=_).trans (hlot i hlt _ _ (by subst hO;rfl) (by subst hO;rfl))) (Az (Ob d) _)),.inl rfl⟩,⟨by omega,_,rfl,.cells (Ay.closed (Bo d)),.inr rfl⟩,trivial⟩
  ·have hz:d.nl=i:=by
    have:d.nl≤i:=by subst hO;simpa[std] using h
    omega
   refine SW.Hx (fun j=>Nat.beq j 2) 3 (by rfl) (SW.exit ⟨rfl,_,(fun i' k=>frz [(2,.cells none false G),(0,.cells none false (Ex d))] (fun j=>Nat.beq j 2) 2 (G.getD (0+i'*2+k) .any)),rfl,?_,?_,rfl⟩)
   ·rw[show d.nw+d.nl=N by omega]
    exact Dq (fm:=none) rfl rfl (by rw[hG,Aq];omega)
   ·refine Eqv.isl rfl fun i' k hi' hk=>?_
    rw[hG]
    exact Eqv.of (Eb (by omega) hk (by unfold Kc womC lotC;(repeat' split);all_goals rfl))
 ·rintro e fm st ⟨rfl,g,A,rfl,hg,hA,rfl⟩
  obtain⟨M,hM⟩:∃ M,M=d.nw+d.nl:=⟨_,rfl⟩
  rw[←hM] at hg hA ⊢
  rw[←Am hg]
  refine SW.Ab tok hO (by cbv<;>rfl) (by trivial) ?_
  exact SW.ret ⟨_,_,rfl,rfl,hA⟩
def rngC (lo hi:Nat→Int)(i k:Nat):AV:=match k with
 | 0=>iV (lo i)
 | _=>iV (hi i)
def Ah.ulo (d:Ah)(i:Nat):Int:=if i<d.nw then d.wlo i else d.llo (i-d.nw)
def Ah.uhi (d:Ah)(i:Nat):Int:=if i<d.nw then d.whi i else d.lhi (i-d.nw)
theorem Re (d:Ah)(h0:0<d.nw)(hw:d.nw≤4)(hl:d.nl≤4):Pure Try.prog 120 [Di d] (.isl (d.nw+d.nl) 2 false (rngC d.ulo d.uhi)) :=
 (cF d h0 hw hl).res (Eqv.isl rfl fun i k hi hk=>Eqv.of (by
  match k,hk with
  | 0,_=>by_cases hc:i<d.nw<;>simp[Kc,rngC,Ah.ulo,Ah.uhi,womC,lotC,hc]
  | 1,_=>by_cases hc:i<d.nw<;>simp[Kc,rngC,Ah.ulo,Ah.uhi,womC,lotC,hc]))
def prN (lo hi:Nat→Int):Nat→Int
 | 0=>1
 | i+1=>Km (prN lo hi i) (Fw (lo i) (hi i))
def Ho (lo hi:Nat→Int)(M:Nat):Bool:=!(Dh M fun i=>decide (prN lo hi (i+1)≤2000))
theorem cJ (d:Ah)(h0:0<d.nw)(hw:d.nw≤4)(hl:d.nl≤4):Pure Try.prog 87 [Di d] (.sb (Ho d.ulo d.uhi (d.nw+d.nl))):=by
 obtain⟨O,hO⟩:∃ O:Ar,O=std:=⟨_,rfl⟩
 have hnat:∀ i:Nat,O.nat (Int.ofNat i)=i:=fun i=>by subst hO;rfl
 have hu:=Re d h0 hw hl
 generalize d.ulo=U at hu
 generalize d.uhi=V at hu
 have hM8:d.nw+d.nl≤8:=by omega
 generalize d.nw+d.nl=M at hu hM8
 refine Ae tok 3 Try.func87 tK rfl ⟨Ax d,trivial⟩ Below.sb ?_
 refine SW.Ab tok hO (by cbv<;>rfl) (by trivial) ?_
 refine SW.Ab tok hO (by cbv<;>rfl) (by trivial) ?_
 refine SW.seq ?_
 refine SW.Ab tok hO (by cbv<;>rfl) (by trivial) ?_
 refine Ac.Al hu (by cbv<;>rfl) ?_
 refine Ac.run tok hO (by cbv<;>rfl) (by trivial) ?_
 refine(SW.block (SW.Gu (fun i:Nat=>⟨⟨20,getT [(3,iV (prN U V i)),(7,.isl M 2 false (rngC U V)),(8,iV M),(9,iV i)]⟩,[]⟩) (fun _=>⟨[],1⟩) (fun i=>M-i) (fun i=>i≤M∧∀ j,j<i→prN U V (j+1)≤2000) 0
  (fun _=>rfl) ⟨Nat.zero_le _,fun j hj=>absurd hj (Nat.not_lt_zero j)⟩ (Cw.by rfl rfl (by simp) (Nat.le_refl _) (Nat.le_refl _) ⟨⟨rfl,.inl rfl⟩,⟨rfl,.inl rfl⟩,⟨rfl,.inl rfl⟩,⟨rfl,.inl rfl⟩,trivial⟩ trivial) fun i ⟨hi,hall⟩=>?_))
 generalize hacc:prN U V i=acc
 refine SW.Ab tok hO (by cbv<;>rfl) (by trivial) ?_
 refine SW.seq (SW.Bd (by cbv<;>rfl) (fun h=>SW.skip ?_) (fun h=>SW.exit ?_))
 ·have hlt:i<M:=by subst hO;simpa[std] using h
  have hi0:(0:Int)≤Int.ofNat i:=Int.natCast_nonneg i
  refine SW.seq (SW.block ?_)
  refine SW.Ab tok hO (by cbv<;>rfl) ?_ ?_
  ·exact⟨hi0,Int.ofNat_lt.2 hlt⟩
  refine SW.Ab tok hO (by cbv<;>rfl) (by trivial) ?_
  refine Ac.Rm (oV (U (O.nat (Int.ofNat i))) (V (O.nat (Int.ofNat i)))) (by cbv<;>rfl) fun v hv=>?_
  refine Ac.run tok hO (by cbv<;>rfl) (by trivial) ?_
  refine SW.Ab tok hO (by cbv<;>rfl) (by trivial) ?_
  have hnew:O.bin .mul .i64 acc v=prN U V (i+1):=by
   subst hO;subst hv;subst hacc;rfl
  refine SW.Bd (by cbv<;>rfl) (fun h2=>?_) (fun h2=>SW.skip ?_)
  ·refine SW.Ab tok hO (by cbv<;>rfl) (by trivial) ?_
   refine SW.ret ⟨_,_,rfl,rfl,Eqv.bool ?_⟩
   have h3:2000<prN U V (i+1):=by rw[←hnew];subst hO;simpa[std] using h2
   unfold Ho Dh
   symm
   rw[Bool.not_eq_true',decide_eq_false_iff_not]
   intro hq
   have:=hq i hlt
   simp at this;omega
  ·have h3:prN U V (i+1)≤2000:=by rw[←hnew];subst hO;simpa[std] using h2
   refine SW.run tok hO (by cbv<;>rfl) (by trivial) ?_
   refine⟨i+1,by omega,⟨by omega,fun j hj=>?_⟩,Cw.by rfl rfl (by simp) (Nat.le_refl _) (by show 1≤2;omega) ⟨⟨by show AV.lit (.int .i64 (O.bin .mul .i64 acc v))=_;rw[hnew];rfl,.inr Below.lit⟩,⟨rfl,.inr (Below.up (m:=0) (Below.isl fun i k _ _=>by unfold rngC;split<;>exact Below.lit))⟩,⟨rfl,.inr Below.lit⟩,⟨Dp hO (by omega),.inr Below.lit⟩,trivial⟩ trivial⟩
   rcases Nat.lt_succ_iff_lt_or_eq.1 hj with hj|rfl
   ·exact hall j hj
   ·exact h3
 ·refine SW.Ab tok hO (by cbv<;>rfl) (by trivial) ?_
  have hge:M≤i:=by subst hO;simpa[std] using h
  refine SW.ret ⟨_,_,rfl,rfl,Eqv.bool ?_⟩
  unfold Ho Dh
  symm
  rw[Bool.not_eq_false',decide_eq_true_eq]
  exact fun j hj=>decide_eq_true (hall j (by omega))
def Ah.check (d:Ah):Int:=if d.Hn then 3 else if d.Fv then(if Ho d.ulo d.uhi (d.nw+d.nl) then 3 else 0) else 1
theorem Mw (d:Ah)(hs:d.small):Pure Try.prog 40 [Di d] (iV d.check):=by
 obtain⟨O,hO⟩:∃ O:Ar,O=std:=⟨_,rfl⟩
 have e1:=cK d
 have e2:=kD d hs
 have hlong:d.Hn=false→d.nw≤4∧d.nl≤4:=fun h=>by
  simp only [Ah.Hn,Bool.or_eq_false_iff,decide_eq_false_iff_not,Nat.not_lt] at h;omega
 have hval:d.Fv=true→0<d.nw:=fun h=>by
  simp only [Ah.Fv,Bool.and_eq_true,decide_eq_true_eq] at h;exact h.1.1.1.2
 have hc:d.check=if d.Hn then 3 else if d.Fv then(if Ho d.ulo d.uhi (d.nw+d.nl) then 3 else 0) else 1:=rfl
 have e3:=cJ d
 generalize Ho d.ulo d.uhi (d.nw+d.nl)=MM at hc e3
 generalize d.Hn=L at e1 hlong hc
 generalize d.Fv=W at e2 hval hc
 refine Ae tok 3 Try.func40 uG rfl ⟨Ax d,trivial⟩ Below.lit ?_
 refine SW.Ab tok hO (by cbv<;>rfl) (by trivial) ?_
 refine SW.seq (SW.block ?_)
 refine SW.Ab tok hO (by cbv<;>rfl) (by trivial) ?_
 refine Ac.Al e1 (by cbv<;>rfl) ?_
 refine Ac.run tok hO (by cbv<;>rfl) (by trivial) ?_
 refine SW.Bd (by cbv<;>rfl) (fun h1=>?_) (fun h1=>?_)
 ·refine SW.Ab tok hO (by cbv<;>rfl) (by trivial) ?_
  refine SW.ret ⟨_,_,rfl,rfl,Eqv.int ?_⟩
  rw[hc,h1];rfl
 refine SW.Ab tok hO (by cbv<;>rfl) (by trivial) ?_
 refine Ac.Al e2 (by cbv<;>rfl) ?_
 have hnot:O.not W=!W:=by subst hO;rfl
 refine Ac.run tok hO (by cbv<;>rfl) (by trivial) ?_
 refine SW.Bd (by cbv<;>rfl) (fun h2=>?_) (fun h2=>?_)
 ·have hw:W=false:=by have:=hnot.symm.trans h2;simpa using this
  refine SW.Ab tok hO (by cbv<;>rfl) (by trivial) ?_
  refine SW.ret ⟨_,_,rfl,rfl,Eqv.int ?_⟩
  rw[hc,h1,hw];rfl
 have hw:W=true:=by have:=hnot.symm.trans h2;simpa using this
 have e3:=e3 (hval hw) (hlong h1).1 (hlong h1).2
 refine SW.Ab tok hO (by cbv<;>rfl) (by trivial) ?_
 refine Ac.Al e3 (by cbv<;>rfl) ?_
 refine Ac.run tok hO (by cbv<;>rfl) (by trivial) ?_
 refine SW.Bd (by cbv<;>rfl) (fun h3=>?_) (fun h3=>SW.skip ?_)
 ·refine SW.Ab tok hO (by cbv<;>rfl) (by trivial) ?_
  refine SW.ret ⟨_,_,rfl,rfl,Eqv.int ?_⟩
  rw[hc,h1,hw,h3];rfl
 ·refine SW.Ab tok hO (by cbv<;>rfl) (by trivial) ?_
  refine SW.ret ⟨_,_,rfl,rfl,Eqv.int ?_⟩
  rw[hc,h1,hw,h3];rfl
end Go.Fz
namespace Go.Fz
open Go.Proofs
set_option maxRecDepth 100000
def Ah.fits (d:Ah)(t:Ks):Bool:=decide (t.nf=d.nw)&&decide (t.ns=d.nl)&&Dh t.nf (fun i=>inB (t.fe i) (d.wlo i) (d.whi i))&&Dh t.ns (fun i=>inB (t.st i) (d.llo i) (d.lhi i))
def stemN (d:Ah)(st:Nat→Int)(w:Int):Nat→Int
 | 0=>0
 | i+1=>if d.lw i=w then Hq (stemN d st w i) (st i) else stemN d st w i
def Wb (f s:Int):AV:=.agg [iV f,iV s]
theorem eX (d:Ah)(t:Ks)(w:Nat)(hw:w<t.nf)(hs:t.ns≤d.nl)(hn:t.ns<1000):Pure Try.prog 96 [Di d,kH t,iV w] (Wb (t.fe w) (stemN d t.st w t.ns)):=by
 obtain⟨O,hO⟩:∃ O:Ar,O=std:=⟨_,rfl⟩
 have hw0:(0:Int)≤Int.ofNat w:=Int.natCast_nonneg w
 refine Ae tok 3 Try.func96 tF rfl ⟨Ax d,Sr t,Below.lit,trivial⟩ (Below.agg (Br.ok ⟨Below.lit,Below.lit,trivial⟩)) ?_
 refine SW.Ab tok hO (by cbv<;>rfl) (by trivial) ?_
 refine SW.Ab tok hO (by cbv<;>rfl) ?_ ?_
 ·exact⟨hw0,Int.ofNat_lt.2 hw⟩
 have hfe:t.fe (O.nat (Int.ofNat w))=t.fe w:=by subst hO;rfl
 refine SW.seq ?_
 refine SW.Ab tok hO (by cbv<;>rfl) (by trivial) ?_
 refine(SW.block (SW.Gu (fun i:Nat=>⟨⟨39,getT [(2,iV w),(3,.ptr 0 0),(6,.ptr 2 0),(7,.ptr 3 0),(17,Ak t.ns t.es t.st),(18,iV t.ns),(19,iV i)]⟩,[]⟩)
  (fun i=>⟨[(3,.cells none false [iV (t.fe w),iV (stemN d t.st w i)]),(2,.cells none false [iV 0,iV 0]),(0,.cells none false (Ex d))],4⟩) (fun i=>t.ns-i) (fun i=>i≤t.ns) 0
  (fun _=>rfl) (Nat.zero_le _) (Cw.by rfl rfl (by simp) (Nat.le_refl _) (Nat.le_refl _) ⟨⟨rfl,.inl rfl⟩,⟨rfl,.inl rfl⟩,⟨rfl,.inl rfl⟩,⟨rfl,.inl rfl⟩,⟨rfl,.inl rfl⟩,⟨rfl,.inl rfl⟩,⟨rfl,.inl rfl⟩,trivial⟩ ⟨⟨by subst hO;rfl,by omega,.inl rfl⟩,⟨rfl,by omega,.inl rfl⟩,⟨rfl,by omega,.inl rfl⟩,trivial⟩) fun i hi=>?_))
 generalize hacc:stemN d t.st w i=acc
 obtain⟨F,hF⟩:∃ F,F=t.fe w:=⟨_,rfl⟩
 rw[←hF]
 refine SW.Ab tok hO (by cbv<;>rfl) (by trivial) ?_
 refine SW.seq (SW.Bd (by cbv<;>rfl) (fun h=>SW.skip ?_) (fun h=>SW.exit ?_))
 ·have hlt:i<t.ns:=by subst hO;simpa[std] using h
  have hi0:(0:Int)≤Int.ofNat i:=Int.natCast_nonneg i
  refine SW.seq (SW.block ?_)
  refine SW.Ab tok hO (by cbv<;>rfl) ?_ ?_
  ·exact⟨hi0,Int.ofNat_lt.2 hlt⟩
  refine SW.Ab tok hO (by cbv<;>rfl) ?_ ?_
  ·exact⟨hi0,Int.ofNat_lt.2 (show i<d.nl by omega)⟩
  refine SW.Bd (by cbv<;>rfl) (fun h2=>?_) (fun h2=>SW.skip ?_)
  ·refine SW.run tok hO (by cbv<;>rfl) (by trivial) ?_
   refine SW.run tok hO (by cbv<;>rfl) (by trivial) ?_
   have hwl:d.lw i=w:=by subst hO;simpa[std] using h2
   have e:stemN d t.st w (i+1)=Hq acc (t.st i):=by simp only [stemN,hwl,if_true,hacc]
   refine⟨i+1,by omega,by omega,Cw.by rfl rfl (by simp) (Nat.le_refl _) (Nat.le_refl _) ⟨⟨rfl,.inl rfl⟩,⟨rfl,.inl rfl⟩,⟨rfl,.inl rfl⟩,⟨rfl,.inl rfl⟩,⟨rfl,.inl rfl⟩,⟨rfl,.inl rfl⟩,⟨Dp hO (by omega),.inl rfl⟩,trivial⟩
    ⟨⟨congrArg (fun l=>some (AObj.cells none false l)) ?_,by omega,.inl rfl⟩,⟨rfl,by omega,.inl rfl⟩,⟨rfl,by omega,.inl rfl⟩,trivial⟩⟩
   rw[e];subst hO;rfl
  ·refine SW.run tok hO (by cbv<;>rfl) (by trivial) ?_
   have hwl:¬ d.lw i=w:=by subst hO;simpa[std] using h2
   have e:stemN d t.st w (i+1)=acc:=by simp only [stemN];rw[if_neg hwl,hacc]
   refine⟨i+1,by omega,by omega,Cw.by rfl rfl (by simp) (Nat.le_refl _) (Nat.le_refl _) ⟨⟨rfl,.inl rfl⟩,⟨rfl,.inl rfl⟩,⟨rfl,.inl rfl⟩,⟨rfl,.inl rfl⟩,⟨rfl,.inl rfl⟩,⟨rfl,.inl rfl⟩,⟨Dp hO (by omega),.inl rfl⟩,trivial⟩
    ⟨⟨congrArg (fun l=>some (AObj.cells none false l)) ?_,by omega,.inl rfl⟩,⟨rfl,by omega,.inl rfl⟩,⟨rfl,by omega,.inl rfl⟩,trivial⟩⟩
   rw[e];rfl
 ·have hz:i=t.ns:=by
   have:t.ns≤i:=by subst hO;simpa[std] using h
   omega
  refine SW.Ab tok hO (by cbv<;>rfl) (by trivial) ?_
  refine SW.ret ⟨_,_,rfl,rfl,Eqv.agg (.cons (Eqv.int rfl) (.cons (Eqv.int ?_) .nil))⟩
  rw[←hacc,hz]
def Ki (a b:Int):Int:=wrp .i64 (a.tdiv b)
theorem Uu (f s:Int)(hf:f≠0):Pure Try.prog 62 [Wb f s] (iV (Ki s f)):=by
 obtain⟨O,hO⟩:∃ O:Ar,O=std:=⟨_,rfl⟩
 refine Ae tok 3 Try.func62 qD rfl ⟨Below.agg (Br.ok ⟨Below.lit,Below.lit,trivial⟩),trivial⟩ Below.lit ?_
 refine SW.Ab tok hO (by cbv<;>rfl) (by trivial) ?_
 refine SW.Ab tok hO (by cbv<;>rfl) (by exact hf) ?_
 exact SW.ret ⟨_,_,rfl,rfl,Eqv.int (by subst hO;rfl)⟩
theorem Lk (f s:Int)(hf:f≠0):Pure Try.prog 63 [Wb f s] (iV (s.tmod f)):=by
 obtain⟨O,hO⟩:∃ O:Ar,O=std:=⟨_,rfl⟩
 refine Ae tok 3 Try.func63 qC rfl ⟨Below.agg (Br.ok ⟨Below.lit,Below.lit,trivial⟩),trivial⟩ Below.lit ?_
 refine SW.Ab tok hO (by cbv<;>rfl) (by trivial) ?_
 refine SW.Ab tok hO (by cbv<;>rfl) (by exact hf) ?_
 exact SW.ret ⟨_,_,rfl,rfl,Eqv.int (by subst hO;rfl)⟩
end Go.Fz
namespace Go.Fz
open Go.Proofs
set_option maxRecDepth 100000
def Ph (r1 m1 r2 m2:Nat)(j:Nat):Nat:=match Nat.beq j r1 with
 | true=>m1
 | false=>match Nat.beq j r2 with
  | true=>m2
  | false=>j
theorem Bu.up2 {n0 r1 m1 r2 m2:Nat}{f1:Fm}{st1:St}{l:List (Nat × AV)}{len:Nat}{dm:List Nat}{hl:Hp}{n2:Nat}(F:Nat→Option Nat)(hF:∀ i j f,F i=some f→F j=some f→i=j)(e1:len=f1.ts.len)(e2:dm=f1.dm)(e3:∀ id∈dm,id<n0)(hr1:n0≤r1)(hr2:n0≤r2)
  (hinj:∀ p∈hl,∀ q∈hl,Ph r1 m1 r2 m2 p.1=Ph r1 m1 r2 m2 q.1→p.1=q.1)(lo:n0≤n2)
  (get:Hl (fun p=>Ad (Ph r1 m1 r2 m2) n2 p.2 (f1.ts.get p.1)) l)(obj:Hl (fun p=>p.1<n2∧∃ o1,st1.h.get (Ph r1 m1 r2 m2 p.1)=some o1∧Hc (Ph r1 m1 r2 m2) n2 p.2 o1∧o1.fam=F p.1) hl) :
  Bu n0 (Ph r1 m1 r2 m2) f1 st1 ⟨⟨len,getT l⟩,dm⟩ ⟨hl,n2⟩:=by
 have ho:=obj.ok
 refine⟨e1,e2,e3,fun j hj=>?_,fun i=>?_,lo,fun id o h=>?_,fun i j oi oj hi hj hij pi pj h1 h2=>⟨fun h=>hij ?_,fun⟨f,k1,k2⟩=>?_⟩⟩
 ·unfold Ph
  cases hb:Nat.beq j r1 with
  | true=>have:=Nat.eq_of_beq_eq_true hb;omega
  | false=>cases hb2:Nat.beq j r2 with
   | true=>have:=Nat.eq_of_beq_eq_true hb2;omega
   | false=>rfl
 ·show Ad _ n2 (getT l i) _
  have hg:=get.ok
  clear get obj ho hinj
  induction l with
  | nil=>exact Ad.any
  | cons p r ih =>
   obtain⟨j,a⟩:=p
   simp only [getT]
   cases hb:Nat.beq j i with
   | true =>
    obtain rfl:=Nat.eq_of_beq_eq_true hb
    exact hg _ List.mem_cons_self
   | false=>exact ih fun q hq=>hg q (List.mem_cons_of_mem _ hq)
 ·obtain⟨h3,o1,h4,h5,_⟩:=ho _ (Hp.As h)
  exact⟨h3,o1,h4,h5⟩
 ·exact hinj _ (Hp.As hi) _ (Hp.As hj) h
 ·obtain⟨_,o1,h3,_,h4⟩:=ho _ (Hp.As hi)
  obtain⟨_,o2,h5,_,h6⟩:=ho _ (Hp.As hj)
  rw[show Ph r1 m1 r2 m2 (i,oi).1=Ph r1 m1 r2 m2 i from rfl,h1] at h3
  rw[show Ph r1 m1 r2 m2 (j,oj).1=Ph r1 m1 r2 m2 j from rfl,h2] at h5
  cases h3;cases h5
  exact hij (hF i j f (h4.symm.trans k1) (h6.symm.trans k2))
theorem Uc {l:Hp}{ρ:Nat→Nat}(h:(l.all fun p=>l.all fun q=>!(Nat.beq (ρ p.1) (ρ q.1))||Nat.beq p.1 q.1)=true):∀ p∈l,∀ q∈l,ρ p.1=ρ q.1→p.1=q.1:=fun p hp q hq he=>by
 have h1:=List.all_eq_true.1 (List.all_eq_true.1 h p hp) q hq
 rw[he,Nat.beq_refl] at h1
 exact Nat.eq_of_beq_eq_true (by simpa using h1)
def mI (a b:Nat)(i:Nat):Option Nat:=match Nat.beq i a with
 | true=>some a
 | false=>match Nat.beq i b with
  | true=>some b
  | false=>none
theorem mH (a b:Nat):∀ i j f,mI a b i=some f→mI a b j=some f→i=j:=fun i j f h1 h2=>by
 have key:∀ i,mI a b i=some f→i=f:=fun i h=>by
  unfold mI at h
  cases hb:Nat.beq i a with
  | true=>rw[hb] at h;cases h;exact Nat.eq_of_beq_eq_true hb
  | false =>
   rw[hb] at h
   cases hb2:Nat.beq i b with
   | true=>rw[hb2] at h;cases h;exact Nat.eq_of_beq_eq_true hb2
   | false=>rw[hb2] at h;cases h
 exact(key i h1).trans (key j h2).symm
theorem Ba {O:Ar}(hO:O=std){ops:Array Oper}{h:Hp}{f:Fm}{i j:Nat}{o:Oper}{c:List Ed}{r:AV}(hp:pickD O T ops [] h f [i]=some (j,o,c,r))(hc:Nn c):lightV T ops h f i=some r:=by
 obtain⟨h1,_,_,h4⟩:=Iq hO hp
 obtain rfl:j=i:=by simpa using h1
 exact h4 (Jn hc)
def Ah.bun (d:Ah)(t:Ks)(w:Nat):Int:=Ki (stemN d t.st w t.ns) (t.fe w)
def Ah.lef (d:Ah)(t:Ks)(w:Nat):Int:=(stemN d t.st w t.ns).tmod (t.fe w)
def sumN (b:Nat→Int):Nat→Int
 | 0=>0
 | i+1=>Hq (sumN b i) (b i)
def Ah.all (d:Ah)(t:Ks):Int:=sumN (d.bun t) d.nw
structure Je where
 n:Nat
 eb:Bool
 bun:Nat→Int
 el:Bool
 lef:Nat→Int
 hands:Int
 loose:Int
 flats:Int
 spare:Int
def oS (y:Je):List AV:=[Ak y.n y.eb y.bun,Ak y.n y.el y.lef,iV y.hands,iV y.loose,iV y.flats,iV y.spare]
def Ke (y:Je):AV:=.agg (oS y)
theorem Su (y:Je):∀ a∈oS y,Below 0 a:=Br.ok ⟨Ap _ _ _,Ap _ _ _,Below.lit,Below.lit,Below.lit,Below.lit,trivial⟩
theorem Cq (y:Je):Below 0 (Ke y):=Below.agg (Su y)
def Ah.Bn (d:Ah)(t:Ks):Je where
 n:=d.nw
 eb:=false
 bun:=d.bun t
 el:=false
 lef:=d.lef t
 hands:=Ki (d.all t) d.hand
 loose:=(d.all t).tmod d.hand
 flats:=Ki (Ki (d.all t) d.hand) d.flat
 spare:=(Ki (d.all t) d.hand).tmod d.flat
theorem Ll (fl:Nat→Int)(i k:Nat):Below 0 (Bc fl i k):=Below.lit
theorem lY (fl:Nat→Int)(i k:Nat):(Bc fl i k).one=true:=rfl
theorem Eqv.nil {sz:Nat}{ex:Bool}{g:Nat→Nat→AV}:Eqv (.lit (.slice none 0 0)) (.isl 0 sz ex g):=fun _ _ hv=>by cases hv;exact .isl0 _ _ _
def slG (id sz:Nat):Nat→AV
 | 0=>.lit (.slice none 0 0)
 | n+1=>.sl id 0 (n+1) sz false
def wF:List AV:=[nl3,nl3,iV 0,iV 0,iV 0,iV 0]
theorem Kz:∀ a∈wF,Below 0 a:=Br.ok ⟨Below.lit,Below.lit,Below.lit,Below.lit,Below.lit,Below.lit,trivial⟩
def sA (d:Ah)(t:Ks)(A B:AV)(H:Hp):St:=⟨H++[(3,.cells none false [A,B,iV 0,iV 0,iV 0,iV 0]),(2,.cells none false wF),(1,.cells none false (rY t)),(0,.cells none false (Ex d))],6⟩
def lC (b l:Nat→Int):Nat→Hp
 | 0=>[]
 | n+1=>[(4,.cells none false (flatG 1 (Bc b) (n+1))),(5,.cells none false (flatG 1 (Bc l) (n+1)))]
theorem Ui (fl:Nat→Int)(n:Nat)(v:Int)(h:v=fl n):flatG 1 (Bc fl) n++[iV v]=flatG 1 (Bc fl) (n+1):=by
 rw[h];rfl
set_option maxHeartbeats 8000000 in
theorem kJ (d:Ah)(t:Ks)(hf:t.nf=d.nw)(hs:t.ns=d.nl)(hw:d.nw≤4)(hl:d.nl≤4)(hfe:∀ w,w<d.nw→t.fe w≠0)(hh:d.hand≠0)(hfl:d.flat≠0):Pure Try.prog 84 [Di d,kH t] (Ke (d.Bn t)):=by
 obtain⟨O,hO⟩:∃ O:Ar,O=std:=⟨_,rfl⟩
 have hnat:∀ i:Nat,O.nat (Int.ofNat i)=i:=fun i=>by subst hO;rfl
 refine Ae tok 3 Try.func84 tN rfl ⟨Ax d,Sr t,trivial⟩ (Cq _) ?_
 refine SW.Ab tok hO (by cbv<;>rfl) (by trivial) ?_
 refine SW.Ab tok hO (by cbv<;>rfl) (by trivial) ?_
 refine SW.Ab tok hO (by cbv<;>rfl) (by trivial) ?_
 obtain⟨BU,hBU⟩:∃ b,b=d.bun t:=⟨_,rfl⟩
 obtain⟨LE,hLE⟩:∃ b,b=d.lef t:=⟨_,rfl⟩
 have hsum:∀ i v,v=BU i→O.bin .add .i64 (sumN BU i) v=sumN BU (i+1):=fun i v hv=>by subst hv;subst hO;rfl
 refine SW.seq (SW.mono (Q:=fun e fm st=>e=.normal∧∃ g A B,fm=⟨⟨61,g⟩,[]⟩∧g 2=.ptr 0 0∧g 4=.ptr 2 0∧g 5=.ptr 3 0∧g 6=iV (sumN BU d.nw)∧Eqv A (Ak d.nw false BU)∧Eqv B (Ak d.nw false LE)∧(A=nl3∨∃ len sz h,A=.isl len sz false h)∧(B=nl3∨∃ len sz h,B=.isl len sz false h)∧st=sA d t A B []) ?_ ?_)
 ·refine SW.Ab tok hO (by cbv<;>rfl) (by trivial) ?_
  refine(SW.block (SW.Mo (fun i:Nat=>⟨⟨61,getT [(2,.ptr 0 0),(3,.ptr 1 0),(4,.ptr 2 0),(5,.ptr 3 0),(6,iV (sumN BU i)),(11,iV d.nw),(12,iV i)]⟩,[]⟩) (fun i=>sA d t (slG 4 1 i) (slG 5 1 i) (lC BU LE i)) (fun i=>d.nw-i) (fun i=>i≤d.nw) 0 (Nat.zero_le _) (Ph 4 4 5 5) ?_ fun i hi=>?_))
  ·refine Bu.up2 (fun _=>none) (fun _ _ _ h=>by cases h) rfl rfl (by simp) (by show 4≤4;omega) (by show 4≤5;omega) (Uc (by rfl)) (by show 4≤6;omega) ⟨Ad.ptr (by omega),Ad.ptr (by omega),Ad.ptr (by omega),Ad.ptr (by omega),Ad.closed Below.lit,Ad.closed Below.lit,Ad.closed Below.lit,trivial⟩
    ⟨⟨by omega,_,rfl,.cells (Ay.closed Kz),rfl⟩,⟨by omega,_,rfl,.cells (Ay.closed Kz),rfl⟩,⟨by omega,_,rfl,.cells (Ay.closed (Kx t)),rfl⟩,⟨by omega,_,rfl,.cells (Ay.closed (Bo d)),rfl⟩,trivial⟩
  have hpile:=fun(h:i<d.nw)=>eX d t i (by omega) (by omega) (by omega)
  have hb:=fun(h:i<d.nw)=>Uu (t.fe i) (stemN d t.st i t.ns) (hfe i h)
  have hlf:=fun(h:i<d.nw)=>Lk (t.fe i) (stemN d t.st i t.ns) (hfe i h)
  have eb:Ki (stemN d t.st i t.ns) (t.fe i)=BU i:=by rw[hBU];rfl
  have el:(stemN d t.st i t.ns).tmod (t.fe i)=LE i:=by rw[hLE];rfl
  rw[eb] at hb
  rw[el] at hlf
  generalize hF:t.fe i=F at hpile hb hlf
  generalize hS:stemN d t.st i t.ns=S at hpile hb hlf
  have hsum:=hsum i
  obtain⟨acc,hacc⟩:∃ acc,acc=sumN BU i:=⟨_,rfl⟩
  rw[←hacc] at hsum ⊢
  cases i with
  | zero =>
   refine SW.Ab tok hO (by cbv<;>rfl) (by trivial) ?_
   refine SW.seq (SW.Bd (by cbv<;>rfl) (fun h=>SW.skip ?_) (fun h=>?_))
   ·have hlt:0<d.nw:=by subst hO;simpa[std] using h
    refine SW.seq (SW.block ?_)
    refine SW.Ab tok hO (by cbv<;>rfl) (by trivial) ?_
    refine SW.Ab tok hO (by cbv<;>rfl) (by trivial) ?_
    refine Ac.Al (hpile hlt) (by cbv<;>rfl) ?_
    refine Ac.run tok hO (by cbv<;>rfl) (by trivial) ?_
    refine SW.Bv tok mixed hO (by rfl) (by cbv<;>rfl) (by trivial) ?_
    refine AnyE.Al (hb hlt) (by cbv<;>rfl) (by cbv<;>rfl) ?_
    refine AnyE.run tok hO (by rfl) (by cbv<;>rfl) (by trivial) ?_
    refine AnyE.Cu tok hO (by cbv<;>rfl) (by cbv<;>rfl) (by trivial) ?_ ?_
    ·exact⟨by cbv<;>rfl,by cbv<;>rfl,trivial⟩
    refine AnyE.Gr tok (by cbv<;>rfl) (by cbv<;>rfl) (by rfl) (by kernel_rfl) (by rfl) (by rfl) ?_
    refine AnyE.run tok hO (by rfl) (by cbv<;>rfl) (by trivial) ?_
    refine AnyE.eff tok hO (by cbv<;>rfl) (by cbv<;>rfl) (by trivial) ?_
    refine AnyE.done (by rfl) ?_
    refine SW.Bv tok mixed hO (by rfl) (by cbv<;>rfl) (by trivial) ?_
    refine AnyE.Al (hlf hlt) (by cbv<;>rfl) (by cbv<;>rfl) ?_
    refine AnyE.run tok hO (by rfl) (by cbv<;>rfl) (by trivial) ?_
    refine AnyE.Cu tok hO (by cbv<;>rfl) (by cbv<;>rfl) (by trivial) ?_ ?_
    ·exact⟨by cbv<;>rfl,by cbv<;>rfl,trivial⟩
    refine AnyE.Gr tok (by cbv<;>rfl) (by cbv<;>rfl) (by rfl) (by kernel_rfl) (by rfl) (by rfl) ?_
    refine AnyE.run tok hO (by rfl) (by cbv<;>rfl) (by trivial) ?_
    refine AnyE.eff tok hO (by cbv<;>rfl) (by cbv<;>rfl) (by trivial) ?_
    refine AnyE.done (by rfl) ?_
    refine SW.run tok hO (by cbv<;>rfl) (by trivial) ?_
    refine Ac.Al (hb hlt) (by cbv<;>rfl) ?_
    refine Ac.run tok hO (by cbv<;>rfl) (by trivial) ?_
    refine SW.run tok hO (by cbv<;>rfl) (by trivial) ?_
    refine⟨1,by omega,by omega,Ph 4 8 5 10,?_⟩
    refine Bu.up2 (fun _=>none) (fun _ _ _ h=>by cases h) rfl rfl (by simp) (by show 4≤4;omega) (by show 4≤5;omega) (Uc (by rfl)) (by show 4≤6;omega) ⟨Ad.ptr (by omega),Ad.ptr (by omega),Ad.ptr (by omega),Ad.ptr (by omega),?_,Ad.closed Below.lit,Ad.inc hO (by omega),trivial⟩
     ⟨⟨by omega,_,rfl,.cells (Ay.of_eq (by subst hO;rfl) (Az (Ll _) 1)),rfl⟩,⟨by omega,_,rfl,.cells (Ay.of_eq (by subst hO;rfl) (Az (Ll _) 1)),rfl⟩,
      ⟨by omega,_,rfl,.cells (.cons (Ad.sl (by omega)) (.cons (Ad.sl (by omega)) (Ay.closed (Br.ok ⟨Below.lit,Below.lit,Below.lit,Below.lit,trivial⟩)))),rfl⟩,⟨by omega,_,rfl,.cells (Ay.closed Kz),rfl⟩,⟨by omega,_,rfl,.cells (Ay.closed (Kx t)),rfl⟩,⟨by omega,_,rfl,.cells (Ay.closed (Bo d)),rfl⟩,trivial⟩
    show Ad _ _ (iV (sumN BU 1)) (.lit (.int .i64 (O.bin .add .i64 acc (BU 0))))
    rw[hsum _ rfl]
    exact Ad.closed Below.lit
   ·have hz:d.nw=0:=by
     have:d.nw≤0:=by subst hO;simpa[std] using h
     omega
    refine SW.exit ⟨rfl,_,nl3,nl3,rfl,rfl,rfl,rfl,?_,?_,?_,.inl rfl,.inl rfl,rfl⟩
    ·rw[hz,←hacc];rfl
    ·rw[hz];exact Eqv.nil
    ·rw[hz];exact Eqv.nil
  | succ i =>
   obtain⟨GA,hGA⟩:∃ G,G=flatG 1 (Bc BU) (i+1):=⟨_,rfl⟩
   obtain⟨GB,hGB⟩:∃ G,G=flatG 1 (Bc LE) (i+1):=⟨_,rfl⟩
   have hobj:lC BU LE (i+1)=[(4,.cells none false GA),(5,.cells none false GB)]:=by rw[hGA,hGB];rfl
   show SW _ _ _ _ _ (sA d t (.sl 4 0 (i+1) 1 false) (.sl 5 0 (i+1) 1 false) (lC BU LE (i+1)))
   rw[hobj]
   refine SW.Ab tok hO (by cbv<;>rfl) (by trivial) ?_
   refine SW.seq (SW.Bd (by cbv<;>rfl) (fun h=>SW.skip ?_) (fun h=>?_))
   ·have hlt:i+1<d.nw:=by
     have:((i+1:Nat):Int)<(d.nw:Int):=by subst hO;simpa[std] using h
     omega
    refine SW.seq (SW.block ?_)
    refine SW.Ab tok hO (by cbv<;>rfl) (by trivial) ?_
    refine SW.Ab tok hO (by cbv<;>rfl) (by trivial) ?_
    refine Ac.Al (hpile hlt) (by cbv<;>rfl) ?_
    refine Ac.run tok hO (by cbv<;>rfl) (by trivial) ?_
    refine SW.Bv tok mixed hO (by rfl) (by cbv<;>rfl) (by trivial) ?_
    refine AnyE.Al (hb hlt) (by cbv<;>rfl) (by cbv<;>rfl) ?_
    refine AnyE.run tok hO (by rfl) (by cbv<;>rfl) (by trivial) ?_
    refine AnyE.Cu tok hO (by cbv<;>rfl) (by cbv<;>rfl) (by trivial) ?_ ?_
    ·exact⟨by cbv<;>rfl,by cbv<;>rfl,trivial⟩
    refine AnyE.Gi (g:=Bc BU) tok (by cbv<;>rfl) (by cbv<;>rfl) (by rfl) (by rfl) hGA (by kernel_rfl) (by rfl) (by rfl) (by omega) fun GA' hGA'=>?_
    refine AnyE.run tok hO (by rfl) (by cbv<;>rfl) (by trivial) ?_
    refine AnyE.eff tok hO (by cbv<;>rfl) (by cbv<;>rfl) (by trivial) ?_
    refine AnyE.done (by rfl) ?_
    refine SW.Bv tok mixed hO (by rfl) (by cbv<;>rfl) (by trivial) ?_
    refine AnyE.Al (hlf hlt) (by cbv<;>rfl) (by cbv<;>rfl) ?_
    refine AnyE.run tok hO (by rfl) (by cbv<;>rfl) (by trivial) ?_
    refine AnyE.Cu tok hO (by cbv<;>rfl) (by cbv<;>rfl) (by trivial) ?_ ?_
    ·exact⟨by cbv<;>rfl,by cbv<;>rfl,trivial⟩
    refine AnyE.Gi (g:=Bc LE) tok (by cbv<;>rfl) (by cbv<;>rfl) (by rfl) (by rfl) hGB (by kernel_rfl) (by rfl) (by rfl) (by omega) fun GB' hGB'=>?_
    refine AnyE.run tok hO (by rfl) (by cbv<;>rfl) (by trivial) ?_
    refine AnyE.eff tok hO (by cbv<;>rfl) (by cbv<;>rfl) (by trivial) ?_
    refine AnyE.done (by rfl) ?_
    refine SW.run tok hO (by cbv<;>rfl) (by trivial) ?_
    refine Ac.Al (hb hlt) (by cbv<;>rfl) ?_
    refine Ac.run tok hO (by cbv<;>rfl) (by trivial) ?_
    refine SW.run tok hO (by cbv<;>rfl) (by trivial) ?_
    refine⟨i+1+1,by omega,by omega,Ph 4 8 5 10,?_⟩
    refine Bu.up2 (mI 4 5) (mH 4 5) rfl rfl (by simp) (by show 4≤4;omega) (by show 4≤5;omega) (Uc (by rfl)) (by show 4≤6;omega) ⟨Ad.ptr (by omega),Ad.ptr (by omega),Ad.ptr (by omega),Ad.ptr (by omega),?_,Ad.closed Below.lit,Ad.inc hO (by omega),trivial⟩
     ⟨⟨by omega,_,rfl,.cells (Ay.of_eq (hGA'.trans (Ui BU (i+1) _ rfl)) (Az (Ll _) _)),rfl⟩,⟨by omega,_,rfl,.cells (Ay.of_eq (hGB'.trans (Ui LE (i+1) _ rfl)) (Az (Ll _) _)),rfl⟩,
      ⟨by omega,_,rfl,.cells (.cons (Ad.sl (by omega)) (.cons (Ad.sl (by omega)) (Ay.closed (Br.ok ⟨Below.lit,Below.lit,Below.lit,Below.lit,trivial⟩)))),rfl⟩,⟨by omega,_,rfl,.cells (Ay.closed Kz),rfl⟩,⟨by omega,_,rfl,.cells (Ay.closed (Kx t)),rfl⟩,⟨by omega,_,rfl,.cells (Ay.closed (Bo d)),rfl⟩,trivial⟩
    show Ad _ _ (iV (sumN BU (i+1+1))) (.lit (.int .i64 (O.bin .add .i64 acc (BU (i+1)))))
    rw[hsum _ rfl]
    exact Ad.closed Below.lit
   ·have hz:d.nw=i+1:=by
     have:(d.nw:Int)≤((i+1:Nat):Int):=by subst hO;simpa[std] using h
     omega
    have hlA:(i+1)*1≤GA.length:=by rw[hGA,Aq];omega
    have hlB:(i+1)*1≤GB.length:=by rw[hGB,Aq];omega
    refine SW.Hx (fun j=>Nat.beq j 4||Nat.beq j 5) 3 (by rfl) (SW.exit ⟨rfl,_,_,_,rfl,rfl,rfl,rfl,?_,?_,?_,?_,?_,rfl⟩)
    ·rw[hz,←hacc];rfl
    ·show Eqv (frz _ _ 3 (.sl 4 0 (i+1) 1 false)) _
     rw[hz,Dq (fm:=none) (G:=GA) rfl rfl hlA,hGA]
     exact Eqv.isl rfl fun i' k hi' hk=>Eqv.of (Eb hi' hk rfl)
    ·show Eqv (frz _ _ 3 (.sl 5 0 (i+1) 1 false)) _
     rw[hz,Dq (fm:=none) (G:=GB) rfl rfl hlB,hGB]
     exact Eqv.isl rfl fun i' k hi' hk=>Eqv.of (Eb hi' hk rfl)
    ·exact .inr ⟨_,_,_,Dq (fm:=none) (G:=GA) rfl rfl hlA⟩
    ·exact .inr ⟨_,_,_,Dq (fm:=none) (G:=GB) rfl rfl hlB⟩
 ·rintro e fm st ⟨rfl,g,A,B,rfl,g2,g4,g5,g6,hA,hB',fA,fB,rfl⟩
  have hall:d.all t=sumN BU d.nw:=by rw[hBU];rfl
  have hres:∀ x y z u:Int,x=Ki (sumN BU d.nw) d.hand→y=(sumN BU d.nw).tmod d.hand→z=Ki (Ki (sumN BU d.nw) d.hand) d.flat→u=(Ki (sumN BU d.nw) d.hand).tmod d.flat→Eqv (.agg [A,B,iV x,iV y,iV z,iV u]) (Ke (d.Bn t)):=fun x y z u hx hy hz hu=>by
   subst hx;subst hy;subst hz;subst hu
   unfold Ke oS Ah.Bn
   rw[hall,←hBU,←hLE]
   exact Eqv.agg (.cons hA (.cons hB' (.cons (Eqv.refl _) (.cons (Eqv.refl _) (.cons (Eqv.refl _) (.cons (Eqv.refl _) .nil))))))
  generalize sumN BU d.nw=al at g6 hres
  rw[←Am g2,←Am g4,←Am g5,←Am g6]
  rcases fA with rfl|⟨la,sa,ha,rfl⟩<;>rcases fB with rfl|⟨lb,sb,hb2,rfl⟩
  all_goals
   refine SW.Bv tok mixed hO (by rfl) (by cbv<;>rfl) ?_ ?_
   ·first|exact hh|exact⟨hh,hh⟩
   refine AnyE.Cu tok hO (by cbv<;>rfl) (by cbv<;>rfl) (by trivial) ?_ ?_
   ·exact⟨by refine Ba hO (by cbv<;>rfl) ?_;exact hh,by cbv<;>rfl,by cbv<;>rfl,by cbv<;>rfl,trivial⟩
   refine AnyE.run tok hO (by rfl) (by cbv<;>rfl) (by trivial) ?_
   refine AnyE.eff tok hO (by cbv<;>rfl) (by cbv<;>rfl) (by trivial) ?_
   refine AnyE.done (by rfl) ?_
   refine SW.Bv tok mixed hO (by rfl) (by cbv<;>rfl) ?_ ?_
   ·first|exact hfl|exact⟨hfl,hfl⟩
   refine AnyE.Cu tok hO (by cbv<;>rfl) (by cbv<;>rfl) (by trivial) ?_ ?_
   ·exact⟨by refine Ba hO (by cbv<;>rfl) ?_;exact hfl,by cbv<;>rfl,by cbv<;>rfl,trivial⟩
   refine AnyE.run tok hO (by rfl) (by cbv<;>rfl) (by trivial) ?_
   refine AnyE.eff tok hO (by cbv<;>rfl) (by cbv<;>rfl) (by trivial) ?_
   refine AnyE.done (by rfl) ?_
   refine SW.Ab tok hO (by cbv<;>rfl) (by trivial) ?_
   refine SW.ret ⟨_,_,rfl,rfl,?_⟩
   exact hres _ _ _ _ (by subst hO;rfl) (by subst hO;rfl) (by subst hO;rfl) (by subst hO;rfl)
end Go.Fz
namespace Go.Fz
open Go.Proofs
set_option maxRecDepth 100000
theorem sK (y:Je)(w:Nat)(hw:w<y.n):Pure Try.prog 129 [Ke y,iV w] (iV (y.bun w)):=by
 obtain⟨O,hO⟩:∃ O:Ar,O=std:=⟨_,rfl⟩
 have hw0:(0:Int)≤Int.ofNat w:=Int.natCast_nonneg w
 refine Ae tok 3 Try.func129 mX rfl ⟨Cq y,Below.lit,trivial⟩ Below.lit ?_
 refine SW.Ab tok hO (by cbv<;>rfl) (by trivial) ?_
 refine SW.Ab tok hO (by cbv<;>rfl) ?_ ?_
 ·exact⟨hw0,Int.ofNat_lt.2 hw⟩
 exact SW.ret ⟨_,_,rfl,rfl,Eqv.int (by subst hO;rfl)⟩
theorem sJ (y:Je)(w:Nat)(hw:w<y.n):Pure Try.prog 130 [Ke y,iV w] (iV (y.lef w)):=by
 obtain⟨O,hO⟩:∃ O:Ar,O=std:=⟨_,rfl⟩
 have hw0:(0:Int)≤Int.ofNat w:=Int.natCast_nonneg w
 refine Ae tok 3 Try.func130 mW rfl ⟨Cq y,Below.lit,trivial⟩ Below.lit ?_
 refine SW.Ab tok hO (by cbv<;>rfl) (by trivial) ?_
 refine SW.Ab tok hO (by cbv<;>rfl) ?_ ?_
 ·exact⟨hw0,Int.ofNat_lt.2 hw⟩
 exact SW.ret ⟨_,_,rfl,rfl,Eqv.int (by subst hO;rfl)⟩
theorem pQ (y:Je)(w:Int):Pure Try.prog 131 [Ke y,iV w] (iV y.hands):=by
 obtain⟨O,hO⟩:∃ O:Ar,O=std:=⟨_,rfl⟩
 refine Ae tok 3 Try.func131 mV rfl ⟨Cq y,Below.lit,trivial⟩ Below.lit ?_
 refine SW.Ab tok hO (by cbv<;>rfl) (by trivial) ?_
 refine SW.Ab tok hO (by cbv<;>rfl) (by trivial) ?_
 exact SW.ret ⟨_,_,rfl,rfl,Eqv.refl _⟩
theorem pP (y:Je)(w:Int):Pure Try.prog 132 [Ke y,iV w] (iV y.loose):=by
 obtain⟨O,hO⟩:∃ O:Ar,O=std:=⟨_,rfl⟩
 refine Ae tok 3 Try.func132 mU rfl ⟨Cq y,Below.lit,trivial⟩ Below.lit ?_
 refine SW.Ab tok hO (by cbv<;>rfl) (by trivial) ?_
 refine SW.Ab tok hO (by cbv<;>rfl) (by trivial) ?_
 exact SW.ret ⟨_,_,rfl,rfl,Eqv.refl _⟩
theorem pO (y:Je)(w:Int):Pure Try.prog 133 [Ke y,iV w] (iV y.flats):=by
 obtain⟨O,hO⟩:∃ O:Ar,O=std:=⟨_,rfl⟩
 refine Ae tok 3 Try.func133 mT rfl ⟨Cq y,Below.lit,trivial⟩ Below.lit ?_
 refine SW.Ab tok hO (by cbv<;>rfl) (by trivial) ?_
 refine SW.Ab tok hO (by cbv<;>rfl) (by trivial) ?_
 exact SW.ret ⟨_,_,rfl,rfl,Eqv.refl _⟩
theorem pN (y:Je)(w:Int):Pure Try.prog 134 [Ke y,iV w] (iV y.spare):=by
 obtain⟨O,hO⟩:∃ O:Ar,O=std:=⟨_,rfl⟩
 refine Ae tok 3 Try.func134 mS rfl ⟨Cq y,Below.lit,trivial⟩ Below.lit ?_
 refine SW.Ab tok hO (by cbv<;>rfl) (by trivial) ?_
 refine SW.Ab tok hO (by cbv<;>rfl) (by trivial) ?_
 exact SW.ret ⟨_,_,rfl,rfl,Eqv.refl _⟩
theorem iC (y:Je)(w:Nat)(hw:w<y.n)(lo hi:Int):Pure Try.prog 113 [.agg [iV 0,iV w,iV lo,iV hi],Ke y] (.sb (inB (y.bun w) lo hi)):=by
 obtain⟨O,hO⟩:∃ O:Ar,O=std:=⟨_,rfl⟩
 refine Ae tok 3 Try.func113 Rk rfl ⟨Below.agg (Br.ok ⟨Below.lit,Below.lit,Below.lit,Below.lit,trivial⟩),Cq y,trivial⟩ Below.sb ?_
 refine SW.Ab tok hO (by cbv<;>rfl) (by trivial) ?_
 refine SW.Bv tok mixed hO (by rfl) (by cbv<;>rfl) (by trivial) ?_
 refine AnyE.Al (aK w lo hi) (by cbv<;>rfl) (by cbv<;>rfl) ?_
 refine AnyE.run tok hO (by rfl) (by cbv<;>rfl) (by trivial) ?_
 refine AnyE.Al (sK y w hw) (by cbv<;>rfl) (by cbv<;>rfl) ?_
 refine AnyE.run tok hO (by rfl) (by cbv<;>rfl) (by trivial) ?_
 have hc:=Qr lo hi (y.bun w)
 generalize inB (y.bun w) lo hi=b at hc
 refine AnyE.Al hc (by cbv<;>rfl) (by cbv<;>rfl) ?_
 refine AnyE.run tok hO (by rfl) (by cbv<;>rfl) (by trivial) ?_
 exact SW.ret ⟨_,_,rfl,rfl,Eqv.refl _⟩
theorem iB (y:Je)(w:Nat)(hw:w<y.n)(lo hi:Int):Pure Try.prog 113 [.agg [iV 1,iV w,iV lo,iV hi],Ke y] (.sb (inB (y.lef w) lo hi)):=by
 obtain⟨O,hO⟩:∃ O:Ar,O=std:=⟨_,rfl⟩
 refine Ae tok 3 Try.func113 Rk rfl ⟨Below.agg (Br.ok ⟨Below.lit,Below.lit,Below.lit,Below.lit,trivial⟩),Cq y,trivial⟩ Below.sb ?_
 refine SW.Ab tok hO (by cbv<;>rfl) (by trivial) ?_
 refine SW.Bv tok mixed hO (by rfl) (by cbv<;>rfl) (by trivial) ?_
 refine AnyE.Al (aJ w lo hi) (by cbv<;>rfl) (by cbv<;>rfl) ?_
 refine AnyE.run tok hO (by rfl) (by cbv<;>rfl) (by trivial) ?_
 refine AnyE.Al (sJ y w hw) (by cbv<;>rfl) (by cbv<;>rfl) ?_
 refine AnyE.run tok hO (by rfl) (by cbv<;>rfl) (by trivial) ?_
 have hc:=Qr lo hi (y.lef w)
 generalize inB (y.lef w) lo hi=b at hc
 refine AnyE.Al hc (by cbv<;>rfl) (by cbv<;>rfl) ?_
 refine AnyE.run tok hO (by rfl) (by cbv<;>rfl) (by trivial) ?_
 exact SW.ret ⟨_,_,rfl,rfl,Eqv.refl _⟩
theorem iA (y:Je)(w:Int)(lo hi:Int):Pure Try.prog 113 [.agg [iV 2,iV w,iV lo,iV hi],Ke y] (.sb (inB (y.hands) lo hi)):=by
 obtain⟨O,hO⟩:∃ O:Ar,O=std:=⟨_,rfl⟩
 refine Ae tok 3 Try.func113 Rk rfl ⟨Below.agg (Br.ok ⟨Below.lit,Below.lit,Below.lit,Below.lit,trivial⟩),Cq y,trivial⟩ Below.sb ?_
 refine SW.Ab tok hO (by cbv<;>rfl) (by trivial) ?_
 refine SW.Bv tok mixed hO (by rfl) (by cbv<;>rfl) (by trivial) ?_
 refine AnyE.Al (aI w lo hi) (by cbv<;>rfl) (by cbv<;>rfl) ?_
 refine AnyE.run tok hO (by rfl) (by cbv<;>rfl) (by trivial) ?_
 refine AnyE.Al (pQ y w) (by cbv<;>rfl) (by cbv<;>rfl) ?_
 refine AnyE.run tok hO (by rfl) (by cbv<;>rfl) (by trivial) ?_
 have hc:=Qr lo hi (y.hands)
 generalize inB (y.hands) lo hi=b at hc
 refine AnyE.Al hc (by cbv<;>rfl) (by cbv<;>rfl) ?_
 refine AnyE.run tok hO (by rfl) (by cbv<;>rfl) (by trivial) ?_
 exact SW.ret ⟨_,_,rfl,rfl,Eqv.refl _⟩
theorem hU (y:Je)(w:Int)(lo hi:Int):Pure Try.prog 113 [.agg [iV 3,iV w,iV lo,iV hi],Ke y] (.sb (inB (y.loose) lo hi)):=by
 obtain⟨O,hO⟩:∃ O:Ar,O=std:=⟨_,rfl⟩
 refine Ae tok 3 Try.func113 Rk rfl ⟨Below.agg (Br.ok ⟨Below.lit,Below.lit,Below.lit,Below.lit,trivial⟩),Cq y,trivial⟩ Below.sb ?_
 refine SW.Ab tok hO (by cbv<;>rfl) (by trivial) ?_
 refine SW.Bv tok mixed hO (by rfl) (by cbv<;>rfl) (by trivial) ?_
 refine AnyE.Al (aH w lo hi) (by cbv<;>rfl) (by cbv<;>rfl) ?_
 refine AnyE.run tok hO (by rfl) (by cbv<;>rfl) (by trivial) ?_
 refine AnyE.Al (pP y w) (by cbv<;>rfl) (by cbv<;>rfl) ?_
 refine AnyE.run tok hO (by rfl) (by cbv<;>rfl) (by trivial) ?_
 have hc:=Qr lo hi (y.loose)
 generalize inB (y.loose) lo hi=b at hc
 refine AnyE.Al hc (by cbv<;>rfl) (by cbv<;>rfl) ?_
 refine AnyE.run tok hO (by rfl) (by cbv<;>rfl) (by trivial) ?_
 exact SW.ret ⟨_,_,rfl,rfl,Eqv.refl _⟩
theorem hP (y:Je)(w:Int)(lo hi:Int):Pure Try.prog 113 [.agg [iV 4,iV w,iV lo,iV hi],Ke y] (.sb (inB (y.flats) lo hi)):=by
 obtain⟨O,hO⟩:∃ O:Ar,O=std:=⟨_,rfl⟩
 refine Ae tok 3 Try.func113 Rk rfl ⟨Below.agg (Br.ok ⟨Below.lit,Below.lit,Below.lit,Below.lit,trivial⟩),Cq y,trivial⟩ Below.sb ?_
 refine SW.Ab tok hO (by cbv<;>rfl) (by trivial) ?_
 refine SW.Bv tok mixed hO (by rfl) (by cbv<;>rfl) (by trivial) ?_
 refine AnyE.Al (aG w lo hi) (by cbv<;>rfl) (by cbv<;>rfl) ?_
 refine AnyE.run tok hO (by rfl) (by cbv<;>rfl) (by trivial) ?_
 refine AnyE.Al (pO y w) (by cbv<;>rfl) (by cbv<;>rfl) ?_
 refine AnyE.run tok hO (by rfl) (by cbv<;>rfl) (by trivial) ?_
 have hc:=Qr lo hi (y.flats)
 generalize inB (y.flats) lo hi=b at hc
 refine AnyE.Al hc (by cbv<;>rfl) (by cbv<;>rfl) ?_
 refine AnyE.run tok hO (by rfl) (by cbv<;>rfl) (by trivial) ?_
 exact SW.ret ⟨_,_,rfl,rfl,Eqv.refl _⟩
theorem hJ (y:Je)(w:Int)(lo hi:Int):Pure Try.prog 113 [.agg [iV 5,iV w,iV lo,iV hi],Ke y] (.sb (inB (y.spare) lo hi)):=by
 obtain⟨O,hO⟩:∃ O:Ar,O=std:=⟨_,rfl⟩
 refine Ae tok 3 Try.func113 Rk rfl ⟨Below.agg (Br.ok ⟨Below.lit,Below.lit,Below.lit,Below.lit,trivial⟩),Cq y,trivial⟩ Below.sb ?_
 refine SW.Ab tok hO (by cbv<;>rfl) (by trivial) ?_
 refine SW.Bv tok mixed hO (by rfl) (by cbv<;>rfl) (by trivial) ?_
 refine AnyE.Al (aF w lo hi) (by cbv<;>rfl) (by cbv<;>rfl) ?_
 refine AnyE.run tok hO (by rfl) (by cbv<;>rfl) (by trivial) ?_
 refine AnyE.Al (pN y w) (by cbv<;>rfl) (by cbv<;>rfl) ?_
 refine AnyE.run tok hO (by rfl) (by cbv<;>rfl) (by trivial) ?_
 have hc:=Qr lo hi (y.spare)
 generalize inB (y.spare) lo hi=b at hc
 refine AnyE.Al hc (by cbv<;>rfl) (by cbv<;>rfl) ?_
 refine AnyE.run tok hO (by rfl) (by cbv<;>rfl) (by trivial) ?_
 exact SW.ret ⟨_,_,rfl,rfl,Eqv.refl _⟩
def Je.cnt (y:Je)(k w:Int):Int:=if k=0 then y.bun w.toNat else if k=1 then y.lef w.toNat else if k=2 then y.hands else if k=3 then y.loose else if k=4 then y.flats else y.spare
def Ah.Jr (d:Ah)(y:Je)(i:Nat):Bool:=inB (y.cnt (d.ck i) (d.cw i)) (d.clo i) (d.chi i)
theorem Kg (d:Ah)(y:Je)(i:Nat)(h0:0≤d.ck i)(h6:d.ck i<6)(hw0:0≤d.cw i)(hw:d.cw i<y.n):Pure Try.prog 113 [Vk d i,Ke y] (.sb (d.Jr y i)):=by
 have hc:d.ck i=0∨d.ck i=1∨d.ck i=2∨d.ck i=3∨d.ck i=4∨d.ck i=5:=by omega
 obtain⟨w,hwn⟩:=Int.eq_ofNat_of_zero_le hw0
 unfold Vk Ah.Jr
 rcases hc with h|h|h|h|h|h<;>rw[h]
 ·rw[hwn];exact iC y w (by omega) _ _
 ·rw[hwn];exact iB y w (by omega) _ _
 ·exact iA y _ _ _
 ·exact hU y _ _ _
 ·exact hP y _ _ _
 ·exact hJ y _ _ _
def Qe (M:Nat→Bool):List AV:=[.sb (M 0),.sb (M 1),.sb (M 2),.sb (M 3),.sb (M 4)]
theorem Jz (n:Nat)(M:Nat→Bool):∀ a∈Qe M,Below n a:=Br.ok ⟨Below.sb,Below.sb,Below.sb,Below.sb,Below.sb,trivial⟩
def wrM (r:Nat→Bool)(i j:Nat):Bool:=decide (j<i)&&!(r j)
theorem cD (d:Ah)(y:Je)(hn:d.nc≤5)(hok:∀ i,i<d.nc→0≤d.ck i∧d.ck i<6∧0≤d.cw i∧d.cw i<y.n):Pure Try.prog 83 [Di d,Ke y] (.agg (Qe (wrM (d.Jr y) d.nc))):=by
 obtain⟨O,hO⟩:∃ O:Ar,O=std:=⟨_,rfl⟩
 have hnat:∀ i:Nat,O.nat (Int.ofNat i)=i:=fun i=>by subst hO;rfl
 have hr:=fun i (h:i<d.nc)=>Kg d y i (hok i h).1 (hok i h).2.1 (hok i h).2.2.1 (hok i h).2.2.2
 generalize d.Jr y=R at hr
 refine Ae tok 3 Try.func83 tO rfl ⟨Ax d,Cq y,trivial⟩ (Below.agg (Jz 0 _)) ?_
 refine SW.Ab tok hO (by cbv<;>rfl) (by trivial) ?_
 refine SW.Ab tok hO (by cbv<;>rfl) (by trivial) ?_
 refine SW.seq ?_
 refine SW.Ab tok hO (by cbv<;>rfl) (by trivial) ?_
 refine(SW.block (SW.Gu (fun i:Nat=>⟨⟨24,getT [(3,.ptr 1 0),(4,.ptr 2 0),(5,.ptr 3 0),(9,Eo d),(10,iV d.nc),(11,iV i)]⟩,[]⟩)
  (fun i=>⟨[(3,.cells none false (Qe (wrM R i))),(2,.cells none false (Qe fun _=>false)),(1,.cells none false (oS y))],4⟩) (fun i=>d.nc-i) (fun i=>i≤d.nc) 0
  (fun _=>rfl) (Nat.zero_le _) (Cw.by rfl rfl (by simp) (Nat.le_refl _) (Nat.le_refl _) ⟨⟨rfl,.inl rfl⟩,⟨rfl,.inl rfl⟩,⟨rfl,.inl rfl⟩,⟨rfl,.inl rfl⟩,⟨rfl,.inl rfl⟩,⟨rfl,.inl rfl⟩,trivial⟩ ⟨⟨rfl,by omega,.inl rfl⟩,⟨rfl,by omega,.inl rfl⟩,⟨rfl,by omega,.inl rfl⟩,trivial⟩) fun i hi=>?_))
 generalize hM:wrM R i=M
 refine SW.Ab tok hO (by cbv<;>rfl) (by trivial) ?_
 refine SW.seq (SW.Bd (by cbv<;>rfl) (fun h=>SW.skip ?_) (fun h=>SW.exit ?_))
 ·have hlt:i<d.nc:=by subst hO;simpa[std] using h
  have hi0:(0:Int)≤Int.ofNat i:=Int.natCast_nonneg i
  refine SW.seq (SW.block ?_)
  refine SW.Ab tok hO (by cbv<;>rfl) ?_ ?_
  ·exact⟨hi0,Int.ofNat_lt.2 hlt⟩
  refine SW.run tok hO (by cbv<;>rfl) (by trivial) ?_
  have hri:=hr i hlt
  rw[←hnat i] at hri
  unfold Vk at hri
  refine Ac.Al hri (by cbv<;>rfl) ?_
  rw[hnat i]
  generalize hb:R i=b
  refine Ac.run tok hO (by cbv<;>rfl) ?_ ?_
  ·exact⟨by show O.nat (Int.ofNat i)<5;rw[hnat];omega,hi0,Int.ofNat_lt.2 (show i<5 by omega)⟩
  refine SW.run tok hO (by cbv<;>rfl) (by trivial) ?_
  have hk:∀ j,O.upsB j (O.nat (Int.ofNat i)) (O.not b) (M j)=wrM R (i+1) j:=fun j=>by
   rw[hnat,←hM,←hb];subst hO
   simp only [std,wrM]
   by_cases e:i=j
   ·subst e;simp
   ·rw[if_neg e]
    by_cases e2:j<i
    ·simp[e2,show j<i+1 by omega]
    ·simp[e2,show ¬ j<i+1 by omega]
  refine⟨i+1,by omega,by omega,Cw.by rfl rfl (by simp) (Nat.le_refl _) (by show 4≤5;omega) ⟨⟨rfl,.inr (Below.ptr (by omega))⟩,⟨rfl,.inr (Below.ptr (by omega))⟩,⟨rfl,.inr (Below.ptr (by omega))⟩,⟨rfl,.inr (Below.up (m:=0) (Ci d))⟩,⟨rfl,.inr Below.lit⟩,⟨Dp hO (by omega),.inr Below.lit⟩,trivial⟩
   ⟨⟨congrArg (fun l=>some (AObj.cells none false l)) ?_,by omega,.inr ⟨Jz 4 _,fun _ h=>by cases h⟩⟩,⟨rfl,by omega,.inr ⟨Jz 4 _,fun _ h=>by cases h⟩⟩,⟨rfl,by omega,.inr ⟨fun a ha=>Below.up (m:=0) (Su y a ha),fun _ h=>by cases h⟩⟩,trivial⟩⟩
  simp only [Qe,←hk]
 ·refine SW.Ab tok hO (by cbv<;>rfl) (by trivial) ?_
  have hge:d.nc≤i:=by subst hO;simpa[std] using h
  have:i=d.nc:=by omega
  subst hM
  rw[←this]
  refine SW.ret ⟨_,_,rfl,rfl,Eqv.of rfl⟩
end Go.Fz
namespace Go.Fz
open Go.Proofs
set_option maxRecDepth 100000
structure Ah.Good (d:Ah):Prop where
 nw:d.nw≤4
 nl:d.nl≤4
 nc:d.nc≤5
 pos:0<d.nw
 hand:1≤d.hand∧d.hand≤20
 flat:1≤d.flat∧d.flat≤20
 wom:∀ i,i<d.nw→1≤d.wlo i∧d.wlo i≤d.whi i∧d.whi i≤60
 lot:∀ i,i<d.nl→(0≤d.lw i∧d.lw i<d.nw)∧0≤d.llo i∧d.llo i≤d.lhi i∧d.lhi i≤5000
 cnt:∀ i,i<d.nc→(0≤d.ck i∧d.ck i<6)∧(0≤d.cw i∧d.cw i<d.nw)∧(d.cw i=0∨d.ck i<2)∧0≤d.clo i∧d.clo i≤d.chi i∧d.chi i≤20000
theorem Nu {d:Ah}(h1:d.Hn=false)(h2:d.Fv=true):d.Good:=by
 simp only [Ah.Hn,Bool.or_eq_false_iff,decide_eq_false_iff_not,Nat.not_lt] at h1
 simp only [Ah.Fv,bet,Bool.and_eq_true,decide_eq_true_eq,Dh] at h2
 obtain⟨⟨⟨⟨⟨h3,h4⟩,h5⟩,h6⟩,h7⟩,h8⟩:=h2
 refine⟨h1.1.1,h1.1.2,h1.2,h5,h3,h4,fun i hi=>?_,fun i hi=>?_,fun i hi=>?_⟩
 ·have:=h6 i hi
  simp only [Cl,Bool.and_eq_true,decide_eq_true_eq] at this
  omega
 ·have:=h7 i hi
  simp only [Ah.Nq,Cl,Ah.Oo,Bool.and_eq_true,decide_eq_true_eq] at this
  omega
 ·have:=h8 i hi
  simp only [Ah.Nw,Cl,Ah.Oo,Bool.and_eq_true,Bool.or_eq_true,decide_eq_true_eq] at this
  omega
theorem Ds {d:Ah}(h:d.check=0):d.Good:=by
 unfold Ah.check at h
 split at h
 ·omega
 ·rename_i h1
  split at h
  ·rename_i h2;exact Nu (by simpa using h1) h2
  ·omega
theorem iZ {d:Ah}{t:Ks}(h:d.fits t=true):t.nf=d.nw∧t.ns=d.nl∧(∀ i,i<d.nw→d.wlo i≤t.fe i∧t.fe i≤d.whi i)∧(∀ i,i<d.nl→d.llo i≤t.st i∧t.st i≤d.lhi i):=by
 simp only [Ah.fits,inB,Bool.and_eq_true,decide_eq_true_eq,Dh] at h
 obtain⟨⟨⟨h1,h2⟩,h3⟩,h4⟩:=h
 exact⟨h1,h2,fun i hi=>h3 i (by omega),fun i hi=>h4 i (by omega)⟩
theorem gQ {d:Ah}{t:Ks}(g:d.Good)(h:d.fits t=true):Pure Try.prog 84 [Di d,kH t] (Ke (d.Bn t)):=by
 obtain⟨h1,h2,h3,h4⟩:=iZ h
 exact kJ d t h1 h2 g.nw g.nl (fun w hw=>by have:=h3 w hw;have:=g.wom w hw;omega) (by have:=g.hand;omega) (by have:=g.flat;omega)
end Go.Fz
