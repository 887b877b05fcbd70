/- Own work of the verifier of watercress: FzD5, FzD6, FzD7, FzD8, FzB18, FzB43, FzD9. -/
import Derived.Test.YtpefamheopplnaaMc35
import Derived.Test.YtpefamheopplnaaMc32
import Derived.Test.YtpefamheopplnaaMc28
import Derived.Test.YtpefamheopplnaaMc31
import Derived.Test.YtpefamheopplnaaMc30
set_option linter.unusedVariables false
set_option linter.unusedSimpArgs false
namespace Go.Fz
open Go.Proofs
set_option maxRecDepth 100000
noncomputable def evlP:Code × Code:=match nthC 2 (bodyF Try.f65) with
 | .seq _ (.block _ (.rangeFunc _ _ a b))=>(a,b)
 | c=>(c,c)
def pZ:List (Nat × AV):=[(3,.ptr 1 0),(4,.ptr 2 0),(5,.ptr 3 0),(7,.fn (.func 100) [] [.ptr 0 0])]
noncomputable def Rt:Cs:={ state:=.ready,pending:=none,tmps:=⟨24,getT pZ⟩,params:=#[8],assign:=evlP.1,body:=evlP.2,dfid:=4}
noncomputable def Xt (g:FuncId)(Y X:AV):Hp :=
 [(5,.loop Rt),(4,.dfr),(3,.cells none false [X]),(2,.cells none false [iV 0,iV 0]),(1,.cells none false [.fn (.func g) [] []]),(0,.cells none true [Y])]
set_option maxHeartbeats 8000000 in
theorem jB (g:FuncId)(nw nl:Nat)(f0 f1 f2 f3:Nat→Int)(z4 z5 z6 z7:Int)(u:Int)(hof:Pure Try.prog g [.agg [Ak nw false f0,Ak nl false f1,Ak nw false f2,Ak nw false f3,iV z4,iV z5,iV z6,iV z7]] (iV u))(Y:AV) :
  Bj Try.prog 5 [.agg [Ak nw false f0,Ak nl false f1,Ak nw false f2,Ak nw false f3,iV z4,iV z5,iV z6,iV z7]] ⟨(7,.cells none false [Ak nw false f0,Ak nl false f1,Ak nw false f2,Ak nw false f3,iV z4,iV z5,iV z6,iV z7])::Xt g Y nl3,8⟩
   (fun v st'=>v=.lit (.bool true)∧st'=⟨(10,.cells none false [iV u])::(9,.cells none false [iV u])::(8,.cells none false [Ak nw false f0,Ak nl false f1,Ak nw false f2,Ak nw false f3,iV z4,iV z5,iV z6,iV z7])::(7,.cells none false [Ak nw false f0,Ak nl false f1,Ak nw false f2,Ak nw false f3,iV z4,iV z5,iV z6,iV z7])::Xt g Y (.sl 10 0 1 1 false),11⟩):=by
 obtain⟨O,hO⟩:∃ O:Ar,O=std:=⟨_,rfl⟩
 refine Bj.Fg (r:=Rt) rfl rfl ?_
 refine SW.run tok hO (by cbv<;>rfl) (by trivial) ?_
 refine⟨Rt,rfl,rfl,SW.block ?_⟩
 obtain⟨RB,hRB⟩:∃ r,r=({ Rt with state:=.busy}:Cs):=⟨_,rfl⟩
 rw[←hRB]
 refine SW.runD tok mixed hO (by rfl) (by cbv<;>rfl) (by trivial) ?_
 refine AnyE.Al hof (by cbv<;>rfl) (by cbv<;>rfl) ?_
 refine AnyE.run tok hO (by rfl) (by cbv<;>rfl) (by trivial) ?_
 refine AnyE.Cu tok hO (by cbv<;>rfl) (by cbv<;>rfl) (by trivial) ?_ ?_
 ·exact(by repeat (first|exact trivial|refine And.intro (by first|exact Ba hO (by cbv<;>rfl) (by trivial)|(cbv<;>rfl)) ?_))
 refine AnyE.run tok hO (by rfl) (by cbv<;>rfl) (by trivial) ?_
 refine AnyE.Gr tok (by cbv<;>rfl) (by cbv<;>rfl) (by rfl) (by kernel_rfl) (by rfl) (by rfl) ?_
 refine AnyE.run tok hO (by rfl) (by cbv<;>rfl) (by trivial) ?_
 refine AnyE.eff tok hO (by cbv<;>rfl) (by cbv<;>rfl) (by trivial) ?_
 refine AnyE.done (by rfl) ?_
 refine⟨RB,rfl,rfl,?_⟩
 subst hRB
 rfl
set_option maxHeartbeats 8000000 in
theorem jA (g:FuncId)(nw nl:Nat)(f0 f1 f2 f3:Nat→Int)(z4 z5 z6 z7:Int)(u:Int)(hof:Pure Try.prog g [.agg [Ak nw false f0,Ak nl false f1,Ak nw false f2,Ak nw false f3,iV z4,iV z5,iV z6,iV z7]] (iV u))(Y:AV)(m:Nat)(hm:m<100000)(fl:Nat→Int)(G:List AV)(hG:G=flatG 1 (Bc fl) (m+1)) :
  Bj Try.prog 5 [.agg [Ak nw false f0,Ak nl false f1,Ak nw false f2,Ak nw false f3,iV z4,iV z5,iV z6,iV z7]] ⟨(7,.cells none false [Ak nw false f0,Ak nl false f1,Ak nw false f2,Ak nw false f3,iV z4,iV z5,iV z6,iV z7])::Xt g Y (.sl 6 0 (m+1) 1 false)++[(6,.cells none false G)],8⟩
   (fun v st'=>v=.lit (.bool true)∧∃ o8,st'=⟨(10,.cells (some 6) false (G++[iV u]))::(9,.cells none false [iV u])::(8,.cells none false [Ak nw false f0,Ak nl false f1,Ak nw false f2,Ak nw false f3,iV z4,iV z5,iV z6,iV z7])::(7,.cells none false [Ak nw false f0,Ak nl false f1,Ak nw false f2,Ak nw false f3,iV z4,iV z5,iV z6,iV z7])::Xt g Y (.sl 10 0 (m+1+1) 1 false)++[(6,o8)],11⟩):=by
 obtain⟨O,hO⟩:∃ O:Ar,O=std:=⟨_,rfl⟩
 refine Bj.Fg (r:=Rt) rfl rfl ?_
 refine SW.run tok hO (by cbv<;>rfl) (by trivial) ?_
 refine⟨Rt,rfl,rfl,SW.block ?_⟩
 obtain⟨RB,hRB⟩:∃ r,r=({ Rt with state:=.busy}:Cs):=⟨_,rfl⟩
 rw[←hRB]
 refine SW.runD tok mixed hO (by rfl) (by cbv<;>rfl) (by trivial) ?_
 refine AnyE.Al hof (by cbv<;>rfl) (by cbv<;>rfl) ?_
 refine AnyE.run tok hO (by rfl) (by cbv<;>rfl) (by trivial) ?_
 refine AnyE.Cu tok hO (by cbv<;>rfl) (by cbv<;>rfl) (by trivial) ?_ ?_
 ·exact(by repeat (first|exact trivial|refine And.intro (by first|exact Ba hO (by cbv<;>rfl) (by trivial)|(cbv<;>rfl)) ?_))
 refine AnyE.run tok hO (by rfl) (by cbv<;>rfl) (by trivial) ?_
 refine AnyE.Gi (g:=Bc fl) (len:=m+1) tok (by cbv<;>rfl) (by cbv<;>rfl) (by rfl) (by rfl) hG (by kernel_rfl) (by rfl) (by rfl) (by omega) fun G' hG'=>?_
 refine AnyE.run tok hO (by rfl) (by cbv<;>rfl) (by trivial) ?_
 refine AnyE.eff tok hO (by cbv<;>rfl) (by cbv<;>rfl) (by trivial) ?_
 refine AnyE.done (by rfl) ?_
 rw[←hG] at hG'
 subst hG'
 subst hRB
 exact⟨_,rfl,rfl,_,rfl⟩
theorem Um (m:Nat):Hc (Du 6 m) 7 (.loop Rt) (.loop Rt) :=
 .loop rfl rfl rfl rfl rfl rfl (by show 4<7;omega) rfl (Ad.getT (l:=pZ) ⟨Ad.ptr (by omega),Ad.ptr (by omega),Ad.ptr (by omega),Ad.fn .nil (.cons (Ad.ptr (by omega)) .nil),trivial⟩)
theorem Is (nw nl:Nat)(A B C D:Nat→Nat→Int)(a b c e:Nat→Int)(L:Nat):Below 0 (.isl L 8 false (outX nw nl A B C D a b c e)):=Below.isl fun i k _ _=>by
 unfold outX
 split<;>first|exact Ap _ _ _|exact Below.lit
set_option maxHeartbeats 16000000 in
theorem gO (g:FuncId)(nw nl:Nat)(A B C D:Nat→Nat→Int)(a b c e:Nat→Int)(L:Nat)(hL:L<100000)(V:Nat→Int)
  (hof:∀ i,i<L→Pure Try.prog g [.agg [Ak nw false (A i),Ak nl false (B i),Ak nw false (C i),Ak nw false (D i),iV (a i),iV (b i),iV (c i),iV (e i)]] (iV (V i)))(K:AV→St→Prop)
  (hK:K (.tup []) ⟨Xt g (.isl L 8 false (outX nw nl A B C D a b c e)) (slG 6 1 L)++objG 6 1 (Bc V) L,7⟩) :
  At Try.prog 100 [.yld 5,.ptr 0 0] ⟨Xt g (.isl L 8 false (outX nw nl A B C D a b c e)) nl3,6⟩ K:=by
 obtain⟨O,hO⟩:∃ O:Ar,O=std:=⟨_,rfl⟩
 have hnat:∀ i:Nat,O.nat (Int.ofNat i)=i:=fun i=>by subst hO;rfl
 have hGb:=Is nw nl A B C D a b c e L
 refine Bb tok Try.func100 rfl ?_
 refine SW.Ab tok hO (by cbv<;>rfl) (by trivial) ?_
 refine(SW.block (SW.Mo (fun i:Nat=>⟨⟨16,getT [(0,.yld 5),(1,.ptr 0 0),(5,.isl L 8 false (outX nw nl A B C D a b c e)),(6,iV L),(7,iV i)]⟩,[]⟩) (fun i=>⟨Xt g (.isl L 8 false (outX nw nl A B C D a b c e)) (slG 6 1 i)++objG 6 1 (Bc V) i,7⟩)
  (fun i=>L-i) (fun i=>i≤L) 0 (Nat.zero_le _) (Du 6 6) ?_ fun i hi=>?_))
 ·exact Bu.up rfl rfl (by simp) (Nat.le_refl _) (.inl rfl) (by show 6≤7;omega) ⟨Ad.yld (by omega),Ad.ptr (by omega),Ad.closed hGb,Ad.closed Below.lit,Ad.closed Below.lit,trivial⟩
   ⟨⟨by omega,_,rfl,Um 6,.inr rfl⟩,⟨by omega,_,rfl,.dfr,.inr rfl⟩,⟨by omega,_,rfl,.cells (.cons (Ad.closed Below.lit) .nil),.inr rfl⟩,⟨by omega,_,rfl,.cells (.cons (Ad.closed Below.lit) (.cons (Ad.closed Below.lit) .nil)),.inr rfl⟩,
    ⟨by omega,_,rfl,.cells (.cons (Ad.closed (Below.fn (fun _ h=>nomatch h) (fun _ h=>nomatch h))) .nil),.inr rfl⟩,⟨by omega,_,rfl,.cells (.cons (Ad.closed hGb) .nil),.inr rfl⟩,trivial⟩ (fun p hp=>by cases hp)
 cases i with
 | zero =>
  refine SW.Ab tok hO (by cbv<;>rfl) (by trivial) ?_
  refine SW.seq (SW.Bd (by cbv<;>rfl) (fun h=>SW.skip ?_) (fun h=>SW.exit ?_))
  ·have hlt:0<L:=by subst hO;simpa[std] using h
   have h0:(0:Int)≤Int.ofNat 0:=Int.natCast_nonneg 0
   have hof':=hof 0 hlt
   obtain⟨u,hu⟩:∃ u,V 0=u:=⟨_,rfl⟩
   rw[hu] at hof'
   have hr:=jB g nw nl (A 0) (B 0) (C 0) (D 0) (a 0) (b 0) (c 0) (e 0) u hof' (.isl L 8 false (outX nw nl A B C D a b c e))
   have hev:∀ f:Nat→Nat→Int,f 0=f (O.nat (Int.ofNat 0)):=fun f=>by rw[hnat]
   have hev1:∀ f:Nat→Int,f 0=f (O.nat (Int.ofNat 0)):=fun f=>by rw[hnat]
   rw[hev A,hev B,hev C,hev D,hev1 a,hev1 b,hev1 c,hev1 e] at hr
   refine SW.seq (SW.block ?_)
   refine SW.Ab tok hO (by cbv<;>rfl) ?_ ?_
   ·exact⟨h0,Int.ofNat_lt.2 hlt⟩
   refine SW.seq (SW.runN tok hO 2 (by cbv<;>rfl) (by trivial) ?_)
   refine Ac.apply (c:=.yld 5) (by cbv<;>rfl) hr fun v st' hv=>?_
   obtain⟨rfl,rfl⟩:=hv
   refine Ac.run tok hO (by cbv<;>rfl) (by trivial) ?_
   refine SW.cond (t:=false) (by cbv<;>rfl) (SW.skip ?_)
   refine SW.run tok hO (by cbv<;>rfl) (by trivial) ?_
   refine⟨1,by omega,hlt,Du 6 10,?_⟩
   refine Bu.up rfl rfl (by simp) (Nat.le_refl _) (.inr (by omega)) (by show 6≤7;omega) ⟨Ad.yld (by omega),Ad.ptr (by omega),Ad.closed hGb,Ad.closed Below.lit,Ad.inc hO (by omega),trivial⟩
    ⟨⟨by omega,_,rfl,Um 10,.inr rfl⟩,⟨by omega,_,rfl,.dfr,.inr rfl⟩,⟨by omega,_,rfl,.cells (.cons (Ad.sl (by omega)) .nil),.inr rfl⟩,⟨by omega,_,rfl,.cells (.cons (Ad.closed Below.lit) (.cons (Ad.closed Below.lit) .nil)),.inr rfl⟩,
     ⟨by omega,_,rfl,.cells (.cons (Ad.closed (Below.fn (fun _ h=>nomatch h) (fun _ h=>nomatch h))) .nil),.inr rfl⟩,⟨by omega,_,rfl,.cells (.cons (Ad.closed hGb) .nil),.inr rfl⟩,trivial⟩ (fun p hp=>?_)
   obtain rfl:=Dm hp
   exact⟨by omega,_,rfl,.cells (Ay.of_eq (by rw[←hu];rfl) (Az (fun _ _=>Below.lit) _)),.inl rfl⟩
  ·have hge:L=0:=by
    have:L≤0:=by subst hO;simpa[std] using h
    omega
   subst hge
   exact⟨_,_,rfl,rfl,hK⟩
 | succ i =>
  obtain⟨G,hG⟩:∃ G,G=flatG 1 (Bc V) (i+1):=⟨_,rfl⟩
  show SW _ _ _ _ _ ⟨Xt g (.isl L 8 false (outX nw nl A B C D a b c e)) (.sl 6 0 (i+1) 1 false)++[(6,.cells none false (flatG 1 (Bc V) (i+1)))],7⟩
  rw[←hG]
  refine SW.Ab tok hO (by cbv<;>rfl) (by trivial) ?_
  refine SW.seq (SW.Bd (by cbv<;>rfl) (fun h=>SW.skip ?_) (fun h=>SW.exit ?_))
  ·have hlt:i+1<L:=by
    have:((i+1:Nat):Int)<(L:Int):=by subst hO;simpa[std] using h
    omega
   have h0:(0:Int)≤Int.ofNat (i+1):=Int.natCast_nonneg (i+1)
   have hof':=hof (i+1) hlt
   obtain⟨u,hu⟩:∃ u,V (i+1)=u:=⟨_,rfl⟩
   rw[hu] at hof'
   have hr:=jA g nw nl (A (i+1)) (B (i+1)) (C (i+1)) (D (i+1)) (a (i+1)) (b (i+1)) (c (i+1)) (e (i+1)) u hof' (.isl L 8 false (outX nw nl A B C D a b c e)) i (by omega) V G hG
   have hev:∀ f:Nat→Nat→Int,f (i+1)=f (O.nat (Int.ofNat (i+1))):=fun f=>by rw[hnat]
   have hev1:∀ f:Nat→Int,f (i+1)=f (O.nat (Int.ofNat (i+1))):=fun f=>by rw[hnat]
   rw[hev A,hev B,hev C,hev D,hev1 a,hev1 b,hev1 c,hev1 e] at hr
   refine SW.seq (SW.block ?_)
   refine SW.Ab tok hO (by cbv<;>rfl) ?_ ?_
   ·exact⟨h0,Int.ofNat_lt.2 hlt⟩
   refine SW.seq (SW.runN tok hO 2 (by cbv<;>rfl) (by trivial) ?_)
   refine Ac.apply (c:=.yld 5) (by cbv<;>rfl) hr fun v st' hv=>?_
   obtain⟨rfl,o8,rfl⟩:=hv
   obtain⟨G2,hG2⟩:∃ G2,G++[iV u]=G2:=⟨_,rfl⟩
   rw[hG2]
   refine Ac.run tok hO (by cbv<;>rfl) (by trivial) ?_
   refine SW.cond (t:=false) (by cbv<;>rfl) (SW.skip ?_)
   refine SW.run tok hO (by cbv<;>rfl) (by trivial) ?_
   refine⟨i+1+1,by omega,hlt,Du 6 10,?_⟩
   refine Bu.up rfl rfl (by simp) (Nat.le_refl _) (.inr (by omega)) (by show 6≤7;omega) ⟨Ad.yld (by omega),Ad.ptr (by omega),Ad.closed hGb,Ad.closed Below.lit,Ad.inc hO (by omega),trivial⟩
    ⟨⟨by omega,_,rfl,Um 10,.inr rfl⟩,⟨by omega,_,rfl,.dfr,.inr rfl⟩,⟨by omega,_,rfl,.cells (.cons (Ad.sl (by omega)) .nil),.inr rfl⟩,⟨by omega,_,rfl,.cells (.cons (Ad.closed Below.lit) (.cons (Ad.closed Below.lit) .nil)),.inr rfl⟩,
     ⟨by omega,_,rfl,.cells (.cons (Ad.closed (Below.fn (fun _ h=>nomatch h) (fun _ h=>nomatch h))) .nil),.inr rfl⟩,⟨by omega,_,rfl,.cells (.cons (Ad.closed hGb) .nil),.inr rfl⟩,trivial⟩ (fun p hp=>?_)
   obtain rfl:=Dm hp
   exact⟨by omega,_,rfl,.cells (Ay.of_eq (by rw[←hG2,hG,←hu];rfl) (Az (fun _ _=>Below.lit) _)),.inl rfl⟩
  ·have hge:L=i+1:=by
    have:(L:Int)≤((i+1:Nat):Int):=by subst hO;simpa[std] using h
    omega
   subst hge
   rw[hG]
   exact⟨_,_,rfl,rfl,hK⟩
end Go.Fz
namespace Go.Fz
open Go.Proofs
set_option maxRecDepth 100000
set_option maxHeartbeats 16000000 in
theorem bL (g:FuncId)(nw nl:Nat)(A B C D:Nat→Nat→Int)(a b c e:Nat→Int)(L:Nat)(h0L:0<L)(hL:L<100000)(V:Nat→Int)
  (hof:∀ i,i<L→Pure Try.prog g [.agg [Ak nw false (A i),Ak nl false (B i),Ak nw false (C i),Ak nw false (D i),iV (a i),iV (b i),iV (c i),iV (e i)]] (iV (V i)))(lo hi:Int)
  (hlo:∃ i,i<L∧V i=lo)(hlo':∀ i,i<L→lo≤V i)(hhi:∃ i,i<L∧V i=hi)(hhi':∀ i,i<L→V i≤hi) :
  At Try.prog 65 [.fn (.func 100) [] [.ptr 0 0],.fn (.func g) [] []] (roS [.isl L 8 false (outX nw nl A B C D a b c e)]) (fun v st'=>freeB st'.h Tp=true∧Eqv (frz st'.h Tp 3 v) (Fb lo hi)):=by
 obtain⟨O,hO⟩:∃ O:Ar,O=std:=⟨_,rfl⟩
 have hkeys:=gO g nw nl A B C D a b c e L hL V hof
 have hGb:=Is nw nl A B C D a b c e L
 obtain⟨Y,hY⟩:∃ Y,(AV.isl L 8 false (outX nw nl A B C D a b c e))=Y:=⟨_,rfl⟩
 have hY1:Y.one=true:=by rw[←hY];rfl
 rw[hY] at hkeys hGb ⊢
 refine Bb tok Try.func65 rfl ?_
 refine SW.Ab tok hO (by cbv<;>rfl) (by trivial) ?_
 refine SW.Ab tok hO (by cbv<;>rfl) (by trivial) ?_
 refine SW.seq ?_
 refine SW.Ab tok hO (by cbv<;>rfl) (by trivial) ?_
 refine SW.block ?_
 refine SW.pre (f2:=⟨⟨24,getT pZ⟩,[]⟩) (st2:=⟨[(3,.cells none false [nl3]),(2,.cells none false [iV 0,iV 0]),(1,.cells none false [.fn (.func g) [] []]),(0,.cells none true [Y])],4⟩) ?_ ?_
 ·exact Cw.by rfl rfl (fun _ h=>nomatch h) (Nat.le_refl _) (Nat.le_refl _) ⟨⟨rfl,.inl rfl⟩,⟨rfl,.inl rfl⟩,⟨rfl,.inl rfl⟩,⟨rfl,.inl rfl⟩,trivial⟩ ⟨⟨rfl,by show _<4;omega,.inl rfl⟩,⟨rfl,by show _<4;omega,.inl rfl⟩,⟨rfl,by show _<4;omega,.inl rfl⟩,⟨rfl,by show _<4;omega,.inl rfl⟩,trivial⟩
 refine SW.rangeFunc (gf:=100) (first:=[]) (caps:=[.ptr 0 0]) (by rfl) nP ?_
 refine(show At Try.prog 100 [.yld 5,.ptr 0 0] ⟨Xt g Y nl3,6⟩ _ from hkeys _ ?_)
 refine⟨Rt,rfl,(fun h=>by simp[Rt] at h),?_⟩
 obtain⟨m,rfl⟩:∃ m,L=m+1:=⟨L-1,by omega⟩
 obtain⟨G,hG⟩:∃ G,G=flatG 1 (Bc V) (m+1):=⟨_,rfl⟩
 show SW Try.prog none _ _ ⟨⟨24,getT pZ⟩,[4]⟩ ⟨(5,.loop { Rt with state:=.exhausted})::(4,.dfr)::(3,.cells none false [.sl 6 0 (m+1) 1 false])::(2,.cells none false [iV 0,iV 0])::(1,.cells none false [.fn (.func g) [] []])::(0,.cells none true [Y])::[(6,.cells none false (flatG 1 (Bc V) (m+1)))],7⟩
 rw[←hG]
 refine SW.pre (f2:=⟨⟨24,getT [(4,.ptr 2 0),(5,.ptr 3 0)]⟩,[4]⟩) (st2:=⟨[(6,.cells none false G),(4,.dfr),(3,.cells none false [.sl 6 0 (m+1) 1 false]),(2,.cells none false [iV 0,iV 0])],7⟩) ?_ ?_
 ·exact Cw.by rfl rfl (fun id h=>by rw[List.mem_singleton.1 h];show 4<7;omega) (Nat.le_refl _) (Nat.le_refl _) ⟨⟨rfl,.inl rfl⟩,⟨rfl,.inl rfl⟩,trivial⟩ ⟨⟨rfl,by show _<7;omega,.inl rfl⟩,⟨rfl,by show _<7;omega,.inl rfl⟩,⟨rfl,by show _<7;omega,.inl rfl⟩,⟨rfl,by show _<7;omega,.inl rfl⟩,trivial⟩
 refine SW.Hx (fun j=>Nat.beq j 6) 3 (by rfl) ?_
 obtain⟨NN,hNN⟩:∃ NN,NN=m+1:=⟨_,rfl⟩
 refine SW.wL (f2:=⟨⟨24,getT [(4,.ptr 2 0),(5,.ptr 3 0)]⟩,[4]⟩) (st2:=⟨[(4,.dfr),(3,.cells none false [Ak NN false V]),(2,.cells none false [iV 0,iV 0])]++[],7⟩) (ρ:=Du 7 7) ?_ ?_
 ·refine Bu.up rfl rfl (fun id h=>by rw[List.mem_singleton.1 h];show 4<7;omega) (Nat.le_refl _) (.inl rfl) (Nat.le_refl _) ⟨Ad.ptr (by omega),Ad.ptr (by omega),trivial⟩
   ⟨⟨by omega,_,rfl,.dfr,.inr rfl⟩,⟨by omega,_,rfl,.cells (.cons (Ad.eqv (Ad.closed (Ap _ _ _)) ?_) .nil),.inr rfl⟩,⟨by omega,_,rfl,.cells (.cons (Ad.closed Below.lit) (.cons (Ad.closed Below.lit) .nil)),.inr rfl⟩,trivial⟩ (fun p hp=>by cases hp)
  rw[Dq (fm:=none) (G:=G) rfl rfl (by rw[hG,Aq];omega),hNN]
  exact Eqv.isl rfl fun i k hi hk=>Eqv.of (by rw[hG];exact Eb hi hk rfl)
 have hN0:(0:Int)<Int.ofNat NN:=by rw[hNN];exact Int.ofNat_lt.2 (Nat.succ_pos m)
 have hmin:leN (V 0) (fun i=>V (1+i)) m=lo:=by
  obtain⟨⟨h1,h2⟩,h3⟩:=Tz (V 0) (fun i=>V (1+i)) m
  obtain⟨i,hi,hVi⟩:=hlo
  have hge:leN (V 0) (fun i=>V (1+i)) m≤lo:=by
   rw[←hVi]
   cases i with
   | zero=>exact h1
   | succ i =>
    have h4:leN (V 0) (fun i=>V (1+i)) m≤V (1+i):=h2 i (by omega)
    rw[show 1+i=i+1 by omega] at h4;exact h4
  have hle:lo≤leN (V 0) (fun i=>V (1+i)) m:=by
   rcases h3 with h3|⟨j,hj,h3⟩
   ·rw[h3];exact hlo' 0 (by omega)
   ·rw[h3];exact hlo' (1+j) (by omega)
  omega
 have hmax:grN (V 0) (fun i=>V (i+1)) m=hi:=by
  obtain⟨⟨h1,h2⟩,h3⟩:=Ue (V 0) (fun i=>V (i+1)) m
  obtain⟨i,hi',hVi⟩:=hhi
  have hge:hi≤grN (V 0) (fun i=>V (i+1)) m:=by
   rw[←hVi]
   cases i with
   | zero=>exact h1
   | succ i=>exact h2 i (by omega)
  have hle:grN (V 0) (fun i=>V (i+1)) m≤hi:=by
   rcases h3 with h3|⟨j,hj,h3⟩
   ·rw[h3];exact hhi' 0 (by omega)
   ·rw[h3];exact hhi' (j+1) (by omega)
  omega
 have c97:Pure Try.prog 97 [iV (V (O.nat 0)),.isl (O.sub NN (O.nat 1)) 1 false (fun i=>Bc V (O.add (O.nat 1) i))] (iV lo):=by
  subst hO
  show Pure Try.prog 97 [iV (V 0),Ak (NN-1) false (fun i=>V (1+i))] (iV lo)
  rw[hNN,Nat.add_sub_cancel,←hmin]
  exact aC (V 0) m false (fun i=>V (1+i)) (by omega)
 have c98:Pure Try.prog 98 [.isl NN 1 false (Bc V)] (iV hi):=by
  have:=Rh NN false V (by omega) (by omega)
  rw[hNN,Nat.add_sub_cancel,hmax,←hNN] at this
  exact this
 refine SW.Bv tok mixed hO (by rfl) (by cbv<;>rfl) ?_ ?_
 ·have hn1:O.nat 1=1:=by subst hO;rfl
  refine⟨?_,Nat.le_refl _,(by decide:(0:Int)≤1),Int.le_refl _,hN0⟩
  show O.nat 1≤NN
  rw[hn1];omega
 refine AnyE.Al c97 (by cbv<;>rfl) (by cbv<;>rfl) ?_
 refine AnyE.run tok hO (by rfl) (by cbv<;>rfl) (by trivial) ?_
 refine AnyE.Al c98 (by cbv<;>rfl) (by cbv<;>rfl) ?_
 refine AnyE.run tok hO (by rfl) (by cbv<;>rfl) (by trivial) ?_
 refine AnyE.eff tok hO (by cbv<;>rfl) (by cbv<;>rfl) (by trivial) ?_
 refine AnyE.done (by rfl) ?_
 exact SW.ret ⟨_,_,rfl,rfl,rfl,Eqv.of rfl⟩
theorem tB (g:FuncId)(nw nl:Nat)(A B C D:Nat→Nat→Int)(a b c e:Nat→Int)(L:Nat)(h0L:0<L)(hL:L<100000)(V:Nat→Int)
  (hof:∀ i,i<L→Pure Try.prog g [.agg [Ak nw false (A i),Ak nl false (B i),Ak nw false (C i),Ak nw false (D i),iV (a i),iV (b i),iV (c i),iV (e i)]] (iV (V i)))(lo hi:Int)
  (hlo:∃ i,i<L∧V i=lo)(hlo':∀ i,i<L→lo≤V i)(hhi:∃ i,i<L∧V i=hi)(hhi':∀ i,i<L→V i≤hi){st:St}{bid:Nat}{fm:Option Nat}{ro:Bool}
  (hc:st.h.get bid=some (.cells fm ro [.isl L 8 false (outX nw nl A B C D a b c e)])) :
  At Try.prog 65 [.fn (.func 100) [] [.ptr bid 0],.fn (.func g) [] []] st (fun v st'=>v=Fb lo hi∧st'=st):=by
 refine gE (args2:=[.fn (.func 100) [] [.ptr 0 0],.fn (.func g) [] []]) hc (fun x hx=>by rw[List.mem_singleton.1 hx];exact Is _ _ _ _ _ _ _ _ _ _ _) (Below.agg (Br.ok ⟨Below.lit,Below.lit,trivial⟩)) (fun φ us h=>?_) (bL g nw nl A B C D a b c e L h0L hL V hof lo hi hlo hlo' hhi hhi')
 cases h with
 | cons h1 h2 =>
  obtain⟨us1,vs1,rfl,k1,k2⟩:=h1.Gf
  cases h2 with
  | cons h3 h4 =>
   obtain⟨us2,vs2,rfl,k3,k4⟩:=h3.Gf
   cases h4
   cases k1;cases k3;cases k4
   cases k2 with
   | cons k5 k6 =>
    cases k6
    obtain⟨rfl,_⟩:=k5.Dn
    refine .cons (.fn _ .nil (.cons ?_ .nil)) (.cons (.fn _ .nil .nil) .nil)
    exact VR.ptr (φ:=⟨fun _=>φ.f bid,1,φ.z⟩) 0 0 (by show 0<1;omega)
end Go.Fz
namespace Go.Fz
open Go.Proofs
set_option maxRecDepth 100000
def rZ (p:Int × Int):PK:=if h:inK p=true then⟨p,h⟩ else⟨(0,0),rfl⟩
theorem kI {p:Int × Int}(h:inK p=true):(rZ p).1=p:=by unfold rZ;rw[dif_pos h]
theorem iJ (f s:Int):Pure Try.prog 61 [Wb f s] (iV f):=by
 obtain⟨O,hO⟩:∃ O:Ar,O=std:=⟨_,rfl⟩
 refine Ae tok 3 Try.func61 qE rfl ⟨Below.agg (Br.ok ⟨Below.lit,Below.lit,trivial⟩),trivial⟩ Below.lit ?_
 refine SW.Ab tok hO (by cbv<;>rfl) (by trivial) ?_
 refine SW.Ab tok hO (by cbv<;>rfl) (by trivial) ?_
 exact SW.ret ⟨_,_,rfl,rfl,Eqv.of rfl⟩
section
variable (nw nl:Nat)(f0 f1 f2 f3:Nat→Int)(z4 z5 z6 z7:Int)
theorem Lp:Below 0 (.agg [Ak nw false f0,Ak nl false f1,Ak nw false f2,Ak nw false f3,iV z4,iV z5,iV z6,iV z7]) :=
 Below.agg (Br.ok ⟨Ap _ _ _,Ap _ _ _,Ap _ _ _,Ap _ _ _,Below.lit,Below.lit,Below.lit,Below.lit,trivial⟩)
theorem pK:Pure Try.prog 66 [.agg [Ak nw false f0,Ak nl false f1,Ak nw false f2,Ak nw false f3,iV z4,iV z5,iV z6,iV z7]] (iV z4):=by
 obtain⟨O,hO⟩:∃ O:Ar,O=std:=⟨_,rfl⟩
 refine Ae tok 3 Try.func66 tX rfl ⟨Lp _ _ _ _ _ _ _ _ _ _,trivial⟩ Below.lit ?_
 refine SW.Ab tok hO (by cbv<;>rfl) (by trivial) ?_
 refine SW.Ab tok hO (by cbv<;>rfl) (by trivial) ?_
 exact SW.ret ⟨_,_,rfl,rfl,Eqv.of rfl⟩
theorem pJ:Pure Try.prog 67 [.agg [Ak nw false f0,Ak nl false f1,Ak nw false f2,Ak nw false f3,iV z4,iV z5,iV z6,iV z7]] (iV z5):=by
 obtain⟨O,hO⟩:∃ O:Ar,O=std:=⟨_,rfl⟩
 refine Ae tok 3 Try.func67 tW rfl ⟨Lp _ _ _ _ _ _ _ _ _ _,trivial⟩ Below.lit ?_
 refine SW.Ab tok hO (by cbv<;>rfl) (by trivial) ?_
 refine SW.Ab tok hO (by cbv<;>rfl) (by trivial) ?_
 exact SW.ret ⟨_,_,rfl,rfl,Eqv.of rfl⟩
theorem pI:Pure Try.prog 68 [.agg [Ak nw false f0,Ak nl false f1,Ak nw false f2,Ak nw false f3,iV z4,iV z5,iV z6,iV z7]] (iV z6):=by
 obtain⟨O,hO⟩:∃ O:Ar,O=std:=⟨_,rfl⟩
 refine Ae tok 3 Try.func68 tV rfl ⟨Lp _ _ _ _ _ _ _ _ _ _,trivial⟩ Below.lit ?_
 refine SW.Ab tok hO (by cbv<;>rfl) (by trivial) ?_
 refine SW.Ab tok hO (by cbv<;>rfl) (by trivial) ?_
 exact SW.ret ⟨_,_,rfl,rfl,Eqv.of rfl⟩
theorem pH:Pure Try.prog 69 [.agg [Ak nw false f0,Ak nl false f1,Ak nw false f2,Ak nw false f3,iV z4,iV z5,iV z6,iV z7]] (iV z7):=by
 obtain⟨O,hO⟩:∃ O:Ar,O=std:=⟨_,rfl⟩
 refine Ae tok 3 Try.func69 tU rfl ⟨Lp _ _ _ _ _ _ _ _ _ _,trivial⟩ Below.lit ?_
 refine SW.Ab tok hO (by cbv<;>rfl) (by trivial) ?_
 refine SW.Ab tok hO (by cbv<;>rfl) (by trivial) ?_
 exact SW.ret ⟨_,_,rfl,rfl,Eqv.of rfl⟩
end
set_option maxHeartbeats 16000000 in
theorem sW (d:Ah)(w:Nat)(hw:w<d.nw)(hnl:d.nl<1000)(L:Nat)(hL:L<100000)(A B C D:Nat→Nat→Int)(a b c e:Nat→Int)(mb:Option Nat)(K:Nat→PK)(hin:∀ i,i<L→(K i).1=(A i w,stemN d (B i) w d.nl)) :
  Vd Try.prog 58 [.agg [iV d.hand,iV d.flat,Dj d,Dx d,Eo d,.isl L 8 false (outX d.nw d.nl A B C D a b c e),.lit (.map mb)],iV w] (fun k=>.mp k) (Bp pkV (pkP K L).1) (pkP K L).2:=by
 obtain⟨O,hO⟩:∃ O:Ar,O=std:=⟨_,rfl⟩
 have hnat:∀ i:Nat,O.nat (Int.ofNat i)=i:=fun i=>by subst hO;rfl
 have hGb:=Is d.nw d.nl A B C D a b c e L
 have hcl:∀ E:List (PK × Nat),∀ x∈Bp pkV E,Below 0 x.1∧Below 0 x.2.1:=fun E x hx=>by
  obtain⟨p,_,rfl⟩:=List.mem_map.1 hx
  exact⟨Kk _,Below.lit⟩
 have hcells:∀ x∈[iV d.hand,iV d.flat,Dj d,Dx d,Eo d,.isl L 8 false (outX d.nw d.nl A B C D a b c e),.lit (.map mb)],Below 0 x:=Br.ok ⟨Below.lit,Below.lit,Be d,Bh d,Ci d,hGb,Below.lit,trivial⟩
 refine Jv tok 3 Try.func58 mR rfl ⟨Below.agg hcells,Below.lit,trivial⟩ (hcl _) ?_
 refine SW.Ab tok hO (by cbv<;>rfl) (by trivial) ?_
 refine SW.seq (SW.runN tok hO 0 (by cbv<;>rfl) (by trivial) ?_)
 refine Ac.mkMap (by rfl) ?_
 refine Ac.run tok hO (by cbv<;>rfl) (by trivial) ?_
 refine SW.seq ?_
 refine SW.Ab tok hO (by cbv<;>rfl) (by trivial) ?_
 refine(SW.block (SW.wY (fun i:Nat=>⟨⟨25,getT [(1,iV w),(2,.ptr 0 0),(5,.mp 1),(10,.isl L 8 false (outX d.nw d.nl A B C D a b c e)),(11,iV L),(12,iV i)]⟩,[]⟩)
  (fun i=>⟨[(1,.map (Bp pkV (pkP K i).1) (pkP K i).2),(0,.cells none false [iV d.hand,iV d.flat,Dj d,Dx d,Eo d,.isl L 8 false (outX d.nw d.nl A B C D a b c e),.lit (.map mb)])],2⟩) (fun i=>L-i) (fun i=>i≤L) 0
  (fun _=>rfl) (Nat.zero_le _) (Cw.by rfl rfl (by simp) (Nat.le_refl _) (Nat.le_refl _) ⟨⟨rfl,.inl rfl⟩,⟨rfl,.inl rfl⟩,⟨rfl,.inl rfl⟩,⟨rfl,.inl rfl⟩,⟨rfl,.inl rfl⟩,⟨rfl,.inl rfl⟩,trivial⟩ ⟨⟨rfl,by show 1<2;omega,.inl rfl⟩,⟨rfl,by show 0<2;omega,.inl rfl⟩,trivial⟩) fun i hi=>?_))
 obtain⟨E,hE⟩:∃ E,(pkP K i).1=E:=⟨_,rfl⟩
 obtain⟨c2,hc2⟩:∃ E,(pkP K i).2=E:=⟨_,rfl⟩
 rw[hE,hc2]
 obtain⟨ME2,hME2⟩:∃ m,Bp pkV E=m:=⟨_,rfl⟩
 have hclE:=hcl E
 rw[hME2] at hclE ⊢
 refine SW.Ab tok hO (by cbv<;>rfl) (by trivial) ?_
 refine SW.seq (SW.Bd (by cbv<;>rfl) (fun h=>SW.skip ?_) (fun h=>SW.exit ?_))
 ·have hlt:i<L:=by subst hO;simpa[std] using h
  have hi0:(0:Int)≤Int.ofNat i:=Int.natCast_nonneg i
  have hp:=eX d ⟨d.nw,false,A i,d.nl,false,B i⟩ w hw (Nat.le_refl _) hnl
  have hk:=hin i hlt
  have hp2:Pure Try.prog 96 [Di d,.agg [Ak d.nw false (A i),Ak d.nl false (B i)],iV w] (pkV (K i)):=by
   have e1:pkV (K i)=Wb (A i w) (stemN d (B i) w d.nl):=by unfold pkV;rw[hk];rfl
   rw[e1];exact hp
  have hev:∀ f:Nat→Nat→Int,f i=f (O.nat (Int.ofNat i)):=fun f=>by rw[hnat]
  rw[hev A,hev B] at hp2
  obtain⟨kk,hkk⟩:∃ k,K i=k:=⟨_,rfl⟩
  rw[hkk] at hp2
  have hpk:pkV kk=.agg [iV kk.1.1,iV kk.1.2]:=rfl
  refine SW.seq (SW.block ?_)
  refine SW.Ab tok hO (by cbv<;>rfl) ?_ ?_
  ·exact⟨hi0,Int.ofNat_lt.2 hlt⟩
  refine SW.runN tok hO 6 (by cbv<;>rfl) (by trivial) ?_
  refine Ac.Al hp2 (by cbv<;>rfl) ?_
  refine Ac.dD tok Ub wN (b:=kk) (id:=1) (E:=E) (clock:=c2) (by cbv<;>rfl) (by kernel_rfl) (by rw[hME2];rfl) ?_
  have hs:pkP K (i+1)=(Gv E kk c2,Nz E kk c2):=by rw[←hE,←hc2,←hkk];rfl
  have hclE3:=hcl (Gv E kk c2)
  obtain⟨ME3,hME3⟩:∃ m,Bp pkV (Gv E kk c2)=m:=⟨_,rfl⟩
  obtain⟨c3,hc3⟩:∃ m,Nz E kk c2=m:=⟨_,rfl⟩
  rw[hME3] at hclE3
  rw[hME3,hc3]
  refine Ac.nil ?_
  refine SW.run tok hO (by cbv<;>rfl) (by trivial) ?_
  refine⟨i+1,by omega,hlt,?_⟩
  rw[hs]
  simp only
  rw[hME3,hc3]
  refine Va.by rfl rfl (fun _ h=>nomatch h) (Nat.le_refl _) (by show 2≤3;omega) ⟨⟨rfl,.inr Below.lit⟩,⟨rfl,.inr (Below.ptr (by omega))⟩,⟨rfl,.inr (Below.mp (by omega))⟩,⟨rfl,.inr (Below.up (m:=0) hGb)⟩,⟨rfl,.inr Below.lit⟩,⟨Dp hO (by omega),.inr Below.lit⟩,trivial⟩
   ⟨⟨rfl,by show 1<2;omega,.inr fun x hx=>⟨Below.up (m:=0) (hclE3 x hx).1,Below.up (m:=0) (hclE3 x hx).2⟩⟩,⟨rfl,by show 0<2;omega,.inr ⟨fun x hx=>Below.up (m:=0) (hcells x hx),fun _ h=>nomatch h⟩⟩,trivial⟩
 ·have hge:i=L:=by
   have:L≤i:=by subst hO;simpa[std] using h
   omega
  subst hge
  rw[hE,hc2,hME2]
  refine SW.Ab tok hO (by cbv<;>rfl) (by trivial) ?_
  exact SW.ret ⟨_,_,rfl,rfl,1,rfl,rfl,Ka.mp⟩
end Go.Fz
namespace Go.Fz
open Go.Proofs
set_option maxRecDepth 100000
section
theorem Bu.sB {n0:Nat}{tb:List (Nat × Nat)}{f1:Fm}{st1:St}{l:List (Nat × AV)}{len:Nat}{dm:List Nat}{h2:Hp}{n2:Nat}(F:Nat→Option Nat)(hF:∀ i j f,F i=some f→F j=some f→i=j)(e1:len=f1.ts.len)(e2:dm=f1.dm)(e3:∀ id∈dm,id<n0)(hid:(tb.all fun p=>Nat.ble n0 p.1)=true)(lo:n0≤n2)
  (hinj:(h2.all fun p=>h2.all fun q=>!(Nat.beq (tabR tb p.1) (tabR tb q.1))||Nat.beq p.1 q.1)=true)
  (get:Hl (fun p=>Ad (tabR tb) n2 p.2 (f1.ts.get p.1)) l)(obj:Hl (fun p=>p.1<n2∧∃ o1,st1.h.get (tabR tb p.1)=some o1∧Hc (tabR tb) n2 p.2 o1∧o1.fam=F p.1) h2):Bu n0 (tabR tb) f1 st1 ⟨⟨len,getT l⟩,dm⟩ ⟨h2,n2⟩:=by
 have ho:=obj.ok
 have hj:=Uc hinj
 refine⟨e1,e2,e3,Wv hid,fun i=>?_,lo,fun id o h=>?_,fun i j oi oj hi hj' hij pi pj h1 h2=>⟨fun h=>hij ?_,fun⟨f,k1,k2⟩=>?_⟩⟩
 ·show Ad _ n2 (getT l i) _
  have hg:=get.ok
  clear get obj ho hj hinj
  induction l with
  | nil=>exact Ad.any
  | cons p r ih =>
   obtain⟨j,a⟩:=p
   simp only [getT]
   cases hb:Nat.beq j i with
   | true =>
    obtain rfl:=Nat.eq_of_beq_eq_true hb
    exact hg _ List.mem_cons_self
   | false=>exact ih fun q hq=>hg q (List.mem_cons_of_mem _ hq)
 ·obtain⟨h3,o1,h4,h5,_⟩:=ho _ (Hp.As h)
  exact⟨h3,o1,h4,h5⟩
 ·exact hj _ (Hp.As hi) _ (Hp.As hj') h
 ·obtain⟨_,o1,h3,_,h4⟩:=ho _ (Hp.As hi)
  obtain⟨_,o2,h5,_,h6⟩:=ho _ (Hp.As hj')
  rw[show tabR tb (i,oi).1=tabR tb i from rfl,h1] at h3
  rw[show tabR tb (j,oj).1=tabR tb j from rfl,h2] at h5
  cases h3;cases h5
  exact hij (hF i j f (h4.symm.trans k1) (h6.symm.trans k2))
end
theorem Qo (m:Nat)(st:St):At Try.prog 60 [.mp m] st (fun v st'=>v=.fn (.func 99) [] [.ptr st.n 0]∧st'=st.push (.cells none false [.mp m])):=by
 obtain⟨O,hO⟩:∃ O:Ar,O=std:=⟨_,rfl⟩
 refine Bb tok Try.func60 rfl ?_
 refine SW.Ab tok hO (by cbv<;>rfl) (by trivial) ?_
 refine SW.Ab tok hO (by cbv<;>rfl) (by trivial) ?_
 exact SW.ret ⟨_,_,rfl,rfl,rfl,rfl⟩
theorem kC (L:Nat)(G:Nat→Nat→AV)(st:St):At Try.prog 64 [.isl L 8 false G] st (fun v st'=>v=.fn (.func 100) [] [.ptr st.n 0]∧st'=st.push (.cells none false [.isl L 8 false G])):=by
 obtain⟨O,hO⟩:∃ O:Ar,O=std:=⟨_,rfl⟩
 refine Bb tok Try.func64 rfl ?_
 refine SW.Ab tok hO (by cbv<;>rfl) (by trivial) ?_
 refine SW.Ab tok hO (by cbv<;>rfl) (by trivial) ?_
 exact SW.ret ⟨_,_,rfl,rfl,rfl,rfl⟩
structure oG (d:Ah)(Y:AV)(lo0 hi0 lo1 hi1 lo2 hi2:Nat→Int)(w:Nat)(ME:List (AV × AV × Nat))(c:Nat):Prop where
 cl:∀ x∈ME,Below 0 x.1∧Below 0 x.2.1
 had:∀ st,At Try.prog 58 [.agg [iV d.hand,iV d.flat,Dj d,Dx d,Eo d,Y,.mp 2],iV w] st (fun v st'=>v=.mp st.n∧st'=st.push (.map ME c))
 e61:∀ {st:St}{mid bid:Nat}{fm:Option Nat}{ro:Bool},st.h.get mid=some (.map ME c)→st.h.get bid=some (.cells fm ro [.mp mid])→At Try.prog 59 [.fn (.func 99) [] [.ptr bid 0],.fn (.func 61) [] []] st (fun v st'=>v=Fb (lo0 w) (hi0 w)∧st'=st)
 e62:∀ {st:St}{mid bid:Nat}{fm:Option Nat}{ro:Bool},st.h.get mid=some (.map ME c)→st.h.get bid=some (.cells fm ro [.mp mid])→At Try.prog 59 [.fn (.func 99) [] [.ptr bid 0],.fn (.func 62) [] []] st (fun v st'=>v=Fb (lo1 w) (hi1 w)∧st'=st)
 e63:∀ {st:St}{mid bid:Nat}{fm:Option Nat}{ro:Bool},st.h.get mid=some (.map ME c)→st.h.get bid=some (.cells fm ro [.mp mid])→At Try.prog 59 [.fn (.func 99) [] [.ptr bid 0],.fn (.func 63) [] []] st (fun v st'=>v=Fb (lo2 w) (hi2 w)∧st'=st)
def Vb (Y:AV)(g:FuncId)(lo hi:Int):Prop:=∀ {st:St}{bid:Nat}{fm:Option Nat}{ro:Bool},st.h.get bid=some (.cells fm ro [Y])→At Try.prog 65 [.fn (.func 100) [] [.ptr bid 0],.fn (.func g) [] []] st (fun v st'=>v=Fb lo hi∧st'=st)
def xN (nw:Nat)(lo0 hi0 lo1 hi1 lo2 hi2:Nat→Int)(p q r s t u v w:Int):List AV:=[.isl nw 2 false (rngC lo0 hi0),.isl nw 2 false (rngC lo1 hi1),.isl nw 2 false (rngC lo2 hi2),iV p,iV q,iV r,iV s,iV t,iV u,iV v,iV w]
def nZ:List AV:=[nl3,nl3,nl3,iV 0,iV 0,iV 0,iV 0,iV 0,iV 0,iV 0,iV 0]
def xM (A B C:AV):List AV:=[A,B,C,iV 0,iV 0,iV 0,iV 0,iV 0,iV 0,iV 0,iV 0]
theorem Et (lo hi:Nat→Int)(i k:Nat):Below 0 (rngC lo hi i k):=by unfold rngC;split<;>exact Below.lit
def rL (j:Nat):Option Nat:=if j=5∨j=6∨j=7 then some j else none
theorem oH:∀ i j f,rL i=some f→rL j=some f→i=j:=fun i j f hi hj=>by
 unfold rL at hi hj
 split at hi
 ·split at hj
  ·cases hi;cases hj;rfl
  ·cases hj
 ·cases hi
set_option maxHeartbeats 64000000 in
theorem bU (d:Ah)(hpos:0<d.nw)(hnw:d.nw≤4)(L:Nat)(G:Nat→Nat→AV)(hY:Below 0 (.isl L 8 false G))(ME:List (AV × AV × Nat))(cl:Nat)
  (lo0 hi0 lo1 hi1 lo2 hi2:Nat→Int)(p q r s t u v w:Int)
  (e2:Vd Try.prog 57 [Di d,.lit (.bool true)] (fun k=>.tup [.agg [iV d.hand,iV d.flat,Dj d,Dx d,Eo d,.isl L 8 false G,.mp k],iV 0]) ME cl)
  (hw:∀ i,i<d.nw→∃ M c,oG d (.isl L 8 false G) lo0 hi0 lo1 hi1 lo2 hi2 i M c)
  (h66:Vb (.isl L 8 false G) 66 p q)(h67:Vb (.isl L 8 false G) 67 r s)(h68:Vb (.isl L 8 false G) 68 t u)(h69:Vb (.isl L 8 false G) 69 v w) :
  Pure Try.prog 18 [Di d] (.tup [.agg (xN d.nw lo0 hi0 lo1 hi1 lo2 hi2 p q r s t u v w),iV 0]):=by
 obtain⟨O,hO⟩:∃ O:Ar,O=std:=⟨_,rfl⟩
 have hnat:∀ i:Nat,O.nat (Int.ofNat i)=i:=fun i=>by subst hO;rfl
 have hcells:∀ x∈[iV d.hand,iV d.flat,Dj d,Dx d,Eo d,.isl L 8 false G],Below 0 x:=Br.ok ⟨Below.lit,Below.lit,Be d,Bh d,Ci d,hY,trivial⟩
 refine Ae tok 5 Try.func18 qG rfl ⟨Ax d,trivial⟩ (Below.tup (Br.ok ⟨Below.agg (Br.ok ⟨Below.isl fun i k _ _=>Et _ _ i k,Below.isl fun i k _ _=>Et _ _ i k,Below.isl fun i k _ _=>Et _ _ i k,Below.lit,Below.lit,Below.lit,Below.lit,Below.lit,Below.lit,Below.lit,Below.lit,trivial⟩),Below.lit,trivial⟩)) ?_
 refine SW.Ab tok hO (by cbv<;>rfl) (by trivial) ?_
 refine SW.seq (SW.runN tok hO 1 (by cbv<;>rfl) (by trivial) ?_)
 refine Ac.Ep e2.ent (e2.call _) (by cbv<;>rfl) fun v1 st' hk=>?_
 obtain⟨rfl,rfl⟩:=hk
 refine Ac.run tok hO (by cbv<;>rfl) (by trivial) ?_
 refine SW.seq ?_
 refine SW.Ab tok hO (by cbv<;>rfl) (by trivial) ?_
 refine SW.Bd (by cbv<;>rfl) (fun h1=>?_) (fun h1=>SW.skip ?_)
 ·exfalso
  subst hO;simp[std] at h1
 refine SW.Ab tok hO (by cbv<;>rfl) (by trivial) ?_
 refine SW.seq ?_
 refine SW.Ab tok hO (by cbv<;>rfl) (by trivial) ?_
 refine(SW.block (SW.Mo (fun i:Nat=>⟨⟨70,getT [(2,.ptr 1 0),(4,.ptr 3 0),(6,.ptr 4 0),(22,iV d.nw),(23,iV i)]⟩,[]⟩)
  (fun i=>⟨[(4,.cells none false (xM (slG 5 2 i) (slG 6 2 i) (slG 7 2 i))),(3,.cells none false [iV d.hand,iV d.flat,Dj d,Dx d,Eo d,.isl L 8 false G,.mp 2]),(1,.cells none false nZ)]++(objG 5 2 (rngC lo0 hi0) i++(objG 6 2 (rngC lo1 hi1) i++objG 7 2 (rngC lo2 hi2) i)),8⟩) (fun i=>d.nw-i) (fun i=>i≤d.nw) 0 (Nat.zero_le _) (tabR []) ?_ fun i hi=>?_))
 ·exact Bu.sB (fun _=>none) (fun _ _ _ h=>nomatch h) rfl rfl (by simp) (by rfl) (by show 5≤8;omega) (by rfl) ⟨Ad.ptr (by omega),Ad.ptr (by omega),Ad.ptr (by omega),Ad.closed Below.lit,Ad.closed Below.lit,trivial⟩
   ⟨⟨by omega,_,rfl,.cells (.cons (Ad.closed Below.lit) (.cons (Ad.closed Below.lit) (.cons (Ad.closed Below.lit) (.cons (Ad.closed Below.lit) (.cons (Ad.closed Below.lit) (.cons (Ad.closed Below.lit) (.cons (Ad.closed Below.lit) (.cons (Ad.closed Below.lit) (.cons (Ad.closed Below.lit) (.cons (Ad.closed Below.lit) (.cons (Ad.closed Below.lit) .nil))))))))))),rfl⟩,
    ⟨by omega,_,rfl,.cells (.cons (Ad.closed Below.lit) (.cons (Ad.closed Below.lit) (.cons (Ad.closed (Be d)) (.cons (Ad.closed (Bh d)) (.cons (Ad.closed (Ci d)) (.cons (Ad.closed hY) (.cons (Ad.mp (by omega)) .nil))))))),rfl⟩,
    ⟨by omega,_,rfl,.cells (Ay.closed (Br.ok ⟨Below.lit,Below.lit,Below.lit,Below.lit,Below.lit,Below.lit,Below.lit,Below.lit,Below.lit,Below.lit,Below.lit,trivial⟩)),rfl⟩,trivial⟩
 cases i with
 | zero =>
  refine SW.Ab tok hO (by cbv<;>rfl) (by trivial) ?_
  refine SW.seq (SW.Bd (by cbv<;>rfl) (fun h=>SW.skip ?_) (fun h=>?_))
  ·obtain⟨M,c,HW⟩:=hw 0 hpos
   have k61:=fun {st:St}{mid bid:Nat}{fm:Option Nat}{ro:Bool}(h1:st.h.get mid=some (.map M c))(h2:st.h.get bid=some (.cells fm ro [.mp mid]))=>HW.e61 h1 h2
   have k62:=fun {st:St}{mid bid:Nat}{fm:Option Nat}{ro:Bool}(h1:st.h.get mid=some (.map M c))(h2:st.h.get bid=some (.cells fm ro [.mp mid]))=>HW.e62 h1 h2
   have k63:=fun {st:St}{mid bid:Nat}{fm:Option Nat}{ro:Bool}(h1:st.h.get mid=some (.map M c))(h2:st.h.get bid=some (.cells fm ro [.mp mid]))=>HW.e63 h1 h2
   have khad:=HW.had
   obtain⟨a0,ha0⟩:∃ x,lo0 0=x:=⟨_,rfl⟩
   obtain⟨b0,hb0⟩:∃ x,hi0 0=x:=⟨_,rfl⟩
   obtain⟨a1,ha1⟩:∃ x,lo1 0=x:=⟨_,rfl⟩
   obtain⟨b1,hb1⟩:∃ x,hi1 0=x:=⟨_,rfl⟩
   obtain⟨a2,ha2⟩:∃ x,lo2 0=x:=⟨_,rfl⟩
   obtain⟨b2,hb2⟩:∃ x,hi2 0=x:=⟨_,rfl⟩
   rw[ha0,hb0] at k61
   rw[ha1,hb1] at k62
   rw[ha2,hb2] at k63
   refine SW.seq (SW.block ?_)
   refine SW.Ab tok hO (by cbv<;>rfl) (by trivial) ?_
   refine SW.seq (SW.runN tok hO 2 (by cbv<;>rfl) (by trivial) ?_)
   refine Ac.Ep mR (khad _) (by cbv<;>rfl) fun v1 st' hk=>?_
   obtain⟨rfl,rfl⟩:=hk
   refine Ac.run tok hO (by cbv<;>rfl) (by trivial) ?_
   refine SW.Bv tok mixed hO (by rfl) (by cbv<;>rfl) (by trivial) ?_
   refine AnyE.many [3] (by cbv<;>rfl) (by rfl) ⟨?_,trivial⟩
   refine Ch.Wr bN (Qo 8 _) (by cbv<;>rfl) (by cbv<;>rfl) fun r st' hk=>?_
   obtain⟨rfl,rfl⟩:=hk
   refine⟨(by repeat (first|exact trivial|refine And.intro (by first|exact Ba hO (by cbv<;>rfl) (by trivial)|(cbv<;>rfl)) ?_)),?_⟩
   refine AnyE.run tok hO (by rfl) (by cbv<;>rfl) (by trivial) ?_
   refine AnyE.Ep Yb (k61 rfl rfl) (by cbv<;>rfl) (by cbv<;>rfl) ?_
   refine AnyE.run tok hO (by rfl) (by cbv<;>rfl) (by trivial) ?_
   refine AnyE.Cu tok hO (by cbv<;>rfl) (by cbv<;>rfl) (by trivial) ?_ ?_
   ·exact(by repeat (first|exact trivial|refine And.intro (by first|exact Ba hO (by cbv<;>rfl) (by trivial)|(cbv<;>rfl)) ?_))
   refine AnyE.run tok hO (by rfl) (by cbv<;>rfl) (by trivial) ?_
   refine AnyE.Gr tok (by cbv<;>rfl) (by cbv<;>rfl) (by rfl) (by kernel_rfl) (by rfl) (by rfl) ?_
   refine AnyE.run tok hO (by rfl) (by cbv<;>rfl) (by trivial) ?_
   refine AnyE.eff tok hO (by cbv<;>rfl) (by cbv<;>rfl) (by trivial) ?_
   refine AnyE.done (by rfl) ?_
   refine SW.Bv tok mixed hO (by rfl) (by cbv<;>rfl) (by trivial) ?_
   refine AnyE.many [3] (by cbv<;>rfl) (by rfl) ⟨?_,trivial⟩
   refine Ch.Wr bN (Qo 8 _) (by cbv<;>rfl) (by cbv<;>rfl) fun r st' hk=>?_
   obtain⟨rfl,rfl⟩:=hk
   refine⟨(by repeat (first|exact trivial|refine And.intro (by first|exact Ba hO (by cbv<;>rfl) (by trivial)|(cbv<;>rfl)) ?_)),?_⟩
   refine AnyE.run tok hO (by rfl) (by cbv<;>rfl) (by trivial) ?_
   refine AnyE.Ep Yb (k62 rfl rfl) (by cbv<;>rfl) (by cbv<;>rfl) ?_
   refine AnyE.run tok hO (by rfl) (by cbv<;>rfl) (by trivial) ?_
   refine AnyE.Cu tok hO (by cbv<;>rfl) (by cbv<;>rfl) (by trivial) ?_ ?_
   ·exact(by repeat (first|exact trivial|refine And.intro (by first|exact Ba hO (by cbv<;>rfl) (by trivial)|(cbv<;>rfl)) ?_))
   refine AnyE.run tok hO (by rfl) (by cbv<;>rfl) (by trivial) ?_
   refine AnyE.Gr tok (by cbv<;>rfl) (by cbv<;>rfl) (by rfl) (by kernel_rfl) (by rfl) (by rfl) ?_
   refine AnyE.run tok hO (by rfl) (by cbv<;>rfl) (by trivial) ?_
   refine AnyE.eff tok hO (by cbv<;>rfl) (by cbv<;>rfl) (by trivial) ?_
   refine AnyE.done (by rfl) ?_
   refine SW.runD tok mixed hO (by rfl) (by cbv<;>rfl) (by trivial) ?_
   refine AnyE.many [3] (by cbv<;>rfl) (by rfl) ⟨?_,trivial⟩
   refine Ch.Wr bN (Qo 8 _) (by cbv<;>rfl) (by cbv<;>rfl) fun r st' hk=>?_
   obtain⟨rfl,rfl⟩:=hk
   refine⟨(by repeat (first|exact trivial|refine And.intro (by first|exact Ba hO (by cbv<;>rfl) (by trivial)|(cbv<;>rfl)) ?_)),?_⟩
   refine AnyE.run tok hO (by rfl) (by cbv<;>rfl) (by trivial) ?_
   refine AnyE.Ep Yb (k63 rfl rfl) (by cbv<;>rfl) (by cbv<;>rfl) ?_
   refine AnyE.run tok hO (by rfl) (by cbv<;>rfl) (by trivial) ?_
   refine AnyE.Cu tok hO (by cbv<;>rfl) (by cbv<;>rfl) (by trivial) ?_ ?_
   ·exact(by repeat (first|exact trivial|refine And.intro (by first|exact Ba hO (by cbv<;>rfl) (by trivial)|(cbv<;>rfl)) ?_))
   refine AnyE.run tok hO (by rfl) (by cbv<;>rfl) (by trivial) ?_
   refine AnyE.Gr tok (by cbv<;>rfl) (by cbv<;>rfl) (by rfl) (by kernel_rfl) (by rfl) (by rfl) ?_
   refine AnyE.run tok hO (by rfl) (by cbv<;>rfl) (by trivial) ?_
   refine AnyE.eff tok hO (by cbv<;>rfl) (by cbv<;>rfl) (by trivial) ?_
   refine AnyE.done (by rfl) ?_
   refine SW.run tok hO (by cbv<;>rfl) (by trivial) ?_
   refine⟨1,by omega,by omega,tabR [(5,11),(6,14),(7,17)],?_⟩
   refine Bu.sB (fun _=>none) (fun _ _ _ h=>nomatch h) rfl rfl (by simp) (by rfl) (by show 5≤8;omega) (by rfl) ⟨Ad.ptr (by omega),Ad.ptr (by omega),Ad.ptr (by omega),Ad.closed Below.lit,Ad.inc hO (by omega),trivial⟩
    ⟨⟨by omega,_,rfl,.cells (.cons (Ad.sl (by omega)) (.cons (Ad.sl (by omega)) (.cons (Ad.sl (by omega)) (.cons (Ad.closed Below.lit) (.cons (Ad.closed Below.lit) (.cons (Ad.closed Below.lit) (.cons (Ad.closed Below.lit) (.cons (Ad.closed Below.lit) (.cons (Ad.closed Below.lit) (.cons (Ad.closed Below.lit) (.cons (Ad.closed Below.lit) .nil))))))))))),rfl⟩,
     ⟨by omega,_,rfl,.cells (.cons (Ad.closed Below.lit) (.cons (Ad.closed Below.lit) (.cons (Ad.closed (Be d)) (.cons (Ad.closed (Bh d)) (.cons (Ad.closed (Ci d)) (.cons (Ad.closed hY) (.cons (Ad.mp (by omega)) .nil))))))),rfl⟩,
     ⟨by omega,_,rfl,.cells (Ay.closed (Br.ok ⟨Below.lit,Below.lit,Below.lit,Below.lit,Below.lit,Below.lit,Below.lit,Below.lit,Below.lit,Below.lit,Below.lit,trivial⟩)),rfl⟩,
     ⟨by omega,_,rfl,.cells (Ay.of_eq (by rw[←ha0,←hb0];rfl) (Az (Et lo0 hi0) 1)),rfl⟩,⟨by omega,_,rfl,.cells (Ay.of_eq (by rw[←ha1,←hb1];rfl) (Az (Et lo1 hi1) 1)),rfl⟩,⟨by omega,_,rfl,.cells (Ay.of_eq (by rw[←ha2,←hb2];rfl) (Az (Et lo2 hi2) 1)),rfl⟩,trivial⟩
  ·exfalso
   have:d.nw≤0:=by subst hO;simpa[std] using h
   omega
 | succ i =>
  obtain⟨G0,hG0⟩:∃ G,G=flatG 2 (rngC lo0 hi0) (i+1):=⟨_,rfl⟩
  obtain⟨G1,hG1⟩:∃ G,G=flatG 2 (rngC lo1 hi1) (i+1):=⟨_,rfl⟩
  obtain⟨G2,hG2⟩:∃ G,G=flatG 2 (rngC lo2 hi2) (i+1):=⟨_,rfl⟩
  show SW _ _ _ _ _ ⟨[(4,.cells none false (xM (.sl 5 0 (i+1) 2 false) (.sl 6 0 (i+1) 2 false) (.sl 7 0 (i+1) 2 false))),(3,.cells none false [iV d.hand,iV d.flat,Dj d,Dx d,Eo d,.isl L 8 false G,.mp 2]),(1,.cells none false nZ)]++([(5,.cells none false (flatG 2 (rngC lo0 hi0) (i+1)))]++([(6,.cells none false (flatG 2 (rngC lo1 hi1) (i+1)))]++[(7,.cells none false (flatG 2 (rngC lo2 hi2) (i+1)))])),8⟩
  rw[←hG0,←hG1,←hG2]
  refine SW.Ab tok hO (by cbv<;>rfl) (by trivial) ?_
  refine SW.seq (SW.Bd (by cbv<;>rfl) (fun h=>SW.skip ?_) (fun h=>?_))
  ·have hlt:i+1<d.nw:=by
    have:((i+1:Nat):Int)<(d.nw:Int):=by subst hO;simpa[std] using h
    omega
   obtain⟨M,c,HW⟩:=hw (i+1) hlt
   have k61:=fun {st:St}{mid bid:Nat}{fm:Option Nat}{ro:Bool}(h1:st.h.get mid=some (.map M c))(h2:st.h.get bid=some (.cells fm ro [.mp mid]))=>HW.e61 h1 h2
   have k62:=fun {st:St}{mid bid:Nat}{fm:Option Nat}{ro:Bool}(h1:st.h.get mid=some (.map M c))(h2:st.h.get bid=some (.cells fm ro [.mp mid]))=>HW.e62 h1 h2
   have k63:=fun {st:St}{mid bid:Nat}{fm:Option Nat}{ro:Bool}(h1:st.h.get mid=some (.map M c))(h2:st.h.get bid=some (.cells fm ro [.mp mid]))=>HW.e63 h1 h2
   have khad:=HW.had
   obtain⟨a0,ha0⟩:∃ x,lo0 (i+1)=x:=⟨_,rfl⟩
   obtain⟨b0,hb0⟩:∃ x,hi0 (i+1)=x:=⟨_,rfl⟩
   obtain⟨a1,ha1⟩:∃ x,lo1 (i+1)=x:=⟨_,rfl⟩
   obtain⟨b1,hb1⟩:∃ x,hi1 (i+1)=x:=⟨_,rfl⟩
   obtain⟨a2,ha2⟩:∃ x,lo2 (i+1)=x:=⟨_,rfl⟩
   obtain⟨b2,hb2⟩:∃ x,hi2 (i+1)=x:=⟨_,rfl⟩
   rw[ha0,hb0] at k61
   rw[ha1,hb1] at k62
   rw[ha2,hb2] at k63
   refine SW.seq (SW.block ?_)
   refine SW.Ab tok hO (by cbv<;>rfl) (by trivial) ?_
   refine SW.seq (SW.runN tok hO 2 (by cbv<;>rfl) (by trivial) ?_)
   refine Ac.Ep mR (khad _) (by cbv<;>rfl) fun v1 st' hk=>?_
   obtain⟨rfl,rfl⟩:=hk
   refine Ac.run tok hO (by cbv<;>rfl) (by trivial) ?_
   refine SW.Bv tok mixed hO (by rfl) (by cbv<;>rfl) (by trivial) ?_
   refine AnyE.many [3] (by cbv<;>rfl) (by rfl) ⟨?_,trivial⟩
   refine Ch.Wr bN (Qo 8 _) (by cbv<;>rfl) (by cbv<;>rfl) fun r st' hk=>?_
   obtain⟨rfl,rfl⟩:=hk
   refine⟨(by repeat (first|exact trivial|refine And.intro (by first|exact Ba hO (by cbv<;>rfl) (by trivial)|(cbv<;>rfl)) ?_)),?_⟩
   refine AnyE.run tok hO (by rfl) (by cbv<;>rfl) (by trivial) ?_
   refine AnyE.Ep Yb (k61 rfl rfl) (by cbv<;>rfl) (by cbv<;>rfl) ?_
   refine AnyE.run tok hO (by rfl) (by cbv<;>rfl) (by trivial) ?_
   refine AnyE.Cu tok hO (by cbv<;>rfl) (by cbv<;>rfl) (by trivial) ?_ ?_
   ·exact(by repeat (first|exact trivial|refine And.intro (by first|exact Ba hO (by cbv<;>rfl) (by trivial)|(cbv<;>rfl)) ?_))
   refine AnyE.run tok hO (by rfl) (by cbv<;>rfl) (by trivial) ?_
   refine AnyE.Gi (g:=rngC lo0 hi0) (len:=i+1) tok (by cbv<;>rfl) (by cbv<;>rfl) (by rfl) (by rfl) hG0 (by kernel_rfl) (by rfl) (by rfl) (by omega) fun H0 hH0=>?_
   refine AnyE.run tok hO (by rfl) (by cbv<;>rfl) (by trivial) ?_
   refine AnyE.eff tok hO (by cbv<;>rfl) (by cbv<;>rfl) (by trivial) ?_
   refine AnyE.done (by rfl) ?_
   refine SW.Bv tok mixed hO (by rfl) (by cbv<;>rfl) (by trivial) ?_
   refine AnyE.many [3] (by cbv<;>rfl) (by rfl) ⟨?_,trivial⟩
   refine Ch.Wr bN (Qo 8 _) (by cbv<;>rfl) (by cbv<;>rfl) fun r st' hk=>?_
   obtain⟨rfl,rfl⟩:=hk
   refine⟨(by repeat (first|exact trivial|refine And.intro (by first|exact Ba hO (by cbv<;>rfl) (by trivial)|(cbv<;>rfl)) ?_)),?_⟩
   refine AnyE.run tok hO (by rfl) (by cbv<;>rfl) (by trivial) ?_
   refine AnyE.Ep Yb (k62 rfl rfl) (by cbv<;>rfl) (by cbv<;>rfl) ?_
   refine AnyE.run tok hO (by rfl) (by cbv<;>rfl) (by trivial) ?_
   refine AnyE.Cu tok hO (by cbv<;>rfl) (by cbv<;>rfl) (by trivial) ?_ ?_
   ·exact(by repeat (first|exact trivial|refine And.intro (by first|exact Ba hO (by cbv<;>rfl) (by trivial)|(cbv<;>rfl)) ?_))
   refine AnyE.run tok hO (by rfl) (by cbv<;>rfl) (by trivial) ?_
   refine AnyE.Gi (g:=rngC lo1 hi1) (len:=i+1) tok (by cbv<;>rfl) (by cbv<;>rfl) (by rfl) (by rfl) hG1 (by kernel_rfl) (by rfl) (by rfl) (by omega) fun H1 hH1=>?_
   refine AnyE.run tok hO (by rfl) (by cbv<;>rfl) (by trivial) ?_
   refine AnyE.eff tok hO (by cbv<;>rfl) (by cbv<;>rfl) (by trivial) ?_
   refine AnyE.done (by rfl) ?_
   refine SW.runD tok mixed hO (by rfl) (by cbv<;>rfl) (by trivial) ?_
   refine AnyE.many [3] (by cbv<;>rfl) (by rfl) ⟨?_,trivial⟩
   refine Ch.Wr bN (Qo 8 _) (by cbv<;>rfl) (by cbv<;>rfl) fun r st' hk=>?_
   obtain⟨rfl,rfl⟩:=hk
   refine⟨(by repeat (first|exact trivial|refine And.intro (by first|exact Ba hO (by cbv<;>rfl) (by trivial)|(cbv<;>rfl)) ?_)),?_⟩
   refine AnyE.run tok hO (by rfl) (by cbv<;>rfl) (by trivial) ?_
   refine AnyE.Ep Yb (k63 rfl rfl) (by cbv<;>rfl) (by cbv<;>rfl) ?_
   refine AnyE.run tok hO (by rfl) (by cbv<;>rfl) (by trivial) ?_
   refine AnyE.Cu tok hO (by cbv<;>rfl) (by cbv<;>rfl) (by trivial) ?_ ?_
   ·exact(by repeat (first|exact trivial|refine And.intro (by first|exact Ba hO (by cbv<;>rfl) (by trivial)|(cbv<;>rfl)) ?_))
   refine AnyE.run tok hO (by rfl) (by cbv<;>rfl) (by trivial) ?_
   refine AnyE.Gi (g:=rngC lo2 hi2) (len:=i+1) tok (by cbv<;>rfl) (by cbv<;>rfl) (by rfl) (by rfl) hG2 (by kernel_rfl) (by rfl) (by rfl) (by omega) fun H2 hH2=>?_
   refine AnyE.run tok hO (by rfl) (by cbv<;>rfl) (by trivial) ?_
   refine AnyE.eff tok hO (by cbv<;>rfl) (by cbv<;>rfl) (by trivial) ?_
   refine AnyE.done (by rfl) ?_
   refine SW.run tok hO (by cbv<;>rfl) (by trivial) ?_
   refine⟨i+1+1,by omega,by omega,tabR [(5,11),(6,14),(7,17)],?_⟩
   refine Bu.sB rL oH rfl rfl (by simp) (by rfl) (by show 5≤8;omega) (by rfl) ⟨Ad.ptr (by omega),Ad.ptr (by omega),Ad.ptr (by omega),Ad.closed Below.lit,Ad.inc hO (by omega),trivial⟩
    ⟨⟨by omega,_,rfl,.cells (.cons (Ad.sl (by omega)) (.cons (Ad.sl (by omega)) (.cons (Ad.sl (by omega)) (.cons (Ad.closed Below.lit) (.cons (Ad.closed Below.lit) (.cons (Ad.closed Below.lit) (.cons (Ad.closed Below.lit) (.cons (Ad.closed Below.lit) (.cons (Ad.closed Below.lit) (.cons (Ad.closed Below.lit) (.cons (Ad.closed Below.lit) .nil))))))))))),rfl⟩,
     ⟨by omega,_,rfl,.cells (.cons (Ad.closed Below.lit) (.cons (Ad.closed Below.lit) (.cons (Ad.closed (Be d)) (.cons (Ad.closed (Bh d)) (.cons (Ad.closed (Ci d)) (.cons (Ad.closed hY) (.cons (Ad.mp (by omega)) .nil))))))),rfl⟩,
     ⟨by omega,_,rfl,.cells (Ay.closed (Br.ok ⟨Below.lit,Below.lit,Below.lit,Below.lit,Below.lit,Below.lit,Below.lit,Below.lit,Below.lit,Below.lit,Below.lit,trivial⟩)),rfl⟩,
     ⟨by omega,_,rfl,.cells (Ay.of_eq (by rw[hH0,←ha0,←hb0];rfl) (Az (Et lo0 hi0) (i+1+1))),rfl⟩,⟨by omega,_,rfl,.cells (Ay.of_eq (by rw[hH1,←ha1,←hb1];rfl) (Az (Et lo1 hi1) (i+1+1))),rfl⟩,⟨by omega,_,rfl,.cells (Ay.of_eq (by rw[hH2,←ha2,←hb2];rfl) (Az (Et lo2 hi2) (i+1+1))),rfl⟩,trivial⟩
  ·have hge:d.nw=i+1:=by
    have:(d.nw:Int)≤((i+1:Nat):Int):=by subst hO;simpa[std] using h
    omega
   refine SW.exit ?_
   refine SW.seq (SW.runN tok hO 2 (by cbv<;>rfl) (by trivial) ?_)
   refine Ac.Ep tY (kC L G _) (by cbv<;>rfl) fun v1 st' hk=>?_
   obtain⟨rfl,rfl⟩:=hk
   refine Ac.run tok hO (by cbv<;>rfl) (by trivial) ?_
   refine SW.seq (SW.runN tok hO 1 (by cbv<;>rfl) (by trivial) ?_)
   refine Ac.Ep jE (h66 rfl) (by cbv<;>rfl) fun v1 st' hk=>?_
   obtain⟨rfl,rfl⟩:=hk
   refine Ac.run tok hO (by cbv<;>rfl) (by trivial) ?_
   refine SW.seq (SW.runN tok hO 1 (by cbv<;>rfl) (by trivial) ?_)
   refine Ac.Ep jE (h67 rfl) (by cbv<;>rfl) fun v1 st' hk=>?_
   obtain⟨rfl,rfl⟩:=hk
   refine Ac.run tok hO (by cbv<;>rfl) (by trivial) ?_
   refine SW.seq (SW.runN tok hO 1 (by cbv<;>rfl) (by trivial) ?_)
   refine Ac.Ep jE (h68 rfl) (by cbv<;>rfl) fun v1 st' hk=>?_
   obtain⟨rfl,rfl⟩:=hk
   refine Ac.run tok hO (by cbv<;>rfl) (by trivial) ?_
   refine SW.seq (SW.runN tok hO 1 (by cbv<;>rfl) (by trivial) ?_)
   refine Ac.Ep jE (h69 rfl) (by cbv<;>rfl) fun v1 st' hk=>?_
   obtain⟨rfl,rfl⟩:=hk
   refine Ac.run tok hO (by cbv<;>rfl) (by trivial) ?_
   refine SW.Ab tok hO (by cbv<;>rfl) (by trivial) ?_
   rw[hge]
   refine SW.ret ⟨_,_,rfl,rfl,?_⟩
   refine Eqv.tup (.cons (Eqv.agg ?_) (.cons (Eqv.of rfl) .nil))
   refine .cons ?_ (.cons ?_ (.cons ?_ (.cons (Eqv.of rfl) (.cons (Eqv.of rfl) (.cons (Eqv.of rfl) (.cons (Eqv.of rfl) (.cons (Eqv.of rfl) (.cons (Eqv.of rfl) (.cons (Eqv.of rfl) (.cons (Eqv.of rfl) .nil))))))))))
   ·show Eqv (frz _ _ 3 (.sl 5 0 (i+1) 2 false)) _
    rw[Dq (fm:=none) (G:=G0) rfl rfl (by rw[hG0,Aq];omega)]
    exact Eqv.isl rfl fun j k hj hk=>Eqv.of (by rw[hG0];exact Eb hj hk (by unfold rngC;split<;>rfl))
   ·show Eqv (frz _ _ 3 (.sl 6 0 (i+1) 2 false)) _
    rw[Dq (fm:=none) (G:=G1) rfl rfl (by rw[hG1,Aq];omega)]
    exact Eqv.isl rfl fun j k hj hk=>Eqv.of (by rw[hG1];exact Eb hj hk (by unfold rngC;split<;>rfl))
   ·show Eqv (frz _ _ 3 (.sl 7 0 (i+1) 2 false)) _
    rw[Dq (fm:=none) (G:=G2) rfl rfl (by rw[hG2,Aq];omega)]
    exact Eqv.isl rfl fun j k hj hk=>Eqv.of (by rw[hG2];exact Eb hj hk (by unfold rngC;split<;>rfl))
end Go.Fz
namespace Go.Fz
open Go.Proofs
set_option maxRecDepth 100000
def mnN (lo hi:Nat→Int):Nat→Int
 | 0=>1
 | i+1=>Zv 3000 (Km (mnN lo hi i) (Fw (lo i) (hi i)))
theorem gW {lo hi:Int}(h1:0≤lo)(h2:lo≤hi)(h3:hi≤5000):Fw lo hi=hi-lo+1:=by
 unfold Fw
 rw[Il _ _ (by omega) (by omega),Gs _ _ (by omega) (by omega)]
theorem rQ (lo hi:Nat→Int)(M:Nat)(hr:∀ i,i<M→0≤lo i∧lo i≤hi i∧hi i≤5000):∀ i,i≤M→(1≤mnN lo hi i∧mnN lo hi i≤3000)∧((∀ j,j<i→prN lo hi (j+1)≤2000)→prN lo hi i=mnN lo hi i∧mnN lo hi i≤2000)∧((∃ j,j<i∧2000<prN lo hi (j+1))→2000<mnN lo hi i)
 | 0,_=>⟨⟨by simp[mnN],by simp[mnN]⟩,fun _=>⟨rfl,by simp[mnN]⟩,fun⟨j,hj,_⟩=>absurd hj (Nat.not_lt_zero j)⟩
 | i+1,hi'=>by
  obtain⟨⟨a1,a2⟩,ih1,ih2⟩:=rQ lo hi M hr i (by omega)
  obtain⟨r1,r2,r3⟩:=hr i (by omega)
  have hs:=gW r1 r2 r3
  obtain⟨s,hsd⟩:∃ s,s=Fw (lo i) (hi i):=⟨_,rfl⟩
  have hs1:1≤s:=by omega
  have hs2:s≤5001:=by omega
  have em:mnN lo hi (i+1)=Zv 3000 (Km (mnN lo hi i) s):=by rw[hsd];rfl
  have ep:prN lo hi (i+1)=Km (prN lo hi i) s:=by rw[hsd];rfl
  have b1:mnN lo hi i≤mnN lo hi i*s:=by
   have:=Int.mul_le_mul_of_nonneg_left hs1 (show 0≤mnN lo hi i by omega)
   omega
  have b2:mnN lo hi i*s≤3000*5001:=Int.mul_le_mul a2 hs2 (by omega) (by omega)
  have em2:Km (mnN lo hi i) s=mnN lo hi i*s:=Zu _ _ (by omega) (by omega)
  have emin:mnN lo hi (i+1)=if mnN lo hi i*s<3000 then mnN lo hi i*s else 3000:=by rw[em,em2];rfl
  refine⟨by rw[emin];split<;>omega,fun hall=>?_,fun⟨j,hj,hjp⟩=>?_⟩
  ·obtain⟨e1,e2⟩:=ih1 fun j hj=>hall j (by omega)
   have hl:=hall i (by omega)
   rw[ep,e1,em2] at hl
   rw[ep,e1,em2,emin]
   split<;>omega
  ·by_cases hex:∃ j,j<i∧2000<prN lo hi (j+1)
   ·have:=ih2 hex
    rw[emin];split<;>omega
   ·have hall:∀ j,j<i→prN lo hi (j+1)≤2000:=fun j hj=>by
     rcases Int.lt_or_le 2000 (prN lo hi (j+1)) with h|h
     ·exact absurd ⟨j,hj,h⟩ hex
     ·exact h
    obtain⟨e1,e2⟩:=ih1 hall
    have:j=i:=by
     rcases Nat.lt_succ_iff_lt_or_eq.1 hj with h|h
     ·exact absurd ⟨j,h,hjp⟩ hex
     ·exact h
    subst this
    rw[ep,e1,em2] at hjp
    rw[emin];split<;>omega
theorem Zw (d:Ah):∀ i,i≤d.nw→d.We i=mnN d.ulo d.uhi i
 | 0,_=>rfl
 | i+1,h=>by
  have:i<d.nw:=by omega
  show Zv 3000 (Km (d.We i) (Fw (d.wlo i) (d.whi i)))=Zv 3000 (Km (mnN d.ulo d.uhi i) (Fw (d.ulo i) (d.uhi i)))
  rw[Zw d i (by omega)]
  simp only [Ah.ulo,Ah.uhi,this,if_true]
theorem Zx (d:Ah):∀ j,d.Mm j=mnN d.ulo d.uhi (d.nw+j)
 | 0=>Zw d d.nw (Nat.le_refl _)
 | j+1=>by
  have:¬ d.nw+j<d.nw:=by omega
  show Zv 3000 (Km (d.Mm j) (Fw (d.llo j) (d.lhi j)))=Zv 3000 (Km (mnN d.ulo d.uhi (d.nw+j)) (Fw (d.ulo (d.nw+j)) (d.uhi (d.nw+j))))
  rw[Zx d j]
  simp only [Ah.ulo,Ah.uhi,this,if_false,Nat.add_sub_cancel_left]
theorem sL (d:Ah)(i:Nat):d.Nq i=d.Nl i:=by
 have:d.Oo (d.lw i)=inB (d.lw i) 0 ((d.nw:Int)-1):=by
  rw[Bool.eq_iff_iff];simp only [Ah.Oo,inB,Bool.and_eq_true,decide_eq_true_eq];omega
 unfold Ah.Nq Ah.Nl
 rw[this]
theorem uQ (d:Ah)(h:0<d.nw)(i:Nat):d.Nw i=d.Rv i:=by
 unfold Ah.Nw Ah.Rv
 generalize Cl (d.clo i) (d.chi i) 0 20000=w
 cases w
 ·simp
 ·rw[Bool.eq_iff_iff]
  simp only [Ah.Oo,inB,Bool.and_eq_true,Bool.or_eq_true,decide_eq_true_eq,Bool.and_true,Bool.true_and,and_true,true_and]
  by_cases hk:1<d.ck i
  ·simp only [hk,if_true,decide_eq_true_eq];omega
  ·simp only [hk,if_false,Bool.and_eq_true,decide_eq_true_eq];omega
theorem kE (d:Ah):d.Fv=d.Ly:=by
 unfold Ah.Fv Ah.Ly
 by_cases h:0<d.nw
 ·rw[show Dh d.nl d.Nq=Dh d.nl d.Nl from Uz fun i _=>sL d i,show Dh d.nc d.Nw=Dh d.nc d.Rv from Uz fun i _=>uQ d h i]
  rfl
 ·simp[h]
theorem bS (d:Ah):d.check=d.Gg:=by
 unfold Ah.check Ah.Gg
 rw[←kE]
 by_cases h1:d.Hn=true
 ·rw[if_pos h1,if_pos h1]
 ·rw[if_neg h1,if_neg h1]
  by_cases h2:d.Fv=true
  ·rw[if_pos h2,if_pos h2]
   have g:=Nu (by simpa using h1) h2
   have hr:∀ i,i<d.nw+d.nl→0≤d.ulo i∧d.ulo i≤d.uhi i∧d.uhi i≤5000:=fun i hi=>by
    unfold Ah.ulo Ah.uhi
    by_cases hc:i<d.nw
    ·have:=g.wom i hc
     simp only [hc,if_true];omega
    ·have:=g.lot (i-d.nw) (by omega)
     simp only [hc,if_false];omega
   obtain⟨_,m1,m2⟩:=rQ d.ulo d.uhi (d.nw+d.nl) hr (d.nw+d.nl) (Nat.le_refl _)
   rw[Zx]
   by_cases hall:∀ j,j<d.nw+d.nl→prN d.ulo d.uhi (j+1)≤2000
   ·have hb:Ho d.ulo d.uhi (d.nw+d.nl)=false:=by
     unfold Ho;rw[Ih fun j hj=>by simpa using hall j hj];rfl
    obtain⟨_,e2⟩:=m1 hall
    rw[hb,if_neg (by simp),if_neg (by omega)]
   ·have hex:∃ j,j<d.nw+d.nl∧2000<prN d.ulo d.uhi (j+1):=by
     apply Classical.byContradiction
     intro hn
     refine hall fun j hj=>?_
     rcases Int.lt_or_le 2000 (prN d.ulo d.uhi (j+1)) with h|h
     ·exact absurd ⟨j,hj,h⟩ hn
     ·exact h
    have hb:Ho d.ulo d.uhi (d.nw+d.nl)=true:=by
     obtain⟨j,hj,hp⟩:=hex
     unfold Ho;rw[Ls (i:=j) hj (by simpa using hp)];rfl
    rw[hb,if_pos rfl,if_pos (m2 hex)]
  ·rw[if_neg h2,if_neg h2]
theorem Rf {d:Ah}{t:Ks}(hst:∀ i,i<d.nl→0≤t.st i∧t.st i≤5000)(w:Int):∀ j,j≤d.nl→j≤4→0≤stemN d t.st w j∧stemN d t.st w j≤5000*j
 | 0,_,_=>by simp[stemN]
 | j+1,h,h4=>by
  obtain⟨h1,h2⟩:=Rf hst w j (by omega) (by omega)
  have:=hst j (by omega)
  show 0≤(if d.lw j=w then Hq (stemN d t.st w j) (t.st j) else stemN d t.st w j)∧(if d.lw j=w then Hq (stemN d t.st w j) (t.st j) else stemN d t.st w j)≤5000*((j+1:Nat):Int)
  split
  ·rw[Gs _ _ (by omega) (by omega)];omega
  ·omega
end Go.Fz
namespace Go.Fz
open Go.Proofs
set_option maxRecDepth 100000
def Ah.Kd (d:Ah):Bool:=decide (d.nw≤6)&&decide (d.nl≤6)&&decide (d.nc≤7)&&(decide (d.Gg≠0)||decide (d.Mm d.nl≤200))
set_option maxHeartbeats 4000000 in
theorem oR (d:Ah):Pure Try.prog 16 [Di d] (.sb d.Kd):=by
 obtain⟨O,hO⟩:∃ O:Ar,O=std:=⟨_,rfl⟩
 refine Ae tok 3 Try.func16 uK rfl ⟨Ax d,trivial⟩ Below.sb ?_
 refine SW.Ab tok hO (by cbv<;>rfl) (by trivial) ?_
 refine SW.Ab tok hO (by cbv<;>rfl) (by trivial) ?_
 refine Ac.Bs (by cbv<;>rfl) (fun h1=>?_) (fun h1=>?_)<;>refine Ac.run tok hO (by cbv<;>rfl) (by trivial) ?_
 rotate_left
 ·have:¬ (d.nw:Int)≤6:=by subst hO;simpa[std] using h1
  refine SW.ret ⟨_,_,rfl,rfl,Eqv.bool ?_⟩
  have:¬ d.nw≤6:=by omega
  simp[Ah.Kd,this]
 have k1':(d.nw:Int)≤6:=by subst hO;simpa[std] using h1
 have k1:d.nw≤6:=by omega
 refine Ac.Bs (by cbv<;>rfl) (fun h2=>?_) (fun h2=>?_)<;>refine Ac.run tok hO (by cbv<;>rfl) (by trivial) ?_
 rotate_left
 ·have:¬ (d.nl:Int)≤6:=by subst hO;simpa[std] using h2
  refine SW.ret ⟨_,_,rfl,rfl,Eqv.bool ?_⟩
  have:¬ d.nl≤6:=by omega
  simp[Ah.Kd,this]
 have k2':(d.nl:Int)≤6:=by subst hO;simpa[std] using h2
 have k2:d.nl≤6:=by omega
 refine Ac.Bs (by cbv<;>rfl) (fun h3=>?_) (fun h3=>?_)<;>refine Ac.run tok hO (by cbv<;>rfl) (by trivial) ?_
 rotate_left
 ·have:¬ (d.nc:Int)≤7:=by subst hO;simpa[std] using h3
  refine SW.ret ⟨_,_,rfl,rfl,Eqv.bool ?_⟩
  have:¬ d.nc≤7:=by omega
  simp[Ah.Kd,this]
 have k3':(d.nc:Int)≤7:=by subst hO;simpa[std] using h3
 have k3:d.nc≤7:=by omega
 have hs:d.small:=⟨by omega,by omega,by omega⟩
 refine Ac.Rm (bG d hs) (by cbv<;>rfl) fun e he=>?_
 refine Ac.run tok hO (by cbv<;>rfl) (by trivial) ?_
 refine Ac.Bs (by cbv<;>rfl) (fun h4=>?_) (fun h4=>?_)<;>refine Ac.run tok hO (by cbv<;>rfl) (by trivial) ?_
 ·have:d.Gg≠0:=by subst hO;rw[←he];simpa[std] using h4
  refine SW.ret ⟨_,_,rfl,rfl,Eqv.bool ?_⟩
  simp[Ah.Kd,this,k1,k2,k3]
 ·have h5:¬ d.Gg≠0:=by subst hO;rw[←he];simpa[std] using h4
  refine Ac.Rm (fM d hs) (by cbv<;>rfl) fun m hm=>?_
  refine Ac.run tok hO (by cbv<;>rfl) (by trivial) ?_
  refine SW.ret ⟨_,_,rfl,rfl,Eqv.sb ?_⟩
  subst hO
  simp[Ah.Kd,k1,k2,k3,h5,std,←hm]
def Ah.Ip (d:Ah):Bool:=d.Kd&&decide (d.Gg=0)
theorem cL {d:Ah}(h:d.Kd=true):d.nw≤6∧d.nl≤6∧d.nc≤7:=by
 simp only [Ah.Kd,Bool.and_eq_true,decide_eq_true_eq] at h;exact⟨h.1.1.1,h.1.1.2,h.1.2⟩
theorem kV (d:Ah):Pure Try.prog 41 [Di d] (.sb d.Ip):=by
 obtain⟨O,hO⟩:∃ O:Ar,O=std:=⟨_,rfl⟩
 have call:=oR d
 have hr:d.Ip=(d.Kd&&decide (d.Gg=0)):=rfl
 have hsm:d.Kd=true→d.small:=fun h=>by have:=cL h;exact⟨by omega,by omega,by omega⟩
 generalize d.Kd=b at call hr hsm
 rw[hr]
 refine Ae tok 3 Try.func41 uF rfl ⟨Ax d,trivial⟩ Below.sb ?_
 refine SW.Ab tok hO (by cbv<;>rfl) (by trivial) ?_
 refine SW.Ab tok hO (by cbv<;>rfl) (by trivial) ?_
 refine Ac.Al call (by cbv<;>rfl) ?_
 refine Ac.run tok hO (by cbv<;>rfl) (by trivial) ?_
 refine Ac.Bs (by cbv<;>rfl) (fun h1=>?_) (fun h1=>?_)<;>refine Ac.run tok hO (by cbv<;>rfl) (by trivial) ?_
 ·subst h1
  refine Ac.Rm (bG d (hsm rfl)) (by cbv<;>rfl) fun e he=>?_
  refine Ac.run tok hO (by cbv<;>rfl) (by trivial) ?_
  refine SW.ret ⟨_,_,rfl,rfl,Eqv.sb ?_⟩
  rw[←he];subst hO;simp[std];rfl
 ·subst h1
  exact SW.ret ⟨_,_,rfl,rfl,Eqv.bool rfl⟩
theorem cZ {d:Ah}(h:d.Ip=true):d.Good∧d.Mm d.nl≤200:=by
 simp only [Ah.Ip,Bool.and_eq_true,decide_eq_true_eq] at h
 obtain⟨h1,h2⟩:=h
 refine⟨Ds ((bS d).trans h2),?_⟩
 simp only [Ah.Kd,Bool.and_eq_true,Bool.or_eq_true,decide_eq_true_eq] at h1
 rcases h1.2 with h|h
 ·exact absurd h2 h
 ·exact h
end Go.Fz
namespace Go.Fz
open Go.Proofs
set_option maxRecDepth 100000
def mnF (V:Nat→Int)(L:Nat):Int:=leN (V 0) (fun i=>V (i+1)) (L-1)
def mxF (V:Nat→Int)(L:Nat):Int:=grN (V 0) (fun i=>V (i+1)) (L-1)
theorem lG {V:Nat→Int}{L i:Nat}(h:i<L):mnF V L≤V i:=by
 obtain⟨⟨h1,h2⟩,_⟩:=Tz (V 0) (fun i=>V (i+1)) (L-1)
 cases i with
 | zero=>exact h1
 | succ i=>exact h2 i (by omega)
theorem fK {V:Nat→Int}{L:Nat}(h:0<L):∃ i,i<L∧V i=mnF V L:=by
 obtain⟨_,h3⟩:=Tz (V 0) (fun i=>V (i+1)) (L-1)
 rcases h3 with h3|⟨i,hi,h3⟩
 ·exact⟨0,h,h3.symm⟩
 ·exact⟨i+1,by omega,h3.symm⟩
theorem lF {V:Nat→Int}{L i:Nat}(h:i<L):V i≤mxF V L:=by
 obtain⟨⟨h1,h2⟩,_⟩:=Ue (V 0) (fun i=>V (i+1)) (L-1)
 cases i with
 | zero=>exact h1
 | succ i=>exact h2 i (by omega)
theorem fJ {V:Nat→Int}{L:Nat}(h:0<L):∃ i,i<L∧V i=mxF V L:=by
 obtain⟨_,h3⟩:=Ue (V 0) (fun i=>V (i+1)) (L-1)
 rcases h3 with h3|⟨i,hi,h3⟩
 ·exact⟨0,h,h3.symm⟩
 ·exact⟨i+1,by omega,h3.symm⟩
theorem dU (g:FuncId)(val:PK→Int)(K:Nat→PK)(L:Nat)(h0:0<L)(hL:L<100000)(V:Nat→Int)(hV:∀ j,j<L→val (K j)=V j)(hof:∀ j,j<L→Pure Try.prog g [pkV (K j)] (iV (val (K j)))){st:St}{mid bid:Nat}{fm:Option Nat}{ro:Bool}
  (hm:st.h.get mid=some (.map (Bp pkV (pkP K L).1) (pkP K L).2))(hc:st.h.get bid=some (.cells fm ro [.mp mid])) :
  At Try.prog 59 [.fn (.func 99) [] [.ptr bid 0],.fn (.func g) [] []] st (fun v st'=>v=Fb (mnF V L) (mxF V L)∧st'=st):=by
 have hmem:∀ p∈(pkP K L).1,∃ j,j<L∧K j=p.1:=fun p hp=>(Xh K p.1 L).1 (List.mem_map.2 ⟨p,hp,rfl⟩)
 have hcov:∀ j,j<L→∃ p∈(pkP K L).1,p.1=K j:=fun j hj=>by
  obtain⟨p,hp,e⟩:=List.mem_map.1 ((Xh K (K j) L).2 ⟨j,hj,rfl⟩)
  exact⟨p,hp,e⟩
 have hex:∀ z,(∃ j,j<L∧V j=z)→∃ p∈(pkP K L).1,val p.1=z:=fun z ⟨j,hj,e⟩=>by
  obtain⟨p,hp,e2⟩:=hcov j hj
  exact⟨p,hp,by rw[e2,hV j hj,e]⟩
 refine tC g val (pkP K L).1 (pkP K L).2 (Zl K L) (by have:=eW K L;omega) (fun p hp=>?_) (mnF V L) (mxF V L) (hex _ (fK h0)) (fun p hp=>?_) (hex _ (fJ h0)) (fun p hp=>?_) hm hc
 ·obtain⟨j,hj,e⟩:=hmem p hp
  rw[←e];exact hof j hj
 ·obtain⟨j,hj,e⟩:=hmem p hp
  rw[←e,hV j hj];exact lG hj
 ·obtain⟨j,hj,e⟩:=hmem p hp
  rw[←e,hV j hj];exact lF hj
theorem jY (d:Ah)(w:Nat)(hw:w<d.nw)(hnl:d.nl<1000)(L:Nat)(h0:0<L)(hL:L<100000)(A B C D:Nat→Nat→Int)(a b c e:Nat→Int)(hin:∀ i,i<L→inK (A i w,stemN d (B i) w d.nl)=true)(hpos:∀ i,i<L→A i w≠0)
  (hC:∀ i,i<L→C i w=Ki (stemN d (B i) w d.nl) (A i w))(hD:∀ i,i<L→D i w=(stemN d (B i) w d.nl).tmod (A i w)) :
  ∃ M cc,oG d (.isl L 8 false (outX d.nw d.nl A B C D a b c e)) (fun w=>mnF (fun i=>A i w) L) (fun w=>mxF (fun i=>A i w) L) (fun w=>mnF (fun i=>C i w) L) (fun w=>mxF (fun i=>C i w) L) (fun w=>mnF (fun i=>D i w) L) (fun w=>mxF (fun i=>D i w) L) w M cc:=by
 obtain⟨K,hK⟩:∃ K:Nat→PK,K=fun i=>rZ (A i w,stemN d (B i) w d.nl):=⟨_,rfl⟩
 have hk:∀ i,i<L→(K i).1=(A i w,stemN d (B i) w d.nl):=fun i hi=>by rw[hK];exact kI (hin i hi)
 have hpv:∀ i,i<L→pkV (K i)=Wb (A i w) (stemN d (B i) w d.nl):=fun i hi=>by unfold pkV;rw[hk i hi];rfl
 refine⟨Bp pkV (pkP K L).1,(pkP K L).2,⟨fun x hx=>?_,fun st=>?_,fun hm hc=>?_,fun hm hc=>?_,fun hm hc=>?_⟩⟩
 ·obtain⟨p,_,rfl⟩:=List.mem_map.1 hx
  exact⟨Kk _,Below.lit⟩
 ·refine At.wR (fun x=>[.agg [iV d.hand,iV d.flat,Dj d,Dx d,Eo d,.isl L 8 false (outX d.nw d.nl A B C D a b c e),x],iV w]) (fun φ us h=>?_) (fun mb=>(sW d w hw hnl L hL A B C D a b c e mb K hk).call st)
  cases h with
  | cons h1 h2 =>
   obtain⟨vs,rfl,k⟩:=h1.Bz
   cases k with
   | cons k0 k =>
    cases k with
    | cons k1 k =>
     cases k with
     | cons k2 k =>
      cases k with
      | cons k3 k =>
       cases k with
       | cons k4 k =>
        cases k with
        | cons k5 k =>
         cases k with
         | cons k6 k =>
          cases k
          obtain⟨rfl,_⟩:=k6.Ml
          exact⟨_,.cons (.agg (.cons k0 (.cons k1 (.cons k2 (.cons k3 (.cons k4 (.cons k5 (.cons (.lit _) .nil)))))))) h2⟩
 ·exact dU 61 (fun p=>p.1.1) K L h0 hL _ (fun j hj=>by rw[hk j hj]) (fun j hj=>by rw[hpv j hj,hk j hj];exact iJ _ _) hm hc
 ·exact dU 62 (fun p=>Ki p.1.2 p.1.1) K L h0 hL _ (fun j hj=>by rw[hk j hj];exact(hC j hj).symm) (fun j hj=>by rw[hpv j hj,hk j hj];exact Uu _ _ (hpos j hj)) hm hc
 ·exact dU 63 (fun p=>p.1.2.tmod p.1.1) K L h0 hL _ (fun j hj=>by rw[hk j hj];exact(hD j hj).symm) (fun j hj=>by rw[hpv j hj,hk j hj];exact Lk _ _ (hpos j hj)) hm hc
def Ah.tr (d:Ah)(i:Nat):Ks:=Cp d (Fx d.seen.outs i)
def Ah.oN (d:Ah):Nat:=d.seen.outs.length
def Ah.zX (d:Ah):AV:=.agg (xN d.nw (fun w=>mnF (fun i=>(d.tr i).fe w) d.oN) (fun w=>mxF (fun i=>(d.tr i).fe w) d.oN) (fun w=>mnF (fun i=>d.bun (d.tr i) w) d.oN) (fun w=>mxF (fun i=>d.bun (d.tr i) w) d.oN) (fun w=>mnF (fun i=>d.lef (d.tr i) w) d.oN) (fun w=>mxF (fun i=>d.lef (d.tr i) w) d.oN)
 (mnF (fun i=>(d.Bn (d.tr i)).hands) d.oN) (mxF (fun i=>(d.Bn (d.tr i)).hands) d.oN) (mnF (fun i=>(d.Bn (d.tr i)).loose) d.oN) (mxF (fun i=>(d.Bn (d.tr i)).loose) d.oN) (mnF (fun i=>(d.Bn (d.tr i)).flats) d.oN) (mxF (fun i=>(d.Bn (d.tr i)).flats) d.oN) (mnF (fun i=>(d.Bn (d.tr i)).spare) d.oN) (mxF (fun i=>(d.Bn (d.tr i)).spare) d.oN))
theorem pL {l:List (Nat→Int)}{i:Nat}(h:i<l.length):Fx l i∈l:=by
 unfold Fx
 rw[List.getD_eq_getElem?_getD,List.getElem?_eq_getElem h]
 exact List.getElem_mem h
theorem cI {d:Ah}{i:Nat}(hi:i<d.oN):d.fits (d.tr i)=true:=by
 obtain⟨t,h1,h2,_⟩:=(Tb d _).1 (pL hi)
 unfold Ah.tr
 refine Vs fun m hm=>?_
 rw[←h2]
 exact Yd h1 m hm
theorem oQ {d:Ah}(g:d.Good){t:Ks}(h:d.fits t=true)(w:Int):0≤stemN d t.st w d.nl∧stemN d t.st w d.nl≤20000:=by
 have hl:=g.nl
 have hf:=h
 simp only [Ah.fits,Bool.and_eq_true,decide_eq_true_eq,Dh] at hf
 obtain⟨⟨⟨h1,h2⟩,h3⟩,h4⟩:=hf
 have:=Rf (d:=d) (t:=t) (fun i hi=>by
  have h5:=h4 i (by omega)
  have h6:=g.lot i hi
  simp only [inB,Bool.and_eq_true,decide_eq_true_eq] at h5
  omega) w d.nl (Nat.le_refl _) hl
 omega
theorem eL {d:Ah}(g:d.Good){t:Ks}(h:d.fits t=true){w:Nat}(hw:w<d.nw):1≤t.fe w∧t.fe w≤60:=by
 have hf:=h
 simp only [Ah.fits,Bool.and_eq_true,decide_eq_true_eq,Dh] at hf
 obtain⟨⟨⟨h1,h2⟩,h3⟩,h4⟩:=hf
 have h5:=h3 w (by omega)
 have h6:=g.wom w hw
 simp only [inB,Bool.and_eq_true,decide_eq_true_eq] at h5
 omega
theorem eA (d:Ah)(hs:d.small)(hc:d.check=0)(hne:d.seen.outs≠[]):Pure Try.prog 18 [Di d] (.tup [d.zX,iV 0]):=by
 have g:=Ds hc
 have hlen:=dP d hc
 have hnl:=g.nl
 cases ho:d.seen.outs with
 | nil=>exact absurd ho hne
 | cons f l =>
  have e2:=pC d hs hc f l ho
  have hW:Sn d (f::l)=fun k=>.agg [iV d.hand,iV d.flat,Dj d,Dx d,Eo d,.isl (l.length+1) 8 false (Jd d (f::l)),.mp k]:=rfl
  rw[hW,sG,←ho] at e2
  have hN:l.length+1=d.oN:=by show _=d.seen.outs.length;rw[ho];rfl
  rw[hN] at e2
  have h0:0<d.oN:=by omega
  have hL:d.oN<100000:=by have:d.oN≤2000:=hlen;omega
  have ht:∀ g0 (V:Nat→Int),(∀ i,i<d.oN→Pure Try.prog g0 [.agg [Ak d.nw false (fun j=>Fx d.seen.outs i j),Ak d.nl false (fun j=>Fx d.seen.outs i (d.nw+j)),Ak d.nw false (d.bun (Cp d (Fx d.seen.outs i))),Ak d.nw false (d.lef (Cp d (Fx d.seen.outs i))),iV (d.Bn (Cp d (Fx d.seen.outs i))).hands,iV (d.Bn (Cp d (Fx d.seen.outs i))).loose,iV (d.Bn (Cp d (Fx d.seen.outs i))).flats,iV (d.Bn (Cp d (Fx d.seen.outs i))).spare]] (iV (V i))) →
    Vb (.isl d.oN 8 false (outX d.nw d.nl (fun i=>Fx d.seen.outs i) (fun i j=>Fx d.seen.outs i (d.nw+j)) (fun i=>d.bun (Cp d (Fx d.seen.outs i))) (fun i=>d.lef (Cp d (Fx d.seen.outs i)))
     (fun i=>(d.Bn (Cp d (Fx d.seen.outs i))).hands) (fun i=>(d.Bn (Cp d (Fx d.seen.outs i))).loose) (fun i=>(d.Bn (Cp d (Fx d.seen.outs i))).flats) (fun i=>(d.Bn (Cp d (Fx d.seen.outs i))).spare))) g0 (mnF V d.oN) (mxF V d.oN):=fun g0 V hof=>fun {st bid fm ro} hg =>
   tB g0 d.nw d.nl _ _ _ _ _ _ _ _ d.oN h0 hL V hof (mnF V d.oN) (mxF V d.oN) (fK h0) (fun i hi=>lG hi) (fJ h0) (fun i hi=>lF hi) hg
  refine bU d g.pos g.nw d.oN _ (Is _ _ _ _ _ _ _ _ _ _ _) _ _ _ _ _ _ _ _ _ _ _ _ _ _ _ _ e2 (fun w hw=>?_) (ht 66 _ fun i hi=>pK _ _ _ _ _ _ _ _ _ _) (ht 67 _ fun i hi=>pJ _ _ _ _ _ _ _ _ _ _) (ht 68 _ fun i hi=>pI _ _ _ _ _ _ _ _ _ _) (ht 69 _ fun i hi=>pH _ _ _ _ _ _ _ _ _ _)
  refine jY d w hw (by omega) d.oN h0 hL _ _ _ _ _ _ _ _ (fun i hi=>?_) (fun i hi=>?_) (fun i hi=>rfl) (fun i hi=>rfl)
  ·have h1:=eL g (cI hi) hw
   have h2:=oQ g (cI hi) w
   have h1':1≤Fx d.seen.outs i w∧Fx d.seen.outs i w≤60:=h1
   have h2':0≤stemN d (fun j=>Fx d.seen.outs i (d.nw+j)) w d.nl∧stemN d (fun j=>Fx d.seen.outs i (d.nw+j)) w d.nl≤20000:=h2
   simp only [inK,Bool.and_eq_true,decide_eq_true_eq]
   omega
  ·have h1:1≤Fx d.seen.outs i w∧Fx d.seen.outs i w≤60:=eL g (cI hi) hw
   omega
set_option maxHeartbeats 8000000 in
theorem dZ (d:Ah)(e:Int)(he:e≠0)(h:Pure Try.prog 57 [Di d,.lit (.bool true)] (.tup [.agg stZ,iV e])):Pure Try.prog 18 [Di d] (.tup [.agg nZ,iV e]):=by
 obtain⟨O,hO⟩:∃ O:Ar,O=std:=⟨_,rfl⟩
 refine Ae tok 3 Try.func18 qG rfl ⟨Ax d,trivial⟩ (Below.tup (Br.ok ⟨Below.agg (Br.ok ⟨Below.lit,Below.lit,Below.lit,Below.lit,Below.lit,Below.lit,Below.lit,Below.lit,Below.lit,Below.lit,Below.lit,trivial⟩),Below.lit,trivial⟩)) ?_
 refine SW.Ab tok hO (by cbv<;>rfl) (by trivial) ?_
 refine SW.seq (SW.runN tok hO 1 (by cbv<;>rfl) (by trivial) ?_)
 refine Ac.Al h (by cbv<;>rfl) ?_
 refine Ac.run tok hO (by cbv<;>rfl) (by trivial) ?_
 refine SW.seq ?_
 refine SW.Ab tok hO (by cbv<;>rfl) (by trivial) ?_
 refine SW.Bd (by cbv<;>rfl) (fun h1=>?_) (fun h1=>?_)
 ·refine SW.Ab tok hO (by cbv<;>rfl) (by trivial) ?_
  exact SW.ret ⟨_,_,rfl,rfl,Eqv.of rfl⟩
 ·exfalso
  subst hO;simp[std] at h1;exact he h1
end Go.Fz
