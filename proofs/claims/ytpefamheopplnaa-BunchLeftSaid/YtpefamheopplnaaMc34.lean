/- Own work of the verifier of watercress: FzG1, FzG2, FzG3, FzG4, FzC17, FzC18, FzC19, FzC20, FzC21, FzC22, FzC23. -/
import Derived.Test.YtpefamheopplnaaMc33
set_option linter.unusedVariables false
set_option linter.unusedSimpArgs false
namespace Go.Fz
open Go.Proofs
set_option maxRecDepth 100000
section
variable {P:Program}{T:Ti}
theorem Ac.pre {rd:Option Nat}{ops:Array Oper}{l:List Nat}{K:Fm→St→Prop}{f f2:Fm}{st st2:St}(hw:Cw st.n f st f2 st2)(h:Ac P rd ops l K f2 st2):Ac P rd ops l K f st:=by
 intro φ w a n Q h1 h2 h3 hq
 obtain⟨k1,k2,k3⟩:=hw.ok h2 h3
 have hn:st2.n=st.n:=Nat.le_antisymm hw.hi hw.lo
 have hsame:Jy φ st2.n=φ:=by cases φ;simp only [Jy,hn,←h2.n]
 rw[hsame] at k1 k2 k3
 exact h φ w a n Q h1 k1 k2 fun a' w' hl=>hq a' w' (hl.trans (Ext.refl _) k3)
theorem Ac.sub {rd:Option Nat}{ops:Array Oper}{l:List Nat}{K:Fm→St→Prop}{f:Fm}{h1 h2:Hp}{n:Nat}(hd:f.dm=[])(hs:∀ id o,h2.get id=some o→h1.get id=some o∧id<n)(h:Ac P rd ops l K f ⟨h2,n⟩):Ac P rd ops l K f ⟨h1,n⟩ :=
 Ac.pre (f2:=f) (st2:=⟨h2,n⟩) ⟨rfl,rfl,fun id hid=>(by rw[hd] at hid;cases hid),fun i=>.inr ⟨rfl,.inl rfl⟩,Nat.le_refl _,Nat.le_refl _,fun id o ho=>⟨(hs id o ho).1,(hs id o ho).2,.inl rfl⟩⟩ h
def ldAt (ops:Array Oper)(i:Nat)(f:Fm):Option (TypeId × AV):=match ops[i]? with
 | none=>none
 | some o=>match wantA ops f.ts o with
  | some true=>match o.op with
   | .load t p=>some (t,Operand.av f.ts p)
   | _=>none
  | _=>none
theorem Ac.ldI (hT:TOk P T){rd:Option Nat}{ops:Array Oper}{K:Fm→St→Prop}{f:Fm}{st:St}{i:Nat}{l:List Nat}{t:TypeId}{p r:AV}(hx:ldAt ops i f=some (t,p))(hr:loadA T st.h t p=some r)
  (h:Ac P rd ops l K (putAt ops i f r) st):Ac P rd ops (i::l) K f st:=by
 unfold ldAt at hx
 split at hx
 ·cases hx
 ·rename_i o ho
  split at hx
  ·rename_i hw
   split at hx
   ·rename_i t' p' hop
    simp only [Option.some.injEq,Prod.mk.injEq] at hx
    obtain⟨rfl,rfl⟩:=hx
    have hput:∀ v,putAt ops i f v=f.put o.dst v:=fun v=>by simp[putAt,ho]
    rw[hput] at h
    refine Ac.Db hT ho hw ?_ h
    simp only [evG,evL,hop,hr]
   ·cases hx
  ·cases hx
theorem Ac.xJ (hT:TOk P T){rd:Option Nat}{ops:Array Oper}{K:Fm→St→Prop}{f:Fm}{st:St}{i:Nat}{l:List Nat}{t id off len sz u:Nat}{ex:Bool}{b:Int}
  (hx:sliAt ops i f=some (t,.sl id off len sz ex,none,some (.lit (.int .i64 b))))(hu:b=Int.ofNat u)(hb:sliceB T t sz=true)(hle:u≤len)
  (h:Ac P rd ops l K (putAt ops i f (.sl id off u sz (ex&&u == len))) st):Ac P rd ops (i::l) K f st:=by
 obtain⟨ti,tj,e,h1,h2,h3,h4,h5,h6,h7,h8⟩:=Gj hb
 subst hu
 unfold sliAt at hx
 split at hx
 ·cases hx
 ·rename_i o ho
  split at hx
  ·rename_i hw
   split at hx
   ·rename_i t' x lo' hi' hop
    simp only [Option.some.injEq,Prod.mk.injEq] at hx
    obtain⟨rfl,k2,k3,k4⟩:=hx
    have hput:∀ v,putAt ops i f v=f.put o.dst v:=fun v=>by simp[putAt,ho]
    rw[hput] at h
    have h0:natOr 0 (none:Option AV)=some 0:=rfl
    refine Ac.Db hT ho hw ?_ h
    simp only [evG,hop,sliceA,k2,h1,h2,h3,h4,k3,k4,h0,Mj,if_true,Option.map_none]
    rw[if_pos ⟨Nat.zero_le _,hle,.inl trivial⟩]
    simp
   ·cases hx
  ·cases hx
theorem Ac.wT (hT:TOk P T){rd:Option Nat}{ops:Array Oper}{K:Fm→St→Prop}{f:Fm}{st:St}{i:Nat}{l:List Nat}{t N:Nat}{b:Int}(hx:mkAt ops i f=some (t,.lit (.int .i64 0),.lit (.int .i64 b)))(hbN:b=Int.ofNat N)(hb:intsB T t=true)(hN:N≤65536)
  (h:Ac P rd ops l K (putAt ops i f (.sl st.n 0 0 1 (Nat.beq N 0))) (st.push (.cells none false (flatG 1 (Bc fun _=>0) N)))):Ac P rd ops (i::l) K f st:=by
 subst hbN
 unfold mkAt at hx
 split at hx
 ·cases hx
 ·rename_i o ho
  split at hx
  ·rename_i hw
   split at hx
   ·rename_i t' a b hop
    simp only [Option.some.injEq,Prod.mk.injEq] at hx
    obtain⟨rfl,e2,e3⟩:=hx
    have hput:∀ v,putAt ops i f v=f.put o.dst v:=fun v=>by simp[putAt,ho]
    rw[hput] at h
    unfold intsB at hb
    split at hb
    ·rename_i ti hti
     split at hb
     ·rename_i e he
      split at hb
      ·rename_i j hj
       simp only [Bool.and_eq_true] at hb
       obtain⟨⟨b1,b2⟩,b3⟩:=hb
       have hz:j.zero=[.int .i64 0]:=by
        split at b3
        ·assumption
        ·cases b3
       have hs:=Nat.eq_of_beq_eq_true b1
       refine Ac.fresh hT ho hw ?_ h
       simp only [evF,hop,e2,e3,hti,he,hj]
       have h0:(0:Int)≤Int.ofNat N:=Int.natCast_nonneg N
       rw[if_pos ⟨Int.le_refl _,h0,Int.ofNat_le.2 hN,Nat.le_of_ble_eq_true b2,by omega,by rw[hz,hs];rfl⟩,hs]
       have hbe:((0:Int) == Int.ofNat N)=Nat.beq N 0:=by
        cases N with
        | zero=>rfl
        | succ k=>rfl
       show some (AV.sl st.n 0 0 1 ((0:Int) == Int.ofNat N),Er j (N*1))=_
       rw[Sm hz,hbe]
      ·cases hb
     ·cases hb
    ·cases hb
   ·cases hx
  ·cases hx
end
theorem Tx {h:Hp}{id:Nat}{fm:Option Nat}{ro:Bool}{v:Int}(hg:h.get id=some (.cells fm ro [iV v])):loadA T h 3 (.ptr id 0)=some (iV v):=by
 simp only [loadA,ptrOf,cellsAt,hg]
 rfl
def Pe (many:Nat):Nat→List Nat→Nat→List (List Nat)
 | 0,p,_=>[p]
 | m+1,p,s=>(List.range (many-m-s)).flatMap fun c=>Pe many m (p++[s+c]) (s+c+1)
def Im (many:Nat):List (List Nat):=(List.range (many+1)).flatMap fun m=>Pe many m [] 0
def lsV (p:List Nat):AV:=Ak p.length false fun i=>((p.getD i 0:Nat):Int)
theorem Kn (p:List Nat):Below 0 (lsV p):=Ap _ _ _
def dQ (mc:Nat):AV:=.fn (.func 102) [] [.ptr 49 0,.ptr 51 0,.ptr mc 0,.ptr 52 0]
def rsH (mc y:Nat)(lv:AV)(q:Nat)(fm:Option Nat)(G:List AV)(h:Hp):Hp:=(52,.cells none false [dQ mc])::(51,.cells none false [lv])::(49,.cells none false [.yld y])::(q,.cells fm false G)::h
def rsS (mc y:Nat)(ex:Bool)(p:List Nat)(h:Hp)(n:Nat)(st:St):Prop:=∃ q fm fl N,50≤q∧q≠51∧q≠52∧q<n∧p.length≤N∧(∀ i,i<p.length→fl i=((p.getD i 0:Nat):Int))∧st=⟨rsH mc y (.sl q 0 p.length 1 ex) q fm (flatG 1 (Bc fl) N) h,n⟩
def rsQ (K:List (List Nat)→Hp→Nat→Prop)(stop:List (List Nat)→List Nat→Hp→Nat→Prop)(mc y:Nat)(ex:Bool)(seen:List (List Nat))(p:List Nat)(E:List (List Nat))(v:AV)(st':St):Prop :=
 (v=.lit (.bool true)∧∃ h n,rsS mc y ex p h n st'∧K (seen++E) h n)∨(v=.lit (.bool false)∧∃ pre l post h n,E=pre++l::post∧rsS mc y ex p h n st'∧stop (seen++pre) l h n)
def rsI (mc many:Nat)(h:Hp)(n:Nat):Prop:=53≤n∧(∀ x∈h,x.1<49∧x.2.fam=none)∧∃ fm ro,h.get mc=some (.cells fm ro [iV (many:Int)])
theorem kS {mc y:Nat}{lv:AV}{q:Nat}{fm:Option Nat}{G:List AV}{h:Hp}(h1:50≤q)(h2:q≠51)(h3:q≠52):(rsH mc y lv q fm G h).get q=some (.cells fm false G):=by
 unfold rsH
 simp only [Hp.get]
 rw[if_neg (by omega),if_neg (by omega),if_neg (by omega),if_pos trivial]
theorem rO {mc y:Nat}{lv:AV}{q:Nat}{fm:Option Nat}{G:List AV}{h:Hp}(h1:50≤q)(h2:mc<49):(rsH mc y lv q fm G h).get mc=h.get mc:=by
 unfold rsH
 simp only [Hp.get]
 rw[if_neg (by omega),if_neg (by omega),if_neg (by omega),if_neg (by omega)]
theorem gR (fl:Nat→Int)(N L:Nat)(h:L≤N)(v:Int):(flatG 1 (Bc fl) N).take L++[iV v]=flatG 1 (Bc (Ek fl L v)) (L+1):=by
 have h1:=Uj fl N 0 L (by omega)
 rw[List.drop_zero] at h1
 rw[h1]
 have h2:flatG 1 (Bc (Ek fl L v)) L=flatG 1 (Bc fun i=>fl (0+i)) L:=Fk fun i k hi=>by
  show iV (Ek fl L v i)=iV (fl (0+i))
  rw[Cv (by omega),Nat.zero_add]
 show _=flatG 1 (Bc (Ek fl L v)) L++[iV (Ek fl L v L)]
 rw[h2,Cd]
theorem wA {mc y t L q n:Nat}{lv:AV}{fm:Option Nat}{fl:Nat→Int}{N:Nat}{h:Hp}{v:Int}{ex:Bool}(hb:sliceB T t 1=true)(h1:50≤q)(h2:q≠51)(h3:q≠52)(hq:q<n)(hL:L≤N)(hL2:L<1000)(hh:∀ x∈h,x.1<49∧x.2.fam=none)(hn:53≤n) :
  ∃ h2,appendA T ⟨(n,.cells none false [iV v])::rsH mc y lv q fm (flatG 1 (Bc fl) N) h,n+1⟩ t t (.sl q 0 L 1 false) (.sl n 0 1 1 ex)=some (.sl (n+1) 0 (L+1) 1 false,⟨h2,n+1+1⟩) ∧
   ∀ id o,(rsH mc y lv (n+1) (some (fm.getD q)) (flatG 1 (Bc (Ek fl L v)) (L+1)) h).get id=some o→h2.get id=some o∧id<n+1+1:=by
 obtain⟨i,j,e,ht,hd,he,hz,h5,hb,hb0,hzl⟩:=Gj hb
 have hgq:Hp.get ((n,AObj.cells none false [iV v])::rsH mc y lv q fm (flatG 1 (Bc fl) N) h) q=some (.cells fm false (flatG 1 (Bc fl) N)):=by
  simp only [Hp.get]
  rw[if_neg (by omega)]
  exact kS h1 h2 h3
 have hgn:Hp.get ((n,AObj.cells none false [iV v])::rsH mc y lv q fm (flatG 1 (Bc fl) N) h) n=some (.cells none false [iV v]):=by
  simp only [Hp.get]
  rw[if_pos trivial]
 have hlen:(flatG 1 (Bc fl) N).length=N:=by rw[Aq,Nat.mul_one]
 refine⟨(n+1,.cells (some (fm.getD q)) false (flatG 1 (Bc (Ek fl L v)) (L+1)))::truncH (fm.getD q) (L*1) q ((n,AObj.cells none false [iV v])::rsH mc y lv q fm (flatG 1 (Bc fl) N) h),?_,fun id o ho=>?_⟩
 ·unfold appendA
  simp only [ht,hd,he,slCells,cellsAt,hgq,hgn,slLen,hz]
  rw[if_pos (show True∧0+L*1≤(flatG 1 (Bc fl) N).length from⟨trivial,by rw[hlen];omega⟩),if_pos ⟨trivial,by simp⟩]
  simp only [Nat.mul_one,List.drop_zero]
  rw[show List.take 1 [iV v]=[iV v] from rfl,gR fl N L hL v,if_neg (by rw[show[iV v].all AV.one=true from rfl];simp;omega),if_neg (by omega)]
  rfl
 ·have hx:=Hp.As ho
  unfold rsH at ho hx
  have key:∀ j x,(j=52∨j=51∨j=49∨j<49)→x.fam=none→trunc1 (fm.getD q) (L*1) (j == q) x=x:=fun j x hj hx=>by
   have hne:(j == q)=false:=beq_eq_false_iff_ne.2 (by omega)
   rw[hne]
   cases x with
   | cells f' ro cs =>
    obtain rfl:f'=none:=hx
    simp[trunc1]
   | loop r=>rfl
   | dfr=>rfl
   | map es clock=>rfl
   | iter mid since seen last=>rfl
  show Hp.get ((n+1,_)::truncH (fm.getD q) (L*1) q ((n,AObj.cells none false [iV v])::rsH mc y lv q fm (flatG 1 (Bc fl) N) h)) id=some o∧_
  by_cases e1:id=n+1
  ·subst e1
   simp only [Hp.get] at ho ⊢
   rw[if_neg (by omega),if_neg (by omega),if_neg (by omega),if_pos trivial] at ho
   rw[if_pos trivial]
   exact⟨ho,by omega⟩
  ·have hid:id=52∨id=51∨id=49∨(id<49∧∀ o',Hp.get h id=some o'→o'.fam=none):=by
    rcases List.mem_cons.1 hx with hx|hx
    ·cases hx;exact .inl rfl
    rcases List.mem_cons.1 hx with hx|hx
    ·cases hx;exact .inr (.inl rfl)
    rcases List.mem_cons.1 hx with hx|hx
    ·cases hx;exact .inr (.inr (.inl rfl))
    rcases List.mem_cons.1 hx with hx|hx
    ·cases hx;exact absurd rfl e1
    ·exact .inr (.inr (.inr ⟨(hh _ hx).1,fun o' ho'=>(hh _ (Hp.As ho')).2⟩))
   have hlt:id<53:=by omega
   refine⟨?_,by omega⟩
   simp only [Hp.get]
   rw[if_neg (by omega)]
   show Hp.get ((n,_)::truncH (fm.getD q) (L*1) q (rsH mc y lv q fm (flatG 1 (Bc fl) N) h)) id=some o
   simp only [Hp.get]
   rw[if_neg (by omega),Fe]
   have ho2:Hp.get (rsH mc y lv q fm (flatG 1 (Bc fl) N) h) id=some o:=by
    unfold rsH
    simp only [Hp.get] at ho ⊢
    by_cases k1:52=id
    ·rw[if_pos k1] at ho ⊢;exact ho
    ·rw[if_neg k1] at ho ⊢
     by_cases k2:51=id
     ·rw[if_pos k2] at ho ⊢;exact ho
     ·rw[if_neg k2] at ho ⊢
      by_cases k3:49=id
      ·rw[if_pos k3] at ho ⊢;exact ho
      ·rw[if_neg k3,if_neg (by omega)] at ho ⊢;exact ho
   rw[ho2]
   show some (trunc1 (fm.getD q) (L*1) (id == q) o)=some o
   rw[key id o (by omega) ?_]
   rcases hid with rfl|rfl|rfl|⟨_,hf⟩
   ·simp only [Hp.get] at ho;rw[if_pos trivial] at ho;cases ho;rfl
   ·simp only [Hp.get] at ho;rw[if_neg (by omega),if_pos trivial] at ho;cases ho;rfl
   ·simp only [Hp.get] at ho;rw[if_neg (by omega),if_neg (by omega),if_pos trivial] at ho;cases ho;rfl
   ·refine hf o ?_
    simp only [Hp.get] at ho
    rw[if_neg (by omega),if_neg (by omega),if_neg (by omega),if_neg (by omega)] at ho
    exact ho
end Go.Fz
namespace Go.Fz
open Go.Proofs
set_option maxRecDepth 100000
section
variable (K:List (List Nat)→Hp→Nat→Prop)(stop:List (List Nat)→List Nat→Hp→Nat→Prop)(ok:List Nat→Prop)(mc y many:Nat)(ex:Bool)
def Xc:Prop:=∀ seen l h n R,K seen h n→ok l→(∀ x∈R,49≤x.1∧x.1<n∧x.2.own=true)→Bj Try.prog y [lsV l] ⟨R++h,n⟩ (fun v st'=>(v=.lit (.bool true)∧∃ h' n',n≤n'∧st'=⟨R++h',n'⟩∧K (seen++[l]) h' n')∨(v=.lit (.bool false)∧∃ h' n',n≤n'∧st'=⟨R++h',n'⟩∧stop seen l h' n'))
variable {K stop ok mc y many ex}
set_option maxHeartbeats 8000000 in
theorem mL (hmc:mc<49)(hmany:many<100)(hid:∀ s h n,K s h n→rsI mc many h n)(step:Xc K stop ok y)(p:List Nat)(s:Nat)(seen:List (List Nat))(h:Hp)(n:Nat)(st:St)(hp:p.length≤many)(hok:ok p)(hst:rsS mc y ex p h n st)(hK:K seen h n) :
  At Try.prog 102 [iV ((0:Nat):Int),iV (s:Int),.ptr 49 0,.ptr 51 0,.ptr mc 0,.ptr 52 0] st (rsQ K stop mc y ex seen p [p]):=by
 obtain⟨O,hO⟩:∃ O:Ar,O=std:=⟨_,rfl⟩
 obtain⟨q,fm,fl,N,q1,q2,q3,qn,hpN,hfl,rfl⟩:=hst
 obtain⟨hn,hh,fm0,ro0,hmcg⟩:=hid _ _ _ hK
 obtain⟨G,hG⟩:∃ G,flatG 1 (Bc fl) N=G:=⟨_,rfl⟩
 have hs:=step seen p h n [(52,.cells none false [dQ mc]),(51,.cells none false [.sl q 0 p.length 1 ex]),(49,.cells none false [.yld y]),(q,.cells fm false G)] hK hok (fun x hx=>by
  simp only [List.mem_cons,List.not_mem_nil,or_false] at hx
  rcases hx with rfl|rfl|rfl|rfl
  ·exact⟨by show 49≤52;omega,by show 52<n;omega,rfl⟩
  ·exact⟨by show 49≤51;omega,by show 51<n;omega,rfl⟩
  ·exact⟨by show 49≤49;omega,by show 49<n;omega,rfl⟩
  ·exact⟨by show 49≤q;omega,qn,rfl⟩)
 have c1:=fun(b:Bool)=>Mv (ex:=b) (off:=0) (n:=p.length) (N:=N) (fl:=fl) (id:=q) (fm:=fm) (ro:=false) (G:=G) (r:=lsV p) (st:=⟨rsH mc y (.sl q 0 p.length 1 ex) q fm G h,n⟩) (kS q1 q2 q3) hG (by omega) (by omega)
  (Eqv.isl rfl fun i k hi _=>Eqv.of (by show iV (fl (0+i))=iV ((p.getD i 0:Nat):Int);rw[Nat.zero_add,hfl i hi])) (Kn p)
 rw[hG]
 obtain⟨lv,hlv⟩:∃ lv,lsV p=lv:=⟨_,rfl⟩
 rw[hlv] at hs c1
 have hfin:∀ h' n',n≤n'→rsS mc y ex p h' n' ⟨rsH mc y (.sl q 0 p.length 1 ex) q fm G h',n'⟩:=fun h' n' hle=>⟨q,fm,fl,N,q1,q2,q3,by omega,hpN,hfl,by rw[hG]⟩
 obtain⟨L,hL⟩:∃ L,p.length=L:=⟨_,rfl⟩
 rw[hL] at hs c1 hfin ⊢
 refine Bb tok Try.func102 rfl ?_
 refine SW.Ab tok hO (by cbv<;>rfl) (by trivial) ?_
 refine SW.seq ?_
 refine SW.Ab tok hO (by cbv<;>rfl) (by trivial) ?_
 refine SW.Bd (by cbv<;>rfl) (fun h1=>?_) (fun h1=>?_)
 rotate_left
 ·exfalso
  subst hO;simp[std] at h1
 refine SW.Bv tok mixed hO (by kernel_rfl) (by cbv<;>rfl) (by trivial) ?_
 refine AnyE.Ep Un (c1 ex) (by cbv<;>rfl) (by cbv<;>rfl) ?_
 refine AnyE.run tok hO (by kernel_rfl) (by cbv<;>rfl) (by trivial) ?_
 refine AnyE.apply (c:=.yld y) (args:=[lv]) (by cbv<;>rfl) (by cbv<;>rfl) hs fun v st' hk=>?_
 rcases hk with ⟨rfl,h2,n2,hle,rfl,hk⟩|⟨rfl,h2,n2,hle,rfl,hk⟩
 ·refine AnyE.run tok hO (by kernel_rfl) (by cbv<;>rfl) (by trivial) ?_
  exact SW.ret ⟨_,_,rfl,rfl,.inl ⟨rfl,h2,n2,hfin h2 n2 hle,hk⟩⟩
 ·refine AnyE.run tok hO (by kernel_rfl) (by cbv<;>rfl) (by trivial) ?_
  exact SW.ret ⟨_,_,rfl,rfl,.inr ⟨rfl,[],p,[],h2,n2,rfl,hfin h2 n2 hle,by rw[List.append_nil];exact hk⟩⟩
end
end Go.Fz
namespace Go.Fz
open Go.Proofs
set_option maxRecDepth 100000
theorem range_split (a b:Nat)(h:a≤b):∃ r,List.range b=List.range a++r:=by
 have h1:=List.take_append_drop a (List.range b)
 rw[List.take_range,Nat.min_eq_left h] at h1
 exact⟨_,h1.symm⟩
section
variable {K:List (List Nat)→Hp→Nat→Prop}{stop:List (List Nat)→List Nat→Hp→Nat→Prop}{ok:List Nat→Prop}{mc y many:Nat}
set_option maxHeartbeats 16000000 in
theorem mJ (hmc:mc<49)(hmany:many<100)(hid:∀ s h n,K s h n→rsI mc many h n)(hmono:∀ s h n n',K s h n→n≤n'→K s h n')(m:Nat)
  (ih:∀ (p:List Nat)(s:Nat)(seen:List (List Nat))(h:Hp)(n:Nat)(st:St),m+p.length≤many→s≤many→(∀ l∈Pe many m p s,ok l)→rsS mc y false p h n st→K seen h n →
   At Try.prog 102 [iV (m:Int),iV (s:Int),.ptr 49 0,.ptr 51 0,.ptr mc 0,.ptr 52 0] st (rsQ K stop mc y false seen p (Pe many m p s)))
  (p:List Nat)(s:Nat)(seen:List (List Nat))(h:Hp)(n:Nat)(st:St)(hp:m+1+p.length≤many)(hs:s≤many)(hok:∀ l∈Pe many (m+1) p s,ok l)(hst:rsS mc y false p h n st)(hK:K seen h n) :
  At Try.prog 102 [iV ((m+1:Nat):Int),iV (s:Int),.ptr 49 0,.ptr 51 0,.ptr mc 0,.ptr 52 0] st (rsQ K stop mc y false seen p (Pe many (m+1) p s)):=by
 obtain⟨O,hO⟩:∃ O:Ar,O=std:=⟨_,rfl⟩
 obtain⟨q,fm,fl,N,q1,q2,q3,qn,hpN,hfl,rfl⟩:=hst
 obtain⟨F,hF⟩:∃ F:Nat→List (List Nat),F=fun c=>Pe many m (p++[s+c]) (s+c+1):=⟨_,rfl⟩
 have hE:Pe many (m+1) p s=(List.range (many-m-s)).flatMap F:=by rw[hF];rfl
 rw[hE] at hok ⊢
 have hsn:∀ c,(List.range (c+1)).flatMap F=(List.range c).flatMap F++F c:=fun c=>by rw[List.range_succ,List.flatMap_append];simp
 obtain⟨ma,hma⟩:∃ ma:Int,((m+1:Nat):Int)=ma:=⟨_,rfl⟩
 obtain⟨sa,hsa⟩:∃ sa:Int,(s:Int)=sa:=⟨_,rfl⟩
 rw[hma,hsa]
 refine Bb tok Try.func102 rfl ?_
 have hst0:rsS mc y false p h n ⟨rsH mc y (.sl q 0 p.length 1 false) q fm (flatG 1 (Bc fl) N) h,n⟩:=⟨q,fm,fl,N,q1,q2,q3,qn,hpN,hfl,rfl⟩
 obtain⟨L,hL⟩:∃ L,p.length=L:=⟨_,rfl⟩
 obtain⟨G,hG⟩:∃ G,flatG 1 (Bc fl) N=G:=⟨_,rfl⟩
 rw[hL,hG] at hst0
 rw[hL,hG]
 refine SW.Ab tok hO (by cbv<;>rfl) (by trivial) ?_
 refine SW.seq ?_
 refine SW.Ab tok hO (by cbv<;>rfl) (by trivial) ?_
 refine SW.Bd (by cbv<;>rfl) (fun h1=>?_) (fun h1=>SW.skip ?_)
 ·exfalso
  have:ma=0:=by subst hO;simpa[std] using h1
  omega
 refine SW.seq ?_
 refine SW.Ab tok hO (by cbv<;>rfl) (by trivial) ?_
 refine(SW.block (SW.loop (fun k f st=>∃ (g:Nat→AV)(c:Nat)(h':Hp)(n':Nat),f=⟨⟨42,g⟩,[]⟩∧Hl (fun p=>g p.1=p.2) [(0,iV ma),(2,.ptr 49 0),(3,.ptr 51 0),(4,.ptr mc 0),(5,.ptr 52 0),(9,iV (sa+(c:Int)))]∧rsS mc y false p h' n' st ∧
   K (seen++(List.range c).flatMap F) h' n'∧c≤many-m-s∧k=many-m-s-c) (many-m-s-0) ?_ ?_))
 ·refine⟨_,0,h,n,rfl,⟨rfl,rfl,rfl,rfl,rfl,?_,trivial⟩,hst0,by simpa using hK,by omega,rfl⟩
  show iV sa=iV (sa+((0:Nat):Int))
  rw[show sa+((0:Nat):Int)=sa by omega]
 ·rintro k f st ⟨g,c,h',n',rfl,⟨g0,g2,g3,g4,g5,g9,_⟩,hst,hK',hle,rfl⟩
  obtain⟨q,fm,fl,N,q1,q2,q3,qn,hpN,hfl,rfl⟩:=hst
  obtain⟨hn,hh,fm0,ro0,hmcg⟩:=hid _ _ _ hK'
  simp only at g0 g2 g3 g4 g5 g9
  rw[←Am g0,←Am g2,←Am g3,←Am g4,←Am g5,←Am g9]
  obtain⟨v,hv⟩:∃ v,sa+(c:Int)=v:=⟨_,rfl⟩
  have hst1:rsS mc y false p h' n' ⟨rsH mc y (.sl q 0 p.length 1 false) q fm (flatG 1 (Bc fl) N) h',n'⟩:=⟨q,fm,fl,N,q1,q2,q3,qn,hpN,hfl,rfl⟩
  rw[hv]
  obtain⟨G1,hG1⟩:∃ G1,flatG 1 (Bc fl) N=G1:=⟨_,rfl⟩
  rw[hL] at hst1 hpN
  rw[hG1] at hst1
  rw[hL,hG1]
  refine SW.seq ?_
  refine SW.seq (SW.runN tok hO 1 (by cbv<;>rfl) (by trivial) ?_)
  refine Ac.ldI tok (by cbv<;>rfl) (Tx (v:=(many:Int)) ((rO q1 hmc).trans hmcg)) ?_
  obtain⟨mn,hmn⟩:∃ mn:Int,(many:Int)=mn:=⟨_,rfl⟩
  rw[hmn]
  refine Ac.run tok hO (by cbv<;>rfl) (by trivial) ?_
  have hsub:O.bin .sub .i64 mn ma=mn-ma:=by
   subst hO
   show Np mn ma=_
   rw[Il _ _ (by omega) (by omega)]
  refine SW.Bd (by cbv<;>rfl) (fun h3=>SW.skip ?_) (fun h3=>SW.exit ?_)
  rotate_left
  ·have hgt:mn-ma<v:=by
    have:O.bin .sub .i64 mn ma<v:=by subst hO;simpa[std] using h3
    rwa [hsub] at this
   have hc:c=many-m-s:=by omega
   refine SW.Ab tok hO (by cbv<;>rfl) (by trivial) ?_
   refine SW.ret ⟨_,_,rfl,rfl,.inl ⟨rfl,h',n',hst1,?_⟩⟩
   rw[hc] at hK';exact hK'
  ·have hvle:v≤mn-ma:=by
    have:v≤O.bin .sub .i64 mn ma:=by subst hO;simpa[std] using h3
    rwa [hsub] at this
   have hcl:c<many-m-s:=by omega
   have hvN:v=((s+c:Nat):Int):=by omega
   refine SW.seq (SW.block ?_)
   refine SW.seq (SW.runN tok hO 3 (by cbv<;>rfl) (by trivial) ?_)
   obtain⟨h2,happ,hsubh⟩:=wA (mc:=mc) (y:=y) (t:=56) (L:=L) (q:=q) (n:=n') (lv:=.sl q 0 L 1 false) (fm:=fm) (fl:=fl) (N:=N) (h:=h') (v:=v) (ex:=true) (by kernel_rfl) q1 q2 q3 qn (by omega) (by omega) hh hn
   rw[hG1] at happ
   refine Ac.rI tok (by cbv<;>rfl) happ ?_
   refine Ac.sub (by rfl) hsubh ?_
   have hflx:∀ i,i<(p++[s+c]).length→Ek fl L v i=(((p++[s+c]).getD i 0:Nat):Int):=fun i hi=>by
    rw[List.length_append,List.length_singleton,hL] at hi
    by_cases e:i=L
    ·subst e
     rw[Cd,hvN]
     congr 1
     rw[←hL];simp
    ·rw[Cv e,hfl i (by omega)]
     congr 1
     rw[List.getD_eq_getElem?_getD,List.getD_eq_getElem?_getD,List.getElem?_append_left (by omega)]
   have hlen1:(p++[s+c]).length=L+1:=by rw[List.length_append,List.length_singleton,hL]
   have hst2:rsS mc y false (p++[s+c]) h' (n'+1+1) ⟨rsH mc y (.sl (n'+1) 0 (L+1) 1 false) (n'+1) (some (fm.getD q)) (flatG 1 (Bc (Ek fl L v)) (L+1)) h',n'+1+1⟩ :=
    ⟨n'+1,some (fm.getD q),Ek fl L v,L+1,by omega,by omega,by omega,by omega,by omega,hflx,by rw[hlen1]⟩
   have hrec:=ih (p++[s+c]) (s+c+1) (seen++(List.range c).flatMap F) h' (n'+1+1) _ (by omega) (by omega) (fun l hl=>hok l (List.mem_flatMap.2 ⟨c,List.mem_range.2 hcl,by rw[hF];exact hl⟩)) hst2 (hmono _ _ _ _ hK' (by omega))
   obtain⟨G2,hG2⟩:∃ G2,flatG 1 (Bc (Ek fl L v)) (L+1)=G2:=⟨_,rfl⟩
   rw[hG2] at hrec
   rw[hG2]
   have e1:iV (m:Int)=AV.lit (.int .i64 (O.bin .sub .i64 ma 1)):=by
    have:O.bin .sub .i64 ma 1=(m:Int):=by
     subst hO
     show Np ma 1=_
     rw[Il _ _ (by omega) (by omega)];omega
    rw[this];rfl
   have e2:iV ((s+c+1:Nat):Int)=AV.lit (.int .i64 (O.bin .add .i64 v 1)):=by
    have:O.bin .add .i64 v 1=((s+c+1:Nat):Int):=by
     subst hO
     show Hq v 1=_
     rw[Gs _ _ (by omega) (by omega)];omega
    rw[this];rfl
   rw[e1,e2] at hrec
   refine Ac.run tok hO (by cbv<;>rfl) (by trivial) ?_
   refine SW.Ab tok hO (by cbv<;>rfl) (by trivial) ?_
   refine Ac.apply (by cbv<;>rfl) (show ApplyW Try.prog (dQ mc) _ _ _ from⟨gA,hrec⟩) fun w st' hk=>?_
   have hFc:Pe many m (p++[s+c]) (s+c+1)=F c:=by rw[hF]
   rw[hFc] at hk
   have hcut:O.bin .sub .i64 (Int.ofNat (L+1)) 1=Int.ofNat L:=by
    subst hO
    show Np ((L+1:Nat):Int) 1=(L:Int)
    rw[Il _ _ (by omega) (by omega)];omega
   rcases hk with ⟨rfl,h3,n3,⟨q',fm',fl',N',k1,k2,k3,k4,k5,k6,rfl⟩,hk⟩|⟨rfl,pre,l,post,h3,n3,hE3,⟨q',fm',fl',N',k1,k2,k3,k4,k5,k6,rfl⟩,hk⟩
   ·have hst3:rsS mc y false p h3 n3 ⟨rsH mc y (.sl q' 0 L 1 false) q' fm' (flatG 1 (Bc fl') N') h3,n3⟩:=⟨q',fm',fl',N',k1,k2,k3,k4,by rw[hlen1] at k5;omega,fun i hi=>by
     rw[k6 i (by omega),List.getD_eq_getElem?_getD,List.getD_eq_getElem?_getD,List.getElem?_append_left (by omega)],by rw[hL]⟩
    obtain⟨G3,hG3⟩:∃ G3,flatG 1 (Bc fl') N'=G3:=⟨_,rfl⟩
    rw[hG3] at hst3
    rw[hG3,hlen1]
    refine Ac.run tok hO (by cbv<;>rfl) (by trivial) ?_
    refine SW.seq (SW.runN tok hO 4 (by cbv<;>rfl) (by trivial) ?_)
    refine Ac.xJ tok (u:=L) (by cbv<;>rfl) hcut (by kernel_rfl) (by omega) ?_
    refine Ac.run tok hO (by cbv<;>rfl) (by trivial) ?_
    refine SW.Ab tok hO (by cbv<;>rfl) (by trivial) ?_
    refine SW.cond (t:=false) (by cbv<;>rfl) (SW.skip ?_)
    refine SW.run tok hO (by cbv<;>rfl) (by trivial) ?_
    have hinc:O.bin .add .i64 v 1=sa+((c+1:Nat):Int):=by
     subst hO
     show Hq v 1=_
     rw[Gs _ _ (by omega) (by omega)];omega
    refine⟨many-m-s-(c+1),by omega,_,c+1,h3,n3,rfl,⟨rfl,rfl,rfl,rfl,rfl,congrArg (fun z=>AV.lit (.int .i64 z)) hinc,trivial⟩,hst3,?_,by omega,rfl⟩
    rw[hsn,←List.append_assoc];exact hk
   ·have hst3:rsS mc y false p h3 n3 ⟨rsH mc y (.sl q' 0 L 1 false) q' fm' (flatG 1 (Bc fl') N') h3,n3⟩:=⟨q',fm',fl',N',k1,k2,k3,k4,by rw[hlen1] at k5;omega,fun i hi=>by
     rw[k6 i (by omega),List.getD_eq_getElem?_getD,List.getD_eq_getElem?_getD,List.getElem?_append_left (by omega)],by rw[hL]⟩
    obtain⟨G3,hG3⟩:∃ G3,flatG 1 (Bc fl') N'=G3:=⟨_,rfl⟩
    rw[hG3] at hst3
    rw[hG3,hlen1]
    refine Ac.run tok hO (by cbv<;>rfl) (by trivial) ?_
    refine SW.seq (SW.runN tok hO 4 (by cbv<;>rfl) (by trivial) ?_)
    refine Ac.xJ tok (u:=L) (by cbv<;>rfl) hcut (by kernel_rfl) (by omega) ?_
    refine Ac.run tok hO (by cbv<;>rfl) (by trivial) ?_
    refine SW.Ab tok hO (by cbv<;>rfl) (by trivial) ?_
    refine SW.cond (t:=true) (by cbv<;>rfl) ?_
    refine SW.Ab tok hO (by cbv<;>rfl) (by trivial) ?_
    obtain⟨r,hr⟩:=range_split (c+1) (many-m-s) hcl
    have hsplit:(List.range (many-m-s)).flatMap F=((List.range c).flatMap F++pre)++l::(post++r.flatMap F):=by
     rw[hr,List.flatMap_append,hsn,hE3]
     simp[List.append_assoc]
    refine SW.ret ⟨_,_,rfl,rfl,.inr ⟨rfl,(List.range c).flatMap F++pre,l,_,h3,n3,hsplit,hst3,?_⟩⟩
    rw[←List.append_assoc];exact hk
end
end Go.Fz
namespace Go.Fz
open Go.Proofs
set_option maxRecDepth 100000
theorem SW.sub {P:Program}{rd:Option Nat}{c:Code}{Q:Exit→Fm→St→Prop}{f:Fm}{h1 h2:Hp}{n:Nat}(hd:f.dm=[])(hs:∀ id o,h2.get id=some o→h1.get id=some o∧id<n)(h:SW P rd c Q f ⟨h2,n⟩):SW P rd c Q f ⟨h1,n⟩ :=
 SW.pre (f2:=f) (st2:=⟨h2,n⟩) ⟨rfl,rfl,fun id hid=>(by rw[hd] at hid;cases hid),fun i=>.inr ⟨rfl,.inl rfl⟩,Nat.le_refl _,Nat.le_refl _,fun id o ho=>⟨(hs id o ho).1,(hs id o ho).2,.inl rfl⟩⟩ h
section
variable {K:List (List Nat)→Hp→Nat→Prop}{stop:List (List Nat)→List Nat→Hp→Nat→Prop}{ok:List Nat→Prop}{mc y many:Nat}
theorem mK (hmc:mc<49)(hmany:many<100)(hid:∀ s h n,K s h n→rsI mc many h n)(hmono:∀ s h n n',K s h n→n≤n'→K s h n')(step:Xc K stop ok y) :
  ∀ (m:Nat)(ex:Bool)(p:List Nat)(s:Nat)(seen:List (List Nat))(h:Hp)(n:Nat)(st:St),(0<m→ex=false)→m+p.length≤many→s≤many→(∀ l∈Pe many m p s,ok l)→rsS mc y ex p h n st→K seen h n →
   At Try.prog 102 [iV (m:Int),iV (s:Int),.ptr 49 0,.ptr 51 0,.ptr mc 0,.ptr 52 0] st (rsQ K stop mc y ex seen p (Pe many m p s))
 | 0,ex,p,s,seen,h,n,st,_,hp,_,hok,hst,hK=>mL hmc hmany hid step p s seen h n st (by omega) (hok p (List.mem_singleton.2 rfl)) hst hK
 | m+1,ex,p,s,seen,h,n,st,hex,hp,hs,hok,hst,hK=>by
  obtain rfl:=hex (Nat.succ_pos m)
  exact mJ hmc hmany hid hmono m (fun p s seen h n st=>mK hmc hmany hid hmono step m false p s seen h n st fun _=>rfl) p s seen h n st hp hs hok hst hK
theorem Xl {many:Nat}{m:Nat}(hm:m≤many){l:List Nat}(hl:l∈Pe many m [] 0):l∈Im many:=List.mem_flatMap.2 ⟨m,List.mem_range.2 (by omega),hl⟩
set_option maxHeartbeats 16000000 in
theorem gZ (hmc:mc<49)(hmany:many<100)(hid:∀ s h n,K s h n→rsI mc many h n)(hidS:∀ s l h n,stop s l h n→53≤n∧∀ x∈h,x.1<49)(hmono:∀ s h n n',K s h n→n≤n'→K s h n')(hok:∀ l∈Im many,ok l)(step:Xc K stop ok y)
  (h0:Hp)(n0:Nat)(hn0:n0≤49)(hK:K [] h0 53) :
  At Try.prog 101 [.yld y,.ptr mc 0] ⟨h0,n0⟩ (fun _ st'=>∃ h n,st'=⟨h,n⟩∧(K (Im many) h n∨∃ pre l post,Im many=pre++l::post∧stop pre l h n)):=by
 obtain⟨O,hO⟩:∃ O:Ar,O=std:=⟨_,rfl⟩
 obtain⟨_,hh0,fm0,ro0,hmcg⟩:=hid _ _ _ hK
 refine At.pad (n:=49) (by show n0≤49;exact hn0) ?_
 refine At.gN (k1:=fun _ st'=>∃ R h n,(∀ id o,Hp.get R id=some o→49≤id)∧st'=⟨R++h,n⟩∧(∀ x∈h,x.1<49)∧53≤n∧(K (Im many) h n∨∃ pre l post,Im many=pre++l::post∧stop pre l h n)) ?_ (fun v st1 ⟨R,h,n,hR,hs,hl,hn,hk⟩=>.inr ⟨.any,⟨h,n⟩,⟨.inl rfl,by show 49≤n;omega,by rw[hs];exact Nat.le_refl _,fun id o ho=>?_⟩,h,n,rfl,hk⟩)
 rotate_left
 ·have hlt:id<49:=hl _ (Hp.As ho)
  refine⟨?_,by show id<n;omega,.inl (by rw[hs])⟩
  rw[hs]
  show Hp.get (R++h) id=some o
  rw[Hp.get_app]
  cases hg:Hp.get R id with
  | none=>exact ho
  | some o'=>have:=hR id o' hg;omega
 have Bw:∀ {q:Nat}{fm:Option Nat}{G:List AV}{lv:AV},50≤q→∀ id o,Hp.get [(52,AObj.cells none false [dQ mc]),(51,.cells none false [lv]),(49,.cells none false [.yld y]),(q,.cells fm false G)] id=some o→49≤id:=fun hq id o ho=>by
  have:=Hp.As ho
  simp only [List.mem_cons,List.not_mem_nil,or_false,Prod.mk.injEq] at this
  omega
 obtain⟨F,hF⟩:∃ F:Nat→List (List Nat),F=fun m=>Pe many m [] 0:=⟨_,rfl⟩
 have hsn:∀ c,(List.range (c+1)).flatMap F=(List.range c).flatMap F++F c:=fun c=>by rw[List.range_succ,List.flatMap_append];simp
 have hE:Im many=(List.range (many+1)).flatMap F:=by rw[hF];rfl
 refine Bb tok Try.func101 rfl ?_
 refine SW.Ab tok hO (by cbv<;>rfl) (by trivial) ?_
 have hmc1:∀ o,Hp.get ((49,o)::h0) mc=some (.cells fm0 ro0 [iV (many:Int)]):=fun o=>by
  simp only [Hp.get]
  rw[if_neg (by omega)];exact hmcg
 refine SW.seq (SW.runN tok hO 0 (by cbv<;>rfl) (by trivial) ?_)
 refine Ac.ldI tok (by cbv<;>rfl) (Tx (v:=(many:Int)) (hmc1 _)) ?_
 obtain⟨mn,hmn⟩:∃ mn:Int,(many:Int)=mn:=⟨_,rfl⟩
 rw[hmn]
 refine Ac.runN tok hO 1 (by cbv<;>rfl) (by trivial) ?_
 have hmx:O.mx mn 0=Int.ofNat many:=by
  subst hO
  show(if(0:Int)>mn then 0 else mn)=(many:Int)
  rw[if_neg (by omega),hmn]
 refine Ac.wT tok (N:=many) (by cbv<;>rfl) hmx (by kernel_rfl) (by omega) ?_
 have hst0:rsS mc y (Nat.beq many 0) [] h0 53 ⟨rsH mc y (.sl 50 0 0 1 (Nat.beq many 0)) 50 none (flatG 1 (Bc fun _=>0) many) h0,53⟩ :=
  ⟨50,none,fun _=>0,many,by omega,by omega,by omega,by omega,Nat.zero_le _,fun i hi=>absurd hi (Nat.not_lt_zero i),rfl⟩
 obtain⟨G,hG⟩:∃ G,flatG 1 (Bc fun _=>0) many=G:=⟨_,rfl⟩
 obtain⟨ex,hex⟩:∃ ex,Nat.beq many 0=ex:=⟨_,rfl⟩
 rw[hG,hex] at hst0
 rw[hG,hex]
 refine Ac.run tok hO (by cbv<;>rfl) (by trivial) ?_
 refine SW.Ab tok hO (by cbv<;>rfl) (by trivial) ?_
 refine SW.Ab tok hO (by cbv<;>rfl) (by trivial) ?_
 refine SW.Ab tok hO (by cbv<;>rfl) (by trivial) ?_
 refine SW.sub (h2:=rsH mc y (.sl 50 0 0 1 ex) 50 none G h0) (by rfl) (fun id o ho=>?_) ?_
 ·have hm:=Hp.As ho
  unfold rsH at ho hm
  simp only [List.mem_cons,Prod.mk.injEq] at hm
  rcases hm with ⟨rfl,rfl⟩|⟨rfl,rfl⟩|⟨rfl,rfl⟩|⟨rfl,rfl⟩|hm
  ·exact⟨rfl,by omega⟩
  ·exact⟨rfl,by omega⟩
  ·exact⟨rfl,by omega⟩
  ·exact⟨rfl,by omega⟩
  ·have hlt:id<49:=(hh0 _ hm).1
   simp only [Hp.get] at ho ⊢
   rw[if_neg (by omega),if_neg (by omega),if_neg (by omega),if_neg (by omega)] at ho ⊢
   exact⟨ho,by omega⟩
 refine SW.block (SW.loop (fun k f st=>∃ (g:Nat→AV)(c:Nat)(h':Hp)(n':Nat),f=⟨⟨20,g⟩,[]⟩∧Hl (fun p=>g p.1=p.2) [(1,.ptr mc 0),(4,.ptr 52 0),(5,iV (c:Int))]∧rsS mc y ex [] h' n' st∧K ((List.range c).flatMap F) h' n'∧c≤many+1∧k=many+1-c) (many+1-0) ?_ ?_)
 ·exact⟨_,0,h0,53,rfl,⟨rfl,rfl,rfl,trivial⟩,hst0,hK,by omega,rfl⟩
 ·rintro k f st ⟨g,c,h',n',rfl,⟨g1,g4,g5,_⟩,hst,hK',hle,rfl⟩
  have hst1:=hst
  obtain⟨q,fm,fl,N,q1,q2,q3,qn,hpN,hfl,rfl⟩:=hst
  obtain⟨hn,hh,fm1,ro1,hmcg1⟩:=hid _ _ _ hK'
  simp only at g1 g4 g5
  rw[←Am g1,←Am g4,←Am g5]
  have hmcg2:=(rO (y:=y) (lv:=.sl q 0 0 1 ex) (q:=q) (fm:=fm) (G:=flatG 1 (Bc fl) N) (h:=h') q1 hmc).trans hmcg1
  obtain⟨G1,hG1⟩:∃ G1,flatG 1 (Bc fl) N=G1:=⟨_,rfl⟩
  obtain⟨v,hv⟩:∃ v,(c:Int)=v:=⟨_,rfl⟩
  have hlow:∀ x∈h',x.1<49:=fun x hx=>(hh x hx).1
  have hrec:=fun hc:c≤many=>mK hmc hmany hid hmono step c ex [] 0 _ h' n' _ (fun hp=>by rw[←hex];cases many with|zero=>omega|succ k=>rfl) (by rw[List.length_nil];omega) (Nat.zero_le _) (fun l hl=>hok l (Xl hc hl)) hst1 hK'
  simp only [List.length_nil] at hrec hst1 ⊢
  rw[hG1] at hst1 hmcg2
  rw[hG1,hv] at hrec
  rw[hG1,hv]
  refine SW.seq ?_
  refine SW.seq (SW.runN tok hO 1 (by cbv<;>rfl) (by trivial) ?_)
  refine Ac.ldI tok (by cbv<;>rfl) (Tx (v:=(many:Int)) hmcg2) ?_
  rw[hmn]
  refine Ac.run tok hO (by cbv<;>rfl) (by trivial) ?_
  refine Ac.Bs (by cbv<;>rfl) (fun hb=>?_) (fun hb=>?_)
  rotate_left
  ·have hgt:¬ v≤mn:=by subst hO;exact of_decide_eq_false hb
   have hc:c=many+1:=by omega
   refine Ac.run tok hO (by cbv<;>rfl) (by trivial) ?_
   refine SW.cond (t:=false) (by cbv<;>rfl) (SW.exit ?_)
   refine⟨_,_,rfl,rfl,[(52,.cells none false [dQ mc]),(51,.cells none false [.sl q 0 0 1 ex]),(49,.cells none false [.yld y]),(q,.cells fm false G1)],h',n',Bw q1,rfl,hlow,hn,.inl ?_⟩
   rw[hE,←hc];exact hK'
  ·have hcle:v≤mn:=by subst hO;exact of_decide_eq_true hb
   refine Ac.run tok hO (by cbv<;>rfl) (by trivial) ?_
   refine Ac.apply (by cbv<;>rfl) (show ApplyW Try.prog (dQ mc) _ _ _ from⟨gA,hrec (by omega)⟩) fun w st' hk=>?_
   rcases hk with ⟨rfl,h3,n3,hst3,hk⟩|⟨rfl,pre,l,post,h3,n3,hE3,hst3,hk⟩
   ·have hst4:=hst3
    obtain⟨q',fm',fl',N',k1,k2,k3,k4,k5,k6,rfl⟩:=hst3
    obtain⟨G3,hG3⟩:∃ G3,flatG 1 (Bc fl') N'=G3:=⟨_,rfl⟩
    simp only [List.length_nil] at hst4 ⊢
    rw[hG3] at hst4
    rw[hG3]
    refine Ac.run tok hO (by cbv<;>rfl) (by trivial) ?_
    refine SW.cond (t:=true) (by cbv<;>rfl) (SW.skip ?_)
    refine SW.seq (SW.block (SW.skip ?_))
    refine SW.run tok hO (by cbv<;>rfl) (by trivial) ?_
    have hinc:O.bin .add .i64 v 1=((c+1:Nat):Int):=by
     subst hO
     show Hq v 1=_
     rw[Gs _ _ (by omega) (by omega)];omega
    refine⟨many+1-(c+1),by omega,_,c+1,h3,n3,rfl,⟨rfl,rfl,congrArg (fun z=>AV.lit (.int .i64 z)) hinc,trivial⟩,hst4,?_,by omega,rfl⟩
    rw[hsn,hF];rw[hF] at hk;exact hk
   ·obtain⟨q',fm',fl',N',k1,k2,k3,k4,k5,k6,rfl⟩:=hst3
    obtain⟨G3,hG3⟩:∃ G3,flatG 1 (Bc fl') N'=G3:=⟨_,rfl⟩
    simp only [List.length_nil]
    rw[hG3]
    refine Ac.run tok hO (by cbv<;>rfl) (by trivial) ?_
    refine SW.cond (t:=false) (by cbv<;>rfl) (SW.exit ?_)
    obtain⟨hn3,hl3⟩:=hidS _ _ _ _ hk
    obtain⟨r,hr⟩:=range_split (c+1) (many+1) (by omega)
    refine⟨_,_,rfl,rfl,[(52,.cells none false [dQ mc]),(51,.cells none false [.sl q' 0 0 1 ex]),(49,.cells none false [.yld y]),(q',.cells fm' false G3)],h3,n3,Bw k1,rfl,hl3,hn3,.inr ⟨(List.range c).flatMap F++pre,l,post++r.flatMap F,?_,hk⟩⟩
    have hE4:F c=pre++l::post:=by rw[hF];exact hE3
    rw[hE,hr,List.flatMap_append,hsn,hE4]
    simp[List.append_assoc]
theorem kT (h:Hp)(n:Nat):At Try.prog 74 [iV (many:Int)] ⟨h,n⟩ (fun v st'=>v=.fn (.func 101) [] [.ptr n 0]∧st'=⟨(n,.cells none false [iV (many:Int)])::h,n+1⟩):=by
 obtain⟨O,hO⟩:∃ O:Ar,O=std:=⟨_,rfl⟩
 obtain⟨mn,hmn⟩:∃ mn:Int,(many:Int)=mn:=⟨_,rfl⟩
 rw[hmn]
 refine Bb tok Try.func74 rfl ?_
 refine SW.Ab tok hO (by cbv<;>rfl) (by trivial) ?_
 refine SW.Ab tok hO (by cbv<;>rfl) (by trivial) ?_
 exact SW.ret ⟨_,_,rfl,rfl,rfl,rfl⟩
end
end Go.Fz
namespace Go.Fz
open Go.Proofs
set_option maxRecDepth 100000
def outX (nw nl:Nat)(A B C D:Nat→Nat→Int)(a b c e:Nat→Int)(i k:Nat):AV:=match k with
 | 0=>Ak nw false (A i)
 | 1=>Ak nl false (B i)
 | 2=>Ak nw false (C i)
 | 3=>Ak nw false (D i)
 | 4=>iV (a i)
 | 5=>iV (b i)
 | 6=>iV (c i)
 | _=>iV (e i)
def Fx (l:List (Nat→Int))(i:Nat):Nat→Int:=l.getD i (fun _=>0)
theorem sG (d:Ah)(l:List (Nat→Int)):Jd d l=outX d.nw d.nl (fun i=>Fx l i) (fun i j=>Fx l i (d.nw+j)) (fun i=>d.bun (Cp d (Fx l i))) (fun i=>d.lef (Cp d (Fx l i)))
  (fun i=>(d.Bn (Cp d (Fx l i))).hands) (fun i=>(d.Bn (Cp d (Fx l i))).loose) (fun i=>(d.Bn (Cp d (Fx l i))).flats) (fun i=>(d.Bn (Cp d (Fx l i))).spare):=by
 funext i k
 match k with
 | 0|1|2|3|4|5|6=>rfl
 | _+7=>rfl
theorem Yq {β:Type} [DecidableEq β] {E:List (β × Nat)}{x b:β}{c:Nat}:x∈(Gv E b c).map (·.1)↔x∈E.map (·.1)∨x=b:=by
 unfold Gv
 split
 ·rename_i h
  exact⟨.inl,fun h2=>h2.elim id fun e=>by rw[e];exact h⟩
 ·simp
end Go.Fz
namespace Go.Fz
open Go.Proofs
set_option maxRecDepth 100000
theorem dP (d:Ah)(hc:d.check=0):d.seen.outs.length≤2000:=by
 have h1:=Qu (cP d) (fun a=>a.outs.length) (d.nw+d.nl) d.ulo d.uhi (fun a f=>Zs d a f) (d.nw+d.nl) 0 (fun _=>0) pr0
 have h2:=Wp hc
 have h3:pr0.outs.length=0:=rfl
 have h4:d.seen.outs.length≤pr0.outs.length+Rw d.ulo d.uhi (d.nw+d.nl) 0:=h1
 omega
end Go.Fz
namespace Go.Fz
section
variable {P:Program}{T:Ti}
def esOf (st:St)(a:AV):Option (Nat × List (AV × AV × Nat) × Nat):=match a with
 | .mp id=>match st.h.get id with
  | some (.map es clock)=>some (id,es,clock)
  | _=>none
 | _=>none
theorem Ia {φ:Fi}{st:St}{w:World}{a:AV}{u:Value}{id clock:Nat}{es:List (AV × AV × Nat)}(hr:Rel φ st w)(ha:VR φ a u)(h:esOf st a=some (id,es,clock)) :
  u=.map (some (φ.f id).b)∧id<φ.n∧st.h.get id=some (.map es clock)∧∃ ces:Array MapEntry,w.heap[(φ.f id).b]?=some (.map ces clock)∧ces.size=es.length ∧
   ∀ (i:Nat)(x:AV × AV × Nat),es[i]?=some x→∃ e,ces[i]?=some e∧VR φ x.1 e.key∧VR φ x.2.1 e.val∧e.born=x.2.2:=by
 unfold esOf at h
 split at h
 ·rename_i id'
  split at h
  ·rename_i es' clock' ho
   cases h
   obtain⟨h1,h2⟩:=ha.Ml
   exact⟨h1,h2,ho,hr.obj _ _ ho⟩
  ·cases h
 ·cases h
def itOf (st:St)(a:AV):Option (Nat × Nat × Nat × List Nat × Nat):=match a with
 | .ptr rid 0=>match st.h.get rid with
  | some (.iter mid since seen last)=>some (rid,mid,since,seen,last)
  | _=>none
 | _=>none
theorem Pu {φ:Fi}{st:St}{w:World}{a:AV}{u:Value}{rid mid since last:Nat}{seen:List Nat}(hr:Rel φ st w)(ha:VR φ a u)(h:itOf st a=some (rid,mid,since,seen,last)) :
  u=.pointer (some ⟨(φ.f rid).b,0,none⟩)∧st.h.get rid=some (.iter mid since seen last)∧w.heap[(φ.f rid).b]?=some (.mapIter (some (φ.f mid).b) since seen.toArray last)∧(φ.f rid).o=0∧mid<φ.n:=by
 unfold itOf at h
 split at h
 ·rename_i rid'
  split at h
  ·rename_i mid' since' seen' last' ho
   cases h
   obtain⟨h1,h2⟩:=ha.Dn
   obtain⟨h3,h4,h5⟩:=hr.obj _ _ ho
   exact⟨by rw[h1,h4],ho,h3,h4,h5⟩
  ·cases h
 ·cases h
def Ej (es:List (AV × AV × Nat)):Bool:=decide ((es.map fun x=>x.2.2).Nodup)
theorem Tk {hT:TOk P T}{φ:Fi}{st:St}{w:World}{t kt:TypeId}{a:AV}{u:Value}{id clock:Nat}{es:List (AV × AV × Nat)}(hr:Rel φ st w)(ha:VR φ a u)(hd:mapD T t=some kt)(h:esOf st a=some (id,es,clock)) :
  ∃ φ' w' v,(Instr.range t u).run P w=.ok v w'∧VR φ' (.ptr st.n 0) v∧Rel φ' (st.push (.iter id clock [] clock)) w'∧Ext φ φ'∧Fr φ st w φ' (st.push (.iter id clock [] clock)) w':=by
 obtain⟨e,hu⟩:=Pq hT hd
 obtain⟨rfl,hid,ho,ces,hb,hsz,hes⟩:=Ia hr ha h
 have hrun:=run_range_map (P:=P) w t kt e (φ.f id).b ces clock hu hb
 have hp:=hr.push (.mapIter (some (φ.f id).b) clock #[] clock) (.iter id clock [] clock) ⟨w.heap.size,0,0⟩ rfl (by
  refine⟨?_,by rw[Fi.Ai],by rw[Fi.Js];exact Nat.lt_succ_of_lt hid⟩
  rw[Fi.Ai,(φ.Aw _).f id hid]
  exact Bi w _) (fun _ h=>by cases h)
 refine⟨_,_,_,hrun,?_,hp.1,φ.Aw _,hp.2⟩
 have hv:=VR.ptr (φ:=φ.push ⟨w.heap.size,0,0⟩) φ.n 0 (by rw[Fi.Js];omega)
 rw[Fi.Ai] at hv
 rw[←hr.n]
 exact hv
theorem aB {φ:Fi}{es:List (AV × AV × Nat)}{ces:Array MapEntry}{seen:List Nat}(hsz:ces.size=es.length)(hes:∀ (i:Nat)(x:AV × AV × Nat),es[i]?=some x→∃ e,ces[i]?=some e∧VR φ x.1 e.key∧VR φ x.2.1 e.val∧e.born=x.2.2){e:MapEntry}(he:e∈ces.toList) :
  ∃ x∈es,VR φ x.1 e.key∧VR φ x.2.1 e.val∧e.born=x.2.2:=by
 obtain⟨i,hi,he2⟩:=List.getElem_of_mem he
 have hil:i<es.length:=by rw[←hsz];simpa using hi
 obtain⟨e',h1,h2,h3,h4⟩:=hes i es[i] (List.getElem?_eq_getElem hil)
 have:e'=e:=by
  rw[←Array.getElem?_toList,List.getElem?_eq_getElem hi,he2] at h1
  exact(Option.some.inj h1).symm
 subst this
 exact⟨es[i],List.getElem_mem hil,h2,h3,h4⟩
theorem Vx {φ:Fi}{es:List (AV × AV × Nat)}{ces:Array MapEntry}(hes:∀ (i:Nat)(x:AV × AV × Nat),es[i]?=some x→∃ e,ces[i]?=some e∧VR φ x.1 e.key∧VR φ x.2.1 e.val∧e.born=x.2.2){x:AV × AV × Nat}(hx:x∈es) :
  ∃ e∈ces.toList,VR φ x.1 e.key∧VR φ x.2.1 e.val∧e.born=x.2.2:=by
 obtain⟨i,hi,rfl⟩:=List.getElem_of_mem hx
 obtain⟨e,h1,h2⟩:=hes i _ (List.getElem?_eq_getElem hi)
 rw[←Array.getElem?_toList] at h1
 exact⟨e,List.mem_of_getElem? h1,h2⟩
theorem Za {φ:Fi}{st:St}{w:World}(hr:Rel φ st w){id:Nat}{o o':AObj}(ho:st.h.get id=some o)(hown:o.own=true)(hfam:o.fam=none)(hfam':o'.fam=none)(co:Obj)(w0:World)(hw0:w0=w∨w0=w.drew)(hobj:∀ w':World,w'.heap[(φ.f id).b]?=some co→Cx φ w' id o') :
  Rel φ ⟨st.h.set id o',st.n⟩ { w0 with heap:=w0.heap.setIfInBounds (φ.f id).b co}∧Fr φ st w φ ⟨st.h.set id o',st.n⟩ { w0 with heap:=w0.heap.setIfInBounds (φ.f id).b co}:=by
 have hb:=hr.blk id o ho
 have hh:w0.heap=w.heap:=by rcases hw0 with rfl|rfl<;>rfl
 have h1:w0.os=w.os∧w0.tape=w.tape∧w0.output=w.output:=by rcases hw0 with rfl|rfl<;>exact⟨rfl,rfl,rfl⟩
 refine hr.Sq ho hown hfam hfam' h1.1 h1.2.1 h1.2.2 (by simp[hh]) (fun k hk=>?_) (hobj _ ?_)
 ·simp only [hh];rw[Array.getElem?_setIfInBounds_ne (Ne.symm hk)]
 ·simp only [hh];simp[hb]
theorem Si {φ:Fi}{st:St}{w:World}{ty:TypeId}{a:AV}{u:Value}{rid mid since last id clock:Nat}{seen:List Nat}{es:List (AV × AV × Nat)}(hr:Rel φ st w)(ha:VR φ a u)(h:itOf st a=some (rid,mid,since,seen,last))(he:esOf st (.mp mid)=some (id,es,clock))
  (hc:(es.all (fun x=>Nat.blt x.2.2 since)&&Nat.ble since last)=true) :
  ((es.filter fun x=>!(seen.contains x.2.2))=[]∧(Instr.next u false ty).run P w=.ok (.tuple #[.bool false]) w) ∨
  ∃ x∈(es.filter fun x=>!(seen.contains x.2.2)),∃ w' v,(Instr.next u false ty).run P w=.ok v w'∧VR φ (.tup [.lit (.bool true),x.1,x.2.1]) v ∧
   Rel φ ⟨st.h.set rid (.iter mid since (seen++[x.2.2]) clock),st.n⟩ w'∧Fr φ st w φ ⟨st.h.set rid (.iter mid since (seen++[x.2.2]) clock),st.n⟩ w':=by
 obtain⟨rfl,ho,hit,h0,hmid⟩:=Pu hr ha h
 obtain⟨hu,hid,hom,ces,hb,hsz,hes⟩:=Ia hr (VR.mp mid hmid) he
 have hbb:(φ.f id).b=(φ.f mid).b:=by simp only [Value.map.injEq,Option.some.injEq] at hu;exact hu.symm
 rw[hbb] at hb
 simp only [Bool.and_eq_true] at hc
 have hold:∀ x∈ces.toList,x.born<since:=fun e hem=>by
  obtain⟨x,hx,_,_,h4⟩:=aB (seen:=[]) hsz hes hem
  rw[h4]
  exact Nat.le_of_ble_eq_true (List.all_eq_true.1 hc.1 x hx)
 rcases run_next_at (P:=P) w ty (φ.f rid).b (φ.f mid).b since last seen.toArray ces clock hit hb hold (Nat.le_of_ble_eq_true hc.2) with ⟨h1,h2⟩|⟨e,hel,w1,hw1,hrun⟩
 ·left
  refine⟨?_,h2⟩
  rw[List.filter_eq_nil_iff]
  intro x hx hns
  obtain⟨e,hem,_,_,h4⟩:=Vx hes hx
  have h5:leftOf ces seen.toArray=#[]:=Array.eq_empty_of_size_eq_zero h1
  unfold leftOf at h5
  rw[Array.filter_eq_empty_iff] at h5
  have:=h5 e (Array.mem_toList_iff.1 hem)
  rw[h4] at this
  simp at this hns
  exact hns this
 ·right
  unfold leftOf at hel
  have hel2:e∈ces.toList∧seen.contains e.born=false:=by simpa using hel
  obtain⟨x,hx,h2,h3,h4⟩:=aB (seen:=[]) hsz hes hel2.1
  refine⟨x,List.mem_filter.2 ⟨hx,by rw[←h4];show(!seen.contains e.born)=true;rw[hel2.2];rfl⟩,_,_,hrun,?_,?_⟩
  ·exact .tup (us:=[.bool true,e.key,e.val]) (.cons (.lit _) (.cons h2 (.cons h3 .nil)))
  ·have:=Za (o':=.iter mid since (seen++[x.2.2]) clock) hr ho rfl rfl rfl (.mapIter (some (φ.f mid).b) since (seen.toArray.push e.born) clock) w1 hw1 (fun w' hw'=>⟨by rw[hw',h4];simp,h0,hmid⟩)
   exact this
theorem Qa {φ:Fi}{st:St}{w:World}{a:AV}{u:Value}{rid mid since last id clock s:Nat}{seen:List Nat}{es:List (AV × AV × Nat)}{x:AV × AV × Nat}(hr:Rel φ st w)(ha:VR φ a u)(h:itOf st a=some (rid,mid,since,seen,last))(he:esOf st (.mp mid)=some (id,es,clock))
  (hs:seen.getLast?=some s)(hc:(Nat.beq clock last&&Ej es)=true)(hf:es.filter (fun x=>Nat.beq x.2.2 s)=[x]) :
  ∃ v,(Instr.entry u).run P w=.ok v w∧VR φ (.tup [x.1,x.2.1]) v:=by
 obtain⟨rfl,ho,hit,h0,hmid⟩:=Pu hr ha h
 obtain⟨hu,hid,hom,ces,hb,hsz,hes⟩:=Ia hr (VR.mp mid hmid) he
 have hbb:(φ.f id).b=(φ.f mid).b:=by simp only [Value.map.injEq,Option.some.injEq] at hu;exact hu.symm
 rw[hbb] at hb
 simp only [Bool.and_eq_true,Ej,decide_eq_true_eq] at hc
 have hcl:=Nat.eq_of_beq_eq_true hc.1
 have hxm:x∈es.filter (fun x=>Nat.beq x.2.2 s):=by rw[hf];simp
 rw[List.mem_filter] at hxm
 have hxs:=Nat.eq_of_beq_eq_true hxm.2
 obtain⟨e,hem,h2,h3,h4⟩:=Vx hes hxm.1
 have hborns:ces.toList.map (·.born)=es.map fun x=>x.2.2:=by
  apply List.ext_getElem
  ·simp[hsz]
  ·intro i h1 h2
   simp only [List.length_map] at h1 h2
   obtain⟨e,k1,_,_,k4⟩:=hes i es[i] (List.getElem?_eq_getElem h2)
   rw[List.getElem_map,List.getElem_map,←k4]
   rw[←Array.getElem?_toList,List.getElem?_eq_getElem h1] at k1
   rw[Option.some.inj k1]
 have hseen:seen.toArray=seen.dropLast.toArray.push e.born:=by
  obtain⟨ys,hys⟩:=List.getLast?_eq_some_iff.1 hs
  rw[h4,hxs]
  subst hys
  simp
 have hrun:=run_entry_at (P:=P) w (φ.f rid).b (φ.f mid).b since seen.dropLast.toArray ces clock e (by rw[←hseen,hcl];exact hit) hb hem (by rw[hborns];exact hc.2)
 exact⟨_,hrun,.tup (us:=[e.key,e.val]) (.cons h2 (.cons h3 .nil))⟩
def rngAt (ops:Array Oper)(i:Nat)(f:Fm):Option (TypeId × AV):=match ops[i]? with
 | none=>none
 | some o=>match wantA ops f.ts o with
  | some true=>match o.op with
   | .range t x=>some (t,Operand.av f.ts x)
   | _=>none
  | _=>none
theorem Ac.range (hT:TOk P T){rd:Option Nat}{ops:Array Oper}{L:Fm→St→Prop}{f:Fm}{st:St}{i:Nat}{l:List Nat}{t kt:TypeId}{a:AV}{id clock:Nat}{es:List (AV × AV × Nat)}
  (hx:rngAt ops i f=some (t,a))(hd:mapD T t=some kt)(he:esOf st a=some (id,es,clock))(h:Ac P rd ops l L (putAt ops i f (.ptr st.n 0)) (st.push (.iter id clock [] clock))):Ac P rd ops (i::l) L f st:=by
 unfold rngAt at hx
 split at hx
 ·cases hx
 ·rename_i o ho
  split at hx
  ·rename_i hw
   split at hx
   ·rename_i t' x hop
    simp only [Option.some.injEq,Prod.mk.injEq] at hx
    obtain⟨rfl,e2⟩:=hx
    have hput:∀ v,putAt ops i f v=f.put o.dst v:=fun v=>by simp[putAt,ho]
    rw[hput] at h
    refine Ac.value ho hw (fun c hc=>by rw[hop] at hc;cases hc) (fun φ w a h2 h3=>?_) h
    have a1:=Bm h3.ts x
    rw[e2] at a1
    obtain⟨φ',w',v,k1,k2,k3,k4,k5⟩:=Tk (hT:=hT) h2 a1 hd he
    exact⟨φ',w',v,.inl (by simp[execOp,hop,k1,Result.andThen]),k2,k3,k4,k5⟩
   ·cases hx
  ·cases hx
end
end Go.Fz
namespace Go.Fz
open Go.Proofs
set_option maxRecDepth 100000
section
variable {α:Type}{next:α→(Nat→Int)→α}{N:Nat}{lo hi:Nat→Int}
theorem Wi {I:α→Prop}{F:Int→α→α}(h:∀ v a,I a→I (F v a))(l:Int){a:α}(ha:I a):∀ c,I (Lu F l c a)
 | 0=>ha
 | c+1=>h _ _ (Wi h l ha c)
theorem Wj {I:α→Prop}(h:∀ a f,I a→I (next a f)):∀ (j i:Nat)(f:Nat→Int){a:α},I a→I (Hg next N lo hi j i f a)
 | 0,_,f,a,ha=>h a _ ha
 | j+1,i,_,_,ha=>Wi (fun _ _ hb=>Wj h j (i+1) _ hb) _ ha _
theorem bC {S:α→Prop}{F:Int→α→α}{G:Int→Prop}(h:∀ v a,S (F v a)↔S a∨G v)(l:Int)(a:α):∀ c,S (Lu F l c a)↔S a∨∃ v,l≤v∧v<l+(c:Nat)∧G v
 | 0=>⟨.inl,fun h=>h.elim id fun⟨v,h1,h2,_⟩=>by omega⟩
 | c+1=>by
  show S (F _ _)↔_
  rw[h,bC h l a c]
  constructor
  ·rintro((h1|⟨v,h1,h2,h3⟩)|h1)
   ·exact .inl h1
   ·exact .inr ⟨v,h1,by omega,h3⟩
   ·exact .inr ⟨l+c,by omega,by omega,h1⟩
  ·rintro(h1|⟨v,h1,h2,h3⟩)
   ·exact .inl (.inl h1)
   ·by_cases e:v=l+c
    ·exact .inr (e▸h3)
    ·exact .inl (.inr ⟨v,h1,by omega,h3⟩)
theorem bD {S:α→Prop}{g:(Nat→Int)→Prop}(h:∀ a f,S (next a f)↔S a∨g f):∀ (j i:Nat)(f:Nat→Int)(a:α),i+j=N →
  (S (Hg next N lo hi j i f a)↔S a∨∃ t,(∀ m,m<i→t m=f m)∧(∀ m,i≤m→m<N→lo m≤t m∧t m≤hi m)∧g (Eh N t))
 | 0,i,f,a,e=>by
  show S (next a (Eh N f))↔_
  rw[h]
  constructor
  ·rintro(h1|h1)
   ·exact .inl h1
   ·exact .inr ⟨f,fun _ _=>rfl,fun m h2 h3=>by omega,h1⟩
  ·rintro(h1|⟨t,h1,_,h2⟩)
   ·exact .inl h1
   ·rw[Uo (fun m hm=>h1 m (by omega))] at h2
    exact .inr h2
 | j+1,i,f,a,e=>by
  have ih:=fun v (b:α)=>bD h j (i+1) (Ek f i v) b (by omega)
  have h2:=bC (S:=S) (F:=fun v b=>Hg next N lo hi j (i+1) (Ek f i v) b) (G:=fun v=>∃ t,(∀ m,m<i+1→t m=Ek f i v m)∧(∀ m,i+1≤m→m<N→lo m≤t m∧t m≤hi m)∧g (Eh N t)) (fun v b=>ih v b) (lo i) a (hi i-lo i+1).toNat
  show S (Lu _ _ _ a)↔_
  rw[h2]
  constructor
  ·rintro(h1|⟨v,k1,k2,t,k3,k4,k5⟩)
   ·exact .inl h1
   ·refine .inr ⟨t,fun m hm=>?_,fun m h3 h4=>?_,k5⟩
    ·rw[k3 m (by omega),Cv (by omega)]
    ·by_cases em:m=i
     ·subst em
      rw[k3 m (by omega),Cd];omega
     ·exact k4 m (by omega) h4
  ·rintro(h1|⟨t,k3,k4,k5⟩)
   ·exact .inl h1
   ·have hti:=k4 i (Nat.le_refl _) (by omega)
    refine .inr ⟨t i,hti.1,by omega,t,fun m hm=>?_,fun m h3 h4=>k4 m (by omega) h4,k5⟩
    by_cases em:m=i
    ·subst em;rw[Cd]
    ·rw[Cv em];exact k3 m (by omega)
end
def Ah.inR (d:Ah)(f:Nat→Int):Prop:=∀ m,m<d.nw+d.nl→d.ulo m≤f m∧f m≤d.uhi m
theorem eT {d:Ah}{S:Pr→Prop}{g:(Nat→Int)→Prop}(h:∀ a f,S (cP d a f)↔S a∨g f):S d.seen↔S pr0∨∃ t,d.inR t∧g (Eh (d.nw+d.nl) t):=by
 unfold Ah.seen
 rw[bD h _ _ _ _ (by omega)]
 constructor
 ·rintro(h1|⟨t,_,h2,h3⟩)
  ·exact .inl h1
  ·exact .inr ⟨t,fun m hm=>h2 m (Nat.zero_le _) hm,h3⟩
 ·rintro(h1|⟨t,h2,h3⟩)
  ·exact .inl h1
  ·exact .inr ⟨t,fun m hm=>absurd hm (Nat.not_lt_zero m),fun m _ hm=>h2 m hm,h3⟩
theorem Zb (d:Ah)(b:Mk):b∈d.seen.E.map (·.1)↔∃ t,d.inR t∧Dc d (Eh (d.nw+d.nl) t)=b:=by
 rw[eT (S:=fun a=>b∈a.E.map (·.1)) (g:=fun f=>Dc d f=b) fun a f=>by
  show b∈(Gv _ _ _).map (·.1)↔_
  rw[Yq]
  exact⟨fun h=>h.imp id Eq.symm,fun h=>h.imp id Eq.symm⟩]
 exact⟨fun h=>h.elim (fun h=>by cases h) id,.inr⟩
theorem Tb (d:Ah)(f:Nat→Int):f∈d.seen.outs↔∃ t,d.inR t∧Eh (d.nw+d.nl) t=f∧Dc d f=Li:=by
 rw[eT (S:=fun a=>f∈a.outs) (g:=fun t=>t=f∧Dc d f=Li) fun a t=>by
  show f∈(if Dc d t=Li then a.outs++[t] else a.outs)↔_
  by_cases h:Dc d t=Li
  ·rw[if_pos h,List.mem_append,List.mem_singleton]
   exact⟨fun k=>k.imp id fun e=>⟨e.symm,by rw[e];exact h⟩,fun k=>k.imp id fun e=>e.1.symm⟩
  ·rw[if_neg h]
   exact⟨.inl,fun k=>k.elim id fun e=>absurd (by rw[e.1];exact e.2) h⟩]
 constructor
 ·rintro(h|⟨t,h1,h2,h3⟩)
  ·cases h
  ·exact⟨t,h1,h2,h3⟩
 ·rintro⟨t,h1,h2,h3⟩
  exact .inr ⟨t,h1,h2,h3⟩
def Yk (E:List (Mk × Nat))(c:Nat):Prop:=(∀ p∈E,p.2<c)∧(E.map (·.2)).Nodup
theorem Yk.upd {E:List (Mk × Nat)}{c:Nat}(h:Yk E c)(b:Mk):Yk (Gv E b c) (Nz E b c):=by
 unfold Gv Nz
 split
 ·exact h
 ·refine⟨fun p hp=>?_,?_⟩
  ·rcases List.mem_append.1 hp with hp|hp
   ·have:=h.1 p hp;omega
   ·obtain rfl:=List.mem_singleton.1 hp
    show c<c+1;omega
  ·rw[List.map_append,List.nodup_append]
   refine⟨h.2,by simp,fun x hx y hy=>?_⟩
   obtain⟨p,hp,rfl⟩:=List.mem_map.1 hx
   have:=h.1 p hp
   simp at hy
   omega
theorem gY (d:Ah):Yk d.seen.E d.seen.cl:=Wj (I:=fun a:Pr=>Yk a.E a.cl) (fun a f h=>h.upd _) _ _ _ ⟨(fun p hp=>by cases hp),List.nodup_nil⟩
end Go.Fz
namespace Go.Fz
open Go.Proofs
set_option maxRecDepth 100000
section
variable {P:Program}{T:Ti}
theorem Ac.rW {rd:Option Nat}{ops:Array Oper}{i:Nat}{l:List Nat}{K:Fm→St→Prop}{f:Fm}{st:St}{o:Oper}(ho:ops[i]?=some o)(hw:wantA ops f.ts o=some true)(hd:∀ c,o.op≠.defer c)
  (hrun:∀ (φ:Fi)(w:World)(a:Act),Rel φ st w→Cz φ f a→∃ r st' φ' w' u,Ac P rd ops l K (f.put o.dst r) st'∧(execOp a.eval o).run P w=.ok (.value u) w'∧VR φ' r u∧Rel φ' st' w'∧Ext φ φ'∧Fr φ st w φ' st' w'):Ac P rd ops (i::l) K f st:=by
 intro φ w a n Q h1 h2 h3 hQ
 simp only [wpOpsIn,ho]
 rw[Ic h3 ops hw]
 simp only [if_true]
 refine⟨fun _ _=>trivial,?_⟩
 rw[semAt_eq hd]
 obtain⟨r,st',φ',w',u,h,hr,hv,hrel,he,hf⟩:=hrun φ w a h2 h3
 have h4:=h φ' w' (a.put o.dst u) n Q (fun id hi=>Nat.lt_of_lt_of_le (h1 id hi) he.n) hrel ((h3.mono he).put o.dst hv) (fun a' w'' hl=>hQ a' w'' (hl.trans he hf))
 rw[Dd he h1] at h4
 rw[hr];exact h4
def nextAt (ops:Array Oper)(i:Nat)(f:Fm):Option AV:=match ops[i]? with
 | none=>none
 | some o=>match wantA ops f.ts o with
  | some true=>match o.op with
   | .next it false=>some (Operand.av f.ts it)
   | _=>none
  | _=>none
theorem Ac.lE {rd:Option Nat}{ops:Array Oper}{i:Nat}{l:List Nat}{f:Fm}{st:St}{K:Fm→St→Prop}{a:AV}
  {rid mid since last id clock:Nat}{seen:List Nat}{es:List (AV × AV × Nat)}(hx:nextAt ops i f=some a)(hit:itOf st a=some (rid,mid,since,seen,last))(hes:esOf st (.mp mid)=some (id,es,clock))
  (hc:(es.all (fun x=>Nat.blt x.2.2 since)&&Nat.ble since last)=true)
  (hend:(es.filter fun x=>!(seen.contains x.2.2))=[]→Ac P rd ops l K (putAt ops i f (.tup [.lit (.bool false)])) st)
  (hgo:∀ x∈es,seen.contains x.2.2=false→Ac P rd ops l K (putAt ops i f (.tup [.lit (.bool true),x.1,x.2.1])) ⟨st.h.set rid (.iter mid since (seen++[x.2.2]) clock),st.n⟩):Ac P rd ops (i::l) K f st:=by
 unfold nextAt at hx
 split at hx
 ·cases hx
 ·rename_i o ho
  split at hx
  ·rename_i hw
   split at hx
   ·rename_i it hop
    simp only [Option.some.injEq] at hx
    have hput:∀ v,putAt ops i f v=f.put o.dst v:=fun v=>by simp[putAt,ho]
    simp only [hput] at hend hgo
    refine Ac.rW ho hw (fun c hc=>by rw[hop] at hc;cases hc) fun φ w a h2 h3=>?_
    have a1:=Bm h3.ts it
    rw[hx] at a1
    rcases Si (P:=P) (ty:=o.type) h2 a1 hit hes hc with ⟨k1,k2⟩|⟨x,hxm,w',v,k2,k3,k4,k5⟩
    ·exact⟨_,st,φ,w,_,hend k1,by simp[execOp,hop,k2,Result.andThen],.tup (us:=[.bool false]) (.cons (.lit _) .nil),h2,Ext.refl _,Fr.refl _ _ _⟩
    ·obtain⟨h5,h6⟩:=List.mem_filter.1 hxm
     exact⟨_,_,φ,w',v,hgo x h5 (by simpa using h6),by simp[execOp,hop,k2,Result.andThen],k3,k4,Ext.refl _,k5⟩
   ·cases hx
  ·cases hx
def entAt (ops:Array Oper)(i:Nat)(f:Fm):Option AV:=match ops[i]? with
 | none=>none
 | some o=>match wantA ops f.ts o with
  | some true=>match o.op with
   | .entry it=>some (Operand.av f.ts it)
   | _=>none
  | _=>none
theorem Ac.dS {rd:Option Nat}{ops:Array Oper}{i:Nat}{l:List Nat}{f:Fm}{st:St}{K:Fm→St→Prop}{a:AV}
  {rid mid since last id clock s:Nat}{seen:List Nat}{es:List (AV × AV × Nat)}{x:AV × AV × Nat}(hx:entAt ops i f=some a)(hit:itOf st a=some (rid,mid,since,seen,last))(hes:esOf st (.mp mid)=some (id,es,clock))
  (hs:seen.getLast?=some s)(hc:(Nat.beq clock last&&Ej es)=true)(hf:es.filter (fun x=>Nat.beq x.2.2 s)=[x])(h:Ac P rd ops l K (putAt ops i f (.tup [x.1,x.2.1])) st):Ac P rd ops (i::l) K f st:=by
 unfold entAt at hx
 split at hx
 ·cases hx
 ·rename_i o ho
  split at hx
  ·rename_i hw
   split at hx
   ·rename_i it hop
    simp only [Option.some.injEq] at hx
    have hput:∀ v,putAt ops i f v=f.put o.dst v:=fun v=>by simp[putAt,ho]
    rw[hput] at h
    refine Ac.value ho hw (fun c hc=>by rw[hop] at hc;cases hc) (fun φ w a h2 h3=>?_) h
    have a1:=Bm h3.ts it
    rw[hx] at a1
    obtain⟨v,k1,k2⟩:=Qa (P:=P) h2 a1 hit hes hs hc hf
    exact⟨φ,w,v,.inl (by simp[execOp,hop,k1,Result.andThen]),k2,h2,Ext.refl _,Fr.refl _ _ _⟩
   ·cases hx
  ·cases hx
end
theorem iN (b:Mk):Below 0 (mkV b):=Below.agg (Br.ok ⟨Below.sb,Below.sb,Below.sb,Below.sb,Below.sb,trivial⟩)
end Go.Fz
namespace Go.Fz
open Go.Proofs
set_option maxRecDepth 100000
theorem filter_lt {γ:Type}{P P':γ→Bool}(h:∀ q,P' q=true→P q=true):∀ {l:List γ}{p:γ},p∈l→P p=true→P' p=false→(l.filter P').length<(l.filter P).length
 | x::l,p,hp,h1,h2=>by
  have hle:∀ l:List γ,(l.filter P').length≤(l.filter P).length:=fun l=>by
   induction l with
   | nil=>simp
   | cons y l ih =>
    simp only [List.filter_cons]
    cases h3:P' y with
    | true=>rw[h y h3];simpa using ih
    | false=>cases P y<;>simp<;>omega
  simp only [List.filter_cons]
  rcases List.mem_cons.1 hp with rfl|hp
  ·rw[h1,h2]
   have:=hle l
   simp;omega
  ·have ih:=filter_lt h hp h1 h2
   cases h3:P' x with
   | true=>rw[h x h3];simpa using ih
   | false=>cases P x<;>simp<;>omega
theorem Gn {γ:Type}{g:γ→Nat}:∀ {l:List γ}{x:γ},(l.map g).Nodup→x∈l→l.filter (fun y=>Nat.beq (g y) (g x))=[x]
 | y::l,x,hn,hx=>by
  rw[List.map_cons,List.nodup_cons] at hn
  rw[List.filter_cons]
  rcases List.mem_cons.1 hx with rfl|hx
  ·rw[if_pos (Nat.beq_refl _)]
   congr 1
   rw[List.filter_eq_nil_iff]
   intro z hz he
   exact hn.1 (List.mem_map.2 ⟨z,hz,Nat.eq_of_beq_eq_true he⟩)
  ·rw[if_neg (fun he=>hn.1 (List.mem_map.2 ⟨x,hx,(Nat.eq_of_beq_eq_true he).symm⟩))]
   exact Gn hn.2 hx
end Go.Fz
namespace Go.Fz
open Go.Proofs
set_option maxRecDepth 100000
def leN (a:Int)(fl:Nat→Int):Nat→Int
 | 0=>a
 | i+1=>if fl i<leN a fl i then fl i else leN a fl i
def grN (a:Int)(fl:Nat→Int):Nat→Int
 | 0=>a
 | i+1=>if fl i>grN a fl i then fl i else grN a fl i
set_option maxHeartbeats 8000000 in
theorem aC (a:Int)(n:Nat)(ex:Bool)(fl:Nat→Int)(hn:n<100000):Pure Try.prog 97 [iV a,Ak n ex fl] (iV (leN a fl n)):=by
 obtain⟨O,hO⟩:∃ O:Ar,O=std:=⟨_,rfl⟩
 have hnat:∀ i:Nat,O.nat (Int.ofNat i)=i:=fun i=>by subst hO;rfl
 refine Ae tok 3 Try.func97 tE rfl ⟨Below.lit,Ap _ _ _,trivial⟩ Below.lit ?_
 refine SW.Ab tok hO (by cbv<;>rfl) (by trivial) ?_
 refine SW.seq ?_
 refine SW.Ab tok hO (by cbv<;>rfl) (by trivial) ?_
 refine(SW.block (SW.Gu (fun i:Nat=>⟨⟨18,getT [(0,iV (leN a fl i)),(7,Ak n ex fl),(8,iV n),(9,iV i)]⟩,[]⟩) (fun _=>⟨[],0⟩) (fun i=>n-i) (fun i=>i≤n) 0
  (fun _=>rfl) (Nat.zero_le _) (Cw.by rfl rfl (by simp) (Nat.le_refl _) (Nat.le_refl _) ⟨⟨rfl,.inl rfl⟩,⟨rfl,.inl rfl⟩,⟨rfl,.inl rfl⟩,⟨rfl,.inl rfl⟩,trivial⟩ trivial) fun i hi=>?_))
 obtain⟨v,hv⟩:∃ v,leN a fl i=v:=⟨_,rfl⟩
 rw[hv]
 refine SW.Ab tok hO (by cbv<;>rfl) (by trivial) ?_
 refine SW.seq (SW.Bd (by cbv<;>rfl) (fun h=>SW.skip ?_) (fun h=>SW.exit ?_))
 ·have hlt:i<n:=by subst hO;simpa[std] using h
  have hi0:(0:Int)≤Int.ofNat i:=Int.natCast_nonneg i
  refine SW.seq (SW.block ?_)
  refine SW.Ab tok hO (by cbv<;>rfl) ?_ ?_
  ·exact⟨hi0,Int.ofNat_lt.2 hlt⟩
  refine SW.run tok hO (by cbv<;>rfl) (by trivial) ?_
  refine SW.run tok hO (by cbv<;>rfl) (by trivial) ?_
  have hm:O.mn v (fl (O.nat (Int.ofNat i)))=leN a fl (i+1):=by
   rw[hnat]
   show _=if fl i<leN a fl i then fl i else leN a fl i
   rw[hv];subst hO;rfl
  exact⟨i+1,by omega,hlt,Cw.by rfl rfl (fun _ h=>nomatch h) (Nat.le_refl _) (Nat.le_refl _) ⟨⟨congrArg (fun z=>AV.lit (.int .i64 z)) hm,.inl rfl⟩,⟨rfl,.inl rfl⟩,⟨rfl,.inl rfl⟩,⟨Dp hO (by omega),.inl rfl⟩,trivial⟩ trivial⟩
 ·have hge:i=n:=by
   have:n≤i:=by subst hO;simpa[std] using h
   omega
  subst hge
  rw[hv]
  refine SW.Ab tok hO (by cbv<;>rfl) (by trivial) ?_
  exact SW.ret ⟨_,_,rfl,rfl,Eqv.of rfl⟩
set_option maxHeartbeats 8000000 in
theorem Rh (n:Nat)(ex:Bool)(fl:Nat→Int)(h0:0<n)(hn:n<100000):Pure Try.prog 98 [Ak n ex fl] (iV (grN (fl 0) (fun i=>fl (i+1)) (n-1))):=by
 obtain⟨O,hO⟩:∃ O:Ar,O=std:=⟨_,rfl⟩
 have hnat:∀ i:Nat,O.nat (Int.ofNat i)=i:=fun i=>by subst hO;rfl
 have h00:(0:Int)<Int.ofNat n:=Int.ofNat_lt.2 h0
 refine Ae tok 3 Try.func98 tD rfl ⟨Ap _ _ _,trivial⟩ Below.lit ?_
 refine SW.Ab tok hO (by cbv<;>rfl) (by trivial) ?_
 refine SW.seq ?_
 refine SW.Ab tok hO (by cbv<;>rfl) (by trivial) ?_
 refine SW.Bd (by cbv<;>rfl) (fun h=>?_) (fun h=>SW.skip ?_)
 ·exfalso
  have:n<1:=by subst hO;simp[std] at h;omega
  omega
 refine SW.Ab tok hO (by cbv<;>rfl) ?_ ?_
 ·exact⟨Int.le_refl _,h00⟩
 refine SW.seq ?_
 refine SW.Ab tok hO (by cbv<;>rfl) (by trivial) ?_
 refine(SW.block (SW.Gu (fun i:Nat=>⟨⟨25,getT [(0,Ak n ex fl),(3,iV (grN (fl 0) (fun i=>fl (i+1)) i)),(4,iV (i+1:Nat))]⟩,[]⟩) (fun _=>⟨[],0⟩) (fun i=>n-i) (fun i=>i+1≤n) 0
  (fun _=>rfl) h0 (Cw.by rfl rfl (by simp) (Nat.le_refl _) (Nat.le_refl _) ⟨⟨rfl,.inl rfl⟩,⟨by show AV.lit (.int .i64 (fl (O.nat 0)))=_;rw[show O.nat 0=0 from hnat 0];rfl,.inl rfl⟩,⟨rfl,.inl rfl⟩,trivial⟩ trivial) fun i hi=>?_))
 obtain⟨v,hv⟩:∃ v,grN (fl 0) (fun i=>fl (i+1)) i=v:=⟨_,rfl⟩
 obtain⟨j,hj⟩:∃ j,i+1=j:=⟨_,rfl⟩
 rw[hv,hj]
 refine SW.seq ?_
 refine SW.Ab tok hO (by cbv<;>rfl) (by trivial) ?_
 refine SW.Bd (by cbv<;>rfl) (fun h=>SW.skip ?_) (fun h=>SW.exit ?_)
 ·have hlt:j<n:=by subst hO;simpa[std] using h
  have hi0:(0:Int)≤Int.ofNat j:=Int.natCast_nonneg j
  refine SW.seq (SW.block ?_)
  refine SW.run tok hO (by cbv<;>rfl) ?_ ?_
  ·exact⟨hi0,Int.ofNat_lt.2 hlt⟩
  refine SW.run tok hO (by cbv<;>rfl) (by trivial) ?_
  have hm:O.mx v (fl (O.nat (Int.ofNat j)))=grN (fl 0) (fun i=>fl (i+1)) (i+1):=by
   rw[hnat]
   show _=if fl (i+1)>grN (fl 0) (fun i=>fl (i+1)) i then fl (i+1) else grN (fl 0) (fun i=>fl (i+1)) i
   rw[hv,hj];subst hO;rfl
  exact⟨i+1,by omega,by omega,Cw.by rfl rfl (fun _ h=>nomatch h) (Nat.le_refl _) (Nat.le_refl _) ⟨⟨rfl,.inl rfl⟩,⟨congrArg (fun z=>AV.lit (.int .i64 z)) hm,.inl rfl⟩,⟨by rw[hj];exact Dp hO (by omega),.inl rfl⟩,trivial⟩ trivial⟩
 ·have hge:j=n:=by
   have:n≤j:=by subst hO;simpa[std] using h
   omega
  have hi1:n-1=i:=by omega
  rw[hi1,hv]
  refine SW.Ab tok hO (by cbv<;>rfl) (by trivial) ?_
  exact SW.ret ⟨_,_,rfl,rfl,Eqv.of rfl⟩
theorem Tz (a:Int)(fl:Nat→Int):∀ n,(leN a fl n≤a∧∀ i,i<n→leN a fl n≤fl i)∧(leN a fl n=a∨∃ i,i<n∧leN a fl n=fl i)
 | 0=>⟨⟨Int.le_refl _,fun i h=>by omega⟩,.inl rfl⟩
 | n+1=>by
  obtain⟨⟨h1,h2⟩,h3⟩:=Tz a fl n
  show(_≤a∧_)∧_
  have e:leN a fl (n+1)=if fl n<leN a fl n then fl n else leN a fl n:=rfl
  rw[e]
  split
  ·refine⟨⟨by omega,fun i hi=>?_⟩,.inr ⟨n,by omega,rfl⟩⟩
   by_cases hin:i=n
   ·subst hin;omega
   ·have:=h2 i (by omega);omega
  ·refine⟨⟨h1,fun i hi=>?_⟩,h3.imp id fun⟨i,h4,h5⟩=>⟨i,by omega,h5⟩⟩
   by_cases hin:i=n
   ·subst hin;omega
   ·exact h2 i (by omega)
theorem Ue (a:Int)(fl:Nat→Int):∀ n,(a≤grN a fl n∧∀ i,i<n→fl i≤grN a fl n)∧(grN a fl n=a∨∃ i,i<n∧grN a fl n=fl i)
 | 0=>⟨⟨Int.le_refl _,fun i h=>by omega⟩,.inl rfl⟩
 | n+1=>by
  obtain⟨⟨h1,h2⟩,h3⟩:=Ue a fl n
  have e:grN a fl (n+1)=if fl n>grN a fl n then fl n else grN a fl n:=rfl
  rw[e]
  split
  ·refine⟨⟨by omega,fun i hi=>?_⟩,.inr ⟨n,by omega,rfl⟩⟩
   by_cases hin:i=n
   ·subst hin;omega
   ·have:=h2 i (by omega);omega
  ·refine⟨⟨h1,fun i hi=>?_⟩,h3.imp id fun⟨i,h4,h5⟩=>⟨i,by omega,h5⟩⟩
   by_cases hin:i=n
   ·subst hin;omega
   ·exact h2 i (by omega)
end Go.Fz
