/- Own work of the verifier of watercress: FzB13, FzB15, FzI0, FzN1, FzN2, FzC0, FzC1, FzC2, FzC2s, FzI1, FzC3. -/
import Derived.Test.YtpefamheopplnaaMb32
import Derived.Test.YtpefamheopplnaaMb31
import Derived.Test.YtpefamheopplnaaMb20
import Derived.Test.YtpefamheopplnaaMb26
import Derived.Test.YtpefamheopplnaaMb29
set_option linter.unusedVariables false
set_option linter.unusedSimpArgs false

namespace Go.Fz
open Go.Proofs
set_option maxRecDepth 100000
variable {P:Program}{T:Ti}
def qd9 (P:Program)(T:Ti)(ops:Array Oper)(M:List Nat)(rd:Option Nat)(K:Fm→St→Prop)(fuel:Nat)(qag:List (Nat × AV))(listed:Array Bool)(f:Fm)(st:St)(j:Nat):Prop :=
  ∃ o pend',ops[j]?=some o∧qbv M j qag=pend'∧qac P rd ops [j] (fun f' st'=>(∃ v,f'=f.put o.dst v)∧qbj T ops pend' f' st'.h∧AnyE P T ops M rd K fuel pend' (listed.setIfInBounds j true) f' st') f st
theorem qd9.eff (hT:TOk P T){O:Ar}(hO:O=std){rd:Option Nat}{ops:Array Oper}{M:List Nat}{K:Fm→St→Prop}{fuel:Nat}{qag pend':List (Nat × AV)}{listed:Array Bool}{f f':Fm}{st st':St}{j:Nat}{cs:List qex}
    (hd:qbv M j qag=pend')(hR:runO O T ops [j] [] f st=.done cs f' st')(hc:qpa cs)(hk:qm5 (fun p=>lightV T ops st'.h f' p.1=some p.2) pend')(h:AnyE P T ops M rd K fuel pend' (listed.setIfInBounds j true) f' st'):qd9 P T ops M rd K fuel qag listed f st j:=by
  obtain⟨o',v,ho',rfl⟩:=ql6 hR
  exact⟨o',pend',ho',hd,qac.run hT hO (R:=.done cs (f.put o'.dst v) st') hR hc ⟨⟨v,rfl⟩,(show qbj T ops pend' (f.put o'.dst v) st'.h from fun p hp=>LV.of (hk.ok p hp)),h⟩⟩
end Go.Fz
namespace Go.Fz
def qhf (f:Nat→Int)(w:Nat)(x:Int)(i:Nat):Int:=if i=w then x else f i
theorem qbh (f:Nat→Int)(w:Nat)(x:Int):qhf f w x w=x:=if_pos rfl
theorem qb4 {f:Nat→Int}{w:Nat}{x:Int}{i:Nat}(h:i≠w):qhf f w x i=f i:=if_neg h
end Go.Fz
namespace Go.Fz
variable {P:Program}{T:Ti}
structure WeakC (n0:Nat)(v1:AV)(st1:St)(v2:AV)(st2:St):Prop where
  val:v2=.any∨(v2=v1∧(st2.n=st1.n∨Below st2.n v1))
  lo:n0≤st2.n
  hi:st2.n≤st1.n
  obj:∀ id o,st2.h.get id=some o→st1.h.get id=some o∧id<st2.n∧(st2.n=st1.n∨qf8 st2.n o)
theorem qbn.weak {φ:Fi}{st:St}{w:World}{k1 k:AV→St→Prop}{e:Ending}{w':World}(hn:φ.n=st.n)(h:qbn φ st w k1 e w')
    (hk:∀ v1 st1,k1 v1 st1→k v1 st1∨∃ v2 st2,WeakC st.n v1 st1 v2 st2∧k v2 st2):qbn φ st w k e w':=by
  obtain⟨v,cv,st',φ',rfl,hkv,hv,he,hr,hf⟩:=h
  rcases hk v st' hkv with h | ⟨v2,st2,hw,h⟩
  · exact⟨v,cv,st',φ',rfl,h,hv,he,hr,hf⟩
  · have hw0:qdt st.n ⟨⟨0,fun _=>.any⟩,[]⟩ st' ⟨⟨0,fun _=>.any⟩,[]⟩ st2:=⟨rfl,rfl,(fun _ h=>nomatch h),fun _=>.inl rfl,hw.lo,hw.hi,hw.obj⟩
    obtain⟨k1,_,k3⟩:=hw0.ok (a:={ tmps:=#[],defers:=[] }) hr ⟨⟨rfl,fun _=>.any _⟩,rfl,fun _ h=>by cases h⟩
    refine⟨v2,cv,st2,qmy φ' st2.n,rfl,h,?_,⟨by rw[hn];exact hw.lo,he.f,he.z⟩,k1,hf.trans k3⟩
    rcases hw.val with h1 | ⟨h1,h2⟩
    · rw[h1];exact .any _
    · rw[h1]
      rcases h2 with h2 | h2
      · have hs:qmy φ' st2.n=φ':=by cases φ';simp only [qmy,h2,←hr.n]
        rw[hs];exact hv
      · exact h2 _ _ hv
theorem qax.weak {g:FuncId}{args:List AV}{st:St}{k1 k:AV→St→Prop}(h:qax P g args st k1)
    (hk:∀ v1 st1,k1 v1 st1→k v1 st1∨∃ v2 st2,WeakC st.n v1 st1 v2 st2∧k v2 st2):qax P g args st k :=
  fun φ w cargs n h1 h2=>(h φ w cargs n h1 h2).mono fun _ _ hc=>hc.weak h1.n hk
theorem Hp.get_app:∀ (R h:Hp)(id:Nat),Hp.get (R++h) id=match R.get id with | some o=>some o | none=>h.get id
  | [],h,id=>rfl
  | (i,x)::r,h,id=>by
    by_cases hi:i=id
    · subst hi;simp[Hp.get]
    · simp[Hp.get,hi,Hp.get_app r h id]
theorem Hp.get_appL {R h:Hp}{id:Nat}{o:AObj}(k:R.get id=some o):Hp.get (R++h) id=some o:=by rw[Hp.get_app,k]
theorem Hp.get_appR {R h:Hp}{id:Nat}(k:R.get id=none):Hp.get (R++h) id=h.get id:=by rw[Hp.get_app,k]
theorem Hp.qbw {R h:Hp}{id:Nat}{o:AObj}(k:Hp.get (R++h) id=some o):R.get id=some o∨(R.get id=none∧h.get id=some o):=by
  rw[Hp.get_app] at k
  split at k
  · rename_i o' ho;cases k;exact .inl ho
  · rename_i ho;exact .inr ⟨ho,k⟩
def qkp (R:Hp)(st:St):St:=⟨R++st.h,st.n⟩
structure qsa (R:Hp)(st:St):Prop where
  own:∀ id o,R.get id=some o→o.own=true
  new:∀ id o,R.get id=some o→st.h.get id=none
  mates:∀ i j oi oj,R.get i=some oi→st.h.get j=some oj→¬ qkm oi oj
theorem qsa.sub {R:Hp}{st:St}(ha:qsa R st){id:Nat}{o:AObj}(h:st.h.get id=some o):(qkp R st).h.get id=some o:=by
  show Hp.get (R++st.h) id=_
  rw[Hp.get_appR,h]
  cases hR:R.get id with
  | none=>rfl
  | some o'=>rw[ha.new id o' hR] at h;cases h
theorem Rel.drop {φ:Fi}{R:Hp}{st:St}{w:World}(ha:qsa R st)(hr:Rel φ (qkp R st) w):Rel φ st w :=
  ⟨hr.n,fun id o h=>hr.lt id o (ha.sub h),fun id o h=>hr.blk id o (ha.sub h),fun id o h=>hr.obj id o (ha.sub h),
   fun i j oi oj hi hj=>hr.sep i j oi oj (ha.sub hi) (ha.sub hj),fun id o f h=>hr.fam id o f (ha.sub h),
   fun b c hb=>let ⟨h1,h2,h3⟩:=hr.qdk b c hb;⟨h1,h2,fun id o h=>h3 id o (ha.sub h)⟩⟩
def Owned (st st':St):Prop:=∀ id o,st'.h.get id=some o→o.own=true∨st.h.get id=some o
theorem qbn.frame {φ:Fi}{R:Hp}{st:St}{w:World}{k:AV→St→Prop}{e:Ending}{w':World}(ha:qsa R st)(hr:Rel φ (qkp R st) w)(h:qbn φ st w k e w')
    (hk:∀ v st',k v st'→Owned st st'):qbn φ (qkp R st) w (fun v s=>∃ st',k v st'∧s=qkp R st') e w':=by
  obtain⟨v,cv,st',φ',rfl,hkv,hv,he,hr',hf⟩:=h
  have hR:∀ {i:Nat}{oi:AObj},R.get i=some oi→(qkp R st).h.get i=some oi:=fun h=>Hp.get_appL h
  have disj:∀ {i:Nat}{oi:AObj},R.get i=some oi→¬ qfv φ st (φ.f i).b:=fun {i oi} hi ⟨j,oj,hj,hjo,hb⟩=>by
    have hij:i≠j:=fun h=>by subst h;rw[ha.new i oi hi] at hj;cases hj
    exact ha.mates i j oi oj hi hj (hr.sep i j oi oj (hR hi) (ha.sub hj) hij (ha.own i oi hi) hb.symm).1
  have lt0:∀ {i:Nat}{oi:AObj},R.get i=some oi→i<φ.n:=fun {i oi} hi=>by rw[hr.n];exact hr.lt i oi (hR hi)
  have fi:∀ {i:Nat}{oi:AObj},R.get i=some oi→φ'.f i=φ.f i:=fun hi=>he.f _ (lt0 hi)
  have blk:∀ {i:Nat}{oi:AObj},R.get i=some oi→(φ.f i).b<w.heap.size:=fun hi=>hr.blk _ _ (hR hi)
  have notown:∀ {i:Nat}{oi:AObj},R.get i=some oi→¬ qfv φ' st' (φ.f i).b:=fun hi ho =>
    (hf.own _ ho).elim (disj hi) fun hl=>by have:=blk hi;omega
  have hmono:∀ {k:Nat},qfv φ st k→qfv φ (qkp R st) k:=fun⟨id,o,h,ho,hb⟩=>⟨id,o,ha.sub h,ho,hb⟩
  have hn:st.n≤st'.n:=by have:=he.n;rw[hr.n,hr'.n] at this;exact this
  refine⟨v,cv,qkp R st',φ',rfl,⟨st',hkv,rfl⟩,hv,he,⟨hr'.n,fun id o h=>?_,fun id o h=>?_,fun id o h=>?_,fun i j oi oj hi hj hij hio hb=>?_,fun id o f h hfm=>?_,fun b c hb=>?_⟩,
    ⟨hf.os,hf.tape,hf.output,hf.size,fun k hk ho=>hf.block k hk fun h=>ho (hmono h),fun k ⟨id,o,h,ho,hb⟩=>?_,fun b c hb=>?_⟩⟩
  · rcases Hp.qbw h with h | ⟨_,h⟩
    · exact Nat.lt_of_lt_of_le (hr.lt id o (hR h)) hn
    · exact hr'.lt id o h
  · rcases Hp.qbw h with h | ⟨_,h⟩
    · rw[fi h];exact Nat.lt_of_lt_of_le (blk h) hf.size
    · exact hr'.blk id o h
  · rcases Hp.qbw h with h | ⟨_,h⟩
    · exact(hr.obj id o (hR h)).same he (lt0 h) (hf.block _ (blk h) (disj h))
    · exact hr'.obj id o h
  · rcases Hp.qbw hi with hi | ⟨_,hi⟩ <;> rcases Hp.qbw hj with hj | ⟨_,hj⟩
    · rw[fi hi,fi hj] at *
      exact hr.sep i j oi oj (hR hi) (hR hj) hij hio hb
    · exfalso
      rw[fi hi] at hb
      rcases hk v st' hkv j oj hj with ho | ho
      · exact notown hi ⟨j,oj,hj,ho,hb.symm⟩
      · have hjn:j<φ.n:=by rw[hr.n];exact hr.lt j oj (ha.sub ho)
        rw[he.f j hjn] at hb
        exact ha.mates i j oi oj hi ho (hr.sep i j oi oj (hR hi) (ha.sub ho) hij hio hb).1
    · exfalso
      rw[fi hj] at hb
      exact notown hj ⟨i,oi,hi,hio,hb⟩
    · exact hr'.sep i j oi oj hi hj hij hio hb
  · rcases Hp.qbw h with h | ⟨_,h⟩
    · exact Nat.lt_of_lt_of_le (hr.fam id o f (hR h) hfm) hn
    · exact hr'.fam id o f h hfm
  · obtain⟨h1,h2,h3⟩:=hr'.qdk b c hb
    refine⟨h1,h2,fun id o h hown=>?_⟩
    rcases Hp.qbw h with h | ⟨_,h⟩
    · rw[fi h]
      rcases hf.zs b c hb with hz | hz | hz
      · exact(hr.qdk b c hz).2.2 id o (hR h) hown
      · exact fun hbb=>disj h (by rw[hbb];exact hz)
      · have:=blk h;omega
    · exact h3 id o h hown
  · rcases Hp.qbw h with h | ⟨_,h⟩
    · rw[fi h] at hb
      exact .inl ⟨id,o,hR h,ho,hb⟩
    · exact(hf.own k ⟨id,o,h,ho,hb⟩).imp hmono fun h=>h
  · exact(hf.zs b c hb).imp (fun h=>h) fun h=>h.imp hmono fun h=>h
theorem qbb.frame {id:Nat}{args:List AV}{R:Hp}{st:St}{k:AV→St→Prop}(ha:qsa R st)(h:qbb P id args st k)(hk:∀ v st',k v st'→Owned st st') :
    qbb P id args (qkp R st) (fun v s=>∃ st',k v st'∧s=qkp R st') :=
  fun φ w cargs n h1 h2 h3=>by
    obtain⟨fn,tmps,assign,body,h4,h5⟩:=h φ w cargs n (h1.drop ha) h2 h3
    exact⟨fn,tmps,assign,body,h4,h5.mono fun _ _ hc=>hc.frame ha h1 hk⟩
def applyAt (ops:Array Oper)(i:Nat)(f:Fm):Option (AV × List AV):=match ops[i]? with
  | none=>none
  | some o=>match wantA ops f.ts o with
    | some true=>callO (Operand.av f.ts) o
    | _=>none
theorem qlo {ops:Array Oper}{i:Nat}{f:Fm}{c:AV}{args:List AV}(h:applyAt ops i f=some (c,args)) :
    ∃ o,ops[i]?=some o∧wantA ops f.ts o=some true∧callO (Operand.av f.ts) o=some (c,args)∧∀ v,putAt ops i f v=f.put o.dst v:=by
  unfold applyAt at h
  split at h
  · cases h
  · rename_i o ho
    split at h
    · rename_i hw
      exact⟨o,ho,hw,h,fun v=>by simp[putAt,ho]⟩
    · cases h
theorem qac.apply {rd:Option Nat}{ops:Array Oper}{i:Nat}{l:List Nat}{K:Fm→St→Prop}{f:Fm}{st:St}{c:AV}{args:List AV}(hc:applyAt ops i f=some (c,args))
    {k:AV→St→Prop}(ha:ApplyW P c args st k)(h:∀ v st',k v st'→qac P rd ops l K (putAt ops i f v) st'):qac P rd ops (i::l) K f st:=by
  obtain⟨o,ho,hw,hcc,hput⟩:=qlo hc
  exact qac.call ho hw hcc (ha.mono fun v st' hk=>by have:=h v st' hk;rw[hput] at this;exact this)
theorem AnyE.apply {rd:Option Nat}{ops:Array Oper}{M:List Nat}{K:Fm→St→Prop}{fuel:Nat}{qag:List (Nat × AV)}{listed:Array Bool}{f:Fm}{st:St}{j:Nat}{c:AV}{args:List AV}
    (hj:onlyD ops M qag listed=some (j,[]))(hc:applyAt ops j f=some (c,args)){k:AV→St→Prop}(ha:ApplyW P c args st k)
    (h:∀ v st',k v st'→AnyE P T ops M rd K fuel [] (listed.setIfInBounds j true) (putAt ops j f v) st'):AnyE P T ops M rd K (fuel+1) qag listed f st:=fun k1 k2 k3=>by
  unfold onlyD at hj
  split at hj
  · rename_i j' hr
    split at hj
    · rename_i o ho
      split at hj
      · simp only [Option.some.injEq,Prod.mk.injEq] at hj
        obtain⟨rfl,hd⟩:=hj
        obtain⟨o',ho',hw,hcc,hput⟩:=qlo hc
        rw[ho] at ho';cases ho'
        refine AnyE.one j' ho (by rw[hr];exact Nat.beq_refl j') [] hd (qac.call ho hw hcc (ha.mono fun v st' hk=>.nil ⟨⟨v,rfl⟩,(fun p hp=>absurd hp List.not_mem_nil),?_⟩)) k1 k2 k3
        have:=h v st' hk
        rw[hput] at this
        exact this
      · cases hj
    · cases hj
  · cases hj
end Go.Fz
namespace Go.Fz
variable {P:Program}{T:Ti}
def qt1 (j:Nat):Bool:=!(Nat.beq j 0)
def roS (cs:List AV):St:=⟨[(0,.cells none true cs)],1⟩
theorem qfj {cs:List AV}{id:Nat}{o:AObj}(h:(roS cs).h.get id=some o):id=0∧o=.cells none true cs:=by
  simp only [roS,Hp.get] at h
  split at h
  · rename_i hi;cases h;exact⟨hi.symm,rfl⟩
  · cases h
theorem qvk {g:FuncId}{args args2:List AV}{r:AV}{m id:Nat}{fm:Option Nat}{ro:Bool}{cs:List AV}{st:St}(hg:st.h.get id=some (.cells fm ro cs))(hcs:∀ a∈cs,Below 0 a)(hr:Below 0 r)
    (ha:∀ (φ:Fi)(us:List Value),VRL φ args us→VRL ⟨fun _=>φ.f id,1,φ.z⟩ args2 us)
    (h:qax P g args2 (roS cs) (fun v st'=>freeB st'.h qt1=true∧Eqv (frz st'.h qt1 m v) r)):qax P g args st (fun v st'=>v=r∧st'=st):=by
  intro φ w cargs n hrel hargs
  have hrel0:Rel ⟨fun _=>φ.f id,1,φ.z⟩ (roS cs) w:=by
    refine⟨rfl,fun j o h=>?_,fun j o h=>?_,fun j o h=>?_,fun i j oi oj hi hj hij _ _=>?_,fun j o f h hf=>?_,fun b c hb=>⟨(hrel.qdk b c hb).1,(hrel.qdk b c hb).2.1,fun j o h ho=>?_⟩⟩
    · obtain⟨rfl,rfl⟩:=qfj h;exact Nat.zero_lt_one
    · obtain⟨rfl,rfl⟩:=qfj h;exact hrel.blk id _ hg
    · obtain⟨rfl,rfl⟩:=qfj h
      refine⟨fun i a hi=>?_,fun h=>by cases h⟩
      obtain⟨v,h1,h2⟩:=(hrel.obj id _ hg).1 i a hi
      refine⟨v,h1,?_⟩
      have h3:=hcs a (List.mem_of_getElem? hi) _ _ h2
      exact VR.mono (φ:=⟨φ.f,0,φ.z⟩) (φ':=⟨fun _=>φ.f id,1,φ.z⟩) ⟨Nat.zero_le _,fun id hid=>absurd hid (Nat.not_lt_zero id),fun b c hb=>hb⟩ h3
    · exact absurd ((qfj hi).1.trans (qfj hj).1.symm) hij
    · obtain⟨rfl,rfl⟩:=qfj h;cases hf
    · obtain⟨rfl,rfl⟩:=qfj h;cases ho
  refine(h ⟨fun _=>φ.f id,1,φ.z⟩ w cargs n hrel0 (ha φ _ hargs)).mono fun e w1 hp=>?_
  obtain⟨v,cv,st1,φ1,rfl,⟨hfree,hv⟩,hvr,hext,hrel1,hfr⟩:=hp
  obtain⟨hrel2,hfr2⟩:=hrel1.freeze hfree
  have hvr2:=qgg (D:=qt1) hrel1 m hvr
  replace hvr2:=hv _ _ hvr2
  have hfr3:=hfr.trans hfr2
  have hnone:∀ b,¬ qfv ⟨fun _=>φ.f id,1,φ.z⟩ (roS cs) b:=fun b ⟨j,o,h,ho,_⟩=>by obtain⟨rfl,rfl⟩:=qfj h;cases ho
  have hzs:∀ b c,zOf φ1 st1.h qt1 w1 b=some c→φ.z b=some c∨w.heap.size≤b:=fun b c hb=>(hfr3.zs b c hb).elim .inl fun h=>h.elim (fun ho=>absurd ho (hnone b)) .inr
  have hext3:Ext φ ⟨φ.f,φ.n,zOf φ1 st1.h qt1 w1⟩:=⟨Nat.le_refl _,fun _ _=>rfl,fun b c hb=>qgi (hext.z b c hb)⟩
  have hsame:∀ k,k<w.heap.size→w1.heap[k]?=w.heap[k]?:=fun k hk=>hfr3.block k hk (hnone k)
  refine⟨r,cv,st,⟨φ.f,φ.n,zOf φ1 st1.h qt1 w1⟩,rfl,⟨rfl,rfl⟩,?_,hext3,?_,?_⟩
  · have h1':=hr _ _ hvr2
    exact VR.mono (φ:=⟨φ1.f,0,zOf φ1 st1.h qt1 w1⟩) (φ':=⟨φ.f,φ.n,zOf φ1 st1.h qt1 w1⟩) ⟨Nat.zero_le _,fun id hid=>absurd hid (Nat.not_lt_zero id),fun b c hb=>hb⟩ h1'
  · refine⟨hrel.n,hrel.lt,fun id o ho=>Nat.lt_of_lt_of_le (hrel.blk id o ho) hfr3.size,fun id o ho=>(hrel.obj id o ho).same hext3 (by rw[hrel.n];exact hrel.lt id o ho) (hsame _ (hrel.blk id o ho)),hrel.sep,hrel.fam,fun b c hb=>?_⟩
    obtain⟨h1,h2,_⟩:=hrel2.qdk b c hb
    refine⟨h1,h2,fun id o ho hown hbb=>?_⟩
    rcases hzs b c hb with h3 | h3
    · exact(hrel.qdk b c h3).2.2 id o ho hown hbb
    · have:=hrel.blk id o ho
      have hbb':(φ.f id).b=b:=hbb
      omega
  · exact⟨hfr3.os,hfr3.tape,hfr3.output,hfr3.size,fun k hk _=>hsame k hk,fun k hk=>.inl hk,fun b c hb=>(hzs b c hb).elim .inl fun h=>.inr (.inr h)⟩
end Go.Fz
namespace Go.Fz
set_option maxRecDepth 100000
section
variable {P:Program}{T:Ti}
theorem qac.nilSl (hT:TOk P T){rd:Option Nat}{ops:Array Oper}{i:Nat}{l:List Nat}{K:Fm→St→Prop}{f:Fm}{st:St}{id off len sz:Nat}{ex:Bool}(hn:nilAt T ops i f=some (.sl id off len sz ex))
    (h0:qac P rd ops l K (putAt ops i f (.lit (.bool false))) st):qac P rd ops (i::l) K f st:=by
  unfold nilAt at hn
  split at hn
  · cases hn
  · rename_i o ho
    split at hn
    · rename_i hw
      split at hn
      · rename_i t x y yt hx
        split at hn
        · rename_i ti hti
          split at hn
          · rename_i e hd
            split at hn
            · rename_i hy
              simp only [Option.some.injEq] at hn
              have hu:=(hT t ti hti).und
              rw[hd] at hu
              have hput:∀ v,putAt ops i f v=f.put o.dst v:=fun v=>by simp[putAt,ho]
              rw[hput] at h0
              have key:∀ (b:Bool)(φ:Fi)(w:World)(a:Act)(p:Option Addr)(l c:Nat),qdb φ f a→a.eval x=.slice p l c→p.isNone=b→(execOp a.eval o).run P w=.ok (.value (.bool b)) w:=fun b φ w a p l c ha hp hb=>by
                have hyy:=qa7 ha.ts y
                rw[hy] at hyy
                have hyy:=hyy.qao
                have h1:=run_equalIn_slice_nil (P:=P) (w:=w) 9999 t e p l c hu
                subst hb
                simp only [execOp,hx,hp,hyy]
                simp[eqGuard,Result.andThen,binOp,Op.equal,Op.maxDepth,h1]
              intro φ w a n Q k1 k2 k3 hQ
              have hxx:=qa7 k3.ts x
              rw[hn] at hxx
              simp only [wpOpsIn,ho]
              rw[qen k3 ops hw]
              simp only [if_true]
              refine⟨fun _ _=>trivial,?_⟩
              rw[semAt_eq (fun c hc=>by rw[hx] at hc;cases hc)]
              obtain⟨cap,hv,_⟩:=hxx.qco
              rw[key false φ w a _ _ _ k3 hv rfl]
              exact h0 φ w _ n Q k1 k2 (k3.put o.dst (.lit _)) hQ
            · cases hn
          · cases hn
        · cases hn
      · cases hn
    · cases hn
end
end Go.Fz
namespace Go.Fz
open Go.Proofs
set_option maxRecDepth 100000
section
variable {P:Program}{T:Ti}
theorem qac.idxSl (hT:TOk P T){rd:Option Nat}{ops:Array Oper}{K:Fm→St→Prop}{f:Fm}{st:St}{i:Nat}{l:List Nat}{t id off len sz n:Nat}{ex:Bool}{k:IntKind}
    (hx:idxAt ops i f=some (t,.sl id off len sz ex,.lit (.int k (Int.ofNat n))))(hb:sliceB T t sz=true)(hn:n<len)(h:∀ q,q=off+n*sz→qac P rd ops l K (putAt ops i f (.ptr id q)) st):qac P rd ops (i::l) K f st:=by
  have h:=h _ rfl
  obtain⟨ti,tj,e,h1,h2,h3,h4,h5,h6,h7,h8⟩:=qeq hb
  unfold idxAt at hx
  split at hx
  · cases hx
  · rename_i o ho
    split at hx
    · rename_i hw
      split at hx
      · rename_i t' x ix hop
        simp only [Option.some.injEq,Prod.mk.injEq] at hx
        obtain⟨rfl,k2,k3⟩:=hx
        have hput:∀ v,putAt ops i f v=f.put o.dst v:=fun v=>by simp[putAt,ho]
        rw[hput] at h
        refine qac.qcq hT ho hw ?_ h
        simp only [evG,evL,hop,k2,k3,h1,h2,h3]
        rw[if_pos ⟨Int.natCast_nonneg n,Int.ofNat_lt.2 hn,h4⟩]
        rfl
      · cases hx
    · cases hx
theorem qac.stoI (hT:TOk P T){rd:Option Nat}{ops:Array Oper}{K:Fm→St→Prop}{f:Fm}{st:St}{j:Nat}{l:List Nat}{t id off:Nat}{v:Int}{k:IntKind}{G:List AV}
    (ha:stoAt ops j f=some (t,.ptr id off,.lit (.int k v)))(hb:sizeB T t 1=true)(hx:st.h.get id=some (.cells none false G))(hl:off<G.length)
    (h:∀ G',G'=G.set off (.lit (.int k v))→qac P rd ops l K (putAt ops j f qb3) ⟨st.h.set id (.cells none false G'),st.n⟩):qac P rd ops (j::l) K f st:=by
  have h:=h _ rfl
  unfold stoAt at ha
  split at ha
  · cases ha
  · rename_i o ho
    split at ha
    · rename_i hw
      split at ha
      · rename_i t' p x hop
        simp only [Option.some.injEq,Prod.mk.injEq] at ha
        obtain⟨rfl,e2,e3⟩:=ha
        have hput:∀ v,putAt ops j f v=f.put o.dst v:=fun v=>by simp[putAt,ho]
        rw[hput] at h
        have hst:storeO T st (Operand.av f.ts) o=some ⟨st.h.set id (.cells none false (G.set off (.lit (.int k v)))),st.n⟩:=by
          unfold sizeB at hb
          split at hb
          · rename_i ti hti
            have hsz:=Nat.eq_of_beq_eq_true hb
            have h1:(AV.lit (.int k v)).cells=[.lit (.int k v)]:=rfl
            have h2:(AV.lit (.int k v)).one=true:=rfl
            have h3:(AV.lit (.int k v)).norm=.lit (.int k v):=rfl
            simp only [storeO,hop,storeA,e2,e3,ptrOf,hti,hx,h1,hsz,List.length_singleton,List.map_cons,List.map_nil,h3,qnb,List.all_cons,h2,List.all_nil]
            rw[if_pos ⟨trivial,by omega,by simp,by omega⟩]
          · cases hb
        exact qac.store hT ho hw hst h
      · cases ha
    · cases ha
def sliAt (ops:Array Oper)(i:Nat)(f:Fm):Option (TypeId × AV × Option AV × Option AV):=match ops[i]? with
  | none=>none
  | some o=>match wantA ops f.ts o with
    | some true=>match o.op with
      | .slice t x lo hi none=>some (t,Operand.av f.ts x,lo.map (Operand.av f.ts),hi.map (Operand.av f.ts))
      | _=>none
    | _=>none
theorem qi4 {d l:Nat}:natOr d (some (.lit (.int .i64 (Int.ofNat l))))=some l:=by
  show(if(0:Int)≤Int.ofNat l then some (Int.ofNat l).toNat else none)=some l
  exact if_pos (Int.natCast_nonneg l)
theorem AnyE.cut (hT:TOk P T){rd:Option Nat}{ops:Array Oper}{K:Fm→St→Prop}{fuel:Nat}{qag:List (Nat × AV)}{listed:Array Bool}{f:Fm}{st:St}(i:Nat){t id off len sz l u:Nat}{ex:Bool}{lo hi:Option AV}(hM:qgo ops (qc6 ops)=true)
    (hx:sliAt ops i f=some (t,.sl id off len sz ex,lo,hi))(hlo:natOr 0 lo=some l)(hhi:natOr len hi=some u)(hb:sliceB T t sz=true)(hl:l≤u)(hu:u≤len)(he:l<len∨(l=len∧ex=true))
    (hr:(match ops[i]? with | some o=>(Region.ready .any ops listed).contains i&&noLookB ops qag o | none=>false)=true)
    (h:∀ q b,(q=off+l*sz∨(l=len∧q=off))→AnyE P T ops (qc6 ops) rd K fuel ((i,.sl id q (u - l) sz b)::qag) (listed.setIfInBounds i true) (putAt ops i f (.sl id q (u - l) sz b)) st):AnyE P T ops (qc6 ops) rd K (fuel+1) qag listed f st:=by
  obtain⟨ti,tj,e,h1,h2,h3,h4,h5,h6,h7,h8⟩:=qeq hb
  unfold sliAt at hx
  split at hx
  · cases hx
  · rename_i o ho
    split at hx
    · rename_i hw
      split at hx
      · rename_i t' x lo' hi' hop
        simp only [Option.some.injEq,Prod.mk.injEq] at hx
        obtain⟨rfl,k2,rfl,rfl⟩:=hx
        have hput:∀ v,putAt ops i f v=f.put o.dst v:=fun v=>by simp[putAt,ho]
        simp only [hput] at h
        simp only [ho] at hr
        rcases he with he | ⟨rfl,rfl⟩
        · refine AnyE.take hM hT i ho hr ?_ (h (off+l*sz) (ex&&u == len) (.inl rfl))
          simp only [Fz.lightV,ho,hw,evG,hop,sliceA,k2,h1,h2,h3,h4,hlo,hhi,if_true,Option.map_none]
          rw[if_pos ⟨hl,hu,.inr he⟩]
        · obtain rfl:u=l:=by omega
          refine AnyE.take hM hT i ho hr ?_ (h off true (.inr ⟨rfl,rfl⟩))
          simp only [Fz.lightV,ho,hw,evG,hop,sliceA,k2,h1,h2,h3,h4,hlo,hhi,if_true,Option.map_none]
          by_cases hz:u=0
          · subst hz
            rw[if_pos ⟨Nat.le_refl _,Nat.le_refl _,.inl rfl⟩];simp
          · rw[if_neg (by omega),if_pos ⟨trivial,trivial,trivial⟩,Nat.sub_self]
      · cases hx
    · cases hx
theorem AnyE.qdu {rd:Option Nat}{ops:Array Oper}{M:List Nat}{K:Fm→St→Prop}{fuel:Nat}{qag pend':List (Nat × AV)}{listed:Array Bool}{f:Fm}{st:St}{j:Nat}{g:FuncId}{args:List AV}{r:AV}(he:Enters P g)
    (hp:qax P g args st (fun v st'=>v=r∧st'=st))
    (hj:onlyD ops M qag listed=some (j,pend'))(hc:callAt ops j f=some (g,args))(h:AnyE P T ops M rd K fuel pend' (listed.setIfInBounds j true) (putAt ops j f r) st):AnyE P T ops M rd K (fuel+1) qag listed f st:=fun k1 k2 k3=>by
  unfold onlyD at hj
  split at hj
  · rename_i j' hr
    split at hj
    · rename_i o ho
      split at hj
      · rename_i hnl
        cases hj
        obtain⟨o',first,caps,xs,ho',hw,hcc,ha,hput⟩:=qeu hc
        rw[ho] at ho';cases ho'
        subst ha
        rw[hput] at h
        refine AnyE.one j ho (by rw[hr];exact Nat.beq_refl j) _ rfl (qac.call ho hw hcc (show ApplyW P (.fn (.func g) first caps) xs st _ from⟨he,hp.mono fun v st' ⟨h1,h2⟩=>by
          subst h1;subst h2
          refine .nil ⟨⟨_,rfl⟩,fun p hpm=>?_,h⟩
          show LV T ops st'.h (f.put o.dst v) p.1 p.2
          rw[qlr (fun q hq d hd=>qib hnl p hpm q hq d hd)]
          exact k3 p (List.mem_filter.1 hpm).1⟩)) k1 k2 k3
      · cases hj
    · cases hj
  · cases hj
theorem Eqv.islX {len sz:Nat}{ex:Bool}{g:Nat→Nat→AV}:Eqv (.isl len sz ex g) (.isl len sz false g):=fun φ u hv=>by
  cases hv with
  | isl _ _ _ _ b o cap c us hz hcc hus hcap hex=>exact .isl len sz false g b o cap c us hz hcc hus hcap (fun h=>by cases h)
  | isl0=>exact .isl0 _ _ _
theorem Eqv.trans {a b c:AV}(h:Eqv a b)(k:Eqv b c):Eqv a c:=fun φ u hv=>k φ u (h φ u hv)
end
theorem qrw (fl:Nat→Int)(n off len:Nat)(h:off+len≤n):((flatG 1 (qb6 fl) n).drop off).take len=flatG 1 (qb6 fun i=>fl (off+i)) len:=by
  apply List.ext_getElem?
  intro q
  rw[List.getElem?_take]
  by_cases hq:q<len
  · rw[if_pos hq,List.getElem?_drop]
    have h1:=qc2 1 (qb6 fl) n (off+q) 0 (by omega) (by omega)
    have h2:=qc2 1 (qb6 fun i=>fl (off+i)) len q 0 hq (by omega)
    rw[Nat.mul_one,Nat.add_zero] at h1 h2
    rw[h1,h2];rfl
  · rw[if_neg hq,List.getElem?_eq_none (by rw[qaj];omega)]
theorem qvh {t id id2 off n:Nat}{ex:Bool}{G:List AV}{st:St}{fm:Option Nat}{ro:Bool}{fl:Nat→Int}{N:Nat}(h:sliceB T t 1=true)(hx:st.h.get id=some (.cells none false []))(hy:st.h.get id2=some (.cells fm ro G))(hG:flatG 1 (qb6 fl) N=G)(hoff:off+n≤N)(hn:n<1000)(h0:0<n) :
    appendA T st t t (.sl id 0 0 1 true) (.sl id2 off n 1 ex)=some (.sl st.n 0 n 1 false,st.push (.cells none false (flatG 1 (qb6 fun i=>fl (off+i)) n))):=by
  obtain⟨i,j,e,ht,hd,he,hz,h5,hb,hb0,hzl⟩:=qeq h
  have hlen:G.length=N:=by rw[←hG,qaj,Nat.mul_one]
  have hpart:(G.drop off).take n=flatG 1 (qb6 fun i=>fl (off+i)) n:=by rw[←hG];exact qrw fl N off n hoff
  have hone:=qj5 (sz:=1) (intC_one fun i=>fl (off+i)) n
  unfold appendA
  simp only [ht,hd,he,slCells,cellsAt,hx,hy,slLen,hz]
  rw[if_pos ⟨trivial,by simp⟩,if_pos ⟨trivial,by omega⟩]
  simp only [Nat.mul_one,hpart,Nat.zero_add]
  rw[if_neg (by rw[hone];simp;omega),if_neg (by omega)]
  simp
theorem qr2 {t id id2 off:Nat}{ex:Bool}{G:List AV}{st:St}{fm:Option Nat}{ro:Bool}(h:sliceB T t 1=true)(hx:st.h.get id=some (.cells none false []))(hy:st.h.get id2=some (.cells fm ro G))(hoff:off≤G.length) :
    appendA T st t t (.sl id 0 0 1 true) (.sl id2 off 0 1 ex)=some (.sl id 0 0 1 true,st):=by
  obtain⟨i,j,e,ht,hd,he,hz,h5,hb,hb0,hzl⟩:=qeq h
  unfold appendA
  simp only [ht,hd,he,slCells,cellsAt,hx,hy,slLen,hz]
  rw[if_pos ⟨trivial,by simp⟩,if_pos ⟨trivial,by omega⟩]
  simp only [Nat.zero_mul,List.take_zero,List.all_nil]
  rw[if_neg (by simp;omega)]
  rfl
set_option maxHeartbeats 4000000 in
theorem qja {id off n N:Nat}{fm:Option Nat}{ro ex:Bool}{fl:Nat→Int}{G:List AV}{st:St}{r:AV}(hg:st.h.get id=some (.cells fm ro G))(hG:flatG 1 (qb6 fl) N=G)(hoff:off+n≤N)(hn:n<1000)(hr:Eqv (qap n false fun i=>fl (off+i)) r)(hrb:Below 0 r) :
    qax Try.prog 103 [.sl id off n 1 ex] st (fun v st'=>v=r∧st'=st):=by
  obtain⟨O,hO⟩:∃ O:Ar,O=std:=⟨_,rfl⟩
  have hlen:G.length=N:=by rw[←hG,qaj,Nat.mul_one]
  refine qvk (m:=3) (args2:=[.sl 0 off n 1 ex]) hg (by rw[←hG];exact qar (fun i k=>Below.lit) N) hrb (fun φ us hv=>?_) ?_
  · cases hv with
    | cons h1 h2 =>
      cases h2
      refine .cons ?_ .nil
      cases h1 with
      | sl _ _ _ _ _ cap k1 k2 k3 k4=>exact .sl (φ:=⟨fun _=>φ.f id,1,φ.z⟩) 0 off n 1 ex cap Nat.zero_lt_one k2 k3 k4
  refine qat tok Try.func103 rfl ?_
  show SW _ _ _ _ _ ⟨[(0,.cells none true G)],1⟩
  refine SW.qab tok hO (by cbv <;> rfl) (by trivial) ?_
  refine SW.seq ?_
  refine SW.seq (SW.runN tok hO 1 (by cbv <;> rfl) (by trivial) ?_)
  refine qac.nilSl tok (by cbv <;> rfl) (qac.nil ?_)
  refine SW.cond (t:=false) (by cbv <;> rfl) (SW.skip ?_)
  refine SW.seq (SW.runN tok hO 2 (by cbv <;> rfl) (by trivial) ?_)
  rcases Nat.eq_zero_or_pos n with hz | hz
  · subst hz
    refine qac.appA tok (by cbv <;> rfl) (by exact qr2 (by kernel_rfl) (by rfl) (by rfl) (by omega)) ?_
    refine qac.run tok hO (by cbv <;> rfl) (by trivial) ?_
    refine SW.ret ⟨_,_,rfl,rfl,rfl,?_⟩
    refine Eqv.trans ?_ hr
    show Eqv (.isl 0 1 true _) (.isl 0 1 false _)
    exact Eqv.trans Eqv.islX (Eqv.isl rfl fun i k hi hk=>absurd hi (Nat.not_lt_zero i))
  · refine qac.appA tok (by cbv <;> rfl) (by exact qvh (fl:=fl) (N:=N) (by kernel_rfl) (by rfl) (by rfl) hG hoff hn hz) ?_
    obtain⟨G2,hG2⟩:∃ G2,G2=flatG 1 (qb6 fun i=>fl (off+i)) n:=⟨_,rfl⟩
    rw[←hG2]
    refine qac.run tok hO (by cbv <;> rfl) (by trivial) ?_
    refine SW.ret ⟨_,_,rfl,rfl,rfl,?_⟩
    refine Eqv.trans ?_ hr
    show Eqv (frz _ qt1 3 (.sl 2 0 n 1 false)) _
    rw[qcc (fm:=none) (G:=G2) rfl rfl (by rw[hG2,qaj];omega),hG2]
    exact Eqv.isl rfl fun i k hi hk=>Eqv.of (qcn hi hk rfl)
end Go.Fz
namespace Go.Fz
open Go.Proofs
set_option maxRecDepth 100000
def qmz:AV:=.fn (.func 123) [] [.ptr 50 0,.ptr 49 0,.ptr 53 0,.ptr 51 0,.ptr 54 0]
def chH (y N nw:Nat)(lo hi:Nat→Int)(G:List AV)(h:Hp):Hp:=(54,.cells none false [qmz])::(53,.cells none false [.sl 52 0 N 1 true])::(52,.cells none false G)::(51,.cells none false [iV nw])::(50,.cells none false [.isl N 2 false (rngC lo hi)])::(49,.cells none false [.yld y])::h
def chO (y N nw:Nat)(lo hi:Nat→Int)(G:List AV):Hp:=[(54,.cells none false [qmz]),(53,.cells none false [.sl 52 0 N 1 true]),(52,.cells none false G),(51,.cells none false [iV nw]),(50,.cells none false [.isl N 2 false (rngC lo hi)]),(49,.cells none false [.yld y])]
def qwc (qbm:Nat→Int)(nw nl:Nat):AV:=.agg [qap nw false qbm,qap nl false (fun i=>qbm (nw+i))]
def qea (N:Nat)(f:Nat→Int)(m:Nat):Int:=if m<N then f m else 0
theorem qle {N:Nat}{f g:Nat→Int}(h:∀ m,m<N→f m=g m):qea N f=qea N g:=funext fun m=>by
  unfold qea
  by_cases hm:m<N
  · rw[if_pos hm,if_pos hm,h m hm]
  · rw[if_neg hm,if_neg hm]
section
variable {α:Type}
def qiy (F:Int→α→α)(lo:Int):Nat→α→α
  | 0,a=>a
  | c+1,a=>F (lo+c) (qiy F lo c a)
theorem qg2 {F F':Int→α→α}(h:∀ v a,F v a=F' v a)(lo:Int)(a:α):∀ c,qiy F lo c a=qiy F' lo c a
  | 0=>rfl
  | c+1=>by show F _ _=F' _ _;rw[qg2 h lo a c,h]
def qfs (next:α→(Nat→Int)→α)(N:Nat)(lo hi:Nat→Int):Nat→Nat→(Nat→Int)→α→α
  | 0,_,f,a=>next a (qea N f)
  | j+1,i,f,a=>qiy (fun v a=>qfs next N lo hi j (i+1) (qhf f i v) a) (lo i) (hi i - lo i+1).toNat a
theorem qe8 (next:α→(Nat→Int)→α)(N:Nat)(lo hi:Nat→Int):∀ (j i:Nat)(f g:Nat→Int)(a:α),i+j=N→(∀ m,m<i→f m=g m)→qfs next N lo hi j i f a=qfs next N lo hi j i g a
  | 0,i,f,g,a,hij,h=>by
    show next a (qea N f)=next a (qea N g)
    rw[qle fun m hm=>h m (by omega)]
  | j+1,i,f,g,a,hij,h=>qg2 (fun v a=>qe8 next N lo hi j (i+1) _ _ a (by omega) fun m hm=>by
    by_cases e:m=i
    · subst e;rw[qbh,qbh]
    · rw[qb4 e,qb4 e,h m (by omega)]) _ _ _
def allE (ok:α→Prop)(next:α→(Nat→Int)→α)(N:Nat)(lo hi:Nat→Int):Nat→Nat→(Nat→Int)→α→Prop
  | 0,_,_,a=>ok a
  | j+1,i,f,a=>∀ c,c<(hi i - lo i+1).toNat→allE ok next N lo hi j (i+1) (qhf f i (lo i+c)) (qiy (fun v a=>qfs next N lo hi j (i+1) (qhf f i v) a) (lo i) c a)
theorem qim (ok:α→Prop)(next:α→(Nat→Int)→α)(N:Nat)(lo hi:Nat→Int):∀ (j i:Nat)(f g:Nat→Int)(a:α),i+j=N→(∀ m,m<i→f m=g m)→allE ok next N lo hi j i f a→allE ok next N lo hi j i g a
  | 0,_,_,_,_,_,_,h=>h
  | j+1,i,f,g,a,hij,hfg,h=>fun c hc=>by
    have hag:∀ v m,m<i+1→qhf f i v m=qhf g i v m:=fun v m hm=>by
      by_cases e:m=i
      · subst e;rw[qbh,qbh]
      · rw[qb4 e,qb4 e,hfg m (by omega)]
    have h1:=h c hc
    rw[qg2 (fun v b=>qe8 next N lo hi j (i+1) (qhf f i v) (qhf g i v) b (by omega) (hag v))] at h1
    exact qim ok next N lo hi j (i+1) _ _ _ (by omega) (hag _) h1
def chQ (K:α→Hp→Nat→Prop)(stop:Hp→Nat→Prop)(y N nw:Nat)(lo hi:Nat→Int)(A:(Nat→Int)→Prop)(a:α)(v:AV)(st':St):Prop :=
  (v=.lit (.bool true)∧∃ qbm h n,A qbm∧st'=⟨chH y N nw lo hi (flatG 1 (qb6 qbm) N) h,n⟩∧K a h n)∨(v=.lit (.bool false)∧∃ qbm h n,st'=⟨chH y N nw lo hi (flatG 1 (qb6 qbm) N) h,n⟩∧stop h n)
set_option maxHeartbeats 8000000 in
theorem qnx (ok:α→Prop)(K:α→Hp→Nat→Prop)(next:α→(Nat→Int)→α)(stop:Hp→Nat→Prop)(y N nw:Nat)(lo hi:Nat→Int)(hN:N<100)(h0:0<nw)(hnw:nw≤N)(hb:∀ m,m<N→0≤lo m∧lo m≤hi m∧hi m≤5000)
    (step:∀ qbm a h n,(∀ m,m<N→lo m≤qbm m∧qbm m≤hi m)→ok a→K a h n→qbb Try.prog y [qwc (qea N qbm) nw (N - nw)] ⟨chH y N nw lo hi (flatG 1 (qb6 qbm) N) h,n⟩ (chQ K stop y N nw lo hi (fun f=>f=qbm) (next a (qea N qbm)))) :
    ∀ j i qbm a h n,i+j=N→(∀ m,m<i→lo m≤qbm m∧qbm m≤hi m)→allE ok next N lo hi j i qbm a→K a h n →
      qax Try.prog 123 [iV i,.ptr 50 0,.ptr 49 0,.ptr 53 0,.ptr 51 0,.ptr 54 0] ⟨chH y N nw lo hi (flatG 1 (qb6 qbm) N) h,n⟩ (chQ K stop y N nw lo hi (fun f=>∀ m,m<i→f m=qbm m) (qfs next N lo hi j i qbm a))
  | 0,i,qbm,a,h,n,hij,hin,hok,hK=>by
    obtain⟨O,hO⟩:∃ O:Ar,O=std:=⟨_,rfl⟩
    obtain rfl:i=N:=by omega
    have hs:=step qbm a h n hin hok hK
    obtain⟨G,hG⟩:∃ G,flatG 1 (qb6 qbm) i=G:=⟨_,rfl⟩
    rw[hG] at hs ⊢
    refine qat tok Try.func123 rfl ?_
    refine SW.qab tok hO (by cbv <;> rfl) (by trivial) ?_
    refine SW.seq ?_
    refine SW.qab tok hO (by cbv <;> rfl) (by trivial) ?_
    refine SW.qa6 (by cbv <;> rfl) (fun h1=>?_) (fun h1=>?_)
    rotate_left
    · exfalso
      subst hO;simp[std] at h1
    have c1:=fun(b:Bool)=>qja (ex:=b) (off:=0) (n:=nw) (N:=i) (fl:=qbm) (id:=52) (fm:=none) (ro:=false) (G:=G) (r:=qap nw false (qea i qbm)) (st:=⟨chH y i nw lo hi G h,n⟩) (by rfl) hG (by omega) (by omega) (Eqv.isl rfl fun p q hp _=>Eqv.of (by show iV (qbm (0+p))=iV (qea i qbm p);rw[Nat.zero_add];unfold qea;rw[if_pos (by omega)])) (qa3 _ _ _)
    have c2:∀ q2 b,(q2=nw∨(nw=i∧q2=0))→qax Try.prog 103 [.sl 52 q2 (i - nw) 1 b] ⟨chH y i nw lo hi G h,n⟩ (fun v st'=>v=qap (i - nw) false (fun p=>qea i qbm (nw+p))∧st'=⟨chH y i nw lo hi G h,n⟩):=fun q2 b hq =>
      qja (off:=q2) (n:=i - nw) (N:=i) (fl:=qbm) (id:=52) (fm:=none) (ro:=false) (G:=G) (r:=qap (i - nw) false (fun p=>qea i qbm (nw+p))) (by rfl) hG (by omega) (by omega) (by
        rcases hq with rfl | ⟨hq,_⟩
        · exact Eqv.isl rfl fun p q hp _=>Eqv.of (by show iV (qbm (q2+p))=iV (qea i qbm (q2+p));unfold qea;rw[if_pos (by omega)])
        · exact Eqv.isl rfl fun p _ hp _=>absurd hp (by omega)) (qa3 _ _ _)
    refine SW.qbf tok mixed hO (by kernel_rfl) (by cbv <;> rfl) (by trivial) ?_
    refine AnyE.cut tok 3 (l:=0) (u:=nw) (by kernel_rfl) (by cbv <;> rfl) rfl qi4 (by kernel_rfl) (by omega) (by omega) (.inl (by omega)) (by cbv <;> rfl) fun q1 b1 hq1=>?_
    obtain rfl:q1=0:=by omega
    refine AnyE.run tok hO (by kernel_rfl) (by cbv <;> rfl) (by trivial) ?_
    refine AnyE.cut tok 7 (l:=nw) (u:=i) (by kernel_rfl) (by cbv <;> rfl) qi4 rfl (by kernel_rfl) (by omega) (by omega) (by by_cases hq:nw<i;exact .inl hq;exact .inr ⟨by omega,rfl⟩) (by cbv <;> rfl) fun q2 b2 hq2=>?_
    refine AnyE.qdu qr1 (c1 b1) (by cbv <;> rfl) (by cbv <;> rfl) ?_
    refine AnyE.run tok hO (by kernel_rfl) (by cbv <;> rfl) (by trivial) ?_
    refine AnyE.qdu qr1 (c2 q2 b2 (by omega)) (by cbv <;> rfl) (by cbv <;> rfl) ?_
    refine AnyE.run tok hO (by kernel_rfl) (by cbv <;> rfl) (by trivial) ?_
    refine AnyE.apply (c:=.yld y) (args:=[qwc (qea i qbm) nw (i - nw)]) (by cbv <;> rfl) (by cbv <;> rfl) hs fun v st' hk=>?_
    rcases hk with ⟨rfl,nums2,h2,n2,hn2,hst,hk⟩ | ⟨rfl,nums2,h2,n2,hst,hk⟩
    · obtain⟨G3,hG3⟩:∃ G,flatG 1 (qb6 nums2) i=G:=⟨_,rfl⟩
      rw[hG3] at hst
      subst hst
      refine AnyE.run tok hO (by kernel_rfl) (by cbv <;> rfl) (by trivial) ?_
      exact SW.ret ⟨_,_,rfl,rfl,.inl ⟨rfl,nums2,_,_,fun _ _=>by rw[hn2],by rw[hG3];rfl,hk⟩⟩
    · obtain⟨G3,hG3⟩:∃ G,flatG 1 (qb6 nums2) i=G:=⟨_,rfl⟩
      rw[hG3] at hst
      subst hst
      refine AnyE.run tok hO (by kernel_rfl) (by cbv <;> rfl) (by trivial) ?_
      exact SW.ret ⟨_,_,rfl,rfl,.inr ⟨rfl,nums2,_,_,by rw[hG3];rfl,hk⟩⟩
  | j+1,i,qbm,a,h,n,hij,hin,hall,hK=>by
    have ih:=qnx ok K next stop y N nw lo hi hN h0 hnw hb step j (i+1)
    obtain⟨O,hO⟩:∃ O:Ar,O=std:=⟨_,rfl⟩
    have hnat:∀ i:Nat,O.nat (Int.ofNat i)=i:=fun i=>by subst hO;rfl
    have hiN:i<N:=by omega
    obtain⟨b1,b2,b3⟩:=hb i hiN
    have hi0:(0:Int)≤Int.ofNat i:=Int.natCast_nonneg i
    have hii:0≤Int.ofNat i∧Int.ofNat i<(N:Int):=⟨hi0,Int.ofNat_lt.2 hiN⟩
    refine qat tok Try.func123 rfl ?_
    obtain⟨G,hG⟩:∃ G,flatG 1 (qb6 qbm) N=G:=⟨_,rfl⟩
    rw[hG]
    refine SW.qab tok hO (by cbv <;> rfl) (by trivial) ?_
    refine SW.seq ?_
    refine SW.qab tok hO (by cbv <;> rfl) (by trivial) ?_
    refine SW.qa6 (by cbv <;> rfl) (fun h1=>?_) (fun h1=>SW.skip ?_)
    · exfalso
      have:(i:Int)=N:=by subst hO;simpa[std] using h1
      omega
    refine SW.seq ?_
    refine SW.qab tok hO (by cbv <;> rfl) ?_ ?_
    · exact hii
    refine(SW.block (SW.loop (fun k f st=>∃ (g:Nat→AV)(c:Nat)(nums':Nat→Int)(h':Hp)(n':Nat),f=⟨⟨47,g⟩,[]⟩∧qm5 (fun p=>g p.1=p.2) [(0,iV i),(1,.ptr 50 0),(2,.ptr 49 0),(3,.ptr 53 0),(4,.ptr 51 0),(5,.ptr 54 0),(8,iV (lo i+c))]∧st=⟨chH y N nw lo hi (flatG 1 (qb6 nums') N) h',n'⟩ ∧
      (∀ m,m<i→nums' m=qbm m)∧K (qiy (fun v a=>qfs next N lo hi j (i+1) (qhf qbm i v) a) (lo i) c a) h' n'∧lo i+c≤hi i+1∧k=(hi i+1 - (lo i+c)).toNat) (hi i+1 - (lo i+(0:Nat))).toNat ?_ ?_))
    · refine⟨_,0,qbm,h,n,rfl,⟨rfl,rfl,rfl,rfl,rfl,rfl,?_,trivial⟩,by rw[hG];rfl,fun _ _=>rfl,hK,by omega,rfl⟩
      show iV (lo (O.nat (Int.ofNat i)))=iV (lo i+(0:Nat))
      rw[hnat];simp
    · rintro k f st ⟨g,c,nums',h',n',rfl,⟨g0,g1,g2,g3,g4,g5,g8,_⟩,rfl,hag,hK',hle,rfl⟩
      simp only at g0 g1 g2 g3 g4 g5 g8
      rw[←qav g0,←qav g1,←qav g2,←qav g3,←qav g4,←qav g5,←qav g8]
      obtain⟨G1,hG1⟩:∃ G,flatG 1 (qb6 nums') N=G:=⟨_,rfl⟩
      have hlen:G1.length=N*1:=by rw[←hG1,qaj]
      obtain⟨v,hv⟩:∃ v,lo i+(c:Int)=v:=⟨_,rfl⟩
      rw[hG1,hv]
      refine SW.seq ?_
      refine SW.qab tok hO (by cbv <;> rfl) ?_ ?_
      · exact hii
      refine SW.qa6 (by cbv <;> rfl) (fun h3=>SW.skip ?_) (fun h3=>SW.exit ?_)
      rotate_left
      · have hgt:hi i<v:=by
          have:hi (O.nat (Int.ofNat i))<v:=by subst hO;simpa[std] using h3
          rwa [hnat] at this
        have hc:c=(hi i - lo i+1).toNat:=by omega
        refine SW.qab tok hO (by cbv <;> rfl) (by trivial) ?_
        refine SW.ret ⟨_,_,rfl,rfl,.inl ⟨rfl,nums',h',n',hag,by rw[hG1];rfl,?_⟩⟩
        rw[hc] at hK';exact hK'
      · have hvle:v≤hi i:=by
          have:v≤hi (O.nat (Int.ofNat i)):=by subst hO;simpa[std] using h3
          rwa [hnat] at this
        refine SW.seq (SW.block ?_)
        refine SW.seq (SW.runN tok hO 3 (by cbv <;> rfl) (by trivial) ?_)
        refine qac.idxSl tok (n:=i) (by cbv <;> rfl) (by kernel_rfl) hiN fun q hq=>?_
        refine qac.stoI tok (id:=52) (G:=G1) (by cbv <;> rfl) (by kernel_rfl) (by rfl) (by omega) fun G2 hG2=>qac.nil ?_
        have hGG:G2=flatG 1 (qb6 (qhf nums' i v)) N:=by
          rw[hG2,←hG1,hq,show 0+i*1=i*1+0 by omega]
          exact qnp hiN (by omega) (show iV (qhf nums' i v i)=_ by rw[qbh];rfl) fun p q _ hq hne=>by
            have:p≠i:=fun e=>hne ⟨e,by omega⟩
            show iV (qhf nums' i v p)=iV (nums' p)
            rw[qb4 this]
        show SW _ _ _ _ _ ⟨chH y N nw lo hi G2 h',n'⟩
        have hrec:=ih (qhf nums' i v) _ h' n' (by omega) (fun m hm=>by
          by_cases e:m=i
          · subst e;rw[qbh];omega
          · rw[qb4 e,hag m (by omega)];exact hin m (by omega)) (by
            have hc':=hall c (by omega)
            rw[hv] at hc'
            exact qim ok next N lo hi j (i+1) _ _ _ (by omega) (fun m hm=>by
              by_cases e:m=i
              · subst e;rw[qbh,qbh]
              · rw[qb4 e,qb4 e,hag m (by omega)]) hc') hK'
        rw[←hGG,←qci hO (by omega)] at hrec
        refine SW.qab tok hO (by cbv <;> rfl) (by trivial) ?_
        refine qac.apply (by cbv <;> rfl) (show ApplyW Try.prog qmz _ _ _ from⟨qr0,hrec⟩) fun w st' hk=>?_
        rcases hk with ⟨rfl,nums2,h2,n2,hag2,hst,hk⟩ | ⟨rfl,nums2,h2,n2,hst,hk⟩ <;> obtain⟨G3,hG3⟩:∃ G,flatG 1 (qb6 nums2) N=G:=⟨_,rfl⟩ <;> rw[hG3] at hst <;> subst hst
        · refine qac.run tok hO (by cbv <;> rfl) (by trivial) ?_
          refine SW.cond (t:=false) (by cbv <;> rfl) (SW.skip ?_)
          refine SW.run tok hO (by cbv <;> rfl) (by trivial) ?_
          have hinc:O.bin .add .i64 v 1=lo i+((c+1:Nat):Int):=by
            subst hO
            show qin v 1=_
            rw[qf7 _ _ (by omega) (by omega)];omega
          refine⟨(hi i+1 - (lo i+((c+1:Nat):Int))).toNat,by omega,_,c+1,nums2,h2,n2,rfl,⟨rfl,rfl,rfl,rfl,rfl,rfl,congrArg (fun z=>AV.lit (.int .i64 z)) hinc,trivial⟩,by rw[hG3];rfl,fun m hm=>?_,?_,by omega,rfl⟩
          · rw[hag2 m (by omega),qb4 (by omega),hag m hm]
          · show K (qfs next N lo hi j (i+1) (qhf qbm i (lo i+c)) _) h2 n2
            rw[hv,←qe8 next N lo hi j (i+1) (qhf nums' i v) (qhf qbm i v) _ (by omega) fun m hm=>by
              by_cases e:m=i
              · subst e;rw[qbh,qbh]
              · rw[qb4 e,qb4 e,hag m (by omega)]]
            exact hk
        · refine qac.run tok hO (by cbv <;> rfl) (by trivial) ?_
          refine SW.cond (t:=true) (by cbv <;> rfl) ?_
          refine SW.qab tok hO (by cbv <;> rfl) (by trivial) ?_
          exact SW.ret ⟨_,_,rfl,rfl,.inr ⟨rfl,nums2,_,_,by rw[hG3];rfl,hk⟩⟩
end
end Go.Fz
namespace Go.Fz
open Go.Proofs
set_option maxRecDepth 100000
def qjb:AV:=.fn (.func 123) [] [.ptr 51 0,.ptr 49 0,.ptr 53 0,.ptr 50 0,.ptr 54 0]
def qvy (y N nw:Nat)(lo hi:Nat→Int)(G:List AV)(h:Hp):Hp:=(54,.cells none false [qjb])::(53,.cells none false [.sl 52 0 N 1 true])::(52,.cells none false G)::(51,.cells none false [.isl N 2 false (rngC lo hi)])::(50,.cells none false [iV nw])::(49,.cells none false [.yld y])::h
def chOs (y N nw:Nat)(lo hi:Nat→Int)(G:List AV):Hp:=[(54,.cells none false [qjb]),(53,.cells none false [.sl 52 0 N 1 true]),(52,.cells none false G),(51,.cells none false [.isl N 2 false (rngC lo hi)]),(50,.cells none false [iV nw]),(49,.cells none false [.yld y])]
section
variable {α:Type}
def chQs (K:α→Hp→Nat→Prop)(stop:Hp→Nat→Prop)(y N nw:Nat)(lo hi:Nat→Int)(A:(Nat→Int)→Prop)(a:α)(v:AV)(st':St):Prop :=
  (v=.lit (.bool true)∧∃ qbm h n,A qbm∧st'=⟨qvy y N nw lo hi (flatG 1 (qb6 qbm) N) h,n⟩∧K a h n)∨(v=.lit (.bool false)∧∃ qbm h n,st'=⟨qvy y N nw lo hi (flatG 1 (qb6 qbm) N) h,n⟩∧stop h n)
set_option maxHeartbeats 8000000 in
theorem qlj (ok:α→Prop)(K:α→Hp→Nat→Prop)(next:α→(Nat→Int)→α)(stop:Hp→Nat→Prop)(y N nw:Nat)(lo hi:Nat→Int)(hN:N<100)(h0:0<nw)(hnw:nw≤N)(hb:∀ m,m<N→0≤lo m∧lo m≤hi m∧hi m≤5000)
    (step:∀ qbm a h n,(∀ m,m<N→lo m≤qbm m∧qbm m≤hi m)→ok a→K a h n→qbb Try.prog y [qwc (qea N qbm) nw (N - nw)] ⟨qvy y N nw lo hi (flatG 1 (qb6 qbm) N) h,n⟩ (chQs K stop y N nw lo hi (fun f=>f=qbm) (next a (qea N qbm)))) :
    ∀ j i qbm a h n,i+j=N→(∀ m,m<i→lo m≤qbm m∧qbm m≤hi m)→allE ok next N lo hi j i qbm a→K a h n →
      qax Try.prog 123 [iV i,.ptr 51 0,.ptr 49 0,.ptr 53 0,.ptr 50 0,.ptr 54 0] ⟨qvy y N nw lo hi (flatG 1 (qb6 qbm) N) h,n⟩ (chQs K stop y N nw lo hi (fun f=>∀ m,m<i→f m=qbm m) (qfs next N lo hi j i qbm a))
  | 0,i,qbm,a,h,n,hij,hin,hok,hK=>by
    obtain⟨O,hO⟩:∃ O:Ar,O=std:=⟨_,rfl⟩
    obtain rfl:i=N:=by omega
    have hs:=step qbm a h n hin hok hK
    obtain⟨G,hG⟩:∃ G,flatG 1 (qb6 qbm) i=G:=⟨_,rfl⟩
    rw[hG] at hs ⊢
    refine qat tok Try.func123 rfl ?_
    refine SW.qab tok hO (by cbv <;> rfl) (by trivial) ?_
    refine SW.seq ?_
    refine SW.qab tok hO (by cbv <;> rfl) (by trivial) ?_
    refine SW.qa6 (by cbv <;> rfl) (fun h1=>?_) (fun h1=>?_)
    rotate_left
    · exfalso
      subst hO;simp[std] at h1
    have c1:=fun(b:Bool)=>qja (ex:=b) (off:=0) (n:=nw) (N:=i) (fl:=qbm) (id:=52) (fm:=none) (ro:=false) (G:=G) (r:=qap nw false (qea i qbm)) (st:=⟨qvy y i nw lo hi G h,n⟩) (by rfl) hG (by omega) (by omega) (Eqv.isl rfl fun p q hp _=>Eqv.of (by show iV (qbm (0+p))=iV (qea i qbm p);rw[Nat.zero_add];unfold qea;rw[if_pos (by omega)])) (qa3 _ _ _)
    have c2:∀ q2 b,(q2=nw∨(nw=i∧q2=0))→qax Try.prog 103 [.sl 52 q2 (i - nw) 1 b] ⟨qvy y i nw lo hi G h,n⟩ (fun v st'=>v=qap (i - nw) false (fun p=>qea i qbm (nw+p))∧st'=⟨qvy y i nw lo hi G h,n⟩):=fun q2 b hq =>
      qja (off:=q2) (n:=i - nw) (N:=i) (fl:=qbm) (id:=52) (fm:=none) (ro:=false) (G:=G) (r:=qap (i - nw) false (fun p=>qea i qbm (nw+p))) (by rfl) hG (by omega) (by omega) (by
        rcases hq with rfl | ⟨hq,_⟩
        · exact Eqv.isl rfl fun p q hp _=>Eqv.of (by show iV (qbm (q2+p))=iV (qea i qbm (q2+p));unfold qea;rw[if_pos (by omega)])
        · exact Eqv.isl rfl fun p _ hp _=>absurd hp (by omega)) (qa3 _ _ _)
    refine SW.qbf tok mixed hO (by kernel_rfl) (by cbv <;> rfl) (by trivial) ?_
    refine AnyE.cut tok 3 (l:=0) (u:=nw) (by kernel_rfl) (by cbv <;> rfl) rfl qi4 (by kernel_rfl) (by omega) (by omega) (.inl (by omega)) (by cbv <;> rfl) fun q1 b1 hq1=>?_
    obtain rfl:q1=0:=by omega
    refine AnyE.run tok hO (by kernel_rfl) (by cbv <;> rfl) (by trivial) ?_
    refine AnyE.cut tok 7 (l:=nw) (u:=i) (by kernel_rfl) (by cbv <;> rfl) qi4 rfl (by kernel_rfl) (by omega) (by omega) (by by_cases hq:nw<i;exact .inl hq;exact .inr ⟨by omega,rfl⟩) (by cbv <;> rfl) fun q2 b2 hq2=>?_
    refine AnyE.qdu qr1 (c1 b1) (by cbv <;> rfl) (by cbv <;> rfl) ?_
    refine AnyE.run tok hO (by kernel_rfl) (by cbv <;> rfl) (by trivial) ?_
    refine AnyE.qdu qr1 (c2 q2 b2 (by omega)) (by cbv <;> rfl) (by cbv <;> rfl) ?_
    refine AnyE.run tok hO (by kernel_rfl) (by cbv <;> rfl) (by trivial) ?_
    refine AnyE.apply (c:=.yld y) (args:=[qwc (qea i qbm) nw (i - nw)]) (by cbv <;> rfl) (by cbv <;> rfl) hs fun v st' hk=>?_
    rcases hk with ⟨rfl,nums2,h2,n2,hn2,hst,hk⟩ | ⟨rfl,nums2,h2,n2,hst,hk⟩
    · obtain⟨G3,hG3⟩:∃ G,flatG 1 (qb6 nums2) i=G:=⟨_,rfl⟩
      rw[hG3] at hst
      subst hst
      refine AnyE.run tok hO (by kernel_rfl) (by cbv <;> rfl) (by trivial) ?_
      exact SW.ret ⟨_,_,rfl,rfl,.inl ⟨rfl,nums2,_,_,fun _ _=>by rw[hn2],by rw[hG3];rfl,hk⟩⟩
    · obtain⟨G3,hG3⟩:∃ G,flatG 1 (qb6 nums2) i=G:=⟨_,rfl⟩
      rw[hG3] at hst
      subst hst
      refine AnyE.run tok hO (by kernel_rfl) (by cbv <;> rfl) (by trivial) ?_
      exact SW.ret ⟨_,_,rfl,rfl,.inr ⟨rfl,nums2,_,_,by rw[hG3];rfl,hk⟩⟩
  | j+1,i,qbm,a,h,n,hij,hin,hall,hK=>by
    have ih:=qlj ok K next stop y N nw lo hi hN h0 hnw hb step j (i+1)
    obtain⟨O,hO⟩:∃ O:Ar,O=std:=⟨_,rfl⟩
    have hnat:∀ i:Nat,O.nat (Int.ofNat i)=i:=fun i=>by subst hO;rfl
    have hiN:i<N:=by omega
    obtain⟨b1,b2,b3⟩:=hb i hiN
    have hi0:(0:Int)≤Int.ofNat i:=Int.natCast_nonneg i
    have hii:0≤Int.ofNat i∧Int.ofNat i<(N:Int):=⟨hi0,Int.ofNat_lt.2 hiN⟩
    refine qat tok Try.func123 rfl ?_
    obtain⟨G,hG⟩:∃ G,flatG 1 (qb6 qbm) N=G:=⟨_,rfl⟩
    rw[hG]
    refine SW.qab tok hO (by cbv <;> rfl) (by trivial) ?_
    refine SW.seq ?_
    refine SW.qab tok hO (by cbv <;> rfl) (by trivial) ?_
    refine SW.qa6 (by cbv <;> rfl) (fun h1=>?_) (fun h1=>SW.skip ?_)
    · exfalso
      have:(i:Int)=N:=by subst hO;simpa[std] using h1
      omega
    refine SW.seq ?_
    refine SW.qab tok hO (by cbv <;> rfl) ?_ ?_
    · exact hii
    refine(SW.block (SW.loop (fun k f st=>∃ (g:Nat→AV)(c:Nat)(nums':Nat→Int)(h':Hp)(n':Nat),f=⟨⟨47,g⟩,[]⟩∧qm5 (fun p=>g p.1=p.2) [(0,iV i),(1,.ptr 51 0),(2,.ptr 49 0),(3,.ptr 53 0),(4,.ptr 50 0),(5,.ptr 54 0),(8,iV (lo i+c))]∧st=⟨qvy y N nw lo hi (flatG 1 (qb6 nums') N) h',n'⟩ ∧
      (∀ m,m<i→nums' m=qbm m)∧K (qiy (fun v a=>qfs next N lo hi j (i+1) (qhf qbm i v) a) (lo i) c a) h' n'∧lo i+c≤hi i+1∧k=(hi i+1 - (lo i+c)).toNat) (hi i+1 - (lo i+(0:Nat))).toNat ?_ ?_))
    · refine⟨_,0,qbm,h,n,rfl,⟨rfl,rfl,rfl,rfl,rfl,rfl,?_,trivial⟩,by rw[hG];rfl,fun _ _=>rfl,hK,by omega,rfl⟩
      show iV (lo (O.nat (Int.ofNat i)))=iV (lo i+(0:Nat))
      rw[hnat];simp
    · rintro k f st ⟨g,c,nums',h',n',rfl,⟨g0,g1,g2,g3,g4,g5,g8,_⟩,rfl,hag,hK',hle,rfl⟩
      simp only at g0 g1 g2 g3 g4 g5 g8
      rw[←qav g0,←qav g1,←qav g2,←qav g3,←qav g4,←qav g5,←qav g8]
      obtain⟨G1,hG1⟩:∃ G,flatG 1 (qb6 nums') N=G:=⟨_,rfl⟩
      have hlen:G1.length=N*1:=by rw[←hG1,qaj]
      obtain⟨v,hv⟩:∃ v,lo i+(c:Int)=v:=⟨_,rfl⟩
      rw[hG1,hv]
      refine SW.seq ?_
      refine SW.qab tok hO (by cbv <;> rfl) ?_ ?_
      · exact hii
      refine SW.qa6 (by cbv <;> rfl) (fun h3=>SW.skip ?_) (fun h3=>SW.exit ?_)
      rotate_left
      · have hgt:hi i<v:=by
          have:hi (O.nat (Int.ofNat i))<v:=by subst hO;simpa[std] using h3
          rwa [hnat] at this
        have hc:c=(hi i - lo i+1).toNat:=by omega
        refine SW.qab tok hO (by cbv <;> rfl) (by trivial) ?_
        refine SW.ret ⟨_,_,rfl,rfl,.inl ⟨rfl,nums',h',n',hag,by rw[hG1];rfl,?_⟩⟩
        rw[hc] at hK';exact hK'
      · have hvle:v≤hi i:=by
          have:v≤hi (O.nat (Int.ofNat i)):=by subst hO;simpa[std] using h3
          rwa [hnat] at this
        refine SW.seq (SW.block ?_)
        refine SW.seq (SW.runN tok hO 3 (by cbv <;> rfl) (by trivial) ?_)
        refine qac.idxSl tok (n:=i) (by cbv <;> rfl) (by kernel_rfl) hiN fun q hq=>?_
        refine qac.stoI tok (id:=52) (G:=G1) (by cbv <;> rfl) (by kernel_rfl) (by rfl) (by omega) fun G2 hG2=>qac.nil ?_
        have hGG:G2=flatG 1 (qb6 (qhf nums' i v)) N:=by
          rw[hG2,←hG1,hq,show 0+i*1=i*1+0 by omega]
          exact qnp hiN (by omega) (show iV (qhf nums' i v i)=_ by rw[qbh];rfl) fun p q _ hq hne=>by
            have:p≠i:=fun e=>hne ⟨e,by omega⟩
            show iV (qhf nums' i v p)=iV (nums' p)
            rw[qb4 this]
        show SW _ _ _ _ _ ⟨qvy y N nw lo hi G2 h',n'⟩
        have hrec:=ih (qhf nums' i v) _ h' n' (by omega) (fun m hm=>by
          by_cases e:m=i
          · subst e;rw[qbh];omega
          · rw[qb4 e,hag m (by omega)];exact hin m (by omega)) (by
            have hc':=hall c (by omega)
            rw[hv] at hc'
            exact qim ok next N lo hi j (i+1) _ _ _ (by omega) (fun m hm=>by
              by_cases e:m=i
              · subst e;rw[qbh,qbh]
              · rw[qb4 e,qb4 e,hag m (by omega)]) hc') hK'
        rw[←hGG,←qci hO (by omega)] at hrec
        refine SW.qab tok hO (by cbv <;> rfl) (by trivial) ?_
        refine qac.apply (by cbv <;> rfl) (show ApplyW Try.prog qjb _ _ _ from⟨qr0,hrec⟩) fun w st' hk=>?_
        rcases hk with ⟨rfl,nums2,h2,n2,hag2,hst,hk⟩ | ⟨rfl,nums2,h2,n2,hst,hk⟩ <;> obtain⟨G3,hG3⟩:∃ G,flatG 1 (qb6 nums2) N=G:=⟨_,rfl⟩ <;> rw[hG3] at hst <;> subst hst
        · refine qac.run tok hO (by cbv <;> rfl) (by trivial) ?_
          refine SW.cond (t:=false) (by cbv <;> rfl) (SW.skip ?_)
          refine SW.run tok hO (by cbv <;> rfl) (by trivial) ?_
          have hinc:O.bin .add .i64 v 1=lo i+((c+1:Nat):Int):=by
            subst hO
            show qin v 1=_
            rw[qf7 _ _ (by omega) (by omega)];omega
          refine⟨(hi i+1 - (lo i+((c+1:Nat):Int))).toNat,by omega,_,c+1,nums2,h2,n2,rfl,⟨rfl,rfl,rfl,rfl,rfl,rfl,congrArg (fun z=>AV.lit (.int .i64 z)) hinc,trivial⟩,by rw[hG3];rfl,fun m hm=>?_,?_,by omega,rfl⟩
          · rw[hag2 m (by omega),qb4 (by omega),hag m hm]
          · show K (qfs next N lo hi j (i+1) (qhf qbm i (lo i+c)) _) h2 n2
            rw[hv,←qe8 next N lo hi j (i+1) (qhf nums' i v) (qhf qbm i v) _ (by omega) fun m hm=>by
              by_cases e:m=i
              · subst e;rw[qbh,qbh]
              · rw[qb4 e,qb4 e,hag m (by omega)]]
            exact hk
        · refine qac.run tok hO (by cbv <;> rfl) (by trivial) ?_
          refine SW.cond (t:=true) (by cbv <;> rfl) ?_
          refine SW.qab tok hO (by cbv <;> rfl) (by trivial) ?_
          exact SW.ret ⟨_,_,rfl,rfl,.inr ⟨rfl,nums2,_,_,by rw[hG3];rfl,hk⟩⟩
end
end Go.Fz
namespace Go.Fz
set_option maxRecDepth 100000
section
variable {P:Program}{T:Ti}
def qm4 (P:Program)(T:Ti)(ops:Array Oper)(M:List Nat)(rd:Option Nat)(K:Fm→St→Prop)(fuel:Nat)(qag:List (Nat × AV))(listed:Array Bool)(f:Fm)(st:St):List Nat→Prop
  | []=>True
  | j::r=>qd9 P T ops M rd K fuel qag listed f st j∧qm4 P T ops M rd K fuel qag listed f st r
theorem qm4.ok {ops:Array Oper}{M:List Nat}{rd:Option Nat}{K:Fm→St→Prop}{fuel:Nat}{qag:List (Nat × AV)}{listed:Array Bool}{f:Fm}{st:St}:∀ {l:List Nat},qm4 P T ops M rd K fuel qag listed f st l→∀ j∈l,qd9 P T ops M rd K fuel qag listed f st j
  | [],_,j,h=>by cases h
  | _::_,h,j,hj=>by
    rcases List.mem_cons.1 hj with rfl | hj
    · exact h.1
    · exact h.2.ok j hj
theorem AnyE.many {ops:Array Oper}{M:List Nat}{rd:Option Nat}{K:Fm→St→Prop}{fuel:Nat}{qag:List (Nat × AV)}{listed:Array Bool}{f:Fm}{st:St}(rs:List Nat)(hr:Region.ready .any ops listed=rs)(hne:rs.isEmpty=false)
    (h:qm4 P T ops M rd K fuel qag listed f st rs):AnyE P T ops M rd K (fuel+1) qag listed f st:=fun hc hpl hpo=>by
  refine qda.all hpo hr (by intro e;rw[e] at hne;cases hne) fun k hk=>?_
  have hrm:k∈Region.ready .any ops listed:=by rw[hr];exact hk
  obtain⟨o,pend',hj,hd,h⟩:=h.ok k hk
  refine⟨o,hj,h.mono fun f' st' ⟨⟨v,hv⟩,hp,hE⟩=>⟨v,hv,?_⟩⟩
  rw[hd]
  exact hE (hc.set hrm) (fun p hp=>by
    rw[←hd] at hp
    exact getD_set_true (hpl p (List.mem_filter.1 hp).1)) hp
theorem qd9.callQ {ops:Array Oper}{M:List Nat}{rd:Option Nat}{K:Fm→St→Prop}{fuel:Nat}{qag pend':List (Nat × AV)}{listed:Array Bool}{f:Fm}{st:St}{j:Nat}{g:FuncId}{args:List AV}{r:AV}(hp:Pure P g args r)
    (hd:qbv M j qag=pend')(hc:callAt ops j f=some (g,args))(hk:qm5 (fun p=>lightV T ops st.h (putAt ops j f r) p.1=some p.2) pend')(h:AnyE P T ops M rd K fuel pend' (listed.setIfInBounds j true) (putAt ops j f r) st):qd9 P T ops M rd K fuel qag listed f st j:=by
  obtain⟨o',first,caps,az,ho',hw,hcc,ha,hput⟩:=qeu hc
  subst ha
  rw[hput] at hk h
  exact⟨o',pend',ho',hd,qac.pure hp ho' hw hcc (.nil ⟨⟨_,rfl⟩,(show qbj T ops pend' (f.put o'.dst r) st.h from fun p hpm=>LV.of (hk.ok p hpm)),h⟩)⟩
theorem qd9.qr3 {ops:Array Oper}{M:List Nat}{rd:Option Nat}{K:Fm→St→Prop}{fuel:Nat}{qag pend':List (Nat × AV)}{listed:Array Bool}{f:Fm}{st:St}{j:Nat}{g:FuncId}{args:List AV}{k:AV→St→Prop}(he:Enters P g)(hp:qax P g args st k)
    (hd:qbv M j qag=pend')(hc:callAt ops j f=some (g,args))(h:∀ r st',k r st'→qm5 (fun p=>lightV T ops st'.h (putAt ops j f r) p.1=some p.2) pend'∧AnyE P T ops M rd K fuel pend' (listed.setIfInBounds j true) (putAt ops j f r) st'):qd9 P T ops M rd K fuel qag listed f st j:=by
  obtain⟨o',first,caps,az,ho',hw,hcc,ha,hput⟩:=qeu hc
  subst ha
  refine⟨o',pend',ho',hd,qac.call ho' hw hcc (show ApplyW P (.fn (.func g) first caps) az st _ from⟨he,hp.mono fun v st' hk=>.nil ?_⟩)⟩
  obtain⟨h1,h2⟩:=h v st' hk
  rw[hput] at h1 h2
  exact⟨⟨_,rfl⟩,(show qbj T ops pend' (f.put o'.dst v) st'.h from fun p hpm=>LV.of (h1.ok p hpm)),h2⟩
def tabR:List (Nat × Nat)→Nat→Nat
  | [],j=>j
  | (a,b)::r,j=>match Nat.beq a j with
    | true=>b
    | false=>tabR r j
theorem qst {n:Nat}:∀ {l:List (Nat × Nat)},(l.all fun p=>Nat.ble n p.1)=true→∀ j,j<n→tabR l j=j
  | [],_,_,_=>rfl
  | (a,b)::r,h,j,hj=>by
    simp only [List.all_cons,Bool.and_eq_true] at h
    have:n≤a:=Nat.le_of_ble_eq_true h.1
    unfold tabR
    cases hb:Nat.beq a j with
    | true=>have:=Nat.eq_of_beq_eq_true hb;omega
    | false=>exact qst h.2 j hj
end
def bodyF (f:Func):Code:=match f.body with
  | some c=>c
  | none=>.skip
def restC:Nat→Code→Code
  | 0,c=>c
  | k+1,.seq _ y=>restC k y
  | _+1,c=>c
def nthC (k:Nat)(c:Code):Code:=match restC k c with
  | .seq x _=>x
  | c=>c
end Go.Fz
namespace Go.Fz
variable {P:Program}{T:Ti}
inductive RenX (ρ:Nat→Nat)(n:Nat):AObj→AObj→Prop
  | base {o2 o1:AObj}(h:qm3 ρ n o2 o1):RenX ρ n o2 o1
  | map {es:List (AV × AV × Nat)}{clock:Nat}(h:∀ x∈es,Below 0 x.1∧Below 0 x.2.1):RenX ρ n (.map es clock) (.map es clock)
theorem RenX.own {ρ:Nat→Nat}{n:Nat}{o2 o1:AObj}(h:RenX ρ n o2 o1):o2.own=o1.own:=by
  cases h with
  | base h=>exact h.own
  | map _=>rfl
theorem RenX.fam {ρ:Nat→Nat}{n:Nat}{o2 o1:AObj}(h:RenX ρ n o2 o1):o2.fam=none:=by
  cases h with
  | base h=>cases h <;> rfl
  | map _=>rfl
theorem qc9.renX {φ:Fi}{w:World}{ρ:Nat→Nat}{n id:Nat}{o2 o1:AObj}(h:RenX ρ n o2 o1)(ho:qc9 φ w (ρ id) o1):qc9 (qiw φ ρ n) w id o2:=by
  cases h with
  | base h=>exact ho.ren h
  | map h =>
    obtain⟨ces,h1,h2,h3⟩:=ho
    refine⟨ces,h1,h2,fun i x hx=>?_⟩
    obtain⟨e,k1,k2,k3,k4⟩:=h3 i x hx
    obtain⟨b1,b2⟩:=h x (List.mem_of_getElem? hx)
    exact⟨e,k1,qaf.closed b1 _ _ k2,qaf.closed b2 _ _ k3,k4⟩
structure qr8 (ρ:Nat→Nat)(st1 st2:St):Prop where
  obj:∀ id o,st2.h.get id=some o→id<st2.n∧∃ o1,st1.h.get (ρ id)=some o1∧RenX ρ st2.n o o1
  sep:∀ i j oi oj,st2.h.get i=some oi→st2.h.get j=some oj→i≠j→∀ pi pj,st1.h.get (ρ i)=some pi→st1.h.get (ρ j)=some pj→ρ i≠ρ j∧¬ qkm pi pj
theorem qr8.ok {ρ:Nat→Nat}{st1 st2:St}(hw:qr8 ρ st1 st2){φ:Fi}{w:World}(hr:Rel φ st1 w):Rel (qiw φ ρ st2.n) st2 w∧Fr φ st1 w (qiw φ ρ st2.n) st2 w:=by
  have hown:∀ k,qfv (qiw φ ρ st2.n) st2 k→qfv φ st1 k:=fun k ⟨id,o,h,ho,hb⟩=>by
    obtain⟨_,o1,h1,h2⟩:=hw.obj id o h
    exact⟨ρ id,o1,h1,by rw[←h2.own];exact ho,hb⟩
  refine⟨⟨rfl,fun id o h=>(hw.obj id o h).1,fun id o h=>?_,fun id o h=>?_,fun i j oi oj hi hj hij hio hb=>?_,fun id o f h hf=>?_,fun b c hb=>?_⟩,
    ⟨rfl,rfl,rfl,Nat.le_refl _,fun _ _ _=>rfl,fun k hk=>.inl (hown k hk),fun b c hb=>.inl hb⟩⟩
  · obtain⟨_,o1,h1,_⟩:=hw.obj id o h
    exact hr.blk _ _ h1
  · obtain⟨_,o1,h1,h2⟩:=hw.obj id o h
    exact(hr.obj _ _ h1).renX h2
  · exfalso
    obtain⟨_,pi,h1,h2⟩:=hw.obj i oi hi
    obtain⟨_,pj,h3,h4⟩:=hw.obj j oj hj
    obtain⟨k1,k2⟩:=hw.sep i j oi oj hi hj hij pi pj h1 h3
    exact k2 (hr.sep (ρ i) (ρ j) pi pj h1 h3 k1 (by rw[←h2.own];exact hio) hb).1
  · obtain⟨_,o1,h1,h2⟩:=hw.obj id o h
    rw[h2.fam] at hf;cases hf
  · obtain⟨h1,h2,h3⟩:=hr.qdk b c hb
    refine⟨h1,h2,fun id o h ho=>?_⟩
    obtain⟨_,o1,h4,h5⟩:=hw.obj id o h
    exact h3 _ _ h4 (by rw[←h5.own];exact ho)
def padF (φ:Fi)(f:Nat→Loc)(n:Nat):Fi:=⟨fun j=>if j<φ.n then φ.f j else f j,n,φ.z⟩
theorem qpy (φ:Fi)(f:Nat→Loc){n:Nat}(h:φ.n≤n):Ext φ (padF φ f n):=⟨h,fun id hid=>if_pos hid,fun _ _ hb=>hb⟩
theorem Rel.pad {φ:Fi}{st:St}{w:World}(hr:Rel φ st w)(f:Nat→Loc){n:Nat}(h:st.n≤n):Rel (padF φ f n) ⟨st.h,n⟩ w∧Fr φ st w (padF φ f n) ⟨st.h,n⟩ w:=by
  have he:=qpy φ f (n:=n) (by rw[hr.n];exact h)
  have hf:∀ id o,st.h.get id=some o→(padF φ f n).f id=φ.f id:=fun id o ho=>he.f id (by rw[hr.n];exact hr.lt id o ho)
  refine⟨⟨rfl,fun id o ho=>Nat.lt_of_lt_of_le (hr.lt id o ho) h,fun id o ho=>by rw[hf id o ho];exact hr.blk id o ho,fun id o ho=>(hr.obj id o ho).same he (by rw[hr.n];exact hr.lt id o ho) rfl,fun i j oi oj hi hj hij hio hb=>?_,fun id o g ho hg=>Nat.lt_of_lt_of_le (hr.fam id o g ho hg) h,fun b c hb=>?_⟩,
    ⟨rfl,rfl,rfl,Nat.le_refl _,fun _ _ _=>rfl,fun k ⟨id,o,ho,hown,hb⟩=>.inl ⟨id,o,ho,hown,by rw[←hf id o ho];exact hb⟩,fun b c hb=>.inl hb⟩⟩
  · rw[hf i oi hi,hf j oj hj] at *
    exact hr.sep i j oi oj hi hj hij hio hb
  · obtain⟨h1,h2,h3⟩:=hr.qdk b c hb
    exact⟨h1,h2,fun id o ho hown=>by rw[hf id o ho];exact h3 id o ho hown⟩
structure Back (ρ:Nat→Nat)(st1 st2:St)(k:AV→St→Prop)(v:AV)(st2':St):Prop where
  ex:∃ st1' σ,k v st1'∧Below 0 v∧st1.n≤st1'.n∧qr8 σ ⟨st2'.h,st2'.n+st1'.n⟩ st1'∧∀ id,id<st1.n→(σ id=id∧ρ id=id∧id<st2.n)∨σ id=st2'.n+id
theorem qbn.canon {φ:Fi}{st1 st2:St}{w:World}{ρ:Nat→Nat}(hr:Rel φ st1 w)(hw:qr8 ρ st1 st2){k2 k:AV→St→Prop}{e:Ending}{w':World}(h:qbn (qiw φ ρ st2.n) st2 w k2 e w')(hk:∀ v st2',k2 v st2'→Back ρ st1 st2 k v st2'):qbn φ st1 w k e w':=by
  obtain⟨v,cv,st2',φ2,rfl,hkv,hv,he,hr2,hf⟩:=h
  obtain⟨st1',σ,hk1,hbv,hn,hx,hσ⟩:=(hk v st2' hkv).ex
  obtain⟨p1,p2⟩:=hr2.pad (fun j=>φ.f (j - st2'.n)) (n:=st2'.n+st1'.n) (Nat.le_add_right _ _)
  obtain⟨q1,q2⟩:=hx.ok p1
  obtain⟨_,z2⟩:=hw.ok hr
  have hn2:φ2.n=st2'.n:=hr2.n
  refine⟨v,cv,st1',qiw (padF φ2 (fun j=>φ.f (j - st2'.n)) (st2'.n+st1'.n)) σ st1'.n,rfl,hk1,?_,⟨?_,fun id hid=>?_,fun b c hb=>he.z b c hb⟩,q1,(z2.trans hf).trans (p2.trans q2)⟩
  · exact VR.mono (φ:=⟨φ2.f,0,φ2.z⟩) (φ':=qiw (padF φ2 (fun j=>φ.f (j - st2'.n)) (st2'.n+st1'.n)) σ st1'.n) ⟨Nat.zero_le _,fun id hid=>absurd hid (Nat.not_lt_zero id),fun b c hb=>hb⟩ (hbv φ2 cv hv)
  · show φ.n≤st1'.n
    rw[hr.n];exact hn
  · show(if σ id<φ2.n then φ2.f (σ id) else φ.f (σ id - st2'.n))=φ.f id
    rcases hσ id (by rw[←hr.n];exact hid) with ⟨h1,h2,h3⟩ | h1
    · rw[h1]
      have hlt:id<φ2.n:=Nat.lt_of_lt_of_le h3 he.n
      rw[if_pos hlt,he.f id h3]
      show φ.f (ρ id)=φ.f id
      rw[h2]
    · rw[h1]
      rw[if_neg (by omega),Nat.add_sub_cancel_left]
theorem qbb.canon {y:Nat}{args:List AV}{st1 st2:St}{ρ:Nat→Nat}(hy:ρ y=y)(hy2:y<st2.n)(hargs:∀ a∈args,Below 0 a)(hw:qr8 ρ st1 st2){k2 k:AV→St→Prop}(h:qbb P y args st2 k2)
    (hk:∀ v st2',k2 v st2'→Back ρ st1 st2 k v st2'):qbb P y args st1 k:=fun φ w cargs n hr _ ha=>by
  obtain⟨r1,_⟩:=hw.ok hr
  have ha':VRL (qiw φ ρ st2.n) args cargs:=VRL.mono (φ:=⟨φ.f,0,φ.z⟩) (φ':=qiw φ ρ st2.n) ⟨Nat.zero_le _,fun id hid=>absurd hid (Nat.not_lt_zero id),fun b c hb=>hb⟩ (Below.list hargs ha)
  obtain⟨fn,tmps,assign,body,h4,h5⟩:=h _ w cargs n r1 hy2 ha'
  have e:(qiw φ ρ st2.n).f y=φ.f y:=by show φ.f (ρ y)=φ.f y;rw[hy]
  rw[e] at h4 h5
  exact⟨fn,tmps,assign,body,h4,h5.mono fun _ _ hc=>hc.canon hr hw hk⟩
theorem qax.pad {g:FuncId}{args:List AV}{st:St}{n:Nat}{k:AV→St→Prop}(hn:st.n≤n)(h:qax P g args ⟨st.h,n⟩ k):qax P g args st k:=fun φ w cargs m hr ha=>by
  obtain⟨p1,p2⟩:=hr.pad φ.f hn
  have he:=qpy φ φ.f (n:=n) (by rw[hr.n];exact hn)
  refine(h _ w cargs m p1 (ha.mono he)).mono fun e w' hp=>?_
  obtain⟨v,cv,st',φ',rfl,hk,hv,he',hr',hf⟩:=hp
  exact⟨v,cv,st',φ',rfl,hk,hv,he.trans he',hr',p2.trans hf⟩
end Go.Fz
