/- Own work of the verifier of watercress: FzC4, FzC6, FzC7, FzC8, FzC9, FzC10, FzC11, FzC12, FzC13, FzC14, FzC15, FzC16, FzD1. -/
import Derived.Maps.Keyed
import Derived.Maps.RangeRun
import Derived.DeepKeys4
import Derived.Test.YtpefamheopplnaaMc32
import Derived.Test.YtpefamheopplnaaMc28
import Derived.Test.YtpefamheopplnaaMc27
set_option linter.unusedVariables false
set_option linter.unusedSimpArgs false
namespace Go.Fz
variable {P:Program}{T:Ti}
theorem Gx {φ:Fi}{st:St}{w:World}(hr:Rel φ st w){id:Nat}{o o':AObj}(ho:st.h.get id=some o)(hown:o.own=true)(hfam:o.fam=none)(hfam':o'.fam=none)(co:Obj)(hobj:∀ w':World,w'.heap[(φ.f id).b]?=some co→Cx φ w' id o') :
  Rel φ ⟨st.h.set id o',st.n⟩ { w with heap:=w.heap.setIfInBounds (φ.f id).b co}∧Fr φ st w φ ⟨st.h.set id o',st.n⟩ { w with heap:=w.heap.setIfInBounds (φ.f id).b co}:=by
 have hb:=hr.blk id o ho
 refine hr.Sq ho hown hfam hfam' rfl rfl rfl (by simp) (fun k hk=>?_) (hobj _ ?_)
 ·rw[Array.getElem?_setIfInBounds_ne (Ne.symm hk)]
 ·simp[hb]
def mapD (T:Ti)(t:TypeId):Option TypeId:=match T t with
 | some i=>match i.desc with
  | .map k _=>some k
  | _=>none
 | none=>none
theorem Pq (hT:TOk P T){t k:TypeId}(h:mapD T t=some k):∃ e,P.underlying t=some (.map k e):=by
 unfold mapD at h
 split at h
 ·rename_i i hi
  split at h
  ·rename_i k' e hd
   cases h
   exact⟨e,by rw[←hd];exact(hT t i hi).und⟩
  ·cases h
 ·cases h
structure rK (P:Program)(kt:TypeId){β:Type}(V:β→AV) where
 den:β→Value
 val:∀ (φ:Fi)(b:β)(u:Value),VR φ (V b) u→u=den b
 key:∀ b,∃ l,keyOf P kt (den b)=some l
 inj:∀ b c,den b=den c→b=c
def Bp {β:Type}(V:β→AV)(E:List (β × Nat)):List (AV × AV × Nat):=E.map fun p=>(V p.1,.lit (.bool true),p.2)
def Gv {β:Type} [DecidableEq β] (E:List (β × Nat))(b:β)(clock:Nat):List (β × Nat):=if b∈E.map (·.1) then E else E++[(b,clock)]
def Nz {β:Type} [DecidableEq β] (E:List (β × Nat))(b:β)(clock:Nat):Nat:=if b∈E.map (·.1) then clock else clock+1
theorem iP {hT:TOk P T}{φ:Fi}{st:St}{w:World}{t kt:TypeId}{β:Type} [DecidableEq β] {V:β→AV}(K:Maps.Keyed P kt)(F:rK P kt V){b:β}{u ku vu:Value}{id clock:Nat}{E:List (β × Nat)}(hr:Rel φ st w)(ha:VR φ (.mp id) u)(hku:VR φ (V b) ku)(hvu:VR φ (.lit (.bool true)) vu)
  (hd:mapD T t=some kt)(hm:st.h.get id=some (.map (Bp V E) clock)) :
  ∃ w',(Instr.mapUpdate t u ku vu).run P w=.ok () w'∧Rel φ ⟨st.h.set id (.map (Bp V (Gv E b clock)) (Nz E b clock)),st.n⟩ w'∧Fr φ st w φ ⟨st.h.set id (.map (Bp V (Gv E b clock)) (Nz E b clock)),st.n⟩ w':=by
 obtain⟨e,hu⟩:=Pq hT hd
 obtain⟨rfl,hid⟩:=ha.Ml
 obtain rfl:=hvu.Au
 obtain rfl:=F.val φ b ku hku
 obtain⟨lx,hlx⟩:=F.key b
 obtain⟨ces,hb,hsz,hes⟩:=hr.obj id _ hm
 have hlen:(Bp V E).length=E.length:=by simp[Bp]
 rw[hlen] at hsz
 have hent:∀ (i:Nat)(p:β × Nat),E[i]?=some p→∃ e,ces[i]?=some e∧e.key=F.den p.1∧e.val=.bool true∧e.born=p.2:=fun i p hp=>by
  obtain⟨e,h1,h2,h3,h4⟩:=hes i (V p.1,.lit (.bool true),p.2) (by simp[Bp,hp])
  exact⟨e,h1,F.val φ p.1 _ h2,h3.Au,h4⟩
 have hall:∀ e∈ces.toList,∃ p,p∈E∧e.key=F.den p.1:=fun e he=>by
  obtain⟨i,hi,he2⟩:=List.getElem_of_mem he
  have hil:i<E.length:=by rw[←hsz];simpa using hi
  obtain⟨e',h1,h2,_⟩:=hent i E[i] (List.getElem?_eq_getElem hil)
  have:e'=e:=by
   rw[←Array.getElem?_toList,List.getElem?_eq_getElem hi,he2] at h1
   exact(Option.some.inj h1).symm
  subst this
  exact⟨E[i],List.getElem_mem hil,h2⟩
 have hfind:=K.find w hlx ces.toList fun e he=>by
  obtain⟨p,_,h2⟩:=hall e he
  rw[h2];exact F.key p.1
 have hcheck:=K.check w false hlx
 rcases hfind with ⟨hrun,hne⟩|⟨j,e0,hrun,hj,hje⟩
 ·have hnot:b∉E.map (·.1):=fun hin=>by
   obtain⟨p,hp,hpb⟩:=List.mem_map.1 hin
   obtain⟨i,hi,rfl⟩:=List.getElem_of_mem hp
   obtain⟨e,h1,h2,_⟩:=hent i E[i] (List.getElem?_eq_getElem hi)
   rw[←Array.getElem?_toList] at h1
   exact hne e (List.mem_of_getElem? h1) (by rw[h2,hpb])
  have e1:Gv E b clock=E++[(b,clock)]:=if_neg hnot
  have e2:Nz E b clock=clock+1:=if_neg hnot
  rw[e1,e2]
  have:=Gx (o':=.map (Bp V (E++[(b,clock)])) (clock+1)) hr hm rfl rfl rfl (.map (ces.push { key:=F.den b,val:=.bool true,born:=clock}) (clock+1)) (fun w' hw'=>⟨_,hw',by simp[hsz,Bp],fun i x hx=>by
   by_cases hi:i<E.length
   ·have hx2:(Bp V E)[i]?=some x:=by
     simp only [Bp,List.map_append] at hx ⊢
     rwa [List.getElem?_append_left (by simpa using hi)] at hx
    obtain⟨e,k1,k2⟩:=hes i x hx2
    exact⟨e,by rw[Array.getElem?_push_lt (by omega),←k1,Array.getElem?_eq_getElem (by omega)],k2⟩
   ·have hie:i=E.length:=by
     have:i<(Bp V (E++[(b,clock)])).length:=(List.getElem?_eq_some_iff.1 hx).1
     simp[Bp] at this;omega
    subst hie
    have hxx:x=(V b,.lit (.bool true),clock):=by
     simp[Bp] at hx;exact hx.symm
    subst hxx
    exact⟨{ key:=F.den b,val:=.bool true,born:=clock},by rw[←hsz];simp,hku,.lit _,rfl⟩⟩)
  refine⟨_,?_,this.1,this.2⟩
  simp[Instr.mapUpdate,run_underlying hu,MapKept.run_getObj_map hb,hcheck,hrun,MapKept.run_setObj_map _ hb,Result.andThen]
 ·have hjl:j<E.length:=by
   have:j<ces.toList.length:=(List.getElem?_eq_some_iff.1 hj).1
   rw[←hsz];simpa using this
  have hjc:ces[j]?=some e0:=by rw[←Array.getElem?_toList];exact hj
  obtain⟨e',k1,k2,k3,k4⟩:=hent j E[j] (List.getElem?_eq_getElem hjl)
  have hee:e'=e0:=by rw[hjc] at k1;exact(Option.some.inj k1).symm
  subst hee
  have hin:b∈E.map (·.1):=List.mem_map.2 ⟨E[j],List.getElem_mem hjl,F.inj _ _ (by rw[←k2,hje])⟩
  have e1:Gv E b clock=E:=if_pos hin
  have e2:Nz E b clock=clock:=if_pos hin
  rw[e1,e2]
  have:=Gx (o':=.map (Bp V E) clock) hr hm rfl rfl rfl (.map (ces.modify j fun e=>{ e with key:=F.den b,val:=.bool true}) clock) (fun w' hw'=>⟨_,hw',by simp[hsz,hlen],fun i x hx=>by
   by_cases hi:i=j
   ·subst hi
    obtain⟨e,q1,q2,q3,q4⟩:=hes i x hx
    have:e=e':=by rw[hjc] at q1;exact(Option.some.inj q1).symm
    subst this
    refine⟨{ e with key:=F.den b,val:=.bool true},by simp[Array.getElem?_modify,hjc],?_,?_,q4⟩
    ·show VR φ x.1 (F.den b)
     rw[←hje];exact q2
    ·show VR φ x.2.1 (.bool true)
     rw[←k3];exact q3
   ·obtain⟨e,q1,q2⟩:=hes i x hx
    exact⟨e,by simp[Array.getElem?_modify,Ne.symm hi,q1],q2⟩⟩)
  refine⟨_,?_,this.1,this.2⟩
  have hstay:=K.stays w hlx
  simp[Instr.mapUpdate,run_underlying hu,MapKept.run_getObj_map hb,hcheck,hrun,hjc,hje,hstay,MapKept.run_setObj_map _ hb,Result.andThen]
def updAt (ops:Array Oper)(i:Nat)(f:Fm):Option (TypeId × AV × AV × AV):=match ops[i]? with
 | none=>none
 | some o=>match wantA ops f.ts o with
  | some true=>match o.op with
   | .mapUpdate t m k v=>some (t,Operand.av f.ts m,Operand.av f.ts k,Operand.av f.ts v)
   | _=>none
  | _=>none
theorem Ac.dD (hT:TOk P T){rd:Option Nat}{ops:Array Oper}{L:Fm→St→Prop}{f:Fm}{st:St}{i:Nat}{l:List Nat}{t kt:TypeId}{β:Type} [DecidableEq β] {V:β→AV}(K:Maps.Keyed P kt)(F:rK P kt V){b:β}{id clock:Nat}{E:List (β × Nat)}
  (hx:updAt ops i f=some (t,.mp id,V b,.lit (.bool true)))(hd:mapD T t=some kt)(hm:st.h.get id=some (.map (Bp V E) clock))
  (h:Ac P rd ops l L (putAt ops i f Bx) ⟨st.h.set id (.map (Bp V (Gv E b clock)) (Nz E b clock)),st.n⟩):Ac P rd ops (i::l) L f st:=by
 unfold updAt at hx
 split at hx
 ·cases hx
 ·rename_i o ho
  split at hx
  ·rename_i hw
   split at hx
   ·rename_i t' m k v hop
    simp only [Option.some.injEq,Prod.mk.injEq] at hx
    obtain⟨rfl,e2,e3,e4⟩:=hx
    have hput:∀ v,putAt ops i f v=f.put o.dst v:=fun v=>by simp[putAt,ho]
    rw[hput] at h
    refine Ac.value ho hw (fun c hc=>by rw[hop] at hc;cases hc) (fun φ w a h2 h3=>?_) h
    have hρ:=Bm h3.ts
    have a1:=hρ m
    have a2:=hρ k
    have a3:=hρ v
    rw[e2] at a1;rw[e3] at a2;rw[e4] at a3
    obtain⟨w',k2,k3,k4⟩:=iP (hT:=hT) K F h2 a1 a2 a3 hd hm
    exact⟨φ,w',undef,.inr ⟨by simp[execOp,hop,k2,Result.andThen],rfl⟩,.lit _,k3,Ext.refl _,k4⟩
   ·cases hx
  ·cases hx
end Go.Fz
namespace Go.Fz
open Go.Proofs
set_option maxRecDepth 100000
abbrev Mk:=Bool × Bool × Bool × Bool × Bool
def mkV (b:Mk):AV:=.agg [.sb b.1,.sb b.2.1,.sb b.2.2.1,.sb b.2.2.2.1,.sb b.2.2.2.2]
theorem Gy {a b:Nat}(h:Nat.ble (a+1) b=true):a<b:=Nat.le_of_ble_eq_true h
theorem laid:laidOutB Try.prog=true:=by kernel_rfl
theorem fS:Maps.Keyed Try.prog 145:=Maps.Keyed.of_law (deep_law_laid (m:=3) laid (by omega) (Gy (by kernel_rfl)) (by kernel_rfl) (by kernel_rfl))
def mkKey:rK Try.prog 145 mkV where
 den b:=.agg #[.bool b.1,.bool b.2.1,.bool b.2.2.1,.bool b.2.2.2.1,.bool b.2.2.2.2]
 val φ b u h:=by
  obtain⟨us,rfl,h1⟩:=h.Bz
  match us,h1 with
  | [_,_,_,_,_],.cons h1 (.cons h2 (.cons h3 (.cons h4 (.cons h5 .nil)))) =>
   rw[h1.Mf,h2.Mf,h3.Mf,h4.Mf,h5.Mf]
 key b:=by
  obtain⟨b0,b1,b2,b3,b4⟩:=b
  cases b0<;>cases b1<;>cases b2<;>cases b3<;>cases b4<;>exact Option.isSome_iff_exists.1 (by kernel_rfl)
 inj b c h:=by
  obtain⟨b0,b1,b2,b3,b4⟩:=b
  obtain⟨c0,c1,c2,c3,c4⟩:=c
  simp at h
  simp[h]
end Go.Fz
namespace Go.Fz
open Go.Proofs
set_option maxRecDepth 100000
def Cp (d:Ah)(f:Nat→Int):Ks:=⟨d.nw,false,f,d.nl,false,fun i=>f (d.nw+i)⟩
def Dc (d:Ah)(f:Nat→Int):Mk:=(wrM (d.Jr (d.Bn (Cp d f))) d.nc 0,wrM (d.Jr (d.Bn (Cp d f))) d.nc 1,wrM (d.Jr (d.Bn (Cp d f))) d.nc 2,wrM (d.Jr (d.Bn (Cp d f))) d.nc 3,wrM (d.Jr (d.Bn (Cp d f))) d.nc 4)
def Li:Mk:=(false,false,false,false,false)
structure Pr where
 E:List (Mk × Nat)
 cl:Nat
 outs:List (Nat→Int)
def Pr.next (d:Ah)(a:Pr)(f:Nat→Int):Pr:=⟨Gv a.E (Dc d f) a.cl,Nz a.E (Dc d f) a.cl,if Dc d f=Li then a.outs++[f] else a.outs⟩
def outcC (d:Ah)(f:Nat→Int)(k:Nat):AV:=match k with
 | 0=>Ak d.nw false f
 | 1=>Ak d.nl false (fun i=>f (d.nw+i))
 | 2=>Ak d.nw false (d.bun (Cp d f))
 | 3=>Ak d.nw false (d.lef (Cp d f))
 | 4=>iV (d.Bn (Cp d f)).hands
 | 5=>iV (d.Bn (Cp d f)).loose
 | 6=>iV (d.Bn (Cp d f)).flats
 | _=>iV (d.Bn (Cp d f)).spare
def Jd (d:Ah)(l:List (Nat→Int))(i k:Nat):AV:=outcC d (l.getD i (fun _=>0)) k
theorem Tm (d:Ah)(l:List (Nat→Int))(i k:Nat):Below 0 (Jd d l i k):=by
 unfold Jd outcC
 split<;>first|exact Ap _ _ _|exact Below.lit
def Nk (d:Ah)(l:List (Nat→Int)):List AV:=flatG 8 (Jd d l) l.length
theorem iH (d:Ah)(l:List (Nat→Int))(f:Nat→Int):Nk d (l++[f])=Nk d l++[outcC d f 0,outcC d f 1,outcC d f 2,outcC d f 3,outcC d f 4,outcC d f 5,outcC d f 6,outcC d f 7]:=by
 unfold Nk
 rw[List.length_append,List.length_singleton]
 show flatG 8 (Jd d (l++[f])) l.length++cellsFrom (Jd d (l++[f]) l.length) 0 8=_
 rw[show flatG 8 (Jd d (l++[f])) l.length=flatG 8 (Jd d l) l.length from Fk fun i k hi=>by unfold Jd;rw[List.getD_eq_getElem?_getD,List.getElem?_append_left hi,←List.getD_eq_getElem?_getD]]
 have:Jd d (l++[f]) l.length=outcC d f:=funext fun k=>by unfold Jd;simp
 rw[this];rfl
theorem Zp (d:Ah)(l:List (Nat→Int)):(Nk d l).length=l.length*8:=Aq _ _ _
def stZ:List AV:=[iV 0,iV 0,nl3,nl3,nl3,nl3,.lit (.map none)]
def stW (d:Ah)(XO:AV):List AV:=[iV d.hand,iV d.flat,Dj d,Dx d,Eo d,XO,.mp 2]
noncomputable def stParts:Code × Code:=match nthC 2 (bodyF Try.f76) with
 | .seq _ (.block _ (.rangeFunc _ _ a b))=>(a,b)
 | c=>(c,c)
def gT:Ts:=⟨34,getT [(1,.ptr 0 0),(2,.ptr 1 0),(3,.ptr 3 0),(11,.fn (.func 122) [] [.ptr 4 0])]⟩
noncomputable def stR:Cs:={ state:=.ready,pending:=none,tmps:=gT,params:=#[12],assign:=stParts.1,body:=stParts.2,dfid:=5}
def outsV (q:Nat):Nat→AV
 | 0=>nl3
 | n+1=>.sl q 0 (n+1) 8 false
def outsH (d:Ah)(q:Nat):List (Nat→Int)→Hp
 | []=>[]
 | f::l=>[(q,.cells none false (Nk d (f::l)))]
noncomputable def stH (d:Ah)(XO:AV)(ME:List (AV × AV × Nat))(cl:Nat)(OB:Hp):Hp:=chB d (.loop stR) ([(3,.cells none false (stW d XO)),(2,.map ME cl),(1,.cells none false stZ),(0,.cells none false (Ex d))]++OB)
def stK (d:Ah)(a:Pr)(v:AV)(st':St):Prop:=v=.lit (.bool true)∧∃ (m n2:Nat)(G:List AV)(fm:Option Nat)(h:Hp),st'=⟨h,n2⟩∧8≤n2 ∧
 h.get 6=some (.loop stR)∧h.get 5=some .dfr∧h.get 4=some (.cells none false (Ex d))∧h.get 3=some (.cells none false (stW d (outsV m a.outs.length)))∧h.get 2=some (.map (Bp mkV a.E) a.cl)∧h.get 1=some (.cells none false stZ)∧h.get 0=some (.cells none false (Ex d)) ∧
 (a.outs=[]∨(7≤m∧m<n2∧h.get m=some (.cells fm false G)∧G=Nk d a.outs))
theorem Vs {d:Ah}{f:Nat→Int}(h:∀ m,m<d.nw+d.nl→d.ulo m≤f m∧f m≤d.uhi m):d.fits (Cp d f)=true:=by
 unfold Ah.fits
 have e1:∀ i,i<d.nw→inB (f i) (d.wlo i) (d.whi i)=true:=fun i hi=>by
  have:=h i (by omega)
  simp only [Ah.ulo,Ah.uhi,hi,if_true] at this
  simp only [inB,Bool.and_eq_true,decide_eq_true_eq];exact this
 have e2:∀ i,i<d.nl→inB (f (d.nw+i)) (d.llo i) (d.lhi i)=true:=fun i hi=>by
  have:=h (d.nw+i) (by omega)
  have hn:¬ d.nw+i<d.nw:=by omega
  simp only [Ah.ulo,Ah.uhi,hn,if_false,Nat.add_sub_cancel_left] at this
  simp only [inB,Bool.and_eq_true,decide_eq_true_eq];exact this
 show(decide (d.nw=d.nw)&&decide (d.nl=d.nl)&&Dh d.nw (fun i=>inB (f i) (d.wlo i) (d.whi i))&&Dh d.nl (fun i=>inB (f (d.nw+i)) (d.llo i) (d.lhi i)))=true
 rw[Ih e1,Ih e2];simp
set_option maxHeartbeats 16000000 in
theorem kM (d:Ah)(gd:d.Good)(f:Nat→Int)(hf:∀ m,m<d.nw+d.nl→d.ulo m≤f m∧f m≤d.uhi m)(a:Pr)(hlen:a.outs.length<100000) :
  Bj Try.prog 6 [Wu f d.nw d.nl] ⟨stH d (outsV 7 a.outs.length) (Bp mkV a.E) a.cl (outsH d 7 a.outs),8⟩ (stK d (a.next d f)):=by
 obtain⟨O,hO⟩:∃ O:Ar,O=std:=⟨_,rfl⟩
 have htal:=gQ gd (Vs hf)
 have hwr:=cD d (d.Bn (Cp d f)) gd.nc (fun i hi=>⟨(gd.cnt i hi).1.1,(gd.cnt i hi).1.2,(gd.cnt i hi).2.1.1,(gd.cnt i hi).2.1.2⟩)
 obtain⟨E,cl,outs⟩:=a
 have hW:Pure Try.prog 83 [Di d,Ke (d.Bn (Cp d f))] (mkV (Dc d f)):=hwr
 have hnext:Pr.next d ⟨E,cl,outs⟩ f=⟨Gv E (Dc d f) cl,Nz E (Dc d f) cl,if Dc d f=Li then outs++[f] else outs⟩:=rfl
 rw[hnext]
 have ho0:outcC d f 0=Ak d.nw false f:=rfl
 have hcell:[Ak d.nw false f,Ak d.nl false (fun i=>f (d.nw+i)),Ak d.nw false (d.Bn (Cp d f)).bun,Ak d.nw false (d.Bn (Cp d f)).lef,iV (d.Bn (Cp d f)).hands,iV (d.Bn (Cp d f)).loose,iV (d.Bn (Cp d f)).flats,iV (d.Bn (Cp d f)).spare]=[outcC d f 0,outcC d f 1,outcC d f 2,outcC d f 3,outcC d f 4,outcC d f 5,outcC d f 6,outcC d f 7]:=rfl
 have hsn:=iH d outs f
 rw[←hcell] at hsn
 have htal':Pure Try.prog 84 [Di d,kH (Cp d f)] (.agg [Ak d.nw false (d.Bn (Cp d f)).bun,Ak d.nw false (d.Bn (Cp d f)).lef,iV (d.Bn (Cp d f)).hands,iV (d.Bn (Cp d f)).loose,iV (d.Bn (Cp d f)).flats,iV (d.Bn (Cp d f)).spare]):=htal
 have hW':Pure Try.prog 83 [Di d,.agg [Ak d.nw false (d.Bn (Cp d f)).bun,Ak d.nw false (d.Bn (Cp d f)).lef,iV (d.Bn (Cp d f)).hands,iV (d.Bn (Cp d f)).loose,iV (d.Bn (Cp d f)).flats,iV (d.Bn (Cp d f)).spare]] (mkV (Dc d f)):=hW
 generalize Dc d f=W at hW' ⊢
 clear hW hwr htal hcell ho0 hnext
 generalize (d.Bn (Cp d f)).bun=BU at htal' hW' hsn
 generalize (d.Bn (Cp d f)).lef=LE at htal' hW' hsn
 generalize (d.Bn (Cp d f)).hands=HA at htal' hW' hsn
 generalize (d.Bn (Cp d f)).loose=LO at htal' hW' hsn
 generalize (d.Bn (Cp d f)).flats=FL at htal' hW' hsn
 generalize (d.Bn (Cp d f)).spare=SP at htal' hW' hsn
 obtain⟨ME,hME⟩:∃ ME,Bp mkV E=ME:=⟨_,rfl⟩
 obtain⟨M2,hM2⟩:∃ M,Bp mkV (Gv E W cl)=M:=⟨_,rfl⟩
 obtain⟨c2,hc2⟩:∃ c,Nz E W cl=c:=⟨_,rfl⟩
 obtain⟨w0,w1,w2,w3,w4⟩:=W
 simp only at hlen ⊢
 rw[hME]
 cases outs with
 | nil =>
  refine Bj.Fg (r:=stR) rfl rfl ?_
  refine SW.run tok hO (by cbv<;>rfl) (by trivial) ?_
  refine⟨stR,rfl,rfl,SW.block ?_⟩
  obtain⟨RB,hRB⟩:∃ r,r=({ stR with state:=.busy}:Cs):=⟨_,rfl⟩
  rw[←hRB]
  refine SW.Ab tok hO (by cbv<;>rfl) (by trivial) ?_
  refine Ac.Al htal' (by cbv<;>rfl) ?_
  refine Ac.run tok hO (by cbv<;>rfl) (by trivial) ?_
  refine SW.Ab tok hO (by cbv<;>rfl) (by trivial) ?_
  refine Ac.Al hW' (by cbv<;>rfl) ?_
  refine Ac.run tok hO (by cbv<;>rfl) (by trivial) ?_
  refine SW.seq (SW.runN tok hO 3 (by cbv<;>rfl) (by trivial) ?_)
  refine Ac.dD tok fS mkKey (b:=(w0,w1,w2,w3,w4)) (id:=2) (E:=E) (clock:=cl) (by cbv<;>rfl) (by kernel_rfl) (by rw[hME];rfl) ?_
  rw[hM2,hc2]
  refine Ac.nil ?_
  refine SW.Ab tok hO (by cbv<;>rfl) (by trivial) ?_
  refine SW.Bd (by cbv<;>rfl) (fun h1=>?_) (fun h1=>SW.skip ?_)
  ·have hWn:((w0,w1,w2,w3,w4):Mk)=Li:=by
    subst hO;simp[std] at h1;simp[Li,h1]
   rw[if_pos hWn]
   refine SW.runN tok hO 6 (by cbv<;>rfl) (by trivial) ?_
   refine Ac.Gr tok (by cbv<;>rfl) (by rfl) (by kernel_rfl) (by rfl) (by rfl) ?_
   refine Ac.run tok hO (by cbv<;>rfl) (by trivial) ?_
   refine⟨_,rfl,rfl,12,13,_,none,_,rfl,by omega,by subst hRB;rfl,rfl,rfl,rfl,by show _=some (AObj.map (Bp mkV (Gv E (w0,w1,w2,w3,w4) cl)) c2);rw[hM2];rfl,rfl,rfl,.inr ⟨by omega,by omega,rfl,hsn.symm⟩⟩
  ·have hWn:((w0,w1,w2,w3,w4):Mk)≠Li:=by
    intro hq;simp[Li] at hq;subst hO;simp[std,hq] at h1
   rw[if_neg hWn]
   refine⟨_,rfl,rfl,7,11,[],none,_,rfl,by omega,by subst hRB;rfl,rfl,rfl,rfl,by show _=some (AObj.map (Bp mkV (Gv E (w0,w1,w2,w3,w4) cl)) c2);rw[hM2];rfl,rfl,rfl,.inl rfl⟩
 | cons f0 l =>
  obtain⟨G1,hG1⟩:∃ G,Nk d (f0::l)=G:=⟨_,rfl⟩
  have hH:outsH d 7 (f0::l)=[(7,.cells none false G1)]:=by rw[←hG1];rfl
  obtain⟨LL,hLL⟩:∃ n,l.length=n:=⟨_,rfl⟩
  have hV:outsV 7 (f0::l).length=.sl 7 0 (LL+1) 8 false:=by rw[←hLL];rfl
  have hGf:G1=flatG 8 (Jd d (f0::l)) (LL+1):=by rw[←hG1,←hLL];rfl
  have hlen':LL+1<100000:=by rw[←hLL];exact hlen
  rw[hH,hV]
  rw[hG1] at hsn
  refine Bj.Fg (r:=stR) rfl rfl ?_
  refine SW.run tok hO (by cbv<;>rfl) (by trivial) ?_
  refine⟨stR,rfl,rfl,SW.block ?_⟩
  obtain⟨RB,hRB⟩:∃ r,r=({ stR with state:=.busy}:Cs):=⟨_,rfl⟩
  rw[←hRB]
  refine SW.Ab tok hO (by cbv<;>rfl) (by trivial) ?_
  refine Ac.Al htal' (by cbv<;>rfl) ?_
  refine Ac.run tok hO (by cbv<;>rfl) (by trivial) ?_
  refine SW.Ab tok hO (by cbv<;>rfl) (by trivial) ?_
  refine Ac.Al hW' (by cbv<;>rfl) ?_
  refine Ac.run tok hO (by cbv<;>rfl) (by trivial) ?_
  refine SW.seq (SW.runN tok hO 3 (by cbv<;>rfl) (by trivial) ?_)
  refine Ac.dD tok fS mkKey (b:=(w0,w1,w2,w3,w4)) (id:=2) (E:=E) (clock:=cl) (by cbv<;>rfl) (by kernel_rfl) (by rw[hME];rfl) ?_
  rw[hM2,hc2]
  refine Ac.nil ?_
  refine SW.Ab tok hO (by cbv<;>rfl) (by trivial) ?_
  refine SW.Bd (by cbv<;>rfl) (fun h1=>?_) (fun h1=>SW.skip ?_)
  ·have hWn:((w0,w1,w2,w3,w4):Mk)=Li:=by
    subst hO;simp[std] at h1;simp[Li,h1]
   rw[if_pos hWn]
   refine SW.runN tok hO 6 (by cbv<;>rfl) (by trivial) ?_
   refine Ac.Gi (g:=Jd d (f0::l)) (len:=LL+1) tok (by cbv<;>rfl) (by rfl) (by rfl) hGf (by kernel_rfl) (by rfl) (by rfl) (by omega) fun G2 hG2=>?_
   refine Ac.run tok hO (by cbv<;>rfl) (by trivial) ?_
   refine⟨_,rfl,rfl,12,13,_,(some 7),_,rfl,by omega,by subst hRB;rfl,rfl,rfl,by show _=some (AObj.cells none false (stW d (outsV 12 ((f0::l)++[f]).length)));rw[show((f0::l)++[f]).length=LL+1+1 by simp[hLL]];rfl,by show _=some (AObj.map (Bp mkV (Gv E (w0,w1,w2,w3,w4) cl)) c2);rw[hM2];rfl,rfl,rfl,.inr ⟨by omega,by omega,rfl,by rw[hG2,←hGf];exact hsn.symm⟩⟩
  ·have hWn:((w0,w1,w2,w3,w4):Mk)≠Li:=by
    intro hq;simp[Li] at hq;subst hO;simp[std,hq] at h1
   rw[if_neg hWn]
   refine⟨_,rfl,rfl,7,11,_,none,_,rfl,by omega,by subst hRB;rfl,rfl,rfl,by show _=some (AObj.cells none false (stW d (outsV 7 (f0::l).length)));rw[hV];rfl,by show _=some (AObj.map (Bp mkV (Gv E (w0,w1,w2,w3,w4) cl)) c2);rw[hM2];rfl,rfl,rfl,.inr ⟨by omega,by omega,rfl,hG1.symm⟩⟩
end Go.Fz
namespace Go.Fz
open Go.Proofs
set_option maxRecDepth 100000
theorem Wx {d:Ah}{XO:AV}{ME:List (AV × AV × Nat)}{cl q:Nat}{outs:List (Nat→Int)}{id:Nat}{o:AObj}(h:Hp.get (stH d XO ME cl (outsH d q outs)) id=some o) :
  (id=6∧o=.loop stR)∨(id=5∧o=.dfr)∨(id=4∧o=.cells none false (Ex d))∨(id=3∧o=.cells none false (stW d XO))∨(id=2∧o=.map ME cl)∨(id=1∧o=.cells none false stZ)∨(id=0∧o=.cells none false (Ex d)) ∨
   (id=q∧outs≠[]∧o=.cells none false (Nk d outs)):=by
 simp only [stH,chB,List.cons_append,List.nil_append,Hp.get] at h
 split at h
 ·rename_i e;cases h;exact .inl ⟨e.symm,rfl⟩
 split at h
 ·rename_i e;cases h;exact .inr (.inl ⟨e.symm,rfl⟩)
 split at h
 ·rename_i e;cases h;exact .inr (.inr (.inl ⟨e.symm,rfl⟩))
 split at h
 ·rename_i e;cases h;exact .inr (.inr (.inr (.inl ⟨e.symm,rfl⟩)))
 split at h
 ·rename_i e;cases h;exact .inr (.inr (.inr (.inr (.inl ⟨e.symm,rfl⟩))))
 split at h
 ·rename_i e;cases h;exact .inr (.inr (.inr (.inr (.inr (.inl ⟨e.symm,rfl⟩)))))
 split at h
 ·rename_i e;cases h;exact .inr (.inr (.inr (.inr (.inr (.inr (.inl ⟨e.symm,rfl⟩))))))
 cases outs with
 | nil=>simp[outsH,Hp.get] at h
 | cons f l =>
  simp only [outsH,Hp.get] at h
  split at h
  ·rename_i e;cases h;exact .inr (.inr (.inr (.inr (.inr (.inr (.inr ⟨e.symm,by simp,rfl⟩))))))
  ·cases h
theorem aZ {ρ:Nat→Nat}{n:Nat}:∀ {l:List (Nat × AV)},(∀ p∈l,Ad ρ n p.2 p.2)→∀ i,Ad ρ n (getT l i) (getT l i)
 | [],_,_=>Ad.any
 | (j,a)::r,h,i=>by
  simp only [getT]
  cases Nat.beq j i with
  | true=>exact h (j,a) List.mem_cons_self
  | false=>exact aZ (fun p hp=>h p (List.mem_cons_of_mem _ hp)) i
theorem Gl (E:List (Mk × Nat)):∀ x∈Bp mkV E,Below 0 x.1∧Below 0 x.2.1:=fun x hx=>by
 obtain⟨p,_,rfl⟩:=List.mem_map.1 hx
 exact⟨Below.agg (Br.ok ⟨Below.sb,Below.sb,Below.sb,Below.sb,Below.sb,trivial⟩),Below.lit⟩
theorem stX {d:Ah}{E:List (Mk × Nat)}{cl:Nat}{outs:List (Nat→Int)}(σ:Nat→Nat)(hσ:∀ id,id≤6→σ id=id){m q n:Nat}(hm:7≤m)(hq:σ q=m)(hq6:6<q)(hqn:outs≠[]→q<n)(hn:7≤n){h1:Hp}{n1:Nat}{fm:Option Nat}{G:List AV}
  (g6:h1.get 6=some (.loop stR))(g5:h1.get 5=some .dfr)(g4:h1.get 4=some (.cells none false (Ex d)))(g3:h1.get 3=some (.cells none false (stW d (outsV m outs.length))))(g2:h1.get 2=some (.map (Bp mkV E) cl))(g1:h1.get 1=some (.cells none false stZ))(g0:h1.get 0=some (.cells none false (Ex d)))
  (ga:outs=[]∨(h1.get m=some (.cells fm false G)∧G=Nk d outs)):My σ ⟨h1,n1⟩ ⟨stH d (outsV q outs.length) (Bp mkV E) cl (outsH d q outs),n⟩:=by
 have rp:∀ j,j≤6→Ad σ n (.ptr j 0) (.ptr j 0):=fun j hj=>by
  have:=Ad.ptr (ρ:=σ) (n:=n) (j:=j) (off:=0) (by omega)
  rwa [hσ j hj] at this
 have rts:∀ i,Ad σ n (gT.get i) (gT.get i):=aZ fun p hp=>by
  simp only [List.mem_cons,List.not_mem_nil,or_false] at hp
  rcases hp with rfl|rfl|rfl|rfl
  ·exact rp 0 (by omega)
  ·exact rp 1 (by omega)
  ·exact rp 3 (by omega)
  ·exact Ad.fn .nil (.cons (rp 4 (by omega)) .nil)
 have rmp:Ad σ n (.mp 2) (.mp 2):=by
  have:=Ad.mp (ρ:=σ) (n:=n) (j:=2) (by omega)
  rwa [hσ 2 (by omega)] at this
 have rx:Ad σ n (outsV q outs.length) (outsV m outs.length):=by
  cases hl:outs.length with
  | zero=>exact Ad.closed Below.lit
  | succ k =>
   have hne:outs≠[]:=fun e=>by rw[e] at hl;cases hl
   have:=Ad.sl (ρ:=σ) (n:=n) (j:=q) (off:=0) (len:=k+1) (sz:=8) (ex:=false) (hqn hne)
   rwa [hq] at this
 have robj:∀ id o,Hp.get (stH d (outsV q outs.length) (Bp mkV E) cl (outsH d q outs)) id=some o→id<n∧∃ o1,h1.get (σ id)=some o1∧Vo σ n o o1∧(id≤6→o1.fam=none∧σ id=id)∧(6<id→id=q):=fun id o h=>by
  rcases Wx h with ⟨rfl,rfl⟩|⟨rfl,rfl⟩|⟨rfl,rfl⟩|⟨rfl,rfl⟩|⟨rfl,rfl⟩|⟨rfl,rfl⟩|⟨rfl,rfl⟩|⟨rfl,hne,rfl⟩
  ·exact⟨by omega,_,by rw[hσ 6 (by omega)];exact g6,.base (.loop rfl rfl rfl rfl rfl (hσ 5 (by omega)).symm (by show 5<n;omega) rfl rts),fun _=>⟨rfl,hσ 6 (by omega)⟩,fun h=>by omega⟩
  ·exact⟨by omega,_,by rw[hσ 5 (by omega)];exact g5,.base .dfr,fun _=>⟨rfl,hσ 5 (by omega)⟩,fun h=>by omega⟩
  ·exact⟨by omega,_,by rw[hσ 4 (by omega)];exact g4,.base (.cells (Ay.closed (Bo d))),fun _=>⟨rfl,hσ 4 (by omega)⟩,fun h=>by omega⟩
  ·exact⟨by omega,_,by rw[hσ 3 (by omega)];exact g3,.base (.cells (.cons (Ad.closed Below.lit) (.cons (Ad.closed Below.lit) (.cons (Ad.closed (Be d)) (.cons (Ad.closed (Bh d)) (.cons (Ad.closed (Ci d)) (.cons rx (.cons rmp .nil)))))))),fun _=>⟨rfl,hσ 3 (by omega)⟩,fun h=>by omega⟩
  ·exact⟨by omega,_,by rw[hσ 2 (by omega)];exact g2,.map (Gl E),fun _=>⟨rfl,hσ 2 (by omega)⟩,fun h=>by omega⟩
  ·exact⟨by omega,_,by rw[hσ 1 (by omega)];exact g1,.base (.cells (Ay.closed (Br.ok ⟨Below.lit,Below.lit,Below.lit,Below.lit,Below.lit,Below.lit,Below.lit,trivial⟩))),fun _=>⟨rfl,hσ 1 (by omega)⟩,fun h=>by omega⟩
  ·exact⟨by omega,_,by rw[hσ 0 (by omega)];exact g0,.base (.cells (Ay.closed (Bo d))),fun _=>⟨rfl,hσ 0 (by omega)⟩,fun h=>by omega⟩
  ·rcases ga with ga|⟨ga,hG⟩
   ·exact absurd ga hne
   ·exact⟨hqn hne,_,by rw[hq];exact ga,.base (.cells (by rw[hG];exact Ay.closed (Az (Tm d outs) _))),fun h=>by omega,fun _=>rfl⟩
 refine⟨fun id o h=>?_,fun i j oi oj hi hj hij pi pj hpi hpj=>?_⟩
 ·obtain⟨k1,o1,k2,k3,_⟩:=robj id o h
  exact⟨k1,o1,k2,k3⟩
 ·obtain⟨_,o1,a2,_,a4,a5⟩:=robj i oi hi
  obtain⟨_,o2,b2,_,b4,b5⟩:=robj j oj hj
  rw[show(⟨h1,n1⟩:St).h=h1 from rfl] at hpi hpj
  rw[a2] at hpi;cases hpi
  rw[b2] at hpj;cases hpj
  by_cases hi6:i≤6
  ·obtain⟨f1,s1⟩:=a4 hi6
   refine⟨?_,fun⟨f,k1,_⟩=>by rw[f1] at k1;cases k1⟩
   by_cases hj6:j≤6
   ·obtain⟨_,s2⟩:=b4 hj6
    omega
   ·obtain rfl:=b5 (by omega)
    omega
  ·obtain rfl:=a5 (by omega)
   by_cases hj6:j≤6
   ·obtain⟨f2,s2⟩:=b4 hj6
    exact⟨by omega,fun⟨f,_,k2⟩=>by rw[f2] at k2;cases k2⟩
   ·obtain rfl:=b5 (by omega)
    exact absurd rfl hij
def Yv (d:Ah)(a:Pr)(h:Hp)(n:Nat):Prop:=55≤n∧∃ q,h=stH d (outsV q a.outs.length) (Bp mkV a.E) a.cl (outsH d q a.outs)∧55≤q∧(a.outs=[]∨q<n)
def sgm (m n2 n id:Nat):Nat:=if id≤6 then id else if id<n then n2+id else m
theorem oT (d:Ah)(gd:d.Good)(f:Nat→Int)(hf:∀ m,m<d.nw+d.nl→d.ulo m≤f m∧f m≤d.uhi m)(a:Pr)(hlen:a.outs.length<100000)(h:Hp)(n:Nat)(hK:Yv d a h n) :
  Bj Try.prog 6 [Wu f d.nw d.nl] ⟨h,n⟩ (fun v st'=>v=.lit (.bool true)∧Yv d (a.next d f) st'.h st'.n):=by
 obtain⟨hn,q,rfl,hq,hqn⟩:=hK
 have htab:∀ id,id≤6→tabR [(7,q)] id=id:=fun id hid=>by
  have:Nat.beq 7 id=false:=by rw[←Bool.not_eq_true];intro e;have:=Nat.eq_of_beq_eq_true e;omega
  simp only [tabR,this]
 refine Bj.canon (ρ:=tabR [(7,q)]) (st2:=⟨stH d (outsV 7 a.outs.length) (Bp mkV a.E) a.cl (outsH d 7 a.outs),8⟩) (htab 6 (by omega)) (by show 6<8;omega) (fun x hx=>by
  obtain rfl:=List.mem_singleton.1 hx
  exact Below.agg (Br.ok ⟨Ap _ _ _,Ap _ _ _,trivial⟩)) ?_ (kM d gd f hf a hlen) fun v st2' hk=>?_
 ·refine stX (fm:=none) (G:=Nk d a.outs) _ htab (m:=q) (by omega) (by rfl) (by omega) (fun _=>by omega) (by omega) rfl rfl rfl rfl rfl rfl rfl ?_
  cases ho:a.outs with
  | nil=>exact .inl rfl
  | cons f0 l =>
   refine .inr ⟨?_,rfl⟩
   show Hp.get (stH d _ _ _ [(q,.cells none false (Nk d (f0::l)))]) q=_
   simp only [stH,chB,List.cons_append,List.nil_append,Hp.get]
   rw[if_neg (by omega),if_neg (by omega),if_neg (by omega),if_neg (by omega),if_neg (by omega),if_neg (by omega),if_neg (by omega)]
   simp
 ·obtain⟨rfl,m,n2,G,fm,h2,rfl,hn2,k6,k5,k4,k3,k2,k1,k0,ka⟩:=hk
  obtain⟨b,hb⟩:∃ b,a.next d f=b:=⟨_,rfl⟩
  rw[hb] at k3 k2 ka
  rw[hb]
  by_cases ho:b.outs=[]
  ·refine⟨⟨⟨stH d (outsV n b.outs.length) (Bp mkV b.E) b.cl (outsH d n b.outs),n+1⟩,sgm 7 n2 n,⟨rfl,by show 55≤n+1;omega,n,rfl,hn,.inl ho⟩,Below.lit,by show n≤n+1;omega,?_,fun id hid=>?_⟩⟩
   ·refine stX (fm:=none) (G:=[]) (sgm 7 n2 n) (fun id hid=>if_pos hid) (m:=7) (by omega) ?_ (by omega) (fun hne=>absurd ho hne) (by omega) k6 k5 k4 (by rw[ho] at k3 ⊢;exact k3) k2 k1 k0 (.inl ho)
    show(if n≤6 then n else if n<n then n2+n else 7)=7
    rw[if_neg (by omega),if_neg (by omega)]
   ·by_cases h6:id≤6
    ·exact .inl ⟨if_pos h6,htab id h6,by show id<8;omega⟩
    ·refine .inr ?_
     show(if id≤6 then id else if id<n then n2+id else 7)=n2+id
     rw[if_neg h6,if_pos hid]
  ·obtain⟨hm7,hmn,hma,hG⟩:=ka.resolve_left ho
   refine⟨⟨⟨stH d (outsV n b.outs.length) (Bp mkV b.E) b.cl (outsH d n b.outs),n+1⟩,sgm m n2 n,⟨rfl,by show 55≤n+1;omega,n,rfl,hn,.inr (by show n<n+1;omega)⟩,Below.lit,by show n≤n+1;omega,?_,fun id hid=>?_⟩⟩
   ·refine stX (sgm m n2 n) (fun id hid=>if_pos hid) (m:=m) hm7 ?_ (by omega) (fun _=>by omega) (by omega) k6 k5 k4 k3 k2 k1 k0 (.inr ⟨hma,hG⟩)
    show(if n≤6 then n else if n<n then n2+n else m)=m
    rw[if_neg (by omega),if_neg (by omega)]
   ·by_cases h6:id≤6
    ·exact .inl ⟨if_pos h6,htab id h6,by show id<8;omega⟩
    ·refine .inr ?_
     show(if id≤6 then id else if id<n then n2+id else m)=n2+id
     rw[if_neg h6,if_pos hid]
theorem Yu {d:Ah}{a:Pr}{h:Hp}{n:Nat}(hK:Yv d a h n):49≤n∧∀ id o,h.get id=some o→id<n∧(id<49∨55≤id):=by
 obtain⟨hn,q,rfl,hq,hqn⟩:=hK
 refine⟨by omega,fun id o ho=>?_⟩
 rcases Wx ho with ⟨h,_⟩|⟨h,_⟩|⟨h,_⟩|⟨h,_⟩|⟨h,_⟩|⟨h,_⟩|⟨h,_⟩|⟨h,hne,_⟩
 all_goals try omega
 have:=hqn.resolve_left hne
 omega
theorem kN {d:Ah}{a:Pr}{h:Hp}{n:Nat}(hK:Yv d a h n):∀ id o,h.get id=some o→o.own=true:=fun id o ho=>by
 obtain⟨_,q,rfl,_,_⟩:=hK
 rcases Wx ho with ⟨_,h⟩|⟨_,h⟩|⟨_,h⟩|⟨_,h⟩|⟨_,h⟩|⟨_,h⟩|⟨_,h⟩|⟨_,_,h⟩<;>rw[h]<;>rfl
theorem Yt (d:Ah)(gd:d.Good)(f:Nat→Int)(hf:∀ m,m<d.nw+d.nl→d.ulo m≤f m∧f m≤d.uhi m)(a:Pr)(hlen:a.outs.length<100000)(h:Hp)(n:Nat)(hK:Yv d a h n)(R:Hp)(hR:∀ p∈R,(49≤p.1∧p.1<55)∧p.2.own=true∧p.2.fam=none) :
  Bj Try.prog 6 [Wu f d.nw d.nl] ⟨R++h,n⟩ (fun v st'=>v=.lit (.bool true)∧∃ h' n',st'=⟨R++h',n'⟩∧Yv d (a.next d f) h' n'):=by
 have hids:=Yu hK
 have ha:Vf R ⟨h,n⟩:=⟨fun id o ho=>(hR _ (Hp.As ho)).2.1,fun id o ho=>by
  cases hg:Hp.get h id with
  | none=>rfl
  | some o' =>
   have h1:=(hids.2 id o' hg).2
   have h2:49≤id∧id<55:=(hR _ (Hp.As ho)).1
   omega,fun i j oi oj hi _ ⟨f,k1,_⟩=>by
  have h2:oi.fam=none:=(hR _ (Hp.As hi)).2.2
  rw[h2] at k1;cases k1⟩
 refine(Bj.frame ha (oT d gd f hf a hlen h n hK) fun v st' hk id o ho=>.inl (kN hk.2 id o ho)).mono fun v s hs=>?_
 obtain⟨st',⟨hv,hk⟩,rfl⟩:=hs
 exact⟨hv,st'.h,st'.n,rfl,hk⟩
end Go.Fz
namespace Go.Fz
open Go.Proofs
set_option maxRecDepth 100000
section
variable {α:Type}(next:α→(Nat→Int)→α)(len:α→Nat)(N:Nat)(lo hi:Nat→Int)
def Rw:Nat→Nat→Nat
 | 0,_=>1
 | j+1,i=>(hi i-lo i+1).toNat*Rw j (i+1)
theorem Qt {F:Int→α→α}{b:Nat}(h:∀ v a,len (F v a)≤len a+b)(l:Int)(a:α):∀ c,len (Lu F l c a)≤len a+c*b
 | 0=>by show len a≤_;omega
 | c+1=>by
  have h1:=h (l+c) (Lu F l c a)
  have h2:=Qt h l a c
  show len (F _ _)≤_
  rw[Nat.succ_mul];omega
theorem Qu (hs:∀ a f,len (next a f)≤len a+1):∀ (j i:Nat)(f:Nat→Int)(a:α),len (Hg next N lo hi j i f a)≤len a+Rw lo hi j i
 | 0,_,_,a=>hs a _
 | j+1,i,_,a=>Qt len (fun _ a=>Qu hs j (i+1) _ a) (lo i) a _
theorem cA (hs:∀ a f,len (next a f)≤len a+1)(M:Nat):∀ (j i:Nat)(f:Nat→Int)(a:α),len a+Rw lo hi j i≤M→eF (fun a=>len a<M) next N lo hi j i f a
 | 0,i,f,a,h=>by
  have:Rw lo hi 0 i=1:=rfl
  show len a<M
  omega
 | j+1,i,f,a,h=>fun c hc=>by
  refine cA hs M j (i+1) _ _ ?_
  have h1:=Qt len (fun v a=>Qu next len N lo hi hs j (i+1) (Ek f i v) a) (lo i) a c
  have h2:Rw lo hi (j+1) i=(hi i-lo i+1).toNat*Rw lo hi j (i+1):=rfl
  have h3:(c+1)*Rw lo hi j (i+1)≤(hi i-lo i+1).toNat*Rw lo hi j (i+1):=Nat.mul_le_mul_right _ hc
  rw[Nat.succ_mul] at h3
  omega
theorem Xg (M:Nat)(hb:∀ m,m<M→0≤lo m∧lo m≤hi m∧hi m≤5000)(h:Ho lo hi M=false):∀ i,i≤M→1≤prN lo hi i∧prN lo hi i≤2000∧(∀ i',i=i'+1→prN lo hi i=prN lo hi i'*(hi i' - lo i'+1))
 | 0,_=>⟨Int.le_refl 1,by show(1:Int)≤2000;omega,fun _ e=>by cases e⟩
 | i+1,hi'=>by
  have h1:=Xg M hb h i (by omega)
  have h2:prN lo hi (i+1)≤2000:=by
   have:Dh M (fun i=>decide (prN lo hi (i+1)≤2000))=true:=by simpa[Ho] using h
   have:=of_decide_eq_true this i (by omega)
   simpa using this
  have h3:=hb i (by omega)
  have h4:Fw (lo i) (hi i)=hi i-lo i+1:=by
   unfold Fw
   rw[show Np (hi i) (lo i)=hi i-lo i from Il _ _ (by omega) (by omega),Gs _ _ (by omega) (by omega)]
  have h5:0≤prN lo hi i*(hi i-lo i+1):=Int.mul_nonneg (by omega) (by omega)
  have h6:prN lo hi i*(hi i-lo i+1)≤2000*5001:=Int.mul_le_mul h1.2.1 (by omega) (by omega) (by omega)
  have h7:prN lo hi (i+1)=prN lo hi i*(hi i-lo i+1):=by
   show Km (prN lo hi i) (Fw (lo i) (hi i))=_
   rw[h4,Zu _ _ (by omega) (by omega)]
  have h8:1*1≤prN lo hi i*(hi i-lo i+1):=Int.mul_le_mul h1.1 (by omega) (by omega) (by omega)
  exact⟨by rw[h7];omega,h2,fun i' e=>by cases e;exact h7⟩
theorem bQ (M:Nat)(hb:∀ m,m<M→0≤lo m∧lo m≤hi m∧hi m≤5000)(h:Ho lo hi M=false):∀ j i,i+j=M→prN lo hi i*(Rw lo hi j i:Int)=prN lo hi M
 | 0,i,e=>by
  obtain rfl:i=M:=by omega
  show prN lo hi i*((1:Nat):Int)=_
  omega
 | j+1,i,e=>by
  have h1:=bQ M hb h j (i+1) (by omega)
  have h2:=(Xg lo hi M hb h (i+1) (by omega)).2.2 i rfl
  have h3:=hb i (by omega)
  show prN lo hi i*(((hi i-lo i+1).toNat*Rw lo hi j (i+1):Nat):Int)=_
  rw[Int.natCast_mul,Int.toNat_of_nonneg (by omega),←Int.mul_assoc,←h2,h1]
end
def cP (d:Ah)(a:Pr)(f:Nat→Int):Pr:=a.next d f
theorem Ow {d:Ah}(h:d.check=0):Ho d.ulo d.uhi (d.nw+d.nl)=false:=by
 unfold Ah.check at h
 split at h
 ·omega
 ·split at h
  ·split at h
   ·omega
   ·rename_i hm;simpa using hm
  ·omega
theorem Wp {d:Ah}(h:d.check=0):Rw d.ulo d.uhi (d.nw+d.nl) 0≤2000:=by
 have gd:=Ds h
 have h1:=bQ d.ulo d.uhi (d.nw+d.nl) (Wt gd) (Ow h) (d.nw+d.nl) 0 (by omega)
 have h2:=(Xg d.ulo d.uhi (d.nw+d.nl) (Wt gd) (Ow h) (d.nw+d.nl) (Nat.le_refl _)).2.1
 have h3:prN d.ulo d.uhi 0=1:=rfl
 rw[h3,Int.one_mul] at h1
 omega
theorem Zs (d:Ah)(a:Pr)(f:Nat→Int):(cP d a f).outs.length≤a.outs.length+1:=by
 unfold cP Pr.next
 simp only
 split
 ·rw[List.length_append,List.length_singleton]
  exact Nat.le_refl _
 ·omega
def pr0:Pr:=⟨[],0,[]⟩
def Ah.seen (d:Ah):Pr:=Hg (cP d) (d.nw+d.nl) d.ulo d.uhi (d.nw+d.nl) 0 (fun _=>0) pr0
theorem Yd {d:Ah}{Bg:Nat→Int}(h:∀ m,m<d.nw+d.nl→d.ulo m≤Bg m∧Bg m≤d.uhi m):∀ m,m<d.nw+d.nl→d.ulo m≤Eh (d.nw+d.nl) Bg m∧Eh (d.nw+d.nl) Bg m≤d.uhi m:=fun m hm=>by
 unfold Eh;rw[if_pos hm];exact h m hm
theorem uT (y N nw:Nat)(lo hi:Nat→Int)(G:List AV):∀ p∈chO y N nw lo hi G,(49≤p.1∧p.1<55)∧p.2.own=true∧p.2.fam=none:=fun p hp=>by
 simp only [chO,List.mem_cons,List.not_mem_nil,or_false] at hp
 rcases hp with rfl|rfl|rfl|rfl|rfl|rfl<;>exact⟨by simp,rfl,rfl⟩
theorem qI (y N nw:Nat)(lo hi:Nat→Int)(G:List AV):∀ p∈uS y N nw lo hi G,(49≤p.1∧p.1<55)∧p.2.own=true∧p.2.fam=none:=fun p hp=>by
 simp only [uS,List.mem_cons,List.not_mem_nil,or_false] at hp
 rcases hp with rfl|rfl|rfl|rfl|rfl|rfl<;>exact⟨by simp,rfl,rfl⟩
theorem Vl (d:Ah)(hc:d.check=0) :
  At Try.prog 122 [.yld 6,.ptr 4 0] ⟨stH d nl3 [] 0 [],7⟩ (fun _ st'=>∃ h n,st'=⟨h,n⟩∧Yv d d.seen h n):=by
 have gd:=Ds hc
 refine bR (fun a:Pr=>a.outs.length<100000) (Yv d) (cP d) d gd (.loop stR) _ pr0 (fun a h n hK=>Yu hK) ⟨Nat.le_refl _,55,rfl,Nat.le_refl _,.inl rfl⟩
  (cA (cP d) (fun a=>a.outs.length) _ _ _ (fun a f=>Zs d a f) 100000 _ _ _ _ (by have:=Wp hc;show 0+_≤_;omega)) ?_ ?_
 ·intro Bg a h n hin hok hK
  exact(Yt d gd _ (Yd hin) a hok h n hK _ (uT 6 (d.nw+d.nl) d.nw d.ulo d.uhi (flatG 1 (Bc Bg) (d.nw+d.nl)))).mono fun v st' ⟨hv,h',n',hst,hk⟩=>.inl ⟨hv,Bg,h',n',rfl,hst,hk⟩
 ·intro Bg a h n hin hok hK
  exact(Yt d gd _ (Yd hin) a hok h n hK _ (qI 6 (d.nw+d.nl) d.nw d.ulo d.uhi (flatG 1 (Bc Bg) (d.nw+d.nl)))).mono fun v st' ⟨hv,h',n',hst,hk⟩=>.inl ⟨hv,Bg,h',n',rfl,hst,hk⟩
end Go.Fz
namespace Go.Fz
open Go.Proofs
set_option maxRecDepth 100000
section
variable {P:Program}{T:Ti}
def mkmAt (ops:Array Oper)(i:Nat)(f:Fm):Bool:=match ops[i]? with
 | none=>false
 | some o=>match wantA ops f.ts o with
  | some true=>match o.op with
   | .makeMap _ none=>true
   | _=>false
  | _=>false
theorem Ac.mkMap {rd:Option Nat}{ops:Array Oper}{K:Fm→St→Prop}{f:Fm}{st:St}{i:Nat}{l:List Nat}(hx:mkmAt ops i f=true)(h:Ac P rd ops l K (putAt ops i f (.mp st.n)) (st.push (.map [] 0))):Ac P rd ops (i::l) K f st:=by
 unfold mkmAt at hx
 split at hx
 ·cases hx
 ·rename_i o ho
  split at hx
  ·rename_i hw
   split at hx
   ·rename_i t hop
    have hput:∀ v,putAt ops i f v=f.put o.dst v:=fun v=>by simp[putAt,ho]
    rw[hput] at h
    refine Ac.value ho hw (fun c hc=>by rw[hop] at hc;cases hc) (fun φ w a h2 h3=>?_) h
    have hp:=h2.push (.map #[] 0) (.map [] 0) ⟨w.heap.size,0,0⟩ rfl ⟨#[],by rw[Fi.Ai];exact Bi w _,rfl,fun i x h=>by simp at h⟩ (fun _ h=>by cases h)
    refine⟨_,_,.map (some w.heap.size),.inl ?_,?_,hp.1,φ.Aw _,hp.2⟩
    ·simp[execOp,hop,Instr.makeMap,Result.andThen]
    ·have:=VR.mp (φ:=φ.push ⟨w.heap.size,0,0⟩) φ.n (by rw[Fi.Js];omega)
     rw[Fi.Ai] at this
     rw[←h2.n];exact this
   ·cases hx
  ·cases hx
end
section
variable {P:Program}
theorem Ac.Ep {rd:Option Nat}{ops:Array Oper}{i:Nat}{l:List Nat}{K:Fm→St→Prop}{f:Fm}{st:St}{g:FuncId}{args:List AV}{k:AV→St→Prop}(he:Enters P g)(hp:At P g args st k)(hc:callAt ops i f=some (g,args))
  (h:∀ v st',k v st'→Ac P rd ops l K (putAt ops i f v) st'):Ac P rd ops (i::l) K f st:=by
 obtain⟨o,first,caps,az,ho,hw,hcc,ha,hput⟩:=Ig hc
 subst ha
 exact Ac.call ho hw hcc (show ApplyW P (.fn (.func g) first caps) az st _ from⟨he,hp.mono fun v st' hk=>by have:=h v st' hk;rwa [hput] at this⟩)
end
def outsI (d:Ah):List (Nat→Int)→AV
 | []=>nl3
 | f::l=>.isl (l.length+1) 8 false (Jd d (f::l))
theorem Mi (d:Ah)(l:List (Nat→Int)):Below 0 (outsI d l):=by
 cases l with
 | nil=>exact Below.lit
 | cons f l=>exact Below.isl fun i k _ _=>Tm d _ i k
theorem jL (d:Ah)(h:Hp)(n:Nat):At Try.prog 105 [Di d] ⟨h,n⟩ (fun v st'=>v=.fn (.func 122) [] [.ptr n 0]∧st'=⟨(n,.cells none false (Ex d))::h,n+1⟩):=by
 obtain⟨O,hO⟩:∃ O:Ar,O=std:=⟨_,rfl⟩
 refine Bb tok Try.func105 rfl ?_
 refine SW.Ab tok hO (by cbv<;>rfl) (by trivial) ?_
 refine SW.Ab tok hO (by cbv<;>rfl) (by trivial) ?_
 exact SW.ret ⟨_,_,rfl,rfl,rfl,rfl⟩
end Go.Fz
namespace Go.Fz
variable {P:Program}{T:Ti}
theorem Hp.Ot {p:Nat→Bool}:∀ {h:Hp}{id:Nat}{o:AObj},h.get id=some o→p id=true→Hp.get (h.filter fun x=>p x.1) id=some o
 | [],id,o,h,_=>by simp[Hp.get] at h
 | (i,x)::r,id,o,h,hp=>by
  simp only [Hp.get] at h
  simp only [List.filter_cons]
  split at h
  ·rename_i hi;subst hi;cases h
   rw[if_pos hp];simp[Hp.get]
  ·rename_i hi
   have:=Hp.Ot h hp
   split
   ·simp only [Hp.get];rw[if_neg hi];exact this
   ·exact this
def Ka (r:Nat→AV)(id:Nat)(v:AV):Prop:=∀ (φa φb:Fi)(u:Value)(k:Nat),φb.f k=φa.f id→k<φb.n→φb.z=φa.z→VR φa v u→VR φb (r k) u
theorem Ka.closed {a:AV}{id:Nat}(h:Below 0 a):Ka (fun _=>a) id a:=fun φa φb u k _ _ h3 hv=>by
 have h1:=h _ _ hv
 exact VR.mono (φ:=⟨φa.f,0,φa.z⟩) ⟨Nat.zero_le _,fun id hid=>absurd hid (Nat.not_lt_zero id),fun b c hb=>by rw[h3];exact hb⟩ h1
theorem Ka.mp {id:Nat}:Ka (fun k=>.mp k) id (.mp id):=fun φa φb u k h1 h2 h3 hv=>by
 obtain⟨rfl,_⟩:=hv.Ml
 rw[←h1]
 exact VR.mp k h2
theorem Ka.eqv {r:Nat→AV}{id:Nat}{a b:AV}(h:Ka r id b)(he:Eqv a b):Ka r id a:=fun φa φb u k h1 h2 h3 hv=>h φa φb u k h1 h2 h3 (he _ _ hv)
inductive Vc:(Nat→List AV)→Nat→List AV→Prop
 | nil {id:Nat}:Vc (fun _=>[]) id []
 | cons {r:Nat→AV}{rs:Nat→List AV}{id:Nat}{v:AV}{vs:List AV}(h:Ka r id v)(k:Vc rs id vs):Vc (fun n=>r n::rs n) id (v::vs)
theorem Vc.ok {rs:Nat→List AV}{id:Nat}{vs:List AV}(h:Vc rs id vs):∀ (φa φb:Fi)(us:List Value)(k:Nat),φb.f k=φa.f id→k<φb.n→φb.z=φa.z→VRL φa vs us→VRL φb (rs k) us:=by
 induction h with
 | nil=>intro φa φb us k _ _ _ hv;cases hv;exact .nil
 | cons h _ ih=>intro φa φb us k h1 h2 h3 hv;cases hv with|cons a b=>exact .cons (h φa φb _ k h1 h2 h3 a) (ih φa φb _ k h1 h2 h3 b)
theorem Ka.agg {rs:Nat→List AV}{id:Nat}{vs:List AV}(h:Vc rs id vs):Ka (fun k=>.agg (rs k)) id (.agg vs):=fun φa φb u k h1 h2 h3 hv=>by
 obtain⟨us,rfl,hu⟩:=hv.Bz
 exact .agg (h.ok φa φb us k h1 h2 h3 hu)
theorem Ka.tup {rs:Nat→List AV}{id:Nat}{vs:List AV}(h:Vc rs id vs):Ka (fun k=>.tup (rs k)) id (.tup vs):=fun φa φb u k h1 h2 h3 hv=>by
 cases hv with
 | tup hu=>exact .tup (h.ok φa φb _ k h1 h2 h3 hu)
structure Vd (P:Program)(g:FuncId)(args:List AV)(r:Nat→AV)(es:List (AV × AV × Nat))(clock:Nat):Prop where
 ent:Enters P g
 call:∀ st,At P g args st (fun v st'=>v=r st.n∧st'=st.push (.map es clock))
theorem Vj {g:FuncId}{args:List AV}{r:Nat→AV}{es:List (AV × AV × Nat)}{clock:Nat}(m:Nat)(hent:Enters P g)(ha:Br 0 args)(hes:∀ x∈es,Below 0 x.1∧Below 0 x.2.1)
  (h:At P g args ⟨[],0⟩ (fun v st'=>∃ id,st'.h.get id=some (.map es clock)∧freeB st'.h (fun i=>!Nat.beq i id)=true∧Ka r id (frz st'.h (fun i=>!Nat.beq i id) m v))):Vd P g args r es clock:=by
 refine⟨hent,fun st φ w cargs n hrel hargs=>?_⟩
 have hrel0:Rel ⟨φ.f,0,φ.z⟩ ⟨[],0⟩ w:=⟨rfl,fun _ _ h=>by simp[Hp.get] at h,fun _ _ h=>by simp[Hp.get] at h,fun _ _ h=>by simp[Hp.get] at h,fun _ _ _ _ h=>by simp[Hp.get] at h,fun _ _ _ h=>by simp[Hp.get] at h,
  fun b c hb=>⟨(hrel.Ct b c hb).1,(hrel.Ct b c hb).2.1,fun _ _ h=>by simp[Hp.get] at h⟩⟩
 refine(h ⟨φ.f,0,φ.z⟩ w cargs n hrel0 (Below.list ha.ok hargs)).mono fun e w1 hp=>?_
 obtain⟨v,cv,st1,φ1,rfl,⟨id,hid,hfree,hv⟩,hvr,hext,hrel1,hfr⟩:=hp
 obtain⟨hrel2,hfr2⟩:=hrel1.freeze hfree
 have hvr2:=Ju (D:=fun i=>!Nat.beq i id) hrel1 m hvr
 have hfr3:=hfr.trans hfr2
 have hnone:∀ b,¬ Fo ⟨φ.f,0,φ.z⟩ ⟨[],0⟩ b:=fun b ⟨id,o,h,_⟩=>by simp[Hp.get] at h
 have hzs:∀ b c,zOf φ1 st1.h (fun i=>!Nat.beq i id) w1 b=some c→φ.z b=some c∨w.heap.size≤b:=fun b c hb=>(hfr3.zs b c hb).elim .inl fun h=>h.elim (fun ho=>absurd ho (hnone b)) .inr
 have hsame:∀ k,k<w.heap.size→w1.heap[k]?=w.heap[k]?:=fun k hk=>hfr3.block k hk (hnone k)
 have hnew:w.heap.size≤(φ1.f id).b:=(hfr.own (φ1.f id).b ⟨id,_,hid,rfl,rfl⟩).elim (fun ho=>absurd ho (hnone _)) fun h=>h
 have hkeep:(st1.Gd fun i=>!(fun i=>!Nat.beq i id) i).h.get id=some (.map es clock):=Hp.Ot (p:=fun i=>!(fun i=>!Nat.beq i id) i) hid (by simp[Nat.beq_refl])
 obtain⟨φ',hφ'⟩:∃ φ':Fi,φ'=⟨fun j=>if j<φ.n then φ.f j else φ1.f id,φ.n+1,zOf φ1 st1.h (fun i=>!Nat.beq i id) w1⟩:=⟨_,rfl⟩
 have hf1:∀ j,j<φ.n→φ'.f j=φ.f j:=fun j hj=>by rw[hφ'];exact if_pos hj
 have hf2:φ'.f st.n=φ1.f id:=by rw[hφ',←hrel.n];exact if_neg (Nat.lt_irrefl _)
 have hz:φ'.z=zOf φ1 st1.h (fun i=>!Nat.beq i id) w1:=by rw[hφ']
 have hn:φ'.n=st.n+1:=by rw[hφ',←hrel.n]
 have hext3:Ext φ φ':=⟨by rw[hn,hrel.n];omega,hf1,fun b c hb=>by rw[hz];exact Ku (hext.z b c hb)⟩
 have hold:∀ j o,st.h.get j=some o→φ'.f j=φ.f j:=fun j o ho=>hf1 j (by rw[hrel.n];exact hrel.lt j o ho)
 refine⟨r st.n,cv,st.push (.map es clock),φ',rfl,⟨rfl,rfl⟩,hv (φ1.Ct st1.h (fun i=>!Nat.beq i id) w1) φ' cv st.n hf2 (by rw[hn];omega) hz hvr2,hext3,?_,?_⟩
 ·refine⟨hn,fun j o hj=>?_,fun j o hj=>?_,fun j o hj=>?_,fun i j oi oj hi hj hij ho hb=>?_,fun j o f hj hf=>?_,fun b c hb=>?_⟩
  ·rw[St.Bf] at hj
   split at hj
   ·show j<st.n+1;omega
   ·show j<st.n+1;have:=hrel.lt j o hj;omega
  ·rw[St.Bf] at hj
   split at hj
   ·rename_i e;subst e;rw[hf2];exact hrel1.blk id _ hid
   ·rw[hold j o hj];have:=hrel.blk j o hj;have:=hfr3.size;omega
  ·rw[St.Bf] at hj
   split at hj
   ·rename_i e;subst e;cases hj
    obtain⟨ces,h1,h2,h3⟩:=hrel1.obj id _ hid
    refine⟨ces,by rw[hf2];exact h1,h2,fun i x hx=>?_⟩
    obtain⟨e,k1,k2,k3,k4⟩:=h3 i x hx
    obtain⟨b1,b2⟩:=hes x (List.mem_of_getElem? hx)
    have hm:Ext ⟨φ1.f,0,φ1.z⟩ φ':=⟨Nat.zero_le _,fun id hid=>absurd hid (Nat.not_lt_zero id),fun b c hb=>by rw[hz];exact Ku hb⟩
    exact⟨e,k1,VR.mono hm (b1 _ _ k2),VR.mono hm (b2 _ _ k3),k4⟩
   ·exact(hrel.obj j o hj).same hext3 (by rw[hrel.n];exact hrel.lt j o hj) (hsame _ (hrel.blk j o hj))
  ·rw[St.Bf] at hi hj
   split at hi
   ·rename_i e;subst e
    split at hj
    ·rename_i e2;exact absurd e2 hij
    ·rw[hf2,hold j oj hj] at hb
     have:=hrel.blk j oj hj;omega
   ·split at hj
    ·rename_i e;subst e
     rw[hf2,hold i oi hi] at hb
     have:=hrel.blk i oi hi;omega
    ·rw[hold i oi hi,hold j oj hj] at hb ⊢
     exact hrel.sep i j oi oj hi hj hij ho hb
  ·rw[St.Bf] at hj
   split at hj
   ·cases hj;cases hf
   ·have:=hrel.fam j o f hj hf;show f<st.n+1;omega
  ·rw[hz] at hb
   obtain⟨h1,h2,h3⟩:=hrel2.Ct b c hb
   refine⟨h1,h2,fun j o hj hown hbb=>?_⟩
   rw[St.Bf] at hj
   split at hj
   ·rename_i e;subst e;cases hj
    rw[hf2] at hbb
    exact h3 id _ hkeep rfl hbb
   ·rw[hold j o hj] at hbb
    rcases hzs b c hb with h4|h4
    ·exact(hrel.Ct b c h4).2.2 j o hj hown hbb
    ·have:=hrel.blk j o hj;omega
 ·refine⟨hfr3.os,hfr3.tape,hfr3.output,hfr3.size,fun k hk _=>hsame k hk,fun k ⟨j,o,hj,ho,hb⟩=>?_,fun b c hb=>(hzs b c (by rw[←hz];exact hb)).elim .inl fun h=>.inr (.inr h)⟩
  rw[St.Bf] at hj
  split at hj
  ·rename_i e;subst e
   rw[hf2] at hb
   exact .inr (by omega)
  ·exact .inl ⟨j,o,hj,ho,by rw[←hb,hold j o hj]⟩
theorem Jv (hT:TOk P T){g:FuncId}{fn:Func}{c:Code}{args:List AV}{r:Nat→AV}{es:List (AV × AV × Nat)}{clock:Nat}(m:Nat)(hf:P.funcs[g]?=some fn)(hent:Enters P g)(hb:fn.body=some c)(ha:Br 0 args)(hes:∀ x∈es,Below 0 x.1∧Below 0 x.2.1)
  (h:SW P none c (iD T fn (fun v st'=>∃ id,st'.h.get id=some (.map es clock)∧freeB st'.h (fun i=>!Nat.beq i id)=true∧Ka r id (frz st'.h (fun i=>!Nat.beq i id) m v))) ⟨Ts.of args fn.ntmps,[]⟩ ⟨[],0⟩):Vd P g args r es clock :=
 Vj m hent ha hes (Bb hT hf hb h)
end Go.Fz
namespace Go.Fz
open Go.Proofs
set_option maxRecDepth 100000
def jW (d:Ah)(l:List (Nat→Int))(k:Nat):List AV:=[iV d.hand,iV d.flat,Dj d,Dx d,Eo d,outsI d l,.mp k]
def Sn (d:Ah)(l:List (Nat→Int))(k:Nat):AV:=.agg (jW d l k)
theorem dO {h:Hp}{D:Nat→Bool}(hf:∀ x∈h,x.2.fam=none):freeB h D=true:=List.all_eq_true.2 fun x hx=>by
 simp[hf x hx]
theorem mF {d:Ah}{f:Nat→Int}{l:List (Nat→Int)}{h:Hp}{q:Nat}(hq:55≤q)(hg:h.get q=some (.cells none false (Nk d (f::l)))) :
  Ka (Sn d (f::l)) 2 (frz h (fun i=>!Nat.beq i 2) 3 (.agg [iV d.hand,iV d.flat,Dj d,Dx d,Eo d,.sl q 0 (l.length+1) 8 false,.mp 2])):=by
 have hlen:(Nk d (f::l)).length=(l.length+1)*8:=Zp d _
 have hD:(fun i=>!Nat.beq i 2) q=true:=by
  have:Nat.beq q 2=false:=by rw[←Bool.not_eq_true];intro e;have:=Nat.eq_of_beq_eq_true e;omega
  simp only [this];rfl
 have h1:frz h (fun i=>!Nat.beq i 2) 2 (.sl q 0 (l.length+1) 8 false)=.isl (l.length+1) 8 false (fun i k=>frz h (fun i=>!Nat.beq i 2) 1 ((Nk d (f::l)).getD (0+i*8+k) .any)):=by
  simp only [frz]
  rw[if_pos hD,hg]
  simp only
  rw[if_pos (by omega)]
 have h2:Eqv (frz h (fun i=>!Nat.beq i 2) 2 (.sl q 0 (l.length+1) 8 false)) (outsI d (f::l)):=by
  rw[h1]
  refine Eqv.isl rfl fun i k hi hk=>Eqv.of ?_
  have h3:=Ft 8 (Jd d (f::l)) (l.length+1) i k hi hk
  rw[Nat.zero_add,List.getD_eq_getElem?_getD]
  show frz h _ 1 ((flatG 8 (Jd d (f::l)) (l.length+1))[i*8+k]?.getD .any)=_
  rw[h3]
  show frz h _ 1 (Jd d (f::l) i k)=_
  unfold Jd outcC
  split<;>rfl
 exact Ka.agg (rs:=jW d (f::l)) (.cons (.closed Below.lit) (.cons (.closed Below.lit) (.cons (.closed (Be d)) (.cons (.closed (Bh d)) (.cons (.closed (Ci d)) (.cons ((Ka.closed (Mi d _)).eqv h2) (.cons .mp .nil)))))))
set_option maxHeartbeats 8000000 in
theorem Sv (d:Ah)(hc:d.check=0):Vd Try.prog 76 [Di d] (Sn d d.seen.outs) (Bp mkV d.seen.E) d.seen.cl:=by
 obtain⟨O,hO⟩:∃ O:Ar,O=std:=⟨_,rfl⟩
 have hch:=Vl d hc
 refine Jv tok 3 Try.func76 tQ rfl ⟨Ax d,trivial⟩ (Gl _) ?_
 refine SW.Ab tok hO (by cbv<;>rfl) (by trivial) ?_
 refine SW.seq (SW.runN tok hO 1 (by cbv<;>rfl) (by trivial) ?_)
 refine Ac.mkMap (by rfl) ?_
 refine Ac.run tok hO (by cbv<;>rfl) (by trivial) ?_
 refine SW.seq ?_
 refine SW.Ab tok hO (by cbv<;>rfl) (by trivial) ?_
 refine Ac.Ep nN (jL d _ _) (by cbv<;>rfl) fun v st' hk=>?_
 obtain⟨rfl,rfl⟩:=hk
 refine Ac.run tok hO (by cbv<;>rfl) (by trivial) ?_
 refine SW.block ?_
 refine SW.pre (f2:=⟨gT,[]⟩) (st2:=⟨[(4,.cells none false (Ex d)),(3,.cells none false (stW d nl3)),(2,.map [] 0),(1,.cells none false stZ),(0,.cells none false (Ex d))],5⟩) ?_ ?_
 ·exact Cw.by rfl rfl (fun _ h=>nomatch h) (Nat.le_refl _) (Nat.le_refl _) ⟨⟨rfl,.inl rfl⟩,⟨rfl,.inl rfl⟩,⟨rfl,.inl rfl⟩,⟨rfl,.inl rfl⟩,trivial⟩ ⟨⟨rfl,by show _<5;omega,.inl rfl⟩,⟨rfl,by show _<5;omega,.inl rfl⟩,⟨rfl,by show _<5;omega,.inl rfl⟩,⟨rfl,by show _<5;omega,.inl rfl⟩,⟨rfl,by show _<5;omega,.inl rfl⟩,trivial⟩
 refine SW.rangeFunc (gf:=122) (first:=[]) (caps:=[.ptr 4 0]) (by rfl) nB ?_
 refine At.mono (show At Try.prog 122 [.yld 6,.ptr 4 0] ⟨stH d nl3 [] 0 [],7⟩ _ from hch) fun v st' hk=>?_
 obtain⟨h,n,rfl,hn,q,rfl,hq,hqn⟩:=hk
 refine⟨stR,rfl,?_⟩
 refine And.intro (fun h=>by simp[stR] at h) ?_
 show SW Try.prog none _ _ ⟨gT,[5]⟩ ⟨(6,.loop { stR with state:=.exhausted})::(5,.dfr)::(4,.cells none false (Ex d))::(3,.cells none false (stW d (outsV q d.seen.outs.length)))::(2,.map (Bp mkV d.seen.E) d.seen.cl)::(1,.cells none false stZ)::(0,.cells none false (Ex d))::outsH d q d.seen.outs,n⟩
 generalize ({ stR with state:=.exhausted}:Cs)=LE
 generalize Bp mkV d.seen.E=ME
 generalize d.seen.cl=cl
 generalize d.seen.outs=outs at hqn ⊢
 cases outs with
 | nil =>
  refine SW.Ab tok hO (by cbv<;>rfl) (by trivial) ?_
  refine SW.ret ⟨_,_,rfl,rfl,2,rfl,by rfl,?_⟩
  exact Ka.agg (rs:=jW d []) (.cons (.closed Below.lit) (.cons (.closed Below.lit) (.cons (.closed (Be d)) (.cons (.closed (Bh d)) (.cons (.closed (Ci d)) (.cons (.closed Below.lit) (.cons .mp .nil)))))))
 | cons f l =>
  obtain⟨L,hL⟩:∃ n,l.length=n:=⟨_,rfl⟩
  show SW Try.prog none _ _ ⟨gT,[5]⟩ ⟨(6,.loop LE)::(5,.dfr)::(4,.cells none false (Ex d))::(3,.cells none false (stW d (.sl q 0 (l.length+1) 8 false)))::(2,.map ME cl)::(1,.cells none false stZ)::(0,.cells none false (Ex d))::[(q,.cells none false (Nk d (f::l)))],n⟩
  rw[hL]
  obtain⟨G,hG⟩:∃ G,Nk d (f::l)=G:=⟨_,rfl⟩
  rw[hG]
  refine SW.Ab tok hO (by cbv<;>rfl) (by trivial) ?_
  refine SW.ret ⟨_,_,rfl,rfl,2,rfl,dO fun x hx=>?_,?_⟩
  ·simp only [Hp.set,List.mem_cons,List.not_mem_nil,or_false] at hx
   simp at hx
   rcases hx with rfl|rfl|rfl|rfl|rfl|rfl|rfl|rfl<;>rfl
  subst hG
  subst hL
  refine mF (q:=q) hq ?_
  have e6:¬ 6=q:=by omega
  have e5:¬ 5=q:=by omega
  have e4:¬ 4=q:=by omega
  have e3:¬ 3=q:=by omega
  have e2:¬ 2=q:=by omega
  have e1:¬ 1=q:=by omega
  have e0:¬ 0=q:=by omega
  simp[Hp.set,Hp.get,e0,e1,e2,e3,e4,e5,e6]
end Go.Fz
namespace Go.Fz
open Go.Proofs
set_option maxRecDepth 100000
set_option maxHeartbeats 8000000 in
theorem pC (d:Ah)(hs:d.small)(hc:d.check=0)(f:Nat→Int)(l:List (Nat→Int))(ho:d.seen.outs=f::l) :
  Vd Try.prog 57 [Di d,.lit (.bool true)] (fun k=>.tup [Sn d (f::l) k,iV 0]) (Bp mkV d.seen.E) d.seen.cl:=by
 obtain⟨O,hO⟩:∃ O:Ar,O=std:=⟨_,rfl⟩
 have e1:=Mw d hs
 have e2:=Sv d hc
 rw[hc] at e1
 refine Jv tok 3 Try.func57 qF rfl ⟨Ax d,Below.lit,trivial⟩ (Gl _) ?_
 generalize Bp mkV d.seen.E=ME at e2 ⊢
 generalize d.seen.cl=cl at e2 ⊢
 rw[ho] at e2
 have hWW:Sn d (f::l)=fun k=>.agg [iV d.hand,iV d.flat,Dj d,Dx d,Eo d,.isl (l.length+1) 8 false (Jd d (f::l)),.mp k]:=rfl
 have hbel:=Mi d (f::l)
 rw[show outsI d (f::l)=.isl (l.length+1) 8 false (Jd d (f::l)) from rfl] at hbel
 rw[hWW] at e2 ⊢
 obtain⟨L,hL⟩:∃ L,l.length=L:=⟨_,rfl⟩
 rw[hL] at e2 hbel ⊢
 generalize Jd d (f::l)=G at e2 hbel ⊢
 refine SW.Ab tok hO (by cbv<;>rfl) (by trivial) ?_
 refine SW.seq ?_
 refine SW.Ab tok hO (by cbv<;>rfl) (by trivial) ?_
 refine Ac.Al e1 (by cbv<;>rfl) ?_
 refine Ac.run tok hO (by cbv<;>rfl) (by trivial) ?_
 refine SW.Ab tok hO (by cbv<;>rfl) (by trivial) ?_
 refine SW.Bd (by cbv<;>rfl) (fun h1=>?_) (fun h1=>SW.skip ?_)
 ·exfalso
  subst hO;simp[std] at h1
 refine SW.seq ?_
 refine SW.Ab tok hO (by cbv<;>rfl) (by trivial) ?_
 refine SW.cond (t:=false) (by cbv<;>rfl) (SW.skip ?_)
 refine SW.Ab tok hO (by cbv<;>rfl) (by trivial) ?_
 refine Ac.Ep e2.ent (e2.call _) (by cbv<;>rfl) fun v st' hk=>?_
 obtain⟨rfl,rfl⟩:=hk
 refine Ac.run tok hO (by cbv<;>rfl) (by trivial) ?_
 refine SW.seq ?_
 refine SW.Ab tok hO (by cbv<;>rfl) (by trivial) ?_
 refine SW.Bd (by cbv<;>rfl) (fun h2=>?_) (fun h2=>SW.skip ?_)
 ·exfalso
  subst hO;simp[std] at h2
  omega
 refine SW.Ab tok hO (by cbv<;>rfl) (by trivial) ?_
 refine SW.ret ⟨_,_,rfl,rfl,2,rfl,by rfl,?_⟩
 exact Ka.tup (rs:=fun k=>[.agg [iV d.hand,iV d.flat,Dj d,Dx d,Eo d,.isl (L+1) 8 false G,.mp k],iV 0])
  (.cons (Ka.agg (rs:=fun k=>[iV d.hand,iV d.flat,Dj d,Dx d,Eo d,.isl (L+1) 8 false G,.mp k]) (.cons (.closed Below.lit) (.cons (.closed Below.lit) (.cons (.closed (Be d)) (.cons (.closed (Bh d)) (.cons (.closed (Ci d)) (.cons (.closed hbel) (.cons .mp .nil)))))))) (.cons (.closed Below.lit) .nil))
set_option maxHeartbeats 8000000 in
theorem iI (d:Ah)(hs:d.small)(hc:d.check=0)(ho:d.seen.outs=[]):Pure Try.prog 57 [Di d,.lit (.bool true)] (.tup [.agg stZ,iV 11]):=by
 obtain⟨O,hO⟩:∃ O:Ar,O=std:=⟨_,rfl⟩
 have e1:=Mw d hs
 have e2:=Sv d hc
 rw[hc] at e1
 refine Ae tok 3 Try.func57 qF rfl ⟨Ax d,Below.lit,trivial⟩ (Below.tup (Br.ok ⟨Below.agg (Br.ok ⟨Below.lit,Below.lit,Below.lit,Below.lit,Below.lit,Below.lit,Below.lit,trivial⟩),Below.lit,trivial⟩)) ?_
 generalize Bp mkV d.seen.E=ME at e2
 generalize d.seen.cl=cl at e2
 rw[ho] at e2
 refine SW.Ab tok hO (by cbv<;>rfl) (by trivial) ?_
 refine SW.seq ?_
 refine SW.Ab tok hO (by cbv<;>rfl) (by trivial) ?_
 refine Ac.Al e1 (by cbv<;>rfl) ?_
 refine Ac.run tok hO (by cbv<;>rfl) (by trivial) ?_
 refine SW.Ab tok hO (by cbv<;>rfl) (by trivial) ?_
 refine SW.Bd (by cbv<;>rfl) (fun h1=>?_) (fun h1=>SW.skip ?_)
 ·exfalso
  subst hO;simp[std] at h1
 refine SW.seq ?_
 refine SW.Ab tok hO (by cbv<;>rfl) (by trivial) ?_
 refine SW.cond (t:=false) (by cbv<;>rfl) (SW.skip ?_)
 refine SW.Ab tok hO (by cbv<;>rfl) (by trivial) ?_
 refine Ac.Ep e2.ent (e2.call _) (by cbv<;>rfl) fun v st' hk=>?_
 obtain⟨rfl,rfl⟩:=hk
 refine Ac.run tok hO (by cbv<;>rfl) (by trivial) ?_
 refine SW.seq ?_
 refine SW.Ab tok hO (by cbv<;>rfl) (by trivial) ?_
 refine SW.Bd (by cbv<;>rfl) (fun h2=>?_) (fun h2=>?_)
 ·refine SW.Ab tok hO (by cbv<;>rfl) (by trivial) ?_
  exact SW.ret ⟨_,_,rfl,rfl,Eqv.of rfl⟩
 ·exfalso
  subst hO;simp[std] at h2
end Go.Fz
namespace Go.Fz
open Go.Proofs
set_option maxRecDepth 100000
section
variable {P:Program}{T:Ti}
end
end Go.Fz
namespace Go.Fz
open Go.Proofs
set_option maxRecDepth 100000
def lJ (len:Nat)(l:List (Nat × AV))(S:St)(e:Exit)(fm:Fm)(st:St):Prop:=e=.normal∧∃ g,fm=⟨⟨len,g⟩,[]⟩∧Hl (fun p=>g p.1=p.2) l∧st=S
end Go.Fz
namespace Go.Fz
variable {P:Program}{T:Ti}
def Ni (n:Nat):AObj→Prop
 | .map es _=>∀ x∈es,Below n x.1∧Below n x.2.1
 | .iter mid _ _ _=>mid<n
 | o=>Kt n o
theorem Cx.vY {φ:Fi}{w:World}{id n:Nat}{o:AObj}(hb:Ni n o)(h:Cx φ w id o):Cx (Jy φ n) w id o:=by
 cases o with
 | map es clock =>
  obtain⟨ces,h1,h2,h3⟩:=h
  exact⟨ces,h1,h2,fun i x hx=>by
   obtain⟨e,k1,k2,k3,k4⟩:=h3 i x hx
   obtain⟨b1,b2⟩:=hb x (List.mem_of_getElem? hx)
   exact⟨e,k1,b1 _ _ k2,b2 _ _ k3,k4⟩⟩
 | cells fm ro cs=>exact Cx.below (o:=.cells fm ro cs) hb h
 | loop r=>exact Cx.below (o:=.loop r) hb h
 | dfr=>exact h
 | iter mid b c d=>exact⟨h.1,h.2.1,hb⟩
structure Va (n:Nat)(f1:Fm)(st1:St)(f2:Fm)(st2:St):Prop where
 len:f2.ts.len=f1.ts.len
 dm:f2.dm=f1.dm
 dmlt:∀ id∈f2.dm,id<st2.n
 get:∀ i,f2.ts.get i=.any∨(f2.ts.get i=f1.ts.get i∧(st2.n=st1.n∨Below st2.n (f1.ts.get i)))
 lo:n≤st2.n
 hi:st2.n≤st1.n
 obj:∀ id o,st2.h.get id=some o→st1.h.get id=some o∧id<st2.n∧(st2.n=st1.n∨Ni st2.n o)
theorem Va.ok {n:Nat}{f1 f2:Fm}{st1 st2:St}(hw:Va n f1 st1 f2 st2){φ:Fi}{w:World}{a:Act}(hr:Rel φ st1 w)(ha:Cz φ f1 a) :
  Rel (Jy φ st2.n) st2 w∧Cz (Jy φ st2.n) f2 a∧Fr φ st1 w (Jy φ st2.n) st2 w:=by
 have hsame:st2.n=st1.n→Jy φ st2.n=φ:=fun h=>by cases φ;simp only [Jy,h,←hr.n]
 refine⟨⟨rfl,fun id o h=>(hw.obj id o h).2.1,fun id o h=>hr.blk id o (hw.obj id o h).1,fun id o h=>?_,fun i j oi oj hi hj=>hr.sep i j oi oj (hw.obj i oi hi).1 (hw.obj j oj hj).1,fun id o f h hf=>?_,fun b c hb=>?_⟩,⟨⟨?_,fun i=>?_⟩,?_,hw.dmlt⟩,
  ⟨rfl,rfl,rfl,Nat.le_refl _,fun _ _ _=>rfl,fun k ⟨id,o,h,ho,hb⟩=>.inl ⟨id,o,(hw.obj id o h).1,ho,hb⟩,fun b c hb=>.inl hb⟩⟩
 ·obtain⟨h1,h2,h3⟩:=hw.obj id o h
  rcases h3 with h3|h3
  ·rw[hsame h3];exact hr.obj id o h1
  ·exact(hr.obj id o h1).vY h3
 ·obtain⟨h1,h2,h3⟩:=hw.obj id o h
  rcases h3 with h3|h3
  ·rw[h3];exact hr.fam id o f h1 hf
  ·cases o with
   | cells fm ro cs=>exact h3.2 f hf
   | loop r=>cases hf
   | dfr=>cases hf
   | map es clock=>cases hf
   | iter a b c d=>cases hf
 ·obtain⟨h1,h2,h3⟩:=hr.Ct b c hb
  exact⟨h1,h2,fun id o h=>h3 id o (hw.obj id o h).1⟩
 ·rw[hw.len];exact ha.ts.size
 ·rcases hw.get i with h|⟨h,h2⟩
  ·rw[h];exact .any _
  ·rw[h]
   rcases h2 with h2|h2
   ·rw[hsame h2];exact ha.ts.get i
   ·exact h2 _ _ (ha.ts.get i)
 ·rw[hw.dm];exact ha.dm
theorem SW.wE {rd:Option Nat}{c:Code}{Q:Exit→Fm→St→Prop}{f:Fm}{st:St}(h:SW P rd c (fun e f1 st1=>Q e f1 st1∨∃ f2 st2,Va st.n f1 st1 f2 st2∧Q e f2 st2) f st):SW P rd c Q f st:=by
 intro φ w a n h1 h2 h3
 refine wpIn_mono (h φ w a n h1 h2 h3) fun e a' w' hl=>?_
 obtain⟨f1,st1,φ1,hq,he,hr,ha,hf⟩:=hl
 rcases hq with hq|⟨f2,st2,hw,hq⟩
 ·exact⟨f1,st1,φ1,hq,he,hr,ha,hf⟩
 ·obtain⟨k1,k2,k3⟩:=hw.ok hr ha
  refine⟨f2,st2,Jy φ1 st2.n,hq,⟨?_,he.f,he.z⟩,k1,k2,hf.trans k3⟩
  rw[h2.n];exact hw.lo
theorem SW.wY {α:Type}{rd:Option Nat}{c:Code}{Q:Exit→Fm→St→Prop}{f:Fm}{st:St}(F:α→Fm)(S:α→St)(m:α→Nat)(Inv:α→Prop)(x0:α)(hn:∀ x,(S x).n=st.n)(h0:Inv x0)(hw:Cw st.n f st (F x0) (S x0))
  (hround:∀ x,Inv x→SW P rd c (Lz (fun f' st'=>∃ x',m x'<m x∧Inv x'∧Va st.n f' st' (F x') (S x')) Q) (F x) (S x)):SW P rd (.loop c) Q f st:=by
 refine SW.pre hw (SW.loop (fun k f st=>∃ x,Inv x∧m x=k∧f=F x∧st=S x) (m x0) ⟨x0,h0,rfl,rfl,rfl⟩ fun k f' st' ⟨x,hx,hk,hf,hs⟩=>?_)
 subst hf;subst hs;subst hk
 refine SW.wE ((hround x hx).mono fun e f1 st1 hq=>?_)
 cases e with
 | normal =>
  obtain⟨x',h1,h2,h3⟩:=hq
  exact .inr ⟨F x',S x',by rw[hn];exact h3,m x',h1,x',h2,rfl,rfl,rfl⟩
 | _=>exact .inl hq
def gL (q:Prop)(n:Nat)(h1:Hp):Hp→Prop
 | []=>True
 | x::l=>(h1.get x.1=some x.2∧x.1<n∧(q∨Ni n x.2))∧gL q n h1 l
theorem gL.ok {q:Prop}{n:Nat}{h1:Hp}:∀ {h:Hp},gL q n h1 h→∀ x∈h,h1.get x.1=some x.2∧x.1<n∧(q∨Ni n x.2)
 | [],_,x,h=>by cases h
 | y::l,h,x,hx=>by
  rcases List.mem_cons.1 hx with rfl|hx
  ·exact h.1
  ·exact h.2.ok x hx
theorem Va.by {n:Nat}{f1:Fm}{st1:St}{l:List (Nat × AV)}{len:Nat}{dm:List Nat}{h2:Hp}{n2:Nat}(e1:len=f1.ts.len)(e2:dm=f1.dm)(e3:∀ id∈dm,id<n2)(e5:n≤n2)(e6:n2≤st1.n)
  (e4:oI (n2=st1.n) n2 f1.ts.get l)(e7:gL (n2=st1.n) n2 st1.h h2):Va n f1 st1 ⟨⟨len,getT l⟩,dm⟩ ⟨h2,n2⟩ :=
 ⟨e1,e2,e3,Qs l e4.ok,e5,e6,Hp.fW _ e7.ok⟩
end Go.Fz
namespace Go.Fz
variable {P:Program}{T:Ti}
def Iu (j:Nat):Bool:=!(Nat.beq j 0)&&!(Nat.beq j 1)
def roM (es:List (AV × AV × Nat))(clock:Nat):St:=⟨[(1,.cells none true [.mp 0]),(0,.map es clock)],2⟩
theorem Jh {es:List (AV × AV × Nat)}{clock id:Nat}{o:AObj}(h:(roM es clock).h.get id=some o):(id=1∧o=.cells none true [.mp 0])∨(id=0∧o=.map es clock):=by
 simp only [roM,Hp.get] at h
 split at h
 ·rename_i hi;cases h;exact .inl ⟨hi.symm,rfl⟩
 ·split at h
  ·rename_i hi;cases h;exact .inr ⟨hi.symm,rfl⟩
  ·cases h
theorem nS {g:FuncId}{args args2:List AV}{r:AV}{m mid bid:Nat}{fm:Option Nat}{ro:Bool}{es:List (AV × AV × Nat)}{clock:Nat}{st:St}(hm:st.h.get mid=some (.map es clock))(hb:st.h.get bid=some (.cells fm ro [.mp mid]))
  (hes:∀ x∈es,Below 0 x.1∧Below 0 x.2.1)(hr:Below 0 r)
  (ha:∀ (φ:Fi)(us:List Value),VRL φ args us→VRL ⟨fun i=>if i=0 then φ.f mid else φ.f bid,2,φ.z⟩ args2 us)
  (h:At P g args2 (roM es clock) (fun v st'=>st'.h.get 0=some (.map es clock)∧freeB st'.h Iu=true∧Eqv (frz st'.h Iu m v) r)):At P g args st (fun v st'=>v=r∧st'=st):=by
 intro φ w cargs n hrel hargs
 obtain⟨φ0,hφ0⟩:∃ φ0:Fi,φ0=⟨fun i=>if i=0 then φ.f mid else φ.f bid,2,φ.z⟩:=⟨_,rfl⟩
 have f0:φ0.f 0=φ.f mid:=by rw[hφ0];rfl
 have f1:φ0.f 1=φ.f bid:=by rw[hφ0];rfl
 have n0:φ0.n=2:=by rw[hφ0]
 have z0:φ0.z=φ.z:=by rw[hφ0]
 have hne:mid≠bid:=fun e=>by rw[e,hb] at hm;cases hm
 have closed:∀ {a:AV}{v:Value},Below 0 a→VR φ a v→VR φ0 a v:=fun hb h =>
  VR.mono (φ:=⟨φ.f,0,φ.z⟩) (φ':=φ0) ⟨Nat.zero_le _,fun id hid=>absurd hid (Nat.not_lt_zero id),fun b c hb=>by rw[z0];exact hb⟩ (hb _ _ h)
 have hblk:(φ.f mid).b≠(φ.f bid).b:=fun he=>by
  obtain⟨⟨f,hf,_⟩,_⟩:=hrel.sep mid bid _ _ hm hb hne rfl he
  cases hf
 have hrel0:Rel φ0 (roM es clock) w:=by
  refine⟨n0,fun j o h=>?_,fun j o h=>?_,fun j o h=>?_,fun i j oi oj hi hj hij ho hbb=>?_,fun j o f h hf=>?_,fun b c hb'=>?_⟩
  ·rcases Jh h with ⟨rfl,rfl⟩|⟨rfl,rfl⟩<;>(show _<2;omega)
  ·rcases Jh h with ⟨rfl,rfl⟩|⟨rfl,rfl⟩
   ·rw[f1];exact hrel.blk _ _ hb
   ·rw[f0];exact hrel.blk _ _ hm
  ·rcases Jh h with ⟨rfl,rfl⟩|⟨rfl,rfl⟩
   ·refine⟨fun i a hi=>?_,fun h=>by cases h⟩
    obtain⟨v,h1,h2⟩:=(hrel.obj bid _ hb).1 0 (.mp mid) rfl
    cases i with
    | zero =>
     cases hi
     obtain⟨rfl,_⟩:=h2.Ml
     have hv:=VR.mp (φ:=φ0) 0 (by rw[n0];omega)
     rw[f0] at hv
     exact⟨_,by rw[f1];exact h1,hv⟩
    | succ i=>cases hi
   ·obtain⟨ces,h1,h2,h3⟩:=hrel.obj mid _ hm
    refine⟨ces,by rw[f0];exact h1,h2,fun i x hx=>?_⟩
    obtain⟨e,k1,k2,k3,k4⟩:=h3 i x hx
    obtain⟨b1,b2⟩:=hes x (List.mem_of_getElem? hx)
    exact⟨e,k1,closed b1 k2,closed b2 k3,k4⟩
  ·exfalso
   rcases Jh hi with ⟨rfl,rfl⟩|⟨rfl,rfl⟩
   ·cases ho
   ·rcases Jh hj with ⟨rfl,rfl⟩|⟨rfl,rfl⟩
    ·rw[f0,f1] at hbb;exact hblk hbb
    ·exact hij rfl
  ·rcases Jh h with ⟨rfl,rfl⟩|⟨rfl,rfl⟩<;>cases hf
  ·obtain⟨h1,h2,h3⟩:=hrel.Ct b c (by rw[←z0];exact hb')
   refine⟨h1,h2,fun j o h ho=>?_⟩
   rcases Jh h with ⟨rfl,rfl⟩|⟨rfl,rfl⟩
   ·cases ho
   ·rw[f0];exact h3 mid _ hm rfl
 refine(h φ0 w cargs n hrel0 (by have:=ha φ _ hargs;rw[hφ0];exact this)).mono fun e w1 hp=>?_
 obtain⟨v,cv,st1,φ1,rfl,⟨hmap,hfree,hv⟩,hvr,hext,hrel1,hfr⟩:=hp
 obtain⟨hrel2,hfr2⟩:=hrel1.freeze hfree
 have hvr2:=Ju (D:=Iu) hrel1 m hvr
 replace hvr2:=hv _ _ hvr2
 have hfr3:=hfr.trans hfr2
 have e0:φ1.f 0=φ.f mid:=(hext.f 0 (by rw[n0];omega)).trans f0
 have hown:∀ b,Fo φ0 (roM es clock) b→b=(φ.f mid).b:=fun b ⟨j,o,h,ho,hb⟩=>by
  rcases Jh h with ⟨rfl,rfl⟩|⟨rfl,rfl⟩
  ·cases ho
  ·rw[←hb,f0]
 have hkeep:(st1.Gd fun i=>!Iu i).h.get 0=some (.map es clock):=Hp.Ot (p:=fun i=>!Iu i) hmap (by rfl)
 have hzs:∀ b c,zOf φ1 st1.h Iu w1 b=some c→φ.z b=some c∨w.heap.size≤b:=fun b c hb=>by
  rcases hfr3.zs b c hb with h|h|h
  ·exact .inl (by rw[←z0];exact h)
  ·exfalso
   exact(hrel2.Ct b c hb).2.2 0 _ hkeep rfl (by show(φ1.f 0).b=b;rw[e0,hown b h])
  ·exact .inr h
 have hext3:Ext φ ⟨φ.f,φ.n,zOf φ1 st1.h Iu w1⟩:=⟨Nat.le_refl _,fun _ _=>rfl,fun b c hb=>Ku (hext.z b c (by rw[z0];exact hb))⟩
 have hback:∀ {a:AV}{v:Value},Below 0 a→VR ⟨φ1.f,φ1.n,zOf φ1 st1.h Iu w1⟩ a v→VR ⟨φ.f,φ.n,zOf φ1 st1.h Iu w1⟩ a v:=fun hb h =>
  VR.mono (φ:=⟨φ1.f,0,zOf φ1 st1.h Iu w1⟩) (φ':=⟨φ.f,φ.n,zOf φ1 st1.h Iu w1⟩) ⟨Nat.zero_le _,fun id hid=>absurd hid (Nat.not_lt_zero id),fun b c hb=>hb⟩ (hb _ _ h)
 have hsame:∀ k,k<w.heap.size→k≠(φ.f mid).b→w1.heap[k]?=w.heap[k]?:=fun k hk hne=>hfr3.block k hk fun ho=>hne (hown k ho)
 refine⟨r,cv,st,⟨φ.f,φ.n,zOf φ1 st1.h Iu w1⟩,rfl,⟨rfl,rfl⟩,hback hr hvr2,hext3,?_,?_⟩
 ·refine⟨hrel.n,hrel.lt,fun id o ho=>Nat.lt_of_lt_of_le (hrel.blk id o ho) hfr3.size,fun id o ho=>?_,hrel.sep,hrel.fam,fun b c hb=>?_⟩
  ·by_cases hi:id=mid
   ·subst hi
    rw[hm] at ho;cases ho
    obtain⟨ces,h1,h2,h3⟩:=hrel1.obj 0 _ hmap
    refine⟨ces,by rw[←h1,e0],h2,fun i x hx=>?_⟩
    obtain⟨e,k1,k2,k3,k4⟩:=h3 i x hx
    obtain⟨b1,b2⟩:=hes x (List.mem_of_getElem? hx)
    have hz:Ext φ1 ⟨φ1.f,φ1.n,zOf φ1 st1.h Iu w1⟩:=⟨Nat.le_refl _,fun _ _=>rfl,fun b c hb=>Ku hb⟩
    exact⟨e,k1,hback b1 (k2.mono hz),hback b2 (k3.mono hz),k4⟩
   ·refine(hrel.obj id o ho).same hext3 (by rw[hrel.n];exact hrel.lt id o ho) (hsame _ (hrel.blk id o ho) fun he=>?_)
    obtain⟨⟨f,hf,_⟩,_⟩:=hrel.sep mid id _ o hm ho (Ne.symm hi) rfl he.symm
    cases hf
  ·obtain⟨h1,h2,_⟩:=hrel2.Ct b c hb
   refine⟨h1,h2,fun id o ho hown' hbb=>?_⟩
   rcases hzs b c hb with h3|h3
   ·exact(hrel.Ct b c h3).2.2 id o ho hown' hbb
   ·have:=hrel.blk id o ho
    have hbb':(φ.f id).b=b:=hbb
    omega
 ·exact⟨hfr3.os,hfr3.tape,hfr3.output,hfr3.size,fun k hk hno=>hsame k hk (fun he=>hno ⟨mid,_,hm,rfl,he.symm⟩),fun k hk=>.inl hk,fun b c hb=>(hzs b c hb).elim .inl fun h=>.inr (.inr h)⟩
theorem At.wR {g:FuncId}{st:St}{k:AV→St→Prop}(A:AV→List AV){id:Nat}(hA:∀ (φ:Fi)(us:List Value),VRL φ (A (.mp id)) us→∃ b,VRL φ (A (.lit (.map b))) us)(h:∀ b,At P g (A (.lit (.map b))) st k):At P g (A (.mp id)) st k:=fun φ w cargs n h1 h2=>by
 obtain⟨b,hb⟩:=hA φ _ h2
 exact h b φ w cargs n h1 hb
end Go.Fz
