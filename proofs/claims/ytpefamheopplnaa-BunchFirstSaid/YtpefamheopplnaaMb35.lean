/- Own work of the verifier of watercress: FzC13, FzC14, FzC15, FzC16, FzC17, FzC18, FzC19, FzC20, FzC21, FzC22, FzC23, FzC24, FzD1, FzD2. -/
import Derived.Test.YtpefamheopplnaaMb34
import Derived.Test.YtpefamheopplnaaMb33
set_option linter.unusedVariables false
set_option linter.unusedSimpArgs false
namespace Go.Fz
open Go.Proofs
set_option maxRecDepth 100000
set_option maxHeartbeats 8000000 in
theorem open_ok (d:qai)(hs:d.small)(hc:d.check=0)(f:Nat→Int)(l:List (Nat→Int))(ho:d.seen.outs=f::l) :
    qpc Try.prog 57 [qdp d,.lit (.bool true)] (fun k=>.tup [qn3 d (f::l) k,iV 0]) (qcp mkV d.seen.E) d.seen.cl:=by
  obtain⟨O,hO⟩:∃ O:Ar,O=std:=⟨_,rfl⟩
  have e1:=qg6 d hs
  have e2:=qlz d hc
  rw[hc] at e1
  refine qe6 tok 3 Try.func57 en57 rfl ⟨qal d,Below.lit,trivial⟩ (qe2 _) ?_
  generalize qcp mkV d.seen.E=ME at e2 ⊢
  generalize d.seen.cl=cl at e2 ⊢
  rw[ho] at e2
  have hWW:qn3 d (f::l)=fun k=>.agg [iV d.hand,iV d.flat,qcv d,qdg d,qd8 d,.isl (l.length+1) 8 false (qkn d (f::l)),.mp k]:=rfl
  have hbel:=qjo d (f::l)
  rw[show outsI d (f::l)=.isl (l.length+1) 8 false (qkn d (f::l)) from rfl] at hbel
  rw[hWW] at e2 ⊢
  obtain⟨L,hL⟩:∃ L,l.length=L:=⟨_,rfl⟩
  rw[hL] at e2 hbel ⊢
  generalize qkn d (f::l)=G at e2 hbel ⊢
  refine SW.qab tok hO (by cbv <;> rfl) (by trivial) ?_
  refine SW.seq ?_
  refine SW.qab tok hO (by cbv <;> rfl) (by trivial) ?_
  refine qac.qas e1 (by cbv <;> rfl) ?_
  refine qac.run tok hO (by cbv <;> rfl) (by trivial) ?_
  refine SW.qab tok hO (by cbv <;> rfl) (by trivial) ?_
  refine SW.qa6 (by cbv <;> rfl) (fun h1=>?_) (fun h1=>SW.skip ?_)
  · exfalso
    subst hO;simp[std] at h1
  refine SW.seq ?_
  refine SW.qab tok hO (by cbv <;> rfl) (by trivial) ?_
  refine SW.cond (t:=false) (by cbv <;> rfl) (SW.skip ?_)
  refine SW.qab tok hO (by cbv <;> rfl) (by trivial) ?_
  refine qac.qdu e2.ent (e2.call _) (by cbv <;> rfl) fun v st' hk=>?_
  obtain⟨rfl,rfl⟩:=hk
  refine qac.run tok hO (by cbv <;> rfl) (by trivial) ?_
  refine SW.seq ?_
  refine SW.qab tok hO (by cbv <;> rfl) (by trivial) ?_
  refine SW.qa6 (by cbv <;> rfl) (fun h2=>?_) (fun h2=>SW.skip ?_)
  · exfalso
    subst hO;simp[std] at h2
    omega
  refine SW.qab tok hO (by cbv <;> rfl) (by trivial) ?_
  refine SW.ret ⟨_,_,rfl,rfl,2,rfl,by rfl,?_⟩
  exact qkw.tup (rs:=fun k=>[.agg [iV d.hand,iV d.flat,qcv d,qdg d,qd8 d,.isl (L+1) 8 false G,.mp k],iV 0])
    (.cons (qkw.agg (rs:=fun k=>[iV d.hand,iV d.flat,qcv d,qdg d,qd8 d,.isl (L+1) 8 false G,.mp k]) (.cons (.closed Below.lit) (.cons (.closed Below.lit) (.cons (.closed (qau d)) (.cons (.closed (qa0 d)) (.cons (.closed (qbl d)) (.cons (.closed hbel) (.cons .mp .nil)))))))) (.cons (.closed Below.lit) .nil))
set_option maxHeartbeats 8000000 in
theorem qtv (d:qai)(hs:d.small)(hc:d.check=0)(ho:d.seen.outs=[]):Pure Try.prog 57 [qdp d,.lit (.bool true)] (.tup [.agg stZ,iV 11]):=by
  obtain⟨O,hO⟩:∃ O:Ar,O=std:=⟨_,rfl⟩
  have e1:=qg6 d hs
  have e2:=qlz d hc
  rw[hc] at e1
  refine qad tok 3 Try.func57 en57 rfl ⟨qal d,Below.lit,trivial⟩ (Below.tup (qb2.ok ⟨Below.agg (qb2.ok ⟨Below.lit,Below.lit,Below.lit,Below.lit,Below.lit,Below.lit,Below.lit,trivial⟩),Below.lit,trivial⟩)) ?_
  generalize qcp mkV d.seen.E=ME at e2
  generalize d.seen.cl=cl at e2
  rw[ho] at e2
  refine SW.qab tok hO (by cbv <;> rfl) (by trivial) ?_
  refine SW.seq ?_
  refine SW.qab tok hO (by cbv <;> rfl) (by trivial) ?_
  refine qac.qas e1 (by cbv <;> rfl) ?_
  refine qac.run tok hO (by cbv <;> rfl) (by trivial) ?_
  refine SW.qab tok hO (by cbv <;> rfl) (by trivial) ?_
  refine SW.qa6 (by cbv <;> rfl) (fun h1=>?_) (fun h1=>SW.skip ?_)
  · exfalso
    subst hO;simp[std] at h1
  refine SW.seq ?_
  refine SW.qab tok hO (by cbv <;> rfl) (by trivial) ?_
  refine SW.cond (t:=false) (by cbv <;> rfl) (SW.skip ?_)
  refine SW.qab tok hO (by cbv <;> rfl) (by trivial) ?_
  refine qac.qdu e2.ent (e2.call _) (by cbv <;> rfl) fun v st' hk=>?_
  obtain⟨rfl,rfl⟩:=hk
  refine qac.run tok hO (by cbv <;> rfl) (by trivial) ?_
  refine SW.seq ?_
  refine SW.qab tok hO (by cbv <;> rfl) (by trivial) ?_
  refine SW.qa6 (by cbv <;> rfl) (fun h2=>?_) (fun h2=>?_)
  · refine SW.qab tok hO (by cbv <;> rfl) (by trivial) ?_
    exact SW.ret ⟨_,_,rfl,rfl,Eqv.of rfl⟩
  · exfalso
    subst hO;simp[std] at h2
end Go.Fz
namespace Go.Fz
open Go.Proofs
set_option maxRecDepth 100000
section
variable {P:Program}{T:Ti}
end
end Go.Fz
namespace Go.Fz
open Go.Proofs
set_option maxRecDepth 100000
def midK (len:Nat)(l:List (Nat × AV))(S:St)(e:Exit)(fm:Fm)(st:St):Prop:=e=.normal∧∃ g,fm=⟨⟨len,g⟩,[]⟩∧qm5 (fun p=>g p.1=p.2) l∧st=S
end Go.Fz
namespace Go.Fz
variable {P:Program}{T:Ti}
def qhu (n:Nat):AObj→Prop
  | .map es _=>∀ x∈es,Below n x.1∧Below n x.2.1
  | .iter mid _ _ _=>mid<n
  | o=>qf8 n o
theorem qc9.belowM {φ:Fi}{w:World}{id n:Nat}{o:AObj}(hb:qhu n o)(h:qc9 φ w id o):qc9 (qmy φ n) w id o:=by
  cases o with
  | map es clock =>
    obtain⟨ces,h1,h2,h3⟩:=h
    exact⟨ces,h1,h2,fun i x hx=>by
      obtain⟨e,k1,k2,k3,k4⟩:=h3 i x hx
      obtain⟨b1,b2⟩:=hb x (List.mem_of_getElem? hx)
      exact⟨e,k1,b1 _ _ k2,b2 _ _ k3,k4⟩⟩
  | cells fm ro cs=>exact qc9.below (o:=.cells fm ro cs) hb h
  | loop r=>exact qc9.below (o:=.loop r) hb h
  | dfr=>exact h
  | iter mid b c d=>exact⟨h.1,h.2.1,hb⟩
structure qny (n:Nat)(f1:Fm)(st1:St)(f2:Fm)(st2:St):Prop where
  len:f2.ts.len=f1.ts.len
  dm:f2.dm=f1.dm
  dmlt:∀ id∈f2.dm,id<st2.n
  get:∀ i,f2.ts.get i=.any∨(f2.ts.get i=f1.ts.get i∧(st2.n=st1.n∨Below st2.n (f1.ts.get i)))
  lo:n≤st2.n
  hi:st2.n≤st1.n
  obj:∀ id o,st2.h.get id=some o→st1.h.get id=some o∧id<st2.n∧(st2.n=st1.n∨qhu st2.n o)
theorem qny.ok {n:Nat}{f1 f2:Fm}{st1 st2:St}(hw:qny n f1 st1 f2 st2){φ:Fi}{w:World}{a:Act}(hr:Rel φ st1 w)(ha:qdb φ f1 a) :
    Rel (qmy φ st2.n) st2 w∧qdb (qmy φ st2.n) f2 a∧Fr φ st1 w (qmy φ st2.n) st2 w:=by
  have hsame:st2.n=st1.n→qmy φ st2.n=φ:=fun h=>by cases φ;simp only [qmy,h,←hr.n]
  refine⟨⟨rfl,fun id o h=>(hw.obj id o h).2.1,fun id o h=>hr.blk id o (hw.obj id o h).1,fun id o h=>?_,fun i j oi oj hi hj=>hr.sep i j oi oj (hw.obj i oi hi).1 (hw.obj j oj hj).1,fun id o f h hf=>?_,fun b c hb=>?_⟩,⟨⟨?_,fun i=>?_⟩,?_,hw.dmlt⟩,
    ⟨rfl,rfl,rfl,Nat.le_refl _,fun _ _ _=>rfl,fun k ⟨id,o,h,ho,hb⟩=>.inl ⟨id,o,(hw.obj id o h).1,ho,hb⟩,fun b c hb=>.inl hb⟩⟩
  · obtain⟨h1,h2,h3⟩:=hw.obj id o h
    rcases h3 with h3 | h3
    · rw[hsame h3];exact hr.obj id o h1
    · exact(hr.obj id o h1).belowM h3
  · obtain⟨h1,h2,h3⟩:=hw.obj id o h
    rcases h3 with h3 | h3
    · rw[h3];exact hr.fam id o f h1 hf
    · cases o with
      | cells fm ro cs=>exact h3.2 f hf
      | loop r=>cases hf
      | dfr=>cases hf
      | map es clock=>cases hf
      | iter a b c d=>cases hf
  · obtain⟨h1,h2,h3⟩:=hr.qdk b c hb
    exact⟨h1,h2,fun id o h=>h3 id o (hw.obj id o h).1⟩
  · rw[hw.len];exact ha.ts.size
  · rcases hw.get i with h | ⟨h,h2⟩
    · rw[h];exact .any _
    · rw[h]
      rcases h2 with h2 | h2
      · rw[hsame h2];exact ha.ts.get i
      · exact h2 _ _ (ha.ts.get i)
  · rw[hw.dm];exact ha.dm
theorem SW.weakM {rd:Option Nat}{c:Code}{Q:Exit→Fm→St→Prop}{f:Fm}{st:St}(h:SW P rd c (fun e f1 st1=>Q e f1 st1∨∃ f2 st2,qny st.n f1 st1 f2 st2∧Q e f2 st2) f st):SW P rd c Q f st:=by
  intro φ w a n h1 h2 h3
  refine wpIn_mono (h φ w a n h1 h2 h3) fun e a' w' hl=>?_
  obtain⟨f1,st1,φ1,hq,he,hr,ha,hf⟩:=hl
  rcases hq with hq | ⟨f2,st2,hw,hq⟩
  · exact⟨f1,st1,φ1,hq,he,hr,ha,hf⟩
  · obtain⟨k1,k2,k3⟩:=hw.ok hr ha
    refine⟨f2,st2,qmy φ1 st2.n,hq,⟨?_,he.f,he.z⟩,k1,k2,hf.trans k3⟩
    rw[h2.n];exact hw.lo
theorem SW.loopM {α:Type}{rd:Option Nat}{c:Code}{Q:Exit→Fm→St→Prop}{f:Fm}{st:St}(F:α→Fm)(S:α→St)(m:α→Nat)(Inv:α→Prop)(x0:α)(hn:∀ x,(S x).n=st.n)(h0:Inv x0)(hw:qdt st.n f st (F x0) (S x0))
    (hround:∀ x,Inv x→SW P rd c (qjf (fun f' st'=>∃ x',m x'<m x∧Inv x'∧qny st.n f' st' (F x') (S x')) Q) (F x) (S x)):SW P rd (.loop c) Q f st:=by
  refine SW.pre hw (SW.loop (fun k f st=>∃ x,Inv x∧m x=k∧f=F x∧st=S x) (m x0) ⟨x0,h0,rfl,rfl,rfl⟩ fun k f' st' ⟨x,hx,hk,hf,hs⟩=>?_)
  subst hf;subst hs;subst hk
  refine SW.weakM ((hround x hx).mono fun e f1 st1 hq=>?_)
  cases e with
  | normal =>
    obtain⟨x',h1,h2,h3⟩:=hq
    exact .inr ⟨F x',S x',by rw[hn];exact h3,m x',h1,x',h2,rfl,rfl,rfl⟩
  | _=>exact .inl hq
def AllOM (q:Prop)(n:Nat)(h1:Hp):Hp→Prop
  | []=>True
  | x::l=>(h1.get x.1=some x.2∧x.1<n∧(q∨qhu n x.2))∧AllOM q n h1 l
theorem AllOM.ok {q:Prop}{n:Nat}{h1:Hp}:∀ {h:Hp},AllOM q n h1 h→∀ x∈h,h1.get x.1=some x.2∧x.1<n∧(q∨qhu n x.2)
  | [],_,x,h=>by cases h
  | y::l,h,x,hx=>by
    rcases List.mem_cons.1 hx with rfl | hx
    · exact h.1
    · exact h.2.ok x hx
theorem qny.by {n:Nat}{f1:Fm}{st1:St}{l:List (Nat × AV)}{len:Nat}{dm:List Nat}{h2:Hp}{n2:Nat}(e1:len=f1.ts.len)(e2:dm=f1.dm)(e3:∀ id∈dm,id<n2)(e5:n≤n2)(e6:n2≤st1.n)
    (e4:AllW (n2=st1.n) n2 f1.ts.get l)(e7:AllOM (n2=st1.n) n2 st1.h h2):qny n f1 st1 ⟨⟨len,getT l⟩,dm⟩ ⟨h2,n2⟩ :=
  ⟨e1,e2,e3,qj2 l e4.ok,e5,e6,Hp.quv _ e7.ok⟩
end Go.Fz
namespace Go.Fz
open Go.Proofs
set_option maxRecDepth 100000
def outX (nw nl:Nat)(A B C D:Nat→Nat→Int)(a b c e:Nat→Int)(i k:Nat):AV:=match k with
  | 0=>qap nw false (A i)
  | 1=>qap nl false (B i)
  | 2=>qap nw false (C i)
  | 3=>qap nw false (D i)
  | 4=>iV (a i)
  | 5=>iV (b i)
  | 6=>iV (c i)
  | _=>iV (e i)
def qga (l:List (Nat→Int))(i:Nat):Nat→Int:=l.getD i (fun _=>0)
theorem outG_X (d:qai)(l:List (Nat→Int)):qkn d l=outX d.nw d.nl (fun i=>qga l i) (fun i j=>qga l i (d.nw+j)) (fun i=>d.bun (qc0 d (qga l i))) (fun i=>d.lef (qc0 d (qga l i)))
    (fun i=>(d.qbc (qc0 d (qga l i))).hands) (fun i=>(d.qbc (qc0 d (qga l i))).loose) (fun i=>(d.qbc (qc0 d (qga l i))).flats) (fun i=>(d.qbc (qc0 d (qga l i))).spare):=by
  funext i k
  match k with
  | 0 | 1 | 2 | 3 | 4 | 5 | 6=>rfl
  | _+7=>rfl
theorem qpi {β:Type} [DecidableEq β] {E:List (β × Nat)}{x b:β}{c:Nat}:x∈(qhy E b c).map (·.1)↔x∈E.map (·.1)∨x=b:=by
  unfold qhy
  split
  · rename_i h
    exact⟨.inl,fun h2=>h2.elim id fun e=>by rw[e];exact h⟩
  · simp
end Go.Fz
namespace Go.Fz
open Go.Proofs
set_option maxRecDepth 100000
theorem qrv (d:qai)(hc:d.check=0):d.seen.outs.length≤2000:=by
  have h1:=qj4 (stNx d) (fun a=>a.outs.length) (d.nw+d.nl) d.ulo d.uhi (fun a f=>qp2 d a f) (d.nw+d.nl) 0 (fun _=>0) pr0
  have h2:=qnw hc
  have h3:pr0.outs.length=0:=rfl
  have h4:d.seen.outs.length≤pr0.outs.length+qse d.ulo d.uhi (d.nw+d.nl) 0:=h1
  omega
end Go.Fz
namespace Go.Fz
section
variable {P:Program}{T:Ti}
def esOf (st:St)(a:AV):Option (Nat × List (AV × AV × Nat) × Nat):=match a with
  | .mp id=>match st.h.get id with
    | some (.map es clock)=>some (id,es,clock)
    | _=>none
  | _=>none
theorem qfc {φ:Fi}{st:St}{w:World}{a:AV}{u:Value}{id clock:Nat}{es:List (AV × AV × Nat)}(hr:Rel φ st w)(ha:VR φ a u)(h:esOf st a=some (id,es,clock)) :
    u=.map (some (φ.f id).b)∧id<φ.n∧st.h.get id=some (.map es clock)∧∃ ces:Array MapEntry,w.heap[(φ.f id).b]?=some (.map ces clock)∧ces.size=es.length ∧
      ∀ (i:Nat)(x:AV × AV × Nat),es[i]?=some x→∃ e,ces[i]?=some e∧VR φ x.1 e.key∧VR φ x.2.1 e.val∧e.born=x.2.2:=by
  unfold esOf at h
  split at h
  · rename_i id'
    split at h
    · rename_i es' clock' ho
      cases h
      obtain⟨h1,h2⟩:=ha.qiv
      exact⟨h1,h2,ho,hr.obj _ _ ho⟩
    · cases h
  · cases h
def itOf (st:St)(a:AV):Option (Nat × Nat × Nat × List Nat × Nat):=match a with
  | .ptr rid 0=>match st.h.get rid with
    | some (.iter mid since seen last)=>some (rid,mid,since,seen,last)
    | _=>none
  | _=>none
theorem qjz {φ:Fi}{st:St}{w:World}{a:AV}{u:Value}{rid mid since last:Nat}{seen:List Nat}(hr:Rel φ st w)(ha:VR φ a u)(h:itOf st a=some (rid,mid,since,seen,last)) :
    u=.pointer (some ⟨(φ.f rid).b,0,none⟩)∧st.h.get rid=some (.iter mid since seen last)∧w.heap[(φ.f rid).b]?=some (.mapIter (some (φ.f mid).b) since seen.toArray last)∧(φ.f rid).o=0∧mid<φ.n:=by
  unfold itOf at h
  split at h
  · rename_i rid'
    split at h
    · rename_i mid' since' seen' last' ho
      cases h
      obtain⟨h1,h2⟩:=ha.qca
      obtain⟨h3,h4,h5⟩:=hr.obj _ _ ho
      exact⟨by rw[h1,h4],ho,h3,h4,h5⟩
    · cases h
  · cases h
def qcr (es:List (AV × AV × Nat)):Bool:=decide ((es.map fun x=>x.2.2).Nodup)
theorem qmf {hT:TOk P T}{φ:Fi}{st:St}{w:World}{t kt:TypeId}{a:AV}{u:Value}{id clock:Nat}{es:List (AV × AV × Nat)}(hr:Rel φ st w)(ha:VR φ a u)(hd:mapD T t=some kt)(h:esOf st a=some (id,es,clock)) :
    ∃ φ' w' v,(Instr.range t u).run P w=.ok v w'∧VR φ' (.ptr st.n 0) v∧Rel φ' (st.push (.iter id clock [] clock)) w'∧Ext φ φ'∧Fr φ st w φ' (st.push (.iter id clock [] clock)) w':=by
  obtain⟨e,hu⟩:=qjr hT hd
  obtain⟨rfl,hid,ho,ces,hb,hsz,hes⟩:=qfc hr ha h
  have hrun:=run_range_map (P:=P) w t kt e (φ.f id).b ces clock hu hb
  have hp:=hr.push (.mapIter (some (φ.f id).b) clock #[] clock) (.iter id clock [] clock) ⟨w.heap.size,0,0⟩ rfl (by
    refine⟨?_,by rw[Fi.qae],by rw[Fi.qge];exact Nat.lt_succ_of_lt hid⟩
    rw[Fi.qae,(φ.qan _).f id hid]
    exact qaw w _) (fun _ h=>by cases h)
  refine⟨_,_,_,hrun,?_,hp.1,φ.qan _,hp.2⟩
  have hv:=VR.ptr (φ:=φ.push ⟨w.heap.size,0,0⟩) φ.n 0 (by rw[Fi.qge];omega)
  rw[Fi.qae] at hv
  rw[←hr.n]
  exact hv
theorem qqc {φ:Fi}{es:List (AV × AV × Nat)}{ces:Array MapEntry}{seen:List Nat}(hsz:ces.size=es.length)(hes:∀ (i:Nat)(x:AV × AV × Nat),es[i]?=some x→∃ e,ces[i]?=some e∧VR φ x.1 e.key∧VR φ x.2.1 e.val∧e.born=x.2.2){e:MapEntry}(he:e∈ces.toList) :
    ∃ x∈es,VR φ x.1 e.key∧VR φ x.2.1 e.val∧e.born=x.2.2:=by
  obtain⟨i,hi,he2⟩:=List.getElem_of_mem he
  have hil:i<es.length:=by rw[←hsz];simpa using hi
  obtain⟨e',h1,h2,h3,h4⟩:=hes i es[i] (List.getElem?_eq_getElem hil)
  have:e'=e:=by
    rw[←Array.getElem?_toList,List.getElem?_eq_getElem hi,he2] at h1
    exact(Option.some.inj h1).symm
  subst this
  exact⟨es[i],List.getElem_mem hil,h2,h3,h4⟩
theorem qnd {φ:Fi}{es:List (AV × AV × Nat)}{ces:Array MapEntry}(hes:∀ (i:Nat)(x:AV × AV × Nat),es[i]?=some x→∃ e,ces[i]?=some e∧VR φ x.1 e.key∧VR φ x.2.1 e.val∧e.born=x.2.2){x:AV × AV × Nat}(hx:x∈es) :
    ∃ e∈ces.toList,VR φ x.1 e.key∧VR φ x.2.1 e.val∧e.born=x.2.2:=by
  obtain⟨i,hi,rfl⟩:=List.getElem_of_mem hx
  obtain⟨e,h1,h2⟩:=hes i _ (List.getElem?_eq_getElem hi)
  rw[←Array.getElem?_toList] at h1
  exact⟨e,List.mem_of_getElem? h1,h2⟩
theorem qn9 {φ:Fi}{st:St}{w:World}(hr:Rel φ st w){id:Nat}{o o':AObj}(ho:st.h.get id=some o)(hown:o.own=true)(hfam:o.fam=none)(hfam':o'.fam=none)(co:Obj)(w0:World)(hw0:w0=w∨w0=w.drew)(hobj:∀ w':World,w'.heap[(φ.f id).b]?=some co→qc9 φ w' id o') :
    Rel φ ⟨st.h.set id o',st.n⟩ { w0 with heap:=w0.heap.setIfInBounds (φ.f id).b co}∧Fr φ st w φ ⟨st.h.set id o',st.n⟩ { w0 with heap:=w0.heap.setIfInBounds (φ.f id).b co}:=by
  have hb:=hr.blk id o ho
  have hh:w0.heap=w.heap:=by rcases hw0 with rfl | rfl <;> rfl
  have h1:w0.os=w.os∧w0.tape=w.tape∧w0.output=w.output:=by rcases hw0 with rfl | rfl <;> exact⟨rfl,rfl,rfl⟩
  refine hr.qso ho hown hfam hfam' h1.1 h1.2.1 h1.2.2 (by simp[hh]) (fun k hk=>?_) (hobj _ ?_)
  · simp only [hh];rw[Array.getElem?_setIfInBounds_ne (Ne.symm hk)]
  · simp only [hh];simp[hb]
theorem qmk {φ:Fi}{st:St}{w:World}{ty:TypeId}{a:AV}{u:Value}{rid mid since last id clock:Nat}{seen:List Nat}{es:List (AV × AV × Nat)}(hr:Rel φ st w)(ha:VR φ a u)(h:itOf st a=some (rid,mid,since,seen,last))(he:esOf st (.mp mid)=some (id,es,clock))
    (hc:(es.all (fun x=>Nat.blt x.2.2 since)&&Nat.ble since last)=true) :
    ((es.filter fun x=>!(seen.contains x.2.2))=[]∧(Instr.next u false ty).run P w=.ok (.tuple #[.bool false]) w) ∨
    ∃ x∈(es.filter fun x=>!(seen.contains x.2.2)),∃ w' v,(Instr.next u false ty).run P w=.ok v w'∧VR φ (.tup [.lit (.bool true),x.1,x.2.1]) v ∧
      Rel φ ⟨st.h.set rid (.iter mid since (seen++[x.2.2]) clock),st.n⟩ w'∧Fr φ st w φ ⟨st.h.set rid (.iter mid since (seen++[x.2.2]) clock),st.n⟩ w':=by
  obtain⟨rfl,ho,hit,h0,hmid⟩:=qjz hr ha h
  obtain⟨hu,hid,hom,ces,hb,hsz,hes⟩:=qfc hr (VR.mp mid hmid) he
  have hbb:(φ.f id).b=(φ.f mid).b:=by simp only [Value.map.injEq,Option.some.injEq] at hu;exact hu.symm
  rw[hbb] at hb
  simp only [Bool.and_eq_true] at hc
  have hold:∀ x∈ces.toList,x.born<since:=fun e hem=>by
    obtain⟨x,hx,_,_,h4⟩:=qqc (seen:=[]) hsz hes hem
    rw[h4]
    exact Nat.le_of_ble_eq_true (List.all_eq_true.1 hc.1 x hx)
  rcases run_next_at (P:=P) w ty (φ.f rid).b (φ.f mid).b since last seen.toArray ces clock hit hb hold (Nat.le_of_ble_eq_true hc.2) with ⟨h1,h2⟩ | ⟨e,hel,w1,hw1,hrun⟩
  · left
    refine⟨?_,h2⟩
    rw[List.filter_eq_nil_iff]
    intro x hx hns
    obtain⟨e,hem,_,_,h4⟩:=qnd hes hx
    have h5:leftOf ces seen.toArray=#[]:=Array.eq_empty_of_size_eq_zero h1
    unfold leftOf at h5
    rw[Array.filter_eq_empty_iff] at h5
    have:=h5 e (Array.mem_toList_iff.1 hem)
    rw[h4] at this
    simp at this hns
    exact hns this
  · right
    unfold leftOf at hel
    have hel2:e∈ces.toList∧seen.contains e.born=false:=by simpa using hel
    obtain⟨x,hx,h2,h3,h4⟩:=qqc (seen:=[]) hsz hes hel2.1
    refine⟨x,List.mem_filter.2 ⟨hx,by rw[←h4];show(!seen.contains e.born)=true;rw[hel2.2];rfl⟩,_,_,hrun,?_,?_⟩
    · exact .tup (us:=[.bool true,e.key,e.val]) (.cons (.lit _) (.cons h2 (.cons h3 .nil)))
    · have:=qn9 (o':=.iter mid since (seen++[x.2.2]) clock) hr ho rfl rfl rfl (.mapIter (some (φ.f mid).b) since (seen.toArray.push e.born) clock) w1 hw1 (fun w' hw'=>⟨by rw[hw',h4];simp,h0,hmid⟩)
      exact this
theorem qi8 {φ:Fi}{st:St}{w:World}{a:AV}{u:Value}{rid mid since last id clock s:Nat}{seen:List Nat}{es:List (AV × AV × Nat)}{x:AV × AV × Nat}(hr:Rel φ st w)(ha:VR φ a u)(h:itOf st a=some (rid,mid,since,seen,last))(he:esOf st (.mp mid)=some (id,es,clock))
    (hs:seen.getLast?=some s)(hc:(Nat.beq clock last&&qcr es)=true)(hf:es.filter (fun x=>Nat.beq x.2.2 s)=[x]) :
    ∃ v,(Instr.entry u).run P w=.ok v w∧VR φ (.tup [x.1,x.2.1]) v:=by
  obtain⟨rfl,ho,hit,h0,hmid⟩:=qjz hr ha h
  obtain⟨hu,hid,hom,ces,hb,hsz,hes⟩:=qfc hr (VR.mp mid hmid) he
  have hbb:(φ.f id).b=(φ.f mid).b:=by simp only [Value.map.injEq,Option.some.injEq] at hu;exact hu.symm
  rw[hbb] at hb
  simp only [Bool.and_eq_true,qcr,decide_eq_true_eq] at hc
  have hcl:=Nat.eq_of_beq_eq_true hc.1
  have hxm:x∈es.filter (fun x=>Nat.beq x.2.2 s):=by rw[hf];simp
  rw[List.mem_filter] at hxm
  have hxs:=Nat.eq_of_beq_eq_true hxm.2
  obtain⟨e,hem,h2,h3,h4⟩:=qnd hes hxm.1
  have hborns:ces.toList.map (·.born)=es.map fun x=>x.2.2:=by
    apply List.ext_getElem
    · simp[hsz]
    · intro i h1 h2
      simp only [List.length_map] at h1 h2
      obtain⟨e,k1,_,_,k4⟩:=hes i es[i] (List.getElem?_eq_getElem h2)
      rw[List.getElem_map,List.getElem_map,←k4]
      rw[←Array.getElem?_toList,List.getElem?_eq_getElem h1] at k1
      rw[Option.some.inj k1]
  have hseen:seen.toArray=seen.dropLast.toArray.push e.born:=by
    obtain⟨ys,hys⟩:=List.getLast?_eq_some_iff.1 hs
    rw[h4,hxs]
    subst hys
    simp
  have hrun:=run_entry_at (P:=P) w (φ.f rid).b (φ.f mid).b since seen.dropLast.toArray ces clock e (by rw[←hseen,hcl];exact hit) hb hem (by rw[hborns];exact hc.2)
  exact⟨_,hrun,.tup (us:=[e.key,e.val]) (.cons h2 (.cons h3 .nil))⟩
def rngAt (ops:Array Oper)(i:Nat)(f:Fm):Option (TypeId × AV):=match ops[i]? with
  | none=>none
  | some o=>match wantA ops f.ts o with
    | some true=>match o.op with
      | .range t x=>some (t,Operand.av f.ts x)
      | _=>none
    | _=>none
theorem qac.range (hT:TOk P T){rd:Option Nat}{ops:Array Oper}{L:Fm→St→Prop}{f:Fm}{st:St}{i:Nat}{l:List Nat}{t kt:TypeId}{a:AV}{id clock:Nat}{es:List (AV × AV × Nat)}
    (hx:rngAt ops i f=some (t,a))(hd:mapD T t=some kt)(he:esOf st a=some (id,es,clock))(h:qac P rd ops l L (putAt ops i f (.ptr st.n 0)) (st.push (.iter id clock [] clock))):qac P rd ops (i::l) L f st:=by
  unfold rngAt at hx
  split at hx
  · cases hx
  · rename_i o ho
    split at hx
    · rename_i hw
      split at hx
      · rename_i t' x hop
        simp only [Option.some.injEq,Prod.mk.injEq] at hx
        obtain⟨rfl,e2⟩:=hx
        have hput:∀ v,putAt ops i f v=f.put o.dst v:=fun v=>by simp[putAt,ho]
        rw[hput] at h
        refine qac.value ho hw (fun c hc=>by rw[hop] at hc;cases hc) (fun φ w a h2 h3=>?_) h
        have a1:=qa7 h3.ts x
        rw[e2] at a1
        obtain⟨φ',w',v,k1,k2,k3,k4,k5⟩:=qmf (hT:=hT) h2 a1 hd he
        exact⟨φ',w',v,.inl (by simp[execOp,hop,k1,Result.andThen]),k2,k3,k4,k5⟩
      · cases hx
    · cases hx
end
end Go.Fz
namespace Go.Fz
open Go.Proofs
set_option maxRecDepth 100000
section
variable {α:Type}{next:α→(Nat→Int)→α}{N:Nat}{lo hi:Nat→Int}
theorem qnn {I:α→Prop}{F:Int→α→α}(h:∀ v a,I a→I (F v a))(l:Int){a:α}(ha:I a):∀ c,I (qiy F l c a)
  | 0=>ha
  | c+1=>h _ _ (qnn h l ha c)
theorem qno {I:α→Prop}(h:∀ a f,I a→I (next a f)):∀ (j i:Nat)(f:Nat→Int){a:α},I a→I (qfs next N lo hi j i f a)
  | 0,_,f,a,ha=>h a _ ha
  | j+1,i,_,_,ha=>qnn (fun _ _ hb=>qno h j (i+1) _ hb) _ ha _
theorem qqu {S:α→Prop}{F:Int→α→α}{G:Int→Prop}(h:∀ v a,S (F v a)↔S a∨G v)(l:Int)(a:α):∀ c,S (qiy F l c a)↔S a∨∃ v,l≤v∧v<l+(c:Nat)∧G v
  | 0=>⟨.inl,fun h=>h.elim id fun⟨v,h1,h2,_⟩=>by omega⟩
  | c+1=>by
    show S (F _ _)↔_
    rw[h,qqu h l a c]
    constructor
    · rintro((h1 | ⟨v,h1,h2,h3⟩) | h1)
      · exact .inl h1
      · exact .inr ⟨v,h1,by omega,h3⟩
      · exact .inr ⟨l+c,by omega,by omega,h1⟩
    · rintro(h1 | ⟨v,h1,h2,h3⟩)
      · exact .inl (.inl h1)
      · by_cases e:v=l+c
        · exact .inr (e▸h3)
        · exact .inl (.inr ⟨v,h1,by omega,h3⟩)
theorem qqv {S:α→Prop}{g:(Nat→Int)→Prop}(h:∀ a f,S (next a f)↔S a∨g f):∀ (j i:Nat)(f:Nat→Int)(a:α),i+j=N →
    (S (qfs next N lo hi j i f a)↔S a∨∃ t,(∀ m,m<i→t m=f m)∧(∀ m,i≤m→m<N→lo m≤t m∧t m≤hi m)∧g (qea N t))
  | 0,i,f,a,e=>by
    show S (next a (qea N f))↔_
    rw[h]
    constructor
    · rintro(h1 | h1)
      · exact .inl h1
      · exact .inr ⟨f,fun _ _=>rfl,fun m h2 h3=>by omega,h1⟩
    · rintro(h1 | ⟨t,h1,_,h2⟩)
      · exact .inl h1
      · rw[qle (fun m hm=>h1 m (by omega))] at h2
        exact .inr h2
  | j+1,i,f,a,e=>by
    have ih:=fun v (b:α)=>qqv h j (i+1) (qhf f i v) b (by omega)
    have h2:=qqu (S:=S) (F:=fun v b=>qfs next N lo hi j (i+1) (qhf f i v) b) (G:=fun v=>∃ t,(∀ m,m<i+1→t m=qhf f i v m)∧(∀ m,i+1≤m→m<N→lo m≤t m∧t m≤hi m)∧g (qea N t)) (fun v b=>ih v b) (lo i) a (hi i - lo i+1).toNat
    show S (qiy _ _ _ a)↔_
    rw[h2]
    constructor
    · rintro(h1 | ⟨v,k1,k2,t,k3,k4,k5⟩)
      · exact .inl h1
      · refine .inr ⟨t,fun m hm=>?_,fun m h3 h4=>?_,k5⟩
        · rw[k3 m (by omega),qb4 (by omega)]
        · by_cases em:m=i
          · subst em
            rw[k3 m (by omega),qbh];omega
          · exact k4 m (by omega) h4
    · rintro(h1 | ⟨t,k3,k4,k5⟩)
      · exact .inl h1
      · have hti:=k4 i (Nat.le_refl _) (by omega)
        refine .inr ⟨t i,hti.1,by omega,t,fun m hm=>?_,fun m h3 h4=>k4 m (by omega) h4,k5⟩
        by_cases em:m=i
        · subst em;rw[qbh]
        · rw[qb4 em];exact k3 m (by omega)
end
def qai.inR (d:qai)(f:Nat→Int):Prop:=∀ m,m<d.nw+d.nl→d.ulo m≤f m∧f m≤d.uhi m
theorem qs7 {d:qai}{S:Pr→Prop}{g:(Nat→Int)→Prop}(h:∀ a f,S (stNx d a f)↔S a∨g f):S d.seen↔S pr0∨∃ t,d.inR t∧g (qea (d.nw+d.nl) t):=by
  unfold qai.seen
  rw[qqv h _ _ _ _ (by omega)]
  constructor
  · rintro(h1 | ⟨t,_,h2,h3⟩)
    · exact .inl h1
    · exact .inr ⟨t,fun m hm=>h2 m (Nat.zero_le _) hm,h3⟩
  · rintro(h1 | ⟨t,h2,h3⟩)
    · exact .inl h1
    · exact .inr ⟨t,fun m hm=>absurd hm (Nat.not_lt_zero m),fun m _ hm=>h2 m hm,h3⟩
theorem qpp (d:qai)(b:Mk):b∈d.seen.E.map (·.1)↔∃ t,d.inR t∧qbp d (qea (d.nw+d.nl) t)=b:=by
  rw[qs7 (S:=fun a=>b∈a.E.map (·.1)) (g:=fun f=>qbp d f=b) fun a f=>by
    show b∈(qhy _ _ _).map (·.1)↔_
    rw[qpi]
    exact⟨fun h=>h.imp id Eq.symm,fun h=>h.imp id Eq.symm⟩]
  exact⟨fun h=>h.elim (fun h=>by cases h) id,.inr⟩
theorem ql5 (d:qai)(f:Nat→Int):f∈d.seen.outs↔∃ t,d.inR t∧qea (d.nw+d.nl) t=f∧qbp d f=qmj:=by
  rw[qs7 (S:=fun a=>f∈a.outs) (g:=fun t=>t=f∧qbp d f=qmj) fun a t=>by
    show f∈(if qbp d t=qmj then a.outs++[t] else a.outs)↔_
    by_cases h:qbp d t=qmj
    · rw[if_pos h,List.mem_append,List.mem_singleton]
      exact⟨fun k=>k.imp id fun e=>⟨e.symm,by rw[e];exact h⟩,fun k=>k.imp id fun e=>e.1.symm⟩
    · rw[if_neg h]
      exact⟨.inl,fun k=>k.elim id fun e=>absurd (by rw[e.1];exact e.2) h⟩]
  constructor
  · rintro(h | ⟨t,h1,h2,h3⟩)
    · cases h
    · exact⟨t,h1,h2,h3⟩
  · rintro⟨t,h1,h2,h3⟩
    exact .inr ⟨t,h1,h2,h3⟩
def Born (E:List (Mk × Nat))(c:Nat):Prop:=(∀ p∈E,p.2<c)∧(E.map (·.2)).Nodup
theorem Born.upd {E:List (Mk × Nat)}{c:Nat}(h:Born E c)(b:Mk):Born (qhy E b c) (qn4 E b c):=by
  unfold qhy qn4
  split
  · exact h
  · refine⟨fun p hp=>?_,?_⟩
    · rcases List.mem_append.1 hp with hp | hp
      · have:=h.1 p hp;omega
      · obtain rfl:=List.mem_singleton.1 hp
        show c<c+1;omega
    · rw[List.map_append,List.nodup_append]
      refine⟨h.2,by simp,fun x hx y hy=>?_⟩
      obtain⟨p,hp,rfl⟩:=List.mem_map.1 hx
      have:=h.1 p hp
      simp at hy
      omega
theorem qs8 (d:qai):Born d.seen.E d.seen.cl:=qno (I:=fun a:Pr=>Born a.E a.cl) (fun a f h=>h.upd _) _ _ _ ⟨(fun p hp=>by cases hp),List.nodup_nil⟩
end Go.Fz
namespace Go.Fz
open Go.Proofs
set_option maxRecDepth 100000
section
variable {P:Program}{T:Ti}
theorem qac.valueX {rd:Option Nat}{ops:Array Oper}{i:Nat}{l:List Nat}{K:Fm→St→Prop}{f:Fm}{st:St}{o:Oper}(ho:ops[i]?=some o)(hw:wantA ops f.ts o=some true)(hd:∀ c,o.op≠.defer c)
    (hrun:∀ (φ:Fi)(w:World)(a:Act),Rel φ st w→qdb φ f a→∃ r st' φ' w' u,qac P rd ops l K (f.put o.dst r) st'∧(execOp a.eval o).run P w=.ok (.value u) w'∧VR φ' r u∧Rel φ' st' w'∧Ext φ φ'∧Fr φ st w φ' st' w'):qac P rd ops (i::l) K f st:=by
  intro φ w a n Q h1 h2 h3 hQ
  simp only [wpOpsIn,ho]
  rw[qen h3 ops hw]
  simp only [if_true]
  refine⟨fun _ _=>trivial,?_⟩
  rw[semAt_eq hd]
  obtain⟨r,st',φ',w',u,h,hr,hv,hrel,he,hf⟩:=hrun φ w a h2 h3
  have h4:=h φ' w' (a.put o.dst u) n Q (fun id hi=>Nat.lt_of_lt_of_le (h1 id hi) he.n) hrel ((h3.mono he).put o.dst hv) (fun a' w'' hl=>hQ a' w'' (hl.trans he hf))
  rw[qb1 he h1] at h4
  rw[hr];exact h4
def nextAt (ops:Array Oper)(i:Nat)(f:Fm):Option AV:=match ops[i]? with
  | none=>none
  | some o=>match wantA ops f.ts o with
    | some true=>match o.op with
      | .next it false=>some (Operand.av f.ts it)
      | _=>none
    | _=>none
theorem qac.nextL {rd:Option Nat}{ops:Array Oper}{i:Nat}{l:List Nat}{f:Fm}{st:St}{K:Fm→St→Prop}{a:AV}
    {rid mid since last id clock:Nat}{seen:List Nat}{es:List (AV × AV × Nat)}(hx:nextAt ops i f=some a)(hit:itOf st a=some (rid,mid,since,seen,last))(hes:esOf st (.mp mid)=some (id,es,clock))
    (hc:(es.all (fun x=>Nat.blt x.2.2 since)&&Nat.ble since last)=true)
    (hend:(es.filter fun x=>!(seen.contains x.2.2))=[]→qac P rd ops l K (putAt ops i f (.tup [.lit (.bool false)])) st)
    (hgo:∀ x∈es,seen.contains x.2.2=false→qac P rd ops l K (putAt ops i f (.tup [.lit (.bool true),x.1,x.2.1])) ⟨st.h.set rid (.iter mid since (seen++[x.2.2]) clock),st.n⟩):qac P rd ops (i::l) K f st:=by
  unfold nextAt at hx
  split at hx
  · cases hx
  · rename_i o ho
    split at hx
    · rename_i hw
      split at hx
      · rename_i it hop
        simp only [Option.some.injEq] at hx
        have hput:∀ v,putAt ops i f v=f.put o.dst v:=fun v=>by simp[putAt,ho]
        simp only [hput] at hend hgo
        refine qac.valueX ho hw (fun c hc=>by rw[hop] at hc;cases hc) fun φ w a h2 h3=>?_
        have a1:=qa7 h3.ts it
        rw[hx] at a1
        rcases qmk (P:=P) (ty:=o.type) h2 a1 hit hes hc with ⟨k1,k2⟩ | ⟨x,hxm,w',v,k2,k3,k4,k5⟩
        · exact⟨_,st,φ,w,_,hend k1,by simp[execOp,hop,k2,Result.andThen],.tup (us:=[.bool false]) (.cons (.lit _) .nil),h2,Ext.refl _,Fr.refl _ _ _⟩
        · obtain⟨h5,h6⟩:=List.mem_filter.1 hxm
          exact⟨_,_,φ,w',v,hgo x h5 (by simpa using h6),by simp[execOp,hop,k2,Result.andThen],k3,k4,Ext.refl _,k5⟩
      · cases hx
    · cases hx
def entAt (ops:Array Oper)(i:Nat)(f:Fm):Option AV:=match ops[i]? with
  | none=>none
  | some o=>match wantA ops f.ts o with
    | some true=>match o.op with
      | .entry it=>some (Operand.av f.ts it)
      | _=>none
    | _=>none
theorem qac.qu6 {rd:Option Nat}{ops:Array Oper}{i:Nat}{l:List Nat}{f:Fm}{st:St}{K:Fm→St→Prop}{a:AV}
    {rid mid since last id clock s:Nat}{seen:List Nat}{es:List (AV × AV × Nat)}{x:AV × AV × Nat}(hx:entAt ops i f=some a)(hit:itOf st a=some (rid,mid,since,seen,last))(hes:esOf st (.mp mid)=some (id,es,clock))
    (hs:seen.getLast?=some s)(hc:(Nat.beq clock last&&qcr es)=true)(hf:es.filter (fun x=>Nat.beq x.2.2 s)=[x])(h:qac P rd ops l K (putAt ops i f (.tup [x.1,x.2.1])) st):qac P rd ops (i::l) K f st:=by
  unfold entAt at hx
  split at hx
  · cases hx
  · rename_i o ho
    split at hx
    · rename_i hw
      split at hx
      · rename_i it hop
        simp only [Option.some.injEq] at hx
        have hput:∀ v,putAt ops i f v=f.put o.dst v:=fun v=>by simp[putAt,ho]
        rw[hput] at h
        refine qac.value ho hw (fun c hc=>by rw[hop] at hc;cases hc) (fun φ w a h2 h3=>?_) h
        have a1:=qa7 h3.ts it
        rw[hx] at a1
        obtain⟨v,k1,k2⟩:=qi8 (P:=P) h2 a1 hit hes hs hc hf
        exact⟨φ,w,v,.inl (by simp[execOp,hop,k1,Result.andThen]),k2,h2,Ext.refl _,Fr.refl _ _ _⟩
      · cases hx
    · cases hx
end
def firstM (b:Mk):Int:=if b.1 then 0 else if b.2.1 then 1 else if b.2.2.1 then 2 else if b.2.2.2.1 then 3 else if b.2.2.2.2 then 4 else 5
def noneUp (b:Mk):Nat→Prop
  | 0=>True
  | 1=>b.1=false
  | 2=>b.1=false∧b.2.1=false
  | 3=>b.1=false∧b.2.1=false∧b.2.2.1=false
  | 4=>b.1=false∧b.2.1=false∧b.2.2.1=false∧b.2.2.2.1=false
  | 5=>b.1=false∧b.2.1=false∧b.2.2.1=false∧b.2.2.2.1=false∧b.2.2.2.2=false
  | _=>False
theorem qt9 (b:Mk):Below 0 (mkV b):=Below.agg (qb2.ok ⟨Below.sb,Below.sb,Below.sb,Below.sb,Below.sb,trivial⟩)
set_option maxHeartbeats 8000000 in
theorem first_ok (b:Mk):Pure Try.prog 77 [mkV b] (iV (firstM b)):=by
  obtain⟨O,hO⟩:∃ O:Ar,O=std:=⟨_,rfl⟩
  obtain⟨b0,b1,b2,b3,b4⟩:=b
  refine qad tok 3 Try.func77 en77 rfl ⟨qt9 _,trivial⟩ Below.lit ?_
  refine SW.qab tok hO (by cbv <;> rfl) (by trivial) ?_
  refine SW.seq ?_
  refine SW.qab tok hO (by cbv <;> rfl) (by trivial) ?_
  refine(SW.block (SW.qhk (fun i:Nat=>⟨⟨13,getT [(5,mkV (b0,b1,b2,b3,b4)),(6,iV i)]⟩,[]⟩) (fun _=>⟨[],1⟩) (fun i=>5 - i) (fun i=>noneUp (b0,b1,b2,b3,b4) i) 0
    (fun _=>rfl) trivial (qdt.by rfl rfl (by simp) (Nat.le_refl _) (Nat.le_refl _) ⟨⟨rfl,.inl rfl⟩,⟨rfl,.inl rfl⟩,trivial⟩ trivial) fun i hi=>?_))
  have hi5:i≤5:=by
    match i,hi with
    | 0,_ | 1,_ | 2,_ | 3,_ | 4,_ | 5,_=>omega
  obtain rfl | rfl | rfl | rfl | rfl | rfl:i=0∨i=1∨i=2∨i=3∨i=4∨i=5:=by omega
  · refine SW.qab tok hO (by cbv <;> rfl) (by trivial) ?_
    refine SW.seq (SW.qa6 (by cbv <;> rfl) (fun h=>SW.skip ?_) (fun h=>?_))
    · refine SW.seq (SW.block ?_)
      refine SW.qab tok hO (by cbv <;> rfl) (by trivial) ?_
      refine SW.qab tok hO (by cbv <;> rfl) (by trivial) ?_
      refine SW.qa6 (by cbv <;> rfl) (fun h2=>?_) (fun h2=>SW.skip ?_)
      · have h3:b0=true:=by subst hO;exact h2
        refine SW.qab tok hO (by cbv <;> rfl) (by trivial) ?_
        refine SW.ret ⟨_,_,rfl,rfl,Eqv.int ?_⟩
        simp only [noneUp] at hi
        simp[firstM,h3,hi]
      · have h3:b0=false:=by subst hO;exact h2
        refine SW.run tok hO (by cbv <;> rfl) (by trivial) ?_
        refine⟨1,by omega,?_,qdt.by rfl rfl (fun _ h=>nomatch h) (Nat.le_refl _) (Nat.le_refl _) ⟨⟨rfl,.inl rfl⟩,⟨qci hO (by omega),.inl rfl⟩,trivial⟩ trivial⟩
        simp only [noneUp]
        exact h3
    · exfalso
      subst hO;simp[std] at h
  · refine SW.qab tok hO (by cbv <;> rfl) (by trivial) ?_
    refine SW.seq (SW.qa6 (by cbv <;> rfl) (fun h=>SW.skip ?_) (fun h=>?_))
    · refine SW.seq (SW.block ?_)
      refine SW.qab tok hO (by cbv <;> rfl) (by trivial) ?_
      refine SW.qab tok hO (by cbv <;> rfl) (by trivial) ?_
      refine SW.qa6 (by cbv <;> rfl) (fun h2=>?_) (fun h2=>SW.skip ?_)
      · have h3:b1=true:=by subst hO;exact h2
        refine SW.qab tok hO (by cbv <;> rfl) (by trivial) ?_
        refine SW.ret ⟨_,_,rfl,rfl,Eqv.int ?_⟩
        simp only [noneUp] at hi
        simp[firstM,h3,hi]
      · have h3:b1=false:=by subst hO;exact h2
        refine SW.run tok hO (by cbv <;> rfl) (by trivial) ?_
        refine⟨2,by omega,?_,qdt.by rfl rfl (fun _ h=>nomatch h) (Nat.le_refl _) (Nat.le_refl _) ⟨⟨rfl,.inl rfl⟩,⟨qci hO (by omega),.inl rfl⟩,trivial⟩ trivial⟩
        simp only [noneUp]
        simp only [noneUp] at hi
        simp[h3,hi]
    · exfalso
      subst hO;simp[std] at h
  · refine SW.qab tok hO (by cbv <;> rfl) (by trivial) ?_
    refine SW.seq (SW.qa6 (by cbv <;> rfl) (fun h=>SW.skip ?_) (fun h=>?_))
    · refine SW.seq (SW.block ?_)
      refine SW.qab tok hO (by cbv <;> rfl) (by trivial) ?_
      refine SW.qab tok hO (by cbv <;> rfl) (by trivial) ?_
      refine SW.qa6 (by cbv <;> rfl) (fun h2=>?_) (fun h2=>SW.skip ?_)
      · have h3:b2=true:=by subst hO;exact h2
        refine SW.qab tok hO (by cbv <;> rfl) (by trivial) ?_
        refine SW.ret ⟨_,_,rfl,rfl,Eqv.int ?_⟩
        simp only [noneUp] at hi
        simp[firstM,h3,hi]
      · have h3:b2=false:=by subst hO;exact h2
        refine SW.run tok hO (by cbv <;> rfl) (by trivial) ?_
        refine⟨3,by omega,?_,qdt.by rfl rfl (fun _ h=>nomatch h) (Nat.le_refl _) (Nat.le_refl _) ⟨⟨rfl,.inl rfl⟩,⟨qci hO (by omega),.inl rfl⟩,trivial⟩ trivial⟩
        simp only [noneUp]
        simp only [noneUp] at hi
        simp[h3,hi]
    · exfalso
      subst hO;simp[std] at h
  · refine SW.qab tok hO (by cbv <;> rfl) (by trivial) ?_
    refine SW.seq (SW.qa6 (by cbv <;> rfl) (fun h=>SW.skip ?_) (fun h=>?_))
    · refine SW.seq (SW.block ?_)
      refine SW.qab tok hO (by cbv <;> rfl) (by trivial) ?_
      refine SW.qab tok hO (by cbv <;> rfl) (by trivial) ?_
      refine SW.qa6 (by cbv <;> rfl) (fun h2=>?_) (fun h2=>SW.skip ?_)
      · have h3:b3=true:=by subst hO;exact h2
        refine SW.qab tok hO (by cbv <;> rfl) (by trivial) ?_
        refine SW.ret ⟨_,_,rfl,rfl,Eqv.int ?_⟩
        simp only [noneUp] at hi
        simp[firstM,h3,hi]
      · have h3:b3=false:=by subst hO;exact h2
        refine SW.run tok hO (by cbv <;> rfl) (by trivial) ?_
        refine⟨4,by omega,?_,qdt.by rfl rfl (fun _ h=>nomatch h) (Nat.le_refl _) (Nat.le_refl _) ⟨⟨rfl,.inl rfl⟩,⟨qci hO (by omega),.inl rfl⟩,trivial⟩ trivial⟩
        simp only [noneUp]
        simp only [noneUp] at hi
        simp[h3,hi]
    · exfalso
      subst hO;simp[std] at h
  · refine SW.qab tok hO (by cbv <;> rfl) (by trivial) ?_
    refine SW.seq (SW.qa6 (by cbv <;> rfl) (fun h=>SW.skip ?_) (fun h=>?_))
    · refine SW.seq (SW.block ?_)
      refine SW.qab tok hO (by cbv <;> rfl) (by trivial) ?_
      refine SW.qab tok hO (by cbv <;> rfl) (by trivial) ?_
      refine SW.qa6 (by cbv <;> rfl) (fun h2=>?_) (fun h2=>SW.skip ?_)
      · have h3:b4=true:=by subst hO;exact h2
        refine SW.qab tok hO (by cbv <;> rfl) (by trivial) ?_
        refine SW.ret ⟨_,_,rfl,rfl,Eqv.int ?_⟩
        simp only [noneUp] at hi
        simp[firstM,h3,hi]
      · have h3:b4=false:=by subst hO;exact h2
        refine SW.run tok hO (by cbv <;> rfl) (by trivial) ?_
        refine⟨5,by omega,?_,qdt.by rfl rfl (fun _ h=>nomatch h) (Nat.le_refl _) (Nat.le_refl _) ⟨⟨rfl,.inl rfl⟩,⟨qci hO (by omega),.inl rfl⟩,trivial⟩ trivial⟩
        simp only [noneUp]
        simp only [noneUp] at hi
        simp[h3,hi]
    · exfalso
      subst hO;simp[std] at h
  · refine SW.qab tok hO (by cbv <;> rfl) (by trivial) ?_
    refine SW.seq (SW.qa6 (by cbv <;> rfl) (fun h=>?_) (fun h=>SW.exit ?_))
    · exfalso
      subst hO;simp[std] at h
    · refine SW.qab tok hO (by cbv <;> rfl) (by trivial) ?_
      refine SW.ret ⟨_,_,rfl,rfl,Eqv.int ?_⟩
      simp only [noneUp] at hi
      simp[firstM,hi]
end Go.Fz
namespace Go.Fz
open Go.Proofs
set_option maxRecDepth 100000
theorem filter_lt {γ:Type}{P P':γ→Bool}(h:∀ q,P' q=true→P q=true):∀ {l:List γ}{p:γ},p∈l→P p=true→P' p=false→(l.filter P').length<(l.filter P).length
  | x::l,p,hp,h1,h2=>by
    have hle:∀ l:List γ,(l.filter P').length≤(l.filter P).length:=fun l=>by
      induction l with
      | nil=>simp
      | cons y l ih =>
        simp only [List.filter_cons]
        cases h3:P' y with
        | true=>rw[h y h3];simpa using ih
        | false=>cases P y <;> simp <;> omega
    simp only [List.filter_cons]
    rcases List.mem_cons.1 hp with rfl | hp
    · rw[h1,h2]
      have:=hle l
      simp;omega
    · have ih:=filter_lt h hp h1 h2
      cases h3:P' x with
      | true=>rw[h x h3];simpa using ih
      | false=>cases P x <;> simp <;> omega
theorem qdl {γ:Type}{g:γ→Nat}:∀ {l:List γ}{x:γ},(l.map g).Nodup→x∈l→l.filter (fun y=>Nat.beq (g y) (g x))=[x]
  | y::l,x,hn,hx=>by
    rw[List.map_cons,List.nodup_cons] at hn
    rw[List.filter_cons]
    rcases List.mem_cons.1 hx with rfl | hx
    · rw[if_pos (Nat.beq_refl _)]
      congr 1
      rw[List.filter_eq_nil_iff]
      intro z hz he
      exact hn.1 (List.mem_map.2 ⟨z,hz,Nat.eq_of_beq_eq_true he⟩)
    · rw[if_neg (fun he=>hn.1 (List.mem_map.2 ⟨x,hx,(Nat.eq_of_beq_eq_true he).symm⟩))]
      exact qdl hn.2 hx
def mxL (l:List Int):Int:=l.foldl (fun a b=>if a<b then b else a) 0
theorem mx_go:∀ (l:List Int)(a:Int),(a≤l.foldl (fun a b=>if a<b then b else a) a∧∀ v∈l,v≤l.foldl (fun a b=>if a<b then b else a) a)∧(l.foldl (fun a b=>if a<b then b else a) a=a∨l.foldl (fun a b=>if a<b then b else a) a∈l)
  | [],a=>⟨⟨Int.le_refl _,fun v h=>by cases h⟩,.inl rfl⟩
  | b::l,a=>by
    obtain⟨⟨h1,h2⟩,h3⟩:=mx_go l (if a<b then b else a)
    simp only [List.foldl_cons]
    refine⟨⟨?_,fun v hv=>?_⟩,?_⟩
    · by_cases h:a<b
      · rw[if_pos h] at h1 ⊢;omega
      · rw[if_neg h] at h1 ⊢;omega
    · rcases List.mem_cons.1 hv with rfl | hv
      · by_cases h:a<v
        · rw[if_pos h] at h1 ⊢;omega
        · rw[if_neg h] at h1 ⊢;omega
      · exact h2 v hv
    · rcases h3 with h3 | h3
      · rw[h3]
        split
        · exact .inr List.mem_cons_self
        · exact .inl rfl
      · exact .inr (List.mem_cons_of_mem _ h3)
theorem qt5 {l:List Int}{v:Int}(h:v∈l):v≤mxL l:=(mx_go l 0).1.2 v h
theorem qt4 (l:List Int):0≤mxL l:=(mx_go l 0).1.1
theorem qoj (l:List Int):mxL l=0∨mxL l∈l:=(mx_go l 0).2
theorem qt6 {l m:List Int}(h:∀ v,v∈l↔v∈m):mxL l=mxL m:=by
  have h1:mxL l≤mxL m:=by
    rcases qoj l with e | e
    · rw[e];exact qt4 m
    · exact qt5 ((h _).1 e)
  have h2:mxL m≤mxL l:=by
    rcases qoj m with e | e
    · rw[e];exact qt4 l
    · exact qt5 ((h _).2 e)
  omega
theorem mxL_snoc (l:List Int)(b:Int):mxL (l++[b])=if mxL l<b then b else mxL l:=by
  unfold mxL;rw[List.foldl_append];rfl
def qee (E:List (Mk × Nat)):List Int:=E.map fun p=>firstM p.1
def qai.qhr (d:qai):Int:=mxL (qee d.seen.E)
set_option maxHeartbeats 16000000 in
theorem qrx (d:qai)(E:List (Mk × Nat))(cl:Nat)(l:List (Nat→Int))(hb:Born E cl)
    (e1:Pure Try.prog 40 [qdp d] (iV 0))(e2:qpc Try.prog 76 [qdp d] (qn3 d l) (qcp mkV E) cl) :
    Pure Try.prog 30 [qdp d] (.tup [iV (if(d.nc:Int)≤mxL (qee E) then 0 else mxL (qee E)),iV (if(d.nc:Int)≤mxL (qee E) then 7 else 0)]):=by
  obtain⟨O,hO⟩:∃ O:Ar,O=std:=⟨_,rfl⟩
  refine qad tok 3 Try.func30 en30 rfl ⟨qal d,trivial⟩ (Below.tup (qb2.ok ⟨Below.lit,Below.lit,trivial⟩)) ?_
  have hWW:qn3 d l=fun k=>.agg [iV d.hand,iV d.flat,qcv d,qdg d,qd8 d,outsI d l,.mp k]:=rfl
  rw[hWW] at e2
  have hXO:outsI d l=nl3∨∃ L G,outsI d l=.isl L 8 false G:=by
    cases l with
    | nil=>exact .inl rfl
    | cons f l=>exact .inr ⟨_,_,rfl⟩
  generalize outsI d l=XO at e2 hXO
  have hes:∀ x∈qcp mkV E,∃ p∈E,x=(mkV p.1,.lit (.bool true),p.2):=fun x hx=>by
    obtain⟨p,hp,rfl⟩:=List.mem_map.1 hx
    exact⟨p,hp,rfl⟩
  have hborn:((qcp mkV E).all (fun x=>Nat.blt x.2.2 cl)&&Nat.ble cl cl)=true:=by
    rw[Bool.and_eq_true]
    refine⟨List.all_eq_true.2 fun x hx=>?_,by rw[Nat.ble_eq];exact Nat.le_refl _⟩
    obtain⟨p,hp,rfl⟩:=hes x hx
    show Nat.ble _ _=true
    rw[Nat.ble_eq]
    exact hb.1 p hp
  have hmap:(qcp mkV E).map (fun x=>x.2.2)=E.map (·.2):=by simp[qcp,List.map_map,Function.comp_def]
  have hborn2:(Nat.beq cl cl&&qcr (qcp mkV E))=true:=by
    rw[Nat.beq_refl,Bool.true_and]
    unfold qcr
    rw[hmap]
    exact decide_eq_true hb.2
  have hclosed:=qe2 E
  obtain⟨ME,hME⟩:∃ m,qcp mkV E=m:=⟨_,rfl⟩
  rw[hME] at e2 hes hborn hborn2 hmap hclosed
  refine SW.qab tok hO (by cbv <;> rfl) (by trivial) ?_
  refine SW.seq ?_
  refine SW.qab tok hO (by cbv <;> rfl) (by trivial) ?_
  refine qac.qas e1 (by cbv <;> rfl) ?_
  refine qac.run tok hO (by cbv <;> rfl) (by trivial) ?_
  refine SW.qab tok hO (by cbv <;> rfl) (by trivial) ?_
  refine SW.qa6 (by cbv <;> rfl) (fun h1=>?_) (fun h1=>SW.skip ?_)
  · exfalso
    subst hO;simp[std] at h1
  refine SW.qab tok hO (by cbv <;> rfl) (by trivial) ?_
  refine SW.seq ?_
  refine SW.seq ((show SW Try.prog none _ (midK 30 [(1,.ptr 0 0),(5,iV 0),(15,.ptr 2 0)] ⟨[(2,.iter 1 cl [] cl),(1,.map ME cl),(0,.cells none false (qgc d))],3⟩) _ _ from ?_).mono fun e f st hm=>?_)
  · rcases hXO with rfl | ⟨L,G,rfl⟩
    · refine SW.runN tok hO 1 (by cbv <;> rfl) (by trivial) ?_
      refine qac.qdu e2.ent (e2.call _) (by cbv <;> rfl) fun v st' hk=>?_
      obtain⟨rfl,rfl⟩:=hk
      refine qac.runN tok hO 1 (by cbv <;> rfl) (by trivial) ?_
      refine qac.range tok (kt:=145) (by cbv <;> rfl) (by kernel_rfl) (by rfl) ?_
      exact qac.nil ⟨rfl,_,rfl,⟨rfl,rfl,rfl,trivial⟩,rfl⟩
    · refine SW.runN tok hO 1 (by cbv <;> rfl) (by trivial) ?_
      refine qac.qdu e2.ent (e2.call _) (by cbv <;> rfl) fun v st' hk=>?_
      obtain⟨rfl,rfl⟩:=hk
      refine qac.runN tok hO 1 (by cbv <;> rfl) (by trivial) ?_
      refine qac.range tok (kt:=145) (by cbv <;> rfl) (by kernel_rfl) (by rfl) ?_
      exact qac.nil ⟨rfl,_,rfl,⟨rfl,rfl,rfl,trivial⟩,rfl⟩
  obtain⟨rfl,g,rfl,⟨g1,g5,g15,_⟩,rfl⟩:=hm
  simp only at g1 g5 g15
  rw[←qav g1,←qav g5,←qav g15]
  clear e2 hXO
  show SW _ _ _ _ _ _
  refine(SW.block (SW.loopM (fun x:List (Mk × Nat)=>⟨⟨30,getT [(1,.ptr 0 0),(5,iV (mxL (qee x))),(15,.ptr 2 0)]⟩,[]⟩) (fun x=>⟨[(2,.iter 1 cl (x.map (·.2)) cl),(1,.map ME cl),(0,.cells none false (qgc d))],3⟩) (fun x=>(ME.filter fun y=>!((x.map (·.2)).contains y.2.2)).length) (fun x=>∀ p∈x,p∈E) []
    (fun _=>rfl) (fun _ h=>nomatch h) (qdt.by rfl rfl (by simp) (Nat.le_refl _) (Nat.le_refl _) ⟨⟨rfl,.inl rfl⟩,⟨rfl,.inl rfl⟩,⟨rfl,.inl rfl⟩,trivial⟩ ⟨⟨rfl,by show 2<3;omega,.inl rfl⟩,⟨rfl,by show 1<3;omega,.inl rfl⟩,⟨rfl,by show 0<3;omega,.inl rfl⟩,trivial⟩) fun x hx=>?_))
  obtain⟨S,hS⟩:∃ s,x.map (·.2)=s:=⟨_,rfl⟩
  obtain⟨V,hV⟩:∃ s,mxL (qee x)=s:=⟨_,rfl⟩
  rw[hS,hV]
  refine SW.seq (SW.runN tok hO 0 (by cbv <;> rfl) (by trivial) ?_)
  refine qac.nextL (a:=.ptr 2 0) (by cbv <;> rfl) (by rfl) (by rfl) hborn (fun hend=>?_) (fun y hy hny=>?_)
  · refine qac.run tok hO (by cbv <;> rfl) (by trivial) ?_
    refine SW.seq (SW.cond (t:=false) (by cbv <;> rfl) (SW.exit ?_))
    have hVE:V=mxL (qee E):=by
      rw[←hV]
      refine qt6 fun v=>⟨fun h=>?_,fun h=>?_⟩
      · obtain⟨p,hp,rfl⟩:=List.mem_map.1 h
        exact List.mem_map.2 ⟨p,hx p hp,rfl⟩
      · obtain⟨p,hp,rfl⟩:=List.mem_map.1 h
        have hm:(mkV p.1,AV.lit (.bool true),p.2)∈ME:=by rw[←hME];exact List.mem_map.2 ⟨p,hp,rfl⟩
        have hin:p.2∈S:=by
          have:=List.filter_eq_nil_iff.1 hend _ hm
          simpa using this
        rw[←hS] at hin
        obtain⟨q,hq,hqp⟩:=List.mem_map.1 hin
        have h5:q∈E.filter (fun y=>Nat.beq y.2 p.2):=List.mem_filter.2 ⟨hx q hq,by show Nat.beq q.2 p.2=true;rw[hqp];exact Nat.beq_refl _⟩
        rw[qdl (g:=fun y:Mk × Nat=>y.2) hb.2 hp,List.mem_singleton] at h5
        rw[←h5]
        exact List.mem_map.2 ⟨q,hq,rfl⟩
    rw[←hVE]
    refine SW.seq ?_
    refine SW.qab tok hO (by cbv <;> rfl) (by trivial) ?_
    refine SW.qa6 (by cbv <;> rfl) (fun h3=>?_) (fun h3=>SW.skip ?_)
    · have h4:(d.nc:Int)≤V:=by subst hO;simpa[std] using h3
      rw[if_pos h4,if_pos h4]
      refine SW.qab tok hO (by cbv <;> rfl) (by trivial) ?_
      exact SW.ret ⟨_,_,rfl,rfl,Eqv.of rfl⟩
    · have h4:¬ (d.nc:Int)≤V:=by subst hO;simpa[std] using h3
      rw[if_neg h4,if_neg h4]
      refine SW.qab tok hO (by cbv <;> rfl) (by trivial) ?_
      exact SW.ret ⟨_,_,rfl,rfl,Eqv.of rfl⟩
  · obtain⟨p,hp,rfl⟩:=hes y hy
    have hf:=first_ok p.1
    have hfil:ME.filter (fun x=>Nat.beq x.2.2 p.2)=[(mkV p.1,.lit (.bool true),p.2)]:=qdl (g:=fun x:AV × AV × Nat=>x.2.2) (x:=(mkV p.1,.lit (.bool true),p.2)) (by rw[hmap];exact hb.2) hy
    generalize hfv:firstM p.1=fv at hf
    obtain⟨⟨b0,b1,b2,b3,b4⟩,born⟩:=p
    obtain⟨S2,hS2⟩:∃ s,S++[born]=s:=⟨_,rfl⟩
    show qac _ _ _ _ _ _ ⟨[(2,.iter 1 cl (S++[born]) cl),(1,.map ME cl),(0,.cells none false (qgc d))],3⟩
    rw[hS2]
    refine qac.run tok hO (by cbv <;> rfl) (by trivial) ?_
    refine SW.seq (SW.cond (t:=true) (by cbv <;> rfl) (SW.skip ?_))
    refine SW.block ?_
    refine SW.seq (SW.runN tok hO 0 (by cbv <;> rfl) (by trivial) ?_)
    have hlast:S2.getLast?=some born:=by rw[←hS2];simp
    refine qac.qu6 (a:=.ptr 2 0) (by cbv <;> rfl) (by rfl) (by rfl) hlast hborn2 hfil ?_
    refine qac.run tok hO (by cbv <;> rfl) (by trivial) ?_
    refine SW.runN tok hO 2 (by cbv <;> rfl) (by trivial) ?_
    refine qac.qas hf (by cbv <;> rfl) ?_
    refine qac.run tok hO (by cbv <;> rfl) (by trivial) ?_
    have hmx:O.mx V fv=mxL (qee (x++[((b0,b1,b2,b3,b4),born)])):=by
      unfold qee
      rw[List.map_append,List.map_singleton,mxL_snoc]
      show _=if mxL (qee x)<firstM (b0,b1,b2,b3,b4) then firstM (b0,b1,b2,b3,b4) else mxL (qee x)
      rw[hV,hfv]
      subst hO;rfl
    have hSx:(x++[((b0,b1,b2,b3,b4),born)]).map (·.2)=S2:=by rw[List.map_append,hS,←hS2];rfl
    refine⟨x++[((b0,b1,b2,b3,b4),born)],?_,fun q hq=>?_,?_⟩
    · rw[hSx]
      refine filter_lt (fun q h=>?_) hy ?_ ?_
      · rw[←hS2] at h
        simp at h ⊢
        exact h.1
      · show(!S.contains born)=true
        have:S.contains born=false:=hny
        rw[this];rfl
      · show(!S2.contains born)=false
        rw[←hS2]
        simp
    · rcases List.mem_append.1 hq with hq | hq
      · exact hx q hq
      · rw[List.mem_singleton.1 hq];exact hp
    · rw[hSx]
      refine qny.by rfl rfl (fun _ h=>nomatch h) (Nat.le_refl _) (by show 3≤4;omega) ⟨⟨rfl,.inr (Below.ptr (by omega))⟩,⟨congrArg (fun z=>AV.lit (.int .i64 z)) hmx,.inr Below.lit⟩,⟨rfl,.inr (Below.ptr (by omega))⟩,trivial⟩ ⟨⟨rfl,by show 2<3;omega,.inr (show 1<3 by omega)⟩,⟨rfl,by show 1<3;omega,.inr fun y hy=>?_⟩,⟨rfl,by show 0<3;omega,.inr ⟨fun a ha=>Below.up (m:=0) (qa4 d a ha),fun _ h=>nomatch h⟩⟩,trivial⟩
      exact⟨Below.up (m:=0) (hclosed y hy).1,Below.up (m:=0) (hclosed y hy).2⟩
def qai.firstE (d:qai):Int:=if(d.nc:Int)≤d.qhr then 7 else 0
theorem qu0 (d:qai)(hs:d.small)(hc:d.check=0):Pure Try.prog 30 [qdp d] (.tup [iV (if(d.nc:Int)≤d.qhr then 0 else d.qhr),iV d.firstE]):=by
  have e1:=qg6 d hs
  rw[hc] at e1
  exact qrx d d.seen.E d.seen.cl d.seen.outs (qs8 d) e1 (qlz d hc)
theorem qu1 (b:Mk):0≤firstM b:=by
  obtain⟨b0,b1,b2,b3,b4⟩:=b
  cases b0 <;> cases b1 <;> cases b2 <;> cases b3 <;> cases b4 <;> decide
theorem qk7 (d:qai)(v:Int):v∈qee d.seen.E↔∃ t,d.inR t∧firstM (qbp d (qea (d.nw+d.nl) t))=v:=by
  unfold qee
  constructor
  · intro h
    obtain⟨p,hp,rfl⟩:=List.mem_map.1 h
    obtain⟨t,h1,h2⟩:=(qpp d p.1).1 (List.mem_map.2 ⟨p,hp,rfl⟩)
    exact⟨t,h1,by rw[h2]⟩
  · rintro⟨t,h1,rfl⟩
    obtain⟨p,hp,h2⟩:=List.mem_map.1 ((qpp d _).2 ⟨t,h1,rfl⟩)
    exact List.mem_map.2 ⟨p,hp,by rw[h2]⟩
theorem qnr (d:qai){t:Nat→Int}(h:d.inR t):firstM (qbp d (qea (d.nw+d.nl) t))≤d.qhr:=qt5 ((qk7 d _).2 ⟨t,h,rfl⟩)
theorem qry (d:qai)(hc:d.check=0):∃ t,d.inR t∧firstM (qbp d (qea (d.nw+d.nl) t))=d.qhr:=by
  rcases qoj (qee d.seen.E) with h | h
  · have g:=qpj (qb0 hc)
    have hin:d.inR d.ulo:=fun m hm=>⟨Int.le_refl _,(g m hm).2.1⟩
    refine⟨d.ulo,hin,?_⟩
    have h1:=qnr d hin
    have h2:d.qhr=0:=h
    have h3:=qu1 (qbp d (qea (d.nw+d.nl) d.ulo))
    omega
  · exact(qk7 d _).1 h
end Go.Fz
namespace Go.Fz
open Go.Proofs
set_option maxRecDepth 100000
def leN (a:Int)(fl:Nat→Int):Nat→Int
  | 0=>a
  | i+1=>if fl i<leN a fl i then fl i else leN a fl i
def grN (a:Int)(fl:Nat→Int):Nat→Int
  | 0=>a
  | i+1=>if fl i>grN a fl i then fl i else grN a fl i
set_option maxHeartbeats 8000000 in
theorem qqd (a:Int)(n:Nat)(ex:Bool)(fl:Nat→Int)(hn:n<100000):Pure Try.prog 97 [iV a,qap n ex fl] (iV (leN a fl n)):=by
  obtain⟨O,hO⟩:∃ O:Ar,O=std:=⟨_,rfl⟩
  have hnat:∀ i:Nat,O.nat (Int.ofNat i)=i:=fun i=>by subst hO;rfl
  refine qad tok 3 Try.func97 en97 rfl ⟨Below.lit,qa3 _ _ _,trivial⟩ Below.lit ?_
  refine SW.qab tok hO (by cbv <;> rfl) (by trivial) ?_
  refine SW.seq ?_
  refine SW.qab tok hO (by cbv <;> rfl) (by trivial) ?_
  refine(SW.block (SW.qhk (fun i:Nat=>⟨⟨18,getT [(0,iV (leN a fl i)),(7,qap n ex fl),(8,iV n),(9,iV i)]⟩,[]⟩) (fun _=>⟨[],0⟩) (fun i=>n - i) (fun i=>i≤n) 0
    (fun _=>rfl) (Nat.zero_le _) (qdt.by rfl rfl (by simp) (Nat.le_refl _) (Nat.le_refl _) ⟨⟨rfl,.inl rfl⟩,⟨rfl,.inl rfl⟩,⟨rfl,.inl rfl⟩,⟨rfl,.inl rfl⟩,trivial⟩ trivial) fun i hi=>?_))
  obtain⟨v,hv⟩:∃ v,leN a fl i=v:=⟨_,rfl⟩
  rw[hv]
  refine SW.qab tok hO (by cbv <;> rfl) (by trivial) ?_
  refine SW.seq (SW.qa6 (by cbv <;> rfl) (fun h=>SW.skip ?_) (fun h=>SW.exit ?_))
  · have hlt:i<n:=by subst hO;simpa[std] using h
    have hi0:(0:Int)≤Int.ofNat i:=Int.natCast_nonneg i
    refine SW.seq (SW.block ?_)
    refine SW.qab tok hO (by cbv <;> rfl) ?_ ?_
    · exact⟨hi0,Int.ofNat_lt.2 hlt⟩
    refine SW.run tok hO (by cbv <;> rfl) (by trivial) ?_
    refine SW.run tok hO (by cbv <;> rfl) (by trivial) ?_
    have hm:O.mn v (fl (O.nat (Int.ofNat i)))=leN a fl (i+1):=by
      rw[hnat]
      show _=if fl i<leN a fl i then fl i else leN a fl i
      rw[hv];subst hO;rfl
    exact⟨i+1,by omega,hlt,qdt.by rfl rfl (fun _ h=>nomatch h) (Nat.le_refl _) (Nat.le_refl _) ⟨⟨congrArg (fun z=>AV.lit (.int .i64 z)) hm,.inl rfl⟩,⟨rfl,.inl rfl⟩,⟨rfl,.inl rfl⟩,⟨qci hO (by omega),.inl rfl⟩,trivial⟩ trivial⟩
  · have hge:i=n:=by
      have:n≤i:=by subst hO;simpa[std] using h
      omega
    subst hge
    rw[hv]
    refine SW.qab tok hO (by cbv <;> rfl) (by trivial) ?_
    exact SW.ret ⟨_,_,rfl,rfl,Eqv.of rfl⟩
set_option maxHeartbeats 8000000 in
theorem qj1 (n:Nat)(ex:Bool)(fl:Nat→Int)(h0:0<n)(hn:n<100000):Pure Try.prog 98 [qap n ex fl] (iV (grN (fl 0) (fun i=>fl (i+1)) (n - 1))):=by
  obtain⟨O,hO⟩:∃ O:Ar,O=std:=⟨_,rfl⟩
  have hnat:∀ i:Nat,O.nat (Int.ofNat i)=i:=fun i=>by subst hO;rfl
  have h00:(0:Int)<Int.ofNat n:=Int.ofNat_lt.2 h0
  refine qad tok 3 Try.func98 en98 rfl ⟨qa3 _ _ _,trivial⟩ Below.lit ?_
  refine SW.qab tok hO (by cbv <;> rfl) (by trivial) ?_
  refine SW.seq ?_
  refine SW.qab tok hO (by cbv <;> rfl) (by trivial) ?_
  refine SW.qa6 (by cbv <;> rfl) (fun h=>?_) (fun h=>SW.skip ?_)
  · exfalso
    have:n<1:=by subst hO;simp[std] at h;omega
    omega
  refine SW.qab tok hO (by cbv <;> rfl) ?_ ?_
  · exact⟨Int.le_refl _,h00⟩
  refine SW.seq ?_
  refine SW.qab tok hO (by cbv <;> rfl) (by trivial) ?_
  refine(SW.block (SW.qhk (fun i:Nat=>⟨⟨25,getT [(0,qap n ex fl),(3,iV (grN (fl 0) (fun i=>fl (i+1)) i)),(4,iV (i+1:Nat))]⟩,[]⟩) (fun _=>⟨[],0⟩) (fun i=>n - i) (fun i=>i+1≤n) 0
    (fun _=>rfl) h0 (qdt.by rfl rfl (by simp) (Nat.le_refl _) (Nat.le_refl _) ⟨⟨rfl,.inl rfl⟩,⟨by show AV.lit (.int .i64 (fl (O.nat 0)))=_;rw[show O.nat 0=0 from hnat 0];rfl,.inl rfl⟩,⟨rfl,.inl rfl⟩,trivial⟩ trivial) fun i hi=>?_))
  obtain⟨v,hv⟩:∃ v,grN (fl 0) (fun i=>fl (i+1)) i=v:=⟨_,rfl⟩
  obtain⟨j,hj⟩:∃ j,i+1=j:=⟨_,rfl⟩
  rw[hv,hj]
  refine SW.seq ?_
  refine SW.qab tok hO (by cbv <;> rfl) (by trivial) ?_
  refine SW.qa6 (by cbv <;> rfl) (fun h=>SW.skip ?_) (fun h=>SW.exit ?_)
  · have hlt:j<n:=by subst hO;simpa[std] using h
    have hi0:(0:Int)≤Int.ofNat j:=Int.natCast_nonneg j
    refine SW.seq (SW.block ?_)
    refine SW.run tok hO (by cbv <;> rfl) ?_ ?_
    · exact⟨hi0,Int.ofNat_lt.2 hlt⟩
    refine SW.run tok hO (by cbv <;> rfl) (by trivial) ?_
    have hm:O.mx v (fl (O.nat (Int.ofNat j)))=grN (fl 0) (fun i=>fl (i+1)) (i+1):=by
      rw[hnat]
      show _=if fl (i+1)>grN (fl 0) (fun i=>fl (i+1)) i then fl (i+1) else grN (fl 0) (fun i=>fl (i+1)) i
      rw[hv,hj];subst hO;rfl
    exact⟨i+1,by omega,by omega,qdt.by rfl rfl (fun _ h=>nomatch h) (Nat.le_refl _) (Nat.le_refl _) ⟨⟨rfl,.inl rfl⟩,⟨congrArg (fun z=>AV.lit (.int .i64 z)) hm,.inl rfl⟩,⟨by rw[hj];exact qci hO (by omega),.inl rfl⟩,trivial⟩ trivial⟩
  · have hge:j=n:=by
      have:n≤j:=by subst hO;simpa[std] using h
      omega
    have hi1:n - 1=i:=by omega
    rw[hi1,hv]
    refine SW.qab tok hO (by cbv <;> rfl) (by trivial) ?_
    exact SW.ret ⟨_,_,rfl,rfl,Eqv.of rfl⟩
theorem qnj (a:Int)(fl:Nat→Int):∀ n,(leN a fl n≤a∧∀ i,i<n→leN a fl n≤fl i)∧(leN a fl n=a∨∃ i,i<n∧leN a fl n=fl i)
  | 0=>⟨⟨Int.le_refl _,fun i h=>by omega⟩,.inl rfl⟩
  | n+1=>by
    obtain⟨⟨h1,h2⟩,h3⟩:=qnj a fl n
    show(_≤a∧_)∧_
    have e:leN a fl (n+1)=if fl n<leN a fl n then fl n else leN a fl n:=rfl
    rw[e]
    split
    · refine⟨⟨by omega,fun i hi=>?_⟩,.inr ⟨n,by omega,rfl⟩⟩
      by_cases hin:i=n
      · subst hin;omega
      · have:=h2 i (by omega);omega
    · refine⟨⟨h1,fun i hi=>?_⟩,h3.imp id fun⟨i,h4,h5⟩=>⟨i,by omega,h5⟩⟩
      by_cases hin:i=n
      · subst hin;omega
      · exact h2 i (by omega)
theorem qnm (a:Int)(fl:Nat→Int):∀ n,(a≤grN a fl n∧∀ i,i<n→fl i≤grN a fl n)∧(grN a fl n=a∨∃ i,i<n∧grN a fl n=fl i)
  | 0=>⟨⟨Int.le_refl _,fun i h=>by omega⟩,.inl rfl⟩
  | n+1=>by
    obtain⟨⟨h1,h2⟩,h3⟩:=qnm a fl n
    have e:grN a fl (n+1)=if fl n>grN a fl n then fl n else grN a fl n:=rfl
    rw[e]
    split
    · refine⟨⟨by omega,fun i hi=>?_⟩,.inr ⟨n,by omega,rfl⟩⟩
      by_cases hin:i=n
      · subst hin;omega
      · have:=h2 i (by omega);omega
    · refine⟨⟨h1,fun i hi=>?_⟩,h3.imp id fun⟨i,h4,h5⟩=>⟨i,by omega,h5⟩⟩
      by_cases hin:i=n
      · subst hin;omega
      · exact h2 i (by omega)
end Go.Fz
namespace Go.Fz
open Go.Proofs
set_option maxRecDepth 100000
end Go.Fz
namespace Go.Fz
variable {P:Program}{T:Ti}
def qgy (j:Nat):Bool:=!(Nat.beq j 0)&&!(Nat.beq j 1)
def roM (es:List (AV × AV × Nat))(clock:Nat):St:=⟨[(1,.cells none true [.mp 0]),(0,.map es clock)],2⟩
theorem qfk {es:List (AV × AV × Nat)}{clock id:Nat}{o:AObj}(h:(roM es clock).h.get id=some o):(id=1∧o=.cells none true [.mp 0])∨(id=0∧o=.map es clock):=by
  simp only [roM,Hp.get] at h
  split at h
  · rename_i hi;cases h;exact .inl ⟨hi.symm,rfl⟩
  · split at h
    · rename_i hi;cases h;exact .inr ⟨hi.symm,rfl⟩
    · cases h
theorem call_roM {g:FuncId}{args args2:List AV}{r:AV}{m mid bid:Nat}{fm:Option Nat}{ro:Bool}{es:List (AV × AV × Nat)}{clock:Nat}{st:St}(hm:st.h.get mid=some (.map es clock))(hb:st.h.get bid=some (.cells fm ro [.mp mid]))
    (hes:∀ x∈es,Below 0 x.1∧Below 0 x.2.1)(hr:Below 0 r)
    (ha:∀ (φ:Fi)(us:List Value),VRL φ args us→VRL ⟨fun i=>if i=0 then φ.f mid else φ.f bid,2,φ.z⟩ args2 us)
    (h:qax P g args2 (roM es clock) (fun v st'=>st'.h.get 0=some (.map es clock)∧freeB st'.h qgy=true∧Eqv (frz st'.h qgy m v) r)):qax P g args st (fun v st'=>v=r∧st'=st):=by
  intro φ w cargs n hrel hargs
  obtain⟨φ0,hφ0⟩:∃ φ0:Fi,φ0=⟨fun i=>if i=0 then φ.f mid else φ.f bid,2,φ.z⟩:=⟨_,rfl⟩
  have f0:φ0.f 0=φ.f mid:=by rw[hφ0];rfl
  have f1:φ0.f 1=φ.f bid:=by rw[hφ0];rfl
  have n0:φ0.n=2:=by rw[hφ0]
  have z0:φ0.z=φ.z:=by rw[hφ0]
  have hne:mid≠bid:=fun e=>by rw[e,hb] at hm;cases hm
  have closed:∀ {a:AV}{v:Value},Below 0 a→VR φ a v→VR φ0 a v:=fun hb h =>
    VR.mono (φ:=⟨φ.f,0,φ.z⟩) (φ':=φ0) ⟨Nat.zero_le _,fun id hid=>absurd hid (Nat.not_lt_zero id),fun b c hb=>by rw[z0];exact hb⟩ (hb _ _ h)
  have hblk:(φ.f mid).b≠(φ.f bid).b:=fun he=>by
    obtain⟨⟨f,hf,_⟩,_⟩:=hrel.sep mid bid _ _ hm hb hne rfl he
    cases hf
  have hrel0:Rel φ0 (roM es clock) w:=by
    refine⟨n0,fun j o h=>?_,fun j o h=>?_,fun j o h=>?_,fun i j oi oj hi hj hij ho hbb=>?_,fun j o f h hf=>?_,fun b c hb'=>?_⟩
    · rcases qfk h with ⟨rfl,rfl⟩ | ⟨rfl,rfl⟩ <;> (show _<2;omega)
    · rcases qfk h with ⟨rfl,rfl⟩ | ⟨rfl,rfl⟩
      · rw[f1];exact hrel.blk _ _ hb
      · rw[f0];exact hrel.blk _ _ hm
    · rcases qfk h with ⟨rfl,rfl⟩ | ⟨rfl,rfl⟩
      · refine⟨fun i a hi=>?_,fun h=>by cases h⟩
        obtain⟨v,h1,h2⟩:=(hrel.obj bid _ hb).1 0 (.mp mid) rfl
        cases i with
        | zero =>
          cases hi
          obtain⟨rfl,_⟩:=h2.qiv
          have hv:=VR.mp (φ:=φ0) 0 (by rw[n0];omega)
          rw[f0] at hv
          exact⟨_,by rw[f1];exact h1,hv⟩
        | succ i=>cases hi
      · obtain⟨ces,h1,h2,h3⟩:=hrel.obj mid _ hm
        refine⟨ces,by rw[f0];exact h1,h2,fun i x hx=>?_⟩
        obtain⟨e,k1,k2,k3,k4⟩:=h3 i x hx
        obtain⟨b1,b2⟩:=hes x (List.mem_of_getElem? hx)
        exact⟨e,k1,closed b1 k2,closed b2 k3,k4⟩
    · exfalso
      rcases qfk hi with ⟨rfl,rfl⟩ | ⟨rfl,rfl⟩
      · cases ho
      · rcases qfk hj with ⟨rfl,rfl⟩ | ⟨rfl,rfl⟩
        · rw[f0,f1] at hbb;exact hblk hbb
        · exact hij rfl
    · rcases qfk h with ⟨rfl,rfl⟩ | ⟨rfl,rfl⟩ <;> cases hf
    · obtain⟨h1,h2,h3⟩:=hrel.qdk b c (by rw[←z0];exact hb')
      refine⟨h1,h2,fun j o h ho=>?_⟩
      rcases qfk h with ⟨rfl,rfl⟩ | ⟨rfl,rfl⟩
      · cases ho
      · rw[f0];exact h3 mid _ hm rfl
  refine(h φ0 w cargs n hrel0 (by have:=ha φ _ hargs;rw[hφ0];exact this)).mono fun e w1 hp=>?_
  obtain⟨v,cv,st1,φ1,rfl,⟨hmap,hfree,hv⟩,hvr,hext,hrel1,hfr⟩:=hp
  obtain⟨hrel2,hfr2⟩:=hrel1.freeze hfree
  have hvr2:=qgg (D:=qgy) hrel1 m hvr
  replace hvr2:=hv _ _ hvr2
  have hfr3:=hfr.trans hfr2
  have e0:φ1.f 0=φ.f mid:=(hext.f 0 (by rw[n0];omega)).trans f0
  have hown:∀ b,qfv φ0 (roM es clock) b→b=(φ.f mid).b:=fun b ⟨j,o,h,ho,hb⟩=>by
    rcases qfk h with ⟨rfl,rfl⟩ | ⟨rfl,rfl⟩
    · cases ho
    · rw[←hb,f0]
  have hkeep:(st1.qhb fun i=>!qgy i).h.get 0=some (.map es clock):=Hp.qii (p:=fun i=>!qgy i) hmap (by rfl)
  have hzs:∀ b c,zOf φ1 st1.h qgy w1 b=some c→φ.z b=some c∨w.heap.size≤b:=fun b c hb=>by
    rcases hfr3.zs b c hb with h | h | h
    · exact .inl (by rw[←z0];exact h)
    · exfalso
      exact(hrel2.qdk b c hb).2.2 0 _ hkeep rfl (by show(φ1.f 0).b=b;rw[e0,hown b h])
    · exact .inr h
  have hext3:Ext φ ⟨φ.f,φ.n,zOf φ1 st1.h qgy w1⟩:=⟨Nat.le_refl _,fun _ _=>rfl,fun b c hb=>qgi (hext.z b c (by rw[z0];exact hb))⟩
  have hback:∀ {a:AV}{v:Value},Below 0 a→VR ⟨φ1.f,φ1.n,zOf φ1 st1.h qgy w1⟩ a v→VR ⟨φ.f,φ.n,zOf φ1 st1.h qgy w1⟩ a v:=fun hb h =>
    VR.mono (φ:=⟨φ1.f,0,zOf φ1 st1.h qgy w1⟩) (φ':=⟨φ.f,φ.n,zOf φ1 st1.h qgy w1⟩) ⟨Nat.zero_le _,fun id hid=>absurd hid (Nat.not_lt_zero id),fun b c hb=>hb⟩ (hb _ _ h)
  have hsame:∀ k,k<w.heap.size→k≠(φ.f mid).b→w1.heap[k]?=w.heap[k]?:=fun k hk hne=>hfr3.block k hk fun ho=>hne (hown k ho)
  refine⟨r,cv,st,⟨φ.f,φ.n,zOf φ1 st1.h qgy w1⟩,rfl,⟨rfl,rfl⟩,hback hr hvr2,hext3,?_,?_⟩
  · refine⟨hrel.n,hrel.lt,fun id o ho=>Nat.lt_of_lt_of_le (hrel.blk id o ho) hfr3.size,fun id o ho=>?_,hrel.sep,hrel.fam,fun b c hb=>?_⟩
    · by_cases hi:id=mid
      · subst hi
        rw[hm] at ho;cases ho
        obtain⟨ces,h1,h2,h3⟩:=hrel1.obj 0 _ hmap
        refine⟨ces,by rw[←h1,e0],h2,fun i x hx=>?_⟩
        obtain⟨e,k1,k2,k3,k4⟩:=h3 i x hx
        obtain⟨b1,b2⟩:=hes x (List.mem_of_getElem? hx)
        have hz:Ext φ1 ⟨φ1.f,φ1.n,zOf φ1 st1.h qgy w1⟩:=⟨Nat.le_refl _,fun _ _=>rfl,fun b c hb=>qgi hb⟩
        exact⟨e,k1,hback b1 (k2.mono hz),hback b2 (k3.mono hz),k4⟩
      · refine(hrel.obj id o ho).same hext3 (by rw[hrel.n];exact hrel.lt id o ho) (hsame _ (hrel.blk id o ho) fun he=>?_)
        obtain⟨⟨f,hf,_⟩,_⟩:=hrel.sep mid id _ o hm ho (Ne.symm hi) rfl he.symm
        cases hf
    · obtain⟨h1,h2,_⟩:=hrel2.qdk b c hb
      refine⟨h1,h2,fun id o ho hown' hbb=>?_⟩
      rcases hzs b c hb with h3 | h3
      · exact(hrel.qdk b c h3).2.2 id o ho hown' hbb
      · have:=hrel.blk id o ho
        have hbb':(φ.f id).b=b:=hbb
        omega
  · exact⟨hfr3.os,hfr3.tape,hfr3.output,hfr3.size,fun k hk hno=>hsame k hk (fun he=>hno ⟨mid,_,hm,rfl,he.symm⟩),fun k hk=>.inl hk,fun b c hb=>(hzs b c hb).elim .inl fun h=>.inr (.inr h)⟩
theorem qax.mpArg {g:FuncId}{st:St}{k:AV→St→Prop}(A:AV→List AV){id:Nat}(hA:∀ (φ:Fi)(us:List Value),VRL φ (A (.mp id)) us→∃ b,VRL φ (A (.lit (.map b))) us)(h:∀ b,qax P g (A (.lit (.map b))) st k):qax P g (A (.mp id)) st k:=fun φ w cargs n h1 h2=>by
  obtain⟨b,hb⟩:=hA φ _ h2
  exact h b φ w cargs n h1 hb
end Go.Fz
namespace Go.Fz
open Go.Proofs
set_option maxRecDepth 100000
section
variable {P:Program}
theorem SW.preR {rd:Option Nat}{c:Code}{Q:Exit→Fm→St→Prop}{f f2:Fm}{st st2:St}{ρ:Nat→Nat}(hw:qbx st.n ρ f st f2 st2)(h:SW P rd c Q f2 st2):SW P rd c Q f st:=by
  intro φ w a n h1 h2 h3
  obtain⟨k1,k2,k3⟩:=hw.ok h2 h3
  have he:Ext φ (qiw φ ρ st2.n):=⟨by show φ.n≤st2.n;rw[h2.n];exact hw.lo,fun id hid=>by show φ.f (ρ id)=_;rw[hw.idn id (by rw[←h2.n];exact hid)],fun _ _ hb=>hb⟩
  have h4:=h (qiw φ ρ st2.n) w a n (fun id hid=>Nat.lt_of_lt_of_le (h1 id hid) he.n) k1 k2
  rw[qb1 he h1] at h4
  exact wpIn_mono h4 fun e a' w' hl=>hl.trans he k3
theorem qaf.getT {ρ:Nat→Nat}{n:Nat}:∀ {l:List (Nat × AV)},qm5 (fun p=>qaf ρ n p.2 p.2) l→∀ i,qaf ρ n (getT l i) (getT l i)
  | [],_,i=>qaf.any
  | (j,a)::r,h,i=>by
    simp only [Fz.getT]
    cases Nat.beq j i with
    | true=>exact h.1
    | false=>exact qaf.getT h.2 i
end
section
variable {β:Type} [DecidableEq β]
def qpd (E:List (β × Nat))(c:Nat):Prop:=(∀ p∈E,p.2<c)∧(E.map (·.2)).Nodup
theorem qpd.upd {E:List (β × Nat)}{c:Nat}(h:qpd E c)(b:β):qpd (qhy E b c) (qn4 E b c):=by
  unfold qhy qn4
  split
  · exact h
  · refine⟨fun p hp=>?_,?_⟩
    · rcases List.mem_append.1 hp with hp | hp
      · have:=h.1 p hp;omega
      · rw[List.mem_singleton.1 hp]
        show c<c+1;omega
    · rw[List.map_append,List.nodup_append]
      refine⟨h.2,by simp,fun x hx y hy=>?_⟩
      obtain⟨p,hp,rfl⟩:=List.mem_map.1 hx
      have:=h.1 p hp
      simp at hy
      omega
def pkP (K:Nat→β):Nat→List (β × Nat) × Nat
  | 0=>([],0)
  | i+1=>(qhy (pkP K i).1 (K i) (pkP K i).2,qn4 (pkP K i).1 (K i) (pkP K i).2)
theorem qpv (K:Nat→β):∀ n,qpd (pkP K n).1 (pkP K n).2
  | 0=>⟨(fun _ h=>nomatch h),List.nodup_nil⟩
  | n+1=>(qpv K n).upd (K n)
theorem qoe (K:Nat→β)(x:β):∀ n,x∈(pkP K n).1.map (·.1)↔∃ j,j<n∧K j=x
  | 0=>by
    show x∈[]↔_
    exact⟨fun h=>(by cases h),fun⟨_,h,_⟩=>absurd h (Nat.not_lt_zero _)⟩
  | n+1=>by
    show x∈(qhy _ _ _).map (·.1)↔_
    rw[qpi,qoe K x n]
    constructor
    · rintro(⟨j,h1,h2⟩ | h)
      · exact⟨j,by omega,h2⟩
      · exact⟨n,by omega,h.symm⟩
    · rintro⟨j,h1,h2⟩
      by_cases e:j=n
      · exact .inr (by rw[←e];exact h2.symm)
      · exact .inl ⟨j,by omega,h2⟩
theorem qwa (E:List (β × Nat))(b:β)(c:Nat):(qhy E b c).length≤E.length+1:=by
  unfold qhy;split
  · omega
  · rw[List.length_append,List.length_singleton];exact Nat.le_refl _
theorem qto (K:Nat→β):∀ n,(pkP K n).1.length≤n
  | 0=>Nat.le_refl _
  | n+1=>by
    have h1:=qto K n
    have h2:=qwa (pkP K n).1 (K n) (pkP K n).2
    show(qhy _ _ _).length≤n+1
    omega
end
def inK (p:Int × Int):Bool:=decide (0≤p.1)&&decide (p.1≤1000000)&&decide (0≤p.2)&&decide (p.2≤1000000)
abbrev PK:={ p:Int × Int // inK p=true}
def pkV (p:PK):AV:=.agg [iV p.1.1,iV p.1.2]
theorem qfo (p:PK):Below 0 (pkV p):=Below.agg (qb2.ok ⟨Below.lit,Below.lit,trivial⟩)
theorem qmo:Maps.Keyed Try.prog 121:=Maps.Keyed.of_law (deep_law_laid (m:=3) laid (by omega) (qd3 (by kernel_rfl)) (by kernel_rfl) (by kernel_rfl))
theorem wf64 {n:Int}(h0:0≤n)(h1:n≤1000000):(Lit.int .i64 n).wf=true:=by
  simp[Lit.wf,IntKind.min,IntKind.max,IntKind.signed,IntKind.bits]
  omega
theorem keyOf_pair {P:Program}{t e:TypeId}{f0 f1:Field}{d:Nat}(hu:P.underlying t=some (.struct #[f0,f1]))(hsz:P.types.size=d+1)(h0:f0.type=e)(h1:f1.type=e)(o0:f0.offset=0)(o1:f1.offset=1)(n0:(f0.name != "_")=true)(n1:(f1.name != "_")=true)
    (he:P.underlying e=some (.int .i64))(c1:P.cellsOf t=2)(c3:P.cellsOf e=1)(k1:P.keyType t=true){a b:Int}(ha:(Lit.int .i64 a).wf=true)(hb:(Lit.int .i64 b).wf=true):∃ l,keyOf P t (.agg #[.int .i64 a,.int .i64 b])=some l:=by
  have f1':Value.formed P t (.agg #[.int .i64 a,.int .i64 b])=true:=by simp[Value.formed,hu,c1]
  have hl:∀ x:Int,(Lit.int .i64 x).wf=true→P.keyLits (d+1) e [.int .i64 x]=some [.int .i64 x]:=fun x hx=>by
    unfold Program.keyLits
    rw[he]
    simp[hx]
  have hk:P.keyLits (P.types.size+1) t [.int .i64 a,.int .i64 b]=some [.int .i64 a,.int .i64 b]:=by
    rw[hsz]
    unfold Program.keyLits
    rw[hu]
    simp only [List.length_cons,List.length_nil,c1]
    rw[if_pos ⟨trivial,by simp[n0,n1]⟩]
    simp[h0,h1,o0,o1,c3,hl a ha,hl b hb]
  refine⟨.string (keyBytes [.int .i64 a,.int .i64 b]),?_⟩
  unfold keyOf
  rw[hu]
  simp only [k1,f1',Bool.and_true,if_true]
  show Option.map _ (P.keyLits _ t [.int .i64 a,.int .i64 b])=_
  rw[hk];rfl
theorem pk_key {a b:Int}(ha:(Lit.int .i64 a).wf=true)(hb:(Lit.int .i64 b).wf=true):∃ l,keyOf Try.prog 121 (.agg #[.int .i64 a,.int .i64 b])=some l :=
  keyOf_pair (e:=3) (d:=207) Try.underlying121 (by kernel_rfl) rfl rfl rfl rfl (by decide) (by decide) Try.underlying3 (by kernel_rfl) (by kernel_rfl) (by kernel_rfl) ha hb
def pkKey:KeyF Try.prog 121 pkV where
  den p:=.agg #[.int .i64 p.1.1,.int .i64 p.1.2]
  val φ b u h:=by
    obtain⟨us,rfl,h1⟩:=h.qbd
    match us,h1 with
    | [_,_],.cons h1 (.cons h2 .nil)=>rw[h1.qao,h2.qao]
  key b:=by
    obtain⟨b,h⟩:=b
    simp only [inK,Bool.and_eq_true,decide_eq_true_eq] at h
    exact pk_key (wf64 h.1.1.1 h.1.1.2) (wf64 h.1.2 h.2)
  inj b c h:=by
    obtain⟨⟨b0,b1⟩,_⟩:=b
    obtain⟨⟨c0,c1⟩,_⟩:=c
    simp at h
    simp[h]
noncomputable def enParts:Code × Code:=match nthC 2 (bodyF Try.f59) with
  | .seq _ (.block _ (.rangeFunc _ _ a b))=>(a,b)
  | c=>(c,c)
def enL:List (Nat × AV):=[(3,.ptr 2 0),(4,.ptr 3 0),(5,.ptr 4 0),(7,.fn (.func 99) [] [.ptr 1 0])]
noncomputable def enR:qcu:={ state:=.ready,pending:=none,tmps:=⟨24,getT enL⟩,params:=#[8],assign:=enParts.1,body:=enParts.2,dfid:=5}
noncomputable def enH (g:FuncId)(ME:List (AV × AV × Nat))(cl:Nat)(X:AV):Hp :=
  [(6,.loop enR),(5,.dfr),(4,.cells none false [X]),(3,.cells none false [iV 0,iV 0]),(2,.cells none false [.fn (.func g) [] []]),(1,.cells none true [.mp 0]),(0,.map ME cl)]
set_option maxHeartbeats 8000000 in
theorem qu9 (g:FuncId)(p q u:Int)(hof:Pure Try.prog g [.agg [iV p,iV q]] (iV u))(ME:List (AV × AV × Nat))(cl:Nat)(it:AObj) :
    qbb Try.prog 6 [.agg [iV p,iV q]] ⟨(9,.cells none false [iV p,iV q])::(7,it)::enH g ME cl nl3,10⟩
      (fun v st'=>v=.lit (.bool true)∧st'=⟨(12,.cells none false [iV u])::(11,.cells none false [iV u])::(10,.cells none false [iV p,iV q])::(9,.cells none false [iV p,iV q])::(7,it)::enH g ME cl (.sl 12 0 1 1 false),13⟩):=by
  obtain⟨O,hO⟩:∃ O:Ar,O=std:=⟨_,rfl⟩
  refine qbb.qdm (r:=enR) rfl rfl ?_
  refine SW.run tok hO (by cbv <;> rfl) (by trivial) ?_
  refine⟨enR,rfl,rfl,SW.block ?_⟩
  obtain⟨RB,hRB⟩:∃ r,r=({ enR with state:=.busy}:qcu):=⟨_,rfl⟩
  rw[←hRB]
  refine SW.runD tok mixed hO (by rfl) (by cbv <;> rfl) (by trivial) ?_
  refine AnyE.qas hof (by cbv <;> rfl) (by cbv <;> rfl) ?_
  refine AnyE.run tok hO (by rfl) (by cbv <;> rfl) (by trivial) ?_
  refine AnyE.qey tok hO (by cbv <;> rfl) (by cbv <;> rfl) (by trivial) ?_ ?_
  · exact(by repeat (first | exact trivial | refine And.intro (by first | exact qby hO (by cbv <;> rfl) (by trivial) | (cbv <;> rfl)) ?_))
  refine AnyE.run tok hO (by rfl) (by cbv <;> rfl) (by trivial) ?_
  refine AnyE.qev tok (by cbv <;> rfl) (by cbv <;> rfl) (by rfl) (by kernel_rfl) (by rfl) (by rfl) ?_
  refine AnyE.run tok hO (by rfl) (by cbv <;> rfl) (by trivial) ?_
  refine AnyE.eff tok hO (by cbv <;> rfl) (by cbv <;> rfl) (by trivial) ?_
  refine AnyE.done (by rfl) ?_
  refine⟨RB,rfl,rfl,?_⟩
  subst hRB
  rfl
end Go.Fz
