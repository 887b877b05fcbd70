/- Own work of the verifier of watercress: EvG, EvH, EvI, EvKr. -/
import Derived.Test.YtpefamheopplnaaMb2
import Derived.OrdersIn
set_option linter.unusedVariables false
set_option linter.unusedSimpArgs false
namespace Go.Ev
def qbn (φ:Fi)(st:St)(w:World)(k:AV→St→Prop):Ending→World→Prop :=
  fun e w'=>∃ v cv st' φ',e=.returned cv∧k v st'∧VR φ' v cv∧Ext φ φ'∧Rel φ' st' w'∧Fr φ st w φ' st' w'
variable (P:Program)(T:Ti)
def qax (g:FuncId)(args:List AV)(st:St)(k:AV→St→Prop):Prop :=
  ∀ (φ:Fi)(w:World)(cargs:List Value)(n:Nat),Rel φ st w→VRL φ args cargs→CallsIn Fence.wide n P g cargs.toArray w (qbn φ st w k)
def qbb (id:Nat)(args:List AV)(st:St)(k:AV→St→Prop):Prop :=
  ∀ (φ:Fi)(w:World)(cargs:List Value)(n:Nat),Rel φ st w→id<φ.n→VRL φ args cargs →
    ∃ fn tmps assign body,(Instr.yield (φ.f id).b cargs.toArray).run P w=.ok (.round (φ.f id).b fn tmps assign body) w∧RoundIn Fence.wide n P (φ.f id).b fn tmps assign body w (qbn φ st w k)
def Enters (g:FuncId):Prop:=∀ args w,(callFunc g args).run P w=.ok (.enter g args) w
def ApplyW (callee:AV)(args:List AV)(st:St)(k:AV→St→Prop):Prop :=
  match callee with
  | .fn (.func g) first caps=>Enters P g∧qax P g (first++args++caps) st k
  | .yld id=>qbb P id args st k
  | _=>False
variable {P T}
theorem qax.mono {g:FuncId}{args:List AV}{st:St}{k k':AV→St→Prop}(h:qax P g args st k)(hk:∀ v st,k v st→k' v st):qax P g args st k' :=
  fun φ w cargs n h1 h2=>(h φ w cargs n h1 h2).mono fun _ _ ⟨v,cv,st',φ',h3,h4,r⟩=>⟨v,cv,st',φ',h3,hk _ _ h4,r⟩
theorem qbb.mono {id:Nat}{args:List AV}{st:St}{k k':AV→St→Prop}(h:qbb P id args st k)(hk:∀ v st,k v st→k' v st):qbb P id args st k' :=
  fun φ w cargs n h1 h2 h3=>by
    obtain⟨fn,tmps,assign,body,h4,h5⟩:=h φ w cargs n h1 h2 h3
    exact⟨fn,tmps,assign,body,h4,h5.mono fun _ _ ⟨v,cv,st',φ',h3,h4,r⟩=>⟨v,cv,st',φ',h3,hk _ _ h4,r⟩⟩
theorem ApplyW.mono {c:AV}{args:List AV}{st:St}{k k':AV→St→Prop}(h:ApplyW P c args st k)(hk:∀ v st,k v st→k' v st):ApplyW P c args st k':=by
  unfold ApplyW at *
  split at h
  · exact⟨h.1,h.2.mono hk⟩
  · exact h.mono hk
  · exact h
def callO (ρ:Operand→AV)(o:Oper):Option (AV × List AV) :=
  match o.op with
  | .call c=>match c.callee with
    | .value f=>some (ρ f,c.args.toList.map ρ)
    | _=>none
  | _=>none
theorem opRs {φ:Fi}{ρa:Operand→AV}{ρ:Operand→Value}(hρ:OpR φ ρa ρ):∀ l:List Operand,VRL φ (l.map ρa) (l.map ρ)
  | []=>.nil
  | x::l=>.cons (hρ x) (opRs hρ l)
theorem qac.call {rd:Option Nat}{ops:Array Oper}{i:Nat}{l:List Nat}{K:Fm→St→Prop}{f:Fm}{st:St}{o:Oper}{c:AV}{args:List AV}(ho:ops[i]?=some o)(hw:Region.wanted o (yA ops f.ts)=true)
    (hc:callO (Operand.av f.ts) o=some (c,args))(h:ApplyW P c args st (fun v st'=>qac P rd ops l K (f.put o.dst v) st')):qac P rd ops (i::l) K f st:=by
  unfold callO at hc
  split at hc
  · rename_i cl hx
    split at hc
    · rename_i fo hcal
      cases hc
      intro φ w a n Q h1 h2 h3 hQ
      simp only [wpOpsIn,ho]
      rw[qdc h3,hw]
      simp only [if_true]
      refine⟨fun _ _=>trivial,?_⟩
      rw[semAt_eq (fun c hc=>by rw[hx] at hc;cases hc)]
      have hρ:=qa7 h3.ts
      have hargs:=opRs hρ cl.args.toList
      have hfo:=hρ fo
      have hnext:∀ e w',qbn φ st w (fun v st'=>qac P rd ops l K (f.put o.dst v) st') e w'→∃ cv,e=.returned cv∧wpOpsIn (FW (rdB φ rd)) n P ops Q l (a.put o.dst cv) w':=fun e w' hp=>by
        obtain⟨v,cv,st',φ',he,hk,hv,hex,hrel,hfr⟩:=hp
        refine⟨cv,he,?_⟩
        have h4:=hk φ' w' (a.put o.dst cv) n Q (fun id hi=>Nat.lt_of_lt_of_le (h1 id hi) hex.n) hrel ((h3.mono hex).put o.dst hv) (fun a' w'' hl=>hQ a' w'' (hl.trans hex hfr))
        rwa [qb1 hex h1] at h4
      unfold ApplyW at h
      split at h
      · rename_i g first caps hq
        rw[hq] at hfo
        obtain⟨us,vs,hfv,hu,hv⟩:=hfo.qed
        obtain⟨hent,hcw⟩:=h
        have hcall:=hcw φ w (us++cl.args.toList.map a.eval++vs) (n - 1) h2 ((hu.append hargs).append hv)
        have hrun:(execOp a.eval o).run P w=.ok (.enter g (us++cl.args.toList.map a.eval++vs).toArray) w:=by
          simp only [execOp,hx,resolve,hcal,Sem.run_bind,hfv,Deferred.ofValue,Sem.run_pure,Result.andThen,invoke]
          rw[hent]
          congr 2
          apply Array.ext'
          simp
        rw[hrun]
        refine⟨fun h=>(by cases h),?_⟩
        have hcall':CallsIn (FW (rdB φ rd)) (n - 1) P g (us++cl.args.toList.map a.eval++vs).toArray w (qbn φ st w (fun v st'=>qac P rd ops l K (f.put o.dst v) st')):=by
          cases rdB φ rd <;> exact hcall
        refine hcall'.mono fun e w' hp=>?_
        obtain⟨cv,rfl,h5⟩:=hnext e w' hp
        exact h5
      · rename_i id hq
        rw[hq] at hfo
        obtain⟨hfv,hid⟩:=hfo.qlu
        obtain⟨fn,tmps,assign,body,hy,hround⟩:=h φ w (cl.args.toList.map a.eval) (n - 1) h2 hid hargs
        have hrun:(execOp a.eval o).run P w=.ok (.round (φ.f id).b fn tmps assign body) w:=by
          simp only [execOp,hx,resolve,hcal,Sem.run_bind,hfv,Deferred.ofValue,Sem.run_pure,Result.andThen,invoke]
          rw[←hy]
          congr 2
          apply Array.ext'
          simp
        rw[hrun]
        refine⟨fun h=>(by cases h),?_⟩
        have hround':RoundIn (FW (rdB φ rd)) (n - 1) P (φ.f id).b fn tmps assign body w (qbn φ st w (fun v st'=>qac P rd ops l K (f.put o.dst v) st')):=by
          cases rdB φ rd <;> exact hround
        refine hround'.mono fun e w' hp=>?_
        obtain⟨cv,rfl,h5⟩:=hnext e w' hp
        exact h5
      · exact h.elim
    · cases hc
  · cases hc
def killA:List Nat→St→Option St
  | [],st=>some st
  | id::r,st=>match st.h.get id with
    | some .dfr=>killA r ⟨st.h.set id (.cells none true []),st.n⟩
    | _=>none
def resOne (T:Ti)(f:Fm)(st:St):ResultVar→Option AV
  | .tmp t=>some (f.ts.getD t qb3)
  | .cell a t=>loadA T st.h t (f.ts.getD a qb3)
def resAll (T:Ti)(f:Fm)(st:St):List ResultVar→Option (List AV)
  | []=>some []
  | r::rs=>match resOne T f st r,resAll T f st rs with
    | some v,some vs=>some (v::vs)
    | _,_=>none
def resA (T:Ti)(rs:Array ResultVar)(f:Fm)(st:St):Option AV :=
  match resAll T f st rs.toList with
  | some [v]=>some v
  | some vs=>some (.tup vs)
  | none=>none
def retQ (T:Ti)(fn:Func)(k:AV→St→Prop):Exit→Fm→St→Prop
  | .normal,f,st | .ret,f,st=>∃ st' v,killA f.dm st=some st'∧resA T fn.results f st'=some v∧k v st'
  | _,_,_=>False
theorem qg1 {φ:Fi}{ts:List AV}{tmps:Array Value}(h:VRL φ ts tmps.toList)(t:Nat):VR φ (ts.getD t qb3) (tmps.getD t undef) :=
  qa7 (a:=⟨tmps,[]⟩) h (.tmp t)
def resF (tmps:Array Value):ResultVar→Sem Value
  | .tmp t=>pure (tmps.getD t undef)
  | .cell a t=>do loadVar t (←asAddr (tmps.getD a undef))
theorem qh6 (fn:Func)(tmps:Array Value):results fn tmps=(do let vs ←fn.results.mapM (resF tmps);pure (if h:vs.size=1 then vs[0] else .tuple vs)):=rfl
theorem qtk (hT:TOk P T){φ:Fi}{st:St}{w:World}{f:Fm}{tmps:Array Value}{fn:Func}{v:AV}(hr:Rel φ st w)(ht:VRL φ f.ts tmps.toList)(h:resA T fn.results f st=some v) :
    ∃ u,VR φ v u∧(results fn tmps).run P w=.ok u w:=by
  have hone:∀ r v,resOne T f st r=some v→∃ u,VR φ v u∧((resF tmps r).run P w=.ok u w):=fun r v hv=>by
    cases r with
    | tmp t=>simp only [resOne,Option.some.injEq] at hv;subst hv;exact⟨_,qg1 ht t,rfl⟩
    | cell a t =>
      simp only [resOne] at hv
      obtain⟨u,h1,h2⟩:=qjv (P:=P) hT hr (qg1 ht a) hv
      refine⟨u,h1,?_⟩
      have h3:=h2 w (Same.refl _ _ _)
      have hg:=qg1 ht a
      unfold loadA at hv
      split at hv
      · rename_i id off hq
        rw[hq] at hg
        obtain⟨hp,_⟩:=hg.qca
        rw[hp] at h3
        show Sem.run P (do let x ←asAddr (tmps.getD a undef);loadVar t x) w=_
        rw[hp]
        simpa[Instr.loadAt,Instr.sureAddr,asAddr] using h3
      · cases hv
  have hall:∀ rs vs,resAll T f st rs=some vs→∃ us,VRL φ vs us∧(rs.mapM (resF tmps)).run P w=.ok us w:=by
    intro rs
    induction rs with
    | nil=>intro vs hv;simp only [resAll,Option.some.injEq] at hv;subst hv;exact⟨[],.nil,rfl⟩
    | cons r rs ih =>
      intro vs hv
      simp only [resAll] at hv
      split at hv
      · rename_i v1 vs1 h1 h2
        cases hv
        obtain⟨u,hu,hur⟩:=hone r v1 h1
        obtain⟨us,hus,husr⟩:=ih vs1 h2
        refine⟨u::us,.cons hu hus,?_⟩
        simp only [List.mapM_cons,Sem.run_bind,hur,Result.andThen,husr,Sem.run_pure]
      · cases hv
  unfold resA at h
  have key:∀ vs us,VRL φ vs us→(fn.results.toList.mapM (resF tmps)).run P w=.ok us w →
      (results fn tmps).run P w=.ok (if h:us.toArray.size=1 then us.toArray[0] else .tuple us.toArray) w:=fun vs us _ hrun=>by
    rw[qh6]
    have hm:∀ x:Sem (List Value),(List.toArray <$> x).run P w=(x.run P w).andThen fun a w'=>.ok a.toArray w':=fun x=>by
      show(x >>= fun a=>pure a.toArray).run P w=_
      rw[Sem.run_bind];rfl
    rw[Sem.run_bind,Array.mapM_eq_mapM_toList,hm,hrun]
    rfl
  split at h
  · rename_i v' hq
    cases h
    obtain⟨us,hus,hrun⟩:=hall _ _ hq
    cases hus with
    | cons h1 h2=>cases h2 with
      | nil=>exact⟨_,h1,by rw[key _ _ (.cons h1 .nil) hrun];simp⟩
  · rename_i vs hne hq
    cases h
    obtain⟨us,hus,hrun⟩:=hall _ _ hq
    refine⟨.tuple us.toArray,.tup hus,?_⟩
    rw[key _ _ hus hrun]
    have:us.toArray.size≠1:=fun h1=>by
      have hl:=hus.length
      have:vs.length=1:=by rw[hl];simpa using h1
      match vs,this with
      | [x],_=>exact hne x rfl
    rw[dif_neg this]
  · cases h
theorem qgq {w:World}{b:Nat}(h:w.heap[b]?=some (.deferred (some []))):(Instr.takeDeferred b).run P w=.ok [] (w.putObj b (.deferred none)):=run_takeDeferred h
theorem Rel.kill {φ:Fi}{st:St}{w:World}(hr:Rel φ st w){id:Nat}(ho:st.h.get id=some .dfr) :
    Rel φ ⟨st.h.set id (.cells none true []),st.n⟩ (w.putObj (φ.f id).b (.deferred none))∧Fr φ st w φ ⟨st.h.set id (.cells none true []),st.n⟩ (w.putObj (φ.f id).b (.deferred none)) :=
  hr.qso ho rfl rfl rfl rfl rfl World.putObj_size (fun _ hk=>World.putObj_heap_other hk) ⟨fun i a ha=>by simp at ha,fun h=>by cases h⟩
theorem qd4 (hT:TOk P T){n:Nat}{fn:Func}{k:AV→St→Prop}{φ0:Fi}{st0:St}{w0:World}{f:Fm}{tmps:Array Value}{φ:Fi}:∀ (dm:List Nat)(st:St)(w:World),(∀ id∈dm,id<φ.n)→Ext φ0 φ→Rel φ st w→VRL φ f.ts tmps.toList →
    Fr φ0 st0 w0 φ st w→(∃ st' v,killA dm st=some st'∧resA T fn.results f st'=some v∧k v st') →
    LeavesInM Fence.wide n P fn tmps (qbn φ0 st0 w0 k) (dm.map fun id=>{ target:=.collected (φ.f id).b,args:=#[] }) .returning w
  | [],st,w,_,he,hr,ht,hf,⟨st',v,hk,hv,hkv⟩=>by
    simp only [killA,Option.some.injEq] at hk
    subst hk
    obtain⟨u,hu,hrun⟩:=qtk (P:=P) hT hr ht hv
    exact⟨u,hrun,v,u,st,φ,rfl,hkv,hu,he,hr,hf⟩
  | id::r,st,w,hlt,he,hr,ht,hf,⟨st',v,hk,hv,hkv⟩=>by
    simp only [killA] at hk
    split at hk
    · rename_i ho
      have hd:=hr.obj id _ ho
      obtain⟨h1,h2⟩:=hr.kill ho
      refine⟨by simp,.inl ⟨(φ.f id).b,_,rfl,qgq hd,?_⟩⟩
      exact qd4 hT r _ _ (fun i hi=>hlt i (List.mem_cons_of_mem _ hi)) he h1 ht (hf.trans h2) ⟨st',v,hk,hv,hkv⟩
    · cases hk
theorem qat (hT:TOk P T){g:FuncId}{fn:Func}{c:Code}{args:List AV}{st:St}{k:AV→St→Prop}(hf:P.funcs[g]?=some fn)(hb:fn.body=some c)
    (h:SW P none c (retQ T fn k) ⟨args++List.replicate (fn.ntmps - args.length) qb3,[]⟩ st):qax P g args st k:=by
  intro φ w cargs n h1 h2
  refine callsIn_of_wp_marks hf hb trivial ?_ rfl
  have hl:=h2.length
  have ha:qdb φ ⟨args++List.replicate (fn.ntmps - args.length) qb3,[]⟩ { tmps:=cargs.toArray++Array.replicate (fn.ntmps - cargs.toArray.size) undef,defers:=[] }:=by
    refine⟨?_,rfl,fun _ h=>by cases h⟩
    have:(cargs.toArray++Array.replicate (fn.ntmps - cargs.toArray.size) undef).toList=cargs++List.replicate (fn.ntmps - args.length) undef:=by simp[hl]
    rw[this]
    exact h2.append (VRL.replicate _ (.lit _))
  refine wpIn_mono (h φ w _ n (fun id hi=>by cases hi) h1 ha) fun e a' w' hq=>?_
  obtain⟨f',st',φ',hk,he,hr,ha',hfr⟩:=hq
  cases e with
  | normal=>show LeavesInM _ _ _ _ _ _ _ _ _;rw[ha'.dm];exact qd4 hT f'.dm st' w' ha'.lt he hr ha'.ts hfr hk
  | ret=>show LeavesInM _ _ _ _ _ _ _ _ _;rw[ha'.dm];exact qd4 hT f'.dm st' w' ha'.lt he hr ha'.ts hfr hk
  | exit id=>exact hk.elim
  | goto l=>exact hk.elim
  | panic c=>exact hk.elim
  | outgrown=>exact hk.elim
end Go.Ev
namespace Go.Ev
def setPs:List AV→List (Tmp × AV)→List AV
  | ts,[]=>ts
  | ts,(t,a)::r=>setPs (ts.set t a) r
def loopAt (st:St)(id:Nat):Option qcu :=
  match st.h.get id with
  | some (.loop r)=>some r
  | _=>none
theorem qbz {st:St}{id:Nat}{r:qcu}(h:loopAt st id=some r):st.h.get id=some (.loop r):=by
  unfold loopAt at h
  split at h
  · cases h;assumption
  · cases h
def qa5 (st:St)(id:Nat)(r:qcu):St:=⟨st.h.set id (.loop r),st.n⟩
variable {P:Program}{T:Ti}
theorem Rel.loop {φ:Fi}{st:St}{w:World}(hr:Rel φ st w){id:Nat}{r r':qcu}(ho:loopAt st id=some r){L L':Loop}(hL:w.heap[(φ.f id).b]?=some (.loop L))
    (h1:L'.state=r'.state)(h2:L'.pending=r'.pending)(h3:L'.tmps=L.tmps)(h4:L'.params=L.params)(h5:L'.assign=L.assign)(h6:L'.body=L.body)(h7:L'.defers=L.defers)
    (k3:r'.tmps=r.tmps)(k4:r'.params=r.params)(k5:r'.assign=r.assign)(k6:r'.body=r.body)(k7:r'.dfid=r.dfid) :
    Rel φ (qa5 st id r') (w.putObj (φ.f id).b (.loop L'))∧Fr φ st w φ (qa5 st id r') (w.putObj (φ.f id).b (.loop L')):=by
  have hg:=qbz ho
  obtain⟨L0,g1,g2,g3,g4,g5,g6,g7,g8,g9⟩:=hr.obj id _ hg
  rw[hL] at g1
  cases g1
  refine hr.qso hg rfl rfl rfl rfl rfl World.putObj_size (fun _ hk=>World.putObj_heap_other hk) ⟨L',World.putObj_heap_same (hr.blk id _ hg),h1,h2,?_,?_,?_,?_,?_,?_⟩
  · rw[h3,k3];exact g4
  · rw[h4,k4];exact g5
  · rw[h5,k5];exact g6
  · rw[h6,k6];exact g7
  · rw[k7];exact g8
  · rw[h7,k7];exact g9
theorem qhe {φ:Fi}:∀ (ps:List Tmp){as:List AV}{us:List Value}{ts:List AV}{tmps:Array Value},VRL φ as us→VRL φ ts tmps.toList →
    VRL φ (setPs ts (ps.zip as)) ((ps.zip us).foldl (fun(t:Array Value)(p:Tmp × Value)=>t.setIfInBounds p.1 p.2) tmps).toList
  | [],_,_,_,_,_,ht=>by simpa[setPs] using ht
  | p::ps,_,_,_,_,.nil,ht=>by simpa[setPs] using ht
  | p::ps,_,_,ts,tmps,.cons h t,ht=>by
    simp only [List.zip_cons_cons,setPs,List.foldl_cons]
    refine qhe ps t ?_
    rw[Array.toList_setIfInBounds]
    exact ht.set p h
def qtb (id:Nat)(k:AV→St→Prop):Exit→Fm→St→Prop
  | .normal,_,st=>∃ r,loopAt st id=some r∧k (.lit (.bool true)) (qa5 st id { r with state:=.ready,pending:=none})
  | .ret,_,st=>∃ r,loopAt st id=some r∧k (.lit (.bool false)) (qa5 st id { r with state:=.done,pending:=some .ret})
  | .exit e,_,st=>∃ r,loopAt st id=some r∧k (.lit (.bool false)) (qa5 st id { r with state:=.done,pending:=some (.exit e) })
  | .goto l,_,st=>∃ r,loopAt st id=some r∧k (.lit (.bool false)) (qa5 st id { r with state:=.done,pending:=some (.goto l) })
  | _,_,_=>False
theorem qbb.qdm {id:Nat}{args:List AV}{st:St}{k:AV→St→Prop}{r:qcu}(ho:loopAt st id=some r)(hlen:args.length=r.params.size)
    (h:SW P (some id) r.assign (qjf (fun f1 st1=>∃ r1,loopAt st1 id=some r1∧r1.state=.ready∧SW P (some id) r.body (qtb id k) f1 (qa5 st1 id { r1 with state:=.busy})) (fun _ _ _=>False))
      ⟨setPs r.tmps (r.params.toList.zip args),[]⟩ st):qbb P id args st k:=by
  intro φ w cargs n hr hid hargs
  obtain⟨L,g1,g2,g3,g4,g5,g6,g7,g8,g9⟩:=hr.obj id _ (qbz ho)
  have hl:=hargs.length
  refine⟨_,_,_,_,run_yield g1 (by rw[g5];simp;omega),?_⟩
  refine roundIn_of_wpIn (F:=Fence.wide) trivial ?_
  rw[g6]
  have htm:VRL φ (setPs r.tmps (r.params.toList.zip args)) ((L.params.zip cargs.toArray).foldl (fun tmps (t,a)=>tmps.setIfInBounds t a) L.tmps).toList:=by
    have:=qhe (ps:=r.params.toList) hargs g4
    rw[g5,←Array.foldl_toList,Array.toList_zip]
    exact this
  refine wpIn_mono (h φ w { tmps:=(L.params.zip cargs.toArray).foldl (fun tmps (t,a)=>tmps.setIfInBounds t a) L.tmps,defers:=[] } n (fun i hi=>by cases hi;exact hid) hr ⟨htm,rfl,fun _ h=>by cases h⟩) fun e a1 w1 hq=>?_
  obtain⟨f1,st1,φ1,hk,he1,hr1,ha1,hf1⟩:=hq
  have hb1:(φ1.f id).b=(φ.f id).b:=by rw[he1.f id hid]
  cases e with
  | normal =>
    obtain⟨r1,ho1,hs1,hbody⟩:=hk
    obtain⟨L1,k1,k2,k3,k4,k5,k6,k7,k8,k9⟩:=hr1.obj id _ (qbz ho1)
    rw[hb1] at k1
    have hbr:=run_beginRound (P:=P) k1 (by rw[k2];exact hs1)
    obtain⟨hr2,hf2⟩:=hr1.loop (r':={ r1 with state:=.busy}) ho1 (L:=L1) (L':={ L1 with state:=.busy}) (by rw[hb1];exact k1) rfl k3 rfl rfl rfl rfl rfl rfl rfl rfl rfl rfl
    rw[hb1] at hr2 hf2
    refine⟨_,hbr,?_⟩
    rw[g7]
    have h2:=hbody φ1 _ a1 n (fun i hi=>by cases hi;exact Nat.lt_of_lt_of_le hid he1.n) hr2 ha1
    rw[qb1 he1 (fun i hi=>by cases hi;exact hid)] at h2
    refine wpIn_mono h2 fun e a2 w2 hq2=>?_
    obtain⟨f2,st2,φ2,hk2,he2,hr3,ha2,hf3⟩:=hq2
    have hb2:(φ2.f id).b=(φ.f id).b:=by rw[he2.f id (Nat.lt_of_lt_of_le hid he1.n)];exact hb1
    have fin:∀ (jump:Option Code)(r2:qcu),loopAt st2 id=some r2→k (.lit (.bool jump.isNone)) (qa5 st2 id { r2 with state:=if jump.isNone then .ready else .done,pending:=jump}) →
        ∃ v w',(Instr.endRound (φ.f id).b jump).run P w2=.ok v w'∧qbn φ st w k (.returned v) w':=fun jump r2 ho2 hkk=>by
      obtain⟨L2,m1,m2,m3,m4,m5,m6,m7,m8,m9⟩:=hr3.obj id _ (qbz ho2)
      rw[hb2] at m1
      obtain⟨hr4,hf4⟩:=hr3.loop (r':={ r2 with state:=if jump.isNone then .ready else .done,pending:=jump}) ho2 (L:=L2) (L':={ L2 with state:=if jump.isNone then .ready else .done,pending:=jump}) (by rw[hb2];exact m1) rfl rfl rfl rfl rfl rfl rfl rfl rfl rfl rfl rfl
      rw[hb2] at hr4 hf4
      exact⟨_,_,run_endRound (P:=P) jump m1,.lit (.bool jump.isNone),.bool jump.isNone,_,φ2,rfl,hkk,.lit _,he1.trans he2,hr4,hf1.trans (hf2.trans (hf3.trans hf4))⟩
    cases e with
    | normal=>obtain⟨r2,ho2,hkk⟩:=hk2;exact fin none r2 ho2 hkk
    | ret=>obtain⟨r2,ho2,hkk⟩:=hk2;exact fin (some .ret) r2 ho2 hkk
    | exit x=>obtain⟨r2,ho2,hkk⟩:=hk2;exact fin (some (.exit x)) r2 ho2 hkk
    | goto l=>obtain⟨r2,ho2,hkk⟩:=hk2;exact fin (some (.goto l)) r2 ho2 hkk
    | panic c=>exact hk2.elim
    | outgrown=>exact hk2.elim
  | exit x=>exact hk.elim
  | goto l=>exact hk.elim
  | ret=>exact hk.elim
  | panic c=>exact hk.elim
  | outgrown=>exact hk.elim
def qjm (P:Program)(rd:Option Nat)(lid:Nat)(Q:Exit→Fm→St→Prop)(f:Fm):AV→St→Prop:=fun _ st =>
  ∃ r,loopAt st lid=some r∧r.state≠.busy ∧
    (match r.pending with
     | none=>Q .normal f (qa5 st lid { r with state:=.exhausted})
     | some c=>SW P rd c Q f (qa5 st lid { r with state:=.exhausted}))
theorem qec {rd:Option Nat}{lid:Nat}{Q:Exit→Fm→St→Prop}{f:Fm}{φ φ1:Fi}{st st1:St}{w w1:World}{a:Act}{n:Nat}(hrd:∀ id,rd=some id→id<φ.n)(he:Ext φ φ1)(hlid:lid<φ1.n)(ha:qdb φ1 f a)(hf:Fr φ st w φ1 st1 w1)
    {e:Ending}{w':World}(h:qbn φ1 st1 w1 (qjm P rd lid Q f) e w'):rangePost (FW (rdB φ rd)) n P (φ1.f lid).b (qem φ st w Q) a e w':=by
  obtain⟨v,cv,st2,φ2,rfl,⟨r,ho,hs,hk⟩,_,he2,hr2,hf2⟩:=h
  obtain⟨L,g1,g2,g3,g4,g5,g6,g7,g8,g9⟩:=hr2.obj lid _ (qbz ho)
  have hb:(φ2.f lid).b=(φ1.f lid).b:=by rw[he2.f lid hlid]
  obtain⟨hr3,hf3⟩:=hr2.loop (r':={ r with state:=.exhausted}) ho (L:=L) (L':={ L with state:=.exhausted}) g1 rfl g3 rfl rfl rfl rfl rfl rfl rfl rfl rfl rfl
  rw[hb] at g1 hr3 hf3
  have hend:=run_endLoop (P:=P) g1 (by rw[g2];exact hs)
  generalize w'.putObj (φ1.f lid).b (.loop { L with state:=.exhausted})=w4 at hr3 hf3 hend
  generalize qa5 st2 lid { r with state:=.exhausted}=st3 at hr3 hf3 hk
  refine⟨_,_,hend,?_⟩
  rw[g3]
  cases hp:r.pending with
  | none =>
    rw[hp] at hk
    exact⟨f,_,φ2,hk,he.trans he2,hr3,ha.mono he2,hf.trans (hf2.trans hf3)⟩
  | some c =>
    rw[hp] at hk
    have h4:=hk φ2 _ a n (fun id hi=>Nat.lt_of_lt_of_le (hrd id hi) (Nat.le_trans he.n he2.n)) hr3 (ha.mono he2)
    rw[qb1 (he.trans he2) hrd] at h4
    exact wpIn_mono h4 fun e a' w' hl=>hl.trans (he.trans he2) (hf.trans (hf2.trans hf3))
theorem SW.rangeFunc {g:Operand}{ps:Array Tmp}{assign body:Code}{Q:Exit→Fm→St→Prop}{f:Fm}{st:St}{gf:FuncId} {first caps:List AV}(hg:Operand.av f.ts g=.fn (.func gf) first caps)(hent:Enters P gf)
    (h:qax P gf (first++[.yld (st.n+1)]++caps) ((st.push .dfr).push (.loop { state:=.ready,pending:=none,tmps:=f.ts,params:=ps,assign,body,dfid:=st.n}))
      (qjm P none (st.n+1) Q { f with dm:=st.n::f.dm})):SW P none (.rangeFunc g ps assign body) Q f st:=by
  intro φ w a n h1 hr ha
  refine wpIn_rangeFunc fun fn _=>?_
  have hp1:=hr.push (.deferred (some [])) .dfr ⟨w.heap.size,0,0⟩ rfl (by show _=_;rw[Fi.qae];exact qaw w _)
  have hn1:(φ.push ⟨w.heap.size,0,0⟩).n=φ.n+1:=rfl
  have hp2:=hp1.1.push (.loop { state:=.ready,pending:=none,fn,tmps:=a.tmps,params:=ps,assign,body,defers:=w.heap.size}) (.loop { state:=.ready,pending:=none,tmps:=f.ts,params:=ps,assign,body,dfid:=st.n}) ⟨w.heap.size+1,0,0⟩ (by rw[qb5])
    ⟨_,by rw[Fi.qae];have:=qaw (w.alloc (.deferred (some []))) (.loop { state:=.ready,pending:=none,fn,tmps:=a.tmps,params:=ps,assign,body,defers:=w.heap.size});rwa [qb5] at this,
     rfl,rfl,(ha.ts.mono ((φ.qan _).trans ((φ.push _).qan _))),rfl,rfl,rfl,by simp[Fi.push,hr.n];omega,by
      show w.heap.size=_
      rw[←hr.n,((φ.push ⟨w.heap.size,0,0⟩).qan _).f φ.n (by rw[hn1];omega),Fi.qae]⟩
  have he:Ext φ ((φ.push ⟨w.heap.size,0,0⟩).push ⟨w.heap.size+1,0,0⟩):=(φ.qan _).trans ((φ.push _).qan _)
  have hfa:((φ.push ⟨w.heap.size,0,0⟩).push ⟨w.heap.size+1,0,0⟩).f φ.n=⟨w.heap.size,0,0⟩:=by rw[((φ.push ⟨w.heap.size,0,0⟩).qan _).f φ.n (by rw[hn1];omega),Fi.qae]
  have hfb:((φ.push ⟨w.heap.size,0,0⟩).push ⟨w.heap.size+1,0,0⟩).f (φ.n+1)=⟨w.heap.size+1,0,0⟩:=Fi.qae _ _
  have hpn:((φ.push ⟨w.heap.size,0,0⟩).push ⟨w.heap.size+1,0,0⟩).n=φ.n+2:=rfl
  have ha2:qdb ((φ.push ⟨w.heap.size,0,0⟩).push ⟨w.heap.size+1,0,0⟩) { f with dm:=st.n::f.dm} { a with defers:=[{ target:=.collected w.heap.size,args:=#[] }]++a.defers}:=by
    have h0:=ha.mono he
    refine⟨h0.ts,?_,fun id hi=>?_⟩
    · rw[h0.dm,List.map_cons,←hr.n,hfa];rfl
    · rcases List.mem_cons.1 hi with rfl | hi
      · rw[hpn,hr.n];omega
      · exact h0.lt id hi
  have hgv:=qa7 ha.ts g
  rw[hg] at hgv
  obtain⟨us,vs,hv,hu,hvv⟩:=hgv.qed
  have hyl:VR ((φ.push ⟨w.heap.size,0,0⟩).push ⟨w.heap.size+1,0,0⟩) (.yld (st.n+1)) (.func (.yield (w.heap.size+1)) #[] #[]):=by
    have:=VR.yld (φ:=(φ.push ⟨w.heap.size,0,0⟩).push ⟨w.heap.size+1,0,0⟩) (φ.n+1) (by rw[hpn];omega)
    rw[hfb] at this
    rw[←hr.n];exact this
  have hcall:=h _ _ (us++[Value.func (.yield (w.heap.size+1)) #[] #[]]++vs) (n - 1) hp2.1 (((hu.mono he).append (.cons hyl .nil)).append (hvv.mono he))
  have hloop:=run_enterLoop_outer (P:=P) (w:=w) fn a.tmps ps assign body
  generalize (w.alloc (.deferred (some []))).alloc (.loop { state:=.ready,pending:=none,fn,tmps:=a.tmps,params:=ps,assign,body,defers:=w.heap.size})=W2 at hp2 hcall hloop
  refine⟨w.heap.size+1,_,W2,{ target:=.fn (.func gf) vs.toArray,args:=us.toArray++#[Value.func (.yield (w.heap.size+1)) #[] #[]] },W2,gf,(us++[Value.func (.yield (w.heap.size+1)) #[] #[]]++vs).toArray,W2,hloop,?_,fun _ _=>trivial,?_,fun h=>(by cases h),?_⟩
  · have hm:Array.map a.eval #[Operand.const (Value.func (Fn.yield (w.heap.size+1)) #[] #[])]=#[Value.func (Fn.yield (w.heap.size+1)) #[] #[]]:=by simp[Act.eval]
    simp only [resolve,hv,Deferred.ofValue,Sem.run_pure,hm]
  · simp only [invoke]
    rw[hent]
    congr 2
    apply Array.ext'
    simp
  · refine CallsIn.mono (F:=FW none) hcall fun e w' hp=>?_
    have:=qec (P:=P) (n:=n) (rd:=none) h1 he (by rw[hpn,hr.n];omega) ha2 (hp1.2.trans hp2.2) hp
    rw[←hr.n,hfb] at this
    exact this
theorem qgr {w:World}{l:Nat}{r:Loop}(h:w.heap[l]?=some (.loop r))(fn:FuncId)(tmps:Array Value)(ps:Array Tmp)(assign body:Code) :
    (Instr.enterLoop fn tmps ps assign body (some l)).run P w=.ok (w.heap.size,[]) (w.alloc (.loop { state:=.ready,pending:=none,fn,tmps,params:=ps,assign,body,defers:=r.defers})):=by
  unfold Instr.enterLoop
  simp only [Sem.run_bind,run_getLoop h,run_newObj_alloc,Result.andThen,Sem.run_pure]
theorem SW.qob {id0:Nat}{r0:qcu}{g:Operand}{ps:Array Tmp}{assign body:Code}{Q:Exit→Fm→St→Prop}{f:Fm}{st:St}{gf:FuncId} {first caps:List AV}(ho:loopAt st id0=some r0)(hg:Operand.av f.ts g=.fn (.func gf) first caps)(hent:Enters P gf)
    (h:qax P gf (first++[.yld st.n]++caps) (st.push (.loop { state:=.ready,pending:=none,tmps:=f.ts,params:=ps,assign,body,dfid:=r0.dfid}))
      (qjm P (some id0) st.n Q f)):SW P (some id0) (.rangeFunc g ps assign body) Q f st:=by
  intro φ w a n h1 hr ha
  have hid0:id0<φ.n:=h1 id0 rfl
  obtain⟨L,g1,g2,g3,g4,g5,g6,g7,g8,g9⟩:=hr.obj id0 _ (qbz ho)
  refine wpIn_rangeFunc fun fn _=>?_
  have hp2:=hr.push (.loop { state:=.ready,pending:=none,fn,tmps:=a.tmps,params:=ps,assign,body,defers:=L.defers}) (.loop { state:=.ready,pending:=none,tmps:=f.ts,params:=ps,assign,body,dfid:=r0.dfid}) ⟨w.heap.size,0,0⟩ rfl
    ⟨_,by rw[Fi.qae];exact qaw w _,rfl,rfl,ha.ts.mono (φ.qan _),rfl,rfl,rfl,by rw[Fi.qge];exact Nat.lt_succ_of_lt g8,by
      show L.defers=_
      rw[(φ.qan _).f r0.dfid g8];exact g9⟩
  have he:Ext φ (φ.push ⟨w.heap.size,0,0⟩):=φ.qan _
  have hfb:(φ.push ⟨w.heap.size,0,0⟩).f φ.n=⟨w.heap.size,0,0⟩:=Fi.qae _ _
  have hpn:(φ.push ⟨w.heap.size,0,0⟩).n=φ.n+1:=rfl
  have hgv:=qa7 ha.ts g
  rw[hg] at hgv
  obtain⟨us,vs,hv,hu,hvv⟩:=hgv.qed
  have hyl:VR (φ.push ⟨w.heap.size,0,0⟩) (.yld st.n) (.func (.yield w.heap.size) #[] #[]):=by
    have:=VR.yld (φ:=φ.push ⟨w.heap.size,0,0⟩) φ.n (by rw[hpn];omega)
    rw[hfb] at this
    rw[←hr.n];exact this
  have hcall:=h _ _ (us++[Value.func (.yield w.heap.size) #[] #[]]++vs) (n - 1) hp2.1 (((hu.mono he).append (.cons hyl .nil)).append (hvv.mono he))
  have hloop:=qgr (P:=P) g1 fn a.tmps ps assign body
  generalize w.alloc (.loop { state:=.ready,pending:=none,fn,tmps:=a.tmps,params:=ps,assign,body,defers:=L.defers})=W2 at hp2 hcall hloop
  refine⟨w.heap.size,_,W2,{ target:=.fn (.func gf) vs.toArray,args:=us.toArray++#[Value.func (.yield w.heap.size) #[] #[]] },W2,gf,(us++[Value.func (.yield w.heap.size) #[] #[]]++vs).toArray,W2,hloop,?_,fun _ _=>trivial,?_,fun h=>(by cases h),?_⟩
  · have hm:Array.map a.eval #[Operand.const (Value.func (Fn.yield w.heap.size) #[] #[])]=#[Value.func (Fn.yield w.heap.size) #[] #[]]:=by simp[Act.eval]
    simp only [resolve,hv,Deferred.ofValue,Sem.run_pure,hm]
  · simp only [invoke]
    rw[hent]
    congr 2
    apply Array.ext'
    simp
  · refine CallsIn.mono (F:=FW (rdB φ (some id0))) hcall fun e w' hp=>?_
    have:=qec (P:=P) (n:=n) (rd:=some id0) (a:=a) h1 he (by rw[hpn,hr.n];omega) (ha.mono he) hp2.2 hp
    rw[←hr.n,hfb] at this
    exact this
end Go.Ev
namespace Go.Ev
theorem qj9 (T:Ti)(h:Hp){ρ ρ':Operand→AV}(o:Oper)(hx:∀ x∈o.op.operands,ρ x=ρ' x):evL T h ρ o=evL T h ρ' o:=by
  obtain⟨dst,op,type,pos,after,guard⟩:=o
  cases op <;> simp only [Op.operands] at hx <;> simp only [evL]
  case makeFunc fn a b =>
    rw[List.map_congr_left (l:=a.toList) fun x hm=>hx x (by simp[Array.mem_toList_iff.1 hm]),List.map_congr_left (l:=b.toList) fun x hm=>hx x (by simp[Array.mem_toList_iff.1 hm])]
  case call c =>
    have ha:∀ x∈c.args.toList,ρ x=ρ' x:=fun x hm=>hx x (by simp[Call.operands,Array.mem_toList_iff.1 hm])
    cases hc:c.callee with
    | builtin b =>
      cases hl:c.args.toList with
      | nil=>rfl
      | cons x r =>
        have hx0:ρ x=ρ' x:=ha x (by rw[hl];simp)
        cases r with
        | nil=>cases b <;> first | rfl | (rcases c.argTypes.toList with _ | ⟨t,_ | ⟨t2,r2⟩⟩ <;> simp only [hx0])
        | cons y r =>
          have hy0:ρ y=ρ' y:=ha y (by rw[hl];simp)
          cases b <;> first | rfl | (cases r <;> simp only [hx0,hy0])
    | value f=>rfl
    | invoke r m=>rfl
  all_goals (first | rfl | (simp_all;done))
theorem qka (T:Ti)(h:Hp){ρ ρ':Operand→AV}(o:Oper)(hx:∀ x∈o.op.operands,ρ x=ρ' x):evG T h ρ o=evG T h ρ' o:=by
  have hL:=qj9 T h o hx
  obtain⟨dst,op,type,pos,after,guard⟩:=o
  cases op <;> simp only [Op.operands] at hx <;> simp only [evG]
  case build t ps =>
    rw[List.map_congr_left (l:=ps.toList) fun p hm=>by
      have:ρ p.2=ρ' p.2:=hx p.2 (by simp only [List.mem_toArray,List.mem_map];exact⟨p,hm,rfl⟩)
      rw[this]]
  case slice t x lo hi mx=>cases lo <;> cases hi <;> cases mx <;> simp_all
  case binOp b t x y yt=>cases b <;> simp only [evG] <;> simp_all
  all_goals (first | exact hL | rfl | (simp_all;done))
theorem qvr {f:Fm}{dst:Option Tmp}{v:AV}{x:Operand}(h:∀ d,dst=some d→x≠.tmp d):Operand.av (f.put dst v).ts x=Operand.av f.ts x:=by
  cases dst with
  | none=>rfl
  | some d =>
    cases x with
    | tmp t =>
      have hne:d≠t:=fun e=>h d rfl (e▸rfl)
      simp[Fm.put,Operand.av,List.getD_eq_getElem?_getD,List.getElem?_set_ne hne]
    | _=>rfl
section
variable {P:Program}{T:Ti}{ops:Array Oper}
theorem qow {h:Hp}(o:Oper)(f:Fm)(dst:Option Tmp)(v:AV)(hd:∀ d,dst=some d→d∉o.looksAt ops) :
    evG T h (Operand.av (f.put dst v).ts) o=evG T h (Operand.av f.ts) o :=
  qka T h o fun x hx=>qvr fun d hdd hxd=>hd d hdd (by
    subst hxd
    exact List.mem_append_left _ (List.mem_filterMap.2 ⟨.tmp d,by simpa using hx,rfl⟩))
theorem qgl (o:Oper)(f:Fm)(dst:Option Tmp)(v:AV)(h:∀ d,dst=some d→d∉o.looksAt ops) :
    Region.wanted o (yA ops (f.put dst v).ts)=Region.wanted o (yA ops f.ts):=by
  cases dst with
  | none=>rfl
  | some d =>
    unfold Region.wanted
    cases hg:o.guard with
    | none=>rfl
    | some gw =>
      obtain⟨g,want⟩:=gw
      have hy:yA ops (f.put (some d) v).ts g=yA ops f.ts g:=by
        unfold yA
        cases ht:(ops[g]?).bind (·.dst) with
        | none=>rfl
        | some t =>
          have hne:d≠t:=fun e=>h d rfl (by subst e;simp[Oper.looksAt,hg,ht])
          simp[Fm.put,List.getElem?_set_ne hne]
      simp only [hy]
def lightV (T:Ti)(ops:Array Oper)(h:Hp)(f:Fm)(i:Nat):Option AV :=
  match ops[i]? with
  | some o=>if Region.wanted o (yA ops f.ts) then evG T h (Operand.av f.ts) o else some qb3
  | none=>none
theorem qdh {h:Hp}{i:Nat}{f:Fm}{dst:Option Tmp}{v:AV}(hd:∀ o,ops[i]?=some o→∀ d,dst=some d→d∉o.looksAt ops):lightV T ops h (f.put dst v) i=lightV T ops h f i:=by
  unfold lightV
  cases ho:ops[i]? with
  | none=>rfl
  | some o=>simp only [qgl o f dst v (hd o ho),qow o f dst v (hd o ho)]
def qa8 (o:Oper):List Nat:=o.after.toList.filterMap fun e=>if Region.binds .any e then some e.on else none
structure Tidy (ops:Array Oper)(M:List Nat):Prop where
  back:∀ (j:Nat)(o:Oper),ops[j]?=some o→∀ e∈qa8 o,e<j
  anc:∀ (j:Nat)(o:Oper) i,ops[j]?=some o→i<ops.size→(M.getD j 0).testBit i=true→∃ e∈qa8 o,e=i∨(M.getD e 0).testBit i=true
  see:∀ (i j:Nat)(oi oj:Oper),ops[i]?=some oi→ops[j]?=some oj→i≠j→∀ d,oi.dst=some d→(d∈oj.looksAt ops→(M.getD j 0).testBit i=true∨(M.getD i 0).testBit j=true)∧oj.dst≠some d
  self:∀ (i:Nat)(oi:Oper),ops[i]?=some oi→∀ d,oi.dst=some d→d∉oi.looksAt ops
  plain:∀ (i:Nat)(oi:Oper),ops[i]?=some oi→(∀ cs b,oi.op≠.select cs b)∧∀ c,oi.op≠.defer c
def qhh (o:Oper):Bool:=match o.op with | .select .. | .defer _=>false | _=>true
def tidyAt (ops:Array Oper)(M:List Nat)(j:Nat)(o:Oper):Bool :=
  qhh o&&(qa8 o).all (·<j) &&
  ((List.range ops.size).all fun i=>!(M.getD j 0).testBit i||(qa8 o).any fun e=>e == i||(M.getD e 0).testBit i) &&
  ((List.range ops.size).all fun i=>match (ops[i]?).bind (·.dst) with
    | some d=>(!((o.looksAt ops).contains d)||(i != j&&((M.getD j 0).testBit i||(M.getD i 0).testBit j)))&&(i == j||o.dst != some d)
    | none=>true)
def qgo (ops:Array Oper)(M:List Nat):Bool:=(List.range ops.size).all fun j=>match ops[j]? with
  | some o=>tidyAt ops M j o
  | none=>true
def qc6 (ops:Array Oper):List Nat:=ops.toList.foldl (fun M o=>M++[(qa8 o).foldl (fun m e=>m ||| (1 <<< e) ||| M.getD e 0) 0]) []
theorem qgn {M:List Nat}(h:qgo ops M=true):Tidy ops M:=by
  have hat:∀ (j:Nat)(o:Oper),ops[j]?=some o→tidyAt ops M j o=true:=fun j o ho=>by
    have:=List.all_eq_true.1 h j (List.mem_range.2 (Array.getElem?_eq_some_iff.1 ho).1)
    simpa only [ho] using this
  have hsee:∀ (i j:Nat)(oi oj:Oper),ops[i]?=some oi→ops[j]?=some oj→∀ d,oi.dst=some d→(d∈oj.looksAt ops→i≠j∧((M.getD j 0).testBit i=true∨(M.getD i 0).testBit j=true))∧(i≠j→oj.dst≠some d):=fun i j oi oj hi hj d hd=>by
    have h1:=hat j oj hj
    simp only [tidyAt,Bool.and_eq_true] at h1
    have h2:=List.all_eq_true.1 h1.2 i (List.mem_range.2 (Array.getElem?_eq_some_iff.1 hi).1)
    simp only [hi,Option.bind_some,hd,Bool.and_eq_true,Bool.or_eq_true,Bool.not_eq_true',bne_iff_ne,beq_iff_eq] at h2
    refine⟨fun hm=>?_,fun hne=>h2.2.resolve_left hne⟩
    rcases h2.1 with h3 | h3
    · rw[List.contains_iff_mem.2 hm] at h3;cases h3
    · exact h3
  refine⟨fun j o ho e he=>?_,fun j o i ho hi hb=>?_,fun i j oi oj hi hj hne d hd=>⟨fun hm=>((hsee i j oi oj hi hj d hd).1 hm).2,(hsee i j oi oj hi hj d hd).2 hne⟩,fun i oi hi d hd hm=>((hsee i i oi oi hi hi d hd).1 hm).1 rfl,fun i oi hi=>?_⟩
  · have h1:=hat j o ho
    simp only [tidyAt,Bool.and_eq_true] at h1
    simpa using List.all_eq_true.1 h1.1.1.2 e he
  · have h1:=hat j o ho
    simp only [tidyAt,Bool.and_eq_true] at h1
    have h2:=List.all_eq_true.1 h1.1.2 i (List.mem_range.2 hi)
    simp only [hb,Bool.not_true,Bool.false_or,List.any_eq_true,Bool.or_eq_true,beq_iff_eq] at h2
    exact h2
  · have h1:=hat i oi hi
    simp only [tidyAt,Bool.and_eq_true] at h1
    have h2:=h1.1.1.1
    unfold qhh at h2
    exact⟨fun cs b hc=>by simp[hc] at h2,fun c hc=>by simp[hc] at h2⟩
def qbu (ops:Array Oper)(listed:Array Bool):Prop:=∀ (j:Nat)(o:Oper),ops[j]?=some o→listed.getD j false=true→∀ e∈qa8 o,listed.getD e false=true
theorem qdo {o:Oper}{e:Nat}:e∈qa8 o↔∃ x∈o.after,Region.binds .any x=true∧x.on=e:=by
  unfold qa8
  rw[List.mem_filterMap]
  constructor
  · rintro⟨x,hx,h⟩
    split at h
    · rename_i hb;cases h;exact⟨x,Array.mem_toList_iff.1 hx,hb,rfl⟩
    · cases h
  · rintro⟨x,hx,hb,rfl⟩
    exact⟨x,Array.mem_toList_iff.2 hx,by simp[hb]⟩
theorem qa9 {j:Nat}{listed:Array Bool}(h:j∈Region.ready .any ops listed):∃ o,ops[j]?=some o∧listed.getD j true=false∧∀ e∈qa8 o,listed.getD e false=true:=by
  obtain⟨h0,o,ho,h1⟩:=mem_ready.1 h
  exact⟨o,ho,h0,fun e he=>by obtain⟨x,hx,hb,rfl⟩:=qdo.1 he;exact h1 x hx hb⟩
theorem qbu.set {listed:Array Bool}(hc:qbu ops listed){j:Nat}(h:j∈Region.ready .any ops listed):qbu ops (listed.setIfInBounds j true):=by
  obtain⟨o,ho,_,he⟩:=qa9 h
  intro k ok hok hk e hek
  by_cases hjk:j=k
  · subst hjk
    rw[ho] at hok;cases hok
    exact getD_set_true (he e hek)
  · rw[getD_set_ne false hjk] at hk
    exact getD_set_true (hc k ok hok hk e hek)
theorem qct {listed:Array Bool}{j:Nat}(h:listed.getD j true=false):listed.getD j false=false:=by
  rcases Nat.lt_or_ge j listed.size with h' | h'
  · simpa[h'] using h
  · simp[Array.getElem?_eq_none h']
theorem qbu.anc {M:List Nat}(hM:Tidy ops M){listed:Array Bool}(hc:qbu ops listed){i:Nat}(hi:i<ops.size):∀ (j:Nat)(o:Oper),ops[j]?=some o→(∀ e∈qa8 o,listed.getD e false=true)→(M.getD j 0).testBit i=true→listed.getD i false=true:=by
  intro j
  induction j using Nat.strongRecOn with
  | _ j ih =>
    intro o ho hall hb
    obtain⟨e,he,h1 | h1⟩:=hM.anc j o i ho hi hb
    · subst h1;exact hall e he
    · have hlt:=hM.back j o ho e he
      have hes:e<ops.size:=Nat.lt_trans hlt (Array.getElem?_eq_some_iff.1 ho).1
      exact ih e hlt ops[e] (Array.getElem?_eq_getElem hes) (hc e ops[e] (Array.getElem?_eq_getElem hes) (hall e he)) h1
def qbj (T:Ti)(ops:Array Oper)(qag:List (Nat × AV))(f:Fm)(h:Hp):Prop:=∀ p∈qag,lightV T ops h f p.1=some p.2
def qbv (M:List Nat)(j:Nat)(qag:List (Nat × AV)):List (Nat × AV):=qag.filter fun p=>!(M.getD j 0).testBit p.1
variable (P T ops) in
def qda (M:List Nat)(rd:Option Nat)(K:Fm→St→Prop):Nat→List (Nat × AV)→Array Bool→Fm→St→Prop
  | 0,qag,listed,f,st=>qbj T ops qag f st.h∧Region.ready .any ops listed=[]∧K f st
  | fuel+1,qag,listed,f,st=>qbj T ops qag f st.h∧(Region.ready .any ops listed=[]→K f st) ∧
    ∀ j∈Region.ready .any ops listed,∃ o,ops[j]?=some o∧qac P rd ops [j] (fun f' st'=>∃ v,f'=f.put o.dst v∧qda M rd K fuel (qbv M j qag) (listed.setIfInBounds j true) f' st') f st
theorem qac.mono {rd:Option Nat}{l:List Nat}{K K':Fm→St→Prop}{f:Fm}{st:St}(h:qac P rd ops l K f st)(hk:∀ f st,K f st→K' f st):qac P rd ops l K' f st :=
  fun φ w a n Q h1 h2 h3 hQ=>h φ w a n Q h1 h2 h3 fun a' w' ⟨f',st',φ',k,r⟩=>hQ a' w' ⟨f',st',φ',hk _ _ k,r⟩
theorem qda.qag {M:List Nat}{rd:Option Nat}{K:Fm→St→Prop}{fuel:Nat}{qag:List (Nat × AV)}{listed:Array Bool}{f:Fm}{st:St}(h:qda P T ops M rd K fuel qag listed f st):qbj T ops qag f st.h:=by
  cases fuel <;> exact h.1
theorem qda.weaken {M:List Nat}{rd:Option Nat}{K:Fm→St→Prop}:∀ (fuel:Nat){qag pend':List (Nat × AV)}{listed:Array Bool}{f:Fm}{st:St},qda P T ops M rd K fuel qag listed f st→(∀ p∈pend',p∈qag)→qda P T ops M rd K fuel pend' listed f st
  | 0,_,_,_,_,_,h,hs=>⟨fun p hp=>h.1 p (hs p hp),h.2⟩
  | fuel+1,qag,pend',_,_,_,h,hs=>⟨fun p hp=>h.1 p (hs p hp),h.2.1,fun j hj=>by
      obtain⟨o,ho,h1⟩:=h.2.2 j hj
      refine⟨o,ho,h1.mono fun f' st' ⟨v,h2,h3⟩=>⟨v,h2,qda.weaken fuel h3 fun p hp=>?_⟩⟩
      unfold qbv at *
      rw[List.mem_filter] at *
      exact⟨hs p hp.1,hp.2⟩⟩
theorem qce {F:Fence}{n:Nat}{Q1 Q2:Exit→Act→World→Prop}{j:Nat}{o:Oper}{K1 K2:Act→World→Prop}{a1 a2:Act}{w:World}(hj:ops[j]?=some o)(hnd:∀ c,o.op≠.defer c)
    (hw:Region.wanted o (yielded ops a1.tmps)=Region.wanted o (yielded ops a2.tmps))(he:execOp a1.eval o=execOp a2.eval o)(hb:∀ w,o.about P w a1.eval=o.about P w a2.eval)
    (hK:∀ cv w',K1 (a1.put o.dst cv) w'→K2 (a2.put o.dst cv) w')(hD:∀ d w',K1 ({ a1 with defers:=d::a1.defers}.put o.dst undef) w'→K2 ({ a2 with defers:=d::a2.defers}.put o.dst undef) w')(hQ:∀ e a w,e≠.normal→Q1 e a w→Q2 e a2 w)(hl:LetsOut Q1→LetsOut Q2)
    (h:wpOpIn F n P ops Q1 j K1 a1 w):wpOpIn F n P ops Q2 j K2 a2 w:=by
  unfold wpOpIn at *
  simp only [hj] at *
  rw[hw,hb w] at h
  split
  · rename_i hwn
    simp only [hwn,if_true] at h
    unfold Oper.wpIn at *
    rw[semAt_eq hnd,he,hb w] at h
    rw[semAt_eq hnd]
    refine⟨h.1,?_⟩
    obtain⟨-,h⟩:=h
    generalize (execOp a2.eval o).run P w=r at *
    cases r with
    | ok x w' =>
      cases x <;> simp only [Oper.uponIn] at h ⊢
      case value u=>exact hK u _ h
      case skip=>exact hK _ _ h
      case defer d=>exact hD d _ h
      case enter f args=>exact⟨h.1,CallsIn.mono h.2 fun e w'' he=>by
        cases e with
        | returned u=>exact hK u _ he
        | panicked c=>exact hQ _ _ _ (by simp) he
        | outgrown=>exact hl he⟩
      case row row args=>exact⟨h.1,RowsIn.mono h.2 fun u w'' he=>hK u _ he⟩
      case round l f tmps assign body=>exact⟨h.1,RoundIn.mono h.2 fun e w'' he=>by
        cases e with
        | returned u=>exact hK u _ he
        | panicked c=>exact hQ _ _ _ (by simp) he
        | outgrown=>exact hl he⟩
    | halt x w' =>
      cases x <;> simp only [Oper.uponIn] at h ⊢
      case panic u=>exact hQ _ _ _ (by simp) h
  · rename_i hwn
    simp only [hwn] at h
    exact⟨h.1,hK _ _ h.2⟩
theorem qac.qwb {M:List Nat}(hM:Tidy ops M)(hT:TOk P T){rd:Option Nat}{i j:Nat}{oi oj:Oper}{r:AV}{K:Fm→St→Prop}{f:Fm}{st:St}(hi:ops[i]?=some oi)(hj:ops[j]?=some oj)
    (h1:∀ d,oi.dst=some d→d∉oj.looksAt ops)(h2:∀ d,oi.dst=some d→oj.dst≠some d)(hr:lightV T ops st.h f i=some r)
    (h:qac P rd ops [j] (fun f' st'=>∃ v,f'=(f.put oi.dst r).put oj.dst v∧K (f.put oj.dst v) st') (f.put oi.dst r) st) :
    qac P rd ops [j] (fun f' st'=>∃ v,f'=f.put oj.dst v∧K f' st') f st:=by
  intro φ w a n Q hrd hrel hact hQ
  obtain⟨u,hu⟩:∃ u,VR φ r u:=by
    unfold lightV at hr
    simp only [hi] at hr
    split at hr
    · obtain⟨u,h3,_⟩:=qld (P:=P) hT hrel (qa7 hact.ts) hr
      exact⟨u,h3⟩
    · cases hr;exact⟨undef,.lit _⟩
  have hp:=hM.plain j oj hj
  let X:Act→World→Prop:=qem φ st w (fun _ f' st'=>∃ v,f'=(f.put oi.dst r).put oj.dst v∧K (f.put oj.dst v) st') .normal
  have h3:=h φ w (a.put oi.dst u) n (fun e a w=>e=.normal∧X a w) hrd hrel (hact.put oi.dst hu) (fun a' w' hl=>⟨rfl,hl⟩)
  rw[wpOpsIn_cons] at h3 ⊢
  refine qce hj hp.2 (wanted_put oj a oi.dst u h1) (execOp_put oj hp.1 a oi.dst u h1) (fun w=>about_put oj w a oi.dst u h1) (fun cv w' hk=>?_) (fun d w' hk=>?_) (fun e a w hne hk=>absurd hk.1 hne) (fun hl=>?_) h3
  · obtain⟨_,f',st',φ',⟨v,rfl,hk⟩,he,hrel',hact',hf⟩:=hk
    refine hQ _ _ ⟨f.put oj.dst v,st',φ',⟨v,rfl,hk⟩,he,hrel',?_,hf⟩
    cases hd:oj.dst with
    | none=>exact hact.mono he
    | some d =>
      rw[hd] at hact'
      by_cases hlt:d<f.ts.length
      · refine(hact.mono he).put (some d) ?_
        have hlt':d<(f.put oi.dst r).ts.length:=by cases oi.dst <;> simpa[Fm.put] using hlt
        obtain⟨x,hx1,hx2⟩:=hact'.ts.get d v (by show((f.put oi.dst r).ts.set d v)[d]?=some v;simp[hlt'])
        have hlc:d<(a.put oi.dst u).tmps.size:=by
          have h5:=(hact.put oi.dst hu).ts.length
          rw[Array.length_toList] at h5
          exact Nat.lt_of_lt_of_eq hlt' h5
        have:((a.put oi.dst u).put (some d) cv).tmps.toList[d]?=some cv:=by
          show((a.put oi.dst u).tmps.setIfInBounds d cv).toList[d]?=some cv
          rw[Array.toList_setIfInBounds]
          simp[hlc]
        rw[this] at hx1
        cases hx1
        exact hx2
      · have e1:f.put (some d) v=f:=by
          cases f with | mk ts dm=>simp only [Fm.put];congr 1;exact List.set_eq_of_length_le (by simpa using hlt)
        have hlc:¬ d<a.tmps.size:=by
          have h5:=hact.ts.length
          rw[Array.length_toList] at h5
          exact fun h6=>hlt (Nat.lt_of_lt_of_eq h6 h5.symm)
        have e2:a.put (some d) cv=a:=by
          cases a with | mk tmps defers=>simp only [Act.put];congr 1;exact Array.setIfInBounds_eq_of_size_le (by simpa using hlc)
        rw[e1,e2]
        exact hact.mono he
  · exfalso
    obtain⟨_,f',st',φ',⟨v,rfl,hk⟩,he,hrel',hact',hf⟩:=hk
    have e1:=congrArg List.length hact'.dm
    have e2:=congrArg List.length hact.dm
    have e3:((f.put oi.dst r).put oj.dst v).dm=f.dm:=by cases oi.dst <;> cases oj.dst <;> rfl
    rw[e3] at e1
    cases hdi:oi.dst <;> cases hdj:oj.dst <;> simp[hdi,hdj,Act.put] at e1 e2 <;> omega
  · obtain⟨a,w,hn,_⟩:=hl
    cases hn
theorem Fm.put_comm (f:Fm){x y:Option Tmp}(v u:AV)(h:∀ d,x=some d→y≠some d):(f.put x v).put y u=(f.put y u).put x v:=by
  cases x with
  | none=>rfl
  | some d =>
    cases y with
    | none=>rfl
    | some e =>
      have hne:d≠e:=fun he=>h d rfl (he▸rfl)
      simp[Fm.put,List.set_comm _ _ hne]
theorem qac.lightV (hT:TOk P T){rd:Option Nat}{i:Nat}{l:List Nat}{K:Fm→St→Prop}{f:Fm}{st:St}{o:Oper}{r:AV}(ho:ops[i]?=some o)(hr:lightV T ops st.h f i=some r)(h:qac P rd ops l K (f.put o.dst r) st):qac P rd ops (i::l) K f st:=by
  unfold Ev.lightV at hr
  simp only [ho] at hr
  split at hr
  · rename_i hw;exact .qcq hT ho hw hr h
  · rename_i hw;cases hr;exact .skip ho (by simpa using hw) h
def PL (qag:List (Nat × AV))(listed:Array Bool):Prop:=∀ p∈qag,listed.getD p.1 false=true
theorem qda.take {M:List Nat}(hM:Tidy ops M)(hT:TOk P T){rd:Option Nat}{K:Fm→St→Prop}{i:Nat}{oi:Oper}{r:AV}(hi:ops[i]?=some oi):∀ (fuel:Nat){qag:List (Nat × AV)}{listed:Array Bool}{f:Fm}{st:St},
    qbu ops listed→PL qag listed→(∀ p∈qag,∀ o,ops[p.1]?=some o→∀ d,oi.dst=some d→d∉o.looksAt ops)→i∈Region.ready .any ops listed→lightV T ops st.h f i=some r→qda P T ops M rd K fuel ((i,r)::qag) (listed.setIfInBounds i true) (f.put oi.dst r) st →
    qda P T ops M rd K (fuel+1) qag listed f st:=by
  intro fuel
  have his:i<ops.size:=(Array.getElem?_eq_some_iff.1 hi).1
  have hpend:∀ {qag:List (Nat × AV)}{f:Fm}{h:Hp},(∀ p∈qag,∀ o,ops[p.1]?=some o→∀ d,oi.dst=some d→d∉o.looksAt ops)→qbj T ops ((i,r)::qag) (f.put oi.dst r) h→qbj T ops qag f h:=by
    intro qag f h hpd hp p hpm
    have h1:=hp p (List.mem_cons_of_mem _ hpm)
    rwa [qdh (fun o ho d hd=>hpd p hpm o ho d hd)] at h1
  have hself:∀ {qag:List (Nat × AV)}{listed:Array Bool}{f:Fm}{st:St}{fuel:Nat},qda P T ops M rd K fuel ((i,r)::qag) (listed.setIfInBounds i true) (f.put oi.dst r) st→lightV T ops st.h f i=some r →
      ∃ o,ops[i]?=some o∧qac P rd ops [i] (fun f' st'=>∃ v,f'=f.put o.dst v∧qda P T ops M rd K fuel (qbv M i qag) (listed.setIfInBounds i true) f' st') f st:=fun H hr =>
    ⟨oi,hi,qac.lightV hT hi hr (.nil ⟨r,rfl,H.weaken _ fun p hp=>List.mem_cons_of_mem _ (List.mem_filter.1 hp).1⟩)⟩
  induction fuel with
  | zero =>
    intro qag listed f st hc hpl hpd hr hl H
    refine⟨hpend hpd H.qag,fun h=>(by rw[h] at hr;cases hr),fun j hj=>?_⟩
    by_cases hji:j=i
    · subst hji;exact hself H hl
    · have:=ready_mono hj hji
      rw[H.2.1] at this
      cases this
  | succ fuel ih =>
    intro qag listed f st hc hpl hpd hr hl H
    refine⟨hpend hpd H.qag,fun h=>(by rw[h] at hr;cases hr),fun j hj=>?_⟩
    by_cases hji:j=i
    · subst hji;exact hself H hl
    · obtain⟨oj,hoj,h1⟩:=H.2.2 j (ready_mono hj hji)
      obtain⟨oj',hoj',hjun,hje⟩:=qa9 hj
      rw[hoj] at hoj';cases hoj'
      obtain⟨oi',hoi',hiun,hie'⟩:=qa9 hr
      rw[hi] at hoi';cases hoi'
      have hnot:(M.getD j 0).testBit i=false:=by
        cases hb:(M.getD j 0).testBit i with
        | false=>rfl
        | true=>have:=qbu.anc hM hc his j oj hoj hje hb;rw[qct hiun] at this;cases this
      have hd1:∀ d,oi.dst=some d→d∉oj.looksAt ops:=fun d hd hm=>by
        rcases (hM.see i j oi oj hi hoj (Ne.symm hji) d hd).1 hm with h5 | h5
        · rw[hnot] at h5;cases h5
        · have:=qbu.anc hM hc (Array.getElem?_eq_some_iff.1 hoj).1 i oi hi hie' h5
          rw[qct hjun] at this;cases this
      have hd2:∀ d,oi.dst=some d→oj.dst≠some d:=fun d hd=>(hM.see i j oi oj hi hoj (Ne.symm hji) d hd).2
      refine⟨oj,hoj,qac.qwb (K:=fun f' st'=>qda P T ops M rd K (fuel+1) (qbv M j qag) (listed.setIfInBounds j true) f' st') hM hT hi hoj hd1 hd2 hl (h1.mono fun f' st' ⟨v,hf,h2⟩=>⟨v,hf,?_⟩)⟩
      subst hf
      have h3:qbv M j ((i,r)::qag)=(i,r)::qbv M j qag:=by unfold qbv;rw[List.filter_cons];simp only [hnot,Bool.not_false,if_true]
      rw[h3,Array.setIfInBounds_comm _ _ (Ne.symm hji),Fm.put_comm _ _ _ hd2] at h2
      refine ih (hc.set hj) (fun p hp=>getD_set_true (hpl p (List.mem_filter.1 hp).1)) (fun p hp=>hpd p (List.mem_filter.1 hp).1) (ready_mono hr (Ne.symm hji)) ?_ h2
      have h4:=h2.qag (i,r) (by simp)
      rwa [qdh (fun o ho d hd=>by rw[hi] at ho;cases ho;exact hM.self i oi hi d hd)] at h4
theorem qda.done {M:List Nat}{rd:Option Nat}{K:Fm→St→Prop}{qag:List (Nat × AV)}{listed:Array Bool}{f:Fm}{st:St}(hp:qbj T ops qag f st.h)(hr:Region.ready .any ops listed=[])(h:K f st):∀ fuel,qda P T ops M rd K fuel qag listed f st
  | 0=>⟨hp,hr,h⟩
  | _+1=>⟨hp,fun _=>h,by rw[hr];simp⟩
theorem qda.all {M:List Nat}{rd:Option Nat}{K:Fm→St→Prop}{fuel:Nat}{qag:List (Nat × AV)}{listed:Array Bool}{f:Fm}{st:St}{rs:List Nat}(hp:qbj T ops qag f st.h)(hr:Region.ready .any ops listed=rs)(hne:rs≠[])
    (h:∀ j∈rs,∃ o,ops[j]?=some o∧qac P rd ops [j] (fun f' st'=>∃ v,f'=f.put o.dst v∧qda P T ops M rd K fuel (qbv M j qag) (listed.setIfInBounds j true) f' st') f st):qda P T ops M rd K (fuel+1) qag listed f st :=
  ⟨hp,fun h0=>absurd (hr▸h0) hne,hr▸h⟩
theorem qda.sound {M:List Nat}(hM:Tidy ops M){rd:Option Nat}{K:Fm→St→Prop}:∀ (fuel:Nat){qag:List (Nat × AV)}{listed:Array Bool}{f:Fm}{st:St},qda P T ops M rd K fuel qag listed f st →
    ∀ (φ:Fi)(w:World)(a:Act)(n:Nat)(Q:Exit→Act→World→Prop),(∀ id,rd=some id→id<φ.n)→Rel φ st w→qdb φ f a→(∀ a' w',qem φ st w (fun _ f' st'=>K f' st') .normal a' w'→Q .normal a' w') →
      wpAnyIn (FW (rdB φ rd)) n P .any ops Q fuel listed a w
  | 0,_,_,_,_,h,_,_,_,_,_,_,h2,h3,hQ=>⟨h.2.1,hQ _ _ (qem.here h.2.2 h2 h3)⟩
  | fuel+1,qag,listed,f,st,h,φ,w,a,n,Q,h1,h2,h3,hQ=>by
    refine⟨fun hr=>hQ _ _ (qem.here (h.2.1 hr) h2 h3),fun j hj=>?_⟩
    obtain⟨o,ho,h4⟩:=h.2.2 j hj
    have hp:=hM.plain j o ho
    have h5:=h4 φ w a n (fun e a' w'=>e=.normal∧wpAnyIn (FW (rdB φ rd)) n P .any ops Q fuel (listed.setIfInBounds j true) a' w') h1 h2 h3 (fun a' w' hl=>⟨rfl,by
      obtain⟨f',st',φ',⟨v,hf,hk⟩,he,hrel,hact,hfr⟩:=hl
      have h6:=qda.sound hM fuel hk φ' w' a' n Q (fun id hi=>Nat.lt_of_lt_of_le (h1 id hi) he.n) hrel hact (fun a2 w2 hl2=>hQ a2 w2 (hl2.trans he hfr))
      rwa [qb1 he h1] at h6⟩)
    rw[wpOpsIn_cons] at h5
    exact qce ho hp.2 rfl rfl (fun _=>rfl) (fun cv w' hk=>hk.2) (fun d w' hk=>hk.2) (fun e a w hne hk=>absurd hk.1 hne) (fun hl=>by obtain⟨a,w,hn,_⟩:=hl;cases hn) h5
theorem SW.drawn {M:List Nat}(hm:P.follows .mixedOrders=true){rd:Option Nat}{id:Nat}{Q:Exit→Fm→St→Prop}{f:Fm}{st:St}(hM:Tidy ops M)
    (h:qda P T ops M rd (fun f' st'=>Q .normal f' st') ops.size [] (Array.replicate ops.size false) f st):SW P rd (.region id ops true) Q f st:=by
  intro φ w a n h1 h2 h3
  refine wpIn_region_any hm ?_
  have hrel:Rel φ st { w with drawn:=w.drawn+1}:=h2.of_heap rfl
  refine qda.sound hM ops.size h φ _ a n _ h1 hrel h3 fun a' w' hl=>?_
  obtain⟨f',st',φ',k,he,hr,ha,hf⟩:=hl
  exact⟨f',st',φ',k,he,hr,ha,⟨hf.os,hf.tape,hf.output,hf.size,hf.block,hf.own⟩⟩
theorem qdy:qbu ops (Array.replicate ops.size false):=fun j o ho hl=>by
  exfalso
  simp only [Array.getD_eq_getD_getElem?,Array.getElem?_replicate] at hl
  split at hl <;> simp at hl
end
end Go.Ev
namespace Go.Ev
section
variable {P:Program}{T:Ti}{ops:Array Oper}
def DlOk (T:Ti)(ops:Array Oper)(dl:Nat→Option (List Value)):Prop:=∀ i cs,dl i=some cs→∃ o e ti,ops[i]?=some o∧o.op=.alloc e∧o.guard=none∧qa8 o=[]∧T e=some ti∧cs=ti.zero
def DlSep (ops:Array Oper)(M:List Nat)(dl:Nat→Option (List Value))(lt:Nat→Bool):Prop:=(∀ i,(dl i).isSome=true→lt i=false)∧∀ (i j u:Nat)(oj ou:Oper),(dl i).isSome=true→ops[j]?=some oj→ops[u]?=some ou→i∈qa8 oj→u=j∨(M.getD j 0).testBit u=true∨i∈qa8 ou∨((dl u).isSome=true∧i≤u)∨lt u=true
def qvv (ops:Array Oper)(dl:Nat→Option (List Value))(lt:Nat→Bool)(listed:Array Bool):Prop:=∀ (u:Nat)(ou:Oper),ops[u]?=some ou→listed.getD u true=false→(dl u).isSome=true∨lt u=true∨∃ i,(dl i).isSome=true∧listed.getD i true=false∧i∈qa8 ou
variable (P T ops) in
def qhw (M:List Nat)(rd:Option Nat)(dl:Nat→Option (List Value))(lt:Nat→Bool)(K:Fm→St→Prop):Nat→List (Nat × AV)→Array Bool→Fm→St→Prop
  | 0,qag,listed,f,st=>qbj T ops qag f st.h∧Region.ready .any ops listed=[]∧K f st
  | fuel+1,qag,listed,f,st=>qbj T ops qag f st.h∧(Region.ready .any ops listed=[]→K f st) ∧
    (∀ j∈Region.ready .any ops listed,dl j=none→∃ o,ops[j]?=some o∧qac P rd ops [j] (fun f' st'=>∃ v,f'=f.put o.dst v∧qhw M rd dl lt K fuel (qbv M j qag) (listed.setIfInBounds j true) f' st') f st) ∧
    (qvv ops dl lt listed→(∃ k,(dl k).isSome=true∧listed.getD k true=false)→∃ i cs,dl i=some cs∧listed.getD i true=false∧(∀ k,(dl k).isSome=true→listed.getD k true=false→i≤k) ∧
      (∀ id o,st.h.get id=some o→o.own=true)∧∃ o,ops[i]?=some o∧qhw M rd dl lt K fuel (qbv M i qag) (listed.setIfInBounds i true) (f.put o.dst (.ptr st.n 0)) (st.push (.cells none false (cs.map .lit))))
theorem qvv.set {dl:Nat→Option (List Value)}{lt:Nat→Bool}{listed:Array Bool}{i:Nat}(hd:dl i=none)(h:qvv ops dl lt listed):qvv ops dl lt (listed.setIfInBounds i true):=fun u ou hu hun=>by
  by_cases hiu:i=u
  · subst hiu
    by_cases hs:i<listed.size
    · simp[hs] at hun
    · simp[Array.getElem?_eq_none (show listed.size≤i by omega)] at hun
  · rw[getD_set_ne true hiu] at hun
    rcases h u ou hu hun with h1 | h1 | ⟨k,h1,h2,h3⟩
    · exact .inl h1
    · exact .inr (.inl h1)
    · exact .inr (.inr ⟨k,h1,by rw[getD_set_ne true (fun e=>by subst e;rw[hd] at h1;cases h1)];exact h2,h3⟩)
theorem qhw.qag {M:List Nat}{rd:Option Nat}{dl:Nat→Option (List Value)}{lt:Nat→Bool}{K:Fm→St→Prop}{fuel:Nat}{qag:List (Nat × AV)}{listed:Array Bool}{f:Fm}{st:St}(h:qhw P T ops M rd dl lt K fuel qag listed f st):qbj T ops qag f st.h:=by
  cases fuel <;> exact h.1
theorem qhw.weaken {M:List Nat}{rd:Option Nat}{dl:Nat→Option (List Value)}{lt:Nat→Bool}{K:Fm→St→Prop}:∀ (fuel:Nat){qag pend':List (Nat × AV)}{listed:Array Bool}{f:Fm}{st:St},qhw P T ops M rd dl lt K fuel qag listed f st→(∀ p∈pend',p∈qag)→qhw P T ops M rd dl lt K fuel pend' listed f st
  | 0,_,_,_,_,_,h,hs=>⟨fun p hp=>h.1 p (hs p hp),h.2⟩
  | fuel+1,qag,pend',_,_,_,h,hs=>by
    have hd:∀ j,∀ p∈qbv M j pend',p∈qbv M j qag:=fun j p hp=>by
      unfold qbv at *
      rw[List.mem_filter] at *
      exact⟨hs p hp.1,hp.2⟩
    refine⟨fun p hp=>h.1 p (hs p hp),h.2.1,fun j hj hn=>?_,fun hC hex=>?_⟩
    · obtain⟨o,ho,h1⟩:=h.2.2.1 j hj hn
      exact⟨o,ho,h1.mono fun f' st' ⟨v,h2,h3⟩=>⟨v,h2,qhw.weaken fuel h3 (hd j)⟩⟩
    · obtain⟨i,cs,k1,k2,k3,h1,o,ho,h2⟩:=h.2.2.2 hC hex
      exact⟨i,cs,k1,k2,k3,h1,o,ho,qhw.weaken fuel h2 (hd i)⟩
theorem qhw.take {M:List Nat}(hM:Tidy ops M)(hT:TOk P T){rd:Option Nat}{dl:Nat→Option (List Value)}{lt:Nat→Bool}{K:Fm→St→Prop}{i:Nat}{oi:Oper}{r:AV}(hi:ops[i]?=some oi)(hdl:dl i=none)(hDl:DlOk T ops dl):∀ (fuel:Nat){qag:List (Nat × AV)}{listed:Array Bool}{f:Fm}{st:St},
    qbu ops listed→PL qag listed→(∀ p∈qag,∀ o,ops[p.1]?=some o→∀ d,oi.dst=some d→d∉o.looksAt ops)→i∈Region.ready .any ops listed→lightV T ops st.h f i=some r→qhw P T ops M rd dl lt K fuel ((i,r)::qag) (listed.setIfInBounds i true) (f.put oi.dst r) st →
    qhw P T ops M rd dl lt K (fuel+1) qag listed f st:=by
  intro fuel
  have his:i<ops.size:=(Array.getElem?_eq_some_iff.1 hi).1
  have hpend:∀ {qag:List (Nat × AV)}{f:Fm}{h:Hp},(∀ p∈qag,∀ o,ops[p.1]?=some o→∀ d,oi.dst=some d→d∉o.looksAt ops)→qbj T ops ((i,r)::qag) (f.put oi.dst r) h→qbj T ops qag f h:=by
    intro qag f h hpd hp p hpm
    have h1:=hp p (List.mem_cons_of_mem _ hpm)
    rwa [qdh (fun o ho d hd=>hpd p hpm o ho d hd)] at h1
  have hself:∀ {qag:List (Nat × AV)}{listed:Array Bool}{f:Fm}{st:St}{fuel:Nat},qhw P T ops M rd dl lt K fuel ((i,r)::qag) (listed.setIfInBounds i true) (f.put oi.dst r) st→lightV T ops st.h f i=some r →
      ∃ o,ops[i]?=some o∧qac P rd ops [i] (fun f' st'=>∃ v,f'=f.put o.dst v∧qhw P T ops M rd dl lt K fuel (qbv M i qag) (listed.setIfInBounds i true) f' st') f st:=fun H hr =>
    ⟨oi,hi,qac.lightV hT hi hr (.nil ⟨r,rfl,H.weaken _ fun p hp=>List.mem_cons_of_mem _ (List.mem_filter.1 hp).1⟩)⟩
  induction fuel with
  | zero =>
    intro qag listed f st hc hpl hpd hr hl H
    refine⟨hpend hpd H.qag,fun h=>(by rw[h] at hr;cases hr),fun j hj hn=>?_,fun _ ⟨k,hk1,hk2⟩=>?_⟩
    · by_cases hji:j=i
      · subst hji;exact hself H hl
      · have:=ready_mono hj hji
        rw[H.2.1] at this
        cases this
    · exfalso
      obtain⟨cs,hcs⟩:=Option.isSome_iff_exists.1 hk1
      obtain⟨o,e,ti,ho,_,_,hed,_⟩:=hDl k cs hcs
      have hki:k≠i:=fun e=>by subst e;rw[hdl] at hcs;cases hcs
      have hkr:k∈Region.ready .any ops listed:=mem_ready.2 ⟨hk2,o,ho,fun e hem hb=>by
        have:e.on∈qa8 o:=qdo.2 ⟨e,hem,hb,rfl⟩
        rw[hed] at this;cases this⟩
      have:=ready_mono hkr hki
      rw[H.2.1] at this
      cases this
  | succ fuel ih =>
    intro qag listed f st hc hpl hpd hr hl H
    refine⟨hpend hpd H.qag,fun h=>(by rw[h] at hr;cases hr),fun j hj hn=>?_,fun hC ⟨k0,hk1,hk2⟩=>?_⟩
    rotate_left
    · have hk0i:k0≠i:=fun e=>by subst e;rw[hdl] at hk1;cases hk1
      obtain⟨i0,cs,q1,q2,q3,q4,o,ho,H2⟩:=H.2.2.2 (hC.set hdl) ⟨k0,hk1,by rw[getD_set_ne true (Ne.symm hk0i)];exact hk2⟩
      have hi0i:i0≠i:=fun e=>by subst e;rw[hdl] at q1;cases q1
      rw[getD_set_ne true (Ne.symm hi0i)] at q2
      obtain⟨o',e,ti,ho',_,_,hed,_⟩:=hDl i0 cs q1
      rw[ho] at ho';cases ho'
      have hi0r:i0∈Region.ready .any ops listed:=mem_ready.2 ⟨q2,o,ho,fun e hem hb=>by
        have:e.on∈qa8 o:=qdo.2 ⟨e,hem,hb,rfl⟩
        rw[hed] at this;cases this⟩
      have hnot:(M.getD i0 0).testBit i=false:=by
        cases hb:(M.getD i0 0).testBit i with
        | false=>rfl
        | true=>obtain⟨e,he,_⟩:=hM.anc i0 o i ho his hb;rw[hed] at he;cases he
      have hd2:∀ d,oi.dst=some d→o.dst≠some d:=fun d hd=>(hM.see i i0 oi o hi ho (Ne.symm hi0i) d hd).2
      refine⟨i0,cs,q1,q2,fun k hk hku=>q3 k hk (by rw[getD_set_ne true (fun e=>by subst e;rw[hdl] at hk;cases hk)];exact hku),q4,o,ho,?_⟩
      have h3:qbv M i0 ((i,r)::qag)=(i,r)::qbv M i0 qag:=by unfold qbv;rw[List.filter_cons];simp only [hnot,Bool.not_false,if_true]
      rw[h3,Array.setIfInBounds_comm _ _ (Ne.symm hi0i),Fm.put_comm _ _ _ hd2] at H2
      refine ih (hc.set hi0r) (fun p hp=>getD_set_true (hpl p (List.mem_filter.1 hp).1)) (fun p hp=>hpd p (List.mem_filter.1 hp).1) (ready_mono hr (Ne.symm hi0i)) ?_ H2
      have h4:=H2.qag (i,r) (by simp)
      rwa [qdh (fun o ho d hd=>by rw[hi] at ho;cases ho;exact hM.self i oi hi d hd)] at h4
    by_cases hji:j=i
    · subst hji;exact hself H hl
    · obtain⟨oj,hoj,h1⟩:=H.2.2.1 j (ready_mono hj hji) hn
      obtain⟨oj',hoj',hjun,hje⟩:=qa9 hj
      rw[hoj] at hoj';cases hoj'
      obtain⟨oi',hoi',hiun,hie'⟩:=qa9 hr
      rw[hi] at hoi';cases hoi'
      have hnot:(M.getD j 0).testBit i=false:=by
        cases hb:(M.getD j 0).testBit i with
        | false=>rfl
        | true=>have:=qbu.anc hM hc his j oj hoj hje hb;rw[qct hiun] at this;cases this
      have hd1:∀ d,oi.dst=some d→d∉oj.looksAt ops:=fun d hd hm=>by
        rcases (hM.see i j oi oj hi hoj (Ne.symm hji) d hd).1 hm with h5 | h5
        · rw[hnot] at h5;cases h5
        · have:=qbu.anc hM hc (Array.getElem?_eq_some_iff.1 hoj).1 i oi hi hie' h5
          rw[qct hjun] at this;cases this
      have hd2:∀ d,oi.dst=some d→oj.dst≠some d:=fun d hd=>(hM.see i j oi oj hi hoj (Ne.symm hji) d hd).2
      refine⟨oj,hoj,qac.qwb (K:=fun f' st'=>qhw P T ops M rd dl lt K (fuel+1) (qbv M j qag) (listed.setIfInBounds j true) f' st') hM hT hi hoj hd1 hd2 hl (h1.mono fun f' st' ⟨v,hf,h2⟩=>⟨v,hf,?_⟩)⟩
      subst hf
      have h3:qbv M j ((i,r)::qag)=(i,r)::qbv M j qag:=by unfold qbv;rw[List.filter_cons];simp only [hnot,Bool.not_false,if_true]
      rw[h3,Array.setIfInBounds_comm _ _ (Ne.symm hji),Fm.put_comm _ _ _ hd2] at h2
      refine ih (hc.set hj) (fun p hp=>getD_set_true (hpl p (List.mem_filter.1 hp).1)) (fun p hp=>hpd p (List.mem_filter.1 hp).1) (ready_mono hr (Ne.symm hji)) ?_ h2
      have h4:=h2.qag (i,r) (by simp)
      rwa [qdh (fun o ho d hd=>by rw[hi] at ho;cases ho;exact hM.self i oi hi d hd)] at h4
end
end Go.Ev
