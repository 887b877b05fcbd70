/- Own work of the verifier of watercress: EvKs, EvJ, EvK, EvL, EvM, EvN, EvO. -/
import Derived.Test.YtpefamheopplnaaMb3
set_option linter.unusedVariables false
set_option linter.unusedSimpArgs false
namespace Go.Ev
structure Gh where
  i:Nat
  b:Nat
  c:Array Value
  t:TypeId
  d:Option Tmp
def Gh.v (g:Gh):Value:=.pointer (some ⟨g.b,0,none⟩)
def qcl (a:Act):List Gh→Act
  | []=>a
  | g::G=>(qcl a G).put g.d g.v
theorem Act.put_comm (a:Act){x y:Option Tmp}(v u:Value)(h:∀ d,x=some d→y≠some d):(a.put x v).put y u=(a.put y u).put x v:=by
  cases x with
  | none=>rfl
  | some d =>
    cases y with
    | none=>rfl
    | some e =>
      have hne:d≠e:=fun he=>h d rfl (he▸rfl)
      simp only [Act.put]
      congr 1
      exact Array.setIfInBounds_comm _ _ hne
theorem qf2 {y:Option Tmp}{u:Value}:∀ {G:List Gh}(a:Act),(∀ g∈G,∀ d,g.d=some d→y≠some d)→(qcl a G).put y u=qcl (a.put y u) G
  | [],a,_=>rfl
  | g::G,a,h=>by
    show((qcl a G).put g.d g.v).put y u=(qcl (a.put y u) G).put g.d g.v
    rw[Act.put_comm _ _ _ (h g List.mem_cons_self),qf2 a fun g hg=>h g (List.mem_cons_of_mem _ hg)]
theorem qjn (a:Act)(G2:List Gh):∀ G1:List Gh,qcl a (G1++G2)=qcl (qcl a G2) G1
  | []=>rfl
  | g::G1=>by
    show(qcl a (G1++G2)).put g.d g.v=(qcl (qcl a G2) G1).put g.d g.v
    rw[qjn a G2 G1]
theorem qtm (a:Act){G1 G2:List Gh}{g:Gh}(h:∀ x∈G2,∀ d,x.d=some d→g.d≠some d):qcl a (G1++g::G2)=qcl (a.put g.d g.v) (G1++G2):=by
  rw[qjn,qjn]
  show qcl ((qcl a G2).put g.d g.v) G1=_
  rw[qf2 a h]
theorem qiu (a:Act)(d:Deferred):∀ G:List Gh,qcl { a with defers:=d::a.defers} G={ qcl a G with defers:=d::(qcl a G).defers}
  | []=>rfl
  | g::G=>by
    show(qcl { a with defers:=d::a.defers} G).put g.d g.v=_
    rw[qiu a d G]
    show _={ (qcl a G).put g.d g.v with defers:=d::((qcl a G).put g.d g.v).defers}
    cases g.d <;> rfl
section
variable {P:Program}{T:Ti}{ops:Array Oper}
theorem qia (oj:Oper)(hp:(∀ cs b,oj.op≠.select cs b)∧∀ c,oj.op≠.defer c):∀ {G:List Gh}(a:Act),(∀ g∈G,∀ d,g.d=some d→d∉oj.looksAt ops) →
    Region.wanted oj (yielded ops a.tmps)=Region.wanted oj (yielded ops (qcl a G).tmps)∧execOp a.eval oj=execOp (qcl a G).eval oj∧∀ w,oj.about P w a.eval=oj.about P w (qcl a G).eval
  | [],a,_=>⟨rfl,rfl,fun _=>rfl⟩
  | g::G,a,h=>by
    obtain⟨h1,h2,h3⟩:=qia oj hp (G:=G) a fun x hx=>h x (List.mem_cons_of_mem _ hx)
    have hg:=h g List.mem_cons_self
    refine⟨h1.trans (wanted_put oj (qcl a G) g.d g.v hg).symm,h2.trans (execOp_put oj hp.1 (qcl a G) g.d g.v hg).symm,fun w=>(h3 w).trans (about_put oj w (qcl a G) g.d g.v hg).symm⟩
structure GOne (ops:Array Oper)(dl:Nat→Option (List Value))(φ:Fi)(st:St)(w0 w:World)(listed:Array Bool)(g:Gh):Prop where
  op:∃ o,ops[g.i]?=some o∧o.dst=g.d
  cells:dl g.i=some g.c.toList
  un:listed.getD g.i true=false
  heap:w.heap[g.b]?=some (.cells g.c g.t (0,0))
  late:w0.heap.size≤g.b
  apart:∀ id x,st.h.get id=some x→x.own=true→(φ.f id).b≠g.b
structure GAll (ops:Array Oper)(dl:Nat→Option (List Value))(φ:Fi)(st:St)(w0 w:World)(listed lr:Array Bool)(G:List Gh):Prop where
  each:∀ g∈G,GOne ops dl φ st w0 w listed g
  ids:(G.map (·.i)).Nodup
  blocks:(G.map (·.b)).Nodup
  sl:listed.size=ops.size
  sr:lr.size=ops.size
  bits:∀ k,k<ops.size→(lr.getD k true=true↔listed.getD k true=true∨∃ g∈G,g.i=k)
  cl:qbu ops lr
  cl2:qbu ops listed
theorem qms {l:Array Bool}{k:Nat}(h:k<l.size):l.getD k true=l.getD k false:=by simp[h]
theorem Rel.ghost {φ:Fi}{st:St}{w:World}(hr:Rel φ st w){b:Nat}{c:Array Value}{t:TypeId}(hb:w.heap[b]?=some (.cells c t (0,0)))(hown:∀ id o,st.h.get id=some o→o.own=true)(hap:∀ id x,st.h.get id=some x→x.own=true→(φ.f id).b≠b) :
    Rel (φ.push ⟨b,0,c.size⟩) (st.push (.cells none false (c.toList.map .lit))) w:=by
  have hold:∀ id x,st.h.get id=some x→id<φ.n∧(φ.push ⟨b,0,c.size⟩).f id=φ.f id:=fun id x hx=>by
    have h1:=hr.lt id x hx
    rw[←hr.n] at h1
    exact⟨h1,(φ.qan _).f id h1⟩
  have hbs:b<w.heap.size:=(Array.getElem?_eq_some_iff.1 hb).1
  refine⟨by simp[Fi.push,St.push,hr.n],fun id x hx=>?_,fun id x hx=>?_,fun id x hx=>?_,fun i j oi oj hi hj hij ho=>?_⟩
  · rw[St.qaz] at hx
    split at hx
    · show _<st.n+1;omega
    · show _<st.n+1;have:=hr.lt id x hx;omega
  · rw[St.qaz] at hx
    split at hx
    · rename_i h;rw[←hr.n] at h;subst h;rw[Fi.qae];exact hbs
    · rw[(hold id x hx).2];exact hr.blk id x hx
  · rw[St.qaz] at hx
    split at hx
    · rename_i h
      rw[←hr.n] at h;subst h;cases hx
      refine⟨fun i a ha=>?_,fun _=>⟨c,t,by rw[Fi.qae];exact hb,by rw[Fi.qae],by rw[Fi.qae];simp⟩⟩
      rw[List.getElem?_map] at ha
      cases hq:c.toList[i]? with
      | none=>rw[hq] at ha;cases ha
      | some v =>
        rw[hq] at ha
        simp only [Option.map_some,Option.some.injEq] at ha
        subst ha
        refine⟨v,?_,.lit v⟩
        rw[Fi.qae]
        unfold World.cell?
        simp only [hb,Nat.zero_add]
        rw[←Array.getElem?_toList];exact hq
    · exact(hr.obj id x hx).same (φ.qan _) (hold id x hx).1 rfl
  · rw[St.qaz] at hi hj
    split at hi
    · rename_i h1
      rw[←hr.n] at h1;subst h1
      split at hj
      · rename_i h2;rw[←hr.n] at h2;exact absurd h2 hij
      · intro hbb
        rw[Fi.qae,(hold j oj hj).2] at hbb
        exact absurd hbb.symm (hap j oj hj (hown j oj hj))
    · split at hj
      · rename_i h2
        rw[←hr.n] at h2;subst h2
        intro hbb
        rw[Fi.qae,(hold i oi hi).2] at hbb
        exact absurd hbb (hap i oi hi ho)
      · rw[(hold i oi hi).2,(hold j oj hj).2]
        exact hr.sep i j oi oj hi hj hij ho
theorem qhg {j:Nat}{o:Oper}{listed:Array Bool}(ho:ops[j]?=some o)(hu:listed.getD j true=false)(he:∀ e∈qa8 o,listed.getD e false=true):j∈Region.ready .any ops listed :=
  mem_ready.2 ⟨hu,o,ho,fun e hem hb=>he e.on (qdo.2 ⟨e,hem,hb,rfl⟩)⟩
theorem qp9 {φ:Fi}:∀ {l us:List Value},VRL φ (l.map .lit) us→us=l
  | [],_,h=>by cases h;rfl
  | v::l,_,h=>by
    cases h with
    | cons h t=>rw[h.qao,qp9 t]
theorem Rel.alloc {φ:Fi}{st:St}{w:World}(hr:Rel φ st w)(o:Obj):Rel φ st (w.alloc o) :=
  ⟨hr.n,hr.lt,fun id x hx=>by rw[qb5];have:=hr.blk id x hx;omega,fun id x hx=>(hr.obj id x hx).same (Ext.refl _) (by rw[hr.n];exact hr.lt id x hx) (qbt w o _ (hr.blk id x hx)),hr.sep⟩
theorem qlf {p q:Nat→Bool}{x:Nat}(hp:p x=false)(hq:q x=true):∀ {l:List Nat},x∈l→(∀ k∈l,p k=true→q k=true)→l.countP p<l.countP q
  | y::l,hx,hle=>by
    have hm:l.countP p≤l.countP q:=List.countP_mono_left fun k hk=>hle k (List.mem_cons_of_mem _ hk)
    rw[List.countP_cons,List.countP_cons]
    rcases List.mem_cons.1 hx with rfl | hx
    · rw[hp,hq];simp;omega
    · have:=qlf hp hq hx fun k hk=>hle k (List.mem_cons_of_mem _ hk)
      have h1:=hle y List.mem_cons_self
      cases hpy:p y with
      | true=>rw[h1 hpy];simp;omega
      | false=>cases q y <;> simp <;> omega
def cntU (n:Nat)(l:Array Bool):Nat:=(List.range n).countP fun k=>!(l.getD k true)
theorem cntU_set {n j:Nat}{l:Array Bool}(hl:l.size=n)(hj:j<n)(hu:l.getD j true=false):cntU n (l.setIfInBounds j true)<cntU n l:=by
  unfold cntU
  have hle:∀ k∈List.range n,(!((l.setIfInBounds j true).getD k true))=true→(!(l.getD k true))=true:=fun k hk h=>by
    by_cases hjk:j=k
    · subst hjk
      rw[hu];rfl
    · rwa [getD_set_ne true hjk] at h
  exact qlf (x:=j) (by simp[hl,hj]) (by simp[hu]) (List.mem_range.2 hj) hle
theorem qvg {n:Nat}{l:Array Bool}(h:cntU n l=0):∀ k,k<n→l.getD k true=true:=fun k hk=>by
  have:=List.countP_eq_zero.1 h k (List.mem_range.2 hk)
  simpa using this
theorem qrl {M:List Nat}(hM:Tidy ops M){lr:Array Bool}(hs:lr.size=ops.size)(h:Region.ready .any ops lr=[]):∀ k,k<ops.size→lr.getD k true=true:=by
  intro k
  induction k using Nat.strongRecOn with
  | _ k ih =>
    intro hk
    cases hb:lr.getD k true with
    | true=>rfl
    | false =>
      exfalso
      have hko:ops[k]?=some ops[k]:=Array.getElem?_eq_getElem hk
      have:k∈Region.ready .any ops lr:=qhg hko hb fun e he=>by
        have hlt:=hM.back k _ hko e he
        rw[←qms (by omega)]
        exact ih e hlt (by omega)
      rw[h] at this;cases this
theorem qlc {p:Nat→Prop}(h:∃ k,p k):∃ k,p k∧∀ j,p j→k≤j:=by
  obtain⟨k,hk⟩:=h
  induction k using Nat.strongRecOn with
  | _ k ih =>
    by_cases hm:∃ j,j<k∧p j
    · obtain⟨j,hj,hp⟩:=hm
      exact ih j hj hp
    · exact⟨k,hk,fun j hj=>Nat.le_of_not_lt fun hlt=>hm ⟨j,hlt,hj⟩⟩
theorem qhw.sound {M:List Nat}(hM:Tidy ops M)(hT:TOk P T){dl:Nat→Option (List Value)}{lt:Nat→Bool}(hD:DlOk T ops dl)(hS:DlSep ops M dl lt){rd:Option Nat}{K:Fm→St→Prop}{φ0:Fi}{st0:St}{w0:World}{Q:Exit→Act→World→Prop}{n:Nat}
    (hrd:∀ id,rd=some id→id<φ0.n)(hQ:∀ a' w',qem φ0 st0 w0 (fun _ f' st'=>K f' st') .normal a' w'→Q .normal a' w') :
    ∀ (m fr:Nat)(G:List Gh)(qag:List (Nat × AV))(listed lr:Array Bool)(f:Fm)(st:St)(φ:Fi)(w:World)(a:Act),m=2*fr+G.length→cntU ops.size lr≤fr→qhw P T ops M rd dl lt K (fr+G.length) qag listed f st→GAll ops dl φ st w0 w listed lr G →
      Ext φ0 φ→Rel φ st w→qdb φ f a→Fr φ0 st0 w0 φ st w→wpAnyIn (FW (rdB φ0 rd)) n P .any ops Q fr lr (qcl a G) w:=by
  intro m
  induction m using Nat.strongRecOn with
  | _ m ih =>
  intro fr G qag listed lr f st φ w a hm hcnt H hG hext hrel hact hfr
  have gdl:∀ g∈G,(dl g.i).isSome=true:=fun g hg=>by rw[(hG.each g hg).cells];rfl
  have glt:∀ g∈G,g.i<ops.size:=fun g hg=>by obtain⟨o,ho,_⟩:=(hG.each g hg).op;exact(Array.getElem?_eq_some_iff.1 ho).1
  have gready:∀ g∈G,g.i∈Region.ready .any ops listed:=fun g hg=>by
    obtain⟨o,e,ti,ho,_,_,hed,_⟩:=hD g.i _ (hG.each g hg).cells
    exact qhg ho (hG.each g hg).un fun e he=>by rw[hed] at he;cases he
  by_cases hmat:qvv ops dl lt listed∧∃ g∈G,∀ k,(dl k).isSome=true→listed.getD k true=false→g.i≤k
  ·
    obtain⟨hC,g,hgG,hgmin⟩:=hmat
    obtain⟨G1,G2,hGe⟩:=List.append_of_mem hgG
    have hg1:=hG.each g hgG
    have hlen:G.length=(G1++G2).length+1:=by rw[hGe];simp;omega
    have H':qhw P T ops M rd dl lt K ((fr+(G1++G2).length)+1) qag listed f st:=by
      have:fr+G.length=(fr+(G1++G2).length)+1:=by omega
      rw[←this];exact H
    obtain⟨i,cs,q1,q2,q3,hown,o,ho,H2⟩:=H'.2.2.2 hC ⟨g.i,gdl g hgG,hg1.un⟩
    have hgi:g.i=i:=Nat.le_antisymm (hgmin i (by rw[q1];rfl) q2) (q3 g.i (gdl g hgG) hg1.un)
    have hcs:cs=g.c.toList:=by
      have:=hg1.cells
      rw[hgi,q1] at this
      exact Option.some.inj this
    subst hcs
    obtain⟨o',ho',hod⟩:=hg1.op
    rw[hgi,ho] at ho'
    cases ho'
    rw[hod] at H2
    have hsub:∀ x∈G1++G2,x∈G:=fun x hx=>by
      rw[hGe]
      rcases List.mem_append.1 hx with h | h
      · exact List.mem_append_left _ h
      · exact List.mem_append_right _ (List.mem_cons_of_mem _ h)
    have hids:=hG.ids
    have hbls:=hG.blocks
    rw[hGe,List.map_append,List.map_cons] at hids hbls
    have hidne:∀ x∈G1++G2,x.i≠g.i:=fun x hx e=>by
      rw[List.nodup_append] at hids
      obtain⟨h1,h2,h3⟩:=hids
      rcases List.mem_append.1 hx with h | h
      · exact h3 x.i (List.mem_map_of_mem h) g.i List.mem_cons_self e
      · exact(List.nodup_cons.1 h2).1 (by rw[←e];exact List.mem_map_of_mem h)
    have hbne:∀ x∈G1++G2,x.b≠g.b:=fun x hx e=>by
      rw[List.nodup_append] at hbls
      obtain⟨h1,h2,h3⟩:=hbls
      rcases List.mem_append.1 hx with h | h
      · exact h3 x.b (List.mem_map_of_mem h) g.b List.mem_cons_self e
      · exact(List.nodup_cons.1 h2).1 (by rw[←e];exact List.mem_map_of_mem h)
    have hputs:qcl a G=qcl (a.put g.d g.v) (G1++G2):=by
      rw[hGe]
      refine qtm a fun x hx d hd=>?_
      have hxG:=hsub x (List.mem_append_right _ hx)
      obtain⟨ox,hox,hxd⟩:=(hG.each x hxG).op
      have hne:x.i≠g.i:=hidne x (List.mem_append_right _ hx)
      have:=(hM.see x.i g.i ox o hox (by rw[hgi];exact ho) hne d (by rw[hxd];exact hd)).2
      rwa [hod] at this
    rw[hputs]
    have hn':φ.n=st.n:=hrel.n
    have hrel':=hrel.ghost hg1.heap hown hg1.apart
    have hex:=φ.qan ⟨g.b,0,g.c.size⟩
    have hold:∀ id x,st.h.get id=some x→(φ.push ⟨g.b,0,g.c.size⟩).f id=φ.f id:=fun id x hx=>hex.f id (by rw[hn'];exact hrel.lt id x hx)
    have hv:VR (φ.push ⟨g.b,0,g.c.size⟩) (.ptr st.n 0) g.v:=by
      have:=VR.ptr (φ:=φ.push ⟨g.b,0,g.c.size⟩) φ.n 0 (by simp[Fi.push])
      rw[Fi.qae] at this
      rw[←hn'];exact this
    refine ih (2*fr+(G1++G2).length) (by omega) fr (G1++G2) _ _ lr _ _ (φ.push ⟨g.b,0,g.c.size⟩) w (a.put g.d g.v) rfl hcnt H2 ⟨fun x hx=>?_,?_,?_,by simp[hG.sl],hG.sr,fun k hk=>?_,hG.cl,hG.cl2.set (by rw[←hgi];exact gready g hgG)⟩ (hext.trans hex) hrel' ((hact.mono hex).put g.d hv)
      ⟨hfr.os,hfr.tape,hfr.output,hfr.size,hfr.block,fun k ⟨id,x,hx,hxo,hb⟩=>?_⟩
    · have h1:=hG.each x (hsub x hx)
      refine⟨h1.op,h1.cells,?_,h1.heap,h1.late,fun id y hy hyo=>?_⟩
      · rw[getD_set_ne true (by rw[←hgi];exact Ne.symm (hidne x hx))];exact h1.un
      · rw[St.qaz] at hy
        split at hy
        · rename_i he
          rw[←hn'] at he;subst he
          rw[Fi.qae];exact(Ne.symm (hbne x hx))
        · rw[hold id y hy];exact h1.apart id y hy hyo
    · rw[List.map_append]
      rw[List.nodup_append] at hids ⊢
      obtain⟨h1,h2,h3⟩:=hids
      exact⟨h1,(List.nodup_cons.1 h2).2,fun p hp q hq=>h3 p hp q (List.mem_cons_of_mem _ hq)⟩
    · rw[List.map_append]
      rw[List.nodup_append] at hbls ⊢
      obtain⟨h1,h2,h3⟩:=hbls
      exact⟨h1,(List.nodup_cons.1 h2).2,fun p hp q hq=>h3 p hp q (List.mem_cons_of_mem _ hq)⟩
    · rw[hG.bits k hk]
      by_cases hik:i=k
      · subst hik
        have:(listed.setIfInBounds i true).getD i true=true:=by simp[hG.sl,hk]
        exact⟨fun _=>.inl this,fun _=>.inr ⟨g,hgG,hgi⟩⟩
      · rw[getD_set_ne true hik]
        refine or_congr Iff.rfl ⟨fun⟨x,hx,hxk⟩=>⟨x,?_,hxk⟩,fun⟨x,hx,hxk⟩=>⟨x,hsub x hx,hxk⟩⟩
        rw[hGe] at hx
        rcases List.mem_append.1 hx with h | h
        · exact List.mem_append_left _ h
        · rcases List.mem_cons.1 h with rfl | h
          · exact absurd (hgi.symm.trans hxk) hik
          · exact List.mem_append_right _ h
    · rw[St.qaz] at hx
      split at hx
      · rename_i he
        rw[←hn'] at he;subst he
        rw[Fi.qae] at hb
        right;rw[←hb];exact hg1.late
      · rw[hold id x hx] at hb
        exact hfr.own k ⟨id,x,hx,hxo,hb⟩
  have hend:(∀ k,k<ops.size→lr.getD k true=true)→G=[]∧Region.ready .any ops listed=[]:=fun hal=>by
    have hun:∀ j∈Region.ready .any ops listed,∃ g∈G,g.i=j:=fun j hj=>by
      obtain⟨o,ho,hu,_⟩:=qa9 hj
      rcases (hG.bits j (Array.getElem?_eq_some_iff.1 ho).1).1 (hal j (Array.getElem?_eq_some_iff.1 ho).1) with h | h
      · rw[h] at hu;cases hu
      · exact h
    have hnone:¬ ∃ k,(dl k).isSome=true∧listed.getD k true=false:=fun hex=>by
      obtain⟨k,⟨hk1,hk2⟩,hkm⟩:=qlc hex
      refine hmat ⟨fun u ou hou huu=>?_,?_⟩
      · rcases (hG.bits u (Array.getElem?_eq_some_iff.1 hou).1).1 (hal u (Array.getElem?_eq_some_iff.1 hou).1) with h | ⟨g,hg,h⟩
        · rw[h] at huu;cases huu
        · left;rw[←h];exact gdl g hg
      · obtain⟨cs,hcs⟩:=Option.isSome_iff_exists.1 hk1
        obtain⟨o,_,_,ho,_⟩:=hD k cs hcs
        have hks:=(Array.getElem?_eq_some_iff.1 ho).1
        rcases (hG.bits k hks).1 (hal k hks) with h | ⟨g,hg,h⟩
        · rw[h] at hk2;cases hk2
        · exact⟨g,hg,fun j hj1 hj2=>by rw[h];exact hkm j ⟨hj1,hj2⟩⟩
    have hGn:G=[]:=by
      cases hGe:G with
      | nil=>rfl
      | cons g G' =>
        exact absurd ⟨g.i,gdl g (by rw[hGe];exact List.mem_cons_self),(hG.each g (by rw[hGe];exact List.mem_cons_self)).un⟩ hnone
    refine⟨hGn,?_⟩
    cases hr:Region.ready .any ops listed with
    | nil=>rfl
    | cons i is =>
      obtain⟨g,hg,_⟩:=hun i (by rw[hr];exact List.mem_cons_self)
      rw[hGn] at hg;cases hg
  have hfin:(∀ k,k<ops.size→lr.getD k true=true)→Q .normal (qcl a G) w:=fun hal=>by
    obtain⟨hGe,hr⟩:=hend hal
    subst hGe
    have hk:K f st:=by
      cases fr with
      | zero=>exact H.2.2
      | succ fr=>exact H.2.1 hr
    exact hQ _ _ ⟨f,st,φ,hk,hext,hrel,hact,hfr⟩
  cases fr with
  | zero =>
    have hal:=qvg (Nat.le_zero.1 hcnt)
    refine⟨?_,hfin hal⟩
    cases hr:Region.ready .any ops lr with
    | nil=>rfl
    | cons j js =>
      obtain⟨o,ho,hu,_⟩:=qa9 (ops:=ops) (listed:=lr) (j:=j) (by rw[hr];exact List.mem_cons_self)
      rw[hal j (Array.getElem?_eq_some_iff.1 ho).1] at hu;cases hu
  | succ fr =>
    refine⟨fun hr=>hfin (qrl hM hG.sr hr),fun j hj=>?_⟩
    obtain⟨oj,hoj,hju,hje⟩:=qa9 hj
    have hjs:j<ops.size:=(Array.getElem?_eq_some_iff.1 hoj).1
    have hjl:listed.getD j true=false:=by
      cases hb:listed.getD j true with
      | false=>rfl
      | true=>rw[(hG.bits j hjs).2 (.inl hb)] at hju;cases hju
    have hjg:∀ g∈G,g.i≠j:=fun g hg e=>by rw[(hG.bits j hjs).2 (.inr ⟨g,hg,e⟩)] at hju;cases hju
    have hcnt':cntU ops.size (lr.setIfInBounds j true)≤fr:=by have:=cntU_set hG.sr hjs hju;omega
    have hp:=hM.plain j oj hoj
    have hbits:∀ k,k<ops.size→((lr.setIfInBounds j true).getD k true=true↔k=j∨lr.getD k true=true):=fun k hk=>by
      by_cases hjk:j=k
      · subst hjk
        exact⟨fun _=>.inl rfl,fun _=>by simp[hG.sr,hk]⟩
      · rw[getD_set_ne true hjk]
        exact⟨.inr,fun h=>h.elim (fun h=>absurd h.symm hjk) fun h=>h⟩
    cases hdj:dl j with
    | some cs =>
      obtain⟨oj',e,ti,hoj',hop,hgu,hed,hti,hcs⟩:=hD j cs hdj
      rw[hoj] at hoj';cases hoj'
      have hev:evF T φ.n (Operand.av f.ts) oj=some (.ptr φ.n 0,ti.zero.map .lit):=by simp only [evF,hop,hti]
      obtain⟨c,t,h4,h5⟩:=qqz (P:=P) hT (qa7 hact.ts) hev
      obtain⟨u,h6,h7⟩:=h5 w
      have hce:c.toList=ti.zero:=qp9 h4
      have hu:u=.pointer (some ⟨w.heap.size,0,none⟩):=by
        have:=(h7.qca).1
        rwa [Fi.qae] at this
      obtain⟨x1,x2,x3⟩:=qia (P:=P) (ops:=ops) oj hp (G:=G) a fun g hg d hd hm=>by
        obtain⟨og,hog,hgd⟩:=(hG.each g hg).op
        rcases (hM.see g.i j og oj hog hoj (hjg g hg) d (by rw[hgd];exact hd)).1 hm with h | h
        · obtain⟨e',he',_⟩:=hM.anc j oj g.i hoj (glt g hg) h
          rw[hed] at he';cases he'
        · obtain⟨og2,_,_,hog2,_,_,hed2,_⟩:=hD g.i _ (hG.each g hg).cells
          rw[hog] at hog2;cases hog2
          obtain⟨e',he',_⟩:=hM.anc g.i og j hog hjs h
          rw[hed2] at he';cases he'
      unfold wpOpIn
      simp only [hoj]
      rw[if_pos (by unfold Region.wanted;rw[hgu])]
      unfold Oper.wpIn
      rw[semAt_eq hp.2,←x2,h6]
      refine⟨fun _ _=>trivial,?_⟩
      have hrel':=hrel.alloc (.cells c t)
      have hn1:=ih (2*fr+(G.length+1)) (by omega) fr (⟨j,w.heap.size,c,t,oj.dst⟩::G) qag listed (lr.setIfInBounds j true) f st φ (w.alloc (.cells c t)) a rfl hcnt'
        (by have e1:fr+(⟨j,w.heap.size,c,t,oj.dst⟩::G:List Gh).length=fr+1+G.length:=by simp;omega
            rw[e1];exact H)
        ⟨fun g hg=>?_,?_,?_,hG.sl,by simp[hG.sr],fun k hk=>?_,hG.cl.set hj,hG.cl2⟩ hext hrel' hact
        ⟨hfr.os,hfr.tape,hfr.output,by rw[qb5];have:=hfr.size;omega,fun k hk ho=>(qbt w _ k (by have:=hfr.size;omega)).trans (hfr.block k hk ho),hfr.own⟩
      · have e2:qcl a (⟨j,w.heap.size,c,t,oj.dst⟩::G)=(qcl a G).put oj.dst u:=by rw[hu];rfl
        rw[e2] at hn1
        exact hn1
      · rcases List.mem_cons.1 hg with rfl | hg
        · exact⟨⟨oj,hoj,rfl⟩,by rw[hdj,hcs,hce],hjl,qaw w _,hfr.size,fun id x hx _=>Nat.ne_of_lt (hrel.blk id x hx)⟩
        · have h1:=hG.each g hg
          exact⟨h1.op,h1.cells,h1.un,by rw[qbt w _ _ (Array.getElem?_eq_some_iff.1 h1.heap).1];exact h1.heap,h1.late,h1.apart⟩
      · rw[List.map_cons,List.nodup_cons]
        refine⟨fun hm=>?_,hG.ids⟩
        obtain⟨g,hg,he⟩:=List.mem_map.1 hm
        exact hjg g hg he
      · rw[List.map_cons,List.nodup_cons]
        refine⟨fun hm=>?_,hG.blocks⟩
        obtain⟨g,hg,he⟩:=List.mem_map.1 hm
        have:=(Array.getElem?_eq_some_iff.1 (hG.each g hg).heap).1
        simp only at he
        omega
      · rw[hbits k hk,hG.bits k hk]
        constructor
        · rintro(rfl | h | ⟨g,hg,h⟩)
          · exact .inr ⟨_,List.mem_cons_self,rfl⟩
          · exact .inl h
          · exact .inr ⟨g,List.mem_cons_of_mem _ hg,h⟩
        · rintro(h | ⟨g,hg,h⟩)
          · exact .inr (.inl h)
          · rcases List.mem_cons.1 hg with rfl | hg
            · exact .inl h.symm
            · exact .inr (.inr ⟨g,hg,h⟩)
    | none =>
      have hjr:j∈Region.ready .any ops listed:=qhg hoj hjl fun e he=>by
        cases hb:listed.getD e false with
        | true=>rfl
        | false =>
          exfalso
          have hej:=hM.back j oj hoj e he
          have hes:e<ops.size:=by omega
          have hbt:listed.getD e true=false:=by rw[qms (by rw[hG.sl];exact hes)];exact hb
          have hlre:lr.getD e true=true:=by rw[qms (by rw[hG.sr];exact hes)];exact hje e he
          obtain⟨g,hg,hge⟩:∃ g∈G,g.i=e:=by
            rcases (hG.bits e hes).1 hlre with h | h
            · rw[h] at hbt;cases hbt
            · exact h
          have hde:(dl e).isSome=true:=by rw[←hge];exact gdl g hg
          have ghost:∀ u,u<ops.size→listed.getD u true=false→lr.getD u false=true→∃ x∈G,x.i=u:=fun u hus huu h1=>by
            rcases (hG.bits u hus).1 (by rw[qms (by rw[hG.sr];exact hus)];exact h1) with h2 | h2
            · rw[h2] at huu;cases huu
            · exact h2
          refine hmat ⟨fun u ou hou huu=>?_,?_⟩
          · have hus:=(Array.getElem?_eq_some_iff.1 hou).1
            rcases hS.2 e j u oj ou hde hoj hou he with rfl | h | h | h | h
            · rw[hoj] at hou;cases hou
              exact .inr (.inr ⟨e,hde,hbt,he⟩)
            · obtain⟨x,hx,hxu⟩:=ghost u hus huu (qbu.anc hM hG.cl hus j oj hoj hje h)
              left;rw[←hxu];exact gdl x hx
            · exact .inr (.inr ⟨e,hde,hbt,h⟩)
            · exact .inl h.1
            · exact .inr (.inl h)
          · obtain⟨k,⟨hk1,hk2⟩,hkm⟩:=qlc (p:=fun k=>(dl k).isSome=true∧listed.getD k true=false) ⟨e,hde,hbt⟩
            have hke:k≤e:=hkm e ⟨hde,hbt⟩
            obtain⟨cs,hcs⟩:=Option.isSome_iff_exists.1 hk1
            obtain⟨ok,_,_,hok,_,_,hed,_⟩:=hD k cs hcs
            have hks:=(Array.getElem?_eq_some_iff.1 hok).1
            have hkg:∃ x∈G,x.i=k:=by
              rcases hS.2 e j k oj ok hde hoj hok he with rfl | h | h | h | h
              · rw[hdj] at hcs;cases hcs
              · exact ghost k hks hk2 (qbu.anc hM hG.cl hks j oj hoj hje h)
              · rw[hed] at h;cases h
              · have:k=e:=by omega
                subst this;exact⟨g,hg,hge⟩
              · rw[hS.1 k hk1] at h;cases h
            obtain⟨x,hx,hxk⟩:=hkg
            exact⟨x,hx,fun j' h1 h2=>by rw[hxk];exact hkm j' ⟨h1,h2⟩⟩
      have H':qhw P T ops M rd dl lt K ((fr+G.length)+1) qag listed f st:=by
        have:fr+1+G.length=(fr+G.length)+1:=by omega
        rw[←this];exact H
      obtain⟨o,ho,h4⟩:=H'.2.2.1 j hjr hdj
      rw[hoj] at ho;cases ho
      have hsee1:∀ g∈G,∀ d,g.d=some d→d∉oj.looksAt ops:=fun g hg d hd hm=>by
        obtain⟨og,hog,hgd⟩:=(hG.each g hg).op
        rcases (hM.see g.i j og oj hog hoj (hjg g hg) d (by rw[hgd];exact hd)).1 hm with h | h
        · obtain⟨oj2,hoj2,_,hle⟩:=qa9 hjr
          rw[hoj] at hoj2;cases hoj2
          have h1:=qbu.anc hM hG.cl2 (glt g hg) j oj hoj hle h
          have h2:=qct (hG.each g hg).un
          rw[h1] at h2;cases h2
        · obtain⟨og2,_,_,hog2,_,_,hed2,_⟩:=hD g.i _ (hG.each g hg).cells
          rw[hog] at hog2;cases hog2
          obtain⟨e',he',_⟩:=hM.anc g.i og j hog hjs h
          rw[hed2] at he';cases he'
      have hsee2:∀ g∈G,∀ d,g.d=some d→oj.dst≠some d:=fun g hg d hd=>by
        obtain⟨og,hog,hgd⟩:=(hG.each g hg).op
        exact(hM.see g.i j og oj hog hoj (hjg g hg) d (by rw[hgd];exact hd)).2
      obtain⟨x1,x2,x3⟩:=qia (P:=P) (ops:=ops) oj hp (G:=G) a hsee1
      have hrd':∀ id,rd=some id→id<φ.n:=fun id hi=>Nat.lt_of_lt_of_le (hrd id hi) hext.n
      have h5:=h4 φ w a n (fun e a' w'=>e=.normal∧wpAnyIn (FW (rdB φ0 rd)) n P .any ops Q fr (lr.setIfInBounds j true) (qcl a' G) w') hrd' hrel hact (fun a' w' hl=>⟨rfl,by
        obtain⟨f',st',φ',⟨v,hf,hk⟩,he,hrel',hact',hfr'⟩:=hl
        refine ih (2*fr+G.length) (by omega) fr G _ (listed.setIfInBounds j true) (lr.setIfInBounds j true) f' st' φ' w' a' rfl hcnt' hk ⟨fun g hg=>?_,hG.ids,hG.blocks,by simp[hG.sl],by simp[hG.sr],fun k hk=>?_,hG.cl.set hj,hG.cl2.set hjr⟩ (hext.trans he) hrel' hact' (hfr.trans hfr')
        · have h1:=hG.each g hg
          have hno:¬ qfv φ st g.b:=fun⟨id,x,hx,hxo,hb⟩=>h1.apart id x hx hxo hb
          have hbs:=(Array.getElem?_eq_some_iff.1 h1.heap).1
          refine⟨h1.op,h1.cells,by rw[getD_set_ne true (Ne.symm (hjg g hg))];exact h1.un,by rw[hfr'.block g.b hbs hno];exact h1.heap,h1.late,fun id x hx hxo hb=>?_⟩
          rcases hfr'.own g.b ⟨id,x,hx,hxo,hb⟩ with h2 | h2
          · exact hno h2
          · omega
        · rw[hbits k hk,hG.bits k hk]
          by_cases hjk:j=k
          · subst hjk
            have:(listed.setIfInBounds j true).getD j true=true:=by simp[hG.sl,hk]
            exact⟨fun _=>.inl this,fun _=>.inl rfl⟩
          · rw[getD_set_ne true hjk]
            exact⟨fun h=>h.elim (fun h=>absurd h.symm hjk) fun h=>h,.inr⟩⟩)
      rw[wpOpsIn_cons,qb1 hext hrd] at h5
      refine qce hoj hp.2 x1 x2 x3 (fun cv w' hk=>?_) (fun d w' hk=>?_) (fun e a w hne hk=>absurd hk.1 hne) (fun hl=>by obtain⟨a,w,hn,_⟩:=hl;cases hn) h5
      · rw[qf2 a hsee2];exact hk.2
      · rw[←qiu,qf2 _ hsee2];exact hk.2
end
end Go.Ev
namespace Go.Ev
def bindL {α β:Type}:List α→(α→Option (List β))→Option (List β)
  | [],_=>some []
  | a::r,g=>match g a with
    | none=>none
    | some x=>match bindL r g with
      | none=>none
      | some y=>some (x++y)
theorem qc5 {α β:Type}{g:α→Option (List β)}:∀ {l:List α}{res:List β},bindL l g=some res→∀ a∈l,∃ x,g a=some x∧∀ b∈x,b∈res
  | [],_,_,a,ha=>by cases ha
  | a0::r,res,h,a,ha=>by
    simp only [bindL] at h
    split at h
    · cases h
    · rename_i x hx
      split at h
      · cases h
      · rename_i y hy
        cases h
        rcases List.mem_cons.1 ha with rfl | ha
        · exact⟨x,hx,fun b hb=>List.mem_append_left _ hb⟩
        · obtain⟨x',h1,h2⟩:=qc5 hy a ha
          exact⟨x',h1,fun b hb=>List.mem_append_right _ (h2 b hb)⟩
def litEq:Value→Value→Bool
  | .bool a,.bool b=>a == b
  | .int k a,.int j b=>k == j&&a == b
  | .pointer none,.pointer none=>true
  | .slice none a b,.slice none c d=>a == c&&b == d
  | .map none,.map none=>true
  | .nilFunc,.nilFunc=>true
  | .pointer (some a),.pointer (some b)=>a == b
  | .tuple a,.tuple b=>Nat.beq a.size 0&&Nat.beq b.size 0
  | _,_=>false
theorem qqb {a b:Value}(h:litEq a b=true):a=b:=by
  unfold litEq at h
  split at h
  case h_8 a b =>
    simp only [Bool.and_eq_true] at h
    rw[Array.eq_empty_of_size_eq_zero (Nat.eq_of_beq_eq_true h.1),Array.eq_empty_of_size_eq_zero (Nat.eq_of_beq_eq_true h.2)]
  all_goals simp_all
mutual
def avEq:AV→AV→Bool
  | .lit a,.lit b=>litEq a b
  | .ptr a b,.ptr c d=>a == c&&b == d
  | .sl a b c d e,.sl a' b' c' d' e'=>a == a' && b == b' && c == c' && d == d' && e == e'
  | .mp a,.mp b=>a == b
  | .yld a,.yld b=>a == b
  | .fn f a b,.fn g c d=>f == g&&avsEq a c&&avsEq b d
  | .agg a,.agg b=>avsEq a b
  | .tup a,.tup b=>avsEq a b
  | _,_=>false
def avsEq:List AV→List AV→Bool
  | [],[]=>true
  | a::r,b::s=>avEq a b&&avsEq r s
  | _,_=>false
end
mutual
theorem qg9:∀ {a b:AV},avEq a b=true→a=b:=by
  intro a b h
  unfold avEq at h
  split at h
  · rw[qqb h]
  · simp_all
  · simp_all
  · simp_all
  · simp_all
  · simp only [Bool.and_eq_true,beq_iff_eq] at h
    rw[h.1.1,qff h.1.2,qff h.2]
  · rw[qff h]
  · rw[qff h]
  · cases h
theorem qff:∀ {a b:List AV},avsEq a b=true→a=b:=by
  intro a b h
  unfold avsEq at h
  split at h
  · rfl
  · simp only [Bool.and_eq_true] at h
    rw[qg9 h.1,qff h.2]
  · cases h
end
def esEq:List (AV × AV × Nat)→List (AV × AV × Nat)→Bool
  | [],[]=>true
  | x::r,y::s=>avEq x.1 y.1&&avEq x.2.1 y.2.1&&Nat.beq x.2.2 y.2.2&&esEq r s
  | _,_=>false
theorem qoz:∀ {a b:List (AV × AV × Nat)},esEq a b=true→a=b
  | [],[],_=>rfl
  | (k,v,n)::r,(k',v',n')::s,h=>by
    simp only [esEq,Bool.and_eq_true] at h
    rw[qg9 h.1.1.1,qg9 h.1.1.2,Nat.eq_of_beq_eq_true h.1.2,qoz h.2]
  | [],_::_,h=>by cases h
  | _::_,[],h=>by cases h
def objEq:AObj→AObj→Bool
  | .cells a b c,.cells d e f=>a == d&&b == e&&avsEq c f
  | .dfr,.dfr=>true
  | .map a c,.map b d=>esEq a b&&Nat.beq c d
  | .iter a b c d,.iter a' b' c' d'=>Nat.beq a a' && Nat.beq b b' && c == c' && Nat.beq d d'
  | _,_=>false
theorem objEq_ok {a b:AObj}(h:objEq a b=true):a=b:=by
  unfold objEq at h
  split at h
  · simp only [Bool.and_eq_true,beq_iff_eq] at h
    rw[h.1.1,h.1.2,qff h.2]
  · rfl
  · simp only [Bool.and_eq_true] at h
    rw[qoz h.1,Nat.eq_of_beq_eq_true h.2]
  · simp only [Bool.and_eq_true,beq_iff_eq] at h
    rw[Nat.eq_of_beq_eq_true h.1.1.1,Nat.eq_of_beq_eq_true h.1.1.2,h.1.2,Nat.eq_of_beq_eq_true h.2]
  · cases h
def hpEq:Hp→Hp→Bool
  | [],[]=>true
  | (i,o)::r,(j,p)::s=>i == j&&objEq o p&&hpEq r s
  | _,_=>false
theorem qus:∀ {a b:Hp},hpEq a b=true→a=b
  | [],[],_=>rfl
  | (i,o)::r,(j,p)::s,h=>by
    simp only [hpEq,Bool.and_eq_true,beq_iff_eq] at h
    rw[h.1.1,objEq_ok h.1.2,qus h.2]
  | [],_::_,h=>by cases h
  | _::_,[],h=>by cases h
def stEq (a b:St):Bool:=a.n == b.n&&hpEq a.h b.h
theorem qsv {a b:St}(h:stEq a b=true):a=b:=by
  simp only [stEq,Bool.and_eq_true,beq_iff_eq] at h
  cases a;cases b;simp only at h;rw[h.1,qus h.2]
def dedup:List (AV × St)→List (AV × St)
  | []=>[]
  | [x]=>[x]
  | x::r=>let r':=dedup r;if r'.any fun y=>avEq x.1 y.1&&stEq x.2 y.2 then r' else x::r'
theorem qjq:∀ {l:List (AV × St)}{x:AV × St},x∈l→x∈dedup l
  | [y],x,h=>h
  | y::z::r,x,h=>by
    simp only [dedup]
    split
    · rename_i hany
      rcases List.mem_cons.1 h with rfl | h
      · rw[List.any_eq_true] at hany
        obtain⟨y,hy,he⟩:=hany
        simp only [Bool.and_eq_true] at he
        have h1:=qg9 he.1
        have h2:=qsv he.2
        have:x=y:=by cases x;cases y;simp only at h1 h2;rw[h1,h2]
        rw[this];exact hy
      · exact qjq h
    · rcases List.mem_cons.1 h with rfl | h
      · exact List.mem_cons_self
      · exact List.mem_cons_of_mem _ (qjq h)
  | [],_,h=>by cases h
end Go.Ev
namespace Go.Ev
def St.qhb (st:St)(p:Nat→Bool):St:=⟨st.h.filter fun x=>p x.1,st.n⟩
theorem Hp.get_filter {p:Nat→Bool}:∀ {h:Hp}{id:Nat}{o:AObj},Hp.get (h.filter fun x=>p x.1) id=some o→h.get id=some o
  | [],_,_,h=>h
  | (i,x)::r,id,o,h=>by
    rw[List.filter_cons] at h
    by_cases hi:i=id
    · subst hi
      simp only [Hp.get,if_true]
      split at h
      · simpa only [Hp.get,if_true] using h
      · rename_i hp
        exfalso
        have:∀ {r:Hp},Hp.get (r.filter fun x=>p x.1) i=none:=fun {r}=>by
          induction r with
          | nil=>rfl
          | cons y r ih =>
            rw[List.filter_cons]
            split
            · rename_i hy
              have:¬ y.1=i:=fun e=>hp (by rw[←e];exact hy)
              simp only [Hp.get,this,if_false,ih]
            · exact ih
        rw[this] at h;cases h
    · simp only [Hp.get,hi,if_false]
      refine Hp.get_filter (p:=p) ?_
      split at h
      · simpa only [Hp.get,hi,if_false] using h
      · exact h
theorem Rel.qhb {φ:Fi}{st:St}{w:World}(hr:Rel φ st w)(p:Nat→Bool):Rel φ (st.qhb p) w :=
  ⟨hr.n,fun id o h=>hr.lt id o (Hp.get_filter h),fun id o h=>hr.blk id o (Hp.get_filter h),fun id o h=>hr.obj id o (Hp.get_filter h),
   fun i j oi oj hi hj=>hr.sep i j oi oj (Hp.get_filter hi) (Hp.get_filter hj)⟩
theorem Fr.qhb {φ φ':Fi}{st st':St}{w w':World}(h:Fr φ st w φ' st' w')(p:Nat→Bool):Fr φ st w φ' (st'.qhb p) w' :=
  ⟨h.os,h.tape,h.output,h.size,h.block,fun k ⟨id,o,h1,h2⟩=>h.own k ⟨id,o,Hp.get_filter h1,h2⟩⟩
mutual
def avLt (n:Nat):AV→Bool
  | .lit _=>true
  | .ptr i _ | .sl i _ _ _ _ | .mp i | .yld i=>Nat.blt i n
  | .fn _ a b=>qvq n a&&qvq n b
  | .agg a | .tup a=>qvq n a
def qvq (n:Nat):List AV→Bool
  | []=>true
  | a::r=>avLt n a&&qvq n r
end
def objLt (n:Nat):AObj→Bool
  | .cells _ _ cs=>qvq n cs
  | .map es _=>es.all fun x=>avLt n x.1&&avLt n x.2.1
  | .iter mid _ _ _=>Nat.blt mid n
  | _=>true
section
variable (P:Program)(T:Ti)(G:FuncId→Option Func)(C:FuncId→List AV→St→Option (List (AV × St)))(X:St→(Operand→AV)→Oper→Option (List (AV × St)))
abbrev qcy:=AV→List AV→St→Option (List (AV × St))
def qhv (call:qcy):Prop:=∀ c args st outs,call c args st=some outs→ApplyW P c args st (fun v st'=>(v,st')∈outs)
def XOk:Prop:=∀ (rd:Option Nat)(ops:Array Oper)(i:Nat)(f:Fm)(st:St)(o:Oper)(outs:List (AV × St)),ops[i]?=some o→Region.wanted o (yA ops f.ts)=true→X st (Operand.av f.ts) o=some outs →
  qac P rd ops [i] (fun f' st'=>∃ v,f'=f.put o.dst v∧(v,st')∈outs) f st
def heavy (call:qcy)(st:St)(ρ:Operand→AV)(o:Oper):Option (List (AV × St)) :=
  match o.op with
  | .alloc _ | .box _ _ | .buildSlice _ _ _ | .makeSlice _ _ _=>(evF T st.n ρ o).map fun x=>[(x.1,st.push (.cells none false x.2))]
  | .store _ _ _=>match storeO T st ρ o with
    | some s=>some [(qb3,s)]
    | none=>X st ρ o
  | .call c=>match c.callee with
    | .builtin .append=>(appendO T st ρ o).map fun x=>[x]
    | .value f=>call (ρ f) (c.args.toList.map ρ) st
    | _=>X st ρ o
  | _=>X st ρ o
variable {P T G C X}
theorem qqp (hT:TOk P T)(hX:XOk P X){call:qcy}(hc:qhv P call){rd:Option Nat}{ops:Array Oper}{i:Nat}{f:Fm}{st:St}{o:Oper}{outs:List (AV × St)}(ho:ops[i]?=some o)(hw:Region.wanted o (yA ops f.ts)=true)
    (h:heavy T X call st (Operand.av f.ts) o=some outs):qac P rd ops [i] (fun f' st'=>∃ v,f'=f.put o.dst v∧(v,st')∈outs) f st:=by
  have hF:∀ {outs},(evF T st.n (Operand.av f.ts) o).map (fun x=>[(x.1,st.push (.cells none false x.2))])=some outs→qac P rd ops [i] (fun f' st'=>∃ v,f'=f.put o.dst v∧(v,st')∈outs) f st:=fun {outs} h=>by
    cases he:evF T st.n (Operand.av f.ts) o with
    | none=>rw[he] at h;cases h
    | some x =>
      rw[he] at h
      simp only [Option.map_some,Option.some.injEq] at h
      subst h
      exact qac.fresh hT (r:=x.1) (cs:=x.2) ho hw he (.nil ⟨x.1,rfl,by simp⟩)
  unfold heavy at h
  split at h
  · exact hF h
  · exact hF h
  · exact hF h
  · exact hF h
  · cases he:storeO T st (Operand.av f.ts) o with
    | none=>rw[he] at h;exact hX rd ops i f st o outs ho hw h
    | some x =>
      rw[he] at h
      simp only [Option.some.injEq] at h
      subst h
      exact qac.store hT ho hw he (.nil ⟨qb3,rfl,by simp⟩)
  · rename_i c hx
    split at h
    · cases he:appendO T st (Operand.av f.ts) o with
      | none=>rw[he] at h;cases h
      | some x =>
        rw[he] at h
        simp only [Option.map_some,Option.some.injEq] at h
        subst h
        exact qac.append hT (r:=x.1) (st':=x.2) ho hw he (.nil ⟨x.1,rfl,by simp⟩)
    · rename_i fo hcal
      refine qac.call (c:=Operand.av f.ts fo) (args:=c.args.toList.map (Operand.av f.ts)) ho hw (by simp only [callO,hx,hcal]) ?_
      exact(hc _ _ _ _ h).mono fun v st' hm=>.nil ⟨v,rfl,hm⟩
    · exact hX rd ops i f st o outs ho hw h
  · exact hX rd ops i f st o outs ho hw h
theorem qac.cons {rd:Option Nat}{ops:Array Oper}{i:Nat}{l:List Nat}{K:Fm→St→Prop}{f:Fm}{st:St}{o:Oper}(ho:ops[i]?=some o)(hnd:∀ c,o.op≠.defer c)(h:qac P rd ops [i] (fun f' st'=>qac P rd ops l K f' st') f st):qac P rd ops (i::l) K f st:=by
  intro φ w a n Q h1 h2 h3 hQ
  have h4:=h φ w a n (fun e a' w'=>e=.normal∧wpOpsIn (FW (rdB φ rd)) n P ops Q l a' w') h1 h2 h3 (fun a' w' hl=>⟨rfl,by
    obtain⟨f',st',φ',hk,he,hrel,hact,hfr⟩:=hl
    have h6:=hk φ' w' a' n Q (fun id hi=>Nat.lt_of_lt_of_le (h1 id hi) he.n) hrel hact (fun a2 w2 hl2=>hQ a2 w2 (hl2.trans he hfr))
    rwa [qb1 he h1] at h6⟩)
  rw[wpOpsIn_cons] at h4 ⊢
  exact qce ho hnd rfl rfl (fun _=>rfl) (fun cv w' hk=>hk.2) (fun d w' hk=>hk.2) (fun e a w hne hk=>absurd hk.1 hne) (fun hl=>by obtain⟨a,w,hn,_⟩:=hl;cases hn) h4
theorem qod {o:Oper}(h:qhh o=true)(c:Call):o.op≠.defer c:=fun hc=>by simp[qhh,hc] at h
def noLook (ops:Array Oper)(qag:List (Nat × AV))(o:Oper):Bool:=match o.dst with
  | none=>true
  | some d=>qag.all fun p=>match ops[p.1]? with
    | some q=>!((q.looksAt ops).contains d)
    | none=>true
theorem qt3 {ops:Array Oper}{qag:List (Nat × AV)}{oi:Oper}(h:noLook ops qag oi=true):∀ p∈qag,∀ o,ops[p.1]?=some o→∀ d,oi.dst=some d→d∉o.looksAt ops:=fun p hp o ho d hd hm=>by
  unfold noLook at h
  rw[hd] at h
  have h1:=List.all_eq_true.1 h p hp
  simp only [ho,Bool.not_eq_true'] at h1
  rw[List.contains_iff_mem.2 hm] at h1
  cases h1
end
end Go.Ev
namespace Go.Ev
def tidyC:Code→Bool
  | .region _ ops true=>qgo ops (qc6 ops)
  | .seq a b=>tidyC a&&tidyC b
  | .cond _ a b=>tidyC a&&tidyC b
  | .block _ c=>tidyC c
  | .loop c=>tidyC c
  | .scope c=>tidyC c
  | .rangeFunc _ _ a b=>tidyC a&&tidyC b
  | _=>true
def jumpE:Code→Option Exit
  | .ret=>some .ret
  | .exit e=>some (.exit e)
  | _=>none
section
variable (T:Ti)(X:St→(Operand→AV)→Oper→Option (List (AV × St)))(call:qcy)(L:Nat)
end
section
variable {P:Program}{T:Ti}{X:St→(Operand→AV)→Oper→Option (List (AV × St))}{call:qcy}{L:Nat}
end
def qfm:LoopState→Bool
  | .ready=>true
  | _=>false
section
variable (T:Ti)(X:St→(Operand→AV)→Oper→Option (List (AV × St)))(L:Nat)(G:FuncId→Option Func)(C:FuncId→List AV→St→Option (List (AV × St)))
end
section
variable {P:Program}{T:Ti}{X:St→(Operand→AV)→Oper→Option (List (AV × St))}{L:Nat}{G:FuncId→Option Func}{C:FuncId→List AV→St→Option (List (AV × St))}
variable (P G) in
def GOk:Prop:=∀ g fn,G g=some fn→P.funcs[g]?=some fn∧Enters P g∧∀ b,fn.body=some b→tidyC b=true
variable (P C) in
def COk:Prop:=∀ g args st outs,C g args st=some outs→Enters P g∧qax P g args st (fun v st'=>(v,st')∈outs)
end
end Go.Ev
namespace Go.Ev
def tab (P:Program)(t:TypeId):Option TI :=
  match P.underlying t,P.info? t with
  | some d,some ti=>match ti.zero with
    | some z=>some { desc:=d,size:=ti.size,bytes:=ti.bytes,zero:=z.cells.toList,flat:=!(P.stoodInHeld t)&&!(P.eqGuardType P.depth t) }
    | none=>none
  | _,_=>none
theorem qss (P:Program):TOk P (tab P):=fun t i h=>by
  unfold tab at h
  split at h
  · rename_i d ti hd hti
    split at h
    · rename_i z hz
      cases h
      exact⟨hd,⟨ti,z,hti,rfl,rfl,hz,rfl⟩,fun hf=>by simpa using hf⟩
    · cases h
  · cases h
def qoh (l:List (Option TI)):Ti:=fun t=>(l[t]?).getD none
theorem qmh {P:Program}{l:List (Option TI)}{n:Nat}(h:l=(List.range n).map (tab P)):TOk P (qoh l):=fun t i hi=>by
  refine qss P t i ?_
  unfold qoh at hi
  subst h
  rw[List.getElem?_map] at hi
  cases hr:(List.range n)[t]? with
  | none=>rw[hr] at hi;cases hi
  | some x =>
    rw[hr] at hi
    have:x=t:=by
      obtain⟨hx,he⟩:=List.getElem?_eq_some_iff.1 hr
      simpa using he.symm
    subst this
    exact hi
def ofFns (l:List (FuncId × Func))(g:FuncId):Option Func :=
  match l with
  | []=>none
  | (i,f)::r=>if Nat.beq i g then some f else ofFns r g
def fnsB (P:Program):List (FuncId × Func)→Prop
  | []=>True
  | (i,f)::r=>(P.funcs[i]?=some f∧Enters P i∧(match f.body with | some b=>tidyC b | none=>true)=true)∧fnsB P r
theorem qp1 {P:Program}:∀ {l:List (FuncId × Func)},fnsB P l→GOk P (ofFns l)
  | [],_,g,fn,h=>by cases h
  | (i,f)::r,hb,g,fn,h=>by
    simp only [ofFns] at h
    split at h
    · rename_i hi
      cases h
      have:i=g:=Nat.eq_of_beq_eq_true hi
      subst this
      refine⟨hb.1.1,hb.1.2.1,fun b hbb=>?_⟩
      have:=hb.1.2.2
      rw[hbb] at this
      exact this
    · exact qp1 hb.2 g fn h
end Go.Ev
namespace Go.Ev
inductive Tr where
  | nil
  | node (v:AV)(l r:Tr)
def Tr.get:Tr→Nat→AV
  | .nil,_=>qb3
  | .node v l r,i=>match Nat.beq i 0 with
    | true=>v
    | false=>match Nat.beq (i % 2) 1 with
      | true=>l.get (i / 2)
      | false=>r.get (i / 2 - 1)
def Tr.set:Nat→Tr→Nat→AV→Tr
  | 0,t,_,_=>t
  | n+1,.nil,i,x=>match Nat.beq i 0 with
    | true=>.node x .nil .nil
    | false=>match Nat.beq (i % 2) 1 with
      | true=>.node qb3 (Tr.set n .nil (i / 2) x) .nil
      | false=>.node qb3 .nil (Tr.set n .nil (i / 2 - 1) x)
  | n+1,.node v l r,i,x=>match Nat.beq i 0 with
    | true=>.node x l r
    | false=>match Nat.beq (i % 2) 1 with
      | true=>.node v (Tr.set n l (i / 2) x) r
      | false=>.node v l (Tr.set n r (i / 2 - 1) x)
theorem Tr.qe5:∀ (n:Nat)(t:Tr)(i j:Nat)(x:AV),i+1<2 ^ n→(Tr.set n t i x).get j=if j=i then x else t.get j:=by
  intro n
  induction n with
  | zero=>intro t i j x h;simp at h
  | succ n ih =>
    intro t i j x h
    have hp:2 ^ (n+1)=2*2 ^ n:=by rw[Nat.pow_succ];omega
    rw[hp] at h
    have key:∀ (v:AV)(l r:Tr),(match Nat.beq i 0 with
        | true=>Tr.node x l r
        | false=>match Nat.beq (i % 2) 1 with
          | true=>.node v (Tr.set n l (i / 2) x) r
          | false=>.node v l (Tr.set n r (i / 2 - 1) x)).get j=if j=i then x else(Tr.node v l r).get j:=by
      intro v l r
      cases hi:Nat.beq i 0 with
      | true =>
        have hi:=Nat.eq_of_beq_eq_true hi
        subst hi
        simp only [Tr.get]
        cases hj:Nat.beq j 0 with
        | true=>have hj:=Nat.eq_of_beq_eq_true hj;subst hj;simp
        | false=>have hj:=Nat.ne_of_beq_eq_false hj;simp[hj]
      | false =>
        have hi:=Nat.ne_of_beq_eq_false hi
        cases hm:Nat.beq (i % 2) 1 with
        | true =>
          have hm:=Nat.eq_of_beq_eq_true hm
          simp only [Tr.get]
          cases hj:Nat.beq j 0 with
          | true=>have hj:=Nat.eq_of_beq_eq_true hj;subst hj;simp[Ne.symm hi]
          | false =>
            have hj:=Nat.ne_of_beq_eq_false hj
            cases hq:Nat.beq (j % 2) 1 with
            | true =>
              have hq:=Nat.eq_of_beq_eq_true hq
              simp only
              rw[ih _ _ _ _ (by omega)]
              by_cases hji:j=i
              · simp[hji]
              · rw[if_neg (by omega),if_neg hji]
            | false =>
              have hq:=Nat.ne_of_beq_eq_false hq
              simp only
              rw[if_neg (by intro e;subst e;exact hq hm)]
        | false =>
          have hm:=Nat.ne_of_beq_eq_false hm
          simp only [Tr.get]
          cases hj:Nat.beq j 0 with
          | true=>have hj:=Nat.eq_of_beq_eq_true hj;subst hj;simp[Ne.symm hi]
          | false =>
            have hj:=Nat.ne_of_beq_eq_false hj
            cases hq:Nat.beq (j % 2) 1 with
            | true =>
              have hq:=Nat.eq_of_beq_eq_true hq
              simp only
              rw[if_neg (by intro e;subst e;exact hm hq)]
            | false =>
              have hq:=Nat.ne_of_beq_eq_false hq
              simp only
              rw[ih _ _ _ _ (by omega)]
              by_cases hji:j=i
              · simp[hji]
              · rw[if_neg (by omega),if_neg hji]
    cases t with
    | nil =>
      have h0:∀ j,(Tr.node qb3 .nil .nil).get j=Tr.nil.get j:=fun j=>by
        by_cases h1:Nat.beq j 0=true <;> by_cases h2:Nat.beq (j % 2) 1=true <;> simp only [Tr.get,h1,h2]
      have:=key qb3 .nil .nil
      rw[h0] at this
      exact this
    | node v l r=>exact key v l r
structure TF where
  t:Tr
  len:Nat
  dm:List Nat
def TF.abs (f:TF):Fm:=⟨(List.range f.len).map f.t.get,f.dm⟩
def qln:Nat:=1048575
def TF.put (f:TF)(dst:Option Tmp)(v:AV):TF :=
  match dst with
  | none=>f
  | some d=>match Nat.blt d f.len with
    | true=>⟨Tr.set 20 f.t d v,f.len,f.dm⟩
    | false=>f
def TF.ok (f:TF):Prop:=f.len≤qln
theorem TF.qgw (f:TF)(dst:Option Tmp)(v:AV):(f.put dst v).len=f.len:=by
  unfold TF.put
  cases dst with
  | none=>rfl
  | some d=>simp only;split <;> rfl
theorem TF.qk4 {f:TF}(h:f.ok)(dst:Option Tmp)(v:AV):(f.put dst v).ok:=by unfold TF.ok;rw[TF.qgw];exact h
theorem TF.qio {f:TF}(h:f.ok)(dst:Option Tmp)(v:AV):(f.put dst v).abs=f.abs.put dst v:=by
  cases dst with
  | none=>rfl
  | some d =>
    unfold TF.put
    simp only
    cases hd:Nat.blt d f.len with
    | true =>
      have hd:d<f.len:=Nat.le_of_ble_eq_true hd
      simp only [TF.abs,Fm.put]
      congr 1
      apply List.ext_getElem
      · simp
      · intro i h1 h2
        simp only [List.length_map,List.length_range] at h1
        rw[List.getElem_map,List.getElem_range,Tr.qe5 20 f.t d i v (Nat.lt_of_lt_of_le (Nat.succ_lt_succ hd) (by unfold TF.ok qln at h;omega)),List.getElem_set]
        by_cases hi:i=d
        · subst hi;simp
        · rw[if_neg hi,if_neg (Ne.symm hi)];simp
    | false =>
      have hd:¬ d<f.len:=fun hlt=>by
        have:Nat.blt d f.len=true:=Nat.ble_eq_true_of_le hlt
        rw[this] at hd;cases hd
      simp only [TF.abs,Fm.put]
      congr 1
      exact(List.set_eq_of_length_le (by simpa using hd)).symm
def TF.at (f:TF)(d:Nat):AV:=match Nat.blt d f.len with
  | true=>f.t.get d
  | false=>qb3
theorem TF.at_eq (f:TF)(d:Nat):f.abs.ts.getD d qb3=f.at d:=by
  unfold TF.at TF.abs
  cases hd:Nat.blt d f.len with
  | true =>
    have hd:d<f.len:=Nat.le_of_ble_eq_true hd
    simp[List.getD_eq_getElem?_getD,hd]
  | false =>
    have hd:¬ d<f.len:=fun hlt=>by
      have:Nat.blt d f.len=true:=Nat.ble_eq_true_of_le hlt
      rw[this] at hd;cases hd
    simp only [List.getD_eq_getElem?_getD]
    rw[List.getElem?_eq_none (by simpa using hd)]
    rfl
def TF.av (f:TF):Operand→AV
  | .tmp t=>f.at t
  | .const v=>ofV v
  | .global g=>.lit (.pointer (some ⟨g,0,none⟩))
  | .func g=>.fn (.func g) [] []
theorem TF.qo7 (f:TF):Operand.av f.abs.ts=f.av:=by
  funext x
  cases x with
  | tmp t=>exact f.at_eq t
  | _=>rfl
def TF.y (ops:Array Oper)(f:TF)(j:Nat):Option Bool :=
  match (ops[j]?).bind (·.dst) with
  | none=>none
  | some d=>match Nat.blt d f.len with
    | true=>match f.t.get d with
      | .lit (.bool b)=>some b
      | _=>none
    | false=>none
theorem TF.y_eq (ops:Array Oper)(f:TF):yA ops f.abs.ts=f.y ops:=by
  funext j
  unfold yA TF.y
  cases hd:(ops[j]?).bind (·.dst) with
  | none=>rfl
  | some d =>
    simp only [Option.bind_some]
    cases hb:Nat.blt d f.len with
    | true =>
      have hlt:d<f.len:=Nat.le_of_ble_eq_true hb
      have:f.abs.ts[d]?=some (f.t.get d):=by simp[TF.abs,hlt]
      rw[this]
      simp only
      split
      · rename_i b hq;simp only [Option.some.injEq] at hq;rw[hq]
      · rename_i hq
        split
        · rename_i b hq2;exact absurd (by rw[hq2]) (hq b)
        · rfl
    | false =>
      have hlt:¬ d<f.len:=fun hlt=>by
        have:Nat.blt d f.len=true:=Nat.ble_eq_true_of_le hlt
        rw[this] at hb;cases hb
      have:f.abs.ts[d]?=none:=List.getElem?_eq_none (by simpa[TF.abs] using hlt)
      rw[this]
def Tr.fill:Nat→List AV→Tr→Tr
  | _,[],t=>t
  | i,v::l,t=>Tr.fill (i+1) l (Tr.set 20 t i v)
theorem Tr.qmr:∀ (l:List AV)(i:Nat)(t:Tr)(j:Nat),i+l.length≤qln→(Tr.fill i l t).get j=if i≤j∧j<i+l.length then l.getD (j - i) qb3 else t.get j
  | [],i,t,j,_=>by
    rw[if_neg (by simp)];rfl
  | v::l,i,t,j,h=>by
    simp only [List.length_cons] at h
    simp only [Tr.fill]
    rw[Tr.qmr l (i+1) _ j (by omega),Tr.qe5 20 t i j v (by unfold qln at h;omega)]
    simp only [List.length_cons]
    by_cases hj:j=i
    · subst hj
      rw[if_neg (by omega),if_pos rfl,if_pos (by omega)]
      simp
    · by_cases h2:i+1≤j∧j<i+1+l.length
      · rw[if_pos h2,if_pos (by omega)]
        have:j - i=(j - (i+1))+1:=by omega
        rw[this];simp
      · rw[if_neg h2,if_neg hj,if_neg (by omega)]
def TF.of (l:List AV)(n:Nat):TF:=⟨Tr.fill 0 l .nil,max l.length n,[]⟩
theorem TF.abs_of {l:List AV}{n:Nat}(h:max l.length n≤qln):(TF.of l n).abs=⟨l++List.replicate (n - l.length) qb3,[]⟩:=by
  unfold TF.of TF.abs
  simp only
  congr 1
  apply List.ext_getElem
  · simp;omega
  · intro i h1 h2
    simp only [List.length_map,List.length_range] at h1
    rw[List.getElem_map,List.getElem_range,Tr.qmr l 0 .nil i (by omega)]
    by_cases hi:i<l.length
    · rw[if_pos (by omega),List.getElem_append_left hi]
      simp[List.getD_eq_getElem?_getD,hi]
    · rw[if_neg (by omega),List.getElem_append_right (by omega)]
      simp[Tr.get]
end Go.Ev
namespace Go.Ev
section
variable {P:Program}{T:Ti}{X:St→(Operand→AV)→Oper→Option (List (AV × St))}{call:qcy}
def qhc (ops:Array Oper)(f:TF)(o:Oper):Bool:=match o.guard with
  | none=>true
  | some _=>Region.wanted o (f.y ops)
theorem qlv (ops:Array Oper)(f:TF)(o:Oper):Region.wanted o (yA ops f.abs.ts)=qhc ops f o:=by
  rw[TF.y_eq]
  unfold qhc
  cases hg:o.guard with
  | none=>unfold Region.wanted;rw[hg]
  | some g=>rfl
variable (T) in
def lightT (ops:Array Oper)(h:Hp)(f:TF)(o:Oper):Option AV:=match qhc ops f o with
  | true=>evG T h f.av o
  | false=>some qb3
theorem qhl {ops:Array Oper}{h:Hp}{f:TF}{i:Nat}{o:Oper}(ho:ops[i]?=some o):lightV T ops h f.abs i=lightT T ops h f o:=by
  unfold lightV lightT
  simp only [ho,qlv,TF.qo7]
  cases qhc ops f o <;> rfl
variable (T X call) in
def evOps2 (ops:Array Oper):List Oper→TF→St→Option (List (TF × St))
  | [],f,st=>some [(f,st)]
  | o::l,f,st=>match lightT T ops st.h f o with
    | some r=>evOps2 ops l (f.put o.dst r) st
    | none=>match qhh o&&qhc ops f o with
      | true=>match heavy T X call st f.av o with
        | some outs=>bindL outs fun x=>evOps2 ops l (f.put o.dst x.1) x.2
        | none=>none
      | false=>none
theorem qj8 (hT:TOk P T)(hX:XOk P X)(hc:qhv P call){rd:Option Nat}{ops:Array Oper}{K:Fm→St→Prop}:∀ (l:List Oper)(i:Nat){f:TF}{st:St}{outs:List (TF × St)},f.ok→l=ops.toList.drop i→evOps2 T X call ops l f st=some outs→(∀ x∈outs,x.1.ok→K x.1.abs x.2) →
    qac P rd ops (List.range' i l.length) K f.abs st
  | [],i,f,st,outs,hf,hl,h,hk=>by
    simp only [evOps2,Option.some.injEq] at h
    subst h
    exact .nil (hk (f,st) (List.mem_singleton.2 rfl) hf)
  | o::l,i,f,st,outs,hf,hl,h,hk=>by
    have ho:ops[i]?=some o:=by
      have h1:(ops.toList.drop i)[0]?=some o:=by rw[←hl];rfl
      rw[List.getElem?_drop] at h1
      simpa using h1
    have hl':l=ops.toList.drop (i+1):=by
      have h1:(ops.toList.drop i).drop 1=l:=by rw[←hl];rfl
      rw[←h1,List.drop_drop]
    rw[List.length_cons,List.range'_succ]
    simp only [evOps2] at h
    split at h
    · rename_i r hr
      rw[←qhl ho] at hr
      refine qac.lightV hT ho hr ?_
      rw[←TF.qio hf]
      exact qj8 hT hX hc l (i+1) (TF.qk4 hf _ _) hl' h hk
    · split at h
      · rename_i hb
        simp only [Bool.and_eq_true] at hb
        split at h
        · rename_i os hos
          rw[←TF.qo7] at hos
          refine qac.cons ho (qod hb.1) ((qqp hT hX hc ho (by rw[qlv];exact hb.2) hos).mono fun f' st' ⟨v,hf',hm⟩=>?_)
          subst hf'
          obtain⟨x,h1,h2⟩:=qc5 h (v,st') hm
          rw[←TF.qio hf]
          exact qj8 hT hX hc l (i+1) (TF.qk4 hf _ _) hl' h1 fun y hy=>hk y (h2 y hy)
        · cases h
      · cases h
def qej (es:List Nat):Nat:=es.foldr (fun e m=>(1 <<< e) ||| m) 0
theorem qez:∀ (es:List Nat)(i:Nat),(qej es).testBit i=decide (i∈es)
  | [],i=>by simp[qej]
  | e::es,i=>by
    have ih:=qez es i
    unfold qej at *
    rw[List.foldr_cons,Nat.testBit_or,ih,Nat.one_shiftLeft,Nat.testBit_two_pow]
    by_cases h:e=i
    · subst h;simp
    · by_cases h2:i∈es <;> simp[h,h2,Ne.symm h]
theorem quk {es:List Nat}{L:Nat}:Nat.beq (Nat.land (qej es) L) (qej es)=es.all fun e=>L.testBit e:=by
  have h1:Nat.beq (Nat.land (qej es) L) (qej es)=true↔(es.all fun e=>L.testBit e)=true:=by
    rw[show(Nat.beq (Nat.land (qej es) L) (qej es)=true)=(Nat.land (qej es) L=qej es) from propext ⟨Nat.eq_of_beq_eq_true,fun h=>by rw[h];exact Nat.beq_refl _⟩,List.all_eq_true]
    constructor
    · intro h e he
      have:(Nat.land (qej es) L).testBit e=(qej es).testBit e:=by rw[h]
      rw[show Nat.land (qej es) L=qej es &&& L from rfl,Nat.testBit_and,qez] at this
      simpa[he] using this
    · intro h
      apply Nat.eq_of_testBit_eq
      intro i
      rw[show Nat.land (qej es) L=qej es &&& L from rfl,Nat.testBit_and,qez]
      by_cases hi:i∈es
      · simp[hi,h i hi]
      · simp[hi]
  cases h2:Nat.beq (Nat.land (qej es) L) (qej es) with
  | true=>exact(h1.1 h2).symm
  | false =>
    cases h3:es.all fun e=>L.testBit e with
    | true=>rw[h1.2 h3] at h2;cases h2
    | false=>rfl
def freeB (ops:Array Oper)(M:List Nat)(i:Nat)(o:Oper):Bool:=match o.dst with
  | none=>true
  | some d=>(List.range ops.size).all fun j=>j == i||match ops[j]? with
    | some q=>!((q.looksAt ops).contains d)||(M.getD j 0).testBit i
    | none=>true
structure En where
  i:Nat
  o:Oper
  em:Nat
  fr:Bool
def infoAt (ops:Array Oper)(M:List Nat)(i:Nat):Option En:=(ops[i]?).map fun o=>⟨i,o,qej (qa8 o),freeB ops M i o⟩
def qks (ops:Array Oper)(M:List Nat):List En:=(List.range ops.size).filterMap (infoAt ops M)
def qrn (L:Nat)(x:En):Bool:=Nat.beq (Nat.land x.em L) x.em
structure Inv (ops:Array Oper)(M:List Nat)(listed:Array Bool)(un:List En)(L:Nat):Prop where
  un:un=(qks ops M).filter fun x=>!(listed.getD x.i true)
  size:listed.size=ops.size
  bits:∀ i,L.testBit i=listed.getD i false
theorem qcw {ops:Array Oper}{M:List Nat}{i:Nat}{x:En}(h:infoAt ops M i=some x):x.i=i∧ops[i]?=some x.o∧x.em=qej (qa8 x.o)∧x.fr=freeB ops M i x.o:=by
  unfold infoAt at h
  cases ho:ops[i]? with
  | none=>rw[ho] at h;cases h
  | some o=>rw[ho] at h;cases h;exact⟨rfl,rfl,rfl,rfl⟩
theorem qj6 {α β:Type}{g:α→Option β}{r:α→Bool}{p:β→Bool}{fst:β→α}:∀ (l:List α),(∀ a∈l,match g a with | some x=>r a=p x∧fst x=a | none=>r a=false)→l.filter r=((l.filterMap g).filter p).map fst
  | [],_=>rfl
  | a::l,h=>by
    have ha:=h a List.mem_cons_self
    have ih:=qj6 l fun b hb=>h b (List.mem_cons_of_mem _ hb)
    cases hg:g a with
    | none =>
      rw[hg] at ha
      rw[List.filter_cons,List.filterMap_cons,hg]
      simp only at ha
      simp only [ha,Bool.false_eq_true,if_false]
      exact ih
    | some x =>
      rw[hg] at ha
      simp only at ha
      rw[List.filter_cons,List.filterMap_cons,hg]
      simp only
      rw[List.filter_cons,ha.1]
      cases p x with
      | true=>simp only [if_true,List.map_cons,ha.2,ih]
      | false=>simp only [Bool.false_eq_true,if_false,ih]
theorem Inv.ready {ops:Array Oper}{M:List Nat}{listed:Array Bool}{un:List En}{L:Nat}(h:Inv ops M listed un L):Region.ready .any ops listed=(un.filter (qrn L)).map (·.i):=by
  rw[h.un,List.filter_filter]
  unfold qks Region.ready
  refine qj6 _ fun i hi=>?_
  cases hx:infoAt ops M i with
  | none =>
    unfold infoAt at hx
    cases ho:ops[i]? with
    | none=>simp
    | some o=>rw[ho] at hx;cases hx
  | some x =>
    obtain⟨h1,h2,h3,_⟩:=qcw hx
    simp only
    refine⟨?_,h1⟩
    rw[h2,h1]
    simp only [Option.map_some,Option.getD_some]
    unfold qrn
    rw[h3,quk,Bool.and_comm]
    congr 1
    rw[Bool.eq_iff_iff,List.all_eq_true,Array.all_eq_true_iff_forall_mem]
    constructor
    · intro hA e he
      obtain⟨y,hy,hb,rfl⟩:=qdo.1 he
      have:=hA y hy
      simp only [hb,Bool.not_true,Bool.false_or] at this
      rw[h.bits];exact this
    · intro hA y hy
      cases hb:Region.binds .any y with
      | false=>simp
      | true =>
        have:=hA y.on (qdo.2 ⟨y,hy,hb,rfl⟩)
        rw[h.bits] at this
        simp[this]
def qkd (i:Nat)(un:List En):List En:=un.filter fun x=>!(Nat.beq x.i i)
theorem Inv.set {ops:Array Oper}{M:List Nat}{listed:Array Bool}{un:List En}{L:Nat}(h:Inv ops M listed un L){i:Nat}(hi:i<ops.size):Inv ops M (listed.setIfInBounds i true) (qkd i un) (Nat.lor (1 <<< i) L):=by
  have hi':i<listed.size:=by rw[h.size];exact hi
  refine⟨?_,by simp[h.size],fun j=>?_⟩
  · unfold qkd
    rw[h.un,List.filter_filter]
    refine List.filter_congr fun x _=>?_
    by_cases hx:x.i=i
    · subst hx
      simp[hi']
    · have:Nat.beq x.i i=false:=by
        cases hb:Nat.beq x.i i with
        | false=>rfl
        | true=>exact absurd (Nat.eq_of_beq_eq_true hb) hx
      rw[this,getD_set_ne true (Ne.symm hx)]
      simp
  · rw[show Nat.lor (1 <<< i) L=1 <<< i ||| L from rfl,Nat.testBit_or,Nat.one_shiftLeft,Nat.testBit_two_pow,h.bits]
    by_cases hij:i=j
    · subst hij;simp[hi']
    · rw[getD_set_ne false hij];simp[hij]
variable (T) in
def pendOkT (ops:Array Oper)(qag:List (Nat × AV))(f:TF)(h:Hp):Bool:=qag.all fun p=>match ops[p.1]? with
  | none=>false
  | some o=>match lightT T ops h f o with
    | some r=>avEq r p.2
    | none=>false
theorem qes {ops:Array Oper}{qag:List (Nat × AV)}{f:TF}{h:Hp}(hp:pendOkT T ops qag f h=true):qbj T ops qag f.abs h:=fun p hm=>by
  have:=List.all_eq_true.1 hp p hm
  split at this
  · cases this
  · rename_i o ho
    rw[qhl ho]
    split at this
    · rename_i r hr;rw[hr,qg9 this]
    · cases this
variable (T) in
def pickE (ops:Array Oper)(L:Nat)(h:Hp)(f:TF):List En→Option (En × AV)
  | []=>none
  | x::l=>match x.fr&&qrn L x with
    | false=>pickE ops L h f l
    | true=>match lightT T ops h f x.o with
      | some r=>some (x,r)
      | none=>pickE ops L h f l
theorem pickE_ok {ops:Array Oper}{L:Nat}{h:Hp}{f:TF}{x:En}{r:AV}:∀ {l:List En},pickE T ops L h f l=some (x,r)→x∈l.filter (qrn L)∧x.fr=true∧lightT T ops h f x.o=some r:=by
  intro l
  induction l with
  | nil=>intro hp;cases hp
  | cons y l ih =>
    intro hp
    have later:pickE T ops L h f l=some (x,r)→x∈(y::l).filter (qrn L)∧x.fr=true∧lightT T ops h f x.o=some r:=fun h1=>by
      obtain⟨h2,h3⟩:=ih h1
      refine⟨?_,h3⟩
      rw[List.mem_filter] at *
      exact⟨List.mem_cons_of_mem _ h2.1,h2.2⟩
    unfold pickE at hp
    split at hp
    · exact later hp
    · rename_i hb
      simp only [Bool.and_eq_true] at hb
      split at hp
      · rename_i r' hr
        simp only [Option.some.injEq,Prod.mk.injEq] at hp
        obtain⟨rfl,rfl⟩:=hp
        exact⟨List.mem_filter.2 ⟨List.mem_cons_self,hb.2⟩,hb.1,hr⟩
      · exact later hp
variable (T X call) in
def evDrawn2 (ops:Array Oper)(M:List Nat):Nat→List (Nat × AV)→List En→Nat→TF→St→Option (List (TF × St))
  | 0,qag,un,L,f,st=>match pendOkT T ops qag f st.h&&(un.filter (qrn L)).isEmpty with
    | true=>some [(f,st)]
    | false=>none
  | fuel+1,qag,un,L,f,st =>
    match pickE T ops L st.h f un with
    | some (x,r)=>evDrawn2 ops M fuel ((x.i,r)::qag) (qkd x.i un) (Nat.lor (1 <<< x.i) L) (f.put x.o.dst r) st
    | none=>match pendOkT T ops qag f st.h with
      | false=>none
      | true=>match un.filter (qrn L) with
        | []=>some [(f,st)]
        | y::ys=>bindL (y::ys) fun x=>match lightT T ops st.h f x.o with
          | some r=>evDrawn2 ops M fuel (qbv M x.i qag) (qkd x.i un) (Nat.lor (1 <<< x.i) L) (f.put x.o.dst r) st
          | none=>match qhc ops f x.o with
            | true=>match heavy T X call st f.av x.o with
              | some outs=>bindL outs fun z=>evDrawn2 ops M fuel (qbv M x.i qag) (qkd x.i un) (Nat.lor (1 <<< x.i) L) (f.put x.o.dst z.1) z.2
              | none=>none
            | false=>none
theorem Inv.mem {ops:Array Oper}{M:List Nat}{listed:Array Bool}{un:List En}{L:Nat}(h:Inv ops M listed un L){x:En}(hx:x∈un.filter (qrn L)):x.i∈Region.ready .any ops listed∧ops[x.i]?=some x.o∧x.fr=freeB ops M x.i x.o:=by
  refine⟨by rw[h.ready];exact List.mem_map_of_mem hx,?_⟩
  have h1:=(List.mem_filter.1 hx).1
  rw[h.un] at h1
  have h2:=(List.mem_filter.1 h1).1
  unfold qks at h2
  rw[List.mem_filterMap] at h2
  obtain⟨i,_,h3⟩:=h2
  obtain⟨h4,h5,_,h6⟩:=qcw h3
  rw[h4]
  exact⟨h5,h6⟩
theorem qi6 {ops:Array Oper}{M:List Nat}(hM:Tidy ops M){listed:Array Bool}{qag:List (Nat × AV)}{i:Nat}{o:Oper}(ho:ops[i]?=some o)(hc:qbu ops listed)(hpl:PL qag listed)(hr:i∈Region.ready .any ops listed)(h:freeB ops M i o=true) :
    ∀ p∈qag,∀ q,ops[p.1]?=some q→∀ d,o.dst=some d→d∉q.looksAt ops:=fun p hp q hq d hd hm=>by
  unfold freeB at h
  rw[hd] at h
  obtain⟨_,_,h0,_⟩:=qa9 hr
  have h1:=List.all_eq_true.1 h p.1 (List.mem_range.2 (Array.getElem?_eq_some_iff.1 hq).1)
  simp only [hq,Bool.or_eq_true,beq_iff_eq,Bool.not_eq_true'] at h1
  rcases h1 with h1 | h1 | h1
  · have:=hpl p hp
    rw[h1,qct h0] at this;cases this
  · rw[List.contains_iff_mem.2 hm] at h1;cases h1
  · have:=qbu.anc hM hc (Array.getElem?_eq_some_iff.1 ho).1 p.1 q hq (hc p.1 q hq (hpl p hp)) h1
    rw[qct h0] at this;cases this
theorem Inv.start (ops:Array Oper)(M:List Nat):Inv ops M (Array.replicate ops.size false) (qks ops M) 0:=by
  refine⟨?_,by simp,fun i=>?_⟩
  · symm
    rw[List.filter_eq_self]
    intro x hx
    unfold qks at hx
    rw[List.mem_filterMap] at hx
    obtain⟨i,h1,h2⟩:=hx
    rw[(qcw h2).1]
    simp[List.mem_range.1 h1]
  · simp only [Nat.zero_testBit,Array.getD_eq_getD_getElem?,Array.getElem?_replicate]
    split <;> rfl
end
end Go.Ev
