/- Own work of the verifier of watercress: EvU, EvY, EvKo, EvKw, EvKg, EvAA, EvBB, EvKp, EvKx, EvLa. -/
import Derived.Test.YtpefamheopplnaaMc5
import Derived.Test.YtpefamheopplnaaMc4
set_option linter.unusedVariables false
set_option linter.unusedSimpArgs false
namespace Go.Ev
section
variable {P:Program}{T:Ti}
def itOf (st:St)(a:AV):Option (Nat × Nat × Nat × List Nat × Nat):=match a with
 | .ptr rid 0=>match st.h.get rid with
  | some (.iter mid since seen last)=>some (rid,mid,since,seen,last)
  | _=>none
 | _=>none
theorem Pu {φ:Fi}{st:St}{w:World}{a:AV}{u:Value}{rid mid since last:Nat}{seen:List Nat}(hr:Rel φ st w)(ha:VR φ a u)(h:itOf st a=some (rid,mid,since,seen,last)) :
  u=.pointer (some ⟨(φ.f rid).b,0,none⟩)∧st.h.get rid=some (.iter mid since seen last)∧w.heap[(φ.f rid).b]?=some (.mapIter (some (φ.f mid).b) since seen.toArray last)∧(φ.f rid).o=0∧mid<φ.n:=by
 unfold itOf at h
 split at h
 ·rename_i rid'
  split at h
  ·rename_i mid' since' seen' last' ho
   cases h
   obtain⟨h1,h2⟩:=ha.Dn
   obtain⟨h3,h4,h5⟩:=hr.obj _ _ ho
   exact⟨by rw[h1,h4],ho,h3,h4,h5⟩
  ·cases h
 ·cases h
def Ej (es:List (AV × AV × Nat)):Bool:=decide ((es.map fun x=>x.2.2).Nodup)
variable (P T) in
def xMap (KT:List TypeId)(st:St)(ρ:Operand→AV)(o:Oper):Option (List (AV × St)) :=
 match o.op with
 | .makeMap _ none=>some [(.mp st.n,st.push (.map [] 0))]
 | .mapUpdate t m k v=>match mapD T t with
  | some kt=>match esOf st (ρ m) with
   | some (id,es,clock)=>if KT.contains kt&&keyB P kt (ρ k)&&es.all (fun x=>keyB P kt x.1) then
     match idxs (ρ k) 0 es with
     | []=>some [(Bx,⟨st.h.set id (.map (es++[(ρ k,ρ v,clock)]) (clock+1)),st.n⟩)]
     | [j]=>match es[j]? with
      | some x=>some [(Bx,⟨st.h.set id (.map (es.set j (ρ k,ρ v,x.2.2)) clock),st.n⟩)]
      | none=>none
     | _=>none
    else none
   | none=>none
  | none=>none
 | .range t x=>match mapD T t with
  | some _=>match esOf st (ρ x) with
   | some (id,_,clock)=>some [(.ptr st.n 0,st.push (.iter id clock [] clock))]
   | none=>none
  | none=>none
 | .next it false=>match itOf st (ρ it) with
  | some (rid,mid,since,seen,last)=>match esOf st (.mp mid) with
   | some (_,es,clock)=>if es.all (fun x=>Nat.blt x.2.2 since)&&Nat.ble since last then
     match es.filter (fun x=>!(seen.contains x.2.2)) with
     | []=>some [(.tup [.lit (.bool false)],st)]
     | y::ys=>some ((y::ys).map fun x=>(.tup [.lit (.bool true),x.1,x.2.1],⟨st.h.set rid (.iter mid since (seen++[x.2.2]) clock),st.n⟩))
    else none
   | none=>none
  | none=>none
 | .entry it=>match itOf st (ρ it) with
  | some (_,mid,_,seen,last)=>match esOf st (.mp mid),seen.getLast? with
   | some (_,es,clock),some s=>if Nat.beq clock last&&Ej es then
     match es.filter (fun x=>Nat.beq x.2.2 s) with
     | [x]=>some [(.tup [x.1,x.2.1],st)]
     | _=>none
    else none
   | _,_=>none
  | none=>none
 | _=>none
theorem Tk {hT:TOk P T}{φ:Fi}{st:St}{w:World}{t kt:TypeId}{a:AV}{u:Value}{id clock:Nat}{es:List (AV × AV × Nat)}(hr:Rel φ st w)(ha:VR φ a u)(hd:mapD T t=some kt)(h:esOf st a=some (id,es,clock)) :
  ∃ φ' w' v,(Instr.range t u).run P w=.ok v w'∧VR φ' (.ptr st.n 0) v∧Rel φ' (st.push (.iter id clock [] clock)) w'∧Ext φ φ'∧Fr φ st w φ' (st.push (.iter id clock [] clock)) w':=by
 obtain⟨e,hu⟩:=Pq hT hd
 obtain⟨rfl,hid,ho,ces,hb,hsz,hes⟩:=Ia hr ha h
 have hrun:=run_range_map (P:=P) w t kt e (φ.f id).b ces clock hu hb
 have hp:=hr.push (.mapIter (some (φ.f id).b) clock #[] clock) (.iter id clock [] clock) ⟨w.heap.size,0,0⟩ rfl (by
  refine⟨?_,by rw[Fi.Ai],by rw[Fi.Js];exact Nat.lt_succ_of_lt hid⟩
  rw[Fi.Ai,(φ.Aw _).f id hid]
  exact Bi w _)
 refine⟨_,_,_,hrun,?_,hp.1,φ.Aw _,hp.2⟩
 have hv:=VR.ptr (φ:=φ.push ⟨w.heap.size,0,0⟩) φ.n 0 (by rw[Fi.Js];omega)
 rw[Fi.Ai] at hv
 rw[←hr.n]
 exact hv
theorem Lk {φ:Fi}{es:List (AV × AV × Nat)}{ces:Array MapEntry}{seen:List Nat}(hsz:ces.size=es.length)(hes:∀ (i:Nat)(x:AV × AV × Nat),es[i]?=some x→∃ e,ces[i]?=some e∧VR φ x.1 e.key∧VR φ x.2.1 e.val∧e.born=x.2.2){e:MapEntry}(he:e∈ces.toList) :
  ∃ x∈es,VR φ x.1 e.key∧VR φ x.2.1 e.val∧e.born=x.2.2:=by
 obtain⟨i,hi,he2⟩:=List.getElem_of_mem he
 have hil:i<es.length:=by rw[←hsz];simpa using hi
 obtain⟨e',h1,h2,h3,h4⟩:=hes i es[i] (List.getElem?_eq_getElem hil)
 have:e'=e:=by
  rw[←Array.getElem?_toList,List.getElem?_eq_getElem hi,he2] at h1
  exact(Option.some.inj h1).symm
 subst this
 exact⟨es[i],List.getElem_mem hil,h2,h3,h4⟩
theorem Kg {φ:Fi}{es:List (AV × AV × Nat)}{ces:Array MapEntry}(hes:∀ (i:Nat)(x:AV × AV × Nat),es[i]?=some x→∃ e,ces[i]?=some e∧VR φ x.1 e.key∧VR φ x.2.1 e.val∧e.born=x.2.2){x:AV × AV × Nat}(hx:x∈es) :
  ∃ e∈ces.toList,VR φ x.1 e.key∧VR φ x.2.1 e.val∧e.born=x.2.2:=by
 obtain⟨i,hi,rfl⟩:=List.getElem_of_mem hx
 obtain⟨e,h1,h2⟩:=hes i _ (List.getElem?_eq_getElem hi)
 rw[←Array.getElem?_toList] at h1
 exact⟨e,List.mem_of_getElem? h1,h2⟩
theorem Si {φ:Fi}{st:St}{w:World}{ty:TypeId}{a:AV}{u:Value}{rid mid since last id clock:Nat}{seen:List Nat}{es:List (AV × AV × Nat)}(hr:Rel φ st w)(ha:VR φ a u)(h:itOf st a=some (rid,mid,since,seen,last))(he:esOf st (.mp mid)=some (id,es,clock))
  (hc:(es.all (fun x=>Nat.blt x.2.2 since)&&Nat.ble since last)=true) :
  ((es.filter fun x=>!(seen.contains x.2.2))=[]∧(Instr.next u false ty).run P w=.ok (.tuple #[.bool false]) w) ∨
  ∃ x∈(es.filter fun x=>!(seen.contains x.2.2)),∃ w' v,(Instr.next u false ty).run P w=.ok v w'∧VR φ (.tup [.lit (.bool true),x.1,x.2.1]) v ∧
   Rel φ ⟨st.h.set rid (.iter mid since (seen++[x.2.2]) clock),st.n⟩ w'∧Fr φ st w φ ⟨st.h.set rid (.iter mid since (seen++[x.2.2]) clock),st.n⟩ w':=by
 obtain⟨rfl,ho,hit,h0,hmid⟩:=Pu hr ha h
 obtain⟨hu,hid,hom,ces,hb,hsz,hes⟩:=Ia hr (VR.mp mid hmid) he
 have hbb:(φ.f id).b=(φ.f mid).b:=by simp only [Value.map.injEq,Option.some.injEq] at hu;exact hu.symm
 rw[hbb] at hb
 simp only [Bool.and_eq_true] at hc
 have hold:∀ x∈ces.toList,x.born<since:=fun e hem=>by
  obtain⟨x,hx,_,_,h4⟩:=Lk (seen:=[]) hsz hes hem
  rw[h4]
  exact Nat.le_of_ble_eq_true (List.all_eq_true.1 hc.1 x hx)
 rcases run_next_at (P:=P) w ty (φ.f rid).b (φ.f mid).b since last seen.toArray ces clock hit hb hold (Nat.le_of_ble_eq_true hc.2) with ⟨h1,h2⟩|⟨e,hel,w1,hw1,hrun⟩
 ·left
  refine⟨?_,h2⟩
  rw[List.filter_eq_nil_iff]
  intro x hx hns
  obtain⟨e,hem,_,_,h4⟩:=Kg hes hx
  have h5:leftOf ces seen.toArray=#[]:=Array.eq_empty_of_size_eq_zero h1
  unfold leftOf at h5
  rw[Array.filter_eq_empty_iff] at h5
  have:=h5 e (Array.mem_toList_iff.1 hem)
  rw[h4] at this
  simp at this hns
  exact hns this
 ·right
  unfold leftOf at hel
  have hel2:e∈ces.toList∧seen.contains e.born=false:=by simpa using hel
  obtain⟨x,hx,h2,h3,h4⟩:=Lk (seen:=[]) hsz hes hel2.1
  refine⟨x,List.mem_filter.2 ⟨hx,by rw[←h4];show(!seen.contains e.born)=true;rw[hel2.2];rfl⟩,_,_,hrun,?_,?_⟩
  ·exact .tup (us:=[.bool true,e.key,e.val]) (.cons (.lit _) (.cons h2 (.cons h3 .nil)))
  ·have:=Gx (o':=.iter mid since (seen++[x.2.2]) clock) hr ho rfl rfl (.mapIter (some (φ.f mid).b) since (seen.toArray.push e.born) clock) w1 hw1 (fun w' hw'=>⟨by rw[hw',h4];simp,h0,hmid⟩)
   exact this
theorem Qa {φ:Fi}{st:St}{w:World}{a:AV}{u:Value}{rid mid since last id clock s:Nat}{seen:List Nat}{es:List (AV × AV × Nat)}{x:AV × AV × Nat}(hr:Rel φ st w)(ha:VR φ a u)(h:itOf st a=some (rid,mid,since,seen,last))(he:esOf st (.mp mid)=some (id,es,clock))
  (hs:seen.getLast?=some s)(hc:(Nat.beq clock last&&Ej es)=true)(hf:es.filter (fun x=>Nat.beq x.2.2 s)=[x]) :
  ∃ v,(Instr.entry u).run P w=.ok v w∧VR φ (.tup [x.1,x.2.1]) v:=by
 obtain⟨rfl,ho,hit,h0,hmid⟩:=Pu hr ha h
 obtain⟨hu,hid,hom,ces,hb,hsz,hes⟩:=Ia hr (VR.mp mid hmid) he
 have hbb:(φ.f id).b=(φ.f mid).b:=by simp only [Value.map.injEq,Option.some.injEq] at hu;exact hu.symm
 rw[hbb] at hb
 simp only [Bool.and_eq_true,Ej,decide_eq_true_eq] at hc
 have hcl:=Nat.eq_of_beq_eq_true hc.1
 have hxm:x∈es.filter (fun x=>Nat.beq x.2.2 s):=by rw[hf];simp
 rw[List.mem_filter] at hxm
 have hxs:=Nat.eq_of_beq_eq_true hxm.2
 obtain⟨e,hem,h2,h3,h4⟩:=Kg hes hxm.1
 have hborns:ces.toList.map (·.born)=es.map fun x=>x.2.2:=by
  apply List.ext_getElem
  ·simp[hsz]
  ·intro i h1 h2
   simp only [List.length_map] at h1 h2
   obtain⟨e,k1,_,_,k4⟩:=hes i es[i] (List.getElem?_eq_getElem h2)
   rw[List.getElem_map,List.getElem_map,←k4]
   rw[←Array.getElem?_toList,List.getElem?_eq_getElem h1] at k1
   rw[Option.some.inj k1]
 have hseen:seen.toArray=seen.dropLast.toArray.push e.born:=by
  obtain⟨ys,hys⟩:=List.getLast?_eq_some_iff.1 hs
  rw[h4,hxs]
  subst hys
  simp
 have hrun:=run_entry_at (P:=P) w (φ.f rid).b (φ.f mid).b since seen.dropLast.toArray ces clock e (by rw[←hseen,hcl];exact hit) hb hem (by rw[hborns];exact hc.2)
 exact⟨_,hrun,.tup (us:=[e.key,e.val]) (.cons h2 (.cons h3 .nil))⟩
theorem gP {hT:TOk P T}{φ:Fi}{st:St}{w:World}{t kt:TypeId}{a k v:AV}{u ku vu:Value}{id clock:Nat}{es:List (AV × AV × Nat)}{outs:List (AV × St)}(hK:Maps.Keyed P kt)(hr:Rel φ st w)(ha:VR φ a u)(hku:VR φ k ku)(hvu:VR φ v vu)(hd:mapD T t=some kt)(h:esOf st a=some (id,es,clock))
  (hc:(keyB P kt k&&es.all (fun x=>keyB P kt x.1))=true)
  (ho:(match idxs k 0 es with
   | []=>some [(Bx,(⟨st.h.set id (.map (es++[(k,v,clock)]) (clock+1)),st.n⟩:St))]
   | [j]=>match es[j]? with
    | some x=>some [(Bx,⟨st.h.set id (.map (es.set j (k,v,x.2.2)) clock),st.n⟩)]
    | none=>none
   | _=>none)=some outs) :
  ∃ st' w',(Bx,st')∈outs∧(Instr.mapUpdate t u ku vu).run P w=.ok () w'∧Rel φ st' w'∧Fr φ st w φ st' w':=by
 obtain⟨e,hu⟩:=Pq hT hd
 obtain⟨rfl,hid,hom,ces,hb,hsz,hes⟩:=Ia hr ha h
 simp only [Bool.and_eq_true] at hc
 have hkey:∀ {b:AV}{bu:Value},keyB P kt b=true→VR φ b bu→valK b=some bu∧∃ l,keyOf P kt bu=some l:=fun {b bu} h1 h2=>by
  unfold keyB at h1
  split at h1
  ·rename_i v' hv'
   have:=Sa h2 hv'
   subst this
   exact⟨hv',Option.isSome_iff_exists.1 h1⟩
  ·cases h1
 obtain⟨hkv,lx,hlx⟩:=hkey hc.1 hku
 have hall:∀ e∈ces.toList,∃ l,keyOf P kt e.key=some l:=fun e he=>by
  obtain⟨x,hx,h2,_,_⟩:=Lk (seen:=[]) hsz hes he
  exact(hkey (List.all_eq_true.1 hc.2 x hx) h2).2
 have hfind:=hK.find w hlx ces.toList hall
 have hcheck:=hK.check w false hlx
 have hst:st.h.get id=some (.map es clock):=hom
 rcases hfind with ⟨hrun,hne⟩|⟨j,e0,hrun,hj,hje⟩
 ·
  have hnil:idxs k 0 es=[]:=by
   cases hq:idxs k 0 es with
   | nil=>rfl
   | cons i r =>
    exfalso
    obtain⟨x,h1,_,h3⟩:=Ud (show i∈idxs k 0 es by rw[hq];simp)
    obtain⟨e,hem,h4,_,_⟩:=Kg hes (List.mem_of_getElem? h1)
    have h5:=Lr h3
    rw[h5] at h4
    exact hne e hem (Sa h4 hkv)
  rw[hnil] at ho
  cases ho
  have:=Gx (o':=.map (es++[(k,v,clock)]) (clock+1)) hr hst rfl rfl (.map (ces.push { key:=ku,val:=vu,born:=clock}) (clock+1)) w (.inl rfl) (fun w' hw'=>⟨_,hw',by simp[hsz],fun i x hx=>by
   by_cases hi:i<es.length
   ·rw[List.getElem?_append_left hi] at hx
    obtain⟨e,k1,k2⟩:=hes i x hx
    exact⟨e,by rw[Array.getElem?_push_lt (by omega),←k1,Array.getElem?_eq_getElem (by omega)],k2⟩
   ·rw[List.getElem?_append_right (by omega)] at hx
    have hie:i=es.length:=by
     rcases Nat.lt_or_ge (i-es.length) 1 with h|h
     ·omega
     ·simp[List.getElem?_eq_none (show[(k,v,clock)].length≤i-es.length by simpa using h)] at hx
    subst hie
    simp only [Nat.sub_self,List.getElem?_cons_zero,Option.some.injEq] at hx
    subst hx
    exact⟨{ key:=ku,val:=vu,born:=clock},by rw[←hsz];simp,hku,hvu,rfl⟩⟩)
  refine⟨_,_,List.mem_singleton.2 rfl,?_,this.1,this.2⟩
  simp[Instr.mapUpdate,run_underlying hu,MapKept.run_getObj_map hb,hcheck,hrun,MapKept.run_setObj_map _ hb,Result.andThen]
 ·have hjl:j<es.length:=by
   have:j<ces.toList.length:=(List.getElem?_eq_some_iff.1 hj).1
   rw[←hsz];simpa using this
  have hjc:ces[j]?=some e0:=by rw[←Array.getElem?_toList];exact hj
  obtain⟨e',k1,k2,k3,k4⟩:=hes j es[j] (List.getElem?_eq_getElem hjl)
  have hee:e'=e0:=by rw[hjc] at k1;exact(Option.some.inj k1).symm
  subst hee
  have hmem:0+j∈idxs k 0 es:=Tv (List.getElem?_eq_getElem hjl) (by
   have h5:=(hkey (List.all_eq_true.1 hc.2 es[j] (List.getElem_mem hjl)) k2).1
   rw[hje] at h5
   exact eJ h5 hkv)
  rw[Nat.zero_add] at hmem
  split at ho
  ·rename_i hq;rw[hq] at hmem;cases hmem
  ·rename_i j' hq
   rw[hq] at hmem
   have:j=j':=by simpa using hmem
   subst this
   rw[List.getElem?_eq_getElem hjl] at ho
   cases ho
   have:=Gx (o':=.map (es.set j (k,v,es[j].2.2)) clock) hr hst rfl rfl (.map (ces.modify j fun e=>{ e with key:=ku,val:=vu}) clock) w (.inl rfl) (fun w' hw'=>⟨_,hw',by simp[hsz],fun i x hx=>by
    by_cases hi:i=j
    ·subst hi
     rw[List.getElem?_set_self hjl] at hx
     cases hx
     exact⟨{ e' with key:=ku,val:=vu},by simp[Array.getElem?_modify,hjc],hku,hvu,k4⟩
    ·rw[List.getElem?_set_ne (Ne.symm hi)] at hx
     obtain⟨e,q1,q2⟩:=hes i x hx
     exact⟨e,by simp[Array.getElem?_modify,Ne.symm hi,q1],q2⟩⟩)
   refine⟨_,_,List.mem_singleton.2 rfl,?_,this.1,this.2⟩
   have hstay:=hK.stays w hlx
   simp[Instr.mapUpdate,run_underlying hu,MapKept.run_getObj_map hb,hcheck,hrun,hjc,hje,hstay,MapKept.run_setObj_map _ hb,Result.andThen]
  ·cases ho
theorem eI (hT:TOk P T){KT:List TypeId}(hK:∀ k∈KT,Maps.Keyed P k):XOk P (xMap P T KT):=by
 intro rd ops i f st o outs ho hw h
 unfold xMap at h
 split at h
 ·
  rename_i t hx
  cases h
  refine Ac.Jj ho hw (fun c hc=>by rw[hx] at hc;cases hc) fun φ w a h2 h3=>?_
  have hp:=h2.push (.map #[] 0) (.map [] 0) ⟨w.heap.size,0,0⟩ rfl ⟨#[],by rw[Fi.Ai];exact Bi w _,rfl,fun i x hx=>by simp at hx⟩
  refine⟨_,_,_,_,_,List.mem_singleton.2 rfl,.inl (by simp only [execOp,hx];simp[Instr.makeMap,Sem.run_bind,Result.andThen];rfl),?_,hp.1,φ.Aw _,hp.2⟩
  have hv:=VR.mp (φ:=φ.push ⟨w.heap.size,0,0⟩) φ.n (by rw[Fi.Js];omega)
  rw[Fi.Ai] at hv
  rw[←h2.n]
  exact hv
 ·
  rename_i t m k v hx
  split at h
  ·rename_i kt hkt
   split at h
   ·rename_i id es clock hes
    split at h
    ·rename_i hc
     simp only [Bool.and_eq_true] at hc
     refine Ac.Jj ho hw (fun c hc=>by rw[hx] at hc;cases hc) fun φ w a h2 h3=>?_
     have hρ:=Bm h3.ts
     obtain⟨st',w',k1,k2,k3,k4⟩:=gP (hT:=hT) (hK kt (List.contains_iff_mem.1 hc.1.1)) h2 (hρ m) (hρ k) (hρ v) hkt hes (by simp only [Bool.and_eq_true];exact⟨hc.1.2,hc.2⟩) h
     exact⟨_,_,φ,w',undef,k1,.inr ⟨by simp[execOp,hx,k2,Result.andThen],rfl⟩,.lit _,k3,Ext.refl _,k4⟩
    ·cases h
   ·cases h
  ·cases h
 ·rename_i t x hx
  split at h
  ·rename_i kt hkt
   split at h
   ·rename_i id es clock hes
    cases h
    refine Ac.Jj ho hw (fun c hc=>by rw[hx] at hc;cases hc) fun φ w a h2 h3=>?_
    obtain⟨φ',w',u,k1,k2,k3,k4,k5⟩:=Tk (hT:=hT) h2 (Bm h3.ts x) hkt hes
    exact⟨_,_,φ',w',u,List.mem_singleton.2 rfl,.inl (by simp[execOp,hx,k1,Result.andThen]),k2,k3,k4,k5⟩
   ·cases h
  ·cases h
 ·rename_i it hx
  split at h
  ·rename_i rid mid since seen last hit
   split at h
   ·rename_i id es clock hes
    split at h
    ·rename_i hc
     refine Ac.Jj ho hw (fun c hc=>by rw[hx] at hc;cases hc) fun φ w a h2 h3=>?_
     rcases Si (P:=P) (ty:=o.type) h2 (Bm h3.ts it) hit hes hc with ⟨k1,k2⟩|⟨x,hxm,w',v,k2,k3,k4,k5⟩
     ·rw[k1] at h
      cases h
      exact⟨_,_,φ,w,_,List.mem_singleton.2 rfl,.inl (by simp[execOp,hx,k2,Result.andThen]),.tup (us:=[.bool false]) (.cons (.lit _) .nil),h2,Ext.refl _,Fr.refl _ _ _⟩
     ·split at h
      ·rename_i hq;rw[hq] at hxm;cases hxm
      ·rename_i y ys hq
       cases h
       rw[hq] at hxm
       exact⟨_,_,φ,w',v,List.mem_map_of_mem hxm,.inl (by simp[execOp,hx,k2,Result.andThen]),k3,k4,Ext.refl _,k5⟩
    ·cases h
   ·cases h
  ·cases h
 ·rename_i it hx
  split at h
  ·rename_i rid mid since seen last hit
   split at h
   ·rename_i id es clock s hes hs
    split at h
    ·rename_i hc
     split at h
     ·rename_i x hf
      cases h
      refine Ac.Jj ho hw (fun c hc=>by rw[hx] at hc;cases hc) fun φ w a h2 h3=>?_
      obtain⟨v,k1,k2⟩:=Qa (P:=P) h2 (Bm h3.ts it) hit hes hs hc hf
      exact⟨_,_,φ,w,v,List.mem_singleton.2 rfl,.inl (by simp[execOp,hx,k1,Result.andThen]),k2,h2,Ext.refl _,Fr.refl _ _ _⟩
     ·cases h
    ·cases h
   ·cases h
  ·cases h
 ·cases h
def xOr (X Y:St→(Operand→AV)→Oper→Option (List (AV × St)))(st:St)(ρ:Operand→AV)(o:Oper):Option (List (AV × St)):=match X st ρ o with
 | some r=>some r
 | none=>Y st ρ o
theorem Lv {X Y:St→(Operand→AV)→Oper→Option (List (AV × St))}(hX:XOk P X)(hY:XOk P Y):XOk P (xOr X Y):=by
 intro rd ops i f st o outs ho hw h
 unfold xOr at h
 split at h
 ·rename_i r hr;cases h;exact hX rd ops i f st o _ ho hw hr
 ·exact hY rd ops i f st o _ ho hw h
end
end Go.Ev
namespace Go.Ev
section
variable {P:Program}{T:Ti}
def xEnd (T:Ti)(st:St)(ρ:Operand→AV)(o:Oper):Option (List (AV × St)) :=
 match o.op with
 | .slice t x (some lo) none none=>match T t with
  | some i=>match i.desc with
   | .slice e=>match T e with
    | some j=>match ρ x with
     | .sl id off len sz _=>if j.size=sz∧natOf (ρ lo)=some len then some [(.sl id off 0 sz true,st),(.sl id (off+len*sz) 0 sz false,st)] else none
     | _=>none
    | none=>none
   | _=>none
  | none=>none
 | _=>none
theorem oL (hT:TOk P T):XOk P (xEnd T):=by
 intro rd ops i f st o outs ho hw h
 have hadd:∀ (b o n:Nat),Addr.add ⟨b,o,none⟩ n=⟨b,o+n,none⟩:=fun b o n=>by unfold Addr.add;split<;>simp_all
 unfold xEnd at h
 split at h
 ·rename_i t x lo hx
  split at h
  ·rename_i ti hti
   split at h
   ·rename_i e hd
    split at h
    ·rename_i j hj
     split at h
     ·rename_i id off len sz ex hxv
      split at h
      ·rename_i hc
       obtain⟨hsz,hlo⟩:=hc
       subst hsz
       cases h
       refine Ac.Jj ho hw (fun c hc=>by rw[hx] at hc;cases hc) fun φ w a h2 h3=>?_
       have hρ:=Bm h3.ts
       have hxx:=hρ x
       rw[hxv] at hxx
       obtain⟨cap,hv,hid,hcap,hex,hbnd⟩:=hxx.Dy
       have hb:=Cj (P:=P) (s:=true) (len:=len) (cap:=cap) (m:=cap) (lo:=some lo) (hi:=none) (mx:=none) hρ (by simpa[natOr] using hlo) rfl (.inl ⟨rfl,rfl⟩) (Nat.le_refl _) hcap (Nat.le_refl _) w
       simp only [Option.map_some,Option.map_none] at hb
       have hrun:(execOp a.eval o).run P w=.ok (.value (.slice (if cap=len then some ⟨(φ.f id).b,(φ.f id).o+off,none⟩ else some ⟨(φ.f id).b,(φ.f id).o+(off+len*j.size),none⟩) 0 (cap-len))) w:=by
        simp only [execOp,hx,Option.map_some,Option.map_none,Instr.sliceAt,Sem.run_bind,Ao hT hti,hd,Result.andThen,Instr.slice,hv,hb,Av hT hj,Sem.run_pure]
        by_cases hl:cap=len
        ·simp[hl]
        ·simp[hl,hadd,Nat.add_assoc]
       by_cases hl:cap=len
       ·rw[if_pos hl] at hrun
        exact⟨_,st,φ,w,_,List.mem_cons_self,.inl hrun,by
         rw[hl,Nat.sub_self]
         exact .sl id off 0 j.size true 0 hid (Nat.le_refl _) (fun _=>rfl) (by omega),h2,Ext.refl _,Fr.refl _ _ _⟩
       ·rw[if_neg hl] at hrun
        exact⟨_,st,φ,w,_,List.mem_cons_of_mem _ (List.mem_singleton.2 rfl),.inl hrun,.sl id (off+len*j.size) 0 j.size false (cap-len) hid (Nat.zero_le _) (fun h=>by cases h) (by
         have:len*j.size+(cap-len)*j.size=cap*j.size:=by rw[←Nat.add_mul];congr 1;omega
         omega),h2,Ext.refl _,Fr.refl _ _ _⟩
      ·cases h
     ·cases h
    ·cases h
   ·cases h
  ·cases h
 ·cases h
end
end Go.Ev
namespace Go.Ev
def xE (g:Nat)(o:AObj):Bool:=match o.fam with
 | some k=>Nat.beq k g
 | none=>false
def keepF (h:Hp)(g id i:Nat):Bool:=Nat.beq i id||(match h.get i with
 | some o=>!xE g o
 | none=>true)
def ownSt (st:St)(id:Nat):Option (List AV × St):=match st.h.get id with
 | some (.cells none false cs)=>some (cs,st)
 | some (.cells (some g) false cs)=>some (cs,⟨(st.Gd (keepF st.h g id)).h.set id (.cells none false cs),st.n⟩)
 | _=>none
section
variable {P:Program}{T:Ti}
theorem Vi {p:Nat→Bool}{h:Hp}{id:Nat}(hp:p id=true):Hp.get (h.filter fun x=>p x.1) id=h.get id:=by
 induction h with
 | nil=>rfl
 | cons x r ih =>
  rw[List.filter_cons]
  by_cases hx:x.1=id
  ·have:p x.1=true:=by rw[hx];exact hp
   rw[if_pos this]
   obtain⟨i,o⟩:=x
   simp only at hx
   subst hx
   simp[Hp.get]
  ·split
   ·obtain⟨i,o⟩:=x
    simp only [Hp.get] at hx ⊢
    rw[if_neg hx,if_neg hx,ih]
   ·obtain⟨i,o⟩:=x
    simp only [Hp.get] at hx ⊢
    rw[if_neg hx,ih]
theorem Oq {p:Nat→Bool}{h:Hp}{id:Nat}{o:AObj}(hg:Hp.get (h.filter fun x=>p x.1) id=some o):p id=true:=by
 induction h with
 | nil=>cases hg
 | cons x r ih =>
  rw[List.filter_cons] at hg
  split at hg
  ·rename_i hp
   obtain⟨i,y⟩:=x
   simp only [Hp.get] at hg
   split at hg
   ·rename_i hi;subst hi;exact hp
   ·exact ih hg
  ·exact ih hg
theorem dB {φ:Fi}{st st1:St}{w:World}{id:Nat}{cs:List AV}(hr:Rel φ st w)(h:ownSt st id=some (cs,st1)):Rel φ st1 w∧Fr φ st w φ st1 w∧st1.h.get id=some (.cells none false cs)∧st1.n=st.n:=by
 unfold ownSt at h
 split at h
 ·rename_i cs' ho
  cases h
  exact⟨hr,Fr.refl _ _ _,ho,rfl⟩
 ·rename_i g cs' ho
  cases h
  have hk:=hr.Gd (keepF st.h g id)
  have hpid:keepF st.h g id id=true:=by simp[keepF]
  have hid:(st.Gd (keepF st.h g id)).h.get id=some (.cells (some g) false cs):=by
   show Hp.get (st.h.filter fun x=>keepF st.h g id x.1) id=_
   rw[Vi hpid];exact ho
  have hother:∀ j oj,(st.Gd (keepF st.h g id)).h.get j=some oj→j≠id→oj.fam≠some g:=fun j oj hj hne hf=>by
   have hp:keepF st.h g id j=true:=Oq hj
   have hj':st.h.get j=some oj:=Hp.get_filter hj
   unfold keepF at hp
   rw[hj'] at hp
   have hb:Nat.beq j id=false:=by
    cases hq:Nat.beq j id with
    | false=>rfl
    | true=>exact absurd (Nat.eq_of_beq_eq_true hq) hne
   rw[hb] at hp
   simp[xE,hf] at hp
  have Bw:∀ j x,((st.Gd (keepF st.h g id)).h.set id (.cells none false cs)).get j=some x→(j=id∧x=.cells none false cs)∨(j≠id∧(st.Gd (keepF st.h g id)).h.get j=some x):=fun j x hx=>by
   rw[Hp.Hw] at hx
   split at hx
   ·rename_i hc;left;exact⟨hc.1,(Option.some.inj hx).symm⟩
   ·rename_i hc
    right
    exact⟨fun e=>hc ⟨e,by rw[hid];rfl⟩,hx⟩
  have Vh:((st.Gd (keepF st.h g id)).h.set id (.cells none false cs)).get id=some (.cells none false cs):=by
   rw[Hp.Hw,if_pos ⟨rfl,by rw[hid];rfl⟩]
  refine⟨⟨hk.n,fun j x hx=>?_,fun j x hx=>?_,fun j x hx=>?_,fun i j oi oj hi hj hij ho'=>?_⟩,⟨rfl,rfl,rfl,Nat.le_refl _,fun _ _ _=>rfl,fun k ⟨j,x,hx,hxo,hb⟩=>.inl ?_⟩,Vh,rfl⟩
  ·rcases Bw j x hx with ⟨rfl,_⟩|⟨_,h1⟩
   ·exact hk.lt _ _ hid
   ·exact hk.lt _ _ h1
  ·rcases Bw j x hx with ⟨rfl,_⟩|⟨_,h1⟩
   ·exact hk.blk _ _ hid
   ·exact hk.blk _ _ h1
  ·rcases Bw j x hx with ⟨rfl,rfl⟩|⟨_,h1⟩
   ·have:=hk.obj _ _ hid;exact this
   ·exact hk.obj _ _ h1
  ·intro hb
   rcases Bw i oi hi with ⟨rfl,rfl⟩|⟨hni,h1⟩<;>rcases Bw j oj hj with ⟨rfl,rfl⟩|⟨hnj,h2⟩
   ·exact absurd rfl hij
   ·exfalso
    obtain⟨⟨f,hf,hf2⟩,_⟩:=hk.sep _ j _ oj hid h2 hij rfl hb
    have hfg:g=f:=Option.some.inj hf
    subst hfg
    exact hother j oj h2 hnj hf2
   ·exfalso
    obtain⟨⟨f,hf,hf2⟩,_⟩:=hk.sep i _ oi _ h1 hid hij ho' hb
    have hfg:g=f:=Option.some.inj hf2
    subst hfg
    exact hother i oi h1 hni hf
   ·exact hk.sep i j oi oj h1 h2 hij ho' hb
  ·rcases Bw j x hx with ⟨rfl,rfl⟩|⟨_,h1⟩
   ·exact⟨_,_,ho,rfl,hb⟩
   ·exact⟨j,x,Hp.get_filter h1,hxo,hb⟩
 ·cases h
theorem eR {φ:Fi}{st:St}{w:World}{id off:Nat}{cs as:List AV}{vs:List Value}(hr:Rel φ st w)(ho:st.h.get id=some (.cells none false cs))(hv:VRL φ as vs)(c3:as.all AV.one=true)(c2:off+as.length≤cs.length) :
  ∃ w',(storeCells ⟨(φ.f id).b,(φ.f id).o+off,none⟩ vs).run P w=.ok () w'∧Rel φ ⟨st.h.set id (.cells none false (setsL cs off as)),st.n⟩ w'∧Fr φ st w φ ⟨st.h.set id (.cells none false (setsL cs off as)),st.n⟩ w':=by
 obtain⟨hcell,hblk⟩:=hr.obj id _ ho
 obtain⟨c,ty,hb,hcn,hcl⟩:=hblk rfl
 have hvl:=hv.length
 have hrun:=run_storeCells_at P (φ.f id).b ((φ.f id).o+off) ty vs 0 c w hb (by simp only [Nat.add_zero];omega) (hv.one c3)
 simp only [Nat.add_zero] at hrun
 refine⟨w.setRow (φ.f id).b (c.toList.take ((φ.f id).o+off)++vs++c.toList.drop ((φ.f id).o+off+vs.length)).toArray,hrun,?_⟩
 refine hr.Sq (id:=id) (o:=.cells none false cs) (o':=.cells none false (setsL cs off as)) ho rfl rfl rfl rfl rfl (setRow_size _ _ _) (fun k hk=>setRow_other w _ k _ hk) ?_
 have hcl':c.toList.length=(φ.f id).n:=by simp[hcn]
 refine⟨fun k a ha=>?_,fun _=>⟨_,ty,setRow_heap w _ c _ ty (0,0) hb,?_,by rw[Dz];exact hcl⟩⟩
 ·have hnew:∀ j,(w.setRow (φ.f id).b (c.toList.take ((φ.f id).o+off)++vs++c.toList.drop ((φ.f id).o+off+vs.length)).toArray).cell? ⟨(φ.f id).b,j,none⟩ =
    if(φ.f id).o+off≤j∧j<(φ.f id).o+off+vs.length then vs[j-((φ.f id).o+off)]? else c[j]?:=fun j=>by
   unfold World.cell?
   simp only [setRow_heap w _ c _ ty (0,0) hb]
   rw[←Array.getElem?_toList (xs:=c),←Ff c.toList vs ((φ.f id).o+off) j (by rw[hcl'];omega)]
   simp
  rw[Ie _ _ _ _ c2] at ha
  rw[hnew]
  split at ha
  ·rename_i hk
   rw[if_pos (by omega)]
   obtain⟨u,hu,hru⟩:=hv.get _ _ ha
   exact⟨u,by rw[show(φ.f id).o+k-((φ.f id).o+off)=k-off from by omega];exact hu,hru⟩
  ·rename_i hk
   rw[if_neg (by omega)]
   obtain⟨u,hu,hru⟩:=hcell k a ha
   refine⟨u,?_,hru⟩
   unfold World.cell? at hu
   simpa[hb] using hu
 ·simp only [List.size_toArray,List.length_append,List.length_take,List.length_drop,hcl']
  omega
def xSto (T:Ti)(st:St)(ρ:Operand→AV)(o:Oper):Option (List (AV × St)):=match o.op with
 | .store t p v=>match ρ p with
  | .ptr id _=>match ownSt st id with
   | some (_,st1)=>match storeA T st1 t (ρ p) (ρ v) with
    | some s=>some [(Bx,s)]
    | none=>none
   | none=>none
  | _=>none
 | _=>none
theorem oJ (hT:TOk P T):XOk P (xSto T):=by
 intro rd ops i f st o outs ho hw h
 unfold xSto at h
 split at h
 ·rename_i t p v hx
  split at h
  ·rename_i id off hp
   split at h
   ·rename_i cs st1 hown
    split at h
    ·rename_i s hs
     cases h
     refine Ac.Jj ho hw (fun c hc=>by rw[hx] at hc;cases hc) fun φ w a h2 h3=>?_
     have hρ:=Bm h3.ts
     obtain⟨k1,k2,_,_⟩:=dB h2 hown
     obtain⟨w',h4,h5,h6,_⟩:=Pb (P:=P) hT k1 (hρ p) (hρ v) hs
     exact⟨_,_,φ,w',undef,List.mem_singleton.2 rfl,.inr ⟨by simp[execOp,hx,h4,Result.andThen],rfl⟩,.lit _,h5,Ext.refl _,k2.trans h6⟩
    ·cases h
   ·cases h
  ·cases h
 ·cases h
def xCopy (T:Ti)(st:St)(ρ:Operand→AV)(o:Oper):Option (List (AV × St)):=match o.op with
 | .call c=>match c.callee,c.args.toList,c.argTypes.toList with
  | .builtin .copy,[d,s],[dt,_]=>match T dt with
   | some i=>match i.desc with
    | .slice e=>match T e with
     | some j=>match ρ d with
      | .sl id off len _ _=>match slCells st.h j.size (ρ s) with
       | some new=>match ownSt st id with
        | some (cs,st1)=>if slLen (ρ s)≤len∧off+new.length≤cs.length∧new.all AV.one=true then some [(.lit (.int .i64 (slLen (ρ s))),⟨st1.h.set id (.cells none false (setsL cs off new)),st1.n⟩)] else none
        | none=>none
       | none=>none
      | _=>none
     | none=>none
    | _=>none
   | none=>none
  | _,_,_=>none
 | _=>none
theorem jU (hT:TOk P T):XOk P (xCopy T):=by
 intro rd ops i f st o outs ho hw h
 unfold xCopy at h
 split at h
 ·rename_i c hx
  split at h
  ·rename_i d s dt sT hc ha ht
   have ha':c.args=#[d,s]:=by cases hq:c.args;simp_all
   have ht':c.argTypes=#[dt,sT]:=by cases hq:c.argTypes;simp_all
   split at h
   ·rename_i ti hti
    split at h
    ·rename_i e hd
     split at h
     ·rename_i j hj
      split at h
      ·rename_i id off len sz ex hxv
       split at h
       ·rename_i new hnew
        split at h
        ·rename_i cs st1 hown
         split at h
         ·rename_i hcond
          obtain⟨c1,c2,c3⟩:=hcond
          cases h
          refine Ac.Jj ho hw (fun c hc=>by rw[hx] at hc;cases hc) fun φ w a h2 h3=>?_
          have hρ:=Bm h3.ts
          obtain⟨k1,k2,k3,k4⟩:=dB h2 hown
          obtain⟨ad,cap,us,hv,_,hus,hul,huf⟩:=Gw (P:=P) h2 (hρ s) hnew
          have hdd:=hρ d
          rw[hxv] at hdd
          obtain⟨cap',hv',_,_,_,_⟩:=hdd.Dy
          obtain⟨w',h4,h5,h6⟩:=eR (P:=P) k1 k3 hus c3 c2
          refine⟨_,_,φ,w',.int .i64 (slLen (Operand.av f.ts s)),List.mem_singleton.2 rfl,.inl ?_,.lit _,h5,Ext.refl _,k2.trans h6⟩
          have hmin:Nat.min (slLen (Operand.av f.ts s)) len=slLen (Operand.av f.ts s):=Nat.min_eq_left c1
          have hf:=huf _ rfl w (Same.refl _ _ _)
          have hcp:(Builtin.copy_ #[dt,sT] o.type #[a.eval d,a.eval s]).run P w=.ok (.int .i64 (slLen (Operand.av f.ts s))) w':=by
           rw[hv',hv] at *
           simp only [Builtin.copy_,List.getElem?_toArray,List.getElem?_cons_zero,List.getElem?_cons_succ,Sem.run_bind,Ao hT hti,hd,Result.andThen,Builtin.lenOf,Sem.run_pure,hmin,Av hT hj,hf,h4]
           rfl
          simp[execOp,hx,resolve,hc,ha',ht',invoke,builtin,hcp,Result.andThen]
         ·cases h
        ·cases h
       ·cases h
      ·cases h
     ·cases h
    ·cases h
   ·cases h
  ·cases h
 ·cases h
def xClear (T:Ti)(st:St)(ρ:Operand→AV)(o:Oper):Option (List (AV × St)):=match o.op with
 | .call c=>match c.callee,c.args.toList,c.argTypes.toList with
  | .builtin .clear,[s],[t]=>match T t with
   | some i=>match i.desc with
    | .slice e=>match T e with
     | some j=>match ρ s with
      | .sl id off len _ _=>match len with
       | 0=>some [(Bx,st)]
       | n+1=>match ownSt st id with
        | some (cs,st1)=>if off+(n+1)*j.zero.length≤cs.length∧(Er j ((n+1)*j.zero.length)).all AV.one=true then some [(Bx,⟨st1.h.set id (.cells none false (setsL cs off (Er j ((n+1)*j.zero.length)))),st1.n⟩)] else none
        | none=>none
      | .lit (.slice none _ _)=>some [(Bx,st)]
      | _=>none
     | none=>none
    | _=>none
   | none=>none
  | _,_,_=>none
 | _=>none
theorem Vg (j:TI)(n:Nat):(Er j n).length=n:=by simp[Er]
theorem gM (hT:TOk P T):XOk P (xClear T):=by
 intro rd ops i f st o outs ho hw h
 unfold xClear at h
 split at h
 ·rename_i c hx
  split at h
  ·rename_i s t hc ha ht
   have ha':c.args=#[s]:=by cases hq:c.args;simp_all
   have ht':c.argTypes=#[t]:=by cases hq:c.argTypes;simp_all
   split at h
   ·rename_i ti hti
    split at h
    ·rename_i e hd
     split at h
     ·rename_i j hj
      split at h
      ·rename_i id off len sz ex hxv
       split at h
       ·cases h
        refine Ac.Jj ho hw (fun c hc=>by rw[hx] at hc;cases hc) fun φ w a h2 h3=>?_
        have hdd:=Bm h3.ts s
        rw[hxv] at hdd
        obtain⟨cap',hv',_,_,_,_⟩:=hdd.Dy
        refine⟨_,_,φ,w,.tuple #[],List.mem_singleton.2 rfl,.inl ?_,.lit _,h2,Ext.refl _,Fr.refl _ _ _⟩
        have hcp:(Builtin.clear_ #[t] o.type #[a.eval s]).run P w=.ok (.tuple #[]) w:=by
         rw[hv']
         simp only [Builtin.clear_,List.getElem?_toArray,List.getElem?_cons_zero,Sem.run_bind,Ao hT hti,hd,Result.andThen,Sem.run_pure]
        simp[execOp,hx,resolve,hc,ha',ht',invoke,builtin,hcp,Result.andThen]
       ·rename_i n
        split at h
        ·rename_i cs st1 hown
         split at h
         ·rename_i hcond
          obtain⟨c2,c3⟩:=hcond
          cases h
          refine Ac.Jj ho hw (fun c hc=>by rw[hx] at hc;cases hc) fun φ w a h2 h3=>?_
          have hdd:=Bm h3.ts s
          rw[hxv] at hdd
          obtain⟨k1,k2,k3,k4⟩:=dB h2 hown
          obtain⟨cap',hv',_,_,_,_⟩:=hdd.Dy
          obtain⟨z,hz,hzc⟩:=Kf hT hj w
          have hzs:=Kb φ hzc ((n+1)*j.zero.length)
          obtain⟨w',h4,h5,h6⟩:=eR (P:=P) k1 k3 hzs c3 (by rw[Vg];exact c2)
          refine⟨_,_,φ,w',.tuple #[],List.mem_singleton.2 rfl,.inl ?_,.lit _,h5,Ext.refl _,k2.trans h6⟩
          have hzl:z.cells.size=j.zero.length:=by rw[←hzc];simp
          have hzz:(Builtin.zeroCells z.cells (n+1)).toList=(List.range ((n+1)*j.zero.length)).map fun k=>z.cells[k%z.cells.size]! := by
           simp[Builtin.zeroCells,hzl]
          have hcp:(Builtin.clear_ #[t] o.type #[a.eval s]).run P w=.ok (.tuple #[]) w':=by
           rw[hv']
           simp only [Builtin.clear_,List.getElem?_toArray,List.getElem?_cons_zero,Sem.run_bind,Ao hT hti,hd,Result.andThen,Sem.run_pure,hz,hzz,h4]
          simp[execOp,hx,resolve,hc,ha',ht',invoke,builtin,hcp,Result.andThen]
         ·cases h
        ·cases h
      ·rename_i x y hxv
       cases h
       refine Ac.Jj ho hw (fun c hc=>by rw[hx] at hc;cases hc) fun φ w a h2 h3=>?_
       have hdd:=Bm h3.ts s
       rw[hxv] at hdd
       have hv':=hdd.Au
       refine⟨_,_,φ,w,.tuple #[],List.mem_singleton.2 rfl,.inl ?_,.lit _,h2,Ext.refl _,Fr.refl _ _ _⟩
       have hcp:(Builtin.clear_ #[t] o.type #[a.eval s]).run P w=.ok (.tuple #[]) w:=by
        rw[hv']
        simp only [Builtin.clear_,List.getElem?_toArray,List.getElem?_cons_zero,Sem.run_bind,Ao hT hti,hd,Result.andThen,Sem.run_pure]
       simp[execOp,hx,resolve,hc,ha',ht',invoke,builtin,hcp,Result.andThen]
      ·cases h
     ·cases h
    ·cases h
   ·cases h
  ·cases h
 ·cases h
end
end Go.Ev
namespace Go.Ev
theorem Hp.get_app:∀ (R h:Hp)(id:Nat),Hp.get (R++h) id=match R.get id with|some o=>some o|none=>h.get id
 | [],h,id=>rfl
 | (i,x)::r,h,id=>by
  by_cases hi:i=id
  ·subst hi;simp[Hp.get]
  ·simp[Hp.get,hi,Hp.get_app r h id]
theorem Hp.Da {R h:Hp}{id:Nat}{o:AObj}(k:Hp.get (R++h) id=some o):R.get id=some o∨(R.get id=none∧h.get id=some o):=by
 rw[Hp.get_app] at k
 split at k
 ·rename_i o' ho;cases k;exact .inl ho
 ·rename_i ho;exact .inr ⟨ho,k⟩
theorem Ca.frame {φ:Fi}{R:Hp}{st0 st:St}{w:World}{k:AV→St→Prop}{e:Ending}{w':World}(hr0:Rel φ st0 w)(hn:st0.n=st.n)(hsub:∀ id o,st.h.get id=some o→st0.h.get id=some o)(hR:∀ id o,R.get id=some o→st0.h.get id=some o∧o.own=true∧o.fam=none∧st.h.get id=none)
  (h:Ca φ st w k e w')(hk:∀ v st',k v st'→∀ id o,st'.h.get id=some o→o.own=true):Ca φ st0 w (fun v s=>∃ st',k v st'∧s=⟨R++st'.h,st'.n⟩) e w':=by
 obtain⟨v,cv,st',φ',rfl,hkv,hv,he,hr',hf⟩:=h
 have hown:=hk v st' hkv
 have nomate:∀ {a b:AObj},a.fam=none→¬ Mz a b:=fun hn ⟨f,hf,_⟩=>by rw[hn] at hf;cases hf
 have disj:∀ {i:Nat}{oi:AObj},R.get i=some oi→¬ Fo φ st (φ.f i).b:=fun {i oi} hi ⟨j,oj,hj,hjo,hb⟩=>by
  obtain⟨h1,h2,h3,h4⟩:=hR i oi hi
  have hij:i≠j:=fun h=>by subst h;rw[h4] at hj;cases hj
  exact nomate h3 (hr0.sep i j oi oj h1 (hsub j oj hj) hij h2 hb.symm).1
 have lt0:∀ {i:Nat}{oi:AObj},R.get i=some oi→i<φ.n:=fun {i oi} hi=>by rw[hr0.n];exact hr0.lt i oi (hR i oi hi).1
 have fi:∀ {i:Nat}{oi:AObj},R.get i=some oi→φ'.f i=φ.f i:=fun hi=>he.f _ (lt0 hi)
 have blk:∀ {i:Nat}{oi:AObj},R.get i=some oi→(φ.f i).b<w.heap.size:=fun {i oi} hi=>hr0.blk _ _ (hR i oi hi).1
 have notown:∀ {i:Nat}{oi:AObj},R.get i=some oi→¬ Fo φ' st' (φ.f i).b:=fun hi ho =>
  (hf.own _ ho).elim (disj hi) fun hl=>by have:=blk hi;omega
 have hmono:∀ {k:Nat},Fo φ st k→Fo φ st0 k:=fun⟨id,o,h,ho,hb⟩=>⟨id,o,hsub id o h,ho,hb⟩
 have hnn:st0.n≤st'.n:=by have:=he.n;rw[hr0.n,hr'.n] at this;exact this
 refine⟨v,cv,⟨R++st'.h,st'.n⟩,φ',rfl,⟨st',hkv,rfl⟩,hv,he,⟨hr'.n,fun id o h=>?_,fun id o h=>?_,fun id o h=>?_,fun i j oi oj hi hj hij hio hb=>?_⟩,
  ⟨hf.os,hf.tape,hf.output,hf.size,fun k hk ho=>hf.block k hk fun h=>ho (hmono h),fun k ⟨id,o,h,ho,hb⟩=>?_⟩⟩
 ·rcases Hp.Da h with h|⟨_,h⟩
  ·exact Nat.lt_of_lt_of_le (hr0.lt id o (hR id o h).1) hnn
  ·exact hr'.lt id o h
 ·rcases Hp.Da h with h|⟨_,h⟩
  ·rw[fi h];exact Nat.lt_of_lt_of_le (blk h) hf.size
  ·exact hr'.blk id o h
 ·rcases Hp.Da h with h|⟨_,h⟩
  ·exact(hr0.obj id o (hR id o h).1).same he (lt0 h) (hf.block _ (blk h) (disj h))
  ·exact hr'.obj id o h
 ·rcases Hp.Da hi with hi|⟨_,hi⟩<;>rcases Hp.Da hj with hj|⟨_,hj⟩
  ·rw[fi hi,fi hj] at *
   exact hr0.sep i j oi oj (hR i oi hi).1 (hR j oj hj).1 hij hio hb
  ·exfalso
   rw[fi hi] at hb
   exact notown hi ⟨j,oj,hj,hown j oj hj,hb.symm⟩
  ·exfalso
   rw[fi hj] at hb
   exact notown hj ⟨i,oi,hi,hio,hb⟩
  ·exact hr'.sep i j oi oj hi hj hij hio hb
 ·rcases Hp.Da h with h|⟨_,h⟩
  ·rw[fi h] at hb
   exact .inl ⟨id,o,(hR id o h).1,ho,hb⟩
  ·exact(hf.own k ⟨id,o,h,ho,hb⟩).imp hmono fun h=>h
def lM (o:AObj):Bool:=match o with
 | .loop _=>true
 | .dfr=>true
 | _=>false
noncomputable def pS (h:Hp):List Nat:=@List.rec (Nat × AObj) (fun _=>List Nat) [] (fun x _ ih=>@Bool.rec (fun _=>List Nat) ih (x.1::ih) (lM x.2)) h
noncomputable def inL (l:List Nat)(i:Nat):Bool:=@List.rec Nat (fun _=>Bool) false (fun x _ ih=>@Bool.rec (fun _=>Bool) ih true (Nat.beq x i)) l
noncomputable def Uk (p:Nat→Bool)(h:Hp):Hp:=@List.rec (Nat × AObj) (fun _=>Hp) [] (fun x _ ih=>@Bool.rec (fun _=>Hp) ih (x::ih) (p x.1)) h
theorem Px (p:Nat→Bool):∀ h:Hp,Uk p h=h.filter fun x=>p x.1
 | []=>rfl
 | x::r=>by
  show @Bool.rec (fun _=>Hp) (Uk p r) (x::Uk p r) (p x.1)=_
  rw[Px p r,List.filter_cons]
  cases p x.1<;>rfl
noncomputable def eD (R:Hp):Bool:=Vn (fun x:Nat × AObj=>lM x.2) R
theorem jQ {R:Hp}(hb:eD R=true):∀ id o,R.get id=some o→o.own=true∧o.fam=none:=by
 unfold eD at hb
 rw[Ib] at hb
 induction R with
 | nil=>intro id o h;cases h
 | cons x r ih =>
  rw[List.all_cons,Bool.and_eq_true] at hb
  intro id o h
  obtain⟨i,y⟩:=x
  simp only [Hp.get] at h
  split at h
  ·have h1:lM y=true:=hb.1
   have hy:y=o:=Option.some.inj h
   subst hy
   cases y<;>first|exact⟨rfl,rfl⟩|cases h1
  ·exact ih hb.2 id o h
noncomputable def lay (R:Hp)(l:List (AV × St)):List (AV × St):=match l with
 | [x]=>[(x.1,⟨R++x.2.h,x.2.n⟩)]
 | l=>l.map fun x=>(x.1,⟨R++x.2.h,x.2.n⟩)
theorem sO (R:Hp)(l:List (AV × St)):lay R l=l.map fun x=>(x.1,⟨R++x.2.h,x.2.n⟩):=by
 unfold lay
 split<;>rfl
noncomputable def aside (ev:St→Option (List (AV × St)))(st:St):Option (List (AV × St)):=match pS st.h with
 | []=>ev st
 | i::l=>match eD (Uk (inL (i::l)) st.h) with
  | false=>none
  | true=>match ev ⟨Uk (fun j=>!(inL (i::l) j)) st.h,st.n⟩ with
   | none=>none
   | some outs=>match Vn (fun x:AV × St=>oZ x.2.h) outs with
    | false=>none
    | true=>some (lay (Uk (inL (i::l)) st.h) outs)
theorem oC {P:Program}{g:FuncId}{args:List AV}{st:St}{ev:St→Option (List (AV × St))}{outs:List (AV × St)}(hev:∀ st outs,ev st=some outs→At P g args st (fun v st'=>(v,st')∈outs))(hargs:True)
  (h:aside ev st=some outs):At P g args st (fun v st'=>(v,st')∈outs):=by
 unfold aside at h
 split at h
 ·exact hev _ _ h
 ·rename_i i l hl
  split at h
  ·cases h
  ·rename_i ha
   split at h
   ·cases h
   ·rename_i os hos
    split at h
    ·cases h
    ·rename_i how
     cases h
     rw[Ib] at how
     intro φ w cargs n h1 h2
     rw[Px] at ha hos
     have hk:=hev _ _ hos φ w cargs n (h1.Gd fun j=>!(inL (i::l) j)) h2
     refine hk.mono fun e w' hp=>?_
     have hfr:=Ca.frame (R:=Uk (inL (i::l)) st.h) (st0:=st) (st:=⟨st.h.filter fun x=>!(inL (i::l) x.1),st.n⟩) h1 rfl (fun id o ho=>Hp.get_filter (p:=fun j=>!(inL (i::l) j)) ho) (fun id o ho=>?_) hp fun v st' hm=>fC (List.all_eq_true.1 how (v,st') hm)
     ·obtain⟨v,cv,s,φ',k1,⟨st',k2,k3⟩,k4⟩:=hfr
      refine⟨v,cv,s,φ',k1,?_,k4⟩
      subst k3
      rw[sO]
      exact List.mem_map.2 ⟨(v,st'),k2,rfl⟩
     ·have h3:=jQ ha id o (by rw[←Px];exact ho)
      rw[Px] at ho
      refine⟨Hp.get_filter ho,h3.1,h3.2,?_⟩
      have hp1:=Oq (p:=inL (i::l)) ho
      cases hq:Hp.get (st.h.filter fun x=>!(inL (i::l) x.1)) id with
      | none=>rfl
      | some o' =>
       have hp2:=Oq (p:=fun j=>!(inL (i::l) j)) hq
       simp only [hp1] at hp2
       cases hp2
end Go.Ev
namespace Go.Ev
noncomputable def kill3 (l:List Nat):St→Option St:=@List.rec Nat (fun _=>St→Option St) (fun st=>some st) (fun id _ ih st=>match Bw st.h id with
 | some .dfr=>ih ⟨Vh st.h id (.cells none true []),st.n⟩
 | _=>none) l
theorem aL:∀ (l:List Nat)(st:St),kill3 l st=killA l st
 | [],st=>by simp[kill3,killA]
 | id::r,st=>by
  show(match Bw st.h id with
   | some .dfr=>kill3 r ⟨Vh st.h id (.cells none true []),st.n⟩
   | _=>none)=_
  simp only [killA,Jk,Pv,aL r]
  cases st.h.get id with
  | none=>rfl
  | some o=>cases o<;>rfl
noncomputable def gcD (D n0:Nat)(v:AV)(st:St):AV × St:=match Nat.beq D 0 with
 | true=>gc3 0 n0 v st
 | false=>gc4 D n0 v st
theorem Ca.gcD {φ:Fi}{st:St}{w:World}{k:AV→St→Prop}{e:Ending}{w':World}(D:Nat)(hn:φ.n=st.n)(h:Ca φ st w (fun v st'=>k (Ev.gcD D st.n v st').1 (Ev.gcD D st.n v st').2) e w'):Ca φ st w k e w':=by
 unfold Ev.gcD at h
 cases hb:Nat.beq D 0 with
 | true=>rw[hb] at h;exact Ca.gc 0 hn h
 | false=>rw[hb] at h;exact Ca.gc4 D hn h
noncomputable def roL (h:Hp):List Nat:=@List.rec (Nat × AObj) (fun _=>List Nat) [] (fun x _ ih=>@Bool.rec (fun _=>List Nat) (x.1::ih) ih x.2.own) h
noncomputable def keepRo (st:St):St:=match roL st.h with
 | []=>st
 | l=>st.Gd fun i=>!(l.contains i)
theorem At.gcR {P:Program}{g:FuncId}{args:List AV}{st:St}{k:AV→St→Prop}(D:Nat)(h:At P g args st (fun v st'=>k (Ev.gcD D st.n v st').1 (Ev.gcD D st.n v st').2∨k (Ev.gcD D st.n v (keepRo st')).1 (Ev.gcD D st.n v (keepRo st')).2)):At P g args st k:=by
 intro φ w cargs n h1 h2
 refine(h φ w cargs n h1 h2).mono fun e w' hp=>?_
 obtain⟨v,cv,st',φ',he,hk,hv,hex,hrel,hfr⟩:=hp
 rcases hk with hk|hk
 ·exact Ca.gcD D h1.n ⟨v,cv,st',φ',he,hk,hv,hex,hrel,hfr⟩
 ·refine Ca.gcD D h1.n ⟨v,cv,keepRo st',φ',he,hk,hv,hex,?_,?_⟩
  ·unfold keepRo
   split
   ·exact hrel
   ·exact hrel.Gd _
  ·unfold keepRo
   split
   ·exact hfr
   ·exact hfr.Gd _
noncomputable def ret3 (D:Nat)(T:Ti)(fn:Func)(n0:Nat)(f:TF)(st:St):Option (List (AV × St)):=match kill3 f.dm st with
 | none=>none
 | some st'=>match resA3 T fn.results f st' with
  | none=>none
  | some v=>match f.dm with
   | []=>some [gcD D n0 v st']
   | _::_=>some [gcD D n0 v (keepRo st')]
noncomputable def Ze (D:Nat)(T:Ti)(fn:Func)(n0:Nat)(x:Dt):Option (List (AV × St)):=match x with
 | (.normal,f,st)=>ret3 D T fn n0 f st
 | (.ret,f,st)=>ret3 D T fn n0 f st
 | _=>none
def dedup3 (l:List (AV × St)):List (AV × St):=match l with
 | [x]=>[x]
 | l=>dedup (l.map fun x=>x)
theorem Tw {l:List (AV × St)}{x:AV × St}(h:x∈l):x∈dedup3 l:=by
 unfold dedup3
 split
 ·exact h
 ·simpa using Qn h
noncomputable def round3 (id:Nat)(x:Dt):Option (List (AV × St)) :=
 match x with
 | (.normal,_,st)=>match Nr st id with
  | some r=>some [(.lit (.bool true),Wz st id { r with state:=.ready,pending:=none})]
  | none=>none
 | (.ret,_,st)=>match Nr st id with
  | some r=>some [(.lit (.bool false),Wz st id { r with state:=.done,pending:=some .ret})]
  | none=>none
 | (.exit e,_,st)=>match Nr st id with
  | some r=>some [(.lit (.bool false),Wz st id { r with state:=.done,pending:=some (.exit e) })]
  | none=>none
 | _=>none
def Mn (D:Nat)(l:List Dt):Nat:=match l with
 | [_]=>D
 | _=>0
noncomputable def rH (a b:List AV):List AV:=@List.rec AV (fun _=>List AV) b (fun x _ ih=>x::ih) a
theorem Yh (a b:List AV):rH a b=a++b:=by
 induction a with
 | nil=>rfl
 | cons x a ih=>show x::rH a b=_;rw[ih];rfl
section
variable (T:Ti)(X:St→(Operand→AV)→Oper→Option (List (AV × St)))(L:Nat)(G:FuncId→Option Func)(C:FuncId→List AV→St→Option (List (AV × St)))(D:FuncId→Nat)
noncomputable def body3 (call:Dw)(g:FuncId)(fn:Func)(args:List AV)(st:St):Option (List (AV × St)):=match fn.body with
 | none=>none
 | some b=>match Nat.ble (Nm args) Kr&&Nat.ble fn.ntmps Kr with
  | false=>none
  | true=>match Eu T X call L none b (ofF args fn.ntmps) st with
   | none=>none
   | some outs=>match bind3 outs (Ze (Mn (D g%1000) outs) T fn st.n) with
    | none=>none
    | some l=>some (dedup3 l)
noncomputable def func3 (call:Dw)(g:FuncId)(args:List AV)(st:St):Option (List (AV × St)):=match C g args st with
 | some outs=>some outs
 | none=>match G g with
  | none=>none
  | some fn=>match Nat.ble 1000 (D g) with
   | true=>aside (body3 T X L D call g fn args) st
   | false=>body3 T X L D call g fn args st
noncomputable def round1 (call:Dw)(id:Nat)(x:Dt):Option (List (AV × St)):=match x with
 | (.normal,f1,st1)=>match Nr st1 id with
  | none=>none
  | some r1=>match Ip r1.state&&tidyC r1.body with
   | true=>match Eu T X call L (some id) r1.body f1 (Wz st1 id { r1 with state:=.busy}) with
    | none=>none
    | some o2=>bind3 o2 (round3 id)
   | false=>none
 | _=>none
noncomputable def jS (call:Dw)(id:Nat)(r:Cs)(ts args:List AV)(st:St):Option (List (AV × St)):=match (Nat.beq (Nm args) r.params.size&&Nat.ble (Nm ts) Kr)&&(tidyC r.assign&&tidyC r.body) with
 | true=>match Eu T X call L (some id) r.assign (ofF ts 0) st with
  | none=>none
  | some outs=>bind3 outs fun x=>match x with
   | (.normal,f1,st1)=>match Nr st1 id with
    | none=>none
    | some r1=>match Ip r1.state&&tidyC r.body with
     | true=>match Eu T X call L (some id) r.body f1 (Wz st1 id { r1 with state:=.busy}) with
      | none=>none
      | some o2=>bind3 o2 (round3 id)
     | false=>none
   | _=>none
 | false=>none
noncomputable def apply3 (call:Dw):Dw:=fun c args st=>match c with
 | .fn (.func g) first caps=>func3 T X L G C D call g (rH (rH first args) caps) st
 | .yld id=>match Nr st id with
  | none=>none
  | some r=>jS T X L call id r (Xa r.tmps (r.params.toList.zip args)) args st
 | _=>none
noncomputable def Iy (n:Nat):Dw:=@Nat.rec (fun _=>Dw) (fun _ _ _=>none) (fun _ ih=>apply3 T X L G C D ih) n
end
section
variable {P:Program}{T:Ti}{X:St→(Operand→AV)→Oper→Option (List (AV × St))}{L:Nat}{G:FuncId→Option Func}{C:FuncId→List AV→St→Option (List (AV × St))}{D:FuncId→Nat}
theorem bX (hm:P.follows .mixedOrders=true)(hT:TOk P T)(hX:XOk P X)(hG:GOk P G){call:Dw}(ih:Lt P call){g:FuncId}{fn:Func}{args:List AV}{st:St}{outs:List (AV × St)}(hfn:G g=some fn)
  (h:body3 T X L D call g fn args st=some outs):Enters P g∧At P g args st (fun v st'=>(v,st')∈outs):=by
 obtain⟨hf,hent,htid⟩:=hG _ _ hfn
 unfold body3 at h
 split at h
 ·cases h
 ·rename_i b hb
  split at h
  ·cases h
  rename_i hbig
  simp only [Bool.and_eq_true,Lj] at hbig
  have hbig:max args.length fn.ntmps≤Kr:=by
   have h1:=Nat.le_of_ble_eq_true hbig.1
   have h2:=Nat.le_of_ble_eq_true hbig.2
   omega
  split at h
  ·cases h
  ·rename_i os hos
   simp only [Hk] at h
   cases he:bindL os (Ze (Mn (D g%1000) os) T fn st.n) with
   | none=>rw[he] at h;cases h
   | some l =>
    rw[he] at h
    simp only [Option.some.injEq] at h
    subst h
    refine⟨hent,At.gcR (Mn (D g%1000) os) (Bb hT hf hb ?_)⟩
    rw[←fG hbig]
    refine Xx hm hT hX ih b (lB hbig) (htid b hb) hos fun x hx _=>?_
    obtain⟨e,f',st'⟩:=x
    obtain⟨y,h1,h2⟩:=Fl he _ hx
    have fin:ret3 (Mn (D g%1000) os) T fn st.n f' st'=some y→∃ st'' v,killA f'.dm st'=some st''∧resA T fn.results f'.abs st''=some v∧(((gcD (Mn (D g%1000) os) st.n v st'').1,(gcD (Mn (D g%1000) os) st.n v st'').2)∈dedup3 l∨((gcD (Mn (D g%1000) os) st.n v (keepRo st'')).1,(gcD (Mn (D g%1000) os) st.n v (keepRo st'')).2)∈dedup3 l):=fun h3=>by
     unfold ret3 at h3
     rw[aL] at h3
     split at h3
     ·cases h3
     ·rename_i st2 hst2
      rw[kU] at h3
      split at h3
      ·cases h3
      ·rename_i v hv
       split at h3
       ·cases h3
        exact⟨st2,v,hst2,hv,.inl (Tw (h2 _ (List.mem_singleton.2 rfl)))⟩
       ·cases h3
        exact⟨st2,v,hst2,hv,.inr (Tw (h2 _ (List.mem_singleton.2 rfl)))⟩
    cases e with
    | normal=>exact fin h1
    | ret=>exact fin h1
    | exit id=>cases h1
    | goto l=>cases h1
    | panic c=>cases h1
    | outgrown=>cases h1
theorem Mt (hm:P.follows .mixedOrders=true)(hT:TOk P T)(hX:XOk P X)(hG:GOk P G)(hC:COk P C):∀ n,Lt P (Iy T X L G C D n)
 | 0=>fun c args st outs h=>by cases h
 | n+1=>fun c args st outs' h=>by
  have ih:=Mt hm hT hX hG hC n
  have h:apply3 T X L G C D (Iy T X L G C D n) c args st=some outs':=h
  unfold apply3 at h
  split at h
  ·rename_i g first caps
   rw[Yh,Yh] at h
   unfold func3 at h
   split at h
   ·rename_i os hos
    cases h
    exact hC _ _ _ _ hos
   ·split at h
    ·cases h
    ·rename_i fn hfn
     split at h
     ·exact⟨(hG _ _ hfn).2.1,oC (fun st outs h=>(bX hm hT hX hG ih hfn h).2) trivial h⟩
     ·exact bX hm hT hX hG ih hfn h
  ·rename_i id
   rw[Iv] at h
   split at h
   ·cases h
   ·rename_i r hr
    unfold jS at h
    rw[Vw] at h
    split at h
    ·rename_i hb
     simp only [Bool.and_eq_true,Lj] at hb
     split at h
     ·cases h
     ·rename_i os hos
      rw[Hk] at h
      have hbig:max (setPs r.tmps (r.params.toList.zip args)).length 0≤Kr:=by have:=Nat.le_of_ble_eq_true hb.1.2;omega
      refine Bj.Fg hr (Nat.eq_of_beq_eq_true hb.1.1) ?_
      have hab:(⟨setPs r.tmps (r.params.toList.zip args),[]⟩:Fm)=(ofF (setPs r.tmps (r.params.toList.zip args)) 0).abs:=by
       rw[fG hbig];simp
      rw[hab]
      refine Xx hm hT hX ih r.assign (lB hbig) hb.2.1 hos fun x hx hok=>?_
      obtain⟨e,f1,st1⟩:=x
      obtain⟨y,h1,h2⟩:=Fl h _ hx
      cases e with
      | normal =>
       simp only [Iv] at h1
       split at h1
       ·cases h1
       ·rename_i r1 hr1
        split at h1
        ·rename_i hb1
         simp only [Bool.and_eq_true] at hb1
         split at h1
         ·cases h1
         ·rename_i o2 ho2
          rw[Pc] at ho2
          rw[Hk] at h1
          refine⟨r1,hr1,?_,?_⟩
          ·have hb1:=hb1.1
           unfold Ip at hb1
           cases hs:r1.state<;>rw[hs] at hb1<;>simp at hb1 ⊢
          ·refine Xx hm hT hX ih r.body hok hb1.2 ho2 fun z hz _=>?_
           obtain⟨e,f2,st2⟩:=z
           obtain⟨q,h3,h4⟩:=Fl h1 _ hz
           unfold round3 at h3
           have fin:∀ {v:AV}{s2:St},q=[(v,s2)]→(v,s2)∈outs':=fun {v s2} hq=>by subst hq;exact h2 _ (h4 _ (List.mem_singleton.2 rfl))
           cases e with
           | normal =>
            simp only [Iv,Pc] at h3
            split at h3
            ·rename_i r2 hr2;cases h3;exact⟨r2,hr2,fin rfl⟩
            ·cases h3
           | ret =>
            simp only [Iv,Pc] at h3
            split at h3
            ·rename_i r2 hr2;cases h3;exact⟨r2,hr2,fin rfl⟩
            ·cases h3
           | exit id =>
            simp only [Iv,Pc] at h3
            split at h3
            ·rename_i r2 hr2;cases h3;exact⟨r2,hr2,fin rfl⟩
            ·cases h3
           | goto l=>cases h3
           | panic c=>cases h3
           | outgrown=>cases h3
        ·cases h1
      | exit id=>cases h1
      | ret=>cases h1
      | goto l=>cases h1
      | panic c=>cases h1
      | outgrown=>cases h1
    ·cases h
  ·cases h
end
end Go.Ev
namespace Go.Ev
theorem At.frame {P:Program}{g:FuncId}{r:Value}{k:AV→St→Prop}(h:At P g [] ⟨[],0⟩ k)(hk:∀ v st,k v st→v=.lit r)(st:St):At P g [] st (fun v st'=>v=.lit r∧st'=st):=by
 intro φ w cargs n h1 h2
 have h0:Rel ⟨φ.f,0⟩ ⟨[],0⟩ w:=⟨rfl,fun _ _ h=>(by cases h),fun _ _ h=>(by cases h),fun _ _ h=>(by cases h),fun _ _ _ _ h=>(by cases h)⟩
 cases h2
 refine(h ⟨φ.f,0⟩ w [] n h0 .nil).mono fun e w' hp=>?_
 obtain⟨v,cv,st',φ',he,hkk,hv,hex,hrel,hfr⟩:=hp
 have hvr:=hk v st' hkk
 subst hvr
 obtain rfl:=hv.Au
 have hno:∀ k,¬ Fo ⟨φ.f,0⟩ ⟨[],0⟩ k:=fun k ⟨id,o,h,_⟩=>by cases h
 have hblk:∀ k,k<w.heap.size→w'.heap[k]?=w.heap[k]?:=fun k hk=>hfr.block k hk (hno k)
 refine⟨_,_,st,φ,he,⟨rfl,rfl⟩,.lit _,Ext.refl _,⟨h1.n,h1.lt,fun id o ho=>Nat.lt_of_lt_of_le (h1.blk id o ho) hfr.size,fun id o ho=>?_,h1.sep⟩,⟨hfr.os,hfr.tape,hfr.output,hfr.size,fun k hk _=>hblk k hk,fun k hk=>.inl hk⟩⟩
 exact(h1.obj id o ho).same (Ext.refl _) (by rw[h1.n];exact h1.lt id o ho) (hblk _ (h1.blk id o ho))
theorem At.wP {P:Program}{call:Dw}(hc:Lt P call){g:FuncId}{r:Value}{outs:List (AV × St)}(h:call (.fn (.func g) [] []) [] ⟨[],0⟩=some outs)(hr:∀ x∈outs,x.1=.lit r):Enters P g∧∀ st,At P g [] st (fun v st'=>v=.lit r∧st'=st):=by
 obtain⟨h1,h2⟩:=hc _ _ _ _ h
 exact⟨h1,fun st=>At.frame h2 (fun v st' hm=>hr _ hm) st⟩
end Go.Ev
namespace Go.Ev
def Hu:Nat→Code→Code
 | 0,.seq a _=>a
 | 0,c=>c
 | n+1,.seq _ b=>Hu n b
 | _+1,_=>.skip
def Df:Nat→Code→Code
 | 0,c=>c
 | n+1,.seq _ b=>Df n b
 | _+1,_=>.skip
def Yf (f:Func):Code:=match f.body with
 | some b=>b
 | none=>.skip
section
variable {T:Ti}{X:St→(Operand→AV)→Oper→Option (List (AV × St))}{call:Dw}{L:Nat}{rd:Option Nat}
variable {G:FuncId→Option Func}{C:FuncId→List AV→St→Option (List (AV × St))}
end
end Go.Ev
namespace Go.Ev
section
variable {T:Ti}{X:St→(Operand→AV)→Oper→Option (List (AV × St))}{call:Dw}{L:Nat}{G:FuncId→Option Func}{C:FuncId→List AV→St→Option (List (AV × St))}{D:FuncId→Nat}{rd:Option Nat}
theorem Fu {k:Nat}{c:Code}{f f':TF}{st st':St}{r:Option (List Dt)}(hd:Df k c=.seq (Hu k c) (Df (k+1) c))(h:Eu T X call L rd (Hu k c) f st=some [(.normal,f',st')])(hr:Eu T X call L rd (Df (k+1) c) f' st'=r):Eu T X call L rd (Df k c) f st=r:=by
 rw[hd]
 show oW (Eu T X call L rd (Hu k c) f st) (Eu T X call L rd (Df (k+1) c))=r
 rw[h]
 exact hr
theorem bH {n:Nat}{g:FuncId}{fn:Func}{args:List AV}{st:St}{b:Code}{outs:List Dt}{l:List (AV × St)}(hC:C g args st=none)(hG:G g=some fn)(hb:fn.body=some b)(hl:(Nat.ble (Nm args) Kr&&Nat.ble fn.ntmps Kr)=true)
  (h:Eu T X (Iy T X L G C D n) L none b (ofF args fn.ntmps) st=some outs)(hA:Nat.ble 1000 (D g)=false)(hr:bind3 outs (Ze (Mn (D g%1000) outs) T fn st.n)=some l):Iy T X L G C D (n+1) (.fn (.func g) [] []) args st=some (dedup3 l):=by
 show apply3 T X L G C D (Iy T X L G C D n) (.fn (.func g) [] []) args st=_
 simp only [apply3,Yh,List.nil_append,List.append_nil,func3,hC,hG,hA,body3,hb,hl,h,hr]
end
end Go.Ev
namespace Go.Ev
end Go.Ev
namespace Go.Ev
section
variable {P:Program}{T:Ti}
def Ren (n0:Nat)(f:Fm)(st:St)(f':Fm)(st':St):Prop :=
 ∀ (φ:Fi)(w:World)(a:Act),Rel φ st w→Cz φ f a→∃ φ',Rel φ' st' w∧Cz φ' f' a∧n0≤φ'.n∧(∀ id,id<n0→φ'.f id=φ.f id)∧(∀ k,Fo φ' st' k→Fo φ st k)
theorem Ren.trans {n0:Nat}{f f' f'':Fm}{st st' st'':St}(h:Ren n0 f st f' st')(k:Ren n0 f' st' f'' st''):Ren n0 f st f'' st'':=fun φ w a hr ha=>by
 obtain⟨φ1,h1,h2,_,h4,h5⟩:=h φ w a hr ha
 obtain⟨φ2,k1,k2,k3,k4,k5⟩:=k φ1 w a h1 h2
 exact⟨φ2,k1,k2,k3,fun id hi=>(k4 id hi).trans (h4 id hi),fun q hq=>h5 q (k5 q hq)⟩
theorem Ren.Gd {n0:Nat}{f:Fm}{st:St}(hn:n0≤st.n)(p:Nat→Bool):Ren n0 f st f (st.Gd p):=fun φ w a hr ha =>
 ⟨φ,hr.Gd p,ha,by rw[hr.n];exact hn,fun _ _=>rfl,fun k ⟨id,o,h1,h2,h3⟩=>⟨id,o,Hp.get_filter h1,h2,h3⟩⟩
theorem Ren.names {n0:Nat}{f:Fm}{st:St}{ord:List Nat}{ts':List AV}{a b:Hp}(h1:ord.Nodup)(h2:∀ i∈ord,n0≤i)(h3:∀ d∈f.dm,d<n0)(h4:renL (rho n0 ord) f.ts=some ts')
  (h5:renOld (rho n0 ord) n0 st.h=some a)(h6:Gq (rho n0 ord) st.h n0 ord=some b):Ren n0 f st ⟨ts',f.dm⟩ ⟨b++a,n0+ord.length⟩:=fun φ w ac hr ha=>by
 obtain⟨m1,m2⟩:=Tf hr h1 h2 h5 h6
 refine⟨phi n0 ord φ,m1,⟨Hs (Xd n0 ord φ) h4 ha.ts,?_,fun id hid=>?_⟩,Nat.le_add_right _ _,fun id hid=>Lh hid,m2⟩
 ·rw[ha.dm]
  exact List.map_congr_left fun id hid=>by rw[Lh (h3 id hid)]
 ·have:=h3 id hid;unfold phi;simp only;omega
theorem Ren.alone {n0:Nat}{f:Fm}{st:St}{id g:Nat}{ro:Bool}{cs:List AV}(hn:n0≤st.n)(ho:st.h.get id=some (.cells (some g) ro cs))(hal:∀ j o,st.h.get j=some o→j≠id→o.fam≠some g) :
  Ren n0 f st f ⟨st.h.set id (.cells none ro cs),st.n⟩:=fun φ w a hr ha=>by
 have Bw:∀ j x,(st.h.set id (.cells none ro cs)).get j=some x→(j=id∧x=.cells none ro cs)∨(j≠id∧st.h.get j=some x):=fun j x hx=>by
  rw[Hp.Hw] at hx
  by_cases hj:j=id
  ·subst hj;left;simpa[ho,eq_comm] using hx
  ·right;simpa[hj] using hx
 refine⟨φ,⟨hr.n,fun j x hx=>?_,fun j x hx=>?_,fun j x hx=>?_,fun i j oi oj hi hj hij hio=>?_⟩,ha,by rw[hr.n];exact hn,fun _ _=>rfl,fun k ⟨j,x,hx,hxo,hb⟩=>?_⟩
 ·rcases Bw j x hx with ⟨rfl,rfl⟩|⟨_,h⟩
  ·exact hr.lt j _ ho
  ·exact hr.lt j x h
 ·rcases Bw j x hx with ⟨rfl,rfl⟩|⟨_,h⟩
  ·exact hr.blk j _ ho
  ·exact hr.blk j x h
 ·rcases Bw j x hx with ⟨rfl,rfl⟩|⟨_,h⟩
  ·have h:=hr.obj j _ ho
   exact h
  ·exact hr.obj j x h
 ·intro hb
  rcases Bw i oi hi with ⟨rfl,rfl⟩|⟨hi',h1⟩
  ·rcases Bw j oj hj with ⟨rfl,rfl⟩|⟨hj',h2⟩
   ·exact absurd rfl hij
   ·obtain⟨⟨q,q1,q2⟩,_⟩:=hr.sep i j _ oj ho h2 hij hio hb
    simp only [AObj.fam,Option.some.injEq] at q1
    subst q1
    exact absurd q2 (hal j oj h2 hj')
  ·rcases Bw j oj hj with ⟨rfl,rfl⟩|⟨hj',h2⟩
   ·obtain⟨⟨q,q1,q2⟩,_⟩:=hr.sep i j oi _ h1 ho hij hio hb
    simp only [AObj.fam,Option.some.injEq] at q2
    subst q2
    exact absurd q1 (hal i oi h1 hij)
   ·exact hr.sep i j oi oj h1 h2 hij hio hb
 ·rcases Bw j x hx with ⟨rfl,rfl⟩|⟨_,h⟩
  ·exact⟨j,_,ho,hxo,hb⟩
  ·exact⟨j,x,h,hxo,hb⟩
theorem SW.wX {rd:Option Nat}{c:Code}{Q:Exit→Fm→St→Prop}{f:Fm}{st:St}(I:Nat→Fm→St→Prop)(k:Nat)(h0:I k f st)
  (hround:∀ k f1 st1,I k f1 st1→SW P rd c (Lz (fun f' st'=>∃ k',k'<k∧∃ f2 st2,Ren st.n f' st' f2 st2∧I k' f2 st2) Q) f1 st1):SW P rd (.loop c) Q f st:=by
 intro φ w a n h1 h2 h3
 let J:Nat→Act→World→Prop:=fun k a' w'=>∃ f' st' φ',I k f' st'∧Ext φ φ'∧Rel φ' st' w'∧Cz φ' f' a'∧Fr φ st w φ' st' w'
 intro b kk cs hro hb hroom
 have key:∀ k a' w',J k a' w'→∃ e a₂ w₂,Eg φ st w Q e a₂ w₂∧ArrivesIn (Machine.fenced P (FW (rdB φ rd))) P (lone (b.atR a' (.code c::.inLoop c::kk)) cs w') b kk cs e a₂ w₂:=by
  intro k
  induction k using Nat.strongRecOn with
  | _ k ih =>
   intro a' w' hj
   obtain⟨f',st',φ',hi,he,hr,ha,hf⟩:=hj
   have hr1:=hround k f' st' hi φ' w' a' n (fun id hi=>Nat.lt_of_lt_of_le (h1 id hi) he.n) hr ha
   rw[Dd he h1] at hr1
   obtain⟨e,a₁,w₁,hq,harr⟩:=hr1 b (.inLoop c::kk) cs hro hb hroom
   obtain⟨f2,st2,φ2,hk,he2,hr2,ha2,hf2⟩:=hq
   cases e with
   | normal =>
    obtain⟨k',hlt,f3,st3,hren,hi'⟩:=hk
    obtain⟨φ3,g1,g2,g3,g4,g5⟩:=hren φ2 w₁ a₁ hr2 ha2
    have hex:Ext φ φ3:=⟨by rw[h2.n];exact g3,fun id hid=>by rw[g4 id (by rw[←h2.n];exact hid)];exact(he.trans he2).f id hid⟩
    have hft:=hf.trans hf2
    obtain⟨e₂,a₂,w₂,hq₂,harr₂⟩:=ih k' hlt a₁ w₁ ⟨f3,st3,φ3,hi',hex,g1,g2,⟨hft.os,hft.tape,hft.output,hft.size,hft.block,fun q hq=>hft.own q (g5 q hq)⟩⟩
    exact⟨e₂,a₂,w₂,hq₂,.of_steps (StepsIn.trans harr (.one (fenced_calm hb hroom rfl) stepR_inLoop)) harr₂⟩
   | exit id=>exact⟨_,a₁,w₁,⟨f2,st2,φ2,hk,he.trans he2,hr2,ha2,hf.trans hf2⟩,.pass (x:=.inLoop c) rfl (fun _ _=>.inl (by simp)) harr⟩
   | goto l=>exact⟨_,a₁,w₁,⟨f2,st2,φ2,hk,he.trans he2,hr2,ha2,hf.trans hf2⟩,.pass (x:=.inLoop c) rfl (fun _ _=>.inl (by simp)) harr⟩
   | ret=>exact⟨_,a₁,w₁,⟨f2,st2,φ2,hk,he.trans he2,hr2,ha2,hf.trans hf2⟩,.pass (x:=.inLoop c) rfl (fun _ _=>.inl (by simp)) harr⟩
   | panic ch=>exact⟨_,a₁,w₁,⟨f2,st2,φ2,hk,he.trans he2,hr2,ha2,hf.trans hf2⟩,.pass (x:=.inLoop c) rfl (fun _ _=>.inl (by simp)) harr⟩
   | outgrown=>exact⟨_,a₁,w₁,⟨f2,st2,φ2,hk,he.trans he2,hr2,ha2,hf.trans hf2⟩,.pass (x:=.inLoop c) rfl (fun _ _=>.inl (by simp)) harr⟩
 obtain⟨e,a',w',hq,harr⟩:=key k a w ⟨f,st,φ,h0,Ext.refl _,h2,h3,Fr.refl _ _ _⟩
 exact⟨e,a',w',hq,.of_steps (.one (fenced_calm hb hroom rfl) stepR_loop) harr⟩
variable (P T) in
def Fc (ops:Array Oper)(M:List Nat)(rd:Option Nat)(K:Fm→St→Prop)(fuel:Nat)(Af:List (Nat × AV))(listed:Array Bool)(f:Fm)(st:St):Prop :=
 Ck ops listed→PL Af listed→Cy P T ops M rd K fuel Af listed f st
theorem SW.dV {ops:Array Oper}(hm:P.follows .mixedOrders=true){rd:Option Nat}{id:Nat}{Q:Exit→Fm→St→Prop}{f:Fm}{st:St}(hM:He ops (Dr ops)=true)
  (h:Fc P T ops (Dr ops) rd (fun f' st'=>Q .normal f' st') ops.size [] (Array.replicate ops.size false) f st):SW P rd (.region id ops true) Q f st :=
 SW.drawn hm (Ky hM) (h Ha (fun p hp=>by cases hp))
theorem Fc.Db {ops:Array Oper}{M:List Nat}(hM:He ops M=true)(hT:TOk P T){rd:Option Nat}{K:Fm→St→Prop}(i:Nat){o:Oper}{r:AV}{fuel:Nat}{Af:List (Nat × AV)}{listed:Array Bool}{f:Fm}{st:St}(ho:ops[i]?=some o)
  (hr:(Region.ready .any ops listed).contains i=true)(hn:noLook ops Af o=true)(hl:lightV T ops st.h f i=some r)(h:Fc P T ops M rd K fuel ((i,r)::Af) (listed.setIfInBounds i true) (f.put o.dst r) st):Fc P T ops M rd K (fuel+1) Af listed f st:=fun hc hp=>by
 have hri:i∈Region.ready .any ops listed:=List.contains_iff_mem.1 hr
 refine Cy.take (Ky hM) hT ho fuel hc hp (iL hn) hri hl (h (hc.set hri) fun p hm=>?_)
 obtain⟨o',ho',hun,_⟩:=Cb hri
 rcases List.mem_cons.1 hm with rfl|hm
 ·have hlt:i<listed.size:=by
   rw[Array.getD_eq_getD_getElem?] at hun
   rcases Nat.lt_or_ge i listed.size with h|h
   ·exact h
   ·rw[Array.getElem?_eq_none h] at hun;cases hun
  show(listed.setIfInBounds i true).getD i false=true
  rw[Array.getD_eq_getD_getElem?,Array.getElem?_setIfInBounds]
  simp[hlt]
 ·exact getD_set_true (hp p hm)
theorem Fc.one {ops:Array Oper}{M:List Nat}{rd:Option Nat}{K:Fm→St→Prop}(i:Nat){o:Oper}{fuel:Nat}{Af:List (Nat × AV)}(pend':List (Nat × AV)){listed:Array Bool}{f:Fm}{st:St}(ho:ops[i]?=some o)
  (hr:Region.ready .any ops listed=[i])(hp:Cc T ops Af f st.h)(hd:Cg M i Af=pend')(h:Ac P rd ops [i] (fun f' st'=>∃ v,f'=f.put o.dst v∧Fc P T ops M rd K fuel pend' (listed.setIfInBounds i true) f' st') f st):Fc P T ops M rd K (fuel+1) Af listed f st:=fun hc hpl=>by
 subst hd
 refine Cy.all hp hr (by simp) fun j hj=>?_
 obtain rfl:j=i:=by simpa using hj
 refine⟨o,ho,h.mono fun f' st' ⟨v,hf,hk⟩=>⟨v,hf,hk (hc.set (by rw[hr];simp)) fun p hp=>getD_set_true (hpl p (List.mem_filter.1 hp).1)⟩⟩
theorem Fc.done {ops:Array Oper}{M:List Nat}{rd:Option Nat}{K:Fm→St→Prop}{fuel:Nat}{Af:List (Nat × AV)}{listed:Array Bool}{f:Fm}{st:St}(hr:Region.ready .any ops listed=[])(hp:Cc T ops Af f st.h)(h:K f st):Fc P T ops M rd K fuel Af listed f st:=fun _ _ =>
 Cy.done hp hr h fuel
theorem Ac.next {rd:Option Nat}{ops:Array Oper}{i:Nat}{f:Fm}{st:St}{o:Oper}{it:Operand}{K:Fm→St→Prop}(ho:ops[i]?=some o)(hx:o.op=.next it false)(hw:Region.wanted o (yA ops f.ts)=true)
  {rid mid since last id clock:Nat}{seen:List Nat}{es:List (AV × AV × Nat)}(hit:itOf st (Operand.av f.ts it)=some (rid,mid,since,seen,last))(hes:esOf st (.mp mid)=some (id,es,clock))
  (hc:(es.all (fun x=>Nat.blt x.2.2 since)&&Nat.ble since last)=true)
  (hend:(es.filter fun x=>!(seen.contains x.2.2))=[]→K (f.put o.dst (.tup [.lit (.bool false)])) st)
  (hgo:∀ x∈es,seen.contains x.2.2=false→K (f.put o.dst (.tup [.lit (.bool true),x.1,x.2.1])) ⟨st.h.set rid (.iter mid since (seen++[x.2.2]) clock),st.n⟩) :
  Ac P rd ops [i] (fun f' st'=>K f' st') f st:=by
 have hm:=Ac.Jj (P:=P) (rd:=rd) (ops:=ops) (i:=i) (f:=f) (st:=st) (o:=o)
  (outs:=(if(es.filter fun x=>!(seen.contains x.2.2))=[] then[(.tup [.lit (.bool false)],st)] else[])++(es.filter fun x=>!(seen.contains x.2.2)).map fun x=>(AV.tup [.lit (.bool true),x.1,x.2.1],(⟨st.h.set rid (.iter mid since (seen++[x.2.2]) clock),st.n⟩:St)))
  ho hw (fun c hc=>by rw[hx] at hc;cases hc) fun φ w a h2 h3=>by
   rcases Si (P:=P) (ty:=o.type) h2 (Bm h3.ts it) hit hes hc with ⟨k1,k2⟩|⟨x,hxm,w',v,k2,k3,k4,k5⟩
   ·exact⟨.tup [.lit (.bool false)],st,φ,w,_,by rw[k1];simp,.inl (by simp[execOp,hx,k2,Result.andThen]),.tup (us:=[.bool false]) (.cons (.lit _) .nil),h2,Ext.refl _,Fr.refl _ _ _⟩
   ·exact⟨_,_,φ,w',v,List.mem_append_right _ (List.mem_map_of_mem hxm),.inl (by simp[execOp,hx,k2,Result.andThen]),k3,k4,Ext.refl _,k5⟩
 refine hm.mono fun f' st' ⟨v,hf,hmem⟩=>?_
 subst hf
 rcases List.mem_append.1 hmem with h|h
 ·split at h
  ·rename_i h0
   obtain⟨rfl,rfl⟩:v=_∧st'=st:=by simpa using h
   exact hend h0
  ·cases h
 ·obtain⟨x,hx1,hx2⟩:=List.mem_map.1 h
  cases hx2
  obtain⟨h5,h6⟩:=List.mem_filter.1 hx1
  exact hgo x h5 (by simpa using h6)
theorem Ac.entry {rd:Option Nat}{ops:Array Oper}{i:Nat}{f:Fm}{st:St}{o:Oper}{it:Operand}{l:List Nat}{K:Fm→St→Prop}(ho:ops[i]?=some o)(hx:o.op=.entry it)(hw:Region.wanted o (yA ops f.ts)=true)
  {rid mid since last id clock s:Nat}{seen:List Nat}{es:List (AV × AV × Nat)}{x:AV × AV × Nat}(hit:itOf st (Operand.av f.ts it)=some (rid,mid,since,seen,last))(hes:esOf st (.mp mid)=some (id,es,clock))
  (hs:seen.getLast?=some s)(hc:(Nat.beq clock last&&Ej es)=true)(hf:es.filter (fun x=>Nat.beq x.2.2 s)=[x])(h:Ac P rd ops l K (f.put o.dst (.tup [x.1,x.2.1])) st):Ac P rd ops (i::l) K f st :=
 Ac.value ho hw (fun c hc=>by rw[hx] at hc;cases hc) (fun φ w a h2 h3=>by
  obtain⟨v,k1,k2⟩:=Qa (P:=P) h2 (Bm h3.ts it) hit hes hs hc hf
  exact⟨φ,w,v,.inl (by simp[execOp,hx,k1,Result.andThen]),k2,h2,Ext.refl _,Fr.refl _ _ _⟩) h
end
end Go.Ev
