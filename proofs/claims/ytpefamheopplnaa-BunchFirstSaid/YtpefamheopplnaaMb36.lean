/- Own work of the verifier of watercress: FzD3, FzD4, FzD5, FzD6, FzD7. -/
import Derived.Test.YtpefamheopplnaaMb35
set_option linter.unusedVariables false
set_option linter.unusedSimpArgs false
namespace Go.Fz
open Go.Proofs
set_option maxRecDepth 100000
set_option maxHeartbeats 8000000 in
theorem qu8 (g:FuncId)(p q u:Int)(hof:Pure Try.prog g [.agg [iV p,iV q]] (iV u))(ME:List (AV × AV × Nat))(cl:Nat)(S:List Nat)(m:Nat)(hm:m<100000)(fl:Nat→Int)(G:List AV)(hG:G=flatG 1 (qb6 fl) (m+1)) :
    qbb Try.prog 6 [.agg [iV p,iV q]] ⟨(9,.cells none false [iV p,iV q])::(7,.iter 0 cl S cl)::enH g ME cl (.sl 8 0 (m+1) 1 false)++[(8,.cells none false G)],10⟩
      (fun v st'=>v=.lit (.bool true)∧∃ o8,st'=⟨(12,.cells (some 8) false (G++[iV u]))::(11,.cells none false [iV u])::(10,.cells none false [iV p,iV q])::(9,.cells none false [iV p,iV q])::(7,.iter 0 cl S cl)::enH g ME cl (.sl 12 0 (m+1+1) 1 false)++[(8,o8)],13⟩):=by
  obtain⟨O,hO⟩:∃ O:Ar,O=std:=⟨_,rfl⟩
  refine qbb.qdm (r:=enR) rfl rfl ?_
  refine SW.run tok hO (by cbv <;> rfl) (by trivial) ?_
  refine⟨enR,rfl,rfl,SW.block ?_⟩
  obtain⟨RB,hRB⟩:∃ r,r=({ enR with state:=.busy}:qcu):=⟨_,rfl⟩
  rw[←hRB]
  refine SW.runD tok mixed hO (by rfl) (by cbv <;> rfl) (by trivial) ?_
  refine AnyE.qas hof (by cbv <;> rfl) (by cbv <;> rfl) ?_
  refine AnyE.run tok hO (by rfl) (by cbv <;> rfl) (by trivial) ?_
  refine AnyE.qey tok hO (by cbv <;> rfl) (by cbv <;> rfl) (by trivial) ?_ ?_
  · exact(by repeat (first | exact trivial | refine And.intro (by first | exact qby hO (by cbv <;> rfl) (by trivial) | (cbv <;> rfl)) ?_))
  refine AnyE.run tok hO (by rfl) (by cbv <;> rfl) (by trivial) ?_
  refine AnyE.qeh (g:=qb6 fl) (len:=m+1) tok (by cbv <;> rfl) (by cbv <;> rfl) (by rfl) (by rfl) hG (by kernel_rfl) (by rfl) (by rfl) (by omega) fun G' hG'=>?_
  refine AnyE.run tok hO (by rfl) (by cbv <;> rfl) (by trivial) ?_
  refine AnyE.eff tok hO (by cbv <;> rfl) (by cbv <;> rfl) (by trivial) ?_
  refine AnyE.done (by rfl) ?_
  rw[←hG] at hG'
  subst hG'
  subst hRB
  exact⟨_,rfl,rfl,_,rfl⟩
def vsL (val:PK→Int)(x:List (PK × Nat))(i:Nat):Int:=(x.map fun p=>val p.1).getD i 0
theorem qv6 (val:PK→Int)(x:List (PK × Nat))(p:PK × Nat):flatG 1 (qb6 (vsL val x)) x.length++[iV (val p.1)]=flatG 1 (qb6 (vsL val (x++[p]))) (x.length+1):=by
  have h1:flatG 1 (qb6 (vsL val (x++[p]))) x.length=flatG 1 (qb6 (vsL val x)) x.length:=qd5 fun i k hi=>by
    show iV (vsL val (x++[p]) i)=iV (vsL val x i)
    unfold vsL
    rw[List.map_append,List.getD_eq_getElem?_getD,List.getElem?_append_left (by simpa using hi),←List.getD_eq_getElem?_getD]
  have h2:vsL val (x++[p]) x.length=val p.1:=by unfold vsL;simp
  show _=flatG 1 (qb6 (vsL val (x++[p]))) x.length++[iV (vsL val (x++[p]) x.length)]
  rw[h1,h2]
theorem qo2 (m:Nat):qm3 (qek 8 m) 9 (.loop enR) (.loop enR) :=
  .loop rfl rfl rfl rfl rfl rfl (by show 5<9;omega) rfl (qaf.getT (l:=enL) ⟨qaf.ptr (by omega),qaf.ptr (by omega),qaf.ptr (by omega),qaf.fn .nil (.cons (qaf.ptr (by omega)) .nil),trivial⟩)
set_option maxHeartbeats 16000000 in
theorem keys99 (g:FuncId)(val:PK→Int)(E:List (PK × Nat))(cl:Nat)(hb:qpd E cl)(hE:E.length<100000)(hof:∀ p∈E,Pure Try.prog g [pkV p.1] (iV (val p.1)))(K:AV→St→Prop)
    (hK:∀ (x:List (PK × Nat))(it:AObj),it.fam=none→x.length≤E.length→(∀ p∈x,p∈E)→(∀ p∈E,p∈x)→K (.tup []) ⟨(7,it)::enH g (qcp pkV E) cl (slG 8 1 x.length)++objG 8 1 (qb6 (vsL val x)) x.length,9⟩) :
    qax Try.prog 99 [.yld 6,.ptr 1 0] ⟨enH g (qcp pkV E) cl nl3,7⟩ K:=by
  obtain⟨O,hO⟩:∃ O:Ar,O=std:=⟨_,rfl⟩
  have hes:∀ x∈qcp pkV E,∃ p∈E,x=(pkV p.1,.lit (.bool true),p.2):=fun x hx=>by
    obtain⟨p,hp,rfl⟩:=List.mem_map.1 hx
    exact⟨p,hp,rfl⟩
  have hborn:((qcp pkV E).all (fun x=>Nat.blt x.2.2 cl)&&Nat.ble cl cl)=true:=by
    rw[Bool.and_eq_true]
    refine⟨List.all_eq_true.2 fun x hx=>?_,by rw[Nat.ble_eq];exact Nat.le_refl _⟩
    obtain⟨p,hp,rfl⟩:=hes x hx
    show Nat.ble _ _=true
    rw[Nat.ble_eq]
    exact hb.1 p hp
  have hmap:(qcp pkV E).map (fun x=>x.2.2)=E.map (·.2):=by simp[qcp,List.map_map,Function.comp_def]
  have hborn2:(Nat.beq cl cl&&qcr (qcp pkV E))=true:=by
    rw[Nat.beq_refl,Bool.true_and]
    unfold qcr
    rw[hmap]
    exact decide_eq_true hb.2
  have hclosed:∀ x∈qcp pkV E,Below 0 x.1∧Below 0 x.2.1:=fun x hx=>by
    obtain⟨p,_,rfl⟩:=hes x hx
    exact⟨qfo _,Below.lit⟩
  have hlenE:(qcp pkV E).length=E.length:=by simp[qcp]
  have hmemE:∀ p∈E,(pkV p.1,AV.lit (.bool true),p.2)∈qcp pkV E:=fun p hp=>List.mem_map.2 ⟨p,hp,rfl⟩
  obtain⟨ME,hME⟩:∃ m,qcp pkV E=m:=⟨_,rfl⟩
  rw[hME] at hes hborn hborn2 hmap hclosed hlenE hmemE hK ⊢
  refine qat tok Try.func99 rfl ?_
  refine SW.seq (SW.runN tok hO 1 (by cbv <;> rfl) (by trivial) ?_)
  refine qac.range tok (kt:=121) (by cbv <;> rfl) (by kernel_rfl) (by rfl) ?_
  refine qac.nil ?_
  refine(SW.block (SW.qmn (fun _:List (PK × Nat)=>⟨⟨14,getT [(0,.yld 6),(1,.ptr 1 0),(5,.ptr 7 0)]⟩,[]⟩) (fun x=>⟨(7,.iter 0 cl (x.map (·.2)) cl)::enH g ME cl (slG 8 1 x.length)++objG 8 1 (qb6 (vsL val x)) x.length,9⟩)
    (fun x=>(ME.filter fun y=>!((x.map (·.2)).contains y.2.2)).length) (fun x=>(∀ p∈x,p∈E)∧(ME.filter fun y=>!((x.map (·.2)).contains y.2.2)).length+x.length≤E.length) [] ⟨(fun _ h=>nomatch h),by have:=List.length_filter_le (fun y:AV × AV × Nat=>!((([]:List (PK × Nat)).map (·.2)).contains y.2.2)) ME;rw[List.length_nil];omega⟩ (qek 8 8) ?_ fun x hx=>?_))
  · exact qbx.up rfl rfl (by simp) (Nat.le_refl _) (.inl rfl) (by show 8≤9;omega) ⟨qaf.yld (by omega),qaf.ptr (by omega),qaf.ptr (by omega),trivial⟩
      ⟨⟨by omega,_,rfl,.iter (by omega),.inr rfl⟩,⟨by omega,_,rfl,qo2 8,.inr rfl⟩,⟨by omega,_,rfl,.dfr,.inr rfl⟩,⟨by omega,_,rfl,.cells (.cons (qaf.closed Below.lit) .nil),.inr rfl⟩,⟨by omega,_,rfl,.cells (.cons (qaf.closed Below.lit) (.cons (qaf.closed Below.lit) .nil)),.inr rfl⟩,
        ⟨by omega,_,rfl,.cells (.cons (qaf.closed (Below.fn (fun _ h=>nomatch h) (fun _ h=>nomatch h))) .nil),.inr rfl⟩,⟨by omega,_,rfl,.cells (.cons (qaf.mp (by omega)) .nil),.inr rfl⟩,⟨by omega,_,rfl,.map hclosed,.inr rfl⟩,trivial⟩ (fun p hp=>by cases hp)
  obtain⟨hx,hmeas⟩:=hx
  have hxl:x.length≤E.length:=by omega
  obtain⟨S,hS⟩:∃ s,x.map (·.2)=s:=⟨_,rfl⟩
  have hend:(ME.filter fun y=>!(S.contains y.2.2))=[]→∀ p∈E,p∈x:=fun hend p hp=>by
    have hin:p.2∈S:=by
      have:=List.filter_eq_nil_iff.1 hend _ (hmemE p hp)
      simpa using this
    rw[←hS] at hin
    obtain⟨q,hq,hqp⟩:=List.mem_map.1 hin
    have h5:q∈E.filter (fun y=>Nat.beq y.2 p.2):=List.mem_filter.2 ⟨hx q hq,by show Nat.beq q.2 p.2=true;rw[hqp];exact Nat.beq_refl _⟩
    rw[qdl (g:=fun y:PK × Nat=>y.2) hb.2 hp,List.mem_singleton] at h5
    rw[←h5];exact hq
  have hnext:∀ p∈E,S.contains p.2=false→(ME.filter fun y=>!(((x++[p]).map (·.2)).contains y.2.2)).length<(ME.filter fun y=>!((x.map (·.2)).contains y.2.2)).length:=fun p hp hn=>by
    refine filter_lt (p:=(pkV p.1,AV.lit (.bool true),p.2)) (fun q h=>?_) (hmemE p hp) ?_ ?_
    · simp at h ⊢;exact h.1
    · show(!(x.map (·.2)).contains p.2)=true
      rw[hS,hn];rfl
    · show(!((x++[p]).map (·.2)).contains p.2)=false
      simp
  have hinv:∀ p∈E,S.contains p.2=false→(∀ q∈x++[p],q∈E)∧(ME.filter fun y=>!(((x++[p]).map (·.2)).contains y.2.2)).length+(x++[p]).length≤E.length:=fun p hp hn=>by
    refine⟨fun q hq=>?_,?_⟩
    · rcases List.mem_append.1 hq with hq | hq
      · exact hx q hq
      · rw[List.mem_singleton.1 hq];exact hp
    · have:=hnext p hp hn
      rw[List.length_append,List.length_singleton];omega
  have hSx:∀ p:PK × Nat,(x++[p]).map (·.2)=S++[p.2]:=fun p=>by rw[List.map_append,hS];rfl
  have hxp:∀ p:PK × Nat,(x++[p]).length=x.length+1:=fun p=>by rw[List.length_append,List.length_singleton]
  have hsn:=qv6 val x
  rw[hS]
  cases hn:x.length with
  | zero =>
    obtain rfl:x=[]:=List.length_eq_zero_iff.1 hn
    have hS0:S=[]:=hS.symm
    refine SW.seq (SW.runN tok hO 0 (by cbv <;> rfl) (by trivial) ?_)
    refine qac.nextL (a:=.ptr 7 0) (by cbv <;> rfl) (by rfl) (by rfl) hborn (fun he=>?_) (fun y hy hny=>?_)
    · refine qac.run tok hO (by cbv <;> rfl) (by trivial) ?_
      refine SW.seq (SW.cond (t:=false) (by cbv <;> rfl) (SW.exit ?_))
      exact⟨_,_,rfl,rfl,hK [] _ rfl hxl hx (hend he)⟩
    · obtain⟨p,hp,rfl⟩:=hes y hy
      have hfil:ME.filter (fun x=>Nat.beq x.2.2 p.2)=[(pkV p.1,.lit (.bool true),p.2)]:=qdl (g:=fun x:AV × AV × Nat=>x.2.2) (x:=(pkV p.1,.lit (.bool true),p.2)) (by rw[hmap];exact hb.2) hy
      have hof':=hof p hp
      have hnx:=hnext p hp hny
      rw[hS] at hnx
      have hin:=hinv p hp hny
      have hsn:=hsn p
      have hSx:=hSx p
      have hxp:=hxp p
      obtain⟨⟨⟨a,b⟩,hab⟩,born⟩:=p
      obtain⟨u,hu⟩:∃ u,val ⟨(a,b),hab⟩=u:=⟨_,rfl⟩
      simp only [hu] at hof' hsn
      obtain⟨S2,hS2⟩:∃ s,S++[born]=s:=⟨_,rfl⟩
      show qac _ _ _ _ _ _ ⟨(7,.iter 0 cl (S++[born]) cl)::enH g ME cl nl3,9⟩
      rw[hS2]
      refine qac.run tok hO (by cbv <;> rfl) (by trivial) ?_
      refine SW.seq (SW.cond (t:=true) (by cbv <;> rfl) (SW.skip ?_))
      refine SW.block ?_
      refine SW.seq (SW.runN tok hO 0 (by cbv <;> rfl) (by trivial) ?_)
      have hlast:S2.getLast?=some born:=by rw[←hS2];simp
      refine qac.qu6 (a:=.ptr 7 0) (by cbv <;> rfl) (by rfl) (by rfl) hlast hborn2 hfil ?_
      refine qac.run tok hO (by cbv <;> rfl) (by trivial) ?_
      refine SW.seq (SW.runN tok hO 2 (by cbv <;> rfl) (by trivial) ?_)
      refine qac.apply (c:=.yld 6) (args:=[.agg [iV a,iV b]]) (by cbv <;> rfl) (qu9 g a b u hof' ME cl (.iter 0 cl S2 cl)) fun v st' hv=>?_
      obtain⟨rfl,rfl⟩:=hv
      refine qac.run tok hO (by cbv <;> rfl) (by trivial) ?_
      refine SW.cond (t:=false) (by cbv <;> rfl) (SW.skip ?_)
      refine⟨[(⟨(a,b),hab⟩,born)],hnx,hin,qek 8 12,?_⟩
      have e1:([(⟨(a,b),hab⟩,born)]:List (PK × Nat)).map (·.2)=S2:=by rw[←hS2,hS0];rfl
      rw[e1]
      refine qbx.up rfl rfl (by simp) (Nat.le_refl _) (.inr (by omega)) (by show 8≤9;omega) ⟨qaf.yld (by omega),qaf.ptr (by omega),qaf.ptr (by omega),trivial⟩
        ⟨⟨by omega,_,rfl,.iter (by omega),.inr rfl⟩,⟨by omega,_,rfl,qo2 12,.inr rfl⟩,⟨by omega,_,rfl,.dfr,.inr rfl⟩,⟨by omega,_,rfl,.cells (.cons (qaf.sl (by omega)) .nil),.inr rfl⟩,⟨by omega,_,rfl,.cells (.cons (qaf.closed Below.lit) (.cons (qaf.closed Below.lit) .nil)),.inr rfl⟩,
          ⟨by omega,_,rfl,.cells (.cons (qaf.closed (Below.fn (fun _ h=>nomatch h) (fun _ h=>nomatch h))) .nil),.inr rfl⟩,⟨by omega,_,rfl,.cells (.cons (qaf.mp (by omega)) .nil),.inr rfl⟩,⟨by omega,_,rfl,.map hclosed,.inr rfl⟩,trivial⟩ (fun p hp=>?_)
      obtain rfl:=qcm hp
      exact⟨by omega,_,rfl,.cells (qay.of_eq hsn (qar (fun _ _=>Below.lit) _)),.inl rfl⟩
  | succ m =>
    obtain⟨G,hG⟩:∃ G,G=flatG 1 (qb6 (vsL val x)) (m+1):=⟨_,rfl⟩
    show SW _ _ _ _ _ ⟨(7,.iter 0 cl S cl)::enH g ME cl (.sl 8 0 (m+1) 1 false)++[(8,.cells none false (flatG 1 (qb6 (vsL val x)) (m+1)))],9⟩
    rw[←hG]
    refine SW.seq (SW.runN tok hO 0 (by cbv <;> rfl) (by trivial) ?_)
    refine qac.nextL (a:=.ptr 7 0) (by cbv <;> rfl) (by rfl) (by rfl) hborn (fun he=>?_) (fun y hy hny=>?_)
    · refine qac.run tok hO (by cbv <;> rfl) (by trivial) ?_
      refine SW.seq (SW.cond (t:=false) (by cbv <;> rfl) (SW.exit ?_))
      have hk:=hK x (.iter 0 cl S cl) rfl hxl hx (hend he)
      rw[hn] at hk
      rw[hG]
      exact⟨_,_,rfl,rfl,hk⟩
    · obtain⟨p,hp,rfl⟩:=hes y hy
      have hfil:ME.filter (fun x=>Nat.beq x.2.2 p.2)=[(pkV p.1,.lit (.bool true),p.2)]:=qdl (g:=fun x:AV × AV × Nat=>x.2.2) (x:=(pkV p.1,.lit (.bool true),p.2)) (by rw[hmap];exact hb.2) hy
      have hof':=hof p hp
      have hnx:=hnext p hp hny
      rw[hS] at hnx
      have hin:=hinv p hp hny
      have hsn:=hsn p
      have hSx:=hSx p
      have hxp:=hxp p
      rw[hn] at hsn hxp
      rw[←hG] at hsn
      obtain⟨⟨⟨a,b⟩,hab⟩,born⟩:=p
      obtain⟨u,hu⟩:∃ u,val ⟨(a,b),hab⟩=u:=⟨_,rfl⟩
      simp only [hu] at hof' hsn
      obtain⟨S2,hS2⟩:∃ s,S++[born]=s:=⟨_,rfl⟩
      show qac _ _ _ _ _ _ ⟨(7,.iter 0 cl (S++[born]) cl)::enH g ME cl (.sl 8 0 (m+1) 1 false)++[(8,.cells none false G)],9⟩
      rw[hS2]
      refine qac.run tok hO (by cbv <;> rfl) (by trivial) ?_
      refine SW.seq (SW.cond (t:=true) (by cbv <;> rfl) (SW.skip ?_))
      refine SW.block ?_
      refine SW.seq (SW.runN tok hO 0 (by cbv <;> rfl) (by trivial) ?_)
      have hlast:S2.getLast?=some born:=by rw[←hS2];simp
      refine qac.qu6 (a:=.ptr 7 0) (by cbv <;> rfl) (by rfl) (by rfl) hlast hborn2 hfil ?_
      refine qac.run tok hO (by cbv <;> rfl) (by trivial) ?_
      refine SW.seq (SW.runN tok hO 2 (by cbv <;> rfl) (by trivial) ?_)
      refine qac.apply (c:=.yld 6) (args:=[.agg [iV a,iV b]]) (by cbv <;> rfl) (qu8 g a b u hof' ME cl S2 m (by omega) (vsL val x) G hG) fun v st' hv=>?_
      obtain⟨rfl,o8,rfl⟩:=hv
      obtain⟨G2,hG2⟩:∃ G2,G++[iV u]=G2:=⟨_,rfl⟩
      rw[hG2]
      refine qac.run tok hO (by cbv <;> rfl) (by trivial) ?_
      refine SW.cond (t:=false) (by cbv <;> rfl) (SW.skip ?_)
      refine⟨x++[(⟨(a,b),hab⟩,born)],hnx,hin,qek 8 12,?_⟩
      rw[hSx,hS2,hxp]
      refine qbx.up rfl rfl (by simp) (Nat.le_refl _) (.inr (by omega)) (by show 8≤9;omega) ⟨qaf.yld (by omega),qaf.ptr (by omega),qaf.ptr (by omega),trivial⟩
        ⟨⟨by omega,_,rfl,.iter (by omega),.inr rfl⟩,⟨by omega,_,rfl,qo2 12,.inr rfl⟩,⟨by omega,_,rfl,.dfr,.inr rfl⟩,⟨by omega,_,rfl,.cells (.cons (qaf.sl (by omega)) .nil),.inr rfl⟩,⟨by omega,_,rfl,.cells (.cons (qaf.closed Below.lit) (.cons (qaf.closed Below.lit) .nil)),.inr rfl⟩,
          ⟨by omega,_,rfl,.cells (.cons (qaf.closed (Below.fn (fun _ h=>nomatch h) (fun _ h=>nomatch h))) .nil),.inr rfl⟩,⟨by omega,_,rfl,.cells (.cons (qaf.mp (by omega)) .nil),.inr rfl⟩,⟨by omega,_,rfl,.map hclosed,.inr rfl⟩,trivial⟩ (fun p hp=>?_)
      obtain rfl:=qcm hp
      exact⟨by omega,_,rfl,.cells (qay.of_eq (hG2.symm.trans hsn) (qar (fun _ _=>Below.lit) _)),.inl rfl⟩
end Go.Fz
namespace Go.Fz
open Go.Proofs
set_option maxRecDepth 100000
set_option maxHeartbeats 16000000 in
theorem qo1 (g:FuncId)(val:PK→Int)(E:List (PK × Nat))(cl:Nat)(hb:qpd E cl)(hE:E.length<100000)(hof:∀ p∈E,Pure Try.prog g [pkV p.1] (iV (val p.1)))(lo hi:Int)
    (hlo:∃ p∈E,val p.1=lo)(hlo':∀ p∈E,lo≤val p.1)(hhi:∃ p∈E,val p.1=hi)(hhi':∀ p∈E,val p.1≤hi) :
    qax Try.prog 59 [.fn (.func 99) [] [.ptr 1 0],.fn (.func g) [] []] (roM (qcp pkV E) cl) (fun v st'=>st'.h.get 0=some (.map (qcp pkV E) cl)∧freeB st'.h qgy=true∧Eqv (frz st'.h qgy 3 v) (qc8 lo hi)):=by
  obtain⟨O,hO⟩:∃ O:Ar,O=std:=⟨_,rfl⟩
  obtain⟨ME,hME⟩:∃ m,qcp pkV E=m:=⟨_,rfl⟩
  have hkeys:=keys99 g val E cl hb hE hof
  rw[hME] at hkeys ⊢
  refine qat tok Try.func59 rfl ?_
  refine SW.qab tok hO (by cbv <;> rfl) (by trivial) ?_
  refine SW.qab tok hO (by cbv <;> rfl) (by trivial) ?_
  refine SW.seq ?_
  refine SW.qab tok hO (by cbv <;> rfl) (by trivial) ?_
  refine SW.block ?_
  refine SW.pre (f2:=⟨⟨24,getT enL⟩,[]⟩) (st2:=⟨[(4,.cells none false [nl3]),(3,.cells none false [iV 0,iV 0]),(2,.cells none false [.fn (.func g) [] []]),(1,.cells none true [.mp 0]),(0,.map ME cl)],5⟩) ?_ ?_
  · exact qdt.by rfl rfl (fun _ h=>nomatch h) (Nat.le_refl _) (Nat.le_refl _) ⟨⟨rfl,.inl rfl⟩,⟨rfl,.inl rfl⟩,⟨rfl,.inl rfl⟩,⟨rfl,.inl rfl⟩,trivial⟩ ⟨⟨rfl,by show _<5;omega,.inl rfl⟩,⟨rfl,by show _<5;omega,.inl rfl⟩,⟨rfl,by show _<5;omega,.inl rfl⟩,⟨rfl,by show _<5;omega,.inl rfl⟩,⟨rfl,by show _<5;omega,.inl rfl⟩,trivial⟩
  refine SW.rangeFunc (gf:=99) (first:=[]) (caps:=[.ptr 1 0]) (by rfl) en99 ?_
  refine(show qax Try.prog 99 [.yld 6,.ptr 1 0] ⟨enH g ME cl nl3,7⟩ _ from hkeys _ fun x it hit hxl hx hcov=>?_)
  refine⟨enR,rfl,(fun h=>by simp[enR] at h),?_⟩
  have hne:x.length≠0:=fun h=>by
    obtain⟨p,hp,_⟩:=hlo
    have:=hcov p hp
    rw[List.length_eq_zero_iff.1 h] at this
    cases this
  have hlen:x.length<100000:=by omega
  have hmem:∀ i,i<x.length→∃ p∈E,vsL val x i=val p.1:=fun i hi=>⟨x[i],hx _ (List.getElem_mem hi),by unfold vsL;simp[hi]⟩
  have hcv:∀ p∈E,∃ i,i<x.length∧vsL val x i=val p.1:=fun p hp=>by
    obtain⟨i,hi,he⟩:=List.getElem_of_mem (hcov p hp)
    exact⟨i,hi,by unfold vsL;simp[hi,he]⟩
  generalize vsL val x=V at hmem hcv ⊢
  generalize x.length=N at hne hlen hmem hcv ⊢
  obtain⟨m,rfl⟩:∃ m,N=m+1:=⟨N - 1,by omega⟩
  obtain⟨G,hG⟩:∃ G,G=flatG 1 (qb6 V) (m+1):=⟨_,rfl⟩
  show SW Try.prog none _ _ ⟨⟨24,getT enL⟩,[5]⟩ ⟨(7,it)::(6,.loop { enR with state:=.exhausted})::(5,.dfr)::(4,.cells none false [.sl 8 0 (m+1) 1 false])::(3,.cells none false [iV 0,iV 0])::(2,.cells none false [.fn (.func g) [] []])::(1,.cells none true [.mp 0])::(0,.map ME cl)::[(8,.cells none false (flatG 1 (qb6 V) (m+1)))],9⟩
  rw[←hG]
  refine SW.pre (f2:=⟨⟨24,getT [(4,.ptr 3 0),(5,.ptr 4 0)]⟩,[5]⟩) (st2:=⟨[(8,.cells none false G),(5,.dfr),(4,.cells none false [.sl 8 0 (m+1) 1 false]),(3,.cells none false [iV 0,iV 0]),(1,.cells none true [.mp 0]),(0,.map ME cl)],9⟩) ?_ ?_
  · exact qdt.by rfl rfl (by simp) (Nat.le_refl _) (Nat.le_refl _) ⟨⟨rfl,.inl rfl⟩,⟨rfl,.inl rfl⟩,trivial⟩ ⟨⟨rfl,by show _<9;omega,.inl rfl⟩,⟨rfl,by show _<9;omega,.inl rfl⟩,⟨rfl,by show _<9;omega,.inl rfl⟩,⟨rfl,by show _<9;omega,.inl rfl⟩,⟨rfl,by show _<9;omega,.inl rfl⟩,⟨rfl,by show _<9;omega,.inl rfl⟩,trivial⟩
  refine SW.qe7 (fun j=>Nat.beq j 8) 3 (by rfl) ?_
  obtain⟨NN,hNN⟩:∃ NN,NN=m+1:=⟨_,rfl⟩
  refine SW.preR (f2:=⟨⟨24,getT [(4,.ptr 3 0),(5,.ptr 4 0)]⟩,[5]⟩) (st2:=⟨[(5,.dfr),(4,.cells none false [qap NN false V]),(3,.cells none false [iV 0,iV 0]),(1,.cells none true [.mp 0]),(0,.map ME cl)]++[],9⟩) (ρ:=qek 9 9) ?_ ?_
  · refine qbx.up rfl rfl (fun id h=>by rw[List.mem_singleton.1 h];show 5<9;omega) (Nat.le_refl _) (.inl rfl) (Nat.le_refl _) ⟨qaf.ptr (by omega),qaf.ptr (by omega),trivial⟩
      ⟨⟨by omega,_,rfl,.dfr,.inr rfl⟩,⟨by omega,_,rfl,.cells (.cons (qaf.eqv (qaf.closed (qa3 _ _ _)) ?_) .nil),.inr rfl⟩,⟨by omega,_,rfl,.cells (.cons (qaf.closed Below.lit) (.cons (qaf.closed Below.lit) .nil)),.inr rfl⟩,⟨by omega,_,rfl,.cells (.cons (qaf.mp (by omega)) .nil),.inr rfl⟩,⟨by omega,_,rfl,.map (by rw[←hME];exact fun x hx=>by obtain⟨p,_,rfl⟩:=List.mem_map.1 hx;exact⟨qfo _,Below.lit⟩),.inr rfl⟩,trivial⟩ (fun p hp=>by cases hp)
    rw[qcc (fm:=none) (G:=G) rfl rfl (by rw[hG,qaj];omega),hNN]
    exact Eqv.isl rfl fun i k hi hk=>Eqv.of (by rw[hG];exact qcn hi hk rfl)
  have hN0:(0:Int)<Int.ofNat NN:=by rw[hNN];exact Int.ofNat_lt.2 (Nat.succ_pos m)
  have hmin:leN (V 0) (fun i=>V (1+i)) m=lo:=by
    obtain⟨⟨h1,h2⟩,h3⟩:=qnj (V 0) (fun i=>V (1+i)) m
    obtain⟨p,hp,he⟩:=hlo
    obtain⟨i,hi,hVi⟩:=hcv p hp
    have hge:leN (V 0) (fun i=>V (1+i)) m≤lo:=by
      rw[←he,←hVi]
      cases i with
      | zero=>exact h1
      | succ i =>
        have h4:leN (V 0) (fun i=>V (1+i)) m≤V (1+i):=h2 i (by omega)
        rw[show 1+i=i+1 by omega] at h4;exact h4
    have hle:lo≤leN (V 0) (fun i=>V (1+i)) m:=by
      rcases h3 with h3 | ⟨j,hj,h3⟩
      · obtain⟨p,hp,e⟩:=hmem 0 (by omega)
        rw[h3,e];exact hlo' p hp
      · obtain⟨p,hp,e⟩:=hmem (1+j) (by omega)
        rw[h3]
        show lo≤V (1+j)
        rw[e];exact hlo' p hp
    omega
  have hmax:grN (V 0) (fun i=>V (i+1)) m=hi:=by
    obtain⟨⟨h1,h2⟩,h3⟩:=qnm (V 0) (fun i=>V (i+1)) m
    obtain⟨p,hp,he⟩:=hhi
    obtain⟨i,hi',hVi⟩:=hcv p hp
    have hge:hi≤grN (V 0) (fun i=>V (i+1)) m:=by
      rw[←he,←hVi]
      cases i with
      | zero=>exact h1
      | succ i=>exact h2 i (by omega)
    have hle:grN (V 0) (fun i=>V (i+1)) m≤hi:=by
      rcases h3 with h3 | ⟨j,hj,h3⟩
      · obtain⟨p,hp,e⟩:=hmem 0 (by omega)
        rw[h3,e];exact hhi' p hp
      · obtain⟨p,hp,e⟩:=hmem (j+1) (by omega)
        rw[h3]
        show V (j+1)≤hi
        rw[e];exact hhi' p hp
    omega
  have c97:Pure Try.prog 97 [iV (V (O.nat 0)),.isl (O.sub NN (O.nat 1)) 1 false (fun i=>qb6 V (O.add (O.nat 1) i))] (iV lo):=by
    subst hO
    show Pure Try.prog 97 [iV (V 0),qap (NN - 1) false (fun i=>V (1+i))] (iV lo)
    rw[hNN,Nat.add_sub_cancel,←hmin]
    exact qqd (V 0) m false (fun i=>V (1+i)) (by omega)
  have c98:Pure Try.prog 98 [.isl NN 1 false (qb6 V)] (iV hi):=by
    have:=qj1 NN false V (by omega) (by omega)
    rw[hNN,Nat.add_sub_cancel,hmax,←hNN] at this
    exact this
  refine SW.qbf tok mixed hO (by rfl) (by cbv <;> rfl) ?_ ?_
  · have hn1:O.nat 1=1:=by subst hO;rfl
    refine⟨?_,Nat.le_refl _,(by decide:(0:Int)≤1),Int.le_refl _,hN0⟩
    show O.nat 1≤NN
    rw[hn1];omega
  refine AnyE.qas c97 (by cbv <;> rfl) (by cbv <;> rfl) ?_
  refine AnyE.run tok hO (by rfl) (by cbv <;> rfl) (by trivial) ?_
  refine AnyE.qas c98 (by cbv <;> rfl) (by cbv <;> rfl) ?_
  refine AnyE.run tok hO (by rfl) (by cbv <;> rfl) (by trivial) ?_
  refine AnyE.eff tok hO (by cbv <;> rfl) (by cbv <;> rfl) (by trivial) ?_
  refine AnyE.done (by rfl) ?_
  exact SW.ret ⟨_,_,rfl,rfl,rfl,rfl,Eqv.of rfl⟩
theorem ends59 (g:FuncId)(val:PK→Int)(E:List (PK × Nat))(cl:Nat)(hb:qpd E cl)(hE:E.length<100000)(hof:∀ p∈E,Pure Try.prog g [pkV p.1] (iV (val p.1)))(lo hi:Int)
    (hlo:∃ p∈E,val p.1=lo)(hlo':∀ p∈E,lo≤val p.1)(hhi:∃ p∈E,val p.1=hi)(hhi':∀ p∈E,val p.1≤hi){st:St}{mid bid:Nat}{fm:Option Nat}{ro:Bool}
    (hm:st.h.get mid=some (.map (qcp pkV E) cl))(hc:st.h.get bid=some (.cells fm ro [.mp mid])) :
    qax Try.prog 59 [.fn (.func 99) [] [.ptr bid 0],.fn (.func g) [] []] st (fun v st'=>v=qc8 lo hi∧st'=st):=by
  refine call_roM (args2:=[.fn (.func 99) [] [.ptr 1 0],.fn (.func g) [] []]) hm hc (fun x hx=>by obtain⟨p,_,rfl⟩:=List.mem_map.1 hx;exact⟨qfo _,Below.lit⟩) (Below.agg (qb2.ok ⟨Below.lit,Below.lit,trivial⟩)) (fun φ us h=>?_) (qo1 g val E cl hb hE hof lo hi hlo hlo' hhi hhi')
  cases h with
  | cons h1 h2 =>
    obtain⟨us1,vs1,rfl,k1,k2⟩:=h1.qed
    cases h2 with
    | cons h3 h4 =>
      obtain⟨us2,vs2,rfl,k3,k4⟩:=h3.qed
      cases h4
      cases k1;cases k3;cases k4
      cases k2 with
      | cons k5 k6 =>
        cases k6
        obtain⟨rfl,_⟩:=k5.qca
        refine .cons (.fn _ .nil (.cons ?_ .nil)) (.cons (.fn _ .nil .nil) .nil)
        exact VR.ptr (φ:=⟨fun i=>if i=0 then φ.f mid else φ.f bid,2,φ.z⟩) 1 0 (by show 1<2;omega)
end Go.Fz
namespace Go.Fz
open Go.Proofs
set_option maxRecDepth 100000
noncomputable def evlP:Code × Code:=match nthC 2 (bodyF Try.f65) with
  | .seq _ (.block _ (.rangeFunc _ _ a b))=>(a,b)
  | c=>(c,c)
def evlT:List (Nat × AV):=[(3,.ptr 1 0),(4,.ptr 2 0),(5,.ptr 3 0),(7,.fn (.func 100) [] [.ptr 0 0])]
noncomputable def qsb:qcu:={ state:=.ready,pending:=none,tmps:=⟨24,getT evlT⟩,params:=#[8],assign:=evlP.1,body:=evlP.2,dfid:=4}
noncomputable def evlH (g:FuncId)(Y X:AV):Hp :=
  [(5,.loop qsb),(4,.dfr),(3,.cells none false [X]),(2,.cells none false [iV 0,iV 0]),(1,.cells none false [.fn (.func g) [] []]),(0,.cells none true [Y])]
set_option maxHeartbeats 8000000 in
theorem qu5 (g:FuncId)(nw nl:Nat)(f0 f1 f2 f3:Nat→Int)(z4 z5 z6 z7:Int)(u:Int)(hof:Pure Try.prog g [.agg [qap nw false f0,qap nl false f1,qap nw false f2,qap nw false f3,iV z4,iV z5,iV z6,iV z7]] (iV u))(Y:AV) :
    qbb Try.prog 5 [.agg [qap nw false f0,qap nl false f1,qap nw false f2,qap nw false f3,iV z4,iV z5,iV z6,iV z7]] ⟨(7,.cells none false [qap nw false f0,qap nl false f1,qap nw false f2,qap nw false f3,iV z4,iV z5,iV z6,iV z7])::evlH g Y nl3,8⟩
      (fun v st'=>v=.lit (.bool true)∧st'=⟨(10,.cells none false [iV u])::(9,.cells none false [iV u])::(8,.cells none false [qap nw false f0,qap nl false f1,qap nw false f2,qap nw false f3,iV z4,iV z5,iV z6,iV z7])::(7,.cells none false [qap nw false f0,qap nl false f1,qap nw false f2,qap nw false f3,iV z4,iV z5,iV z6,iV z7])::evlH g Y (.sl 10 0 1 1 false),11⟩):=by
  obtain⟨O,hO⟩:∃ O:Ar,O=std:=⟨_,rfl⟩
  refine qbb.qdm (r:=qsb) rfl rfl ?_
  refine SW.run tok hO (by cbv <;> rfl) (by trivial) ?_
  refine⟨qsb,rfl,rfl,SW.block ?_⟩
  obtain⟨RB,hRB⟩:∃ r,r=({ qsb with state:=.busy}:qcu):=⟨_,rfl⟩
  rw[←hRB]
  refine SW.runD tok mixed hO (by rfl) (by cbv <;> rfl) (by trivial) ?_
  refine AnyE.qas hof (by cbv <;> rfl) (by cbv <;> rfl) ?_
  refine AnyE.run tok hO (by rfl) (by cbv <;> rfl) (by trivial) ?_
  refine AnyE.qey tok hO (by cbv <;> rfl) (by cbv <;> rfl) (by trivial) ?_ ?_
  · exact(by repeat (first | exact trivial | refine And.intro (by first | exact qby hO (by cbv <;> rfl) (by trivial) | (cbv <;> rfl)) ?_))
  refine AnyE.run tok hO (by rfl) (by cbv <;> rfl) (by trivial) ?_
  refine AnyE.qev tok (by cbv <;> rfl) (by cbv <;> rfl) (by rfl) (by kernel_rfl) (by rfl) (by rfl) ?_
  refine AnyE.run tok hO (by rfl) (by cbv <;> rfl) (by trivial) ?_
  refine AnyE.eff tok hO (by cbv <;> rfl) (by cbv <;> rfl) (by trivial) ?_
  refine AnyE.done (by rfl) ?_
  refine⟨RB,rfl,rfl,?_⟩
  subst hRB
  rfl
set_option maxHeartbeats 8000000 in
theorem qu4 (g:FuncId)(nw nl:Nat)(f0 f1 f2 f3:Nat→Int)(z4 z5 z6 z7:Int)(u:Int)(hof:Pure Try.prog g [.agg [qap nw false f0,qap nl false f1,qap nw false f2,qap nw false f3,iV z4,iV z5,iV z6,iV z7]] (iV u))(Y:AV)(m:Nat)(hm:m<100000)(fl:Nat→Int)(G:List AV)(hG:G=flatG 1 (qb6 fl) (m+1)) :
    qbb Try.prog 5 [.agg [qap nw false f0,qap nl false f1,qap nw false f2,qap nw false f3,iV z4,iV z5,iV z6,iV z7]] ⟨(7,.cells none false [qap nw false f0,qap nl false f1,qap nw false f2,qap nw false f3,iV z4,iV z5,iV z6,iV z7])::evlH g Y (.sl 6 0 (m+1) 1 false)++[(6,.cells none false G)],8⟩
      (fun v st'=>v=.lit (.bool true)∧∃ o8,st'=⟨(10,.cells (some 6) false (G++[iV u]))::(9,.cells none false [iV u])::(8,.cells none false [qap nw false f0,qap nl false f1,qap nw false f2,qap nw false f3,iV z4,iV z5,iV z6,iV z7])::(7,.cells none false [qap nw false f0,qap nl false f1,qap nw false f2,qap nw false f3,iV z4,iV z5,iV z6,iV z7])::evlH g Y (.sl 10 0 (m+1+1) 1 false)++[(6,o8)],11⟩):=by
  obtain⟨O,hO⟩:∃ O:Ar,O=std:=⟨_,rfl⟩
  refine qbb.qdm (r:=qsb) rfl rfl ?_
  refine SW.run tok hO (by cbv <;> rfl) (by trivial) ?_
  refine⟨qsb,rfl,rfl,SW.block ?_⟩
  obtain⟨RB,hRB⟩:∃ r,r=({ qsb with state:=.busy}:qcu):=⟨_,rfl⟩
  rw[←hRB]
  refine SW.runD tok mixed hO (by rfl) (by cbv <;> rfl) (by trivial) ?_
  refine AnyE.qas hof (by cbv <;> rfl) (by cbv <;> rfl) ?_
  refine AnyE.run tok hO (by rfl) (by cbv <;> rfl) (by trivial) ?_
  refine AnyE.qey tok hO (by cbv <;> rfl) (by cbv <;> rfl) (by trivial) ?_ ?_
  · exact(by repeat (first | exact trivial | refine And.intro (by first | exact qby hO (by cbv <;> rfl) (by trivial) | (cbv <;> rfl)) ?_))
  refine AnyE.run tok hO (by rfl) (by cbv <;> rfl) (by trivial) ?_
  refine AnyE.qeh (g:=qb6 fl) (len:=m+1) tok (by cbv <;> rfl) (by cbv <;> rfl) (by rfl) (by rfl) hG (by kernel_rfl) (by rfl) (by rfl) (by omega) fun G' hG'=>?_
  refine AnyE.run tok hO (by rfl) (by cbv <;> rfl) (by trivial) ?_
  refine AnyE.eff tok hO (by cbv <;> rfl) (by cbv <;> rfl) (by trivial) ?_
  refine AnyE.done (by rfl) ?_
  rw[←hG] at hG'
  subst hG'
  subst hRB
  exact⟨_,rfl,rfl,_,rfl⟩
theorem qmw (m:Nat):qm3 (qek 6 m) 7 (.loop qsb) (.loop qsb) :=
  .loop rfl rfl rfl rfl rfl rfl (by show 4<7;omega) rfl (qaf.getT (l:=evlT) ⟨qaf.ptr (by omega),qaf.ptr (by omega),qaf.ptr (by omega),qaf.fn .nil (.cons (qaf.ptr (by omega)) .nil),trivial⟩)
theorem qet (nw nl:Nat)(A B C D:Nat→Nat→Int)(a b c e:Nat→Int)(L:Nat):Below 0 (.isl L 8 false (outX nw nl A B C D a b c e)):=Below.isl fun i k _ _=>by
  unfold outX
  split <;> first | exact qa3 _ _ _ | exact Below.lit
set_option maxHeartbeats 16000000 in
theorem qsj (g:FuncId)(nw nl:Nat)(A B C D:Nat→Nat→Int)(a b c e:Nat→Int)(L:Nat)(hL:L<100000)(V:Nat→Int)
    (hof:∀ i,i<L→Pure Try.prog g [.agg [qap nw false (A i),qap nl false (B i),qap nw false (C i),qap nw false (D i),iV (a i),iV (b i),iV (c i),iV (e i)]] (iV (V i)))(K:AV→St→Prop)
    (hK:K (.tup []) ⟨evlH g (.isl L 8 false (outX nw nl A B C D a b c e)) (slG 6 1 L)++objG 6 1 (qb6 V) L,7⟩) :
    qax Try.prog 100 [.yld 5,.ptr 0 0] ⟨evlH g (.isl L 8 false (outX nw nl A B C D a b c e)) nl3,6⟩ K:=by
  obtain⟨O,hO⟩:∃ O:Ar,O=std:=⟨_,rfl⟩
  have hnat:∀ i:Nat,O.nat (Int.ofNat i)=i:=fun i=>by subst hO;rfl
  have hGb:=qet nw nl A B C D a b c e L
  refine qat tok Try.func100 rfl ?_
  refine SW.qab tok hO (by cbv <;> rfl) (by trivial) ?_
  refine(SW.block (SW.qmn (fun i:Nat=>⟨⟨16,getT [(0,.yld 5),(1,.ptr 0 0),(5,.isl L 8 false (outX nw nl A B C D a b c e)),(6,iV L),(7,iV i)]⟩,[]⟩) (fun i=>⟨evlH g (.isl L 8 false (outX nw nl A B C D a b c e)) (slG 6 1 i)++objG 6 1 (qb6 V) i,7⟩)
    (fun i=>L - i) (fun i=>i≤L) 0 (Nat.zero_le _) (qek 6 6) ?_ fun i hi=>?_))
  · exact qbx.up rfl rfl (by simp) (Nat.le_refl _) (.inl rfl) (by show 6≤7;omega) ⟨qaf.yld (by omega),qaf.ptr (by omega),qaf.closed hGb,qaf.closed Below.lit,qaf.closed Below.lit,trivial⟩
      ⟨⟨by omega,_,rfl,qmw 6,.inr rfl⟩,⟨by omega,_,rfl,.dfr,.inr rfl⟩,⟨by omega,_,rfl,.cells (.cons (qaf.closed Below.lit) .nil),.inr rfl⟩,⟨by omega,_,rfl,.cells (.cons (qaf.closed Below.lit) (.cons (qaf.closed Below.lit) .nil)),.inr rfl⟩,
        ⟨by omega,_,rfl,.cells (.cons (qaf.closed (Below.fn (fun _ h=>nomatch h) (fun _ h=>nomatch h))) .nil),.inr rfl⟩,⟨by omega,_,rfl,.cells (.cons (qaf.closed hGb) .nil),.inr rfl⟩,trivial⟩ (fun p hp=>by cases hp)
  cases i with
  | zero =>
    refine SW.qab tok hO (by cbv <;> rfl) (by trivial) ?_
    refine SW.seq (SW.qa6 (by cbv <;> rfl) (fun h=>SW.skip ?_) (fun h=>SW.exit ?_))
    · have hlt:0<L:=by subst hO;simpa[std] using h
      have h0:(0:Int)≤Int.ofNat 0:=Int.natCast_nonneg 0
      have hof':=hof 0 hlt
      obtain⟨u,hu⟩:∃ u,V 0=u:=⟨_,rfl⟩
      rw[hu] at hof'
      have hr:=qu5 g nw nl (A 0) (B 0) (C 0) (D 0) (a 0) (b 0) (c 0) (e 0) u hof' (.isl L 8 false (outX nw nl A B C D a b c e))
      have hev:∀ f:Nat→Nat→Int,f 0=f (O.nat (Int.ofNat 0)):=fun f=>by rw[hnat]
      have hev1:∀ f:Nat→Int,f 0=f (O.nat (Int.ofNat 0)):=fun f=>by rw[hnat]
      rw[hev A,hev B,hev C,hev D,hev1 a,hev1 b,hev1 c,hev1 e] at hr
      refine SW.seq (SW.block ?_)
      refine SW.qab tok hO (by cbv <;> rfl) ?_ ?_
      · exact⟨h0,Int.ofNat_lt.2 hlt⟩
      refine SW.seq (SW.runN tok hO 2 (by cbv <;> rfl) (by trivial) ?_)
      refine qac.apply (c:=.yld 5) (by cbv <;> rfl) hr fun v st' hv=>?_
      obtain⟨rfl,rfl⟩:=hv
      refine qac.run tok hO (by cbv <;> rfl) (by trivial) ?_
      refine SW.cond (t:=false) (by cbv <;> rfl) (SW.skip ?_)
      refine SW.run tok hO (by cbv <;> rfl) (by trivial) ?_
      refine⟨1,by omega,hlt,qek 6 10,?_⟩
      refine qbx.up rfl rfl (by simp) (Nat.le_refl _) (.inr (by omega)) (by show 6≤7;omega) ⟨qaf.yld (by omega),qaf.ptr (by omega),qaf.closed hGb,qaf.closed Below.lit,qaf.inc hO (by omega),trivial⟩
        ⟨⟨by omega,_,rfl,qmw 10,.inr rfl⟩,⟨by omega,_,rfl,.dfr,.inr rfl⟩,⟨by omega,_,rfl,.cells (.cons (qaf.sl (by omega)) .nil),.inr rfl⟩,⟨by omega,_,rfl,.cells (.cons (qaf.closed Below.lit) (.cons (qaf.closed Below.lit) .nil)),.inr rfl⟩,
          ⟨by omega,_,rfl,.cells (.cons (qaf.closed (Below.fn (fun _ h=>nomatch h) (fun _ h=>nomatch h))) .nil),.inr rfl⟩,⟨by omega,_,rfl,.cells (.cons (qaf.closed hGb) .nil),.inr rfl⟩,trivial⟩ (fun p hp=>?_)
      obtain rfl:=qcm hp
      exact⟨by omega,_,rfl,.cells (qay.of_eq (by rw[←hu];rfl) (qar (fun _ _=>Below.lit) _)),.inl rfl⟩
    · have hge:L=0:=by
        have:L≤0:=by subst hO;simpa[std] using h
        omega
      subst hge
      exact⟨_,_,rfl,rfl,hK⟩
  | succ i =>
    obtain⟨G,hG⟩:∃ G,G=flatG 1 (qb6 V) (i+1):=⟨_,rfl⟩
    show SW _ _ _ _ _ ⟨evlH g (.isl L 8 false (outX nw nl A B C D a b c e)) (.sl 6 0 (i+1) 1 false)++[(6,.cells none false (flatG 1 (qb6 V) (i+1)))],7⟩
    rw[←hG]
    refine SW.qab tok hO (by cbv <;> rfl) (by trivial) ?_
    refine SW.seq (SW.qa6 (by cbv <;> rfl) (fun h=>SW.skip ?_) (fun h=>SW.exit ?_))
    · have hlt:i+1<L:=by
        have:((i+1:Nat):Int)<(L:Int):=by subst hO;simpa[std] using h
        omega
      have h0:(0:Int)≤Int.ofNat (i+1):=Int.natCast_nonneg (i+1)
      have hof':=hof (i+1) hlt
      obtain⟨u,hu⟩:∃ u,V (i+1)=u:=⟨_,rfl⟩
      rw[hu] at hof'
      have hr:=qu4 g nw nl (A (i+1)) (B (i+1)) (C (i+1)) (D (i+1)) (a (i+1)) (b (i+1)) (c (i+1)) (e (i+1)) u hof' (.isl L 8 false (outX nw nl A B C D a b c e)) i (by omega) V G hG
      have hev:∀ f:Nat→Nat→Int,f (i+1)=f (O.nat (Int.ofNat (i+1))):=fun f=>by rw[hnat]
      have hev1:∀ f:Nat→Int,f (i+1)=f (O.nat (Int.ofNat (i+1))):=fun f=>by rw[hnat]
      rw[hev A,hev B,hev C,hev D,hev1 a,hev1 b,hev1 c,hev1 e] at hr
      refine SW.seq (SW.block ?_)
      refine SW.qab tok hO (by cbv <;> rfl) ?_ ?_
      · exact⟨h0,Int.ofNat_lt.2 hlt⟩
      refine SW.seq (SW.runN tok hO 2 (by cbv <;> rfl) (by trivial) ?_)
      refine qac.apply (c:=.yld 5) (by cbv <;> rfl) hr fun v st' hv=>?_
      obtain⟨rfl,o8,rfl⟩:=hv
      obtain⟨G2,hG2⟩:∃ G2,G++[iV u]=G2:=⟨_,rfl⟩
      rw[hG2]
      refine qac.run tok hO (by cbv <;> rfl) (by trivial) ?_
      refine SW.cond (t:=false) (by cbv <;> rfl) (SW.skip ?_)
      refine SW.run tok hO (by cbv <;> rfl) (by trivial) ?_
      refine⟨i+1+1,by omega,hlt,qek 6 10,?_⟩
      refine qbx.up rfl rfl (by simp) (Nat.le_refl _) (.inr (by omega)) (by show 6≤7;omega) ⟨qaf.yld (by omega),qaf.ptr (by omega),qaf.closed hGb,qaf.closed Below.lit,qaf.inc hO (by omega),trivial⟩
        ⟨⟨by omega,_,rfl,qmw 10,.inr rfl⟩,⟨by omega,_,rfl,.dfr,.inr rfl⟩,⟨by omega,_,rfl,.cells (.cons (qaf.sl (by omega)) .nil),.inr rfl⟩,⟨by omega,_,rfl,.cells (.cons (qaf.closed Below.lit) (.cons (qaf.closed Below.lit) .nil)),.inr rfl⟩,
          ⟨by omega,_,rfl,.cells (.cons (qaf.closed (Below.fn (fun _ h=>nomatch h) (fun _ h=>nomatch h))) .nil),.inr rfl⟩,⟨by omega,_,rfl,.cells (.cons (qaf.closed hGb) .nil),.inr rfl⟩,trivial⟩ (fun p hp=>?_)
      obtain rfl:=qcm hp
      exact⟨by omega,_,rfl,.cells (qay.of_eq (by rw[←hG2,hG,←hu];rfl) (qar (fun _ _=>Below.lit) _)),.inl rfl⟩
    · have hge:L=i+1:=by
        have:(L:Int)≤((i+1:Nat):Int):=by subst hO;simpa[std] using h
        omega
      subst hge
      rw[hG]
      exact⟨_,_,rfl,rfl,hK⟩
end Go.Fz
namespace Go.Fz
open Go.Proofs
set_option maxRecDepth 100000
set_option maxHeartbeats 16000000 in
theorem qo0 (g:FuncId)(nw nl:Nat)(A B C D:Nat→Nat→Int)(a b c e:Nat→Int)(L:Nat)(h0L:0<L)(hL:L<100000)(V:Nat→Int)
    (hof:∀ i,i<L→Pure Try.prog g [.agg [qap nw false (A i),qap nl false (B i),qap nw false (C i),qap nw false (D i),iV (a i),iV (b i),iV (c i),iV (e i)]] (iV (V i)))(lo hi:Int)
    (hlo:∃ i,i<L∧V i=lo)(hlo':∀ i,i<L→lo≤V i)(hhi:∃ i,i<L∧V i=hi)(hhi':∀ i,i<L→V i≤hi) :
    qax Try.prog 65 [.fn (.func 100) [] [.ptr 0 0],.fn (.func g) [] []] (roS [.isl L 8 false (outX nw nl A B C D a b c e)]) (fun v st'=>freeB st'.h qt1=true∧Eqv (frz st'.h qt1 3 v) (qc8 lo hi)):=by
  obtain⟨O,hO⟩:∃ O:Ar,O=std:=⟨_,rfl⟩
  have hkeys:=qsj g nw nl A B C D a b c e L hL V hof
  have hGb:=qet nw nl A B C D a b c e L
  obtain⟨Y,hY⟩:∃ Y,(AV.isl L 8 false (outX nw nl A B C D a b c e))=Y:=⟨_,rfl⟩
  have hY1:Y.one=true:=by rw[←hY];rfl
  rw[hY] at hkeys hGb ⊢
  refine qat tok Try.func65 rfl ?_
  refine SW.qab tok hO (by cbv <;> rfl) (by trivial) ?_
  refine SW.qab tok hO (by cbv <;> rfl) (by trivial) ?_
  refine SW.seq ?_
  refine SW.qab tok hO (by cbv <;> rfl) (by trivial) ?_
  refine SW.block ?_
  refine SW.pre (f2:=⟨⟨24,getT evlT⟩,[]⟩) (st2:=⟨[(3,.cells none false [nl3]),(2,.cells none false [iV 0,iV 0]),(1,.cells none false [.fn (.func g) [] []]),(0,.cells none true [Y])],4⟩) ?_ ?_
  · exact qdt.by rfl rfl (fun _ h=>nomatch h) (Nat.le_refl _) (Nat.le_refl _) ⟨⟨rfl,.inl rfl⟩,⟨rfl,.inl rfl⟩,⟨rfl,.inl rfl⟩,⟨rfl,.inl rfl⟩,trivial⟩ ⟨⟨rfl,by show _<4;omega,.inl rfl⟩,⟨rfl,by show _<4;omega,.inl rfl⟩,⟨rfl,by show _<4;omega,.inl rfl⟩,⟨rfl,by show _<4;omega,.inl rfl⟩,trivial⟩
  refine SW.rangeFunc (gf:=100) (first:=[]) (caps:=[.ptr 0 0]) (by rfl) en100 ?_
  refine(show qax Try.prog 100 [.yld 5,.ptr 0 0] ⟨evlH g Y nl3,6⟩ _ from hkeys _ ?_)
  refine⟨qsb,rfl,(fun h=>by simp[qsb] at h),?_⟩
  obtain⟨m,rfl⟩:∃ m,L=m+1:=⟨L - 1,by omega⟩
  obtain⟨G,hG⟩:∃ G,G=flatG 1 (qb6 V) (m+1):=⟨_,rfl⟩
  show SW Try.prog none _ _ ⟨⟨24,getT evlT⟩,[4]⟩ ⟨(5,.loop { qsb with state:=.exhausted})::(4,.dfr)::(3,.cells none false [.sl 6 0 (m+1) 1 false])::(2,.cells none false [iV 0,iV 0])::(1,.cells none false [.fn (.func g) [] []])::(0,.cells none true [Y])::[(6,.cells none false (flatG 1 (qb6 V) (m+1)))],7⟩
  rw[←hG]
  refine SW.pre (f2:=⟨⟨24,getT [(4,.ptr 2 0),(5,.ptr 3 0)]⟩,[4]⟩) (st2:=⟨[(6,.cells none false G),(4,.dfr),(3,.cells none false [.sl 6 0 (m+1) 1 false]),(2,.cells none false [iV 0,iV 0])],7⟩) ?_ ?_
  · exact qdt.by rfl rfl (fun id h=>by rw[List.mem_singleton.1 h];show 4<7;omega) (Nat.le_refl _) (Nat.le_refl _) ⟨⟨rfl,.inl rfl⟩,⟨rfl,.inl rfl⟩,trivial⟩ ⟨⟨rfl,by show _<7;omega,.inl rfl⟩,⟨rfl,by show _<7;omega,.inl rfl⟩,⟨rfl,by show _<7;omega,.inl rfl⟩,⟨rfl,by show _<7;omega,.inl rfl⟩,trivial⟩
  refine SW.qe7 (fun j=>Nat.beq j 6) 3 (by rfl) ?_
  obtain⟨NN,hNN⟩:∃ NN,NN=m+1:=⟨_,rfl⟩
  refine SW.preR (f2:=⟨⟨24,getT [(4,.ptr 2 0),(5,.ptr 3 0)]⟩,[4]⟩) (st2:=⟨[(4,.dfr),(3,.cells none false [qap NN false V]),(2,.cells none false [iV 0,iV 0])]++[],7⟩) (ρ:=qek 7 7) ?_ ?_
  · refine qbx.up rfl rfl (fun id h=>by rw[List.mem_singleton.1 h];show 4<7;omega) (Nat.le_refl _) (.inl rfl) (Nat.le_refl _) ⟨qaf.ptr (by omega),qaf.ptr (by omega),trivial⟩
      ⟨⟨by omega,_,rfl,.dfr,.inr rfl⟩,⟨by omega,_,rfl,.cells (.cons (qaf.eqv (qaf.closed (qa3 _ _ _)) ?_) .nil),.inr rfl⟩,⟨by omega,_,rfl,.cells (.cons (qaf.closed Below.lit) (.cons (qaf.closed Below.lit) .nil)),.inr rfl⟩,trivial⟩ (fun p hp=>by cases hp)
    rw[qcc (fm:=none) (G:=G) rfl rfl (by rw[hG,qaj];omega),hNN]
    exact Eqv.isl rfl fun i k hi hk=>Eqv.of (by rw[hG];exact qcn hi hk rfl)
  have hN0:(0:Int)<Int.ofNat NN:=by rw[hNN];exact Int.ofNat_lt.2 (Nat.succ_pos m)
  have hmin:leN (V 0) (fun i=>V (1+i)) m=lo:=by
    obtain⟨⟨h1,h2⟩,h3⟩:=qnj (V 0) (fun i=>V (1+i)) m
    obtain⟨i,hi,hVi⟩:=hlo
    have hge:leN (V 0) (fun i=>V (1+i)) m≤lo:=by
      rw[←hVi]
      cases i with
      | zero=>exact h1
      | succ i =>
        have h4:leN (V 0) (fun i=>V (1+i)) m≤V (1+i):=h2 i (by omega)
        rw[show 1+i=i+1 by omega] at h4;exact h4
    have hle:lo≤leN (V 0) (fun i=>V (1+i)) m:=by
      rcases h3 with h3 | ⟨j,hj,h3⟩
      · rw[h3];exact hlo' 0 (by omega)
      · rw[h3];exact hlo' (1+j) (by omega)
    omega
  have hmax:grN (V 0) (fun i=>V (i+1)) m=hi:=by
    obtain⟨⟨h1,h2⟩,h3⟩:=qnm (V 0) (fun i=>V (i+1)) m
    obtain⟨i,hi',hVi⟩:=hhi
    have hge:hi≤grN (V 0) (fun i=>V (i+1)) m:=by
      rw[←hVi]
      cases i with
      | zero=>exact h1
      | succ i=>exact h2 i (by omega)
    have hle:grN (V 0) (fun i=>V (i+1)) m≤hi:=by
      rcases h3 with h3 | ⟨j,hj,h3⟩
      · rw[h3];exact hhi' 0 (by omega)
      · rw[h3];exact hhi' (j+1) (by omega)
    omega
  have c97:Pure Try.prog 97 [iV (V (O.nat 0)),.isl (O.sub NN (O.nat 1)) 1 false (fun i=>qb6 V (O.add (O.nat 1) i))] (iV lo):=by
    subst hO
    show Pure Try.prog 97 [iV (V 0),qap (NN - 1) false (fun i=>V (1+i))] (iV lo)
    rw[hNN,Nat.add_sub_cancel,←hmin]
    exact qqd (V 0) m false (fun i=>V (1+i)) (by omega)
  have c98:Pure Try.prog 98 [.isl NN 1 false (qb6 V)] (iV hi):=by
    have:=qj1 NN false V (by omega) (by omega)
    rw[hNN,Nat.add_sub_cancel,hmax,←hNN] at this
    exact this
  refine SW.qbf tok mixed hO (by rfl) (by cbv <;> rfl) ?_ ?_
  · have hn1:O.nat 1=1:=by subst hO;rfl
    refine⟨?_,Nat.le_refl _,(by decide:(0:Int)≤1),Int.le_refl _,hN0⟩
    show O.nat 1≤NN
    rw[hn1];omega
  refine AnyE.qas c97 (by cbv <;> rfl) (by cbv <;> rfl) ?_
  refine AnyE.run tok hO (by rfl) (by cbv <;> rfl) (by trivial) ?_
  refine AnyE.qas c98 (by cbv <;> rfl) (by cbv <;> rfl) ?_
  refine AnyE.run tok hO (by rfl) (by cbv <;> rfl) (by trivial) ?_
  refine AnyE.eff tok hO (by cbv <;> rfl) (by cbv <;> rfl) (by trivial) ?_
  refine AnyE.done (by rfl) ?_
  exact SW.ret ⟨_,_,rfl,rfl,rfl,Eqv.of rfl⟩
theorem ends65 (g:FuncId)(nw nl:Nat)(A B C D:Nat→Nat→Int)(a b c e:Nat→Int)(L:Nat)(h0L:0<L)(hL:L<100000)(V:Nat→Int)
    (hof:∀ i,i<L→Pure Try.prog g [.agg [qap nw false (A i),qap nl false (B i),qap nw false (C i),qap nw false (D i),iV (a i),iV (b i),iV (c i),iV (e i)]] (iV (V i)))(lo hi:Int)
    (hlo:∃ i,i<L∧V i=lo)(hlo':∀ i,i<L→lo≤V i)(hhi:∃ i,i<L∧V i=hi)(hhi':∀ i,i<L→V i≤hi){st:St}{bid:Nat}{fm:Option Nat}{ro:Bool}
    (hc:st.h.get bid=some (.cells fm ro [.isl L 8 false (outX nw nl A B C D a b c e)])) :
    qax Try.prog 65 [.fn (.func 100) [] [.ptr bid 0],.fn (.func g) [] []] st (fun v st'=>v=qc8 lo hi∧st'=st):=by
  refine qvk (args2:=[.fn (.func 100) [] [.ptr 0 0],.fn (.func g) [] []]) hc (fun x hx=>by rw[List.mem_singleton.1 hx];exact qet _ _ _ _ _ _ _ _ _ _ _) (Below.agg (qb2.ok ⟨Below.lit,Below.lit,trivial⟩)) (fun φ us h=>?_) (qo0 g nw nl A B C D a b c e L h0L hL V hof lo hi hlo hlo' hhi hhi')
  cases h with
  | cons h1 h2 =>
    obtain⟨us1,vs1,rfl,k1,k2⟩:=h1.qed
    cases h2 with
    | cons h3 h4 =>
      obtain⟨us2,vs2,rfl,k3,k4⟩:=h3.qed
      cases h4
      cases k1;cases k3;cases k4
      cases k2 with
      | cons k5 k6 =>
        cases k6
        obtain⟨rfl,_⟩:=k5.qca
        refine .cons (.fn _ .nil (.cons ?_ .nil)) (.cons (.fn _ .nil .nil) .nil)
        exact VR.ptr (φ:=⟨fun _=>φ.f bid,1,φ.z⟩) 0 0 (by show 0<1;omega)
end Go.Fz
namespace Go.Fz
open Go.Proofs
set_option maxRecDepth 100000
def toPK (p:Int × Int):PK:=if h:inK p=true then⟨p,h⟩ else⟨(0,0),rfl⟩
theorem qwd {p:Int × Int}(h:inK p=true):(toPK p).1=p:=by unfold toPK;rw[dif_pos h]
theorem qtz (f s:Int):Pure Try.prog 61 [qro f s] (iV f):=by
  obtain⟨O,hO⟩:∃ O:Ar,O=std:=⟨_,rfl⟩
  refine qad tok 3 Try.func61 en61 rfl ⟨Below.agg (qb2.ok ⟨Below.lit,Below.lit,trivial⟩),trivial⟩ Below.lit ?_
  refine SW.qab tok hO (by cbv <;> rfl) (by trivial) ?_
  refine SW.qab tok hO (by cbv <;> rfl) (by trivial) ?_
  exact SW.ret ⟨_,_,rfl,rfl,Eqv.of rfl⟩
section
variable (nw nl:Nat)(f0 f1 f2 f3:Nat→Int)(z4 z5 z6 z7:Int)
theorem qf5:Below 0 (.agg [qap nw false f0,qap nl false f1,qap nw false f2,qap nw false f3,iV z4,iV z5,iV z6,iV z7]) :=
  Below.agg (qb2.ok ⟨qa3 _ _ _,qa3 _ _ _,qa3 _ _ _,qa3 _ _ _,Below.lit,Below.lit,Below.lit,Below.lit,trivial⟩)
theorem of66_ok:Pure Try.prog 66 [.agg [qap nw false f0,qap nl false f1,qap nw false f2,qap nw false f3,iV z4,iV z5,iV z6,iV z7]] (iV z4):=by
  obtain⟨O,hO⟩:∃ O:Ar,O=std:=⟨_,rfl⟩
  refine qad tok 3 Try.func66 en66 rfl ⟨qf5 _ _ _ _ _ _ _ _ _ _,trivial⟩ Below.lit ?_
  refine SW.qab tok hO (by cbv <;> rfl) (by trivial) ?_
  refine SW.qab tok hO (by cbv <;> rfl) (by trivial) ?_
  exact SW.ret ⟨_,_,rfl,rfl,Eqv.of rfl⟩
theorem of67_ok:Pure Try.prog 67 [.agg [qap nw false f0,qap nl false f1,qap nw false f2,qap nw false f3,iV z4,iV z5,iV z6,iV z7]] (iV z5):=by
  obtain⟨O,hO⟩:∃ O:Ar,O=std:=⟨_,rfl⟩
  refine qad tok 3 Try.func67 en67 rfl ⟨qf5 _ _ _ _ _ _ _ _ _ _,trivial⟩ Below.lit ?_
  refine SW.qab tok hO (by cbv <;> rfl) (by trivial) ?_
  refine SW.qab tok hO (by cbv <;> rfl) (by trivial) ?_
  exact SW.ret ⟨_,_,rfl,rfl,Eqv.of rfl⟩
theorem of68_ok:Pure Try.prog 68 [.agg [qap nw false f0,qap nl false f1,qap nw false f2,qap nw false f3,iV z4,iV z5,iV z6,iV z7]] (iV z6):=by
  obtain⟨O,hO⟩:∃ O:Ar,O=std:=⟨_,rfl⟩
  refine qad tok 3 Try.func68 en68 rfl ⟨qf5 _ _ _ _ _ _ _ _ _ _,trivial⟩ Below.lit ?_
  refine SW.qab tok hO (by cbv <;> rfl) (by trivial) ?_
  refine SW.qab tok hO (by cbv <;> rfl) (by trivial) ?_
  exact SW.ret ⟨_,_,rfl,rfl,Eqv.of rfl⟩
theorem of69_ok:Pure Try.prog 69 [.agg [qap nw false f0,qap nl false f1,qap nw false f2,qap nw false f3,iV z4,iV z5,iV z6,iV z7]] (iV z7):=by
  obtain⟨O,hO⟩:∃ O:Ar,O=std:=⟨_,rfl⟩
  refine qad tok 3 Try.func69 en69 rfl ⟨qf5 _ _ _ _ _ _ _ _ _ _,trivial⟩ Below.lit ?_
  refine SW.qab tok hO (by cbv <;> rfl) (by trivial) ?_
  refine SW.qab tok hO (by cbv <;> rfl) (by trivial) ?_
  exact SW.ret ⟨_,_,rfl,rfl,Eqv.of rfl⟩
end
set_option maxHeartbeats 16000000 in
theorem had_ok (d:qai)(w:Nat)(hw:w<d.nw)(hnl:d.nl<1000)(L:Nat)(hL:L<100000)(A B C D:Nat→Nat→Int)(a b c e:Nat→Int)(mb:Option Nat)(K:Nat→PK)(hin:∀ i,i<L→(K i).1=(A i w,stemN d (B i) w d.nl)) :
    qpc Try.prog 58 [.agg [iV d.hand,iV d.flat,qcv d,qdg d,qd8 d,.isl L 8 false (outX d.nw d.nl A B C D a b c e),.lit (.map mb)],iV w] (fun k=>.mp k) (qcp pkV (pkP K L).1) (pkP K L).2:=by
  obtain⟨O,hO⟩:∃ O:Ar,O=std:=⟨_,rfl⟩
  have hnat:∀ i:Nat,O.nat (Int.ofNat i)=i:=fun i=>by subst hO;rfl
  have hGb:=qet d.nw d.nl A B C D a b c e L
  have hcl:∀ E:List (PK × Nat),∀ x∈qcp pkV E,Below 0 x.1∧Below 0 x.2.1:=fun E x hx=>by
    obtain⟨p,_,rfl⟩:=List.mem_map.1 hx
    exact⟨qfo _,Below.lit⟩
  have hcells:∀ x∈[iV d.hand,iV d.flat,qcv d,qdg d,qd8 d,.isl L 8 false (outX d.nw d.nl A B C D a b c e),.lit (.map mb)],Below 0 x:=qb2.ok ⟨Below.lit,Below.lit,qau d,qa0 d,qbl d,hGb,Below.lit,trivial⟩
  refine qe6 tok 3 Try.func58 en58 rfl ⟨Below.agg hcells,Below.lit,trivial⟩ (hcl _) ?_
  refine SW.qab tok hO (by cbv <;> rfl) (by trivial) ?_
  refine SW.seq (SW.runN tok hO 0 (by cbv <;> rfl) (by trivial) ?_)
  refine qac.mkMap (by rfl) ?_
  refine qac.run tok hO (by cbv <;> rfl) (by trivial) ?_
  refine SW.seq ?_
  refine SW.qab tok hO (by cbv <;> rfl) (by trivial) ?_
  refine(SW.block (SW.loopM (fun i:Nat=>⟨⟨25,getT [(1,iV w),(2,.ptr 0 0),(5,.mp 1),(10,.isl L 8 false (outX d.nw d.nl A B C D a b c e)),(11,iV L),(12,iV i)]⟩,[]⟩)
    (fun i=>⟨[(1,.map (qcp pkV (pkP K i).1) (pkP K i).2),(0,.cells none false [iV d.hand,iV d.flat,qcv d,qdg d,qd8 d,.isl L 8 false (outX d.nw d.nl A B C D a b c e),.lit (.map mb)])],2⟩) (fun i=>L - i) (fun i=>i≤L) 0
    (fun _=>rfl) (Nat.zero_le _) (qdt.by rfl rfl (by simp) (Nat.le_refl _) (Nat.le_refl _) ⟨⟨rfl,.inl rfl⟩,⟨rfl,.inl rfl⟩,⟨rfl,.inl rfl⟩,⟨rfl,.inl rfl⟩,⟨rfl,.inl rfl⟩,⟨rfl,.inl rfl⟩,trivial⟩ ⟨⟨rfl,by show 1<2;omega,.inl rfl⟩,⟨rfl,by show 0<2;omega,.inl rfl⟩,trivial⟩) fun i hi=>?_))
  obtain⟨E,hE⟩:∃ E,(pkP K i).1=E:=⟨_,rfl⟩
  obtain⟨c2,hc2⟩:∃ E,(pkP K i).2=E:=⟨_,rfl⟩
  rw[hE,hc2]
  obtain⟨ME2,hME2⟩:∃ m,qcp pkV E=m:=⟨_,rfl⟩
  have hclE:=hcl E
  rw[hME2] at hclE ⊢
  refine SW.qab tok hO (by cbv <;> rfl) (by trivial) ?_
  refine SW.seq (SW.qa6 (by cbv <;> rfl) (fun h=>SW.skip ?_) (fun h=>SW.exit ?_))
  · have hlt:i<L:=by subst hO;simpa[std] using h
    have hi0:(0:Int)≤Int.ofNat i:=Int.natCast_nonneg i
    have hp:=qtp d ⟨d.nw,false,A i,d.nl,false,B i⟩ w hw (Nat.le_refl _) hnl
    have hk:=hin i hlt
    have hp2:Pure Try.prog 96 [qdp d,.agg [qap d.nw false (A i),qap d.nl false (B i)],iV w] (pkV (K i)):=by
      have e1:pkV (K i)=qro (A i w) (stemN d (B i) w d.nl):=by unfold pkV;rw[hk];rfl
      rw[e1];exact hp
    have hev:∀ f:Nat→Nat→Int,f i=f (O.nat (Int.ofNat i)):=fun f=>by rw[hnat]
    rw[hev A,hev B] at hp2
    obtain⟨kk,hkk⟩:∃ k,K i=k:=⟨_,rfl⟩
    rw[hkk] at hp2
    have hpk:pkV kk=.agg [iV kk.1.1,iV kk.1.2]:=rfl
    refine SW.seq (SW.block ?_)
    refine SW.qab tok hO (by cbv <;> rfl) ?_ ?_
    · exact⟨hi0,Int.ofNat_lt.2 hlt⟩
    refine SW.runN tok hO 6 (by cbv <;> rfl) (by trivial) ?_
    refine qac.qas hp2 (by cbv <;> rfl) ?_
    refine qac.qud tok qmo pkKey (b:=kk) (id:=1) (E:=E) (clock:=c2) (by cbv <;> rfl) (by kernel_rfl) (by rw[hME2];rfl) ?_
    have hs:pkP K (i+1)=(qhy E kk c2,qn4 E kk c2):=by rw[←hE,←hc2,←hkk];rfl
    have hclE3:=hcl (qhy E kk c2)
    obtain⟨ME3,hME3⟩:∃ m,qcp pkV (qhy E kk c2)=m:=⟨_,rfl⟩
    obtain⟨c3,hc3⟩:∃ m,qn4 E kk c2=m:=⟨_,rfl⟩
    rw[hME3] at hclE3
    rw[hME3,hc3]
    refine qac.nil ?_
    refine SW.run tok hO (by cbv <;> rfl) (by trivial) ?_
    refine⟨i+1,by omega,hlt,?_⟩
    rw[hs]
    simp only
    rw[hME3,hc3]
    refine qny.by rfl rfl (fun _ h=>nomatch h) (Nat.le_refl _) (by show 2≤3;omega) ⟨⟨rfl,.inr Below.lit⟩,⟨rfl,.inr (Below.ptr (by omega))⟩,⟨rfl,.inr (Below.mp (by omega))⟩,⟨rfl,.inr (Below.up (m:=0) hGb)⟩,⟨rfl,.inr Below.lit⟩,⟨qci hO (by omega),.inr Below.lit⟩,trivial⟩
      ⟨⟨rfl,by show 1<2;omega,.inr fun x hx=>⟨Below.up (m:=0) (hclE3 x hx).1,Below.up (m:=0) (hclE3 x hx).2⟩⟩,⟨rfl,by show 0<2;omega,.inr ⟨fun x hx=>Below.up (m:=0) (hcells x hx),fun _ h=>nomatch h⟩⟩,trivial⟩
  · have hge:i=L:=by
      have:L≤i:=by subst hO;simpa[std] using h
      omega
    subst hge
    rw[hE,hc2,hME2]
    refine SW.qab tok hO (by cbv <;> rfl) (by trivial) ?_
    exact SW.ret ⟨_,_,rfl,rfl,1,rfl,rfl,qkw.mp⟩
end Go.Fz
