/- Own work of the verifier of watercress: EvI, EvKr, EvKs, EvJ, EvK, EvL, EvM. -/
import Derived.OrdersIn
import Derived.Test.YtpefamheopplnaaMc2
set_option linter.unusedVariables false
set_option linter.unusedSimpArgs false
namespace Go.Ev
theorem Qy (T:Ti)(h:Hp){ρ ρ':Operand→AV}(o:Oper)(hx:∀ x∈o.op.operands,ρ x=ρ' x):evL T h ρ o=evL T h ρ' o:=by
 obtain⟨dst,op,type,pos,after,guard⟩:=o
 cases op<;>simp only [Op.operands] at hx<;>simp only [evL]
 case makeFunc fn a b =>
  rw[List.map_congr_left (l:=a.toList) fun x hm=>hx x (by simp[Array.mem_toList_iff.1 hm]),List.map_congr_left (l:=b.toList) fun x hm=>hx x (by simp[Array.mem_toList_iff.1 hm])]
 case call c =>
  have ha:∀ x∈c.args.toList,ρ x=ρ' x:=fun x hm=>hx x (by simp[Call.operands,Array.mem_toList_iff.1 hm])
  cases hc:c.callee with
  | builtin b =>
   cases hl:c.args.toList with
   | nil=>rfl
   | cons x r =>
    have hx0:ρ x=ρ' x:=ha x (by rw[hl];simp)
    cases r with
    | nil=>cases b<;>first|rfl|(rcases c.argTypes.toList with _|⟨t,_|⟨t2,r2⟩⟩<;>simp only [hx0])
    | cons y r =>
     have hy0:ρ y=ρ' y:=ha y (by rw[hl];simp)
     cases b<;>first|rfl|(cases r<;>simp only [hx0,hy0])
  | value f=>rfl
  | invoke r m=>rfl
 all_goals (first|rfl|(simp_all;done))
theorem Ra (T:Ti)(h:Hp){ρ ρ':Operand→AV}(o:Oper)(hx:∀ x∈o.op.operands,ρ x=ρ' x):evG T h ρ o=evG T h ρ' o:=by
 have hL:=Qy T h o hx
 obtain⟨dst,op,type,pos,after,guard⟩:=o
 cases op<;>simp only [Op.operands] at hx<;>simp only [evG]
 case build t ps =>
  rw[List.map_congr_left (l:=ps.toList) fun p hm=>by
   have:ρ p.2=ρ' p.2:=hx p.2 (by simp only [List.mem_toArray,List.mem_map];exact⟨p,hm,rfl⟩)
   rw[this]]
 case slice t x lo hi mx=>cases lo<;>cases hi<;>cases mx<;>simp_all
 case binOp b t x y yt=>cases b<;>simp only [evG]<;>simp_all
 all_goals (first|exact hL|rfl|(simp_all;done))
theorem eC {f:Fm}{dst:Option Tmp}{v:AV}{x:Operand}(h:∀ d,dst=some d→x≠.tmp d):Operand.av (f.put dst v).ts x=Operand.av f.ts x:=by
 cases dst with
 | none=>rfl
 | some d =>
  cases x with
  | tmp t =>
   have hne:d≠t:=fun e=>h d rfl (e▸rfl)
   simp[Fm.put,Operand.av,List.getD_eq_getElem?_getD,List.getElem?_set_ne hne]
  | _=>rfl
section
variable {P:Program}{T:Ti}{ops:Array Oper}
theorem Xv {h:Hp}(o:Oper)(f:Fm)(dst:Option Tmp)(v:AV)(hd:∀ d,dst=some d→d∉o.looksAt ops) :
  evG T h (Operand.av (f.put dst v).ts) o=evG T h (Operand.av f.ts) o :=
 Ra T h o fun x hx=>eC fun d hdd hxd=>hd d hdd (by
  subst hxd
  exact List.mem_append_left _ (List.mem_filterMap.2 ⟨.tmp d,by simpa using hx,rfl⟩))
theorem Lx (o:Oper)(f:Fm)(dst:Option Tmp)(v:AV)(h:∀ d,dst=some d→d∉o.looksAt ops) :
  Region.wanted o (yA ops (f.put dst v).ts)=Region.wanted o (yA ops f.ts):=by
 cases dst with
 | none=>rfl
 | some d =>
  unfold Region.wanted
  cases hg:o.guard with
  | none=>rfl
  | some gw =>
   obtain⟨g,want⟩:=gw
   have hy:yA ops (f.put (some d) v).ts g=yA ops f.ts g:=by
    unfold yA
    cases ht:(ops[g]?).bind (·.dst) with
    | none=>rfl
    | some t =>
     have hne:d≠t:=fun e=>h d rfl (by subst e;simp[Oper.looksAt,hg,ht])
     simp[Fm.put,List.getElem?_set_ne hne]
   simp only [hy]
def lightV (T:Ti)(ops:Array Oper)(h:Hp)(f:Fm)(i:Nat):Option AV :=
 match ops[i]? with
 | some o=>if Region.wanted o (yA ops f.ts) then evG T h (Operand.av f.ts) o else some Bx
 | none=>none
theorem Gc {h:Hp}{i:Nat}{f:Fm}{dst:Option Tmp}{v:AV}(hd:∀ o,ops[i]?=some o→∀ d,dst=some d→d∉o.looksAt ops):lightV T ops h (f.put dst v) i=lightV T ops h f i:=by
 unfold lightV
 cases ho:ops[i]? with
 | none=>rfl
 | some o=>simp only [Lx o f dst v (hd o ho),Xv o f dst v (hd o ho)]
def Bt (o:Oper):List Nat:=o.after.toList.filterMap fun e=>if Region.binds .any e then some e.on else none
structure Tidy (ops:Array Oper)(M:List Nat):Prop where
 back:∀ (j:Nat)(o:Oper),ops[j]?=some o→∀ e∈Bt o,e<j
 anc:∀ (j:Nat)(o:Oper) i,ops[j]?=some o→i<ops.size→(M.getD j 0).testBit i=true→∃ e∈Bt o,e=i∨(M.getD e 0).testBit i=true
 see:∀ (i j:Nat)(oi oj:Oper),ops[i]?=some oi→ops[j]?=some oj→i≠j→∀ d,oi.dst=some d→(d∈oj.looksAt ops→(M.getD j 0).testBit i=true∨(M.getD i 0).testBit j=true)∧oj.dst≠some d
 self:∀ (i:Nat)(oi:Oper),ops[i]?=some oi→∀ d,oi.dst=some d→d∉oi.looksAt ops
 plain:∀ (i:Nat)(oi:Oper),ops[i]?=some oi→(∀ cs b,oi.op≠.select cs b)∧∀ c,oi.op≠.defer c
def Lg (o:Oper):Bool:=match o.op with | .select .. | .defer _=>false|_=>true
def tidyAt (ops:Array Oper)(M:List Nat)(j:Nat)(o:Oper):Bool :=
 Lg o&&(Bt o).all (·<j) &&
 ((List.range ops.size).all fun i=>!(M.getD j 0).testBit i||(Bt o).any fun e=>e == i||(M.getD e 0).testBit i) &&
 ((List.range ops.size).all fun i=>match (ops[i]?).bind (·.dst) with
  | some d=>(!((o.looksAt ops).contains d)||(i != j&&((M.getD j 0).testBit i||(M.getD i 0).testBit j)))&&(i == j||o.dst != some d)
  | none=>true)
def He (ops:Array Oper)(M:List Nat):Bool:=(List.range ops.size).all fun j=>match ops[j]? with
 | some o=>tidyAt ops M j o
 | none=>true
def Dr (ops:Array Oper):List Nat:=ops.toList.foldl (fun M o=>M++[(Bt o).foldl (fun m e=>m ||| (1 <<< e) ||| M.getD e 0) 0]) []
theorem Ky {M:List Nat}(h:He ops M=true):Tidy ops M:=by
 have hat:∀ (j:Nat)(o:Oper),ops[j]?=some o→tidyAt ops M j o=true:=fun j o ho=>by
  have:=List.all_eq_true.1 h j (List.mem_range.2 (Array.getElem?_eq_some_iff.1 ho).1)
  simpa only [ho] using this
 have hsee:∀ (i j:Nat)(oi oj:Oper),ops[i]?=some oi→ops[j]?=some oj→∀ d,oi.dst=some d→(d∈oj.looksAt ops→i≠j∧((M.getD j 0).testBit i=true∨(M.getD i 0).testBit j=true))∧(i≠j→oj.dst≠some d):=fun i j oi oj hi hj d hd=>by
  have h1:=hat j oj hj
  simp only [tidyAt,Bool.and_eq_true] at h1
  have h2:=List.all_eq_true.1 h1.2 i (List.mem_range.2 (Array.getElem?_eq_some_iff.1 hi).1)
  simp only [hi,Option.bind_some,hd,Bool.and_eq_true,Bool.or_eq_true,Bool.not_eq_true',bne_iff_ne,beq_iff_eq] at h2
  refine⟨fun hm=>?_,fun hne=>h2.2.resolve_left hne⟩
  rcases h2.1 with h3|h3
  ·rw[List.contains_iff_mem.2 hm] at h3;cases h3
  ·exact h3
 refine⟨fun j o ho e he=>?_,fun j o i ho hi hb=>?_,fun i j oi oj hi hj hne d hd=>⟨fun hm=>((hsee i j oi oj hi hj d hd).1 hm).2,(hsee i j oi oj hi hj d hd).2 hne⟩,fun i oi hi d hd hm=>((hsee i i oi oi hi hi d hd).1 hm).1 rfl,fun i oi hi=>?_⟩
 ·have h1:=hat j o ho
  simp only [tidyAt,Bool.and_eq_true] at h1
  simpa using List.all_eq_true.1 h1.1.1.2 e he
 ·have h1:=hat j o ho
  simp only [tidyAt,Bool.and_eq_true] at h1
  have h2:=List.all_eq_true.1 h1.1.2 i (List.mem_range.2 hi)
  simp only [hb,Bool.not_true,Bool.false_or,List.any_eq_true,Bool.or_eq_true,beq_iff_eq] at h2
  exact h2
 ·have h1:=hat i oi hi
  simp only [tidyAt,Bool.and_eq_true] at h1
  have h2:=h1.1.1.1
  unfold Lg at h2
  exact⟨fun cs b hc=>by simp[hc] at h2,fun c hc=>by simp[hc] at h2⟩
def Ck (ops:Array Oper)(listed:Array Bool):Prop:=∀ (j:Nat)(o:Oper),ops[j]?=some o→listed.getD j false=true→∀ e∈Bt o,listed.getD e false=true
theorem Gk {o:Oper}{e:Nat}:e∈Bt o↔∃ x∈o.after,Region.binds .any x=true∧x.on=e:=by
 unfold Bt
 rw[List.mem_filterMap]
 constructor
 ·rintro⟨x,hx,h⟩
  split at h
  ·rename_i hb;cases h;exact⟨x,Array.mem_toList_iff.1 hx,hb,rfl⟩
  ·cases h
 ·rintro⟨x,hx,hb,rfl⟩
  exact⟨x,Array.mem_toList_iff.2 hx,by simp[hb]⟩
theorem Cb {j:Nat}{listed:Array Bool}(h:j∈Region.ready .any ops listed):∃ o,ops[j]?=some o∧listed.getD j true=false∧∀ e∈Bt o,listed.getD e false=true:=by
 obtain⟨h0,o,ho,h1⟩:=mem_ready.1 h
 exact⟨o,ho,h0,fun e he=>by obtain⟨x,hx,hb,rfl⟩:=Gk.1 he;exact h1 x hx hb⟩
theorem Ck.set {listed:Array Bool}(hc:Ck ops listed){j:Nat}(h:j∈Region.ready .any ops listed):Ck ops (listed.setIfInBounds j true):=by
 obtain⟨o,ho,_,he⟩:=Cb h
 intro k ok hok hk e hek
 by_cases hjk:j=k
 ·subst hjk
  rw[ho] at hok;cases hok
  exact getD_set_true (he e hek)
 ·rw[getD_set_ne false hjk] at hk
  exact getD_set_true (hc k ok hok hk e hek)
theorem Fa {listed:Array Bool}{j:Nat}(h:listed.getD j true=false):listed.getD j false=false:=by
 rcases Nat.lt_or_ge j listed.size with h'|h'
 ·simpa[h'] using h
 ·simp[Array.getElem?_eq_none h']
theorem Ck.anc {M:List Nat}(hM:Tidy ops M){listed:Array Bool}(hc:Ck ops listed){i:Nat}(hi:i<ops.size):∀ (j:Nat)(o:Oper),ops[j]?=some o→(∀ e∈Bt o,listed.getD e false=true)→(M.getD j 0).testBit i=true→listed.getD i false=true:=by
 intro j
 induction j using Nat.strongRecOn with
 | _ j ih =>
  intro o ho hall hb
  obtain⟨e,he,h1|h1⟩:=hM.anc j o i ho hi hb
  ·subst h1;exact hall e he
  ·have hlt:=hM.back j o ho e he
   have hes:e<ops.size:=Nat.lt_trans hlt (Array.getElem?_eq_some_iff.1 ho).1
   exact ih e hlt ops[e] (Array.getElem?_eq_getElem hes) (hc e ops[e] (Array.getElem?_eq_getElem hes) (hall e he)) h1
def Cc (T:Ti)(ops:Array Oper)(Af:List (Nat × AV))(f:Fm)(h:Hp):Prop:=∀ p∈Af,lightV T ops h f p.1=some p.2
def Cg (M:List Nat)(j:Nat)(Af:List (Nat × AV)):List (Nat × AV):=Af.filter fun p=>!(M.getD j 0).testBit p.1
variable (P T ops) in
def Cy (M:List Nat)(rd:Option Nat)(K:Fm→St→Prop):Nat→List (Nat × AV)→Array Bool→Fm→St→Prop
 | 0,Af,listed,f,st=>Cc T ops Af f st.h∧Region.ready .any ops listed=[]∧K f st
 | fuel+1,Af,listed,f,st=>Cc T ops Af f st.h∧(Region.ready .any ops listed=[]→K f st) ∧
  ∀ j∈Region.ready .any ops listed,∃ o,ops[j]?=some o∧Ac P rd ops [j] (fun f' st'=>∃ v,f'=f.put o.dst v∧Cy M rd K fuel (Cg M j Af) (listed.setIfInBounds j true) f' st') f st
theorem Ac.mono {rd:Option Nat}{l:List Nat}{K K':Fm→St→Prop}{f:Fm}{st:St}(h:Ac P rd ops l K f st)(hk:∀ f st,K f st→K' f st):Ac P rd ops l K' f st :=
 fun φ w a n Q h1 h2 h3 hQ=>h φ w a n Q h1 h2 h3 fun a' w' ⟨f',st',φ',k,r⟩=>hQ a' w' ⟨f',st',φ',hk _ _ k,r⟩
theorem Cy.Af {M:List Nat}{rd:Option Nat}{K:Fm→St→Prop}{fuel:Nat}{Af:List (Nat × AV)}{listed:Array Bool}{f:Fm}{st:St}(h:Cy P T ops M rd K fuel Af listed f st):Cc T ops Af f st.h:=by
 cases fuel<;>exact h.1
theorem Cy.weaken {M:List Nat}{rd:Option Nat}{K:Fm→St→Prop}:∀ (fuel:Nat){Af pend':List (Nat × AV)}{listed:Array Bool}{f:Fm}{st:St},Cy P T ops M rd K fuel Af listed f st→(∀ p∈pend',p∈Af)→Cy P T ops M rd K fuel pend' listed f st
 | 0,_,_,_,_,_,h,hs=>⟨fun p hp=>h.1 p (hs p hp),h.2⟩
 | fuel+1,Af,pend',_,_,_,h,hs=>⟨fun p hp=>h.1 p (hs p hp),h.2.1,fun j hj=>by
   obtain⟨o,ho,h1⟩:=h.2.2 j hj
   refine⟨o,ho,h1.mono fun f' st' ⟨v,h2,h3⟩=>⟨v,h2,Cy.weaken fuel h3 fun p hp=>?_⟩⟩
   unfold Cg at *
   rw[List.mem_filter] at *
   exact⟨hs p hp.1,hp.2⟩⟩
theorem Es {F:Fence}{n:Nat}{Q1 Q2:Exit→Act→World→Prop}{j:Nat}{o:Oper}{K1 K2:Act→World→Prop}{a1 a2:Act}{w:World}(hj:ops[j]?=some o)(hnd:∀ c,o.op≠.defer c)
  (hw:Region.wanted o (yielded ops a1.tmps)=Region.wanted o (yielded ops a2.tmps))(he:execOp a1.eval o=execOp a2.eval o)(hb:∀ w,o.about P w a1.eval=o.about P w a2.eval)
  (hK:∀ cv w',K1 (a1.put o.dst cv) w'→K2 (a2.put o.dst cv) w')(hD:∀ d w',K1 ({ a1 with defers:=d::a1.defers}.put o.dst undef) w'→K2 ({ a2 with defers:=d::a2.defers}.put o.dst undef) w')(hQ:∀ e a w,e≠.normal→Q1 e a w→Q2 e a2 w)(hl:LetsOut Q1→LetsOut Q2)
  (h:wpOpIn F n P ops Q1 j K1 a1 w):wpOpIn F n P ops Q2 j K2 a2 w:=by
 unfold wpOpIn at *
 simp only [hj] at *
 rw[hw,hb w] at h
 split
 ·rename_i hwn
  simp only [hwn,if_true] at h
  unfold Oper.wpIn at *
  rw[semAt_eq hnd,he,hb w] at h
  rw[semAt_eq hnd]
  refine⟨h.1,?_⟩
  obtain⟨-,h⟩:=h
  generalize (execOp a2.eval o).run P w=r at *
  cases r with
  | ok x w' =>
   cases x<;>simp only [Oper.uponIn] at h ⊢
   case value u=>exact hK u _ h
   case skip=>exact hK _ _ h
   case defer d=>exact hD d _ h
   case enter f args=>exact⟨h.1,CallsIn.mono h.2 fun e w'' he=>by
    cases e with
    | returned u=>exact hK u _ he
    | panicked c=>exact hQ _ _ _ (by simp) he
    | outgrown=>exact hl he⟩
   case row row args=>exact⟨h.1,RowsIn.mono h.2 fun u w'' he=>hK u _ he⟩
   case round l f tmps assign body=>exact⟨h.1,RoundIn.mono h.2 fun e w'' he=>by
    cases e with
    | returned u=>exact hK u _ he
    | panicked c=>exact hQ _ _ _ (by simp) he
    | outgrown=>exact hl he⟩
  | halt x w' =>
   cases x<;>simp only [Oper.uponIn] at h ⊢
   case panic u=>exact hQ _ _ _ (by simp) h
 ·rename_i hwn
  simp only [hwn] at h
  exact⟨h.1,hK _ _ h.2⟩
theorem Ac.eK {M:List Nat}(hM:Tidy ops M)(hT:TOk P T){rd:Option Nat}{i j:Nat}{oi oj:Oper}{r:AV}{K:Fm→St→Prop}{f:Fm}{st:St}(hi:ops[i]?=some oi)(hj:ops[j]?=some oj)
  (h1:∀ d,oi.dst=some d→d∉oj.looksAt ops)(h2:∀ d,oi.dst=some d→oj.dst≠some d)(hr:lightV T ops st.h f i=some r)
  (h:Ac P rd ops [j] (fun f' st'=>∃ v,f'=(f.put oi.dst r).put oj.dst v∧K (f.put oj.dst v) st') (f.put oi.dst r) st) :
  Ac P rd ops [j] (fun f' st'=>∃ v,f'=f.put oj.dst v∧K f' st') f st:=by
 intro φ w a n Q hrd hrel hact hQ
 obtain⟨u,hu⟩:∃ u,VR φ r u:=by
  unfold lightV at hr
  simp only [hi] at hr
  split at hr
  ·obtain⟨u,h3,_⟩:=Qz (P:=P) hT hrel (Bm hact.ts) hr
   exact⟨u,h3⟩
  ·cases hr;exact⟨undef,.lit _⟩
 have hp:=hM.plain j oj hj
 let X:Act→World→Prop:=Eg φ st w (fun _ f' st'=>∃ v,f'=(f.put oi.dst r).put oj.dst v∧K (f.put oj.dst v) st') .normal
 have h3:=h φ w (a.put oi.dst u) n (fun e a w=>e=.normal∧X a w) hrd hrel (hact.put oi.dst hu) (fun a' w' hl=>⟨rfl,hl⟩)
 rw[wpOpsIn_cons] at h3 ⊢
 refine Es hj hp.2 (wanted_put oj a oi.dst u h1) (execOp_put oj hp.1 a oi.dst u h1) (fun w=>about_put oj w a oi.dst u h1) (fun cv w' hk=>?_) (fun d w' hk=>?_) (fun e a w hne hk=>absurd hk.1 hne) (fun hl=>?_) h3
 ·obtain⟨_,f',st',φ',⟨v,rfl,hk⟩,he,hrel',hact',hf⟩:=hk
  refine hQ _ _ ⟨f.put oj.dst v,st',φ',⟨v,rfl,hk⟩,he,hrel',?_,hf⟩
  cases hd:oj.dst with
  | none=>exact hact.mono he
  | some d =>
   rw[hd] at hact'
   by_cases hlt:d<f.ts.length
   ·refine(hact.mono he).put (some d) ?_
    have hlt':d<(f.put oi.dst r).ts.length:=by cases oi.dst<;>simpa[Fm.put] using hlt
    obtain⟨x,hx1,hx2⟩:=hact'.ts.get d v (by show((f.put oi.dst r).ts.set d v)[d]?=some v;simp[hlt'])
    have hlc:d<(a.put oi.dst u).tmps.size:=by
     have h5:=(hact.put oi.dst hu).ts.length
     rw[Array.length_toList] at h5
     exact Nat.lt_of_lt_of_eq hlt' h5
    have:((a.put oi.dst u).put (some d) cv).tmps.toList[d]?=some cv:=by
     show((a.put oi.dst u).tmps.setIfInBounds d cv).toList[d]?=some cv
     rw[Array.toList_setIfInBounds]
     simp[hlc]
    rw[this] at hx1
    cases hx1
    exact hx2
   ·have e1:f.put (some d) v=f:=by
     cases f with|mk ts dm=>simp only [Fm.put];congr 1;exact List.set_eq_of_length_le (by simpa using hlt)
    have hlc:¬ d<a.tmps.size:=by
     have h5:=hact.ts.length
     rw[Array.length_toList] at h5
     exact fun h6=>hlt (Nat.lt_of_lt_of_eq h6 h5.symm)
    have e2:a.put (some d) cv=a:=by
     cases a with|mk tmps defers=>simp only [Act.put];congr 1;exact Array.setIfInBounds_eq_of_size_le (by simpa using hlc)
    rw[e1,e2]
    exact hact.mono he
 ·exfalso
  obtain⟨_,f',st',φ',⟨v,rfl,hk⟩,he,hrel',hact',hf⟩:=hk
  have e1:=congrArg List.length hact'.dm
  have e2:=congrArg List.length hact.dm
  have e3:((f.put oi.dst r).put oj.dst v).dm=f.dm:=by cases oi.dst<;>cases oj.dst<;>rfl
  rw[e3] at e1
  cases hdi:oi.dst<;>cases hdj:oj.dst<;>simp[hdi,hdj,Act.put] at e1 e2<;>omega
 ·obtain⟨a,w,hn,_⟩:=hl
  cases hn
theorem Fm.put_comm (f:Fm){x y:Option Tmp}(v u:AV)(h:∀ d,x=some d→y≠some d):(f.put x v).put y u=(f.put y u).put x v:=by
 cases x with
 | none=>rfl
 | some d =>
  cases y with
  | none=>rfl
  | some e =>
   have hne:d≠e:=fun he=>h d rfl (he▸rfl)
   simp[Fm.put,List.set_comm _ _ hne]
theorem Ac.lightV (hT:TOk P T){rd:Option Nat}{i:Nat}{l:List Nat}{K:Fm→St→Prop}{f:Fm}{st:St}{o:Oper}{r:AV}(ho:ops[i]?=some o)(hr:lightV T ops st.h f i=some r)(h:Ac P rd ops l K (f.put o.dst r) st):Ac P rd ops (i::l) K f st:=by
 unfold Ev.lightV at hr
 simp only [ho] at hr
 split at hr
 ·rename_i hw;exact .Db hT ho hw hr h
 ·rename_i hw;cases hr;exact .skip ho (by simpa using hw) h
def PL (Af:List (Nat × AV))(listed:Array Bool):Prop:=∀ p∈Af,listed.getD p.1 false=true
theorem Cy.take {M:List Nat}(hM:Tidy ops M)(hT:TOk P T){rd:Option Nat}{K:Fm→St→Prop}{i:Nat}{oi:Oper}{r:AV}(hi:ops[i]?=some oi):∀ (fuel:Nat){Af:List (Nat × AV)}{listed:Array Bool}{f:Fm}{st:St},
  Ck ops listed→PL Af listed→(∀ p∈Af,∀ o,ops[p.1]?=some o→∀ d,oi.dst=some d→d∉o.looksAt ops)→i∈Region.ready .any ops listed→lightV T ops st.h f i=some r→Cy P T ops M rd K fuel ((i,r)::Af) (listed.setIfInBounds i true) (f.put oi.dst r) st →
  Cy P T ops M rd K (fuel+1) Af listed f st:=by
 intro fuel
 have his:i<ops.size:=(Array.getElem?_eq_some_iff.1 hi).1
 have hpend:∀ {Af:List (Nat × AV)}{f:Fm}{h:Hp},(∀ p∈Af,∀ o,ops[p.1]?=some o→∀ d,oi.dst=some d→d∉o.looksAt ops)→Cc T ops ((i,r)::Af) (f.put oi.dst r) h→Cc T ops Af f h:=by
  intro Af f h hpd hp p hpm
  have h1:=hp p (List.mem_cons_of_mem _ hpm)
  rwa [Gc (fun o ho d hd=>hpd p hpm o ho d hd)] at h1
 have hself:∀ {Af:List (Nat × AV)}{listed:Array Bool}{f:Fm}{st:St}{fuel:Nat},Cy P T ops M rd K fuel ((i,r)::Af) (listed.setIfInBounds i true) (f.put oi.dst r) st→lightV T ops st.h f i=some r →
   ∃ o,ops[i]?=some o∧Ac P rd ops [i] (fun f' st'=>∃ v,f'=f.put o.dst v∧Cy P T ops M rd K fuel (Cg M i Af) (listed.setIfInBounds i true) f' st') f st:=fun H hr =>
  ⟨oi,hi,Ac.lightV hT hi hr (.nil ⟨r,rfl,H.weaken _ fun p hp=>List.mem_cons_of_mem _ (List.mem_filter.1 hp).1⟩)⟩
 induction fuel with
 | zero =>
  intro Af listed f st hc hpl hpd hr hl H
  refine⟨hpend hpd H.Af,fun h=>(by rw[h] at hr;cases hr),fun j hj=>?_⟩
  by_cases hji:j=i
  ·subst hji;exact hself H hl
  ·have:=ready_mono hj hji
   rw[H.2.1] at this
   cases this
 | succ fuel ih =>
  intro Af listed f st hc hpl hpd hr hl H
  refine⟨hpend hpd H.Af,fun h=>(by rw[h] at hr;cases hr),fun j hj=>?_⟩
  by_cases hji:j=i
  ·subst hji;exact hself H hl
  ·obtain⟨oj,hoj,h1⟩:=H.2.2 j (ready_mono hj hji)
   obtain⟨oj',hoj',hjun,hje⟩:=Cb hj
   rw[hoj] at hoj';cases hoj'
   obtain⟨oi',hoi',hiun,hie'⟩:=Cb hr
   rw[hi] at hoi';cases hoi'
   have hnot:(M.getD j 0).testBit i=false:=by
    cases hb:(M.getD j 0).testBit i with
    | false=>rfl
    | true=>have:=Ck.anc hM hc his j oj hoj hje hb;rw[Fa hiun] at this;cases this
   have hd1:∀ d,oi.dst=some d→d∉oj.looksAt ops:=fun d hd hm=>by
    rcases (hM.see i j oi oj hi hoj (Ne.symm hji) d hd).1 hm with h5|h5
    ·rw[hnot] at h5;cases h5
    ·have:=Ck.anc hM hc (Array.getElem?_eq_some_iff.1 hoj).1 i oi hi hie' h5
     rw[Fa hjun] at this;cases this
   have hd2:∀ d,oi.dst=some d→oj.dst≠some d:=fun d hd=>(hM.see i j oi oj hi hoj (Ne.symm hji) d hd).2
   refine⟨oj,hoj,Ac.eK (K:=fun f' st'=>Cy P T ops M rd K (fuel+1) (Cg M j Af) (listed.setIfInBounds j true) f' st') hM hT hi hoj hd1 hd2 hl (h1.mono fun f' st' ⟨v,hf,h2⟩=>⟨v,hf,?_⟩)⟩
   subst hf
   have h3:Cg M j ((i,r)::Af)=(i,r)::Cg M j Af:=by unfold Cg;rw[List.filter_cons];simp only [hnot,Bool.not_false,if_true]
   rw[h3,Array.setIfInBounds_comm _ _ (Ne.symm hji),Fm.put_comm _ _ _ hd2] at h2
   refine ih (hc.set hj) (fun p hp=>getD_set_true (hpl p (List.mem_filter.1 hp).1)) (fun p hp=>hpd p (List.mem_filter.1 hp).1) (ready_mono hr (Ne.symm hji)) ?_ h2
   have h4:=h2.Af (i,r) (by simp)
   rwa [Gc (fun o ho d hd=>by rw[hi] at ho;cases ho;exact hM.self i oi hi d hd)] at h4
theorem Cy.done {M:List Nat}{rd:Option Nat}{K:Fm→St→Prop}{Af:List (Nat × AV)}{listed:Array Bool}{f:Fm}{st:St}(hp:Cc T ops Af f st.h)(hr:Region.ready .any ops listed=[])(h:K f st):∀ fuel,Cy P T ops M rd K fuel Af listed f st
 | 0=>⟨hp,hr,h⟩
 | _+1=>⟨hp,fun _=>h,by rw[hr];simp⟩
theorem Cy.all {M:List Nat}{rd:Option Nat}{K:Fm→St→Prop}{fuel:Nat}{Af:List (Nat × AV)}{listed:Array Bool}{f:Fm}{st:St}{rs:List Nat}(hp:Cc T ops Af f st.h)(hr:Region.ready .any ops listed=rs)(hne:rs≠[])
  (h:∀ j∈rs,∃ o,ops[j]?=some o∧Ac P rd ops [j] (fun f' st'=>∃ v,f'=f.put o.dst v∧Cy P T ops M rd K fuel (Cg M j Af) (listed.setIfInBounds j true) f' st') f st):Cy P T ops M rd K (fuel+1) Af listed f st :=
 ⟨hp,fun h0=>absurd (hr▸h0) hne,hr▸h⟩
theorem Cy.sound {M:List Nat}(hM:Tidy ops M){rd:Option Nat}{K:Fm→St→Prop}:∀ (fuel:Nat){Af:List (Nat × AV)}{listed:Array Bool}{f:Fm}{st:St},Cy P T ops M rd K fuel Af listed f st →
  ∀ (φ:Fi)(w:World)(a:Act)(n:Nat)(Q:Exit→Act→World→Prop),(∀ id,rd=some id→id<φ.n)→Rel φ st w→Cz φ f a→(∀ a' w',Eg φ st w (fun _ f' st'=>K f' st') .normal a' w'→Q .normal a' w') →
   wpAnyIn (FW (rdB φ rd)) n P .any ops Q fuel listed a w
 | 0,_,_,_,_,h,_,_,_,_,_,_,h2,h3,hQ=>⟨h.2.1,hQ _ _ (Eg.here h.2.2 h2 h3)⟩
 | fuel+1,Af,listed,f,st,h,φ,w,a,n,Q,h1,h2,h3,hQ=>by
  refine⟨fun hr=>hQ _ _ (Eg.here (h.2.1 hr) h2 h3),fun j hj=>?_⟩
  obtain⟨o,ho,h4⟩:=h.2.2 j hj
  have hp:=hM.plain j o ho
  have h5:=h4 φ w a n (fun e a' w'=>e=.normal∧wpAnyIn (FW (rdB φ rd)) n P .any ops Q fuel (listed.setIfInBounds j true) a' w') h1 h2 h3 (fun a' w' hl=>⟨rfl,by
   obtain⟨f',st',φ',⟨v,hf,hk⟩,he,hrel,hact,hfr⟩:=hl
   have h6:=Cy.sound hM fuel hk φ' w' a' n Q (fun id hi=>Nat.lt_of_lt_of_le (h1 id hi) he.n) hrel hact (fun a2 w2 hl2=>hQ a2 w2 (hl2.trans he hfr))
   rwa [Dd he h1] at h6⟩)
  rw[wpOpsIn_cons] at h5
  exact Es ho hp.2 rfl rfl (fun _=>rfl) (fun cv w' hk=>hk.2) (fun d w' hk=>hk.2) (fun e a w hne hk=>absurd hk.1 hne) (fun hl=>by obtain⟨a,w,hn,_⟩:=hl;cases hn) h5
theorem SW.drawn {M:List Nat}(hm:P.follows .mixedOrders=true){rd:Option Nat}{id:Nat}{Q:Exit→Fm→St→Prop}{f:Fm}{st:St}(hM:Tidy ops M)
  (h:Cy P T ops M rd (fun f' st'=>Q .normal f' st') ops.size [] (Array.replicate ops.size false) f st):SW P rd (.region id ops true) Q f st:=by
 intro φ w a n h1 h2 h3
 refine wpIn_region_any hm ?_
 have hrel:Rel φ st { w with drawn:=w.drawn+1}:=h2.of_heap rfl
 refine Cy.sound hM ops.size h φ _ a n _ h1 hrel h3 fun a' w' hl=>?_
 obtain⟨f',st',φ',k,he,hr,ha,hf⟩:=hl
 exact⟨f',st',φ',k,he,hr,ha,⟨hf.os,hf.tape,hf.output,hf.size,hf.block,hf.own⟩⟩
theorem Ha:Ck ops (Array.replicate ops.size false):=fun j o ho hl=>by
 exfalso
 simp only [Array.getD_eq_getD_getElem?,Array.getElem?_replicate] at hl
 split at hl<;>simp at hl
end
end Go.Ev
namespace Go.Ev
section
variable {P:Program}{T:Ti}{ops:Array Oper}
def cC (T:Ti)(ops:Array Oper)(dl:Nat→Option (List Value)):Prop:=∀ i cs,dl i=some cs→∃ o e ti,ops[i]?=some o∧o.op=.alloc e∧o.guard=none∧Bt o=[]∧T e=some ti∧cs=ti.zero
def gK (ops:Array Oper)(M:List Nat)(dl:Nat→Option (List Value))(lt:Nat→Bool):Prop:=(∀ i,(dl i).isSome=true→lt i=false)∧∀ (i j u:Nat)(oj ou:Oper),(dl i).isSome=true→ops[j]?=some oj→ops[u]?=some ou→i∈Bt oj→u=j∨(M.getD j 0).testBit u=true∨i∈Bt ou∨((dl u).isSome=true∧i≤u)∨lt u=true
def cB (ops:Array Oper)(dl:Nat→Option (List Value))(lt:Nat→Bool)(listed:Array Bool):Prop:=∀ (u:Nat)(ou:Oper),ops[u]?=some ou→listed.getD u true=false→(dl u).isSome=true∨lt u=true∨∃ i,(dl i).isSome=true∧listed.getD i true=false∧i∈Bt ou
variable (P T ops) in
def Gt (M:List Nat)(rd:Option Nat)(dl:Nat→Option (List Value))(lt:Nat→Bool)(K:Fm→St→Prop):Nat→List (Nat × AV)→Array Bool→Fm→St→Prop
 | 0,Af,listed,f,st=>Cc T ops Af f st.h∧Region.ready .any ops listed=[]∧K f st
 | fuel+1,Af,listed,f,st=>Cc T ops Af f st.h∧(Region.ready .any ops listed=[]→K f st) ∧
  (∀ j∈Region.ready .any ops listed,dl j=none→∃ o,ops[j]?=some o∧Ac P rd ops [j] (fun f' st'=>∃ v,f'=f.put o.dst v∧Gt M rd dl lt K fuel (Cg M j Af) (listed.setIfInBounds j true) f' st') f st) ∧
  (cB ops dl lt listed→(∃ k,(dl k).isSome=true∧listed.getD k true=false)→∃ i cs,dl i=some cs∧listed.getD i true=false∧(∀ k,(dl k).isSome=true→listed.getD k true=false→i≤k) ∧
   (∀ id o,st.h.get id=some o→o.own=true)∧∃ o,ops[i]?=some o∧Gt M rd dl lt K fuel (Cg M i Af) (listed.setIfInBounds i true) (f.put o.dst (.ptr st.n 0)) (st.push (.cells none false (cs.map .lit))))
theorem cB.set {dl:Nat→Option (List Value)}{lt:Nat→Bool}{listed:Array Bool}{i:Nat}(hd:dl i=none)(h:cB ops dl lt listed):cB ops dl lt (listed.setIfInBounds i true):=fun u ou hu hun=>by
 by_cases hiu:i=u
 ·subst hiu
  by_cases hs:i<listed.size
  ·simp[hs] at hun
  ·simp[Array.getElem?_eq_none (show listed.size≤i by omega)] at hun
 ·rw[getD_set_ne true hiu] at hun
  rcases h u ou hu hun with h1|h1|⟨k,h1,h2,h3⟩
  ·exact .inl h1
  ·exact .inr (.inl h1)
  ·exact .inr (.inr ⟨k,h1,by rw[getD_set_ne true (fun e=>by subst e;rw[hd] at h1;cases h1)];exact h2,h3⟩)
theorem Gt.Af {M:List Nat}{rd:Option Nat}{dl:Nat→Option (List Value)}{lt:Nat→Bool}{K:Fm→St→Prop}{fuel:Nat}{Af:List (Nat × AV)}{listed:Array Bool}{f:Fm}{st:St}(h:Gt P T ops M rd dl lt K fuel Af listed f st):Cc T ops Af f st.h:=by
 cases fuel<;>exact h.1
theorem Gt.weaken {M:List Nat}{rd:Option Nat}{dl:Nat→Option (List Value)}{lt:Nat→Bool}{K:Fm→St→Prop}:∀ (fuel:Nat){Af pend':List (Nat × AV)}{listed:Array Bool}{f:Fm}{st:St},Gt P T ops M rd dl lt K fuel Af listed f st→(∀ p∈pend',p∈Af)→Gt P T ops M rd dl lt K fuel pend' listed f st
 | 0,_,_,_,_,_,h,hs=>⟨fun p hp=>h.1 p (hs p hp),h.2⟩
 | fuel+1,Af,pend',_,_,_,h,hs=>by
  have hd:∀ j,∀ p∈Cg M j pend',p∈Cg M j Af:=fun j p hp=>by
   unfold Cg at *
   rw[List.mem_filter] at *
   exact⟨hs p hp.1,hp.2⟩
  refine⟨fun p hp=>h.1 p (hs p hp),h.2.1,fun j hj hn=>?_,fun hC hex=>?_⟩
  ·obtain⟨o,ho,h1⟩:=h.2.2.1 j hj hn
   exact⟨o,ho,h1.mono fun f' st' ⟨v,h2,h3⟩=>⟨v,h2,Gt.weaken fuel h3 (hd j)⟩⟩
  ·obtain⟨i,cs,k1,k2,k3,h1,o,ho,h2⟩:=h.2.2.2 hC hex
   exact⟨i,cs,k1,k2,k3,h1,o,ho,Gt.weaken fuel h2 (hd i)⟩
theorem Gt.take {M:List Nat}(hM:Tidy ops M)(hT:TOk P T){rd:Option Nat}{dl:Nat→Option (List Value)}{lt:Nat→Bool}{K:Fm→St→Prop}{i:Nat}{oi:Oper}{r:AV}(hi:ops[i]?=some oi)(hdl:dl i=none)(hDl:cC T ops dl):∀ (fuel:Nat){Af:List (Nat × AV)}{listed:Array Bool}{f:Fm}{st:St},
  Ck ops listed→PL Af listed→(∀ p∈Af,∀ o,ops[p.1]?=some o→∀ d,oi.dst=some d→d∉o.looksAt ops)→i∈Region.ready .any ops listed→lightV T ops st.h f i=some r→Gt P T ops M rd dl lt K fuel ((i,r)::Af) (listed.setIfInBounds i true) (f.put oi.dst r) st →
  Gt P T ops M rd dl lt K (fuel+1) Af listed f st:=by
 intro fuel
 have his:i<ops.size:=(Array.getElem?_eq_some_iff.1 hi).1
 have hpend:∀ {Af:List (Nat × AV)}{f:Fm}{h:Hp},(∀ p∈Af,∀ o,ops[p.1]?=some o→∀ d,oi.dst=some d→d∉o.looksAt ops)→Cc T ops ((i,r)::Af) (f.put oi.dst r) h→Cc T ops Af f h:=by
  intro Af f h hpd hp p hpm
  have h1:=hp p (List.mem_cons_of_mem _ hpm)
  rwa [Gc (fun o ho d hd=>hpd p hpm o ho d hd)] at h1
 have hself:∀ {Af:List (Nat × AV)}{listed:Array Bool}{f:Fm}{st:St}{fuel:Nat},Gt P T ops M rd dl lt K fuel ((i,r)::Af) (listed.setIfInBounds i true) (f.put oi.dst r) st→lightV T ops st.h f i=some r →
   ∃ o,ops[i]?=some o∧Ac P rd ops [i] (fun f' st'=>∃ v,f'=f.put o.dst v∧Gt P T ops M rd dl lt K fuel (Cg M i Af) (listed.setIfInBounds i true) f' st') f st:=fun H hr =>
  ⟨oi,hi,Ac.lightV hT hi hr (.nil ⟨r,rfl,H.weaken _ fun p hp=>List.mem_cons_of_mem _ (List.mem_filter.1 hp).1⟩)⟩
 induction fuel with
 | zero =>
  intro Af listed f st hc hpl hpd hr hl H
  refine⟨hpend hpd H.Af,fun h=>(by rw[h] at hr;cases hr),fun j hj hn=>?_,fun _ ⟨k,hk1,hk2⟩=>?_⟩
  ·by_cases hji:j=i
   ·subst hji;exact hself H hl
   ·have:=ready_mono hj hji
    rw[H.2.1] at this
    cases this
  ·exfalso
   obtain⟨cs,hcs⟩:=Option.isSome_iff_exists.1 hk1
   obtain⟨o,e,ti,ho,_,_,hed,_⟩:=hDl k cs hcs
   have hki:k≠i:=fun e=>by subst e;rw[hdl] at hcs;cases hcs
   have hkr:k∈Region.ready .any ops listed:=mem_ready.2 ⟨hk2,o,ho,fun e hem hb=>by
    have:e.on∈Bt o:=Gk.2 ⟨e,hem,hb,rfl⟩
    rw[hed] at this;cases this⟩
   have:=ready_mono hkr hki
   rw[H.2.1] at this
   cases this
 | succ fuel ih =>
  intro Af listed f st hc hpl hpd hr hl H
  refine⟨hpend hpd H.Af,fun h=>(by rw[h] at hr;cases hr),fun j hj hn=>?_,fun hC ⟨k0,hk1,hk2⟩=>?_⟩
  rotate_left
  ·have hk0i:k0≠i:=fun e=>by subst e;rw[hdl] at hk1;cases hk1
   obtain⟨i0,cs,q1,q2,q3,q4,o,ho,H2⟩:=H.2.2.2 (hC.set hdl) ⟨k0,hk1,by rw[getD_set_ne true (Ne.symm hk0i)];exact hk2⟩
   have hi0i:i0≠i:=fun e=>by subst e;rw[hdl] at q1;cases q1
   rw[getD_set_ne true (Ne.symm hi0i)] at q2
   obtain⟨o',e,ti,ho',_,_,hed,_⟩:=hDl i0 cs q1
   rw[ho] at ho';cases ho'
   have hi0r:i0∈Region.ready .any ops listed:=mem_ready.2 ⟨q2,o,ho,fun e hem hb=>by
    have:e.on∈Bt o:=Gk.2 ⟨e,hem,hb,rfl⟩
    rw[hed] at this;cases this⟩
   have hnot:(M.getD i0 0).testBit i=false:=by
    cases hb:(M.getD i0 0).testBit i with
    | false=>rfl
    | true=>obtain⟨e,he,_⟩:=hM.anc i0 o i ho his hb;rw[hed] at he;cases he
   have hd2:∀ d,oi.dst=some d→o.dst≠some d:=fun d hd=>(hM.see i i0 oi o hi ho (Ne.symm hi0i) d hd).2
   refine⟨i0,cs,q1,q2,fun k hk hku=>q3 k hk (by rw[getD_set_ne true (fun e=>by subst e;rw[hdl] at hk;cases hk)];exact hku),q4,o,ho,?_⟩
   have h3:Cg M i0 ((i,r)::Af)=(i,r)::Cg M i0 Af:=by unfold Cg;rw[List.filter_cons];simp only [hnot,Bool.not_false,if_true]
   rw[h3,Array.setIfInBounds_comm _ _ (Ne.symm hi0i),Fm.put_comm _ _ _ hd2] at H2
   refine ih (hc.set hi0r) (fun p hp=>getD_set_true (hpl p (List.mem_filter.1 hp).1)) (fun p hp=>hpd p (List.mem_filter.1 hp).1) (ready_mono hr (Ne.symm hi0i)) ?_ H2
   have h4:=H2.Af (i,r) (by simp)
   rwa [Gc (fun o ho d hd=>by rw[hi] at ho;cases ho;exact hM.self i oi hi d hd)] at h4
  by_cases hji:j=i
  ·subst hji;exact hself H hl
  ·obtain⟨oj,hoj,h1⟩:=H.2.2.1 j (ready_mono hj hji) hn
   obtain⟨oj',hoj',hjun,hje⟩:=Cb hj
   rw[hoj] at hoj';cases hoj'
   obtain⟨oi',hoi',hiun,hie'⟩:=Cb hr
   rw[hi] at hoi';cases hoi'
   have hnot:(M.getD j 0).testBit i=false:=by
    cases hb:(M.getD j 0).testBit i with
    | false=>rfl
    | true=>have:=Ck.anc hM hc his j oj hoj hje hb;rw[Fa hiun] at this;cases this
   have hd1:∀ d,oi.dst=some d→d∉oj.looksAt ops:=fun d hd hm=>by
    rcases (hM.see i j oi oj hi hoj (Ne.symm hji) d hd).1 hm with h5|h5
    ·rw[hnot] at h5;cases h5
    ·have:=Ck.anc hM hc (Array.getElem?_eq_some_iff.1 hoj).1 i oi hi hie' h5
     rw[Fa hjun] at this;cases this
   have hd2:∀ d,oi.dst=some d→oj.dst≠some d:=fun d hd=>(hM.see i j oi oj hi hoj (Ne.symm hji) d hd).2
   refine⟨oj,hoj,Ac.eK (K:=fun f' st'=>Gt P T ops M rd dl lt K (fuel+1) (Cg M j Af) (listed.setIfInBounds j true) f' st') hM hT hi hoj hd1 hd2 hl (h1.mono fun f' st' ⟨v,hf,h2⟩=>⟨v,hf,?_⟩)⟩
   subst hf
   have h3:Cg M j ((i,r)::Af)=(i,r)::Cg M j Af:=by unfold Cg;rw[List.filter_cons];simp only [hnot,Bool.not_false,if_true]
   rw[h3,Array.setIfInBounds_comm _ _ (Ne.symm hji),Fm.put_comm _ _ _ hd2] at h2
   refine ih (hc.set hj) (fun p hp=>getD_set_true (hpl p (List.mem_filter.1 hp).1)) (fun p hp=>hpd p (List.mem_filter.1 hp).1) (ready_mono hr (Ne.symm hji)) ?_ h2
   have h4:=h2.Af (i,r) (by simp)
   rwa [Gc (fun o ho d hd=>by rw[hi] at ho;cases ho;exact hM.self i oi hi d hd)] at h4
end
end Go.Ev
namespace Go.Ev
structure Gh where
 i:Nat
 b:Nat
 c:Array Value
 t:TypeId
 d:Option Tmp
def Gh.v (g:Gh):Value:=.pointer (some ⟨g.b,0,none⟩)
def Dk (a:Act):List Gh→Act
 | []=>a
 | g::G=>(Dk a G).put g.d g.v
theorem Act.put_comm (a:Act){x y:Option Tmp}(v u:Value)(h:∀ d,x=some d→y≠some d):(a.put x v).put y u=(a.put y u).put x v:=by
 cases x with
 | none=>rfl
 | some d =>
  cases y with
  | none=>rfl
  | some e =>
   have hne:d≠e:=fun he=>h d rfl (he▸rfl)
   simp only [Act.put]
   congr 1
   exact Array.setIfInBounds_comm _ _ hne
theorem Le {y:Option Tmp}{u:Value}:∀ {G:List Gh}(a:Act),(∀ g∈G,∀ d,g.d=some d→y≠some d)→(Dk a G).put y u=Dk (a.put y u) G
 | [],a,_=>rfl
 | g::G,a,h=>by
  show((Dk a G).put g.d g.v).put y u=(Dk (a.put y u) G).put g.d g.v
  rw[Act.put_comm _ _ _ (h g List.mem_cons_self),Le a fun g hg=>h g (List.mem_cons_of_mem _ hg)]
theorem Ql (a:Act)(G2:List Gh):∀ G1:List Gh,Dk a (G1++G2)=Dk (Dk a G2) G1
 | []=>rfl
 | g::G1=>by
  show(Dk a (G1++G2)).put g.d g.v=(Dk (Dk a G2) G1).put g.d g.v
  rw[Ql a G2 G1]
theorem iF (a:Act){G1 G2:List Gh}{g:Gh}(h:∀ x∈G2,∀ d,x.d=some d→g.d≠some d):Dk a (G1++g::G2)=Dk (a.put g.d g.v) (G1++G2):=by
 rw[Ql,Ql]
 show Dk ((Dk a G2).put g.d g.v) G1=_
 rw[Le a h]
theorem Pj (a:Act)(d:Deferred):∀ G:List Gh,Dk { a with defers:=d::a.defers} G={ Dk a G with defers:=d::(Dk a G).defers}
 | []=>rfl
 | g::G=>by
  show(Dk { a with defers:=d::a.defers} G).put g.d g.v=_
  rw[Pj a d G]
  show _={ (Dk a G).put g.d g.v with defers:=d::((Dk a G).put g.d g.v).defers}
  cases g.d<;>rfl
section
variable {P:Program}{T:Ti}{ops:Array Oper}
theorem Oi (oj:Oper)(hp:(∀ cs b,oj.op≠.select cs b)∧∀ c,oj.op≠.defer c):∀ {G:List Gh}(a:Act),(∀ g∈G,∀ d,g.d=some d→d∉oj.looksAt ops) →
  Region.wanted oj (yielded ops a.tmps)=Region.wanted oj (yielded ops (Dk a G).tmps)∧execOp a.eval oj=execOp (Dk a G).eval oj∧∀ w,oj.about P w a.eval=oj.about P w (Dk a G).eval
 | [],a,_=>⟨rfl,rfl,fun _=>rfl⟩
 | g::G,a,h=>by
  obtain⟨h1,h2,h3⟩:=Oi oj hp (G:=G) a fun x hx=>h x (List.mem_cons_of_mem _ hx)
  have hg:=h g List.mem_cons_self
  refine⟨h1.trans (wanted_put oj (Dk a G) g.d g.v hg).symm,h2.trans (execOp_put oj hp.1 (Dk a G) g.d g.v hg).symm,fun w=>(h3 w).trans (about_put oj w (Dk a G) g.d g.v hg).symm⟩
structure zZ (ops:Array Oper)(dl:Nat→Option (List Value))(φ:Fi)(st:St)(w0 w:World)(listed:Array Bool)(g:Gh):Prop where
 op:∃ o,ops[g.i]?=some o∧o.dst=g.d
 cells:dl g.i=some g.c.toList
 un:listed.getD g.i true=false
 heap:w.heap[g.b]?=some (.cells g.c g.t (0,0))
 late:w0.heap.size≤g.b
 apart:∀ id x,st.h.get id=some x→x.own=true→(φ.f id).b≠g.b
structure A0 (ops:Array Oper)(dl:Nat→Option (List Value))(φ:Fi)(st:St)(w0 w:World)(listed lr:Array Bool)(G:List Gh):Prop where
 each:∀ g∈G,zZ ops dl φ st w0 w listed g
 ids:(G.map (·.i)).Nodup
 blocks:(G.map (·.b)).Nodup
 sl:listed.size=ops.size
 sr:lr.size=ops.size
 bits:∀ k,k<ops.size→(lr.getD k true=true↔listed.getD k true=true∨∃ g∈G,g.i=k)
 cl:Ck ops lr
 cl2:Ck ops listed
theorem Sj {l:Array Bool}{k:Nat}(h:k<l.size):l.getD k true=l.getD k false:=by simp[h]
theorem Rel.ghost {φ:Fi}{st:St}{w:World}(hr:Rel φ st w){b:Nat}{c:Array Value}{t:TypeId}(hb:w.heap[b]?=some (.cells c t (0,0)))(hown:∀ id o,st.h.get id=some o→o.own=true)(hap:∀ id x,st.h.get id=some x→x.own=true→(φ.f id).b≠b) :
  Rel (φ.push ⟨b,0,c.size⟩) (st.push (.cells none false (c.toList.map .lit))) w:=by
 have hold:∀ id x,st.h.get id=some x→id<φ.n∧(φ.push ⟨b,0,c.size⟩).f id=φ.f id:=fun id x hx=>by
  have h1:=hr.lt id x hx
  rw[←hr.n] at h1
  exact⟨h1,(φ.Aw _).f id h1⟩
 have hbs:b<w.heap.size:=(Array.getElem?_eq_some_iff.1 hb).1
 refine⟨by simp[Fi.push,St.push,hr.n],fun id x hx=>?_,fun id x hx=>?_,fun id x hx=>?_,fun i j oi oj hi hj hij ho=>?_⟩
 ·rw[St.Bf] at hx
  split at hx
  ·show _<st.n+1;omega
  ·show _<st.n+1;have:=hr.lt id x hx;omega
 ·rw[St.Bf] at hx
  split at hx
  ·rename_i h;rw[←hr.n] at h;subst h;rw[Fi.Ai];exact hbs
  ·rw[(hold id x hx).2];exact hr.blk id x hx
 ·rw[St.Bf] at hx
  split at hx
  ·rename_i h
   rw[←hr.n] at h;subst h;cases hx
   refine⟨fun i a ha=>?_,fun _=>⟨c,t,by rw[Fi.Ai];exact hb,by rw[Fi.Ai],by rw[Fi.Ai];simp⟩⟩
   rw[List.getElem?_map] at ha
   cases hq:c.toList[i]? with
   | none=>rw[hq] at ha;cases ha
   | some v =>
    rw[hq] at ha
    simp only [Option.map_some,Option.some.injEq] at ha
    subst ha
    refine⟨v,?_,.lit v⟩
    rw[Fi.Ai]
    unfold World.cell?
    simp only [hb,Nat.zero_add]
    rw[←Array.getElem?_toList];exact hq
  ·exact(hr.obj id x hx).same (φ.Aw _) (hold id x hx).1 rfl
 ·rw[St.Bf] at hi hj
  split at hi
  ·rename_i h1
   rw[←hr.n] at h1;subst h1
   split at hj
   ·rename_i h2;rw[←hr.n] at h2;exact absurd h2 hij
   ·intro hbb
    rw[Fi.Ai,(hold j oj hj).2] at hbb
    exact absurd hbb.symm (hap j oj hj (hown j oj hj))
  ·split at hj
   ·rename_i h2
    rw[←hr.n] at h2;subst h2
    intro hbb
    rw[Fi.Ai,(hold i oi hi).2] at hbb
    exact absurd hbb (hap i oi hi ho)
   ·rw[(hold i oi hi).2,(hold j oj hj).2]
    exact hr.sep i j oi oj hi hj hij ho
theorem Mh {j:Nat}{o:Oper}{listed:Array Bool}(ho:ops[j]?=some o)(hu:listed.getD j true=false)(he:∀ e∈Bt o,listed.getD e false=true):j∈Region.ready .any ops listed :=
 mem_ready.2 ⟨hu,o,ho,fun e hem hb=>he e.on (Gk.2 ⟨e,hem,hb,rfl⟩)⟩
theorem Zy {φ:Fi}:∀ {l us:List Value},VRL φ (l.map .lit) us→us=l
 | [],_,h=>by cases h;rfl
 | v::l,_,h=>by
  cases h with
  | cons h t=>rw[h.Au,Zy t]
theorem Rel.alloc {φ:Fi}{st:St}{w:World}(hr:Rel φ st w)(o:Obj):Rel φ st (w.alloc o) :=
 ⟨hr.n,hr.lt,fun id x hx=>by rw[Dv];have:=hr.blk id x hx;omega,fun id x hx=>(hr.obj id x hx).same (Ext.refl _) (by rw[hr.n];exact hr.lt id x hx) (Dg w o _ (hr.blk id x hx)),hr.sep⟩
theorem Up {p q:Nat→Bool}{x:Nat}(hp:p x=false)(hq:q x=true):∀ {l:List Nat},x∈l→(∀ k∈l,p k=true→q k=true)→l.countP p<l.countP q
 | y::l,hx,hle=>by
  have hm:l.countP p≤l.countP q:=List.countP_mono_left fun k hk=>hle k (List.mem_cons_of_mem _ hk)
  rw[List.countP_cons,List.countP_cons]
  rcases List.mem_cons.1 hx with rfl|hx
  ·rw[hp,hq];simp;omega
  ·have:=Up hp hq hx fun k hk=>hle k (List.mem_cons_of_mem _ hk)
   have h1:=hle y List.mem_cons_self
   cases hpy:p y with
   | true=>rw[h1 hpy];simp;omega
   | false=>cases q y<;>simp<;>omega
def dX (n:Nat)(l:Array Bool):Nat:=(List.range n).countP fun k=>!(l.getD k true)
theorem nR {n j:Nat}{l:Array Bool}(hl:l.size=n)(hj:j<n)(hu:l.getD j true=false):dX n (l.setIfInBounds j true)<dX n l:=by
 unfold dX
 have hle:∀ k∈List.range n,(!((l.setIfInBounds j true).getD k true))=true→(!(l.getD k true))=true:=fun k hk h=>by
  by_cases hjk:j=k
  ·subst hjk
   rw[hu];rfl
  ·rwa [getD_set_ne true hjk] at h
 exact Up (x:=j) (by simp[hl,hj]) (by simp[hu]) (List.mem_range.2 hj) hle
theorem jJ {n:Nat}{l:Array Bool}(h:dX n l=0):∀ k,k<n→l.getD k true=true:=fun k hk=>by
 have:=List.countP_eq_zero.1 h k (List.mem_range.2 hk)
 simpa using this
theorem cY {M:List Nat}(hM:Tidy ops M){lr:Array Bool}(hs:lr.size=ops.size)(h:Region.ready .any ops lr=[]):∀ k,k<ops.size→lr.getD k true=true:=by
 intro k
 induction k using Nat.strongRecOn with
 | _ k ih =>
  intro hk
  cases hb:lr.getD k true with
  | true=>rfl
  | false =>
   exfalso
   have hko:ops[k]?=some ops[k]:=Array.getElem?_eq_getElem hk
   have:k∈Region.ready .any ops lr:=Mh hko hb fun e he=>by
    have hlt:=hM.back k _ hko e he
    rw[←Sj (by omega)]
    exact ih e hlt (by omega)
   rw[h] at this;cases this
theorem Ul {p:Nat→Prop}(h:∃ k,p k):∃ k,p k∧∀ j,p j→k≤j:=by
 obtain⟨k,hk⟩:=h
 induction k using Nat.strongRecOn with
 | _ k ih =>
  by_cases hm:∃ j,j<k∧p j
  ·obtain⟨j,hj,hp⟩:=hm
   exact ih j hj hp
  ·exact⟨k,hk,fun j hj=>Nat.le_of_not_lt fun hlt=>hm ⟨j,hlt,hj⟩⟩
theorem Gt.sound {M:List Nat}(hM:Tidy ops M)(hT:TOk P T){dl:Nat→Option (List Value)}{lt:Nat→Bool}(hD:cC T ops dl)(hS:gK ops M dl lt){rd:Option Nat}{K:Fm→St→Prop}{φ0:Fi}{st0:St}{w0:World}{Q:Exit→Act→World→Prop}{n:Nat}
  (hrd:∀ id,rd=some id→id<φ0.n)(hQ:∀ a' w',Eg φ0 st0 w0 (fun _ f' st'=>K f' st') .normal a' w'→Q .normal a' w') :
  ∀ (m fr:Nat)(G:List Gh)(Af:List (Nat × AV))(listed lr:Array Bool)(f:Fm)(st:St)(φ:Fi)(w:World)(a:Act),m=2*fr+G.length→dX ops.size lr≤fr→Gt P T ops M rd dl lt K (fr+G.length) Af listed f st→A0 ops dl φ st w0 w listed lr G →
   Ext φ0 φ→Rel φ st w→Cz φ f a→Fr φ0 st0 w0 φ st w→wpAnyIn (FW (rdB φ0 rd)) n P .any ops Q fr lr (Dk a G) w:=by
 intro m
 induction m using Nat.strongRecOn with
 | _ m ih =>
 intro fr G Af listed lr f st φ w a hm hcnt H hG hext hrel hact hfr
 have gdl:∀ g∈G,(dl g.i).isSome=true:=fun g hg=>by rw[(hG.each g hg).cells];rfl
 have glt:∀ g∈G,g.i<ops.size:=fun g hg=>by obtain⟨o,ho,_⟩:=(hG.each g hg).op;exact(Array.getElem?_eq_some_iff.1 ho).1
 have gready:∀ g∈G,g.i∈Region.ready .any ops listed:=fun g hg=>by
  obtain⟨o,e,ti,ho,_,_,hed,_⟩:=hD g.i _ (hG.each g hg).cells
  exact Mh ho (hG.each g hg).un fun e he=>by rw[hed] at he;cases he
 by_cases hmat:cB ops dl lt listed∧∃ g∈G,∀ k,(dl k).isSome=true→listed.getD k true=false→g.i≤k
 ·
  obtain⟨hC,g,hgG,hgmin⟩:=hmat
  obtain⟨G1,G2,hGe⟩:=List.append_of_mem hgG
  have hg1:=hG.each g hgG
  have hlen:G.length=(G1++G2).length+1:=by rw[hGe];simp;omega
  have H':Gt P T ops M rd dl lt K ((fr+(G1++G2).length)+1) Af listed f st:=by
   have:fr+G.length=(fr+(G1++G2).length)+1:=by omega
   rw[←this];exact H
  obtain⟨i,cs,q1,q2,q3,hown,o,ho,H2⟩:=H'.2.2.2 hC ⟨g.i,gdl g hgG,hg1.un⟩
  have hgi:g.i=i:=Nat.le_antisymm (hgmin i (by rw[q1];rfl) q2) (q3 g.i (gdl g hgG) hg1.un)
  have hcs:cs=g.c.toList:=by
   have:=hg1.cells
   rw[hgi,q1] at this
   exact Option.some.inj this
  subst hcs
  obtain⟨o',ho',hod⟩:=hg1.op
  rw[hgi,ho] at ho'
  cases ho'
  rw[hod] at H2
  have hsub:∀ x∈G1++G2,x∈G:=fun x hx=>by
   rw[hGe]
   rcases List.mem_append.1 hx with h|h
   ·exact List.mem_append_left _ h
   ·exact List.mem_append_right _ (List.mem_cons_of_mem _ h)
  have hids:=hG.ids
  have hbls:=hG.blocks
  rw[hGe,List.map_append,List.map_cons] at hids hbls
  have hidne:∀ x∈G1++G2,x.i≠g.i:=fun x hx e=>by
   rw[List.nodup_append] at hids
   obtain⟨h1,h2,h3⟩:=hids
   rcases List.mem_append.1 hx with h|h
   ·exact h3 x.i (List.mem_map_of_mem h) g.i List.mem_cons_self e
   ·exact(List.nodup_cons.1 h2).1 (by rw[←e];exact List.mem_map_of_mem h)
  have hbne:∀ x∈G1++G2,x.b≠g.b:=fun x hx e=>by
   rw[List.nodup_append] at hbls
   obtain⟨h1,h2,h3⟩:=hbls
   rcases List.mem_append.1 hx with h|h
   ·exact h3 x.b (List.mem_map_of_mem h) g.b List.mem_cons_self e
   ·exact(List.nodup_cons.1 h2).1 (by rw[←e];exact List.mem_map_of_mem h)
  have hputs:Dk a G=Dk (a.put g.d g.v) (G1++G2):=by
   rw[hGe]
   refine iF a fun x hx d hd=>?_
   have hxG:=hsub x (List.mem_append_right _ hx)
   obtain⟨ox,hox,hxd⟩:=(hG.each x hxG).op
   have hne:x.i≠g.i:=hidne x (List.mem_append_right _ hx)
   have:=(hM.see x.i g.i ox o hox (by rw[hgi];exact ho) hne d (by rw[hxd];exact hd)).2
   rwa [hod] at this
  rw[hputs]
  have hn':φ.n=st.n:=hrel.n
  have hrel':=hrel.ghost hg1.heap hown hg1.apart
  have hex:=φ.Aw ⟨g.b,0,g.c.size⟩
  have hold:∀ id x,st.h.get id=some x→(φ.push ⟨g.b,0,g.c.size⟩).f id=φ.f id:=fun id x hx=>hex.f id (by rw[hn'];exact hrel.lt id x hx)
  have hv:VR (φ.push ⟨g.b,0,g.c.size⟩) (.ptr st.n 0) g.v:=by
   have:=VR.ptr (φ:=φ.push ⟨g.b,0,g.c.size⟩) φ.n 0 (by simp[Fi.push])
   rw[Fi.Ai] at this
   rw[←hn'];exact this
  refine ih (2*fr+(G1++G2).length) (by omega) fr (G1++G2) _ _ lr _ _ (φ.push ⟨g.b,0,g.c.size⟩) w (a.put g.d g.v) rfl hcnt H2 ⟨fun x hx=>?_,?_,?_,by simp[hG.sl],hG.sr,fun k hk=>?_,hG.cl,hG.cl2.set (by rw[←hgi];exact gready g hgG)⟩ (hext.trans hex) hrel' ((hact.mono hex).put g.d hv)
   ⟨hfr.os,hfr.tape,hfr.output,hfr.size,hfr.block,fun k ⟨id,x,hx,hxo,hb⟩=>?_⟩
  ·have h1:=hG.each x (hsub x hx)
   refine⟨h1.op,h1.cells,?_,h1.heap,h1.late,fun id y hy hyo=>?_⟩
   ·rw[getD_set_ne true (by rw[←hgi];exact Ne.symm (hidne x hx))];exact h1.un
   ·rw[St.Bf] at hy
    split at hy
    ·rename_i he
     rw[←hn'] at he;subst he
     rw[Fi.Ai];exact(Ne.symm (hbne x hx))
    ·rw[hold id y hy];exact h1.apart id y hy hyo
  ·rw[List.map_append]
   rw[List.nodup_append] at hids ⊢
   obtain⟨h1,h2,h3⟩:=hids
   exact⟨h1,(List.nodup_cons.1 h2).2,fun p hp q hq=>h3 p hp q (List.mem_cons_of_mem _ hq)⟩
  ·rw[List.map_append]
   rw[List.nodup_append] at hbls ⊢
   obtain⟨h1,h2,h3⟩:=hbls
   exact⟨h1,(List.nodup_cons.1 h2).2,fun p hp q hq=>h3 p hp q (List.mem_cons_of_mem _ hq)⟩
  ·rw[hG.bits k hk]
   by_cases hik:i=k
   ·subst hik
    have:(listed.setIfInBounds i true).getD i true=true:=by simp[hG.sl,hk]
    exact⟨fun _=>.inl this,fun _=>.inr ⟨g,hgG,hgi⟩⟩
   ·rw[getD_set_ne true hik]
    refine or_congr Iff.rfl ⟨fun⟨x,hx,hxk⟩=>⟨x,?_,hxk⟩,fun⟨x,hx,hxk⟩=>⟨x,hsub x hx,hxk⟩⟩
    rw[hGe] at hx
    rcases List.mem_append.1 hx with h|h
    ·exact List.mem_append_left _ h
    ·rcases List.mem_cons.1 h with rfl|h
     ·exact absurd (hgi.symm.trans hxk) hik
     ·exact List.mem_append_right _ h
  ·rw[St.Bf] at hx
   split at hx
   ·rename_i he
    rw[←hn'] at he;subst he
    rw[Fi.Ai] at hb
    right;rw[←hb];exact hg1.late
   ·rw[hold id x hx] at hb
    exact hfr.own k ⟨id,x,hx,hxo,hb⟩
 have hend:(∀ k,k<ops.size→lr.getD k true=true)→G=[]∧Region.ready .any ops listed=[]:=fun hal=>by
  have hun:∀ j∈Region.ready .any ops listed,∃ g∈G,g.i=j:=fun j hj=>by
   obtain⟨o,ho,hu,_⟩:=Cb hj
   rcases (hG.bits j (Array.getElem?_eq_some_iff.1 ho).1).1 (hal j (Array.getElem?_eq_some_iff.1 ho).1) with h|h
   ·rw[h] at hu;cases hu
   ·exact h
  have hnone:¬ ∃ k,(dl k).isSome=true∧listed.getD k true=false:=fun hex=>by
   obtain⟨k,⟨hk1,hk2⟩,hkm⟩:=Ul hex
   refine hmat ⟨fun u ou hou huu=>?_,?_⟩
   ·rcases (hG.bits u (Array.getElem?_eq_some_iff.1 hou).1).1 (hal u (Array.getElem?_eq_some_iff.1 hou).1) with h|⟨g,hg,h⟩
    ·rw[h] at huu;cases huu
    ·left;rw[←h];exact gdl g hg
   ·obtain⟨cs,hcs⟩:=Option.isSome_iff_exists.1 hk1
    obtain⟨o,_,_,ho,_⟩:=hD k cs hcs
    have hks:=(Array.getElem?_eq_some_iff.1 ho).1
    rcases (hG.bits k hks).1 (hal k hks) with h|⟨g,hg,h⟩
    ·rw[h] at hk2;cases hk2
    ·exact⟨g,hg,fun j hj1 hj2=>by rw[h];exact hkm j ⟨hj1,hj2⟩⟩
  have hGn:G=[]:=by
   cases hGe:G with
   | nil=>rfl
   | cons g G' =>
    exact absurd ⟨g.i,gdl g (by rw[hGe];exact List.mem_cons_self),(hG.each g (by rw[hGe];exact List.mem_cons_self)).un⟩ hnone
  refine⟨hGn,?_⟩
  cases hr:Region.ready .any ops listed with
  | nil=>rfl
  | cons i is =>
   obtain⟨g,hg,_⟩:=hun i (by rw[hr];exact List.mem_cons_self)
   rw[hGn] at hg;cases hg
 have hfin:(∀ k,k<ops.size→lr.getD k true=true)→Q .normal (Dk a G) w:=fun hal=>by
  obtain⟨hGe,hr⟩:=hend hal
  subst hGe
  have hk:K f st:=by
   cases fr with
   | zero=>exact H.2.2
   | succ fr=>exact H.2.1 hr
  exact hQ _ _ ⟨f,st,φ,hk,hext,hrel,hact,hfr⟩
 cases fr with
 | zero =>
  have hal:=jJ (Nat.le_zero.1 hcnt)
  refine⟨?_,hfin hal⟩
  cases hr:Region.ready .any ops lr with
  | nil=>rfl
  | cons j js =>
   obtain⟨o,ho,hu,_⟩:=Cb (ops:=ops) (listed:=lr) (j:=j) (by rw[hr];exact List.mem_cons_self)
   rw[hal j (Array.getElem?_eq_some_iff.1 ho).1] at hu;cases hu
 | succ fr =>
  refine⟨fun hr=>hfin (cY hM hG.sr hr),fun j hj=>?_⟩
  obtain⟨oj,hoj,hju,hje⟩:=Cb hj
  have hjs:j<ops.size:=(Array.getElem?_eq_some_iff.1 hoj).1
  have hjl:listed.getD j true=false:=by
   cases hb:listed.getD j true with
   | false=>rfl
   | true=>rw[(hG.bits j hjs).2 (.inl hb)] at hju;cases hju
  have hjg:∀ g∈G,g.i≠j:=fun g hg e=>by rw[(hG.bits j hjs).2 (.inr ⟨g,hg,e⟩)] at hju;cases hju
  have hcnt':dX ops.size (lr.setIfInBounds j true)≤fr:=by have:=nR hG.sr hjs hju;omega
  have hp:=hM.plain j oj hoj
  have hbits:∀ k,k<ops.size→((lr.setIfInBounds j true).getD k true=true↔k=j∨lr.getD k true=true):=fun k hk=>by
   by_cases hjk:j=k
   ·subst hjk
    exact⟨fun _=>.inl rfl,fun _=>by simp[hG.sr,hk]⟩
   ·rw[getD_set_ne true hjk]
    exact⟨.inr,fun h=>h.elim (fun h=>absurd h.symm hjk) fun h=>h⟩
  cases hdj:dl j with
  | some cs =>
   obtain⟨oj',e,ti,hoj',hop,hgu,hed,hti,hcs⟩:=hD j cs hdj
   rw[hoj] at hoj';cases hoj'
   have hev:evF T φ.n (Operand.av f.ts) oj=some (.ptr φ.n 0,ti.zero.map .lit):=by simp only [evF,hop,hti]
   obtain⟨c,t,h4,h5⟩:=Xw (P:=P) hT (Bm hact.ts) hev
   obtain⟨u,h6,h7⟩:=h5 w
   have hce:c.toList=ti.zero:=Zy h4
   have hu:u=.pointer (some ⟨w.heap.size,0,none⟩):=by
    have:=(h7.Dn).1
    rwa [Fi.Ai] at this
   obtain⟨x1,x2,x3⟩:=Oi (P:=P) (ops:=ops) oj hp (G:=G) a fun g hg d hd hm=>by
    obtain⟨og,hog,hgd⟩:=(hG.each g hg).op
    rcases (hM.see g.i j og oj hog hoj (hjg g hg) d (by rw[hgd];exact hd)).1 hm with h|h
    ·obtain⟨e',he',_⟩:=hM.anc j oj g.i hoj (glt g hg) h
     rw[hed] at he';cases he'
    ·obtain⟨og2,_,_,hog2,_,_,hed2,_⟩:=hD g.i _ (hG.each g hg).cells
     rw[hog] at hog2;cases hog2
     obtain⟨e',he',_⟩:=hM.anc g.i og j hog hjs h
     rw[hed2] at he';cases he'
   unfold wpOpIn
   simp only [hoj]
   rw[if_pos (by unfold Region.wanted;rw[hgu])]
   unfold Oper.wpIn
   rw[semAt_eq hp.2,←x2,h6]
   refine⟨fun _ _=>trivial,?_⟩
   have hrel':=hrel.alloc (.cells c t)
   have hn1:=ih (2*fr+(G.length+1)) (by omega) fr (⟨j,w.heap.size,c,t,oj.dst⟩::G) Af listed (lr.setIfInBounds j true) f st φ (w.alloc (.cells c t)) a rfl hcnt'
    (by
      have e1:fr+(⟨j,w.heap.size,c,t,oj.dst⟩::G:List Gh).length=fr+1+G.length:=by simp;omega
      rw[e1];exact H)
    ⟨fun g hg=>?_,?_,?_,hG.sl,by simp[hG.sr],fun k hk=>?_,hG.cl.set hj,hG.cl2⟩ hext hrel' hact
    ⟨hfr.os,hfr.tape,hfr.output,by rw[Dv];have:=hfr.size;omega,fun k hk ho=>(Dg w _ k (by have:=hfr.size;omega)).trans (hfr.block k hk ho),hfr.own⟩
   ·have e2:Dk a (⟨j,w.heap.size,c,t,oj.dst⟩::G)=(Dk a G).put oj.dst u:=by rw[hu];rfl
    rw[e2] at hn1
    exact hn1
   ·rcases List.mem_cons.1 hg with rfl|hg
    ·exact⟨⟨oj,hoj,rfl⟩,by rw[hdj,hcs,hce],hjl,Bi w _,hfr.size,fun id x hx _=>Nat.ne_of_lt (hrel.blk id x hx)⟩
    ·have h1:=hG.each g hg
     exact⟨h1.op,h1.cells,h1.un,by rw[Dg w _ _ (Array.getElem?_eq_some_iff.1 h1.heap).1];exact h1.heap,h1.late,h1.apart⟩
   ·rw[List.map_cons,List.nodup_cons]
    refine⟨fun hm=>?_,hG.ids⟩
    obtain⟨g,hg,he⟩:=List.mem_map.1 hm
    exact hjg g hg he
   ·rw[List.map_cons,List.nodup_cons]
    refine⟨fun hm=>?_,hG.blocks⟩
    obtain⟨g,hg,he⟩:=List.mem_map.1 hm
    have:=(Array.getElem?_eq_some_iff.1 (hG.each g hg).heap).1
    simp only at he
    omega
   ·rw[hbits k hk,hG.bits k hk]
    constructor
    ·rintro(rfl|h|⟨g,hg,h⟩)
     ·exact .inr ⟨_,List.mem_cons_self,rfl⟩
     ·exact .inl h
     ·exact .inr ⟨g,List.mem_cons_of_mem _ hg,h⟩
    ·rintro(h|⟨g,hg,h⟩)
     ·exact .inr (.inl h)
     ·rcases List.mem_cons.1 hg with rfl|hg
      ·exact .inl h.symm
      ·exact .inr (.inr ⟨g,hg,h⟩)
  | none =>
   have hjr:j∈Region.ready .any ops listed:=Mh hoj hjl fun e he=>by
    cases hb:listed.getD e false with
    | true=>rfl
    | false =>
     exfalso
     have hej:=hM.back j oj hoj e he
     have hes:e<ops.size:=by omega
     have hbt:listed.getD e true=false:=by rw[Sj (by rw[hG.sl];exact hes)];exact hb
     have hlre:lr.getD e true=true:=by rw[Sj (by rw[hG.sr];exact hes)];exact hje e he
     obtain⟨g,hg,hge⟩:∃ g∈G,g.i=e:=by
      rcases (hG.bits e hes).1 hlre with h|h
      ·rw[h] at hbt;cases hbt
      ·exact h
     have hde:(dl e).isSome=true:=by rw[←hge];exact gdl g hg
     have ghost:∀ u,u<ops.size→listed.getD u true=false→lr.getD u false=true→∃ x∈G,x.i=u:=fun u hus huu h1=>by
      rcases (hG.bits u hus).1 (by rw[Sj (by rw[hG.sr];exact hus)];exact h1) with h2|h2
      ·rw[h2] at huu;cases huu
      ·exact h2
     refine hmat ⟨fun u ou hou huu=>?_,?_⟩
     ·have hus:=(Array.getElem?_eq_some_iff.1 hou).1
      rcases hS.2 e j u oj ou hde hoj hou he with rfl|h|h|h|h
      ·rw[hoj] at hou;cases hou
       exact .inr (.inr ⟨e,hde,hbt,he⟩)
      ·obtain⟨x,hx,hxu⟩:=ghost u hus huu (Ck.anc hM hG.cl hus j oj hoj hje h)
       left;rw[←hxu];exact gdl x hx
      ·exact .inr (.inr ⟨e,hde,hbt,h⟩)
      ·exact .inl h.1
      ·exact .inr (.inl h)
     ·obtain⟨k,⟨hk1,hk2⟩,hkm⟩:=Ul (p:=fun k=>(dl k).isSome=true∧listed.getD k true=false) ⟨e,hde,hbt⟩
      have hke:k≤e:=hkm e ⟨hde,hbt⟩
      obtain⟨cs,hcs⟩:=Option.isSome_iff_exists.1 hk1
      obtain⟨ok,_,_,hok,_,_,hed,_⟩:=hD k cs hcs
      have hks:=(Array.getElem?_eq_some_iff.1 hok).1
      have hkg:∃ x∈G,x.i=k:=by
       rcases hS.2 e j k oj ok hde hoj hok he with rfl|h|h|h|h
       ·rw[hdj] at hcs;cases hcs
       ·exact ghost k hks hk2 (Ck.anc hM hG.cl hks j oj hoj hje h)
       ·rw[hed] at h;cases h
       ·have:k=e:=by omega
        subst this;exact⟨g,hg,hge⟩
       ·rw[hS.1 k hk1] at h;cases h
      obtain⟨x,hx,hxk⟩:=hkg
      exact⟨x,hx,fun j' h1 h2=>by rw[hxk];exact hkm j' ⟨h1,h2⟩⟩
   have H':Gt P T ops M rd dl lt K ((fr+G.length)+1) Af listed f st:=by
    have:fr+1+G.length=(fr+G.length)+1:=by omega
    rw[←this];exact H
   obtain⟨o,ho,h4⟩:=H'.2.2.1 j hjr hdj
   rw[hoj] at ho;cases ho
   have hsee1:∀ g∈G,∀ d,g.d=some d→d∉oj.looksAt ops:=fun g hg d hd hm=>by
    obtain⟨og,hog,hgd⟩:=(hG.each g hg).op
    rcases (hM.see g.i j og oj hog hoj (hjg g hg) d (by rw[hgd];exact hd)).1 hm with h|h
    ·obtain⟨oj2,hoj2,_,hle⟩:=Cb hjr
     rw[hoj] at hoj2;cases hoj2
     have h1:=Ck.anc hM hG.cl2 (glt g hg) j oj hoj hle h
     have h2:=Fa (hG.each g hg).un
     rw[h1] at h2;cases h2
    ·obtain⟨og2,_,_,hog2,_,_,hed2,_⟩:=hD g.i _ (hG.each g hg).cells
     rw[hog] at hog2;cases hog2
     obtain⟨e',he',_⟩:=hM.anc g.i og j hog hjs h
     rw[hed2] at he';cases he'
   have hsee2:∀ g∈G,∀ d,g.d=some d→oj.dst≠some d:=fun g hg d hd=>by
    obtain⟨og,hog,hgd⟩:=(hG.each g hg).op
    exact(hM.see g.i j og oj hog hoj (hjg g hg) d (by rw[hgd];exact hd)).2
   obtain⟨x1,x2,x3⟩:=Oi (P:=P) (ops:=ops) oj hp (G:=G) a hsee1
   have hrd':∀ id,rd=some id→id<φ.n:=fun id hi=>Nat.lt_of_lt_of_le (hrd id hi) hext.n
   have h5:=h4 φ w a n (fun e a' w'=>e=.normal∧wpAnyIn (FW (rdB φ0 rd)) n P .any ops Q fr (lr.setIfInBounds j true) (Dk a' G) w') hrd' hrel hact (fun a' w' hl=>⟨rfl,by
    obtain⟨f',st',φ',⟨v,hf,hk⟩,he,hrel',hact',hfr'⟩:=hl
    refine ih (2*fr+G.length) (by omega) fr G _ (listed.setIfInBounds j true) (lr.setIfInBounds j true) f' st' φ' w' a' rfl hcnt' hk ⟨fun g hg=>?_,hG.ids,hG.blocks,by simp[hG.sl],by simp[hG.sr],fun k hk=>?_,hG.cl.set hj,hG.cl2.set hjr⟩ (hext.trans he) hrel' hact' (hfr.trans hfr')
    ·have h1:=hG.each g hg
     have hno:¬ Fo φ st g.b:=fun⟨id,x,hx,hxo,hb⟩=>h1.apart id x hx hxo hb
     have hbs:=(Array.getElem?_eq_some_iff.1 h1.heap).1
     refine⟨h1.op,h1.cells,by rw[getD_set_ne true (Ne.symm (hjg g hg))];exact h1.un,by rw[hfr'.block g.b hbs hno];exact h1.heap,h1.late,fun id x hx hxo hb=>?_⟩
     rcases hfr'.own g.b ⟨id,x,hx,hxo,hb⟩ with h2|h2
     ·exact hno h2
     ·omega
    ·rw[hbits k hk,hG.bits k hk]
     by_cases hjk:j=k
     ·subst hjk
      have:(listed.setIfInBounds j true).getD j true=true:=by simp[hG.sl,hk]
      exact⟨fun _=>.inl this,fun _=>.inl rfl⟩
     ·rw[getD_set_ne true hjk]
      exact⟨fun h=>h.elim (fun h=>absurd h.symm hjk) fun h=>h,.inr⟩⟩)
   rw[wpOpsIn_cons,Dd hext hrd] at h5
   refine Es hoj hp.2 x1 x2 x3 (fun cv w' hk=>?_) (fun d w' hk=>?_) (fun e a w hne hk=>absurd hk.1 hne) (fun hl=>by obtain⟨a,w,hn,_⟩:=hl;cases hn) h5
   ·rw[Le a hsee2];exact hk.2
   ·rw[←Pj,Le _ hsee2];exact hk.2
end
end Go.Ev
namespace Go.Ev
def bindL {α β:Type}:List α→(α→Option (List β))→Option (List β)
 | [],_=>some []
 | a::r,g=>match g a with
  | none=>none
  | some x=>match bindL r g with
   | none=>none
   | some y=>some (x++y)
theorem Fl {α β:Type}{g:α→Option (List β)}:∀ {l:List α}{res:List β},bindL l g=some res→∀ a∈l,∃ x,g a=some x∧∀ b∈x,b∈res
 | [],_,_,a,ha=>by cases ha
 | a0::r,res,h,a,ha=>by
  simp only [bindL] at h
  split at h
  ·cases h
  ·rename_i x hx
   split at h
   ·cases h
   ·rename_i y hy
    cases h
    rcases List.mem_cons.1 ha with rfl|ha
    ·exact⟨x,hx,fun b hb=>List.mem_append_left _ hb⟩
    ·obtain⟨x',h1,h2⟩:=Fl hy a ha
     exact⟨x',h1,fun b hb=>List.mem_append_right _ (h2 b hb)⟩
def litEq:Value→Value→Bool
 | .bool a,.bool b=>a == b
 | .int k a,.int j b=>k == j&&a == b
 | .pointer none,.pointer none=>true
 | .slice none a b,.slice none c d=>a == c&&b == d
 | .map none,.map none=>true
 | .nilFunc,.nilFunc=>true
 | .pointer (some a),.pointer (some b)=>a == b
 | .tuple a,.tuple b=>Nat.beq a.size 0&&Nat.beq b.size 0
 | _,_=>false
theorem aA {a b:Value}(h:litEq a b=true):a=b:=by
 unfold litEq at h
 split at h
 case h_8 a b =>
  simp only [Bool.and_eq_true] at h
  rw[Array.eq_empty_of_size_eq_zero (Nat.eq_of_beq_eq_true h.1),Array.eq_empty_of_size_eq_zero (Nat.eq_of_beq_eq_true h.2)]
 all_goals simp_all
mutual
def avEq:AV→AV→Bool
 | .lit a,.lit b=>litEq a b
 | .ptr a b,.ptr c d=>a == c&&b == d
 | .sl a b c d e,.sl a' b' c' d' e'=>a == a' && b == b' && c == c' && d == d' && e == e'
 | .mp a,.mp b=>a == b
 | .yld a,.yld b=>a == b
 | .fn f a b,.fn g c d=>f == g&&avsEq a c&&avsEq b d
 | .agg a,.agg b=>avsEq a b
 | .tup a,.tup b=>avsEq a b
 | _,_=>false
def avsEq:List AV→List AV→Bool
 | [],[]=>true
 | a::r,b::s=>avEq a b&&avsEq r s
 | _,_=>false
end
mutual
theorem Lr:∀ {a b:AV},avEq a b=true→a=b:=by
 intro a b h
 unfold avEq at h
 split at h
 ·rw[aA h]
 ·simp_all
 ·simp_all
 ·simp_all
 ·simp_all
 ·simp only [Bool.and_eq_true,beq_iff_eq] at h
  rw[h.1.1,Jc h.1.2,Jc h.2]
 ·rw[Jc h]
 ·rw[Jc h]
 ·cases h
theorem Jc:∀ {a b:List AV},avsEq a b=true→a=b:=by
 intro a b h
 unfold avsEq at h
 split at h
 ·rfl
 ·simp only [Bool.and_eq_true] at h
  rw[Lr h.1,Jc h.2]
 ·cases h
end
def esEq:List (AV × AV × Nat)→List (AV × AV × Nat)→Bool
 | [],[]=>true
 | x::r,y::s=>avEq x.1 y.1&&avEq x.2.1 y.2.1&&Nat.beq x.2.2 y.2.2&&esEq r s
 | _,_=>false
theorem Xy:∀ {a b:List (AV × AV × Nat)},esEq a b=true→a=b
 | [],[],_=>rfl
 | (k,v,n)::r,(k',v',n')::s,h=>by
  simp only [esEq,Bool.and_eq_true] at h
  rw[Lr h.1.1.1,Lr h.1.1.2,Nat.eq_of_beq_eq_true h.1.2,Xy h.2]
 | [],_::_,h=>by cases h
 | _::_,[],h=>by cases h
def objEq:AObj→AObj→Bool
 | .cells a b c,.cells d e f=>a == d&&b == e&&avsEq c f
 | .dfr,.dfr=>true
 | .map a c,.map b d=>esEq a b&&Nat.beq c d
 | .iter a b c d,.iter a' b' c' d'=>Nat.beq a a' && Nat.beq b b' && c == c' && Nat.beq d d'
 | _,_=>false
theorem lD {a b:AObj}(h:objEq a b=true):a=b:=by
 unfold objEq at h
 split at h
 ·simp only [Bool.and_eq_true,beq_iff_eq] at h
  rw[h.1.1,h.1.2,Jc h.2]
 ·rfl
 ·simp only [Bool.and_eq_true] at h
  rw[Xy h.1,Nat.eq_of_beq_eq_true h.2]
 ·simp only [Bool.and_eq_true,beq_iff_eq] at h
  rw[Nat.eq_of_beq_eq_true h.1.1.1,Nat.eq_of_beq_eq_true h.1.1.2,h.1.2,Nat.eq_of_beq_eq_true h.2]
 ·cases h
def hpEq:Hp→Hp→Bool
 | [],[]=>true
 | (i,o)::r,(j,p)::s=>i == j&&objEq o p&&hpEq r s
 | _,_=>false
theorem fU:∀ {a b:Hp},hpEq a b=true→a=b
 | [],[],_=>rfl
 | (i,o)::r,(j,p)::s,h=>by
  simp only [hpEq,Bool.and_eq_true,beq_iff_eq] at h
  rw[h.1.1,lD h.1.2,fU h.2]
 | [],_::_,h=>by cases h
 | _::_,[],h=>by cases h
def oU (a b:St):Bool:=a.n == b.n&&hpEq a.h b.h
theorem eN {a b:St}(h:oU a b=true):a=b:=by
 simp only [oU,Bool.and_eq_true,beq_iff_eq] at h
 cases a;cases b;simp only at h;rw[h.1,fU h.2]
def dedup:List (AV × St)→List (AV × St)
 | []=>[]
 | [x]=>[x]
 | x::r=>let r':=dedup r;if r'.any fun y=>avEq x.1 y.1&&oU x.2 y.2 then r' else x::r'
theorem Qn:∀ {l:List (AV × St)}{x:AV × St},x∈l→x∈dedup l
 | [y],x,h=>h
 | y::z::r,x,h=>by
  simp only [dedup]
  split
  ·rename_i hany
   rcases List.mem_cons.1 h with rfl|h
   ·rw[List.any_eq_true] at hany
    obtain⟨y,hy,he⟩:=hany
    simp only [Bool.and_eq_true] at he
    have h1:=Lr he.1
    have h2:=eN he.2
    have:x=y:=by cases x;cases y;simp only at h1 h2;rw[h1,h2]
    rw[this];exact hy
   ·exact Qn h
  ·rcases List.mem_cons.1 h with rfl|h
   ·exact List.mem_cons_self
   ·exact List.mem_cons_of_mem _ (Qn h)
 | [],_,h=>by cases h
end Go.Ev
namespace Go.Ev
def St.Gd (st:St)(p:Nat→Bool):St:=⟨st.h.filter fun x=>p x.1,st.n⟩
theorem Hp.get_filter {p:Nat→Bool}:∀ {h:Hp}{id:Nat}{o:AObj},Hp.get (h.filter fun x=>p x.1) id=some o→h.get id=some o
 | [],_,_,h=>h
 | (i,x)::r,id,o,h=>by
  rw[List.filter_cons] at h
  by_cases hi:i=id
  ·subst hi
   simp only [Hp.get,if_true]
   split at h
   ·simpa only [Hp.get,if_true] using h
   ·rename_i hp
    exfalso
    have:∀ {r:Hp},Hp.get (r.filter fun x=>p x.1) i=none:=fun {r}=>by
     induction r with
     | nil=>rfl
     | cons y r ih =>
      rw[List.filter_cons]
      split
      ·rename_i hy
       have:¬ y.1=i:=fun e=>hp (by rw[←e];exact hy)
       simp only [Hp.get,this,if_false,ih]
      ·exact ih
    rw[this] at h;cases h
  ·simp only [Hp.get,hi,if_false]
   refine Hp.get_filter (p:=p) ?_
   split at h
   ·simpa only [Hp.get,hi,if_false] using h
   ·exact h
theorem Rel.Gd {φ:Fi}{st:St}{w:World}(hr:Rel φ st w)(p:Nat→Bool):Rel φ (st.Gd p) w :=
 ⟨hr.n,fun id o h=>hr.lt id o (Hp.get_filter h),fun id o h=>hr.blk id o (Hp.get_filter h),fun id o h=>hr.obj id o (Hp.get_filter h),
  fun i j oi oj hi hj=>hr.sep i j oi oj (Hp.get_filter hi) (Hp.get_filter hj)⟩
theorem Fr.Gd {φ φ':Fi}{st st':St}{w w':World}(h:Fr φ st w φ' st' w')(p:Nat→Bool):Fr φ st w φ' (st'.Gd p) w' :=
 ⟨h.os,h.tape,h.output,h.size,h.block,fun k ⟨id,o,h1,h2⟩=>h.own k ⟨id,o,Hp.get_filter h1,h2⟩⟩
mutual
def vZ (n:Nat):AV→Bool
 | .lit _=>true
 | .ptr i _ | .sl i _ _ _ _ | .mp i | .yld i=>Nat.blt i n
 | .fn _ a b=>bZ n a&&bZ n b
 | .agg a | .tup a=>bZ n a
def bZ (n:Nat):List AV→Bool
 | []=>true
 | a::r=>vZ n a&&bZ n r
end
def rP (n:Nat):AObj→Bool
 | .cells _ _ cs=>bZ n cs
 | .map es _=>es.all fun x=>vZ n x.1&&vZ n x.2.1
 | .iter mid _ _ _=>Nat.blt mid n
 | _=>true
section
variable (P:Program)(T:Ti)(G:FuncId→Option Func)(C:FuncId→List AV→St→Option (List (AV × St)))(X:St→(Operand→AV)→Oper→Option (List (AV × St)))
abbrev Dw:=AV→List AV→St→Option (List (AV × St))
def Lt (call:Dw):Prop:=∀ c args st outs,call c args st=some outs→ApplyW P c args st (fun v st'=>(v,st')∈outs)
def XOk:Prop:=∀ (rd:Option Nat)(ops:Array Oper)(i:Nat)(f:Fm)(st:St)(o:Oper)(outs:List (AV × St)),ops[i]?=some o→Region.wanted o (yA ops f.ts)=true→X st (Operand.av f.ts) o=some outs →
 Ac P rd ops [i] (fun f' st'=>∃ v,f'=f.put o.dst v∧(v,st')∈outs) f st
def heavy (call:Dw)(st:St)(ρ:Operand→AV)(o:Oper):Option (List (AV × St)) :=
 match o.op with
 | .alloc _ | .box _ _ | .buildSlice _ _ _ | .makeSlice _ _ _=>(evF T st.n ρ o).map fun x=>[(x.1,st.push (.cells none false x.2))]
 | .store _ _ _=>match storeO T st ρ o with
  | some s=>some [(Bx,s)]
  | none=>X st ρ o
 | .call c=>match c.callee with
  | .builtin .append=>(appendO T st ρ o).map fun x=>[x]
  | .value f=>call (ρ f) (c.args.toList.map ρ) st
  | _=>X st ρ o
 | _=>X st ρ o
variable {P T G C X}
theorem aX (hT:TOk P T)(hX:XOk P X){call:Dw}(hc:Lt P call){rd:Option Nat}{ops:Array Oper}{i:Nat}{f:Fm}{st:St}{o:Oper}{outs:List (AV × St)}(ho:ops[i]?=some o)(hw:Region.wanted o (yA ops f.ts)=true)
  (h:heavy T X call st (Operand.av f.ts) o=some outs):Ac P rd ops [i] (fun f' st'=>∃ v,f'=f.put o.dst v∧(v,st')∈outs) f st:=by
 have hF:∀ {outs},(evF T st.n (Operand.av f.ts) o).map (fun x=>[(x.1,st.push (.cells none false x.2))])=some outs→Ac P rd ops [i] (fun f' st'=>∃ v,f'=f.put o.dst v∧(v,st')∈outs) f st:=fun {outs} h=>by
  cases he:evF T st.n (Operand.av f.ts) o with
  | none=>rw[he] at h;cases h
  | some x =>
   rw[he] at h
   simp only [Option.map_some,Option.some.injEq] at h
   subst h
   exact Ac.fresh hT (r:=x.1) (cs:=x.2) ho hw he (.nil ⟨x.1,rfl,by simp⟩)
 unfold heavy at h
 split at h
 ·exact hF h
 ·exact hF h
 ·exact hF h
 ·exact hF h
 ·cases he:storeO T st (Operand.av f.ts) o with
  | none=>rw[he] at h;exact hX rd ops i f st o outs ho hw h
  | some x =>
   rw[he] at h
   simp only [Option.some.injEq] at h
   subst h
   exact Ac.store hT ho hw he (.nil ⟨Bx,rfl,by simp⟩)
 ·rename_i c hx
  split at h
  ·cases he:appendO T st (Operand.av f.ts) o with
   | none=>rw[he] at h;cases h
   | some x =>
    rw[he] at h
    simp only [Option.map_some,Option.some.injEq] at h
    subst h
    exact Ac.append hT (r:=x.1) (st':=x.2) ho hw he (.nil ⟨x.1,rfl,by simp⟩)
  ·rename_i fo hcal
   refine Ac.call (c:=Operand.av f.ts fo) (args:=c.args.toList.map (Operand.av f.ts)) ho hw (by simp only [callO,hx,hcal]) ?_
   exact(hc _ _ _ _ h).mono fun v st' hm=>.nil ⟨v,rfl,hm⟩
  ·exact hX rd ops i f st o outs ho hw h
 ·exact hX rd ops i f st o outs ho hw h
theorem Ac.cons {rd:Option Nat}{ops:Array Oper}{i:Nat}{l:List Nat}{K:Fm→St→Prop}{f:Fm}{st:St}{o:Oper}(ho:ops[i]?=some o)(hnd:∀ c,o.op≠.defer c)(h:Ac P rd ops [i] (fun f' st'=>Ac P rd ops l K f' st') f st):Ac P rd ops (i::l) K f st:=by
 intro φ w a n Q h1 h2 h3 hQ
 have h4:=h φ w a n (fun e a' w'=>e=.normal∧wpOpsIn (FW (rdB φ rd)) n P ops Q l a' w') h1 h2 h3 (fun a' w' hl=>⟨rfl,by
  obtain⟨f',st',φ',hk,he,hrel,hact,hfr⟩:=hl
  have h6:=hk φ' w' a' n Q (fun id hi=>Nat.lt_of_lt_of_le (h1 id hi) he.n) hrel hact (fun a2 w2 hl2=>hQ a2 w2 (hl2.trans he hfr))
  rwa [Dd he h1] at h6⟩)
 rw[wpOpsIn_cons] at h4 ⊢
 exact Es ho hnd rfl rfl (fun _=>rfl) (fun cv w' hk=>hk.2) (fun d w' hk=>hk.2) (fun e a w hne hk=>absurd hk.1 hne) (fun hl=>by obtain⟨a,w,hn,_⟩:=hl;cases hn) h4
theorem Zk {o:Oper}(h:Lg o=true)(c:Call):o.op≠.defer c:=fun hc=>by simp[Lg,hc] at h
def noLook (ops:Array Oper)(Af:List (Nat × AV))(o:Oper):Bool:=match o.dst with
 | none=>true
 | some d=>Af.all fun p=>match ops[p.1]? with
  | some q=>!((q.looksAt ops).contains d)
  | none=>true
theorem iL {ops:Array Oper}{Af:List (Nat × AV)}{oi:Oper}(h:noLook ops Af oi=true):∀ p∈Af,∀ o,ops[p.1]?=some o→∀ d,oi.dst=some d→d∉o.looksAt ops:=fun p hp o ho d hd hm=>by
 unfold noLook at h
 rw[hd] at h
 have h1:=List.all_eq_true.1 h p hp
 simp only [ho,Bool.not_eq_true'] at h1
 rw[List.contains_iff_mem.2 hm] at h1
 cases h1
end
end Go.Ev
namespace Go.Ev
def tidyC:Code→Bool
 | .region _ ops true=>He ops (Dr ops)
 | .seq a b=>tidyC a&&tidyC b
 | .cond _ a b=>tidyC a&&tidyC b
 | .block _ c=>tidyC c
 | .loop c=>tidyC c
 | .scope c=>tidyC c
 | .rangeFunc _ _ a b=>tidyC a&&tidyC b
 | _=>true
def jumpE:Code→Option Exit
 | .ret=>some .ret
 | .exit e=>some (.exit e)
 | _=>none
section
variable (T:Ti)(X:St→(Operand→AV)→Oper→Option (List (AV × St)))(call:Dw)(L:Nat)
end
section
variable {P:Program}{T:Ti}{X:St→(Operand→AV)→Oper→Option (List (AV × St))}{call:Dw}{L:Nat}
end
def Ip:LoopState→Bool
 | .ready=>true
 | _=>false
section
variable (T:Ti)(X:St→(Operand→AV)→Oper→Option (List (AV × St)))(L:Nat)(G:FuncId→Option Func)(C:FuncId→List AV→St→Option (List (AV × St)))
end
section
variable {P:Program}{T:Ti}{X:St→(Operand→AV)→Oper→Option (List (AV × St))}{L:Nat}{G:FuncId→Option Func}{C:FuncId→List AV→St→Option (List (AV × St))}
variable (P G) in
def GOk:Prop:=∀ g fn,G g=some fn→P.funcs[g]?=some fn∧Enters P g∧∀ b,fn.body=some b→tidyC b=true
variable (P C) in
def COk:Prop:=∀ g args st outs,C g args st=some outs→Enters P g∧At P g args st (fun v st'=>(v,st')∈outs)
end
end Go.Ev
namespace Go.Ev
def tab (P:Program)(t:TypeId):Option TI :=
 match P.underlying t,P.info? t with
 | some d,some ti=>match ti.zero with
  | some z=>some { desc:=d,size:=ti.size,bytes:=ti.bytes,zero:=z.cells.toList,flat:=!(P.stoodInHeld t)&&!(P.eqGuardType P.depth t) }
  | none=>none
 | _,_=>none
theorem cN (P:Program):TOk P (tab P):=fun t i h=>by
 unfold tab at h
 split at h
 ·rename_i d ti hd hti
  split at h
  ·rename_i z hz
   cases h
   exact⟨hd,⟨ti,z,hti,rfl,rfl,hz,rfl⟩,fun hf=>by simpa using hf⟩
  ·cases h
 ·cases h
def To (l:List (Option TI)):Ti:=fun t=>(l[t]?).getD none
theorem Tn {P:Program}{l:List (Option TI)}{n:Nat}(h:l=(List.range n).map (tab P)):TOk P (To l):=fun t i hi=>by
 refine cN P t i ?_
 unfold To at hi
 subst h
 rw[List.getElem?_map] at hi
 cases hr:(List.range n)[t]? with
 | none=>rw[hr] at hi;cases hi
 | some x =>
  rw[hr] at hi
  have:x=t:=by
   obtain⟨hx,he⟩:=List.getElem?_eq_some_iff.1 hr
   simpa using he.symm
  subst this
  exact hi
def ofFns (l:List (FuncId × Func))(g:FuncId):Option Func :=
 match l with
 | []=>none
 | (i,f)::r=>if Nat.beq i g then some f else ofFns r g
def sZ (P:Program):List (FuncId × Func)→Prop
 | []=>True
 | (i,f)::r=>(P.funcs[i]?=some f∧Enters P i∧(match f.body with|some b=>tidyC b|none=>true)=true)∧sZ P r
theorem Zr {P:Program}:∀ {l:List (FuncId × Func)},sZ P l→GOk P (ofFns l)
 | [],_,g,fn,h=>by cases h
 | (i,f)::r,hb,g,fn,h=>by
  simp only [ofFns] at h
  split at h
  ·rename_i hi
   cases h
   have:i=g:=Nat.eq_of_beq_eq_true hi
   subst this
   refine⟨hb.1.1,hb.1.2.1,fun b hbb=>?_⟩
   have:=hb.1.2.2
   rw[hbb] at this
   exact this
  ·exact Zr hb.2 g fn h
end Go.Ev
