/- Own work of the verifier of watercress: FzI, FzK, FzW, FzL, FzM. -/
import Derived.OrdersIn
import Derived.Test.YtpefamheopplnaaMc21
set_option linter.unusedVariables false
set_option linter.unusedSimpArgs false
namespace Go.Fz
theorem Qy (T:Ti)(h:Hp){ρ ρ':Operand→AV}(o:Oper)(hx:∀ x∈o.op.operands,ρ x=ρ' x):evL T h ρ o=evL T h ρ' o:=by
 obtain⟨dst,op,type,pos,after,guard⟩:=o
 cases op<;>simp only [Op.operands] at hx<;>simp only [evL]
 case makeFunc fn a b =>
  rw[List.map_congr_left (l:=a.toList) fun x hm=>hx x (by simp[Array.mem_toList_iff.1 hm]),List.map_congr_left (l:=b.toList) fun x hm=>hx x (by simp[Array.mem_toList_iff.1 hm])]
 case call c =>
  have ha:∀ x∈c.args.toList,ρ x=ρ' x:=fun x hm=>hx x (by simp[Call.operands,Array.mem_toList_iff.1 hm])
  cases hc:c.callee with
  | builtin b =>
   cases hl:c.args.toList with
   | nil=>rfl
   | cons x r =>
    have hx0:ρ x=ρ' x:=ha x (by rw[hl];simp)
    cases r with
    | nil=>cases b<;>first|rfl|(rcases c.argTypes.toList with _|⟨t,_|⟨t2,r2⟩⟩<;>simp only [hx0])
    | cons y r =>
     have hy0:ρ y=ρ' y:=ha y (by rw[hl];simp)
     cases b<;>first|rfl|(cases r<;>simp only [hx0,hy0])
  | value f=>rfl
  | invoke r m=>rfl
 all_goals (first|rfl|(simp_all;done))
theorem Ra (T:Ti)(h:Hp){ρ ρ':Operand→AV}(o:Oper)(hx:∀ x∈o.op.operands,ρ x=ρ' x):evG T h ρ o=evG T h ρ' o:=by
 have hL:=Qy T h o hx
 obtain⟨dst,op,type,pos,after,guard⟩:=o
 cases op<;>simp only [Op.operands] at hx<;>simp only [evG]
 case build t ps =>
  rw[List.map_congr_left (l:=ps.toList) fun p hm=>by
   have:ρ p.2=ρ' p.2:=hx p.2 (by simp only [List.mem_toArray,List.mem_map];exact⟨p,hm,rfl⟩)
   rw[this]]
 case slice t x lo hi mx=>cases lo<;>cases hi<;>cases mx<;>simp_all
 case binOp b t x y yt=>cases b<;>simp only [evG]<;>simp_all
 all_goals (first|exact hL|rfl|(simp_all;done))
theorem eC {f:Fm}{dst:Option Tmp}{v:AV}{x:Operand}(h:∀ d,dst=some d→x≠.tmp d):Operand.av (f.put dst v).ts x=Operand.av f.ts x:=by
 cases dst with
 | none=>rfl
 | some d =>
  cases x with
  | tmp t =>
   have hne:d≠t:=fun e=>h d rfl (e▸rfl)
   show(f.ts.put d v).get t=f.ts.get t
   rw[Ko,if_neg (fun h=>hne h.2)]
  | _=>rfl
section
variable {P:Program}{T:Ti}{ops:Array Oper}
theorem Xv {h:Hp}(o:Oper)(f:Fm)(dst:Option Tmp)(v:AV)(hd:∀ d,dst=some d→d∉o.looksAt ops) :
  evG T h (Operand.av (f.put dst v).ts) o=evG T h (Operand.av f.ts) o :=
 Ra T h o fun x hx=>eC fun d hdd hxd=>hd d hdd (by
  subst hxd
  exact List.mem_append_left _ (List.mem_filterMap.2 ⟨.tmp d,by simpa using hx,rfl⟩))
theorem Lx (o:Oper)(f:Fm)(dst:Option Tmp)(v:AV)(h:∀ d,dst=some d→d∉o.looksAt ops) :
  wantA ops (f.put dst v).ts o=wantA ops f.ts o:=by
 cases dst with
 | none=>rfl
 | some d =>
  unfold wantA
  cases hg:o.guard with
  | none=>rfl
  | some gw =>
   obtain⟨g,want⟩:=gw
   have hy:yA ops (f.put (some d) v).ts g=yA ops f.ts g:=by
    unfold yA
    cases ht:(ops[g]?).bind (·.dst) with
    | none=>rfl
    | some t =>
     have hne:d≠t:=fun e=>h d rfl (by subst e;simp[Oper.looksAt,hg,ht])
     show(match (f.ts.put d v).get t with | .lit (.bool b)=>some (some b) | .lit (.tuple _)=>some none|_=>none)=_
     rw[Ko,if_neg (fun h=>hne h.2)]
     rfl
   simp only [hy]
def lightV (T:Ti)(ops:Array Oper)(h:Hp)(f:Fm)(i:Nat):Option AV :=
 match ops[i]? with
 | some o=>match wantA ops f.ts o with
  | some true=>evG T h (Operand.av f.ts) o
  | some false=>some Bx
  | none=>none
 | none=>none
theorem Gc {h:Hp}{i:Nat}{f:Fm}{dst:Option Tmp}{v:AV}(hd:∀ o,ops[i]?=some o→∀ d,dst=some d→d∉o.looksAt ops):lightV T ops h (f.put dst v) i=lightV T ops h f i:=by
 unfold lightV
 cases ho:ops[i]? with
 | none=>rfl
 | some o=>simp only [Lx o f dst v (hd o ho),Xv o f dst v (hd o ho)]
def LV (T:Ti)(ops:Array Oper)(h:Hp)(f:Fm)(i:Nat)(r:AV):Prop:=∃ r0,lightV T ops h f i=some r0∧Eqv r0 r
theorem LV.of {h:Hp}{f:Fm}{i:Nat}{r:AV}(hl:lightV T ops h f i=some r):LV T ops h f i r:=⟨r,hl,Eqv.refl r⟩
theorem Rd {h:Hp}{i:Nat}{f:Fm}{dst:Option Tmp}{v r:AV}(hd:∀ o,ops[i]?=some o→∀ d,dst=some d→d∉o.looksAt ops):LV T ops h (f.put dst v) i r↔LV T ops h f i r:=by
 unfold LV;rw[Gc hd]
def Bt (o:Oper):List Nat:=o.after.toList.filterMap fun e=>if Region.binds .any e then some e.on else none
structure Tidy (ops:Array Oper)(M:List Nat):Prop where
 back:∀ (j:Nat)(o:Oper),ops[j]?=some o→∀ e∈Bt o,e<j
 anc:∀ (j:Nat)(o:Oper) i,ops[j]?=some o→i<ops.size→(M.getD j 0).testBit i=true→∃ e∈Bt o,e=i∨(M.getD e 0).testBit i=true
 see:∀ (i j:Nat)(oi oj:Oper),ops[i]?=some oi→ops[j]?=some oj→i≠j→∀ d,oi.dst=some d→(d∈oj.looksAt ops→(M.getD j 0).testBit i=true∨(M.getD i 0).testBit j=true)∧oj.dst≠some d
 self:∀ (i:Nat)(oi:Oper),ops[i]?=some oi→∀ d,oi.dst=some d→d∉oi.looksAt ops
 plain:∀ (i:Nat)(oi:Oper),ops[i]?=some oi→(∀ cs b,oi.op≠.select cs b)∧∀ c,oi.op≠.defer c
def Lg (o:Oper):Bool:=match o.op with | .select .. | .defer _=>false|_=>true
def tidyAt (ops:Array Oper)(M:List Nat)(j:Nat)(o:Oper):Bool :=
 Lg o&&(Bt o).all (·<j) &&
 ((List.range ops.size).all fun i=>!(M.getD j 0).testBit i||(Bt o).any fun e=>e == i||(M.getD e 0).testBit i) &&
 ((List.range ops.size).all fun i=>match (ops[i]?).bind (·.dst) with
  | some d=>(!((o.looksAt ops).contains d)||(i != j&&((M.getD j 0).testBit i||(M.getD i 0).testBit j)))&&(i == j||o.dst != some d)
  | none=>true)
def He (ops:Array Oper)(M:List Nat):Bool:=(List.range ops.size).all fun j=>match ops[j]? with
 | some o=>tidyAt ops M j o
 | none=>true
def Dr (ops:Array Oper):List Nat:=ops.toList.foldl (fun M o=>M++[(Bt o).foldl (fun m e=>m ||| (1 <<< e) ||| M.getD e 0) 0]) []
theorem Ky {M:List Nat}(h:He ops M=true):Tidy ops M:=by
 have hat:∀ (j:Nat)(o:Oper),ops[j]?=some o→tidyAt ops M j o=true:=fun j o ho=>by
  have:=List.all_eq_true.1 h j (List.mem_range.2 (Array.getElem?_eq_some_iff.1 ho).1)
  simpa only [ho] using this
 have hsee:∀ (i j:Nat)(oi oj:Oper),ops[i]?=some oi→ops[j]?=some oj→∀ d,oi.dst=some d→(d∈oj.looksAt ops→i≠j∧((M.getD j 0).testBit i=true∨(M.getD i 0).testBit j=true))∧(i≠j→oj.dst≠some d):=fun i j oi oj hi hj d hd=>by
  have h1:=hat j oj hj
  simp only [tidyAt,Bool.and_eq_true] at h1
  have h2:=List.all_eq_true.1 h1.2 i (List.mem_range.2 (Array.getElem?_eq_some_iff.1 hi).1)
  simp only [hi,Option.bind_some,hd,Bool.and_eq_true,Bool.or_eq_true,Bool.not_eq_true',bne_iff_ne,beq_iff_eq] at h2
  refine⟨fun hm=>?_,fun hne=>h2.2.resolve_left hne⟩
  rcases h2.1 with h3|h3
  ·rw[List.contains_iff_mem.2 hm] at h3;cases h3
  ·exact h3
 refine⟨fun j o ho e he=>?_,fun j o i ho hi hb=>?_,fun i j oi oj hi hj hne d hd=>⟨fun hm=>((hsee i j oi oj hi hj d hd).1 hm).2,(hsee i j oi oj hi hj d hd).2 hne⟩,fun i oi hi d hd hm=>((hsee i i oi oi hi hi d hd).1 hm).1 rfl,fun i oi hi=>?_⟩
 ·have h1:=hat j o ho
  simp only [tidyAt,Bool.and_eq_true] at h1
  simpa using List.all_eq_true.1 h1.1.1.2 e he
 ·have h1:=hat j o ho
  simp only [tidyAt,Bool.and_eq_true] at h1
  have h2:=List.all_eq_true.1 h1.1.2 i (List.mem_range.2 hi)
  simp only [hb,Bool.not_true,Bool.false_or,List.any_eq_true,Bool.or_eq_true,beq_iff_eq] at h2
  exact h2
 ·have h1:=hat i oi hi
  simp only [tidyAt,Bool.and_eq_true] at h1
  have h2:=h1.1.1.1
  unfold Lg at h2
  exact⟨fun cs b hc=>by simp[hc] at h2,fun c hc=>by simp[hc] at h2⟩
def Ck (ops:Array Oper)(listed:Array Bool):Prop:=∀ (j:Nat)(o:Oper),ops[j]?=some o→listed.getD j false=true→∀ e∈Bt o,listed.getD e false=true
theorem Gk {o:Oper}{e:Nat}:e∈Bt o↔∃ x∈o.after,Region.binds .any x=true∧x.on=e:=by
 unfold Bt
 rw[List.mem_filterMap]
 constructor
 ·rintro⟨x,hx,h⟩
  split at h
  ·rename_i hb;cases h;exact⟨x,Array.mem_toList_iff.1 hx,hb,rfl⟩
  ·cases h
 ·rintro⟨x,hx,hb,rfl⟩
  exact⟨x,Array.mem_toList_iff.2 hx,by simp[hb]⟩
theorem Cb {j:Nat}{listed:Array Bool}(h:j∈Region.ready .any ops listed):∃ o,ops[j]?=some o∧listed.getD j true=false∧∀ e∈Bt o,listed.getD e false=true:=by
 obtain⟨h0,o,ho,h1⟩:=mem_ready.1 h
 exact⟨o,ho,h0,fun e he=>by obtain⟨x,hx,hb,rfl⟩:=Gk.1 he;exact h1 x hx hb⟩
theorem Ck.set {listed:Array Bool}(hc:Ck ops listed){j:Nat}(h:j∈Region.ready .any ops listed):Ck ops (listed.setIfInBounds j true):=by
 obtain⟨o,ho,_,he⟩:=Cb h
 intro k ok hok hk e hek
 by_cases hjk:j=k
 ·subst hjk
  rw[ho] at hok;cases hok
  exact getD_set_true (he e hek)
 ·rw[getD_set_ne false hjk] at hk
  exact getD_set_true (hc k ok hok hk e hek)
theorem Fa {listed:Array Bool}{j:Nat}(h:listed.getD j true=false):listed.getD j false=false:=by
 rcases Nat.lt_or_ge j listed.size with h'|h'
 ·simpa[h'] using h
 ·simp[Array.getElem?_eq_none h']
theorem Ck.anc {M:List Nat}(hM:Tidy ops M){listed:Array Bool}(hc:Ck ops listed){i:Nat}(hi:i<ops.size):∀ (j:Nat)(o:Oper),ops[j]?=some o→(∀ e∈Bt o,listed.getD e false=true)→(M.getD j 0).testBit i=true→listed.getD i false=true:=by
 intro j
 induction j using Nat.strongRecOn with
 | _ j ih =>
  intro o ho hall hb
  obtain⟨e,he,h1|h1⟩:=hM.anc j o i ho hi hb
  ·subst h1;exact hall e he
  ·have hlt:=hM.back j o ho e he
   have hes:e<ops.size:=Nat.lt_trans hlt (Array.getElem?_eq_some_iff.1 ho).1
   exact ih e hlt ops[e] (Array.getElem?_eq_getElem hes) (hc e ops[e] (Array.getElem?_eq_getElem hes) (hall e he)) h1
def Cc (T:Ti)(ops:Array Oper)(Af:List (Nat × AV))(f:Fm)(h:Hp):Prop:=∀ p∈Af,LV T ops h f p.1 p.2
def Cg (M:List Nat)(j:Nat)(Af:List (Nat × AV)):List (Nat × AV):=Af.filter fun p=>!(M.getD j 0).testBit p.1
variable (P T ops) in
def Cy (M:List Nat)(rd:Option Nat)(K:Fm→St→Prop):Nat→List (Nat × AV)→Array Bool→Fm→St→Prop
 | 0,Af,listed,f,st=>Cc T ops Af f st.h∧Region.ready .any ops listed=[]∧K f st
 | fuel+1,Af,listed,f,st=>Cc T ops Af f st.h∧(Region.ready .any ops listed=[]→K f st) ∧
  ∀ j∈Region.ready .any ops listed,∃ o,ops[j]?=some o∧Ac P rd ops [j] (fun f' st'=>∃ v,f'=f.put o.dst v∧Cy M rd K fuel (Cg M j Af) (listed.setIfInBounds j true) f' st') f st
theorem Ac.mono {rd:Option Nat}{l:List Nat}{K K':Fm→St→Prop}{f:Fm}{st:St}(h:Ac P rd ops l K f st)(hk:∀ f st,K f st→K' f st):Ac P rd ops l K' f st :=
 fun φ w a n Q h1 h2 h3 hQ=>h φ w a n Q h1 h2 h3 fun a' w' ⟨f',st',φ',k,r⟩=>hQ a' w' ⟨f',st',φ',hk _ _ k,r⟩
theorem Cy.Af {M:List Nat}{rd:Option Nat}{K:Fm→St→Prop}{fuel:Nat}{Af:List (Nat × AV)}{listed:Array Bool}{f:Fm}{st:St}(h:Cy P T ops M rd K fuel Af listed f st):Cc T ops Af f st.h:=by
 cases fuel<;>exact h.1
theorem Cy.weaken {M:List Nat}{rd:Option Nat}{K:Fm→St→Prop}:∀ (fuel:Nat){Af pend':List (Nat × AV)}{listed:Array Bool}{f:Fm}{st:St},Cy P T ops M rd K fuel Af listed f st→(∀ p∈pend',p∈Af)→Cy P T ops M rd K fuel pend' listed f st
 | 0,_,_,_,_,_,h,hs=>⟨fun p hp=>h.1 p (hs p hp),h.2⟩
 | fuel+1,Af,pend',_,_,_,h,hs=>⟨fun p hp=>h.1 p (hs p hp),h.2.1,fun j hj=>by
   obtain⟨o,ho,h1⟩:=h.2.2 j hj
   refine⟨o,ho,h1.mono fun f' st' ⟨v,h2,h3⟩=>⟨v,h2,Cy.weaken fuel h3 fun p hp=>?_⟩⟩
   unfold Cg at *
   rw[List.mem_filter] at *
   exact⟨hs p hp.1,hp.2⟩⟩
theorem Es {F:Fence}{n:Nat}{Q1 Q2:Exit→Act→World→Prop}{j:Nat}{o:Oper}{K1 K2:Act→World→Prop}{a1 a2:Act}{w:World}(hj:ops[j]?=some o)(hnd:∀ c,o.op≠.defer c)
  (hw:Region.wanted o (yielded ops a1.tmps)=Region.wanted o (yielded ops a2.tmps))(he:execOp a1.eval o=execOp a2.eval o)(hb:∀ w,o.about P w a1.eval=o.about P w a2.eval)
  (hK:∀ cv w',K1 (a1.put o.dst cv) w'→K2 (a2.put o.dst cv) w')(hD:∀ d w',K1 ({ a1 with defers:=d::a1.defers}.put o.dst undef) w'→K2 ({ a2 with defers:=d::a2.defers}.put o.dst undef) w')(hQ:∀ e a w,e≠.normal→Q1 e a w→Q2 e a2 w)(hl:LetsOut Q1→LetsOut Q2)
  (h:wpOpIn F n P ops Q1 j K1 a1 w):wpOpIn F n P ops Q2 j K2 a2 w:=by
 unfold wpOpIn at *
 simp only [hj] at *
 rw[hw,hb w] at h
 split
 ·rename_i hwn
  simp only [hwn,if_true] at h
  unfold Oper.wpIn at *
  rw[semAt_eq hnd,he,hb w] at h
  rw[semAt_eq hnd]
  refine⟨h.1,?_⟩
  obtain⟨-,h⟩:=h
  generalize (execOp a2.eval o).run P w=r at *
  cases r with
  | ok x w' =>
   cases x<;>simp only [Oper.uponIn] at h ⊢
   case value u=>exact hK u _ h
   case skip=>exact hK _ _ h
   case defer d=>exact hD d _ h
   case enter f args=>exact⟨h.1,CallsIn.mono h.2 fun e w'' he=>by
    cases e with
    | returned u=>exact hK u _ he
    | panicked c=>exact hQ _ _ _ (by simp) he
    | outgrown=>exact hl he⟩
   case row row args=>exact⟨h.1,RowsIn.mono h.2 fun u w'' he=>hK u _ he⟩
   case round l f tmps assign body=>exact⟨h.1,RoundIn.mono h.2 fun e w'' he=>by
    cases e with
    | returned u=>exact hK u _ he
    | panicked c=>exact hQ _ _ _ (by simp) he
    | outgrown=>exact hl he⟩
  | halt x w' =>
   cases x<;>simp only [Oper.uponIn] at h ⊢
   case panic u=>exact hQ _ _ _ (by simp) h
 ·rename_i hwn
  simp only [hwn] at h
  exact⟨h.1,hK _ _ h.2⟩
theorem Ac.eK {M:List Nat}(hM:Tidy ops M)(hT:TOk P T){rd:Option Nat}{i j:Nat}{oi oj:Oper}{r:AV}{K:Fm→St→Prop}{f:Fm}{st:St}(hi:ops[i]?=some oi)(hj:ops[j]?=some oj)
  (h1:∀ d,oi.dst=some d→d∉oj.looksAt ops)(h2:∀ d,oi.dst=some d→oj.dst≠some d)(hr:LV T ops st.h f i r)
  (h:Ac P rd ops [j] (fun f' st'=>∃ v,f'=(f.put oi.dst r).put oj.dst v∧K (f.put oj.dst v) st') (f.put oi.dst r) st) :
  Ac P rd ops [j] (fun f' st'=>∃ v,f'=f.put oj.dst v∧K f' st') f st:=by
 intro φ w a n Q hrd hrel hact hQ
 obtain⟨u,hu⟩:∃ u,VR φ r u:=by
  obtain⟨r0,hr,heq⟩:=hr
  unfold lightV at hr
  simp only [hi] at hr
  split at hr
  ·obtain⟨u,h3,_⟩:=Qz (P:=P) hT hrel (Bm hact.ts) hr
   exact⟨u,heq _ _ h3⟩
  ·cases hr;exact⟨undef,heq _ _ (.lit _)⟩
  ·cases hr
 have hp:=hM.plain j oj hj
 let X:Act→World→Prop:=Eg φ st w (fun _ f' st'=>∃ v,f'=(f.put oi.dst r).put oj.dst v∧K (f.put oj.dst v) st') .normal
 have h3:=h φ w (a.put oi.dst u) n (fun e a w=>e=.normal∧X a w) hrd hrel (hact.put oi.dst hu) (fun a' w' hl=>⟨rfl,hl⟩)
 rw[wpOpsIn_cons] at h3 ⊢
 refine Es hj hp.2 (wanted_put oj a oi.dst u h1) (execOp_put oj hp.1 a oi.dst u h1) (fun w=>about_put oj w a oi.dst u h1) (fun cv w' hk=>?_) (fun d w' hk=>?_) (fun e a w hne hk=>absurd hk.1 hne) (fun hl=>?_) h3
 ·obtain⟨_,f',st',φ',⟨v,rfl,hk⟩,he,hrel',hact',hf⟩:=hk
  refine hQ _ _ ⟨f.put oj.dst v,st',φ',⟨v,rfl,hk⟩,he,hrel',?_,hf⟩
  cases hd:oj.dst with
  | none=>exact hact.mono he
  | some d =>
   rw[hd] at hact'
   have hv:=hact'.ts.get d
   by_cases hlt:d<f.ts.len
   ·refine(hact.mono he).put (some d) ?_
    have hlt':d<(f.put oi.dst r).ts.len:=by cases oi.dst<;>simpa[Fm.put,Ts.Lf] using hlt
    have hg:((f.put oi.dst r).put (some d) v).ts.get d=v:=by
     show((f.put oi.dst r).ts.put d v).get d=v
     rw[Ko,if_pos ⟨hlt',rfl⟩]
    rw[hg] at hv
    have hlc:d<(a.put oi.dst u).tmps.size:=by
     have h5:=(hact.put oi.dst hu).ts.size
     rw[h5];exact hlt'
    have:((a.put oi.dst u).put (some d) cv).tmps.getD d (.tuple #[])=cv:=by
     show((a.put oi.dst u).tmps.setIfInBounds d cv).getD d (.tuple #[])=cv
     simp[Array.getD_eq_getD_getElem?,hlc]
    rw[this] at hv
    exact hv
   ·have e1:f.put (some d) v=f:=by
     have hb:Nat.blt d f.ts.len=false:=by rw[←Bool.not_eq_true,Nat.blt_eq];exact hlt
     cases f with|mk ts dm=>simp only [Fm.put,Ts.put] at hb ⊢;rw[hb]
    have hlc:¬ d<a.tmps.size:=by rw[hact.ts.size];exact hlt
    have e2:a.put (some d) cv=a:=by
     cases a with|mk tmps defers=>simp only [Act.put];congr 1;exact Array.setIfInBounds_eq_of_size_le (by simpa using hlc)
    rw[e1,e2]
    exact hact.mono he
 ·exfalso
  obtain⟨_,f',st',φ',⟨v,rfl,hk⟩,he,hrel',hact',hf⟩:=hk
  have e1:=congrArg List.length hact'.dm
  have e2:=congrArg List.length hact.dm
  have e3:((f.put oi.dst r).put oj.dst v).dm=f.dm:=by cases oi.dst<;>cases oj.dst<;>rfl
  rw[e3] at e1
  cases hdi:oi.dst<;>cases hdj:oj.dst<;>simp[hdi,hdj,Act.put] at e1 e2<;>omega
 ·obtain⟨a,w,hn,_⟩:=hl
  cases hn
theorem Fm.put_comm (f:Fm){x y:Option Tmp}(v u:AV)(h:∀ d,x=some d→y≠some d):(f.put x v).put y u=(f.put y u).put x v:=by
 cases x with
 | none=>rfl
 | some d =>
  cases y with
  | none=>rfl
  | some e =>
   have hne:d≠e:=fun he=>h d rfl (he▸rfl)
   simp only [Fm.put]
   rw[Ts.put_comm _ hne]
theorem Ac.lightV (hT:TOk P T){rd:Option Nat}{i:Nat}{l:List Nat}{K:Fm→St→Prop}{f:Fm}{st:St}{o:Oper}{r:AV}(ho:ops[i]?=some o)(hr:LV T ops st.h f i r)(h:Ac P rd ops l K (f.put o.dst r) st):Ac P rd ops (i::l) K f st:=by
 obtain⟨r0,hr,heq⟩:=hr
 unfold Fz.lightV at hr
 simp only [ho] at hr
 split at hr
 ·rename_i hw;exact .sM hT ho hw hr heq h
 ·rename_i hw;cases hr;exact .wI ho hw heq h
 ·cases hr
def PL (Af:List (Nat × AV))(listed:Array Bool):Prop:=∀ p∈Af,listed.getD p.1 false=true
theorem Cy.take {M:List Nat}(hM:Tidy ops M)(hT:TOk P T){rd:Option Nat}{K:Fm→St→Prop}{i:Nat}{oi:Oper}{r:AV}(hi:ops[i]?=some oi):∀ (fuel:Nat){Af:List (Nat × AV)}{listed:Array Bool}{f:Fm}{st:St},
  Ck ops listed→PL Af listed→(∀ p∈Af,∀ o,ops[p.1]?=some o→∀ d,oi.dst=some d→d∉o.looksAt ops)→i∈Region.ready .any ops listed→LV T ops st.h f i r→Cy P T ops M rd K fuel ((i,r)::Af) (listed.setIfInBounds i true) (f.put oi.dst r) st →
  Cy P T ops M rd K (fuel+1) Af listed f st:=by
 intro fuel
 have his:i<ops.size:=(Array.getElem?_eq_some_iff.1 hi).1
 have hpend:∀ {Af:List (Nat × AV)}{f:Fm}{h:Hp},(∀ p∈Af,∀ o,ops[p.1]?=some o→∀ d,oi.dst=some d→d∉o.looksAt ops)→Cc T ops ((i,r)::Af) (f.put oi.dst r) h→Cc T ops Af f h:=by
  intro Af f h hpd hp p hpm
  have h1:=hp p (List.mem_cons_of_mem _ hpm)
  rwa [Rd (fun o ho d hd=>hpd p hpm o ho d hd)] at h1
 have hself:∀ {Af:List (Nat × AV)}{listed:Array Bool}{f:Fm}{st:St}{fuel:Nat},Cy P T ops M rd K fuel ((i,r)::Af) (listed.setIfInBounds i true) (f.put oi.dst r) st→LV T ops st.h f i r →
   ∃ o,ops[i]?=some o∧Ac P rd ops [i] (fun f' st'=>∃ v,f'=f.put o.dst v∧Cy P T ops M rd K fuel (Cg M i Af) (listed.setIfInBounds i true) f' st') f st:=fun H hr =>
  ⟨oi,hi,Ac.lightV hT hi hr (.nil ⟨r,rfl,H.weaken _ fun p hp=>List.mem_cons_of_mem _ (List.mem_filter.1 hp).1⟩)⟩
 induction fuel with
 | zero =>
  intro Af listed f st hc hpl hpd hr hl H
  refine⟨hpend hpd H.Af,fun h=>(by rw[h] at hr;cases hr),fun j hj=>?_⟩
  by_cases hji:j=i
  ·subst hji;exact hself H hl
  ·have:=ready_mono hj hji
   rw[H.2.1] at this
   cases this
 | succ fuel ih =>
  intro Af listed f st hc hpl hpd hr hl H
  refine⟨hpend hpd H.Af,fun h=>(by rw[h] at hr;cases hr),fun j hj=>?_⟩
  by_cases hji:j=i
  ·subst hji;exact hself H hl
  ·obtain⟨oj,hoj,h1⟩:=H.2.2 j (ready_mono hj hji)
   obtain⟨oj',hoj',hjun,hje⟩:=Cb hj
   rw[hoj] at hoj';cases hoj'
   obtain⟨oi',hoi',hiun,hie'⟩:=Cb hr
   rw[hi] at hoi';cases hoi'
   have hnot:(M.getD j 0).testBit i=false:=by
    cases hb:(M.getD j 0).testBit i with
    | false=>rfl
    | true=>have:=Ck.anc hM hc his j oj hoj hje hb;rw[Fa hiun] at this;cases this
   have hd1:∀ d,oi.dst=some d→d∉oj.looksAt ops:=fun d hd hm=>by
    rcases (hM.see i j oi oj hi hoj (Ne.symm hji) d hd).1 hm with h5|h5
    ·rw[hnot] at h5;cases h5
    ·have:=Ck.anc hM hc (Array.getElem?_eq_some_iff.1 hoj).1 i oi hi hie' h5
     rw[Fa hjun] at this;cases this
   have hd2:∀ d,oi.dst=some d→oj.dst≠some d:=fun d hd=>(hM.see i j oi oj hi hoj (Ne.symm hji) d hd).2
   refine⟨oj,hoj,Ac.eK (K:=fun f' st'=>Cy P T ops M rd K (fuel+1) (Cg M j Af) (listed.setIfInBounds j true) f' st') hM hT hi hoj hd1 hd2 hl (h1.mono fun f' st' ⟨v,hf,h2⟩=>⟨v,hf,?_⟩)⟩
   subst hf
   have h3:Cg M j ((i,r)::Af)=(i,r)::Cg M j Af:=by unfold Cg;rw[List.filter_cons];simp only [hnot,Bool.not_false,if_true]
   rw[h3,Array.setIfInBounds_comm _ _ (Ne.symm hji),Fm.put_comm _ _ _ hd2] at h2
   refine ih (hc.set hj) (fun p hp=>getD_set_true (hpl p (List.mem_filter.1 hp).1)) (fun p hp=>hpd p (List.mem_filter.1 hp).1) (ready_mono hr (Ne.symm hji)) ?_ h2
   have h4:=h2.Af (i,r) (by simp)
   rwa [Rd (fun o ho d hd=>by rw[hi] at ho;cases ho;exact hM.self i oi hi d hd)] at h4
theorem Cy.done {M:List Nat}{rd:Option Nat}{K:Fm→St→Prop}{Af:List (Nat × AV)}{listed:Array Bool}{f:Fm}{st:St}(hp:Cc T ops Af f st.h)(hr:Region.ready .any ops listed=[])(h:K f st):∀ fuel,Cy P T ops M rd K fuel Af listed f st
 | 0=>⟨hp,hr,h⟩
 | _+1=>⟨hp,fun _=>h,by rw[hr];simp⟩
theorem Cy.all {M:List Nat}{rd:Option Nat}{K:Fm→St→Prop}{fuel:Nat}{Af:List (Nat × AV)}{listed:Array Bool}{f:Fm}{st:St}{rs:List Nat}(hp:Cc T ops Af f st.h)(hr:Region.ready .any ops listed=rs)(hne:rs≠[])
  (h:∀ j∈rs,∃ o,ops[j]?=some o∧Ac P rd ops [j] (fun f' st'=>∃ v,f'=f.put o.dst v∧Cy P T ops M rd K fuel (Cg M j Af) (listed.setIfInBounds j true) f' st') f st):Cy P T ops M rd K (fuel+1) Af listed f st :=
 ⟨hp,fun h0=>absurd (hr▸h0) hne,hr▸h⟩
theorem Cy.sound {M:List Nat}(hM:Tidy ops M){rd:Option Nat}{K:Fm→St→Prop}:∀ (fuel:Nat){Af:List (Nat × AV)}{listed:Array Bool}{f:Fm}{st:St},Cy P T ops M rd K fuel Af listed f st →
  ∀ (φ:Fi)(w:World)(a:Act)(n:Nat)(Q:Exit→Act→World→Prop),(∀ id,rd=some id→id<φ.n)→Rel φ st w→Cz φ f a→(∀ a' w',Eg φ st w (fun _ f' st'=>K f' st') .normal a' w'→Q .normal a' w') →
   wpAnyIn (FW (rdB φ rd)) n P .any ops Q fuel listed a w
 | 0,_,_,_,_,h,_,_,_,_,_,_,h2,h3,hQ=>⟨h.2.1,hQ _ _ (Eg.here h.2.2 h2 h3)⟩
 | fuel+1,Af,listed,f,st,h,φ,w,a,n,Q,h1,h2,h3,hQ=>by
  refine⟨fun hr=>hQ _ _ (Eg.here (h.2.1 hr) h2 h3),fun j hj=>?_⟩
  obtain⟨o,ho,h4⟩:=h.2.2 j hj
  have hp:=hM.plain j o ho
  have h5:=h4 φ w a n (fun e a' w'=>e=.normal∧wpAnyIn (FW (rdB φ rd)) n P .any ops Q fuel (listed.setIfInBounds j true) a' w') h1 h2 h3 (fun a' w' hl=>⟨rfl,by
   obtain⟨f',st',φ',⟨v,hf,hk⟩,he,hrel,hact,hfr⟩:=hl
   have h6:=Cy.sound hM fuel hk φ' w' a' n Q (fun id hi=>Nat.lt_of_lt_of_le (h1 id hi) he.n) hrel hact (fun a2 w2 hl2=>hQ a2 w2 (hl2.trans he hfr))
   rwa [Dd he h1] at h6⟩)
  rw[wpOpsIn_cons] at h5
  exact Es ho hp.2 rfl rfl (fun _=>rfl) (fun cv w' hk=>hk.2) (fun d w' hk=>hk.2) (fun e a w hne hk=>absurd hk.1 hne) (fun hl=>by obtain⟨a,w,hn,_⟩:=hl;cases hn) h5
theorem SW.drawn {M:List Nat}(hm:P.follows .mixedOrders=true){rd:Option Nat}{id:Nat}{Q:Exit→Fm→St→Prop}{f:Fm}{st:St}(hM:Tidy ops M)
  (h:Cy P T ops M rd (fun f' st'=>Q .normal f' st') ops.size [] (Array.replicate ops.size false) f st):SW P rd (.region id ops true) Q f st:=by
 intro φ w a n h1 h2 h3
 refine wpIn_region_any hm ?_
 have hrel:Rel φ st { w with drawn:=w.drawn+1}:=h2.of_heap rfl
 refine Cy.sound hM ops.size h φ _ a n _ h1 hrel h3 fun a' w' hl=>?_
 obtain⟨f',st',φ',k,he,hr,ha,hf⟩:=hl
 exact⟨f',st',φ',k,he,hr,ha,⟨hf.os,hf.tape,hf.output,hf.size,hf.block,hf.own,hf.zs⟩⟩
theorem Ha:Ck ops (Array.replicate ops.size false):=fun j o ho hl=>by
 exfalso
 simp only [Array.getD_eq_getD_getElem?,Array.getElem?_replicate] at hl
 split at hl<;>simp at hl
end
end Go.Fz
namespace Go.Fz
def St.Gd (st:St)(p:Nat→Bool):St:=⟨st.h.filter fun x=>p x.1,st.n⟩
theorem Hp.get_filter {p:Nat→Bool}:∀ {h:Hp}{id:Nat}{o:AObj},Hp.get (h.filter fun x=>p x.1) id=some o→h.get id=some o∧p id=true
 | [],id,o,h=>by simp[Hp.get] at h
 | (i,x)::r,id,o,h=>by
  simp only [List.filter_cons] at h
  split at h
  ·rename_i hp
   simp only [Hp.get] at h ⊢
   split at h
   ·rename_i hi;subst hi;rw[if_pos rfl];exact⟨h,hp⟩
   ·rename_i hi;rw[if_neg hi];exact Hp.get_filter h
  ·rename_i hp
   obtain⟨h1,h2⟩:=Hp.get_filter h
   have hne:i≠id:=fun e=>hp (by show p i=true;rw[e];exact h2)
   simp only [Hp.get,if_neg hne]
   exact⟨h1,h2⟩
def frz (h:Hp)(D:Nat→Bool):Nat→AV→AV
 | 0,_=>.any
 | n+1,a=>match a with
  | .ptr id off=>if D id then(match h.get id with
    | some (.cells _ false cs)=>.ip cs.length off (fun k=>frz h D n (cs.getD k .any))
    | _=>.any) else .ptr id off
  | .sl id off len sz ex=>if D id then(match h.get id with
    | some (.cells _ false cs)=>if off+len*sz≤cs.length then .isl len sz ex (fun i k=>frz h D n (cs.getD (off+i*sz+k) .any)) else .any
    | _=>.any) else .sl id off len sz ex
  | .mp id=>if D id then .any else .mp id
  | .yld id=>if D id then .any else .yld id
  | .fn f as bs=>.fn f (as.map (frz h D n)) (bs.map (frz h D n))
  | .agg cs=>.agg (cs.map (frz h D n))
  | .tup vs=>.tup (vs.map (frz h D n))
  | a=>a
def freeB (h:Hp)(D:Nat→Bool):Bool:=h.all fun x=>D x.1||match x.2.fam with
 | none=>true
 | some f=>h.all fun y=>!(D y.1)||match y.2.fam with
  | none=>true
  | some g=>!(Nat.beq f g)
theorem Hp.As:∀ {h:Hp}{id:Nat}{o:AObj},h.get id=some o→(id,o)∈h
 | [],id,o,h=>by simp[Hp.get] at h
 | (i,x)::r,id,o,h=>by
  simp only [Hp.get] at h
  split at h
  ·rename_i hi;subst hi;cases h;exact List.mem_cons_self
  ·exact List.mem_cons_of_mem _ (Hp.As h)
theorem Pw {h:Hp}{D:Nat→Bool}(hf:freeB h D=true){i j:Nat}{oi oj:AObj}(hi:h.get i=some oi)(hj:h.get j=some oj)(hdi:D i=false)(hdj:D j=true):¬ Mz oi oj:=by
 intro ⟨f,h1,h2⟩
 have h3:=List.all_eq_true.1 hf _ (Hp.As hi)
 simp only [hdi,h1,Bool.false_or] at h3
 have h4:=List.all_eq_true.1 h3 _ (Hp.As hj)
 simp only [hdj,h2,Bool.not_true,Bool.false_or,Bool.not_eq_true'] at h4
 have:Nat.beq f f=true:=Nat.beq_refl f
 rw[this] at h4
 cases h4
open Classical in
noncomputable def zOf (φ:Fi)(h:Hp)(D:Nat→Bool)(w:World)(b:Nat):Option (Nat→Option Value) :=
 match φ.z b with
 | some c=>some c
 | none=>if ∃ id fm cs,D id=true∧h.get id=some (.cells fm false cs)∧(φ.f id).b=b then some fun i=>w.cell? ⟨b,i,none⟩ else none
theorem Ku {φ:Fi}{h:Hp}{D:Nat→Bool}{w:World}{b:Nat}{c:Nat→Option Value}(hb:φ.z b=some c):zOf φ h D w b=some c:=by unfold zOf;rw[hb]
theorem eH {φ:Fi}{st:St}{w:World}(hr:Rel φ st w){D:Nat→Bool}{id:Nat}{fm:Option Nat}{cs:List AV}(hd:D id=true)(ho:st.h.get id=some (.cells fm false cs)) :
  zOf φ st.h D w (φ.f id).b=some fun i=>w.cell? ⟨(φ.f id).b,i,none⟩:=by
 unfold zOf
 cases hz:φ.z (φ.f id).b with
 | some c=>exact absurd rfl ((hr.Ct _ c hz).2.2 id _ ho rfl)
 | none=>simp only;rw[if_pos ⟨id,fm,cs,hd,ho,rfl⟩]
theorem Ry {φ:Fi}{h:Hp}{D:Nat→Bool}{w:World}{b:Nat}{c:Nat→Option Value}(hb:zOf φ h D w b=some c) :
  φ.z b=some c∨(c=fun i=>w.cell? ⟨b,i,none⟩)∧∃ id fm cs,D id=true∧h.get id=some (.cells fm false cs)∧(φ.f id).b=b:=by
 unfold zOf at hb
 split at hb
 ·rename_i c' hc;cases hb;exact .inl hc
 ·split at hb
  ·rename_i hx;cases hb;exact .inr ⟨rfl,hx⟩
  ·cases hb
noncomputable def Fi.Ct (φ:Fi)(h:Hp)(D:Nat→Bool)(w:World):Fi:=⟨φ.f,φ.n,zOf φ h D w⟩
theorem Fi.Mq (φ:Fi)(h:Hp)(D:Nat→Bool)(w:World):Ext φ (φ.Ct h D w):=⟨Nat.le_refl _,fun _ _=>rfl,fun _ _ hb=>Ku hb⟩
theorem Rel.freeze {φ:Fi}{st:St}{w:World}(hr:Rel φ st w){D:Nat→Bool}(hf:freeB st.h D=true) :
  Rel (φ.Ct st.h D w) (st.Gd fun i=>!D i) w∧Fr φ st w (φ.Ct st.h D w) (st.Gd fun i=>!D i) w:=by
 have Bw:∀ id o,(st.Gd fun i=>!D i).h.get id=some o→st.h.get id=some o∧D id=false:=fun id o h=>by
  obtain⟨h1,h2⟩:=Hp.get_filter (p:=fun i=>!D i) h
  exact⟨h1,by simpa using h2⟩
 refine⟨⟨hr.n,fun id o h=>hr.lt id o (Bw id o h).1,fun id o h=>hr.blk id o (Bw id o h).1,fun id o h=>?_,fun i j oi oj hi hj=>hr.sep i j oi oj (Bw i oi hi).1 (Bw j oj hj).1,
  fun id o f h=>hr.fam id o f (Bw id o h).1,fun b c hb=>?_⟩,⟨rfl,rfl,rfl,Nat.le_refl _,fun _ _ _=>rfl,fun k ⟨id,o,h,ho,hb⟩=>.inl ⟨id,o,(Bw id o h).1,ho,hb⟩,fun b c hb=>?_⟩⟩
 ·have h1:=(Bw id o h).1
  exact(hr.obj id o h1).same (φ.Mq _ _ _) (by rw[hr.n];exact hr.lt id o h1) rfl
 ·rcases Ry hb with h|⟨rfl,id,fm,cs,hd,ho,rfl⟩
  ·obtain⟨h1,h2,h3⟩:=hr.Ct b c h
   exact⟨h1,h2,fun id o h4=>h3 id o (Bw id o h4).1⟩
  ·refine⟨hr.blk id _ ho,fun i v hv=>hv,fun j oj hj hown hbb=>?_⟩
   obtain⟨h1,h2⟩:=Bw j oj hj
   have hji:j≠id:=fun e=>by subst e;rw[hd] at h2;cases h2
   exact Pw hf h1 ho h2 hd (hr.sep j id oj _ h1 ho hji hown hbb).1
 ·rcases Ry hb with h|⟨_,id,fm,cs,hd,ho,rfl⟩
  ·exact .inl h
  ·exact .inr (.inl ⟨id,_,ho,rfl,rfl⟩)
theorem Ju {φ:Fi}{st:St}{w:World}(hr:Rel φ st w){D:Nat→Bool}:∀ (n:Nat){a:AV}{u:Value},VR φ a u→VR (φ.Ct st.h D w) (frz st.h D n a) u
 | 0,_,_,_=>.any _
 | n+1,a,u,h=>by
  have hl:∀ {as:List AV}{us:List Value},VRL φ as us→VRL (φ.Ct st.h D w) (as.map (frz st.h D n)) us:=fun {as}=>by
   induction as with
   | nil=>intro us h;cases h;exact .nil
   | cons a as ih=>intro us h;cases h with|cons h t=>exact .cons (Ju hr n h) (ih t)
  have hm:=h.mono (φ.Mq st.h D w)
  unfold frz
  split
  ·rename_i id off
   split
   ·rename_i hd
    obtain⟨rfl,hid⟩:=h.Dn
    split
    ·rename_i fm cs ho
     have hobj:=(hr.obj id _ ho).1
     have hc:∀ k,k<cs.length→∃ v,w.cell? ⟨(φ.f id).b,(φ.f id).o+k,none⟩=some v∧VR φ (cs.getD k .any) v:=fun k hk=>by
      obtain⟨v,h1,h2⟩:=hobj k cs[k] (List.getElem?_eq_getElem hk)
      exact⟨v,h1,by simpa[hk] using h2⟩
     refine .ip cs.length off _ (φ.f id).b (φ.f id).o _ (fun k=>(w.cell? ⟨(φ.f id).b,(φ.f id).o+k,none⟩).getD undef) (eH hr hd ho) (fun j hj=>?_) (fun j hj=>?_)
     ·obtain⟨v,h1,_⟩:=hc j hj;simp[h1]
     ·obtain⟨v,h1,h2⟩:=hc j hj
      simp only [h1,Option.getD_some]
      exact Ju hr n h2
    ·exact .any _
   ·exact hm
  ·rename_i id off len sz ex
   split
   ·rename_i hd
    obtain⟨cap,rfl,hid,hcap,hex,hbnd⟩:=h.Dy
    split
    ·rename_i fm cs ho
     split
     ·rename_i hlen
      have hobj:=(hr.obj id _ ho).1
      have hk:∀ i k,i<len→k<sz→off+i*sz+k<cs.length:=fun i k hi hk=>by
       have:=Nat.mul_le_mul_right sz (show i+1≤len from hi)
       rw[Nat.add_mul] at this
       omega
      have hc:∀ i k,i<len→k<sz→∃ v,w.cell? ⟨(φ.f id).b,(φ.f id).o+off+i*sz+k,none⟩=some v∧VR φ (cs.getD (off+i*sz+k) .any) v:=fun i k hi hkk=>by
       have hlt:=hk i k hi hkk
       obtain⟨v,h1,h2⟩:=hobj (off+i*sz+k) _ (List.getElem?_eq_getElem hlt)
       exact⟨v,by rw[←h1];congr 2;omega,by simpa[hlt] using h2⟩
      refine .isl len sz ex _ (φ.f id).b ((φ.f id).o+off) cap _ (fun i k=>(w.cell? ⟨(φ.f id).b,(φ.f id).o+off+i*sz+k,none⟩).getD undef) (eH hr hd ho) (fun i k hi hkk=>?_) (fun i k hi hkk=>?_) hcap hex
      ·obtain⟨v,h1,_⟩:=hc i k hi hkk;simp[h1]
      ·obtain⟨v,h1,h2⟩:=hc i k hi hkk
       simp only [h1,Option.getD_some]
       exact Ju hr n h2
     ·exact .any _
    ·exact .any _
   ·exact hm
  ·split
   ·exact .any _
   ·exact hm
  ·split
   ·exact .any _
   ·exact hm
  ·obtain⟨us,vs,rfl,h1,h2⟩:=h.Gf
   exact .fn _ (hl h1) (hl h2)
  ·obtain⟨us,rfl,h1⟩:=h.Bz
   exact .agg (hl h1)
  ·obtain⟨us,rfl,h1⟩:=h.Kw
   exact .tup (hl h1)
  ·exact hm
def Below (n:Nat)(a:AV):Prop:=∀ (φ:Fi)(u:Value),VR φ a u→VR ⟨φ.f,n,φ.z⟩ a u
theorem Below.lit {n:Nat}{v:Value}:Below n (.lit v):=fun _ _ h=>by cases h;exact .lit _
theorem Below.ptr {n id off:Nat}(h:id<n):Below n (.ptr id off):=fun φ _ hv=>by cases hv;exact .ptr (φ:=⟨φ.f,n,φ.z⟩) id off h
theorem Below.mp {n id:Nat}(h:id<n):Below n (.mp id):=fun φ _ hv=>by cases hv;exact .mp (φ:=⟨φ.f,n,φ.z⟩) id h
theorem Below.list {n:Nat}{φ:Fi}:∀ {as:List AV}{us:List Value},(∀ a∈as,Below n a)→VRL φ as us→VRL ⟨φ.f,n,φ.z⟩ as us
 | [],_,_,h=>by cases h;exact .nil
 | a::as,_,hb,h=>by
  cases h with
  | cons h t=>exact .cons (hb a List.mem_cons_self _ _ h) (Below.list (fun x hx=>hb x (List.mem_cons_of_mem _ hx)) t)
theorem Below.agg {n:Nat}{cs:List AV}(h:∀ a∈cs,Below n a):Below n (.agg cs):=fun φ _ hv=>by
 obtain⟨us,rfl,h1⟩:=hv.Bz
 exact .agg (Below.list h h1)
theorem Below.tup {n:Nat}{cs:List AV}(h:∀ a∈cs,Below n a):Below n (.tup cs):=fun φ _ hv=>by
 obtain⟨us,rfl,h1⟩:=hv.Kw
 exact .tup (Below.list h h1)
theorem Below.fn {n:Nat}{f:Fn}{as bs:List AV}(h:∀ a∈as,Below n a)(k:∀ a∈bs,Below n a):Below n (.fn f as bs):=fun φ _ hv=>by
 obtain⟨us,vs,rfl,h1,h2⟩:=hv.Gf
 exact .fn _ (Below.list h h1) (Below.list k h2)
theorem Below.isl {n len sz:Nat}{ex:Bool}{g:Nat→Nat→AV}(h:∀ i k,i<len→k<sz→Below n (g i k)):Below n (.isl len sz ex g):=fun φ _ hv=>by
 cases hv with
 | isl _ _ _ _ b o cap c us hz hc hus hcap hex=>exact .isl (φ:=⟨φ.f,n,φ.z⟩) len sz ex g b o cap c us hz hc (fun i k hi hk=>h i k hi hk _ _ (hus i k hi hk)) hcap hex
 | isl0=>exact .isl0 _ _ _
theorem Below.ip {n sz k:Nat}{e:Nat→AV}(h:∀ j,j<sz→Below n (e j)):Below n (.ip sz k e):=fun φ _ hv=>by
 cases hv with
 | ip _ _ _ b o c us hz hc hus=>exact .ip (φ:=⟨φ.f,n,φ.z⟩) sz k e b o c us hz hc (fun j hj=>h j hj _ _ (hus j hj))
theorem Below.sb {n:Nat}{b:Bool}:Below n (.sb b):=fun _ _ h=>by cases h;exact .sb _
def Br (n:Nat):List AV→Prop
 | []=>True
 | a::l=>Below n a∧Br n l
theorem Br.ok {n:Nat}:∀ {l:List AV},Br n l→∀ a∈l,Below n a
 | [],_,a,h=>by cases h
 | x::l,h,a,ha=>by
  rcases List.mem_cons.1 ha with rfl|ha
  ·exact h.1
  ·exact h.2.ok a ha
theorem Eqv.bool {b c:Bool}(h:b=c):Eqv (.lit (.bool b)) (.sb c):=fun _ _ hv=>by subst h;cases hv;exact .sb _
theorem Eqv.sb {b c:Bool}(h:b=c):Eqv (.sb b) (.sb c):=Eqv.of (by rw[h])
theorem Eqv.lit {b c:Bool}(h:b=c):Eqv (.sb b) (.lit (.bool c)):=fun _ _ hv=>by subst h;cases hv;exact .lit _
theorem Eqv.int {k:IntKind}{x y:Int}(h:x=y):Eqv (.lit (.int k x)) (.lit (.int k y)):=Eqv.of (by rw[h])
theorem Eqv.isl {len len' sz:Nat}{ex:Bool}{g g':Nat→Nat→AV}(hl:len=len')(h:∀ i k,i<len→k<sz→Eqv (g i k) (g' i k)):Eqv (.isl len sz ex g) (.isl len' sz ex g'):=fun φ _ hv=>by
 subst hl
 cases hv with
 | isl _ _ _ _ b o cap c us hz hc hus hcap hex=>exact .isl len sz ex g' b o cap c us hz hc (fun i k hi hk=>h i k hi hk _ _ (hus i k hi hk)) hcap hex
 | isl0=>exact .isl0 _ _ _
inductive Vp:List AV→List AV→Prop
 | nil:Vp [] []
 | cons {a b:AV}{as bs:List AV}(h:Eqv a b)(t:Vp as bs):Vp (a::as) (b::bs)
theorem Vp.ok {φ:Fi}:∀ {as bs:List AV}{us:List Value},Vp as bs→VRL φ as us→VRL φ bs us
 | _,_,_,.nil,h=>h
 | _,_,_,.cons h t,hv=>by cases hv with|cons h1 h2=>exact .cons (h _ _ h1) (t.ok h2)
theorem Eqv.agg {as bs:List AV}(h:Vp as bs):Eqv (.agg as) (.agg bs):=fun _ _ hv=>by
 obtain⟨us,rfl,h1⟩:=hv.Bz
 exact .agg (h.ok h1)
theorem Eqv.tup {as bs:List AV}(h:Vp as bs):Eqv (.tup as) (.tup bs):=fun _ _ hv=>by
 obtain⟨us,rfl,h1⟩:=hv.Kw
 exact .tup (h.ok h1)
theorem Eqv.fn {f:Fn}{as bs as' bs':List AV}(h:Vp as as')(k:Vp bs bs'):Eqv (.fn f as bs) (.fn f as' bs'):=fun _ _ hv=>by
 obtain⟨us,vs,rfl,h1,h2⟩:=hv.Gf
 exact .fn _ (h.ok h1) (k.ok h2)
theorem Eqv.ip {sz k:Nat}{e e':Nat→AV}(h:∀ j,j<sz→Eqv (e j) (e' j)):Eqv (.ip sz k e) (.ip sz k e'):=fun φ _ hv=>by
 cases hv with
 | ip _ _ _ b o c us hz hc hus=>exact .ip sz k e' b o c us hz hc (fun j hj=>h j hj _ _ (hus j hj))
variable {P:Program}{T:Ti}
structure Pure (P:Program)(g:FuncId)(args:List AV)(r:AV):Prop where
 ent:Enters P g
 call:∀ st,At P g args st (fun v st'=>v=r∧st'=st)
theorem Pure.eqv {g:FuncId}{args args':List AV}{r:AV}(h:Pure P g args' r)(he:Vp args args'):Pure P g args r :=
 ⟨h.ent,fun st φ w cargs n h1 h2=>h.call st φ w cargs n h1 (he.ok h2)⟩
theorem Pure.res {g:FuncId}{args:List AV}{r r':AV}(h:Pure P g args r)(he:Eqv r r'):Pure P g args r' :=
 ⟨h.ent,fun st φ w cargs n h1 h2=>(h.call st φ w cargs n h1 h2).mono fun e w' ⟨v,cv,st',φ',he',⟨hv,hs⟩,hr,hx,hrel,hf⟩=>⟨r',cv,st',φ',he',⟨rfl,hs⟩,he _ _ (by rw[←hv];exact hr),hx,hrel,hf⟩⟩
theorem Xf {g:FuncId}{args:List AV}{r:AV}{m:Nat}(hent:Enters P g)(ha:Br 0 args)(hr:Below 0 r)
  (h:At P g args ⟨[],0⟩ (fun v st'=>Eqv (frz st'.h (fun _=>true) m v) r)):Pure P g args r:=by
 refine⟨hent,fun st φ w cargs n hrel hargs=>?_⟩
 have hrel0:Rel ⟨φ.f,0,φ.z⟩ ⟨[],0⟩ w:=⟨rfl,fun _ _ h=>by simp[Hp.get] at h,fun _ _ h=>by simp[Hp.get] at h,fun _ _ h=>by simp[Hp.get] at h,fun _ _ _ _ h=>by simp[Hp.get] at h,fun _ _ _ h=>by simp[Hp.get] at h,
  fun b c hb=>⟨(hrel.Ct b c hb).1,(hrel.Ct b c hb).2.1,fun _ _ h=>by simp[Hp.get] at h⟩⟩
 refine(h ⟨φ.f,0,φ.z⟩ w cargs n hrel0 (Below.list ha.ok hargs)).mono fun e w1 hp=>?_
 obtain⟨v,cv,st1,φ1,rfl,hv,hvr,hext,hrel1,hfr⟩:=hp
 have hfree:freeB st1.h (fun _=>true)=true:=List.all_eq_true.2 fun x _=>by simp
 obtain⟨hrel2,hfr2⟩:=hrel1.freeze hfree
 have hvr2:=Ju (D:=fun _=>true) hrel1 m hvr
 replace hvr2:=hv _ _ hvr2
 have hfr3:=hfr.trans hfr2
 have hnone:∀ b,¬ Fo ⟨φ.f,0,φ.z⟩ ⟨[],0⟩ b:=fun b ⟨id,o,h,_⟩=>by simp[Hp.get] at h
 have hzs:∀ b c,zOf φ1 st1.h (fun _=>true) w1 b=some c→φ.z b=some c∨w.heap.size≤b:=fun b c hb=>(hfr3.zs b c hb).elim .inl fun h=>h.elim (fun ho=>absurd ho (hnone b)) .inr
 have hext3:Ext φ ⟨φ.f,φ.n,zOf φ1 st1.h (fun _=>true) w1⟩:=⟨Nat.le_refl _,fun _ _=>rfl,fun b c hb=>Ku (hext.z b c hb)⟩
 have hsame:∀ k,k<w.heap.size→w1.heap[k]?=w.heap[k]?:=fun k hk=>hfr3.block k hk (hnone k)
 refine⟨r,cv,st,⟨φ.f,φ.n,zOf φ1 st1.h (fun _=>true) w1⟩,rfl,⟨rfl,rfl⟩,?_,hext3,?_,?_⟩
 ·have h1:=hr _ _ hvr2
  have h1':VR ⟨φ1.f,0,zOf φ1 st1.h (fun _=>true) w1⟩ r cv:=h1
  exact VR.mono (φ:=⟨φ1.f,0,zOf φ1 st1.h (fun _=>true) w1⟩) (φ':=⟨φ.f,φ.n,zOf φ1 st1.h (fun _=>true) w1⟩) ⟨Nat.zero_le _,fun id hid=>absurd hid (Nat.not_lt_zero id),fun b c hb=>hb⟩ h1'
 ·refine⟨hrel.n,hrel.lt,fun id o ho=>Nat.lt_of_lt_of_le (hrel.blk id o ho) hfr3.size,fun id o ho=>(hrel.obj id o ho).same hext3 (by rw[hrel.n];exact hrel.lt id o ho) (hsame _ (hrel.blk id o ho)),hrel.sep,hrel.fam,fun b c hb=>?_⟩
  obtain⟨h1,h2,_⟩:=hrel2.Ct b c hb
  refine⟨h1,h2,fun id o ho hown hbb=>?_⟩
  rcases hzs b c hb with h3|h3
  ·exact(hrel.Ct b c h3).2.2 id o ho hown hbb
  ·have:=hrel.blk id o ho
   have hbb':(φ.f id).b=b:=hbb
   omega
 ·exact⟨hfr3.os,hfr3.tape,hfr3.output,hfr3.size,fun k hk _=>hsame k hk,fun k hk=>.inl hk,fun b c hb=>(hzs b c hb).elim .inl fun h=>.inr (.inr h)⟩
theorem Ae (hT:TOk P T){g:FuncId}{fn:Func}{c:Code}{args:List AV}{r:AV}(m:Nat)(hf:P.funcs[g]?=some fn)(hent:Enters P g)(hb:fn.body=some c)(ha:Br 0 args)(hr:Below 0 r)
  (h:SW P none c (iD T fn (fun v st'=>Eqv (frz st'.h (fun _=>true) m v) r)) ⟨Ts.of args fn.ntmps,[]⟩ ⟨[],0⟩):Pure P g args r :=
 Xf hent ha hr (Bb hT hf hb h)
theorem Ac.pure {rd:Option Nat}{ops:Array Oper}{i:Nat}{l:List Nat}{K:Fm→St→Prop}{f:Fm}{st:St}{o:Oper}{g:FuncId} {first caps as:List AV}{r:AV}(hp:Pure P g (first++as++caps) r)(ho:ops[i]?=some o)
  (hw:wantA ops f.ts o=some true)(hc:callO (Operand.av f.ts) o=some (.fn (.func g) first caps,as))(h:Ac P rd ops l K (f.put o.dst r) st):Ac P rd ops (i::l) K f st :=
 Ac.call ho hw hc (show ApplyW P (.fn (.func g) first caps) as st _ from⟨hp.ent,(hp.call st).mono fun v st' ⟨h1,h2⟩=>by subst h1;subst h2;exact h⟩)
end Go.Fz
namespace Go.Fz
section
variable {P:Program}{b:Frame}{a:Act}{k:List Item}{cs:List Frame}{w:World}
theorem Cn {c:Code}:step P (lone (b.atR a (.code (.scope c)::k)) cs w)=.next (lone (b.atR a (.code c::.inScope c::k)) cs w) :=
 step_lone_go (by simp[stepG,stepG.exec,Frame.atR])
theorem Jq {c:Code}:step P (lone (b.atR a (.inScope c::k)) cs w)=.next (lone (b.atR a k) cs w) :=
 step_lone_go (by simp[stepG,stepG.exec,Frame.atR])
end
def cS (Q:Exit→Fm→St→Prop):Exit→Fm→St→Prop
 | .goto _,_,_=>False
 | e,f,st=>Q e f st
theorem SW.scope {P:Program}{rd:Option Nat}{c:Code}{Q:Exit→Fm→St→Prop}{f:Fm}{st:St}(h:SW P rd c (cS Q) f st):SW P rd (.scope c) Q f st:=by
 intro φ w a n h1 h2 h3 b k cs hro hb hr
 have h0:(lone (b.atR a (.code (.scope c)::k)) cs w).fenced P (FW (rdB φ rd)):=fenced_calm hb hr rfl
 obtain⟨e,a₁,w₁,hq,harr⟩:=h φ w a n h1 h2 h3 b (.inScope c::k) cs hro hb hr
 obtain⟨f',st',φ',hk,r⟩:=hq
 cases e with
 | normal=>exact⟨.normal,a₁,w₁,⟨f',st',φ',hk,r⟩,.head h0 Cn (StepsIn.trans harr (.one (fenced_calm hb hr rfl) Jq))⟩
 | exit id =>
  have hx:exitTo id (.inScope c::k)=exitTo id k:=by simp[exitTo]
  exact⟨.exit id,a₁,w₁,⟨f',st',φ',hk,r⟩,fun k' hk=>.head h0 Cn (harr.1 k' (by rw[hx];exact hk)),
   fun hr' hk=>let ⟨k₁,h1,h2⟩:=harr.2 hr' (by rw[hx];exact hk);⟨k₁,h1,.head h0 Cn h2⟩⟩
 | goto l=>exact hk.elim
 | ret=>exact⟨_,a₁,w₁,⟨f',st',φ',hk,r⟩,.of_steps (.one h0 Cn) harr⟩
 | panic ch=>exact⟨_,a₁,w₁,⟨f',st',φ',hk,r⟩,.of_steps (.one h0 Cn) harr⟩
 | outgrown=>exact⟨_,a₁,w₁,⟨f',st',φ',hk,r⟩,.of_steps (.one h0 Cn) harr⟩
end Go.Fz
namespace Go.Fz
variable {P:Program}{T:Ti}
def Kt (n:Nat):AObj→Prop
 | .cells fm _ cs=>(∀ a∈cs,Below n a)∧∀ f,fm=some f→f<n
 | .loop r=>(∀ i,Below n (r.tmps.get i))∧r.dfid<n
 | .dfr=>True
 | _=>False
structure Cw (n:Nat)(f1:Fm)(st1:St)(f2:Fm)(st2:St):Prop where
 len:f2.ts.len=f1.ts.len
 dm:f2.dm=f1.dm
 dmlt:∀ id∈f2.dm,id<st2.n
 get:∀ i,f2.ts.get i=.any∨(f2.ts.get i=f1.ts.get i∧(st2.n=st1.n∨Below st2.n (f1.ts.get i)))
 lo:n≤st2.n
 hi:st2.n≤st1.n
 obj:∀ id o,st2.h.get id=some o→st1.h.get id=some o∧id<st2.n∧(st2.n=st1.n∨Kt st2.n o)
def Jy (φ:Fi)(n:Nat):Fi:=⟨φ.f,n,φ.z⟩
theorem Cx.below {φ:Fi}{w:World}{id n:Nat}{o:AObj}(hb:Kt n o)(h:Cx φ w id o):Cx (Jy φ n) w id o:=by
 cases o with
 | cells fm ro cs =>
  exact⟨fun i a ha=>by
   obtain⟨v,h1,h2⟩:=h.1 i a ha
   exact⟨v,h1,hb.1 a (List.mem_of_getElem? ha) _ _ h2⟩,h.2⟩
 | loop r =>
  obtain⟨L,h1,h2,h3,h4,h5,h6,h7,h8,h9⟩:=h
  exact⟨L,h1,h2,h3,⟨h4.size,fun i=>hb.1 i _ _ (h4.get i)⟩,h5,h6,h7,hb.2,h9⟩
 | dfr=>exact h
 | map es clock=>exact hb.elim
 | iter a b c d=>exact hb.elim
theorem Cw.ok {n:Nat}{f1 f2:Fm}{st1 st2:St}(hw:Cw n f1 st1 f2 st2){φ:Fi}{w:World}{a:Act}(hr:Rel φ st1 w)(ha:Cz φ f1 a) :
  Rel (Jy φ st2.n) st2 w∧Cz (Jy φ st2.n) f2 a∧Fr φ st1 w (Jy φ st2.n) st2 w:=by
 have hsame:st2.n=st1.n→Jy φ st2.n=φ:=fun h=>by cases φ;simp only [Jy,h,←hr.n]
 refine⟨⟨rfl,fun id o h=>(hw.obj id o h).2.1,fun id o h=>hr.blk id o (hw.obj id o h).1,fun id o h=>?_,fun i j oi oj hi hj=>hr.sep i j oi oj (hw.obj i oi hi).1 (hw.obj j oj hj).1,fun id o f h hf=>?_,fun b c hb=>?_⟩,⟨⟨?_,fun i=>?_⟩,?_,hw.dmlt⟩,
  ⟨rfl,rfl,rfl,Nat.le_refl _,fun _ _ _=>rfl,fun k ⟨id,o,h,ho,hb⟩=>.inl ⟨id,o,(hw.obj id o h).1,ho,hb⟩,fun b c hb=>.inl hb⟩⟩
 ·obtain⟨h1,h2,h3⟩:=hw.obj id o h
  rcases h3 with h3|h3
  ·rw[hsame h3];exact hr.obj id o h1
  ·exact(hr.obj id o h1).below h3
 ·obtain⟨h1,h2,h3⟩:=hw.obj id o h
  rcases h3 with h3|h3
  ·rw[h3];exact hr.fam id o f h1 hf
  ·cases o with
   | cells fm ro cs=>exact h3.2 f hf
   | loop r=>cases hf
   | dfr=>cases hf
   | map es clock=>cases hf
   | iter a b c d=>cases hf
 ·obtain⟨h1,h2,h3⟩:=hr.Ct b c hb
  exact⟨h1,h2,fun id o h=>h3 id o (hw.obj id o h).1⟩
 ·rw[hw.len];exact ha.ts.size
 ·rcases hw.get i with h|⟨h,h2⟩
  ·rw[h];exact .any _
  ·rw[h]
   rcases h2 with h2|h2
   ·rw[hsame h2];exact ha.ts.get i
   ·exact h2 _ _ (ha.ts.get i)
 ·rw[hw.dm];exact ha.dm
theorem SW.gN {rd:Option Nat}{c:Code}{Q:Exit→Fm→St→Prop}{f:Fm}{st:St}(h:SW P rd c (fun e f1 st1=>Q e f1 st1∨∃ f2 st2,Cw st.n f1 st1 f2 st2∧Q e f2 st2) f st):SW P rd c Q f st:=by
 intro φ w a n h1 h2 h3
 refine wpIn_mono (h φ w a n h1 h2 h3) fun e a' w' hl=>?_
 obtain⟨f1,st1,φ1,hq,he,hr,ha,hf⟩:=hl
 rcases hq with hq|⟨f2,st2,hw,hq⟩
 ·exact⟨f1,st1,φ1,hq,he,hr,ha,hf⟩
 ·obtain⟨k1,k2,k3⟩:=hw.ok hr ha
  refine⟨f2,st2,Jy φ1 st2.n,hq,⟨?_,he.f,he.z⟩,k1,k2,hf.trans k3⟩
  rw[h2.n];exact hw.lo
theorem SW.pre {rd:Option Nat}{c:Code}{Q:Exit→Fm→St→Prop}{f f2:Fm}{st st2:St}(hw:Cw st.n f st f2 st2)(h:SW P rd c Q f2 st2):SW P rd c Q f st:=by
 intro φ w a n h1 h2 h3
 obtain⟨k1,k2,k3⟩:=hw.ok h2 h3
 have hn:st2.n=st.n:=Nat.le_antisymm hw.hi hw.lo
 have hsame:Jy φ st2.n=φ:=by cases φ;simp only [Jy,hn,←h2.n]
 rw[hsame] at k1 k2 k3
 exact wpIn_mono (h φ w a n h1 k1 k2) fun e a' w' hl=>hl.trans (Ext.refl _) k3
theorem SW.Gu {α:Type}{rd:Option Nat}{c:Code}{Q:Exit→Fm→St→Prop}{f:Fm}{st:St}(F:α→Fm)(S:α→St)(m:α→Nat)(Inv:α→Prop)(x0:α)(hn:∀ x,(S x).n=st.n)(h0:Inv x0)(hw:Cw st.n f st (F x0) (S x0))
  (hround:∀ x,Inv x→SW P rd c (Lz (fun f' st'=>∃ x',m x'<m x∧Inv x'∧Cw st.n f' st' (F x') (S x')) Q) (F x) (S x)):SW P rd (.loop c) Q f st:=by
 refine SW.pre hw (SW.loop (fun k f st=>∃ x,Inv x∧m x=k∧f=F x∧st=S x) (m x0) ⟨x0,h0,rfl,rfl,rfl⟩ fun k f' st' ⟨x,hx,hk,hf,hs⟩=>?_)
 subst hf;subst hs;subst hk
 refine SW.gN ((hround x hx).mono fun e f1 st1 hq=>?_)
 cases e with
 | normal =>
  obtain⟨x',h1,h2,h3⟩:=hq
  exact .inr ⟨F x',S x',by rw[hn];exact h3,m x',h1,x',h2,rfl,rfl,rfl⟩
 | _=>exact .inl hq
theorem Qs {n:Nat}{g:Nat→AV}{q:Prop}:∀ (l:List (Nat × AV)),(∀ p∈l,g p.1=p.2∧(q∨Below n p.2))→∀ i,getT l i=.any∨(getT l i=g i∧(q∨Below n (g i)))
 | [],_,i=>.inl rfl
 | (j,a)::r,h,i=>by
  simp only [getT]
  cases hb:Nat.beq j i with
  | true =>
   obtain rfl:=Nat.eq_of_beq_eq_true hb
   obtain⟨h1,h2⟩:=h (j,a) List.mem_cons_self
   simp only at h1 h2 ⊢
   right
   rw[h1];exact⟨rfl,h2⟩
  | false=>exact Qs r (fun p hp=>h p (List.mem_cons_of_mem _ hp)) i
theorem Hp.fW {p:Nat→AObj→Prop}:∀ (h:Hp),(∀ x∈h,p x.1 x.2)→∀ id o,h.get id=some o→p id o
 | [],_,id,o,h=>by simp[Hp.get] at h
 | (i,x)::r,hp,id,o,h=>hp _ (Hp.As h)
def oI (q:Prop)(n:Nat)(g:Nat→AV):List (Nat × AV)→Prop
 | []=>True
 | p::r=>(g p.1=p.2∧(q∨Below n p.2))∧oI q n g r
theorem oI.ok {q:Prop}{n:Nat}{g:Nat→AV}:∀ {l:List (Nat × AV)},oI q n g l→∀ p∈l,g p.1=p.2∧(q∨Below n p.2)
 | [],_,p,h=>by cases h
 | x::l,h,p,hp=>by
  rcases List.mem_cons.1 hp with rfl|hp
  ·exact h.1
  ·exact h.2.ok p hp
def rM (q:Prop)(n:Nat)(h1:Hp):Hp→Prop
 | []=>True
 | x::r=>(h1.get x.1=some x.2∧x.1<n∧(q∨Kt n x.2))∧rM q n h1 r
theorem rM.ok {q:Prop}{n:Nat}{h1:Hp}:∀ {h:Hp},rM q n h1 h→∀ x∈h,h1.get x.1=some x.2∧x.1<n∧(q∨Kt n x.2)
 | [],_,p,h=>by cases h
 | x::l,h,p,hp=>by
  rcases List.mem_cons.1 hp with rfl|hp
  ·exact h.1
  ·exact h.2.ok p hp
theorem Cw.by {n:Nat}{f1:Fm}{st1:St}{l:List (Nat × AV)}{len:Nat}{dm:List Nat}{h2:Hp}{n2:Nat}(e1:len=f1.ts.len)(e2:dm=f1.dm)(e3:∀ id∈dm,id<n2)(e5:n≤n2)(e6:n2≤st1.n)
  (e4:oI (n2=st1.n) n2 f1.ts.get l)(e7:rM (n2=st1.n) n2 st1.h h2):Cw n f1 st1 ⟨⟨len,getT l⟩,dm⟩ ⟨h2,n2⟩ :=
 ⟨e1,e2,e3,Qs l e4.ok,e5,e6,Hp.fW _ e7.ok⟩
def Fm.Ct (f:Fm)(h:Hp)(D:Nat→Bool)(m:Nat):Fm:=⟨⟨f.ts.len,fun i=>frz h D m (f.ts.get i)⟩,f.dm⟩
theorem Cz.Ct {φ:Fi}{st:St}{w:World}(hr:Rel φ st w){f:Fm}{a:Act}(ha:Cz φ f a)(D:Nat→Bool)(m:Nat):Cz (φ.Ct st.h D w) (f.Ct st.h D m) a :=
 ⟨⟨ha.ts.size,fun i=>Ju hr m (ha.ts.get i)⟩,ha.dm,ha.lt⟩
theorem Ac.freeze {ops:Array Oper}{rd:Option Nat}{l:List Nat}{K:Fm→St→Prop}{f:Fm}{st:St}(D:Nat→Bool)(m:Nat)(hf:freeB st.h D=true)(h:Ac P rd ops l K (f.Ct st.h D m) (st.Gd fun i=>!D i)):Ac P rd ops l K f st:=by
 intro φ w a n Q h1 h2 h3 hQ
 obtain⟨k1,k2⟩:=h2.freeze hf
 exact h (φ.Ct st.h D w) w a n Q h1 k1 (h3.Ct h2 D m) fun a' w' hl=>hQ a' w' (hl.trans (φ.Mq _ _ _) k2)
def AnyE (P:Program)(T:Ti)(ops:Array Oper)(M:List Nat)(rd:Option Nat)(K:Fm→St→Prop)(fuel:Nat)(Af:List (Nat × AV))(listed:Array Bool)(f:Fm)(st:St):Prop :=
 Ck ops listed→PL Af listed→Cc T ops Af f st.h→Cy P T ops M rd K fuel Af listed f st
variable {ops:Array Oper}
theorem SW.uM {M:List Nat}(hm:P.follows .mixedOrders=true){rd:Option Nat}{id:Nat}{Q:Exit→Fm→St→Prop}{f:Fm}{st:St}(hM:He ops M=true)
  (h:AnyE P T ops M rd (fun f' st'=>Q .normal f' st') ops.size [] (Array.replicate ops.size false) f st):SW P rd (.region id ops true) Q f st :=
 SW.drawn hm (Ky hM) (h Ha (fun p hp=>by cases hp) (fun p hp=>by cases hp))
def noLookB (ops:Array Oper)(Af:List (Nat × AV))(oi:Oper):Bool:=match oi.dst with
 | none=>true
 | some d=>Af.all fun p=>match ops[p.1]? with
  | none=>true
  | some o=>!((o.looksAt ops).contains d)
theorem Oj {Af:List (Nat × AV)}{oi:Oper}(h:noLookB ops Af oi=true):∀ p∈Af,∀ o,ops[p.1]?=some o→∀ d,oi.dst=some d→d∉o.looksAt ops:=fun p hp o ho d hd hm=>by
 unfold noLookB at h
 rw[hd] at h
 have:=List.all_eq_true.1 h p hp
 simp only [ho,Bool.not_eq_true'] at this
 rw[List.contains_iff_mem.2 hm] at this
 cases this
theorem AnyE.kK {M:List Nat}(hM:He ops M=true)(hT:TOk P T){rd:Option Nat}{K:Fm→St→Prop}(i:Nat){oi:Oper}{r:AV}{fuel:Nat}{Af:List (Nat × AV)}{listed:Array Bool}{f:Fm}{st:St}(hi:ops[i]?=some oi)
  (hb:((Region.ready .any ops listed).contains i&&noLookB ops Af oi)=true)(hl:LV T ops st.h f i r)
  (H:AnyE P T ops M rd K fuel ((i,r)::Af) (listed.setIfInBounds i true) (f.put oi.dst r) st):AnyE P T ops M rd K (fuel+1) Af listed f st:=fun hc hpl hpo=>by
 rw[Bool.and_eq_true] at hb
 have hr:=List.contains_iff_mem.1 hb.1
 have hnl:=Oj hb.2
 have hTd:=Ky hM
 refine Cy.take hTd hT hi fuel hc hpl hnl hr hl (H (hc.set hr) (fun p hp=>?_) (fun p hp=>?_))
 ·rcases List.mem_cons.1 hp with rfl|hp
  ·have:i<listed.size:=by
    obtain⟨o,h1,h2,_⟩:=Cb hr
    rcases Nat.lt_or_ge i listed.size with h|h
    ·exact h
    ·simp[Array.getD_eq_getD_getElem?,Array.getElem?_eq_none_iff.2 h] at h2
   simp[Array.getD_eq_getD_getElem?,this]
  ·exact getD_set_true (hpl p hp)
 ·rcases List.mem_cons.1 hp with rfl|hp
  ·show LV T ops st.h (f.put oi.dst r) i r
   rw[Rd (fun o ho d hd=>by rw[hi] at ho;cases ho;exact hTd.self i oi hi d hd)]
   exact hl
  ·show LV T ops st.h (f.put oi.dst r) p.1 p.2
   rw[Rd (fun o ho d hd=>hnl p hp o ho d hd)]
   exact hpo p hp
theorem AnyE.take {M:List Nat}(hM:He ops M=true)(hT:TOk P T){rd:Option Nat}{K:Fm→St→Prop}(i:Nat){oi:Oper}{r:AV}{fuel:Nat}{Af:List (Nat × AV)}{listed:Array Bool}{f:Fm}{st:St}(hi:ops[i]?=some oi)
  (hb:((Region.ready .any ops listed).contains i&&noLookB ops Af oi)=true)(hl:lightV T ops st.h f i=some r)
  (H:AnyE P T ops M rd K fuel ((i,r)::Af) (listed.setIfInBounds i true) (f.put oi.dst r) st):AnyE P T ops M rd K (fuel+1) Af listed f st :=
 AnyE.kK hM hT i hi hb (LV.of hl) H
theorem AnyE.done {M:List Nat}{rd:Option Nat}{K:Fm→St→Prop}{fuel:Nat}{Af:List (Nat × AV)}{listed:Array Bool}{f:Fm}{st:St}(hr:(Region.ready .any ops listed).isEmpty=true)(h:K f st):AnyE P T ops M rd K fuel Af listed f st:=fun _ _ hpo =>
 Cy.done hpo (List.isEmpty_iff.1 hr) h fuel
theorem AnyE.one {M:List Nat}{rd:Option Nat}{K:Fm→St→Prop}(j:Nat){o:Oper}{fuel:Nat}{Af:List (Nat × AV)}{listed:Array Bool}{f:Fm}{st:St}(hj:ops[j]?=some o)
  (hb:(match Region.ready .any ops listed with | [k]=>Nat.beq k j|_=>false)=true)(pend':List (Nat × AV))(hd:Cg M j Af=pend')
  (h:Ac P rd ops [j] (fun f' st'=>(∃ v,f'=f.put o.dst v)∧Cc T ops pend' f' st'.h∧AnyE P T ops M rd K fuel pend' (listed.setIfInBounds j true) f' st') f st):AnyE P T ops M rd K (fuel+1) Af listed f st:=fun hc hpl hpo=>by
 have hr:Region.ready .any ops listed=[j]:=by
  split at hb
  ·rename_i k hk;rw[hk,Nat.eq_of_beq_eq_true hb]
  ·cases hb
 refine Cy.all hpo hr (by simp) fun k hk=>?_
 have:k=j:=by simpa using hk
 subst this
 have hrm:k∈Region.ready .any ops listed:=by rw[hr];simp
 refine⟨o,hj,h.mono fun f' st' ⟨⟨v,hv⟩,hp,hE⟩=>⟨v,hv,?_⟩⟩
 rw[hd]
 exact hE (hc.set hrm) (fun p hp=>by
  rw[←hd] at hp
  exact getD_set_true (hpl p (List.mem_filter.1 hp).1)) hp
end Go.Fz
namespace Go.Fz
def tab (P:Program)(t:TypeId):Option TI :=
 match P.underlying t,P.info? t with
 | some d,some ti=>match ti.zero with
  | some z=>some { desc:=d,size:=ti.size,bytes:=ti.bytes,zero:=z.cells.toList,flat:=!(P.stoodInHeld t)&&!(P.eqGuardType P.depth t) }
  | none=>none
 | _,_=>none
theorem cN (P:Program):TOk P (tab P):=fun t i h=>by
 unfold tab at h
 split at h
 ·rename_i d ti hd hti
  split at h
  ·rename_i z hz
   cases h
   exact⟨hd,⟨ti,z,hti,rfl,rfl,hz,rfl⟩,fun hf=>by simpa using hf⟩
  ·cases h
 ·cases h
def To (l:List (Option TI)):Ti:=fun t=>(l[t]?).getD none
theorem Tn {P:Program}{l:List (Option TI)}{n:Nat}(h:l=(List.range n).map (tab P)):TOk P (To l):=fun t i hi=>by
 refine cN P t i ?_
 unfold To at hi
 subst h
 rw[List.getElem?_map] at hi
 cases hr:(List.range n)[t]? with
 | none=>rw[hr] at hi;cases hi
 | some x =>
  rw[hr] at hi
  have:x=t:=by
   obtain⟨hx,he⟩:=List.getElem?_eq_some_iff.1 hr
   simpa using he.symm
  subst this
  exact hi
end Go.Fz
