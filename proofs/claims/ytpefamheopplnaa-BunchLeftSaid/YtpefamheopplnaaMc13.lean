/- Own work of the verifier of watercress: EvMb, EvMc, EvMd, EvLb, EvMe, EvCe. -/
import Derived.Test.YtpefamheopplnaaMc6
import Derived.Test.YtpefamheopplnaaMc12
set_option linter.unusedVariables false
set_option linter.unusedSimpArgs false
namespace Go.Ev
open Go.Proofs
set_option maxRecDepth 100000
def iV (p:Int):AV:=.lit (.int .i64 p)
abbrev bV (b:Bool):AV:=.lit (.bool b)
abbrev nlV:AV:=.lit (.slice none 0 0)
abbrev oc (cs:List AV):AObj:=.cells none false cs
noncomputable def rfA:Code→Code
 | .seq a b=>match rfA a with
  | .skip=>rfA b
  | c=>c
 | .block _ c=>rfA c
 | .rangeFunc _ _ a _=>a
 | _=>.skip
noncomputable def rfB:Code→Code
 | .seq a b=>match rfB a with
  | .skip=>rfB b
  | c=>c
 | .block _ c=>rfB c
 | .rangeFunc _ _ _ b=>b
 | _=>.skip
structure Nx (g:FuncId)(es:List (AV × AV × Nat))(clock:Nat)(val:Nat→Int):Prop where
 old:es.all (fun x=>Nat.blt x.2.2 clock)=true
 borns:Ej es=true
 key:∀ x∈es,∃ (p q:Int)(u:Value),x.1=.agg [iV p,iV q]∧x.2.1=.lit u
 ent:Enters Try.prog g
 of:∀ x∈es,∀ st,At Try.prog g [x.1] st (fun v st'=>v=iV (val x.2.2)∧st'=st)
def sX (g:FuncId):List AV:=[.fn (.func 99) [] [.ptr 1 0],.fn (.func g) [] [],Bx,.ptr 2 0,.ptr 3 0,.ptr 4 0,Bx,.fn (.func 99) [] [.ptr 1 0],Bx,Bx,Bx,Bx,Bx,Bx,Bx,Bx,Bx,Bx,Bx,Bx,Bx,Bx,Bx,Bx]
noncomputable def Io (g:FuncId):Cs:={ state:=.ready,pending:=none,tmps:=sX g,params:=#[8],assign:=rfA (Yf Try.f59),body:=rfB (Yf Try.f59),dfid:=5}
noncomputable def hp8 (g:FuncId)(es:List (AV × AV × Nat))(clock:Nat)(seen:List Nat)(L:AV):Hp :=
 [(7,.iter 0 clock seen clock),(6,.loop (Io g)),(5,.dfr),(4,oc [L]),(3,oc [iV 0,iV 0]),(2,oc [.fn (.func g) [] []]),(1,oc [.mp 0]),(0,.map es clock)]
variable {g:FuncId}{es:List (AV × AV × Nat)}{clock:Nat}{val:Nat→Int}
theorem dA {ops:Array Oper}{p1:Nat × AV}{f:Fm}{h:Hp}(h1:lightV T ops h f p1.1=some p1.2):Cc T ops [p1] f h:=fun p hp=>by
 obtain rfl:p=p1:=by simpa using hp
 exact h1
theorem wM {ops:Array Oper}{p1 p2 p3:Nat × AV}{f:Fm}{h:Hp}(h1:lightV T ops h f p1.1=some p1.2)(h2:lightV T ops h f p2.1=some p2.2)(h3:lightV T ops h f p3.1=some p3.2):Cc T ops [p1,p2,p3] f h:=fun p hp=>by
 have:p=p1∨p=p2∨p=p3:=by simpa using hp
 rcases this with rfl|rfl|rfl
 ·exact h1
 ·exact h2
 ·exact h3
theorem xT (H:Nx g es clock val)(seen:List Nat)(x:AV × AV × Nat)(hx:x∈es)(p q:Int)(hk:x.1=.agg [iV p,iV q]) :
  Bj Try.prog 6 [.agg [iV p,iV q]] ⟨(8,oc [iV p,iV q])::hp8 g es clock seen nlV,9⟩
   (fun v st=>v=bV true∧st=⟨(11,oc [iV (val x.2.2)])::(10,oc [iV (val x.2.2)])::(9,oc [iV p,iV q])::(8,oc [iV p,iV q])::hp8 g es clock seen (.sl 11 0 1 1 false),12⟩):=by
 refine Bj.Fg (r:=Io g) (by kernel_rfl) (by rfl) ?_
 refine SW.region ?_
 refine Ac.fresh tok (r:=.ptr 9 0) (cs:=[iV 0,iV 0]) (by rfl) (by rfl) (by kernel_rfl) ?_
 refine Ac.store tok (st':=⟨(9,oc [iV p,iV q])::(8,oc [iV p,iV q])::hp8 g es clock seen nlV,10⟩) (by rfl) (by rfl) (by kernel_rfl) ?_
 refine Ac.nil ?_
 refine⟨Io g,by kernel_rfl,rfl,?_⟩
 refine SW.block ?_
 refine SW.dV (T:=T) mixed (by kernel_rfl) ?_
 refine Fc.Db (by kernel_rfl) tok 0 (r:=nlV) (by rfl) (by kernel_rfl) (by rfl) (by kernel_rfl) ?_
 refine Fc.Db (by kernel_rfl) tok 1 (r:=.fn (.func g) [] []) (by rfl) (by kernel_rfl) (by rfl) (by kernel_rfl) ?_
 refine Fc.Db (by kernel_rfl) tok 2 (r:=.agg [iV p,iV q]) (by rfl) (by kernel_rfl) (by rfl) (by kernel_rfl) ?_
 refine Fc.one 3 [(0,nlV)] (by rfl) (by kernel_rfl) (wM (by kernel_rfl) (by kernel_rfl) (by kernel_rfl)) (by kernel_rfl) ?_
 refine Ac.call (c:=.fn (.func g) [] []) (args:=[.agg [iV p,iV q]]) (by rfl) (by kernel_rfl) (by kernel_rfl) ⟨H.ent,?_⟩
 have hcall:=H.of x hx
 rw[hk] at hcall
 refine(hcall _).mono fun v st' hv=>?_
 obtain⟨rfl,rfl⟩:=hv
 refine Ac.nil ⟨_,rfl,?_⟩
 refine Fc.one 4 [(0,nlV)] (by rfl) (by kernel_rfl) (dA (by kernel_rfl)) (by kernel_rfl) ?_
 refine Ac.fresh tok (r:=.sl 10 0 1 1 true) (cs:=[iV (val x.2.2)]) (by rfl) (by kernel_rfl) (by kernel_rfl) ?_
 refine Ac.nil ⟨_,rfl,?_⟩
 refine Fc.one 5 [] (by rfl) (by kernel_rfl) (dA (by kernel_rfl)) (by kernel_rfl) ?_
 refine Ac.append tok (r:=.sl 11 0 1 1 false) (st':=⟨(11,oc [iV (val x.2.2)])::(10,oc [iV (val x.2.2)])::(9,oc [iV p,iV q])::(8,oc [iV p,iV q])::(Bl ⟨hp8 g es clock seen nlV,12⟩ 6 { Io g with state:=.busy}).h,12⟩) (by rfl) (by kernel_rfl) (by kernel_rfl) ?_
 refine Ac.nil ⟨_,rfl,?_⟩
 refine Fc.one 6 [] (by rfl) (by kernel_rfl) (fun p hp=>by cases hp) (by kernel_rfl) ?_
 refine Ac.store tok (st':=⟨(11,oc [iV (val x.2.2)])::(10,oc [iV (val x.2.2)])::(9,oc [iV p,iV q])::(8,oc [iV p,iV q])::(Bl ⟨hp8 g es clock seen (.sl 11 0 1 1 false),12⟩ 6 { Io g with state:=.busy}).h,12⟩) (by rfl) (by kernel_rfl) (by kernel_rfl) ?_
 refine Ac.nil ⟨_,rfl,?_⟩
 refine Fc.done (by kernel_rfl) (fun p hp=>by cases hp) ?_
 refine⟨{ Io g with state:=.busy},by kernel_rfl,rfl,by kernel_rfl⟩
theorem zY {st:St}{fm:Option Nat}{vs:List AV}{v:AV}{id j:Nat}(h8:st.h.get id=some (.cells fm false vs))(h12:st.h.get j=some (oc [v]))(hv:v.one=true)(hl:vs.length<1000000) :
  appendA T st 56 56 (.sl id 0 vs.length 1 false) (.sl j 0 1 1 true)=some (.sl st.n 0 (vs.length+1) 1 false,St.push ⟨truncH (fm.getD id) (vs.length*1) id st.h,st.n⟩ (.cells (some (fm.getD id)) false (vs++[v]))):=by
 obtain⟨i,hi,hd⟩:∃ i,T 56=some i∧i.desc=.slice 3:=⟨_,rfl,rfl⟩
 obtain⟨k,hk,h1,h2,h3⟩:∃ k,T 3=some k∧k.size=1∧k.bytes=8∧k.zero.length=1:=⟨_,rfl,rfl,rfl,rfl⟩
 have c8:cellsAt st.h id=some vs:=by unfold cellsAt;rw[h8]
 have c12:cellsAt st.h j=some [v]:=by unfold cellsAt;rw[h12]
 unfold appendA
 simp only [hi,hd,hk,slCells,c8,c12,slLen,h1,h2,h3,h8]
 rw[if_pos (by simp),if_pos (by simp)]
 simp[hv]
 omega
theorem xS (H:Nx g es clock val)(seen:List Nat)(vs:List AV)(hl:vs.length<1000000)(x:AV × AV × Nat)(hx:x∈es)(p q:Int)(hk:x.1=.agg [iV p,iV q]) :
  Bj Try.prog 6 [.agg [iV p,iV q]] ⟨(10,oc [iV p,iV q])::(8,oc vs)::hp8 g es clock seen (.sl 8 0 vs.length 1 false),11⟩
   (fun v st=>v=bV true∧st=⟨(13,.cells (some 8) false (vs++[iV (val x.2.2)]))::(12,oc [iV (val x.2.2)])::(11,oc [iV p,iV q])::(10,oc [iV p,iV q])::(8,.cells (some 8) false (vs.take (vs.length*1)))::hp8 g es clock seen (.sl 13 0 (vs.length+1) 1 false),14⟩):=by
 refine Bj.Fg (r:=Io g) (by kernel_rfl) (by rfl) ?_
 refine SW.region ?_
 refine Ac.fresh tok (r:=.ptr 11 0) (cs:=[iV 0,iV 0]) (by rfl) (by rfl) (by kernel_rfl) ?_
 refine Ac.store tok (st':=⟨(11,oc [iV p,iV q])::(10,oc [iV p,iV q])::(8,oc vs)::hp8 g es clock seen (.sl 8 0 vs.length 1 false),12⟩) (by rfl) (by rfl) (by kernel_rfl) ?_
 refine Ac.nil ?_
 refine⟨Io g,by kernel_rfl,rfl,?_⟩
 refine SW.block ?_
 refine SW.dV (T:=T) mixed (by kernel_rfl) ?_
 refine Fc.Db (by kernel_rfl) tok 0 (r:=.sl 8 0 vs.length 1 false) (by rfl) (by kernel_rfl) (by rfl) (by kernel_rfl) ?_
 refine Fc.Db (by kernel_rfl) tok 1 (r:=.fn (.func g) [] []) (by rfl) (by kernel_rfl) (by rfl) (by kernel_rfl) ?_
 refine Fc.Db (by kernel_rfl) tok 2 (r:=.agg [iV p,iV q]) (by rfl) (by kernel_rfl) (by rfl) (by kernel_rfl) ?_
 refine Fc.one 3 [(0,.sl 8 0 vs.length 1 false)] (by rfl) (by kernel_rfl) (wM (by kernel_rfl) (by kernel_rfl) (by kernel_rfl)) (by kernel_rfl) ?_
 refine Ac.call (c:=.fn (.func g) [] []) (args:=[.agg [iV p,iV q]]) (by rfl) (by kernel_rfl) (by kernel_rfl) ⟨H.ent,?_⟩
 have hcall:=H.of x hx
 rw[hk] at hcall
 refine(hcall _).mono fun v st' hv=>?_
 obtain⟨rfl,rfl⟩:=hv
 refine Ac.nil ⟨_,rfl,?_⟩
 refine Fc.one 4 [(0,.sl 8 0 vs.length 1 false)] (by rfl) (by kernel_rfl) (dA (by kernel_rfl)) (by kernel_rfl) ?_
 refine Ac.fresh tok (r:=.sl 12 0 1 1 true) (cs:=[iV (val x.2.2)]) (by rfl) (by kernel_rfl) (by kernel_rfl) ?_
 refine Ac.nil ⟨_,rfl,?_⟩
 refine Fc.one 5 [] (by rfl) (by kernel_rfl) (dA (by kernel_rfl)) (by kernel_rfl) ?_
 have happ:=zY (st:=⟨(12,oc [iV (val x.2.2)])::(11,oc [iV p,iV q])::(10,oc [iV p,iV q])::(8,oc vs)::(Bl ⟨hp8 g es clock seen (.sl 8 0 vs.length 1 false),13⟩ 6 { Io g with state:=.busy}).h,13⟩) (fm:=none) (vs:=vs) (v:=iV (val x.2.2)) (id:=8) (j:=12) (by kernel_rfl) (by kernel_rfl) (by rfl) hl
 refine Ac.append tok (r:=.sl 13 0 (vs.length+1) 1 false) (st':=⟨(13,.cells (some 8) false (vs++[iV (val x.2.2)]))::(12,oc [iV (val x.2.2)])::(11,oc [iV p,iV q])::(10,oc [iV p,iV q])::(8,.cells (some 8) false (vs.take (vs.length*1)))::(Bl ⟨hp8 g es clock seen (.sl 8 0 vs.length 1 false),13⟩ 6 { Io g with state:=.busy}).h,14⟩) (by rfl) (by kernel_rfl) ?_ ?_
 ·refine Eq.trans ?_ (happ.trans ?_)
  ·kernel_rfl
  ·kernel_rfl
 refine Ac.nil ⟨_,rfl,?_⟩
 refine Fc.one 6 [] (by rfl) (by kernel_rfl) (fun p hp=>by cases hp) (by kernel_rfl) ?_
 refine Ac.store tok (st':=⟨(13,.cells (some 8) false (vs++[iV (val x.2.2)]))::(12,oc [iV (val x.2.2)])::(11,oc [iV p,iV q])::(10,oc [iV p,iV q])::(8,.cells (some 8) false (vs.take (vs.length*1)))::(Bl ⟨hp8 g es clock seen (.sl 13 0 (vs.length+1) 1 false),13⟩ 6 { Io g with state:=.busy}).h,14⟩) (by rfl) (by kernel_rfl) (by kernel_rfl) ?_
 refine Ac.nil ⟨_,rfl,?_⟩
 refine Fc.done (by kernel_rfl) (fun p hp=>by cases hp) ?_
 refine⟨{ Io g with state:=.busy},by kernel_rfl,rfl,by kernel_rfl⟩
def xD:List AV:=[.yld 6,.ptr 1 0,Bx,Bx,.mp 0,.ptr 7 0,Bx,Bx,Bx,Bx,Bx,Bx,Bx,Bx]
def bA (p q:Int)(u:Value):List AV:=[.yld 6,.ptr 1 0,Bx,.ptr 9 0,.mp 0,.ptr 7 0,.tup [bV true,.agg [iV p,iV q],.lit u],bV true,.tup [.agg [iV p,iV q],.lit u],.agg [iV p,iV q],.yld 6,.agg [iV p,iV q],bV true,bV false]
noncomputable def stN (g:FuncId)(es:List (AV × AV × Nat))(clock:Nat)(seen:List Nat)(vs:List AV):St:=match vs with
 | []=>⟨hp8 g es clock seen nlV,8⟩
 | _::_=>⟨(8,oc vs)::hp8 g es clock seen (.sl 8 0 vs.length 1 false),10⟩
noncomputable def left (es:List (AV × AV × Nat))(seen:List Nat):List (AV × AV × Nat):=es.filter fun x=>!(seen.contains x.2.2)
theorem Ms {α:Type}{p q:α→Bool}{x:α}(hp:p x=true)(hq:q x=false)(hi:∀ y,q y=true→p y=true):∀ {l:List α},x∈l→(l.filter q).length<(l.filter p).length
 | y::l,h=>by
  have hle:∀ l:List α,(l.filter q).length≤(l.filter p).length:=fun l=>by
   induction l with
   | nil=>simp
   | cons z l ih =>
    simp only [List.filter_cons]
    by_cases hz:q z=true
    ·rw[if_pos hz,if_pos (hi z hz)];simpa using ih
    ·rw[if_neg hz];split
     ·simp only [List.length_cons];omega
     ·exact ih
  rcases List.mem_cons.1 h with rfl|h
  ·simp only [List.filter_cons,hp,hq]
   have:=hle l
   simp only [if_true,List.length_cons,Bool.false_eq_true,if_false];omega
  ·have ih:=Ms hp hq hi h
   simp only [List.filter_cons]
   by_cases hz:q y=true
   ·rw[if_pos hz,if_pos (hi y hz)];simpa using ih
   ·rw[if_neg hz];split
    ·simp only [List.length_cons];omega
    ·exact ih
def Seen (es:List (AV × AV × Nat))(seen:List Nat):Prop:=seen.Nodup∧∀ b∈seen,∃ x∈es,x.2.2=b
theorem Tt:∀ {l m:List Nat},l.Nodup→(∀ b∈l,b∈m)→l.length≤m.length
 | [],_,_,_=>Nat.zero_le _
 | b::l,m,hn,hs=>by
  have hb:=hs b List.mem_cons_self
  have h1:=Tt (l:=l) (m:=m.erase b) (List.nodup_cons.1 hn).2 (fun c hc=>by
   have hne:c≠b:=fun e=>by subst e;exact(List.nodup_cons.1 hn).1 hc
   exact(List.mem_erase_of_ne hne).2 (hs c (List.mem_cons_of_mem _ hc)))
  rw[List.length_erase_of_mem hb] at h1
  have h2:0<m.length:=List.length_pos_of_mem hb
  simp only [List.length_cons];omega
theorem eS {es:List (AV × AV × Nat)}{seen:List Nat}(h:Seen es seen):seen.length≤es.length:=by
 have h1:=Tt (m:=es.map fun x=>x.2.2) h.1 (fun b hb=>List.mem_map.2 (h.2 b hb))
 simpa using h1
theorem get_mem {j:Nat}{o:AObj}:∀ {h:Hp},h.get j=some o→(j,o)∈h
 | (i,x)::r,h=>by
  simp only [Hp.get] at h
  split at h
  ·rename_i hij;cases h;subst hij;exact List.mem_cons_self
  ·exact List.mem_cons_of_mem _ (get_mem h)
theorem oD {h:Hp}{id g:Nat}(ha:(h.all fun x=>Nat.beq x.1 id||x.2.fam.isNone)=true):∀ j o,h.get j=some o→j≠id→o.fam≠some g:=fun j o hj hne hf=>by
 have h1:=List.all_eq_true.1 ha _ (get_mem hj)
 simp only [hf,Option.isNone_some,Bool.or_false] at h1
 exact hne (Nat.eq_of_beq_eq_true h1)
theorem Rg {ρ:Nat→Option Nat}{h:Hp}{k i:Nat}{l:List Nat}{o o':AObj}{r:Hp}(h1:h.get i=some o)(h2:renO ρ o=some o')(h3:Gq ρ h (k+1) l=some r):Gq ρ h k (i::l)=some ((k,o')::r):=by
 simp only [Gq,h1,h2,h3]
noncomputable def xB (g:FuncId)(es:List (AV × AV × Nat))(clock:Nat)(val:Nat→Int)(k:Nat)(f:Fm)(st:St):Prop :=
 ∃ seen,Seen es seen∧k=(left es seen).length∧st=stN g es clock seen (seen.map fun b=>iV (val b))∧(match seen with
  | []=>f=⟨xD,[]⟩
  | _::_=>∃ p q u,f=⟨bA p q u,[]⟩)
theorem bW {es:List (AV × AV × Nat)}(h:Ej es=true){x:AV × AV × Nat}(hx:x∈es):es.filter (fun y=>Nat.beq y.2.2 x.2.2)=[x]:=by
 unfold Ej at h
 have hn:=of_decide_eq_true h
 clear h
 induction es with
 | nil=>cases hx
 | cons y l ih =>
  simp only [List.map_cons,List.nodup_cons] at hn
  rcases List.mem_cons.1 hx with rfl|hx'
  ·have h0:l.filter (fun z=>Nat.beq z.2.2 x.2.2)=[]:=by
    rw[List.filter_eq_nil_iff]
    intro z hz hb
    exact hn.1 (List.mem_map.2 ⟨z,hz,Nat.eq_of_beq_eq_true hb⟩)
   simp[h0]
  ·have hne:Nat.beq y.2.2 x.2.2=false:=by
    cases hb:Nat.beq y.2.2 x.2.2 with
    | false=>rfl
    | true=>exact absurd (List.mem_map.2 ⟨x,hx',(Nat.eq_of_beq_eq_true hb).symm⟩) hn.1
   rw[List.filter_cons,hne]
   exact ih hx' hn.2
theorem ge2 {a b n:Nat}(ha:n≤a)(hb:n≤b):∀ i∈[a,b],n≤i:=fun i hi=>by
 have:i=a∨i=b:=by simpa using hi
 rcases this with rfl|rfl
 ·exact ha
 ·exact hb
theorem El {ρ:Nat→Option Nat}{n0 i:Nat}{o o':AObj}{r r':Hp}(h1:Nat.blt i n0=true)(h2:renO ρ o=some o')(h3:renOld ρ n0 r=some r'):renOld ρ n0 ((i,o)::r)=some ((i,o')::r'):=by
 simp only [renOld,h1,h2,h3]
theorem Em {ρ:Nat→Option Nat}{n0 i:Nat}{o:AObj}{r r':Hp}(h1:Nat.blt i n0=false)(h3:renOld ρ n0 r=some r'):renOld ρ n0 ((i,o)::r)=some r':=by
 simp only [renOld,h1,h3]
theorem Ld {ρ:Nat→Option Nat}:∀ {es:List (AV × AV × Nat)},(∀ x∈es,∃ (p q:Int)(u:Value),x.1=.agg [iV p,iV q]∧x.2.1=.lit u)→renEs ρ es=some es
 | [],_=>rfl
 | x::r,h=>by
  obtain⟨p,q,u,h1,h2⟩:=h x List.mem_cons_self
  have h3:=Ld (ρ:=ρ) (es:=r) fun y hy=>h y (List.mem_cons_of_mem _ hy)
  obtain⟨a,b,c⟩:=x
  simp only at h1 h2
  subst h1;subst h2
  simp only [renEs,h3,renV,renL,iV]
theorem Vy {ρ:Nat→Option Nat}{f:Nat→Int}:∀ (l:List Nat),renL ρ (l.map fun b=>iV (f b))=some (l.map fun b=>iV (f b))
 | []=>rfl
 | b::l=>by
  have h:=Vy (ρ:=ρ) (f:=f) l
  simp only [List.map_cons,renL,h,iV,renV] at h ⊢
theorem wJ (H:Nx g es clock val)(ord seen:List Nat){L L':AV}(hL:renV (rho 8 ord) L=some L'):renOld (rho 8 ord) 8 (hp8 g es clock seen L)=some (hp8 g es clock seen L'):=by
 have hmap:renO (rho 8 ord) (.map es clock)=some (.map es clock):=by simp only [renO,Ld H.key]
 refine El (by rfl) (by kernel_rfl) ?_
 refine El (by rfl) (by kernel_rfl) ?_
 refine El (by rfl) (by kernel_rfl) ?_
 refine El (by rfl) (by simp only [renO,renL,hL]) ?_
 refine El (by rfl) (by kernel_rfl) ?_
 refine El (by rfl) (by kernel_rfl) ?_
 refine El (by rfl) (by kernel_rfl) ?_
 exact El (by rfl) hmap rfl
theorem sQ (H:Nx g es clock val)(hlen:es.length<1000000){K:AV→St→Prop}(hK:∀ seen,Seen es seen→left es seen=[]→K (.tup []) (stN g es clock seen (seen.map fun b=>iV (val b)))) :
  At Try.prog 99 [.yld 6,.ptr 1 0] ⟨[(6,.loop (Io g)),(5,.dfr),(4,oc [nlV]),(3,oc [iV 0,iV 0]),(2,oc [.fn (.func g) [] []]),(1,oc [.mp 0]),(0,.map es clock)],7⟩ K:=by
 refine Bb tok Try.func99 (by rfl) ?_
 refine SW.seq (SW.region ?_)
 refine Ac.Db tok (r:=.mp 0) (by rfl) (by rfl) (by kernel_rfl) ?_
 refine(rV _ _ 1 _ _ _ [(.ptr 7 0,⟨hp8 g es clock [] nlV,8⟩)] (by rfl) (by rfl) (by kernel_rfl)).mono fun f' st' hv=>?_
 obtain⟨v,rfl,hv⟩:=hv
 obtain⟨rfl,rfl⟩:v=.ptr 7 0∧st'=⟨hp8 g es clock [] nlV,8⟩:=by simpa using hv
 refine SW.block ?_
 refine SW.wX (xB g es clock val) (left es []).length ⟨[],⟨List.nodup_nil,fun b hb=>by cases hb⟩,rfl,rfl,by show(_:Fm)=_;kernel_rfl⟩ ?_
 intro k f1 st1 hI
 obtain⟨seen,hs,rfl,rfl,hf⟩:=hI
 have hc:(es.all (fun x=>Nat.blt x.2.2 clock)&&Nat.ble clock clock)=true:=by simp[H.old]
 cases seen with
 | nil =>
  subst hf
  refine SW.seq (SW.region ?_)
  refine Ac.cons (i:=0) (l:=[1]) (by rfl) (fun c hc=>by cases hc) ?_
  refine Ac.next (it:=.tmp 5) (rid:=7) (mid:=0) (since:=clock) (last:=clock) (id:=0) (clock:=clock) (seen:=[]) (es:=es) (by rfl) (by rfl) (by rfl) (by kernel_rfl) (by kernel_rfl) hc (fun hend=>?_) (fun x hx hns=>?_)
  ·refine Ac.Db tok (r:=bV false) (by rfl) (by rfl) (by kernel_rfl) ?_
   refine Ac.nil ?_
   refine SW.seq (SW.cond (t:=false) (by kernel_rfl) ?_)
   refine SW.exit ?_
   exact⟨_,_,rfl,by rfl,hK [] hs hend⟩
  ·obtain⟨p,q,u,hk,hu⟩:=H.key x hx
   refine Ac.Db tok (r:=bV true) (by rfl) (by rfl) (by kernel_rfl) ?_
   refine Ac.nil ?_
   refine SW.seq (SW.cond (t:=true) (by kernel_rfl) (SW.skip ?_))
   refine SW.block ?_
   refine SW.seq (SW.region ?_)
   refine Ac.entry (it:=.tmp 5) (rid:=7) (mid:=0) (since:=clock) (last:=clock) (id:=0) (clock:=clock) (seen:=[x.2.2]) (es:=es) (s:=x.2.2) (x:=x) (by rfl) (by rfl) (by rfl) (by kernel_rfl) (by kernel_rfl) (by rfl) (by simp[H.borns]) (bW H.borns hx) ?_
   rw[hk,hu]
   refine Ac.Db tok (r:=.agg [iV p,iV q]) (by rfl) (by rfl) (by kernel_rfl) ?_
   refine Ac.fresh tok (r:=.ptr 8 0) (cs:=[iV 0,iV 0]) (by rfl) (by rfl) (by kernel_rfl) ?_
   refine Ac.store tok (st':=⟨(8,oc [iV p,iV q])::hp8 g es clock [x.2.2] nlV,9⟩) (by rfl) (by rfl) (by kernel_rfl) ?_
   refine Ac.nil ?_
   refine SW.seq (SW.region ?_)
   refine Ac.Db tok (r:=.yld 6) (by rfl) (by rfl) (by kernel_rfl) ?_
   refine Ac.Db tok (r:=.agg [iV p,iV q]) (by rfl) (by rfl) (by kernel_rfl) ?_
   refine Ac.call (c:=.yld 6) (args:=[.agg [iV p,iV q]]) (by rfl) (by rfl) (by kernel_rfl) ?_
   refine(xT H [x.2.2] x hx p q hk).mono fun v st' hv=>?_
   obtain⟨rfl,rfl⟩:=hv
   refine Ac.Db tok (r:=bV false) (by rfl) (by rfl) (by kernel_rfl) ?_
   refine Ac.nil ?_
   refine SW.cond (t:=false) (by kernel_rfl) (SW.skip ?_)
   refine⟨_,Ms (x:=x) (p:=fun y=>!(([]:List Nat).contains y.2.2)) (q:=fun y=>!([x.2.2].contains y.2.2)) (by simp) (by simp) (fun y _=>by simp) hx,⟨bA p q u,[]⟩,stN g es clock [x.2.2] [iV (val x.2.2)],?_,[x.2.2],⟨by simp,fun b hb=>⟨x,hx,by simpa[eq_comm] using hb⟩⟩,rfl,rfl,p,q,u,rfl⟩
   refine Ren.trans (Ren.names (ord:=[11,8]) (by decide) (ge2 (by show 8≤11;omega) (by show 8≤8;omega)) (fun d hd=>by cases hd) (ts':=bA p q u) (by kernel_rfl) (Em (by rfl) (Em (by rfl) (Em (by rfl) (Em (by rfl) (wJ H [11,8] [x.2.2] (L':=.sl 8 0 1 1 false) (by kernel_rfl)))))) (b:=[(8,oc [iV (val x.2.2)]),(9,oc [iV p,iV q])]) (by kernel_rfl)) ?_
   exact Ren.Gd (by show 8≤10;omega) (fun i=>!(Nat.beq i 9))
 | cons s0 seen =>
  obtain⟨p0,q0,u0,rfl⟩:=hf
  obtain⟨sn,hsn⟩:∃ sn,sn=s0::seen:=⟨_,rfl⟩
  obtain⟨vs,hvs⟩:∃ vs,vs=sn.map fun b=>iV (val b):=⟨_,rfl⟩
  rw[←hsn] at hs ⊢
  have hst:∀ sn' L,(⟨(8,oc vs)::hp8 g es clock sn' (.sl 8 0 vs.length 1 false),10⟩:St)=L→stN g es clock sn' vs=L:=fun sn' L h=>by
   rw[←h,hvs,hsn];rfl
  have hvl:vs.length<1000000:=by
   rw[hvs,List.length_map]
   exact Nat.lt_of_le_of_lt (eS hs) hlen
  rw[←hvs]
  rw[hst sn _ rfl]
  refine SW.seq (SW.region ?_)
  refine Ac.cons (i:=0) (l:=[1]) (by rfl) (fun c hc=>by cases hc) ?_
  refine Ac.next (it:=.tmp 5) (rid:=7) (mid:=0) (since:=clock) (last:=clock) (id:=0) (clock:=clock) (seen:=sn) (es:=es) (by rfl) (by rfl) (by rfl) (by kernel_rfl) (by kernel_rfl) hc (fun hend=>?_) (fun x hx hns=>?_)
  ·refine Ac.Db tok (r:=bV false) (by rfl) (by rfl) (by kernel_rfl) ?_
   refine Ac.nil ?_
   refine SW.seq (SW.cond (t:=false) (by kernel_rfl) ?_)
   refine SW.exit ?_
   refine⟨_,_,rfl,by rfl,?_⟩
   have:=hK sn hs hend
   rw[←hvs,hst sn _ rfl] at this
   exact this
  ·obtain⟨p,q,u,hk,hu⟩:=H.key x hx
   refine Ac.Db tok (r:=bV true) (by rfl) (by rfl) (by kernel_rfl) ?_
   refine Ac.nil ?_
   refine SW.seq (SW.cond (t:=true) (by kernel_rfl) (SW.skip ?_))
   refine SW.block ?_
   refine SW.seq (SW.region ?_)
   refine Ac.entry (it:=.tmp 5) (rid:=7) (mid:=0) (since:=clock) (last:=clock) (id:=0) (clock:=clock) (seen:=sn++[x.2.2]) (es:=es) (s:=x.2.2) (x:=x) (by rfl) (by rfl) (by rfl) (by kernel_rfl) (by kernel_rfl) (by simp) (by simp[H.borns]) (bW H.borns hx) ?_
   rw[hk,hu]
   refine Ac.Db tok (r:=.agg [iV p,iV q]) (by rfl) (by rfl) (by kernel_rfl) ?_
   refine Ac.fresh tok (r:=.ptr 10 0) (cs:=[iV 0,iV 0]) (by rfl) (by rfl) (by kernel_rfl) ?_
   refine Ac.store tok (st':=⟨(10,oc [iV p,iV q])::(8,oc vs)::hp8 g es clock (sn++[x.2.2]) (.sl 8 0 vs.length 1 false),11⟩) (by rfl) (by rfl) (by kernel_rfl) ?_
   refine Ac.nil ?_
   refine SW.seq (SW.region ?_)
   refine Ac.Db tok (r:=.yld 6) (by rfl) (by rfl) (by kernel_rfl) ?_
   refine Ac.Db tok (r:=.agg [iV p,iV q]) (by rfl) (by rfl) (by kernel_rfl) ?_
   refine Ac.call (c:=.yld 6) (args:=[.agg [iV p,iV q]]) (by rfl) (by rfl) (by kernel_rfl) ?_
   refine(xS H (sn++[x.2.2]) vs hvl x hx p q hk).mono fun v st' hv=>?_
   obtain⟨rfl,rfl⟩:=hv
   refine Ac.Db tok (r:=bV false) (by rfl) (by rfl) (by kernel_rfl) ?_
   refine Ac.nil ?_
   refine SW.cond (t:=false) (by kernel_rfl) (SW.skip ?_)
   have hvs':vs++[iV (val x.2.2)]=(sn++[x.2.2]).map fun b=>iV (val b):=by rw[hvs];simp
   have hns':x.2.2∉sn:=fun hm=>by rw[List.contains_iff_mem.2 hm] at hns;cases hns
   refine⟨_,Ms (x:=x) (p:=fun y=>!(sn.contains y.2.2)) (q:=fun y=>!((sn++[x.2.2]).contains y.2.2)) (by simpa using hns') (by simp) (fun y hy=>by simp at hy ⊢;exact hy.1) hx,⟨bA p q u,[]⟩,stN g es clock (sn++[x.2.2]) (vs++[iV (val x.2.2)]),?_,sn++[x.2.2],?_,rfl,by rw[hvs'],?_⟩
   ·have hfin:stN g es clock (sn++[x.2.2]) (vs++[iV (val x.2.2)])=⟨(8,oc (vs++[iV (val x.2.2)]))::hp8 g es clock (sn++[x.2.2]) (.sl 8 0 (vs.length+1) 1 false),10⟩:=by
     rw[show vs.length+1=(vs++[iV (val x.2.2)]).length by simp]
     rw[hvs,hsn];rfl
    rw[hfin]
    have hren:renL (rho 8 [13,10]) (vs++[iV (val x.2.2)])=some (vs++[iV (val x.2.2)]):=by rw[hvs'];exact Vy _
    refine Ren.trans (Ren.Gd (by show 8≤14;omega) (fun i=>!(Nat.beq i 8))) ?_
    refine Ren.trans (Ren.alone (id:=13) (g:=8) (ro:=false) (cs:=vs++[iV (val x.2.2)]) (by show 8≤14;omega) (by kernel_rfl) ?_) ?_
    ·exact oD (by kernel_rfl)
    refine Ren.trans (Ren.names (ord:=[13,10]) (by decide) (ge2 (by show 8≤13;omega) (by show 8≤10;omega)) (fun d hd=>by cases hd) (ts':=bA p q u) (by kernel_rfl) (Em (by rfl) (Em (by rfl) (Em (by rfl) (Em (by rfl) (wJ H [13,10] (sn++[x.2.2]) (L':=.sl 8 0 (vs.length+1) 1 false) (by kernel_rfl)))))) (b:=[(8,oc (vs++[iV (val x.2.2)])),(9,oc [iV p,iV q])]) ?_) ?_
    ·exact Rg (o:=oc (vs++[iV (val x.2.2)])) (by kernel_rfl) (by simp only [renO,hren]) (Rg (o:=oc [iV p,iV q]) (by kernel_rfl) (by kernel_rfl) (by kernel_rfl))
    exact Ren.Gd (by show 8≤10;omega) (fun i=>!(Nat.beq i 9))
   ·refine⟨List.nodup_append.2 ⟨hs.1,by simp,fun a ha b hb=>?_⟩,fun b hb=>?_⟩
    ·obtain rfl:b=x.2.2:=by simpa using hb
     rintro rfl;exact hns' ha
    ·rcases List.mem_append.1 hb with hb|hb
     ·exact hs.2 b hb
     ·exact⟨x,hx,by simpa[eq_comm] using hb⟩
   ·rw[hsn];exact⟨p,q,u,rfl⟩
end Go.Ev
namespace Go.Ev
open Go.Proofs
set_option maxRecDepth 100000
def Po (a b:Int):Int:=if b<a then b else a
def Pp (a b:Int):Int:=if b>a then b else a
def lL:List Int→Int
 | []=>0
 | a::l=>l.foldl Po a
def aW:List Int→Int
 | []=>0
 | a::l=>l.foldl Pp a
theorem fX:∀ (l:List Int)(a:Int),(l.foldl Po a=a∨l.foldl Po a∈l)∧l.foldl Po a≤a∧∀ b∈l,l.foldl Po a≤b
 | [],a=>⟨.inl rfl,Int.le_refl _,fun b hb=>by cases hb⟩
 | c::l,a=>by
  obtain⟨h1,h2,h3⟩:=fX l (Po a c)
  have hm:(Po a c=a∨Po a c=c)∧Po a c≤a∧Po a c≤c:=by unfold Po;split<;>refine⟨by simp,?_,?_⟩<;>omega
  simp only [List.foldl_cons]
  refine⟨?_,by omega,fun b hb=>?_⟩
  ·rcases h1 with h1|h1
   ·rcases hm.1 with h|h
    ·left;rw[h1];exact h
    ·right;rw[h1,h];exact List.mem_cons_self
   ·right;exact List.mem_cons_of_mem _ h1
  ·rcases List.mem_cons.1 hb with rfl|hb
   ·omega
   ·exact h3 b hb
theorem fY:∀ (l:List Int)(a:Int),(l.foldl Pp a=a∨l.foldl Pp a∈l)∧a≤l.foldl Pp a∧∀ b∈l,b≤l.foldl Pp a
 | [],a=>⟨.inl rfl,Int.le_refl _,fun b hb=>by cases hb⟩
 | c::l,a=>by
  obtain⟨h1,h2,h3⟩:=fY l (Pp a c)
  have hm:(Pp a c=a∨Pp a c=c)∧a≤Pp a c∧c≤Pp a c:=by unfold Pp;split<;>refine⟨by simp,?_,?_⟩<;>omega
  simp only [List.foldl_cons]
  refine⟨?_,by omega,fun b hb=>?_⟩
  ·rcases h1 with h1|h1
   ·rcases hm.1 with h|h
    ·left;rw[h1];exact h
    ·right;rw[h1,h];exact List.mem_cons_self
   ·right;exact List.mem_cons_of_mem _ h1
  ·rcases List.mem_cons.1 hb with rfl|hb
   ·omega
   ·exact h3 b hb
theorem pR {l:List Int}{lo:Int}(h1:lo∈l)(h2:∀ b∈l,lo≤b):lL l=lo:=by
 cases l with
 | nil=>cases h1
 | cons a l =>
  obtain⟨k1,k2,k3⟩:=fX l a
  show l.foldl Po a=lo
  have h3:l.foldl Po a≤lo:=by
   rcases List.mem_cons.1 h1 with rfl|h1
   ·exact k2
   ·exact k3 lo h1
  have h4:lo≤l.foldl Po a:=by
   rcases k1 with k1|k1
   ·rw[k1];exact h2 a List.mem_cons_self
   ·exact h2 _ (List.mem_cons_of_mem _ k1)
  omega
theorem mB {l:List Int}{hi:Int}(h1:hi∈l)(h2:∀ b∈l,b≤hi):aW l=hi:=by
 cases l with
 | nil=>cases h1
 | cons a l =>
  obtain⟨k1,k2,k3⟩:=fY l a
  show l.foldl Pp a=hi
  have h3:hi≤l.foldl Pp a:=by
   rcases List.mem_cons.1 h1 with rfl|h1
   ·exact k2
   ·exact k3 hi h1
  have h4:l.foldl Pp a≤hi:=by
   rcases k1 with k1|k1
   ·rw[k1];exact h2 a List.mem_cons_self
   ·exact h2 _ (List.mem_cons_of_mem _ k1)
  omega
variable {g:FuncId}{es:List (AV × AV × Nat)}{clock:Nat}{val:Nat→Int}
noncomputable def cW:Code:=match Yf Try.f59 with
 | .seq _ (.seq _ (.seq _ c))=>c
 | _=>.skip
noncomputable def stE (g:FuncId)(es:List (AV × AV × Nat))(clock:Nat)(seen:List Nat)(vs:List AV):St:=Bl (stN g es clock seen vs) 6 { Io g with state:=.exhausted}
def xO (g:FuncId)(es:List (AV × AV × Nat))(clock:Nat)(n:Nat):Prop:=∀ (seen:List Nat)(l:List Int),l.length=n →
 SW Try.prog none cW (iD T Try.f59 (fun v st=>v=.agg [iV (lL l),iV (aW l)]∧st.h.get 0=some (.map es clock)∧st.h.get 1=some (oc [.mp 0]))) ⟨sX g,[5]⟩ (stE g es clock seen (l.map iV))
theorem dT (H:Nx g es clock val)(hlen:es.length<1000000)(ht:xO g es clock es.length){lo hi:Int}(hlo:∃ x∈es,val x.2.2=lo)(hlo':∀ x∈es,lo≤val x.2.2)(hhi:∃ x∈es,val x.2.2=hi)(hhi':∀ x∈es,val x.2.2≤hi) :
  At Try.prog 59 [.fn (.func 99) [] [.ptr 1 0],.fn (.func g) [] []] ⟨[(1,oc [.mp 0]),(0,.map es clock)],2⟩
   (fun v st=>v=.agg [iV lo,iV hi]∧st.h.get 0=some (.map es clock)∧st.h.get 1=some (oc [.mp 0])):=by
 refine Bb tok Try.func59 (by rfl) ?_
 refine SW.seq (SW.region ?_)
 refine Ac.fresh tok (r:=.ptr 2 0) (cs:=[.fn (.func g) [] []]) (by rfl) (by rfl) (by kernel_rfl) ?_
 refine Ac.fresh tok (r:=.ptr 3 0) (cs:=[iV 0,iV 0]) (by rfl) (by rfl) (by kernel_rfl) ?_
 refine Ac.nil ?_
 refine SW.seq (SW.region ?_)
 refine Ac.fresh tok (r:=.ptr 4 0) (cs:=[nlV]) (by rfl) (by rfl) (by kernel_rfl) ?_
 refine Ac.nil ?_
 refine SW.seq (SW.seq (SW.region ?_))
 refine Ac.Db tok (r:=.fn (.func 99) [] [.ptr 1 0]) (by rfl) (by rfl) (by kernel_rfl) ?_
 refine Ac.nil ?_
 refine SW.block ?_
 refine SW.rangeFunc (gf:=99) (first:=[]) (caps:=[.ptr 1 0]) (by kernel_rfl) qB ?_
 refine(sQ H hlen ?_)
 intro seen hs hend
 refine⟨Io g,?_,(fun h=>by cases h),?_⟩
 ·cases seen<;>rfl
 show SW Try.prog none cW _ _ (stE g es clock seen (seen.map fun b=>iV (val b)))
 have hcov:∀ x∈es,x.2.2∈seen:=fun x hx=>by
  have h1:=List.filter_eq_nil_iff.1 hend x hx
  simpa using h1
 have hlen2:seen.length=es.length:=by
  refine Nat.le_antisymm (eS hs) ?_
  have h1:=of_decide_eq_true (by have:=H.borns;unfold Ej at this;exact this)
  have h2:=Tt (m:=seen) h1 (fun b hb=>by obtain⟨x,hx,rfl⟩:=List.mem_map.1 hb;exact hcov x hx)
  simpa using h2
 have hT:=ht seen (seen.map val) (by rw[List.length_map,hlen2])
 rw[List.map_map] at hT
 have hl:lL (seen.map val)=lo:=by
  obtain⟨x,hx,rfl⟩:=hlo
  exact pR (List.mem_map_of_mem (hcov x hx)) fun b hb=>by
   obtain⟨c,hc,rfl⟩:=List.mem_map.1 hb
   obtain⟨y,hy,rfl⟩:=hs.2 c hc
   exact hlo' y hy
 have hh:aW (seen.map val)=hi:=by
  obtain⟨x,hx,rfl⟩:=hhi
  exact mB (List.mem_map_of_mem (hcov x hx)) fun b hb=>by
   obtain⟨c,hc,rfl⟩:=List.mem_map.1 hb
   obtain⟨y,hy,rfl⟩:=hs.2 c hc
   exact hhi' y hy
 rw[hl,hh] at hT
 exact hT
end Go.Ev
namespace Go.Ev
open Go.Proofs
set_option maxRecDepth 100000
def pe (p q b:Nat):AV × AV × Nat:=(.agg [iV (Int.ofNat p),iV (Int.ofNat q)],bV true,b)
def es9:List (AV × AV × Nat):=[pe 20 500 0,pe 20 501 1,pe 20 502 2,pe 21 500 3,pe 21 501 4,pe 21 502 5,pe 22 500 6,pe 22 501 7,pe 22 502 8]
noncomputable def Sw (g:FuncId)(seen:List Nat)(a b c d e f h i j:Int):St:=stE g es9 9 seen [iV a,iV b,iV c,iV d,iV e,iV f,iV h,iV i,iV j]
noncomputable def Pm (st:St)(i:Nat):Nat × AObj:=match Bw st.h i with|some o=>(i,o)|none=>(i,.dfr)
noncomputable def cO (g:FuncId)(seen:List Nat)(a b c d e f h i j:Int):St:=⟨[Pm (Sw g seen a b c d e f h i j) 6,Pm (Sw g seen a b c d e f h i j) 5,Pm (Sw g seen a b c d e f h i j) 8,Pm (Sw g seen a b c d e f h i j) 7,Pm (Sw g seen a b c d e f h i j) 4,Pm (Sw g seen a b c d e f h i j) 3,Pm (Sw g seen a b c d e f h i j) 2,Pm (Sw g seen a b c d e f h i j) 1,Pm (Sw g seen a b c d e f h i j) 0],10⟩
theorem sN (g:FuncId)(seen:List Nat)(a b c d e f h i j:Int):evq 15 (.fn (.func 97) [] []) [iV a,.sl 8 1 8 1 false] (Sw g seen a b c d e f h i j)=some [(iV (lL [a,b,c,d,e,f,h,i,j]),cO g seen a b c d e f h i j)]:=by kernel_rfl
theorem wS (g:FuncId)(seen:List Nat)(a b c d e f h i j:Int):evq 15 (.fn (.func 98) [] []) [.sl 8 0 9 1 false] (cO g seen a b c d e f h i j)=some [(iV (aW [a,b,c,d,e,f,h,i,j]),cO g seen a b c d e f h i j)]:=by kernel_rfl
theorem kX {ops:Array Oper}{p1:Nat × AV}{Af:List (Nat × AV)}{f:Fm}{h:Hp}(h1:lightV T ops h f p1.1=some p1.2)(h2:Cc T ops Af f h):Cc T ops (p1::Af) f h:=fun p hp=>by
 rcases List.mem_cons.1 hp with rfl|hp
 ·exact h1
 ·exact h2 p hp
theorem wG (g:FuncId):xO g es9 9 9:=by
 intro seen l hl
 match l,hl with
 | [a,b,c,d,e,f,h,i,j],_ =>
  show SW Try.prog none cW _ ⟨sX g,[5]⟩ (Sw g seen a b c d e f h i j)
  obtain⟨lo,hlo⟩:∃ lo,lo=lL [a,b,c,d,e,f,h,i,j]:=⟨_,rfl⟩
  obtain⟨hi,hhi⟩:∃ hi,hi=aW [a,b,c,d,e,f,h,i,j]:=⟨_,rfl⟩
  have h1:=dR 15 _ _ _ _ (sN g seen a b c d e f h i j)
  have h2:=dR 15 _ _ _ _ (wS g seen a b c d e f h i j)
  rw[←hlo] at h1 ⊢
  rw[←hhi] at h2 ⊢
  refine SW.seq (SW.dV (T:=T) mixed (by kernel_rfl) ?_)
  refine Fc.Db (by kernel_rfl) tok 0 (r:=.sl 8 0 9 1 false) (by rfl) (by kernel_rfl) (by rfl) (by kernel_rfl) ?_
  refine Fc.Db (by kernel_rfl) tok 1 (r:=.ptr 8 0) (by rfl) (by kernel_rfl) (by rfl) (by kernel_rfl) ?_
  refine Fc.Db (by kernel_rfl) tok 2 (r:=iV a) (by rfl) (by kernel_rfl) (by rfl) (by kernel_rfl) ?_
  refine Fc.Db (by kernel_rfl) tok 3 (r:=.sl 8 0 9 1 false) (by rfl) (by kernel_rfl) (by rfl) (by kernel_rfl) ?_
  refine Fc.Db (by kernel_rfl) tok 4 (r:=.sl 8 1 8 1 false) (by rfl) (by kernel_rfl) (by rfl) (by kernel_rfl) ?_
  refine Fc.Db (by kernel_rfl) tok 6 (r:=.sl 8 0 9 1 false) (by rfl) (by kernel_rfl) (by rfl) (by kernel_rfl) ?_
  refine Fc.one 5 [(6,.sl 8 0 9 1 false)] (by rfl) (by kernel_rfl) (kX (by kernel_rfl) (kX (by kernel_rfl) (kX (by kernel_rfl) (kX (by kernel_rfl) (kX (by kernel_rfl) (dA (by kernel_rfl))))))) (by kernel_rfl) ?_
  refine Ac.call (c:=.fn (.func 97) [] []) (args:=[iV a,.sl 8 1 8 1 false]) (by rfl) (by kernel_rfl) (by kernel_rfl) (h1.mono fun v st' hv=>?_)
  obtain⟨rfl,rfl⟩:v=iV lo∧st'=cO g seen a b c d e f h i j:=by simpa using hv
  refine Ac.nil ⟨_,rfl,?_⟩
  refine Fc.one 7 [] (by rfl) (by kernel_rfl) (dA (by kernel_rfl)) (by kernel_rfl) ?_
  refine Ac.call (c:=.fn (.func 98) [] []) (args:=[.sl 8 0 9 1 false]) (by rfl) (by kernel_rfl) (by kernel_rfl) (h2.mono fun v st' hv=>?_)
  obtain⟨rfl,rfl⟩:v=iV hi∧st'=cO g seen a b c d e f h i j:=by simpa using hv
  refine Ac.nil ⟨_,rfl,?_⟩
  refine Fc.Db (by kernel_rfl) tok 8 (r:=.agg [iV lo,iV hi]) (by rfl) (by kernel_rfl) (by rfl) (by kernel_rfl) ?_
  refine Fc.one 9 [] (by rfl) (by kernel_rfl) (dA (by kernel_rfl)) (by kernel_rfl) ?_
  refine Ac.store tok (st':=⟨(cO g seen a b c d e f h i j).h.set 3 (oc [iV lo,iV hi]),10⟩) (by rfl) (by kernel_rfl) (by kernel_rfl) ?_
  refine Ac.nil ⟨_,rfl,?_⟩
  refine Fc.done (by kernel_rfl) (fun p hp=>by cases hp) ?_
  refine SW.ret ?_
  exact⟨⟨((cO g seen a b c d e f h i j).h.set 3 (oc [iV lo,iV hi])).set 5 (.cells none true []),10⟩,.agg [iV lo,iV hi],by kernel_rfl,by kernel_rfl,rfl,by kernel_rfl,by kernel_rfl⟩
end Go.Ev
namespace Go.Ev
def Yr (m b:Nat)(i:Nat):Option Nat:=if i=m then some 0 else if i=b then some 1 else none
def gI (m b:Nat)(i:Nat):Option Nat:=if i=0 then some m else if i=1 then some b else none
theorem At.ro2 {P:Program}{g:FuncId}{args args0:List AV}{o0 o1 q0 q1:AObj}{v:AV}{st:St}{m b:Nat}(hne:m≠b)
  (h:At P g args0 ⟨[(1,q1),(0,q0)],2⟩ (fun v' s=>v'=v∧s.h.get 0=some q0∧s.h.get 1=some q1))
  (hm:st.h.get m=some o0)(hb:st.h.get b=some o1)(own0:o0.own=true)(own1:o1.own=true)(fam0:o0.fam=none)(fam1:o1.fam=none)
  (r0:renO (Yr m b) o0=some q0)(r1:renO (Yr m b) o1=some q1)(s0:renO (gI m b) q0=some o0)(s1:renO (gI m b) q1=some o1)
  (ha:renL (Yr m b) args=some args0)(hv:∀ (φ φ':Fi)(u:Value),VR φ v u→VR φ' v u):At P g args st (fun v' s=>v'=v∧s=st):=by
 intro φ w cargs n hr hargs
 have hmn:m<φ.n:=by rw[hr.n];exact hr.lt m o0 hm
 have hbn:b<φ.n:=by rw[hr.n];exact hr.lt b o1 hb
 obtain⟨φ0,hφ0⟩:∃ φ0:Fi,φ0=⟨fun i=>if i=0 then φ.f m else φ.f b,2⟩:=⟨_,rfl⟩
 have f0:φ0.f 0=φ.f m:=by rw[hφ0];rfl
 have f1:φ0.f 1=φ.f b:=by rw[hφ0];rfl
 have hn0:φ0.n=2:=by rw[hφ0]
 have hρ:Ws (Yr m b) φ φ0:=fun i j hij _=>by
  unfold Yr at hij
  split at hij
  ·rename_i h;cases hij;subst h;exact⟨f0,by rw[hn0];omega⟩
  ·split at hij
   ·rename_i h;cases hij;subst h;exact⟨f1,by rw[hn0];omega⟩
   ·cases hij
 have get0:∀ i o,Hp.get [(1,q1),(0,q0)] i=some o→(i=1∧o=q1)∨(i=0∧o=q0):=fun i o hi=>by
  simp only [Hp.get] at hi
  split at hi
  ·rename_i h;cases hi;exact .inl ⟨h.symm,rfl⟩
  ·split at hi
   ·rename_i h;cases hi;exact .inr ⟨h.symm,rfl⟩
   ·cases hi
 have hblk:(φ.f m).b≠(φ.f b).b:=fun he=>by
  obtain⟨⟨f,hf,_⟩,_⟩:=hr.sep m b o0 o1 hm hb hne own0 he
  rw[fam0] at hf;cases hf
 have hrel0:Rel φ0 ⟨[(1,q1),(0,q0)],2⟩ w:=by
  refine⟨hn0,fun i o hi=>?_,fun i o hi=>?_,fun i o hi=>?_,fun i j oi oj hi hj hij _ hbb=>?_⟩
  ·rcases get0 i o hi with ⟨rfl,rfl⟩|⟨rfl,rfl⟩<;>(show _<2;omega)
  ·rcases get0 i o hi with ⟨rfl,rfl⟩|⟨rfl,rfl⟩
   ·rw[f1];exact hr.blk b o1 hb
   ·rw[f0];exact hr.blk m o0 hm
  ·rcases get0 i o hi with ⟨rfl,rfl⟩|⟨rfl,rfl⟩
   ·exact Pg hρ f1 r1 (hr.obj b o1 hb)
   ·exact Pg hρ f0 r0 (hr.obj m o0 hm)
  ·exfalso
   rcases get0 i oi hi with ⟨rfl,rfl⟩|⟨rfl,rfl⟩<;>rcases get0 j oj hj with ⟨rfl,rfl⟩|⟨rfl,rfl⟩
   ·exact hij rfl
   ·rw[f0,f1] at hbb;exact hblk hbb.symm
   ·rw[f0,f1] at hbb;exact hblk hbb
   ·exact hij rfl
 refine(h φ0 w cargs n hrel0 (Hs hρ ha hargs)).mono fun e w' hp=>?_
 obtain⟨v',cv,s,φ',he,⟨rfl,g0,g1⟩,hvr,hex,hr',hf⟩:=hp
 have e0:φ'.f 0=φ.f m:=(hex.f 0 (by rw[hn0];omega)).trans f0
 have e1:φ'.f 1=φ.f b:=(hex.f 1 (by rw[hn0];omega)).trans f1
 have hρ':Ws (gI m b) φ' φ:=fun i j hij _=>by
  unfold gI at hij
  split at hij
  ·rename_i h;cases hij;subst h;exact⟨e0.symm,hmn⟩
  ·split at hij
   ·rename_i h;cases hij;subst h;exact⟨e1.symm,hbn⟩
   ·cases hij
 have howns:∀ k,Fo φ0 ⟨[(1,q1),(0,q0)],2⟩ k→k=(φ.f m).b∨k=(φ.f b).b:=fun k ⟨i,o,hi,_,hk⟩=>by
  rcases get0 i o hi with ⟨rfl,rfl⟩|⟨rfl,rfl⟩
  ·right;rw[←hk,f1]
  ·left;rw[←hk,f0]
 refine⟨v',cv,st,φ,he,⟨rfl,rfl⟩,hv _ _ _ hvr,Ext.refl _,⟨hr.n,hr.lt,fun i o hi=>Nat.lt_of_lt_of_le (hr.blk i o hi) hf.size,fun i o hi=>?_,hr.sep⟩,⟨hf.os,hf.tape,hf.output,hf.size,fun k hk hn=>?_,fun k hk=>.inl hk⟩⟩
 ·by_cases him:i=m
  ·subst him
   rw[hm] at hi;cases hi
   exact Pg hρ' e0.symm s0 (hr'.obj 0 _ g0)
  ·by_cases hib:i=b
   ·subst hib
    rw[hb] at hi;cases hi
    exact Pg hρ' e1.symm s1 (hr'.obj 1 _ g1)
   ·have hnm:(φ.f i).b≠(φ.f m).b:=fun hq=>by
     obtain⟨⟨f,hf,_⟩,_⟩:=hr.sep m i o0 o hm hi (Ne.symm him) own0 hq.symm
     rw[fam0] at hf;cases hf
    have hnb:(φ.f i).b≠(φ.f b).b:=fun hq=>by
     obtain⟨⟨f,hf,_⟩,_⟩:=hr.sep b i o1 o hb hi (Ne.symm hib) own1 hq.symm
     rw[fam1] at hf;cases hf
    exact(hr.obj i o hi).same (Ext.refl _) (by rw[hr.n];exact hr.lt i o hi) (hf.block _ (hr.blk i o hi) fun ho=>(howns _ ho).elim hnm hnb)
 ·refine hf.block k hk fun ho=>hn ?_
  rcases howns k ho with rfl|rfl
  ·exact⟨m,o0,hm,own0,rfl⟩
  ·exact⟨b,o1,hb,own1,rfl⟩
theorem At.wK {P:Program}{g:FuncId}{args:List AV}{v:AV}(h:At P g args ⟨[],0⟩ (fun v' _=>v'=v))(ha:∀ (φ φ':Fi)(us:List Value),VRL φ args us→VRL φ' args us)(hv:∀ (φ φ':Fi)(u:Value),VR φ v u→VR φ' v u)(st:St) :
  At P g args st (fun v' s=>v'=v∧s=st):=by
 intro φ w cargs n hr hargs
 have hrel0:Rel ⟨φ.f,0⟩ ⟨[],0⟩ w:=⟨rfl,fun _ _ h=>by simp[Hp.get] at h,fun _ _ h=>by simp[Hp.get] at h,fun _ _ h=>by simp[Hp.get] at h,fun _ _ _ _ h=>by simp[Hp.get] at h⟩
 refine(h ⟨φ.f,0⟩ w cargs n hrel0 (ha _ _ _ hargs)).mono fun e w' hp=>?_
 obtain⟨v',cv,s,φ',he,rfl,hvr,hex,hr',hf⟩:=hp
 have hno:∀ k,¬ Fo ⟨φ.f,0⟩ ⟨[],0⟩ k:=fun k ⟨id,o,h,_⟩=>by cases h
 exact⟨v',cv,st,φ,he,⟨rfl,rfl⟩,hv _ _ _ hvr,Ext.refl _,⟨hr.n,hr.lt,fun i o hi=>Nat.lt_of_lt_of_le (hr.blk i o hi) hf.size,fun i o hi=>(hr.obj i o hi).same (Ext.refl _) (by rw[hr.n];exact hr.lt i o hi) (hf.block _ (hr.blk i o hi) (hno _)),hr.sep⟩,
  ⟨hf.os,hf.tape,hf.output,hf.size,fun k hk _=>hf.block k hk (hno k),fun k hk=>.inl hk⟩⟩
theorem Ur {φ φ':Fi}{v u:Value}(h:VR φ (.lit v) u):VR φ' (.lit v) u:=by cases h;exact .lit _
theorem Rl {φ φ':Fi}:∀ {l:List Value}{us:List Value},VRL φ (l.map .lit) us→VRL φ' (l.map .lit) us
 | [],_,.nil=>.nil
 | _::_,_,.cons h t=>.cons (Ur h) (Rl t)
theorem Us {φ φ':Fi}{l:List Value}{u:Value}(h:VR φ (.agg (l.map .lit)) u):VR φ' (.agg (l.map .lit)) u:=by
 obtain⟨us,rfl,h1⟩:=h.Bz
 exact .agg (Rl h1)
end Go.Ev
namespace Go.Ev
open Go.Proofs
set_option maxRecDepth 100000
def Bg:Nat→Int:=fun b=>match b with|0=>20|1=>20|2=>20|3=>21|4=>21|5=>21|_=>22
def zV:Nat→Int:=fun b=>match b with|0=>25|1=>25|2=>25|3=>23|4=>23|5=>23|_=>22
def xX:Nat→Int:=fun b=>match b with|0=>0|1=>1|2=>2|3=>17|4=>18|5=>19|6=>16|7=>17|_=>18
theorem in9 {x:AV × AV × Nat}(h:x∈es9):x=pe 20 500 0∨x=pe 20 501 1∨x=pe 20 502 2∨x=pe 21 500 3∨x=pe 21 501 4∨x=pe 21 502 5∨x=pe 22 500 6∨x=pe 22 501 7∨x=pe 22 502 8:=by simpa[es9] using h
theorem sS (x:AV × AV × Nat)(h:x∈es9):∃ (p q:Int)(u:Value),x.1=.agg [iV p,iV q]∧x.2.1=.lit u:=by
 rcases in9 h with rfl|rfl|rfl|rfl|rfl|rfl|rfl|rfl|rfl<;>exact⟨_,_,_,rfl,rfl⟩
def one1 (o:Option (List (AV × St))):Option AV:=match o with
 | some [x]=>some x.1
 | _=>none
theorem pF {o:Option (List (AV × St))}{v:AV}(h:one1 o=some v):∃ s,o=some [(v,s)]:=by
 unfold one1 at h
 split at h
 ·rename_i x;cases h;exact⟨x.2,rfl⟩
 ·cases h
theorem dH {g:FuncId}{p q:Nat}{r:Int}(h:one1 (evq 10 (.fn (.func g) [] []) [.agg [iV (Int.ofNat p),iV (Int.ofNat q)]] ⟨[],0⟩)=some (iV r))(st:St):At Try.prog g [.agg [iV (Int.ofNat p),iV (Int.ofNat q)]] st (fun v st'=>v=iV r∧st'=st):=by
 obtain⟨s,hs⟩:=pF h
 have h1:=(dR 10 _ _ _ _ hs).2
 refine At.wK (h1.mono fun v st' hv=>(Prod.mk.inj (List.mem_singleton.1 hv)).1) (fun φ φ' us hu=>?_) (fun φ φ' u hu=>Ur hu) st
 cases hu with
 | cons h t=>cases t;exact .cons (Us (l:=[.int .i64 (Int.ofNat p),.int .i64 (Int.ofNat q)]) h) .nil
theorem lR {g:FuncId}{val:Nat→Int}(hent:Enters Try.prog g)(h:∀ x∈es9,∀ st,At Try.prog g [x.1] st (fun v st'=>v=iV (val x.2.2)∧st'=st)):Nx g es9 9 val :=
 ⟨by kernel_rfl,by kernel_rfl,sS,hent,h⟩
theorem h46:Nx 61 es9 9 Bg:=lR qE fun x hx=>by
 rcases in9 hx with rfl|rfl|rfl|rfl|rfl|rfl|rfl|rfl|rfl<;>exact dH (by kernel_rfl)
theorem h47:Nx 62 es9 9 zV:=lR qD fun x hx=>by
 rcases in9 hx with rfl|rfl|rfl|rfl|rfl|rfl|rfl|rfl|rfl<;>exact dH (by kernel_rfl)
theorem h48:Nx 63 es9 9 xX:=lR qC fun x hx=>by
 rcases in9 hx with rfl|rfl|rfl|rfl|rfl|rfl|rfl|rfl|rfl<;>exact dH (by kernel_rfl)
theorem mQ {g:FuncId}{val:Nat→Int}(H:Nx g es9 9 val)(lo hi:Int)(hlo:∃ x∈es9,val x.2.2=lo)(hlo':∀ x∈es9,lo≤val x.2.2)(hhi:∃ x∈es9,val x.2.2=hi)(hhi':∀ x∈es9,val x.2.2≤hi){st:St}{m b:Nat}(hne:m≠b)
  (hm:st.h.get m=some (.map es9 9))(hb:st.h.get b=some (oc [.mp m])):At Try.prog 59 [.fn (.func 99) [] [.ptr b 0],.fn (.func g) [] []] st (fun v s=>v=.agg [iV lo,iV hi]∧s=st):=by
 have hmb:Yr m b m=some 0:=if_pos rfl
 have hbb:Yr m b b=some 1:=by unfold Yr;rw[if_neg (Ne.symm hne),if_pos rfl]
 refine At.ro2 hne (dT H (by decide) (wG g) hlo hlo' hhi hhi') hm hb rfl rfl rfl rfl ?_ ?_ ?_ ?_ ?_ (fun φ φ' u hu=>Us (l:=[.int .i64 lo,.int .i64 hi]) hu)
 ·simp only [renO,Ld sS]
 ·simp only [renO,renL,renV,hmb]
 ·simp only [renO,Ld sS]
 ·rfl
 ·simp only [renL,renV,hbb]
end Go.Ev
namespace Go.Ev
open Go.Proofs
set_option maxRecDepth 100000
noncomputable def knownE (g b:Nat)(st:St):Option (List (AV × St)):=match Bw st.h b with
 | some (.cells none false [.mp m])=>match Bw st.h m with
  | some (.map es clock)=>match (Nat.beq clock 9&&esEq es es9)&&!(Nat.beq m b) with
   | true=>match g with
    | 61=>some [(.agg [iV 20,iV 22],st)]
    | 62=>some [(.agg [iV 22,iV 25],st)]
    | 63=>some [(.agg [iV 0,iV 19],st)]
    | _=>none
   | false=>none
  | _=>none
 | _=>none
noncomputable def Ce:FuncId→List AV→St→Option (List (AV × St)):=fun f args st=>match Nat.beq f 59 with
 | true=>match args with
  | [.fn (.func 99) [] [.ptr b 0],.fn (.func g) [] []]=>knownE g b st
  | _=>none
 | false=>none
theorem iU {g b:Nat}{st:St}{outs:List (AV × St)}(h:knownE g b st=some outs):At Try.prog 59 [.fn (.func 99) [] [.ptr b 0],.fn (.func g) [] []] st (fun v st'=>(v,st')∈outs):=by
 unfold knownE at h
 rw[Jk] at h
 split at h
 ·rename_i m hb
  rw[Jk] at h
  split at h
  ·rename_i es clock hm
   split at h
   ·rename_i hc
    simp only [Bool.and_eq_true,Bool.not_eq_true'] at hc
    obtain rfl:=Nat.eq_of_beq_eq_true hc.1.1
    obtain rfl:=Xy hc.1.2
    have hne:m≠b:=fun he=>by subst he;rw[hm] at hb;cases hb
    split at h
    ·cases h
     exact(mQ h46 20 22 ⟨pe 20 500 0,by simp[es9],rfl⟩ (by decide) ⟨pe 22 500 6,by simp[es9],rfl⟩ (by decide) hne hm hb).mono fun v st' ⟨h1,h2⟩=>by subst h1;subst h2;simp
    ·cases h
     exact(mQ h47 22 25 ⟨pe 22 500 6,by simp[es9],rfl⟩ (by decide) ⟨pe 20 500 0,by simp[es9],rfl⟩ (by decide) hne hm hb).mono fun v st' ⟨h1,h2⟩=>by subst h1;subst h2;simp
    ·cases h
     exact(mQ h48 0 19 ⟨pe 20 500 0,by simp[es9],rfl⟩ (by decide) ⟨pe 21 502 5,by simp[es9],rfl⟩ (by decide) hne hm hb).mono fun v st' ⟨h1,h2⟩=>by subst h1;subst h2;simp
    ·cases h
   ·cases h
  ·cases h
 ·cases h
theorem zT:COk Try.prog Ce:=fun f args st outs h=>by
 unfold Ce at h
 split at h
 ·rename_i hf
  obtain rfl:f=59:=Nat.eq_of_beq_eq_true hf
  split at h
  ·exact⟨Yb,iU h⟩
  ·cases h
 ·cases h
noncomputable def Jw (n:Nat):Dw:=Iy T Xq 60 (ofFns fns) Ce D0 n
theorem pY (n:Nat):Lt Try.prog (Jw n):=Mt mixed tok rV gok zT n
end Go.Ev
