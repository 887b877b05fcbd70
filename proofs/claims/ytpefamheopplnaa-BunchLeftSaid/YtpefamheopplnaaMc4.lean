/- Own work of the verifier of watercress: EvN, EvO, EvR, EvW, EvZ, EvQ, EvKa, EvKb. -/
import Derived.Test.YtpefamheopplnaaMc3
import Derived.Test.YtpefamheopplnaaMc2
set_option linter.unusedVariables false
set_option linter.unusedSimpArgs false
namespace Go.Ev
inductive Tr where
 | nil
 | node (v:AV)(l r:Tr)
def Tr.get:Tr→Nat→AV
 | .nil,_=>Bx
 | .node v l r,i=>match Nat.beq i 0 with
  | true=>v
  | false=>match Nat.beq (i%2) 1 with
   | true=>l.get (i/2)
   | false=>r.get (i/2-1)
def Tr.set:Nat→Tr→Nat→AV→Tr
 | 0,t,_,_=>t
 | n+1,.nil,i,x=>match Nat.beq i 0 with
  | true=>.node x .nil .nil
  | false=>match Nat.beq (i%2) 1 with
   | true=>.node Bx (Tr.set n .nil (i/2) x) .nil
   | false=>.node Bx .nil (Tr.set n .nil (i/2-1) x)
 | n+1,.node v l r,i,x=>match Nat.beq i 0 with
  | true=>.node x l r
  | false=>match Nat.beq (i%2) 1 with
   | true=>.node v (Tr.set n l (i/2) x) r
   | false=>.node v l (Tr.set n r (i/2-1) x)
theorem Tr.Hw:∀ (n:Nat)(t:Tr)(i j:Nat)(x:AV),i+1<2^n→(Tr.set n t i x).get j=if j=i then x else t.get j:=by
 intro n
 induction n with
 | zero=>intro t i j x h;simp at h
 | succ n ih =>
  intro t i j x h
  have hp:2^(n+1)=2*2^n:=by rw[Nat.pow_succ];omega
  rw[hp] at h
  have key:∀ (v:AV)(l r:Tr),(match Nat.beq i 0 with
    | true=>Tr.node x l r
    | false=>match Nat.beq (i%2) 1 with
     | true=>.node v (Tr.set n l (i/2) x) r
     | false=>.node v l (Tr.set n r (i/2-1) x)).get j=if j=i then x else(Tr.node v l r).get j:=by
   intro v l r
   cases hi:Nat.beq i 0 with
   | true =>
    have hi:=Nat.eq_of_beq_eq_true hi
    subst hi
    simp only [Tr.get]
    cases hj:Nat.beq j 0 with
    | true=>have hj:=Nat.eq_of_beq_eq_true hj;subst hj;simp
    | false=>have hj:=Nat.ne_of_beq_eq_false hj;simp[hj]
   | false =>
    have hi:=Nat.ne_of_beq_eq_false hi
    cases hm:Nat.beq (i%2) 1 with
    | true =>
     have hm:=Nat.eq_of_beq_eq_true hm
     simp only [Tr.get]
     cases hj:Nat.beq j 0 with
     | true=>have hj:=Nat.eq_of_beq_eq_true hj;subst hj;simp[Ne.symm hi]
     | false =>
      have hj:=Nat.ne_of_beq_eq_false hj
      cases hq:Nat.beq (j%2) 1 with
      | true =>
       have hq:=Nat.eq_of_beq_eq_true hq
       simp only
       rw[ih _ _ _ _ (by omega)]
       by_cases hji:j=i
       ·simp[hji]
       ·rw[if_neg (by omega),if_neg hji]
      | false =>
       have hq:=Nat.ne_of_beq_eq_false hq
       simp only
       rw[if_neg (by intro e;subst e;exact hq hm)]
    | false =>
     have hm:=Nat.ne_of_beq_eq_false hm
     simp only [Tr.get]
     cases hj:Nat.beq j 0 with
     | true=>have hj:=Nat.eq_of_beq_eq_true hj;subst hj;simp[Ne.symm hi]
     | false =>
      have hj:=Nat.ne_of_beq_eq_false hj
      cases hq:Nat.beq (j%2) 1 with
      | true =>
       have hq:=Nat.eq_of_beq_eq_true hq
       simp only
       rw[if_neg (by intro e;subst e;exact hm hq)]
      | false =>
       have hq:=Nat.ne_of_beq_eq_false hq
       simp only
       rw[ih _ _ _ _ (by omega)]
       by_cases hji:j=i
       ·simp[hji]
       ·rw[if_neg (by omega),if_neg hji]
  cases t with
  | nil =>
   have h0:∀ j,(Tr.node Bx .nil .nil).get j=Tr.nil.get j:=fun j=>by
    by_cases h1:Nat.beq j 0=true<;>by_cases h2:Nat.beq (j%2) 1=true<;>simp only [Tr.get,h1,h2]
   have:=key Bx .nil .nil
   rw[h0] at this
   exact this
  | node v l r=>exact key v l r
structure TF where
 t:Tr
 len:Nat
 dm:List Nat
def TF.abs (f:TF):Fm:=⟨(List.range f.len).map f.t.get,f.dm⟩
def Kr:Nat:=1048575
def TF.put (f:TF)(dst:Option Tmp)(v:AV):TF :=
 match dst with
 | none=>f
 | some d=>match Nat.blt d f.len with
  | true=>⟨Tr.set 20 f.t d v,f.len,f.dm⟩
  | false=>f
def TF.ok (f:TF):Prop:=f.len≤Kr
theorem TF.Lf (f:TF)(dst:Option Tmp)(v:AV):(f.put dst v).len=f.len:=by
 unfold TF.put
 cases dst with
 | none=>rfl
 | some d=>simp only;split<;>rfl
theorem TF.Qm {f:TF}(h:f.ok)(dst:Option Tmp)(v:AV):(f.put dst v).ok:=by unfold TF.ok;rw[TF.Lf];exact h
theorem TF.Nh {f:TF}(h:f.ok)(dst:Option Tmp)(v:AV):(f.put dst v).abs=f.abs.put dst v:=by
 cases dst with
 | none=>rfl
 | some d =>
  unfold TF.put
  simp only
  cases hd:Nat.blt d f.len with
  | true =>
   have hd:d<f.len:=Nat.le_of_ble_eq_true hd
   simp only [TF.abs,Fm.put]
   congr 1
   apply List.ext_getElem
   ·simp
   ·intro i h1 h2
    simp only [List.length_map,List.length_range] at h1
    rw[List.getElem_map,List.getElem_range,Tr.Hw 20 f.t d i v (Nat.lt_of_lt_of_le (Nat.succ_lt_succ hd) (by unfold TF.ok Kr at h;omega)),List.getElem_set]
    by_cases hi:i=d
    ·subst hi;simp
    ·rw[if_neg hi,if_neg (Ne.symm hi)];simp
  | false =>
   have hd:¬ d<f.len:=fun hlt=>by
    have:Nat.blt d f.len=true:=Nat.ble_eq_true_of_le hlt
    rw[this] at hd;cases hd
   simp only [TF.abs,Fm.put]
   congr 1
   exact(List.set_eq_of_length_le (by simpa using hd)).symm
def TF.at (f:TF)(d:Nat):AV:=match Nat.blt d f.len with
 | true=>f.t.get d
 | false=>Bx
theorem TF.oB (f:TF)(d:Nat):f.abs.ts.getD d Bx=f.at d:=by
 unfold TF.at TF.abs
 cases hd:Nat.blt d f.len with
 | true =>
  have hd:d<f.len:=Nat.le_of_ble_eq_true hd
  simp[List.getD_eq_getElem?_getD,hd]
 | false =>
  have hd:¬ d<f.len:=fun hlt=>by
   have:Nat.blt d f.len=true:=Nat.ble_eq_true_of_le hlt
   rw[this] at hd;cases hd
  simp only [List.getD_eq_getElem?_getD]
  rw[List.getElem?_eq_none (by simpa using hd)]
  rfl
def TF.av (f:TF):Operand→AV
 | .tmp t=>f.at t
 | .const v=>ofV v
 | .global g=>.lit (.pointer (some ⟨g,0,none⟩))
 | .func g=>.fn (.func g) [] []
theorem TF.Ux (f:TF):Operand.av f.abs.ts=f.av:=by
 funext x
 cases x with
 | tmp t=>exact f.oB t
 | _=>rfl
def TF.y (ops:Array Oper)(f:TF)(j:Nat):Option Bool :=
 match (ops[j]?).bind (·.dst) with
 | none=>none
 | some d=>match Nat.blt d f.len with
  | true=>match f.t.get d with
   | .lit (.bool b)=>some b
   | _=>none
  | false=>none
theorem TF.xQ (ops:Array Oper)(f:TF):yA ops f.abs.ts=f.y ops:=by
 funext j
 unfold yA TF.y
 cases hd:(ops[j]?).bind (·.dst) with
 | none=>rfl
 | some d =>
  simp only [Option.bind_some]
  cases hb:Nat.blt d f.len with
  | true =>
   have hlt:d<f.len:=Nat.le_of_ble_eq_true hb
   have:f.abs.ts[d]?=some (f.t.get d):=by simp[TF.abs,hlt]
   rw[this]
   simp only
   split
   ·rename_i b hq;simp only [Option.some.injEq] at hq;rw[hq]
   ·rename_i hq
    split
    ·rename_i b hq2;exact absurd (by rw[hq2]) (hq b)
    ·rfl
  | false =>
   have hlt:¬ d<f.len:=fun hlt=>by
    have:Nat.blt d f.len=true:=Nat.ble_eq_true_of_le hlt
    rw[this] at hb;cases hb
   have:f.abs.ts[d]?=none:=List.getElem?_eq_none (by simpa[TF.abs] using hlt)
   rw[this]
def Tr.fill:Nat→List AV→Tr→Tr
 | _,[],t=>t
 | i,v::l,t=>Tr.fill (i+1) l (Tr.set 20 t i v)
theorem Tr.Uf:∀ (l:List AV)(i:Nat)(t:Tr)(j:Nat),i+l.length≤Kr→(Tr.fill i l t).get j=if i≤j∧j<i+l.length then l.getD (j-i) Bx else t.get j
 | [],i,t,j,_=>by
  rw[if_neg (by simp)];rfl
 | v::l,i,t,j,h=>by
  simp only [List.length_cons] at h
  simp only [Tr.fill]
  rw[Tr.Uf l (i+1) _ j (by omega),Tr.Hw 20 t i j v (by unfold Kr at h;omega)]
  simp only [List.length_cons]
  by_cases hj:j=i
  ·subst hj
   rw[if_neg (by omega),if_pos rfl,if_pos (by omega)]
   simp
  ·by_cases h2:i+1≤j∧j<i+1+l.length
   ·rw[if_pos h2,if_pos (by omega)]
    have:j-i=(j-(i+1))+1:=by omega
    rw[this];simp
   ·rw[if_neg h2,if_neg hj,if_neg (by omega)]
def TF.of (l:List AV)(n:Nat):TF:=⟨Tr.fill 0 l .nil,max l.length n,[]⟩
theorem TF.oF {l:List AV}{n:Nat}(h:max l.length n≤Kr):(TF.of l n).abs=⟨l++List.replicate (n-l.length) Bx,[]⟩:=by
 unfold TF.of TF.abs
 simp only
 congr 1
 apply List.ext_getElem
 ·simp;omega
 ·intro i h1 h2
  simp only [List.length_map,List.length_range] at h1
  rw[List.getElem_map,List.getElem_range,Tr.Uf l 0 .nil i (by omega)]
  by_cases hi:i<l.length
  ·rw[if_pos (by omega),List.getElem_append_left hi]
   simp[List.getD_eq_getElem?_getD,hi]
  ·rw[if_neg (by omega),List.getElem_append_right (by omega)]
   simp[Tr.get]
end Go.Ev
namespace Go.Ev
section
variable {P:Program}{T:Ti}{X:St→(Operand→AV)→Oper→Option (List (AV × St))}{call:Dw}
def Jf (ops:Array Oper)(f:TF)(o:Oper):Bool:=match o.guard with
 | none=>true
 | some _=>Region.wanted o (f.y ops)
theorem So (ops:Array Oper)(f:TF)(o:Oper):Region.wanted o (yA ops f.abs.ts)=Jf ops f o:=by
 rw[TF.xQ]
 unfold Jf
 cases hg:o.guard with
 | none=>unfold Region.wanted;rw[hg]
 | some g=>rfl
variable (T) in
def lightT (ops:Array Oper)(h:Hp)(f:TF)(o:Oper):Option AV:=match Jf ops f o with
 | true=>evG T h f.av o
 | false=>some Bx
theorem Nc {ops:Array Oper}{h:Hp}{f:TF}{i:Nat}{o:Oper}(ho:ops[i]?=some o):lightV T ops h f.abs i=lightT T ops h f o:=by
 unfold lightV lightT
 simp only [ho,So,TF.Ux]
 cases Jf ops f o<;>rfl
variable (T X call) in
def evOps2 (ops:Array Oper):List Oper→TF→St→Option (List (TF × St))
 | [],f,st=>some [(f,st)]
 | o::l,f,st=>match lightT T ops st.h f o with
  | some r=>evOps2 ops l (f.put o.dst r) st
  | none=>match Lg o&&Jf ops f o with
   | true=>match heavy T X call st f.av o with
    | some outs=>bindL outs fun x=>evOps2 ops l (f.put o.dst x.1) x.2
    | none=>none
   | false=>none
theorem Qx (hT:TOk P T)(hX:XOk P X)(hc:Lt P call){rd:Option Nat}{ops:Array Oper}{K:Fm→St→Prop}:∀ (l:List Oper)(i:Nat){f:TF}{st:St}{outs:List (TF × St)},f.ok→l=ops.toList.drop i→evOps2 T X call ops l f st=some outs→(∀ x∈outs,x.1.ok→K x.1.abs x.2) →
  Ac P rd ops (List.range' i l.length) K f.abs st
 | [],i,f,st,outs,hf,hl,h,hk=>by
  simp only [evOps2,Option.some.injEq] at h
  subst h
  exact .nil (hk (f,st) (List.mem_singleton.2 rfl) hf)
 | o::l,i,f,st,outs,hf,hl,h,hk=>by
  have ho:ops[i]?=some o:=by
   have h1:(ops.toList.drop i)[0]?=some o:=by rw[←hl];rfl
   rw[List.getElem?_drop] at h1
   simpa using h1
  have hl':l=ops.toList.drop (i+1):=by
   have h1:(ops.toList.drop i).drop 1=l:=by rw[←hl];rfl
   rw[←h1,List.drop_drop]
  rw[List.length_cons,List.range'_succ]
  simp only [evOps2] at h
  split at h
  ·rename_i r hr
   rw[←Nc ho] at hr
   refine Ac.lightV hT ho hr ?_
   rw[←TF.Nh hf]
   exact Qx hT hX hc l (i+1) (TF.Qm hf _ _) hl' h hk
  ·split at h
   ·rename_i hb
    simp only [Bool.and_eq_true] at hb
    split at h
    ·rename_i os hos
     rw[←TF.Ux] at hos
     refine Ac.cons ho (Zk hb.1) ((aX hT hX hc ho (by rw[So];exact hb.2) hos).mono fun f' st' ⟨v,hf',hm⟩=>?_)
     subst hf'
     obtain⟨x,h1,h2⟩:=Fl h (v,st') hm
     rw[←TF.Nh hf]
     exact Qx hT hX hc l (i+1) (TF.Qm hf _ _) hl' h1 fun y hy=>hk y (h2 y hy)
    ·cases h
   ·cases h
def Fy (es:List Nat):Nat:=es.foldr (fun e m=>(1 <<< e) ||| m) 0
theorem Jp:∀ (es:List Nat)(i:Nat),(Fy es).testBit i=decide (i∈es)
 | [],i=>by simp[Fy]
 | e::es,i=>by
  have ih:=Jp es i
  unfold Fy at *
  rw[List.foldr_cons,Nat.testBit_or,ih,Nat.one_shiftLeft,Nat.testBit_two_pow]
  by_cases h:e=i
  ·subst h;simp
  ·by_cases h2:i∈es<;>simp[h,h2,Ne.symm h]
theorem iT {es:List Nat}{L:Nat}:Nat.beq (Nat.land (Fy es) L) (Fy es)=es.all fun e=>L.testBit e:=by
 have h1:Nat.beq (Nat.land (Fy es) L) (Fy es)=true↔(es.all fun e=>L.testBit e)=true:=by
  rw[show(Nat.beq (Nat.land (Fy es) L) (Fy es)=true)=(Nat.land (Fy es) L=Fy es) from propext ⟨Nat.eq_of_beq_eq_true,fun h=>by rw[h];exact Nat.beq_refl _⟩,List.all_eq_true]
  constructor
  ·intro h e he
   have:(Nat.land (Fy es) L).testBit e=(Fy es).testBit e:=by rw[h]
   rw[show Nat.land (Fy es) L=Fy es &&& L from rfl,Nat.testBit_and,Jp] at this
   simpa[he] using this
  ·intro h
   apply Nat.eq_of_testBit_eq
   intro i
   rw[show Nat.land (Fy es) L=Fy es &&& L from rfl,Nat.testBit_and,Jp]
   by_cases hi:i∈es
   ·simp[hi,h i hi]
   ·simp[hi]
 cases h2:Nat.beq (Nat.land (Fy es) L) (Fy es) with
 | true=>exact(h1.1 h2).symm
 | false =>
  cases h3:es.all fun e=>L.testBit e with
  | true=>rw[h1.2 h3] at h2;cases h2
  | false=>rfl
def freeB (ops:Array Oper)(M:List Nat)(i:Nat)(o:Oper):Bool:=match o.dst with
 | none=>true
 | some d=>(List.range ops.size).all fun j=>j == i||match ops[j]? with
  | some q=>!((q.looksAt ops).contains d)||(M.getD j 0).testBit i
  | none=>true
structure En where
 i:Nat
 o:Oper
 em:Nat
 fr:Bool
def infoAt (ops:Array Oper)(M:List Nat)(i:Nat):Option En:=(ops[i]?).map fun o=>⟨i,o,Fy (Bt o),freeB ops M i o⟩
def Ns (ops:Array Oper)(M:List Nat):List En:=(List.range ops.size).filterMap (infoAt ops M)
def Qk (L:Nat)(x:En):Bool:=Nat.beq (Nat.land x.em L) x.em
structure Inv (ops:Array Oper)(M:List Nat)(listed:Array Bool)(un:List En)(L:Nat):Prop where
 un:un=(Ns ops M).filter fun x=>!(listed.getD x.i true)
 size:listed.size=ops.size
 bits:∀ i,L.testBit i=listed.getD i false
theorem Fh {ops:Array Oper}{M:List Nat}{i:Nat}{x:En}(h:infoAt ops M i=some x):x.i=i∧ops[i]?=some x.o∧x.em=Fy (Bt x.o)∧x.fr=freeB ops M i x.o:=by
 unfold infoAt at h
 cases ho:ops[i]? with
 | none=>rw[ho] at h;cases h
 | some o=>rw[ho] at h;cases h;exact⟨rfl,rfl,rfl,rfl⟩
theorem Ri {α β:Type}{g:α→Option β}{r:α→Bool}{p:β→Bool}{fst:β→α}:∀ (l:List α),(∀ a∈l,match g a with|some x=>r a=p x∧fst x=a|none=>r a=false)→l.filter r=((l.filterMap g).filter p).map fst
 | [],_=>rfl
 | a::l,h=>by
  have ha:=h a List.mem_cons_self
  have ih:=Ri l fun b hb=>h b (List.mem_cons_of_mem _ hb)
  cases hg:g a with
  | none =>
   rw[hg] at ha
   rw[List.filter_cons,List.filterMap_cons,hg]
   simp only at ha
   simp only [ha,Bool.false_eq_true,if_false]
   exact ih
  | some x =>
   rw[hg] at ha
   simp only at ha
   rw[List.filter_cons,List.filterMap_cons,hg]
   simp only
   rw[List.filter_cons,ha.1]
   cases p x with
   | true=>simp only [if_true,List.map_cons,ha.2,ih]
   | false=>simp only [Bool.false_eq_true,if_false,ih]
theorem Inv.ready {ops:Array Oper}{M:List Nat}{listed:Array Bool}{un:List En}{L:Nat}(h:Inv ops M listed un L):Region.ready .any ops listed=(un.filter (Qk L)).map (·.i):=by
 rw[h.un,List.filter_filter]
 unfold Ns Region.ready
 refine Ri _ fun i hi=>?_
 cases hx:infoAt ops M i with
 | none =>
  unfold infoAt at hx
  cases ho:ops[i]? with
  | none=>simp
  | some o=>rw[ho] at hx;cases hx
 | some x =>
  obtain⟨h1,h2,h3,_⟩:=Fh hx
  simp only
  refine⟨?_,h1⟩
  rw[h2,h1]
  simp only [Option.map_some,Option.getD_some]
  unfold Qk
  rw[h3,iT,Bool.and_comm]
  congr 1
  rw[Bool.eq_iff_iff,List.all_eq_true,Array.all_eq_true_iff_forall_mem]
  constructor
  ·intro hA e he
   obtain⟨y,hy,hb,rfl⟩:=Gk.1 he
   have:=hA y hy
   simp only [hb,Bool.not_true,Bool.false_or] at this
   rw[h.bits];exact this
  ·intro hA y hy
   cases hb:Region.binds .any y with
   | false=>simp
   | true =>
    have:=hA y.on (Gk.2 ⟨y,hy,hb,rfl⟩)
    rw[h.bits] at this
    simp[this]
def Mu (i:Nat)(un:List En):List En:=un.filter fun x=>!(Nat.beq x.i i)
theorem Inv.set {ops:Array Oper}{M:List Nat}{listed:Array Bool}{un:List En}{L:Nat}(h:Inv ops M listed un L){i:Nat}(hi:i<ops.size):Inv ops M (listed.setIfInBounds i true) (Mu i un) (Nat.lor (1 <<< i) L):=by
 have hi':i<listed.size:=by rw[h.size];exact hi
 refine⟨?_,by simp[h.size],fun j=>?_⟩
 ·unfold Mu
  rw[h.un,List.filter_filter]
  refine List.filter_congr fun x _=>?_
  by_cases hx:x.i=i
  ·subst hx
   simp[hi']
  ·have:Nat.beq x.i i=false:=by
    cases hb:Nat.beq x.i i with
    | false=>rfl
    | true=>exact absurd (Nat.eq_of_beq_eq_true hb) hx
   rw[this,getD_set_ne true (Ne.symm hx)]
   simp
 ·rw[show Nat.lor (1 <<< i) L=1 <<< i ||| L from rfl,Nat.testBit_or,Nat.one_shiftLeft,Nat.testBit_two_pow,h.bits]
  by_cases hij:i=j
  ·subst hij;simp[hi']
  ·rw[getD_set_ne false hij];simp[hij]
variable (T) in
def pendOkT (ops:Array Oper)(Af:List (Nat × AV))(f:TF)(h:Hp):Bool:=Af.all fun p=>match ops[p.1]? with
 | none=>false
 | some o=>match lightT T ops h f o with
  | some r=>avEq r p.2
  | none=>false
theorem Ir {ops:Array Oper}{Af:List (Nat × AV)}{f:TF}{h:Hp}(hp:pendOkT T ops Af f h=true):Cc T ops Af f.abs h:=fun p hm=>by
 have:=List.all_eq_true.1 hp p hm
 split at this
 ·cases this
 ·rename_i o ho
  rw[Nc ho]
  split at this
  ·rename_i r hr;rw[hr,Lr this]
  ·cases this
variable (T) in
def pickE (ops:Array Oper)(L:Nat)(h:Hp)(f:TF):List En→Option (En × AV)
 | []=>none
 | x::l=>match x.fr&&Qk L x with
  | false=>pickE ops L h f l
  | true=>match lightT T ops h f x.o with
   | some r=>some (x,r)
   | none=>pickE ops L h f l
theorem kY {ops:Array Oper}{L:Nat}{h:Hp}{f:TF}{x:En}{r:AV}:∀ {l:List En},pickE T ops L h f l=some (x,r)→x∈l.filter (Qk L)∧x.fr=true∧lightT T ops h f x.o=some r:=by
 intro l
 induction l with
 | nil=>intro hp;cases hp
 | cons y l ih =>
  intro hp
  have later:pickE T ops L h f l=some (x,r)→x∈(y::l).filter (Qk L)∧x.fr=true∧lightT T ops h f x.o=some r:=fun h1=>by
   obtain⟨h2,h3⟩:=ih h1
   refine⟨?_,h3⟩
   rw[List.mem_filter] at *
   exact⟨List.mem_cons_of_mem _ h2.1,h2.2⟩
  unfold pickE at hp
  split at hp
  ·exact later hp
  ·rename_i hb
   simp only [Bool.and_eq_true] at hb
   split at hp
   ·rename_i r' hr
    simp only [Option.some.injEq,Prod.mk.injEq] at hp
    obtain⟨rfl,rfl⟩:=hp
    exact⟨List.mem_filter.2 ⟨List.mem_cons_self,hb.2⟩,hb.1,hr⟩
   ·exact later hp
variable (T X call) in
def evDrawn2 (ops:Array Oper)(M:List Nat):Nat→List (Nat × AV)→List En→Nat→TF→St→Option (List (TF × St))
 | 0,Af,un,L,f,st=>match pendOkT T ops Af f st.h&&(un.filter (Qk L)).isEmpty with
  | true=>some [(f,st)]
  | false=>none
 | fuel+1,Af,un,L,f,st =>
  match pickE T ops L st.h f un with
  | some (x,r)=>evDrawn2 ops M fuel ((x.i,r)::Af) (Mu x.i un) (Nat.lor (1 <<< x.i) L) (f.put x.o.dst r) st
  | none=>match pendOkT T ops Af f st.h with
   | false=>none
   | true=>match un.filter (Qk L) with
    | []=>some [(f,st)]
    | y::ys=>bindL (y::ys) fun x=>match lightT T ops st.h f x.o with
     | some r=>evDrawn2 ops M fuel (Cg M x.i Af) (Mu x.i un) (Nat.lor (1 <<< x.i) L) (f.put x.o.dst r) st
     | none=>match Jf ops f x.o with
      | true=>match heavy T X call st f.av x.o with
       | some outs=>bindL outs fun z=>evDrawn2 ops M fuel (Cg M x.i Af) (Mu x.i un) (Nat.lor (1 <<< x.i) L) (f.put x.o.dst z.1) z.2
       | none=>none
      | false=>none
theorem Inv.mem {ops:Array Oper}{M:List Nat}{listed:Array Bool}{un:List En}{L:Nat}(h:Inv ops M listed un L){x:En}(hx:x∈un.filter (Qk L)):x.i∈Region.ready .any ops listed∧ops[x.i]?=some x.o∧x.fr=freeB ops M x.i x.o:=by
 refine⟨by rw[h.ready];exact List.mem_map_of_mem hx,?_⟩
 have h1:=(List.mem_filter.1 hx).1
 rw[h.un] at h1
 have h2:=(List.mem_filter.1 h1).1
 unfold Ns at h2
 rw[List.mem_filterMap] at h2
 obtain⟨i,_,h3⟩:=h2
 obtain⟨h4,h5,_,h6⟩:=Fh h3
 rw[h4]
 exact⟨h5,h6⟩
theorem Pw {ops:Array Oper}{M:List Nat}(hM:Tidy ops M){listed:Array Bool}{Af:List (Nat × AV)}{i:Nat}{o:Oper}(ho:ops[i]?=some o)(hc:Ck ops listed)(hpl:PL Af listed)(hr:i∈Region.ready .any ops listed)(h:freeB ops M i o=true) :
  ∀ p∈Af,∀ q,ops[p.1]?=some q→∀ d,o.dst=some d→d∉q.looksAt ops:=fun p hp q hq d hd hm=>by
 unfold freeB at h
 rw[hd] at h
 obtain⟨_,_,h0,_⟩:=Cb hr
 have h1:=List.all_eq_true.1 h p.1 (List.mem_range.2 (Array.getElem?_eq_some_iff.1 hq).1)
 simp only [hq,Bool.or_eq_true,beq_iff_eq,Bool.not_eq_true'] at h1
 rcases h1 with h1|h1|h1
 ·have:=hpl p hp
  rw[h1,Fa h0] at this;cases this
 ·rw[List.contains_iff_mem.2 hm] at h1;cases h1
 ·have:=Ck.anc hM hc (Array.getElem?_eq_some_iff.1 ho).1 p.1 q hq (hc p.1 q hq (hpl p hp)) h1
  rw[Fa h0] at this;cases this
theorem Inv.start (ops:Array Oper)(M:List Nat):Inv ops M (Array.replicate ops.size false) (Ns ops M) 0:=by
 refine⟨?_,by simp,fun i=>?_⟩
 ·symm
  rw[List.filter_eq_self]
  intro x hx
  unfold Ns at hx
  rw[List.mem_filterMap] at hx
  obtain⟨i,h1,h2⟩:=hx
  rw[(Fh h2).1]
  simp[List.mem_range.1 h1]
 ·simp only [Nat.zero_testBit,Array.getD_eq_getD_getElem?,Array.getElem?_replicate]
  split<;>rfl
end
end Go.Ev
namespace Go.Ev
mutual
def renV (ρ:Nat→Option Nat):AV→Option AV
 | .lit v=>some (.lit v)
 | .ptr i o=>match ρ i with
  | some j=>some (.ptr j o)
  | none=>none
 | .sl i a b c d=>match ρ i with
  | some j=>some (.sl j a b c d)
  | none=>none
 | .mp i=>match ρ i with
  | some j=>some (.mp j)
  | none=>none
 | .yld i=>match ρ i with
  | some j=>some (.yld j)
  | none=>none
 | .fn f a b=>match renL ρ a,renL ρ b with
  | some a',some b'=>some (.fn f a' b')
  | _,_=>none
 | .agg a=>match renL ρ a with
  | some a'=>some (.agg a')
  | none=>none
 | .tup a=>match renL ρ a with
  | some a'=>some (.tup a')
  | none=>none
def renL (ρ:Nat→Option Nat):List AV→Option (List AV)
 | []=>some []
 | a::r=>match renV ρ a with
  | none=>none
  | some a'=>match renL ρ r with
   | some r'=>some (a'::r')
   | none=>none
end
def Ws (ρ:Nat→Option Nat)(φ φ':Fi):Prop:=∀ i j,ρ i=some j→i<φ.n→φ'.f j=φ.f i∧j<φ'.n
mutual
theorem Pf {ρ:Nat→Option Nat}{φ φ':Fi}(hρ:Ws ρ φ φ'):∀ {a a':AV}{u:Value},renV ρ a=some a'→VR φ a u→VR φ' a' u:=by
 intro a a' u h hv
 unfold renV at h
 split at h
 ·cases h;obtain rfl:=hv.Au;exact .lit _
 ·split at h
  ·rename_i j hj
   cases h
   obtain⟨rfl,hi⟩:=hv.Dn
   obtain⟨h1,h2⟩:=hρ _ _ hj hi
   rw[←h1];exact .ptr j _ h2
  ·cases h
 ·split at h
  ·rename_i j hj
   cases h
   obtain⟨cap,rfl,hi,h3,h4,h5⟩:=hv.Dy
   obtain⟨h1,h2⟩:=hρ _ _ hj hi
   rw[←h1] at h5 ⊢
   exact .sl j _ _ _ _ cap h2 h3 h4 h5
  ·cases h
 ·split at h
  ·rename_i j hj
   cases h
   obtain⟨rfl,hi⟩:=hv.Ml
   obtain⟨h1,h2⟩:=hρ _ _ hj hi
   rw[←h1];exact .mp j h2
  ·cases h
 ·split at h
  ·rename_i j hj
   cases h
   obtain⟨rfl,hi⟩:=hv.Rz
   obtain⟨h1,h2⟩:=hρ _ _ hj hi
   rw[←h1];exact .yld j h2
  ·cases h
 ·rename_i f a b
  split at h
  ·rename_i a' b' ha hb
   cases h
   obtain⟨us,vs,rfl,h1,h2⟩:=hv.Gf
   exact .fn f (Hs hρ ha h1) (Hs hρ hb h2)
  ·cases h
 ·split at h
  ·rename_i a' ha
   cases h
   obtain⟨us,rfl,h1⟩:=hv.Bz
   exact .agg (Hs hρ ha h1)
  ·cases h
 ·split at h
  ·rename_i a' ha
   cases h
   obtain⟨us,rfl,h1⟩:=hv.Kw
   exact .tup (Hs hρ ha h1)
  ·cases h
theorem Hs {ρ:Nat→Option Nat}{φ φ':Fi}(hρ:Ws ρ φ φ'):∀ {a a':List AV}{u:List Value},renL ρ a=some a'→VRL φ a u→VRL φ' a' u:=by
 intro a a' u h hv
 unfold renL at h
 split at h
 ·cases h;cases hv;exact .nil
 ·split at h
  ·cases h
  ·rename_i x hx
   split at h
   ·rename_i r hr
    cases h
    cases hv with
    | cons h1 h2=>exact .cons (Pf hρ hx h1) (Hs hρ hr h2)
   ·cases h
end
theorem Zg {ρ:Nat→Option Nat}:∀ {a a':List AV}{i:Nat}{x':AV},renL ρ a=some a'→a'[i]?=some x'→∃ x,a[i]?=some x∧renV ρ x=some x'
 | [],a',i,x',h,hx=>by simp only [renL,Option.some.injEq] at h;subst h;simp at hx
 | y::r,a',i,x',h,hx=>by
  simp only [renL] at h
  split at h
  ·cases h
  ·rename_i y' hy
   split at h
   ·rename_i r' hr
    cases h
    cases i with
    | zero=>simp only [List.getElem?_cons_zero,Option.some.injEq] at hx ⊢;subst hx;exact⟨y,rfl,hy⟩
    | succ i=>rw[List.getElem?_cons_succ] at hx ⊢;exact Zg hr hx
   ·cases h
theorem Tj {ρ:Nat→Option Nat}:∀ {a a':List AV},renL ρ a=some a'→a'.length=a.length
 | [],a',h=>by simp only [renL,Option.some.injEq] at h;subst h;rfl
 | y::r,a',h=>by
  simp only [renL] at h
  split at h
  ·cases h
  ·split at h
   ·rename_i r' hr;cases h;simp[Tj hr]
   ·cases h
def renEs (ρ:Nat→Option Nat):List (AV × AV × Nat)→Option (List (AV × AV × Nat))
 | []=>some []
 | x::r=>match renV ρ x.1,renV ρ x.2.1,renEs ρ r with
  | some a,some b,some r'=>some ((a,b,x.2.2)::r')
  | _,_,_=>none
theorem Vz {ρ:Nat→Option Nat}:∀ {a a':List (AV × AV × Nat)},renEs ρ a=some a'→a'.length=a.length∧∀ (i:Nat)(x':AV × AV × Nat),a'[i]?=some x'→∃ x,a[i]?=some x∧renV ρ x.1=some x'.1∧renV ρ x.2.1=some x'.2.1∧x'.2.2=x.2.2
 | [],a',h=>by simp only [renEs,Option.some.injEq] at h;subst h;exact⟨rfl,fun i x hx=>by simp at hx⟩
 | y::r,a',h=>by
  simp only [renEs] at h
  split at h
  ·rename_i a b r' h1 h2 h3
   cases h
   obtain⟨k1,k2⟩:=Vz h3
   refine⟨by simp[k1],fun i x hx=>?_⟩
   cases i with
   | zero=>simp only [List.getElem?_cons_zero,Option.some.injEq] at hx ⊢;subst hx;exact⟨y,rfl,h1,h2,rfl⟩
   | succ i=>rw[List.getElem?_cons_succ] at hx ⊢;exact k2 i x hx
  ·cases h
def renO (ρ:Nat→Option Nat):AObj→Option AObj
 | .cells none ro cs=>match renL ρ cs with
  | some cs'=>some (.cells none ro cs')
  | none=>none
 | .cells (some g) ro cs=>match ρ g,renL ρ cs with
  | some g',some cs'=>some (.cells (some g') ro cs')
  | _,_=>none
 | .loop r=>match renL ρ r.tmps,ρ r.dfid with
  | some ts,some d=>some (.loop { r with tmps:=ts,dfid:=d})
  | _,_=>none
 | .dfr=>some .dfr
 | .map es c=>match renEs ρ es with
  | some es'=>some (.map es' c)
  | none=>none
 | .iter mid a b c=>match ρ mid with
  | some m=>some (.iter m a b c)
  | none=>none
theorem Tg {ρ:Nat→Option Nat}{o o':AObj}(h:renO ρ o=some o'):o'.own=o.own:=by
 unfold renO at h
 split at h<;>(try split at h)<;>cases h<;>rfl
theorem Zf {ρ:Nat→Option Nat}{o o':AObj}(h:renO ρ o=some o'){g:Nat}(hg:o.fam=some g):ρ g=o'.fam∧(ρ g).isSome:=by
 unfold renO at h
 split at h<;>(try split at h)<;>cases h<;>simp_all [AObj.fam]
theorem Pg {ρ:Nat→Option Nat}{φ φ':Fi}(hρ:Ws ρ φ φ'){w:World}{i j:Nat}(hij:φ'.f j=φ.f i){o o':AObj}(h:renO ρ o=some o')(ho:Cx φ w i o):Cx φ' w j o':=by
 have cells:∀ {fm fm':Option Nat}{ro:Bool}{cs cs':List AV},renL ρ cs=some cs'→Cx φ w i (.cells fm ro cs)→Cx φ' w j (.cells fm' ro cs'):=fun {fm fm' ro cs cs'} hc h1=>by
  refine⟨fun k a ha=>?_,fun hro=>?_⟩
  ·obtain⟨x,hx,hr⟩:=Zg hc ha
   obtain⟨v,hv,hr2⟩:=h1.1 k x hx
   exact⟨v,by rw[hij];exact hv,Pf hρ hr hr2⟩
  ·obtain⟨c,t,k1,k2,k3⟩:=h1.2 hro
   exact⟨c,t,by rw[hij];exact k1,by rw[hij];exact k2,by rw[hij,Tj hc];exact k3⟩
 unfold renO at h
 split at h
 ·split at h
  ·rename_i hc;cases h;exact cells hc ho
  ·cases h
 ·split at h
  ·rename_i _ hc;cases h;exact cells hc ho
  ·cases h
 ·split at h
  ·rename_i ts d h1 h2
   cases h
   obtain⟨L,g1,g2,g3,g4,g5,g6,g7,g8,g9⟩:=ho
   obtain⟨k1,k2⟩:=hρ _ _ h2 g8
   exact⟨L,by rw[hij];exact g1,g2,g3,Hs hρ h1 g4,g5,g6,g7,k2,by rw[k1];exact g9⟩
  ·cases h
 ·cases h;show _=_;rw[hij];exact ho
 ·split at h
  ·rename_i es' hes
   cases h
   obtain⟨ces,h1,h2,h3⟩:=ho
   obtain⟨k1,k2⟩:=Vz hes
   refine⟨ces,by rw[hij];exact h1,by rw[h2,k1],fun q x hx=>?_⟩
   obtain⟨y,m1,m2,m3,m4⟩:=k2 q x hx
   obtain⟨e,n1,n2,n3,n4⟩:=h3 q y m1
   exact⟨e,n1,Pf hρ m2 n2,Pf hρ m3 n3,by rw[n4,m4]⟩
  ·cases h
 ·split at h
  ·rename_i m hm
   cases h
   obtain⟨h1,h2,h3⟩:=ho
   obtain⟨k1,k2⟩:=hρ _ _ hm h3
   exact⟨by rw[hij,k1];exact h1,by rw[hij];exact h2,k2⟩
  ·cases h
def posOf (i:Nat):Nat→List Nat→Option Nat
 | _,[]=>none
 | k,x::r=>if Nat.beq x i then some k else posOf i (k+1) r
theorem Tl {i:Nat}:∀ {l:List Nat}{k j:Nat},posOf i k l=some j→∃ idx,j=k+idx∧l[idx]?=some i
 | x::r,k,j,h=>by
  simp only [posOf] at h
  split at h
  ·rename_i hb
   cases h
   exact⟨0,rfl,by rw[Nat.eq_of_beq_eq_true hb];rfl⟩
  ·obtain⟨idx,h1,h2⟩:=Tl h
   exact⟨idx+1,by omega,by rw[List.getElem?_cons_succ];exact h2⟩
 | [],k,j,h=>by cases h
def rho (n0:Nat)(ord:List Nat)(i:Nat):Option Nat:=if Nat.blt i n0 then some i else posOf i n0 ord
def phi (n0:Nat)(ord:List Nat)(φ:Fi):Fi:=⟨fun j=>if j<n0 then φ.f j else φ.f (ord.getD (j-n0) 0),n0+ord.length⟩
theorem Lh {n0:Nat}{ord:List Nat}{φ:Fi}{j:Nat}(h:j<n0):(phi n0 ord φ).f j=φ.f j:=if_pos h
theorem eZ {n0:Nat}{ord:List Nat}{φ:Fi}{idx i:Nat}(h:ord[idx]?=some i):(phi n0 ord φ).f (n0+idx)=φ.f i:=by
 unfold phi
 simp only
 rw[if_neg (by omega)]
 congr 1
 rw[Nat.add_sub_cancel_left,List.getD_eq_getElem?_getD,h];rfl
theorem Xd (n0:Nat)(ord:List Nat)(φ:Fi):Ws (rho n0 ord) φ (phi n0 ord φ):=by
 intro i j h _
 unfold rho at h
 split at h
 ·rename_i hb
  cases h
  have hb:i<n0:=Nat.le_of_ble_eq_true hb
  exact⟨Lh hb,by unfold phi;simp only;omega⟩
 ·obtain⟨idx,rfl,h2⟩:=Tl h
  have:=(List.getElem?_eq_some_iff.1 h2).1
  exact⟨eZ h2,by unfold phi;simp only;omega⟩
def renOld (ρ:Nat→Option Nat)(n0:Nat):Hp→Option Hp
 | []=>some []
 | x::r=>match Nat.blt x.1 n0 with
  | false=>renOld ρ n0 r
  | true=>match renO ρ x.2 with
   | none=>none
   | some o=>match renOld ρ n0 r with
    | some r'=>some ((x.1,o)::r')
    | none=>none
def Gq (ρ:Nat→Option Nat)(h:Hp):Nat→List Nat→Option Hp
 | _,[]=>some []
 | k,i::l=>match h.get i with
  | none=>none
  | some o=>match renO ρ o with
   | none=>none
   | some o'=>match Gq ρ h (k+1) l with
    | some r=>some ((k,o')::r)
    | none=>none
theorem Og {ρ:Nat→Option Nat}{n0:Nat}:∀ {h h':Hp}{j:Nat}{x:AObj},renOld ρ n0 h=some h'→h'.get j=some x→j<n0∧∃ o,h.get j=some o∧renO ρ o=some x
 | [],h',j,x,hr,hx=>by simp only [renOld,Option.some.injEq] at hr;subst hr;cases hx
 | (i,y)::r,h',j,x,hr,hx=>by
  simp only [renOld] at hr
  split at hr
  ·rename_i hb
   obtain⟨h1,o,h2,h3⟩:=Og hr hx
   have:¬ i=j:=fun e=>by
    subst e
    have:Nat.blt i n0=true:=Nat.ble_eq_true_of_le h1
    rw[this] at hb;cases hb
   exact⟨h1,o,by simp only [Hp.get,this,if_false];exact h2,h3⟩
  ·rename_i hb
   have hb:i<n0:=Nat.le_of_ble_eq_true hb
   split at hr
   ·cases hr
   ·rename_i o ho
    split at hr
    ·rename_i r' hr'
     cases hr
     by_cases hij:i=j
     ·subst hij
      simp only [Hp.get,if_true,Option.some.injEq] at hx ⊢
      subst hx
      exact⟨hb,y,rfl,ho⟩
     ·simp only [Hp.get,hij,if_false] at hx ⊢
      exact Og hr' hx
    ·cases hr
theorem Th {ρ:Nat→Option Nat}{h:Hp}:∀ {l:List Nat}{k:Nat}{h':Hp}{j:Nat}{x:AObj},Gq ρ h k l=some h'→h'.get j=some x→∃ idx i o,j=k+idx∧l[idx]?=some i∧h.get i=some o∧renO ρ o=some x
 | [],k,h',j,x,hr,hx=>by simp only [Gq,Option.some.injEq] at hr;subst hr;cases hx
 | i::l,k,h',j,x,hr,hx=>by
  simp only [Gq] at hr
  split at hr
  ·cases hr
  ·rename_i o ho
   split at hr
   ·cases hr
   ·rename_i o' ho'
    split at hr
    ·rename_i r hr'
     cases hr
     by_cases hj:k=j
     ·subst hj
      simp only [Hp.get,if_true,Option.some.injEq] at hx
      subst hx
      exact⟨0,i,o,rfl,rfl,ho,ho'⟩
     ·simp only [Hp.get,hj,if_false] at hx
      obtain⟨idx,i2,o2,h1,h2,h3⟩:=Th hr' hx
      exact⟨idx+1,i2,o2,by omega,by rw[List.getElem?_cons_succ];exact h2,h3⟩
    ·cases hr
theorem Hp.get_append {j:Nat}{x:AObj}:∀ {a b:Hp},Hp.get (a++b) j=some x→Hp.get a j=some x∨Hp.get b j=some x
 | [],b,h=>.inr h
 | (i,y)::r,b,h=>by
  by_cases hij:i=j
  ·simp only [List.cons_append,Hp.get,hij,if_true] at h ⊢;exact .inl h
  ·simp only [List.cons_append,Hp.get,hij,if_false] at h ⊢;exact Hp.get_append h
theorem Tf {n0:Nat}{ord:List Nat}{φ:Fi}{st:St}{w:World}{a b:Hp}(hr:Rel φ st w)(hn:ord.Nodup)(hge:∀ i∈ord,n0≤i)(ha:renOld (rho n0 ord) n0 st.h=some a)(hb:Gq (rho n0 ord) st.h n0 ord=some b) :
  Rel (phi n0 ord φ) ⟨b++a,n0+ord.length⟩ w∧∀ k,Fo (phi n0 ord φ) ⟨b++a,n0+ord.length⟩ k→Fo φ st k:=by
 have hρ:=Xd n0 ord φ
 have orig:∀ j x,Hp.get (b++a) j=some x→∃ i o,st.h.get i=some o∧renO (rho n0 ord) o=some x∧(phi n0 ord φ).f j=φ.f i∧j<n0+ord.length∧((j<n0∧i=j)∨∃ idx,j=n0+idx∧ord[idx]?=some i):=fun j x hx=>by
  rcases Hp.get_append hx with h|h
  ·obtain⟨idx,i,o,h1,h2,h3,h4⟩:=Th hb h
   have:=(List.getElem?_eq_some_iff.1 h2).1
   subst h1
   exact⟨i,o,h3,h4,eZ h2,by omega,.inr ⟨idx,rfl,h2⟩⟩
  ·obtain⟨h1,o,h2,h3⟩:=Og ha h
   exact⟨j,o,h2,h3,Lh h1,by omega,.inl ⟨h1,rfl⟩⟩
 refine⟨⟨rfl,fun j x hx=>?_,fun j x hx=>?_,fun j x hx=>?_,fun j1 j2 x1 x2 h1 h2 hne hown hbb=>?_⟩,fun k ⟨j,x,hx,hown,hk⟩=>?_⟩
 ·obtain⟨i,o,_,_,_,h,_⟩:=orig j x hx;exact h
 ·obtain⟨i,o,h1,_,h3,_⟩:=orig j x hx;rw[h3];exact hr.blk i o h1
 ·obtain⟨i,o,h1,h2,h3,_⟩:=orig j x hx;exact Pg hρ h3 h2 (hr.obj i o h1)
 ·obtain⟨i1,o1,k1,k2,k3,_,k5⟩:=orig j1 x1 h1
  obtain⟨i2,o2,m1,m2,m3,_,m5⟩:=orig j2 x2 h2
  have hii:i1≠i2:=fun e=>by
   subst e
   rcases k5 with ⟨k6,rfl⟩|⟨a1,rfl,k6⟩
   ·rcases m5 with ⟨_,m6⟩|⟨a2,rfl,m6⟩
    ·exact hne m6
    ·have:=hge _ (List.mem_of_getElem? m6);omega
   ·rcases m5 with ⟨m7,m6⟩|⟨a2,rfl,m6⟩
    ·have:=hge _ (List.mem_of_getElem? k6);omega
    ·obtain⟨q1,q2⟩:=List.getElem?_eq_some_iff.1 k6
     obtain⟨q3,q4⟩:=List.getElem?_eq_some_iff.1 m6
     have:=(List.getElem_inj hn).1 (q2.trans q4.symm)
     exact hne (by rw[this])
  rw[k3,m3] at hbb
  obtain⟨⟨g,hg1,hg2⟩,s1,s2,s3⟩:=hr.sep i1 i2 o1 o2 k1 m1 hii (by rw[←Tg k2];exact hown) hbb
  obtain⟨e1,e2⟩:=Zf k2 hg1
  obtain⟨e3,_⟩:=Zf m2 hg2
  obtain⟨g',hg'⟩:=Option.isSome_iff_exists.1 e2
  rw[hg'] at e1 e3
  exact⟨⟨g',e1.symm,e3.symm⟩,by rw[Tg m2];exact s1,by rw[k3,m3];exact s2,by rw[k3,m3];exact s3⟩
 ·obtain⟨i,o,h1,h2,h3,_⟩:=orig j x hx
  exact⟨i,o,h1,by rw[←Tg h2];exact hown,by rw[←h3];exact hk⟩
mutual
def pW:AV→List Nat
 | .lit _=>[]
 | .ptr i _ | .sl i _ _ _ _ | .mp i | .yld i=>[i]
 | .fn _ a b=>dM a++dM b
 | .agg a | .tup a=>dM a
def dM:List AV→List Nat
 | []=>[]
 | a::r=>pW a++dM r
end
def sV:AObj→List Nat
 | .cells none _ cs=>dM cs
 | .cells (some g) _ cs=>dM cs++[g]
 | .map es _=>es.flatMap fun x=>pW x.1++pW x.2.1
 | .iter mid _ _ _=>[mid]
 | _=>[]
def reach (h:Hp)(n0:Nat):Nat→List Nat→List Nat→List Nat
 | 0,_,acc=>acc
 | _+1,[],acc=>acc
 | k+1,i::todo,acc=>match Nat.blt i n0||acc.contains i with
  | true=>reach h n0 k todo acc
  | false=>match h.get i with
   | some o=>reach h n0 k (todo++sV o) (acc++[i])
   | none=>reach h n0 k todo acc
def canon (n0:Nat)(v:AV)(st:St):AV × St :=
 match Nat.beq st.n n0 with
 | true=>(v,st)
 | false =>
  let ord:=reach st.h n0 4000 (pW v++(st.h.filter fun x=>Nat.blt x.1 n0&&!(rP n0 x.2)).flatMap fun x=>sV x.2) []
  match decide ord.Nodup&&ord.all (Nat.ble n0) with
  | false=>(v,st)
  | true=>match renV (rho n0 ord) v,renOld (rho n0 ord) n0 st.h,Gq (rho n0 ord) st.h n0 ord with
   | some v',some a,some b=>(v',⟨b++a,n0+ord.length⟩)
   | _,_,_=>(v,st)
end Go.Ev
namespace Go.Ev
section
variable {P:Program}{b:Frame}{a:Act}{k:List Item}{cs:List Frame}{w:World}
theorem Cn {c:Code}:step P (lone (b.atR a (.code (.scope c)::k)) cs w)=.next (lone (b.atR a (.code c::.inScope c::k)) cs w) :=
 step_lone_go (by simp[stepG,stepG.exec,Frame.atR])
theorem Jq {c:Code}:step P (lone (b.atR a (.inScope c::k)) cs w)=.next (lone (b.atR a k) cs w) :=
 step_lone_go (by simp[stepG,stepG.exec,Frame.atR])
end
def cS (Q:Exit→Fm→St→Prop):Exit→Fm→St→Prop
 | .goto _,_,_=>False
 | e,f,st=>Q e f st
theorem SW.scope {P:Program}{rd:Option Nat}{c:Code}{Q:Exit→Fm→St→Prop}{f:Fm}{st:St}(h:SW P rd c (cS Q) f st):SW P rd (.scope c) Q f st:=by
 intro φ w a n h1 h2 h3 b k cs hro hb hr
 have h0:(lone (b.atR a (.code (.scope c)::k)) cs w).fenced P (FW (rdB φ rd)):=fenced_calm hb hr rfl
 obtain⟨e,a₁,w₁,hq,harr⟩:=h φ w a n h1 h2 h3 b (.inScope c::k) cs hro hb hr
 obtain⟨f',st',φ',hk,r⟩:=hq
 cases e with
 | normal=>exact⟨.normal,a₁,w₁,⟨f',st',φ',hk,r⟩,.head h0 Cn (StepsIn.trans harr (.one (fenced_calm hb hr rfl) Jq))⟩
 | exit id =>
  have hx:exitTo id (.inScope c::k)=exitTo id k:=by simp[exitTo]
  exact⟨.exit id,a₁,w₁,⟨f',st',φ',hk,r⟩,fun k' hk=>.head h0 Cn (harr.1 k' (by rw[hx];exact hk)),
   fun hr' hk=>let ⟨k₁,h1,h2⟩:=harr.2 hr' (by rw[hx];exact hk);⟨k₁,h1,.head h0 Cn h2⟩⟩
 | goto l=>exact hk.elim
 | ret=>exact⟨_,a₁,w₁,⟨f',st',φ',hk,r⟩,.of_steps (.one h0 Cn) harr⟩
 | panic ch=>exact⟨_,a₁,w₁,⟨f',st',φ',hk,r⟩,.of_steps (.one h0 Cn) harr⟩
 | outgrown=>exact⟨_,a₁,w₁,⟨f',st',φ',hk,r⟩,.of_steps (.one h0 Cn) harr⟩
end Go.Ev
namespace Go.Ev
section
variable {P:Program}
theorem SW.relabel {rd:Option Nat}{c:Code}{Q Q':Exit→Fm→St→Prop}{f:Fm}{st:St}(h:SW P rd c Q f st)
  (hq:∀ e f' st',Q e f' st'→Q' e f' st'∨∃ (ord:List Nat)(ts':List AV)(a b:Hp),ord.Nodup∧(∀ i∈ord,st.n≤i)∧(∀ d∈f'.dm,d<st.n)∧renL (rho st.n ord) f'.ts=some ts' ∧
   renOld (rho st.n ord) st.n st'.h=some a∧Gq (rho st.n ord) st'.h st.n ord=some b∧Q' e ⟨ts',f'.dm⟩ ⟨b++a,st.n+ord.length⟩):SW P rd c Q' f st:=by
 intro φ w a n h1 h2 h3
 refine wpIn_mono (h φ w a n h1 h2 h3) fun e a' w' hl=>?_
 obtain⟨f',st',φ',hk,hex,hrel,hact,hfr⟩:=hl
 rcases hq e f' st' hk with hk|⟨ord,ts',ha,hb,k1,k2,k3,k4,k5,k6,k7⟩
 ·exact⟨f',st',φ',hk,hex,hrel,hact,hfr⟩
 ·obtain⟨m1,m2⟩:=Tf hrel k1 k2 k5 k6
  refine⟨_,_,phi st.n ord φ',k7,⟨?_,fun id hid=>?_⟩,m1,⟨Hs (Xd st.n ord φ') k4 hact.ts,?_,fun id hid=>?_⟩,⟨hfr.os,hfr.tape,hfr.output,hfr.size,hfr.block,fun k hk=>hfr.own k (m2 k hk)⟩⟩
  ·rw[h2.n];unfold phi;simp only;omega
  ·rw[Lh (by rw[←h2.n];exact hid)];exact hex.f id hid
  ·rw[hact.dm]
   exact List.map_congr_left fun id hid=>by rw[Lh (k3 id hid)]
  ·have:=k3 id hid;unfold phi;simp only;omega
def canonF (n0:Nat)(x:TF × St):TF × St :=
 match Nat.beq x.2.n n0 with
 | true=>x
 | false =>
  let ts:=x.1.abs.ts
  let ord:=reach x.2.h n0 4000 (dM ts++(x.2.h.filter fun y=>Nat.blt y.1 n0&&!(rP n0 y.2)).flatMap fun y=>sV y.2) []
  match (decide ord.Nodup&&ord.all (Nat.ble n0))&&(x.1.dm.all fun d=>Nat.blt d n0) with
  | false=>x
  | true=>match renL (rho n0 ord) ts,renOld (rho n0 ord) n0 x.2.h,Gq (rho n0 ord) x.2.h n0 ord with
   | some ts',some a,some b=>({ TF.of ts' 0 with dm:=x.1.dm},⟨b++a,n0+ord.length⟩)
   | _,_,_=>x
theorem jM {n0:Nat}{x:TF × St}(hx:x.1.ok):(canonF n0 x).1.ok∧(canonF n0 x=x∨∃ (ord:List Nat)(ts':List AV)(a b:Hp),ord.Nodup∧(∀ i∈ord,n0≤i)∧(∀ d∈x.1.abs.dm,d<n0)∧renL (rho n0 ord) x.1.abs.ts=some ts' ∧
   renOld (rho n0 ord) n0 x.2.h=some a∧Gq (rho n0 ord) x.2.h n0 ord=some b∧(canonF n0 x).1.abs=⟨ts',x.1.abs.dm⟩∧(canonF n0 x).2=⟨b++a,n0+ord.length⟩):=by
 unfold canonF
 split
 ·exact⟨hx,.inl rfl⟩
 ·simp only
  generalize reach x.2.h n0 4000 _ []=ord
  split
  ·exact⟨hx,.inl rfl⟩
  ·rename_i hc
   simp only [Bool.and_eq_true,decide_eq_true_eq,List.all_eq_true] at hc
   split
   ·rename_i ts' a b h1 h2 h3
    have hlen:ts'.length=x.1.len:=by rw[Tj h1];simp[TF.abs]
    have hbig:max ts'.length 0≤Kr:=by rw[hlen];unfold TF.ok at hx;omega
    refine⟨hbig,.inr ⟨ord,ts',a,b,hc.1.1,fun i hi=>Nat.le_of_ble_eq_true (hc.1.2 i hi),fun d hd=>Nat.le_of_ble_eq_true (hc.2 d hd),h1,h2,h3,?_,rfl⟩⟩
    have:=TF.oF hbig
    show(⟨(TF.of ts' 0).abs.ts,x.1.dm⟩:Fm)=_
    rw[this]
    simp[TF.abs]
   ·exact⟨hx,.inl rfl⟩
def dedupF:List (TF × St)→List (TF × St)
 | []=>[]
 | x::r=>let r':=dedupF r;if r'.any fun y=>avsEq x.1.abs.ts y.1.abs.ts&&(x.1.dm == y.1.dm)&&oU x.2 y.2 then r' else x::r'
theorem Ok:∀ {l:List (TF × St)}{x:TF × St},x∈l→∃ y∈dedupF l,y.1.abs=x.1.abs∧y.2=x.2
 | z::r,x,h=>by
  simp only [dedupF]
  split
  ·rename_i hany
   rcases List.mem_cons.1 h with rfl|h
   ·rw[List.any_eq_true] at hany
    obtain⟨y,hy,he⟩:=hany
    simp only [Bool.and_eq_true,beq_iff_eq] at he
    refine⟨y,hy,?_,(eN he.2).symm⟩
    have h1:=Jc he.1.1
    have h2:y.1.abs.dm=x.1.abs.dm:=he.1.2.symm
    generalize x.1.abs=A at h1 h2
    generalize y.1.abs=B at h1 h2
    cases A;cases B
    simp only at h1 h2
    rw[h1,h2]
   ·exact Ok h
  ·rcases List.mem_cons.1 h with rfl|h
   ·exact⟨x,List.mem_cons_self,rfl,rfl⟩
   ·obtain⟨y,h1,h2⟩:=Ok h
    exact⟨y,List.mem_cons_of_mem _ h1,h2⟩
 | [],_,h=>by cases h
theorem Ou:∀ {l:List (TF × St)}{x:TF × St},x∈dedupF l→x∈l
 | z::r,x,h=>by
  simp only [dedupF] at h
  split at h
  ·exact List.mem_cons_of_mem _ (Ou h)
  ·rcases List.mem_cons.1 h with rfl|h
   ·exact List.mem_cons_self
   ·exact List.mem_cons_of_mem _ (Ou h)
def mergeF (n0:Nat)(l:List (TF × St)):List (TF × St):=match l with
 | []=>[]
 | [x]=>[x]
 | l=>dedupF (l.map (canonF n0))
theorem SW.merge {rd:Option Nat}{c:Code}{K:Exit→Fm→St→Prop}{f:Fm}{st:St}{l:List (TF × St)}(h:SW P rd c (fun e f' st'=>e=.normal∧∃ x∈l,x.1.ok∧f'=x.1.abs∧st'=x.2) f st)
  (hk:∀ x∈mergeF st.n l,x.1.ok→K .normal x.1.abs x.2):SW P rd c K f st:=by
 by_cases hl:mergeF st.n l=dedupF (l.map (canonF st.n))
 ·rw[hl] at hk
  refine h.relabel fun e f' st' ⟨he,x,hx,hok,hf,hs⟩=>?_
  subst he;subst hf;subst hs
  obtain⟨h1,h2⟩:=jM (n0:=st.n) hok
  obtain⟨y,hy,hy1,hy2⟩:=Ok (List.mem_map_of_mem (f:=canonF st.n) hx)
  have hyok:y.1.ok:=by
   obtain⟨z,hz,hzy⟩:=List.mem_map.1 (Ou hy)
   have hlen:y.1.abs.ts.length=(canonF st.n x).1.abs.ts.length:=by rw[hy1]
   simp only [TF.abs,List.length_map,List.length_range] at hlen
   unfold TF.ok at *
   rw[hlen];exact h1
  have hkk:=hk y hy hyok
  rw[hy1,hy2] at hkk
  rcases h2 with h2|⟨ord,ts',a,b,k1,k2,k3,k4,k5,k6,k7,k8⟩
  ·rw[h2] at hkk;exact .inl hkk
  ·rw[k7,k8] at hkk
   exact .inr ⟨ord,ts',a,b,k1,k2,k3,k4,k5,k6,hkk⟩
 ·have hsame:mergeF st.n l=l:=by
   unfold mergeF at hl ⊢
   split
   ·rfl
   ·rfl
   ·exact absurd (by split<;>first|rfl|simp_all) hl
  rw[hsame] at hk
  refine h.mono fun e f' st' ⟨he,x,hx,hok,hf,hs⟩=>?_
  subst he;subst hf;subst hs
  exact hk x hx hok
end
end Go.Ev
namespace Go.Ev
abbrev Dt:=Exit × TF × St
def iterT (body:TF→St→Option (List Dt)):Nat→TF→St→Option (List Dt)
 | 0,_,_=>none
 | n+1,f,st=>match body f st with
  | none=>none
  | some outs=>bindL outs fun x=>match x with
   | (.normal,f',st')=>iterT body n f' st'
   | (e,f',st')=>some [(e,f',st')]
def rangeT (lid:Nat)(f:TF)(st:St):Option (List Dt) :=
 match loopAt st lid with
 | none=>none
 | some r=>match r.state with
  | .busy=>none
  | _=>match r.pending with
   | none=>some [(.normal,f,Bl st lid { r with state:=.exhausted})]
   | some c=>match jumpE c with
    | some e=>some [(e,f,Bl st lid { r with state:=.exhausted})]
    | none=>none
section
variable (T:Ti)(X:St→(Operand→AV)→Oper→Option (List (AV × St)))(call:Dw)(L:Nat)
def Tq (x:TF × St):Dt:=(.normal,x.1,x.2)
def blockT (id:Nat)(x:Dt):Dt:=match x with
 | (.exit id',f',st')=>if id'=id then(.normal,f',st') else(.exit id',f',st')
 | y=>y
def fI (x:Dt):Bool:=match x with
 | (.goto _,_,_)=>false
 | _=>true
def evCode2 (rd:Option Nat):Code→TF→St→Option (List Dt)
 | .skip,f,st=>some [(.normal,f,st)]
 | .label _,f,st=>some [(.normal,f,st)]
 | .exit id,f,st=>some [(.exit id,f,st)]
 | .ret,f,st=>some [(.ret,f,st)]
 | .seq a b,f,st=>match evCode2 rd a f st with
  | none=>none
  | some outs=>bindL outs fun x=>match x with
   | (.normal,f',st')=>evCode2 rd b f' st'
   | (e,f',st')=>some [(e,f',st')]
 | .cond c a b,f,st=>match f.av c with
  | .lit (.bool true)=>evCode2 rd a f st
  | .lit (.bool false)=>evCode2 rd b f st
  | _=>none
 | .block id c,f,st=>match evCode2 rd c f st with
  | none=>none
  | some outs=>some (outs.map (blockT id))
 | .loop c,f,st=>iterT (evCode2 rd c) L f st
 | .scope c,f,st=>match evCode2 rd c f st with
  | none=>none
  | some outs=>match outs.all fI with
   | true=>some outs
   | false=>none
 | .region _ ops true,f,st=>(evDrawn2 T X call ops (Dr ops) ops.size [] (Ns ops (Dr ops)) 0 f st).map fun l=>(mergeF st.n l).map Tq
 | .region _ ops false,f,st=>(evOps2 T X call ops ops.toList f st).map fun l=>l.map Tq
 | .rangeFunc g ps assign body,f,st=>match f.av g with
  | .fn (.func gf) first caps=>match rd with
   | none=>match call (.fn (.func gf) first caps) [.yld (st.n+1)] ((st.push .dfr).push (.loop { state:=.ready,pending:=none,tmps:=f.abs.ts,params:=ps,assign,body,dfid:=st.n})) with
    | none=>none
    | some outs=>bindL outs fun x=>rangeT (st.n+1) { f with dm:=st.n::f.dm} x.2
   | some id0=>match loopAt st id0 with
    | none=>none
    | some r0=>match call (.fn (.func gf) first caps) [.yld st.n] (st.push (.loop { state:=.ready,pending:=none,tmps:=f.abs.ts,params:=ps,assign,body,dfid:=r0.dfid})) with
     | none=>none
     | some outs=>bindL outs fun x=>rangeT st.n f x.2
  | _=>none
 | _,_,_=>none
end
section
variable {P:Program}{T:Ti}{X:St→(Operand→AV)→Oper→Option (List (AV × St))}{call:Dw}{L:Nat}
theorem SW.oO {rd:Option Nat}{c:Code}{K:Exit→Fm→St→Prop}{body:TF→St→Option (List Dt)}(hb:∀ f st outs,f.ok→body f st=some outs→SW P rd c (fun e f' st'=>∃ tf,tf.ok∧f'=tf.abs∧(e,tf,st')∈outs) f.abs st){n:Nat}{f:TF}{st:St}{outs:List Dt}
  (hf:f.ok)(h:iterT body n f st=some outs)(hk:∀ x∈outs,x.2.1.ok→K x.1 x.2.1.abs x.2.2):SW P rd (.loop c) K f.abs st:=by
 refine SW.loop (fun n f st=>∃ tf outs,f=tf.abs∧tf.ok∧iterT body n tf st=some outs∧∀ x∈outs,x.2.1.ok→K x.1 x.2.1.abs x.2.2) n ⟨f,outs,rfl,hf,h,hk⟩ ?_
 intro n f st ⟨tf,outs,hft,hok,h,hk⟩
 subst hft
 cases n with
 | zero=>cases h
 | succ n =>
  simp only [iterT] at h
  split at h
  ·cases h
  ·rename_i os hos
   refine(hb tf st os hok hos).mono fun e f' st' ⟨tf',hok',hft',hm⟩=>?_
   subst hft'
   obtain⟨x,h1,h2⟩:=Fl h _ hm
   cases e with
   | normal=>exact⟨n,Nat.lt_succ_self n,tf',x,rfl,hok',h1,fun y hy=>hk y (h2 y hy)⟩
   | _=>simp only [Option.some.injEq] at h1;subst h1;exact hk (_,tf',st') (h2 (_,tf',st') (List.mem_singleton.2 rfl)) hok'
theorem Wa {rd:Option Nat}{lid:Nat}{f:TF}{st:St}{outs:List Dt}{Q:Exit→Fm→St→Prop}(h:rangeT lid f st=some outs)(hf:f.ok)(hq:∀ x∈outs,x.2.1.ok→Q x.1 x.2.1.abs x.2.2)(v:AV):Oh P rd lid Q f.abs v st:=by
 unfold rangeT at h
 split at h
 ·cases h
 ·rename_i r hr
  obtain⟨s,pd,tmps,ps,as,bd,df⟩:=r
  simp only at h
  have hs:s≠.busy:=fun e=>by subst e;cases h
  refine⟨_,hr,hs,?_⟩
  have h':(match pd with
   | none=>some [(Exit.normal,f,Bl st lid { state:=.exhausted,pending:=pd,tmps,params:=ps,assign:=as,body:=bd,dfid:=df})]
   | some c=>match jumpE c with
    | some e=>some [(e,f,Bl st lid { state:=.exhausted,pending:=pd,tmps,params:=ps,assign:=as,body:=bd,dfid:=df})]
    | none=>none)=some outs:=by
   cases s
   case busy=>exact absurd rfl hs
   all_goals (cases pd with
    | none=>exact h
    | some c=>simp only at h ⊢;cases hj:jumpE c<;>rw[hj] at h<;>exact h)
  cases pd with
  | none =>
   simp only [Option.some.injEq] at h'
   subst h'
   exact hq (.normal,_,_) (List.mem_singleton.2 rfl) hf
  | some c =>
   simp only at h' ⊢
   cases he:jumpE c with
   | none=>rw[he] at h';cases h'
   | some e =>
    rw[he] at h'
    simp only [Option.some.injEq] at h'
    subst h'
    have:=hq (e,_,_) (List.mem_singleton.2 rfl) hf
    unfold jumpE at he
    split at he
    ·cases he;exact .ret this
    ·cases he;exact .exit this
    ·cases he
end
def retT (T:Ti)(fn:Func)(n0:Nat)(x:Dt):Option (List (AV × St)) :=
 match x with
 | (.normal,f,st)|(.ret,f,st)=>match killA f.dm st with
  | none=>none
  | some st'=>match resA T fn.results f.abs st' with
   | none=>none
   | some v=>some [canon n0 v st']
 | _=>none
def roundT (id:Nat)(x:Dt):Option (List (AV × St)) :=
 match x with
 | (.normal,_,st)=>match loopAt st id with
  | some r=>some [(.lit (.bool true),Bl st id { r with state:=.ready,pending:=none})]
  | none=>none
 | (.ret,_,st)=>match loopAt st id with
  | some r=>some [(.lit (.bool false),Bl st id { r with state:=.done,pending:=some .ret})]
  | none=>none
 | (.exit e,_,st)=>match loopAt st id with
  | some r=>some [(.lit (.bool false),Bl st id { r with state:=.done,pending:=some (.exit e) })]
  | none=>none
 | _=>none
section
variable (T:Ti)(X:St→(Operand→AV)→Oper→Option (List (AV × St)))(L:Nat)(G:FuncId→Option Func)(C:FuncId→List AV→St→Option (List (AV × St)))
def evApply2:Nat→Dw
 | 0,_,_,_=>none
 | n+1,c,args,st=>match c with
  | .fn (.func g) first caps=>match C g (first++args++caps) st with
   | some outs=>some outs
   | none=>match G g with
    | none=>none
    | some fn=>match fn.body with
     | none=>none
     | some b=>match Nat.ble (max (first++args++caps).length fn.ntmps) Kr with
      | false=>none
      | true=>match evCode2 T X (evApply2 n) L none b (TF.of (first++args++caps) fn.ntmps) st with
       | none=>none
       | some outs=>(bindL outs (retT T fn st.n)).map dedup
  | .yld id=>match loopAt st id with
   | none=>none
   | some r=>if(args.length == r.params.size&&Nat.ble (max (setPs r.tmps (r.params.toList.zip args)).length 0) Kr)&&(tidyC r.assign&&tidyC r.body) then
     match evCode2 T X (evApply2 n) L (some id) r.assign (TF.of (setPs r.tmps (r.params.toList.zip args)) 0) st with
     | none=>none
     | some outs=>bindL outs fun x=>match x with
      | (.normal,f1,st1)=>match loopAt st1 id with
       | none=>none
       | some r1=>if Ip r1.state&&tidyC r.body then
         match evCode2 T X (evApply2 n) L (some id) r.body f1 (Bl st1 id { r1 with state:=.busy}) with
         | none=>none
         | some o2=>bindL o2 (roundT id)
        else none
      | _=>none
    else none
  | _=>none
end
section
variable {P:Program}{T:Ti}{X:St→(Operand→AV)→Oper→Option (List (AV × St))}{L:Nat}{G:FuncId→Option Func}{C:FuncId→List AV→St→Option (List (AV × St))}
end
end Go.Ev
namespace Go.Ev
inductive Pa where
 | here
 | l (p:Pa)
 | r (p:Pa)
def pthF:Nat→Nat→Pa
 | 0,_=>.here
 | n+1,i=>match Nat.beq i 0 with
  | true=>.here
  | false=>match Nat.beq (i%2) 1 with
   | true=>.l (pthF n (i/2))
   | false=>.r (pthF n (i/2-1))
def pth (i:Nat):Pa:=pthF 20 i
noncomputable def Tr.vl (t:Tr):AV:=@Tr.rec (fun _=>AV) Bx (fun v _ _ _ _=>v) t
noncomputable def Tr.lf (t:Tr):Tr:=@Tr.rec (fun _=>Tr) .nil (fun _ l _ _ _=>l) t
noncomputable def Tr.rt (t:Tr):Tr:=@Tr.rec (fun _=>Tr) .nil (fun _ _ r _ _=>r) t
noncomputable def goP (p:Pa):Tr→AV:=@Pa.rec (fun _=>Tr→AV) (fun t=>t.vl) (fun _ ih t=>ih t.lf) (fun _ ih t=>ih t.rt) p
noncomputable def seP (p:Pa):AV→Tr→Tr:=@Pa.rec (fun _=>AV→Tr→Tr) (fun x t=>.node x t.lf t.rt) (fun _ ih x t=>.node t.vl (ih x t.lf) t.rt) (fun _ ih x t=>.node t.vl t.lf (ih x t.rt)) p
theorem Xs:∀ (n:Nat)(t:Tr)(i:Nat),i+1<2^n→goP (pthF n i) t=t.get i:=by
 intro n
 induction n with
 | zero=>intro t i h;simp at h
 | succ n ih =>
  intro t i h
  have hp:2^(n+1)=2*2^n:=by rw[Nat.pow_succ];omega
  rw[hp] at h
  have nilE:∀ p,goP p .nil=Bx:=fun p=>by induction p with
   | here=>rfl
   | l p ihp=>exact ihp
   | r p ihp=>exact ihp
  cases t with
  | nil=>rw[nilE];simp[Tr.get]
  | node v l r =>
   simp only [pthF,Tr.get]
   cases hi:Nat.beq i 0 with
   | true=>rfl
   | false =>
    have hi:=Nat.ne_of_beq_eq_false hi
    cases hm:Nat.beq (i%2) 1 with
    | true=>exact ih l (i/2) (by have:=Nat.eq_of_beq_eq_true hm;omega)
    | false=>exact ih r (i/2-1) (by have:=Nat.ne_of_beq_eq_false hm;omega)
theorem sE:∀ (n:Nat)(t:Tr)(i:Nat)(x:AV),i+1<2^n→seP (pthF n i) x t=Tr.set n t i x:=by
 intro n
 induction n with
 | zero=>intro t i x h;simp at h
 | succ n ih =>
  intro t i x h
  have hp:2^(n+1)=2*2^n:=by rw[Nat.pow_succ];omega
  rw[hp] at h
  cases t with
  | nil =>
   simp only [pthF,Tr.set]
   cases hi:Nat.beq i 0 with
   | true=>rfl
   | false =>
    have hi:=Nat.ne_of_beq_eq_false hi
    cases hm:Nat.beq (i%2) 1 with
    | true =>
     simp only
     rw[←ih .nil (i/2) x (by have:=Nat.eq_of_beq_eq_true hm;omega)]
     rfl
    | false =>
     simp only
     rw[←ih .nil (i/2-1) x (by have:=Nat.ne_of_beq_eq_false hm;omega)]
     rfl
  | node v l r =>
   simp only [pthF,Tr.set]
   cases hi:Nat.beq i 0 with
   | true=>rfl
   | false =>
    have hi:=Nat.ne_of_beq_eq_false hi
    cases hm:Nat.beq (i%2) 1 with
    | true =>
     simp only
     rw[←ih l (i/2) x (by have:=Nat.eq_of_beq_eq_true hm;omega)]
     rfl
    | false =>
     simp only
     rw[←ih r (i/2-1) x (by have:=Nat.ne_of_beq_eq_false hm;omega)]
     rfl
inductive Ar where
 | t (d:Nat)(p:Pa)
 | c (v:AV)
def compA (x:Operand):Option Ar:=match x with
 | .tmp t=>match Nat.blt t 1048575 with
  | true=>some (.t t (pth t))
  | false=>none
 | .const v=>some (.c (ofV v))
 | .global g=>some (.c (.lit (.pointer (some ⟨g,0,none⟩))))
 | .func g=>some (.c (.fn (.func g) [] []))
noncomputable def Ar.ev (a:Ar)(f:TF):AV:=@Ar.rec (fun _=>AV) (fun d p=>@TF.rec (fun _=>AV) (fun t len _=>@Bool.rec (fun _=>AV) Bx (goP p t) (Nat.blt d len)) f) (fun v=>v) a
theorem By {x:Operand}{a:Ar}(h:compA x=some a)(f:TF):a.ev f=f.av x:=by
 unfold compA at h
 split at h
 ·rename_i t
  split at h
  ·rename_i ht
   cases h
   have hlt : @LT.lt Nat _ t 1048575:=Nat.le_of_ble_eq_true ht
   obtain⟨tr,len,dm⟩:=f
   simp only [TF.av,TF.at,Ar.ev,pth]
   rw[Xs 20 tr t (by omega)]
   cases Nat.blt t len<;>rfl
  ·cases h
 ·cases h;rfl
 ·cases h;rfl
 ·cases h;rfl
def compL:List Operand→Option (List Ar)
 | []=>some []
 | x::l=>match compA x,compL l with
  | some a,some r=>some (a::r)
  | _,_=>none
noncomputable def mM (f:TF)(l:List Ar):List AV:=@List.rec Ar (fun _=>List AV) [] (fun a _ ih=>a.ev f::ih) l
theorem Qc:∀ {l:List Operand}{as:List Ar},compL l=some as→∀ f,mM f as=l.map f.av
 | [],as,h,f=>by cases h;rfl
 | x::l,as,h,f=>by
  simp only [compL] at h
  split at h
  ·rename_i a r ha hr
   cases h
   show a.ev f::mM f r=_
   rw[By ha,Qc hr];rfl
  ·cases h
inductive De where
 | n
 | d (k:Nat)(p:Pa)
 | g (k:Nat)
def compD (x:Option Tmp):De:=match x with
 | none=>.n
 | some k=>match Nat.blt k 1048575 with
  | true=>.d k (pth k)
  | false=>.g k
noncomputable def Zj (d:De)(f:TF)(v:AV):TF:=@De.rec (fun _=>TF) f (fun k p=>@TF.rec (fun _=>TF) (fun t len dm=>@Bool.rec (fun _=>TF) ⟨t,len,dm⟩ ⟨seP p v t,len,dm⟩ (Nat.blt k len)) f) (fun k=>f.put (some k) v) d
theorem eV (x:Option Tmp)(f:TF)(v:AV):Zj (compD x) f v=f.put x v:=by
 unfold compD
 split
 ·rfl
 ·rename_i k
  split
  ·rename_i hk
   have hlt : @LT.lt Nat _ k 1048575:=Nat.le_of_ble_eq_true hk
   obtain⟨tr,len,dm⟩:=f
   simp only [Zj,TF.put,pth]
   rw[sE 20 tr k v (by omega)]
   cases Nat.blt k len<;>rfl
  ·rfl
noncomputable def Xk {α:Type}(l:List α):Nat→Option α:=@List.rec α (fun _=>Nat→Option α) (fun _=>none) (fun a _ ih n=>@Bool.rec (fun _=>Option α) (ih (n-1)) (some a) (Nat.beq n 0)) l
theorem Pn {α:Type}:∀ (l:List α)(n:Nat),Xk l n=l[n]?
 | [],n=>by simp[Xk]
 | a::l,0=>rfl
 | a::l,n+1=>by
  show Xk l (n+1-1)=_
  rw[Pn l];simp
noncomputable def Nm {α:Type}(l:List α):Nat:=@List.rec α (fun _=>Nat) 0 (fun _ _ ih=>Nat.succ ih) l
theorem Lj {α:Type}:∀ (l:List α),Nm l=l.length
 | []=>rfl
 | a::l=>by show Nat.succ (Nm l)=_;rw[Lj l];rfl
noncomputable def gB {α:Type}(l:List α):Nat→List α:=@List.rec α (fun _=>Nat→List α) (fun _=>[]) (fun a r ih n=>@Bool.rec (fun _=>List α) (ih (n-1)) (a::r) (Nat.beq n 0)) l
theorem bO {α:Type}:∀ (l:List α)(n:Nat),gB l n=l.drop n
 | [],n=>by simp[gB]
 | a::l,0=>rfl
 | a::l,n+1=>by
  show gB l (n+1-1)=_
  rw[bO l];simp
noncomputable def eM {α:Type}(l:List α):Nat→List α:=@List.rec α (fun _=>Nat→List α) (fun _=>[]) (fun a _ ih n=>@Bool.rec (fun _=>List α) (a::ih (n-1)) [] (Nat.beq n 0)) l
theorem Ys {α:Type}:∀ (l:List α)(n:Nat),eM l n=l.take n
 | [],n=>by simp[eM]
 | a::l,0=>rfl
 | a::l,n+1=>by
  show a::eM l (n+1-1)=_
  rw[Ys l];simp
noncomputable def Yz {α:Type}(l:List α):Nat→α→List α:=@List.rec α (fun _=>Nat→α→List α) (fun _ _=>[]) (fun a r ih n x=>@Bool.rec (fun _=>List α) (a::ih (n-1) x) (x::r) (Nat.beq n 0)) l
theorem Sb {α:Type}:∀ (l:List α)(n:Nat)(x:α),Yz l n x=l.set n x
 | [],n,x=>by simp[Yz]
 | a::l,0,x=>rfl
 | a::l,n+1,x=>by
  show a::Yz l (n+1-1) x=_
  rw[Sb l];simp
noncomputable def Yx {α:Type}(xs:List α):List α→Nat→List α:=@List.rec α (fun _=>List α→Nat→List α) (fun cs _=>cs) (fun x _ ih cs off=>ih (Yz cs off x) (off+1)) xs
theorem Sz {α:Type}:∀ (xs cs:List α)(off:Nat),Yx xs cs off=setsL cs off xs
 | [],cs,off=>rfl
 | x::xs,cs,off=>by
  show Yx xs (Yz cs off x) (off+1)=_
  rw[Sz xs,Sb];rfl
noncomputable def Bw (h:Hp):Nat→Option AObj:=fun id=>@List.rec (Nat × AObj) (fun _=>Option AObj) none (fun x _ ih=>@Bool.rec (fun _=>Option AObj) ih (some x.2) (Nat.beq x.1 id)) h
theorem gG {α:Type}(i j:Nat)(a b:α) : @Bool.rec (fun _=>α) b a (Nat.beq i j)=if i=j then a else b:=by
 by_cases h:i=j
 ·subst h;simp
 ·have:Nat.beq i j=false:=by
   cases hb:Nat.beq i j with
   | false=>rfl
   | true=>exact absurd (Nat.eq_of_beq_eq_true hb) h
  rw[this,if_neg h]
theorem Jk:∀ (h:Hp)(id:Nat),Bw h id=h.get id
 | [],id=>rfl
 | (i,o)::r,id=>by
  show @Bool.rec (fun _=>Option AObj) (Bw r id) (some o) (Nat.beq i id)=_
  rw[gG,Jk r];rfl
noncomputable def Vh (h:Hp):Nat→AObj→Hp:=fun id o=>@List.rec (Nat × AObj) (fun _=>Hp) [] (fun x r ih=>@Bool.rec (fun _=>Hp) (x::ih) ((x.1,o)::r) (Nat.beq x.1 id)) h
theorem Pv:∀ (h:Hp)(id:Nat)(o:AObj),Vh h id o=h.set id o
 | [],id,o=>rfl
 | (i,x)::r,id,o=>by
  show @Bool.rec (fun _=>Hp) ((i,x)::Vh r id o) ((i,o)::r) (Nat.beq i id)=_
  rw[gG,Pv r];rfl
noncomputable def Vn {α:Type}(p:α→Bool)(l:List α):Bool:=@List.rec α (fun _=>Bool) true (fun a _ ih=>@Bool.rec (fun _=>Bool) false ih (p a)) l
theorem Ib {α:Type}(p:α→Bool):∀ l:List α,Vn p l=l.all p
 | []=>rfl
 | a::l=>by
  show @Bool.rec (fun _=>Bool) false (Vn p l) (p a)=_
  rw[Ib p l,List.all_cons]
  cases p a<;>rfl
end Go.Ev
namespace Go.Ev
inductive Kl where
 | mv (x:Ar)
 | ld1 (x:Ar)
 | lda (n:Nat)(x:Ar)
 | fa (off:Nat)(x:Ar)
 | fd1 (off:Nat)(x:Ar)
 | fda (n off:Nat)(x:Ar)
 | ixs (sz:Nat)(x ix:Ar)
 | ixa (len sz:Nat)(x ix:Ar)
 | bi (op:BinOp)(x y:Ar)
 | ex (x:Ar)(i:Nat)
 | nt (x:Ar)
 | ln (x:Ar)
 | mf (fn:Fn)(a b:List Ar)
 | pk (c a b:Ar)
 | bd (zs:List AV)(ps:List (Nat × Nat × Ar))
 | gen
 | hv
section
variable (T:Ti)
def partK (t:TypeId):Option (Option Nat):=match T t with
 | some i=>if aggD i.desc then some (some i.size) else some none
 | none=>none
def fieldK (s:TypeId)(f:Nat):Option Field:=match T s with
 | some i=>match i.desc with
  | .struct fs=>fs[f]?
  | _=>none
 | none=>none
def compP (places:Nat→Option (Nat × Nat)):List (Nat × Operand)→Option (List (Nat × Nat × Ar))
 | []=>some []
 | p::l=>match places p.1,compA p.2,compP places l with
  | some q,some a,some r=>some ((q.1,q.2,a)::r)
  | _,_,_=>none
def Jt (i:TI):Nat→Option (Nat × Nat):=match i.desc with
 | .struct fs=>match placesA T fs.toList with
  | some places=>fun k=>places[k]?
  | none=>fun _=>none
 | .array _ e=>match T e with
  | some j=>fun k=>some (k*j.size,j.size)
  | none=>fun _=>none
 | _=>fun _=>none
def compU (o:Op):Kl:=match o with
 | .pick c x y=>match compA c,compA x,compA y with
  | some c,some a,some b=>.pk c a b
  | _,_,_=>.gen
 | .build t ps=>match ps.toList with
  | []=>.gen
  | p::l=>match T t with
   | some i=>match compP (Jt T i) (p::l) with
    | some r=>.bd (i.zero.map .lit) r
    | none=>.gen
   | none=>.gen
 | .move x | .assign x=>match compA x with
  | some a=>.mv a
  | none=>.gen
 | .load t x=>match compA x,partK T t with
  | some a,some (some n)=>.lda n a
  | some a,some none=>.ld1 a
  | _,_=>.gen
 | .fieldAddr s x f=>match compA x,fieldK T s f with
  | some a,some fd=>match T fd.type with
   | some j=>match Nat.beq j.size 0 with
    | true=>.gen
    | false=>.fa fd.offset a
   | none=>.gen
  | _,_=>.gen
 | .field s x f=>match compA x,fieldK T s f with
  | some a,some fd=>match partK T fd.type with
   | some (some n)=>.fda n fd.offset a
   | some none=>.fd1 fd.offset a
   | none=>.gen
  | _,_=>.gen
 | .indexAddr t x ix=>match compA x,compA ix,T t with
  | some a,some b,some i=>match i.desc with
   | .slice e=>match T e with
    | some j=>.ixs j.size a b
    | none=>.gen
   | .array len e=>match T e with
    | some j=>.ixa len j.size a b
    | none=>.gen
   | _=>.gen
  | _,_,_=>.gen
 | .binOp op t x y _=>match compA x,compA y with
  | some a,some b=>match T t with
   | some i=>match i.flat&&aggD i.desc with
    | true=>.gen
    | false=>.bi op a b
   | none=>.gen
  | _,_=>.gen
 | .unOp .not _ x=>match compA x with
  | some a=>.nt a
  | none=>.gen
 | .extract x i=>match compA x with
  | some a=>.ex a i
  | none=>.gen
 | .makeFunc f a b=>match compL a.toList,compL b.toList with
  | some a,some b=>.mf f a b
  | _,_=>.gen
 | .alloc _ | .box _ _ | .buildSlice _ _ _ | .makeSlice _ _ _ | .store _ _ _ | .mapUpdate _ _ _ _ | .lookup _ _ _ _ | .makeMap _ _ | .range _ _ | .next _ _ | .entry _=>.hv
 | .call c=>match c.callee with
  | .value _=>.hv
  | .builtin .append=>.hv
  | .builtin .len=>match c.args.toList,c.argTypes.toList with
   | [x],[t]=>match compA x,T t with
    | some a,some i=>match i.desc with
     | .slice _=>.ln a
     | _=>.gen
    | _,_=>.gen
   | _,_=>.gen
  | _=>.gen
 | _=>.gen
end
def compG (ops:Array Oper)(g:Nat × Bool):Option (Nat × Pa × Bool):=match ops[g.1]? with
 | some o=>match o.dst with
  | some d=>match Nat.blt d 1048575 with
   | true=>some (d,pth d,g.2)
   | false=>none
  | none=>none
 | none=>none
def Lq (a:AV):List AV:=match a with
 | .lit (.int k n)=>[.lit (.int k n)]
 | .lit (.bool b)=>[.lit (.bool b)]
 | .agg cs=>cs
 | .lit v=>v.cells.toList.map .lit
 | a=>[a]
theorem Rb (a:AV):Lq a=a.cells:=by
 cases a with
 | lit v=>cases v<;>rfl
 | _=>rfl
def natI (a:AV):Option Nat:=match a with
 | .lit (.int _ (.ofNat n))=>some n
 | _=>none
noncomputable def gD (h:Hp)(id:Nat):Option (List AV):=match Bw h id with
 | some (.cells _ _ cs)=>some cs
 | _=>none
noncomputable def rJ (n off:Nat)(cs:List AV):Option AV:=match Nat.ble (off+n) (Nm cs) with
 | true=>some (.agg (eM (gB cs off) n))
 | false=>none
noncomputable def kLd1 (h:Hp)(a:AV):Option AV:=match a with
 | .ptr id off=>match gD h id with
  | some cs=>Xk cs off
  | none=>none
 | _=>none
noncomputable def pV (h:Hp)(n:Nat)(a:AV):Option AV:=match a with
 | .ptr id off=>match gD h id with
  | some cs=>rJ n off cs
  | none=>none
 | _=>none
def kFa (off:Nat)(a:AV):Option AV:=match a with
 | .ptr id o=>some (.ptr id (o+off))
 | _=>none
noncomputable def kFd1 (off:Nat)(a:AV):Option AV:=match a with
 | .agg cs=>Xk cs off
 | _=>none
noncomputable def xA (n off:Nat)(a:AV):Option AV:=match a with
 | .agg cs=>rJ n off cs
 | _=>none
def kIxs (sz:Nat)(a:AV)(n:Nat):Option AV:=match a with
 | .sl id off len sz' _=>match Nat.blt n len&&Nat.beq sz sz' with
  | true=>some (.ptr id (off+n*sz'))
  | false=>none
 | _=>none
def wZ (len sz:Nat)(a:AV)(n:Nat):Option AV:=match a with
 | .ptr id off=>match Nat.blt n len with
  | true=>some (.ptr id (off+n*sz))
  | false=>none
 | _=>none
def bB (b:Bool):Option AV:=some (.lit (.bool b))
def bI (n:Nat):Option AV:=some (.lit (.int .i64 (.ofNat n)))
def binN (op:BinOp)(m n:Nat):Option AV:=match op with
 | .add=>match Nat.ble (m+n) 4611686018427387904 with
  | true=>bI (m+n)
  | false=>none
 | .sub=>match Nat.ble n m&&Nat.ble m 4611686018427387904 with
  | true=>bI (m-n)
  | false=>none
 | .eql=>bB (Nat.beq m n)
 | .neq=>bB (!Nat.beq m n)
 | .lss=>bB (Nat.blt m n)
 | .leq=>bB (Nat.ble m n)
 | .gtr=>bB (Nat.blt n m)
 | .geq=>bB (Nat.ble n m)
 | _=>none
def nat64 (a:AV):Option Nat:=match a with
 | .lit (.int .i64 (.ofNat n))=>some n
 | _=>none
def kBi (op:BinOp)(a b:AV):Option AV:=match nat64 a with
 | some m=>match nat64 b with
  | some n=>match binN op m n with
   | some r=>some r
   | none=>binA op a b
  | none=>binA op a b
 | none=>binA op a b
noncomputable def kEx (a:AV)(i:Nat):Option AV:=match a with
 | .tup vs=>Xk vs i
 | _=>none
def kNt (a:AV):Option AV:=match a with
 | .lit (.bool b)=>bB (!b)
 | _=>none
def kLn (a:AV):Option AV:=match a with
 | .sl _ _ n _ _=>bI n
 | .lit (.slice _ n _)=>bI n
 | _=>none
def kPk (c a b:AV):Option AV:=match c with
 | .lit (.bool true)=>some a
 | .lit (.bool false)=>some b
 | _=>none
noncomputable def bF (f:TF)(ps:List (Nat × Nat × Ar)):List AV→Option (List AV):=@List.rec (Nat × Nat × Ar) (fun _=>List AV→Option (List AV)) (fun cs=>some cs) (fun p _ ih cs=>match Nat.beq (Nm (Lq (p.2.2.ev f))) p.2.1&&Nat.ble (p.1+p.2.1) (Nm cs) with
 | true=>ih (Yx (Lq (p.2.2.ev f)) cs p.1)
 | false=>none) ps
section
variable (T:Ti)
noncomputable def runK (ops:Array Oper)(h:Hp)(f:TF)(o:Oper)(k:Kl):Option AV:=match k with
 | .mv x=>some (x.ev f)
 | .ld1 x=>kLd1 h (x.ev f)
 | .lda n x=>pV h n (x.ev f)
 | .fa off x=>kFa off (x.ev f)
 | .fd1 off x=>kFd1 off (x.ev f)
 | .fda n off x=>xA n off (x.ev f)
 | .ixs sz x ix=>match natI (ix.ev f) with
  | some n=>kIxs sz (x.ev f) n
  | none=>none
 | .ixa len sz x ix=>match natI (ix.ev f) with
  | some n=>wZ len sz (x.ev f) n
  | none=>none
 | .bi op x y=>kBi op (x.ev f) (y.ev f)
 | .ex x i=>kEx (x.ev f) i
 | .nt x=>kNt (x.ev f)
 | .ln x=>kLn (x.ev f)
 | .mf fn a b=>some (.fn fn (mM f a) (mM f b))
 | .pk c a b=>kPk (c.ev f) (a.ev f) (b.ev f)
 | .bd zs ps=>match bF f ps zs with
  | some cs=>some (.agg cs)
  | none=>none
 | .gen=>evG T h f.av o
 | .hv=>none
noncomputable def want3 (ops:Array Oper)(f:TF)(o:Oper):Bool:=match o.guard with
 | none=>true
 | some g=>match compG ops g with
  | some (d,p,b)=>@Bool.rec (fun _=>Bool) false (match goP p f.t with
   | .lit (.bool c)=>(match b with
    | true=>c
    | false=>!c)
   | _=>false) (Nat.blt d f.len)
  | none=>Jf ops f o
noncomputable def Om (ops:Array Oper)(h:Hp)(f:TF)(o:Oper):Option AV:=match o.guard with
 | none=>runK T ops h f o (compU T o.op)
 | some _=>match want3 ops f o with
  | true=>runK T ops h f o (compU T o.op)
  | false=>some Bx
end
theorem Qf (h:Hp)(id:Nat):gD h id=cellsAt h id:=by
 unfold gD cellsAt
 rw[Jk]
 cases h.get id with
 | none=>rfl
 | some o=>cases o<;>rfl
theorem Zt {a:AV}{n:Nat}(h:nat64 a=some n):a=.lit (.int .i64 (.ofNat n)):=by
 unfold nat64 at h
 split at h
 ·cases h;rfl
 ·cases h
theorem gH (m n:Nat):((Int.ofNat m == Int.ofNat n):Bool)=Nat.beq m n:=by
 rw[Bool.eq_iff_iff,beq_iff_eq]
 exact⟨fun h=>by injection h with h;subst h;exact Nat.beq_refl m,fun h=>by rw[Nat.eq_of_beq_eq_true h]⟩
theorem lK (m n:Nat):decide (Int.ofNat m<Int.ofNat n)=Nat.blt m n:=by
 rw[Bool.eq_iff_iff,decide_eq_true_iff]
 exact⟨fun h=>Nat.ble_eq_true_of_le (Int.ofNat_lt.1 h),fun h=>Int.ofNat_lt.2 (Nat.le_of_ble_eq_true h)⟩
theorem lQ (m n:Nat):decide (Int.ofNat m≤Int.ofNat n)=Nat.ble m n:=by
 rw[Bool.eq_iff_iff,decide_eq_true_iff]
 exact⟨fun h=>Nat.ble_eq_true_of_le (Int.ofNat_le.1 h),fun h=>Int.ofNat_le.2 (Nat.le_of_ble_eq_true h)⟩
theorem xC {n:Nat}(h:n≤4611686018427387904):wrp .i64 (Int.ofNat n)=Int.ofNat n:=by
 have h1:(0:Int)≤Int.ofNat n:=Int.natCast_nonneg n
 have h2:Int.ofNat n≤4611686018427387904:=Int.ofNat_le.2 h
 exact Jo (by simp only [IntKind.lo];omega) (by simp only [IntKind.hi];omega)
theorem rF {op:BinOp}{m n:Nat}{r:AV}(h:binN op m n=some r):binA op (.lit (.int .i64 (.ofNat m))) (.lit (.int .i64 (.ofNat n)))=some r:=by
 cases op<;>simp only [binN,bB,bI] at h
 case add =>
  split at h
  ·rename_i hb
   cases h
   have:=Nat.le_of_ble_eq_true hb
   simp only [binA,if_true]
   rw[show Int.ofNat m+Int.ofNat n=Int.ofNat (m+n) from rfl,xC this]
  ·cases h
 case sub =>
  split at h
  ·rename_i hb
   simp only [Bool.and_eq_true] at hb
   cases h
   have h1:=Nat.le_of_ble_eq_true hb.1
   have h2:=Nat.le_of_ble_eq_true hb.2
   simp only [binA,if_true]
   rw[show Int.ofNat m-Int.ofNat n=Int.ofNat (m-n) from(Int.ofNat_sub h1).symm,xC (Nat.le_trans (Nat.sub_le m n) h2)]
  ·cases h
 case eql=>cases h;simp only [binA,if_true,intCmpB,Option.map_some,gH]
 case neq=>cases h;simp only [binA,if_true,intCmpB,Option.map_some,bne,gH]
 case lss=>cases h;simp only [binA,if_true,intCmpB,Option.map_some,lK]
 case leq=>cases h;simp only [binA,if_true,intCmpB,Option.map_some,lQ]
 case gtr=>cases h;simp only [binA,if_true,intCmpB,Option.map_some,GT.gt,lK]
 case geq=>cases h;simp only [binA,if_true,intCmpB,Option.map_some,GE.ge,lQ]
 all_goals cases h
theorem sU (op:BinOp)(a b:AV):kBi op a b=binA op a b:=by
 unfold kBi
 split
 ·rename_i m hm
  split
  ·rename_i n hn
   split
   ·rename_i r hr
    rw[Zt hm,Zt hn,rF hr]
   ·rfl
  ·rfl
 ·rfl
end Go.Ev
